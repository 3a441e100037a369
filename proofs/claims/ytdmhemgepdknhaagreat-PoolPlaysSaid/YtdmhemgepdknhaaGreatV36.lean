/-
  Texts, put together: PoolDp10.
-/
import Derived.Test.YtdmhemgepdknhaaGreatV1
import Derived.Test.YtdmhemgepdknhaaGreatV34
import Derived.Test.YtdmhemgepdknhaaGreatV35
set_option linter.unusedVariables false
set_option linter.unusedSimpArgs false
namespace Go.Proofs.YtdmhemgepdknhaaGreat
open Go.RowKit Go.Maps

section
variable {w w':World} {b:Nat} {sv av av':Value} {P Q:Pl} {ss sq:List Sec} {la:Nat} {L M:List (Nat × PFr)}
theorem DpAt.stands (h:DpAt w b sv av P ss la L) {p:Nat} {f:PFr} (hf:P.fr p=some f):∃ k:Nat,L[k]?=some (p,f):=List.mem_iff_getElem?.1 ((h.rl.mem p f).2 hf)
theorem dat_is (h:DpAt w b sv av P ss la L) (p:Nat):Calls Tryz.prog 46 #[.pointer (some ⟨b,0,none⟩),.int .i64 (p:Int)] w fun e w'=>w=w'∧∃ j:Int,e=.returned (.int .i64 j)∧((j < 0∧P.fr p=none)∨(¬ j < 0∧∃ f,P.fr p=some f)):=by
  refine (dat_any h (p:Int)).mono ?_
  rintro e w' ⟨rfl,⟨k,x,hx,he,rfl⟩ | ⟨hn,rfl⟩⟩
  · exact ⟨rfl,_,rfl,.inr ⟨by omega,x.2,by
      have:=h.rl.at hx
      rwa [show x.1=p by omega] at this⟩⟩
  · refine ⟨rfl,_,rfl,.inl ⟨by omega,?_⟩⟩
    cases hf:P.fr p with
    | none=>rfl
    | some f=>
      obtain ⟨k,hk⟩:=h.stands hf
      exact absurd rfl (hn k _ hk)
theorem dat_yes (h:DpAt w b sv av P ss la L) {p k:Nat} {f:PFr} (hk:L[k]?=some (p,f)):Calls Tryz.prog 46 #[.pointer (some ⟨b,0,none⟩),.int .i64 (p:Int)] w fun e w'=>e=.returned (.int .i64 (k:Int))∧w'=w:=by
  refine (dat_any h (p:Int)).mono ?_
  rintro e w' ⟨rfl,⟨k2,x,hx,he,rfl⟩ | ⟨hn,rfl⟩⟩
  · rw [h.rl.one hx hk (by show x.1=p;omega)]
    exact ⟨rfl,rfl⟩
  · exact absurd rfl (hn k _ hk)
theorem dfr_some {p:Nat} {f:PFr} (h:P.fr p=some f):P.dfr ss p=(P.use p f,ss):=by unfold Pl.dfr;rw [h]
theorem dfr_none {p:Nat} (h:P.fr p=none):P.dfr ss p=((P.gN P.room).use p (frS (secN ((P.gS P.room ss).getD p Sec.zero))),P.gS P.room ss):=by unfold Pl.dfr;rw [h]
theorem DrI.gr {w0:World} {av0:Value} (h:DrI w0 w b sv av0 av P Q ss sq la L) (g:Gr w w'):DrI w0 w' b sv av0 av P Q ss sq la L:=
  ⟨h.g,h.s,h.at_.gr g,h.cl,h.hin,h.h0,h.h1,h.most,h.held,h.len,h.no,h.up.comp (Upd.of_gr g)⟩
theorem DpAt.allAt (h:DpAt w b sv av P ss la L):allAt w b=L.length:=by
  obtain ⟨p,c,rfl⟩:=h.all.shape
  unfold Go.Proofs.YtdmhemgepdknhaaGreat.allAt
  rw [h.cells.2.1]
theorem FR.gr {v:Value} (h:FR w v L) (g:Gr w w'):FR w' v L:=h.on fun k hk=>g.block k (h.lt k hk)
/-- A row of the call's own. -/
structure Own3 (w0 w:World) (v:Value) (L:List (Nat × PFr)):Prop where
  g:Gr w0 w
  fr:FR w v L
  own:∀ q,v.ownBlock=some q→w0.heap.size≤q
theorem Own3.gr {w0:World} {v:Value} (h:Own3 w0 w v L) (g:Gr w w'):Own3 w0 w' v L:=⟨Gr.trans h.g g,h.fr.gr g,h.own⟩
theorem Own3.app {w0:World} {v v':Value} (h:Own3 w0 w v L) (h1:FR w' v' M) (h2:w.grownBy w' v.ownBlock) (h3:v'.ownBlock=v.ownBlock∨v'.ownBlock=some w.heap.size):Own3 w0 w' v' M:=
  ⟨⟨h2.os.trans h.g.os,h2.tape.trans h.g.tape,h2.output.trans h.g.output,Nat.le_trans h.g.size h2.size,fun k hk=>(h2.block k (Nat.lt_of_lt_of_le hk h.g.size) (fun e=>by have:=h.own k e.symm;omega)).trans (h.g.block k hk)⟩,h1,fun q hq=>by
    rcases h3 with h3 | h3
    · exact h.own q (h3 ▸ hq)
    · rw [h3] at hq;cases hq;exact h.g.size⟩
theorem FR.form {v:Value} (h:FR w v L) {n:Nat} (hn:L.length=n):∃ p c,v=.slice p n c:=by
  subst hn
  exact h.shape
theorem Rl.split (h:Rl Q L) {p k:Nat} (hno:Q.fr p=none) (h1:∀ (j:Nat) (x:Nat × PFr),j < k→L[j]?=some x→x.1 < p) (h2:∀ x:Nat × PFr,L[k]?=some x→¬ x.1 < p):(∀ x,x ∈ L.take k→x.1 < p)∧(∀ x,x ∈ L.drop k→p < x.1):=by
  refine ⟨fun x hx=>?_,fun x hx=>?_⟩
  · obtain ⟨j,hj⟩:=List.mem_iff_getElem?.1 hx
    rw [List.getElem?_take] at hj
    split at hj
    · rename_i hjk
      exact h1 j x hjk hj
    · cases hj
  · obtain ⟨j,hj⟩:=List.mem_iff_getElem?.1 hx
    rw [List.getElem?_drop] at hj
    have hne:∀ {i:Nat} {y:Nat × PFr},L[i]?=some y→y.1≠p:=fun hy e=>by
      have h3:=h.at hy
      rw [e,hno] at h3
      cases h3
    obtain ⟨y,hy⟩:∃ y,L[k]?=some y:=⟨L[k]'(by have:=(List.getElem?_eq_some_iff.1 hj).1;omega),List.getElem?_eq_getElem _⟩
    have h4:=h2 y hy
    have h5:=hne hy
    have h6:=hne hj
    by_cases e:j=0
    · subst e
      rw [Nat.add_zero,hy] at hj
      cases hj
      omega
    · have:=h.lt hy hj (by omega)
      omega
theorem fd_size (x:Nat × PFr):(Tryz.prog.info? TFd).map (·.size)=some (fdC x).length:=by
  rw [fdC_len]
  kernel_rfl
theorem run_cutFdN (w:World):(Instr.sliceAt TFs (.slice none 0 0) (some (.int .i64 0)) none none).run Tryz.prog w=.ok (.slice none 0 0) w:=by
  have hu:Tryz.prog.underlying TFs=some (.slice (Tryz.prog.elem TFs)):=by kernel_rfl
  rw [run_sliceAt_slice w TFs _ _ _ _ hu,run_slice_l w TFs _ _ _ hu .i64 0 (by omega) (by omega),show Tryz.prog.elem TFs=TFd by kernel_rfl,Tryz.sizeOf95]
  simp [Result.andThen,sliced]
/-- What lies behind place k of the pool's row. -/
theorem DpAt.behindK (h:DpAt w b sv av P ss la L) {k:Nat} (hk:k≤L.length):∃ x,(∀ V,(Instr.sliceAt TFs av (some (.int .i64 (k:Int))) none none).run Tryz.prog V=.ok x V)∧(∀ V,Gr w V→Seg V x (L.drop k)):=by
  rcases h.all.look with ⟨rfl,rfl⟩ | ⟨g,cap,rfl,hf⟩
  · obtain rfl:k=0:=by simpa using hk
    exact ⟨_,fun V=>run_cutFdN V,fun V _=>.inl ⟨rfl,rfl⟩⟩
  · refine ⟨_,fun V=>run_cutFdR g L.length cap k hk V,fun V gv=>?_⟩
    have hf':=hf.on (gv.block g hf.lt)
    by_cases e:cap=k
    · have hle:=hf.le
      rw [List.drop_of_length_le (by omega),show L.length - k=0 by omega]
      exact Seg.none _ _ _ _
    · have h:=hf'.seg (k:=k) (m:=L.length - k) (c:=cap - k) (by omega)
      rw [List.take_of_length_le (by rw [List.length_drop];omega)] at h
      rw [if_neg e]
      exact h
def SlFr (b sg Z sc p k c1:Nat) (p1:Option Addr) (xs:List Int) (w0:World) (M:List (Nat × PFr)) (slot:Nat) (v:Value) (w:World):Prop:=
  match slot with
  | 64 | 65 | 66 | 72 | 73 | 74=>v=.pointer (some ⟨b,0,none⟩)
  | 63 | 68 | 76=>v=.int .i64 (p:Int)
  | 67 | 75=>v=.slice (some ⟨sg,0,none⟩) Z sc
  | 69 | 77=>v=.pointer (some ⟨sg,p*256,none⟩)
  | 70 | 78=>v=.agg (sec (Sx xs))
  | 71=>v=.agg (Psec (PSx (xs.drop 8)))
  | 79=>v=.int .u64 (Wd.dec (xs.take 8):Int)
  | 80=>v=.agg (fdC (p,frS xs)).toArray
  | 62=>v=.slice p1 k c1
  | 81=>Seg w v [(p,frS xs)]
  | 82=>Own3 w0 w v (M++[(p,frS xs)])
  | 5=>Own3 w0 w v (M++[(p,frS xs)])
  | _=>True
theorem slFr_gr {b sg Z sc p k c1:Nat} {p1:Option Addr} {xs:List Int} {w0:World} {M:List (Nat × PFr)} {s:Nat} {v:Value} {w w':World} (h:SlFr b sg Z sc p k c1 p1 xs w0 M s v w) (g:Gr w w'):SlFr b sg Z sc p k c1 p1 xs w0 M s v w':=by
  unfold SlFr at *
  split <;> simp only at h
  all_goals first
    | exact h
    | exact Seg.gr h g
    | exact Own3.gr h g
def GFr (i:Nat) (w w':World):Prop:=i=20∨Gr w w'
def EarFr (p1:Option Addr) (k c1:Nat) (M:List (Nat × PFr)) (a:Act) (w:World):Prop:=a.tmps.getD 5 undef=.slice p1 k c1∧FR w (.slice p1 k c1) M
set_option maxRecDepth 100000 in
set_option maxHeartbeats 2000000 in
theorem dframe_any (h:DpAt w b sv av P ss la L) {p:Nat} (hp:p < ss.length) (hs:ss.length≤65536) (hin:∀ i,65536≤i→P.fr i=none) (hcl:Cl P ss) (hh : -1≤P.hand∧P.hand < 65536) (hm:1≤P.most∧P.most≤4096) :
    Calls Tryz.prog 42 #[.pointer (some ⟨b,0,none⟩),.int .i64 (p:Int)] w fun e w'=>∃ (g cap:Nat) (L':List (Nat × PFr)) (k:Nat) (f:PFr),e=.returned (.pointer (some ⟨g,k*253,none⟩))∧DpAt w' b sv (.slice (some ⟨g,0,none⟩) L'.length cap) (P.dfr ss p).1 (P.dfr ss p).2 la L'∧L'[k]?=some (p,f)∧Upd (dpS b sv av) (dpS b sv (.slice (some ⟨g,0,none⟩) L'.length cap)) w w':=by
  have HH:=Lib.hid h
  have HA:=Lib.hid (dat_is h p)
  have HIn:=Lib.hid hin
  have HCl:=Lib.hid hcl
  have HHd:=Lib.hid hh
  have HM:=Lib.hid hm
  have HP:=Lib.hid (And.intro hp hs)
  have hp0:(0:Int)≤(p:Int):=by omega
  clear h hp hs hin hcl hh hm
  go_enter Tryz.func42,Tryz.ntmps42
  go_wp2_with fail
  refine HA.out.mono ?_
  rintro e w1 ⟨rfl,j,rfl,hj⟩
  have HJ:=Lib.hid hj
  clear hj
  go_upto_if 11 with fail
  obtain ⟨tt,htt⟩:∃ tt,tt=decide (j < 0):=⟨_,rfl⟩
  rw [← htt]
  have HTt:=Lib.hid htt
  clear htt
  go_cut [] (fun wc=>Hid (∃ Q sq av' L' f,DpAt wc b sv av' Q sq la L'∧Q.fr p=some f∧Q.use p f=(P.dfr ss p).1∧sq=(P.dfr ss p).2∧Upd (dpS b sv av) (dpS b sv av') w wc))
  case first=>
    rcases HJ.out with ⟨hneg,hno⟩ | ⟨hneg,hyes⟩
    · have HNo:=Lib.hid hno
      clear hno
      obtain rfl:tt=true:=HTt.out.trans (decide_eq_true hneg)
      go_upto_block 0 with fail
      go_cut [] (fun wc=>Hid (∃ Q sq av' L',DrI w wc b sv av av' P Q ss sq la L'∧Q.room=0))
      case first=>
        go_wp2_with fail
        go_loopw [] (fun wr=>Hid (∃ Q sq av' L',DrI w wr b sv av av' P Q ss sq la L')) (fun wr=>allAt wr b)
        case atStart=>exact Lib.hid ⟨P,ss,av,L,DrI.start HH.out HCl.out HIn.out HHd.out⟩
        case round=>
          obtain ⟨Q,sq,av',L',hI⟩:=hrel.out
          obtain ⟨pA,cA,rfl⟩:=hI.at_.all.shape
          obtain ⟨-,c1,c2,c3,-⟩:=hI.at_.cells
          have HI:=Lib.hid hI
          obtain ⟨N,hN⟩:∃ N,N=L'.length:=⟨_,rfl⟩
          have HN:=Lib.hid hN
          have hpg:=hI.pages
          rw [← hN] at c1 hpg
          have HPg:=Lib.hid hpg
          obtain ⟨mo,hmo⟩:∃ mo,mo=Q.most:=⟨_,rfl⟩
          rw [← hmo] at c2
          have HMo:=Lib.hid hmo
          clear hI hN hpg hmo hrel
          cases hb:Q.held with
          | true=>
            rw [hb] at c3
            have HB:=Lib.hid hb
            clear hb
            go_wp2_with fail
            go_quiet (fail)
            go_wp2_with fail
            go_meet
            exact Lib.hid ⟨Q,sq,_,L',HI.out.gr ⟨rfl,rfl,rfl,Nat.le_refl _,fun _ _=>rfl⟩,Pl.room_none (.inl HB.out)⟩
          | false=>
            rw [hb] at c3
            have HB:=Lib.hid hb
            clear hb
            by_cases hlt:mo≤(N:Int)
            · have g3:decide (mo≤(N:Int))=true:=decide_eq_true hlt
              have HG:Hid (∀ n,Calls Tryz.prog 71 #[.pointer (some ⟨b,0,none⟩)] (wr.drewN n) fun e w'=>e=.returned (.tuple #[])∧∃ av' L'' g,goingL Q.usd Q.round 1=[g]∧DpAt w' b sv av' Q.g1 (ssO Q sq g) la L''∧Upd (dpS b sv (.slice pA L'.length cA)) (dpS b sv av') (wr.drewN n) w'):=Lib.hid fun n=>dgo1_any (w:=wr.drewN n) (HI.out.at_.gr ⟨rfl,rfl,rfl,Nat.le_refl _,fun _ _=>rfl⟩) (fun e=>by
                have h1:=HN.out
                have h2:=HI.out.most
                have h3:=HM.out
                have h4:=HMo.out
                rw [e] at h1
                simp at h1
                omega) HI.out.hin HI.out.cl ⟨HI.out.h0,HI.out.h1⟩
              go_wp2_with fail
              go_quiet (fail)
              go_wp2_with fail
              refine (HG.out _).mono ?_
              rintro e w2 ⟨rfl,av2,L2,g,hg,hd,hu⟩
              have HS:=Lib.hid (HI.out.step HB.out (by rw [HPg.out,← HMo.out];exact hlt) hg hd ((Upd.of_gr (w:=wr) (w':=wr.drewN nq) ⟨rfl,rfl,rfl,Nat.le_refl _,fun _ _=>rfl⟩).comp hu))
              have hms:allAt w2 b < allAt wr b:=by
                have h1:=HS.out.pages
                have h2:=Q.g1_pages hg
                rw [HS.out.at_.allAt,HI.out.at_.allAt,← h1,← HN.out,← HPg.out]
                omega
              clear hg hd hu
              go_wp2_with fail
              exact ⟨Lib.hid ⟨_,_,_,_,HS.out⟩,hms⟩
            · have g3:decide (mo≤(N:Int))=false:=decide_eq_false hlt
              go_wp2_with fail
              go_quiet (fail)
              go_wp2_with fail
              go_meet
              exact Lib.hid ⟨Q,sq,_,L',HI.out.gr ⟨rfl,rfl,rfl,Nat.le_refl _,fun _ _=>rfl⟩,Pl.room_none (.inr (by rw [HPg.out,← HMo.out];omega))⟩
      case rest=>
        obtain ⟨wb,rfl⟩:∃ x,x=wc:=⟨_,rfl⟩
        obtain ⟨Q,sq,av',L',hI,hR⟩:=hcut.out
        obtain ⟨pA,cA,rfl⟩:=hI.at_.all.shape
        obtain ⟨N,hN⟩:∃ N,N=L'.length:=⟨_,rfl⟩
        have HI:=Lib.hid hI
        have HR:=Lib.hid hR
        have HN:=Lib.hid hN
        have HQn:=Lib.hid (hI.no p HNo.out)
        have HC:Hid (∀ V,Gr wb V→V.cell? ⟨b,1,none⟩=some (.slice pA N cA)):=Lib.hid fun V gv=>by
          have h1:=(HI.out.at_.gr gv).cells.2.1
          rw [hN]
          exact h1
        have HPg:Hid (∀ (k:Nat) (x:Nat × PFr),L'[k]?=some x→∃ g,pA=some ⟨g,0,none⟩∧∀ V,Gr wb V→V.cell? ⟨g,k*253,none⟩=some (.int .i64 (x.1:Int))∧V.rangeAt g (k*253) (fdC x)):=Lib.hid fun k x hx=>by
          rcases HI.out.at_.all.look with ⟨_,h2⟩ | ⟨g,cap,h2,h3⟩
          · rw [h2] at hx;simp at hx
          · cases h2
            exact ⟨g,rfl,fun V gv=>⟨((h3.on (gv.block g h3.lt)).cells (p:=x.1) (f:=x.2) hx).1,(h3.on (gv.block g h3.lt)).range hx⟩⟩
        have HN6:Hid (N≤65536):=Lib.hid (by rw [hN];exact hI.at_.len)
        clear hI hR hN hcut
        go_upto_block 2 with fail
        go_cut [5,6] (fun l iv we=>∃ (k:Nat) (p1:Option Addr) (c1:Nat),iv=.int .i64 (k:Int)∧l=.slice p1 k c1∧Hid (Own3 wb we l (L'.take k))∧Hid (k≤N∧(∀ x,x ∈ L'.take k→x.1 < p)∧(∀ x,x ∈ L'.drop k→p < x.1)))
        case first=>
          go_wp2_with fail
          go_loopw [5,6] (fun l iv wr=>∃ (k:Nat) (p1:Option Addr) (c1:Nat),k≤N∧iv=.int .i64 (k:Int)∧l=.slice p1 k c1∧Hid (Own3 wb wr l (L'.take k))∧Hid (∀ (j:Nat) (x:Nat × PFr),j < k→L'[j]?=some x→x.1 < p)) (fun _ iv _=>N - (intOf iv).toNat)
          case atStart=>exact ⟨0,none,0,Nat.zero_le _,rfl,rfl,Lib.hid ⟨Gr.refl _,by rw [List.take_zero];exact FR.nil _,fun q hq=>by cases hq⟩,Lib.hid fun j x hj=>by omega⟩
          case round=>
            obtain ⟨k,p1,cp,hk,rfl,rfl,HO,HJ⟩:=hrel
            have c1:=HC.out wr HO.out.g
            by_cases hlt:k < N
            · obtain ⟨x,hx⟩:∃ x,L'[k]?=some x:=⟨L'[k]'(by rw [← HN.out];exact hlt),List.getElem?_eq_getElem _⟩
              obtain ⟨g,rfl,hg⟩:=HPg.out k x hx
              have c2:=(hg wr HO.out.g).1
              have HRg:=Lib.hid (hg wr HO.out.g).2
              have HX:=Lib.hid hx
              obtain ⟨q,hq⟩:∃ q,q=x.1:=⟨_,rfl⟩
              rw [← hq] at c2
              have HQ:=Lib.hid hq
              have g3:decide ((k:Int) < (N:Int))=true:=decide_eq_true (by omega)
              have g4:(k:Int) < (N:Int):=by omega
              have hk0:(0:Int)≤(k:Int):=by omega
              clear hx hg hq
              by_cases hle:(q:Int) < (p:Int)
              · have g5:decide ((q:Int) < (p:Int))=true:=decide_eq_true hle
                have hw:IntKind.i64.wrap ((k:Int)+1)=((k+1:Nat):Int):=by rw [IntWalk.i64_in _ (by have:=HN6.out;omega)];omega
                obtain ⟨W1,hW1⟩:∃ W1,W1=wr.alloc (.cells (fdC x).toArray TFd):=⟨_,rfl⟩
                have HW1:=Lib.hid hW1.symm
                have HO1:Hid (Own3 wb W1 (.slice p1 k cp) (L'.take k)∧Seg W1 (.slice (some ⟨wr.heap.size,0,none⟩) 1 1) [x]):=Lib.hid (by
                  rw [hW1]
                  exact ⟨HO.out.gr (Gr.new _ _),Seg.lit _ _⟩)
                have HTk:Hid (L'.take k++[x]=L'.take (k+1)∧(L'.take (k+1)).length=k+1∧(L'.take k).length+[x].length≤200000):=Lib.hid (by
                  have h1:=HN.out
                  have h2:=HN6.out
                  refine ⟨by rw [List.take_add_one,HX.out];rfl,by rw [List.length_take];omega,by rw [List.length_take];simp only [List.length_cons,List.length_nil];omega⟩)
                clear hW1
                go_wp2_with (first
                  | (refine wpList_load_mid rfl TFd (.tmp 58) rfl g (k*253) rfl (fdC x) _ HRg.out Tryz.underlying95 rfl (fd_size x) ?_)
                  | (refine wpList_buildFd rfl (.tmp 59) rfl rfl ?_
                     rw [HW1.out])
                  | (refine wpList_app_fd rfl (.tmp 52) (.tmp 60) rfl rfl HO1.out.1.fr rfl HO1.out.2 HTk.out.2.2 ?_
                     intro v' w' h1 h2 h3
                     rw [HTk.out.1] at h1
                     have HO2:=Lib.hid (HO1.out.1.app h1 h2 h3)
                     obtain ⟨p2,cp2,rfl⟩:=h1.form HTk.out.2.1
                     clear h1 h2 h3))
                refine ⟨⟨k+1,_,_,by omega,by go_num,rfl,HO2,Lib.hid fun j y hj hy=>?_⟩,by simp [intOf];omega⟩
                rcases Nat.lt_or_ge j k with h1 | h1
                · exact HJ.out j y h1 hy
                · obtain rfl:j=k:=by omega
                  rw [HX.out] at hy
                  cases hy
                  rw [← HQ.out]
                  omega
              · have g5:decide ((q:Int) < (p:Int))=false:=decide_eq_false hle
                go_wp2_with fail
                go_meet
                exact ⟨k,p1,_,rfl,rfl,HO,Lib.hid ⟨hk,HI.out.at_.rl.split HQn.out HJ.out fun y hy=>by rw [HX.out] at hy;cases hy;rw [← HQ.out];omega⟩⟩
            · have g3:decide ((k:Int) < (N:Int))=false:=decide_eq_false (by omega)
              have g4:¬ (k:Int) < (N:Int):=by omega
              go_wp2_with fail
              go_meet
              exact ⟨k,p1,_,rfl,rfl,HO,Lib.hid ⟨hk,HI.out.at_.rl.split HQn.out HJ.out fun x hx=>by have:=(List.getElem?_eq_some_iff.1 hx).1;have:=HN.out;omega⟩⟩
        case rest=>
          obtain ⟨k,p1,c1,rfl,rfl,HO,HK⟩:=hcut
          obtain ⟨hk,hlo,hhi⟩:=HK.out
          have hps:p < sq.length:=by rw [HI.out.len];exact HP.out.1
          obtain ⟨sg,sc,rfl,-,-,-⟩:=HI.out.at_.row.full (fun e=>by rw [e] at hps;simp at hps)
          obtain ⟨Z,hZ⟩:∃ Z,Z=sq.length:=⟨_,rfl⟩
          obtain ⟨xs,hxs⟩:∃ xs,xs=secN (sq.getD p Sec.zero):=⟨_,rfl⟩
          have hsec:IsSec xs:=by rw [hxs];exact secN_sec _
          have HXs:=Lib.hid hxs
          have hpZ:(p:Int) < (Z:Int):=by omega
          have HC0:Hid (∀ V,Gr wb V→V.cell? ⟨b,0,none⟩=some (.slice (some ⟨sg,0,none⟩) Z sc)):=Lib.hid fun V gv=>by
            rw [hZ]
            exact (HI.out.at_.gr gv).cells.1
          have HRow:Hid (∀ V,Gr wb V→V.rangeAt sg (p*256) (Sx xs).cells):=Lib.hid fun V gv=>by
            have h1:=(HI.out.at_.gr gv).row.lies p hps
            have h2:sq.getD p Sec.zero=sq[p]:=by simp [List.getD,hps]
            rw [hxs,Sx_secN,h2]
            exact h1
          have HPay:Hid (∀ V,Calls Tryz.prog 32 #[.agg (sec (Sx xs))] V fun e w'=>e=.returned (.agg (Psec (PSx (xs.drop 8))))∧Gr V w'):=Lib.hid fun V=>Payload_any hsec V
          have HLsn:Hid (∀ V,Calls Tryz.prog 29 #[.agg (sec (Sx xs))] V fun e w'=>e=.returned (.int .u64 (Wd.dec (xs.take 8):Int))∧Gr V w'):=Lib.hid fun V=>LSN_any hsec V
          obtain ⟨MK,hMK⟩:∃ MK,MK=L'.take k:=⟨_,rfl⟩
          rw [← hMK] at HO
          have hkl:MK.length=k:=by rw [hMK,List.length_take];have:=HN.out;omega
          have HMK:=Lib.hid (And.intro hMK hkl)
          have HLk:Hid ((MK++[(p,frS xs)]).length=k+1):=Lib.hid (by rw [List.length_append,hkl];rfl)
          have HLn:Hid (MK.length+[(p,frS xs)].length≤200000):=Lib.hid (by have:=HN6.out;rw [hkl];simp only [List.length_cons,List.length_nil];omega)
          have HOwn:=Lib.hid HO.out.own
          have HHi:=Lib.hid (And.intro hk (And.intro hlo hhi))
          have HPs:=Lib.hid hps
          clear hk hlo hhi hZ hxs hsec hMK hkl HK hps
          go_upto_region 9 with fail
          refine Flow.regionY 21 20 (by kernel_rfl) [5] 30 (SlFr b sg Z sc p k c1 p1 xs wb MK) (Gr wb) (Gr wb) (EarFr p1 k c1 MK) GFr (by kernel_rfl) (by kernel_rfl) (by kernel_rfl) ?mono (HO.out.g.drew) ⟨rfl,HO.out.fr.gr (Gr.refl _).drew⟩ ?steps ?fin
          case mono=>
            intro i d v w w' hb hs hg
            rcases hg with hg | hg
            · subst hg
              have hm:=Flow.bears2_only [] (by kernel_rfl) hb
              cases hm
            · exact slFr_gr hs hg
          case steps=>
            refine Flow.StepsY.cons (fun a W hfr hinv hear hdep K hK=>?_) ?_
            · have hear2:=Flow.early hear (by kernel_rfl)
              have t5:a.tmps[5]?.getD undef=.slice p1 k c1:=by simpa using hear2.1
              clear hear2
              rw [if_pos (Flow.wanted_none rfl)]
              clear hfr hdep hear
              go_simp
              exact hK _ _ (.inr (Gr.refl W)) (Gr.trans hinv (Gr.refl W)) (fun he=>⟨(Flow.getD_put_other (by intro e;cases e)).trans he.1,he.2.gr (Gr.refl W)⟩) (fun d hd=>by cases hd;rfl)
            refine Flow.StepsY.cons (fun a W hfr hinv hear hdep K hK=>?_) ?_
            · have s1:a.tmps.getD 1 undef=.int .i64 (p:Int):=hfr.at 1 (by kernel_rfl)
              have t1:a.tmps[1]?.getD undef=.int .i64 (p:Int):=by simpa using s1
              rw [if_pos (Flow.wanted_none rfl)]
              clear hfr hdep hear
              go_simp
              exact hK _ _ (.inr (Gr.refl W)) (Gr.trans hinv (Gr.refl W)) (fun he=>⟨(Flow.getD_put_other (by intro e;cases e)).trans he.1,he.2.gr (Gr.refl W)⟩) (fun d hd=>by cases hd;rfl)
            refine Flow.StepsY.cons (fun a W hfr hinv hear hdep K hK=>?_) ?_
            · have s0:a.tmps.getD 0 undef=.pointer (some ⟨b,0,none⟩):=hfr.at 0 (by kernel_rfl)
              have t0:a.tmps[0]?.getD undef=.pointer (some ⟨b,0,none⟩):=by simpa using s0
              rw [if_pos (Flow.wanted_none rfl)]
              clear hfr hdep hear
              go_simp
              exact hK _ _ (.inr (Gr.refl W)) (Gr.trans hinv (Gr.refl W)) (fun he=>⟨(Flow.getD_put_other (by intro e;cases e)).trans he.1,he.2.gr (Gr.refl W)⟩) (fun d hd=>by cases hd;rfl)
            refine Flow.StepsY.cons (fun a W hfr hinv hear hdep K hK=>?_) ?_
            · have s64:a.tmps.getD 64 undef=.pointer (some ⟨b,0,none⟩):=hdep 64 (by kernel_rfl)
              have t64:a.tmps[64]?.getD undef=.pointer (some ⟨b,0,none⟩):=by simpa using s64
              rw [if_pos (Flow.wanted_none rfl)]
              clear hfr hdep hear
              go_simp
              exact hK _ _ (.inr (Gr.refl W)) (Gr.trans hinv (Gr.refl W)) (fun he=>⟨(Flow.getD_put_other (by intro e;cases e)).trans he.1,he.2.gr (Gr.refl W)⟩) (fun d hd=>by cases hd;rfl)
            refine Flow.StepsY.cons (fun a W hfr hinv hear hdep K hK=>?_) ?_
            · have s65:a.tmps.getD 65 undef=.pointer (some ⟨b,0,none⟩):=hdep 65 (by kernel_rfl)
              have t65:a.tmps[65]?.getD undef=.pointer (some ⟨b,0,none⟩):=by simpa using s65
              rw [if_pos (Flow.wanted_none rfl)]
              clear hfr hdep hear
              go_simp
              exact hK _ _ (.inr (Gr.refl W)) (Gr.trans hinv (Gr.refl W)) (fun he=>⟨(Flow.getD_put_other (by intro e;cases e)).trans he.1,he.2.gr (Gr.refl W)⟩) (fun d hd=>by cases hd;rfl)
            refine Flow.StepsY.cons (fun a W hfr hinv hear hdep K hK=>?_) ?_
            · have s66:a.tmps.getD 66 undef=.pointer (some ⟨b,0,none⟩):=hdep 66 (by kernel_rfl)
              have t66:a.tmps[66]?.getD undef=.pointer (some ⟨b,0,none⟩):=by simpa using s66
              have hc:=HC0.out W hinv
              rw [if_pos (Flow.wanted_none rfl)]
              clear hfr hdep hear
              go_simp
              exact hK _ _ (.inr (Gr.refl W)) (Gr.trans hinv (Gr.refl W)) (fun he=>⟨(Flow.getD_put_other (by intro e;cases e)).trans he.1,he.2.gr (Gr.refl W)⟩) (fun d hd=>by cases hd;rfl)
            refine Flow.StepsY.cons (fun a W hfr hinv hear hdep K hK=>?_) ?_
            · have s1:a.tmps.getD 1 undef=.int .i64 (p:Int):=hfr.at 1 (by kernel_rfl)
              have t1:a.tmps[1]?.getD undef=.int .i64 (p:Int):=by simpa using s1
              rw [if_pos (Flow.wanted_none rfl)]
              clear hfr hdep hear
              go_simp
              exact hK _ _ (.inr (Gr.refl W)) (Gr.trans hinv (Gr.refl W)) (fun he=>⟨(Flow.getD_put_other (by intro e;cases e)).trans he.1,he.2.gr (Gr.refl W)⟩) (fun d hd=>by cases hd;rfl)
            refine Flow.StepsY.cons (fun a W hfr hinv hear hdep K hK=>?_) ?_
            · have s67:a.tmps.getD 67 undef=.slice (some ⟨sg,0,none⟩) Z sc:=hdep 67 (by kernel_rfl)
              have t67:a.tmps[67]?.getD undef=.slice (some ⟨sg,0,none⟩) Z sc:=by simpa using s67
              have s68:a.tmps.getD 68 undef=.int .i64 (p:Int):=hdep 68 (by kernel_rfl)
              have t68:a.tmps[68]?.getD undef=.int .i64 (p:Int):=by simpa using s68
              rw [if_pos (Flow.wanted_none rfl)]
              clear hfr hdep hear
              go_simp
              exact hK _ _ (.inr (Gr.refl W)) (Gr.trans hinv (Gr.refl W)) (fun he=>⟨(Flow.getD_put_other (by intro e;cases e)).trans he.1,he.2.gr (Gr.refl W)⟩) (fun d hd=>by cases hd;rfl)
            refine Flow.StepsY.cons (fun a W hfr hinv hear hdep K hK=>?_) ?_
            · have s69:a.tmps.getD 69 undef=.pointer (some ⟨sg,p*256,none⟩):=hdep 69 (by kernel_rfl)
              have t69:a.tmps[69]?.getD undef=.pointer (some ⟨sg,p*256,none⟩):=by simpa using s69
              rw [if_pos (Flow.wanted_none rfl)]
              clear hfr hdep
              refine wp_load_mid TS (.tmp 69) rfl sg (p*256) s69 (Sx xs).cells _ (HRow.out W hinv) under_sec rfl (by rw [Sec.cells_len];exact size_sec) ?_
              exact hK _ _ (.inr (Gr.refl W)) (Gr.trans hinv (Gr.refl W)) (fun he=>⟨(Flow.getD_put_other (by intro e;cases e)).trans he.1,he.2.gr (Gr.refl W)⟩) (fun d hd=>by cases hd;rfl)
            refine Flow.StepsY.cons (fun a W hfr hinv hear hdep K hK=>?_) ?_
            · have s70:a.tmps.getD 70 undef=.agg (sec (Sx xs)):=hdep 70 (by kernel_rfl)
              have t70:a.tmps[70]?.getD undef=.agg (sec (Sx xs)):=by simpa using s70
              rw [if_pos (Flow.wanted_none rfl)]
              clear hfr hdep
              clear hear
              go_simp
              refine (HPay.out W).mono ?_
              rintro e W' ⟨rfl,g1⟩
              exact hK _ _ (.inr (g1)) (Gr.trans hinv (g1)) (fun he=>⟨(Flow.getD_put_other (by intro e;cases e)).trans he.1,he.2.gr (g1)⟩) (fun d hd=>by cases hd;rfl)
            refine Flow.StepsY.cons (fun a W hfr hinv hear hdep K hK=>?_) ?_
            · have s0:a.tmps.getD 0 undef=.pointer (some ⟨b,0,none⟩):=hfr.at 0 (by kernel_rfl)
              have t0:a.tmps[0]?.getD undef=.pointer (some ⟨b,0,none⟩):=by simpa using s0
              rw [if_pos (Flow.wanted_none rfl)]
              clear hfr hdep hear
              go_simp
              exact hK _ _ (.inr (Gr.refl W)) (Gr.trans hinv (Gr.refl W)) (fun he=>⟨(Flow.getD_put_other (by intro e;cases e)).trans he.1,he.2.gr (Gr.refl W)⟩) (fun d hd=>by cases hd;rfl)
            refine Flow.StepsY.cons (fun a W hfr hinv hear hdep K hK=>?_) ?_
            · have s72:a.tmps.getD 72 undef=.pointer (some ⟨b,0,none⟩):=hdep 72 (by kernel_rfl)
              have t72:a.tmps[72]?.getD undef=.pointer (some ⟨b,0,none⟩):=by simpa using s72
              rw [if_pos (Flow.wanted_none rfl)]
              clear hfr hdep hear
              go_simp
              exact hK _ _ (.inr (Gr.refl W)) (Gr.trans hinv (Gr.refl W)) (fun he=>⟨(Flow.getD_put_other (by intro e;cases e)).trans he.1,he.2.gr (Gr.refl W)⟩) (fun d hd=>by cases hd;rfl)
            refine Flow.StepsY.cons (fun a W hfr hinv hear hdep K hK=>?_) ?_
            · have s73:a.tmps.getD 73 undef=.pointer (some ⟨b,0,none⟩):=hdep 73 (by kernel_rfl)
              have t73:a.tmps[73]?.getD undef=.pointer (some ⟨b,0,none⟩):=by simpa using s73
              rw [if_pos (Flow.wanted_none rfl)]
              clear hfr hdep hear
              go_simp
              exact hK _ _ (.inr (Gr.refl W)) (Gr.trans hinv (Gr.refl W)) (fun he=>⟨(Flow.getD_put_other (by intro e;cases e)).trans he.1,he.2.gr (Gr.refl W)⟩) (fun d hd=>by cases hd;rfl)
            refine Flow.StepsY.cons (fun a W hfr hinv hear hdep K hK=>?_) ?_
            · have s74:a.tmps.getD 74 undef=.pointer (some ⟨b,0,none⟩):=hdep 74 (by kernel_rfl)
              have t74:a.tmps[74]?.getD undef=.pointer (some ⟨b,0,none⟩):=by simpa using s74
              have hc:=HC0.out W hinv
              rw [if_pos (Flow.wanted_none rfl)]
              clear hfr hdep hear
              go_simp
              exact hK _ _ (.inr (Gr.refl W)) (Gr.trans hinv (Gr.refl W)) (fun he=>⟨(Flow.getD_put_other (by intro e;cases e)).trans he.1,he.2.gr (Gr.refl W)⟩) (fun d hd=>by cases hd;rfl)
            refine Flow.StepsY.cons (fun a W hfr hinv hear hdep K hK=>?_) ?_
            · have s1:a.tmps.getD 1 undef=.int .i64 (p:Int):=hfr.at 1 (by kernel_rfl)
              have t1:a.tmps[1]?.getD undef=.int .i64 (p:Int):=by simpa using s1
              rw [if_pos (Flow.wanted_none rfl)]
              clear hfr hdep hear
              go_simp
              exact hK _ _ (.inr (Gr.refl W)) (Gr.trans hinv (Gr.refl W)) (fun he=>⟨(Flow.getD_put_other (by intro e;cases e)).trans he.1,he.2.gr (Gr.refl W)⟩) (fun d hd=>by cases hd;rfl)
            refine Flow.StepsY.cons (fun a W hfr hinv hear hdep K hK=>?_) ?_
            · have s75:a.tmps.getD 75 undef=.slice (some ⟨sg,0,none⟩) Z sc:=hdep 75 (by kernel_rfl)
              have t75:a.tmps[75]?.getD undef=.slice (some ⟨sg,0,none⟩) Z sc:=by simpa using s75
              have s76:a.tmps.getD 76 undef=.int .i64 (p:Int):=hdep 76 (by kernel_rfl)
              have t76:a.tmps[76]?.getD undef=.int .i64 (p:Int):=by simpa using s76
              rw [if_pos (Flow.wanted_none rfl)]
              clear hfr hdep hear
              go_simp
              exact hK _ _ (.inr (Gr.refl W)) (Gr.trans hinv (Gr.refl W)) (fun he=>⟨(Flow.getD_put_other (by intro e;cases e)).trans he.1,he.2.gr (Gr.refl W)⟩) (fun d hd=>by cases hd;rfl)
            refine Flow.StepsY.cons (fun a W hfr hinv hear hdep K hK=>?_) ?_
            · have s77:a.tmps.getD 77 undef=.pointer (some ⟨sg,p*256,none⟩):=hdep 77 (by kernel_rfl)
              have t77:a.tmps[77]?.getD undef=.pointer (some ⟨sg,p*256,none⟩):=by simpa using s77
              rw [if_pos (Flow.wanted_none rfl)]
              clear hfr hdep
              refine wp_load_mid TS (.tmp 77) rfl sg (p*256) s77 (Sx xs).cells _ (HRow.out W hinv) under_sec rfl (by rw [Sec.cells_len];exact size_sec) ?_
              exact hK _ _ (.inr (Gr.refl W)) (Gr.trans hinv (Gr.refl W)) (fun he=>⟨(Flow.getD_put_other (by intro e;cases e)).trans he.1,he.2.gr (Gr.refl W)⟩) (fun d hd=>by cases hd;rfl)
            refine Flow.StepsY.cons (fun a W hfr hinv hear hdep K hK=>?_) ?_
            · have s78:a.tmps.getD 78 undef=.agg (sec (Sx xs)):=hdep 78 (by kernel_rfl)
              have t78:a.tmps[78]?.getD undef=.agg (sec (Sx xs)):=by simpa using s78
              rw [if_pos (Flow.wanted_none rfl)]
              clear hfr hdep
              clear hear
              go_simp
              refine (HLsn.out W).mono ?_
              rintro e W' ⟨rfl,g1⟩
              exact hK _ _ (.inr (g1)) (Gr.trans hinv (g1)) (fun he=>⟨(Flow.getD_put_other (by intro e;cases e)).trans he.1,he.2.gr (g1)⟩) (fun d hd=>by cases hd;rfl)
            refine Flow.StepsY.cons (fun a W hfr hinv hear hdep K hK=>?_) ?_
            · have s63:a.tmps.getD 63 undef=.int .i64 (p:Int):=hdep 63 (by kernel_rfl)
              have t63:a.tmps[63]?.getD undef=.int .i64 (p:Int):=by simpa using s63
              have s71:a.tmps.getD 71 undef=.agg (Psec (PSx (xs.drop 8))):=hdep 71 (by kernel_rfl)
              have t71:a.tmps[71]?.getD undef=.agg (Psec (PSx (xs.drop 8))):=by simpa using s71
              have s79:a.tmps.getD 79 undef=.int .u64 (Wd.dec (xs.take 8):Int):=hdep 79 (by kernel_rfl)
              have t79:a.tmps[79]?.getD undef=.int .u64 (Wd.dec (xs.take 8):Int):=by simpa using s79
              rw [if_pos (Flow.wanted_none rfl)]
              clear hfr hdep
              refine wp_build_fd (.tmp 63) (.tmp 71) (.tmp 79) rfl s63 s71 s79 ?_
              exact hK _ _ (.inr (Gr.refl W)) (Gr.trans hinv (Gr.refl W)) (fun he=>⟨(Flow.getD_put_other (by intro e;cases e)).trans he.1,he.2.gr (Gr.refl W)⟩) (fun d hd=>by cases hd;rfl)
            refine Flow.StepsY.cons (fun a W hfr hinv hear hdep K hK=>?_) ?_
            · have s80:a.tmps.getD 80 undef=.agg (fdC (p,frS xs)).toArray:=hdep 80 (by kernel_rfl)
              have t80:a.tmps[80]?.getD undef=.agg (fdC (p,frS xs)).toArray:=by simpa using s80
              rw [if_pos (Flow.wanted_none rfl)]
              clear hfr hdep
              refine wp_buildFd (.tmp 80) rfl s80 ?_
              exact hK _ _ (.inr (Gr.new _ _)) (Gr.trans hinv (Gr.new _ _)) (fun he=>⟨(Flow.getD_put_other (by intro e;cases e)).trans he.1,he.2.gr (Gr.new _ _)⟩) (fun d hd=>by cases hd;exact Seg.lit W (p,frS xs))
            refine Flow.StepsY.cons (fun a W hfr hinv hear hdep K hK=>?_) ?_
            · have s62:a.tmps.getD 62 undef=.slice p1 k c1:=hdep 62 (by kernel_rfl)
              have t62:a.tmps[62]?.getD undef=.slice p1 k c1:=by simpa using s62
              have s81:Seg W (a.tmps.getD 81 undef) [(p,frS xs)]:=hdep 81 (by kernel_rfl)
              have hear2:=Flow.early hear (by kernel_rfl)
              have hear3:=hear2.2
              rw [if_pos (Flow.wanted_none rfl)]
              clear hfr hdep
              refine wp_app_fd (.tmp 62) (.tmp 81) rfl s62 hear3 rfl s81 HLn.out (fun v1 w1 h1 h2 h3=>?_)
              have ho:=(Own3.mk hinv hear3 HOwn.out).app h1 h2 h3
              exact hK _ _ (.inl rfl) ho.g True.intro (fun d hd=>by cases hd;exact ho)
            refine Flow.StepsY.cons (fun a W hfr hinv hear hdep K hK=>?_) ?_
            · have s82:Own3 wb W (a.tmps.getD 82 undef) (MK++[(p,frS xs)]):=hdep 82 (by kernel_rfl)
              rw [if_pos (Flow.wanted_none rfl)]
              clear hfr hdep
              clear hear
              go_simp
              exact hK _ _ (.inr (Gr.refl W)) hinv True.intro (fun d hd=>by cases hd;exact (by simpa using s82:Own3 wb W (a.tmps[82]?.getD undef) (MK++[(p,frS xs)])))
            exact True.intro
          case fin=>
            intro a W hfr hfin hsl
            have s5:Own3 wb W (a.tmps.getD 5 undef) (MK++[(p,frS xs)]):=hsl 21 _ 5 rfl rfl (by simp)
            obtain ⟨p2,cp2,e5⟩:=s5.fr.form HLk.out
            rw [e5] at s5
            have t5:a.tmps[5]?.getD undef=.slice p2 (k+1) cp2:=by simpa using e5
            have e:=Flow.frame hfr [62,63,64,65,66,67,68,69,70,71,72,73,74,75,76,77,78,79,80,81,82,5] (List.range 106) (by kernel_rfl) (by kernel_rfl)
            simp [List.range,List.range.loop] at e
            rw [t5] at e
            rw [e]
            have HO9:=Lib.hid s5
            clear e hfr hsl e5 t5 s5 hfin
            rename_i K2 hK2
            refine hK2 _ _ ?_
            obtain ⟨xv,hcR,hxs⟩:=HI.out.at_.behindK (k:=k) (by rw [← HN.out];exact HHi.out.1)
            rw [← HN.out] at hcR
            have HSeg:=Lib.hid (hxs W HO9.out.g)
            obtain ⟨MM,hMM⟩:∃ MM,MM=(MK++[(p,frS xs)])++L'.drop k:=⟨_,rfl⟩
            obtain ⟨K3,hK3⟩:∃ K3,K3=MM.length:=⟨_,rfl⟩
            have HL3:=Lib.hid hK3.symm
            have HMM:=Lib.hid hMM
            have HLn2:Hid ((MK++[(p,frS xs)]).length+(L'.drop k).length≤200000):=Lib.hid (by
              have h1:=HLk.out
              have h2:=HN6.out
              have h3:=HN.out
              have h4:=HHi.out.1
              rw [h1,List.length_drop]
              omega)
            have cc1:=HC.out W HO9.out.g
            have HFz:Hid (∀ V,Gr wb V→V.frozen? ⟨b,1,none⟩=false):=Lib.hid fun V gv=>(HI.out.at_.gr gv).blk.frozen 1
            have hk0:(0:Int)≤(k:Int):=by omega
            have hkN:(k:Int)≤(N:Int):=by have:=HHi.out.1;omega
            clear hxs hMM hK3
            go_wp2_with (first
              | (refine wpList_app_fd rfl (.tmp 84) (.tmp 90) rfl rfl HO9.out.fr rfl HSeg.out HLn2.out ?_
                 intro v3 w3 h1 h2 h3
                 have HO10:=Lib.hid (HO9.out.app h1 h2 h3)
                 rw [← HMM.out] at HO10 h1
                 obtain ⟨p3,cp3,rfl⟩:=h1.form HL3.out
                 have c13:=HC.out w3 HO10.out.g
                 have f13:=HFz.out w3 HO10.out.g
                 clear h1 h2 h3))
            go_meet
            obtain ⟨e1,e2⟩:=HI.out.done HR.out
            have hri:=HI.out.at_.rl.ins (k:=k) (i:=p) (g:=frS xs) HQn.out HHi.out.2.1 HHi.out.2.2
            have hMM2:L'.take k++(p,frS xs) :: L'.drop k=MM:=by rw [HMM.out,HMK.out.1,List.append_assoc];rfl
            rw [hMM2] at hri
            have hpb:=HP.out
            have hin2:∀ i,65536≤i→(Q.put p (frS xs)).fr i=none:=fun i hi=>by
              show (if i=p then some _ else Q.fr i)=none
              rw [if_neg (by omega),HI.out.hin i hi]
            have hl:MM.length≤65536:=by
              have h1:=hri.len hin2
              have h2:=(Q.put p (frS xs)).pages_most
              omega
            have hfin:=DpAt.turn (HI.out.at_.gr HO10.out.g) HO10.out.fr HO10.out.own (fun q hq=>HI.out.at_.low q hq) hri rfl rfl rfl hl
            have ho:=Onc.cell b w3 1 (.slice p3 K3 cp3)
            have hg:=HO10.out.g
            refine Lib.hid ⟨_,_,_,_,frS xs,hfin,?_,?_,e2.trans (by rw [dfr_none HNo.out]),HI.out.up.comp ⟨ho.os.trans hg.os,ho.tape.trans hg.tape,ho.output.trans hg.output,by rw [ho.size];exact hg.size,fun q hq hn=>(ho.block q fun e=>hn (.inl e)).trans (hg.block q hq),fun q hq=>?_⟩⟩
            · show (if p=p then some _ else Q.fr p)=_
              rw [if_pos rfl]
            · rw [dfr_none HNo.out,← e1,← e2,← HXs.out]
              exact Pl.put_put _ _ _ _
            · rcases hq with hq | hq | hq
              · exact .inl (.inl hq)
              · exact .inl (.inr (.inl hq))
              · exact .inr (HO10.out.own q hq)
    · have HY:=Lib.hid hyes
      obtain rfl:tt=false:=HTt.out.trans (decide_eq_false (by omega))
      clear hyes
      go_wp2_with fail
      go_meet
      obtain ⟨f,hf⟩:=HY.out
      exact Lib.hid ⟨P,ss,av,L,f,HH.out,hf,by rw [dfr_some hf],by rw [dfr_some hf],Upd.of_gr (Gr.refl _)⟩
  case rest=>
    obtain ⟨Q,sq,av',L',f,hd,hf,e1,e2,hu⟩:=hcut.out
    obtain ⟨k,hk⟩:=hd.stands hf
    obtain ⟨g,cap,rfl,hfr⟩:∃ g cap,av'=.slice (some ⟨g,0,none⟩) L'.length cap∧FRk wc g cap L':=by
      rcases hd.all.look with ⟨_,h2⟩ | h2
      · rw [h2] at hk;simp at hk
      · exact h2
    have c1:=hd.cells.2.1
    have HAt:Hid (∀ n,Calls Tryz.prog 46 #[.pointer (some ⟨b,0,none⟩),.int .i64 (p:Int)] (wc.drewN n) fun e w'=>e=.returned (.int .i64 (k:Int))∧w'=wc.drewN n):=Lib.hid fun n=>dat_yes (w:=wc.drewN n) (hd.gr ⟨rfl,rfl,rfl,Nat.le_refl _,fun _ _=>rfl⟩) hk
    obtain ⟨x,hx⟩:∃ x,x=f.used:=⟨_,rfl⟩
    have c2:=(hfr.cells hk).2.2.2.2
    rw [← hx] at c2
    have f2:=hfr.frozen (k*253+252)
    have hkl:=(List.getElem?_eq_some_iff.1 hk).1
    have hap:=hd.apA g rfl
    obtain ⟨N,hN⟩:∃ N,N=L'.length:=⟨_,rfl⟩
    have hk0:(0:Int)≤(k:Int):=by omega
    have hkN:(k:Int) < (N:Int):=by omega
    have HNk:=Lib.hid (And.intro hN hkl)
    rw [← hN] at c1
    have HD:=Lib.hid hd
    have HK:=Lib.hid hk
    have HF:=Lib.hid (And.intro hf (And.intro e1 e2))
    have HU:=Lib.hid hu
    have HFr:=Lib.hid hfr
    have HAp:=Lib.hid hap
    clear hd hf e1 e2 hu hk hfr hkl hap hN hx hcut
    go_wp2_with fail
    go_quiet (exact Calls.quiet_of ((HAt.out _).mono fun _ _ h=>⟨h.1,0,h.2⟩))
    go_wp2_with fail
    go_ret
    obtain ⟨wd,hwd⟩:∃ wd,wd=wc.drewN nq:=⟨_,rfl⟩
    have hgd:Gr wc wd:=by rw [hwd];exact ⟨rfl,rfl,rfl,Nat.le_refl _,fun _ _=>rfl⟩
    rw [← hwd]
    obtain ⟨hf,e1,e2⟩:=HF.out
    have hd:=HD.out.gr hgd
    have hset:=(HFr.out.on (w':=wd) (by rw [hwd];rfl)).set (y:=(p,{ f with used:=true })) HK.out (c:=252) (by omega) (fdC_used p f true)
    have ho:=Onc.cell g wd (k*253+252) (.bool true)
    have hs:=hset.fr
    rw [List.length_set] at hs
    refine ⟨g,cap,L'.set k (p,{ f with used:=true }),k,{ f with used:=true },rfl,?_,?_,?_⟩
    · rw [← e1,← e2,List.length_set]
      exact ⟨hd.blk.stays (ho.block b fun e=>HAp.out.1 e.symm),hd.row.stays fun q hq=>ho.block q fun e=>HAp.out.2 (e ▸ hq),hs,hd.rl.set HK.out _,hd.apS,hd.apA,by rw [List.length_set];exact hd.len⟩
    · rw [List.getElem?_set,if_pos rfl,if_pos HNk.out.2]
    · rw [List.length_set]
      exact HU.out.comp ((Upd.of_gr hgd).comp ⟨ho.os,ho.tape,ho.output,Nat.le_of_eq ho.size.symm,fun q hq hn=>ho.block q fun e=>hn (e ▸ .inr (.inr rfl)),fun q hq=>.inl hq⟩)
end
end Go.Proofs.YtdmhemgepdknhaaGreat
