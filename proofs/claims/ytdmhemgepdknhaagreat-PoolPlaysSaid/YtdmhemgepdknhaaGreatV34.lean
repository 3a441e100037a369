/-
  Texts, put together: PoolDp8 PoolDp9.
-/
import Derived.BigQuiet
import Derived.Deep.DeepCutAuto
import Derived.Deep.CutBlock
import Derived.Test.YtdmhemgepdknhaaGreatV1
import Derived.Test.YtdmhemgepdknhaaGreatV4
import Derived.Test.YtdmhemgepdknhaaGreatV33
set_option linter.unusedVariables false
set_option linter.unusedSimpArgs false
namespace Go.Proofs.YtdmhemgepdknhaaGreat
open Go.RowKit Go.Maps
section
variable {w w':World} {b:Nat} {sv av:Value} {P:Pl} {ss:List Sec} {la:Nat} {L:List (Nat × PFr)}
theorem Rl.page (h:Rl P L) (hin:∀ i,65536≤i→P.fr i=none) {k:Nat} {x:Nat × PFr} (hx:L[k]?=some x):P.pages.getD k 0=x.1:=by
 rw [h.pages hin,List.getD_eq_getElem?_getD,List.getElem?_map,hx]
 rfl
theorem Rl.len (h:Rl P L) (hin:∀ i,65536≤i→P.fr i=none):P.pages.length=L.length:=by rw [h.pages hin,List.length_map]
def usedAt (w:World) (g N:Nat):Nat:=(List.range N).countP fun j=>match w.cell? ⟨g,j*253+252,none⟩ with
 | some (.bool x)=>x
 | _=>false
theorem countP_less {α:Type} {p q:α→Bool}:∀ {l:List α},(∀ a,a ∈ l→q a=true→p a=true)→(∃ a,a ∈ l∧p a=true∧q a=false)→l.countP q < l.countP p
 | [],_,h=>by obtain ⟨a,h,_⟩:=h;cases h
 | x :: l,h1,h2=>by
  have h3:l.countP q≤l.countP p:=List.countP_mono_left fun a ha=>h1 a (List.mem_cons_of_mem _ ha)
  rw [List.countP_cons,List.countP_cons];obtain ⟨a,ha,hp,hq⟩:=h2
  rcases List.mem_cons.1 ha with rfl | ha
  ·
   rw [hp,hq]
   simp
   omega
  ·
   have h4:=countP_less (fun a ha=>h1 a (List.mem_cons_of_mem _ ha)) ⟨a,ha,hp,hq⟩;have h5:=h1 x List.mem_cons_self
   cases hqx:q x with
   | true=>
    rw [h5 hqx]
    simp
    omega
   | false=>
    cases p x <;> simp <;> omega
structure GoI (w0 w:World) (b:Nat) (sv av:Value) (P:Pl) (ss:List Sec) (la N t i:Nat):Prop where
 ex:∃ L',DpAt w b sv av (P.off (P.round.take t)) ss la L'∧L'.length=N
 up:Upd (dpS b sv av) (dpS b sv av) w0 w
 tN:t≤N
 used:∀ s,s < t→P.usd (P.round.getD s 0)=true
 at_:i=if P.behind+t≤N then P.behind+t else P.behind+t - N
theorem Cl.off {P:Pl} {ss:List Sec} (h:Cl P ss) (xs:List Nat):Cl (P.off xs) ss:=by
 have key:∀ i f,(P.off xs).fr i=some f→∃ f0,P.fr i=some f0∧f.pay=f0.pay∧f.lsn=f0.lsn∧f.first=f0.first∧f.dirty=f0.dirty:=fun i f hf=>by
  rw [Pl.off_fr] at hf
  split at hf
  ·
   cases e:P.fr i with
   | none=>rw [e] at hf;cases hf
   | some f0=>rw [e] at hf;cases hf;exact ⟨f0,rfl,rfl,rfl,rfl,rfl⟩
  · exact ⟨f,hf,rfl,rfl,rfl,rfl⟩
 refine ⟨fun i f hf=>?_,fun i f hf hd=>?_⟩
 · obtain ⟨f0,h0,e1,e2,e3,e4⟩:=key i f hf;obtain ⟨k1,k2⟩:=h.inn i f0 h0;exact ⟨⟨by rw [e1];exact k1.pay,by rw [e2];exact k1.l,by rw [e3];exact k1.f⟩,k2⟩
 · obtain ⟨f0,h0,e1,e2,e3,e4⟩:=key i f hf;rw [e1,e2];exact h.cln i f0 h0 (by rw [← e4];exact hd)
theorem ssO_off (P:Pl) (xs:List Nat) (ss:List Sec) (g:Nat):ssO (P.off xs) ss g=ssO P ss g:=by
 unfold ssO
 rw [Pl.off_fr]
 by_cases h:g ∈ xs
 ·
  rw [if_pos h]
  cases P.fr g <;> rfl
 · rw [if_neg h]
theorem GoI.look {w0:World} {N t i:Nat} (h:GoI w0 w b sv av P ss la N t i) (hin:∀ i,65536≤i→P.fr i=none) (hl:P.pages.length=N∧P.round.length=N∧0 < N) :
  ∃ L' p f,DpAt w b sv av (P.off (P.round.take t)) ss la L'∧L'.length=N∧(if i=N then 0 else i) < N∧L'[if i=N then 0 else i]?=some (p,f)∧(f.used=true→t < N∧P.round.getD t 0=p)∧(f.used=false→goingL P.usd P.round 1=[p]∧sparedL P.usd P.round 1=P.round.take t):=by
 obtain ⟨⟨L',hd,hL⟩,hup,htN,hus,hat⟩:=h;have hb:=P.behind_le
 have hin':∀ i,65536≤i→(P.off (P.round.take t)).fr i=none:=fun i hi=>(P.off_none _ i).2 (hin i hi)
 obtain ⟨l1,l2,l3⟩:=hl
 have hJ:(if i=N then 0 else i) < N:=by split <;> (try split at hat) <;> omega
 obtain ⟨J,hJe⟩:∃ J,J=if i=N then 0 else i:=⟨_,rfl⟩
 rw [← hJe] at hJ ⊢
 obtain ⟨x,hx⟩:∃ x,L'[J]?=some x:=⟨L'[J]'(by omega),List.getElem?_eq_getElem _⟩
 have hpg:P.pages.getD J 0=x.1:=by
  have h1:=hd.rl.page hin' hx
  rwa [P.off_pages] at h1
 have hfr:=hd.rl.at hx
 have husd:(P.off (P.round.take t)).usd x.1=x.2.used:=by unfold Pl.usd;rw [hfr]
 have hR:P.round.getD (if t=N then 0 else t) 0=x.1:=by
  rw [← hpg]
  by_cases e:t=N
  · rw [if_pos e,P.round_at (by omega),l1,show (if P.behind+0 < N then P.behind+0 else P.behind+0 - N)=J by rw [hJe];split <;> split <;> (try split at hat) <;> omega]
  · rw [if_neg e,P.round_at (by omega),l1,show (if P.behind+t < N then P.behind+t else P.behind+t - N)=J by rw [hJe];split <;> split <;> (try split at hat) <;> omega]
 refine ⟨L',x.1,x.2,hd,hL,hJ,hx,fun hu=>?_,fun hu=>?_⟩
 ·
  have hne:t≠N:=fun e=>by
   rw [if_pos e] at hR
   rw [Pl.off_usd,hu] at husd
   have hm:x.1 ∈ P.round.take t:=by
    rw [e,← l2,List.take_length,← hR,List.getD_eq_getElem?_getD,List.getElem?_eq_getElem (show 0 < P.round.length by omega)];exact List.getElem_mem _
   simp [hm] at husd
  rw [if_neg hne] at hR
  exact ⟨by omega,hR⟩
 ·
  by_cases e:t=N
  ·
   rw [if_pos e] at hR
   obtain ⟨k1,k2⟩:=first_all (u:=P.usd) (R:=P.round) (fun e2=>by rw [e2] at l2;simp at l2;omega) (fun s hs=>hus s (by omega));exact ⟨by rw [k1,hR],by rw [k2,e,← l2,List.take_length]⟩
  ·
   rw [if_neg e] at hR
   have hnot:P.usd (P.round.getD t 0)=false:=by
    rw [hR]
    rw [Pl.off_usd,hu] at husd
    have hm:x.1 ∉ P.round.take t:=fun hm=>by
     have hnd:=P.round_nodup;obtain ⟨q,hq⟩:=List.mem_iff_getElem?.1 hm
     rw [List.getElem?_take] at hq
     split at hq
     ·
      rename_i hqt
      obtain ⟨h5,h6⟩:=List.getElem?_eq_some_iff.1 hq
      have h7:P.round.getD t 0=P.round[t]'(by omega):=by simp [List.getD,show t < P.round.length by omega]
      have h8:=(List.getElem_inj hnd (h₀:=h5) (h₁:=(by omega:t < P.round.length))).1 (by rw [h6,← hR,h7])
      omega
     · cases hq
    simpa [hm] using husd
   obtain ⟨k1,k2⟩:=first_lt (u:=P.usd) (R:=P.round) (t:=t) (by omega) (fun s hs=>hus s hs) hnot;exact ⟨by rw [k1,hR],k2⟩
theorem GoI.step {w0:World} {N t i g cap p:Nat} {f:PFr} {L':List (Nat × PFr)} (h:GoI w0 w b sv (.slice (some ⟨g,0,none⟩) N cap) P ss la N t i) (hlow:dpS b sv (.slice (some ⟨g,0,none⟩) N cap) g) (hl:P.pages.length=N∧P.round.length=N∧0 < N) (hd:DpAt w b sv (.slice (some ⟨g,0,none⟩) N cap) (P.off (P.round.take t)) ss la L') (hL:L'.length=N)
  (hJ:(if i=N then 0 else i) < N) (hx:L'[if i=N then 0 else i]?=some (p,f)) (hu:f.used=true) (ht:t < N) (hR:P.round.getD t 0=p) :
  GoI w0 (w.setCell ⟨g,(if i=N then 0 else i)*253+252,none⟩ (.bool false)) b sv (.slice (some ⟨g,0,none⟩) N cap) P ss la N (t+1) ((if i=N then 0 else i)+1)∧usedAt (w.setCell ⟨g,(if i=N then 0 else i)*253+252,none⟩ (.bool false)) g N < usedAt w g N:=by
 obtain ⟨_,hup,htN,hus,hat⟩:=h;have hb:=P.behind_le;obtain ⟨l1,l2,l3⟩:=hl
 obtain ⟨J,hJe⟩:∃ J,J=if i=N then 0 else i:=⟨_,rfl⟩
 rw [← hJe] at hJ hx ⊢
 have hk:=hd.frk.2
 have hfr:=hd.rl.at hx
 have hset:=hk.set (y:=(p,{ f with used:=false })) hx (c:=252) (by omega) (fdC_used p f false);have ho:=Onc.cell g w (J*253+252) (.bool false)
 have hstep:P.off (P.round.take (t+1))=(P.off (P.round.take t)).put p { f with used:=false }:=by
  rw [P.off_step (by omega) (f:=f) (by rw [hR];exact hfr),hR]
 have hoff:=P.off_usd (P.round.take t) p
 have husd:(P.off (P.round.take t)).usd p=true:=by unfold Pl.usd;rw [hfr];exact hu
 rw [husd] at hoff
 have hPu:P.usd p=true:=by
  cases e:P.usd p with
  | true=>rfl
  | false=>rw [e] at hoff;simp at hoff
 obtain ⟨cur,hcur,_⟩:=hk.cur;refine ⟨⟨⟨L'.set J (p,{ f with used:=false }),?_,by rw [List.length_set];exact hL⟩,?_,ht,fun s hs=>?_,?_⟩,?_⟩
 ·
  have h9:=hset.fr
  rw [List.length_set,hL] at h9
  have hA:=hd.apA g rfl;rw [hstep];exact ⟨hd.blk.stays (ho.block b fun e=>hA.1 e.symm),hd.row.stays fun k hk2=>ho.block k fun e=>hA.2 (e ▸ hk2),h9,hd.rl.set hx _,hd.apS,hd.apA,by rw [List.length_set];exact hd.len⟩
 · exact hup.comp ⟨ho.os,ho.tape,ho.output,Nat.le_of_eq ho.size.symm,fun k hk2 hn=>ho.block k fun e=>hn (e ▸ hlow),fun k hk2=>.inl hk2⟩
 ·
  rcases Nat.lt_or_ge s t with h1 | h1
  · exact hus s h1
  ·
   obtain rfl:s=t:=by omega
   rw [hR];exact hPu
 ·
  rw [hJe]
  split <;> split <;> (try split at hat) <;> omega
 ·
  unfold usedAt
  have hc:∀ j,j≠J→(w.setCell ⟨g,J*253+252,none⟩ (.bool false)).cell? ⟨g,j*253+252,none⟩=w.cell? ⟨g,j*253+252,none⟩:=fun j hj=>World.cell?_setCell_other _ _ _ _ (by intro e;have:=congrArg Addr.off e;dsimp only at this;omega)
  have hc5:=(hk.cells hx).2.2.2.2;have hcJ:(w.setCell ⟨g,J*253+252,none⟩ (.bool false)).cell? ⟨g,J*253+252,none⟩=some (.bool false):=World.cell?_setCell_same' _ _ _ (by rw [hc5];rfl);refine countP_less (fun j _ hq=>?_) ⟨J,List.mem_range.2 hJ,?_,?_⟩
  ·
   by_cases e:j=J
   ·
    subst e
    rw [hcJ] at hq
    cases hq
   ·
    rw [hc j e] at hq
    exact hq
  · rw [hc5];exact hu
  · rw [hcJ]
theorem run_cutFdL (g N cap j:Nat) (hj:j≤cap) (w:World):(Instr.sliceAt TFs (.slice (some ⟨g,0,none⟩) N cap) none (some (.int .i64 (j:Int))) none).run Tryz.prog w=.ok (.slice (some ⟨g,0,none⟩) j cap) w:=by
 have hu:Tryz.prog.underlying TFs=some (.slice (Tryz.prog.elem TFs)):=by kernel_rfl
 rw [run_sliceAt_slice w TFs _ _ _ _ hu,run_slice_h w TFs _ _ _ hu .i64 (j:Int) (by omega) (by omega),show Tryz.prog.elem TFs=TFd by kernel_rfl,Tryz.sizeOf95]
 simp [Result.andThen,sliced,Addr.add]
theorem run_cutFdR (g N cap k:Nat) (hk:k≤N) (w:World):(Instr.sliceAt TFs (.slice (some ⟨g,0,none⟩) N cap) (some (.int .i64 (k:Int))) none none).run Tryz.prog w=.ok (.slice (some ⟨g,if cap=k then 0 else k*253,none⟩) (N - k) (cap - k)) w:=by
 have hu:Tryz.prog.underlying TFs=some (.slice (Tryz.prog.elem TFs)):=by kernel_rfl
 rw [run_sliceAt_slice w TFs _ _ _ _ hu,run_slice_l w TFs _ _ _ hu .i64 (k:Int) (by omega) (by omega),show Tryz.prog.elem TFs=TFd by kernel_rfl,Tryz.sizeOf95]
 simp only [Result.andThen,sliced]
 by_cases e:cap=k
 · simp [e]
 · simp [e,Addr.add_mid]
theorem gone_g1 {P:Pl} {p:Nat} (h:goingL P.usd P.round 1=[p]) (x:PFr):({ (P.off (sparedL P.usd P.round 1)).put p x with hand:=(p:Int) }:Pl).gone p=P.g1:=by
 have hh:P.g1.hand=(p:Int):=Pl.leave_hand _ (by rw [h];rfl)
 have e:∀ i,P.g1.fr i=if i ∈ [p] then none else (P.off (sparedL P.usd P.round 1)).fr i:=fun i=>by
  show ((P.off _).leave _).fr i=_
  rw [h,Pl.leave_fr]
 have hr:=P.g1_rest
 generalize P.g1=Q at hh e hr ⊢
 generalize sparedL P.usd P.round 1=sp at e ⊢
 refine Pl.same hr.1.symm hr.2.symm hh.symm (funext fun i=>?_);rw [e i]
 show (if i=p then none else if i=p then some x else (P.off sp).fr i)=_
 by_cases ei:i=p
 · rw [if_pos ei,if_pos (by simp [ei])]
 · rw [if_neg ei,if_neg ei,if_neg (by simp [ei])]
def OwnF (base:Nat) (M:List (Nat × PFr)) (v:Value) (w:World):Prop:=∃ p n c,v=.slice p n c∧FR w v M∧∀ k,v.ownBlock=some k→base≤k
theorem OwnF.gr {w w':World} {base:Nat} {M:List (Nat × PFr)} {v:Value} (h:OwnF base M v w) (g:Gr w w'):OwnF base M v w':=by
 obtain ⟨p,n,c,h1,h2,h3⟩:=h;exact ⟨p,n,c,h1,h2.on fun k hk=>g.block k (h2.lt k hk),h3⟩
def SlGo (b g N cap j A base:Nat) (MA MB:List (Nat × PFr)) (slot:Nat) (v:Value) (w:World):Prop:=
 match slot with
 | 70 | 71 | 72 | 78 | 79 | 86=>v=.pointer (some ⟨b,0,none⟩)
 | 73 | 80 | 87=>v=.pointer (some ⟨b,1,none⟩)
 | 74 | 81=>v=.slice (some ⟨g,0,none⟩) N cap
 | 75 | 82=>v=.int .i64 (j:Int)
 | 83=>v=.int .i64 ((j:Int)+1)
 | 76=>v=.slice (some ⟨g,0,none⟩) j cap
 | 84=>v=.slice (some ⟨g,A,none⟩) (N - (j+1)) (cap - (j+1))
 | 77=>OwnF base MA v w
 | 85=>OwnF base (MA++MB) v w
 | _=>True
theorem slGo_gr {b g N cap j A base:Nat} {MA MB:List (Nat × PFr)} {s:Nat} {v:Value} {w w':World} (h:SlGo b g N cap j A base MA MB s v w) (k:Gr w w'):SlGo b g N cap j A base MA MB s v w':=by
 unfold SlGo at *
 split <;> simp only at h
 all_goals first
  | exact h
  | exact OwnF.gr h k
def GGo (i:Nat) (w w':World):Prop:=i=15∨i=18∨Gr w w'
def FinGo (b base:Nat) (M:List (Nat × PFr)) (w0 w':World):Prop:=∃ V p n c,Gr w0 V∧FR V (.slice p n c) M∧(∀ k,(Value.slice p n c).ownBlock=some k→base≤k)∧w'=V.setCell ⟨b,1,none⟩ (.slice p n c)
theorem DpAt.hand (h:DpAt w b sv av P ss la L) (x:Int):DpAt (w.setCell ⟨b,5,none⟩ (.int .i64 x)) b sv av { P with hand:=x } ss la L:=by
 have ho:=Onc.cell b w 5 (.int .i64 x);exact ⟨h.blk.set 5 _,h.row.stays fun g hg=>ho.block g (h.apS g hg),h.all.on fun g hg=>ho.block g (h.apA g hg).1,⟨h.rl.up,h.rl.mem⟩,h.apS,h.apA,h.len⟩
theorem DpAt.turn {Q:Pl} {v:Value} {M:List (Nat × PFr)} {base:Nat} (h:DpAt w b sv av P ss la L) (hM:FR w v M) (hf:∀ k,v.ownBlock=some k→base≤k) (hb:∀ q,dpS b sv av q→q < base) (hQ:Rl Q M) (h1:Q.most=P.most) (h2:Q.held=P.held) (h3:Q.hand=P.hand) (hl:M.length≤65536):DpAt (w.setCell ⟨b,1,none⟩ v) b sv v Q ss la M:=by
 have ho:=Onc.cell b w 1 v;have hbb:=hb b (.inl rfl);have hb1:=h.blk.set 1 v
 rw [← h1,← h2,← h3] at hb1
 exact ⟨hb1,h.row.stays fun g hg=>ho.block g (h.apS g hg),hM.on fun g hg=>ho.block g fun e=>by have:=hf g hg;omega,hQ,h.apS,fun g hg=>⟨fun e=>by have:=hf g hg;omega,fun e=>by have:=hf g hg;have:=hb g (.inr (.inl e));omega⟩,hl⟩
theorem DpAt.turn1 {P Q:Pl} {v:Value} {M:List (Nat × PFr)} {base p:Nat} {x:PFr} (hg:goingL P.usd P.round 1=[p]) (hQ:Q={ (P.off (sparedL P.usd P.round 1)).put p x with hand:=(p:Int) }) (h:DpAt w b sv av Q ss la L) (hM:FR w v M) (hf:∀ k,v.ownBlock=some k→base≤k) (hb:∀ q,dpS b sv av q→q < base) (hR:Rl (Q.gone p) M) (hl:M.length≤65536):DpAt (w.setCell ⟨b,1,none⟩ v) b sv v P.g1 ss la M:=by
 have h0:DpAt (w.setCell ⟨b,1,none⟩ v) b sv v (Q.gone p) ss la M:=DpAt.turn h hM hf hb hR rfl rfl rfl hl
 rw [hQ,gone_g1 hg x] at h0
 exact h0
set_option maxRecDepth 100000 in
set_option maxHeartbeats 2000000 in
theorem dgo1_any (h:DpAt w b sv av P ss la L) (hne:L≠[]) (hin:∀ i,65536≤i→P.fr i=none) (hcl:Cl P ss) (hh : -1≤P.hand∧P.hand < 65536) :
  Calls Tryz.prog 71 #[.pointer (some ⟨b,0,none⟩)] w fun e w'=>e=.returned (.tuple #[])∧∃ av' L' g,goingL P.usd P.round 1=[g]∧DpAt w' b sv av' P.g1 (ssO P ss g) la L'∧Upd (dpS b sv av) (dpS b sv av') w w':=by
 obtain ⟨g,cap,rfl,hk⟩:∃ g cap,av=.slice (some ⟨g,0,none⟩) L.length cap∧FRk w g cap L:=by
  rcases h.all.look with ⟨_,h2⟩ | h2
  · exact absurd h2 hne
  · exact h2
 have hpl:=h.rl.len hin;have hrl:=P.round_len
 have hpos:0 < L.length:=by
  cases L with
  | nil=>exact absurd rfl hne
  | cons _ _=>simp
 have hN:=h.len;obtain ⟨N,hNe⟩:∃ N,N=L.length:=⟨_,rfl⟩
 rw [← hNe] at h hpl hpos hN ⊢
 have HNe:=Lib.hid hNe;have HH:=Lib.hid h;have HK:=Lib.hid hk;have HIn:=Lib.hid hin;have HCl:=Lib.hid hcl;have HLen:Hid (P.pages.length=N∧P.round.length=N∧N≤65536∧0 < N):=Lib.hid ⟨hpl,hrl.trans hpl,hN,hpos⟩;obtain ⟨hd,hhd⟩:∃ hd,hd=P.hand:=⟨_,rfl⟩;have HHd:=Lib.hid hhd
 rw [← hhd] at hh
 have HC:Hid (∀ V,Gr w V→V.cell? ⟨b,1,none⟩=some (.slice (some ⟨g,0,none⟩) N cap)∧V.cell? ⟨b,5,none⟩=some (.int .i64 hd)):=Lib.hid fun V gv=>by
  have h1:=(HH.out.gr gv).cells;rw [hhd];exact ⟨h1.2.1,h1.2.2.2.2.2⟩
 have HPg:Hid (∀ V,Gr w V→∀ k,k < N→V.cell? ⟨g,k*253,none⟩=some (.int .i64 ((P.pages.getD k 0:Nat):Int))):=Lib.hid fun V gv k hk2=>by
  obtain ⟨x,hx⟩:∃ x,L[k]?=some x:=⟨L[k]'(by rw [← HNe.out];exact hk2),List.getElem?_eq_getElem _⟩;have h1:=((HH.out.gr gv).frk.2.cells (p:=x.1) (f:=x.2) hx).1;rw [h1,HH.out.rl.page HIn.out hx]
 clear h hk hne hin hcl hpl hrl hNe hhd
 go_enter Tryz.func71,Tryz.ntmps71
 go_upto_block 0 with fail
 go_cut [2] (fun s2 wc=>s2=.int .i64 (P.behind:Int)∧Hid (Gr w wc∧wc.heap.size=w.heap.size))
 case first=>
  go_wp2_with fail
  go_loopw [2] (fun iv wr=>∃ k:Nat,k≤N∧iv=.int .i64 (k:Int)∧Hid (Gr w wr∧wr.heap.size=w.heap.size)∧Hid (∀ j,j < k→((P.pages.getD j 0:Nat):Int)≤hd)) (fun iv _=>N - (intOf iv).toNat)
  case atStart=>exact ⟨0,Nat.zero_le _,rfl,Lib.hid ⟨Gr.refl _,rfl⟩,Lib.hid fun j hj=>by omega⟩
  case round=>
   obtain ⟨k,hk,rfl,HG,HJ⟩:=hrel;obtain ⟨c1,c5⟩:=HC.out wr HG.out.1
   have hw:IntKind.i64.wrap ((k:Int)+1)=((k+1:Nat):Int):=by rw [IntWalk.i64_in _ (by omega)];omega
   by_cases hlt:k < N
   ·
    obtain ⟨pg,hpg⟩:∃ pg,pg=P.pages.getD k 0:=⟨_,rfl⟩;have c2:=HPg.out wr HG.out.1 k hlt
    rw [← hpg] at c2
    have HPk:=Lib.hid hpg;clear hpg;have g3:decide ((k:Int) < (N:Int))=true:=decide_eq_true (by omega)
    have g4:(k:Int) < (N:Int):=by omega
    by_cases hle:(pg:Int)≤hd
    ·
     have g5:decide ((pg:Int)≤hd)=true:=decide_eq_true hle;go_wp2_with fail
     go_quiet (fail)
     go_wp2_with fail;refine ⟨⟨k+1,by omega,by go_num,Lib.hid ⟨Gr.trans HG.out.1 ⟨rfl,rfl,rfl,Nat.le_refl _,fun _ _=>rfl⟩,HG.out.2⟩,Lib.hid fun j hj=>?_⟩,by simp [intOf];omega⟩
     rcases Nat.lt_or_ge j k with h1 | h1
     · exact HJ.out j h1
     ·
      obtain rfl:j=k:=by omega
      rw [← HPk.out];exact hle
    ·
     have g5:decide ((pg:Int)≤hd)=false:=decide_eq_false hle;have HB:Hid (P.behind=k):=Lib.hid (behind_is (by rw [HLen.out.1];omega) (fun j hj=>by rw [← HHd.out];exact HJ.out j hj) (fun _=>by rw [← HHd.out,← HPk.out];omega));go_wp2_with fail
     go_quiet (fail)
     go_wp2_with fail
     go_meet
     exact ⟨by rw [HB.out],Lib.hid ⟨Gr.trans HG.out.1 ⟨rfl,rfl,rfl,Nat.le_refl _,fun _ _=>rfl⟩,HG.out.2⟩⟩
   ·
    have g3:decide ((k:Int) < (N:Int))=false:=decide_eq_false (by omega);have HB:Hid (P.behind=k):=Lib.hid (behind_is (by rw [HLen.out.1];omega) (fun j hj=>by rw [← HHd.out];exact HJ.out j hj) (fun h=>by rw [HLen.out.1] at h;omega));go_wp2_with fail
    go_quiet (fail)
    go_wp2_with fail
    go_meet
    exact ⟨by rw [HB.out],Lib.hid ⟨Gr.trans HG.out.1 ⟨rfl,rfl,rfl,Nat.le_refl _,fun _ _=>rfl⟩,HG.out.2⟩⟩
 case rest=>
  obtain ⟨rfl,hgw⟩:=hcut
  have HI0:Hid (GoI w wc b sv (.slice (some ⟨g,0,none⟩) N cap) P ss la N 0 P.behind):=Lib.hid ⟨⟨L,by rw [List.take_zero,Pl.off_nil];exact HH.out.gr hgw.out.1,HNe.out.symm⟩,Upd.of_gr hgw.out.1,Nat.zero_le _,fun s hs=>by omega,by
   have:=P.behind_le;have:=HLen.out.1;rw [if_pos (by omega)]
   rfl⟩
  clear hgw HC HPg
  go_upto_block 2 with fail
  go_cut [2,3] (fun s2 s3 wd=>∃ (t j:Nat),s2=.int .i64 (j:Int)∧s3=.pointer (some ⟨g,j*253,none⟩)∧Hid (∃ (L':List (Nat × PFr)) (p:Nat) (f:PFr),Upd (dpS b sv (.slice (some ⟨g,0,none⟩) N cap)) (dpS b sv (.slice (some ⟨g,0,none⟩) N cap)) w wd∧DpAt wd b sv (.slice (some ⟨g,0,none⟩) N cap) (P.off (P.round.take t)) ss la L'∧L'.length=N∧j < N∧L'[j]?=some (p,f)∧goingL P.usd P.round 1=[p]∧sparedL P.usd P.round 1=P.round.take t))
  case first=>
   go_wp2_with fail
   go_loopw [2,3] (fun iv fv wr=>∃ (t i:Nat),iv=.int .i64 (i:Int)∧i≤N∧Hid (GoI w wr b sv (.slice (some ⟨g,0,none⟩) N cap) P ss la N t i)) (fun _ _ wr=>usedAt wr g N)
   case atStart=>exact ⟨0,_,rfl,by have:=P.behind_le;have:=HLen.out.1;omega,HI0⟩
   case round=>
    obtain ⟨t,i,rfl,hiN,HJ⟩:=hrel;obtain ⟨L',p,f,hd',hL',hJ,hx',hu1,hu2⟩:=HJ.out.look HIn.out ⟨HLen.out.1,HLen.out.2.1,HLen.out.2.2.2⟩;have HD:=Lib.hid (And.intro hd' (And.intro hL' (And.intro hJ (And.intro hx' (And.intro hu1 hu2)))));have c1:=hd'.cells.2.1
    obtain ⟨J,hJe⟩:∃ J,J=if i=N then 0 else i:=⟨_,rfl⟩
    have c2:=(hd'.frk.2.cells hx').2.2.2.2;have f2:=hd'.frk.2.frozen ((if i=N then 0 else i)*253+252)
    rw [← hJe] at c2 f2 hJ
    have HJe:=Lib.hid hJe;have HlJ:=Lib.hid hJ;clear hd' hL' hx' hu1 hu2 hJ
    go_upto_if 34 with fail
    go_cut [2] (fun s2 we=>s2=.int .i64 (J:Int)∧wr=we)
    case first=>
     by_cases hi:i=N
     ·
      have g1:((N:Int)≤(i:Int)):=by omega
      have e1:J=0:=by rw [hJe,if_pos hi]
      clear hJe;go_wp2_with fail
      go_meet
      exact ⟨by rw [e1];rfl,rfl⟩
     ·
      have g1:¬ ((N:Int)≤(i:Int)):=by omega
      have e1:J=i:=by rw [hJe,if_neg hi]
      clear hJe;go_wp2_with fail
      go_meet
      exact ⟨by rw [e1],rfl⟩
    case rest=>
     obtain ⟨rfl,rfl⟩:=hcut;clear hJe
     have hJi:(J:Int) < (N:Int):=by have:=HlJ.out;omega
     have hJ0:(0:Int)≤(J:Int):=by omega
     have hw:IntKind.i64.wrap ((J:Int)+1)=((J+1:Nat):Int):=by rw [IntWalk.i64_in _ (by have:=HLen.out.2.2.1;omega)];omega
     cases hu:f.used with
     | true=>
      rw [hu] at c2
      go_wp2_with fail;obtain ⟨hd1,hl1,hj1,hx1,hu1,hu2⟩:=HD.out;obtain ⟨ht,hR⟩:=hu1 hu;have hs:=HJ.out.step (.inr (.inr rfl)) ⟨HLen.out.1,HLen.out.2.1,HLen.out.2.2.2⟩ hd1 hl1 hj1 hx1 hu ht hR
      rw [← HJe.out] at hs
      exact ⟨⟨t+1,J+1,by go_num,by have:=HlJ.out;omega,Lib.hid hs.1⟩,hs.2⟩
     | false=>
      rw [hu] at c2
      go_wp2_with fail
      go_meet
      obtain ⟨hd1,hl1,hj1,hx1,hu1,hu2⟩:=HD.out
      rw [← HJe.out] at hx1
      exact ⟨t,J,rfl,rfl,Lib.hid ⟨L',p,f,HJ.out.up,hd1,hl1,HlJ.out,hx1,hu2 hu⟩⟩
  case rest=>
   obtain ⟨t,j,rfl,rfl,hR⟩:=hcut;obtain ⟨L',p,f,hup,hd1,hl1,hj,hx1,hg1,hsp⟩:=hR.out
   rw [← hsp] at hd1
   have hPf:=hd1.rl.at hx1
   have hcl1:=HCl.out.off (sparedL P.usd P.round 1);obtain ⟨hfin,hpl⟩:=hcl1.inn p f hPf;have HO:=Lib.hid (dout_any (L:=L') (cap:=cap) (by rw [hl1];exact hd1) hx1 hfin hpl)
   rw [ssO_off,hl1] at HO
   have c1:=hd1.cells.2.1;have HX1:=Lib.hid hx1;have HG1:=Lib.hid hg1;have HUp:=Lib.hid hup;have HL1:=Lib.hid hl1
   have hj0:(0:Int)≤(j:Int):=by omega
   have hj1:(j:Int) < (N:Int):=by omega
   have hw:IntKind.i64.wrap ((j:Int)+1)=((j+1:Nat):Int):=by rw [IntWalk.i64_in _ (by have:=HLen.out.2.2.1;omega)];omega
   have HJ:=Lib.hid hj;have HN3:=Lib.hid HLen.out.2.2.1;clear hR hd1 hx1 hg1 hsp hPf hcl1 hfin hpl hup hl1 HI0 HLen;go_wp2_with fail;refine HO.out.mono ?_;rintro e w2 ⟨rfl,hd2,hu2⟩;have HD2:=Lib.hid hd2;have HU2:=Lib.hid hu2
   have hx2:(L'.set j (p,{ f with dirty:=false }))[j]?=some (p,{ f with dirty:=false }):=by rw [List.getElem?_set,if_pos rfl,if_pos (by rw [HL1.out];exact HJ.out)]
   have c1:=hd2.cells.2.1;have c2:=(hd2.frk.2.cells hx2).1;have c5:=hd2.cells.2.2.2.2.2;have f5:=hd2.blk.frozen 5;have HX2:=Lib.hid hx2;obtain ⟨W3,hW3⟩:∃ W3,W3=w2.setCell ⟨b,5,none⟩ (.int .i64 (p:Int)):=⟨_,rfl⟩;have HD3:Hid (DpAt W3 b sv (.slice (some ⟨g,0,none⟩) N cap) { (P.off (sparedL P.usd P.round 1)).put p { f with dirty:=false } with hand:=(p:Int) } (ssO P ss p) la (L'.set j (p,{ f with dirty:=false }))):=Lib.hid (by rw [hW3];exact hd2.hand (p:Int));have HW3:=Lib.hid hW3.symm
   have HU3:Hid (Upd (dpS b sv (.slice (some ⟨g,0,none⟩) N cap)) (dpS b sv (.slice (some ⟨g,0,none⟩) N cap)) w W3):=Lib.hid (by
    have ho:=Onc.cell b w2 5 (.int .i64 (p:Int));rw [hW3]
    exact (HUp.out.comp hu2).comp ⟨ho.os,ho.tape,ho.output,Nat.le_of_eq ho.size.symm,fun k hk2 hn=>ho.block k fun e=>hn (.inl e),fun k hk2=>.inl hk2⟩)
   clear hd2 hu2 hx2 hW3
   go_upto_region 11 with fail
   rw [HW3.out];clear c1 c2 c5 f5;obtain ⟨M,hM⟩:∃ M,M=L'.set j (p,{ f with dirty:=false }):=⟨_,rfl⟩;have HLM:Hid (M.length=N):=Lib.hid (by rw [hM,List.length_set];exact HL1.out)
   rw [← hM] at HD3 HX2
   obtain ⟨base,hbase⟩:∃ base,base=W3.heap.size:=⟨_,rfl⟩;have HBe:=Lib.hid hbase;have HBa:Hid (base≤W3.heap.size):=Lib.hid (Nat.le_of_eq hbase)
   have HC1:Hid (∀ V,Gr W3 V→V.cell? ⟨b,1,none⟩=some (.slice (some ⟨g,0,none⟩) N cap)):=Lib.hid fun V gv=>((HD3.out.gr gv).cells).2.1
   have HFz:Hid (∀ V,Gr W3 V→V.frozen? ⟨b,1,none⟩=false):=Lib.hid fun V gv=>(HD3.out.gr gv).blk.frozen 1
   obtain ⟨A,hA⟩:∃ A,A=if cap=j+1 then 0 else (j+1)*253:=⟨_,rfl⟩
   obtain ⟨MA,hMA⟩:∃ MA,MA=M.take j:=⟨_,rfl⟩;obtain ⟨MB,hMB⟩:∃ MB,MB=M.drop (j+1):=⟨_,rfl⟩
   have HSegL:Hid (∀ V,Gr W3 V→Seg V (.slice (some ⟨g,0,none⟩) j cap) MA):=Lib.hid fun V gv=>by
    have h:=(HD3.out.gr gv).frk.2.seg (k:=0) (m:=j) (c:=cap) (by rw [HLM.out];have:=HJ.out;omega)
    rw [Nat.zero_mul,List.drop_zero,← hMA] at h
    exact h
   have HSegR:Hid (∀ V,Gr W3 V→Seg V (.slice (some ⟨g,A,none⟩) (N - (j+1)) (cap - (j+1))) MB):=Lib.hid fun V gv=>by
    have hk:=(HD3.out.gr gv).frk.2
    by_cases e:cap=j+1
    ·
     have hle:=hk.le
     have hn:N=j+1:=by have:=HJ.out;have:=HLM.out;omega
     rw [hMB,List.drop_of_length_le (by rw [HLM.out];omega),show N - (j+1)=0 by omega];exact Seg.none _ _ _ _
    ·
     have h:=hk.seg (k:=j+1) (m:=N - (j+1)) (c:=cap - (j+1)) (by rw [HLM.out];have:=HJ.out;omega)
     rw [List.take_of_length_le (by rw [List.length_drop,HLM.out];omega),← hMB] at h
     rw [hA,if_neg e];exact h
   have HLn:Hid (([]:List (Nat × PFr)).length+MA.length≤200000∧MA.length+MB.length≤200000):=Lib.hid (by
    have h1:=HLM.out;have h2:=HN3.out
    have e1:MA.length≤N:=by rw [hMA,List.length_take];omega
    have e2:MB.length≤N:=by rw [hMB,List.length_drop];omega
    simp only [List.length_nil]
    omega)
   have HCap:Hid (N≤cap):=Lib.hid (by have:=HD3.out.frk.2.le;have:=HLM.out;omega);have hcL:=run_cutFdL g N cap j (by have:=HJ.out;have:=HCap.out;omega)
   have hcR:∀ V,(Instr.sliceAt TFs (.slice (some ⟨g,0,none⟩) N cap) (some (.int .i64 ((j:Int)+1))) none none).run Tryz.prog V=.ok (.slice (some ⟨g,A,none⟩) (N - (j+1)) (cap - (j+1))) V:=fun V=>by
    have h:=run_cutFdR g N cap (j+1) (by have:=HJ.out;omega) V
    rw [← hA,show ((j+1:Nat):Int)=(j:Int)+1 by omega] at h
    exact h
   have HMM:=Lib.hid (And.intro hM (And.intro hMA hMB));clear hM hbase hA hMA hMB;refine Flow.regionZ 18 18 (by kernel_rfl) [] 20 (SlGo b g N cap j A base MA MB) (Gr W3) (FinGo b base (MA++MB) W3) (fun _=>True) GGo (by kernel_rfl) (by kernel_rfl) (by kernel_rfl) ?mono ⟨rfl,rfl,rfl,Nat.le_refl _,fun _ _=>rfl⟩ True.intro ?steps ?fin
   case mono=>
    intro i d v w w' hb hs hg
    rcases hg with hg | hg | hg
    ·
     subst hg;have hm:=Flow.bears2_only [70,86,87] (by kernel_rfl) hb
     simp only [List.mem_cons,List.mem_nil_iff,or_false] at hm
     rcases hm with rfl | rfl | rfl <;> exact hs
    ·
     subst hg;have hm:=Flow.bears2_only [] (by kernel_rfl) hb
     cases hm
    · exact slGo_gr hs hg
   case steps=>
    refine .cons (fun a W hfr hinv hear hdep K hK=>?_) ?_
    · have t0:=tAt (.pointer (some ⟨b,0,none⟩)) (hfr.at 0 (by kernel_rfl));refine fW0 rfl ?_;clear hfr hdep hear;go_simp;exact hK _ _ (.inr (.inr (Gr.refl W))) hinv (fun _=>True.intro) (dsT rfl)
    refine .cons (fun a W hfr hinv hear hdep K hK=>?_) ?_
    · have t0:=tAt (.pointer (some ⟨b,0,none⟩)) (hfr.at 0 (by kernel_rfl));refine fW0 rfl ?_;clear hfr hdep hear;go_simp;exact hK _ _ (.inr (.inr (Gr.refl W))) hinv (fun _=>True.intro) (dsT rfl)
    refine .cons (fun a W hfr hinv hear hdep K hK=>?_) ?_
    · have t71:=tAt (.pointer (some ⟨b,0,none⟩)) (hdep 71 (by kernel_rfl));refine fW0 rfl ?_;clear hfr hdep hear;go_simp;exact hK _ _ (.inr (.inr (Gr.refl W))) hinv (fun _=>True.intro) (dsT rfl)
    refine .cons (fun a W hfr hinv hear hdep K hK=>?_) ?_
    · have t72:=tAt (.pointer (some ⟨b,0,none⟩)) (hdep 72 (by kernel_rfl));refine fW0 rfl ?_;clear hfr hdep hear;go_simp;exact hK _ _ (.inr (.inr (Gr.refl W))) hinv (fun _=>True.intro) (dsT rfl)
    refine .cons (fun a W hfr hinv hear hdep K hK=>?_) ?_
    · have t73:=tAt (.pointer (some ⟨b,1,none⟩)) (hdep 73 (by kernel_rfl));have hc:=HC1.out W hinv;refine fW0 rfl ?_;clear hfr hdep hear;go_simp;exact hK _ _ (.inr (.inr (Gr.refl W))) hinv (fun _=>True.intro) (dsT rfl)
    refine .cons (fun a W hfr hinv hear hdep K hK=>?_) ?_
    · have t2:=tAt (.int .i64 (j:Int)) (hfr.at 2 (by kernel_rfl));refine fW0 rfl ?_;clear hfr hdep hear;go_simp;exact hK _ _ (.inr (.inr (Gr.refl W))) hinv (fun _=>True.intro) (dsT rfl)
    refine .cons (fun a W hfr hinv hear hdep K hK=>?_) ?_
    · have t74:=tAt (.slice (some ⟨g,0,none⟩) N cap) (hdep 74 (by kernel_rfl));have t75:=tAt (.int .i64 (j:Int)) (hdep 75 (by kernel_rfl));refine fW0 rfl ?_;clear hfr hdep hear;go_simp;exact hK _ _ (.inr (.inr (Gr.refl W))) hinv (fun _=>True.intro) (dsT rfl)
    refine .cons (fun a W hfr hinv hear hdep K hK=>?_) ?_
    ·
     have s76:a.tmps.getD 76 undef=.slice (some ⟨g,0,none⟩) j cap:=hdep 76 (by kernel_rfl);have t76:=tmpAt s76;refine fW0 rfl ?_;clear hfr hdep;refine wp_app_fd (.const (.slice none 0 0)) (.tmp 76) rfl rfl (FR.nil W) s76 (HSegL.out W hinv) HLn.out.1 (fun v1 w1 h1 h2 h3=>?_)
     rw [List.nil_append] at h1
     have gv:Gr W w1:=⟨h2.os,h2.tape,h2.output,h2.size,fun k hk=>h2.block k hk (fun e=>by cases e)⟩;obtain ⟨p1,c1,e1⟩:=h1.shape;exact hK _ _ (.inr (.inr gv)) (Gr.trans hinv gv) (fun _=>True.intro) (fun d hd=>by cases hd;exact ⟨p1,_,c1,e1,h1,fun k hk=>h3.elim (fun e3=>by rw [e3] at hk;cases hk) (fun e3=>by rw [e3] at hk;cases hk;exact Nat.le_trans HBa.out hinv.size)⟩)
    refine .cons (fun a W hfr hinv hear hdep K hK=>?_) ?_
    · have t0:=tAt (.pointer (some ⟨b,0,none⟩)) (hfr.at 0 (by kernel_rfl));refine fW0 rfl ?_;clear hfr hdep hear;go_simp;exact hK _ _ (.inr (.inr (Gr.refl W))) hinv (fun _=>True.intro) (dsT rfl)
    refine .cons (fun a W hfr hinv hear hdep K hK=>?_) ?_
    · have t78:=tAt (.pointer (some ⟨b,0,none⟩)) (hdep 78 (by kernel_rfl));refine fW0 rfl ?_;clear hfr hdep hear;go_simp;exact hK _ _ (.inr (.inr (Gr.refl W))) hinv (fun _=>True.intro) (dsT rfl)
    refine .cons (fun a W hfr hinv hear hdep K hK=>?_) ?_
    · have t79:=tAt (.pointer (some ⟨b,0,none⟩)) (hdep 79 (by kernel_rfl));refine fW0 rfl ?_;clear hfr hdep hear;go_simp;exact hK _ _ (.inr (.inr (Gr.refl W))) hinv (fun _=>True.intro) (dsT rfl)
    refine .cons (fun a W hfr hinv hear hdep K hK=>?_) ?_
    · have t80:=tAt (.pointer (some ⟨b,1,none⟩)) (hdep 80 (by kernel_rfl));have hc:=HC1.out W hinv;refine fW0 rfl ?_;clear hfr hdep hear;go_simp;exact hK _ _ (.inr (.inr (Gr.refl W))) hinv (fun _=>True.intro) (dsT rfl)
    refine .cons (fun a W hfr hinv hear hdep K hK=>?_) ?_
    · have t2:=tAt (.int .i64 (j:Int)) (hfr.at 2 (by kernel_rfl));refine fW0 rfl ?_;clear hfr hdep hear;go_simp;exact hK _ _ (.inr (.inr (Gr.refl W))) hinv (fun _=>True.intro) (dsT rfl)
    refine .cons (fun a W hfr hinv hear hdep K hK=>?_) ?_
    · have t82:=tAt (.int .i64 (j:Int)) (hdep 82 (by kernel_rfl));refine fW0 rfl ?_;clear hfr hdep hear;go_simp;exact hK _ _ (.inr (.inr (Gr.refl W))) hinv (fun _=>True.intro) (dsT rfl)
    refine .cons (fun a W hfr hinv hear hdep K hK=>?_) ?_
    · have t81:=tAt (.slice (some ⟨g,0,none⟩) N cap) (hdep 81 (by kernel_rfl));have t83:=tAt (.int .i64 ((j:Int)+1)) (hdep 83 (by kernel_rfl));refine fW0 rfl ?_;clear hfr hdep hear;go_simp;exact hK _ _ (.inr (.inr (Gr.refl W))) hinv (fun _=>True.intro) (dsT rfl)
    refine .cons (fun a W hfr hinv hear hdep K hK=>?_) ?_
    · have s77:OwnF base MA (a.tmps.getD 77 undef) W:=hdep 77 (by kernel_rfl);have s84:a.tmps.getD 84 undef=.slice (some ⟨g,A,none⟩) (N - (j+1)) (cap - (j+1)):=hdep 84 (by kernel_rfl);have t84:=tmpAt s84;refine fW0 rfl ?_;clear hfr hdep;obtain ⟨p1,n1,c1,e1,f1,g1⟩:=s77;refine wp_app_fd (.tmp 77) (.tmp 84) rfl rfl f1 s84 (HSegR.out W hinv) HLn.out.2 (fun v2 w2 h1 h2 h3=>?_);have gv:Gr W3 w2:=⟨h2.os.trans hinv.os,h2.tape.trans hinv.tape,h2.output.trans hinv.output,Nat.le_trans hinv.size h2.size,fun k hk=>(h2.block k (Nat.lt_of_lt_of_le hk hinv.size) (fun e=>by have:=g1 k e.symm;have:=HBe.out;omega)).trans (hinv.block k hk)⟩;obtain ⟨p2,c2,e2⟩:=h1.shape;exact hK _ _ (.inl rfl) gv (fun _=>True.intro) (fun d hd=>by cases hd;exact ⟨p2,_,c2,e2,h1,fun k hk=>h3.elim (fun e3=>by rw [e3] at hk;exact g1 k hk) (fun e3=>by rw [e3] at hk;cases hk;exact Nat.le_trans HBa.out hinv.size)⟩)
    refine .cons (fun a W hfr hinv hear hdep K hK=>?_) ?_
    · have t70:=tAt (.pointer (some ⟨b,0,none⟩)) (hdep 70 (by kernel_rfl));refine fW0 rfl ?_;clear hfr hdep hear;go_simp;exact hK _ _ (.inr (.inr (Gr.refl W))) hinv (fun _=>True.intro) (dsT rfl)
    refine .cons (fun a W hfr hinv hear hdep K hK=>?_) ?_
    · have t86:=tAt (.pointer (some ⟨b,0,none⟩)) (hdep 86 (by kernel_rfl));refine fW0 rfl ?_;clear hfr hdep hear;go_simp;exact hK _ _ (.inr (.inr (Gr.refl W))) hinv (fun _=>True.intro) (dsT rfl)
    refine .cons (fun a W hfr hinv hear hdep K hK=>?_) ?_
    ·
     have t87:=tAt (.pointer (some ⟨b,1,none⟩)) (hdep 87 (by kernel_rfl));have s85:OwnF base (MA++MB) (a.tmps.getD 85 undef) W:=hdep 85 (by kernel_rfl);refine fW0 rfl ?_;clear hfr hdep;obtain ⟨p2,n2,c2,e2,f2,g2⟩:=s85;have t85:=tmpAt e2
     rw [e2] at f2 g2
     have hc:=HC1.out W hinv;have hfz:=HFz.out W hinv;clear hear;go_simp;exact hK undef _ (.inr (.inl rfl)) ⟨W,p2,n2,c2,hinv,f2,g2,rfl⟩ True.intro (fun d hd=>by cases hd)
    exact True.intro
   case fin=>
    intro a W hfr hfin hsl
    have e:=Flow.frame hfr [70,71,72,73,74,75,76,77,78,79,80,81,82,83,84,85,86,87] (List.range 88) (by kernel_rfl) (by kernel_rfl)
    simp [List.range,List.range.loop] at e
    rw [e];clear e hfr hsl;obtain ⟨V,p2,n2,c2,hg,hF,hfr2,rfl⟩:=hfin;obtain ⟨e1,e2,e3⟩:=HMM.out;have hd3:=HD3.out;have her:=hd3.rl.erase HX2.out
    rw [← e2,← e3] at her
    have hml:(MA++MB).length≤65536:=by
     have h1:=HLM.out;have h2:=HN3.out;have h3:=HJ.out;rw [List.length_append,e2,e3,List.length_take,List.length_drop]
     omega
    have hfin2:=Lib.hid (DpAt.turn1 HG1.out rfl (hd3.gr hg) hF hfr2 (fun q hq=>by rw [HBe.out];exact hd3.low q hq) her hml);have ho:=Onc.cell b V 1 (.slice p2 n2 c2)
    have h4:Upd (dpS b sv (.slice (some ⟨g,0,none⟩) N cap)) (dpS b sv (.slice p2 n2 c2)) W3 (V.setCell ⟨b,1,none⟩ (.slice p2 n2 c2)):=⟨ho.os.trans hg.os,ho.tape.trans hg.tape,ho.output.trans hg.output,by rw [ho.size];exact hg.size,fun k hk hn=>(ho.block k fun e=>hn (.inl e)).trans (hg.block k hk),fun k hk=>by
     rcases hk with hk | hk | hk
     · exact .inl (.inl hk)
     · exact .inl (.inr (.inl hk))
     · exact .inr (by rw [← HBe.out];exact hfr2 k hk)⟩
    have h5:=HU3.out.comp h4;clear hd3 her ho h4 hml hF hfr2 e1 e2 e3 hg;exact bodyPost_end (results_none rfl _ _ _) rfl ⟨rfl,_,_,p,HG1.out,hfin2.out,h5⟩
end
end Go.Proofs.YtdmhemgepdknhaaGreat
namespace Go.Proofs.YtdmhemgepdknhaaGreat
open Go.RowKit Go.Maps
section
variable {w w':World} {b:Nat} {sv av av':Value} {P Q:Pl} {ss sq:List Sec} {la:Nat} {L M:List (Nat × PFr)}
theorem Pl.g1_none (P:Pl) {g:Nat} (h:goingL P.usd P.round 1=[g]) (i:Nat):P.g1.fr i=none ↔ (i=g∨P.fr i=none):=by
 rcases P.g1_fr h i with ⟨h1,h2⟩ | ⟨f,f0,h1,h2,h3,_⟩
 · exact ⟨fun _=>h2,fun _=>h1⟩
 ·
  rw [h1,h2];refine ⟨fun e=>(by cases e),fun e=>?_⟩
  rcases e with e | e
  · exact absurd e h3
  · cases e
theorem Pl.g1_in (P:Pl) {g:Nat} (h:goingL P.usd P.round 1=[g]):g < 65536∧P.fr g≠none:=P.round_mem (goingL_mem (by rw [h];exact List.mem_cons_self))
theorem Pl.g1_pages (P:Pl) {g:Nat} (h:goingL P.usd P.round 1=[g]):P.g1.pages.length+1=P.pages.length:=by
 have hm:g ∈ P.pages:=(P.mem_pages g).2 (P.g1_in h);have hr:=P.pages_rise
 have hnd:P.pages.Nodup:=hr.imp fun h=>by omega
 have e:P.g1.pages=P.pages.erase g:=P.g1.pages_is (hr.sublist List.erase_sublist) fun i=>by
  rw [hnd.mem_erase_iff,P.mem_pages]
  constructor
  · rintro ⟨h1,h2,h3⟩;exact ⟨h2,fun h4=>by rcases (P.g1_none h i).1 h4 with h5 | h5;exact h1 h5;exact h3 h5⟩
  · rintro ⟨h1,h2⟩;exact ⟨fun e=>h2 ((P.g1_none h i).2 (.inl e)),h1,fun e=>h2 ((P.g1_none h i).2 (.inr e))⟩
 rw [e,List.length_erase_of_mem hm];have:=List.length_pos_of_mem hm
 omega
theorem Pl.g1_hand (P:Pl) {g:Nat} (h:goingL P.usd P.round 1=[g]):P.g1.hand=(g:Int):=Pl.leave_hand _ (by rw [h];rfl)
def Pl.room (P:Pl):Nat:=if P.held then 0 else P.many
def Pl.dfr (P:Pl) (ss:List Sec) (p:Nat):Pl × List Sec:=match P.fr p with
 | some f=>(P.use p f,ss)
 | none=>((P.gN P.room).use p (frS (secN ((P.gS P.room ss).getD p Sec.zero))),P.gS P.room ss)
structure DrI (w0 w:World) (b:Nat) (sv av0 av:Value) (P Q:Pl) (ss sq:List Sec) (la:Nat) (L:List (Nat × PFr)):Prop where
 g:Q.gN Q.room=P.gN P.room
 s:Pl.gS Q.room Q sq=P.gS P.room ss
 at_:DpAt w b sv av Q sq la L
 cl:Cl Q sq
 hin:∀ i,65536≤i→Q.fr i=none
 h0 : -1≤Q.hand
 h1:Q.hand < 65536
 most:Q.most=P.most
 held:Q.held=P.held
 len:sq.length=ss.length
 no:∀ i,P.fr i=none→Q.fr i=none
 up:Upd (dpS b sv av0) (dpS b sv av) w0 w
theorem DrI.start (h:DpAt w b sv av P ss la L) (hcl:Cl P ss) (hin:∀ i,65536≤i→P.fr i=none) (hh : -1≤P.hand∧P.hand < 65536):DrI w w b sv av av P P ss ss la L:=
 ⟨rfl,rfl,h,hcl,hin,hh.1,hh.2,rfl,rfl,rfl,fun _ h=>h,Upd.of_gr (Gr.refl w)⟩
theorem DrI.pages {w0:World} {av0:Value} (h:DrI w0 w b sv av0 av P Q ss sq la L):Q.pages.length=L.length:=h.at_.rl.len h.hin
theorem Pl.room_none {Q:Pl} (h:Q.held=true∨(Q.pages.length:Int) < Q.most):Q.room=0:=by
 unfold Pl.room Pl.many
 rcases h with h | h
 · rw [h];rfl
 ·
  split
  · rfl
  · omega
theorem Pl.room_g1 {Q:Pl} {g:Nat} (h1:Q.held=false) (h2:Q.most≤(Q.pages.length:Int)) (h:goingL Q.usd Q.round 1=[g]):Q.room=Q.g1.room+1:=by
 have e:=Q.g1_pages h;have r:=Q.g1_rest
 unfold Pl.room Pl.many
 rw [r.1,r.2,h1]
 simp only [Bool.false_eq_true,if_false]
 omega
theorem Pl.gS_more (n:Nat) (P:Pl) (ss:List Sec) {g:Nat} (h:goingL P.usd P.round 1=[g]):Pl.gS (n+1) P ss=Pl.gS n P.g1 (ssO P ss g):=by
 rw [Pl.gS,h]
theorem DrI.step {w0:World} {av0:Value} {g:Nat} (h:DrI w0 w b sv av0 av P Q ss sq la L) (h1:Q.held=false) (h2:Q.most≤(Q.pages.length:Int)) (hg:goingL Q.usd Q.round 1=[g]) (hd:DpAt w' b sv av' Q.g1 (ssO Q sq g) la M) (hu:Upd (dpS b sv av) (dpS b sv av') w w'):DrI w0 w' b sv av0 av' P Q.g1 ss (ssO Q sq g) la M:=by
 have e:=Pl.room_g1 h1 h2 hg;have hgg:=h.g;have hss:=h.s
 rw [e] at hgg hss
 have e3:Pl.gS (Q.g1.room+1) Q sq=Pl.gS Q.g1.room Q.g1 (ssO Q sq g):=by
  rw [Pl.gS_more _ _ _ hg]
 rw [e3] at hss
 have hi:=Q.g1_in hg;refine ⟨hgg,hss,hd,h.cl.g1 hg,fun i hi2=>(Q.g1_none hg i).2 (.inr (h.hin i hi2)),?_,?_,Q.g1_rest.1.trans h.most,Q.g1_rest.2.trans h.held,(ssO_len _ _ _).trans h.len,fun i hi2=>(Q.g1_none hg i).2 (.inr (h.no i hi2)),h.up.comp hu⟩
 · rw [Q.g1_hand hg];omega
 · rw [Q.g1_hand hg];omega
theorem DrI.done {w0:World} {av0:Value} (h:DrI w0 w b sv av0 av P Q ss sq la L) (hn:Q.room=0):Q=P.gN P.room∧sq=P.gS P.room ss:=by
 have h1:=h.g;have h2:=h.s
 rw [hn] at h1 h2
 exact ⟨h1,h2⟩
def allAt (w:World) (b:Nat):Nat:=match w.cell? ⟨b,1,none⟩ with
 | some (.slice _ n _)=>n
 | _=>0
theorem Pl.pages_most (P:Pl):P.pages.length≤65536:=by
 unfold Pl.pages
 exact Nat.le_trans (List.length_filter_le _ _) (by rw [List.length_range];exact Nat.le_refl _)
end
end Go.Proofs.YtdmhemgepdknhaaGreat
