/-
  Texts, put together: Pool24 Pool25 Pool26 Wal24.
-/
import Derived.Laws.CopyOwn
import Derived.Test.YtdmhemgepdknhaaGreatV1
import Derived.Test.YtdmhemgepdknhaaGreatV22
import Derived.Test.YtdmhemgepdknhaaGreatV27
import Derived.Test.YtdmhemgepdknhaaGreatV28
set_option linter.unusedVariables false
set_option linter.unusedSimpArgs false
namespace Go.Proofs.YtdmhemgepdknhaaGreat
open Go.RowKit Go.Maps

/-- Only one block has turned. -/
structure Onc (c:Nat) (w w':World):Prop where
  os:w'.os=w.os
  tape:w'.tape=w.tape
  output:w'.output=w.output
  size:w'.heap.size=w.heap.size
  block:∀ k,k≠c→w'.heap[k]?=w.heap[k]?
theorem Onc.refl (c:Nat) (w:World):Onc c w w:=⟨rfl,rfl,rfl,rfl,fun _ _=>rfl⟩
theorem Onc.trans {c:Nat} {w1 w2 w3:World} (h:Onc c w1 w2) (k:Onc c w2 w3):Onc c w1 w3:=⟨k.os.trans h.os,k.tape.trans h.tape,k.output.trans h.output,k.size.trans h.size,fun q hq=>(k.block q hq).trans (h.block q hq)⟩
theorem Onc.cell (c:Nat) (w:World) (o:Nat) (u:Value):Onc c w (w.setCell ⟨c,o,none⟩ u):=by
  have hb:=(Below.refl 0 w).setCell (p:=⟨c,o,none⟩) (Nat.zero_le _) u
  exact ⟨hb.os,hb.tape,hb.output,by simp,fun k hk=>Below.heap_setCell w _ _ k hk⟩
theorem Onc.upd {c:Nat} {w w':World} (h:Onc c w w'):Upd (fun q=>q=c) (fun q=>q=c) w w':=⟨h.os,h.tape,h.output,Nat.le_of_eq h.size.symm,fun k _ hk=>h.block k hk,fun _ hk=>.inl hk⟩
theorem Onc.row (c:Nat) (w:World) (cs:Array Value):Onc c w (w.setRow c cs):=⟨rfl,rfl,rfl,by simp,fun k hk=>setRow_other w c k cs hk⟩
theorem PFr.In.laid {f:PFr} (h:f.In) {F:Nat} {ys:List Int} (k:Wd.Small ys) (hf:F+ys.length≤248):({ f with pay:=Play f.pay F ys }:PFr).In:=⟨Play_sec h.pay k hf,h.l,h.f⟩
theorem Play_nil (xs:List Int) (F:Nat):Play xs F []=xs:=by simp [Play]
/-- copy(f.payload[off:],bytes). -/
theorem wpList_copy_fr {w:World} {ops:Array Oper} {rest:List Oper} {o:Oper} {a:Act} {Q:Exit→Act→World→Prop} (hgd:o.guard=none) (d s:Operand)
    (ho:o.op=.call { callee:=.builtin .copy,args:=#[d,s],argTypes:=#[31,31] }) {c F A:Nat} {f:PFr} (hA:A=if 248=F then 0 else F) (hd:a.eval d=.slice (some ⟨c,A,none⟩) (248 - F) (248 - F)) (hb:Blk w c TFr f.cells) (hx:f.In)
    {q:Option Addr} {m cc:Nat} {ys:List Int} (hs:a.eval s=.slice q m cc) (hy:Byt w q m cc ys) (hf:F+m≤248)
    (h:∀ w',Blk w' c TFr ({ f with pay:=Play f.pay F ys }:PFr).cells→Onc c w w'→wpList Tryz.prog ops Q rest (a.put o.dst (goInt m)) w'):wpList Tryz.prog ops Q (o :: rest) a w:=by
  have hl:=hy.len
  by_cases h0:m=0
  · subst h0
    obtain rfl:ys=[]:=List.eq_nil_of_length_eq_zero hl
    refine wpList_copy_nothing hgd d s _ _ ho 5 Pbt4.us Pbt4_size _ _ _ _ _ _ hd hs (by simp) ?_
    exact h w (by rw [Play_nil];exact hb) (Onc.refl c w)
  · obtain ⟨b,of,rfl,_⟩:=hy.at (by omega)
    have hAF:A=F:=by rw [hA,if_neg (by omega)]
    subst hAF
    refine wpList_copy_own hgd d s _ _ ho 5 Pbt4.us Pbt4_size c A (248 - A) (248 - A) ⟨b,of,none⟩ m cc hd hs f.cells TFr hb (ys.map (Value.int .u8)) (by rw [List.length_map,hl];exact (Nat.min_eq_left (by omega)).symm) hy.news (by rw [List.length_map,hl,f.size];omega) (u8s_oneCell _) ?_
    have e:=PFr.laid f hx.pay A ys hy.small (by rw [hl];exact hf)
    rw [List.append_assoc] at e
    rw [e,List.length_map,hl]
    exact h _ (hb.row _) (Onc.row c w _)
/-- What changing a page answers and leaves. -/
def Pl.pt (P:Pl) (N:Nat) (i o:Int) (ys:List Int) (first lsn:Nat) (s:St) (L:Lg):Int × Pl × St × Lg:=
  if askE N i≠0 then (askE N i,P,s,L) else if o < 0∨248 - (ys.length:Int) < o∨lsn=0 then (2,P,s,L) else
    if (P.us i.toNat s L).1≠0 then P.us i.toNat s L else
      (0,match (P.us i.toNat s L).2.1.fr i.toNat with
        | some f=>(P.us i.toNat s L).2.1.put i.toNat { f with pay:=Play f.pay o.toNat ys,lsn:=lsn,first:=if f.dirty then f.first else first,dirty:=true }
        | none=>(P.us i.toNat s L).2.1,(P.us i.toNat s L).2.2)
theorem run_cutF (c F:Nat) (h:F≤248) (w:World):(Instr.sliceAt PTS (.pointer (some ⟨c,0,none⟩)) (some (.int .i64 (F:Int))) none none).run Tryz.prog w=.ok (.slice (some ⟨c,if 248=F then 0 else F,none⟩) (248 - F) (248 - F)) w:=by
  have hl:Tryz.prog.arrayLen PTS=248:=by kernel_rfl
  have he:Tryz.prog.elem PTS=5:=by kernel_rfl
  have hu:Tryz.prog.underlying PTS=some (.array (Tryz.prog.arrayLen PTS) (Tryz.prog.elem PTS)):=by rw [hl,he];exact Punder_sec
  rw [run_sliceAt_array_l w PTS ⟨c,0,none⟩ hu .i64 (F:Int) (by omega) (by rw [hl];omega),he,Psize_u8]
  by_cases hE:248=F
  · subst hE;simp [slicedAt,Result.andThen,hl]
  · have h1:¬ F=248:=fun e=>hE e.symm
    simp [slicedAt,Result.andThen,hl,hE,Addr.add,h1]
    try (intro e;exact e.symm)
theorem PlOk.put {P:Pl} {N i:Nat} (h:PlOk P N) (hi:i < N) (f:PFr):PlOk (P.put i f) N:=⟨fun j hj=>by
    by_cases e:j=i
    · omega
    · refine h.lt j ?_
      have h1:(if j=i then some f else P.fr j)≠none:=hj
      rwa [if_neg e] at h1,h.n,h.h0,h.h1,h.m0,h.m1⟩
section
variable {w w' w1:World} {b m n:Nat} {pd pl:Value} {B:Nat→Option Nat} {P:Pl} {S:Nat→Prop} {s:St} {L:Lg} {N k R:Nat}
theorem PoAt.turn (h:PoAt w b m n pd pl B S P s L N k) {i c:Nat} {f:PFr} (hi:i < N) (hB:B i=some c) (hf:f.In) (hb:Blk w' c TFr f.cells) (ho:Onc c w w'):PoAt w' b m n pd pl B S (P.put i f) s L N k∧Upd (uS S b m B) (uS S b m B) w w':=
  ⟨⟨h.cd.stays (fun q hq=>ho.block q fun e=>h.ap q hq (.inr (.inr ⟨i,by rw [hB,e]⟩))) (Nat.le_of_eq ho.size.symm),h.pl.turn hB hf hb ho.block,h.ap,h.bud,h.ok.put hi f,h.cnt⟩,
    ⟨ho.os,ho.tape,ho.output,Nat.le_of_eq ho.size.symm,fun q _ hn=>ho.block q fun e=>hn (.inr (.inr (.inr ⟨i,by rw [hB,e]⟩))),fun _ hq=>.inl hq⟩⟩
theorem Byt.upd {F F':Nat→Prop} {p:Option Addr} {n c:Nat} {xs:List Int} (h:Byt w p n c xs) (u:Upd F F' w w') (hF:0 < n→∀ y,p=some y→¬ F y.block):Byt w' p n c xs:=by
  by_cases h0:n=0
  · subst h0
    obtain rfl:xs=[]:=List.eq_nil_of_length_eq_zero h.len
    exact ⟨rfl,h.cap,h.most,Lib.BytesIn.nil _ _ _,h.nilCap,h.small⟩
  · exact h.stays fun y hy=>u.block y.block (h.up (by omega) y hy) (hF (by omega) y hy)
set_option maxRecDepth 100000 in
set_option maxHeartbeats 2000000 in
theorem Put_any (h:PoAt w b m n pd pl B S P s L N k) (hR:R+2*N+1≤k) (i o:Int) {pb:Option Addr} {nb cb:Nat} {ys:List Int} (hy:Byt w pb nb cb ys) (hya:0 < nb→∀ y,pb=some y→¬ uS S b m B y.block) {first lsn:Nat} (hfi:first≤18446744073709551615) (hls:lsn≤18446744073709551615) :
    Calls Tryz.prog 14 #[.pointer (some ⟨b,0,none⟩),.int .i64 i,.int .i64 o,.slice pb nb cb,.int .u64 (first:Int),.int .u64 (lsn:Int)] w (RetPo (.int .i64 (P.pt N i o ys first lsn s L).1) (P.pt N i o ys first lsn s L).2.1 (P.pt N i o ys first lsn s L).2.2.1 (P.pt N i o ys first lsn s L).2.2.2 b m pd pl B S N R w):=by
  obtain ⟨F0,hd,-⟩:=h.cd.disk (w':=w)
  have HA:=pasked_any h.pl hd i
  rw [h.bud.len] at HA
  have HAk:=Lib.hid HA
  have HPo:=Lib.hid h
  have HY:=Lib.hid hy
  have hnb:nb≤9223372036854775807:=by have h1:=hy.cap;have h2:=hy.most;unfold maxLen at h2;omega
  have hyl:=hy.len
  have HB:Hid (first≤18446744073709551615∧lsn≤18446744073709551615∧nb≤9223372036854775807∧ys.length=nb∧R≤k∧Wd.Small ys):=Lib.hid ⟨hfi,hls,hnb,hyl,by omega,hy.small⟩
  have HU:Hid (askE N i=0→Calls Tryz.prog 41 #[.pointer (some ⟨b,0,none⟩),.int .i64 i] w fun e w'=>∃ er S' n' B',er=(P.us i.toNat s L).1∧PoAt w' b m n' pd pl B' S' (P.us i.toNat s L).2.1 (P.us i.toNat s L).2.2.1 (P.us i.toNat s L).2.2.2 N R∧Upd (uS S b m B) (uS S' b m B') w w'∧Byt w' pb nb cb ys ∧
      ((er≠0∧e=.returned (.tuple #[.pointer none,.int .i64 er]))∨(er=0∧∃ c f,e=.returned (.tuple #[.pointer (some ⟨c,0,none⟩),.int .i64 0])∧B' i.toNat=some c∧i.toNat < N∧Blk w' c TFr f.cells∧f.In∧(P.us i.toNat s L).2.1.fr i.toNat=some f∧(0 < nb→∀ y,pb=some y→y.block≠c)))):=Lib.hid fun ha=>by
    obtain ⟨ha0,ha1⟩:=askE_no ha
    obtain ⟨j,rfl⟩:∃ j:Nat,i=(j:Int):=⟨i.toNat,by omega⟩
    refine (use_any h (i:=j) (by omega) hR).mono ?_
    rintro e w' ⟨S',n',B',k1,k2,k3⟩
    refine ⟨_,S',n',B',rfl,k1,k2,hy.upd k2 hya,?_⟩
    rcases k3 with k3 | ⟨k3,c,f,k4,k5,k6⟩
    · exact .inl k3
    · obtain ⟨f2,n1,n2,n3⟩:=k1.pl.frs j c k5
      rw [show ((j:Int).toNat)=j from rfl] at *
      rw [k6] at n1
      cases n1
      refine .inr ⟨k3,c,f,k4,k5,by omega,n2,n3,k6,fun h0 y hy1 e=>?_⟩
      rcases k2.fresh c (.inr (.inr (.inr ⟨j,k5⟩))) with h4 | h4
      · exact hya h0 y hy1 (e ▸ h4)
      · have:=hy.up h0 y hy1;omega
  clear h hd HA hR hy hya hfi hls hyl
  go_enter Tryz.func14,Tryz.ntmps14
  go_wp2_with fail
  refine HAk.out.mono ?_
  rintro e w1 ⟨rfl,rfl⟩
  obtain ⟨ae,hae⟩:∃ ae,ae=askE N i:=⟨_,rfl⟩
  have HAe:=Lib.hid hae
  rw [← hae]
  clear hae HAk
  by_cases ha:ae=0
  · subst ha
    have hws:IntKind.i64.wrap (248 - (nb:Int))=248 - (nb:Int):=IntWalk.i64_in _ (by omega)
    by_cases hb:o < 0∨248 - (nb:Int) < o∨lsn=0
    · have HR:Hid (P.pt N i o ys first lsn s L=(2,P,s,L)):=Lib.hid (by
        unfold Pl.pt;rw [← HAe.out,if_neg (by simp),HB.out.2.2.2.1,if_pos hb])
      have HE:∀ ex,ex=P.pt N i o ys first lsn s L→RetPo (.int .i64 ex.1) ex.2.1 ex.2.2.1 ex.2.2.2 b m pd pl B S N R w (.returned (.int .i64 2)) w:=by
        rintro ex rfl
        rw [HR.out]
        exact ⟨rfl,S,n,B,HPo.out.lower HB.out.2.2.2.2.1,Upd.same _⟩
      have HEh:=Lib.hid (HE _ rfl)
      clear HE HU HAe
      by_cases h0:o < 0
      · have d0:decide (o < 0)=true:=decide_eq_true h0
        go_wp2_with fail
        go_ret
        exact HEh.out
      · have d0:decide (o < 0)=false:=decide_eq_false h0
        by_cases h1:248 - (nb:Int) < o
        · have d1:decide (248 - (nb:Int) < o)=true:=decide_eq_true h1
          go_wp2_with fail
          go_ret
          exact HEh.out
        · have d1:decide (248 - (nb:Int) < o)=false:=decide_eq_false h1
          have e2:lsn=0:=by omega
          have d2:((lsn:Int) == 0)=true:=by rw [e2];rfl
          clear e2
          go_wp2_with fail
          go_ret
          exact HEh.out
    · have d0:decide (o < 0)=false:=decide_eq_false fun e=>hb (.inl e)
      have d1:decide (248 - (nb:Int) < o)=false:=decide_eq_false fun e=>hb (.inr (.inl e))
      have d2:((lsn:Int) == 0)=false:=beq_eq_false_iff_ne.2 fun e=>hb (.inr (.inr (by omega)))
      have HGt:Hid (P.pt N i o ys first lsn s L=if (P.us i.toNat s L).1≠0 then P.us i.toNat s L else
        (0,match (P.us i.toNat s L).2.1.fr i.toNat with
          | some f=>(P.us i.toNat s L).2.1.put i.toNat { f with pay:=Play f.pay o.toNat ys,lsn:=lsn,first:=if f.dirty then f.first else first,dirty:=true }
          | none=>(P.us i.toNat s L).2.1,(P.us i.toNat s L).2.2)):=Lib.hid (by
        unfold Pl.pt;rw [← HAe.out,if_neg (by simp),HB.out.2.2.2.1,if_neg hb])
      obtain ⟨Fo,rfl⟩:∃ Fo:Nat,o=(Fo:Int):=⟨o.toNat,by have:=not_or.1 hb;omega⟩
      have HFo:Hid (Fo+nb≤248):=Lib.hid (by have:=not_or.1 hb;have:=not_or.1 this.2;omega)
      have HUs:=Lib.hid (HU.out HAe.out.symm)
      clear HU HAe hb
      go_wp2_with fail
      refine HUs.out.mono ?_
      rintro e w2 ⟨er,S',n',B',her,hpo,hu,hy,h3⟩
      have HE:=Lib.hid her
      have HP2:=Lib.hid hpo
      have HU2:=Lib.hid hu
      have HY2:=Lib.hid hy
      clear her hpo hu hy HUs
      rcases h3 with ⟨h3,rfl⟩ | ⟨rfl,c,f,rfl,hBc,hiN,hbc,hin,hf,hyc⟩
      · have hne:(er == 0)=false:=beq_eq_false_iff_ne.2 h3
        have HR:Hid (P.pt N i Fo ys first lsn s L=(er,(P.us i.toNat s L).2)):=Lib.hid (by rw [HGt.out,if_pos (by rw [← HE.out];exact h3),HE.out])
        clear h3 HGt HE
        go_wp2_with fail
        go_ret
        rw [HR.out]
        exact ⟨rfl,S',n',B',HP2.out,HU2.out⟩
      · have HR:Hid (P.pt N i Fo ys first lsn s L=(0,(P.us i.toNat s L).2.1.put i.toNat { f with pay:=Play f.pay Fo ys,lsn:=lsn,first:=if f.dirty then f.first else first,dirty:=true },(P.us i.toNat s L).2.2)):=Lib.hid (by
          rw [HGt.out,if_neg (by rw [← HE.out];simp),hf];rfl)
        have hcut:=run_cutF c Fo (by have:=HFo.out;omega)
        obtain ⟨A,hA⟩:∃ A,A=if 248=Fo then 0 else Fo:=⟨_,rfl⟩
        rw [← hA] at hcut
        have HAa:=Lib.hid hA
        have HEnd:Hid (∀ W f3,Onc c w2 W→Blk W c TFr f3.cells→f3=({ f with pay:=Play f.pay Fo ys,lsn:=lsn,first:=if f.dirty then f.first else first,dirty:=true }:PFr)→RetPo (.int .i64 (P.pt N i Fo ys first lsn s L).1) (P.pt N i Fo ys first lsn s L).2.1 (P.pt N i Fo ys first lsn s L).2.2.1 (P.pt N i Fo ys first lsn s L).2.2.2 b m pd pl B S N R w (.returned (.int .i64 0)) W):=Lib.hid fun W f3 ho hb3 e3=>by
          rw [HR.out]
          have hin3:f3.In:=by
            rw [e3]
            refine ⟨(hin.laid HB.out.2.2.2.2.2 (by rw [HB.out.2.2.2.1];exact HFo.out)).pay,HB.out.2.1,?_⟩
            show (if f.dirty then f.first else first)≤_
            split
            · exact hin.f
            · exact HB.out.1
          obtain ⟨k1,k2⟩:=HP2.out.turn hiN hBc hin3 hb3 ho
          rw [e3] at k1
          exact ⟨rfl,S',n',B',k1,HU2.out.trans k2⟩
        have k0:=PFr.c4 hbc
        have f1:=hbc.frozen 249
        have f2:=hbc.frozen 250
        have HIn:=Lib.hid hin
        have HYc:=Lib.hid hyc
        have HBc:=Lib.hid hbc
        obtain ⟨_,k1,k2,_⟩:=k0
        obtain ⟨dy,hdy⟩:∃ dy,dy=f.dirty:=⟨_,rfl⟩
        have HDy:=Lib.hid hdy
        rw [← hdy] at k2
        clear hf HGt HE hBc hiN hbc hin hA hdy hyc
        have HMid:Hid (∃ f3:PFr,f3=(if dy=true then f else ({ f with dirty:=true,first:=first }:PFr))∧f3.In):=Lib.hid ⟨_,rfl,by
          split
          · exact HIn.out
          · exact ⟨HIn.out.pay,HIn.out.l,HB.out.1⟩⟩
        obtain ⟨f3,hf3,hi3⟩:=HMid.out
        have HF3:=Lib.hid hf3
        have HI3:=Lib.hid hi3
        clear hf3 hi3 HMid
        cases dy with
        | true=>
          have HW3:Hid (Blk w2 c TFr f3.cells∧Onc c w2 w2∧Byt w2 pb nb cb ys):=Lib.hid ⟨by rw [HF3.out];exact HBc.out,Onc.refl _ _,HY2.out⟩
          clear k1 f1 f2
          go_wp2_with (refine wpList_copy_fr rfl (.tmp 60) (.tmp 61) rfl HAa.out rfl HW3.out.1 HI3.out rfl HW3.out.2.2 HFo.out ?_;intro W4 hb4 ho4;have HB4:=Lib.hid hb4;have HO4:=Lib.hid ho4;have m0:=(PFr.c4 hb4).1;have mf:=hb4.frozen 248;clear hb4 ho4)
          go_ret
          refine HEnd.out _ _ ((HW3.out.2.1.trans HO4.out).trans (Onc.cell c _ _ _)) (HB4.out.set 248 _ |> fun h=>by rw [PFr.setLsn] at h;exact h) ?_
          rw [HF3.out,← HDy.out]
          simp only [if_true]
          have hd:=HDy.out
          obtain ⟨a1,a2,a3,a4,a5⟩:=f
          cases (show true=a4 from hd)
          rfl
        | false=>
          have HW3:Hid (Blk ((w2.setCell ⟨c,250,none⟩ (.bool true)).setCell ⟨c,249,none⟩ (.int .u64 (first:Int))) c TFr f3.cells∧Onc c w2 ((w2.setCell ⟨c,250,none⟩ (.bool true)).setCell ⟨c,249,none⟩ (.int .u64 (first:Int)))∧Byt ((w2.setCell ⟨c,250,none⟩ (.bool true)).setCell ⟨c,249,none⟩ (.int .u64 (first:Int))) pb nb cb ys):=Lib.hid ⟨by
            have h5:=(HBc.out.set 250 (.bool true)).set 249 (.int .u64 (first:Int))
            rw [PFr.setDirty,PFr.setFirst] at h5
            rw [HF3.out];exact h5,(Onc.cell c w2 _ _).trans (Onc.cell c _ _ _),HY2.out.upd (F:=fun q=>q=c) (F':=fun q=>q=c) (((Onc.cell c w2 _ _).trans (Onc.cell c _ _ _)).upd) HYc.out⟩
          go_wp2_with (refine wpList_copy_fr rfl (.tmp 60) (.tmp 61) rfl HAa.out rfl HW3.out.1 HI3.out rfl HW3.out.2.2 HFo.out ?_;intro W4 hb4 ho4;have HB4:=Lib.hid hb4;have HO4:=Lib.hid ho4;have m0:=(PFr.c4 hb4).1;have mf:=hb4.frozen 248;clear hb4 ho4)
          go_ret
          refine HEnd.out _ _ ((HW3.out.2.1.trans HO4.out).trans (Onc.cell c _ _ _)) (HB4.out.set 248 _ |> fun h=>by rw [PFr.setLsn] at h;exact h) ?_
          rw [HF3.out,← HDy.out]
          rfl
  · have hne:(ae == 0)=false:=beq_eq_false_iff_ne.2 ha
    have HR:Hid (P.pt N i o ys first lsn s L=(ae,P,s,L)):=Lib.hid (by unfold Pl.pt;rw [← HAe.out];exact if_pos ha)
    clear HU HAe ha
    go_wp2_with fail
    go_ret
    rw [HR.out]
    exact ⟨rfl,S,n,B,HPo.out.lower HB.out.2.2.2.2.1,Upd.same _⟩
end
end Go.Proofs.YtdmhemgepdknhaaGreat
namespace Go.Proofs.YtdmhemgepdknhaaGreat
open Go.RowKit Go.Maps
def Pl.wt (P:Pl) (N:Nat) (i:Int) (s:St) (L:Lg):Int × Pl × St × Lg:=
 if askE N i≠0 then (askE N i,P,s,L) else
  if (P.wr [i.toNat] s L).1≠0 then ((P.wr [i.toNat] s L).1,P,(P.wr [i.toNat] s L).2) else (0,P.wrote [i.toNat],(P.wr [i.toNat] s L).2)
def Pl.wa (P:Pl) (s:St) (L:Lg):Int × Pl × St × Lg:=
 if (P.wr P.dirty s L).1≠0 then ((P.wr P.dirty s L).1,P,(P.wr P.dirty s L).2) else
  if BaE (P.wr P.dirty s L).2.1≠0 then (BaE (P.wr P.dirty s L).2.1,P,BaS (P.wr P.dirty s L).2.1,(P.wr P.dirty s L).2.2) else (0,P.wrote P.dirty,BaS (P.wr P.dirty s L).2.1,(P.wr P.dirty s L).2.2)
theorem Pl.wrote_none (P:Pl) (xs:List Nat) (i:Nat):(P.wrote xs).fr i=none ↔ P.fr i=none:=by
 show (if i ∈ xs then (P.fr i).map fun f=>({ f with dirty:=false }:PFr) else P.fr i)=none ↔ _
 by_cases h:i ∈ xs
 · rw [if_pos h];simp
 · rw [if_neg h]
theorem PlOk.wrote {P:Pl} {N:Nat} (h:PlOk P N) (xs:List Nat):PlOk (P.wrote xs) N:=⟨fun i hi=>h.lt i fun e=>hi ((P.wrote_none xs i).2 e),h.n,h.h0,h.h1,h.m0,h.m1⟩
theorem Ints.one (w:World) (x:Nat):Ints (w.alloc (.cells #[.int .i64 (x:Int)] TI)) w.heap.size (.slice (some ⟨w.heap.size,0,none⟩) 1 1) [x]:=
 ⟨rfl,.inr ⟨w.heap.size,1,#[.int .i64 (x:Int)],rfl,Nat.le_refl _,heap_alloc_new w _,Nat.le_refl _,by unfold maxLen;omega,rfl,rfl⟩⟩
section
variable {w w' w1:World} {b m n:Nat} {pd pl:Value} {B:Nat→Option Nat} {P:Pl} {S:Nat→Prop} {s:St} {L:Lg} {N k R:Nat}
theorem CodeAt.Barrier (h:CodeAt w S pd pl s L) (hw:s.writes≤1000000000):Calls Tryz.prog 49 #[pd] w (RetC (.int .i64 (BaE s)) (BaS s) L S pd pl w):=by
 obtain ⟨F,b,q,m,c,rfl,h,rfl⟩:=h;refine (Barrier_all w h.dk hw).mono ?_;rintro e w' ⟨F',he,hd,hu⟩;obtain ⟨F2,h1,h2⟩:=h.disk ⟨_,hd,hu⟩;exact ⟨_,he,⟨F2,b,q,m,c,rfl,h1,rfl⟩,h2⟩
theorem PoAt.next {S':Nat→Prop} {s':St} {L':Lg} {j:Nat} (h:PoAt w b m n pd pl B S P s L N k) (hc:CodeAt w' S' pd pl s' L') (hu:Upd S S' w w') (hb:Bud N j s' L') (hj:j≤k):PoAt w' b m n pd pl B S' P s' L' N j∧Upd (uS S b m B) (uS S' b m B) w w':=by
 refine ⟨⟨hc,h.pl.stays fun q hq=>hu.block q (h.pl.low q hq) fun e=>h.ap q e hq,fun q hq e=>?_,hb,h.ok,by have:=h.cnt;omega⟩,hu.both (Upd.same _) h.pl.low (fun q hq e=>?_) fun _ e=>e⟩
 all_goals
  rcases hu.fresh q hq with h1 | h1
  · exact h.ap q h1 e
  · have:=h.pl.low q e;omega
theorem Bud.ba {N k:Nat} {s:St} {L:Lg} (h:Bud N k s L):Bud N k (BaS s) L:=by
 have h3:=(StW.ba (s0:=s) (k:=0) ⟨rfl,h.less,Nat.le_refl _⟩);exact ⟨h.ok,h3.len.trans h.len,h.fit,by have:=h.wr;have:=h3.wr;omega,h3.less⟩
theorem barrier_po (h:PoAt w b m n pd pl B S P s L N k):Calls Tryz.prog 49 #[pd] w fun e w'=>e=.returned (.int .i64 (BaE s))∧∃ S',PoAt w' b m n pd pl B S' P (BaS s) L N k∧Upd (uS S b m B) (uS S' b m B) w w':=by
 refine (h.cd.Barrier (by have:=h.bud.wr;omega)).mono ?_;rintro e w' ⟨S',rfl,hc,hu⟩;exact ⟨rfl,S',h.next hc hu h.bud.ba (Nat.le_refl _)⟩
theorem written_po {base:Nat} {v:Value} {xs:List Nat} (h:PoAt w b m n pd pl B S P s L N k) (hr:Ints w base v xs) (hx:∀ j,j < xs.length→xs.getD j 0 < 65536) (hv:∀ g,v.ownBlock=some g→¬ plS b m B g) :
  Calls Tryz.prog 45 #[.pointer (some ⟨b,0,none⟩),v] w fun e w'=>e=.returned (.tuple #[])∧PoAt w' b m n pd pl B S (P.wrote xs) s L N k∧Upd (uS S b m B) (uS S b m B) w w':=by
 refine (written_any h.pl hr hx hv).mono ?_;rintro e w' ⟨rfl,h1,h2⟩;have hu:=Upd.frOnly (b:=b) (m:=m) h2;exact ⟨rfl,⟨h.cd.stays (fun q hq=>hu.block q (h.cd.low q hq) (h.ap q hq)) hu.size,h1,h.ap,h.bud,h.ok.wrote xs,h.cnt⟩,(Upd.same (F:=S) w).both hu h.pl.low h.ap fun _ e=>e⟩
set_option maxRecDepth 100000 in
set_option maxHeartbeats 2000000 in
theorem WriteP_any (h:PoAt w b m n pd pl B S P s L N k) (hR:R+2≤k) (i:Int):Calls Tryz.prog 16 #[.pointer (some ⟨b,0,none⟩),.int .i64 i] w (RetPo (.int .i64 (P.wt N i s L).1) (P.wt N i s L).2.1 (P.wt N i s L).2.2.1 (P.wt N i s L).2.2.2 b m pd pl B S N R w):=by
 obtain ⟨F0,hd,-⟩:=h.cd.disk (w':=w);have HA:=pasked_any h.pl hd i
 rw [h.bud.len] at HA
 have HAk:=Lib.hid HA;have HPo:=Lib.hid h;have HRk:=Lib.hid (show R≤k by omega)
 by_cases ha:askE N i=0
 ·
  obtain ⟨ha0,ha1⟩:=askE_no ha;obtain ⟨j,rfl⟩:∃ j:Nat,i=(j:Int):=⟨i.toNat,by omega⟩
  have hj:j < 65536:=by have:=h.ok.n;omega
  have hx1:∀ z,z < [j].length→[j].getD z 0 < 65536:=fun z hz=>by
   obtain rfl:z=0:=by simp at hz;omega
   exact hj
  have HWr:Hid (Calls Tryz.prog 44 #[.pointer (some ⟨b,0,none⟩),.slice (some ⟨w.heap.size,0,none⟩) 1 1] (w.alloc (.cells #[.int .i64 (j:Int)] TI)) fun e w'=>∃ er S',e=.returned (.int .i64 er)∧er=(P.wr [j] s L).1∧PoAt w' b m n pd pl B S' P (P.wr [j] s L).2.1 (P.wr [j] s L).2.2 N R∧Upd (uS S b m B) (uS S' b m B) w w'):=Lib.hid (by
   have g:=Gr.new w (.cells #[.int .i64 (j:Int)] TI);refine (write_po (K0:=fun _=>False) (fun _ e=>e.elim) (h.gr g) (Ints.one w j).isl (by simp) hx1 (R:=R) (by simp;omega)).mono ?_;rintro e w' ⟨rfl,-,S',k1,k2⟩;refine ⟨_,S',rfl,rfl,k1,Upd.pre g (k2.both (Upd.same _) (h.gr g).pl.low (fun q hq e=>?_) fun _ e=>e)⟩
   rcases k2.fresh q hq with h1 | h1
   · exact h.ap q h1 e
   · have:=(h.gr g).pl.low q e;omega)
  have HWn:Hid (∀ W S' s' L',PoAt W b m n pd pl B S' P s' L' N R→Calls Tryz.prog 45 #[.pointer (some ⟨b,0,none⟩),.slice (some ⟨W.heap.size,0,none⟩) 1 1] (W.alloc (.cells #[.int .i64 (j:Int)] TI)) fun e w'=>e=.returned (.tuple #[])∧PoAt w' b m n pd pl B S' (P.wrote [j]) s' L' N R∧Upd (uS S' b m B) (uS S' b m B) W w'):=Lib.hid fun W S' s' L' hp=>by
   have g:=Gr.new W (.cells #[.int .i64 (j:Int)] TI);refine (written_po (hp.gr g) (Ints.one W j) hx1 fun q hq e=>?_).mono ?_
   ·
    cases hq
    have:=hp.pl.low _ e;exact absurd this (Nat.lt_irrefl _)
   · rintro e w' ⟨rfl,k1,k2⟩;exact ⟨rfl,k1,Upd.pre g k2⟩
  rw [ha] at HAk
  obtain ⟨X,hX⟩:∃ X,X=P.wr [j] s L:=⟨_,rfl⟩
  have HT:Hid (P.wt N j s L=if X.1≠0 then (X.1,P,X.2) else (0,P.wrote [j],X.2)):=Lib.hid (by
   unfold Pl.wt;rw [if_neg (by rw [ha];simp),hX];rfl)
  rw [← hX] at HWr
  clear h hd HA ha ha0 ha1 hj hx1 hX hR
  go_enter Tryz.func16,Tryz.ntmps16
  go_wp2_with fail;refine HAk.out.mono ?_;rintro e w1 ⟨rfl,rfl⟩;go_wp2_with fail;refine HWr.out.mono ?_;rintro e w2 ⟨er,S',rfl,her,hpo,hu⟩;have HP2:=Lib.hid hpo;have HU2:=Lib.hid hu;clear hpo hu
  by_cases he:er=0
  ·
   have HE:Hid (P.wt N j s L=(0,P.wrote [j],X.2)):=Lib.hid (by rw [HT.out,if_neg (by rw [← her,he];simp)]);subst he;clear her HT;go_wp2_with fail;refine (HWn.out _ _ _ _ HP2.out).mono ?_;rintro e w3 ⟨rfl,hp3,hu3⟩;have HP3:=Lib.hid hp3;have HU3:=Lib.hid hu3;clear hp3 hu3;go_wp2_with fail
   go_ret
   rw [HE.out];exact ⟨rfl,S',n,B,HP3.out,HU2.out.trans HU3.out⟩
  ·
   have hne:(er == 0)=false:=beq_eq_false_iff_ne.2 he;have HE:Hid (P.wt N j s L=(er,P,X.2)):=Lib.hid (by rw [HT.out,if_pos (by rw [← her];exact he),← her]);clear her HT he;go_wp2_with fail
   go_ret
   rw [HE.out];exact ⟨rfl,S',n,B,HP2.out,HU2.out⟩
 ·
  have HT:Hid (P.wt N i s L=(askE N i,P,s,L)):=Lib.hid (by unfold Pl.wt;exact if_pos ha);obtain ⟨ae,hae⟩:∃ ae,ae=askE N i:=⟨_,rfl⟩
  rw [← hae] at HAk HT ha
  have hne:(ae == 0)=false:=beq_eq_false_iff_ne.2 ha;clear h hd HA ha hae hR
  go_enter Tryz.func16,Tryz.ntmps16
  go_wp2_with fail;refine HAk.out.mono ?_;rintro e w1 ⟨rfl,rfl⟩;go_wp2_with fail
  go_ret
  rw [HT.out];exact ⟨rfl,S,n,B,HPo.out.lower HRk.out,Upd.same _⟩
set_option maxRecDepth 100000 in
set_option maxHeartbeats 2000000 in
theorem WriteAllP_any (h:PoAt w b m n pd pl B S P s L N k) (hR:R+2*N≤k):Calls Tryz.prog 18 #[.pointer (some ⟨b,0,none⟩)] w (RetPo (.int .i64 (P.wa s L).1) (P.wa s L).2.1 (P.wa s L).2.2.1 (P.wa s L).2.2.2 b m pd pl B S N R w):=by
 have HMi:=Lib.hid (pmissing_no h.pl)
 have hdx:∀ j,j < P.dirty.length→P.dirty.getD j 0 < 65536:=fun j hj=>(P.dirty_at hj).1
 have hdl:P.dirty.length≤N:=Nat.le_trans (List.length_filter_le _ _) h.ok.pages_len;have hN6:=h.ok.n;obtain ⟨ds,hds⟩:∃ ds,ds=P.dirty:=⟨_,rfl⟩;obtain ⟨X,hX⟩:∃ X,X=P.wr ds s L:=⟨_,rfl⟩;have HT:Hid (P.wa s L=if X.1≠0 then (X.1,P,X.2) else if BaE X.2.1≠0 then (BaE X.2.1,P,BaS X.2.1,X.2.2) else (0,P.wrote ds,BaS X.2.1,X.2.2)):=Lib.hid (by unfold Pl.wa;rw [hX,hds]);have HDi:=Lib.hid (Dirty_any h.pl h.ok.hin)
 rw [← hds] at HDi hdx hdl
 have HLow:=Lib.hid h.pl.low
 have HWr:Hid (∀ W v,Gr w W→Ints W w.heap.size v ds→Calls Tryz.prog 44 #[.pointer (some ⟨b,0,none⟩),v] W fun e w'=>∃ er S',e=.returned (.int .i64 er)∧er=X.1∧PoAt w' b m n pd pl B S' P X.2.1 X.2.2 N R∧Upd (uS S b m B) (uS S' b m B) w w'∧Ints w' w.heap.size v ds∧(∀ q,v.ownBlock=some q→w.heap.size≤q∧¬ S' q)∧W.heap.size≤w'.heap.size):=Lib.hid fun W v g hv=>by
  have hvo:=World.ownsRow.lt hv;refine (write_po (K0:=fun q=>v.ownBlock=some q) (fun q hq=>⟨fun e=>?_,(hvo q hq).2⟩) (h.gr g) hv.isl (by omega) hdx (R:=R) (by omega)).mono ?_
  · have:=h.cd.low q e;have:=(hvo q hq).1;omega
  ·
   rintro e w' ⟨rfl,k0,S',k1,k2⟩
   rw [← hX] at k1 ⊢
   refine ⟨_,S',rfl,rfl,k1,Upd.pre g (k2.both (Upd.same _) (h.gr g).pl.low (fun q hq e=>?_) fun _ e=>e),hv.stays k0,fun q hq=>⟨(hvo q hq).1,fun e=>?_⟩,k2.size⟩
   ·
    rcases k2.fresh q hq with h1 | h1
    · exact h.ap q h1 e
    · have:=(h.gr g).pl.low q e;omega
   ·
    rcases k2.fresh q e with h1 | h1
    · have:=h.cd.low q h1;have:=(hvo q hq).1;omega
    · have:=(hvo q hq).2;omega
 have HDx:=Lib.hid hdx;obtain ⟨d,rfl⟩:=h.pl.dsk;clear h hdx hdl hN6 hds hX hR
 go_enter Tryz.func18,Tryz.ntmps18
 go_wp2_with fail;refine HMi.out.mono ?_;rintro e w1 ⟨rfl,rfl⟩;go_wp2_with fail;refine HDi.out.mono ?_;rintro e w1 ⟨v,rfl,hv,g1⟩;have HV:=Lib.hid hv;have HG:=Lib.hid g1;clear hv g1 HDi HMi;go_wp2_with fail;refine (HWr.out _ _ HG.out HV.out).mono ?_;rintro e w2 ⟨er,S',rfl,her,hpo,hu,hv2,hvo,-⟩;have HP2:=Lib.hid hpo;have HU2:=Lib.hid hu;have HV2:=Lib.hid hv2;have HVo:=Lib.hid hvo;clear hpo hu hv2 hvo HWr HG
 by_cases he:er=0
 ·
  have HE:Hid (P.wa s L=if BaE X.2.1≠0 then (BaE X.2.1,P,BaS X.2.1,X.2.2) else (0,P.wrote ds,BaS X.2.1,X.2.2)):=Lib.hid (by rw [HT.out,if_neg (by rw [← her,he];simp)]);have c0:=HP2.out.pl.c6.1;have HBa:=Lib.hid (barrier_po HP2.out);subst he;clear her HT;go_wp2_with fail;refine HBa.out.mono ?_;rintro e w3 ⟨rfl,S3,hp3,hu3⟩;have HP3:=Lib.hid hp3;have HU3:=Lib.hid hu3
  have HV3:Hid (Ints w3 w.heap.size v ds):=Lib.hid (HV2.out.stays fun q hq=>hu3.block q (World.ownsRow.lt HV2.out q hq).2 fun e=>by
   rcases e with e | e
   · exact (HVo.out q hq).2 e
   ·
    have h1:=HLow.out q e;have h2:=(HVo.out q hq).1
    omega)
  obtain ⟨eb,heb⟩:∃ eb,eb=BaE X.2.1:=⟨_,rfl⟩
  rw [← heb] at HE ⊢
  clear hp3 hu3 heb HBa
  by_cases hb:eb=0
  ·
   subst hb;have HE2:Hid (P.wa s L=(0,P.wrote ds,BaS X.2.1,X.2.2)):=Lib.hid (by rw [HE.out,if_neg (by simp)])
   have HWn:=Lib.hid (written_po HP3.out HV3.out HDx.out fun q hq e=>by
    have h1:=HLow.out q e;have h2:=(HVo.out q hq).1
    omega)
   clear HE;go_wp2_with fail;refine HWn.out.mono ?_;rintro e w4 ⟨rfl,hp4,hu4⟩;have HP4:=Lib.hid hp4;have HU4:=Lib.hid hu4;clear hp4 hu4;go_wp2_with fail
   go_ret
   rw [HE2.out];exact ⟨rfl,S3,n,B,HP4.out,(HU2.out.trans HU3.out).trans HU4.out⟩
  ·
   have hne:(eb == 0)=false:=beq_eq_false_iff_ne.2 hb;have HE2:Hid (P.wa s L=(eb,P,BaS X.2.1,X.2.2)):=Lib.hid (by rw [HE.out,if_pos hb]);clear HE hb;go_wp2_with fail
   go_ret
   rw [HE2.out];exact ⟨rfl,S3,n,B,HP3.out,HU2.out.trans HU3.out⟩
 ·
  have hne:(er == 0)=false:=beq_eq_false_iff_ne.2 he;have HE:Hid (P.wa s L=(er,P,X.2)):=Lib.hid (by rw [HT.out,if_pos (by rw [← her];exact he),← her]);clear her HT he;go_wp2_with fail
  go_ret
  rw [HE.out];exact ⟨rfl,S',n,B,HP2.out,HU2.out⟩
end
end Go.Proofs.YtdmhemgepdknhaaGreat
namespace Go.Proofs.YtdmhemgepdknhaaGreat
open Go.RowKit Go.Maps
set_option maxRecDepth 100000 in
set_option maxHeartbeats 1000000 in
theorem flush0_any {b:Nat} {p:Value} {q:Option Addr} {m c:Nat} {L:Lg} (w:World) (h:LgAt w b p q m c L) (ok:L.Ok) :
  Calls Tryz.prog 67 #[.pointer (some ⟨b,0,none⟩),.int .u64 0] w fun e w'=>e=.returned (.int .i64 0)∧Gr w w':=by
 obtain ⟨D,hD⟩:=h.dsk;have HM:=Lib.hid (wmissing_no D b _ _ _ _ _ _ _ _ _ _ _ _ w h.blk hD);have HE:=Lib.hid (h.End ok);obtain ⟨Fn,hF⟩:∃ Fn,Fn=L.fin:=⟨_,rfl⟩;obtain ⟨La,hLa⟩:∃ La,La=L.lasts:=⟨_,rfl⟩
 rw [← hF] at HE
 have g1:¬ (Fn:Int) < 0:=by omega
 have g2:(0:Int)≤(La:Int):=by omega
 have HC6:=Lib.hid (fun W (g:Gr w W)=>(h.gr g).blk.c10.2.2.2.2.2.2.1)
 rw [← hLa] at HC6
 clear h hF hLa
 go_enter Tryz.func67,Tryz.ntmps67
 go_wp2_with fail;refine HM.out.mono ?_;rintro e w1 ⟨rfl,rfl⟩;go_wp2_with fail;refine HE.out.mono ?_;rintro e w1 ⟨rfl,g⟩;have HG:=Lib.hid g;have c6:=HC6.out w1 g;clear g HC6;go_wp2_with fail
 go_ret
 exact ⟨rfl,HG.out⟩
def P0 (n:Int) (x:Bool):Pl:=⟨n,x,-1,fun _=>none⟩
def L0:Lg:=newL 64 16 1 1 0
def RetBeg7 (n:Int) (x:Bool) (w:World) (e:Ending) (w':World):Prop:=
 ∃ d l b m S,e=.returned (.tuple #[.pointer (some ⟨d,0,none⟩),.pointer (some ⟨l,0,none⟩),.pointer (some ⟨b,0,none⟩),.bool true])∧PoAt w' b m 0 (.pointer (some ⟨d,0,none⟩)) (.pointer (some ⟨l,0,none⟩)) (fun _=>none) S (P0 n x) zeroD L0 64 1000000∧(∀ q,uS S b m (fun _=>none) q→w.heap.size≤q)∧Gr w w'
set_option maxRecDepth 100000 in
set_option maxHeartbeats 1000000 in
theorem begin7_any (n:Int) (x:Bool) (w:World) (h1:8≤n) (h2:n≤4096):Calls Tryz.prog 9 #[.int .i64 n,.bool x] w (RetBeg7 n x w):=by
 have H12:=Lib.hid (And.intro h1 h2);clear h1 h2
 go_enter Tryz.func9,Tryz.ntmps9
 go_wp2_with fail;refine (New_yes 64 _ ⟨by omega,by omega⟩).mono ?_;rintro e w1 ⟨d,F,rfl,hd,hg,hfar⟩;have HD1:=Lib.hid hd;have HG1:=Lib.hid hg;have HF1:=Lib.hid hfar
 obtain ⟨D,rfl⟩:∃ D,d=.pointer (some ⟨D,0,none⟩):=by
  obtain ⟨D,_,_,_,h,_⟩:=hd;exact ⟨D,h⟩
 clear hd hg hfar;go_wp2_with fail;refine (make64 w1).mono ?_;rintro e w2 ⟨rfl,g2⟩;have HG2:=Lib.hid g2;clear g2;go_wp2_with fail
 have HO:Hid (∀ W,Gr w2 W→Calls Tryz.prog 36 #[.pointer (some ⟨D,0,none⟩),.agg #[.int .i64 64,.int .i64 16,.int .i64 1],.int .u64 0,.int .u64 1] W (RetO1 (.pointer (some ⟨D,0,none⟩)) zeroD 1 0 W)):=Lib.hid fun W g=>open1_yes W (HD1.out.gr (Gr.trans HG2.out g)) (by simp [zeroD,fresh]) (by decide) (by decide) (by decide) opOk_begin
 have HG3:Hid (Gr w2 (w2.alloc (.cells #[.int .i64 64,.int .i64 16,.int .i64 1] 71))):=Lib.hid (Gr.new _ _);refine (HO.out _ HG3.out).mono ?_;rintro e w3 ⟨l,v,K,q,m,rfl,-,-,hlg,hlow,g3⟩
 rw [opL_begin] at hlg
 have HL:=Lib.hid hlg;have HLo:=Lib.hid hlow;have HG4:=Lib.hid g3
 have HNw:Hid (∀ W,Gr w3 W→Calls Tryz.prog 38 #[.pointer (some ⟨D,0,none⟩),.pointer (some ⟨l,0,none⟩),.int .i64 n,.bool x] W fun e w'=>∃ b m,e=.returned (.tuple #[.pointer (some ⟨b,0,none⟩),.int .i64 0]) ∧
   PlAt w' b (.pointer (some ⟨D,0,none⟩)) (.pointer (some ⟨l,0,none⟩)) m 0 (fun _=>none) ⟨n,x,-1,fun _=>none⟩∧W.heap.size≤b∧W.heap.size≤m∧Gr W w'):=Lib.hid fun W g=>NewP_any n x (fun V gV=>flush0_any V (HL.out.gr (Gr.trans g gV)) newL_ok.1) (HD1.out.gr (Gr.trans HG2.out (Gr.trans HG3.out (Gr.trans HG4.out g)))) (by simp [zeroD,fresh]) H12.out.1 H12.out.2
 clear hlg hlow g3 HO;go_wp2_with fail;refine (HNw.out _ (Gr.refl _)).mono ?_;rintro e w4 ⟨b,mm,rfl,hpl,hb,hm,g4⟩;have HPl:=Lib.hid hpl;have HB:=Lib.hid (And.intro hb hm);have HG5:=Lib.hid g4;clear hpl hb hm g4 HNw;go_wp2_with fail;refine bodyPost_ret_by (P:=Tryz.prog) (v:=.tuple #[.pointer (some ⟨D,0,none⟩),.pointer (some ⟨l,0,none⟩),.pointer (some ⟨b,0,none⟩),.bool true]) (by simp [results,Tryz.results9]) rfl ?_;have s1:=HG1.out.size;have s2:=HG2.out.size;have s3:=HG3.out.size;have s4:=HG4.out.size;have g14:Gr w1 w4:=Gr.trans HG2.out (Gr.trans HG3.out (Gr.trans HG4.out HG5.out));have hdl:=HD1.out.low;have hfl:=HF1.out;have hll:=HLo.out;have hb:=HB.out;have hll2:=HL.out.low;refine ⟨D,l,b,mm,wlS F l q,rfl,⟨⟨F,l,q,m,m,rfl,⟨HD1.out.gr g14,HL.out.gr HG5.out,fun k hF hl=>?_⟩,rfl⟩,HPl.out,fun k hk e=>?_,⟨newL_ok.1,by simp [zeroD,fresh],by decide,by simp [zeroD,fresh],zeroD_less⟩,⟨fun i hi=>absurd rfl hi,by decide,Int.le_refl _,(by show (-1:Int) < 65536;decide),H12.out.1,H12.out.2⟩,by decide⟩,fun k hk=>?_,Gr.trans HG1.out g14⟩
 · have:=hdl k hF;have:=hll k hl;omega
 ·
  rcases e with rfl | rfl | ⟨i,hi⟩
  ·
   rcases hk with hk | hk
   · have:=hdl _ hk;omega
   · have:=hll2 _ hk;omega
  ·
   rcases hk with hk | hk
   · have:=hdl _ hk;omega
   · have:=hll2 _ hk;omega
  · cases hi
 ·
  rcases hk with (hk | hk) | rfl | rfl | ⟨i,hi⟩
  · exact hfl k hk
  · have:=hll k hk;omega
  · omega
  · omega
  · cases hi
def nR (page:Nat):Rc:=⟨1,1,0,0,page,0,[0],[1]⟩
theorem nR_in (page:Nat):(nR page).In:=⟨by simp [nR],by simp [nR],by simp [nR],(fun x hx=>by simp [nR] at hx;omega),fun x hx=>by simp [nR] at hx;omega⟩
def Lg.noted (L:Lg) (page:Nat):Lg:=layL L (nR page) L.free
def RetNo7 (L:Lg) (page:Nat) (b m n:Nat) (pd pl:Value) (B:Nat→Option Nat) (S:Nat→Prop) (P:Pl) (s:St) (N k:Nat) (w:World) (e:Ending) (w':World):Prop:=
 e=.returned (.tuple #[.int .u64 (layA L (nR page) L.free:Int),.int .u64 ((L.noted page).fin:Int),.bool (layE (nR page) L.free == 0)])∧∃ S',PoAt w' b m n pd pl B S' P s (L.noted page) N k∧Upd (uS S b m B) (uS S' b m B) w w'
section
variable {w w':World} {b m n:Nat} {pd pl:Value} {B:Nat→Option Nat} {P:Pl} {S:Nat→Prop} {s:St} {L:Lg} {N k:Nat}
set_option maxRecDepth 100000 in
set_option maxHeartbeats 1000000 in
theorem note7_any (h:PoAt w b m n pd pl B S P s L N k) (hf:L.fin≤8000000000000000000) (page:Nat):Calls Tryz.prog 13 #[pl,.int .i64 (page:Int)] w (RetNo7 L page b m n pd pl B S P s N k w):=by
 have HP:=Lib.hid h;obtain ⟨l,rfl⟩:=h.pl.lg
 have HA:Hid (Calls Tryz.prog 43 #[.pointer (some ⟨l,0,none⟩),.agg (rcv (nR page) (some ⟨w.heap.size,0,none⟩) 1 1 (some ⟨w.heap.size+1,0,none⟩) 1 1)] ((w.alloc (.cells #[.int .u8 0] 5)).alloc (.cells #[.int .u8 1] 5)) fun e w'=>∃ a er S',e=.returned (.tuple #[.int .u64 (a:Int),.int .i64 er])∧a=layA L (nR page) L.free∧er=layE (nR page) L.free∧PoAt w' b m n pd (.pointer (some ⟨l,0,none⟩)) B S' P s (L.noted page) N k∧Upd (uS S b m B) (uS S' b m B) w w'):=Lib.hid (by
  have g1:=Gr.new w (.cells #[.int .u8 0] 5);have g2:=Gr.new (w.alloc (.cells #[.int .u8 0] 5)) (.cells #[.int .u8 1] 5);have hb:=(Byt.one w 0 5 (by omega)).kept g2;have ha:=Byt.one (w.alloc (.cells #[.int .u8 0] 5)) 1 5 (by omega)
  rw [World.size_alloc] at ha
  refine ((h.cd.gr (Gr.trans g1 g2)).Append h.bud.ok (nR page) (nR_in page) _ 1 1 _ 1 1 hb ha).mono ?_;rintro e w' ⟨S',rfl,hc,hu⟩;obtain ⟨k1,k2⟩:=(h.gr (Gr.trans g1 g2)).next hc hu (j:=k) ⟨append_ok h.bud.ok _ hf,h.bud.len,by rw [(layL_parts L _ _).1];exact h.bud.fit,h.bud.wr,h.bud.less⟩ (Nat.le_refl _)
  exact ⟨_,_,S',rfl,rfl,rfl,k1,Upd.pre (Gr.trans g1 g2) k2⟩)
 clear h hf
 go_enter Tryz.func13,Tryz.ntmps13
 go_wp2_with fail;refine HA.out.mono ?_;rintro e w2 ⟨a,er,S',rfl,ha,her,hpo,hu⟩;have HE:=Lib.hid (And.intro ha her);have HPo:=Lib.hid hpo;have HU:=Lib.hid hu;have HEn:=Lib.hid (hpo.cd.End hpo.bud.ok);clear ha her hpo hu HA HP;go_wp2_with fail;refine HEn.out.mono ?_;rintro e w3 ⟨rfl,g3⟩;have HG:=Lib.hid g3;clear g3 HEn;go_wp2_with fail
 go_ret3
 refine ⟨?_,S',HPo.out.gr HG.out,HU.out.more HG.out⟩;rw [← HE.out.1,← HE.out.2]
 rfl
end
end Go.Proofs.YtdmhemgepdknhaaGreat
namespace Go.Proofs.YtdmhemgepdknhaaGreat
open Go.RowKit Go.Maps
def St.Alive (s:St):Prop:=s.dead=false∧s.fuse = -1
theorem St.Alive.no {s:St} (h:s.Alive):¬ s.refuses:=by
 unfold St.refuses
 rw [h.1,h.2]
 simp
theorem St.Alive.wrote {s:St} (h:s.Alive) (i:Nat) (x:Sec):(s.wrote i x).Alive:=by
 refine ⟨h.1,?_⟩
 unfold St.wrote
 simp [h.2]
theorem St.Alive.barrier {s:St} (h:s.Alive):s.barrier.Alive:=⟨h.1,h.2⟩
theorem St.Alive.ba {s:St} (h:s.Alive):(BaS s).Alive∧BaE s=0:=by
 unfold BaS BaE
 rw [h.1];exact ⟨h.barrier,rfl⟩
theorem wrAll_alive {L:Lg}:∀ (n j:Nat) (s:St),s.Alive→(wrAll L n j s).1.Alive∧(wrAll L n j s).2=0
 | 0,_,s,h=>h.ba
 | n+1,j,s,h=>by
  unfold wrAll
  rw [if_neg h.no];exact wrAll_alive n (j+1) _ (h.wrote _ _)
theorem fl_alive {s:St} {L:Lg} (h:s.Alive) (ok:L.Ok):(flS s L L.fin).Alive∧flE s L L.fin=0∧(flL s L L.fin).lasts=L.fin:=by
 have hb:(begS s L).Alive∧begE s L=0:=by
  obtain ⟨h1,_,h3⟩:=beg_facts s L
  cases hg:L.begun with
  | true=>
   obtain ⟨e1,e2,_⟩:=h1 hg;rw [e2];exact ⟨h,e1⟩
  | false=>
   obtain ⟨e1,e2,_⟩:=h3 hg h.no;rw [e2];exact ⟨(h.wrote _ _).barrier,e1⟩
 have hw:=wrAll_alive (L:=begL s L) (chN L.txt.length) 0 _ hb.1;have hn:=ok.near
 have e0:¬ begE s L≠0:=fun e=>e hb.2
 unfold flS flE flL
 rw [if_neg (Nat.lt_irrefl _),if_neg (Nat.lt_irrefl _),if_neg (Nat.lt_irrefl _)]
 by_cases hl:L.fin≤L.lasts
 · rw [if_pos hl,if_pos hl,if_pos hl];exact ⟨h,rfl,by omega⟩
 · rw [if_neg hl,if_neg hl,if_neg hl,if_neg e0,if_neg e0,if_neg e0,if_neg (fun e=>e hw.2)];exact ⟨hw.1,hw.2,(begL_ok ok).2.1⟩
theorem zeroD_alive:zeroD.Alive:=⟨rfl,rfl⟩
theorem layL_free {L:Lg} (ok:L.Ok) (r:Rc) (h:layE r L.free=0):(layL L r L.free).free=L.free - (sizeR r:Int)∧(layL L r L.free).fin=L.fin+sizeR r:=by
 rcases layE_cases r L.free with h1 | h1 | ⟨_,h2,h3⟩
 · rw [h] at h1;cases h1
 · rw [h] at h1;cases h1
 ·
  have hf:=layL_fin L r L.free
  rw [if_pos h] at hf
  have hz:=sizeR_may h2;refine ⟨?_,by rw [hf,hz]⟩
  have hl:layL L r L.free=L.more (recL r L.fin):=by unfold layL;rw [if_pos h]
  have hn:=ok.near
  have e1:(layL L r L.free).free=freeR L.l L.rsv L.tail (L.fin+(35+r.b.length+r.a.length)):=by
   show freeR (layL L r L.free).l (layL L r L.free).rsv (layL L r L.free).tail (layL L r L.free).fin=_
   rw [hf,hl]
   rfl
  rw [e1,hz];have e2:L.free=freeR L.l L.rsv L.tail L.fin:=rfl
  rw [e2] at h3 ⊢
  unfold freeR at *
  omega
theorem layL_same {L:Lg} {r:Rc} (h:layE r L.free≠0):layL L r L.free=L:=by unfold layL;rw [if_neg h]
end Go.Proofs.YtdmhemgepdknhaaGreat
