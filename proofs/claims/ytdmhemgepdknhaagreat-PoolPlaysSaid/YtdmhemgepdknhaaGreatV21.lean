/-
  Texts, put together: Wal12 Wal13 Wal15 Gone.
-/
import Derived.Test.YtdmhemgepdknhaaGreatV1
import Derived.Test.YtdmhemgepdknhaaGreatV5
import Derived.Test.YtdmhemgepdknhaaGreatV7
import Derived.Test.YtdmhemgepdknhaaGreatV20
set_option linter.unusedVariables false
set_option linter.unusedSimpArgs false
namespace Go.Proofs.YtdmhemgepdknhaaGreat
open Go.RowKit Go.Maps Go.Shelf
attribute [local go_sem] Oper.semAt_some
set_option maxRecDepth 100000 in
set_option maxHeartbeats 4000000 in
theorem wwriteAll_any {F:Nat→Prop} {b:Nat} {p:Value} {q:Option Addr} {m c:Nat} {s:St} {L:Lg} (w:World) (h:Wl w F b p q m c s L) (ok:L.Ok) (hn:3+L.l≤s.ls.length) (hw:s.writes≤900000000) :
  Calls Tryz.prog 88 #[.pointer (some ⟨b,0,none⟩)] w (RetWl (.int .i64 (wrAll L (chN m) 0 s).2) (wrAll L (chN m) 0 s).1 L F b p q w):=by
 obtain ⟨F1,mm,hF1,hdm⟩:=h.dk.tight;obtain ⟨D,hD⟩:=h.lg.dsk;have hml:=h.lg.mlen
 have hm1:m≤1000000:=by have:=ok.len.2;omega
 have hcap:=h.lg.txt.1.cap
 have hlb:L.lasts≤9100000000000000000:=by have:=ok.len.1;omega
 have HOK:=Lib.hid ok;have HN:=Lib.hid (show 3+L.l≤s.ls.length∧s.writes≤900000000 from ⟨hn,hw⟩);obtain ⟨K,hK⟩:∃ K,K=L.lasts / 232:=⟨_,rfl⟩;have HK:=Lib.hid hK
 have HKs:Hid (∀ W,Calls Tryz.prog 98 #[.int .u64 (L.lasts:Int)] W fun e w'=>e=.returned (.int .u64 (K:Int))∧W=w'):=Lib.hid fun W=>by rw [hK];exact sectorOf_any _ W (by omega)
 obtain ⟨W1,hW1⟩:∃ W1,W1=(w.alloc (.cells #[.pointer (some ⟨b,0,none⟩)] TPL2)).alloc (.cells #[.int .i64 0] TEr):=⟨_,rfl⟩;have hb1:=Blk.new w TPL2 #[.pointer (some ⟨b,0,none⟩)];have hb2:=Blk.new (w.alloc (.cells #[.pointer (some ⟨b,0,none⟩)] TPL2)) TEr #[.int .i64 0]
 have hs1:W1.heap.size=w.heap.size+1+1:=by rw [hW1];simp
 have H1:Hid (Blk W1 w.heap.size TPL2 #[.pointer (some ⟨b,0,none⟩)]∧Blk W1 (w.heap.size+1) TEr #[.int .i64 0]∧Gr w W1):=Lib.hid (by
  simp only [World.size_alloc] at hb2
  rw [← hW1] at hb2
  refine ⟨by rw [hW1];exact hb1.gr (Gr.new _ _),hb2,by rw [hW1];exact Gr.trans (Gr.new _ _) (Gr.new _ _)⟩)
 have hW1':(w.alloc (.cells #[.pointer (some ⟨b,0,none⟩)] 25)).alloc (.cells #[.int .i64 0] 37)=W1:=hW1.symm;have HW1:=Lib.hid hW1';obtain ⟨W2,hW2⟩:∃ W2,W2=W1.alloc (.cells #[.int .u64 (K:Int)] TU):=⟨_,rfl⟩;have hb4:=Blk.new W1 TU #[.int .u64 (K:Int)]
 rw [← hW2,hs1] at hb4
 have g12:Gr W1 W2:=by rw [hW2];exact Gr.new W1 _
 have hs2:W2.heap.size=w.heap.size+1+1+1:=by rw [hW2];simp [hs1]
 have H2:Hid (Blk W2 (w.heap.size+1+1) TU #[.int .u64 (K:Int)]∧Gr w W2∧Gr W1 W2∧W2.heap.size=w.heap.size+1+1+1):=Lib.hid ⟨hb4,Gr.trans H1.out.2.2 g12,g12,hs2⟩;have hW2':W1.alloc (.cells #[.int .u64 (K:Int)] 36)=W2:=hW2.symm;have HW2:=Lib.hid hW2';have HH:=Lib.hid h;have HF1:=Lib.hid hF1;have HDM:=Lib.hid hdm;have HDD:=Lib.hid hD;have HS1:=Lib.hid hs1
 have c0:((w.alloc (.cells #[.pointer (some ⟨b,0,none⟩)] 25)).alloc (.cells #[.int .i64 0] 37)).cell? ⟨w.heap.size,0,none⟩=some (.pointer (some ⟨b,0,none⟩)):=by rw [hW1'];exact H1.out.1.cell 0
 have c6:((w.alloc (.cells #[.pointer (some ⟨b,0,none⟩)] 25)).alloc (.cells #[.int .i64 0] 37)).cell? ⟨b,6,none⟩=some (.int .u64 (L.lasts:Int)):=by rw [hW1'];exact (h.lg.gr H1.out.2.2).blk.c10.2.2.2.2.2.2.1
 have d0:(W1.alloc (.cells #[.int .u64 (K:Int)] 36)).cell? ⟨w.heap.size,0,none⟩=some (.pointer (some ⟨b,0,none⟩)):=by rw [hW2'];exact (H1.out.1.gr H2.out.2.2.1).cell 0
 have d7:(W1.alloc (.cells #[.int .u64 (K:Int)] 36)).cell? ⟨b,7,none⟩=some (.slice q m c):=by rw [hW2'];exact (h.lg.gr H2.out.2.1).blk.c10.2.2.2.2.2.2.2.1
 clear hW1 hW1' hW2 hW2' hb1 hb2 hb4 g12 hs1 hs2 h hdm hF1 hn hw ok hK hD hml;refine (callsIn_wide (n:=12)).1 ?_;refine callsIn_of_wp_marks Tryz.func88 rfl trivial ?_ rfl
 simp only [Tryz.ntmps88,List.size_toArray,List.length_cons,List.length_nil,Nat.reduceAdd,Nat.reduceSub,Array.replicate_succ,Array.replicate_zero,List.push_toArray,List.append_toArray,List.nil_append,List.cons_append]
 gi_wp2_with fail
 rw [HW1.out];refine ⟨trivial,?_⟩;refine (callsIn_wide.2 (HKs.out W1)).mono ?_;rintro e w1 ⟨rfl,rfl⟩
 gi_wp2_with fail
 rw [HW2.out,HS1.out];refine ⟨trivial,?_⟩;refine (callsIn_wide.2 (chunk_any q m c W2)).mono ?_;rintro e W3 ⟨rfl,hbs,hbn,g3,hs3⟩
 rw [H2.out.2.2.2] at hbs hbn hs3 ⊢
 obtain ⟨X,hX⟩:∃ X,X=W3.heap.size:=⟨_,rfl⟩;have HX:=Lib.hid hX;have HBs:=Lib.hid hbs;have HBn:=Lib.hid hbn
 have HW3:Hid (WaAt w F X b p q m c mm L 0 (K+0) s F1 W3):=Lib.hid (by
  have g:=Gr.trans H2.out.2.1 g3;have hh:=HH.out.gr g;refine ⟨HDM.out.gr g,hh.lg,fun k hk=>HH.out.apart k (HF1.out k hk),H1.out.1.gr (Gr.trans H2.out.2.2.1 g3),H1.out.2.1.gr (Gr.trans H2.out.2.2.1 g3),H2.out.1.gr g3,⟨g.os,g.tape,g.output,g.size,fun k hk _=>g.block k hk,fun k hk=>.inl (hk.imp (HF1.out k) id)⟩,fun k hk=>.inl (HH.out.dk.low k (HF1.out k hk)),?_,⟨by omega,by omega⟩,HH.out.lg.low⟩;obtain ⟨⟨b0,lv0,L0,_,hd0⟩,_⟩:=HDM.out
  exact hd0.map.lt)
 have HXs:Hid (w.heap.size+1+1+1+1 < X):=Lib.hid (by omega);clear hbs hbn g3 hs3 c0 c6 d0 d7 H1 H2 HW1 HW2 HKs
 gi_wp2_with fail
 refine wpIn_range_toldF (F:=Fence.wide) rfl (by omega) (gf:=132) (lb:=#[.pointer (some ⟨w.heap.size+1+1+1,0,none⟩),.pointer (some ⟨w.heap.size+1+1+1+1,0,none⟩)]) rfl trivial (enters_of Tryz.func132 (by kernel_rfl) rfl)
  (chunk1_told 11 (by omega) _ _ q m c W3 HBs.out HBn.out hcap hm1).keeps (Below.refl _ _) (fun _=>rfl)
  (fun pre V=>∃ s' F',WaAt w F X b p q m c mm L 0 (K+pre.length) s' F' V∧wrAll L (chN m) 0 s=wrAll L (chN m - pre.length) pre.length s'∧(s'.ls.length=s.ls.length∧s'.writes≤s.writes+pre.length∧pre.length≤chN m))
  (fun pre V=>∃ s' F' k',WaAt w F X b p q m c mm L 8 k' s' F' V∧wrAll L (chN m) 0 s=(s',8)) ?hI ?hIr ⟨s,F1,HW3.out,rfl,rfl,Nat.le_refl _,Nat.zero_le _⟩
  (fun tm x (_:Unit)=>(tm.setIfInBounds 16 (.slice x.2.1 x.2.2 x.2.2)).setIfInBounds 4 (.slice x.2.1 x.2.2 x.2.2)) (fun pre x _ V=>ChG q m c pre x V) ?hBx ?assign ?body ?done ?stop
 case hI=>
  rintro pre U V row ⟨s',F',h1,h2⟩ hg hr;exact ⟨s',F',h1.held hg (fun j e=>by have:=hr j e;rw [← HX.out] at this;exact this),h2⟩
 case hIr=>
  rintro pre U V row ⟨s',F',k',h1,h2⟩ hg hr;exact ⟨s',F',k',h1.held hg (fun j e=>by have:=hr j e;rw [← HX.out] at this;exact this),h2⟩
 case hBx=>
  rintro pre x R z U V row h hg hr;exact h
 case assign=>
  rintro l pre x V K' hi hx hK
  simp only [List.setIfInBounds_toArray,List.set_cons_succ,List.set_cons_zero] at hK
  dsimp only [encC]
  gi_wp2_with fail
  exact hK () _ (KeepsFrom.refl _ _) (HoldS.refl _ _ _) hi hx
 case body=>
  rintro l pre x R W8 hlw ⟨s',F',hi,hall,hls,hwr,hpre⟩ hx;obtain ⟨j,qj,nj⟩:=x;obtain ⟨hx1,hx2,hx3,hx4⟩:=hx
  simp only at hx1 hx2 hx3 hx4 ⊢
  subst hx1
  simp only [List.setIfInBounds_toArray,List.set_cons_succ,List.set_cons_zero]
  obtain ⟨J,hJ⟩:∃ J,J=K+pre.length:=⟨_,rfl⟩
  rw [← hJ] at hi
  have hlt:pre.length < chN m:=by unfold chN;omega
  have hlen:=HH.out.lg.mlen;have hyc:=hx4.byt W8 _ hi.lg.txt.1
  rw [show 232*pre.length+nj - 232*pre.length=nj by omega,chunk_eq (m:=m) hlen.symm hx3] at hyc
  have HWr:Hid (Calls Tryz.prog 104 #[.pointer (some ⟨b,0,none⟩),.int .u64 (J:Int),.slice qj nj nj] W8 fun e w'=>e=.returned (.int .i64 (putDE s'))∧∃ F2,DkM w' F2 p mm (putD s' (wrI L pre.length) (wrX L pre.length))∧Upd F' F2 W8 w'):=Lib.hid (by
   have h:=wwrite_m D b _ _ _ _ _ _ _ _ _ _ _ _ mm J qj nj nj _ W8 hi.lg.blk HDD.out hi.dk HOK.out.may (by have:=HK.out;omega) (by have:=HOK.out.e1;omega) hyc (by omega) (by rw [hls];exact HN.out.1) (by have:=HN.out.2;have:=hlen;unfold chN at hpre;omega)
   have e1:3+J % L.l.toNat=wrI L pre.length:=by unfold wrI;rw [hJ,HK.out]
   have e2:Sx (secL J L.epoch ((L.txt.drop (232*pre.length)).take 232))=wrX L pre.length:=by unfold wrX;rw [hJ,HK.out]
   rw [e1,e2] at h
   exact h)
  have HI:=Lib.hid hi;have HA:Hid (wrAll L (chN m) 0 s=wrAll L (chN m - pre.length - 1+1) pre.length s'):=Lib.hid (by rw [hall,show chN m - pre.length - 1+1=chN m - pre.length by omega]);have HL2:Hid (s'.ls.length=s.ls.length∧s'.writes≤s.writes+pre.length∧pre.length < chN m):=Lib.hid ⟨hls,hwr,hlt⟩;have HJ:=Lib.hid hJ;have HLW:=Lib.hid hlw;have n1:=hi.box.cell 0;have n3:=hi.num.cell 0
  simp at n1 n3
  obtain ⟨E,hE⟩:∃ E,E=putDE s':=⟨_,rfl⟩
  rw [← hE] at HWr
  have HE:=Lib.hid hE;clear hi hall hls hwr hpre hx2 hx3 hx4 hyc hJ hlt hlen hlw hE
  gi_wp2_with fail
  refine ⟨trivial,?_⟩;refine ((callsIn_wide.2 HWr.out).inRound l).mono ?_;rintro e W9 ⟨rfl,F2,hd2,hu2⟩;have hk9:=HI.out.kept hu2;have HI9:=Lib.hid (HI.out.write hd2 hu2);have HK9:Hid (KeepsFrom W3.heap.size W8 W9):=Lib.hid (by rw [← HX.out];exact hk9.1);have HH9:Hid (HoldS firm (fun k=>k=w.heap.size+1+1+1∨k=w.heap.size+1+1+1+1) W8 W9):=Lib.hid (hk9.2 _ _ (by omega) (by have:=HXs.out;omega) (by omega) HXs.out);clear hd2 hu2 hk9 n1 n3 HWr
  by_cases hr:s'.refuses
  ·
   have hE8:E=8:=by rw [HE.out];unfold putDE;rw [if_pos hr]
   have HR9:Hid (wrAll L (chN m) 0 s=(putD s' (wrI L pre.length) (wrX L pre.length),8)):=Lib.hid (by rw [HA.out];unfold wrAll putD;rw [if_pos hr,if_pos hr]);subst hE8;have f2:=HI9.out.res.frozen 0;have n2:=HI9.out.res.cell 0
   simp at n2
   clear hr HA HE
   gi_wp2_with fail
   exact And.intro (HK9.out.trans ((KeepsOthers.setCell _ _ _).from _)) ⟨_,F2,J,HI9.out.tell 8,HR9.out⟩
  ·
   have hE0:E=0:=by rw [HE.out];unfold putDE;rw [if_neg hr]
   have HR9:Hid (wrAll L (chN m) 0 s=wrAll L (chN m - (pre++[(pre.length,qj,nj)]).length) (pre++[(pre.length,qj,nj)]).length (putD s' (wrI L pre.length) (wrX L pre.length))∧((putD s' (wrI L pre.length) (wrX L pre.length)).ls.length=s.ls.length∧(putD s' (wrI L pre.length) (wrX L pre.length)).writes≤s.writes+(pre++[(pre.length,qj,nj)]).length∧(pre++[(pre.length,qj,nj)]).length≤chN m)):=Lib.hid (by
    have h4:=HL2.out;have hp:=putD_alive (i:=wrI L pre.length) (x:=wrX L pre.length) hr;refine ⟨?_,by rw [hp.2.2];exact h4.1,by rw [hp.2.1];simp;omega,by simp;omega⟩;rw [HA.out,List.length_append,List.length_singleton]
    unfold putD
    rw [if_neg hr,show chN m - (pre.length+1)=chN m - pre.length - 1 by omega]
    show (if s'.refuses then _ else _)=_
    rw [if_neg hr])
   subst hE0;have f3:=HI9.out.num.frozen 0;have n3:=HI9.out.num.cell 0
   simp at n3
   have hw3:IntKind.u64.wrap ((J:Int)+1)=(J:Int)+1:=by rw [IntKind.wrap_u64];have:=HJ.out;have:=HK.out;have:=HL2.out.2.2;unfold chN at this;omega
   clear hr HA HE
   gi_wp2_with fail
   exact And.intro (HK9.out.trans ((KeepsOthers.setCell _ _ _).from _)) (And.intro (HH9.out.trans ⟨by simp,fun j o hj h1 _=>(heap_setCell_other W9 ⟨w.heap.size+1+1,0,none⟩ j _ (by rcases hj with rfl | rfl <;> (show _≠w.heap.size+1+1;omega))).trans h1⟩) ⟨_,F2,HI9.out.next _ (by have:=HJ.out;simp;omega),HR9.out⟩)
 case done=>
  rintro D2 ys V hD2 hS ⟨s',F',hi,hall,hls,hwr,hpre⟩ hK
  rw [hS,Nat.sub_self] at hall
  have n1:=hi.box.cell 0;have c0:=hi.lg.blk.cell 0
  simp at n1 c0
  have HI:=Lib.hid hi;have HA:=Lib.hid hall;have HDk:=Lib.hid hK;have HLW:Hid (X≤D2):=Lib.hid (by rw [HX.out];exact hD2)
  have HBa:Hid (Calls Tryz.prog 49 #[p] V fun e w'=>e=.returned (.int .i64 (BaE s'))∧DkFin F' p (BaS s') V w'):=Lib.hid (by
   refine (Barrier_all V hi.dk.dk (by have:=HN.out.2;rw [hS] at hwr;unfold chN at hwr;omega)).mono ?_;rintro e w' ⟨F2,rfl,hd,hu⟩
   exact ⟨rfl,F2,hd,hu⟩)
  obtain ⟨E,hE⟩:∃ E,E=BaE s':=⟨_,rfl⟩
  rw [← hE] at HBa
  have HE:=Lib.hid hE;have hR:Hid (wrAll L (chN m) 0 s=(BaS s',E)):=Lib.hid (by rw [hE];exact hall);have f2:=hi.res.frozen 0
  have HNF:Hid (¬ F' D2∧¬ F' (w.heap.size+1)):=Lib.hid (by
   refine ⟨fun hf=>?_,fun hf=>?_⟩
   ·
    rcases hi.dk.2 D2 hf with e | ⟨cs,t,fr,hc⟩
    · have:=hi.ml;have:=hi.xs.1;have:=HLW.out;omega
    ·
     rw [hK] at hc
     cases hc
   ·
    have:=hi.far _ hf;have:=hi.xs.1
    omega)
  clear hi hall hls hwr hpre hK hD2 hE f2
  gi_wp2_with fail
  refine ⟨trivial,?_⟩;refine (callsIn_wide.2 HBa.out).mono ?_;rintro e V2 ⟨rfl,hf⟩;have hf2:=hf;obtain ⟨F3,hd3,hu3⟩:=hf2;have HK2:Hid (V2.heap[D2]?=some (.deferred (some []))):=Lib.hid ((hu3.block D2 (Array.getElem?_eq_some_iff.1 HDk.out).1 HNF.out.1).trans HDk.out);have HRs:Hid (Blk V2 (w.heap.size+1) TEr #[.int .i64 0]):=Lib.hid (HI.out.res.stays (hu3.block _ HI.out.res.lt HNF.out.2));obtain ⟨F2,hw2,hup2⟩:=HI.out.wl.disk hf;have HW2:Hid (Wl V2 F2 b p q m c (BaS s') L∧Upd (wlS F b q) (wlS F2 b q) w V2):=Lib.hid ⟨hw2,HI.out.upd.comp hup2⟩
  have HF2:Hid (¬ F2 (w.heap.size+1)∧¬ F2 D2):=Lib.hid (by
   have h1:=HI.out.res.lt;have h2:=(Array.getElem?_eq_some_iff.1 HDk.out).1;refine ⟨fun hf=>?_,fun hf=>?_⟩
   ·
    rcases hup2.fresh _ (.inl hf) with (h | h) | h
    · exact HNF.out.2 h
    · have:=HI.out.lgl _ h;omega
    · omega
   ·
    rcases hup2.fresh _ (.inl hf) with (h | h) | h
    · exact HNF.out.1 h
    · have:=HI.out.lgl _ h;have:=HI.out.xs.1;have:=HLW.out;omega
    · omega)
  have f2:=HRs.out.frozen 0;have n2:=HRs.out.cell 0
  simp at n2
  clear hd3 hu3 hf hw2 hup2 n1 c0 HBa
  gi_wp2_with fail
  have hoc:=Only.cell (w.heap.size+1) 0 V2 (.int .i64 E)
  have hD4:D2≠w.heap.size+1:=by have:=HI.out.xs.1;have:=HLW.out;omega
  have hKd:(V2.setCell ⟨w.heap.size+1,0,none⟩ (.int .i64 E)).heap[D2]?=some (.deferred (some [])):=(hoc.block D2 hD4).trans HK2.out;refine ⟨by simp,.inl ⟨_,_,rfl,run_takeDeferred hKd,?_⟩⟩;have hg:=grownBy_putObj' (V2.setCell ⟨w.heap.size+1,0,none⟩ (.int .i64 E)) D2 (.deferred none)
  have hb2:∀ k,k≠w.heap.size+1→k≠D2→k < V2.heap.size→((V2.setCell ⟨w.heap.size+1,0,none⟩ (.int .i64 E)).putObj D2 (.deferred none)).heap[k]?=V2.heap[k]?:=fun k h1 h2 h3=>(hg.block k (by rw [hoc.size];exact h3) (fun e=>h2 (Option.some.inj e))).trans (hoc.block k h1)
  have hr2:Blk ((V2.setCell ⟨w.heap.size+1,0,none⟩ (.int .i64 E)).putObj D2 (.deferred none)) (w.heap.size+1) TEr #[.int .i64 E]:=Blk.stays (HRs.out.set 0 (.int .i64 E)) (hg.block _ (by rw [hoc.size];exact HRs.out.lt) (fun e=>hD4 (Option.some.inj e).symm))
  have hsz:V2.heap.size≤((V2.setCell ⟨w.heap.size+1,0,none⟩ (.int .i64 E)).putObj D2 (.deferred none)).heap.size:=by have:=hg.size;rw [hoc.size] at this;exact this
  refine ⟨_,results_cell_one rfl Tryz.isAgg37 _ _ ⟨w.heap.size+1,0,none⟩ (.int .i64 E) rfl (hr2.cell 0),?_⟩;rw [hR.out]
  have hl1:∀ k,lgS b q k→k≠w.heap.size+1∧k≠D2:=fun k hk=>by have:=HI.out.lgl k hk;have:=HI.out.xs.1;have:=HLW.out;omega
  refine ⟨F2,q,m,c,rfl,⟨HW2.out.1.dk.stays (fun k hk=>hb2 k (fun e=>HF2.out.1 (e ▸ hk)) (fun e=>HF2.out.2 (e ▸ hk)) (HW2.out.1.dk.low k hk)) hsz,HW2.out.1.lg.stays (fun k hk=>hb2 k (hl1 k hk).1 (hl1 k hk).2 (HW2.out.1.lg.low k hk)) hsz,HW2.out.1.apart⟩,⟨hg.os.trans (hoc.os.trans HW2.out.2.os),hg.tape.trans (hoc.tape.trans HW2.out.2.tape),hg.output.trans (hoc.output.trans HW2.out.2.output),Nat.le_trans HW2.out.2.size hsz,fun k hk hn=>(hb2 k (by omega) (by have:=HI.out.xs.1;have:=HLW.out;omega) (Nat.lt_of_lt_of_le hk HW2.out.2.size)).trans (HW2.out.2.block k hk hn),HW2.out.2.fresh⟩⟩
 case stop=>
  rintro D2 pre V hD2 _ ⟨s',F',k',hi,hall⟩ hK
  have hD3:X≤D2:=by rw [HX.out];exact hD2
  have hK3:=hi.held (grownBy_putObj' V D2 (.deferred none)) (fun r e=>by cases e;exact ⟨hD3,_,hK,rfl⟩);have HI:=Lib.hid hK3;have HA:=Lib.hid hall;clear hi hall hD2
  gi_wp2_with fail
  refine ⟨by simp,.inl ⟨_,_,rfl,run_takeDeferred hK,?_⟩⟩;refine ⟨_,results_cell_one rfl Tryz.isAgg37 _ _ ⟨w.heap.size+1,0,none⟩ (.int .i64 8) rfl (HI.out.res.cell 0),?_⟩;rw [HA.out];exact ⟨F',q,m,c,rfl,HI.out.wl,HI.out.upd⟩
end Go.Proofs.YtdmhemgepdknhaaGreat
namespace Go.Proofs.YtdmhemgepdknhaaGreat
open Go.RowKit Go.Maps
set_option maxRecDepth 100000 in
theorem wlast_any (b:Nat) (p:Value) (n:Int) (l:Int) (g:Int) (ep:Nat) (tl:Nat) (la:Nat) (q:Option Addr) (m:Nat) (c:Nat) (rs:Int) (bg:Bool) (q1:Option Addr) (m1 c1:Nat) (E:Nat) (w:World) (h:Blk w b TLg #[p,.int .i64 n,.int .i64 l,.int .i64 g,.int .u64 ep,.int .u64 tl,.int .u64 la,.slice q m c,.int .i64 rs,.bool bg]) (hE:E≤18446744073709551615) (hA:E % 232≤m1) (hc:m1≤c1) (hb:c1≤9223372036854775807) :
  Calls Tryz.prog 86 #[.pointer (some ⟨b,0,none⟩),.slice q1 m1 c1,.int .u64 (E:Int)] w fun e w'=>e=.returned (.tuple #[])∧∃ q2,w'=(w.setCell ⟨b,6,none⟩ (.int .u64 (E:Int))).setCell ⟨b,7,none⟩ (.slice q2 (E % 232) (E % 232))∧CutOf q1 m1 c1 (m1 - E % 232) m1 (E % 232) q2:=by
 obtain ⟨A,hA2⟩:∃ A,A=E % 232:=⟨_,rfl⟩
 rw [← hA2] at hA ⊢
 obtain ⟨q2,hcut,hof⟩:=cut_lhm (p:=q1) (n:=m1) (c:=c1) (m1 - A) m1 m1 (by omega) (Nat.le_refl _) (Nat.le_refl _) hc
 rw [show m1 - (m1 - A)=A by omega] at hcut hof
 have HA:Hid (∀ W,Calls Tryz.prog 66 #[.int .u64 (E:Int)] W fun e w'=>e=.returned (.int .i64 (A:Int))∧W=w'):=Lib.hid fun W=>by rw [hA2];exact ahead_any _ W hE
 have HOf:=Lib.hid hof;have HC:=Lib.hid hcut;obtain ⟨I,hI⟩:∃ I,I=m1 - A:=⟨_,rfl⟩
 have hw:IntKind.i64.wrap ((m1:Int) - (A:Int))=(I:Int):=by rw [IntWalk.i64_in _ (by omega)];omega
 rw [← hI] at HC
 have hcut2:=fun w=>HC.out w
 have f6:=h.frozen 6;have f7:=h.frozen 7;have c6:=h.c10.2.2.2.2.2.2.1;have c7:=h.c10.2.2.2.2.2.2.2.1;clear h hof hcut hA2 hI hE
 go_enter Tryz.func86,Tryz.ntmps86
 go_wp2_with fail;refine (HA.out _).mono ?_;rintro e w1 ⟨rfl,rfl⟩;go_wp2_with fail;exact bodyPost_end (results_none rfl _ _ _) rfl ⟨rfl,q2,rfl,HOf.out⟩
def Lg.done (L:Lg):Lg:={ L with lasts:=L.fin,txt:=L.txt.drop (L.txt.length - L.fin % 232) }
theorem Lg.Ok.done {L:Lg} (ok:L.Ok):L.done.Ok∧L.done.fin=L.fin∧L.fin % 232≤L.txt.length:=by
 have hn:=ok.near;have hh:=ok.has;have e0:L.fin=L.lasts - L.lasts % 232+L.txt.length:=rfl
 have h1:L.fin % 232≤L.txt.length:=by omega
 have hl:(L.txt.drop (L.txt.length - L.fin % 232)).length=L.fin % 232:=by rw [List.length_drop];omega
 have hf:L.done.fin=L.fin:=by
  show L.fin - L.fin % 232+(L.txt.drop (L.txt.length - L.fin % 232)).length=L.fin
  rw [hl];omega
 refine ⟨⟨ok.may,ok.e0,ok.e1,hn.1,?_,by rw [hf];exact ok.most,by rw [hf];exact ok.room,ok.r0,ok.r1⟩,hf,h1⟩
 show L.fin % 232≤(L.txt.drop (L.txt.length - L.fin % 232)).length
 rw [hl];exact Nat.le_refl _
theorem Wl.last {w:World} {F:Nat→Prop} {b:Nat} {p:Value} {q:Option Addr} {m c:Nat} {s:St} {L:Lg} (h:Wl w F b p q m c s L) (ok:L.Ok) :
  Calls Tryz.prog 86 #[.pointer (some ⟨b,0,none⟩),.slice q m c,.int .u64 (L.fin:Int)] w (RetWl (.tuple #[]) s L.done F b p q w):=by
 have hml:=h.lg.mlen;have hd:=ok.done;have hcap:=h.lg.txt.1.cap;have hmost:=h.lg.txt.1.most;refine (wlast_any b _ _ _ _ _ _ _ _ _ _ _ _ q m c L.fin w h.lg.blk (by have:=ok.most;omega) (by rw [hml];exact hd.2.2) hcap (by unfold maxLen at hmost;omega)).mono ?_;rintro e w' ⟨rfl,q2,rfl,hof⟩;have h1:=Only.cell b 6 w (.int .u64 (L.fin:Int));have h2:=Only.cell b 7 (w.setCell ⟨b,6,none⟩ (.int .u64 (L.fin:Int))) (.slice q2 (L.fin % 232) (L.fin % 232));have ho:=h1.trans h2
 have hb:∀ y,q2=some y→y.block≠b:=fun y hy=>by
  obtain ⟨z,hz,e⟩:=hof.blk y hy;rw [← e];exact h.lg.apart z hz
 have hsub:∀ k,lgS b q2 k→lgS b q k:=fun k hk=>hk.imp id fun ⟨y,hy,e⟩=>by
  obtain ⟨z,hz,e2⟩:=hof.blk y hy;exact ⟨z,hz,e2.trans e⟩
 have hy:=hof.byt w _ h.lg.txt.1
 rw [show m - (m - L.fin % 232)=L.fin % 232 by have:=hd.2.2;omega,drop_take_all h.lg.txt.1.len] at hy
 have hy2:=hy.stays (w':=(w.setCell ⟨b,6,none⟩ (.int .u64 (L.fin:Int))).setCell ⟨b,7,none⟩ (.slice q2 (L.fin % 232) (L.fin % 232))) (fun y hyy=>ho.block _ (hb y hyy))
 refine ⟨F,q2,_,_,rfl,⟨h.dk.stays (fun k hk=>ho.block k (fun e=>h.apart k hk (.inl e))) (Nat.le_of_eq ho.size.symm),⟨(h.lg.blk.set 6 _).set 7 _,⟨?_,.inl rfl⟩,hb,fun k hk=>by rw [ho.size];exact h.lg.low k (hsub k hk),h.lg.dsk⟩,fun k hk hl=>h.apart k hk (hsub k hl)⟩,
  ⟨ho.os,ho.tape,ho.output,Nat.le_of_eq ho.size.symm,fun k _ hn=>ho.block k (fun e=>hn (.inr (.inl e))),fun k hk=>.inl (hk.imp id (hsub k))⟩⟩
 show Byt _ q2 _ _ (L.txt.drop (L.txt.length - L.fin % 232))
 rw [hml] at hy2
 exact hy2
def flS (s:St) (L:Lg) (u:Nat):St:=if L.fin < u then s else if u≤L.lasts then s else if begE s L≠0 then begS s L else (wrAll (begL s L) (chN L.txt.length) 0 (begS s L)).1
def flE (s:St) (L:Lg) (u:Nat):Int:=if L.fin < u then 2 else if u≤L.lasts then 0 else if begE s L≠0 then begE s L else (wrAll (begL s L) (chN L.txt.length) 0 (begS s L)).2
def flL (s:St) (L:Lg) (u:Nat):Lg:=if L.fin < u then L else if u≤L.lasts then L else if begE s L≠0 then begL s L else if (wrAll (begL s L) (chN L.txt.length) 0 (begS s L)).2≠0 then begL s L else (begL s L).done
theorem begL_cases (s:St) (L:Lg):begL s L=L∨begL s L={ L with begun:=true }:=by
 unfold begL
 split
 · exact .inl rfl
 ·
  split
  · exact .inl rfl
  · exact .inr rfl
theorem begL_ok {s:St} {L:Lg} (ok:L.Ok):(begL s L).Ok∧(begL s L).fin=L.fin∧(begL s L).txt=L.txt∧(begL s L).l=L.l:=by
 rcases begL_cases s L with h | h
 · rw [h];exact ⟨ok,rfl,rfl,rfl⟩
 · rw [h];exact ⟨⟨ok.may,ok.e0,ok.e1,ok.tl,ok.has,ok.most,ok.room,ok.r0,ok.r1⟩,rfl,rfl,rfl⟩
theorem begS_bounds {s:St} {L:Lg}:(begS s L).ls.length=s.ls.length∧(begS s L).writes≤s.writes+1:=by
 unfold begS putD BaS
 split
 · exact ⟨rfl,Nat.le_succ _⟩
 ·
  split
  · exact ⟨rfl,Nat.le_succ _⟩
  ·
   split
   · exact ⟨rfl,Nat.le_refl _⟩
   · exact ⟨by simp [St.barrier,St.wrote],Nat.le_refl _⟩
def SlFl (b:Nat) (q3:Option Addr) (m3:Nat) (c3:Nat) (F1n:Nat) (slot:Nat) (v:Value) (_:World):Prop:=
 match slot with
 | 32=>v=.pointer (some ⟨b,0,none⟩)
 | 33=>v=.pointer (some ⟨b,0,none⟩)
 | 34=>v=.pointer (some ⟨b,0,none⟩)
 | 35=>v=.pointer (some ⟨b,7,none⟩)
 | 36=>v=.slice q3 m3 c3
 | 37=>v=.pointer (some ⟨b,0,none⟩)
 | 38=>v=.int .u64 (F1n:Int)
 | 39=>v=.tuple #[]
 | _=>True
set_option maxRecDepth 100000 in
set_option maxHeartbeats 1000000 in
theorem wFlush_any {F:Nat→Prop} {b:Nat} {p:Value} {q:Option Addr} {m c:Nat} {s:St} {L:Lg} (w:World) (h:Wl w F b p q m c s L) (ok:L.Ok) (hn:3+L.l≤s.ls.length) (hw:s.writes≤800000000) (u:Nat) (hu:u≤18446744073709551615) :
  Calls Tryz.prog 67 #[.pointer (some ⟨b,0,none⟩),.int .u64 (u:Int)] w (RetWl (.int .i64 (flE s L u)) (flS s L u) (flL s L u) F b p q w):=by
 obtain ⟨D,hD⟩:=h.lg.dsk;have HM:=Lib.hid (wmissing_no D b _ _ _ _ _ _ _ _ _ _ _ _ w h.lg.blk hD);have HE:=Lib.hid (h.lg.End ok);have HH:=Lib.hid h;have HOK:=Lib.hid ok;have c6:=h.lg.blk.c10.2.2.2.2.2.2.1;obtain ⟨Fn,hF⟩:∃ Fn,Fn=L.fin:=⟨_,rfl⟩;obtain ⟨La,hLa⟩:∃ La,La=L.lasts:=⟨_,rfl⟩
 rw [← hF] at HE
 rw [← hLa] at c6
 have HFL:Hid (Fn=L.fin∧La=L.lasts):=Lib.hid ⟨hF,hLa⟩
 by_cases h1:Fn < u
 ·
  have g1:(Fn:Int) < (u:Int):=by omega
  have HZ:Hid (flE s L u=2∧flS s L u=s∧flL s L u=L):=Lib.hid (by
   have h1':L.fin < u:=by omega
   unfold flE flS flL;simp [h1'])
  clear h hF hLa c6 h1
  go_enter Tryz.func67,Tryz.ntmps67
  go_wp2_with fail;refine HM.out.mono ?_;rintro e w1 ⟨rfl,rfl⟩;go_wp2_with fail;refine HE.out.mono ?_;rintro e w1 ⟨rfl,g⟩;have HG:=Lib.hid g;clear g;go_wp2_with fail
  go_ret
  rw [HZ.out.1,HZ.out.2.1,HZ.out.2.2];exact ⟨F,q,m,c,rfl,HH.out.gr HG.out,Upd.of_gr HG.out⟩
 ·
  have g1:¬ (Fn:Int) < (u:Int):=by omega
  by_cases h2:u≤La
  ·
   have g2:(u:Int)≤(La:Int):=by omega
   have HZ:Hid (flE s L u=0∧flS s L u=s∧flL s L u=L):=Lib.hid (by
    have h1':¬ L.fin < u:=by omega
    have h2':u≤L.lasts:=by omega
    unfold flE flS flL;simp [h1',h2'])
   have HC6:=Lib.hid (fun W (g:Gr w W)=>(h.lg.gr g).blk.c10.2.2.2.2.2.2.1);clear h hF hLa c6 h1 h2
   go_enter Tryz.func67,Tryz.ntmps67
   go_wp2_with fail;refine HM.out.mono ?_;rintro e w1 ⟨rfl,rfl⟩;go_wp2_with fail;refine HE.out.mono ?_;rintro e w1 ⟨rfl,g⟩;have HG:=Lib.hid g;have c6:=HC6.out w1 g
   rw [← HFL.out.2] at c6
   clear g HC6;go_wp2_with fail
   go_ret
   rw [HZ.out.1,HZ.out.2.1,HZ.out.2.2];exact ⟨F,q,m,c,rfl,HH.out.gr HG.out,Upd.of_gr HG.out⟩
  ·
   have g2:¬ (u:Int)≤(La:Int):=by omega
   obtain ⟨E1,hE1⟩:∃ E1,E1=begE s L:=⟨_,rfl⟩;obtain ⟨r2,hr2⟩:∃ r2,r2=wrAll (begL s L) (chN L.txt.length) 0 (begS s L):=⟨_,rfl⟩
   have h1':¬ L.fin < u:=by omega
   have h2':¬ u≤L.lasts:=by omega
   have HZ:Hid (E1≠0→flE s L u=E1∧flS s L u=begS s L∧flL s L u=begL s L):=Lib.hid fun he=>by
    rw [hE1] at he ⊢
    unfold flE flS flL
    rw [if_neg h1',if_neg h2',if_pos he,if_neg h1',if_neg h2',if_pos he,if_neg h1',if_neg h2',if_pos he];exact ⟨rfl,rfl,rfl⟩
   have HZ2:Hid (E1=0→flE s L u=r2.2∧flS s L u=r2.1∧flL s L u=if r2.2≠0 then begL s L else (begL s L).done):=Lib.hid fun he=>by
    rw [hE1] at he
    unfold flE flS flL
    rw [if_neg h1',if_neg h2',if_neg (fun e=>e he),if_neg h1',if_neg h2',if_neg (fun e=>e he),if_neg h1',if_neg h2',if_neg (fun e=>e he),hr2];exact ⟨rfl,rfl,rfl⟩
   have HB1:=Lib.hid (fun W (g:Gr w W)=>wbegin_any W (h.gr g) ok hn (by omega))
   rw [← hE1] at HB1
   have HBL:=Lib.hid (begL_ok (s:=s) ok);have HBS:=Lib.hid (begS_bounds (s:=s) (L:=L));have HNN:=Lib.hid (show 3+L.l≤s.ls.length∧s.writes≤800000000 from ⟨hn,hw⟩);have HC6:=Lib.hid (fun W (g:Gr w W)=>(h.lg.gr g).blk.c10.2.2.2.2.2.2.1);have HR2:=Lib.hid hr2;obtain ⟨s1,hs1⟩:∃ s1,s1=begS s L:=⟨_,rfl⟩;obtain ⟨L1,hL1⟩:∃ L1,L1=begL s L:=⟨_,rfl⟩
   rw [← hs1,← hL1] at HZ HB1 HR2
   rw [← hL1] at HZ2 HBL
   rw [← hs1] at HBS
   clear h hF hLa c6 h1 h2 hE1 hr2 h1' h2' hn hw hs1 hL1 ok hD
   go_enter Tryz.func67,Tryz.ntmps67
   go_wp2_with fail;refine HM.out.mono ?_;rintro e w1 ⟨rfl,rfl⟩;go_wp2_with fail;refine HE.out.mono ?_;rintro e w1 ⟨rfl,g⟩;have HG:=Lib.hid g;have c6:=HC6.out w1 g
   rw [← HFL.out.2] at c6
   clear g HC6;go_wp2_with fail;refine (HB1.out w1 HG.out).mono ?_;rintro e w2 ⟨F2,q2,m2,c2,rfl,hw2,hu2⟩;have HW2:=Lib.hid hw2;have HU2:=Lib.hid ((Upd.of_gr HG.out).comp hu2);clear hw2 hu2 c6 HB1
   by_cases hE0:E1=0
   ·
    subst hE0;have HZ3:=Lib.hid (HZ2.out rfl)
    have hm2:m2=L.txt.length:=by rw [HW2.out.lg.mlen,HBL.out.2.2.1]
    have HWA:Hid (Calls Tryz.prog 88 #[.pointer (some ⟨b,0,none⟩)] w2 (RetWl (.int .i64 r2.2) r2.1 L1 F2 b p q2 w2)):=Lib.hid (by
     have h:=wwriteAll_any w2 HW2.out HBL.out.1 (by rw [HBL.out.2.2.2,HBS.out.1];exact HNN.out.1) (by have:=HBS.out.2;have:=HNN.out.2;omega)
     rw [hm2,← HR2.out] at h
     exact h)
    obtain ⟨E2,hE2⟩:∃ E2,E2=r2.2:=⟨_,rfl⟩
    rw [← hE2] at HWA HZ3
    clear hm2 hE2 HZ HZ2;go_wp2_with fail;refine HWA.out.mono ?_;rintro e w3 ⟨F3,q3,m3,c3,rfl,hw3,hu3⟩;have HW3:=Lib.hid hw3;have HU3:=Lib.hid (HU2.out.comp hu3);clear hw3 hu3 HWA
    by_cases hE20:E2=0
    ·
     subst hE20;have HZ4:Hid (flE s L u=0∧flS s L u=r2.1∧flL s L u=L1.done):=Lib.hid ⟨HZ3.out.1,HZ3.out.2.1,by rw [HZ3.out.2.2,if_neg (fun e=>e rfl)]⟩
     obtain ⟨Fin,hFin⟩:∃ Fin:World→Prop,Fin=fun W=>∃ F' q' m' c',Wl W F' b p q' m' c' r2.1 L1.done∧Upd (wlS F3 b q3) (wlS F' b q') w3 W:=⟨_,rfl⟩
     have HEn:Hid (∀ W,Gr w3 W→Calls Tryz.prog 37 #[.pointer (some ⟨b,0,none⟩)] W (RetU L1.fin W)):=Lib.hid fun W g=>(HW3.out.gr g).lg.End HBL.out.1
     have HLa:Hid (∀ W,Gr w3 W→Calls Tryz.prog 86 #[.pointer (some ⟨b,0,none⟩),.slice q3 m3 c3,.int .u64 (L1.fin:Int)] W fun e w'=>e=.returned (.tuple #[])∧Fin w'):=Lib.hid fun W g=>by
      refine ((HW3.out.gr g).last HBL.out.1).mono ?_;rintro e w' ⟨F',q',m',c',rfl,hw',hu'⟩;rw [hFin];exact ⟨rfl,F',q',m',c',hw',(Upd.of_gr g).comp hu'⟩
     have HB:=Lib.hid HW3.out.lg.blk;have HFn:=Lib.hid hFin;obtain ⟨F1n,hF1n⟩:∃ F1n,F1n=L1.fin:=⟨_,rfl⟩
     rw [← hF1n] at HEn HLa
     clear hFin hF1n HZ3;go_wp2_with fail;refine Flow.regionS [] 20 (SlFl b q3 m3 c3 F1n) (InC 7 w3 (Fin)) (fun _ _ _=>True) (by kernel_rfl) (by kernel_rfl) (fun _ _ _ _ _ _ h _=>h) (InC.start (by rfl) (Gr.refl _).drew) ?steps ?fin
     case steps=>
      refine .cons (fun l a W hfr hun hup hdn hinv hdep K hK=>?_) ?_
      · have t0:=tAt (.pointer (some ⟨b,0,none⟩)) (hfr.at 0 (by kernel_rfl));refine fW0 rfl ?_;clear hfr hdep hdn;go_simp;exact hK _ _ True.intro (hinv.other 0 (by decide)) (dsT (by trivial))
      refine .cons (fun l a W hfr hun hup hdn hinv hdep K hK=>?_) ?_
      · have t0:=tAt (.pointer (some ⟨b,0,none⟩)) (hfr.at 0 (by kernel_rfl));refine fW0 rfl ?_;clear hfr hdep hdn;go_simp;exact hK _ _ True.intro (hinv.other 1 (by decide)) (dsT (by trivial))
      refine .cons (fun l a W hfr hun hup hdn hinv hdep K hK=>?_) ?_
      · have t33:=tAt (.pointer (some ⟨b,0,none⟩)) (hdep 33 (by kernel_rfl));refine fW0 rfl ?_;clear hfr hdep hdn;go_simp;exact hK _ _ True.intro (hinv.other 2 (by decide)) (dsT (by trivial))
      refine .cons (fun l a W hfr hun hup hdn hinv hdep K hK=>?_) ?_
      · have t34:=tAt (.pointer (some ⟨b,0,none⟩)) (hdep 34 (by kernel_rfl));refine fW0 rfl ?_;clear hfr hdep hdn;go_simp;exact hK _ _ True.intro (hinv.other 3 (by decide)) (dsT (by trivial))
      refine .cons (fun l a W hfr hun hup hdn hinv hdep K hK=>?_) ?_
      · have t35:=tAt (.pointer (some ⟨b,7,none⟩)) (hdep 35 (by kernel_rfl));refine fW0 rfl ?_;clear hfr hdep hdn;have hlz:l 7=false:=hup 7 (by decide) (by kernel_rfl);have hin:=hinv.pre hlz;have c7:=(HB.out.gr hin).c10.2.2.2.2.2.2.2.1;go_simp;exact hK _ _ True.intro (hinv.other 4 (by decide)) (dsT (by trivial))
      refine .cons (fun l a W hfr hun hup hdn hinv hdep K hK=>?_) ?_
      · have t0:=tAt (.pointer (some ⟨b,0,none⟩)) (hfr.at 0 (by kernel_rfl));refine fW0 rfl ?_;clear hfr hdep hdn;go_simp;exact hK _ _ True.intro (hinv.other 5 (by decide)) (dsT (by trivial))
      refine .cons (fun l a W hfr hun hup hdn hinv hdep K hK=>?_) ?_
      · have t37:=tAt (.pointer (some ⟨b,0,none⟩)) (hdep 37 (by kernel_rfl));refine fW0 rfl ?_;clear hfr hdep hdn;have hlz:l 7=false:=hup 7 (by decide) (by kernel_rfl);have hin:=hinv.pre hlz;go_simp;refine (HEn.out W hin).mono ?_;rintro e W' ⟨rfl,g1⟩;exact hK _ _ True.intro (hinv.grow hlz g1 6 (by decide)) (dsT (by trivial))
      refine .cons (fun l a W hfr hun hup hdn hinv hdep K hK=>?_) ?_
      · have t32:=tAt (.pointer (some ⟨b,0,none⟩)) (hdep 32 (by kernel_rfl));have t36:=tAt (.slice q3 m3 c3) (hdep 36 (by kernel_rfl));have t38:=tAt (.int .u64 (F1n:Int)) (hdep 38 (by kernel_rfl));refine fW0 rfl ?_;clear hfr hdep hdn;have hin:=hinv.pre hun;go_simp;refine (HLa.out W hin).mono ?_;rintro e W' ⟨rfl,h1⟩;exact hK _ _ True.intro (InC.fin h1) (dsT (by trivial))
      exact True.intro
     case fin=>
      intro a W l hfr hall hinv hsl
      have hfin:=hinv.post (hall 7 (by decide));have e:=Flow.frame hfr [32,33,34,35,36,37,38,39] (List.range 40) (by kernel_rfl) (by kernel_rfl)
      simp [List.range,List.range.loop] at e
      rw [e];have HFin:=Lib.hid hfin;clear e hfr hsl hall hinv hfin
      first
       | (rename_i hB;refine hB _ _ ?_)
       | (rename_i hB y0;refine hB _ _ ?_)
       | (rename_i hB y0 y1;refine hB _ _ ?_)
       | (rename_i hB y0 y1 y2;refine hB _ _ ?_)
       | (rename_i hB y0 y1 y2 y3;refine hB _ _ ?_)
       | (rename_i hB y0 y1 y2 y3 y4;refine hB _ _ ?_)
       | (rename_i hB y0 y1 y2 y3 y4 y5;refine hB _ _ ?_)
       | (rename_i hB y0 y1 y2 y3 y4 y5 y6;refine hB _ _ ?_)
       | (rename_i hB y0 y1 y2 y3 y4 y5 y6 y7;refine hB _ _ ?_)
       | (rename_i hB y0 y1 y2 y3 y4 y5 y6 y7 y8;refine hB _ _ ?_)
       | skip
      have hF:=HFin.out
      rw [HFn.out] at hF
      obtain ⟨F4,q4,m4,c4,hw4,hu4⟩:=hF;have HW4:=Lib.hid hw4;have HU4:=Lib.hid (HU3.out.comp hu4);clear hw4 hu4 HFin;go_wp2_with fail
      go_ret
      rw [HZ4.out.1,HZ4.out.2.1,HZ4.out.2.2];exact ⟨F4,q4,m4,c4,rfl,HW4.out,HU4.out⟩
    ·
     have hE2b:(E2 != 0)=true:=by simpa using hE20
     have HZ4:Hid (flE s L u=E2∧flS s L u=r2.1∧flL s L u=L1):=Lib.hid ⟨HZ3.out.1,HZ3.out.2.1,by rw [HZ3.out.2.2,if_pos hE20]⟩;clear hE20 HZ3;go_wp2_with fail
     go_ret
     rw [HZ4.out.1,HZ4.out.2.1,HZ4.out.2.2];exact ⟨F3,q3,m3,c3,rfl,HW3.out,HU3.out⟩
   ·
    have hE1b:(E1 != 0)=true:=by simpa using hE0
    have HZ4:=Lib.hid (HZ.out hE0);clear hE0 HZ HZ2;go_wp2_with fail
    go_ret
    rw [HZ4.out.1,HZ4.out.2.1,HZ4.out.2.2];exact ⟨F2,q2,m2,c2,rfl,HW2.out,HU2.out⟩
end Go.Proofs.YtdmhemgepdknhaaGreat
namespace Go.Proofs.YtdmhemgepdknhaaGreat
open Go.RowKit Go.Maps
set_option maxRecDepth 100000 in
set_option maxHeartbeats 1000000 in
theorem wlay_no {b:Nat} {p:Value} {q:Option Addr} {m c:Nat} {L:Lg} (w:World) (h:LgAt w b p q m c L) (ok:L.Ok) (r:Rc) (hi:r.In) (pb:Option Addr) (nb cb:Nat) (pa:Option Addr) (na ca:Nat) (hb:Byt w pb nb cb r.b) (ha:Byt w pa na ca r.a) (room:Int) (hfit:mayR r=false) :
  Calls Tryz.prog 72 #[.pointer (some ⟨b,0,none⟩),.agg (rcv r pb nb cb pa na ca),.int .i64 room] w (RetLayE 2 w):=by
 obtain ⟨W1,hW1⟩:∃ W1,W1=w.alloc (.cells (rcv r pb nb cb pa na ca) TR):=⟨_,rfl⟩;have HB1:Hid (Blk W1 w.heap.size TR (rcv r pb nb cb pa na ca)∧Gr w W1):=Lib.hid (by rw [hW1];exact ⟨Blk.new _ _ _,Gr.new _ _⟩);have HE:=Lib.hid (LgAt.End (h.gr HB1.out.2) ok);have HBy:=Lib.hid (fun W (g:Gr w W)=>bytes_any r pb nb cb pa na ca L.fin W hi (hb.kept g) (ha.kept g) (by have:=ok.most;omega));have HW1:Hid (w.alloc (.cells (rcv r pb nb cb pa na ca) 100)=W1):=Lib.hid hW1.symm;obtain ⟨F,hF⟩:∃ F,F=L.fin:=⟨_,rfl⟩
 rw [← hF] at HE HBy
 clear h hb ha hW1 hF
 unfold rcv at HW1 HB1 ⊢
 go_enter Tryz.func72,Tryz.ntmps72
 go_wp2_with fail;rw [HW1.out];refine HE.out.mono ?_;rintro e W2 ⟨rfl,g2⟩;obtain ⟨c0,c1,c2,c3,c4,c5,c6,c7⟩:=(HB1.out.1.gr g2).c8;have HG2:=Lib.hid (Gr.trans HB1.out.2 g2);clear g2;go_wp2_with fail;refine (HBy.out W2 HG2.out).mono ?_;rintro e W3 ⟨q3,n3,d3,rfl,hy3,g3,f3⟩;have HG3:=Lib.hid (Gr.trans HG2.out g3)
 have hE0:bytesE r=2:=by unfold bytesE;rw [if_neg (by rw [hfit];decide)]
 rw [hE0];clear hE0 HBy HE g3 f3 hy3 HB1 HW1;go_wp2_with fail;refine bodyPost_ret_by (P:=Tryz.prog) (v:=.tuple #[.int .u64 0,.int .i64 2]) (by simp [results,Tryz.results72]) rfl ?_;exact ⟨rfl,HG3.out⟩
set_option maxRecDepth 100000 in
set_option maxHeartbeats 1000000 in
theorem wlay_full {b:Nat} {p:Value} {q:Option Addr} {m c:Nat} {L:Lg} (w:World) (h:LgAt w b p q m c L) (ok:L.Ok) (r:Rc) (hi:r.In) (pb:Option Addr) (nb cb:Nat) (pa:Option Addr) (na ca:Nat) (hb:Byt w pb nb cb r.b) (ha:Byt w pa na ca r.a) (room:Int) (hfit:mayR r=true) (hroom:room < (35+r.b.length+r.a.length:Int)) :
  Calls Tryz.prog 72 #[.pointer (some ⟨b,0,none⟩),.agg (rcv r pb nb cb pa na ca),.int .i64 room] w (RetLayE 5 w):=by
 obtain ⟨W1,hW1⟩:∃ W1,W1=w.alloc (.cells (rcv r pb nb cb pa na ca) TR):=⟨_,rfl⟩;have HB1:Hid (Blk W1 w.heap.size TR (rcv r pb nb cb pa na ca)∧Gr w W1):=Lib.hid (by rw [hW1];exact ⟨Blk.new _ _ _,Gr.new _ _⟩);have HE:=Lib.hid (LgAt.End (h.gr HB1.out.2) ok);have HBy:=Lib.hid (fun W (g:Gr w W)=>bytes_any r pb nb cb pa na ca L.fin W hi (hb.kept g) (ha.kept g) (by have:=ok.most;omega));have HW1:Hid (w.alloc (.cells (rcv r pb nb cb pa na ca) 100)=W1):=Lib.hid hW1.symm;obtain ⟨F,hF⟩:∃ F,F=L.fin:=⟨_,rfl⟩
 rw [← hF] at HE HBy
 clear h hb ha hW1 hF
 unfold rcv at HW1 HB1 ⊢
 go_enter Tryz.func72,Tryz.ntmps72
 go_wp2_with fail;rw [HW1.out];refine HE.out.mono ?_;rintro e W2 ⟨rfl,g2⟩;obtain ⟨c0,c1,c2,c3,c4,c5,c6,c7⟩:=(HB1.out.1.gr g2).c8;have HG2:=Lib.hid (Gr.trans HB1.out.2 g2);clear g2;go_wp2_with fail;refine (HBy.out W2 HG2.out).mono ?_;rintro e W3 ⟨q3,n3,d3,rfl,hy3,g3,f3⟩;have HG3:=Lib.hid (Gr.trans HG2.out g3);obtain ⟨n,hn⟩:∃ n,n=35+r.b.length+r.a.length:=⟨_,rfl⟩
 have hy4:Byt W3 q3 n3 d3 (recL r F):=by have h:=hy3;unfold bytesL at h;rw [if_pos hfit] at h;exact h
 have hn3:n3=n:=by rw [← hy4.len,recL_len,hn]
 subst hn3
 have hE0:bytesE r=0:=by unfold bytesE;rw [if_pos hfit]
 rw [hE0]
 have hr2:room < (n3:Int):=by omega
 have hr3:(n3:Int)≤9223372036854775807:=by have:=hy4.cap;have:=hy4.most;unfold maxLen at *;omega
 clear hE0 HBy HE g3 f3 hy3 hy4 hn hroom HB1 HW1;go_wp2_with fail;refine bodyPost_ret_by (P:=Tryz.prog) (v:=.tuple #[.int .u64 0,.int .i64 5]) (by simp [results,Tryz.results72]) rfl ?_;exact ⟨rfl,HG3.out⟩
end Go.Proofs.YtdmhemgepdknhaaGreat
namespace Go.Proofs.YtdmhemgepdknhaaGreat
open Go.RowKit Go.Maps

end Go.Proofs.YtdmhemgepdknhaaGreat
