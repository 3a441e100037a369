/-
  Texts, put together: Wal2.
-/
import Derived.Deep.RegionHeld3
import Derived.Test.YtdmhemgepdknhaaGreatV1
import Derived.Test.YtdmhemgepdknhaaGreatV6
import Derived.Test.YtdmhemgepdknhaaGreatV9
import Derived.Test.YtdmhemgepdknhaaGreatV10
import Derived.Test.YtdmhemgepdknhaaGreatV12
set_option linter.unusedVariables false
set_option linter.unusedSimpArgs false
namespace Go.Proofs.YtdmhemgepdknhaaGreat
open Go.RowKit Go.Maps Cr
def manyX (xs:List Int):Nat:=atR xs 16 4
def sumX (xs:List Int):Nat:=atR xs 20 4
def numX (xs:List Int):Nat:=atR xs 0 8
def epX (xs:List Int):Nat:=atR xs 8 8
def trueX (xs:List Int):Nat:=(sumW (xs.take 20++xs.drop 24)).toNat
def okX (xs:List Int):Bool:=decide (manyX xs≤232) && decide (sumX xs=trueX xs)
def bytX (xs:List Int):List Int:=(xs.drop 24).take (manyX xs)
theorem pieceAt_any {xs:List Int} (hx:IsSec xs) (F S:Int) (B:Nat) (w:World) (hb:Blk w B TS (sec (Sx xs))):Calls Tryz.prog 126 #[.int .i64 F,.int .i64 S,.pointer (some ⟨B,0,none⟩)] w fun e w'=>e=.returned (.int .u64 (atR xs F S))∧w=w':=by
 have HA:=Lib.hid (at_any (some ⟨B,0,none⟩) 256 256 xs F S w (hb.byt hx));clear hb
 go_enter Tryz.func126,Tryz.ntmps126
 go_wp2_with fail;refine HA.out.mono ?_;rintro e w1 ⟨rfl,rfl⟩;go_wp2_with fail
 go_ret
 exact ⟨rfl,rfl⟩
abbrev TPc:TypeId:=153
def RetPiece (xs:List Int) (w:World) (e:Ending) (w':World):Prop:=
 ∃ p,e=.returned (.tuple #[.agg #[.int .u64 (numX xs),.int .u64 (epX xs),.slice p (manyX xs) (manyX xs)],.bool true])∧Byt w' p (manyX xs) (manyX xs) (bytX xs)∧Gr w w'∧∀ a,p=some a→w.heap.size≤a.block
def RetNoPiece (w:World) (e:Ending) (w':World):Prop:=e=.returned (.tuple #[.agg #[.int .u64 0,.int .u64 0,.slice none 0 0],.bool false])∧Gr w w'
def RetSum (xs:List Int) (w:World) (e:Ending) (w':World):Prop:=if sumX xs=trueX xs then RetPiece xs w e w' else RetNoPiece w e w'
theorem results_pc {fn:Func} {p q:Tmp} (h:fn.results=#[.cell p TPc,.tmp q]) (tmps:Array Value) (w:World) (g:Nat) (cs:Array Value) (x:Value) (hs:cs.size=3)
  (hp:tmps.getD p undef=.pointer (some ⟨g,0,none⟩)) (hx:tmps.getD q undef=x) (hb:Blk w g TPc cs):(results fn tmps).run Tryz.prog w=.ok (.tuple #[.agg cs,x]) w:=by
 have hp':tmps[p]?.getD undef=.pointer (some ⟨g,0,none⟩):=by simpa using hp
 have hx':tmps[q]?.getD undef=x:=by simpa using hx
 have hz:(Tryz.prog.info? TPc).map (·.size)=some 3:=by kernel_rfl
 have hl:=run_loadVar_row (P:=Tryz.prog) w g TPc TPc cs (0,0) _ hb Tryz.underlying153 rfl (by rw [hs];exact hz)
 simp [results,h,hp',hx',asAddr,hl]
theorem size_pc:(Tryz.prog.info? TPc).map (·.size)=some 3:=by kernel_rfl
theorem one_pc (x y:Int) (p:Option Addr) (n c:Nat):(#[.int .u64 x,.int .u64 y,.slice p n c]:Array Value).all (·.oneCell')=true:=by simp [Value.oneCell']
theorem wpList_store_pc {ops:Array Oper} {rest:List Oper} {op:Oper} {a:Act} {w:World} {Q:Exit→Act→World→Prop} (hgd:op.guard=none) (x y:Operand) (ho:op.op=.store TPc x y)
  {g:Nat} {old cs:Array Value} (hb:Blk w g TPc old) (hs:old.size=3) (hc:cs.size=3) (h1:cs.all (·.oneCell')=true) (hx:a.eval x=.pointer (some ⟨g,0,none⟩)) (hy:a.eval y=.agg cs)
  (h:wpList Tryz.prog ops Q rest (a.put op.dst undef) (w.setRow g cs)):wpList Tryz.prog ops Q (op :: rest) a w:=
 wpList_store_row hgd TPc x y ho g cs hx hy TPc old hb (by rw [hc];exact size_pc) (by rw [hs,hc]) h1 h
theorem wp_store_pc {op:Oper} {a:Act} {w:World} {K:Act→World→Prop} {Q:Exit→Act→World→Prop} (x y:Operand) (ho:op.op=.store TPc x y)
  {g:Nat} {old cs:Array Value} (hb:Blk w g TPc old) (hs:old.size=3) (hc:cs.size=3) (h1:cs.all (·.oneCell')=true) (hx:a.eval x=.pointer (some ⟨g,0,none⟩)) (hy:a.eval y=.agg cs)
  (h:K (a.put op.dst undef) (w.setRow g cs)):op.wp Tryz.prog a w K Q:=
 wp_store_row TPc x y ho g cs hx hy TPc old hb (by rw [hc];exact size_pc) (by rw [hs,hc]) h1 h
structure InP (w:World) (xs:List Int) (N1 N2 O M:Nat) (l:Nat→Bool) (W:World):Prop where
 gr:Gr w W
 s:Blk W w.heap.size TS (sec (Sx xs))
 p:Blk W (w.heap.size+1) TPc (cond (l 8) #[.int .u64 (N1:Int),.int .u64 (N2:Int),.slice (some ⟨w.heap.size,O,none⟩) M M] #[.int .u64 0,.int .u64 0,.slice none 0 0])
theorem InP.other {w W:World} {xs:List Int} {N1 N2 O M:Nat} {l:Nat→Bool} (h:InP w xs N1 N2 O M l W) (i:Nat) (hi:8≠i):InP w xs N1 N2 O M (Flow.upd l i) W:=
 ⟨h.gr,h.s,by rw [Flow.upd_other l hi];exact h.p⟩
theorem InP.put {w W:World} {xs:List Int} {N1 N2 O M:Nat} {l:Nat→Bool} (h:InP w xs N1 N2 O M l W):InP w xs N1 N2 O M (Flow.upd l 8) (W.setRow (w.heap.size+1) #[.int .u64 (N1:Int),.int .u64 (N2:Int),.slice (some ⟨w.heap.size,O,none⟩) M M]):=
 ⟨below_setRow h.gr (by omega) _,h.s.other (by omega),by rw [Flow.upd_same];exact h.p.row _⟩
theorem run_cut24 (g E:Nat) (h:24≤E) (h2:E≤256) (w:World):(Instr.sliceAt TS (.pointer (some ⟨g,0,none⟩)) (some (.int .i64 24)) (some (.int .i64 (E:Int))) (some (.int .i64 (E:Int)))).run Tryz.prog w=.ok (.slice (some ⟨g,if E=24 then 0 else 24,none⟩) (E - 24) (E - 24)) w:=by
 have hl:Tryz.prog.arrayLen TS=256:=by kernel_rfl
 have he:Tryz.prog.elem TS=5:=by kernel_rfl
 have hu:Tryz.prog.underlying TS=some (.array (Tryz.prog.arrayLen TS) (Tryz.prog.elem TS)):=by rw [hl,he];exact under_sec
 rw [run_sliceAt_array_lhm w TS ⟨g,0,none⟩ hu .i64 .i64 .i64 24 (E:Int) (E:Int) (by omega) (by omega) (by omega) (by rw [hl];omega),he,size_u8]
 by_cases hE:E=24
 · simp [slicedAt,Result.andThen,hE]
 · simp [slicedAt,Result.andThen,hE,Addr.add]
def SlPa (M:Nat) (slot:Nat) (v:Value) (_:World):Prop:=
 match slot with
 | 10=>v=.int .u64 (M:Int)
 | 11=>v=.bool true
 | 12=>v=.bool true
 | 21=>v=.bool true
 | _=>True
theorem slPa_gr {M:Nat} {s:Nat} {v:Value} {w w':World} (h:SlPa M s v w) (_:Gr w w'):SlPa M s v w':=h
def SlPb (b:Nat) (xs:List Int) (M:Nat) (S:Nat) (T:W) (NB:Bool) (slot:Nat) (v:Value) (w:World):Prop:=
 match slot with
 | 10=>v=.int .u64 (M:Int)
 | 11=>v=.bool false
 | 12=>v=.bool false
 | 13=>v=.func (.func 126) #[] #[.pointer (some ⟨b,0,none⟩)]
 | 14=>v=.int .u64 (S:Int)
 | 15=>v=.slice (some ⟨b,0,none⟩) 20 256
 | 16=>v=.slice (some ⟨b,24,none⟩) 232 232
 | 18=>v=.int .u32 (U T)
 | 19=>v=.int .u64 (T.toNat:Int)
 | 20=>v=.bool NB
 | 21=>v=.bool NB
 | 17=>IsRows w v [xs.take 20,xs.drop 24]
 | _=>True
theorem slPb_gr {b:Nat} {xs:List Int} {M:Nat} {S:Nat} {T:W} {NB:Bool} {s:Nat} {v:Value} {w w':World} (h:SlPb b xs M S T NB s v w) (g:Gr w w'):SlPb b xs M S T NB s v w':=by
 unfold SlPb at *
 split <;> simp only at h
 all_goals first
  | exact h
  | exact IsB.kept h g
  | exact IsRows.kept h g
def SlPc (b:Nat) (E:Nat) (O:Nat) (M:Nat) (N1:Nat) (N2:Nat) (slot:Nat) (v:Value) (_:World):Prop:=
 match slot with
 | 26=>v=.func (.func 126) #[] #[.pointer (some ⟨b,0,none⟩)]
 | 27=>v=.int .u64 (N1:Int)
 | 28=>v=.func (.func 126) #[] #[.pointer (some ⟨b,0,none⟩)]
 | 29=>v=.int .u64 (N2:Int)
 | 30=>v=.int .i64 (E:Int)
 | 31=>v=.int .i64 (E:Int)
 | 32=>v=.slice (some ⟨b,O,none⟩) M M
 | 33=>v=.agg #[.int .u64 (N1:Int),.int .u64 (N2:Int),.slice (some ⟨b,O,none⟩) M M]
 | 3=>v=.bool true
 | _=>True
set_option maxRecDepth 100000 in
set_option maxHeartbeats 1000000 in
theorem pieceOf_much {xs:List Int} (hx:IsSec xs) (w:World) (h:232 < manyX xs):Calls Tryz.prog 101 #[.agg (sec (Sx xs))] w (RetNoPiece w):=by
 obtain ⟨W1,hW1⟩:∃ W1,W1=(w.alloc (.cells (sec (Sx xs)) TS)).alloc (.cells #[.int .u64 0,.int .u64 0,.slice none 0 0] TPc):=⟨_,rfl⟩;have hB1:=Blk.new w TS (sec (Sx xs));have hB2:=Blk.new (w.alloc (.cells (sec (Sx xs)) TS)) TPc #[.int .u64 0,.int .u64 0,.slice none 0 0]
 have HB:Hid (Blk W1 w.heap.size TS (sec (Sx xs))∧Blk W1 (w.heap.size+1) TPc #[.int .u64 0,.int .u64 0,.slice none 0 0]∧Gr w W1):=Lib.hid (by
  rw [hW1]
  simp only [World.size_alloc] at hB2
  exact ⟨hB1.gr (Gr.new _ _),hB2,Gr.trans (Gr.new _ _) (Gr.new _ _)⟩)
 have HM:=Lib.hid (pieceAt_any hx 16 4 w.heap.size W1 HB.out.1);obtain ⟨M,hM⟩:∃ M,M=manyX xs:=⟨_,rfl⟩;have hMM:atR xs 16 4=M:=hM.symm
 rw [hMM] at HM
 rw [← hM] at h
 have hW1':(w.alloc (.cells (sec (Sx xs)) 60)).alloc (.cells #[.int .u64 0,.int .u64 0,.slice none 0 0] 153)=W1:=hW1.symm;have HW1:=Lib.hid hW1';have HLT:Hid (decide (232 < (M:Int))=true):=Lib.hid (decide_eq_true (by omega));clear hW1 hW1' hM hMM hB1 hB2 h
 go_enter Tryz.func101,Tryz.ntmps101
 go_wp2_with fail;rw [HW1.out];refine HM.out.mono ?_;rintro e w1 ⟨rfl,rfl⟩;go_wp2_with fail;refine Flow.region (SlPa M) (Gr W1) Gr (by kernel_rfl) (by kernel_rfl) (fun _ _ _ _ h g=>slPa_gr h g) ⟨rfl,rfl,rfl,Nat.le_refl _,fun _ _=>rfl⟩ ?steps ?fin
 case steps=>
  refine .cons (fun a W hfr hinv hdep K hK=>?_) ?_
  · have t5:=tAt (.int .u64 (M:Int)) (hfr.at 5 (by kernel_rfl));refine fW0 rfl ?_;clear hfr hdep;go_simp;exact hK _ _ (Gr.refl _) hinv (dsT (by trivial))
  refine .cons (fun a W hfr hinv hdep K hK=>?_) ?_
  · have t10:=tAt (.int .u64 (M:Int)) (hdep 10 (by kernel_rfl));have hlt:=HLT.out;refine fW0 rfl ?_;clear hfr hdep;go_simp;exact hK _ _ (Gr.refl _) hinv (dsT (by trivial))
  refine .cons (fun a W hfr hinv hdep K hK=>?_) ?_
  · have t11:=tAt (.bool true) (hdep 11 (by kernel_rfl));refine fW0 rfl ?_;clear hfr hdep;go_simp;exact hK _ _ (Gr.refl _) hinv (dsT (by trivial))
  refine .cons (fun a W hfr hinv hdep K hK=>?_) ?_
  · have sg:a.tmps.getD 12 undef=.bool !false:=hdep 12 (by kernel_rfl);have t4:=tAt (.func (.func 126) #[] #[.pointer (some ⟨w.heap.size,0,none⟩)]) (hfr.at 4 (by kernel_rfl));rw [if_neg (Flow.wanted_no 2 false 12 rfl (by kernel_rfl) sg)];clear hfr hdep;exact hK _ _ (Gr.refl _) hinv (dsT (by trivial))
  refine .cons (fun a W hfr hinv hdep K hK=>?_) ?_
  · have sg:a.tmps.getD 12 undef=.bool !false:=hdep 12 (by kernel_rfl);rw [if_neg (Flow.wanted_no 2 false 12 rfl (by kernel_rfl) sg)];clear hfr hdep;exact hK _ _ (Gr.refl _) hinv (dsT (by trivial))
  refine .cons (fun a W hfr hinv hdep K hK=>?_) ?_
  · have sg:a.tmps.getD 12 undef=.bool !false:=hdep 12 (by kernel_rfl);have t1:=tAt (.pointer (some ⟨w.heap.size,0,none⟩)) (hfr.at 1 (by kernel_rfl));rw [if_neg (Flow.wanted_no 2 false 12 rfl (by kernel_rfl) sg)];clear hfr hdep;exact hK _ _ (Gr.refl _) hinv (dsT (by trivial))
  refine .cons (fun a W hfr hinv hdep K hK=>?_) ?_
  · have sg:a.tmps.getD 12 undef=.bool !false:=hdep 12 (by kernel_rfl);have t1:=tAt (.pointer (some ⟨w.heap.size,0,none⟩)) (hfr.at 1 (by kernel_rfl));rw [if_neg (Flow.wanted_no 2 false 12 rfl (by kernel_rfl) sg)];clear hfr hdep;exact hK _ _ (Gr.refl _) hinv (dsT (by trivial))
  refine .cons (fun a W hfr hinv hdep K hK=>?_) ?_
  · have sg:a.tmps.getD 12 undef=.bool !false:=hdep 12 (by kernel_rfl);rw [if_neg (Flow.wanted_no 2 false 12 rfl (by kernel_rfl) sg)];clear hfr hdep;exact hK _ _ (Gr.refl _) hinv (dsT (by trivial))
  refine .cons (fun a W hfr hinv hdep K hK=>?_) ?_
  · have sg:a.tmps.getD 12 undef=.bool !false:=hdep 12 (by kernel_rfl);rw [if_neg (Flow.wanted_no 2 false 12 rfl (by kernel_rfl) sg)];clear hfr hdep;exact hK _ _ (Gr.refl _) hinv (dsT (by trivial))
  refine .cons (fun a W hfr hinv hdep K hK=>?_) ?_
  · have sg:a.tmps.getD 12 undef=.bool !false:=hdep 12 (by kernel_rfl);rw [if_neg (Flow.wanted_no 2 false 12 rfl (by kernel_rfl) sg)];clear hfr hdep;exact hK _ _ (Gr.refl _) hinv (dsT (by trivial))
  refine .cons (fun a W hfr hinv hdep K hK=>?_) ?_
  · have sg:a.tmps.getD 12 undef=.bool !false:=hdep 12 (by kernel_rfl);rw [if_neg (Flow.wanted_no 2 false 12 rfl (by kernel_rfl) sg)];clear hfr hdep;exact hK _ _ (Gr.refl _) hinv (dsT (by trivial))
  refine .cons (fun a W hfr hinv hdep K hK=>?_) ?_
  · have t12:=tAt (.bool true) (hdep 12 (by kernel_rfl));refine fW0 rfl ?_;clear hfr hdep;go_simp;exact hK _ _ (Gr.refl _) hinv (dsT (by trivial))
  exact True.intro
 case fin=>
  intro a W hfr hfin hsl
  have s21:a.tmps.getD 21 undef=.bool true:=hsl 11 _ 21 rfl rfl;have t21:=tmpAt s21;have e:=Flow.frame hfr [10,11,12,13,14,15,16,17,18,19,20,21] (List.range 34) (by kernel_rfl) (by kernel_rfl)
  simp [List.range,List.range.loop] at e
  rw [t21] at e
  rw [e];clear e hfr hsl s21 t21
  first
   | (rename_i hB;refine hB _ _ ?_)
   | (rename_i hB y0;refine hB _ _ ?_)
   | (rename_i hB y0 y1;refine hB _ _ ?_)
   | (rename_i hB y0 y1 y2;refine hB _ _ ?_)
   | (rename_i hB y0 y1 y2 y3;refine hB _ _ ?_)
   | (rename_i hB y0 y1 y2 y3 y4;refine hB _ _ ?_)
   | (rename_i hB y0 y1 y2 y3 y4 y5;refine hB _ _ ?_)
   | (rename_i hB y0 y1 y2 y3 y4 y5 y6;refine hB _ _ ?_)
  have HB2:=Lib.hid (HB.out.2.1.gr hfin);have HG2:=Lib.hid (Gr.trans HB.out.2.2 hfin);clear hfin
  go_wp2_with (refine wpList_store_pc rfl (.tmp 2) (.tmp 22) rfl HB2.out rfl rfl (one_pc _ _ _ _ _) rfl rfl ?_)
  exact bodyPost_ret (results_pc rfl _ _ _ _ (.bool false) rfl rfl rfl (HB2.out.row _)) rfl ⟨rfl,below_setRow HG2.out (by omega) _⟩
set_option maxRecDepth 100000 in
set_option maxHeartbeats 1000000 in
theorem pieceOf_any {xs:List Int} (hx:IsSec xs) (w:World) (h:manyX xs≤232):Calls Tryz.prog 101 #[.agg (sec (Sx xs))] w (RetSum xs w):=by
 obtain ⟨W1,hW1⟩:∃ W1,W1=(w.alloc (.cells (sec (Sx xs)) TS)).alloc (.cells #[.int .u64 0,.int .u64 0,.slice none 0 0] TPc):=⟨_,rfl⟩;have hB1:=Blk.new w TS (sec (Sx xs));have hB2:=Blk.new (w.alloc (.cells (sec (Sx xs)) TS)) TPc #[.int .u64 0,.int .u64 0,.slice none 0 0]
 have HB:Hid (Blk W1 w.heap.size TS (sec (Sx xs))∧Blk W1 (w.heap.size+1) TPc #[.int .u64 0,.int .u64 0,.slice none 0 0]∧Gr w W1):=Lib.hid (by
  rw [hW1]
  simp only [World.size_alloc] at hB2
  exact ⟨hB1.gr (Gr.new _ _),hB2,Gr.trans (Gr.new _ _) (Gr.new _ _)⟩)
 have HM:=Lib.hid (pieceAt_any hx 16 4 w.heap.size W1 HB.out.1);obtain ⟨M,hM⟩:∃ M,M=manyX xs:=⟨_,rfl⟩;obtain ⟨S,hS⟩:∃ S,S=sumX xs:=⟨_,rfl⟩;obtain ⟨T,hT⟩:∃ T,T=sumW (xs.take 20++xs.drop 24):=⟨_,rfl⟩;obtain ⟨NB,hNB⟩:∃ NB,NB = !decide (S=T.toNat):=⟨_,rfl⟩;have hMM:atR xs 16 4=M:=hM.symm
 rw [hMM] at HM
 rw [← hM] at h
 have HS:Hid (∀ W,Gr W1 W→Calls Tryz.prog 126 #[.int .i64 20,.int .i64 4,.pointer (some ⟨w.heap.size,0,none⟩)] W fun e w'=>e=.returned (.int .u64 (S:Int))∧W=w'):=Lib.hid fun W gr=>by
  have h:=pieceAt_any hx 20 4 w.heap.size W (HB.out.1.gr gr)
  rwa [show atR xs 20 4=S from hS.symm] at h
 have HN1:Hid (∀ W,Gr W1 W→Calls Tryz.prog 126 #[.int .i64 0,.int .i64 8,.pointer (some ⟨w.heap.size,0,none⟩)] W fun e w'=>e=.returned (.int .u64 (numX xs:Int))∧W=w'):=Lib.hid fun W gr=>pieceAt_any hx 0 8 w.heap.size W (HB.out.1.gr gr)
 have HN2:Hid (∀ W,Gr W1 W→Calls Tryz.prog 126 #[.int .i64 8,.int .i64 8,.pointer (some ⟨w.heap.size,0,none⟩)] W fun e w'=>e=.returned (.int .u64 (epX xs:Int))∧W=w'):=Lib.hid fun W gr=>pieceAt_any hx 8 8 w.heap.size W (HB.out.1.gr gr)
 have HY:Hid (Byt W1 (some ⟨w.heap.size,0,none⟩) 20 256 (xs.take 20)∧Byt W1 (some ⟨w.heap.size,24,none⟩) 232 232 (xs.drop 24)):=Lib.hid ⟨(HB.out.1.byt hx).pre 20 256 (by omega) (by omega) (by omega),by
  have h:=(HB.out.1.byt hx).tail 24 (by omega) (some ⟨w.heap.size,24,none⟩) (fun _=>by rw [Nat.zero_add])
  simpa using h⟩
 have HSU:Hid (∀ pr nr cr W,Rows W pr nr cr [xs.take 20,xs.drop 24]→Calls Tryz.prog 128 #[.slice pr nr cr] W fun e w'=>e=.returned (.int .u32 (U T))∧Gr W w'):=Lib.hid fun pr nr cr W hr=>by
  have h:=sum_any pr nr cr _ W hr;rw [hT]
  simpa using h
 have HW:Hid (IntKind.u64.wrap (U T)=((T.toNat:Nat):Int)):=Lib.hid (by
  have:=T.isLt
  rw [IntKind.wrap_u64];unfold U;omega)
 have HNB:Hid (((S:Int) != ((T.toNat:Nat):Int))=NB):=Lib.hid (by
  rw [hNB]
  by_cases e:S=T.toNat
  · simp [e]
  ·
   have:¬ (S:Int)=((T.toNat:Nat):Int):=by omega
   simp [e,this])
 have hW1':(w.alloc (.cells (sec (Sx xs)) 60)).alloc (.cells #[.int .u64 0,.int .u64 0,.slice none 0 0] 153)=W1:=hW1.symm;have HW1:=Lib.hid hW1';have HLT:Hid (decide (232 < (M:Int))=false):=Lib.hid (decide_eq_false (by omega));have HE:Hid (sumX xs=trueX xs ↔ NB=false):=Lib.hid (by rw [hNB,← hS,show trueX xs=T.toNat by unfold trueX;rw [hT]];simp);have HMx:=Lib.hid hM;clear hW1 hW1' hM hMM hB1 hB2 hS hT hNB
 go_enter Tryz.func101,Tryz.ntmps101
 go_wp2_with fail;rw [HW1.out];refine HM.out.mono ?_;rintro e w1 ⟨rfl,rfl⟩;go_wp2_with fail;refine Flow.region (SlPb w.heap.size xs M S T NB) (Gr W1) Gr (by kernel_rfl) (by kernel_rfl) (fun _ _ _ _ h g=>slPb_gr h g) ⟨rfl,rfl,rfl,Nat.le_refl _,fun _ _=>rfl⟩ ?steps ?fin
 case steps=>
  refine .cons (fun a W hfr hinv hdep K hK=>?_) ?_
  · have t5:=tAt (.int .u64 (M:Int)) (hfr.at 5 (by kernel_rfl));refine fW0 rfl ?_;clear hfr hdep;go_simp;exact hK _ _ (Gr.refl _) hinv (dsT (by trivial))
  refine .cons (fun a W hfr hinv hdep K hK=>?_) ?_
  · have t10:=tAt (.int .u64 (M:Int)) (hdep 10 (by kernel_rfl));have hlt:=HLT.out;refine fW0 rfl ?_;clear hfr hdep;go_simp;exact hK _ _ (Gr.refl _) hinv (dsT (by trivial))
  refine .cons (fun a W hfr hinv hdep K hK=>?_) ?_
  · have t11:=tAt (.bool false) (hdep 11 (by kernel_rfl));refine fW0 rfl ?_;clear hfr hdep;go_simp;exact hK _ _ (Gr.refl _) hinv (dsT (by trivial))
  refine .cons (fun a W hfr hinv hdep K hK=>?_) ?_
  · have sg:a.tmps.getD 12 undef=.bool false:=hdep 12 (by kernel_rfl);have t4:=tAt (.func (.func 126) #[] #[.pointer (some ⟨w.heap.size,0,none⟩)]) (hfr.at 4 (by kernel_rfl));rw [if_pos (Flow.wanted_yes 2 false 12 rfl (by kernel_rfl) sg)];clear hfr hdep;go_simp;exact hK _ _ (Gr.refl _) hinv (dsT (by trivial))
  refine .cons (fun a W hfr hinv hdep K hK=>?_) ?_
  · have sg:a.tmps.getD 12 undef=.bool false:=hdep 12 (by kernel_rfl);have t13:=tAt (.func (.func 126) #[] #[.pointer (some ⟨w.heap.size,0,none⟩)]) (hdep 13 (by kernel_rfl));rw [if_pos (Flow.wanted_yes 2 false 12 rfl (by kernel_rfl) sg)];clear hfr hdep;go_simp;refine (HS.out W hinv).mono ?_;rintro e W' ⟨rfl,rfl⟩;exact hK _ _ (Gr.refl _) hinv (dsT (by trivial))
  refine .cons (fun a W hfr hinv hdep K hK=>?_) ?_
  · have sg:a.tmps.getD 12 undef=.bool false:=hdep 12 (by kernel_rfl);have t1:=tAt (.pointer (some ⟨w.heap.size,0,none⟩)) (hfr.at 1 (by kernel_rfl));rw [if_pos (Flow.wanted_yes 2 false 12 rfl (by kernel_rfl) sg)];clear hfr hdep;go_simp;exact hK _ _ (Gr.refl _) hinv (dsT (by trivial))
  refine .cons (fun a W hfr hinv hdep K hK=>?_) ?_
  · have sg:a.tmps.getD 12 undef=.bool false:=hdep 12 (by kernel_rfl);have t1:=tAt (.pointer (some ⟨w.heap.size,0,none⟩)) (hfr.at 1 (by kernel_rfl));rw [if_pos (Flow.wanted_yes 2 false 12 rfl (by kernel_rfl) sg)];clear hfr hdep;go_simp;exact hK _ _ (Gr.refl _) hinv (dsT (by trivial))
  refine .cons (fun a W hfr hinv hdep K hK=>?_) ?_
  · have sg:a.tmps.getD 12 undef=.bool false:=hdep 12 (by kernel_rfl);have t15:=tAt (.slice (some ⟨w.heap.size,0,none⟩) 20 256) (hdep 15 (by kernel_rfl));have t16:=tAt (.slice (some ⟨w.heap.size,24,none⟩) 232 232) (hdep 16 (by kernel_rfl));rw [if_pos (Flow.wanted_yes 2 false 12 rfl (by kernel_rfl) sg)];clear hfr hdep;have h0:=HY.out.1.kept hinv;have h1:=HY.out.2.kept hinv;go_simp;exact hK _ _ ((Gr.refl W).alloc (Nat.le_refl _) _) (hinv.alloc hinv.size _) (fun d hd=>by cases hd;exact ⟨_,_,_,rfl,Rows.two h0 h1 rfl⟩)
  refine .cons (fun a W hfr hinv hdep K hK=>?_) ?_
  · have sg:a.tmps.getD 12 undef=.bool false:=hdep 12 (by kernel_rfl);have s17:IsRows W (a.tmps.getD 17 undef) [xs.take 20,xs.drop 24]:=hdep 17 (by kernel_rfl);rw [if_pos (Flow.wanted_yes 2 false 12 rfl (by kernel_rfl) sg)];clear hfr hdep;obtain ⟨pr,nr,cr,s17,hr⟩:=s17;have t17:=tmpAt s17;go_simp;refine (HSU.out pr nr cr W hr).mono ?_;rintro e W' ⟨rfl,g1⟩;exact hK _ _ g1 (Gr.trans hinv g1) (dsT (by trivial))
  refine .cons (fun a W hfr hinv hdep K hK=>?_) ?_
  · have sg:a.tmps.getD 12 undef=.bool false:=hdep 12 (by kernel_rfl);have t18:=tAt (.int .u32 (U T)) (hdep 18 (by kernel_rfl));have hw:=HW.out;rw [if_pos (Flow.wanted_yes 2 false 12 rfl (by kernel_rfl) sg)];clear hfr hdep;go_simp;exact hK _ _ (Gr.refl _) hinv (dsT (by trivial))
  refine .cons (fun a W hfr hinv hdep K hK=>?_) ?_
  · have sg:a.tmps.getD 12 undef=.bool false:=hdep 12 (by kernel_rfl);have t14:=tAt (.int .u64 (S:Int)) (hdep 14 (by kernel_rfl));have t19:=tAt (.int .u64 (T.toNat:Int)) (hdep 19 (by kernel_rfl));have hq:=HNB.out;rw [if_pos (Flow.wanted_yes 2 false 12 rfl (by kernel_rfl) sg)];clear hfr hdep;go_simp;exact hK _ _ (Gr.refl _) hinv (dsT (by trivial))
  refine .cons (fun a W hfr hinv hdep K hK=>?_) ?_
  · have t12:=tAt (.bool false) (hdep 12 (by kernel_rfl));have t20:=tAt (.bool NB) (hdep 20 (by kernel_rfl));refine fW0 rfl ?_;clear hfr hdep;go_simp;exact hK _ _ (Gr.refl _) hinv (dsT (by trivial))
  exact True.intro
 case fin=>
  intro a W hfr hfin hsl
  have s21:a.tmps.getD 21 undef=.bool NB:=hsl 11 _ 21 rfl rfl;have t21:=tmpAt s21;have e:=Flow.frame hfr [10,11,12,13,14,15,16,17,18,19,20,21] (List.range 34) (by kernel_rfl) (by kernel_rfl)
  simp [List.range,List.range.loop] at e
  rw [t21] at e
  rw [e];clear e hfr hsl s21 t21
  first
   | (rename_i hB;refine hB _ _ ?_)
   | (rename_i hB y0;refine hB _ _ ?_)
   | (rename_i hB y0 y1;refine hB _ _ ?_)
   | (rename_i hB y0 y1 y2;refine hB _ _ ?_)
   | (rename_i hB y0 y1 y2 y3;refine hB _ _ ?_)
   | (rename_i hB y0 y1 y2 y3 y4;refine hB _ _ ?_)
   | (rename_i hB y0 y1 y2 y3 y4 y5;refine hB _ _ ?_)
   | (rename_i hB y0 y1 y2 y3 y4 y5 y6;refine hB _ _ ?_)
  have HB2:=Lib.hid (HB.out.2.1.gr hfin);have HG2:=Lib.hid (Gr.trans HB.out.2.2 hfin);have HN3:=Lib.hid (HN1.out W hfin);have HN4:=Lib.hid (HN2.out W hfin);have HB3:=Lib.hid (HB.out.1.gr hfin);clear hfin
  cases NB
  ·
   obtain ⟨N1,hN1⟩:∃ N1,N1=numX xs:=⟨_,rfl⟩;obtain ⟨N2,hN2⟩:∃ N2,N2=epX xs:=⟨_,rfl⟩;obtain ⟨E,hE⟩:∃ E,E=24+M:=⟨_,rfl⟩
   obtain ⟨O,hO⟩:∃ O,O=if E=24 then 0 else 24:=⟨_,rfl⟩
   have HNN:Hid (atR xs 0 8=N1∧atR xs 8 8=N2∧sumX xs=trueX xs):=Lib.hid ⟨hN1.symm,hN2.symm,HE.out.2 rfl⟩;have hw1:IntKind.i64.wrap (M:Int)=(M:Int):=IntWalk.i64_in _ (by omega)
   have hw2:IntKind.i64.wrap (24+(M:Int))=(E:Int):=by rw [IntWalk.i64_in _ (by omega)];omega
   have hw3:24+(M:Int)=(E:Int):=by omega
   have HRC:Hid (∀ W,(Instr.sliceAt TS (.pointer (some ⟨w.heap.size,0,none⟩)) (some (.int .i64 24)) (some (.int .i64 (E:Int))) (some (.int .i64 (E:Int)))).run Tryz.prog W=.ok (.slice (some ⟨w.heap.size,O,none⟩) M M) W):=Lib.hid fun W=>by
    have h:=run_cut24 w.heap.size E (by omega) (by omega) W
    rw [← hO,show E - 24=M by omega] at h
    exact h
   have HPA:Hid (∀ F S W,Blk W w.heap.size TS (sec (Sx xs))→Calls Tryz.prog 126 #[.int .i64 F,.int .i64 S,.pointer (some ⟨w.heap.size,0,none⟩)] W fun e w'=>e=.returned (.int .u64 (atR xs F S))∧W=w'):=Lib.hid fun F S W hb=>pieceAt_any hx F S w.heap.size W hb
   have HIN:Hid (InP w xs N1 N2 O M (fun j=>(Array.replicate 10 false).getD j true) W.drew):=Lib.hid ⟨HG2.out.drew,HB3.out.heap rfl,HB2.out.heap rfl⟩;have HMO:Hid (manyX xs=M∧(0 < M→O=24)∧M≤232):=Lib.hid ⟨HMx.out.symm,fun h0=>by rw [hO,if_neg (by omega)],h⟩;clear hN1 hN2 hE hO HN1 HN2 HS HNB HE HW HSU HLT HN3 HN4 HMx;go_wp2_with fail;refine Flow.regionS [3] 20 (SlPc w.heap.size E O M N1 N2) (InP w xs N1 N2 O M) (fun _ _ _=>True) (by kernel_rfl) (by kernel_rfl) (fun _ _ _ _ _ _ h _=>h) HIN.out ?steps ?fin
   case steps=>
    refine .cons (fun l a W hfr hun hup hdn hinv hdep K hK=>?_) ?_
    · have t4:=tAt (.func (.func 126) #[] #[.pointer (some ⟨w.heap.size,0,none⟩)]) (hfr.at 4 (by kernel_rfl));refine fW0 rfl ?_;clear hfr hdep hun hup hdn;go_simp;exact hK _ _ True.intro (hinv.other 0 (by decide)) (dsT (by trivial))
    refine .cons (fun l a W hfr hun hup hdn hinv hdep K hK=>?_) ?_
    · have t26:=tAt (.func (.func 126) #[] #[.pointer (some ⟨w.heap.size,0,none⟩)]) (hdep 26 (by kernel_rfl));refine fW0 rfl ?_;clear hfr hdep hun hup hdn;go_simp;refine (HPA.out 0 8 W hinv.s).mono ?_;rintro e W' ⟨rfl,rfl⟩;rw [HNN.out.1];exact hK _ _ True.intro (hinv.other 1 (by decide)) (dsT (by trivial))
    refine .cons (fun l a W hfr hun hup hdn hinv hdep K hK=>?_) ?_
    · have t4:=tAt (.func (.func 126) #[] #[.pointer (some ⟨w.heap.size,0,none⟩)]) (hfr.at 4 (by kernel_rfl));refine fW0 rfl ?_;clear hfr hdep hun hup hdn;go_simp;exact hK _ _ True.intro (hinv.other 2 (by decide)) (dsT (by trivial))
    refine .cons (fun l a W hfr hun hup hdn hinv hdep K hK=>?_) ?_
    · have t28:=tAt (.func (.func 126) #[] #[.pointer (some ⟨w.heap.size,0,none⟩)]) (hdep 28 (by kernel_rfl));refine fW0 rfl ?_;clear hfr hdep hun hup hdn;go_simp;refine (HPA.out 8 8 W hinv.s).mono ?_;rintro e W' ⟨rfl,rfl⟩;rw [HNN.out.2.1];exact hK _ _ True.intro (hinv.other 3 (by decide)) (dsT (by trivial))
    refine .cons (fun l a W hfr hun hup hdn hinv hdep K hK=>?_) ?_
    · have t6:=tAt (.int .i64 (E:Int)) (hfr.at 6 (by kernel_rfl));refine fW0 rfl ?_;clear hfr hdep hun hup hdn;go_simp;exact hK _ _ True.intro (hinv.other 4 (by decide)) (dsT (by trivial))
    refine .cons (fun l a W hfr hun hup hdn hinv hdep K hK=>?_) ?_
    · have t6:=tAt (.int .i64 (E:Int)) (hfr.at 6 (by kernel_rfl));refine fW0 rfl ?_;clear hfr hdep hun hup hdn;go_simp;exact hK _ _ True.intro (hinv.other 5 (by decide)) (dsT (by trivial))
    refine .cons (fun l a W hfr hun hup hdn hinv hdep K hK=>?_) ?_
    · have t1:=tAt (.pointer (some ⟨w.heap.size,0,none⟩)) (hfr.at 1 (by kernel_rfl));have t30:=tAt (.int .i64 (E:Int)) (hdep 30 (by kernel_rfl));have t31:=tAt (.int .i64 (E:Int)) (hdep 31 (by kernel_rfl));refine fW0 rfl ?_;clear hfr hdep hun hup hdn;have hrc:=HRC.out W;go_simp;exact hK _ _ True.intro (hinv.other 6 (by decide)) (dsT (by trivial))
    refine .cons (fun l a W hfr hun hup hdn hinv hdep K hK=>?_) ?_
    · have t27:=tAt (.int .u64 (N1:Int)) (hdep 27 (by kernel_rfl));have t29:=tAt (.int .u64 (N2:Int)) (hdep 29 (by kernel_rfl));have t32:=tAt (.slice (some ⟨w.heap.size,O,none⟩) M M) (hdep 32 (by kernel_rfl));refine fW0 rfl ?_;clear hfr hdep hun hup hdn;go_simp;exact hK _ _ True.intro (hinv.other 7 (by decide)) (dsT (by trivial))
    refine .cons (fun l a W hfr hun hup hdn hinv hdep K hK=>?_) ?_
    ·
     have s2:a.tmps.getD 2 undef=.pointer (some ⟨w.heap.size+1,0,none⟩):=hfr.at 2 (by kernel_rfl)
     have t2:=tmpAt s2;have s33:a.tmps.getD 33 undef=.agg #[.int .u64 (N1:Int),.int .u64 (N2:Int),.slice (some ⟨w.heap.size,O,none⟩) M M]:=hdep 33 (by kernel_rfl);have t33:=tmpAt s33;refine fW0 rfl ?_;clear hfr hdep hun hup hdn;refine wp_store_pc (.tmp 2) (.tmp 33) rfl hinv.p (by cases l 8 <;> rfl) rfl (one_pc _ _ _ _ _) (by simpa [Act.eval] using s2) (by simpa [Act.eval] using s33) ?_;exact hK undef _ True.intro hinv.put (fun d hd=>by cases hd)
    refine .cons (fun l a W hfr hun hup hdn hinv hdep K hK=>?_) ?_
    · refine fW0 rfl ?_;clear hfr hdep hun hup hdn;go_simp;exact hK _ _ True.intro (hinv.other 9 (by decide)) (dsT (by trivial))
    exact True.intro
   case fin=>
    intro a W9 l hfr hall hinv hsl
    have l8:l 8=true:=hall 8 (by decide);have s3:a.tmps.getD 3 undef=.bool true:=hsl 9 _ 3 rfl rfl (by simp);have t3:=tmpAt s3;have e:=Flow.frame hfr [26,27,28,29,30,31,32,33,3] (List.range 34) (by kernel_rfl) (by kernel_rfl)
    simp [List.range,List.range.loop] at e
    rw [t3] at e
    rw [e];have hp9:=hinv.p
    rw [l8] at hp9
    have HP9:Hid (Blk W9 (w.heap.size+1) TPc #[.int .u64 (N1:Int),.int .u64 (N2:Int),.slice (some ⟨w.heap.size,O,none⟩) M M]∧Gr w W9∧Blk W9 w.heap.size TS (sec (Sx xs))):=Lib.hid ⟨hp9,hinv.gr,hinv.s⟩;clear e hfr hsl hall hinv hp9 l8 s3 t3
    first
     | (rename_i hB;refine hB _ _ ?_)
     | (rename_i hB y0;refine hB _ _ ?_)
     | (rename_i hB y0 y1;refine hB _ _ ?_)
     | (rename_i hB y0 y1 y2;refine hB _ _ ?_)
     | (rename_i hB y0 y1 y2 y3;refine hB _ _ ?_)
     | (rename_i hB y0 y1 y2 y3 y4;refine hB _ _ ?_)
     | (rename_i hB y0 y1 y2 y3 y4 y5;refine hB _ _ ?_)
     | (rename_i hB y0 y1 y2 y3 y4 y5 y6;refine hB _ _ ?_)
    have HX:Hid (Byt W9 (some ⟨w.heap.size,O,none⟩) M M (bytX xs)):=Lib.hid (by
     unfold bytX
     rw [HMO.out.1]
     by_cases h0:0 < M
     ·
      rw [HMO.out.2.1 h0];have hb:=(HP9.out.2.2.byt hx).sub (by omega) 24 M M (by have:=HMO.out.2.2;omega) (Nat.le_refl _) (by have:=HMO.out.2.2;simp only [maxLen];omega)
      rwa [Nat.zero_add] at hb
     ·
      obtain rfl:M=0:=by omega
      simpa using Byt.zero W9 (some ⟨w.heap.size,O,none⟩))
    clear hw1 hw2 hw3;go_wp2_with fail;refine bodyPost_ret (results_pc rfl _ _ _ _ (.bool true) rfl rfl rfl HP9.out.1) rfl ?_
    unfold RetSum
    rw [if_pos HNN.out.2.2];refine ⟨some ⟨w.heap.size,O,none⟩,?_,?_,HP9.out.2.1,fun a h=>by cases h;exact Nat.le_refl _⟩
    · rw [HMO.out.1,show numX xs=N1 from HNN.out.1,show epX xs=N2 from HNN.out.2.1]
    · rw [HMO.out.1];exact HX.out
  ·
   have HNE:Hid (¬ sumX xs=trueX xs):=Lib.hid (fun e=>by have:=HE.out.1 e;cases this);clear HN1 HN2 HS HNB HE HW HSU HLT HN3 HN4
   go_wp2_with (refine wpList_store_pc rfl (.tmp 2) (.tmp 22) rfl HB2.out rfl rfl (one_pc _ _ _ _ _) rfl rfl ?_)
   refine bodyPost_ret (results_pc rfl _ _ _ _ (.bool false) rfl rfl rfl (HB2.out.row _)) rfl ?_
   unfold RetSum
   rw [if_neg HNE.out];exact ⟨rfl,below_setRow HG2.out (by omega) _⟩
def RetPc (xs:List Int) (w:World) (e:Ending) (w':World):Prop:=if okX xs=true then RetPiece xs w e w' else RetNoPiece w e w'
theorem pieceOf_all {xs:List Int} (hx:IsSec xs) (w:World):Calls Tryz.prog 101 #[.agg (sec (Sx xs))] w (RetPc xs w):=by
 unfold RetPc okX
 by_cases h:manyX xs≤232
 ·
  refine (pieceOf_any hx w h).mono ?_
  intro e w' hr
  unfold RetSum at hr
  simpa [h] using hr
 ·
  refine (pieceOf_much hx w (by omega)).mono ?_
  intro e w' hr
  simpa [h] using hr
end Go.Proofs.YtdmhemgepdknhaaGreat
