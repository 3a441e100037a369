/-
  Part 7 of what the laws of stage 6 rest on: contracts of the functions that they call, and what these rest on.
-/
import Derived.RangeFuncNested
import Derived.RangeFuncBound
import Derived.RangeFuncCalls
import Derived.RangeFuncLeaves
import Derived.Lib.Hide
import Derived.Shelf.Abstract
import Derived.Shelf.RegionOpen
import Derived.WalkKit
import Derived.OwnWalkIn
import Derived.TacticsInMore
import Derived.LoopNIn
import Derived.LoopIn
import Derived.OrdersIn
import Derived.Test.YtlijbgapkmfnaaaGreatProg
import Derived.Test.YtlijbgapkmfnaaaGreatW1
import Derived.Test.YtlijbgapkmfnaaaGreatW3
import Derived.Test.YtlijbgapkmfnaaaGreatW4
import Derived.Test.YtlijbgapkmfnaaaGreatW6
set_option linter.unusedVariables false
set_option linter.unusedSimpArgs false
namespace Go.Proofs.YtlijbgapkmfnaaaGreat
open Go.RowKit Go.Maps
def InC (z:Nat) (w0:World) (Fin:World→Prop) (l:Nat→Bool) (W:World):Prop:=(l z=false→Gr w0 W)∧(l z=true→Fin W)
theorem InC.pre {z:Nat} {w0 W:World} {Fin:World→Prop} {l:Nat→Bool} (h:InC z w0 Fin l W) (hl:l z=false):Gr w0 W:=h.1 hl
theorem InC.post {z:Nat} {w0 W:World} {Fin:World→Prop} {l:Nat→Bool} (h:InC z w0 Fin l W) (hl:l z=true):Fin W:=h.2 hl
theorem InC.other {z:Nat} {w0 W:World} {Fin:World→Prop} {l:Nat→Bool} (h:InC z w0 Fin l W) (i:Nat) (hi:z≠i):InC z w0 Fin (Flow.upd l i) W:=by
 unfold InC;rw [Flow.upd_other l hi];exact h
theorem InC.grow {z:Nat} {w0 W W':World} {Fin:World→Prop} {l:Nat→Bool} (h:InC z w0 Fin l W) (hl:l z=false) (g:Gr W W') (i:Nat) (hi:z≠i):InC z w0 Fin (Flow.upd l i) W':=by
 unfold InC;rw [Flow.upd_other l hi];exact ⟨fun _=>Gr.trans (h.1 hl) g,fun e=>by rw [hl] at e;cases e⟩
theorem InC.fin {z:Nat} {w0 W':World} {Fin:World→Prop} {l:Nat→Bool} (h:Fin W'):InC z w0 Fin (Flow.upd l z) W':=by
 unfold InC;rw [Flow.upd_same];exact ⟨(fun e=>by cases e),fun _=>h⟩
theorem InC.start {z:Nat} {w0 W:World} {Fin:World→Prop} {l:Nat→Bool} (h:l z=false) (g:Gr w0 W):InC z w0 Fin l W:=⟨fun _=>g,fun e=>by rw [h] at e;cases e⟩
def SlAp (b:Nat) (k:Int) (t:Nat) (p:Nat) (x:Nat) (g:Int) (o:Int) (pb:Option Addr) (nb:Nat) (cb:Nat) (pa:Option Addr) (na:Nat) (ca:Nat) (A:Nat) (E:Int) (F:Int) (slot:Nat) (v:Value) (_:World):Prop:=
 match slot with
 | 4=>v=.int .u64 (A:Int)
 | 5=>v=.int .i64 E
 | 8=>v=.pointer (some ⟨b,0,none⟩)
 | 9=>v=.agg #[.int .i64 k,.int .u64 t,.int .u64 p,.int .u64 x,.int .i64 g,.int .i64 o,.slice pb nb cb,.slice pa na ca]
 | 10=>v=.pointer (some ⟨b,0,none⟩)
 | 11=>v=.int .i64 F
 | 12=>v=.tuple #[.int .u64 (A:Int),.int .i64 E]
 | 13=>v=.int .u64 (A:Int)
 | 14=>v=.int .i64 E
 | _=>True
def SlUs (b:Nat) (k:Int) (t:Nat) (p:Nat) (x:Nat) (g:Int) (o:Int) (pb:Option Addr) (nb:Nat) (cb:Nat) (pa:Option Addr) (na:Nat) (ca:Nat) (A:Nat) (E:Int) (F:Int) (slot:Nat) (v:Value) (_:World):Prop:=
 match slot with
 | 6=>v=.int .u64 (A:Int)
 | 7=>v=.int .i64 E
 | 10=>v=.tuple #[.int .u64 (A:Int),.int .i64 E]
 | 11=>v=.pointer (some ⟨b,0,none⟩)
 | 12=>v=.agg #[.int .i64 k,.int .u64 t,.int .u64 p,.int .u64 x,.int .i64 g,.int .i64 o,.slice pb nb cb,.slice pa na ca]
 | 13=>v=.pointer (some ⟨b,0,none⟩)
 | 14=>v=.pointer (some ⟨b,0,none⟩)
 | 15=>v=.pointer (some ⟨b,8,none⟩)
 | 16=>v=.int .i64 F
 | 17=>v=.tuple #[.int .u64 (A:Int),.int .i64 E]
 | 18=>v=.int .u64 (A:Int)
 | 19=>v=.int .i64 E
 | _=>True
set_option maxRecDepth 100000 in
set_option maxHeartbeats 1000000 in
theorem append_core (b d:Nat) (k:Int) (t p x:Nat) (g o:Int) (pb:Option Addr) (nb cb:Nat) (pa:Option Addr) (na ca:Nat) (A:Nat) (E F:Int) (Fin:World→Prop) (w:World) (hm:Hid (∀ W,Gr w W→Calls Tryz.prog 55 #[.pointer (some ⟨b,0,none⟩)] W fun e w'=>e=.returned (.bool false)∧W=w'))
  (HFr:Hid (∀ W,Gr w W→Calls Tryz.prog 40 #[.pointer (some ⟨b,0,none⟩)] W fun e w'=>e=.returned (.int .i64 F)∧Gr W w'))
  (HLY:Hid (∀ W,Gr w W→Calls Tryz.prog 56 #[.pointer (some ⟨b,0,none⟩),.agg #[.int .i64 k,.int .u64 t,.int .u64 p,.int .u64 x,.int .i64 g,.int .i64 o,.slice pb nb cb,.slice pa na ca],.int .i64 F] W fun e w'=>e=.returned (.tuple #[.int .u64 (A:Int),.int .i64 E])∧Fin w')) :
  Calls Tryz.prog 19 #[.pointer (some ⟨b,0,none⟩),.agg #[.int .i64 k,.int .u64 t,.int .u64 p,.int .u64 x,.int .i64 g,.int .i64 o,.slice pb nb cb,.slice pa na ca]] w fun e w'=>e=.returned (.tuple #[.int .u64 (A:Int),.int .i64 E])∧Fin w':=by
 obtain ⟨W1,hW1⟩:∃ W1,W1=w.alloc (.cells #[.int .i64 k,.int .u64 t,.int .u64 p,.int .u64 x,.int .i64 g,.int .i64 o,.slice pb nb cb,.slice pa na ca] TR):=⟨_,rfl⟩;have HB1:Hid (Blk W1 w.heap.size TR #[.int .i64 k,.int .u64 t,.int .u64 p,.int .u64 x,.int .i64 g,.int .i64 o,.slice pb nb cb,.slice pa na ca]∧Gr w W1):=Lib.hid (by rw [hW1];exact ⟨Blk.new _ _ _,Gr.new _ _⟩);have hW1':w.alloc (.cells #[.int .i64 k,.int .u64 t,.int .u64 p,.int .u64 x,.int .i64 g,.int .i64 o,.slice pb nb cb,.slice pa na ca] 33)=W1:=hW1.symm;have HW1:=Lib.hid hW1';have HLY':=Lib.hid (fun W (gr:Gr W1 W)=>HLY.out W (Gr.trans HB1.out.2 gr));have HFr':=Lib.hid (fun W (gr:Gr W1 W)=>HFr.out W (Gr.trans HB1.out.2 gr));have HM:=Lib.hid (hm.out W1 HB1.out.2);clear hW1 hW1' HLY HFr hm;have HLY:=HLY';have HFr:=HFr';clear HLY' HFr'
 go_enter Tryz.func19,Tryz.ntmps19
 go_wp2_with fail;rw [HW1.out];refine HM.out.mono ?_;rintro e W2 ⟨rfl,rfl⟩;go_wp2_with fail;refine Flow.regionS [4,5] 20 (SlAp b k t p x g o pb nb cb pa na ca A E F) (InC 4 W1 (Fin)) (fun _ _ _=>True) (by kernel_rfl) (by kernel_rfl) (fun _ _ _ _ _ _ h _=>h) (InC.start (by rfl) (Gr.refl _).drew) ?steps ?fin
 case steps=>
  refine .cons (fun l a W hfr hun hup hdn hinv hdep K hK=>?_) ?_
  · have t0:=tAt (.pointer (some ⟨b,0,none⟩)) (hfr.at 0 (by kernel_rfl));refine fW0 rfl ?_;clear hfr hdep hdn;go_simp;exact hK _ _ True.intro (hinv.other 0 (by decide)) (dsT (by trivial))
  refine .cons (fun l a W hfr hun hup hdn hinv hdep K hK=>?_) ?_
  · have t3:=tAt (.pointer (some ⟨w.heap.size,0,none⟩)) (hfr.at 3 (by kernel_rfl));refine fW0 rfl ?_;clear hfr hdep hdn;have hlz:l 4=false:=hup 4 (by decide) (by kernel_rfl);have hin:=hinv.pre hlz;obtain ⟨c0,c1,c2,c3,c4,c5,c6,c7⟩:=(HB1.out.1.gr hin).c8;go_simp;exact hK _ _ True.intro (hinv.other 1 (by decide)) (dsT (by trivial))
  refine .cons (fun l a W hfr hun hup hdn hinv hdep K hK=>?_) ?_
  · have t0:=tAt (.pointer (some ⟨b,0,none⟩)) (hfr.at 0 (by kernel_rfl));refine fW0 rfl ?_;clear hfr hdep hdn;go_simp;exact hK _ _ True.intro (hinv.other 2 (by decide)) (dsT (by trivial))
  refine .cons (fun l a W hfr hun hup hdn hinv hdep K hK=>?_) ?_
  · have t10:=tAt (.pointer (some ⟨b,0,none⟩)) (hdep 10 (by kernel_rfl));refine fW0 rfl ?_;clear hfr hdep hdn;have hlz:l 4=false:=hup 4 (by decide) (by kernel_rfl);have hin:=hinv.pre hlz;go_simp;refine (HFr.out W hin).mono ?_;rintro e W' ⟨rfl,g1⟩;exact hK _ _ True.intro (hinv.grow hlz g1 3 (by decide)) (dsT (by trivial))
  refine .cons (fun l a W hfr hun hup hdn hinv hdep K hK=>?_) ?_
  · have t8:=tAt (.pointer (some ⟨b,0,none⟩)) (hdep 8 (by kernel_rfl));have t9:=tAt (.agg #[.int .i64 k,.int .u64 t,.int .u64 p,.int .u64 x,.int .i64 g,.int .i64 o,.slice pb nb cb,.slice pa na ca]) (hdep 9 (by kernel_rfl));have t11:=tAt (.int .i64 F) (hdep 11 (by kernel_rfl));refine fW0 rfl ?_;clear hfr hdep hdn;have hin:=hinv.pre hun;go_simp;refine (HLY.out W hin).mono ?_;rintro e W' ⟨rfl,h1⟩;exact hK _ _ True.intro (InC.fin h1) (dsT (by trivial))
  refine .cons (fun l a W hfr hun hup hdn hinv hdep K hK=>?_) ?_
  · have t12:=tAt (.tuple #[.int .u64 (A:Int),.int .i64 E]) (hdep 12 (by kernel_rfl));refine fW0 rfl ?_;clear hfr hdep hdn;go_simp;exact hK _ _ True.intro (hinv.other 5 (by decide)) (dsT (by trivial))
  refine .cons (fun l a W hfr hun hup hdn hinv hdep K hK=>?_) ?_
  · have t12:=tAt (.tuple #[.int .u64 (A:Int),.int .i64 E]) (hdep 12 (by kernel_rfl));refine fW0 rfl ?_;clear hfr hdep hdn;go_simp;exact hK _ _ True.intro (hinv.other 6 (by decide)) (dsT (by trivial))
  refine .cons (fun l a W hfr hun hup hdn hinv hdep K hK=>?_) ?_
  · have t13:=tAt (.int .u64 (A:Int)) (hdep 13 (by kernel_rfl));refine fW0 rfl ?_;clear hfr hdep hdn;go_simp;exact hK _ _ True.intro (hinv.other 7 (by decide)) (dsT (by trivial))
  refine .cons (fun l a W hfr hun hup hdn hinv hdep K hK=>?_) ?_
  · have t14:=tAt (.int .i64 E) (hdep 14 (by kernel_rfl));refine fW0 rfl ?_;clear hfr hdep hdn;go_simp;exact hK _ _ True.intro (hinv.other 8 (by decide)) (dsT (by trivial))
  exact True.intro
 case fin=>
  intro a W l hfr hall hinv hsl
  have s4:a.tmps.getD 4 undef=.int .u64 (A:Int):=hsl 7 _ 4 rfl rfl (by simp);have t4:=tmpAt s4;have s5:a.tmps.getD 5 undef=.int .i64 E:=hsl 8 _ 5 rfl rfl (by simp);have t5:=tmpAt s5;have hfin:=hinv.post (hall 4 (by decide));have e:=Flow.frame hfr [8,9,10,11,12,13,14,4,5] (List.range 15) (by kernel_rfl) (by kernel_rfl)
  simp [List.range,List.range.loop] at e
  rw [t4,t5] at e
  rw [e];have HFin:=Lib.hid hfin;clear e hfr hsl hall hinv hfin s4 t4 s5 t5
  first
   | (rename_i hB;refine hB _ _ ?_)
   | (rename_i hB y0;refine hB _ _ ?_)
   | (rename_i hB y0 y1;refine hB _ _ ?_)
   | (rename_i hB y0 y1 y2;refine hB _ _ ?_)
   | (rename_i hB y0 y1 y2 y3;refine hB _ _ ?_)
   | (rename_i hB y0 y1 y2 y3 y4;refine hB _ _ ?_)
   | (rename_i hB y0 y1 y2 y3 y4 y5;refine hB _ _ ?_)
   | (rename_i hB y0 y1 y2 y3 y4 y5 y6;refine hB _ _ ?_)
   | (rename_i hB y0 y1 y2 y3 y4 y5 y6 y7;refine hB _ _ ?_)
   | (rename_i hB y0 y1 y2 y3 y4 y5 y6 y7 y8;refine hB _ _ ?_)
   | skip
  go_wp2_with fail;exact bodyPost_ret_by (P:=Tryz.prog) (v:=.tuple #[.int .u64 (A:Int),.int .i64 E]) (by simp [results,Tryz.results19]) rfl ⟨rfl,HFin.out⟩
def UseRet (A:Nat) (E:Int) (Fin Fin2:World→Prop) (e:Ending) (w':World):Prop:=(E≠0∧e=.returned (.tuple #[.int .u64 0,.int .i64 E])∧Fin w')∨(E=0∧e=.returned (.tuple #[.int .u64 (A:Int),.int .i64 0])∧Fin2 w')
set_option maxRecDepth 100000 in
set_option maxHeartbeats 1000000 in
theorem use_core (b d:Nat) (k:Int) (t p x:Nat) (g o:Int) (pb:Option Addr) (nb cb:Nat) (pa:Option Addr) (na ca:Nat) (A A2:Nat) (E F:Int) (Fin Fin2:World→Prop) (cs:Array Value) (w:World) (hm:Hid (∀ W,Gr w W→Calls Tryz.prog 55 #[.pointer (some ⟨b,0,none⟩)] W fun e w'=>e=.returned (.bool false)∧W=w'))
  (HLb:Hid (∃ x0 x1 x2 x3 x4 x5 x6 x7 x9,Blk w b TLg #[x0,x1,x2,x3,x4,x5,x6,x7,.int .i64 F,x9]))
  (HLY:Hid (∀ W,Gr w W→Calls Tryz.prog 56 #[.pointer (some ⟨b,0,none⟩),.agg #[.int .i64 k,.int .u64 t,.int .u64 p,.int .u64 x,.int .i64 g,.int .i64 o,.slice pb nb cb,.slice pa na ca],.int .i64 F] W fun e w'=>e=.returned (.tuple #[.int .u64 (A:Int),.int .i64 E])∧Fin w'))
  (HEn:Hid (E=0→∀ W,Fin W→Calls Tryz.prog 22 #[.pointer (some ⟨b,0,none⟩)] W (RetU A2 W))) (hA:A≤A2) (hA2:A2≤A+1000000)
  (HRe:Hid (E=0→∀ W W',Fin W→Gr W W'→Calls Tryz.prog 35 #[.pointer (some ⟨b,0,none⟩),.int .i64 ((A2 - A:Nat):Int)] W' fun e w'=>e=.returned (.tuple #[])∧Fin2 w')) :
  Calls Tryz.prog 28 #[.pointer (some ⟨b,0,none⟩),.agg #[.int .i64 k,.int .u64 t,.int .u64 p,.int .u64 x,.int .i64 g,.int .i64 o,.slice pb nb cb,.slice pa na ca]] w (UseRet A E Fin Fin2):=by
 obtain ⟨x0,x1,x2,x3,x4,x5,x6,x7,x9,hLb⟩:=HLb.out;obtain ⟨W1,hW1⟩:∃ W1,W1=w.alloc (.cells #[.int .i64 k,.int .u64 t,.int .u64 p,.int .u64 x,.int .i64 g,.int .i64 o,.slice pb nb cb,.slice pa na ca] TR):=⟨_,rfl⟩;have HB1:Hid (Blk W1 w.heap.size TR #[.int .i64 k,.int .u64 t,.int .u64 p,.int .u64 x,.int .i64 g,.int .i64 o,.slice pb nb cb,.slice pa na ca]∧Gr w W1):=Lib.hid (by rw [hW1];exact ⟨Blk.new _ _ _,Gr.new _ _⟩);have hW1':w.alloc (.cells #[.int .i64 k,.int .u64 t,.int .u64 p,.int .u64 x,.int .i64 g,.int .i64 o,.slice pb nb cb,.slice pa na ca] 33)=W1:=hW1.symm;have HW1:=Lib.hid hW1';have HLY':=Lib.hid (fun W (gr:Gr W1 W)=>HLY.out W (Gr.trans HB1.out.2 gr));have HLb':=Lib.hid (hLb.gr HB1.out.2);have HM:=Lib.hid (hm.out W1 HB1.out.2);clear hW1 hW1' HLY hm HLb hLb;have HLY:=HLY';have HLb:=HLb';clear HLY' HLb'
 go_enter Tryz.func28,Tryz.ntmps28
 go_wp2_with fail;rw [HW1.out];refine HM.out.mono ?_;rintro e W2 ⟨rfl,rfl⟩;go_wp2_with fail;refine Flow.regionS [6,7] 20 (SlUs b k t p x g o pb nb cb pa na ca A E F) (InC 6 W1 (Fin)) (fun _ _ _=>True) (by kernel_rfl) (by kernel_rfl) (fun _ _ _ _ _ _ h _=>h) (InC.start (by rfl) (Gr.refl _).drew) ?steps ?fin
 case steps=>
  refine .cons (fun l a W hfr hun hup hdn hinv hdep K hK=>?_) ?_
  · have t0:=tAt (.pointer (some ⟨b,0,none⟩)) (hfr.at 0 (by kernel_rfl));refine fW0 rfl ?_;clear hfr hdep hdn;go_simp;exact hK _ _ True.intro (hinv.other 0 (by decide)) (dsT (by trivial))
  refine .cons (fun l a W hfr hun hup hdn hinv hdep K hK=>?_) ?_
  · have t3:=tAt (.pointer (some ⟨w.heap.size,0,none⟩)) (hfr.at 3 (by kernel_rfl));refine fW0 rfl ?_;clear hfr hdep hdn;have hlz:l 6=false:=hup 6 (by decide) (by kernel_rfl);have hin:=hinv.pre hlz;obtain ⟨c0,c1,c2,c3,c4,c5,c6,c7⟩:=(HB1.out.1.gr hin).c8;have k8:=(HLb.out.gr hin).c10.2.2.2.2.2.2.2.2.1;go_simp;exact hK _ _ True.intro (hinv.other 1 (by decide)) (dsT (by trivial))
  refine .cons (fun l a W hfr hun hup hdn hinv hdep K hK=>?_) ?_
  · have t0:=tAt (.pointer (some ⟨b,0,none⟩)) (hfr.at 0 (by kernel_rfl));refine fW0 rfl ?_;clear hfr hdep hdn;go_simp;exact hK _ _ True.intro (hinv.other 2 (by decide)) (dsT (by trivial))
  refine .cons (fun l a W hfr hun hup hdn hinv hdep K hK=>?_) ?_
  · have t13:=tAt (.pointer (some ⟨b,0,none⟩)) (hdep 13 (by kernel_rfl));refine fW0 rfl ?_;clear hfr hdep hdn;go_simp;exact hK _ _ True.intro (hinv.other 3 (by decide)) (dsT (by trivial))
  refine .cons (fun l a W hfr hun hup hdn hinv hdep K hK=>?_) ?_
  · have t14:=tAt (.pointer (some ⟨b,0,none⟩)) (hdep 14 (by kernel_rfl));refine fW0 rfl ?_;clear hfr hdep hdn;go_simp;exact hK _ _ True.intro (hinv.other 4 (by decide)) (dsT (by trivial))
  refine .cons (fun l a W hfr hun hup hdn hinv hdep K hK=>?_) ?_
  · have t15:=tAt (.pointer (some ⟨b,8,none⟩)) (hdep 15 (by kernel_rfl));refine fW0 rfl ?_;clear hfr hdep hdn;have hlz:l 6=false:=hup 6 (by decide) (by kernel_rfl);have hin:=hinv.pre hlz;obtain ⟨c0,c1,c2,c3,c4,c5,c6,c7⟩:=(HB1.out.1.gr hin).c8;have k8:=(HLb.out.gr hin).c10.2.2.2.2.2.2.2.2.1;go_simp;exact hK _ _ True.intro (hinv.other 5 (by decide)) (dsT (by trivial))
  refine .cons (fun l a W hfr hun hup hdn hinv hdep K hK=>?_) ?_
  · have t11:=tAt (.pointer (some ⟨b,0,none⟩)) (hdep 11 (by kernel_rfl));have t12:=tAt (.agg #[.int .i64 k,.int .u64 t,.int .u64 p,.int .u64 x,.int .i64 g,.int .i64 o,.slice pb nb cb,.slice pa na ca]) (hdep 12 (by kernel_rfl));have t16:=tAt (.int .i64 F) (hdep 16 (by kernel_rfl));refine fW0 rfl ?_;clear hfr hdep hdn;have hin:=hinv.pre hun;go_simp;refine (HLY.out W hin).mono ?_;rintro e W' ⟨rfl,h1⟩;exact hK _ _ True.intro (InC.fin h1) (dsT (by trivial))
  refine .cons (fun l a W hfr hun hup hdn hinv hdep K hK=>?_) ?_
  · have t17:=tAt (.tuple #[.int .u64 (A:Int),.int .i64 E]) (hdep 17 (by kernel_rfl));refine fW0 rfl ?_;clear hfr hdep hdn;go_simp;exact hK _ _ True.intro (hinv.other 7 (by decide)) (dsT (by trivial))
  refine .cons (fun l a W hfr hun hup hdn hinv hdep K hK=>?_) ?_
  · have t10:=tAt (.tuple #[.int .u64 (A:Int),.int .i64 E]) (hdep 10 (by kernel_rfl));refine fW0 rfl ?_;clear hfr hdep hdn;go_simp;exact hK _ _ True.intro (hinv.other 8 (by decide)) (dsT (by trivial))
  refine .cons (fun l a W hfr hun hup hdn hinv hdep K hK=>?_) ?_
  · have t10:=tAt (.tuple #[.int .u64 (A:Int),.int .i64 E]) (hdep 10 (by kernel_rfl));refine fW0 rfl ?_;clear hfr hdep hdn;go_simp;exact hK _ _ True.intro (hinv.other 9 (by decide)) (dsT (by trivial))
  refine .cons (fun l a W hfr hun hup hdn hinv hdep K hK=>?_) ?_
  · have t18:=tAt (.int .u64 (A:Int)) (hdep 18 (by kernel_rfl));refine fW0 rfl ?_;clear hfr hdep hdn;go_simp;exact hK _ _ True.intro (hinv.other 10 (by decide)) (dsT (by trivial))
  refine .cons (fun l a W hfr hun hup hdn hinv hdep K hK=>?_) ?_
  · have t19:=tAt (.int .i64 E) (hdep 19 (by kernel_rfl));refine fW0 rfl ?_;clear hfr hdep hdn;go_simp;exact hK _ _ True.intro (hinv.other 11 (by decide)) (dsT (by trivial))
  exact True.intro
 case fin=>
  intro a W l hfr hall hinv hsl
  have s6:a.tmps.getD 6 undef=.int .u64 (A:Int):=hsl 10 _ 6 rfl rfl (by simp);have t6:=tmpAt s6;have s7:a.tmps.getD 7 undef=.int .i64 E:=hsl 11 _ 7 rfl rfl (by simp);have t7:=tmpAt s7;have hfin:=hinv.post (hall 6 (by decide));have e:=Flow.frame hfr [11,12,13,14,15,16,17,10,18,19,6,7] (List.range 31) (by kernel_rfl) (by kernel_rfl)
  simp [List.range,List.range.loop] at e
  rw [t6,t7] at e
  rw [e];have HFin:=Lib.hid hfin;clear e hfr hsl hall hinv hfin s6 t6 s7 t7
  first
   | (rename_i hB;refine hB _ _ ?_)
   | (rename_i hB y0;refine hB _ _ ?_)
   | (rename_i hB y0 y1;refine hB _ _ ?_)
   | (rename_i hB y0 y1 y2;refine hB _ _ ?_)
   | (rename_i hB y0 y1 y2 y3;refine hB _ _ ?_)
   | (rename_i hB y0 y1 y2 y3 y4;refine hB _ _ ?_)
   | (rename_i hB y0 y1 y2 y3 y4 y5;refine hB _ _ ?_)
   | (rename_i hB y0 y1 y2 y3 y4 y5 y6;refine hB _ _ ?_)
   | (rename_i hB y0 y1 y2 y3 y4 y5 y6 y7;refine hB _ _ ?_)
   | (rename_i hB y0 y1 y2 y3 y4 y5 y6 y7 y8;refine hB _ _ ?_)
   | skip
  by_cases hE:E=0
  ·
   subst hE;have HE2:=Lib.hid (HEn.out rfl W HFin.out);have HR2:=Lib.hid (fun W'=>HRe.out rfl W W' HFin.out);obtain ⟨D,hD⟩:∃ D,D=A2 - A:=⟨_,rfl⟩
   rw [← hD] at HR2
   have hw1:IntKind.u64.wrap ((A2:Int) - (A:Int))=(D:Int):=by rw [IntKind.wrap_u64];omega
   have hw2:IntKind.i64.wrap (D:Int)=(D:Int):=IntWalk.i64_in _ (by omega);clear HEn HRe hA hA2 hD HLY HLb HM;go_wp2_with fail;refine HE2.out.mono ?_;rintro e W3 ⟨rfl,g3⟩;have HR3:=Lib.hid (HR2.out W3 g3);clear g3 HE2 HR2;go_wp2_with fail;refine HR3.out.mono ?_;rintro e W4 ⟨rfl,h4⟩;have H4:=Lib.hid h4;clear h4 HR3;go_wp2_with fail;exact bodyPost_ret_by (P:=Tryz.prog) (v:=.tuple #[.int .u64 (A:Int),.int .i64 0]) (by simp [results,Tryz.results28]) rfl (.inr ⟨rfl,rfl,H4.out⟩)
  ·
   have hE1:(E != 0)=true:=by simpa using hE
   have HE:=Lib.hid hE;clear HEn HRe hA hA2 HLY HLb HM hE;go_wp2_with fail;exact bodyPost_ret_by (P:=Tryz.prog) (v:=.tuple #[.int .u64 0,.int .i64 E]) (by simp [results,Tryz.results28]) rfl (.inl ⟨HE.out,rfl,HFin.out⟩)
end Go.Proofs.YtlijbgapkmfnaaaGreat
namespace Go.Proofs.YtlijbgapkmfnaaaGreat
open Go.RowKit Go.Maps
def BaS (s:St):St:=if s.dead then s else s.barrier
def BaE (s:St):Int:=if s.dead then 8 else 0
theorem Barrier_all {F:Nat→Prop} {p:Value} {s:St} (w:World) (h:Dk w F p s) (hw:s.writes≤1000000000):Calls Tryz.prog 79 #[p] w fun e w'=>Chg F p (BaS s) (.int .i64 (BaE s)) w e w':=by
 unfold BaS BaE
 by_cases hd:s.dead=true
 · rw [if_pos hd,if_pos hd];refine (Barrier_dead w h hd).mono ?_;rintro e w' ⟨rfl,rfl⟩;exact ⟨F,rfl,h,Upd.same _⟩
 · rw [if_neg hd,if_neg hd];exact Barrier_yes w h hw (by simpa using hd)
end Go.Proofs.YtlijbgapkmfnaaaGreat
namespace Go.Proofs.YtlijbgapkmfnaaaGreat
open Go.RowKit Go.Maps
def putD (s:St) (i:Nat) (x:Sec):St:=if s.refuses then { s with dead:=true } else s.wrote i x
def putDE (s:St):Int:=if s.refuses then 8 else 0
theorem WriteX_any {F:Nat→Prop} {p:Value} {s:St} (w:World) (h:Dk w F p s) (i:Nat) (hi:i < s.ls.length) (x:Sec) (hw:s.writes≤1000000000):Calls Tryz.prog 13 #[p,.int .i64 (i:Int),.agg (sec x)] w fun e w'=>Chg F p (putD s i x) (.int .i64 (putDE s)) w e w':=by
 unfold putD putDE
 by_cases hr:s.refuses
 · rw [if_pos hr,if_pos hr];refine (Write_dead w h i hi x hr).mono ?_;rintro e w' ⟨rfl,hd,hu⟩;exact ⟨F,rfl,hd,hu⟩
 · rw [if_neg hr,if_neg hr];exact Write_yes w h i hi x hr hw
def SlWr (b:Nat) (p:Value) (k:Nat) (ep:Nat) (q1:Option Addr) (m1:Nat) (c1:Nat) (I:Nat) (S:Sec) (E:Int) (slot:Nat) (v:Value) (_:World):Prop:=
 match slot with
 | 6=>v=.int .i64 E
 | 7=>v=.pointer (some ⟨b,0,none⟩)
 | 8=>v=.pointer (some ⟨b,0,none⟩)
 | 9=>v=.pointer (some ⟨b,0,none⟩)
 | 10=>v=p
 | 11=>v=.pointer (some ⟨b,0,none⟩)
 | 12=>v=.int .u64 (k:Int)
 | 13=>v=.int .i64 (I:Int)
 | 14=>v=.int .u64 (k:Int)
 | 15=>v=.pointer (some ⟨b,0,none⟩)
 | 16=>v=.pointer (some ⟨b,0,none⟩)
 | 17=>v=.pointer (some ⟨b,4,none⟩)
 | 18=>v=.int .u64 (ep:Int)
 | 19=>v=.slice q1 m1 c1
 | 20=>v=.agg #[.int .u64 (k:Int),.int .u64 (ep:Int),.slice q1 m1 c1]
 | 21=>v=.agg (sec S)
 | 22=>v=.int .i64 E
 | _=>True
set_option maxRecDepth 100000 in
set_option maxHeartbeats 1000000 in
theorem wwrite_core (D b:Nat) (p:Value) (n:Int) (l:Int) (g:Int) (ep:Nat) (tl:Nat) (la:Nat) (q:Option Addr) (m:Nat) (c:Nat) (rs:Int) (bg:Bool) (k:Nat) (q1:Option Addr) (m1 c1:Nat) (ys:List Int) (I:Nat) (S:Sec) (E:Int) (Fin:World→Prop) (w:World) (h:Blk w b TLg #[p,.int .i64 n,.int .i64 l,.int .i64 g,.int .u64 ep,.int .u64 tl,.int .u64 la,.slice q m c,.int .i64 rs,.bool bg]) (hp:p=.pointer (some ⟨D,0,none⟩)) (hm:mayL n l g=true) (hk:k≤18446744073709551615) (he:ep≤18446744073709551615)
  (hy:Byt w q1 m1 c1 ys) (h1:m1≤232) (hI:I=3+k % l.toNat) (hS:S=Sx (secL k ep ys))
  (HWr:Hid (∀ W,Gr w W→Calls Tryz.prog 13 #[p,.int .i64 (I:Int),.agg (sec S)] W fun e w'=>e=.returned (.int .i64 E)∧Fin w')) :
  Calls Tryz.prog 77 #[.pointer (some ⟨b,0,none⟩),.int .u64 (k:Int),.slice q1 m1 c1] w fun e w'=>e=.returned (.int .i64 E)∧Fin w':=by
 have HB:=Lib.hid h
 have HP:Hid (∀ W,Gr w W→Calls Tryz.prog 95 #[.pointer (some ⟨b,0,none⟩),.int .u64 (k:Int)] W fun e w'=>e=.returned (.int .i64 (I:Int))∧Gr W w'):=Lib.hid fun W gr=>by
  rw [hI];exact wplace_any b p n l g ep tl la q m c rs bg k W (h.gr gr) hm hk
 have HS:Hid (∀ W,Gr w W→Calls Tryz.prog 96 #[.agg #[.int .u64 (k:Int),.int .u64 (ep:Int),.slice q1 m1 c1]] W fun e w'=>e=.returned (.agg (sec S))∧Gr W w'):=Lib.hid fun W gr=>by
  rw [hS];exact psector_any k ep q1 m1 c1 ys W hk he (hy.kept gr) h1
 clear h hy hm hI hS hp
 go_enter Tryz.func77,Tryz.ntmps77
 go_wp2_with fail;refine Flow.regionS [6] 20 (SlWr b p k ep q1 m1 c1 I S E) (InC 15 w (Fin)) (fun _ _ _=>True) (by kernel_rfl) (by kernel_rfl) (fun _ _ _ _ _ _ h _=>h) (InC.start (by rfl) (Gr.refl _).drew) ?steps ?fin
 case steps=>
  refine .cons (fun l a W hfr hun hup hdn hinv hdep K hK=>?_) ?_
  · have t0:=tAt (.pointer (some ⟨b,0,none⟩)) (hfr.at 0 (by kernel_rfl));refine fW0 rfl ?_;clear hfr hdep hdn;go_simp;exact hK _ _ True.intro (hinv.other 0 (by decide)) (dsT (by trivial))
  refine .cons (fun l a W hfr hun hup hdn hinv hdep K hK=>?_) ?_
  · have t7:=tAt (.pointer (some ⟨b,0,none⟩)) (hdep 7 (by kernel_rfl));refine fW0 rfl ?_;clear hfr hdep hdn;go_simp;exact hK _ _ True.intro (hinv.other 1 (by decide)) (dsT (by trivial))
  refine .cons (fun l a W hfr hun hup hdn hinv hdep K hK=>?_) ?_
  · have t8:=tAt (.pointer (some ⟨b,0,none⟩)) (hdep 8 (by kernel_rfl));refine fW0 rfl ?_;clear hfr hdep hdn;go_simp;exact hK _ _ True.intro (hinv.other 2 (by decide)) (dsT (by trivial))
  refine .cons (fun l a W hfr hun hup hdn hinv hdep K hK=>?_) ?_
  · have t9:=tAt (.pointer (some ⟨b,0,none⟩)) (hdep 9 (by kernel_rfl));refine fW0 rfl ?_;clear hfr hdep hdn;have hlz:l 15=false:=hup 15 (by decide) (by kernel_rfl);have hin:=hinv.pre hlz;obtain ⟨c0,c1,c2,c3,c4,c5,c6,c7,c8,c9⟩:=(HB.out.gr hin).c10;go_simp;exact hK _ _ True.intro (hinv.other 3 (by decide)) (dsT (by trivial))
  refine .cons (fun l a W hfr hun hup hdn hinv hdep K hK=>?_) ?_
  · have t0:=tAt (.pointer (some ⟨b,0,none⟩)) (hfr.at 0 (by kernel_rfl));refine fW0 rfl ?_;clear hfr hdep hdn;go_simp;exact hK _ _ True.intro (hinv.other 4 (by decide)) (dsT (by trivial))
  refine .cons (fun l a W hfr hun hup hdn hinv hdep K hK=>?_) ?_
  · have t1:=tAt (.int .u64 (k:Int)) (hfr.at 1 (by kernel_rfl));refine fW0 rfl ?_;clear hfr hdep hdn;go_simp;exact hK _ _ True.intro (hinv.other 5 (by decide)) (dsT (by trivial))
  refine .cons (fun l a W hfr hun hup hdn hinv hdep K hK=>?_) ?_
  · have t11:=tAt (.pointer (some ⟨b,0,none⟩)) (hdep 11 (by kernel_rfl));have t12:=tAt (.int .u64 (k:Int)) (hdep 12 (by kernel_rfl));refine fW0 rfl ?_;clear hfr hdep hdn;have hlz:l 15=false:=hup 15 (by decide) (by kernel_rfl);have hin:=hinv.pre hlz;go_simp;refine (HP.out W hin).mono ?_;rintro e W' ⟨rfl,g1⟩;exact hK _ _ True.intro (hinv.grow hlz g1 6 (by decide)) (dsT (by trivial))
  refine .cons (fun l a W hfr hun hup hdn hinv hdep K hK=>?_) ?_
  · have t1:=tAt (.int .u64 (k:Int)) (hfr.at 1 (by kernel_rfl));refine fW0 rfl ?_;clear hfr hdep hdn;go_simp;exact hK _ _ True.intro (hinv.other 7 (by decide)) (dsT (by trivial))
  refine .cons (fun l a W hfr hun hup hdn hinv hdep K hK=>?_) ?_
  · have t0:=tAt (.pointer (some ⟨b,0,none⟩)) (hfr.at 0 (by kernel_rfl));refine fW0 rfl ?_;clear hfr hdep hdn;go_simp;exact hK _ _ True.intro (hinv.other 8 (by decide)) (dsT (by trivial))
  refine .cons (fun l a W hfr hun hup hdn hinv hdep K hK=>?_) ?_
  · have t15:=tAt (.pointer (some ⟨b,0,none⟩)) (hdep 15 (by kernel_rfl));refine fW0 rfl ?_;clear hfr hdep hdn;go_simp;exact hK _ _ True.intro (hinv.other 9 (by decide)) (dsT (by trivial))
  refine .cons (fun l a W hfr hun hup hdn hinv hdep K hK=>?_) ?_
  · have t16:=tAt (.pointer (some ⟨b,0,none⟩)) (hdep 16 (by kernel_rfl));refine fW0 rfl ?_;clear hfr hdep hdn;go_simp;exact hK _ _ True.intro (hinv.other 10 (by decide)) (dsT (by trivial))
  refine .cons (fun l a W hfr hun hup hdn hinv hdep K hK=>?_) ?_
  · have t17:=tAt (.pointer (some ⟨b,4,none⟩)) (hdep 17 (by kernel_rfl));refine fW0 rfl ?_;clear hfr hdep hdn;have hlz:l 15=false:=hup 15 (by decide) (by kernel_rfl);have hin:=hinv.pre hlz;obtain ⟨c0,c1,c2,c3,c4,c5,c6,c7,c8,c9⟩:=(HB.out.gr hin).c10;go_simp;exact hK _ _ True.intro (hinv.other 11 (by decide)) (dsT (by trivial))
  refine .cons (fun l a W hfr hun hup hdn hinv hdep K hK=>?_) ?_
  · have t2:=tAt (.slice q1 m1 c1) (hfr.at 2 (by kernel_rfl));refine fW0 rfl ?_;clear hfr hdep hdn;go_simp;exact hK _ _ True.intro (hinv.other 12 (by decide)) (dsT (by trivial))
  refine .cons (fun l a W hfr hun hup hdn hinv hdep K hK=>?_) ?_
  · have t14:=tAt (.int .u64 (k:Int)) (hdep 14 (by kernel_rfl));have t18:=tAt (.int .u64 (ep:Int)) (hdep 18 (by kernel_rfl));have t19:=tAt (.slice q1 m1 c1) (hdep 19 (by kernel_rfl));refine fW0 rfl ?_;clear hfr hdep hdn;go_simp;exact hK _ _ True.intro (hinv.other 13 (by decide)) (dsT (by trivial))
  refine .cons (fun l a W hfr hun hup hdn hinv hdep K hK=>?_) ?_
  · have t20:=tAt (.agg #[.int .u64 (k:Int),.int .u64 (ep:Int),.slice q1 m1 c1]) (hdep 20 (by kernel_rfl));refine fW0 rfl ?_;clear hfr hdep hdn;have hlz:l 15=false:=hup 15 (by decide) (by kernel_rfl);have hin:=hinv.pre hlz;go_simp;refine (HS.out W hin).mono ?_;rintro e W' ⟨rfl,g1⟩;exact hK _ _ True.intro (hinv.grow hlz g1 14 (by decide)) (dsT (by trivial))
  refine .cons (fun l a W hfr hun hup hdn hinv hdep K hK=>?_) ?_
  · have t10:=tAt (p) (hdep 10 (by kernel_rfl));have t13:=tAt (.int .i64 (I:Int)) (hdep 13 (by kernel_rfl));have t21:=tAt (.agg (sec S)) (hdep 21 (by kernel_rfl));refine fW0 rfl ?_;clear hfr hdep hdn;have hin:=hinv.pre hun;go_simp;refine (HWr.out W hin).mono ?_;rintro e W' ⟨rfl,h1⟩;exact hK _ _ True.intro (InC.fin h1) (dsT (by trivial))
  refine .cons (fun l a W hfr hun hup hdn hinv hdep K hK=>?_) ?_
  · have t22:=tAt (.int .i64 E) (hdep 22 (by kernel_rfl));refine fW0 rfl ?_;clear hfr hdep hdn;go_simp;exact hK _ _ True.intro (hinv.other 16 (by decide)) (dsT (by trivial))
  exact True.intro
 case fin=>
  intro a W l hfr hall hinv hsl
  have s6:a.tmps.getD 6 undef=.int .i64 E:=hsl 16 _ 6 rfl rfl (by simp);have t6:=tmpAt s6;have hfin:=hinv.post (hall 15 (by decide));have e:=Flow.frame hfr [7,8,9,10,11,12,13,14,15,16,17,18,19,20,21,22,6] (List.range 23) (by kernel_rfl) (by kernel_rfl)
  simp [List.range,List.range.loop] at e
  rw [t6] at e
  rw [e];have HFin:=Lib.hid hfin;clear e hfr hsl hall hinv hfin s6 t6
  first
   | (rename_i hB;refine hB _ _ ?_)
   | (rename_i hB y0;refine hB _ _ ?_)
   | (rename_i hB y0 y1;refine hB _ _ ?_)
   | (rename_i hB y0 y1 y2;refine hB _ _ ?_)
   | (rename_i hB y0 y1 y2 y3;refine hB _ _ ?_)
   | (rename_i hB y0 y1 y2 y3 y4;refine hB _ _ ?_)
   | (rename_i hB y0 y1 y2 y3 y4 y5;refine hB _ _ ?_)
   | (rename_i hB y0 y1 y2 y3 y4 y5 y6;refine hB _ _ ?_)
   | (rename_i hB y0 y1 y2 y3 y4 y5 y6 y7;refine hB _ _ ?_)
   | (rename_i hB y0 y1 y2 y3 y4 y5 y6 y7 y8;refine hB _ _ ?_)
   | skip
  go_wp2_with fail
  go_ret
  exact ⟨rfl,HFin.out⟩
def DkFin (F:Nat→Prop) (p:Value) (s:St) (w:World) (W:World):Prop:=∃ F',Dk W F' p s∧Upd F F' w W
theorem place_lt {n l g:Int} (hm:mayL n l g=true) (k N:Nat) (hn:3+l≤N):3+k % l.toNat < N:=by
 have hin:=may_in hm;have:k % l.toNat < l.toNat:=Nat.mod_lt _ (by omega)
 omega
theorem wwrite_any {F:Nat→Prop} {s:St} (D b:Nat) (p:Value) (n:Int) (l:Int) (g:Int) (ep:Nat) (tl:Nat) (la:Nat) (q:Option Addr) (m:Nat) (c:Nat) (rs:Int) (bg:Bool) (k:Nat) (q1:Option Addr) (m1 c1:Nat) (ys:List Int) (w:World) (h:Blk w b TLg #[p,.int .i64 n,.int .i64 l,.int .i64 g,.int .u64 ep,.int .u64 tl,.int .u64 la,.slice q m c,.int .i64 rs,.bool bg]) (hp:p=.pointer (some ⟨D,0,none⟩)) (hd:Dk w F p s) (hm:mayL n l g=true) (hk:k≤18446744073709551615) (he:ep≤18446744073709551615)
  (hy:Byt w q1 m1 c1 ys) (h1:m1≤232) (hn:3+l≤s.ls.length) (hw:s.writes≤1000000000) :
  Calls Tryz.prog 77 #[.pointer (some ⟨b,0,none⟩),.int .u64 (k:Int),.slice q1 m1 c1] w fun e w'=>e=.returned (.int .i64 (putDE s))∧DkFin F p (putD s (3+k % l.toNat) (Sx (secL k ep ys))) w w':=
 wwrite_core D b p n l g ep tl la q m c rs bg k q1 m1 c1 ys _ _ _ _ w h hp hm hk he hy h1 rfl rfl (Lib.hid fun W gr=>by
  refine (WriteX_any W (hd.gr gr) _ (place_lt hm k _ hn) _ hw).mono ?_;rintro e w' ⟨F',rfl,hd',hu⟩
  exact ⟨rfl,F',hd',hu.pre gr⟩)
def Tight (w:World) (F:Nat→Prop) (mm:Nat):Prop:=∀ k,F k→k=mm∨∃ cs t fr,w.heap[k]?=some (.cells cs t fr)
def DkM (w:World) (F:Nat→Prop) (p:Value) (mm:Nat) (s:St):Prop:=(∃ b lv L,p=.pointer (some ⟨b,0,none⟩)∧DkAt w F b lv mm L s)∧Tight w F mm
theorem DkM.dk {w:World} {F:Nat→Prop} {p:Value} {mm:Nat} {s:St} (h:DkM w F p mm s):Dk w F p s:=by
 obtain ⟨⟨b,lv,L,e,h⟩,_⟩:=h;exact ⟨b,lv,mm,L,e,h⟩
theorem DkM.gr {w w':World} {F:Nat→Prop} {p:Value} {mm:Nat} {s:St} (h:DkM w F p mm s) (g:Gr w w'):DkM w' F p mm s:=by
 obtain ⟨⟨b,lv,L,e,h⟩,ht⟩:=h;exact ⟨⟨b,lv,L,e,h.gr g⟩,fun k hk=>(ht k hk).imp id fun ⟨cs,t,fr,hc⟩=>⟨cs,t,fr,(g.block k (h.low k hk)).trans hc⟩⟩
theorem DkM.stays {w w':World} {F:Nat→Prop} {p:Value} {mm:Nat} {s:St} (h:DkM w F p mm s) (e:∀ k,F k→w'.heap[k]?=w.heap[k]?) (hs:w.heap.size≤w'.heap.size):DkM w' F p mm s:=by
 obtain ⟨⟨b,lv,L,e1,h⟩,ht⟩:=h;exact ⟨⟨b,lv,L,e1,h.stays e hs⟩,fun k hk=>(ht k hk).imp id fun ⟨cs,t,fr,hc⟩=>⟨cs,t,fr,(e k hk).trans hc⟩⟩
theorem DkAt.tight {w:World} {F:Nat→Prop} {b:Nat} {lv:Value} {mm:Nat} {L:Nat→Value} {s:St} (h:DkAt w F b lv mm L s):∃ F1,(∀ k,F1 k→F k)∧DkM w F1 (.pointer (some ⟨b,0,none⟩)) mm s:=by
 refine ⟨fun k=>k=b∨k=mm∨lv.ownBlock=some k∨∃ i,(L i).ownBlock=some k,?_,⟨b,lv,L,rfl,⟨h.ok,h.blk,h.ls,h.map,h.rows,h.apart,h.apart0,.inl rfl,.inr (.inl rfl),fun g hg=>.inr (.inr (.inl hg)),fun i g hg=>.inr (.inr (.inr ⟨i,hg⟩)),?_⟩⟩,?_⟩
 ·
  rintro k (rfl | rfl | hk | ⟨i,hk⟩)
  · exact h.ownB
  · exact h.ownM
  · exact h.ownL k hk
  · exact h.ownR i k hk
 ·
  rintro k (rfl | rfl | hk | ⟨i,hk⟩)
  · exact h.blk.lt
  · exact h.map.lt
  · exact h.ls.lt k hk
  · exact (h.rows i).lt k hk
 ·
  rintro k (rfl | rfl | hk | ⟨i,hk⟩)
  · exact .inr ⟨_,_,_,h.blk⟩
  · exact .inl rfl
  · obtain ⟨cs,hc⟩:=h.ls.kind hk;exact .inr ⟨_,_,_,hc⟩
  · obtain ⟨cs,hc⟩:=(h.rows i).kind hk;exact .inr ⟨_,_,_,hc⟩
theorem Dk.tight {w:World} {F:Nat→Prop} {p:Value} {s:St} (h:Dk w F p s):∃ F1 mm,(∀ k,F1 k→F k)∧DkM w F1 p mm s:=by
 obtain ⟨b,lv,mm,L,rfl,h⟩:=h;obtain ⟨F1,h1,h2⟩:=h.tight;exact ⟨F1,mm,h1,h2⟩
theorem Upd.less {F F' F1:Nat→Prop} {w w':World} (h:Upd F F' w w') (hs:∀ k,F1 k→F' k):Upd F F1 w w':=⟨h.os,h.tape,h.output,h.size,h.block,fun k hk=>h.fresh k (hs k hk)⟩
theorem WriteM_any {F:Nat→Prop} {p:Value} {mm:Nat} {s:St} (w:World) (h:DkM w F p mm s) (i:Nat) (hi:i < s.ls.length) (x:Sec) (hw:s.writes≤1000000000):Calls Tryz.prog 13 #[p,.int .i64 (i:Int),.agg (sec x)] w fun e w'=>e=.returned (.int .i64 (putDE s))∧∃ F',DkM w' F' p mm (putD s i x)∧Upd F F' w w':=by
 obtain ⟨⟨b,lv,L,rfl,h⟩,ht⟩:=h
 unfold putD putDE
 by_cases hr:s.refuses
 · rw [if_pos hr,if_pos hr];refine (Write_deadM w h i hi x hr).mono ?_;rintro e w' ⟨rfl,hd,hu⟩;obtain ⟨F1,h1,h2⟩:=hd.tight;exact ⟨rfl,F1,h2,hu.less h1⟩
 · rw [if_neg hr,if_neg hr];refine (Write_yesM w h i hi x hr hw).mono ?_;rintro e w' ⟨F',L',rfl,hd,hu⟩;obtain ⟨F1,h1,h2⟩:=hd.tight;exact ⟨rfl,F1,h2,hu.less h1⟩
theorem wwrite_m {F:Nat→Prop} {s:St} (D b:Nat) (p:Value) (n:Int) (l:Int) (g:Int) (ep:Nat) (tl:Nat) (la:Nat) (q:Option Addr) (m:Nat) (c:Nat) (rs:Int) (bg:Bool) (mm:Nat) (k:Nat) (q1:Option Addr) (m1 c1:Nat) (ys:List Int) (w:World) (h:Blk w b TLg #[p,.int .i64 n,.int .i64 l,.int .i64 g,.int .u64 ep,.int .u64 tl,.int .u64 la,.slice q m c,.int .i64 rs,.bool bg]) (hp:p=.pointer (some ⟨D,0,none⟩)) (hd:DkM w F p mm s) (hm:mayL n l g=true) (hk:k≤18446744073709551615) (he:ep≤18446744073709551615)
  (hy:Byt w q1 m1 c1 ys) (h1:m1≤232) (hn:3+l≤s.ls.length) (hw:s.writes≤1000000000) :
  Calls Tryz.prog 77 #[.pointer (some ⟨b,0,none⟩),.int .u64 (k:Int),.slice q1 m1 c1] w fun e w'=>e=.returned (.int .i64 (putDE s))∧∃ F',DkM w' F' p mm (putD s (3+k % l.toNat) (Sx (secL k ep ys)))∧Upd F F' w w':=
 wwrite_core D b p n l g ep tl la q m c rs bg k q1 m1 c1 ys _ _ _ _ w h hp hm hk he hy h1 rfl rfl (Lib.hid fun W gr=>by
  refine (WriteM_any W (hd.gr gr) _ (place_lt hm k _ hn) _ hw).mono ?_;rintro e w' ⟨rfl,F',hd',hu⟩
  exact ⟨rfl,F',hd',hu.pre gr⟩)
end Go.Proofs.YtlijbgapkmfnaaaGreat
namespace Go.Proofs.YtlijbgapkmfnaaaGreat
open Go.RowKit Go.Maps
structure Wl (w:World) (F:Nat→Prop) (b:Nat) (p:Value) (q:Option Addr) (m c:Nat) (s:St) (L:Lg):Prop where
 dk:Dk w F p s
 lg:LgAt w b p q m c L
 apart:∀ k,F k→¬ lgS b q k
def wlS (F:Nat→Prop) (b:Nat) (q:Option Addr) (k:Nat):Prop:=F k∨lgS b q k
theorem Wl.gr {w w':World} {F:Nat→Prop} {b:Nat} {p:Value} {q:Option Addr} {m c:Nat} {s:St} {L:Lg} (h:Wl w F b p q m c s L) (g:Gr w w'):Wl w' F b p q m c s L:=⟨h.dk.gr g,h.lg.gr g,h.apart⟩
theorem LgAt.stays {w w':World} {b:Nat} {p:Value} {q:Option Addr} {m c:Nat} {L:Lg} (h:LgAt w b p q m c L) (e:∀ k,lgS b q k→w'.heap[k]?=w.heap[k]?) (hs:w.heap.size≤w'.heap.size):LgAt w' b p q m c L:=
 ⟨h.blk.stays (e b (.inl rfl)),h.txt.stays (fun y hy=>e _ (.inr ⟨y,hy,rfl⟩)),h.apart,fun k hk=>Nat.lt_of_lt_of_le (h.low k hk) hs,h.dsk⟩
theorem Wl.disk {w w':World} {F:Nat→Prop} {b:Nat} {p:Value} {q:Option Addr} {m c:Nat} {s s':St} {L:Lg} (h:Wl w F b p q m c s L) (hf:DkFin F p s' w w'):∃ F',Wl w' F' b p q m c s' L∧Upd (wlS F b q) (wlS F' b q) w w':=by
 obtain ⟨F',hd,hu⟩:=hf;obtain ⟨h1,h2⟩:=hu.other h.lg.low h.apart;exact ⟨F',⟨hd,h.lg.stays h1 hu.size,h2⟩,⟨hu.os,hu.tape,hu.output,hu.size,fun k hk hn=>hu.block k hk (fun e=>hn (.inl e)),fun k hk=>hk.elim (fun e=>(hu.fresh k e).imp .inl id) (fun e=>.inl (.inr e))⟩⟩
theorem Upd.comp {F F' F'':Nat→Prop} {w w1 w2:World} (h:Upd F F' w w1) (k:Upd F' F'' w1 w2):Upd F F'' w w2:=h.trans k
theorem Upd.cell {S:Nat→Prop} {b i:Nat} (hb:S b) (w:World) (u:Value):Upd S S w (w.setCell ⟨b,i,none⟩ u):=by
 have h:=Only.cell b i w u;exact ⟨h.os,h.tape,h.output,Nat.le_of_eq h.size.symm,fun k _ hn=>h.block k (fun e=>hn (e ▸ hb)),fun k hk=>.inl hk⟩
theorem Wl.begun {w:World} {F:Nat→Prop} {b:Nat} {p:Value} {q:Option Addr} {m c:Nat} {s:St} {L:Lg} (h:Wl w F b p q m c s L):Wl (w.setCell ⟨b,9,none⟩ (.bool true)) F b p q m c s { L with begun:=true }:=by
 have ho:=Only.cell b 9 w (.bool true);refine ⟨h.dk.stays (fun k hk=>ho.block k (fun e=>h.apart k hk (.inl e))) (Nat.le_of_eq ho.size.symm),⟨h.lg.blk.set 9 _,h.lg.txt.stays (fun y hy=>ho.block _ (h.lg.apart y hy)),h.lg.apart,fun k hk=>by rw [ho.size];exact h.lg.low k hk,h.lg.dsk⟩,h.apart⟩
def RetWl (v:Value) (s':St) (L':Lg) (F:Nat→Prop) (b:Nat) (p:Value) (q:Option Addr) (w:World) (e:Ending) (w':World):Prop:=
 ∃ F' q' m' c',e=.returned v∧Wl w' F' b p q' m' c' s' L'∧Upd (wlS F b q) (wlS F' b q') w w'
def begX (L:Lg):Sec:=Sx (secL (L.lasts / 232) L.epoch (L.txt.take (L.lasts % 232)))
def begI (L:Lg):Nat:=3+L.lasts / 232 % L.l.toNat
def begS (s:St) (L:Lg):St:=if L.begun then s else if s.refuses then putD s (begI L) (begX L) else BaS (putD s (begI L) (begX L))
def begL (s:St) (L:Lg):Lg:=if L.begun then L else if s.refuses then L else { L with begun:=true }
def begE (s:St) (L:Lg):Int:=if L.begun then 0 else putDE s
theorem putD_alive {s:St} {i:Nat} {x:Sec} (h:¬ s.refuses):(putD s i x).dead=false∧(putD s i x).writes=s.writes+1∧(putD s i x).ls=s.ls:=by
 unfold putD
 rw [if_neg h];refine ⟨?_,rfl,rfl⟩
 show s.dead=false
 cases hd:s.dead with
 | false=>rfl
 | true=>exact absurd (.inr hd) h
theorem BaE_alive {s:St} (h:s.dead=false):BaE s=0:=by unfold BaE;rw [h];rfl
def SlBe (b:Nat) (La:Nat) (J:Nat) (A:Nat) (q:Option Addr) (m:Nat) (c:Nat) (q2:Option Addr) (E:Int) (slot:Nat) (v:Value) (_:World):Prop:=
 match slot with
 | 3=>v=.int .i64 E
 | 8=>v=.pointer (some ⟨b,0,none⟩)
 | 9=>v=.pointer (some ⟨b,0,none⟩)
 | 10=>v=.pointer (some ⟨b,0,none⟩)
 | 11=>v=.pointer (some ⟨b,6,none⟩)
 | 12=>v=.int .u64 (La:Int)
 | 13=>v=.int .u64 (J:Int)
 | 14=>v=.pointer (some ⟨b,0,none⟩)
 | 15=>v=.pointer (some ⟨b,0,none⟩)
 | 16=>v=.pointer (some ⟨b,7,none⟩)
 | 17=>v=.slice q m c
 | 18=>v=.pointer (some ⟨b,0,none⟩)
 | 19=>v=.pointer (some ⟨b,0,none⟩)
 | 20=>v=.pointer (some ⟨b,6,none⟩)
 | 21=>v=.int .u64 (La:Int)
 | 22=>v=.int .i64 (A:Int)
 | 23=>v=.slice q2 A c
 | 24=>v=.int .i64 E
 | _=>True
set_option maxRecDepth 100000 in
set_option maxHeartbeats 1000000 in
theorem wbegin_any {F:Nat→Prop} {b:Nat} {p:Value} {q:Option Addr} {m c:Nat} {s:St} {L:Lg} (w:World) (h:Wl w F b p q m c s L) (ok:L.Ok) (hn:3+L.l≤s.ls.length) (hw:s.writes≤900000000) :
  Calls Tryz.prog 57 #[.pointer (some ⟨b,0,none⟩)] w (RetWl (.int .i64 (begE s L)) (begS s L) (begL s L) F b p q w):=by
 obtain ⟨c0,c1,c2,c3,c4,c5,c6,c7,c8,c9⟩:=h.lg.blk.c10;have HL:=Lib.hid h
 cases hb:L.begun
 ·
  rw [hb] at c9
  obtain ⟨D,hD⟩:=h.lg.dsk;obtain ⟨A,hA⟩:∃ A,A=L.lasts % 232:=⟨_,rfl⟩;obtain ⟨J,hJ⟩:∃ J,J=L.lasts / 232:=⟨_,rfl⟩;have hml:=h.lg.mlen
  have hAm:A≤m:=by have:=ok.has;omega
  have hcap:=h.lg.txt.1.cap;obtain ⟨q2,hcut,hc2⟩:=cut_h (p:=q) (n:=m) (c:=c) A hAm hcap;have HCut:=Lib.hid hcut
  have hlb:L.lasts≤18446744073709551615:=by have:=ok.near;have:=ok.most;omega
  have HA:Hid (∀ W,Calls Tryz.prog 60 #[.int .u64 (L.lasts:Int)] W fun e w'=>e=.returned (.int .i64 (A:Int))∧W=w'):=Lib.hid fun W=>by rw [hA];exact ahead_any _ W hlb
  have HJs:Hid (∀ W,Calls Tryz.prog 78 #[.int .u64 (L.lasts:Int)] W fun e w'=>e=.returned (.int .u64 (J:Int))∧W=w'):=Lib.hid fun W=>by rw [hJ];exact sectorOf_any _ W hlb
  obtain ⟨E,hE⟩:∃ E,E=putDE s:=⟨_,rfl⟩;obtain ⟨s1,hs1⟩:∃ s1,s1=putD s (begI L) (begX L):=⟨_,rfl⟩
  obtain ⟨Fin,hFin⟩:∃ Fin:World→Prop,Fin=fun W=>∃ F',Wl W F' b p q m c s1 L∧Upd (wlS F b q) (wlS F' b q) w W:=⟨_,rfl⟩
  have HWr:Hid (∀ W,Gr w W→Calls Tryz.prog 77 #[.pointer (some ⟨b,0,none⟩),.int .u64 (J:Int),.slice q2 A c] W fun e w'=>e=.returned (.int .i64 E)∧Fin w'):=Lib.hid fun W gr=>by
   have hW:=h.gr gr;have hy:=hc2.byt W _ hW.lg.txt.1
   rw [Nat.sub_zero,List.drop_zero] at hy
   refine (wwrite_any D b _ _ _ _ _ _ _ _ _ _ _ _ J q2 A c (L.txt.take A) W hW.lg.blk hD hW.dk ok.may (by omega) (by have:=ok.e1;omega) hy (by omega) hn (by omega)).mono ?_;rintro e w' ⟨rfl,hf⟩;rw [hFin,hE];refine ⟨rfl,?_⟩
   have hs:putD s (3+J % L.l.toNat) (Sx (secL J L.epoch (L.txt.take A)))=s1:=by rw [hs1,hA,hJ];rfl
   rw [hs] at hf
   obtain ⟨F',h1,h2⟩:=hW.disk hf;exact ⟨F',h1,(Upd.of_gr gr).comp h2⟩
  have HB:=Lib.hid h.lg.blk
  have HZ:Hid (begE s L=E∧begS s L=(if s.refuses then s1 else BaS s1)∧begL s L=(if s.refuses then L else { L with begun:=true })∧(s.refuses→E=8)∧(¬ s.refuses→E=0∧s1.dead=false∧s1.writes≤1000000000)):=Lib.hid (by
   refine ⟨by simp [begE,hb,hE],by unfold begS;simp [hb,hs1],by unfold begL;simp [hb],fun hr=>by rw [hE];unfold putDE;rw [if_pos hr],fun hr=>⟨by rw [hE];unfold putDE;rw [if_neg hr],?_⟩⟩;have:=putD_alive (i:=begI L) (x:=begX L) hr
   rw [← hs1] at this
   exact ⟨this.1,by omega⟩)
  have HFn:=Lib.hid hFin;rw [HZ.out.1];clear c0 c1 c2 c3 c4 c5 c6 c7 c8 h hA hJ hml hAm hcap hcut hc2 hlb hE hs1 hFin hD hn hw ok HL
  go_enter Tryz.func57,Tryz.ntmps57
  go_wp2_with fail;refine Flow.regionS [3] 20 (SlBe b L.lasts J A q m c q2 E) (InC 16 w (Fin)) (fun _ _ _=>True) (by kernel_rfl) (by kernel_rfl) (fun _ _ _ _ _ _ h _=>h) (InC.start (by rfl) (Gr.refl _).drew) ?steps ?fin
  case steps=>
   refine .cons (fun l a W hfr hun hup hdn hinv hdep K hK=>?_) ?_
   · have t0:=tAt (.pointer (some ⟨b,0,none⟩)) (hfr.at 0 (by kernel_rfl));refine fW0 rfl ?_;clear hfr hdep hdn;go_simp;exact hK _ _ True.intro (hinv.other 0 (by decide)) (dsT (by trivial))
   refine .cons (fun l a W hfr hun hup hdn hinv hdep K hK=>?_) ?_
   · have t0:=tAt (.pointer (some ⟨b,0,none⟩)) (hfr.at 0 (by kernel_rfl));refine fW0 rfl ?_;clear hfr hdep hdn;go_simp;exact hK _ _ True.intro (hinv.other 1 (by decide)) (dsT (by trivial))
   refine .cons (fun l a W hfr hun hup hdn hinv hdep K hK=>?_) ?_
   · have t9:=tAt (.pointer (some ⟨b,0,none⟩)) (hdep 9 (by kernel_rfl));refine fW0 rfl ?_;clear hfr hdep hdn;go_simp;exact hK _ _ True.intro (hinv.other 2 (by decide)) (dsT (by trivial))
   refine .cons (fun l a W hfr hun hup hdn hinv hdep K hK=>?_) ?_
   · have t10:=tAt (.pointer (some ⟨b,0,none⟩)) (hdep 10 (by kernel_rfl));refine fW0 rfl ?_;clear hfr hdep hdn;go_simp;exact hK _ _ True.intro (hinv.other 3 (by decide)) (dsT (by trivial))
   refine .cons (fun l a W hfr hun hup hdn hinv hdep K hK=>?_) ?_
   · have t11:=tAt (.pointer (some ⟨b,6,none⟩)) (hdep 11 (by kernel_rfl));refine fW0 rfl ?_;clear hfr hdep hdn;have hlz:l 16=false:=hup 16 (by decide) (by kernel_rfl);have hin:=hinv.pre hlz;obtain ⟨c0,c1,c2,c3,c4,c5,c6,c7,c8,c9⟩:=(HB.out.gr hin).c10;go_simp;exact hK _ _ True.intro (hinv.other 4 (by decide)) (dsT (by trivial))
   refine .cons (fun l a W hfr hun hup hdn hinv hdep K hK=>?_) ?_
   · have t12:=tAt (.int .u64 (L.lasts:Int)) (hdep 12 (by kernel_rfl));refine fW0 rfl ?_;clear hfr hdep hdn;have hlz:l 16=false:=hup 16 (by decide) (by kernel_rfl);have hin:=hinv.pre hlz;go_simp;refine (HJs.out W).mono ?_;rintro e W' ⟨rfl,rfl⟩;exact hK _ _ True.intro (hinv.other 5 (by decide)) (dsT (by trivial))
   refine .cons (fun l a W hfr hun hup hdn hinv hdep K hK=>?_) ?_
   · have t0:=tAt (.pointer (some ⟨b,0,none⟩)) (hfr.at 0 (by kernel_rfl));refine fW0 rfl ?_;clear hfr hdep hdn;go_simp;exact hK _ _ True.intro (hinv.other 6 (by decide)) (dsT (by trivial))
   refine .cons (fun l a W hfr hun hup hdn hinv hdep K hK=>?_) ?_
   · have t14:=tAt (.pointer (some ⟨b,0,none⟩)) (hdep 14 (by kernel_rfl));refine fW0 rfl ?_;clear hfr hdep hdn;go_simp;exact hK _ _ True.intro (hinv.other 7 (by decide)) (dsT (by trivial))
   refine .cons (fun l a W hfr hun hup hdn hinv hdep K hK=>?_) ?_
   · have t15:=tAt (.pointer (some ⟨b,0,none⟩)) (hdep 15 (by kernel_rfl));refine fW0 rfl ?_;clear hfr hdep hdn;go_simp;exact hK _ _ True.intro (hinv.other 8 (by decide)) (dsT (by trivial))
   refine .cons (fun l a W hfr hun hup hdn hinv hdep K hK=>?_) ?_
   · have t16:=tAt (.pointer (some ⟨b,7,none⟩)) (hdep 16 (by kernel_rfl));refine fW0 rfl ?_;clear hfr hdep hdn;have hlz:l 16=false:=hup 16 (by decide) (by kernel_rfl);have hin:=hinv.pre hlz;obtain ⟨c0,c1,c2,c3,c4,c5,c6,c7,c8,c9⟩:=(HB.out.gr hin).c10;go_simp;exact hK _ _ True.intro (hinv.other 9 (by decide)) (dsT (by trivial))
   refine .cons (fun l a W hfr hun hup hdn hinv hdep K hK=>?_) ?_
   · have t0:=tAt (.pointer (some ⟨b,0,none⟩)) (hfr.at 0 (by kernel_rfl));refine fW0 rfl ?_;clear hfr hdep hdn;go_simp;exact hK _ _ True.intro (hinv.other 10 (by decide)) (dsT (by trivial))
   refine .cons (fun l a W hfr hun hup hdn hinv hdep K hK=>?_) ?_
   · have t18:=tAt (.pointer (some ⟨b,0,none⟩)) (hdep 18 (by kernel_rfl));refine fW0 rfl ?_;clear hfr hdep hdn;go_simp;exact hK _ _ True.intro (hinv.other 11 (by decide)) (dsT (by trivial))
   refine .cons (fun l a W hfr hun hup hdn hinv hdep K hK=>?_) ?_
   · have t19:=tAt (.pointer (some ⟨b,0,none⟩)) (hdep 19 (by kernel_rfl));refine fW0 rfl ?_;clear hfr hdep hdn;go_simp;exact hK _ _ True.intro (hinv.other 12 (by decide)) (dsT (by trivial))
   refine .cons (fun l a W hfr hun hup hdn hinv hdep K hK=>?_) ?_
   · have t20:=tAt (.pointer (some ⟨b,6,none⟩)) (hdep 20 (by kernel_rfl));refine fW0 rfl ?_;clear hfr hdep hdn;have hlz:l 16=false:=hup 16 (by decide) (by kernel_rfl);have hin:=hinv.pre hlz;obtain ⟨c0,c1,c2,c3,c4,c5,c6,c7,c8,c9⟩:=(HB.out.gr hin).c10;go_simp;exact hK _ _ True.intro (hinv.other 13 (by decide)) (dsT (by trivial))
   refine .cons (fun l a W hfr hun hup hdn hinv hdep K hK=>?_) ?_
   · have t21:=tAt (.int .u64 (L.lasts:Int)) (hdep 21 (by kernel_rfl));refine fW0 rfl ?_;clear hfr hdep hdn;have hlz:l 16=false:=hup 16 (by decide) (by kernel_rfl);have hin:=hinv.pre hlz;go_simp;refine (HA.out W).mono ?_;rintro e W' ⟨rfl,rfl⟩;exact hK _ _ True.intro (hinv.other 14 (by decide)) (dsT (by trivial))
   refine .cons (fun l a W hfr hun hup hdn hinv hdep K hK=>?_) ?_
   · have t17:=tAt (.slice q m c) (hdep 17 (by kernel_rfl));have t22:=tAt (.int .i64 (A:Int)) (hdep 22 (by kernel_rfl));have hcut:=HCut.out W;refine fW0 rfl ?_;clear hfr hdep hdn;go_simp;exact hK _ _ True.intro (hinv.other 15 (by decide)) (dsT (by trivial))
   refine .cons (fun l a W hfr hun hup hdn hinv hdep K hK=>?_) ?_
   · have t8:=tAt (.pointer (some ⟨b,0,none⟩)) (hdep 8 (by kernel_rfl));have t13:=tAt (.int .u64 (J:Int)) (hdep 13 (by kernel_rfl));have t23:=tAt (.slice q2 A c) (hdep 23 (by kernel_rfl));refine fW0 rfl ?_;clear hfr hdep hdn;have hin:=hinv.pre hun;go_simp;refine (HWr.out W hin).mono ?_;rintro e W' ⟨rfl,h1⟩;exact hK _ _ True.intro (InC.fin h1) (dsT (by trivial))
   refine .cons (fun l a W hfr hun hup hdn hinv hdep K hK=>?_) ?_
   · have t24:=tAt (.int .i64 E) (hdep 24 (by kernel_rfl));refine fW0 rfl ?_;clear hfr hdep hdn;go_simp;exact hK _ _ True.intro (hinv.other 17 (by decide)) (dsT (by trivial))
   exact True.intro
  case fin=>
   intro a W l hfr hall hinv hsl
   have s3:a.tmps.getD 3 undef=.int .i64 E:=hsl 17 _ 3 rfl rfl (by simp);have t3:=tmpAt s3;have hfin:=hinv.post (hall 16 (by decide));have e:=Flow.frame hfr [8,9,10,11,12,13,14,15,16,17,18,19,20,21,22,23,24,3] (List.range 36) (by kernel_rfl) (by kernel_rfl)
   simp [List.range,List.range.loop] at e
   rw [t3] at e
   rw [e];have HFin:=Lib.hid hfin;clear e hfr hsl hall hinv hfin s3 t3
   first
    | (rename_i hB;refine hB _ _ ?_)
    | (rename_i hB y0;refine hB _ _ ?_)
    | (rename_i hB y0 y1;refine hB _ _ ?_)
    | (rename_i hB y0 y1 y2;refine hB _ _ ?_)
    | (rename_i hB y0 y1 y2 y3;refine hB _ _ ?_)
    | (rename_i hB y0 y1 y2 y3 y4;refine hB _ _ ?_)
    | (rename_i hB y0 y1 y2 y3 y4 y5;refine hB _ _ ?_)
    | (rename_i hB y0 y1 y2 y3 y4 y5 y6;refine hB _ _ ?_)
    | (rename_i hB y0 y1 y2 y3 y4 y5 y6 y7;refine hB _ _ ?_)
    | (rename_i hB y0 y1 y2 y3 y4 y5 y6 y7 y8;refine hB _ _ ?_)
    | skip
   have hF:=HFin.out
   rw [HFn.out] at hF
   obtain ⟨F1,hw1,hu1⟩:=hF;have HW1:=Lib.hid hw1;have HU1:=Lib.hid hu1;clear hw1 hu1 HFin HWr HA HJs HCut HB
   by_cases hr:s.refuses
   ·
    have HZ2:Hid (begS s L=s1∧begL s L=L):=Lib.hid ⟨by rw [HZ.out.2.1,if_pos hr],by rw [HZ.out.2.2.1,if_pos hr]⟩;obtain rfl:E=8:=HZ.out.2.2.2.1 hr;clear hr HZ;go_wp2_with fail
    go_ret
    rw [HZ2.out.1,HZ2.out.2];exact ⟨F1,q,m,c,rfl,HW1.out,HU1.out⟩
   ·
    have HZ2:Hid (begS s L=BaS s1∧begL s L={ L with begun:=true }):=Lib.hid ⟨by rw [HZ.out.2.1,if_neg hr],by rw [HZ.out.2.2.1,if_neg hr]⟩;have h3:=HZ.out.2.2.2.2 hr;obtain rfl:E=0:=h3.1;have HS1:Hid (s1.dead=false∧s1.writes≤1000000000):=Lib.hid h3.2;clear hr h3 HZ;have c9:=HW1.out.lg.blk.c10.2.2.2.2.2.2.2.2.2;have c0:=HW1.out.lg.blk.cell 0
    simp at c0
    have f9:=HW1.out.lg.blk.frozen 9;have HW2:=Lib.hid HW1.out.begun
    have HBa:Hid (Calls Tryz.prog 79 #[p] (W.setCell ⟨b,9,none⟩ (.bool true)) fun e w'=>e=.returned (.int .i64 0)∧DkFin F1 p (BaS s1) (W.setCell ⟨b,9,none⟩ (.bool true)) w'):=Lib.hid (by
     have h:=Barrier_all _ HW2.out.dk HS1.out.2
     rw [BaE_alive HS1.out.1] at h
     refine h.mono ?_;rintro e w' ⟨F2,rfl,hd,hu⟩
     exact ⟨rfl,F2,hd,hu⟩)
    go_wp2_with fail;refine HBa.out.mono ?_;rintro e w2 ⟨rfl,hf2⟩;obtain ⟨F2,hw2,hu2⟩:=HW2.out.disk hf2;have HW3:=Lib.hid hw2;have HU3:=Lib.hid (HU1.out.comp ((Upd.cell (S:=wlS F1 b q) (.inr (.inl rfl)) W (.bool true)).comp hu2));clear hw2 hu2 hf2 c9 c0 f9 HW2 HBa HW1;go_wp2_with fail
    go_ret
    rw [HZ2.out.1,HZ2.out.2];exact ⟨F2,q,m,c,rfl,HW3.out,HU3.out⟩
 ·
  rw [hb] at c9
  have HZ:Hid (begE s L=0∧begS s L=s∧begL s L=L):=Lib.hid ⟨by unfold begE;rw [hb];rfl,by unfold begS;rw [hb];rfl,by unfold begL;rw [hb];rfl⟩;clear c0 c1 c2 c3 c4 c5 c6 c7 c8 h hb
  go_enter Tryz.func57,Tryz.ntmps57
  go_wp2_with fail
  go_ret
  rw [HZ.out.1,HZ.out.2.1,HZ.out.2.2];exact ⟨F,q,m,c,rfl,HL.out,Upd.of_gr (Gr.refl _)⟩
end Go.Proofs.YtlijbgapkmfnaaaGreat
namespace Go.Proofs.YtlijbgapkmfnaaaGreat
open Go.RowKit Cr
theorem equal_any (p q:Option Addr) (n c m d:Nat) (xs ys:List Int) (w:World) (h:Byt w p n c xs) (k:Byt w q m d ys):Calls Tryz.prog 145 #[.slice p n c,.slice q m d] w fun e w'=>e=.returned (.bool (decide (xs=ys)))∧w=w':=by
 have hc1:=h.lies.convert h.len c 31 5 9 Tryz.underlying31 Tryz.underlying5 Tryz.underlying9;have hc2:=k.lies.convert k.len d 31 5 9 Tryz.underlying31 Tryz.underlying5 Tryz.underlying9;have he:=Lib.hid (strEq h.small k.small);clear h k;obtain ⟨r,hr⟩:∃ r,r=strOfNums xs:=⟨_,rfl⟩;obtain ⟨s,hs⟩:∃ s,s=strOfNums ys:=⟨_,rfl⟩
 rw [← hr] at hc1 he
 rw [← hs] at hc2 he
 clear hr hs
 go_enter Tryz.func145,Tryz.ntmps145
 go_wp2
 go_ret
 exact ⟨ret_b he.out,rfl⟩
theorem hasPrefix_any (p q:Option Addr) (n c m d:Nat) (xs ys:List Int) (w:World) (h:Byt w p n c xs) (k:Byt w q m d ys):Calls Tryz.prog 122 #[.slice p n c,.slice q m d] w fun e w'=>e=.returned (.bool (preB xs ys))∧w=w':=by
 have lx:=h.len;have ly:=k.len;have hcap:=h.cap
 by_cases hl:m≤n
 ·
  have hp:=h.pre m c hl (by omega) (Nat.le_refl _);have HE:=Lib.hid (equal_any p q m c m d (xs.take m) ys w hp k);have HR:Hid (preB xs ys=decide (xs.take m=ys)):=Lib.hid (by unfold preB;rw [ly])
  have hl':(m:Int)≤n:=by omega
  have hmc:m≤c:=by omega
  have hnil:=h.nilCap;clear h k lx ly hp
  cases p with
  | none=>
   have h0:=hnil rfl;subst h0
   obtain rfl:n=0:=by omega
   obtain rfl:m=0:=by omega
   clear hnil
   go_enter Tryz.func122,Tryz.ntmps122
   go_wp2_with fail;refine HE.out.mono ?_;rintro e w' ⟨rfl,rfl⟩;go_wp2_with fail
   go_ret
   exact ⟨ret_b (by rw [HR.out];simp only [List.take_zero];exact decide_eq_decide.2 eq_comm),rfl⟩
  | some ad=>
   clear hnil
   go_enter Tryz.func122,Tryz.ntmps122
   go_wp2_with fail;refine HE.out.mono ?_;rintro e w' ⟨rfl,rfl⟩;go_wp2_with fail
   go_ret
   exact ⟨ret_b HR.out.symm,rfl⟩
 ·
  have HR:Hid (preB xs ys=false):=Lib.hid (by
   unfold preB
   apply decide_eq_false
   intro e
   have:=congrArg List.length e
   simp at this
   omega)
  have hl':¬ (m:Int)≤n:=by omega
  clear h k lx ly
  go_enter Tryz.func122,Tryz.ntmps122
  go_wp2_with fail
  go_ret
  exact ⟨ret_b HR.out.symm,rfl⟩
structure Oth (f:Nat) (W W':World):Prop where
 size:W.heap.size≤W'.heap.size
 block:∀ g,g < W.heap.size→g≠f→W'.heap[g]?=W.heap[g]?
theorem Oth.refl (f:Nat) (W:World):Oth f W W:=⟨Nat.le_refl _,fun _ _ _=>rfl⟩
theorem Oth.set {f:Nat} {W W':World} (h:Oth f W W') (v:Value):Oth f W (W'.setCell ⟨f,0,none⟩ v):=
 ⟨by have:=h.size;simp;exact this,fun g h1 h2=>(heap_setCell_other W' ⟨f,0,none⟩ g v h2).trans (h.block g h1 h2)⟩
theorem Oth.seti {f:Nat} {W W':World} (h:Oth f W W') (i:Nat) (v:Value):Oth f W (W'.setCell ⟨f,i,none⟩ v):=
 ⟨by have:=h.size;simp;exact this,fun g h1 h2=>(heap_setCell_other W' ⟨f,i,none⟩ g v h2).trans (h.block g h1 h2)⟩
theorem Oth.set8 {f:Nat} (W:World) (a b c d e g i j:Value):Oth f W ((((((((W.setCell ⟨f,0,none⟩ a).setCell ⟨f,1,none⟩ b).setCell ⟨f,2,none⟩ c).setCell ⟨f,3,none⟩ d).setCell ⟨f,4,none⟩ e).setCell ⟨f,5,none⟩ g).setCell ⟨f,6,none⟩ i).setCell ⟨f,7,none⟩ j):=
 ((((((((Oth.refl f W).seti 0 a).seti 1 b).seti 2 c).seti 3 d).seti 4 e).seti 5 g).seti 6 i).seti 7 j
theorem Oth.gr {f:Nat} {W W' W'':World} (h:Oth f W W') (g:Gr W' W''):Oth f W W'':=
 ⟨Nat.le_trans h.size g.size,fun k h1 h2=>(g.block k (Nat.lt_of_lt_of_le h1 h.size)).trans (h.block k h1 h2)⟩
theorem Oth.blk {f g:Nat} {W W':World} {t:TypeId} {cs:Array Value} (h:Oth f W W') (hb:Blk W g t cs) (hg:g≠f):Blk W' g t cs:=(h.block g hb.lt hg).trans hb
theorem Oth.byt {f:Nat} {W W':World} {p:Option Addr} {n c:Nat} {xs:List Int} (h:Oth f W W') (hb:Byt W p n c xs) (hf:∀ a,p=some a→f < a.block):Byt W' p n c xs:=
 ⟨hb.len,hb.cap,hb.most,fun hn=>by
  obtain ⟨b,o,rfl,hc⟩:=hb.lies.at hn
  refine ⟨b,o,rfl,fun i hi=>?_⟩;have hfb:f < b:=hf _ rfl;rw [← hc i hi]
  unfold World.cell?
  rw [h.block b (blk_lt (hc i hi)) (by omega)],hb.nilCap,hb.small⟩
abbrev TBy:TypeId:=31
structure RdAt (w0:World) (p:Option Addr) (n c:Nat) (F:Int) (W:World):Prop where
 gr:Gr w0 W
 b:Blk W w0.heap.size TBy #[.slice p n c]
 z:Blk W (w0.heap.size+1) TR #[.int .i64 0,.int .u64 0,.int .u64 0,.int .u64 0,.int .i64 0,.int .i64 0,.slice none 0 0,.slice none 0 0]
 f:Blk W (w0.heap.size+1+1) TI #[.int .i64 F]
theorem RdAt.set {w0 W:World} {p:Option Addr} {n c:Nat} {F:Int} (h:RdAt w0 p n c F W) (F':Int):RdAt w0 p n c F' (W.setCell ⟨w0.heap.size+1+1,0,none⟩ (.int .i64 F')):=
 ⟨h.gr.setCell (by show w0.heap.size≤w0.heap.size+1+1;omega) _,h.b.far (by show w0.heap.size≠w0.heap.size+1+1;omega) _,h.z.far (by show w0.heap.size+1≠w0.heap.size+1+1;omega) _,h.f.set 0 _⟩
theorem RdAt.up {w0 W W':World} {p:Option Addr} {n c:Nat} {F:Int} (h:RdAt w0 p n c F W) (g:Gr W W'):RdAt w0 p n c F W':=
 ⟨Gr.trans h.gr g,h.b.below g h.b.lt,h.z.below g h.z.lt,h.f.below g h.f.lt⟩
theorem RdAt.put {w0 W:World} {p:Option Addr} {n c:Nat} {F:Int} (h:RdAt w0 p n c F W) (g i:Nat) (v:Value) (hg:w0.heap.size+1+1 < g):RdAt w0 p n c F (W.setCell ⟨g,i,none⟩ v):=
 ⟨h.gr.setCell (by show w0.heap.size≤g;omega) _,h.b.far (by show w0.heap.size≠g;omega) _,h.z.far (by show w0.heap.size+1≠g;omega) _,h.f.far (by show w0.heap.size+1+1≠g;omega) _⟩
theorem sz_set (w:World) (a:Addr) (v:Value):(w.setCell a v).heap.size=w.heap.size:=by simp [World.setCell]
set_option maxRecDepth 100000 in
theorem next_any {w0:World} {p:Option Addr} {n c:Nat} {xs:List Int} (hb:Byt w0 p n c xs) (F s F':Int) (W:World) (h:RdAt w0 p n c F W) (hF:F+s=F') (h0:0≤F) (h1:F≤1000) (h2:0≤s) (h3:s≤8) :
  Calls Tryz.prog 143 #[.int .i64 s,.pointer (some ⟨w0.heap.size,0,none⟩),.pointer (some ⟨w0.heap.size+1+1,0,none⟩)] W fun e w'=>e=.returned (.int .u64 (atR xs F s))∧W.setCell ⟨w0.heap.size+1+1,0,none⟩ (.int .i64 F')=w':=by
 subst hF;have HA:=Lib.hid (at_any p n c xs F s W (hb.kept h.gr));have c0:W.cell? ⟨w0.heap.size,0,none⟩=some (.slice p n c):=h.b.cell 0;have c1:W.cell? ⟨w0.heap.size+1+1,0,none⟩=some (.int .i64 F):=h.f.cell 0;have f1:=h.f.frozen 0;clear hb h
 go_enter Tryz.func143,Tryz.ntmps143
 go_wp2_with fail;refine HA.out.mono ?_;rintro e w1 ⟨rfl,rfl⟩;go_wp2_with fail
 go_ret
 exact ⟨rfl,rfl⟩
theorem drop_take_min (xs:List Int) (F M A E:Nat) (hA:A=min F xs.length) (hE:E=min (A+M) xs.length):(xs.drop A).take (E - A)=(xs.drop F).take M:=by
 subst hA hE
 by_cases h:F≤xs.length
 ·
  rw [Nat.min_eq_left h]
  by_cases h2:F+M≤xs.length
  · rw [Nat.min_eq_left h2];congr 1;omega
  · rw [Nat.min_eq_right (by omega),List.take_of_length_le (by simp),List.take_of_length_le (by simp;omega)]
 ·
  have e1:min F xs.length=xs.length:=by omega
  rw [e1,List.drop_of_length_le (Nat.le_refl _),List.drop_of_length_le (by omega)]
  simp
theorem results_rec3 {fn:Func} {p q r:Tmp} (h:fn.results=#[.cell p TR,.tmp q,.tmp r]) (tmps:Array Value) (w:World) (g:Nat) (cs:Array Value) (x y:Value) (hs:cs.size=8)
  (hp:tmps.getD p undef=.pointer (some ⟨g,0,none⟩)) (hx:tmps.getD q undef=x) (hy:tmps.getD r undef=y) (hb:Blk w g TR cs):(results fn tmps).run Tryz.prog w=.ok (.tuple #[.agg cs,x,y]) w:=by
 have hp':tmps[p]?.getD undef=.pointer (some ⟨g,0,none⟩):=by simpa using hp
 have hx':tmps[q]?.getD undef=x:=by simpa using hx
 have hy':tmps[r]?.getD undef=y:=by simpa using hy
 have hl:=run_loadVar_row (P:=Tryz.prog) w g TR TR cs (0,0) _ hb Tryz.underlying33 rfl (by rw [hs];exact rec_size)
 simp [results,h,hp',hx',hy',asAddr,hl]
def ofE (xs:List Int) (at':Nat):Int:=if ofB xs at' then 0 else 4
theorem zeros_rec (w:World):Blk (w.alloc (.cells #[.int .i64 0,.int .u64 0,.int .u64 0,.int .u64 0,.int .i64 0,.int .i64 0,.slice none 0 0,.slice none 0 0] TR)) w.heap.size TR #[.int .i64 0,.int .u64 0,.int .u64 0,.int .u64 0,.int .i64 0,.int .i64 0,.slice none 0 0,.slice none 0 0]:=Blk.new _ _ _
end Go.Proofs.YtlijbgapkmfnaaaGreat
namespace Go.Proofs.YtlijbgapkmfnaaaGreat
open Go.RowKit Cr
theorem OwnB.oth {W W':World} {f base tB n c:Nat} {p:Option Addr} {xs:List Int} (h:OwnB W base tB (.slice p n c) xs) (g:Oth f W W') (hf:∀ a,p=some a→a.block≠f):OwnB W' base tB (.slice p n c) xs:=by
 refine ⟨⟨h.row.1,?_⟩,h.small⟩
 rcases h.row.2 with h2 | ⟨b,cap,cur,e,h0,hg,r⟩
 · exact .inl h2
 ·
  have hlt:b < W.heap.size:=(Array.getElem?_eq_some_iff.1 hg).1
  have hne:b≠f:=by
   simp only [Value.slice.injEq] at e
   exact hf _ e.1
  exact .inr ⟨b,cap,cur,e,h0,(g.block b hlt hne).trans hg,r⟩
set_option maxRecDepth 100000 in
set_option maxHeartbeats 1000000 in
theorem list_own {w0:World} {p:Option Addr} {n c:Nat} {xs:List Int} (hb:Byt w0 p n c xs) (F M A E:Nat) (W:World) (h:RdAt w0 p n c F W) (hA:A=min F n) (hE:E=min (A+M) n) (h1:F≤1000) (h2:M≤1000) :
  Calls Tryz.prog 144 #[.int .i64 M,.pointer (some ⟨w0.heap.size+1+1,0,none⟩),.pointer (some ⟨w0.heap.size,0,none⟩)] W fun e w'=>∃ q m d,e=.returned (.slice q m d)∧OwnB w' W.heap.size 5 (.slice q m d) ((xs.drop F).take M)∧RdAt w0 p n c E w'∧Oth (w0.heap.size+1+1) W w':=by
 have lx:=hb.len;have hcap:=hb.cap;have hX:=Lib.hid (drop_take_min xs F M A E (by rw [lx];exact hA) (by rw [lx];exact hE));have c0:W.cell? ⟨w0.heap.size,0,none⟩=some (.slice p n c):=h.b.cell 0;have c1:W.cell? ⟨w0.heap.size+1+1,0,none⟩=some (.int .i64 F):=h.f.cell 0;have f1:=h.f.frozen 0
 have a1:A≤E:=by omega
 have a2:E≤n:=by omega
 have a3:E≤c:=by omega
 have a4:A≤1000:=by omega
 have n63:n≤9223372036854775807:=by have:=hb.most;unfold maxLen at this;omega
 have m1:min (F:Int) (n:Int)=(A:Int):=by omega
 have m2:min ((A:Int)+M) (n:Int)=(E:Int):=by omega
 have HS:=Lib.hid (h.set E);have hby:=hb.kept HS.out.gr;have HO:Hid (Oth (w0.heap.size+1+1) W (W.setCell ⟨w0.heap.size+1+1,0,none⟩ (.int .i64 E))):=Lib.hid ((Oth.refl _ _).set _)
 have hsub:∃ q,(A < E→∃ b o,p=some ⟨b,o,none⟩∧q=some ⟨b,o+A,none⟩)∧Byt (W.setCell ⟨w0.heap.size+1+1,0,none⟩ (.int .i64 E)) q (E - A) (E - A) ((xs.drop F).take M):=by
  rw [← hX.out]
  by_cases hlt:A < E
  ·
   obtain ⟨b,o,rfl,_⟩:=hby.at (by omega)
   exact ⟨_,fun _=>⟨b,o,rfl,rfl⟩,hby.sub (by omega) A (E - A) (E - A) (by omega) (Nat.le_refl _) (by simp only [maxLen];omega)⟩
  ·
   have e0:E - A=0:=by omega
   rw [e0];exact ⟨none,fun h=>absurd h hlt,Byt.zero _ _⟩
 have hz:Hid (∀ (p:Option Addr) (w:World),E=A→Byt w p 0 0 ((xs.drop F).take M)):=Lib.hid fun p w e=>by
  rw [← hX.out,e]
  simp
  exact Byt.zero w p
 have HT:Hid (tot [(xs.drop F).take M]≤140737488355328):=Lib.hid (by unfold tot;simp;omega);have HFL:Hid ([(xs.drop F).take M].flatten=(xs.drop F).take M):=Lib.hid (by simp)
 by_cases hlt:A < E
 ·
  obtain ⟨q,hq,hy⟩:=hsub;obtain ⟨b,o,rfl,rfl⟩:=hq hlt;have hr:=Rows.one (t:=31) hy rfl
  rw [sz_set] at hr
  have HR:=Lib.hid hr;clear hr hy hq hz hby h hb hA hE lx
  go_enter Tryz.func144,Tryz.ntmps144
  go_wp2_with fail;refine (join_own _ _ _ _ _ HR.out HT.out).mono ?_;rintro e w1 ⟨v,rfl,ho,g1⟩;obtain ⟨m,hm⟩:∃ m,m=((xs.drop F).take M).length:=⟨_,rfl⟩;obtain ⟨q,d,hv⟩:=(ho.as HFL.out).shape m hm.symm;subst hv;have HY:=Lib.hid ((ho.as HFL.out).base_le (B':=W.heap.size) (by rw [World.size_alloc,sz_set];exact Nat.le_succ _));have HG:=Lib.hid (grow1 g1);clear hm;clear ho g1;go_wp2_with fail
  go_ret
  exact ⟨q,m,d,rfl,HY.out,HS.out.up HG.out,HO.out.gr HG.out⟩
 ·
  clear hA hE
  obtain rfl:E=A:=by omega
  have HZ:Hid (∀ q,Rows ((W.setCell ⟨w0.heap.size+1+1,0,none⟩ (.int .i64 E)).alloc (.cells #[.slice q 0 0] 31)) (some ⟨W.heap.size,0,none⟩) 1 1 [(xs.drop F).take M]):=Lib.hid fun q=>by
   have h1:=Rows.one (w:=W.setCell ⟨w0.heap.size+1+1,0,none⟩ (.int .i64 E)) (t:=31) (hz.out q _ rfl) rfl
   rw [sz_set] at h1
   exact h1
  clear hsub hz hby h hlt hb hX
  cases p with
  | none=>
   go_enter Tryz.func144,Tryz.ntmps144
   go_wp2_with fail;refine (join_own _ _ _ [(xs.drop F).take M] _ (HZ.out _) HT.out).mono ?_;rintro e w1 ⟨v,rfl,ho,g1⟩;obtain ⟨m,hm⟩:∃ m,m=((xs.drop F).take M).length:=⟨_,rfl⟩;obtain ⟨q,d,hv⟩:=(ho.as HFL.out).shape m hm.symm;subst hv;have HY:=Lib.hid ((ho.as HFL.out).base_le (B':=W.heap.size) (by rw [World.size_alloc,sz_set];exact Nat.le_succ _));have HG:=Lib.hid (grow1 g1);clear hm;clear ho g1;go_wp2_with fail
   go_ret
   exact ⟨q,m,d,rfl,HY.out,HS.out.up HG.out,HO.out.gr HG.out⟩
  | some ad=>
   go_enter Tryz.func144,Tryz.ntmps144
   go_wp2_with fail;refine (join_own _ _ _ [(xs.drop F).take M] _ (HZ.out _) HT.out).mono ?_;rintro e w1 ⟨v,rfl,ho,g1⟩;obtain ⟨m,hm⟩:∃ m,m=((xs.drop F).take M).length:=⟨_,rfl⟩;obtain ⟨q,d,hv⟩:=(ho.as HFL.out).shape m hm.symm;subst hv;have HY:=Lib.hid ((ho.as HFL.out).base_le (B':=W.heap.size) (by rw [World.size_alloc,sz_set];exact Nat.le_succ _));have HG:=Lib.hid (grow1 g1);clear hm;clear ho g1;go_wp2_with fail
   go_ret
   exact ⟨q,m,d,rfl,HY.out,HS.out.up HG.out,HO.out.gr HG.out⟩
def RetCandO (c:Rc) (w:World) (e:Ending) (w':World):Prop:=
 ∃ pb nb cb pa na ca,e=.returned (.agg #[.int .i64 c.k,.int .u64 c.t,.int .u64 c.p,.int .u64 c.x,.int .i64 c.g,.int .i64 c.o,.slice pb nb cb,.slice pa na ca])∧OwnB w' w.heap.size 5 (.slice pb nb cb) c.b∧OwnB w' w.heap.size 5 (.slice pa na ca) c.a∧Gr w w'
set_option maxRecDepth 100000 in
set_option maxHeartbeats 4000000 in
theorem read_own (p:Option Addr) (n c:Nat) (xs:List Int) (w:World) (hb:Byt w p n c xs):Calls Tryz.prog 121 #[.slice p n c] w (RetCandO (cand xs) w):=by
 have hs:=hb.small;have lx:=Lib.hid hb.len;have HX:=Lib.hid (fun (F:Nat) s F' W h hF h1 h2 h3=>next_any (w0:=w) hb F s F' W h hF (by omega) h1 h2 h3);have HL:=Lib.hid (fun F M A E W h hA hE h1 h2=>list_own (w0:=w) hb F M A E W h hA hE h1 h2)
 have H0:Hid (RdAt w p n c 6 (((w.alloc (.cells #[.slice p n c] TBy)).alloc (.cells #[.int .i64 0,.int .u64 0,.int .u64 0,.int .u64 0,.int .i64 0,.int .i64 0,.slice none 0 0,.slice none 0 0] TR)).alloc (.cells #[.int .i64 6] TI))):=Lib.hid (by
  have h1:=Blk.new w TBy #[.slice p n c];have h2:=Blk.new (w.alloc (.cells #[.slice p n c] TBy)) TR #[.int .i64 0,.int .u64 0,.int .u64 0,.int .u64 0,.int .i64 0,.int .i64 0,.slice none 0 0,.slice none 0 0];have h3:=Blk.new ((w.alloc (.cells #[.slice p n c] TBy)).alloc (.cells #[.int .i64 0,.int .u64 0,.int .u64 0,.int .u64 0,.int .i64 0,.int .i64 0,.slice none 0 0,.slice none 0 0] TR)) TI #[.int .i64 6]
  simp only [World.size_alloc] at h2 h3
  have g1:=(Gr.refl w).alloc (Nat.le_refl _) (.cells #[.slice p n c] TBy);have g2:=g1.alloc g1.size (.cells #[.int .i64 0,.int .u64 0,.int .u64 0,.int .u64 0,.int .i64 0,.int .i64 0,.slice none 0 0,.slice none 0 0] TR)
  exact ⟨g2.alloc g2.size _,(h1.alloc _).alloc _,h2.alloc _,h3⟩)
 have S0:Hid ((((w.alloc (.cells #[.slice p n c] TBy)).alloc (.cells #[.int .i64 0,.int .u64 0,.int .u64 0,.int .u64 0,.int .i64 0,.int .i64 0,.slice none 0 0,.slice none 0 0] TR)).alloc (.cells #[.int .i64 6] TI)).heap.size=w.heap.size+1+1+1):=Lib.hid (by simp);have b1:atR xs 6 1 < 256:=atR_lt xs hs 6 1 (by omega);have b5:atR xs 31 2 < 65536:=atR_lt xs hs 31 2 (by omega);have b6:atR xs 33 1 < 256:=atR_lt xs hs 33 1 (by omega);have b7:atR xs 34 1 < 256:=atR_lt xs hs 34 1 (by omega);have HC:Hid (cand xs=⟨(atR xs 6 1:Nat),atR xs 7 8,atR xs 15 8,atR xs 23 8,(atR xs 31 2:Nat),(atR xs 33 1:Nat),(xs.drop 35).take (if atR xs 6 1=1 then atR xs 34 1 else 0),(xs.drop (35+(if atR xs 6 1=1 then atR xs 34 1 else 0))).take (atR xs 34 1)⟩):=Lib.hid rfl;rw [HC.out];clear HC hb hs;obtain ⟨v1,e1⟩:∃ v,v=atR xs 6 1:=⟨_,rfl⟩;obtain ⟨v2,e2⟩:∃ v,v=atR xs 7 8:=⟨_,rfl⟩;obtain ⟨v3,e3⟩:∃ v,v=atR xs 15 8:=⟨_,rfl⟩;obtain ⟨v4,e4⟩:∃ v,v=atR xs 23 8:=⟨_,rfl⟩;obtain ⟨v5,e5⟩:∃ v,v=atR xs 31 2:=⟨_,rfl⟩;obtain ⟨v6,e6⟩:∃ v,v=atR xs 33 1:=⟨_,rfl⟩;obtain ⟨v7,e7⟩:∃ v,v=atR xs 34 1:=⟨_,rfl⟩;rw [← e1,← e2,← e3,← e4,← e5,← e6,← e7]
 rw [← e1] at b1
 rw [← e5] at b5
 rw [← e6] at b6
 rw [← e7] at b7
 have E1:=Lib.hid e1;have E2:=Lib.hid e2;have E3:=Lib.hid e3;have E4:=Lib.hid e4;have E5:=Lib.hid e5;have E6:=Lib.hid e6;have E7:=Lib.hid e7;clear e1 e2 e3 e4 e5 e6 e7;obtain ⟨nbf,hnbf⟩:∃ m:Nat,(m:Int)=befR v1 v7∧m=(if v1=1 then v7 else 0):=⟨if v1=1 then v7 else 0,by unfold befR;split <;> split <;> omega,rfl⟩;rw [← hnbf.2];have HNB:=Lib.hid hnbf.1
 have bn:nbf≤255:=by have:=hnbf.2;split at this <;> omega
 clear hnbf
 go_enter Tryz.func121,Tryz.ntmps121
 go_wp2_with fail
 generalize (((w.alloc (.cells #[.slice p n c] TBy)).alloc (.cells #[.int .i64 0,.int .u64 0,.int .u64 0,.int .u64 0,.int .i64 0,.int .i64 0,.slice none 0 0,.slice none 0 0] TR)).alloc (.cells #[.int .i64 6] TI))=W0 at H0 S0 ⊢
 refine (HX.out 6 1 7 _ H0.out (by omega) (by omega) (by omega) (by omega)).mono ?_;rintro e y0 ⟨rfl,rfl⟩;have H1:=Lib.hid (H0.out.set 7);have S1:=Lib.hid ((sz_set W0 ⟨w.heap.size+1+1,0,none⟩ (.int .i64 7)).trans S0.out);rw [show atR xs ((6:Nat):Int) 1=v1 from E1.out.symm]
 generalize W0.setCell ⟨w.heap.size+1+1,0,none⟩ (.int .i64 7)=W1 at H1 S1 ⊢
 clear H0 S0;go_wp2_with fail;refine (HX.out 7 8 15 _ H1.out (by omega) (by omega) (by omega) (by omega)).mono ?_;rintro e y1 ⟨rfl,rfl⟩;have H2:=Lib.hid (H1.out.set 15);have S2:=Lib.hid ((sz_set W1 ⟨w.heap.size+1+1,0,none⟩ (.int .i64 15)).trans S1.out);rw [show atR xs ((7:Nat):Int) 8=v2 from E2.out.symm]
 generalize W1.setCell ⟨w.heap.size+1+1,0,none⟩ (.int .i64 15)=W2 at H2 S2 ⊢
 clear H1 S1;go_wp2_with fail;refine (HX.out 15 8 23 _ H2.out (by omega) (by omega) (by omega) (by omega)).mono ?_;rintro e y2 ⟨rfl,rfl⟩;have H3:=Lib.hid (H2.out.set 23);have S3:=Lib.hid ((sz_set W2 ⟨w.heap.size+1+1,0,none⟩ (.int .i64 23)).trans S2.out);rw [show atR xs ((15:Nat):Int) 8=v3 from E3.out.symm]
 generalize W2.setCell ⟨w.heap.size+1+1,0,none⟩ (.int .i64 23)=W3 at H3 S3 ⊢
 clear H2 S2;go_wp2_with fail;refine (HX.out 23 8 31 _ H3.out (by omega) (by omega) (by omega) (by omega)).mono ?_;rintro e y3 ⟨rfl,rfl⟩;have H4:=Lib.hid (H3.out.set 31);have S4:=Lib.hid ((sz_set W3 ⟨w.heap.size+1+1,0,none⟩ (.int .i64 31)).trans S3.out);rw [show atR xs ((23:Nat):Int) 8=v4 from E4.out.symm]
 generalize W3.setCell ⟨w.heap.size+1+1,0,none⟩ (.int .i64 31)=W4 at H4 S4 ⊢
 clear H3 S3;go_wp2_with fail;refine (HX.out 31 2 33 _ H4.out (by omega) (by omega) (by omega) (by omega)).mono ?_;rintro e y4 ⟨rfl,rfl⟩;have H5:=Lib.hid (H4.out.set 33);have S5:=Lib.hid ((sz_set W4 ⟨w.heap.size+1+1,0,none⟩ (.int .i64 33)).trans S4.out);rw [show atR xs ((31:Nat):Int) 2=v5 from E5.out.symm]
 generalize W4.setCell ⟨w.heap.size+1+1,0,none⟩ (.int .i64 33)=W5 at H5 S5 ⊢
 clear H4 S4;go_wp2_with fail;refine (HX.out 33 1 34 _ H5.out (by omega) (by omega) (by omega) (by omega)).mono ?_;rintro e y5 ⟨rfl,rfl⟩;have H6:=Lib.hid (H5.out.set 34);have S6:=Lib.hid ((sz_set W5 ⟨w.heap.size+1+1,0,none⟩ (.int .i64 34)).trans S5.out);rw [show atR xs ((33:Nat):Int) 1=v6 from E6.out.symm]
 generalize W5.setCell ⟨w.heap.size+1+1,0,none⟩ (.int .i64 34)=W6 at H6 S6 ⊢
 clear H5 S5;go_wp2_with fail;have HR6:=Lib.hid (Blk.new W6 TR #[.int .i64 v1,.int .u64 v2,.int .u64 v3,.int .u64 v4,.int .i64 v5,.int .i64 v6,.slice none 0 0,.slice none 0 0]);have H6a:=Lib.hid (H6.out.up ((Gr.refl W6).alloc (Nat.le_refl _) (.cells #[.int .i64 v1,.int .u64 v2,.int .u64 v3,.int .u64 v4,.int .i64 v5,.int .i64 v6,.slice none 0 0,.slice none 0 0] TR)));clear H6;refine (HX.out 34 1 35 _ H6a.out (by omega) (by omega) (by omega) (by omega)).mono ?_;rintro e y7 ⟨rfl,rfl⟩;rw [show atR xs ((34:Nat):Int) 1=v7 from E7.out.symm];have HR7:=Lib.hid (HR6.out.far (p:=⟨w.heap.size+1+1,0,none⟩) (by show W6.heap.size≠w.heap.size+1+1;have:=S6.out;omega) (.int .i64 35));have H7:=Lib.hid (H6a.out.set 35);clear HR6 H6a
 generalize (W6.alloc (.cells #[.int .i64 v1,.int .u64 v2,.int .u64 v3,.int .u64 v4,.int .i64 v5,.int .i64 v6,.slice none 0 0,.slice none 0 0] TR)).setCell ⟨w.heap.size+1+1,0,none⟩ (.int .i64 35)=W7 at HR7 H7 ⊢
 have HWW:Hid (w.heap.size≤W7.heap.size):=Lib.hid H7.out.gr.size;obtain ⟨R,hR⟩:∃ R,R=W6.heap.size:=⟨_,rfl⟩;have SR:Hid (w.heap.size+1+1 < R):=Lib.hid (by have:=S6.out;omega)
 rw [← hR] at HR7 ⊢
 clear hR S6;obtain ⟨c0,c1,c2,c3,c4,c5,c6,c7⟩:=HR7.out.c8;go_wp2_with fail;refine (befores_any _ _ _).mono ?_;rintro e y8 ⟨rfl,rfl⟩;rw [← HNB.out];clear c0 c1 c2 c3 c4 c5 c6 c7;go_wp2_with fail;refine (HL.out 35 nbf (min 35 n) (min (min 35 n+nbf) n) _ H7.out rfl rfl (by omega) (by omega)).mono ?_;rintro e W8 ⟨q,m,d,rfl,hy8,h8,ho⟩;have hf:=hy8.far;have hy:=hy8;clear hy8;have HY8:=Lib.hid hy;have H8:=Lib.hid h8;have HR8:=Lib.hid (ho.blk HR7.out (by have:=SR.out;omega));have HF8:=Lib.hid (fun y hy2=>Nat.lt_of_lt_of_le HR7.out.lt (hf y hy2));clear hy h8 ho hf HR7 H7;obtain ⟨c0,c1,c2,c3,c4,c5,c6,c7⟩:=HR8.out.c8;obtain ⟨q0,q1,q2,q3,q4,q5,q6,q7⟩:=HR8.out.f8;go_wp2_with fail;have HR9:=Lib.hid (HR8.out.set 6 (.slice q m d));have H9:=Lib.hid (H8.out.put R 6 (.slice q m d) SR.out);have HY9:Hid (OwnB (W8.setCell ⟨R,6,none⟩ (.slice q m d)) W7.heap.size 5 (.slice q m d) ((xs.drop 35).take nbf)):=Lib.hid (HY8.out.oth (f:=R) ⟨Nat.le_of_eq (sz_set _ _ _).symm,fun g h1 h2=>heap_setCell_other W8 ⟨R,6,none⟩ g _ h2⟩ (fun y hy=>Nat.ne_of_gt (HF8.out y hy)));have HW7:Hid (w.heap.size≤W7.heap.size):=Lib.hid HWW.out;clear c0 c1 c2 c3 c4 c5 c6 c7 q0 q1 q2 q3 q4 q5 q6 q7 HR8 H8 HY8
 generalize W8.setCell ⟨R,6,none⟩ (.slice q m d)=W9 at HR9 H9 HY9 ⊢
 obtain ⟨E,hE⟩:∃ E,E=min (min 35 n+nbf) n:=⟨_,rfl⟩
 rw [← hE] at H9
 have hE1:E≤1000:=by omega
 have HEE:Hid (xs.drop E=xs.drop (35+nbf)):=Lib.hid (by
  have l:=lx.out
  by_cases h:35+nbf≤n
  · rw [hE];congr 1;omega
  · rw [List.drop_of_length_le (by omega),List.drop_of_length_le (by omega)])
 clear hE;have hl2:=HL.out E v7 (min E n) (min (min E n+v7) n) _ H9.out rfl rfl hE1 (by omega)
 rw [HEE.out] at hl2
 have HL2:=Lib.hid hl2;clear hl2;refine HL2.out.mono ?_;rintro e W10 ⟨q2,m2,d2,rfl,hy,h10,ho⟩;have hf:=hy.far;have HY10:=Lib.hid hy;have H10:=Lib.hid h10;have HR10:=Lib.hid (ho.blk HR9.out (by have:=SR.out;omega));have HX10:=Lib.hid (HY9.out.oth ho (fun y hy2=>Nat.ne_of_gt (Nat.lt_trans SR.out (HF8.out y hy2))));have HF10:=Lib.hid (fun y hy2=>Nat.lt_of_lt_of_le HR9.out.lt (hf y hy2));have HW9:Hid (w.heap.size≤W9.heap.size):=Lib.hid (by have:=SR.out;have:=HR9.out.lt;omega);clear hy h10 ho hf HR9 H9 HY9 HL2;obtain ⟨c0,c1,c2,c3,c4,c5,c6,c7⟩:=HR10.out.c8;obtain ⟨q0,q1,q2',q3,q4,q5,q6,q7⟩:=HR10.out.f8;have hz:=H10.out.z.c8;obtain ⟨z0,z1,z2,z3,z4,z5,z6,z7⟩:=hz;obtain ⟨f0,f1,f2,f3,f4,f5,f6,f7⟩:=H10.out.z.f8
 have hne:w.heap.size+1≠R:=by have:=SR.out;omega
 have hne2:R≠w.heap.size+1:=by have:=SR.out;omega
 go_wp2_with fail;have hW9:=HW9.out
 have hR0:w.heap.size≤R:=by have:=SR.out;omega
 have F8:=HF8.out;have F10:=HF10.out
 have bR:∀ y,q=some y→w.heap.size+1 < y.block:=fun y hy=>Nat.lt_trans (by have:=SR.out;omega) (F8 y hy)
 have bR2:∀ y,q2=some y→w.heap.size+1 < y.block:=fun y hy=>Nat.lt_trans (by have:=SR.out;omega) (F10 y hy)
 exact bodyPost_ret (results_rec rfl _ _ (w.heap.size+1) #[.int .i64 v1,.int .u64 v2,.int .u64 v3,.int .u64 v4,.int .i64 v5,.int .i64 v6,.slice q m d,.slice q2 m2 d2] rfl rfl (((((((((H10.out.z.far hne _).set 0 _).set 1 _).set 2 _).set 3 _).set 4 _).set 5 _).set 6 _).set 7 _)) rfl
  ⟨q,m,d,q2,m2,d2,rfl,(HX10.out.base_le (B':=w.heap.size) HW7.out).oth ((Oth.refl R _).seti 7 _) (fun y hy=>Nat.ne_of_gt (F8 y hy)) |>.oth (Oth.set8 _ _ _ _ _ _ _ _ _) (fun y hy=>Nat.ne_of_gt (bR y hy)),(HY10.out.base_le (B':=w.heap.size) hW9).oth ((Oth.refl R _).seti 7 _) (fun y hy=>Nat.ne_of_gt (F10 y hy)) |>.oth (Oth.set8 _ _ _ _ _ _ _ _ _) (fun y hy=>Nat.ne_of_gt (bR2 y hy)),below_set8 (H10.out.gr.setCell hR0 _) (by omega)⟩
def RetOfO (c:Rc) (n:Nat) (er:Value) (w:World) (e:Ending) (w':World):Prop:=
 ∃ pb nb cb pa na ca,e=.returned (.tuple #[.agg #[.int .i64 c.k,.int .u64 c.t,.int .u64 c.p,.int .u64 c.x,.int .i64 c.g,.int .i64 c.o,.slice pb nb cb,.slice pa na ca],.int .i64 n,er])∧OwnB w' w.heap.size 5 (.slice pb nb cb) c.b∧OwnB w' w.heap.size 5 (.slice pa na ca) c.a∧Gr w w'
set_option maxRecDepth 100000 in
set_option maxHeartbeats 4000000 in
theorem of_own (p:Option Addr) (n c:Nat) (xs:List Int) (at':Nat) (w:World) (hb:Byt w p n c xs) (hat:at'≤18446744073709551615):Calls Tryz.prog 104 #[.slice p n c,.int .u64 at'] w (RetOfO (ofR xs at') (ofN xs at') (.int .i64 (ofE xs at')) w):=by
 have HZ:=Lib.hid (zeros_rec w);have HG:=Lib.hid ((Gr.refl w).alloc (Nat.le_refl _) (.cells #[.int .i64 0,.int .u64 0,.int .u64 0,.int .u64 0,.int .i64 0,.int .i64 0,.slice none 0 0,.slice none 0 0] TR));have HRD:=Lib.hid (read_own p n c xs _ (hb.kept HG.out));have HIN:=Lib.hid (cand_in xs hb.small);have HBY:=Lib.hid (hb.kept HG.out)
 have HN0:Hid (ofB xs at'=false→ofR xs at'=Rc.nil∧ofN xs at'=0∧ofE xs at'=4):=Lib.hid fun h=>by simp [ofR,ofN,ofE,h]
 have HY0:Hid (ofB xs at'=true→ofR xs at'=cand xs∧ofN xs at'=(recL (cand xs) at').length∧ofE xs at'=0):=Lib.hid fun h=>by simp [ofR,ofN,ofE,h]
 have HOB:Hid (ofB xs at'=(mayR (cand xs) && preB xs (recL (cand xs) at'))):=Lib.hid rfl;have HBB:=Lib.hid (fun pb nb cb pa na ca W h1 h2=>bytes_any (cand xs) pb nb cb pa na ca at' W HIN.out h1 h2 hat);obtain ⟨C,hC⟩:∃ C,C=cand xs:=⟨_,rfl⟩
 rw [← hC] at HRD HIN HY0 HOB HBB
 clear hC hb hat;obtain ⟨k,t,pp,x,g,o,b,a⟩:=C
 simp only at HRD HBB
 go_enter Tryz.func104,Tryz.ntmps104
 go_wp2_with fail;refine HRD.out.mono ?_;rintro e w1 ⟨pb,nb,cb,pa,na,ca,rfl,ho1,ho2,g1⟩;have y1:=ho1.byt.1;have f1:=ho1.far;have HO1:=Lib.hid (ho1.alloc (.cells #[.int .i64 k,.int .u64 t,.int .u64 pp,.int .u64 x,.int .i64 g,.int .i64 o,.slice pb nb cb,.slice pa na ca] TR));have y2:=ho2.byt.1;have f2:=ho2.far;have HO2:=Lib.hid (ho2.alloc (.cells #[.int .i64 k,.int .u64 t,.int .u64 pp,.int .u64 x,.int .i64 g,.int .i64 o,.slice pb nb cb,.slice pa na ca] TR));clear ho1 ho2;have HB1:=Lib.hid (Blk.new w1 TR #[.int .i64 k,.int .u64 t,.int .u64 pp,.int .u64 x,.int .i64 g,.int .i64 o,.slice pb nb cb,.slice pa na ca]);have HA1:=Lib.hid ((Gr.refl w1).alloc (Nat.le_refl _) (.cells #[.int .i64 k,.int .u64 t,.int .u64 pp,.int .u64 x,.int .i64 g,.int .i64 o,.slice pb nb cb,.slice pa na ca] TR));have HG1:=Lib.hid (Below.trans HG.out (g1.mono HG.out.size));have HZ1:=Lib.hid (HZ.out.below g1 HZ.out.lt);have HBY1:=Lib.hid ((HBY.out.kept g1).kept HA1.out);have HY1:=Lib.hid (y1.kept HA1.out);have HY2:=Lib.hid (y2.kept HA1.out)
 have HF2:Hid (∀ y,pa=some y→w.heap.size < y.block):=Lib.hid fun y h=>by have:=f2 y h;rw [World.size_alloc] at this;omega
 have HF1:Hid (∀ y,pb=some y→w.heap.size < y.block):=Lib.hid fun y h=>by have:=f1 y h;rw [World.size_alloc] at this;omega
 have HS1:=Lib.hid (lt_of_new g1);clear y1 y2 g1 f1 f2 HRD HG HZ HBY;obtain ⟨c0,c1,c2,c3,c4,c5,c6,c7⟩:=HB1.out.c8;go_wp2_with fail;refine (HBB.out pb nb cb pa na ca _ HY1.out HY2.out).mono ?_;rintro e w2 ⟨q,m,d,rfl,hy,g2,_⟩;have HB2:=Lib.hid (HB1.out.below g2 HB1.out.lt);have HG2:Hid (Gr w w2):=Lib.hid (Below.trans HG1.out ((Below.trans HA1.out (g2.mono HA1.out.size)).mono HG1.out.size));have HZ2:=Lib.hid ((HZ1.out.below HA1.out HZ1.out.lt).below g2 (HZ1.out.alloc _).lt);have HBY2:=Lib.hid (HBY1.out.kept g2);have HX1:=Lib.hid ((HO1.out.below' g2).base_le (B':=w.heap.size) (by rw [World.size_alloc];exact Nat.le_succ _));have HX2:=Lib.hid ((HO2.out.below' g2).base_le (B':=w.heap.size) (by rw [World.size_alloc];exact Nat.le_succ _));have HYB:=Lib.hid hy;clear hy g2 HBY1 HY1 HY2 HB1 HZ1 HA1 HG1 c0 c1 c2 c3 c4 c5 c6 c7 HBB;obtain ⟨c0,c1,c2,c3,c4,c5,c6,c7⟩:=HB2.out.c8;obtain ⟨z0,z1,z2,z3,z4,z5,z6,z7⟩:=HZ2.out.c8;obtain ⟨f0,f1,f2,f3,f4,f5,f6,f7⟩:=HZ2.out.f8
 cases hm:mayR ⟨k,t,pp,x,g,o,b,a⟩
 · have HE:Hid (bytesE ⟨k,t,pp,x,g,o,b,a⟩=2):=Lib.hid (by simp [bytesE,hm]);have HOK:Hid (ofB xs at'=false):=Lib.hid (by rw [HOB.out,hm];rfl);have hn:=HN0.out HOK.out;have HNO:Hid (∀ e w',RetOfO Rc.nil 0 (.int .i64 4) w e w'→RetOfO (ofR xs at') (ofN xs at') (.int .i64 (ofE xs at')) w e w'):=Lib.hid (fun e w' h=>by rw [hn.1,hn.2.1,hn.2.2];exact h);rw [HE.out];clear hm hn HE HOK HN0 HY0 HOB;go_wp2_with fail;exact bodyPost_ret (results_rec3 rfl _ _ w.heap.size #[.int .i64 0,.int .u64 0,.int .u64 0,.int .u64 0,.int .i64 0,.int .i64 0,.slice none 0 0,.slice none 0 0] _ _ rfl rfl rfl rfl ((((((((HZ2.out.set 0 _).set 1 _).set 2 _).set 3 _).set 4 _).set 5 _).set 6 _).set 7 _)) rfl (HNO.out _ _ ⟨none,0,0,none,0,0,rfl,OwnB.nil _ _ _,OwnB.nil _ _ _,below_set8 HG2.out (Nat.le_refl _)⟩)
 ·
  have HE:Hid (bytesE ⟨k,t,pp,x,g,o,b,a⟩=0∧bytesL ⟨k,t,pp,x,g,o,b,a⟩ at'=recL ⟨k,t,pp,x,g,o,b,a⟩ at'):=Lib.hid (by simp [bytesE,bytesL,hm])
  rw [HE.out.2] at HYB
  rw [HE.out.1];have HP:=Lib.hid (hasPrefix_any _ _ _ _ _ _ _ _ w2 HBY2.out HYB.out)
  cases hp:preB xs (recL ⟨k,t,pp,x,g,o,b,a⟩ at')
  ·
   rw [hp] at HP
   have HOK:Hid (ofB xs at'=false):=Lib.hid (by rw [HOB.out,hp,Bool.and_false]);have hn:=HN0.out HOK.out;have HNO:Hid (∀ e w',RetOfO Rc.nil 0 (.int .i64 4) w e w'→RetOfO (ofR xs at') (ofN xs at') (.int .i64 (ofE xs at')) w e w'):=Lib.hid (fun e w' h=>by rw [hn.1,hn.2.1,hn.2.2];exact h);clear hm hp hn HE HOK HN0 HY0 HOB;go_wp2_with fail;refine HP.out.mono ?_;rintro e w' ⟨rfl,rfl⟩;go_wp2_with fail;exact bodyPost_ret (results_rec3 rfl _ _ w.heap.size #[.int .i64 0,.int .u64 0,.int .u64 0,.int .u64 0,.int .i64 0,.int .i64 0,.slice none 0 0,.slice none 0 0] _ _ rfl rfl rfl rfl ((((((((HZ2.out.set 0 _).set 1 _).set 2 _).set 3 _).set 4 _).set 5 _).set 6 _).set 7 _)) rfl (HNO.out _ _ ⟨none,0,0,none,0,0,rfl,OwnB.nil _ _ _,OwnB.nil _ _ _,below_set8 HG2.out (Nat.le_refl _)⟩)
  ·
   rw [hp] at HP
   have HOK:Hid (ofB xs at'=true):=Lib.hid (by rw [HOB.out,hp,hm];rfl);have hn:=HY0.out HOK.out;have hln:=HYB.out.len;have HYES:Hid (∀ e w',RetOfO ⟨k,t,pp,x,g,o,b,a⟩ m (.int .i64 0) w e w'→RetOfO (ofR xs at') (ofN xs at') (.int .i64 (ofE xs at')) w e w'):=Lib.hid (fun e w' h=>by rw [hn.1,hn.2.1,hn.2.2,hln];exact h);clear hm hp hn HE HOK HN0 HY0 HOB hln;go_wp2_with fail;refine HP.out.mono ?_;rintro e w' ⟨rfl,rfl⟩;go_wp2_with fail;exact bodyPost_ret (results_rec3 rfl _ _ w.heap.size #[.int .i64 k,.int .u64 t,.int .u64 pp,.int .u64 x,.int .i64 g,.int .i64 o,.slice pb nb cb,.slice pa na ca] _ _ rfl rfl rfl rfl ((((((((HZ2.out.set 0 _).set 1 _).set 2 _).set 3 _).set 4 _).set 5 _).set 6 _).set 7 _)) rfl (HYES.out _ _ ⟨pb,nb,cb,pa,na,ca,rfl,HX1.out.oth (Oth.set8 _ _ _ _ _ _ _ _ _) (fun y hy=>Nat.ne_of_gt (HF1.out y hy)),HX2.out.oth (Oth.set8 _ _ _ _ _ _ _ _ _) (fun y hy=>Nat.ne_of_gt (HF2.out y hy)),below_set8 HG2.out (Nat.le_refl _)⟩)
end Go.Proofs.YtlijbgapkmfnaaaGreat
namespace Go.Proofs.YtlijbgapkmfnaaaGreat
open Cr
def onW (a n:Nat):Nat:=(a+n) % 18446744073709551616
theorem onW_le (a n:Nat):onW a n≤18446744073709551615:=by unfold onW;omega
theorem onW_of {a n:Nat} (h:a+n≤18446744073709551615):onW a n=a+n:=by unfold onW;omega
def allF:Nat→List Int→Nat→List (Nat × Rc)
 | 0,_,_=>[]
 | k+1,xs,a=>if ofB xs a then (onW a (ofN xs a),ofR xs a) :: allF k (xs.drop (ofN xs a)) (onW a (ofN xs a)) else []
def allL (xs:List Int) (a:Nat):List (Nat × Rc):=allF xs.length xs a
theorem ofN_yes {xs:List Int} {a:Nat} (h:ofB xs a=true):35≤ofN xs a∧ofN xs a≤xs.length:=by
 have h1:ofN xs a=(recL (cand xs) a).length:=by simp [ofN,h]
 unfold ofB at h
 rw [Bool.and_eq_true] at h
 have h2:=congrArg List.length (preB_iff.1 h.2)
 rw [List.length_take] at h2
 have h3:=recL_len (cand xs) a
 omega
theorem ofB_short {xs:List Int} {a:Nat} (h:xs.length < 35):ofB xs a=false:=by
 cases h2:ofB xs a
 · rfl
 ·
  have:=ofN_yes h2
  omega
theorem ofN_small {xs:List Int} {a:Nat} (h:ofB xs a=true):ofN xs a≤531:=by
 have h1:ofN xs a=(recL (cand xs) a).length:=by simp [ofN,h]
 unfold ofB at h
 rw [Bool.and_eq_true] at h
 have f:=mayR_fits h.1;have f1:=f.na;have f2:=f.nb1;rw [h1,recL_len]
 omega
theorem allF_nil {k:Nat} {xs:List Int} {a:Nat} (h:ofB xs a=false):allF k xs a=[]:=by cases k <;> simp [allF,h]
theorem allF_more:∀ (k j:Nat) (xs:List Int) (a:Nat),xs.length≤k→xs.length≤j→allF k xs a=allF j xs a
 | 0,j,xs,a,h,_=>by
  have h0:ofB xs a=false:=ofB_short (by omega);rw [allF_nil h0,allF_nil h0]
 | k+1,0,xs,a,_,h=>by
  have h0:ofB xs a=false:=ofB_short (by omega);rw [allF_nil h0,allF_nil h0]
 | k+1,j+1,xs,a,h,h'=>by
  cases hb:ofB xs a
  · rw [allF_nil hb,allF_nil hb]
  ·
   have hn:=ofN_yes hb
   simp only [allF,hb,if_true]
   rw [allF_more k j _ _ (by rw [List.length_drop];omega) (by rw [List.length_drop];omega)]
theorem allL_no {xs:List Int} {a:Nat} (h:ofB xs a=false):allL xs a=[]:=allF_nil h
theorem allL_yes {xs:List Int} {a:Nat} (h:ofB xs a=true):allL xs a=(onW a (ofN xs a),ofR xs a) :: allL (xs.drop (ofN xs a)) (onW a (ofN xs a)):=by
 have hn:=ofN_yes h;have h1:allL xs a=allF (xs.length+1) xs a:=allF_more _ _ _ _ (Nat.le_refl _) (by omega);rw [h1]
 simp only [allF,h,if_true]
 rw [allL]
 congr 1
 exact allF_more _ _ _ _ (by rw [List.length_drop];omega) (Nat.le_refl _)
theorem allL_len:∀ (k:Nat) (xs:List Int) (a:Nat),xs.length≤k→35*(allL xs a).length≤xs.length
 | 0,xs,a,h=>by rw [allL_no (ofB_short (by omega))];simp
 | k+1,xs,a,h=>by
  cases hb:ofB xs a
  · rw [allL_no hb];simp
  ·
   have hn:=ofN_yes hb;rw [allL_yes hb,List.length_cons];have:=allL_len k (xs.drop (ofN xs a)) (onW a (ofN xs a)) (by rw [List.length_drop];omega)
   rw [List.length_drop] at this
   omega
theorem ofR_in {xs:List Int} (hx:Wd.Small xs) (a:Nat):(ofR xs a).In:=by
 unfold ofR
 split
 · exact cand_in xs hx
 · exact ⟨by decide,by decide,by decide,(fun _ h=>by cases h),fun _ h=>by cases h⟩
def strL:List Rc→Nat→List Int
 | [],_=>[]
 | r :: rs,a=>recL r a++strL rs (onW a (recL r a).length)
def strE:List Rc→Nat→List (Nat × Rc)
 | [],_=>[]
 | r :: rs,a=>(onW a (recL r a).length,r) :: strE rs (onW a (recL r a).length)
theorem allL_str:∀ (rs:List Rc) (a:Nat) (T:List Int),(∀ r ∈ rs,mayR r=true∧r.In)→T.length < 35→allL (strL rs a++T) a=strE rs a
 | [],a,T,_,hT=>by
  simp only [strL,strE,List.nil_append]
  exact allL_no (ofB_short hT)
 | r :: rs,a,T,h,hT=>by
  obtain ⟨hm,hi⟩:=h r (List.mem_cons_self ..)
  simp only [strL,strE,List.append_assoc]
  rw [allL_yes (ofB_rec hm hi a _),ofN_rec hm hi,ofR_rec hm hi,List.drop_left' rfl,allL_str rs _ T (fun q hq=>h q (List.mem_cons_of_mem _ hq)) hT]
end Go.Proofs.YtlijbgapkmfnaaaGreat
namespace Go.Proofs.YtlijbgapkmfnaaaGreat
open Go.RowKit
def firm (o:Obj):Bool:=o.isCells || o.isWalk
structure HoldS (κ:Obj→Bool) (Ks:Nat→Prop) (W W':World):Prop where
 size:W.heap.size≤W'.heap.size
 same:∀ k o,Ks k→W.heap[k]?=some o→κ o=true→W'.heap[k]?=some o
theorem HoldS.refl (κ:Obj→Bool) (Ks:Nat→Prop) (W:World):HoldS κ Ks W W:=⟨Nat.le_refl _,fun _ _ _ h _=>h⟩
theorem HoldS.trans {κ:Obj→Bool} {Ks:Nat→Prop} {X Y Z:World} (h:HoldS κ Ks X Y) (k:HoldS κ Ks Y Z):HoldS κ Ks X Z:=⟨Nat.le_trans h.size k.size,fun i o hi h1 hc=>k.same i o hi (h.same i o hi h1 hc) hc⟩
theorem HoldS.put {κ:Obj→Bool} {Ks:Nat→Prop} (W:World) (l:Nat) (o o':Obj) (h:W.heap[l]?=some o) (hc:κ o=false):HoldS κ Ks W (W.putObj l o'):=⟨by simp,fun k u _ hk hu=>by
 by_cases e:k=l
 · subst e;rw [h] at hk;cases hk;rw [hc] at hu;cases hu
 · exact (World.putObj_heap_other e).trans hk⟩
def SeqTold {α:Type} (F:Fence) (n:Nat) (P:Program) (g:Nat) (lb:Array Value) (encs:α→Array Value) (G:List α→α→World→Prop) (Ks:Nat→Prop) (S Sp:List α→Prop) (w:World):Prop:=
 ∀ (l:Nat) (J Jx:List α→World→Prop) (W:World),Below w.heap.size w W→OwnFrom W.heap.size J→OwnFrom W.heap.size Jx →
  (∀ pre x V,J pre V→G pre x V→YieldAt F (n - 1) P l (encs x) V fun e V'=>(e=.returned (.bool true)∧J (pre++[x]) V'∧HoldS firm Ks V V')∨(e=.returned (.bool false)∧Jx (pre++[x]) V')) →
  J [] W→CallsIn F n P g (#[.func (.yield l) #[] #[]]++lb) W fun e V=>(∃ v,e=.returned v)∧((∃ xs,S xs∧J xs V)∨∃ pre,Sp pre∧Jx pre V)
def toldPost {α:Type} (B:Nat) (Ks:Nat→Prop) (I Ir:List α→World→Prop) (xs:List α) (W:World):Exit→Act→World→Prop
 | .normal,_,V=>KeepsFrom B W V∧HoldS firm Ks W V∧I xs V
 | .ret,_,V=>KeepsFrom B W V∧Ir xs V
 | _,_,_=>False
variable {F:Fence} {n:Nat} {P:Program} {w:World}
end Go.Proofs.YtlijbgapkmfnaaaGreat
namespace Go.Proofs.YtlijbgapkmfnaaaGreat
open Go.RowKit Go.Shelf Cr
attribute [local go_sem] Oper.semAt_some
abbrev TU:TypeId:=30
structure AllAt (W:World) (Bb Ba:Nat) (q:Option Addr) (m d:Nat) (xs:List Int) (at':Nat):Prop where
 b:Blk W Bb TBy #[.slice q m d]
 a:Blk W Ba TU #[.int .u64 at']
 y:Byt W q m d xs
theorem AllAt.up {W W':World} {Bb Ba:Nat} {q:Option Addr} {m d:Nat} {xs:List Int} {at':Nat} (h:AllAt W Bb Ba q m d xs at') (g:Gr W W'):AllAt W' Bb Ba q m d xs at':=
 ⟨h.b.below g h.b.lt,h.a.below g h.a.lt,h.y.kept g⟩
set_option maxRecDepth 100000 in
set_option maxHeartbeats 1000000 in
theorem all_any (p:Option Addr) (n c:Nat) (xs:List Int) (at':Nat) (w:World) (hb:Byt w p n c xs) (hl:n≤20000) :
  Calls Tryz.prog 87 #[.slice p n c,.int .u64 at'] w fun e w'=>∃ q m d,e=.returned (.func (.func 103) #[] #[.pointer (some ⟨w.heap.size,0,none⟩),.pointer (some ⟨w.heap.size+1,0,none⟩)])∧AllAt w' w.heap.size (w.heap.size+1) q m d xs at'∧(∀ y,q=some y→w.heap.size+1 < y.block)∧Gr w w':=by
 have h1:=Blk.new w TBy #[.slice p n c];have h2:=Blk.new (w.alloc (.cells #[.slice p n c] TBy)) TU #[.int .u64 at'];have h3:=Blk.new ((w.alloc (.cells #[.slice p n c] TBy)).alloc (.cells #[.int .u64 at'] TU)) 31 #[.slice p n c]
 simp only [World.size_alloc] at h2 h3
 have g1:=(Gr.refl w).alloc (Nat.le_refl _) (.cells #[.slice p n c] TBy);have g2:=g1.alloc g1.size (.cells #[.int .u64 at'] TU);have HB:=Lib.hid ((h1.alloc (.cells #[.int .u64 at'] TU)).alloc (.cells #[.slice p n c] 31));have HA:=Lib.hid (h2.alloc (.cells #[.slice p n c] 31));have HG:=Lib.hid (g2.alloc g2.size (.cells #[.slice p n c] 31));have hr:=Rows.one (t:=31) (hb.kept g2) rfl
 simp only [World.size_alloc] at hr
 have HR:=Lib.hid hr;have HT:Hid (tot [xs]≤140737488355328):=Lib.hid (by have:=hb.len;unfold tot;simp;omega);have HFL:Hid ([xs].flatten=xs):=Lib.hid (by simp);have c0:(w.alloc (.cells #[.slice p n c] TBy)).cell? ⟨w.heap.size,0,none⟩=some (.slice p n c):=h1.cell 0;clear h1 h2 h3 g1 g2 hr hb
 go_enter Tryz.func87,Tryz.ntmps87
 go_wp2_with fail;refine (join_any _ _ _ _ _ HR.out HT.out).mono ?_;rintro e w1 ⟨q,m,d,rfl,hy,g1,hf⟩;have HB1:=Lib.hid (HB.out.below g1 HB.out.lt);have HA1:=Lib.hid (HA.out.below g1 HA.out.lt);have HG1:=Lib.hid (Gr.trans HG.out g1);have HY1:=Lib.hid (HFL.out ▸ hy)
 have HF1:Hid (∀ y,q=some y→w.heap.size+1 < y.block):=Lib.hid fun y h=>by
  have h2:=hf y h
  simp only [World.size_alloc] at h2
  omega
 clear hy g1 hf HB HA HG HR HT HFL c0;have c0:=HB1.out.cell 0;have f0:=HB1.out.frozen 0;go_wp2_with fail
 go_ret
 have hgr:=HG1.out.setCell (p:=⟨w.heap.size,0,none⟩) (Nat.le_refl _) (.slice q m d);exact ⟨q,m,d,rfl,⟨HB1.out.set 0 _,HA1.out.far (by show w.heap.size+1≠w.heap.size;omega) _,((Oth.refl w.heap.size _).set _).byt HY1.out (fun y h=>by have:=HF1.out y h;omega)⟩,HF1.out,hgr⟩
structure RX where
 e:Nat
 c:Rc
 pb:Option Addr
 nb:Nat
 cb:Nat
 pa:Option Addr
 na:Nat
 ca:Nat
abbrev RX.agg (x:RX):Value:=.agg #[.int .i64 x.c.k,.int .u64 x.c.t,.int .u64 x.c.p,.int .u64 x.c.x,.int .i64 x.c.g,.int .i64 x.c.o,.slice x.pb x.nb x.cb,.slice x.pa x.na x.ca]
abbrev RX.encs (x:RX):Array Value:=#[.int .u64 x.e,x.agg]
structure RX.Good (x:RX) (W:World):Prop where
 b:OwnB W 0 5 (.slice x.pb x.nb x.cb) x.c.b
 a:OwnB W 0 5 (.slice x.pa x.na x.ca) x.c.a
 e:x.e≤18446744073709551615
 i:x.c.In
def RX.two (x:RX):Nat × Rc:=(x.e,x.c)
theorem Byt.held {κ:Obj→Bool} {Ks:Nat→Prop} {W W':World} {p:Option Addr} {n c:Nat} {xs:List Int} (h:Byt W p n c xs) (hκ:∀ o:Obj,o.isCells=true→κ o=true) (g:HoldS κ Ks W W') (hk:∀ y,p=some y→Ks y.block):Byt W' p n c xs:=
 ⟨h.len,h.cap,h.most,fun hn=>by
  obtain ⟨b,o,rfl,hc⟩:=h.at hn
  refine ⟨b,o,rfl,fun i hi=>?_⟩;have hci:=hc i hi
  have hb:∃ ob,W.heap[b]?=some ob∧ob.isCells=true:=by
   unfold World.cell? at hci
   cases ho:W.heap[b]? with
   | none=>simp [ho] at hci
   | some ob=>
    refine ⟨ob,rfl,?_⟩
    cases ob <;> simp [ho] at hci <;> rfl
  obtain ⟨ob,h1,h2⟩:=hb;have h3:=g.same b ob (hk _ rfl) h1 (hκ _ h2);rw [← hci]
  unfold World.cell?
  rw [h3,h1],h.nilCap,h.small⟩
theorem Gr.gnone {W W':World} (g:Gr W W'):W.grownBy W' none:=⟨g.os,g.tape,g.output,g.size,fun k hk _=>g.block k hk⟩
theorem firm_cells (o:Obj) (h:o.isCells=true):firm o=true:=by unfold firm;rw [h];rfl
theorem Gr.hold {κ:Obj→Bool} {Ks:Nat→Prop} {W W':World} (g:Gr W W'):HoldS κ Ks W W':=⟨g.size,fun k _ _ h1 _=>(g.block k (Array.getElem?_eq_some_iff.1 h1).1).trans h1⟩
set_option maxRecDepth 100000 in
set_option maxHeartbeats 4000000 in
theorem all1_told (n:Nat) (hn:2≤n) (Bb Ba:Nat) (q:Option Addr) (m d:Nat) (xs:List Int) (at':Nat) (w:World) (h:AllAt w Bb Ba q m d xs at') (hat:at'≤18446744073709551615) (hm:m≤20000) :
  SeqTold Fence.wide n Tryz.prog 103 #[.pointer (some ⟨Bb,0,none⟩),.pointer (some ⟨Ba,0,none⟩)] RX.encs (fun pre x V=>x.Good V∧∃ zs,(pre++[x]).map RX.two++zs=allL xs at') (fun k=>∃ y,q=some y∧y.block=k) (fun ys=>ys.map RX.two=allL xs at') (fun _=>True) w:=fun l J Jx W hW hJ hJx hY h0=>by
 have hA:=Lib.hid (h.up hW)
 have h1:1≤n:=by omega
 have c0:W.cell? ⟨Bb,0,none⟩=some (.slice q m d):=hA.out.b.cell 0;have c1:W.cell? ⟨Ba,0,none⟩=some (.int .u64 at'):=hA.out.a.cell 0;have HJ:=Lib.hid hJ;have HY:=Lib.hid hY;have H0:=Lib.hid h0;clear hW hJ hJx hY h0 h;refine callsIn_of_wp Tryz.func103 rfl trivial ?_ rfl
 simp only [Tryz.ntmps103,List.size_toArray,List.length_cons,List.length_nil,Nat.reduceAdd,Nat.reduceSub,Array.replicate_succ,Array.replicate_zero,List.push_toArray,List.append_toArray,List.nil_append,List.cons_append]
 gi_wp2_with fail
 gi_region
 gi_wp2_with fail
 have gd:Gr W W.drew:=(Gr.refl W).drew
 have HE:Hid (∀ ys e,ofB ys e=true→ofE ys e=0):=Lib.hid fun ys e h=>by simp [ofE,h]
 have HE1:Hid (∀ ys e,ofB ys e=false→ofE ys e=4):=Lib.hid fun ys e h=>by simp [ofE,h]
 have HY0:=Lib.hid (hA.out.y.kept gd);have HJ0:=Lib.hid (HJ.out [] W _ none H0.out gd.gnone (fun r e=>by cases e));have HS0:=Lib.hid gd.size
 generalize W.drew=W0 at HY0 HJ0 HS0 ⊢
 clear c0 c1 hA H0 gd
 gi_loopw [4,5] (fun rest en wr=>∃ (pre:List RX) (ys:List Int) (e:Nat) (q':Option Addr) (m' d':Nat),rest=.slice q' m' d'∧en=.int .u64 e∧Hid (Byt wr q' m' d' ys)∧Hid (∀ y,q'=some y→∃ z,q=some z∧z.block=y.block)∧Hid (pre.map RX.two++allL ys e=allL xs at')∧e≤18446744073709551615∧m'≤20000∧Hid (J pre wr∧W.heap.size≤wr.heap.size)) (fun rest _ _=>match rest with | .slice _ k _=>k | _=>0)
 case atStart=>exact ⟨[],xs,at',q,m,d,rfl,rfl,HY0,Lib.hid fun y h=>⟨y,h,rfl⟩,Lib.hid rfl,hat,hm,Lib.hid ⟨HJ0.out,HS0.out⟩⟩
 case round=>
  obtain ⟨pre,ys,e,q',m',d',rfl,rfl,hy,hq,hs,he,hm',hj⟩:=hrel;clear HY0 HJ0 HS0 hat hm
  gi_wp2_with fail
  refine ⟨trivial,?_⟩;refine (callsIn_wide.2 (of_own q' m' d' ys e _ hy.out he)).mono ?_;rintro e1 V ⟨pb,nb,cb,pa,na,ca,rfl,ho1,ho2,g1⟩;have gn:=Gr.trans g1 ((Gr.refl V).alloc (Nat.le_refl _) (.cells #[.int .i64 (ofR ys e).k,.int .u64 (ofR ys e).t,.int .u64 (ofR ys e).p,.int .u64 (ofR ys e).x,.int .i64 (ofR ys e).g,.int .i64 (ofR ys e).o,.slice pb nb cb,.slice pa na ca] TR))
  cases hB:ofB ys e
  ·
   rw [HE1.out _ _ hB]
   gi_wp2_with fail
   refine bodyPost_ret (results_none rfl _ _ _) rfl ?_;exact ⟨⟨_,rfl⟩,.inl ⟨pre,by rw [← hs.out,allL_no hB,List.append_nil],HJ.out pre _ _ none hj.out.1 gn.gnone (fun r e=>by cases e)⟩⟩
  ·
   rw [HE.out _ _ hB];have hn:=ofN_yes hB;have hly:=hy.out.len;have hcy:=hy.out.cap
   obtain ⟨b,o,rfl,_⟩:=hy.out.at (by omega)
   obtain ⟨N,hN⟩:∃ N,N=ofN ys e:=⟨_,rfl⟩;obtain ⟨R,hR⟩:∃ R,R=ofR ys e:=⟨_,rfl⟩;have hN2:=ofN_small hB;have hs2:=hs.out
   rw [allL_yes hB,← hN,← hR] at hs2
   rw [← hR] at ho1 ho2 gn ⊢
   rw [← hN] at hn hN2 ⊢
   have hRI:R.In:=by rw [hR];exact ofR_in hy.out.small e
   clear hN hR hB
   have hw:IntKind.u64.wrap ((e:Int)+(N:Int))=((onW e N:Nat):Int):=by rw [IntKind.wrap_u64];unfold onW;omega
   have hqb:=hq.out _ rfl;have HX:∃ x:RX,x=⟨onW e N,R,pb,nb,cb,pa,na,ca⟩:=⟨_,rfl⟩;obtain ⟨x,hx⟩:=HX
   have hgood:x.Good (V.alloc (.cells #[.int .i64 R.k,.int .u64 R.t,.int .u64 R.p,.int .u64 R.x,.int .i64 R.g,.int .i64 R.o,.slice pb nb cb,.slice pa na ca] TR)):=by
    rw [hx];exact ⟨(ho1.base_le (Nat.zero_le _)).alloc _,(ho2.base_le (Nat.zero_le _)).alloc _,onW_le _ _,hRI⟩
   obtain ⟨fn,tmps,assign,body,hyl,hR⟩:=HY.out pre x _ (HJ.out pre _ _ none hj.out.1 gn.gnone (fun r e=>by cases e)) ⟨hgood,allL (ys.drop N) (onW e N),by rw [← hs2,hx];simp [RX.two]⟩
   rw [hx] at hyl
   dsimp only [RX.encs,RX.agg] at hyl
   have HR:=Lib.hid hR;have hyt:=Lib.hid (hy.out.kept gn);have hsz:=Lib.hid (Nat.le_trans hj.out.2 gn.size);have hss:Hid ((pre++[x]).map RX.two++allL (ys.drop N) (onW e N)=allL xs at'):=Lib.hid (by rw [← hs2,hx];simp [RX.two]);have hbr:=(Blk.new V TR #[.int .i64 R.k,.int .u64 R.t,.int .u64 R.p,.int .u64 R.x,.int .i64 R.g,.int .i64 R.o,.slice pb nb cb,.slice pa na ca]).c8;obtain ⟨r0,r1,r2,r3,r4,r5,r6,r7⟩:=hbr
   have hm2:N≤m':=by omega
   clear hgood hR hx hs2 hs hj hy hq gn g1 ho1 ho2 hRI
   by_cases hd:d'=N
   ·
    gi_wp2_with fail
    refine HR.out.mono ?_;rintro e2 V' (⟨rfl,hj2,hk⟩ | ⟨rfl,hx2⟩)
    ·
     have hy2:Hid (Byt V' (some ⟨b,o,none⟩) (m' - N) 0 (ys.drop N)):=Lib.hid ((show Byt _ (some ⟨b,o,none⟩) (m' - N) 0 (ys.drop N) from by have h:=hyt.out.tail N hm2 (some ⟨b,o,none⟩) (fun h=>absurd hd h);rw [hd,Nat.sub_self] at h;exact h).held firm_cells hk (fun y h=>by cases h;exact hqb));have hj3:=Lib.hid (show J (pre++[x]) V'∧W.heap.size≤V'.heap.size from ⟨hj2,Nat.le_trans hsz.out hk.size⟩);clear hk hj2 hyt hsz r0 r1 r2 r3 r4 r5 r6 r7 hyl HR
     gi_wp2_with fail
     go_roundw
     case rel=>exact ⟨pre++[x],ys.drop N,onW e N,(some ⟨b,o,none⟩),m' - N,0,rfl,rfl,hy2,Lib.hid (fun y h=>by cases h;exact hqb),hss,onW_le _ _,by omega,hj3⟩
     case measure=>simp;omega
    ·
     gi_wp2_with fail
     refine bodyPost_ret (results_none rfl _ _ _) rfl ?_;exact ⟨⟨_,rfl⟩,.inr ⟨pre++[x],trivial,hx2⟩⟩
   ·
    gi_wp2_with fail
    refine HR.out.mono ?_;rintro e2 V' (⟨rfl,hj2,hk⟩ | ⟨rfl,hx2⟩)
    ·
     have hy2:Hid (Byt V' (some ⟨b,o+N,none⟩) (m' - N) (d' - N) (ys.drop N)):=Lib.hid ((hyt.out.tail N hm2 (some ⟨b,o+N,none⟩) (fun _=>rfl)).held firm_cells hk (fun y h=>by cases h;exact hqb));have hj3:=Lib.hid (show J (pre++[x]) V'∧W.heap.size≤V'.heap.size from ⟨hj2,Nat.le_trans hsz.out hk.size⟩);clear hk hj2 hyt hsz r0 r1 r2 r3 r4 r5 r6 r7 hyl HR
     gi_wp2_with fail
     go_roundw
     case rel=>exact ⟨pre++[x],ys.drop N,onW e N,(some ⟨b,o+N,none⟩),m' - N,(d' - N),rfl,rfl,hy2,Lib.hid (fun y h=>by cases h;exact hqb),hss,onW_le _ _,by omega,hj3⟩
     case measure=>simp;omega
    ·
     gi_wp2_with fail
     refine bodyPost_ret (results_none rfl _ _ _) rfl ?_;exact ⟨⟨_,rfl⟩,.inr ⟨pre++[x],trivial,hx2⟩⟩
end Go.Proofs.YtlijbgapkmfnaaaGreat
namespace Go.Proofs.YtlijbgapkmfnaaaGreat
namespace Flow
open Go
theorem rows_in {n l:Nat} {P:Program} {row:String} {args:Array Value} {w:World} {R:Value→World→Prop} (h:Go.Rows P row args w R):RowsIn (Fence.wide.inRound l) n P row args w R:=fun c cs _=>by
 obtain ⟨v,w',r,s⟩:=h c cs;exact ⟨v,w',r,stepsIn_wide.2 s⟩
theorem oper_in {n l:Nat} {P:Program} {o:Oper} {a:Act} {w:World} {K:Act→World→Prop} {Q:Exit→Act→World→Prop} (hd:∀ c,o.op≠.defer c) (h:o.wp P a w K Q):o.wpIn (Fence.wide.inRound l) n P a w K Q:=by
 unfold Oper.wpIn
 refine ⟨fun _ _=>trivial,?_⟩;rw [Oper.semAt_plain _ _ _ hd]
 unfold Oper.wp at h
 generalize (execOp a.eval o).run P w=r at h ⊢
 cases r with
 | ok x w'=>
  cases x with
  | enter f args=>exact ⟨(fun hh=>by cases hh),(callsIn_wide.2 h).inRound l⟩
  | row row args=>exact ⟨(fun hh=>by cases hh),rows_in h⟩
  | round=>exact h.elim
  | _=>exact h
 | halt x w'=>cases x <;> exact h
section
variable {P:Program} {ops:Array Oper} {Q:Exit→Act→World→Prop} {md:Region.Mode} {l n:Nat}
variable {Sl:Nat→Value→World→Prop} {Inv:World→Prop} {G:World→World→Prop} {a0:Act}
end
end Flow
end Go.Proofs.YtlijbgapkmfnaaaGreat
namespace Go.Proofs.YtlijbgapkmfnaaaGreat
open Go.RowKit Go.Maps Go.Shelf
attribute [local go_sem] Oper.semAt_some
abbrev CX:Type:=Nat × Option Addr × Nat
def encC (x:CX):Array Value:=#[.slice x.2.1 x.2.2 x.2.2]
def chN (m:Nat):Nat:=(m+231) / 232
def ChG (q:Option Addr) (m c:Nat) (pre:List CX) (x:CX) (_:World):Prop:=x.1=pre.length∧232*x.1 < m∧x.2.2=min 232 (m - 232*x.1)∧CutOf q m c (232*x.1) (232*x.1+x.2.2) x.2.2 x.2.1
theorem chunk_any (q:Option Addr) (m c:Nat) (w:World):Calls Tryz.prog 80 #[.slice q m c,.int .i64 232] w fun e w'=>e=.returned (.func (.func 97) #[] #[.pointer (some ⟨w.heap.size,0,none⟩),.pointer (some ⟨w.heap.size+1,0,none⟩)])∧Blk w' w.heap.size TBs #[.slice q m c]∧Blk w' (w.heap.size+1) TI #[.int .i64 232]∧Gr w w'∧w.heap.size+1 < w'.heap.size:=by
 have h1:=Blk.new w TBs #[.slice q m c];have h2:=Blk.new (w.alloc (.cells #[.slice q m c] TBs)) TI #[.int .i64 232]
 simp only [World.size_alloc] at h2
 have H1:=Lib.hid (h1.alloc (.cells #[.int .i64 232] TI));have H2:=Lib.hid h2;have HG:=Lib.hid (Gr.trans (Gr.new w (.cells #[.slice q m c] TBs)) (Gr.new _ (.cells #[.int .i64 232] TI)));have c1:=h2.cell 0
 simp at c1
 clear h1 h2
 go_enter Tryz.func80,Tryz.ntmps80
 go_wp2_with fail
 go_ret
 exact ⟨rfl,H1.out,H2.out,HG.out,by simp⟩
set_option maxRecDepth 100000 in
set_option maxHeartbeats 2000000 in
theorem chunk1_told (n:Nat) (hn:2≤n) (Bs Bn:Nat) (q:Option Addr) (m c:Nat) (w:World) (hs:Blk w Bs TBs #[.slice q m c]) (hb:Blk w Bn TI #[.int .i64 232]) (hc:m≤c) (hm:m≤1000000) :
  SeqTold Fence.wide n Tryz.prog 97 #[.pointer (some ⟨Bs,0,none⟩),.pointer (some ⟨Bn,0,none⟩)] encC (ChG q m c) (fun k=>k=Bs∨k=Bn) (fun ys=>ys.length=chN m) (fun _=>True) w:=fun l J Jx W hW hJ hJx hY h0=>by
 have h1:1≤n:=by omega
 have HJ:=Lib.hid hJ;have HY:=Lib.hid hY;have H0:=Lib.hid h0;have HS:=Lib.hid (hs.gr hW);have HN:=Lib.hid (hb.gr hW);clear hW hJ hJx hY h0 hs hb;refine callsIn_of_wp Tryz.func97 rfl trivial ?_ rfl
 simp only [Tryz.ntmps97,List.size_toArray,List.length_cons,List.length_nil,Nat.reduceAdd,Nat.reduceSub,Array.replicate_succ,Array.replicate_zero,List.push_toArray,List.append_toArray,List.nil_append,List.cons_append]
 gi_wp2_with fail
 gi_loopw [4] (fun iv wr=>∃ (pre:List CX) (i:Nat),iv=.int .i64 (i:Int)∧i < m+232∧Hid (i=232*pre.length)∧Hid (J pre wr∧Blk wr Bs TBs #[.slice q m c]∧Blk wr Bn TI #[.int .i64 232]∧W.heap.size≤wr.heap.size)) (fun iv _=>m+232 - (intOf iv).toNat)
 case atStart=>exact ⟨[],0,rfl,by omega,Lib.hid rfl,Lib.hid ⟨H0.out,HS.out,HN.out,Nat.le_refl _⟩⟩
 case round=>
  obtain ⟨pre,i,rfl,hp,HI,hh⟩:=hrel;have c1:=hh.out.2.1.cell 0;have c2:=hh.out.2.2.1.cell 0
  simp at c1 c2
  by_cases hlt:i < m
  ·
   have hlt2:(i:Int) < (m:Int):=by omega
   obtain ⟨q1,hcut1,_⟩:=cut_l (p:=q) (n:=m) (c:=c) i (by omega) hc;obtain ⟨K,hK⟩:∃ K,K=min 232 (m - i):=⟨_,rfl⟩
   have hmin:min (232:Int) ((m - i:Nat):Int)=(K:Int):=by omega
   obtain ⟨E,hE⟩:∃ E,E=i+K:=⟨_,rfl⟩;obtain ⟨q2,hcut2,hof2⟩:=cut_lhm (p:=q) (n:=m) (c:=c) i E E (by omega) (by omega) (Nat.le_refl _) (by omega)
   have hEK:E - i=K:=by omega
   rw [hEK] at hcut2 hof2
   have hw1:IntKind.i64.wrap ((i:Int)+(K:Int))=(E:Int):=by rw [IntWalk.i64_in _ (by omega)];omega
   have hi0:(0:Int)≤(i:Int):=by omega
   have hi2:(i:Int)≤(m:Int):=by omega
   have hE2:(E:Int)≤(c:Int):=by omega
   have hiE:(i:Int)≤(E:Int):=by omega
   have hx:∃ x:CX,x=(pre.length,q2,K):=⟨_,rfl⟩;obtain ⟨x,hx⟩:=hx
   have HG:Hid (∀ V,ChG q m c pre x V):=Lib.hid fun V=>by
    rw [hx];have h3:=HI.out;refine ⟨rfl,by show 232*pre.length < m;omega,by show K=min 232 (m - 232*pre.length);rw [← h3];exact hK,?_⟩
    show CutOf q m c (232*pre.length) (232*pre.length+K) K q2
    rw [← h3,← hE];exact hof2
   have HX:=Lib.hid hx;have HK:Hid (E=i+K∧(K=232∨K=m - i)∧K≤232∧0 < K):=Lib.hid ⟨hE,by omega,by omega,by omega⟩;clear hK hE hEK hof2 hx
   gi_wp2_with fail
   refine wpIn_wide.2 ?_
   go_quiet (fail)
   have gd:Gr wr (wr.drewN nq):=below_drewN (Gr.refl wr) nq;have HV:Hid (J pre (wr.drewN nq)∧Blk (wr.drewN nq) Bs TBs #[.slice q m c]∧Blk (wr.drewN nq) Bn TI #[.int .i64 232]∧W.heap.size≤(wr.drewN nq).heap.size):=Lib.hid ⟨HJ.out pre _ _ none hh.out.1 gd.gnone (fun r e=>by cases e),hh.out.2.1.gr gd,hh.out.2.2.1.gr gd,Nat.le_trans hh.out.2.2.2 gd.size⟩;obtain ⟨V,hV⟩:∃ V,V=wr.drewN nq:=⟨_,rfl⟩
   rw [← hV] at HV ⊢
   clear hV gd hh c1 c2 hcut1 hmin;have c1:=HV.out.2.1.cell 0;have c2:=HV.out.2.2.1.cell 0
   simp at c1 c2
   obtain ⟨fn,tmps,assign,body,hyl,hR⟩:=HY.out pre x V HV.out.1 (HG.out V)
   rw [HX.out] at hyl
   dsimp only [encC] at hyl
   have HR:=Lib.hid hR;clear hR
   gi_wp2_with fail
   refine HR.out.mono ?_;rintro e2 V' (⟨rfl,hj2,hk⟩ | ⟨rfl,hx2⟩)
   ·
    have HV2:Hid (J (pre++[x]) V'∧Blk V' Bs TBs #[.slice q m c]∧Blk V' Bn TI #[.int .i64 232]∧W.heap.size≤V'.heap.size):=Lib.hid ⟨hj2,hk.same Bs _ (.inl rfl) HV.out.2.1 rfl,hk.same Bn _ (.inr rfl) HV.out.2.2.1 rfl,Nat.le_trans HV.out.2.2.2 hk.size⟩;have c1':=HV2.out.2.1.cell 0;have c2':=HV2.out.2.2.1.cell 0
    simp at c1' c2'
    have hw3:IntKind.i64.wrap ((i:Int)+232)=(i:Int)+232:=IntWalk.i64_in _ (by omega);clear hk hj2 hyl HR c1 c2
    gi_wp2_with fail
    go_roundw
    case rel=>exact ⟨pre++[x],i+232,by go_num,by omega,Lib.hid (by have:=HI.out;simp;omega),HV2⟩
    case measure=>simp [intOf];omega
   ·
    clear hyl HR
    gi_wp2_with fail
    exact bodyPost_ret (results_none rfl _ _ _) rfl ⟨⟨_,rfl⟩,.inr ⟨pre++[x],trivial,hx2⟩⟩
  ·
   have hge:¬ (i:Int) < (m:Int):=by omega
   gi_wp2_with fail
   exact bodyPost_end (results_none rfl _ _ _) rfl ⟨⟨_,rfl⟩,.inl ⟨pre,by have:=HI.out;unfold chN;omega,hh.out.1⟩⟩
end Go.Proofs.YtlijbgapkmfnaaaGreat
namespace Go.Proofs.YtlijbgapkmfnaaaGreat
open Go.RowKit
theorem hold_grown {W W':World} {row:Option Nat} (g:W.grownBy W' row) (hr:∀ r,row=some r→∃ o:Obj,W.heap[r]?=some o∧o.isCells=false):HoldS Obj.isCells (fun _=>True) W W':=
 ⟨g.size,fun k o _ hk hc=>(g.block k (Array.getElem?_eq_some_iff.1 hk).1 (fun e=>by
  obtain ⟨o2,h1,h2⟩:=hr k e.symm
  rw [hk] at h1
  cases h1
  rw [hc] at h2
  cases h2)).trans hk⟩
theorem Blk.held {W W':World} {g:Nat} {t:TypeId} {cs:Array Value} (h:Blk W g t cs) (k:HoldS Obj.isCells (fun _=>True) W W'):Blk W' g t cs:=k.same g _ trivial h rfl
theorem results_cell_one {fn:Func} {p:Tmp} {ty:TypeId} (h:fn.results=#[.cell p ty]) (ha:∀ w,(isAgg ty).run Tryz.prog w=.ok false w) (tmps:Array Value) (w:World) (a:Addr) (v:Value) (hp:tmps.getD p undef=.pointer (some a)) (hc:w.cell? a=some v):(results fn tmps).run Tryz.prog w=.ok v w:=by
 simp only [results,h]
 simp [-Array.getD_eq_getD_getElem?,Sem.run_bind,Result.andThen,hp,asAddr,loadVar,ha,hc]
end Go.Proofs.YtlijbgapkmfnaaaGreat
