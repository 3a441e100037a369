/-
  Texts, put together: Wal7 Do1 Do2 Wal8 Wal9.
-/
import Derived.Test.YtdmhemgepdknhaaGreatV1
import Derived.Test.YtdmhemgepdknhaaGreatV8
import Derived.Test.YtdmhemgepdknhaaGreatV17
set_option linter.unusedVariables false
set_option linter.unusedSimpArgs false
namespace Go.Proofs.YtdmhemgepdknhaaGreat
open Go.RowKit Go.Maps
def InC (z:Nat) (w0:World) (Fin:World→Prop) (l:Nat→Bool) (W:World):Prop:=(l z=false→Gr w0 W)∧(l z=true→Fin W)
theorem InC.pre {z:Nat} {w0 W:World} {Fin:World→Prop} {l:Nat→Bool} (h:InC z w0 Fin l W) (hl:l z=false):Gr w0 W:=h.1 hl
theorem InC.post {z:Nat} {w0 W:World} {Fin:World→Prop} {l:Nat→Bool} (h:InC z w0 Fin l W) (hl:l z=true):Fin W:=h.2 hl
theorem InC.other {z:Nat} {w0 W:World} {Fin:World→Prop} {l:Nat→Bool} (h:InC z w0 Fin l W) (i:Nat) (hi:z≠i):InC z w0 Fin (Flow.upd l i) W:=by
 unfold InC;rw [Flow.upd_other l hi];exact h
theorem InC.grow {z:Nat} {w0 W W':World} {Fin:World→Prop} {l:Nat→Bool} (h:InC z w0 Fin l W) (hl:l z=false) (g:Gr W W') (i:Nat) (hi:z≠i):InC z w0 Fin (Flow.upd l i) W':=by
 unfold InC;rw [Flow.upd_other l hi];exact ⟨fun _=>Gr.trans (h.1 hl) g,fun e=>by rw [hl] at e;cases e⟩
theorem InC.fin {z:Nat} {w0 W':World} {Fin:World→Prop} {l:Nat→Bool} (h:Fin W'):InC z w0 Fin (Flow.upd l z) W':=by
 unfold InC;rw [Flow.upd_same];exact ⟨(fun e=>by cases e),fun _=>h⟩
theorem InC.start {z:Nat} {w0 W:World} {Fin:World→Prop} {l:Nat→Bool} (h:l z=false) (g:Gr w0 W):InC z w0 Fin l W:=⟨fun _=>g,fun e=>by rw [h] at e;cases e⟩
def SlAp (b:Nat) (k:Int) (t:Nat) (p:Nat) (x:Nat) (g:Int) (o:Int) (pb:Option Addr) (nb:Nat) (cb:Nat) (pa:Option Addr) (na:Nat) (ca:Nat) (A:Nat) (E:Int) (F:Int) (slot:Nat) (v:Value) (_:World):Prop:=
 match slot with
 | 4=>v=.int .u64 (A:Int)
 | 5=>v=.int .i64 E
 | 8=>v=.pointer (some ⟨b,0,none⟩)
 | 9=>v=.agg #[.int .i64 k,.int .u64 t,.int .u64 p,.int .u64 x,.int .i64 g,.int .i64 o,.slice pb nb cb,.slice pa na ca]
 | 10=>v=.pointer (some ⟨b,0,none⟩)
 | 11=>v=.int .i64 F
 | 12=>v=.tuple #[.int .u64 (A:Int),.int .i64 E]
 | 13=>v=.int .u64 (A:Int)
 | 14=>v=.int .i64 E
 | _=>True
set_option maxRecDepth 100000 in
set_option maxHeartbeats 1000000 in
theorem append_core (b d:Nat) (k:Int) (t p x:Nat) (g o:Int) (pb:Option Addr) (nb cb:Nat) (pa:Option Addr) (na ca:Nat) (A:Nat) (E F:Int) (Fin:World→Prop) (w:World) (hm:Hid (∀ W,Gr w W→Calls Tryz.prog 50 #[.pointer (some ⟨b,0,none⟩)] W fun e w'=>e=.returned (.bool false)∧W=w'))
  (HFr:Hid (∀ W,Gr w W→Calls Tryz.prog 73 #[.pointer (some ⟨b,0,none⟩)] W fun e w'=>e=.returned (.int .i64 F)∧Gr W w'))
  (HLY:Hid (∀ W,Gr w W→Calls Tryz.prog 72 #[.pointer (some ⟨b,0,none⟩),.agg #[.int .i64 k,.int .u64 t,.int .u64 p,.int .u64 x,.int .i64 g,.int .i64 o,.slice pb nb cb,.slice pa na ca],.int .i64 F] W fun e w'=>e=.returned (.tuple #[.int .u64 (A:Int),.int .i64 E])∧Fin w')) :
  Calls Tryz.prog 43 #[.pointer (some ⟨b,0,none⟩),.agg #[.int .i64 k,.int .u64 t,.int .u64 p,.int .u64 x,.int .i64 g,.int .i64 o,.slice pb nb cb,.slice pa na ca]] w fun e w'=>e=.returned (.tuple #[.int .u64 (A:Int),.int .i64 E])∧Fin w':=by
 obtain ⟨W1,hW1⟩:∃ W1,W1=w.alloc (.cells #[.int .i64 k,.int .u64 t,.int .u64 p,.int .u64 x,.int .i64 g,.int .i64 o,.slice pb nb cb,.slice pa na ca] TR):=⟨_,rfl⟩;have HB1:Hid (Blk W1 w.heap.size TR #[.int .i64 k,.int .u64 t,.int .u64 p,.int .u64 x,.int .i64 g,.int .i64 o,.slice pb nb cb,.slice pa na ca]∧Gr w W1):=Lib.hid (by rw [hW1];exact ⟨Blk.new _ _ _,Gr.new _ _⟩);have hW1':w.alloc (.cells #[.int .i64 k,.int .u64 t,.int .u64 p,.int .u64 x,.int .i64 g,.int .i64 o,.slice pb nb cb,.slice pa na ca] 100)=W1:=hW1.symm;have HW1:=Lib.hid hW1';have HLY':=Lib.hid (fun W (gr:Gr W1 W)=>HLY.out W (Gr.trans HB1.out.2 gr));have HFr':=Lib.hid (fun W (gr:Gr W1 W)=>HFr.out W (Gr.trans HB1.out.2 gr));have HM:=Lib.hid (hm.out W1 HB1.out.2);clear hW1 hW1' HLY HFr hm;have HLY:=HLY';have HFr:=HFr';clear HLY' HFr'
 go_enter Tryz.func43,Tryz.ntmps43
 go_wp2_with fail;rw [HW1.out];refine HM.out.mono ?_;rintro e W2 ⟨rfl,rfl⟩;go_wp2_with fail;refine Flow.regionS [4,5] 20 (SlAp b k t p x g o pb nb cb pa na ca A E F) (InC 4 W1 (Fin)) (fun _ _ _=>True) (by kernel_rfl) (by kernel_rfl) (fun _ _ _ _ _ _ h _=>h) (InC.start (by rfl) (Gr.refl _).drew) ?steps ?fin
 case steps=>
  refine .cons (fun l a W hfr hun hup hdn hinv hdep K hK=>?_) ?_
  · have t0:=tAt (.pointer (some ⟨b,0,none⟩)) (hfr.at 0 (by kernel_rfl));refine fW0 rfl ?_;clear hfr hdep hdn;go_simp;exact hK _ _ True.intro (hinv.other 0 (by decide)) (dsT (by trivial))
  refine .cons (fun l a W hfr hun hup hdn hinv hdep K hK=>?_) ?_
  · have t3:=tAt (.pointer (some ⟨w.heap.size,0,none⟩)) (hfr.at 3 (by kernel_rfl));refine fW0 rfl ?_;clear hfr hdep hdn;have hlz:l 4=false:=hup 4 (by decide) (by kernel_rfl);have hin:=hinv.pre hlz;obtain ⟨c0,c1,c2,c3,c4,c5,c6,c7⟩:=(HB1.out.1.gr hin).c8;go_simp;exact hK _ _ True.intro (hinv.other 1 (by decide)) (dsT (by trivial))
  refine .cons (fun l a W hfr hun hup hdn hinv hdep K hK=>?_) ?_
  · have t0:=tAt (.pointer (some ⟨b,0,none⟩)) (hfr.at 0 (by kernel_rfl));refine fW0 rfl ?_;clear hfr hdep hdn;go_simp;exact hK _ _ True.intro (hinv.other 2 (by decide)) (dsT (by trivial))
  refine .cons (fun l a W hfr hun hup hdn hinv hdep K hK=>?_) ?_
  · have t10:=tAt (.pointer (some ⟨b,0,none⟩)) (hdep 10 (by kernel_rfl));refine fW0 rfl ?_;clear hfr hdep hdn;have hlz:l 4=false:=hup 4 (by decide) (by kernel_rfl);have hin:=hinv.pre hlz;go_simp;refine (HFr.out W hin).mono ?_;rintro e W' ⟨rfl,g1⟩;exact hK _ _ True.intro (hinv.grow hlz g1 3 (by decide)) (dsT (by trivial))
  refine .cons (fun l a W hfr hun hup hdn hinv hdep K hK=>?_) ?_
  · have t8:=tAt (.pointer (some ⟨b,0,none⟩)) (hdep 8 (by kernel_rfl));have t9:=tAt (.agg #[.int .i64 k,.int .u64 t,.int .u64 p,.int .u64 x,.int .i64 g,.int .i64 o,.slice pb nb cb,.slice pa na ca]) (hdep 9 (by kernel_rfl));have t11:=tAt (.int .i64 F) (hdep 11 (by kernel_rfl));refine fW0 rfl ?_;clear hfr hdep hdn;have hin:=hinv.pre hun;go_simp;refine (HLY.out W hin).mono ?_;rintro e W' ⟨rfl,h1⟩;exact hK _ _ True.intro (InC.fin h1) (dsT (by trivial))
  refine .cons (fun l a W hfr hun hup hdn hinv hdep K hK=>?_) ?_
  · have t12:=tAt (.tuple #[.int .u64 (A:Int),.int .i64 E]) (hdep 12 (by kernel_rfl));refine fW0 rfl ?_;clear hfr hdep hdn;go_simp;exact hK _ _ True.intro (hinv.other 5 (by decide)) (dsT (by trivial))
  refine .cons (fun l a W hfr hun hup hdn hinv hdep K hK=>?_) ?_
  · have t12:=tAt (.tuple #[.int .u64 (A:Int),.int .i64 E]) (hdep 12 (by kernel_rfl));refine fW0 rfl ?_;clear hfr hdep hdn;go_simp;exact hK _ _ True.intro (hinv.other 6 (by decide)) (dsT (by trivial))
  refine .cons (fun l a W hfr hun hup hdn hinv hdep K hK=>?_) ?_
  · have t13:=tAt (.int .u64 (A:Int)) (hdep 13 (by kernel_rfl));refine fW0 rfl ?_;clear hfr hdep hdn;go_simp;exact hK _ _ True.intro (hinv.other 7 (by decide)) (dsT (by trivial))
  refine .cons (fun l a W hfr hun hup hdn hinv hdep K hK=>?_) ?_
  · have t14:=tAt (.int .i64 E) (hdep 14 (by kernel_rfl));refine fW0 rfl ?_;clear hfr hdep hdn;go_simp;exact hK _ _ True.intro (hinv.other 8 (by decide)) (dsT (by trivial))
  exact True.intro
 case fin=>
  intro a W l hfr hall hinv hsl
  have s4:a.tmps.getD 4 undef=.int .u64 (A:Int):=hsl 7 _ 4 rfl rfl (by simp);have t4:=tmpAt s4;have s5:a.tmps.getD 5 undef=.int .i64 E:=hsl 8 _ 5 rfl rfl (by simp);have t5:=tmpAt s5;have hfin:=hinv.post (hall 4 (by decide));have e:=Flow.frame hfr [8,9,10,11,12,13,14,4,5] (List.range 15) (by kernel_rfl) (by kernel_rfl)
  simp [List.range,List.range.loop] at e
  rw [t4,t5] at e
  rw [e];have HFin:=Lib.hid hfin;clear e hfr hsl hall hinv hfin s4 t4 s5 t5
  first
   | (rename_i hB;refine hB _ _ ?_)
   | (rename_i hB y0;refine hB _ _ ?_)
   | (rename_i hB y0 y1;refine hB _ _ ?_)
   | (rename_i hB y0 y1 y2;refine hB _ _ ?_)
   | (rename_i hB y0 y1 y2 y3;refine hB _ _ ?_)
   | (rename_i hB y0 y1 y2 y3 y4;refine hB _ _ ?_)
   | (rename_i hB y0 y1 y2 y3 y4 y5;refine hB _ _ ?_)
   | (rename_i hB y0 y1 y2 y3 y4 y5 y6;refine hB _ _ ?_)
   | (rename_i hB y0 y1 y2 y3 y4 y5 y6 y7;refine hB _ _ ?_)
   | (rename_i hB y0 y1 y2 y3 y4 y5 y6 y7 y8;refine hB _ _ ?_)
   | skip
  go_wp2_with fail;exact bodyPost_ret_by (P:=Tryz.prog) (v:=.tuple #[.int .u64 (A:Int),.int .i64 E]) (by simp [results,Tryz.results43]) rfl ⟨rfl,HFin.out⟩
end Go.Proofs.YtdmhemgepdknhaaGreat
namespace Go.Proofs.YtdmhemgepdknhaaGreat
open Go.RowKit Go.Maps
theorem Upd.more {F F':Nat→Prop} {w w1 w2:World} (u:Upd F F' w w1) (g:Gr w1 w2):Upd F F' w w2:=u.trans (Upd.of_gr g)
end Go.Proofs.YtdmhemgepdknhaaGreat
namespace Go.Proofs.YtdmhemgepdknhaaGreat
open Go.RowKit Go.Maps
def BaS (s:St):St:=if s.dead then s else s.barrier
def BaE (s:St):Int:=if s.dead then 8 else 0
theorem Barrier_all {F:Nat→Prop} {p:Value} {s:St} (w:World) (h:Dk w F p s) (hw:s.writes≤1000000000):Calls Tryz.prog 49 #[p] w fun e w'=>Chg F p (BaS s) (.int .i64 (BaE s)) w e w':=by
 unfold BaS BaE
 by_cases hd:s.dead=true
 · rw [if_pos hd,if_pos hd];refine (Barrier_dead w h hd).mono ?_;rintro e w' ⟨rfl,rfl⟩;exact ⟨F,rfl,h,Upd.same _⟩
 · rw [if_neg hd,if_neg hd];exact Barrier_yes w h hw (by simpa using hd)
end Go.Proofs.YtdmhemgepdknhaaGreat
namespace Go.Proofs.YtdmhemgepdknhaaGreat
open Go.RowKit Go.Maps
def putD (s:St) (i:Nat) (x:Sec):St:=if s.refuses then { s with dead:=true } else s.wrote i x
def putDE (s:St):Int:=if s.refuses then 8 else 0
theorem WriteX_any {F:Nat→Prop} {p:Value} {s:St} (w:World) (h:Dk w F p s) (i:Nat) (hi:i < s.ls.length) (x:Sec) (hw:s.writes≤1000000000):Calls Tryz.prog 77 #[p,.int .i64 (i:Int),.agg (sec x)] w fun e w'=>Chg F p (putD s i x) (.int .i64 (putDE s)) w e w':=by
 unfold putD putDE
 by_cases hr:s.refuses
 · rw [if_pos hr,if_pos hr];refine (Write_dead w h i hi x hr).mono ?_;rintro e w' ⟨rfl,hd,hu⟩;exact ⟨F,rfl,hd,hu⟩
 · rw [if_neg hr,if_neg hr];exact Write_yes w h i hi x hr hw
def SlWr (b:Nat) (p:Value) (k:Nat) (ep:Nat) (q1:Option Addr) (m1:Nat) (c1:Nat) (I:Nat) (S:Sec) (E:Int) (slot:Nat) (v:Value) (_:World):Prop:=
 match slot with
 | 6=>v=.int .i64 E
 | 7=>v=.pointer (some ⟨b,0,none⟩)
 | 8=>v=.pointer (some ⟨b,0,none⟩)
 | 9=>v=.pointer (some ⟨b,0,none⟩)
 | 10=>v=p
 | 11=>v=.pointer (some ⟨b,0,none⟩)
 | 12=>v=.int .u64 (k:Int)
 | 13=>v=.int .i64 (I:Int)
 | 14=>v=.int .u64 (k:Int)
 | 15=>v=.pointer (some ⟨b,0,none⟩)
 | 16=>v=.pointer (some ⟨b,0,none⟩)
 | 17=>v=.pointer (some ⟨b,4,none⟩)
 | 18=>v=.int .u64 (ep:Int)
 | 19=>v=.slice q1 m1 c1
 | 20=>v=.agg #[.int .u64 (k:Int),.int .u64 (ep:Int),.slice q1 m1 c1]
 | 21=>v=.agg (sec S)
 | 22=>v=.int .i64 E
 | _=>True
set_option maxRecDepth 100000 in
set_option maxHeartbeats 1000000 in
theorem wwrite_core (D b:Nat) (p:Value) (n:Int) (l:Int) (g:Int) (ep:Nat) (tl:Nat) (la:Nat) (q:Option Addr) (m:Nat) (c:Nat) (rs:Int) (bg:Bool) (k:Nat) (q1:Option Addr) (m1 c1:Nat) (ys:List Int) (I:Nat) (S:Sec) (E:Int) (Fin:World→Prop) (w:World) (h:Blk w b TLg #[p,.int .i64 n,.int .i64 l,.int .i64 g,.int .u64 ep,.int .u64 tl,.int .u64 la,.slice q m c,.int .i64 rs,.bool bg]) (hp:p=.pointer (some ⟨D,0,none⟩)) (hm:mayL n l g=true) (hk:k≤18446744073709551615) (he:ep≤18446744073709551615)
  (hy:Byt w q1 m1 c1 ys) (h1:m1≤232) (hI:I=3+k % l.toNat) (hS:S=Sx (secL k ep ys))
  (HWr:Hid (∀ W,Gr w W→Calls Tryz.prog 77 #[p,.int .i64 (I:Int),.agg (sec S)] W fun e w'=>e=.returned (.int .i64 E)∧Fin w')) :
  Calls Tryz.prog 104 #[.pointer (some ⟨b,0,none⟩),.int .u64 (k:Int),.slice q1 m1 c1] w fun e w'=>e=.returned (.int .i64 E)∧Fin w':=by
 have HB:=Lib.hid h
 have HP:Hid (∀ W,Gr w W→Calls Tryz.prog 100 #[.pointer (some ⟨b,0,none⟩),.int .u64 (k:Int)] W fun e w'=>e=.returned (.int .i64 (I:Int))∧Gr W w'):=Lib.hid fun W gr=>by
  rw [hI];exact wplace_any b p n l g ep tl la q m c rs bg k W (h.gr gr) hm hk
 have HS:Hid (∀ W,Gr w W→Calls Tryz.prog 131 #[.agg #[.int .u64 (k:Int),.int .u64 (ep:Int),.slice q1 m1 c1]] W fun e w'=>e=.returned (.agg (sec S))∧Gr W w'):=Lib.hid fun W gr=>by
  rw [hS];exact psector_any k ep q1 m1 c1 ys W hk he (hy.kept gr) h1
 clear h hy hm hI hS hp
 go_enter Tryz.func104,Tryz.ntmps104
 go_wp2_with fail;refine Flow.regionS [6] 20 (SlWr b p k ep q1 m1 c1 I S E) (InC 15 w (Fin)) (fun _ _ _=>True) (by kernel_rfl) (by kernel_rfl) (fun _ _ _ _ _ _ h _=>h) (InC.start (by rfl) (Gr.refl _).drew) ?steps ?fin
 case steps=>
  refine .cons (fun l a W hfr hun hup hdn hinv hdep K hK=>?_) ?_
  · have t0:=tAt (.pointer (some ⟨b,0,none⟩)) (hfr.at 0 (by kernel_rfl));refine fW0 rfl ?_;clear hfr hdep hdn;go_simp;exact hK _ _ True.intro (hinv.other 0 (by decide)) (dsT (by trivial))
  refine .cons (fun l a W hfr hun hup hdn hinv hdep K hK=>?_) ?_
  · have t7:=tAt (.pointer (some ⟨b,0,none⟩)) (hdep 7 (by kernel_rfl));refine fW0 rfl ?_;clear hfr hdep hdn;go_simp;exact hK _ _ True.intro (hinv.other 1 (by decide)) (dsT (by trivial))
  refine .cons (fun l a W hfr hun hup hdn hinv hdep K hK=>?_) ?_
  · have t8:=tAt (.pointer (some ⟨b,0,none⟩)) (hdep 8 (by kernel_rfl));refine fW0 rfl ?_;clear hfr hdep hdn;go_simp;exact hK _ _ True.intro (hinv.other 2 (by decide)) (dsT (by trivial))
  refine .cons (fun l a W hfr hun hup hdn hinv hdep K hK=>?_) ?_
  · have t9:=tAt (.pointer (some ⟨b,0,none⟩)) (hdep 9 (by kernel_rfl));refine fW0 rfl ?_;clear hfr hdep hdn;have hlz:l 15=false:=hup 15 (by decide) (by kernel_rfl);have hin:=hinv.pre hlz;obtain ⟨c0,c1,c2,c3,c4,c5,c6,c7,c8,c9⟩:=(HB.out.gr hin).c10;go_simp;exact hK _ _ True.intro (hinv.other 3 (by decide)) (dsT (by trivial))
  refine .cons (fun l a W hfr hun hup hdn hinv hdep K hK=>?_) ?_
  · have t0:=tAt (.pointer (some ⟨b,0,none⟩)) (hfr.at 0 (by kernel_rfl));refine fW0 rfl ?_;clear hfr hdep hdn;go_simp;exact hK _ _ True.intro (hinv.other 4 (by decide)) (dsT (by trivial))
  refine .cons (fun l a W hfr hun hup hdn hinv hdep K hK=>?_) ?_
  · have t1:=tAt (.int .u64 (k:Int)) (hfr.at 1 (by kernel_rfl));refine fW0 rfl ?_;clear hfr hdep hdn;go_simp;exact hK _ _ True.intro (hinv.other 5 (by decide)) (dsT (by trivial))
  refine .cons (fun l a W hfr hun hup hdn hinv hdep K hK=>?_) ?_
  · have t11:=tAt (.pointer (some ⟨b,0,none⟩)) (hdep 11 (by kernel_rfl));have t12:=tAt (.int .u64 (k:Int)) (hdep 12 (by kernel_rfl));refine fW0 rfl ?_;clear hfr hdep hdn;have hlz:l 15=false:=hup 15 (by decide) (by kernel_rfl);have hin:=hinv.pre hlz;go_simp;refine (HP.out W hin).mono ?_;rintro e W' ⟨rfl,g1⟩;exact hK _ _ True.intro (hinv.grow hlz g1 6 (by decide)) (dsT (by trivial))
  refine .cons (fun l a W hfr hun hup hdn hinv hdep K hK=>?_) ?_
  · have t1:=tAt (.int .u64 (k:Int)) (hfr.at 1 (by kernel_rfl));refine fW0 rfl ?_;clear hfr hdep hdn;go_simp;exact hK _ _ True.intro (hinv.other 7 (by decide)) (dsT (by trivial))
  refine .cons (fun l a W hfr hun hup hdn hinv hdep K hK=>?_) ?_
  · have t0:=tAt (.pointer (some ⟨b,0,none⟩)) (hfr.at 0 (by kernel_rfl));refine fW0 rfl ?_;clear hfr hdep hdn;go_simp;exact hK _ _ True.intro (hinv.other 8 (by decide)) (dsT (by trivial))
  refine .cons (fun l a W hfr hun hup hdn hinv hdep K hK=>?_) ?_
  · have t15:=tAt (.pointer (some ⟨b,0,none⟩)) (hdep 15 (by kernel_rfl));refine fW0 rfl ?_;clear hfr hdep hdn;go_simp;exact hK _ _ True.intro (hinv.other 9 (by decide)) (dsT (by trivial))
  refine .cons (fun l a W hfr hun hup hdn hinv hdep K hK=>?_) ?_
  · have t16:=tAt (.pointer (some ⟨b,0,none⟩)) (hdep 16 (by kernel_rfl));refine fW0 rfl ?_;clear hfr hdep hdn;go_simp;exact hK _ _ True.intro (hinv.other 10 (by decide)) (dsT (by trivial))
  refine .cons (fun l a W hfr hun hup hdn hinv hdep K hK=>?_) ?_
  · have t17:=tAt (.pointer (some ⟨b,4,none⟩)) (hdep 17 (by kernel_rfl));refine fW0 rfl ?_;clear hfr hdep hdn;have hlz:l 15=false:=hup 15 (by decide) (by kernel_rfl);have hin:=hinv.pre hlz;obtain ⟨c0,c1,c2,c3,c4,c5,c6,c7,c8,c9⟩:=(HB.out.gr hin).c10;go_simp;exact hK _ _ True.intro (hinv.other 11 (by decide)) (dsT (by trivial))
  refine .cons (fun l a W hfr hun hup hdn hinv hdep K hK=>?_) ?_
  · have t2:=tAt (.slice q1 m1 c1) (hfr.at 2 (by kernel_rfl));refine fW0 rfl ?_;clear hfr hdep hdn;go_simp;exact hK _ _ True.intro (hinv.other 12 (by decide)) (dsT (by trivial))
  refine .cons (fun l a W hfr hun hup hdn hinv hdep K hK=>?_) ?_
  · have t14:=tAt (.int .u64 (k:Int)) (hdep 14 (by kernel_rfl));have t18:=tAt (.int .u64 (ep:Int)) (hdep 18 (by kernel_rfl));have t19:=tAt (.slice q1 m1 c1) (hdep 19 (by kernel_rfl));refine fW0 rfl ?_;clear hfr hdep hdn;go_simp;exact hK _ _ True.intro (hinv.other 13 (by decide)) (dsT (by trivial))
  refine .cons (fun l a W hfr hun hup hdn hinv hdep K hK=>?_) ?_
  · have t20:=tAt (.agg #[.int .u64 (k:Int),.int .u64 (ep:Int),.slice q1 m1 c1]) (hdep 20 (by kernel_rfl));refine fW0 rfl ?_;clear hfr hdep hdn;have hlz:l 15=false:=hup 15 (by decide) (by kernel_rfl);have hin:=hinv.pre hlz;go_simp;refine (HS.out W hin).mono ?_;rintro e W' ⟨rfl,g1⟩;exact hK _ _ True.intro (hinv.grow hlz g1 14 (by decide)) (dsT (by trivial))
  refine .cons (fun l a W hfr hun hup hdn hinv hdep K hK=>?_) ?_
  · have t10:=tAt (p) (hdep 10 (by kernel_rfl));have t13:=tAt (.int .i64 (I:Int)) (hdep 13 (by kernel_rfl));have t21:=tAt (.agg (sec S)) (hdep 21 (by kernel_rfl));refine fW0 rfl ?_;clear hfr hdep hdn;have hin:=hinv.pre hun;go_simp;refine (HWr.out W hin).mono ?_;rintro e W' ⟨rfl,h1⟩;exact hK _ _ True.intro (InC.fin h1) (dsT (by trivial))
  refine .cons (fun l a W hfr hun hup hdn hinv hdep K hK=>?_) ?_
  · have t22:=tAt (.int .i64 E) (hdep 22 (by kernel_rfl));refine fW0 rfl ?_;clear hfr hdep hdn;go_simp;exact hK _ _ True.intro (hinv.other 16 (by decide)) (dsT (by trivial))
  exact True.intro
 case fin=>
  intro a W l hfr hall hinv hsl
  have s6:a.tmps.getD 6 undef=.int .i64 E:=hsl 16 _ 6 rfl rfl (by simp);have t6:=tmpAt s6;have hfin:=hinv.post (hall 15 (by decide));have e:=Flow.frame hfr [7,8,9,10,11,12,13,14,15,16,17,18,19,20,21,22,6] (List.range 23) (by kernel_rfl) (by kernel_rfl)
  simp [List.range,List.range.loop] at e
  rw [t6] at e
  rw [e];have HFin:=Lib.hid hfin;clear e hfr hsl hall hinv hfin s6 t6
  first
   | (rename_i hB;refine hB _ _ ?_)
   | (rename_i hB y0;refine hB _ _ ?_)
   | (rename_i hB y0 y1;refine hB _ _ ?_)
   | (rename_i hB y0 y1 y2;refine hB _ _ ?_)
   | (rename_i hB y0 y1 y2 y3;refine hB _ _ ?_)
   | (rename_i hB y0 y1 y2 y3 y4;refine hB _ _ ?_)
   | (rename_i hB y0 y1 y2 y3 y4 y5;refine hB _ _ ?_)
   | (rename_i hB y0 y1 y2 y3 y4 y5 y6;refine hB _ _ ?_)
   | (rename_i hB y0 y1 y2 y3 y4 y5 y6 y7;refine hB _ _ ?_)
   | (rename_i hB y0 y1 y2 y3 y4 y5 y6 y7 y8;refine hB _ _ ?_)
   | skip
  go_wp2_with fail
  go_ret
  exact ⟨rfl,HFin.out⟩
def DkFin (F:Nat→Prop) (p:Value) (s:St) (w:World) (W:World):Prop:=∃ F',Dk W F' p s∧Upd F F' w W
theorem place_lt {n l g:Int} (hm:mayL n l g=true) (k N:Nat) (hn:3+l≤N):3+k % l.toNat < N:=by
 have hin:=may_in hm;have:k % l.toNat < l.toNat:=Nat.mod_lt _ (by omega)
 omega
theorem wwrite_any {F:Nat→Prop} {s:St} (D b:Nat) (p:Value) (n:Int) (l:Int) (g:Int) (ep:Nat) (tl:Nat) (la:Nat) (q:Option Addr) (m:Nat) (c:Nat) (rs:Int) (bg:Bool) (k:Nat) (q1:Option Addr) (m1 c1:Nat) (ys:List Int) (w:World) (h:Blk w b TLg #[p,.int .i64 n,.int .i64 l,.int .i64 g,.int .u64 ep,.int .u64 tl,.int .u64 la,.slice q m c,.int .i64 rs,.bool bg]) (hp:p=.pointer (some ⟨D,0,none⟩)) (hd:Dk w F p s) (hm:mayL n l g=true) (hk:k≤18446744073709551615) (he:ep≤18446744073709551615)
  (hy:Byt w q1 m1 c1 ys) (h1:m1≤232) (hn:3+l≤s.ls.length) (hw:s.writes≤1000000000) :
  Calls Tryz.prog 104 #[.pointer (some ⟨b,0,none⟩),.int .u64 (k:Int),.slice q1 m1 c1] w fun e w'=>e=.returned (.int .i64 (putDE s))∧DkFin F p (putD s (3+k % l.toNat) (Sx (secL k ep ys))) w w':=
 wwrite_core D b p n l g ep tl la q m c rs bg k q1 m1 c1 ys _ _ _ _ w h hp hm hk he hy h1 rfl rfl (Lib.hid fun W gr=>by
  refine (WriteX_any W (hd.gr gr) _ (place_lt hm k _ hn) _ hw).mono ?_;rintro e w' ⟨F',rfl,hd',hu⟩
  exact ⟨rfl,F',hd',hu.pre gr⟩)
def Tight (w:World) (F:Nat→Prop) (mm:Nat):Prop:=∀ k,F k→k=mm∨∃ cs t fr,w.heap[k]?=some (.cells cs t fr)
def DkM (w:World) (F:Nat→Prop) (p:Value) (mm:Nat) (s:St):Prop:=(∃ b lv L,p=.pointer (some ⟨b,0,none⟩)∧DkAt w F b lv mm L s)∧Tight w F mm
theorem DkM.dk {w:World} {F:Nat→Prop} {p:Value} {mm:Nat} {s:St} (h:DkM w F p mm s):Dk w F p s:=by
 obtain ⟨⟨b,lv,L,e,h⟩,_⟩:=h;exact ⟨b,lv,mm,L,e,h⟩
theorem DkM.gr {w w':World} {F:Nat→Prop} {p:Value} {mm:Nat} {s:St} (h:DkM w F p mm s) (g:Gr w w'):DkM w' F p mm s:=by
 obtain ⟨⟨b,lv,L,e,h⟩,ht⟩:=h;exact ⟨⟨b,lv,L,e,h.gr g⟩,fun k hk=>(ht k hk).imp id fun ⟨cs,t,fr,hc⟩=>⟨cs,t,fr,(g.block k (h.low k hk)).trans hc⟩⟩
theorem DkM.stays {w w':World} {F:Nat→Prop} {p:Value} {mm:Nat} {s:St} (h:DkM w F p mm s) (e:∀ k,F k→w'.heap[k]?=w.heap[k]?) (hs:w.heap.size≤w'.heap.size):DkM w' F p mm s:=by
 obtain ⟨⟨b,lv,L,e1,h⟩,ht⟩:=h;exact ⟨⟨b,lv,L,e1,h.stays e hs⟩,fun k hk=>(ht k hk).imp id fun ⟨cs,t,fr,hc⟩=>⟨cs,t,fr,(e k hk).trans hc⟩⟩
theorem DkAt.tight {w:World} {F:Nat→Prop} {b:Nat} {lv:Value} {mm:Nat} {L:Nat→Value} {s:St} (h:DkAt w F b lv mm L s):∃ F1,(∀ k,F1 k→F k)∧DkM w F1 (.pointer (some ⟨b,0,none⟩)) mm s:=by
 refine ⟨fun k=>k=b∨k=mm∨lv.ownBlock=some k∨∃ i,(L i).ownBlock=some k,?_,⟨b,lv,L,rfl,⟨h.ok,h.blk,h.ls,h.map,h.rows,h.apart,h.apart0,.inl rfl,.inr (.inl rfl),fun g hg=>.inr (.inr (.inl hg)),fun i g hg=>.inr (.inr (.inr ⟨i,hg⟩)),?_⟩⟩,?_⟩
 ·
  rintro k (rfl | rfl | hk | ⟨i,hk⟩)
  · exact h.ownB
  · exact h.ownM
  · exact h.ownL k hk
  · exact h.ownR i k hk
 ·
  rintro k (rfl | rfl | hk | ⟨i,hk⟩)
  · exact h.blk.lt
  · exact h.map.lt
  · exact h.ls.lt k hk
  · exact (h.rows i).lt k hk
 ·
  rintro k (rfl | rfl | hk | ⟨i,hk⟩)
  · exact .inr ⟨_,_,_,h.blk⟩
  · exact .inl rfl
  · obtain ⟨cs,hc⟩:=h.ls.kind hk;exact .inr ⟨_,_,_,hc⟩
  · obtain ⟨cs,hc⟩:=(h.rows i).kind hk;exact .inr ⟨_,_,_,hc⟩
theorem Dk.tight {w:World} {F:Nat→Prop} {p:Value} {s:St} (h:Dk w F p s):∃ F1 mm,(∀ k,F1 k→F k)∧DkM w F1 p mm s:=by
 obtain ⟨b,lv,mm,L,rfl,h⟩:=h;obtain ⟨F1,h1,h2⟩:=h.tight;exact ⟨F1,mm,h1,h2⟩
theorem Upd.less {F F' F1:Nat→Prop} {w w':World} (h:Upd F F' w w') (hs:∀ k,F1 k→F' k):Upd F F1 w w':=⟨h.os,h.tape,h.output,h.size,h.block,fun k hk=>h.fresh k (hs k hk)⟩
theorem WriteM_any {F:Nat→Prop} {p:Value} {mm:Nat} {s:St} (w:World) (h:DkM w F p mm s) (i:Nat) (hi:i < s.ls.length) (x:Sec) (hw:s.writes≤1000000000):Calls Tryz.prog 77 #[p,.int .i64 (i:Int),.agg (sec x)] w fun e w'=>e=.returned (.int .i64 (putDE s))∧∃ F',DkM w' F' p mm (putD s i x)∧Upd F F' w w':=by
 obtain ⟨⟨b,lv,L,rfl,h⟩,ht⟩:=h
 unfold putD putDE
 by_cases hr:s.refuses
 · rw [if_pos hr,if_pos hr];refine (Write_deadM w h i hi x hr).mono ?_;rintro e w' ⟨rfl,hd,hu⟩;obtain ⟨F1,h1,h2⟩:=hd.tight;exact ⟨rfl,F1,h2,hu.less h1⟩
 · rw [if_neg hr,if_neg hr];refine (Write_yesM w h i hi x hr hw).mono ?_;rintro e w' ⟨F',L',rfl,hd,hu⟩;obtain ⟨F1,h1,h2⟩:=hd.tight;exact ⟨rfl,F1,h2,hu.less h1⟩
theorem wwrite_m {F:Nat→Prop} {s:St} (D b:Nat) (p:Value) (n:Int) (l:Int) (g:Int) (ep:Nat) (tl:Nat) (la:Nat) (q:Option Addr) (m:Nat) (c:Nat) (rs:Int) (bg:Bool) (mm:Nat) (k:Nat) (q1:Option Addr) (m1 c1:Nat) (ys:List Int) (w:World) (h:Blk w b TLg #[p,.int .i64 n,.int .i64 l,.int .i64 g,.int .u64 ep,.int .u64 tl,.int .u64 la,.slice q m c,.int .i64 rs,.bool bg]) (hp:p=.pointer (some ⟨D,0,none⟩)) (hd:DkM w F p mm s) (hm:mayL n l g=true) (hk:k≤18446744073709551615) (he:ep≤18446744073709551615)
  (hy:Byt w q1 m1 c1 ys) (h1:m1≤232) (hn:3+l≤s.ls.length) (hw:s.writes≤1000000000) :
  Calls Tryz.prog 104 #[.pointer (some ⟨b,0,none⟩),.int .u64 (k:Int),.slice q1 m1 c1] w fun e w'=>e=.returned (.int .i64 (putDE s))∧∃ F',DkM w' F' p mm (putD s (3+k % l.toNat) (Sx (secL k ep ys)))∧Upd F F' w w':=
 wwrite_core D b p n l g ep tl la q m c rs bg k q1 m1 c1 ys _ _ _ _ w h hp hm hk he hy h1 rfl rfl (Lib.hid fun W gr=>by
  refine (WriteM_any W (hd.gr gr) _ (place_lt hm k _ hn) _ hw).mono ?_;rintro e w' ⟨rfl,F',hd',hu⟩
  exact ⟨rfl,F',hd',hu.pre gr⟩)
end Go.Proofs.YtdmhemgepdknhaaGreat
namespace Go.Proofs.YtdmhemgepdknhaaGreat
open Go.RowKit Go.Maps
structure Wl (w:World) (F:Nat→Prop) (b:Nat) (p:Value) (q:Option Addr) (m c:Nat) (s:St) (L:Lg):Prop where
 dk:Dk w F p s
 lg:LgAt w b p q m c L
 apart:∀ k,F k→¬ lgS b q k
def wlS (F:Nat→Prop) (b:Nat) (q:Option Addr) (k:Nat):Prop:=F k∨lgS b q k
theorem Wl.gr {w w':World} {F:Nat→Prop} {b:Nat} {p:Value} {q:Option Addr} {m c:Nat} {s:St} {L:Lg} (h:Wl w F b p q m c s L) (g:Gr w w'):Wl w' F b p q m c s L:=⟨h.dk.gr g,h.lg.gr g,h.apart⟩
theorem LgAt.stays {w w':World} {b:Nat} {p:Value} {q:Option Addr} {m c:Nat} {L:Lg} (h:LgAt w b p q m c L) (e:∀ k,lgS b q k→w'.heap[k]?=w.heap[k]?) (hs:w.heap.size≤w'.heap.size):LgAt w' b p q m c L:=
 ⟨h.blk.stays (e b (.inl rfl)),h.txt.stays (fun y hy=>e _ (.inr ⟨y,hy,rfl⟩)),h.apart,fun k hk=>Nat.lt_of_lt_of_le (h.low k hk) hs,h.dsk⟩
theorem Wl.disk {w w':World} {F:Nat→Prop} {b:Nat} {p:Value} {q:Option Addr} {m c:Nat} {s s':St} {L:Lg} (h:Wl w F b p q m c s L) (hf:DkFin F p s' w w'):∃ F',Wl w' F' b p q m c s' L∧Upd (wlS F b q) (wlS F' b q) w w':=by
 obtain ⟨F',hd,hu⟩:=hf;obtain ⟨h1,h2⟩:=hu.other h.lg.low h.apart;exact ⟨F',⟨hd,h.lg.stays h1 hu.size,h2⟩,⟨hu.os,hu.tape,hu.output,hu.size,fun k hk hn=>hu.block k hk (fun e=>hn (.inl e)),fun k hk=>hk.elim (fun e=>(hu.fresh k e).imp .inl id) (fun e=>.inl (.inr e))⟩⟩
theorem Upd.comp {F F' F'':Nat→Prop} {w w1 w2:World} (h:Upd F F' w w1) (k:Upd F' F'' w1 w2):Upd F F'' w w2:=h.trans k
theorem Upd.cell {S:Nat→Prop} {b i:Nat} (hb:S b) (w:World) (u:Value):Upd S S w (w.setCell ⟨b,i,none⟩ u):=by
 have h:=Only.cell b i w u;exact ⟨h.os,h.tape,h.output,Nat.le_of_eq h.size.symm,fun k _ hn=>h.block k (fun e=>hn (e ▸ hb)),fun k hk=>.inl hk⟩
theorem Wl.begun {w:World} {F:Nat→Prop} {b:Nat} {p:Value} {q:Option Addr} {m c:Nat} {s:St} {L:Lg} (h:Wl w F b p q m c s L):Wl (w.setCell ⟨b,9,none⟩ (.bool true)) F b p q m c s { L with begun:=true }:=by
 have ho:=Only.cell b 9 w (.bool true);refine ⟨h.dk.stays (fun k hk=>ho.block k (fun e=>h.apart k hk (.inl e))) (Nat.le_of_eq ho.size.symm),⟨h.lg.blk.set 9 _,h.lg.txt.stays (fun y hy=>ho.block _ (h.lg.apart y hy)),h.lg.apart,fun k hk=>by rw [ho.size];exact h.lg.low k hk,h.lg.dsk⟩,h.apart⟩
def RetWl (v:Value) (s':St) (L':Lg) (F:Nat→Prop) (b:Nat) (p:Value) (q:Option Addr) (w:World) (e:Ending) (w':World):Prop:=
 ∃ F' q' m' c',e=.returned v∧Wl w' F' b p q' m' c' s' L'∧Upd (wlS F b q) (wlS F' b q') w w'
def begX (L:Lg):Sec:=Sx (secL (L.lasts / 232) L.epoch (L.txt.take (L.lasts % 232)))
def begI (L:Lg):Nat:=3+L.lasts / 232 % L.l.toNat
def begS (s:St) (L:Lg):St:=if L.begun then s else if s.refuses then putD s (begI L) (begX L) else BaS (putD s (begI L) (begX L))
def begL (s:St) (L:Lg):Lg:=if L.begun then L else if s.refuses then L else { L with begun:=true }
def begE (s:St) (L:Lg):Int:=if L.begun then 0 else putDE s
theorem putD_alive {s:St} {i:Nat} {x:Sec} (h:¬ s.refuses):(putD s i x).dead=false∧(putD s i x).writes=s.writes+1∧(putD s i x).ls=s.ls:=by
 unfold putD
 rw [if_neg h];refine ⟨?_,rfl,rfl⟩
 show s.dead=false
 cases hd:s.dead with
 | false=>rfl
 | true=>exact absurd (.inr hd) h
theorem BaE_alive {s:St} (h:s.dead=false):BaE s=0:=by unfold BaE;rw [h];rfl
def SlBe (b:Nat) (La:Nat) (J:Nat) (A:Nat) (q:Option Addr) (m:Nat) (c:Nat) (q2:Option Addr) (E:Int) (slot:Nat) (v:Value) (_:World):Prop:=
 match slot with
 | 3=>v=.int .i64 E
 | 8=>v=.pointer (some ⟨b,0,none⟩)
 | 9=>v=.pointer (some ⟨b,0,none⟩)
 | 10=>v=.pointer (some ⟨b,0,none⟩)
 | 11=>v=.pointer (some ⟨b,6,none⟩)
 | 12=>v=.int .u64 (La:Int)
 | 13=>v=.int .u64 (J:Int)
 | 14=>v=.pointer (some ⟨b,0,none⟩)
 | 15=>v=.pointer (some ⟨b,0,none⟩)
 | 16=>v=.pointer (some ⟨b,7,none⟩)
 | 17=>v=.slice q m c
 | 18=>v=.pointer (some ⟨b,0,none⟩)
 | 19=>v=.pointer (some ⟨b,0,none⟩)
 | 20=>v=.pointer (some ⟨b,6,none⟩)
 | 21=>v=.int .u64 (La:Int)
 | 22=>v=.int .i64 (A:Int)
 | 23=>v=.slice q2 A c
 | 24=>v=.int .i64 E
 | _=>True
set_option maxRecDepth 100000 in
set_option maxHeartbeats 1000000 in
theorem wbegin_any {F:Nat→Prop} {b:Nat} {p:Value} {q:Option Addr} {m c:Nat} {s:St} {L:Lg} (w:World) (h:Wl w F b p q m c s L) (ok:L.Ok) (hn:3+L.l≤s.ls.length) (hw:s.writes≤900000000) :
  Calls Tryz.prog 87 #[.pointer (some ⟨b,0,none⟩)] w (RetWl (.int .i64 (begE s L)) (begS s L) (begL s L) F b p q w):=by
 obtain ⟨c0,c1,c2,c3,c4,c5,c6,c7,c8,c9⟩:=h.lg.blk.c10;have HL:=Lib.hid h
 cases hb:L.begun
 ·
  rw [hb] at c9
  obtain ⟨D,hD⟩:=h.lg.dsk;obtain ⟨A,hA⟩:∃ A,A=L.lasts % 232:=⟨_,rfl⟩;obtain ⟨J,hJ⟩:∃ J,J=L.lasts / 232:=⟨_,rfl⟩;have hml:=h.lg.mlen
  have hAm:A≤m:=by have:=ok.has;omega
  have hcap:=h.lg.txt.1.cap;obtain ⟨q2,hcut,hc2⟩:=cut_h (p:=q) (n:=m) (c:=c) A hAm hcap;have HCut:=Lib.hid hcut
  have hlb:L.lasts≤18446744073709551615:=by have:=ok.near;have:=ok.most;omega
  have HA:Hid (∀ W,Calls Tryz.prog 66 #[.int .u64 (L.lasts:Int)] W fun e w'=>e=.returned (.int .i64 (A:Int))∧W=w'):=Lib.hid fun W=>by rw [hA];exact ahead_any _ W hlb
  have HJs:Hid (∀ W,Calls Tryz.prog 98 #[.int .u64 (L.lasts:Int)] W fun e w'=>e=.returned (.int .u64 (J:Int))∧W=w'):=Lib.hid fun W=>by rw [hJ];exact sectorOf_any _ W hlb
  obtain ⟨E,hE⟩:∃ E,E=putDE s:=⟨_,rfl⟩;obtain ⟨s1,hs1⟩:∃ s1,s1=putD s (begI L) (begX L):=⟨_,rfl⟩
  obtain ⟨Fin,hFin⟩:∃ Fin:World→Prop,Fin=fun W=>∃ F',Wl W F' b p q m c s1 L∧Upd (wlS F b q) (wlS F' b q) w W:=⟨_,rfl⟩
  have HWr:Hid (∀ W,Gr w W→Calls Tryz.prog 104 #[.pointer (some ⟨b,0,none⟩),.int .u64 (J:Int),.slice q2 A c] W fun e w'=>e=.returned (.int .i64 E)∧Fin w'):=Lib.hid fun W gr=>by
   have hW:=h.gr gr;have hy:=hc2.byt W _ hW.lg.txt.1
   rw [Nat.sub_zero,List.drop_zero] at hy
   refine (wwrite_any D b _ _ _ _ _ _ _ _ _ _ _ _ J q2 A c (L.txt.take A) W hW.lg.blk hD hW.dk ok.may (by omega) (by have:=ok.e1;omega) hy (by omega) hn (by omega)).mono ?_;rintro e w' ⟨rfl,hf⟩;rw [hFin,hE];refine ⟨rfl,?_⟩
   have hs:putD s (3+J % L.l.toNat) (Sx (secL J L.epoch (L.txt.take A)))=s1:=by rw [hs1,hA,hJ];rfl
   rw [hs] at hf
   obtain ⟨F',h1,h2⟩:=hW.disk hf;exact ⟨F',h1,(Upd.of_gr gr).comp h2⟩
  have HB:=Lib.hid h.lg.blk
  have HZ:Hid (begE s L=E∧begS s L=(if s.refuses then s1 else BaS s1)∧begL s L=(if s.refuses then L else { L with begun:=true })∧(s.refuses→E=8)∧(¬ s.refuses→E=0∧s1.dead=false∧s1.writes≤1000000000)):=Lib.hid (by
   refine ⟨by simp [begE,hb,hE],by unfold begS;simp [hb,hs1],by unfold begL;simp [hb],fun hr=>by rw [hE];unfold putDE;rw [if_pos hr],fun hr=>⟨by rw [hE];unfold putDE;rw [if_neg hr],?_⟩⟩;have:=putD_alive (i:=begI L) (x:=begX L) hr
   rw [← hs1] at this
   exact ⟨this.1,by omega⟩)
  have HFn:=Lib.hid hFin;rw [HZ.out.1];clear c0 c1 c2 c3 c4 c5 c6 c7 c8 h hA hJ hml hAm hcap hcut hc2 hlb hE hs1 hFin hD hn hw ok HL
  go_enter Tryz.func87,Tryz.ntmps87
  go_wp2_with fail;refine Flow.regionS [3] 20 (SlBe b L.lasts J A q m c q2 E) (InC 16 w (Fin)) (fun _ _ _=>True) (by kernel_rfl) (by kernel_rfl) (fun _ _ _ _ _ _ h _=>h) (InC.start (by rfl) (Gr.refl _).drew) ?steps ?fin
  case steps=>
   refine .cons (fun l a W hfr hun hup hdn hinv hdep K hK=>?_) ?_
   · have t0:=tAt (.pointer (some ⟨b,0,none⟩)) (hfr.at 0 (by kernel_rfl));refine fW0 rfl ?_;clear hfr hdep hdn;go_simp;exact hK _ _ True.intro (hinv.other 0 (by decide)) (dsT (by trivial))
   refine .cons (fun l a W hfr hun hup hdn hinv hdep K hK=>?_) ?_
   · have t0:=tAt (.pointer (some ⟨b,0,none⟩)) (hfr.at 0 (by kernel_rfl));refine fW0 rfl ?_;clear hfr hdep hdn;go_simp;exact hK _ _ True.intro (hinv.other 1 (by decide)) (dsT (by trivial))
   refine .cons (fun l a W hfr hun hup hdn hinv hdep K hK=>?_) ?_
   · have t9:=tAt (.pointer (some ⟨b,0,none⟩)) (hdep 9 (by kernel_rfl));refine fW0 rfl ?_;clear hfr hdep hdn;go_simp;exact hK _ _ True.intro (hinv.other 2 (by decide)) (dsT (by trivial))
   refine .cons (fun l a W hfr hun hup hdn hinv hdep K hK=>?_) ?_
   · have t10:=tAt (.pointer (some ⟨b,0,none⟩)) (hdep 10 (by kernel_rfl));refine fW0 rfl ?_;clear hfr hdep hdn;go_simp;exact hK _ _ True.intro (hinv.other 3 (by decide)) (dsT (by trivial))
   refine .cons (fun l a W hfr hun hup hdn hinv hdep K hK=>?_) ?_
   · have t11:=tAt (.pointer (some ⟨b,6,none⟩)) (hdep 11 (by kernel_rfl));refine fW0 rfl ?_;clear hfr hdep hdn;have hlz:l 16=false:=hup 16 (by decide) (by kernel_rfl);have hin:=hinv.pre hlz;obtain ⟨c0,c1,c2,c3,c4,c5,c6,c7,c8,c9⟩:=(HB.out.gr hin).c10;go_simp;exact hK _ _ True.intro (hinv.other 4 (by decide)) (dsT (by trivial))
   refine .cons (fun l a W hfr hun hup hdn hinv hdep K hK=>?_) ?_
   · have t12:=tAt (.int .u64 (L.lasts:Int)) (hdep 12 (by kernel_rfl));refine fW0 rfl ?_;clear hfr hdep hdn;have hlz:l 16=false:=hup 16 (by decide) (by kernel_rfl);have hin:=hinv.pre hlz;go_simp;refine (HJs.out W).mono ?_;rintro e W' ⟨rfl,rfl⟩;exact hK _ _ True.intro (hinv.other 5 (by decide)) (dsT (by trivial))
   refine .cons (fun l a W hfr hun hup hdn hinv hdep K hK=>?_) ?_
   · have t0:=tAt (.pointer (some ⟨b,0,none⟩)) (hfr.at 0 (by kernel_rfl));refine fW0 rfl ?_;clear hfr hdep hdn;go_simp;exact hK _ _ True.intro (hinv.other 6 (by decide)) (dsT (by trivial))
   refine .cons (fun l a W hfr hun hup hdn hinv hdep K hK=>?_) ?_
   · have t14:=tAt (.pointer (some ⟨b,0,none⟩)) (hdep 14 (by kernel_rfl));refine fW0 rfl ?_;clear hfr hdep hdn;go_simp;exact hK _ _ True.intro (hinv.other 7 (by decide)) (dsT (by trivial))
   refine .cons (fun l a W hfr hun hup hdn hinv hdep K hK=>?_) ?_
   · have t15:=tAt (.pointer (some ⟨b,0,none⟩)) (hdep 15 (by kernel_rfl));refine fW0 rfl ?_;clear hfr hdep hdn;go_simp;exact hK _ _ True.intro (hinv.other 8 (by decide)) (dsT (by trivial))
   refine .cons (fun l a W hfr hun hup hdn hinv hdep K hK=>?_) ?_
   · have t16:=tAt (.pointer (some ⟨b,7,none⟩)) (hdep 16 (by kernel_rfl));refine fW0 rfl ?_;clear hfr hdep hdn;have hlz:l 16=false:=hup 16 (by decide) (by kernel_rfl);have hin:=hinv.pre hlz;obtain ⟨c0,c1,c2,c3,c4,c5,c6,c7,c8,c9⟩:=(HB.out.gr hin).c10;go_simp;exact hK _ _ True.intro (hinv.other 9 (by decide)) (dsT (by trivial))
   refine .cons (fun l a W hfr hun hup hdn hinv hdep K hK=>?_) ?_
   · have t0:=tAt (.pointer (some ⟨b,0,none⟩)) (hfr.at 0 (by kernel_rfl));refine fW0 rfl ?_;clear hfr hdep hdn;go_simp;exact hK _ _ True.intro (hinv.other 10 (by decide)) (dsT (by trivial))
   refine .cons (fun l a W hfr hun hup hdn hinv hdep K hK=>?_) ?_
   · have t18:=tAt (.pointer (some ⟨b,0,none⟩)) (hdep 18 (by kernel_rfl));refine fW0 rfl ?_;clear hfr hdep hdn;go_simp;exact hK _ _ True.intro (hinv.other 11 (by decide)) (dsT (by trivial))
   refine .cons (fun l a W hfr hun hup hdn hinv hdep K hK=>?_) ?_
   · have t19:=tAt (.pointer (some ⟨b,0,none⟩)) (hdep 19 (by kernel_rfl));refine fW0 rfl ?_;clear hfr hdep hdn;go_simp;exact hK _ _ True.intro (hinv.other 12 (by decide)) (dsT (by trivial))
   refine .cons (fun l a W hfr hun hup hdn hinv hdep K hK=>?_) ?_
   · have t20:=tAt (.pointer (some ⟨b,6,none⟩)) (hdep 20 (by kernel_rfl));refine fW0 rfl ?_;clear hfr hdep hdn;have hlz:l 16=false:=hup 16 (by decide) (by kernel_rfl);have hin:=hinv.pre hlz;obtain ⟨c0,c1,c2,c3,c4,c5,c6,c7,c8,c9⟩:=(HB.out.gr hin).c10;go_simp;exact hK _ _ True.intro (hinv.other 13 (by decide)) (dsT (by trivial))
   refine .cons (fun l a W hfr hun hup hdn hinv hdep K hK=>?_) ?_
   · have t21:=tAt (.int .u64 (L.lasts:Int)) (hdep 21 (by kernel_rfl));refine fW0 rfl ?_;clear hfr hdep hdn;have hlz:l 16=false:=hup 16 (by decide) (by kernel_rfl);have hin:=hinv.pre hlz;go_simp;refine (HA.out W).mono ?_;rintro e W' ⟨rfl,rfl⟩;exact hK _ _ True.intro (hinv.other 14 (by decide)) (dsT (by trivial))
   refine .cons (fun l a W hfr hun hup hdn hinv hdep K hK=>?_) ?_
   · have t17:=tAt (.slice q m c) (hdep 17 (by kernel_rfl));have t22:=tAt (.int .i64 (A:Int)) (hdep 22 (by kernel_rfl));have hcut:=HCut.out W;refine fW0 rfl ?_;clear hfr hdep hdn;go_simp;exact hK _ _ True.intro (hinv.other 15 (by decide)) (dsT (by trivial))
   refine .cons (fun l a W hfr hun hup hdn hinv hdep K hK=>?_) ?_
   · have t8:=tAt (.pointer (some ⟨b,0,none⟩)) (hdep 8 (by kernel_rfl));have t13:=tAt (.int .u64 (J:Int)) (hdep 13 (by kernel_rfl));have t23:=tAt (.slice q2 A c) (hdep 23 (by kernel_rfl));refine fW0 rfl ?_;clear hfr hdep hdn;have hin:=hinv.pre hun;go_simp;refine (HWr.out W hin).mono ?_;rintro e W' ⟨rfl,h1⟩;exact hK _ _ True.intro (InC.fin h1) (dsT (by trivial))
   refine .cons (fun l a W hfr hun hup hdn hinv hdep K hK=>?_) ?_
   · have t24:=tAt (.int .i64 E) (hdep 24 (by kernel_rfl));refine fW0 rfl ?_;clear hfr hdep hdn;go_simp;exact hK _ _ True.intro (hinv.other 17 (by decide)) (dsT (by trivial))
   exact True.intro
  case fin=>
   intro a W l hfr hall hinv hsl
   have s3:a.tmps.getD 3 undef=.int .i64 E:=hsl 17 _ 3 rfl rfl (by simp);have t3:=tmpAt s3;have hfin:=hinv.post (hall 16 (by decide));have e:=Flow.frame hfr [8,9,10,11,12,13,14,15,16,17,18,19,20,21,22,23,24,3] (List.range 36) (by kernel_rfl) (by kernel_rfl)
   simp [List.range,List.range.loop] at e
   rw [t3] at e
   rw [e];have HFin:=Lib.hid hfin;clear e hfr hsl hall hinv hfin s3 t3
   first
    | (rename_i hB;refine hB _ _ ?_)
    | (rename_i hB y0;refine hB _ _ ?_)
    | (rename_i hB y0 y1;refine hB _ _ ?_)
    | (rename_i hB y0 y1 y2;refine hB _ _ ?_)
    | (rename_i hB y0 y1 y2 y3;refine hB _ _ ?_)
    | (rename_i hB y0 y1 y2 y3 y4;refine hB _ _ ?_)
    | (rename_i hB y0 y1 y2 y3 y4 y5;refine hB _ _ ?_)
    | (rename_i hB y0 y1 y2 y3 y4 y5 y6;refine hB _ _ ?_)
    | (rename_i hB y0 y1 y2 y3 y4 y5 y6 y7;refine hB _ _ ?_)
    | (rename_i hB y0 y1 y2 y3 y4 y5 y6 y7 y8;refine hB _ _ ?_)
    | skip
   have hF:=HFin.out
   rw [HFn.out] at hF
   obtain ⟨F1,hw1,hu1⟩:=hF;have HW1:=Lib.hid hw1;have HU1:=Lib.hid hu1;clear hw1 hu1 HFin HWr HA HJs HCut HB
   by_cases hr:s.refuses
   ·
    have HZ2:Hid (begS s L=s1∧begL s L=L):=Lib.hid ⟨by rw [HZ.out.2.1,if_pos hr],by rw [HZ.out.2.2.1,if_pos hr]⟩;obtain rfl:E=8:=HZ.out.2.2.2.1 hr;clear hr HZ;go_wp2_with fail
    go_ret
    rw [HZ2.out.1,HZ2.out.2];exact ⟨F1,q,m,c,rfl,HW1.out,HU1.out⟩
   ·
    have HZ2:Hid (begS s L=BaS s1∧begL s L={ L with begun:=true }):=Lib.hid ⟨by rw [HZ.out.2.1,if_neg hr],by rw [HZ.out.2.2.1,if_neg hr]⟩;have h3:=HZ.out.2.2.2.2 hr;obtain rfl:E=0:=h3.1;have HS1:Hid (s1.dead=false∧s1.writes≤1000000000):=Lib.hid h3.2;clear hr h3 HZ;have c9:=HW1.out.lg.blk.c10.2.2.2.2.2.2.2.2.2;have c0:=HW1.out.lg.blk.cell 0
    simp at c0
    have f9:=HW1.out.lg.blk.frozen 9;have HW2:=Lib.hid HW1.out.begun
    have HBa:Hid (Calls Tryz.prog 49 #[p] (W.setCell ⟨b,9,none⟩ (.bool true)) fun e w'=>e=.returned (.int .i64 0)∧DkFin F1 p (BaS s1) (W.setCell ⟨b,9,none⟩ (.bool true)) w'):=Lib.hid (by
     have h:=Barrier_all _ HW2.out.dk HS1.out.2
     rw [BaE_alive HS1.out.1] at h
     refine h.mono ?_;rintro e w' ⟨F2,rfl,hd,hu⟩
     exact ⟨rfl,F2,hd,hu⟩)
    go_wp2_with fail;refine HBa.out.mono ?_;rintro e w2 ⟨rfl,hf2⟩;obtain ⟨F2,hw2,hu2⟩:=HW2.out.disk hf2;have HW3:=Lib.hid hw2;have HU3:=Lib.hid (HU1.out.comp ((Upd.cell (S:=wlS F1 b q) (.inr (.inl rfl)) W (.bool true)).comp hu2));clear hw2 hu2 hf2 c9 c0 f9 HW2 HBa HW1;go_wp2_with fail
    go_ret
    rw [HZ2.out.1,HZ2.out.2];exact ⟨F2,q,m,c,rfl,HW3.out,HU3.out⟩
 ·
  rw [hb] at c9
  have HZ:Hid (begE s L=0∧begS s L=s∧begL s L=L):=Lib.hid ⟨by unfold begE;rw [hb];rfl,by unfold begS;rw [hb];rfl,by unfold begL;rw [hb];rfl⟩;clear c0 c1 c2 c3 c4 c5 c6 c7 c8 h hb
  go_enter Tryz.func87,Tryz.ntmps87
  go_wp2_with fail
  go_ret
  rw [HZ.out.1,HZ.out.2.1,HZ.out.2.2];exact ⟨F,q,m,c,rfl,HL.out,Upd.of_gr (Gr.refl _)⟩
end Go.Proofs.YtdmhemgepdknhaaGreat
