/-
  Texts, put together: RecNamed.
-/
import Derived.Deep.DeepCutAuto
import Derived.Deep.CutBlock
import Derived.Test.YtdmhemgepdknhaaGreatV1
import Derived.Test.YtdmhemgepdknhaaGreatV8
import Derived.Test.YtdmhemgepdknhaaGreatV11
set_option linter.unusedVariables false
set_option linter.unusedSimpArgs false
namespace Go.Proofs.YtdmhemgepdknhaaGreat
open Go.RowKit Cr
theorem rec_size:(Tryz.prog.info? TR).map (·.size)=some 8:=by kernel_rfl
theorem results_rec {fn:Func} {p:Tmp} (h:fn.results=#[.cell p TR]) (tmps:Array Value) (w:World) (g:Nat) (cs:Array Value) (hs:cs.size=8)
  (hp:tmps.getD p undef=.pointer (some ⟨g,0,none⟩)) (hb:Blk w g TR cs):(results fn tmps).run Tryz.prog w=.ok (.agg cs) w:=
 results_cell_row h tmps w g TR cs (0,0) _ hp hb Tryz.underlying100 rfl (by rw [hs];exact rec_size)
theorem Blk.f8 {w:World} {g:Nat} {t:TypeId} {cs:Array Value} (h:Blk w g t cs):w.frozen? ⟨g,0,none⟩=false∧w.frozen? ⟨g,1,none⟩=false∧w.frozen? ⟨g,2,none⟩=false∧w.frozen? ⟨g,3,none⟩=false∧w.frozen? ⟨g,4,none⟩=false∧w.frozen? ⟨g,5,none⟩=false∧w.frozen? ⟨g,6,none⟩=false∧w.frozen? ⟨g,7,none⟩=false:=
 ⟨h.frozen 0,h.frozen 1,h.frozen 2,h.frozen 3,h.frozen 4,h.frozen 5,h.frozen 6,h.frozen 7⟩
theorem below_set8 {B g:Nat} {w w1:World} {a b c d e f i j:Value} (h:Below B w w1) (hg:B≤g):Below B w ((((((((w1.setCell ⟨g,0,none⟩ a).setCell ⟨g,1,none⟩ b).setCell ⟨g,2,none⟩ c).setCell ⟨g,3,none⟩ d).setCell ⟨g,4,none⟩ e).setCell ⟨g,5,none⟩ f).setCell ⟨g,6,none⟩ i).setCell ⟨g,7,none⟩ j):=
 (((((((h.setCell hg _).setCell hg _).setCell hg _).setCell hg _).setCell hg _).setCell hg _).setCell hg _).setCell hg _
structure NamAt (w:World) (C E:Array Value) (W:World):Prop where
 gr:Gr w W
 c:Blk W w.heap.size TR C
 z:Blk W (w.heap.size+1) TR #[.int .i64 0,.int .u64 0,.int .u64 0,.int .u64 0,.int .i64 0,.int .i64 0,.slice none 0 0,.slice none 0 0]
 e:Blk W (w.heap.size+1+1) TR E
theorem NamAt.new (w:World) (C:Array Value):NamAt w C #[.int .i64 0,.int .u64 0,.int .u64 0,.int .u64 0,.int .i64 0,.int .i64 0,.slice none 0 0,.slice none 0 0] (((w.alloc (.cells C TR)).alloc (.cells #[.int .i64 0,.int .u64 0,.int .u64 0,.int .u64 0,.int .i64 0,.int .i64 0,.slice none 0 0,.slice none 0 0] TR)).alloc (.cells #[.int .i64 0,.int .u64 0,.int .u64 0,.int .u64 0,.int .i64 0,.int .i64 0,.slice none 0 0,.slice none 0 0] TR)):=by
 have h1:=Blk.new w TR C;have h2:=Blk.new (w.alloc (.cells C TR)) TR #[.int .i64 0,.int .u64 0,.int .u64 0,.int .u64 0,.int .i64 0,.int .i64 0,.slice none 0 0,.slice none 0 0];have h3:=Blk.new ((w.alloc (.cells C TR)).alloc (.cells #[.int .i64 0,.int .u64 0,.int .u64 0,.int .u64 0,.int .i64 0,.int .i64 0,.slice none 0 0,.slice none 0 0] TR)) TR #[.int .i64 0,.int .u64 0,.int .u64 0,.int .u64 0,.int .i64 0,.int .i64 0,.slice none 0 0,.slice none 0 0]
 simp only [World.size_alloc] at h2 h3
 have g1:=(Gr.refl w).alloc (Nat.le_refl _) (.cells C TR);have g2:=g1.alloc g1.size (.cells #[.int .i64 0,.int .u64 0,.int .u64 0,.int .u64 0,.int .i64 0,.int .i64 0,.slice none 0 0,.slice none 0 0] TR);exact ⟨g2.alloc g2.size _,(h1.alloc _).alloc _,h2.alloc _,h3⟩
theorem NamAt.heap {w W W':World} {C E:Array Value} (h:NamAt w C E W) (e:W'=W.drew):NamAt w C E W':=by
 subst e;exact ⟨⟨h.gr.os,h.gr.tape,h.gr.output,h.gr.size,h.gr.block⟩,h.c.heap rfl,h.z.heap rfl,h.e.heap rfl⟩
theorem NamAt.put {w W:World} {C E:Array Value} (h:NamAt w C E W) (i:Nat) (v:Value):NamAt w C (E.setIfInBounds i v) (W.setCell ⟨w.heap.size+1+1,i,none⟩ v):=
 ⟨h.gr.setCell (by show w.heap.size≤w.heap.size+1+1;omega) _,h.c.far (by show w.heap.size≠w.heap.size+1+1;omega) _,h.z.far (by show w.heap.size+1≠w.heap.size+1+1;omega) _,h.e.set i v⟩
theorem NamAt.puts {w W:World} {C E:Array Value} (h:NamAt w C E W) (i:Nat) (v:Value):NamAt w (C.setIfInBounds i v) E (W.setCell ⟨w.heap.size,i,none⟩ v):=
 ⟨h.gr.setCell (Nat.le_refl _) _,h.c.set i v,h.z.far (by show w.heap.size+1≠w.heap.size;omega) _,h.e.far (by show w.heap.size+1+1≠w.heap.size;omega) _⟩
def In10 (w:World) (C:Array Value) (a b c e0 e1 e2 e3 e4 e5 e6 e7:Value) (l:Nat→Bool) (W:World):Prop:=NamAt w C #[cond (l 7) a e0,cond (l 9) b e1,cond (l 11) c e2,e3,e4,e5,e6,e7] W
theorem In10.other {w W:World} {C:Array Value} {a b c e0 e1 e2 e3 e4 e5 e6 e7:Value} {l:Nat→Bool} (h:In10 w C a b c e0 e1 e2 e3 e4 e5 e6 e7 l W) (i:Nat) (h1:7≠i) (h2:9≠i) (h3:11≠i):In10 w C a b c e0 e1 e2 e3 e4 e5 e6 e7 (Flow.upd l i) W:=by
 unfold In10
 rw [Flow.upd_other l h1,Flow.upd_other l h2,Flow.upd_other l h3];exact h
theorem In10.s7 {w W:World} {C:Array Value} {a b c e0 e1 e2 e3 e4 e5 e6 e7:Value} {l:Nat→Bool} (h:In10 w C a b c e0 e1 e2 e3 e4 e5 e6 e7 l W):In10 w C a b c e0 e1 e2 e3 e4 e5 e6 e7 (Flow.upd l 7) (W.setCell ⟨w.heap.size+1+1,0,none⟩ a):=by
 unfold In10
 rw [Flow.upd_other l (by decide:9≠7),Flow.upd_other l (by decide:11≠7),Flow.upd_same];exact NamAt.put h 0 a
theorem In10.s9 {w W:World} {C:Array Value} {a b c e0 e1 e2 e3 e4 e5 e6 e7:Value} {l:Nat→Bool} (h:In10 w C a b c e0 e1 e2 e3 e4 e5 e6 e7 l W):In10 w C a b c e0 e1 e2 e3 e4 e5 e6 e7 (Flow.upd l 9) (W.setCell ⟨w.heap.size+1+1,1,none⟩ b):=by
 unfold In10
 rw [Flow.upd_other l (by decide:7≠9),Flow.upd_other l (by decide:11≠9),Flow.upd_same];exact NamAt.put h 1 b
theorem In10.s11 {w W:World} {C:Array Value} {a b c e0 e1 e2 e3 e4 e5 e6 e7:Value} {l:Nat→Bool} (h:In10 w C a b c e0 e1 e2 e3 e4 e5 e6 e7 l W):In10 w C a b c e0 e1 e2 e3 e4 e5 e6 e7 (Flow.upd l 11) (W.setCell ⟨w.heap.size+1+1,2,none⟩ c):=by
 unfold In10
 rw [Flow.upd_other l (by decide:7≠11),Flow.upd_other l (by decide:9≠11),Flow.upd_same];exact NamAt.put h 2 c
theorem In10.fr {w W:World} {C:Array Value} {a b c e0 e1 e2 e3 e4 e5 e6 e7:Value} {l:Nat→Bool} (h:In10 w C a b c e0 e1 e2 e3 e4 e5 e6 e7 l W):(W.frozen? ⟨w.heap.size+1+1,0,none⟩=false∧W.frozen? ⟨w.heap.size+1+1,1,none⟩=false∧W.frozen? ⟨w.heap.size+1+1,2,none⟩=false)∧∃ x0 x1 x2,W.cell? ⟨w.heap.size+1+1,0,none⟩=some x0∧W.cell? ⟨w.heap.size+1+1,1,none⟩=some x1∧W.cell? ⟨w.heap.size+1+1,2,none⟩=some x2:=
 ⟨⟨h.e.frozen 0,h.e.frozen 1,h.e.frozen 2⟩,_,_,_,h.e.cell 0,h.e.cell 1,h.e.cell 2⟩
def In9 (w:World) (C:Array Value) (a b c d e0 e1 e2 e3 e4 e5 e6 e7:Value) (l:Nat→Bool) (W:World):Prop:=NamAt w C #[e0,e1,e2,cond (l 9) a e3,cond (l 11) b e4,cond (l 13) c e5,e6,cond (l 15) d e7] W
theorem In9.other {w W:World} {C:Array Value} {a b c d e0 e1 e2 e3 e4 e5 e6 e7:Value} {l:Nat→Bool} (h:In9 w C a b c d e0 e1 e2 e3 e4 e5 e6 e7 l W) (i:Nat) (h1:9≠i) (h2:11≠i) (h3:13≠i) (h4:15≠i):In9 w C a b c d e0 e1 e2 e3 e4 e5 e6 e7 (Flow.upd l i) W:=by
 unfold In9
 rw [Flow.upd_other l h1,Flow.upd_other l h2,Flow.upd_other l h3,Flow.upd_other l h4];exact h
theorem In9.s9 {w W:World} {C:Array Value} {a b c d e0 e1 e2 e3 e4 e5 e6 e7:Value} {l:Nat→Bool} (h:In9 w C a b c d e0 e1 e2 e3 e4 e5 e6 e7 l W):In9 w C a b c d e0 e1 e2 e3 e4 e5 e6 e7 (Flow.upd l 9) (W.setCell ⟨w.heap.size+1+1,3,none⟩ a):=by
 unfold In9
 rw [Flow.upd_other l (by decide:11≠9),Flow.upd_other l (by decide:13≠9),Flow.upd_other l (by decide:15≠9),Flow.upd_same];exact NamAt.put h 3 a
theorem In9.s11 {w W:World} {C:Array Value} {a b c d e0 e1 e2 e3 e4 e5 e6 e7:Value} {l:Nat→Bool} (h:In9 w C a b c d e0 e1 e2 e3 e4 e5 e6 e7 l W):In9 w C a b c d e0 e1 e2 e3 e4 e5 e6 e7 (Flow.upd l 11) (W.setCell ⟨w.heap.size+1+1,4,none⟩ b):=by
 unfold In9
 rw [Flow.upd_other l (by decide:9≠11),Flow.upd_other l (by decide:13≠11),Flow.upd_other l (by decide:15≠11),Flow.upd_same];exact NamAt.put h 4 b
theorem In9.s13 {w W:World} {C:Array Value} {a b c d e0 e1 e2 e3 e4 e5 e6 e7:Value} {l:Nat→Bool} (h:In9 w C a b c d e0 e1 e2 e3 e4 e5 e6 e7 l W):In9 w C a b c d e0 e1 e2 e3 e4 e5 e6 e7 (Flow.upd l 13) (W.setCell ⟨w.heap.size+1+1,5,none⟩ c):=by
 unfold In9
 rw [Flow.upd_other l (by decide:9≠13),Flow.upd_other l (by decide:11≠13),Flow.upd_other l (by decide:15≠13),Flow.upd_same];exact NamAt.put h 5 c
theorem In9.s15 {w W:World} {C:Array Value} {a b c d e0 e1 e2 e3 e4 e5 e6 e7:Value} {l:Nat→Bool} (h:In9 w C a b c d e0 e1 e2 e3 e4 e5 e6 e7 l W):In9 w C a b c d e0 e1 e2 e3 e4 e5 e6 e7 (Flow.upd l 15) (W.setCell ⟨w.heap.size+1+1,7,none⟩ d):=by
 unfold In9
 rw [Flow.upd_other l (by decide:9≠15),Flow.upd_other l (by decide:11≠15),Flow.upd_other l (by decide:13≠15),Flow.upd_same];exact NamAt.put h 7 d
theorem In9.fr {w W:World} {C:Array Value} {a b c d e0 e1 e2 e3 e4 e5 e6 e7:Value} {l:Nat→Bool} (h:In9 w C a b c d e0 e1 e2 e3 e4 e5 e6 e7 l W):(W.frozen? ⟨w.heap.size+1+1,3,none⟩=false∧W.frozen? ⟨w.heap.size+1+1,4,none⟩=false∧W.frozen? ⟨w.heap.size+1+1,5,none⟩=false∧W.frozen? ⟨w.heap.size+1+1,7,none⟩=false)∧∃ x0 x1 x2 x3,W.cell? ⟨w.heap.size+1+1,3,none⟩=some x0∧W.cell? ⟨w.heap.size+1+1,4,none⟩=some x1∧W.cell? ⟨w.heap.size+1+1,5,none⟩=some x2∧W.cell? ⟨w.heap.size+1+1,7,none⟩=some x3:=
 ⟨⟨h.e.frozen 3,h.e.frozen 4,h.e.frozen 5,h.e.frozen 7⟩,_,_,_,_,h.e.cell 3,h.e.cell 4,h.e.cell 5,h.e.cell 7⟩
def SlN91 (_:Nat) (_:Nat) (_:Nat) (g:Int) (o:Int) (_:Option Addr) (_:Nat) (_:Nat) (pa:Option Addr) (na:Nat) (ca:Nat) (d:Nat) (e:Nat) (slot:Nat) (v:Value) (_:World):Prop:=
 match slot with
 | 17=>v=.pointer (some ⟨d,3,none⟩)
 | 18=>v=.int .u64 0
 | 19=>v=.pointer (some ⟨d,4,none⟩)
 | 20=>v=.int .i64 g
 | 21=>v=.pointer (some ⟨d,5,none⟩)
 | 22=>v=.int .i64 o
 | 23=>v=.pointer (some ⟨d,7,none⟩)
 | 24=>v=.slice pa na ca
 | 25=>v=.pointer (some ⟨e,3,none⟩)
 | 26=>v=.pointer (some ⟨e,4,none⟩)
 | 27=>v=.pointer (some ⟨e,5,none⟩)
 | 28=>v=.pointer (some ⟨e,7,none⟩)
 | _=>True
def SlN101 (t:Nat) (p:Nat) (_:Nat) (_:Int) (_:Int) (_:Option Addr) (_:Nat) (_:Nat) (_:Option Addr) (_:Nat) (_:Nat) (d:Nat) (e:Nat) (slot:Nat) (v:Value) (_:World):Prop:=
 match slot with
 | 29=>v=.pointer (some ⟨d,0,none⟩)
 | 30=>v=.int .i64 1
 | 31=>v=.pointer (some ⟨d,1,none⟩)
 | 32=>v=.int .u64 t
 | 33=>v=.pointer (some ⟨d,2,none⟩)
 | 34=>v=.int .u64 p
 | 35=>v=.pointer (some ⟨e,0,none⟩)
 | 36=>v=.pointer (some ⟨e,1,none⟩)
 | 37=>v=.pointer (some ⟨e,2,none⟩)
 | _=>True
def SlN92 (_:Nat) (_:Nat) (x:Nat) (g:Int) (o:Int) (_:Option Addr) (_:Nat) (_:Nat) (pa:Option Addr) (na:Nat) (ca:Nat) (d:Nat) (e:Nat) (slot:Nat) (v:Value) (_:World):Prop:=
 match slot with
 | 17=>v=.pointer (some ⟨d,3,none⟩)
 | 18=>v=.int .u64 x
 | 19=>v=.pointer (some ⟨d,4,none⟩)
 | 20=>v=.int .i64 g
 | 21=>v=.pointer (some ⟨d,5,none⟩)
 | 22=>v=.int .i64 o
 | 23=>v=.pointer (some ⟨d,7,none⟩)
 | 24=>v=.slice pa na ca
 | 25=>v=.pointer (some ⟨e,3,none⟩)
 | 26=>v=.pointer (some ⟨e,4,none⟩)
 | 27=>v=.pointer (some ⟨e,5,none⟩)
 | 28=>v=.pointer (some ⟨e,7,none⟩)
 | _=>True
def SlN102 (t:Nat) (p:Nat) (_:Nat) (_:Int) (_:Int) (_:Option Addr) (_:Nat) (_:Nat) (_:Option Addr) (_:Nat) (_:Nat) (d:Nat) (e:Nat) (slot:Nat) (v:Value) (_:World):Prop:=
 match slot with
 | 29=>v=.pointer (some ⟨d,0,none⟩)
 | 30=>v=.int .i64 2
 | 31=>v=.pointer (some ⟨d,1,none⟩)
 | 32=>v=.int .u64 t
 | 33=>v=.pointer (some ⟨d,2,none⟩)
 | 34=>v=.int .u64 p
 | 35=>v=.pointer (some ⟨e,0,none⟩)
 | 36=>v=.pointer (some ⟨e,1,none⟩)
 | 37=>v=.pointer (some ⟨e,2,none⟩)
 | _=>True
def SlN103 (t:Nat) (p:Nat) (_:Nat) (_:Int) (_:Int) (_:Option Addr) (_:Nat) (_:Nat) (_:Option Addr) (_:Nat) (_:Nat) (d:Nat) (e:Nat) (slot:Nat) (v:Value) (_:World):Prop:=
 match slot with
 | 29=>v=.pointer (some ⟨d,0,none⟩)
 | 30=>v=.int .i64 3
 | 31=>v=.pointer (some ⟨d,1,none⟩)
 | 32=>v=.int .u64 t
 | 33=>v=.pointer (some ⟨d,2,none⟩)
 | 34=>v=.int .u64 p
 | 35=>v=.pointer (some ⟨e,0,none⟩)
 | 36=>v=.pointer (some ⟨e,1,none⟩)
 | 37=>v=.pointer (some ⟨e,2,none⟩)
 | _=>True
def SlN104 (t:Nat) (p:Nat) (_:Nat) (_:Int) (_:Int) (_:Option Addr) (_:Nat) (_:Nat) (_:Option Addr) (_:Nat) (_:Nat) (d:Nat) (e:Nat) (slot:Nat) (v:Value) (_:World):Prop:=
 match slot with
 | 29=>v=.pointer (some ⟨d,0,none⟩)
 | 30=>v=.int .i64 4
 | 31=>v=.pointer (some ⟨d,1,none⟩)
 | 32=>v=.int .u64 t
 | 33=>v=.pointer (some ⟨d,2,none⟩)
 | 34=>v=.int .u64 p
 | 35=>v=.pointer (some ⟨e,0,none⟩)
 | 36=>v=.pointer (some ⟨e,1,none⟩)
 | 37=>v=.pointer (some ⟨e,2,none⟩)
 | _=>True
set_option maxRecDepth 100000 in
set_option maxHeartbeats 4000000 in
theorem named1 (t:Nat) (p:Nat) (x:Nat) (g:Int) (o:Int) (pb:Option Addr) (nb:Nat) (cb:Nat) (pa:Option Addr) (na:Nat) (ca:Nat) (w:World):Calls Tryz.prog 136 #[.agg #[.int .i64 1,.int .u64 t,.int .u64 p,.int .u64 x,.int .i64 g,.int .i64 o,.slice pb nb cb,.slice pa na ca]] w (RetV (.agg #[.int .i64 1,.int .u64 t,.int .u64 p,.int .u64 0,.int .i64 g,.int .i64 o,.slice pb nb cb,.slice pa na ca]) w):=by
 have HN:=Lib.hid (NamAt.new w #[.int .i64 1,.int .u64 t,.int .u64 p,.int .u64 x,.int .i64 g,.int .i64 o,.slice pb nb cb,.slice pa na ca])
 go_enter Tryz.func136,Tryz.ntmps136
 go_upto_region 2 with fail
 generalize (((w.alloc (.cells #[.int .i64 1,.int .u64 t,.int .u64 p,.int .u64 x,.int .i64 g,.int .i64 o,.slice pb nb cb,.slice pa na ca] TR)).alloc (.cells #[.int .i64 0,.int .u64 0,.int .u64 0,.int .u64 0,.int .i64 0,.int .i64 0,.slice none 0 0,.slice none 0 0] TR)).alloc (.cells #[.int .i64 0,.int .u64 0,.int .u64 0,.int .u64 0,.int .i64 0,.int .i64 0,.slice none 0 0,.slice none 0 0] TR))=W1 at HN ⊢
 obtain ⟨c0,c1,c2,c3,c4,c5,c6,c7⟩:=HN.out.c.c8;obtain ⟨d0,d1,d2,d3,d4,d5,d6,d7⟩:=HN.out.e.c8;have f6:=HN.out.e.frozen 6;have f3:=HN.out.c.frozen 3;go_wp2_with fail;clear c0 c1 c2 c3 c4 c5 c6 c7 d0 d1 d2 d3 d4 d5 d6 d7 f6 f3;have HN2:=Lib.hid ((HN.out.put 6 (.slice pb nb cb)).puts 3 (.int .u64 0));clear HN;have HN:=HN2;clear HN2;refine Flow.regionS [] 20 (SlN91 t p x g o pb nb cb pa na ca w.heap.size (w.heap.size+1+1)) (In9 w #[.int .i64 1,.int .u64 t,.int .u64 p,.int .u64 0,.int .i64 g,.int .i64 o,.slice pb nb cb,.slice pa na ca] (.int .u64 0) (.int .i64 g) (.int .i64 o) (.slice pa na ca) (.int .i64 0) (.int .u64 0) (.int .u64 0) (.int .u64 0) (.int .i64 0) (.int .i64 0) (.slice pb nb cb) (.slice none 0 0)) (fun _ _ _=>True) (by kernel_rfl) (by kernel_rfl) (fun _ _ _ _ _ _ h _=>h) (HN.out.heap rfl) ?steps ?fin
 case steps=>
  refine .cons (fun l a W hfr hun hup hdn hinv hdep K hK=>?_) ?_
  · have t1:=tAt (.pointer (some ⟨w.heap.size,0,none⟩)) (hfr.at 1 (by kernel_rfl));refine fW0 rfl ?_;clear hfr hdep hun hup hdn;go_simp;exact hK _ _ True.intro (hinv.other 0 (by decide) (by decide) (by decide) (by decide)) (dsT (by trivial))
  refine .cons (fun l a W hfr hun hup hdn hinv hdep K hK=>?_) ?_
  · have t17:=tAt (.pointer (some ⟨w.heap.size,3,none⟩)) (hdep 17 (by kernel_rfl));refine fW0 rfl ?_;clear hfr hdep hun hup hdn;obtain ⟨c0,c1,c2,c3,c4,c5,c6,c7⟩:=hinv.c.c8;go_simp;exact hK _ _ True.intro (hinv.other 1 (by decide) (by decide) (by decide) (by decide)) (dsT (by trivial))
  refine .cons (fun l a W hfr hun hup hdn hinv hdep K hK=>?_) ?_
  · have t1:=tAt (.pointer (some ⟨w.heap.size,0,none⟩)) (hfr.at 1 (by kernel_rfl));refine fW0 rfl ?_;clear hfr hdep hun hup hdn;go_simp;exact hK _ _ True.intro (hinv.other 2 (by decide) (by decide) (by decide) (by decide)) (dsT (by trivial))
  refine .cons (fun l a W hfr hun hup hdn hinv hdep K hK=>?_) ?_
  · have t19:=tAt (.pointer (some ⟨w.heap.size,4,none⟩)) (hdep 19 (by kernel_rfl));refine fW0 rfl ?_;clear hfr hdep hun hup hdn;obtain ⟨c0,c1,c2,c3,c4,c5,c6,c7⟩:=hinv.c.c8;go_simp;exact hK _ _ True.intro (hinv.other 3 (by decide) (by decide) (by decide) (by decide)) (dsT (by trivial))
  refine .cons (fun l a W hfr hun hup hdn hinv hdep K hK=>?_) ?_
  · have t1:=tAt (.pointer (some ⟨w.heap.size,0,none⟩)) (hfr.at 1 (by kernel_rfl));refine fW0 rfl ?_;clear hfr hdep hun hup hdn;go_simp;exact hK _ _ True.intro (hinv.other 4 (by decide) (by decide) (by decide) (by decide)) (dsT (by trivial))
  refine .cons (fun l a W hfr hun hup hdn hinv hdep K hK=>?_) ?_
  · have t21:=tAt (.pointer (some ⟨w.heap.size,5,none⟩)) (hdep 21 (by kernel_rfl));refine fW0 rfl ?_;clear hfr hdep hun hup hdn;obtain ⟨c0,c1,c2,c3,c4,c5,c6,c7⟩:=hinv.c.c8;go_simp;exact hK _ _ True.intro (hinv.other 5 (by decide) (by decide) (by decide) (by decide)) (dsT (by trivial))
  refine .cons (fun l a W hfr hun hup hdn hinv hdep K hK=>?_) ?_
  · have t1:=tAt (.pointer (some ⟨w.heap.size,0,none⟩)) (hfr.at 1 (by kernel_rfl));refine fW0 rfl ?_;clear hfr hdep hun hup hdn;go_simp;exact hK _ _ True.intro (hinv.other 6 (by decide) (by decide) (by decide) (by decide)) (dsT (by trivial))
  refine .cons (fun l a W hfr hun hup hdn hinv hdep K hK=>?_) ?_
  · have t23:=tAt (.pointer (some ⟨w.heap.size,7,none⟩)) (hdep 23 (by kernel_rfl));refine fW0 rfl ?_;clear hfr hdep hun hup hdn;obtain ⟨c0,c1,c2,c3,c4,c5,c6,c7⟩:=hinv.c.c8;go_simp;exact hK _ _ True.intro (hinv.other 7 (by decide) (by decide) (by decide) (by decide)) (dsT (by trivial))
  refine .cons (fun l a W hfr hun hup hdn hinv hdep K hK=>?_) ?_
  · have t3:=tAt (.pointer (some ⟨w.heap.size+1+1,0,none⟩)) (hfr.at 3 (by kernel_rfl));refine fW0 rfl ?_;clear hfr hdep hun hup hdn;go_simp;exact hK _ _ True.intro (hinv.other 8 (by decide) (by decide) (by decide) (by decide)) (dsT (by trivial))
  refine .cons (fun l a W hfr hun hup hdn hinv hdep K hK=>?_) ?_
  · have t25:=tAt (.pointer (some ⟨w.heap.size+1+1,3,none⟩)) (hdep 25 (by kernel_rfl));have t18:=tAt (.int .u64 0) (hdep 18 (by kernel_rfl));refine fW0 rfl ?_;clear hfr hdep hun hup hdn;obtain ⟨⟨f0,f1,f2,f3⟩,x0,x1,x2,x3,y0,y1,y2,y3⟩:=hinv.fr;go_simp;exact hK undef _ True.intro hinv.s9 (fun d hd=>by cases hd)
  refine .cons (fun l a W hfr hun hup hdn hinv hdep K hK=>?_) ?_
  · have t3:=tAt (.pointer (some ⟨w.heap.size+1+1,0,none⟩)) (hfr.at 3 (by kernel_rfl));refine fW0 rfl ?_;clear hfr hdep hun hup hdn;go_simp;exact hK _ _ True.intro (hinv.other 10 (by decide) (by decide) (by decide) (by decide)) (dsT (by trivial))
  refine .cons (fun l a W hfr hun hup hdn hinv hdep K hK=>?_) ?_
  · have t26:=tAt (.pointer (some ⟨w.heap.size+1+1,4,none⟩)) (hdep 26 (by kernel_rfl));have t20:=tAt (.int .i64 g) (hdep 20 (by kernel_rfl));refine fW0 rfl ?_;clear hfr hdep hun hup hdn;obtain ⟨⟨f0,f1,f2,f3⟩,x0,x1,x2,x3,y0,y1,y2,y3⟩:=hinv.fr;go_simp;exact hK undef _ True.intro hinv.s11 (fun d hd=>by cases hd)
  refine .cons (fun l a W hfr hun hup hdn hinv hdep K hK=>?_) ?_
  · have t3:=tAt (.pointer (some ⟨w.heap.size+1+1,0,none⟩)) (hfr.at 3 (by kernel_rfl));refine fW0 rfl ?_;clear hfr hdep hun hup hdn;go_simp;exact hK _ _ True.intro (hinv.other 12 (by decide) (by decide) (by decide) (by decide)) (dsT (by trivial))
  refine .cons (fun l a W hfr hun hup hdn hinv hdep K hK=>?_) ?_
  · have t27:=tAt (.pointer (some ⟨w.heap.size+1+1,5,none⟩)) (hdep 27 (by kernel_rfl));have t22:=tAt (.int .i64 o) (hdep 22 (by kernel_rfl));refine fW0 rfl ?_;clear hfr hdep hun hup hdn;obtain ⟨⟨f0,f1,f2,f3⟩,x0,x1,x2,x3,y0,y1,y2,y3⟩:=hinv.fr;go_simp;exact hK undef _ True.intro hinv.s13 (fun d hd=>by cases hd)
  refine .cons (fun l a W hfr hun hup hdn hinv hdep K hK=>?_) ?_
  · have t3:=tAt (.pointer (some ⟨w.heap.size+1+1,0,none⟩)) (hfr.at 3 (by kernel_rfl));refine fW0 rfl ?_;clear hfr hdep hun hup hdn;go_simp;exact hK _ _ True.intro (hinv.other 14 (by decide) (by decide) (by decide) (by decide)) (dsT (by trivial))
  refine .cons (fun l a W hfr hun hup hdn hinv hdep K hK=>?_) ?_
  · have t28:=tAt (.pointer (some ⟨w.heap.size+1+1,7,none⟩)) (hdep 28 (by kernel_rfl));have t24:=tAt (.slice pa na ca) (hdep 24 (by kernel_rfl));refine fW0 rfl ?_;clear hfr hdep hun hup hdn;obtain ⟨⟨f0,f1,f2,f3⟩,x0,x1,x2,x3,y0,y1,y2,y3⟩:=hinv.fr;go_simp;exact hK undef _ True.intro hinv.s15 (fun d hd=>by cases hd)
  exact True.intro
 case fin=>
  intro a W l hfr hall hinv hsl
  have l9:l 9=true:=hall 9 (by decide);have l11:l 11=true:=hall 11 (by decide);have l13:l 13=true:=hall 13 (by decide);have l15:l 15=true:=hall 15 (by decide);have e:=Flow.frame hfr [17,18,19,20,21,22,23,24,25,26,27,28] (List.range 39) (by kernel_rfl) (by kernel_rfl)
  simp [List.range,List.range.loop] at e
  rw [e]
  unfold In9 at hinv
  simp only [l9,l11,l13,l15,cond_true] at hinv
  clear HN;have HN:=Lib.hid hinv;clear e hfr hsl hall hinv l9 l11 l13 l15
  first
  | (rename_i hB;refine hB _ _ ?_)
  | (rename_i hB y0;refine hB _ _ ?_)
  | (rename_i hB y0 y1;refine hB _ _ ?_)
  | (rename_i hB y0 y1 y2;refine hB _ _ ?_)
  | (rename_i hB y0 y1 y2 y3;refine hB _ _ ?_)
  | (rename_i hB y0 y1 y2 y3 y4;refine hB _ _ ?_)
  | (rename_i hB y0 y1 y2 y3 y4 y5;refine hB _ _ ?_)
  | (rename_i hB y0 y1 y2 y3 y4 y5 y6;refine hB _ _ ?_)
  | (rename_i hB y0 y1 y2 y3 y4 y5 y6 y7;refine hB _ _ ?_)
  | (rename_i hB y0 y1 y2 y3 y4 y5 y6 y7 y8;refine hB _ _ ?_)
  | (rename_i hB y0 y1 y2 y3 y4 y5 y6 y7 y8 y9;refine hB _ _ ?_)
  | (rename_i hB y0 y1 y2 y3 y4 y5 y6 y7 y8 y9 y10;refine hB _ _ ?_)
  | (rename_i hB y0 y1 y2 y3 y4 y5 y6 y7 y8 y9 y10 y11;refine hB _ _ ?_)
  | (rename_i hB y0 y1 y2 y3 y4 y5 y6 y7 y8 y9 y10 y11 y12;refine hB _ _ ?_)
  | (rename_i hB y0 y1 y2 y3 y4 y5 y6 y7 y8 y9 y10 y11 y12 y13;refine hB _ _ ?_)
  | (rename_i hB y0 y1 y2 y3 y4 y5 y6 y7 y8 y9 y10 y11 y12 y13 y14;refine hB _ _ ?_)
  go_wp2_with fail;refine Flow.regionS [] 20 (SlN101 t p x g o pb nb cb pa na ca w.heap.size (w.heap.size+1+1)) (In10 w #[.int .i64 1,.int .u64 t,.int .u64 p,.int .u64 0,.int .i64 g,.int .i64 o,.slice pb nb cb,.slice pa na ca] (.int .i64 1) (.int .u64 t) (.int .u64 p) (.int .i64 0) (.int .u64 0) (.int .u64 0) (.int .u64 0) (.int .i64 g) (.int .i64 o) (.slice pb nb cb) (.slice pa na ca)) (fun _ _ _=>True) (by kernel_rfl) (by kernel_rfl) (fun _ _ _ _ _ _ h _=>h) (HN.out.heap rfl) ?steps ?fin
  case steps=>
   refine .cons (fun l a W hfr hun hup hdn hinv hdep K hK=>?_) ?_
   · have t1:=tAt (.pointer (some ⟨w.heap.size,0,none⟩)) (hfr.at 1 (by kernel_rfl));refine fW0 rfl ?_;clear hfr hdep hun hup hdn;go_simp;exact hK _ _ True.intro (hinv.other 0 (by decide) (by decide) (by decide)) (dsT (by trivial))
   refine .cons (fun l a W hfr hun hup hdn hinv hdep K hK=>?_) ?_
   · have t29:=tAt (.pointer (some ⟨w.heap.size,0,none⟩)) (hdep 29 (by kernel_rfl));refine fW0 rfl ?_;clear hfr hdep hun hup hdn;obtain ⟨c0,c1,c2,c3,c4,c5,c6,c7⟩:=hinv.c.c8;go_simp;exact hK _ _ True.intro (hinv.other 1 (by decide) (by decide) (by decide)) (dsT (by trivial))
   refine .cons (fun l a W hfr hun hup hdn hinv hdep K hK=>?_) ?_
   · have t1:=tAt (.pointer (some ⟨w.heap.size,0,none⟩)) (hfr.at 1 (by kernel_rfl));refine fW0 rfl ?_;clear hfr hdep hun hup hdn;go_simp;exact hK _ _ True.intro (hinv.other 2 (by decide) (by decide) (by decide)) (dsT (by trivial))
   refine .cons (fun l a W hfr hun hup hdn hinv hdep K hK=>?_) ?_
   · have t31:=tAt (.pointer (some ⟨w.heap.size,1,none⟩)) (hdep 31 (by kernel_rfl));refine fW0 rfl ?_;clear hfr hdep hun hup hdn;obtain ⟨c0,c1,c2,c3,c4,c5,c6,c7⟩:=hinv.c.c8;go_simp;exact hK _ _ True.intro (hinv.other 3 (by decide) (by decide) (by decide)) (dsT (by trivial))
   refine .cons (fun l a W hfr hun hup hdn hinv hdep K hK=>?_) ?_
   · have t1:=tAt (.pointer (some ⟨w.heap.size,0,none⟩)) (hfr.at 1 (by kernel_rfl));refine fW0 rfl ?_;clear hfr hdep hun hup hdn;go_simp;exact hK _ _ True.intro (hinv.other 4 (by decide) (by decide) (by decide)) (dsT (by trivial))
   refine .cons (fun l a W hfr hun hup hdn hinv hdep K hK=>?_) ?_
   · have t33:=tAt (.pointer (some ⟨w.heap.size,2,none⟩)) (hdep 33 (by kernel_rfl));refine fW0 rfl ?_;clear hfr hdep hun hup hdn;obtain ⟨c0,c1,c2,c3,c4,c5,c6,c7⟩:=hinv.c.c8;go_simp;exact hK _ _ True.intro (hinv.other 5 (by decide) (by decide) (by decide)) (dsT (by trivial))
   refine .cons (fun l a W hfr hun hup hdn hinv hdep K hK=>?_) ?_
   · have t3:=tAt (.pointer (some ⟨w.heap.size+1+1,0,none⟩)) (hfr.at 3 (by kernel_rfl));refine fW0 rfl ?_;clear hfr hdep hun hup hdn;go_simp;exact hK _ _ True.intro (hinv.other 6 (by decide) (by decide) (by decide)) (dsT (by trivial))
   refine .cons (fun l a W hfr hun hup hdn hinv hdep K hK=>?_) ?_
   · have t35:=tAt (.pointer (some ⟨w.heap.size+1+1,0,none⟩)) (hdep 35 (by kernel_rfl));have t30:=tAt (.int .i64 1) (hdep 30 (by kernel_rfl));refine fW0 rfl ?_;clear hfr hdep hun hup hdn;obtain ⟨⟨f0,f1,f2⟩,x0,x1,x2,y0,y1,y2⟩:=hinv.fr;go_simp;exact hK undef _ True.intro hinv.s7 (fun d hd=>by cases hd)
   refine .cons (fun l a W hfr hun hup hdn hinv hdep K hK=>?_) ?_
   · have t3:=tAt (.pointer (some ⟨w.heap.size+1+1,0,none⟩)) (hfr.at 3 (by kernel_rfl));refine fW0 rfl ?_;clear hfr hdep hun hup hdn;go_simp;exact hK _ _ True.intro (hinv.other 8 (by decide) (by decide) (by decide)) (dsT (by trivial))
   refine .cons (fun l a W hfr hun hup hdn hinv hdep K hK=>?_) ?_
   · have t36:=tAt (.pointer (some ⟨w.heap.size+1+1,1,none⟩)) (hdep 36 (by kernel_rfl));have t32:=tAt (.int .u64 t) (hdep 32 (by kernel_rfl));refine fW0 rfl ?_;clear hfr hdep hun hup hdn;obtain ⟨⟨f0,f1,f2⟩,x0,x1,x2,y0,y1,y2⟩:=hinv.fr;go_simp;exact hK undef _ True.intro hinv.s9 (fun d hd=>by cases hd)
   refine .cons (fun l a W hfr hun hup hdn hinv hdep K hK=>?_) ?_
   · have t3:=tAt (.pointer (some ⟨w.heap.size+1+1,0,none⟩)) (hfr.at 3 (by kernel_rfl));refine fW0 rfl ?_;clear hfr hdep hun hup hdn;go_simp;exact hK _ _ True.intro (hinv.other 10 (by decide) (by decide) (by decide)) (dsT (by trivial))
   refine .cons (fun l a W hfr hun hup hdn hinv hdep K hK=>?_) ?_
   · have t37:=tAt (.pointer (some ⟨w.heap.size+1+1,2,none⟩)) (hdep 37 (by kernel_rfl));have t34:=tAt (.int .u64 p) (hdep 34 (by kernel_rfl));refine fW0 rfl ?_;clear hfr hdep hun hup hdn;obtain ⟨⟨f0,f1,f2⟩,x0,x1,x2,y0,y1,y2⟩:=hinv.fr;go_simp;exact hK undef _ True.intro hinv.s11 (fun d hd=>by cases hd)
   exact True.intro
  case fin=>
   intro a W l hfr hall hinv hsl
   have l7:l 7=true:=hall 7 (by decide);have l9:l 9=true:=hall 9 (by decide);have l11:l 11=true:=hall 11 (by decide);have e:=Flow.frame hfr [29,30,31,32,33,34,35,36,37] (List.range 39) (by kernel_rfl) (by kernel_rfl)
   simp [List.range,List.range.loop] at e
   rw [e]
   unfold In10 at hinv
   simp only [l7,l9,l11,cond_true] at hinv
   clear HN;have HN:=Lib.hid hinv;clear e hfr hsl hall hinv l7 l9 l11
   first
   | (rename_i hB;refine hB _ _ ?_)
   | (rename_i hB y0;refine hB _ _ ?_)
   | (rename_i hB y0 y1;refine hB _ _ ?_)
   | (rename_i hB y0 y1 y2;refine hB _ _ ?_)
   | (rename_i hB y0 y1 y2 y3;refine hB _ _ ?_)
   | (rename_i hB y0 y1 y2 y3 y4;refine hB _ _ ?_)
   | (rename_i hB y0 y1 y2 y3 y4 y5;refine hB _ _ ?_)
   | (rename_i hB y0 y1 y2 y3 y4 y5 y6;refine hB _ _ ?_)
   | (rename_i hB y0 y1 y2 y3 y4 y5 y6 y7;refine hB _ _ ?_)
   | (rename_i hB y0 y1 y2 y3 y4 y5 y6 y7 y8;refine hB _ _ ?_)
   | (rename_i hB y0 y1 y2 y3 y4 y5 y6 y7 y8 y9;refine hB _ _ ?_)
   | (rename_i hB y0 y1 y2 y3 y4 y5 y6 y7 y8 y9 y10;refine hB _ _ ?_)
   | (rename_i hB y0 y1 y2 y3 y4 y5 y6 y7 y8 y9 y10 y11;refine hB _ _ ?_)
   | (rename_i hB y0 y1 y2 y3 y4 y5 y6 y7 y8 y9 y10 y11 y12;refine hB _ _ ?_)
   | (rename_i hB y0 y1 y2 y3 y4 y5 y6 y7 y8 y9 y10 y11 y12 y13;refine hB _ _ ?_)
   | (rename_i hB y0 y1 y2 y3 y4 y5 y6 y7 y8 y9 y10 y11 y12 y13 y14;refine hB _ _ ?_)
   obtain ⟨c0,c1,c2,c3,c4,c5,c6,c7⟩:=HN.out.e.c8;have hz:=HN.out.z.c8;obtain ⟨d0,d1,d2,d3,d4,d5,d6,d7⟩:=hz;obtain ⟨q0,q1,q2,q3,q4,q5,q6,q7⟩:=HN.out.z.f8;go_wp2_with fail;exact bodyPost_ret (results_rec rfl _ _ (w.heap.size+1) #[.int .i64 1,.int .u64 t,.int .u64 p,.int .u64 0,.int .i64 g,.int .i64 o,.slice pb nb cb,.slice pa na ca] rfl rfl ((((((((HN.out.z.set 0 _).set 1 _).set 2 _).set 3 _).set 4 _).set 5 _).set 6 _).set 7 _)) rfl ⟨rfl,below_set8 HN.out.gr (by omega)⟩
set_option maxRecDepth 100000 in
set_option maxHeartbeats 4000000 in
theorem named2 (t:Nat) (p:Nat) (x:Nat) (g:Int) (o:Int) (pb:Option Addr) (nb:Nat) (cb:Nat) (pa:Option Addr) (na:Nat) (ca:Nat) (w:World):Calls Tryz.prog 136 #[.agg #[.int .i64 2,.int .u64 t,.int .u64 p,.int .u64 x,.int .i64 g,.int .i64 o,.slice pb nb cb,.slice pa na ca]] w (RetV (.agg #[.int .i64 2,.int .u64 t,.int .u64 p,.int .u64 x,.int .i64 g,.int .i64 o,.slice none 0 0,.slice pa na ca]) w):=by
 have HN:=Lib.hid (NamAt.new w #[.int .i64 2,.int .u64 t,.int .u64 p,.int .u64 x,.int .i64 g,.int .i64 o,.slice pb nb cb,.slice pa na ca])
 go_enter Tryz.func136,Tryz.ntmps136
 go_upto_region 2 with fail
 generalize (((w.alloc (.cells #[.int .i64 2,.int .u64 t,.int .u64 p,.int .u64 x,.int .i64 g,.int .i64 o,.slice pb nb cb,.slice pa na ca] TR)).alloc (.cells #[.int .i64 0,.int .u64 0,.int .u64 0,.int .u64 0,.int .i64 0,.int .i64 0,.slice none 0 0,.slice none 0 0] TR)).alloc (.cells #[.int .i64 0,.int .u64 0,.int .u64 0,.int .u64 0,.int .i64 0,.int .i64 0,.slice none 0 0,.slice none 0 0] TR))=W1 at HN ⊢
 obtain ⟨c0,c1,c2,c3,c4,c5,c6,c7⟩:=HN.out.c.c8;obtain ⟨d0,d1,d2,d3,d4,d5,d6,d7⟩:=HN.out.e.c8;have f6:=HN.out.e.frozen 6;have f3:=HN.out.c.frozen 3;go_wp2_with fail;clear c0 c1 c2 c3 c4 c5 c6 c7 d0 d1 d2 d3 d4 d5 d6 d7 f6 f3;refine Flow.regionS [] 20 (SlN92 t p x g o pb nb cb pa na ca w.heap.size (w.heap.size+1+1)) (In9 w #[.int .i64 2,.int .u64 t,.int .u64 p,.int .u64 x,.int .i64 g,.int .i64 o,.slice pb nb cb,.slice pa na ca] (.int .u64 x) (.int .i64 g) (.int .i64 o) (.slice pa na ca) (.int .i64 0) (.int .u64 0) (.int .u64 0) (.int .u64 0) (.int .i64 0) (.int .i64 0) (.slice none 0 0) (.slice none 0 0)) (fun _ _ _=>True) (by kernel_rfl) (by kernel_rfl) (fun _ _ _ _ _ _ h _=>h) (HN.out.heap rfl) ?steps ?fin
 case steps=>
  refine .cons (fun l a W hfr hun hup hdn hinv hdep K hK=>?_) ?_
  · have t1:=tAt (.pointer (some ⟨w.heap.size,0,none⟩)) (hfr.at 1 (by kernel_rfl));refine fW0 rfl ?_;clear hfr hdep hun hup hdn;go_simp;exact hK _ _ True.intro (hinv.other 0 (by decide) (by decide) (by decide) (by decide)) (dsT (by trivial))
  refine .cons (fun l a W hfr hun hup hdn hinv hdep K hK=>?_) ?_
  · have t17:=tAt (.pointer (some ⟨w.heap.size,3,none⟩)) (hdep 17 (by kernel_rfl));refine fW0 rfl ?_;clear hfr hdep hun hup hdn;obtain ⟨c0,c1,c2,c3,c4,c5,c6,c7⟩:=hinv.c.c8;go_simp;exact hK _ _ True.intro (hinv.other 1 (by decide) (by decide) (by decide) (by decide)) (dsT (by trivial))
  refine .cons (fun l a W hfr hun hup hdn hinv hdep K hK=>?_) ?_
  · have t1:=tAt (.pointer (some ⟨w.heap.size,0,none⟩)) (hfr.at 1 (by kernel_rfl));refine fW0 rfl ?_;clear hfr hdep hun hup hdn;go_simp;exact hK _ _ True.intro (hinv.other 2 (by decide) (by decide) (by decide) (by decide)) (dsT (by trivial))
  refine .cons (fun l a W hfr hun hup hdn hinv hdep K hK=>?_) ?_
  · have t19:=tAt (.pointer (some ⟨w.heap.size,4,none⟩)) (hdep 19 (by kernel_rfl));refine fW0 rfl ?_;clear hfr hdep hun hup hdn;obtain ⟨c0,c1,c2,c3,c4,c5,c6,c7⟩:=hinv.c.c8;go_simp;exact hK _ _ True.intro (hinv.other 3 (by decide) (by decide) (by decide) (by decide)) (dsT (by trivial))
  refine .cons (fun l a W hfr hun hup hdn hinv hdep K hK=>?_) ?_
  · have t1:=tAt (.pointer (some ⟨w.heap.size,0,none⟩)) (hfr.at 1 (by kernel_rfl));refine fW0 rfl ?_;clear hfr hdep hun hup hdn;go_simp;exact hK _ _ True.intro (hinv.other 4 (by decide) (by decide) (by decide) (by decide)) (dsT (by trivial))
  refine .cons (fun l a W hfr hun hup hdn hinv hdep K hK=>?_) ?_
  · have t21:=tAt (.pointer (some ⟨w.heap.size,5,none⟩)) (hdep 21 (by kernel_rfl));refine fW0 rfl ?_;clear hfr hdep hun hup hdn;obtain ⟨c0,c1,c2,c3,c4,c5,c6,c7⟩:=hinv.c.c8;go_simp;exact hK _ _ True.intro (hinv.other 5 (by decide) (by decide) (by decide) (by decide)) (dsT (by trivial))
  refine .cons (fun l a W hfr hun hup hdn hinv hdep K hK=>?_) ?_
  · have t1:=tAt (.pointer (some ⟨w.heap.size,0,none⟩)) (hfr.at 1 (by kernel_rfl));refine fW0 rfl ?_;clear hfr hdep hun hup hdn;go_simp;exact hK _ _ True.intro (hinv.other 6 (by decide) (by decide) (by decide) (by decide)) (dsT (by trivial))
  refine .cons (fun l a W hfr hun hup hdn hinv hdep K hK=>?_) ?_
  · have t23:=tAt (.pointer (some ⟨w.heap.size,7,none⟩)) (hdep 23 (by kernel_rfl));refine fW0 rfl ?_;clear hfr hdep hun hup hdn;obtain ⟨c0,c1,c2,c3,c4,c5,c6,c7⟩:=hinv.c.c8;go_simp;exact hK _ _ True.intro (hinv.other 7 (by decide) (by decide) (by decide) (by decide)) (dsT (by trivial))
  refine .cons (fun l a W hfr hun hup hdn hinv hdep K hK=>?_) ?_
  · have t3:=tAt (.pointer (some ⟨w.heap.size+1+1,0,none⟩)) (hfr.at 3 (by kernel_rfl));refine fW0 rfl ?_;clear hfr hdep hun hup hdn;go_simp;exact hK _ _ True.intro (hinv.other 8 (by decide) (by decide) (by decide) (by decide)) (dsT (by trivial))
  refine .cons (fun l a W hfr hun hup hdn hinv hdep K hK=>?_) ?_
  · have t25:=tAt (.pointer (some ⟨w.heap.size+1+1,3,none⟩)) (hdep 25 (by kernel_rfl));have t18:=tAt (.int .u64 x) (hdep 18 (by kernel_rfl));refine fW0 rfl ?_;clear hfr hdep hun hup hdn;obtain ⟨⟨f0,f1,f2,f3⟩,x0,x1,x2,x3,y0,y1,y2,y3⟩:=hinv.fr;go_simp;exact hK undef _ True.intro hinv.s9 (fun d hd=>by cases hd)
  refine .cons (fun l a W hfr hun hup hdn hinv hdep K hK=>?_) ?_
  · have t3:=tAt (.pointer (some ⟨w.heap.size+1+1,0,none⟩)) (hfr.at 3 (by kernel_rfl));refine fW0 rfl ?_;clear hfr hdep hun hup hdn;go_simp;exact hK _ _ True.intro (hinv.other 10 (by decide) (by decide) (by decide) (by decide)) (dsT (by trivial))
  refine .cons (fun l a W hfr hun hup hdn hinv hdep K hK=>?_) ?_
  · have t26:=tAt (.pointer (some ⟨w.heap.size+1+1,4,none⟩)) (hdep 26 (by kernel_rfl));have t20:=tAt (.int .i64 g) (hdep 20 (by kernel_rfl));refine fW0 rfl ?_;clear hfr hdep hun hup hdn;obtain ⟨⟨f0,f1,f2,f3⟩,x0,x1,x2,x3,y0,y1,y2,y3⟩:=hinv.fr;go_simp;exact hK undef _ True.intro hinv.s11 (fun d hd=>by cases hd)
  refine .cons (fun l a W hfr hun hup hdn hinv hdep K hK=>?_) ?_
  · have t3:=tAt (.pointer (some ⟨w.heap.size+1+1,0,none⟩)) (hfr.at 3 (by kernel_rfl));refine fW0 rfl ?_;clear hfr hdep hun hup hdn;go_simp;exact hK _ _ True.intro (hinv.other 12 (by decide) (by decide) (by decide) (by decide)) (dsT (by trivial))
  refine .cons (fun l a W hfr hun hup hdn hinv hdep K hK=>?_) ?_
  · have t27:=tAt (.pointer (some ⟨w.heap.size+1+1,5,none⟩)) (hdep 27 (by kernel_rfl));have t22:=tAt (.int .i64 o) (hdep 22 (by kernel_rfl));refine fW0 rfl ?_;clear hfr hdep hun hup hdn;obtain ⟨⟨f0,f1,f2,f3⟩,x0,x1,x2,x3,y0,y1,y2,y3⟩:=hinv.fr;go_simp;exact hK undef _ True.intro hinv.s13 (fun d hd=>by cases hd)
  refine .cons (fun l a W hfr hun hup hdn hinv hdep K hK=>?_) ?_
  · have t3:=tAt (.pointer (some ⟨w.heap.size+1+1,0,none⟩)) (hfr.at 3 (by kernel_rfl));refine fW0 rfl ?_;clear hfr hdep hun hup hdn;go_simp;exact hK _ _ True.intro (hinv.other 14 (by decide) (by decide) (by decide) (by decide)) (dsT (by trivial))
  refine .cons (fun l a W hfr hun hup hdn hinv hdep K hK=>?_) ?_
  · have t28:=tAt (.pointer (some ⟨w.heap.size+1+1,7,none⟩)) (hdep 28 (by kernel_rfl));have t24:=tAt (.slice pa na ca) (hdep 24 (by kernel_rfl));refine fW0 rfl ?_;clear hfr hdep hun hup hdn;obtain ⟨⟨f0,f1,f2,f3⟩,x0,x1,x2,x3,y0,y1,y2,y3⟩:=hinv.fr;go_simp;exact hK undef _ True.intro hinv.s15 (fun d hd=>by cases hd)
  exact True.intro
 case fin=>
  intro a W l hfr hall hinv hsl
  have l9:l 9=true:=hall 9 (by decide);have l11:l 11=true:=hall 11 (by decide);have l13:l 13=true:=hall 13 (by decide);have l15:l 15=true:=hall 15 (by decide);have e:=Flow.frame hfr [17,18,19,20,21,22,23,24,25,26,27,28] (List.range 39) (by kernel_rfl) (by kernel_rfl)
  simp [List.range,List.range.loop] at e
  rw [e]
  unfold In9 at hinv
  simp only [l9,l11,l13,l15,cond_true] at hinv
  clear HN;have HN:=Lib.hid hinv;clear e hfr hsl hall hinv l9 l11 l13 l15
  first
  | (rename_i hB;refine hB _ _ ?_)
  | (rename_i hB y0;refine hB _ _ ?_)
  | (rename_i hB y0 y1;refine hB _ _ ?_)
  | (rename_i hB y0 y1 y2;refine hB _ _ ?_)
  | (rename_i hB y0 y1 y2 y3;refine hB _ _ ?_)
  | (rename_i hB y0 y1 y2 y3 y4;refine hB _ _ ?_)
  | (rename_i hB y0 y1 y2 y3 y4 y5;refine hB _ _ ?_)
  | (rename_i hB y0 y1 y2 y3 y4 y5 y6;refine hB _ _ ?_)
  | (rename_i hB y0 y1 y2 y3 y4 y5 y6 y7;refine hB _ _ ?_)
  | (rename_i hB y0 y1 y2 y3 y4 y5 y6 y7 y8;refine hB _ _ ?_)
  | (rename_i hB y0 y1 y2 y3 y4 y5 y6 y7 y8 y9;refine hB _ _ ?_)
  | (rename_i hB y0 y1 y2 y3 y4 y5 y6 y7 y8 y9 y10;refine hB _ _ ?_)
  | (rename_i hB y0 y1 y2 y3 y4 y5 y6 y7 y8 y9 y10 y11;refine hB _ _ ?_)
  | (rename_i hB y0 y1 y2 y3 y4 y5 y6 y7 y8 y9 y10 y11 y12;refine hB _ _ ?_)
  | (rename_i hB y0 y1 y2 y3 y4 y5 y6 y7 y8 y9 y10 y11 y12 y13;refine hB _ _ ?_)
  | (rename_i hB y0 y1 y2 y3 y4 y5 y6 y7 y8 y9 y10 y11 y12 y13 y14;refine hB _ _ ?_)
  go_wp2_with fail;refine Flow.regionS [] 20 (SlN102 t p x g o pb nb cb pa na ca w.heap.size (w.heap.size+1+1)) (In10 w #[.int .i64 2,.int .u64 t,.int .u64 p,.int .u64 x,.int .i64 g,.int .i64 o,.slice pb nb cb,.slice pa na ca] (.int .i64 2) (.int .u64 t) (.int .u64 p) (.int .i64 0) (.int .u64 0) (.int .u64 0) (.int .u64 x) (.int .i64 g) (.int .i64 o) (.slice none 0 0) (.slice pa na ca)) (fun _ _ _=>True) (by kernel_rfl) (by kernel_rfl) (fun _ _ _ _ _ _ h _=>h) (HN.out.heap rfl) ?steps ?fin
  case steps=>
   refine .cons (fun l a W hfr hun hup hdn hinv hdep K hK=>?_) ?_
   · have t1:=tAt (.pointer (some ⟨w.heap.size,0,none⟩)) (hfr.at 1 (by kernel_rfl));refine fW0 rfl ?_;clear hfr hdep hun hup hdn;go_simp;exact hK _ _ True.intro (hinv.other 0 (by decide) (by decide) (by decide)) (dsT (by trivial))
   refine .cons (fun l a W hfr hun hup hdn hinv hdep K hK=>?_) ?_
   · have t29:=tAt (.pointer (some ⟨w.heap.size,0,none⟩)) (hdep 29 (by kernel_rfl));refine fW0 rfl ?_;clear hfr hdep hun hup hdn;obtain ⟨c0,c1,c2,c3,c4,c5,c6,c7⟩:=hinv.c.c8;go_simp;exact hK _ _ True.intro (hinv.other 1 (by decide) (by decide) (by decide)) (dsT (by trivial))
   refine .cons (fun l a W hfr hun hup hdn hinv hdep K hK=>?_) ?_
   · have t1:=tAt (.pointer (some ⟨w.heap.size,0,none⟩)) (hfr.at 1 (by kernel_rfl));refine fW0 rfl ?_;clear hfr hdep hun hup hdn;go_simp;exact hK _ _ True.intro (hinv.other 2 (by decide) (by decide) (by decide)) (dsT (by trivial))
   refine .cons (fun l a W hfr hun hup hdn hinv hdep K hK=>?_) ?_
   · have t31:=tAt (.pointer (some ⟨w.heap.size,1,none⟩)) (hdep 31 (by kernel_rfl));refine fW0 rfl ?_;clear hfr hdep hun hup hdn;obtain ⟨c0,c1,c2,c3,c4,c5,c6,c7⟩:=hinv.c.c8;go_simp;exact hK _ _ True.intro (hinv.other 3 (by decide) (by decide) (by decide)) (dsT (by trivial))
   refine .cons (fun l a W hfr hun hup hdn hinv hdep K hK=>?_) ?_
   · have t1:=tAt (.pointer (some ⟨w.heap.size,0,none⟩)) (hfr.at 1 (by kernel_rfl));refine fW0 rfl ?_;clear hfr hdep hun hup hdn;go_simp;exact hK _ _ True.intro (hinv.other 4 (by decide) (by decide) (by decide)) (dsT (by trivial))
   refine .cons (fun l a W hfr hun hup hdn hinv hdep K hK=>?_) ?_
   · have t33:=tAt (.pointer (some ⟨w.heap.size,2,none⟩)) (hdep 33 (by kernel_rfl));refine fW0 rfl ?_;clear hfr hdep hun hup hdn;obtain ⟨c0,c1,c2,c3,c4,c5,c6,c7⟩:=hinv.c.c8;go_simp;exact hK _ _ True.intro (hinv.other 5 (by decide) (by decide) (by decide)) (dsT (by trivial))
   refine .cons (fun l a W hfr hun hup hdn hinv hdep K hK=>?_) ?_
   · have t3:=tAt (.pointer (some ⟨w.heap.size+1+1,0,none⟩)) (hfr.at 3 (by kernel_rfl));refine fW0 rfl ?_;clear hfr hdep hun hup hdn;go_simp;exact hK _ _ True.intro (hinv.other 6 (by decide) (by decide) (by decide)) (dsT (by trivial))
   refine .cons (fun l a W hfr hun hup hdn hinv hdep K hK=>?_) ?_
   · have t35:=tAt (.pointer (some ⟨w.heap.size+1+1,0,none⟩)) (hdep 35 (by kernel_rfl));have t30:=tAt (.int .i64 2) (hdep 30 (by kernel_rfl));refine fW0 rfl ?_;clear hfr hdep hun hup hdn;obtain ⟨⟨f0,f1,f2⟩,x0,x1,x2,y0,y1,y2⟩:=hinv.fr;go_simp;exact hK undef _ True.intro hinv.s7 (fun d hd=>by cases hd)
   refine .cons (fun l a W hfr hun hup hdn hinv hdep K hK=>?_) ?_
   · have t3:=tAt (.pointer (some ⟨w.heap.size+1+1,0,none⟩)) (hfr.at 3 (by kernel_rfl));refine fW0 rfl ?_;clear hfr hdep hun hup hdn;go_simp;exact hK _ _ True.intro (hinv.other 8 (by decide) (by decide) (by decide)) (dsT (by trivial))
   refine .cons (fun l a W hfr hun hup hdn hinv hdep K hK=>?_) ?_
   · have t36:=tAt (.pointer (some ⟨w.heap.size+1+1,1,none⟩)) (hdep 36 (by kernel_rfl));have t32:=tAt (.int .u64 t) (hdep 32 (by kernel_rfl));refine fW0 rfl ?_;clear hfr hdep hun hup hdn;obtain ⟨⟨f0,f1,f2⟩,x0,x1,x2,y0,y1,y2⟩:=hinv.fr;go_simp;exact hK undef _ True.intro hinv.s9 (fun d hd=>by cases hd)
   refine .cons (fun l a W hfr hun hup hdn hinv hdep K hK=>?_) ?_
   · have t3:=tAt (.pointer (some ⟨w.heap.size+1+1,0,none⟩)) (hfr.at 3 (by kernel_rfl));refine fW0 rfl ?_;clear hfr hdep hun hup hdn;go_simp;exact hK _ _ True.intro (hinv.other 10 (by decide) (by decide) (by decide)) (dsT (by trivial))
   refine .cons (fun l a W hfr hun hup hdn hinv hdep K hK=>?_) ?_
   · have t37:=tAt (.pointer (some ⟨w.heap.size+1+1,2,none⟩)) (hdep 37 (by kernel_rfl));have t34:=tAt (.int .u64 p) (hdep 34 (by kernel_rfl));refine fW0 rfl ?_;clear hfr hdep hun hup hdn;obtain ⟨⟨f0,f1,f2⟩,x0,x1,x2,y0,y1,y2⟩:=hinv.fr;go_simp;exact hK undef _ True.intro hinv.s11 (fun d hd=>by cases hd)
   exact True.intro
  case fin=>
   intro a W l hfr hall hinv hsl
   have l7:l 7=true:=hall 7 (by decide);have l9:l 9=true:=hall 9 (by decide);have l11:l 11=true:=hall 11 (by decide);have e:=Flow.frame hfr [29,30,31,32,33,34,35,36,37] (List.range 39) (by kernel_rfl) (by kernel_rfl)
   simp [List.range,List.range.loop] at e
   rw [e]
   unfold In10 at hinv
   simp only [l7,l9,l11,cond_true] at hinv
   clear HN;have HN:=Lib.hid hinv;clear e hfr hsl hall hinv l7 l9 l11
   first
   | (rename_i hB;refine hB _ _ ?_)
   | (rename_i hB y0;refine hB _ _ ?_)
   | (rename_i hB y0 y1;refine hB _ _ ?_)
   | (rename_i hB y0 y1 y2;refine hB _ _ ?_)
   | (rename_i hB y0 y1 y2 y3;refine hB _ _ ?_)
   | (rename_i hB y0 y1 y2 y3 y4;refine hB _ _ ?_)
   | (rename_i hB y0 y1 y2 y3 y4 y5;refine hB _ _ ?_)
   | (rename_i hB y0 y1 y2 y3 y4 y5 y6;refine hB _ _ ?_)
   | (rename_i hB y0 y1 y2 y3 y4 y5 y6 y7;refine hB _ _ ?_)
   | (rename_i hB y0 y1 y2 y3 y4 y5 y6 y7 y8;refine hB _ _ ?_)
   | (rename_i hB y0 y1 y2 y3 y4 y5 y6 y7 y8 y9;refine hB _ _ ?_)
   | (rename_i hB y0 y1 y2 y3 y4 y5 y6 y7 y8 y9 y10;refine hB _ _ ?_)
   | (rename_i hB y0 y1 y2 y3 y4 y5 y6 y7 y8 y9 y10 y11;refine hB _ _ ?_)
   | (rename_i hB y0 y1 y2 y3 y4 y5 y6 y7 y8 y9 y10 y11 y12;refine hB _ _ ?_)
   | (rename_i hB y0 y1 y2 y3 y4 y5 y6 y7 y8 y9 y10 y11 y12 y13;refine hB _ _ ?_)
   | (rename_i hB y0 y1 y2 y3 y4 y5 y6 y7 y8 y9 y10 y11 y12 y13 y14;refine hB _ _ ?_)
   obtain ⟨c0,c1,c2,c3,c4,c5,c6,c7⟩:=HN.out.e.c8;have hz:=HN.out.z.c8;obtain ⟨d0,d1,d2,d3,d4,d5,d6,d7⟩:=hz;obtain ⟨q0,q1,q2,q3,q4,q5,q6,q7⟩:=HN.out.z.f8;go_wp2_with fail;exact bodyPost_ret (results_rec rfl _ _ (w.heap.size+1) #[.int .i64 2,.int .u64 t,.int .u64 p,.int .u64 x,.int .i64 g,.int .i64 o,.slice none 0 0,.slice pa na ca] rfl rfl ((((((((HN.out.z.set 0 _).set 1 _).set 2 _).set 3 _).set 4 _).set 5 _).set 6 _).set 7 _)) rfl ⟨rfl,below_set8 HN.out.gr (by omega)⟩
set_option maxRecDepth 100000 in
set_option maxHeartbeats 4000000 in
theorem named3 (t:Nat) (p:Nat) (x:Nat) (g:Int) (o:Int) (pb:Option Addr) (nb:Nat) (cb:Nat) (pa:Option Addr) (na:Nat) (ca:Nat) (w:World):Calls Tryz.prog 136 #[.agg #[.int .i64 3,.int .u64 t,.int .u64 p,.int .u64 x,.int .i64 g,.int .i64 o,.slice pb nb cb,.slice pa na ca]] w (RetV (.agg #[.int .i64 3,.int .u64 t,.int .u64 p,.int .u64 0,.int .i64 0,.int .i64 0,.slice none 0 0,.slice none 0 0]) w):=by
 have HN:=Lib.hid (NamAt.new w #[.int .i64 3,.int .u64 t,.int .u64 p,.int .u64 x,.int .i64 g,.int .i64 o,.slice pb nb cb,.slice pa na ca])
 go_enter Tryz.func136,Tryz.ntmps136
 go_upto_region 2 with fail
 generalize (((w.alloc (.cells #[.int .i64 3,.int .u64 t,.int .u64 p,.int .u64 x,.int .i64 g,.int .i64 o,.slice pb nb cb,.slice pa na ca] TR)).alloc (.cells #[.int .i64 0,.int .u64 0,.int .u64 0,.int .u64 0,.int .i64 0,.int .i64 0,.slice none 0 0,.slice none 0 0] TR)).alloc (.cells #[.int .i64 0,.int .u64 0,.int .u64 0,.int .u64 0,.int .i64 0,.int .i64 0,.slice none 0 0,.slice none 0 0] TR))=W1 at HN ⊢
 obtain ⟨c0,c1,c2,c3,c4,c5,c6,c7⟩:=HN.out.c.c8;obtain ⟨d0,d1,d2,d3,d4,d5,d6,d7⟩:=HN.out.e.c8;have f6:=HN.out.e.frozen 6;have f3:=HN.out.c.frozen 3;go_wp2_with fail;clear c0 c1 c2 c3 c4 c5 c6 c7 d0 d1 d2 d3 d4 d5 d6 d7 f6 f3;refine Flow.regionS [] 20 (SlN103 t p x g o pb nb cb pa na ca w.heap.size (w.heap.size+1+1)) (In10 w #[.int .i64 3,.int .u64 t,.int .u64 p,.int .u64 x,.int .i64 g,.int .i64 o,.slice pb nb cb,.slice pa na ca] (.int .i64 3) (.int .u64 t) (.int .u64 p) (.int .i64 0) (.int .u64 0) (.int .u64 0) (.int .u64 0) (.int .i64 0) (.int .i64 0) (.slice none 0 0) (.slice none 0 0)) (fun _ _ _=>True) (by kernel_rfl) (by kernel_rfl) (fun _ _ _ _ _ _ h _=>h) (HN.out.heap rfl) ?steps ?fin
 case steps=>
  refine .cons (fun l a W hfr hun hup hdn hinv hdep K hK=>?_) ?_
  · have t1:=tAt (.pointer (some ⟨w.heap.size,0,none⟩)) (hfr.at 1 (by kernel_rfl));refine fW0 rfl ?_;clear hfr hdep hun hup hdn;go_simp;exact hK _ _ True.intro (hinv.other 0 (by decide) (by decide) (by decide)) (dsT (by trivial))
  refine .cons (fun l a W hfr hun hup hdn hinv hdep K hK=>?_) ?_
  · have t29:=tAt (.pointer (some ⟨w.heap.size,0,none⟩)) (hdep 29 (by kernel_rfl));refine fW0 rfl ?_;clear hfr hdep hun hup hdn;obtain ⟨c0,c1,c2,c3,c4,c5,c6,c7⟩:=hinv.c.c8;go_simp;exact hK _ _ True.intro (hinv.other 1 (by decide) (by decide) (by decide)) (dsT (by trivial))
  refine .cons (fun l a W hfr hun hup hdn hinv hdep K hK=>?_) ?_
  · have t1:=tAt (.pointer (some ⟨w.heap.size,0,none⟩)) (hfr.at 1 (by kernel_rfl));refine fW0 rfl ?_;clear hfr hdep hun hup hdn;go_simp;exact hK _ _ True.intro (hinv.other 2 (by decide) (by decide) (by decide)) (dsT (by trivial))
  refine .cons (fun l a W hfr hun hup hdn hinv hdep K hK=>?_) ?_
  · have t31:=tAt (.pointer (some ⟨w.heap.size,1,none⟩)) (hdep 31 (by kernel_rfl));refine fW0 rfl ?_;clear hfr hdep hun hup hdn;obtain ⟨c0,c1,c2,c3,c4,c5,c6,c7⟩:=hinv.c.c8;go_simp;exact hK _ _ True.intro (hinv.other 3 (by decide) (by decide) (by decide)) (dsT (by trivial))
  refine .cons (fun l a W hfr hun hup hdn hinv hdep K hK=>?_) ?_
  · have t1:=tAt (.pointer (some ⟨w.heap.size,0,none⟩)) (hfr.at 1 (by kernel_rfl));refine fW0 rfl ?_;clear hfr hdep hun hup hdn;go_simp;exact hK _ _ True.intro (hinv.other 4 (by decide) (by decide) (by decide)) (dsT (by trivial))
  refine .cons (fun l a W hfr hun hup hdn hinv hdep K hK=>?_) ?_
  · have t33:=tAt (.pointer (some ⟨w.heap.size,2,none⟩)) (hdep 33 (by kernel_rfl));refine fW0 rfl ?_;clear hfr hdep hun hup hdn;obtain ⟨c0,c1,c2,c3,c4,c5,c6,c7⟩:=hinv.c.c8;go_simp;exact hK _ _ True.intro (hinv.other 5 (by decide) (by decide) (by decide)) (dsT (by trivial))
  refine .cons (fun l a W hfr hun hup hdn hinv hdep K hK=>?_) ?_
  · have t3:=tAt (.pointer (some ⟨w.heap.size+1+1,0,none⟩)) (hfr.at 3 (by kernel_rfl));refine fW0 rfl ?_;clear hfr hdep hun hup hdn;go_simp;exact hK _ _ True.intro (hinv.other 6 (by decide) (by decide) (by decide)) (dsT (by trivial))
  refine .cons (fun l a W hfr hun hup hdn hinv hdep K hK=>?_) ?_
  · have t35:=tAt (.pointer (some ⟨w.heap.size+1+1,0,none⟩)) (hdep 35 (by kernel_rfl));have t30:=tAt (.int .i64 3) (hdep 30 (by kernel_rfl));refine fW0 rfl ?_;clear hfr hdep hun hup hdn;obtain ⟨⟨f0,f1,f2⟩,x0,x1,x2,y0,y1,y2⟩:=hinv.fr;go_simp;exact hK undef _ True.intro hinv.s7 (fun d hd=>by cases hd)
  refine .cons (fun l a W hfr hun hup hdn hinv hdep K hK=>?_) ?_
  · have t3:=tAt (.pointer (some ⟨w.heap.size+1+1,0,none⟩)) (hfr.at 3 (by kernel_rfl));refine fW0 rfl ?_;clear hfr hdep hun hup hdn;go_simp;exact hK _ _ True.intro (hinv.other 8 (by decide) (by decide) (by decide)) (dsT (by trivial))
  refine .cons (fun l a W hfr hun hup hdn hinv hdep K hK=>?_) ?_
  · have t36:=tAt (.pointer (some ⟨w.heap.size+1+1,1,none⟩)) (hdep 36 (by kernel_rfl));have t32:=tAt (.int .u64 t) (hdep 32 (by kernel_rfl));refine fW0 rfl ?_;clear hfr hdep hun hup hdn;obtain ⟨⟨f0,f1,f2⟩,x0,x1,x2,y0,y1,y2⟩:=hinv.fr;go_simp;exact hK undef _ True.intro hinv.s9 (fun d hd=>by cases hd)
  refine .cons (fun l a W hfr hun hup hdn hinv hdep K hK=>?_) ?_
  · have t3:=tAt (.pointer (some ⟨w.heap.size+1+1,0,none⟩)) (hfr.at 3 (by kernel_rfl));refine fW0 rfl ?_;clear hfr hdep hun hup hdn;go_simp;exact hK _ _ True.intro (hinv.other 10 (by decide) (by decide) (by decide)) (dsT (by trivial))
  refine .cons (fun l a W hfr hun hup hdn hinv hdep K hK=>?_) ?_
  · have t37:=tAt (.pointer (some ⟨w.heap.size+1+1,2,none⟩)) (hdep 37 (by kernel_rfl));have t34:=tAt (.int .u64 p) (hdep 34 (by kernel_rfl));refine fW0 rfl ?_;clear hfr hdep hun hup hdn;obtain ⟨⟨f0,f1,f2⟩,x0,x1,x2,y0,y1,y2⟩:=hinv.fr;go_simp;exact hK undef _ True.intro hinv.s11 (fun d hd=>by cases hd)
  exact True.intro
 case fin=>
  intro a W l hfr hall hinv hsl
  have l7:l 7=true:=hall 7 (by decide);have l9:l 9=true:=hall 9 (by decide);have l11:l 11=true:=hall 11 (by decide);have e:=Flow.frame hfr [29,30,31,32,33,34,35,36,37] (List.range 39) (by kernel_rfl) (by kernel_rfl)
  simp [List.range,List.range.loop] at e
  rw [e]
  unfold In10 at hinv
  simp only [l7,l9,l11,cond_true] at hinv
  clear HN;have HN:=Lib.hid hinv;clear e hfr hsl hall hinv l7 l9 l11
  first
  | (rename_i hB;refine hB _ _ ?_)
  | (rename_i hB y0;refine hB _ _ ?_)
  | (rename_i hB y0 y1;refine hB _ _ ?_)
  | (rename_i hB y0 y1 y2;refine hB _ _ ?_)
  | (rename_i hB y0 y1 y2 y3;refine hB _ _ ?_)
  | (rename_i hB y0 y1 y2 y3 y4;refine hB _ _ ?_)
  | (rename_i hB y0 y1 y2 y3 y4 y5;refine hB _ _ ?_)
  | (rename_i hB y0 y1 y2 y3 y4 y5 y6;refine hB _ _ ?_)
  | (rename_i hB y0 y1 y2 y3 y4 y5 y6 y7;refine hB _ _ ?_)
  | (rename_i hB y0 y1 y2 y3 y4 y5 y6 y7 y8;refine hB _ _ ?_)
  | (rename_i hB y0 y1 y2 y3 y4 y5 y6 y7 y8 y9;refine hB _ _ ?_)
  | (rename_i hB y0 y1 y2 y3 y4 y5 y6 y7 y8 y9 y10;refine hB _ _ ?_)
  | (rename_i hB y0 y1 y2 y3 y4 y5 y6 y7 y8 y9 y10 y11;refine hB _ _ ?_)
  | (rename_i hB y0 y1 y2 y3 y4 y5 y6 y7 y8 y9 y10 y11 y12;refine hB _ _ ?_)
  | (rename_i hB y0 y1 y2 y3 y4 y5 y6 y7 y8 y9 y10 y11 y12 y13;refine hB _ _ ?_)
  | (rename_i hB y0 y1 y2 y3 y4 y5 y6 y7 y8 y9 y10 y11 y12 y13 y14;refine hB _ _ ?_)
  obtain ⟨c0,c1,c2,c3,c4,c5,c6,c7⟩:=HN.out.e.c8;have hz:=HN.out.z.c8;obtain ⟨d0,d1,d2,d3,d4,d5,d6,d7⟩:=hz;obtain ⟨q0,q1,q2,q3,q4,q5,q6,q7⟩:=HN.out.z.f8;go_wp2_with fail;exact bodyPost_ret (results_rec rfl _ _ (w.heap.size+1) #[.int .i64 3,.int .u64 t,.int .u64 p,.int .u64 0,.int .i64 0,.int .i64 0,.slice none 0 0,.slice none 0 0] rfl rfl ((((((((HN.out.z.set 0 _).set 1 _).set 2 _).set 3 _).set 4 _).set 5 _).set 6 _).set 7 _)) rfl ⟨rfl,below_set8 HN.out.gr (by omega)⟩
set_option maxRecDepth 100000 in
set_option maxHeartbeats 4000000 in
theorem named4 (t:Nat) (p:Nat) (x:Nat) (g:Int) (o:Int) (pb:Option Addr) (nb:Nat) (cb:Nat) (pa:Option Addr) (na:Nat) (ca:Nat) (w:World):Calls Tryz.prog 136 #[.agg #[.int .i64 4,.int .u64 t,.int .u64 p,.int .u64 x,.int .i64 g,.int .i64 o,.slice pb nb cb,.slice pa na ca]] w (RetV (.agg #[.int .i64 4,.int .u64 t,.int .u64 p,.int .u64 0,.int .i64 0,.int .i64 0,.slice none 0 0,.slice none 0 0]) w):=by
 have HN:=Lib.hid (NamAt.new w #[.int .i64 4,.int .u64 t,.int .u64 p,.int .u64 x,.int .i64 g,.int .i64 o,.slice pb nb cb,.slice pa na ca])
 go_enter Tryz.func136,Tryz.ntmps136
 go_upto_region 2 with fail
 generalize (((w.alloc (.cells #[.int .i64 4,.int .u64 t,.int .u64 p,.int .u64 x,.int .i64 g,.int .i64 o,.slice pb nb cb,.slice pa na ca] TR)).alloc (.cells #[.int .i64 0,.int .u64 0,.int .u64 0,.int .u64 0,.int .i64 0,.int .i64 0,.slice none 0 0,.slice none 0 0] TR)).alloc (.cells #[.int .i64 0,.int .u64 0,.int .u64 0,.int .u64 0,.int .i64 0,.int .i64 0,.slice none 0 0,.slice none 0 0] TR))=W1 at HN ⊢
 obtain ⟨c0,c1,c2,c3,c4,c5,c6,c7⟩:=HN.out.c.c8;obtain ⟨d0,d1,d2,d3,d4,d5,d6,d7⟩:=HN.out.e.c8;have f6:=HN.out.e.frozen 6;have f3:=HN.out.c.frozen 3;go_wp2_with fail;clear c0 c1 c2 c3 c4 c5 c6 c7 d0 d1 d2 d3 d4 d5 d6 d7 f6 f3;refine Flow.regionS [] 20 (SlN104 t p x g o pb nb cb pa na ca w.heap.size (w.heap.size+1+1)) (In10 w #[.int .i64 4,.int .u64 t,.int .u64 p,.int .u64 x,.int .i64 g,.int .i64 o,.slice pb nb cb,.slice pa na ca] (.int .i64 4) (.int .u64 t) (.int .u64 p) (.int .i64 0) (.int .u64 0) (.int .u64 0) (.int .u64 0) (.int .i64 0) (.int .i64 0) (.slice none 0 0) (.slice none 0 0)) (fun _ _ _=>True) (by kernel_rfl) (by kernel_rfl) (fun _ _ _ _ _ _ h _=>h) (HN.out.heap rfl) ?steps ?fin
 case steps=>
  refine .cons (fun l a W hfr hun hup hdn hinv hdep K hK=>?_) ?_
  · have t1:=tAt (.pointer (some ⟨w.heap.size,0,none⟩)) (hfr.at 1 (by kernel_rfl));refine fW0 rfl ?_;clear hfr hdep hun hup hdn;go_simp;exact hK _ _ True.intro (hinv.other 0 (by decide) (by decide) (by decide)) (dsT (by trivial))
  refine .cons (fun l a W hfr hun hup hdn hinv hdep K hK=>?_) ?_
  · have t29:=tAt (.pointer (some ⟨w.heap.size,0,none⟩)) (hdep 29 (by kernel_rfl));refine fW0 rfl ?_;clear hfr hdep hun hup hdn;obtain ⟨c0,c1,c2,c3,c4,c5,c6,c7⟩:=hinv.c.c8;go_simp;exact hK _ _ True.intro (hinv.other 1 (by decide) (by decide) (by decide)) (dsT (by trivial))
  refine .cons (fun l a W hfr hun hup hdn hinv hdep K hK=>?_) ?_
  · have t1:=tAt (.pointer (some ⟨w.heap.size,0,none⟩)) (hfr.at 1 (by kernel_rfl));refine fW0 rfl ?_;clear hfr hdep hun hup hdn;go_simp;exact hK _ _ True.intro (hinv.other 2 (by decide) (by decide) (by decide)) (dsT (by trivial))
  refine .cons (fun l a W hfr hun hup hdn hinv hdep K hK=>?_) ?_
  · have t31:=tAt (.pointer (some ⟨w.heap.size,1,none⟩)) (hdep 31 (by kernel_rfl));refine fW0 rfl ?_;clear hfr hdep hun hup hdn;obtain ⟨c0,c1,c2,c3,c4,c5,c6,c7⟩:=hinv.c.c8;go_simp;exact hK _ _ True.intro (hinv.other 3 (by decide) (by decide) (by decide)) (dsT (by trivial))
  refine .cons (fun l a W hfr hun hup hdn hinv hdep K hK=>?_) ?_
  · have t1:=tAt (.pointer (some ⟨w.heap.size,0,none⟩)) (hfr.at 1 (by kernel_rfl));refine fW0 rfl ?_;clear hfr hdep hun hup hdn;go_simp;exact hK _ _ True.intro (hinv.other 4 (by decide) (by decide) (by decide)) (dsT (by trivial))
  refine .cons (fun l a W hfr hun hup hdn hinv hdep K hK=>?_) ?_
  · have t33:=tAt (.pointer (some ⟨w.heap.size,2,none⟩)) (hdep 33 (by kernel_rfl));refine fW0 rfl ?_;clear hfr hdep hun hup hdn;obtain ⟨c0,c1,c2,c3,c4,c5,c6,c7⟩:=hinv.c.c8;go_simp;exact hK _ _ True.intro (hinv.other 5 (by decide) (by decide) (by decide)) (dsT (by trivial))
  refine .cons (fun l a W hfr hun hup hdn hinv hdep K hK=>?_) ?_
  · have t3:=tAt (.pointer (some ⟨w.heap.size+1+1,0,none⟩)) (hfr.at 3 (by kernel_rfl));refine fW0 rfl ?_;clear hfr hdep hun hup hdn;go_simp;exact hK _ _ True.intro (hinv.other 6 (by decide) (by decide) (by decide)) (dsT (by trivial))
  refine .cons (fun l a W hfr hun hup hdn hinv hdep K hK=>?_) ?_
  · have t35:=tAt (.pointer (some ⟨w.heap.size+1+1,0,none⟩)) (hdep 35 (by kernel_rfl));have t30:=tAt (.int .i64 4) (hdep 30 (by kernel_rfl));refine fW0 rfl ?_;clear hfr hdep hun hup hdn;obtain ⟨⟨f0,f1,f2⟩,x0,x1,x2,y0,y1,y2⟩:=hinv.fr;go_simp;exact hK undef _ True.intro hinv.s7 (fun d hd=>by cases hd)
  refine .cons (fun l a W hfr hun hup hdn hinv hdep K hK=>?_) ?_
  · have t3:=tAt (.pointer (some ⟨w.heap.size+1+1,0,none⟩)) (hfr.at 3 (by kernel_rfl));refine fW0 rfl ?_;clear hfr hdep hun hup hdn;go_simp;exact hK _ _ True.intro (hinv.other 8 (by decide) (by decide) (by decide)) (dsT (by trivial))
  refine .cons (fun l a W hfr hun hup hdn hinv hdep K hK=>?_) ?_
  · have t36:=tAt (.pointer (some ⟨w.heap.size+1+1,1,none⟩)) (hdep 36 (by kernel_rfl));have t32:=tAt (.int .u64 t) (hdep 32 (by kernel_rfl));refine fW0 rfl ?_;clear hfr hdep hun hup hdn;obtain ⟨⟨f0,f1,f2⟩,x0,x1,x2,y0,y1,y2⟩:=hinv.fr;go_simp;exact hK undef _ True.intro hinv.s9 (fun d hd=>by cases hd)
  refine .cons (fun l a W hfr hun hup hdn hinv hdep K hK=>?_) ?_
  · have t3:=tAt (.pointer (some ⟨w.heap.size+1+1,0,none⟩)) (hfr.at 3 (by kernel_rfl));refine fW0 rfl ?_;clear hfr hdep hun hup hdn;go_simp;exact hK _ _ True.intro (hinv.other 10 (by decide) (by decide) (by decide)) (dsT (by trivial))
  refine .cons (fun l a W hfr hun hup hdn hinv hdep K hK=>?_) ?_
  · have t37:=tAt (.pointer (some ⟨w.heap.size+1+1,2,none⟩)) (hdep 37 (by kernel_rfl));have t34:=tAt (.int .u64 p) (hdep 34 (by kernel_rfl));refine fW0 rfl ?_;clear hfr hdep hun hup hdn;obtain ⟨⟨f0,f1,f2⟩,x0,x1,x2,y0,y1,y2⟩:=hinv.fr;go_simp;exact hK undef _ True.intro hinv.s11 (fun d hd=>by cases hd)
  exact True.intro
 case fin=>
  intro a W l hfr hall hinv hsl
  have l7:l 7=true:=hall 7 (by decide);have l9:l 9=true:=hall 9 (by decide);have l11:l 11=true:=hall 11 (by decide);have e:=Flow.frame hfr [29,30,31,32,33,34,35,36,37] (List.range 39) (by kernel_rfl) (by kernel_rfl)
  simp [List.range,List.range.loop] at e
  rw [e]
  unfold In10 at hinv
  simp only [l7,l9,l11,cond_true] at hinv
  clear HN;have HN:=Lib.hid hinv;clear e hfr hsl hall hinv l7 l9 l11
  first
  | (rename_i hB;refine hB _ _ ?_)
  | (rename_i hB y0;refine hB _ _ ?_)
  | (rename_i hB y0 y1;refine hB _ _ ?_)
  | (rename_i hB y0 y1 y2;refine hB _ _ ?_)
  | (rename_i hB y0 y1 y2 y3;refine hB _ _ ?_)
  | (rename_i hB y0 y1 y2 y3 y4;refine hB _ _ ?_)
  | (rename_i hB y0 y1 y2 y3 y4 y5;refine hB _ _ ?_)
  | (rename_i hB y0 y1 y2 y3 y4 y5 y6;refine hB _ _ ?_)
  | (rename_i hB y0 y1 y2 y3 y4 y5 y6 y7;refine hB _ _ ?_)
  | (rename_i hB y0 y1 y2 y3 y4 y5 y6 y7 y8;refine hB _ _ ?_)
  | (rename_i hB y0 y1 y2 y3 y4 y5 y6 y7 y8 y9;refine hB _ _ ?_)
  | (rename_i hB y0 y1 y2 y3 y4 y5 y6 y7 y8 y9 y10;refine hB _ _ ?_)
  | (rename_i hB y0 y1 y2 y3 y4 y5 y6 y7 y8 y9 y10 y11;refine hB _ _ ?_)
  | (rename_i hB y0 y1 y2 y3 y4 y5 y6 y7 y8 y9 y10 y11 y12;refine hB _ _ ?_)
  | (rename_i hB y0 y1 y2 y3 y4 y5 y6 y7 y8 y9 y10 y11 y12 y13;refine hB _ _ ?_)
  | (rename_i hB y0 y1 y2 y3 y4 y5 y6 y7 y8 y9 y10 y11 y12 y13 y14;refine hB _ _ ?_)
  obtain ⟨c0,c1,c2,c3,c4,c5,c6,c7⟩:=HN.out.e.c8;have hz:=HN.out.z.c8;obtain ⟨d0,d1,d2,d3,d4,d5,d6,d7⟩:=hz;obtain ⟨q0,q1,q2,q3,q4,q5,q6,q7⟩:=HN.out.z.f8;go_wp2_with fail;exact bodyPost_ret (results_rec rfl _ _ (w.heap.size+1) #[.int .i64 4,.int .u64 t,.int .u64 p,.int .u64 0,.int .i64 0,.int .i64 0,.slice none 0 0,.slice none 0 0] rfl rfl ((((((((HN.out.z.set 0 _).set 1 _).set 2 _).set 3 _).set 4 _).set 5 _).set 6 _).set 7 _)) rfl ⟨rfl,below_set8 HN.out.gr (by omega)⟩
set_option maxRecDepth 100000 in
theorem named0 (k:Int) (t:Nat) (p:Nat) (x:Nat) (g:Int) (o:Int) (pb:Option Addr) (nb:Nat) (cb:Nat) (pa:Option Addr) (na:Nat) (ca:Nat) (w:World) (h1:¬ k=1) (h2:¬ k=2) (h3:¬ k=3) (h4:¬ k=4):Calls Tryz.prog 136 #[.agg #[.int .i64 k,.int .u64 t,.int .u64 p,.int .u64 x,.int .i64 g,.int .i64 o,.slice pb nb cb,.slice pa na ca]] w (RetV (.agg #[.int .i64 0,.int .u64 0,.int .u64 0,.int .u64 0,.int .i64 0,.int .i64 0,.slice none 0 0,.slice none 0 0]) w):=by
 have HN:=Lib.hid (NamAt.new w #[.int .i64 k,.int .u64 t,.int .u64 p,.int .u64 x,.int .i64 g,.int .i64 o,.slice pb nb cb,.slice pa na ca])
 go_enter Tryz.func136,Tryz.ntmps136
 go_upto_region 2 with fail
 generalize (((w.alloc (.cells #[.int .i64 k,.int .u64 t,.int .u64 p,.int .u64 x,.int .i64 g,.int .i64 o,.slice pb nb cb,.slice pa na ca] TR)).alloc (.cells #[.int .i64 0,.int .u64 0,.int .u64 0,.int .u64 0,.int .i64 0,.int .i64 0,.slice none 0 0,.slice none 0 0] TR)).alloc (.cells #[.int .i64 0,.int .u64 0,.int .u64 0,.int .u64 0,.int .i64 0,.int .i64 0,.slice none 0 0,.slice none 0 0] TR))=W1 at HN ⊢
 obtain ⟨c0,c1,c2,c3,c4,c5,c6,c7⟩:=HN.out.c.c8;obtain ⟨e0,e1,e2,e3,e4,e5,e6,e7⟩:=HN.out.e.c8;obtain ⟨d0,d1,d2,d3,d4,d5,d6,d7⟩:=HN.out.z.c8;obtain ⟨q0,q1,q2,q3,q4,q5,q6,q7⟩:=HN.out.z.f8;go_wp2_with fail;exact bodyPost_ret (results_rec rfl _ _ (w.heap.size+1) #[.int .i64 0,.int .u64 0,.int .u64 0,.int .u64 0,.int .i64 0,.int .i64 0,.slice none 0 0,.slice none 0 0] rfl rfl ((((((((HN.out.z.set 0 _).set 1 _).set 2 _).set 3 _).set 4 _).set 5 _).set 6 _).set 7 _)) rfl ⟨rfl,below_set8 HN.out.gr (by omega)⟩
end Go.Proofs.YtdmhemgepdknhaaGreat
