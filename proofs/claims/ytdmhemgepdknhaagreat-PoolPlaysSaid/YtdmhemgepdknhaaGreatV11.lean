/-
  Texts, put together: RecMay Ref3 Refc.
-/
import Derived.Deep.RegionHeld3
import Derived.BigQuiet
import Derived.Deep.DeepCutAuto
import Derived.Test.YtdmhemgepdknhaaGreatV1
import Derived.Test.YtdmhemgepdknhaaGreatV3
import Derived.Test.YtdmhemgepdknhaaGreatV5
import Derived.Test.YtdmhemgepdknhaaGreatV6
import Derived.Test.YtdmhemgepdknhaaGreatV7
import Derived.Test.YtdmhemgepdknhaaGreatV10
set_option linter.unusedVariables false
set_option linter.unusedSimpArgs false
namespace Go.Proofs.YtdmhemgepdknhaaGreat
open Go.RowKit Cr
abbrev TR:TypeId:=100
theorem Blk.c8 {w:World} {g:Nat} {t:TypeId} {a b c d e f i j:Value} (h:Blk w g t #[a,b,c,d,e,f,i,j]):w.cell? ⟨g,0,none⟩=some a∧w.cell? ⟨g,1,none⟩=some b∧w.cell? ⟨g,2,none⟩=some c∧w.cell? ⟨g,3,none⟩=some d∧w.cell? ⟨g,4,none⟩=some e∧w.cell? ⟨g,5,none⟩=some f∧w.cell? ⟨g,6,none⟩=some i∧w.cell? ⟨g,7,none⟩=some j:=
 ⟨h.cell 0,h.cell 1,h.cell 2,h.cell 3,h.cell 4,h.cell 5,h.cell 6,h.cell 7⟩
def RetV (v:Value) (w:World) (en:Ending) (w':World):Prop:=en=.returned v∧Gr w w'
def chB (k:Int):Bool:=decide (k=1) || decide (k=2)
theorem changes_any (k:Int) (w:World):Calls Tryz.prog 137 #[.int .i64 k] w fun e w'=>e=.returned (.bool (chB k))∧w=w':=by
 by_cases h1:k=1
 ·
  subst h1
  go_enter Tryz.func137,Tryz.ntmps137
  go_wp2
  go_ret
  exact ⟨rfl,rfl⟩
 ·
  by_cases h2:k=2
  ·
   subst h2
   go_enter Tryz.func137,Tryz.ntmps137
   go_wp2
   go_ret
   exact ⟨rfl,rfl⟩
  ·
   go_enter Tryz.func137,Tryz.ntmps137
   go_wp2
   go_ret
   exact ⟨ret_b (by simp [chB,h1,h2]),rfl⟩
def befR (k:Int) (n:Nat):Int:=if k=1 then n else 0
theorem befores_any (k:Int) (n:Nat) (w:World):Calls Tryz.prog 154 #[.int .i64 k,.int .i64 n] w fun e w'=>e=.returned (.int .i64 (befR k n))∧w=w':=by
 by_cases h1:k=1
 ·
  subst h1
  go_enter Tryz.func154,Tryz.ntmps154
  go_wp2
  go_ret
  exact ⟨rfl,rfl⟩
 ·
  go_enter Tryz.func154,Tryz.ntmps154
  go_wp2
  go_ret
  exact ⟨ret_i (by simp [befR,h1]),rfl⟩
def fitQ (k g o:Int) (nb na:Nat):Bool:=decide (0≤g∧g < 4096∧1≤na∧(nb:Int)=befR k na∧0≤o∧o≤248 - (na:Int))
def SlM1 (k:Int) (t:Nat) (p:Nat) (x:Nat) (g:Int) (o:Int) (pb:Option Addr) (nb:Nat) (cb:Nat) (pa:Option Addr) (na:Nat) (ca:Nat) (d:Nat) (V:Value) (_:Bool) (slot:Nat) (v:Value) (_:World):Prop:=
 match slot with
 | 3=>v=.pointer (some ⟨d,1,none⟩)
 | 4=>v=.int .u64 t
 | 5 | 6=>v=.bool true
 | 7 | 8=>v=.agg #[.int .i64 k,.int .u64 t,.int .u64 p,.int .u64 x,.int .i64 g,.int .i64 o,.slice pb nb cb,.slice pa na ca]
 | 9=>v=V
 | 10 | 11 | 12 | 21 | 2=>v=.bool false
 | 17=>v=undef
 | _=>True
def SlM2 (k:Int) (t:Nat) (p:Nat) (x:Nat) (g:Int) (o:Int) (pb:Option Addr) (nb:Nat) (cb:Nat) (pa:Option Addr) (na:Nat) (ca:Nat) (d:Nat) (V:Value) (_:Bool) (slot:Nat) (v:Value) (_:World):Prop:=
 match slot with
 | 3=>v=.pointer (some ⟨d,1,none⟩)
 | 4=>v=.int .u64 t
 | 5 | 6 | 10 | 11 | 12 | 16 | 17 | 20 | 21 | 2=>v=.bool true
 | 7 | 8=>v=.agg #[.int .i64 k,.int .u64 t,.int .u64 p,.int .u64 x,.int .i64 g,.int .i64 o,.slice pb nb cb,.slice pa na ca]
 | 9=>v=V
 | 13=>v=.pointer (some ⟨d,0,none⟩)
 | 14=>v=.int .i64 k
 | 15=>v=.bool false
 | _=>True
set_option maxRecDepth 100000 in
set_option maxHeartbeats 4000000 in
theorem fitsR_any (k:Int) (t:Nat) (p:Nat) (x:Nat) (g:Int) (o:Int) (pb:Option Addr) (nb:Nat) (cb:Nat) (pa:Option Addr) (na:Nat) (ca:Nat) (w:World) (hn:(na:Int)≤9223372036854775807):Calls Tryz.prog 138 #[.agg #[.int .i64 k,.int .u64 t,.int .u64 p,.int .u64 x,.int .i64 g,.int .i64 o,.slice pb nb cb,.slice pa na ca]] w (RetB (fitQ k g o nb na) w):=by
 have HB:=Lib.hid (Blk.new w TR #[.int .i64 k,.int .u64 t,.int .u64 p,.int .u64 x,.int .i64 g,.int .i64 o,.slice pb nb cb,.slice pa na ca]);obtain ⟨c0,c1,c2,c3,c4,c5,c6,c7⟩:=HB.out.c8;have HF:=Lib.hid (befores_any k na);have HW:Hid (IntKind.i64.wrap (248 - (na:Int))=248 - (na:Int)):=Lib.hid (by rw [IntKind.wrap_i64];omega)
 by_cases h0:0≤g
 ·
  by_cases h1:g < 4096
  ·
   by_cases h2:1≤na
   ·
    have h2':(1:Int)≤na:=by omega
    by_cases h3:(nb:Int)=befR k na
    ·
     have HQ:=Lib.hid h3;clear h3
     by_cases h4:0≤o
     ·
      by_cases h5:o≤248 - (na:Int)
      ·
       have HR:Hid (fitQ k g o nb na=true):=Lib.hid (decide_eq_true ⟨h0,h1,h2,HQ.out,h4,h5⟩)
       go_enter Tryz.func138,Tryz.ntmps138
       go_wp2_with fail;have x0:decide (0≤g)=true:=decide_eq_true (by omega);have x1:decide (g < 4096)=true:=decide_eq_true (by omega);have x2:decide (1≤(na:Int))=true:=decide_eq_true (by omega)
       have x3:((nb:Int) == befR k na)=true:=by simpa using HQ.out
       have x4:decide (0≤o)=true:=decide_eq_true (by omega);have x5:decide (o≤248 - (na:Int))=true:=decide_eq_true (by omega);have hw:=HW.out
       go_quiet (exact Calls.quiet_of ((HF.out _).mono fun _ _ h=>⟨h.1,0,h.2.symm⟩))
       go_wp2_with fail
       go_ret
       exact ⟨ret_b HR.out.symm,gr_drewN ((Gr.refl w).alloc (Nat.le_refl _) _) _⟩
      ·
       have HR:Hid (fitQ k g o nb na=false):=Lib.hid (decide_eq_false (by omega));have d5:decide (o≤248 - (na:Int))=false:=decide_eq_false h5
       go_enter Tryz.func138,Tryz.ntmps138
       go_wp2_with fail;have x0:decide (0≤g)=true:=decide_eq_true (by omega);have x1:decide (g < 4096)=true:=decide_eq_true (by omega);have x2:decide (1≤(na:Int))=true:=decide_eq_true (by omega)
       have x3:((nb:Int) == befR k na)=true:=by simpa using HQ.out
       have x4:decide (0≤o)=true:=decide_eq_true (by omega);have x5:decide (o≤248 - (na:Int))=false:=decide_eq_false (by omega);have hw:=HW.out
       go_quiet (exact Calls.quiet_of ((HF.out _).mono fun _ _ h=>⟨h.1,0,h.2.symm⟩))
       go_wp2_with fail
       go_ret
       exact ⟨ret_b HR.out.symm,gr_drewN ((Gr.refl w).alloc (Nat.le_refl _) _) _⟩
     ·
      have HR:Hid (fitQ k g o nb na=false):=Lib.hid (decide_eq_false (by omega));have d4:decide (0≤o)=false:=decide_eq_false h4
      go_enter Tryz.func138,Tryz.ntmps138
      go_wp2_with fail;have x0:decide (0≤g)=true:=decide_eq_true (by omega);have x1:decide (g < 4096)=true:=decide_eq_true (by omega);have x2:decide (1≤(na:Int))=true:=decide_eq_true (by omega)
      have x3:((nb:Int) == befR k na)=true:=by simpa using HQ.out
      have x4:decide (0≤o)=false:=decide_eq_false (by omega);have hw:=HW.out
      go_quiet (exact Calls.quiet_of ((HF.out _).mono fun _ _ h=>⟨h.1,0,h.2.symm⟩))
      go_wp2_with fail
      go_ret
      exact ⟨ret_b HR.out.symm,gr_drewN ((Gr.refl w).alloc (Nat.le_refl _) _) _⟩
    ·
     have HR:Hid (fitQ k g o nb na=false):=Lib.hid (decide_eq_false (fun h=>h3 h.2.2.2.1));have HQ:Hid (((nb:Int) == befR k na)=false):=Lib.hid (by simpa using h3);clear h3
     go_enter Tryz.func138,Tryz.ntmps138
     go_wp2_with fail;have x0:decide (0≤g)=true:=decide_eq_true (by omega);have x1:decide (g < 4096)=true:=decide_eq_true (by omega);have x2:decide (1≤(na:Int))=true:=decide_eq_true (by omega);have x3:((nb:Int) == befR k na)=false:=HQ.out
     go_quiet (exact Calls.quiet_of ((HF.out _).mono fun _ _ h=>⟨h.1,0,h.2.symm⟩))
     go_wp2_with fail
     go_ret
     exact ⟨ret_b HR.out.symm,gr_drewN ((Gr.refl w).alloc (Nat.le_refl _) _) _⟩
   ·
    obtain rfl:na=0:=by omega
    have HR:Hid (fitQ k g o nb 0=false):=Lib.hid (decide_eq_false (by omega))
    go_enter Tryz.func138,Tryz.ntmps138
    go_wp2_with fail;have x0:decide (0≤g)=true:=decide_eq_true (by omega);have x1:decide (g < 4096)=true:=decide_eq_true (by omega);have x2:decide (1≤((0:Nat):Int))=false:=decide_eq_false (by omega)
    go_quiet (exact Calls.quiet_of ((HF.out _).mono fun _ _ h=>⟨h.1,0,h.2.symm⟩))
    go_wp2_with fail
    go_ret
    exact ⟨ret_b HR.out.symm,gr_drewN ((Gr.refl w).alloc (Nat.le_refl _) _) _⟩
  ·
   have HR:Hid (fitQ k g o nb na=false):=Lib.hid (decide_eq_false (by omega));have d1:decide (g < 4096)=false:=decide_eq_false h1
   go_enter Tryz.func138,Tryz.ntmps138
   go_wp2_with fail;have x0:decide (0≤g)=true:=decide_eq_true (by omega);have x1:decide (g < 4096)=false:=decide_eq_false (by omega)
   go_quiet (exact Calls.quiet_of ((HF.out _).mono fun _ _ h=>⟨h.1,0,h.2.symm⟩))
   go_wp2_with fail
   go_ret
   exact ⟨ret_b HR.out.symm,gr_drewN ((Gr.refl w).alloc (Nat.le_refl _) _) _⟩
 ·
  have HR:Hid (fitQ k g o nb na=false):=Lib.hid (decide_eq_false (by omega));have d0:decide (0≤g)=false:=decide_eq_false h0
  go_enter Tryz.func138,Tryz.ntmps138
  go_wp2_with fail;have x0:decide (0≤g)=false:=decide_eq_false (by omega)
  go_quiet (exact Calls.quiet_of ((HF.out _).mono fun _ _ h=>⟨h.1,0,h.2.symm⟩))
  go_wp2_with fail
  go_ret
  exact ⟨ret_b HR.out.symm,gr_drewN ((Gr.refl w).alloc (Nat.le_refl _) _) _⟩
set_option maxRecDepth 100000 in
set_option maxHeartbeats 4000000 in
theorem may_core (k:Int) (t:Nat) (p:Nat) (x:Nat) (g:Int) (o:Int) (pb:Option Addr) (nb:Nat) (cb:Nat) (pa:Option Addr) (na:Nat) (ca:Nat) (V:Value) (S F:Bool) (w:World) (hN:∀ W,Calls Tryz.prog 136 #[.agg #[.int .i64 k,.int .u64 t,.int .u64 p,.int .u64 x,.int .i64 g,.int .i64 o,.slice pb nb cb,.slice pa na ca]] W (RetV V W))
  (hS:∀ W,Gr w W→Calls Tryz.prog 135 #[.agg #[.int .i64 k,.int .u64 t,.int .u64 p,.int .u64 x,.int .i64 g,.int .i64 o,.slice pb nb cb,.slice pa na ca],V] W (RetB S W)) (hF:∀ W,Calls Tryz.prog 138 #[.agg #[.int .i64 k,.int .u64 t,.int .u64 p,.int .u64 x,.int .i64 g,.int .i64 o,.slice pb nb cb,.slice pa na ca]] W (RetB F W)) :
  Calls Tryz.prog 108 #[.agg #[.int .i64 k,.int .u64 t,.int .u64 p,.int .u64 x,.int .i64 g,.int .i64 o,.slice pb nb cb,.slice pa na ca]] w (RetB (!decide (t=0) && (S && (!chB k || F))) w):=by
 have HB:=Lib.hid (Blk.new w TR #[.int .i64 k,.int .u64 t,.int .u64 p,.int .u64 x,.int .i64 g,.int .i64 o,.slice pb nb cb,.slice pa na ca]);obtain ⟨c0,c1,c2,c3,c4,c5,c6,c7⟩:=HB.out.c8;have HN:=Lib.hid hN;have HF:=Lib.hid hF;have HS:Hid (∀ W,Gr (w.alloc (.cells #[.int .i64 k,.int .u64 t,.int .u64 p,.int .u64 x,.int .i64 g,.int .i64 o,.slice pb nb cb,.slice pa na ca] TR)) W→Calls Tryz.prog 135 #[.agg #[.int .i64 k,.int .u64 t,.int .u64 p,.int .u64 x,.int .i64 g,.int .i64 o,.slice pb nb cb,.slice pa na ca],V] W (RetB S W)):=Lib.hid (fun W g=>hS W (grow1 g));clear hN hF hS
 by_cases ht:t=0
 ·
  have HT:=Lib.hid ht;clear ht
  go_enter Tryz.func108,Tryz.ntmps108
  go_wp2_with fail
  have hq:((t:Int) != 0)=false:=by simp [HT.out]
  go_quiet (fail)
  go_wp2_with fail
  go_ret
  exact ⟨ret_b (by rw [decide_eq_true HT.out];rfl),gr_drewN ((Gr.refl w).alloc (Nat.le_refl _) _) _⟩
 ·
  have HT:Hid (((t:Int) != 0)=true∧decide (t=0)=false):=Lib.hid ⟨by simp;omega,decide_eq_false ht⟩;clear ht
  cases S
  ·
   go_enter Tryz.func108,Tryz.ntmps108
   go_wp2_with fail;refine Flow.region (SlM1 k t p x g o pb nb cb pa na ca w.heap.size V F) (Gr (w.alloc (.cells #[.int .i64 k,.int .u64 t,.int .u64 p,.int .u64 x,.int .i64 g,.int .i64 o,.slice pb nb cb,.slice pa na ca] TR))) (fun _ _=>True) (by kernel_rfl) (by kernel_rfl) (fun _ _ _ _ h _=>h) ⟨rfl,rfl,rfl,Nat.le_refl _,fun _ _=>rfl⟩ ?steps ?fin
   case steps=>
    refine .cons (fun a W hfr hinv hdep K hK=>?_) ?_
    · have t1:=tAt (.pointer (some ⟨w.heap.size,0,none⟩)) (hfr.at 1 (by kernel_rfl));refine fW0 rfl ?_;clear hfr hdep;go_simp;exact hK _ _ True.intro hinv (dsT (by trivial))
    refine .cons (fun a W hfr hinv hdep K hK=>?_) ?_
    · have t3:=tAt (.pointer (some ⟨w.heap.size,1,none⟩)) (hdep 3 (by kernel_rfl));obtain ⟨c0,c1,c2,c3,c4,c5,c6,c7⟩:=(HB.out.below hinv HB.out.lt).c8;refine fW0 rfl ?_;clear hfr hdep;go_simp;exact hK _ _ True.intro hinv (dsT (by trivial))
    refine .cons (fun a W hfr hinv hdep K hK=>?_) ?_
    · have t4:=tAt (.int .u64 t) (hdep 4 (by kernel_rfl));obtain ⟨hq,hq2⟩:=HT.out;refine fW0 rfl ?_;clear hfr hdep;go_simp;exact hK _ _ True.intro hinv (dsT (by trivial))
    refine .cons (fun a W hfr hinv hdep K hK=>?_) ?_
    · have t5:=tAt (.bool true) (hdep 5 (by kernel_rfl));refine fW0 rfl ?_;clear hfr hdep;go_simp;exact hK _ _ True.intro hinv (dsT (by trivial))
    refine .cons (fun a W hfr hinv hdep K hK=>?_) ?_
    · have sg:a.tmps.getD 6 undef=.bool true:=hdep 6 (by kernel_rfl);have t1:=tAt (.pointer (some ⟨w.heap.size,0,none⟩)) (hfr.at 1 (by kernel_rfl));obtain ⟨c0,c1,c2,c3,c4,c5,c6,c7⟩:=(HB.out.below hinv HB.out.lt).c8;rw [if_pos (Flow.wanted_yes 3 true 6 rfl (by kernel_rfl) sg)];clear hfr hdep;go_simp;exact hK _ _ True.intro hinv (dsT (by trivial))
    refine .cons (fun a W hfr hinv hdep K hK=>?_) ?_
    · have sg:a.tmps.getD 6 undef=.bool true:=hdep 6 (by kernel_rfl);have t1:=tAt (.pointer (some ⟨w.heap.size,0,none⟩)) (hfr.at 1 (by kernel_rfl));obtain ⟨c0,c1,c2,c3,c4,c5,c6,c7⟩:=(HB.out.below hinv HB.out.lt).c8;rw [if_pos (Flow.wanted_yes 3 true 6 rfl (by kernel_rfl) sg)];clear hfr hdep;go_simp;exact hK _ _ True.intro hinv (dsT (by trivial))
    refine .cons (fun a W hfr hinv hdep K hK=>?_) ?_
    · have sg:a.tmps.getD 6 undef=.bool true:=hdep 6 (by kernel_rfl);have t8:=tAt (.agg #[.int .i64 k,.int .u64 t,.int .u64 p,.int .u64 x,.int .i64 g,.int .i64 o,.slice pb nb cb,.slice pa na ca]) (hdep 8 (by kernel_rfl));rw [if_pos (Flow.wanted_yes 3 true 6 rfl (by kernel_rfl) sg)];clear hfr hdep;go_simp;refine (HN.out W).mono ?_;rintro e W' ⟨rfl,g1⟩;exact hK _ _ True.intro (Gr.trans hinv g1) (dsT (by trivial))
    refine .cons (fun a W hfr hinv hdep K hK=>?_) ?_
    · have sg:a.tmps.getD 6 undef=.bool true:=hdep 6 (by kernel_rfl);have t7:=tAt (.agg #[.int .i64 k,.int .u64 t,.int .u64 p,.int .u64 x,.int .i64 g,.int .i64 o,.slice pb nb cb,.slice pa na ca]) (hdep 7 (by kernel_rfl));have t9:=tAt (V) (hdep 9 (by kernel_rfl));rw [if_pos (Flow.wanted_yes 3 true 6 rfl (by kernel_rfl) sg)];clear hfr hdep;go_simp;refine (HS.out W hinv).mono ?_;rintro e W' ⟨rfl,g1⟩;exact hK _ _ True.intro (Gr.trans hinv g1) (dsT (by trivial))
    refine .cons (fun a W hfr hinv hdep K hK=>?_) ?_
    · have t6:=tAt (.bool true) (hdep 6 (by kernel_rfl));have t10:=tAt (.bool false) (hdep 10 (by kernel_rfl));refine fW0 rfl ?_;clear hfr hdep;go_simp;exact hK _ _ True.intro hinv (dsT (by trivial))
    refine .cons (fun a W hfr hinv hdep K hK=>?_) ?_
    · have t11:=tAt (.bool false) (hdep 11 (by kernel_rfl));refine fW0 rfl ?_;clear hfr hdep;go_simp;exact hK _ _ True.intro hinv (dsT (by trivial))
    refine .cons (fun a W hfr hinv hdep K hK=>?_) ?_
    · have sg:a.tmps.getD 12 undef=.bool !true:=hdep 12 (by kernel_rfl);have t1:=tAt (.pointer (some ⟨w.heap.size,0,none⟩)) (hfr.at 1 (by kernel_rfl));rw [if_neg (Flow.wanted_no 9 true 12 rfl (by kernel_rfl) sg)];clear hfr hdep;exact hK _ _ True.intro hinv (dsT (by trivial))
    refine .cons (fun a W hfr hinv hdep K hK=>?_) ?_
    · have sg:a.tmps.getD 12 undef=.bool !true:=hdep 12 (by kernel_rfl);obtain ⟨c0,c1,c2,c3,c4,c5,c6,c7⟩:=(HB.out.below hinv HB.out.lt).c8;rw [if_neg (Flow.wanted_no 9 true 12 rfl (by kernel_rfl) sg)];clear hfr hdep;exact hK _ _ True.intro hinv (dsT (by trivial))
    refine .cons (fun a W hfr hinv hdep K hK=>?_) ?_
    · have sg:a.tmps.getD 12 undef=.bool !true:=hdep 12 (by kernel_rfl);rw [if_neg (Flow.wanted_no 9 true 12 rfl (by kernel_rfl) sg)];clear hfr hdep;exact hK _ _ True.intro hinv (dsT (by trivial))
    refine .cons (fun a W hfr hinv hdep K hK=>?_) ?_
    · have sg:a.tmps.getD 12 undef=.bool !true:=hdep 12 (by kernel_rfl);rw [if_neg (Flow.wanted_no 9 true 12 rfl (by kernel_rfl) sg)];clear hfr hdep;exact hK _ _ True.intro hinv (dsT (by trivial))
    refine .cons (fun a W hfr hinv hdep K hK=>?_) ?_
    · have sg:a.tmps.getD 12 undef=.bool !true:=hdep 12 (by kernel_rfl);rw [if_neg (Flow.wanted_no 9 true 12 rfl (by kernel_rfl) sg)];clear hfr hdep;exact hK _ _ True.intro hinv (dsT (by trivial))
    refine .cons (fun a W hfr hinv hdep K hK=>?_) ?_
    · have sg:a.tmps.getD 17 undef=undef:=hdep 17 (by kernel_rfl);have t1:=tAt (.pointer (some ⟨w.heap.size,0,none⟩)) (hfr.at 1 (by kernel_rfl));obtain ⟨c0,c1,c2,c3,c4,c5,c6,c7⟩:=(HB.out.below hinv HB.out.lt).c8;rw [if_neg (Flow.wanted_undef 14 false 17 rfl (by kernel_rfl) sg)];clear hfr hdep;exact hK _ _ True.intro hinv (dsT (by trivial))
    refine .cons (fun a W hfr hinv hdep K hK=>?_) ?_
    · have sg:a.tmps.getD 17 undef=undef:=hdep 17 (by kernel_rfl);rw [if_neg (Flow.wanted_undef 14 false 17 rfl (by kernel_rfl) sg)];clear hfr hdep;exact hK _ _ True.intro hinv (dsT (by trivial))
    refine .cons (fun a W hfr hinv hdep K hK=>?_) ?_
    · have sg:a.tmps.getD 12 undef=.bool !true:=hdep 12 (by kernel_rfl);have t17:=tAt (undef) (hdep 17 (by kernel_rfl));rw [if_neg (Flow.wanted_no 9 true 12 rfl (by kernel_rfl) sg)];clear hfr hdep;exact hK _ _ True.intro hinv (dsT (by trivial))
    refine .cons (fun a W hfr hinv hdep K hK=>?_) ?_
    · have t12:=tAt (.bool false) (hdep 12 (by kernel_rfl));refine fW0 rfl ?_;clear hfr hdep;go_simp;exact hK _ _ True.intro hinv (dsT (by trivial))
    refine .cons (fun a W hfr hinv hdep K hK=>?_) ?_
    · have t21:=tAt (.bool false) (hdep 21 (by kernel_rfl));refine fW0 rfl ?_;clear hfr hdep;go_simp;exact hK _ _ True.intro hinv (dsT (by trivial))
    exact True.intro
   case fin=>
    intro a W hfr hfin hsl
    have s2:a.tmps.getD 2 undef=.bool false:=hsl 19 _ 2 rfl rfl;have t2:=tmpAt s2;have e:=Flow.frame hfr [3,4,5,6,7,8,9,10,11,12,13,14,15,16,17,18,19,20,21,2] (List.range 22) (by kernel_rfl) (by kernel_rfl)
    simp [List.range,List.range.loop] at e
    rw [t2] at e
    rw [e];clear e hfr hsl s2 t2
    rename_i K2 hK2
    refine hK2 _ _ ?_;go_wp2_with fail
    go_ret
    exact ⟨ret_b (by rw [HT.out.2];rfl),grow1 hfin⟩
  ·
   cases hc:chB k
   ·
    have HC:=Lib.hid hc;clear hc
    go_enter Tryz.func108,Tryz.ntmps108
    go_wp2_with fail;refine Flow.region (SlM2 k t p x g o pb nb cb pa na ca w.heap.size V F) (Gr (w.alloc (.cells #[.int .i64 k,.int .u64 t,.int .u64 p,.int .u64 x,.int .i64 g,.int .i64 o,.slice pb nb cb,.slice pa na ca] TR))) (fun _ _=>True) (by kernel_rfl) (by kernel_rfl) (fun _ _ _ _ h _=>h) ⟨rfl,rfl,rfl,Nat.le_refl _,fun _ _=>rfl⟩ ?steps ?fin
    case steps=>
     refine .cons (fun a W hfr hinv hdep K hK=>?_) ?_
     · have t1:=tAt (.pointer (some ⟨w.heap.size,0,none⟩)) (hfr.at 1 (by kernel_rfl));refine fW0 rfl ?_;clear hfr hdep;go_simp;exact hK _ _ True.intro hinv (dsT (by trivial))
     refine .cons (fun a W hfr hinv hdep K hK=>?_) ?_
     · have t3:=tAt (.pointer (some ⟨w.heap.size,1,none⟩)) (hdep 3 (by kernel_rfl));obtain ⟨c0,c1,c2,c3,c4,c5,c6,c7⟩:=(HB.out.below hinv HB.out.lt).c8;refine fW0 rfl ?_;clear hfr hdep;go_simp;exact hK _ _ True.intro hinv (dsT (by trivial))
     refine .cons (fun a W hfr hinv hdep K hK=>?_) ?_
     · have t4:=tAt (.int .u64 t) (hdep 4 (by kernel_rfl));obtain ⟨hq,hq2⟩:=HT.out;refine fW0 rfl ?_;clear hfr hdep;go_simp;exact hK _ _ True.intro hinv (dsT (by trivial))
     refine .cons (fun a W hfr hinv hdep K hK=>?_) ?_
     · have t5:=tAt (.bool true) (hdep 5 (by kernel_rfl));refine fW0 rfl ?_;clear hfr hdep;go_simp;exact hK _ _ True.intro hinv (dsT (by trivial))
     refine .cons (fun a W hfr hinv hdep K hK=>?_) ?_
     · have sg:a.tmps.getD 6 undef=.bool true:=hdep 6 (by kernel_rfl);have t1:=tAt (.pointer (some ⟨w.heap.size,0,none⟩)) (hfr.at 1 (by kernel_rfl));obtain ⟨c0,c1,c2,c3,c4,c5,c6,c7⟩:=(HB.out.below hinv HB.out.lt).c8;rw [if_pos (Flow.wanted_yes 3 true 6 rfl (by kernel_rfl) sg)];clear hfr hdep;go_simp;exact hK _ _ True.intro hinv (dsT (by trivial))
     refine .cons (fun a W hfr hinv hdep K hK=>?_) ?_
     · have sg:a.tmps.getD 6 undef=.bool true:=hdep 6 (by kernel_rfl);have t1:=tAt (.pointer (some ⟨w.heap.size,0,none⟩)) (hfr.at 1 (by kernel_rfl));obtain ⟨c0,c1,c2,c3,c4,c5,c6,c7⟩:=(HB.out.below hinv HB.out.lt).c8;rw [if_pos (Flow.wanted_yes 3 true 6 rfl (by kernel_rfl) sg)];clear hfr hdep;go_simp;exact hK _ _ True.intro hinv (dsT (by trivial))
     refine .cons (fun a W hfr hinv hdep K hK=>?_) ?_
     · have sg:a.tmps.getD 6 undef=.bool true:=hdep 6 (by kernel_rfl);have t8:=tAt (.agg #[.int .i64 k,.int .u64 t,.int .u64 p,.int .u64 x,.int .i64 g,.int .i64 o,.slice pb nb cb,.slice pa na ca]) (hdep 8 (by kernel_rfl));rw [if_pos (Flow.wanted_yes 3 true 6 rfl (by kernel_rfl) sg)];clear hfr hdep;go_simp;refine (HN.out W).mono ?_;rintro e W' ⟨rfl,g1⟩;exact hK _ _ True.intro (Gr.trans hinv g1) (dsT (by trivial))
     refine .cons (fun a W hfr hinv hdep K hK=>?_) ?_
     · have sg:a.tmps.getD 6 undef=.bool true:=hdep 6 (by kernel_rfl);have t7:=tAt (.agg #[.int .i64 k,.int .u64 t,.int .u64 p,.int .u64 x,.int .i64 g,.int .i64 o,.slice pb nb cb,.slice pa na ca]) (hdep 7 (by kernel_rfl));have t9:=tAt (V) (hdep 9 (by kernel_rfl));rw [if_pos (Flow.wanted_yes 3 true 6 rfl (by kernel_rfl) sg)];clear hfr hdep;go_simp;refine (HS.out W hinv).mono ?_;rintro e W' ⟨rfl,g1⟩;exact hK _ _ True.intro (Gr.trans hinv g1) (dsT (by trivial))
     refine .cons (fun a W hfr hinv hdep K hK=>?_) ?_
     · have t6:=tAt (.bool true) (hdep 6 (by kernel_rfl));have t10:=tAt (.bool true) (hdep 10 (by kernel_rfl));refine fW0 rfl ?_;clear hfr hdep;go_simp;exact hK _ _ True.intro hinv (dsT (by trivial))
     refine .cons (fun a W hfr hinv hdep K hK=>?_) ?_
     · have t11:=tAt (.bool true) (hdep 11 (by kernel_rfl));refine fW0 rfl ?_;clear hfr hdep;go_simp;exact hK _ _ True.intro hinv (dsT (by trivial))
     refine .cons (fun a W hfr hinv hdep K hK=>?_) ?_
     · have sg:a.tmps.getD 12 undef=.bool true:=hdep 12 (by kernel_rfl);have t1:=tAt (.pointer (some ⟨w.heap.size,0,none⟩)) (hfr.at 1 (by kernel_rfl));rw [if_pos (Flow.wanted_yes 9 true 12 rfl (by kernel_rfl) sg)];clear hfr hdep;go_simp;exact hK _ _ True.intro hinv (dsT (by trivial))
     refine .cons (fun a W hfr hinv hdep K hK=>?_) ?_
     · have sg:a.tmps.getD 12 undef=.bool true:=hdep 12 (by kernel_rfl);have t13:=tAt (.pointer (some ⟨w.heap.size,0,none⟩)) (hdep 13 (by kernel_rfl));obtain ⟨c0,c1,c2,c3,c4,c5,c6,c7⟩:=(HB.out.below hinv HB.out.lt).c8;rw [if_pos (Flow.wanted_yes 9 true 12 rfl (by kernel_rfl) sg)];clear hfr hdep;go_simp;exact hK _ _ True.intro hinv (dsT (by trivial))
     refine .cons (fun a W hfr hinv hdep K hK=>?_) ?_
     · have sg:a.tmps.getD 12 undef=.bool true:=hdep 12 (by kernel_rfl);have t14:=tAt (.int .i64 k) (hdep 14 (by kernel_rfl));rw [if_pos (Flow.wanted_yes 9 true 12 rfl (by kernel_rfl) sg)];clear hfr hdep;go_simp;refine (changes_any _ W).mono ?_;rintro e W' ⟨rfl,rfl⟩;rw [HC.out];exact hK _ _ True.intro hinv (dsT (by trivial))
     refine .cons (fun a W hfr hinv hdep K hK=>?_) ?_
     · have sg:a.tmps.getD 12 undef=.bool true:=hdep 12 (by kernel_rfl);have t15:=tAt (.bool false) (hdep 15 (by kernel_rfl));rw [if_pos (Flow.wanted_yes 9 true 12 rfl (by kernel_rfl) sg)];clear hfr hdep;go_simp;exact hK _ _ True.intro hinv (dsT (by trivial))
     refine .cons (fun a W hfr hinv hdep K hK=>?_) ?_
     · have sg:a.tmps.getD 12 undef=.bool true:=hdep 12 (by kernel_rfl);have t16:=tAt (.bool true) (hdep 16 (by kernel_rfl));rw [if_pos (Flow.wanted_yes 9 true 12 rfl (by kernel_rfl) sg)];clear hfr hdep;go_simp;exact hK _ _ True.intro hinv (dsT (by trivial))
     refine .cons (fun a W hfr hinv hdep K hK=>?_) ?_
     · have sg:a.tmps.getD 17 undef=.bool !false:=hdep 17 (by kernel_rfl);have t1:=tAt (.pointer (some ⟨w.heap.size,0,none⟩)) (hfr.at 1 (by kernel_rfl));obtain ⟨c0,c1,c2,c3,c4,c5,c6,c7⟩:=(HB.out.below hinv HB.out.lt).c8;rw [if_neg (Flow.wanted_no 14 false 17 rfl (by kernel_rfl) sg)];clear hfr hdep;exact hK _ _ True.intro hinv (dsT (by trivial))
     refine .cons (fun a W hfr hinv hdep K hK=>?_) ?_
     · have sg:a.tmps.getD 17 undef=.bool !false:=hdep 17 (by kernel_rfl);rw [if_neg (Flow.wanted_no 14 false 17 rfl (by kernel_rfl) sg)];clear hfr hdep;exact hK _ _ True.intro hinv (dsT (by trivial))
     refine .cons (fun a W hfr hinv hdep K hK=>?_) ?_
     · have sg:a.tmps.getD 12 undef=.bool true:=hdep 12 (by kernel_rfl);have t17:=tAt (.bool true) (hdep 17 (by kernel_rfl));rw [if_pos (Flow.wanted_yes 9 true 12 rfl (by kernel_rfl) sg)];clear hfr hdep;go_simp;exact hK _ _ True.intro hinv (dsT (by trivial))
     refine .cons (fun a W hfr hinv hdep K hK=>?_) ?_
     · have t12:=tAt (.bool true) (hdep 12 (by kernel_rfl));have t20:=tAt (.bool true) (hdep 20 (by kernel_rfl));refine fW0 rfl ?_;clear hfr hdep;go_simp;exact hK _ _ True.intro hinv (dsT (by trivial))
     refine .cons (fun a W hfr hinv hdep K hK=>?_) ?_
     · have t21:=tAt (.bool true) (hdep 21 (by kernel_rfl));refine fW0 rfl ?_;clear hfr hdep;go_simp;exact hK _ _ True.intro hinv (dsT (by trivial))
     exact True.intro
    case fin=>
     intro a W hfr hfin hsl
     have s2:a.tmps.getD 2 undef=.bool true:=hsl 19 _ 2 rfl rfl;have t2:=tmpAt s2;have e:=Flow.frame hfr [3,4,5,6,7,8,9,10,11,12,13,14,15,16,17,18,19,20,21,2] (List.range 22) (by kernel_rfl) (by kernel_rfl)
     simp [List.range,List.range.loop] at e
     rw [t2] at e
     rw [e];clear e hfr hsl s2 t2
     rename_i K2 hK2
     refine hK2 _ _ ?_;go_wp2_with fail
     go_ret
     exact ⟨ret_b (by rw [HT.out.2];rfl),grow1 hfin⟩
   ·
    have HC:=Lib.hid hc;clear hc
    go_enter Tryz.func108,Tryz.ntmps108
    go_wp2_with fail;obtain ⟨hq,hq2⟩:=HT.out;have y:=HB.out.c8
    go_region_held3 (fun V1=>V1.cell? ⟨w.heap.size,0,none⟩=some (.int .i64 k)∧V1.cell? ⟨w.heap.size,1,none⟩=some (.int .u64 t)∧V1.cell? ⟨w.heap.size,2,none⟩=some (.int .u64 p)∧V1.cell? ⟨w.heap.size,3,none⟩=some (.int .u64 x)∧V1.cell? ⟨w.heap.size,4,none⟩=some (.int .i64 g)∧V1.cell? ⟨w.heap.size,5,none⟩=some (.int .i64 o)∧V1.cell? ⟨w.heap.size,6,none⟩=some (.slice pb nb cb)∧V1.cell? ⟨w.heap.size,7,none⟩=some (.slice pa na ca)) (first | exact y | exact y1 | exact y2 | exact y4) (first | (go_at_call 136;refine (HN.out _).mono ?_;rintro e W1 ⟨rfl,g1⟩;have h1:=Gr.trans ((Gr.refl (w.alloc (.cells #[.int .i64 k,.int .u64 t,.int .u64 p,.int .u64 x,.int .i64 g,.int .i64 o,.slice pb nb cb,.slice pa na ca] TR))).drew) g1;have H1:=Lib.hid h1;have y1:=(HB.out.below h1 HB.out.lt).c8) | (go_at_call 135;refine (HS.out W1 H1.out).mono ?_;rintro e W2 ⟨rfl,g2⟩;have h2:=Gr.trans H1.out g2;have H2:=Lib.hid h2;have y2:=(HB.out.below h2 HB.out.lt).c8) | (go_at_call 137;refine (changes_any _ W2).mono ?_;rintro e W3 ⟨rfl,rfl⟩;rw [HC.out]) | (go_at_call 138;refine (HF.out _).mono ?_;rintro e W4 ⟨rfl,g4⟩;have h4:=Gr.trans H2.out g4;have H4:=Lib.hid h4;have y4:=(HB.out.below h4 HB.out.lt).c8))
    go_wp2_with fail
    go_ret
    exact ⟨ret_b (by rw [HT.out.2];rfl),grow1 H4.out⟩
end Go.Proofs.YtdmhemgepdknhaaGreat
namespace Go.Proofs.YtdmhemgepdknhaaGreat
open Go.RowKit

end Go.Proofs.YtdmhemgepdknhaaGreat
namespace Go.Proofs.YtdmhemgepdknhaaGreat
open Go.RowKit Cr

end Go.Proofs.YtdmhemgepdknhaaGreat
