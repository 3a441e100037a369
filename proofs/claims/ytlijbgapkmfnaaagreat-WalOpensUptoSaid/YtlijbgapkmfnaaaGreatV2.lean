/-
  Part 2 of what the laws of stage 6 rest on: contracts of the functions that they call, and what these rest on.
-/
import Derived.Test.YtlijbgapkmfnaaaGreatProg
import Derived.BigQuiet
import Derived.Deep.DeepCutAuto
import Derived.Deep.RegionHeld3
import Derived.Test.YtlijbgapkmfnaaaGreatV1
set_option linter.unusedVariables false
set_option linter.unusedSimpArgs false
namespace Go.Proofs.YtlijbgapkmfnaaaGreat
open Go.RowKit
def okN (n : Int) : Bool := decide (64 ≤ n ∧ n ≤ 4096)
def logOf (n : Int) : Int := min (max (n / 8) 16) 256
def grpOf (n : Int) : Int := (n - (3 + logOf n) + 56) / 64
def mkN (n : Int) : Int := if okN n then n else 0
def mkL (n : Int) : Int := if okN n then logOf n else 0
def mkG (n : Int) : Int := if okN n then grpOf n else 0
def mkE (n : Int) : Int := if okN n then 0 else 2
def mayL (n l g : Int) : Bool := okN n && decide (l = logOf n ∧ g = grpOf n)
theorem okN_iff {n : Int} : okN n = true ↔ 64 ≤ n ∧ n ≤ 4096 := by simp [okN]
theorem log_lo {n : Int} (_ : 64 ≤ n) (_ : n ≤ 4096) : 16 ≤ logOf n ∧ logOf n ≤ 256 := by unfold logOf; omega
theorem grp_lo {n : Int} (h0 : 64 ≤ n) (h1 : n ≤ 4096) : 1 ≤ grpOf n ∧ grpOf n ≤ 60 ∧ 3 + logOf n + 64 * grpOf n ≤ n + 56 ∧ n < 3 + logOf n + 64 * grpOf n + 8 := by unfold grpOf logOf; omega
def startW (l g : Int) : Int := wrap64 (wrap64 (3 + l) + wrap64 (g * 64))
theorem start_any (n l g i : Int) (w : World) : Calls Tryz.prog 70 #[.agg #[.int .i64 n, .int .i64 l, .int .i64 g], .int .i64 i] w fun e w' => e = .returned (.int .i64 (startW l i)) ∧ Gr w w' := by
 have hg := (Gr.refl w).alloc (Nat.le_refl _) (.cells #[.int .i64 n, .int .i64 l, .int .i64 g] 97)
 go_enter Tryz.func70, Tryz.ntmps70
 go_wp2
 go_ret
 exact ⟨rfl, hg⟩
theorem groups_any (n G : Int) (w : World) (h0 : 0 ≤ n) (h1 : n ≤ 5000) (hG : (n + 56) / 64 = G) : Calls Tryz.prog 69 #[.int .i64 n] w fun e w' => e = .returned (.int .i64 G) ∧ w = w' := by
 have HG := Lib.hid hG; clear hG
 go_enter Tryz.func69, Tryz.ntmps69
 go_wp2
 go_ret
 exact ⟨ret_i (by rw [← HG.out]; omega), rfl⟩
theorem Blk.c3 {w : World} {g : Nat} {t : TypeId} {a b c : Value} (h : Blk w g t #[a, b, c]) : (w.cell? ⟨g, 0, none⟩ = some a ∧ w.cell? ⟨g, 1, none⟩ = some b ∧ w.cell? ⟨g, 2, none⟩ = some c) ∧ (w.frozen? ⟨g, 0, none⟩ = false ∧ w.frozen? ⟨g, 1, none⟩ = false ∧ w.frozen? ⟨g, 2, none⟩ = false) :=
 ⟨⟨h.cell 0, h.cell 1, h.cell 2⟩, h.frozen 0, h.frozen 1, h.frozen 2⟩
def RetLy (n l g e : Int) (w : World) (en : Ending) (w' : World) : Prop := en = .returned (.tuple #[.agg #[.int .i64 n, .int .i64 l, .int .i64 g], .int .i64 e]) ∧ Gr w w'
theorem make_no (n : Int) (w : World) (h : ¬ (64 ≤ n ∧ n ≤ 4096)) : Calls Tryz.prog 51 #[.int .i64 n] w (RetLy 0 0 0 2 w) := by
 have hg := (Gr.refl w).alloc (Nat.le_refl _) (.cells #[.int .i64 0, .int .i64 0, .int .i64 0] 97)
 by_cases h1 : n < 64
 all_goals
  go_enter Tryz.func51, Tryz.ntmps51
  go_wp2
  go_returns
  exact ⟨rfl, hg⟩
theorem startW_in {l g : Int} (h0 : 0 ≤ l) (h1 : l ≤ 5000) (h2 : 0 ≤ g) (h3 : g ≤ 5000) : startW l g = 3 + l + g * 64 := by
 unfold startW wrap64; omega
theorem results_ly {fn : Func} {p q : Tmp} (h : fn.results = #[.cell p 97, .tmp q]) (tmps : Array Value) (w : World) (g : Nat) (cs : Array Value) (x : Value) (hs : cs.size = 3)
  (hp : tmps.getD p undef = .pointer (some ⟨g, 0, none⟩)) (hx : tmps.getD q undef = x) (hb : Blk w g 97 cs) : (results fn tmps).run Tryz.prog w = .ok (.tuple #[.agg cs, x]) w := by
 have hp' : tmps[p]?.getD undef = .pointer (some ⟨g, 0, none⟩) := by simpa using hp
 have hx' : tmps[q]?.getD undef = x := by simpa using hx
 have hz : (Tryz.prog.info? 97).map (·.size) = some 3 := by kernel_rfl
 have hl := run_loadVar_row (P := Tryz.prog) w g 97 97 cs (0, 0) _ hb Tryz.underlying97 rfl (by rw [hs]; exact hz)
 simp [results, h, hp', hx', asAddr, hl]
theorem below_set3 {B g : Nat} {w w1 : World} {a b c : Value} {i j k : Nat} (h : Below B w w1) (hg : B ≤ g) : Below B w (((w1.setCell ⟨g, i, none⟩ a).setCell ⟨g, j, none⟩ b).setCell ⟨g, k, none⟩ c) := ((h.setCell hg _).setCell hg _).setCell hg _
set_option maxRecDepth 100000 in
theorem make_yes (n : Int) (w : World) (h0 : 64 ≤ n) (h1 : n ≤ 4096) : Calls Tryz.prog 51 #[.int .i64 n] w (RetLy n (logOf n) (grpOf n) 0 w) := by
 have hl := log_lo h0 h1; have hL : min (max (n / 8) 16) 256 = logOf n := rfl; obtain ⟨L, hL2⟩ : ∃ L, L = logOf n := ⟨_, rfl⟩; have hG : Hid ((n - (3 + L) + 56) / 64 = grpOf n) := Lib.hid (by rw [hL2]; rfl)
 have hs : startW L 0 = 3 + L := by rw [startW_in (by omega) (by omega) (by omega) (by omega)]; omega
 rw [← hL2] at hL hl
 rw [← hL2]
 have l2 : 3 + L ≤ n := by omega
 have HL := Lib.hid hL; have HS := Lib.hid hs; clear hL2 hL hs; obtain ⟨l0, l1⟩ := hl
 go_enter Tryz.func51, Tryz.ntmps51
 go_wp2_with fail; rw [HL.out]; refine (start_any _ _ _ _ _).mono ?_; rintro e w1 ⟨rfl, g1⟩; have G1 := Lib.hid (grow2 g1); have B1 := Lib.hid (((Blk.new w 97 #[.int .i64 0, .int .i64 0, .int .i64 0]).alloc _).below g1 (by go_size)); obtain ⟨⟨c0, c1, c2⟩, f0, f1, f2⟩ := B1.out.c3; obtain ⟨⟨d0, d1, d2⟩, q0, q1, q2⟩ := ((Blk.new (w.alloc (.cells #[.int .i64 0, .int .i64 0, .int .i64 0] 97)) 97 _).below g1 (by go_size)).c3
 simp only [World.size_alloc] at d0 d1 d2 q0 q1 q2
 rw [HS.out]; clear g1; go_wp2_with fail; refine (groups_any _ (grpOf n) _ (by omega) (by omega) (by have := hG.out; omega)).mono ?_; rintro e w2 ⟨rfl, rfl⟩; go_wp2_with fail; exact bodyPost_ret (results_ly rfl _ _ w.heap.size #[.int .i64 n, .int .i64 L, .int .i64 (grpOf n)] _ rfl rfl rfl ((((B1.out.far (by simp) _).set 0 _).set 1 _).set 2 _)) rfl ⟨rfl, below_set3 (G1.out.setCell (by simp) _) (Nat.le_refl _)⟩
theorem make_any (n : Int) (w : World) : Calls Tryz.prog 51 #[.int .i64 n] w (RetLy (mkN n) (mkL n) (mkG n) (mkE n) w) := by
 by_cases h : 64 ≤ n ∧ n ≤ 4096
 ·
  have e : okN n = true := okN_iff.2 h
  simp only [mkN, mkL, mkG, mkE, e, if_true]
  exact make_yes n w h.1 h.2
 ·
  have e : okN n = false := by simpa [okN] using h
  simp only [mkN, mkL, mkG, mkE, e, Bool.false_eq_true, if_false]
  exact make_no n w h
def Ret3 (a b e : Int) (w : World) (en : Ending) (w' : World) : Prop := en = .returned (.tuple #[.int .i64 a, .int .i64 b, .int .i64 e]) ∧ Gr w w'
def Ret2 (a e : Int) (w : World) (en : Ending) (w' : World) : Prop := en = .returned (.tuple #[.int .i64 a, .int .i64 e]) ∧ Gr w w'
set_option maxRecDepth 100000 in
theorem mayS_any (n l g : Int) (w : World) : Calls Tryz.prog 71 #[.agg #[.int .i64 n, .int .i64 l, .int .i64 g]] w (RetB (mayL n l g) w) := by
 have HM := Lib.hid (make_any n)
 by_cases h : okN n = true
 ·
  have e1 : mkN n = n ∧ mkL n = logOf n ∧ mkG n = grpOf n ∧ mkE n = 0 := by simp [mkN, mkL, mkG, mkE, h]
  have HR : Hid (mayL n l g = decide (l = logOf n ∧ g = grpOf n)) := Lib.hid (by simp [mayL, h]); obtain ⟨e1, e2, e3, e4⟩ := e1
  rw [e1, e2, e3, e4] at HM
  clear e1 e2 e3 e4 h
  go_enter Tryz.func71, Tryz.ntmps71
  go_wp2_with fail; refine (HM.out _).mono ?_; rintro e w1 ⟨rfl, g1⟩; have G1 := Lib.hid (grow1 g1); have s1 := lt_of_new g1; obtain ⟨⟨c0, c1, c2⟩, f0, f1, f2⟩ := ((Blk.new w 97 _).below g1 (by go_size)).c3; clear g1 HM; go_wp2_with fail
  all_goals
   go_ret
   exact ⟨ret_b (by rw [HR.out]; first | (exact (decide_eq_true (by omega)).symm) | (exact (decide_eq_false (by omega)).symm)), G1.out.alloc G1.out.size _⟩
 ·
  have e1 : mkN n = 0 ∧ mkL n = 0 ∧ mkG n = 0 ∧ mkE n = 2 := by simp [mkN, mkL, mkG, mkE, h]
  have HR : Hid (mayL n l g = false) := Lib.hid (by simp [mayL, h]); obtain ⟨e1, e2, e3, e4⟩ := e1
  rw [e1, e2, e3, e4] at HM
  clear e1 e2 e3 e4 h
  go_enter Tryz.func71, Tryz.ntmps71
  go_wp2_with fail; refine (HM.out _).mono ?_; rintro e w1 ⟨rfl, g1⟩; have G1 := Lib.hid (grow1 g1); have s1 := lt_of_new g1; clear g1 HM; go_wp2_with fail
  go_ret
  exact ⟨ret_b HR.out.symm, G1.out.alloc G1.out.size _⟩
end Go.Proofs.YtlijbgapkmfnaaaGreat
namespace Go.Proofs.YtlijbgapkmfnaaaGreat
open Go.RowKit
abbrev TY : TypeId := 97
abbrev TF : TypeId := 183
def RetT (a b : Int) (ok : Bool) (w : World) (e : Ending) (w' : World) : Prop := ∃ x y, e = .returned (.tuple #[.int .i64 x, .int .i64 y, .bool ok]) ∧ (ok = true → x = a ∧ y = b) ∧ Gr w w'
def only (b : Bool) (a : Int) : Int := if b then a else 0
def err (b : Bool) : Int := if b then 0 else 2
theorem may_in {n l g : Int} (h : mayL n l g = true) : 64 ≤ n ∧ n ≤ 4096 ∧ 16 ≤ l ∧ l ≤ 256 ∧ 1 ≤ g ∧ g ≤ 60 ∧ 3 + l + 64 * g ≤ n + 56 ∧ n < 3 + l + 64 * g + 8 := by
 simp only [mayL, okN, Bool.and_eq_true, decide_eq_true_eq] at h
 obtain ⟨⟨h0, h1⟩, rfl, rfl⟩ := h; have := log_lo h0 h1; have := grp_lo h0 h1
 omega
set_option maxRecDepth 100000 in
theorem asking_log (n l g i x y : Int) (ok : Bool) (b c d : Nat) (w : World) (hb : Blk w b TY #[.int .i64 n, .int .i64 l, .int .i64 g]) (hc : Blk w c TF #[.func (.func 129) #[] #[.pointer (some ⟨d, 0, none⟩)]])
  (hF : mayL n l g = true → ∀ W, Gr w W → Calls Tryz.prog 129 #[.int .i64 i, .pointer (some ⟨d, 0, none⟩)] W (RetT x y ok W)) :
  Calls Tryz.prog 148 #[.int .i64 i, .pointer (some ⟨b, 0, none⟩), .pointer (some ⟨c, 0, none⟩)] w (Ret3 (only (mayL n l g && ok) x) (only (mayL n l g && ok) y) (err (mayL n l g && ok)) w) := by
 obtain ⟨⟨c0, c1, c2⟩, f0, f1, f2⟩ := hb.c3; have HC := Lib.hid hc; have HM := Lib.hid (mayS_any n l g); clear hb hc
 by_cases hm : mayL n l g = true
 ·
  have HF := Lib.hid (hF hm)
  rw [hm] at HM
  rw [hm]; clear hF hm
  go_enter Tryz.func148, Tryz.ntmps148
  go_wp2_with fail; refine (HM.out _).mono ?_; rintro e w1 ⟨rfl, g1⟩; have q := (HC.out.below g1 HC.out.lt).cell 0; have G1 := Lib.hid g1; clear g1 HM; go_wp2_with fail; refine (HF.out _ G1.out).mono ?_; rintro e w2 ⟨x', y', rfl, hx, g2⟩; have HX := Lib.hid hx; have G2 := Lib.hid (Gr.trans G1.out g2); clear g2 hx q
  cases ok
  ·
   go_wp2
   go_returns
   exact ⟨rfl, G2.out⟩
  ·
   go_wp2
   go_returns
   obtain ⟨rfl, rfl⟩ := HX.out (by simp); exact ⟨rfl, G2.out⟩
 ·
  have hm : mayL n l g = false := by simpa using hm
  rw [hm] at HM
  rw [hm]; clear hF hm
  go_enter Tryz.func148, Tryz.ntmps148
  go_wp2_with fail; refine (HM.out _).mono ?_; rintro e w1 ⟨rfl, g1⟩; have G1 := Lib.hid g1; clear g1 HM
  go_wp2
  go_returns
  exact ⟨rfl, G1.out⟩
theorem gr_drewN {w w' : World} (h : Gr w w') (n : Nat) : Gr w (w'.drewN n) := below_drewN h n
set_option maxRecDepth 100000 in
theorem log1_any (n l g i : Int) (d : Nat) (w : World) (hb : Blk w d TY #[.int .i64 n, .int .i64 l, .int .i64 g]) (hm : mayL n l g = true) :
  Calls Tryz.prog 129 #[.int .i64 i, .pointer (some ⟨d, 0, none⟩)] w (RetT (3 + i) 0 (decide (0 ≤ i) && decide (i < l)) w) := by
 obtain ⟨⟨c0, c1, c2⟩, f0, f1, f2⟩ := hb.c3; have HI := Lib.hid (may_in hm); clear hb hm
 by_cases h0 : 0 ≤ i
 ·
  have hd : decide (0 ≤ i) = true := by simpa using h0
  have hj : Hid ((decide (0 ≤ i) && decide (i < l)) = decide (i < l)) := Lib.hid (by rw [hd]; rfl)
  go_enter Tryz.func129, Tryz.ntmps129
  go_wp2_with fail
  go_quiet (fail)
  go_wp2
  go_returns
  rw [hj.out]; refine ⟨_, _, rfl, fun h => ?_, gr_drewN (Gr.refl _) _⟩
  have h1 : i < l := by simpa using h
  have := HI.out; exact ⟨by unfold wrap64; omega, rfl⟩
 ·
  have hd : decide (0 ≤ i) = false := by simpa using h0
  have hj : Hid ((decide (0 ≤ i) && decide (i < l)) = false) := Lib.hid (by rw [hd]; rfl)
  go_enter Tryz.func129, Tryz.ntmps129
  go_wp2_with fail
  go_quiet (fail)
  go_wp2
  go_returns
  rw [hj.out]; exact ⟨_, _, rfl, fun h => (by cases h), gr_drewN (Gr.refl _) _⟩
end Go.Proofs.YtlijbgapkmfnaaaGreat
namespace Go.Proofs.YtlijbgapkmfnaaaGreat
open Go.RowKit Cr
abbrev TR : TypeId := 33
theorem Blk.c8 {w : World} {g : Nat} {t : TypeId} {a b c d e f i j : Value} (h : Blk w g t #[a, b, c, d, e, f, i, j]) : w.cell? ⟨g, 0, none⟩ = some a ∧ w.cell? ⟨g, 1, none⟩ = some b ∧ w.cell? ⟨g, 2, none⟩ = some c ∧ w.cell? ⟨g, 3, none⟩ = some d ∧ w.cell? ⟨g, 4, none⟩ = some e ∧ w.cell? ⟨g, 5, none⟩ = some f ∧ w.cell? ⟨g, 6, none⟩ = some i ∧ w.cell? ⟨g, 7, none⟩ = some j :=
 ⟨h.cell 0, h.cell 1, h.cell 2, h.cell 3, h.cell 4, h.cell 5, h.cell 6, h.cell 7⟩
def RetV (v : Value) (w : World) (en : Ending) (w' : World) : Prop := en = .returned v ∧ Gr w w'
def chB (k : Int) : Bool := decide (k = 1) || decide (k = 2)
theorem changes_any (k : Int) (w : World) : Calls Tryz.prog 107 #[.int .i64 k] w fun e w' => e = .returned (.bool (chB k)) ∧ w = w' := by
 by_cases h1 : k = 1
 ·
  subst h1
  go_enter Tryz.func107, Tryz.ntmps107
  go_wp2
  go_ret
  exact ⟨rfl, rfl⟩
 ·
  by_cases h2 : k = 2
  ·
   subst h2
   go_enter Tryz.func107, Tryz.ntmps107
   go_wp2
   go_ret
   exact ⟨rfl, rfl⟩
  ·
   go_enter Tryz.func107, Tryz.ntmps107
   go_wp2
   go_ret
   exact ⟨ret_b (by simp [chB, h1, h2]), rfl⟩
def befR (k : Int) (n : Nat) : Int := if k = 1 then n else 0
theorem befores_any (k : Int) (n : Nat) (w : World) : Calls Tryz.prog 124 #[.int .i64 k, .int .i64 n] w fun e w' => e = .returned (.int .i64 (befR k n)) ∧ w = w' := by
 by_cases h1 : k = 1
 ·
  subst h1
  go_enter Tryz.func124, Tryz.ntmps124
  go_wp2
  go_ret
  exact ⟨rfl, rfl⟩
 ·
  go_enter Tryz.func124, Tryz.ntmps124
  go_wp2
  go_ret
  exact ⟨ret_i (by simp [befR, h1]), rfl⟩
def fitQ (k g o : Int) (nb na : Nat) : Bool := decide (0 ≤ g ∧ g < 4096 ∧ 1 ≤ na ∧ (nb : Int) = befR k na ∧ 0 ≤ o ∧ o ≤ 248 - (na : Int))
def SlM1 (k : Int) (t : Nat) (p : Nat) (x : Nat) (g : Int) (o : Int) (pb : Option Addr) (nb : Nat) (cb : Nat) (pa : Option Addr) (na : Nat) (ca : Nat) (d : Nat) (V : Value) (_ : Bool) (slot : Nat) (v : Value) (_ : World) : Prop :=
 match slot with
 | 3 => v = .pointer (some ⟨d, 1, none⟩)
 | 4 => v = .int .u64 t
 | 5 | 6 => v = .bool true
 | 7 | 8 => v = .agg #[.int .i64 k, .int .u64 t, .int .u64 p, .int .u64 x, .int .i64 g, .int .i64 o, .slice pb nb cb, .slice pa na ca]
 | 9 => v = V
 | 10 | 11 | 12 | 21 | 2 => v = .bool false
 | 17 => v = undef
 | _ => True
def SlM2 (k : Int) (t : Nat) (p : Nat) (x : Nat) (g : Int) (o : Int) (pb : Option Addr) (nb : Nat) (cb : Nat) (pa : Option Addr) (na : Nat) (ca : Nat) (d : Nat) (V : Value) (_ : Bool) (slot : Nat) (v : Value) (_ : World) : Prop :=
 match slot with
 | 3 => v = .pointer (some ⟨d, 1, none⟩)
 | 4 => v = .int .u64 t
 | 5 | 6 | 10 | 11 | 12 | 16 | 17 | 20 | 21 | 2 => v = .bool true
 | 7 | 8 => v = .agg #[.int .i64 k, .int .u64 t, .int .u64 p, .int .u64 x, .int .i64 g, .int .i64 o, .slice pb nb cb, .slice pa na ca]
 | 9 => v = V
 | 13 => v = .pointer (some ⟨d, 0, none⟩)
 | 14 => v = .int .i64 k
 | 15 => v = .bool false
 | _ => True
set_option maxRecDepth 100000 in
set_option maxHeartbeats 4000000 in
theorem fitsR_any (k : Int) (t : Nat) (p : Nat) (x : Nat) (g : Int) (o : Int) (pb : Option Addr) (nb : Nat) (cb : Nat) (pa : Option Addr) (na : Nat) (ca : Nat) (w : World) (hn : (na : Int) ≤ 9223372036854775807) : Calls Tryz.prog 108 #[.agg #[.int .i64 k, .int .u64 t, .int .u64 p, .int .u64 x, .int .i64 g, .int .i64 o, .slice pb nb cb, .slice pa na ca]] w (RetB (fitQ k g o nb na) w) := by
 have HB := Lib.hid (Blk.new w TR #[.int .i64 k, .int .u64 t, .int .u64 p, .int .u64 x, .int .i64 g, .int .i64 o, .slice pb nb cb, .slice pa na ca]); obtain ⟨c0, c1, c2, c3, c4, c5, c6, c7⟩ := HB.out.c8; have HF := Lib.hid (befores_any k na); have HW : Hid (IntKind.i64.wrap (248 - (na : Int)) = 248 - (na : Int)) := Lib.hid (by rw [IntKind.wrap_i64]; omega)
 by_cases h0 : 0 ≤ g
 ·
  by_cases h1 : g < 4096
  ·
   by_cases h2 : 1 ≤ na
   ·
    have h2' : (1 : Int) ≤ na := by omega
    by_cases h3 : (nb : Int) = befR k na
    ·
     have HQ := Lib.hid h3; clear h3
     by_cases h4 : 0 ≤ o
     ·
      by_cases h5 : o ≤ 248 - (na : Int)
      ·
       have HR : Hid (fitQ k g o nb na = true) := Lib.hid (decide_eq_true ⟨h0, h1, h2, HQ.out, h4, h5⟩)
       go_enter Tryz.func108, Tryz.ntmps108
       go_wp2_with fail; have x0 : decide (0 ≤ g) = true := decide_eq_true (by omega); have x1 : decide (g < 4096) = true := decide_eq_true (by omega); have x2 : decide (1 ≤ (na : Int)) = true := decide_eq_true (by omega)
       have x3 : ((nb : Int) == befR k na) = true := by simpa using HQ.out
       have x4 : decide (0 ≤ o) = true := decide_eq_true (by omega); have x5 : decide (o ≤ 248 - (na : Int)) = true := decide_eq_true (by omega); have hw := HW.out
       go_quiet (exact Calls.quiet_of ((HF.out _).mono fun _ _ h => ⟨h.1, 0, h.2.symm⟩))
       go_wp2_with fail
       go_ret
       exact ⟨ret_b HR.out.symm, gr_drewN ((Gr.refl w).alloc (Nat.le_refl _) _) _⟩
      ·
       have HR : Hid (fitQ k g o nb na = false) := Lib.hid (decide_eq_false (by omega)); have d5 : decide (o ≤ 248 - (na : Int)) = false := decide_eq_false h5
       go_enter Tryz.func108, Tryz.ntmps108
       go_wp2_with fail; have x0 : decide (0 ≤ g) = true := decide_eq_true (by omega); have x1 : decide (g < 4096) = true := decide_eq_true (by omega); have x2 : decide (1 ≤ (na : Int)) = true := decide_eq_true (by omega)
       have x3 : ((nb : Int) == befR k na) = true := by simpa using HQ.out
       have x4 : decide (0 ≤ o) = true := decide_eq_true (by omega); have x5 : decide (o ≤ 248 - (na : Int)) = false := decide_eq_false (by omega); have hw := HW.out
       go_quiet (exact Calls.quiet_of ((HF.out _).mono fun _ _ h => ⟨h.1, 0, h.2.symm⟩))
       go_wp2_with fail
       go_ret
       exact ⟨ret_b HR.out.symm, gr_drewN ((Gr.refl w).alloc (Nat.le_refl _) _) _⟩
     ·
      have HR : Hid (fitQ k g o nb na = false) := Lib.hid (decide_eq_false (by omega)); have d4 : decide (0 ≤ o) = false := decide_eq_false h4
      go_enter Tryz.func108, Tryz.ntmps108
      go_wp2_with fail; have x0 : decide (0 ≤ g) = true := decide_eq_true (by omega); have x1 : decide (g < 4096) = true := decide_eq_true (by omega); have x2 : decide (1 ≤ (na : Int)) = true := decide_eq_true (by omega)
      have x3 : ((nb : Int) == befR k na) = true := by simpa using HQ.out
      have x4 : decide (0 ≤ o) = false := decide_eq_false (by omega); have hw := HW.out
      go_quiet (exact Calls.quiet_of ((HF.out _).mono fun _ _ h => ⟨h.1, 0, h.2.symm⟩))
      go_wp2_with fail
      go_ret
      exact ⟨ret_b HR.out.symm, gr_drewN ((Gr.refl w).alloc (Nat.le_refl _) _) _⟩
    ·
     have HR : Hid (fitQ k g o nb na = false) := Lib.hid (decide_eq_false (fun h => h3 h.2.2.2.1)); have HQ : Hid (((nb : Int) == befR k na) = false) := Lib.hid (by simpa using h3); clear h3
     go_enter Tryz.func108, Tryz.ntmps108
     go_wp2_with fail; have x0 : decide (0 ≤ g) = true := decide_eq_true (by omega); have x1 : decide (g < 4096) = true := decide_eq_true (by omega); have x2 : decide (1 ≤ (na : Int)) = true := decide_eq_true (by omega); have x3 : ((nb : Int) == befR k na) = false := HQ.out
     go_quiet (exact Calls.quiet_of ((HF.out _).mono fun _ _ h => ⟨h.1, 0, h.2.symm⟩))
     go_wp2_with fail
     go_ret
     exact ⟨ret_b HR.out.symm, gr_drewN ((Gr.refl w).alloc (Nat.le_refl _) _) _⟩
   ·
    obtain rfl : na = 0 := by omega
    have HR : Hid (fitQ k g o nb 0 = false) := Lib.hid (decide_eq_false (by omega))
    go_enter Tryz.func108, Tryz.ntmps108
    go_wp2_with fail; have x0 : decide (0 ≤ g) = true := decide_eq_true (by omega); have x1 : decide (g < 4096) = true := decide_eq_true (by omega); have x2 : decide (1 ≤ ((0 : Nat) : Int)) = false := decide_eq_false (by omega)
    go_quiet (exact Calls.quiet_of ((HF.out _).mono fun _ _ h => ⟨h.1, 0, h.2.symm⟩))
    go_wp2_with fail
    go_ret
    exact ⟨ret_b HR.out.symm, gr_drewN ((Gr.refl w).alloc (Nat.le_refl _) _) _⟩
  ·
   have HR : Hid (fitQ k g o nb na = false) := Lib.hid (decide_eq_false (by omega)); have d1 : decide (g < 4096) = false := decide_eq_false h1
   go_enter Tryz.func108, Tryz.ntmps108
   go_wp2_with fail; have x0 : decide (0 ≤ g) = true := decide_eq_true (by omega); have x1 : decide (g < 4096) = false := decide_eq_false (by omega)
   go_quiet (exact Calls.quiet_of ((HF.out _).mono fun _ _ h => ⟨h.1, 0, h.2.symm⟩))
   go_wp2_with fail
   go_ret
   exact ⟨ret_b HR.out.symm, gr_drewN ((Gr.refl w).alloc (Nat.le_refl _) _) _⟩
 ·
  have HR : Hid (fitQ k g o nb na = false) := Lib.hid (decide_eq_false (by omega)); have d0 : decide (0 ≤ g) = false := decide_eq_false h0
  go_enter Tryz.func108, Tryz.ntmps108
  go_wp2_with fail; have x0 : decide (0 ≤ g) = false := decide_eq_false (by omega)
  go_quiet (exact Calls.quiet_of ((HF.out _).mono fun _ _ h => ⟨h.1, 0, h.2.symm⟩))
  go_wp2_with fail
  go_ret
  exact ⟨ret_b HR.out.symm, gr_drewN ((Gr.refl w).alloc (Nat.le_refl _) _) _⟩
set_option maxRecDepth 100000 in
set_option maxHeartbeats 4000000 in
theorem may_core (k : Int) (t : Nat) (p : Nat) (x : Nat) (g : Int) (o : Int) (pb : Option Addr) (nb : Nat) (cb : Nat) (pa : Option Addr) (na : Nat) (ca : Nat) (V : Value) (S F : Bool) (w : World) (hN : ∀ W, Calls Tryz.prog 106 #[.agg #[.int .i64 k, .int .u64 t, .int .u64 p, .int .u64 x, .int .i64 g, .int .i64 o, .slice pb nb cb, .slice pa na ca]] W (RetV V W))
  (hS : ∀ W, Gr w W → Calls Tryz.prog 105 #[.agg #[.int .i64 k, .int .u64 t, .int .u64 p, .int .u64 x, .int .i64 g, .int .i64 o, .slice pb nb cb, .slice pa na ca], V] W (RetB S W)) (hF : ∀ W, Calls Tryz.prog 108 #[.agg #[.int .i64 k, .int .u64 t, .int .u64 p, .int .u64 x, .int .i64 g, .int .i64 o, .slice pb nb cb, .slice pa na ca]] W (RetB F W)) :
  Calls Tryz.prog 90 #[.agg #[.int .i64 k, .int .u64 t, .int .u64 p, .int .u64 x, .int .i64 g, .int .i64 o, .slice pb nb cb, .slice pa na ca]] w (RetB (!decide (t = 0) && (S && (!chB k || F))) w) := by
 have HB := Lib.hid (Blk.new w TR #[.int .i64 k, .int .u64 t, .int .u64 p, .int .u64 x, .int .i64 g, .int .i64 o, .slice pb nb cb, .slice pa na ca]); obtain ⟨c0, c1, c2, c3, c4, c5, c6, c7⟩ := HB.out.c8; have HN := Lib.hid hN; have HF := Lib.hid hF; have HS : Hid (∀ W, Gr (w.alloc (.cells #[.int .i64 k, .int .u64 t, .int .u64 p, .int .u64 x, .int .i64 g, .int .i64 o, .slice pb nb cb, .slice pa na ca] TR)) W → Calls Tryz.prog 105 #[.agg #[.int .i64 k, .int .u64 t, .int .u64 p, .int .u64 x, .int .i64 g, .int .i64 o, .slice pb nb cb, .slice pa na ca], V] W (RetB S W)) := Lib.hid (fun W g => hS W (grow1 g)); clear hN hF hS
 by_cases ht : t = 0
 ·
  have HT := Lib.hid ht; clear ht
  go_enter Tryz.func90, Tryz.ntmps90
  go_wp2_with fail
  have hq : ((t : Int) != 0) = false := by simp [HT.out]
  go_quiet (fail)
  go_wp2_with fail
  go_ret
  exact ⟨ret_b (by rw [decide_eq_true HT.out]; rfl), gr_drewN ((Gr.refl w).alloc (Nat.le_refl _) _) _⟩
 ·
  have HT : Hid (((t : Int) != 0) = true ∧ decide (t = 0) = false) := Lib.hid ⟨by simp; omega, decide_eq_false ht⟩; clear ht
  cases S
  ·
   go_enter Tryz.func90, Tryz.ntmps90
   go_wp2_with fail; refine Flow.region (SlM1 k t p x g o pb nb cb pa na ca w.heap.size V F) (Gr (w.alloc (.cells #[.int .i64 k, .int .u64 t, .int .u64 p, .int .u64 x, .int .i64 g, .int .i64 o, .slice pb nb cb, .slice pa na ca] TR))) (fun _ _ => True) (by kernel_rfl) (by kernel_rfl) (fun _ _ _ _ h _ => h) ⟨rfl, rfl, rfl, Nat.le_refl _, fun _ _ => rfl⟩ ?steps ?fin
   case steps =>
    refine .cons (fun a W hfr hinv hdep K hK => ?_) ?_
    · have t1 := tAt (.pointer (some ⟨w.heap.size, 0, none⟩)) (hfr.at 1 (by kernel_rfl)); refine fW0 rfl ?_; clear hfr hdep; go_simp; exact hK _ _ True.intro hinv (dsT (by trivial))
    refine .cons (fun a W hfr hinv hdep K hK => ?_) ?_
    · have t3 := tAt (.pointer (some ⟨w.heap.size, 1, none⟩)) (hdep 3 (by kernel_rfl)); obtain ⟨c0, c1, c2, c3, c4, c5, c6, c7⟩ := (HB.out.below hinv HB.out.lt).c8; refine fW0 rfl ?_; clear hfr hdep; go_simp; exact hK _ _ True.intro hinv (dsT (by trivial))
    refine .cons (fun a W hfr hinv hdep K hK => ?_) ?_
    · have t4 := tAt (.int .u64 t) (hdep 4 (by kernel_rfl)); obtain ⟨hq, hq2⟩ := HT.out; refine fW0 rfl ?_; clear hfr hdep; go_simp; exact hK _ _ True.intro hinv (dsT (by trivial))
    refine .cons (fun a W hfr hinv hdep K hK => ?_) ?_
    · have t5 := tAt (.bool true) (hdep 5 (by kernel_rfl)); refine fW0 rfl ?_; clear hfr hdep; go_simp; exact hK _ _ True.intro hinv (dsT (by trivial))
    refine .cons (fun a W hfr hinv hdep K hK => ?_) ?_
    · have sg : a.tmps.getD 6 undef = .bool true := hdep 6 (by kernel_rfl); have t1 := tAt (.pointer (some ⟨w.heap.size, 0, none⟩)) (hfr.at 1 (by kernel_rfl)); obtain ⟨c0, c1, c2, c3, c4, c5, c6, c7⟩ := (HB.out.below hinv HB.out.lt).c8; rw [if_pos (Flow.wanted_yes 3 true 6 rfl (by kernel_rfl) sg)]; clear hfr hdep; go_simp; exact hK _ _ True.intro hinv (dsT (by trivial))
    refine .cons (fun a W hfr hinv hdep K hK => ?_) ?_
    · have sg : a.tmps.getD 6 undef = .bool true := hdep 6 (by kernel_rfl); have t1 := tAt (.pointer (some ⟨w.heap.size, 0, none⟩)) (hfr.at 1 (by kernel_rfl)); obtain ⟨c0, c1, c2, c3, c4, c5, c6, c7⟩ := (HB.out.below hinv HB.out.lt).c8; rw [if_pos (Flow.wanted_yes 3 true 6 rfl (by kernel_rfl) sg)]; clear hfr hdep; go_simp; exact hK _ _ True.intro hinv (dsT (by trivial))
    refine .cons (fun a W hfr hinv hdep K hK => ?_) ?_
    · have sg : a.tmps.getD 6 undef = .bool true := hdep 6 (by kernel_rfl); have t8 := tAt (.agg #[.int .i64 k, .int .u64 t, .int .u64 p, .int .u64 x, .int .i64 g, .int .i64 o, .slice pb nb cb, .slice pa na ca]) (hdep 8 (by kernel_rfl)); rw [if_pos (Flow.wanted_yes 3 true 6 rfl (by kernel_rfl) sg)]; clear hfr hdep; go_simp; refine (HN.out W).mono ?_; rintro e W' ⟨rfl, g1⟩; exact hK _ _ True.intro (Gr.trans hinv g1) (dsT (by trivial))
    refine .cons (fun a W hfr hinv hdep K hK => ?_) ?_
    · have sg : a.tmps.getD 6 undef = .bool true := hdep 6 (by kernel_rfl); have t7 := tAt (.agg #[.int .i64 k, .int .u64 t, .int .u64 p, .int .u64 x, .int .i64 g, .int .i64 o, .slice pb nb cb, .slice pa na ca]) (hdep 7 (by kernel_rfl)); have t9 := tAt (V) (hdep 9 (by kernel_rfl)); rw [if_pos (Flow.wanted_yes 3 true 6 rfl (by kernel_rfl) sg)]; clear hfr hdep; go_simp; refine (HS.out W hinv).mono ?_; rintro e W' ⟨rfl, g1⟩; exact hK _ _ True.intro (Gr.trans hinv g1) (dsT (by trivial))
    refine .cons (fun a W hfr hinv hdep K hK => ?_) ?_
    · have t6 := tAt (.bool true) (hdep 6 (by kernel_rfl)); have t10 := tAt (.bool false) (hdep 10 (by kernel_rfl)); refine fW0 rfl ?_; clear hfr hdep; go_simp; exact hK _ _ True.intro hinv (dsT (by trivial))
    refine .cons (fun a W hfr hinv hdep K hK => ?_) ?_
    · have t11 := tAt (.bool false) (hdep 11 (by kernel_rfl)); refine fW0 rfl ?_; clear hfr hdep; go_simp; exact hK _ _ True.intro hinv (dsT (by trivial))
    refine .cons (fun a W hfr hinv hdep K hK => ?_) ?_
    · have sg : a.tmps.getD 12 undef = .bool !true := hdep 12 (by kernel_rfl); have t1 := tAt (.pointer (some ⟨w.heap.size, 0, none⟩)) (hfr.at 1 (by kernel_rfl)); rw [if_neg (Flow.wanted_no 9 true 12 rfl (by kernel_rfl) sg)]; clear hfr hdep; exact hK _ _ True.intro hinv (dsT (by trivial))
    refine .cons (fun a W hfr hinv hdep K hK => ?_) ?_
    · have sg : a.tmps.getD 12 undef = .bool !true := hdep 12 (by kernel_rfl); obtain ⟨c0, c1, c2, c3, c4, c5, c6, c7⟩ := (HB.out.below hinv HB.out.lt).c8; rw [if_neg (Flow.wanted_no 9 true 12 rfl (by kernel_rfl) sg)]; clear hfr hdep; exact hK _ _ True.intro hinv (dsT (by trivial))
    refine .cons (fun a W hfr hinv hdep K hK => ?_) ?_
    · have sg : a.tmps.getD 12 undef = .bool !true := hdep 12 (by kernel_rfl); rw [if_neg (Flow.wanted_no 9 true 12 rfl (by kernel_rfl) sg)]; clear hfr hdep; exact hK _ _ True.intro hinv (dsT (by trivial))
    refine .cons (fun a W hfr hinv hdep K hK => ?_) ?_
    · have sg : a.tmps.getD 12 undef = .bool !true := hdep 12 (by kernel_rfl); rw [if_neg (Flow.wanted_no 9 true 12 rfl (by kernel_rfl) sg)]; clear hfr hdep; exact hK _ _ True.intro hinv (dsT (by trivial))
    refine .cons (fun a W hfr hinv hdep K hK => ?_) ?_
    · have sg : a.tmps.getD 12 undef = .bool !true := hdep 12 (by kernel_rfl); rw [if_neg (Flow.wanted_no 9 true 12 rfl (by kernel_rfl) sg)]; clear hfr hdep; exact hK _ _ True.intro hinv (dsT (by trivial))
    refine .cons (fun a W hfr hinv hdep K hK => ?_) ?_
    · have sg : a.tmps.getD 17 undef = undef := hdep 17 (by kernel_rfl); have t1 := tAt (.pointer (some ⟨w.heap.size, 0, none⟩)) (hfr.at 1 (by kernel_rfl)); obtain ⟨c0, c1, c2, c3, c4, c5, c6, c7⟩ := (HB.out.below hinv HB.out.lt).c8; rw [if_neg (Flow.wanted_undef 14 false 17 rfl (by kernel_rfl) sg)]; clear hfr hdep; exact hK _ _ True.intro hinv (dsT (by trivial))
    refine .cons (fun a W hfr hinv hdep K hK => ?_) ?_
    · have sg : a.tmps.getD 17 undef = undef := hdep 17 (by kernel_rfl); rw [if_neg (Flow.wanted_undef 14 false 17 rfl (by kernel_rfl) sg)]; clear hfr hdep; exact hK _ _ True.intro hinv (dsT (by trivial))
    refine .cons (fun a W hfr hinv hdep K hK => ?_) ?_
    · have sg : a.tmps.getD 12 undef = .bool !true := hdep 12 (by kernel_rfl); have t17 := tAt (undef) (hdep 17 (by kernel_rfl)); rw [if_neg (Flow.wanted_no 9 true 12 rfl (by kernel_rfl) sg)]; clear hfr hdep; exact hK _ _ True.intro hinv (dsT (by trivial))
    refine .cons (fun a W hfr hinv hdep K hK => ?_) ?_
    · have t12 := tAt (.bool false) (hdep 12 (by kernel_rfl)); refine fW0 rfl ?_; clear hfr hdep; go_simp; exact hK _ _ True.intro hinv (dsT (by trivial))
    refine .cons (fun a W hfr hinv hdep K hK => ?_) ?_
    · have t21 := tAt (.bool false) (hdep 21 (by kernel_rfl)); refine fW0 rfl ?_; clear hfr hdep; go_simp; exact hK _ _ True.intro hinv (dsT (by trivial))
    exact True.intro
   case fin =>
    intro a W hfr hfin hsl
    have s2 : a.tmps.getD 2 undef = .bool false := hsl 19 _ 2 rfl rfl; have t2 := tmpAt s2; have e := Flow.frame hfr [3, 4, 5, 6, 7, 8, 9, 10, 11, 12, 13, 14, 15, 16, 17, 18, 19, 20, 21, 2] (List.range 22) (by kernel_rfl) (by kernel_rfl)
    simp [List.range, List.range.loop] at e
    rw [t2] at e
    rw [e]; clear e hfr hsl s2 t2
    rename_i K2 hK2
    refine hK2 _ _ ?_; go_wp2_with fail
    go_ret
    exact ⟨ret_b (by rw [HT.out.2]; rfl), grow1 hfin⟩
  ·
   cases hc : chB k
   ·
    have HC := Lib.hid hc; clear hc
    go_enter Tryz.func90, Tryz.ntmps90
    go_wp2_with fail; refine Flow.region (SlM2 k t p x g o pb nb cb pa na ca w.heap.size V F) (Gr (w.alloc (.cells #[.int .i64 k, .int .u64 t, .int .u64 p, .int .u64 x, .int .i64 g, .int .i64 o, .slice pb nb cb, .slice pa na ca] TR))) (fun _ _ => True) (by kernel_rfl) (by kernel_rfl) (fun _ _ _ _ h _ => h) ⟨rfl, rfl, rfl, Nat.le_refl _, fun _ _ => rfl⟩ ?steps ?fin
    case steps =>
     refine .cons (fun a W hfr hinv hdep K hK => ?_) ?_
     · have t1 := tAt (.pointer (some ⟨w.heap.size, 0, none⟩)) (hfr.at 1 (by kernel_rfl)); refine fW0 rfl ?_; clear hfr hdep; go_simp; exact hK _ _ True.intro hinv (dsT (by trivial))
     refine .cons (fun a W hfr hinv hdep K hK => ?_) ?_
     · have t3 := tAt (.pointer (some ⟨w.heap.size, 1, none⟩)) (hdep 3 (by kernel_rfl)); obtain ⟨c0, c1, c2, c3, c4, c5, c6, c7⟩ := (HB.out.below hinv HB.out.lt).c8; refine fW0 rfl ?_; clear hfr hdep; go_simp; exact hK _ _ True.intro hinv (dsT (by trivial))
     refine .cons (fun a W hfr hinv hdep K hK => ?_) ?_
     · have t4 := tAt (.int .u64 t) (hdep 4 (by kernel_rfl)); obtain ⟨hq, hq2⟩ := HT.out; refine fW0 rfl ?_; clear hfr hdep; go_simp; exact hK _ _ True.intro hinv (dsT (by trivial))
     refine .cons (fun a W hfr hinv hdep K hK => ?_) ?_
     · have t5 := tAt (.bool true) (hdep 5 (by kernel_rfl)); refine fW0 rfl ?_; clear hfr hdep; go_simp; exact hK _ _ True.intro hinv (dsT (by trivial))
     refine .cons (fun a W hfr hinv hdep K hK => ?_) ?_
     · have sg : a.tmps.getD 6 undef = .bool true := hdep 6 (by kernel_rfl); have t1 := tAt (.pointer (some ⟨w.heap.size, 0, none⟩)) (hfr.at 1 (by kernel_rfl)); obtain ⟨c0, c1, c2, c3, c4, c5, c6, c7⟩ := (HB.out.below hinv HB.out.lt).c8; rw [if_pos (Flow.wanted_yes 3 true 6 rfl (by kernel_rfl) sg)]; clear hfr hdep; go_simp; exact hK _ _ True.intro hinv (dsT (by trivial))
     refine .cons (fun a W hfr hinv hdep K hK => ?_) ?_
     · have sg : a.tmps.getD 6 undef = .bool true := hdep 6 (by kernel_rfl); have t1 := tAt (.pointer (some ⟨w.heap.size, 0, none⟩)) (hfr.at 1 (by kernel_rfl)); obtain ⟨c0, c1, c2, c3, c4, c5, c6, c7⟩ := (HB.out.below hinv HB.out.lt).c8; rw [if_pos (Flow.wanted_yes 3 true 6 rfl (by kernel_rfl) sg)]; clear hfr hdep; go_simp; exact hK _ _ True.intro hinv (dsT (by trivial))
     refine .cons (fun a W hfr hinv hdep K hK => ?_) ?_
     · have sg : a.tmps.getD 6 undef = .bool true := hdep 6 (by kernel_rfl); have t8 := tAt (.agg #[.int .i64 k, .int .u64 t, .int .u64 p, .int .u64 x, .int .i64 g, .int .i64 o, .slice pb nb cb, .slice pa na ca]) (hdep 8 (by kernel_rfl)); rw [if_pos (Flow.wanted_yes 3 true 6 rfl (by kernel_rfl) sg)]; clear hfr hdep; go_simp; refine (HN.out W).mono ?_; rintro e W' ⟨rfl, g1⟩; exact hK _ _ True.intro (Gr.trans hinv g1) (dsT (by trivial))
     refine .cons (fun a W hfr hinv hdep K hK => ?_) ?_
     · have sg : a.tmps.getD 6 undef = .bool true := hdep 6 (by kernel_rfl); have t7 := tAt (.agg #[.int .i64 k, .int .u64 t, .int .u64 p, .int .u64 x, .int .i64 g, .int .i64 o, .slice pb nb cb, .slice pa na ca]) (hdep 7 (by kernel_rfl)); have t9 := tAt (V) (hdep 9 (by kernel_rfl)); rw [if_pos (Flow.wanted_yes 3 true 6 rfl (by kernel_rfl) sg)]; clear hfr hdep; go_simp; refine (HS.out W hinv).mono ?_; rintro e W' ⟨rfl, g1⟩; exact hK _ _ True.intro (Gr.trans hinv g1) (dsT (by trivial))
     refine .cons (fun a W hfr hinv hdep K hK => ?_) ?_
     · have t6 := tAt (.bool true) (hdep 6 (by kernel_rfl)); have t10 := tAt (.bool true) (hdep 10 (by kernel_rfl)); refine fW0 rfl ?_; clear hfr hdep; go_simp; exact hK _ _ True.intro hinv (dsT (by trivial))
     refine .cons (fun a W hfr hinv hdep K hK => ?_) ?_
     · have t11 := tAt (.bool true) (hdep 11 (by kernel_rfl)); refine fW0 rfl ?_; clear hfr hdep; go_simp; exact hK _ _ True.intro hinv (dsT (by trivial))
     refine .cons (fun a W hfr hinv hdep K hK => ?_) ?_
     · have sg : a.tmps.getD 12 undef = .bool true := hdep 12 (by kernel_rfl); have t1 := tAt (.pointer (some ⟨w.heap.size, 0, none⟩)) (hfr.at 1 (by kernel_rfl)); rw [if_pos (Flow.wanted_yes 9 true 12 rfl (by kernel_rfl) sg)]; clear hfr hdep; go_simp; exact hK _ _ True.intro hinv (dsT (by trivial))
     refine .cons (fun a W hfr hinv hdep K hK => ?_) ?_
     · have sg : a.tmps.getD 12 undef = .bool true := hdep 12 (by kernel_rfl); have t13 := tAt (.pointer (some ⟨w.heap.size, 0, none⟩)) (hdep 13 (by kernel_rfl)); obtain ⟨c0, c1, c2, c3, c4, c5, c6, c7⟩ := (HB.out.below hinv HB.out.lt).c8; rw [if_pos (Flow.wanted_yes 9 true 12 rfl (by kernel_rfl) sg)]; clear hfr hdep; go_simp; exact hK _ _ True.intro hinv (dsT (by trivial))
     refine .cons (fun a W hfr hinv hdep K hK => ?_) ?_
     · have sg : a.tmps.getD 12 undef = .bool true := hdep 12 (by kernel_rfl); have t14 := tAt (.int .i64 k) (hdep 14 (by kernel_rfl)); rw [if_pos (Flow.wanted_yes 9 true 12 rfl (by kernel_rfl) sg)]; clear hfr hdep; go_simp; refine (changes_any _ W).mono ?_; rintro e W' ⟨rfl, rfl⟩; rw [HC.out]; exact hK _ _ True.intro hinv (dsT (by trivial))
     refine .cons (fun a W hfr hinv hdep K hK => ?_) ?_
     · have sg : a.tmps.getD 12 undef = .bool true := hdep 12 (by kernel_rfl); have t15 := tAt (.bool false) (hdep 15 (by kernel_rfl)); rw [if_pos (Flow.wanted_yes 9 true 12 rfl (by kernel_rfl) sg)]; clear hfr hdep; go_simp; exact hK _ _ True.intro hinv (dsT (by trivial))
     refine .cons (fun a W hfr hinv hdep K hK => ?_) ?_
     · have sg : a.tmps.getD 12 undef = .bool true := hdep 12 (by kernel_rfl); have t16 := tAt (.bool true) (hdep 16 (by kernel_rfl)); rw [if_pos (Flow.wanted_yes 9 true 12 rfl (by kernel_rfl) sg)]; clear hfr hdep; go_simp; exact hK _ _ True.intro hinv (dsT (by trivial))
     refine .cons (fun a W hfr hinv hdep K hK => ?_) ?_
     · have sg : a.tmps.getD 17 undef = .bool !false := hdep 17 (by kernel_rfl); have t1 := tAt (.pointer (some ⟨w.heap.size, 0, none⟩)) (hfr.at 1 (by kernel_rfl)); obtain ⟨c0, c1, c2, c3, c4, c5, c6, c7⟩ := (HB.out.below hinv HB.out.lt).c8; rw [if_neg (Flow.wanted_no 14 false 17 rfl (by kernel_rfl) sg)]; clear hfr hdep; exact hK _ _ True.intro hinv (dsT (by trivial))
     refine .cons (fun a W hfr hinv hdep K hK => ?_) ?_
     · have sg : a.tmps.getD 17 undef = .bool !false := hdep 17 (by kernel_rfl); rw [if_neg (Flow.wanted_no 14 false 17 rfl (by kernel_rfl) sg)]; clear hfr hdep; exact hK _ _ True.intro hinv (dsT (by trivial))
     refine .cons (fun a W hfr hinv hdep K hK => ?_) ?_
     · have sg : a.tmps.getD 12 undef = .bool true := hdep 12 (by kernel_rfl); have t17 := tAt (.bool true) (hdep 17 (by kernel_rfl)); rw [if_pos (Flow.wanted_yes 9 true 12 rfl (by kernel_rfl) sg)]; clear hfr hdep; go_simp; exact hK _ _ True.intro hinv (dsT (by trivial))
     refine .cons (fun a W hfr hinv hdep K hK => ?_) ?_
     · have t12 := tAt (.bool true) (hdep 12 (by kernel_rfl)); have t20 := tAt (.bool true) (hdep 20 (by kernel_rfl)); refine fW0 rfl ?_; clear hfr hdep; go_simp; exact hK _ _ True.intro hinv (dsT (by trivial))
     refine .cons (fun a W hfr hinv hdep K hK => ?_) ?_
     · have t21 := tAt (.bool true) (hdep 21 (by kernel_rfl)); refine fW0 rfl ?_; clear hfr hdep; go_simp; exact hK _ _ True.intro hinv (dsT (by trivial))
     exact True.intro
    case fin =>
     intro a W hfr hfin hsl
     have s2 : a.tmps.getD 2 undef = .bool true := hsl 19 _ 2 rfl rfl; have t2 := tmpAt s2; have e := Flow.frame hfr [3, 4, 5, 6, 7, 8, 9, 10, 11, 12, 13, 14, 15, 16, 17, 18, 19, 20, 21, 2] (List.range 22) (by kernel_rfl) (by kernel_rfl)
     simp [List.range, List.range.loop] at e
     rw [t2] at e
     rw [e]; clear e hfr hsl s2 t2
     rename_i K2 hK2
     refine hK2 _ _ ?_; go_wp2_with fail
     go_ret
     exact ⟨ret_b (by rw [HT.out.2]; rfl), grow1 hfin⟩
   ·
    have HC := Lib.hid hc; clear hc
    go_enter Tryz.func90, Tryz.ntmps90
    go_wp2_with fail; obtain ⟨hq, hq2⟩ := HT.out; have y := HB.out.c8
    go_region_held3 (fun V1 => V1.cell? ⟨w.heap.size, 0, none⟩ = some (.int .i64 k) ∧ V1.cell? ⟨w.heap.size, 1, none⟩ = some (.int .u64 t) ∧ V1.cell? ⟨w.heap.size, 2, none⟩ = some (.int .u64 p) ∧ V1.cell? ⟨w.heap.size, 3, none⟩ = some (.int .u64 x) ∧ V1.cell? ⟨w.heap.size, 4, none⟩ = some (.int .i64 g) ∧ V1.cell? ⟨w.heap.size, 5, none⟩ = some (.int .i64 o) ∧ V1.cell? ⟨w.heap.size, 6, none⟩ = some (.slice pb nb cb) ∧ V1.cell? ⟨w.heap.size, 7, none⟩ = some (.slice pa na ca)) (first | exact y | exact y1 | exact y2 | exact y4) (first | (go_at_call 106; refine (HN.out _).mono ?_; rintro e W1 ⟨rfl, g1⟩; have h1 := Gr.trans ((Gr.refl (w.alloc (.cells #[.int .i64 k, .int .u64 t, .int .u64 p, .int .u64 x, .int .i64 g, .int .i64 o, .slice pb nb cb, .slice pa na ca] TR))).drew) g1; have H1 := Lib.hid h1; have y1 := (HB.out.below h1 HB.out.lt).c8) | (go_at_call 105; refine (HS.out W1 H1.out).mono ?_; rintro e W2 ⟨rfl, g2⟩; have h2 := Gr.trans H1.out g2; have H2 := Lib.hid h2; have y2 := (HB.out.below h2 HB.out.lt).c8) | (go_at_call 107; refine (changes_any _ W2).mono ?_; rintro e W3 ⟨rfl, rfl⟩; rw [HC.out]) | (go_at_call 108; refine (HF.out _).mono ?_; rintro e W4 ⟨rfl, g4⟩; have h4 := Gr.trans H2.out g4; have H4 := Lib.hid h4; have y4 := (HB.out.below h4 HB.out.lt).c8))
    go_wp2_with fail
    go_ret
    exact ⟨ret_b (by rw [HT.out.2]; rfl), grow1 H4.out⟩
end Go.Proofs.YtlijbgapkmfnaaaGreat
namespace Go.Proofs.YtlijbgapkmfnaaaGreat
open Go.RowKit
def Grown0 (tB : Nat) (w : World) (e : Ending) (w' : World) : Prop := ∃ v, e = .returned v ∧ OwnB w' w.heap.size tB v [] ∧ Gr w w'
set_option maxHeartbeats 400000 in
theorem grow_any (n : Nat) (w : World) (hbig : n ≤ 140737488355328) : Calls Tryz.prog 127 #[.slice none 0 0, .int .i64 n] w (Grown0 5 w) := by
 rcases Nat.eq_zero_or_pos n with rfl | hn
 ·
  go_enter Tryz.func127, Tryz.ntmps127
  go_wp2
  go_ret
  exact ⟨_, rfl, OwnB.nil _ _ _, Gr.refl _⟩
 ·
  obtain ⟨i0, hi, hz0, hz1, hz2⟩ := info_parts bt.info
  have hrz : ∀ ty, (Builtin.append_ #[31, 3] ty #[.slice none 0 0, .int .i64 (n : Int)]).run Tryz.prog w =
    .ok (.slice (some ⟨w.heap.size, 0, none⟩) n (grownCap w n 0 5)) (w.drew.alloc (.cells (#[] ++ Builtin.zeroCells (Value.int .u8 0).cells n ++ Builtin.zeroCells (Value.int .u8 0).cells (grownCap w n 0 5 - n)) 5)) := fun ty => by
   have h := Lib.run_append_grow_zeros (P := Tryz.prog) w 31 3 ty 5 i0 (.int .u8 0) .i64 .i64 Tryz.underlying31 Tryz.underlying3 hi hz0 none 0 0 [] (by rw [hz1]; exact run_firstCells_none w.drew 1 0 0 0) n hn (by omega) (by omega) (by omega)
    (by rw [hz2]; omega) (by rw [hz2]; exact growslice_fits (by omega) (by omega))
   simpa using h
  have hGn : n ≤ grownCap w n 0 5 := grownCap_ge w _ _ _; have hG63 : grownCap w n 0 5 ≤ maxLen := grownCap_le_maxLen w n 0 5 (by unfold maxLen; omega); obtain ⟨G, hG⟩ : ∃ G, G = grownCap w n 0 5 := ⟨_, rfl⟩
  rw [← hG] at hrz hGn hG63
  clear hG hi hz0 hz1 hz2; have HG := Lib.hid hG63
  have hG63' : G ≤ 9223372036854775807 := by unfold maxLen at hG63; omega
  clear hG63; obtain ⟨C, hC⟩ : ∃ C, C = #[] ++ Builtin.zeroCells (Value.int .u8 0).cells n ++ Builtin.zeroCells (Value.int .u8 0).cells (G - n) := ⟨_, rfl⟩
  have hCs : Hid (C.size = G * 1) := by
   show _ = _
   rw [hC]
   simp only [Array.size_append, size_zeroCells, Array.size_empty, Value.cells]
   simp
   omega
  rw [← hC] at hrz
  clear hC
  go_enter Tryz.func127, Tryz.ntmps127
  go_wp2_with (at_builtin; refine Lib.wpList_append_run _ rfl _ _ _ _ rfl _ _ rfl rfl _ _ (hrz _) ?_)
  go_ret
  refine ⟨_, rfl, ⟨?_, fun _ h => by cases h⟩, ?_⟩
  · exact World.ownsRow_made (w := w.drew) C G (Nat.le_refl _) HG.out hCs.out
  · exact (Below.refl _ _).drew.alloc (Nat.le_refl _) _
set_option maxHeartbeats 800000 in
theorem concat_any (p : Option Addr) (n c : Nat) (xss : List (List Int)) (w : World) (h : Rows w p n c xss) (hbig : tot xss ≤ 140737488355328) : Calls Tryz.prog 112 #[.slice p n c] w (RetByte xss.flatten w) := by
 have HLen := Lib.hid h.len
 have hn63 : n ≤ 9223372036854775807 := by have := h.cap; have := h.most; unfold maxLen at this; omega
 have HH := Lib.hid h; have Hbig := Lib.hid hbig; clear h hbig
 go_enter Tryz.func112, Tryz.ntmps112
 go_wp2
 go_loop [3, 11] (fun t i => ∃ k : Nat, k ≤ n ∧ i = .int .i64 k ∧ t = .int .i64 (tot (xss.take k) : Nat)) (fun _ i => n - (intOf i).toNat)
 case atStart => exact ⟨0, Nat.zero_le _, rfl, rfl⟩
 case round =>
  obtain ⟨k, hk, rfl, rfl⟩ := hrel; have hle := tot_le xss k; have hb2 := Hbig.out
  by_cases hlt : k < n
  ·
   obtain ⟨b, o, rfl, hc⟩ := HH.out.lies (by omega); obtain ⟨q, m, d, hcell, hby⟩ := hc k hlt; have hle2 := tot_le xss (k + 1); have hL := tot_succ xss k m (by rw [HLen.out]; exact hlt) hby.len; have HL := Lib.hid hL
   have hSm : tot (xss.take k) + m ≤ 140737488355328 := by omega
   clear hL hle2 hc hby hb2 hle
   go_wp2
   go_round
   case rel => exact ⟨k + 1, by omega, by go_num, congrArg (Value.int .i64) (by rw [HL.out]; rfl)⟩
   case measure => simp [intOf]; omega
  ·
   obtain rfl : k = n := by omega
   have hall : xss.take k = xss := List.take_of_length_le (by rw [HLen.out]; exact Nat.le_refl _); rw [hall]; clear hall hle; go_wp2_with fail; refine (grow_any _ _ hb2).mono ?_; rintro e w1 ⟨v, rfl, own, gr⟩; have HO := Lib.hid own; have HB := Lib.hid gr; clear own gr hb2
   go_wp2
   go_loopw [6, 27] (fun v i wr => ∃ j : Nat, j ≤ k ∧ i = .int .i64 j ∧ Hid (OwnB wr w.heap.size 5 v (xss.take j).flatten) ∧ Hid (Below w.heap.size w wr)) (fun _ i _ => k - (intOf i).toNat)
   case atStart => exact ⟨0, Nat.zero_le _, rfl, HO, HB⟩
   case round =>
    obtain ⟨j, hj, rfl, ho, hb⟩ := hrel; have hbs := hb.out.size
    by_cases hlt : j < k
    ·
     obtain ⟨b, o, rfl, hc⟩ := (HH.out.kept hb.out).lies (by omega); obtain ⟨q, m, d, hcell, hby⟩ := hc j hlt; have hfs := Lib.hid (flat_succ xss j (by rw [HLen.out]; exact hlt))
     have hsz : Hid ((xss.take j).flatten.length + m ≤ 140737488355328) := by
      have h1 := tot_le xss (j + 1)
      rw [tot_succ xss j m (by rw [HLen.out]; exact hlt) hby.len] at h1
      exact Nat.le_trans h1 Hbig.out
     have HBY := Lib.hid hby
     clear hby hc
     go_wp2_with (at_builtin; refine wpList_app_byt bt rfl (.tmp 31) (.tmp 32) rfl w.heap.size _ _ rfl ho.out q m d _ rfl HBY.out hsz.out hbs ?_)
     intro v' w' own grow
     have HO2 := Lib.hid (own.as hfs.out.symm); have HB2 : Hid (Below w.heap.size w w') := Below.app hb.out hbs ho.out grow; clear own grow
     go_wp2
     go_roundw
     case rel => exact ⟨j + 1, by omega, by go_num, HO2, HB2⟩
     case measure => simp [intOf]; omega
    ·
     obtain rfl : j = k := by omega
     have hall : xss.take j = xss := List.take_of_length_le (by rw [HLen.out]; exact Nat.le_refl _); have ho2 := ho.out
     rw [hall] at ho2
     obtain ⟨q, d, hv⟩ := ho2.shape (tot xss) rfl; subst hv; have HO2 := Lib.hid ho2; clear ho2 hall
     go_wp2
     go_ret
     exact RetByte.of_own HO2.out hb.out
theorem join_any (p : Option Addr) (n c : Nat) (xss : List (List Int)) (w : World) (h : Rows w p n c xss) (hbig : tot xss ≤ 140737488355328) : Calls Tryz.prog 94 #[.slice p n c] w (RetByte xss.flatten w) := by
 go_enter Tryz.func94, Tryz.ntmps94
 go_wp2_with fail; refine (concat_any _ _ _ _ _ h hbig).mono ?_; rintro e w' ⟨q, m, d, rfl, hby, hg, hf⟩
 go_wp2
 go_ret
 exact ⟨q, m, d, rfl, hby, hg, hf⟩
end Go.Proofs.YtlijbgapkmfnaaaGreat
namespace Go.Proofs.YtlijbgapkmfnaaaGreat
open Go.RowKit
set_option maxHeartbeats 400000 in
theorem refJoin_any (p : Option Addr) (n c : Nat) (xss : List (List Int)) (w : World) (h : Rows w p n c xss) (hbig : tot xss ≤ 140737488355328) : Calls Tryz.prog 65 #[.slice p n c] w (RetByte xss.flatten w) := by
 have HLen := Lib.hid h.len
 have hn63 : n ≤ 9223372036854775807 := by have := h.cap; have := h.most; unfold maxLen at this; omega
 have HH := Lib.hid h; have Hbig := Lib.hid hbig; clear h hbig
 go_enter Tryz.func65, Tryz.ntmps65
 go_wp2
 have HO : Hid (OwnB (w.alloc (.cells #[] 5)) w.heap.size 5 (.slice (some ⟨w.heap.size, 0, none⟩) 0 0) []) := ⟨World.ownsRow_made (w := w) #[] 0 (Nat.le_refl _) (Nat.zero_le _) rfl, fun _ h => by cases h⟩; have HB : Hid (Below w.heap.size w (w.alloc (.cells #[] 5))) := (Below.refl _ _).alloc (Nat.le_refl _) _
 go_loopw [3, 4] (fun v i wr => ∃ j : Nat, j ≤ n ∧ i = .int .i64 j ∧ Hid (OwnB wr w.heap.size 5 v (xss.take j).flatten) ∧ Hid (Below w.heap.size w wr)) (fun _ i _ => n - (intOf i).toNat)
 case atStart => exact ⟨0, Nat.zero_le _, rfl, HO, HB⟩
 case round =>
  obtain ⟨j, hj, rfl, ho, hb⟩ := hrel; have hbs := hb.out.size
  by_cases hlt : j < n
  ·
   obtain ⟨b, o, rfl, hc⟩ := (HH.out.kept hb.out).lies (by omega); obtain ⟨q, m, d, hcell, hby⟩ := hc j hlt; have hfs := Lib.hid (flat_succ xss j (by rw [HLen.out]; exact hlt))
   have hsz : Hid ((xss.take j).flatten.length + m ≤ 140737488355328) := by
    have h1 := tot_le xss (j + 1)
    rw [tot_succ xss j m (by rw [HLen.out]; exact hlt) hby.len] at h1
    exact Nat.le_trans h1 Hbig.out
   have HBY := Lib.hid hby
   clear hby hc
   go_wp2_with (at_builtin; refine wpList_app_byt bt rfl (.tmp 12) (.tmp 16) rfl w.heap.size _ _ rfl ho.out q m d _ rfl HBY.out hsz.out hbs ?_)
   intro v' w' own grow
   have HO2 := Lib.hid (own.as hfs.out.symm); have HB2 : Hid (Below w.heap.size w w') := Below.app hb.out hbs ho.out grow; clear own grow
   go_wp2
   go_roundw
   case rel => exact ⟨j + 1, by omega, by go_num, HO2, HB2⟩
   case measure => simp [intOf]; omega
  ·
   obtain rfl : j = n := by omega
   have hall : xss.take j = xss := List.take_of_length_le (by rw [HLen.out]; exact Nat.le_refl _); have ho2 := ho.out
   rw [hall] at ho2
   obtain ⟨q, d, hv⟩ := ho2.shape (tot xss) rfl; subst hv; have HO2 := Lib.hid ho2; clear ho2 hall
   go_wp2
   go_ret
   exact RetByte.of_own HO2.out hb.out
end Go.Proofs.YtlijbgapkmfnaaaGreat
namespace Go.Proofs.YtlijbgapkmfnaaaGreat
open Go.RowKit Cr
set_option maxRecDepth 100000 in
theorem turned_any (s : W) (w : World) : Calls Tryz.prog 84 #[.int .u32 (U s)] w fun e w' => e = .returned (.int .u32 (U s.reverse)) ∧ w = w' := by
 have h0 : U s = ((s.toNat / 2 ^ 0 : Nat) : Int) := by simp [U]
 have HR := Lib.hid (trn_rev s); have HL := Lib.hid s.isLt; rw [h0]; clear h0; obtain ⟨x, hx⟩ : ∃ x, x = s.toNat := ⟨_, rfl⟩
 rw [← hx] at HR HL ⊢
 clear hx
 go_enter Tryz.func84, Tryz.ntmps84
 go_wp2
 go_loop [0, 3, 4] (fun v o i => ∃ k : Nat, k ≤ 32 ∧ i = .int .i64 k ∧ v = .int .u32 ((x / 2 ^ k : Nat) : Int) ∧ o = .int .u32 ((trn x k : Nat) : Int)) (fun _ _ i => 32 - (intOf i).toNat)
 case atStart => exact ⟨0, Nat.zero_le _, rfl, by simp, rfl⟩
 case round =>
  obtain ⟨k, hk, rfl, rfl, rfl⟩ := hrel
  by_cases hlt : k < 32
  ·
   have hT := trn_lt x k; have hp : 2 ^ k ≤ 2 ^ 31 := Nat.pow_le_pow_right (by omega) (by omega); have HD : Hid (x / 2 ^ k / 2 = x / 2 ^ (k + 1)) := Lib.hid (by rw [Nat.pow_succ, Nat.div_div_eq_div_mul]); have HT : Hid (trn x (k + 1) = 2 * trn x k + x / 2 ^ k % 2) := Lib.hid rfl; have hm : x / 2 ^ k ≤ 4294967295 := Nat.le_trans (Nat.div_le_self _ _) (by have := HL.out; omega)
   have ho : trn x k ≤ 2147483647 := by omega
   clear hT hp; obtain ⟨m, hmm⟩ : ∃ m, m = x / 2 ^ k := ⟨_, rfl⟩; obtain ⟨o, hoo⟩ : ∃ o, o = trn x k := ⟨_, rfl⟩
   rw [← hmm] at HD HT hm ⊢
   rw [← hoo] at HT ho ⊢
   clear hmm hoo
   go_wp2
   go_round
   case rel => exact ⟨k + 1, by omega, by go_num, by rw [← HD.out]; go_num, by rw [HT.out]; go_num⟩
   case measure => simp [intOf]; omega
  ·
   obtain rfl : k = 32 := by omega
   go_wp2
   go_ret
   exact ⟨ret_i HR.out, rfl⟩
theorem U_top (l : W) (c : Nat) (hc : c < 2) : (Int.ediv (U l) 2147483648 + (c : Int) == 1) = ((l.getLsbD 31).xor (decide (c % 2 = 1))) := by
 have h : (l >>> 31) = if l.getLsbD 31 then 1#32 else 0#32 := by
  apply BitVec.eq_of_getLsbD_eq
  intro i hi
  cases i with
  | zero => cases h : l.getLsbD 31 <;> simp only [BitVec.getLsbD_ushiftRight, Nat.add_zero, h, if_true, Bool.false_eq_true, if_false] <;> rfl
  | succ j => cases h : l.getLsbD 31 <;> simp [BitVec.getLsbD_of_ge l (31 + (j + 1)) (by omega)]
 have e : Int.ediv (U l) 2147483648 = U (l >>> 31) := U_shr l 31; rw [e, h]
 have : c = 0 ∨ c = 1 := by omega
 rcases this with rfl | rfl <;> cases l.getLsbD 31 <;> rfl
theorem U_topw (l : W) (X k : Nat) : ((U l / 2147483648 + (X : Int) / 2 ^ k % 2) % 4294967296 == 1) = ((l.getLsbD 31).xor (decide (X / 2 ^ k % 2 % 2 = 1))) := by
 rw [← U_top l (X / 2 ^ k % 2) (Nat.mod_lt _ (by omega))]
 have e1 : (X : Int) / 2 ^ k % 2 = ((X / 2 ^ k % 2 : Nat) : Int) := by
  rw [Int.natCast_emod, Int.natCast_ediv, Int.natCast_pow]; rfl
 have h1 := U_lo l; have h2 := U_hi l; rw [e1]
 show ((U l / 2147483648 + ((X / 2 ^ k % 2 : Nat) : Int)) % 4294967296 == 1) = (U l / 2147483648 + ((X / 2 ^ k % 2 : Nat) : Int) == 1)
 have h3 : (U l / 2147483648 + ((X / 2 ^ k % 2 : Nat) : Int)) % 4294967296 = U l / 2147483648 + ((X / 2 ^ k % 2 : Nat) : Int) := by omega
 rw [h3]
theorem U_dbl (l : W) : U l * (2 : Int) % (4294967296 : Int) = U (l <<< 1) := by
 unfold U
 rw [BitVec.toNat_shiftLeft, Nat.shiftLeft_eq]
 omega
theorem out_yes (l : W) (c : Nat) (h : ((l.getLsbD 31).xor (decide (c % 2 = 1))) = true) : bits BinOp.xor IntKind.u32 (U l * 2 % 4294967296) 517762881 = U (out1 l c) := by
 rw [U_dbl, show (517762881 : Int) = U divi from rfl, U_xor]
 unfold out1
 rw [h]
 rfl
theorem out_no (l : W) (c : Nat) (h : ((l.getLsbD 31).xor (decide (c % 2 = 1))) = false) : U l * 2 % 4294967296 = U (out1 l c) := by
 rw [U_dbl]
 unfold out1
 rw [h]
 simp
set_option maxRecDepth 100000 in
set_option maxHeartbeats 400000 in
theorem rest_any (l : W) (p : Option Addr) (n c : Nat) (xs : List Int) (w : World) (h : Byt w p n c xs) : Calls Tryz.prog 85 #[.int .u32 (U l), .slice p n c] w fun e w' => e = .returned (.int .u32 (U (rest l xs))) ∧ w = w' := by
 have HLen := Lib.hid h.len
 have hn63 : n ≤ 9223372036854775807 := by have := h.cap; have := h.most; unfold maxLen at this; omega
 have HH := Lib.hid h; clear h
 go_enter Tryz.func85, Tryz.ntmps85
 go_wp2
 go_loop [0, 5] (fun v i => ∃ j : Nat, j ≤ n ∧ i = .int .i64 j ∧ v = .int .u32 (U (rest l (xs.take j)))) (fun _ i => n - (intOf i).toNat)
 case atStart => exact ⟨0, Nat.zero_le _, rfl, rfl⟩
 case round =>
  obtain ⟨j, hj, rfl, rfl⟩ := hrel
  by_cases hjl : j < n
  ·
   obtain ⟨b2, o2, rfl, hc2⟩ := HH.out.at (by omega)
   have hbyte := hc2 j hjl; obtain ⟨x0, x1⟩ := HH.out.small.getD j; have HP := Lib.hid (rest_take l xs j (by rw [HLen.out]; exact hjl)); clear hc2; obtain ⟨x, hx⟩ : ∃ x, x = xs.getD j 0 := ⟨_, rfl⟩
   rw [← hx] at HP hbyte x0 x1
   clear hx; obtain ⟨X, rfl⟩ := Int.eq_ofNat_of_zero_le x0
   rw [Int.toNat_natCast] at HP
   obtain ⟨T, hT⟩ : ∃ T, T = rest l (xs.take j) := ⟨_, rfl⟩
   rw [← hT] at HP ⊢
   clear hT x0
   go_wp2
   go_loop [0, 6] (fun v i => ∃ k : Nat, k ≤ 8 ∧ i = .int .i64 k ∧ v = .int .u32 (U (outs T X k))) (fun _ i => 8 - (intOf i).toNat)
   case atStart => exact ⟨0, Nat.zero_le _, rfl, rfl⟩
   case round =>
    obtain ⟨k, hk, rfl, rfl⟩ := hrel
    by_cases hkl : k < 8
    ·
     have HS : Hid (outs T X (k + 1) = out1 (outs T X k) (X / 2 ^ k % 2)) := Lib.hid rfl; obtain ⟨R, hR⟩ : ∃ R, R = outs T X k := ⟨_, rfl⟩
     rw [← hR] at HS ⊢
     clear hR; have hT := U_topw R X k
     by_cases hb : ((R.getLsbD 31).xor (decide (X / 2 ^ k % 2 % 2 = 1))) = true
     ·
      have HV := Lib.hid (out_yes R _ hb)
      rw [hb] at hT
      have HB := Lib.hid hb; clear hb
      go_wp2
      go_round
      case rel => exact ⟨k + 1, by omega, by go_num, ret_v (by rw [HV.out, HS.out])⟩
      case measure => simp [intOf]; omega
     ·
      have hb : ((R.getLsbD 31).xor (decide (X / 2 ^ k % 2 % 2 = 1))) = false := by simpa using hb
      have HV := Lib.hid (out_no R _ hb)
      rw [hb] at hT
      have HB := Lib.hid hb; clear hb
      go_wp2
      go_round
      case rel => exact ⟨k + 1, by omega, by go_num, ret_v (by rw [HV.out, HS.out])⟩
      case measure => simp [intOf]; omega
    ·
     obtain rfl : k = 8 := by omega
     go_wp2
     go_round
     case rel => exact ⟨j + 1, by omega, by go_num, ret_v (by rw [HP.out])⟩
     case measure => simp [intOf]; omega
  ·
   obtain rfl : j = n := by omega
   have HE : Hid (rest l (xs.take j) = rest l xs) := Lib.hid (by rw [List.take_of_length_le (by rw [HLen.out]; exact Nat.le_refl _)])
   go_wp2
   go_ret
   exact ⟨ret_i (by rw [HE.out]), rfl⟩
theorem sum_said (xs : List Int) (h : Wd.Small xs) : 4294967295 - U (rest ones xs).reverse = U (sumW xs) := by
 have e : ones.reverse = ones := by
  apply BitVec.eq_of_getLsbD_eq
  intro i hi
  rw [BitVec.getLsbD_reverse, BitVec.getMsbD_eq_getLsbD]
  have : ∀ j : Fin 32, ones.getLsbD j.val = true := by decide
  rw [this ⟨i, hi⟩, this ⟨32 - 1 - i, by omega⟩]
  simp [hi]
 rw [rev_rest xs ones h, e]; exact (U_not _).symm
set_option maxRecDepth 100000 in
theorem refSum_any (p : Option Addr) (n c : Nat) (xs : List Int) (w : World) (h : Byt w p n c xs) : Calls Tryz.prog 67 #[.slice p n c] w fun e w' => e = .returned (.int .u32 (U (sumW xs))) ∧ w = w' := by
 have HH := Lib.hid h; have HS := Lib.hid (sum_said xs h.small); clear h; have HO := rest_any ones p n c xs
 rw [U_ones] at HO
 have HO2 := Lib.hid HO; clear HO
 have HX : Hid (∀ s : W, 0 ≤ U s ∧ U s < 4294967296) := Lib.hid fun s => ⟨U_lo s, U_hi s⟩
 go_enter Tryz.func67, Tryz.ntmps67
 go_wp2_with fail; refine (HO2.out _ HH.out).mono ?_; rintro e w' ⟨rfl, rfl⟩; go_wp2_with fail; refine (turned_any _ _).mono ?_; rintro e w' ⟨rfl, rfl⟩; obtain ⟨r, hr⟩ : ∃ r, r = U (rest ones xs).reverse := ⟨_, rfl⟩; obtain ⟨r0, r1⟩ := HX.out (rest ones xs).reverse
 rw [← hr] at HS r0 r1 ⊢
 clear hr
 go_wp2
 go_ret
 exact ⟨ret_i HS.out, rfl⟩
end Go.Proofs.YtlijbgapkmfnaaaGreat
namespace Go.Proofs.YtlijbgapkmfnaaaGreat
open Go.RowKit Cr
def IsB (w : World) (v : Value) (xs : List Int) : Prop := ∃ p n c, v = .slice p n c ∧ Byt w p n c xs
def IsRows (w : World) (v : Value) (xss : List (List Int)) : Prop := ∃ p n c, v = .slice p n c ∧ Rows w p n c xss
theorem IsB.kept {w w' : World} {v : Value} {xs : List Int} (h : IsB w v xs) (g : Gr w w') : IsB w' v xs := by
 obtain ⟨p, n, c, e, h⟩ := h; exact ⟨p, n, c, e, h.kept g⟩
theorem IsRows.kept {w w' : World} {v : Value} {xss : List (List Int)} (h : IsRows w v xss) (g : Gr w w') : IsRows w' v xss := by
 obtain ⟨p, n, c, e, h⟩ := h; exact ⟨p, n, c, e, h.kept g⟩
def OwnX (B : Nat) (w : World) (v : Value) (xs : List Int) : Prop := ∃ p n c, v = .slice p n c ∧ Byt w p n c xs ∧ ∀ a, p = some a → B ≤ a.block
theorem OwnX.kept {B : Nat} {w w' : World} {v : Value} {xs : List Int} (h : OwnX B w v xs) (g : Gr w w') : OwnX B w' v xs := by
 obtain ⟨p, n, c, e, h, f⟩ := h; exact ⟨p, n, c, e, h.kept g, f⟩
structure Sl1 where
 p : Option Addr
 n : Nat
 c : Nat
 xs : List Int
def Sl1.v (s : Sl1) : Value := .slice s.p s.n s.c
theorem Rows.build {w W : World} {t : TypeId} (ss : List Sl1) (hm : ss.length ≤ 1000) (h : ∀ s ∈ ss, Byt w s.p s.n s.c s.xs) (hW : W.heap = (w.alloc (.cells (ss.map Sl1.v).toArray t)).heap) : Rows W (some ⟨w.heap.size, 0, none⟩) ss.length ss.length (ss.map Sl1.xs) := by
 have hg := (Below.refl w.heap.size w).alloc (Nat.le_refl _) (.cells (ss.map Sl1.v).toArray t); refine ⟨by simp, Nat.le_refl _, by simp only [maxLen]; omega, fun _ => ⟨_, 0, rfl, fun i hi => ?_⟩, fun h => by cases h⟩; refine ⟨ss[i].p, ss[i].n, ss[i].c, ?_, ?_⟩
 ·
  have hc : W.cell? ⟨w.heap.size, 0 + i, none⟩ = ((ss.map Sl1.v).toArray)[0 + i]? := by
   rw [← World.cell?_alloc_at (w := w) (ss.map Sl1.v).toArray t w.heap.size (0 + i) rfl]; exact World.cell?_of_block (w := w.alloc _) (by rw [hW])
  rw [hc]
  simp [hi, Sl1.v]
 ·
  have e : (ss.map Sl1.xs).getD i [] = ss[i].xs := by simp [List.getD, hi]
  rw [e]; exact ((h _ (List.getElem_mem hi)).kept hg).heap hW
theorem Rows.nine {w W : World} {t : TypeId} {p1 p2 p3 p4 p5 p6 p7 p8 p9 : Option Addr} {n1 n2 n3 n4 n5 n6 n7 n8 n9 c1 c2 c3 c4 c5 c6 c7 c8 c9 : Nat} {x1 x2 x3 x4 x5 x6 x7 x8 x9 : List Int} (h1 : Byt w p1 n1 c1 x1) (h2 : Byt w p2 n2 c2 x2) (h3 : Byt w p3 n3 c3 x3) (h4 : Byt w p4 n4 c4 x4) (h5 : Byt w p5 n5 c5 x5) (h6 : Byt w p6 n6 c6 x6) (h7 : Byt w p7 n7 c7 x7) (h8 : Byt w p8 n8 c8 x8) (h9 : Byt w p9 n9 c9 x9)
  (hW : W.heap = (w.alloc (.cells #[.slice p1 n1 c1, .slice p2 n2 c2, .slice p3 n3 c3, .slice p4 n4 c4, .slice p5 n5 c5, .slice p6 n6 c6, .slice p7 n7 c7, .slice p8 n8 c8, .slice p9 n9 c9] t)).heap) : Rows W (some ⟨w.heap.size, 0, none⟩) 9 9 [x1, x2, x3, x4, x5, x6, x7, x8, x9] :=
 Rows.build (w := w) (W := W) (t := t) [⟨p1, n1, c1, x1⟩, ⟨p2, n2, c2, x2⟩, ⟨p3, n3, c3, x3⟩, ⟨p4, n4, c4, x4⟩, ⟨p5, n5, c5, x5⟩, ⟨p6, n6, c6, x6⟩, ⟨p7, n7, c7, x7⟩, ⟨p8, n8, c8, x8⟩, ⟨p9, n9, c9, x9⟩] (by simp)
  (fun s hs => by
   simp only [List.mem_cons, List.not_mem_nil, or_false] at hs
   rcases hs with rfl | rfl | rfl | rfl | rfl | rfl | rfl | rfl | rfl <;> assumption) hW
theorem recWord_any (n : Nat) (s : Int) (w : World) : Calls Tryz.prog 92 #[.int .u64 n, .int .i64 s] w (RetByte (putR n s) w) := by
 have HP := Lib.hid (put_any n s w)
 go_enter Tryz.func92, Tryz.ntmps92
 go_wp2_with fail; refine HP.out.mono ?_; rintro e w' ⟨p, m, c, rfl, hb, g, hf⟩; go_wp2_with fail
 go_ret
 exact ⟨p, m, c, rfl, hb, g, hf⟩
theorem word_fit (n k : Nat) (w : World) (h : fitsB n k = true) : Calls Tryz.prog 92 #[.int .u64 n, .int .i64 k] w (RetByte (Wd.enc k n) w) := by
 have h1 := recWord_any n k w
 unfold putR at h1
 rw [h] at h1
 exact h1
theorem refN_any (n k : Nat) (w : World) (hn : n ≤ 18446744073709551615) (hk : k ≤ 8) : Calls Tryz.prog 66 #[.int .u64 n, .int .i64 k] w (RetByte (Wd.enc k n) w) := by
 have HP := Lib.hid (refPut_any n k w hn hk)
 go_enter Tryz.func66, Tryz.ntmps66
 go_wp2_with fail; refine HP.out.mono ?_; rintro e w' ⟨p, m, c, rfl, hb, g, hf⟩; go_wp2_with fail
 go_ret
 exact ⟨p, m, c, rfl, hb, g, hf⟩
theorem fitK {n k : Nat} (h1 : 1 ≤ k) (h8 : k ≤ 8) (h : n < 256 ^ k) : fitsB n k = true := by
 simp only [fitsB, Bool.and_eq_true, mayB_iff, decide_eq_true_eq]
 exact ⟨by omega, by rw [Int.toNat_natCast]; exact h⟩
def nine (K t p x G O : Nat) (b a : List Int) : List (List Int) := [Wd.enc 1 K, Wd.enc 8 t, Wd.enc 8 p, Wd.enc 8 x, Wd.enc 2 G, Wd.enc 1 O, Wd.enc 1 a.length, b, a]
theorem nine_rec (K t p x G O : Nat) (b a : List Int) : (nine K t p x G O b a).flatten = bodyL ⟨K, t, p, x, G, O, b, a⟩ := rfl
theorem nine_tot (K t p x G O : Nat) (b a : List Int) : tot (nine K t p x G O b a) = 29 + b.length + a.length := by
 unfold tot; rw [nine_rec, bodyL_len]
def SlBP (d : Nat) (kk : Nat) (t : Nat) (p : Nat) (x : Nat) (gg : Nat) (oo : Nat) (b : List Int) (a : List Int) (_ : Option Addr) (_ : Nat) (pa : Option Addr) (ca : Nat) (slot : Nat) (v : Value) (w : World) : Prop :=
 match slot with
 | 3 => v = .pointer (some ⟨d, 0, none⟩)
 | 4 => v = .int .i64 kk
 | 5 => v = .int .u64 (kk : Nat)
 | 7 => v = .pointer (some ⟨d, 1, none⟩)
 | 8 => v = .int .u64 t
 | 10 => v = .pointer (some ⟨d, 2, none⟩)
 | 11 => v = .int .u64 p
 | 13 => v = .pointer (some ⟨d, 3, none⟩)
 | 14 => v = .int .u64 x
 | 16 => v = .pointer (some ⟨d, 4, none⟩)
 | 17 => v = .int .i64 gg
 | 18 => v = .int .u64 (gg : Nat)
 | 20 => v = .pointer (some ⟨d, 5, none⟩)
 | 21 => v = .int .i64 oo
 | 22 => v = .int .u64 (oo : Nat)
 | 24 => v = .pointer (some ⟨d, 7, none⟩)
 | 25 => v = .slice pa a.length ca
 | 26 => v = .int .i64 a.length
 | 27 => v = .int .u64 (a.length : Nat)
 | 29 => v = .pointer (some ⟨d, 6, none⟩)
 | 31 => v = .pointer (some ⟨d, 7, none⟩)
 | 2 => OwnX d w v (nine kk t p x gg oo b a).flatten
 | 6 => IsB w v (Wd.enc 1 kk)
 | 9 => IsB w v (Wd.enc 8 t)
 | 12 => IsB w v (Wd.enc 8 p)
 | 15 => IsB w v (Wd.enc 8 x)
 | 19 => IsB w v (Wd.enc 2 gg)
 | 23 => IsB w v (Wd.enc 1 oo)
 | 28 => IsB w v (Wd.enc 1 a.length)
 | 30 => IsB w v b
 | 32 => IsB w v a
 | 33 => IsRows w v (nine kk t p x gg oo b a)
 | 34 => OwnX d w v (nine kk t p x gg oo b a).flatten
 | _ => True
theorem slBP_gr {d kk t p x gg oo : Nat} {b a : List Int} {pb : Option Addr} {cb : Nat} {pa : Option Addr} {ca : Nat} {s : Nat} {v : Value} {w w' : World} (h : SlBP d kk t p x gg oo b a pb cb pa ca s v w) (g : Gr w w') : SlBP d kk t p x gg oo b a pb cb pa ca s v w' := by
 unfold SlBP at *
 split <;> simp_all
 all_goals first
  | exact IsB.kept (by assumption) g
  | exact IsRows.kept (by assumption) g
  | exact OwnX.kept (by assumption) g
def SlBR (d : Nat) (kk : Nat) (t : Nat) (p : Nat) (x : Nat) (gg : Nat) (oo : Nat) (b : List Int) (a : List Int) (_ : Option Addr) (_ : Nat) (pa : Option Addr) (ca : Nat) (slot : Nat) (v : Value) (w : World) : Prop :=
 match slot with
 | 8 => v = .pointer (some ⟨d, 0, none⟩)
 | 9 => v = .int .i64 kk
 | 10 => v = .int .u64 (kk : Nat)
 | 12 => v = .pointer (some ⟨d, 1, none⟩)
 | 13 => v = .int .u64 t
 | 15 => v = .pointer (some ⟨d, 2, none⟩)
 | 16 => v = .int .u64 p
 | 18 => v = .pointer (some ⟨d, 3, none⟩)
 | 19 => v = .int .u64 x
 | 21 => v = .pointer (some ⟨d, 4, none⟩)
 | 22 => v = .int .i64 gg
 | 23 => v = .int .u64 (gg : Nat)
 | 25 => v = .pointer (some ⟨d, 5, none⟩)
 | 26 => v = .int .i64 oo
 | 27 => v = .int .u64 (oo : Nat)
 | 29 => v = .pointer (some ⟨d, 7, none⟩)
 | 30 => v = .slice pa a.length ca
 | 31 => v = .int .i64 a.length
 | 32 => v = .int .u64 (a.length : Nat)
 | 34 => v = .pointer (some ⟨d, 6, none⟩)
 | 36 => v = .pointer (some ⟨d, 7, none⟩)
 | 5 => OwnX d w v (nine kk t p x gg oo b a).flatten
 | 11 => IsB w v (Wd.enc 1 kk)
 | 14 => IsB w v (Wd.enc 8 t)
 | 17 => IsB w v (Wd.enc 8 p)
 | 20 => IsB w v (Wd.enc 8 x)
 | 24 => IsB w v (Wd.enc 2 gg)
 | 28 => IsB w v (Wd.enc 1 oo)
 | 33 => IsB w v (Wd.enc 1 a.length)
 | 35 => IsB w v b
 | 37 => IsB w v a
 | 38 => IsRows w v (nine kk t p x gg oo b a)
 | 39 => OwnX d w v (nine kk t p x gg oo b a).flatten
 | _ => True
theorem slBR_gr {d kk t p x gg oo : Nat} {b a : List Int} {pb : Option Addr} {cb : Nat} {pa : Option Addr} {ca : Nat} {s : Nat} {v : Value} {w w' : World} (h : SlBR d kk t p x gg oo b a pb cb pa ca s v w) (g : Gr w w') : SlBR d kk t p x gg oo b a pb cb pa ca s v w' := by
 unfold SlBR at *
 split <;> simp_all
 all_goals first
  | exact IsB.kept (by assumption) g
  | exact IsRows.kept (by assumption) g
  | exact OwnX.kept (by assumption) g
set_option maxRecDepth 100000 in
set_option maxHeartbeats 4000000 in
theorem body_nat (kk : Nat) (t : Nat) (p : Nat) (x : Nat) (gg : Nat) (oo : Nat) (b : List Int) (a : List Int) (pb : Option Addr) (cb : Nat) (pa : Option Addr) (ca : Nat) (w : World) (hb : Byt w pb b.length cb b) (ha : Byt w pa a.length ca a) (hK : kk ≤ 4) (ht : t ≤ 18446744073709551615) (hp : p ≤ 18446744073709551615) (hx : x ≤ 18446744073709551615) (hG : gg < 4096) (hO : oo ≤ 247) (hlb : b.length ≤ 248) (hla : a.length ≤ 248) :
  Calls Tryz.prog 91 #[.agg #[.int .i64 kk, .int .u64 t, .int .u64 p, .int .u64 x, .int .i64 gg, .int .i64 oo, .slice pb b.length cb, .slice pa a.length ca]] w (RetByte (nine kk t p x gg oo b a).flatten w) := by
 have HB := Lib.hid (Blk.new w TR #[.int .i64 kk, .int .u64 t, .int .u64 p, .int .u64 x, .int .i64 gg, .int .i64 oo, .slice pb b.length cb, .slice pa a.length ca]); have HG0 := Lib.hid ((Gr.refl w).alloc (Nat.le_refl _) (.cells #[.int .i64 kk, .int .u64 t, .int .u64 p, .int .u64 x, .int .i64 gg, .int .i64 oo, .slice pb b.length cb, .slice pa a.length ca] TR)); have HY := Lib.hid (hb.kept HG0.out); have HX := Lib.hid (ha.kept HG0.out); have HW : Hid (IntKind.u64.wrap (kk : Int) = kk ∧ IntKind.u64.wrap (gg : Int) = gg ∧ IntKind.u64.wrap (oo : Int) = oo ∧ IntKind.u64.wrap (a.length : Int) = a.length) := Lib.hid (by simp only [IntKind.wrap_u64]; omega); have HT : Hid (tot (nine kk t p x gg oo b a) ≤ 140737488355328) := Lib.hid (by rw [nine_tot]; omega); have HF : Hid (fitsB kk 1 = true ∧ fitsB t 8 = true ∧ fitsB p 8 = true ∧ fitsB x 8 = true ∧ fitsB gg 2 = true ∧ fitsB oo 1 = true ∧ fitsB a.length 1 = true) := Lib.hid ⟨fitK (k := 1) (by omega) (by omega) (by omega), fitK (k := 8) (by omega) (by omega) (by omega), fitK (k := 8) (by omega) (by omega) (by omega), fitK (k := 8) (by omega) (by omega) (by omega), fitK (k := 2) (by omega) (by omega) (by omega), fitK (k := 1) (by omega) (by omega) (by omega), fitK (k := 1) (by omega) (by omega) (by omega)⟩
 go_enter Tryz.func91, Tryz.ntmps91
 go_wp2_with fail; refine Flow.region (SlBP w.heap.size kk t p x gg oo b a pb cb pa ca) (Gr (w.alloc (.cells #[.int .i64 kk, .int .u64 t, .int .u64 p, .int .u64 x, .int .i64 gg, .int .i64 oo, .slice pb b.length cb, .slice pa a.length ca] TR))) Gr (by kernel_rfl) (by kernel_rfl) (fun _ _ _ _ h g => slBP_gr h g) ⟨rfl, rfl, rfl, Nat.le_refl _, fun _ _ => rfl⟩ ?steps ?fin
 case steps =>
  refine .cons (fun A W hfr hinv hdep K hK => ?_) ?_
  · have t1 := tAt (.pointer (some ⟨w.heap.size, 0, none⟩)) (hfr.at 1 (by kernel_rfl)); refine fW0 rfl ?_; clear hfr hdep; go_simp; exact hK _ _ (Gr.refl _) hinv (dsT (by trivial))
  refine .cons (fun A W hfr hinv hdep K hK => ?_) ?_
  · have t3 := tAt (.pointer (some ⟨w.heap.size, 0, none⟩)) (hdep 3 (by kernel_rfl)); refine fW0 rfl ?_; clear hfr hdep; obtain ⟨c0, c1, c2, c3, c4, c5, c6, c7⟩ := (HB.out.below hinv HB.out.lt).c8; go_simp; exact hK _ _ (Gr.refl _) hinv (dsT (by trivial))
  refine .cons (fun A W hfr hinv hdep K hK => ?_) ?_
  · have t4 := tAt (.int .i64 kk) (hdep 4 (by kernel_rfl)); refine fW0 rfl ?_; clear hfr hdep; have hw := HW.out; obtain ⟨w1, w2, w3, w4⟩ := hw; go_simp; exact hK _ _ (Gr.refl _) hinv (dsT (by trivial))
  refine .cons (fun A W hfr hinv hdep K hK => ?_) ?_
  · have t5 := tAt (.int .u64 (kk : Nat)) (hdep 5 (by kernel_rfl)); refine fW0 rfl ?_; clear hfr hdep; go_simp; refine (word_fit kk 1 W (by first | exact HF.out.1 | exact HF.out.2.1 | exact HF.out.2.2.1 | exact HF.out.2.2.2.1 | exact HF.out.2.2.2.2.1 | exact HF.out.2.2.2.2.2.1 | exact HF.out.2.2.2.2.2.2)).mono ?_; rintro e W2 ⟨q, m, c, rfl, hy, g1, hf⟩; exact hK _ _ g1 (Gr.trans hinv g1) (fun d hd => by cases hd; exact ⟨_, _, _, rfl, hy⟩)
  refine .cons (fun A W hfr hinv hdep K hK => ?_) ?_
  · have t1 := tAt (.pointer (some ⟨w.heap.size, 0, none⟩)) (hfr.at 1 (by kernel_rfl)); refine fW0 rfl ?_; clear hfr hdep; go_simp; exact hK _ _ (Gr.refl _) hinv (dsT (by trivial))
  refine .cons (fun A W hfr hinv hdep K hK => ?_) ?_
  · have t7 := tAt (.pointer (some ⟨w.heap.size, 1, none⟩)) (hdep 7 (by kernel_rfl)); refine fW0 rfl ?_; clear hfr hdep; obtain ⟨c0, c1, c2, c3, c4, c5, c6, c7⟩ := (HB.out.below hinv HB.out.lt).c8; go_simp; exact hK _ _ (Gr.refl _) hinv (dsT (by trivial))
  refine .cons (fun A W hfr hinv hdep K hK => ?_) ?_
  · have t8 := tAt (.int .u64 t) (hdep 8 (by kernel_rfl)); refine fW0 rfl ?_; clear hfr hdep; go_simp; refine (word_fit t 8 W (by first | exact HF.out.1 | exact HF.out.2.1 | exact HF.out.2.2.1 | exact HF.out.2.2.2.1 | exact HF.out.2.2.2.2.1 | exact HF.out.2.2.2.2.2.1 | exact HF.out.2.2.2.2.2.2)).mono ?_; rintro e W2 ⟨q, m, c, rfl, hy, g1, hf⟩; exact hK _ _ g1 (Gr.trans hinv g1) (fun d hd => by cases hd; exact ⟨_, _, _, rfl, hy⟩)
  refine .cons (fun A W hfr hinv hdep K hK => ?_) ?_
  · have t1 := tAt (.pointer (some ⟨w.heap.size, 0, none⟩)) (hfr.at 1 (by kernel_rfl)); refine fW0 rfl ?_; clear hfr hdep; go_simp; exact hK _ _ (Gr.refl _) hinv (dsT (by trivial))
  refine .cons (fun A W hfr hinv hdep K hK => ?_) ?_
  · have t10 := tAt (.pointer (some ⟨w.heap.size, 2, none⟩)) (hdep 10 (by kernel_rfl)); refine fW0 rfl ?_; clear hfr hdep; obtain ⟨c0, c1, c2, c3, c4, c5, c6, c7⟩ := (HB.out.below hinv HB.out.lt).c8; go_simp; exact hK _ _ (Gr.refl _) hinv (dsT (by trivial))
  refine .cons (fun A W hfr hinv hdep K hK => ?_) ?_
  · have t11 := tAt (.int .u64 p) (hdep 11 (by kernel_rfl)); refine fW0 rfl ?_; clear hfr hdep; go_simp; refine (word_fit p 8 W (by first | exact HF.out.1 | exact HF.out.2.1 | exact HF.out.2.2.1 | exact HF.out.2.2.2.1 | exact HF.out.2.2.2.2.1 | exact HF.out.2.2.2.2.2.1 | exact HF.out.2.2.2.2.2.2)).mono ?_; rintro e W2 ⟨q, m, c, rfl, hy, g1, hf⟩; exact hK _ _ g1 (Gr.trans hinv g1) (fun d hd => by cases hd; exact ⟨_, _, _, rfl, hy⟩)
  refine .cons (fun A W hfr hinv hdep K hK => ?_) ?_
  · have t1 := tAt (.pointer (some ⟨w.heap.size, 0, none⟩)) (hfr.at 1 (by kernel_rfl)); refine fW0 rfl ?_; clear hfr hdep; go_simp; exact hK _ _ (Gr.refl _) hinv (dsT (by trivial))
  refine .cons (fun A W hfr hinv hdep K hK => ?_) ?_
  · have t13 := tAt (.pointer (some ⟨w.heap.size, 3, none⟩)) (hdep 13 (by kernel_rfl)); refine fW0 rfl ?_; clear hfr hdep; obtain ⟨c0, c1, c2, c3, c4, c5, c6, c7⟩ := (HB.out.below hinv HB.out.lt).c8; go_simp; exact hK _ _ (Gr.refl _) hinv (dsT (by trivial))
  refine .cons (fun A W hfr hinv hdep K hK => ?_) ?_
  · have t14 := tAt (.int .u64 x) (hdep 14 (by kernel_rfl)); refine fW0 rfl ?_; clear hfr hdep; go_simp; refine (word_fit x 8 W (by first | exact HF.out.1 | exact HF.out.2.1 | exact HF.out.2.2.1 | exact HF.out.2.2.2.1 | exact HF.out.2.2.2.2.1 | exact HF.out.2.2.2.2.2.1 | exact HF.out.2.2.2.2.2.2)).mono ?_; rintro e W2 ⟨q, m, c, rfl, hy, g1, hf⟩; exact hK _ _ g1 (Gr.trans hinv g1) (fun d hd => by cases hd; exact ⟨_, _, _, rfl, hy⟩)
  refine .cons (fun A W hfr hinv hdep K hK => ?_) ?_
  · have t1 := tAt (.pointer (some ⟨w.heap.size, 0, none⟩)) (hfr.at 1 (by kernel_rfl)); refine fW0 rfl ?_; clear hfr hdep; go_simp; exact hK _ _ (Gr.refl _) hinv (dsT (by trivial))
  refine .cons (fun A W hfr hinv hdep K hK => ?_) ?_
  · have t16 := tAt (.pointer (some ⟨w.heap.size, 4, none⟩)) (hdep 16 (by kernel_rfl)); refine fW0 rfl ?_; clear hfr hdep; obtain ⟨c0, c1, c2, c3, c4, c5, c6, c7⟩ := (HB.out.below hinv HB.out.lt).c8; go_simp; exact hK _ _ (Gr.refl _) hinv (dsT (by trivial))
  refine .cons (fun A W hfr hinv hdep K hK => ?_) ?_
  · have t17 := tAt (.int .i64 gg) (hdep 17 (by kernel_rfl)); refine fW0 rfl ?_; clear hfr hdep; have hw := HW.out; obtain ⟨w1, w2, w3, w4⟩ := hw; go_simp; exact hK _ _ (Gr.refl _) hinv (dsT (by trivial))
  refine .cons (fun A W hfr hinv hdep K hK => ?_) ?_
  · have t18 := tAt (.int .u64 (gg : Nat)) (hdep 18 (by kernel_rfl)); refine fW0 rfl ?_; clear hfr hdep; go_simp; refine (word_fit gg 2 W (by first | exact HF.out.1 | exact HF.out.2.1 | exact HF.out.2.2.1 | exact HF.out.2.2.2.1 | exact HF.out.2.2.2.2.1 | exact HF.out.2.2.2.2.2.1 | exact HF.out.2.2.2.2.2.2)).mono ?_; rintro e W2 ⟨q, m, c, rfl, hy, g1, hf⟩; exact hK _ _ g1 (Gr.trans hinv g1) (fun d hd => by cases hd; exact ⟨_, _, _, rfl, hy⟩)
  refine .cons (fun A W hfr hinv hdep K hK => ?_) ?_
  · have t1 := tAt (.pointer (some ⟨w.heap.size, 0, none⟩)) (hfr.at 1 (by kernel_rfl)); refine fW0 rfl ?_; clear hfr hdep; go_simp; exact hK _ _ (Gr.refl _) hinv (dsT (by trivial))
  refine .cons (fun A W hfr hinv hdep K hK => ?_) ?_
  · have t20 := tAt (.pointer (some ⟨w.heap.size, 5, none⟩)) (hdep 20 (by kernel_rfl)); refine fW0 rfl ?_; clear hfr hdep; obtain ⟨c0, c1, c2, c3, c4, c5, c6, c7⟩ := (HB.out.below hinv HB.out.lt).c8; go_simp; exact hK _ _ (Gr.refl _) hinv (dsT (by trivial))
  refine .cons (fun A W hfr hinv hdep K hK => ?_) ?_
  · have t21 := tAt (.int .i64 oo) (hdep 21 (by kernel_rfl)); refine fW0 rfl ?_; clear hfr hdep; have hw := HW.out; obtain ⟨w1, w2, w3, w4⟩ := hw; go_simp; exact hK _ _ (Gr.refl _) hinv (dsT (by trivial))
  refine .cons (fun A W hfr hinv hdep K hK => ?_) ?_
  · have t22 := tAt (.int .u64 (oo : Nat)) (hdep 22 (by kernel_rfl)); refine fW0 rfl ?_; clear hfr hdep; go_simp; refine (word_fit oo 1 W (by first | exact HF.out.1 | exact HF.out.2.1 | exact HF.out.2.2.1 | exact HF.out.2.2.2.1 | exact HF.out.2.2.2.2.1 | exact HF.out.2.2.2.2.2.1 | exact HF.out.2.2.2.2.2.2)).mono ?_; rintro e W2 ⟨q, m, c, rfl, hy, g1, hf⟩; exact hK _ _ g1 (Gr.trans hinv g1) (fun d hd => by cases hd; exact ⟨_, _, _, rfl, hy⟩)
  refine .cons (fun A W hfr hinv hdep K hK => ?_) ?_
  · have t1 := tAt (.pointer (some ⟨w.heap.size, 0, none⟩)) (hfr.at 1 (by kernel_rfl)); refine fW0 rfl ?_; clear hfr hdep; go_simp; exact hK _ _ (Gr.refl _) hinv (dsT (by trivial))
  refine .cons (fun A W hfr hinv hdep K hK => ?_) ?_
  · have t24 := tAt (.pointer (some ⟨w.heap.size, 7, none⟩)) (hdep 24 (by kernel_rfl)); refine fW0 rfl ?_; clear hfr hdep; obtain ⟨c0, c1, c2, c3, c4, c5, c6, c7⟩ := (HB.out.below hinv HB.out.lt).c8; go_simp; exact hK _ _ (Gr.refl _) hinv (dsT (by trivial))
  refine .cons (fun A W hfr hinv hdep K hK => ?_) ?_
  · have t25 := tAt (.slice pa a.length ca) (hdep 25 (by kernel_rfl)); refine fW0 rfl ?_; clear hfr hdep; go_simp; exact hK _ _ (Gr.refl _) hinv (dsT (by trivial))
  refine .cons (fun A W hfr hinv hdep K hK => ?_) ?_
  · have t26 := tAt (.int .i64 a.length) (hdep 26 (by kernel_rfl)); refine fW0 rfl ?_; clear hfr hdep; have hw := HW.out; obtain ⟨w1, w2, w3, w4⟩ := hw; go_simp; exact hK _ _ (Gr.refl _) hinv (dsT (by trivial))
  refine .cons (fun A W hfr hinv hdep K hK => ?_) ?_
  · have t27 := tAt (.int .u64 (a.length : Nat)) (hdep 27 (by kernel_rfl)); refine fW0 rfl ?_; clear hfr hdep; go_simp; refine (word_fit a.length 1 W (by first | exact HF.out.1 | exact HF.out.2.1 | exact HF.out.2.2.1 | exact HF.out.2.2.2.1 | exact HF.out.2.2.2.2.1 | exact HF.out.2.2.2.2.2.1 | exact HF.out.2.2.2.2.2.2)).mono ?_; rintro e W2 ⟨q, m, c, rfl, hy, g1, hf⟩; exact hK _ _ g1 (Gr.trans hinv g1) (fun d hd => by cases hd; exact ⟨_, _, _, rfl, hy⟩)
  refine .cons (fun A W hfr hinv hdep K hK => ?_) ?_
  · have t1 := tAt (.pointer (some ⟨w.heap.size, 0, none⟩)) (hfr.at 1 (by kernel_rfl)); refine fW0 rfl ?_; clear hfr hdep; go_simp; exact hK _ _ (Gr.refl _) hinv (dsT (by trivial))
  refine .cons (fun A W hfr hinv hdep K hK => ?_) ?_
  · have t29 := tAt (.pointer (some ⟨w.heap.size, 6, none⟩)) (hdep 29 (by kernel_rfl)); refine fW0 rfl ?_; clear hfr hdep; obtain ⟨c0, c1, c2, c3, c4, c5, c6, c7⟩ := (HB.out.below hinv HB.out.lt).c8; go_simp; exact hK _ _ (Gr.refl _) hinv (fun d hd => by cases hd; exact ⟨_, _, _, rfl, HY.out.kept hinv⟩)
  refine .cons (fun A W hfr hinv hdep K hK => ?_) ?_
  · have t1 := tAt (.pointer (some ⟨w.heap.size, 0, none⟩)) (hfr.at 1 (by kernel_rfl)); refine fW0 rfl ?_; clear hfr hdep; go_simp; exact hK _ _ (Gr.refl _) hinv (dsT (by trivial))
  refine .cons (fun A W hfr hinv hdep K hK => ?_) ?_
  · have t31 := tAt (.pointer (some ⟨w.heap.size, 7, none⟩)) (hdep 31 (by kernel_rfl)); refine fW0 rfl ?_; clear hfr hdep; obtain ⟨c0, c1, c2, c3, c4, c5, c6, c7⟩ := (HB.out.below hinv HB.out.lt).c8; go_simp; exact hK _ _ (Gr.refl _) hinv (fun d hd => by cases hd; exact ⟨_, _, _, rfl, HX.out.kept hinv⟩)
  refine .cons (fun A W hfr hinv hdep K hK => ?_) ?_
  · have s6 : IsB W (A.tmps.getD 6 undef) (Wd.enc 1 kk) := hdep 6 (by kernel_rfl); have s9 : IsB W (A.tmps.getD 9 undef) (Wd.enc 8 t) := hdep 9 (by kernel_rfl); have s12 : IsB W (A.tmps.getD 12 undef) (Wd.enc 8 p) := hdep 12 (by kernel_rfl); have s15 : IsB W (A.tmps.getD 15 undef) (Wd.enc 8 x) := hdep 15 (by kernel_rfl); have s19 : IsB W (A.tmps.getD 19 undef) (Wd.enc 2 gg) := hdep 19 (by kernel_rfl); have s23 : IsB W (A.tmps.getD 23 undef) (Wd.enc 1 oo) := hdep 23 (by kernel_rfl); have s28 : IsB W (A.tmps.getD 28 undef) (Wd.enc 1 a.length) := hdep 28 (by kernel_rfl); have s30 : IsB W (A.tmps.getD 30 undef) b := hdep 30 (by kernel_rfl); have s32 : IsB W (A.tmps.getD 32 undef) a := hdep 32 (by kernel_rfl); refine fW0 rfl ?_; clear hfr hdep; obtain ⟨p0, n0, c0, s6, h0⟩ := s6; have t6 := tmpAt s6; obtain ⟨p1, n1, c1, s9, h1⟩ := s9; have t9 := tmpAt s9; obtain ⟨p2, n2, c2, s12, h2⟩ := s12; have t12 := tmpAt s12; obtain ⟨p3, n3, c3, s15, h3⟩ := s15; have t15 := tmpAt s15; obtain ⟨p4, n4, c4, s19, h4⟩ := s19; have t19 := tmpAt s19; obtain ⟨p5, n5, c5, s23, h5⟩ := s23; have t23 := tmpAt s23; obtain ⟨p6, n6, c6, s28, h6⟩ := s28; have t28 := tmpAt s28; obtain ⟨p7, n7, c7, s30, h7⟩ := s30; have t30 := tmpAt s30; obtain ⟨p8, n8, c8, s32, h8⟩ := s32; have t32 := tmpAt s32; go_simp; exact hK _ _ ((Gr.refl W).alloc (Nat.le_refl _) _) (hinv.alloc hinv.size _) (fun d hd => by cases hd; exact ⟨_, _, _, rfl, Rows.nine h0 h1 h2 h3 h4 h5 h6 h7 h8 rfl⟩)
  refine .cons (fun A W hfr hinv hdep K hK => ?_) ?_
  · have s33 : IsRows W (A.tmps.getD 33 undef) (nine kk t p x gg oo b a) := hdep 33 (by kernel_rfl); refine fW0 rfl ?_; clear hfr hdep; obtain ⟨pr, nr, cr, s33, hr⟩ := s33; have t33 := tmpAt s33; go_simp; refine (join_any _ _ _ _ W hr HT.out).mono ?_; rintro e W2 ⟨q, m, c, rfl, hy, g1, hf⟩; exact hK _ _ g1 (Gr.trans hinv g1) (fun d hd => by cases hd; exact ⟨_, _, _, rfl, hy, fun y hy2 => Nat.le_trans (Nat.le_of_lt (Nat.lt_of_lt_of_le HB.out.lt hinv.size)) (hf y hy2)⟩)
  refine .cons (fun A W hfr hinv hdep K hK => ?_) ?_
  · have s34 : OwnX w.heap.size W (A.tmps.getD 34 undef) (nine kk t p x gg oo b a).flatten := hdep 34 (by kernel_rfl); refine fW0 rfl ?_; clear hfr hdep; obtain ⟨pr, nr, cr, s34, hr⟩ := s34; have t34 := tmpAt s34; go_simp; exact hK _ _ (Gr.refl _) hinv (fun d hd => by cases hd; exact ⟨_, _, _, rfl, hr⟩)
  exact True.intro
 case fin =>
  intro A W hfr hfin hsl
  obtain ⟨pr, nr, cr, s2, hr, hf⟩ : OwnX w.heap.size W (A.tmps.getD 2 undef) (nine kk t p x gg oo b a).flatten := hsl 32 _ 2 rfl rfl; have t2 := tmpAt s2; have e := Flow.frame hfr [3, 4, 5, 6, 7, 8, 9, 10, 11, 12, 13, 14, 15, 16, 17, 18, 19, 20, 21, 22, 23, 24, 25, 26, 27, 28, 29, 30, 31, 32, 33, 34, 2] (List.range 35) (by kernel_rfl) (by kernel_rfl)
  simp [List.range, List.range.loop] at e
  rw [t2] at e
  rw [e]; have HG := Lib.hid (grow1 hfin); have HR := Lib.hid hr; have HO := Lib.hid hf; clear e hfr hsl hfin s2 t2 hr hf
  first
  | (rename_i hB; refine hB _ _ ?_)
  | (rename_i hB y0; refine hB _ _ ?_)
  | (rename_i hB y0 y1; refine hB _ _ ?_)
  | (rename_i hB y0 y1 y2; refine hB _ _ ?_)
  | (rename_i hB y0 y1 y2 y3; refine hB _ _ ?_)
  | (rename_i hB y0 y1 y2 y3 y4; refine hB _ _ ?_)
  | (rename_i hB y0 y1 y2 y3 y4 y5; refine hB _ _ ?_)
  | (rename_i hB y0 y1 y2 y3 y4 y5 y6; refine hB _ _ ?_)
  | (rename_i hB y0 y1 y2 y3 y4 y5 y6 y7; refine hB _ _ ?_)
  | (rename_i hB y0 y1 y2 y3 y4 y5 y6 y7 y8; refine hB _ _ ?_)
  go_wp2_with fail
  go_ret
  exact ⟨_, _, _, rfl, HR.out, HG.out, HO.out⟩
set_option maxRecDepth 100000 in
set_option maxHeartbeats 4000000 in
theorem refBytes_nat (kk : Nat) (t : Nat) (p : Nat) (x : Nat) (gg : Nat) (oo : Nat) (b : List Int) (a : List Int) (pb : Option Addr) (cb : Nat) (pa : Option Addr) (ca : Nat) (at' : Nat) (w : World) (hb : Byt w pb b.length cb b) (ha : Byt w pa a.length ca a) (hK : kk ≤ 4) (ht : t ≤ 18446744073709551615) (hp : p ≤ 18446744073709551615) (hx : x ≤ 18446744073709551615) (hG : gg < 4096) (hO : oo ≤ 247) (hlb : b.length ≤ 248) (hla : a.length ≤ 248) (hat : at' ≤ 18446744073709551615) :
  Calls Tryz.prog 47 #[.agg #[.int .i64 kk, .int .u64 t, .int .u64 p, .int .u64 x, .int .i64 gg, .int .i64 oo, .slice pb b.length cb, .slice pa a.length ca], .int .u64 at'] w (RetByte (recL ⟨kk, t, p, x, gg, oo, b, a⟩ at') w) := by
 have HB := Lib.hid (Blk.new w TR #[.int .i64 kk, .int .u64 t, .int .u64 p, .int .u64 x, .int .i64 gg, .int .i64 oo, .slice pb b.length cb, .slice pa a.length ca]); have HG0 := Lib.hid ((Gr.refl w).alloc (Nat.le_refl _) (.cells #[.int .i64 kk, .int .u64 t, .int .u64 p, .int .u64 x, .int .i64 gg, .int .i64 oo, .slice pb b.length cb, .slice pa a.length ca] TR)); have HY := Lib.hid (hb.kept HG0.out); have HX := Lib.hid (ha.kept HG0.out); have HW : Hid (IntKind.u64.wrap (kk : Int) = kk ∧ IntKind.u64.wrap (gg : Int) = gg ∧ IntKind.u64.wrap (oo : Int) = oo ∧ IntKind.u64.wrap (a.length : Int) = a.length) := Lib.hid (by simp only [IntKind.wrap_u64]; omega); have HT : Hid (tot (nine kk t p x gg oo b a) ≤ 140737488355328) := Lib.hid (by rw [nine_tot]; omega); have HF : Hid (kk ≤ 18446744073709551615 ∧ t ≤ 18446744073709551615 ∧ p ≤ 18446744073709551615 ∧ x ≤ 18446744073709551615 ∧ gg ≤ 18446744073709551615 ∧ oo ≤ 18446744073709551615 ∧ a.length ≤ 18446744073709551615) := Lib.hid ⟨by omega, ht, hp, hx, by omega, by omega, by omega⟩
 go_enter Tryz.func47, Tryz.ntmps47
 go_wp2_with fail; refine Flow.region (SlBR w.heap.size kk t p x gg oo b a pb cb pa ca) (Gr (w.alloc (.cells #[.int .i64 kk, .int .u64 t, .int .u64 p, .int .u64 x, .int .i64 gg, .int .i64 oo, .slice pb b.length cb, .slice pa a.length ca] TR))) Gr (by kernel_rfl) (by kernel_rfl) (fun _ _ _ _ h g => slBR_gr h g) ⟨rfl, rfl, rfl, Nat.le_refl _, fun _ _ => rfl⟩ ?steps ?fin
 case steps =>
  refine .cons (fun A W hfr hinv hdep K hK => ?_) ?_
  · have t2 := tAt (.pointer (some ⟨w.heap.size, 0, none⟩)) (hfr.at 2 (by kernel_rfl)); refine fW0 rfl ?_; clear hfr hdep; go_simp; exact hK _ _ (Gr.refl _) hinv (dsT (by trivial))
  refine .cons (fun A W hfr hinv hdep K hK => ?_) ?_
  · have t8 := tAt (.pointer (some ⟨w.heap.size, 0, none⟩)) (hdep 8 (by kernel_rfl)); refine fW0 rfl ?_; clear hfr hdep; obtain ⟨c0, c1, c2, c3, c4, c5, c6, c7⟩ := (HB.out.below hinv HB.out.lt).c8; go_simp; exact hK _ _ (Gr.refl _) hinv (dsT (by trivial))
  refine .cons (fun A W hfr hinv hdep K hK => ?_) ?_
  · have t9 := tAt (.int .i64 kk) (hdep 9 (by kernel_rfl)); refine fW0 rfl ?_; clear hfr hdep; have hw := HW.out; obtain ⟨w1, w2, w3, w4⟩ := hw; go_simp; exact hK _ _ (Gr.refl _) hinv (dsT (by trivial))
  refine .cons (fun A W hfr hinv hdep K hK => ?_) ?_
  · have t10 := tAt (.int .u64 (kk : Nat)) (hdep 10 (by kernel_rfl)); refine fW0 rfl ?_; clear hfr hdep; go_simp; refine (refN_any kk 1 W (by first | exact HF.out.1 | exact HF.out.2.1 | exact HF.out.2.2.1 | exact HF.out.2.2.2.1 | exact HF.out.2.2.2.2.1 | exact HF.out.2.2.2.2.2.1 | exact HF.out.2.2.2.2.2.2) (by omega)).mono ?_; rintro e W2 ⟨q, m, c, rfl, hy, g1, hf⟩; exact hK _ _ g1 (Gr.trans hinv g1) (fun d hd => by cases hd; exact ⟨_, _, _, rfl, hy⟩)
  refine .cons (fun A W hfr hinv hdep K hK => ?_) ?_
  · have t2 := tAt (.pointer (some ⟨w.heap.size, 0, none⟩)) (hfr.at 2 (by kernel_rfl)); refine fW0 rfl ?_; clear hfr hdep; go_simp; exact hK _ _ (Gr.refl _) hinv (dsT (by trivial))
  refine .cons (fun A W hfr hinv hdep K hK => ?_) ?_
  · have t12 := tAt (.pointer (some ⟨w.heap.size, 1, none⟩)) (hdep 12 (by kernel_rfl)); refine fW0 rfl ?_; clear hfr hdep; obtain ⟨c0, c1, c2, c3, c4, c5, c6, c7⟩ := (HB.out.below hinv HB.out.lt).c8; go_simp; exact hK _ _ (Gr.refl _) hinv (dsT (by trivial))
  refine .cons (fun A W hfr hinv hdep K hK => ?_) ?_
  · have t13 := tAt (.int .u64 t) (hdep 13 (by kernel_rfl)); refine fW0 rfl ?_; clear hfr hdep; go_simp; refine (refN_any t 8 W (by first | exact HF.out.1 | exact HF.out.2.1 | exact HF.out.2.2.1 | exact HF.out.2.2.2.1 | exact HF.out.2.2.2.2.1 | exact HF.out.2.2.2.2.2.1 | exact HF.out.2.2.2.2.2.2) (by omega)).mono ?_; rintro e W2 ⟨q, m, c, rfl, hy, g1, hf⟩; exact hK _ _ g1 (Gr.trans hinv g1) (fun d hd => by cases hd; exact ⟨_, _, _, rfl, hy⟩)
  refine .cons (fun A W hfr hinv hdep K hK => ?_) ?_
  · have t2 := tAt (.pointer (some ⟨w.heap.size, 0, none⟩)) (hfr.at 2 (by kernel_rfl)); refine fW0 rfl ?_; clear hfr hdep; go_simp; exact hK _ _ (Gr.refl _) hinv (dsT (by trivial))
  refine .cons (fun A W hfr hinv hdep K hK => ?_) ?_
  · have t15 := tAt (.pointer (some ⟨w.heap.size, 2, none⟩)) (hdep 15 (by kernel_rfl)); refine fW0 rfl ?_; clear hfr hdep; obtain ⟨c0, c1, c2, c3, c4, c5, c6, c7⟩ := (HB.out.below hinv HB.out.lt).c8; go_simp; exact hK _ _ (Gr.refl _) hinv (dsT (by trivial))
  refine .cons (fun A W hfr hinv hdep K hK => ?_) ?_
  · have t16 := tAt (.int .u64 p) (hdep 16 (by kernel_rfl)); refine fW0 rfl ?_; clear hfr hdep; go_simp; refine (refN_any p 8 W (by first | exact HF.out.1 | exact HF.out.2.1 | exact HF.out.2.2.1 | exact HF.out.2.2.2.1 | exact HF.out.2.2.2.2.1 | exact HF.out.2.2.2.2.2.1 | exact HF.out.2.2.2.2.2.2) (by omega)).mono ?_; rintro e W2 ⟨q, m, c, rfl, hy, g1, hf⟩; exact hK _ _ g1 (Gr.trans hinv g1) (fun d hd => by cases hd; exact ⟨_, _, _, rfl, hy⟩)
  refine .cons (fun A W hfr hinv hdep K hK => ?_) ?_
  · have t2 := tAt (.pointer (some ⟨w.heap.size, 0, none⟩)) (hfr.at 2 (by kernel_rfl)); refine fW0 rfl ?_; clear hfr hdep; go_simp; exact hK _ _ (Gr.refl _) hinv (dsT (by trivial))
  refine .cons (fun A W hfr hinv hdep K hK => ?_) ?_
  · have t18 := tAt (.pointer (some ⟨w.heap.size, 3, none⟩)) (hdep 18 (by kernel_rfl)); refine fW0 rfl ?_; clear hfr hdep; obtain ⟨c0, c1, c2, c3, c4, c5, c6, c7⟩ := (HB.out.below hinv HB.out.lt).c8; go_simp; exact hK _ _ (Gr.refl _) hinv (dsT (by trivial))
  refine .cons (fun A W hfr hinv hdep K hK => ?_) ?_
  · have t19 := tAt (.int .u64 x) (hdep 19 (by kernel_rfl)); refine fW0 rfl ?_; clear hfr hdep; go_simp; refine (refN_any x 8 W (by first | exact HF.out.1 | exact HF.out.2.1 | exact HF.out.2.2.1 | exact HF.out.2.2.2.1 | exact HF.out.2.2.2.2.1 | exact HF.out.2.2.2.2.2.1 | exact HF.out.2.2.2.2.2.2) (by omega)).mono ?_; rintro e W2 ⟨q, m, c, rfl, hy, g1, hf⟩; exact hK _ _ g1 (Gr.trans hinv g1) (fun d hd => by cases hd; exact ⟨_, _, _, rfl, hy⟩)
  refine .cons (fun A W hfr hinv hdep K hK => ?_) ?_
  · have t2 := tAt (.pointer (some ⟨w.heap.size, 0, none⟩)) (hfr.at 2 (by kernel_rfl)); refine fW0 rfl ?_; clear hfr hdep; go_simp; exact hK _ _ (Gr.refl _) hinv (dsT (by trivial))
  refine .cons (fun A W hfr hinv hdep K hK => ?_) ?_
  · have t21 := tAt (.pointer (some ⟨w.heap.size, 4, none⟩)) (hdep 21 (by kernel_rfl)); refine fW0 rfl ?_; clear hfr hdep; obtain ⟨c0, c1, c2, c3, c4, c5, c6, c7⟩ := (HB.out.below hinv HB.out.lt).c8; go_simp; exact hK _ _ (Gr.refl _) hinv (dsT (by trivial))
  refine .cons (fun A W hfr hinv hdep K hK => ?_) ?_
  · have t22 := tAt (.int .i64 gg) (hdep 22 (by kernel_rfl)); refine fW0 rfl ?_; clear hfr hdep; have hw := HW.out; obtain ⟨w1, w2, w3, w4⟩ := hw; go_simp; exact hK _ _ (Gr.refl _) hinv (dsT (by trivial))
  refine .cons (fun A W hfr hinv hdep K hK => ?_) ?_
  · have t23 := tAt (.int .u64 (gg : Nat)) (hdep 23 (by kernel_rfl)); refine fW0 rfl ?_; clear hfr hdep; go_simp; refine (refN_any gg 2 W (by first | exact HF.out.1 | exact HF.out.2.1 | exact HF.out.2.2.1 | exact HF.out.2.2.2.1 | exact HF.out.2.2.2.2.1 | exact HF.out.2.2.2.2.2.1 | exact HF.out.2.2.2.2.2.2) (by omega)).mono ?_; rintro e W2 ⟨q, m, c, rfl, hy, g1, hf⟩; exact hK _ _ g1 (Gr.trans hinv g1) (fun d hd => by cases hd; exact ⟨_, _, _, rfl, hy⟩)
  refine .cons (fun A W hfr hinv hdep K hK => ?_) ?_
  · have t2 := tAt (.pointer (some ⟨w.heap.size, 0, none⟩)) (hfr.at 2 (by kernel_rfl)); refine fW0 rfl ?_; clear hfr hdep; go_simp; exact hK _ _ (Gr.refl _) hinv (dsT (by trivial))
  refine .cons (fun A W hfr hinv hdep K hK => ?_) ?_
  · have t25 := tAt (.pointer (some ⟨w.heap.size, 5, none⟩)) (hdep 25 (by kernel_rfl)); refine fW0 rfl ?_; clear hfr hdep; obtain ⟨c0, c1, c2, c3, c4, c5, c6, c7⟩ := (HB.out.below hinv HB.out.lt).c8; go_simp; exact hK _ _ (Gr.refl _) hinv (dsT (by trivial))
  refine .cons (fun A W hfr hinv hdep K hK => ?_) ?_
  · have t26 := tAt (.int .i64 oo) (hdep 26 (by kernel_rfl)); refine fW0 rfl ?_; clear hfr hdep; have hw := HW.out; obtain ⟨w1, w2, w3, w4⟩ := hw; go_simp; exact hK _ _ (Gr.refl _) hinv (dsT (by trivial))
  refine .cons (fun A W hfr hinv hdep K hK => ?_) ?_
  · have t27 := tAt (.int .u64 (oo : Nat)) (hdep 27 (by kernel_rfl)); refine fW0 rfl ?_; clear hfr hdep; go_simp; refine (refN_any oo 1 W (by first | exact HF.out.1 | exact HF.out.2.1 | exact HF.out.2.2.1 | exact HF.out.2.2.2.1 | exact HF.out.2.2.2.2.1 | exact HF.out.2.2.2.2.2.1 | exact HF.out.2.2.2.2.2.2) (by omega)).mono ?_; rintro e W2 ⟨q, m, c, rfl, hy, g1, hf⟩; exact hK _ _ g1 (Gr.trans hinv g1) (fun d hd => by cases hd; exact ⟨_, _, _, rfl, hy⟩)
  refine .cons (fun A W hfr hinv hdep K hK => ?_) ?_
  · have t2 := tAt (.pointer (some ⟨w.heap.size, 0, none⟩)) (hfr.at 2 (by kernel_rfl)); refine fW0 rfl ?_; clear hfr hdep; go_simp; exact hK _ _ (Gr.refl _) hinv (dsT (by trivial))
  refine .cons (fun A W hfr hinv hdep K hK => ?_) ?_
  · have t29 := tAt (.pointer (some ⟨w.heap.size, 7, none⟩)) (hdep 29 (by kernel_rfl)); refine fW0 rfl ?_; clear hfr hdep; obtain ⟨c0, c1, c2, c3, c4, c5, c6, c7⟩ := (HB.out.below hinv HB.out.lt).c8; go_simp; exact hK _ _ (Gr.refl _) hinv (dsT (by trivial))
  refine .cons (fun A W hfr hinv hdep K hK => ?_) ?_
  · have t30 := tAt (.slice pa a.length ca) (hdep 30 (by kernel_rfl)); refine fW0 rfl ?_; clear hfr hdep; go_simp; exact hK _ _ (Gr.refl _) hinv (dsT (by trivial))
  refine .cons (fun A W hfr hinv hdep K hK => ?_) ?_
  · have t31 := tAt (.int .i64 a.length) (hdep 31 (by kernel_rfl)); refine fW0 rfl ?_; clear hfr hdep; have hw := HW.out; obtain ⟨w1, w2, w3, w4⟩ := hw; go_simp; exact hK _ _ (Gr.refl _) hinv (dsT (by trivial))
  refine .cons (fun A W hfr hinv hdep K hK => ?_) ?_
  · have t32 := tAt (.int .u64 (a.length : Nat)) (hdep 32 (by kernel_rfl)); refine fW0 rfl ?_; clear hfr hdep; go_simp; refine (refN_any a.length 1 W (by first | exact HF.out.1 | exact HF.out.2.1 | exact HF.out.2.2.1 | exact HF.out.2.2.2.1 | exact HF.out.2.2.2.2.1 | exact HF.out.2.2.2.2.2.1 | exact HF.out.2.2.2.2.2.2) (by omega)).mono ?_; rintro e W2 ⟨q, m, c, rfl, hy, g1, hf⟩; exact hK _ _ g1 (Gr.trans hinv g1) (fun d hd => by cases hd; exact ⟨_, _, _, rfl, hy⟩)
  refine .cons (fun A W hfr hinv hdep K hK => ?_) ?_
  · have t2 := tAt (.pointer (some ⟨w.heap.size, 0, none⟩)) (hfr.at 2 (by kernel_rfl)); refine fW0 rfl ?_; clear hfr hdep; go_simp; exact hK _ _ (Gr.refl _) hinv (dsT (by trivial))
  refine .cons (fun A W hfr hinv hdep K hK => ?_) ?_
  · have t34 := tAt (.pointer (some ⟨w.heap.size, 6, none⟩)) (hdep 34 (by kernel_rfl)); refine fW0 rfl ?_; clear hfr hdep; obtain ⟨c0, c1, c2, c3, c4, c5, c6, c7⟩ := (HB.out.below hinv HB.out.lt).c8; go_simp; exact hK _ _ (Gr.refl _) hinv (fun d hd => by cases hd; exact ⟨_, _, _, rfl, HY.out.kept hinv⟩)
  refine .cons (fun A W hfr hinv hdep K hK => ?_) ?_
  · have t2 := tAt (.pointer (some ⟨w.heap.size, 0, none⟩)) (hfr.at 2 (by kernel_rfl)); refine fW0 rfl ?_; clear hfr hdep; go_simp; exact hK _ _ (Gr.refl _) hinv (dsT (by trivial))
  refine .cons (fun A W hfr hinv hdep K hK => ?_) ?_
  · have t36 := tAt (.pointer (some ⟨w.heap.size, 7, none⟩)) (hdep 36 (by kernel_rfl)); refine fW0 rfl ?_; clear hfr hdep; obtain ⟨c0, c1, c2, c3, c4, c5, c6, c7⟩ := (HB.out.below hinv HB.out.lt).c8; go_simp; exact hK _ _ (Gr.refl _) hinv (fun d hd => by cases hd; exact ⟨_, _, _, rfl, HX.out.kept hinv⟩)
  refine .cons (fun A W hfr hinv hdep K hK => ?_) ?_
  · have s11 : IsB W (A.tmps.getD 11 undef) (Wd.enc 1 kk) := hdep 11 (by kernel_rfl); have s14 : IsB W (A.tmps.getD 14 undef) (Wd.enc 8 t) := hdep 14 (by kernel_rfl); have s17 : IsB W (A.tmps.getD 17 undef) (Wd.enc 8 p) := hdep 17 (by kernel_rfl); have s20 : IsB W (A.tmps.getD 20 undef) (Wd.enc 8 x) := hdep 20 (by kernel_rfl); have s24 : IsB W (A.tmps.getD 24 undef) (Wd.enc 2 gg) := hdep 24 (by kernel_rfl); have s28 : IsB W (A.tmps.getD 28 undef) (Wd.enc 1 oo) := hdep 28 (by kernel_rfl); have s33 : IsB W (A.tmps.getD 33 undef) (Wd.enc 1 a.length) := hdep 33 (by kernel_rfl); have s35 : IsB W (A.tmps.getD 35 undef) b := hdep 35 (by kernel_rfl); have s37 : IsB W (A.tmps.getD 37 undef) a := hdep 37 (by kernel_rfl); refine fW0 rfl ?_; clear hfr hdep; obtain ⟨p0, n0, c0, s11, h0⟩ := s11; have t11 := tmpAt s11; obtain ⟨p1, n1, c1, s14, h1⟩ := s14; have t14 := tmpAt s14; obtain ⟨p2, n2, c2, s17, h2⟩ := s17; have t17 := tmpAt s17; obtain ⟨p3, n3, c3, s20, h3⟩ := s20; have t20 := tmpAt s20; obtain ⟨p4, n4, c4, s24, h4⟩ := s24; have t24 := tmpAt s24; obtain ⟨p5, n5, c5, s28, h5⟩ := s28; have t28 := tmpAt s28; obtain ⟨p6, n6, c6, s33, h6⟩ := s33; have t33 := tmpAt s33; obtain ⟨p7, n7, c7, s35, h7⟩ := s35; have t35 := tmpAt s35; obtain ⟨p8, n8, c8, s37, h8⟩ := s37; have t37 := tmpAt s37; go_simp; exact hK _ _ ((Gr.refl W).alloc (Nat.le_refl _) _) (hinv.alloc hinv.size _) (fun d hd => by cases hd; exact ⟨_, _, _, rfl, Rows.nine h0 h1 h2 h3 h4 h5 h6 h7 h8 rfl⟩)
  refine .cons (fun A W hfr hinv hdep K hK => ?_) ?_
  · have s38 : IsRows W (A.tmps.getD 38 undef) (nine kk t p x gg oo b a) := hdep 38 (by kernel_rfl); refine fW0 rfl ?_; clear hfr hdep; obtain ⟨pr, nr, cr, s38, hr⟩ := s38; have t38 := tmpAt s38; go_simp; refine (refJoin_any _ _ _ _ W hr HT.out).mono ?_; rintro e W2 ⟨q, m, c, rfl, hy, g1, hf⟩; exact hK _ _ g1 (Gr.trans hinv g1) (fun d hd => by cases hd; exact ⟨_, _, _, rfl, hy, fun y hy2 => Nat.le_trans (Nat.le_of_lt (Nat.lt_of_lt_of_le HB.out.lt hinv.size)) (hf y hy2)⟩)
  refine .cons (fun A W hfr hinv hdep K hK => ?_) ?_
  · have s39 : OwnX w.heap.size W (A.tmps.getD 39 undef) (nine kk t p x gg oo b a).flatten := hdep 39 (by kernel_rfl); refine fW0 rfl ?_; clear hfr hdep; obtain ⟨pr, nr, cr, s39, hr⟩ := s39; have t39 := tmpAt s39; go_simp; exact hK _ _ (Gr.refl _) hinv (fun d hd => by cases hd; exact ⟨_, _, _, rfl, hr⟩)
  exact True.intro
 case fin =>
  intro A W hfr hfin hsl
  obtain ⟨pr, nr, cr, s5, hr, hf⟩ : OwnX w.heap.size W (A.tmps.getD 5 undef) (nine kk t p x gg oo b a).flatten := hsl 32 _ 5 rfl rfl; have t5 := tmpAt s5; have e := Flow.frame hfr [8, 9, 10, 11, 12, 13, 14, 15, 16, 17, 18, 19, 20, 21, 22, 23, 24, 25, 26, 27, 28, 29, 30, 31, 32, 33, 34, 35, 36, 37, 38, 39, 5] (List.range 58) (by kernel_rfl) (by kernel_rfl)
  simp [List.range, List.range.loop] at e
  rw [t5] at e
  rw [e]; have HG := Lib.hid (grow1 hfin); have HR := Lib.hid hr; have HO := Lib.hid hf; clear e hfr hsl hfin s5 t5 hr hf
  first
  | (rename_i hB; refine hB _ _ ?_)
  | (rename_i hB y0; refine hB _ _ ?_)
  | (rename_i hB y0 y1; refine hB _ _ ?_)
  | (rename_i hB y0 y1 y2; refine hB _ _ ?_)
  | (rename_i hB y0 y1 y2 y3; refine hB _ _ ?_)
  | (rename_i hB y0 y1 y2 y3 y4; refine hB _ _ ?_)
  | (rename_i hB y0 y1 y2 y3 y4 y5; refine hB _ _ ?_)
  | (rename_i hB y0 y1 y2 y3 y4 y5 y6; refine hB _ _ ?_)
  | (rename_i hB y0 y1 y2 y3 y4 y5 y6 y7; refine hB _ _ ?_)
  | (rename_i hB y0 y1 y2 y3 y4 y5 y6 y7 y8; refine hB _ _ ?_)
  obtain ⟨B0, hB0⟩ : ∃ B0, B0 = (nine kk t p x gg oo b a).flatten := ⟨_, rfl⟩
  rw [← hB0] at HR
  have hl := HR.out.len
  have hl2 : B0.length = 29 + b.length + a.length := by rw [hB0, nine_rec, bodyL_len]
  have hn : nr = 29 + b.length + a.length := by omega
  have hn1 : nr ≤ 600 := by omega
  have HN := Lib.hid hn; have HB0 := Lib.hid hB0; have HAT := Lib.hid hat; have HLB := Lib.hid hl2; clear hl hl2 hn hB0 hat HB HX HY HW HT HF hb ha HG0; go_wp2_with fail; refine (refN_any nr 2 _ (by omega) (by omega)).mono ?_; rintro e w1 ⟨q1, m1, d1, rfl, hy1, g1, _⟩; have HR1 := Lib.hid (HR.out.kept g1); have HG1 := Lib.hid (Gr.trans HG.out g1); have HY1 := Lib.hid hy1; clear hy1 g1 HR HG; go_wp2_with fail; refine (refN_any at' 8 _ HAT.out (by omega)).mono ?_; rintro e w2 ⟨q2, m2, d2, rfl, hy2, g2, _⟩; have HR2 := Lib.hid (HR1.out.kept g2); have HY2 := Lib.hid (HY1.out.kept g2); have HG2 := Lib.hid (Gr.trans HG1.out g2); have HRows := Lib.hid (Rows.three (t := 31) hy2 HY2.out HR2.out rfl); clear hy2 g2 HR1 HY1 HG1; go_wp2_with fail; refine (refJoin_any _ _ _ _ _ HRows.out (by have := HLB.out; unfold tot; simp only [List.flatten_cons, List.flatten_nil, List.length_append, Wd.enc_length, List.length_nil]; omega)).mono ?_; rintro e w3 ⟨q3, m3, d3, rfl, hy3, g3, _⟩; have HR3 := Lib.hid (HR2.out.kept (grow1 g3)); have HY3 := Lib.hid (HY2.out.kept (grow1 g3)); have HG3 := Lib.hid (Gr.trans HG2.out (grow1 g3)); have HJ3 := Lib.hid hy3; clear hy3 g3 HRows HR2 HY2 HG2; go_wp2_with fail; refine (refSum_any _ _ _ _ _ HJ3.out).mono ?_; rintro e w4 ⟨rfl, rfl⟩; obtain ⟨S, hS⟩ : ∃ S, S = sumW [Wd.enc 8 at', Wd.enc 2 nr, B0].flatten := ⟨_, rfl⟩; rw [← hS]; have hU : U S = ((S.toNat : Nat) : Int) := rfl; obtain ⟨m, hm⟩ : ∃ m, m = S.toNat := ⟨_, rfl⟩
  have hm1 : m ≤ 4294967295 := by have := S.isLt; omega
  rw [hU, ← hm]; have HS := Lib.hid hS; have HM := Lib.hid hm; clear hS hm hU HJ3; go_wp2_with fail; refine (refN_any m 4 _ (by omega) (by omega)).mono ?_; rintro e w5 ⟨q5, m5, d5, rfl, hy5, g5, _⟩; have HR5 := Lib.hid (HR3.out.kept g5); have HY5 := Lib.hid (HY3.out.kept g5); have HG5 := Lib.hid (Gr.trans HG3.out g5); have HRows := Lib.hid (Rows.three (t := 31) HY5.out hy5 HR5.out rfl); clear hy5 g5 HR3 HY3 HG3; go_wp2_with fail; refine (refJoin_any _ _ _ _ _ HRows.out (by have := HLB.out; unfold tot; simp only [List.flatten_cons, List.flatten_nil, List.length_append, Wd.enc_length, List.length_nil]; omega)).mono ?_; rintro e w6 ⟨q6, m6, d6, rfl, hy6, g6, hf6⟩; have HG6 := Lib.hid (Gr.trans HG5.out (grow1 g6)); have HJ6 := Lib.hid hy6; have HF6 := Lib.hid hf6; clear hy6 g6 hf6 HRows; go_wp2_with fail
  go_ret
  have hrec : [Wd.enc 2 nr, Wd.enc 4 m, B0].flatten = recL ⟨kk, t, p, x, gg, oo, b, a⟩ at' := by
   have e1 : S = sumL ⟨kk, t, p, x, gg, oo, b, a⟩ at' := by
    rw [HS.out, HB0.out, HN.out]
    unfold sumL sizeL
    rw [nine_rec]
    simp
   rw [HM.out, e1, HB0.out, HN.out, nine_rec]
   unfold recL sizeL
   simp
  exact ⟨_, _, _, rfl, hrec ▸ HJ6.out, HG6.out, fun y hy => Nat.le_trans (by have := HG5.out.size; simp; omega) (HF6.out y hy)⟩
end Go.Proofs.YtlijbgapkmfnaaaGreat
