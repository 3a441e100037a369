
/-
  Layouts, as the mathematics has them; what makes them, in the program and in the document.
-/
import Derived.Test.YtanajjfcnedaiaaProg
import Derived.Test.YtanajjfcnedaiaaWords
namespace Go.Proofs.Ytanajjfcnedaiaa
open Go.RowKit

def okN (n : Int) : Bool := decide (64 ≤ n ∧ n ≤ 4096)
def logOf (n : Int) : Int := min (max (n / 8) 16) 256
def grpOf (n : Int) : Int := (n - (3 + logOf n) + 56) / 64
def mkN (n : Int) : Int := if okN n then n else 0
def mkL (n : Int) : Int := if okN n then logOf n else 0
def mkG (n : Int) : Int := if okN n then grpOf n else 0
def mkE (n : Int) : Int := if okN n then 0 else 2
def mayL (n l g : Int) : Bool := okN n && decide (l = logOf n ∧ g = grpOf n)

theorem okN_iff {n : Int} : okN n = true ↔ 64 ≤ n ∧ n ≤ 4096 := by simp [okN]
theorem log_lo {n : Int} (_ : 64 ≤ n) (_ : n ≤ 4096) : 16 ≤ logOf n ∧ logOf n ≤ 256 := by unfold logOf; omega
theorem grp_lo {n : Int} (h0 : 64 ≤ n) (h1 : n ≤ 4096) : 1 ≤ grpOf n ∧ grpOf n ≤ 60 ∧ 3 + logOf n + 64 * grpOf n ≤ n + 56 ∧ n < 3 + logOf n + 64 * grpOf n + 8 := by unfold grpOf logOf; omega

/-- where a group begins, as the machine counts. -/
def startW (l g : Int) : Int := wrap64 (wrap64 (3 + l) + wrap64 (g * 64))

theorem start_any (n l g i : Int) (w : World) : Calls Try.prog 36 #[.agg #[.int .i64 n, .int .i64 l, .int .i64 g], .int .i64 i] w fun e w' => e = .returned (.int .i64 (startW l i)) ∧ Gr w w' := by
  have hg := (Gr.refl w).alloc (Nat.le_refl _) (.cells #[.int .i64 n, .int .i64 l, .int .i64 g] 23)
  go_enter Try.func36, Try.ntmps36
  go_wp2
  go_ret
  exact ⟨rfl, hg⟩

theorem groups_any (n G : Int) (w : World) (h0 : 0 ≤ n) (h1 : n ≤ 5000) (hG : (n + 56) / 64 = G) : Calls Try.prog 35 #[.int .i64 n] w fun e w' => e = .returned (.int .i64 G) ∧ w = w' := by
  have HG := Lib.hid hG
  clear hG
  go_enter Try.func35, Try.ntmps35
  go_wp2
  go_ret
  exact ⟨ret_i (by rw [← HG.out]; omega), rfl⟩

theorem num_any (n : Int) (w : World) : Calls Try.prog 11 #[.int .i64 n] w fun e w' => e = .returned (.int .i64 n) ∧ w = w' := by
  go_enter Try.func11, Try.ntmps11
  go_wp2
  go_ret
  exact ⟨rfl, rfl⟩

/-- A block of three cells, read. -/
theorem Blk.c3 {w : World} {g : Nat} {t : TypeId} {a b c : Value} (h : Blk w g t #[a, b, c]) : (w.cell? ⟨g, 0, none⟩ = some a ∧ w.cell? ⟨g, 1, none⟩ = some b ∧ w.cell? ⟨g, 2, none⟩ = some c) ∧ (w.frozen? ⟨g, 0, none⟩ = false ∧ w.frozen? ⟨g, 1, none⟩ = false ∧ w.frozen? ⟨g, 2, none⟩ = false) :=
  ⟨⟨h.cell 0, h.cell 1, h.cell 2⟩, h.frozen 0, h.frozen 1, h.frozen 2⟩

/-- Answers. -/
def RetLy (n l g e : Int) (w : World) (en : Ending) (w' : World) : Prop := en = .returned (.tuple #[.agg #[.int .i64 n, .int .i64 l, .int .i64 g], .int .i64 e]) ∧ Gr w w'
def RetLyB (n l g : Int) (b : Bool) (w : World) (en : Ending) (w' : World) : Prop := en = .returned (.tuple #[.agg #[.int .i64 n, .int .i64 l, .int .i64 g], .bool b]) ∧ Gr w w'

theorem make_no (n : Int) (w : World) (h : ¬ (64 ≤ n ∧ n ≤ 4096)) : Calls Try.prog 9 #[.int .i64 n] w (RetLy 0 0 0 2 w) := by
  have hg := (Gr.refl w).alloc (Nat.le_refl _) (.cells #[.int .i64 0, .int .i64 0, .int .i64 0] 23)
  by_cases h1 : n < 64
  all_goals
    go_enter Try.func9, Try.ntmps9
    go_wp2
    go_returns
    exact ⟨rfl, hg⟩

theorem startW_in {l g : Int} (h0 : 0 ≤ l) (h1 : l ≤ 5000) (h2 : 0 ≤ g) (h3 : g ≤ 5000) : startW l g = 3 + l + g * 64 := by
  unfold startW wrap64; omega

theorem grow2 {w w1 : World} {o o' : Obj} (g : Gr ((w.alloc o).alloc o') w1) : Gr w w1 := Gr.trans (((Gr.refl w).alloc (Nat.le_refl _) _).alloc (by simp) _) g
theorem grow1 {w w1 : World} {o : Obj} (g : Gr (w.alloc o) w1) : Gr w w1 := Gr.trans ((Gr.refl w).alloc (Nat.le_refl _) _) g

/-- Results: a struct in a cell of its own, and a slot. -/
theorem results_ly {fn : Func} {p q : Tmp} (h : fn.results = #[.cell p 23, .tmp q]) (tmps : Array Value) (w : World) (g : Nat) (cs : Array Value) (x : Value) (hs : cs.size = 3)
    (hp : tmps.getD p undef = .pointer (some ⟨g, 0, none⟩)) (hx : tmps.getD q undef = x) (hb : Blk w g 23 cs) : (results fn tmps).run Try.prog w = .ok (.tuple #[.agg cs, x]) w := by
  have hp' : tmps[p]?.getD undef = .pointer (some ⟨g, 0, none⟩) := by simpa using hp
  have hx' : tmps[q]?.getD undef = x := by simpa using hx
  have hz : (Try.prog.info? 23).map (·.size) = some 3 := by kernel_rfl
  have hl := run_loadVar_row (P := Try.prog) w g 23 23 cs (0, 0) _ hb Try.underlying23 rfl (by rw [hs]; exact hz)
  simp [results, h, hp', hx', asAddr, hl]

theorem below_set3 {B g : Nat} {w w1 : World} {a b c : Value} {i j k : Nat} (h : Below B w w1) (hg : B ≤ g) : Below B w (((w1.setCell ⟨g, i, none⟩ a).setCell ⟨g, j, none⟩ b).setCell ⟨g, k, none⟩ c) := ((h.setCell hg _).setCell hg _).setCell hg _

set_option maxRecDepth 100000 in
theorem make_yes (n : Int) (w : World) (h0 : 64 ≤ n) (h1 : n ≤ 4096) : Calls Try.prog 9 #[.int .i64 n] w (RetLy n (logOf n) (grpOf n) 0 w) := by
  have hl := log_lo h0 h1
  have hL : min (max (n / 8) 16) 256 = logOf n := rfl
  obtain ⟨L, hL2⟩ : ∃ L, L = logOf n := ⟨_, rfl⟩
  have hG : Hid ((n - (3 + L) + 56) / 64 = grpOf n) := Lib.hid (by rw [hL2]; rfl)
  have hs : startW L 0 = 3 + L := by rw [startW_in (by omega) (by omega) (by omega) (by omega)]; omega
  rw [← hL2] at hL hl
  rw [← hL2]
  have l2 : 3 + L ≤ n := by omega
  have HL := Lib.hid hL
  have HS := Lib.hid hs
  clear hL2 hL hs
  obtain ⟨l0, l1⟩ := hl
  go_enter Try.func9, Try.ntmps9
  go_wp2_with fail
  rw [HL.out]
  refine (start_any _ _ _ _ _).mono ?_
  rintro e w1 ⟨rfl, g1⟩
  have G1 := Lib.hid (grow2 g1)
  have B1 := Lib.hid (((Blk.new w 23 #[.int .i64 0, .int .i64 0, .int .i64 0]).alloc _).below g1 (by go_size))
  obtain ⟨⟨c0, c1, c2⟩, f0, f1, f2⟩ := B1.out.c3
  obtain ⟨⟨d0, d1, d2⟩, q0, q1, q2⟩ := ((Blk.new (w.alloc (.cells #[.int .i64 0, .int .i64 0, .int .i64 0] 23)) 23 _).below g1 (by go_size)).c3
  simp only [World.size_alloc] at d0 d1 d2 q0 q1 q2
  rw [HS.out]
  clear g1
  go_wp2_with fail
  refine (groups_any _ (grpOf n) _ (by omega) (by omega) (by have := hG.out; omega)).mono ?_
  rintro e w2 ⟨rfl, rfl⟩
  go_wp2_with fail
  exact bodyPost_ret (results_ly rfl _ _ w.heap.size #[.int .i64 n, .int .i64 L, .int .i64 (grpOf n)] _ rfl rfl rfl ((((B1.out.far (by simp) _).set 0 _).set 1 _).set 2 _)) rfl ⟨rfl, below_set3 (G1.out.setCell (by simp) _) (Nat.le_refl _)⟩

theorem make_any (n : Int) (w : World) : Calls Try.prog 9 #[.int .i64 n] w (RetLy (mkN n) (mkL n) (mkG n) (mkE n) w) := by
  by_cases h : 64 ≤ n ∧ n ≤ 4096
  · have e : okN n = true := okN_iff.2 h
    simp only [mkN, mkL, mkG, mkE, e, if_true]
    exact make_yes n w h.1 h.2
  · have e : okN n = false := by simpa [okN] using h
    simp only [mkN, mkL, mkG, mkE, e, Bool.false_eq_true, if_false]
    exact make_no n w h

/-- Answers. -/
def RetB (b : Bool) (w : World) (en : Ending) (w' : World) : Prop := en = .returned (.bool b) ∧ Gr w w'
def RetI (i : Int) (w : World) (en : Ending) (w' : World) : Prop := en = .returned (.int .i64 i) ∧ Gr w w'
def Ret3 (a b e : Int) (w : World) (en : Ending) (w' : World) : Prop := en = .returned (.tuple #[.int .i64 a, .int .i64 b, .int .i64 e]) ∧ Gr w w'
def Ret3B (a b : Int) (c : Bool) (w : World) (en : Ending) (w' : World) : Prop := en = .returned (.tuple #[.int .i64 a, .int .i64 b, .bool c]) ∧ Gr w w'
def Ret2 (a e : Int) (w : World) (en : Ending) (w' : World) : Prop := en = .returned (.tuple #[.int .i64 a, .int .i64 e]) ∧ Gr w w'

theorem lt_of_new {w w1 : World} {o : Obj} (g : Gr (w.alloc o) w1) : w.heap.size < w1.heap.size := by have := g.size; simp at this; omega

set_option maxRecDepth 100000 in
theorem mayS_any (n l g : Int) (w : World) : Calls Try.prog 12 #[.agg #[.int .i64 n, .int .i64 l, .int .i64 g]] w (RetB (mayL n l g) w) := by
  have HM := Lib.hid (make_any n)
  by_cases h : okN n = true
  · have e1 : mkN n = n ∧ mkL n = logOf n ∧ mkG n = grpOf n ∧ mkE n = 0 := by simp [mkN, mkL, mkG, mkE, h]
    have HR : Hid (mayL n l g = decide (l = logOf n ∧ g = grpOf n)) := Lib.hid (by simp [mayL, h])
    obtain ⟨e1, e2, e3, e4⟩ := e1
    rw [e1, e2, e3, e4] at HM
    clear e1 e2 e3 e4 h
    go_enter Try.func12, Try.ntmps12
    go_wp2_with fail
    refine (HM.out _).mono ?_
    rintro e w1 ⟨rfl, g1⟩
    have G1 := Lib.hid (grow1 g1)
    have s1 := lt_of_new g1
    obtain ⟨⟨c0, c1, c2⟩, f0, f1, f2⟩ := ((Blk.new w 23 _).below g1 (by go_size)).c3
    clear g1 HM
    go_wp2_with fail
    all_goals
      go_ret
      exact ⟨ret_b (by rw [HR.out]; first | (exact (decide_eq_true (by omega)).symm) | (exact (decide_eq_false (by omega)).symm)), G1.out.alloc G1.out.size _⟩
  · have e1 : mkN n = 0 ∧ mkL n = 0 ∧ mkG n = 0 ∧ mkE n = 2 := by simp [mkN, mkL, mkG, mkE, h]
    have HR : Hid (mayL n l g = false) := Lib.hid (by simp [mayL, h])
    obtain ⟨e1, e2, e3, e4⟩ := e1
    rw [e1, e2, e3, e4] at HM
    clear e1 e2 e3 e4 h
    go_enter Try.func12, Try.ntmps12
    go_wp2_with fail
    refine (HM.out _).mono ?_
    rintro e w1 ⟨rfl, g1⟩
    have G1 := Lib.hid (grow1 g1)
    have s1 := lt_of_new g1
    clear g1 HM
    go_wp2_with fail
    go_ret
    exact ⟨ret_b HR.out.symm, G1.out.alloc G1.out.size _⟩

theorem refMake_no (n : Int) (w : World) (h : ¬ (64 ≤ n ∧ n ≤ 4096)) : Calls Try.prog 10 #[.int .i64 n] w (RetLyB 0 0 0 false w) := by
  have hg := (Gr.refl w).alloc (Nat.le_refl _) (.cells #[.int .i64 0, .int .i64 0, .int .i64 0] 23)
  by_cases h1 : n < 64
  all_goals
    go_enter Try.func10, Try.ntmps10
    go_wp2
    go_returns
    exact ⟨rfl, hg⟩

set_option maxRecDepth 100000 in
set_option maxHeartbeats 1000000 in
theorem refMake_yes (n : Int) (w : World) (h0 : 64 ≤ n) (h1 : n ≤ 4096) : Calls Try.prog 10 #[.int .i64 n] w (RetLyB n (logOf n) (grpOf n) true w) := by
  have hgb := grp_lo h0 h1
  have hl := log_lo h0 h1
  obtain ⟨A, hA⟩ : ∃ A, A = 3 + logOf n := ⟨_, rfl⟩
  obtain ⟨G, hG⟩ : ∃ G, G = grpOf n := ⟨_, rfl⟩
  rw [← hG, ← hA] at hgb
  rw [← hG]
  clear hG
  obtain ⟨g0, g1, g2, g3⟩ := hgb
  rcases (show n / 8 < 16 ∨ (16 ≤ n / 8 ∧ n / 8 ≤ 256) ∨ 256 < n / 8 by omega) with hc | ⟨hc, hc'⟩ | hc
  all_goals
    first
    | (have e : logOf n = 16 := by unfold logOf; omega
       rw [e] at hA; rw [e])
    | (have e : logOf n = n / 8 := by unfold logOf; omega
       rw [e] at hA; rw [e])
    | (have e : logOf n = 256 := by unfold logOf; omega
       rw [e] at hA; rw [e])
    have HA := Lib.hid hA
    have a0 : 0 ≤ A := by omega
    clear e hl hA
    go_enter Try.func10, Try.ntmps10
    go_wp2
    go_loop [5, 6] (fun g at' => ∃ k : Nat, (k : Int) ≤ G ∧ g = .int .i64 k ∧ at' = .int .i64 (A + 64 * k)) (fun g _ => 60 - (intOf g).toNat)
    case atStart => exact ⟨0, by omega, rfl, congrArg (Value.int .i64) (by have := HA.out; omega)⟩
    case round =>
      obtain ⟨k, hk, rfl, rfl⟩ := hrel
      by_cases hlt : 8 ≤ n - (A + 64 * k)
      · go_wp2
        go_round
        case rel => exact ⟨k + 1, by omega, by go_num, congrArg (Value.int .i64) (by push_cast; omega)⟩
        case measure => simp [intOf]; omega
      · have hkG : (k : Int) = G := by omega
        have HK := Lib.hid hkG
        clear hkG
        go_wp2
        refine bodyPost_ret (results_ly rfl _ _ w.heap.size _ _ ?_ rfl rfl (Blk.new _ _ _)) rfl ⟨?_, (Gr.refl w).alloc (Nat.le_refl _) _⟩
        · rfl
        · rw [HK.out]; rfl

theorem refMake_any (n : Int) (w : World) : Calls Try.prog 10 #[.int .i64 n] w (RetLyB (mkN n) (mkL n) (mkG n) (okN n) w) := by
  by_cases h : 64 ≤ n ∧ n ≤ 4096
  · have e : okN n = true := okN_iff.2 h
    simp only [mkN, mkL, mkG, e, if_true]
    exact refMake_yes n w h.1 h.2
  · have e : okN n = false := by simpa [okN] using h
    simp only [mkN, mkL, mkG, e, Bool.false_eq_true, if_false]
    exact refMake_no n w h

set_option maxRecDepth 100000 in
theorem refMayS_any (n l g : Int) (w : World) : Calls Try.prog 13 #[.agg #[.int .i64 n, .int .i64 l, .int .i64 g]] w (RetB (mayL n l g) w) := by
  have HM := Lib.hid (refMake_any n)
  by_cases h : okN n = true
  · have e1 : mkN n = n ∧ mkL n = logOf n ∧ mkG n = grpOf n := by simp [mkN, mkL, mkG, h]
    have HR : Hid (mayL n l g = decide (l = logOf n ∧ g = grpOf n)) := Lib.hid (by simp [mayL, h])
    obtain ⟨e1, e2, e3⟩ := e1
    have e4 : okN n = true := h
    rw [e1, e2, e3, e4] at HM
    clear e1 e2 e3 e4 h
    go_enter Try.func13, Try.ntmps13
    go_wp2_with fail
    refine (HM.out _).mono ?_
    rintro e w1 ⟨rfl, g1⟩
    have G1 := Lib.hid (grow1 g1)
    have s1 := lt_of_new g1
    obtain ⟨⟨c0, c1, c2⟩, f0, f1, f2⟩ := ((Blk.new w 23 _).below g1 (by go_size)).c3
    clear g1 HM
    go_wp2_with fail
    all_goals
      go_ret
      exact ⟨ret_b (by rw [HR.out]; first | (exact (decide_eq_true (by omega)).symm) | (exact (decide_eq_false (by omega)).symm)), G1.out.alloc G1.out.size _⟩
  · have e1 : mkN n = 0 ∧ mkL n = 0 ∧ mkG n = 0 := by simp [mkN, mkL, mkG, h]
    have HR : Hid (mayL n l g = false) := Lib.hid (by simp [mayL, h])
    obtain ⟨e1, e2, e3⟩ := e1
    have e4 : okN n = false := by simpa using h
    rw [e1, e2, e3, e4] at HM
    clear e1 e2 e3 e4 h
    go_enter Try.func13, Try.ntmps13
    go_wp2_with fail
    refine (HM.out _).mono ?_
    rintro e w1 ⟨rfl, g1⟩
    have G1 := Lib.hid (grow1 g1)
    have s1 := lt_of_new g1
    clear g1 HM
    go_wp2_with fail
    go_ret
    exact ⟨ret_b HR.out.symm, G1.out.alloc G1.out.size _⟩

end Go.Proofs.Ytanajjfcnedaiaa
