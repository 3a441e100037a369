
/-
  Where groups, inodes, blocks and the log's sectors lie: the program's answers.
-/
import Derived.Test.YtanajjfcnedaiaaLy
import Derived.BigQuiet
import Derived.Deep.DeepCutAuto
namespace Go.Proofs.Ytanajjfcnedaiaa
open Go.RowKit

abbrev TY : TypeId := 23
abbrev TF : TypeId := 69

/-- What is told of a number: it is there, and then a and b; or it isn't. -/
def RetT (a b : Int) (ok : Bool) (w : World) (e : Ending) (w' : World) : Prop := ∃ x y, e = .returned (.tuple #[.int .i64 x, .int .i64 y, .bool ok]) ∧ (ok = true → x = a ∧ y = b) ∧ Gr w w'

/-- a, where it may be. -/
def only (b : Bool) (a : Int) : Int := if b then a else 0
def err (b : Bool) : Int := if b then 0 else 2

theorem may_in {n l g : Int} (h : mayL n l g = true) : 64 ≤ n ∧ n ≤ 4096 ∧ 16 ≤ l ∧ l ≤ 256 ∧ 1 ≤ g ∧ g ≤ 60 ∧ 3 + l + 64 * g ≤ n + 56 ∧ n < 3 + l + 64 * g + 8 := by
  simp only [mayL, okN, Bool.and_eq_true, decide_eq_true_eq] at h
  obtain ⟨⟨h0, h1⟩, rfl, rfl⟩ := h
  have := log_lo h0 h1
  have := grp_lo h0 h1
  omega

set_option maxRecDepth 100000 in
theorem asking_group (n l g i x y : Int) (ok : Bool) (b c d : Nat) (w : World) (hb : Blk w b TY #[.int .i64 n, .int .i64 l, .int .i64 g]) (hc : Blk w c TF #[.func (.func 38) #[] #[.pointer (some ⟨d, 0, none⟩)]])
    (hF : mayL n l g = true → ∀ W, Gr w W → Calls Try.prog 38 #[.int .i64 i, .pointer (some ⟨d, 0, none⟩)] W (RetT x y ok W)) :
    Calls Try.prog 47 #[.int .i64 i, .pointer (some ⟨b, 0, none⟩), .pointer (some ⟨c, 0, none⟩)] w (Ret3 (only (mayL n l g && ok) x) (only (mayL n l g && ok) y) (err (mayL n l g && ok)) w) := by
  obtain ⟨⟨c0, c1, c2⟩, f0, f1, f2⟩ := hb.c3
  have HC := Lib.hid hc
  have HM := Lib.hid (mayS_any n l g)
  clear hb hc
  by_cases hm : mayL n l g = true
  · have HF := Lib.hid (hF hm)
    rw [hm] at HM
    rw [hm]
    clear hF hm
    go_enter Try.func47, Try.ntmps47
    go_wp2_with fail
    refine (HM.out _).mono ?_
    rintro e w1 ⟨rfl, g1⟩
    have q := (HC.out.below g1 HC.out.lt).cell 0
    have G1 := Lib.hid g1
    clear g1 HM
    go_wp2_with fail
    refine (HF.out _ G1.out).mono ?_
    rintro e w2 ⟨x', y', rfl, hx, g2⟩
    have HX := Lib.hid hx
    have G2 := Lib.hid (Gr.trans G1.out g2)
    clear g2 hx q
    cases ok
    · go_wp2
      go_returns
      exact ⟨rfl, G2.out⟩
    · go_wp2
      go_returns
      obtain ⟨rfl, rfl⟩ := HX.out (by simp)
      exact ⟨rfl, G2.out⟩
  · have hm : mayL n l g = false := by simpa using hm
    rw [hm] at HM
    rw [hm]
    clear hF hm
    go_enter Try.func47, Try.ntmps47
    go_wp2_with fail
    refine (HM.out _).mono ?_
    rintro e w1 ⟨rfl, g1⟩
    have G1 := Lib.hid g1
    clear g1 HM
    go_wp2
    go_returns
    exact ⟨rfl, G1.out⟩

set_option maxRecDepth 100000 in
theorem asking_inode (n l g i x y : Int) (ok : Bool) (b c d : Nat) (w : World) (hb : Blk w b TY #[.int .i64 n, .int .i64 l, .int .i64 g]) (hc : Blk w c TF #[.func (.func 39) #[] #[.pointer (some ⟨d, 0, none⟩)]])
    (hF : mayL n l g = true → ∀ W, Gr w W → Calls Try.prog 39 #[.int .i64 i, .pointer (some ⟨d, 0, none⟩)] W (RetT x y ok W)) :
    Calls Try.prog 47 #[.int .i64 i, .pointer (some ⟨b, 0, none⟩), .pointer (some ⟨c, 0, none⟩)] w (Ret3 (only (mayL n l g && ok) x) (only (mayL n l g && ok) y) (err (mayL n l g && ok)) w) := by
  obtain ⟨⟨c0, c1, c2⟩, f0, f1, f2⟩ := hb.c3
  have HC := Lib.hid hc
  have HM := Lib.hid (mayS_any n l g)
  clear hb hc
  by_cases hm : mayL n l g = true
  · have HF := Lib.hid (hF hm)
    rw [hm] at HM
    rw [hm]
    clear hF hm
    go_enter Try.func47, Try.ntmps47
    go_wp2_with fail
    refine (HM.out _).mono ?_
    rintro e w1 ⟨rfl, g1⟩
    have q := (HC.out.below g1 HC.out.lt).cell 0
    have G1 := Lib.hid g1
    clear g1 HM
    go_wp2_with fail
    refine (HF.out _ G1.out).mono ?_
    rintro e w2 ⟨x', y', rfl, hx, g2⟩
    have HX := Lib.hid hx
    have G2 := Lib.hid (Gr.trans G1.out g2)
    clear g2 hx q
    cases ok
    · go_wp2
      go_returns
      exact ⟨rfl, G2.out⟩
    · go_wp2
      go_returns
      obtain ⟨rfl, rfl⟩ := HX.out (by simp)
      exact ⟨rfl, G2.out⟩
  · have hm : mayL n l g = false := by simpa using hm
    rw [hm] at HM
    rw [hm]
    clear hF hm
    go_enter Try.func47, Try.ntmps47
    go_wp2_with fail
    refine (HM.out _).mono ?_
    rintro e w1 ⟨rfl, g1⟩
    have G1 := Lib.hid g1
    clear g1 HM
    go_wp2
    go_returns
    exact ⟨rfl, G1.out⟩

set_option maxRecDepth 100000 in
theorem asking_block (n l g i x y : Int) (ok : Bool) (b c d : Nat) (w : World) (hb : Blk w b TY #[.int .i64 n, .int .i64 l, .int .i64 g]) (hc : Blk w c TF #[.func (.func 40) #[] #[.pointer (some ⟨d, 0, none⟩)]])
    (hF : mayL n l g = true → ∀ W, Gr w W → Calls Try.prog 40 #[.int .i64 i, .pointer (some ⟨d, 0, none⟩)] W (RetT x y ok W)) :
    Calls Try.prog 47 #[.int .i64 i, .pointer (some ⟨b, 0, none⟩), .pointer (some ⟨c, 0, none⟩)] w (Ret3 (only (mayL n l g && ok) x) (only (mayL n l g && ok) y) (err (mayL n l g && ok)) w) := by
  obtain ⟨⟨c0, c1, c2⟩, f0, f1, f2⟩ := hb.c3
  have HC := Lib.hid hc
  have HM := Lib.hid (mayS_any n l g)
  clear hb hc
  by_cases hm : mayL n l g = true
  · have HF := Lib.hid (hF hm)
    rw [hm] at HM
    rw [hm]
    clear hF hm
    go_enter Try.func47, Try.ntmps47
    go_wp2_with fail
    refine (HM.out _).mono ?_
    rintro e w1 ⟨rfl, g1⟩
    have q := (HC.out.below g1 HC.out.lt).cell 0
    have G1 := Lib.hid g1
    clear g1 HM
    go_wp2_with fail
    refine (HF.out _ G1.out).mono ?_
    rintro e w2 ⟨x', y', rfl, hx, g2⟩
    have HX := Lib.hid hx
    have G2 := Lib.hid (Gr.trans G1.out g2)
    clear g2 hx q
    cases ok
    · go_wp2
      go_returns
      exact ⟨rfl, G2.out⟩
    · go_wp2
      go_returns
      obtain ⟨rfl, rfl⟩ := HX.out (by simp)
      exact ⟨rfl, G2.out⟩
  · have hm : mayL n l g = false := by simpa using hm
    rw [hm] at HM
    rw [hm]
    clear hF hm
    go_enter Try.func47, Try.ntmps47
    go_wp2_with fail
    refine (HM.out _).mono ?_
    rintro e w1 ⟨rfl, g1⟩
    have G1 := Lib.hid g1
    clear g1 HM
    go_wp2
    go_returns
    exact ⟨rfl, G1.out⟩

set_option maxRecDepth 100000 in
theorem asking_log (n l g i x y : Int) (ok : Bool) (b c d : Nat) (w : World) (hb : Blk w b TY #[.int .i64 n, .int .i64 l, .int .i64 g]) (hc : Blk w c TF #[.func (.func 41) #[] #[.pointer (some ⟨d, 0, none⟩)]])
    (hF : mayL n l g = true → ∀ W, Gr w W → Calls Try.prog 41 #[.int .i64 i, .pointer (some ⟨d, 0, none⟩)] W (RetT x y ok W)) :
    Calls Try.prog 47 #[.int .i64 i, .pointer (some ⟨b, 0, none⟩), .pointer (some ⟨c, 0, none⟩)] w (Ret3 (only (mayL n l g && ok) x) (only (mayL n l g && ok) y) (err (mayL n l g && ok)) w) := by
  obtain ⟨⟨c0, c1, c2⟩, f0, f1, f2⟩ := hb.c3
  have HC := Lib.hid hc
  have HM := Lib.hid (mayS_any n l g)
  clear hb hc
  by_cases hm : mayL n l g = true
  · have HF := Lib.hid (hF hm)
    rw [hm] at HM
    rw [hm]
    clear hF hm
    go_enter Try.func47, Try.ntmps47
    go_wp2_with fail
    refine (HM.out _).mono ?_
    rintro e w1 ⟨rfl, g1⟩
    have q := (HC.out.below g1 HC.out.lt).cell 0
    have G1 := Lib.hid g1
    clear g1 HM
    go_wp2_with fail
    refine (HF.out _ G1.out).mono ?_
    rintro e w2 ⟨x', y', rfl, hx, g2⟩
    have HX := Lib.hid hx
    have G2 := Lib.hid (Gr.trans G1.out g2)
    clear g2 hx q
    cases ok
    · go_wp2
      go_returns
      exact ⟨rfl, G2.out⟩
    · go_wp2
      go_returns
      obtain ⟨rfl, rfl⟩ := HX.out (by simp)
      exact ⟨rfl, G2.out⟩
  · have hm : mayL n l g = false := by simpa using hm
    rw [hm] at HM
    rw [hm]
    clear hF hm
    go_enter Try.func47, Try.ntmps47
    go_wp2_with fail
    refine (HM.out _).mono ?_
    rintro e w1 ⟨rfl, g1⟩
    have G1 := Lib.hid g1
    clear g1 HM
    go_wp2
    go_returns
    exact ⟨rfl, G1.out⟩

theorem gr_drewN {w w' : World} (h : Gr w w') (n : Nat) : Gr w (w'.drewN n) := below_drewN h n

set_option maxRecDepth 100000 in
theorem group1_any (n l g i : Int) (d : Nat) (w : World) (hb : Blk w d TY #[.int .i64 n, .int .i64 l, .int .i64 g]) (hm : mayL n l g = true) :
    Calls Try.prog 38 #[.int .i64 i, .pointer (some ⟨d, 0, none⟩)] w (RetT (3 + l + 64 * i) (min 64 (n - (3 + l + 64 * i))) (decide (0 ≤ i) && decide (i < g)) w) := by
  have HB := Lib.hid hb
  obtain ⟨⟨c0, c1, c2⟩, f0, f1, f2⟩ := hb.c3
  have HI := Lib.hid (may_in hm)
  have HS := Lib.hid (fun h0 h1 => startW_in (l := l) (g := i) (by have := may_in hm; omega) (by have := may_in hm; omega) h0 h1)
  clear hb hm
  go_enter Try.func38, Try.ntmps38
  go_wp2_with fail
  refine (start_any _ _ _ _ _).mono ?_
  rintro e w1 ⟨rfl, g1⟩
  obtain ⟨⟨d0, d1, d2⟩, _⟩ := (HB.out.below g1 HB.out.lt).c3
  have G1 := Lib.hid g1
  clear g1 c0 c1 c2 f0 f1 f2
  obtain ⟨s, hs⟩ : ∃ s, s = startW l i := ⟨_, rfl⟩
  rw [← hs] at HS ⊢
  clear hs
  by_cases h0 : 0 ≤ i
  · have hd : decide (0 ≤ i) = true := by simpa using h0
    have hj : Hid ((decide (0 ≤ i) && decide (i < g)) = decide (i < g)) := Lib.hid (by rw [hd]; rfl)
    go_wp2_with fail
    go_quiet (fail)
    go_wp2
    go_returns
    rw [hj.out]
    refine ⟨_, _, rfl, fun h => ?_, gr_drewN G1.out _⟩
    have h1 : i < g := by simpa using h
    have := HI.out
    have := HS.out h0 (by omega)
    subst this
    exact ⟨by omega, by unfold wrap64; omega⟩
  · have hd : decide (0 ≤ i) = false := by simpa using h0
    have hj : Hid ((decide (0 ≤ i) && decide (i < g)) = false) := Lib.hid (by rw [hd]; rfl)
    go_wp2_with fail
    go_quiet (fail)
    go_wp2
    go_returns
    rw [hj.out]
    exact ⟨_, _, rfl, fun h => (by cases h), gr_drewN G1.out _⟩

set_option maxRecDepth 100000 in
theorem log1_any (n l g i : Int) (d : Nat) (w : World) (hb : Blk w d TY #[.int .i64 n, .int .i64 l, .int .i64 g]) (hm : mayL n l g = true) :
    Calls Try.prog 41 #[.int .i64 i, .pointer (some ⟨d, 0, none⟩)] w (RetT (3 + i) 0 (decide (0 ≤ i) && decide (i < l)) w) := by
  obtain ⟨⟨c0, c1, c2⟩, f0, f1, f2⟩ := hb.c3
  have HI := Lib.hid (may_in hm)
  clear hb hm
  by_cases h0 : 0 ≤ i
  · have hd : decide (0 ≤ i) = true := by simpa using h0
    have hj : Hid ((decide (0 ≤ i) && decide (i < l)) = decide (i < l)) := Lib.hid (by rw [hd]; rfl)
    go_enter Try.func41, Try.ntmps41
    go_wp2_with fail
    go_quiet (fail)
    go_wp2
    go_returns
    rw [hj.out]
    refine ⟨_, _, rfl, fun h => ?_, gr_drewN (Gr.refl _) _⟩
    have h1 : i < l := by simpa using h
    have := HI.out
    exact ⟨by unfold wrap64; omega, rfl⟩
  · have hd : decide (0 ≤ i) = false := by simpa using h0
    have hj : Hid ((decide (0 ≤ i) && decide (i < l)) = false) := Lib.hid (by rw [hd]; rfl)
    go_enter Try.func41, Try.ntmps41
    go_wp2_with fail
    go_quiet (fail)
    go_wp2
    go_returns
    rw [hj.out]
    exact ⟨_, _, rfl, fun h => (by cases h), gr_drewN (Gr.refl _) _⟩

set_option maxRecDepth 100000 in
theorem inodes_any (n l g : Int) (w : World) : Calls Try.prog 30 #[.agg #[.int .i64 n, .int .i64 l, .int .i64 g]] w (RetI (only (mayL n l g) (g * 16)) w) := by
  have HM := Lib.hid (mayS_any n l g)
  by_cases hm : mayL n l g = true
  · have HI := Lib.hid (may_in hm)
    rw [hm] at HM
    rw [hm]
    clear hm
    go_enter Try.func30, Try.ntmps30
    go_wp2_with fail
    refine (HM.out _).mono ?_
    rintro e w1 ⟨rfl, g1⟩
    have G1 := Lib.hid (grow1 g1)
    obtain ⟨⟨c0, c1, c2⟩, f0, f1, f2⟩ := ((Blk.new w 23 _).below g1 (by go_size)).c3
    clear g1 HM
    go_wp2_with fail
    go_ret
    exact ⟨ret_i (by have := HI.out; show _ = g * 16; first | rfl | omega | (unfold wrap64; omega)), G1.out⟩
  · have hm : mayL n l g = false := by simpa using hm
    rw [hm] at HM
    rw [hm]
    clear hm
    go_enter Try.func30, Try.ntmps30
    go_wp2_with fail
    refine (HM.out _).mono ?_
    rintro e w1 ⟨rfl, g1⟩
    have G1 := Lib.hid (grow1 g1)
    clear g1 HM
    go_wp2_with fail
    go_ret
    exact ⟨rfl, G1.out⟩

end Go.Proofs.Ytanajjfcnedaiaa
