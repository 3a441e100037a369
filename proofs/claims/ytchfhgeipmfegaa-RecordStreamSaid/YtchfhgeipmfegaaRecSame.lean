
/-
  Are two records the same; may a record be; how many bytes it has.
-/
import Derived.Test.YtchfhgeipmfegaaRecNamed
namespace Go.Proofs.Ytchfhgeipmfegaa
open Go.RowKit Cr

theorem strEq {xs ys : List Int} (h : Wd.Small xs) (k : Wd.Small ys) : ((strOfNums xs).toList == (strOfNums ys).toList) = decide (xs = ys) := by
  rw [Bool.eq_iff_iff, beq_iff_eq, decide_eq_true_eq]
  exact strOfNums_inj h k

set_option maxRecDepth 100000 in
set_option maxHeartbeats 4000000 in
theorem sameRec_any (c d : Rc) (pb : Option Addr) (nb cb : Nat) (pa : Option Addr) (na ca : Nat) (pb' : Option Addr) (nb' cb' : Nat) (pa' : Option Addr) (na' ca' : Nat) (w : World) (hb : Byt w pb nb cb c.b) (ha : Byt w pa na ca c.a) (hb' : Byt w pb' nb' cb' d.b) (ha' : Byt w pa' na' ca' d.a) :
    Calls Try.prog 75 #[.agg #[.int .i64 c.k, .int .u64 c.t, .int .u64 c.p, .int .u64 c.x, .int .i64 c.g, .int .i64 c.o, .slice pb nb cb, .slice pa na ca], .agg #[.int .i64 d.k, .int .u64 d.t, .int .u64 d.p, .int .u64 d.x, .int .i64 d.g, .int .i64 d.o, .slice pb' nb' cb', .slice pa' na' ca']] w (RetB (sameR c d) w) := by
  obtain ⟨k, t, p, x, g, o, b, a⟩ := c
  obtain ⟨k', t', p', x', g', o', b', a'⟩ := d
  simp only at hb ha hb' ha'
  simp only
  have HG := Lib.hid (((Gr.refl w).alloc (Nat.le_refl _) (.cells #[.int .i64 k, .int .u64 t, .int .u64 p, .int .u64 x, .int .i64 g, .int .i64 o, .slice pb nb cb, .slice pa na ca] TR)).alloc (by simp) (.cells #[.int .i64 k', .int .u64 t', .int .u64 p', .int .u64 x', .int .i64 g', .int .i64 o', .slice pb' nb' cb', .slice pa' na' ca'] TR))
  have HB := Lib.hid (hb.kept HG.out)
  have HA := Lib.hid (ha.kept HG.out)
  have HB2 := Lib.hid (hb'.kept HG.out)
  have HA2 := Lib.hid (ha'.kept HG.out)
  clear hb ha hb' ha'
  by_cases ek : k = k'
  · subst ek
    by_cases et : t = t'
    · subst et
      by_cases ep : p = p'
      · subst ep
        by_cases ex : x = x'
        · subst ex
          by_cases eg : g = g'
          · subst eg
            by_cases eo : o = o'
            · subst eo
              have HR : Hid (sameR ⟨k, t, p, x, g, o, b, a⟩ ⟨k, t, p, x, g, o, b', a'⟩ = (decide (b = b') && decide (a = a'))) := Lib.hid (by simp [sameR])
              cases eb : decide (b = b')
              · rw [eb] at HR
                have EB := Lib.hid eb
                clear eb
                go_enter Try.func75, Try.ntmps75
                go_wp2_with fail
                refine (same_any _ _ _ _ _ _ _ _ _ HB.out HB2.out).mono ?_
                rintro e w1 ⟨rfl, rfl⟩
                rw [EB.out]
                go_wp2_with fail
                go_ret
                exact ⟨ret_b (by rw [HR.out]; rfl), HG.out⟩
              · rw [eb] at HR
                have EB := Lib.hid eb
                clear eb
                go_enter Try.func75, Try.ntmps75
                go_wp2_with fail
                refine (same_any _ _ _ _ _ _ _ _ _ HB.out HB2.out).mono ?_
                rintro e w1 ⟨rfl, rfl⟩
                rw [EB.out]
                go_wp2_with fail
                refine (same_any _ _ _ _ _ _ _ _ _ HA.out HA2.out).mono ?_
                rintro e w1 ⟨rfl, rfl⟩
                go_wp2_with fail
                go_ret
                exact ⟨ret_b (by rw [HR.out]; rfl), HG.out⟩
            · have HR : Hid (sameR ⟨k, t, p, x, g, o, b, a⟩ ⟨k, t, p, x, g, o', b', a'⟩ = false) := Lib.hid (by simp [sameR, eo])
              go_enter Try.func75, Try.ntmps75
              go_wp2_with fail
              go_ret
              exact ⟨ret_b HR.out.symm, HG.out⟩
          · have HR : Hid (sameR ⟨k, t, p, x, g, o, b, a⟩ ⟨k, t, p, x, g', o', b', a'⟩ = false) := Lib.hid (by simp [sameR, eg])
            go_enter Try.func75, Try.ntmps75
            go_wp2_with fail
            go_ret
            exact ⟨ret_b HR.out.symm, HG.out⟩
        · have HR : Hid (sameR ⟨k, t, p, x, g, o, b, a⟩ ⟨k, t, p, x', g', o', b', a'⟩ = false) := Lib.hid (by simp [sameR, ex])
          have ex2 : ¬ (x : Int) = x' := by omega
          go_enter Try.func75, Try.ntmps75
          go_wp2_with fail
          go_ret
          exact ⟨ret_b HR.out.symm, HG.out⟩
      · have HR : Hid (sameR ⟨k, t, p, x, g, o, b, a⟩ ⟨k, t, p', x', g', o', b', a'⟩ = false) := Lib.hid (by simp [sameR, ep])
        have ep2 : ¬ (p : Int) = p' := by omega
        go_enter Try.func75, Try.ntmps75
        go_wp2_with fail
        go_ret
        exact ⟨ret_b HR.out.symm, HG.out⟩
    · have HR : Hid (sameR ⟨k, t, p, x, g, o, b, a⟩ ⟨k, t', p', x', g', o', b', a'⟩ = false) := Lib.hid (by simp [sameR, et])
      have et2 : ¬ (t : Int) = t' := by omega
      go_enter Try.func75, Try.ntmps75
      go_wp2_with fail
      go_ret
      exact ⟨ret_b HR.out.symm, HG.out⟩
  · have HR : Hid (sameR ⟨k, t, p, x, g, o, b, a⟩ ⟨k', t', p', x', g', o', b', a'⟩ = false) := Lib.hid (by simp [sameR, ek])
    go_enter Try.func75, Try.ntmps75
    go_wp2_with fail
    go_ret
    exact ⟨ret_b HR.out.symm, HG.out⟩

set_option maxRecDepth 100000 in
set_option maxHeartbeats 4000000 in
theorem refSameRec_any (c d : Rc) (pb : Option Addr) (nb cb : Nat) (pa : Option Addr) (na ca : Nat) (pb' : Option Addr) (nb' cb' : Nat) (pa' : Option Addr) (na' ca' : Nat) (w : World) (hb : Byt w pb nb cb c.b) (ha : Byt w pa na ca c.a) (hb' : Byt w pb' nb' cb' d.b) (ha' : Byt w pa' na' ca' d.a) :
    Calls Try.prog 22 #[.agg #[.int .i64 c.k, .int .u64 c.t, .int .u64 c.p, .int .u64 c.x, .int .i64 c.g, .int .i64 c.o, .slice pb nb cb, .slice pa na ca], .agg #[.int .i64 d.k, .int .u64 d.t, .int .u64 d.p, .int .u64 d.x, .int .i64 d.g, .int .i64 d.o, .slice pb' nb' cb', .slice pa' na' ca']] w (RetB (sameR c d) w) := by
  obtain ⟨k, t, p, x, g, o, b, a⟩ := c
  obtain ⟨k', t', p', x', g', o', b', a'⟩ := d
  simp only at hb ha hb' ha'
  simp only
  have HG := Lib.hid (((Gr.refl w).alloc (Nat.le_refl _) (.cells #[.int .i64 k, .int .u64 t, .int .u64 p, .int .u64 x, .int .i64 g, .int .i64 o, .slice pb nb cb, .slice pa na ca] TR)).alloc (by simp) (.cells #[.int .i64 k', .int .u64 t', .int .u64 p', .int .u64 x', .int .i64 g', .int .i64 o', .slice pb' nb' cb', .slice pa' na' ca'] TR))
  have HB := Lib.hid (hb.kept HG.out)
  have HA := Lib.hid (ha.kept HG.out)
  have HB2 := Lib.hid (hb'.kept HG.out)
  have HA2 := Lib.hid (ha'.kept HG.out)
  clear hb ha hb' ha'
  by_cases ek : k = k'
  · subst ek
    by_cases et : t = t'
    · subst et
      by_cases ep : p = p'
      · subst ep
        by_cases ex : x = x'
        · subst ex
          by_cases eg : g = g'
          · subst eg
            by_cases eo : o = o'
            · subst eo
              have HR : Hid (sameR ⟨k, t, p, x, g, o, b, a⟩ ⟨k, t, p, x, g, o, b', a'⟩ = (decide (b = b') && decide (a = a'))) := Lib.hid (by simp [sameR])
              have u1 := HB.out.lies.convert HB.out.len cb 22 5 9 Try.underlying22 Try.underlying5 Try.underlying9
              have u2 := HB2.out.lies.convert HB2.out.len cb' 22 5 9 Try.underlying22 Try.underlying5 Try.underlying9
              have u3 := HA.out.lies.convert HA.out.len ca 22 5 9 Try.underlying22 Try.underlying5 Try.underlying9
              have u4 := HA2.out.lies.convert HA2.out.len ca' 22 5 9 Try.underlying22 Try.underlying5 Try.underlying9
              have q1 := strEq HB.out.small HB2.out.small
              have q2 := strEq HA.out.small HA2.out.small
              obtain ⟨r1, hr1⟩ : ∃ r, r = strOfNums b := ⟨_, rfl⟩
              rw [← hr1] at u1 q1
              obtain ⟨r2, hr2⟩ : ∃ r, r = strOfNums b' := ⟨_, rfl⟩
              rw [← hr2] at u2 q1
              obtain ⟨r3, hr3⟩ : ∃ r, r = strOfNums a := ⟨_, rfl⟩
              rw [← hr3] at u3 q2
              obtain ⟨r4, hr4⟩ : ∃ r, r = strOfNums a' := ⟨_, rfl⟩
              rw [← hr4] at u4 q2
              clear hr1 hr2 hr3 hr4
              cases eb : decide (b = b')
              · rw [eb] at HR q1
                have EB := Lib.hid eb
                clear eb
                go_enter Try.func22, Try.ntmps22
                go_wp2_with fail
                go_ret
                exact ⟨ret_b (by rw [HR.out]; rfl), HG.out⟩
              · rw [eb] at HR q1
                have EB := Lib.hid eb
                clear eb
                go_enter Try.func22, Try.ntmps22
                go_wp2_with fail
                go_ret
                exact ⟨ret_b (by rw [HR.out]; rfl), HG.out⟩
            · have HR : Hid (sameR ⟨k, t, p, x, g, o, b, a⟩ ⟨k, t, p, x, g, o', b', a'⟩ = false) := Lib.hid (by simp [sameR, eo])
              go_enter Try.func22, Try.ntmps22
              go_wp2_with fail
              go_ret
              exact ⟨ret_b HR.out.symm, HG.out⟩
          · have HR : Hid (sameR ⟨k, t, p, x, g, o, b, a⟩ ⟨k, t, p, x, g', o', b', a'⟩ = false) := Lib.hid (by simp [sameR, eg])
            go_enter Try.func22, Try.ntmps22
            go_wp2_with fail
            go_ret
            exact ⟨ret_b HR.out.symm, HG.out⟩
        · have HR : Hid (sameR ⟨k, t, p, x, g, o, b, a⟩ ⟨k, t, p, x', g', o', b', a'⟩ = false) := Lib.hid (by simp [sameR, ex])
          have ex2 : ¬ (x : Int) = x' := by omega
          go_enter Try.func22, Try.ntmps22
          go_wp2_with fail
          go_ret
          exact ⟨ret_b HR.out.symm, HG.out⟩
      · have HR : Hid (sameR ⟨k, t, p, x, g, o, b, a⟩ ⟨k, t, p', x', g', o', b', a'⟩ = false) := Lib.hid (by simp [sameR, ep])
        have ep2 : ¬ (p : Int) = p' := by omega
        go_enter Try.func22, Try.ntmps22
        go_wp2_with fail
        go_ret
        exact ⟨ret_b HR.out.symm, HG.out⟩
    · have HR : Hid (sameR ⟨k, t, p, x, g, o, b, a⟩ ⟨k, t', p', x', g', o', b', a'⟩ = false) := Lib.hid (by simp [sameR, et])
      have et2 : ¬ (t : Int) = t' := by omega
      go_enter Try.func22, Try.ntmps22
      go_wp2_with fail
      go_ret
      exact ⟨ret_b HR.out.symm, HG.out⟩
  · have HR : Hid (sameR ⟨k, t, p, x, g, o, b, a⟩ ⟨k', t', p', x', g', o', b', a'⟩ = false) := Lib.hid (by simp [sameR, ek])
    go_enter Try.func22, Try.ntmps22
    go_wp2_with fail
    go_ret
    exact ⟨ret_b HR.out.symm, HG.out⟩

end Go.Proofs.Ytchfhgeipmfegaa
