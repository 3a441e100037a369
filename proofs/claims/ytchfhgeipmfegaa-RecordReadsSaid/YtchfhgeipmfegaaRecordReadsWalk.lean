
/-
  The law RecordReads, walked.
-/
import Derived.Test.YtchfhgeipmfegaaRecOfO
import Derived.Test.YtchfhgeipmfegaaRecRefOf
import Derived.Test.YtchfhgeipmfegaaRecKnown
namespace Go.Proofs.Ytchfhgeipmfegaa
open Go.RowKit Cr

/-- What lies there while After is written over. -/
structure ReAt (w : World) (R0 : Nat) (C : Array Value) (pa : Option Addr) (na ca : Nat) (W : World) : Prop where
  gr : Gr w W
  b : Blk W R0 TR C
  o : ∃ ys, OwnB W w.heap.size 5 (.slice pa na ca) ys
  lt : ∀ y, pa = some y → y.block < R0
theorem ReAt.up {w : World} {R0 : Nat} {C : Array Value} {pa : Option Addr} {na ca : Nat} {W W' : World} (h : ReAt w R0 C pa na ca W) (g : Gr W W') : ReAt w R0 C pa na ca W' :=
  ⟨Gr.trans h.gr g, h.b.below g h.b.lt, by obtain ⟨ys, hy⟩ := h.o; exact ⟨ys, hy.below' g⟩, h.lt⟩
theorem ReAt.opened {w : World} {R0 : Nat} {C : Array Value} {pa : Option Addr} {na ca : Nat} {W : World} (h : ReAt w R0 C pa na ca W) (k : Nat) (hk : k < na) : ∃ g, pa = some ⟨g, 0, none⟩ ∧ (∃ x, W.cell? ⟨g, k, none⟩ = some (.int .u8 x)) ∧ W.frozen? ⟨g, k, none⟩ = false ∧ ReAt w R0 C pa na ca (W.setCell ⟨g, k, none⟩ (.int .u8 9)) := by
  obtain ⟨ys, hy⟩ := h.o
  obtain ⟨g, e, h0, h1, hc⟩ := hy.opened (by omega)
  subst e
  have hlt := h.lt _ rfl
  refine ⟨g, rfl, ⟨_, (hc k hk).1⟩, (hc k hk).2, h.gr.setCell (p := ⟨g, k, none⟩) h0 _, h.b.far (by show R0 ≠ g; simp at hlt; omega) _, ⟨_, hy.set k 9 (by omega)⟩, h.lt⟩

set_option maxRecDepth 100000 in
set_option maxHeartbeats 4000000 in
theorem recordReads_walk (p : Option Addr) (n c : Nat) (xs : List Int) (at' : Nat) (w : World) (hb : Byt w p n c xs) (hat : at' ≤ 18446744073709551615) :
    Calls Try.prog 4 #[.slice p n c, .int .u64 at'] w (RetB true w) := by
  have HK := Lib.hid known_any
  have HOF : Hid (∀ W, Gr w W → Calls Try.prog 20 #[.slice p n c, .int .u64 at'] W (RetOfO (ofR xs at') (ofN xs at') (.int .i64 (ofE xs at')) W)) := Lib.hid fun W gr => of_own p n c xs at' W (hb.kept gr) hat
  have HRO : Hid (∀ W, Gr w W → Calls Try.prog 21 #[.slice p n c, .int .u64 at'] W (RetRef (ofR xs at') (ofN xs at') (.bool (ofB xs at')) (fun U => Byt U p n c xs) W)) := Lib.hid fun W gr => refOf_any p n c xs at' W (hb.kept gr) hat
  have HE0 : Hid (ofB xs at' = true → ofE xs at' = 0) := Lib.hid fun h => by simp [ofE, h]
  have HE1 : Hid (ofB xs at' = false → ofE xs at' = 4) := Lib.hid fun h => by simp [ofE, h]
  obtain ⟨R, hR⟩ : ∃ R, R = ofR xs at' := ⟨_, rfl⟩
  obtain ⟨N, hN⟩ : ∃ N, N = ofN xs at' := ⟨_, rfl⟩
  obtain ⟨B, hB⟩ : ∃ B, B = ofB xs at' := ⟨_, rfl⟩
  obtain ⟨E, hE⟩ : ∃ E, E = ofE xs at' := ⟨_, rfl⟩
  rw [← hR, ← hN] at HOF HRO
  rw [← hB] at HRO HE0 HE1
  rw [← hE] at HOF HE0 HE1
  clear hR hN hB hE
  have HSM : Hid (∀ W p1 n1 c1 p2 n2 c2 q1 m1 d1 q2 m2 d2, Byt W p1 n1 c1 R.b → Byt W p2 n2 c2 R.a → Byt W q1 m1 d1 R.b → Byt W q2 m2 d2 R.a → Calls Try.prog 22 #[.agg #[.int .i64 R.k, .int .u64 R.t, .int .u64 R.p, .int .u64 R.x, .int .i64 R.g, .int .i64 R.o, .slice p1 n1 c1, .slice p2 n2 c2], .agg #[.int .i64 R.k, .int .u64 R.t, .int .u64 R.p, .int .u64 R.x, .int .i64 R.g, .int .i64 R.o, .slice q1 m1 d1, .slice q2 m2 d2]] W (RetB true W)) := Lib.hid fun W p1 n1 c1 p2 n2 c2 q1 m1 d1 q2 m2 d2 h1 h2 h3 h4 => by
    have h := refSameRec_any R R p1 n1 c1 p2 n2 c2 q1 m1 d1 q2 m2 d2 W h1 h2 h3 h4
    rw [sameR_self] at h
    exact h
  obtain ⟨k, t, pp, x, g, o, b, a⟩ := R
  simp only at HSM
  have n63 : (n : Int) ≤ 9223372036854775807 := by have h1 := hb.most; have h2 := hb.cap; unfold maxLen at h1; omega
  have HBY := Lib.hid hb
  obtain ⟨ST, hST⟩ : ∃ ST, ST = strOfNums xs := ⟨_, rfl⟩
  have HST := Lib.hid hST
  have hcv := hb.lies.convert hb.len c 22 5 9 Try.underlying22 Try.underlying5 Try.underlying9
  rw [← hST] at hcv
  clear hb hat hST
  by_cases h3000 : 3000 < n
  · have h3000' : (3000 : Int) < n := by omega
    go_enter Try.func4, Try.ntmps4
    go_wp2_with fail
    refine (HK.out _).mono ?_
    rintro e w1 ⟨rfl, g1⟩
    go_wp2_with fail
    go_ret
    exact ⟨rfl, g1⟩
  · have h3000' : ¬ (3000 : Int) < n := by omega
    have HOF1 := Lib.hid (HOF.out w (Gr.refl w))
    clear HOF
    go_enter Try.func4, Try.ntmps4
    go_wp2_with fail
    refine HOF1.out.mono ?_
    rintro e w3 ⟨pb, nb, cb, pa, na, ca, rfl, ho1, ho, g3⟩
    have y1 := ho1.byt.1
    clear ho1
    have hy2 := ho.byt.1
    have na63 : (na : Int) ≤ 9223372036854775807 := by have h1 := hy2.most; have h2 := hy2.cap; unfold maxLen at h1; omega
    have gn := (Gr.refl w3).alloc (Nat.le_refl _) (.cells #[.int .i64 k, .int .u64 t, .int .u64 pp, .int .u64 x, .int .i64 g, .int .i64 o, .slice pb nb cb, .slice pa na ca] TR)
    have HA3 : Hid (ReAt w w3.heap.size #[.int .i64 k, .int .u64 t, .int .u64 pp, .int .u64 x, .int .i64 g, .int .i64 o, .slice pb nb cb, .slice pa na ca] pa na ca (w3.alloc (.cells #[.int .i64 k, .int .u64 t, .int .u64 pp, .int .u64 x, .int .i64 g, .int .i64 o, .slice pb nb cb, .slice pa na ca] TR))) := Lib.hid ⟨Gr.trans g3 gn, Blk.new w3 TR _, ⟨_, ho.below' gn⟩, fun y hy => by
      subst hy
      have h := ho.row.2
      rcases h with ⟨h0, _⟩ | ⟨b', cap', cur', h0, _, hg, _⟩
      · cases h0
      · have hlt : b' < w3.heap.size := (Array.getElem?_eq_some_iff.1 hg).1
        cases h0
        exact hlt⟩
    have HY1 := Lib.hid (y1.kept gn)
    have HY2 := Lib.hid (hy2.kept gn)
    have HG3 := Lib.hid (Gr.trans g3 gn)
    dsimp only at y1 ho hy2 HY1 HY2
    clear gn y1 ho g3 hy2 HOF1 hcv
    have HRO1 := Lib.hid (HRO.out _ HG3.out)
    clear HRO HG3
    go_wp2_with fail
    obtain ⟨R0, hR0⟩ : ∃ R0, R0 = w3.heap.size := ⟨_, rfl⟩
    rw [← hR0] at HA3 ⊢
    clear hR0
    generalize w3.alloc (.cells #[.int .i64 k, .int .u64 t, .int .u64 pp, .int .u64 x, .int .i64 g, .int .i64 o, .slice pb nb cb, .slice pa na ca] TR) = W3 at HA3 HY1 HY2 HRO1 ⊢
    refine HRO1.out.mono ?_
    rintro e w4 ⟨qb, mb, db, qa, ma, da, rfl, z1, z2, g4, _⟩
    have gn := Gr.trans g4 ((Gr.refl w4).alloc (Nat.le_refl _) (.cells #[.int .i64 k, .int .u64 t, .int .u64 pp, .int .u64 x, .int .i64 g, .int .i64 o, .slice qb mb db, .slice qa ma da] TR))
    have gz := ((Gr.refl w4).alloc (Nat.le_refl _) (.cells #[.int .i64 k, .int .u64 t, .int .u64 pp, .int .u64 x, .int .i64 g, .int .i64 o, .slice qb mb db, .slice qa ma da] TR))
    have HA4 := Lib.hid (HA3.out.up gn)
    have HSM1 := Lib.hid (HSM.out _ _ _ _ _ _ _ _ _ _ _ _ _ (HY1.out.kept gn) (HY2.out.kept gn) (z1.kept gz) (z2.kept gz))
    have HX4 := Lib.hid (Blk.new w4 TR #[.int .i64 k, .int .u64 t, .int .u64 pp, .int .u64 x, .int .i64 g, .int .i64 o, .slice qb mb db, .slice qa ma da])
    clear g4 gn gz z1 z2 HA3 HY1 HY2 HRO1 HSM
    obtain ⟨c0, c1, c2, c3, c4, c5, c6, c7⟩ := HA4.out.b.c8
    obtain ⟨d0, d1, d2, d3, d4, d5, d6, d7⟩ := HX4.out.c8
    have HT : Hid ((decide (E = 0) = B) ∧ (B = false → E = 4)) := Lib.hid ⟨by cases B
                                                                              · simp [HE1.out rfl]
                                                                              · simp [HE0.out rfl], HE1.out⟩
    clear HE0 HE1
    cases B
    case false =>
      obtain rfl := HT.out.2 rfl
      clear HT
      go_wp2_with (refine (num_any _ _).mono ?_; rintro e w' ⟨rfl, rfl⟩)
      refine HSM1.out.mono ?_
      rintro e w5 ⟨rfl, g5⟩
      have HA5 := Lib.hid (HA4.out.up g5)
      clear g5 HA4 HX4 HSM1 c0 c1 c2 c3 c4 c5 c6 c7 d0 d1 d2 d3 d4 d5 d6 d7
      go_wp2_with (refine (num_any _ _).mono ?_; rintro e w' ⟨rfl, rfl⟩)
      go_loopw [12] (fun i wr => ∃ j : Nat, j ≤ na ∧ i = .int .i64 j ∧ Hid (ReAt w R0 #[.int .i64 k, .int .u64 t, .int .u64 pp, .int .u64 x, .int .i64 g, .int .i64 o, .slice pb nb cb, .slice pa na ca] pa na ca wr)) (fun i _ => na - (intOf i).toNat)
      case atStart => exact ⟨0, Nat.zero_le _, rfl, HA5⟩
      case round =>
        obtain ⟨j, hj, rfl, ha⟩ := hrel
        obtain ⟨c0, c1, c2, c3, c4, c5, c6, c7⟩ := ha.out.b.c8
        by_cases hlt : j < na
        · obtain ⟨gb, rfl, ⟨xv, hx⟩, hf, hn⟩ := ha.out.opened j hlt
          have HN := Lib.hid hn
          clear hn
          go_wp2
          go_roundw
          case rel => exact ⟨j + 1, by omega, by go_num, HN⟩
          case measure => simp [intOf]; omega
        · obtain rfl : j = na := by omega
          have hcv := (HBY.out.kept ha.out.gr).lies.convert HBY.out.len c 22 5 9 Try.underlying22 Try.underlying5 Try.underlying9
          rw [← HST.out] at hcv
          go_wp2_with fail
          refine (HK.out _).mono ?_
          rintro e w6 ⟨rfl, g6⟩
          go_wp2_with fail
          go_ret
          exact ⟨rfl, Gr.trans ha.out.gr g6⟩
    case true =>
      have hE0 : E = 0 := by simpa using HT.out.1
      subst hE0
      clear HT
      go_wp2_with (refine (num_any _ _).mono ?_; rintro e w' ⟨rfl, rfl⟩)
      refine HSM1.out.mono ?_
      rintro e w5 ⟨rfl, g5⟩
      have HA5 := Lib.hid (HA4.out.up g5)
      clear g5 HA4 HX4 HSM1 c0 c1 c2 c3 c4 c5 c6 c7 d0 d1 d2 d3 d4 d5 d6 d7
      go_wp2_with (refine (num_any _ _).mono ?_; rintro e w' ⟨rfl, rfl⟩)
      go_loopw [12] (fun i wr => ∃ j : Nat, j ≤ na ∧ i = .int .i64 j ∧ Hid (ReAt w R0 #[.int .i64 k, .int .u64 t, .int .u64 pp, .int .u64 x, .int .i64 g, .int .i64 o, .slice pb nb cb, .slice pa na ca] pa na ca wr)) (fun i _ => na - (intOf i).toNat)
      case atStart => exact ⟨0, Nat.zero_le _, rfl, HA5⟩
      case round =>
        obtain ⟨j, hj, rfl, ha⟩ := hrel
        obtain ⟨c0, c1, c2, c3, c4, c5, c6, c7⟩ := ha.out.b.c8
        by_cases hlt : j < na
        · obtain ⟨gb, rfl, ⟨xv, hx⟩, hf, hn⟩ := ha.out.opened j hlt
          have HN := Lib.hid hn
          clear hn
          go_wp2
          go_roundw
          case rel => exact ⟨j + 1, by omega, by go_num, HN⟩
          case measure => simp [intOf]; omega
        · obtain rfl : j = na := by omega
          have hcv := (HBY.out.kept ha.out.gr).lies.convert HBY.out.len c 22 5 9 Try.underlying22 Try.underlying5 Try.underlying9
          rw [← HST.out] at hcv
          go_wp2_with fail
          refine (HK.out _).mono ?_
          rintro e w6 ⟨rfl, g6⟩
          go_wp2_with fail
          go_ret
          exact ⟨rfl, Gr.trans ha.out.gr g6⟩

end Go.Proofs.Ytchfhgeipmfegaa
