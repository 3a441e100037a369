/-
  For every input the law PageMarks returns true, and its arguments read afterwards as they read before. Conditions: none.
-/
import Derived.Test.YtcbmgdigidpbeaaRows
import Derived.Test.YtcbmgdigidpbeaaPageMarksWalk
import Derived.Test.YtcbmgdigidpbeaaOpen
import Derived.Deep.Strs
namespace Go.Proofs.Ytcbmgdigidpbeaa.pageMarks
open Go.ChangeShapes Go.WideShapes Go.ChangeAt Go.RowKit
open Go.ChangeMaps (open_string shut_string)
set_option linter.unusedVariables false

theorem own : ownKnob Try.prog.godebug = none := by kernel_rfl
theorem laidOut : laidOutB Try.prog = true := by kernel_rfl

/-- An argument of type []Mark, opened. -/
theorem openMarks {H : Type} {enc : TypeId × Value → H} {W : World} {a : Option Addr} {len cap : Nat} {d : DataW H} {p : List MemPlace}
    (h : DataW.Trod enc Try.prog W 0 (fun _ => true) true 39 (.slice a len cap) d p) : ∃ ms, Marks W a len cap ms := by
  obtain ⟨fuel, hf⟩ := h
  have hc : Try.prog.cellsOf 41 = 3 := by kernel_rfl
  have hc1 : Try.prog.cellsOf 3 = 1 := by kernel_rfl
  have hc2 : Try.prog.cellsOf 22 = 1 := by kernel_rfl
  rcases Go.Deep.open_slice Try.underlying39 hf with ⟨hcs, _⟩ | ⟨x, l, c, m, n, D, Pl, hcs, _, hl, hm, hmm, _, hx⟩
  · simp [Value.cells] at hcs
    obtain ⟨rfl, rfl, rfl⟩ := hcs
    exact ⟨[], rfl, Nat.le_refl _, Nat.zero_le _, fun h => absurd h (Nat.lt_irrefl 0)⟩
  · simp [Value.cells] at hcs
    obtain ⟨rfl, rfl, rfl⟩ := hcs
    simp only [if_true] at hmm
    subst hmm
    rw [hc] at hx
    have each : ∀ i, i < len → ∃ F S : Int, ∃ N : Nat, N ≤ 18446744073709551615 ∧ W.cell? (x.add (i * 3)) = some (.int .i64 F) ∧ W.cell? ((x.add (i * 3)).add 1) = some (.int .i64 S) ∧ W.cell? ((x.add (i * 3)).add 2) = some (.int .u64 N) := fun i hi => by
      obtain ⟨cs, h1, h2⟩ := hx i (by omega)
      obtain ⟨y0, y1, y2, k, _, hl3, t0, t1, t2⟩ := Go.Deep.trod_struct3 Try.underlying41 h2
      obtain ⟨_, _, hcells⟩ := World.cells?_some h1
      rw [hc] at hl3
      match cs, hl3 with
      | [c0, c1, c2], _ =>
        simp only [hc1, hc2] at t0 t1 t2
        obtain ⟨F, e0, _, w0⟩ := DataW.trod_int Try.underlying3 t0
        obtain ⟨S, e1, _, w1⟩ := DataW.trod_int Try.underlying3 t1
        obtain ⟨N, e2, _, w2⟩ := DataW.trod_int Try.underlying22 t2
        simp at e0 e1 e2
        subst e0 e1 e2
        have b2 := u64Of w2
        obtain ⟨M, rfl⟩ := Int.eq_ofNat_of_zero_le b2.1
        refine ⟨F, S, M, by omega, ?_, ?_, ?_⟩
        · have := hcells 0 (by omega); simpa [Addr.add] using this
        · simpa using hcells 1 (by omega)
        · simpa using hcells 2 (by omega)
    refine ⟨List.replicate len ⟨0, 0, 0⟩, by simp, hl, hm, fun hn => ?_⟩
    obtain ⟨b, o, sp⟩ := x
    obtain ⟨F0, S0, N0, _, hc0, _⟩ := each 0 hn
    obtain rfl : sp = none := by simpa [Addr.add] using World.cell?_spot hc0
    refine ⟨b, o, rfl, fun i hi => ?_⟩
    obtain ⟨F, S, N, hN, h0, h1, h2⟩ := each i hi
    simp only [Go.WideShapes.add_plain] at h0 h1 h2
    exact ⟨F, S, N, hN, h0, h1, h2⟩

set_option maxRecDepth 100000 in
theorem lifted (os : Os) (started : os.Started) (H : Type) (enc : TypeId × Value → H) :
    ReturnsInHanded {} Try.checked os 5 .any (Rows.pageMarksSpec.pre6 enc Try.prog Try.f5 Rows.pageMarksRow.domain false) (Rows.pageMarksSpec.post enc Try.prog Try.f5 false true false false) := by
  refine returnsInHanded_of_change (C := Try.checked) own started (by kernel_rfl) Try.func5
    (ChangeSpec.witness6 (enc := enc) (C := Try.checked) false ⟨#[], #[.slice none 0 0, .slice none 0 0], []⟩ 8 (by kernel_rfl) (by kernel_rfl) (by kernel_rfl) (by kernel_rfl)) ?_
  intro W base args ds gs before hval0 hW hcnd _
  have hval : ∀ (j : Nat) t v, Try.f5.params[j]? = some t → args[j]? = some v → Value.okWide Try.prog W .any base t v := hval0
  have hW' := hW
  obtain ⟨p, q, hA0, hV, rfl, hfz, hnd⟩ := hW
  have hA : DataW.TrodAll enc Try.prog W 0 (fun _ => true) true Try.f5.params.toList args.toList ds p := hA0
  rw [Try.params5] at hA hval
  obtain ⟨v0, vs0, d0, ds0, p0, q0, hargs, rfl, rfl, h0, r0⟩ := trodAll_cons hA
  obtain ⟨v1, vs1, d1, ds1, p1, q1, rfl, rfl, rfl, h1, r1⟩ := trodAll_cons r0
  obtain ⟨rfl, rfl, rfl⟩ := trodAll_nil r1
  obtain rfl : args = #[v0, v1] := by cases args; simp_all
  obtain ⟨rfl, rfl⟩ := trodVars_none hV
  obtain ⟨a0, len0, cap0, rfl⟩ := okWide_slice Try.underlying23 (hval 0 23 v0 rfl rfl)
  have k0 := h0
  have lt0 : ∀ x ∈ p0, x.block < W.heap.size := by obtain ⟨m, hm⟩ := k0; exact DataW.trod_lt m _ _ _ hm
  obtain ⟨xs0, hb0⟩ := openBytes Try.underlying23 Try.underlying5 (by kernel_rfl) h0
  obtain ⟨a1, len1, cap1, rfl⟩ := okWide_slice Try.underlying39 (hval 1 39 v1 rfl rfl)
  have k1 := h1
  have lt1 : ∀ x ∈ p1, x.block < W.heap.size := by obtain ⟨m, hm⟩ := k1; exact DataW.trod_lt m _ _ _ hm
  obtain ⟨xs1, hb1⟩ := openMarks h1
  clear hA0 hval0
  refine (walk a0 len0 cap0 xs0 a1 len1 cap1 xs1 W hb0 hb1).mono fun e W' ⟨he, bel⟩ => ?_
  subst he
  exact ⟨_, rfl, _, _, _, [], _, [], hW', trodAll_mk1 (shut_bool Try.underlying4 _), (trodAll_cons_mk (Below.trod laidOut (by kernel_rfl) (of_decide_eq_true (by kernel_rfl)) k0 bel lt0) (trodAll_cons_mk (Below.trod laidOut (by kernel_rfl) (of_decide_eq_true (by kernel_rfl)) k1 bel lt1) trodAll_mk0)), rfl, bel.frame _, fun h => by cases h⟩

theorem over : Rows.pageMarksRow.holds Try.pinned (OpenSpec.ofChange Rows.pageMarksSpec) :=
  OpenClaim.holds_of_wide 5 Try.f5 rfl rfl rfl rfl rfl rfl rfl ⟨rfl, rfl, rfl, rfl, rfl⟩ rfl rfl rfl rfl rfl (by kernel_rfl) Try.func5 (by kernel_rfl)
    (of_decide_eq_true (by kernel_rfl)) (by unfold Func.isWrapper; first | (rw [if_pos (by decide +kernel)]; kernel_rfl) | (rw [if_neg (by decide +kernel)]; exact ⟨rfl, rfl⟩))
    (fun os started H enc _ => lifted os started H enc)

/-- The statement. -/
theorem proved : Rows.PageMarksSaid := over

end Go.Proofs.Ytcbmgdigidpbeaa.pageMarks
