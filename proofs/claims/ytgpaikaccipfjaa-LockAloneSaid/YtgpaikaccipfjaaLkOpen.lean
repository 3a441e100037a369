
/-
  Acts of the laws on locks, as they come in.
-/
import Derived.Test.YtgpaikaccipfjaaLk1
import Derived.ProofKit
import Derived.OpenShut
import Derived.ShutString
import Derived.ChangeOld
import Derived.Deep.Slices
namespace Go.Proofs.Ytgpaikaccipfjaa
open Go.ChangeShapes Go.WideShapes Go.ChangeAt Go.RowKit Go.Maps

theorem u64Of {x : Int} (h : (Lit.int .u64 x).wf = true) : 0 ≤ x ∧ x ≤ 18446744073709551615 := by
  have h1 : IntKind.u64.min = 0 := rfl
  have h2 : IntKind.u64.max = 18446744073709551615 := rfl
  simp only [Lit.wf, Bool.and_eq_true, decide_eq_true_eq] at h
  omega
theorem i64Of {x : Int} (h : (Lit.int .i64 x).wf = true) : -9223372036854775808 ≤ x ∧ x ≤ 9223372036854775807 := by
  have h1 : IntKind.i64.min = -9223372036854775808 := rfl
  have h2 : IntKind.i64.max = 9223372036854775807 := rfl
  simp only [Lit.wf, Bool.and_eq_true, decide_eq_true_eq] at h
  omega
/-- An act of the laws. -/
structure LAct where
  free : Bool
  ow : Nat
  k : Key
  m : Int
def LAct.cells (a : LAct) : List Value := [.bool a.free, .int .u64 (a.ow : Int), .int .i64 a.k.1, .int .i64 a.k.2, .int .i64 a.m]
structure LAct.In (a : LAct) : Prop where
  o : KO.dom a.ow
  k : KL.dom a.k
  m0 : -9223372036854775808 ≤ a.m
  m1 : a.m ≤ 9223372036854775807
structure LActs (w : World) (p : Option Addr) (n c : Nat) (f : Nat → LAct) : Prop where
  cap : n ≤ c
  most : c ≤ maxLen
  lies : 0 < n → ∃ b o, p = some ⟨b, o, none⟩ ∧ ∀ i, i < n → (f i).In ∧ ∀ j v, (f i).cells[j]? = some v → w.cell? ⟨b, o + i * 5 + j, none⟩ = some v
/-- A row of it, in each world that has grown. -/
theorem LActs.row {w : World} {p : Option Addr} {n c : Nat} {f : Nat → LAct} (h : LActs w p n c f) (k : Nat) (hk : k < n) : ∃ b o, p = some ⟨b, o, none⟩ ∧ (f k).In ∧ ∀ V, Below w.heap.size w V → ∀ j v, (f k).cells[j]? = some v → V.cell? ⟨b, o + k * 5 + j, none⟩ = some v := by
  obtain ⟨b, o, rfl, hc⟩ := h.lies (by omega)
  obtain ⟨h1, h2⟩ := hc k hk
  exact ⟨b, o, rfl, h1, fun V g j v hv => by rw [g.cell (World.block_lt_of_cell? w _ (h2 j v hv))]; exact h2 j v hv⟩
abbrev TAl : TypeId := 32
set_option maxRecDepth 100000 in
/-- An argument of type []Act, opened. -/
theorem openLActs {H : Type} {enc : TypeId × Value → H} {W : World} {a : Option Addr} {len cap : Nat} {d : DataW H} {p : List MemPlace}
    (h : DataW.Trod enc Try.prog W 0 (fun _ => true) true 22 (.slice a len cap) d p) : ∃ f, LActs W a len cap f := by
  obtain ⟨fuel, hf⟩ := h
  have hc : Try.prog.cellsOf TAl = 5 := by kernel_rfl
  have hc1 : Try.prog.cellsOf 4 = 1 := by kernel_rfl
  have hc2 : Try.prog.cellsOf 27 = 1 := by kernel_rfl
  have hc3 : Try.prog.cellsOf 29 = 2 := by kernel_rfl
  have hc4 : Try.prog.cellsOf 30 = 1 := by kernel_rfl
  have hc5 : Try.prog.cellsOf 3 = 1 := by kernel_rfl
  rcases Go.Deep.open_slice Try.underlying22 hf with ⟨hcs, _⟩ | ⟨x, l, c, m, n, D, Pl, hcs, _, hl, hm, hmm, _, hx⟩
  · simp [Value.cells] at hcs
    obtain ⟨rfl, rfl, rfl⟩ := hcs
    exact ⟨fun _ => ⟨false, 0, (0, 0), 0⟩, Nat.le_refl _, Nat.zero_le _, fun h => absurd h (Nat.lt_irrefl 0)⟩
  · simp [Value.cells] at hcs
    obtain ⟨rfl, rfl, rfl⟩ := hcs
    simp only [if_true] at hmm
    subst hmm
    have hc' : Try.prog.cellsOf 32 = 5 := hc
    rw [hc'] at hx
    have each : ∀ i, ∃ g : LAct, i < len → g.In ∧ ∀ j v, g.cells[j]? = some v → W.cell? ((x.add (i * 5)).add j) = some v := fun i => by
      by_cases hi : i < len
      · obtain ⟨cs, h1, h2⟩ := hx i (by omega)
        obtain ⟨_, hlen, hcells⟩ := World.cells?_some h1
        obtain ⟨xs, k, _, _, _, hlx, hff⟩ := DataW.trod_struct Try.underlying32 h2
        match xs, hlx with
        | [y0, y1, y2, y3], _ =>
          match cs, hlen with
          | [c0, c1, c2, c3, c4], _ =>
            have t0 := hff 0 _ rfl
            have t1 := hff 1 _ rfl
            have t2 := hff 2 _ rfl
            have t3 := hff 3 _ rfl
            simp [hc1] at t0
            simp [hc2] at t1
            simp [hc3] at t2
            simp [hc4] at t3
            obtain ⟨F, e0, _⟩ := DataW.trod_bool Try.underlying4 t0
            obtain ⟨O, e1, _, w1⟩ := DataW.trod_int Try.underlying27 t1
            obtain ⟨M, e3, _, w3⟩ := DataW.trod_int Try.underlying30 t3
            obtain ⟨ys, k2, _, _, _, hly, hgg⟩ := DataW.trod_struct Try.underlying29 t2
            match ys, hly with
            | [z0, z1], _ =>
              have s0 := hgg 0 _ rfl
              have s1 := hgg 1 _ rfl
              simp [hc5] at s0
              simp [hc5] at s1
              obtain ⟨K1, e4, _, w4⟩ := DataW.trod_int Try.underlying3 s0
              obtain ⟨K2, e5, _, w5⟩ := DataW.trod_int Try.underlying3 s1
              simp at e0 e1 e3 e4 e5
              subst e0 e1 e3 e4 e5
              have b1 := u64Of w1
              have b3 := i64Of w3
              have b4 := i64Of w4
              have b5 := i64Of w5
              obtain ⟨N, rfl⟩ := Int.eq_ofNat_of_zero_le b1.1
              refine ⟨⟨F, N, (K1, K2), M⟩, fun _ => ⟨⟨(show N ≤ _ by omega), ⟨b4, b5⟩, b3.1, b3.2⟩, fun j v hj => ?_⟩⟩
              have hlt : j < 5 := by have := (List.getElem?_eq_some_iff.1 hj).1; simpa [LAct.cells] using this
              rw [hcells j (by omega)]
              exact hj
      · exact ⟨⟨false, 0, (0, 0), 0⟩, fun h => absurd h hi⟩
    obtain ⟨f, hf2⟩ := Classical.axiomOfChoice each
    refine ⟨f, hl, hm, fun hn => ?_⟩
    have hc0 := (hf2 0 hn).2 0 _ rfl
    obtain ⟨b, o, sp⟩ := x
    obtain rfl : sp = none := by simpa [Addr.add] using World.cell?_spot hc0
    refine ⟨b, o, rfl, fun i hi => ⟨(hf2 i hi).1, fun j v hj => ?_⟩⟩
    have := (hf2 i hi).2 j v hj
    simpa only [Go.WideShapes.add_plain] using this
end Go.Proofs.Ytgpaikaccipfjaa
