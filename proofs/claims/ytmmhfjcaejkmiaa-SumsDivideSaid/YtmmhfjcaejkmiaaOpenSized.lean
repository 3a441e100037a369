import Derived.Test.YtmmhfjcaejkmiaaOpen
import Derived.SizedLaws
namespace Go.Proofs.Ytmmhfjcaejkmiaa
open Go.ChangeShapes Go.WideShapes Go.ChangeAt Go.RowKit

theorem weightsAll_mem {H : Type} {P : Program} {e : TypeId} : ∀ {ds : List (DataW H)} {d : DataW H}, d ∈ ds → ∀ n ∈ d.weights P e, n ∈ DataW.weightsAll P e ds
  | [], _, h, _, _ => by cases h
  | x :: r, d, h, n, hn => by
    simp only [DataW.weightsAll, List.mem_append]
    rcases List.mem_cons.1 h with rfl | h
    · exact .inl hn
    · exact .inr (weightsAll_mem h n hn)

/-- An argument of type [][]byte, opened: no list is longer than any machine's. -/
theorem openRowsSized {H : Type} {enc : TypeId × Value → H} {P : Program} {t e q : TypeId} (ht : P.underlying t = some (.slice e)) (he : P.underlying e = some (.slice q)) (hq : P.underlying q = some (.int .u8)) (ce : P.cellsOf e = 1) (cq : P.cellsOf q = 1) (bq : P.bytesOf q = 1) {W : World} {a : Option Addr} {len cap : Nat} {d : DataW H} {p : List MemPlace}
    (h : DataW.Trod enc P W 0 (fun _ => true) true t (.slice a len cap) d p) (hz : ∀ x ∈ d.weights P t, x ≤ reachBytes) : ∃ xss, Rows W a len cap xss ∧ ∀ i, i < len → (xss.getD i []).length ≤ reachBytes := by
  obtain ⟨fuel, hf⟩ := h
  rcases Go.Deep.open_slice1 ht ce hf with ⟨hcs, _⟩ | ⟨x, l, c, m, n, V, D, Pl, hcs, _, hl, hm, hmm, hd, hx⟩
  · simp [Value.cells] at hcs
    obtain ⟨rfl, rfl, rfl⟩ := hcs
    exact ⟨[], ⟨rfl, Nat.le_refl _, Nat.zero_le _, fun h => absurd h (Nat.lt_irrefl 0), fun _ => rfl⟩, fun i hi => absurd hi (Nat.not_lt_zero _)⟩
  · simp [Value.cells] at hcs
    obtain ⟨rfl, rfl, rfl⟩ := hcs
    simp only [if_true] at hmm
    subst hmm
    have hd1 : d = .slice ((List.range len).map D) ((List.range (m - len)).map fun j => D (len + j)) := congrArg Prod.fst hd
    have each : ∀ i, i < len → ∃ xs : List Int, ∃ q' m' d', (W.cell? (x.add i) = some (.slice q' m' d') ∧ Byt W q' m' d' xs) ∧ xs.length ≤ reachBytes := fun i hi => by
      obtain ⟨h1, h2⟩ := hx i (by omega)
      have hw : ∀ w ∈ (D i).weights P e, w ≤ reachBytes := fun w hw => hz w (by
        rw [hd1]
        simp only [DataW.weights, ht, List.mem_cons, List.mem_append]
        exact .inr (.inl (weightsAll_mem (List.mem_map.2 ⟨i, List.mem_range.2 hi, rfl⟩) w hw)))
      rcases open_ints he hq cq h2 with ⟨hcs, _⟩ | ⟨x', l', c', zs, hcs, _, hl', hm', hzl, hD, hcell, hwz⟩
      · refine ⟨[], none, 0, 0, ⟨?_, Byt.nil W⟩, Nat.zero_le _⟩
        rw [h1]; simpa using hcs
      · simp only [if_true] at hzl
        have hD1 : D i = .slice (lits .u8 (zs.take l')) (lits .u8 (zs.drop l')) := congrArg Prod.fst hD
        refine ⟨zs.take l', some x', l', c', ⟨?_, by simp; omega, hl', hm', Lib.BytesIn.of_cells (fun j hj => ?_), (fun h => by cases h), fun y hy => byteOf (hwz y (List.mem_of_mem_take hy))⟩, ?_⟩
        · rw [h1]; simpa using hcs
        · rw [hcell j (by omega)]
          simp [List.getD, hj]
        · have := hw ((lits (H := H) .u8 (zs.take l')).length + (lits (H := H) .u8 (zs.drop l')).length) (by
            rw [hD1]
            simp only [DataW.weights, he, List.mem_cons, bq, Nat.mul_one]
            exact .inl trivial)
          have h3 : (lits (H := H) .u8 (zs.take l')).length = (zs.take l').length := by simp [lits]
          omega
    obtain ⟨f, hf'⟩ := Go.Deep.choose_lt each
    refine ⟨(List.range len).map f, ⟨by simp, hl, hm, fun hn => ?_, fun h => by cases h⟩, fun i hi => ?_⟩
    · obtain ⟨q0, m0, d0, ⟨hc0, _⟩, _⟩ := hf' 0 hn
      obtain ⟨b, o, sp⟩ := x
      obtain rfl : sp = none := by simpa [Addr.add] using World.cell?_spot hc0
      refine ⟨b, o, rfl, fun i hi => ?_⟩
      obtain ⟨q', m', d', ⟨hc, hb⟩, _⟩ := hf' i hi
      refine ⟨q', m', d', by rw [← Go.WideShapes.add_plain]; exact hc, ?_⟩
      have e1 : ((List.range len).map f).getD i [] = f i := by simp [List.getD, hi]
      rw [e1]
      exact hb
    · obtain ⟨q', m', d', _, hle⟩ := hf' i hi
      have e1 : ((List.range len).map f).getD i [] = f i := by simp [List.getD, hi]
      rw [e1]
      exact hle

end Go.Proofs.Ytmmhfjcaejkmiaa
