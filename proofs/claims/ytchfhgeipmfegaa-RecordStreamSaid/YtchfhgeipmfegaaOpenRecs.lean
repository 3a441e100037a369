
/-
  Arguments that come in: slices of records.
-/
import Derived.Test.YtchfhgeipmfegaaOpenRec
import Derived.Test.YtchfhgeipmfegaaRecAll
import Derived.Deep.Slices
namespace Go.Proofs.Ytchfhgeipmfegaa
open Go.ChangeShapes Go.WideShapes Go.ChangeAt Go.RowKit

theorem u8Of {x : Int} (h : (Lit.int .u8 x).wf = true) : 0 ≤ x ∧ x < 256 := byteOf h

set_option maxRecDepth 100000 in
/-- The cells of a record, opened. -/
theorem openRecL {H : Type} {enc : TypeId × Value → H} {W : World} {fuel : Nat} {l : List Value} {x : DataW H × List MemPlace} (hs : l.length = 8)
    (hf : DataW.trod enc Try.prog W 0 (fun _ => true) true fuel 57 l = some x) : ∃ (c : Rc) (pb : Option Addr) (nb cb : Nat) (pa : Option Addr) (na ca : Nat), l = [.int .i64 c.k, .int .u64 c.t, .int .u64 c.p, .int .u64 c.x, .int .i64 c.g, .int .i64 c.o, .slice pb nb cb, .slice pa na ca] ∧ Byt W pb nb cb c.b ∧ Byt W pa na ca c.a ∧ c.In := by
  have hc1 : Try.prog.cellsOf 3 = 1 := by kernel_rfl
  have hc2 : Try.prog.cellsOf 55 = 1 := by kernel_rfl
  have hc3 : Try.prog.cellsOf 54 = 1 := by kernel_rfl
  have hc4 : Try.prog.cellsOf 22 = 1 := by kernel_rfl
  obtain ⟨xs, n, _, _, hl, hlen, hff⟩ := DataW.trod_struct Try.underlying57 hf
  match l, hs with
  | [c0, c1, c2, c3, c4, c5, c6, c7], _ =>
    match xs, hlen with
    | [y0, y1, y2, y3, y4, y5, y6, y7], _ =>
      have t0 := hff 0 _ rfl
      have t1 := hff 1 _ rfl
      have t2 := hff 2 _ rfl
      have t3 := hff 3 _ rfl
      have t4 := hff 4 _ rfl
      have t5 := hff 5 _ rfl
      have t6 := hff 6 _ rfl
      have t7 := hff 7 _ rfl
      simp [hc2] at t0
      simp [hc3] at t1
      simp [hc3] at t2
      simp [hc3] at t3
      simp [hc1] at t4
      simp [hc1] at t5
      simp [hc4] at t6
      simp [hc4] at t7
      obtain ⟨v0, e0, _, w0⟩ := DataW.trod_int Try.underlying55 t0
      obtain ⟨v1, e1, _, w1⟩ := DataW.trod_int Try.underlying54 t1
      obtain ⟨v2, e2, _, w2⟩ := DataW.trod_int Try.underlying54 t2
      obtain ⟨v3, e3, _, w3⟩ := DataW.trod_int Try.underlying54 t3
      obtain ⟨v4, e4, _, w4⟩ := DataW.trod_int Try.underlying3 t4
      obtain ⟨v5, e5, _, w5⟩ := DataW.trod_int Try.underlying3 t5
      simp at e0 e1 e2 e3 e4 e5
      subst e0 e1 e2 e3 e4 e5
      obtain ⟨pb, nb, cb, bs, rfl, hb⟩ := openCell (v := c6) Try.underlying22 Try.underlying5 (by kernel_rfl) t6
      obtain ⟨pa, na, ca, xa, rfl, ha⟩ := openCell (v := c7) Try.underlying22 Try.underlying5 (by kernel_rfl) t7
      have b1 := u64Of w1
      have b2 := u64Of w2
      have b3 := u64Of w3
      obtain ⟨v1, rfl⟩ := Int.eq_ofNat_of_zero_le b1.1
      obtain ⟨v2, rfl⟩ := Int.eq_ofNat_of_zero_le b2.1
      obtain ⟨v3, rfl⟩ := Int.eq_ofNat_of_zero_le b3.1
      exact ⟨⟨v0, v1, v2, v3, v4, v5, bs, xa⟩, pb, nb, cb, pa, na, ca, rfl, hb, ha, ⟨by show v1 ≤ _; omega, by show v2 ≤ _; omega, by show v3 ≤ _; omega, hb.small, ha.small⟩⟩

/-- The slice value p, n, c reads as records. -/
structure Recs (w : World) (p : Option Addr) (n c : Nat) : Prop where
  cap : n ≤ c
  most : c ≤ maxLen
  lies : 0 < n → ∃ b o, p = some ⟨b, o, none⟩ ∧ ∀ i, i < n → ∃ x : RX, (w.cell? ⟨b, o + i * 8, none⟩ = some (.int .i64 x.c.k) ∧ w.cell? ⟨b, o + i * 8 + 1, none⟩ = some (.int .u64 x.c.t) ∧ w.cell? ⟨b, o + i * 8 + 2, none⟩ = some (.int .u64 x.c.p) ∧ w.cell? ⟨b, o + i * 8 + 3, none⟩ = some (.int .u64 x.c.x) ∧ w.cell? ⟨b, o + i * 8 + 4, none⟩ = some (.int .i64 x.c.g) ∧ w.cell? ⟨b, o + i * 8 + 5, none⟩ = some (.int .i64 x.c.o) ∧ w.cell? ⟨b, o + i * 8 + 6, none⟩ = some (.slice x.pb x.nb x.cb) ∧ w.cell? ⟨b, o + i * 8 + 7, none⟩ = some (.slice x.pa x.na x.ca)) ∧ Byt w x.pb x.nb x.cb x.c.b ∧ Byt w x.pa x.na x.ca x.c.a ∧ x.c.In

/-- An argument of type []api.Record, opened. -/
theorem openRecs {H : Type} {enc : TypeId × Value → H} {W : World} {a : Option Addr} {len cap : Nat} {d : DataW H} {p : List MemPlace}
    (h : DataW.Trod enc Try.prog W 0 (fun _ => true) true 69 (.slice a len cap) d p) : Recs W a len cap := by
  obtain ⟨fuel, hf⟩ := h
  have hc : Try.prog.cellsOf 57 = 8 := by kernel_rfl
  rcases Go.Deep.open_slice Try.underlying69 hf with ⟨hcs, _⟩ | ⟨x, l, c, m, n, D, Pl, hcs, _, hl, hm, hmm, _, hx⟩
  · simp [Value.cells] at hcs
    obtain ⟨rfl, rfl, rfl⟩ := hcs
    exact ⟨Nat.le_refl _, Nat.zero_le _, fun h => absurd h (Nat.lt_irrefl 0)⟩
  · simp [Value.cells] at hcs
    obtain ⟨rfl, rfl, rfl⟩ := hcs
    simp only [if_true] at hmm
    subst hmm
    rw [hc] at hx
    have each : ∀ i, i < len → ∃ z : RX, (∀ j v, [Value.int .i64 z.c.k, .int .u64 z.c.t, .int .u64 z.c.p, .int .u64 z.c.x, .int .i64 z.c.g, .int .i64 z.c.o, .slice z.pb z.nb z.cb, .slice z.pa z.na z.ca][j]? = some v → W.cell? ((x.add (i * 8)).add j) = some v) ∧ Byt W z.pb z.nb z.cb z.c.b ∧ Byt W z.pa z.na z.ca z.c.a ∧ z.c.In := fun i hi => by
      obtain ⟨cs, h1, h2⟩ := hx i (by omega)
      obtain ⟨_, hlen, hcells⟩ := World.cells?_some h1
      obtain ⟨rc, pb, nb, cb, pa, na, ca, rfl, hb, ha, hin⟩ := openRecL hlen h2
      refine ⟨⟨0, rc, pb, nb, cb, pa, na, ca⟩, fun j v hj => ?_, hb, ha, hin⟩
      have hlt : j < 8 := by have := (List.getElem?_eq_some_iff.1 hj).1; simpa using this
      rw [hcells j hlt]
      exact hj
    refine ⟨hl, hm, fun hn => ?_⟩
    obtain ⟨z0, hz0, _⟩ := each 0 hn
    have hc0 := hz0 0 _ rfl
    obtain ⟨b, o, sp⟩ := x
    obtain rfl : sp = none := by simpa [Addr.add] using World.cell?_spot hc0
    refine ⟨b, o, rfl, fun i hi => ?_⟩
    obtain ⟨z, hz, hb, ha, hin⟩ := each i hi
    have hz' : ∀ j v, [Value.int .i64 z.c.k, .int .u64 z.c.t, .int .u64 z.c.p, .int .u64 z.c.x, .int .i64 z.c.g, .int .i64 z.c.o, .slice z.pb z.nb z.cb, .slice z.pa z.na z.ca][j]? = some v → W.cell? ⟨b, o + i * 8 + j, none⟩ = some v := fun j v hj => by
      have := hz j v hj
      simpa only [Go.WideShapes.add_plain] using this
    exact ⟨z, ⟨hz' 0 _ rfl, hz' 1 _ rfl, hz' 2 _ rfl, hz' 3 _ rfl, hz' 4 _ rfl, hz' 5 _ rfl, hz' 6 _ rfl, hz' 7 _ rfl⟩, hb, ha, hin⟩

end Go.Proofs.Ytchfhgeipmfegaa
