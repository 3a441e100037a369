
/-
  Acts that come in as an argument; both disks as the laws own them.
-/
import Derived.Test.YtkoalabacfjgbaaSame
import Derived.Test.YtkoalabacfjgbaaDiskFuseWalk
import Derived.ProofKit
import Derived.OpenShut
import Derived.ChangeOld
import Derived.Deep.Strs
import Derived.Deep.Slices
import Derived.Test.YtkoalabacfjgbaaOpen3
namespace Go.Proofs.Ytkoalabacfjgbaa
open Go.ChangeShapes Go.WideShapes Go.ChangeAt Go.RowKit Go.Maps

/-- The slice p n c is the acts f. -/
def Acts (w : World) (p : Option Addr) (n : Nat) (f : Nat → Do) : Prop := n ≤ 9223372036854775807 ∧ (0 < n → ∃ b o, p = some ⟨b, o, none⟩ ∧ ∀ i, i < n → (f i).Ok ∧ ∃ q m k, w.rangeAt b (o + i * 5) ((f i).val (.slice q m k)).toList ∧ Nums w q m k (f i).picks)
theorem Acts.gr {w w' : World} {p : Option Addr} {n : Nat} {f : Nat → Do} (h : Acts w p n f) (g : Gr w w') : Acts w' p n f := ⟨h.1, fun hn => by
  obtain ⟨b, o, e, hc⟩ := h.2 hn
  refine ⟨b, o, e, fun i hi => ?_⟩
  obtain ⟨h1, q, m, k, h2, h3⟩ := hc i hi
  exact ⟨h1, q, m, k, fun j v hv => by rw [g.cell (World.block_lt_of_cell? w _ (h2 j v hv))]; exact h2 j v hv, h3.gr g⟩⟩

theorem trod_struct5 {H : Type} {enc : TypeId × Value → H} {P : Program} {w : World} {base : Nat} {spare : Nat → Bool} {held : Bool} {t : TypeId} {f0 f1 f2 f3 f4 : Field} {fuel : Nat} {cs : List Value} {x : DataW H × List MemPlace} (ht : P.underlying t = some (.struct #[f0, f1, f2, f3, f4])) (h : DataW.trod enc P w base spare held fuel t cs = some x) :
    ∃ y0 y1 y2 y3 y4 n, cs.length = P.cellsOf t ∧ DataW.trod enc P w base spare held n f0.type ((cs.drop f0.offset).take (P.cellsOf f0.type)) = some y0 ∧
      DataW.trod enc P w base spare held n f1.type ((cs.drop f1.offset).take (P.cellsOf f1.type)) = some y1 ∧ DataW.trod enc P w base spare held n f2.type ((cs.drop f2.offset).take (P.cellsOf f2.type)) = some y2 ∧
      DataW.trod enc P w base spare held n f3.type ((cs.drop f3.offset).take (P.cellsOf f3.type)) = some y3 ∧ DataW.trod enc P w base spare held n f4.type ((cs.drop f4.offset).take (P.cellsOf f4.type)) = some y4 := by
  obtain ⟨xs, n, _, rfl, hl, hlen, hf⟩ := DataW.trod_struct ht h
  match xs, hlen with
  | [y0, y1, y2, y3, y4], _ => exact ⟨y0, y1, y2, y3, y4, n, hl, by simpa using hf 0 f0 rfl, by simpa using hf 1 f1 rfl, by simpa using hf 2 f2 rfl, by simpa using hf 3 f3 rfl, by simpa using hf 4 f4 rfl⟩

set_option maxRecDepth 100000 in
/-- An argument of type []Act, opened. -/
theorem openActs {H : Type} {enc : TypeId × Value → H} {W : World} {a : Option Addr} {len cap : Nat} {d : DataW H} {p : List MemPlace}
    (h : DataW.Trod enc Try.prog W 0 (fun _ => true) true 23 (.slice a len cap) d p) : ∃ f, Acts W a len f := by
  obtain ⟨fuel, hf⟩ := h
  have hc : Try.prog.cellsOf TAct = 5 := by kernel_rfl
  have hc1 : Try.prog.cellsOf 3 = 1 := by kernel_rfl
  have hc2 : Try.prog.cellsOf 5 = 1 := by kernel_rfl
  have hc3 : Try.prog.cellsOf 38 = 1 := by kernel_rfl
  rcases Go.Deep.open_slice Try.underlying23 hf with ⟨hcs, _⟩ | ⟨x, l, c, m, n, D, Pl, hcs, _, hl, hm, hmm, _, hx⟩
  · simp [Value.cells] at hcs
    obtain ⟨rfl, rfl, rfl⟩ := hcs
    exact ⟨fun _ => ⟨0, 0, 0, 0, []⟩, by omega, fun h => absurd h (Nat.lt_irrefl 0)⟩
  · simp [Value.cells] at hcs
    obtain ⟨rfl, rfl, rfl⟩ := hcs
    simp only [if_true] at hmm
    subst hmm
    have hc' : Try.prog.cellsOf 40 = 5 := hc
    rw [hc'] at hx
    have each : ∀ i, ∃ g : Do, i < len → g.Ok ∧ ∃ q m k, (∀ j v, (g.val (.slice q m k)).toList[j]? = some v → W.cell? ((x.add (i * 5)).add j) = some v) ∧ Nums W q m k g.picks := fun i => by
      by_cases hi : i < len
      · obtain ⟨cs, h1, h2⟩ := hx i (by omega)
        obtain ⟨y0, y1, y2, y3, y4, k, hl3, t0, t1, t2, t3, t4⟩ := trod_struct5 Try.underlying40 h2
        obtain ⟨_, _, hcells⟩ := World.cells?_some h1
        rw [hc'] at hl3
        match cs, hl3 with
        | [c0, c1, c2, c3, c4], _ =>
          simp only [hc1, hc2, hc3] at t0 t1 t2 t3 t4
          obtain ⟨K, e0, _, w0⟩ := DataW.trod_int Try.underlying3 t0
          obtain ⟨I, e1, _, w1⟩ := DataW.trod_int Try.underlying3 t1
          obtain ⟨N, e2, _, w2⟩ := DataW.trod_int Try.underlying3 t2
          obtain ⟨Y, e3, _, w3⟩ := DataW.trod_int Try.underlying5 t3
          simp at e0 e1 e2 e3 t4
          subst e0 e1 e2 e3
          have b0 := i64Of w0
          have b1 := i64Of w1
          have b2 := i64Of w2
          have b3 := byteOf w3
          obtain ⟨q, mm, kk, zs, e4, hz⟩ : ∃ q mm kk zs, c4 = Value.slice q mm kk ∧ Nums W q mm kk zs := by
            have tt := t4
            rcases Go.Deep.open_slice Try.underlying38 t4 with ⟨h5, _⟩ | ⟨a5, l5, c5, _, _, _, _, h5, _⟩
            · simp at h5
              subst h5
              exact ⟨none, 0, 0, [], rfl, Nums.nil W⟩
            · simp at h5
              subst h5
              obtain ⟨zs, hz⟩ := openNums (P := Try.prog) (t := 38) Try.underlying38 Try.underlying3 hc1 (W := W) (base := 0) (a := some a5) (len := l5) (cap := c5) (enc := enc) (d := y4.1) (p := y4.2) ⟨_, by simpa [Value.cells] using tt⟩
              exact ⟨_, _, _, zs, rfl, hz⟩
          subst e4
          refine ⟨⟨K, I, N, UInt8.ofNat Y.toNat, zs⟩, fun _ => ⟨⟨b0.1, b0.2, b1.1, b1.2, b2.1, b2.2⟩, q, mm, kk, fun j v hv => ?_, hz⟩⟩
          have e5 : B8 (UInt8.ofNat Y.toNat) = Y := B8_of Y b3.1 b3.2
          simp only [Do.val, e5] at hv
          have hj : j < 5 := by have := (List.getElem?_eq_some_iff.1 hv).1; simpa using this
          have := hcells j (by omega)
          rw [this]
          exact hv
      · exact ⟨⟨0, 0, 0, 0, []⟩, fun h => absurd h hi⟩
    obtain ⟨f, hf2⟩ := Classical.axiomOfChoice each
    refine ⟨f, by unfold maxLen at hm; omega, fun hn => ?_⟩
    obtain ⟨b, o, sp⟩ := x
    have h0 : W.cell? (((⟨b, o, sp⟩ : Addr).add (0 * 5)).add 0) = _ := (hf2 0 hn).2.choose_spec.choose_spec.choose_spec.1 0 _ rfl
    obtain rfl : sp = none := by simpa [Addr.add] using World.cell?_spot h0
    refine ⟨b, o, rfl, fun i hi => ?_⟩
    obtain ⟨h1, q, m, k, h2, h3⟩ := hf2 i hi
    refine ⟨h1, q, m, k, fun j v hv => ?_, h3⟩
    have := h2 j v hv
    simpa [Go.WideShapes.add_plain] using this

/-- Both disks, below whose blocks nothing has turned. -/
def OwnP (w wr : World) (p r : Value) (s : St) : Prop := ∃ F G, Pair wr F G p r s ∧ Gr w wr ∧ ∀ k, F k ∨ G k → w.heap.size ≤ k
theorem OwnP.gr {w wr wx : World} {p r : Value} {s : St} (h : OwnP w wr p r s) (g : Gr wr wx) : OwnP w wx p r s := by
  obtain ⟨F, G, h1, h2, h3⟩ := h
  exact ⟨F, G, h1.stays g, Gr.trans h2 g, h3⟩
theorem OwnP.grown {w wr : World} {p r : Value} {s : St} (h : OwnP w wr p r s) : Gr w wr := by
  obtain ⟨F, G, h1, h2, h3⟩ := h
  exact h2
def Done (w : World) (s : St) (e : Ending) (w' : World) : Prop := ∃ p r, e = .returned (.tuple #[p, r, .bool true]) ∧ OwnP w w' p r s
theorem OwnP.does {w wr : World} {p r : Value} {s : St} (h : OwnP w wr p r s) (a : Do) (ha : a.Ok) (q : Option Addr) (n c : Nat) (hz : Nums wr q n c a.picks) (hw : s.writes ≤ 1000000000) :
    Calls Try.prog 9 #[p, r, .agg (a.val (.slice q n c))] wr fun e w' => Done w (s.does a) e w' := by
  obtain ⟨F, G, h1, h2, h3⟩ := h
  refine (do_any wr h1 a ha q n c hz hw).mono ?_
  rintro e w' ⟨p', r', F', G', he, hp, hu⟩
  exact ⟨p', r', he, F', G', hp, Below.trans h2 (hu.below h2.size h3), hu.from h2.size h3⟩
theorem OwnP.same {w wr : World} {p r : Value} {s : St} (h : OwnP w wr p r s) (hw : s.writes ≤ 1000000000) : Calls Try.prog 8 #[p, r] wr fun e w' => RetTrue wr e w' := by
  obtain ⟨F, G, h1, h2, h3⟩ := h
  exact same_any wr h1 hw
theorem does_len (s : St) (a : Do) : (s.does a).ls.length = s.ls.length := by
  unfold St.does
  split
  · split
    · rfl
    · split <;> rfl
  · split
    · split
      · rfl
      · simp [St.barrier]
    · split
      · rfl
      · split
        · simp [St.crash, fresh]
        · rfl
theorem does_writes (s : St) (a : Do) : (s.does a).writes ≤ s.writes + 1 := by
  unfold St.does
  split
  · split
    · omega
    · split
      · show s.writes ≤ _; omega
      · show s.writes + 1 ≤ _; omega
  · split
    · split
      · omega
      · show s.writes ≤ _; omega
    · split
      · show s.writes ≤ _; omega
      · split
        · show 0 ≤ _; omega
        · omega

end Go.Proofs.Ytkoalabacfjgbaa
