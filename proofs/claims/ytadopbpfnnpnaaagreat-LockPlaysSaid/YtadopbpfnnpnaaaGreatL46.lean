/-
  Texts on locks, put together: LkRef20 LkOpen LkCopy1 LkCopy2.
-/
import Derived.ProofKit
import Derived.OpenShut
import Derived.ShutString
import Derived.ChangeOld
import Derived.Deep.Slices
import Derived.Shelf.SlMaps.Clone
import Derived.Test.YtadopbpfnnpnaaaGreatL1
import Derived.Test.YtadopbpfnnpnaaaGreatL4
import Derived.Test.YtadopbpfnnpnaaaGreatL5
import Derived.Test.YtadopbpfnnpnaaaGreatL11
import Derived.Test.YtadopbpfnnpnaaaGreatL45
set_option linter.unusedVariables false
set_option linter.unusedSimpArgs false
/-
  The document's Ask, whole.
-/
namespace Go.Proofs.YtadopbpfnnpnaaaGreat
open Go.RowKit Go.Maps

section
variable {w : World} {base d : Nat} {hv lv : Value} {D : DT}
theorem dAsk_any (h : DtA w base d hv lv D) (hbs : base ≤ w.heap.size) (hn : D.line.length ≤ 9000) (hnh : D.held.length ≤ 9000) (o : Nat) (k : Key) (m : Int) : Calls Tryz.prog 10 #[.pointer (some ⟨d, 0, none⟩), .int .u64 (o : Int), .agg #[.int .i64 k.1, .int .i64 k.2], .int .i64 m] w (RetDA base d hv lv (D.ask o k m) w) := by
  by_cases hm : m = 1 ∨ m = 2
  · by_cases hw : D.line.any (ofO o) = true
    · exact dAsk_waits h (by omega) hw k hm
    · by_cases hle : m ≤ D.holds o k
      · have hA : D.ask o k m = (0, D) := by
          unfold DT.ask
          rw [if_neg (show ¬ ¬ (m = 1 ∨ m = 2) from fun e => e hm), if_neg hw, if_pos hle]
        rw [hA]
        exact dAsk_has h (by omega) (by omega) hw hm rfl hle
      · by_cases hg : D.may ⟨o, k, m, decide (D.holds o k ≠ 0)⟩ = true ∧ (D.holds o k ≠ 0 ∨ (D.lineOf k).length = 0)
        · have hA : D.ask o k m = (0, D.give ⟨o, k, m, decide (D.holds o k ≠ 0)⟩) := by
            unfold DT.ask
            rw [if_neg (show ¬ ¬ (m = 1 ∨ m = 2) from fun e => e hm), if_neg hw, if_neg hle, if_pos hg]
          rw [hA]
          exact dAsk_give h hbs (by omega) (by omega) hw hm rfl hle hg.1 hg.2
        · have hA : D.ask o k m = if (D.ins ⟨o, k, m, decide (D.holds o k ≠ 0)⟩).ring o = true then (10, D) else (9, D.ins ⟨o, k, m, decide (D.holds o k ≠ 0)⟩) := by
            unfold DT.ask
            rw [if_neg (show ¬ ¬ (m = 1 ∨ m = 2) from fun e => e hm), if_neg hw, if_neg hle, if_neg hg]
          rw [hA]
          by_cases hH : D.holds o k = 0
          · have e : decide (D.holds o k ≠ 0) = false := by simp [hH]
            rw [e] at hg ⊢
            exact dAsk_end h hbs hn hnh hw hm hH fun e2 => hg ⟨e2.1, .inr e2.2⟩
          · have e : decide (D.holds o k ≠ 0) = true := by simp [hH]
            rw [e] at hg ⊢
            have hmy : D.may ⟨o, k, m, true⟩ = false := by
              cases e2 : D.may ⟨o, k, m, true⟩ with
              | false => rfl
              | true => exact absurd ⟨e2, .inl hH⟩ hg
            rcases hm with rfl | rfl
            · exact dAsk_up1 h hbs hn hnh hw rfl hH hle hmy
            · exact dAsk_up2 h hbs hn hnh hw rfl hH hle hmy
  · exact dAsk_bad h o k hm
end
end Go.Proofs.YtadopbpfnnpnaaaGreat

/-
  Acts of the laws on locks, as they come in.
-/
namespace Go.Proofs.YtadopbpfnnpnaaaGreat
open Go.ChangeShapes Go.WideShapes Go.ChangeAt Go.RowKit Go.Maps

theorem u64Of {x : Int} (h : (Lit.int .u64 x).wf = true) : 0 ≤ x ∧ x ≤ 18446744073709551615 := by
  have h1 : IntKind.u64.min = 0 := rfl
  have h2 : IntKind.u64.max = 18446744073709551615 := rfl
  simp only [Lit.wf, Bool.and_eq_true, decide_eq_true_eq] at h
  omega
theorem i64Of {x : Int} (h : (Lit.int .i64 x).wf = true) : -9223372036854775808 ≤ x ∧ x ≤ 9223372036854775807 := by
  have h1 : IntKind.i64.min = -9223372036854775808 := rfl
  have h2 : IntKind.i64.max = 9223372036854775807 := rfl
  simp only [Lit.wf, Bool.and_eq_true, decide_eq_true_eq] at h
  omega
/-- An act of the laws. -/
structure LAct where
  free : Bool
  ow : Nat
  k : Key
  m : Int
def LAct.cells (a : LAct) : List Value := [.bool a.free, .int .u64 (a.ow : Int), .int .i64 a.k.1, .int .i64 a.k.2, .int .i64 a.m]
structure LAct.In (a : LAct) : Prop where
  o : KO.dom a.ow
  k : KL.dom a.k
  m0 : -9223372036854775808 ≤ a.m
  m1 : a.m ≤ 9223372036854775807
structure LActs (w : World) (p : Option Addr) (n c : Nat) (f : Nat → LAct) : Prop where
  cap : n ≤ c
  most : c ≤ maxLen
  lies : 0 < n → ∃ b o, p = some ⟨b, o, none⟩ ∧ ∀ i, i < n → (f i).In ∧ ∀ j v, (f i).cells[j]? = some v → w.cell? ⟨b, o + i * 5 + j, none⟩ = some v
/-- A row of it, in each world that has grown. -/
theorem LActs.row {w : World} {p : Option Addr} {n c : Nat} {f : Nat → LAct} (h : LActs w p n c f) (k : Nat) (hk : k < n) : ∃ b o, p = some ⟨b, o, none⟩ ∧ (f k).In ∧ ∀ V, Below w.heap.size w V → ∀ j v, (f k).cells[j]? = some v → V.cell? ⟨b, o + k * 5 + j, none⟩ = some v := by
  obtain ⟨b, o, rfl, hc⟩ := h.lies (by omega)
  obtain ⟨h1, h2⟩ := hc k hk
  exact ⟨b, o, rfl, h1, fun V g j v hv => by rw [g.cell (World.block_lt_of_cell? w _ (h2 j v hv))]; exact h2 j v hv⟩
abbrev TAl : TypeId := 36
set_option maxRecDepth 100000 in
/-- An argument of type []Act, opened. -/
theorem openLActs {H : Type} {enc : TypeId × Value → H} {W : World} {a : Option Addr} {len cap : Nat} {d : DataW H} {p : List MemPlace}
    (h : DataW.Trod enc Tryz.prog W 0 (fun _ => true) true 22 (.slice a len cap) d p) : ∃ f, LActs W a len cap f := by
  obtain ⟨fuel, hf⟩ := h
  have hc : Tryz.prog.cellsOf TAl = 5 := by kernel_rfl
  have hc1 : Tryz.prog.cellsOf 4 = 1 := by kernel_rfl
  have hc2 : Tryz.prog.cellsOf 31 = 1 := by kernel_rfl
  have hc3 : Tryz.prog.cellsOf 33 = 2 := by kernel_rfl
  have hc4 : Tryz.prog.cellsOf 34 = 1 := by kernel_rfl
  have hc5 : Tryz.prog.cellsOf 3 = 1 := by kernel_rfl
  rcases Go.Deep.open_slice Tryz.underlying22 hf with ⟨hcs, _⟩ | ⟨x, l, c, m, n, D, Pl, hcs, _, hl, hm, hmm, _, hx⟩
  · simp [Value.cells] at hcs
    obtain ⟨rfl, rfl, rfl⟩ := hcs
    exact ⟨fun _ => ⟨false, 0, (0, 0), 0⟩, Nat.le_refl _, Nat.zero_le _, fun h => absurd h (Nat.lt_irrefl 0)⟩
  · simp [Value.cells] at hcs
    obtain ⟨rfl, rfl, rfl⟩ := hcs
    simp only [if_true] at hmm
    subst hmm
    have hc' : Tryz.prog.cellsOf 36 = 5 := hc
    rw [hc'] at hx
    have each : ∀ i, ∃ g : LAct, i < len → g.In ∧ ∀ j v, g.cells[j]? = some v → W.cell? ((x.add (i * 5)).add j) = some v := fun i => by
      by_cases hi : i < len
      · obtain ⟨cs, h1, h2⟩ := hx i (by omega)
        obtain ⟨_, hlen, hcells⟩ := World.cells?_some h1
        obtain ⟨xs, k, _, _, _, hlx, hff⟩ := DataW.trod_struct Tryz.underlying36 h2
        match xs, hlx with
        | [y0, y1, y2, y3], _ =>
          match cs, hlen with
          | [c0, c1, c2, c3, c4], _ =>
            have t0 := hff 0 _ rfl
            have t1 := hff 1 _ rfl
            have t2 := hff 2 _ rfl
            have t3 := hff 3 _ rfl
            simp [hc1] at t0
            simp [hc2] at t1
            simp [hc3] at t2
            simp [hc4] at t3
            obtain ⟨F, e0, _⟩ := DataW.trod_bool Tryz.underlying4 t0
            obtain ⟨O, e1, _, w1⟩ := DataW.trod_int Tryz.underlying31 t1
            obtain ⟨M, e3, _, w3⟩ := DataW.trod_int Tryz.underlying34 t3
            obtain ⟨ys, k2, _, _, _, hly, hgg⟩ := DataW.trod_struct Tryz.underlying33 t2
            match ys, hly with
            | [z0, z1], _ =>
              have s0 := hgg 0 _ rfl
              have s1 := hgg 1 _ rfl
              simp [hc5] at s0
              simp [hc5] at s1
              obtain ⟨K1, e4, _, w4⟩ := DataW.trod_int Tryz.underlying3 s0
              obtain ⟨K2, e5, _, w5⟩ := DataW.trod_int Tryz.underlying3 s1
              simp at e0 e1 e3 e4 e5
              subst e0 e1 e3 e4 e5
              have b1 := u64Of w1
              have b3 := i64Of w3
              have b4 := i64Of w4
              have b5 := i64Of w5
              obtain ⟨N, rfl⟩ := Int.eq_ofNat_of_zero_le b1.1
              refine ⟨⟨F, N, (K1, K2), M⟩, fun _ => ⟨⟨(show N ≤ _ by omega), ⟨b4, b5⟩, b3.1, b3.2⟩, fun j v hj => ?_⟩⟩
              have hlt : j < 5 := by have := (List.getElem?_eq_some_iff.1 hj).1; simpa [LAct.cells] using this
              rw [hcells j (by omega)]
              exact hj
      · exact ⟨⟨false, 0, (0, 0), 0⟩, fun h => absurd h hi⟩
    obtain ⟨f, hf2⟩ := Classical.axiomOfChoice each
    refine ⟨f, hl, hm, fun hn => ?_⟩
    have hc0 := (hf2 0 hn).2 0 _ rfl
    obtain ⟨b, o, sp⟩ := x
    obtain rfl : sp = none := by simpa [Addr.add] using World.cell?_spot hc0
    refine ⟨b, o, rfl, fun i hi => ⟨(hf2 i hi).1, fun j v hj => ?_⟩⟩
    have := (hf2 i hi).2 j v hj
    simpa only [Go.WideShapes.add_plain] using this
end Go.Proofs.YtadopbpfnnpnaaaGreat

/-
  The code's Copy: a lock comes in with its line; a table in part.
-/
namespace Go.Proofs.YtadopbpfnnpnaaaGreat
open Go.RowKit Go.Maps

section
variable {w w' : World} {t km om : Nat} {B : Tag → Option Nat} {T : Tb}
/-- A lock comes in, with its line. -/
theorem TbAt.addLkLn (h : TbAt w t km om B T) {k : Key} {l' : Lk} (hk : T.lk k = none) {b g : Nat} {ol : Option Nat} (hbg : b ≠ g) (hol : ∀ n, ol = some n → w.heap.size ≤ n ∧ n ≠ b ∧ n ≠ g) (hb : w.heap.size ≤ b) (hg : w.heap.size ≤ g) (hw : Onl (fun n => n = km) w w') (hl : LkAt w' (some b) (some g) ol l')
    (hm : Mp Tryz.prog KL w' km (updF (fun k => (T.lk k).map fun _ => ptrB (B (.lk k))) k (some (ptrB (some b)))) (putK k T.kk)) :
    TbAt w' t km om (updF (updF (updF B (.lk k) (some b)) (.hm k) (some g)) (.ln k) ol) { T with lk := updF T.lk k (some l'), kk := putK k T.kk } ∧ Tn w w' B (updF (updF (updF B (.lk k) (some b)) (.hm k) (some g)) (.ln k) ol) := by
  have hs : ∀ a n, B a = some n → a ≠ .km → w'.heap[n]? = w.heap[n]? := fun a n hn h1 => hw.block n (h.lt a n hn) fun e => h1 (h.inj _ _ _ hn (by rw [e]; exact h.bk))
  obtain ⟨B', hB'⟩ : ∃ B', B' = updF (updF (updF B (.lk k) (some b)) (.hm k) (some g)) (.ln k) ol := ⟨_, rfl⟩
  have b1 : B' (.lk k) = some b := by rw [hB', updF_other _ _ (by simp), updF_other _ _ (by simp), updF_same]
  have b2 : B' (.hm k) = some g := by rw [hB', updF_other _ _ (by simp), updF_same]
  have b5 : B' (.ln k) = ol := by rw [hB', updF_same]
  have b3 : ∀ a, a ≠ .lk k → a ≠ .hm k → a ≠ .ln k → B' a = B a := fun a h1 h2 h3 => by rw [hB', updF_other _ _ h3, updF_other _ _ h2, updF_other _ _ h1]
  rw [← hB']
  clear hB'
  have b4 : ∀ a n, B' a = some n → (a = .lk k ∧ n = b) ∨ (a = .hm k ∧ n = g) ∨ (a = .ln k ∧ ol = some n) ∨ (B a = some n ∧ n < w.heap.size) := fun a n hn => by
    by_cases e1 : a = .lk k
    · rw [e1, b1] at hn; cases hn; exact .inl ⟨e1, rfl⟩
    · by_cases e2 : a = .hm k
      · rw [e2, b2] at hn; cases hn; exact .inr (.inl ⟨e2, rfl⟩)
      · by_cases e3 : a = .ln k
        · rw [e3, b5] at hn; exact .inr (.inr (.inl ⟨e3, hn⟩))
        · rw [b3 a e1 e2 e3] at hn; exact .inr (.inr (.inr ⟨hn, h.lt a n hn⟩))
  refine ⟨⟨by rw [b3 _ (by simp) (by simp) (by simp)]; exact h.bt, by rw [b3 _ (by simp) (by simp) (by simp)]; exact h.bk, by rw [b3 _ (by simp) (by simp) (by simp)]; exact h.bo, fun a c n ha hc => ?_, h.blk.stays (hs _ _ h.bt (by simp)), ?_, ?_, fun k' l2 hk' => ?_, fun o' p2 ho' => ?_, fun k' hk' => ?_, fun o' ho' => ?_⟩, ⟨hw.mono fun n _ e => ⟨.km, by rw [e]; exact h.bk⟩, fun a n ha => ?_⟩⟩
  · have hbs : ∀ m, ol = some m → w.heap.size ≤ m ∧ m ≠ b ∧ m ≠ g := hol
    rcases b4 a n ha with ⟨e1, e2⟩ | ⟨e1, e2⟩ | ⟨e1, e2⟩ | ⟨e1, e2⟩ <;> rcases b4 c n hc with ⟨f1, f2⟩ | ⟨f1, f2⟩ | ⟨f1, f2⟩ | ⟨f1, f2⟩
    · rw [e1, f1]
    · exact absurd (e2.symm.trans f2) hbg
    · exact absurd e2 (hbs n f2).2.1
    · omega
    · exact absurd (f2.symm.trans e2) hbg
    · rw [e1, f1]
    · exact absurd e2 (hbs n f2).2.2
    · omega
    · exact absurd f2 (hbs n e2).2.1
    · exact absurd f2 (hbs n e2).2.2
    · rw [e1, f1]
    · have := (hbs n e2).1; omega
    · omega
    · omega
    · have := (hbs n f2).1; omega
    · exact h.inj _ _ _ e1 f1
  · have e : (fun k' => (updF T.lk k (some l') k').map fun _ => ptrB (B' (.lk k'))) = updF (fun k => (T.lk k).map fun _ => ptrB (B (.lk k))) k (some (ptrB (some b))) := by
      funext k'
      by_cases e : k' = k
      · rw [e, updF_same, updF_same, b1]; rfl
      · rw [updF_other _ _ e, updF_other _ _ e, b3 _ (by simp [e]) (by simp) (by simp)]
    show Mp _ _ _ _ (fun k' => (updF T.lk k (some l') k').map fun _ => ptrB (B' (.lk k'))) _
    rw [e]
    exact hm
  · have e : (fun o => (T.py o).map fun _ => ptrB (B' (.py o))) = fun o => (T.py o).map fun _ => ptrB (B (.py o)) := by
      funext o
      rw [b3 _ (by simp) (by simp) (by simp)]
    show Mp _ _ _ _ (fun o => (T.py o).map fun _ => ptrB (B' (.py o))) _
    rw [e]
    exact h.owners.stays (hs _ _ h.bo (by simp))
  · have hk2 : updF T.lk k (some l') k' = some l2 := hk'
    by_cases e : k' = k
    · subst e
      rw [updF_same] at hk2
      rw [← Option.some.inj hk2, b1, b2, b5]
      exact hl
    · rw [updF_other _ _ e] at hk2
      rw [b3 _ (by simp [e]) (by simp) (by simp), b3 _ (by simp) (by simp [e]) (by simp), b3 _ (by simp) (by simp) (by simp [e])]
      exact (h.lk k' l2 hk2).stays (fun n hn => hs _ n hn (by simp)) (fun n hn => hs _ n hn (by simp)) (fun n hn => hs _ n hn (by simp))
  · rw [b3 _ (by simp) (by simp) (by simp), b3 _ (by simp) (by simp) (by simp)]
    exact (h.py o' p2 ho').stays (fun n hn => hs _ n hn (by simp)) (fun n hn => hs _ n hn (by simp))
  · have hk2 : updF T.lk k (some l') k' = none := hk'
    by_cases e : k' = k
    · rw [e, updF_same] at hk2; cases hk2
    · rw [updF_other _ _ e] at hk2
      rw [b3 _ (by simp [e]) (by simp) (by simp), b3 _ (by simp) (by simp [e]) (by simp), b3 _ (by simp) (by simp) (by simp [e])]
      exact h.lk0 k' hk2
  · rw [b3 _ (by simp) (by simp) (by simp), b3 _ (by simp) (by simp) (by simp)]
    exact h.py0 o' ho'
  · rcases b4 a n ha with ⟨_, e⟩ | ⟨_, e⟩ | ⟨_, e⟩ | ⟨e, _⟩
    · exact .inr (by omega)
    · exact .inr (by omega)
    · exact .inr (hol n e).1
    · exact .inl ⟨a, e⟩
/-- Another list of the same keys. -/
theorem Mp.relist {α : Type} {P : Program} {K : KK α} {w : World} {m : Nat} {f : α → Option Value} {ks ks' : List α} (h : Mp P K w m f ks) (hn : ks'.Nodup) (hm : ∀ a, a ∈ ks' ↔ a ∈ ks) : Mp P K w m f ks' := by
  obtain ⟨D, h1, hD⟩ := h
  have hl : ks'.length = ks.length := ((List.perm_ext_iff_of_nodup hn hD.nodup).2 hm).length_eq
  exact ⟨D, by rw [hl]; exact h1, ⟨hD.at_, hD.has, hD.keys, hD.dom, hn, fun a => (hm a).trans (hD.mem a)⟩⟩
/-- A table of which only some keys, and some owners, are there. -/
def Tb.part (T : Tb) (a : List Key) (b : List Nat) : Tb := ⟨fun k => if k ∈ a then T.lk k else none, fun o => if o ∈ b then T.py o else none, T.many, a, b⟩
theorem part_lk (T : Tb) (a : List Key) (b : List Nat) {k : Key} {l : Lk} (h : T.lk k = some l) : ({ T.part a b with lk := updF (T.part a b).lk k (some l), kk := putK k a } : Tb) = T.part (putK k a) b := by
  suffices e : updF (T.part a b).lk k (some l) = (T.part (putK k a) b).lk by
    show (⟨updF (T.part a b).lk k (some l), _, _, _, _⟩ : Tb) = _
    rw [e]
    rfl
  unfold Tb.part
  funext k'
  by_cases e : k' = k
  · rw [e, updF_same]
    show _ = if k ∈ putK k a then T.lk k else none
    rw [if_pos (mem_putK.2 (.inl rfl)), h]
  · rw [updF_other _ _ e]
    show (if k' ∈ a then _ else _) = if k' ∈ putK k a then _ else _
    by_cases e2 : k' ∈ a
    · rw [if_pos e2, if_pos (mem_putK.2 (.inr e2))]
    · rw [if_neg e2, if_neg fun h => by
        rcases mem_putK.1 h with h | h
        · exact e h
        · exact e2 h]
theorem part_py (T : Tb) (a : List Key) (b : List Nat) {o : Nat} {p : Py} (h : T.py o = some p) : ({ T.part a b with py := updF (T.part a b).py o (some p), oo := putK o b } : Tb) = T.part a (putK o b) := by
  suffices e : updF (T.part a b).py o (some p) = (T.part a (putK o b)).py by
    show (⟨_, updF (T.part a b).py o (some p), _, _, _⟩ : Tb) = _
    rw [e]
    rfl
  unfold Tb.part
  funext k'
  by_cases e : k' = o
  · rw [e, updF_same]
    show _ = if o ∈ putK o b then T.py o else none
    rw [if_pos (mem_putK.2 (.inl rfl)), h]
  · rw [updF_other _ _ e]
    show (if k' ∈ b then _ else _) = if k' ∈ putK o b then _ else _
    by_cases e2 : k' ∈ b
    · rw [if_pos e2, if_pos (mem_putK.2 (.inr e2))]
    · rw [if_neg e2, if_neg fun h => by
        rcases mem_putK.1 h with h | h
        · exact e h
        · exact e2 h]
theorem part_new (T : Tb) : ({ Tb.new with many := T.many } : Tb) = T.part [] [] := by
  unfold Tb.part Tb.new
  simp
theorem TbAt.whole {c km' om' : Nat} {B' : Tag → Option Nat} {a : List Key} {b : List Nat} (h : TbAt w t km om B T) (hc : TbAt w' c km' om' B' (T.part a b)) (ha : ∀ k, k ∈ a ↔ k ∈ T.kk) (hb : ∀ o, o ∈ b ↔ o ∈ T.oo) : TbAt w' c km' om' B' T := by
  have e1 : (T.part a b).lk = T.lk := by
    funext k
    show (if k ∈ a then T.lk k else none) = _
    by_cases e : k ∈ a
    · rw [if_pos e]
    · rw [if_neg e]
      have := h.keys.mem k
      cases e2 : T.lk k with
      | none => rfl
      | some l => exact absurd ((ha k).2 (this.2 (by simp [e2]))) e
  have e2 : (T.part a b).py = T.py := by
    funext k
    show (if k ∈ b then T.py k else none) = _
    by_cases e : k ∈ b
    · rw [if_pos e]
    · rw [if_neg e]
      have := h.owners.mem k
      cases e2 : T.py k with
      | none => rfl
      | some l => exact absurd ((hb k).2 (this.2 (by simp [e2]))) e
  have hk := hc.keys.relist h.keys.nodup fun k => (ha k).symm
  have ho := hc.owners.relist h.owners.nodup fun k => (hb k).symm
  have hl := hc.lk
  have hp := hc.py
  have hl0 := hc.lk0
  have hp0 := hc.py0
  rw [e1] at hk hl hl0
  rw [e2] at ho hp hp0
  exact ⟨hc.bt, hc.bk, hc.bo, hc.inj, hc.blk, hk, ho, hl, hp, hl0, hp0⟩
theorem LnAt.any {ob : Option Nat} {v : Value} {ws : List (Nat × Int)} (h : LnAt w ob v ws false) (p : Bool) : LnAt w ob v ws p := by
  rcases h with h | ⟨b, off, cap, cs, h1, h2, h3, h4, h5, h6, h7, h8⟩
  · exact .inl h
  · exact .inr ⟨b, off, cap, cs, h1, h2, h3, h4, h5, h6, h7, fun _ => h8 rfl⟩
end
end Go.Proofs.YtadopbpfnnpnaaaGreat

/-
  The library's clones of a map and of a line.
-/
namespace Go.Proofs.YtadopbpfnnpnaaaGreat
open Go.RowKit Go.Maps

section
variable {α : Type} {K : KK α} {w : World} {m : Nat} {f : α → Option Value} {ks : List α}
theorem gr_alloc (w : World) (o : Obj) : Gr w (w.alloc o) := (Gr.refl w).alloc (Nat.le_refl _) _
theorem Mp.cloned {P : Program} (h : Mp P K w m f ks) : ∃ es ck, w.heap[m]? = some (.map es ck) ∧ Mp P K (w.alloc (.map es ck)) w.heap.size f ks := by
  obtain ⟨D, ⟨es, ck, hb, F, hs, hD2⟩, hD⟩ := h
  exact ⟨es, ck, hb, D, ⟨es, ck, heap_alloc_new w _, F, hs, hD2⟩, hD⟩
set_option maxRecDepth 100000 in
set_option maxHeartbeats 2000000 in
theorem mclone_h (h : Mp Tryz.prog K w m f ks) : Calls Tryz.prog 18 #[.map (some m)] w fun e w' => e = .returned (.map (some w.heap.size)) ∧ Mp Tryz.prog K w' w.heap.size f ks ∧ Gr w w' ∧ w'.heap.size = w.heap.size + 1 := by
  obtain ⟨es, ck, hb, hM⟩ := h.cloned
  have HE := Lib.hid (And.intro hM (And.intro (gr_alloc w (.map es ck)) (World.size_alloc w (.map es ck))))
  have hq := fun w => run_eql_map_nil_sl (P := Tryz.prog) w TMh _ _ (some m) Tryz.underlying53
  clear h hM
  go_enter Tryz.func18, Tryz.ntmps18
  go_wp2
  rw [run_callFunc_extern Tryz.func43 (by kernel_rfl) (by kernel_rfl) (by kernel_rfl) (e := Extern.MapsClone.clone) (by kernel_rfl), run_maps_clone_sl w TMh hb]
  simp only [Result.andThen]
  rw [Oper.upon_value]
  go_wp2
  rw [run_typeAssert_map_sl _ TMh 20 _ _ _ Tryz.underlying53]
  simp only [Result.andThen]
  rw [Oper.upon_value]
  go_wp2
  go_ret
  exact ⟨rfl, HE.out⟩
set_option maxRecDepth 100000 in
set_option maxHeartbeats 2000000 in
theorem mclone_k (h : Mp Tryz.prog K w m f ks) : Calls Tryz.prog 20 #[.map (some m)] w fun e w' => e = .returned (.map (some w.heap.size)) ∧ Mp Tryz.prog K w' w.heap.size f ks ∧ Gr w w' ∧ w'.heap.size = w.heap.size + 1 := by
  obtain ⟨es, ck, hb, hM⟩ := h.cloned
  have HE := Lib.hid (And.intro hM (And.intro (gr_alloc w (.map es ck)) (World.size_alloc w (.map es ck))))
  have hq := fun w => run_eql_map_nil_sl (P := Tryz.prog) w TMs _ _ (some m) Tryz.underlying63
  clear h hM
  go_enter Tryz.func20, Tryz.ntmps20
  go_wp2
  rw [run_callFunc_extern Tryz.func43 (by kernel_rfl) (by kernel_rfl) (by kernel_rfl) (e := Extern.MapsClone.clone) (by kernel_rfl), run_maps_clone_sl w TMs hb]
  simp only [Result.andThen]
  rw [Oper.upon_value]
  go_wp2
  rw [run_typeAssert_map_sl _ TMs 20 _ _ _ Tryz.underlying63]
  simp only [Result.andThen]
  rw [Oper.upon_value]
  go_wp2
  go_ret
  exact ⟨rfl, HE.out⟩
end
section
variable {w : World} {ob : Option Nat} {v : Value} {ws : List (Nat × Int)} {pop : Bool}
theorem wcells_each (ws : List (Nat × Int)) : ∀ u, u ∈ wcells ws → u.oneCell' = true := fun u hu => by
  obtain ⟨p, -, hp⟩ := List.mem_flatMap.1 hu
  simp at hp
  rcases hp with rfl | rfl <;> rfl
/-- An append, by its run equation. -/
theorem wpList_app_run {ops : Array Oper} {rest : List Oper} {o : Oper} {a : Act} {w w' : World} {Q : Exit → Act → World → Prop} (hg : o.guard = none) (s x : Operand) {t : TypeId} (ho : o.op = .call { callee := .builtin .append, args := #[s, x], argTypes := #[t, t] })
    {vs vx v' : Value} (hs : a.eval s = vs) (hx : a.eval x = vx) (hr : (Builtin.append_ #[t, t] o.type #[vs, vx]).run Tryz.prog w = .ok v' w') (h : wpList Tryz.prog ops Q rest (a.put o.dst v') w') : wpList Tryz.prog ops Q (o :: rest) a w :=
  wpList_plain hg fun _ hK => by
    unfold Oper.wp execOp
    simp only [ho, resolve, invoke, builtin, Sem.run_bind, Sem.run_pure, Result.andThen_ok, List.map_toArray, List.map_cons, List.map_nil, hs, hx, hr]
    exact hK _ _ h
set_option maxRecDepth 100000 in
set_option maxHeartbeats 2000000 in
theorem lclone_any (h : LnAt w ob v ws pop) (hb : ws.length ≤ 1000000000) : Calls Tryz.prog 19 #[v] w fun e w' => ∃ v' ob', e = .returned v' ∧ LnAt w' ob' v' ws false ∧ Gr w w' ∧ (∀ n, ob' = some n → w.heap.size ≤ n ∧ n < w'.heap.size) := by
  rcases h with ⟨rfl, rfl, rfl⟩ | ⟨lb, off, cap, cs, rfl, rfl, r3, r4, r5, r6, r7, -⟩
  · have hq := fun w => Lib.run_eql_slice_nil (P := Tryz.prog) w TWts TWt none 0 0 0 0 Tryz.underlying54
    go_enter Tryz.func19, Tryz.ntmps19
    go_wp2_with fail
    go_ret
    exact ⟨_, none, rfl, .inl ⟨rfl, rfl, rfl⟩, Gr.refl _, fun n e => by cases e⟩
  · obtain ⟨W, hW⟩ : ∃ W, W = w.alloc (.cells #[] TWt) := ⟨_, rfl⟩
    have gW : Gr w W := by rw [hW]; exact gr_alloc _ _
    have hr : W.ownsRow w.heap.size TWt 2 (.slice (some ⟨w.heap.size, 0, none⟩) 0 0) 0 [] := by
      rw [hW]
      exact ⟨rfl, .inr ⟨_, _, _, rfl, Nat.le_refl _, heap_alloc_new w _, Nat.le_refl _, Nat.zero_le _, by simp, by simp⟩⟩
    obtain ⟨i, hi, hz, hsz, hbb⟩ := inf_parts wt_info
    obtain ⟨v', w', e1, e2, e3, -⟩ := run_append_own (P := Tryz.prog) W w.heap.size TWts TWts TWt i (.agg #[.int .u64 0, .int .i64 0]) 2 16 Tryz.underlying54 hi hz hsz hbb rfl (by decide) (.slice (some ⟨w.heap.size, 0, none⟩) 0 0) 0 [] hr ⟨lb, 2 * off, none⟩ ws.length cap (wcells ws) (by rw [wcells_len]; omega) (fun j u hj => by
      have := r7 j u hj
      rw [add_lit', gW.cell r3.lt, r3.cell]
      exact this) (wcells_each ws) (by simp only [maxLen]; omega) (by omega) gW.size
    have hL : ∃ ob', LnAt w' ob' v' ws false ∧ ∀ n, ob' = some n → w.heap.size ≤ n ∧ n < w'.heap.size := by
      rw [Nat.zero_add, List.nil_append] at e2
      have hlt := World.ownsRow.lt e2
      rcases e2.2 with ⟨rfl, h0⟩ | ⟨g2, cap2, cur2, rfl, q1, q2, q3, q4, q5, q6⟩
      · exact ⟨none, .inl ⟨rfl, rfl, List.eq_nil_of_length_eq_zero h0⟩, fun n e => by cases e⟩
      · refine ⟨some g2, .inr ⟨g2, 0, cap2, cur2, rfl, rfl, q2, q3, q4, by omega, fun j u hj => ?_, fun _ => ⟨rfl, q5⟩⟩, fun n e => by cases e; exact hlt g2 rfl⟩
        have := World.ownsRow.cells e2 (g := g2) rfl j u hj
        rw [add_lit', Nat.zero_add, cell_of_row w' g2 j cur2 TWt (0, 0) q2] at this
        rw [Nat.mul_zero, Nat.zero_add]
        exact this
    have hg : Gr w w' := gW.grown e3 gW.size fun n e => by cases e; exact Nat.le_refl _
    have HE := Lib.hid (And.intro hL hg)
    have hq := fun w => Lib.run_eql_slice_nil (P := Tryz.prog) w TWts TWt (some ⟨lb, 2 * off, none⟩) ws.length cap 0 0 Tryz.underlying54
    obtain ⟨N, hN⟩ : ∃ N, N = ws.length := ⟨_, rfl⟩
    rw [← hN] at e1 hq ⊢
    clear hL hg e2 e3 r3 r4 r5 r6 r7 hr gW hi hz hsz hbb hN hb
    go_enter Tryz.func19, Tryz.ntmps19
    go_wp2_with (at_builtin; rw [show (w.alloc (.cells #[] 61)) = W from hW.symm]; refine wpList_app_run rfl (.tmp 5) (.tmp 6) rfl rfl rfl e1 ?_)
    go_ret
    exact ⟨_, _, rfl, HE.out.1.choose_spec.1, HE.out.2, HE.out.1.choose_spec.2⟩
end
end Go.Proofs.YtadopbpfnnpnaaaGreat

