
/-
  The names of a path, as the code takes it apart.
-/
import Derived.Test.YtiffbkgohlbgeaaPa4
import Derived.RangeFuncBox
import Derived.Maps.AppendAt
namespace Go.Proofs.Ytiffbkgohlbgeaa
open Go.RowKit Go.Shelf
set_option linter.unusedVariables false
set_option linter.unusedSimpArgs false
attribute [local go_sem] Oper.semAt_some

abbrev TSS : TypeId := 22
/-- The call's own row of texts. -/
def SRow (w : World) (base : Nat) (v : Value) (xs : List ByteArray) : Prop := w.ownsRow base TStr 1 v xs.length (xs.map Value.string)
theorem SRow.nil (w : World) (base : Nat) : SRow w base (.slice none 0 0) [] := World.ownsRow_nil _ _ _ _
theorem SRow.gr {w w' : World} {base : Nat} {v : Value} {xs : List ByteArray} (h : SRow w base v xs) (g : Gr w w') : SRow w' base v xs := by
  refine ⟨h.1, ?_⟩
  rcases h.2 with h2 | ⟨b, cap, cur, e, h0, hg, r⟩
  · exact .inl h2
  · exact .inr ⟨b, cap, cur, e, h0, (g.block b (Array.getElem?_eq_some_iff.1 hg).1).trans hg, r⟩
theorem SRow.low {w : World} {base base' : Nat} {v : Value} {xs : List ByteArray} (h : SRow w base v xs) (hb : base' ≤ base) : SRow w base' v xs := by
  refine ⟨h.1, ?_⟩
  rcases h.2 with h2 | ⟨b, cap, cur, e, h0, r⟩
  · exact .inl h2
  · exact .inr ⟨b, cap, cur, e, Nat.le_trans hb h0, r⟩
/-- What a slice of texts reads as. -/
structure SSl (w : World) (p : Option Addr) (n c : Nat) (xs : List ByteArray) : Prop where
  len : xs.length = n
  cap : n ≤ c
  most : c ≤ maxLen
  at' : 0 < n → ∃ b o, p = some ⟨b, o, none⟩ ∧ ∀ (j : Nat) x, xs[j]? = some x → w.cell? ⟨b, o + j, none⟩ = some (.string x)
theorem SSl.gr {w w' : World} {p : Option Addr} {n c : Nat} {xs : List ByteArray} (h : SSl w p n c xs) (g : Gr w w') : SSl w' p n c xs :=
  ⟨h.len, h.cap, h.most, fun hn => by
    obtain ⟨b, o, e, hc⟩ := h.at' hn
    exact ⟨b, o, e, fun j x hj => (Below.cell g (p := ⟨b, o + j, none⟩) (World.block_lt_of_cell? w _ (hc j x hj))).trans (hc j x hj)⟩⟩
theorem SRow.sl {w : World} {base : Nat} {v : Value} {xs : List ByteArray} (h : SRow w base v xs) : ∃ p c, v = .slice p xs.length c ∧ SSl w p xs.length c xs := by
  rcases h.2 with ⟨rfl, hn⟩ | ⟨g, cap, cur, rfl, hb, hg, h1, h2, h3, h4⟩
  · exact ⟨none, 0, by rw [hn], rfl, by omega, Nat.zero_le _, fun h => by omega⟩
  · refine ⟨_, cap, rfl, rfl, h1, h2, fun hn => ⟨g, 0, rfl, fun j x hj => ?_⟩⟩
    have hlt : j < xs.length := (List.getElem?_eq_some_iff.1 hj).1
    have e : (xs.map Value.string)[j]? = some (.string x) := by rw [List.getElem?_map, hj]; rfl
    rw [← h4, List.getElem?_take, if_pos (by omega)] at e
    rw [Nat.zero_add, cell_of_row w g _ cur TStr (0, 0) hg, ← e]
    simp

/-- What lies there while the names are laid: the box, the row. -/
def SpAt (w : World) (B n₀ : Nat) (xs : List ByteArray) (W : World) : Prop := (∃ v, Boxed W B TSS v ∧ W.ownsRow n₀ TStr 1 v xs.length (xs.map Value.string) ∧ True) ∧ Below w.heap.size w W ∧ n₀ ≤ W.heap.size
theorem spAt_own (w : World) (B n₀ C : Nat) (f : List (Nat × ByteArray) → List ByteArray) (hC : w.heap.size ≤ C) : OwnFrom C (fun pre W => SpAt w B n₀ (f pre) W) :=
  OwnFrom.and (Own.from (holdsRow_own n₀ B TSS TStr 1 (fun pre => (f pre).length) (fun pre => (f pre).map Value.string) (fun _ _ => True)) _) (OwnFrom.and (ownFrom_below (Nat.le_refl _) hC) (fun s X Y row h hg hr => Nat.le_trans h hg.size))

theorem row_block {W : World} {n₀ : Nat} {v : Value} {k : Nat} {xs : List Value} (h : W.ownsRow n₀ TStr 1 v k xs) (j : Nat) (e : v.ownBlock = some j) : n₀ ≤ j ∧ ∃ cur, W.heap[j]? = some (.cells cur TStr (0, 0)) := by
  rcases h.2 with ⟨rfl, _⟩ | ⟨g, cap, cur, rfl, hb, hg, _⟩
  · simp [Value.ownBlock] at e
  · obtain rfl : g = j := by simpa [Value.ownBlock] using e
    exact ⟨hb, cur, hg⟩
theorem sp_step {w W W1 : World} {B n₀ pb k : Nat} {v v' : Value} {xs : List ByteArray} {x : ByteArray} (hv : Boxed W B TSS v) (hrow : W.ownsRow n₀ TStr 1 v k (xs.map Value.string)) (hB : Below w.heap.size w W) (hs : n₀ ≤ W.heap.size) (hwB : w.heap.size ≤ B) (hn : w.heap.size ≤ n₀) (hBp : pb ≠ B) (hp : pb < n₀) (hk : k = xs.length)
    (hown' : W1.ownsRow n₀ TStr 1 v' (k + 1) (xs.map Value.string ++ [Value.string x])) (hgrow : (W.alloc (.cells #[.string x] TStr)).grownBy W1 v.ownBlock) :
    KeepsOthers W (W1.setCell ⟨B, 0, none⟩ v') ∧ HoldS firm (fun k => k = pb) W (W1.setCell ⟨B, 0, none⟩ v') ∧ SpAt w B n₀ (xs ++ [x]) (W1.setCell ⟨B, 0, none⟩ v') := by
  have hv1 : Boxed W1 B TSS v := (hv.alloc _).kept hgrow (hv.not_row (by decide) hrow)
  have hrow1 := hrow.alloc (.cells #[.string x] TStr)
  have hsz : (W.alloc (.cells #[.string x] TStr)).heap.size = W.heap.size + 1 := by simp
  refine ⟨((KeepsOthers.alloc W _).trans (KeepsOthers.of_grownBy hgrow fun j o ej hj => ?_)).trans (KeepsOthers.setCell _ _ _), ⟨?_, fun j o hj h1 _ => ?_⟩, ⟨v', hv1.set v', ?_, trivial⟩, ?_, ?_⟩
  · obtain ⟨_, cur, h⟩ := row_block hrow1 j ej
    rw [h] at hj
    cases hj
    rfl
  · have := hgrow.size
    simp at this ⊢
    omega
  · subst hj
    have hlt : j < W.heap.size := (Array.getElem?_eq_some_iff.1 h1).1
    refine (heap_setCell_other W1 _ j _ (show j ≠ B from hBp)).trans ((hgrow.block j (by omega) (fun e => ?_)).trans ((Below.heap_alloc W _ j hlt).trans h1))
    have := (row_block hrow1 j e.symm).1
    omega
  · have h := hown'.kept (grownBy_setCell' W1 B v') (.inr (hv1.not_row (by decide) hown').symm)
    rw [List.length_append, List.map_append, ← hk]
    exact h
  · exact ((hB.alloc hB.size _).grown hgrow (by rw [hsz]; have := hB.size; omega) fun j ej => Nat.le_trans hn (row_block hrow1 j ej).1).setCell (p := ⟨B, 0, none⟩) hwB v'
  · have := hgrow.size
    simp at this ⊢
    omega

def RetSplit (s : ByteArray) (w : World) (en : Ending) (w' : World) : Prop := ∃ v, en = .returned (.tuple #[v, .int .i64 (wrongR s)]) ∧ SRow w' w.heap.size v (splitR s) ∧ Gr w w'

theorem Try.info_str : (Try.prog.info? TStr).map (fun i => (i.zero, i.size, i.bytes)) = some (some (.string ⟨#[]⟩), 1, 16) := by kernel_rfl

set_option maxRecDepth 100000 in
set_option maxHeartbeats 2000000 in
theorem split_any (s : ByteArray) (w : World) : Calls Try.prog 10 #[.string s] w (RetSplit s w) := by
  by_cases hz : wrongR s = 0
  · have hg := wrong_zero hz
    have hN := Lib.hid (show splitR s = names s by unfold splitR; rw [if_pos hz])
    have h1 := hg.pos
    have h2 := hg.small
    have H8 := Lib.hid hg.few
    have HZ := Lib.hid hz
    clear hz hg
    obtain ⟨i0, hi, hz0, hz1, hz2⟩ := info_parts Try.info_str
    refine (callsIn_wide (n := 8)).1 ?_
    refine callsIn_of_wp_marks Try.func10 rfl trivial ?_ rfl
    simp only [Try.ntmps10, List.size_toArray, List.length_cons, List.length_nil, Nat.reduceAdd, Nat.reduceSub, Array.replicate_succ, Array.replicate_zero, List.push_toArray, List.append_toArray, List.nil_append, List.cons_append]
    gi_wp2_with fail
    refine ⟨trivial, ?_⟩
    refine (callsIn_wide.2 (wrong_any s w)).mono ?_
    rintro e w1 ⟨rfl, g1⟩
    rw [HZ.out]
    have HG1 := Lib.hid g1
    clear g1
    gi_wp2_with fail
    refine ⟨trivial, ?_⟩
    refine (callsIn_wide.2 (pieces_any s _)).mono ?_
    rintro e V ⟨rfl, hV⟩
    have hbx : Boxed V w1.heap.size TSS (.slice none 0 0) := by rw [hV]; exact (Boxed.new w1 TSS _).alloc _
    have HB : Hid (Blk V (w1.heap.size + 1) TStr #[.string s]) := Lib.hid (by
      rw [hV]
      have := Blk.new (w1.alloc (.cells #[.slice none 0 0] TSS)) TStr #[.string s]
      rwa [World.size_alloc] at this)
    have gV : Gr w V := by rw [hV]; exact Gr.trans HG1.out (gr_alloc2 _ _ _)
    have HSZ : Hid (V.heap.size = w1.heap.size + 2 ∧ w.heap.size ≤ V.heap.size) := Lib.hid ⟨by rw [hV]; simp, gV.size⟩
    have HX : Hid (SpAt w w1.heap.size V.heap.size [] V) := Lib.hid ⟨⟨_, hbx, World.ownsRow_nil _ _ _ _, trivial⟩, gV, Nat.le_refl _⟩
    have HS1 : Hid (w.heap.size ≤ w1.heap.size) := Lib.hid HG1.out.size
    clear hV hbx gV
    rw [World.size_alloc]
    have he := seq_not_nil (w1.heap.size + 1) V
    gi_wp2_with fail
    refine wpIn_range_told (F := Fence.wide) rfl (by omega) (gf := 29) (lb := #[.pointer (some ⟨w1.heap.size + 1, 0, none⟩)]) rfl trivial (enters_of Try.func29 (by kernel_rfl) rfl)
      (pieces1_told 7 (by omega) (w1.heap.size + 1) s V HB.out h1 (by omega)) (Below.refl _ _) (fun _ => rfl)
      (fun pre W => SpAt w w1.heap.size V.heap.size (pre.map (·.2)) W) (fun _ _ => False) (spAt_own _ _ _ _ (fun pre => pre.map (·.2)) HSZ.out.2) (fun _ _ _ _ h _ _ => h) HX.out
      (fun pre x b W => (∃ zs, pre.map (·.2) ++ x.2 :: zs = names s) ∧ b = ({ tmps := #[.string s, undef, .slice none 0 0, .int .i64 0, .int .i64 0, .pointer (some ⟨w1.heap.size, 0, none⟩), undef, .string x.2, .string s, .int .i64 0, .int .i64 0, .bool false, undef, .string s, seqP (w1.heap.size + 1), .int .i64 (x.1 : Nat), .string x.2, undef, undef, undef, undef, undef], defers := [] } : Act)) ?hAx ?assign ?body ?done ?stop
    case hAx =>
      rintro pre x b s X Y row h hg hr
      exact h
    case assign =>
      rintro l pre x W K hi ⟨-, hpre⟩ hK
      gi_wp2_with fail
      exact hK _ _ ((KeepsOthers.refl W).from _) (HoldS.refl _ _ _) hi ⟨hpre, rfl⟩
    case done =>
      rintro D ys W hD hS ⟨⟨v, hv, hrow, _⟩, hB, hsV⟩ hK
      have hc := hv.cell
      gi_wp2_with fail
      refine ⟨by simp, .inl ⟨_, _, rfl, run_takeDeferred hK, ?_⟩⟩
      refine ⟨.tuple #[v, .int .i64 0], by simp [results, Try.results10, go_sem], v, by rw [HZ.out], ?_, hB.trans (belowK_b (w := w) (Nat.le_refl _) W D _ _ (by have := HSZ.out.2; omega) hK rfl rfl)⟩
      rw [hN.out, ← hS]
      exact SRow.low (ownsRow_putObj hrow _ hK rfl) HSZ.out.2
    case stop =>
      rintro D pre W hD _ h hK
      exact h.elim
    case body =>
      rintro l pre x b W8 hl ⟨⟨v, hv, hrow, _⟩, hB, hsV⟩ ⟨⟨zs, hpre⟩, rfl⟩
      have hlen : (pre.map (·.2)).length < 8 := by
        have := congrArg List.length hpre
        rw [List.length_append, List.length_cons] at this
        have := H8.out
        omega
      obtain ⟨k, hk⟩ : ∃ k, k = (pre.map (·.2)).length := ⟨_, rfl⟩
      rw [← hk] at hrow hlen
      have HK := Lib.hid hk
      clear hk hpre
      have hc := hv.cell
      gi_wp2_with (gi_at_builtin; refine wpListIn_append_own _ rfl _ _ TSS rfl V.heap.size TStr i0 (.string ⟨#[]⟩) 1 16 Try.underlying22 hi hz0 hz1 hz2 rfl (by decide) _ _ _ rfl (hrow.alloc _) ⟨W8.heap.size, 0, none⟩ 1 1 [.string x.2] rfl rfl (cell_one_new _ _ _) (by simp [Value.oneCell']) (by unfold maxLen; omega) (by omega) (by simp; omega) ?_; intro v' w1' hown' hgrow _; obtain ⟨g', cap', rfl⟩ := ownsRow_succ hown'; have hv1 := (hv.alloc _).kept hgrow (hv.not_row (by decide) hrow); have hc1 := hv1.cell; have hf1 := hv1.frozen)
      obtain ⟨k1, k2, k3⟩ := sp_step (pb := w1.heap.size + 1) hv hrow hB hsV HS1.out HSZ.out.2 (by omega) (by have := HSZ.out.1; omega) HK.out hown' hgrow
      refine And.intro (k1.from _) (And.intro k2 ?_)
      show SpAt w w1.heap.size V.heap.size ((pre ++ [x]).map (·.2)) _
      rw [List.map_append]
      exact k3
  · have hN : splitR s = [] := by unfold splitR; rw [if_neg hz]
    have HZ : (wrongR s != 0) = true := by simpa using hz
    obtain ⟨c, hc⟩ : ∃ c, c = wrongR s := ⟨_, rfl⟩
    rw [← hc] at HZ
    have HC := Lib.hid hc
    clear hz hc
    go_enter Try.func10, Try.ntmps10
    go_wp2_with fail
    refine (wrong_any s w).mono ?_
    rintro e w1 ⟨rfl, g1⟩
    rw [← HC.out]
    have HG1 := Lib.hid g1
    clear g1
    go_wp2_with fail
    go_ret2
    exact ⟨_, by rw [← HC.out]; rfl, by rw [hN]; exact SRow.nil _ _, HG1.out⟩
end Go.Proofs.Ytiffbkgohlbgeaa
