/-
  Texts, put together: Pool10 Pool11 Pool12 Wal4.
-/
import Derived.Shelf.Slices.SearchI
import Derived.Shelf.Slices.Empties
import Derived.Test.YtaemmknijmhnoaaGreatK8
import Derived.Test.YtaemmknijmhnoaaGreatK15
import Derived.Test.YtaemmknijmhnoaaGreatK16
set_option linter.unusedVariables false
set_option linter.unusedSimpArgs false
/-
  Rows of numbers: one behind the other (slices.Concat at int).
-/
namespace Go.Proofs.YtaemmknijmhnoaaGreat
open Go.RowKit Go.Maps

/-- Numbers that a slice reads. -/
def ISl (w : World) (v : Value) (xs : List Nat) : Prop :=
  (v = .slice none 0 0 ∧ xs = []) ∨ ∃ g o c, v = .slice (some ⟨g, o, none⟩) xs.length c ∧ xs.length ≤ c ∧ c ≤ maxLen ∧ ∀ j, j < xs.length → w.cell? ⟨g, o + j, none⟩ = some (.int .i64 ((xs.getD j 0 : Nat) : Int))
theorem ISl.gr {w w' : World} {v : Value} {xs : List Nat} (h : ISl w v xs) (g : Gr w w') : ISl w' v xs := by
  rcases h with h | ⟨b, o, c, h1, h2, h3, h4⟩
  · exact .inl h
  · exact .inr ⟨b, o, c, h1, h2, h3, fun j hj => by rw [g.cell (blk_lt (h4 j hj))]; exact h4 j hj⟩
theorem Ints.isl {w : World} {base : Nat} {v : Value} {xs : List Nat} (h : Ints w base v xs) : ISl w v xs := by
  rcases h.2 with ⟨rfl, h0⟩ | ⟨g, cap, cur, rfl, hb, hg, h1, h2, _⟩
  · exact .inl ⟨rfl, List.eq_nil_of_length_eq_zero h0⟩
  · exact .inr ⟨g, 0, cap, rfl, h1, h2, fun j hj => by rw [Nat.zero_add]; exact Ints.cellAt h j hj⟩
theorem ISl.upto {w : World} {g o c : Nat} {xs : List Nat} (h : ISl w (.slice (some ⟨g, o, none⟩) xs.length c) xs) (k : Nat) (hk : k ≤ xs.length) : ISl w (.slice (some ⟨g, o, none⟩) k c) (xs.take k) := by
  rcases h with ⟨h, _⟩ | ⟨b, o', c', h1, h2, h3, h4⟩
  · simp at h
  · simp only [Value.slice.injEq, Option.some.injEq, Addr.mk.injEq, and_true, true_and] at h1
    obtain ⟨⟨rfl, rfl⟩, rfl⟩ := h1
    have hl : (xs.take k).length = k := by rw [List.length_take]; omega
    refine .inr ⟨g, o, c, by rw [hl], by omega, h3, fun j hj => ?_⟩
    rw [hl] at hj
    rw [h4 j (by omega)]
    simp [List.getD, List.getElem?_take, hj]
theorem ISl.from {w : World} {g o c : Nat} {xs : List Nat} (h : ISl w (.slice (some ⟨g, o, none⟩) xs.length c) xs) (k : Nat) (hk : k ≤ xs.length) (g' o' : Nat) (he : k < c → g' = g ∧ o' = o + k) : ISl w (.slice (some ⟨g', o', none⟩) (xs.length - k) (c - k)) (xs.drop k) := by
  rcases h with ⟨h, _⟩ | ⟨b, o2, c', h1, h2, h3, h4⟩
  · simp at h
  · simp only [Value.slice.injEq, Option.some.injEq, Addr.mk.injEq, and_true, true_and] at h1
    obtain ⟨⟨rfl, rfl⟩, rfl⟩ := h1
    have hl : (xs.drop k).length = xs.length - k := List.length_drop ..
    refine .inr ⟨g', o', c - k, by rw [hl], by omega, by omega, fun j hj => ?_⟩
    rw [hl] at hj
    obtain ⟨rfl, rfl⟩ := he (by omega)
    rw [show o + k + j = o + (k + j) by omega, h4 (k + j) (by omega)]
    simp [List.getD, List.getElem?_drop]
theorem wpList_app_isl {ops : Array Oper} {rest : List Oper} {o : Oper} {a : Act} {w : World} {Q : Exit → Act → World → Prop} (hg : o.guard = none) (s x : Operand) (ho : o.op = .call { callee := .builtin .append, args := #[s, x], argTypes := #[TNI, TNI] })
    {v : Value} {base : Nat} {xs : List Nat} (hs : a.eval s = v) (hr : Ints w base v xs) {vx : Value} {ys : List Nat} (hx : a.eval x = vx) (hy : ISl w vx ys) (hk : xs.length + ys.length ≤ 1000000) (hb : base ≤ w.heap.size)
    (h : ∀ v' w', Ints w' base v' (xs ++ ys) → w.grownBy w' v.ownBlock → wpList Tryz.prog ops Q rest (a.put o.dst v') w') : wpList Tryz.prog ops Q (o :: rest) a w := by
  obtain ⟨i, hi, hz, hsz, hbb⟩ := info_parts info_int
  rcases hy with ⟨rfl, rfl⟩ | ⟨g, q, c, rfl, h2, h3, h4⟩
  · refine wpList_append_own_none hg s x TNI ho base TI i 1 Tryz.underlying55 hi v xs.length _ hs hr hx ?_
    exact h v w (by simpa using hr) (World.grownBy.refl _ _)
  · refine wpList_append_own w hg s x TNI ho base TI i (.int .i64 0) 1 8 Tryz.underlying55 hi hz hsz hbb rfl (by decide) v xs.length _ hs hr ⟨g, q, none⟩ ys.length c (ys.map fun (x : Nat) => Value.int .i64 (x : Int)) hx
      (by simp) (fun j u hj => ?_) (fun u hu => ?_) (by simp only [maxLen]; omega) (by omega) hb ?_
    · have hlt : j < ys.length := by simpa using (List.getElem?_eq_some_iff.1 hj).1
      have h5 := h4 j hlt
      have e : ((⟨g, q, none⟩ : Addr).add j) = ⟨g, q + j, none⟩ := by
        rcases Nat.eq_zero_or_pos j with rfl | h0
        · simp [Addr.add]
        · have hn : j ≠ 0 := by omega
          simp [Addr.add, hn]
      rw [e, h5, ← hj, List.getElem?_map]
      simp [List.getD, hlt]
    · obtain ⟨x, _, rfl⟩ := List.mem_map.1 hu
      rfl
    · intro v' w' k1 k2 _
      refine h v' w' ?_ k2
      unfold Ints
      rw [List.map_append, List.length_append]
      exact k1
def GrownI (w : World) (e : Ending) (w' : World) : Prop := ∃ v, e = .returned v ∧ Ints w' w.heap.size v [] ∧ Gr w w'
set_option maxHeartbeats 1000000 in
theorem growI_any (n : Nat) (w : World) (hbig : n ≤ 1000000) : Calls Tryz.prog 158 #[.slice none 0 0, .int .i64 n] w (GrownI w) := by
  rcases Nat.eq_zero_or_pos n with rfl | hn
  · go_enter Tryz.func158, Tryz.ntmps158
    go_wp2
    go_ret
    exact ⟨_, rfl, World.ownsRow_nil _ _ _ _, Gr.refl _⟩
  · obtain ⟨i0, hi, hz0, hz1, hz2⟩ := info_parts info_int
    have hrz : ∀ ty, (Builtin.append_ #[55, 3] ty #[.slice none 0 0, .int .i64 (n : Int)]).run Tryz.prog w =
        .ok (.slice (some ⟨w.heap.size, 0, none⟩) n (grownCap w n 0 TI)) (w.drew.alloc (.cells (#[] ++ Builtin.zeroCells (Value.int .i64 0).cells n ++ Builtin.zeroCells (Value.int .i64 0).cells (grownCap w n 0 TI - n)) TI)) := fun ty => by
      have h := Lib.run_append_grow_zeros (P := Tryz.prog) w 55 3 ty TI i0 (.int .i64 0) .i64 .i64 Tryz.underlying55 Tryz.underlying3 hi hz0 none 0 0 [] (by rw [hz1]; exact run_firstCells_none w.drew 1 0 0 0) n hn (by omega) (by omega) (by omega)
        (by rw [hz2]; omega) (by rw [hz2]; exact growslice_fits (by omega) (by omega))
      simpa using h
    have hGn : n ≤ grownCap w n 0 TI := grownCap_ge w _ _ _
    have hG63 : grownCap w n 0 TI ≤ maxLen := grownCap_le_maxLen w n 0 TI (by unfold maxLen; omega)
    obtain ⟨G, hG⟩ : ∃ G, G = grownCap w n 0 TI := ⟨_, rfl⟩
    rw [← hG] at hrz hGn hG63
    clear hG hi hz0 hz1 hz2
    have HG := Lib.hid hG63
    have hG63' : G ≤ 9223372036854775807 := by unfold maxLen at hG63; omega
    clear hG63
    obtain ⟨C, hC⟩ : ∃ C, C = #[] ++ Builtin.zeroCells (Value.int .i64 0).cells n ++ Builtin.zeroCells (Value.int .i64 0).cells (G - n) := ⟨_, rfl⟩
    have hCs : Hid (C.size = G * 1) := by
      show _ = _
      rw [hC]
      simp only [Array.size_append, size_zeroCells, Array.size_empty, Value.cells]
      simp
      omega
    rw [← hC] at hrz
    clear hC
    go_enter Tryz.func158, Tryz.ntmps158
    go_wp2_with (at_builtin; refine Lib.wpList_append_run _ rfl _ _ _ _ rfl _ _ rfl rfl _ _ (hrz _) ?_)
    go_ret
    refine ⟨_, rfl, ?_, ?_⟩
    · exact World.ownsRow_made (w := w.drew) C G (Nat.le_refl _) HG.out hCs.out
    · exact (Below.refl _ _).drew.alloc (Nat.le_refl _) _
/-- The first k rows, one behind the other. -/
def flatI (X : Nat → List Nat) : Nat → List Nat
  | 0 => []
  | k + 1 => flatI X k ++ X k
theorem flatI_mono (X : Nat → List Nat) {j k : Nat} (h : j ≤ k) : (flatI X j).length ≤ (flatI X k).length := by
  induction k with
  | zero => obtain rfl : j = 0 := by omega
            exact Nat.le_refl _
  | succ k ih =>
    rcases Nat.lt_or_ge j (k + 1) with h1 | h1
    · have := ih (by omega)
      simp only [flatI, List.length_append]
      omega
    · obtain rfl : j = k + 1 := by omega
      exact Nat.le_refl _
set_option maxHeartbeats 1000000 in
theorem concatI_any (q n c : Nat) (V : Nat → Value) (X : Nat → List Nat) (w : World) (hn : n ≤ 1000) (h : ∀ k, k < n → w.cell? ⟨q, k, none⟩ = some (V k) ∧ ISl w (V k) (X k)) (hbig : (flatI X n).length ≤ 1000000) :
    Calls Tryz.prog 134 #[.slice (some ⟨q, 0, none⟩) n c] w fun e w' => ∃ v, e = .returned v ∧ Ints w' w.heap.size v (flatI X n) ∧ Gr w w' := by
  have HH := Lib.hid h
  have Hbig := Lib.hid hbig
  have hn63 : n ≤ 9223372036854775807 := by omega
  have HN := Lib.hid hn
  clear h hbig hn
  go_enter Tryz.func134, Tryz.ntmps134
  go_wp2
  go_loop [3, 11] (fun t i => ∃ k : Nat, k ≤ n ∧ i = .int .i64 k ∧ t = .int .i64 ((flatI X k).length : Nat)) (fun _ i => n - (intOf i).toNat)
  case atStart => exact ⟨0, Nat.zero_le _, rfl, rfl⟩
  case round =>
    obtain ⟨k, hk, rfl, rfl⟩ := hrel
    have hle := flatI_mono X hk
    have hb2 := Hbig.out
    by_cases hlt : k < n
    · obtain ⟨hcell, hs⟩ := HH.out k hlt
      have hle2 := flatI_mono X (show k + 1 ≤ n by omega)
      have hL : (flatI X (k + 1)).length = (flatI X k).length + (X k).length := by simp only [flatI, List.length_append]
      obtain ⟨p, c2, hv⟩ : ∃ p c2, V k = .slice p (X k).length c2 := by
        rcases hs with ⟨h1, h2⟩ | ⟨g, o, c2, h1, _⟩
        · exact ⟨none, 0, by rw [h1, h2]; rfl⟩
        · exact ⟨_, _, h1⟩
      rw [hv] at hcell
      obtain ⟨m, hm⟩ : ∃ m, m = (X k).length := ⟨_, rfl⟩
      rw [← hm] at hcell hL
      have HL := Lib.hid hL
      have hSm : (flatI X k).length + m ≤ 1000000 := by omega
      clear hL hle2 hs hb2 hle hv hm
      go_wp2
      go_round
      case rel => exact ⟨k + 1, by omega, by go_num, congrArg (Value.int .i64) (by rw [HL.out]; rfl)⟩
      case measure => simp [intOf]; omega
    · obtain rfl : k = n := by omega
      clear hle
      go_wp2_with fail
      refine (growI_any _ _ hb2).mono ?_
      rintro e w1 ⟨v, rfl, own, gr⟩
      have HO := Lib.hid own
      have HB := Lib.hid gr
      clear own gr hb2
      go_wp2
      go_loopw [6, 27] (fun v i wr => ∃ j : Nat, j ≤ k ∧ i = .int .i64 j ∧ Hid (Ints wr w.heap.size v (flatI X j)) ∧ Hid (Gr w wr)) (fun _ i _ => k - (intOf i).toNat)
      case atStart => exact ⟨0, Nat.zero_le _, rfl, HO, HB⟩
      case round =>
        obtain ⟨j, hj, rfl, ho, hb⟩ := hrel
        have hbs := hb.out.size
        by_cases hlt : j < k
        · obtain ⟨hcell0, hs0⟩ := HH.out j hlt
          have hcell := (hb.out.cell (blk_lt hcell0)).trans hcell0
          have HS := Lib.hid (hs0.gr hb.out)
          have hsz : Hid ((flatI X j).length + (X j).length ≤ 1000000) := by
            have h1 := flatI_mono X (show j + 1 ≤ k by omega)
            simp only [flatI, List.length_append] at h1
            exact Nat.le_trans h1 Hbig.out
          obtain ⟨u, hu⟩ : ∃ u, u = V j := ⟨_, rfl⟩
          rw [← hu] at hcell HS
          clear hcell0 hs0 hu
          go_wp2_with (at_builtin; refine wpList_app_isl rfl (.tmp 31) (.tmp 32) rfl rfl ho.out rfl HS.out hsz.out hbs ?_)
          intro v' w' own grow
          have HO2 : Hid (Ints w' w.heap.size v' (flatI X (j + 1))) := Lib.hid own
          have HB2 : Hid (Gr w w') := hb.out.grown grow hbs (fun k hk => (World.ownsRow.lt ho.out k hk).1)
          clear own grow
          go_wp2
          go_roundw
          case rel => exact ⟨j + 1, by omega, by go_num, HO2, HB2⟩
          case measure => simp [intOf]; omega
        · obtain rfl : j = k := by omega
          go_wp2
          go_ret
          exact ⟨_, rfl, ho.out, hb.out⟩
end Go.Proofs.YtaemmknijmhnoaaGreat

/-
  The code's pool: the order in which the hand comes by.
-/
namespace Go.Proofs.YtaemmknijmhnoaaGreat
open Go.RowKit Go.Maps Go.Shelf

def Shl.bsI_ren : Go.Shelf.Ren := ⟨fun | 25 => 133 | 31 => 120 | 32 => 157 | 37 => 148 | n => n, fun | 0 => 0 | 3 => 3 | 4 => 4 | 22 => 55 | 40 => 109 | n => n, fun | n => n⟩
theorem Shl.bsI : Lays2.n25 Tryz.prog Shl.bsI_ren := {
  mixed := by kernel_rfl
  f25 := Tryz.func133.trans (congrArg some (by kernel_rfl))
  f31 := Tryz.func120.trans (congrArg some (by kernel_rfl))
  f32 := Tryz.func157.trans (congrArg some (by kernel_rfl))
  f37 := Tryz.func148.trans (congrArg some (by kernel_rfl))
  t0 := Tryz.underlying0
  a0 := Tryz.isAgg0
  z0 := Tryz.sizeOf0
  v0 := Tryz.zeroValue0
  t3 := Tryz.underlying3
  a3 := Tryz.isAgg3
  z3 := Tryz.sizeOf3
  v3 := Tryz.zeroValue3
  t4 := Tryz.underlying4
  a4 := Tryz.isAgg4
  z4 := Tryz.sizeOf4
  v4 := Tryz.zeroValue4
  t22 := Tryz.underlying55
  a22 := Tryz.isAgg55
  z22 := Tryz.sizeOf55
  v22 := Tryz.zeroValue55
  t40 := Tryz.underlying109
  a40 := Tryz.isAgg109
  z40 := Tryz.sizeOf109
  v40 := Tryz.zeroValue109 }
/-- How many pages lie behind the hand. -/
def Pl.behind (P : Pl) : Nat := (P.pages.map fun (x : Nat) => (x : Int)).countP (· < P.hand + 1)
def Pl.round (P : Pl) : List Nat := P.pages.drop P.behind ++ P.pages.take P.behind
theorem Pl.behind_le (P : Pl) : P.behind ≤ P.pages.length := by
  have h := List.countP_le_length (p := fun (x : Int) => decide (x < P.hand + 1)) (l := P.pages.map fun (x : Nat) => (x : Int))
  rw [List.length_map] at h
  exact h
theorem Pl.pages_sorted (P : Pl) : (P.pages.map fun (x : Nat) => (x : Int)).Pairwise (· ≤ ·) := by
  refine List.Pairwise.map _ (fun a b (h : a < b) => ?_) (show P.pages.Pairwise (· < ·) from ?_)
  · omega
  · unfold Pl.pages
    exact List.Pairwise.filter _ List.pairwise_lt_range
theorem Ints.low {w : World} {base base' : Nat} {v : Value} {xs : List Nat} (h : Ints w base v xs) (hb : base' ≤ base) : Ints w base' v xs :=
  ⟨h.1, h.2.imp id fun ⟨g, cap, cur, e, h1, r⟩ => ⟨g, cap, cur, e, Nat.le_trans hb h1, r⟩⟩
theorem concat2I_any {w : World} {v1 v2 : Value} {xs ys : List Nat} (h1 : ISl w v1 xs) (h2 : ISl w v2 ys) (hl : xs.length + ys.length ≤ 1000000) :
    Calls Tryz.prog 134 #[.slice (some ⟨w.heap.size, 0, none⟩) 2 2] (w.alloc (.cells #[v1, v2] TNI)).drew fun e w' => ∃ v, e = .returned v ∧ Ints w' w.heap.size v (xs ++ ys) ∧ Gr w w' := by
  have hg : Gr w (w.alloc (.cells #[v1, v2] TNI)).drew := (Gr.new _ _).drew
  have hb : Blk (w.alloc (.cells #[v1, v2] TNI)).drew w.heap.size TNI #[v1, v2] := show Blk (w.alloc (.cells #[v1, v2] TNI)) _ _ _ from Blk.new _ _ _
  have h := concatI_any w.heap.size 2 2 (fun k => if k = 0 then v1 else v2) (fun k => if k = 0 then xs else ys) (w.alloc (.cells #[v1, v2] TNI)).drew (by decide) (fun k hk => by
    rcases (show k = 0 ∨ k = 1 by omega) with rfl | rfl
    · exact ⟨hb.cell 0, h1.gr hg⟩
    · exact ⟨hb.cell 1, h2.gr hg⟩) (by simpa [flatI] using hl)
  refine h.mono fun e w' hp => ?_
  obtain ⟨v, rfl, hv, g⟩ := hp
  refine ⟨v, rfl, ?_, Gr.trans hg g⟩
  have e0 : flatI (fun k => if k = 0 then xs else ys) 2 = xs ++ ys := by simp [flatI]
  rw [e0] at hv
  exact Ints.low hv hg.size
section
variable {w w' : World} {b m n : Nat} {pd pl : Value} {B : Nat → Option Nat} {P : Pl}
set_option maxRecDepth 100000 in
set_option maxHeartbeats 2000000 in
theorem round_any (h : PlAt w b pd pl m n B P) (hin : ∀ i, 65536 ≤ i → P.fr i = none) (hh : -1 ≤ P.hand ∧ P.hand < 65536) : Calls Tryz.prog 106 #[.pointer (some ⟨b, 0, none⟩)] w fun e w' => RetLoose P.round w e w' := by
  have HPg := Lib.hid (ppages_any h hin)
  have HP := Lib.hid h
  have hw1 : IntKind.i64.wrap (P.hand + 1) = P.hand + 1 := IntWalk.i64_in _ (by omega)
  have HH := Lib.hid hh
  have HL : Hid (P.pages.length ≤ 65536) := Lib.hid (by
    unfold Pl.pages
    have h := List.length_filter_le (fun i => (P.fr i).isSome) (List.range 65536)
    rwa [List.length_range] at h)
  obtain ⟨H, hH⟩ : ∃ H, H = P.hand := ⟨_, rfl⟩
  rw [← hH] at hw1
  have HHd := Lib.hid hH
  clear h hin hh
  go_enter Tryz.func106, Tryz.ntmps106
  go_wp2_with fail
  refine HPg.out.mono ?_
  rintro e w1 ⟨v, rfl, hv, g1⟩
  have HG := Lib.hid g1
  have c5 : w1.cell? ⟨b, 5, none⟩ = some (.int .i64 H) := by rw [hH]; exact (HP.out.gr g1).c6.2.2.2.2.2
  clear g1 hH
  rcases hv.2 with ⟨rfl, h0⟩ | ⟨g, cap, cur, rfl, hb, _⟩
  · have HPN : Hid (P.pages = []) := Lib.hid (List.eq_nil_of_length_eq_zero h0)
    have HB := Lib.hid (fun W => Any.slices_BinarySearch_int_empty Shl.bsI none 0 (H + 1) W)
    clear hv h0
    go_wp2_with fail
    refine (HB.out _).mono ?_
    rintro e w2 ⟨rfl, rfl⟩
    go_wp2_with fail
    have hc2 := Lib.hid (concat2I_any (w := w2) (v1 := .slice none 0 0) (v2 := .slice none 0 0) (xs := []) (ys := []) (.inl ⟨rfl, rfl⟩) (.inl ⟨rfl, rfl⟩) (by simp))
    go_region_held3 (fun _ => True) (exact True.intro) (first | (go_at_call 134; refine hc2.out.mono ?_; rintro e w3 ⟨v, rfl, hv, g3⟩))
    have HV := Lib.hid hv
    have HG3 := Lib.hid g3
    clear hv g3
    go_wp2_with fail
    go_ret
    refine ⟨_, rfl, ?_, Gr.trans HG.out HG3.out⟩
    have e0 : P.round = [] := by unfold Pl.round; rw [HPN.out]; simp
    rw [e0]
    exact Ints.low HV.out HG.out.size
  · have HV : Hid (Ints w1 w.heap.size (.slice (some ⟨g, 0, none⟩) P.pages.length cap) P.pages) := Lib.hid hv
    obtain ⟨N, hN⟩ : ∃ N, N = P.pages.length := ⟨_, rfl⟩
    have HN : Hid (N = P.pages.length ∧ N ≤ cap ∧ N ≤ 65536 ∧ P.behind ≤ N) := Lib.hid ⟨hN, by have := hv.most; omega, by rw [hN]; exact HL.out, by rw [hN]; exact P.behind_le⟩
    have HB : Hid (Calls Tryz.prog 133 #[.slice (some ⟨g, 0, none⟩) N cap, .int .i64 (H + 1)] w1 fun e w' => ∃ y, e = .returned (.tuple #[.int .i64 (P.behind : Int), .bool y]) ∧ ∃ q, w' = w1.drewN q) := Lib.hid (by
      have hz := Any.slices_BinarySearch_int Shl.bsI g 0 N cap (P.pages.map fun (x : Nat) => (x : Int)) (H + 1) w1 (by rw [List.length_map, hN]; exact Nat.le_refl _) (by have := HL.out; omega) (fun j hj => by
        rw [List.length_map] at hj
        rw [Nat.zero_add, hv.cellAt j hj]
        simp [List.getD, hj]) (by
        rw [List.take_of_length_le (by rw [List.length_map, hN]; exact Nat.le_refl _)]
        exact P.pages_sorted)
      rw [List.take_of_length_le (by rw [List.length_map, hN]; exact Nat.le_refl _)] at hz
      refine Calls.mono (P := Tryz.prog) hz fun e w' hp => ?_
      obtain ⟨h1, h2⟩ := hp
      rw [HHd.out] at h1
      exact ⟨_, h1, h2⟩)
    rw [← hN]
    clear hv hb hN
    go_wp2_with fail
    refine HB.out.mono ?_
    rintro e w2 ⟨y, rfl, q, rfl⟩
    obtain ⟨K, hK⟩ : ∃ K, K = P.behind := ⟨_, rfl⟩
    rw [← hK]
    have HK := Lib.hid hK
    have hk0 : (0 : Int) ≤ (K : Int) := by omega
    have hk1 : (K : Int) ≤ (N : Int) := by have := HN.out.2.2.2; omega
    have hk2 : (K : Int) ≤ (cap : Int) := by have := HN.out.2.2.2; have := HN.out.2.1; omega
    clear HB hK
    go_wp2_with fail
    have HQ : Hid (Gr w1 (w1.drewN q)) := Lib.hid ⟨rfl, rfl, rfl, Nat.le_refl _, fun _ _ => rfl⟩
    have hI : ISl (w1.drewN q) (.slice (some ⟨g, 0, none⟩) P.pages.length cap) P.pages := (Ints.isl HV.out).gr HQ.out
    have hK2 : K ≤ P.pages.length := by rw [HK.out]; exact P.behind_le
    have i2 := hI.upto K hK2
    have hll : (P.pages.drop K).length + (P.pages.take K).length ≤ 1000000 := by
      rw [List.length_drop, List.length_take]
      have := HL.out
      omega
    by_cases hck : cap = K
    · have i1 := hI.from K hK2 g 0 (fun h => by omega)
      rw [← HN.out.1, hck, Nat.sub_self] at i1
      rw [hck] at i2
      have HC2 := Lib.hid (concat2I_any i1 i2 hll)
      clear i1 i2 hI hK2 hll
      go_region_held3 (fun _ => True) (exact True.intro) (first | (go_at_call 134; refine HC2.out.mono ?_; rintro e w3 ⟨v3, rfl, hv3, g3⟩))
      have HV3 := Lib.hid hv3
      have HG3 := Lib.hid g3
      clear hv3 g3
      go_wp2_with fail
      go_ret
      refine ⟨_, rfl, ?_, Gr.trans HG.out (Gr.trans HQ.out HG3.out)⟩
      have e0 : P.round = P.pages.drop K ++ P.pages.take K := by unfold Pl.round; rw [HK.out]
      rw [e0]
      exact Ints.low HV3.out HG.out.size
    · have i1 := hI.from K hK2 g K (fun h => ⟨rfl, by omega⟩)
      rw [← HN.out.1] at i1
      have HC2 := Lib.hid (concat2I_any i1 i2 hll)
      clear i1 i2 hI hK2 hll
      go_region_held3 (fun _ => True) (exact True.intro) (first | (go_at_call 134; refine HC2.out.mono ?_; rintro e w3 ⟨v3, rfl, hv3, g3⟩))
      have HV3 := Lib.hid hv3
      have HG3 := Lib.hid g3
      clear hv3 g3
      go_wp2_with fail
      go_ret
      refine ⟨_, rfl, ?_, Gr.trans HG.out (Gr.trans HQ.out HG3.out)⟩
      have e0 : P.round = P.pages.drop K ++ P.pages.take K := by unfold Pl.round; rw [HK.out]
      rw [e0]
      exact Ints.low HV3.out HG.out.size
end
end Go.Proofs.YtaemmknijmhnoaaGreat

/-
  A pool that is not there, and a zero one.
-/
namespace Go.Proofs.YtaemmknijmhnoaaGreat
open Go.RowKit Go.Maps

theorem Presults_x3 {fn : Func} {p q r : Tmp} (h : fn.results = #[.cell p PTS, .tmp q, .tmp r]) (tmps : Array Value) (w : World) (g : Nat) (s : PSec)
    (hp : tmps.getD p undef = .pointer (some ⟨g, 0, none⟩)) (hb : Blk w g PTS (Psec s)) : (results fn tmps).run Tryz.prog w = .ok (.tuple #[.agg (Psec s), tmps.getD q undef, tmps.getD r undef]) w := by
  have hp' : tmps[p]?.getD undef = .pointer (some ⟨g, 0, none⟩) := by simpa using hp
  have hl := run_loadVar_row (P := Tryz.prog) w g PTS PTS (Psec s) (0, 0) _ hb Punder_sec rfl (by rw [Psec_size]; exact Psize_sec)
  simp [results, h, hp', asAddr, hl]
end Go.Proofs.YtaemmknijmhnoaaGreat

/-
  The log: small functions that read or set one of its cells.
-/
namespace Go.Proofs.YtaemmknijmhnoaaGreat
open Go.RowKit Go.Maps

theorem wLasts_any (d b : Nat) (p : Value) (n : Int) (l : Int) (g : Int) (ep : Nat) (tl : Nat) (la : Nat) (q : Option Addr) (m : Nat) (c : Nat) (rs : Int) (bg : Bool) (w : World) (h : Blk w b TLg #[p, .int .i64 n, .int .i64 l, .int .i64 g, .int .u64 ep, .int .u64 tl, .int .u64 la, .slice q m c, .int .i64 rs, .bool bg]) (hp : p = .pointer (some ⟨d, 0, none⟩)) : Calls Tryz.prog 21 #[.pointer (some ⟨b, 0, none⟩)] w (RetU la w) := by
  have HM := Lib.hid (wmissing_no d b p n l g ep tl la q m c rs bg w h hp)
  obtain ⟨c0, c1, c2, c3, c4, c5, c6, c7, c8, c9⟩ := h.c10
  clear h c0 c1 c2 c3 c4 c5 c7 c8 c9
  go_enter Tryz.func21, Tryz.ntmps21
  go_wp2_with fail
  refine HM.out.mono ?_
  rintro e w1 ⟨rfl, rfl⟩
  go_wp2_with fail
  go_ret
  exact ⟨rfl, Gr.refl _⟩
end Go.Proofs.YtaemmknijmhnoaaGreat

