/-
  Texts on locks, put together: Su1 Su2 Su3.
-/
import Derived.Sort.WalkA
import Derived.Sort.WalkB12
import Derived.Test.YtadopbpfnnpnaaaGreatProg
import Derived.Sort.WalkB2
import Derived.Sort.LotB
import Derived.Sort.WalkB3
import Derived.Test.YtadopbpfnnpnaaaGreatL1
set_option linter.unusedVariables false
set_option linter.unusedSimpArgs false
/-
  slices.Sort over uint64: the row in memory, cmp.Less, insertionSortOrdered, reverseRangeOrdered.
-/
namespace Go.Proofs.YtadopbpfnnpnaaaGreat
open Go.RowKit Go.Sort

abbrev TQ : TypeId := 31
/-- A block holds these numbers in front, and nothing but it has turned. -/
structure SU (W0 W : World) (g off N : Nat) (d : Array Int) : Prop where
  row : ∃ cs, Blk W g TQ cs ∧ cs.size = N ∧ off + d.size ≤ N ∧ ∀ j, j < d.size → cs[off + j]? = some (.int .u64 d[j]!)
  on : W0.grownBy W (some g)
section
variable {W0 W W' : World} {g off N : Nat} {d : Array Int}
theorem SU.cell (h : SU W0 W g off N d) {j : Nat} (hj : j < d.size) : W.cell? ⟨g, off + j, none⟩ = some (.int .u64 d[j]!) := by
  obtain ⟨cs, h1, _, _, h4⟩ := h.row
  rw [h1.cell]
  exact h4 j hj
theorem SU.free (h : SU W0 W g off N d) (j : Nat) : W.frozen? ⟨g, off + j, none⟩ = false := by
  obtain ⟨cs, h1, _⟩ := h.row
  exact h1.frozen (off + j)
theorem SU.gr (h : SU W0 W g off N d) (k : Gr W W') : SU W0 W' g off N d := by
  obtain ⟨cs, h1, h2⟩ := h.row
  exact ⟨⟨cs, h1.gr k, h2⟩, ⟨k.os.trans h.on.os, k.tape.trans h.on.tape, k.output.trans h.on.output, Nat.le_trans h.on.size k.size, fun n hn hne => (k.block n (Nat.lt_of_lt_of_le hn h.on.size)).trans (h.on.block n hn hne)⟩⟩
theorem grownBy_set (W : World) (g i : Nat) (v : Value) : W.grownBy (W.setCell ⟨g, i, none⟩ v) (some g) := ⟨rfl, rfl, rfl, by simp, fun n _ hne => Below.heap_setCell _ _ _ _ fun e => hne (by rw [show n = g from e])⟩
theorem grownBy_trans {a b c : World} {r : Option Nat} (h : a.grownBy b r) (k : b.grownBy c r) : a.grownBy c r := ⟨k.os.trans h.os, k.tape.trans h.tape, k.output.trans h.output, Nat.le_trans h.size k.size, fun n hn hne => (k.block n (Nat.lt_of_lt_of_le hn h.size) hne).trans (h.block n hn hne)⟩
theorem SU.swap (h : SU W0 W g off N d) {i j : Nat} (hi : i < d.size) (hj : j < d.size) : SU W0 ((W.setCell ⟨g, off + i, none⟩ (.int .u64 d[j]!)).setCell ⟨g, off + j, none⟩ (.int .u64 d[i]!)) g off N (swp d i j) := by
  obtain ⟨cs, h1, h2, h3, h4⟩ := h.row
  refine ⟨⟨_, (h1.set (off + i) _).set (off + j) _, by simp [h2], by rw [size_swp]; exact h3, fun k hk => ?_⟩, grownBy_trans (grownBy_trans h.on (grownBy_set _ _ _ _)) (grownBy_set _ _ _ _)⟩
  rw [size_swp] at hk
  by_cases e1 : k = j
  · subst e1
    rw [Array.getElem?_setIfInBounds_self_of_lt (by simp; omega), swp_right d i k hj]
  · rw [Array.getElem?_setIfInBounds_ne (by omega)]
    by_cases e2 : k = i
    · subst e2
      rw [Array.getElem?_setIfInBounds_self_of_lt (by omega), swp_left d k j hi e1]
    · rw [Array.getElem?_setIfInBounds_ne (by omega), swp_other d i j k e2 e1]
      exact h4 k hk
/-- The same, behind draws. -/
theorem SU.fam (h : SU W0 W g off N d) {n : Nat} (hn : d.size = n) : ∃ G : Nat → Int, Hid (∀ t, G t = d[t]!) ∧ (∀ t, t < n → W.cell? ⟨g, off + t, none⟩ = some (.int .u64 (G t))) ∧ ∀ t, t < n → W.frozen? ⟨g, off + t, none⟩ = false :=
  ⟨fun t => d[t]!, Lib.hid fun _ => rfl, fun t ht => h.cell (by omega), fun t _ => h.free t⟩
theorem SU.drewN (h : SU W0 W g off N d) (q : Nat) : SU W0 (W.drewN q) g off N d := ⟨h.row, ⟨h.on.os, h.on.tape, h.on.output, h.on.size, h.on.block⟩⟩
theorem SU.drew (h : SU W0 W g off N d) : SU W0 W.drew g off N d := h.drewN 1
end
set_option maxHeartbeats 1000000 in
theorem isNaN_u (x : Int) (w : World) : Calls Tryz.prog 101 #[.int .u64 x] w fun e w' => e = .returned (.bool false) ∧ w' = w := by
  go_enter Tryz.func101, Tryz.ntmps101
  go_wp2
  go_ret
  exact ⟨by simp, rfl⟩
set_option maxHeartbeats 1000000 in
theorem less_u (x y : Int) (w : World) : Calls Tryz.prog 79 #[.int .u64 x, .int .u64 y] w fun e w' => e = .returned (.bool (ltInt x y)) ∧ w' = w := by
  go_enter Tryz.func79, Tryz.ntmps79
  go_wp2_with (go_at_call 101; refine (isNaN_u _ _).mono ?_; rintro e w' ⟨rfl, rfl⟩)
  go_ret
  exact ⟨rfl, rfl⟩
set_option maxHeartbeats 8000000 in
set_option maxRecDepth 1000000 in
theorem insertion_u {W0 w : World} {g off N n cap a b : Nat} {d : Array Int} (h : SU W0 w g off N d) (hn : d.size = n) (hab : a ≤ b) (hb : b ≤ n) (hsz : n < 4611686018427387904) :
    Calls Tryz.prog 73 #[.slice (some ⟨g, off, none⟩) n cap, .int .i64 a, .int .i64 b] w fun e w' => e = .returned (.tuple #[]) ∧ SU W0 w' g off N (insertionSort ltInt d a b) := by
  have H := Lib.hid h
  clear h
  go_enter Tryz.func73, Tryz.ntmps73
  go_wp2
  go_loopw [6] (fun vi wr => ∃ (i : Nat) (dk : Array Int), vi = .int .i64 i ∧ a < i ∧ i ≤ b + 1 ∧ dk.size = n ∧ Hid (SU W0 wr g off N dk) ∧ Hid (insOuter ltInt a b i dk = insOuter ltInt a b (a + 1) d)) (fun vi _ => b + 1 - (intOf vi).toNat)
  case atStart => exact ⟨a + 1, d, by simp, by omega, by omega, hn, H, Lib.hid rfl⟩
  case round =>
    obtain ⟨i, dk, rfl, hai, hib, hsk, HS, HO⟩ := hrel
    by_cases hlt : i < b
    · have hltz : (i : Int) < (b : Int) := by omega
      go_wp2_with fail
      go_loopw [7] (fun vj wr2 => ∃ (j : Nat) (dj : Array Int), vj = .int .i64 j ∧ a ≤ j ∧ j ≤ i ∧ dj.size = n ∧ Hid (SU W0 wr2 g off N dj) ∧ Hid (insInner ltInt a j dj = insInner ltInt a i dk)) (fun vj _ => (intOf vj).toNat)
      case atStart => exact ⟨i, dk, rfl, by omega, Nat.le_refl _, hsk, HS, Lib.hid rfl⟩
      case round =>
        obtain ⟨j, dj, rfl, haj, hji, hsj, HJ, HI⟩ := hrel
        have out : (j ≤ a ∨ ltInt dj[j]! dj[j - 1]! = false) → insOuter ltInt a b (i + 1) dj = insOuter ltInt a b (a + 1) d := fun hs => by
          rw [← HO.out, insOuter_go _ _ _ _ _ hlt, ← HI.out, insInner_stop _ _ _ _ hs]
        have OUT := Lib.hid out
        clear out
        by_cases hja : a < j
        · have hjaz : (a : Int) < (j : Int) := by omega
          obtain ⟨G, HG, hcw, hfw⟩ := HJ.out.fam hsj
          go_wp2_with fail
          go_quiet (first | (go_at_call 79; refine Calls.quiet_of_same (less_u _ _ _)))
          go_wp2
          · have hl : ltInt (G j) (G (j - 1)) = true := by assumption
            go_region
            all_goals go_wp2
            go_roundw
            case rel =>
              refine ⟨j - 1, swp dj j (j - 1), by congr 1; omega, by omega, by omega, by rw [size_swp]; exact hsj, ?_, ?_⟩
              · rw [HG.out, HG.out]
                exact Lib.hid ((HJ.out.drewN nq).swap (by omega) (by omega)).drew
              · exact Lib.hid (by rw [← HI.out, insInner_go ltInt a j dj hja (by rw [← HG.out, ← HG.out]; exact hl)])
            case measure => simp [intOf]; omega
          · have hl : ltInt (G j) (G (j - 1)) = false := by assumption
            go_roundw
            case rel => exact ⟨i + 1, dj, by simp, by omega, by omega, hsj, Lib.hid (HJ.out.drewN nq), Lib.hid (OUT.out (.inr (by rw [← HG.out, ← HG.out]; exact hl)))⟩
            case measure => simp [intOf]; omega
        · have hjaz : ¬ (a : Int) < (j : Int) := by omega
          go_wp2_with fail
          go_quiet (fail)
          go_wp2
          go_roundw
          case rel => exact ⟨i + 1, dj, by simp, by omega, by omega, hsj, Lib.hid (HJ.out.drewN nq), Lib.hid (OUT.out (.inl (by omega)))⟩
          case measure => simp [intOf]; omega
    · have hltz : ¬ (i : Int) < (b : Int) := by omega
      go_wp2_with fail
      go_end0
      exact ⟨rfl, by unfold insertionSort; rw [← HO.out, insOuter_stop _ _ _ _ _ hlt]; exact HS.out⟩
end Go.Proofs.YtadopbpfnnpnaaaGreat

/-
  slices.Sort over uint64: reverseRangeOrdered, siftDownOrdered, heapSortOrdered.
-/
namespace Go.Proofs.YtadopbpfnnpnaaaGreat
open Go.RowKit Go.Sort

set_option maxHeartbeats 8000000 in
set_option maxRecDepth 1000000 in
theorem reverse_u {W0 w : World} {g off N n cap a b : Nat} {d : Array Int} (h : SU W0 w g off N d) (hn : d.size = n) (hb : b ≤ n) (hsz : n < 4611686018427387904) :
    Calls Tryz.prog 77 #[.slice (some ⟨g, off, none⟩) n cap, .int .i64 a, .int .i64 b] w fun e w' => e = .returned (.tuple #[]) ∧ ∃ d', SU W0 w' g off N d' ∧ PermIn a b d d' := by
  have H := Lib.hid h
  clear h
  go_enter Tryz.func77, Tryz.ntmps77
  go_wp2
  go_loopw [6, 7] (fun vi vj wr => ∃ (i : Nat) (jz : Int) (dk : Array Int), vi = .int .i64 i ∧ vj = .int .i64 jz ∧ a ≤ i ∧ jz < b ∧ -1 ≤ jz ∧ dk.size = n ∧ Hid (SU W0 wr g off N dk) ∧ Hid (PermIn a b d dk)) (fun vi vj _ => (intOf vj - intOf vi).toNat)
  case atStart => exact ⟨a, (b : Int) - 1, d, by simp, by simp, by omega, by omega, by omega, hn, H, Lib.hid (permIn_refl _ _ _)⟩
  case round =>
    obtain ⟨i, jz, dk, rfl, rfl, hai, hjb, hj0, hsk, HS, HP⟩ := hrel
    by_cases hlt : (i : Int) < jz
    · obtain ⟨j, rfl⟩ : ∃ j : Nat, jz = (j : Int) := ⟨jz.toNat, by omega⟩
      obtain ⟨G, HG, hcw, hfw⟩ := HS.out.fam hsk
      go_wp2_with fail
      go_region
      all_goals go_wp2
      go_roundw
      case rel =>
        refine ⟨i + 1, (j : Int) - 1, swp dk i j, by simp, by simp, by omega, by omega, by omega, by rw [size_swp]; exact hsk, ?_, Lib.hid (permIn_trans _ _ _ _ _ HP.out (swp_permIn dk a b i j (by omega) (by omega) (by omega) (by omega) (by omega)))⟩
        rw [HG.out, HG.out]
        exact Lib.hid (HS.out.swap (by omega) (by omega)).drew
      case measure => simp [intOf]; omega
    · go_wp2_with fail
      go_end0
      exact ⟨rfl, dk, HS.out, HP.out⟩

/-- One round of siftDown. -/
theorem sift_round {hi F root c : Nat} {d : Array Int} (hc : (2 * root + 2 < hi ∧ ltInt d[F + (2 * root + 1)]! d[F + (2 * root + 2)]! = true ∧ c = 2 * root + 2) ∨ (2 * root + 1 < hi ∧ (2 * root + 2 < hi → ltInt d[F + (2 * root + 1)]! d[F + (2 * root + 2)]! = false) ∧ c = 2 * root + 1)) :
    siftDown ltInt hi F root d = if ltInt d[F + root]! d[F + c]! = true then siftDown ltInt hi F c (swp d (F + root) (F + c)) else d := by
  rcases hc with ⟨h1, h2, rfl⟩ | ⟨h1, h2, rfl⟩
  · split
    · rename_i h; exact sd_right_go ltInt d h1 h2 h
    · rename_i h; exact sd_right_stop ltInt d h1 h2 (by simpa using h)
  · split
    · rename_i h; exact sd_left_go ltInt d h1 h2 h
    · rename_i h; exact sd_left_stop ltInt d h1 h2 (by simpa using h)
set_option maxHeartbeats 16000000 in
set_option maxRecDepth 1000000 in
theorem sift_u {W0 w : World} {g off N n cap lo hi first : Nat} {d : Array Int} (h : SU W0 w g off N d) (hn : d.size = n) (hlo : lo ≤ hi) (hb : first + hi ≤ n) (hsz : n < 4611686018427387904) :
    Calls Tryz.prog 96 #[.slice (some ⟨g, off, none⟩) n cap, .int .i64 lo, .int .i64 hi, .int .i64 first] w fun e w' => e = .returned (.tuple #[]) ∧ SU W0 w' g off N (siftDown ltInt hi first lo d) := by
  have H := Lib.hid h
  clear h
  go_enter Tryz.func96, Tryz.ntmps96
  go_wp2
  go_loopw [8] (fun vi wr => ∃ (root : Nat) (dk : Array Int), vi = .int .i64 root ∧ root ≤ hi ∧ dk.size = n ∧ Hid (SU W0 wr g off N dk) ∧ Hid (siftDown ltInt hi first root dk = siftDown ltInt hi first lo d)) (fun vi _ => hi - (intOf vi).toNat)
  case atStart => exact ⟨lo, d, rfl, hlo, hn, H, Lib.hid rfl⟩
  case round =>
    obtain ⟨root, dk, rfl, hr, hsk, HS, HE⟩ := hrel
    by_cases h0 : hi ≤ 2 * root + 1
    · have h0z : (hi : Int) ≤ 2 * (root : Int) + 1 := by omega
      go_wp2
      go_end0
      exact ⟨rfl, by rw [← HE.out, sd_end ltInt dk h0]; exact HS.out⟩
    · have h0z : ¬ ((hi : Int) ≤ 2 * (root : Int) + 1) := by omega
      obtain ⟨G, HG, hcw, hfw⟩ := HS.out.fam hsk
      by_cases h1 : 2 * root + 2 < hi
      · have h1z : 2 * (root : Int) + 1 + 1 < (hi : Int) := by omega
        go_wp2_with fail
        go_quiet (first | (go_at_call 79; refine Calls.quiet_of_same (less_u _ _ _)))
        go_wp2_with fail
        all_goals first
          | (have hl : ltInt (G (first + 2 * root + 1)) (G (first + 2 * root + 2)) = true := by assumption
             obtain ⟨c, hcz, hc2⟩ : ∃ c : Nat, 2 * (root : Int) + 1 + 1 = (c : Int) ∧ c = 2 * root + 2 := ⟨2 * root + 2, by omega, rfl⟩
             rw [hcz]
             have hch : c < hi ∧ root < c := by omega
             have hcr := Lib.hid (And.intro hcz (sift_round (hi := hi) (F := first) (root := root) (c := c) (d := dk) (.inl ⟨h1, by rw [HG.out, HG.out] at hl; exact hl, hc2⟩)))
             clear hcz hl hc2)
          | (have hl : ltInt (G (first + 2 * root + 1)) (G (first + 2 * root + 2)) = false := by assumption
             obtain ⟨c, hcz, hc2⟩ : ∃ c : Nat, 2 * (root : Int) + 1 = (c : Int) ∧ c = 2 * root + 1 := ⟨2 * root + 1, by omega, rfl⟩
             rw [hcz]
             have hch : c < hi ∧ root < c := by omega
             have hcr := Lib.hid (And.intro hcz (sift_round (hi := hi) (F := first) (root := root) (c := c) (d := dk) (.inr ⟨by omega, (fun _ => by rw [HG.out, HG.out] at hl; exact hl), hc2⟩)))
             clear hcz hl hc2)
        all_goals
          obtain ⟨wr2, hwr2⟩ : ∃ wr2, wr2 = wr.drewN nq := ⟨_, rfl⟩
          have HS2 : Hid (SU W0 wr2 g off N dk) := Lib.hid (by rw [hwr2]; exact HS.out.drewN nq)
          rw [← hwr2]
          clear hwr2 hcw hfw HG
          obtain ⟨G2, HG2, hcw2, hfw2⟩ := HS2.out.fam hsk
          go_quiet (first | (go_at_call 79; refine Calls.quiet_of_same (less_u _ _ _)))
          go_wp2_with fail
          · have hS : ltInt (G2 (first + root)) (G2 (first + c)) = false := by
              have : (!ltInt (G2 (first + root)) (G2 (first + c))) = true := by assumption
              simpa using this
            (try simp only [Exit.inBlock, Exit.then]); refine bodyPost_ret (results_none rfl _ _ _) rfl ?_
            refine ⟨rfl, ?_⟩
            have e := hcr.out.2
            rw [← HG2.out, ← HG2.out, hS, if_neg (by simp)] at e
            rw [← HE.out, e]
            exact HS2.out.drewN _
          · have hS : ltInt (G2 (first + root)) (G2 (first + c)) = true := by
              have : (!ltInt (G2 (first + root)) (G2 (first + c))) = false := by assumption
              simpa using this
            obtain ⟨wr3, hwr3⟩ : ∃ wr3, wr3 = wr2.drewN nq := ⟨_, rfl⟩
            have HS3 : Hid (SU W0 wr3 g off N dk) := Lib.hid (by rw [hwr3]; exact HS2.out.drewN _)
            rw [← hwr3]
            clear hwr3 hcw2 hfw2
            obtain ⟨G3, HG3, hcw3, hfw3⟩ := HS3.out.fam hsk
            go_region
            go_wp2
            go_roundw
            case rel =>
              refine ⟨c, swp dk (first + root) (first + c), rfl, by omega, by rw [size_swp]; exact hsk, ?_, ?_⟩
              · rw [HG3.out, HG3.out]
                exact Lib.hid (HS3.out.swap (by omega) (by omega)).drew
              · have e := hcr.out.2
                rw [← HG2.out, ← HG2.out, hS, if_pos rfl] at e
                exact Lib.hid (by rw [← e]; exact HE.out)
            case measure => simp [intOf]; omega
      · have h1z : decide (2 * (root : Int) + 1 + 1 < (hi : Int)) = false := decide_eq_false (by omega)
        go_wp2_with fail
        go_quiet (fail)
        go_wp2_with fail
        obtain ⟨c, hcz, hc2⟩ : ∃ c : Nat, 2 * (root : Int) + 1 = (c : Int) ∧ c = 2 * root + 1 := ⟨2 * root + 1, by omega, rfl⟩
        rw [hcz]
        have hch : c < hi ∧ root < c := by omega
        have hcr := Lib.hid (And.intro hcz (sift_round (hi := hi) (F := first) (root := root) (c := c) (d := dk) (.inr ⟨by omega, (fun h => absurd h h1), hc2⟩)))
        clear hcz hc2
        all_goals
          obtain ⟨wr2, hwr2⟩ : ∃ wr2, wr2 = wr.drewN nq := ⟨_, rfl⟩
          have HS2 : Hid (SU W0 wr2 g off N dk) := Lib.hid (by rw [hwr2]; exact HS.out.drewN nq)
          rw [← hwr2]
          clear hwr2 hcw hfw HG
          obtain ⟨G2, HG2, hcw2, hfw2⟩ := HS2.out.fam hsk
          go_quiet (first | (go_at_call 79; refine Calls.quiet_of_same (less_u _ _ _)))
          go_wp2_with fail
          · have hS : ltInt (G2 (first + root)) (G2 (first + c)) = false := by
              have : (!ltInt (G2 (first + root)) (G2 (first + c))) = true := by assumption
              simpa using this
            (try simp only [Exit.inBlock, Exit.then]); refine bodyPost_ret (results_none rfl _ _ _) rfl ?_
            refine ⟨rfl, ?_⟩
            have e := hcr.out.2
            rw [← HG2.out, ← HG2.out, hS, if_neg (by simp)] at e
            rw [← HE.out, e]
            exact HS2.out.drewN _
          · have hS : ltInt (G2 (first + root)) (G2 (first + c)) = true := by
              have : (!ltInt (G2 (first + root)) (G2 (first + c))) = false := by assumption
              simpa using this
            obtain ⟨wr3, hwr3⟩ : ∃ wr3, wr3 = wr2.drewN nq := ⟨_, rfl⟩
            have HS3 : Hid (SU W0 wr3 g off N dk) := Lib.hid (by rw [hwr3]; exact HS2.out.drewN _)
            rw [← hwr3]
            clear hwr3 hcw2 hfw2
            obtain ⟨G3, HG3, hcw3, hfw3⟩ := HS3.out.fam hsk
            go_region
            go_wp2
            go_roundw
            case rel =>
              refine ⟨c, swp dk (first + root) (first + c), rfl, by omega, by rw [size_swp]; exact hsk, ?_, ?_⟩
              · rw [HG3.out, HG3.out]
                exact Lib.hid (HS3.out.swap (by omega) (by omega)).drew
              · have e := hcr.out.2
                rw [← HG2.out, ← HG2.out, hS, if_pos rfl] at e
                exact Lib.hid (by rw [← e]; exact HE.out)
            case measure => simp [intOf]; omega
end Go.Proofs.YtadopbpfnnpnaaaGreat

/-
  slices.Sort over uint64: heapSortOrdered, order2Ordered, medianOrdered, medianAdjacentOrdered.
-/
namespace Go.Proofs.YtadopbpfnnpnaaaGreat
open Go.RowKit Go.Sort

set_option maxHeartbeats 8000000 in
set_option maxRecDepth 1000000 in
theorem heap_u {W0 w : World} {g off N n cap a b : Nat} {d : Array Int} (h : SU W0 w g off N d) (hn : d.size = n) (hab : a < b) (hb : b ≤ n) (hsz : n < 4611686018427387904) :
    Calls Tryz.prog 74 #[.slice (some ⟨g, off, none⟩) n cap, .int .i64 a, .int .i64 b] w fun e w' => e = .returned (.tuple #[]) ∧ SU W0 w' g off N (heapSort ltInt d a b) := by
  have H := Lib.hid h
  clear h
  obtain ⟨hi, hhi⟩ : ∃ hi, hi = b - a := ⟨_, rfl⟩
  obtain ⟨r, hr⟩ : ∃ r, r = (hi - 1) / 2 := ⟨_, rfl⟩
  have hiz : (b : Int) - (a : Int) = (hi : Int) := by omega
  have hrz : ((hi : Int) - 1).tdiv 2 = (r : Int) := by rw [hr, show ((hi : Int) - 1) = ((hi - 1 : Nat) : Int) by omega]; rfl
  have hrw : (IntKind.i64.wrap (r : Int)) = (r : Int) := by rw [IntWalk.i64_in _ (by omega)]
  have hrh : r < hi := by omega
  have hah : a + hi ≤ n := by omega
  have HD : Hid (heapSort ltInt d a b = heapPop ltInt a hi (heapBuild ltInt hi a (r + 1) d)) := Lib.hid (by unfold heapSort; rw [hhi, hr, hhi])
  clear hhi hr
  go_enter Tryz.func74, Tryz.ntmps74
  go_wp2_with fail
  go_loopw [9] (fun vi wr => ∃ (k : Nat) (dk : Array Int), vi = .int .i64 ((k : Int) - 1) ∧ k ≤ r + 1 ∧ dk.size = n ∧ Hid (SU W0 wr g off N dk) ∧ Hid (heapBuild ltInt hi a k dk = heapBuild ltInt hi a (r + 1) d)) (fun vi _ => (intOf vi + 1).toNat)
  case atStart => exact ⟨r + 1, d, by simp, Nat.le_refl _, hn, H, Lib.hid rfl⟩
  case round =>
    obtain ⟨k, dk, rfl, hk, hsk, HS, HE⟩ := hrel
    cases k with
    | zero =>
      have h0z : ¬ ((0 : Int) ≤ ((0 : Nat) : Int) - 1) := by omega
      go_wp2_with fail
      have HB : Hid (dk = heapBuild ltInt hi a (r + 1) d) := Lib.hid HE.out
      go_loopw [10] (fun vi wr => ∃ (k : Nat) (dj : Array Int), vi = .int .i64 ((k : Int) - 1) ∧ k ≤ hi ∧ dj.size = n ∧ Hid (SU W0 wr g off N dj) ∧ Hid (heapPop ltInt a k dj = heapPop ltInt a hi dk)) (fun vi _ => (intOf vi + 1).toNat)
      case atStart => exact ⟨hi, dk, by simp, Nat.le_refl _, hsk, HS, Lib.hid rfl⟩
      case round =>
        obtain ⟨k, dj, rfl, hk2, hsj, HJ, HP⟩ := hrel
        cases k with
        | zero =>
          have h0z : ¬ ((0 : Int) ≤ ((0 : Nat) : Int) - 1) := by omega
          go_wp2_with fail
          go_end0
          refine ⟨rfl, ?_⟩
          rw [HD.out, ← HB.out, ← HP.out]
          exact HJ.out
        | succ k =>
          obtain ⟨kz, hkz⟩ : ∃ kz : Int, kz = ((k + 1 : Nat) : Int) - 1 := ⟨_, rfl⟩
          rw [← hkz]
          obtain rfl : kz = (k : Int) := by omega
          clear hkz
          have h0z : (0 : Int) ≤ (k : Int) := by omega
          rcases Nat.eq_zero_or_pos k with rfl | hk0
          · have HS3 := (HJ.out.swap (i := a) (j := a) (by omega) (by omega)).drew
            obtain ⟨G, HG, hcw, hfw⟩ := HJ.out.fam hsj
            repeat rw [← HG.out] at HS3
            have H3 := Lib.hid HS3
            clear HS3
            go_wp2_with fail
            go_region
            go_wp2_with fail
            refine (sift_u (lo := 0) (hi := 0) (first := a) H3.out (by rw [size_swp]; exact hsj) (Nat.zero_le _) (by omega) hsz).mono ?_
            rintro e w' ⟨rfl, h'⟩
            go_wp2_with fail
            go_roundw
            case rel => exact ⟨0, _, rfl, by omega, by rw [size_siftDown ltInt _ _ _ _ _ (Nat.le_refl _), size_swp]; exact hsj, Lib.hid h', Lib.hid (by rw [← HP.out]; rfl)⟩
            case measure => simp [intOf] <;> omega
          · have HS3 := (HJ.out.swap (i := a) (j := a + k) (by omega) (by omega)).drew
            obtain ⟨G, HG, hcw, hfw⟩ := HJ.out.fam hsj
            repeat rw [← HG.out] at HS3
            have H3 := Lib.hid HS3
            clear HS3
            go_wp2_with fail
            go_region
            go_wp2_with fail
            refine (sift_u H3.out (by rw [size_swp]; exact hsj) (Nat.zero_le _) (by omega) hsz).mono ?_
            rintro e w' ⟨rfl, h'⟩
            go_wp2_with fail
            go_roundw
            case rel => exact ⟨k, _, rfl, by omega, by rw [size_siftDown ltInt _ _ _ _ _ (Nat.le_refl _), size_swp]; exact hsj, Lib.hid h', Lib.hid (by rw [← HP.out]; rfl)⟩
            case measure => simp [intOf] <;> omega
    | succ k =>
      obtain ⟨kz, hkz⟩ : ∃ kz : Int, kz = ((k + 1 : Nat) : Int) - 1 := ⟨_, rfl⟩
      rw [← hkz]
      obtain rfl : kz = (k : Int) := by omega
      clear hkz
      have h0z : (0 : Int) ≤ (k : Int) := by omega
      go_wp2_with fail
      refine (sift_u HS.out hsk (by omega) (by omega) hsz).mono ?_
      rintro e w' ⟨rfl, h'⟩
      go_wp2_with fail
      go_roundw
      case rel => exact ⟨k, _, rfl, by omega, by rw [size_siftDown ltInt _ _ _ _ _ (Nat.le_refl _)]; exact hsk, Lib.hid h', Lib.hid (by rw [← HE.out]; rfl)⟩
      case measure => simp [intOf] <;> omega
theorem Blk.drewN {w : World} {g : Nat} {t : TypeId} {cs : Array Value} (h : Blk w g t cs) (q : Nat) : Blk (w.drewN q) g t cs := h
theorem SU.other {W0 W : World} {g off N : Nat} {d : Array Int} (h : SU W0 W g off N d) {sb i : Nat} (v : Value) (hne : sb ≠ g) (hnew : W0.heap.size ≤ sb) : SU W0 (W.setCell ⟨sb, i, none⟩ v) g off N d := by
  obtain ⟨cs, h1, h2⟩ := h.row
  refine ⟨⟨cs, h1.far (fun e => hne e.symm) _, h2⟩, ⟨h.on.os, h.on.tape, h.on.output, by simpa using h.on.size, fun k hk hg => ?_⟩⟩
  exact (Below.heap_setCell _ _ _ _ (fun e => by have e' : k = sb := e; omega)).trans (h.on.block k hk hg)
set_option maxHeartbeats 8000000 in
set_option maxRecDepth 1000000 in
theorem order2_u {W0 w : World} {g off N n cap a b sb : Nat} {d : Array Int} {s : Int} (h : SU W0 w g off N d) (hn : d.size = n) (ha : a < n) (hb : b < n) (_ : n < 4611686018427387904) (hs : Blk w sb 3 #[.int .i64 s]) (h0 : 0 ≤ s) (h1 : s ≤ 1000) (hne : sb ≠ g) (hnew : W0.heap.size ≤ sb) :
    Calls Tryz.prog 107 #[.slice (some ⟨g, off, none⟩) n cap, .int .i64 a, .int .i64 b, .pointer (some ⟨sb, 0, none⟩)] w fun e w' => ∃ x y : Nat, ∃ s' : Int, e = .returned (.tuple #[.int .i64 x, .int .i64 y]) ∧ (x = a ∧ y = b ∨ x = b ∧ y = a) ∧ s ≤ s' ∧ s' ≤ s + 1 ∧ Blk w' sb 3 #[.int .i64 s'] ∧ SU W0 w' g off N d := by
  obtain ⟨G, HG, hcw, hfw⟩ := h.fam hn
  have c0 := hs.cell 0
  have f0 := hs.frozen 0
  simp at c0
  have H := Lib.hid (And.intro h hs)
  clear h hs
  go_enter Tryz.func107, Tryz.ntmps107
  go_wp2_with fail
  go_quiet (first | (go_at_call 79; refine Calls.quiet_of_same (less_u _ _ _)))
  go_wp2_with fail
  · go_ret2
    exact ⟨b, a, s + 1, rfl, .inr ⟨rfl, rfl⟩, by omega, by omega, (H.out.2.drewN _).set 0 _, SU.other (H.out.1.drewN _) _ hne hnew⟩
  · go_ret2
    exact ⟨a, b, s, rfl, .inl ⟨rfl, rfl⟩, by omega, by omega, H.out.2.drewN _, H.out.1.drewN _⟩
end Go.Proofs.YtadopbpfnnpnaaaGreat

