/-
  Texts on locks, put together: Su1 Su2 Su3 Su4 Su5.
-/
import Derived.Sort.WalkA
import Derived.Sort.WalkB12
import Derived.Test.YtbmcdlcoojmppaaProg
import Derived.Sort.WalkB2
import Derived.Sort.LotB
import Derived.Sort.WalkB3
import Derived.Sort.WalkA6
import Derived.Deep.DeepCutAuto
import Derived.Deep.CutBlock
import Derived.Test.YtbmcdlcoojmppaaA1
/-
  slices.Sort over uint64: the row in memory, cmp.Less, insertionSortOrdered, reverseRangeOrdered.
-/
namespace Go.Proofs.Ytbmcdlcoojmppaa
open Go.RowKit Go.Sort

abbrev TQ : TypeId := 27
/-- A block holds these numbers in front, and nothing but it has turned. -/
structure SU (W0 W : World) (g off N : Nat) (d : Array Int) : Prop where
  row : ∃ cs, Blk W g TQ cs ∧ cs.size = N ∧ off + d.size ≤ N ∧ ∀ j, j < d.size → cs[off + j]? = some (.int .u64 d[j]!)
  on : W0.grownBy W (some g)
section
variable {W0 W W' : World} {g off N : Nat} {d : Array Int}
theorem SU.cell (h : SU W0 W g off N d) {j : Nat} (hj : j < d.size) : W.cell? ⟨g, off + j, none⟩ = some (.int .u64 d[j]!) := by
  obtain ⟨cs, h1, _, _, h4⟩ := h.row
  rw [h1.cell]
  exact h4 j hj
theorem SU.free (h : SU W0 W g off N d) (j : Nat) : W.frozen? ⟨g, off + j, none⟩ = false := by
  obtain ⟨cs, h1, _⟩ := h.row
  exact h1.frozen (off + j)
theorem SU.gr (h : SU W0 W g off N d) (k : Gr W W') : SU W0 W' g off N d := by
  obtain ⟨cs, h1, h2⟩ := h.row
  exact ⟨⟨cs, h1.gr k, h2⟩, ⟨k.os.trans h.on.os, k.tape.trans h.on.tape, k.output.trans h.on.output, Nat.le_trans h.on.size k.size, fun n hn hne => (k.block n (Nat.lt_of_lt_of_le hn h.on.size)).trans (h.on.block n hn hne)⟩⟩
theorem grownBy_set (W : World) (g i : Nat) (v : Value) : W.grownBy (W.setCell ⟨g, i, none⟩ v) (some g) := ⟨rfl, rfl, rfl, by simp, fun n _ hne => Below.heap_setCell _ _ _ _ fun e => hne (by rw [show n = g from e])⟩
theorem grownBy_trans {a b c : World} {r : Option Nat} (h : a.grownBy b r) (k : b.grownBy c r) : a.grownBy c r := ⟨k.os.trans h.os, k.tape.trans h.tape, k.output.trans h.output, Nat.le_trans h.size k.size, fun n hn hne => (k.block n (Nat.lt_of_lt_of_le hn h.size) hne).trans (h.block n hn hne)⟩
theorem SU.swap (h : SU W0 W g off N d) {i j : Nat} (hi : i < d.size) (hj : j < d.size) : SU W0 ((W.setCell ⟨g, off + i, none⟩ (.int .u64 d[j]!)).setCell ⟨g, off + j, none⟩ (.int .u64 d[i]!)) g off N (swp d i j) := by
  obtain ⟨cs, h1, h2, h3, h4⟩ := h.row
  refine ⟨⟨_, (h1.set (off + i) _).set (off + j) _, by simp [h2], by rw [size_swp]; exact h3, fun k hk => ?_⟩, grownBy_trans (grownBy_trans h.on (grownBy_set _ _ _ _)) (grownBy_set _ _ _ _)⟩
  rw [size_swp] at hk
  by_cases e1 : k = j
  · subst e1
    rw [Array.getElem?_setIfInBounds_self_of_lt (by simp; omega), swp_right d i k hj]
  · rw [Array.getElem?_setIfInBounds_ne (by omega)]
    by_cases e2 : k = i
    · subst e2
      rw [Array.getElem?_setIfInBounds_self_of_lt (by omega), swp_left d k j hi e1]
    · rw [Array.getElem?_setIfInBounds_ne (by omega), swp_other d i j k e2 e1]
      exact h4 k hk
/-- The same, behind draws. -/
theorem SU.fam (h : SU W0 W g off N d) {n : Nat} (hn : d.size = n) : ∃ G : Nat → Int, Hid (∀ t, G t = d[t]!) ∧ (∀ t, t < n → W.cell? ⟨g, off + t, none⟩ = some (.int .u64 (G t))) ∧ ∀ t, t < n → W.frozen? ⟨g, off + t, none⟩ = false :=
  ⟨fun t => d[t]!, Lib.hid fun _ => rfl, fun t ht => h.cell (by omega), fun t _ => h.free t⟩
theorem SU.drewN (h : SU W0 W g off N d) (q : Nat) : SU W0 (W.drewN q) g off N d := ⟨h.row, ⟨h.on.os, h.on.tape, h.on.output, h.on.size, h.on.block⟩⟩
theorem SU.drew (h : SU W0 W g off N d) : SU W0 W.drew g off N d := h.drewN 1
end
set_option maxHeartbeats 1000000 in
theorem isNaN_u (x : Int) (w : World) : Calls Try.prog 89 #[.int .u64 x] w fun e w' => e = .returned (.bool false) ∧ w' = w := by
  go_enter Try.func89, Try.ntmps89
  go_wp2
  go_ret
  exact ⟨by simp, rfl⟩
set_option maxHeartbeats 1000000 in
theorem less_u (x y : Int) (w : World) : Calls Try.prog 66 #[.int .u64 x, .int .u64 y] w fun e w' => e = .returned (.bool (ltInt x y)) ∧ w' = w := by
  go_enter Try.func66, Try.ntmps66
  go_wp2_with (go_at_call 89; refine (isNaN_u _ _).mono ?_; rintro e w' ⟨rfl, rfl⟩)
  go_ret
  exact ⟨rfl, rfl⟩
set_option maxHeartbeats 8000000 in
set_option maxRecDepth 1000000 in
theorem insertion_u {W0 w : World} {g off N n cap a b : Nat} {d : Array Int} (h : SU W0 w g off N d) (hn : d.size = n) (hab : a ≤ b) (hb : b ≤ n) (hsz : n < 4611686018427387904) :
    Calls Try.prog 60 #[.slice (some ⟨g, off, none⟩) n cap, .int .i64 a, .int .i64 b] w fun e w' => e = .returned (.tuple #[]) ∧ SU W0 w' g off N (insertionSort ltInt d a b) := by
  have H := Lib.hid h
  clear h
  go_enter Try.func60, Try.ntmps60
  go_wp2
  go_loopw [6] (fun vi wr => ∃ (i : Nat) (dk : Array Int), vi = .int .i64 i ∧ a < i ∧ i ≤ b + 1 ∧ dk.size = n ∧ Hid (SU W0 wr g off N dk) ∧ Hid (insOuter ltInt a b i dk = insOuter ltInt a b (a + 1) d)) (fun vi _ => b + 1 - (intOf vi).toNat)
  case atStart => exact ⟨a + 1, d, by simp, by omega, by omega, hn, H, Lib.hid rfl⟩
  case round =>
    obtain ⟨i, dk, rfl, hai, hib, hsk, HS, HO⟩ := hrel
    by_cases hlt : i < b
    · have hltz : (i : Int) < (b : Int) := by omega
      go_wp2_with fail
      go_loopw [7] (fun vj wr2 => ∃ (j : Nat) (dj : Array Int), vj = .int .i64 j ∧ a ≤ j ∧ j ≤ i ∧ dj.size = n ∧ Hid (SU W0 wr2 g off N dj) ∧ Hid (insInner ltInt a j dj = insInner ltInt a i dk)) (fun vj _ => (intOf vj).toNat)
      case atStart => exact ⟨i, dk, rfl, by omega, Nat.le_refl _, hsk, HS, Lib.hid rfl⟩
      case round =>
        obtain ⟨j, dj, rfl, haj, hji, hsj, HJ, HI⟩ := hrel
        have out : (j ≤ a ∨ ltInt dj[j]! dj[j - 1]! = false) → insOuter ltInt a b (i + 1) dj = insOuter ltInt a b (a + 1) d := fun hs => by
          rw [← HO.out, insOuter_go _ _ _ _ _ hlt, ← HI.out, insInner_stop _ _ _ _ hs]
        have OUT := Lib.hid out
        clear out
        by_cases hja : a < j
        · have hjaz : (a : Int) < (j : Int) := by omega
          obtain ⟨G, HG, hcw, hfw⟩ := HJ.out.fam hsj
          go_wp2_with fail
          go_quiet (first | (go_at_call 66; refine Calls.quiet_of_same (less_u _ _ _)))
          go_wp2
          · have hl : ltInt (G j) (G (j - 1)) = true := by assumption
            trace_state
            go_region
            all_goals go_wp2
            go_roundw
            case rel =>
              refine ⟨j - 1, swp dj j (j - 1), by congr 1; omega, by omega, by omega, by rw [size_swp]; exact hsj, ?_, ?_⟩
              · rw [HG.out, HG.out]
                exact Lib.hid ((HJ.out.drewN nq).swap (by omega) (by omega)).drew
              · exact Lib.hid (by rw [← HI.out, insInner_go ltInt a j dj hja (by rw [← HG.out, ← HG.out]; exact hl)])
            case measure => simp [intOf]; omega
          · have hl : ltInt (G j) (G (j - 1)) = false := by assumption
            go_roundw
            case rel => exact ⟨i + 1, dj, by simp, by omega, by omega, hsj, Lib.hid (HJ.out.drewN nq), Lib.hid (OUT.out (.inr (by rw [← HG.out, ← HG.out]; exact hl)))⟩
            case measure => simp [intOf]; omega
        · have hjaz : ¬ (a : Int) < (j : Int) := by omega
          go_wp2_with fail
          go_quiet (fail)
          go_wp2
          go_roundw
          case rel => exact ⟨i + 1, dj, by simp, by omega, by omega, hsj, Lib.hid (HJ.out.drewN nq), Lib.hid (OUT.out (.inl (by omega)))⟩
          case measure => simp [intOf]; omega
    · have hltz : ¬ (i : Int) < (b : Int) := by omega
      go_wp2_with fail
      go_end0
      exact ⟨rfl, by unfold insertionSort; rw [← HO.out, insOuter_stop _ _ _ _ _ hlt]; exact HS.out⟩
end Go.Proofs.Ytbmcdlcoojmppaa

/-
  slices.Sort over uint64: reverseRangeOrdered, siftDownOrdered, heapSortOrdered.
-/
namespace Go.Proofs.Ytbmcdlcoojmppaa
open Go.RowKit Go.Sort

set_option maxHeartbeats 8000000 in
set_option maxRecDepth 1000000 in
theorem reverse_u {W0 w : World} {g off N n cap a b : Nat} {d : Array Int} (h : SU W0 w g off N d) (hn : d.size = n) (hb : b ≤ n) (hsz : n < 4611686018427387904) :
    Calls Try.prog 64 #[.slice (some ⟨g, off, none⟩) n cap, .int .i64 a, .int .i64 b] w fun e w' => e = .returned (.tuple #[]) ∧ ∃ d', SU W0 w' g off N d' ∧ PermIn a b d d' := by
  have H := Lib.hid h
  clear h
  go_enter Try.func64, Try.ntmps64
  go_wp2
  go_loopw [6, 7] (fun vi vj wr => ∃ (i : Nat) (jz : Int) (dk : Array Int), vi = .int .i64 i ∧ vj = .int .i64 jz ∧ a ≤ i ∧ jz < b ∧ -1 ≤ jz ∧ dk.size = n ∧ Hid (SU W0 wr g off N dk) ∧ Hid (PermIn a b d dk)) (fun vi vj _ => (intOf vj - intOf vi).toNat)
  case atStart => exact ⟨a, (b : Int) - 1, d, by simp, by simp, by omega, by omega, by omega, hn, H, Lib.hid (permIn_refl _ _ _)⟩
  case round =>
    obtain ⟨i, jz, dk, rfl, rfl, hai, hjb, hj0, hsk, HS, HP⟩ := hrel
    by_cases hlt : (i : Int) < jz
    · obtain ⟨j, rfl⟩ : ∃ j : Nat, jz = (j : Int) := ⟨jz.toNat, by omega⟩
      obtain ⟨G, HG, hcw, hfw⟩ := HS.out.fam hsk
      go_wp2_with fail
      go_region
      all_goals go_wp2
      go_roundw
      case rel =>
        refine ⟨i + 1, (j : Int) - 1, swp dk i j, by simp, by simp, by omega, by omega, by omega, by rw [size_swp]; exact hsk, ?_, Lib.hid (permIn_trans _ _ _ _ _ HP.out (swp_permIn dk a b i j (by omega) (by omega) (by omega) (by omega) (by omega)))⟩
        rw [HG.out, HG.out]
        exact Lib.hid (HS.out.swap (by omega) (by omega)).drew
      case measure => simp [intOf]; omega
    · go_wp2_with fail
      go_end0
      exact ⟨rfl, dk, HS.out, HP.out⟩

/-- One round of siftDown. -/
theorem sift_round {hi F root c : Nat} {d : Array Int} (hc : (2 * root + 2 < hi ∧ ltInt d[F + (2 * root + 1)]! d[F + (2 * root + 2)]! = true ∧ c = 2 * root + 2) ∨ (2 * root + 1 < hi ∧ (2 * root + 2 < hi → ltInt d[F + (2 * root + 1)]! d[F + (2 * root + 2)]! = false) ∧ c = 2 * root + 1)) :
    siftDown ltInt hi F root d = if ltInt d[F + root]! d[F + c]! = true then siftDown ltInt hi F c (swp d (F + root) (F + c)) else d := by
  rcases hc with ⟨h1, h2, rfl⟩ | ⟨h1, h2, rfl⟩
  · split
    · rename_i h; exact sd_right_go ltInt d h1 h2 h
    · rename_i h; exact sd_right_stop ltInt d h1 h2 (by simpa using h)
  · split
    · rename_i h; exact sd_left_go ltInt d h1 h2 h
    · rename_i h; exact sd_left_stop ltInt d h1 h2 (by simpa using h)
set_option maxHeartbeats 16000000 in
set_option maxRecDepth 1000000 in
theorem sift_u {W0 w : World} {g off N n cap lo hi first : Nat} {d : Array Int} (h : SU W0 w g off N d) (hn : d.size = n) (hlo : lo ≤ hi) (hb : first + hi ≤ n) (hsz : n < 4611686018427387904) :
    Calls Try.prog 84 #[.slice (some ⟨g, off, none⟩) n cap, .int .i64 lo, .int .i64 hi, .int .i64 first] w fun e w' => e = .returned (.tuple #[]) ∧ SU W0 w' g off N (siftDown ltInt hi first lo d) := by
  have H := Lib.hid h
  clear h
  go_enter Try.func84, Try.ntmps84
  go_wp2
  go_loopw [8] (fun vi wr => ∃ (root : Nat) (dk : Array Int), vi = .int .i64 root ∧ root ≤ hi ∧ dk.size = n ∧ Hid (SU W0 wr g off N dk) ∧ Hid (siftDown ltInt hi first root dk = siftDown ltInt hi first lo d)) (fun vi _ => hi - (intOf vi).toNat)
  case atStart => exact ⟨lo, d, rfl, hlo, hn, H, Lib.hid rfl⟩
  case round =>
    obtain ⟨root, dk, rfl, hr, hsk, HS, HE⟩ := hrel
    by_cases h0 : hi ≤ 2 * root + 1
    · have h0z : (hi : Int) ≤ 2 * (root : Int) + 1 := by omega
      go_wp2
      go_end0
      exact ⟨rfl, by rw [← HE.out, sd_end ltInt dk h0]; exact HS.out⟩
    · have h0z : ¬ ((hi : Int) ≤ 2 * (root : Int) + 1) := by omega
      obtain ⟨G, HG, hcw, hfw⟩ := HS.out.fam hsk
      by_cases h1 : 2 * root + 2 < hi
      · have h1z : 2 * (root : Int) + 1 + 1 < (hi : Int) := by omega
        go_wp2_with fail
        go_quiet (first | (go_at_call 66; refine Calls.quiet_of_same (less_u _ _ _)))
        go_wp2_with fail
        all_goals first
          | (have hl : ltInt (G (first + 2 * root + 1)) (G (first + 2 * root + 2)) = true := by assumption
             obtain ⟨c, hcz, hc2⟩ : ∃ c : Nat, 2 * (root : Int) + 1 + 1 = (c : Int) ∧ c = 2 * root + 2 := ⟨2 * root + 2, by omega, rfl⟩
             rw [hcz]
             have hch : c < hi ∧ root < c := by omega
             have hcr := Lib.hid (And.intro hcz (sift_round (hi := hi) (F := first) (root := root) (c := c) (d := dk) (.inl ⟨h1, by rw [HG.out, HG.out] at hl; exact hl, hc2⟩)))
             clear hcz hl hc2)
          | (have hl : ltInt (G (first + 2 * root + 1)) (G (first + 2 * root + 2)) = false := by assumption
             obtain ⟨c, hcz, hc2⟩ : ∃ c : Nat, 2 * (root : Int) + 1 = (c : Int) ∧ c = 2 * root + 1 := ⟨2 * root + 1, by omega, rfl⟩
             rw [hcz]
             have hch : c < hi ∧ root < c := by omega
             have hcr := Lib.hid (And.intro hcz (sift_round (hi := hi) (F := first) (root := root) (c := c) (d := dk) (.inr ⟨by omega, (fun _ => by rw [HG.out, HG.out] at hl; exact hl), hc2⟩)))
             clear hcz hl hc2)
        all_goals
          obtain ⟨wr2, hwr2⟩ : ∃ wr2, wr2 = wr.drewN nq := ⟨_, rfl⟩
          have HS2 : Hid (SU W0 wr2 g off N dk) := Lib.hid (by rw [hwr2]; exact HS.out.drewN nq)
          rw [← hwr2]
          clear hwr2 hcw hfw HG
          obtain ⟨G2, HG2, hcw2, hfw2⟩ := HS2.out.fam hsk
          go_quiet (first | (go_at_call 66; refine Calls.quiet_of_same (less_u _ _ _)))
          go_wp2_with fail
          · have hS : ltInt (G2 (first + root)) (G2 (first + c)) = false := by
              have : (!ltInt (G2 (first + root)) (G2 (first + c))) = true := by assumption
              simpa using this
            (try simp only [Exit.inBlock, Exit.then]); refine bodyPost_ret (results_none rfl _ _ _) rfl ?_
            refine ⟨rfl, ?_⟩
            have e := hcr.out.2
            rw [← HG2.out, ← HG2.out, hS, if_neg (by simp)] at e
            rw [← HE.out, e]
            exact HS2.out.drewN _
          · have hS : ltInt (G2 (first + root)) (G2 (first + c)) = true := by
              have : (!ltInt (G2 (first + root)) (G2 (first + c))) = false := by assumption
              simpa using this
            obtain ⟨wr3, hwr3⟩ : ∃ wr3, wr3 = wr2.drewN nq := ⟨_, rfl⟩
            have HS3 : Hid (SU W0 wr3 g off N dk) := Lib.hid (by rw [hwr3]; exact HS2.out.drewN _)
            rw [← hwr3]
            clear hwr3 hcw2 hfw2
            obtain ⟨G3, HG3, hcw3, hfw3⟩ := HS3.out.fam hsk
            go_region
            go_wp2
            go_roundw
            case rel =>
              refine ⟨c, swp dk (first + root) (first + c), rfl, by omega, by rw [size_swp]; exact hsk, ?_, ?_⟩
              · rw [HG3.out, HG3.out]
                exact Lib.hid (HS3.out.swap (by omega) (by omega)).drew
              · have e := hcr.out.2
                rw [← HG2.out, ← HG2.out, hS, if_pos rfl] at e
                exact Lib.hid (by rw [← e]; exact HE.out)
            case measure => simp [intOf]; omega
      · have h1z : decide (2 * (root : Int) + 1 + 1 < (hi : Int)) = false := decide_eq_false (by omega)
        go_wp2_with fail
        go_quiet (fail)
        go_wp2_with fail
        obtain ⟨c, hcz, hc2⟩ : ∃ c : Nat, 2 * (root : Int) + 1 = (c : Int) ∧ c = 2 * root + 1 := ⟨2 * root + 1, by omega, rfl⟩
        rw [hcz]
        have hch : c < hi ∧ root < c := by omega
        have hcr := Lib.hid (And.intro hcz (sift_round (hi := hi) (F := first) (root := root) (c := c) (d := dk) (.inr ⟨by omega, (fun h => absurd h h1), hc2⟩)))
        clear hcz hc2
        all_goals
          obtain ⟨wr2, hwr2⟩ : ∃ wr2, wr2 = wr.drewN nq := ⟨_, rfl⟩
          have HS2 : Hid (SU W0 wr2 g off N dk) := Lib.hid (by rw [hwr2]; exact HS.out.drewN nq)
          rw [← hwr2]
          clear hwr2 hcw hfw HG
          obtain ⟨G2, HG2, hcw2, hfw2⟩ := HS2.out.fam hsk
          go_quiet (first | (go_at_call 66; refine Calls.quiet_of_same (less_u _ _ _)))
          go_wp2_with fail
          · have hS : ltInt (G2 (first + root)) (G2 (first + c)) = false := by
              have : (!ltInt (G2 (first + root)) (G2 (first + c))) = true := by assumption
              simpa using this
            (try simp only [Exit.inBlock, Exit.then]); refine bodyPost_ret (results_none rfl _ _ _) rfl ?_
            refine ⟨rfl, ?_⟩
            have e := hcr.out.2
            rw [← HG2.out, ← HG2.out, hS, if_neg (by simp)] at e
            rw [← HE.out, e]
            exact HS2.out.drewN _
          · have hS : ltInt (G2 (first + root)) (G2 (first + c)) = true := by
              have : (!ltInt (G2 (first + root)) (G2 (first + c))) = false := by assumption
              simpa using this
            obtain ⟨wr3, hwr3⟩ : ∃ wr3, wr3 = wr2.drewN nq := ⟨_, rfl⟩
            have HS3 : Hid (SU W0 wr3 g off N dk) := Lib.hid (by rw [hwr3]; exact HS2.out.drewN _)
            rw [← hwr3]
            clear hwr3 hcw2 hfw2
            obtain ⟨G3, HG3, hcw3, hfw3⟩ := HS3.out.fam hsk
            go_region
            go_wp2
            go_roundw
            case rel =>
              refine ⟨c, swp dk (first + root) (first + c), rfl, by omega, by rw [size_swp]; exact hsk, ?_, ?_⟩
              · rw [HG3.out, HG3.out]
                exact Lib.hid (HS3.out.swap (by omega) (by omega)).drew
              · have e := hcr.out.2
                rw [← HG2.out, ← HG2.out, hS, if_pos rfl] at e
                exact Lib.hid (by rw [← e]; exact HE.out)
            case measure => simp [intOf]; omega
end Go.Proofs.Ytbmcdlcoojmppaa

/-
  slices.Sort over uint64: heapSortOrdered, order2Ordered, medianOrdered, medianAdjacentOrdered.
-/
namespace Go.Proofs.Ytbmcdlcoojmppaa
open Go.RowKit Go.Sort

set_option maxHeartbeats 8000000 in
set_option maxRecDepth 1000000 in
theorem heap_u {W0 w : World} {g off N n cap a b : Nat} {d : Array Int} (h : SU W0 w g off N d) (hn : d.size = n) (hab : a < b) (hb : b ≤ n) (hsz : n < 4611686018427387904) :
    Calls Try.prog 61 #[.slice (some ⟨g, off, none⟩) n cap, .int .i64 a, .int .i64 b] w fun e w' => e = .returned (.tuple #[]) ∧ SU W0 w' g off N (heapSort ltInt d a b) := by
  have H := Lib.hid h
  clear h
  obtain ⟨hi, hhi⟩ : ∃ hi, hi = b - a := ⟨_, rfl⟩
  obtain ⟨r, hr⟩ : ∃ r, r = (hi - 1) / 2 := ⟨_, rfl⟩
  have hiz : (b : Int) - (a : Int) = (hi : Int) := by omega
  have hrz : ((hi : Int) - 1).tdiv 2 = (r : Int) := by rw [hr, show ((hi : Int) - 1) = ((hi - 1 : Nat) : Int) by omega]; rfl
  have hrw : (IntKind.i64.wrap (r : Int)) = (r : Int) := by rw [IntWalk.i64_in _ (by omega)]
  have hrh : r < hi := by omega
  have hah : a + hi ≤ n := by omega
  have HD : Hid (heapSort ltInt d a b = heapPop ltInt a hi (heapBuild ltInt hi a (r + 1) d)) := Lib.hid (by unfold heapSort; rw [hhi, hr, hhi])
  clear hhi hr
  go_enter Try.func61, Try.ntmps61
  go_wp2_with fail
  go_loopw [9] (fun vi wr => ∃ (k : Nat) (dk : Array Int), vi = .int .i64 ((k : Int) - 1) ∧ k ≤ r + 1 ∧ dk.size = n ∧ Hid (SU W0 wr g off N dk) ∧ Hid (heapBuild ltInt hi a k dk = heapBuild ltInt hi a (r + 1) d)) (fun vi _ => (intOf vi + 1).toNat)
  case atStart => exact ⟨r + 1, d, by simp, Nat.le_refl _, hn, H, Lib.hid rfl⟩
  case round =>
    obtain ⟨k, dk, rfl, hk, hsk, HS, HE⟩ := hrel
    cases k with
    | zero =>
      have h0z : ¬ ((0 : Int) ≤ ((0 : Nat) : Int) - 1) := by omega
      go_wp2_with fail
      have HB : Hid (dk = heapBuild ltInt hi a (r + 1) d) := Lib.hid HE.out
      go_loopw [10] (fun vi wr => ∃ (k : Nat) (dj : Array Int), vi = .int .i64 ((k : Int) - 1) ∧ k ≤ hi ∧ dj.size = n ∧ Hid (SU W0 wr g off N dj) ∧ Hid (heapPop ltInt a k dj = heapPop ltInt a hi dk)) (fun vi _ => (intOf vi + 1).toNat)
      case atStart => exact ⟨hi, dk, by simp, Nat.le_refl _, hsk, HS, Lib.hid rfl⟩
      case round =>
        obtain ⟨k, dj, rfl, hk2, hsj, HJ, HP⟩ := hrel
        cases k with
        | zero =>
          have h0z : ¬ ((0 : Int) ≤ ((0 : Nat) : Int) - 1) := by omega
          go_wp2_with fail
          go_end0
          refine ⟨rfl, ?_⟩
          rw [HD.out, ← HB.out, ← HP.out]
          exact HJ.out
        | succ k =>
          obtain ⟨kz, hkz⟩ : ∃ kz : Int, kz = ((k + 1 : Nat) : Int) - 1 := ⟨_, rfl⟩
          rw [← hkz]
          obtain rfl : kz = (k : Int) := by omega
          clear hkz
          have h0z : (0 : Int) ≤ (k : Int) := by omega
          rcases Nat.eq_zero_or_pos k with rfl | hk0
          · have HS3 := (HJ.out.swap (i := a) (j := a) (by omega) (by omega)).drew
            obtain ⟨G, HG, hcw, hfw⟩ := HJ.out.fam hsj
            repeat rw [← HG.out] at HS3
            have H3 := Lib.hid HS3
            clear HS3
            go_wp2_with fail
            go_region
            go_wp2_with fail
            refine (sift_u (lo := 0) (hi := 0) (first := a) H3.out (by rw [size_swp]; exact hsj) (Nat.zero_le _) (by omega) hsz).mono ?_
            rintro e w' ⟨rfl, h'⟩
            go_wp2_with fail
            go_roundw
            case rel => exact ⟨0, _, rfl, by omega, by rw [size_siftDown ltInt _ _ _ _ _ (Nat.le_refl _), size_swp]; exact hsj, Lib.hid h', Lib.hid (by rw [← HP.out]; rfl)⟩
            case measure => simp [intOf] <;> omega
          · have HS3 := (HJ.out.swap (i := a) (j := a + k) (by omega) (by omega)).drew
            obtain ⟨G, HG, hcw, hfw⟩ := HJ.out.fam hsj
            repeat rw [← HG.out] at HS3
            have H3 := Lib.hid HS3
            clear HS3
            go_wp2_with fail
            go_region
            go_wp2_with fail
            refine (sift_u H3.out (by rw [size_swp]; exact hsj) (Nat.zero_le _) (by omega) hsz).mono ?_
            rintro e w' ⟨rfl, h'⟩
            go_wp2_with fail
            go_roundw
            case rel => exact ⟨k, _, rfl, by omega, by rw [size_siftDown ltInt _ _ _ _ _ (Nat.le_refl _), size_swp]; exact hsj, Lib.hid h', Lib.hid (by rw [← HP.out]; rfl)⟩
            case measure => simp [intOf] <;> omega
    | succ k =>
      obtain ⟨kz, hkz⟩ : ∃ kz : Int, kz = ((k + 1 : Nat) : Int) - 1 := ⟨_, rfl⟩
      rw [← hkz]
      obtain rfl : kz = (k : Int) := by omega
      clear hkz
      have h0z : (0 : Int) ≤ (k : Int) := by omega
      go_wp2_with fail
      refine (sift_u HS.out hsk (by omega) (by omega) hsz).mono ?_
      rintro e w' ⟨rfl, h'⟩
      go_wp2_with fail
      go_roundw
      case rel => exact ⟨k, _, rfl, by omega, by rw [size_siftDown ltInt _ _ _ _ _ (Nat.le_refl _)]; exact hsk, Lib.hid h', Lib.hid (by rw [← HE.out]; rfl)⟩
      case measure => simp [intOf] <;> omega
theorem Blk.drewN {w : World} {g : Nat} {t : TypeId} {cs : Array Value} (h : Blk w g t cs) (q : Nat) : Blk (w.drewN q) g t cs := h
theorem SU.other {W0 W : World} {g off N : Nat} {d : Array Int} (h : SU W0 W g off N d) {sb i : Nat} (v : Value) (hne : sb ≠ g) (hnew : W0.heap.size ≤ sb) : SU W0 (W.setCell ⟨sb, i, none⟩ v) g off N d := by
  obtain ⟨cs, h1, h2⟩ := h.row
  refine ⟨⟨cs, h1.far (fun e => hne e.symm) _, h2⟩, ⟨h.on.os, h.on.tape, h.on.output, by simpa using h.on.size, fun k hk hg => ?_⟩⟩
  exact (Below.heap_setCell _ _ _ _ (fun e => by have e' : k = sb := e; omega)).trans (h.on.block k hk hg)
set_option maxHeartbeats 8000000 in
set_option maxRecDepth 1000000 in
theorem order2_u {W0 w : World} {g off N n cap a b sb : Nat} {d : Array Int} {s : Int} (h : SU W0 w g off N d) (hn : d.size = n) (ha : a < n) (hb : b < n) (_ : n < 4611686018427387904) (hs : Blk w sb 3 #[.int .i64 s]) (h0 : 0 ≤ s) (h1 : s ≤ 1000) (hne : sb ≠ g) (hnew : W0.heap.size ≤ sb) :
    Calls Try.prog 95 #[.slice (some ⟨g, off, none⟩) n cap, .int .i64 a, .int .i64 b, .pointer (some ⟨sb, 0, none⟩)] w fun e w' => ∃ x y : Nat, ∃ s' : Int, e = .returned (.tuple #[.int .i64 x, .int .i64 y]) ∧ (x = a ∧ y = b ∨ x = b ∧ y = a) ∧ s ≤ s' ∧ s' ≤ s + 1 ∧ Blk w' sb 3 #[.int .i64 s'] ∧ SU W0 w' g off N d := by
  obtain ⟨G, HG, hcw, hfw⟩ := h.fam hn
  have c0 := hs.cell 0
  have f0 := hs.frozen 0
  simp at c0
  have H := Lib.hid (And.intro h hs)
  clear h hs
  go_enter Try.func95, Try.ntmps95
  go_wp2_with fail
  go_quiet (first | (go_at_call 66; refine Calls.quiet_of_same (less_u _ _ _)))
  go_wp2_with fail
  · go_ret2
    exact ⟨b, a, s + 1, rfl, .inr ⟨rfl, rfl⟩, by omega, by omega, (H.out.2.drewN _).set 0 _, SU.other (H.out.1.drewN _) _ hne hnew⟩
  · go_ret2
    exact ⟨a, b, s, rfl, .inl ⟨rfl, rfl⟩, by omega, by omega, H.out.2.drewN _, H.out.1.drewN _⟩
end Go.Proofs.Ytbmcdlcoojmppaa

/-
  slices.Sort over uint64: medianOrdered, medianAdjacentOrdered, choosePivotOrdered.
-/
namespace Go.Proofs.Ytbmcdlcoojmppaa
open Go.RowKit Go.Sort

set_option maxHeartbeats 8000000 in
set_option maxRecDepth 1000000 in
theorem median_u {W0 w : World} {g off N n cap a b c sb : Nat} {d : Array Int} {s : Int} (h : SU W0 w g off N d) (hn : d.size = n) (ha : a < n) (hb : b < n) (hc : c < n) (hsz : n < 4611686018427387904) (hs : Blk w sb 3 #[.int .i64 s]) (h0 : 0 ≤ s) (h1 : s ≤ 100) (hne : sb ≠ g) (hnew : W0.heap.size ≤ sb) :
    Calls Try.prog 88 #[.slice (some ⟨g, off, none⟩) n cap, .int .i64 a, .int .i64 b, .int .i64 c, .pointer (some ⟨sb, 0, none⟩)] w fun e w' => ∃ x : Nat, ∃ s' : Int, e = .returned (.int .i64 x) ∧ (x = a ∨ x = b ∨ x = c) ∧ s ≤ s' ∧ s' ≤ s + 3 ∧ Blk w' sb 3 #[.int .i64 s'] ∧ SU W0 w' g off N d := by
  have H := Lib.hid (And.intro h hs)
  clear h hs
  go_enter Try.func88, Try.ntmps88
  go_wp2_with fail
  refine (order2_u H.out.1 hn ha hb hsz H.out.2 h0 (by omega) hne hnew).mono ?_
  rintro e w1 ⟨x, y, s1, rfl, hxy, p1, p2, hs1, hS1⟩
  have H1 := Lib.hid (And.intro hS1 hs1)
  clear hS1 hs1
  have hx : x < n := by omega
  have hy : y < n := by omega
  go_wp2_with fail
  refine (order2_u H1.out.1 hn hy hc hsz H1.out.2 (by omega) (by omega) hne hnew).mono ?_
  rintro e w2 ⟨x2, y2, s2, rfl, hxy2, p3, p4, hs2, hS2⟩
  have H2 := Lib.hid (And.intro hS2 hs2)
  clear hS2 hs2
  have hx2 : x2 < n := by omega
  have hy2 : y2 < n := by omega
  go_wp2_with fail
  refine (order2_u H2.out.1 hn hx hx2 hsz H2.out.2 (by omega) (by omega) hne hnew).mono ?_
  rintro e w3 ⟨x3, y3, s3, rfl, hxy3, p5, p6, hs3, hS3⟩
  have H3 := Lib.hid (And.intro hS3 hs3)
  clear hS3 hs3
  go_wp2_with fail
  go_ret
  exact ⟨y3, s3, rfl, by omega, by omega, by omega, H3.out.2, H3.out.1⟩
set_option maxHeartbeats 8000000 in
set_option maxRecDepth 1000000 in
theorem medAdj_u {W0 w : World} {g off N n cap a sb : Nat} {d : Array Int} {s : Int} (h : SU W0 w g off N d) (hn : d.size = n) (ha0 : 1 ≤ a) (ha : a + 1 < n) (hsz : n < 4611686018427387904) (hs : Blk w sb 3 #[.int .i64 s]) (h0 : 0 ≤ s) (h1 : s ≤ 100) (hne : sb ≠ g) (hnew : W0.heap.size ≤ sb) :
    Calls Try.prog 87 #[.slice (some ⟨g, off, none⟩) n cap, .int .i64 a, .pointer (some ⟨sb, 0, none⟩)] w fun e w' => ∃ x : Nat, ∃ s' : Int, e = .returned (.int .i64 x) ∧ (x + 1 = a ∨ x = a ∨ x = a + 1) ∧ s ≤ s' ∧ s' ≤ s + 3 ∧ Blk w' sb 3 #[.int .i64 s'] ∧ SU W0 w' g off N d := by
  have H := Lib.hid (And.intro h hs)
  clear h hs
  obtain ⟨k, rfl⟩ : ∃ k, a = k + 1 := ⟨a - 1, by omega⟩
  obtain ⟨az, haz⟩ : ∃ az : Int, az = ((k + 1 : Nat) : Int) := ⟨_, rfl⟩
  obtain ⟨cn, hcn⟩ : ∃ cn : Nat, cn = k + 1 + 1 := ⟨_, rfl⟩
  have e1 : az - 1 = (k : Int) := by omega
  have e2 : az + 1 = (cn : Int) := by omega
  have e3 : az ≤ 4611686018427387904 := by omega
  have e4 : 0 ≤ az := by omega
  have hM := Lib.hid (median_u (cap := cap) (a := k) (b := k + 1) (c := cn) H.out.1 hn (by omega) (by omega) (by omega) hsz H.out.2 h0 h1 hne hnew)
  rw [← haz] at hM ⊢
  have HZ := Lib.hid (And.intro haz hcn)
  clear haz hcn
  go_enter Try.func87, Try.ntmps87
  go_wp2_with fail
  refine hM.out.mono ?_
  rintro e w1 ⟨x, s1, rfl, hx, p1, p2, hs1, hS1⟩
  go_wp2_with fail
  go_ret
  exact ⟨x, s1, rfl, by have := HZ.out.2; omega, p1, p2, hs1, hS1⟩
set_option maxHeartbeats 8000000 in
set_option maxRecDepth 1000000 in
theorem choose_u {W0 w : World} {g off N n cap a b : Nat} {d : Array Int} (h : SU W0 w g off N d) (hn : d.size = n) (hab : a + 12 < b) (hb : b ≤ n) (hsz : n < 4611686018427387904) (hg : g < W0.heap.size) :
    Calls Try.prog 63 #[.slice (some ⟨g, off, none⟩) n cap, .int .i64 a, .int .i64 b] w fun e w' => ∃ p : Nat, ∃ hint : Int, e = .returned (.tuple #[.int .i64 p, .int .i64 hint]) ∧ a ≤ p ∧ p < b ∧ SU W0 w' g off N d := by
  obtain ⟨l, hl⟩ : ∃ l, l = b - a := ⟨_, rfl⟩
  obtain ⟨q, hq⟩ : ∃ q, q = l / 4 := ⟨_, rfl⟩
  have hlz : (b : Int) - (a : Int) = (l : Int) := by omega
  have hl4 : 4 * q ≤ l ∧ l < 4 * q + 4 := by omega
  have hqz : ((l : Int)).tdiv 4 = (q : Int) := by rw [hq]; rfl
  have hqw : (IntKind.i64.wrap (q : Int)) = (q : Int) := by rw [IntWalk.i64_in _ (by omega)]
  have hl8 : (8 : Int) ≤ (l : Int) := by omega
  have hbb : a + l = b := by omega
  obtain ⟨I, hI⟩ : ∃ I : Nat, (I : Int) = (a : Int) + (q : Int) * 1 ∧ I = a + q := ⟨a + q, by omega, rfl⟩
  obtain ⟨J, hJ⟩ : ∃ J : Nat, (J : Int) = (a : Int) + (q : Int) * 2 ∧ J = a + 2 * q := ⟨a + 2 * q, by omega, rfl⟩
  obtain ⟨K, hK⟩ : ∃ K : Nat, (K : Int) = (a : Int) + (q : Int) * 3 ∧ K = a + 3 * q := ⟨a + 3 * q, by omega, rfl⟩
  have hwn := h.on.size
  have Hb := Lib.hid (Blk.new w 3 #[.int .i64 0])
  have Hs := Lib.hid (h.gr ((Gr.refl w).alloc (Nat.le_refl _) (.cells #[.int .i64 0] 3)))
  clear h hl hq
  go_enter Try.func63, Try.ntmps63
  obtain ⟨sb, hsb⟩ : ∃ sb, sb = w.heap.size := ⟨_, rfl⟩
  have hne : sb ≠ g := by omega
  have hnew : W0.heap.size ≤ sb := by omega
  rw [← hsb] at Hb
  have tail : ∀ (V : World) (i j k : Nat) (s : Int), Hid (SU W0 V g off N d) → Hid (Blk V sb 3 #[.int .i64 s]) → 0 ≤ s → s ≤ 90 → a ≤ i → i < b → a ≤ j → j < b → a ≤ k → k < b →
      Calls Try.prog 88 #[.slice (some ⟨g, off, none⟩) n cap, .int .i64 i, .int .i64 j, .int .i64 k, .pointer (some ⟨sb, 0, none⟩)] V fun e w' => ∃ x : Nat, ∃ s' : Int, e = .returned (.int .i64 x) ∧ a ≤ x ∧ x < b ∧ Blk w' sb 3 #[.int .i64 s'] ∧ SU W0 w' g off N d := fun V i j k s hV hs h0 h1 i0 i1 j0 j1 k0 k1 =>
    (median_u hV.out hn (by omega) (by omega) (by omega) hsz hs.out h0 (by omega) hne hnew).mono fun e w' ⟨x, s', h1, h2, h3, h4, h5, h6⟩ => ⟨x, s', h1, by omega, by omega, h5, h6⟩
  have TAIL := Lib.hid tail
  clear tail
  have eI : (a : Int) + (q : Int) = (I : Int) := by omega
  have eJ : (a : Int) + (q : Int) * 2 = (J : Int) := by omega
  have eK : (a : Int) + (q : Int) * 3 = (K : Int) := by omega
  have aI : a ≤ I ∧ I + 1 < b := by omega
  have aJ : a ≤ J ∧ J + 1 < b := by omega
  have aK : a ≤ K ∧ K + 1 < b := by omega
  have HSB := Lib.hid hsb
  clear hI hJ hK hsb hwn
  by_cases h50 : 50 ≤ l
  · have h50z : (50 : Int) ≤ (l : Int) := by omega
    have hq12 : a + 1 ≤ I ∧ a + 1 ≤ J ∧ a + 1 ≤ K := by omega
    go_wp2_with fail
    rw [← HSB.out]
    refine (medAdj_u Hs.out hn (by omega) (by omega) hsz Hb.out (by omega) (by omega) hne hnew).mono ?_
    rintro e w1 ⟨i1, s1, rfl, q1, r1, r2, hs1, hS1⟩
    have H1 := Lib.hid (And.intro hS1 hs1)
    clear hS1 hs1
    go_wp2_with fail
    refine (medAdj_u H1.out.1 hn (by omega) (by omega) hsz H1.out.2 (by omega) (by omega) hne hnew).mono ?_
    rintro e w2 ⟨j1, s2, rfl, q2, r3, r4, hs2, hS2⟩
    have H2 := Lib.hid (And.intro hS2 hs2)
    clear hS2 hs2
    go_wp2_with fail
    refine (medAdj_u H2.out.1 hn (by omega) (by omega) hsz H2.out.2 (by omega) (by omega) hne hnew).mono ?_
    rintro e w3 ⟨k1, s3, rfl, q3, r5, r6, hs3, hS3⟩
    have H3 := Lib.hid (And.intro hS3 hs3)
    clear hS3 hs3
    have ai : a ≤ i1 ∧ i1 < b := by omega
    have aj : a ≤ j1 ∧ j1 < b := by omega
    have ak : a ≤ k1 ∧ k1 < b := by omega
    go_wp2_with fail
    refine (TAIL.out _ _ _ _ _ (Lib.hid H3.out.1) (Lib.hid H3.out.2) (by omega) (by omega) (by omega) (by omega) (by omega) (by omega) (by omega) (by omega)).mono ?_
    rintro e w9 ⟨x, s9, rfl, p1, p2, hs9, hS9⟩
    have n9 := hs9.cell 0
    simp at n9
    have H9 := Lib.hid hS9
    clear hS9 hs9
    cases t0 : (s9 == 0)
    · cases t12 : (s9 == 12)
      · go_wp2_with fail
        go_ret2
        exact ⟨x, 0, rfl, p1, p2, H9.out⟩
      · go_wp2_with fail
        go_ret2
        exact ⟨x, 2, rfl, p1, p2, H9.out⟩
    · go_wp2_with fail
      go_ret2
      exact ⟨x, 1, rfl, p1, p2, H9.out⟩
  · have h50z : ¬ (50 : Int) ≤ (l : Int) := by omega
    go_wp2_with fail
    rw [← HSB.out]
    refine (TAIL.out _ _ _ _ _ (Lib.hid Hs.out) (Lib.hid Hb.out) (by omega) (by omega) (by omega) (by omega) (by omega) (by omega) (by omega) (by omega)).mono ?_
    rintro e w9 ⟨x, s9, rfl, p1, p2, hs9, hS9⟩
    have n9 := hs9.cell 0
    simp at n9
    have H9 := Lib.hid hS9
    clear hS9 hs9
    cases t0 : (s9 == 0)
    · cases t12 : (s9 == 12)
      · go_wp2_with fail
        go_ret2
        exact ⟨x, 0, rfl, p1, p2, H9.out⟩
      · go_wp2_with fail
        go_ret2
        exact ⟨x, 2, rfl, p1, p2, H9.out⟩
    · go_wp2_with fail
      go_ret2
      exact ⟨x, 1, rfl, p1, p2, H9.out⟩
end Go.Proofs.Ytbmcdlcoojmppaa

/-
  slices.Sort over uint64: partialInsertionSortOrdered.
-/
namespace Go.Proofs.Ytbmcdlcoojmppaa
open Go.RowKit Go.Sort

def RetPart (W0 : World) (g off N n a b : Nat) (d : Array Int) (e : Ending) (w' : World) : Prop := ∃ d' r, partialInsertionSort ltInt d a b = (d', r) ∧ d'.size = n ∧ e = .returned (.bool r) ∧ SU W0 w' g off N d'
set_option maxHeartbeats 32000000 in
set_option maxRecDepth 1000000 in
theorem partial_u {W0 w : World} {g off N n cap a b : Nat} {d : Array Int} (h : SU W0 w g off N d) (hn : d.size = n) (hab : a < b) (hb : b ≤ n) (hsz : n < 4611686018427387904) :
    Calls Try.prog 65 #[.slice (some ⟨g, off, none⟩) n cap, .int .i64 a, .int .i64 b] w (RetPart W0 g off N n a b d) := by
  have H := Lib.hid h
  clear h
  go_enter Try.func65, Try.ntmps65
  go_wp2_with fail
  go_loopw [7, 8] (fun vi vs wr => ∃ (i s : Nat) (dk : Array Int), vi = .int .i64 i ∧ vs = .int .i64 s ∧ a + 1 ≤ i ∧ i ≤ b ∧ s ≤ 5 ∧ dk.size = n ∧ Hid (SU W0 wr g off N dk) ∧ Hid (partialInsertionSort ltInt d a b = partialIns ltInt a b (5 - s) i dk)) (fun _ vs _ => 5 - (intOf vs).toNat)
  case atStart => exact ⟨a + 1, 0, d, by simp, rfl, Nat.le_refl _, by omega, by omega, hn, H, Lib.hid rfl⟩
  case round =>
    obtain ⟨i, s, dk, rfl, rfl, hai, hib, hs5, hsk, HS, HE⟩ := hrel
    by_cases hs : s < 5
    · have hsz5 : (s : Int) < 5 := by omega
      go_wp2_with fail
      go_loopw [7] (fun vk wr2 => ∃ (k : Nat), vk = .int .i64 k ∧ i ≤ k ∧ k ≤ b ∧ Hid (SU W0 wr2 g off N dk) ∧ Hid (scanSorted ltInt dk b i = scanSorted ltInt dk b k)) (fun vk _ => b - (intOf vk).toNat)
      case atStart => exact ⟨i, rfl, Nat.le_refl _, hib, HS, Lib.hid rfl⟩
      case round =>
        obtain ⟨k, rfl, hik, hkb, HK, HC⟩ := hrel
        by_cases hlt : k < b
        · have hltz : (k : Int) < (b : Int) := by omega
          have heqz : ((k : Int) == (b : Int)) = false := beq_eq_false_iff_ne.2 (by omega)
          obtain ⟨G, HG, hcw, hfw⟩ := HK.out.fam hsk
          by_cases h50 : b - a < 50
          · have h50z : (b : Int) - (a : Int) < 50 := by omega
            go_wp2_with fail
            go_quiet (first | (go_at_call 66; refine Calls.quiet_of_same (less_u _ _ _)))
            go_wp2_with fail
            · have hl : ltInt (G k) (G (k - 1)) = false := by
                have : (!ltInt (G k) (G (k - 1))) = true := by assumption
                simpa using this
              go_roundw
              case rel => exact ⟨k + 1, by simp, by omega, by omega, Lib.hid (HK.out.drewN nq), Lib.hid (by rw [HC.out, scanSorted_go ltInt dk b k hlt (by rw [← HG.out, ← HG.out]; exact hl)])⟩
              case measure => simp [intOf]; omega
            · have hl : ltInt (G k) (G (k - 1)) = true := by
                have : (!ltInt (G k) (G (k - 1))) = false := by assumption
                simpa using this
              have HK2 : Hid (scanSorted ltInt dk b i = k) := Lib.hid (by rw [HC.out, scanSorted_stop ltInt dk b k (.inr (by rw [← HG.out, ← HG.out]; exact hl))])
              clear hcw hfw
              obtain ⟨wr3, hwr3⟩ : ∃ wr3, wr3 = wr.drewN nq := ⟨_, rfl⟩
              have HS3 : Hid (SU W0 wr3 g off N dk) := Lib.hid (by rw [hwr3]; exact HK.out.drewN _)
              rw [← hwr3]
              clear hwr3
              go_ret
              exact ⟨dk, false, by rw [HE.out]; exact pi_short ltInt a b s i dk hs (by rw [HK2.out]; omega) h50, hsk, rfl, HS3.out⟩
          · have h50z : ¬ (b : Int) - (a : Int) < 50 := by omega
            go_wp2_with fail
            go_quiet (first | (go_at_call 66; refine Calls.quiet_of_same (less_u _ _ _)))
            go_wp2_with fail
            · have hl : ltInt (G k) (G (k - 1)) = false := by
                have : (!ltInt (G k) (G (k - 1))) = true := by assumption
                simpa using this
              go_roundw
              case rel => exact ⟨k + 1, by simp, by omega, by omega, Lib.hid (HK.out.drewN nq), Lib.hid (by rw [HC.out, scanSorted_go ltInt dk b k hlt (by rw [← HG.out, ← HG.out]; exact hl)])⟩
              case measure => simp [intOf]; omega
            · have hl : ltInt (G k) (G (k - 1)) = true := by
                have : (!ltInt (G k) (G (k - 1))) = false := by assumption
                simpa using this
              have HK2 : Hid (scanSorted ltInt dk b i = k) := Lib.hid (by rw [HC.out, scanSorted_stop ltInt dk b k (.inr (by rw [← HG.out, ← HG.out]; exact hl))])
              clear hcw hfw
              obtain ⟨wr3, hwr3⟩ : ∃ wr3, wr3 = wr.drewN nq := ⟨_, rfl⟩
              have HS3 : Hid (SU W0 wr3 g off N dk) := Lib.hid (by rw [hwr3]; exact HK.out.drewN _)
              rw [← hwr3]
              clear hwr3
              obtain ⟨d1, hd1⟩ : ∃ d1, d1 = swp dk k (k - 1) := ⟨_, rfl⟩
              have H1 := (HS3.out.swap (i := k) (j := k - 1) (by omega) (by omega)).drew
              have hs1 : d1.size = n := by rw [hd1, size_swp]; exact hsk
              obtain ⟨G, HG, hcw, hfw⟩ := HS3.out.fam hsk
              repeat rw [← HG.out] at H1
              rw [← hd1] at H1
              have HD1 := Lib.hid hd1
              clear hd1
              go_region
              obtain ⟨wr4, hwr4⟩ : ∃ wr4, wr4 = ((wr3.setCell ⟨g, off + k, none⟩ (.int .u64 (G (k - 1)))).setCell ⟨g, off + (k - 1), none⟩ (.int .u64 (G k))).drew := ⟨_, rfl⟩
              rw [← hwr4] at H1 ⊢
              have HS4 := Lib.hid H1
              clear H1 hwr4 hcw hfw
              go_upto_if 61 with fail
              go_cut [] from 17 to 94 (fun wx => ∃ d2, d2.size = n ∧ Hid (SU W0 wx g off N d2) ∧ Hid (d2 = if k - a ≥ 2 then shiftDown ltInt (k - 1) d1 else d1))
              case first =>
                by_cases h2 : k - a ≥ 2
                · have h2z : (2 : Int) ≤ (k : Int) - (a : Int) := by omega
                  go_wp2_with fail
                  go_loopw [9] (fun vj wr5 => ∃ (j : Nat) (dj : Array Int), vj = .int .i64 j ∧ j ≤ k - 1 ∧ dj.size = n ∧ Hid (SU W0 wr5 g off N dj) ∧ Hid (shiftDown ltInt (k - 1) d1 = shiftDown ltInt j dj)) (fun vj _ => (intOf vj).toNat)
                  case atStart => exact ⟨k - 1, d1, by congr 1; omega, Nat.le_refl _, hs1, HS4, Lib.hid rfl⟩
                  case round =>
                    obtain ⟨j, dj, rfl, hjk, hsj, HJ, HDJ⟩ := hrel
                    by_cases hj1 : 1 ≤ j
                    · have hj1z : (1 : Int) ≤ (j : Int) := by omega
                      obtain ⟨G, HG, hcw, hfw⟩ := HJ.out.fam hsj
                      go_wp2_with fail
                      go_quiet (first | (go_at_call 66; refine Calls.quiet_of_same (less_u _ _ _)))
                      go_wp2_with fail
                      · have hl : ltInt (G j) (G (j - 1)) = false := by
                          have : (!ltInt (G j) (G (j - 1))) = true := by assumption
                          simpa using this
                        go_meet
                        exact ⟨dj, hsj, Lib.hid (HJ.out.drewN nq), Lib.hid (by rw [if_pos h2, HDJ.out, shiftDown_stop ltInt j dj (.inr (by rw [← HG.out, ← HG.out]; exact hl))])⟩
                      · have hl : ltInt (G j) (G (j - 1)) = true := by
                          have : (!ltInt (G j) (G (j - 1))) = false := by assumption
                          simpa using this
                        obtain ⟨wr6, hwr6⟩ : ∃ wr6, wr6 = wr.drewN nq := ⟨_, rfl⟩
                        have HS6 : Hid (SU W0 wr6 g off N dj) := Lib.hid (by rw [hwr6]; exact HJ.out.drewN _)
                        rw [← hwr6]
                        clear hwr6 hcw hfw
                        have H7 := Lib.hid (HS6.out.swap (i := j) (j := j - 1) (by omega) (by omega)).drew
                        obtain ⟨G7, HG7, hcw, hfw⟩ := HS6.out.fam hsj
                        go_region
                        all_goals go_wp2_with fail
                        go_roundw
                        case rel => exact ⟨j - 1, swp dj j (j - 1), by congr 1; omega, by omega, by rw [size_swp]; exact hsj, by rw [HG7.out, HG7.out]; exact H7, Lib.hid (by rw [HDJ.out, shiftDown_go ltInt j dj hj1 (by rw [← HG.out, ← HG.out]; exact hl)])⟩
                        case measure => simp [intOf]; omega
                    · have hj1z : ¬ (1 : Int) ≤ (j : Int) := by omega
                      go_wp2_with fail
                      go_meet
                      exact ⟨dj, hsj, HJ, Lib.hid (by rw [if_pos h2, HDJ.out, shiftDown_stop ltInt j dj (.inl (by omega))])⟩
                · have h2z : ¬ (2 : Int) ≤ (k : Int) - (a : Int) := by omega
                  go_wp2_with fail
                  go_meet
                  exact ⟨d1, hs1, HS4, Lib.hid (by rw [if_neg h2])⟩
              case rest =>
                obtain ⟨d2, hs2, H2, HD2⟩ := hcut
                have RND : Hid (∀ d3 : Array Int, (d3 = if b - k ≥ 2 then shiftUp ltInt b (k + 1) d2 else d2) → Hid (partialInsertionSort ltInt d a b = partialIns ltInt a b (5 - (s + 1)) k d3)) := Lib.hid fun d3 h3 => Lib.hid (by
                  rw [HE.out, pi_go ltInt a b s i k dk hs HK2.out (by omega) h50, ← HD1.out]; unfold fixUp fixDown; rw [← HD2.out, ← h3])
                by_cases h2 : b - k ≥ 2
                · have h2z : (2 : Int) ≤ (b : Int) - (k : Int) := by omega
                  go_wp2_with fail
                  go_loopw [10] (fun vj wr5 => ∃ (j : Nat) (dj : Array Int), vj = .int .i64 j ∧ k + 1 ≤ j ∧ j ≤ b ∧ dj.size = n ∧ Hid (SU W0 wr5 g off N dj) ∧ Hid (shiftUp ltInt b (k + 1) d2 = shiftUp ltInt b j dj)) (fun vj _ => b - (intOf vj).toNat)
                  case atStart => exact ⟨k + 1, d2, by simp, Nat.le_refl _, by omega, hs2, H2, Lib.hid rfl⟩
                  case round =>
                    obtain ⟨j, dj, rfl, hjk, hjb, hsj, HJ, HDJ⟩ := hrel
                    by_cases hj1 : j < b
                    · have hj1z : (j : Int) < (b : Int) := by omega
                      obtain ⟨G, HG, hcw, hfw⟩ := HJ.out.fam hsj
                      go_wp2_with fail
                      go_quiet (first | (go_at_call 66; refine Calls.quiet_of_same (less_u _ _ _)))
                      go_wp2_with fail
                      · have hl : ltInt (G j) (G (j - 1)) = false := by
                          have : (!ltInt (G j) (G (j - 1))) = true := by assumption
                          simpa using this
                        go_roundw
                        case rel => exact ⟨k, s + 1, dj, rfl, by simp, by omega, by omega, by omega, hsj, Lib.hid (HJ.out.drewN nq), RND.out dj (by rw [if_pos h2, HDJ.out, shiftUp_stop ltInt b j dj (.inr (by rw [← HG.out, ← HG.out]; exact hl))])⟩
                        case measure => simp [intOf]; omega
                      · have hl : ltInt (G j) (G (j - 1)) = true := by
                          have : (!ltInt (G j) (G (j - 1))) = false := by assumption
                          simpa using this
                        obtain ⟨wr6, hwr6⟩ : ∃ wr6, wr6 = wr.drewN nq := ⟨_, rfl⟩
                        have HS6 : Hid (SU W0 wr6 g off N dj) := Lib.hid (by rw [hwr6]; exact HJ.out.drewN _)
                        rw [← hwr6]
                        clear hwr6 hcw hfw
                        have H7 := Lib.hid (HS6.out.swap (i := j) (j := j - 1) (by omega) (by omega)).drew
                        obtain ⟨G7, HG7, hcw, hfw⟩ := HS6.out.fam hsj
                        go_region
                        all_goals go_wp2_with fail
                        go_roundw
                        case rel => exact ⟨j + 1, swp dj j (j - 1), by simp, by omega, by omega, by rw [size_swp]; exact hsj, by rw [HG7.out, HG7.out]; exact H7, Lib.hid (by rw [HDJ.out, shiftUp_go ltInt b j dj hj1 (by rw [← HG.out, ← HG.out]; exact hl)])⟩
                        case measure => simp [intOf]; omega
                    · have hj1z : ¬ (j : Int) < (b : Int) := by omega
                      go_wp2_with fail
                      go_roundw
                      case rel => exact ⟨k, s + 1, dj, rfl, by simp, by omega, by omega, by omega, hsj, HJ, RND.out dj (by rw [if_pos h2, HDJ.out, shiftUp_stop ltInt b j dj (.inl hj1)])⟩
                      case measure => simp [intOf]; omega
                · have h2z : ¬ (2 : Int) ≤ (b : Int) - (k : Int) := by omega
                  go_wp2_with fail
                  go_roundw
                  case rel => exact ⟨k, s + 1, d2, rfl, by simp, by omega, by omega, by omega, hs2, H2, RND.out d2 (by rw [if_neg h2])⟩
                  case measure => simp [intOf]; omega
        · have hltz : ¬ (k : Int) < (b : Int) := by omega
          have heqz : ((k : Int) == (b : Int)) = true := beq_iff_eq.2 (by omega)
          go_wp2_with fail
          go_quiet (fail)
          go_wp2_with fail
          go_ret
          exact ⟨dk, true, by rw [HE.out]; exact pi_true ltInt a b s i dk hs (by rw [HC.out, scanSorted_stop ltInt dk b k (.inl hlt)]; omega), hsk, rfl, HK.out.drewN nq⟩
    · have hsz5 : ¬ (s : Int) < 5 := by omega
      go_wp2_with fail
      go_ret
      exact ⟨dk, false, by rw [HE.out, show s = 5 by omega]; rfl, hsk, rfl, HS.out⟩
end Go.Proofs.Ytbmcdlcoojmppaa

