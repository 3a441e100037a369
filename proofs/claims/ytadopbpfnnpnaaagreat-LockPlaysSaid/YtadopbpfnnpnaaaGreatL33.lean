/-
  Texts on locks, put together: Su4 Su5.
-/
import Derived.Sort.WalkA6
import Derived.Deep.DeepCutAuto
import Derived.Deep.CutBlock
import Derived.Test.YtadopbpfnnpnaaaGreatL32
set_option linter.unusedVariables false
set_option linter.unusedSimpArgs false
/-
  slices.Sort over uint64: medianOrdered, medianAdjacentOrdered, choosePivotOrdered.
-/
namespace Go.Proofs.YtadopbpfnnpnaaaGreat
open Go.RowKit Go.Sort

set_option maxHeartbeats 8000000 in
set_option maxRecDepth 1000000 in
theorem median_u {W0 w : World} {g off N n cap a b c sb : Nat} {d : Array Int} {s : Int} (h : SU W0 w g off N d) (hn : d.size = n) (ha : a < n) (hb : b < n) (hc : c < n) (hsz : n < 4611686018427387904) (hs : Blk w sb 3 #[.int .i64 s]) (h0 : 0 ≤ s) (h1 : s ≤ 100) (hne : sb ≠ g) (hnew : W0.heap.size ≤ sb) :
    Calls Tryz.prog 100 #[.slice (some ⟨g, off, none⟩) n cap, .int .i64 a, .int .i64 b, .int .i64 c, .pointer (some ⟨sb, 0, none⟩)] w fun e w' => ∃ x : Nat, ∃ s' : Int, e = .returned (.int .i64 x) ∧ (x = a ∨ x = b ∨ x = c) ∧ s ≤ s' ∧ s' ≤ s + 3 ∧ Blk w' sb 3 #[.int .i64 s'] ∧ SU W0 w' g off N d := by
  have H := Lib.hid (And.intro h hs)
  clear h hs
  go_enter Tryz.func100, Tryz.ntmps100
  go_wp2_with fail
  refine (order2_u H.out.1 hn ha hb hsz H.out.2 h0 (by omega) hne hnew).mono ?_
  rintro e w1 ⟨x, y, s1, rfl, hxy, p1, p2, hs1, hS1⟩
  have H1 := Lib.hid (And.intro hS1 hs1)
  clear hS1 hs1
  have hx : x < n := by omega
  have hy : y < n := by omega
  go_wp2_with fail
  refine (order2_u H1.out.1 hn hy hc hsz H1.out.2 (by omega) (by omega) hne hnew).mono ?_
  rintro e w2 ⟨x2, y2, s2, rfl, hxy2, p3, p4, hs2, hS2⟩
  have H2 := Lib.hid (And.intro hS2 hs2)
  clear hS2 hs2
  have hx2 : x2 < n := by omega
  have hy2 : y2 < n := by omega
  go_wp2_with fail
  refine (order2_u H2.out.1 hn hx hx2 hsz H2.out.2 (by omega) (by omega) hne hnew).mono ?_
  rintro e w3 ⟨x3, y3, s3, rfl, hxy3, p5, p6, hs3, hS3⟩
  have H3 := Lib.hid (And.intro hS3 hs3)
  clear hS3 hs3
  go_wp2_with fail
  go_ret
  exact ⟨y3, s3, rfl, by omega, by omega, by omega, H3.out.2, H3.out.1⟩
set_option maxHeartbeats 8000000 in
set_option maxRecDepth 1000000 in
theorem medAdj_u {W0 w : World} {g off N n cap a sb : Nat} {d : Array Int} {s : Int} (h : SU W0 w g off N d) (hn : d.size = n) (ha0 : 1 ≤ a) (ha : a + 1 < n) (hsz : n < 4611686018427387904) (hs : Blk w sb 3 #[.int .i64 s]) (h0 : 0 ≤ s) (h1 : s ≤ 100) (hne : sb ≠ g) (hnew : W0.heap.size ≤ sb) :
    Calls Tryz.prog 99 #[.slice (some ⟨g, off, none⟩) n cap, .int .i64 a, .pointer (some ⟨sb, 0, none⟩)] w fun e w' => ∃ x : Nat, ∃ s' : Int, e = .returned (.int .i64 x) ∧ (x + 1 = a ∨ x = a ∨ x = a + 1) ∧ s ≤ s' ∧ s' ≤ s + 3 ∧ Blk w' sb 3 #[.int .i64 s'] ∧ SU W0 w' g off N d := by
  have H := Lib.hid (And.intro h hs)
  clear h hs
  obtain ⟨k, rfl⟩ : ∃ k, a = k + 1 := ⟨a - 1, by omega⟩
  obtain ⟨az, haz⟩ : ∃ az : Int, az = ((k + 1 : Nat) : Int) := ⟨_, rfl⟩
  obtain ⟨cn, hcn⟩ : ∃ cn : Nat, cn = k + 1 + 1 := ⟨_, rfl⟩
  have e1 : az - 1 = (k : Int) := by omega
  have e2 : az + 1 = (cn : Int) := by omega
  have e3 : az ≤ 4611686018427387904 := by omega
  have e4 : 0 ≤ az := by omega
  have hM := Lib.hid (median_u (cap := cap) (a := k) (b := k + 1) (c := cn) H.out.1 hn (by omega) (by omega) (by omega) hsz H.out.2 h0 h1 hne hnew)
  rw [← haz] at hM ⊢
  have HZ := Lib.hid (And.intro haz hcn)
  clear haz hcn
  go_enter Tryz.func99, Tryz.ntmps99
  go_wp2_with fail
  refine hM.out.mono ?_
  rintro e w1 ⟨x, s1, rfl, hx, p1, p2, hs1, hS1⟩
  go_wp2_with fail
  go_ret
  exact ⟨x, s1, rfl, by have := HZ.out.2; omega, p1, p2, hs1, hS1⟩
set_option maxHeartbeats 8000000 in
set_option maxRecDepth 1000000 in
theorem choose_u {W0 w : World} {g off N n cap a b : Nat} {d : Array Int} (h : SU W0 w g off N d) (hn : d.size = n) (hab : a + 12 < b) (hb : b ≤ n) (hsz : n < 4611686018427387904) (hg : g < W0.heap.size) :
    Calls Tryz.prog 76 #[.slice (some ⟨g, off, none⟩) n cap, .int .i64 a, .int .i64 b] w fun e w' => ∃ p : Nat, ∃ hint : Int, e = .returned (.tuple #[.int .i64 p, .int .i64 hint]) ∧ a ≤ p ∧ p < b ∧ SU W0 w' g off N d := by
  obtain ⟨l, hl⟩ : ∃ l, l = b - a := ⟨_, rfl⟩
  obtain ⟨q, hq⟩ : ∃ q, q = l / 4 := ⟨_, rfl⟩
  have hlz : (b : Int) - (a : Int) = (l : Int) := by omega
  have hl4 : 4 * q ≤ l ∧ l < 4 * q + 4 := by omega
  have hqz : ((l : Int)).tdiv 4 = (q : Int) := by rw [hq]; rfl
  have hqw : (IntKind.i64.wrap (q : Int)) = (q : Int) := by rw [IntWalk.i64_in _ (by omega)]
  have hl8 : (8 : Int) ≤ (l : Int) := by omega
  have hbb : a + l = b := by omega
  obtain ⟨I, hI⟩ : ∃ I : Nat, (I : Int) = (a : Int) + (q : Int) * 1 ∧ I = a + q := ⟨a + q, by omega, rfl⟩
  obtain ⟨J, hJ⟩ : ∃ J : Nat, (J : Int) = (a : Int) + (q : Int) * 2 ∧ J = a + 2 * q := ⟨a + 2 * q, by omega, rfl⟩
  obtain ⟨K, hK⟩ : ∃ K : Nat, (K : Int) = (a : Int) + (q : Int) * 3 ∧ K = a + 3 * q := ⟨a + 3 * q, by omega, rfl⟩
  have hwn := h.on.size
  have Hb := Lib.hid (Blk.new w 3 #[.int .i64 0])
  have Hs := Lib.hid (h.gr ((Gr.refl w).alloc (Nat.le_refl _) (.cells #[.int .i64 0] 3)))
  clear h hl hq
  go_enter Tryz.func76, Tryz.ntmps76
  obtain ⟨sb, hsb⟩ : ∃ sb, sb = w.heap.size := ⟨_, rfl⟩
  have hne : sb ≠ g := by omega
  have hnew : W0.heap.size ≤ sb := by omega
  rw [← hsb] at Hb
  have tail : ∀ (V : World) (i j k : Nat) (s : Int), Hid (SU W0 V g off N d) → Hid (Blk V sb 3 #[.int .i64 s]) → 0 ≤ s → s ≤ 90 → a ≤ i → i < b → a ≤ j → j < b → a ≤ k → k < b →
      Calls Tryz.prog 100 #[.slice (some ⟨g, off, none⟩) n cap, .int .i64 i, .int .i64 j, .int .i64 k, .pointer (some ⟨sb, 0, none⟩)] V fun e w' => ∃ x : Nat, ∃ s' : Int, e = .returned (.int .i64 x) ∧ a ≤ x ∧ x < b ∧ Blk w' sb 3 #[.int .i64 s'] ∧ SU W0 w' g off N d := fun V i j k s hV hs h0 h1 i0 i1 j0 j1 k0 k1 =>
    (median_u hV.out hn (by omega) (by omega) (by omega) hsz hs.out h0 (by omega) hne hnew).mono fun e w' ⟨x, s', h1, h2, h3, h4, h5, h6⟩ => ⟨x, s', h1, by omega, by omega, h5, h6⟩
  have TAIL := Lib.hid tail
  clear tail
  have eI : (a : Int) + (q : Int) = (I : Int) := by omega
  have eJ : (a : Int) + (q : Int) * 2 = (J : Int) := by omega
  have eK : (a : Int) + (q : Int) * 3 = (K : Int) := by omega
  have aI : a ≤ I ∧ I + 1 < b := by omega
  have aJ : a ≤ J ∧ J + 1 < b := by omega
  have aK : a ≤ K ∧ K + 1 < b := by omega
  have HSB := Lib.hid hsb
  clear hI hJ hK hsb hwn
  by_cases h50 : 50 ≤ l
  · have h50z : (50 : Int) ≤ (l : Int) := by omega
    have hq12 : a + 1 ≤ I ∧ a + 1 ≤ J ∧ a + 1 ≤ K := by omega
    go_wp2_with fail
    rw [← HSB.out]
    refine (medAdj_u Hs.out hn (by omega) (by omega) hsz Hb.out (by omega) (by omega) hne hnew).mono ?_
    rintro e w1 ⟨i1, s1, rfl, q1, r1, r2, hs1, hS1⟩
    have H1 := Lib.hid (And.intro hS1 hs1)
    clear hS1 hs1
    go_wp2_with fail
    refine (medAdj_u H1.out.1 hn (by omega) (by omega) hsz H1.out.2 (by omega) (by omega) hne hnew).mono ?_
    rintro e w2 ⟨j1, s2, rfl, q2, r3, r4, hs2, hS2⟩
    have H2 := Lib.hid (And.intro hS2 hs2)
    clear hS2 hs2
    go_wp2_with fail
    refine (medAdj_u H2.out.1 hn (by omega) (by omega) hsz H2.out.2 (by omega) (by omega) hne hnew).mono ?_
    rintro e w3 ⟨k1, s3, rfl, q3, r5, r6, hs3, hS3⟩
    have H3 := Lib.hid (And.intro hS3 hs3)
    clear hS3 hs3
    have ai : a ≤ i1 ∧ i1 < b := by omega
    have aj : a ≤ j1 ∧ j1 < b := by omega
    have ak : a ≤ k1 ∧ k1 < b := by omega
    go_wp2_with fail
    refine (TAIL.out _ _ _ _ _ (Lib.hid H3.out.1) (Lib.hid H3.out.2) (by omega) (by omega) (by omega) (by omega) (by omega) (by omega) (by omega) (by omega)).mono ?_
    rintro e w9 ⟨x, s9, rfl, p1, p2, hs9, hS9⟩
    have n9 := hs9.cell 0
    simp at n9
    have H9 := Lib.hid hS9
    clear hS9 hs9
    cases t0 : (s9 == 0)
    · cases t12 : (s9 == 12)
      · go_wp2_with fail
        go_ret2
        exact ⟨x, 0, rfl, p1, p2, H9.out⟩
      · go_wp2_with fail
        go_ret2
        exact ⟨x, 2, rfl, p1, p2, H9.out⟩
    · go_wp2_with fail
      go_ret2
      exact ⟨x, 1, rfl, p1, p2, H9.out⟩
  · have h50z : ¬ (50 : Int) ≤ (l : Int) := by omega
    go_wp2_with fail
    rw [← HSB.out]
    refine (TAIL.out _ _ _ _ _ (Lib.hid Hs.out) (Lib.hid Hb.out) (by omega) (by omega) (by omega) (by omega) (by omega) (by omega) (by omega) (by omega)).mono ?_
    rintro e w9 ⟨x, s9, rfl, p1, p2, hs9, hS9⟩
    have n9 := hs9.cell 0
    simp at n9
    have H9 := Lib.hid hS9
    clear hS9 hs9
    cases t0 : (s9 == 0)
    · cases t12 : (s9 == 12)
      · go_wp2_with fail
        go_ret2
        exact ⟨x, 0, rfl, p1, p2, H9.out⟩
      · go_wp2_with fail
        go_ret2
        exact ⟨x, 2, rfl, p1, p2, H9.out⟩
    · go_wp2_with fail
      go_ret2
      exact ⟨x, 1, rfl, p1, p2, H9.out⟩
end Go.Proofs.YtadopbpfnnpnaaaGreat

/-
  slices.Sort over uint64: partialInsertionSortOrdered.
-/
namespace Go.Proofs.YtadopbpfnnpnaaaGreat
open Go.RowKit Go.Sort

def RetPart (W0 : World) (g off N n a b : Nat) (d : Array Int) (e : Ending) (w' : World) : Prop := ∃ d' r, partialInsertionSort ltInt d a b = (d', r) ∧ d'.size = n ∧ e = .returned (.bool r) ∧ SU W0 w' g off N d'
set_option maxHeartbeats 32000000 in
set_option maxRecDepth 1000000 in
theorem partial_u {W0 w : World} {g off N n cap a b : Nat} {d : Array Int} (h : SU W0 w g off N d) (hn : d.size = n) (hab : a < b) (hb : b ≤ n) (hsz : n < 4611686018427387904) :
    Calls Tryz.prog 78 #[.slice (some ⟨g, off, none⟩) n cap, .int .i64 a, .int .i64 b] w (RetPart W0 g off N n a b d) := by
  have H := Lib.hid h
  clear h
  go_enter Tryz.func78, Tryz.ntmps78
  go_wp2_with fail
  go_loopw [7, 8] (fun vi vs wr => ∃ (i s : Nat) (dk : Array Int), vi = .int .i64 i ∧ vs = .int .i64 s ∧ a + 1 ≤ i ∧ i ≤ b ∧ s ≤ 5 ∧ dk.size = n ∧ Hid (SU W0 wr g off N dk) ∧ Hid (partialInsertionSort ltInt d a b = partialIns ltInt a b (5 - s) i dk)) (fun _ vs _ => 5 - (intOf vs).toNat)
  case atStart => exact ⟨a + 1, 0, d, by simp, rfl, Nat.le_refl _, by omega, by omega, hn, H, Lib.hid rfl⟩
  case round =>
    obtain ⟨i, s, dk, rfl, rfl, hai, hib, hs5, hsk, HS, HE⟩ := hrel
    by_cases hs : s < 5
    · have hsz5 : (s : Int) < 5 := by omega
      go_wp2_with fail
      go_loopw [7] (fun vk wr2 => ∃ (k : Nat), vk = .int .i64 k ∧ i ≤ k ∧ k ≤ b ∧ Hid (SU W0 wr2 g off N dk) ∧ Hid (scanSorted ltInt dk b i = scanSorted ltInt dk b k)) (fun vk _ => b - (intOf vk).toNat)
      case atStart => exact ⟨i, rfl, Nat.le_refl _, hib, HS, Lib.hid rfl⟩
      case round =>
        obtain ⟨k, rfl, hik, hkb, HK, HC⟩ := hrel
        by_cases hlt : k < b
        · have hltz : (k : Int) < (b : Int) := by omega
          have heqz : ((k : Int) == (b : Int)) = false := beq_eq_false_iff_ne.2 (by omega)
          obtain ⟨G, HG, hcw, hfw⟩ := HK.out.fam hsk
          by_cases h50 : b - a < 50
          · have h50z : (b : Int) - (a : Int) < 50 := by omega
            go_wp2_with fail
            go_quiet (first | (go_at_call 79; refine Calls.quiet_of_same (less_u _ _ _)))
            go_wp2_with fail
            · have hl : ltInt (G k) (G (k - 1)) = false := by
                have : (!ltInt (G k) (G (k - 1))) = true := by assumption
                simpa using this
              go_roundw
              case rel => exact ⟨k + 1, by simp, by omega, by omega, Lib.hid (HK.out.drewN nq), Lib.hid (by rw [HC.out, scanSorted_go ltInt dk b k hlt (by rw [← HG.out, ← HG.out]; exact hl)])⟩
              case measure => simp [intOf]; omega
            · have hl : ltInt (G k) (G (k - 1)) = true := by
                have : (!ltInt (G k) (G (k - 1))) = false := by assumption
                simpa using this
              have HK2 : Hid (scanSorted ltInt dk b i = k) := Lib.hid (by rw [HC.out, scanSorted_stop ltInt dk b k (.inr (by rw [← HG.out, ← HG.out]; exact hl))])
              clear hcw hfw
              obtain ⟨wr3, hwr3⟩ : ∃ wr3, wr3 = wr.drewN nq := ⟨_, rfl⟩
              have HS3 : Hid (SU W0 wr3 g off N dk) := Lib.hid (by rw [hwr3]; exact HK.out.drewN _)
              rw [← hwr3]
              clear hwr3
              go_ret
              exact ⟨dk, false, by rw [HE.out]; exact pi_short ltInt a b s i dk hs (by rw [HK2.out]; omega) h50, hsk, rfl, HS3.out⟩
          · have h50z : ¬ (b : Int) - (a : Int) < 50 := by omega
            go_wp2_with fail
            go_quiet (first | (go_at_call 79; refine Calls.quiet_of_same (less_u _ _ _)))
            go_wp2_with fail
            · have hl : ltInt (G k) (G (k - 1)) = false := by
                have : (!ltInt (G k) (G (k - 1))) = true := by assumption
                simpa using this
              go_roundw
              case rel => exact ⟨k + 1, by simp, by omega, by omega, Lib.hid (HK.out.drewN nq), Lib.hid (by rw [HC.out, scanSorted_go ltInt dk b k hlt (by rw [← HG.out, ← HG.out]; exact hl)])⟩
              case measure => simp [intOf]; omega
            · have hl : ltInt (G k) (G (k - 1)) = true := by
                have : (!ltInt (G k) (G (k - 1))) = false := by assumption
                simpa using this
              have HK2 : Hid (scanSorted ltInt dk b i = k) := Lib.hid (by rw [HC.out, scanSorted_stop ltInt dk b k (.inr (by rw [← HG.out, ← HG.out]; exact hl))])
              clear hcw hfw
              obtain ⟨wr3, hwr3⟩ : ∃ wr3, wr3 = wr.drewN nq := ⟨_, rfl⟩
              have HS3 : Hid (SU W0 wr3 g off N dk) := Lib.hid (by rw [hwr3]; exact HK.out.drewN _)
              rw [← hwr3]
              clear hwr3
              obtain ⟨d1, hd1⟩ : ∃ d1, d1 = swp dk k (k - 1) := ⟨_, rfl⟩
              have H1 := (HS3.out.swap (i := k) (j := k - 1) (by omega) (by omega)).drew
              have hs1 : d1.size = n := by rw [hd1, size_swp]; exact hsk
              obtain ⟨G, HG, hcw, hfw⟩ := HS3.out.fam hsk
              repeat rw [← HG.out] at H1
              rw [← hd1] at H1
              have HD1 := Lib.hid hd1
              clear hd1
              go_region
              obtain ⟨wr4, hwr4⟩ : ∃ wr4, wr4 = ((wr3.setCell ⟨g, off + k, none⟩ (.int .u64 (G (k - 1)))).setCell ⟨g, off + (k - 1), none⟩ (.int .u64 (G k))).drew := ⟨_, rfl⟩
              rw [← hwr4] at H1 ⊢
              have HS4 := Lib.hid H1
              clear H1 hwr4 hcw hfw
              go_upto_if 61 with fail
              go_cut [] from 17 to 94 (fun wx => ∃ d2, d2.size = n ∧ Hid (SU W0 wx g off N d2) ∧ Hid (d2 = if k - a ≥ 2 then shiftDown ltInt (k - 1) d1 else d1))
              case first =>
                by_cases h2 : k - a ≥ 2
                · have h2z : (2 : Int) ≤ (k : Int) - (a : Int) := by omega
                  go_wp2_with fail
                  go_loopw [9] (fun vj wr5 => ∃ (j : Nat) (dj : Array Int), vj = .int .i64 j ∧ j ≤ k - 1 ∧ dj.size = n ∧ Hid (SU W0 wr5 g off N dj) ∧ Hid (shiftDown ltInt (k - 1) d1 = shiftDown ltInt j dj)) (fun vj _ => (intOf vj).toNat)
                  case atStart => exact ⟨k - 1, d1, by congr 1; omega, Nat.le_refl _, hs1, HS4, Lib.hid rfl⟩
                  case round =>
                    obtain ⟨j, dj, rfl, hjk, hsj, HJ, HDJ⟩ := hrel
                    by_cases hj1 : 1 ≤ j
                    · have hj1z : (1 : Int) ≤ (j : Int) := by omega
                      obtain ⟨G, HG, hcw, hfw⟩ := HJ.out.fam hsj
                      go_wp2_with fail
                      go_quiet (first | (go_at_call 79; refine Calls.quiet_of_same (less_u _ _ _)))
                      go_wp2_with fail
                      · have hl : ltInt (G j) (G (j - 1)) = false := by
                          have : (!ltInt (G j) (G (j - 1))) = true := by assumption
                          simpa using this
                        go_meet
                        exact ⟨dj, hsj, Lib.hid (HJ.out.drewN nq), Lib.hid (by rw [if_pos h2, HDJ.out, shiftDown_stop ltInt j dj (.inr (by rw [← HG.out, ← HG.out]; exact hl))])⟩
                      · have hl : ltInt (G j) (G (j - 1)) = true := by
                          have : (!ltInt (G j) (G (j - 1))) = false := by assumption
                          simpa using this
                        obtain ⟨wr6, hwr6⟩ : ∃ wr6, wr6 = wr.drewN nq := ⟨_, rfl⟩
                        have HS6 : Hid (SU W0 wr6 g off N dj) := Lib.hid (by rw [hwr6]; exact HJ.out.drewN _)
                        rw [← hwr6]
                        clear hwr6 hcw hfw
                        have H7 := Lib.hid (HS6.out.swap (i := j) (j := j - 1) (by omega) (by omega)).drew
                        obtain ⟨G7, HG7, hcw, hfw⟩ := HS6.out.fam hsj
                        go_region
                        all_goals go_wp2_with fail
                        go_roundw
                        case rel => exact ⟨j - 1, swp dj j (j - 1), by congr 1; omega, by omega, by rw [size_swp]; exact hsj, by rw [HG7.out, HG7.out]; exact H7, Lib.hid (by rw [HDJ.out, shiftDown_go ltInt j dj hj1 (by rw [← HG.out, ← HG.out]; exact hl)])⟩
                        case measure => simp [intOf]; omega
                    · have hj1z : ¬ (1 : Int) ≤ (j : Int) := by omega
                      go_wp2_with fail
                      go_meet
                      exact ⟨dj, hsj, HJ, Lib.hid (by rw [if_pos h2, HDJ.out, shiftDown_stop ltInt j dj (.inl (by omega))])⟩
                · have h2z : ¬ (2 : Int) ≤ (k : Int) - (a : Int) := by omega
                  go_wp2_with fail
                  go_meet
                  exact ⟨d1, hs1, HS4, Lib.hid (by rw [if_neg h2])⟩
              case rest =>
                obtain ⟨d2, hs2, H2, HD2⟩ := hcut
                have RND : Hid (∀ d3 : Array Int, (d3 = if b - k ≥ 2 then shiftUp ltInt b (k + 1) d2 else d2) → Hid (partialInsertionSort ltInt d a b = partialIns ltInt a b (5 - (s + 1)) k d3)) := Lib.hid fun d3 h3 => Lib.hid (by
                  rw [HE.out, pi_go ltInt a b s i k dk hs HK2.out (by omega) h50, ← HD1.out]; unfold fixUp fixDown; rw [← HD2.out, ← h3])
                by_cases h2 : b - k ≥ 2
                · have h2z : (2 : Int) ≤ (b : Int) - (k : Int) := by omega
                  go_wp2_with fail
                  go_loopw [10] (fun vj wr5 => ∃ (j : Nat) (dj : Array Int), vj = .int .i64 j ∧ k + 1 ≤ j ∧ j ≤ b ∧ dj.size = n ∧ Hid (SU W0 wr5 g off N dj) ∧ Hid (shiftUp ltInt b (k + 1) d2 = shiftUp ltInt b j dj)) (fun vj _ => b - (intOf vj).toNat)
                  case atStart => exact ⟨k + 1, d2, by simp, Nat.le_refl _, by omega, hs2, H2, Lib.hid rfl⟩
                  case round =>
                    obtain ⟨j, dj, rfl, hjk, hjb, hsj, HJ, HDJ⟩ := hrel
                    by_cases hj1 : j < b
                    · have hj1z : (j : Int) < (b : Int) := by omega
                      obtain ⟨G, HG, hcw, hfw⟩ := HJ.out.fam hsj
                      go_wp2_with fail
                      go_quiet (first | (go_at_call 79; refine Calls.quiet_of_same (less_u _ _ _)))
                      go_wp2_with fail
                      · have hl : ltInt (G j) (G (j - 1)) = false := by
                          have : (!ltInt (G j) (G (j - 1))) = true := by assumption
                          simpa using this
                        go_roundw
                        case rel => exact ⟨k, s + 1, dj, rfl, by simp, by omega, by omega, by omega, hsj, Lib.hid (HJ.out.drewN nq), RND.out dj (by rw [if_pos h2, HDJ.out, shiftUp_stop ltInt b j dj (.inr (by rw [← HG.out, ← HG.out]; exact hl))])⟩
                        case measure => simp [intOf]; omega
                      · have hl : ltInt (G j) (G (j - 1)) = true := by
                          have : (!ltInt (G j) (G (j - 1))) = false := by assumption
                          simpa using this
                        obtain ⟨wr6, hwr6⟩ : ∃ wr6, wr6 = wr.drewN nq := ⟨_, rfl⟩
                        have HS6 : Hid (SU W0 wr6 g off N dj) := Lib.hid (by rw [hwr6]; exact HJ.out.drewN _)
                        rw [← hwr6]
                        clear hwr6 hcw hfw
                        have H7 := Lib.hid (HS6.out.swap (i := j) (j := j - 1) (by omega) (by omega)).drew
                        obtain ⟨G7, HG7, hcw, hfw⟩ := HS6.out.fam hsj
                        go_region
                        all_goals go_wp2_with fail
                        go_roundw
                        case rel => exact ⟨j + 1, swp dj j (j - 1), by simp, by omega, by omega, by rw [size_swp]; exact hsj, by rw [HG7.out, HG7.out]; exact H7, Lib.hid (by rw [HDJ.out, shiftUp_go ltInt b j dj hj1 (by rw [← HG.out, ← HG.out]; exact hl)])⟩
                        case measure => simp [intOf]; omega
                    · have hj1z : ¬ (j : Int) < (b : Int) := by omega
                      go_wp2_with fail
                      go_roundw
                      case rel => exact ⟨k, s + 1, dj, rfl, by simp, by omega, by omega, by omega, hsj, HJ, RND.out dj (by rw [if_pos h2, HDJ.out, shiftUp_stop ltInt b j dj (.inl hj1)])⟩
                      case measure => simp [intOf]; omega
                · have h2z : ¬ (2 : Int) ≤ (b : Int) - (k : Int) := by omega
                  go_wp2_with fail
                  go_roundw
                  case rel => exact ⟨k, s + 1, d2, rfl, by simp, by omega, by omega, by omega, hs2, H2, RND.out d2 (by rw [if_neg h2])⟩
                  case measure => simp [intOf]; omega
        · have hltz : ¬ (k : Int) < (b : Int) := by omega
          have heqz : ((k : Int) == (b : Int)) = true := beq_iff_eq.2 (by omega)
          go_wp2_with fail
          go_quiet (fail)
          go_wp2_with fail
          go_ret
          exact ⟨dk, true, by rw [HE.out]; exact pi_true ltInt a b s i dk hs (by rw [HC.out, scanSorted_stop ltInt dk b k (.inl hlt)]; omega), hsk, rfl, HK.out.drewN nq⟩
    · have hsz5 : ¬ (s : Int) < 5 := by omega
      go_wp2_with fail
      go_ret
      exact ⟨dk, false, by rw [HE.out, show s = 5 by omega]; rfl, hsk, rfl, HS.out⟩
end Go.Proofs.YtadopbpfnnpnaaaGreat

