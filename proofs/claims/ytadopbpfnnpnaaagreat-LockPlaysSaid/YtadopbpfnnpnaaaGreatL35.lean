/-
  Texts on locks, put together: Su8 Su9 Su10 Su11.
-/
import Derived.Shelf.SlSortCmp.Xorshift
import Derived.Sort.Walk7
import Derived.Sort.LotD3
import Derived.Test.YtadopbpfnnpnaaaGreatL7
import Derived.Test.YtadopbpfnnpnaaaGreatL34
set_option linter.unusedVariables false
set_option linter.unusedSimpArgs false
/-
  slices.Sort over uint64: breakPatternsOrdered.
-/
namespace Go.Proofs.YtadopbpfnnpnaaaGreat
open Go.RowKit Go.Sort

abbrev TXs : TypeId := 140
theorem next_u (rb X : Nat) (hX : X < 18446744073709551616) (w : World) (hb : Blk w rb TXs #[.int .u64 X]) :
    Calls Tryz.prog 98 #[.pointer (some ⟨rb, 0, none⟩)] w fun e w' => ∃ Y : Nat, Y < 18446744073709551616 ∧ e = .returned (.int .u64 Y) ∧ w' = (w.setCell ⟨rb, 0, none⟩ (.int .u64 Y)).drewN 3 :=
  (AnyF.xorshift_Next (P := Tryz.prog) (ρ := Shk.sortK_ren) { Shk.sortK with } rb 0 X hX w (hb.cell 0) (hb.frozen 0)).mono fun _ _ ⟨h1, h2⟩ => ⟨xorNextN X, xorNextN_lt X hX, h1, h2⟩
theorem pow2_u (n : Nat) (h0 : 0 < n) (hn : n < 4611686018427387904) (w : World) :
    Calls Tryz.prog 97 #[.int .i64 n] w fun e w' => ∃ M : Nat, 1 ≤ M ∧ M ≤ 2 * n ∧ e = .returned (.int .u64 M) ∧ w' = w :=
  (AnyF.nextPowerOfTwo (P := Tryz.prog) (ρ := Shk.sortK_ren) { Shk.sortK with } n hn w).mono fun e w' ⟨h1, h2⟩ => ⟨1 <<< bitsLen n, by rw [Nat.one_shiftLeft]; exact Nat.two_pow_pos _, by rw [Nat.one_shiftLeft]; exact two_pow_bitsLen_le h0, h1, h2⟩
theorem Blk.two {w : World} {g rb i j : Nat} {t : TypeId} {cs : Array Value} {u v : Value} (h : Blk w rb t cs) (hne : rb ≠ g) : Blk (((w.setCell ⟨g, i, none⟩ u).setCell ⟨g, j, none⟩ v).drew) rb t cs := (h.far hne _).far hne _
set_option maxHeartbeats 16000000 in
set_option maxRecDepth 1000000 in
theorem break_u {W0 w : World} {g off N n cap a b : Nat} {d : Array Int} (h : SU W0 w g off N d) (hn : d.size = n) (hab : a + 12 < b) (hb : b ≤ n) (hsz : n < 4611686018427387904) (hg : g < W0.heap.size) :
    Calls Tryz.prog 75 #[.slice (some ⟨g, off, none⟩) n cap, .int .i64 a, .int .i64 b] w fun e w' => e = .returned (.tuple #[]) ∧ ∃ d', d'.size = n ∧ SU W0 w' g off N d' ∧ PermIn a b d d' := by
  obtain ⟨l, hl⟩ : ∃ l, l = b - a := ⟨_, rfl⟩
  obtain ⟨q, hq⟩ : ∃ q, q = l / 4 := ⟨_, rfl⟩
  have hlz : (b : Int) - (a : Int) = (l : Int) := by omega
  have hl4 : 4 * q ≤ l ∧ l < 4 * q + 4 := by omega
  have hqz : ((l : Int)).tdiv 4 = (q : Int) := by rw [hq]; rfl
  have hqw : (IntKind.i64.wrap (q : Int)) = (q : Int) := by rw [IntWalk.i64_in _ (by omega)]
  have hl8 : (8 : Int) ≤ (l : Int) := by omega
  have hbb : a + l = b := by omega
  have hlw : IntKind.u64.wrap (l : Int) = (l : Int) := by rw [IntKind.wrap_u64]; omega
  obtain ⟨C, hC⟩ : ∃ C : Nat, (a : Int) + (q : Int) * 2 - 1 = (C : Int) ∧ C + 1 = a + 2 * q := ⟨a + 2 * q - 1, by omega, by omega⟩
  have hC1 := hC.1
  have hC2 : (a : Int) + (q : Int) * 2 + 1 = ((C + 2 : Nat) : Int) := by omega
  have hwn := h.on.size
  obtain ⟨rb, hrb⟩ : ∃ rb, rb = w.heap.size := ⟨_, rfl⟩
  have hne : rb ≠ g := by omega
  have hnew : W0.heap.size ≤ rb := by omega
  have Hb := Lib.hid (Blk.new w TXs #[.int .u64 (l : Int)])
  have Hs := Lib.hid (h.gr ((Gr.refl w).alloc (Nat.le_refl _) (.cells #[.int .u64 (l : Int)] TXs)))
  rw [← hrb] at Hb
  have HRB := Lib.hid hrb
  clear h hl hq hrb hwn
  go_enter Tryz.func75, Tryz.ntmps75
  go_wp2_with fail
  refine (pow2_u l (by omega) (by omega) _).mono ?_
  rintro e w1 ⟨M, hM1, hM2, rfl, rfl⟩
  rw [← HRB.out]
  obtain ⟨V, hV⟩ : ∃ V, V = w.alloc (.cells #[.int .u64 (l : Int)] TXs) := ⟨_, rfl⟩
  rw [show w.alloc (.cells #[.int .u64 (l : Int)] 140) = V from hV.symm]
  rw [← hV] at Hb Hs
  clear hV
  have hMz : IntKind.u64.wrap ((M : Int) - 1) = ((M - 1 : Nat) : Int) := by rw [IntKind.wrap_u64]; omega
  have hMz2 : ((M : Int) - 1) = ((M - 1 : Nat) : Int) := by omega
  obtain ⟨M1, hM⟩ : ∃ M1, M1 = M - 1 := ⟨_, rfl⟩
  rw [← hM] at hMz hMz2
  have hMl : M1 < 2 * l := by omega
  clear hM hC
  go_wp2_with fail
  go_loopw [9] (fun vi wr => ∃ (k : Nat) (dk : Array Int) (X : Nat), vi = .int .i64 k ∧ C ≤ k ∧ k ≤ C + 3 ∧ dk.size = n ∧ X < 18446744073709551616 ∧ Hid (Blk wr rb TXs #[.int .u64 (X : Int)]) ∧ Hid (SU W0 wr g off N dk) ∧ Hid (PermIn a b d dk)) (fun vi _ => C + 3 - (intOf vi).toNat)
  case atStart => exact ⟨C, d, l, rfl, by omega, by omega, hn, by omega, Hb, Hs, Lib.hid (permIn_refl _ _ _)⟩
  case round =>
    obtain ⟨k, dk, X, rfl, hk0, hk1, hsk, hX, HB, HS, HP⟩ := hrel
    by_cases hk : k ≤ C + 2
    · have hkz : (k : Int) ≤ ((C + 2 : Nat) : Int) := by omega
      go_wp2_with fail
      refine (next_u rb X hX wr HB.out).mono ?_
      rintro e w2 ⟨Y, hY, rfl, rfl⟩
      obtain ⟨O, hO⟩ : ∃ O : Nat, O = Y &&& M1 := ⟨_, rfl⟩
      have lO : O ≤ M1 := by rw [hO]; exact Nat.and_le_right
      have eAnd : bits .and .u64 (Y : Int) (M1 : Int) = (O : Int) := by rw [bits_and_u64_nat _ _ hY (by omega), hO]
      clear hO
      have HB2 : Hid (Blk ((wr.setCell ⟨rb, 0, none⟩ (.int .u64 (Y : Int))).drewN 3) rb TXs #[.int .u64 (Y : Int)]) := Lib.hid ((HB.out.set 0 _).drewN 3)
      have HS2 : Hid (SU W0 ((wr.setCell ⟨rb, 0, none⟩ (.int .u64 (Y : Int))).drewN 3) g off N dk) := Lib.hid ((HS.out.other _ hne hnew).drewN 3)
      obtain ⟨V2, hV2⟩ : ∃ V2, V2 = (wr.setCell ⟨rb, 0, none⟩ (.int .u64 (Y : Int))).drewN 3 := ⟨_, rfl⟩
      rw [← hV2] at HB2 HS2 ⊢
      clear hV2
      --swaps
      by_cases hOl : l ≤ O
      · have hOz : (l : Int) ≤ (O : Int) := by omega
        obtain ⟨x, hx⟩ : ∃ x : Nat, (O : Int) - (l : Int) = (x : Int) := ⟨O - l, by omega⟩
        have hxl : x < l := by omega
        by_cases heq : k = a + x
        · subst heq
          obtain ⟨G, HG, hcw, hfw⟩ := HS2.out.fam hsk
          have H4 := Lib.hid (HS2.out.swap (i := (a + x)) (j := a + x) (by omega) (by omega)).drew
          have HP4 := Lib.hid (permIn_trans _ _ _ _ _ HP.out (swp_permIn dk a b (a + x) (a + x) (by omega) (by omega) (by omega) (by omega) (by omega)))
          go_wp2_with fail
          go_region
          all_goals go_wp2_with fail
          go_roundw
          case rel => exact ⟨(a + x) + 1, swp dk (a + x) (a + x), Y, by simp, by omega, by omega, by rw [size_swp]; exact hsk, hY, Lib.hid (HB2.out.two hne), by (repeat rw [HG.out]); exact H4, HP4⟩
          case measure => simp [intOf]; omega
        · obtain ⟨G, HG, hcw, hfw⟩ := HS2.out.fam hsk
          have H4 := Lib.hid (HS2.out.swap (i := k) (j := a + x) (by omega) (by omega)).drew
          have HP4 := Lib.hid (permIn_trans _ _ _ _ _ HP.out (swp_permIn dk a b k (a + x) (by omega) (by omega) (by omega) (by omega) (by omega)))
          go_wp2_with fail
          go_region
          all_goals go_wp2_with fail
          go_roundw
          case rel => exact ⟨k + 1, swp dk k (a + x), Y, by simp, by omega, by omega, by rw [size_swp]; exact hsk, hY, Lib.hid (HB2.out.two hne), by (repeat rw [HG.out]); exact H4, HP4⟩
          case measure => simp [intOf]; omega
      · have hOz : ¬ (l : Int) ≤ (O : Int) := by omega
        by_cases heq : k = a + O
        · subst heq
          obtain ⟨G, HG, hcw, hfw⟩ := HS2.out.fam hsk
          have H4 := Lib.hid (HS2.out.swap (i := (a + O)) (j := a + O) (by omega) (by omega)).drew
          have HP4 := Lib.hid (permIn_trans _ _ _ _ _ HP.out (swp_permIn dk a b (a + O) (a + O) (by omega) (by omega) (by omega) (by omega) (by omega)))
          go_wp2_with fail
          go_region
          all_goals go_wp2_with fail
          go_roundw
          case rel => exact ⟨(a + O) + 1, swp dk (a + O) (a + O), Y, by simp, by omega, by omega, by rw [size_swp]; exact hsk, hY, Lib.hid (HB2.out.two hne), by (repeat rw [HG.out]); exact H4, HP4⟩
          case measure => simp [intOf]; omega
        · obtain ⟨G, HG, hcw, hfw⟩ := HS2.out.fam hsk
          have H4 := Lib.hid (HS2.out.swap (i := k) (j := a + O) (by omega) (by omega)).drew
          have HP4 := Lib.hid (permIn_trans _ _ _ _ _ HP.out (swp_permIn dk a b k (a + O) (by omega) (by omega) (by omega) (by omega) (by omega)))
          go_wp2_with fail
          go_region
          all_goals go_wp2_with fail
          go_roundw
          case rel => exact ⟨k + 1, swp dk k (a + O), Y, by simp, by omega, by omega, by rw [size_swp]; exact hsk, hY, Lib.hid (HB2.out.two hne), by (repeat rw [HG.out]); exact H4, HP4⟩
          case measure => simp [intOf]; omega
    · have hkz : ¬ (k : Int) ≤ ((C + 2 : Nat) : Int) := by omega
      go_wp2_with fail
      go_end0
      exact ⟨rfl, dk, hsk, HS.out, HP.out⟩
end Go.Proofs.YtadopbpfnnpnaaaGreat

/-
  slices.Sort over uint64: what the rounds of pdqsortOrdered leave.
-/
namespace Go.Proofs.YtadopbpfnnpnaaaGreat
open Go.RowKit Go.Sort

section
variable {a b mid : Nat} {d d3 d4 : Array Int}
/-- Whatever sorts a part sorts the whole. -/
def Fin (a b a' b' : Nat) (d dk : Array Int) : Prop := ∀ R : Array Int, PermIn a' b' dk R → SortedIn ltInt a' b' R → PermIn a b d R ∧ SortedIn ltInt a b R
theorem Fin.start (a b : Nat) (d : Array Int) : Fin a b a b d d := fun _ h1 h2 => ⟨h1, h2⟩
theorem Fin.perm {a' b' : Nat} (h : Fin a b a' b' d d3) (p : PermIn a' b' d3 d4) : Fin a b a' b' d d4 := fun R h1 h2 => h R (permIn_trans _ _ _ _ _ p h1) h2
theorem Fin.then {a' b' a2 b2 : Nat} (h : Fin a b a' b' d d3) (k : Fin a' b' a2 b2 d3 d4) : Fin a b a2 b2 d d4 := fun R h1 h2 => by
  obtain ⟨h3, h4⟩ := k R h1 h2
  exact h R h3 h4
theorem fin_eq {x : Int} (hm : mid ≤ b) (ham : a < mid) (hb : b ≤ d3.size) (hge : ∀ i, a ≤ i → i < b → ltInt d3[i]! x = false) (hperm : PermIn a b d3 d4) (hle : ∀ i, a ≤ i → i < mid → ltInt x d4[i]! = false) (hgt : ∀ i, mid ≤ i → i < b → ltInt x d4[i]! = true) :
    Go.Sort.Below ltInt mid b d4 ∧ Fin a b mid b d3 d4 := by
  have h := swo_ltInt
  have hge4 := permIn_all d3 d4 a b (fun y => ltInt y x = false) hb hperm hge
  have hb4 : b ≤ d4.size := by rw [hperm.1]; exact hb
  refine ⟨.inr fun i hi hi' => ?_, fun R hR hs => ⟨permIn_trans _ _ _ a b hperm (permIn_mono _ _ mid b a b (by omega) (Nat.le_refl _) hb4 hR), ?_⟩⟩
  · cases hc : ltInt d4[i]! d4[mid - 1]! with
    | false => rfl
    | true =>
      have := h.trans _ _ _ (hgt i hi hi') hc
      rw [hle (mid - 1) (by omega) (by omega)] at this
      cases this
  · have e : ∀ i, i < mid → R[i]! = d4[i]! := fun i hi => hR.2.1 i (.inl hi)
    exact sorted_glue_eq h x hs (fun i hi hi' => by rw [e i hi']; exact hle i hi hi') (fun i hi hi' => by rw [e i hi']; exact hge4 i hi (by omega)) (permIn_all d4 R mid b (fun y => ltInt x y = true) hb4 hR hgt)
structure Mid (a b mid : Nat) (d3 d4 : Array Int) : Prop where
  am : a ≤ mid
  mb : mid < b
  perm : PermIn a b d3 d4
  lo : ∀ i, a ≤ i → i < mid → ltInt d4[i]! d4[mid]! = true
  hi : ∀ i, mid < i → i < b → ltInt d4[i]! d4[mid]! = false
theorem Mid.glue (h : Mid a b mid d3 d4) (_ : b ≤ d4.size) {R : Array Int} (hL : SortedIn ltInt a mid R) (hR : SortedIn ltInt (mid + 1) b R) (hp : PermIn a b d4 R) (e : R[mid]! = d4[mid]!) (h1 : ∀ i, a ≤ i → i < mid → ltInt R[i]! d4[mid]! = true) (h2 : ∀ i, mid < i → i < b → ltInt R[i]! d4[mid]! = false) : PermIn a b d3 R ∧ SortedIn ltInt a b R :=
  ⟨permIn_trans _ _ _ _ _ h.perm hp, sorted_glue swo_ltInt hL hR (fun i q1 q2 => by rw [e]; exact h1 i q1 q2) (fun i q1 q2 => by rw [e]; exact h2 i q1 q2)⟩
theorem Mid.below (h : Mid a b mid d3 d4) (hb : b ≤ d3.size) (hB : Go.Sort.Below ltInt a b d3) : Go.Sort.Below ltInt a mid d4 ∧ Go.Sort.Below ltInt (mid + 1) b d4 :=
  ⟨(hB.perm hb h.perm).mono (by have := h.mb; omega), .inr fun i q1 q2 => by rw [Nat.add_sub_cancel]; exact h.hi i (by omega) q2⟩
theorem Mid.left (h : Mid a b mid d3 d4) (hb : b ≤ d4.size) {L : Array Int} (hL : PermIn a mid d4 L) (hs : SortedIn ltInt a mid L) : Go.Sort.Below ltInt (mid + 1) b L ∧ Fin a b (mid + 1) b d3 L := by
  have h1 := h.am
  have h2 := h.mb
  have eL : ∀ i, mid ≤ i → L[i]! = d4[i]! := fun i hi => hL.2.1 i (.inr hi)
  have hbL : b ≤ L.size := by rw [hL.1]; exact hb
  refine ⟨.inr fun i q1 q2 => by rw [Nat.add_sub_cancel, eL i (by omega), eL mid (Nat.le_refl _)]; exact h.hi i (by omega) q2, fun R hR hsR => ?_⟩
  have eR : ∀ i, i ≤ mid → R[i]! = L[i]! := fun i hi => hR.2.1 i (.inl (by omega))
  refine h.glue hb (hs.congr fun i _ q => eR i (by omega)) hsR (permIn_trans _ _ _ a b (permIn_mono _ _ a mid a b (Nat.le_refl _) (by omega) hb hL) (permIn_mono _ _ (mid + 1) b a b (by omega) (Nat.le_refl _) hbL hR)) (by rw [eR mid (Nat.le_refl _), eL mid (Nat.le_refl _)]) (fun i q1 q2 => ?_) (fun i q1 q2 => ?_)
  · rw [eR i (by omega)]
    exact permIn_all d4 L a mid (fun y => ltInt y d4[mid]! = true) (by omega) hL h.lo i q1 q2
  · exact permIn_all L R (mid + 1) b (fun y => ltInt y d4[mid]! = false) hbL hR (fun k q3 q4 => by rw [eL k (by omega)]; exact h.hi k (by omega) q4) i (by omega) q2
theorem Mid.right (h : Mid a b mid d3 d4) (hb : b ≤ d4.size) (hB : Go.Sort.Below ltInt a mid d4) {L : Array Int} (hL : PermIn (mid + 1) b d4 L) (hs : SortedIn ltInt (mid + 1) b L) : Go.Sort.Below ltInt a mid L ∧ Fin a b a mid d3 L := by
  have h1 := h.am
  have h2 := h.mb
  have eL : ∀ i, i ≤ mid → L[i]! = d4[i]! := fun i hi => hL.2.1 i (.inl (by omega))
  have hbL : b ≤ L.size := by rw [hL.1]; exact hb
  refine ⟨?_, fun R hR hsR => ?_⟩
  · rcases hB with e | e
    · exact .inl e
    · exact .inr fun i q1 q2 => by rw [eL i (by omega), eL (a - 1) (by omega)]; exact e i q1 q2
  have eR : ∀ i, mid ≤ i → R[i]! = L[i]! := fun i hi => hR.2.1 i (.inr hi)
  refine h.glue hb hsR (hs.congr fun i q _ => eR i (by omega)) (permIn_trans _ _ _ a b (permIn_mono _ _ (mid + 1) b a b (by omega) (Nat.le_refl _) hb hL) (permIn_mono _ _ a mid a b (Nat.le_refl _) (by omega) hbL hR)) (by rw [eR mid (Nat.le_refl _), eL mid (Nat.le_refl _)]) (fun i q1 q2 => ?_) (fun i q1 q2 => ?_)
  · exact permIn_all L R a mid (fun y => ltInt y d4[mid]! = true) (by omega) hR (fun k q3 q4 => by rw [eL k (by omega)]; exact h.lo k q3 q4) i q1 q2
  · rw [eR i (by omega)]
    exact permIn_all d4 L (mid + 1) b (fun y => ltInt y d4[mid]! = false) hb hL (fun k q3 q4 => h.hi k (by omega) q4) i (by omega) q2
end
def RetPdq (W0 : World) (g off N n a b : Nat) (d : Array Int) (e : Ending) (w' : World) : Prop := e = .returned (.tuple #[]) ∧ ∃ d', d'.size = n ∧ PermIn a b d d' ∧ SortedIn ltInt a b d' ∧ SU W0 w' g off N d'
end Go.Proofs.YtadopbpfnnpnaaaGreat

/-
  slices.Sort over uint64: pdqsortOrdered.
-/
namespace Go.Proofs.YtadopbpfnnpnaaaGreat
open Go.RowKit Go.Sort

set_option maxHeartbeats 64000000 in
set_option maxRecDepth 1000000 in
theorem pdq_step {W0 : World} {g off N n cap : Nat} (hsz : n < 4611686018427387904) (hg : g < W0.heap.size) (m : Nat)
    (IH : ∀ m', m' < m → ∀ (a b limit : Nat) (w : World) (d : Array Int), b - a ≤ m' → SU W0 w g off N d → d.size = n → a ≤ b → b ≤ n → limit ≤ 100 → Go.Sort.Below ltInt a b d →
      Calls Tryz.prog 62 #[.slice (some ⟨g, off, none⟩) n cap, .int .i64 a, .int .i64 b, .int .i64 limit] w (RetPdq W0 g off N n a b d))
    (a b limit : Nat) (w : World) (d : Array Int) (hm : b - a ≤ m) (h : SU W0 w g off N d) (hn : d.size = n) (hab : a ≤ b) (hb : b ≤ n) (hl : limit ≤ 100) (hB : Go.Sort.Below ltInt a b d) :
    Calls Tryz.prog 62 #[.slice (some ⟨g, off, none⟩) n cap, .int .i64 a, .int .i64 b, .int .i64 limit] w (RetPdq W0 g off N n a b d) := by
  have H := Lib.hid h
  have HB := Lib.hid hB
  have HI := Lib.hid IH
  clear h hB IH
  go_enter Tryz.func62, Tryz.ntmps62
  go_wp2_with fail
  go_loopw [1, 2, 3, 8, 9] (fun s1 s2 s3 s8 s9 wr => ∃ (a' b' l : Nat) (wb wp : Bool) (dk : Array Int), s1 = .int .i64 a' ∧ s2 = .int .i64 b' ∧ s3 = .int .i64 l ∧ s8 = .bool wb ∧ s9 = .bool wp ∧ a ≤ a' ∧ a' ≤ b' ∧ b' ≤ b ∧ l ≤ 100 ∧ dk.size = n ∧ Hid (Go.Sort.Below ltInt a' b' dk) ∧ Hid (SU W0 wr g off N dk) ∧ Hid (Fin a b a' b' d dk)) (fun s1 s2 _ _ _ _ => (intOf s2).toNat - (intOf s1).toNat)
  case atStart => exact ⟨a, b, limit, true, true, d, rfl, rfl, rfl, rfl, rfl, Nat.le_refl _, hab, Nat.le_refl _, hl, hn, HB, H, Lib.hid (Fin.start a b d)⟩
  case round =>
    obtain ⟨a', b', l, wb, wp, dk, rfl, rfl, rfl, rfl, rfl, haa, hab', hbb, hl', hsk, HBk, HS, HF⟩ := hrel
    obtain ⟨len, hlen⟩ : ∃ len : Nat, (b' : Int) - (a' : Int) = (len : Int) := ⟨b' - a', by omega⟩
    by_cases h12 : len ≤ 12
    · have h12z : (len : Int) ≤ 12 := by omega
      go_wp2_with fail
      refine (insertion_u HS.out hsk hab' (by omega) hsz).mono ?_
      rintro e w' ⟨rfl, h'⟩
      obtain ⟨p1, p2⟩ := insertionSort_holds (lt := ltInt) swo_ltInt dk a' b' hab' (by omega)
      have HR := Lib.hid (And.intro h' (HF.out _ p1 p2))
      have hs9 := p1.1
      clear h' p1 p2
      go_wp2_with fail
      (try simp only [Exit.inBlock, Exit.then]); refine bodyPost_ret (results_none rfl _ _ _) rfl ?_
      exact ⟨rfl, _, by omega, HR.out.2.1, HR.out.2.2, HR.out.1⟩
    · have h12z : ¬ (len : Int) ≤ 12 := by omega
      by_cases hl0 : l = 0
      · have hl0z : ((l : Int) == 0) = true := beq_iff_eq.2 (by omega)
        go_wp2_with fail
        refine (heap_u HS.out hsk (by omega) (by omega) hsz).mono ?_
        rintro e w' ⟨rfl, h'⟩
        obtain ⟨p1, p2⟩ := heapSort_holds (lt := ltInt) swo_ltInt dk a' b' hab' (by omega)
        have HR := Lib.hid (And.intro h' (HF.out _ p1 p2))
        have hs9 := p1.1
        clear h' p1 p2
        go_wp2_with fail
        (try simp only [Exit.inBlock, Exit.then]); refine bodyPost_ret (results_none rfl _ _ _) rfl ?_
        exact ⟨rfl, _, by omega, HR.out.2.1, HR.out.2.2, HR.out.1⟩
      · have hl0z : ((l : Int) == 0) = false := beq_eq_false_iff_ne.2 (by omega)
        go_upto_if 35 with fail
        go_cut [3] from 36 to 41 (fun s3 wx => ∃ (l1 : Nat) (d1 : Array Int), s3 = .int .i64 l1 ∧ l1 ≤ 100 ∧ d1.size = n ∧ Hid (SU W0 wx g off N d1) ∧ Hid (PermIn a' b' dk d1))
        case first =>
          cases wb
          · go_wp2_with fail
            refine (break_u HS.out hsk (by omega) (by omega) hsz hg).mono ?_
            rintro e w' ⟨rfl, d1, hs1, h1, p1⟩
            have H1 := Lib.hid h1
            have P1 := Lib.hid p1
            clear h1 p1
            go_wp2_with fail
            go_meet
            exact ⟨l - 1, d1, by congr 1; omega, by omega, hs1, H1, P1⟩
          · go_wp2_with fail
            go_meet
            exact ⟨l, dk, rfl, hl', hsk, HS, Lib.hid (permIn_refl _ _ _)⟩
        case rest =>
          obtain ⟨l1, d1, rfl, hl1, hs1, H1, P1⟩ := hcut
          go_wp2_with fail
          refine (choose_u H1.out hs1 (by omega) (by omega) hsz hg).mono ?_
          rintro e w2 ⟨p, hint, rfl, hp1, hp2, h2⟩
          have H2 := Lib.hid h2
          clear h2
          go_upto_if 50 with fail
          have hB2 := HBk.out.perm (by omega) P1.out
          have F2 := Lib.hid (HF.out.perm P1.out)
          have B2 := Lib.hid hB2
          clear hB2
          go_cut [11, 12] from 42 to 60 (fun s11 s12 wx => ∃ (pv : Nat) (h2 : Int) (d2 : Array Int), s11 = .int .i64 pv ∧ s12 = .int .i64 h2 ∧ a' ≤ pv ∧ pv < b' ∧ d2.size = n ∧ Hid (SU W0 wx g off N d2) ∧ Hid (PermIn a' b' d1 d2))
          case first =>
            cases t2 : (hint == 2)
            · go_wp2_with fail
              go_meet
              exact ⟨p, hint, d1, rfl, rfl, hp1, hp2, hs1, H2, Lib.hid (permIn_refl _ _ _)⟩
            · obtain ⟨pv, hpv⟩ : ∃ pv : Nat, (b' : Int) - 1 - ((p : Int) - (a' : Int)) = (pv : Int) := ⟨b' - 1 - (p - a'), by omega⟩
              go_wp2_with fail
              refine (reverse_u (a := a') (b := b') H2.out hs1 (by omega) hsz).mono ?_
              rintro e w3 ⟨rfl, d2, h3, p3⟩
              have H3 := Lib.hid h3
              have P3 := Lib.hid p3
              have hs2 : d2.size = n := by rw [p3.1]; exact hs1
              clear h3 p3
              go_wp2_with fail
              go_meet
              exact ⟨pv, 1, d2, rfl, rfl, by omega, by omega, hs2, H3, P3⟩
          case rest =>
            obtain ⟨pv, h2, d2, rfl, rfl, hv1, hv2, hs2, H3, P3⟩ := hcut
            have B3 := Lib.hid (B2.out.perm (by omega) P3.out)
            have F3 := Lib.hid (F2.out.perm P3.out)
            clear B2 F2 P3 H2 H1 P1 HF
            go_upto_region 15 with fail
            go_cut [68] from 61 to 67 (fun s68 wx => ∃ q : Bool, s68 = .bool q ∧ wx = wc)
            case first =>
              cases wb
              · go_wp2_with fail
                go_meet
                exact ⟨false, rfl, rfl⟩
              · cases wp
                · go_wp2_with fail
                  go_meet
                  exact ⟨false, rfl, rfl⟩
                · cases t1 : (h2 == 1)
                  · go_wp2_with fail
                    go_meet
                    exact ⟨false, rfl, rfl⟩
                  · go_wp2_with fail
                    go_meet
                    exact ⟨true, rfl, rfl⟩
            case rest =>
              obtain ⟨q, rfl, rfl⟩ := hcut
              go_upto_if 68 with fail
              go_cut [] from 69 to 72 (fun wx => ∃ d3, d3.size = n ∧ Hid (SU W0 wx g off N d3) ∧ Hid (PermIn a' b' d2 d3))
              case first =>
                cases q
                · go_wp2_with fail
                  go_meet
                  exact ⟨d2, hs2, H3, Lib.hid (permIn_refl _ _ _)⟩
                · go_wp2_with fail
                  refine (partial_u H3.out hs2 (by omega) (by omega) hsz).mono ?_
                  rintro e w4 ⟨d3, r, he, hs3, rfl, h4⟩
                  have hpi := partialInsertionSort_holds (lt := ltInt) swo_ltInt d2 a' b' (by omega) (by omega) B3.out
                  rw [he] at hpi
                  have H4 := Lib.hid h4
                  have HPI := Lib.hid hpi
                  clear h4 hpi he
                  cases r
                  · go_wp2_with fail
                    go_meet
                    exact ⟨d3, hs3, H4, Lib.hid HPI.out.1⟩
                  · have HR := Lib.hid (F3.out _ HPI.out.1 (HPI.out.2 rfl))
                    go_wp2_with fail
                    (try simp only [Exit.inBlock, Exit.then]); refine bodyPost_ret (results_none rfl _ _ _) rfl ?_
                    exact ⟨rfl, d3, hs3, HR.out.1, HR.out.2, H4.out⟩
              case rest =>
                obtain ⟨d3, hs3, H4, P4⟩ := hcut
                have B4 := Lib.hid (B3.out.perm (by omega) P4.out)
                have F4 := Lib.hid (F3.out.perm P4.out)
                clear B3 F3 P4 H3
                obtain ⟨G, HG, hcw, hfw⟩ := H4.out.fam hs3
                go_upto_region 17 with fail
                go_cut [87] from 73 to 86 (fun s87 wx => ∃ q : Bool, s87 = .bool q ∧ Hid (SU W0 wx g off N d3) ∧ Hid (q = true → 0 < a' ∧ ltInt d3[a' - 1]! d3[pv]! = false))
                case first =>
                  by_cases ha0 : 0 < a'
                  · have ha0z : (0 : Int) < (a' : Int) := by omega
                    go_quiet (first | (go_at_call 79; refine Calls.quiet_of_same (less_u _ _ _)))
                    go_wp2_with fail
                    go_meet
                    exact ⟨_, rfl, Lib.hid (H4.out.drewN nq), Lib.hid fun e => ⟨ha0, by rw [← HG.out, ← HG.out]; simpa using e⟩⟩
                  · have ha0z : ¬ (0 : Int) < (a' : Int) := by omega
                    go_quiet (fail)
                    go_wp2_with fail
                    go_meet
                    exact ⟨_, rfl, Lib.hid (H4.out.drewN nq), Lib.hid fun e => by cases e⟩
                case rest =>
                  clear hcw hfw HG
                  obtain ⟨q2, rfl, H5, HQ2⟩ := hcut
                  cases q2
                  · go_wp2_with fail
                    refine (partition_u H5.out hs3 hv1 hv2 (by omega) hsz).mono ?_
                    rintro e w6 ⟨mid, r, d4, rfl, am, mb, hs4, perm, lo, hi, h6⟩
                    have MD := Lib.hid (Mid.mk am mb perm lo hi)
                    have H6 := Lib.hid h6
                    have BL := Lib.hid (MD.out.below (by omega) B4.out)
                    clear perm lo hi h6
                    obtain ⟨ll, hll⟩ : ∃ ll : Nat, (mid : Int) - (a' : Int) = (ll : Int) := ⟨mid - a', by omega⟩
                    obtain ⟨rl, hrl⟩ : ∃ rl : Nat, (b' : Int) - (mid : Int) = (rl : Int) := ⟨b' - mid, by omega⟩
                    obtain ⟨t8, ht8⟩ : ∃ t8 : Nat, t8 = len / 8 := ⟨_, rfl⟩
                    have ht8z : ((len : Int)).tdiv 8 = (t8 : Int) := by rw [ht8]; rfl
                    have ht8w : (IntKind.i64.wrap (t8 : Int)) = (t8 : Int) := by rw [IntWalk.i64_in _ (by omega)]
                    clear ht8
                    by_cases hlr : ll < rl
                    · have hlrz : (ll : Int) < (rl : Int) := by omega
                      go_wp2_with fail
                      refine (HI.out (mid - a') (by omega) a' mid l1 _ d4 (Nat.le_refl _) H6.out hs4 am (by omega) hl1 BL.out.1).mono ?_
                      rintro e w7 ⟨rfl, d5, hs5, p5, s5, h7⟩
                      have H7 := Lib.hid h7
                      have ML := Lib.hid (MD.out.left (by omega) p5 s5)
                      clear h7 p5 s5
                      go_wp2_with fail
                      go_roundw
                      case rel => exact ⟨mid + 1, b', l1, _, r, d5, by simp, rfl, rfl, rfl, rfl, by omega, by omega, hbb, hl1, hs5, Lib.hid ML.out.1, H7, Lib.hid (F4.out.then ML.out.2)⟩
                      case measure => simp [intOf]; omega
                    · have hlrz : ¬ (ll : Int) < (rl : Int) := by omega
                      obtain ⟨md1, hmd1⟩ : ∃ md1 : Nat, (mid : Int) + 1 = (md1 : Int) ∧ md1 = mid + 1 := ⟨mid + 1, by omega, rfl⟩
                      have hmd1z := hmd1.1
                      have HMD := Lib.hid hmd1.2
                      have hmdb : md1 ≤ b' ∧ b' - md1 < m := by omega
                      clear hmd1
                      go_wp2_with fail
                      refine (HI.out (b' - md1) hmdb.2 md1 b' l1 _ d4 (Nat.le_refl _) H6.out hs4 hmdb.1 (by omega) hl1 (by rw [HMD.out]; exact BL.out.2)).mono ?_
                      rintro e w7 ⟨rfl, d5, hs5, p5, s5, h7⟩
                      rw [HMD.out] at p5 s5
                      have H7 := Lib.hid h7
                      have ML := Lib.hid (MD.out.right (by omega) BL.out.1 p5 s5)
                      clear h7 p5 s5
                      go_wp2_with fail
                      go_roundw
                      case rel => exact ⟨a', mid, l1, _, r, d5, rfl, rfl, rfl, rfl, rfl, by omega, am, by omega, hl1, hs5, Lib.hid ML.out.1, H7, Lib.hid (F4.out.then ML.out.2)⟩
                      case measure => simp [intOf]; omega
                  · have hq := HQ2.out rfl
                    have hge : ∀ i, a' ≤ i → i < b' → ltInt d3[i]! d3[pv]! = false := fun i q1 q2 => by
                      rcases B4.out with e | e
                      · omega
                      · exact swo_ltInt.ntrans _ _ _ (e i q1 q2) hq.2
                    have HGE := Lib.hid hge
                    clear hq hge
                    go_wp2_with fail
                    refine (parteq_u H5.out hs3 hv1 hv2 (by omega) hsz).mono ?_
                    rintro e w6 ⟨mid, d4, rfl, am, mb, hs4, perm, lo, hi, h6⟩
                    have H6 := Lib.hid h6
                    have FE := Lib.hid (fin_eq mb am (by omega) HGE.out perm lo hi)
                    clear perm lo hi h6
                    go_wp2_with fail
                    go_roundw
                    case rel => exact ⟨mid, b', l1, wb, wp, d4, rfl, rfl, rfl, rfl, rfl, by omega, mb, hbb, hl1, hs4, Lib.hid FE.out.1, H6, Lib.hid (F4.out.then FE.out.2)⟩
                    case measure => simp [intOf]; omega
theorem pdq_u {W0 : World} {g off N n cap : Nat} (hsz : n < 4611686018427387904) (hg : g < W0.heap.size) (m : Nat) : ∀ (a b limit : Nat) (w : World) (d : Array Int), b - a ≤ m → SU W0 w g off N d → d.size = n → a ≤ b → b ≤ n → limit ≤ 100 → Go.Sort.Below ltInt a b d →
      Calls Tryz.prog 62 #[.slice (some ⟨g, off, none⟩) n cap, .int .i64 a, .int .i64 b, .int .i64 limit] w (RetPdq W0 g off N n a b d) :=
  Nat.strongRecOn m fun m IH a b limit w d hm h hn hab hb hl hB => pdq_step hsz hg m IH a b limit w d hm h hn hab hb hl hB
end Go.Proofs.YtadopbpfnnpnaaaGreat

/-
  slices.Sort over uint64, whole.
-/
namespace Go.Proofs.YtadopbpfnnpnaaaGreat
open Go.RowKit Go.Sort

theorem len_u (n : Nat) (hn : n < 4611686018427387904) (w : World) : Calls Tryz.prog 63 #[.int .u64 (n : Int)] w fun e w' => ∃ l : Nat, l ≤ 62 ∧ e = .returned (.int .i64 l) ∧ w' = w := by
  have h := Any.bits_Len (P := Tryz.prog) (ρ := Shk.sortK_ren.viaSlsf) (SlLaysF0.n15.bits { Shk.sortK with }) (n : Int) w (by omega) (by omega)
  refine (show Calls Tryz.prog 63 #[.int .u64 (n : Int)] w _ from h).mono ?_
  rintro e w' ⟨h1, h2⟩
  rw [Int.toNat_natCast, bitLen_eq _ (by omega)] at h1
  exact ⟨bitsLen n, (bitsLen_le_iff n 62).2 (by omega), h1, h2⟩
set_option maxHeartbeats 8000000 in
set_option maxRecDepth 1000000 in
theorem sort_u {w : World} {g off N n cap : Nat} {d : Array Int} (h : SU w w g off N d) (hn : d.size = n) (hsz : n < 4611686018427387904) :
    Calls Tryz.prog 45 #[.slice (some ⟨g, off, none⟩) n cap] w (RetPdq w g off N n 0 n d) := by
  have hg : g < w.heap.size := by
    obtain ⟨cs, h1, _⟩ := h.row
    exact h1.lt
  have hw : IntKind.u64.wrap (n : Int) = (n : Int) := by rw [IntKind.wrap_u64]; omega
  have H := Lib.hid h
  clear h
  go_enter Tryz.func45, Tryz.ntmps45
  go_wp2_with fail
  refine (len_u n hsz w).mono ?_
  rintro e w1 ⟨l, hl, rfl, rfl⟩
  go_wp2_with fail
  refine (pdq_u (W0 := w1) (N := N) hsz hg n 0 n l w1 d (by omega) H.out hn (Nat.zero_le _) (Nat.le_refl _) (by omega) (.inl rfl)).mono ?_
  rintro e w2 ⟨rfl, HR⟩
  go_wp2_with fail
  go_end0
  exact ⟨rfl, HR⟩
/-- The row's numbers, sorted: as a list. -/
theorem sorted_list {n : Nat} {d d' : Array Int} (hn : d.size = n) (hp : PermIn 0 n d d') (hs : SortedIn ltInt 0 n d') : d'.toList = d.toList.mergeSort fun x y => decide (x ≤ y) := by
  subst hn
  have h := sorted_unique_holds swo_ltInt (fun x y h1 h2 => by simp only [ltInt, decide_eq_false_iff_not] at h1 h2; omega) d d' hp hs
  rw [h]
  congr 1
  funext x y
  simp only [ltInt]
  by_cases e : x ≤ y
  · simp [e]
  · simp [e]; omega
end Go.Proofs.YtadopbpfnnpnaaaGreat

