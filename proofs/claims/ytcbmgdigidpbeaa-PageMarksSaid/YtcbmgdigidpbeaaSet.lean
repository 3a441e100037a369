import Derived.Test.YtcbmgdigidpbeaaJoin
namespace Go.Proofs.Ytcbmgdigidpbeaa
open Go.RowKit

/-- What Set answers. -/
def setOk (len : Nat) (f : Int) (n : Nat) (s : Int) : Bool := fitsB n s && standsB len f s
def setR (xs : List Int) (f : Int) (n : Nat) (s : Int) : List Int := if setOk xs.length f n s then xs.take f.toNat ++ (Wd.enc s.toNat n ++ xs.drop (f.toNat + s.toNat)) else []
def setE (xs : List Int) (f : Int) (n : Nat) (s : Int) : Int := if setOk xs.length f n s then 0 else 2

theorem set_nofit (p : Option Addr) (len c : Nat) (f : Int) (n : Nat) (s : Int) (w : World) (h : fitsB n s = false) : Calls Try.prog 19 #[.slice p len c, .int .i64 f, .int .u64 n, .int .i64 s] w (RetBytes 2 [] w) := by
  go_enter Try.func19, Try.ntmps19
  go_wp2_with fail
  refine (put_no n s _ h).mono ?_
  rintro e w' ⟨q, m, d, rfl, hby, hg, hf⟩
  have HBy := Lib.hid hby
  clear hby h
  go_wp2_with fail
  go_ret2
  exact ⟨none, 0, 0, rfl, Byt.nil _, hg, fun _ h => by cases h⟩

set_option maxHeartbeats 400000 in
theorem set_nostand (p : Option Addr) (len c : Nat) (f : Int) (n k : Nat) (w : World) (hl : (len : Int) ≤ 9223372036854775807) (h : fitsB n k = true) (h2 : standsB len f k = false) : Calls Try.prog 19 #[.slice p len c, .int .i64 f, .int .u64 n, .int .i64 k] w (RetBytes 2 [] w) := by
  have HS := Lib.hid h2
  have HP := Lib.hid (put_yes n k)
  have HF := Lib.hid h
  clear h2 h
  go_enter Try.func19, Try.ntmps19
  go_wp2_with fail
  refine (HP.out _ HF.out).mono ?_
  rintro e w' ⟨q, m, d, rfl, hby, hg, hf⟩
  have HBy := Lib.hid hby
  clear hby
  go_wp2_with fail
  refine (stands_any _ _ _ _ _ _ hl).mono ?_
  rintro e w' ⟨rfl, rfl⟩
  rw [HS.out]
  go_wp2_with fail
  go_ret2
  exact ⟨none, 0, 0, rfl, Byt.nil _, hg, fun _ h => by cases h⟩

set_option maxHeartbeats 800000 in
theorem set_yes (b o len c : Nat) (xs : List Int) (F : Nat) (n k : Nat) (w : World) (hx : Byt w (some ⟨b, o, none⟩) len c xs) (hl : len ≤ 140737488355328) (h : fitsB n k = true) (h2 : standsB len F k = true) :
    Calls Try.prog 19 #[.slice (some ⟨b, o, none⟩) len c, .int .i64 F, .int .u64 n, .int .i64 k] w (RetBytes 0 (xs.take F ++ (Wd.enc k n ++ xs.drop (F + k))) w) := by
  obtain ⟨g1, g2, g3, g4⟩ := standsB_iff.1 h2
  have hcap := hx.cap
  have hmost := hx.most
  unfold maxLen at hmost
  have HS := Lib.hid h2
  have HP := Lib.hid (put_yes n k)
  have HF := Lib.hid h
  have HX := Lib.hid hx
  have hFk : F + k ≤ len := by omega
  clear h2 h hx g4 g3
  go_enter Try.func19, Try.ntmps19
  go_wp2_with fail
  refine (HP.out _ HF.out).mono ?_
  rintro e w1 ⟨q, m, d, rfl, hby, hg, hf⟩
  have HBy := Lib.hid hby
  have HG := Lib.hid hg
  clear hby hg hf
  go_wp2_with fail
  refine (stands_any _ _ _ _ _ _ (by omega)).mono ?_
  rintro e w' ⟨rfl, rfl⟩
  rw [HS.out]
  go_wp2_with fail
  have hpre := (HX.out.kept HG.out).pre F F (by omega) (Nat.le_refl _) (by omega)
  have htot : Hid (tot [xs.take F, Wd.enc k n, xs.drop (F + k)] ≤ 140737488355328) := by
    show _ ≤ _
    have := HX.out.len
    simp only [tot, List.flatten_cons, List.flatten_nil, List.length_append, List.length_nil, List.length_take, List.length_drop, Wd.enc_length]
    omega
  have hi1 : (0 : Int) ≤ (F : Int) + (k : Int) := by omega
  have hi2 : (F : Int) + (k : Int) ≤ (len : Int) := by omega
  have hi3 : (F : Int) ≤ (F : Int) + (k : Int) := by omega
  have hi4 : (F : Int) ≤ (c : Int) := by omega
  have hgr2 : Hid (∀ o w2, Below ((w1.alloc o).drew).heap.size ((w1.alloc o).drew) w2 → Gr w w2) := fun o w2 h => by
    have h1 : Gr w ((w1.alloc o).drew) := (HG.out.alloc HG.out.size _).drew
    exact h1.trans h
  have hfar : Hid (∀ o (a : Addr), ((w1.alloc o).drew).heap.size ≤ a.block → w.heap.size ≤ a.block) := fun o a h => by
    have h1 : Gr w ((w1.alloc o).drew) := (HG.out.alloc HG.out.size _).drew
    exact Nat.le_trans h1.size h
  by_cases hck : c = F + k
  · obtain rfl : len = F + k := by omega
    subst hck
    have hnil : xs.drop (F + k) = [] := List.drop_eq_nil_of_le (by rw [HX.out.len]; exact Nat.le_refl _)
    have htail : Byt w1 (some ⟨b, o, none⟩) 0 0 (xs.drop (F + k)) := by rw [hnil]; exact Byt.zero _ _
    have hrows : Hid (Rows (w1.alloc (.cells #[.slice (some ⟨b, o, none⟩) F F, .slice q m d, .slice (some ⟨b, o, none⟩) 0 0] 23)).drew (some ⟨w1.heap.size, 0, none⟩) 3 3 [xs.take F, Wd.enc k n, xs.drop (F + k)]) := Rows.three hpre HBy.out htail rfl
    clear htail hpre hnil
    have hw1 : IntKind.i64.wrap ((F : Int) + (k : Int)) = (F : Int) + (k : Int) := IntWalk.i64_in _ (by omega)
    have hw2 : ((F : Int) + (k : Int)).toNat = F + k := by omega
    go_region_with (go_at_call 21; refine (join_any _ _ _ _ _ hrows.out htot.out).mono ?_; rintro e w2 ⟨q2, m2, d2, rfl, hby2, hg2, hf2⟩)
    all_goals
      try go_wp2
      go_ret2
      exact ⟨q2, m2, d2, rfl, by simpa using hby2, hgr2.out _ _ hg2, fun a ha => hfar.out _ a (hf2 a ha)⟩
  · have htail := (HX.out.kept HG.out).tail (F + k) hFk (some ⟨b, o + (F + k), none⟩) (fun _ => rfl)
    have hrows : Hid (Rows (w1.alloc (.cells #[.slice (some ⟨b, o, none⟩) F F, .slice q m d, .slice (some ⟨b, o + (F + k), none⟩) (len - (F + k)) (c - (F + k))] 23)).drew (some ⟨w1.heap.size, 0, none⟩) 3 3 [xs.take F, Wd.enc k n, xs.drop (F + k)]) := Rows.three hpre HBy.out htail rfl
    clear htail hpre
    have hw1 : IntKind.i64.wrap ((F : Int) + (k : Int)) = (F : Int) + (k : Int) := IntWalk.i64_in _ (by omega)
    have hw2 : ((F : Int) + (k : Int)).toNat = F + k := by omega
    go_region_with (go_at_call 21; refine (join_any _ _ _ _ _ hrows.out htot.out).mono ?_; rintro e w2 ⟨q2, m2, d2, rfl, hby2, hg2, hf2⟩)
    all_goals
      try go_wp2
      go_ret2
      exact ⟨q2, m2, d2, rfl, by simpa using hby2, hgr2.out _ _ hg2, fun a ha => hfar.out _ a (hf2 a ha)⟩

theorem set_any (p : Option Addr) (len c : Nat) (xs : List Int) (f : Int) (n : Nat) (s : Int) (w : World) (hx : Byt w p len c xs) (hl : len ≤ 140737488355328) :
    Calls Try.prog 19 #[.slice p len c, .int .i64 f, .int .u64 n, .int .i64 s] w (RetBytes (setE xs f n s) (setR xs f n s) w) := by
  have hlen := hx.len
  by_cases h : fitsB n s = true
  · have hk : 1 ≤ s ∧ s ≤ 8 := by
      simp only [fitsB, Bool.and_eq_true, mayB_iff] at h
      omega
    obtain ⟨k, rfl⟩ := Int.eq_ofNat_of_zero_le (show 0 ≤ s by omega)
    by_cases h2 : standsB len f k = true
    · obtain ⟨g1, g2, g3, g4⟩ := standsB_iff.1 h2
      obtain ⟨F, rfl⟩ := Int.eq_ofNat_of_zero_le g3
      obtain ⟨b, o, rfl, _⟩ := hx.at (by omega)
      have ho : setOk xs.length F n k = true := by simp [setOk, h, hlen, h2]
      unfold setE setR
      rw [if_pos ho, if_pos ho]
      exact set_yes b o len c xs F n k w hx hl h h2
    · have h2 : standsB len f k = false := by simpa using h2
      have ho : ¬ setOk xs.length f n k = true := by simp [setOk, hlen, h2]
      unfold setE setR
      rw [if_neg ho, if_neg ho]
      exact set_nostand p len c f n k w (by omega) h h2
  · have h : fitsB n s = false := by simpa using h
    have ho : ¬ setOk xs.length f n s = true := by simp [setOk, h]
    unfold setE setR
    rw [if_neg ho, if_neg ho]
    exact set_nofit p len c f n s w h

end Go.Proofs.Ytcbmgdigidpbeaa
