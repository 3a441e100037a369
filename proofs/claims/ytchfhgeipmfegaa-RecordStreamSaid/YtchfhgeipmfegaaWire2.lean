
import Derived.Test.YtchfhgeipmfegaaWire1
namespace Go.Proofs.Ytchfhgeipmfegaa
open Go.RowKit

theorem bt : BT Try.prog 22 5 := ⟨Try.underlying22, by kernel_rfl⟩

/-- What Put answers. -/
def putR (n : Nat) (s : Int) : List Int := if fitsB n s then Wd.enc s.toNat n else []
def putE (n : Nat) (s : Int) : Int := if fitsB n s then 0 else 2

theorem byte_shr (n k : Nat) : ((n : Int) / 2 ^ (8 * k)) % 256 = ((n / 256 ^ k % 256 : Nat) : Int) := by
  have e2 : ((2 : Int) ^ (8 * k)) = ((256 ^ k : Nat) : Int) := by rw [Wd.pow256, Int.natCast_pow]; rfl
  rw [e2, ← Int.natCast_ediv]
  omega

theorem rep_set (xs : List Int) (y : Int) (m : Nat) (hm : 0 < m) : ((xs.map (Value.int .u8)) ++ List.replicate m (Value.int .u8 0)).set xs.length (.int .u8 y) = ((xs ++ [y]).map (Value.int .u8)) ++ List.replicate (m - 1) (Value.int .u8 0) := by
  obtain ⟨k, rfl⟩ : ∃ k, m = k + 1 := ⟨m - 1, by omega⟩
  rw [List.set_append_right _ _ (by simp)]
  simp [List.replicate_succ]

theorem put_no (n : Nat) (s : Int) (w : World) (h : fitsB n s = false) : Calls Try.prog 78 #[.int .u64 n, .int .i64 s] w (RetBytes 2 [] w) := by
  have hh := Lib.hid h
  clear h
  go_enter Try.func78, Try.ntmps78
  go_wp2_with fail
  refine (fits_any _ _ _).mono ?_
  rintro e w' ⟨rfl, rfl⟩
  rw [hh.out]
  go_wp2_with fail
  go_ret2
  exact ⟨none, 0, 0, rfl, Byt.nil _, Gr.refl _, fun _ h => by cases h⟩

theorem put_yes (n k : Nat) (w : World) (h : fitsB n k = true) : Calls Try.prog 78 #[.int .u64 n, .int .i64 k] w (RetBytes 0 (Wd.enc k n) w) := by
  have hk : 1 ≤ k ∧ k ≤ 8 := by
    simp only [fitsB, Bool.and_eq_true, mayB_iff] at h
    omega
  obtain ⟨hk1, hk8⟩ := hk
  have hh := Lib.hid h
  clear h
  obtain ⟨i0, hi, hz0, hz1, hz2⟩ := info_parts bt.info
  have HI := Lib.hid hi
  have HZ0 := Lib.hid hz0
  have HZ1 := Lib.hid hz1
  have HZ2 := Lib.hid hz2
  clear hi hz0 hz1 hz2
  go_enter Try.func78, Try.ntmps78
  go_wp2_with fail
  refine (fits_any _ _ _).mono ?_
  rintro e w' ⟨rfl, rfl⟩
  rw [hh.out]
  go_wp2_with (at_make; refine wpList_make_full _ rfl _ _ 22 rfl w.heap.size 5 i0 (.int .u8 0) 1 Try.underlying22 HI.out HZ0.out HZ1.out _ _ _ _ k rfl rfl rfl rfl ?b1 ?b2 ?b3 ?_)
  case b1 => rw [HZ2.out]; omega
  case b2 => simp only [maxLen]; omega
  case b3 => exact Nat.le_refl _
  intro w1 hown hgr
  have HB : Hid (Below w.heap.size w w1) := (Below.refl _ _).grown hgr (Nat.le_refl _) (fun _ h => by cases h)
  have HO : Hid (w1.ownsRow w.heap.size 5 1 (.slice (some ⟨w.heap.size, 0, none⟩) k k) k (((Wd.enc 0 n).map (Value.int .u8)) ++ List.replicate (k - 0) (.int .u8 0))) := by
    show w1.ownsRow _ _ _ _ _ _
    rw [toList_madeCells_one] at hown
    simpa [Wd.enc] using hown
  clear hown hgr
  go_wp2
  go_loopw [15] (fun i wr => ∃ j : Nat, j ≤ k ∧ i = .int .i64 j ∧ Hid (Below w.heap.size w wr) ∧ Hid (wr.ownsRow w.heap.size 5 1 (.slice (some ⟨w.heap.size, 0, none⟩) k k) k (((Wd.enc j n).map (Value.int .u8)) ++ List.replicate (k - j) (.int .u8 0)))) (fun i _ => k - (intOf i).toNat)
  case atStart => exact ⟨0, Nat.zero_le _, rfl, HB, HO⟩
  case round =>
    obtain ⟨j, hj, rfl, hb, ho⟩ := hrel
    by_cases hlt : j < k
    · have hl : (Wd.enc j n).length = j := Wd.enc_length j n
      have hf := ho.out.frozenAt j
      have hcell : wr.cell? ⟨w.heap.size, j, none⟩ = some (.int .u8 0) := by
        rw [ho.out.cellAt j (by omega), List.getElem?_append_right (by simp [hl])]
        simp only [List.length_map, hl, Nat.sub_self]
        rw [List.getElem?_replicate, if_pos (by omega)]
      have hst := ho.out.stored j (.int .u8 ((n / 256 ^ j % 256 : Nat) : Int))
      have hrep := rep_set (Wd.enc j n) ((n / 256 ^ j % 256 : Nat) : Int) (k - j) (by omega)
      rw [hl] at hrep
      rw [hrep, ← Wd.enc_snoc, show k - j - 1 = k - (j + 1) by omega] at hst
      have HS := Lib.hid hst.1
      have HB2 : Hid (Below w.heap.size w (wr.setCell ⟨w.heap.size, j, none⟩ (.int .u8 ((n / 256 ^ j % 256 : Nat) : Int)))) := hb.out.setCell (Nat.le_refl _) _
      have hby := Lib.hid (byte_shr n j)
      clear hst hrep hl
      go_wp2_with fail
      go_roundw
      case rel =>
        rw [hby.out]
        exact ⟨j + 1, by omega, by go_num, HB2, HS⟩
      case measure => simp [intOf]; omega
    · obtain rfl : j = k := by omega
      go_wp2
      go_ret2
      have ho2 := ho.out
      simp only [Nat.sub_self, List.replicate_zero, List.append_nil] at ho2
      exact ⟨some ⟨w.heap.size, 0, none⟩, j, j, rfl, Byt.owned ho2 (Wd.enc_small _ _), hb.out, fun a h => by cases h; exact Nat.le_refl _⟩

theorem put_any (n : Nat) (s : Int) (w : World) : Calls Try.prog 78 #[.int .u64 n, .int .i64 s] w (RetBytes (putE n s) (putR n s) w) := by
  unfold putR putE
  by_cases h : fitsB n s = true
  · simp only [h, if_true]
    have hk : 1 ≤ s ∧ s ≤ 8 := by
      simp only [fitsB, Bool.and_eq_true, mayB_iff] at h
      omega
    obtain ⟨k, rfl⟩ := Int.eq_ofNat_of_zero_le (show 0 ≤ s by omega)
    exact put_yes n k w h
  · have h : fitsB n s = false := by simpa using h
    rw [h]
    exact put_no n s w h

/-- What Get answers. -/
def getR (xs : List Int) : Nat := if mayB xs.length then Wd.dec xs else 0
def getE (xs : List Int) : Int := if mayB xs.length then 0 else 2

theorem standsB_iff {len : Nat} {f s : Int} : standsB len f s = true ↔ 1 ≤ s ∧ s ≤ 8 ∧ 0 ≤ f ∧ f + s ≤ len := by
  simp [standsB, mayB]; omega

/-- What stands at a place. -/
def sub (xs : List Int) (f s : Int) : List Int := (xs.drop f.toNat).take s.toNat
/-- What At answers. -/
def atR (xs : List Int) (f s : Int) : Nat := if standsB xs.length f s then Wd.dec (sub xs f s) else 0
def atE (xs : List Int) (f s : Int) : Int := if standsB xs.length f s then 0 else 2

theorem Byt.sub {w : World} {b o n c : Nat} {xs : List Int} (h : Byt w (some ⟨b, o, none⟩) n c xs) (hn : 0 < n) (f s m : Nat) (hs : f + s ≤ n) (hm : s ≤ m) (hm2 : m ≤ maxLen) : Byt w (some ⟨b, o + f, none⟩) s m ((xs.drop f).take s) := by
  have hl := h.len
  refine ⟨by simp; omega, hm, hm2, fun h0 => ⟨b, o + f, rfl, fun i hi => ?_⟩, (fun h => by cases h), (h.small.drop f).take s⟩
  obtain ⟨b', o', e, hc⟩ := h.at hn
  cases e
  rw [Nat.add_assoc, hc (f + i) (by omega)]
  simp [List.getD, hi]

theorem at_any (p : Option Addr) (n c : Nat) (xs : List Int) (f s : Int) (w : World) (h : Byt w p n c xs) : Calls Try.prog 67 #[.slice p n c, .int .i64 f, .int .i64 s] w fun e w' => e = .returned (.tuple #[.int .u64 (atR xs f s), .int .i64 (atE xs f s)]) ∧ w = w' := by
  have hl := h.len
  subst hl
  have hmost := h.most
  have hcap := h.cap
  unfold maxLen at hmost
  by_cases hm : standsB xs.length f s = true
  · have HM := Lib.hid hm
    obtain ⟨h1, h2, h3, h4⟩ := standsB_iff.1 hm
    have hR : Hid (atR xs f s = Wd.dec (sub xs f s) ∧ atE xs f s = 0) := by show _ ∧ _; simp [atR, atE, hm]
    clear hm
    obtain ⟨F, rfl⟩ := Int.eq_ofNat_of_zero_le h3
    obtain ⟨S, rfl⟩ := Int.eq_ofNat_of_zero_le (show 0 ≤ s by omega)
    obtain ⟨b, o, rfl, _⟩ := h.at (by omega)
    have hb := h.sub (by omega) F S S (by omega) (Nat.le_refl _) (by simp only [maxLen]; omega)
    go_enter Try.func67, Try.ntmps67
    go_wp2_with fail
    refine (stands_any _ _ _ _ _ _ (by omega)).mono ?_
    rintro e w' ⟨rfl, rfl⟩
    rw [HM.out]
    go_wp2_with fail
    refine (number_any _ _ _ _ _ hb (by omega)).mono ?_
    rintro e w' ⟨rfl, rfl⟩
    go_wp2_with fail
    go_ret2
    exact ⟨by rw [hR.out.1, hR.out.2]; rfl, rfl⟩
  · have hm : standsB xs.length f s = false := by simpa using hm
    have HM := Lib.hid hm
    have hR : Hid (atR xs f s = 0 ∧ atE xs f s = 2) := by show _ ∧ _; simp [atR, atE, hm]
    clear hm
    go_enter Try.func67, Try.ntmps67
    go_wp2_with fail
    refine (stands_any _ _ _ _ _ _ (by omega)).mono ?_
    rintro e w' ⟨rfl, rfl⟩
    rw [HM.out]
    go_wp2_with fail
    go_ret2
    exact ⟨by rw [hR.out.1, hR.out.2]; rfl, rfl⟩

/-- What Word answers. -/
def wordR (xs : List Int) (i : Int) : Nat := if i < 0 then 0 else Wd.dec ((xs.drop (8 * i.toNat)).take 8)

theorem Byt.zero (w : World) (p : Option Addr) : Byt w p 0 0 [] := ⟨rfl, Nat.le_refl _, Nat.zero_le _, Lib.BytesIn.nil _ _ _, fun _ => rfl, fun _ h => by cases h⟩

theorem wordR_past {xs : List Int} {i : Int} (h : xs.length ≤ 8 * i) : wordR xs i = 0 := by
  unfold wordR
  split
  · rfl
  · rw [List.drop_eq_nil_of_le (by omega)]; rfl

end Go.Proofs.Ytchfhgeipmfegaa
