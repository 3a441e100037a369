import Derived.Test.YtcbmgdigidpbeaaHex1
namespace Go.Proofs.Ytcbmgdigidpbeaa
open Go.RowKit

/-- The signs of bytes. -/
def hexL : List Int → List Int
  | [] => []
  | x :: r => sign (x / 16) :: sign (x % 16) :: hexL r

theorem sign_small {x : Int} (h : 0 ≤ x ∧ x < 16) : 0 ≤ sign x ∧ sign x < 256 := by unfold sign; split <;> omega
theorem hexL_length : ∀ l : List Int, (hexL l).length = 2 * l.length
  | [] => rfl
  | x :: r => by simp only [hexL, List.length_cons, hexL_length r]; omega
theorem hexL_snoc : ∀ (l : List Int) (x : Int), hexL (l ++ [x]) = hexL l ++ [sign (x / 16), sign (x % 16)]
  | [], _ => rfl
  | y :: r, x => by simp [hexL, hexL_snoc r x]
theorem hexL_small : ∀ (l : List Int), Wd.Small l → Wd.Small (hexL l)
  | [], _ => fun _ h => by cases h
  | x :: r, h => fun y hy => by
    have hx := h.head
    simp only [hexL, List.mem_cons] at hy
    rcases hy with rfl | rfl | hy
    · exact sign_small (by omega)
    · exact sign_small (by omega)
    · exact hexL_small r h.tail y hy

theorem map_u8_inj : ∀ (a b : List Int), Wd.Small a → Wd.Small b → (a.map fun n => UInt8.ofNat n.toNat) = (b.map fun n => UInt8.ofNat n.toNat) → a = b
  | [], [], _, _, _ => rfl
  | [], _ :: _, _, _, h => by simp at h
  | _ :: _, [], _, _, h => by simp at h
  | x :: r, y :: s, hx, hy, h => by
    simp only [List.map_cons, List.cons.injEq] at h
    have h1 := hx.head
    have h2 := hy.head
    have e := congrArg UInt8.toNat h.1
    simp only [UInt8.toNat_ofNat'] at e
    rw [map_u8_inj r s hx.tail hy.tail h.2]
    congr 1
    omega

theorem strOfNums_inj {a b : List Int} (ha : Wd.Small a) (hb : Wd.Small b) : (strOfNums a).toList = (strOfNums b).toList ↔ a = b := by
  constructor
  · intro h
    rw [Lib.strOfNums_toList, Lib.strOfNums_toList] at h
    exact map_u8_inj a b ha hb h
  · rintro rfl
    rfl

def signsS : ByteArray := ⟨#[48, 49, 50, 51, 52, 53, 54, 55, 56, 57, 97, 98, 99, 100, 101, 102]⟩

theorem four_index : ∀ k : Fin 256, Lib.indexByte [48, 49, 50, 51, 52, 53, 54, 55, 56, 57, 97, 98, 99, 100, 101, 102] (k.val.toUInt8) = (if four (k.val : Int) < 16 then four (k.val : Int) else -1) := by decide +kernel

/-- The four bits of a sign, or -1. -/
def idxR (c : Int) : Int := if four c < 16 then four c else -1

theorem indexByte_any (c : Int) (w : World) (h : 0 ≤ c ∧ c < 256) : Calls Try.prog 34 #[.string ⟨#[48, 49, 50, 51, 52, 53, 54, 55, 56, 57, 97, 98, 99, 100, 101, 102]⟩, .int .u8 c] w fun e w' => e = .returned (.int .i64 (idxR c)) ∧ w = w' := by
  have hk := four_index ⟨c.toNat, by omega⟩
  have e : ((c.toNat : Nat) : Int) = c := by omega
  simp only [e] at hk
  have HK : Hid (Lib.indexByte [48, 49, 50, 51, 52, 53, 54, 55, 56, 57, 97, 98, 99, 100, 101, 102] c.toNat.toUInt8 = idxR c) := hk
  clear hk e
  go_enter Try.func34, Try.ntmps34
  go_wp2
  rw [run_callFunc_extern Try.func38 (by kernel_rfl) (by kernel_rfl) (by kernel_rfl) (e := Extern.BytealgIndexByte.indexByte) (by kernel_rfl), Lib.run_indexByteString]
  simp only [Result.andThen]
  rw [Oper.upon_value]
  go_wp2
  go_ret
  exact ⟨ret_i HK.out, rfl⟩

theorem signs_at : ∀ k : Fin 16, ((#[48, 49, 50, 51, 52, 53, 54, 55, 56, 57, 97, 98, 99, 100, 101, 102] : Array UInt8)[k.val]'k.isLt).toNat = (sign (k.val : Int)).toNat := by decide +kernel

/-- A sign, as the walk reads it off the text. -/
theorem signs_get (i : Int) (h0 : 0 ≤ i) (h1 : i < 16) (pf : i.toNat < (ByteArray.mk #[48, 49, 50, 51, 52, 53, 54, 55, 56, 57, 97, 98, 99, 100, 101, 102]).size) :
    (((ByteArray.mk #[48, 49, 50, 51, 52, 53, 54, 55, 56, 57, 97, 98, 99, 100, 101, 102])[i.toNat]'pf).toNat : Int) = sign i := by
  have h := signs_at ⟨i.toNat, by omega⟩
  have hs := sign_small (x := i) (by omega)
  have e : ((i.toNat : Nat) : Int) = i := by omega
  simp only [e] at h
  rw [ByteArray.getElem_eq_getElem_data, h]
  omega

theorem and15 (X : Nat) (h : X < 256) : bits BinOp.and IntKind.u8 (X : Int) 15 = (X : Int) % 16 := by
  have := u8_and_nat X 15 h (by omega)
  rw [show ((15 : Nat) : Int) = 15 from rfl] at this
  rw [this, nat_mask4]
  omega

set_option maxHeartbeats 400000 in
theorem hex_any (p : Option Addr) (n c : Nat) (xs : List Int) (w : World) (h : Byt w p n c xs) (hbig : n ≤ 70368744177664) : Calls Try.prog 24 #[.slice p n c] w fun e w' => e = .returned (.string (strOfNums (hexL xs))) ∧ Gr w w' := by
  have HLen := Lib.hid h.len
  have HH := Lib.hid h
  clear h
  obtain ⟨i0, hi, hz0, hz1, hz2⟩ := info_parts bt.info
  have HI := Lib.hid hi
  have HZ0 := Lib.hid hz0
  have HZ1 := Lib.hid hz1
  have HZ2 := Lib.hid hz2
  clear hi hz0 hz1 hz2
  go_enter Try.func24, Try.ntmps24
  go_wp2_with (at_make; refine wpList_make_own _ rfl _ _ 23 rfl w.heap.size 5 i0 (.int .u8 0) 1 Try.underlying23 HI.out HZ0.out HZ1.out _ _ _ (2 * n) rfl rfl (by omega) ?b1 ?b2 ?b3 ?_)
  case b1 => rw [HZ2.out]; omega
  case b2 => simp only [maxLen]; omega
  case b3 => exact Nat.le_refl _
  intro w1 hown hgr
  have HB : Hid (Below w.heap.size w w1) := (Below.refl _ _).grown hgr (Nat.le_refl _) (fun _ h => by cases h)
  have HO : Hid (OwnB w1 w.heap.size 5 (.slice (some ⟨w.heap.size, 0, none⟩) 0 (2 * n)) []) := ⟨hown, fun _ h => by cases h⟩
  clear hown hgr
  go_wp2
  go_loopw [3, 12] (fun v i wr => ∃ (k : Nat) (q : Option Addr) (d : Nat), k ≤ n ∧ i = .int .i64 k ∧ v = .slice q (2 * k) d ∧ Hid (OwnB wr w.heap.size 5 (.slice q (2 * k) d) (hexL (xs.take k))) ∧ Hid (Below w.heap.size w wr))
    (fun _ i _ => n - (intOf i).toNat)
  case atStart => exact ⟨0, _, _, Nat.zero_le _, rfl, rfl, HO, HB⟩
  case round =>
    obtain ⟨k, q, d, hk, rfl, rfl, ho, hb⟩ := hrel
    have hbs := hb.out.size
    by_cases hlt : k < n
    · obtain ⟨b, o, rfl, _⟩ := HH.out.at (by omega)
      have hcell : wr.cell? ⟨b, o + k, none⟩ = some (.int .u8 (xs.getD k 0)) := by
        obtain ⟨b', o', e, hc⟩ := (HH.out.kept hb.out).at (by omega)
        cases e
        exact hc _ (by omega)
      have hx := HH.out.small.getD k
      have hsn : Hid (hexL (xs.take (k + 1)) = hexL (xs.take k) ++ [sign (xs.getD k 0 / 16), sign (xs.getD k 0 % 16)]) := by
        show _ = _
        rw [take_snoc _ _ (by rw [HLen.out]; omega), hexL_snoc]
      have hlen : Hid ((hexL (xs.take k)).length = 2 * k) := by show _ = _; rw [hexL_length, List.length_take, HLen.out]; omega
      generalize xs.getD k 0 = x at *
      obtain ⟨X, rfl⟩ := Int.eq_ofNat_of_zero_le hx.1
      have hx2 : X < 256 := by omega
      clear hx
      go_wp2_with fail
      have hq1 : (0 : Int) ≤ (X : Int) / 16 := by omega
      have hq2 : (X : Int) / 16 < 16 := by omega
      have hq3 : (0 : Int) ≤ (X : Int) % 16 := by omega
      have hq4 : (X : Int) % 16 < 16 := by omega
      have hand := and15 X hx2
      have hg1 := signs_get ((X : Int) / 16) hq1 hq2
      have hg2 := signs_get ((X : Int) % 16) hq3 hq4
      have hoW : Hid (OwnB (wr.alloc (.cells #[.int .u8 (sign ((X : Int) / 16)), .int .u8 (sign ((X : Int) % 16))] 5)).drew w.heap.size 5 (.slice q (2 * k) d) (hexL (xs.take k))) := (ho.out.alloc _).heap rfl
      have hbW : Hid (Byt (wr.alloc (.cells #[.int .u8 (sign ((X : Int) / 16)), .int .u8 (sign ((X : Int) % 16))] 5)).drew (some ⟨wr.heap.size, 0, none⟩) 2 2 [sign ((X : Int) / 16), sign ((X : Int) % 16)]) := (Byt.two wr _ _ _ (sign_small (by omega)) (sign_small (by omega))).heap rfl
      have hs1 : Hid ((hexL (xs.take k)).length + 2 ≤ 140737488355328) := by show _ ≤ _; rw [hlen.out]; omega
      have hs2 : Hid (w.heap.size ≤ (wr.alloc (.cells #[.int .u8 (sign ((X : Int) / 16)), .int .u8 (sign ((X : Int) % 16))] 5)).drew.heap.size) := by show _ ≤ _; simp; omega
      have hbb : Hid (Below w.heap.size w (wr.alloc (.cells #[.int .u8 (sign ((X : Int) / 16)), .int .u8 (sign ((X : Int) % 16))] 5)).drew) := (hb.out.alloc hbs _).drew
      go_region_law (refine step_app_byt bt rfl (.tmp 16) (.tmp 23) rfl w.heap.size _ _ rfl hoW.out _ 2 2 _ rfl hbW.out hs1.out hs2.out ?_; intro v' w' own grow)
      all_goals
        have HO := Lib.hid (own.as hsn.out.symm)
        have HB : Hid (Below w.heap.size w w') := Below.app hbb.out hs2.out hoW.out grow
        obtain ⟨q', d', hv⟩ := HO.out.shape (2 * (k + 1)) (by rw [hexL_length, List.length_take, HLen.out]; omega)
        subst hv
        clear own grow
        go_wp2
        go_roundw
        case rel => exact ⟨k + 1, q', d', by omega, by go_num, rfl, HO, HB⟩
        case measure => simp [intOf]; omega
    · obtain rfl : k = n := by omega
      have hbyt := ho.out.byt.1
      have hxs : xs.take k = xs := List.take_of_length_le (by rw [HLen.out]; exact Nat.le_refl _)
      rw [hxs] at hbyt
      have hconv := hbyt.lies.convert hbyt.len d 23 5 9 Try.underlying23 Try.underlying5 Try.underlying9
      clear hbyt hxs
      obtain ⟨r, hr⟩ : ∃ r, r = strOfNums (hexL xs) := ⟨_, rfl⟩
      rw [← hr] at hconv
      have HR := Lib.hid hr
      clear hr
      go_wp2
      go_ret
      exact ⟨by rw [← HR.out]; rfl, hb.out⟩

theorem same_any (p q : Option Addr) (n c m d : Nat) (xs ys : List Int) (w : World) (h : Byt w p n c xs) (k : Byt w q m d ys) : Calls Try.prog 22 #[.slice p n c, .slice q m d] w fun e w' => e = .returned (.bool (decide (xs = ys))) ∧ w = w' := by
  have hc1 := h.lies.convert h.len c 23 5 9 Try.underlying23 Try.underlying5 Try.underlying9
  have hc2 := k.lies.convert k.len d 23 5 9 Try.underlying23 Try.underlying5 Try.underlying9
  have he : Hid ((strOfNums xs).toList = (strOfNums ys).toList ↔ xs = ys) := strOfNums_inj h.small k.small
  clear h k
  obtain ⟨r, hr⟩ : ∃ r, r = strOfNums xs := ⟨_, rfl⟩
  obtain ⟨s, hs⟩ : ∃ s, s = strOfNums ys := ⟨_, rfl⟩
  rw [← hr] at hc1 he
  rw [← hs] at hc2 he
  clear hr hs
  go_enter Try.func22, Try.ntmps22
  go_wp2
  go_ret
  refine ⟨ret_b ?_, rfl⟩
  show (r.toList == s.toList) = decide (xs = ys)
  rw [Bool.eq_iff_iff, beq_iff_eq, decide_eq_true_eq]
  exact he.out

end Go.Proofs.Ytcbmgdigidpbeaa
