
import Derived.Test.YtchfhgeipmfegaaHex1
namespace Go.Proofs.Ytchfhgeipmfegaa
open Go.RowKit

/-- The signs of bytes. -/
def hexL : List Int → List Int
  | [] => []
  | x :: r => sign (x / 16) :: sign (x % 16) :: hexL r

theorem sign_small {x : Int} (h : 0 ≤ x ∧ x < 16) : 0 ≤ sign x ∧ sign x < 256 := by unfold sign; split <;> omega
theorem hexL_length : ∀ l : List Int, (hexL l).length = 2 * l.length
  | [] => rfl
  | x :: r => by simp only [hexL, List.length_cons, hexL_length r]; omega
theorem hexL_snoc : ∀ (l : List Int) (x : Int), hexL (l ++ [x]) = hexL l ++ [sign (x / 16), sign (x % 16)]
  | [], _ => rfl
  | y :: r, x => by simp [hexL, hexL_snoc r x]
theorem hexL_small : ∀ (l : List Int), Wd.Small l → Wd.Small (hexL l)
  | [], _ => fun _ h => by cases h
  | x :: r, h => fun y hy => by
    have hx := h.head
    simp only [hexL, List.mem_cons] at hy
    rcases hy with rfl | rfl | hy
    · exact sign_small (by omega)
    · exact sign_small (by omega)
    · exact hexL_small r h.tail y hy

theorem map_u8_inj : ∀ (a b : List Int), Wd.Small a → Wd.Small b → (a.map fun n => UInt8.ofNat n.toNat) = (b.map fun n => UInt8.ofNat n.toNat) → a = b
  | [], [], _, _, _ => rfl
  | [], _ :: _, _, _, h => by simp at h
  | _ :: _, [], _, _, h => by simp at h
  | x :: r, y :: s, hx, hy, h => by
    simp only [List.map_cons, List.cons.injEq] at h
    have h1 := hx.head
    have h2 := hy.head
    have e := congrArg UInt8.toNat h.1
    simp only [UInt8.toNat_ofNat'] at e
    rw [map_u8_inj r s hx.tail hy.tail h.2]
    congr 1
    omega

theorem strOfNums_inj {a b : List Int} (ha : Wd.Small a) (hb : Wd.Small b) : (strOfNums a).toList = (strOfNums b).toList ↔ a = b := by
  constructor
  · intro h
    rw [Lib.strOfNums_toList, Lib.strOfNums_toList] at h
    exact map_u8_inj a b ha hb h
  · rintro rfl
    rfl

def signsS : ByteArray := ⟨#[48, 49, 50, 51, 52, 53, 54, 55, 56, 57, 97, 98, 99, 100, 101, 102]⟩

theorem four_index : ∀ k : Fin 256, Lib.indexByte [48, 49, 50, 51, 52, 53, 54, 55, 56, 57, 97, 98, 99, 100, 101, 102] (k.val.toUInt8) = (if four (k.val : Int) < 16 then four (k.val : Int) else -1) := by decide +kernel

/-- The four bits of a sign, or -1. -/
def idxR (c : Int) : Int := if four c < 16 then four c else -1

theorem signs_at : ∀ k : Fin 16, ((#[48, 49, 50, 51, 52, 53, 54, 55, 56, 57, 97, 98, 99, 100, 101, 102] : Array UInt8)[k.val]'k.isLt).toNat = (sign (k.val : Int)).toNat := by decide +kernel

/-- A sign, as the walk reads it off the text. -/
theorem signs_get (i : Int) (h0 : 0 ≤ i) (h1 : i < 16) (pf : i.toNat < (ByteArray.mk #[48, 49, 50, 51, 52, 53, 54, 55, 56, 57, 97, 98, 99, 100, 101, 102]).size) :
    (((ByteArray.mk #[48, 49, 50, 51, 52, 53, 54, 55, 56, 57, 97, 98, 99, 100, 101, 102])[i.toNat]'pf).toNat : Int) = sign i := by
  have h := signs_at ⟨i.toNat, by omega⟩
  have hs := sign_small (x := i) (by omega)
  have e : ((i.toNat : Nat) : Int) = i := by omega
  simp only [e] at h
  rw [ByteArray.getElem_eq_getElem_data, h]
  omega

theorem and15 (X : Nat) (h : X < 256) : bits BinOp.and IntKind.u8 (X : Int) 15 = (X : Int) % 16 := by
  have := u8_and_nat X 15 h (by omega)
  rw [show ((15 : Nat) : Int) = 15 from rfl] at this
  rw [this, nat_mask4]
  omega

theorem same_any (p q : Option Addr) (n c m d : Nat) (xs ys : List Int) (w : World) (h : Byt w p n c xs) (k : Byt w q m d ys) : Calls Try.prog 90 #[.slice p n c, .slice q m d] w fun e w' => e = .returned (.bool (decide (xs = ys))) ∧ w = w' := by
  have hc1 := h.lies.convert h.len c 22 5 9 Try.underlying22 Try.underlying5 Try.underlying9
  have hc2 := k.lies.convert k.len d 22 5 9 Try.underlying22 Try.underlying5 Try.underlying9
  have he : Hid ((strOfNums xs).toList = (strOfNums ys).toList ↔ xs = ys) := strOfNums_inj h.small k.small
  clear h k
  obtain ⟨r, hr⟩ : ∃ r, r = strOfNums xs := ⟨_, rfl⟩
  obtain ⟨s, hs⟩ : ∃ s, s = strOfNums ys := ⟨_, rfl⟩
  rw [← hr] at hc1 he
  rw [← hs] at hc2 he
  clear hr hs
  go_enter Try.func90, Try.ntmps90
  go_wp2
  go_ret
  refine ⟨ret_b ?_, rfl⟩
  show (r.toList == s.toList) = decide (xs = ys)
  rw [Bool.eq_iff_iff, beq_iff_eq, decide_eq_true_eq]
  exact he.out

end Go.Proofs.Ytchfhgeipmfegaa
