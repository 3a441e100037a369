
import Derived.Test.YtchfhgeipmfegaaHex3
namespace Go.Proofs.Ytchfhgeipmfegaa
open Go.RowKit

/-- A text's bytes, as numbers. -/
def nums (s : ByteArray) : List Int := s.data.toList.map fun b => (b.toNat : Int)
theorem nums_length (s : ByteArray) : (nums s).length = s.size := by
  unfold nums
  rw [List.length_map, Array.length_toList]
  rfl
theorem nums_small (s : ByteArray) : Wd.Small (nums s) := fun x hx => by
  simp only [nums, List.mem_map] at hx
  obtain ⟨b, _, rfl⟩ := hx
  have := b.toNat_lt
  omega
theorem nums_get (s : ByteArray) (i : Nat) (h : i < s.size) : ((s[i]'h).toNat : Int) = (nums s).getD i 0 := by
  have h3 : i < s.data.size := h
  simp only [nums, List.getD, List.getElem?_map, Array.getElem?_toList, Array.getElem?_eq_getElem h3, ByteArray.getElem_eq_getElem_data]
  rfl

/-- The bytes of the first k pairs of signs. -/
def unhL (l : List Int) (k : Nat) : List Int := (List.range k).map fun i => 16 * four (l.getD (2 * i) 0) + four (l.getD (2 * i + 1) 0)
theorem unhL_length (l : List Int) (k : Nat) : (unhL l k).length = k := by simp [unhL]
theorem unhL_succ (l : List Int) (k : Nat) : unhL l (k + 1) = unhL l k ++ [16 * four (l.getD (2 * k) 0) + four (l.getD (2 * k + 1) 0)] := by simp [unhL, List.range_succ]

/-- All are signs, of whole bytes. -/
def signsOk (l : List Int) : Bool := decide (l.length % 2 = 0) && l.all fun c => decide (four c < 16)
def unhexR (l : List Int) : List Int := if signsOk l then unhL l (l.length / 2) else []
def unhexE (l : List Int) : Int := if signsOk l then 0 else 4

theorem signsOk_no {l : List Int} {i : Nat} (hi : i < l.length) (h : 16 ≤ four (l.getD i 0)) : signsOk l = false := by
  simp only [signsOk, Bool.and_eq_false_iff]
  right
  rw [List.all_eq_false]
  refine ⟨l[i], List.getElem_mem hi, ?_⟩
  simpa [List.getD, hi] using h

theorem four_range (c : Int) : 0 ≤ four c ∧ four c ≤ 16 := by
  unfold four
  repeat' split
  all_goals omega
theorem idxR_yes {c : Int} (h : four c < 16) : idxR c = four c := by simp [idxR, h]
theorem idxR_no {c : Int} (h : ¬ four c < 16) : idxR c = -1 := by simp [idxR, h]

theorem or_first {f : Int} (h : 0 ≤ f) (h2 : f < 16) : bits BinOp.or IntKind.u8 0 f = f := by
  obtain ⟨F, rfl⟩ := Int.eq_ofNat_of_zero_le h
  have := u8_or_nat 0 F (by omega) (by omega)
  rw [Nat.zero_or] at this
  exact this
theorem or_second {f g : Int} (h : 0 ≤ f) (h2 : f < 16) (k : 0 ≤ g) (k2 : g < 16) : bits BinOp.or IntKind.u8 (f * 16) g = 16 * f + g := by
  obtain ⟨F, rfl⟩ := Int.eq_ofNat_of_zero_le h
  obtain ⟨G, rfl⟩ := Int.eq_ofNat_of_zero_le k
  have e : ((F : Int) * 16) = ((16 * F : Nat) : Int) := by omega
  rw [e, u8_or_nat _ _ (by omega) (by omega), nat_join 4 _ _ (by omega) (by omega)]
  simp

end Go.Proofs.Ytchfhgeipmfegaa
