
/-
  The law's own on locks: the chapter's rows, as the mathematics has them: who comes.
-/
import Derived.Test.YtgpaikaccipfjaaLk29
namespace Go.Proofs.Ytgpaikaccipfjaa
open Go.RowKit Go.Maps

section
variable {w : World} {t km om : Nat} {B : Tag → Option Nat} {T : Tb}
theorem RetLeave.lv {o : Nat} {ks : List Key} (hks : sortK (T.of o).ks = ks) {e : Ending} {w' : World} (h : RetLeave t km om B T o w e w') : RetLv t km om B (T.left o) ks w e w' := by
  obtain ⟨v, B', r1, r2, r3, r4, r5⟩ := h
  rw [hks] at r2
  exact ⟨v, B', r1, r2, r3, r4, fun g hg hf => by have := (World.ownsRow.lt r2 g hg).1; have := r5 g hf; omega⟩
def tK5 : Tb := { tK4.off 2 [kK] with many := tK4.many - ((tK4.of 2).ks.length : Int), py := updF tK4.py 2 none, oo := delK 2 tK4.oo }
theorem leftK : tK4.left 2 = tK5 := by
  unfold Tb.left tK5
  rw [show (tK4.of 2).ks = [kK] from rfl, sortK_one]
def tK6 : Tb := tK5.nextT kK
theorem manyK5 : tK5.many = 3 := rfl
theorem comeK5 : tK5.nextsC [kK] = [1] := rfl
theorem lineK6 : (tK6.lkOf kK).line = [(3, 1)] := rfl
theorem holdK6 : tK6.hold 1 kK = 2 := rfl
theorem ngK5 : tK5.NG [kK] := by
  refine ⟨domK, rfl, fun n hn => ?_, trivial⟩
  have hn2 : n ≤ 2 := hn
  match n, hn2 with
  | 0, _ => exact ⟨by decide, by decide, by decide, by decide, by decide, by decide, fun o m r e => by
      have e' : [((1 : Nat), (2 : Int)), (3, 1)] = (o, m) :: r := e
      cases e'
      exact ⟨dom1, rfl, by decide⟩⟩
  | 1, _ => exact ⟨by decide, by decide, by decide, by decide, by decide, by decide, fun o m r e => by
      have e' : [((3 : Nat), (1 : Int))] = (o, m) :: r := e
      cases e'
      exact ⟨dom3, rfl, by decide⟩⟩
  | 2, _ => exact ⟨by decide, by decide, by decide, by decide, by decide, by decide, fun o m r e => by
      have e' : [((3 : Nat), (1 : Int))] = (o, m) :: r := e
      cases e'
      exact ⟨dom3, rfl, by decide⟩⟩
/-- Free of the second owner: the first one comes. -/
theorem freeK1 (h : TbAt w t km om B tK4) : Calls Try.prog 9 #[.pointer (some ⟨t, 0, none⟩), .int .u64 2] w (RetFree t km om B tK6 [1] w) :=
  Free_any (o := 2) (T1 := tK5) (ks := [kK]) h ((leave_any h okK4 dom2 rfl (by decide) (by decide)).mono fun e w' r => leftK ▸ RetLeave.lv (show sortK (tK4.of 2).ks = [kK] from sortK_one kK) r) ngK5 (by decide) (by decide)
theorem okK5 : tK5.Ok := leftK ▸ left_ok okK4 2
theorem okK6 : tK6.Ok := nextT_ok okK5 ngK5.2.2.1
def tK7 : Tb := { tK6.off 1 [kK] with many := tK6.many - ((tK6.of 1).ks.length : Int), py := updF tK6.py 1 none, oo := delK 1 tK6.oo }
theorem leftK6 : tK6.left 1 = tK7 := by
  unfold Tb.left tK7
  rw [show (tK6.of 1).ks = [kK] from rfl, sortK_one]
theorem ngK7 : tK7.NG [kK] := by
  refine ⟨domK, rfl, fun n hn => ?_, trivial⟩
  have hn2 : n ≤ 1 := hn
  match n, hn2 with
  | 0, _ => exact ⟨by decide, by decide, by decide, by decide, by decide, by decide, fun o m r e => by
      have e' : [((3 : Nat), (1 : Int))] = (o, m) :: r := e
      cases e'
      exact ⟨dom3, rfl, by decide⟩⟩
  | 1, _ => exact ⟨by decide, by decide, by decide, by decide, by decide, by decide, fun o m r e => by
      have e' : ([] : List (Nat × Int)) = (o, m) :: r := e
      cases e'⟩
theorem comeK7 : tK7.nextsC [kK] = [3] := rfl
/-- Free of the first owner: the third one comes. -/
theorem freeK2 (h : TbAt w t km om B tK6) : Calls Try.prog 9 #[.pointer (some ⟨t, 0, none⟩), .int .u64 1] w (RetFree t km om B (tK7.nextT kK) [3] w) :=
  Free_any (o := 1) (T1 := tK7) (ks := [kK]) h ((leave_any h okK6 dom1 rfl (by decide) (by decide)).mono fun e w' r => leftK6 ▸ RetLeave.lv (show sortK (tK6.of 1).ks = [kK] from sortK_one kK) r) ngK7 (by decide) (by decide)
/-- Who stands in its line, and how it is held, ahead of that. -/
theorem lineK (h : TbAt w t km om B tK6) : Calls Try.prog 20 #[.pointer (some ⟨t, 0, none⟩), kv kK] w (RetRow [3] w) := Line_any h domK (by decide)
theorem holdK (h : TbAt w t km om B tK6) : Calls Try.prog 12 #[.pointer (some ⟨t, 0, none⟩), .int .u64 1, kv kK] w fun e w' => e = .returned (.int .i64 2) ∧ Gr w w' := Holds_any h okK6 dom1 domK
end
end Go.Proofs.Ytgpaikaccipfjaa
