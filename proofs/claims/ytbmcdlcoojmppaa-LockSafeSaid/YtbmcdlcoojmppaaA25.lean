/-
  Texts on locks, put together: Lk29 Lk30 Lk31.
-/
import Derived.Test.YtbmcdlcoojmppaaA16
/-
  The law's own on locks: the chapter's rows, as the mathematics has them.
-/
namespace Go.Proofs.Ytbmcdlcoojmppaa
open Go.RowKit Go.Maps

def kK : Key := (1, 9)
def kA : Key := (0, 0)
def kB : Key := (0, 1)
def tK1 : Tb := Tb.new.give 1 kK 1
def tK2 : Tb := tK1.give 2 kK 1
def tK3 : Tb := tK2.stand 1 kK 2
def tK4 : Tb := tK3.stand 3 kK 1
theorem kk1 : Tb.new.ask 1 kK 1 false = (0, tK1) := rfl
theorem kk2 : tK1.ask 2 kK 1 false = (0, tK2) := rfl
theorem kk3 : tK2.ask 1 kK 2 false = (9, tK3) := rfl
theorem kk4 : tK3.ask 3 kK 1 false = (9, tK4) := rfl
theorem kk5 : tK4.ask 2 kK 2 true = (10, tK4) := rfl
theorem domK : KL.dom kK := ⟨⟨by decide, by decide⟩, ⟨by decide, by decide⟩⟩
theorem domA : KL.dom kA := ⟨⟨by decide, by decide⟩, ⟨by decide, by decide⟩⟩
theorem domB : KL.dom kB := ⟨⟨by decide, by decide⟩, ⟨by decide, by decide⟩⟩
theorem dom1 : KO.dom 1 := by show 1 ≤ 18446744073709551615; decide
theorem dom2 : KO.dom 2 := by show 2 ≤ 18446744073709551615; decide
theorem dom3 : KO.dom 3 := by show 3 ≤ 18446744073709551615; decide
theorem okK1 : tK1.Ok := give_ok new_ok (by decide)
theorem okK2 : tK2.Ok := give_ok okK1 (by decide)
theorem okK3 : tK3.Ok := stand_ok okK2 domK rfl (by decide)
theorem okK4 : tK4.Ok := stand_ok okK3 domK rfl (by decide)
section
variable {w : World} {t km om : Nat} {B : Tag → Option Nat}
theorem askK1 (h : TbAt w t km om B Tb.new) : Calls Try.prog 10 #[.pointer (some ⟨t, 0, none⟩), .int .u64 1, kv kK, .int .i64 1] w (RetAsk t km om B (0, tK1) w) :=
  kk1 ▸ ask_1 h new_ok dom1 domK (R := false) (fun e => by cases e) (by decide) (by decide) (by decide) (by decide) (by decide) (by decide)
theorem askK2 (h : TbAt w t km om B tK1) : Calls Try.prog 10 #[.pointer (some ⟨t, 0, none⟩), .int .u64 2, kv kK, .int .i64 1] w (RetAsk t km om B (0, tK2) w) :=
  kk2 ▸ ask_1 h okK1 dom2 domK (R := false) (fun e => by cases e) (by decide) (by decide) (by decide) (by decide) (by decide) (by decide)
theorem askK3 (h : TbAt w t km om B tK2) : Calls Try.prog 10 #[.pointer (some ⟨t, 0, none⟩), .int .u64 1, kv kK, .int .i64 2] w (RetAsk t km om B (9, tK3) w) :=
  kk3 ▸ ask_2 h okK2 dom1 domK (R := false) (fun _ W g => ring_no (h.gr g) okK2 dom1 kK rfl) (by decide) (by decide) (by decide) (by decide) (by decide) (by decide)
theorem askK4 (h : TbAt w t km om B tK3) : Calls Try.prog 10 #[.pointer (some ⟨t, 0, none⟩), .int .u64 3, kv kK, .int .i64 1] w (RetAsk t km om B (9, tK4) w) :=
  kk4 ▸ ask_1 h okK3 dom3 domK (R := false) (fun _ W g => ring_no (h.gr g) okK3 dom3 kK rfl) (by decide) (by decide) (by decide) (by decide) (by decide) (by decide)
theorem askK5 (h : TbAt w t km om B tK4) : Calls Try.prog 10 #[.pointer (some ⟨t, 0, none⟩), .int .u64 2, kv kK, .int .i64 2] w (RetAsk t km om B (10, tK4) w) :=
  kk5 ▸ ask_2 h okK4 dom2 domK (R := true) (fun _ W g => ring_flat (h.gr g) okK4 dom2 domK (l := tK4.lkOf kK) rfl rfl (by decide)) (by decide) (by decide) (by decide) (by decide) (by decide) (by decide)
end
end Go.Proofs.Ytbmcdlcoojmppaa

/-
  The law's own on locks: the chapter's rows, as the mathematics has them: who comes.
-/
namespace Go.Proofs.Ytbmcdlcoojmppaa
open Go.RowKit Go.Maps

section
variable {w : World} {t km om : Nat} {B : Tag → Option Nat} {T : Tb}
theorem RetLeave.lv {o : Nat} {ks : List Key} (hks : sortK (T.of o).ks = ks) {e : Ending} {w' : World} (h : RetLeave t km om B T o w e w') : RetLv t km om B (T.left o) ks w e w' := by
  obtain ⟨v, B', r1, r2, r3, r4, r5⟩ := h
  rw [hks] at r2
  exact ⟨v, B', r1, r2, r3, r4, fun g hg hf => by have := (World.ownsRow.lt r2 g hg).1; have := r5 g hf; omega⟩
def tK5 : Tb := { tK4.off 2 [kK] with many := tK4.many - ((tK4.of 2).ks.length : Int), py := updF tK4.py 2 none, oo := delK 2 tK4.oo }
theorem leftK : tK4.left 2 = tK5 := by
  unfold Tb.left tK5
  rw [show (tK4.of 2).ks = [kK] from rfl, sortK_one]
def tK6 : Tb := tK5.nextT kK
theorem manyK5 : tK5.many = 3 := rfl
theorem comeK5 : tK5.nextsC [kK] = [1] := rfl
theorem lineK6 : (tK6.lkOf kK).line = [(3, 1)] := rfl
theorem holdK6 : tK6.hold 1 kK = 2 := rfl
theorem ngK5 : tK5.NG [kK] := by
  refine ⟨domK, rfl, fun n hn => ?_, trivial⟩
  have hn2 : n ≤ 2 := hn
  match n, hn2 with
  | 0, _ => exact ⟨by decide, by decide, by decide, by decide, by decide, by decide, fun o m r e => by
      have e' : [((1 : Nat), (2 : Int)), (3, 1)] = (o, m) :: r := e
      cases e'
      exact ⟨dom1, rfl, by decide⟩⟩
  | 1, _ => exact ⟨by decide, by decide, by decide, by decide, by decide, by decide, fun o m r e => by
      have e' : [((3 : Nat), (1 : Int))] = (o, m) :: r := e
      cases e'
      exact ⟨dom3, rfl, by decide⟩⟩
  | 2, _ => exact ⟨by decide, by decide, by decide, by decide, by decide, by decide, fun o m r e => by
      have e' : [((3 : Nat), (1 : Int))] = (o, m) :: r := e
      cases e'
      exact ⟨dom3, rfl, by decide⟩⟩
/-- Free of the second owner: the first one comes. -/
theorem freeK1 (h : TbAt w t km om B tK4) : Calls Try.prog 9 #[.pointer (some ⟨t, 0, none⟩), .int .u64 2] w (RetFree t km om B tK6 [1] w) :=
  Free_any (o := 2) (T1 := tK5) (ks := [kK]) h ((leave_any h okK4 dom2 rfl (by decide) (by decide)).mono fun e w' r => leftK ▸ RetLeave.lv (show sortK (tK4.of 2).ks = [kK] from sortK_one kK) r) ngK5 (by decide) (by decide)
theorem okK5 : tK5.Ok := leftK ▸ left_ok okK4 2
theorem okK6 : tK6.Ok := nextT_ok okK5 ngK5.2.2.1
def tK7 : Tb := { tK6.off 1 [kK] with many := tK6.many - ((tK6.of 1).ks.length : Int), py := updF tK6.py 1 none, oo := delK 1 tK6.oo }
theorem leftK6 : tK6.left 1 = tK7 := by
  unfold Tb.left tK7
  rw [show (tK6.of 1).ks = [kK] from rfl, sortK_one]
theorem ngK7 : tK7.NG [kK] := by
  refine ⟨domK, rfl, fun n hn => ?_, trivial⟩
  have hn2 : n ≤ 1 := hn
  match n, hn2 with
  | 0, _ => exact ⟨by decide, by decide, by decide, by decide, by decide, by decide, fun o m r e => by
      have e' : [((3 : Nat), (1 : Int))] = (o, m) :: r := e
      cases e'
      exact ⟨dom3, rfl, by decide⟩⟩
  | 1, _ => exact ⟨by decide, by decide, by decide, by decide, by decide, by decide, fun o m r e => by
      have e' : ([] : List (Nat × Int)) = (o, m) :: r := e
      cases e'⟩
theorem comeK7 : tK7.nextsC [kK] = [3] := rfl
/-- Free of the first owner: the third one comes. -/
theorem freeK2 (h : TbAt w t km om B tK6) : Calls Try.prog 9 #[.pointer (some ⟨t, 0, none⟩), .int .u64 1] w (RetFree t km om B (tK7.nextT kK) [3] w) :=
  Free_any (o := 1) (T1 := tK7) (ks := [kK]) h ((leave_any h okK6 dom1 rfl (by decide) (by decide)).mono fun e w' r => leftK6 ▸ RetLeave.lv (show sortK (tK6.of 1).ks = [kK] from sortK_one kK) r) ngK7 (by decide) (by decide)
/-- Who stands in its line, and how it is held, ahead of that. -/
theorem lineK (h : TbAt w t km om B tK6) : Calls Try.prog 20 #[.pointer (some ⟨t, 0, none⟩), kv kK] w (RetRow [3] w) := Line_any h domK (by decide)
theorem holdK (h : TbAt w t km om B tK6) : Calls Try.prog 12 #[.pointer (some ⟨t, 0, none⟩), .int .u64 1, kv kK] w fun e w' => e = .returned (.int .i64 2) ∧ Gr w w' := Holds_any h okK6 dom1 domK
end
end Go.Proofs.Ytbmcdlcoojmppaa

/-
  The law's own on locks: the chapter's rows, as the mathematics has them: two keys.
-/
namespace Go.Proofs.Ytbmcdlcoojmppaa
open Go.RowKit Go.Maps

def tU1 : Tb := Tb.new.give 1 kA 2
def tU2 : Tb := tU1.give 2 kB 2
def tU3 : Tb := tU2.stand 1 kB 1
theorem uu1 : Tb.new.ask 1 kA 2 false = (0, tU1) := rfl
theorem uu2 : tU1.ask 2 kB 2 false = (0, tU2) := rfl
theorem uu3 : tU2.ask 1 kB 1 false = (9, tU3) := rfl
theorem uu4 : tU3.ask 2 kA 1 true = (10, tU3) := rfl
theorem okU1 : tU1.Ok := give_ok new_ok (by decide)
theorem okU2 : tU2.Ok := give_ok okU1 (by decide)
theorem okU3 : tU3.Ok := stand_ok okU2 domB rfl (by decide)
section
variable {w : World} {t km om : Nat} {B : Tag → Option Nat}
theorem askU1 (h : TbAt w t km om B Tb.new) : Calls Try.prog 10 #[.pointer (some ⟨t, 0, none⟩), .int .u64 1, kv kA, .int .i64 2] w (RetAsk t km om B (0, tU1) w) :=
  uu1 ▸ ask_2 h new_ok dom1 domA (R := false) (fun e => by cases e) (by decide) (by decide) (by decide) (by decide) (by decide) (by decide)
theorem askU2 (h : TbAt w t km om B tU1) : Calls Try.prog 10 #[.pointer (some ⟨t, 0, none⟩), .int .u64 2, kv kB, .int .i64 2] w (RetAsk t km om B (0, tU2) w) :=
  uu2 ▸ ask_2 h okU1 dom2 domB (R := false) (fun e => by cases e) (by decide) (by decide) (by decide) (by decide) (by decide) (by decide)
theorem askU3 (h : TbAt w t km om B tU2) : Calls Try.prog 10 #[.pointer (some ⟨t, 0, none⟩), .int .u64 1, kv kB, .int .i64 1] w (RetAsk t km om B (9, tU3) w) :=
  uu3 ▸ ask_1 h okU2 dom1 domB (R := false) (fun _ W g => ring_no (h.gr g) okU2 dom1 kB rfl) (by decide) (by decide) (by decide) (by decide) (by decide) (by decide)
theorem askU4 (h : TbAt w t km om B tU3) : Calls Try.prog 10 #[.pointer (some ⟨t, 0, none⟩), .int .u64 2, kv kA, .int .i64 1] w (RetAsk t km om B (10, tU3) w) :=
  uu4 ▸ ask_1 h okU3 dom2 domA (R := true) (fun _ W g => ring_flat (h.gr g) okU3 dom2 domA (l := tU3.lkOf kA) rfl rfl (by decide)) (by decide) (by decide) (by decide) (by decide) (by decide) (by decide)
end
end Go.Proofs.Ytbmcdlcoojmppaa

