
/-
  The law's own on locks: the chapter's rows, as the mathematics has them.
-/
import Derived.Test.YtgpaikaccipfjaaLk28
namespace Go.Proofs.Ytgpaikaccipfjaa
open Go.RowKit Go.Maps

def kK : Key := (1, 9)
def kA : Key := (0, 0)
def kB : Key := (0, 1)
def tK1 : Tb := Tb.new.give 1 kK 1
def tK2 : Tb := tK1.give 2 kK 1
def tK3 : Tb := tK2.stand 1 kK 2
def tK4 : Tb := tK3.stand 3 kK 1
theorem kk1 : Tb.new.ask 1 kK 1 false = (0, tK1) := rfl
theorem kk2 : tK1.ask 2 kK 1 false = (0, tK2) := rfl
theorem kk3 : tK2.ask 1 kK 2 false = (9, tK3) := rfl
theorem kk4 : tK3.ask 3 kK 1 false = (9, tK4) := rfl
theorem kk5 : tK4.ask 2 kK 2 true = (10, tK4) := rfl
theorem domK : KL.dom kK := ⟨⟨by decide, by decide⟩, ⟨by decide, by decide⟩⟩
theorem domA : KL.dom kA := ⟨⟨by decide, by decide⟩, ⟨by decide, by decide⟩⟩
theorem domB : KL.dom kB := ⟨⟨by decide, by decide⟩, ⟨by decide, by decide⟩⟩
theorem dom1 : KO.dom 1 := by show 1 ≤ 18446744073709551615; decide
theorem dom2 : KO.dom 2 := by show 2 ≤ 18446744073709551615; decide
theorem dom3 : KO.dom 3 := by show 3 ≤ 18446744073709551615; decide
theorem okK1 : tK1.Ok := give_ok new_ok (by decide)
theorem okK2 : tK2.Ok := give_ok okK1 (by decide)
theorem okK3 : tK3.Ok := stand_ok okK2 domK rfl (by decide)
theorem okK4 : tK4.Ok := stand_ok okK3 domK rfl (by decide)
section
variable {w : World} {t km om : Nat} {B : Tag → Option Nat}
theorem askK1 (h : TbAt w t km om B Tb.new) : Calls Try.prog 10 #[.pointer (some ⟨t, 0, none⟩), .int .u64 1, kv kK, .int .i64 1] w (RetAsk t km om B (0, tK1) w) :=
  kk1 ▸ ask_1 h new_ok dom1 domK (R := false) (fun e => by cases e) (fun _ e => by cases e) (by decide) (by decide) (by decide) (by decide) (by decide) (by decide)
theorem askK2 (h : TbAt w t km om B tK1) : Calls Try.prog 10 #[.pointer (some ⟨t, 0, none⟩), .int .u64 2, kv kK, .int .i64 1] w (RetAsk t km om B (0, tK2) w) :=
  kk2 ▸ ask_1 h okK1 dom2 domK (R := false) (fun e => by cases e) (fun _ _ => rfl) (by decide) (by decide) (by decide) (by decide) (by decide) (by decide)
theorem askK3 (h : TbAt w t km om B tK2) : Calls Try.prog 10 #[.pointer (some ⟨t, 0, none⟩), .int .u64 1, kv kK, .int .i64 2] w (RetAsk t km om B (9, tK3) w) :=
  kk3 ▸ ask_2 h okK2 dom1 domK (R := false) (fun _ W g => ring_no (h.gr g) okK2 dom1 kK rfl) (fun _ _ => rfl) (by decide) (by decide) (by decide) (by decide) (by decide) (by decide)
theorem askK4 (h : TbAt w t km om B tK3) : Calls Try.prog 10 #[.pointer (some ⟨t, 0, none⟩), .int .u64 3, kv kK, .int .i64 1] w (RetAsk t km om B (9, tK4) w) :=
  kk4 ▸ ask_1 h okK3 dom3 domK (R := false) (fun _ W g => ring_no (h.gr g) okK3 dom3 kK rfl) (fun _ e => by cases e) (by decide) (by decide) (by decide) (by decide) (by decide) (by decide)
theorem askK5 (h : TbAt w t km om B tK4) : Calls Try.prog 10 #[.pointer (some ⟨t, 0, none⟩), .int .u64 2, kv kK, .int .i64 2] w (RetAsk t km om B (10, tK4) w) :=
  kk5 ▸ ask_2 h okK4 dom2 domK (R := true) (fun _ W g => ring_flat (h.gr g) okK4 dom2 domK (l := tK4.lkOf kK) rfl rfl (by decide)) (fun e => by cases e) (by decide) (by decide) (by decide) (by decide) (by decide) (by decide)
end
end Go.Proofs.Ytgpaikaccipfjaa
