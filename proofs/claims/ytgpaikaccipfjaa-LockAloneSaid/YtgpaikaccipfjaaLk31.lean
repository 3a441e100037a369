
/-
  The law's own on locks: the chapter's rows, as the mathematics has them: two keys.
-/
import Derived.Test.YtgpaikaccipfjaaLk30
namespace Go.Proofs.Ytgpaikaccipfjaa
open Go.RowKit Go.Maps

def tU1 : Tb := Tb.new.give 1 kA 2
def tU2 : Tb := tU1.give 2 kB 2
def tU3 : Tb := tU2.stand 1 kB 1
theorem uu1 : Tb.new.ask 1 kA 2 false = (0, tU1) := rfl
theorem uu2 : tU1.ask 2 kB 2 false = (0, tU2) := rfl
theorem uu3 : tU2.ask 1 kB 1 false = (9, tU3) := rfl
theorem uu4 : tU3.ask 2 kA 1 true = (10, tU3) := rfl
theorem okU1 : tU1.Ok := give_ok new_ok (by decide)
theorem okU2 : tU2.Ok := give_ok okU1 (by decide)
theorem okU3 : tU3.Ok := stand_ok okU2 domB rfl (by decide)
section
variable {w : World} {t km om : Nat} {B : Tag → Option Nat}
theorem askU1 (h : TbAt w t km om B Tb.new) : Calls Try.prog 10 #[.pointer (some ⟨t, 0, none⟩), .int .u64 1, kv kA, .int .i64 2] w (RetAsk t km om B (0, tU1) w) :=
  uu1 ▸ ask_2 h new_ok dom1 domA (R := false) (fun e => by cases e) (fun _ e => by cases e) (by decide) (by decide) (by decide) (by decide) (by decide) (by decide)
theorem askU2 (h : TbAt w t km om B tU1) : Calls Try.prog 10 #[.pointer (some ⟨t, 0, none⟩), .int .u64 2, kv kB, .int .i64 2] w (RetAsk t km om B (0, tU2) w) :=
  uu2 ▸ ask_2 h okU1 dom2 domB (R := false) (fun e => by cases e) (fun _ _ => rfl) (by decide) (by decide) (by decide) (by decide) (by decide) (by decide)
theorem askU3 (h : TbAt w t km om B tU2) : Calls Try.prog 10 #[.pointer (some ⟨t, 0, none⟩), .int .u64 1, kv kB, .int .i64 1] w (RetAsk t km om B (9, tU3) w) :=
  uu3 ▸ ask_1 h okU2 dom1 domB (R := false) (fun _ W g => ring_no (h.gr g) okU2 dom1 kB rfl) (fun _ _ => rfl) (by decide) (by decide) (by decide) (by decide) (by decide) (by decide)
theorem askU4 (h : TbAt w t km om B tU3) : Calls Try.prog 10 #[.pointer (some ⟨t, 0, none⟩), .int .u64 2, kv kA, .int .i64 1] w (RetAsk t km om B (10, tU3) w) :=
  uu4 ▸ ask_1 h okU3 dom2 domA (R := true) (fun _ W g => ring_flat (h.gr g) okU3 dom2 domA (l := tU3.lkOf kA) rfl rfl (by decide)) (fun e => by cases e) (by decide) (by decide) (by decide) (by decide) (by decide) (by decide)
end
end Go.Proofs.Ytgpaikaccipfjaa
