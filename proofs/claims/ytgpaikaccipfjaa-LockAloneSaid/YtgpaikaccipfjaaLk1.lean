
/-
  The code's table of locks in memory.
-/
import Derived.Test.YtgpaikaccipfjaaProg
import Derived.Test.YtgpaikaccipfjaaChecked
import Derived.Test.YtgpaikaccipfjaaLkMap
import Derived.DeepKeys4
import Derived.BigQuiet
import Derived.Deep.QuietTactic
namespace Go.Proofs.Ytgpaikaccipfjaa
open Go.RowKit Go.Maps

abbrev TTb : TypeId := 48
abbrev TLk : TypeId := 70
abbrev TPy : TypeId := 61
abbrev TWt : TypeId := 74
abbrev TKey : TypeId := 29
abbrev TOw : TypeId := 27
abbrev TMk : TypeId := 45
abbrev TMo : TypeId := 46
abbrev TMh : TypeId := 67
abbrev TMs : TypeId := 59
abbrev Key : Type := Int × Int
def i64In (a : Int) : Prop := -9223372036854775808 ≤ a ∧ a ≤ 9223372036854775807
def kv (k : Key) : Value := .agg #[.int .i64 k.1, .int .i64 k.2]
def KO : KK Nat := ⟨TOw, fun n => .int .u64 (n : Int), fun n => .int .u64 (n : Int), fun n => n ≤ 18446744073709551615⟩
def KL : KK Key := ⟨TKey, kv, fun k => .string (keyBytes [.int .i64 k.1, .int .i64 k.2]), fun k => i64In k.1 ∧ i64In k.2⟩
theorem lk_laidOut : laidOutB Try.prog = true := by kernel_rfl
theorem key_row : (29 : TypeId) < Try.prog.types.size := of_decide_eq_true (by kernel_rfl)
theorem key_wide : (match Try.prog.underlying 29 with | some (.array _ _) | some (.struct _) => true | _ => false) = true := by kernel_rfl
theorem key_at : Try.prog.keyTypeAt 2 29 = true := by kernel_rfl
set_option maxRecDepth 100000 in
theorem key_law : WideMaps.KeyLaw Try.prog 29 := deep_law_laid lk_laidOut (m := 2) (by omega) key_row key_at key_wide
theorem i64_wf {a : Int} : (Lit.int .i64 a).wf = true ↔ i64In a := by
  unfold i64In
  have e1 : IntKind.i64.min = -9223372036854775808 := by decide
  have e2 : IntKind.i64.max = 9223372036854775807 := by decide
  simp [Lit.wf, e1, e2]
set_option maxRecDepth 100000 in
theorem keyLits_key (d : Nat) (cs : List Value) (ls : List Lit) : Try.prog.keyLits (d + 2) TKey cs = some ls ↔ ∃ a b, cs = [.int .i64 a, .int .i64 b] ∧ i64In a ∧ i64In b ∧ ls = [.int .i64 a, .int .i64 b] := by
  have hc : Try.prog.cellsOf TKey = 2 := by kernel_rfl
  have hi : Try.prog.cellsOf 3 = 1 := by kernel_rfl
  have h1 : ∀ v l, Try.prog.keyLits (d + 1) 3 [v] = some l ↔ ∃ a, v = .int .i64 a ∧ i64In a ∧ l = [.int .i64 a] := by
    intro v l
    unfold Program.keyLits
    rw [Try.underlying3]
    cases v <;> simp
    rename_i q n
    constructor
    · rintro ⟨⟨rfl, h⟩, rfl⟩
      exact ⟨n, ⟨rfl, rfl⟩, i64_wf.1 h, rfl⟩
    · rintro ⟨a, ⟨rfl, rfl⟩, h, rfl⟩
      exact ⟨⟨rfl, i64_wf.2 h⟩, rfl⟩
  unfold Program.keyLits
  rw [Try.underlying29]
  simp only [hc]
  constructor
  · intro h
    split at h
    · rename_i hcs
      match cs, hcs.1 with
      | [x, y], _ =>
        simp [hi] at h
        cases hx : Try.prog.keyLits (d + 1) 3 [x] with
        | none => simp [hx] at h
        | some lx =>
          cases hy : Try.prog.keyLits (d + 1) 3 [y] with
          | none => simp [hx, hy] at h
          | some ly =>
            simp [hx, hy] at h
            obtain ⟨a, rfl, ha, rfl⟩ := (h1 x lx).1 hx
            obtain ⟨b, rfl, hb, rfl⟩ := (h1 y ly).1 hy
            subst h
            exact ⟨a, b, rfl, ha, hb, rfl⟩
    · cases h
  · rintro ⟨a, b, rfl, ha, hb, rfl⟩
    have e1 := (h1 (.int .i64 a) _).2 ⟨a, rfl, ha, rfl⟩
    have e2 := (h1 (.int .i64 b) _).2 ⟨b, rfl, hb, rfl⟩
    simp [hi, e1, e2]
set_option maxRecDepth 100000 in
theorem keyOf_key (v : Value) (l : Lit) : keyOf Try.prog 29 v = some l ↔ ∃ k : Key, (i64In k.1 ∧ i64In k.2) ∧ v = kv k ∧ l = .string (keyBytes [.int .i64 k.1, .int .i64 k.2]) := by
  have hk : Try.prog.keyType 29 = true := by kernel_rfl
  have hc : Try.prog.cellsOf 29 = 2 := by kernel_rfl
  obtain ⟨m, hm⟩ : ∃ m, Try.prog.types.size + 1 = m + 2 := ⟨Try.prog.types.size - 1, by have : 1 ≤ Try.prog.types.size := of_decide_eq_true (by kernel_rfl); omega⟩
  unfold keyOf
  rw [Try.underlying29]
  simp only [hk, Bool.true_and]
  rw [hm]
  constructor
  · intro h
    split at h
    · rename_i hf
      cases hl : Try.prog.keyLits (m + 2) 29 v.cells.toList with
      | none => rw [hl] at h; cases h
      | some ls =>
        rw [hl] at h
        obtain ⟨a, b, hcs, ha, hb, rfl⟩ := (keyLits_key m _ ls).1 hl
        refine ⟨(a, b), ⟨ha, hb⟩, ?_, ?_⟩
        · unfold Value.formed at hf
          rw [Try.underlying29] at hf
          cases v <;> simp at hf
          rename_i xs
          simp [Value.cells] at hcs
          unfold kv
          congr 1
          exact Array.ext' (by simpa using hcs)
        · simp at h
          exact h.symm
    · cases h
  · rintro ⟨k, ⟨ha, hb⟩, rfl, rfl⟩
    have e := (keyLits_key m [.int .i64 k.1, .int .i64 k.2] _).2 ⟨k.1, k.2, rfl, ha, hb, rfl⟩
    have hf : (kv k).formed Try.prog 29 = true := by
      simp [Value.formed, kv, Try.underlying29, hc]
    rw [if_pos hf]
    show (Try.prog.keyLits (m + 2) 29 [.int .i64 k.1, .int .i64 k.2]).map _ = _
    rw [e]
    rfl
theorem KL_ok : KL.Ok Try.prog where
  keyed := Keyed.of_law key_law
  key a ha := (keyOf_key _ _).2 ⟨a, ha, rfl, rfl⟩
  inv v l h := by
    obtain ⟨k, h1, h2, h3⟩ := (keyOf_key v l).1 h
    exact ⟨k, h1, h2, h3⟩
  inj a b h := by
    obtain ⟨a1, a2⟩ := a
    obtain ⟨b1, b2⟩ := b
    simp [KL, kv] at h
    rw [h.1, h.2]
theorem KO_ok : KO.Ok Try.prog where
  keyed := int_keyed Try.underlying27
  key a ha := keyOf_int_mk Try.underlying27 (by
    have e1 : IntKind.u64.min = 0 := by decide
    have e2 : IntKind.u64.max = 18446744073709551615 := by decide
    have h : a ≤ 18446744073709551615 := ha
    simp only [Lit.wf, e1, e2, Bool.and_eq_true, decide_eq_true_eq]
    omega)
  inv v l h := by
    obtain ⟨x, rfl, rfl, hw⟩ := Maps.keyOf_int_inv Try.underlying27 h
    have e1 : IntKind.u64.min = 0 := by decide
    have e2 : IntKind.u64.max = 18446744073709551615 := by decide
    simp only [Lit.wf, e1, e2, Bool.and_eq_true, decide_eq_true_eq] at hw
    have hx : ((x.toNat : Nat) : Int) = x := by omega
    exact ⟨x.toNat, show x.toNat ≤ 18446744073709551615 by omega, by show _ = Value.int .u64 _; rw [hx], by show _ = Lit.int .u64 _; rw [hx]⟩
  inj a b h := by
    simp [KO] at h
    omega
end Go.Proofs.Ytgpaikaccipfjaa
