import Derived.Test.YtmmhfjcaejkmiaaKnownc
import Derived.Test.YtmmhfjcaejkmiaaFlowBy
namespace Go.Proofs.Ytmmhfjcaejkmiaa
open Go.RowKit Cr

/-- append(own, src...) as one step of a region that draws: src may be nil. -/
theorem step_app_any {P : Program} {tS tB : TypeId} (T : BT P tS tB) {w : World} {ops : Array Oper} {o : Oper} {a : Act} {K : Act → World → Prop} {Q : Exit → Act → World → Prop} {E : Prop} (hgd : o.guard = none) (s x : Operand)
    (ho : o.op = .call { callee := .builtin .append, args := #[s, x], argTypes := #[tS, tS] }) (base : Nat) (v : Value) (xs : List Int) (hs : a.eval s = v) (hown : OwnB w base tB v xs)
    (q : Option Addr) (m c : Nat) (ys : List Int) (hx : a.eval x = .slice q m c) (hy : Byt w q m c ys) (hbytes : xs.length + m ≤ 140737488355328) (hbase : base ≤ w.heap.size)
    (h : ∀ v' w', OwnB w' base tB v' (xs ++ ys) → w.grownBy w' v.ownBlock → K (a.put o.dst v') w') :
    if Region.wanted o (yielded ops a.tmps) = true then Oper.wp P o a w K Q else E := by
  cases q with
  | some ad => exact step_app_byt T hgd s x ho base v xs hs hown ad m c ys hx hy hbytes hbase h
  | none =>
    have hw : Region.wanted o (yielded ops a.tmps) = true := by simp [Region.wanted, hgd]
    rw [if_pos hw]
    obtain ⟨i, hi, hz0, hz1, hz2⟩ := info_parts T.info
    have hc0 := hy.nilCap rfl
    have hm0 : m = 0 := by have := hy.cap; omega
    subst hc0 hm0
    obtain rfl : ys = [] := List.eq_nil_of_length_eq_zero hy.len
    have hrun := run_append_owned_none (P := P) (w := w) base tS o.type tB i 1 T.us hi v xs.length _ hown.row
    unfold Oper.wp
    simp [execOp, ho, resolve, invoke, builtin, hs, hx, hrun, Result.andThen]
    exact h v w (by simpa using hown) (World.grownBy.refl _ _)

/-- The same, the guard met. -/
theorem wp_app_any {P : Program} {tS tB : TypeId} (T : BT P tS tB) {w : World} {o : Oper} {a : Act} {K : Act → World → Prop} {Q : Exit → Act → World → Prop} (s x : Operand)
    (ho : o.op = .call { callee := .builtin .append, args := #[s, x], argTypes := #[tS, tS] }) (base : Nat) (v : Value) (xs : List Int) (hs : a.eval s = v) (hown : OwnB w base tB v xs)
    (q : Option Addr) (m c : Nat) (ys : List Int) (hx : a.eval x = .slice q m c) (hy : Byt w q m c ys) (hbytes : xs.length + m ≤ 140737488355328) (hbase : base ≤ w.heap.size)
    (h : ∀ v' w', OwnB w' base tB v' (xs ++ ys) → w.grownBy w' v.ownBlock → K (a.put o.dst v') w') : Oper.wp P o a w K Q := by
  obtain ⟨i, hi, hz0, hz1, hz2⟩ := info_parts T.info
  cases q with
  | some ad =>
    refine wp_append_own w s x tS ho base tB i (.int .u8 0) 1 1 T.us hi hz0 hz1 hz2 rfl (by decide) v xs.length _ hs hown.row ad m c (ys.map (Value.int .u8)) hx
      (by simp [hy.len]) hy.news (u8s_oneCell _) (by simp only [maxLen]; omega) (by omega) hbase ?_
    intro v' w' h1 h2 _
    refine h v' w' ⟨?_, hown.small.app hy.small⟩ h2
    have := hy.len
    simpa [this] using h1
  | none =>
    have hc0 := hy.nilCap rfl
    have hm0 : m = 0 := by have := hy.cap; omega
    subst hc0 hm0
    obtain rfl : ys = [] := List.eq_nil_of_length_eq_zero hy.len
    have hrun := run_append_owned_none (P := P) (w := w) base tS o.type tB i 1 T.us hi v xs.length _ hown.row
    unfold Oper.wp
    simp [execOp, ho, resolve, invoke, builtin, hs, hx, hrun, Result.andThen]
    exact h v w (by simpa using hown) (World.grownBy.refl _ _)
theorem OwnB.base_le {w : World} {B B' tB : Nat} {v : Value} {xs : List Int} (h : OwnB w B' tB v xs) (hb : B ≤ B') : OwnB w B tB v xs :=
  ⟨⟨h.row.1, h.row.2.imp id fun ⟨gb, cap, cur, h0, hg, r⟩ => ⟨gb, cap, cur, h0, Nat.le_trans hb hg, r⟩⟩, h.small⟩

theorem places_said (p F sh : Nat) (hF : F < 4294967296) (hs : sh ≤ 32) (xs : List Int) : (sumW (Wd.enc 8 (p ^^^ F * 2 ^ sh) ++ xs) = sumW (Wd.enc 8 p ++ xs)) ↔ F = 0 := by
  unfold sumW
  rw [← places ones xs p F sh hF hs]
  constructor
  · intro h
    have := congrArg (fun x : W => ~~~x) h
    simpa using this
  · intro h; rw [h]

theorem other_le (m : Nat) (F : W) (sh : Nat) (hm : m ≤ 18446744073709551615) (hs : sh ≤ 32) : m ^^^ F.toNat * 2 ^ sh ≤ 18446744073709551615 := by
  have hp : 2 ^ sh ≤ 2 ^ 32 := Nat.pow_le_pow_right (by omega) hs
  have hF := F.isLt
  have h1 : F.toNat * 2 ^ sh ≤ 4294967295 * 2 ^ 32 := Nat.mul_le_mul (by omega) hp
  have := Nat.xor_lt_two_pow (n := 64) (show m < 2 ^ 64 by omega) (show F.toNat * 2 ^ sh < 2 ^ 64 by omega)
  omega
theorem other_spell (m : Nat) (F : W) (sh : Nat) (hm : m ≤ 18446744073709551615) (hs : sh ≤ 32) : bits BinOp.xor IntKind.u64 (m : Int) (IntKind.u64.wrap (IntKind.u64.wrap (U F) * 2 ^ sh)) = ((m ^^^ F.toNat * 2 ^ sh : Nat) : Int) := by
  have hp : 2 ^ sh ≤ 2 ^ 32 := Nat.pow_le_pow_right (by omega) hs
  have hF := F.isLt
  have h1 : F.toNat * 2 ^ sh ≤ 4294967295 * 2 ^ 32 := Nat.mul_le_mul (by omega) hp
  have e0 : IntKind.u64.wrap (U F) = ((F.toNat : Nat) : Int) := by rw [IntKind.wrap_u64]; unfold U; omega
  have e1 : ((F.toNat : Nat) : Int) * 2 ^ sh = ((F.toNat * 2 ^ sh : Nat) : Int) := by rw [Int.natCast_mul, Int.natCast_pow]; rfl
  have e2 : IntKind.u64.wrap ((F.toNat * 2 ^ sh : Nat) : Int) = ((F.toNat * 2 ^ sh : Nat) : Int) := by rw [IntKind.wrap_u64]; omega
  rw [e0, e1, e2]
  exact u64_xor_nat _ _ (by omega) (by omega)
theorem other_ne (m : Nat) (F : W) (sh : Nat) (h : F.toNat ≠ 0) : m ^^^ F.toNat * 2 ^ sh ≠ m := by
  intro e
  have h2 : F.toNat * 2 ^ sh = 0 := by
    have := congrArg (fun x => m ^^^ x) e
    simpa [← Nat.xor_assoc] using this
  rcases Nat.mul_eq_zero.1 h2 with h3 | h3
  · exact h h3
  · have := Nat.two_pow_pos sh; omega

/-- The first bytes of a slice, and those behind them, whatever its address. -/
theorem Byt.sl1 {W : World} {p : Option Addr} {n c : Nat} {xs : List Int} (h : Byt W p n c xs) (k : Nat) (hk : k ≤ n) : Byt W (if c = 0 then p else p.map (·.add (0 * 1))) (k - 0) (c - 0) (xs.take k) := by
  have hl := h.len
  have hc := h.cap
  have hm := h.most
  refine ⟨by simp; omega, by omega, by omega, fun h0 => ?_, fun e => ?_, h.small.take k⟩
  · obtain ⟨b, o, rfl, hcell⟩ := h.at (by omega)
    have hc0 : ¬ c = 0 := by omega
    refine ⟨b, o, by simp [hc0, Addr.add], fun i hi => ?_⟩
    rw [hcell i (by omega)]
    have : i < k := by omega
    simp [List.getD, this]
  · have := h.nilCap
    by_cases hc0 : c = 0
    · omega
    · rw [if_neg hc0] at e
      have hp : p = none := by simpa using e
      have := h.nilCap hp
      omega
theorem Byt.sl2 {W : World} {p : Option Addr} {n c : Nat} {xs : List Int} (h : Byt W p n c xs) (k : Nat) (hk : k ≤ n) : Byt W (if c = k then p else p.map (·.add (k * 1))) (n - k) (c - k) (xs.drop k) := by
  have hl := h.len
  have hc := h.cap
  have hm := h.most
  refine ⟨by simp; omega, by omega, by omega, fun h0 => ?_, fun e => ?_, h.small.drop k⟩
  · obtain ⟨b, o, rfl, hcell⟩ := h.at (by omega)
    have hc0 : ¬ c = k := by omega
    refine ⟨b, o + k, by simp [hc0, Addr.add], fun i hi => ?_⟩
    rw [Nat.add_assoc, hcell (k + i) (by omega)]
    simp [List.getD]
  · by_cases hc0 : c = k
    · omega
    · rw [if_neg hc0] at e
      have hp : p = none := by simpa using e
      have := h.nilCap hp
      omega
theorem cuts {p : Option Addr} {n c : Nat} (k : Nat) (hk : k ≤ n) (hc : n ≤ c) : ∃ q1 d1 q2 d2,
    (∀ w, (Instr.slice 23 (.slice p n c) none (some (.int .i64 (k : Int))) none).run Try.prog w = .ok (.slice q1 k d1) w) ∧
    (∀ w, (Instr.slice 23 (.slice p n c) (some (.int .i64 (k : Int))) none none).run Try.prog w = .ok (.slice q2 (n - k) d2) w) ∧
    ∀ W xs, Byt W p n c xs → Byt W q1 k d1 (xs.take k) ∧ Byt W q2 (n - k) d2 (xs.drop k) := by
  have he : Try.prog.elem 23 = 5 := by kernel_rfl
  have hu : Try.prog.underlying 23 = some (.slice (Try.prog.elem 23)) := by rw [he]; exact Try.underlying23
  have hz : ∀ w, (sizeOf (Try.prog.elem 23)).run Try.prog w = .ok 1 w := fun w => by
    rw [he]
    have hs : (Try.prog.info? 5).map (·.size) = some 1 := by kernel_rfl
    cases hq : Try.prog.info? 5 with
    | none => rw [hq] at hs; cases hs
    | some q => rw [hq] at hs; have h1 : q.size = 1 := by simpa using hs
                simp [sizeOf, typeInfo, hq, h1]
  refine ⟨_, _, _, _, fun w => ?_, fun w => ?_, fun W xs h => ⟨h.sl1 k hk, h.sl2 k hk⟩⟩
  · rw [run_slice_h w 23 p n c hu .i64 (k : Int) (by omega) (by omega), hz]
    rfl
  · rw [run_slice_l w 23 p n c hu .i64 (k : Int) (by omega) (by omega), hz]
    rfl

-- GENERATED by wip/tools/gen_places.py from here on
/-- What each slot of the region holds. -/
def Pl (B : Nat) (S : W) (m : Nat) (p : Option Addr) (n c : Nat) (xs : List Int) (k : Nat) (q1 : Option Addr) (d1 : Nat) (q2 : Option Addr) (d2 : Nat) (d : Nat) (v : Value) (w : World) : Prop :=
  match d with
  | 27 => v = .int .u32 (U S)
  | 28 => v = .int .u64 (m : Int)
  | 29 => (∃ q d, v = .slice q 8 d ∧ OwnB w B 5 (.slice q 8 d) (Wd.enc 8 m))
  | 30 => v = .slice p n c
  | 31 => (∃ q d, v = .slice q (8 + n) d ∧ Byt w q (8 + n) d (Wd.enc 8 m ++ xs))
  | 32 => v = .int .u32 (U S)
  | 33 => v = .bool false
  | 34 => v = .bool false
  | 35 => v = .int .u64 (m : Int)
  | 36 => v = .slice p n c
  | 37 => v = .slice p n c
  | 38 => v = .int .i64 (n : Int)
  | 39 => v = .int .i64 (k : Int)
  | 40 => v = .slice q1 k d1
  | 41 => v = .slice p n c
  | 42 => v = .slice p n c
  | 43 => v = .int .i64 (n : Int)
  | 44 => v = .int .i64 (k : Int)
  | 45 => v = .slice q2 (n - k) d2
  | 46 => (∃ q d, v = .slice q 2 d ∧ Rows w q 2 d [xs.take k, xs.drop k])
  | 47 => v = .int .u32 (U S)
  | 48 => v = .int .u32 (U S)
  | 49 => v = .bool false
  | 50 => v = .bool false
  | _ => True
/-- How the world grows: an append onto the call's own row may write into it. -/
def Pg (B : Nat) (i : Nat) (w w' : World) : Prop := if i = 4 then Below B w w' else Gr w w'
theorem OwnB.keptB {B tB : Nat} {w w' : World} {v : Value} {xs : List Int} (h : OwnB w B tB v xs) (g : Gr w w') : OwnB w' B tB v xs :=
  ⟨⟨h.row.1, h.row.2.imp id fun ⟨gb, cap, cur, h0, hb, hg, r⟩ => ⟨gb, cap, cur, h0, hb, by
    have hlt : gb < w.heap.size := by
      rcases Nat.lt_or_ge gb w.heap.size with h' | h'
      · exact h'
      · rw [Array.getElem?_eq_none h'] at hg; cases hg
    rw [g.block gb hlt]; exact hg, r⟩⟩, h.small⟩
theorem Pl.kept {B : Nat} {S : W} {m : Nat} {p : Option Addr} {n c : Nat} {xs : List Int} {k : Nat} {q1 : Option Addr} {d1 : Nat} {q2 : Option Addr} {d2 : Nat} (d : Nat) (v : Value) (w w' : World) (h : Pl B S m p n c xs k q1 d1 q2 d2 d v w) (g : Gr w w') : Pl B S m p n c xs k q1 d1 q2 d2 d v w' := by
  unfold Pl at h ⊢
  split <;> simp only at h
  all_goals first
    | exact h
    | exact (let ⟨q, e, h1, h2⟩ := h; ⟨q, e, h1, h2.keptB g⟩)
    | exact (let ⟨q, e, h1, h2⟩ := h; ⟨q, e, h1, Byt.kept h2 g⟩)
    | exact (let ⟨q, e, h1, h2⟩ := h; ⟨q, e, h1, Rows.kept h2 g⟩)
theorem Pl.any {B : Nat} {S : W} {m : Nat} {p : Option Addr} {n c : Nat} {xs : List Int} {k : Nat} {q1 : Option Addr} {d1 : Nat} {q2 : Option Addr} {d2 : Nat} (d : Nat) (hd : d = 27 ∨ d = 28 ∨ d = 30) (v : Value) (w w' : World) (h : Pl B S m p n c xs k q1 d1 q2 d2 d v w) : Pl B S m p n c xs k q1 d1 q2 d2 d v w' := by
  rcases hd with rfl | rfl | rfl <;> exact h


set_option maxRecDepth 100000 in
set_option maxHeartbeats 4000000 in
theorem sumsPlaces_in (m : Nat) (F : W) (sh : Nat) (p : Option Addr) (n c : Nat) (xs : List Int) (w : World) (hm : m ≤ 18446744073709551615) (hsh : sh ≤ 32) (hn : n ≤ 3000) (h : Byt w p n c xs) : Calls Try.prog 4 #[.int .u64 m, .int .u32 (U F), .int .i64 sh, .slice p n c] w fun e w' => e = .returned (.bool true) ∧ Gr w w' := by
  have HH := Lib.hid h
  have HM := Lib.hid hm
  have HC := Lib.hid h.cap
  clear h
  have hs0 : (0 : Int) ≤ sh := by omega
  have hs1 : (sh : Int) ≤ 32 := by omega
  have hb1 : decide ((3000 : Int) < (n : Int)) = false := decide_eq_false (by omega)
  have hb2 : decide ((sh : Int) < 0) = false := decide_eq_false (by omega)
  have hb3 : decide ((32 : Int) < (sh : Int)) = false := decide_eq_false (by omega)
  go_enter Try.func4, Try.ntmps4
  go_wp2_with fail
  have HR := Lib.hid (Rows.one (t := 23) HH.out rfl)
  have hgn := (Gr.refl w).alloc (Nat.le_refl _) (.cells #[.slice p n c] 23)
  have HG2 := Lib.hid hgn
  have HB2 := Lib.hid (HH.out.kept hgn)
  clear hgn HH
  refine (at_crc _ _ _ _ _ _ HM.out HR.out).mono ?_
  rintro e w1 ⟨rfl, g1⟩
  rw [show [xs].flatten = xs by simp]
  have HG3 := Lib.hid (Gr.trans HG2.out g1).drew
  have HB3 := Lib.hid ((HB2.out.kept g1).heap (w' := w1.drew) rfl)
  clear g1 HG2 HB2 HR
  obtain ⟨S, hS⟩ : ∃ S, S = sumW (Wd.enc 8 m ++ xs) := ⟨_, rfl⟩
  rw [← hS]
  have HS := Lib.hid hS
  have HS2 : Hid (sumW (Wd.enc 8 m ++ [xs.take (n / 2), xs.drop (n / 2)].flatten) = S) := Lib.hid (by rw [hS]; simp)
  clear hS
  obtain ⟨q1, d1, q2, d2, hq1, hq2, hq3⟩ := cuts (p := p) (c := c) (n / 2) (by omega) HC.out
  have HQ3 := Lib.hid hq3
  obtain ⟨k, hk⟩ : ∃ k, k = n / 2 := ⟨_, rfl⟩
  rw [← hk] at hq1 hq2 HQ3 HS2
  have HQ1 := Lib.hid hq1
  have HQ2 := Lib.hid hq2
  have HK1 := Lib.hid (show (n : Int) / 2 = (k : Int) by omega)
  have HKW : Hid (IntKind.i64.wrap (k : Int) = (k : Int)) := Lib.hid (by rw [IntKind.wrap_i64]; omega)
  clear hq1 hq2 hq3 hk
  go_wp2_with fail
  refine Flow.regionBy [50] 24 (Pl w1.drew.heap.size S m p n c xs k q1 d1 q2 d2) (Gr w1.drew) (Pg w1.drew.heap.size) (by kernel_rfl) (by kernel_rfl) ?mono (Gr.refl _) ?steps ?fin
  case mono =>
    intro i d v w w' hb hs hg
    unfold Pg at hg
    split at hg
    · rename_i e
      subst e
      exact Pl.any d (by simpa using Flow.bears_only [27, 28, 30] (by kernel_rfl) hb) v w w' hs
    · exact Pl.kept d v w w' hs hg
  case fin =>
    intro a W hfr hinv hsl
    have s50 : a.tmps.getD 50 undef = .bool false := hsl 23 _ 50 rfl rfl (by simp)
    have hdef : a.defers = [] := hfr.defers
    clear hsl
    rename_i K hK
    have o0 : a.tmps.getD 0 undef = .int .u64 (m : Int) := hfr.at 0 (by kernel_rfl)
    have o1 : a.tmps.getD 1 undef = .int .u32 (U F) := hfr.at 1 (by kernel_rfl)
    have o2 : a.tmps.getD 2 undef = .int .i64 (sh : Int) := hfr.at 2 (by kernel_rfl)
    have o3 : a.tmps.getD 3 undef = .slice p n c := hfr.at 3 (by kernel_rfl)
    have o4 : a.tmps.getD 4 undef = undef := hfr.at 4 (by kernel_rfl)
    have o5 : a.tmps.getD 5 undef = undef := hfr.at 5 (by kernel_rfl)
    have o6 : a.tmps.getD 6 undef = undef := hfr.at 6 (by kernel_rfl)
    have o7 : a.tmps.getD 7 undef = undef := hfr.at 7 (by kernel_rfl)
    have o8 : a.tmps.getD 8 undef = .bool false := hfr.at 8 (by kernel_rfl)
    have o9 : a.tmps.getD 9 undef = .int .u32 (U S) := hfr.at 9 (by kernel_rfl)
    have o10 : a.tmps.getD 10 undef = undef := hfr.at 10 (by kernel_rfl)
    have o11 : a.tmps.getD 11 undef = .slice p n c := hfr.at 11 (by kernel_rfl)
    have o12 : a.tmps.getD 12 undef = .int .i64 (n : Int) := hfr.at 12 (by kernel_rfl)
    have o13 : a.tmps.getD 13 undef = .bool false := hfr.at 13 (by kernel_rfl)
    have o14 : a.tmps.getD 14 undef = .bool false := hfr.at 14 (by kernel_rfl)
    have o15 : a.tmps.getD 15 undef = .int .i64 (sh : Int) := hfr.at 15 (by kernel_rfl)
    have o16 : a.tmps.getD 16 undef = .bool false := hfr.at 16 (by kernel_rfl)
    have o17 : a.tmps.getD 17 undef = .bool false := hfr.at 17 (by kernel_rfl)
    have o18 : a.tmps.getD 18 undef = .bool false := hfr.at 18 (by kernel_rfl)
    have o19 : a.tmps.getD 19 undef = .int .i64 (sh : Int) := hfr.at 19 (by kernel_rfl)
    have o20 : a.tmps.getD 20 undef = .bool false := hfr.at 20 (by kernel_rfl)
    have o21 : a.tmps.getD 21 undef = .bool false := hfr.at 21 (by kernel_rfl)
    have o22 : a.tmps.getD 22 undef = undef := hfr.at 22 (by kernel_rfl)
    have o23 : a.tmps.getD 23 undef = .int .u64 (m : Int) := hfr.at 23 (by kernel_rfl)
    have o24 : a.tmps.getD 24 undef = .slice p n c := hfr.at 24 (by kernel_rfl)
    have o25 : a.tmps.getD 25 undef = .slice (some ⟨w.heap.size, 0, none⟩) 1 1 := hfr.at 25 (by kernel_rfl)
    have o26 : a.tmps.getD 26 undef = .int .u32 (U S) := hfr.at 26 (by kernel_rfl)
    obtain ⟨x27, o27⟩ : ∃ x, a.tmps.getD 27 undef = x := ⟨_, rfl⟩
    obtain ⟨x28, o28⟩ : ∃ x, a.tmps.getD 28 undef = x := ⟨_, rfl⟩
    obtain ⟨x29, o29⟩ : ∃ x, a.tmps.getD 29 undef = x := ⟨_, rfl⟩
    obtain ⟨x30, o30⟩ : ∃ x, a.tmps.getD 30 undef = x := ⟨_, rfl⟩
    obtain ⟨x31, o31⟩ : ∃ x, a.tmps.getD 31 undef = x := ⟨_, rfl⟩
    obtain ⟨x32, o32⟩ : ∃ x, a.tmps.getD 32 undef = x := ⟨_, rfl⟩
    obtain ⟨x33, o33⟩ : ∃ x, a.tmps.getD 33 undef = x := ⟨_, rfl⟩
    obtain ⟨x34, o34⟩ : ∃ x, a.tmps.getD 34 undef = x := ⟨_, rfl⟩
    obtain ⟨x35, o35⟩ : ∃ x, a.tmps.getD 35 undef = x := ⟨_, rfl⟩
    obtain ⟨x36, o36⟩ : ∃ x, a.tmps.getD 36 undef = x := ⟨_, rfl⟩
    obtain ⟨x37, o37⟩ : ∃ x, a.tmps.getD 37 undef = x := ⟨_, rfl⟩
    obtain ⟨x38, o38⟩ : ∃ x, a.tmps.getD 38 undef = x := ⟨_, rfl⟩
    obtain ⟨x39, o39⟩ : ∃ x, a.tmps.getD 39 undef = x := ⟨_, rfl⟩
    obtain ⟨x40, o40⟩ : ∃ x, a.tmps.getD 40 undef = x := ⟨_, rfl⟩
    obtain ⟨x41, o41⟩ : ∃ x, a.tmps.getD 41 undef = x := ⟨_, rfl⟩
    obtain ⟨x42, o42⟩ : ∃ x, a.tmps.getD 42 undef = x := ⟨_, rfl⟩
    obtain ⟨x43, o43⟩ : ∃ x, a.tmps.getD 43 undef = x := ⟨_, rfl⟩
    obtain ⟨x44, o44⟩ : ∃ x, a.tmps.getD 44 undef = x := ⟨_, rfl⟩
    obtain ⟨x45, o45⟩ : ∃ x, a.tmps.getD 45 undef = x := ⟨_, rfl⟩
    obtain ⟨x46, o46⟩ : ∃ x, a.tmps.getD 46 undef = x := ⟨_, rfl⟩
    obtain ⟨x47, o47⟩ : ∃ x, a.tmps.getD 47 undef = x := ⟨_, rfl⟩
    obtain ⟨x48, o48⟩ : ∃ x, a.tmps.getD 48 undef = x := ⟨_, rfl⟩
    obtain ⟨x49, o49⟩ : ∃ x, a.tmps.getD 49 undef = x := ⟨_, rfl⟩
    have o50 : a.tmps.getD 50 undef = .bool false := s50
    have o51 : a.tmps.getD 51 undef = undef := hfr.at 51 (by kernel_rfl)
    have o52 : a.tmps.getD 52 undef = undef := hfr.at 52 (by kernel_rfl)
    have o53 : a.tmps.getD 53 undef = undef := hfr.at 53 (by kernel_rfl)
    have o54 : a.tmps.getD 54 undef = undef := hfr.at 54 (by kernel_rfl)
    have o55 : a.tmps.getD 55 undef = undef := hfr.at 55 (by kernel_rfl)
    have o56 : a.tmps.getD 56 undef = undef := hfr.at 56 (by kernel_rfl)
    have o57 : a.tmps.getD 57 undef = undef := hfr.at 57 (by kernel_rfl)
    have o58 : a.tmps.getD 58 undef = undef := hfr.at 58 (by kernel_rfl)
    have o59 : a.tmps.getD 59 undef = undef := hfr.at 59 (by kernel_rfl)
    have o60 : a.tmps.getD 60 undef = undef := hfr.at 60 (by kernel_rfl)
    have o61 : a.tmps.getD 61 undef = undef := hfr.at 61 (by kernel_rfl)
    have o62 : a.tmps.getD 62 undef = undef := hfr.at 62 (by kernel_rfl)
    have o63 : a.tmps.getD 63 undef = undef := hfr.at 63 (by kernel_rfl)
    have o64 : a.tmps.getD 64 undef = undef := hfr.at 64 (by kernel_rfl)
    have o65 : a.tmps.getD 65 undef = undef := hfr.at 65 (by kernel_rfl)
    have o66 : a.tmps.getD 66 undef = undef := hfr.at 66 (by kernel_rfl)
    have o67 : a.tmps.getD 67 undef = undef := hfr.at 67 (by kernel_rfl)
    have o68 : a.tmps.getD 68 undef = undef := hfr.at 68 (by kernel_rfl)
    have o69 : a.tmps.getD 69 undef = undef := hfr.at 69 (by kernel_rfl)
    have o70 : a.tmps.getD 70 undef = undef := hfr.at 70 (by kernel_rfl)
    have ht : a.tmps = #[.int .u64 (m : Int), .int .u32 (U F), .int .i64 (sh : Int), .slice p n c, undef, undef, undef, undef, .bool false, .int .u32 (U S), undef, .slice p n c, .int .i64 (n : Int), .bool false, .bool false, .int .i64 (sh : Int), .bool false, .bool false, .bool false, .int .i64 (sh : Int), .bool false, .bool false, undef, .int .u64 (m : Int), .slice p n c, .slice (some ⟨w.heap.size, 0, none⟩) 1 1, .int .u32 (U S), x27, x28, x29, x30, x31, x32, x33, x34, x35, x36, x37, x38, x39, x40, x41, x42, x43, x44, x45, x46, x47, x48, x49, .bool false, undef, undef, undef, undef, undef, undef, undef, undef, undef, undef, undef, undef, undef, undef, undef, undef, undef, undef, undef, undef] := by
      rw [Flow.spread a.tmps 71 hfr.size]
      show #[a.tmps.getD 0 undef, a.tmps.getD 1 undef, a.tmps.getD 2 undef, a.tmps.getD 3 undef, a.tmps.getD 4 undef, a.tmps.getD 5 undef, a.tmps.getD 6 undef, a.tmps.getD 7 undef, a.tmps.getD 8 undef, a.tmps.getD 9 undef, a.tmps.getD 10 undef, a.tmps.getD 11 undef, a.tmps.getD 12 undef, a.tmps.getD 13 undef, a.tmps.getD 14 undef, a.tmps.getD 15 undef, a.tmps.getD 16 undef, a.tmps.getD 17 undef, a.tmps.getD 18 undef, a.tmps.getD 19 undef, a.tmps.getD 20 undef, a.tmps.getD 21 undef, a.tmps.getD 22 undef, a.tmps.getD 23 undef, a.tmps.getD 24 undef, a.tmps.getD 25 undef, a.tmps.getD 26 undef, a.tmps.getD 27 undef, a.tmps.getD 28 undef, a.tmps.getD 29 undef, a.tmps.getD 30 undef, a.tmps.getD 31 undef, a.tmps.getD 32 undef, a.tmps.getD 33 undef, a.tmps.getD 34 undef, a.tmps.getD 35 undef, a.tmps.getD 36 undef, a.tmps.getD 37 undef, a.tmps.getD 38 undef, a.tmps.getD 39 undef, a.tmps.getD 40 undef, a.tmps.getD 41 undef, a.tmps.getD 42 undef, a.tmps.getD 43 undef, a.tmps.getD 44 undef, a.tmps.getD 45 undef, a.tmps.getD 46 undef, a.tmps.getD 47 undef, a.tmps.getD 48 undef, a.tmps.getD 49 undef, a.tmps.getD 50 undef, a.tmps.getD 51 undef, a.tmps.getD 52 undef, a.tmps.getD 53 undef, a.tmps.getD 54 undef, a.tmps.getD 55 undef, a.tmps.getD 56 undef, a.tmps.getD 57 undef, a.tmps.getD 58 undef, a.tmps.getD 59 undef, a.tmps.getD 60 undef, a.tmps.getD 61 undef, a.tmps.getD 62 undef, a.tmps.getD 63 undef, a.tmps.getD 64 undef, a.tmps.getD 65 undef, a.tmps.getD 66 undef, a.tmps.getD 67 undef, a.tmps.getD 68 undef, a.tmps.getD 69 undef, a.tmps.getD 70 undef] = _
      rw [o0, o1, o2, o3, o4, o5, o6, o7, o8, o9, o10, o11, o12, o13, o14, o15, o16, o17, o18, o19, o20, o21, o22, o23, o24, o25, o26, o27, o28, o29, o30, o31, o32, o33, o34, o35, o36, o37, o38, o39, o40, o41, o42, o43, o44, o45, o46, o47, o48, o49, o50, o51, o52, o53, o54, o55, o56, o57, o58, o59, o60, o61, o62, o63, o64, o65, o66, o67, o68, o69, o70]
    clear o0 o1 o2 o3 o4 o5 o6 o7 o8 o9 o10 o11 o12 o13 o14 o15 o16 o17 o18 o19 o20 o21 o22 o23 o24 o25 o26 o27 o28 o29 o30 o31 o32 o33 o34 o35 o36 o37 o38 o39 o40 o41 o42 o43 o44 o45 o46 o47 o48 o49 o50 o51 o52 o53 o54 o55 o56 o57 o58 o59 o60 o61 o62 o63 o64 o65 o66 o67 o68 o69 o70
    clear hfr s50
    obtain ⟨tm, df⟩ := a
    simp only at ht hdef
    subst ht hdef
    refine hK _ _ ?_
    have HI := Lib.hid hinv
    clear hinv hK
    go_wp2_with fail
    rw [other_spell m F sh HM.out hsh]
    have HMX := Lib.hid (other_le m F sh HM.out hsh)
    have hgn := gr_new W (.cells #[.slice p n c] 23)
    have HR := Lib.hid (Rows.one (t := 23) (HB3.out.kept HI.out) rfl)
    have HG5 := Lib.hid (Gr.trans (Gr.trans HG3.out HI.out) hgn)
    clear hgn HI HB3 HQ1 HQ2 HQ3 HS2 HK1 HKW
    refine (at_crc _ _ _ _ _ _ HMX.out HR.out).mono ?_
    rintro e w6 ⟨rfl, g6⟩
    rw [show [xs].flatten = xs by simp]
    have HG6 := Lib.hid (Gr.trans HG5.out g6)
    clear g6 HG5 HR
    have HQ := Lib.hid (places_said m F.toNat sh F.isLt hsh xs)
    by_cases hF : F.toNat = 0
    · have e1 : m ^^^ F.toNat * 2 ^ sh = m := by rw [hF]; simp
      rw [e1, ← HS.out]
      have HF := Lib.hid hF
      clear hF e1
      go_wp2_with fail
      refine (known_any _).mono ?_
      rintro e w7 ⟨rfl, g7⟩
      have HG7 := Lib.hid (Gr.trans HG6.out g7)
      clear g7 HG6
      go_wp2_with fail
      go_ret
      exact ⟨rfl, HG7.out⟩
    · have hne := other_ne m F sh hF
      have q1 : (((m ^^^ F.toNat * 2 ^ sh : Nat) : Int) == (m : Int)) = false := by rw [beq_eq_false_iff_ne]; omega
      have q2 : (U (sumW (Wd.enc 8 (m ^^^ F.toNat * 2 ^ sh) ++ xs)) == U S) = false := by
        rw [beq_eq_false_iff_ne]
        intro h
        have h2 := U_inj h
        rw [HS.out] at h2
        exact hF (HQ.out.1 h2)
      obtain ⟨M, hM⟩ : ∃ M, M = m ^^^ F.toNat * 2 ^ sh := ⟨_, rfl⟩
      rw [← hM] at q1 q2 ⊢
      clear hne hM hF
      go_wp2_with fail
      refine (known_any _).mono ?_
      rintro e w7 ⟨rfl, g7⟩
      have HG7 := Lib.hid (Gr.trans HG6.out g7)
      clear g7 HG6
      go_wp2_with fail
      go_ret
      exact ⟨rfl, HG7.out⟩
  refine Flow.StepsBy.cons (fun a W hfr hinv hdep K hK => ?_) ?_
  · have s9 : a.tmps.getD 9 undef = .int .u32 (U S) := hfr.at 9 (by kernel_rfl)
    have t9 : a.tmps[9]?.getD undef = .int .u32 (U S) := by simpa using s9
    rw [if_pos (Flow.wanted_none rfl)]
    clear hfr hdep
    go_simp
    exact hK _ _ (by unfold Pg; rw [if_neg (by decide)]; exact Gr.refl W) hinv (fun d hd => by cases hd; rfl)
  refine Flow.StepsBy.cons (fun a W hfr hinv hdep K hK => ?_) ?_
  · have s0 : a.tmps.getD 0 undef = .int .u64 (m : Int) := hfr.at 0 (by kernel_rfl)
    have t0 : a.tmps[0]?.getD undef = .int .u64 (m : Int) := by simpa using s0
    rw [if_pos (Flow.wanted_none rfl)]
    clear hfr hdep
    go_simp
    exact hK _ _ (by unfold Pg; rw [if_neg (by decide)]; exact Gr.refl W) hinv (fun d hd => by cases hd; rfl)
  refine Flow.StepsBy.cons (fun a W hfr hinv hdep K hK => ?_) ?_
  · have s28 : a.tmps.getD 28 undef = .int .u64 (m : Int) := hdep 28 (by kernel_rfl)
    have t28 : a.tmps[28]?.getD undef = .int .u64 (m : Int) := by simpa using s28
    rw [if_pos (Flow.wanted_none rfl)]
    clear hfr hdep
    go_simp
    refine (refPlace_any _ _ HM.out).mono ?_
    rintro e W' ⟨v2, rfl, own, gg⟩
    have HO := Lib.hid (OwnB.base_le own hinv.size)
    obtain ⟨q, e, hv⟩ := own.shape 8 (Wd.enc_length _ _)
    subst hv
    exact hK _ _ (by unfold Pg; rw [if_neg (by decide)]; exact gg) (Gr.trans hinv gg) (fun d hd => by cases hd; exact ⟨_, _, rfl, HO.out⟩)
  refine Flow.StepsBy.cons (fun a W hfr hinv hdep K hK => ?_) ?_
  · have s3 : a.tmps.getD 3 undef = .slice p n c := hfr.at 3 (by kernel_rfl)
    have t3 : a.tmps[3]?.getD undef = .slice p n c := by simpa using s3
    rw [if_pos (Flow.wanted_none rfl)]
    clear hfr hdep
    go_simp
    exact hK _ _ (by unfold Pg; rw [if_neg (by decide)]; exact Gr.refl W) hinv (fun d hd => by cases hd; rfl)
  refine Flow.StepsBy.cons (fun a W hfr hinv hdep K hK => ?_) ?_
  · have s29 : (∃ q d, a.tmps.getD 29 undef = .slice q 8 d ∧ OwnB W w1.drew.heap.size 5 (.slice q 8 d) (Wd.enc 8 m)) := hdep 29 (by kernel_rfl)
    have s30 : a.tmps.getD 30 undef = .slice p n c := hdep 30 (by kernel_rfl)
    have t30 : a.tmps[30]?.getD undef = .slice p n c := by simpa using s30
    obtain ⟨q, e, e29, ho⟩ := s29
    rw [if_pos (Flow.wanted_none rfl)]
    clear hfr hdep
    have HBW := Lib.hid (HB3.out.kept hinv)
    have HO := Lib.hid ho
    refine wp_app_any btc (.tmp 29) (.tmp 30) rfl w1.drew.heap.size (.slice q 8 e) _ (by simpa [Act.eval] using e29) HO.out p n c _ (by simpa [Act.eval] using s30) HBW.out (by rw [Wd.enc_length]; omega) hinv.size ?_
    intro v' w' own grow
    obtain ⟨q', e', hv⟩ := own.shape (8 + n) (by rw [List.length_append, Wd.enc_length, HBW.out.len])
    subst hv
    have hbel : Below w1.drew.heap.size W w' := Below.app (Below.refl _ _) hinv.size HO.out grow
    exact hK _ _ (by unfold Pg; rw [if_pos rfl]; exact hbel) (Below.trans hinv hbel) (fun d hd => by cases hd; exact ⟨_, _, rfl, own.byt.1⟩)
  refine Flow.StepsBy.cons (fun a W hfr hinv hdep K hK => ?_) ?_
  · have s31 : (∃ q d, a.tmps.getD 31 undef = .slice q (8 + n) d ∧ Byt W q (8 + n) d (Wd.enc 8 m ++ xs)) := hdep 31 (by kernel_rfl)
    obtain ⟨q, e, e31, hby⟩ := s31
    have t31 : a.tmps[31]?.getD undef = .slice q (8 + n) e := by simpa using e31
    have HY := Lib.hid hby
    rw [if_pos (Flow.wanted_none rfl)]
    clear hfr hdep
    go_simp
    refine (refSum_any _ _ _ _ _ HY.out).mono ?_
    rintro e W' ⟨rfl, rfl⟩
    exact hK _ _ (by unfold Pg; rw [if_neg (by decide)]; exact Gr.refl W) hinv (fun d hd => by cases hd; exact congrArg (fun x => Value.int .u32 (U x)) HS.out.symm)
  refine Flow.StepsBy.cons (fun a W hfr hinv hdep K hK => ?_) ?_
  · have s27 : a.tmps.getD 27 undef = .int .u32 (U S) := hdep 27 (by kernel_rfl)
    have t27 : a.tmps[27]?.getD undef = .int .u32 (U S) := by simpa using s27
    have s32 : a.tmps.getD 32 undef = .int .u32 (U S) := hdep 32 (by kernel_rfl)
    have t32 : a.tmps[32]?.getD undef = .int .u32 (U S) := by simpa using s32
    rw [if_pos (Flow.wanted_none rfl)]
    clear hfr hdep
    go_simp
    exact hK _ _ (by unfold Pg; rw [if_neg (by decide)]; exact Gr.refl W) hinv (fun d hd => by cases hd; rfl)
  refine Flow.StepsBy.cons (fun a W hfr hinv hdep K hK => ?_) ?_
  · have s33 : a.tmps.getD 33 undef = .bool false := hdep 33 (by kernel_rfl)
    have t33 : a.tmps[33]?.getD undef = .bool false := by simpa using s33
    rw [if_pos (Flow.wanted_none rfl)]
    clear hfr hdep
    go_simp
    exact hK _ _ (by unfold Pg; rw [if_neg (by decide)]; exact Gr.refl W) hinv (fun d hd => by cases hd; rfl)
  refine Flow.StepsBy.cons (fun a W hfr hinv hdep K hK => ?_) ?_
  · have sg : a.tmps.getD 34 undef = .bool false := hdep 34 (by kernel_rfl)
    have s0 : a.tmps.getD 0 undef = .int .u64 (m : Int) := hfr.at 0 (by kernel_rfl)
    have t0 : a.tmps[0]?.getD undef = .int .u64 (m : Int) := by simpa using s0
    rw [if_pos (Flow.wanted_yes 7 false 34 rfl (by kernel_rfl) sg)]
    clear hfr hdep
    go_simp
    exact hK _ _ (by unfold Pg; rw [if_neg (by decide)]; exact Gr.refl W) hinv (fun d hd => by cases hd; rfl)
  refine Flow.StepsBy.cons (fun a W hfr hinv hdep K hK => ?_) ?_
  · have sg : a.tmps.getD 34 undef = .bool false := hdep 34 (by kernel_rfl)
    have s3 : a.tmps.getD 3 undef = .slice p n c := hfr.at 3 (by kernel_rfl)
    have t3 : a.tmps[3]?.getD undef = .slice p n c := by simpa using s3
    rw [if_pos (Flow.wanted_yes 7 false 34 rfl (by kernel_rfl) sg)]
    clear hfr hdep
    go_simp
    exact hK _ _ (by unfold Pg; rw [if_neg (by decide)]; exact Gr.refl W) hinv (fun d hd => by cases hd; rfl)
  refine Flow.StepsBy.cons (fun a W hfr hinv hdep K hK => ?_) ?_
  · have sg : a.tmps.getD 34 undef = .bool false := hdep 34 (by kernel_rfl)
    have s3 : a.tmps.getD 3 undef = .slice p n c := hfr.at 3 (by kernel_rfl)
    have t3 : a.tmps[3]?.getD undef = .slice p n c := by simpa using s3
    rw [if_pos (Flow.wanted_yes 7 false 34 rfl (by kernel_rfl) sg)]
    clear hfr hdep
    go_simp
    exact hK _ _ (by unfold Pg; rw [if_neg (by decide)]; exact Gr.refl W) hinv (fun d hd => by cases hd; rfl)
  refine Flow.StepsBy.cons (fun a W hfr hinv hdep K hK => ?_) ?_
  · have sg : a.tmps.getD 34 undef = .bool false := hdep 34 (by kernel_rfl)
    have s37 : a.tmps.getD 37 undef = .slice p n c := hdep 37 (by kernel_rfl)
    have t37 : a.tmps[37]?.getD undef = .slice p n c := by simpa using s37
    rw [if_pos (Flow.wanted_yes 7 false 34 rfl (by kernel_rfl) sg)]
    clear hfr hdep
    go_simp
    exact hK _ _ (by unfold Pg; rw [if_neg (by decide)]; exact Gr.refl W) hinv (fun d hd => by cases hd; rfl)
  refine Flow.StepsBy.cons (fun a W hfr hinv hdep K hK => ?_) ?_
  · have sg : a.tmps.getD 34 undef = .bool false := hdep 34 (by kernel_rfl)
    have s38 : a.tmps.getD 38 undef = .int .i64 (n : Int) := hdep 38 (by kernel_rfl)
    have t38 : a.tmps[38]?.getD undef = .int .i64 (n : Int) := by simpa using s38
    have hk1 := HK1.out
    rw [if_pos (Flow.wanted_yes 7 false 34 rfl (by kernel_rfl) sg)]
    clear hfr hdep
    go_simp
    exact hK _ _ (by unfold Pg; rw [if_neg (by decide)]; exact Gr.refl W) hinv (fun d hd => by cases hd; first | rfl | exact congrArg (Value.int .i64) HKW.out)
  refine Flow.StepsBy.cons (fun a W hfr hinv hdep K hK => ?_) ?_
  · have sg : a.tmps.getD 34 undef = .bool false := hdep 34 (by kernel_rfl)
    have s36 : a.tmps.getD 36 undef = .slice p n c := hdep 36 (by kernel_rfl)
    have t36 : a.tmps[36]?.getD undef = .slice p n c := by simpa using s36
    have s39 : a.tmps.getD 39 undef = .int .i64 (k : Int) := hdep 39 (by kernel_rfl)
    have t39 : a.tmps[39]?.getD undef = .int .i64 (k : Int) := by simpa using s39
    have hr1 := HQ1.out
    rw [if_pos (Flow.wanted_yes 7 false 34 rfl (by kernel_rfl) sg)]
    clear hfr hdep
    go_simp
    exact hK _ _ (by unfold Pg; rw [if_neg (by decide)]; exact Gr.refl W) hinv (fun d hd => by cases hd; rfl)
  refine Flow.StepsBy.cons (fun a W hfr hinv hdep K hK => ?_) ?_
  · have sg : a.tmps.getD 34 undef = .bool false := hdep 34 (by kernel_rfl)
    have s3 : a.tmps.getD 3 undef = .slice p n c := hfr.at 3 (by kernel_rfl)
    have t3 : a.tmps[3]?.getD undef = .slice p n c := by simpa using s3
    rw [if_pos (Flow.wanted_yes 7 false 34 rfl (by kernel_rfl) sg)]
    clear hfr hdep
    go_simp
    exact hK _ _ (by unfold Pg; rw [if_neg (by decide)]; exact Gr.refl W) hinv (fun d hd => by cases hd; rfl)
  refine Flow.StepsBy.cons (fun a W hfr hinv hdep K hK => ?_) ?_
  · have sg : a.tmps.getD 34 undef = .bool false := hdep 34 (by kernel_rfl)
    have s3 : a.tmps.getD 3 undef = .slice p n c := hfr.at 3 (by kernel_rfl)
    have t3 : a.tmps[3]?.getD undef = .slice p n c := by simpa using s3
    rw [if_pos (Flow.wanted_yes 7 false 34 rfl (by kernel_rfl) sg)]
    clear hfr hdep
    go_simp
    exact hK _ _ (by unfold Pg; rw [if_neg (by decide)]; exact Gr.refl W) hinv (fun d hd => by cases hd; rfl)
  refine Flow.StepsBy.cons (fun a W hfr hinv hdep K hK => ?_) ?_
  · have sg : a.tmps.getD 34 undef = .bool false := hdep 34 (by kernel_rfl)
    have s42 : a.tmps.getD 42 undef = .slice p n c := hdep 42 (by kernel_rfl)
    have t42 : a.tmps[42]?.getD undef = .slice p n c := by simpa using s42
    rw [if_pos (Flow.wanted_yes 7 false 34 rfl (by kernel_rfl) sg)]
    clear hfr hdep
    go_simp
    exact hK _ _ (by unfold Pg; rw [if_neg (by decide)]; exact Gr.refl W) hinv (fun d hd => by cases hd; rfl)
  refine Flow.StepsBy.cons (fun a W hfr hinv hdep K hK => ?_) ?_
  · have sg : a.tmps.getD 34 undef = .bool false := hdep 34 (by kernel_rfl)
    have s43 : a.tmps.getD 43 undef = .int .i64 (n : Int) := hdep 43 (by kernel_rfl)
    have t43 : a.tmps[43]?.getD undef = .int .i64 (n : Int) := by simpa using s43
    have hk1 := HK1.out
    rw [if_pos (Flow.wanted_yes 7 false 34 rfl (by kernel_rfl) sg)]
    clear hfr hdep
    go_simp
    exact hK _ _ (by unfold Pg; rw [if_neg (by decide)]; exact Gr.refl W) hinv (fun d hd => by cases hd; first | rfl | exact congrArg (Value.int .i64) HKW.out)
  refine Flow.StepsBy.cons (fun a W hfr hinv hdep K hK => ?_) ?_
  · have sg : a.tmps.getD 34 undef = .bool false := hdep 34 (by kernel_rfl)
    have s41 : a.tmps.getD 41 undef = .slice p n c := hdep 41 (by kernel_rfl)
    have t41 : a.tmps[41]?.getD undef = .slice p n c := by simpa using s41
    have s44 : a.tmps.getD 44 undef = .int .i64 (k : Int) := hdep 44 (by kernel_rfl)
    have t44 : a.tmps[44]?.getD undef = .int .i64 (k : Int) := by simpa using s44
    have hr2 := HQ2.out
    rw [if_pos (Flow.wanted_yes 7 false 34 rfl (by kernel_rfl) sg)]
    clear hfr hdep
    go_simp
    exact hK _ _ (by unfold Pg; rw [if_neg (by decide)]; exact Gr.refl W) hinv (fun d hd => by cases hd; rfl)
  refine Flow.StepsBy.cons (fun a W hfr hinv hdep K hK => ?_) ?_
  · have sg : a.tmps.getD 34 undef = .bool false := hdep 34 (by kernel_rfl)
    have s40 : a.tmps.getD 40 undef = .slice q1 k d1 := hdep 40 (by kernel_rfl)
    have t40 : a.tmps[40]?.getD undef = .slice q1 k d1 := by simpa using s40
    have s45 : a.tmps.getD 45 undef = .slice q2 (n - k) d2 := hdep 45 (by kernel_rfl)
    have t45 : a.tmps[45]?.getD undef = .slice q2 (n - k) d2 := by simpa using s45
    have HR := Lib.hid (Rows.two (t := 23) (HQ3.out W xs (HB3.out.kept hinv)).1 (HQ3.out W xs (HB3.out.kept hinv)).2 rfl)
    rw [if_pos (Flow.wanted_yes 7 false 34 rfl (by kernel_rfl) sg)]
    clear hfr hdep
    go_simp
    exact hK _ _ (by unfold Pg; rw [if_neg (by decide)]; exact gr_new W _) (Gr.trans hinv (gr_new W _)) (fun d hd => by cases hd; exact ⟨_, _, rfl, HR.out⟩)
  refine Flow.StepsBy.cons (fun a W hfr hinv hdep K hK => ?_) ?_
  · have sg : a.tmps.getD 34 undef = .bool false := hdep 34 (by kernel_rfl)
    have s35 : a.tmps.getD 35 undef = .int .u64 (m : Int) := hdep 35 (by kernel_rfl)
    have t35 : a.tmps[35]?.getD undef = .int .u64 (m : Int) := by simpa using s35
    have s46 : (∃ q d, a.tmps.getD 46 undef = .slice q 2 d ∧ Rows W q 2 d [xs.take k, xs.drop k]) := hdep 46 (by kernel_rfl)
    obtain ⟨q, e, e46, hr⟩ := s46
    have t46 : a.tmps[46]?.getD undef = .slice q 2 e := by simpa using e46
    have HR := Lib.hid hr
    rw [if_pos (Flow.wanted_yes 7 false 34 rfl (by kernel_rfl) sg)]
    clear hfr hdep
    go_simp
    refine (at_crc _ _ _ _ _ _ HM.out HR.out).mono ?_
    rintro e W' ⟨rfl, gg⟩
    exact hK _ _ (by unfold Pg; rw [if_neg (by decide)]; exact gg) (Gr.trans hinv gg) (fun d hd => by cases hd; exact congrArg (fun x => Value.int .u32 (U x)) HS2.out)
  refine Flow.StepsBy.cons (fun a W hfr hinv hdep K hK => ?_) ?_
  · have sg : a.tmps.getD 34 undef = .bool false := hdep 34 (by kernel_rfl)
    have s9 : a.tmps.getD 9 undef = .int .u32 (U S) := hfr.at 9 (by kernel_rfl)
    have t9 : a.tmps[9]?.getD undef = .int .u32 (U S) := by simpa using s9
    rw [if_pos (Flow.wanted_yes 7 false 34 rfl (by kernel_rfl) sg)]
    clear hfr hdep
    go_simp
    exact hK _ _ (by unfold Pg; rw [if_neg (by decide)]; exact Gr.refl W) hinv (fun d hd => by cases hd; rfl)
  refine Flow.StepsBy.cons (fun a W hfr hinv hdep K hK => ?_) ?_
  · have sg : a.tmps.getD 34 undef = .bool false := hdep 34 (by kernel_rfl)
    have s47 : a.tmps.getD 47 undef = .int .u32 (U S) := hdep 47 (by kernel_rfl)
    have t47 : a.tmps[47]?.getD undef = .int .u32 (U S) := by simpa using s47
    have s48 : a.tmps.getD 48 undef = .int .u32 (U S) := hdep 48 (by kernel_rfl)
    have t48 : a.tmps[48]?.getD undef = .int .u32 (U S) := by simpa using s48
    rw [if_pos (Flow.wanted_yes 7 false 34 rfl (by kernel_rfl) sg)]
    clear hfr hdep
    go_simp
    exact hK _ _ (by unfold Pg; rw [if_neg (by decide)]; exact Gr.refl W) hinv (fun d hd => by cases hd; rfl)
  refine Flow.StepsBy.cons (fun a W hfr hinv hdep K hK => ?_) ?_
  · have s34 : a.tmps.getD 34 undef = .bool false := hdep 34 (by kernel_rfl)
    have t34 : a.tmps[34]?.getD undef = .bool false := by simpa using s34
    have s49 : a.tmps.getD 49 undef = .bool false := hdep 49 (by kernel_rfl)
    have t49 : a.tmps[49]?.getD undef = .bool false := by simpa using s49
    rw [if_pos (Flow.wanted_none rfl)]
    clear hfr hdep
    go_simp
    exact hK _ _ (by unfold Pg; rw [if_neg (by decide)]; exact Gr.refl W) hinv (fun d hd => by cases hd; rfl)
  exact trivial

set_option maxRecDepth 100000 in
set_option maxHeartbeats 1600000 in
theorem sumsPlaces_out (m : Int) (f : Int) (sh : Int) (p : Option Addr) (n c : Nat) (w : World) (hn : (n : Int) ≤ 9223372036854775807) (h : 3000 < (n : Int) ∨ sh < 0 ∨ 32 < sh) : Calls Try.prog 4 #[.int .u64 m, .int .u32 f, .int .i64 sh, .slice p n c] w fun e w' => e = .returned (.bool true) ∧ Gr w w' := by
  have hb' : ¬ (((n : Int) ≤ 3000 ∧ 0 ≤ sh) ∧ sh ≤ 32) := by omega
  clear h
  go_enter Try.func4, Try.ntmps4
  go_wp2_with fail
  all_goals
    refine (known_any _).mono ?_
    rintro e w1 ⟨rfl, g1⟩
    have HG1 := Lib.hid g1
    clear g1
    go_wp2_with fail
    go_ret
    exact ⟨rfl, HG1.out⟩

/-- SumsPlaces is true of any input. -/
theorem sumsPlaces_int (m f sh : Int) (p : Option Addr) (n c : Nat) (xs : List Int) (w : World) (hm : 0 ≤ m ∧ m ≤ 18446744073709551615) (hf : 0 ≤ f ∧ f < 4294967296) (hs : -9223372036854775808 ≤ sh ∧ sh ≤ 9223372036854775807) (h : Byt w p n c xs) : Calls Try.prog 4 #[.int .u64 m, .int .u32 f, .int .i64 sh, .slice p n c] w fun e w' => e = .returned (.bool true) ∧ Gr w w' := by
  by_cases hk : n ≤ 3000 ∧ 0 ≤ sh ∧ sh ≤ 32
  · obtain ⟨M, rfl⟩ := Int.eq_ofNat_of_zero_le hm.1
    obtain ⟨s, rfl⟩ := Int.eq_ofNat_of_zero_le hk.2.1
    rw [← U_of f hf.1 hf.2]
    exact sumsPlaces_in M _ s p n c xs w (by omega) (by omega) hk.1 h
  · have hn63 : n ≤ 9223372036854775807 := by have := h.cap; have := h.most; unfold maxLen at this; omega
    exact sumsPlaces_out m f sh p n c w (by omega) (by omega)

end Go.Proofs.Ytmmhfjcaejkmiaa
