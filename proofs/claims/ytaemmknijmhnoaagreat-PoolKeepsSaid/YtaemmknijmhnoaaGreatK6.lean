/-
  Texts, put together: SortLay Loose Rets Pool2 Ref1 Ref2 Hex1 Hex2 Hex3 Hex4 Lists Join.
-/
import Derived.Shelf.SlIterI.Nil
import Derived.Shelf.SortM.Plain
import Derived.Shelf.SortM.SortNone
import Derived.Test.YtaemmknijmhnoaaGreatProg
import Derived.Test.YtaemmknijmhnoaaGreatK1
import Derived.Test.YtaemmknijmhnoaaGreatK2
import Derived.Test.YtaemmknijmhnoaaGreatK3
import Derived.Test.YtaemmknijmhnoaaGreatK5
set_option linter.unusedVariables false
set_option linter.unusedSimpArgs false
/-
  The library's sort and its iterators: the numbers of this program's functions and types, and the kernel's comparison of their bodies.
-/
namespace Go.Proofs.YtaemmknijmhnoaaGreat
open Go.Shelf
def Shl.keysA_ren : Go.Shelf.Ren := ⟨fun | 7 => 58 | 10 => 83 | n => n, fun | 23 => 110 | 26 => 3 | 3 => 50 | 28 => 115 | 0 => 0 | 27 => 114 | 33 => 107 | 4 => 4 | n => n, fun | n => n⟩
theorem Shl.keysA : Go.Proofs.SlLaysZI.n7 Tryz.prog Shl.keysA_ren := {
  mixed := by kernel_rfl
  f7 := ⟨Tryz.f58.name, by decide, Tryz.func58.trans (congrArg some (by kernel_rfl))⟩
  f10 := ⟨Tryz.f83.name, by decide, Tryz.func83.trans (congrArg some (by kernel_rfl))⟩
  t0 := Tryz.underlying0
  a0 := Tryz.isAgg0
  z0 := Tryz.sizeOf0
  v0 := Tryz.zeroValue0
  t4 := Tryz.underlying4
  a4 := Tryz.isAgg4
  z4 := Tryz.sizeOf4
  v4 := Tryz.zeroValue4
  t23 := Tryz.underlying110
  a23 := Tryz.isAgg110
  z23 := Tryz.sizeOf110
  v23 := Tryz.zeroValue110
  t26 := Tryz.underlying3
  a26 := Tryz.isAgg3
  z26 := Tryz.sizeOf3
  v26 := Tryz.zeroValue3
  t27 := Tryz.underlying114
  a27 := Tryz.isAgg114
  z27 := Tryz.sizeOf114
  v27 := Tryz.zeroValue114
  t28 := Tryz.underlying115
  a28 := Tryz.isAgg115
  z28 := Tryz.sizeOf115
  v28 := Tryz.zeroValue115
  t33 := Tryz.underlying107
  a33 := Tryz.isAgg107
  z33 := Tryz.sizeOf107
  v33 := Tryz.zeroValue107 }
def Shl.sortedA_ren : Go.Shelf.Ren := ⟨fun | 6 => 57 | 8 => 81 | 9 => 82 | 11 => 95 | 13 => 97 | 12 => 96 | 23 => 123 | 24 => 124 | 14 => 114 | 15 => 115 | 16 => 116 | 17 => 117 | 18 => 118 | 19 => 119 | 20 => 120 | 21 => 121 | 22 => 122 | 25 => 143 | 26 => 144 | 27 => 145 | 28 => 146 | 29 => 147 | 30 => 148 | 31 => 161 | n => n, fun | 26 => 3 | 28 => 115 | 24 => 55 | 0 => 0 | 3 => 3 | 37 => 109 | 48 => 167 | 50 => 36 | 4 => 4 | 40 => 173 | 39 => 172 | 45 => 178 | 5 => 5 | 9 => 9 | 51 => 197 | 55 => 200 | 57 => 218 | 58 => 219 | 33 => 107 | n => n, fun | n => n⟩
theorem Shl.sortedA : Go.Proofs.SlLaysZI.n6 Tryz.prog Shl.sortedA_ren := {
  mixed := by kernel_rfl
  f6 := ⟨Tryz.f57.name, by decide, Tryz.func57.trans (congrArg some (by kernel_rfl))⟩
  f8 := ⟨Tryz.f81.name, by decide, Tryz.func81.trans (congrArg some (by kernel_rfl))⟩
  f11 := ⟨Tryz.f95.name, by decide, Tryz.func95.trans (congrArg some (by kernel_rfl))⟩
  t0 := Tryz.underlying0
  a0 := Tryz.isAgg0
  z0 := Tryz.sizeOf0
  v0 := Tryz.zeroValue0
  t24 := Tryz.underlying55
  a24 := Tryz.isAgg55
  z24 := Tryz.sizeOf55
  v24 := Tryz.zeroValue55
  t26 := Tryz.underlying3
  a26 := Tryz.isAgg3
  z26 := Tryz.sizeOf3
  v26 := Tryz.zeroValue3
  t28 := Tryz.underlying115
  a28 := Tryz.isAgg115
  z28 := Tryz.sizeOf115
  v28 := Tryz.zeroValue115
  i26 := by kernel_rfl }
def Shl.sortA_ren : Go.Shelf.Ren := ⟨fun | 5 => 82 | 8 => 97 | 7 => 96 | 19 => 123 | 20 => 124 | 10 => 114 | 11 => 115 | 12 => 116 | 13 => 117 | 14 => 118 | 15 => 119 | 16 => 120 | 17 => 121 | 18 => 122 | 30 => 143 | 31 => 144 | 32 => 145 | 33 => 146 | 34 => 147 | 35 => 148 | 40 => 161 | n => n, fun | 23 => 55 | 25 => 3 | 3 => 3 | 32 => 109 | 22 => 55 | 0 => 0 | 44 => 167 | 46 => 36 | 4 => 4 | 36 => 173 | 35 => 172 | 41 => 178 | 5 => 5 | 9 => 9 | 53 => 197 | 57 => 200 | 63 => 218 | 64 => 219 | n => n, fun | n => n⟩
theorem Shl.sortA : Go.Proofs.SlLaysM.n5 Tryz.prog Shl.sortA_ren := {
  mixed := by kernel_rfl
  f5 := ⟨Tryz.f82.name, by decide, Tryz.func82.trans (congrArg some (by kernel_rfl))⟩
  f7 := ⟨Tryz.f96.name, by decide, Tryz.func96.trans (congrArg some (by kernel_rfl))⟩
  f8 := Tryz.func97.trans (congrArg some (by kernel_rfl))
  f10 := ⟨Tryz.f114.name, by decide, Tryz.func114.trans (congrArg some (by kernel_rfl))⟩
  f11 := ⟨Tryz.f115.name, by decide, Tryz.func115.trans (congrArg some (by kernel_rfl))⟩
  f12 := ⟨Tryz.f116.name, by decide, Tryz.func116.trans (congrArg some (by kernel_rfl))⟩
  f13 := ⟨Tryz.f117.name, by decide, Tryz.func117.trans (congrArg some (by kernel_rfl))⟩
  f14 := ⟨Tryz.f118.name, by decide, Tryz.func118.trans (congrArg some (by kernel_rfl))⟩
  f15 := ⟨Tryz.f119.name, by decide, Tryz.func119.trans (congrArg some (by kernel_rfl))⟩
  f16 := ⟨Tryz.f120.name, by decide, Tryz.func120.trans (congrArg some (by kernel_rfl))⟩
  f17 := ⟨Tryz.f121.name, by decide, Tryz.func121.trans (congrArg some (by kernel_rfl))⟩
  f18 := ⟨Tryz.f122.name, by decide, Tryz.func122.trans (congrArg some (by kernel_rfl))⟩
  f19 := Tryz.func123.trans (congrArg some (by kernel_rfl))
  f20 := Tryz.func124.trans (congrArg some (by kernel_rfl))
  f30 := ⟨Tryz.f143.name, by decide, Tryz.func143.trans (congrArg some (by kernel_rfl))⟩
  f31 := Tryz.func144.trans (congrArg some (by kernel_rfl))
  f32 := Tryz.func145.trans (congrArg some (by kernel_rfl))
  f33 := ⟨Tryz.f146.name, by decide, Tryz.func146.trans (congrArg some (by kernel_rfl))⟩
  f34 := ⟨Tryz.f147.name, by decide, Tryz.func147.trans (congrArg some (by kernel_rfl))⟩
  f35 := ⟨Tryz.f148.name, by decide, Tryz.func148.trans (congrArg some (by kernel_rfl))⟩
  f40 := ⟨Tryz.f161.name, by decide, Tryz.func161.trans (congrArg some (by kernel_rfl))⟩
  t0 := Tryz.underlying0
  a0 := Tryz.isAgg0
  z0 := Tryz.sizeOf0
  v0 := Tryz.zeroValue0
  t3 := Tryz.underlying3
  a3 := Tryz.isAgg3
  z3 := Tryz.sizeOf3
  v3 := Tryz.zeroValue3
  t4 := Tryz.underlying4
  a4 := Tryz.isAgg4
  z4 := Tryz.sizeOf4
  v4 := Tryz.zeroValue4
  t5 := Tryz.underlying5
  a5 := Tryz.isAgg5
  z5 := Tryz.sizeOf5
  v5 := Tryz.zeroValue5
  t9 := Tryz.underlying9
  a9 := Tryz.isAgg9
  z9 := Tryz.sizeOf9
  v9 := Tryz.zeroValue9
  t22 := Tryz.underlying55
  a22 := Tryz.isAgg55
  z22 := Tryz.sizeOf55
  v22 := Tryz.zeroValue55
  t23 := Tryz.underlying55
  a23 := Tryz.isAgg55
  z23 := Tryz.sizeOf55
  v23 := Tryz.zeroValue55
  t25 := Tryz.underlying3
  a25 := Tryz.isAgg3
  z25 := Tryz.sizeOf3
  v25 := Tryz.zeroValue3
  t32 := Tryz.underlying109
  a32 := Tryz.isAgg109
  z32 := Tryz.sizeOf109
  v32 := Tryz.zeroValue109
  t35 := Tryz.underlying172
  a35 := Tryz.isAgg172
  z35 := Tryz.sizeOf172
  v35 := Tryz.zeroValue172
  t36 := Tryz.underlying173
  a36 := Tryz.isAgg173
  z36 := Tryz.sizeOf173
  v36 := Tryz.zeroValue173
  t41 := Tryz.underlying178
  a41 := Tryz.isAgg178
  z41 := Tryz.sizeOf178
  v41 := Tryz.zeroValue178
  t44 := Tryz.underlying167
  a44 := Tryz.isAgg167
  z44 := Tryz.sizeOf167
  v44 := Tryz.zeroValue167
  t46 := Tryz.underlying36
  a46 := Tryz.isAgg36
  z46 := Tryz.sizeOf36
  v46 := Tryz.zeroValue36
  t53 := Tryz.underlying197
  a53 := Tryz.isAgg197
  z53 := Tryz.sizeOf197
  v53 := Tryz.zeroValue197
  t57 := Tryz.underlying200
  a57 := Tryz.isAgg200
  z57 := Tryz.sizeOf200
  v57 := Tryz.zeroValue200
  t63 := Tryz.underlying218
  a63 := Tryz.isAgg218
  z63 := Tryz.sizeOf218
  v63 := Tryz.zeroValue218
  t64 := Tryz.underlying219
  a64 := Tryz.isAgg219
  z64 := Tryz.sizeOf219
  v64 := Tryz.zeroValue219 }

end Go.Proofs.YtaemmknijmhnoaaGreat

/-
  The sectors of which something does not last yet, rising.
-/
namespace Go.Proofs.YtaemmknijmhnoaaGreat
open Go.RowKit Go.Maps Go.Sort Go.Shelf

/-- The sectors that lie loose. -/
def St.loose (s : St) : List Nat := (List.range s.ls.length).filter fun i => !(s.t i).isEmpty
theorem St.mem_loose {s : St} {i : Nat} : i ∈ s.loose ↔ i < s.ls.length ∧ s.t i ≠ [] := by
  unfold St.loose
  rw [List.mem_filter, List.mem_range]
  cases s.t i <;> simp

/-- A slice of numbers of the call's own. -/
def Ints (w : World) (base : Nat) (v : Value) (xs : List Nat) : Prop := w.ownsRow base TI 1 v xs.length (xs.map fun (x : Nat) => Value.int .i64 (x : Int))

theorem keys_any (mb : Option Nat) (w : World) : Calls Tryz.prog 58 #[.map mb] w fun e w' => e = .returned (.func (.func 83) #[] #[.pointer (some ⟨w.heap.size, 0, none⟩)]) ∧ w.alloc (.cells #[.map mb] TM) = w' := by
  have h := (callsIn_wide (n := 5)).1 (AnyZI.keys_in Shl.keysA Fence.wide 5 trivial rfl mb w)
  exact Calls.mono (P := Tryz.prog) h fun e w' ⟨h1, h2⟩ => ⟨h1, h2.symm⟩

theorem sortsA (m : Nat) : AnyZI.SortsIn Tryz.prog Shl.sortedA_ren Fence.wide m :=
  ⟨fun blk off cap ss W hH hblk hsz => callsIn_wide.2 (AnyM.slices_Sort_int Shl.sortA blk off cap ss W hH hblk hsz),
   fun p cap W => callsIn_wide.2 (AnyM.slices_Sort_int_none Shl.sortA p cap W)⟩

/-- Numbers in their order. -/
theorem sorted_nats {xs : List Nat} (hp : xs.Pairwise (· < ·)) {D : DataW Value} {w : World} {b n : Nat} (hown : w.ownsMap Tryz.prog TI eltR b n D) (hm : ∀ x : Nat, x ∈ xs ↔ has D (key x) = true) (hk : ∀ k, has D k = true → ∃ x : Nat, k = key x) {ss : List Int} (hs : ss.Perm (intKeys D)) :
    (ss.mergeSort fun x y => decide (x ≤ y)) = xs.map fun (x : Nat) => (x : Int) := by
  obtain ⟨es, hD, hpw, hlit⟩ := hown.entries (int_keyed Tryz.underlying3)
  subst hD
  have hk2 : ∀ p ∈ es, ∃ x, p.1 = .int .i64 x := fun p hp => by
    obtain ⟨x, hx⟩ := hk p.1 (by rw [has_eq, List.any_eq_true]; exact ⟨p, hp, WideAt.sameKey_self (hlit p hp)⟩)
    exact ⟨_, hx⟩
  have hnd : (xs.map fun (x : Nat) => (x : Int)).Nodup := List.pairwise_map.2 (hp.imp fun h e => by omega)
  have hper : (xs.map fun (x : Nat) => (x : Int)).Perm (intKeys (.map es)) := perm_intKeys hpw hk2 hnd fun x => by
    rw [List.mem_map]
    constructor
    · rintro ⟨y, hy, rfl⟩
      exact (hm y).1 hy
    · intro h
      obtain ⟨y, hy⟩ := hk _ h
      unfold key at hy
      simp only [Lit.int.injEq, true_and] at hy
      subst hy
      exact ⟨y, (hm y).2 h, rfl⟩
  have e1 : (ss.mergeSort fun x y => decide (x ≤ y)) = ((xs.map fun (x : Nat) => (x : Int)).mergeSort fun x y => decide (x ≤ y)) := mergeSort_of_perm_i (hs.trans hper.symm)
  rw [e1]
  refine List.mergeSort_of_pairwise (List.pairwise_map.2 (hp.imp fun h => ?_))
  simp only [decide_eq_true_eq]
  omega

set_option maxHeartbeats 1000000 in
theorem sorted_any (B b nn : Nat) (D : DataW Value) (w : World) (hB : B < w.heap.size) (hm : w.cell? ⟨B, 0, none⟩ = some (.map (some b))) (hown : w.ownsMap Tryz.prog TI eltR b nn D) (hn : nn ≤ 10000000000) :
    Calls Tryz.prog 57 #[.func (.func 83) #[] #[.pointer (some ⟨B, 0, none⟩)]] w fun e w' => ∃ (v : Value) (ss : List Int), e = .returned v ∧ ss.Perm (intKeys D) ∧
      w'.ownsRow w.heap.size TI 1 v ss.length ((ss.mergeSort (fun x y => decide (x ≤ y))).map encZ) ∧ (v = .slice none 0 0 ↔ ss = []) ∧ Below w.heap.size w w' := by
  refine (callsIn_wide (n := 6)).1 ?_
  have hsz := hown.size_le
  have hseq : SeqGives Fence.wide 3 Tryz.prog 83 #[.pointer (some ⟨B, 0, none⟩)] encZ (fun ss => ss.Perm (intKeys D)) (Maps.size D) w :=
    AnyZI.keys_gives (ρ := Shl.keysA_ren) { Shl.keysA with } Fence.wide _ trivial rfl (by omega) B b nn D w hB hm hown
  exact AnyZI.sorted_in Shl.sortedA Fence.wide 6 trivial trivial trivial trivial rfl (by omega) (sortsA _) (enters_of Tryz.func82 (by kernel_rfl) rfl) 83 #[.pointer (some ⟨B, 0, none⟩)] trivial (enters_of Tryz.func83 (by kernel_rfl) rfl) _ (Maps.size D) (by unfold maxLen; omega) (by omega) w hseq

/-- Answers of Loose. -/
def RetLoose (xs : List Nat) (w : World) (e : Ending) (w' : World) : Prop := ∃ v, e = .returned v ∧ Ints w' w.heap.size v xs ∧ Gr w w'

set_option maxRecDepth 100000 in
set_option maxHeartbeats 1000000 in
theorem Loose_any {F : Nat → Prop} {p : Value} {s : St} (w : World) (h : Dk w F p s) (hw : s.writes ≤ 1000000000) : Calls Tryz.prog 31 #[p] w fun e w' => RetLoose s.loose w e w' := by
  obtain ⟨b, lv, m, L, rfl, h⟩ := h
  have HM := Lib.hid (missing_no w h)
  obtain ⟨h0, h1, h2, h3, h4⟩ := h.cells
  obtain ⟨D, n, ho, hn, hat, hhas, hkeys⟩ := h.map
  have hk : Gr w (w.alloc (.cells #[.map (some m)] TM)) := (Gr.refl w).alloc (Nat.le_refl _) _
  have HS := Lib.hid (sorted_any w.heap.size m n D (w.alloc (.cells #[.map (some m)] TM)) (by simp) ((Blk.new w TM #[.map (some m)]).cell 0) (ho.alloc _) (by omega))
  have HO : Hid (∀ ss : List Int, ss.Perm (intKeys D) → (ss.mergeSort fun x y => decide (x ≤ y)) = s.loose.map fun (x : Nat) => (x : Int)) := Lib.hid fun ss hs =>
    sorted_nats (by unfold St.loose; exact List.Pairwise.filter _ List.pairwise_lt_range) ho (fun x => by
      rw [St.mem_loose]
      constructor
      · intro ⟨hx, ht⟩
        exact (hhas x hx).2 ht
      · intro hx
        obtain ⟨i, hi, e⟩ := hkeys _ hx
        rw [key_inj e]
        rw [key_inj e] at hx
        exact ⟨hi, (hhas i hi).1 hx⟩) (fun k hk => let ⟨i, _, e⟩ := hkeys k hk; ⟨i, e⟩) hs
  have HG := Lib.hid hk
  clear h h0 h2 h3 h4 ho hn hat hhas hkeys hk hw
  go_enter Tryz.func31, Tryz.ntmps31
  go_wp2_with fail
  refine HM.out.mono ?_
  rintro e w1 ⟨rfl, rfl⟩
  go_wp2_with fail
  refine (keys_any _ _).mono ?_
  rintro e w1 ⟨rfl, rfl⟩
  go_wp2_with fail
  refine HS.out.mono ?_
  rintro e w1 ⟨v, ss, rfl, hss, hrow, _, hb⟩
  have HRow := Lib.hid hrow
  have HB := Lib.hid (Gr.trans HG.out hb)
  have HE := Lib.hid (HO.out ss hss)
  have HLen : Hid (ss.length = s.loose.length) := Lib.hid (by have := congrArg List.length (HO.out ss hss); rw [List.length_mergeSort, List.length_map] at this; exact this)
  clear hrow hb hss HS HO HG
  go_wp2_with fail
  go_ret
  refine ⟨_, rfl, ?_, HB.out⟩
  have hr := HRow.out
  rw [HE.out, HLen.out, List.map_map] at hr
  unfold Ints
  obtain ⟨hr1, hr2⟩ := hr
  refine ⟨hr1, hr2.imp id ?_⟩
  rintro ⟨g, cap, cur, h1, h2, h3⟩
  exact ⟨g, cap, cur, h1, by simp at h2; omega, h3⟩

end Go.Proofs.YtaemmknijmhnoaaGreat

/-
  Answers, and worlds that have grown by a block or two. Over whatever program.
-/
namespace Go.Proofs.YtaemmknijmhnoaaGreat
open Go.RowKit

def RetB (b : Bool) (w : World) (en : Ending) (w' : World) : Prop := en = .returned (.bool b) ∧ Gr w w'
def RetI (i : Int) (w : World) (en : Ending) (w' : World) : Prop := en = .returned (.int .i64 i) ∧ Gr w w'
theorem grow2 {w w1 : World} {o o' : Obj} (g : Gr ((w.alloc o).alloc o') w1) : Gr w w1 := Gr.trans (((Gr.refl w).alloc (Nat.le_refl _) _).alloc (by simp) _) g
theorem grow1 {w w1 : World} {o : Obj} (g : Gr (w.alloc o) w1) : Gr w w1 := Gr.trans ((Gr.refl w).alloc (Nat.le_refl _) _) g
theorem lt_of_new {w w1 : World} {o : Obj} (g : Gr (w.alloc o) w1) : w.heap.size < w1.heap.size := by have := g.size; simp at this; omega

end Go.Proofs.YtaemmknijmhnoaaGreat

/-
  The code's pool: which pages are in memory; what only looks.
-/
namespace Go.Proofs.YtaemmknijmhnoaaGreat
open Go.RowKit Go.Maps Go.Shelf

def Shl.keysP_ren : Go.Shelf.Ren := ⟨fun | 7 => 80 | 10 => 94 | n => n, fun | 23 => 78 | 26 => 3 | 3 => 87 | 28 => 115 | 0 => 0 | 27 => 114 | 33 => 107 | 4 => 4 | n => n, fun | n => n⟩
theorem Shl.keysP : Go.Proofs.SlLaysZI.n7 Tryz.prog Shl.keysP_ren := {
  mixed := by kernel_rfl
  f7 := ⟨Tryz.f80.name, by decide, Tryz.func80.trans (congrArg some (by kernel_rfl))⟩
  f10 := ⟨Tryz.f94.name, by decide, Tryz.func94.trans (congrArg some (by kernel_rfl))⟩
  t0 := Tryz.underlying0
  a0 := Tryz.isAgg0
  z0 := Tryz.sizeOf0
  v0 := Tryz.zeroValue0
  t4 := Tryz.underlying4
  a4 := Tryz.isAgg4
  z4 := Tryz.sizeOf4
  v4 := Tryz.zeroValue4
  t23 := Tryz.underlying78
  a23 := Tryz.isAgg78
  z23 := Tryz.sizeOf78
  v23 := Tryz.zeroValue78
  t26 := Tryz.underlying3
  a26 := Tryz.isAgg3
  z26 := Tryz.sizeOf3
  v26 := Tryz.zeroValue3
  t27 := Tryz.underlying114
  a27 := Tryz.isAgg114
  z27 := Tryz.sizeOf114
  v27 := Tryz.zeroValue114
  t28 := Tryz.underlying115
  a28 := Tryz.isAgg115
  z28 := Tryz.sizeOf115
  v28 := Tryz.zeroValue115
  t33 := Tryz.underlying107
  a33 := Tryz.isAgg107
  z33 := Tryz.sizeOf107
  v33 := Tryz.zeroValue107 }
theorem pkeys_any (mb : Option Nat) (w : World) : Calls Tryz.prog 80 #[.map mb] w fun e w' => e = .returned (.func (.func 94) #[] #[.pointer (some ⟨w.heap.size, 0, none⟩)]) ∧ w.alloc (.cells #[.map mb] TPm) = w' := by
  have h := (callsIn_wide (n := 5)).1 (AnyZI.keys_in Shl.keysP Fence.wide 5 trivial rfl mb w)
  exact Calls.mono (P := Tryz.prog) h fun e w' ⟨h1, h2⟩ => ⟨h1, h2.symm⟩

set_option maxHeartbeats 1000000 in
theorem psorted_any (B b nn : Nat) (D : DataW Value) (w : World) (hB : B < w.heap.size) (hm : w.cell? ⟨B, 0, none⟩ = some (.map (some b))) (hown : w.ownsMap Tryz.prog TI eltR b nn D) (hn : nn ≤ 10000000000) :
    Calls Tryz.prog 57 #[.func (.func 94) #[] #[.pointer (some ⟨B, 0, none⟩)]] w fun e w' => ∃ (v : Value) (ss : List Int), e = .returned v ∧ ss.Perm (intKeys D) ∧
      w'.ownsRow w.heap.size TI 1 v ss.length ((ss.mergeSort (fun x y => decide (x ≤ y))).map encZ) ∧ (v = .slice none 0 0 ↔ ss = []) ∧ Below w.heap.size w w' := by
  refine (callsIn_wide (n := 6)).1 ?_
  have hsz := hown.size_le
  have hseq : SeqGives Fence.wide 3 Tryz.prog 94 #[.pointer (some ⟨B, 0, none⟩)] encZ (fun ss => ss.Perm (intKeys D)) (Maps.size D) w :=
    AnyZI.keys_gives (ρ := Shl.keysP_ren) { Shl.keysP with } Fence.wide _ trivial rfl (by omega) B b nn D w hB hm hown
  exact AnyZI.sorted_in Shl.sortedA Fence.wide 6 trivial trivial trivial trivial rfl (by omega) (sortsA _) (enters_of Tryz.func82 (by kernel_rfl) rfl) 94 #[.pointer (some ⟨B, 0, none⟩)] trivial (enters_of Tryz.func94 (by kernel_rfl) rfl) _ (Maps.size D) (by unfold maxLen; omega) (by omega) w hseq


/-- The pool as the mathematics has it: which frames, how many of them, whether it is held, where the hand is. -/
structure Pl where
  most : Int
  held : Bool
  hand : Int
  fr : Nat → Option PFr
/-- The pages in memory, rising. -/
def Pl.pages (P : Pl) : List Nat := (List.range 65536).filter fun i => (P.fr i).isSome
def Pl.clean (P : Pl) (i : Nat) : Bool := match P.fr i with | none => true | some f => !f.dirty
/-- It lies in block b; its map in m; page i's frame in block B i. -/
structure PlAt (w : World) (b : Nat) (pd pl : Value) (m n : Nat) (B : Nat → Option Nat) (P : Pl) : Prop where
  blk : Blk w b TPl #[pd, pl, .int .i64 P.most, .bool P.held, .map (some m), .int .i64 P.hand]
  map : Fm w m n B
  most : n ≤ 1000000000
  has : ∀ i, B i = none ↔ P.fr i = none
  frs : ∀ i c, B i = some c → ∃ f, P.fr i = some f ∧ Blk w c TFr f.cells ∧ f.In
  inj : ∀ i j c, B i = some c → B j = some c → i = j
  dsk : ∃ d, pd = .pointer (some ⟨d, 0, none⟩)
  lg : ∃ l, pl = .pointer (some ⟨l, 0, none⟩)
/-- The blocks that it lies in. -/
def plS (b m : Nat) (B : Nat → Option Nat) (k : Nat) : Prop := k = b ∨ k = m ∨ ∃ i, B i = some k
section
variable {w w' : World} {b m n : Nat} {pd pl : Value} {B : Nat → Option Nat} {P : Pl}
theorem PlAt.low (h : PlAt w b pd pl m n B P) : ∀ k, plS b m B k → k < w.heap.size := by
  rintro k (rfl | rfl | ⟨i, hi⟩)
  · exact h.blk.lt
  · exact h.map.lt
  · obtain ⟨f, _, h2, _⟩ := h.frs i k hi
    exact h2.lt
theorem PlAt.stays (h : PlAt w b pd pl m n B P) (e : ∀ k, plS b m B k → w'.heap[k]? = w.heap[k]?) : PlAt w' b pd pl m n B P :=
  ⟨h.blk.stays (e b (.inl rfl)), h.map.stays (e m (.inr (.inl rfl))), h.most, h.has, fun i c hc => by
    obtain ⟨f, h1, h2, h3⟩ := h.frs i c hc
    exact ⟨f, h1, h2.stays (e c (.inr (.inr ⟨i, hc⟩))), h3⟩, h.inj, h.dsk, h.lg⟩
theorem PlAt.gr (h : PlAt w b pd pl m n B P) (g : Gr w w') : PlAt w' b pd pl m n B P := h.stays fun k hk => g.block k (h.low k hk)
theorem PlAt.c6 (h : PlAt w b pd pl m n B P) : w.cell? ⟨b, 0, none⟩ = some pd ∧ w.cell? ⟨b, 1, none⟩ = some pl ∧ w.cell? ⟨b, 2, none⟩ = some (.int .i64 P.most) ∧ w.cell? ⟨b, 3, none⟩ = some (.bool P.held) ∧ w.cell? ⟨b, 4, none⟩ = some (.map (some m)) ∧ w.cell? ⟨b, 5, none⟩ = some (.int .i64 P.hand) :=
  ⟨h.blk.cell 0, h.blk.cell 1, h.blk.cell 2, h.blk.cell 3, h.blk.cell 4, h.blk.cell 5⟩
theorem Pl.mem_pages (P : Pl) (i : Nat) : i ∈ P.pages ↔ i < 65536 ∧ P.fr i ≠ none := by
  unfold Pl.pages
  rw [List.mem_filter, List.mem_range, Option.isSome_iff_ne_none]
set_option maxRecDepth 100000 in
theorem pmissing_no (h : PlAt w b pd pl m n B P) : Calls Tryz.prog 48 #[.pointer (some ⟨b, 0, none⟩)] w fun e w' => e = .returned (.bool false) ∧ w = w' := by
  obtain ⟨d, rfl⟩ := h.dsk
  have c0 := h.c6.1
  clear h
  go_enter Tryz.func48, Tryz.ntmps48
  go_wp2_with fail
  go_ret
  exact ⟨rfl, rfl⟩
set_option maxRecDepth 100000 in
theorem pclean_any (h : PlAt w b pd pl m n B P) (i : Nat) (hi : i < 65536) : Calls Tryz.prog 53 #[.pointer (some ⟨b, 0, none⟩), .int .i64 (i : Int)] w fun e w' => e = .returned (.bool (P.clean i)) ∧ w = w' := by
  have c4 := h.c6.2.2.2.2.1
  have hl := h.map.look i hi
  cases hB : B i with
  | none =>
    have hc : P.clean i = true := by unfold Pl.clean; rw [(h.has i).1 hB]
    rw [hc]
    rw [hB] at hl
    have hl2 : (Instr.lookup TPm (.map (some m)) (.int .i64 (i : Int)) false).run Tryz.prog w = .ok (.pointer none) w := hl
    clear h hc hB hl
    go_enter Tryz.func53, Tryz.ntmps53
    go_wp2_with fail
    go_ret
    exact ⟨rfl, rfl⟩
  | some c =>
    obtain ⟨f, h1, h2, _⟩ := h.frs i c hB
    have hc : P.clean i = !f.dirty := by unfold Pl.clean; rw [h1]
    obtain ⟨x, hx⟩ : ∃ x, x = f.dirty := ⟨_, rfl⟩
    rw [hc, ← hx]
    rw [hB] at hl
    have hl2 : (Instr.lookup TPm (.map (some m)) (.int .i64 (i : Int)) false).run Tryz.prog w = .ok (.pointer (some ⟨c, 0, none⟩)) w := hl
    have k3 := (PFr.c4 h2).2.2.1
    rw [← hx] at k3
    clear h hc hB hl h1 h2 hx
    go_enter Tryz.func53, Tryz.ntmps53
    go_wp2_with fail
    go_ret
    exact ⟨rfl, rfl⟩
set_option maxRecDepth 100000 in
set_option maxHeartbeats 1000000 in
/-- The pages in memory, rising. -/
theorem ppages_any (h : PlAt w b pd pl m n B P) (hin : ∀ i, 65536 ≤ i → P.fr i = none) : Calls Tryz.prog 52 #[.pointer (some ⟨b, 0, none⟩)] w fun e w' => RetLoose P.pages w e w' := by
  have c4 := h.c6.2.2.2.2.1
  obtain ⟨D, ho, hat, hhas, hkeys⟩ := h.map
  have hk : Gr w (w.alloc (.cells #[.map (some m)] TPm)) := (Gr.refl w).alloc (Nat.le_refl _) _
  have HS := Lib.hid (psorted_any w.heap.size m n D (w.alloc (.cells #[.map (some m)] TPm)) (by simp) ((Blk.new w TPm #[.map (some m)]).cell 0) (ho.alloc _) (by have := h.most; omega))
  have hB : ∀ i, B i ≠ none ↔ P.fr i ≠ none := fun i => not_congr (h.has i)
  have HO : Hid (∀ ss : List Int, ss.Perm (intKeys D) → (ss.mergeSort fun x y => decide (x ≤ y)) = P.pages.map fun (x : Nat) => (x : Int)) := Lib.hid fun ss hs =>
    sorted_nats (by unfold Pl.pages; exact List.Pairwise.filter _ List.pairwise_lt_range) ho (fun x => by
      rw [P.mem_pages]
      constructor
      · intro ⟨hx, ht⟩
        exact (hhas x hx).2 ((hB x).2 ht)
      · intro hx
        obtain ⟨i, hi, e⟩ := hkeys _ hx
        rw [key_inj e]
        rw [key_inj e] at hx
        exact ⟨hi, (hB i).1 ((hhas i hi).1 hx)⟩) (fun k hk => let ⟨i, _, e⟩ := hkeys k hk; ⟨i, e⟩) hs
  have HG := Lib.hid hk
  clear h ho hat hhas hkeys hk hB hin
  go_enter Tryz.func52, Tryz.ntmps52
  go_wp2_with fail
  refine (pkeys_any _ _).mono ?_
  rintro e w1 ⟨rfl, rfl⟩
  go_wp2_with fail
  refine HS.out.mono ?_
  rintro e w1 ⟨v, ss, rfl, hss, hrow, _, hb⟩
  have HRow := Lib.hid hrow
  have HB := Lib.hid (Gr.trans HG.out hb)
  have HE := Lib.hid (HO.out ss hss)
  have HLen : Hid (ss.length = P.pages.length) := Lib.hid (by have := congrArg List.length (HO.out ss hss); rw [List.length_mergeSort, List.length_map] at this; exact this)
  clear hrow hb hss HS HO HG
  go_wp2_with fail
  go_ret
  refine ⟨_, rfl, ?_, HB.out⟩
  have hr := HRow.out
  rw [HE.out, HLen.out, List.map_map] at hr
  unfold Ints
  obtain ⟨hr1, hr2⟩ := hr
  refine ⟨hr1, hr2.imp id ?_⟩
  rintro ⟨g, cap, cur, h1, h2, h3⟩
  exact ⟨g, cap, cur, h1, by simp at h2; omega, h3⟩
end
end Go.Proofs.YtaemmknijmhnoaaGreat

namespace Go.Proofs.YtaemmknijmhnoaaGreat
open Go.RowKit

end Go.Proofs.YtaemmknijmhnoaaGreat

namespace Go.Proofs.YtaemmknijmhnoaaGreat
open Go.RowKit

end Go.Proofs.YtaemmknijmhnoaaGreat

namespace Go.Proofs.YtaemmknijmhnoaaGreat
open Go.RowKit

end Go.Proofs.YtaemmknijmhnoaaGreat

namespace Go.Proofs.YtaemmknijmhnoaaGreat
open Go.RowKit

theorem map_u8_inj : ∀ (a b : List Int), Wd.Small a → Wd.Small b → (a.map fun n => UInt8.ofNat n.toNat) = (b.map fun n => UInt8.ofNat n.toNat) → a = b
  | [], [], _, _, _ => rfl
  | [], _ :: _, _, _, h => by simp at h
  | _ :: _, [], _, _, h => by simp at h
  | x :: r, y :: s, hx, hy, h => by
    simp only [List.map_cons, List.cons.injEq] at h
    have h1 := hx.head
    have h2 := hy.head
    have e := congrArg UInt8.toNat h.1
    simp only [UInt8.toNat_ofNat'] at e
    rw [map_u8_inj r s hx.tail hy.tail h.2]
    congr 1
    omega

theorem strOfNums_inj {a b : List Int} (ha : Wd.Small a) (hb : Wd.Small b) : (strOfNums a).toList = (strOfNums b).toList ↔ a = b := by
  constructor
  · intro h
    rw [Lib.strOfNums_toList, Lib.strOfNums_toList] at h
    exact map_u8_inj a b ha hb h
  · rintro rfl
    rfl

theorem wireSame_any (p q : Option Addr) (n c m d : Nat) (xs ys : List Int) (w : World) (h : Byt w p n c xs) (k : Byt w q m d ys) : Calls Tryz.prog 159 #[.slice p n c, .slice q m d] w fun e w' => e = .returned (.bool (decide (xs = ys))) ∧ w = w' := by
  have hc1 := h.lies.convert h.len c 31 5 9 Tryz.underlying31 Tryz.underlying5 Tryz.underlying9
  have hc2 := k.lies.convert k.len d 31 5 9 Tryz.underlying31 Tryz.underlying5 Tryz.underlying9
  have he : Hid ((strOfNums xs).toList = (strOfNums ys).toList ↔ xs = ys) := strOfNums_inj h.small k.small
  clear h k
  obtain ⟨r, hr⟩ : ∃ r, r = strOfNums xs := ⟨_, rfl⟩
  obtain ⟨s, hs⟩ : ∃ s, s = strOfNums ys := ⟨_, rfl⟩
  rw [← hr] at hc1 he
  rw [← hs] at hc2 he
  clear hr hs
  go_enter Tryz.func159, Tryz.ntmps159
  go_wp2
  go_ret
  refine ⟨ret_b ?_, rfl⟩
  show (r.toList == s.toList) = decide (xs = ys)
  rw [Bool.eq_iff_iff, beq_iff_eq, decide_eq_true_eq]
  exact he.out

end Go.Proofs.YtaemmknijmhnoaaGreat

namespace Go.Proofs.YtaemmknijmhnoaaGreat
open Go.RowKit

end Go.Proofs.YtaemmknijmhnoaaGreat

namespace Go.Proofs.YtaemmknijmhnoaaGreat
open Go.RowKit

end Go.Proofs.YtaemmknijmhnoaaGreat

/-
  Lists of bytes, one behind the other.
-/
namespace Go.Proofs.YtaemmknijmhnoaaGreat

/-- How many bytes lists have, taken together. -/
def tot (xss : List (List Int)) : Nat := xss.flatten.length

theorem flat_succ (xss : List (List Int)) (k : Nat) (h : k < xss.length) : (xss.take (k + 1)).flatten = (xss.take k).flatten ++ xss.getD k [] := by
  rw [List.take_succ_eq_append_getElem h, List.flatten_append]
  simp [List.getD, h]
theorem tot_le (xss : List (List Int)) (k : Nat) : tot (xss.take k) ≤ tot xss := by
  have h : xss.flatten = (xss.take k).flatten ++ (xss.drop k).flatten := by rw [← List.flatten_append, List.take_append_drop]
  unfold tot
  rw [h, List.length_append]
  exact Nat.le_add_right _ _
theorem tot_succ (xss : List (List Int)) (k m : Nat) (h : k < xss.length) (hm : (xss.getD k []).length = m) : tot (xss.take (k + 1)) = tot (xss.take k) + m := by
  unfold tot
  rw [flat_succ xss k h, List.length_append, hm]

end Go.Proofs.YtaemmknijmhnoaaGreat

namespace Go.Proofs.YtaemmknijmhnoaaGreat
open Go.RowKit

/-- Grow(nil, n): nil, or a new row of its own, with room. -/
def Grown0 (tB : Nat) (w : World) (e : Ending) (w' : World) : Prop := ∃ v, e = .returned v ∧ OwnB w' w.heap.size tB v [] ∧ Gr w w'

set_option maxHeartbeats 400000 in
theorem grow_any (n : Nat) (w : World) (hbig : n ≤ 140737488355328) : Calls Tryz.prog 142 #[.slice none 0 0, .int .i64 n] w (Grown0 5 w) := by
  rcases Nat.eq_zero_or_pos n with rfl | hn
  · go_enter Tryz.func142, Tryz.ntmps142
    go_wp2
    go_ret
    exact ⟨_, rfl, OwnB.nil _ _ _, Gr.refl _⟩
  · obtain ⟨i0, hi, hz0, hz1, hz2⟩ := info_parts bt.info
    have hrz : ∀ ty, (Builtin.append_ #[31, 3] ty #[.slice none 0 0, .int .i64 (n : Int)]).run Tryz.prog w =
        .ok (.slice (some ⟨w.heap.size, 0, none⟩) n (grownCap w n 0 5)) (w.drew.alloc (.cells (#[] ++ Builtin.zeroCells (Value.int .u8 0).cells n ++ Builtin.zeroCells (Value.int .u8 0).cells (grownCap w n 0 5 - n)) 5)) := fun ty => by
      have h := Lib.run_append_grow_zeros (P := Tryz.prog) w 31 3 ty 5 i0 (.int .u8 0) .i64 .i64 Tryz.underlying31 Tryz.underlying3 hi hz0 none 0 0 [] (by rw [hz1]; exact run_firstCells_none w.drew 1 0 0 0) n hn (by omega) (by omega) (by omega)
        (by rw [hz2]; omega) (by rw [hz2]; exact growslice_fits (by omega) (by omega))
      simpa using h
    have hGn : n ≤ grownCap w n 0 5 := grownCap_ge w _ _ _
    have hG63 : grownCap w n 0 5 ≤ maxLen := grownCap_le_maxLen w n 0 5 (by unfold maxLen; omega)
    obtain ⟨G, hG⟩ : ∃ G, G = grownCap w n 0 5 := ⟨_, rfl⟩
    rw [← hG] at hrz hGn hG63
    clear hG hi hz0 hz1 hz2
    have HG := Lib.hid hG63
    have hG63' : G ≤ 9223372036854775807 := by unfold maxLen at hG63; omega
    clear hG63
    obtain ⟨C, hC⟩ : ∃ C, C = #[] ++ Builtin.zeroCells (Value.int .u8 0).cells n ++ Builtin.zeroCells (Value.int .u8 0).cells (G - n) := ⟨_, rfl⟩
    have hCs : Hid (C.size = G * 1) := by
      show _ = _
      rw [hC]
      simp only [Array.size_append, size_zeroCells, Array.size_empty, Value.cells]
      simp
      omega
    rw [← hC] at hrz
    clear hC
    go_enter Tryz.func142, Tryz.ntmps142
    go_wp2_with (at_builtin; refine Lib.wpList_append_run _ rfl _ _ _ _ rfl _ _ rfl rfl _ _ (hrz _) ?_)
    go_ret
    refine ⟨_, rfl, ⟨?_, fun _ h => by cases h⟩, ?_⟩
    · exact World.ownsRow_made (w := w.drew) C G (Nat.le_refl _) HG.out hCs.out
    · exact (Below.refl _ _).drew.alloc (Nat.le_refl _) _

set_option maxHeartbeats 800000 in
theorem concat_any (p : Option Addr) (n c : Nat) (xss : List (List Int)) (w : World) (h : Rows w p n c xss) (hbig : tot xss ≤ 140737488355328) : Calls Tryz.prog 113 #[.slice p n c] w (RetByte xss.flatten w) := by
  have HLen := Lib.hid h.len
  have hn63 : n ≤ 9223372036854775807 := by have := h.cap; have := h.most; unfold maxLen at this; omega
  have HH := Lib.hid h
  have Hbig := Lib.hid hbig
  clear h hbig
  go_enter Tryz.func113, Tryz.ntmps113
  go_wp2
  go_loop [3, 11] (fun t i => ∃ k : Nat, k ≤ n ∧ i = .int .i64 k ∧ t = .int .i64 (tot (xss.take k) : Nat)) (fun _ i => n - (intOf i).toNat)
  case atStart => exact ⟨0, Nat.zero_le _, rfl, rfl⟩
  case round =>
    obtain ⟨k, hk, rfl, rfl⟩ := hrel
    have hle := tot_le xss k
    have hb2 := Hbig.out
    by_cases hlt : k < n
    · obtain ⟨b, o, rfl, hc⟩ := HH.out.lies (by omega)
      obtain ⟨q, m, d, hcell, hby⟩ := hc k hlt
      have hle2 := tot_le xss (k + 1)
      have hL := tot_succ xss k m (by rw [HLen.out]; exact hlt) hby.len
      have HL := Lib.hid hL
      have hSm : tot (xss.take k) + m ≤ 140737488355328 := by omega
      clear hL hle2 hc hby hb2 hle
      go_wp2
      go_round
      case rel => exact ⟨k + 1, by omega, by go_num, congrArg (Value.int .i64) (by rw [HL.out]; rfl)⟩
      case measure => simp [intOf]; omega
    · obtain rfl : k = n := by omega
      have hall : xss.take k = xss := List.take_of_length_le (by rw [HLen.out]; exact Nat.le_refl _)
      rw [hall]
      clear hall hle
      go_wp2_with fail
      refine (grow_any _ _ hb2).mono ?_
      rintro e w1 ⟨v, rfl, own, gr⟩
      have HO := Lib.hid own
      have HB := Lib.hid gr
      clear own gr hb2
      go_wp2
      go_loopw [6, 27] (fun v i wr => ∃ j : Nat, j ≤ k ∧ i = .int .i64 j ∧ Hid (OwnB wr w.heap.size 5 v (xss.take j).flatten) ∧ Hid (Below w.heap.size w wr)) (fun _ i _ => k - (intOf i).toNat)
      case atStart => exact ⟨0, Nat.zero_le _, rfl, HO, HB⟩
      case round =>
        obtain ⟨j, hj, rfl, ho, hb⟩ := hrel
        have hbs := hb.out.size
        by_cases hlt : j < k
        · obtain ⟨b, o, rfl, hc⟩ := (HH.out.kept hb.out).lies (by omega)
          obtain ⟨q, m, d, hcell, hby⟩ := hc j hlt
          have hfs := Lib.hid (flat_succ xss j (by rw [HLen.out]; exact hlt))
          have hsz : Hid ((xss.take j).flatten.length + m ≤ 140737488355328) := by
            have h1 := tot_le xss (j + 1)
            rw [tot_succ xss j m (by rw [HLen.out]; exact hlt) hby.len] at h1
            exact Nat.le_trans h1 Hbig.out
          have HBY := Lib.hid hby
          clear hby hc
          go_wp2_with (at_builtin; refine wpList_app_byt bt rfl (.tmp 31) (.tmp 32) rfl w.heap.size _ _ rfl ho.out q m d _ rfl HBY.out hsz.out hbs ?_)
          intro v' w' own grow
          have HO2 := Lib.hid (own.as hfs.out.symm)
          have HB2 : Hid (Below w.heap.size w w') := Below.app hb.out hbs ho.out grow
          clear own grow
          go_wp2
          go_roundw
          case rel => exact ⟨j + 1, by omega, by go_num, HO2, HB2⟩
          case measure => simp [intOf]; omega
        · obtain rfl : j = k := by omega
          have hall : xss.take j = xss := List.take_of_length_le (by rw [HLen.out]; exact Nat.le_refl _)
          have ho2 := ho.out
          rw [hall] at ho2
          obtain ⟨q, d, hv⟩ := ho2.shape (tot xss) rfl
          subst hv
          have HO2 := Lib.hid ho2
          clear ho2 hall
          go_wp2
          go_ret
          exact RetByte.of_own HO2.out hb.out

theorem join_any (p : Option Addr) (n c : Nat) (xss : List (List Int)) (w : World) (h : Rows w p n c xss) (hbig : tot xss ≤ 140737488355328) : Calls Tryz.prog 93 #[.slice p n c] w (RetByte xss.flatten w) := by
  go_enter Tryz.func93, Tryz.ntmps93
  go_wp2_with fail
  refine (concat_any _ _ _ _ _ h hbig).mono ?_
  rintro e w' ⟨q, m, d, rfl, hby, hg, hf⟩
  go_wp2
  go_ret
  exact ⟨q, m, d, rfl, hby, hg, hf⟩

end Go.Proofs.YtaemmknijmhnoaaGreat

