/-
  Texts on locks, put together: Lk51 Lk36 Lk52.
-/
import Derived.RangeFuncNested
import Derived.RangeFuncBound
import Derived.RangeFuncCalls
import Derived.RangeFuncLeaves
import Derived.OwnWalkIn
import Derived.TacticsInMore
import Derived.LoopNIn
import Derived.LoopIn
import Derived.Laws.OwnMore
import Derived.Test.YtbmcdlcoojmppaaA24
import Derived.Test.YtbmcdlcoojmppaaA27
/-
  The code's table of locks: Waits; the law's in.
-/
namespace Go.Proofs.Ytbmcdlcoojmppaa
open Go.RowKit Go.Maps

section
variable {w : World} {t km om : Nat} {B : Tag → Option Nat} {T : Tb}
set_option maxRecDepth 100000 in
set_option maxHeartbeats 2000000 in
theorem Waits_any (h : TbAt w t km om B T) {o : Nat} (ho : KO.dom o) : Calls Try.prog 13 #[.pointer (some ⟨t, 0, none⟩), .int .u64 (o : Int)] w fun e w' => e = .returned (.tuple #[kv (T.of o).key, .int .i64 (T.of o).mode, .bool ((T.of o).mode != 0)]) ∧ Gr w w' := by
  obtain ⟨hp, hhp⟩ : ∃ hp, hp = B (.pm o) := ⟨_, rfl⟩
  obtain ⟨O1, hO1⟩ : ∃ O1, O1 = (T.of o).key.1 := ⟨_, rfl⟩
  obtain ⟨O2, hO2⟩ : ∃ O2, O2 = (T.of o).key.2 := ⟨_, rfl⟩
  obtain ⟨O3, hO3⟩ : ∃ O3, O3 = (T.of o).mode := ⟨_, rfl⟩
  unfold kv
  rw [← hO1, ← hO2, ← hO3]
  have g1 : Gr w (w.alloc (.cells #[.int .i64 0, .int .i64 0] TKey)) := (Gr.refl w).alloc (Nat.le_refl _) _
  have b1 := Blk.new w TKey #[.int .i64 0, .int .i64 0]
  obtain ⟨W0, hW0⟩ : ∃ W0, W0 = w.alloc (.cells #[.int .i64 0, .int .i64 0] TKey) := ⟨_, rfl⟩
  rw [← hW0] at g1 b1
  have HO := Lib.hid (of_any (h.gr g1) ho)
  unfold ofV at HO
  rw [← hhp, ← hO1, ← hO2, ← hO3] at HO
  obtain ⟨rb, hrb⟩ : ∃ rb, rb = w.heap.size := ⟨_, rfl⟩
  rw [← hrb] at b1
  have HW := Lib.hid (And.intro hW0 (And.intro hrb (And.intro g1 b1)))
  clear h hW0 hrb g1 b1 hhp hO1 hO2 hO3 ho
  have hZ : (O3 != 0) = true ∨ (O3 != 0) = false := by cases (O3 != 0) <;> simp
  rcases hZ with hZ | hZ
  all_goals
    rw [hZ]
    go_enter Try.func13, Try.ntmps13
    go_upto_region 1 with fail
    rw [show (w.alloc (.cells #[.int .i64 0, .int .i64 0] 29)) = W0 from HW.out.1.symm, ← HW.out.2.1]
    go_wp2_with fail
    refine HO.out.mono ?_
    rintro e W2 ⟨rfl, g2⟩
    have g3 : Gr W2 (W2.alloc (.cells #[.map hp, .int .i64 O1, .int .i64 O2, .int .i64 O3] TPy)) := (Gr.refl _).alloc (Nat.le_refl _) _
    have b3 := Blk.new W2 TPy #[.map hp, .int .i64 O1, .int .i64 O2, .int .i64 O3]
    obtain ⟨W3, hW3⟩ : ∃ W3, W3 = W2.alloc (.cells #[.map hp, .int .i64 O1, .int .i64 O2, .int .i64 O3] TPy) := ⟨_, rfl⟩
    rw [← hW3] at g3 b3
    obtain ⟨pb, hpb⟩ : ∃ pb, pb = W2.heap.size := ⟨_, rfl⟩
    rw [← hpb] at b3
    have r3 := HW.out.2.2.2.gr (Gr.trans g2 g3)
    have hne : pb ≠ rb := by
      have := HW.out.2.2.2.lt
      have := g2.size
      omega
    have b4 := (b3.far (p := ⟨rb, 0, none⟩) hne (.int .i64 O1)).far (p := ⟨rb, 1, none⟩) hne (.int .i64 O2)
    have r4 := (r3.set 0 (.int .i64 O1)).set 1 (.int .i64 O2)
    have z1 := b3.cell 1
    have z2 := b3.cell 2
    have z3 := b3.cell 3
    have y1 := b4.cell 1
    have y2 := b4.cell 2
    have y3 := b4.cell 3
    have c0 := r3.cell 0
    have c1 := r3.cell 1
    have f0 := r3.frozen 0
    have f1 := r3.frozen 1
    simp at z1 z2 z3 y1 y2 y3 c0 c1 r4
    have G3 := Lib.hid (And.intro (Gr.trans HW.out.2.2.1 (Gr.trans g2 g3)) (And.intro r4 (And.intro hW3 hpb)))
    clear g2 g3 b3 hW3 hpb r3 hne b4 r4
    go_upto_region 2 with fail
    rw [show (W2.alloc (.cells #[.map hp, .int .i64 O1, .int .i64 O2, .int .i64 O3] 61)) = W3 from G3.out.2.2.1.symm, ← G3.out.2.2.2]
    go_region_held3 (fun V => V.cell? ⟨pb, 1, none⟩ = some (.int .i64 O1) ∧ V.cell? ⟨pb, 2, none⟩ = some (.int .i64 O2) ∧ V.cell? ⟨pb, 3, none⟩ = some (.int .i64 O3)) (first | exact ⟨z1, z2, z3⟩ | exact ⟨y1, y2, y3⟩) (fail)
    have gW : Gr w (((W3.setCell ⟨rb, 0, none⟩ (.int .i64 O1)).setCell ⟨rb, 1, none⟩ (.int .i64 O2)).drew) := by
      obtain ⟨-, hrb, -, -⟩ := HW.out
      have g := G3.out.1
      refine ⟨g.os, g.tape, g.output, by have := g.size; simpa using this, fun n hn => ?_⟩
      have h0 : n ≠ rb := by omega
      exact (Below.heap_setCell _ _ _ _ h0).trans ((Below.heap_setCell _ _ _ _ h0).trans (g.block n hn))
    have GW := Lib.hid gW
    clear gW
    go_wp2_with fail
    exact bodyPost_ret (results_kmb rfl _ _ rb _ _ _ _ rfl rfl rfl G3.out.2.1) rfl ⟨rfl, GW.out⟩
set_option maxRecDepth 100000 in
set_option maxHeartbeats 2000000 in
theorem in_any {w : World} {v : Value} {xs : List Nat} (h : USl w v xs) (hx : xs.length ≤ 1000000000) (o : Nat) : Calls Try.prog 11 #[v, .int .u64 (o : Int)] w fun e w' => e = .returned (.bool (decide (o ∈ xs))) ∧ Gr w w' := by
  obtain ⟨p, c, rfl, hat⟩ := h.form
  obtain ⟨N, hN⟩ : ∃ N, N = xs.length := ⟨_, rfl⟩
  rw [← hN] at hx ⊢
  obtain ⟨D, hD⟩ : ∃ D, D = decide (o ∈ xs) := ⟨_, rfl⟩
  rw [← hD]
  have HH := Lib.hid (And.intro hat (And.intro hN hD))
  clear h hat hN hD
  go_enter Try.func11, Try.ntmps11
  go_wp2_with fail
  go_loopw [5] (fun i wr => ∃ j : Nat, i = .int .i64 (j : Int) ∧ j ≤ N ∧ wr = w ∧ Hid (∀ n, n < j → xs.getD n 0 ≠ o)) (fun i _ => N - (intOf i).toNat)
  case atStart => exact ⟨0, rfl, Nat.zero_le _, rfl, Lib.hid fun n hn => by omega⟩
  case round =>
    obtain ⟨j, rfl, hj, rfl, HJ⟩ := hrel
    obtain ⟨hat, hN, hD⟩ := HH.out
    by_cases hlt : j < N
    · have g3 : (j : Int) < (N : Int) := by omega
      obtain ⟨g, q, hp, hc, hcell⟩ := hat j (by omega)
      obtain ⟨X, hX⟩ : ∃ X, X = xs.getD j 0 := ⟨_, rfl⟩
      rw [← hX] at hcell
      subst hp
      have hw1 : IntKind.i64.wrap ((j : Int) + 1) = ((j + 1 : Nat) : Int) := by rw [IntWalk.i64_in _ (by omega)]; omega
      by_cases he : X = o
      · have e1 : ((X : Int) == (o : Int)) = true := by rw [he]; simp
        have hd : D = true := by
          rw [hD]
          refine decide_eq_true ?_
          rw [← he, hX, List.getD, List.getElem?_eq_getElem (by omega)]
          exact List.getElem_mem _
        subst hd
        clear hat hN hX he hc HH hD
        go_wp2_with fail
        go_ret
        exact ⟨rfl, Gr.refl _⟩
      · have e1 : ((X : Int) == (o : Int)) = false := by rw [beq_eq_false_iff_ne]; omega
        have HJ2 : Hid (∀ n, n < j + 1 → xs.getD n 0 ≠ o) := Lib.hid fun n hn => by
          by_cases e : n = j
          · rw [e, ← hX]; exact he
          · exact HJ.out n (by omega)
        have HMe : Hid (j + 1 ≤ N ∧ N - (j + 1) < N - j) := Lib.hid ⟨by omega, by omega⟩
        clear hat hN hX he hc hD hj hlt
        go_wp2_with fail
        go_roundw
        case rel => exact ⟨j + 1, by simp, HMe.out.1, (by first | rfl | trivial), HJ2⟩
        case measure => simpa [intOf] using HMe.out.2
    · have g3 : ¬ (j : Int) < (N : Int) := by omega
      have hd : D = false := by
        rw [hD]
        refine decide_eq_false fun e => ?_
        obtain ⟨n, hn, e2⟩ := List.getElem_of_mem e
        refine HJ.out n (by omega) ?_
        rw [List.getD, List.getElem?_eq_getElem hn, e2]
        rfl
      subst hd
      clear hat hN hD
      go_wp2_with fail
      go_ret
      exact ⟨rfl, Gr.refl _⟩
end
end Go.Proofs.Ytbmcdlcoojmppaa

/-
  The code's table of locks: Held of a nil or zero table; the law's nothing.
-/
namespace Go.Proofs.Ytbmcdlcoojmppaa
open Go.RowKit Go.Maps Go.Shelf
attribute [local go_sem] Oper.semAt_some

abbrev TMds : TypeId := 78
theorem mk0_modes (w : World) : (Instr.makeSlice TMds (.int .i64 0) (.int .i64 0)).run Try.prog w = .ok (.slice (some ⟨w.heap.size, 0, none⟩) 0 0) (w.alloc (.cells #[] 30)) := by kernel_rfl
theorem sortK_nil : sortK [] = [] := by simp [sortK]
section
variable {w : World} {tv : Value}
set_option maxRecDepth 100000 in
theorem Held_gone (h : TGone w tv) (o : Int) : Calls Try.prog 19 #[tv, .int .u64 o] w fun e w' => ∃ kb mb p cap, e = .returned (.func (.func 36) #[] #[.pointer (some ⟨kb, 0, none⟩), .pointer (some ⟨mb, 0, none⟩)]) ∧ Gr w w' ∧ Blk w' kb TKs #[.slice p 0 cap] := by
  have HO := Lib.hid (of_gone h o)
  have hmk := mk0_modes
  clear h
  go_enter Try.func19, Try.ntmps19
  go_wp2_with fail
  refine HO.out.mono ?_
  rintro e W1 ⟨rfl, g1⟩
  have HG1 := Lib.hid g1
  clear g1
  go_wp2_with fail
  refine (sorted_any W1 (hp := none) (ks := []) 0 0 0 (.inl ⟨rfl, rfl⟩) (Nat.zero_le _)).mono ?_
  rintro e W2 ⟨v, rfl, hv, g2⟩
  rw [sortK_nil] at hv
  obtain ⟨p, cap, hvf, -⟩ := hv.form
  subst hvf
  have b3 := Blk.new W2 TKs #[.slice p 0 cap]
  have HG2 := Lib.hid (Gr.trans HG1.out (Gr.trans g2 ((Gr.refl W2).alloc (Nat.le_refl _) (.cells #[.slice p 0 cap] TKs))))
  clear g2 hv HG1
  obtain ⟨W3, hW3⟩ : ∃ W3, W3 = W2.alloc (.cells #[.slice p 0 cap] TKs) := ⟨_, rfl⟩
  obtain ⟨kb, hkb⟩ : ∃ kb, kb = W2.heap.size := ⟨_, rfl⟩
  rw [← hW3] at b3 HG2
  rw [← hkb] at b3
  have c3 := b3.cell 0
  simp at c3
  have H3 := Lib.hid (And.intro b3 (And.intro hW3 hkb))
  clear hW3 hkb b3
  go_upto_region 2 with fail
  rw [show (W2.alloc (.cells #[.slice p 0 cap] 57)) = W3 from H3.out.2.1.symm, ← H3.out.2.2]
  go_upto_region 3 with fail
  have g4 : Gr W3 ((W3.alloc (.cells #[] 30)).alloc (.cells #[.slice (some ⟨W3.heap.size, 0, none⟩) 0 0] TMds)) := ((Gr.refl W3).alloc (Nat.le_refl _) _).alloc (by simp) _
  obtain ⟨W4, hW4⟩ : ∃ W4, W4 = (W3.alloc (.cells #[] 30)).alloc (.cells #[.slice (some ⟨W3.heap.size, 0, none⟩) 0 0] TMds) := ⟨_, rfl⟩
  rw [← hW4] at g4
  have b4 := H3.out.1.gr g4
  have c4 := b4.cell 0
  simp at c4
  have H4 := Lib.hid (And.intro b4 (And.intro (Gr.trans HG2.out g4) hW4))
  clear b4 g4 hW4 c3
  rw [show ((W3.alloc (.cells #[] 30)).alloc (.cells #[.slice (some ⟨W3.heap.size, 0, none⟩) 0 0] 78)) = W4 from H4.out.2.2.symm]
  go_wp2_with fail
  go_loopw [18] (fun i wr => i = .int .i64 0 ∧ wr = W4) (fun _ _ => 0)
  case atStart => exact ⟨rfl, rfl⟩
  case round =>
    obtain ⟨rfl, rfl⟩ := hrel
    go_wp2_with fail
    go_ret
    exact ⟨_, _, p, cap, rfl, H4.out.2.1, H4.out.1⟩
theorem held1_gone (y : Value) (kb mb : Nat) (p : Option Addr) (cap : Nat) (w : World) (hc : w.cell? ⟨kb, 0, none⟩ = some (.slice p 0 cap)) : Calls Try.prog 36 #[y, .pointer (some ⟨kb, 0, none⟩), .pointer (some ⟨mb, 0, none⟩)] w fun e w' => e = .returned (.tuple #[]) ∧ w = w' := by
  go_enter Try.func36, Try.ntmps36
  go_wp2_with fail
  go_loopw [8] (fun i wr => i = .int .i64 0 ∧ wr = w) (fun _ _ => 0)
  case atStart => exact ⟨rfl, rfl⟩
  case round =>
    obtain ⟨rfl, rfl⟩ := hrel
    go_wp2_with fail
    go_end0
    exact ⟨rfl, rfl⟩
theorem held_stops (n : Nat) (kb mb : Nat) (p : Option Addr) (cap : Nat) (Kp : World → World → Prop) (w : World) (hB : kb < w.heap.size) (hc : w.cell? ⟨kb, 0, none⟩ = some (.slice p 0 cap)) :
    SeqStopsK Fence.wide n Try.prog 36 #[.pointer (some ⟨kb, 0, none⟩), .pointer (some ⟨mb, 0, none⟩)] (fun x : Empty => x.elim) Kp (fun xs => xs = []) (fun _ => False) 0 w := fun l J Jx W hW _ _ _ h0 => by
  have hc' := (hW.cell (p := ⟨kb, 0, none⟩) hB).trans hc
  refine (callsIn_wide.2 (held1_gone (.func (.yield l) #[] #[]) kb mb p cap W hc')).mono ?_
  rintro e W' ⟨rfl, rfl⟩
  exact ⟨⟨_, rfl⟩, .inl ⟨[], rfl, h0⟩⟩
end
end Go.Proofs.Ytbmcdlcoojmppaa

/-
  The code's table of locks: Held.
-/
namespace Go.Proofs.Ytbmcdlcoojmppaa
open Go.RowKit Go.Maps

abbrev TMd : TypeId := 30
def i64v (n : Int) : Value := .int .i64 n
/-- A row of modes of the call's own. -/
def Ms (w : World) (base : Nat) (v : Value) (ms : List Int) : Prop := w.ownsRow base TMd 1 v ms.length (ms.map i64v)
theorem md_info : (Try.prog.info? TMd).map (fun i => (i.zero, i.size, i.bytes)) = some (some (.int .i64 0), 1, 8) := by kernel_rfl
theorem Ms.cellAt {w : World} {base g N c : Nat} {ms : List Int} (h : Ms w base (.slice (some ⟨g, 0, none⟩) N c) ms) (hN : N = ms.length) (j : Nat) (hj : j < N) : w.cell? ⟨g, j, none⟩ = some (.int .i64 (ms.getD j 0)) := by
  unfold Ms at h
  rw [← hN] at h
  rw [World.ownsRow.cellAt h j (by omega), List.getElem?_map, List.getElem?_eq_getElem (by omega)]
  simp [i64v, List.getD, show j < ms.length by omega]
theorem Ms.frozenAt {w : World} {base g N c : Nat} {ms : List Int} (h : Ms w base (.slice (some ⟨g, 0, none⟩) N c) ms) (hN : N = ms.length) (j : Nat) : w.frozen? ⟨g, j, none⟩ = false := by
  unfold Ms at h
  rw [← hN] at h
  exact World.ownsRow.frozenAt h j
theorem Ms.put {w : World} {base g N c : Nat} {ms : List Int} (h : Ms w base (.slice (some ⟨g, 0, none⟩) N c) ms) (hN : N = ms.length) (j : Nat) (x : Int) :
    Ms (w.setCell ⟨g, j, none⟩ (.int .i64 x)) base (.slice (some ⟨g, 0, none⟩) N c) (ms.set j x) ∧ w.grownBy (w.setCell ⟨g, j, none⟩ (.int .i64 x)) (some g) := by
  unfold Ms at h ⊢
  rw [List.length_set, List.map_set, ← hN]
  rw [← hN] at h
  exact World.ownsRow.stored h j (.int .i64 x)
/-- A row's block: what is there, of which type. -/
theorem row_blk {w : World} {base g n c : Nat} {e : TypeId} {size : Nat} {xs : List Value} (h : w.ownsRow base e size (.slice (some ⟨g, 0, none⟩) n c) n xs) : ∃ cur, w.heap[g]? = some (.cells cur e (0, 0)) ∧ base ≤ g := by
  rcases h.2 with ⟨h0, _⟩ | ⟨g', cap', cur, h0, hb, hg, _⟩
  · cases h0
  · cases h0
    exact ⟨cur, hg, hb⟩
/-- The modes of keys. -/
def Tb.mds (T : Tb) (ks : List Key) : List Int := ks.map fun k => (T.lkOf k).mode
/-- What Held answers. -/
structure HeldAt (w0 w : World) (kb mb : Nat) (kv' mv : Value) (ks : List Key) (ms : List Int) : Prop where
  bk : Blk w kb TKs #[kv']
  bm : Blk w mb TMds #[mv]
  rk : Kr w w0.heap.size kv' ks
  rm : Ms w w0.heap.size mv ms
  kl : w0.heap.size ≤ kb
  ml : w0.heap.size ≤ mb
def RetHeld (T : Tb) (o : Nat) (w : World) (e : Ending) (w' : World) : Prop :=
  ∃ kb mb kv' mv, e = .returned (.func (.func 36) #[] #[.pointer (some ⟨kb, 0, none⟩), .pointer (some ⟨mb, 0, none⟩)]) ∧ Gr w w' ∧ HeldAt w w' kb mb kv' mv (sortK (T.of o).ks) (T.mds (sortK (T.of o).ks))
section
variable {w : World} {t km om : Nat} {B : Tag → Option Nat} {T : Tb}
set_option maxRecDepth 100000 in
set_option maxHeartbeats 4000000 in
theorem Held_any (h : TbAt w t km om B T) (ok : T.Ok) {o : Nat} (ho : KO.dom o) (hln : (T.of o).ks.length ≤ 1000000) : Calls Try.prog 19 #[.pointer (some ⟨t, 0, none⟩), .int .u64 (o : Int)] w (RetHeld T o w) := by
  have HO := Lib.hid (of_any h ho)
  obtain ⟨hp, hhp⟩ : ∃ hp, hp = B (.pm o) := ⟨_, rfl⟩
  obtain ⟨O1, hO1⟩ : ∃ O1, O1 = (T.of o).key.1 := ⟨_, rfl⟩
  obtain ⟨O2, hO2⟩ : ∃ O2, O2 = (T.of o).key.2 := ⟨_, rfl⟩
  obtain ⟨O3, hO3⟩ : ∃ O3, O3 = (T.of o).mode := ⟨_, rfl⟩
  unfold ofV at HO
  rw [← hhp, ← hO1, ← hO2, ← hO3] at HO
  have hhs := h.hs o
  rw [← hhp] at hhs
  obtain ⟨ks, hks⟩ : ∃ ks, ks = sortK (T.of o).ks := ⟨_, rfl⟩
  have hkl : ks.length ≤ 1000000 := by rw [hks, sortK_len]; exact hln
  have hksd : ∀ k, k ∈ ks → KL.dom k ∧ ∃ l, T.lk k = some l := fun k hk => by
    have hk2 : k ∈ (T.of o).ks := (sortK_perm _).mem_iff.1 (hks ▸ hk)
    obtain ⟨l, e, _⟩ := ok.holds o k hk2
    exact ⟨h.ks_dom o k hk2, l, e⟩
  have HH := Lib.hid (And.intro h (And.intro hhs (And.intro hln (And.intro hks (And.intro hkl hksd)))))
  clear h ok hhs hln hks hkl hksd hhp hO1 hO2 hO3 ho
  go_enter Try.func19, Try.ntmps19
  go_wp2_with fail
  refine HO.out.mono ?_
  rintro e W1 ⟨rfl, g1⟩
  have HG1 := Lib.hid g1
  clear g1
  go_wp2_with fail
  refine (sorted_any W1 O1 O2 O3 (HH.out.2.1.gr HG1.out) (Nat.le_trans HH.out.2.2.1 (by omega))).mono ?_
  rintro e W2 ⟨v, rfl, hv, g2⟩
  rw [← HH.out.2.2.2.1] at hv
  obtain ⟨p, cap, hvf, -⟩ := hv.form
  subst hvf
  obtain ⟨N, hN⟩ : ∃ N, N = ks.length := ⟨_, rfl⟩
  rw [← hN] at hv ⊢
  have g3 : Gr W2 (W2.alloc (.cells #[.slice p N cap] TKs)) := (Gr.refl W2).alloc (Nat.le_refl _) _
  have b3 := Blk.new W2 TKs #[.slice p N cap]
  obtain ⟨W3, hW3⟩ : ∃ W3, W3 = W2.alloc (.cells #[.slice p N cap] TKs) := ⟨_, rfl⟩
  obtain ⟨kb, hkb⟩ : ∃ kb, kb = W2.heap.size := ⟨_, rfl⟩
  rw [← hW3] at b3 g3
  rw [← hkb] at b3
  have gw2 := Gr.trans HG1.out g2
  have hv3 : Kr W3 w.heap.size (.slice p N cap) ks := World.ownsRow.kept (hv.base HG1.out.size) (row := none) ⟨g3.os, g3.tape, g3.output, g3.size, fun k hk _ => g3.block k hk⟩ (by
    rcases hv.2 with ⟨h0, _⟩ | ⟨g, _, _, h0, _⟩
    · exact .inl (by rw [h0]; rfl)
    · exact .inr (by rw [h0]; simp [Value.ownBlock]))
  have hkbl : w.heap.size ≤ kb := by rw [hkb]; exact gw2.size
  obtain ⟨i9, hi9, hz9, hs9, hb9⟩ := inf_parts md_info
  have hNb : N ≤ 1000000 := by rw [hN]; exact HH.out.2.2.2.2.1
  obtain ⟨w4, hmk, hm4, hg4⟩ := run_makeSlice_full (P := Try.prog) (w := W3) w.heap.size TMds TMd i9 (.int .i64 0) 1 Try.underlying78 hi9 hz9 hs9 .i64 .i64 N (by omega) (by rw [hb9]; omega) (by unfold maxLen; omega) (by have := gw2.size; have := g3.size; omega)
  have gg4 : Gr W3 w4 := ⟨hg4.os, hg4.tape, hg4.output, hg4.size, fun n hn => hg4.block n hn (by simp)⟩
  obtain ⟨mg, hmg⟩ : ∃ mg, mg = W3.heap.size := ⟨_, rfl⟩
  rw [← hmg] at hmk hm4
  have g5 : Gr w4 (w4.alloc (.cells #[.slice (some ⟨mg, 0, none⟩) N N] TMds)) := (Gr.refl w4).alloc (Nat.le_refl _) _
  have b5 := Blk.new w4 TMds #[.slice (some ⟨mg, 0, none⟩) N N]
  obtain ⟨W5, hW5⟩ : ∃ W5, W5 = w4.alloc (.cells #[.slice (some ⟨mg, 0, none⟩) N N] TMds) := ⟨_, rfl⟩
  obtain ⟨mb, hmb⟩ : ∃ mb, mb = w4.heap.size := ⟨_, rfl⟩
  rw [← hW5] at g5 b5
  rw [← hmb] at b5
  have c3 := b3.cell 0
  have c5 := (b3.gr (Gr.trans gg4 g5)).cell 0
  simp at c3 c5
  have hgrow : ∀ {V V' : World} {v' : Value} {qs : List Key} (g : Gr V V'), Kr V w.heap.size v' qs → Kr V' w.heap.size v' qs := fun {V V' v' qs} g hk => World.ownsRow.kept hk (row := none) ⟨g.os, g.tape, g.output, g.size, fun k hk _ => g.block k hk⟩ (by
    rcases hk.2 with ⟨h0, _⟩ | ⟨g, _, _, h0, _⟩
    · exact .inl (by rw [h0]; rfl)
    · exact .inr (by rw [h0]; simp [Value.ownBlock]))
  have hm5 : Ms W5 w.heap.size (.slice (some ⟨mg, 0, none⟩) N N) (List.replicate N 0) := by
    unfold Ms
    rw [List.length_replicate, List.map_replicate]
    have h9 := World.ownsRow.kept hm4 (w' := W5) (row := none) ⟨g5.os, g5.tape, g5.output, g5.size, fun k hk _ => g5.block k hk⟩ (.inr (by simp [Value.ownBlock]))
    have e9 : (madeCells (Value.int .i64 0).cells (N * 1)).toList = List.replicate N (i64v 0) := by
      rw [Nat.mul_one]
      exact toList_madeCells_one _ _
    rwa [e9] at h9
  have H5 := Lib.hid (show Gr w W5 ∧ HeldAt w W5 kb mb (.slice p N cap) (.slice (some ⟨mg, 0, none⟩) N N) ks (List.replicate N 0) from ⟨Gr.trans gw2 (Gr.trans g3 (Gr.trans gg4 g5)), b3.gr (Gr.trans gg4 g5), b5, hgrow (Gr.trans gg4 g5) hv3, hm5, hkbl, by rw [hmb]; have := gg4.size; have := g3.size; have := gw2.size; omega⟩)
  have HW := Lib.hid (And.intro hW3 (And.intro hkb (And.intro hmg (And.intro hW5 (And.intro hmb hN)))))
  clear g2 hv g3 b3 hv3 hkbl hi9 hz9 hs9 hb9 gw2 hm4 hg4 gg4 g5 b5 hgrow hm5 hW3 hkb hmg hW5 hmb hN
  go_upto_region 2 with fail
  rw [show (W2.alloc (.cells #[.slice p N cap] 57)) = W3 from HW.out.1.symm, ← HW.out.2.1]
  go_upto_region 3 with fail
  rw [show (w4.alloc (.cells #[.slice (some ⟨mg, 0, none⟩) N N] 78)) = W5 from HW.out.2.2.2.1.symm, ← HW.out.2.2.2.2.1]
  clear hmk c3
  go_wp2_with fail
  go_loopw [18] (fun i wr => ∃ j : Nat, i = .int .i64 (j : Int) ∧ j ≤ N ∧ Hid (Gr w wr ∧ HeldAt w wr kb mb (.slice p N cap) (.slice (some ⟨mg, 0, none⟩) N N) ks (T.mds (ks.take j) ++ List.replicate (N - j) 0))) (fun i _ => N - (intOf i).toNat)
  case atStart => exact ⟨0, rfl, Nat.zero_le _, Lib.hid ⟨H5.out.1, by simpa [Tb.mds] using H5.out.2⟩⟩
  case round =>
    obtain ⟨j, rfl, hj, HR⟩ := hrel
    by_cases hlt : j < N
    · have g3 : (j : Int) < (N : Int) := by omega
      obtain ⟨hgr, hH⟩ := HR.out
      obtain ⟨h, hhs, hln, hks, hkl, hksd⟩ := HH.out
      have hNk := HW.out.2.2.2.2.2
      have hjl : j < ks.length := by omega
      obtain ⟨g, hpg, -, -, k0, k1⟩ := Kr.at' hH.rk j hjl
      obtain ⟨X, hX⟩ : ∃ X, X = ks.getD j (0, 0) := ⟨_, rfl⟩
      have hXm : X = ks[j] := by rw [hX]; simp [List.getD, hjl]
      rw [← hX] at k0 k1
      obtain ⟨hXd, l, hl⟩ := hksd X (by rw [hXm]; exact List.getElem_mem hjl)
      obtain ⟨x1, x2⟩ := X
      obtain ⟨MD, hMD⟩ : ∃ MD, MD = l.mode := ⟨_, rfl⟩
      have hml : (T.mds (ks.take j) ++ List.replicate (N - j) 0).length = N := by simp [Tb.mds]; omega
      have g6 : Gr wr (wr.alloc (.cells #[.int .i64 x1, .int .i64 x2] TKey)) := (Gr.refl _).alloc (Nat.le_refl _) _
      have k6 := Blk.new wr TKey #[.int .i64 x1, .int .i64 x2]
      obtain ⟨W6, hW6⟩ : ∃ W6, W6 = wr.alloc (.cells #[.int .i64 x1, .int .i64 x2] TKey) := ⟨_, rfl⟩
      rw [← hW6] at g6 k6
      obtain ⟨xb, hxb⟩ : ∃ xb, xb = wr.heap.size := ⟨_, rfl⟩
      rw [← hxb] at k6
      have g6d : Gr wr W6.drew := Gr.trans g6 (Gr.refl _).drew
      have gw6 := Gr.trans hgr g6d
      have t6 := h.gr gw6
      obtain ⟨bl, hm', v', e1, e2, lb, lm, ln⟩ := t6.lk (x1, x2) l hl
      have ql : (Instr.lookup TMk (.map (some km)) (.agg #[.int .i64 x1, .int .i64 x2]) false).run Try.prog W6.drew = .ok (.pointer (some ⟨bl, 0, none⟩)) W6.drew := by
        have := t6.look hXd
        rw [e1] at this
        exact this
      have hm6 : Ms W6.drew w.heap.size (.slice (some ⟨mg, 0, none⟩) N N) (T.mds (ks.take j) ++ List.replicate (N - j) 0) := World.ownsRow.kept hH.rm (row := none) ⟨g6d.os, g6d.tape, g6d.output, g6d.size, fun k hk _ => g6d.block k hk⟩ (.inr (by simp [Value.ownBlock]))
      obtain ⟨cur, hmc, hmgl⟩ := row_blk (by have h9 := hm6; unfold Ms at h9; rw [hml] at h9; exact h9)
      have mb6 := hH.bm.gr g6d
      have kb6 := hH.bk.gr g6d
      obtain ⟨m7, gm7⟩ := hm6.put hml.symm j MD
      have hset : (T.mds (ks.take j) ++ List.replicate (N - j) 0).set j MD = T.mds (ks.take (j + 1)) ++ List.replicate (N - (j + 1)) 0 := by
        have hlt9 : (T.mds (ks.take j)).length = j := by simp [Tb.mds]; omega
        rw [List.set_append_right _ _ (by omega), hlt9, Nat.sub_self, show N - j = (N - (j + 1)) + 1 by omega, List.replicate_succ, List.set_cons_zero, List.take_succ_eq_append_getElem hjl]
        unfold Tb.mds
        rw [List.map_append, List.append_assoc, ← hXm]
        show _ = _ ++ ([(T.lkOf (x1, x2)).mode] ++ _)
        rw [lkOf_of hl, ← hMD]
        rfl
      rw [hset] at m7
      have e9 : W6.drew.setCell ⟨mg, j, none⟩ (.int .i64 MD) = (W6.setCell ⟨mg, j, none⟩ (.int .i64 MD)).drew := rfl
      obtain ⟨w7, hw7⟩ : ∃ w7, w7 = (W6.setCell ⟨mg, j, none⟩ (.int .i64 MD)).drew := ⟨_, rfl⟩
      rw [e9, ← hw7] at m7 gm7
      have hne : ∀ {n : Nat} {ty : TypeId} {cs : Array Value}, Blk W6.drew n ty cs → ty ≠ TMd → n ≠ mg := fun {n ty cs} hb ht e => by
        unfold Blk at hb
        rw [e, hmc] at hb
        injection hb with h10
        injection h10 with _ h11
        exact ht h11.symm
      have stay : ∀ {n : Nat} {ty : TypeId} {cs : Array Value}, Blk W6.drew n ty cs → ty ≠ TMd → Blk w7 n ty cs := fun {n ty cs} hb ht => hb.stays (gm7.block n hb.lt fun e => hne hb ht (by cases e; rfl))
      have gw7 : Gr w w7 := ⟨gm7.os.trans gw6.os, gm7.tape.trans gw6.tape, gm7.output.trans gw6.output, Nat.le_trans gw6.size gm7.size, fun n hn => (gm7.block n (Nat.lt_of_lt_of_le hn gw6.size) fun e => by cases e; omega).trans (gw6.block n hn)⟩
      have t7 := h.gr gw7
      have ql7 : (Instr.lookup TMk (.map (some km)) (.agg #[.int .i64 x1, .int .i64 x2]) false).run Try.prog w7 = .ok (.pointer (some ⟨bl, 0, none⟩)) w7 := by
        have := t7.look hXd
        rw [e1] at this
        exact this
      have hrk7 : Kr w7 w.heap.size (.slice p N cap) ks := by
        have h8 := World.ownsRow.kept hH.rk (w' := W6.drew) (row := none) ⟨g6d.os, g6d.tape, g6d.output, g6d.size, fun k hk _ => g6d.block k hk⟩ (by
          rw [hpg]; exact .inr (by simp [Value.ownBlock]))
        refine World.ownsRow.kept h8 gm7 (.inr fun e => ?_)
        rw [hpg] at e h8
        cases e
        rw [hNk] at h8
        obtain ⟨cur2, hc2, -⟩ := row_blk h8
        rw [hmc] at hc2
        injection hc2 with h10
        injection h10 with _ h11
        cases h11
      have HE := Lib.hid (show Gr w w7 ∧ HeldAt w w7 kb mb (.slice p N cap) (.slice (some ⟨mg, 0, none⟩) N N) ks (T.mds (ks.take (j + 1)) ++ List.replicate (N - (j + 1)) 0) from ⟨gw7, stay kb6 (by decide), stay mb6 (by decide), hrk7, m7, hH.kl, hH.ml⟩)
      have q0 := t6.c3.1
      have q1 := mb6.cell 0
      have q2 := k6.cell 0
      have q3 := k6.cell 1
      have q4 := lb.cell 0
      have p0 := t7.c3.1
      have p1 := (stay mb6 (by decide)).cell 0
      have p2 := (stay (show Blk W6.drew xb TKey _ from k6) (by decide)).cell 0
      have p3 := (stay (show Blk W6.drew xb TKey _ from k6) (by decide)).cell 1
      have p4 := (stay lb (by decide)).cell 0
      have q5 := hm6.cellAt hml.symm j hlt
      have q6 := hm6.frozenAt hml.symm j
      rw [← hMD] at q4 p4
      simp at q1 q2 q3 q4 p1 p2 p3 p4
      have HW6 := Lib.hid (And.intro hW6 (And.intro hxb hw7))
      have hw1 : IntKind.i64.wrap ((j : Int) + 1) = ((j + 1 : Nat) : Int) := by rw [IntWalk.i64_in _ (by omega)]; omega
      have HMe : Hid (j + 1 ≤ N ∧ N - (j + 1) < N - j) := Lib.hid ⟨by omega, by omega⟩
      subst hpg
      clear hgr hH h hhs hln hks hkl hksd hNk hjl hX hXm hXd hl hMD hml g6 k6 hW6 hxb g6d gw6 t6 e1 e2 lb lm ln hm6 hmc hmgl mb6 kb6 m7 gm7 hset hne stay gw7 t7 hrk7 hw7 hj e9
      go_upto_region 6 with fail
      rw [show (wr.alloc (.cells #[.int .i64 x1, .int .i64 x2] 29)) = W6 from HW6.out.1.symm, ← HW6.out.2.1]
      go_region_held3 (fun V => V.cell? ⟨t, 0, none⟩ = some (.map (some km)) ∧ V.cell? ⟨mb, 0, none⟩ = some (.slice (some ⟨mg, 0, none⟩) N N) ∧ V.cell? ⟨xb, 0, none⟩ = some (.int .i64 x1) ∧ V.cell? ⟨xb, 1, none⟩ = some (.int .i64 x2) ∧ V.cell? ⟨bl, 0, none⟩ = some (.int .i64 MD) ∧ (Instr.lookup TMk (.map (some km)) (.agg #[.int .i64 x1, .int .i64 x2]) false).run Try.prog V = .ok (.pointer (some ⟨bl, 0, none⟩)) V) (first | exact ⟨q0, q1, q2, q3, q4, ql⟩ | (rw [← HW6.out.2.2]; exact ⟨p0, p1, p2, p3, p4, ql7⟩)) (fail)
      rw [← HW6.out.2.2]
      go_wp2_with fail
      go_roundw
      case rel => exact ⟨j + 1, by simp, HMe.out.1, HE⟩
      case measure => simpa [intOf] using HMe.out.2
    · have g3 : ¬ (j : Int) < (N : Int) := by omega
      have hjN : j = N := by omega
      have HE : Hid (RetHeld T o w (.returned (.func (.func 36) #[] #[.pointer (some ⟨kb, 0, none⟩), .pointer (some ⟨mb, 0, none⟩)])) wr) := Lib.hid (by
        obtain ⟨h1, h2⟩ := HR.out
        have hNk := HW.out.2.2.2.2.2
        rw [hjN, Nat.sub_self, List.take_of_length_le (by omega), List.replicate_zero, List.append_nil] at h2
        refine ⟨kb, mb, .slice p N cap, .slice (some ⟨mg, 0, none⟩) N N, rfl, h1, ?_⟩
        rw [← HH.out.2.2.2.1]
        exact h2)
      clear hjN
      go_wp2_with fail
      go_ret
      exact HE.out
end
end Go.Proofs.Ytbmcdlcoojmppaa

