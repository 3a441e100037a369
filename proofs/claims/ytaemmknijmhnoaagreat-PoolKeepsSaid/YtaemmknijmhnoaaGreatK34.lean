/-
  Texts, put together: Pool20 Pool21 Pool22.
-/
import Derived.Test.YtaemmknijmhnoaaGreatK33
set_option linter.unusedVariables false
set_option linter.unusedSimpArgs false
/-
  The code's pool: what making room leaves.
-/
namespace Go.Proofs.YtaemmknijmhnoaaGreat
open Go.RowKit Go.Maps

/-- Those pages are not used any more. -/
def Pl.off (P : Pl) (xs : List Nat) : Pl := { P with fr := fun j => if j ∈ xs then (P.fr j).map fun f => { f with used := false } else P.fr j }
theorem Pl.off_nil (P : Pl) : P.off [] = P := by unfold Pl.off; simp
theorem Pl.off_snoc (P : Pl) (S : List Nat) (x : Nat) {f : PFr} (hf : (P.off S).fr x = some f) : P.off (S ++ [x]) = (P.off S).put x { f with used := false } := by
  have hf' : (if x ∈ S then (P.fr x).map fun f => ({ f with used := false } : PFr) else P.fr x) = some f := hf
  unfold Pl.off Pl.put
  simp only [List.mem_append, List.mem_singleton]
  congr 1
  funext j
  by_cases hj : j = x
  · subst hj
    by_cases hm : j ∈ S
    · rw [if_pos hm] at hf'
      cases hp : P.fr j with
      | none => rw [hp] at hf'; cases hf'
      | some g =>
        rw [hp] at hf'
        simp only [Option.map_some, Option.some.injEq] at hf'
        subst hf'
        simp
    · rw [if_neg hm] at hf'
      simp [hf']
  · simp [hj]
theorem Pl.off_step (P : Pl) {xs : List Nat} {k : Nat} (hk : k < xs.length) {f : PFr} (hf : (P.off (xs.take k)).fr (xs.getD k 0) = some f) : P.off (xs.take (k + 1)) = (P.off (xs.take k)).put (xs.getD k 0) { f with used := false } := by
  rw [take_succ_getD hk, Pl.off_snoc P _ _ hf]
theorem Pl.off_none (P : Pl) (xs : List Nat) (i : Nat) : (P.off xs).fr i = none ↔ P.fr i = none := by
  show (if i ∈ xs then (P.fr i).map fun f => ({ f with used := false } : PFr) else P.fr i) = none ↔ _
  by_cases h : i ∈ xs
  · rw [if_pos h]; simp
  · rw [if_neg h]
/-- Those pages went, one after another. -/
def Pl.leave (P : Pl) (xs : List Nat) : Pl := { P with fr := fun j => if j ∈ xs then none else P.fr j, hand := match xs.getLast? with | some i => (i : Int) | none => P.hand }
theorem Pl.leave_nil (P : Pl) : P.leave [] = P := by unfold Pl.leave; simp
theorem Pl.leave_snoc (P : Pl) (S : List Nat) (x : Nat) : P.leave (S ++ [x]) = { (P.leave S).gone x with hand := (x : Int) } := by
  unfold Pl.leave Pl.gone
  simp only [List.mem_append, List.mem_singleton, List.getLast?_append, List.getLast?_singleton, Option.some_or]
  congr 1
  funext j
  by_cases hj : j = x
  · simp [hj]
  · simp [hj]
theorem Pl.leave_step (P : Pl) {xs : List Nat} {k : Nat} (hk : k < xs.length) : P.leave (xs.take (k + 1)) = { (P.leave (xs.take k)).gone (xs.getD k 0) with hand := ((xs.getD k 0 : Nat) : Int) } := by
  rw [take_succ_getD hk, Pl.leave_snoc]
/-- Their blocks went. -/
def bLeave (B : Nat → Option Nat) (xs : List Nat) : Nat → Option Nat := fun j => if j ∈ xs then none else B j
theorem bLeave_nil (B : Nat → Option Nat) : bLeave B [] = B := by unfold bLeave; simp
theorem bLeave_step (B : Nat → Option Nat) {xs : List Nat} {k : Nat} (hk : k < xs.length) : bLeave B (xs.take (k + 1)) = fun j => if j = xs.getD k 0 then none else bLeave B (xs.take k) j := by
  rw [take_succ_getD hk]
  unfold bLeave
  funext j
  by_cases hj : j = xs.getD k 0
  · rw [if_pos (by rw [hj]; simp), if_pos hj]
  · rw [if_neg hj]
    simp only [List.mem_append, List.mem_singleton, hj, or_false]
theorem bLeave_sub {B : Nat → Option Nat} {xs : List Nat} {b m q : Nat} (h : plS b m (bLeave B xs) q) : plS b m B q := by
  rcases h with h | h | ⟨i, h⟩
  · exact .inl h
  · exact .inr (.inl h)
  · refine .inr (.inr ⟨i, ?_⟩)
    unfold bLeave at h
    split at h
    · cases h
    · exact h
theorem goingL_mem {u : Nat → Bool} {xs : List Nat} {k i : Nat} (h : i ∈ goingL u xs k) : i ∈ xs := by
  unfold goingL at h
  rcases List.mem_append.1 (List.mem_of_mem_take h) with h | h <;> exact (List.mem_filter.1 h).1
theorem goingL_len (u : Nat → Bool) (xs : List Nat) (k : Nat) : (goingL u xs k).length ≤ xs.length := by
  unfold goingL
  rw [List.length_take, List.length_append, filt_len]
  omega
theorem sparedL_mem {u : Nat → Bool} {i : Nat} : ∀ {xs : List Nat} {k : Nat}, i ∈ sparedL u xs k → i ∈ xs
  | [], k, h => by simp [sparedL] at h
  | a :: r, k, h => by
    unfold sparedL at h
    split at h
    · simp at h
    · split at h
      · rcases List.mem_cons.1 h with h | h
        · exact List.mem_cons.2 (.inl h)
        · exact List.mem_cons_of_mem _ (sparedL_mem h)
      · exact List.mem_cons_of_mem _ (sparedL_mem h)
theorem sparedL_len {u : Nat → Bool} : ∀ {xs : List Nat} {k : Nat}, (sparedL u xs k).length ≤ xs.length
  | [], k => by simp [sparedL]
  | a :: r, k => by
    unfold sparedL
    split
    · simp
    · split
      · have := sparedL_len (u := u) (xs := r) (k := k); simp only [List.length_cons]; omega
      · have := sparedL_len (u := u) (xs := r) (k := k - 1); simp only [List.length_cons]; omega
theorem Pl.round_mem (P : Pl) {i : Nat} (h : i ∈ P.round) : i < 65536 ∧ P.fr i ≠ none := by
  unfold Pl.round at h
  refine (P.mem_pages i).1 ?_
  rcases List.mem_append.1 h with h | h
  · exact List.mem_of_mem_drop h
  · exact List.mem_of_mem_take h
theorem Pl.round_len (P : Pl) : P.round.length = P.pages.length := by
  unfold Pl.round
  rw [List.length_append, List.length_drop, List.length_take]
  have := P.behind_le
  omega
theorem PlOk.pages_len {P : Pl} {N : Nat} (h : PlOk P N) : P.pages.length ≤ N := by
  obtain ⟨d, hd⟩ : ∃ d, N + d = 65536 := ⟨65536 - N, by have := h.n; omega⟩
  unfold Pl.pages
  rw [← hd, List.range_add, List.filter_append, List.length_append]
  have h1 := List.length_filter_le (fun i => (P.fr i).isSome) (List.range N)
  rw [List.length_range] at h1
  have h2 : ((List.range d).map (N + ·)).filter (fun i => (P.fr i).isSome) = [] := by
    rw [List.filter_eq_nil_iff]
    intro a ha hs
    obtain ⟨x, -, rfl⟩ := List.mem_map.1 ha
    have := h.lt (N + x) (by intro e; rw [e] at hs; simp at hs)
    omega
  rw [h2]
  simpa using h1
theorem getD_mem {xs : List Nat} {j : Nat} (h : j < xs.length) : xs.getD j 0 ∈ xs := by simp [List.getD, h]
theorem PlOk.off {P : Pl} {N : Nat} (h : PlOk P N) (xs : List Nat) : PlOk (P.off xs) N := ⟨fun i hi => h.lt i fun e => hi ((P.off_none xs i).2 e), h.n, h.h0, h.h1, h.m0, h.m1⟩
theorem PlOk.leave {P : Pl} {N : Nat} (h : PlOk P N) {xs : List Nat} (hx : ∀ i, i ∈ xs → i < 65536) : PlOk (P.leave xs) N := by
  have hh : -1 ≤ (P.leave xs).hand ∧ (P.leave xs).hand < 65536 := by
    show -1 ≤ (match xs.getLast? with | some i => (i : Int) | none => P.hand) ∧ (match xs.getLast? with | some i => (i : Int) | none => P.hand) < 65536
    cases e : xs.getLast? with
    | none => exact ⟨h.h0, h.h1⟩
    | some i =>
      have := hx i (List.mem_of_getLast? e)
      show -1 ≤ (i : Int) ∧ (i : Int) < 65536
      omega
  refine ⟨fun i hi => h.lt i fun e => hi ?_, h.n, hh.1, hh.2, h.m0, h.m1⟩
  show (if i ∈ xs then none else P.fr i) = none
  rw [e]; simp
/-- How many pages must go for one to come. -/
def Pl.many (P : Pl) : Nat := ((P.pages.length : Int) - P.most + 1).toNat
/-- Room is made. -/
def Pl.mr (P : Pl) (s : St) (L : Lg) : Int × Pl × St × Lg :=
  if P.held = true ∨ (P.pages.length : Int) < P.most then (0, P, s, L) else
    if (P.wr (goingL P.usd P.round P.many) s L).1 ≠ 0 then (8, P, (P.wr (goingL P.usd P.round P.many) s L).2) else (0, (P.off (sparedL P.usd P.round P.many)).leave (goingL P.usd P.round P.many), (P.wr (goingL P.usd P.round P.many) s L).2)
theorem Pl.mr_fr (P : Pl) (s : St) (L : Lg) {i : Nat} (h : P.fr i = none) : (P.mr s L).2.1.fr i = none := by
  unfold Pl.mr
  split
  · exact h
  · split
    · exact h
    · show (if i ∈ goingL P.usd P.round P.many then none else (P.off (sparedL P.usd P.round P.many)).fr i) = none
      rw [(P.off_none _ i).2 h]
      simp
section
variable {w w' w'' : World} {b m n : Nat} {pd pl : Value} {B : Nat → Option Nat} {P : Pl} {S S' : Nat → Prop}
theorem PlAt.setHand (h : PlAt w b pd pl m n B P) (x : Int) : PlAt (w.setCell ⟨b, 5, none⟩ (.int .i64 x)) b pd pl m n B { P with hand := x } := by
  have ho : ∀ k, k ≠ b → (w.setCell ⟨b, 5, none⟩ (.int .i64 x)).heap[k]? = w.heap[k]? := fun k hk => Below.heap_setCell w _ _ k hk
  exact ⟨h.blk.set 5 (.int .i64 x), h.map.stays (ho m (Ne.symm h.ne)), h.most, h.has, fun i c hc => by
    obtain ⟨f, h1, h2, h3⟩ := h.frs i c hc
    exact ⟨f, h1, h2.stays (ho c (h.apart hc).1), h3⟩, h.inj, h.dsk, h.lg⟩
theorem Upd.frOnly (h : FrOnly B w w') : Upd (plS b m B) (plS b m B) w w' :=
  ⟨h.os, h.tape, h.output, h.size, fun k hk hn => h.block k hk fun i hi => hn (.inr (.inr ⟨i, hi⟩)), fun k hk => .inl hk⟩
theorem Upd.byMap (h : w.grownBy w' (some m)) : Upd (plS b m B) (plS b m B) w w' :=
  ⟨h.os, h.tape, h.output, h.size, fun k hk hn => h.block k hk fun e => hn (.inr (.inl (by cases e; rfl))), fun k hk => .inl hk⟩
theorem Upd.setB (w : World) (o : Nat) (u : Value) : Upd (plS b m B) (plS b m B) w (w.setCell ⟨b, o, none⟩ u) := by
  have hb := (Below.refl 0 w).setCell (p := ⟨b, o, none⟩) (Nat.zero_le _) u
  exact ⟨hb.os, hb.tape, hb.output, hb.size, fun k _ hk => Below.heap_setCell w _ _ k fun e => hk (.inl e), fun k hk => .inl hk⟩
theorem Upd.both {B' : Nat → Option Nat} (h : Upd S S' w w') (k : Upd (plS b m B) (plS b m B) w' w'') (hl : ∀ q, plS b m B q → q < w.heap.size) (ha : ∀ q, S' q → ¬ plS b m B q) (hB : ∀ q, plS b m B' q → plS b m B q) : Upd (uS S b m B) (uS S' b m B') w w'' := by
  refine ⟨k.os.trans h.os, k.tape.trans h.tape, k.output.trans h.output, Nat.le_trans h.size k.size, fun q hq hn => ?_, fun q hq => ?_⟩
  · exact (k.block q (Nat.lt_of_lt_of_le hq h.size) fun e => hn (.inr e)).trans (h.block q hq fun e => hn (.inl e))
  · rcases hq with hq | hq
    · rcases h.fresh q hq with h1 | h1
      · exact .inl (.inl h1)
      · exact .inr h1
    · exact .inl (.inr (hB q hq))
end
end Go.Proofs.YtaemmknijmhnoaaGreat

/-
  The code's pool: room is made.
-/
namespace Go.Proofs.YtaemmknijmhnoaaGreat
open Go.RowKit Go.Maps

theorem Ints.by_ {w w' : World} {base : Nat} {v : Value} {xs : List Nat} {F F' : Nat → Prop} (h : Ints w base v xs) (u : Upd F F' w w') (hF : ∀ k, F k → k < base) : Ints w' base v xs :=
  h.stays fun g hg => u.block g (World.ownsRow.lt h g hg).2 fun e => by have := hF g e; have := (World.ownsRow.lt h g hg).1; omega
section
variable {w w' : World} {b m n : Nat} {pd pl : Value} {B : Nat → Option Nat} {P : Pl} {S : Nat → Prop} {s : St} {L : Lg} {N k R : Nat}
set_option maxRecDepth 100000 in
set_option maxHeartbeats 2000000 in
theorem makeRoom_any (h : PoAt w b m n pd pl B S P s L N k) (hR : R + 2 * N ≤ k) : Calls Tryz.prog 69 #[.pointer (some ⟨b, 0, none⟩)] w fun e w' => e = .returned (.int .i64 (P.mr s L).1) ∧ ∃ S' B', PoAt w' b m n pd pl B' S' (P.mr s L).2.1 (P.mr s L).2.2.1 (P.mr s L).2.2.2 N R ∧ Upd (uS S b m B) (uS S' b m B') w w' := by
  by_cases hr : P.held = true ∨ (P.pages.length : Int) < P.most
  · unfold Pl.mr
    rw [if_pos hr]
    refine (makeRoom_none h.pl hr ⟨by have := h.ok.m0; omega, by have := h.ok.m1; omega⟩).mono ?_
    rintro e w' ⟨h1, h2⟩
    exact ⟨h1, S, B, (h.gr h2).lower (by omega), Upd.of_gr h2⟩
  have hpl := h.pl
  have hok := h.ok
  obtain ⟨D, ho, hs⟩ := hpl.map.size hpl.has
  have hl := fun ty q => (ownsMap_stays ho (show (w.drewN q).heap[m]? = w.heap[m]? from rfl)).len Tryz.underlying78 ty
  obtain ⟨_, _, c2, c3, c4, _⟩ := hpl.c6
  have hPN := hok.pages_len
  have hN6 := hok.n
  have hmo := hok.m0
  have hm4 := hok.m1
  have hheld : P.held = false := by cases e : P.held with | false => rfl | true => exact absurd (.inl e) hr
  have hge : P.most ≤ (P.pages.length : Int) := by have := not_or.1 hr; omega
  rw [hheld] at c3
  obtain ⟨Q, hQ⟩ : ∃ Q, Q = P.pages.length := ⟨_, rfl⟩
  obtain ⟨M, hM⟩ : ∃ M, M = P.most := ⟨_, rfl⟩
  obtain ⟨Y, hY⟩ : ∃ Y, Y = P.many := ⟨_, rfl⟩
  have hYv : (Y : Int) = (P.pages.length : Int) - P.most + 1 := by rw [hY]; unfold Pl.many; omega
  obtain ⟨g, hg⟩ : ∃ g, g = goingL P.usd P.round P.many := ⟨_, rfl⟩
  obtain ⟨sp, hsp⟩ : ∃ sp, sp = sparedL P.usd P.round P.many := ⟨_, rfl⟩
  obtain ⟨X, hX⟩ : ∃ X, X = P.wr g s L := ⟨_, rfl⟩
  have HMr : Hid (P.mr s L = if X.1 ≠ 0 then (8, P, X.2) else (0, (P.off sp).leave g, X.2)) := Lib.hid (by
    unfold Pl.mr; rw [if_neg hr, ← hg, ← hsp, ← hX])
  have HG : Hid (∀ j, j < g.length → g.getD j 0 < 65536 ∧ P.fr (g.getD j 0) ≠ none) := Lib.hid fun j hj => P.round_mem (goingL_mem (by rw [← hg]; exact getD_mem hj))
  have HSp : Hid (∀ j, j < sp.length → sp.getD j 0 < 65536 ∧ P.fr (sp.getD j 0) ≠ none) := Lib.hid fun j hj => P.round_mem (sparedL_mem (by rw [← hsp]; exact getD_mem hj))
  have hgl : g.length ≤ N := by rw [hg]; refine Nat.le_trans (goingL_len _ _ _) ?_; rw [P.round_len]; exact hPN
  have hsl : sp.length ≤ N := by rw [hsp]; refine Nat.le_trans sparedL_len ?_; rw [P.round_len]; exact hPN
  have HLn : Hid (g.length ≤ N ∧ sp.length ≤ N ∧ N ≤ 65536) := Lib.hid ⟨hgl, hsl, hN6⟩
  have HCh : Hid (∀ W, Gr w W → Calls Tryz.prog 89 #[.pointer (some ⟨b, 0, none⟩), .int .i64 ((Q : Int) - M + 1)] W fun e w' => ∃ v1 v2, e = .returned (.tuple #[v1, v2]) ∧ Ints w' w.heap.size v1 g ∧ Ints w' w.heap.size v2 sp ∧ Gr w w') := Lib.hid fun W gW => by
    rw [show (Q : Int) - M + 1 = (Y : Int) by rw [hQ, hM]; exact hYv.symm]
    refine (choose_any (hpl.gr gW) hok.hin ⟨hok.h0, hok.h1⟩ Y (by omega) (by omega)).mono ?_
    rintro e w' ⟨v1, v2, rfl, k1, k2, k3⟩
    rw [hY, ← hg] at k1
    rw [hY, ← hsp] at k2
    exact ⟨v1, v2, rfl, Ints.low k1 gW.size, Ints.low k2 gW.size, Gr.trans gW k3⟩
  have HWr : Hid (∀ W v1 v2, Gr w W → Ints W w.heap.size v1 g → Ints W w.heap.size v2 sp → Calls Tryz.prog 44 #[.pointer (some ⟨b, 0, none⟩), v1] W fun e w' => ∃ er S', e = .returned (.int .i64 er) ∧ er = X.1 ∧ PoAt w' b m n pd pl B S' P X.2.1 X.2.2 N R ∧ Upd S S' w w' ∧ Ints w' w.heap.size v1 g ∧ Ints w' w.heap.size v2 sp) := Lib.hid fun W v1 v2 gW k1 k2 => by
    refine (write_po (K0 := fun q => v1.ownBlock = some q ∨ v2.ownBlock = some q) (fun q hq => ?_) (h.gr gW) k1.isl (by omega) (fun j hj => (HG.out j hj).1) (R := R) (by omega)).mono ?_
    · have h1 : w.heap.size ≤ q ∧ q < W.heap.size := hq.elim (fun e => World.ownsRow.lt k1 q e) (fun e => World.ownsRow.lt k2 q e)
      exact ⟨fun e => by have := h.cd.low q e; omega, h1.2⟩
    · rintro e w' ⟨rfl, h2, S', h3, h4⟩
      rw [← hX] at h3 ⊢
      exact ⟨_, S', rfl, rfl, h3, Upd.pre gW h4, k1.stays fun q hq => h2 q (.inl hq), k2.stays fun q hq => h2 q (.inr hq)⟩
  have HLow : Hid (∀ q, plS b m B q → q < w.heap.size) := Lib.hid hpl.low
  rw [hs] at hl
  rw [← hQ] at hl hge hPN hYv
  rw [← hM] at c2 hge hmo hm4 hYv
  have hw1 : IntKind.i64.wrap ((Q : Int) - M) = (Q : Int) - M := IntWalk.i64_in _ (by omega)
  have hw2 : IntKind.i64.wrap ((Q : Int) - M + 1) = (Q : Int) - M + 1 := IntWalk.i64_in _ (by omega)
  have hd : decide ((Q : Int) - M + 1 ≤ 0) = false := decide_eq_false (by omega)
  have HOk := Lib.hid hok
  clear h ho hs hQ hM hY hg hsp hX hr hpl hok hheld hgl hsl hR
  go_enter Tryz.func69, Tryz.ntmps69
  go_wp2_with fail
  go_quiet (fail)
  go_wp2_with fail
  refine (HCh.out (w.drewN _) ⟨rfl, rfl, rfl, Nat.le_refl _, fun _ _ => rfl⟩).mono ?_
  rintro e w1 ⟨v1, v2, rfl, k1, k2, g1⟩
  have HI1 := Lib.hid k1
  have HI2 := Lib.hid k2
  have HG1 := Lib.hid g1
  clear k1 k2 g1 c2 c3 c4 hl hw1 hw2 hd HCh
  go_wp2_with fail
  refine (HWr.out _ _ _ HG1.out HI1.out HI2.out).mono ?_
  rintro e w4 ⟨er, S', rfl, her, hpo, hu, k1, k2⟩
  have HPo := Lib.hid hpo
  have HU := Lib.hid hu
  have HV1 := Lib.hid k1
  have HV2 := Lib.hid k2
  clear hpo hu k1 k2 HI1 HI2 HG1 HWr
  by_cases he : er = 0
  · have HE : Hid (P.mr s L = (0, (P.off sp).leave g, X.2)) := Lib.hid (by rw [HMr.out, if_neg (by rw [← her, he]; simp)])
    subst he
    clear her HMr
    obtain ⟨p2, d2, e2⟩ := HV2.out.shape
    subst e2
    obtain ⟨p1, d1, e1⟩ := HV1.out.shape
    subst e1
    obtain ⟨A, hA⟩ : ∃ A, A = sp.length := ⟨_, rfl⟩
    obtain ⟨C, hC⟩ : ∃ C, C = g.length := ⟨_, rfl⟩
    have HA : Hid (A = sp.length ∧ A ≤ 65536 ∧ C = g.length ∧ C ≤ 65536) := Lib.hid ⟨hA, by have := HLn.out; omega, hC, by have := HLn.out; omega⟩
    have HV : Hid (∀ W, Upd (plS b m B) (plS b m B) w4 W → Ints W w.heap.size (.slice p2 A d2) sp ∧ Ints W w.heap.size (.slice p1 C d1) g) := Lib.hid fun W u => by
      rw [hA, hC]
      exact ⟨HV2.out.by_ u HLow.out, HV1.out.by_ u HLow.out⟩
    rw [← hA, ← hC]
    clear HV1 HV2 hA hC
    go_wp2_with fail
    go_loopw [41] (fun kv wr => ∃ k : Nat, k ≤ A ∧ kv = .int .i64 (k : Int) ∧ Hid (PlAt wr b pd pl m n B (P.off (sp.take k)) ∧ Upd (plS b m B) (plS b m B) w4 wr)) (fun kv _ => A - (intOf kv).toNat)
    case atStart => exact ⟨0, Nat.zero_le _, rfl, Lib.hid ⟨by rw [List.take_zero, Pl.off_nil]; exact HPo.out.pl, Upd.same _⟩⟩
    case round =>
      obtain ⟨k, hk, rfl, HW⟩ := hrel
      by_cases hlt : k < A
      · have g3 : (k : Int) < (A : Int) := by omega
        have hkd : k < sp.length := by have := HA.out.1; omega
        have hv := (HV.out _ HW.out.2).1
        rw [HA.out.1] at hv
        obtain ⟨q2, d3, e2⟩ := hv.full (by omega)
        simp only [Value.slice.injEq] at e2
        obtain ⟨rfl, _, rfl⟩ := e2
        have ck := hv.cellAt k hkd
        have cm := HW.out.1.c6.2.2.2.2.1
        obtain ⟨hx6, hxn⟩ := HSp.out k hkd
        have hst := fun f => P.off_step hkd (f := f)
        obtain ⟨x, hx⟩ : ∃ x, x = sp.getD k 0 := ⟨_, rfl⟩
        rw [← hx] at ck hst hx6 hxn
        have hl0 := HW.out.1.map.look x hx6
        have hw : IntKind.i64.wrap ((k : Int) + 1) = ((k + 1 : Nat) : Int) := by rw [IntWalk.i64_in _ (by have := HA.out.2; omega)]; omega
        cases hB : B x with
        | none => exact absurd ((P.off_none _ x).1 ((HW.out.1.has x).1 hB)) hxn
        | some c =>
          obtain ⟨f, h1, h2, h3⟩ := HW.out.1.frs x c hB
          have HS : Hid (P.off (sp.take (k + 1)) = (P.off (sp.take k)).put x { f with used := false }) := Lib.hid (hst f h1)
          rw [hB] at hl0
          have hl2 : (Instr.lookup TPm (.map (some m)) (.int .i64 (x : Int)) false).run Tryz.prog wr = .ok (.pointer (some ⟨c, 0, none⟩)) wr := hl0
          have k4 := (PFr.c4 h2).2.2.2
          have f4 := h2.frozen 251
          have HT : Hid (PlAt (wr.setCell ⟨c, 251, none⟩ (.bool false)) b pd pl m n B ((P.off (sp.take k)).put x { f with used := false }) ∧ Upd (plS b m B) (plS b m B) w4 (wr.setCell ⟨c, 251, none⟩ (.bool false))) := Lib.hid
            ⟨HW.out.1.turn hB (h3.use false) (by rw [← PFr.setUsed]; exact h2.set 251 (.bool false)) (fun j hj => Below.heap_setCell wr _ _ j hj), HW.out.2.trans (Upd.frOnly (FrOnly.cell hB wr _ _))⟩
          clear hst h1 hl0 hB hkd hx h2 h3 hx6 hxn hv
          go_wp2_with fail
          go_roundw
          case rel => exact ⟨k + 1, by omega, by go_num, Lib.hid ⟨by rw [HS.out]; exact HT.out.1, HT.out.2⟩⟩
          case measure => simp [intOf]; omega
      · obtain rfl : k = A := by omega
        have e : sp.take k = sp := List.take_of_length_le (by rw [← HA.out.1]; exact Nat.le_refl _)
        have h5 := HW.out
        rw [e] at h5
        obtain ⟨w5, hw5⟩ : ∃ w5, w5 = wr := ⟨_, rfl⟩
        rw [← hw5] at h5
        have H5 := Lib.hid h5
        have HW5 := Lib.hid hw5
        clear e h5 hw5
        go_wp2_with fail
        go_loopw [56] (fun kv wr => ∃ k : Nat, k ≤ C ∧ kv = .int .i64 (k : Int) ∧ Hid (PlAt wr b pd pl m n (bLeave B (g.take k)) ((P.off sp).leave (g.take k)) ∧ Upd (plS b m B) (plS b m B) w4 wr)) (fun kv _ => C - (intOf kv).toNat)
        case atStart => exact ⟨0, Nat.zero_le _, rfl, Lib.hid ⟨by rw [List.take_zero, Pl.leave_nil, bLeave_nil, ← HW5.out]; exact H5.out.1, by rw [← HW5.out]; exact H5.out.2⟩⟩
        case round =>
          obtain ⟨j, hj, rfl, HZ⟩ := hrel
          by_cases hlj : j < C
          · have g3 : (j : Int) < (C : Int) := by omega
            have hjd : j < g.length := by have := HA.out.2.2.1; omega
            have hv := (HV.out _ HZ.out.2).2
            rw [HA.out.2.2.1] at hv
            obtain ⟨q2, d3, e2⟩ := hv.full (by omega)
            simp only [Value.slice.injEq] at e2
            obtain ⟨rfl, _, rfl⟩ := e2
            have ck := hv.cellAt j hjd
            have cm := HZ.out.1.c6.2.2.2.2.1
            obtain ⟨hx6, hxn⟩ := HG.out j hjd
            have hst := (P.off sp).leave_step hjd
            have hsb := bLeave_step B hjd
            obtain ⟨x, hx⟩ : ∃ x, x = g.getD j 0 := ⟨_, rfl⟩
            rw [← hx] at ck hst hx6 hxn hsb
            have hw : IntKind.i64.wrap ((j : Int) + 1) = ((j + 1 : Nat) : Int) := by rw [IntWalk.i64_in _ (by have := HA.out.2; omega)]; omega
            obtain ⟨w6, hdel, hfm, hgb⟩ := HZ.out.1.map.drop x hx6 0
            have hp6 := HZ.out.1.drop hfm hgb
            have HT : Hid (PlAt (w6.setCell ⟨b, 5, none⟩ (.int .i64 (x : Int))) b pd pl m n (bLeave B (g.take (j + 1))) ((P.off sp).leave (g.take (j + 1))) ∧ Upd (plS b m B) (plS b m B) w4 (w6.setCell ⟨b, 5, none⟩ (.int .i64 (x : Int)))) := Lib.hid
              ⟨by rw [hst, hsb]; exact hp6.setHand (x : Int), (HZ.out.2.trans (Upd.byMap hgb)).trans (Upd.setB w6 _ _)⟩
            have k5 := hp6.c6.2.2.2.2.2
            have f5 := hp6.blk.frozen 5
            clear hst hsb hjd hx hx6 hxn hv hfm hgb hp6
            go_wp2_with fail
            go_roundw
            case rel => exact ⟨j + 1, by omega, by go_num, HT⟩
            case measure => simp [intOf]; omega
          · obtain rfl : j = C := by omega
            have e : g.take j = g := List.take_of_length_le (by rw [← HA.out.2.2.1]; exact Nat.le_refl _)
            have h6 := HZ.out
            rw [e] at h6
            have H6 := Lib.hid h6
            clear e h6
            go_wp2_with fail
            go_ret
            rw [HE.out]
            have hpo := HPo.out
            refine ⟨rfl, S', bLeave B g, ⟨hpo.cd.stays (fun q hq => H6.out.2.block q (hpo.cd.low q hq) (hpo.ap q hq)) H6.out.2.size, H6.out.1, fun q hq e => hpo.ap q hq (bLeave_sub e), hpo.bud, (HOk.out.off sp).leave fun i hi => ?_, hpo.cnt⟩, HU.out.both H6.out.2 HLow.out hpo.ap fun q hq => bLeave_sub hq⟩
            obtain ⟨z, hz, rfl⟩ := List.getElem_of_mem hi
            have := (HG.out z hz).1
            simpa [List.getD, hz] using this
  · have hne : (er == 0) = false := beq_eq_false_iff_ne.2 he
    have HE : Hid (P.mr s L = (8, P, X.2)) := Lib.hid (by rw [HMr.out, if_pos (by rw [← her]; exact he)])
    clear her HMr
    go_wp2_with fail
    go_ret
    rw [HE.out]
    exact ⟨rfl, S', B, HPo.out, HU.out.both (Upd.same _) HLow.out HPo.out.ap fun q hq => hq⟩
end
end Go.Proofs.YtaemmknijmhnoaaGreat

/-
  The code's pool: a page is used.
-/
namespace Go.Proofs.YtaemmknijmhnoaaGreat
open Go.RowKit Go.Maps

/-- What using a page leaves and answers. -/
def Pl.us (P : Pl) (i : Nat) (s : St) (L : Lg) : Int × Pl × St × Lg := match P.fr i with
  | some f => (0, P.use i f, s, L)
  | none => if (P.mr s L).1 ≠ 0 then P.mr s L else (0, (P.mr s L).2.1.use i (frS (secN ((P.mr s L).2.2.1.nw i))), (P.mr s L).2.2)
theorem PlOk.use {P : Pl} {N i : Nat} (h : PlOk P N) (hi : i < N) (f : PFr) : PlOk (P.use i f) N := ⟨fun j hj => by
    by_cases e : j = i
    · omega
    · refine h.lt j ?_
      have h1 : (if j = i then some ({ f with used := true } : PFr) else P.fr j) ≠ none := hj
      rwa [if_neg e] at h1, h.n, h.h0, h.h1, h.m0, h.m1⟩
section
variable {w w' : World} {b m n : Nat} {pd pl : Value} {B : Nat → Option Nat} {P : Pl} {S : Nat → Prop} {s : St} {L : Lg} {N k R : Nat}
set_option maxRecDepth 100000 in
set_option maxHeartbeats 1000000 in
/-- No room could be made. -/
theorem use_refused {i : Nat} (hi : i < 65536) (Z : World → Prop) {er : Int} (her : er ≠ 0) (h : PlAt w b pd pl m n B P) (hno : P.fr i = none)
    (hMR : Calls Tryz.prog 69 #[.pointer (some ⟨b, 0, none⟩)] w fun e w' => e = .returned (.int .i64 er) ∧ Z w') :
    Calls Tryz.prog 41 #[.pointer (some ⟨b, 0, none⟩), .int .i64 (i : Int)] w fun e w' => e = .returned (.tuple #[.pointer none, .int .i64 er]) ∧ Z w' := by
  have c4 := h.c6.2.2.2.2.1
  have hl := h.map.look i hi
  rw [(h.has i).2 hno] at hl
  have hl2 : (Instr.lookup TPm (.map (some m)) (.int .i64 (i : Int)) false).run Tryz.prog w = .ok (.pointer none) w := hl
  have HM := Lib.hid hMR
  have hne : (er == 0) = false := beq_eq_false_iff_ne.2 her
  clear h hl hMR hno her
  go_enter Tryz.func41, Tryz.ntmps41
  go_wp2_with fail
  refine HM.out.mono ?_
  rintro e w1 ⟨rfl, hZ⟩
  have HZ := Lib.hid hZ
  clear hZ
  go_wp2_with fail
  go_ret2
  exact ⟨rfl, HZ.out⟩
/-- A page is used: its frame is answered. -/
def RetUs (P : Pl) (i : Nat) (s : St) (L : Lg) (b m n : Nat) (pd pl : Value) (B : Nat → Option Nat) (S : Nat → Prop) (N R : Nat) (w : World) (e : Ending) (w' : World) : Prop :=
  ∃ S' n' B', PoAt w' b m n' pd pl B' S' (P.us i s L).2.1 (P.us i s L).2.2.1 (P.us i s L).2.2.2 N R ∧ Upd (uS S b m B) (uS S' b m B') w w' ∧
    (((P.us i s L).1 ≠ 0 ∧ e = .returned (.tuple #[.pointer none, .int .i64 (P.us i s L).1])) ∨ ((P.us i s L).1 = 0 ∧ ∃ c f, e = .returned (.tuple #[.pointer (some ⟨c, 0, none⟩), .int .i64 0]) ∧ B' i = some c ∧ (P.us i s L).2.1.fr i = some f))
theorem use_any {i : Nat} (h : PoAt w b m n pd pl B S P s L N k) (hi : i < N) (hR : R + 2 * N + 1 ≤ k) : Calls Tryz.prog 41 #[.pointer (some ⟨b, 0, none⟩), .int .i64 (i : Int)] w (RetUs P i s L b m n pd pl B S N R w) := by
  have hi6 : i < 65536 := by have := h.ok.n; omega
  cases hf : P.fr i with
  | some f =>
    obtain ⟨c, hB⟩ : ∃ c, B i = some c := by
      cases hB : B i with
      | none => rw [(h.pl.has i).1 hB] at hf; cases hf
      | some c => exact ⟨c, rfl⟩
    refine (use_in h.pl hi6 hB hf).mono ?_
    rintro e w' ⟨rfl, h1, h2⟩
    have hus : P.us i s L = (0, P.use i f, s, L) := by unfold Pl.us; rw [hf]
    have hu := Upd.frOnly (b := b) (m := m) h2
    unfold RetUs
    rw [hus]
    exact ⟨S, n, B, ⟨h.cd.stays (fun q hq => hu.block q (h.cd.low q hq) (h.ap q hq)) hu.size, h1, h.ap, h.bud.lower (by omega), h.ok.use hi f, by have := h.cnt; omega⟩, (Upd.same (F := S) w).both hu h.pl.low h.ap fun _ e => e,
      .inr ⟨rfl, c, { f with used := true }, rfl, hB, if_pos rfl⟩⟩
  | none =>
    by_cases he : (P.mr s L).1 = 0
    · have hus : P.us i s L = (0, (P.mr s L).2.1.use i (frS (secN ((P.mr s L).2.2.1.nw i))), (P.mr s L).2.2) := by unfold Pl.us; rw [hf]; exact if_neg (by rw [he]; simp)
      unfold RetUs
      rw [hus]
      have hno := P.mr_fr s L hf
      have hm := makeRoom_any h (R := R + 1) (by omega)
      rw [he] at hm
      obtain ⟨P1, hP1⟩ : ∃ P1, P1 = (P.mr s L).2.1 := ⟨_, rfl⟩
      obtain ⟨s1, hs1⟩ : ∃ s1, s1 = (P.mr s L).2.2.1 := ⟨_, rfl⟩
      obtain ⟨L1, hL1⟩ : ∃ L1, L1 = (P.mr s L).2.2.2 := ⟨_, rfl⟩
      rw [← hP1, ← hs1, ← hL1] at hm
      have e2 : (P.mr s L).2.2 = (s1, L1) := by rw [hs1, hL1]
      rw [← hP1] at hno
      rw [e2, ← hP1]
      refine (use_miss hi6 (fun W n1 B1 P' s' => P' = P1 ∧ s' = s1 ∧ ∃ S1, n1 = n ∧ PoAt W b m n pd pl B1 S1 P1 s1 L1 N (R + 1) ∧ Upd (uS S b m B) (uS S1 b m B1) w W) h.pl hf (hm.mono ?_)).mono ?_
      · rintro e W ⟨rfl, S1, B1, h1, h2⟩
        obtain ⟨F, hd, -⟩ := h1.cd.disk (w' := W)
        exact ⟨rfl, n, B1, P1, F, s1, h1.pl, hd, by rw [h1.bud.len]; exact hi, hno, by have := h.cnt; omega, rfl, rfl, S1, rfl, h1, h2⟩
      · rintro e w' ⟨n1, B1, P', s', c, wM, ⟨rfl, rfl, S1, rfl, h1, h2⟩, rfl, h3, h4, h5⟩
        have hcS : ∀ q, S1 q → q ≠ c := fun q hq e => by have := h1.cd.low q hq; omega
        have hst : ∀ q, S1 q → w'.heap[q]? = wM.heap[q]? := fun q hq => h4.block q (h1.cd.low q hq) fun e => h1.ap q hq (.inr (.inl (by cases e; rfl)))
        refine ⟨S1, n1 + 1, _, ⟨h1.cd.stays hst h4.size, h3, fun q hq hp => ?_, h1.bud.lower (by omega), h1.ok.use hi _, by have := h.cnt; omega⟩, ⟨h4.os.trans h2.os, h4.tape.trans h2.tape, h4.output.trans h2.output, Nat.le_trans h2.size h4.size, fun q hq hn => ?_, fun q hq => ?_⟩, .inr ⟨rfl, c, _, rfl, if_pos rfl, if_pos rfl⟩⟩
        · rcases hp with hp | hp | ⟨j, hp⟩
          · exact h1.ap q hq (.inl hp)
          · exact h1.ap q hq (.inr (.inl hp))
          · dsimp only at hp
            split at hp
            · cases hp; exact hcS _ hq rfl
            · exact h1.ap q hq (.inr (.inr ⟨j, hp⟩))
        · exact (h4.block q (Nat.lt_of_lt_of_le hq h2.size) fun e => hn (.inr (.inr (.inl (by cases e; rfl))))).trans (h2.block q hq hn)
        · rcases hq with hq | hq | hq | ⟨j, hq⟩
          · exact h2.fresh q (.inl hq)
          · exact .inl (.inr (.inl hq))
          · exact .inl (.inr (.inr (.inl hq)))
          · dsimp only at hq
            split at hq
            · cases hq; exact .inr (Nat.le_trans h2.size h5)
            · exact h2.fresh q (.inr (.inr (.inr ⟨j, hq⟩)))
    · have hus : P.us i s L = P.mr s L := by unfold Pl.us; rw [hf]; exact if_pos he
      unfold RetUs
      rw [hus]
      refine (use_refused hi6 (fun W => ∃ S' B', PoAt W b m n pd pl B' S' (P.mr s L).2.1 (P.mr s L).2.2.1 (P.mr s L).2.2.2 N R ∧ Upd (uS S b m B) (uS S' b m B') w W) he h.pl hf (makeRoom_any h (by omega))).mono ?_
      rintro e w' ⟨rfl, S', B', h1, h2⟩
      exact ⟨S', n, B', h1, h2, .inl ⟨he, rfl⟩⟩
end
end Go.Proofs.YtaemmknijmhnoaaGreat

