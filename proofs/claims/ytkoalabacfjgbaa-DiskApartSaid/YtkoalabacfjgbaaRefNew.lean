
/-
  The document's disk: made of sectors.
-/
import Derived.Test.YtkoalabacfjgbaaRefWrite
namespace Go.Proofs.Ytkoalabacfjgbaa
open Go.RowKit Go.Maps

abbrev TLL : TypeId := 46
theorem info_row : (Try.prog.info? TL).map (fun i => (i.zero, i.size, i.bytes)) = some (some (.slice none 0 0), 1, 24) := by kernel_rfl

/-- One row behind a list of rows of one's own. -/
theorem app_row {w : World} {v : Value} {k : Nat} {xs : List Value} {o : Oper} {a : Act} {K : Act → World → Prop} {Q : Exit → Act → World → Prop} (s x : Operand) (ho : o.op = .call { callee := .builtin .append, args := #[s, x], argTypes := #[TLL, TLL] })
    (hs : a.eval s = v) (hr : w.ownsRow 0 TL 1 v k xs) {q : Nat} (hx : a.eval x = .slice (some ⟨q, 0, none⟩) 1 1) {u : Value} (hc : w.cell? ⟨q, 0, none⟩ = some u) (hu : u.oneCell' = true) (hk : k ≤ 1000000)
    (h : ∀ v' w', w'.ownsRow 0 TL 1 v' (k + 1) (xs ++ [u]) → w.grownBy w' v.ownBlock → (v'.ownBlock = v.ownBlock ∨ v'.ownBlock = some w.heap.size) → K (a.put o.dst v') w') : o.wp Try.prog a w K Q := by
  obtain ⟨i, hi, hz, hsz, hb⟩ := info_parts info_row
  obtain ⟨v', w', hrun, h1, h2, _, h3⟩ := run_append_own_at (P := Try.prog) w 0 TLL o.type TL i (.slice none 0 0) 1 24 Try.underlying46 hi hz hsz hb (by rfl) (by omega) v k xs hr ⟨q, 0, none⟩ 1 1 [u] (by simp) (fun j x hj => by
    cases j with
    | zero => simp at hj; subst hj; exact hc
    | succ j => simp at hj) (fun x hx => by simp at hx; subst hx; exact hu) (by unfold maxLen; omega) (by omega) (Nat.zero_le _)
  unfold Oper.wp execOp
  simp only [ho, resolve, invoke, builtin, Sem.run_bind, Sem.run_pure, Result.andThen_ok, List.map_toArray, List.map_cons, List.map_nil, hs, hx, hrun]
  exact h v' w' h1 h2 h3
theorem set_one : ∀ {cs : Array Value}, cs.size = 1 → ∀ v, cs.setIfInBounds 0 v = #[v]
  | ⟨[x]⟩, _, v => rfl
  | ⟨[]⟩, h, _ => by simp at h
  | ⟨_ :: _ :: _⟩, h, _ => by simp at h
theorem wp_buildRow {o : Oper} {a : Act} {w : World} {K : Act → World → Prop} {Q : Exit → Act → World → Prop} (x : Operand) (ho : o.op = .buildSlice TLL 1 #[(0, x)]) {q n c : Nat} (hx : a.eval x = .slice (some ⟨q, 0, none⟩) n c)
    (h : K (a.put o.dst (.slice (some ⟨w.heap.size, 0, none⟩) 1 1)) (w.alloc (.cells #[.slice (some ⟨q, 0, none⟩) n c] TL))) : o.wp Try.prog a w K Q := by
  obtain ⟨i, hi, hz, hsz, hb⟩ := info_parts info_row
  refine wp_buildSlice TLL TL 1 #[(0, x)] ho #[.slice (some ⟨q, 0, none⟩) n c] i (.slice none 0 0) Try.underlying46 hi hz (by rw [hsz]; decide) (by rw [hsz]; decide) ?_ h
  rw [hsz]
  simp only [List.map_toArray, List.map_cons, List.map_nil, hx]
  simp [Instr.fill, Value.cells]
  exact set_one (by simp) _

/-- As it is made: k rows there are. -/
structure NwAt (w0 w : World) (b k : Nat) (ls : List Sec) (sv : Value) (V : Nat → Value) : Prop where
  blk : Blk w b TRf #[sv, .int .i64 (-1), .bool false, .int .i64 0]
  row : w.ownsRow 0 TL 1 sv k ((List.range k).map V)
  rows : ∀ i, i < k → Row w (V i) [ls.getD i Sec.zero]
  gr : Gr w0 w
  lob : w0.heap.size ≤ b
  los : ∀ g, sv.ownBlock = some g → w0.heap.size ≤ g
  lor : ∀ i g, i < k → (V i).ownBlock = some g → w0.heap.size ≤ g
theorem outer_kind {w : World} {v : Value} {k : Nat} {xs : List Value} (h : w.ownsRow 0 TL 1 v k xs) {g : Nat} (hg : v.ownBlock = some g) : ∃ cur, w.heap[g]? = some (.cells cur TL (0, 0)) := by
  rcases h.2 with ⟨rfl, _⟩ | ⟨g', cap, cur, rfl, _, h2, _⟩
  · cases hg
  · cases hg; exact ⟨_, h2⟩
theorem outer_form {w : World} {v : Value} {k : Nat} {xs : List Value} (h : w.ownsRow 0 TL 1 v k xs) (hk : 0 < k) : ∃ g c, v = .slice (some ⟨g, 0, none⟩) k c := by
  rcases h.2 with ⟨rfl, h0⟩ | ⟨g', cap, cur, rfl, _, h2, _⟩
  · omega
  · exact ⟨_, _, rfl⟩
theorem outer_stays {w w' : World} {v : Value} {k : Nat} {xs : List Value} (h : w.ownsRow 0 TL 1 v k xs) (e : ∀ g, v.ownBlock = some g → w'.heap[g]? = w.heap[g]?) : w'.ownsRow 0 TL 1 v k xs := by
  refine ⟨h.1, ?_⟩
  rcases h.2 with h2 | ⟨g', cap, cur, rfl, h0, h2, r⟩
  · exact .inl h2
  · exact .inr ⟨g', cap, cur, rfl, h0, (e g' rfl).trans h2, r⟩
theorem outer_lt {w : World} {v : Value} {k : Nat} {xs : List Value} (h : w.ownsRow 0 TL 1 v k xs) {g : Nat} (hg : v.ownBlock = some g) : g < w.heap.size := by
  obtain ⟨cur, e⟩ := outer_kind h hg
  exact (Array.getElem?_eq_some_iff.1 e).1
theorem NwAt.neb {w0 w : World} {b k : Nat} {ls : List Sec} {sv : Value} {V : Nat → Value} (h : NwAt w0 w b k ls sv V) : sv.ownBlock ≠ some b := fun e => by
  obtain ⟨cur, hk⟩ := outer_kind h.row e
  have hb := h.blk
  unfold Blk at hb
  rw [hk] at hb
  simp only [Option.some.injEq, Obj.cells.injEq] at hb
  exact absurd hb.2.1 (by decide)
theorem NwAt.step {w0 w w1 : World} {b k : Nat} {ls : List Sec} {sv : Value} {V : Nat → Value} (h : NwAt w0 w b k ls sv V) {q g c : Nat} (hg : w.grownBy w1 sv.ownBlock) (hr : w1.ownsRow 0 TL 1 (.slice (some ⟨g, 0, none⟩) (k + 1) c) (k + 1) ((List.range k).map V ++ [.slice (some ⟨q, 0, none⟩) 1 1]))
    (hq : Row w1 (.slice (some ⟨q, 0, none⟩) 1 1) [ls.getD k Sec.zero]) (hql : w.heap.size ≤ q) (hgl : sv.ownBlock = some g ∨ w.heap.size ≤ g) :
    NwAt w0 (w1.setCell ⟨b, 0, none⟩ (.slice (some ⟨g, 0, none⟩) (k + 1) c)) b (k + 1) ls (.slice (some ⟨g, 0, none⟩) (k + 1) c) (fun j => if j = k then .slice (some ⟨q, 0, none⟩) 1 1 else V j) := by
  have hblt := h.blk.lt
  have hb1 : Blk w1 b TRf #[sv, .int .i64 (-1), .bool false, .int .i64 0] := h.blk.stays (hg.block b hblt (fun e => h.neb e.symm))
  have hset : ∀ j, j ≠ b → (w1.setCell ⟨b, 0, none⟩ (.slice (some ⟨g, 0, none⟩) (k + 1) c)).heap[j]? = w1.heap[j]? := fun j hj => Below.heap_setCell w1 _ _ j hj
  have hneT : ∀ {w' : World} {j : Nat} {cs cs2 : Array Value} {t t2 : TypeId}, w'.heap[j]? = some (.cells cs t (0, 0)) → w'.heap[j]? = some (.cells cs2 t2 (0, 0)) → t = t2 := fun h1 h2 => by
    rw [h1] at h2
    simp only [Option.some.injEq, Obj.cells.injEq] at h2
    exact h2.2.1
  have hrb : ∀ {v : Value} {ss : List Sec}, Row w1 v ss → ∀ j, v.ownBlock = some j → j ≠ b := fun hv j hj e => by
    subst e
    obtain ⟨cs2, hk⟩ := hv.kind hj
    exact absurd (hneT hk hb1) (by decide)
  refine ⟨?_, ?_, fun i hi => ?_, ?_, h.lob, fun g' e => ?_, fun i g' hi e => ?_⟩
  · have := hb1.set 0 (.slice (some ⟨g, 0, none⟩) (k + 1) c)
    simpa using this
  · have e : (List.range (k + 1)).map (fun j => if j = k then Value.slice (some ⟨q, 0, none⟩) 1 1 else V j) = (List.range k).map V ++ [.slice (some ⟨q, 0, none⟩) 1 1] := by
      rw [List.range_succ, List.map_append]
      congr 1
      · apply List.map_congr_left
        intro j hj
        rw [if_neg (by have := List.mem_range.1 hj; omega)]
      · simp
    rw [e]
    refine outer_stays hr fun g' hg' => hset g' fun e => ?_
    subst e
    obtain ⟨cur, hk⟩ := outer_kind hr hg'
    exact absurd (hneT hk hb1) (by decide)
  · by_cases hik : i = k
    · subst hik
      simp only [if_pos]
      exact hq.stays fun j hj => hset j (hrb hq j hj)
    · simp only [if_neg hik]
      have hik2 : i < k := by omega
      have h1 : Row w1 (V i) [ls.getD i Sec.zero] := (h.rows i hik2).stays fun j hj => hg.block j ((h.rows i hik2).lt j hj) fun e => by
        obtain ⟨cs, hk⟩ := (h.rows i hik2).kind hj
        obtain ⟨cs2, hk2⟩ := outer_kind h.row e.symm
        exact absurd (hneT hk hk2) (by decide)
      exact h1.stays fun j hj => hset j (hrb h1 j hj)
  · have h1 : Gr w0 w1 := h.gr.own hg h.los
    exact ⟨h1.os, h1.tape, h1.output, by simpa [World.setCell] using h1.size, fun j hj => (hset j (by have := h.lob; omega)).trans (h1.block j hj)⟩
  · cases e
    rcases hgl with e | e
    · exact h.los _ e
    · exact Nat.le_trans h.gr.size e
  · by_cases hik : i = k
    · simp only [if_pos hik] at e
      cases e
      exact Nat.le_trans h.gr.size hql
    · simp only [if_neg hik] at e
      exact h.lor i g' (by omega) e
def NewRf (w w' : World) (e : Ending) (s : St) : Prop := ∃ p G, e = .returned p ∧ Rf w' G p s ∧ Gr w w' ∧ ∀ k, G k → w.heap.size ≤ k
theorem NwAt.done {w0 w : World} {b : Nat} {ls : List Sec} {sv : Value} {V : Nat → Value} (h : NwAt w0 w b ls.length ls sv V) (h1 : 0 < ls.length) (h2 : ls.length ≤ 65536) : NewRf w0 w (.returned (.pointer (some ⟨b, 0, none⟩))) (fresh ls) := by
  obtain ⟨g, c, rfl⟩ := outer_form h.row h1
  refine ⟨_, fun k => w0.heap.size ≤ k ∧ k < w.heap.size, rfl, ⟨b, g, c, V, rfl, h1, h2, by show (-9223372036854775808 : Int) ≤ -1; omega, by show (-1 : Int) ≤ 9223372036854775807; omega, h.blk, h.row, fun i hi => ?_, ⟨h.lob, h.blk.lt⟩, ⟨h.los g rfl, outer_lt h.row rfl⟩, fun i g' hi hg => ⟨h.lor i g' hi hg, (h.rows i hi).lt g' hg⟩, fun k hk => hk.2⟩, h.gr, fun k hk => hk.1⟩
  exact h.rows i hi

/-- What the region's slots hold. -/
def Sn (n0 b k gl cl M : Nat) (sv : Value) (x : Sec) (xs : List Value) (d : Nat) (v : Value) (w : World) : Prop :=
  match d with
  | 13 | 14 | 15 | 16 | 25 | 26 => v = .pointer (some ⟨b, 0, none⟩)
  | 17 => v = sv
  | 18 => v = .slice (some ⟨gl, 0, none⟩) M cl
  | 19 => v = .int .i64 (k : Int)
  | 20 => v = .pointer (some ⟨gl, k * 256, none⟩)
  | 21 => v = .agg (sec x)
  | 22 => ∃ q, v = .slice (some ⟨q, 0, none⟩) 1 1 ∧ Row w (.slice (some ⟨q, 0, none⟩) 1 1) [x] ∧ n0 ≤ q
  | 23 => ∃ q2 q, v = .slice (some ⟨q2, 0, none⟩) 1 1 ∧ Blk w q2 TL #[.slice (some ⟨q, 0, none⟩) 1 1] ∧ Row w (.slice (some ⟨q, 0, none⟩) 1 1) [x] ∧ n0 ≤ q
  | 24 => ∃ g c q, v = .slice (some ⟨g, 0, none⟩) (k + 1) c ∧ w.ownsRow 0 TL 1 v (k + 1) (xs ++ [.slice (some ⟨q, 0, none⟩) 1 1]) ∧ Row w (.slice (some ⟨q, 0, none⟩) 1 1) [x] ∧ n0 ≤ q ∧ (sv.ownBlock = some g ∨ n0 ≤ g)
  | _ => True
def Gn (u : Value) (i : Nat) (w w' : World) : Prop := cond (i == 11) (w.grownBy w' u.ownBlock) (cond (i == 14) True (Gr w w'))
theorem Sn.kept {n0 b k gl cl M : Nat} {sv : Value} {x : Sec} {xs : List Value} (d : Nat) (v : Value) (w w' : World) (h : Sn n0 b k gl cl M sv x xs d v w) (g : Gr w w') : Sn n0 b k gl cl M sv x xs d v w' := by
  unfold Sn at h ⊢
  split <;> simp only at h
  all_goals first
    | exact h
    | exact (let ⟨q, h1, h2, h3⟩ := h; ⟨q, h1, Row.gr h2 g, h3⟩)
    | exact (let ⟨q2, q, h1, h2, h3, h4⟩ := h; ⟨q2, q, h1, h2.gr g, Row.gr h3 g, h4⟩)
    | exact (let ⟨g1, c, q, h1, h2, h3, h4⟩ := h; ⟨g1, c, q, h1, outer_stays h2 (fun j hj => g.block j (outer_lt h2 hj)), Row.gr h3 g, h4⟩)
theorem Sn.any {n0 b k gl cl M : Nat} {sv : Value} {x : Sec} {xs : List Value} (d : Nat) (hd : d ∈ [13, 14, 15, 16, 25, 26]) (v : Value) (w w' : World) (h : Sn n0 b k gl cl M sv x xs d v w) : Sn n0 b k gl cl M sv x xs d v w' := by
  simp only [List.mem_cons, List.not_mem_nil, or_false] at hd
  rcases hd with rfl | rfl | rfl | rfl | rfl | rfl <;> exact h
def Fn (W0 : World) (b k : Nat) (sv : Value) (x : Sec) (xs : List Value) (w : World) : Prop := ∃ w1 g c q, W0.grownBy w1 sv.ownBlock ∧ w1.ownsRow 0 TL 1 (.slice (some ⟨g, 0, none⟩) (k + 1) c) (k + 1) (xs ++ [.slice (some ⟨q, 0, none⟩) 1 1]) ∧ Row w1 (.slice (some ⟨q, 0, none⟩) 1 1) [x] ∧ W0.heap.size ≤ q ∧ (sv.ownBlock = some g ∨ W0.heap.size ≤ g) ∧
  w = w1.setCell ⟨b, 0, none⟩ (.slice (some ⟨g, 0, none⟩) (k + 1) c)

set_option maxRecDepth 100000 in
set_option maxHeartbeats 4000000 in
theorem refNew_any (w : World) (v : Value) (ls : List Sec) (h : Row w v ls) (h1 : 0 < ls.length) (h2 : ls.length ≤ 65536) : Calls Try.prog 7 #[v] w fun e w' => NewRf w w' e (fresh ls) := by
  obtain ⟨gl, cl, hv, _, hc1, hc2⟩ := h.full (fun e => by rw [e] at h1; simp at h1)
  obtain ⟨M, hM⟩ : ∃ M, M = ls.length := ⟨_, rfl⟩
  rw [← hM] at hv
  subst hv
  have HRow := Lib.hid h
  have HM := Lib.hid hM
  have hM2 : M ≤ 65536 := by omega
  have HP : Hid (0 < ls.length ∧ ls.length ≤ 65536) := Lib.hid ⟨h1, h2⟩
  obtain ⟨wb, hwb⟩ : ∃ wb, wb = w.alloc (.cells #[.slice none 0 0, .int .i64 (-1), .bool false, .int .i64 0] TRf) := ⟨_, rfl⟩
  have hb : Blk wb w.heap.size TRf #[.slice none 0 0, .int .i64 (-1), .bool false, .int .i64 0] := by rw [hwb]; exact Blk.new _ _ _
  have HS : Hid (NwAt w wb w.heap.size 0 ls (.slice none 0 0) (fun _ => .slice none 0 0)) := Lib.hid ⟨hb, World.ownsRow_nil _ _ _ _, (fun i hi => by omega), by rw [hwb]; exact Gr.new w _, Nat.le_refl _, (fun g e => by cases e), (fun i g hi => by omega)⟩
  clear h h1 h2 hc1 hc2 hM hb
  go_enter Try.func7, Try.ntmps7
  go_wp2_with fail
  rw [← hwb]
  clear hwb
  obtain ⟨b, hbb⟩ : ∃ b, b = w.heap.size := ⟨_, rfl⟩
  rw [← hbb] at HS ⊢
  clear hbb
  go_loopw [4] (fun i wr => ∃ (k : Nat) (sv : Value) (V : Nat → Value), k ≤ M ∧ i = .int .i64 k ∧ Hid (NwAt w wr b k ls sv V)) (fun i _ => M - (intOf i).toNat)
  case atStart => exact ⟨0, _, _, Nat.zero_le _, rfl, HS⟩
  case round =>
    obtain ⟨k, sv, V, hk, rfl, hd⟩ := hrel
    by_cases hlt : k < M
    · have hk65 : (k : Int) < 65536 := by omega
      have HD := hd
      obtain ⟨x, hx⟩ : ∃ x, x = ls.getD k Sec.zero := ⟨_, rfl⟩
      have hkl : k < ls.length := by rw [← HM.out]; exact hlt
      have HA : Hid (∀ W, Gr wr W → W.cell? ⟨b, 0, none⟩ = some sv) := Lib.hid fun W e => (hd.out.blk.gr e).cell 0
      have HL : Hid (∀ W, Gr wr W → W.rangeAt gl (k * 256) x.cells) := Lib.hid fun W e => by
        have h1 := ((HRow.out.gr hd.out.gr).gr e).lies k hkl
        have e2 : ls[k] = x := by rw [hx]; simp [List.getD, hkl]
        rwa [e2] at h1
      have HB : Hid (∀ W, wr.grownBy W sv.ownBlock → W.cell? ⟨b, 0, none⟩ = some sv ∧ W.frozen? ⟨b, 0, none⟩ = false) := Lib.hid fun W e => by
        have h1 : Blk W b TRf #[sv, .int .i64 (-1), .bool false, .int .i64 0] := hd.out.blk.stays (e.block b hd.out.blk.lt (fun e => hd.out.neb e.symm))
        exact ⟨h1.cell 0, h1.frozen 0⟩
      have HO : Hid (∀ W, Gr wr W → W.ownsRow 0 TL 1 sv k ((List.range k).map V)) := Lib.hid fun W e => outer_stays hd.out.row (fun j hj => e.block j (outer_lt hd.out.row hj))
      obtain ⟨xs, hxs⟩ : ∃ xs, xs = (List.range k).map V := ⟨_, rfl⟩
      rw [← hxs] at HO
      have HXs := Lib.hid (And.intro hx hxs)
      clear hd hx hkl hxs
      go_wp2_with fail
      refine Flow.regionZ 14 11 (by kernel_rfl) [] 16 (Sn wr.heap.size b k gl cl M sv x xs) (fun W => wr.grownBy W sv.ownBlock) (Fn wr b k sv x xs) (Gr wr) (Gn sv) (by kernel_rfl) (by kernel_rfl) (by kernel_rfl) ?mono ⟨rfl, rfl, rfl, Nat.le_refl _, fun _ _ _ => rfl⟩ ⟨rfl, rfl, rfl, Nat.le_refl _, fun _ _ => rfl⟩ ?steps ?fin
      case mono =>
        intro i d v w w' hb hs hg
        by_cases h11 : i = 11
        · subst h11
          exact Sn.any d (Flow.bears2_only [13, 14, 15, 16, 25, 26] (by kernel_rfl) hb) v w w' hs
        · by_cases h14 : i = 14
          · subst h14
            have := Flow.bears2_only [] (by kernel_rfl) hb
            cases this
          · have e1 : (i == 11) = false := by simpa using h11
            have e2 : (i == 14) = false := by simpa using h14
            unfold Gn at hg
            rw [e1, e2] at hg
            exact Sn.kept d v w w' hs hg
      case fin =>
        intro a W hfr hfin hsl
        clear hsl
        have e := Flow.frame hfr [13, 14, 15, 16, 17, 18, 19, 20, 21, 22, 23, 24, 25, 26] (List.range 28) (by kernel_rfl) (by kernel_rfl)
        simp [List.range, List.range.loop] at e
        rw [e]
        clear e hfr
        obtain ⟨w1, g, c, q, hg1, hr1, hq1, hq2, hq3, rfl⟩ := hfin
        rw [HXs.out.1] at hq1
        rw [HXs.out.2] at hr1
        have HD3 := Lib.hid (HD.out.step hg1 hr1 hq1 hq2 hq3)
        clear hg1 hr1 hq1 hq2 hq3 HA HL HB HO HXs HD
        rename_i K hK
        refine hK _ _ ?_
        go_wp2
        go_roundw
        case rel => exact ⟨k + 1, _, _, by omega, by go_num, HD3⟩
        case measure => simp [intOf]; omega
      case steps =>
        refine Flow.StepsZ.cons (fun a W hfr hinv hear hdep K hK => ?_) ?_
        · have s3 : a.tmps.getD 3 undef = .pointer (some ⟨b, 0, none⟩) := hfr.at 3 (by kernel_rfl)
          have t3 : a.tmps[3]?.getD undef = .pointer (some ⟨b, 0, none⟩) := by simpa using s3
          rw [if_pos (Flow.wanted_none rfl)]
          clear hfr hdep hear
          go_simp
          exact hK _ _ (show Gr W W from Gr.refl W) hinv (fun h => h) (fun d hd => by cases hd; rfl)
        refine Flow.StepsZ.cons (fun a W hfr hinv hear hdep K hK => ?_) ?_
        · have s3 : a.tmps.getD 3 undef = .pointer (some ⟨b, 0, none⟩) := hfr.at 3 (by kernel_rfl)
          have t3 : a.tmps[3]?.getD undef = .pointer (some ⟨b, 0, none⟩) := by simpa using s3
          rw [if_pos (Flow.wanted_none rfl)]
          clear hfr hdep hear
          go_simp
          exact hK _ _ (show Gr W W from Gr.refl W) hinv (fun h => h) (fun d hd => by cases hd; rfl)
        refine Flow.StepsZ.cons (fun a W hfr hinv hear hdep K hK => ?_) ?_
        · have s14 : a.tmps.getD 14 undef = .pointer (some ⟨b, 0, none⟩) := hdep 14 (by kernel_rfl)
          have t14 : a.tmps[14]?.getD undef = .pointer (some ⟨b, 0, none⟩) := by simpa using s14
          rw [if_pos (Flow.wanted_none rfl)]
          clear hfr hdep hear
          go_simp
          exact hK _ _ (show Gr W W from Gr.refl W) hinv (fun h => h) (fun d hd => by cases hd; rfl)
        refine Flow.StepsZ.cons (fun a W hfr hinv hear hdep K hK => ?_) ?_
        · have s15 : a.tmps.getD 15 undef = .pointer (some ⟨b, 0, none⟩) := hdep 15 (by kernel_rfl)
          have t15 : a.tmps[15]?.getD undef = .pointer (some ⟨b, 0, none⟩) := by simpa using s15
          rw [if_pos (Flow.wanted_none rfl)]
          clear hfr hdep hear
          go_simp
          exact hK _ _ (show Gr W W from Gr.refl W) hinv (fun h => h) (fun d hd => by cases hd; rfl)
        refine Flow.StepsZ.cons (fun a W hfr hinv hear hdep K hK => ?_) ?_
        · have s16 : a.tmps.getD 16 undef = .pointer (some ⟨b, 0, none⟩) := hdep 16 (by kernel_rfl)
          have t16 : a.tmps[16]?.getD undef = .pointer (some ⟨b, 0, none⟩) := by simpa using s16
          rw [if_pos (Flow.wanted_none rfl)]
          clear hfr hdep
          have he : Gr wr W := Flow.early hear (by kernel_rfl)
          clear hear
          have hc := HA.out W he
          go_simp
          exact hK _ _ (show Gr W W from Gr.refl W) hinv (fun h => h) (fun d hd => by cases hd; rfl)
        refine Flow.StepsZ.cons (fun a W hfr hinv hear hdep K hK => ?_) ?_
        · have s0 : a.tmps.getD 0 undef = .slice (some ⟨gl, 0, none⟩) M cl := hfr.at 0 (by kernel_rfl)
          have t0 : a.tmps[0]?.getD undef = .slice (some ⟨gl, 0, none⟩) M cl := by simpa using s0
          rw [if_pos (Flow.wanted_none rfl)]
          clear hfr hdep hear
          go_simp
          exact hK _ _ (show Gr W W from Gr.refl W) hinv (fun h => h) (fun d hd => by cases hd; rfl)
        refine Flow.StepsZ.cons (fun a W hfr hinv hear hdep K hK => ?_) ?_
        · have s4 : a.tmps.getD 4 undef = .int .i64 (k : Int) := hfr.at 4 (by kernel_rfl)
          have t4 : a.tmps[4]?.getD undef = .int .i64 (k : Int) := by simpa using s4
          rw [if_pos (Flow.wanted_none rfl)]
          clear hfr hdep hear
          go_simp
          exact hK _ _ (show Gr W W from Gr.refl W) hinv (fun h => h) (fun d hd => by cases hd; rfl)
        refine Flow.StepsZ.cons (fun a W hfr hinv hear hdep K hK => ?_) ?_
        · have s18 : a.tmps.getD 18 undef = .slice (some ⟨gl, 0, none⟩) M cl := hdep 18 (by kernel_rfl)
          have t18 : a.tmps[18]?.getD undef = .slice (some ⟨gl, 0, none⟩) M cl := by simpa using s18
          have s19 : a.tmps.getD 19 undef = .int .i64 (k : Int) := hdep 19 (by kernel_rfl)
          have t19 : a.tmps[19]?.getD undef = .int .i64 (k : Int) := by simpa using s19
          rw [if_pos (Flow.wanted_none rfl)]
          clear hfr hdep hear
          go_simp
          exact hK _ _ (show Gr W W from Gr.refl W) hinv (fun h => h) (fun d hd => by cases hd; rfl)
        refine Flow.StepsZ.cons (fun a W hfr hinv hear hdep K hK => ?_) ?_
        · have s20 : a.tmps.getD 20 undef = .pointer (some ⟨gl, k * 256, none⟩) := hdep 20 (by kernel_rfl)
          have t20 : a.tmps[20]?.getD undef = .pointer (some ⟨gl, k * 256, none⟩) := by simpa using s20
          rw [if_pos (Flow.wanted_none rfl)]
          clear hfr hdep
          have he : Gr wr W := Flow.early hear (by kernel_rfl)
          refine wp_load_sec (.tmp 20) rfl (HL.out W he) (by simpa [Act.eval] using s20) ?_
          exact hK _ _ (show Gr W W from Gr.refl W) hinv (fun h => h) (fun d hd => by cases hd; rfl)
        refine Flow.StepsZ.cons (fun a W hfr hinv hear hdep K hK => ?_) ?_
        · have s21 : a.tmps.getD 21 undef = .agg (sec x) := hdep 21 (by kernel_rfl)
          have t21 : a.tmps[21]?.getD undef = .agg (sec x) := by simpa using s21
          rw [if_pos (Flow.wanted_none rfl)]
          clear hfr hdep
          refine wp_buildSecs 1 #[(0, .tmp 21)] rfl [x] rfl (by omega) (by omega) (by simp [Act.eval, t21, partsOf, partsL, sec]) ?_
          exact hK _ _ (show Gr W (W.alloc _) from Gr.new W _) (hinv.trans (World.grownBy_alloc W _ _)) (fun h => Gr.trans h (Gr.new W _)) (fun d hd => by cases hd; exact ⟨_, rfl, Row.lit W [x] 1 rfl (by omega), hinv.size⟩)
        refine Flow.StepsZ.cons (fun a W hfr hinv hear hdep K hK => ?_) ?_
        · have s22 : (∃ q, (a.tmps.getD 22 undef) = .slice (some ⟨q, 0, none⟩) 1 1 ∧ Row W (.slice (some ⟨q, 0, none⟩) 1 1) [x] ∧ wr.heap.size ≤ q) := hdep 22 (by kernel_rfl)
          rw [if_pos (Flow.wanted_none rfl)]
          clear hfr hdep
          obtain ⟨q, e22, r22, l22⟩ := s22
          refine wp_buildRow (.tmp 22) rfl (by simpa [Act.eval] using e22) ?_
          exact hK _ _ (show Gr W (W.alloc _) from Gr.new W _) (hinv.trans (World.grownBy_alloc W _ _)) (fun h => Gr.trans h (Gr.new W _)) (fun d hd => by cases hd; exact ⟨_, q, rfl, Blk.new W _ _, r22.gr (Gr.new W _), l22⟩)
        refine Flow.StepsZ.cons (fun a W hfr hinv hear hdep K hK => ?_) ?_
        · have s17 : a.tmps.getD 17 undef = sv := hdep 17 (by kernel_rfl)
          have t17 : a.tmps[17]?.getD undef = sv := by simpa using s17
          have s23 : (∃ q2 q, (a.tmps.getD 23 undef) = .slice (some ⟨q2, 0, none⟩) 1 1 ∧ Blk W q2 TL #[.slice (some ⟨q, 0, none⟩) 1 1] ∧ Row W (.slice (some ⟨q, 0, none⟩) 1 1) [x] ∧ wr.heap.size ≤ q) := hdep 23 (by kernel_rfl)
          rw [if_pos (Flow.wanted_none rfl)]
          clear hfr hdep
          have he : Gr wr W := Flow.early hear (by kernel_rfl)
          obtain ⟨q2, q, e23, b23, r23, l23⟩ := s23
          have hro := HO.out W he
          refine app_row (.tmp 17) (.tmp 23) rfl (by simpa [Act.eval] using s17) hro (by simpa [Act.eval] using e23) (b23.cell 0) rfl (by omega) ?_
          intro v' w' h1 h2 h3
          obtain ⟨g', c', rfl⟩ := outer_form h1 (by omega)
          have hr2 : Row w' (.slice (some ⟨q, 0, none⟩) 1 1) [x] := r23.stays fun j hj => h2.block j (r23.lt j hj) fun e => absurd (outer_lt HD.out.row e.symm) (by have hjq : q = j := (by simpa [Value.ownBlock] using hj); omega)
          have hl2 : sv.ownBlock = some g' ∨ wr.heap.size ≤ g' := h3.imp (fun h => h.symm) (fun h => by cases h; exact hinv.size)
          exact hK _ _ (show W.grownBy w' sv.ownBlock from h2) (hinv.trans h2) True.intro (fun d hd => by cases hd; exact ⟨g', c', q, rfl, h1, hr2, l23, hl2⟩)
        refine Flow.StepsZ.cons (fun a W hfr hinv hear hdep K hK => ?_) ?_
        · have s13 : a.tmps.getD 13 undef = .pointer (some ⟨b, 0, none⟩) := hdep 13 (by kernel_rfl)
          have t13 : a.tmps[13]?.getD undef = .pointer (some ⟨b, 0, none⟩) := by simpa using s13
          rw [if_pos (Flow.wanted_none rfl)]
          clear hfr hdep hear
          go_simp
          exact hK _ _ (show Gr W W from Gr.refl W) hinv (fun h => h) (fun d hd => by cases hd; rfl)
        refine Flow.StepsZ.cons (fun a W hfr hinv hear hdep K hK => ?_) ?_
        · have s25 : a.tmps.getD 25 undef = .pointer (some ⟨b, 0, none⟩) := hdep 25 (by kernel_rfl)
          have t25 : a.tmps[25]?.getD undef = .pointer (some ⟨b, 0, none⟩) := by simpa using s25
          rw [if_pos (Flow.wanted_none rfl)]
          clear hfr hdep hear
          go_simp
          exact hK _ _ (show Gr W W from Gr.refl W) hinv (fun h => h) (fun d hd => by cases hd; rfl)
        refine Flow.StepsZ.cons (fun a W hfr hinv hear hdep K hK => ?_) ?_
        · have s26 : a.tmps.getD 26 undef = .pointer (some ⟨b, 0, none⟩) := hdep 26 (by kernel_rfl)
          have t26 : a.tmps[26]?.getD undef = .pointer (some ⟨b, 0, none⟩) := by simpa using s26
          have s24 : (∃ g c q, (a.tmps.getD 24 undef) = .slice (some ⟨g, 0, none⟩) (k + 1) c ∧ W.ownsRow 0 TL 1 (a.tmps.getD 24 undef) (k + 1) (xs ++ [.slice (some ⟨q, 0, none⟩) 1 1]) ∧ Row W (.slice (some ⟨q, 0, none⟩) 1 1) [x] ∧ wr.heap.size ≤ q ∧ (sv.ownBlock = some g ∨ wr.heap.size ≤ g)) := hdep 24 (by kernel_rfl)
          rw [if_pos (Flow.wanted_none rfl)]
          clear hfr hdep
          obtain ⟨g, c, q, e24, o24, r24, l24, k24⟩ := s24
          rw [e24] at o24
          have t24 : a.tmps[24]?.getD undef = .slice (some ⟨g, 0, none⟩) (k + 1) c := by simpa using e24
          obtain ⟨hoc, hof⟩ := HB.out W hinv
          clear e24
          go_simp
          exact hK undef _ True.intro ⟨W, g, c, q, hinv, o24, r24, l24, k24, rfl⟩ True.intro (fun d hd => by cases hd)
        exact True.intro
    · obtain rfl : k = M := by omega
      have HF : Hid (NewRf w wr (.returned (.pointer (some ⟨b, 0, none⟩))) (fresh ls)) := Lib.hid (by
        have h1 := hd.out
        rw [HM.out] at h1
        exact h1.done HP.out.1 HP.out.2)
      clear hd
      go_wp2
      go_ret
      exact HF.out

end Go.Proofs.Ytkoalabacfjgbaa
