/-
  Texts, put together: Clone Crash CrashWalk Barrier.
-/
import Derived.Test.YtaemmknijmhnoaaGreatF6
set_option linter.unusedVariables false
set_option linter.unusedSimpArgs false
namespace Go.Proofs.YtaemmknijmhnoaaGreat
open Go.RowKit Go.Maps

theorem app_secL {w : World} {ops : Array Oper} {rest : List Oper} {o : Oper} {a : Act} {Q : Exit → Act → World → Prop} {v : Value} {ss ts : List Sec} (hg : o.guard = none) (s x : Operand) (ho : o.op = .call { callee := .builtin .append, args := #[s, x], argTypes := #[TL, TL] })
    (hs : a.eval s = v) (hr : Row w v ss) {q m c : Nat} (hx : a.eval x = .slice (some ⟨q, 0, none⟩) m c) (hy : Row w (.slice (some ⟨q, 0, none⟩) m c) ts) (hm : m = ts.length) (hl : ss.length + m ≤ 500000000000)
    (h : ∀ v' w', Row w' v' (ss ++ ts) → w.grownBy w' v.ownBlock → (v'.ownBlock = v.ownBlock ∨ v'.ownBlock = some w.heap.size) → wpList Tryz.prog ops Q rest (a.put o.dst v') w') : wpList Tryz.prog ops Q (o :: rest) a w :=
  wpList_plain hg fun _ hK => app_sec s x ho hs hr hx hy hm hl fun v' w' h1 h2 h3 => hK _ _ (h v' w' h1 h2 h3)

/-- An answer: a row in memory of its own. -/
def RetRow (ss : List Sec) (w : World) (e : Ending) (w' : World) : Prop := ∃ v, e = .returned v ∧ Row w' v ss ∧ (∀ g, v.ownBlock = some g → w.heap.size ≤ g) ∧ Gr w w'

set_option maxRecDepth 100000 in
set_option maxHeartbeats 1000000 in
theorem Clone_any (w : World) (v : Value) (ss : List Sec) (h : Row w v ss) (hne : ss ≠ []) (hl : ss.length ≤ 400000000000) : Calls Tryz.prog 59 #[v] w fun e w' => RetRow ss w e w' := by
  obtain ⟨g, c, rfl, hg, _⟩ := h.full hne
  obtain ⟨n, hn⟩ : ∃ n, n = ss.length := ⟨_, rfl⟩
  rw [← hn] at h
  have hw : Gr w (w.alloc (.cells #[] TS)) := (Gr.refl w).alloc (Nat.le_refl _) _
  have HR := Lib.hid (h.gr hw)
  have HE : Hid (Row (w.alloc (.cells #[] TS)) (.slice (some ⟨w.heap.size, 0, none⟩) 0 0) []) := Lib.hid ⟨rfl, .inr ⟨_, _, _, rfl, Nat.zero_le _, heap_alloc_new w _, Nat.le_refl _, Nat.zero_le _, by simp, by simp; rfl⟩⟩
  have HN := Lib.hid hn
  have HG := Lib.hid hw
  have HL := Lib.hid (show ([] : List Sec).length + n ≤ 500000000000 by rw [hn]; simp; omega)
  have hq := fun w => Lib.run_eql_slice_nil (P := Tryz.prog) w TL TS (some ⟨g, 0, none⟩) n c 0 0 Tryz.underlying50
  rw [← hn]
  clear h hne hw hn hl hg
  go_enter Tryz.func59, Tryz.ntmps59
  go_wp2_with (at_builtin; refine app_secL rfl _ _ rfl rfl HE.out rfl HR.out HN.out HL.out ?_)
  intro v' w' h1 h2 h3
  have HRow : Hid (Row w' v' ss) := Lib.hid (by simpa using h1)
  have HB : Hid (Gr w w') := Lib.hid (HG.out.grown h2 HG.out.size (fun k e => by cases e; exact Nat.le_refl _))
  have HF : Hid (∀ g, v'.ownBlock = some g → w.heap.size ≤ g) := Lib.hid fun g hg => by
    rcases h3 with h3 | h3
    · rw [hg] at h3; simp [Value.ownBlock] at h3; omega
    · rw [hg] at h3; simp at h3; omega
  clear h1 h2 h3 hq
  go_wp2
  go_ret
  exact ⟨_, rfl, HRow.out, HF.out, HB.out⟩

end Go.Proofs.YtaemmknijmhnoaaGreat

namespace Go.Proofs.YtaemmknijmhnoaaGreat
open Go.RowKit Go.Maps

/-! ### which is chosen -/
theorem filter_at (p : Nat → Bool) : ∀ (N k i : Nat), ((List.range N).filter p)[k]? = some i → ((List.range i).filter p).length = k ∧ i < N ∧ p i = true
  | 0, k, i, h => by simp at h
  | N + 1, k, i, h => by
    rw [List.range_succ, List.filter_append] at h
    by_cases hk : k < ((List.range N).filter p).length
    · rw [List.getElem?_append_left hk] at h
      obtain ⟨h1, h2, h3⟩ := filter_at p N k i h
      exact ⟨h1, by omega, h3⟩
    · rw [List.getElem?_append_right (by omega)] at h
      cases hp : p N with
      | false => simp [hp] at h
      | true =>
        simp only [hp, List.filter_cons, List.filter_nil, if_true] at h
        have hk0 : k - ((List.range N).filter p).length = 0 := by
          cases hq : k - ((List.range N).filter p).length with
          | zero => rfl
          | succ m => rw [hq] at h; simp at h
        rw [hk0] at h
        simp at h
        subst h
        exact ⟨by omega, by omega, hp⟩

def St.rank (s : St) (i : Nat) : Nat := ((List.range i).filter fun j => !(s.t j).isEmpty).length
theorem St.loose_at {s : St} {k i : Nat} (h : s.loose[k]? = some i) : s.rank i = k ∧ i < s.ls.length ∧ s.t i ≠ [] := by
  obtain ⟨h1, h2, h3⟩ := filter_at _ _ _ _ h
  exact ⟨h1, h2, by cases ht : s.t i with
    | nil => rw [ht] at h3; cases h3
    | cons x r => simp⟩
/-- A pick's bits as an unsigned number. -/
def pickAt (picks : List Int) (k : Nat) : Nat := if k < picks.length then (picks.getD k 0 % 18446744073709551616).toNat else 0
theorem pickAt_lt (picks : List Int) (k : Nat) : pickAt picks k < 18446744073709551616 := by
  unfold pickAt
  split <;> omega
/-- What a sector is behind a loss of power. -/
def St.chosen (s : St) (picks : List Int) (i : Nat) : Sec := (s.ls.getD i Sec.zero :: s.t i).getD (pickAt picks (s.rank i) % ((s.t i).length + 1)) Sec.zero
def St.crash (s : St) (picks : List Int) : St := fresh ((List.range s.ls.length).map (s.chosen picks))
/-- Behind k rounds. -/
def St.upto (s : St) (picks : List Int) (k : Nat) : List Sec := (s.loose.take k).foldl (fun l i => l.set i (s.chosen picks i)) s.ls
theorem fold_set (f : Nat → Sec) : ∀ (is : List Nat) (l : List Sec), (is.foldl (fun l i => l.set i (f i)) l).length = l.length ∧ ∀ j, j < l.length → (is.foldl (fun l i => l.set i (f i)) l).getD j Sec.zero = if j ∈ is then f j else l.getD j Sec.zero
  | [], l => ⟨rfl, fun j _ => by simp⟩
  | i :: r, l => by
    obtain ⟨h1, h2⟩ := fold_set f r (l.set i (f i))
    rw [List.length_set] at h1
    refine ⟨h1, fun j hj => ?_⟩
    rw [List.foldl_cons, h2 j (by rw [List.length_set]; exact hj)]
    by_cases hr : j ∈ r
    · simp [hr]
    · rw [if_neg hr]
      by_cases hji : j = i
      · subst hji
        simp [List.getD, hj]
      · simp [hji, hr, List.getD, List.getElem?_set, Ne.symm hji]
theorem St.upto_len (s : St) (picks : List Int) (k : Nat) : (s.upto picks k).length = s.ls.length := (fold_set _ _ _).1
theorem St.upto_succ {s : St} {picks : List Int} {k i : Nat} (h : s.loose[k]? = some i) : s.upto picks (k + 1) = (s.upto picks k).set i (s.chosen picks i) := by
  unfold St.upto
  obtain ⟨hk, e⟩ := List.getElem?_eq_some_iff.1 h
  rw [List.take_succ_eq_append_getElem hk, List.foldl_append, e]
  rfl
theorem chosen_none {s : St} {picks : List Int} {i : Nat} (h : s.t i = []) : s.chosen picks i = s.ls.getD i Sec.zero := by
  unfold St.chosen
  rw [h]
  simp [Nat.mod_one]
theorem St.upto_all (s : St) (picks : List Int) : s.upto picks s.loose.length = (List.range s.ls.length).map (s.chosen picks) := by
  apply List.ext_getElem?
  intro j
  by_cases hj : j < s.ls.length
  · have h1 : j < (s.upto picks s.loose.length).length := by rw [s.upto_len]; exact hj
    have h2 := (fold_set (s.chosen picks) (s.loose.take s.loose.length) s.ls).2 j hj
    rw [List.take_length] at h2
    have h3 : (s.upto picks s.loose.length).getD j Sec.zero = s.chosen picks j := by
      unfold St.upto
      rw [List.take_length, h2]
      split
      · rfl
      · rename_i hn
        have : s.t j = [] := by
          cases ht : s.t j with
          | nil => rfl
          | cons x r => exact absurd (St.mem_loose.2 ⟨hj, by rw [ht]; simp⟩) hn
        rw [chosen_none this]
    rw [List.getElem?_eq_getElem h1]
    simp only [List.getD, List.getElem?_eq_getElem h1, Option.getD_some] at h3
    rw [h3]
    simp [hj]
  · rw [List.getElem?_eq_none (by rw [s.upto_len]; omega), List.getElem?_eq_none (by simp; omega)]
/-- Where the pick is 0, nothing is stored: what lasts stays. -/
theorem St.upto_same {s : St} {picks : List Int} {k i : Nat} (h : s.loose[k]? = some i) (hq : pickAt picks k % ((s.t i).length + 1) = 0) : s.upto picks (k + 1) = s.upto picks k := by
  obtain ⟨h1, h2, h3⟩ := St.loose_at h
  have hc : s.chosen picks i = s.ls.getD i Sec.zero := by unfold St.chosen; rw [h1, hq]; rfl
  rw [St.upto_succ h, hc]
  apply List.ext_getElem?
  intro j
  rw [List.getElem?_set]
  split
  · rename_i e
    subst e
    have hlen := s.upto_len picks k
    have hg := (fold_set (s.chosen picks) (s.loose.take k) s.ls).2 i h2
    have hnot : i ∉ s.loose.take k := fun hm => by
      obtain ⟨k', hk', e'⟩ := List.mem_iff_getElem.1 hm
      have hk2 : k' < k := by rw [List.length_take] at hk'; omega
      rw [List.getElem_take] at e'
      have := (St.loose_at (List.getElem?_eq_some_iff.2 ⟨by rw [List.length_take] at hk'; omega, e'⟩)).1
      omega
    rw [if_neg hnot] at hg
    have hi' : i < (s.upto picks k).length := by rw [hlen]; exact h2
    rw [if_pos hi']
    show _ = (s.upto picks k)[i]?
    rw [List.getElem?_eq_getElem hi']
    have : (s.upto picks k).getD i Sec.zero = s.ls.getD i Sec.zero := hg
    simp only [List.getD, List.getElem?_eq_getElem hi', Option.getD_some] at this
    rw [this]
    rfl
  · rfl
theorem St.chosen_some {s : St} {picks : List Int} {k i q : Nat} (h : s.loose[k]? = some i) (hq : pickAt picks k % ((s.t i).length + 1) = q + 1) (hl : q < (s.t i).length) : (s.t i)[q] = s.chosen picks i := by
  obtain ⟨h1, h2, h3⟩ := St.loose_at h
  unfold St.chosen
  rw [h1, hq]
  simp [List.getD, hl]

/-! ### slices of numbers -/
structure Nums (w : World) (p : Option Addr) (n c : Nat) (zs : List Int) : Prop where
  len : zs.length = n
  most : n ≤ 9223372036854775807
  lies : 0 < n → ∃ b o, p = some ⟨b, o, none⟩ ∧ ∀ i, i < n → w.cell? ⟨b, o + i, none⟩ = some (.int .i64 (zs.getD i 0))
  ok : ∀ z ∈ zs, -9223372036854775808 ≤ z ∧ z ≤ 9223372036854775807
theorem Nums.gr {w w' : World} {p : Option Addr} {n c : Nat} {zs : List Int} (h : Nums w p n c zs) (g : Gr w w') : Nums w' p n c zs :=
  ⟨h.len, h.most, fun hn => by
    obtain ⟨b, o, e, hc⟩ := h.lies hn
    exact ⟨b, o, e, fun i hi => by rw [g.cell (World.block_lt_of_cell? w _ (hc i hi))]; exact hc i hi⟩, h.ok⟩
theorem Nums.nil (w : World) : Nums w none 0 0 [] := ⟨rfl, by omega, fun h => absurd h (Nat.lt_irrefl 0), fun _ h => by cases h⟩
theorem Ints.nums {w : World} {base : Nat} {v : Value} {xs : List Nat} (h : Ints w base v xs) (hs : ∀ x ∈ xs, x < 65536) : ∃ p c, v = .slice p xs.length c ∧ (∀ g, v.ownBlock = some g → base ≤ g ∧ g < w.heap.size) ∧ Nums w p xs.length c (xs.map fun (x : Nat) => (x : Int)) := by
  have hlt := World.ownsRow.lt h
  rcases h.2 with ⟨rfl, h0⟩ | ⟨g, cap, cur, rfl, hb, hg, hn, hm, hsz, ht⟩
  · have : xs = [] := List.eq_nil_of_length_eq_zero h0
    subst this
    exact ⟨none, 0, rfl, (fun g hg => by cases hg), Nums.nil w⟩
  · refine ⟨_, cap, rfl, hlt, by simp, by unfold maxLen at hm; omega, fun _ => ⟨g, 0, rfl, fun i hi => ?_⟩, fun z hz => ?_⟩
    · rw [Nat.zero_add, cell_of_row w g i cur TI (0, 0) hg]
      have h2 : cur.toList[i]? = (xs.map fun (x : Nat) => Value.int .i64 (x : Int))[i]? := by
        rw [← ht, List.getElem?_take, if_pos (by omega)]
      rw [← Array.getElem?_toList, h2]
      simp [List.getD, hi]
    · obtain ⟨x, hx, rfl⟩ := List.mem_map.1 hz
      have := hs x hx
      omega

end Go.Proofs.YtaemmknijmhnoaaGreat

namespace Go.Proofs.YtaemmknijmhnoaaGreat
open Go.RowKit Go.Maps

theorem St.loose_small {s : St} (h : s.Ok) : ∀ x ∈ s.loose, x < 65536 := fun x hx => by
  have := (St.mem_loose.1 hx).1
  have := h.most
  omega
theorem St.loose_len (s : St) : s.loose.length ≤ s.ls.length := by
  unfold St.loose
  have := List.length_filter_le (fun i => !(s.t i).isEmpty) (List.range s.ls.length)
  rwa [List.length_range] at this

theorem Nums.stays {w w' : World} {p : Option Addr} {n c : Nat} {zs : List Int} (h : Nums w p n c zs) (g : ∀ a, p = some a → 0 < n → w'.heap[a.block]? = w.heap[a.block]?) : Nums w' p n c zs :=
  ⟨h.len, h.most, fun hn => by
    obtain ⟨b, o, e, hc⟩ := h.lies hn
    exact ⟨b, o, e, fun i hi => (World.cell?_of_block (a := ⟨b, o + i, none⟩) (show w'.heap[b]? = w.heap[b]? from g _ e hn)).trans (hc i hi)⟩, h.ok⟩
theorem Nums.lt {w : World} {p : Option Addr} {n c : Nat} {zs : List Int} (h : Nums w p n c zs) {a : Addr} (e : p = some a) (hn : 0 < n) : a.block < w.heap.size := by
  obtain ⟨b, o, e2, hc⟩ := h.lies hn
  rw [e] at e2
  cases e2
  exact World.block_lt_of_cell? w _ (hc 0 hn)
theorem wpList_store_at {ops : Array Oper} {rest : List Oper} {op : Oper} {a : Act} {w : World} {Q : Exit → Act → World → Prop} (hgd : op.guard = none) (x y : Operand) (ho : op.op = .store TS x y)
    {b o : Nat} {s : Sec} (ht : w.there b o 256) (hx : a.eval x = .pointer (some ⟨b, o, none⟩)) (hy : a.eval y = .agg (sec s))
    (h : wpList Tryz.prog ops Q rest (a.put op.dst undef) (w.setCells b o s.cells)) : wpList Tryz.prog ops Q (op :: rest) a w :=
  wpList_store_mid hgd TS x y ho b o (sec s) hx hy (by rw [sec_size]; exact ht) (by rw [sec_size]; exact size_sec) (sec_one s) h
theorem u64_wrap_nat (z : Int) : IntKind.u64.wrap z = ((z % 18446744073709551616).toNat : Int) := by
  rw [IntKind.wrap_u64]
  omega
theorem grown_setCells (w : World) (g o : Nat) (vs : List Value) : w.grownBy (w.setCells g o vs) (some g) := by
  obtain ⟨h1, h2, h3, h4⟩ := setCells_os g vs o w
  exact ⟨h1, h2, h3, by rw [h4]; exact Nat.le_refl _, fun k _ hk => heap_setCells_other g vs o w k (fun e => hk (by rw [e]))⟩

set_option maxRecDepth 100000 in
set_option maxHeartbeats 4000000 in
theorem Crash_any {F : Nat → Prop} {p : Value} {s : St} (w : World) (h : Dk w F p s) (hw : s.writes ≤ 1000000000) (q : Option Addr) (n c : Nat) (zs : List Int) (hz : Nums w q n c zs) : Calls Tryz.prog 34 #[p, .slice q n c] w fun e w' => NewDk w w' e (s.crash zs) := by
  obtain ⟨b, lv, m, L, rfl, h⟩ := h
  have HM := Lib.hid (missing_no w h)
  have HD := Lib.hid h
  obtain ⟨h0, h1, h2, h3, h4⟩ := h.cells
  have hne : s.ls ≠ [] := fun e => by have := h.ok.pos; rw [e] at this; simp at this
  have HC := Lib.hid (Clone_any w lv s.ls h.ls hne (by have := h.ok.most; omega))
  have HZ := Lib.hid hz
  have HW := Lib.hid (show s.writes ≤ 1000000000 from hw)
  have hn63 := hz.most
  have HLow : Hid (∀ k, F k → k < w.heap.size) := Lib.hid h.low
  clear h h1 h2 h3 h4 hne hz hw
  go_enter Tryz.func34, Tryz.ntmps34
  go_wp2_with fail
  refine HM.out.mono ?_
  rintro e w1 ⟨rfl, rfl⟩
  go_wp2_with fail
  refine HC.out.mono ?_
  rintro e w1 ⟨v, rfl, hr, hf, hg⟩
  have HD1 := Lib.hid (HD.out.gr hg)
  have HR := Lib.hid hr
  have HF := Lib.hid hf
  have HG := Lib.hid hg
  clear hr hf hg h0 HC
  go_wp2_with fail
  refine (Loose_any w1 ⟨_, _, _, _, rfl, HD1.out⟩ HW.out).mono ?_
  rintro e w2 ⟨lo, rfl, hi, hg⟩
  obtain ⟨p2, c2, rfl, hfar, hnums⟩ := Ints.nums hi (St.loose_small HD1.out.ok)
  have HD2 := Lib.hid (HD1.out.gr hg)
  have HR2 := Lib.hid (HR.out.gr hg)
  have HG2 := Lib.hid (Gr.trans HG.out hg)
  have HI := Lib.hid hnums
  have HZ2 := Lib.hid ((HZ.out.gr HG.out).gr hg)
  obtain ⟨K, hK⟩ : ∃ K, K = s.loose.length := ⟨_, rfl⟩
  have hKs : K ≤ 65536 := by rw [hK]; have := s.loose_len; have := HD1.out.ok.most; omega
  rw [← hK] at HI
  have HK := Lib.hid hK
  obtain ⟨gv, cv, hv, hgv, _⟩ := HR.out.full (fun e => by have := HD1.out.ok.pos; rw [e] at this; simp at this)
  have hgb : w.heap.size ≤ gv := HF.out gv (by rw [hv]; rfl)
  have HFar : Hid (∀ a, p2 = some a → a.block ≠ gv) := Lib.hid fun a ha e => by
    subst ha
    have := (hfar a.block rfl).1
    have := HR.out.lt gv (by rw [hv]; rfl)
    omega
  have HQ : Hid (∀ a, q = some a → 0 < n → a.block ≠ gv) := Lib.hid fun a ha hn e => by
    have := HZ.out.lt ha hn
    omega
  have hgl : gv < w2.heap.size := by have := hg.size; omega
  rw [← hK]
  obtain ⟨N, hN⟩ : ∃ N, N = s.ls.length := ⟨_, rfl⟩
  rw [← hN] at hv
  have HN := Lib.hid hN
  subst hv
  clear hi hfar hnums hg hK hN HD1 HR HG HZ HD HM hgv HF
  go_wp2_with fail
  go_loopw [21] (fun i wr => ∃ k : Nat, k ≤ K ∧ i = .int .i64 k ∧ Hid (Row wr (.slice (some ⟨gv, 0, none⟩) N cv) (s.upto zs k)) ∧ Hid (w2.grownBy wr (some gv))) (fun i _ => K - (intOf i).toNat)
  case atStart => exact ⟨0, Nat.zero_le _, rfl, HR2.out, World.grownBy.refl _ _⟩
  case round =>
    obtain ⟨k, hk, rfl, hrow, hgr⟩ := hrel
    by_cases hlt : k < K
    · have hDr := HD2.out.stays (fun j hj => hgr.out.block j (HD2.out.low j hj) (fun e => by cases e; have := HLow.out gv hj; omega)) hgr.out.size
      obtain ⟨b2, o2, rfl, hc2⟩ := (HI.out.stays (w' := wr) (fun a ha hn => hgr.out.block _ (HI.out.lt ha hn) (fun e => HFar.out a ha (by cases e; rfl)))).lies (by omega)
      have hkk : k < s.loose.length := by rw [← HK.out]; exact hlt
      obtain ⟨i, hi⟩ : ∃ i, s.loose[k]? = some i := ⟨_, List.getElem?_eq_getElem hkk⟩
      have hci := hc2 k hlt
      have ei : (s.loose.map fun (x : Nat) => (x : Int)).getD k 0 = (i : Int) := by simp [List.getD, hi]
      rw [ei] at hci
      obtain ⟨hrank, hiN, hti⟩ := St.loose_at hi
      have hi6 : i < 65536 := by have := hDr.ok.most; omega
      have hlk := hDr.map.look i hiN hDr.ok.most
      obtain ⟨gi, ci, eL, _⟩ := (hDr.rows i).full hti
      have hri := hDr.rows i
      obtain ⟨M, hM⟩ : ∃ M, M = (s.t i).length := ⟨_, rfl⟩
      have hM2 : M ≤ 1000000000 := by have := hDr.ok.less i; have := HW.out; omega
      rw [eL, ← hM] at hri hlk
      obtain ⟨_, hb1, _⟩ := hDr.cells
      have HRi := Lib.hid hri
      have HII := Lib.hid hi
      clear hi
      have HMM := Lib.hid hM
      have HRow := hrow
      have HGr := hgr
      clear hDr hc2 ei hrank hti eL hri hM hrow hgr hkk
      have HLk := Lib.hid hlk
      have HB1 := Lib.hid hb1
      have HI6 := Lib.hid hi6
      obtain ⟨P, hP⟩ : ∃ P, P = pickAt zs k := ⟨_, rfl⟩
      have HP := Lib.hid hP
      have hPlt : (P : Int) < 18446744073709551616 := by have := pickAt_lt zs k; omega
      have HPlt := Lib.hid hPlt
      clear hlk hb1 hPlt
      go_upto_if 29 with fail
      go_cut [8] (fun s8 wc => s8 = .int .u64 (P : Int) ∧ wr = wc)
      case first =>
        by_cases hp : k < n
        · obtain ⟨b3, o3, rfl, hc3⟩ := (HZ2.out.stays (w' := wr) (fun a ha hn => HGr.out.block _ (HZ2.out.lt ha hn) (fun e => HQ.out a ha hn (by cases e; rfl)))).lies (by omega)
          have hcz := hc3 k hp
          have hlz := HZ2.out.len
          have HV : Hid (IntKind.u64.wrap (zs[k]?.getD 0) = (P : Int)) := Lib.hid (by
            rw [hP, u64_wrap_nat]
            unfold pickAt
            rw [if_pos (by omega)]
            rfl)
          clear hc3 hP hlz
          have hv := HV.out
          clear HV
          rw [show decide (k < n) = true from decide_eq_true hp]
          go_wp2
          go_meet
          exact ⟨rfl, rfl⟩
        · have hP0 : P = 0 := by
            rw [hP]
            unfold pickAt
            rw [if_neg (by have := HZ2.out.len; omega)]
          have HP0 := Lib.hid hP0
          clear hP hP0
          rw [show decide (k < n) = false from decide_eq_false hp]
          clear hp
          go_wp2
          go_meet
          exact ⟨by rw [HP0.out]; rfl, rfl⟩
      case rest =>
        obtain ⟨rfl, rfl⟩ := hcut
        have hlk := HLk.out
        have hb1 := HB1.out
        have hPlt := HPlt.out
        obtain ⟨Q, hQ⟩ : ∃ Q, P % (M + 1) = Q := ⟨_, rfl⟩
        have hQi : (P : Int) % ((M : Int) + 1) = (Q : Int) := by rw [← hQ]; rfl
        have hQM : Q < M + 1 := by rw [← hQ]; exact Nat.mod_lt _ (by omega)
        have HQm := Lib.hid hQ
        clear hP hQ HLk HB1
        cases Q with
        | zero =>
          have HU : Hid (s.upto zs (k + 1) = s.upto zs k) := Lib.hid (St.upto_same HII.out (by rw [← HP.out, ← HMM.out]; exact HQm.out))
          have hQ0 : (P : Int) % ((M : Int) + 1) = 0 := hQi
          clear hQi hQM
          go_wp2
          go_roundw
          case rel => exact ⟨k + 1, by omega, by go_num, by rw [HU.out]; exact HRow, HGr⟩
          case measure => simp [intOf]; omega
        | succ r =>
          have hrM : r < (s.t i).length := by rw [← HMM.out]; omega
          have HL := Lib.hid (HRi.out.lies r hrM)
          have HE : Hid ((s.t i)[r] = s.chosen zs i) := Lib.hid (St.chosen_some HII.out (by rw [← HP.out, ← HMM.out]; exact HQm.out) hrM)
          rw [HE.out] at HL
          have hiL : i < (s.upto zs k).length := by rw [s.upto_len]; exact hiN
          have HT := Lib.hid (HRow.out.there i hiL)
          have HU : Hid (s.upto zs (k + 1) = (s.upto zs k).set i (s.chosen zs i)) := Lib.hid (St.upto_succ HII.out)
          have HNew := Lib.hid (HRow.out.put i hiL (s.chosen zs i))
          have HGr2 : Hid (w2.grownBy (wr.setCells gv (i * 256) (s.chosen zs i).cells) (some gv)) := Lib.hid (HGr.out.trans (grown_setCells _ _ _ _))
          have hiN2 : i < N := by rw [HN.out]; exact hiN
          have hrM2 : r < M := by omega
          clear hiN hiL hrM HE
          go_wp2_with (first | (refine wpList_load_sec rfl _ rfl HL.out rfl ?_) | (refine wpList_store_at rfl _ _ rfl HT.out rfl rfl ?_))
          go_roundw
          case rel => exact ⟨k + 1, by omega, by go_num, by rw [HU.out]; exact HNew.out, HGr2.out⟩
          case measure => simp [intOf]; omega
    · obtain rfl : k = K := by omega
      rw [HK.out, s.upto_all] at hrow
      have hlen : ((List.range s.ls.length).map (s.chosen zs)).length = s.ls.length := by simp
      have HC := Lib.hid (lasting_any wr _ _ hrow.out (by rw [hlen]; exact HD2.out.ok.pos) (by rw [hlen]; exact HD2.out.ok.most))
      have HB : Hid (Gr w wr) := Lib.hid (HG2.out.grown hgr.out HG2.out.size (fun j e => by cases e; exact hgb))
      clear hrow hlen hgr
      go_wp2_with fail
      refine HC.out.mono ?_
      rintro e w3 ⟨p, rfl, hd, hg⟩
      have HD3 := Lib.hid hd
      have HG3 := Lib.hid (Gr.trans HB.out hg)
      have hsz := HB.out.size
      clear hd hg
      go_wp2_with fail
      go_ret
      refine ⟨_, _, rfl, HD3.out, HG3.out, ?_⟩
      rintro j (hj | ⟨hj, _⟩)
      · cases hj; exact hgb
      · omega

end Go.Proofs.YtaemmknijmhnoaaGreat

namespace Go.Proofs.YtaemmknijmhnoaaGreat
open Go.RowKit Go.Maps

/-- Behind k rounds of a barrier. -/
def St.part (s : St) (k : Nat) : List Sec := (s.loose.take k).foldl (fun l i => l.set i (s.nw i)) s.ls
def St.barrier (s : St) : St := { s with ls := (List.range s.ls.length).map s.nw, t := fun _ => [] }
theorem St.part_len (s : St) (k : Nat) : (s.part k).length = s.ls.length := (fold_set _ _ _).1
theorem St.part_succ {s : St} {k i : Nat} (h : s.loose[k]? = some i) : s.part (k + 1) = (s.part k).set i (s.nw i) := by
  unfold St.part
  obtain ⟨hk, e⟩ := List.getElem?_eq_some_iff.1 h
  rw [List.take_succ_eq_append_getElem hk, List.foldl_append, e]
  rfl
theorem St.part_all (s : St) : s.part s.loose.length = (List.range s.ls.length).map s.nw := by
  apply List.ext_getElem?
  intro j
  by_cases hj : j < s.ls.length
  · have h1 : j < (s.part s.loose.length).length := by rw [s.part_len]; exact hj
    have h2 := (fold_set s.nw (s.loose.take s.loose.length) s.ls).2 j hj
    rw [List.take_length] at h2
    have h3 : (s.part s.loose.length).getD j Sec.zero = s.nw j := by
      unfold St.part
      rw [List.take_length, h2]
      split
      · rfl
      · rename_i hn
        have : s.t j = [] := by
          cases ht : s.t j with
          | nil => rfl
          | cons x r => exact absurd (St.mem_loose.2 ⟨hj, by rw [ht]; simp⟩) hn
        rw [nw_none this]
    rw [List.getElem?_eq_getElem h1]
    simp only [List.getD, List.getElem?_eq_getElem h1, Option.getD_some] at h3
    rw [h3]
    simp [hj]
  · rw [List.getElem?_eq_none (by rw [s.part_len]; omega), List.getElem?_eq_none (by simp; omega)]
/-- What is written last does not hang on what lasts. -/
theorem nw_other {s : St} {i : Nat} (h : s.t i ≠ []) (l : List Sec) : ({ s with ls := l } : St).nw i = s.nw i := by
  unfold St.nw
  cases ht : s.t i with
  | nil => exact absurd ht h
  | cons x r => rw [List.getLastD_cons, List.getLastD_cons]

/-- One of the sectors that last is set. -/
theorem DkAt.putL {w : World} {F : Nat → Prop} {b gl c : Nat} {m : Nat} {L : Nat → Value} {s : St} {n : Nat} (h : DkAt w F b (.slice (some ⟨gl, 0, none⟩) n c) m L s) (i : Nat) (hi : i < s.ls.length) (x : Sec) :
    DkAt (w.setCells gl (i * 256) x.cells) F b (.slice (some ⟨gl, 0, none⟩) n c) m L { s with ls := s.ls.set i x } ∧ Upd F F w (w.setCells gl (i * 256) x.cells) := by
  obtain ⟨D, k, ho, r⟩ := h.map
  have hFl : F gl := h.ownL gl rfl
  have hg := grown_setCells w gl (i * 256) x.cells
  have hne := row_ne h.ls (g := gl) rfl h.blk ho
  have e : ∀ j, F j → j ≠ gl → (w.setCells gl (i * 256) x.cells).heap[j]? = w.heap[j]? := fun j hj hn => hg.block j (h.low j hj) (fun e => hn (by cases e; rfl))
  have hl : (s.ls.set i x).length = s.ls.length := List.length_set
  refine ⟨⟨⟨by show 0 < (s.ls.set i x).length; rw [hl]; exact h.ok.pos, by show (s.ls.set i x).length ≤ _; rw [hl]; exact h.ok.most, fun j hj => h.ok.out j (by have : (s.ls.set i x).length ≤ j := hj; omega), h.ok.less, h.ok.lo, h.ok.hi⟩, h.blk.stays (e b h.ownB (fun e => hne.1 e.symm)), h.ls.put i hi x, ?_, fun j => (h.rows j).stays fun g hg => e g (h.ownR j g hg) (fun e => h.apart0 j g hg (by rw [e]; rfl)), h.apart, h.apart0, h.ownB, h.ownM, h.ownL, h.ownR, fun j hj => Nat.lt_of_lt_of_le (h.low j hj) hg.size⟩, ?_⟩
  · show Loose _ m _ (s.ls.set i x).length L s.t
    rw [hl]
    exact h.map.stays (e m h.ownM (fun e => hne.2 e.symm))
  · exact ⟨hg.os, hg.tape, hg.output, hg.size, fun j hj hF => hg.block j hj (fun e => hF (by cases e; exact hFl)), fun j hj => .inl hj⟩

/-- What the region's slots hold. -/
def Sb (b gl i : Nat) (lv : Value) (x : Sec) (d : Nat) (v : Value) (_ : World) : Prop :=
  match d with
  | 18 | 19 | 23 => v = .pointer (some ⟨b, 0, none⟩)
  | 20 => v = .pointer (some ⟨b, 0, none⟩)
  | 21 => v = lv
  | 22 | 24 => v = .int .i64 (i : Int)
  | 25 => v = .agg (sec x)
  | 26 => v = .pointer (some ⟨gl, i * 256, none⟩)
  | _ => True
def Fb (W0 : World) (gl i : Nat) (x : Sec) (w : World) : Prop := ∃ w1, Gr W0 w1 ∧ w = w1.setCells gl (i * 256) x.cells
theorem wp_store_at {op : Oper} {a : Act} {w : World} {K : Act → World → Prop} {Q : Exit → Act → World → Prop} (x y : Operand) (ho : op.op = .store TS x y) {b o : Nat} {s : Sec} (ht : w.there b o 256) (hx : a.eval x = .pointer (some ⟨b, o, none⟩)) (hy : a.eval y = .agg (sec s))
    (h : K (a.put op.dst undef) (w.setCells b o s.cells)) : op.wp Tryz.prog a w K Q :=
  wp_store_mid TS x y ho b o (sec s) hx hy (by rw [sec_size]; exact ht) (by rw [sec_size]; exact size_sec) (sec_one s) h

set_option maxRecDepth 100000 in
theorem Barrier_dead {F : Nat → Prop} {p : Value} {s : St} (w : World) (h : Dk w F p s) (hd : s.dead = true) : Calls Tryz.prog 49 #[p] w fun e w' => e = .returned (.int .i64 8) ∧ w = w' := by
  obtain ⟨b, lv, m, L, rfl, h⟩ := h
  have HM := Lib.hid (missing_no w h)
  obtain ⟨h0, h1, h2, h3, h4⟩ := h.cells
  rw [hd] at h3
  clear h h0 h1 h2 h4 hd
  go_enter Tryz.func49, Tryz.ntmps49
  go_wp2_with fail
  refine HM.out.mono ?_
  rintro e w1 ⟨rfl, rfl⟩
  go_wp2
  go_ret
  exact ⟨rfl, rfl⟩

set_option maxRecDepth 100000 in
set_option maxHeartbeats 4000000 in
theorem Barrier_yes {F : Nat → Prop} {p : Value} {s : St} (w : World) (h : Dk w F p s) (hw : s.writes ≤ 1000000000) (hd : s.dead = false) : Calls Tryz.prog 49 #[p] w fun e w' => Chg F p s.barrier (.int .i64 0) w e w' := by
  obtain ⟨b, lv, m, L, rfl, h⟩ := h
  have HM := Lib.hid (missing_no w h)
  have HD := Lib.hid h
  have HLo := Lib.hid (Loose_any w ⟨_, _, _, _, rfl, h⟩ hw)
  obtain ⟨h0, h1, h2, h3, h4⟩ := h.cells
  rw [hd] at h3
  have HDd := Lib.hid hd
  clear h h0 h1 h2 h4 hd
  go_enter Tryz.func49, Tryz.ntmps49
  go_wp2_with fail
  refine HM.out.mono ?_
  rintro e w1 ⟨rfl, rfl⟩
  go_wp2_with fail
  refine HLo.out.mono ?_
  rintro e w2 ⟨lo, rfl, hi, hg⟩
  obtain ⟨p2, c2, rfl, hfar, hnums⟩ := Ints.nums hi (St.loose_small HD.out.ok)
  have HD2 := Lib.hid (HD.out.gr hg)
  have HU2 := Lib.hid (Upd.of_gr (F := F) hg)
  have HI := Lib.hid hnums
  have HFar : Hid (∀ a, p2 = some a → ¬ F a.block) := Lib.hid fun a ha hF => by
    subst ha
    have := (hfar a.block rfl).1
    have := HD.out.low _ hF
    omega
  obtain ⟨K, hK⟩ : ∃ K, K = s.loose.length := ⟨_, rfl⟩
  have hKs : K ≤ 65536 := by rw [hK]; have := s.loose_len; have := HD2.out.ok.most; omega
  rw [← hK] at HI
  have HK := Lib.hid hK
  obtain ⟨gl, cl, hv⟩ := HD2.out.lv
  rw [← hK]
  obtain ⟨N, hN⟩ : ∃ N, N = s.ls.length := ⟨_, rfl⟩
  rw [← hN] at hv
  have HN := Lib.hid hN
  subst hv
  clear hi hfar hnums hg hK hN HM h3 HLo
  go_wp2_with fail
  go_loopw [14] (fun i wr => ∃ k : Nat, k ≤ K ∧ i = .int .i64 k ∧ Hid (DkAt wr F b (.slice (some ⟨gl, 0, none⟩) N cl) m L { s with ls := s.part k }) ∧ Hid (Upd F F w2 wr)) (fun i _ => K - (intOf i).toNat)
  case atStart => exact ⟨0, Nat.zero_le _, rfl, HD2.out, Upd.of_gr (Gr.refl _)⟩
  case round =>
    obtain ⟨k, hk, rfl, hd, hu⟩ := hrel
    by_cases hlt : k < K
    · obtain ⟨b2, o2, rfl, hc2⟩ := (HI.out.stays (w' := wr) (fun a ha hn => hu.out.block _ (HI.out.lt ha hn) (fun e => HFar.out a ha e))).lies (by omega)
      have hkk : k < s.loose.length := by rw [← HK.out]; exact hlt
      obtain ⟨i, hi⟩ : ∃ i, s.loose[k]? = some i := ⟨_, List.getElem?_eq_getElem hkk⟩
      have hci := hc2 k hlt
      have ei : (s.loose.map fun (x : Nat) => (x : Int)).getD k 0 = (i : Int) := by simp [List.getD, hi]
      rw [ei] at hci
      obtain ⟨hrank, hiN, hti⟩ := St.loose_at hi
      have hiP : i < (s.part k).length := by rw [s.part_len]; exact hiN
      have HX : Hid (({ s with ls := s.part k } : St).nw i = s.nw i) := Lib.hid (nw_other hti _)
      have HS := Lib.hid (St.part_succ hi)
      have HIP : Hid (i < (s.part k).length) := Lib.hid hiP
      have hiN2 : i < N := by rw [HN.out]; exact hiN
      have HDr := hd
      have HUr := hu
      clear hc2 ei hrank hti hkk hi hiN hiP hd hu
      go_wp2_with fail
      have HCell : Hid (∀ W, Gr wr W → W.cell? ⟨b, 0, none⟩ = some (.slice (some ⟨gl, 0, none⟩) N cl)) := Lib.hid fun W h => (HDr.out.gr h).cells.1
      have HNw : Hid (∀ W, Gr wr W → Calls Tryz.prog 55 #[.pointer (some ⟨b, 0, none⟩), .int .i64 (i : Int)] W fun e w' => e = .returned (.agg (sec (s.nw i))) ∧ Gr W w') := Lib.hid fun W h => by
        have := newest_any W (HDr.out.gr h) i HIP.out
        rw [HX.out] at this
        exact this
      have HTh : Hid (∀ W, Gr wr W → W.there gl (i * 256) 256) := Lib.hid fun W h => (HDr.out.gr h).ls.there i HIP.out
      refine Flow.regionZ 9 9 (by kernel_rfl) [] 12 (Sb b gl i (.slice (some ⟨gl, 0, none⟩) N cl) (s.nw i)) (Gr wr) (Fb wr gl i (s.nw i)) (fun _ => True) (fun _ _ _ => True) (by kernel_rfl) (by kernel_rfl) (by kernel_rfl) (fun _ _ _ _ _ _ h _ => h) ⟨rfl, rfl, rfl, Nat.le_refl _, fun _ _ => rfl⟩ True.intro ?steps ?fin
      case fin =>
        intro a W hfr hfin hsl
        clear hsl
        have e := Flow.frame hfr [18, 19, 20, 21, 22, 23, 24, 25, 26] (List.range 32) (by kernel_rfl) (by kernel_rfl)
        simp [List.range, List.range.loop] at e
        rw [e]
        clear e hfr
        obtain ⟨w1, hg1, rfl⟩ := hfin
        obtain ⟨hd1, hu1⟩ := (HDr.out.gr hg1).putL i HIP.out (s.nw i)
        have HD3 := Lib.hid hd1
        have HU3 := Lib.hid (HUr.out.trans ((Upd.of_gr hg1).trans hu1))
        clear hg1 hd1 hu1 HCell HNw HTh
        rename_i K2 hK2
        refine hK2 _ _ ?_
        go_wp2
        go_roundw
        case rel => exact ⟨k + 1, by omega, by go_num, by rw [HS.out]; exact HD3.out, HU3.out⟩
        case measure => simp [intOf]; omega
      case steps =>
        refine Flow.StepsZ.cons (fun a W hfr hinv hear hdep K hK => ?_) ?_
        · have s0 : a.tmps.getD 0 undef = .pointer (some ⟨b, 0, none⟩) := hfr.at 0 (by kernel_rfl)
          have t0 : a.tmps[0]?.getD undef = .pointer (some ⟨b, 0, none⟩) := by simpa using s0
          rw [if_pos (Flow.wanted_none rfl)]
          clear hfr hdep hear
          go_simp
          exact hK _ _ True.intro hinv (fun _ => True.intro) (fun d hd => by cases hd; rfl)
        refine Flow.StepsZ.cons (fun a W hfr hinv hear hdep K hK => ?_) ?_
        · have s18 : a.tmps.getD 18 undef = .pointer (some ⟨b, 0, none⟩) := hdep 18 (by kernel_rfl)
          have t18 : a.tmps[18]?.getD undef = .pointer (some ⟨b, 0, none⟩) := by simpa using s18
          rw [if_pos (Flow.wanted_none rfl)]
          clear hfr hdep hear
          go_simp
          exact hK _ _ True.intro hinv (fun _ => True.intro) (fun d hd => by cases hd; rfl)
        refine Flow.StepsZ.cons (fun a W hfr hinv hear hdep K hK => ?_) ?_
        · have s19 : a.tmps.getD 19 undef = .pointer (some ⟨b, 0, none⟩) := hdep 19 (by kernel_rfl)
          have t19 : a.tmps[19]?.getD undef = .pointer (some ⟨b, 0, none⟩) := by simpa using s19
          rw [if_pos (Flow.wanted_none rfl)]
          clear hfr hdep hear
          go_simp
          exact hK _ _ True.intro hinv (fun _ => True.intro) (fun d hd => by cases hd; rfl)
        refine Flow.StepsZ.cons (fun a W hfr hinv hear hdep K hK => ?_) ?_
        · have s20 : a.tmps.getD 20 undef = .pointer (some ⟨b, 0, none⟩) := hdep 20 (by kernel_rfl)
          have t20 : a.tmps[20]?.getD undef = .pointer (some ⟨b, 0, none⟩) := by simpa using s20
          have hc := HCell.out W hinv
          rw [if_pos (Flow.wanted_none rfl)]
          clear hfr hdep hear
          go_simp
          exact hK _ _ True.intro hinv (fun _ => True.intro) (fun d hd => by cases hd; rfl)
        refine Flow.StepsZ.cons (fun a W hfr hinv hear hdep K hK => ?_) ?_
        · have s4 : a.tmps.getD 4 undef = .int .i64 (i : Int) := hfr.at 4 (by kernel_rfl)
          have t4 : a.tmps[4]?.getD undef = .int .i64 (i : Int) := by simpa using s4
          rw [if_pos (Flow.wanted_none rfl)]
          clear hfr hdep hear
          go_simp
          exact hK _ _ True.intro hinv (fun _ => True.intro) (fun d hd => by cases hd; rfl)
        refine Flow.StepsZ.cons (fun a W hfr hinv hear hdep K hK => ?_) ?_
        · have s0 : a.tmps.getD 0 undef = .pointer (some ⟨b, 0, none⟩) := hfr.at 0 (by kernel_rfl)
          have t0 : a.tmps[0]?.getD undef = .pointer (some ⟨b, 0, none⟩) := by simpa using s0
          rw [if_pos (Flow.wanted_none rfl)]
          clear hfr hdep hear
          go_simp
          exact hK _ _ True.intro hinv (fun _ => True.intro) (fun d hd => by cases hd; rfl)
        refine Flow.StepsZ.cons (fun a W hfr hinv hear hdep K hK => ?_) ?_
        · have s4 : a.tmps.getD 4 undef = .int .i64 (i : Int) := hfr.at 4 (by kernel_rfl)
          have t4 : a.tmps[4]?.getD undef = .int .i64 (i : Int) := by simpa using s4
          rw [if_pos (Flow.wanted_none rfl)]
          clear hfr hdep hear
          go_simp
          exact hK _ _ True.intro hinv (fun _ => True.intro) (fun d hd => by cases hd; rfl)
        refine Flow.StepsZ.cons (fun a W hfr hinv hear hdep K hK => ?_) ?_
        · have s23 : a.tmps.getD 23 undef = .pointer (some ⟨b, 0, none⟩) := hdep 23 (by kernel_rfl)
          have t23 : a.tmps[23]?.getD undef = .pointer (some ⟨b, 0, none⟩) := by simpa using s23
          have s24 : a.tmps.getD 24 undef = .int .i64 (i : Int) := hdep 24 (by kernel_rfl)
          have t24 : a.tmps[24]?.getD undef = .int .i64 (i : Int) := by simpa using s24
          rw [if_pos (Flow.wanted_none rfl)]
          clear hfr hdep
          go_simp
          refine (HNw.out W hinv).mono ?_
          rintro e W' ⟨rfl, g1⟩
          exact hK _ _ True.intro (Gr.trans hinv g1) (fun _ => True.intro) (fun d hd => by cases hd; rfl)
        refine Flow.StepsZ.cons (fun a W hfr hinv hear hdep K hK => ?_) ?_
        · have s21 : a.tmps.getD 21 undef = .slice (some ⟨gl, 0, none⟩) N cl := hdep 21 (by kernel_rfl)
          have t21 : a.tmps[21]?.getD undef = .slice (some ⟨gl, 0, none⟩) N cl := by simpa using s21
          have s22 : a.tmps.getD 22 undef = .int .i64 (i : Int) := hdep 22 (by kernel_rfl)
          have t22 : a.tmps[22]?.getD undef = .int .i64 (i : Int) := by simpa using s22
          rw [if_pos (Flow.wanted_none rfl)]
          clear hfr hdep hear
          go_simp
          exact hK _ _ True.intro hinv (fun _ => True.intro) (fun d hd => by cases hd; rfl)
        refine Flow.StepsZ.cons (fun a W hfr hinv hear hdep K hK => ?_) ?_
        · have s26 : a.tmps.getD 26 undef = .pointer (some ⟨gl, i * 256, none⟩) := hdep 26 (by kernel_rfl)
          have t26 : a.tmps[26]?.getD undef = .pointer (some ⟨gl, i * 256, none⟩) := by simpa using s26
          have s25 : a.tmps.getD 25 undef = .agg (sec (s.nw i)) := hdep 25 (by kernel_rfl)
          have t25 : a.tmps[25]?.getD undef = .agg (sec (s.nw i)) := by simpa using s25
          rw [if_pos (Flow.wanted_none rfl)]
          clear hfr hdep
          refine wp_store_at (.tmp 26) (.tmp 25) rfl (HTh.out W hinv) (by simpa [Act.eval] using s26) (by simpa [Act.eval] using s25) ?_
          exact hK _ _ True.intro ⟨W, hinv, rfl⟩ True.intro (fun d hd => by cases hd)
        exact True.intro
    · obtain rfl : k = K := by omega
      rw [HK.out, s.part_all] at hd
      have hmm := @run_makeMap Tryz.prog
      have ha : Gr wr (wr.alloc (.map #[] 0)) := (Gr.refl wr).alloc (Nat.le_refl _) _
      have hdA := hd.out.gr ha
      have hc1 := hdA.blk.cell 1
      have hf1 := hdA.blk.frozen 1
      simp at hc1
      have hne := hd.out.neM
      have HB := Lib.hid (hdA.blk.set 1 (.map (some wr.heap.size)))
      have hblt := hd.out.low b hd.out.ownB
      have hsz : ((wr.alloc (.map #[] 0)).setCell ⟨b, 1, none⟩ (.map (some wr.heap.size))).heap.size = wr.heap.size + 1 := by simp [World.setCell]
      have hst : ∀ j, j ≠ b → ((wr.alloc (.map #[] 0)).setCell ⟨b, 1, none⟩ (.map (some wr.heap.size))).heap[j]? = (wr.alloc (.map #[] 0)).heap[j]? := fun j hj => Below.heap_setCell _ _ _ j hj
      have HF : Hid (DkAt ((wr.alloc (.map #[] 0)).setCell ⟨b, 1, none⟩ (.map (some wr.heap.size))) (fun j => F j ∨ j = wr.heap.size) b (.slice (some ⟨gl, 0, none⟩) N cl) wr.heap.size (fun _ => nilS) s.barrier) := Lib.hid (by
        have hl : s.barrier.ls.length = s.ls.length := by simp [St.barrier]
        obtain ⟨D, n, ho, _⟩ := hdA.map
        refine ⟨⟨by rw [hl]; exact HD2.out.ok.pos, by rw [hl]; exact HD2.out.ok.most, fun _ _ => rfl, fun _ => Nat.zero_le _, HD2.out.ok.lo, HD2.out.ok.hi⟩, ?_, hdA.ls.stays fun g hg => hst g (row_ne hdA.ls hg hdA.blk ho).1, ?_, fun _ => Row.empty _, (fun i j g h => by cases h), (fun i g h => by cases h), .inl hd.out.ownB, .inr rfl, fun g hg => .inl (hd.out.ownL g hg), (fun i g h => by cases h), ?_⟩
        · have := HB.out
          simpa [St.barrier] using this
        · exact Loose.made.stays (hst _ (by omega))
        · rintro j (hj | rfl)
          · rw [hsz]; have := hd.out.low j hj; omega
          · rw [hsz]; omega)
      have HUf : Hid (Upd F (fun j => F j ∨ j = wr.heap.size) w2 ((wr.alloc (.map #[] 0)).setCell ⟨b, 1, none⟩ (.map (some wr.heap.size)))) := Lib.hid (by
        have h1 := (hu.out.trans (Upd.of_gr ha)).trans (upd_cell (i := 1) hd.out.ownB (.map (some wr.heap.size)))
        refine ⟨h1.os, h1.tape, h1.output, h1.size, h1.block, fun j hj => ?_⟩
        rcases hj with hj | rfl
        · exact .inl hj
        · exact .inr hu.out.size)
      have HU := Lib.hid (HU2.out.trans HUf.out)
      clear hd ha hdA hne HB hblt hsz hst hu HUf
      go_wp2
      go_ret
      exact ⟨_, rfl, ⟨_, _, _, _, rfl, HF.out⟩, HU.out⟩

end Go.Proofs.YtaemmknijmhnoaaGreat

