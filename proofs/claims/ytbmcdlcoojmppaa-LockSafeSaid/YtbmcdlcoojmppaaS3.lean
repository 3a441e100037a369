/-
  Texts on locks, put together: Su12 LkEdge LkEdge2 LkFor1.
-/
import Derived.Shelf.SlicesE.Compact
import Derived.Test.YtbmcdlcoojmppaaS2
import Derived.Test.YtbmcdlcoojmppaaA24
import Derived.Test.YtbmcdlcoojmppaaA19
/-
  slices.Compact over uint64: a sorted row without what stands twice.
-/
namespace Go.Proofs.Ytbmcdlcoojmppaa
open Go.RowKit Go.Sort Go.Lib

def Shu.comp_ren : Go.Shelf.Ren := ⟨fun | 43 => 33 | n => n, fun | 22 => 26 | 23 => 27 | 3 => 3 | 4 => 4 | 0 => 0 | n => n, fun | n => n⟩
theorem Shu.comp : Go.Proofs.SlLaysE.n43 Try.prog Shu.comp_ren := {
  mixed := by kernel_rfl
  f43 := ⟨Try.f33.name, by decide, Try.func33.trans (congrArg some (by kernel_rfl))⟩
  t0 := Try.underlying0
  a0 := Try.isAgg0
  z0 := Try.sizeOf0
  v0 := Try.zeroValue0
  t3 := Try.underlying3
  a3 := Try.isAgg3
  z3 := Try.sizeOf3
  v3 := Try.zeroValue3
  t4 := Try.underlying4
  a4 := Try.isAgg4
  z4 := Try.sizeOf4
  v4 := Try.zeroValue4
  t22 := Try.underlying26
  a22 := Try.isAgg26
  z22 := Try.sizeOf26
  v22 := Try.zeroValue26
  a23 := Try.isAgg27
  z23 := Try.sizeOf27 }
/-- A sorted row, each number once: the same numbers, rising. -/
theorem compact_mem {d : Array Int} {n : Nat} (hn : d.size = n) (x : Int) : x ∈ compactUpTo d n ↔ x ∈ d.toList := by
  subst hn
  unfold compactUpTo
  simp only [List.mem_map, List.mem_filter, List.mem_range]
  constructor
  · rintro ⟨j, ⟨h1, _⟩, rfl⟩
    rw [getElem!_pos d j h1]
    exact Array.getElem_mem_toList h1
  · intro hx
    obtain ⟨j, hj, e⟩ := List.getElem_of_mem hx
    have hj' : j < d.size := by simpa using hj
    have key : ∀ k, k < d.size → d[k]! = x → ∃ a, (a < d.size ∧ keeps d a = true) ∧ d[a]! = x := by
      intro k
      induction k with
      | zero => intro h0 h1; exact ⟨0, ⟨h0, by simp [keeps]⟩, h1⟩
      | succ k ih =>
        intro h0 h1
        by_cases e2 : d[k]! = x
        · exact ih (by omega) e2
        · refine ⟨k + 1, ⟨h0, ?_⟩, h1⟩
          unfold keeps
          simp only [decide_eq_true_eq]
          exact .inr (by rw [Nat.add_sub_cancel, h1]; exact fun e3 => e2 e3.symm)
    exact key j hj' (by rw [getElem!_pos d j hj']; simpa using e)
theorem compact_rise {d : Array Int} {n : Nat} (hn : d.size = n) (hs : SortedIn ltInt 0 n d) : (compactUpTo d n).Pairwise (· < ·) := by
  subst hn
  unfold compactUpTo
  rw [List.pairwise_map]
  have h1 : ((List.range d.size).filter (keeps d)).Pairwise (· < ·) := List.Pairwise.filter _ List.pairwise_lt_range
  refine List.Pairwise.imp_of_mem (fun {a b} ha hb hab => ?_) h1
  obtain ⟨a1, a2⟩ := List.mem_filter.1 ha
  obtain ⟨b1, b2⟩ := List.mem_filter.1 hb
  simp only [List.mem_range] at a1 b1
  unfold keeps at b2
  simp only [decide_eq_true_eq] at b2
  have hb0 : b ≠ 0 := by omega
  have hne : d[b]! ≠ d[b - 1]! := by
    rcases b2 with e | e
    · exact absurd e hb0
    · exact e
  have le : ∀ i j, i < j → j < d.size → d[i]! ≤ d[j]! := fun i j q1 q2 => by
    have := hs i j (Nat.zero_le _) q1 q2
    simp only [ltInt, decide_eq_false_iff_not] at this
    omega
  have l1 := le (b - 1) b (by omega) b1
  by_cases e : a = b - 1
  · rw [e]; omega
  · have l2 := le a (b - 1) (by omega) (by omega)
    omega
theorem compact_len (d : Array Int) : (compactUpTo d d.size).length ≤ d.size := by
  unfold compactUpTo
  rw [List.length_map]
  exact Nat.le_trans (List.length_filter_le _ _) (by simp)
/-- slices.Compact over uint64. -/
theorem compact_u {w : World} {g off N n cap : Nat} {d : Array Int} (h : SU w w g off N d) (hn : d.size = n) (hsz : n ≤ 4611686018427387904) (hcap : n ≤ cap) :
    Calls Try.prog 33 #[.slice (some ⟨g, off, none⟩) n cap] w fun e w' => ∃ d', d'.size = n ∧ SU w w' g off N d' ∧ (∀ j, j < (compactUpTo d n).length → d'[j]! = (compactUpTo d n)[j]!) ∧ e = .returned (.slice (some ⟨g, off, none⟩) (compactUpTo d n).length cap) := by
  subst hn
  have hH : Holds (Value.int .u64) w g off d := fun j hj => ⟨h.cell hj, h.free j⟩
  have hlen := compact_len d
  refine (show Calls Try.prog 33 #[.slice (some ⟨g, off, none⟩) d.size cap] w _ from AnyE.slices_Compact (P := Try.prog) (ρ := Shu.comp_ren) Shu.comp (Value.int .u64) (fun _ => rfl) (EqlAt.intD _ _ .u64) (NeqAt.intD _ _ .u64) 0 Try.zeroValue27 g off cap d w hH (by omega) hcap).mono ?_
  rintro e w' ⟨rfl, q, rfl⟩
  obtain ⟨D, hD⟩ : ∃ D, D = (compactUpTo d d.size ++ List.replicate (d.size - (compactUpTo d d.size).length) 0).toArray := ⟨_, rfl⟩
  have hs : D.size = d.size := by rw [hD]; simp; omega
  rw [← hD]
  refine ⟨D, hs, ?_, fun j hj => ?_, rfl⟩
  · obtain ⟨cs, h1, h2, h3, h4⟩ := h.row
    have e1 : (putRow (Value.int .u64) (Sort.ahead w q) g off D).heap[g]? = some (.cells (putCells (Value.int .u64) off D cs) TQ (0, 0)) := by
      show (w.heap.modify g _)[g]? = _
      rw [Array.getElem?_modify, if_pos rfl, h1]
      rfl
    refine ⟨⟨_, e1, by unfold putCells; simp [h2], by omega, fun j hj => ?_⟩, ⟨rfl, rfl, rfl, by show w.heap.size ≤ (w.heap.modify g _).size; simp, fun n hn hne => ?_⟩⟩
    · unfold putCells
      rw [Array.getElem?_mapIdx]
      have : off + j < cs.size := by omega
      rw [Array.getElem?_eq_getElem this]
      simp [hj]
    · show (w.heap.modify g _)[n]? = _
      rw [Array.getElem?_modify, if_neg (fun e => hne (by rw [e]))]
  · have hj2 : j < D.size := by omega
    rw [getElem!_pos D j hj2, getElem!_pos _ j hj]
    simp only [hD]
    simp [List.getElem_append_left hj]
end Go.Proofs.Ytbmcdlcoojmppaa

/-
  Whom an owner waits for; that nobody waits for itself.
-/
namespace Go.Proofs.Ytbmcdlcoojmppaa
open Go.RowKit Go.Maps

/-- Those of a line that stand ahead of an owner. -/
def ahead (o : Nat) : List (Nat × Int) → List (Nat × Int)
  | [] => []
  | x :: r => if x.1 = o then [] else x :: ahead o r
theorem ahead_sub {o : Nat} : ∀ {ws : List (Nat × Int)} {x : Nat × Int}, x ∈ ahead o ws → x ∈ ws ∧ x.1 ≠ o
  | [], _, h => by cases h
  | y :: r, x, h => by
    unfold ahead at h
    split at h
    · cases h
    · rename_i hy
      rcases List.mem_cons.1 h with e | e
      · rw [e]; exact ⟨by simp, hy⟩
      · obtain ⟨a, b⟩ := ahead_sub e
        exact ⟨by simp [a], b⟩
theorem ahead_cons {o : Nat} {y x : Nat × Int} {r : List (Nat × Int)} (hy : y.1 ≠ o) (h : x ∈ ahead o r) : x ∈ ahead o (y :: r) := by
  unfold ahead
  rw [if_neg hy]
  simp [h]
theorem ahead_app {o : Nat} {y : Nat × Int} : ∀ {ws : List (Nat × Int)} {x : Nat × Int}, x ∈ ahead o (ws ++ [y]) → x ∈ ahead o ws ∨ (x = y ∧ ∀ m, (o, m) ∉ ws)
  | [], x, h => by
    rw [List.nil_append] at h
    obtain ⟨a, b⟩ := ahead_sub h
    simp at a
    exact .inr ⟨a, fun m => by simp⟩
  | z :: r, x, h => by
    rw [List.cons_append] at h
    unfold ahead at h ⊢
    split at h
    · cases h
    · rename_i hz
      rw [if_neg hz]
      rcases List.mem_cons.1 h with e | e
      · exact .inl (by rw [e]; simp)
      · rcases ahead_app e with e2 | ⟨e2, e3⟩
        · exact .inl (by simp [e2])
        · refine .inr ⟨e2, fun m hm => ?_⟩
          rcases List.mem_cons.1 hm with e4 | e4
          · exact hz (by rw [← e4])
          · exact e3 m e4
theorem ahead_off {o a : Nat} (hne : a ≠ o) : ∀ {ws : List (Nat × Int)} {x : Nat × Int}, x ∈ ahead a (offLine o ws) → x ∈ ahead a ws
  | [], x, h => h
  | z :: r, x, h => by
    unfold offLine at h
    rw [List.filter_cons] at h
    split at h
    · rename_i hz
      unfold ahead at h
      split at h
      · cases h
      · rename_i hza
        rcases List.mem_cons.1 h with e | e
        · rw [e]; unfold ahead; rw [if_neg hza]; simp
        · exact ahead_cons hza (ahead_off hne e)
    · rename_i hz
      have : z.1 = o := by simpa using hz
      exact ahead_cons (by rw [this]; exact fun e => hne e.symm) (ahead_off hne h)
theorem ahead_head {o : Nat} {y : Nat × Int} {r : List (Nat × Int)} (hy : y.1 ≠ o) : y ∈ ahead o (y :: r) := by
  unfold ahead
  rw [if_neg hy]
  simp

/-- Whom an owner waits for: the other holders, and those ahead of it, with whom it does not go together. -/
def Tb.whom (T : Tb) (o : Nat) : List Nat :=
  if (T.of o).mode = 0 then [] else
    (((T.lkOf (T.of o).key).hs.filter fun q => decide (q ≠ o) && !tog (T.of o).mode (T.lkOf (T.of o).key).mode)) ++ (((ahead o (T.lkOf (T.of o).key).line).filter fun x => !tog (T.of o).mode x.2).map Prod.fst)
section
variable {T : Tb} {a b o : Nat}
theorem mem_whom : b ∈ T.whom a ↔ (T.of a).mode ≠ 0 ∧ ((b ∈ (T.lkOf (T.of a).key).hs ∧ b ≠ a ∧ tog (T.of a).mode (T.lkOf (T.of a).key).mode = false) ∨ ∃ m, (b, m) ∈ ahead a (T.lkOf (T.of a).key).line ∧ tog (T.of a).mode m = false) := by
  unfold Tb.whom
  split
  · rename_i h
    simp [h]
  · rename_i h
    simp only [List.mem_append, List.mem_filter, List.mem_map, Bool.and_eq_true, decide_eq_true_eq, Bool.not_eq_true', ne_eq, h, not_false_eq_true, true_and]
    constructor
    · rintro (⟨h1, h2, h3⟩ | ⟨⟨q, m⟩, ⟨h1, h2⟩, h3⟩)
      · exact .inl ⟨h1, h2, h3⟩
      · cases h3
        exact .inr ⟨m, h1, h2⟩
    · rintro (⟨h1, h2, h3⟩ | ⟨m, h1, h2⟩)
      · exact .inl ⟨h1, h2, h3⟩
      · exact .inr ⟨(b, m), ⟨h1, h2⟩, rfl⟩
theorem whom_ne (h : b ∈ T.whom a) : b ≠ a := by
  rcases (mem_whom.1 h).2 with ⟨_, h2, _⟩ | ⟨m, h1, _⟩
  · exact h2
  · exact (ahead_sub h1).2
theorem whom_waits (h : b ∈ T.whom a) : (T.of a).mode ≠ 0 := (mem_whom.1 h).1

/-- A way of one step or more. -/
inductive Way (r : Nat → Nat → Prop) : Nat → Nat → Prop
  | one {a b : Nat} : r a b → Way r a b
  | more {a b c : Nat} : Way r a b → r b c → Way r a c
theorem Way.trans {r : Nat → Nat → Prop} {a b c : Nat} (h : Way r a b) (g : Way r b c) : Way r a c := by
  induction g with
  | one e => exact h.more e
  | more _ e ih => exact ih.more e
theorem Way.first {r : Nat → Nat → Prop} {a c : Nat} (h : Way r a c) : ∃ b, r a b ∧ (b = c ∨ Way r b c) := by
  induction h with
  | one e => exact ⟨_, e, .inl rfl⟩
  | more _ e ih =>
    obtain ⟨b, h1, h2⟩ := ih
    refine ⟨b, h1, .inr ?_⟩
    rcases h2 with rfl | h2
    · exact .one e
    · exact h2.more e
theorem Way.sub {r s : Nat → Nat → Prop} {P : Nat → Prop} (hP : ∀ a b, r a b → P a) (hs : ∀ a b, r a b → P b → s a b) {a b : Nat} (h : Way r a b) (hb : P b) : Way s a b := by
  induction h with
  | one e => exact .one (hs _ _ e hb)
  | more _ e ih => exact (ih (hP _ _ e)).more (hs _ _ e hb)
theorem Way.starts {r : Nat → Nat → Prop} {P : Nat → Prop} (hP : ∀ a b, r a b → P a) {a b : Nat} (h : Way r a b) : P a := by
  obtain ⟨c, h1, _⟩ := h.first
  exact hP _ _ h1
/-- Of finitely many there is one from which no way leads to any, where no way leads back. -/
theorem Way.last {r : Nat → Nat → Prop} (hr : ∀ a, ¬ Way r a a) : ∀ (l : List Nat), l ≠ [] → ∃ m, m ∈ l ∧ ∀ y, y ∈ l → ¬ Way r m y
  | [], h => absurd rfl h
  | [x], _ => ⟨x, by simp, fun y hy => by simp at hy; rw [hy]; exact hr x⟩
  | x :: y :: s, _ => by
    obtain ⟨m, h1, h2⟩ := Way.last hr (y :: s) (by simp)
    by_cases e : Way r m x
    · refine ⟨x, by simp, fun z hz => ?_⟩
      rcases List.mem_cons.1 hz with e2 | e2
      · rw [e2]; exact hr x
      · exact fun e3 => h2 z e2 (e.trans e3)
    · refine ⟨m, by simp only [List.mem_cons]; exact .inr (List.mem_cons.1 h1), fun z hz => ?_⟩
      rcases List.mem_cons.1 hz with e2 | e2
      · rw [e2]; exact e
      · exact h2 z e2
abbrev Tb.edge (T : Tb) (a b : Nat) : Prop := b ∈ T.whom a
/-- Nobody waits for itself, through however many. -/
def Acyc (T : Tb) : Prop := ∀ a, ¬ Way T.edge a a
/-- Nothing new leads to one that waits. -/
theorem Acyc.sub {T' : Tb} (h : Acyc T) (hs : ∀ a b, b ∈ T'.whom a → (T'.of b).mode ≠ 0 → b ∈ T.whom a) : Acyc T' := fun a hw =>
  h a (Way.sub (P := fun b => (T'.of b).mode ≠ 0) (fun _ _ e => whom_waits e) hs hw (Way.starts (P := fun b => (T'.of b).mode ≠ 0) (fun _ _ e => whom_waits e) hw))
theorem acyc_new : Acyc Tb.new := fun a hw => by
  obtain ⟨b, h1, _⟩ := hw.first
  exact absurd rfl (whom_waits h1)
theorem give_acyc {X : Key → Prop} (hi : InvX X T) (h : Acyc T) {k : Key} {m : Int} (hw : (T.of o).mode = 0) (hm : m = 1 ∨ m = 2) (hf : (T.lkOf k).fits o m = true) : Acyc (T.give o k m) := by
  have e0 : (T.give o k m).lkOf k = { T.lkOf k with mode := m, hs := putK o (T.lkOf k).hs } := lkOf_of (give_lkOf T o k m)
  have hnd : (T.lkOf k).hs.Nodup := by
    unfold Tb.lkOf
    cases e : T.lk k with
    | none => exact List.nodup_nil
    | some l => exact (hi.lk k l e).hnd
  have ho : ((T.give o k m).of o).mode = 0 := by rw [give_of_same]; exact hw
  refine h.sub fun a b hab hb => ?_
  have hbo : b ≠ o := fun e => by rw [e] at hb; exact hb ho
  have hao : a ≠ o := fun e => by have := whom_waits hab; rw [e] at this; exact this ho
  rw [mem_whom, give_of_other _ _ _ hao] at hab
  rw [mem_whom]
  refine ⟨hab.1, ?_⟩
  by_cases ek : (T.of a).key = k
  · rw [ek] at hab ⊢
    rw [e0] at hab
    rcases hab.2 with ⟨h1, h2, h3⟩ | h1
    · have h1' : b ∈ (T.lkOf k).hs := by
        rcases mem_putK.1 h1 with e | e
        · exact absurd e hbo
        · exact e
      refine .inl ⟨h1', h2, ?_⟩
      rcases hi.fit_one hm hf hnd with e | ⟨e1, e2⟩
      · exact absurd (e b h1') hbo
      · rw [e2, ← e1]; exact h3
    · exact .inr h1
  · have e1 : (T.give o k m).lkOf (T.of a).key = T.lkOf (T.of a).key := by
      unfold Tb.lkOf
      rw [give_lk_other _ _ _ ek]
    rw [e1] at hab
    exact hab.2
theorem pop_acyc (h : Acyc T) {k : Key} {m : Int} {r : List (Nat × Int)} (hl : (T.lkOf k).line = (o, m) :: r) : Acyc (T.pop k o r) := by
  have e0 : (T.pop k o r).lkOf k = { T.lkOf k with line := r, pop := true } := lkOf_of (pop_lk T k o r)
  have ho : ((T.pop k o r).of o).mode = 0 := by rw [pop_of_same]
  refine h.sub fun a b hab hb => ?_
  have hao : a ≠ o := fun e => by have := whom_waits hab; rw [e] at this; exact this ho
  rw [mem_whom, pop_of_other _ _ _ hao] at hab
  rw [mem_whom]
  refine ⟨hab.1, ?_⟩
  by_cases ek : (T.of a).key = k
  · rw [ek] at hab ⊢
    rw [e0] at hab
    rcases hab.2 with h1 | ⟨m', h1, h2⟩
    · exact .inl h1
    · refine .inr ⟨m', ?_, h2⟩
      rw [hl]
      exact ahead_cons (fun e => hao e.symm) h1
  · have e1 : (T.pop k o r).lkOf (T.of a).key = T.lkOf (T.of a).key := by
      unfold Tb.lkOf
      rw [pop_lk_other _ _ _ ek]
    rw [e1] at hab
    exact hab.2
theorem lv_acyc (hi : Inv T) (h : Acyc T) (o : Nat) : Acyc (T.lv o) := by
  refine h.sub fun a b hab hb => ?_
  have hao : a ≠ o := fun e => by have := whom_waits hab; rw [e, lv_of_same] at this; exact this rfl
  rw [mem_whom, lv_of_other _ _ hao] at hab
  rw [mem_whom]
  refine ⟨hab.1, ?_⟩
  have e1 : (T.lv o).lkOf (T.of a).key = (T.lkOf (T.of a).key).off o := by
    unfold Tb.lkOf
    rw [lv_lk hi]
    cases T.lk (T.of a).key with
    | none => rfl
    | some l => rfl
  rw [e1] at hab
  rcases hab.2 with ⟨h1, h2, h3⟩ | ⟨m', h1, h2⟩
  · exact .inl ⟨(mem_delK.1 h1).1, h2, h3⟩
  · exact .inr ⟨m', ahead_off hao h1, h2⟩
theorem nextN_acyc {X : Key → Prop} {k : Key} (hx : X k) (hk : KL.dom k) : ∀ (n : Nat) (T : Tb) (c : List Nat), InvX X T → Acyc T → Acyc (Tb.nextN n T k c).2
  | 0, T, c, _, h => h
  | n + 1, T, c, hi, h => by
    cases hl : (T.lkOf k).line with
    | nil => rw [nextN_nil hl]; exact h
    | cons om r =>
      obtain ⟨o, m⟩ := om
      cases hf : (T.lkOf k).fits o m with
      | false => rw [nextN_no hl hf]; exact h
      | true =>
        rw [nextN_yes hl hf]
        have h1 := (step_inv hi hx hk hl hf).1
        have h2 := pop_inv hi hx hl
        obtain ⟨l, el, eo⟩ := lk_some_of_line hl
        obtain ⟨w1, w2, w3⟩ := (hi.lk k l el).lw o m (by rw [← eo, hl]; simp)
        refine nextN_acyc hx hk n _ _ h1 (give_acyc h2 (pop_acyc h hl) (by rw [pop_of_same]) w3 ?_)
        rw [lkOf_of (pop_lk T k o r)]
        exact hf
theorem nextT_acyc {X : Key → Prop} {k : Key} (hi : InvX X T) (hx : X k) (hk : KL.dom k) (h : Acyc T) : Acyc (T.nextT k) := by
  have h1 : Acyc (T.nextT0 k) := nextN_acyc hx hk _ T [] hi h
  unfold Tb.nextT
  split
  · refine h1.sub fun a b hab hb => ?_
    rw [mem_whom] at hab ⊢
    refine ⟨hab.1, ?_⟩
    by_cases ek : (((T.nextT0 k)).of a).key = k
    · have e1 : ({ T.nextT0 k with lk := updF (T.nextT0 k).lk k none, kk := delK k (T.nextT0 k).kk } : Tb).lkOf (((T.nextT0 k)).of a).key = Lk.zero := by
        rw [ek]
        show (updF (T.nextT0 k).lk k none k).getD Lk.zero = _
        rw [updF_same]
        rfl
      rcases hab.2 with ⟨h2, _⟩ | ⟨m', h2, _⟩
      · have h2' : b ∈ (({ T.nextT0 k with lk := updF (T.nextT0 k).lk k none, kk := delK k (T.nextT0 k).kk } : Tb).lkOf (((T.nextT0 k)).of a).key).hs := h2
        rw [e1] at h2'
        cases h2'
      · have h2' : (b, m') ∈ ahead a (({ T.nextT0 k with lk := updF (T.nextT0 k).lk k none, kk := delK k (T.nextT0 k).kk } : Tb).lkOf (((T.nextT0 k)).of a).key).line := h2
        rw [e1] at h2'
        cases h2'
    · have e1 : ({ T.nextT0 k with lk := updF (T.nextT0 k).lk k none, kk := delK k (T.nextT0 k).kk } : Tb).lkOf (((T.nextT0 k)).of a).key = (T.nextT0 k).lkOf (((T.nextT0 k)).of a).key := by
        show (updF (T.nextT0 k).lk k none _).getD Lk.zero = _
        rw [updF_other _ _ ek]
        rfl
      have h2 := hab.2
      rw [show (({ T.nextT0 k with lk := updF (T.nextT0 k).lk k none, kk := delK k (T.nextT0 k).kk } : Tb).of a) = (T.nextT0 k).of a from rfl, e1] at h2
      exact h2
  · exact h1
theorem nexts_acyc : ∀ (ks : List Key) (X : Key → Prop) (T : Tb), InvX X T → ks.Nodup → (∀ k, k ∈ ks → X k ∧ KL.dom k ∧ (T.lk k).isSome = true) → Acyc T → Acyc (T.nextsT ks)
  | [], X, T, _, _, _, h => h
  | k :: r, X, T, hi, hn, hk, h => by
    obtain ⟨n1, n2⟩ := List.nodup_cons.1 hn
    obtain ⟨x1, x2, x3⟩ := hk k (by simp)
    obtain ⟨a1, a2, a3⟩ := nextT_inv hi x1 x2 x3
    exact nexts_acyc r (fun k' => X k' ∧ k' ≠ k) (T.nextT k) a1 n2 (fun k' e => by
      have hne : k' ≠ k := fun e2 => n1 (e2 ▸ e)
      obtain ⟨y1, y2, y3⟩ := hk k' (by simp [e])
      exact ⟨⟨y1, hne⟩, y2, by rw [nextT_lk_other hne]; exact y3⟩) (nextT_acyc hi x1 x2 h)
/-- One that lets go leaves nobody that waits for itself. -/
theorem freed_acyc (hi : Inv T) (h : Acyc T) (o : Nat) : Acyc (T.freed o) :=
  nexts_acyc (T.fks o) (fun k => k ∈ T.fks o) (T.lv o) (lv_inv hi o) (fks_nodup hi o) (fun _ e => ⟨e, (fks_some hi o e).1, (fks_some hi o e).2⟩) (lv_acyc hi h o)
end
end Go.Proofs.Ytbmcdlcoojmppaa

/-
  Nobody waits for itself: as one stands in a line; who waits waits for somebody; somebody waits for nobody.
-/
namespace Go.Proofs.Ytbmcdlcoojmppaa
open Go.RowKit Go.Maps

section
variable {T : Tb} {a b o : Nat}
theorem stand_acyc (hi : Inv T) (h : Acyc T) {k : Key} {m : Int} (hw : (T.of o).mode = 0) (hL : ¬ T.Leads (T.of o).ks k) : Acyc (T.stand o k m) := by
  have e0 : (T.stand o k m).lkOf k = { T.lkOf k with line := lineIn (decide (k ∈ (T.of o).ks)) o m (T.lkOf k).line } := by
    unfold Tb.lkOf
    rw [stand_lk_same]
    rfl
  have e1 : ∀ k', k' ≠ k → (T.stand o k m).lkOf k' = T.lkOf k' := fun k' hk => by
    unfold Tb.lkOf
    rw [stand_lk_other _ _ _ hk]
  have ea : ∀ a, a ≠ o → (T.stand o k m).of a = T.of a := fun a ha => stand_of_other _ _ _ ha
  have hno : ∀ k' m', (o, m') ∉ (T.lkOf k').line := fun k' m' hin => by
    cases e : T.lk k' with
    | none => unfold Tb.lkOf at hin; rw [e] at hin; cases hin
    | some l =>
      rw [lkOf_of e] at hin
      obtain ⟨-, h2, h3⟩ := (hi.lk k' l e).lw o m' hin
      rw [hw] at h2
      omega
  have hky : ∀ k' q m', (q, m') ∈ (T.lkOf k').line → (T.of q).key = k' := fun k' q m' hin => by
    cases e : T.lk k' with
    | none => unfold Tb.lkOf at hin; rw [e] at hin; cases hin
    | some l =>
      rw [lkOf_of e] at hin
      exact ((hi.lk k' l e).lw q m' hin).1
  have hhd : ∀ k' q, q ∈ (T.lkOf k').hs → k' ∈ (T.of q).ks := fun k' q hin => by
    cases e : T.lk k' with
    | none => unfold Tb.lkOf at hin; rw [e] at hin; cases hin
    | some l =>
      rw [lkOf_of e] at hin
      exact (hi.lk k' l e).hk q hin
  have ehs : ∀ k', ((T.stand o k m).lkOf k').hs = (T.lkOf k').hs ∧ ((T.stand o k m).lkOf k').mode = (T.lkOf k').mode := fun k' => by
    by_cases ek : k' = k
    · rw [ek, e0]; exact ⟨rfl, rfl⟩
    · rw [e1 k' ek]; exact ⟨rfl, rfl⟩
  have c1 : ∀ a b, a ≠ o → b ≠ o → b ∈ (T.stand o k m).whom a → b ∈ T.whom a := fun a b ha hb hab => by
    rw [mem_whom, ea a ha, (ehs _).1, (ehs _).2] at hab
    rw [mem_whom]
    refine ⟨hab.1, ?_⟩
    rcases hab.2 with h1 | ⟨m', h1, h2⟩
    · exact .inl h1
    · refine .inr ⟨m', ?_, h2⟩
      by_cases ek : (T.of a).key = k
      · rw [ek] at h1 ⊢
        rw [e0] at h1
        have h1' : (b, m') ∈ ahead a (lineIn (decide (k ∈ (T.of o).ks)) o m (T.lkOf k).line) := h1
        unfold lineIn at h1'
        split at h1'
        · unfold ahead at h1'
          rw [if_neg (fun e => ha e.symm)] at h1'
          rcases List.mem_cons.1 h1' with e | e
          · cases e; exact absurd rfl hb
          · exact e
        · rcases ahead_app h1' with e | ⟨e, _⟩
          · exact e
          · cases e; exact absurd rfl hb
      · rw [e1 _ ek] at h1
        exact h1
  have c2 : ∀ c, c ≠ o → o ∈ (T.stand o k m).whom c → (T.of c).key ∈ (T.of o).ks := fun c hc hab => by
    rw [mem_whom, ea c hc, (ehs _).1] at hab
    rcases hab.2 with ⟨h1, _⟩ | ⟨m', h1, h2⟩
    · exact hhd _ _ h1
    · by_cases ek : (T.of c).key = k
      · rw [ek] at h1 ⊢
        rw [e0] at h1
        have h1' : (o, m') ∈ ahead c (lineIn (decide (k ∈ (T.of o).ks)) o m (T.lkOf k).line) := h1
        unfold lineIn at h1'
        split at h1'
        · rename_i hY
          simpa using hY
        · rcases ahead_app h1' with e | ⟨_, e⟩
          · exact absurd (ahead_sub e).1 (hno k m')
          · obtain ⟨l, g1, g2⟩ := hi.wt c hab.1
            rw [ek] at g1
            rw [lkOf_of g1] at e
            exact absurd g2 (e _)
      · rw [e1 _ ek] at h1
        exact absurd (ahead_sub h1).1 (hno _ m')
  have step : ∀ a b, a ≠ o → b ∈ (T.stand o k m).whom a → (b = o ∨ (b ≠ o ∧ (T.of b).mode ≠ 0 ∧ ((T.of b).key ∈ (T.of o).ks ∨ T.Leads (T.of o).ks (T.of b).key))) → ((T.of a).key ∈ (T.of o).ks ∨ T.Leads (T.of o).ks (T.of a).key) := fun a b ha hab hb => by
    rcases hb with rfl | ⟨hb, hbm, hP⟩
    · exact .inl (c2 a ha hab)
    · have h1 := c1 a b ha hb hab
      rcases (mem_whom.1 h1).2 with ⟨h2, _⟩ | ⟨m', h2, _⟩
      · rcases hP with e | e
        · exact .inr (.hit h2 hbm e)
        · exact .inr (.via h2 hbm e)
      · have := hky _ _ _ (ahead_sub h2).1
        rw [← this]
        exact hP
  have c4 : ∀ a b, Way (T.stand o k m).edge a b → a ≠ o → (b = o ∨ (b ≠ o ∧ (T.of b).mode ≠ 0 ∧ ((T.of b).key ∈ (T.of o).ks ∨ T.Leads (T.of o).ks (T.of b).key))) → ((T.of a).key ∈ (T.of o).ks ∨ T.Leads (T.of o).ks (T.of a).key) := fun a b hW ha => by
    induction hW with
    | one e => exact step _ _ ha e
    | @more b' c _ e ih =>
      intro hc
      by_cases hb : b' = o
      · exact ih (.inl hb)
      · refine ih (.inr ⟨hb, ?_, step _ _ hb e hc⟩)
        have := whom_waits e
        rw [ea _ hb] at this
        exact this
  have c5 : ¬ Way (T.stand o k m).edge o o := fun hW => by
    obtain ⟨b, h1, h2⟩ := hW.first
    have hbo := whom_ne h1
    have hbW : Way (T.stand o k m).edge b o := by
      rcases h2 with e | e
      · exact absurd e hbo
      · exact e
    have hbm : (T.of b).mode ≠ 0 := by
      obtain ⟨c, g1, _⟩ := hbW.first
      have := whom_waits g1
      rw [ea _ hbo] at this
      exact this
    have hP := c4 b o hbW hbo (.inl rfl)
    have h1 : b ∈ (T.stand o k m).whom o := h1
    rw [mem_whom, stand_of_same, (ehs _).1] at h1
    rcases h1.2 with ⟨g1, _⟩ | ⟨m', g1, _⟩
    · have g1' : b ∈ (T.lkOf k).hs := g1
      rcases hP with e | e
      · exact hL (.hit g1' hbm e)
      · exact hL (.via g1' hbm e)
    · have g2 : (b, m') ∈ ahead o ((T.stand o k m).lkOf k).line := g1
      rw [e0] at g2
      have g3 : (b, m') ∈ ahead o (lineIn (decide (k ∈ (T.of o).ks)) o m (T.lkOf k).line) := g2
      unfold lineIn at g3
      split at g3
      · unfold ahead at g3
        rw [if_pos rfl] at g3
        cases g3
      · rename_i hY
        have hY' : k ∉ (T.of o).ks := by simpa using hY
        rcases List.mem_append.1 (ahead_sub g3).1 with e | e
        · rw [hky _ _ _ e] at hP
          rcases hP with e2 | e2
          · exact hY' e2
          · exact hL e2
        · simp at e
          exact hbo e.1
  have key : ∀ a b, Way (T.stand o k m).edge a b → ((T.stand o k m).of b).mode ≠ 0 → Way T.edge a b ∨ ((a = o ∨ Way (T.stand o k m).edge a o) ∧ (b = o ∨ Way (T.stand o k m).edge o b)) := fun a b hW => by
    induction hW with
    | @one b e =>
      intro _
      by_cases ha : a = o
      · subst ha; exact .inr ⟨.inl rfl, .inr (.one e)⟩
      · by_cases hb : b = o
        · subst hb; exact .inr ⟨.inr (.one e), .inl rfl⟩
        · exact .inl (.one (c1 _ _ ha hb e))
    | @more b c w e ih =>
      intro _
      rcases ih (whom_waits e) with h1 | ⟨h1, h2⟩
      · by_cases hb : b = o
        · subst hb; exact .inr ⟨.inr w, .inr (.one e)⟩
        · by_cases hc : c = o
          · subst hc; exact .inr ⟨.inr (w.more e), .inl rfl⟩
          · exact .inl (h1.more (c1 _ _ hb hc e))
      · refine .inr ⟨h1, .inr ?_⟩
        rcases h2 with rfl | h2
        · exact .one e
        · exact h2.more e
  intro a hW
  have hm : ((T.stand o k m).of a).mode ≠ 0 := by
    obtain ⟨c, g1, _⟩ := hW.first
    exact whom_waits g1
  rcases key a a hW hm with e | ⟨h1, h2⟩
  · exact h a e
  · rcases h1 with rfl | h1
    · rcases h2 with h2 | h2
      · exact c5 hW
      · exact c5 h2
    · rcases h2 with h2 | h2
      · rw [h2] at h1; exact c5 h1
      · exact c5 (h2.trans h1)
/-- One asks. -/
theorem ask_acyc (hi : Inv T) (h : Acyc T) {k : Key} {m : Int} {R : Bool} (hR : T.may o k m = false → RingOk T o k R) : Acyc (T.ask o k m R).2 := by
  unfold Tb.ask
  split
  · exact h
  rename_i hm
  split
  · exact h
  split
  · exact h
  rename_i hw
  split
  · exact h
  rename_i hh
  split
  · exact h
  have hm' : m = 1 ∨ m = 2 := Decidable.byContradiction fun e => hm e
  have hw' : (T.of o).mode = 0 := Decidable.byContradiction fun e => hw e
  split
  · rename_i hmay
    refine give_acyc hi h hw' hm' ?_
    unfold Tb.may at hmay
    cases e : T.lk k with
    | none => unfold Tb.lkOf; rw [e]; exact fits_none rfl
    | some l =>
      rw [e] at hmay
      simp only [Bool.and_eq_true] at hmay
      rw [lkOf_of e]
      exact hmay.1
  rename_i hmay
  split
  · exact h
  rename_i hr
  refine stand_acyc hi h hw' fun e => hr ((hR (by simpa using hmay)).2 e)
/-- Who waits waits for somebody. -/
theorem waits_some (hi : Inv T) (hw : (T.of o).mode ≠ 0) : ∃ q, q ∈ T.whom o := by
  obtain ⟨l, hl, hin⟩ := hi.wt o hw
  have hk := hi.lk _ l hl
  obtain ⟨hne, hst⟩ := hi.full _ l hl (fun e => e)
  cases hline : l.line with
  | nil => rw [hline] at hin; cases hin
  | cons x r =>
    obtain ⟨f, mf⟩ := x
    have hfit := hst f mf r hline
    unfold Lk.fits at hfit
    simp only [Bool.or_eq_false_iff, decide_eq_false_iff_not] at hfit
    obtain ⟨hf1, hf2⟩ := hfit
    have hq : ∃ q, q ∈ l.hs ∧ q ≠ f := by
      refine Decidable.byContradiction fun hno => ?_
      have hall : ∀ q, q ∈ l.hs → q = f := fun q hq => Decidable.byContradiction fun e => hno ⟨q, hq, e⟩
      have h1 : l.hs.length ≤ 1 := by
        have := nodup_le l.hs [f] hk.hnd fun q hq => by rw [hall q hq]; simp
        simpa using this
      by_cases hfh : f ∈ l.hs
      · have := List.length_pos_of_mem hfh
        rw [if_pos hfh] at hf1
        omega
      · rcases List.exists_mem_of_ne_nil _ hne with ⟨q, hq⟩
        exact hfh (hall q hq ▸ hq)
    obtain ⟨q, hq1, hq2⟩ := hq
    have hlk := lkOf_of hl
    by_cases hof : o = f
    · have hmf : (T.of o).mode = mf := by
        rw [hof]
        exact (hk.lw f mf (by rw [hline]; simp)).2.1
      refine ⟨q, mem_whom.2 ⟨hw, .inl ?_⟩⟩
      rw [hlk, hmf]
      exact ⟨hq1, by rw [hof]; exact hq2, hf2⟩
    · cases hg : tog (T.of o).mode mf with
      | false =>
        refine ⟨f, mem_whom.2 ⟨hw, .inr ⟨mf, ?_, hg⟩⟩⟩
        rw [hlk, hline]
        exact ahead_head fun e => hof e.symm
      | true =>
        unfold tog at hg
        simp at hg
        obtain ⟨g1, g2⟩ := hg
        rw [g2] at hf2
        unfold tog at hf2
        simp at hf2
        have hmd : l.mode = 2 := by
          rcases hk.md hne with e | e
          · exact absurd e hf2
          · exact e
        have hol : (o, (T.of o).mode) ∈ r := by
          rw [hline] at hin
          rcases List.mem_cons.1 hin with e | e
          · cases e; exact absurd rfl hof
          · exact e
        have hno := hk.up (f, mf) r hline _ hol
        refine ⟨q, mem_whom.2 ⟨hw, .inl ?_⟩⟩
        rw [hlk, g1, hmd]
        exact ⟨hq1, fun e => hno (e ▸ hq1), rfl⟩
theorem whom_oo (hi : Inv T) (h : b ∈ T.whom a) : b ∈ T.oo := by
  rcases (mem_whom.1 h).2 with ⟨h1, _⟩ | ⟨m, h1, _⟩
  · cases e : T.lk (T.of a).key with
    | none => unfold Tb.lkOf at h1; rw [e] at h1; cases h1
    | some l => rw [lkOf_of e] at h1; exact hi.in_oo e h1
  · have h2 := (ahead_sub h1).1
    cases e : T.lk (T.of a).key with
    | none => unfold Tb.lkOf at h2; rw [e] at h2; cases h2
    | some l => rw [lkOf_of e] at h2; exact hi.line_oo e h2
/-- Two that hold a key hold it in the mode 1. -/
theorem hold_modes (hi : Inv T) (k : Key) (hab : a ≠ b) (ha : T.hold a k ≠ 0) (hb : T.hold b k ≠ 0) : T.hold a k = 1 ∧ T.hold b k = 1 := by
  unfold Tb.hold at ha hb ⊢
  by_cases h1 : k ∈ (T.of a).ks
  · by_cases h2 : k ∈ (T.of b).ks
    · rw [if_pos h1] at ha ⊢
      rw [if_pos h2] at hb ⊢
      obtain ⟨l, e, m1⟩ := hi.holds a k h1
      obtain ⟨l', e', m2⟩ := hi.holds b k h2
      rw [e] at e'
      cases e'
      rw [lkOf_of e] at ha ⊢
      have hk := hi.lk k l e
      have hm : l.mode = 1 := by
        rcases hk.md (fun e2 => by rw [e2] at m1; cases m1) with e3 | e3
        · exact e3
        · have h3 := hk.one e3
          have h4 := nodup_le [a, b] l.hs (by simp [hab]) fun q hq => by
            simp at hq
            rcases hq with rfl | rfl
            · exact m1
            · exact m2
          simp at h4
          omega
      exact ⟨hm, hm⟩
    · rw [if_neg h2] at hb; exact absurd rfl hb
  · rw [if_neg h1] at ha; exact absurd rfl ha
/-- Where somebody has something, one that has something waits for nothing. -/
theorem some_free (hi : Inv T) (h : Acyc T) (ho : T.oo ≠ []) : ∃ q, q ∈ T.oo ∧ (T.of q).mode = 0 := by
  obtain ⟨m, h1, h2⟩ := Way.last h T.oo ho
  refine ⟨m, h1, Decidable.byContradiction fun e => ?_⟩
  obtain ⟨q, hq⟩ := waits_some hi e
  exact h2 q (whom_oo hi hq) (.one hq)
theorem nextN_mode {k : Key} (q : Nat) : ∀ (n : Nat) (T : Tb) (c : List Nat), ((Tb.nextN n T k c).2.of q).mode ≠ 0 → (T.of q).mode ≠ 0
  | 0, T, c, h => h
  | n + 1, T, c, h => by
    cases hl : (T.lkOf k).line with
    | nil => rw [nextN_nil hl] at h; exact h
    | cons om r =>
      obtain ⟨o, m⟩ := om
      cases hf : (T.lkOf k).fits o m with
      | false => rw [nextN_no hl hf] at h; exact h
      | true =>
        rw [nextN_yes hl hf] at h
        have h1 := nextN_mode q n _ _ h
        by_cases e : q = o
        · subst e
          rw [give_of_same, pop_of_same] at h1
          exact absurd rfl h1
        · rw [give_of_other _ _ _ e, pop_of_other _ _ _ e] at h1
          exact h1
theorem nextT_of (T : Tb) (k : Key) (q : Nat) : (T.nextT k).of q = (T.nextT0 k).of q := by
  unfold Tb.nextT
  split <;> rfl
theorem nexts_mode (q : Nat) : ∀ (ks : List Key) (T : Tb), ((T.nextsT ks).of q).mode ≠ 0 → (T.of q).mode ≠ 0
  | [], T, h => h
  | k :: r, T, h => by
    have h1 := nexts_mode q r (T.nextT k) h
    rw [nextT_of] at h1
    exact nextN_mode q _ T [] h1
theorem freed_mode {q : Nat} (h : (T.of q).mode = 0) : ((T.freed o).of q).mode = 0 := Decidable.byContradiction fun e => by
  have h1 := nexts_mode q _ _ e
  by_cases eq : q = o
  · subst eq
    rw [lv_of_same] at h1
    exact absurd rfl h1
  · rw [lv_of_other _ _ eq] at h1
    exact h1 h
theorem freed_oo (hi : Inv T) (o : Nat) (hol : T.oo.length ≤ 10000) (hkl : T.kk.length ≤ 10000) : (T.freed o).oo = delK o T.oo := by
  obtain ⟨-, -, c, -⟩ := nexts_inv (T.fks o) (fun k => k ∈ T.fks o) (T.lv o) (lv_inv hi o) (fks_nodup hi o) (fun _ e => e) (fun _ e => ⟨e, (fks_some hi o e).1, (fks_some hi o e).2⟩)
    (by rw [lv_oo]; exact Nat.le_trans (delK_len _ _) hol) (by rw [lv_kk]; exact hkl)
  rw [← lv_oo]
  exact c
theorem none_many (hi : Inv T) (h : T.oo = []) : T.many = 0 := by
  have := hi.cnt [] List.nodup_nil fun q hq => by
    have := hi.some_py (o := q) fun e => hq (by unfold Tb.cnt; rw [e]; rfl)
    rw [h] at this
    exact this
  rw [this]
  rfl
end
end Go.Proofs.Ytbmcdlcoojmppaa

/-
  Rows of owners, sorted, and each once.
-/
namespace Go.Proofs.Ytbmcdlcoojmppaa
open Go.RowKit Go.Maps

/-- Owners as numbers. -/
def nums (xs : List Nat) : Array Int := (xs.map fun n : Nat => (n : Int)).toArray
theorem nums_size (xs : List Nat) : (nums xs).size = xs.length := by unfold nums; simp
theorem nums_at (xs : List Nat) {j : Nat} (hj : j < xs.length) : (nums xs)[j]! = ((xs.getD j 0 : Nat) : Int) := by
  rw [getElem!_pos _ j (by rw [nums_size]; exact hj)]
  unfold nums
  simp [List.getD, hj]
theorem nums_list (xs : List Nat) : (nums xs).toList = xs.map fun n : Nat => (n : Int) := rfl
theorem nat_row {l : List Int} (h : ∀ x, x ∈ l → 0 ≤ x) : ∃ ys : List Nat, l = ys.map (fun n : Nat => (n : Int)) := by
  refine ⟨l.map Int.toNat, ?_⟩
  rw [List.map_map]
  have : l.map ((fun n : Nat => (n : Int)) ∘ Int.toNat) = l.map id := List.map_congr_left fun x hx => by
    have := h x hx
    simp only [Function.comp]
    exact Int.toNat_of_nonneg this
  rw [this, List.map_id]
section
variable {w w' : World} {base g cap : Nat} {xs : List Nat}
theorem Us.su (h : Us w base (.slice (some ⟨g, 0, none⟩) xs.length cap) xs) : SU w w g 0 cap (nums xs) ∧ xs.length ≤ cap ∧ cap ≤ maxLen ∧ base ≤ g := by
  rcases h.2 with ⟨e, _⟩ | ⟨g', cap', cur, e, hb, hh, h1, h2, h3, h4⟩
  · cases e
  · simp only [Value.slice.injEq, Option.some.injEq, Addr.mk.injEq, and_true, true_and] at e
    obtain ⟨rfl, rfl⟩ := e
    refine ⟨⟨⟨cur, hh, by rw [h3, Nat.mul_one], by rw [nums_size]; omega, fun j hj => ?_⟩, World.grownBy.refl _ _⟩, h1, h2, hb⟩
    rw [nums_size] at hj
    have hb2 : Blk w g TOw cur := hh
    have := Us.cellAt h j hj
    rw [hb2.cell] at this
    rw [Nat.zero_add, this, nums_at xs hj]
    rfl
theorem SU.us {w0 : World} {d : Array Int} (h : SU w0 w g 0 cap d) (hb : base ≤ g) (hm : cap ≤ maxLen) (hd : xs.length ≤ d.size) (he : ∀ j, j < xs.length → d[j]! = ((xs.getD j 0 : Nat) : Int)) : Us w base (.slice (some ⟨g, 0, none⟩) xs.length cap) xs := by
  obtain ⟨cs, h1, h2, h3, h4⟩ := h.row
  refine ⟨by simp, .inr ⟨g, cap, cs, rfl, hb, h1, by omega, hm, by omega, ?_⟩⟩
  rw [Nat.mul_one]
  apply List.ext_getElem?
  intro j
  by_cases hj : j < xs.length
  · rw [List.getElem?_take_of_lt hj, Array.getElem?_toList]
    have := h4 j (by omega)
    rw [Nat.zero_add] at this
    rw [this, he j hj, List.getElem?_map]
    simp [List.getD, hj, u64v]
  · rw [List.getElem?_eq_none (by simp; omega), List.getElem?_eq_none (by simp; omega)]
theorem Us.ne_nil {v : Value} (h : Us w base v xs) (hx : xs ≠ []) : ∃ g cap, v = .slice (some ⟨g, 0, none⟩) xs.length cap := by
  rcases h.2 with ⟨_, e⟩ | ⟨g', cap', cur, e, _⟩
  · exact absurd (List.eq_nil_of_length_eq_zero e) hx
  · exact ⟨g', cap', e⟩
/-- slices.Sort over a row of owners. -/
theorem sort_us {g cap : Nat} (h : Us w base (.slice (some ⟨g, 0, none⟩) xs.length cap) xs) (hx : xs.length ≤ 1000000000) :
    Calls Try.prog 32 #[.slice (some ⟨g, 0, none⟩) xs.length cap] w fun e w' => e = .returned (.tuple #[]) ∧ ∃ ys, ys.Perm xs ∧ ys.Pairwise (· ≤ ·) ∧ Us w' base (.slice (some ⟨g, 0, none⟩) xs.length cap) ys ∧ w.grownBy w' (some g) := by
  obtain ⟨hs, h1, h2, h3⟩ := h.su
  refine (sort_u hs (nums_size xs) (by omega)).mono ?_
  rintro e w' ⟨rfl, d', hd, hp, hsrt, hs'⟩
  have hl := sorted_list (nums_size xs) hp hsrt
  have hpm : d'.toList.Perm (nums xs).toList := by rw [hl]; exact List.mergeSort_perm _ _
  obtain ⟨ys, hys⟩ := nat_row (l := d'.toList) fun x hx => by
    have := hpm.mem_iff.1 hx
    rw [nums_list] at this
    obtain ⟨n, _, rfl⟩ := List.mem_map.1 this
    exact Int.natCast_nonneg n
  have hlen : ys.length = xs.length := by
    have := hpm.length_eq
    rw [hys, nums_list] at this
    simpa using this
  have hperm : ys.Perm xs := by
    rw [hys, nums_list] at hpm
    have := hpm.map Int.toNat
    rw [List.map_map, List.map_map] at this
    have e : (Int.toNat ∘ fun n : Nat => (n : Int)) = id := by funext n; simp
    rw [e, List.map_id, List.map_id] at this
    exact this
  have hdat : ∀ j, j < ys.length → d'[j]! = ((ys.getD j 0 : Nat) : Int) := fun j hj => by
    have hj2 : j < d'.size := by omega
    rw [getElem!_pos d' j hj2]
    have : d'.toList[j]? = (ys.map fun n : Nat => (n : Int))[j]? := by rw [hys]
    rw [Array.getElem?_toList, Array.getElem?_eq_getElem hj2, List.getElem?_map, List.getElem?_eq_getElem hj] at this
    simp only [Option.map_some, Option.some.injEq] at this
    rw [this]
    simp [List.getD, hj]
  refine ⟨rfl, ys, hperm, ?_, ?_, hs'.on⟩
  · rw [List.pairwise_iff_getElem]
    intro i j hi hj hij
    have := hsrt i j (Nat.zero_le _) hij (by omega)
    rw [hdat i hi, hdat j hj] at this
    simp only [Sort.ltInt, decide_eq_false_iff_not] at this
    simp [List.getD, hi, hj] at this
    omega
  · have := hs'.us (base := base) (xs := ys) h3 h2 (by omega) hdat
    rw [hlen] at this
    exact this
theorem getD_get {α : Type} (l : List α) (j : Nat) (z : α) (hj : j < l.length) : l.getD j z = l[j] := by simp [List.getD, hj]
/-- slices.Compact over a sorted row of owners. -/
theorem compact_us {g cap : Nat} {ys : List Nat} (h : Us w base (.slice (some ⟨g, 0, none⟩) ys.length cap) ys) (hx : ys.length ≤ 1000000000) (hs : ys.Pairwise (· ≤ ·)) :
    Calls Try.prog 33 #[.slice (some ⟨g, 0, none⟩) ys.length cap] w fun e w' => ∃ zs v, e = .returned v ∧ (∀ q, q ∈ zs ↔ q ∈ ys) ∧ zs.Pairwise (· < ·) ∧ zs.length ≤ ys.length ∧ Us w' base v zs ∧ w.grownBy w' (some g) := by
  obtain ⟨hsu, h1, h2, h3⟩ := h.su
  have hsrt : Sort.SortedIn Sort.ltInt 0 ys.length (nums ys) := fun i j _ hij hj => by
    rw [nums_at ys hj, nums_at ys (show i < ys.length by omega), getD_get ys i 0 (by omega), getD_get ys j 0 hj]
    have := (List.pairwise_iff_getElem.1 hs) i j (by omega) hj hij
    simp only [Sort.ltInt, decide_eq_false_iff_not]
    omega
  have hm := fun x => compact_mem (nums_size ys) x
  have hr := compact_rise (nums_size ys) hsrt
  have hcl := compact_len (nums ys)
  rw [nums_size] at hcl
  refine (compact_u hsu (nums_size ys) (by omega) h1).mono ?_
  rintro e w' ⟨d', hd, hs', hat, rfl⟩
  obtain ⟨zs, hzs⟩ := nat_row (l := Lib.compactUpTo (nums ys) ys.length) fun x hx => by
    have := (hm x).1 hx
    rw [nums_list] at this
    obtain ⟨n, _, rfl⟩ := List.mem_map.1 this
    exact Int.natCast_nonneg n
  rw [hzs] at hm hr hcl hat ⊢
  rw [List.length_map] at hcl
  simp only [List.length_map] at hat ⊢
  refine ⟨zs, _, rfl, fun q => ?_, ?_, hcl, hs'.us h3 h2 (by omega) fun j hj => ?_, hs'.on⟩
  · have := hm (q : Int)
    rw [nums_list] at this
    have e : ∀ l : List Nat, (q : Int) ∈ l.map (fun n : Nat => (n : Int)) ↔ q ∈ l := fun l => by
      rw [List.mem_map]
      exact ⟨fun ⟨a, h1, h2⟩ => by have : a = q := Int.ofNat.inj h2; exact this ▸ h1, fun h => ⟨q, h, rfl⟩⟩
    rw [e, e] at this
    exact this
  · rw [List.pairwise_map] at hr
    exact hr.imp fun h => by omega
  · rw [hat j hj, getElem!_pos _ j (by simpa using hj), getD_get zs j 0 hj]
    simp
end
end Go.Proofs.Ytbmcdlcoojmppaa

