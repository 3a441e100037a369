/-
  Texts, put together: PoolFi1 PoolAl5 PoolKe1 PoolRef1 PoolKe2 PoolFi2.
-/
import Derived.Test.YtaemmknijmhnoaaGreatF7
import Derived.Test.YtaemmknijmhnoaaGreatF8
import Derived.Test.YtaemmknijmhnoaaGreatF30
import Derived.Test.YtaemmknijmhnoaaGreatF33
import Derived.Test.YtaemmknijmhnoaaGreatF35
import Derived.Test.YtaemmknijmhnoaaGreatF36
set_option linter.unusedVariables false
set_option linter.unusedSimpArgs false
/-
  The log's bytes on the disk: what lasts is read again behind a loss of power. No memory here.
-/
namespace Go.Proofs.YtaemmknijmhnoaaGreat
open Go.RowKit Go.Maps Cr

/-- Whole records from 0 on: what stands behind them is read on. -/
def Wh (T : List Int) : Prop := ∀ rest : List Int, T.length + rest.length ≤ 1000000 → endL 0 (allL (T ++ rest) 0) = endL T.length (allL rest T.length)
theorem Wh.nil : Wh [] := fun _ _ => rfl
theorem Wh.rec {T : List Int} (h : Wh T) {r : Rc} (hm : mayR r = true) (hi : r.In) : Wh (T ++ recL r T.length) := fun rest hl => by
  rw [List.length_append] at hl
  rw [List.append_assoc, h _ (by rw [List.length_append]; omega), allL_yes (ofB_rec hm hi T.length rest), ofN_rec hm hi, List.drop_left, onW_of (by omega), List.length_append]
  rfl
theorem Wh.le {T : List Int} (h : Wh T) (rest : List Int) (hl : T.length + rest.length ≤ 1000000) : T.length ≤ endL 0 (allL (T ++ rest) 0) := by
  rw [h rest hl]
  exact (allL_end _ rest T.length (Nat.le_refl _) (by omega)).1
/-- A sector that has the log's bytes, up to what lasts at least. -/
def Gd (T : List Int) (m k : Nat) (x : Sec) : Prop := ∃ n, x = Sx (secL k 1 ((T.drop (232 * k)).take n)) ∧ n ≤ 232 ∧ 232 * k + n ≤ T.length ∧ (n = 232 ∨ m ≤ 232 * k + n)
theorem Gd.more {T : List Int} {m k : Nat} {x : Sec} (h : Gd T m k x) (ys : List Int) : Gd (T ++ ys) m k x := by
  obtain ⟨n, h1, h2, h3, h4⟩ := h
  refine ⟨n, ?_, h2, by rw [List.length_append]; omega, h4⟩
  rw [h1, List.drop_append_of_le_length (by omega), List.take_append_of_le_length (by rw [List.length_drop]; omega)]
theorem Gd.full {T : List Int} {m k : Nat} {x : Sec} (h : Gd T m k x) (hk : 232 * (k + 1) ≤ m) (m' : Nat) : Gd T m' k x := by
  obtain ⟨n, h1, h2, h3, h4⟩ := h
  exact ⟨n, h1, h2, h3, .inl (by omega)⟩
theorem Wd.Small.mid {T : List Int} (h : Wd.Small T) (a n : Nat) : Wd.Small ((T.drop a).take n) := (h.drop a).take n
theorem Gd.says {T : List Int} {m k : Nat} {x : Sec} (h : Gd T m k x) (hT : Wd.Small T) (hk : k < 1000) :
    ∃ n, okX (secN x) = true ∧ numX (secN x) = k ∧ epX (secN x) = 1 ∧ manyX (secN x) = n ∧ bytX (secN x) = (T.drop (232 * k)).take n ∧ n ≤ 232 ∧ 232 * k + n ≤ T.length ∧ (n = 232 ∨ m ≤ 232 * k + n) := by
  obtain ⟨n, h1, h2, h3, h4⟩ := h
  have hl : ((T.drop (232 * k)).take n).length = n := by rw [List.length_take, List.length_drop]; omega
  have hs := secL_says (k := k) (ep := 1) (b := (T.drop (232 * k)).take n) (by omega) (by decide) (by omega)
  rw [h1, secN_Sx (secL_sec (by omega) (hT.mid _ _))]
  exact ⟨n, hs.1, hs.2.1, hs.2.2.1, by rw [hs.2.2.2.1, hl], hs.2.2.2.2, h2, h3, h4⟩
theorem found_at {rd : Nat → List Int} {T : List Int} {m : Nat} (hT : Wd.Small T) (hm : m ≤ 3480) (hrd : ∀ k, 232 * k < m → ∃ x, rd (3 + k) = secN x ∧ Gd T m k x) :
    ∀ f k, k + f = 16 → ∀ i, 232 * k + i < m → (foundL rd 16 2 f k 1)[i]? = T[232 * k + i]?
  | 0, k, hkf, i, hi => by omega
  | f + 1, k, hkf, i, hi => by
    obtain ⟨x, hx, hg⟩ := hrd k (by omega)
    obtain ⟨n, s1, s2, s3, s4, s5, s6, s7, s8⟩ := hg.says hT (by omega)
    have hmod : k % 16 = k := Nat.mod_eq_of_lt (by omega)
    have hl : (bytX (secN x)).length = n := by rw [s5, List.length_take, List.length_drop]; omega
    unfold foundL
    rw [hmod, hx, if_pos ⟨s1, s2, by omega, by omega⟩]
    by_cases hin : i < n
    · rw [List.getElem?_append_left (by omega), s5, List.getElem?_take, if_pos hin, List.getElem?_drop]
    · have hn : n = 232 := by omega
      rw [List.getElem?_append_right (by omega), hl, s4, if_neg (by omega), s3, found_at hT hm hrd f (k + 1) (by omega) (i - n) (by omega)]
      congr 1
      omega
theorem nw_mem (s : St) (i : Nat) : s.nw i ∈ s.at i := by
  unfold St.nw St.at
  cases h : s.t i with
  | nil => simp
  | cons x r =>
    have e : (x :: r).getLastD (s.ls.getD i Sec.zero) = (x :: r).getLast (by simp) := by simp [List.getLastD_eq_getLast?, List.getLast?_eq_some_getLast]
    rw [e]
    exact List.mem_cons_of_mem _ (List.getLast_mem _)
theorem getD_in {l : List Sec} {k : Nat} (h : k < l.length) : l.getD k Sec.zero ∈ l := by
  rw [List.getD_eq_getElem?_getD, List.getElem?_eq_getElem h]
  exact List.getElem_mem h
theorem chosen_mem (s : St) (zs : List Int) (i : Nat) : s.chosen zs i ∈ s.at i := by
  unfold St.chosen St.at
  have h : pickAt zs (s.rank i) % ((s.t i).length + 1) < (s.ls.getD i Sec.zero :: s.t i).length := by rw [List.length_cons]; exact Nat.mod_lt _ (by omega)
  exact getD_in h
theorem at_wrote {s : St} {i j : Nat} {x y : Sec} (h : y ∈ (s.wrote i x).at j) : y ∈ s.at j ∨ (j = i ∧ y = x) := by
  unfold St.at St.wrote at h
  dsimp only at h
  by_cases e : j = i
  · rw [if_pos e] at h
    subst e
    rcases List.mem_cons.1 h with h | h
    · exact .inl (by rw [h]; exact List.mem_cons_self)
    · rcases List.mem_append.1 h with h | h
      · exact .inl (List.mem_cons_of_mem _ h)
      · exact .inr ⟨rfl, by simpa using h⟩
  · rw [if_neg e] at h
    exact .inl h
theorem at_putD {s : St} {i j : Nat} {x y : Sec} (h : y ∈ (putD s i x).at j) : y ∈ s.at j ∨ (j = i ∧ y = x) := by
  unfold putD at h
  split at h
  · exact .inl h
  · exact at_wrote h
theorem at_ba {s : St} {j : Nat} {y : Sec} (hj : j < s.ls.length) (h : y ∈ (BaS s).at j) : y ∈ s.at j := by
  unfold BaS at h
  split at h
  · exact h
  · have e : y = s.nw j := by
      unfold St.at St.barrier at h
      simpa [List.getD, hj] using h
    rw [e]
    exact nw_mem s j
/-- What a page's sector says of its LSN. -/
def lsnS (x : Sec) : Nat := Wd.dec ((secN x).take 8)
theorem lsnS_sec {f : PFr} (h : f.In) : lsnS (Sx f.sec) = f.lsn := (frS_sec h).2
theorem lsnS_zero : lsnS Sec.zero = 0 := by
  have h2 : secN Sec.zero = List.replicate 256 0 := by
    unfold secN Sec.zero
    rw [List.map_replicate]
    rfl
  unfold lsnS
  rw [h2, List.take_replicate]
  decide
/-- The log's bytes, whole, and what the disk has of them. -/
structure FI (T : List Int) (s : St) (L : Lg) : Prop where
  ok : L.Ok
  l16 : L.l = 16
  ep : L.epoch = 1
  tl : L.tail = 0
  rs : L.rsv = 0
  n64 : s.ls.length = 64
  wh : Wh T
  whl : Wh (T.take L.lasts)
  len : T.length = L.fin
  txt : L.txt = T.drop (L.lasts - L.lasts % 232)
  room : L.fin ≤ 3480
  beg : L.begun = false → L.lasts = 0
  small : Wd.Small T
  sec : ∀ k, 232 * k < L.lasts → ∀ x, x ∈ s.at (3 + k) → Gd T L.lasts k x
  pg : ∀ i, 19 ≤ i → i < 64 → ∀ x, x ∈ s.at i → lsnS x ≤ L.lasts
section
variable {T : List Int} {s s' : St} {L : Lg}
theorem FI.near (h : FI T s L) : L.lasts ≤ L.fin := h.ok.near.2.2
theorem FI.st (h : FI T s L) (hl : s'.ls.length = 64) (hs : ∀ j x, j < 64 → x ∈ s'.at j → x ∈ s.at j ∨ (j < 19 ∧ (232 * (j - 3) < L.lasts → Gd T L.lasts (j - 3) x)) ∨ (19 ≤ j ∧ lsnS x ≤ L.lasts)) : FI T s' L :=
  ⟨h.ok, h.l16, h.ep, h.tl, h.rs, hl, h.wh, h.whl, h.len, h.txt, h.room, h.beg, h.small, fun k hk x hx => by
    have h1 := h.near
    have h2 := h.room
    rcases hs (3 + k) x (by omega) hx with h3 | h3 | h3
    · exact h.sec k hk x h3
    · have h4 := h3.2
      rw [show 3 + k - 3 = k by omega] at h4
      exact h4 hk
    · omega, fun i h19 h64 x hx => by
    rcases hs i x h64 hx with h3 | h3 | h3
    · exact h.pg i h19 h64 x h3
    · omega
    · exact h3.2⟩
theorem FI.dead (h : FI T s L) : FI T { s with dead := true } L := h.st h.n64 fun _ _ _ hx => .inl hx
theorem FI.ba (h : FI T s L) : FI T (BaS s) L := h.st ((ba_len _).trans h.n64) fun _ _ hj hx => .inl (at_ba (by rw [h.n64]; exact hj) hx)
theorem FI.page (h : FI T s L) {i : Nat} (h19 : 19 ≤ i) {x : Sec} (hx : lsnS x ≤ L.lasts) : FI T (s.wrote i x) L := h.st h.n64 fun j y _ hy => by
  rcases at_wrote hy with h1 | ⟨rfl, rfl⟩
  · exact .inl h1
  · exact .inr (.inr ⟨h19, hx⟩)
theorem FI.begun (h : FI T s L) : FI T s { L with begun := true } :=
  ⟨⟨h.ok.may, h.ok.e0, h.ok.e1, h.ok.tl, h.ok.has, h.ok.most, h.ok.room, h.ok.r0, h.ok.r1⟩, h.l16, h.ep, h.tl, h.rs, h.n64, h.wh, h.whl, h.len, h.txt, h.room, (fun e => by cases e), h.small, h.sec, h.pg⟩
theorem FI.beg0 (h : FI T s L) : FI T (begS s L) (begL s L) := by
  have hb := begI_lt (L := L) h.l16
  have key : L.begun = false → ∀ x, FI T (putD s (begI L) x) L := fun e x => by
    have h0 := h.beg e
    refine h.st (by unfold putD; split; exact h.n64; exact h.n64) fun j y _ hy => ?_
    rcases at_putD hy with h1 | ⟨rfl, rfl⟩
    · exact .inl h1
    · exact .inr (.inl ⟨hb, fun h2 => by omega⟩)
  unfold begS begL
  by_cases e : L.begun = true
  · rw [if_pos e, if_pos e]; exact h
  · have e2 : L.begun = false := by simpa using e
    rw [if_neg e, if_neg e]
    by_cases hr : s.refuses
    · rw [if_pos hr, if_pos hr]
      exact key e2 _
    · rw [if_neg hr, if_neg hr]
      exact (key e2 _).ba.begun
theorem FI.wr_gd (h : FI T s L) {j m : Nat} (hj : 232 * (L.lasts / 232 + j) < L.fin) (hm : m ≤ L.fin) : wrI L j = 3 + (L.lasts / 232 + j) ∧ Gd T m (L.lasts / 232 + j) (wrX L j) := by
  have hr := h.room
  refine ⟨?_, ?_⟩
  · unfold wrI
    rw [h.l16]
    show 3 + (L.lasts / 232 + j) % 16 = _
    rw [Nat.mod_eq_of_lt (by omega)]
  · have e1 : L.txt.drop (232 * j) = T.drop (232 * (L.lasts / 232 + j)) := by
      rw [h.txt, List.drop_drop]
      congr 1
      omega
    refine ⟨min 232 (L.fin - 232 * (L.lasts / 232 + j)), ?_, by omega, by rw [h.len]; omega, by omega⟩
    unfold wrX
    rw [e1, h.ep]
    congr 2
    rw [List.take_eq_take_iff, List.length_drop, h.len]
    omega
theorem FI.wrAll : ∀ (n j : Nat) (s : St), FI T s L → (∀ i, i < j + n → 232 * (L.lasts / 232 + i) < L.fin) → (∀ i, i < j → s.nw (3 + (L.lasts / 232 + i)) = wrX L i) →
    FI T (wrAll L n j s).1 L ∧ ((wrAll L n j s).2 = 0 → (∀ i, (wrAll L n j s).1.t i = []) ∧ ∀ i, i < j + n → (wrAll L n j s).1.nw (3 + (L.lasts / 232 + i)) = wrX L i)
  | 0, j, s, h, hj, hn => by
    refine ⟨h.ba, fun he => ?_⟩
    have hd : s.dead = false := by
      cases hd : s.dead with
      | false => rfl
      | true => exact absurd he (by show ¬ BaE s = 0; unfold BaE; rw [hd]; simp)
    refine ⟨fun i => ?_, fun i hi => ?_⟩
    · show (BaS s).t i = []
      unfold BaS
      rw [hd]
      rfl
    · have h1 := hj i hi
      have h2 := h.room
      show (BaS s).nw _ = _
      rw [nw_ba (by rw [h.n64]; omega)]
      exact hn i (by omega)
  | n + 1, j, s, h, hj, hn => by
    unfold Go.Proofs.YtaemmknijmhnoaaGreat.wrAll
    split
    · exact ⟨h.dead, fun e => by cases e⟩
    · obtain ⟨h1, h2⟩ := h.wr_gd (hj j (by omega)) h.near
      have h3 : FI T (s.wrote (wrI L j) (wrX L j)) L := h.st h.n64 fun i y _ hy => by
        rcases at_wrote hy with h4 | ⟨rfl, rfl⟩
        · exact .inl h4
        · have h5 := hj j (by omega)
          have h6 := h.room
          refine .inr (.inl ⟨by omega, fun _ => ?_⟩)
          rw [h1, show 3 + (L.lasts / 232 + j) - 3 = L.lasts / 232 + j by omega]
          exact h2
      have h4 := FI.wrAll n (j + 1) _ h3 (fun i hi => hj i (by omega)) fun i hi => by
        rw [nw_wrote2, h1]
        by_cases e : i = j
        · rw [e, if_pos rfl]
        · rw [if_neg (by omega)]
          exact hn i (by omega)
      rw [show j + 1 + n = j + (n + 1) by omega] at h4
      exact h4
theorem FI.done (h : FI T s L) (hb : L.begun = true) (ht : ∀ i, s.t i = []) (hn : ∀ i, i < chN L.txt.length → s.nw (3 + (L.lasts / 232 + i)) = wrX L i) : FI T s L.done := by
  obtain ⟨k1, k2, k3⟩ := h.ok.done
  have hnr := h.near
  have hfin : L.fin = L.lasts - L.lasts % 232 + L.txt.length := rfl
  have hat : ∀ i x, x ∈ s.at i → x = s.nw i := fun i x hx => by
    unfold St.at at hx
    rw [ht i] at hx
    rw [nw_none (ht i)]
    simpa using hx
  refine ⟨k1, h.l16, h.ep, h.tl, h.rs, h.n64, h.wh, ?_, h.len.trans k2.symm, ?_, by rw [k2]; exact h.room, fun e => ?_, h.small, fun k hk x hx => ?_, fun i h19 h64 x hx => Nat.le_trans (h.pg i h19 h64 x hx) hnr⟩
  · show Wh (T.take L.fin)
    rw [← h.len, List.take_length]
    exact h.wh
  · show L.txt.drop (L.txt.length - L.fin % 232) = T.drop (L.fin - L.fin % 232)
    rw [h.txt, List.drop_drop]
    rw [h.txt] at k3 hfin
    congr 1
    omega
  · have e2 : L.begun = false := e
    rw [hb] at e2
    cases e2
  · have hk2 : 232 * k < L.fin := hk
    show Gd T L.fin k x
    by_cases hq : k < L.lasts / 232
    · exact (h.sec k (by omega) x hx).full (by omega) _
    · obtain ⟨j, rfl⟩ : ∃ j, k = L.lasts / 232 + j := ⟨k - L.lasts / 232, by omega⟩
      rw [hat _ x hx, hn j (by unfold chN; omega)]
      exact (h.wr_gd hk2 (Nat.le_refl _)).2
/-- The log is flushed, or the power goes. -/
theorem FI.fl (h : FI T s L) (u : Nat) : FI T (flS s L u) (flL s L u) ∧ (flE s L u = 0 → u ≤ (flL s L u).lasts) := by
  unfold flS flL flE
  by_cases h1 : L.fin < u
  · rw [if_pos h1, if_pos h1, if_pos h1]
    exact ⟨h, fun e => by cases e⟩
  · rw [if_neg h1, if_neg h1, if_neg h1]
    by_cases h2 : u ≤ L.lasts
    · rw [if_pos h2, if_pos h2, if_pos h2]
      exact ⟨h, fun _ => h2⟩
    · rw [if_neg h2, if_neg h2, if_neg h2]
      have hB := h.beg0
      by_cases h3 : begE s L ≠ 0
      · rw [if_pos h3, if_pos h3, if_pos h3]
        exact ⟨hB, fun e => absurd e h3⟩
      · rw [if_neg h3, if_neg h3, if_neg h3]
        have h3' : begE s L = 0 := Decidable.of_not_not h3
        obtain ⟨b1, b2, b3, b4⟩ := begL_ok (s := s) h.ok
        have hbl : (begL s L).lasts = L.lasts := by rcases begL_cases s L with e | e <;> rw [e]
        have hbb : (begL s L).begun = true := by
          unfold begE putDE at h3'
          unfold begL
          split
          · assumption
          · rename_i e1
            rw [if_neg e1] at h3'
            split
            · rename_i e2
              rw [if_pos e2] at h3'
              cases h3'
            · rfl
        have hfin : L.fin = L.lasts - L.lasts % 232 + L.txt.length := rfl
        obtain ⟨k1, k2⟩ := FI.wrAll (L := begL s L) (chN L.txt.length) 0 (begS s L) hB (fun i hi => by rw [hbl, b2]; unfold chN at hi; omega) (fun i hi => by omega)
        by_cases h4 : (Go.Proofs.YtaemmknijmhnoaaGreat.wrAll (begL s L) (chN L.txt.length) 0 (begS s L)).2 ≠ 0
        · rw [if_pos h4]
          exact ⟨k1, fun e => absurd e h4⟩
        · rw [if_neg h4]
          obtain ⟨k3, k4⟩ := k2 (Decidable.of_not_not h4)
          refine ⟨k1.done hbb k3 fun i hi => k4 i (by rw [b3] at hi; omega), fun _ => ?_⟩
          show u ≤ (begL s L).fin
          rw [b2]
          omega
/-- A record is noted. -/
theorem FI.noted (h : FI T s L) (page : Nat) : ∃ T', FI T' s (L.noted page) := by
  unfold Lg.noted
  by_cases he : layE (nR page) L.free = 0
  · have hm : mayR (nR page) = true := by
      by_cases hm : mayR (nR page) = true
      · exact hm
      · unfold layE at he
        rw [if_neg hm] at he
        omega
    have hp := layL_parts L (nR page) L.free
    have hf := layL_fin L (nR page) L.free
    have hok := append_ok h.ok (nR page) (by have := h.room; omega)
    have hsz : (35 + (nR page).b.length + (nR page).a.length : Int) ≤ L.free := by
      unfold layE at he
      rw [if_pos hm] at he
      split at he <;> omega
    have hfree : L.free ≤ 3480 - L.fin := by
      unfold Lg.free freeR
      rw [h.l16, h.rs, h.tl]
      have := h.room
      omega
    rw [if_pos he] at hf
    have e : layL L (nR page) L.free = L.more (recL (nR page) L.fin) := by unfold layL; rw [if_pos he]
    rw [e] at hf hp hok ⊢
    have hn := h.near
    refine ⟨T ++ recL (nR page) L.fin, hok, hp.1.trans h.l16, hp.2.2.2.1.trans h.ep, hp.2.2.2.2.trans h.tl, h.rs, h.n64, ?_, ?_, ?_, ?_, ?_, h.beg, h.small.app (recL_small (nR_in page) _), fun k hk x hx => (h.sec k hk x hx).more _, h.pg⟩
    · have h1 := h.wh.rec hm (nR_in page)
      rw [h.len] at h1
      exact h1
    · show Wh ((T ++ recL (nR page) L.fin).take L.lasts)
      rw [List.take_append_of_le_length (by rw [h.len]; exact hn)]
      exact h.whl
    · rw [hf, List.length_append, h.len, recL_len]
    · show L.txt ++ _ = (T ++ _).drop (L.lasts - L.lasts % 232)
      rw [List.drop_append_of_le_length (by rw [h.len]; omega), h.txt]
    · rw [hf]
      omega
  · exact ⟨T, by rw [layL_same he]; exact h⟩
/-- Behind a loss of power all that lasts is read again. -/
theorem FI.again (h : FI T s L) (zs : List Int) : L.lasts ≤ opN (s.crash zs) 16 2 0 := by
  have hnr := h.near
  have hr := h.room
  have hnw : ∀ i, i < 64 → (s.crash zs).nw i = s.chosen zs i := fun i hi => by
    unfold St.crash fresh St.nw
    simp [List.getD, h.n64, hi]
  have hlen := (opB_len (s.crash zs) 16 2 0).1
  have hfd : opB (s.crash zs) 16 2 0 = foundL (fun i => secN ((s.crash zs).nw i)) 16 2 16 0 1 := rfl
  have ht : (opB (s.crash zs) 16 2 0).take L.lasts = T.take L.lasts := List.ext_getElem? fun i => by
    rw [List.getElem?_take, List.getElem?_take]
    split
    · rename_i hi
      have h1 := found_at (rd := fun i => secN ((s.crash zs).nw i)) (m := L.lasts) h.small (by omega) (fun k hk => ⟨s.chosen zs (3 + k), by show secN ((s.crash zs).nw (3 + k)) = _; rw [hnw _ (by omega)], h.sec k hk _ (chosen_mem s zs _)⟩) 16 0 rfl i (by omega)
      rw [hfd, h1]
      congr 1
      omega
    · rfl
  have hs : opB (s.crash zs) 16 2 0 = T.take L.lasts ++ (opB (s.crash zs) 16 2 0).drop L.lasts := by rw [← ht, List.take_append_drop]
  have hl : (T.take L.lasts).length = L.lasts := by rw [List.length_take, h.len]; omega
  have hw := h.whl.le ((opB (s.crash zs) 16 2 0).drop L.lasts) (by rw [hl, List.length_drop]; omega)
  rw [hl, ← hs] at hw
  exact hw
theorem FI.page_le (h : FI T s L) (zs : List Int) {i : Nat} (h19 : 19 ≤ i) (h64 : i < 64) : lsnS ((s.crash zs).nw i) ≤ opN (s.crash zs) 16 2 0 := by
  have hnw : (s.crash zs).nw i = s.chosen zs i := by
    unfold St.crash fresh St.nw
    simp [List.getD, h.n64, h64]
  rw [hnw]
  exact Nat.le_trans (h.pg i h19 h64 _ (chosen_mem s zs i)) (h.again zs)
theorem FI.begin (z : Int) : FI [] { zeroD with fuse := z } L0 := by
  refine ⟨newL_ok.1, rfl, rfl, rfl, rfl, by simp [zeroD, fresh], Wh.nil, Wh.nil, rfl, rfl, by decide, fun _ => rfl, (fun x hx => by cases hx), fun k hk => absurd hk (Nat.not_lt_zero _), fun i _ h64 x hx => ?_⟩
  have e : x = Sec.zero := by
    rcases List.mem_cons.1 hx with h | h
    · rw [h]
      show (List.replicate 64 Sec.zero).getD i Sec.zero = _
      rw [List.getD_eq_getElem?_getD, List.getElem?_replicate]
      split <;> rfl
    · cases h
  rw [e, lsnS_zero]
  exact Nat.zero_le _
end
end Go.Proofs.YtaemmknijmhnoaaGreat

/-
  With power: all is written; of a pool that is held nothing is.
-/
namespace Go.Proofs.YtaemmknijmhnoaaGreat
open Go.RowKit Go.Maps

end Go.Proofs.YtaemmknijmhnoaaGreat

/-
  A local array of 64 pages.
-/
namespace Go.Proofs.YtaemmknijmhnoaaGreat
open Go.RowKit Go.Maps

end Go.Proofs.YtaemmknijmhnoaaGreat

/-
  The document's pool: what a sector says of a page.
-/
namespace Go.Proofs.YtaemmknijmhnoaaGreat
open Go.RowKit Go.Maps

theorem dec_cons (x : Int) (r : List Int) : Wd.dec (x :: r) = x.toNat + 256 * Wd.dec r := rfl
theorem dec_lt : ∀ (l : List Int), Wd.Small l → Wd.dec l < 256 ^ l.length
  | [], _ => by decide
  | x :: r, h => by
    have h1 := h.head
    have h2 := dec_lt r h.tail
    rw [dec_cons, List.length_cons, Nat.pow_succ]
    omega
theorem dec_drop {l : List Int} {j : Nat} (h : j < l.length) : Wd.dec (l.drop j) = (l.getD j 0).toNat + 256 * Wd.dec (l.drop (j + 1)) := by
  have e : l.drop j = l.getD j 0 :: l.drop (j + 1) := by
    rw [List.drop_eq_getElem_cons h]
    simp [List.getD, h]
  rw [e, dec_cons]
set_option maxRecDepth 100000 in
set_option maxHeartbeats 1000000 in
theorem LSN_any {xs : List Int} (hx : IsSec xs) (w : World) : Calls Tryz.prog 29 #[.agg (sec (Sx xs))] w fun e w' => e = .returned (.int .u64 (Wd.dec (xs.take 8) : Int)) ∧ Gr w w' := by
  obtain ⟨W1, hW1⟩ : ∃ W1, W1 = w.alloc (.cells (sec (Sx xs)) TS) := ⟨_, rfl⟩
  have HW1 := Lib.hid hW1.symm
  have HB : Hid (Blk W1 w.heap.size TS (sec (Sx xs)) ∧ Gr w W1) := Lib.hid (by rw [hW1]; exact ⟨Blk.new _ _ _, Gr.new _ _⟩)
  have HC : Hid (∀ j : Nat, j < 8 → W1.cell? ⟨w.heap.size, j, none⟩ = some (.int .u8 (xs.getD j 0)) ∧ 0 ≤ xs.getD j 0 ∧ xs.getD j 0 < 256 ∧ Wd.dec ((xs.take 8).drop j) = (xs.getD j 0).toNat + 256 * Wd.dec ((xs.take 8).drop (j + 1)) ∧ Wd.dec ((xs.take 8).drop (j + 1)) < 72057594037927936) := Lib.hid fun j hj => by
    have hl := hx.len
    have hs := hx.small.getD j
    refine ⟨?_, hs.1, hs.2, ?_, ?_⟩
    · rw [HB.out.1.cell]
      unfold sec
      rw [Sx_cells hx, List.getElem?_toArray, List.getElem?_map]
      simp [List.getD, show j < xs.length by omega]
    · have h1 := dec_drop (l := xs.take 8) (j := j) (by rw [List.length_take]; omega)
      have h2 : (xs.take 8).getD j 0 = xs.getD j 0 := by simp [List.getD, hj]
      rw [h2] at h1
      exact h1
    · have h1 := dec_lt ((xs.take 8).drop (j + 1)) ((hx.small.take 8).drop (j + 1))
      have h2 : ((xs.take 8).drop (j + 1)).length ≤ 7 := by rw [List.length_drop, List.length_take]; omega
      exact Nat.lt_of_lt_of_le h1 (Nat.le_trans (Nat.pow_le_pow_right (by decide) h2) (by decide))
  have HE : Hid (Wd.dec ((xs.take 8).drop 8) = 0 ∧ Wd.dec ((xs.take 8).drop 0) = Wd.dec (xs.take 8)) := Lib.hid (by
    refine ⟨?_, by rw [List.drop_zero]⟩
    rw [List.drop_of_length_le (by rw [List.length_take]; omega)]
    rfl)
  clear hW1
  go_enter Tryz.func29, Tryz.ntmps29
  go_wp2_with fail
  rw [HW1.out]
  go_loop [3, 4] (fun nv iv => ∃ j : Nat, j ≤ 8 ∧ iv = .int .i64 ((j : Int) - 1) ∧ nv = .int .u64 ((Wd.dec ((xs.take 8).drop j) : Nat) : Int)) (fun _ iv => (intOf iv + 1).toNat)
  case atStart => exact ⟨8, Nat.le_refl _, rfl, by rw [HE.out.1]; rfl⟩
  case round =>
    obtain ⟨j, hj, rfl, rfl⟩ := hrel
    cases j with
    | zero =>
      rw [HE.out.2]
      go_wp2_with fail
      go_ret
      exact ⟨rfl, HB.out.2⟩
    | succ j =>
      obtain ⟨c0, x0, x1, hd, hlt⟩ := HC.out j (by omega)
      obtain ⟨X, hX⟩ : ∃ X, X = xs.getD j 0 := ⟨_, rfl⟩
      obtain ⟨D, hD⟩ : ∃ D, D = Wd.dec ((xs.take 8).drop (j + 1)) := ⟨_, rfl⟩
      rw [← hX] at c0 x0 x1 hd
      rw [← hD] at hd hlt ⊢
      rw [show (((j + 1 : Nat) : Int) - 1) = (j : Int) by omega]
      have hw : IntKind.i64.wrap ((j : Int) - 1) = (j : Int) - 1 := IntWalk.i64_in _ (by omega)
      have e1 : IntKind.u64.wrap X = X := IntWalk.u64_in _ (by omega)
      have e2 : IntKind.u64.wrap ((D : Int) * 256 + X) = (D : Int) * 256 + X := IntWalk.u64_in _ (by omega)
      go_wp2_with fail
      refine ⟨⟨j, by omega, rfl, ?_⟩, by simp [intOf]⟩
      have hX2 : xs[j]?.getD 0 = X := hX.symm
      rw [hX2, ← hD, e1, e2]
      congr 1
      have hd2 : Wd.dec ((xs.take 8).drop j) = X.toNat + 256 * D := hd
      rw [hd2]
      omega
end Go.Proofs.YtaemmknijmhnoaaGreat

/-
  One pool, and blocks of the law's own beside it.
-/
namespace Go.Proofs.YtaemmknijmhnoaaGreat
open Go.RowKit Go.Maps

/-- Pool, log and disk, apart from blocks of the law's own. -/
def KpQ (w0 w : World) (b m : Nat) (pd pl : Value) (P : Pl) (s : St) (L : Lg) (R : Nat) (Ks : List (Nat × TypeId × Array Value)) : Prop :=
  ∃ S n B, PoAt w b m n pd pl B S P s L 64 R ∧ (∀ z, uS S b m B z → w0.heap.size ≤ z) ∧ Gr w0 w ∧ ∀ x, x ∈ Ks → ¬ uS S b m B x.1 ∧ w0.heap.size ≤ x.1 ∧ Blk w x.1 x.2.1 x.2.2
section
variable {w0 w w' : World} {b m : Nat} {pd pl : Value} {P Q : Pl} {s t : St} {L M : Lg} {R R' : Nat} {Ks Ns : List (Nat × TypeId × Array Value)}
theorem KpQ.blk (h : KpQ w0 w b m pd pl P s L R Ks) : (∀ x, x ∈ Ks → Blk w x.1 x.2.1 x.2.2) ∧ Gr w0 w := by
  obtain ⟨S, n, B, _, _, h3, h4⟩ := h
  exact ⟨fun x hx => (h4 x hx).2.2, h3⟩
theorem KpQ.less (h : KpQ w0 w b m pd pl P s L R Ks) (hR : R' ≤ R) (hk : ∀ x, x ∈ Ns → x ∈ Ks) : KpQ w0 w b m pd pl P s L R' Ns := by
  obtain ⟨S, n, B, h1, h2, h3, h4⟩ := h
  exact ⟨S, n, B, h1.lower hR, h2, h3, fun x hx => h4 x (hk x hx)⟩
theorem KpQ.box (h : KpQ w0 w b m pd pl P s L R Ks) (cs : Array Value) (ty : TypeId) : KpQ w0 (w.alloc (.cells cs ty)) b m pd pl P s L R ((w.heap.size, ty, cs) :: Ks) := by
  obtain ⟨S, n, B, h1, h2, h3, h4⟩ := h
  have g := Gr.new w (.cells cs ty)
  refine ⟨S, n, B, h1.gr g, h2, Gr.trans h3 g, fun x hx => ?_⟩
  rcases List.mem_cons.1 hx with rfl | hx
  · exact ⟨fun e => by have := h1.low _ e; omega, h3.size, Blk.new _ _ _⟩
  · exact ⟨(h4 x hx).1, (h4 x hx).2.1, (h4 x hx).2.2.gr g⟩
/-- The pool goes on. -/
theorem KpQ.call {f : Nat} {args : Array Value} {v : Value} (h : KpQ w0 w b m pd pl P s L R Ks) (hc : ∀ S n B, PoAt w b m n pd pl B S P s L 64 R → (∀ q, uS S b m B q → w0.heap.size ≤ q) → Calls Tryz.prog f args w (RetPo v Q t M b m pd pl B S 64 R' w)) :
    Calls Tryz.prog f args w fun e w' => e = .returned v ∧ KpQ w0 w' b m pd pl Q t M R' Ks := by
  obtain ⟨S, n, B, h1, h2, h3, h4⟩ := h
  refine (hc S n B h1 h2).mono ?_
  rintro e w' ⟨rfl, S', n', B', k1, k2⟩
  refine ⟨rfl, S', n', B', k1, fun q hq => k2.from h3.size h2 q hq, Below.trans h3 (k2.below h3.size h2), fun x hx => ?_⟩
  obtain ⟨m1, m2, m3⟩ := h4 x hx
  refine ⟨fun e => ?_, m2, m3.stays (k2.block _ m3.lt m1)⟩
  rcases k2.fresh _ e with h | h
  · exact m1 h
  · have := m3.lt; omega
theorem KpQ.note (h : KpQ w0 w b m pd pl P s L R Ks) (hf : L.fin ≤ 8000000000000000000) (page : Nat) : Calls Tryz.prog 13 #[pl, .int .i64 (page : Int)] w fun e w' => e = .returned (.tuple #[.int .u64 (layA L (nR page) L.free : Int), .int .u64 ((L.noted page).fin : Int), .bool (layE (nR page) L.free == 0)]) ∧ KpQ w0 w' b m pd pl P s (L.noted page) R Ks :=
  h.call fun S n B hp _ => (note7_any hp hf page).mono fun e w' ⟨h1, S', h2, h3⟩ => ⟨h1, S', n, B, h2, h3⟩
end
end Go.Proofs.YtaemmknijmhnoaaGreat

/-
  The pool over a log whose bytes last: no page is written ahead of its records.
-/
namespace Go.Proofs.YtaemmknijmhnoaaGreat
open Go.RowKit Go.Maps

/-- The pool's pages are the disk's from 19 on. -/
structure PF (T : List Int) (P : Pl) (s : St) (L : Lg) : Prop where
  fi : FI T s L
  rng : ∀ i, P.fr i ≠ none → 19 ≤ i ∧ i < 64
  inn : ∀ i f, P.fr i = some f → f.In
section
variable {T : List Int} {P : Pl} {s : St} {L : Lg}
theorem wrGo_fi (P : Pl) : ∀ (xs : List Nat) (s : St) (L : Lg), FI T s L → (∀ i, i ∈ xs → ∃ f, P.fr i = some f ∧ f.In ∧ 19 ≤ i) → FI T (P.wrGo xs s L).2.1 (P.wrGo xs s L).2.2
  | [], _, _, h, _ => h
  | i :: xs, s, L, h, hx => by
    obtain ⟨f, hf, hin, h19⟩ := hx i (by simp)
    obtain ⟨h1, h2⟩ := h.fl f.lsn
    rw [P.wrGo_cons hf]
    by_cases he : flE s L f.lsn ≠ 0
    · rw [if_pos he]
      exact h1
    · rw [if_neg he]
      by_cases hr : (flS s L f.lsn).refuses
      · rw [if_pos hr]
        exact h1.dead
      · rw [if_neg hr]
        exact wrGo_fi P xs _ _ (h1.page h19 (by rw [lsnS_sec hin]; exact h2 (Decidable.of_not_not he))) fun j hj => hx j (List.mem_cons_of_mem _ hj)
theorem PF.wr (h : PF T P s L) (xs : List Nat) : FI T (P.wr xs s L).2.1 (P.wr xs s L).2.2 := by
  unfold Pl.wr
  split
  · exact h.fi
  · refine wrGo_fi P _ s L h.fi fun i hi => ?_
    have hc := (List.mem_filter.1 hi).2
    unfold Pl.clean at hc
    cases e : P.fr i with
    | none => rw [e] at hc; simp at hc
    | some f => exact ⟨f, rfl, h.inn i f e, (h.rng i (by rw [e]; exact Option.some_ne_none _)).1⟩
theorem PF.mr (h : PF T P s L) : PF T (P.mr s L).2.1 (P.mr s L).2.2.1 (P.mr s L).2.2.2 := by
  unfold Pl.mr
  split
  · exact h
  · obtain ⟨g, hg⟩ : ∃ g, g = goingL P.usd P.round P.many := ⟨_, rfl⟩
    obtain ⟨sp, hsp⟩ : ∃ sp, sp = sparedL P.usd P.round P.many := ⟨_, rfl⟩
    rw [← hg, ← hsp]
    have k := h.wr g
    split
    · exact ⟨k, h.rng, h.inn⟩
    · have hfr : ∀ i f, ((P.off sp).leave g).fr i = some f → ∃ f0, P.fr i = some f0 ∧ f.pay = f0.pay ∧ f.lsn = f0.lsn ∧ f.first = f0.first := fun i f hf => by
        rw [Pl.leave_fr, Pl.off_fr] at hf
        split at hf
        · cases hf
        · split at hf
          · cases e : P.fr i with
            | none => rw [e] at hf; cases hf
            | some f0 => rw [e] at hf; cases hf; exact ⟨f0, rfl, rfl, rfl, rfl⟩
          · exact ⟨f, hf, rfl, rfl, rfl⟩
      refine ⟨k, fun i hi => ?_, fun i f hf => ?_⟩
      · cases e : ((P.off sp).leave g).fr i with
        | none => exact absurd e hi
        | some f =>
          obtain ⟨f0, h0, _⟩ := hfr i f e
          exact h.rng i (by rw [h0]; exact Option.some_ne_none _)
      · obtain ⟨f0, h0, e1, e2, e3⟩ := hfr i f hf
        have hin := h.inn i f0 h0
        exact ⟨by rw [e1]; exact hin.pay, by rw [e2]; exact hin.l, by rw [e3]; exact hin.f⟩
theorem PF.use (h : PF T P s L) {i : Nat} (hi : 19 ≤ i) (hi2 : i < 64) {f : PFr} (hf : f.In) : PF T (P.use i f) s L := by
  refine ⟨h.fi, fun j hj => ?_, fun j g hj => ?_⟩
  · rw [Pl.use_fr] at hj
    by_cases e : j = i
    · omega
    · rw [if_neg e] at hj; exact h.rng j hj
  · rw [Pl.use_fr] at hj
    split at hj
    · cases hj; exact ⟨hf.pay, hf.l, hf.f⟩
    · exact h.inn j g hj
theorem PF.us (h : PF T P s L) {i : Nat} (hi : 19 ≤ i) (hi2 : i < 64) : PF T (P.us i s L).2.1 (P.us i s L).2.2.1 (P.us i s L).2.2.2 := by
  have hm := h.mr
  unfold Pl.us
  split
  · rename_i f hf
    exact h.use hi hi2 (h.inn i f hf)
  · split
    · exact hm
    · exact hm.use hi hi2 (frS_in (secN_sec _))
theorem PF.gt (h : PF T P s L) {i : Int} (hi : 19 ≤ i) : PF T (P.gt 64 i s L).2.1 (P.gt 64 i s L).2.2.1 (P.gt 64 i s L).2.2.2 := by
  unfold Pl.gt
  by_cases ha : askE 64 i ≠ 0
  · rw [if_pos ha]; exact h
  · rw [if_neg ha]
    obtain ⟨h0, h1⟩ := askE_no (Decidable.of_not_not ha)
    have k := h.us (i := i.toNat) (by omega) (by omega)
    split <;> exact k
theorem PF.pt (h : PF T P s L) {i o : Int} {ys : List Int} {first lsn : Nat} (hi : 19 ≤ i) (hy : Wd.Small ys) (hl2 : lsn ≤ 18446744073709551615) (hf2 : first ≤ 18446744073709551615) : PF T (P.pt 64 i o ys first lsn s L).2.1 (P.pt 64 i o ys first lsn s L).2.2.1 (P.pt 64 i o ys first lsn s L).2.2.2 := by
  unfold Pl.pt
  by_cases ha : askE 64 i ≠ 0
  · rw [if_pos ha]; exact h
  · rw [if_neg ha]
    obtain ⟨h0, h1⟩ := askE_no (Decidable.of_not_not ha)
    have k := h.us (i := i.toNat) (by omega) (by omega)
    by_cases hb : o < 0 ∨ 248 - (ys.length : Int) < o ∨ lsn = 0
    · rw [if_pos hb]; exact h
    · rw [if_neg hb]
      split
      · exact k
      · cases hf : (P.us i.toNat s L).2.1.fr i.toNat with
        | none => exact k
        | some f =>
          have hin := k.inn _ f hf
          refine ⟨k.fi, fun j hj => ?_, fun j g hj => ?_⟩
          · by_cases e : j = i.toNat
            · omega
            · have h2 : (if j = i.toNat then some ({ f with pay := Play f.pay o.toNat ys, lsn := lsn, first := if f.dirty then f.first else first, dirty := true } : PFr) else (P.us i.toNat s L).2.1.fr j) ≠ none := hj
              rw [if_neg e] at h2
              exact k.rng j h2
          · have h2 : (if j = i.toNat then some ({ f with pay := Play f.pay o.toNat ys, lsn := lsn, first := if f.dirty then f.first else first, dirty := true } : PFr) else (P.us i.toNat s L).2.1.fr j) = some g := hj
            split at h2
            · cases h2
              refine ⟨Play_sec hin.pay hy (by omega), hl2, ?_⟩
              show (if f.dirty then f.first else first) ≤ _
              split
              · exact hin.f
              · exact hf2
            · exact k.inn j g h2
theorem PF.noted (h : PF T P s L) (page : Nat) : ∃ T', PF T' P s (L.noted page) := by
  obtain ⟨T', k⟩ := h.fi.noted page
  exact ⟨T', k, h.rng, h.inn⟩
theorem PF.begin (n : Int) (x : Bool) (z : Int) : PF [] (P0 n x) { zeroD with fuse := z } L0 := ⟨FI.begin z, fun i hi => absurd rfl hi, fun i f hf => by cases hf⟩
end
/-- One pool over such a log, apart from blocks of the law's own. -/
def FpI (w0 w : World) (d l b m : Nat) (R : Nat) (Ks : List (Nat × TypeId × Array Value)) : Prop :=
  ∃ T P s L, PF T P s L ∧ KpQ w0 w b m (.pointer (some ⟨d, 0, none⟩)) (.pointer (some ⟨l, 0, none⟩)) P s L R Ks
section
variable {w0 w w' : World} {d l b m : Nat} {R : Nat} {Ks Ns : List (Nat × TypeId × Array Value)}
theorem FpI.blk (h : FpI w0 w d l b m R Ks) : (∀ x, x ∈ Ks → Blk w x.1 x.2.1 x.2.2) ∧ Gr w0 w := by
  obtain ⟨T, P, s, L, _, h⟩ := h
  exact h.blk
theorem FpI.box (h : FpI w0 w d l b m R Ks) (cs : Array Value) (ty : TypeId) : FpI w0 (w.alloc (.cells cs ty)) d l b m R ((w.heap.size, ty, cs) :: Ks) := by
  obtain ⟨T, P, s, L, h1, h5⟩ := h
  exact ⟨T, P, s, L, h1, h5.box cs ty⟩
theorem FpI.less (h : FpI w0 w d l b m R Ks) {R' : Nat} (hR : R' ≤ R) (hk : ∀ x, x ∈ Ns → x ∈ Ks) : FpI w0 w d l b m R' Ns := by
  obtain ⟨T, P, s, L, h1, h5⟩ := h
  exact ⟨T, P, s, L, h1, h5.less hR hk⟩
theorem FpI.note (h : FpI w0 w d l b m R Ks) : Calls Tryz.prog 13 #[.pointer (some ⟨l, 0, none⟩), .int .i64 25] w fun e w' => ∃ (a f : Nat) (x : Bool), e = .returned (.tuple #[.int .u64 (a : Int), .int .u64 (f : Int), .bool x]) ∧ a ≤ 100000 ∧ f ≤ 100000 ∧ FpI w0 w' d l b m R Ks := by
  obtain ⟨T, P, s, L, h1, h5⟩ := h
  have hs := h1.fi.room
  obtain ⟨T', h2⟩ := h1.noted 25
  have hs2 := h2.fi.room
  refine (h5.note (by omega) 25).mono ?_
  rintro e w' ⟨rfl, k⟩
  refine ⟨_, _, _, rfl, ?_, by omega, T', P, s, L.noted 25, h2, k⟩
  unfold layA
  split <;> omega
theorem FpI.put {a f : Nat} {i o : Int} {pb : Option Addr} {nb cb : Nat} {ys : List Int} (h : FpI w0 w d l b m R Ks) (hR : 200 ≤ R) (h19 : 19 ≤ i) (hf : f ≤ 100000) (ha : a ≤ 100000) (hy0 : Byt w0 pb nb cb ys) (hy : Byt w pb nb cb ys) :
    Calls Tryz.prog 14 #[.pointer (some ⟨b, 0, none⟩), .int .i64 i, .int .i64 o, .slice pb nb cb, .int .u64 (a : Int), .int .u64 (f : Int)] w fun e w' => ∃ er, e = .returned (.int .i64 er) ∧ FpI w0 w' d l b m (R - 200) Ks := by
  obtain ⟨T, P, s, L, h1, h5⟩ := h
  have k := h1.pt (o := o) (ys := ys) (first := a) (lsn := f) h19 hy.small (by omega) (by omega)
  refine (h5.call (R' := R - 200) fun S n B hq hlo => Put_any hq (by omega) i o hy (fun h0 y hye e => by have h5 := hlo _ e; have h6 := hy0.up h0 y hye; omega) (by omega) (by omega)).mono ?_
  rintro e w' ⟨rfl, k2⟩
  exact ⟨_, rfl, _, _, _, _, k, k2⟩
theorem FpI.get {i : Int} (h : FpI w0 w d l b m R Ks) (hR : 200 ≤ R) (h19 : 19 ≤ i) :
    Calls Tryz.prog 11 #[.pointer (some ⟨b, 0, none⟩), .int .i64 i] w fun e w' => ∃ x y z, e = .returned (.tuple #[.agg (Psec x), .int .u64 (y : Int), .int .i64 z]) ∧ FpI w0 w' d l b m (R - 200) Ks := by
  obtain ⟨T, P, s, L, h1, h5⟩ := h
  refine (h5.call (R' := R - 200) fun S n B hq hlo => Get_any hq (by omega) i).mono ?_
  rintro e w' ⟨rfl, k2⟩
  exact ⟨_, _, _, rfl, _, _, _, _, h1.gt h19, k2⟩
/-- As it begins, the fuse being set. -/
theorem FpI.begin {n : Int} {x : Bool} {e : Ending} (h : RetBeg7 n x w0 e w) (z : Int) (hz0 : -9223372036854775808 ≤ z) (hz1 : z ≤ 9223372036854775807) : ∃ d l b m, e = .returned (.tuple #[.pointer (some ⟨d, 0, none⟩), .pointer (some ⟨l, 0, none⟩), .pointer (some ⟨b, 0, none⟩), .bool true]) ∧ Gr w0 w ∧
    Calls Tryz.prog 33 #[.pointer (some ⟨d, 0, none⟩), .int .i64 z] w fun e w' => e = .returned (.tuple #[]) ∧ FpI w0 w' d l b m 1000000 [] := by
  obtain ⟨d, l, b, m, S, rfl, h1, h2, h3⟩ := h
  refine ⟨d, l, b, m, rfl, h3, ?_⟩
  refine (h1.cd.Fuse z hz0 hz1).mono ?_
  rintro e w' ⟨S', rfl, hc, hu⟩
  obtain ⟨k1, k2⟩ := h1.next hc hu (j := 1000000) ⟨h1.bud.ok, h1.bud.len, h1.bud.fit, h1.bud.wr, h1.bud.less⟩ (Nat.le_refl _)
  exact ⟨rfl, [], P0 n x, _, _, PF.begin n x z, S', _, _, k1, fun q hq => k2.from h3.size h2 q hq, Below.trans h3 (k2.below h3.size h2), fun x hx => by cases hx⟩
/-- What the disk is behind a loss of power. -/
theorem FpI.crash (h : FpI w0 w d l b m R Ks) {q : Option Addr} {n c : Nat} {zs : List Int} (hz : Nums w q n c zs) :
    Calls Tryz.prog 34 #[.pointer (some ⟨d, 0, none⟩), .slice q n c] w fun e w' => ∃ p F s', e = .returned p ∧ Dk w' F p s' ∧ s'.ls.length = 64 ∧ Gr w w' ∧ ∀ i, 19 ≤ i → i < 64 → lsnS (s'.nw i) ≤ opN s' 16 2 0 := by
  obtain ⟨T, P, s, L, h1, S, k, B, h2, _⟩ := h
  obtain ⟨F, hd, hF, -⟩ := h2.cd.disk (w' := w)
  refine (Crash_any w hd (by have := h2.bud.wr; omega) q n c zs hz).mono ?_
  rintro e w' ⟨p, F', rfl, k1, k2, _⟩
  exact ⟨p, F', _, rfl, k1, by simp [St.crash, fresh, h1.fi.n64], k2, fun i h19 h64 => h1.fi.page_le zs h19 h64⟩
end
end Go.Proofs.YtaemmknijmhnoaaGreat

