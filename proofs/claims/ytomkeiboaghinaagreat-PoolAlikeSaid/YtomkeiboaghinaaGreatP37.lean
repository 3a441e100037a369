/-
  Texts on locks, put together: PoolAl1 PoolAl2 PoolAl3 PoolOpen.
-/
import Derived.Test.YtomkeiboaghinaaGreatP8
import Derived.Test.YtomkeiboaghinaaGreatP33
import Derived.Test.YtomkeiboaghinaaGreatP36
set_option linter.unusedVariables false
set_option linter.unusedSimpArgs false
/-
  With power nothing is refused; what a page has, in memory or on the disk.
-/
namespace Go.Proofs.YtomkeiboaghinaaGreat
open Go.RowKit Go.Maps

theorem nw_wrote2 (s : St) (J j : Nat) (x : Sec) : (s.wrote J x).nw j = if j = J then x else s.nw j := by
  unfold St.nw St.wrote
  by_cases h : j = J
  · subst h; simp
  · simp [h]
theorem nw_ba {s : St} {i : Nat} (hi : i < s.ls.length) : (BaS s).nw i = s.nw i := by
  unfold BaS
  split
  · rfl
  · unfold St.barrier St.nw
    simp [List.getD, hi]
theorem ba_len (s : St) : (BaS s).ls.length = s.ls.length := by
  unfold BaS
  split
  · rfl
  · unfold St.barrier; simp
theorem nw_wrAll {L : Lg} (hl : L.l = 16) {i : Nat} (h19 : 19 ≤ i) : ∀ (n j : Nat) (s : St), i < s.ls.length → (wrAll L n j s).1.nw i = s.nw i
  | 0, _, s, hi => nw_ba hi
  | n + 1, j, s, hi => by
    unfold wrAll
    split
    · rfl
    · refine (nw_wrAll hl h19 n (j + 1) (s.wrote (wrI L j) (wrX L j)) hi).trans ?_
      rw [nw_wrote2, if_neg]
      have h1 : wrI L j < 19 := by
        unfold wrI
        rw [hl]
        have : (L.lasts / 232 + j) % (16 : Int).toNat < 16 := Nat.mod_lt _ (by decide)
        omega
      omega
theorem begI_lt {L : Lg} (hl : L.l = 16) : begI L < 19 := by
  unfold begI
  rw [hl]
  have : L.lasts / 232 % (16 : Int).toNat < 16 := Nat.mod_lt _ (by decide)
  omega
theorem putD_nw (s : St) {i j : Nat} (x : Sec) (h : i ≠ j) : (putD s i x).nw j = s.nw j ∧ (putD s i x).ls.length = s.ls.length := by
  unfold putD
  split
  · exact ⟨rfl, rfl⟩
  · exact ⟨by rw [nw_wrote2, if_neg (Ne.symm h)], rfl⟩
theorem nw_beg {s : St} {L : Lg} (hl : L.l = 16) {i : Nat} (h19 : 19 ≤ i) (hi : i < s.ls.length) : (begS s L).nw i = s.nw i ∧ (begS s L).ls.length = s.ls.length := by
  have hb := begI_lt hl
  obtain ⟨h1, h2⟩ := putD_nw s (i := begI L) (j := i) (begX L) (by omega)
  unfold begS
  split
  · exact ⟨rfl, rfl⟩
  · split
    · exact ⟨h1, h2⟩
    · exact ⟨(nw_ba (by rw [h2]; exact hi)).trans h1, (ba_len _).trans h2⟩
theorem begL_l (s : St) (L : Lg) : (begL s L).l = L.l := by
  rcases begL_cases s L with h | h <;> rw [h]
/-- The log's writes leave the pages' sectors. -/
theorem nw_fl {s : St} {L : Lg} (hl : L.l = 16) (u : Nat) {i : Nat} (h19 : 19 ≤ i) (hi : i < s.ls.length) : (flS s L u).nw i = s.nw i := by
  obtain ⟨h1, h2⟩ := nw_beg (s := s) hl h19 hi
  unfold flS
  split
  · rfl
  · split
    · rfl
    · split
      · exact h1
      · exact (nw_wrAll (by rw [begL_l]; exact hl) h19 _ _ _ (by rw [h2]; exact hi)).trans h1
theorem wrAll_len {L : Lg} : ∀ (n j : Nat) (s : St), (wrAll L n j s).1.ls.length = s.ls.length
  | 0, _, s => ba_len s
  | n + 1, j, s => by
    unfold wrAll
    split
    · rfl
    · exact wrAll_len n (j + 1) (s.wrote (wrI L j) (wrX L j))
theorem nw_fl_len {s : St} {L : Lg} (u : Nat) : (flS s L u).ls.length = s.ls.length := by
  have hb : (begS s L).ls.length = s.ls.length := by
    have hp : ∀ x, (putD s (begI L) x).ls.length = s.ls.length := fun x => by unfold putD; split <;> rfl
    unfold begS
    split
    · rfl
    · split
      · exact hp _
      · exact (ba_len _).trans (hp _)
  unfold flS
  split
  · rfl
  · split
    · rfl
    · split
      · exact hb
      · exact (wrAll_len _ _ _).trans hb
theorem fl_alive2 {s : St} {L : Lg} (h : s.Alive) (ok : L.Ok) {u : Nat} (hu : u ≤ L.fin) : (flS s L u).Alive ∧ flE s L u = 0 := by
  obtain ⟨h1, h2, _⟩ := fl_alive h ok
  have hn : ¬ L.fin < u := by omega
  by_cases hl : u ≤ L.lasts
  · unfold flS flE
    rw [if_neg hn, if_neg hn, if_pos hl, if_pos hl]
    exact ⟨h, rfl⟩
  · have hl2 : ¬ L.fin ≤ L.lasts := by omega
    have e1 : flS s L u = flS s L L.fin := by
      unfold flS
      rw [if_neg hn, if_neg hl, if_neg (Nat.lt_irrefl _), if_neg hl2]
    have e2 : flE s L u = flE s L L.fin := by
      unfold flE
      rw [if_neg hn, if_neg hl, if_neg (Nat.lt_irrefl _), if_neg hl2]
    rw [e1, e2]
    exact ⟨h1, h2⟩
/-- What a page has: in memory, or on the disk. -/
def dC (s : St) (i : Nat) : List Int × Nat := ((frS (secN (s.nw i))).pay, (frS (secN (s.nw i))).lsn)
def Pl.ct (P : Pl) (s : St) (i : Nat) : List Int × Nat := match P.fr i with
  | some f => (f.pay, f.lsn)
  | none => dC s i
theorem frS_sec {f : PFr} (h : f.In) : (frS (secN (Sx f.sec))).pay = f.pay ∧ (frS (secN (Sx f.sec))).lsn = f.lsn := by
  rw [secN_Sx h.sec]
  unfold frS PFr.sec
  have he : (Wd.enc 8 f.lsn).length = 8 := Wd.enc_length _ _
  refine ⟨?_, ?_⟩
  · show (Wd.enc 8 f.lsn ++ f.pay).drop 8 = f.pay
    rw [List.drop_left' he]
  · show Wd.dec ((Wd.enc 8 f.lsn ++ f.pay).take 8) = f.lsn
    rw [List.take_left' he, Wd.dec_enc]
    exact Nat.mod_eq_of_lt (Nat.lt_of_le_of_lt h.l (by decide))
theorem dC_wrote (s : St) (i j : Nat) {f : PFr} (h : f.In) : dC (s.wrote i (Sx f.sec)) j = if j = i then (f.pay, f.lsn) else dC s j := by
  unfold dC
  rw [nw_wrote2]
  by_cases e : j = i
  · rw [if_pos e, if_pos e, (frS_sec h).1, (frS_sec h).2]
  · rw [if_neg e, if_neg e]
theorem Lg.Like.refl (L : Lg) : L.Like L := ⟨rfl, rfl, rfl, rfl, rfl, rfl, rfl⟩
theorem Lg.Like.trans {L1 L2 L3 : Lg} (h : L1.Like L2) (k : L2.Like L3) : L1.Like L3 := ⟨k.n.trans h.n, k.l.trans h.l, k.g.trans h.g, k.epoch.trans h.epoch, k.tail.trans h.tail, k.rsv.trans h.rsv, k.fin.trans h.fin⟩
/-- There is power, the log is right, the disk has 64 sectors. -/
structure AD (s : St) (L : Lg) : Prop where
  alive : s.Alive
  ok : L.Ok
  l16 : L.l = 16
  len : s.ls.length = 64
  tl : L.tail = 0
theorem AD.fl {s : St} {L : Lg} (h : AD s L) {u : Nat} (hu : u ≤ L.fin) : flE s L u = 0 ∧ AD (flS s L u) (flL s L u) ∧ L.Like (flL s L u) ∧ ∀ j, 19 ≤ j → j < 64 → dC (flS s L u) j = dC s j := by
  obtain ⟨h1, h2⟩ := fl_alive2 h.alive h.ok hu
  obtain ⟨h3, h4⟩ := flL_facts (s := s) h.ok u
  refine ⟨h2, ⟨h1, h3, h4.l.trans h.l16, ?_, h4.tail.trans h.tl⟩, h4, fun j h19 h64 => ?_⟩
  · have hl := (nw_fl_len (s := s) (L := L) u).trans h.len
    exact hl
  · unfold dC
    rw [nw_fl h.l16 u h19 (by rw [h.len]; exact h64)]
theorem AD.put {s : St} {L : Lg} (h : AD s L) (i : Nat) (x : Sec) : AD (s.wrote i x) L := ⟨h.alive.wrote i x, h.ok, h.l16, h.len, h.tl⟩
/-- Dirty pages are written, one after another. -/
theorem wrGo_al (P : Pl) : ∀ (xs : List Nat) (s : St) (L : Lg), AD s L → (∀ i, i ∈ xs → ∃ f, P.fr i = some f ∧ f.In ∧ f.lsn ≤ L.fin) →
    (P.wrGo xs s L).1 = 0 ∧ AD (P.wrGo xs s L).2.1 (P.wrGo xs s L).2.2 ∧ L.Like (P.wrGo xs s L).2.2 ∧ ∀ j, 19 ≤ j → j < 64 → dC (P.wrGo xs s L).2.1 j = if j ∈ xs then P.ct s j else dC s j
  | [], s, L, h, _ => ⟨rfl, h, Lg.Like.refl L, fun j _ _ => by simp [Pl.wrGo]⟩
  | i :: xs, s, L, h, hx => by
    obtain ⟨f, hf, hin, hl⟩ := hx i (by simp)
    obtain ⟨h1, h2, h3, h4⟩ := h.fl hl
    obtain ⟨k1, k2, k3, k4⟩ := wrGo_al P xs ((flS s L f.lsn).wrote i (Sx f.sec)) (flL s L f.lsn) (h2.put _ _) fun j hj => by
      obtain ⟨g, n1, n2, n3⟩ := hx j (List.mem_cons_of_mem _ hj)
      exact ⟨g, n1, n2, by rw [h3.fin]; exact n3⟩
    rw [P.wrGo_cons hf, if_neg (by rw [h1]; simp), if_neg h2.alive.no]
    refine ⟨k1, k2, h3.trans k3, fun j h19 h64 => ?_⟩
    rw [k4 j h19 h64, dC_wrote _ _ _ hin, h4 j h19 h64]
    by_cases hj : j ∈ xs
    · rw [if_pos hj, if_pos (List.mem_cons_of_mem _ hj)]
      obtain ⟨g, n1, _⟩ := hx j (List.mem_cons_of_mem _ hj)
      unfold Pl.ct
      rw [n1]
    · rw [if_neg hj]
      by_cases e : j = i
      · subst e
        rw [if_pos rfl, if_pos (by simp)]
        unfold Pl.ct
        rw [hf]
      · rw [if_neg e, if_neg (by simp [e, hj])]
end Go.Proofs.YtomkeiboaghinaaGreat

/-
  With power: what each page has, whatever goes and comes.
-/
namespace Go.Proofs.YtomkeiboaghinaaGreat
open Go.RowKit Go.Maps

/-- Nothing that is asked of this pool is refused. -/
structure AL (P : Pl) (s : St) (L : Lg) : Prop where
  ad : AD s L
  rng : ∀ i, P.fr i ≠ none → 19 ≤ i ∧ i < 64
  inn : ∀ i f, P.fr i = some f → f.In
  lsn : ∀ i f, P.fr i = some f → f.dirty = true → f.lsn ≤ L.fin
  cln : ∀ i f, P.fr i = some f → f.dirty = false → (f.pay, f.lsn) = dC s i
section
variable {P : Pl} {s : St} {L : Lg}
theorem ct_some {i : Nat} {f : PFr} (h : P.fr i = some f) : P.ct s i = (f.pay, f.lsn) := by unfold Pl.ct; rw [h]
theorem ct_none {i : Nat} (h : P.fr i = none) : P.ct s i = dC s i := by unfold Pl.ct; rw [h]
theorem AL.wr (h : AL P s L) (xs : List Nat) : (P.wr xs s L).1 = 0 ∧ AD (P.wr xs s L).2.1 (P.wr xs s L).2.2 ∧ L.Like (P.wr xs s L).2.2 ∧ ∀ j, 19 ≤ j → j < 64 → dC (P.wr xs s L).2.1 j = if j ∈ xs ∧ P.fr j ≠ none then P.ct s j else dC s j := by
  have hx : ∀ i, i ∈ xs.filter (fun i => !P.clean i) → ∃ f, P.fr i = some f ∧ f.dirty = true := fun i hi => by
    have hc := (List.mem_filter.1 hi).2
    unfold Pl.clean at hc
    cases e : P.fr i with
    | none => rw [e] at hc; simp at hc
    | some f => rw [e] at hc; exact ⟨f, rfl, by simpa using hc⟩
  have hu : (xs.filter fun i => !P.clean i).any (P.unk L.fin) = false := by
    rw [List.any_eq_false]
    intro i hi hc
    obtain ⟨f, hf, hd⟩ := hx i hi
    have := h.lsn i f hf hd
    unfold Pl.unk at hc
    rw [hf] at hc
    simp at hc
    omega
  obtain ⟨k1, k2, k3, k4⟩ := wrGo_al P (xs.filter fun i => !P.clean i) s L h.ad fun i hi => by
    obtain ⟨f, hf, hd⟩ := hx i hi
    exact ⟨f, hf, h.inn i f hf, h.lsn i f hf hd⟩
  unfold Pl.wr
  rw [hu]
  refine ⟨k1, k2, k3, fun j h19 h64 => (k4 j h19 h64).trans ?_⟩
  by_cases hj : j ∈ xs.filter fun i => !P.clean i
  · obtain ⟨f, hf, _⟩ := hx j hj
    rw [if_pos hj, if_pos ⟨(List.mem_filter.1 hj).1, by rw [hf]; exact Option.some_ne_none _⟩]
  · rw [if_neg hj]
    by_cases hj2 : j ∈ xs ∧ P.fr j ≠ none
    · rw [if_pos hj2]
      cases e : P.fr j with
      | none => exact absurd e hj2.2
      | some f =>
        have hd : f.dirty = false := by
          cases hd : f.dirty with
          | false => rfl
          | true => exact absurd (List.mem_filter.2 ⟨hj2.1, by unfold Pl.clean; rw [e]; simp [hd]⟩) hj
        rw [ct_some e, h.cln j f e hd]
    · rw [if_neg hj2]
theorem AL.mr (h : AL P s L) : (P.mr s L).1 = 0 ∧ AL (P.mr s L).2.1 (P.mr s L).2.2.1 (P.mr s L).2.2.2 ∧ L.Like (P.mr s L).2.2.2 ∧ ∀ j, 19 ≤ j → j < 64 → (P.mr s L).2.1.ct (P.mr s L).2.2.1 j = P.ct s j := by
  unfold Pl.mr
  split
  · exact ⟨rfl, h, Lg.Like.refl L, fun _ _ _ => rfl⟩
  · obtain ⟨g, hg⟩ : ∃ g, g = goingL P.usd P.round P.many := ⟨_, rfl⟩
    obtain ⟨sp, hsp⟩ : ∃ sp, sp = sparedL P.usd P.round P.many := ⟨_, rfl⟩
    have hgm : ∀ i, i ∈ g → P.fr i ≠ none := fun i hi => (P.round_mem (goingL_mem (hg ▸ hi))).2
    rw [← hg, ← hsp]
    obtain ⟨k1, k2, k3, k4⟩ := h.wr g
    rw [if_neg (by rw [k1]; simp)]
    have hfr : ∀ i f, ((P.off sp).leave g).fr i = some f → i ∉ g ∧ ∃ f0, P.fr i = some f0 ∧ f.pay = f0.pay ∧ f.lsn = f0.lsn ∧ f.dirty = f0.dirty ∧ f.first = f0.first := fun i f hf => by
      rw [Pl.leave_fr, Pl.off_fr] at hf
      split at hf
      · cases hf
      · rename_i hn
        refine ⟨hn, ?_⟩
        split at hf
        · cases e : P.fr i with
          | none => rw [e] at hf; cases hf
          | some f0 => rw [e] at hf; cases hf; exact ⟨f0, rfl, rfl, rfl, rfl, rfl⟩
        · exact ⟨f, hf, rfl, rfl, rfl, rfl⟩
    refine ⟨rfl, ⟨k2, fun i hi => ?_, fun i f hf => ?_, fun i f hf hd => ?_, fun i f hf hd => ?_⟩, k3, fun j h19 h64 => ?_⟩
    · cases e : ((P.off sp).leave g).fr i with
      | none => exact absurd e hi
      | some f =>
        obtain ⟨_, f0, h0, _⟩ := hfr i f e
        exact h.rng i (by rw [h0]; exact Option.some_ne_none _)
    · obtain ⟨_, f0, h0, e1, e2, e3, e4⟩ := hfr i f hf
      have hin := h.inn i f0 h0
      exact ⟨by rw [e1]; exact hin.pay, by rw [e2]; exact hin.l, by rw [e4]; exact hin.f⟩
    · obtain ⟨_, f0, h0, e1, e2, e3, e4⟩ := hfr i f hf
      have h1 := h.lsn i f0 h0 (by rw [← e3]; exact hd)
      show f.lsn ≤ (P.wr g s L).2.2.fin
      rw [k3.fin, e2]
      exact h1
    · obtain ⟨hn, f0, h0, e1, e2, e3, e4⟩ := hfr i f hf
      obtain ⟨h19, h64⟩ := h.rng i (by rw [h0]; exact Option.some_ne_none _)
      have h1 := k4 i h19 h64
      rw [if_neg (fun e => hn e.1)] at h1
      rw [e1, e2]
      exact (h.cln i f0 h0 (by rw [← e3]; exact hd)).trans h1.symm
    · have h1 := k4 j h19 h64
      cases e : ((P.off sp).leave g).fr j with
      | some f =>
        obtain ⟨_, f0, h0, e1, e2, _⟩ := hfr j f e
        rw [ct_some e, ct_some h0, e1, e2]
      | none =>
        refine (ct_none e).trans (h1.trans ?_)
        by_cases hj : j ∈ g ∧ P.fr j ≠ none
        · rw [if_pos hj]
        · rw [if_neg hj]
          have hno : P.fr j = none := by
            cases e2 : P.fr j with
            | none => rfl
            | some f0 =>
              have hjg : j ∉ g := fun h5 => hj ⟨h5, by rw [e2]; exact Option.some_ne_none _⟩
              rw [Pl.leave_fr, if_neg hjg] at e
              rw [(P.off_none sp j).1 e] at e2
              cases e2
          rw [ct_none hno]
theorem AL.us (h : AL P s L) {i : Nat} (hi : 19 ≤ i) (hi2 : i < 64) : (P.us i s L).1 = 0 ∧ AL (P.us i s L).2.1 (P.us i s L).2.2.1 (P.us i s L).2.2.2 ∧ L.Like (P.us i s L).2.2.2 ∧ (∀ j, 19 ≤ j → j < 64 → (P.us i s L).2.1.ct (P.us i s L).2.2.1 j = P.ct s j) ∧ ∃ f, (P.us i s L).2.1.fr i = some f := by
  have key : ∀ (Q : Pl) (s : St) (L : Lg) (f : PFr), AL Q s L → f.In → (f.dirty = true → f.lsn ≤ L.fin) → (f.dirty = false → (f.pay, f.lsn) = dC s i) → (f.pay, f.lsn) = Q.ct s i → AL (Q.use i f) s L ∧ ∀ j, (Q.use i f).ct s j = Q.ct s j := fun Q s L f hq hin hl hc hct => by
    refine ⟨⟨hq.ad, fun j hj => ?_, fun j g hj => ?_, fun j g hj hd => ?_, fun j g hj hd => ?_⟩, fun j => ?_⟩
    · rw [Pl.use_fr] at hj
      by_cases e : j = i
      · omega
      · rw [if_neg e] at hj; exact hq.rng j hj
    · rw [Pl.use_fr] at hj
      split at hj
      · cases hj; exact ⟨hin.pay, hin.l, hin.f⟩
      · exact hq.inn j g hj
    · rw [Pl.use_fr] at hj
      split at hj
      · cases hj; exact hl hd
      · exact hq.lsn j g hj hd
    · rw [Pl.use_fr] at hj
      split at hj
      · rename_i e
        cases hj; rw [e]; exact hc hd
      · exact hq.cln j g hj hd
    · by_cases e : j = i
      · have h1 : (Q.use i f).fr j = some { f with used := true } := by rw [Pl.use_fr, if_pos e]
        rw [ct_some h1, e]
        exact hct
      · have h1 : (Q.use i f).fr j = Q.fr j := by rw [Pl.use_fr, if_neg e]
        unfold Pl.ct
        rw [h1]
  cases hf : P.fr i with
  | some f =>
    have hus : P.us i s L = (0, P.use i f, s, L) := by unfold Pl.us; rw [hf]
    rw [hus]
    obtain ⟨k1, k2⟩ := key P s L f h (h.inn i f hf) (h.lsn i f hf) (h.cln i f hf) (ct_some hf).symm
    exact ⟨rfl, k1, Lg.Like.refl L, fun j _ _ => k2 j, _, by show (P.use i f).fr i = _; rw [Pl.use_fr, if_pos rfl]⟩
  | none =>
    obtain ⟨k1, k2, k3, k4⟩ := h.mr
    have hno := P.mr_fr s L hf
    have hus : P.us i s L = (0, (P.mr s L).2.1.use i (frS (secN ((P.mr s L).2.2.1.nw i))), (P.mr s L).2.2) := by unfold Pl.us; rw [hf]; exact if_neg (by rw [k1]; simp)
    rw [hus]
    obtain ⟨m1, m2⟩ := key _ _ _ (frS (secN ((P.mr s L).2.2.1.nw i))) k2 (frS_in (secN_sec _)) (fun e => by cases e) (fun _ => rfl) (ct_none hno).symm
    exact ⟨rfl, m1, k3, fun j h19 h64 => (m2 j).trans (k4 j h19 h64), _, by show ((P.mr s L).2.1.use i _).fr i = _; rw [Pl.use_fr, if_pos rfl]⟩
/-- What asking for a page answers, by what the pages have. -/
def gA (c : Nat → List Int × Nat) (i : Int) : PSec × Nat × Int := if askE 64 i ≠ 0 then (PSec.zero, 0, askE 64 i) else (PSx (c i.toNat).1, (c i.toNat).2, 0)
theorem AL.gt (h : AL P s L) {i : Int} (hi : ¬ (0 ≤ i ∧ i < 19)) : (P.gt 64 i s L).1 = gA (P.ct s) i ∧ AL (P.gt 64 i s L).2.1 (P.gt 64 i s L).2.2.1 (P.gt 64 i s L).2.2.2 ∧ L.Like (P.gt 64 i s L).2.2.2 ∧ ∀ j, 19 ≤ j → j < 64 → (P.gt 64 i s L).2.1.ct (P.gt 64 i s L).2.2.1 j = P.ct s j := by
  unfold Pl.gt gA
  by_cases ha : askE 64 i = 0
  · obtain ⟨h0, h1⟩ := askE_no ha
    obtain ⟨k1, k2, k3, k4, f, hf⟩ := h.us (i := i.toNat) (by omega) (by omega)
    rw [if_neg (by rw [ha]; simp), if_neg (by rw [k1]; simp), if_neg (by rw [ha]; simp)]
    refine ⟨?_, k2, k3, k4⟩
    have hc := k4 i.toNat (by omega) (by omega)
    rw [ct_some hf] at hc
    rw [hf, ← hc]
  · rw [if_pos ha, if_pos ha]
    exact ⟨rfl, h, Lg.Like.refl L, fun _ _ _ => rfl⟩
/-- What changing a page answers; what the pages have then. -/
def pA (i o : Int) (nb lsn : Nat) : Int := if askE 64 i ≠ 0 then askE 64 i else if o < 0 ∨ 248 - (nb : Int) < o ∨ lsn = 0 then 2 else 0
def pC (c : Nat → List Int × Nat) (i o : Int) (ys : List Int) (lsn : Nat) (j : Nat) : List Int × Nat := if pA i o ys.length lsn = 0 ∧ j = i.toNat then (Play (c j).1 o.toNat ys, lsn) else c j
theorem AL.pt (h : AL P s L) {i o : Int} {ys : List Int} {first lsn : Nat} (hi : ¬ (0 ≤ i ∧ i < 19)) (hy : Wd.Small ys) (hl : lsn ≤ L.fin) (hl2 : lsn ≤ 18446744073709551615) (hf2 : first ≤ 18446744073709551615) :
    (P.pt 64 i o ys first lsn s L).1 = pA i o ys.length lsn ∧ AL (P.pt 64 i o ys first lsn s L).2.1 (P.pt 64 i o ys first lsn s L).2.2.1 (P.pt 64 i o ys first lsn s L).2.2.2 ∧ L.Like (P.pt 64 i o ys first lsn s L).2.2.2 ∧ ∀ j, 19 ≤ j → j < 64 → (P.pt 64 i o ys first lsn s L).2.1.ct (P.pt 64 i o ys first lsn s L).2.2.1 j = pC (P.ct s) i o ys lsn j := by
  unfold pC
  by_cases ha : askE 64 i = 0
  · obtain ⟨h0, h1⟩ := askE_no ha
    have hna : ¬ askE 64 i ≠ 0 := fun e => e ha
    by_cases hb : o < 0 ∨ 248 - (ys.length : Int) < o ∨ lsn = 0
    · have e1 : P.pt 64 i o ys first lsn s L = (2, P, s, L) := by unfold Pl.pt; exact (if_neg hna).trans (if_pos hb)
      have e2 : pA i o ys.length lsn = 2 := by unfold pA; exact (if_neg hna).trans (if_pos hb)
      rw [e1, e2]
      refine ⟨rfl, h, Lg.Like.refl L, fun j _ _ => ?_⟩
      rw [if_neg (by simp)]
    · obtain ⟨k1, k2, k3, k4, f, hf⟩ := h.us (i := i.toNat) (by omega) (by omega)
      have e1 : P.pt 64 i o ys first lsn s L = (0, (P.us i.toNat s L).2.1.put i.toNat { f with pay := Play f.pay o.toNat ys, lsn := lsn, first := if f.dirty then f.first else first, dirty := true }, (P.us i.toNat s L).2.2) := by
        unfold Pl.pt
        refine (if_neg hna).trans ((if_neg hb).trans ((if_neg (fun e => e k1)).trans ?_))
        rw [hf]
      have e2 : pA i o ys.length lsn = 0 := by unfold pA; exact (if_neg hna).trans (if_neg hb)
      rw [e1, e2]
      have hin := k2.inn _ f hf
      have hfit : o.toNat + ys.length ≤ 248 := by have := not_or.1 hb; have := not_or.1 this.2; omega
      refine ⟨rfl, ⟨k2.ad, fun j hj => ?_, fun j g hj => ?_, fun j g hj hd => ?_, fun j g hj hd => ?_⟩, k3, fun j h19 h64 => ?_⟩
      · have h5 : (if j = i.toNat then some _ else (P.us i.toNat s L).2.1.fr j) ≠ none := hj
        by_cases e : j = i.toNat
        · omega
        · rw [if_neg e] at h5; exact k2.rng j h5
      · have h5 : (if j = i.toNat then some _ else (P.us i.toNat s L).2.1.fr j) = some g := hj
        split at h5
        · cases h5
          refine ⟨Play_sec hin.pay hy hfit, hl2, ?_⟩
          show (if f.dirty then f.first else first) ≤ _
          split
          · exact hin.f
          · exact hf2
        · exact k2.inn j g h5
      · have h5 : (if j = i.toNat then some _ else (P.us i.toNat s L).2.1.fr j) = some g := hj
        split at h5
        · cases h5
          show lsn ≤ (P.us i.toNat s L).2.2.2.fin
          rw [k3.fin]; exact hl
        · exact k2.lsn j g h5 hd
      · have h5 : (if j = i.toNat then some _ else (P.us i.toNat s L).2.1.fr j) = some g := hj
        split at h5
        · cases h5; cases hd
        · exact k2.cln j g h5 hd
      · have h4 := k4 j h19 h64
        obtain ⟨F, hF⟩ : ∃ F : PFr, F = { f with pay := Play f.pay o.toNat ys, lsn := lsn, first := if f.dirty then f.first else first, dirty := true } := ⟨_, rfl⟩
        rw [← hF]
        show ((P.us i.toNat s L).2.1.put i.toNat F).ct (P.us i.toNat s L).2.2.1 j = if (0 : Int) = 0 ∧ j = i.toNat then (Play (P.ct s j).1 o.toNat ys, lsn) else P.ct s j
        by_cases e : j = i.toNat
        · have h6 : ((P.us i.toNat s L).2.1.put i.toNat F).fr j = some F := if_pos e
          have h7 : (P.us i.toNat s L).2.1.ct (P.us i.toNat s L).2.2.1 j = (f.pay, f.lsn) := by rw [e]; exact ct_some hf
          have h8 : ((0 : Int) = 0 ∧ j = i.toNat) := ⟨rfl, e⟩
          rw [if_pos h8, ← h4, h7, ct_some h6, hF]
        · have h6 : ((P.us i.toNat s L).2.1.put i.toNat F).fr j = (P.us i.toNat s L).2.1.fr j := if_neg e
          have h8 : ¬ ((0 : Int) = 0 ∧ j = i.toNat) := fun h9 => e h9.2
          rw [if_neg h8, ← h4]
          unfold Pl.ct
          rw [h6]
  · have e1 : P.pt 64 i o ys first lsn s L = (askE 64 i, P, s, L) := by unfold Pl.pt; exact if_pos ha
    have e2 : pA i o ys.length lsn = askE 64 i := by unfold pA; exact if_pos ha
    rw [e1, e2]
    refine ⟨rfl, h, Lg.Like.refl L, fun j _ _ => ?_⟩
    rw [if_neg (fun e => ha e.1)]
end
end Go.Proofs.YtomkeiboaghinaaGreat

/-
  Two pools with the same pages.
-/
namespace Go.Proofs.YtomkeiboaghinaaGreat
open Go.RowKit Go.Maps

section
variable {P P1 P2 : Pl} {s s1 s2 : St} {L L1 L2 : Lg}
theorem AD.small (h : AD s L) : L.fin ≤ 100000 := by
  have h1 := h.ok.near
  have h2 := h.tl
  omega
theorem AL.noted (h : AL P s L) (page : Nat) : AL P s (L.noted page) := by
  have hp := layL_parts L (nR page) L.free
  refine ⟨⟨h.ad.alive, append_ok h.ad.ok _ (by have := h.ad.small; omega), hp.1.trans h.ad.l16, h.ad.len, hp.2.2.2.2.trans h.ad.tl⟩, h.rng, h.inn, fun i f hf hd => ?_, h.cln⟩
  have h1 := h.lsn i f hf hd
  have h2 := layL_fin L (nR page) L.free
  show f.lsn ≤ (layL L (nR page) L.free).fin
  rw [h2]
  split <;> omega
/-- Two pools with the same pages, over logs alike. -/
structure Tw (P1 : Pl) (s1 : St) (L1 : Lg) (P2 : Pl) (s2 : St) (L2 : Lg) : Prop where
  a : AL P1 s1 L1
  b : AL P2 s2 L2
  like : L1.Like L2
  ct : ∀ j, 19 ≤ j → j < 64 → P1.ct s1 j = P2.ct s2 j
theorem Lg.Like.symm {L1 L2 : Lg} (h : L1.Like L2) : L2.Like L1 := ⟨h.n.symm, h.l.symm, h.g.symm, h.epoch.symm, h.tail.symm, h.rsv.symm, h.fin.symm⟩
theorem layL_rsv (L : Lg) (r : Rc) (room : Int) : (layL L r room).rsv = L.rsv := by unfold layL Lg.more; split <;> rfl
theorem Tw.noted (h : Tw P1 s1 L1 P2 s2 L2) (page : Nat) : Tw P1 s1 (L1.noted page) P2 s2 (L2.noted page) ∧ layE (nR page) L2.free = layE (nR page) L1.free ∧ layA L2 (nR page) L2.free = layA L1 (nR page) L1.free ∧ (L2.noted page).fin = (L1.noted page).fin := by
  have hf : L2.free = L1.free := h.like.free
  have he : layE (nR page) L2.free = layE (nR page) L1.free := by rw [hf]
  have ha : layA L2 (nR page) L2.free = layA L1 (nR page) L1.free := by unfold layA; rw [he, h.like.fin]
  have hfin : (L2.noted page).fin = (L1.noted page).fin := by
    show (layL L2 (nR page) L2.free).fin = (layL L1 (nR page) L1.free).fin
    rw [layL_fin, layL_fin, he, h.like.fin]
  have p1 := layL_parts L1 (nR page) L1.free
  have p2 := layL_parts L2 (nR page) L2.free
  refine ⟨⟨h.a.noted page, h.b.noted page, ⟨p2.2.1.trans (h.like.n.trans p1.2.1.symm), p2.1.trans (h.like.l.trans p1.1.symm), p2.2.2.1.trans (h.like.g.trans p1.2.2.1.symm), p2.2.2.2.1.trans (h.like.epoch.trans p1.2.2.2.1.symm), p2.2.2.2.2.trans (h.like.tail.trans p1.2.2.2.2.symm), (layL_rsv _ _ _).trans (h.like.rsv.trans (layL_rsv _ _ _).symm), hfin⟩, h.ct⟩, he, ha, hfin⟩
theorem Tw.gt (h : Tw P1 s1 L1 P2 s2 L2) {i : Int} (hi : ¬ (0 ≤ i ∧ i < 19)) : Tw (P1.gt 64 i s1 L1).2.1 (P1.gt 64 i s1 L1).2.2.1 (P1.gt 64 i s1 L1).2.2.2 (P2.gt 64 i s2 L2).2.1 (P2.gt 64 i s2 L2).2.2.1 (P2.gt 64 i s2 L2).2.2.2 ∧ (P2.gt 64 i s2 L2).1 = (P1.gt 64 i s1 L1).1 := by
  obtain ⟨a1, a2, a3, a4⟩ := h.a.gt hi
  obtain ⟨b1, b2, b3, b4⟩ := h.b.gt hi
  refine ⟨⟨a2, b2, a3.symm.trans (h.like.trans b3), fun j h19 h64 => (a4 j h19 h64).trans ((h.ct j h19 h64).trans (b4 j h19 h64).symm)⟩, ?_⟩
  rw [a1, b1]
  unfold gA
  by_cases ha : askE 64 i = 0
  · obtain ⟨h0, h1⟩ := askE_no ha
    rw [if_neg (fun e => e ha), if_neg (fun e => e ha), h.ct i.toNat (by omega) (by omega)]
  · rw [if_pos ha, if_pos ha]
theorem Tw.pt (h : Tw P1 s1 L1 P2 s2 L2) {i o : Int} {ys : List Int} {first lsn : Nat} (hi : ¬ (0 ≤ i ∧ i < 19)) (hy : Wd.Small ys) (hl : lsn ≤ L1.fin) (hl2 : lsn ≤ 18446744073709551615) (hf2 : first ≤ 18446744073709551615) :
    Tw (P1.pt 64 i o ys first lsn s1 L1).2.1 (P1.pt 64 i o ys first lsn s1 L1).2.2.1 (P1.pt 64 i o ys first lsn s1 L1).2.2.2 (P2.pt 64 i o ys first lsn s2 L2).2.1 (P2.pt 64 i o ys first lsn s2 L2).2.2.1 (P2.pt 64 i o ys first lsn s2 L2).2.2.2 ∧ (P2.pt 64 i o ys first lsn s2 L2).1 = (P1.pt 64 i o ys first lsn s1 L1).1 := by
  obtain ⟨a1, a2, a3, a4⟩ := h.a.pt (o := o) (first := first) hi hy hl hl2 hf2
  obtain ⟨b1, b2, b3, b4⟩ := h.b.pt (o := o) (first := first) hi hy (by rw [h.like.fin]; exact hl) hl2 hf2
  refine ⟨⟨a2, b2, a3.symm.trans (h.like.trans b3), fun j h19 h64 => (a4 j h19 h64).trans (Eq.trans ?_ (b4 j h19 h64).symm)⟩, by rw [a1, b1]⟩
  unfold pC
  rw [h.ct j h19 h64]
theorem AL.begin (n : Int) (x : Bool) : AL (P0 n x) zeroD L0 :=
  ⟨⟨zeroD_alive, newL_ok.1, rfl, by simp [zeroD, fresh], rfl⟩, fun i hi => absurd rfl hi, fun i f hf => by (cases hf), fun i f hf => by (cases hf), fun i f hf => by (cases hf)⟩
end
/-- Both lie in new blocks, apart from one another. -/
def TwAt (w0 w : World) (b1 m1 : Nat) (pd1 pl1 : Value) (P1 : Pl) (s1 : St) (L1 : Lg) (b2 m2 : Nat) (pd2 pl2 : Value) (P2 : Pl) (s2 : St) (L2 : Lg) (R : Nat) : Prop :=
  ∃ S1 n1 B1 S2 n2 B2, PoAt w b1 m1 n1 pd1 pl1 B1 S1 P1 s1 L1 64 R ∧ PoAt w b2 m2 n2 pd2 pl2 B2 S2 P2 s2 L2 64 R ∧ (∀ q, uS S1 b1 m1 B1 q → ¬ uS S2 b2 m2 B2 q) ∧ (∀ q, uS S1 b1 m1 B1 q → w0.heap.size ≤ q) ∧ (∀ q, uS S2 b2 m2 B2 q → w0.heap.size ≤ q) ∧ Gr w0 w
end Go.Proofs.YtomkeiboaghinaaGreat

/-
  Acts of the laws on pool, as they come in.
-/
namespace Go.Proofs.YtomkeiboaghinaaGreat
open Go.ChangeShapes Go.WideShapes Go.ChangeAt Go.RowKit Go.Maps

abbrev TPa : TypeId := 33
/-- An act; where its bytes lie. -/
structure PDo where
  kind : Int
  page : Int
  off : Int
  n : Int
  pb : Option Addr
  nb : Nat
  cb : Nat
  ys : List Int
def PDo.cells (a : PDo) : List Value := [.int .i64 a.kind, .int .i64 a.page, .int .i64 a.off, .int .i64 a.n, .slice a.pb a.nb a.cb]
def I64 (x : Int) : Prop := -9223372036854775808 ≤ x ∧ x ≤ 9223372036854775807
/-- What it names, in memory. -/
structure PDo.In (w : World) (a : PDo) : Prop where
  b : Byt w a.pb a.nb a.cb a.ys
  k : I64 a.kind
  g : I64 a.page
  o : I64 a.off
  n : I64 a.n
theorem PDo.In.gr {w w' : World} {a : PDo} (h : a.In w) (g : Gr w w') : a.In w' := ⟨h.b.kept g, h.k, h.g, h.o, h.n⟩
structure PActs (w : World) (p : Option Addr) (n c : Nat) : Prop where
  cap : n ≤ c
  most : c ≤ maxLen
  lies : 0 < n → ∃ b o, p = some ⟨b, o, none⟩ ∧ ∀ i, i < n → ∃ a : PDo, (∀ j v, a.cells[j]? = some v → w.cell? ⟨b, o + i * 5 + j, none⟩ = some v) ∧ a.In w
/-- A row of it, in each world that has grown. -/
theorem PActs.row {w : World} {p : Option Addr} {n c : Nat} (h : PActs w p n c) (k : Nat) (hk : k < n) : ∃ b o a, p = some ⟨b, o, none⟩ ∧ ∀ V, Gr w V → (∀ j v, (PDo.cells a)[j]? = some v → V.cell? ⟨b, o + k * 5 + j, none⟩ = some v) ∧ a.In V := by
  obtain ⟨b, o, rfl, hc⟩ := h.lies (by omega)
  obtain ⟨a, h1, h2⟩ := hc k hk
  exact ⟨b, o, a, rfl, fun V g => ⟨fun j v hv => by rw [g.cell (World.block_lt_of_cell? w _ (h1 j v hv))]; exact h1 j v hv, h2.gr g⟩⟩

set_option maxRecDepth 100000 in
/-- An argument of type []Act, opened. -/
theorem openPActs {H : Type} {enc : TypeId × Value → H} {W : World} {a : Option Addr} {len cap : Nat} {d : DataW H} {p : List MemPlace}
    (h : DataW.Trod enc Tryz.prog W 0 (fun _ => true) true 22 (.slice a len cap) d p) : PActs W a len cap := by
  obtain ⟨fuel, hf⟩ := h
  have hc : Tryz.prog.cellsOf TPa = 5 := by kernel_rfl
  have hc1 : Tryz.prog.cellsOf 3 = 1 := by kernel_rfl
  have hc2 : Tryz.prog.cellsOf 5 = 1 := by kernel_rfl
  have hc3 : Tryz.prog.cellsOf 31 = 1 := by kernel_rfl
  rcases Go.Deep.open_slice Tryz.underlying22 hf with ⟨hcs, _⟩ | ⟨x, l, c, m, n, D, Pl, hcs, _, hl, hm, hmm, _, hx⟩
  · simp [Value.cells] at hcs
    obtain ⟨rfl, rfl, rfl⟩ := hcs
    exact ⟨Nat.le_refl _, Nat.zero_le _, fun h => absurd h (Nat.lt_irrefl 0)⟩
  · simp [Value.cells] at hcs
    obtain ⟨rfl, rfl, rfl⟩ := hcs
    simp only [if_true] at hmm
    subst hmm
    have hc' : Tryz.prog.cellsOf 33 = 5 := hc
    rw [hc'] at hx
    have each : ∀ i, i < len → ∃ g : PDo, (∀ j v, g.cells[j]? = some v → W.cell? ((x.add (i * 5)).add j) = some v) ∧ g.In W := fun i hi => by
      obtain ⟨cs, h1, h2⟩ := hx i (by omega)
      obtain ⟨_, hlen, hcells⟩ := World.cells?_some h1
      obtain ⟨xs, k, _, _, _, hlx, hff⟩ := DataW.trod_struct Tryz.underlying33 h2
      match xs, hlx with
      | [y0, y1, y2, y3, y4], _ =>
        match cs, hlen with
        | [c0, c1, c2, c3, c4], _ =>
          have t0 := hff 0 _ rfl
          have t1 := hff 1 _ rfl
          have t2 := hff 2 _ rfl
          have t3 := hff 3 _ rfl
          have t4 := hff 4 _ rfl
          simp [hc1] at t0
          simp [hc1] at t1
          simp [hc1] at t2
          simp [hc1] at t3
          simp [hc3] at t4
          obtain ⟨K, e0, _, w0⟩ := DataW.trod_int Tryz.underlying3 t0
          obtain ⟨I, e1, _, w1⟩ := DataW.trod_int Tryz.underlying3 t1
          obtain ⟨J, e2, _, w2⟩ := DataW.trod_int Tryz.underlying3 t2
          obtain ⟨M, e3, _, w3⟩ := DataW.trod_int Tryz.underlying3 t3
          simp at e0 e1 e2 e3
          subst e0 e1 e2 e3
          obtain ⟨q, mm, kk, zs, e4, hz⟩ : ∃ q mm kk zs, c4 = Value.slice q mm kk ∧ Byt W q mm kk zs := by
            have tt := t4
            rcases Go.Deep.open_slice Tryz.underlying31 t4 with ⟨h5, _⟩ | ⟨a5, l5, c5, _, _, _, _, h5, _⟩
            · simp at h5
              subst h5
              exact ⟨none, 0, 0, [], rfl, Byt.nil W⟩
            · simp at h5
              subst h5
              obtain ⟨zs, hz⟩ := openBytes Tryz.underlying31 Tryz.underlying5 hc2 (W := W) (a := some a5) (len := l5) (cap := c5) (enc := enc) (d := y4.1) (p := y4.2) ⟨_, by simpa [Value.cells] using tt⟩
              exact ⟨_, _, _, zs, rfl, hz⟩
          subst e4
          refine ⟨⟨K, I, J, M, q, mm, kk, zs⟩, fun j v hj => ?_, hz, i64Of w0, i64Of w1, i64Of w2, i64Of w3⟩
          have hlt : j < 5 := by have := (List.getElem?_eq_some_iff.1 hj).1; simpa [PDo.cells] using this
          rw [hcells j (by omega)]
          exact hj
    refine ⟨hl, hm, fun hn => ?_⟩
    obtain ⟨z0, hz0, _⟩ := each 0 hn
    have hc0 := hz0 0 _ rfl
    obtain ⟨b, o, sp⟩ := x
    obtain rfl : sp = none := by simpa [Addr.add] using World.cell?_spot hc0
    refine ⟨b, o, rfl, fun i hi => ?_⟩
    obtain ⟨z, hz, hin⟩ := each i hi
    refine ⟨z, fun j v hj => ?_, hin⟩
    have := hz j v hj
    simpa only [Go.WideShapes.add_plain] using this
end Go.Proofs.YtomkeiboaghinaaGreat

