/-
  Texts, put together: Crash CrashWalk Barrier FlowS Sector Rf RefRead RefBarrier RefWrite RefNew RefLoose FlowU RefCrash Both.
-/
import Derived.Deep.QuietTactic
import Derived.BigQuiet
import Derived.Test.YtaemmknijmhnoaaGreatK4
import Derived.Test.YtaemmknijmhnoaaGreatK7
set_option linter.unusedVariables false
set_option linter.unusedSimpArgs false
namespace Go.Proofs.YtaemmknijmhnoaaGreat
open Go.RowKit Go.Maps

/-! ### which is chosen -/
theorem filter_at (p : Nat → Bool) : ∀ (N k i : Nat), ((List.range N).filter p)[k]? = some i → ((List.range i).filter p).length = k ∧ i < N ∧ p i = true
  | 0, k, i, h => by simp at h
  | N + 1, k, i, h => by
    rw [List.range_succ, List.filter_append] at h
    by_cases hk : k < ((List.range N).filter p).length
    · rw [List.getElem?_append_left hk] at h
      obtain ⟨h1, h2, h3⟩ := filter_at p N k i h
      exact ⟨h1, by omega, h3⟩
    · rw [List.getElem?_append_right (by omega)] at h
      cases hp : p N with
      | false => simp [hp] at h
      | true =>
        simp only [hp, List.filter_cons, List.filter_nil, if_true] at h
        have hk0 : k - ((List.range N).filter p).length = 0 := by
          cases hq : k - ((List.range N).filter p).length with
          | zero => rfl
          | succ m => rw [hq] at h; simp at h
        rw [hk0] at h
        simp at h
        subst h
        exact ⟨by omega, by omega, hp⟩

def St.rank (s : St) (i : Nat) : Nat := ((List.range i).filter fun j => !(s.t j).isEmpty).length
theorem St.loose_at {s : St} {k i : Nat} (h : s.loose[k]? = some i) : s.rank i = k ∧ i < s.ls.length ∧ s.t i ≠ [] := by
  obtain ⟨h1, h2, h3⟩ := filter_at _ _ _ _ h
  exact ⟨h1, h2, by cases ht : s.t i with
    | nil => rw [ht] at h3; cases h3
    | cons x r => simp⟩
theorem fold_set (f : Nat → Sec) : ∀ (is : List Nat) (l : List Sec), (is.foldl (fun l i => l.set i (f i)) l).length = l.length ∧ ∀ j, j < l.length → (is.foldl (fun l i => l.set i (f i)) l).getD j Sec.zero = if j ∈ is then f j else l.getD j Sec.zero
  | [], l => ⟨rfl, fun j _ => by simp⟩
  | i :: r, l => by
    obtain ⟨h1, h2⟩ := fold_set f r (l.set i (f i))
    rw [List.length_set] at h1
    refine ⟨h1, fun j hj => ?_⟩
    rw [List.foldl_cons, h2 j (by rw [List.length_set]; exact hj)]
    by_cases hr : j ∈ r
    · simp [hr]
    · rw [if_neg hr]
      by_cases hji : j = i
      · subst hji
        simp [List.getD, hj]
      · simp [hji, hr, List.getD, List.getElem?_set, Ne.symm hji]
structure Nums (w : World) (p : Option Addr) (n c : Nat) (zs : List Int) : Prop where
  len : zs.length = n
  most : n ≤ 9223372036854775807
  lies : 0 < n → ∃ b o, p = some ⟨b, o, none⟩ ∧ ∀ i, i < n → w.cell? ⟨b, o + i, none⟩ = some (.int .i64 (zs.getD i 0))
  ok : ∀ z ∈ zs, -9223372036854775808 ≤ z ∧ z ≤ 9223372036854775807
theorem Nums.nil (w : World) : Nums w none 0 0 [] := ⟨rfl, by omega, fun h => absurd h (Nat.lt_irrefl 0), fun _ h => by cases h⟩
theorem Ints.nums {w : World} {base : Nat} {v : Value} {xs : List Nat} (h : Ints w base v xs) (hs : ∀ x ∈ xs, x < 65536) : ∃ p c, v = .slice p xs.length c ∧ (∀ g, v.ownBlock = some g → base ≤ g ∧ g < w.heap.size) ∧ Nums w p xs.length c (xs.map fun (x : Nat) => (x : Int)) := by
  have hlt := World.ownsRow.lt h
  rcases h.2 with ⟨rfl, h0⟩ | ⟨g, cap, cur, rfl, hb, hg, hn, hm, hsz, ht⟩
  · have : xs = [] := List.eq_nil_of_length_eq_zero h0
    subst this
    exact ⟨none, 0, rfl, (fun g hg => by cases hg), Nums.nil w⟩
  · refine ⟨_, cap, rfl, hlt, by simp, by unfold maxLen at hm; omega, fun _ => ⟨g, 0, rfl, fun i hi => ?_⟩, fun z hz => ?_⟩
    · rw [Nat.zero_add, cell_of_row w g i cur TI (0, 0) hg]
      have h2 : cur.toList[i]? = (xs.map fun (x : Nat) => Value.int .i64 (x : Int))[i]? := by
        rw [← ht, List.getElem?_take, if_pos (by omega)]
      rw [← Array.getElem?_toList, h2]
      simp [List.getD, hi]
    · obtain ⟨x, hx, rfl⟩ := List.mem_map.1 hz
      have := hs x hx
      omega

end Go.Proofs.YtaemmknijmhnoaaGreat

namespace Go.Proofs.YtaemmknijmhnoaaGreat
open Go.RowKit Go.Maps

theorem St.loose_small {s : St} (h : s.Ok) : ∀ x ∈ s.loose, x < 65536 := fun x hx => by
  have := (St.mem_loose.1 hx).1
  have := h.most
  omega
theorem St.loose_len (s : St) : s.loose.length ≤ s.ls.length := by
  unfold St.loose
  have := List.length_filter_le (fun i => !(s.t i).isEmpty) (List.range s.ls.length)
  rwa [List.length_range] at this

theorem Nums.stays {w w' : World} {p : Option Addr} {n c : Nat} {zs : List Int} (h : Nums w p n c zs) (g : ∀ a, p = some a → 0 < n → w'.heap[a.block]? = w.heap[a.block]?) : Nums w' p n c zs :=
  ⟨h.len, h.most, fun hn => by
    obtain ⟨b, o, e, hc⟩ := h.lies hn
    exact ⟨b, o, e, fun i hi => (World.cell?_of_block (a := ⟨b, o + i, none⟩) (show w'.heap[b]? = w.heap[b]? from g _ e hn)).trans (hc i hi)⟩, h.ok⟩
theorem Nums.lt {w : World} {p : Option Addr} {n c : Nat} {zs : List Int} (h : Nums w p n c zs) {a : Addr} (e : p = some a) (hn : 0 < n) : a.block < w.heap.size := by
  obtain ⟨b, o, e2, hc⟩ := h.lies hn
  rw [e] at e2
  cases e2
  exact World.block_lt_of_cell? w _ (hc 0 hn)
theorem grown_setCells (w : World) (g o : Nat) (vs : List Value) : w.grownBy (w.setCells g o vs) (some g) := by
  obtain ⟨h1, h2, h3, h4⟩ := setCells_os g vs o w
  exact ⟨h1, h2, h3, by rw [h4]; exact Nat.le_refl _, fun k _ hk => heap_setCells_other g vs o w k (fun e => hk (by rw [e]))⟩

end Go.Proofs.YtaemmknijmhnoaaGreat

namespace Go.Proofs.YtaemmknijmhnoaaGreat
open Go.RowKit Go.Maps

/-- Behind k rounds of a barrier. -/
def St.part (s : St) (k : Nat) : List Sec := (s.loose.take k).foldl (fun l i => l.set i (s.nw i)) s.ls
def St.barrier (s : St) : St := { s with ls := (List.range s.ls.length).map s.nw, t := fun _ => [] }
theorem St.part_len (s : St) (k : Nat) : (s.part k).length = s.ls.length := (fold_set _ _ _).1
theorem St.part_succ {s : St} {k i : Nat} (h : s.loose[k]? = some i) : s.part (k + 1) = (s.part k).set i (s.nw i) := by
  unfold St.part
  obtain ⟨hk, e⟩ := List.getElem?_eq_some_iff.1 h
  rw [List.take_succ_eq_append_getElem hk, List.foldl_append, e]
  rfl
theorem St.part_all (s : St) : s.part s.loose.length = (List.range s.ls.length).map s.nw := by
  apply List.ext_getElem?
  intro j
  by_cases hj : j < s.ls.length
  · have h1 : j < (s.part s.loose.length).length := by rw [s.part_len]; exact hj
    have h2 := (fold_set s.nw (s.loose.take s.loose.length) s.ls).2 j hj
    rw [List.take_length] at h2
    have h3 : (s.part s.loose.length).getD j Sec.zero = s.nw j := by
      unfold St.part
      rw [List.take_length, h2]
      split
      · rfl
      · rename_i hn
        have : s.t j = [] := by
          cases ht : s.t j with
          | nil => rfl
          | cons x r => exact absurd (St.mem_loose.2 ⟨hj, by rw [ht]; simp⟩) hn
        rw [nw_none this]
    rw [List.getElem?_eq_getElem h1]
    simp only [List.getD, List.getElem?_eq_getElem h1, Option.getD_some] at h3
    rw [h3]
    simp [hj]
  · rw [List.getElem?_eq_none (by rw [s.part_len]; omega), List.getElem?_eq_none (by simp; omega)]
/-- What is written last does not hang on what lasts. -/
theorem nw_other {s : St} {i : Nat} (h : s.t i ≠ []) (l : List Sec) : ({ s with ls := l } : St).nw i = s.nw i := by
  unfold St.nw
  cases ht : s.t i with
  | nil => exact absurd ht h
  | cons x r => rw [List.getLastD_cons, List.getLastD_cons]

/-- One of the sectors that last is set. -/
theorem DkAt.putL {w : World} {F : Nat → Prop} {b gl c : Nat} {m : Nat} {L : Nat → Value} {s : St} {n : Nat} (h : DkAt w F b (.slice (some ⟨gl, 0, none⟩) n c) m L s) (i : Nat) (hi : i < s.ls.length) (x : Sec) :
    DkAt (w.setCells gl (i * 256) x.cells) F b (.slice (some ⟨gl, 0, none⟩) n c) m L { s with ls := s.ls.set i x } ∧ Upd F F w (w.setCells gl (i * 256) x.cells) := by
  obtain ⟨D, k, ho, r⟩ := h.map
  have hFl : F gl := h.ownL gl rfl
  have hg := grown_setCells w gl (i * 256) x.cells
  have hne := row_ne h.ls (g := gl) rfl h.blk ho
  have e : ∀ j, F j → j ≠ gl → (w.setCells gl (i * 256) x.cells).heap[j]? = w.heap[j]? := fun j hj hn => hg.block j (h.low j hj) (fun e => hn (by cases e; rfl))
  have hl : (s.ls.set i x).length = s.ls.length := List.length_set
  refine ⟨⟨⟨by show 0 < (s.ls.set i x).length; rw [hl]; exact h.ok.pos, by show (s.ls.set i x).length ≤ _; rw [hl]; exact h.ok.most, fun j hj => h.ok.out j (by have : (s.ls.set i x).length ≤ j := hj; omega), h.ok.less, h.ok.lo, h.ok.hi⟩, h.blk.stays (e b h.ownB (fun e => hne.1 e.symm)), h.ls.put i hi x, ?_, fun j => (h.rows j).stays fun g hg => e g (h.ownR j g hg) (fun e => h.apart0 j g hg (by rw [e]; rfl)), h.apart, h.apart0, h.ownB, h.ownM, h.ownL, h.ownR, fun j hj => Nat.lt_of_lt_of_le (h.low j hj) hg.size⟩, ?_⟩
  · show Loose _ m _ (s.ls.set i x).length L s.t
    rw [hl]
    exact h.map.stays (e m h.ownM (fun e => hne.2 e.symm))
  · exact ⟨hg.os, hg.tape, hg.output, hg.size, fun j hj hF => hg.block j hj (fun e => hF (by cases e; exact hFl)), fun j hj => .inl hj⟩

/-- What the region's slots hold. -/
def Sb (b gl i : Nat) (lv : Value) (x : Sec) (d : Nat) (v : Value) (_ : World) : Prop :=
  match d with
  | 18 | 19 | 23 => v = .pointer (some ⟨b, 0, none⟩)
  | 20 => v = .pointer (some ⟨b, 0, none⟩)
  | 21 => v = lv
  | 22 | 24 => v = .int .i64 (i : Int)
  | 25 => v = .agg (sec x)
  | 26 => v = .pointer (some ⟨gl, i * 256, none⟩)
  | _ => True
def Fb (W0 : World) (gl i : Nat) (x : Sec) (w : World) : Prop := ∃ w1, Gr W0 w1 ∧ w = w1.setCells gl (i * 256) x.cells
theorem wp_store_at {op : Oper} {a : Act} {w : World} {K : Act → World → Prop} {Q : Exit → Act → World → Prop} (x y : Operand) (ho : op.op = .store TS x y) {b o : Nat} {s : Sec} (ht : w.there b o 256) (hx : a.eval x = .pointer (some ⟨b, o, none⟩)) (hy : a.eval y = .agg (sec s))
    (h : K (a.put op.dst undef) (w.setCells b o s.cells)) : op.wp Tryz.prog a w K Q :=
  wp_store_mid TS x y ho b o (sec s) hx hy (by rw [sec_size]; exact ht) (by rw [sec_size]; exact size_sec) (sec_one s) h

set_option maxRecDepth 100000 in
theorem Barrier_dead {F : Nat → Prop} {p : Value} {s : St} (w : World) (h : Dk w F p s) (hd : s.dead = true) : Calls Tryz.prog 49 #[p] w fun e w' => e = .returned (.int .i64 8) ∧ w = w' := by
  obtain ⟨b, lv, m, L, rfl, h⟩ := h
  have HM := Lib.hid (missing_no w h)
  obtain ⟨h0, h1, h2, h3, h4⟩ := h.cells
  rw [hd] at h3
  clear h h0 h1 h2 h4 hd
  go_enter Tryz.func49, Tryz.ntmps49
  go_wp2_with fail
  refine HM.out.mono ?_
  rintro e w1 ⟨rfl, rfl⟩
  go_wp2
  go_ret
  exact ⟨rfl, rfl⟩

set_option maxRecDepth 100000 in
set_option maxHeartbeats 4000000 in
theorem Barrier_yes {F : Nat → Prop} {p : Value} {s : St} (w : World) (h : Dk w F p s) (hw : s.writes ≤ 1000000000) (hd : s.dead = false) : Calls Tryz.prog 49 #[p] w fun e w' => Chg F p s.barrier (.int .i64 0) w e w' := by
  obtain ⟨b, lv, m, L, rfl, h⟩ := h
  have HM := Lib.hid (missing_no w h)
  have HD := Lib.hid h
  have HLo := Lib.hid (Loose_any w ⟨_, _, _, _, rfl, h⟩ hw)
  obtain ⟨h0, h1, h2, h3, h4⟩ := h.cells
  rw [hd] at h3
  have HDd := Lib.hid hd
  clear h h0 h1 h2 h4 hd
  go_enter Tryz.func49, Tryz.ntmps49
  go_wp2_with fail
  refine HM.out.mono ?_
  rintro e w1 ⟨rfl, rfl⟩
  go_wp2_with fail
  refine HLo.out.mono ?_
  rintro e w2 ⟨lo, rfl, hi, hg⟩
  obtain ⟨p2, c2, rfl, hfar, hnums⟩ := Ints.nums hi (St.loose_small HD.out.ok)
  have HD2 := Lib.hid (HD.out.gr hg)
  have HU2 := Lib.hid (Upd.of_gr (F := F) hg)
  have HI := Lib.hid hnums
  have HFar : Hid (∀ a, p2 = some a → ¬ F a.block) := Lib.hid fun a ha hF => by
    subst ha
    have := (hfar a.block rfl).1
    have := HD.out.low _ hF
    omega
  obtain ⟨K, hK⟩ : ∃ K, K = s.loose.length := ⟨_, rfl⟩
  have hKs : K ≤ 65536 := by rw [hK]; have := s.loose_len; have := HD2.out.ok.most; omega
  rw [← hK] at HI
  have HK := Lib.hid hK
  obtain ⟨gl, cl, hv⟩ := HD2.out.lv
  rw [← hK]
  obtain ⟨N, hN⟩ : ∃ N, N = s.ls.length := ⟨_, rfl⟩
  rw [← hN] at hv
  have HN := Lib.hid hN
  subst hv
  clear hi hfar hnums hg hK hN HM h3 HLo
  go_wp2_with fail
  go_loopw [14] (fun i wr => ∃ k : Nat, k ≤ K ∧ i = .int .i64 k ∧ Hid (DkAt wr F b (.slice (some ⟨gl, 0, none⟩) N cl) m L { s with ls := s.part k }) ∧ Hid (Upd F F w2 wr)) (fun i _ => K - (intOf i).toNat)
  case atStart => exact ⟨0, Nat.zero_le _, rfl, HD2.out, Upd.of_gr (Gr.refl _)⟩
  case round =>
    obtain ⟨k, hk, rfl, hd, hu⟩ := hrel
    by_cases hlt : k < K
    · obtain ⟨b2, o2, rfl, hc2⟩ := (HI.out.stays (w' := wr) (fun a ha hn => hu.out.block _ (HI.out.lt ha hn) (fun e => HFar.out a ha e))).lies (by omega)
      have hkk : k < s.loose.length := by rw [← HK.out]; exact hlt
      obtain ⟨i, hi⟩ : ∃ i, s.loose[k]? = some i := ⟨_, List.getElem?_eq_getElem hkk⟩
      have hci := hc2 k hlt
      have ei : (s.loose.map fun (x : Nat) => (x : Int)).getD k 0 = (i : Int) := by simp [List.getD, hi]
      rw [ei] at hci
      obtain ⟨hrank, hiN, hti⟩ := St.loose_at hi
      have hiP : i < (s.part k).length := by rw [s.part_len]; exact hiN
      have HX : Hid (({ s with ls := s.part k } : St).nw i = s.nw i) := Lib.hid (nw_other hti _)
      have HS := Lib.hid (St.part_succ hi)
      have HIP : Hid (i < (s.part k).length) := Lib.hid hiP
      have hiN2 : i < N := by rw [HN.out]; exact hiN
      have HDr := hd
      have HUr := hu
      clear hc2 ei hrank hti hkk hi hiN hiP hd hu
      go_wp2_with fail
      have HCell : Hid (∀ W, Gr wr W → W.cell? ⟨b, 0, none⟩ = some (.slice (some ⟨gl, 0, none⟩) N cl)) := Lib.hid fun W h => (HDr.out.gr h).cells.1
      have HNw : Hid (∀ W, Gr wr W → Calls Tryz.prog 55 #[.pointer (some ⟨b, 0, none⟩), .int .i64 (i : Int)] W fun e w' => e = .returned (.agg (sec (s.nw i))) ∧ Gr W w') := Lib.hid fun W h => by
        have := newest_any W (HDr.out.gr h) i HIP.out
        rw [HX.out] at this
        exact this
      have HTh : Hid (∀ W, Gr wr W → W.there gl (i * 256) 256) := Lib.hid fun W h => (HDr.out.gr h).ls.there i HIP.out
      refine Flow.regionZ 9 9 (by kernel_rfl) [] 12 (Sb b gl i (.slice (some ⟨gl, 0, none⟩) N cl) (s.nw i)) (Gr wr) (Fb wr gl i (s.nw i)) (fun _ => True) (fun _ _ _ => True) (by kernel_rfl) (by kernel_rfl) (by kernel_rfl) (fun _ _ _ _ _ _ h _ => h) ⟨rfl, rfl, rfl, Nat.le_refl _, fun _ _ => rfl⟩ True.intro ?steps ?fin
      case fin =>
        intro a W hfr hfin hsl
        clear hsl
        have e := Flow.frame hfr [18, 19, 20, 21, 22, 23, 24, 25, 26] (List.range 32) (by kernel_rfl) (by kernel_rfl)
        simp [List.range, List.range.loop] at e
        rw [e]
        clear e hfr
        obtain ⟨w1, hg1, rfl⟩ := hfin
        obtain ⟨hd1, hu1⟩ := (HDr.out.gr hg1).putL i HIP.out (s.nw i)
        have HD3 := Lib.hid hd1
        have HU3 := Lib.hid (HUr.out.trans ((Upd.of_gr hg1).trans hu1))
        clear hg1 hd1 hu1 HCell HNw HTh
        rename_i K2 hK2
        refine hK2 _ _ ?_
        go_wp2
        go_roundw
        case rel => exact ⟨k + 1, by omega, by go_num, by rw [HS.out]; exact HD3.out, HU3.out⟩
        case measure => simp [intOf]; omega
      case steps =>
        refine Flow.StepsZ.cons (fun a W hfr hinv hear hdep K hK => ?_) ?_
        · have s0 : a.tmps.getD 0 undef = .pointer (some ⟨b, 0, none⟩) := hfr.at 0 (by kernel_rfl)
          have t0 : a.tmps[0]?.getD undef = .pointer (some ⟨b, 0, none⟩) := by simpa using s0
          rw [if_pos (Flow.wanted_none rfl)]
          clear hfr hdep hear
          go_simp
          exact hK _ _ True.intro hinv (fun _ => True.intro) (fun d hd => by cases hd; rfl)
        refine Flow.StepsZ.cons (fun a W hfr hinv hear hdep K hK => ?_) ?_
        · have s18 : a.tmps.getD 18 undef = .pointer (some ⟨b, 0, none⟩) := hdep 18 (by kernel_rfl)
          have t18 : a.tmps[18]?.getD undef = .pointer (some ⟨b, 0, none⟩) := by simpa using s18
          rw [if_pos (Flow.wanted_none rfl)]
          clear hfr hdep hear
          go_simp
          exact hK _ _ True.intro hinv (fun _ => True.intro) (fun d hd => by cases hd; rfl)
        refine Flow.StepsZ.cons (fun a W hfr hinv hear hdep K hK => ?_) ?_
        · have s19 : a.tmps.getD 19 undef = .pointer (some ⟨b, 0, none⟩) := hdep 19 (by kernel_rfl)
          have t19 : a.tmps[19]?.getD undef = .pointer (some ⟨b, 0, none⟩) := by simpa using s19
          rw [if_pos (Flow.wanted_none rfl)]
          clear hfr hdep hear
          go_simp
          exact hK _ _ True.intro hinv (fun _ => True.intro) (fun d hd => by cases hd; rfl)
        refine Flow.StepsZ.cons (fun a W hfr hinv hear hdep K hK => ?_) ?_
        · have s20 : a.tmps.getD 20 undef = .pointer (some ⟨b, 0, none⟩) := hdep 20 (by kernel_rfl)
          have t20 : a.tmps[20]?.getD undef = .pointer (some ⟨b, 0, none⟩) := by simpa using s20
          have hc := HCell.out W hinv
          rw [if_pos (Flow.wanted_none rfl)]
          clear hfr hdep hear
          go_simp
          exact hK _ _ True.intro hinv (fun _ => True.intro) (fun d hd => by cases hd; rfl)
        refine Flow.StepsZ.cons (fun a W hfr hinv hear hdep K hK => ?_) ?_
        · have s4 : a.tmps.getD 4 undef = .int .i64 (i : Int) := hfr.at 4 (by kernel_rfl)
          have t4 : a.tmps[4]?.getD undef = .int .i64 (i : Int) := by simpa using s4
          rw [if_pos (Flow.wanted_none rfl)]
          clear hfr hdep hear
          go_simp
          exact hK _ _ True.intro hinv (fun _ => True.intro) (fun d hd => by cases hd; rfl)
        refine Flow.StepsZ.cons (fun a W hfr hinv hear hdep K hK => ?_) ?_
        · have s0 : a.tmps.getD 0 undef = .pointer (some ⟨b, 0, none⟩) := hfr.at 0 (by kernel_rfl)
          have t0 : a.tmps[0]?.getD undef = .pointer (some ⟨b, 0, none⟩) := by simpa using s0
          rw [if_pos (Flow.wanted_none rfl)]
          clear hfr hdep hear
          go_simp
          exact hK _ _ True.intro hinv (fun _ => True.intro) (fun d hd => by cases hd; rfl)
        refine Flow.StepsZ.cons (fun a W hfr hinv hear hdep K hK => ?_) ?_
        · have s4 : a.tmps.getD 4 undef = .int .i64 (i : Int) := hfr.at 4 (by kernel_rfl)
          have t4 : a.tmps[4]?.getD undef = .int .i64 (i : Int) := by simpa using s4
          rw [if_pos (Flow.wanted_none rfl)]
          clear hfr hdep hear
          go_simp
          exact hK _ _ True.intro hinv (fun _ => True.intro) (fun d hd => by cases hd; rfl)
        refine Flow.StepsZ.cons (fun a W hfr hinv hear hdep K hK => ?_) ?_
        · have s23 : a.tmps.getD 23 undef = .pointer (some ⟨b, 0, none⟩) := hdep 23 (by kernel_rfl)
          have t23 : a.tmps[23]?.getD undef = .pointer (some ⟨b, 0, none⟩) := by simpa using s23
          have s24 : a.tmps.getD 24 undef = .int .i64 (i : Int) := hdep 24 (by kernel_rfl)
          have t24 : a.tmps[24]?.getD undef = .int .i64 (i : Int) := by simpa using s24
          rw [if_pos (Flow.wanted_none rfl)]
          clear hfr hdep
          go_simp
          refine (HNw.out W hinv).mono ?_
          rintro e W' ⟨rfl, g1⟩
          exact hK _ _ True.intro (Gr.trans hinv g1) (fun _ => True.intro) (fun d hd => by cases hd; rfl)
        refine Flow.StepsZ.cons (fun a W hfr hinv hear hdep K hK => ?_) ?_
        · have s21 : a.tmps.getD 21 undef = .slice (some ⟨gl, 0, none⟩) N cl := hdep 21 (by kernel_rfl)
          have t21 : a.tmps[21]?.getD undef = .slice (some ⟨gl, 0, none⟩) N cl := by simpa using s21
          have s22 : a.tmps.getD 22 undef = .int .i64 (i : Int) := hdep 22 (by kernel_rfl)
          have t22 : a.tmps[22]?.getD undef = .int .i64 (i : Int) := by simpa using s22
          rw [if_pos (Flow.wanted_none rfl)]
          clear hfr hdep hear
          go_simp
          exact hK _ _ True.intro hinv (fun _ => True.intro) (fun d hd => by cases hd; rfl)
        refine Flow.StepsZ.cons (fun a W hfr hinv hear hdep K hK => ?_) ?_
        · have s26 : a.tmps.getD 26 undef = .pointer (some ⟨gl, i * 256, none⟩) := hdep 26 (by kernel_rfl)
          have t26 : a.tmps[26]?.getD undef = .pointer (some ⟨gl, i * 256, none⟩) := by simpa using s26
          have s25 : a.tmps.getD 25 undef = .agg (sec (s.nw i)) := hdep 25 (by kernel_rfl)
          have t25 : a.tmps[25]?.getD undef = .agg (sec (s.nw i)) := by simpa using s25
          rw [if_pos (Flow.wanted_none rfl)]
          clear hfr hdep
          refine wp_store_at (.tmp 26) (.tmp 25) rfl (HTh.out W hinv) (by simpa [Act.eval] using s26) (by simpa [Act.eval] using s25) ?_
          exact hK _ _ True.intro ⟨W, hinv, rfl⟩ True.intro (fun d hd => by cases hd)
        exact True.intro
    · obtain rfl : k = K := by omega
      rw [HK.out, s.part_all] at hd
      have hmm := @run_makeMap Tryz.prog
      have ha : Gr wr (wr.alloc (.map #[] 0)) := (Gr.refl wr).alloc (Nat.le_refl _) _
      have hdA := hd.out.gr ha
      have hc1 := hdA.blk.cell 1
      have hf1 := hdA.blk.frozen 1
      simp at hc1
      have hne := hd.out.neM
      have HB := Lib.hid (hdA.blk.set 1 (.map (some wr.heap.size)))
      have hblt := hd.out.low b hd.out.ownB
      have hsz : ((wr.alloc (.map #[] 0)).setCell ⟨b, 1, none⟩ (.map (some wr.heap.size))).heap.size = wr.heap.size + 1 := by simp [World.setCell]
      have hst : ∀ j, j ≠ b → ((wr.alloc (.map #[] 0)).setCell ⟨b, 1, none⟩ (.map (some wr.heap.size))).heap[j]? = (wr.alloc (.map #[] 0)).heap[j]? := fun j hj => Below.heap_setCell _ _ _ j hj
      have HF : Hid (DkAt ((wr.alloc (.map #[] 0)).setCell ⟨b, 1, none⟩ (.map (some wr.heap.size))) (fun j => F j ∨ j = wr.heap.size) b (.slice (some ⟨gl, 0, none⟩) N cl) wr.heap.size (fun _ => nilS) s.barrier) := Lib.hid (by
        have hl : s.barrier.ls.length = s.ls.length := by simp [St.barrier]
        obtain ⟨D, n, ho, _⟩ := hdA.map
        refine ⟨⟨by rw [hl]; exact HD2.out.ok.pos, by rw [hl]; exact HD2.out.ok.most, fun _ _ => rfl, fun _ => Nat.zero_le _, HD2.out.ok.lo, HD2.out.ok.hi⟩, ?_, hdA.ls.stays fun g hg => hst g (row_ne hdA.ls hg hdA.blk ho).1, ?_, fun _ => Row.empty _, (fun i j g h => by cases h), (fun i g h => by cases h), .inl hd.out.ownB, .inr rfl, fun g hg => .inl (hd.out.ownL g hg), (fun i g h => by cases h), ?_⟩
        · have := HB.out
          simpa [St.barrier] using this
        · exact Loose.made.stays (hst _ (by omega))
        · rintro j (hj | rfl)
          · rw [hsz]; have := hd.out.low j hj; omega
          · rw [hsz]; omega)
      have HUf : Hid (Upd F (fun j => F j ∨ j = wr.heap.size) w2 ((wr.alloc (.map #[] 0)).setCell ⟨b, 1, none⟩ (.map (some wr.heap.size)))) := Lib.hid (by
        have h1 := (hu.out.trans (Upd.of_gr ha)).trans (upd_cell (i := 1) hd.out.ownB (.map (some wr.heap.size)))
        refine ⟨h1.os, h1.tape, h1.output, h1.size, h1.block, fun j hj => ?_⟩
        rcases hj with hj | rfl
        · exact .inl hj
        · exact .inr hu.out.size)
      have HU := Lib.hid (HU2.out.trans HUf.out)
      clear hd ha hdA hne HB hblt hsz hst hu HUf
      go_wp2
      go_ret
      exact ⟨_, rfl, ⟨_, _, _, _, rfl, HF.out⟩, HU.out⟩

end Go.Proofs.YtaemmknijmhnoaaGreat

/-
  A region that draws its order, told slot by slot; what is said of the world may hang on which operations have come up. Over whatever program.
-/
namespace Go.Proofs.YtaemmknijmhnoaaGreat
namespace Flow
open Go

section
variable {P : Program} {ops : Array Oper} {Q : Exit → Act → World → Prop} {md : Region.Mode}

def upd (ℓ : Nat → Bool) (i : Nat) : Nat → Bool := fun j => if j = i then true else ℓ j
theorem upd_same (ℓ : Nat → Bool) (i : Nat) : upd ℓ i i = true := if_pos rfl
theorem upd_other (ℓ : Nat → Bool) {i j : Nat} (h : j ≠ i) : upd ℓ i j = ℓ j := if_neg h
/-- One operation: ℓ tells which have come up ahead of it. -/
def StepS (P : Program) (md : Region.Mode) (ops : Array Oper) (Q : Exit → Act → World → Prop) (Sl : Nat → Value → World → Prop) (Inv : (Nat → Bool) → World → Prop) (G : World → World → Prop) (a0 : Act) (fl i : Nat) (o : Oper) : Prop :=
  ∀ (ℓ : Nat → Bool) a w, Same ops a0 a → ℓ i = false → (∀ j, j ≠ i → waits md ops i fl j = true → ℓ j = false) → (∀ j, j ≠ i → waits md ops j fl i = true → ℓ j = true) → Inv ℓ w → (∀ d, (reads md ops o).contains d = true → Sl d (a.tmps.getD d undef) w) →
    ∀ K : Act → World → Prop, (∀ v w', G w w' → Inv (upd ℓ i) w' → (∀ d, o.dst = some d → Sl d v w') → K (a.put o.dst v) w') →
      if Region.wanted o (yielded ops a.tmps) = true then o.wp P a w K Q else K (a.put o.dst undef) w
def StepsS (P : Program) (md : Region.Mode) (ops : Array Oper) (Q : Exit → Act → World → Prop) (Sl : Nat → Value → World → Prop) (Inv : (Nat → Bool) → World → Prop) (G : Nat → World → World → Prop) (a0 : Act) (fl : Nat) : Nat → List Oper → Prop
  | _, [] => True
  | i, o :: r => StepS P md ops Q Sl Inv (G i) a0 fl i o ∧ StepsS P md ops Q Sl Inv G a0 fl (i + 1) r
theorem StepsS.cons {Sl : Nat → Value → World → Prop} {Inv : (Nat → Bool) → World → Prop} {G : Nat → World → World → Prop} {a0 : Act} {fl i : Nat} {o : Oper} {r : List Oper} (h : StepS P md ops Q Sl Inv (G i) a0 fl i o) (k : StepsS P md ops Q Sl Inv G a0 fl (i + 1) r) : StepsS P md ops Q Sl Inv G a0 fl i (o :: r) := ⟨h, k⟩
theorem StepsS.at {Sl : Nat → Value → World → Prop} {Inv : (Nat → Bool) → World → Prop} {G : Nat → World → World → Prop} {a0 : Act} {fl : Nat} : ∀ {l : List Oper} {i : Nat}, StepsS P md ops Q Sl Inv G a0 fl i l → ∀ (j : Nat) (o : Oper), l[j]? = some o → StepS P md ops Q Sl Inv (G (i + j)) a0 fl (i + j) o
  | [], _, _, _, _, h => by simp at h
  | x :: r, i, h, 0, o, ho => by
    simp only [List.getElem?_cons_zero, Option.some.injEq] at ho
    subst ho
    exact h.1
  | x :: r, i, h, j + 1, o, ho => by
    simp only [List.getElem?_cons_succ] at ho
    have := StepsS.at h.2 j o ho
    rwa [show i + 1 + j = i + (j + 1) by omega] at this

variable {Sl : Nat → Value → World → Prop} {Inv : (Nat → Bool) → World → Prop} {G : Nat → World → World → Prop} {a0 : Act}

theorem walkS (keep : List Nat) (fl : Nat) (hmono : ∀ i d v w w', bears2 md ops keep fl i d = true → Sl d v w → G i w w' → Sl d v w') (hf : fineB md a0.tmps.size ops = true) (hs : ∀ (i : Nat) (o : Oper), ops[i]? = some o → StepS P md ops Q Sl Inv (G i) a0 fl i o)
    (hfin : ∀ a w ℓ, Same ops a0 a → (∀ i, i < ops.size → ℓ i = true) → Inv ℓ w → (∀ (i : Nat) (o : Oper) d, ops[i]? = some o → o.dst = some d → d ∈ keep → Sl d (a.tmps.getD d undef) w) → Q .normal a w) :
    ∀ (fuel : Nat) (listed : Array Bool) (a : Act) (w : World), left listed ops.size ≤ fuel → listed.size = ops.size → Closed md ops listed → Same ops a0 a → Inv (fun j => listed.getD j true) w →
      (∀ (i : Nat) (o : Oper) d, ops[i]? = some o → listed.getD i true = true → o.dst = some d → (d ∈ keep ∨ ∃ (j : Nat) (oj : Oper), ops[j]? = some oj ∧ listed.getD j true = false ∧ d ∈ reads md ops oj) → Sl d (a.tmps.getD d undef) w) → wpAny P md ops Q fuel listed a w := by
  have ends : ∀ (listed : Array Bool) (a : Act) (w : World), (∀ i, i < ops.size → listed.getD i true = true) → Same ops a0 a → Inv (fun j => listed.getD j true) w →
      (∀ (i : Nat) (o : Oper) d, ops[i]? = some o → listed.getD i true = true → o.dst = some d → (d ∈ keep ∨ ∃ (j : Nat) (oj : Oper), ops[j]? = some oj ∧ listed.getD j true = false ∧ d ∈ reads md ops oj) → Sl d (a.tmps.getD d undef) w) → Q .normal a w := fun listed a w hl hsame hinv hsl =>
    hfin a w _ hsame hl hinv fun i o d ho hd hk => hsl i o d ho (hl i (Array.getElem?_eq_some_iff.1 ho).1) hd (.inl hk)
  have alls : ∀ listed : Array Bool, listed.size = ops.size → Region.ready md ops listed = [] → ∀ i, i < ops.size → listed.getD i true = true := by
    intro listed hsz hr i
    induction i using Nat.strongRecOn with
    | _ i ih =>
      intro hi
      cases hg : listed.getD i true with
      | true => rfl
      | false =>
        exfalso
        have : i ∈ Region.ready md ops listed := mem_ready.2 ⟨hg, ops[i], Array.getElem?_eq_getElem hi, fun e he hbd => by
          have hlt := fineB_down hf (Array.getElem?_eq_getElem hi) e he hbd
          have h1 := ih e.on hlt (by omega)
          have h2 : e.on < listed.size := by omega
          simp only [Array.getD_eq_getD_getElem?, Array.getElem?_eq_getElem h2, Option.getD_some] at h1 ⊢
          exact h1⟩
        rw [hr] at this
        cases this
  intro fuel
  induction fuel with
  | zero =>
    intro listed a w hl hsz hcl hsame hinv hsl
    have hall2 := left_zero (listed := listed) (n := ops.size) (by omega)
    refine ⟨?_, ends listed a w hall2 hsame hinv hsl⟩
    cases hr : Region.ready md ops listed with
    | nil => rfl
    | cons j r =>
      have hj : j ∈ Region.ready md ops listed := by rw [hr]; exact List.mem_cons_self ..
      obtain ⟨hun, o, ho, _⟩ := mem_ready.1 hj
      rw [hall2 j (Array.getElem?_eq_some_iff.1 ho).1] at hun
      cases hun
  | succ fuel ih =>
    intro listed a w hl hsz hcl hsame hinv hsl
    refine ⟨fun hr => ends listed a w (alls listed hsz hr) hsame hinv hsl, fun i hi => ?_⟩
    obtain ⟨hun, o, ho, hdep⟩ := mem_ready.1 hi
    have hib : i < ops.size := (Array.getElem?_eq_some_iff.1 ho).1
    have flip : ∀ j, j < ops.size → listed.getD j false = true → listed.getD j true = true := fun j hj h => by
      have h2 : j < listed.size := by omega
      simp only [Array.getD_eq_getD_getElem?, Array.getElem?_eq_getElem h2, Option.getD_some] at h ⊢
      exact h
    have anc : ∀ j, waits md ops j fl i = true → j ≠ i → listed.getD j true = true := fun j hw hne => by
      cases fl with
      | zero => exact absurd (by simpa [waits] using hw) hne
      | succ f =>
        simp only [waits, Bool.or_eq_true] at hw
        rcases hw with hw | hw
        · exact absurd (by simpa using hw) hne
        · rw [ho] at hw
          obtain ⟨k, hk, h2⟩ := Array.any_eq_true.1 hw
          simp only [Bool.and_eq_true] at h2
          have hmem := Array.getElem_mem hk
          have hei := fineB_down hf ho _ hmem h2.1
          exact waits_listed hcl f _ h2.2 (flip _ (by omega) (hdep _ hmem h2.1))
    refine wpOp_step ho fun K hK => hs i o ho (fun j => listed.getD j true) a w hsame hun (fun j hne hw => ?_) (fun j hne hw => anc j hw hne) hinv ?_ K ?_
    · cases hlj : listed.getD j true with
      | false => rfl
      | true => rw [waits_listed hcl fl j hw hlj] at hun; cases hun
    · intro d hd
      have hd' : d ∈ reads md ops o := by simpa using hd
      obtain ⟨e, he, hed⟩ := List.mem_filterMap.1 hd'
      obtain ⟨he1, he3⟩ := List.mem_filter.1 he
      have he2 : Region.binds md e = true := by simp only [Bool.and_eq_true] at he3; exact he3.1
      cases hoe : ops[e.on]? with
      | none => rw [hoe] at hed; cases hed
      | some oe =>
        rw [hoe] at hed
        have hl1 := hdep e (by simpa using he1) he2
        exact hsl e.on oe d hoe (flip _ (Array.getElem?_eq_some_iff.1 hoe).1 hl1) hed (.inr ⟨i, o, ho, hun, hd'⟩)
    · intro v w' hg hinv' hv
      have hset : ∀ j, listed.getD j true = true → (listed.setIfInBounds i true).getD j true = true := fun j h => by
        by_cases hji : i = j
        · subst hji
          have : i < listed.size := by omega
          simp [this]
        · rw [getD_set_ne true hji]; exact h
      refine hK _ _ (ih (listed.setIfInBounds i true) (a.put o.dst v) w' ?_ (by simpa using hsz) ?_ ⟨(put_defers ..).trans hsame.defers, (put_size ..).trans hsame.size, fun d hd => ?_⟩ ?_ ?_)
      · have := left_less hun hib; omega
      · intro j oj hoj hlj e he hb
        by_cases hji : i = j
        · subst hji
          rw [ho] at hoj
          cases hoj
          have hei : e.on < ops.size := by have := fineB_down hf ho e he hb; omega
          exact hset _ (flip _ hei (hdep e he hb))
        · rw [getD_set_ne true hji] at hlj
          exact hset _ (hcl j oj hoj hlj e he hb)
      · rw [getD_put_other (hd i o ho)]; exact hsame.old d hd
      · have e : (fun j => (listed.setIfInBounds i true).getD j true) = upd (fun j => listed.getD j true) i := by
          funext j
          unfold upd
          by_cases hji : j = i
          · subst hji
            have : j < listed.size := by omega
            simp [this]
          · rw [if_neg hji, getD_set_ne true (Ne.symm hji)]
        rw [e]
        exact hinv'
      · intro j oj d hoj hlj hdj hlive
        by_cases hji : j = i
        · subst hji
          rw [ho] at hoj
          cases hoj
          have hds := (fineB_slot hf ho hdj).1
          rw [hdj, getD_put_same (by rw [hsame.size]; exact hds)]
          exact hv d hdj
        · rw [getD_put_other (fun e => hji (fineB_one hf hoj ho hdj e))]
          rw [getD_set_ne true (Ne.symm hji)] at hlj
          have hjb : j < ops.size := (Array.getElem?_eq_some_iff.1 hoj).1
          refine hmono i d _ _ _ ?_ (hsl j oj d hoj hlj hdj ?_) hg
          · unfold bears2
            rw [Bool.and_eq_true]
            constructor
            · refine List.any_eq_true.2 ⟨j, List.mem_range.2 hjb, ?_⟩
              rw [hoj]
              have hnw : waits md ops i fl j = false := by
                cases hw : waits md ops i fl j with
                | false => rfl
                | true => rw [waits_listed hcl fl j hw hlj] at hun; cases hun
              simp [hdj, hnw]
            · rw [Bool.or_eq_true]
              rcases hlive with hk | ⟨j', oj', hoj', hl', hn'⟩
              · exact .inl (by simpa using hk)
              · right
                have hne : j' ≠ i := by
                  rintro rfl
                  have : j' < listed.size := by omega
                  simp [this] at hl'
                have hnw2 : waits md ops j' fl i = false := by
                  cases hw : waits md ops j' fl i with
                  | false => rfl
                  | true =>
                    exfalso
                    have hl3 := anc j' hw hne
                    have hlj : listed.getD j' true = false := by
                      cases hlj' : listed.getD j' true with
                      | false => rfl
                      | true => rw [hset j' hlj'] at hl'; cases hl'
                    rw [hl3] at hlj
                    cases hlj
                refine List.any_eq_true.2 ⟨j', List.mem_range.2 (Array.getElem?_eq_some_iff.1 hoj').1, ?_⟩
                rw [hoj']
                simp [hne, hn', hnw2]
          · rcases hlive with hk | ⟨j', oj', hoj', hl', hn'⟩
            · exact .inl hk
            · refine .inr ⟨j', oj', hoj', ?_, hn'⟩
              cases hlj' : listed.getD j' true with
              | false => rfl
              | true => rw [hset j' hlj'] at hl'; cases hl'

/-- **The law**, with a stage of the region in the world's invariant. -/
theorem regionS {id : Nat} {w : World} (keep : List Nat) (fl : Nat) (Sl : Nat → Value → World → Prop) (Inv : (Nat → Bool) → World → Prop) (G : Nat → World → World → Prop) (hm : P.follows .mixedOrders = true) (hf : fineB .any a0.tmps.size ops = true)
    (hmono : ∀ i d v w w', bears2 .any ops keep fl i d = true → Sl d v w → G i w w' → Sl d v w') (h0 : Inv (fun j => (Array.replicate ops.size false).getD j true) w.drew) (hs : StepsS P .any ops Q Sl Inv G a0 fl 0 ops.toList)
    (hfin : ∀ a w ℓ, Same ops a0 a → (∀ i, i < ops.size → ℓ i = true) → Inv ℓ w → (∀ (i : Nat) (o : Oper) d, ops[i]? = some o → o.dst = some d → d ∈ keep → Sl d (a.tmps.getD d undef) w) → Q .normal a w) :
    (Code.region id ops true).wp P Q a0 w := by
  refine wp_region_any hm ?_
  have hun : ∀ (i : Nat) (o : Oper), ops[i]? = some o → (Array.replicate ops.size false).getD i true = true → False := fun i o ho hl => by
    have hi : i < ops.size := (Array.getElem?_eq_some_iff.1 ho).1
    simp [hi] at hl
  refine walkS keep fl hmono hf (fun i o ho => ?_) hfin _ _ a0 w.drew ?_ (by simp) (fun j o ho hl => (hun j o ho hl).elim) ⟨rfl, rfl, fun _ _ => rfl⟩ h0 (fun i o d ho hl _ _ => (hun i o ho hl).elim)
  · have := hs.at i o (by simpa using ho)
    rwa [Nat.zero_add] at this
  · have : ∀ n, left (Array.replicate ops.size false) n ≤ n := by
      intro n
      induction n with
      | zero => exact Nat.le_refl _
      | succ n ih => simp only [left]; split <;> omega
    exact this _


end
end Flow
end Go.Proofs.YtaemmknijmhnoaaGreat

namespace Go.Proofs.YtaemmknijmhnoaaGreat
open Go.RowKit Go.Maps

end Go.Proofs.YtaemmknijmhnoaaGreat

/-
  The document's disk: what it holds, said of a world.
-/
namespace Go.Proofs.YtaemmknijmhnoaaGreat
open Go.RowKit Go.Maps

end Go.Proofs.YtaemmknijmhnoaaGreat

/-
  The document's disk: a sector is read.
-/
namespace Go.Proofs.YtaemmknijmhnoaaGreat
open Go.RowKit Go.Maps

end Go.Proofs.YtaemmknijmhnoaaGreat

/-
  The document's disk: a barrier.
-/
namespace Go.Proofs.YtaemmknijmhnoaaGreat
open Go.RowKit Go.Maps

end Go.Proofs.YtaemmknijmhnoaaGreat

/-
  The document's disk: a write.
-/
namespace Go.Proofs.YtaemmknijmhnoaaGreat
open Go.RowKit Go.Maps

end Go.Proofs.YtaemmknijmhnoaaGreat

/-
  The document's disk: made of sectors.
-/
namespace Go.Proofs.YtaemmknijmhnoaaGreat
open Go.RowKit Go.Maps

end Go.Proofs.YtaemmknijmhnoaaGreat

/-
  The document's disk: what lies loose.
-/
namespace Go.Proofs.YtaemmknijmhnoaaGreat
open Go.RowKit Go.Maps

abbrev TNI : TypeId := 55
theorem info_int : (Tryz.prog.info? TI).map (fun i => (i.zero, i.size, i.bytes)) = some (some (.int .i64 0), 1, 8) := by kernel_rfl
end Go.Proofs.YtaemmknijmhnoaaGreat

/-
  A region that draws its order, told slot by slot, whose last operation sets a variable that its first ones read. Over whatever program.
-/
namespace Go.Proofs.YtaemmknijmhnoaaGreat
namespace Flow
open Go

section
variable {P : Program} {ops : Array Oper} {Q : Exit → Act → World → Prop} {md : Region.Mode}

variable {Sl : Nat → Value → World → Prop} {Inv Fin Ear : World → Prop} {G : Nat → World → World → Prop} {a0 : Act}

end
end Flow
end Go.Proofs.YtaemmknijmhnoaaGreat

/-
  The document's disk: behind a loss of power.
-/
namespace Go.Proofs.YtaemmknijmhnoaaGreat
open Go.RowKit Go.Maps

end Go.Proofs.YtaemmknijmhnoaaGreat

/-
  Both disks, side by side; an act.
-/
namespace Go.Proofs.YtaemmknijmhnoaaGreat
open Go.RowKit Go.Maps

theorem Upd.same {F : Nat → Prop} (w : World) : Upd F F w w := Upd.of_gr (Gr.refl w)
theorem Upd.pre {F F' : Nat → Prop} {w w1 w2 : World} (g : Gr w w1) (u : Upd F F' w1 w2) : Upd F F' w w2 := (Upd.of_gr g).trans u

end Go.Proofs.YtaemmknijmhnoaaGreat

