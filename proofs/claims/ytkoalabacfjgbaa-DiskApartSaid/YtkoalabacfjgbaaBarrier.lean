
import Derived.Test.YtkoalabacfjgbaaCrashWalk
namespace Go.Proofs.Ytkoalabacfjgbaa
open Go.RowKit Go.Maps

/-- Behind k rounds of a barrier. -/
def St.part (s : St) (k : Nat) : List Sec := (s.loose.take k).foldl (fun l i => l.set i (s.nw i)) s.ls
def St.barrier (s : St) : St := { s with ls := (List.range s.ls.length).map s.nw, t := fun _ => [] }
theorem St.part_len (s : St) (k : Nat) : (s.part k).length = s.ls.length := (fold_set _ _ _).1
theorem St.part_succ {s : St} {k i : Nat} (h : s.loose[k]? = some i) : s.part (k + 1) = (s.part k).set i (s.nw i) := by
  unfold St.part
  obtain ⟨hk, e⟩ := List.getElem?_eq_some_iff.1 h
  rw [List.take_succ_eq_append_getElem hk, List.foldl_append, e]
  rfl
theorem St.part_all (s : St) : s.part s.loose.length = (List.range s.ls.length).map s.nw := by
  apply List.ext_getElem?
  intro j
  by_cases hj : j < s.ls.length
  · have h1 : j < (s.part s.loose.length).length := by rw [s.part_len]; exact hj
    have h2 := (fold_set s.nw (s.loose.take s.loose.length) s.ls).2 j hj
    rw [List.take_length] at h2
    have h3 : (s.part s.loose.length).getD j Sec.zero = s.nw j := by
      unfold St.part
      rw [List.take_length, h2]
      split
      · rfl
      · rename_i hn
        have : s.t j = [] := by
          cases ht : s.t j with
          | nil => rfl
          | cons x r => exact absurd (St.mem_loose.2 ⟨hj, by rw [ht]; simp⟩) hn
        rw [nw_none this]
    rw [List.getElem?_eq_getElem h1]
    simp only [List.getD, List.getElem?_eq_getElem h1, Option.getD_some] at h3
    rw [h3]
    simp [hj]
  · rw [List.getElem?_eq_none (by rw [s.part_len]; omega), List.getElem?_eq_none (by simp; omega)]
/-- What is written last does not hang on what lasts. -/
theorem nw_other {s : St} {i : Nat} (h : s.t i ≠ []) (l : List Sec) : ({ s with ls := l } : St).nw i = s.nw i := by
  unfold St.nw
  cases ht : s.t i with
  | nil => exact absurd ht h
  | cons x r => rw [List.getLastD_cons, List.getLastD_cons]

/-- One of the sectors that last is set. -/
theorem DkAt.putL {w : World} {F : Nat → Prop} {b gl c : Nat} {m : Nat} {L : Nat → Value} {s : St} {n : Nat} (h : DkAt w F b (.slice (some ⟨gl, 0, none⟩) n c) m L s) (i : Nat) (hi : i < s.ls.length) (x : Sec) :
    DkAt (w.setCells gl (i * 256) x.cells) F b (.slice (some ⟨gl, 0, none⟩) n c) m L { s with ls := s.ls.set i x } ∧ Upd F F w (w.setCells gl (i * 256) x.cells) := by
  obtain ⟨D, k, ho, r⟩ := h.map
  have hFl : F gl := h.ownL gl rfl
  have hg := grown_setCells w gl (i * 256) x.cells
  have hne := row_ne h.ls (g := gl) rfl h.blk ho
  have e : ∀ j, F j → j ≠ gl → (w.setCells gl (i * 256) x.cells).heap[j]? = w.heap[j]? := fun j hj hn => hg.block j (h.low j hj) (fun e => hn (by cases e; rfl))
  have hl : (s.ls.set i x).length = s.ls.length := List.length_set
  refine ⟨⟨⟨by show 0 < (s.ls.set i x).length; rw [hl]; exact h.ok.pos, by show (s.ls.set i x).length ≤ _; rw [hl]; exact h.ok.most, fun j hj => h.ok.out j (by have : (s.ls.set i x).length ≤ j := hj; omega), h.ok.less, h.ok.lo, h.ok.hi⟩, h.blk.stays (e b h.ownB (fun e => hne.1 e.symm)), h.ls.put i hi x, ?_, fun j => (h.rows j).stays fun g hg => e g (h.ownR j g hg) (fun e => h.apart0 j g hg (by rw [e]; rfl)), h.apart, h.apart0, h.ownB, h.ownM, h.ownL, h.ownR, fun j hj => Nat.lt_of_lt_of_le (h.low j hj) hg.size⟩, ?_⟩
  · show Loose _ m _ (s.ls.set i x).length L s.t
    rw [hl]
    exact h.map.stays (e m h.ownM (fun e => hne.2 e.symm))
  · exact ⟨hg.os, hg.tape, hg.output, hg.size, fun j hj hF => hg.block j hj (fun e => hF (by cases e; exact hFl)), fun j hj => .inl hj⟩

/-- What the region's slots hold. -/
def Sb (b gl i : Nat) (lv : Value) (x : Sec) (d : Nat) (v : Value) (_ : World) : Prop :=
  match d with
  | 18 | 19 | 23 => v = .pointer (some ⟨b, 0, none⟩)
  | 20 => v = .pointer (some ⟨b, 0, none⟩)
  | 21 => v = lv
  | 22 | 24 => v = .int .i64 (i : Int)
  | 25 => v = .agg (sec x)
  | 26 => v = .pointer (some ⟨gl, i * 256, none⟩)
  | _ => True
def Fb (W0 : World) (gl i : Nat) (x : Sec) (w : World) : Prop := ∃ w1, Gr W0 w1 ∧ w = w1.setCells gl (i * 256) x.cells
theorem wp_store_at {op : Oper} {a : Act} {w : World} {K : Act → World → Prop} {Q : Exit → Act → World → Prop} (x y : Operand) (ho : op.op = .store TS x y) {b o : Nat} {s : Sec} (ht : w.there b o 256) (hx : a.eval x = .pointer (some ⟨b, o, none⟩)) (hy : a.eval y = .agg (sec s))
    (h : K (a.put op.dst undef) (w.setCells b o s.cells)) : op.wp Try.prog a w K Q :=
  wp_store_mid TS x y ho b o (sec s) hx hy (by rw [sec_size]; exact ht) (by rw [sec_size]; exact size_sec) (sec_one s) h

set_option maxRecDepth 100000 in
theorem Barrier_dead {F : Nat → Prop} {p : Value} {s : St} (w : World) (h : Dk w F p s) (hd : s.dead = true) : Calls Try.prog 29 #[p] w fun e w' => e = .returned (.int .i64 8) ∧ w = w' := by
  obtain ⟨b, lv, m, L, rfl, h⟩ := h
  have HM := Lib.hid (missing_no w h)
  obtain ⟨h0, h1, h2, h3, h4⟩ := h.cells
  rw [hd] at h3
  clear h h0 h1 h2 h4 hd
  go_enter Try.func29, Try.ntmps29
  go_wp2_with fail
  refine HM.out.mono ?_
  rintro e w1 ⟨rfl, rfl⟩
  go_wp2
  go_ret
  exact ⟨rfl, rfl⟩

set_option maxRecDepth 100000 in
set_option maxHeartbeats 4000000 in
theorem Barrier_yes {F : Nat → Prop} {p : Value} {s : St} (w : World) (h : Dk w F p s) (hw : s.writes ≤ 1000000000) (hd : s.dead = false) : Calls Try.prog 29 #[p] w fun e w' => Chg F p s.barrier (.int .i64 0) w e w' := by
  obtain ⟨b, lv, m, L, rfl, h⟩ := h
  have HM := Lib.hid (missing_no w h)
  have HD := Lib.hid h
  have HLo := Lib.hid (Loose_any w ⟨_, _, _, _, rfl, h⟩ hw)
  obtain ⟨h0, h1, h2, h3, h4⟩ := h.cells
  rw [hd] at h3
  have HDd := Lib.hid hd
  clear h h0 h1 h2 h4 hd
  go_enter Try.func29, Try.ntmps29
  go_wp2_with fail
  refine HM.out.mono ?_
  rintro e w1 ⟨rfl, rfl⟩
  go_wp2_with fail
  refine HLo.out.mono ?_
  rintro e w2 ⟨lo, rfl, hi, hg⟩
  obtain ⟨p2, c2, rfl, hfar, hnums⟩ := Ints.nums hi (St.loose_small HD.out.ok)
  have HD2 := Lib.hid (HD.out.gr hg)
  have HU2 := Lib.hid (Upd.of_gr (F := F) hg)
  have HI := Lib.hid hnums
  have HFar : Hid (∀ a, p2 = some a → ¬ F a.block) := Lib.hid fun a ha hF => by
    subst ha
    have := (hfar a.block rfl).1
    have := HD.out.low _ hF
    omega
  obtain ⟨K, hK⟩ : ∃ K, K = s.loose.length := ⟨_, rfl⟩
  have hKs : K ≤ 65536 := by rw [hK]; have := s.loose_len; have := HD2.out.ok.most; omega
  rw [← hK] at HI
  have HK := Lib.hid hK
  obtain ⟨gl, cl, hv⟩ := HD2.out.lv
  rw [← hK]
  obtain ⟨N, hN⟩ : ∃ N, N = s.ls.length := ⟨_, rfl⟩
  rw [← hN] at hv
  have HN := Lib.hid hN
  subst hv
  clear hi hfar hnums hg hK hN HM h3 HLo
  go_wp2_with fail
  go_loopw [14] (fun i wr => ∃ k : Nat, k ≤ K ∧ i = .int .i64 k ∧ Hid (DkAt wr F b (.slice (some ⟨gl, 0, none⟩) N cl) m L { s with ls := s.part k }) ∧ Hid (Upd F F w2 wr)) (fun i _ => K - (intOf i).toNat)
  case atStart => exact ⟨0, Nat.zero_le _, rfl, HD2.out, Upd.of_gr (Gr.refl _)⟩
  case round =>
    obtain ⟨k, hk, rfl, hd, hu⟩ := hrel
    by_cases hlt : k < K
    · obtain ⟨b2, o2, rfl, hc2⟩ := (HI.out.stays (w' := wr) (fun a ha hn => hu.out.block _ (HI.out.lt ha hn) (fun e => HFar.out a ha e))).lies (by omega)
      have hkk : k < s.loose.length := by rw [← HK.out]; exact hlt
      obtain ⟨i, hi⟩ : ∃ i, s.loose[k]? = some i := ⟨_, List.getElem?_eq_getElem hkk⟩
      have hci := hc2 k hlt
      have ei : (s.loose.map fun (x : Nat) => (x : Int)).getD k 0 = (i : Int) := by simp [List.getD, hi]
      rw [ei] at hci
      obtain ⟨hrank, hiN, hti⟩ := St.loose_at hi
      have hiP : i < (s.part k).length := by rw [s.part_len]; exact hiN
      have HX : Hid (({ s with ls := s.part k } : St).nw i = s.nw i) := Lib.hid (nw_other hti _)
      have HS := Lib.hid (St.part_succ hi)
      have HIP : Hid (i < (s.part k).length) := Lib.hid hiP
      have hiN2 : i < N := by rw [HN.out]; exact hiN
      have HDr := hd
      have HUr := hu
      clear hc2 ei hrank hti hkk hi hiN hiP hd hu
      go_wp2_with fail
      have HCell : Hid (∀ W, Gr wr W → W.cell? ⟨b, 0, none⟩ = some (.slice (some ⟨gl, 0, none⟩) N cl)) := Lib.hid fun W h => (HDr.out.gr h).cells.1
      have HNw : Hid (∀ W, Gr wr W → Calls Try.prog 35 #[.pointer (some ⟨b, 0, none⟩), .int .i64 (i : Int)] W fun e w' => e = .returned (.agg (sec (s.nw i))) ∧ Gr W w') := Lib.hid fun W h => by
        have := newest_any W (HDr.out.gr h) i HIP.out
        rw [HX.out] at this
        exact this
      have HTh : Hid (∀ W, Gr wr W → W.there gl (i * 256) 256) := Lib.hid fun W h => (HDr.out.gr h).ls.there i HIP.out
      refine Flow.regionZ 9 9 (by kernel_rfl) [] 12 (Sb b gl i (.slice (some ⟨gl, 0, none⟩) N cl) (s.nw i)) (Gr wr) (Fb wr gl i (s.nw i)) (fun _ => True) (fun _ _ _ => True) (by kernel_rfl) (by kernel_rfl) (by kernel_rfl) (fun _ _ _ _ _ _ h _ => h) ⟨rfl, rfl, rfl, Nat.le_refl _, fun _ _ => rfl⟩ True.intro ?steps ?fin
      case fin =>
        intro a W hfr hfin hsl
        clear hsl
        have e := Flow.frame hfr [18, 19, 20, 21, 22, 23, 24, 25, 26] (List.range 32) (by kernel_rfl) (by kernel_rfl)
        simp [List.range, List.range.loop] at e
        rw [e]
        clear e hfr
        obtain ⟨w1, hg1, rfl⟩ := hfin
        obtain ⟨hd1, hu1⟩ := (HDr.out.gr hg1).putL i HIP.out (s.nw i)
        have HD3 := Lib.hid hd1
        have HU3 := Lib.hid (HUr.out.trans ((Upd.of_gr hg1).trans hu1))
        clear hg1 hd1 hu1 HCell HNw HTh
        rename_i K2 hK2
        refine hK2 _ _ ?_
        go_wp2
        go_roundw
        case rel => exact ⟨k + 1, by omega, by go_num, by rw [HS.out]; exact HD3.out, HU3.out⟩
        case measure => simp [intOf]; omega
      case steps =>
        refine Flow.StepsZ.cons (fun a W hfr hinv hear hdep K hK => ?_) ?_
        · have s0 : a.tmps.getD 0 undef = .pointer (some ⟨b, 0, none⟩) := hfr.at 0 (by kernel_rfl)
          have t0 : a.tmps[0]?.getD undef = .pointer (some ⟨b, 0, none⟩) := by simpa using s0
          rw [if_pos (Flow.wanted_none rfl)]
          clear hfr hdep hear
          go_simp
          exact hK _ _ True.intro hinv (fun _ => True.intro) (fun d hd => by cases hd; rfl)
        refine Flow.StepsZ.cons (fun a W hfr hinv hear hdep K hK => ?_) ?_
        · have s18 : a.tmps.getD 18 undef = .pointer (some ⟨b, 0, none⟩) := hdep 18 (by kernel_rfl)
          have t18 : a.tmps[18]?.getD undef = .pointer (some ⟨b, 0, none⟩) := by simpa using s18
          rw [if_pos (Flow.wanted_none rfl)]
          clear hfr hdep hear
          go_simp
          exact hK _ _ True.intro hinv (fun _ => True.intro) (fun d hd => by cases hd; rfl)
        refine Flow.StepsZ.cons (fun a W hfr hinv hear hdep K hK => ?_) ?_
        · have s19 : a.tmps.getD 19 undef = .pointer (some ⟨b, 0, none⟩) := hdep 19 (by kernel_rfl)
          have t19 : a.tmps[19]?.getD undef = .pointer (some ⟨b, 0, none⟩) := by simpa using s19
          rw [if_pos (Flow.wanted_none rfl)]
          clear hfr hdep hear
          go_simp
          exact hK _ _ True.intro hinv (fun _ => True.intro) (fun d hd => by cases hd; rfl)
        refine Flow.StepsZ.cons (fun a W hfr hinv hear hdep K hK => ?_) ?_
        · have s20 : a.tmps.getD 20 undef = .pointer (some ⟨b, 0, none⟩) := hdep 20 (by kernel_rfl)
          have t20 : a.tmps[20]?.getD undef = .pointer (some ⟨b, 0, none⟩) := by simpa using s20
          have hc := HCell.out W hinv
          rw [if_pos (Flow.wanted_none rfl)]
          clear hfr hdep hear
          go_simp
          exact hK _ _ True.intro hinv (fun _ => True.intro) (fun d hd => by cases hd; rfl)
        refine Flow.StepsZ.cons (fun a W hfr hinv hear hdep K hK => ?_) ?_
        · have s4 : a.tmps.getD 4 undef = .int .i64 (i : Int) := hfr.at 4 (by kernel_rfl)
          have t4 : a.tmps[4]?.getD undef = .int .i64 (i : Int) := by simpa using s4
          rw [if_pos (Flow.wanted_none rfl)]
          clear hfr hdep hear
          go_simp
          exact hK _ _ True.intro hinv (fun _ => True.intro) (fun d hd => by cases hd; rfl)
        refine Flow.StepsZ.cons (fun a W hfr hinv hear hdep K hK => ?_) ?_
        · have s0 : a.tmps.getD 0 undef = .pointer (some ⟨b, 0, none⟩) := hfr.at 0 (by kernel_rfl)
          have t0 : a.tmps[0]?.getD undef = .pointer (some ⟨b, 0, none⟩) := by simpa using s0
          rw [if_pos (Flow.wanted_none rfl)]
          clear hfr hdep hear
          go_simp
          exact hK _ _ True.intro hinv (fun _ => True.intro) (fun d hd => by cases hd; rfl)
        refine Flow.StepsZ.cons (fun a W hfr hinv hear hdep K hK => ?_) ?_
        · have s4 : a.tmps.getD 4 undef = .int .i64 (i : Int) := hfr.at 4 (by kernel_rfl)
          have t4 : a.tmps[4]?.getD undef = .int .i64 (i : Int) := by simpa using s4
          rw [if_pos (Flow.wanted_none rfl)]
          clear hfr hdep hear
          go_simp
          exact hK _ _ True.intro hinv (fun _ => True.intro) (fun d hd => by cases hd; rfl)
        refine Flow.StepsZ.cons (fun a W hfr hinv hear hdep K hK => ?_) ?_
        · have s23 : a.tmps.getD 23 undef = .pointer (some ⟨b, 0, none⟩) := hdep 23 (by kernel_rfl)
          have t23 : a.tmps[23]?.getD undef = .pointer (some ⟨b, 0, none⟩) := by simpa using s23
          have s24 : a.tmps.getD 24 undef = .int .i64 (i : Int) := hdep 24 (by kernel_rfl)
          have t24 : a.tmps[24]?.getD undef = .int .i64 (i : Int) := by simpa using s24
          rw [if_pos (Flow.wanted_none rfl)]
          clear hfr hdep
          go_simp
          refine (HNw.out W hinv).mono ?_
          rintro e W' ⟨rfl, g1⟩
          exact hK _ _ True.intro (Gr.trans hinv g1) (fun _ => True.intro) (fun d hd => by cases hd; rfl)
        refine Flow.StepsZ.cons (fun a W hfr hinv hear hdep K hK => ?_) ?_
        · have s21 : a.tmps.getD 21 undef = .slice (some ⟨gl, 0, none⟩) N cl := hdep 21 (by kernel_rfl)
          have t21 : a.tmps[21]?.getD undef = .slice (some ⟨gl, 0, none⟩) N cl := by simpa using s21
          have s22 : a.tmps.getD 22 undef = .int .i64 (i : Int) := hdep 22 (by kernel_rfl)
          have t22 : a.tmps[22]?.getD undef = .int .i64 (i : Int) := by simpa using s22
          rw [if_pos (Flow.wanted_none rfl)]
          clear hfr hdep hear
          go_simp
          exact hK _ _ True.intro hinv (fun _ => True.intro) (fun d hd => by cases hd; rfl)
        refine Flow.StepsZ.cons (fun a W hfr hinv hear hdep K hK => ?_) ?_
        · have s26 : a.tmps.getD 26 undef = .pointer (some ⟨gl, i * 256, none⟩) := hdep 26 (by kernel_rfl)
          have t26 : a.tmps[26]?.getD undef = .pointer (some ⟨gl, i * 256, none⟩) := by simpa using s26
          have s25 : a.tmps.getD 25 undef = .agg (sec (s.nw i)) := hdep 25 (by kernel_rfl)
          have t25 : a.tmps[25]?.getD undef = .agg (sec (s.nw i)) := by simpa using s25
          rw [if_pos (Flow.wanted_none rfl)]
          clear hfr hdep
          refine wp_store_at (.tmp 26) (.tmp 25) rfl (HTh.out W hinv) (by simpa [Act.eval] using s26) (by simpa [Act.eval] using s25) ?_
          exact hK _ _ True.intro ⟨W, hinv, rfl⟩ True.intro (fun d hd => by cases hd)
        exact True.intro
    · obtain rfl : k = K := by omega
      rw [HK.out, s.part_all] at hd
      have hmm := @run_makeMap Try.prog
      have ha : Gr wr (wr.alloc (.map #[] 0)) := (Gr.refl wr).alloc (Nat.le_refl _) _
      have hdA := hd.out.gr ha
      have hc1 := hdA.blk.cell 1
      have hf1 := hdA.blk.frozen 1
      simp at hc1
      have hne := hd.out.neM
      have HB := Lib.hid (hdA.blk.set 1 (.map (some wr.heap.size)))
      have hblt := hd.out.low b hd.out.ownB
      have hsz : ((wr.alloc (.map #[] 0)).setCell ⟨b, 1, none⟩ (.map (some wr.heap.size))).heap.size = wr.heap.size + 1 := by simp [World.setCell]
      have hst : ∀ j, j ≠ b → ((wr.alloc (.map #[] 0)).setCell ⟨b, 1, none⟩ (.map (some wr.heap.size))).heap[j]? = (wr.alloc (.map #[] 0)).heap[j]? := fun j hj => Below.heap_setCell _ _ _ j hj
      have HF : Hid (DkAt ((wr.alloc (.map #[] 0)).setCell ⟨b, 1, none⟩ (.map (some wr.heap.size))) (fun j => F j ∨ j = wr.heap.size) b (.slice (some ⟨gl, 0, none⟩) N cl) wr.heap.size (fun _ => nilS) s.barrier) := Lib.hid (by
        have hl : s.barrier.ls.length = s.ls.length := by simp [St.barrier]
        obtain ⟨D, n, ho, _⟩ := hdA.map
        refine ⟨⟨by rw [hl]; exact HD2.out.ok.pos, by rw [hl]; exact HD2.out.ok.most, fun _ _ => rfl, fun _ => Nat.zero_le _, HD2.out.ok.lo, HD2.out.ok.hi⟩, ?_, hdA.ls.stays fun g hg => hst g (row_ne hdA.ls hg hdA.blk ho).1, ?_, fun _ => Row.empty _, (fun i j g h => by cases h), (fun i g h => by cases h), .inl hd.out.ownB, .inr rfl, fun g hg => .inl (hd.out.ownL g hg), (fun i g h => by cases h), ?_⟩
        · have := HB.out
          simpa [St.barrier] using this
        · exact Loose.made.stays (hst _ (by omega))
        · rintro j (hj | rfl)
          · rw [hsz]; have := hd.out.low j hj; omega
          · rw [hsz]; omega)
      have HUf : Hid (Upd F (fun j => F j ∨ j = wr.heap.size) w2 ((wr.alloc (.map #[] 0)).setCell ⟨b, 1, none⟩ (.map (some wr.heap.size)))) := Lib.hid (by
        have h1 := (hu.out.trans (Upd.of_gr ha)).trans (upd_cell (i := 1) hd.out.ownB (.map (some wr.heap.size)))
        refine ⟨h1.os, h1.tape, h1.output, h1.size, h1.block, fun j hj => ?_⟩
        rcases hj with hj | rfl
        · exact .inl hj
        · exact .inr hu.out.size)
      have HU := Lib.hid (HU2.out.trans HUf.out)
      clear hd ha hdA hne HB hblt hsz hst hu HUf
      go_wp2
      go_ret
      exact ⟨_, rfl, ⟨_, _, _, _, rfl, HF.out⟩, HU.out⟩

end Go.Proofs.Ytkoalabacfjgbaa
