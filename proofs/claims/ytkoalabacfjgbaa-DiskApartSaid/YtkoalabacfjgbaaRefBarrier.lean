
/-
  The document's disk: a barrier.
-/
import Derived.Test.YtkoalabacfjgbaaRefRead
import Derived.Test.YtkoalabacfjgbaaBarrier
namespace Go.Proofs.Ytkoalabacfjgbaa
open Go.RowKit Go.Maps

/-- Behind k rounds of a barrier. -/
def St.half (s : St) (k : Nat) : St := { s with ls := (List.range s.ls.length).map fun j => if j < k then s.nw j else s.ls.getD j Sec.zero, t := fun j => if j < k then [] else s.t j }
theorem half_len (s : St) (k : Nat) : (s.half k).ls.length = s.ls.length := by simp [St.half]
theorem half_ls {s : St} {k j : Nat} (hj : j < s.ls.length) : (s.half k).ls.getD j Sec.zero = if j < k then s.nw j else s.ls.getD j Sec.zero := by
  have : j < (s.half k).ls.length := by rw [half_len]; exact hj
  simp only [List.getD, List.getElem?_eq_getElem this, Option.getD_some]
  simp [St.half, List.getD]
theorem half_at {s : St} {k j : Nat} (hj : j < s.ls.length) : (s.half k).at j = if j < k then [s.nw j] else s.at j := by
  unfold St.at
  rw [half_ls hj]
  show _ :: (if j < k then [] else s.t j) = _
  by_cases h : j < k
  · simp [h]
  · simp [h]
theorem half_nw {s : St} {k : Nat} (hk : k < s.ls.length) : (s.half k).nw k = s.nw k := by
  unfold St.nw
  rw [half_ls hk]
  show (if k < k then [] else s.t k).getLastD _ = _
  simp
theorem half_succ {s : St} {k j : Nat} (hj : j < s.ls.length) (h : j ≠ k) : (s.half (k + 1)).at j = (s.half k).at j := by
  rw [half_at hj, half_at hj]
  by_cases h1 : j < k
  · rw [if_pos h1, if_pos (by omega)]
  · rw [if_neg h1, if_neg (by omega)]
theorem half_end {s : St} {j : Nat} (hj : j < s.ls.length) : s.barrier.at j = (s.half s.ls.length).at j := by
  rw [half_at hj, if_pos hj]
  unfold St.at St.barrier
  simp [List.getD, hj]
theorem half_zero {s : St} {j : Nat} (hj : j < s.ls.length) : (s.half 0).at j = s.at j := by rw [half_at hj, if_neg (by omega)]

/-- What the region's slots hold. -/
def Sqb (n0 b gs cs N i : Nat) (x : Sec) (d : Nat) (v : Value) (w : World) : Prop :=
  match d with
  | 17 | 18 | 19 | 22 => v = .pointer (some ⟨b, 0, none⟩)
  | 20 => v = .slice (some ⟨gs, 0, none⟩) N cs
  | 21 | 23 => v = .int .i64 (i : Int)
  | 24 => v = .agg (sec x)
  | 25 => ∃ q, v = .slice (some ⟨q, 0, none⟩) 1 1 ∧ Row w (.slice (some ⟨q, 0, none⟩) 1 1) [x] ∧ n0 ≤ q
  | 26 => v = .pointer (some ⟨gs, i, none⟩)
  | _ => True
def Gqb (z i : Nat) (w w' : World) : Prop := cond (i == z) True (Gr w w')
theorem Sqb.kept {n0 b gs cs N i : Nat} {x : Sec} (d : Nat) (v : Value) (w w' : World) (h : Sqb n0 b gs cs N i x d v w) (g : Gr w w') : Sqb n0 b gs cs N i x d v w' := by
  unfold Sqb at h ⊢
  split <;> simp only at h
  all_goals first
    | exact h
    | exact (let ⟨q, h1, h2, h3⟩ := h; ⟨q, h1, Row.gr h2 g, h3⟩)
def Fqb (W0 : World) (gs i : Nat) (x : Sec) (w : World) : Prop := ∃ w1 q, Gr W0 w1 ∧ Row w1 (.slice (some ⟨q, 0, none⟩) 1 1) [x] ∧ W0.heap.size ≤ q ∧ w = w1.setCell ⟨gs, i, none⟩ (.slice (some ⟨q, 0, none⟩) 1 1)

set_option maxRecDepth 100000 in
theorem refBarrier_dead {G : Nat → Prop} {r : Value} {s : St} (w : World) (h : Rf w G r s) (hd : s.dead = true) : Calls Try.prog 30 #[r] w fun e w' => e = .returned (.bool false) ∧ w = w' := by
  obtain ⟨b, gs, cs, V, rfl, h⟩ := h
  obtain ⟨h0, h1, h2, h3⟩ := h.cells
  rw [hd] at h2
  clear h h0 h1 h3 hd
  go_enter Try.func30, Try.ntmps30
  go_wp2_with fail
  go_ret
  exact ⟨rfl, rfl⟩

set_option maxRecDepth 100000 in
set_option maxHeartbeats 4000000 in
theorem refBarrier_yes {G : Nat → Prop} {r : Value} {s : St} (w : World) (h : Rf w G r s) (hd : s.dead = false) : Calls Try.prog 30 #[r] w fun e w' => ChgR G r s.barrier (.bool true) w e w' := by
  obtain ⟨b, gs, cs, V, rfl, h⟩ := h
  obtain ⟨h0, h1, h2, h3⟩ := h.cells
  rw [hd] at h2
  obtain ⟨N, hN⟩ : ∃ N, N = s.ls.length := ⟨_, rfl⟩
  have hN2 : N ≤ 65536 := by rw [hN]; exact h.most
  have HN := Lib.hid hN
  have HH : Hid (RfAt w G b gs cs V (s.half 0)) := Lib.hid (h.ext (half_len s 0) (fun j hj => half_zero hj) rfl rfl rfl)
  clear h h0 h1 h3 hd hN
  go_enter Try.func30, Try.ntmps30
  go_wp2_with fail
  go_loopw [3] (fun i wr => ∃ (k : Nat) (V' : Nat → Value) (G' : Nat → Prop), k ≤ N ∧ i = .int .i64 k ∧ Hid (RfAt wr G' b gs cs V' (s.half k)) ∧ Hid (Upd G G' w wr)) (fun i _ => N - (intOf i).toNat)
  case atStart => exact ⟨0, V, G, Nat.zero_le _, rfl, HH.out, Lib.hid (Upd.of_gr (Gr.refl _))⟩
  case round =>
    obtain ⟨k, V', G', hk, rfl, hd, hu⟩ := hrel
    have hl : (s.half k).ls.length = N := by rw [half_len, HN.out]
    have hc := hd.out.cells.1
    rw [hl] at hc
    by_cases hlt : k < N
    · have hk65 : (k : Int) < 65536 := by omega
      have HDr := hd
      have HUr := hu
      have HX : Hid ((s.half k).nw k = s.nw k) := Lib.hid (half_nw (by rw [← HN.out]; exact hlt))
      have HLk : Hid (k < (s.half k).ls.length) := Lib.hid (by rw [hl]; exact hlt)
      have HLn := Lib.hid hl
      clear hl hd hu
      go_wp2_with fail
      clear hc
      have HCell : Hid (∀ W, Gr wr W → W.cell? ⟨b, 0, none⟩ = some (.slice (some ⟨gs, 0, none⟩) N cs)) := Lib.hid fun W h => by
        have := (HDr.out.gr h).cells.1
        rwa [HLn.out] at this
      have HRd : Hid (∀ W, Gr wr W → Calls Try.prog 13 #[.pointer (some ⟨b, 0, none⟩), .int .i64 (k : Int)] W fun e w' => e = .returned (.agg (sec (s.nw k))) ∧ Gr W w') := Lib.hid fun W h => by
        have := refRead_any W ⟨_, _, _, _, rfl, HDr.out.gr h⟩ k HLk.out
        rwa [HX.out] at this
      have HOc : Hid (∀ W, Gr wr W → W.cell? ⟨gs, k, none⟩ = some (V' k) ∧ W.frozen? ⟨gs, k, none⟩ = false) := Lib.hid fun W h => ⟨(HDr.out.gr h).outer.cell k HLk.out, (HDr.out.gr h).outer.frozen k⟩
      obtain ⟨x, hx⟩ : ∃ x, x = s.nw k := ⟨_, rfl⟩
      rw [← hx] at HRd
      have HXx := Lib.hid hx
      clear hx
      refine Flow.regionZ 10 10 (by kernel_rfl) [] 12 (Sqb wr.heap.size b gs cs N k x) (Gr wr) (Fqb wr gs k x) (fun _ => True) (Gqb 10) (by kernel_rfl) (by kernel_rfl) (by kernel_rfl) ?mono ⟨rfl, rfl, rfl, Nat.le_refl _, fun _ _ => rfl⟩ True.intro ?steps ?fin
      case mono =>
        intro i d v w w' hb hs hg
        by_cases h10 : i = 10
        · subst h10
          have := Flow.bears2_only [] (by kernel_rfl) hb
          cases this
        · have e1 : (i == 10) = false := by simpa using h10
          unfold Gqb at hg
          rw [e1] at hg
          exact Sqb.kept d v w w' hs hg
      case fin =>
        intro a W hfr hfin hsl
        clear hsl
        have e := Flow.frame hfr [17, 18, 19, 20, 21, 22, 23, 24, 25, 26] (List.range 27) (by kernel_rfl) (by kernel_rfl)
        simp [List.range, List.range.loop] at e
        rw [e]
        clear e hfr
        obtain ⟨w1, q, hg1, hr1, hq, rfl⟩ := hfin
        have hlk : k < s.ls.length := by rw [← HN.out]; exact hlt
        have HD3 := Lib.hid ((HDr.out.gr hg1).put (s' := s.half (k + 1)) k HLk.out (by rw [half_at hlk, if_pos (by omega), ← HXx.out]; exact hr1) (by rw [half_len, half_len]) (fun j hj hne => half_succ (by rw [half_len] at hj; exact hj) hne) rfl rfl rfl)
        have HU3 := Lib.hid (HUr.out.trans (upd_put hg1 (i := k) HDr.out.ownS (v := .slice (some ⟨q, 0, none⟩) 1 1) (fun g hg => by cases hg; exact hq)))
        clear hg1 hr1 hq HCell HRd HOc HXx HX HLk HLn HDr HUr hlk
        rename_i K2 hK2
        refine hK2 _ _ ?_
        go_wp2
        go_roundw
        case rel => exact ⟨k + 1, _, _, by omega, by go_num, HD3, HU3⟩
        case measure => simp [intOf]; omega
      case steps =>
        refine Flow.StepsZ.cons (fun a W hfr hinv hear hdep K hK => ?_) ?_
        · have s0 : a.tmps.getD 0 undef = .pointer (some ⟨b, 0, none⟩) := hfr.at 0 (by kernel_rfl)
          have t0 : a.tmps[0]?.getD undef = .pointer (some ⟨b, 0, none⟩) := by simpa using s0
          rw [if_pos (Flow.wanted_none rfl)]
          clear hfr hdep hear
          go_simp
          exact hK _ _ (show Gr W W from Gr.refl W) hinv (fun _ => True.intro) (fun d hd => by cases hd; rfl)
        refine Flow.StepsZ.cons (fun a W hfr hinv hear hdep K hK => ?_) ?_
        · have s17 : a.tmps.getD 17 undef = .pointer (some ⟨b, 0, none⟩) := hdep 17 (by kernel_rfl)
          have t17 : a.tmps[17]?.getD undef = .pointer (some ⟨b, 0, none⟩) := by simpa using s17
          rw [if_pos (Flow.wanted_none rfl)]
          clear hfr hdep hear
          go_simp
          exact hK _ _ (show Gr W W from Gr.refl W) hinv (fun _ => True.intro) (fun d hd => by cases hd; rfl)
        refine Flow.StepsZ.cons (fun a W hfr hinv hear hdep K hK => ?_) ?_
        · have s18 : a.tmps.getD 18 undef = .pointer (some ⟨b, 0, none⟩) := hdep 18 (by kernel_rfl)
          have t18 : a.tmps[18]?.getD undef = .pointer (some ⟨b, 0, none⟩) := by simpa using s18
          rw [if_pos (Flow.wanted_none rfl)]
          clear hfr hdep hear
          go_simp
          exact hK _ _ (show Gr W W from Gr.refl W) hinv (fun _ => True.intro) (fun d hd => by cases hd; rfl)
        refine Flow.StepsZ.cons (fun a W hfr hinv hear hdep K hK => ?_) ?_
        · have s19 : a.tmps.getD 19 undef = .pointer (some ⟨b, 0, none⟩) := hdep 19 (by kernel_rfl)
          have t19 : a.tmps[19]?.getD undef = .pointer (some ⟨b, 0, none⟩) := by simpa using s19
          have hc := HCell.out W hinv
          rw [if_pos (Flow.wanted_none rfl)]
          clear hfr hdep hear
          go_simp
          exact hK _ _ (show Gr W W from Gr.refl W) hinv (fun _ => True.intro) (fun d hd => by cases hd; rfl)
        refine Flow.StepsZ.cons (fun a W hfr hinv hear hdep K hK => ?_) ?_
        · have s3 : a.tmps.getD 3 undef = .int .i64 (k : Int) := hfr.at 3 (by kernel_rfl)
          have t3 : a.tmps[3]?.getD undef = .int .i64 (k : Int) := by simpa using s3
          rw [if_pos (Flow.wanted_none rfl)]
          clear hfr hdep hear
          go_simp
          exact hK _ _ (show Gr W W from Gr.refl W) hinv (fun _ => True.intro) (fun d hd => by cases hd; rfl)
        refine Flow.StepsZ.cons (fun a W hfr hinv hear hdep K hK => ?_) ?_
        · have s0 : a.tmps.getD 0 undef = .pointer (some ⟨b, 0, none⟩) := hfr.at 0 (by kernel_rfl)
          have t0 : a.tmps[0]?.getD undef = .pointer (some ⟨b, 0, none⟩) := by simpa using s0
          rw [if_pos (Flow.wanted_none rfl)]
          clear hfr hdep hear
          go_simp
          exact hK _ _ (show Gr W W from Gr.refl W) hinv (fun _ => True.intro) (fun d hd => by cases hd; rfl)
        refine Flow.StepsZ.cons (fun a W hfr hinv hear hdep K hK => ?_) ?_
        · have s3 : a.tmps.getD 3 undef = .int .i64 (k : Int) := hfr.at 3 (by kernel_rfl)
          have t3 : a.tmps[3]?.getD undef = .int .i64 (k : Int) := by simpa using s3
          rw [if_pos (Flow.wanted_none rfl)]
          clear hfr hdep hear
          go_simp
          exact hK _ _ (show Gr W W from Gr.refl W) hinv (fun _ => True.intro) (fun d hd => by cases hd; rfl)
        refine Flow.StepsZ.cons (fun a W hfr hinv hear hdep K hK => ?_) ?_
        · have s22 : a.tmps.getD 22 undef = .pointer (some ⟨b, 0, none⟩) := hdep 22 (by kernel_rfl)
          have t22 : a.tmps[22]?.getD undef = .pointer (some ⟨b, 0, none⟩) := by simpa using s22
          have s23 : a.tmps.getD 23 undef = .int .i64 (k : Int) := hdep 23 (by kernel_rfl)
          have t23 : a.tmps[23]?.getD undef = .int .i64 (k : Int) := by simpa using s23
          rw [if_pos (Flow.wanted_none rfl)]
          clear hfr hdep
          go_simp
          refine (HRd.out W hinv).mono ?_
          rintro e W' ⟨rfl, g1⟩
          exact hK _ _ g1 (Gr.trans hinv g1) (fun _ => True.intro) (fun d hd => by cases hd; rfl)
        refine Flow.StepsZ.cons (fun a W hfr hinv hear hdep K hK => ?_) ?_
        · have s24 : a.tmps.getD 24 undef = .agg (sec x) := hdep 24 (by kernel_rfl)
          have t24 : a.tmps[24]?.getD undef = .agg (sec x) := by simpa using s24
          rw [if_pos (Flow.wanted_none rfl)]
          clear hfr hdep
          refine wp_buildSecs 1 #[(0, .tmp 24)] rfl [x] rfl (by omega) (by omega) (by simp [Act.eval, t24, partsOf, partsL, sec]) ?_
          exact hK _ _ (show Gr W (W.alloc _) from Gr.new W _) (Gr.trans hinv (Gr.new W _)) (fun _ => True.intro) (fun d hd => by cases hd; exact ⟨_, rfl, Row.lit W [x] 1 rfl (by omega), hinv.size⟩)
        refine Flow.StepsZ.cons (fun a W hfr hinv hear hdep K hK => ?_) ?_
        · have s20 : a.tmps.getD 20 undef = .slice (some ⟨gs, 0, none⟩) N cs := hdep 20 (by kernel_rfl)
          have t20 : a.tmps[20]?.getD undef = .slice (some ⟨gs, 0, none⟩) N cs := by simpa using s20
          have s21 : a.tmps.getD 21 undef = .int .i64 (k : Int) := hdep 21 (by kernel_rfl)
          have t21 : a.tmps[21]?.getD undef = .int .i64 (k : Int) := by simpa using s21
          rw [if_pos (Flow.wanted_none rfl)]
          clear hfr hdep hear
          go_simp
          exact hK _ _ (show Gr W W from Gr.refl W) hinv (fun _ => True.intro) (fun d hd => by cases hd; rfl)
        refine Flow.StepsZ.cons (fun a W hfr hinv hear hdep K hK => ?_) ?_
        · have s26 : a.tmps.getD 26 undef = .pointer (some ⟨gs, k, none⟩) := hdep 26 (by kernel_rfl)
          have t26 : a.tmps[26]?.getD undef = .pointer (some ⟨gs, k, none⟩) := by simpa using s26
          have s25 : (∃ q, (a.tmps.getD 25 undef) = .slice (some ⟨q, 0, none⟩) 1 1 ∧ Row W (.slice (some ⟨q, 0, none⟩) 1 1) [x] ∧ wr.heap.size ≤ q) := hdep 25 (by kernel_rfl)
          rw [if_pos (Flow.wanted_none rfl)]
          clear hfr hdep
          obtain ⟨q, e25, r25, l25⟩ := s25
          have t25 : a.tmps[25]?.getD undef = .slice (some ⟨q, 0, none⟩) 1 1 := by simpa using e25
          obtain ⟨hoc, hof⟩ := HOc.out W hinv
          go_simp
          exact hK undef _ True.intro ⟨W, q, hinv, r25, l25, rfl⟩ True.intro (fun d hd => by cases hd)
        exact True.intro
    · obtain rfl : k = N := by omega
      have HF : Hid (RfAt wr G' b gs cs V' s.barrier) := Lib.hid (hd.out.ext (by simp [St.barrier, half_len]) (fun j hj => by rw [half_len] at hj; rw [HN.out]; exact half_end hj) rfl rfl rfl)
      have HU := hu
      clear hd hl hu
      go_wp2
      go_ret
      exact ⟨_, rfl, ⟨_, _, _, _, rfl, HF.out⟩, HU.out⟩

end Go.Proofs.Ytkoalabacfjgbaa
