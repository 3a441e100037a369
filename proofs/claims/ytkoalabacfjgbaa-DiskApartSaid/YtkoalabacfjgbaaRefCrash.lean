
/-
  The document's disk: behind a loss of power.
-/
import Derived.Test.YtkoalabacfjgbaaRefLoose
import Derived.Test.YtkoalabacfjgbaaFlowU
namespace Go.Proofs.Ytkoalabacfjgbaa
open Go.RowKit Go.Maps

theorem rank_succ (s : St) (i : Nat) : s.rank (i + 1) = s.rank i + (if s.t i = [] then 0 else 1) := by
  unfold St.rank
  rw [List.range_succ, List.filter_append, List.length_append]
  congr 1
  by_cases h : s.t i = []
  · rw [if_pos h]; simp [h]
  · rw [if_neg h]; simp [h]
theorem rank_le (s : St) (i : Nat) : s.rank i ≤ i := by
  unfold St.rank
  have := List.length_filter_le (fun j => !(s.t j).isEmpty) (List.range i)
  rwa [List.length_range] at this
/-- The pick of a sector. -/
def St.pickOf (s : St) (zs : List Int) (i : Nat) : Nat := if s.t i = [] then 0 else pickAt zs (s.rank i)
theorem chosen_at (s : St) (zs : List Int) (i : Nat) : s.chosen zs i = (s.at i).getD (s.pickOf zs i % ((s.t i).length + 1)) Sec.zero := by
  unfold St.chosen St.pickOf St.at
  by_cases h : s.t i = []
  · rw [if_pos h, h]; simp [Nat.mod_one]
  · rw [if_neg h]

/-- What the region's slots hold. -/
def Su (n0 b gs N cs i gu cu m P Q : Nat) (x : Sec) (lv : Value) (ys : List Sec) (d : Nat) (v : Value) (w : World) : Prop :=
  match d with
  | 38 => v = lv
  | 39 | 40 | 41 | 47 | 48 | 49 => v = .pointer (some ⟨b, 0, none⟩)
  | 42 | 50 => v = .slice (some ⟨gs, 0, none⟩) N cs
  | 43 | 51 => v = .int .i64 (i : Int)
  | 44 | 52 => v = .pointer (some ⟨gs, i, none⟩)
  | 45 | 53 => v = .slice (some ⟨gu, 0, none⟩) m cu
  | 46 => v = .int .u64 (P : Int)
  | 54 => v = .int .i64 (m : Int)
  | 55 => v = .int .u64 (m : Int)
  | 56 => v = .int .u64 (Q : Int)
  | 57 => v = .pointer (some ⟨gu, Q * 256, none⟩)
  | 58 => v = .agg (sec x)
  | 59 => ∃ q, v = .slice (some ⟨q, 0, none⟩) 1 1 ∧ Row w (.slice (some ⟨q, 0, none⟩) 1 1) [x]
  | 60 => Row w v (ys ++ [x]) ∧ ∀ g, v.ownBlock = some g → n0 ≤ g
  | 5 => Row w v (ys ++ [x]) ∧ ∀ g, v.ownBlock = some g → n0 ≤ g
  | _ => True
def Gu (u : Value) (i : Nat) (w w' : World) : Prop := cond (i == 22) (w.grownBy w' u.ownBlock) (Gr w w')
theorem Su.kept {n0 b gs N cs i gu cu m P Q : Nat} {x : Sec} {lv : Value} {ys : List Sec} (d : Nat) (v : Value) (w w' : World) (h : Su n0 b gs N cs i gu cu m P Q x lv ys d v w) (g : Gr w w') : Su n0 b gs N cs i gu cu m P Q x lv ys d v w' := by
  unfold Su at h ⊢
  split <;> simp only at h
  all_goals first
    | exact h
    | exact ⟨Row.gr h.1 g, h.2⟩
    | exact (let ⟨q, h1, h2⟩ := h; ⟨q, h1, Row.gr h2 g⟩)

set_option maxRecDepth 100000 in
set_option maxHeartbeats 4000000 in
theorem refCrash_any {G : Nat → Prop} {r : Value} {s : St} (w : World) (h : Rf w G r s) (hls : ∀ i, (s.t i).length ≤ 1000000000) (q : Option Addr) (n c : Nat) (zs : List Int) (hz : Nums w q n c zs) : Calls Try.prog 12 #[r, .slice q n c] w fun e w' => NewRf w w' e (s.crash zs) := by
  obtain ⟨b, gs, cs, V, rfl, h⟩ := h
  obtain ⟨N, hN⟩ : ∃ N, N = s.ls.length := ⟨_, rfl⟩
  have hN2 : N ≤ 65536 := by rw [hN]; exact h.most
  have HN := Lib.hid hN
  have HD := Lib.hid h
  have HZ := Lib.hid hz
  have HT := Lib.hid hls
  have hn := hz.most
  have HR0 : Hid (Row w (.slice none 0 0) ((List.range 0).map (s.chosen zs))) := Lib.hid (Row.empty w)
  clear h hN hz hls
  go_enter Try.func12, Try.ntmps12
  go_wp2_with fail
  go_loopw [5, 6, 7] (fun l0 k0 i0 wr => ∃ (i : Nat) (lv : Value), i ≤ N ∧ k0 = .int .i64 (s.rank i : Nat) ∧ i0 = .int .i64 i ∧ lv = l0 ∧ Hid (Row wr lv ((List.range i).map (s.chosen zs))) ∧ Hid (∀ g, lv.ownBlock = some g → w.heap.size ≤ g) ∧ Hid (Gr w wr)) (fun _ _ i _ => N - (intOf i).toNat)
  case atStart => exact ⟨0, _, Nat.zero_le _, rfl, rfl, rfl, HR0, Lib.hid (fun g e => by cases e), Lib.hid (Gr.refl _)⟩
  case round =>
    obtain ⟨i, lv, hi, rfl, rfl, rfl, hrow, hfr, hg⟩ := hrel
    have hc := (HD.out.gr hg.out).cells.1
    rw [← HN.out] at hc
    by_cases hlt : i < N
    · have hi65 : (i : Int) < 65536 := by omega
      have hil : i < s.ls.length := by rw [← HN.out]; exact hlt
      have hoc := (HD.out.gr hg.out).outer.cell i hil
      obtain ⟨gu, cu, hv, _, hc1, hc2⟩ := (HD.out.rows i hil).full (at_ne s i)
      rw [at_len] at hv hc1
      obtain ⟨m, hm⟩ : ∃ m, m = (s.t i).length + 1 := ⟨_, rfl⟩
      rw [← hm] at hv hc1
      have hm0 : 0 < m := by omega
      have hm9 : m ≤ 1000000001 := by rw [hm]; have := HT.out i; omega
      rw [hv] at hoc
      have hrow2 : Row w (.slice (some ⟨gu, 0, none⟩) m cu) (s.at i) := by rw [← hv]; exact HD.out.rows i hil
      obtain ⟨P, hP⟩ : ∃ P, P = s.pickOf zs i := ⟨_, rfl⟩
      obtain ⟨Q, hQ⟩ : ∃ Q, Q = P % m := ⟨_, rfl⟩
      obtain ⟨x, hx⟩ : ∃ x, x = s.chosen zs i := ⟨_, rfl⟩
      have hQm : Q < m := by rw [hQ]; exact Nat.mod_lt _ hm0
      have hQl : Q < (s.at i).length := by rw [at_len, ← hm]; exact hQm
      have hPlt : (P : Int) < 18446744073709551616 := by
        rw [hP]; unfold St.pickOf; split
        · omega
        · have := pickAt_lt zs (s.rank i); omega
      have hxq : (s.at i)[Q] = x := by
        rw [hx, chosen_at, ← hm, ← hP, ← hQ]
        simp [List.getD, hQl]
      have HL : Hid (∀ W, Gr wr W → W.rangeAt gu (Q * 256) x.cells) := Lib.hid fun W e => by rw [← hxq]; exact (hrow2.gr (Gr.trans hg.out e)).lies Q hQl
      have HA : Hid (∀ W, Gr wr W → W.cell? ⟨b, 0, none⟩ = some (.slice (some ⟨gs, 0, none⟩) N cs)) := Lib.hid fun W e => by rw [HN.out]; exact (HD.out.gr (Gr.trans hg.out e)).cells.1
      have HV : Hid (∀ W, Gr wr W → W.cell? ⟨gs, i, none⟩ = some (.slice (some ⟨gu, 0, none⟩) m cu)) := Lib.hid fun W e => by rw [← hv]; exact (HD.out.gr (Gr.trans hg.out e)).outer.cell i hil
      have HQ : Hid ((P : Int) % (m : Int) = (Q : Int)) := Lib.hid (by rw [hQ]; rfl)
      have HX := Lib.hid hx
      have HRk := Lib.hid (rank_succ s i)
      have hrk1 := rank_le s i
      obtain ⟨rk, hrk⟩ : ∃ rk, rk = s.rank i := ⟨_, rfl⟩
      rw [← hrk] at hrk1 HRk ⊢
      obtain ⟨rk1, hrk2⟩ : ∃ rk1, rk1 = s.rank (i + 1) := ⟨_, rfl⟩
      rw [← hrk2] at HRk
      have HRk1 := Lib.hid hrk2
      have HPk : Hid (P = if s.t i = [] then 0 else pickAt zs rk) := Lib.hid (by rw [hP, hrk]; rfl)
      have HRow := hrow
      have HF := hfr
      have HG := hg
      have hm1 : s.t i = [] → m = 1 := fun e => by rw [hm, e]; rfl
      have hm2 : s.t i ≠ [] → 1 < m := fun e => by have := List.length_pos_iff.2 e; omega
      have HM1 := Lib.hid hm1
      have HM2 := Lib.hid hm2
      clear hrow hfr hg hc1 hc2 hv hrow2 hQl hxq hQ hx hP hrk hrk2 hil hm hm1 hm2
      go_upto_if 26 with fail
      go_cut [6, 8] (fun s6 s8 wc => s6 = .int .i64 (rk1 : Nat) ∧ s8 = .int .u64 (P : Int) ∧ wr = wc)
      case first =>
        by_cases ht : s.t i = []
        · have e1 : decide ((1 : Int) < (m : Int)) = false := decide_eq_false (by have := HM1.out ht; omega)
          rw [e1]
          have HP0 : Hid (P = 0) := Lib.hid (by rw [HPk.out, if_pos ht])
          have HR1 : Hid (rk1 = rk) := Lib.hid (by rw [HRk.out, if_pos ht]; rfl)
          clear e1 ht
          go_wp2
          go_meet
          exact ⟨by rw [HR1.out], by rw [HP0.out]; rfl, rfl⟩
        · have e1 : decide ((1 : Int) < (m : Int)) = true := decide_eq_true (by have := HM2.out ht; omega)
          rw [e1]
          have HR1 : Hid (rk1 = rk + 1) := Lib.hid (by rw [HRk.out, if_neg ht])
          have HP0 : Hid (P = pickAt zs rk) := Lib.hid (by rw [HPk.out, if_neg ht])
          clear e1 ht
          go_upto_if 30 with fail
          by_cases hp : rk < n
          · have hz2 := HZ.out.gr HG.out
            obtain ⟨b3, o3, rfl, hc3⟩ := hz2.lies (by omega)
            have hcz := hc3 rk hp
            have hv2 : IntKind.u64.wrap (zs[rk]?.getD 0) = (P : Int) := by
              rw [HP0.out, u64_wrap_nat]
              unfold pickAt
              rw [if_pos (by have := hz2.len; omega)]
              rfl
            clear hc3 hz2
            have e2 : decide ((rk : Int) < (n : Int)) = true := decide_eq_true (by omega)
            have e3 : decide (rk < n) = true := decide_eq_true hp
            first | rw [e2] | rw [e3]
            clear e2 e3
            go_wp2
            go_meet
            exact ⟨by rw [HR1.out]; go_num, rfl, rfl⟩
          · have HP1 : Hid (P = 0) := Lib.hid (by
              rw [HP0.out]
              unfold pickAt
              rw [if_neg (by have := HZ.out.len; omega)])
            have e2 : decide ((rk : Int) < (n : Int)) = false := decide_eq_false (by omega)
            have e3 : decide (rk < n) = false := decide_eq_false hp
            first | rw [e2] | rw [e3]
            clear e2 e3 hp
            go_wp2
            go_meet
            exact ⟨by rw [HR1.out]; go_num, by rw [HP1.out]; rfl, rfl⟩
      case rest =>
        obtain ⟨rfl, rfl, rfl⟩ := hcut
        clear hc hoc hrk1
        obtain ⟨ys, hys⟩ : ∃ ys, ys = (List.range i).map (s.chosen zs) := ⟨_, rfl⟩
        rw [← hys] at HRow
        have HYs := Lib.hid hys
        have HYl : Hid (ys.length + 1 ≤ 500000000000) := Lib.hid (by rw [hys]; simp; omega)
        clear hys
        go_wp2_with fail
        refine Flow.regionU 23 22 (by kernel_rfl) [5] 24 (Su w.heap.size b gs N cs i gu cu m P Q x lv ys) (fun W => wr.grownBy W lv.ownBlock) (fun W => wr.grownBy W lv.ownBlock) (Gr wr) (Gu lv) (by kernel_rfl) (by kernel_rfl) (by kernel_rfl) ?mono ⟨rfl, rfl, rfl, Nat.le_refl _, fun _ _ _ => rfl⟩ ⟨rfl, rfl, rfl, Nat.le_refl _, fun _ _ => rfl⟩ ?steps ?fin
        case mono =>
          intro i d v w w' hb hs hg
          by_cases h22 : i = 22
          · subst h22
            have := Flow.bears2_only [] (by kernel_rfl) hb
            cases this
          · have e1 : (i == 22) = false := by simpa using h22
            unfold Gu at hg
            rw [e1] at hg
            exact Su.kept d v w w' hs hg
        case fin =>
          intro a W hfr hfin hsl
          have h5 : Row W (a.tmps.getD 5 undef) (ys ++ [x]) ∧ ∀ g, (a.tmps.getD 5 undef).ownBlock = some g → w.heap.size ≤ g := hsl 23 _ 5 rfl rfl (by simp)
          clear hsl
          have e := Flow.frame hfr [5, 38, 39, 40, 41, 42, 43, 44, 45, 46, 47, 48, 49, 50, 51, 52, 53, 54, 55, 56, 57, 58, 59, 60] (List.range 63) (by kernel_rfl) (by kernel_rfl)
          have e5 : a.tmps[5]?.getD undef = a.tmps.getD 5 undef := by simp
          simp [List.range, List.range.loop] at e
          rw [e]
          clear e hfr
          rw [e5]
          clear e5
          obtain ⟨lv2, hl2⟩ : ∃ y, y = a.tmps.getD 5 undef := ⟨_, rfl⟩
          rw [← hl2] at h5 ⊢
          clear hl2
          have HR3 : Hid (Row W lv2 ((List.range (i + 1)).map (s.chosen zs))) := Lib.hid (by
            rw [List.range_succ, List.map_append, ← HYs.out]
            have := h5.1
            rw [HX.out] at this
            exact this)
          have HF3 := Lib.hid h5.2
          have HG3 : Hid (Gr w W) := Lib.hid (HG.out.own hfin HF.out)
          have HK : Hid (rk1 = s.rank (i + 1)) := HRk1
          clear hfin h5 HL HA HV HQ HX HRow HF HG HYs HYl HRk HPk
          rename_i K hK
          refine hK _ _ ?_
          go_wp2
          go_roundw
          case rel => exact ⟨i + 1, _, by omega, by rw [HK.out], by go_num, rfl, HR3, HF3, HG3⟩
          case measure => simp [intOf]; omega
        case steps =>
          refine Flow.StepsU.cons (fun a W hfr hinv hear hdep K hK => ?_) ?_
          · have s5 : a.tmps.getD 5 undef = lv := hfr.at 5 (by kernel_rfl)
            have t5 : a.tmps[5]?.getD undef = lv := by simpa using s5
            rw [if_pos (Flow.wanted_none rfl)]
            clear hfr hdep hear
            go_simp
            exact hK _ _ (show Gr W W from Gr.refl W) hinv (fun h => h) (fun d hd => by cases hd; rfl)
          refine Flow.StepsU.cons (fun a W hfr hinv hear hdep K hK => ?_) ?_
          · have s0 : a.tmps.getD 0 undef = .pointer (some ⟨b, 0, none⟩) := hfr.at 0 (by kernel_rfl)
            have t0 : a.tmps[0]?.getD undef = .pointer (some ⟨b, 0, none⟩) := by simpa using s0
            rw [if_pos (Flow.wanted_none rfl)]
            clear hfr hdep hear
            go_simp
            exact hK _ _ (show Gr W W from Gr.refl W) hinv (fun h => h) (fun d hd => by cases hd; rfl)
          refine Flow.StepsU.cons (fun a W hfr hinv hear hdep K hK => ?_) ?_
          · have s39 : a.tmps.getD 39 undef = .pointer (some ⟨b, 0, none⟩) := hdep 39 (by kernel_rfl)
            have t39 : a.tmps[39]?.getD undef = .pointer (some ⟨b, 0, none⟩) := by simpa using s39
            rw [if_pos (Flow.wanted_none rfl)]
            clear hfr hdep hear
            go_simp
            exact hK _ _ (show Gr W W from Gr.refl W) hinv (fun h => h) (fun d hd => by cases hd; rfl)
          refine Flow.StepsU.cons (fun a W hfr hinv hear hdep K hK => ?_) ?_
          · have s40 : a.tmps.getD 40 undef = .pointer (some ⟨b, 0, none⟩) := hdep 40 (by kernel_rfl)
            have t40 : a.tmps[40]?.getD undef = .pointer (some ⟨b, 0, none⟩) := by simpa using s40
            rw [if_pos (Flow.wanted_none rfl)]
            clear hfr hdep hear
            go_simp
            exact hK _ _ (show Gr W W from Gr.refl W) hinv (fun h => h) (fun d hd => by cases hd; rfl)
          refine Flow.StepsU.cons (fun a W hfr hinv hear hdep K hK => ?_) ?_
          · have s41 : a.tmps.getD 41 undef = .pointer (some ⟨b, 0, none⟩) := hdep 41 (by kernel_rfl)
            have t41 : a.tmps[41]?.getD undef = .pointer (some ⟨b, 0, none⟩) := by simpa using s41
            rw [if_pos (Flow.wanted_none rfl)]
            clear hfr hdep
            have he : Gr wr W := Flow.early hear (by kernel_rfl)
            clear hear
            have hc := HA.out W he
            go_simp
            exact hK _ _ (show Gr W W from Gr.refl W) hinv (fun h => h) (fun d hd => by cases hd; rfl)
          refine Flow.StepsU.cons (fun a W hfr hinv hear hdep K hK => ?_) ?_
          · have s7 : a.tmps.getD 7 undef = .int .i64 (i : Int) := hfr.at 7 (by kernel_rfl)
            have t7 : a.tmps[7]?.getD undef = .int .i64 (i : Int) := by simpa using s7
            rw [if_pos (Flow.wanted_none rfl)]
            clear hfr hdep hear
            go_simp
            exact hK _ _ (show Gr W W from Gr.refl W) hinv (fun h => h) (fun d hd => by cases hd; rfl)
          refine Flow.StepsU.cons (fun a W hfr hinv hear hdep K hK => ?_) ?_
          · have s42 : a.tmps.getD 42 undef = .slice (some ⟨gs, 0, none⟩) N cs := hdep 42 (by kernel_rfl)
            have t42 : a.tmps[42]?.getD undef = .slice (some ⟨gs, 0, none⟩) N cs := by simpa using s42
            have s43 : a.tmps.getD 43 undef = .int .i64 (i : Int) := hdep 43 (by kernel_rfl)
            have t43 : a.tmps[43]?.getD undef = .int .i64 (i : Int) := by simpa using s43
            rw [if_pos (Flow.wanted_none rfl)]
            clear hfr hdep hear
            go_simp
            exact hK _ _ (show Gr W W from Gr.refl W) hinv (fun h => h) (fun d hd => by cases hd; rfl)
          refine Flow.StepsU.cons (fun a W hfr hinv hear hdep K hK => ?_) ?_
          · have s44 : a.tmps.getD 44 undef = .pointer (some ⟨gs, i, none⟩) := hdep 44 (by kernel_rfl)
            have t44 : a.tmps[44]?.getD undef = .pointer (some ⟨gs, i, none⟩) := by simpa using s44
            rw [if_pos (Flow.wanted_none rfl)]
            clear hfr hdep
            have he : Gr wr W := Flow.early hear (by kernel_rfl)
            clear hear
            have hc := HV.out W he
            go_simp
            exact hK _ _ (show Gr W W from Gr.refl W) hinv (fun h => h) (fun d hd => by cases hd; rfl)
          refine Flow.StepsU.cons (fun a W hfr hinv hear hdep K hK => ?_) ?_
          · have s8 : a.tmps.getD 8 undef = .int .u64 (P : Int) := hfr.at 8 (by kernel_rfl)
            have t8 : a.tmps[8]?.getD undef = .int .u64 (P : Int) := by simpa using s8
            rw [if_pos (Flow.wanted_none rfl)]
            clear hfr hdep hear
            go_simp
            exact hK _ _ (show Gr W W from Gr.refl W) hinv (fun h => h) (fun d hd => by cases hd; rfl)
          refine Flow.StepsU.cons (fun a W hfr hinv hear hdep K hK => ?_) ?_
          · have s0 : a.tmps.getD 0 undef = .pointer (some ⟨b, 0, none⟩) := hfr.at 0 (by kernel_rfl)
            have t0 : a.tmps[0]?.getD undef = .pointer (some ⟨b, 0, none⟩) := by simpa using s0
            rw [if_pos (Flow.wanted_none rfl)]
            clear hfr hdep hear
            go_simp
            exact hK _ _ (show Gr W W from Gr.refl W) hinv (fun h => h) (fun d hd => by cases hd; rfl)
          refine Flow.StepsU.cons (fun a W hfr hinv hear hdep K hK => ?_) ?_
          · have s47 : a.tmps.getD 47 undef = .pointer (some ⟨b, 0, none⟩) := hdep 47 (by kernel_rfl)
            have t47 : a.tmps[47]?.getD undef = .pointer (some ⟨b, 0, none⟩) := by simpa using s47
            rw [if_pos (Flow.wanted_none rfl)]
            clear hfr hdep hear
            go_simp
            exact hK _ _ (show Gr W W from Gr.refl W) hinv (fun h => h) (fun d hd => by cases hd; rfl)
          refine Flow.StepsU.cons (fun a W hfr hinv hear hdep K hK => ?_) ?_
          · have s48 : a.tmps.getD 48 undef = .pointer (some ⟨b, 0, none⟩) := hdep 48 (by kernel_rfl)
            have t48 : a.tmps[48]?.getD undef = .pointer (some ⟨b, 0, none⟩) := by simpa using s48
            rw [if_pos (Flow.wanted_none rfl)]
            clear hfr hdep hear
            go_simp
            exact hK _ _ (show Gr W W from Gr.refl W) hinv (fun h => h) (fun d hd => by cases hd; rfl)
          refine Flow.StepsU.cons (fun a W hfr hinv hear hdep K hK => ?_) ?_
          · have s49 : a.tmps.getD 49 undef = .pointer (some ⟨b, 0, none⟩) := hdep 49 (by kernel_rfl)
            have t49 : a.tmps[49]?.getD undef = .pointer (some ⟨b, 0, none⟩) := by simpa using s49
            rw [if_pos (Flow.wanted_none rfl)]
            clear hfr hdep
            have he : Gr wr W := Flow.early hear (by kernel_rfl)
            clear hear
            have hc := HA.out W he
            go_simp
            exact hK _ _ (show Gr W W from Gr.refl W) hinv (fun h => h) (fun d hd => by cases hd; rfl)
          refine Flow.StepsU.cons (fun a W hfr hinv hear hdep K hK => ?_) ?_
          · have s7 : a.tmps.getD 7 undef = .int .i64 (i : Int) := hfr.at 7 (by kernel_rfl)
            have t7 : a.tmps[7]?.getD undef = .int .i64 (i : Int) := by simpa using s7
            rw [if_pos (Flow.wanted_none rfl)]
            clear hfr hdep hear
            go_simp
            exact hK _ _ (show Gr W W from Gr.refl W) hinv (fun h => h) (fun d hd => by cases hd; rfl)
          refine Flow.StepsU.cons (fun a W hfr hinv hear hdep K hK => ?_) ?_
          · have s50 : a.tmps.getD 50 undef = .slice (some ⟨gs, 0, none⟩) N cs := hdep 50 (by kernel_rfl)
            have t50 : a.tmps[50]?.getD undef = .slice (some ⟨gs, 0, none⟩) N cs := by simpa using s50
            have s51 : a.tmps.getD 51 undef = .int .i64 (i : Int) := hdep 51 (by kernel_rfl)
            have t51 : a.tmps[51]?.getD undef = .int .i64 (i : Int) := by simpa using s51
            rw [if_pos (Flow.wanted_none rfl)]
            clear hfr hdep hear
            go_simp
            exact hK _ _ (show Gr W W from Gr.refl W) hinv (fun h => h) (fun d hd => by cases hd; rfl)
          refine Flow.StepsU.cons (fun a W hfr hinv hear hdep K hK => ?_) ?_
          · have s52 : a.tmps.getD 52 undef = .pointer (some ⟨gs, i, none⟩) := hdep 52 (by kernel_rfl)
            have t52 : a.tmps[52]?.getD undef = .pointer (some ⟨gs, i, none⟩) := by simpa using s52
            rw [if_pos (Flow.wanted_none rfl)]
            clear hfr hdep
            have he : Gr wr W := Flow.early hear (by kernel_rfl)
            clear hear
            have hc := HV.out W he
            go_simp
            exact hK _ _ (show Gr W W from Gr.refl W) hinv (fun h => h) (fun d hd => by cases hd; rfl)
          refine Flow.StepsU.cons (fun a W hfr hinv hear hdep K hK => ?_) ?_
          · have s53 : a.tmps.getD 53 undef = .slice (some ⟨gu, 0, none⟩) m cu := hdep 53 (by kernel_rfl)
            have t53 : a.tmps[53]?.getD undef = .slice (some ⟨gu, 0, none⟩) m cu := by simpa using s53
            rw [if_pos (Flow.wanted_none rfl)]
            clear hfr hdep hear
            go_simp
            exact hK _ _ (show Gr W W from Gr.refl W) hinv (fun h => h) (fun d hd => by cases hd; rfl)
          refine Flow.StepsU.cons (fun a W hfr hinv hear hdep K hK => ?_) ?_
          · have s54 : a.tmps.getD 54 undef = .int .i64 (m : Int) := hdep 54 (by kernel_rfl)
            have t54 : a.tmps[54]?.getD undef = .int .i64 (m : Int) := by simpa using s54
            rw [if_pos (Flow.wanted_none rfl)]
            clear hfr hdep
            have hwr : IntKind.u64.wrap (m : Int) = (m : Int) := by rw [IntKind.wrap_u64]; omega
            clear hear
            go_simp
            exact hK _ _ (show Gr W W from Gr.refl W) hinv (fun h => h) (fun d hd => by cases hd; rfl)
          refine Flow.StepsU.cons (fun a W hfr hinv hear hdep K hK => ?_) ?_
          · have s46 : a.tmps.getD 46 undef = .int .u64 (P : Int) := hdep 46 (by kernel_rfl)
            have t46 : a.tmps[46]?.getD undef = .int .u64 (P : Int) := by simpa using s46
            have s55 : a.tmps.getD 55 undef = .int .u64 (m : Int) := hdep 55 (by kernel_rfl)
            have t55 : a.tmps[55]?.getD undef = .int .u64 (m : Int) := by simpa using s55
            rw [if_pos (Flow.wanted_none rfl)]
            clear hfr hdep
            have hq : (P : Int).tmod (m : Int) = (Q : Int) := by rw [Int.tmod_eq_emod_of_nonneg (by omega)]; exact HQ.out
            have hm3 : ¬ m = 0 := by omega
            clear hear
            go_simp
            exact hK _ _ (show Gr W W from Gr.refl W) hinv (fun h => h) (fun d hd => by cases hd; rfl)
          refine Flow.StepsU.cons (fun a W hfr hinv hear hdep K hK => ?_) ?_
          · have s45 : a.tmps.getD 45 undef = .slice (some ⟨gu, 0, none⟩) m cu := hdep 45 (by kernel_rfl)
            have t45 : a.tmps[45]?.getD undef = .slice (some ⟨gu, 0, none⟩) m cu := by simpa using s45
            have s56 : a.tmps.getD 56 undef = .int .u64 (Q : Int) := hdep 56 (by kernel_rfl)
            have t56 : a.tmps[56]?.getD undef = .int .u64 (Q : Int) := by simpa using s56
            rw [if_pos (Flow.wanted_none rfl)]
            clear hfr hdep hear
            go_simp
            exact hK _ _ (show Gr W W from Gr.refl W) hinv (fun h => h) (fun d hd => by cases hd; rfl)
          refine Flow.StepsU.cons (fun a W hfr hinv hear hdep K hK => ?_) ?_
          · have s57 : a.tmps.getD 57 undef = .pointer (some ⟨gu, Q * 256, none⟩) := hdep 57 (by kernel_rfl)
            have t57 : a.tmps[57]?.getD undef = .pointer (some ⟨gu, Q * 256, none⟩) := by simpa using s57
            rw [if_pos (Flow.wanted_none rfl)]
            clear hfr hdep
            have he : Gr wr W := Flow.early hear (by kernel_rfl)
            refine wp_load_sec (.tmp 57) rfl (HL.out W he) (by simpa [Act.eval] using s57) ?_
            exact hK _ _ (show Gr W W from Gr.refl W) hinv (fun h => h) (fun d hd => by cases hd; rfl)
          refine Flow.StepsU.cons (fun a W hfr hinv hear hdep K hK => ?_) ?_
          · have s58 : a.tmps.getD 58 undef = .agg (sec x) := hdep 58 (by kernel_rfl)
            have t58 : a.tmps[58]?.getD undef = .agg (sec x) := by simpa using s58
            rw [if_pos (Flow.wanted_none rfl)]
            clear hfr hdep
            refine wp_buildSecs 1 #[(0, .tmp 58)] rfl [x] rfl (by omega) (by omega) (by simp [Act.eval, t58, partsOf, partsL, sec]) ?_
            exact hK _ _ (show Gr W (W.alloc _) from Gr.new W _) (hinv.trans (World.grownBy_alloc W _ _)) (fun h => Gr.trans h (Gr.new W _)) (fun d hd => by cases hd; exact ⟨_, rfl, Row.lit W [x] 1 rfl (by omega)⟩)
          refine Flow.StepsU.cons (fun a W hfr hinv hear hdep K hK => ?_) ?_
          · have s38 : a.tmps.getD 38 undef = lv := hdep 38 (by kernel_rfl)
            have t38 : a.tmps[38]?.getD undef = lv := by simpa using s38
            have s59 : (∃ q, (a.tmps.getD 59 undef) = .slice (some ⟨q, 0, none⟩) 1 1 ∧ Row W (.slice (some ⟨q, 0, none⟩) 1 1) [x]) := hdep 59 (by kernel_rfl)
            rw [if_pos (Flow.wanted_none rfl)]
            clear hfr hdep
            have he : Gr wr W := Flow.early hear (by kernel_rfl)
            obtain ⟨q2, e59, r59⟩ := s59
            have hro : Row W lv ys := HRow.out.gr he
            refine app_sec (.tmp 38) (.tmp 59) rfl (by simpa [Act.eval] using s38) hro (by simpa [Act.eval] using e59) r59 rfl HYl.out ?_
            intro v' w' h1 h2 h3
            have hl2 : ∀ g, v'.ownBlock = some g → w.heap.size ≤ g := fun g hg2 => h3.elim (fun h => HF.out g (h.symm.trans hg2)) (fun h => by rw [hg2] at h; cases h; exact Nat.le_trans HG.out.size hinv.size)
            exact hK _ _ (show W.grownBy w' lv.ownBlock from h2) (hinv.trans h2) True.intro (fun d hd => by cases hd; exact ⟨h1, hl2⟩)
          refine Flow.StepsU.cons (fun a W hfr hinv hear hdep K hK => ?_) ?_
          · have s60 : (Row W (a.tmps.getD 60 undef) (ys ++ [x]) ∧ ∀ g, (a.tmps.getD 60 undef).ownBlock = some g → w.heap.size ≤ g) := hdep 60 (by kernel_rfl)
            rw [if_pos (Flow.wanted_none rfl)]
            clear hfr hdep
            clear hear
            have e60 : a.tmps.getD 60 undef = a.tmps[60]?.getD undef := by simp
            rw [e60] at s60
            go_simp
            exact hK _ _ (show Gr W W from Gr.refl W) hinv True.intro (fun d hd => by cases hd; exact s60)
          exact True.intro
    · obtain rfl : i = N := by omega
      have HC : Hid (Calls Try.prog 7 #[lv] wr fun e w' => NewRf wr w' e (s.crash zs)) := Lib.hid (by
        have h1 := refNew_any wr lv _ hrow.out (by simp; rw [HN.out]; exact HD.out.pos) (by simp; exact hN2)
        have e : s.crash zs = fresh ((List.range i).map (s.chosen zs)) := by unfold St.crash; rw [HN.out]
        rw [e]; exact h1)
      have HG := hg
      clear hrow hfr hg
      go_wp2_with fail
      refine HC.out.mono ?_
      rintro e w2 ⟨p, G2, rfl, h1, h2, h3⟩
      have HF : Hid (NewRf w w2 (.returned p) (s.crash zs)) := Lib.hid ⟨p, G2, rfl, h1, Gr.trans HG.out h2, fun k hk => Nat.le_trans HG.out.size (h3 k hk)⟩
      clear h1 h2 h3
      go_wp2
      go_ret
      exact HF.out

end Go.Proofs.Ytkoalabacfjgbaa
