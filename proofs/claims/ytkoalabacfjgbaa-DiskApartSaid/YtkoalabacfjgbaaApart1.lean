
/-
  A disk of sectors; rows compared; going over all sectors.
-/
import Derived.Test.YtkoalabacfjgbaaDisk3
import Derived.Test.YtkoalabacfjgbaaClone
import Derived.Test.YtkoalabacfjgbaaSecOps
import Derived.Test.YtkoalabacfjgbaaTold
import Derived.Deep.DeepCutAuto
import Derived.BigQuiet
import Derived.Shelf.Abstract
import Derived.Shelf.RegionOpen
import Derived.OwnWalkIn
import Derived.TacticsInMore
import Derived.LoopNIn
import Derived.LoopIn
namespace Go.Proofs.Ytkoalabacfjgbaa
open Go.RowKit Go.Maps Go.Shelf
attribute [local go_sem] Oper.semAt_some

set_option maxRecDepth 100000 in
theorem Of_yes (w : World) (v : Value) (ls : List Sec) (h : Row w v ls) (h1 : 0 < ls.length) (h2 : ls.length ≤ 65536) : Calls Try.prog 6 #[v] w fun e w' => RetNew w w' e (fresh ls) := by
  have hne : ls ≠ [] := fun e => by rw [e] at h1; simp at h1
  obtain ⟨g, c, rfl, _⟩ := h.full hne
  obtain ⟨n, hn⟩ : ∃ n, n = ls.length := ⟨_, rfl⟩
  have HM := Lib.hid (may_yes (n : Int) w ⟨by omega, by omega⟩)
  have HC := Lib.hid (Clone_any w _ ls h hne (by omega))
  have HL : Hid (0 < ls.length ∧ ls.length ≤ 65536) := Lib.hid ⟨h1, h2⟩
  rw [← hn] at HC ⊢
  clear h h1 h2 hne hn
  go_enter Try.func6, Try.ntmps6
  go_wp2_with fail
  refine HM.out.mono ?_
  rintro e w' ⟨rfl, rfl⟩
  go_wp2_with fail
  refine HC.out.mono ?_
  rintro e w1 ⟨v1, rfl, hr, hf, hg⟩
  have HA := Lib.hid (lasting_any w1 _ _ hr HL.out.1 HL.out.2)
  have HG := Lib.hid hg
  have HF := Lib.hid hf
  clear hr hg hf HC HM
  go_wp2_with fail
  refine HA.out.mono ?_
  rintro e w2 ⟨p, rfl, hd, hg⟩
  have HD := Lib.hid hd
  have HG2 := Lib.hid (Gr.trans HG.out hg)
  have hs := HG.out.size
  clear hd hg
  go_wp2_with fail
  go_ret2
  refine ⟨_, _, rfl, HD.out, HG2.out, ?_⟩
  rintro k (hk | ⟨hk, _⟩)
  · exact HF.out k hk
  · omega

set_option maxRecDepth 100000 in
theorem Of_none (w : World) : Calls Try.prog 6 #[.slice none 0 0] w fun e w' => e = .returned (.tuple #[.pointer none, .int .i64 2]) ∧ w = w' := by
  have HM := Lib.hid (may_no 0 w (fun h => by have := h.1; omega))
  go_enter Try.func6, Try.ntmps6
  go_wp2_with fail
  refine HM.out.mono ?_
  rintro e w' ⟨rfl, rfl⟩
  go_wp2
  go_ret2
  exact ⟨rfl, rfl⟩

def SlE6 (g : Nat) (c : Nat) (q : Nat) (d : Nat) (n : Nat) (j : Nat) (S : Sec) (T : Sec) (slot : Nat) (v : Value) (_ : World) : Prop :=
  match slot with
  | 16 => v = .slice (some ⟨g, 0, none⟩) n c
  | 17 | 21 => v = .int .i64 j
  | 18 => v = .pointer (some ⟨g, j * 256, none⟩)
  | 19 => v = .agg (sec S)
  | 20 => v = .slice (some ⟨q, 0, none⟩) n d
  | 22 => v = .pointer (some ⟨q, j * 256, none⟩)
  | 23 => v = .agg (sec T)
  | 24 => v = .bool (!decide (S = T))
  | _ => True

set_option maxRecDepth 100000 in
set_option maxHeartbeats 1000000 in
theorem Equal_any (w : World) (v u : Value) (ss ts : List Sec) (h : Row w v ss) (k : Row w u ts) (h0 : 0 < ss.length) (hl : ss.length = ts.length) (hm : ss.length ≤ 65536) : Calls Try.prog 34 #[v, u] w fun e w' => e = .returned (.bool (decide (ss = ts))) ∧ Gr w w' := by
  obtain ⟨g, c, rfl, _⟩ := h.full (fun e => by rw [e] at h0; simp at h0)
  obtain ⟨q, d, rfl, _⟩ := k.full (fun e => by rw [e, List.length_nil] at hl; omega)
  rw [← hl]
  have HS := Lib.hid h
  have HT := Lib.hid (hl ▸ k)
  obtain ⟨n, hn⟩ : ∃ n, n = ss.length := ⟨_, rfl⟩
  have HN : Hid (ss.length = n ∧ ts.length = n) := Lib.hid ⟨hn.symm, by omega⟩
  rw [← hn]
  rw [← hn] at h0 hm
  clear h k hl hn
  go_enter Try.func34, Try.ntmps34
  go_wp2
  go_loopw [13] (fun i wr => ∃ j : Nat, j ≤ n ∧ i = .int .i64 j ∧ Hid (ss.take j = ts.take j) ∧ Hid (Gr w wr)) (fun i _ => n - (intOf i).toNat)
  case atStart => exact ⟨0, Nat.zero_le _, rfl, Lib.hid rfl, Lib.hid (Gr.refl w)⟩
  case round =>
    obtain ⟨j, hj, rfl, he, hg⟩ := hrel
    by_cases hlt : j < n
    · have hj1 : j < ss.length := by have := HN.out.1; omega
      have hj2 : j < ts.length := by have := HN.out.2; omega
      have hx := (HS.out.gr hg.out).lies j hj1
      have hy := (HT.out.gr hg.out).lies j hj2
      obtain ⟨S, hS⟩ : ∃ S, S = ss[j] := ⟨_, rfl⟩
      obtain ⟨T, hT⟩ : ∃ T, T = ts[j] := ⟨_, rfl⟩
      rw [← hS] at hx
      rw [← hT] at hy
      have HX : Hid (∀ W, Gr wr W → W.rangeAt g (j * 256) S.cells) := Lib.hid fun W gr k v hv => by
        have h1 := hx k v hv
        exact (Below.cell gr (p := ⟨g, j * 256 + k, none⟩) (World.block_lt_of_cell? _ _ h1)).trans h1
      have HY : Hid (∀ W, Gr wr W → W.rangeAt q (j * 256) T.cells) := Lib.hid fun W gr k v hv => by
        have h1 := hy k v hv
        exact (Below.cell gr (p := ⟨q, j * 256 + k, none⟩) (World.block_lt_of_cell? _ _ h1)).trans h1
      have HJ : Hid ((j : Int) < n ∧ j < n) := Lib.hid ⟨by omega, hlt⟩
      have HE : Hid (S = T → ss.take (j + 1) = ts.take (j + 1)) := Lib.hid fun e => by
        rw [List.take_succ_eq_append_getElem hj1, List.take_succ_eq_append_getElem hj2, he.out, ← hS, ← hT, e]
      have HN2 : Hid (S ≠ T → decide (ss = ts) = false) := Lib.hid fun e => decide_eq_false (fun e2 => e (by subst e2; rw [hS, hT]))
      clear hx hy hS hT hj1 hj2
      go_wp2
      refine Flow.region (SlE6 g c q d n j S T) (Gr wr) (fun _ _ => True) (by kernel_rfl) (by kernel_rfl) (fun _ _ _ _ h _ => h) ⟨rfl, rfl, rfl, Nat.le_refl _, fun _ _ => rfl⟩ ?steps ?fin
      case steps =>
        refine Flow.Steps.cons (fun a W hfr hinv hdep K hK => ?_) ?_
        · have s0 : a.tmps.getD 0 undef = .slice (some ⟨g, 0, none⟩) n c := hfr.at 0 (by kernel_rfl)
          have t0 : a.tmps[0]?.getD undef = .slice (some ⟨g, 0, none⟩) n c := by simpa using s0
          rw [if_pos (Flow.wanted_none rfl)]
          clear hfr hdep
          go_simp
          exact hK _ _ True.intro hinv (fun d hd => by cases hd; trivial)
        refine Flow.Steps.cons (fun a W hfr hinv hdep K hK => ?_) ?_
        · have s5 : a.tmps.getD 5 undef = .int .i64 j := hfr.at 5 (by kernel_rfl)
          have t5 : a.tmps[5]?.getD undef = .int .i64 j := by simpa using s5
          rw [if_pos (Flow.wanted_none rfl)]
          clear hfr hdep
          go_simp
          exact hK _ _ True.intro hinv (fun d hd => by cases hd; trivial)
        refine Flow.Steps.cons (fun a W hfr hinv hdep K hK => ?_) ?_
        · have s16 : a.tmps.getD 16 undef = .slice (some ⟨g, 0, none⟩) n c := hdep 16 (by kernel_rfl)
          have t16 : a.tmps[16]?.getD undef = .slice (some ⟨g, 0, none⟩) n c := by simpa using s16
          have s17 : a.tmps.getD 17 undef = .int .i64 j := hdep 17 (by kernel_rfl)
          have t17 : a.tmps[17]?.getD undef = .int .i64 j := by simpa using s17
          have hjn := HJ.out
          rw [if_pos (Flow.wanted_none rfl)]
          clear hfr hdep
          go_simp
          exact hK _ _ True.intro hinv (fun d hd => by cases hd; trivial)
        refine Flow.Steps.cons (fun a W hfr hinv hdep K hK => ?_) ?_
        · have s18 : a.tmps.getD 18 undef = .pointer (some ⟨g, j * 256, none⟩) := hdep 18 (by kernel_rfl)
          have t18 : a.tmps[18]?.getD undef = .pointer (some ⟨g, j * 256, none⟩) := by simpa using s18
          rw [if_pos (Flow.wanted_none rfl)]
          clear hfr hdep
          refine wp_load_sec (.tmp 18) rfl (HX.out W hinv) (by simpa [Act.eval] using s18) ?_
          exact hK _ _ True.intro hinv (fun d hd => by cases hd; trivial)
        refine Flow.Steps.cons (fun a W hfr hinv hdep K hK => ?_) ?_
        · have s1 : a.tmps.getD 1 undef = .slice (some ⟨q, 0, none⟩) n d := hfr.at 1 (by kernel_rfl)
          have t1 : a.tmps[1]?.getD undef = .slice (some ⟨q, 0, none⟩) n d := by simpa using s1
          rw [if_pos (Flow.wanted_none rfl)]
          clear hfr hdep
          go_simp
          exact hK _ _ True.intro hinv (fun d hd => by cases hd; trivial)
        refine Flow.Steps.cons (fun a W hfr hinv hdep K hK => ?_) ?_
        · have s5 : a.tmps.getD 5 undef = .int .i64 j := hfr.at 5 (by kernel_rfl)
          have t5 : a.tmps[5]?.getD undef = .int .i64 j := by simpa using s5
          rw [if_pos (Flow.wanted_none rfl)]
          clear hfr hdep
          go_simp
          exact hK _ _ True.intro hinv (fun d hd => by cases hd; trivial)
        refine Flow.Steps.cons (fun a W hfr hinv hdep K hK => ?_) ?_
        · have s20 : a.tmps.getD 20 undef = .slice (some ⟨q, 0, none⟩) n d := hdep 20 (by kernel_rfl)
          have t20 : a.tmps[20]?.getD undef = .slice (some ⟨q, 0, none⟩) n d := by simpa using s20
          have s21 : a.tmps.getD 21 undef = .int .i64 j := hdep 21 (by kernel_rfl)
          have t21 : a.tmps[21]?.getD undef = .int .i64 j := by simpa using s21
          have hjn := HJ.out
          rw [if_pos (Flow.wanted_none rfl)]
          clear hfr hdep
          go_simp
          exact hK _ _ True.intro hinv (fun d hd => by cases hd; trivial)
        refine Flow.Steps.cons (fun a W hfr hinv hdep K hK => ?_) ?_
        · have s22 : a.tmps.getD 22 undef = .pointer (some ⟨q, j * 256, none⟩) := hdep 22 (by kernel_rfl)
          have t22 : a.tmps[22]?.getD undef = .pointer (some ⟨q, j * 256, none⟩) := by simpa using s22
          rw [if_pos (Flow.wanted_none rfl)]
          clear hfr hdep
          refine wp_load_sec (.tmp 22) rfl (HY.out W hinv) (by simpa [Act.eval] using s22) ?_
          exact hK _ _ True.intro hinv (fun d hd => by cases hd; trivial)
        refine Flow.Steps.cons (fun a W hfr hinv hdep K hK => ?_) ?_
        · have s19 : a.tmps.getD 19 undef = .agg (sec S) := hdep 19 (by kernel_rfl)
          have t19 : a.tmps[19]?.getD undef = .agg (sec S) := by simpa using s19
          have s23 : a.tmps.getD 23 undef = .agg (sec T) := hdep 23 (by kernel_rfl)
          have t23 : a.tmps[23]?.getD undef = .agg (sec T) := by simpa using s23
          have hq := eqi_sec
          rw [if_pos (Flow.wanted_none rfl)]
          clear hfr hdep
          go_simp
          exact hK _ _ True.intro hinv (fun d hd => by cases hd; trivial)
        exact True.intro
      case fin =>
        intro a W hfr hfin hsl
        have s24 : a.tmps.getD 24 undef = .bool (!decide (S = T)) := hsl 8 _ 24 rfl rfl
        have t24 : a.tmps[24]?.getD undef = .bool (!decide (S = T)) := by simpa using s24
        have e := Flow.frame hfr [16, 17, 18, 19, 20, 21, 22, 23, 24] (List.range 26) (by kernel_rfl) (by kernel_rfl)
        simp [List.range, List.range.loop] at e
        rw [t24] at e
        rw [e]
        clear e hfr hsl s24 t24
        rename_i K2 hK2
        refine hK2 _ _ ?_
        cases hd : decide (S = T)
        · have hf := Lib.hid (HN2.out (of_decide_eq_false hd))
          clear HE HN2
          go_wp2
          go_ret
          exact ⟨ret_b hf.out.symm, Gr.trans hg.out hfin⟩
        · have hs2 := Lib.hid (HE.out (of_decide_eq_true hd))
          have hg2 := Lib.hid (Gr.trans hg.out hfin)
          clear hfin
          go_wp2
          go_roundw
          case rel => exact ⟨j + 1, by omega, by go_num, hs2, hg2⟩
          case measure => simp [intOf]; omega
    · obtain rfl : j = n := by omega
      have hst : ss = ts := by
        have h1 := he.out
        rw [List.take_of_length_le (by have := HN.out.1; omega), List.take_of_length_le (by have := HN.out.2; omega)] at h1
        exact h1
      have hd : Hid (decide (ss = ts) = true) := Lib.hid (by simp [hst])
      clear hst
      go_wp2
      go_ret
      exact ⟨ret_b hd.out.symm, hg.out⟩

/-! ### Going over all sectors -/
abbrev SX : Type := Nat × Sec
abbrev encX (x : SX) : Array Value := #[.int .i64 x.1, .agg (sec x.2)]
theorem each_any (p : Value) (hp : ∃ a, p = .pointer a) (w : World) : Calls Try.prog 33 #[p] w fun e w' => e = .returned (.func (.func 39) #[] #[.pointer (some ⟨w.heap.size, 0, none⟩)]) ∧ w.alloc (.cells #[p] 29) = w' := by
  obtain ⟨a, rfl⟩ := hp
  go_enter Try.func33, Try.ntmps33
  go_wp2_with fail
  go_ret
  exact ⟨rfl, rfl⟩

theorem firm_map {w : World} {m q N : Nat} {L : Nat → Value} {t : Nat → List Sec} (h : Loose w m q N L t) : ∃ o, w.heap[m]? = some o ∧ firm o = true := by
  obtain ⟨D, n, ⟨es, clock, hb, _⟩, _⟩ := h
  exact ⟨_, hb, rfl⟩
/-- A disk stays where its blocks are held. -/
theorem DkAt.held {w w' : World} {F : Nat → Prop} {b : Nat} {lv : Value} {m : Nat} {L : Nat → Value} {s : St} (h : DkAt w F b lv m L s) (g : HoldS firm F w w') : DkAt w' F b lv m L s := by
  refine ⟨h.ok, ?_, h.ls.stays fun k hk => ?_, h.map.stays ?_, fun i => (h.rows i).stays fun k hk => ?_, h.apart, h.apart0, h.ownB, h.ownM, h.ownL, h.ownR, fun k hk => Nat.lt_of_lt_of_le (h.low k hk) g.size⟩
  · exact g.same b _ h.ownB h.blk rfl
  · obtain ⟨cs, hc⟩ := h.ls.kind hk
    exact (g.same k _ (h.ownL k hk) hc rfl).trans hc.symm
  · obtain ⟨o, ho, hf⟩ := firm_map h.map
    exact (g.same m o h.ownM ho hf).trans ho.symm
  · obtain ⟨cs, hc⟩ := (h.rows i).kind hk
    exact (g.same k _ (h.ownR i k hk) hc rfl).trans hc.symm

set_option maxRecDepth 100000 in
set_option maxHeartbeats 4000000 in
theorem each1_told (n : Nat) (hn : 2 ≤ n) (Bd : Nat) (F : Nat → Prop) (b : Nat) (lv : Value) (m : Nat) (L : Nat → Value) (s : St) (w : World) (hc : Blk w Bd 29 #[.pointer (some ⟨b, 0, none⟩)]) (h : DkAt w F b lv m L s) :
    SeqTold Fence.wide n Try.prog 39 #[.pointer (some ⟨Bd, 0, none⟩)] encX (fun pre x _ => x.1 = pre.length ∧ x.1 < s.ls.length ∧ x.2 = s.nw x.1) (fun k => F k ∨ k = Bd) (fun ys => ys = (List.range s.ls.length).map fun i => (i, s.nw i)) (fun _ => True) w := fun l J Jx W hW hJ hJx hY h0 => by
  have h1 : 1 ≤ n := by omega
  have HJ := Lib.hid hJ
  have HY := Lib.hid hY
  have H0 := Lib.hid h0
  have HD := Lib.hid (h.gr hW)
  have HB : Hid (Blk W Bd 29 #[.pointer (some ⟨b, 0, none⟩)]) := Lib.hid (hc.gr hW)
  have hN1 := h.ok.most
  have HSE := Lib.hid (fun V (hv : DkAt V F b lv m L s) => Sectors_any V ⟨b, lv, m, L, rfl, hv⟩)
  have HNW := Lib.hid (fun V (hv : DkAt V F b lv m L s) i hi => newest_any V hv i hi)
  clear hW hJ hJx hY h0 h hc
  refine callsIn_of_wp Try.func39 rfl trivial ?_ rfl
  simp only [Try.ntmps39, List.size_toArray, List.length_cons, List.length_nil, Nat.reduceAdd, Nat.reduceSub, Array.replicate_succ, Array.replicate_zero, List.push_toArray, List.append_toArray, List.nil_append, List.cons_append]
  have c0 := HB.out.cell 0
  simp at c0
  gi_wp2_with fail
  refine ⟨trivial, ?_⟩
  refine (callsIn_wide.2 (HSE.out _ HD.out)).mono ?_
  rintro e1 V ⟨rfl, rfl⟩
  obtain ⟨N, hN⟩ : ∃ N, N = s.ls.length := ⟨_, rfl⟩
  rw [← hN] at hN1 HY ⊢
  have HNN := Lib.hid hN
  clear c0 hN
  gi_wp2_with fail
  gi_loopw [6] (fun iv wr => ∃ (i : Nat), i ≤ N ∧ iv = .int .i64 i ∧ Hid (DkAt wr F b lv m L s ∧ Blk wr Bd 29 #[.pointer (some ⟨b, 0, none⟩)] ∧ J ((List.range i).map fun i => (i, s.nw i)) wr)) (fun iv _ => N - (intOf iv).toNat)
  case atStart => exact ⟨0, Nat.zero_le _, rfl, Lib.hid ⟨HD.out, HB.out, H0.out⟩⟩
  case round =>
    obtain ⟨i, hi, rfl, hh⟩ := hrel
    by_cases hlt : i < N
    · have c0 := hh.out.2.1.cell 0
      simp at c0
      have HNW1 := Lib.hid (HNW.out _ hh.out.1 i (by have := HNN.out; omega))
      gi_wp2_with fail
      refine ⟨trivial, ?_⟩
      refine (callsIn_wide.2 HNW1.out).mono ?_
      rintro e1 V ⟨rfl, g1⟩
      obtain ⟨fn, tmps, assign, body, hyl, hR⟩ := HY.out _ (i, s.nw i) V (HJ.out _ _ _ none hh.out.2.2 ⟨g1.os, g1.tape, g1.output, g1.size, fun k hk _ => g1.block k hk⟩ (fun r e => by cases e)) ⟨by simp, hlt, rfl⟩
      dsimp only [encX] at hyl
      have HR := Lib.hid hR
      have hh1 : Hid (DkAt V F b lv m L s ∧ Blk V Bd 29 #[.pointer (some ⟨b, 0, none⟩)]) := Lib.hid ⟨hh.out.1.gr g1, hh.out.2.1.gr g1⟩
      clear hR g1 hh HNW1 c0
      gi_wp2_with fail
      refine HR.out.mono ?_
      rintro e2 V' (⟨rfl, hj2, hk⟩ | ⟨rfl, hx2⟩)
      · have hh2 : Hid (DkAt V' F b lv m L s ∧ Blk V' Bd 29 #[.pointer (some ⟨b, 0, none⟩)] ∧ J ((List.range (i + 1)).map fun i => (i, s.nw i)) V') := Lib.hid ⟨hh1.out.1.held ⟨hk.size, fun k o h => hk.same k o (.inl h)⟩, hk.same Bd _ (.inr rfl) hh1.out.2 rfl, by rw [List.range_succ, List.map_append]; exact hj2⟩
        clear hk hj2 hh1 HR hyl
        gi_wp2_with fail
        go_roundw
        case rel => exact ⟨i + 1, by omega, by go_num, hh2⟩
        case measure => simp [intOf]; omega
      · gi_wp2_with fail
        refine bodyPost_ret (results_none rfl _ _ _) rfl ?_
        exact ⟨⟨_, rfl⟩, .inr ⟨_, trivial, hx2⟩⟩
    · obtain rfl : i = N := by omega
      gi_wp2_with fail
      go_end0
      exact ⟨⟨_, rfl⟩, .inl ⟨_, by rw [← HNN.out], hh.out.2.2⟩⟩

end Go.Proofs.Ytkoalabacfjgbaa
