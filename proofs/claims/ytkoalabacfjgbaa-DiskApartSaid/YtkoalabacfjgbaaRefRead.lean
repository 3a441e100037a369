
/-
  The document's disk: a sector is read.
-/
import Derived.Test.YtkoalabacfjgbaaRf
namespace Go.Proofs.Ytkoalabacfjgbaa
open Go.RowKit Go.Maps

/-- What the region's slots hold. -/
def Sr (b gs cs N g n c i h k : Nat) (x : Sec) (d : Nat) (v : Value) (_ : World) : Prop :=
  match d with
  | 5 | 6 | 7 | 12 | 13 | 14 => v = .pointer (some ⟨b, 0, none⟩)
  | 8 | 15 => v = .slice (some ⟨gs, 0, none⟩) N cs
  | 9 | 16 => v = .int .i64 (i : Int)
  | 10 | 17 => v = .pointer (some ⟨gs, i, none⟩)
  | 11 | 18 => v = .slice (some ⟨g, 0, none⟩) (k + 1) c
  | 19 => v = .int .i64 ((k + 1 : Nat) : Int)
  | 20 => v = .int .i64 (k : Int)
  | 21 => v = .pointer (some ⟨g, k * 256, none⟩)
  | 22 => v = .agg (sec x)
  | _ => True
def Fr (W0 : World) (h : Nat) (x : Sec) (w : World) : Prop := ∃ w1, Gr W0 w1 ∧ w = w1.setRow h (sec x)

set_option maxRecDepth 100000 in
set_option maxHeartbeats 2000000 in
theorem refRead_any {G : Nat → Prop} {r : Value} {s : St} (w : World) (h : Rf w G r s) (i : Nat) (hi : i < s.ls.length) : Calls Try.prog 13 #[r, .int .i64 (i : Int)] w fun e w' => e = .returned (.agg (sec (s.nw i))) ∧ Gr w w' := by
  obtain ⟨b, gs, cs, V, rfl, h⟩ := h
  have hi2 : (i : Int) < 65536 := by have := h.most; omega
  obtain ⟨wc, hwc⟩ : ∃ wc, wc = w.alloc (.cells (sec Sec.zero) TS) := ⟨_, rfl⟩
  have hg : Gr w wc := by rw [hwc]; exact (Gr.refl w).alloc (Nat.le_refl _) _
  have h' := h.gr hg
  have HN : Hid (Blk wc w.heap.size TS (sec Sec.zero)) := Lib.hid (by rw [hwc]; exact Blk.new w TS (sec Sec.zero))
  have HZ := Lib.hid zero_sec
  obtain ⟨g, c, hv, _, hc1, hc2⟩ := (h'.rows i hi).full (at_ne s i)
  rw [at_len] at hv hc1
  obtain ⟨k, hk⟩ : ∃ k, k = (s.t i).length := ⟨_, rfl⟩
  rw [← hk] at hv hc1
  obtain ⟨x, hx⟩ : ∃ x, x = s.nw i := ⟨_, rfl⟩
  have hrow : Row wc (.slice (some ⟨g, 0, none⟩) (k + 1) c) (s.at i) := by rw [← hv]; exact h'.rows i hi
  have hkl : k < (s.at i).length := by rw [at_len, ← hk]; omega
  have hxx : (s.at i)[k] = x := by
    subst hk; rw [hx]; exact at_last s i hkl
  obtain ⟨N, hN⟩ : ∃ N, N = s.ls.length := ⟨_, rfl⟩
  have HA : Hid (∀ W, Gr wc W → W.cell? ⟨b, 0, none⟩ = some (.slice (some ⟨gs, 0, none⟩) N cs)) := Lib.hid fun W e => by rw [hN]; exact (h'.gr e).cells.1
  have HB : Hid (∀ W, Gr wc W → W.cell? ⟨gs, i, none⟩ = some (.slice (some ⟨g, 0, none⟩) (k + 1) c)) := Lib.hid fun W e => by rw [← hv]; exact (h'.gr e).outer.cell i hi
  have HL : Hid (∀ W, Gr wc W → W.rangeAt g (k * 256) x.cells) := Lib.hid fun W e => by rw [← hxx]; exact (hrow.gr e).lies k hkl
  have HC : Hid (k + 1 ≤ 9223372036854775807) := Lib.hid (by unfold maxLen at hc2; omega)
  have hiN : i < N := by rw [hN]; exact hi
  have HG := Lib.hid hg
  have hlt : w.heap.size < wc.heap.size := by rw [hwc]; simp
  rw [← hx]
  clear h h' hv hc1 hc2 hk hrow hkl hxx hN hx hi hg
  go_enter Try.func13, Try.ntmps13
  have hz := HZ.out
  clear HZ
  go_wp2_with fail
  rw [← hwc]
  clear hwc hz
  refine Flow.regionZ 18 18 (by kernel_rfl) [] 20 (Sr b gs cs N g (k + 1) c i w.heap.size k x) (Gr wc) (Fr wc w.heap.size x) (fun _ => True) (fun _ _ _ => True) (by kernel_rfl) (by kernel_rfl) (by kernel_rfl) (fun _ _ _ _ _ _ h _ => h) ⟨rfl, rfl, rfl, Nat.le_refl _, fun _ _ => rfl⟩ True.intro ?steps ?fin
  case fin =>
    intro a W hfr hfin hsl
    clear hsl
    have e := Flow.frame hfr [5, 6, 7, 8, 9, 10, 11, 12, 13, 14, 15, 16, 17, 18, 19, 20, 21, 22] (List.range 23) (by kernel_rfl) (by kernel_rfl)
    simp [List.range, List.range.loop] at e
    rw [e]
    clear e hfr
    obtain ⟨w1, hg1, rfl⟩ := hfin
    rename_i K hK
    refine hK _ _ ?_
    go_wp2_with fail
    exact bodyPost_ret (results_sec rfl _ _ _ _ rfl ((HN.out.gr hg1).row _)) rfl ⟨rfl, below_setRow (Gr.trans HG.out hg1) (Nat.le_refl _) _⟩
  case steps =>
    refine Flow.StepsZ.cons (fun a W hfr hinv hear hdep K hK => ?_) ?_
    · have s0 : a.tmps.getD 0 undef = .pointer (some ⟨b, 0, none⟩) := hfr.at 0 (by kernel_rfl)
      have t0 : a.tmps[0]?.getD undef = .pointer (some ⟨b, 0, none⟩) := by simpa using s0
      rw [if_pos (Flow.wanted_none rfl)]
      clear hfr hdep hear
      go_simp
      exact hK _ _ True.intro hinv (fun _ => True.intro) (fun d hd => by cases hd; rfl)
    refine Flow.StepsZ.cons (fun a W hfr hinv hear hdep K hK => ?_) ?_
    · have s5 : a.tmps.getD 5 undef = .pointer (some ⟨b, 0, none⟩) := hdep 5 (by kernel_rfl)
      have t5 : a.tmps[5]?.getD undef = .pointer (some ⟨b, 0, none⟩) := by simpa using s5
      rw [if_pos (Flow.wanted_none rfl)]
      clear hfr hdep hear
      go_simp
      exact hK _ _ True.intro hinv (fun _ => True.intro) (fun d hd => by cases hd; rfl)
    refine Flow.StepsZ.cons (fun a W hfr hinv hear hdep K hK => ?_) ?_
    · have s6 : a.tmps.getD 6 undef = .pointer (some ⟨b, 0, none⟩) := hdep 6 (by kernel_rfl)
      have t6 : a.tmps[6]?.getD undef = .pointer (some ⟨b, 0, none⟩) := by simpa using s6
      rw [if_pos (Flow.wanted_none rfl)]
      clear hfr hdep hear
      go_simp
      exact hK _ _ True.intro hinv (fun _ => True.intro) (fun d hd => by cases hd; rfl)
    refine Flow.StepsZ.cons (fun a W hfr hinv hear hdep K hK => ?_) ?_
    · have s7 : a.tmps.getD 7 undef = .pointer (some ⟨b, 0, none⟩) := hdep 7 (by kernel_rfl)
      have t7 : a.tmps[7]?.getD undef = .pointer (some ⟨b, 0, none⟩) := by simpa using s7
      have hc := HA.out W hinv
      rw [if_pos (Flow.wanted_none rfl)]
      clear hfr hdep hear
      go_simp
      exact hK _ _ True.intro hinv (fun _ => True.intro) (fun d hd => by cases hd; rfl)
    refine Flow.StepsZ.cons (fun a W hfr hinv hear hdep K hK => ?_) ?_
    · have s1 : a.tmps.getD 1 undef = .int .i64 (i : Int) := hfr.at 1 (by kernel_rfl)
      have t1 : a.tmps[1]?.getD undef = .int .i64 (i : Int) := by simpa using s1
      rw [if_pos (Flow.wanted_none rfl)]
      clear hfr hdep hear
      go_simp
      exact hK _ _ True.intro hinv (fun _ => True.intro) (fun d hd => by cases hd; rfl)
    refine Flow.StepsZ.cons (fun a W hfr hinv hear hdep K hK => ?_) ?_
    · have s8 : a.tmps.getD 8 undef = .slice (some ⟨gs, 0, none⟩) N cs := hdep 8 (by kernel_rfl)
      have t8 : a.tmps[8]?.getD undef = .slice (some ⟨gs, 0, none⟩) N cs := by simpa using s8
      have s9 : a.tmps.getD 9 undef = .int .i64 (i : Int) := hdep 9 (by kernel_rfl)
      have t9 : a.tmps[9]?.getD undef = .int .i64 (i : Int) := by simpa using s9
      rw [if_pos (Flow.wanted_none rfl)]
      clear hfr hdep hear
      go_simp
      exact hK _ _ True.intro hinv (fun _ => True.intro) (fun d hd => by cases hd; rfl)
    refine Flow.StepsZ.cons (fun a W hfr hinv hear hdep K hK => ?_) ?_
    · have s10 : a.tmps.getD 10 undef = .pointer (some ⟨gs, i, none⟩) := hdep 10 (by kernel_rfl)
      have t10 : a.tmps[10]?.getD undef = .pointer (some ⟨gs, i, none⟩) := by simpa using s10
      have hc := HB.out W hinv
      rw [if_pos (Flow.wanted_none rfl)]
      clear hfr hdep hear
      go_simp
      exact hK _ _ True.intro hinv (fun _ => True.intro) (fun d hd => by cases hd; rfl)
    refine Flow.StepsZ.cons (fun a W hfr hinv hear hdep K hK => ?_) ?_
    · have s0 : a.tmps.getD 0 undef = .pointer (some ⟨b, 0, none⟩) := hfr.at 0 (by kernel_rfl)
      have t0 : a.tmps[0]?.getD undef = .pointer (some ⟨b, 0, none⟩) := by simpa using s0
      rw [if_pos (Flow.wanted_none rfl)]
      clear hfr hdep hear
      go_simp
      exact hK _ _ True.intro hinv (fun _ => True.intro) (fun d hd => by cases hd; rfl)
    refine Flow.StepsZ.cons (fun a W hfr hinv hear hdep K hK => ?_) ?_
    · have s12 : a.tmps.getD 12 undef = .pointer (some ⟨b, 0, none⟩) := hdep 12 (by kernel_rfl)
      have t12 : a.tmps[12]?.getD undef = .pointer (some ⟨b, 0, none⟩) := by simpa using s12
      rw [if_pos (Flow.wanted_none rfl)]
      clear hfr hdep hear
      go_simp
      exact hK _ _ True.intro hinv (fun _ => True.intro) (fun d hd => by cases hd; rfl)
    refine Flow.StepsZ.cons (fun a W hfr hinv hear hdep K hK => ?_) ?_
    · have s13 : a.tmps.getD 13 undef = .pointer (some ⟨b, 0, none⟩) := hdep 13 (by kernel_rfl)
      have t13 : a.tmps[13]?.getD undef = .pointer (some ⟨b, 0, none⟩) := by simpa using s13
      rw [if_pos (Flow.wanted_none rfl)]
      clear hfr hdep hear
      go_simp
      exact hK _ _ True.intro hinv (fun _ => True.intro) (fun d hd => by cases hd; rfl)
    refine Flow.StepsZ.cons (fun a W hfr hinv hear hdep K hK => ?_) ?_
    · have s14 : a.tmps.getD 14 undef = .pointer (some ⟨b, 0, none⟩) := hdep 14 (by kernel_rfl)
      have t14 : a.tmps[14]?.getD undef = .pointer (some ⟨b, 0, none⟩) := by simpa using s14
      have hc := HA.out W hinv
      rw [if_pos (Flow.wanted_none rfl)]
      clear hfr hdep hear
      go_simp
      exact hK _ _ True.intro hinv (fun _ => True.intro) (fun d hd => by cases hd; rfl)
    refine Flow.StepsZ.cons (fun a W hfr hinv hear hdep K hK => ?_) ?_
    · have s1 : a.tmps.getD 1 undef = .int .i64 (i : Int) := hfr.at 1 (by kernel_rfl)
      have t1 : a.tmps[1]?.getD undef = .int .i64 (i : Int) := by simpa using s1
      rw [if_pos (Flow.wanted_none rfl)]
      clear hfr hdep hear
      go_simp
      exact hK _ _ True.intro hinv (fun _ => True.intro) (fun d hd => by cases hd; rfl)
    refine Flow.StepsZ.cons (fun a W hfr hinv hear hdep K hK => ?_) ?_
    · have s15 : a.tmps.getD 15 undef = .slice (some ⟨gs, 0, none⟩) N cs := hdep 15 (by kernel_rfl)
      have t15 : a.tmps[15]?.getD undef = .slice (some ⟨gs, 0, none⟩) N cs := by simpa using s15
      have s16 : a.tmps.getD 16 undef = .int .i64 (i : Int) := hdep 16 (by kernel_rfl)
      have t16 : a.tmps[16]?.getD undef = .int .i64 (i : Int) := by simpa using s16
      rw [if_pos (Flow.wanted_none rfl)]
      clear hfr hdep hear
      go_simp
      exact hK _ _ True.intro hinv (fun _ => True.intro) (fun d hd => by cases hd; rfl)
    refine Flow.StepsZ.cons (fun a W hfr hinv hear hdep K hK => ?_) ?_
    · have s17 : a.tmps.getD 17 undef = .pointer (some ⟨gs, i, none⟩) := hdep 17 (by kernel_rfl)
      have t17 : a.tmps[17]?.getD undef = .pointer (some ⟨gs, i, none⟩) := by simpa using s17
      have hc := HB.out W hinv
      rw [if_pos (Flow.wanted_none rfl)]
      clear hfr hdep hear
      go_simp
      exact hK _ _ True.intro hinv (fun _ => True.intro) (fun d hd => by cases hd; rfl)
    refine Flow.StepsZ.cons (fun a W hfr hinv hear hdep K hK => ?_) ?_
    · have s18 : a.tmps.getD 18 undef = .slice (some ⟨g, 0, none⟩) (k + 1) c := hdep 18 (by kernel_rfl)
      have t18 : a.tmps[18]?.getD undef = .slice (some ⟨g, 0, none⟩) (k + 1) c := by simpa using s18
      rw [if_pos (Flow.wanted_none rfl)]
      clear hfr hdep hear
      go_simp
      exact hK _ _ True.intro hinv (fun _ => True.intro) (fun d hd => by cases hd; rfl)
    refine Flow.StepsZ.cons (fun a W hfr hinv hear hdep K hK => ?_) ?_
    · have s19 : a.tmps.getD 19 undef = .int .i64 ((k + 1 : Nat) : Int) := hdep 19 (by kernel_rfl)
      have t19 : a.tmps[19]?.getD undef = .int .i64 ((k + 1 : Nat) : Int) := by simpa using s19
      have hwr : IntKind.i64.wrap (k : Int) = (k : Int) := by have := HC.out; rw [IntKind.wrap_i64]; omega
      rw [if_pos (Flow.wanted_none rfl)]
      clear hfr hdep hear
      go_simp
      exact hK _ _ True.intro hinv (fun _ => True.intro) (fun d hd => by cases hd; rfl)
    refine Flow.StepsZ.cons (fun a W hfr hinv hear hdep K hK => ?_) ?_
    · have s11 : a.tmps.getD 11 undef = .slice (some ⟨g, 0, none⟩) (k + 1) c := hdep 11 (by kernel_rfl)
      have t11 : a.tmps[11]?.getD undef = .slice (some ⟨g, 0, none⟩) (k + 1) c := by simpa using s11
      have s20 : a.tmps.getD 20 undef = .int .i64 (k : Int) := hdep 20 (by kernel_rfl)
      have t20 : a.tmps[20]?.getD undef = .int .i64 (k : Int) := by simpa using s20
      have hkk : (k : Int) < (k : Int) + 1 := by omega
      rw [if_pos (Flow.wanted_none rfl)]
      clear hfr hdep hear
      go_simp
      exact hK _ _ True.intro hinv (fun _ => True.intro) (fun d hd => by cases hd; rfl)
    refine Flow.StepsZ.cons (fun a W hfr hinv hear hdep K hK => ?_) ?_
    · have s21 : a.tmps.getD 21 undef = .pointer (some ⟨g, k * 256, none⟩) := hdep 21 (by kernel_rfl)
      have t21 : a.tmps[21]?.getD undef = .pointer (some ⟨g, k * 256, none⟩) := by simpa using s21
      rw [if_pos (Flow.wanted_none rfl)]
      clear hfr hdep
      refine wp_load_sec (.tmp 21) rfl (HL.out W hinv) (by simpa [Act.eval] using s21) ?_
      exact hK _ _ True.intro hinv (fun _ => True.intro) (fun d hd => by cases hd; rfl)
    refine Flow.StepsZ.cons (fun a W hfr hinv hear hdep K hK => ?_) ?_
    · have s4 : a.tmps.getD 4 undef = .pointer (some ⟨w.heap.size, 0, none⟩) := hfr.at 4 (by kernel_rfl)
      have t4 : a.tmps[4]?.getD undef = .pointer (some ⟨w.heap.size, 0, none⟩) := by simpa using s4
      have s22 : a.tmps.getD 22 undef = .agg (sec x) := hdep 22 (by kernel_rfl)
      have t22 : a.tmps[22]?.getD undef = .agg (sec x) := by simpa using s22
      rw [if_pos (Flow.wanted_none rfl)]
      clear hfr hdep
      refine wp_store_row TS (.tmp 4) (.tmp 22) rfl w.heap.size (sec x) (by simpa [Act.eval] using s4) (by simpa [Act.eval] using s22) TS (sec Sec.zero) (HN.out.gr hinv) (by rw [sec_size]; exact size_sec) (by rw [sec_size, sec_size]) (sec_one x) ?_
      exact hK _ _ True.intro ⟨W, hinv, rfl⟩ True.intro (fun d hd => by cases hd)
    exact True.intro

end Go.Proofs.Ytkoalabacfjgbaa
