/-
  The law DiskLasts, walked.
-/
import Derived.Test.YtepabjfkelmdoaaDiskPlaysWalk
import Derived.Test.YtepabjfkelmdoaaFlowG
namespace Go.Proofs.Ytepabjfkelmdoaa
open Go.RowKit Go.Maps

theorem crash_nw (s : St) (zs : List Int) (i : Nat) (hi : i < s.ls.length) : (s.crash zs).nw i = s.chosen zs i := by
  unfold St.crash fresh St.nw
  simp [List.getD, hi]
theorem chosen_in (s : St) (zs : List Int) (i : Nat) : ∃ j, j < (s.at i).length ∧ (s.at i).getD j Sec.zero = s.chosen zs i :=
  ⟨s.pickOf zs i % ((s.t i).length + 1), by rw [at_len]; exact Nat.mod_lt _ (by omega), (chosen_at s zs i).symm⟩
theorem barrier_nw (s : St) (i : Nat) (hi : i < s.ls.length) : s.barrier.nw i = s.nw i := by
  rw [nw_none (by rfl)]
  unfold St.barrier
  simp [List.getD, hi]
theorem barrier_crash_nw (s : St) (zs : List Int) (i : Nat) (hi : i < s.ls.length) : (s.barrier.crash zs).nw i = s.barrier.nw i := by
  rw [crash_nw _ zs i (by simpa [St.barrier] using hi), chosen_none (by rfl), nw_none (by rfl)]
theorem barrier_loose (s : St) : s.barrier.loose = [] := by
  unfold St.loose St.barrier
  simp

/-- What the region's slots hold. -/
def Slt (rb gs N cs i gu m cu k _n8 : Nat) (S T : Sec) (d : Nat) (v : Value) (_ : World) : Prop :=
  match d with
  | 96 | 97 => v = .bool false
  | 98 => v = .agg (sec S)
  | 99 | 100 | 101 => v = .pointer (some ⟨rb, 0, none⟩)
  | 102 => v = .slice (some ⟨gs, 0, none⟩) N cs
  | 103 => v = .int .i64 (i : Int)
  | 104 => v = .pointer (some ⟨gs, i, none⟩)
  | 105 => v = .slice (some ⟨gu, 0, none⟩) m cu
  | 106 => v = .int .i64 (k : Int)
  | 107 => v = .pointer (some ⟨gu, k * 256, none⟩)
  | 108 => v = .agg (sec T)
  | 109 | 110 | 16 => v = .bool (decide (S = T))
  | _ => True

set_option maxRecDepth 100000 in
set_option maxHeartbeats 8000000 in
theorem diskLasts_main (N : Nat) (h1 : 1 ≤ N) (h2 : N ≤ 60) (q : Option Addr) (m c : Nat) (hm : m ≤ 60) (f : Nat → Do) (q2 : Option Addr) (m2 c2 : Nat) (zs : List Int) (hm2 : m2 ≤ 200) (w : World) (hf : Acts w q m f) (hz : Nums w q2 m2 c2 zs) :
    Calls Try.prog 4 #[.int .i64 (N : Int), .slice q m c, .slice q2 m2 c2] w fun e w' => RetTrue w e w' := by
  have HA := Lib.hid hf
  have HZs := Lib.hid hz
  obtain ⟨i0, hi, hz0, hz1, hz2⟩ := info_parts info_sec
  have HI := Lib.hid hi
  have HZ0 := Lib.hid hz0
  have HZ1 := Lib.hid hz1
  have HZ2 := Lib.hid hz2
  clear hi hz0 hz1 hz2 hf hz
  go_enter Try.func4, Try.ntmps4
  go_wp2_with fail
  refine (New_yes N _ ⟨by omega, by omega⟩).mono ?_
  rintro e w1 ⟨d, F, rfl, hd, hg, hfar⟩
  have HD1 := Lib.hid hd
  have HG1 := Lib.hid hg
  have HF1 := Lib.hid hfar
  clear hd hg hfar
  go_wp2_with (at_make; refine wpList_make_full _ rfl _ _ TL rfl 0 TS i0 (.agg (sec Sec.zero)) 256 Try.underlying30 HI.out HZ0.out HZ1.out _ _ _ _ N rfl rfl rfl rfl ?b1 ?b2 (Nat.zero_le _) ?_)
  case b1 => rw [HZ2.out]; omega
  case b2 => unfold maxLen; omega
  intro w2 hown hgrow
  have hz := made_zero N
  simp only [Value.cells] at hz
  rw [hz] at hown
  clear hz
  have hr : Row w2 (.slice (some ⟨w1.heap.size, 0, none⟩) N N) (List.replicate N Sec.zero) := by
    unfold Row
    rw [List.length_replicate]
    exact hown
  have HG2 : Hid (Gr w1 w2) := Lib.hid ((Gr.refl w1).grown hgrow (Nat.le_refl _) (fun k e => by cases e))
  have HC := Lib.hid (refNew_any w2 _ _ hr (by rw [List.length_replicate]; omega) (by rw [List.length_replicate]; omega))
  clear hown hgrow hr
  go_wp2_with fail
  refine HC.out.mono ?_
  rintro e w3 ⟨p, G, rfl, hr, hg3, hG3⟩
  have HO : Hid (OwnP w w3 d p (fresh (List.replicate N Sec.zero))) := Lib.hid (OwnP.made HD1.out HG1.out HF1.out HG2.out hr hg3 hG3)
  clear hr hg3 hG3 HC HG2 HD1 HG1 HF1 HI HZ0 HZ1 HZ2
  go_wp2_with fail
  go_loopw [7, 9, 10, 11] (fun dv rv ok i wr => ∃ (k : Nat) (p r : Value) (s : St), k ≤ m ∧ i = .int .i64 k ∧ ok = .bool true ∧ p = dv ∧ r = rv ∧ Hid (OwnP w wr p r s) ∧ Hid (s.ls.length = N ∧ s.writes ≤ k)) (fun _ _ _ i _ => m - (intOf i).toNat)
  case atStart => exact ⟨0, _, _, _, Nat.zero_le _, rfl, rfl, rfl, rfl, HO, Lib.hid ⟨by simp [fresh], Nat.le_refl _⟩⟩
  case round =>
    obtain ⟨k, p, r, s, hk, rfl, rfl, rfl, rfl, ho, hs⟩ := hrel
    by_cases hlt : k < m
    · have hact := HA.out.gr ho.out.grown
      obtain ⟨b2, o2, rfl, hc2⟩ := hact.2 (by omega)
      obtain ⟨hok, qa, na, ca, hr2, hn2⟩ := hc2 k hlt
      obtain ⟨a, ha⟩ : ∃ a, a = f k := ⟨_, rfl⟩
      rw [← ha] at hok hr2 hn2
      have HR := Lib.hid hr2
      have HSz : Hid ((a.val (.slice qa na ca)).size = 5) := Lib.hid (act_size a _)
      have HDo := Lib.hid (ho.out.does a hok qa na ca hn2 (by have := hs.out.2; omega))
      have HS2 : Hid ((s.does a).ls.length = N ∧ (s.does a).writes ≤ k + 1) := Lib.hid ⟨by rw [does_len]; exact hs.out.1, by have := does_writes s a; have := hs.out.2; omega⟩
      obtain ⟨av, hav⟩ : ∃ av, av = a.val (.slice qa na ca) := ⟨_, rfl⟩
      rw [← hav] at HR HSz HDo
      obtain ⟨s2, hs2⟩ : ∃ s2, s2 = s.does a := ⟨_, rfl⟩
      rw [← hs2] at HDo HS2
      clear hact hc2 hok hr2 hn2 ho hs ha hav hs2
      go_wp2_with (refine wpList_load_act rfl (.tmp 62) rfl HR.out HSz.out rfl ?_)
      refine HDo.out.mono ?_
      rintro e w4 ⟨p4, r4, rfl, ho4⟩
      have HO4 := Lib.hid ho4
      clear ho4 HDo HR HSz
      go_wp2_with fail
      go_roundw
      case rel => exact ⟨k + 1, _, _, _, by omega, by go_num, rfl, rfl, rfl, HO4, HS2⟩
      case measure => simp [intOf]; omega
    · obtain rfl : k = m := by omega
      obtain ⟨F5, G5, h51, h52, h53⟩ := ho.out
      have HLen := Lib.hid hs.out.1
      have HWr : Hid (s.writes ≤ 1000000000) := Lib.hid (by have := hs.out.2; omega)
      have HC1 := Lib.hid (Crash_any wr h51.dk HWr.out q2 m2 c2 zs (HZs.out.gr h52))
      have HP5 := Lib.hid h51
      have HG5 := Lib.hid h52
      have HF5 : Hid (∀ k, F5 k → w.heap.size ≤ k) := Lib.hid fun k hk => h53 k (.inl hk)
      clear h51 h52 h53 ho hs
      go_wp2_with fail
      refine HC1.out.mono ?_
      rintro e w6 ⟨cp, Fc, rfl, hdc, hg6, hfc⟩
      obtain ⟨rb, gs, cs, V, er, hrf⟩ := HP5.out.rf.gr hg6
      subst er
      have HP6 := Lib.hid (HP5.out.stays hg6)
      have HG6 := Lib.hid (Gr.trans HG5.out hg6)
      have HRf := Lib.hid hrf
      have HDc := Lib.hid hdc
      have hbound : ∀ j, (s.t j).length ≤ 1000000000 := fun j => Nat.le_trans (HP5.out.dk.ok.less j) HWr.out
      have HBd := Lib.hid hbound
      clear hg6 hrf hdc hfc HC1 HP5 HG5 HA hbound
      go_wp2_with fail
      go_loopw [13] (fun i wr => ∃ j : Nat, j ≤ N ∧ i = .int .i64 j ∧ Hid (Gr w6 wr)) (fun i _ => N - (intOf i).toNat)
      case atStart => exact ⟨0, Nat.zero_le _, rfl, Lib.hid (Gr.refl _)⟩
      case round =>
        obtain ⟨j, hj, rfl, hgr⟩ := hrel
        by_cases hjl : j < N
        · have hjs : j < s.ls.length := by rw [HLen.out]; exact hjl
          have hjc : j < (s.crash zs).ls.length := by simpa [St.crash, fresh] using hjs
          have HRd := Lib.hid (Read_yes wr (HDc.out.gr hgr.out) j hjc)
          rw [crash_nw s zs j hjs] at HRd
          obtain ⟨S, hS⟩ : ∃ S, S = s.chosen zs j := ⟨_, rfl⟩
          rw [← hS] at HRd
          have HSS := Lib.hid hS
          have HJ := Lib.hid hjs
          clear hS hjs hjc
          go_wp2_with fail
          refine HRd.out.mono ?_
          rintro e w7 ⟨rfl, g7⟩
          have HG7 := Lib.hid (Gr.trans hgr.out g7)
          have HZe := Lib.hid (Blk.new w7 TS (sec Sec.zero))
          have hz := zero_sec
          have hgg : Gr w7 ((w7.alloc (.cells (sec Sec.zero) TS)).setRow w7.heap.size (sec S)) := below_setRow (Gr.new w7 _) (Nat.le_refl _) _
          have HG8 := Lib.hid (Gr.trans HG7.out hgg)
          have HX8 := Lib.hid (HZe.out.row (sec S))
          clear g7 hgr HRd HG7 hgg
          go_wp2_with (refine wpList_store_sec rfl (.tmp 14) (.tmp 82) rfl HZe.out rfl rfl ?_)
          clear hz HZe
          have hg8 := HG8.out
          have hx8 := HX8.out
          clear HG8 HX8
          obtain ⟨n8, hn8⟩ : ∃ n8, w7.heap.size = n8 := ⟨_, rfl⟩
          generalize ((w7.alloc (.cells (sec Sec.zero) TS)).setRow w7.heap.size (sec S)) = W8 at *
          rw [hn8] at hx8 ⊢
          have HG8 := Lib.hid hg8
          have HX8 : Hid (∀ W, Gr W8 W → W.rangeAt n8 0 S.cells) := Lib.hid fun W h => (hx8.gr h).one
          obtain ⟨gu, cu, hv, _, hc1, hc2⟩ := (HRf.out.rows j HJ.out).full (at_ne s j)
          obtain ⟨ts, hts⟩ : ∃ ts, ts = s.at j := ⟨_, rfl⟩
          rw [← hts] at hv hc1
          obtain ⟨M, hM⟩ : ∃ M, M = ts.length := ⟨_, rfl⟩
          have hM9 : M ≤ 1000000001 := by rw [hM, hts, at_len]; have := HBd.out j; omega
          rw [← hM] at hv hc1
          have HU : Hid (∀ W, Gr W8 W → W.cell? ⟨rb, 0, none⟩ = some (.slice (some ⟨gs, 0, none⟩) N cs) ∧ W.cell? ⟨gs, j, none⟩ = some (.slice (some ⟨gu, 0, none⟩) M cu) ∧ ∀ k, k < ts.length → W.rangeAt gu (k * 256) (ts.getD k Sec.zero).cells) := Lib.hid fun W g => by
            have hh := HRf.out.gr (Gr.trans hg8 g)
            have e1 := hh.cells.1
            rw [HLen.out] at e1
            have e2 := hh.outer.cell j HJ.out
            rw [hv] at e2
            refine ⟨e1, e2, fun k hk => ?_⟩
            have e3 := hh.rows j HJ.out
            rw [← hts, hv] at e3
            have := e3.lies k hk
            simpa [List.getD, hk] using this
          have HIn : Hid (∃ j, j < ts.length ∧ ts.getD j Sec.zero = S) := Lib.hid (by rw [hts, HSS.out]; exact chosen_in s zs j)
          have HM := Lib.hid hM
          have hj65 : (j : Int) < 65536 := by omega
          clear hg8 hx8 hn8 hv hc1 hc2 hts hM HSS
          go_wp2_with fail
          go_loopw [16, 17] (fun fv i wr => ∃ (k : Nat) (B : Bool), k ≤ M ∧ fv = .bool B ∧ i = .int .i64 k ∧ Hid (Gr W8 wr) ∧ Hid (B = true ↔ ∃ x, x < k ∧ ts.getD x Sec.zero = S)) (fun _ i _ => M - (intOf i).toNat)
          case atStart => exact ⟨0, false, Nat.zero_le _, rfl, rfl, Lib.hid (Gr.refl _), Lib.hid ⟨fun h => by simp at h, fun ⟨x, h, _⟩ => by omega⟩⟩
          case round =>
            obtain ⟨k, B, hk, rfl, rfl, hgk, hB⟩ := hrel
            obtain ⟨hcc1, hcc2, _⟩ := HU.out wr hgk.out
            by_cases hkl : k < M
            · have HGk := hgk
              have HBk := hB
              clear hgk hB
              have hk65 : (k : Int) < 1000000001 := by omega
              obtain ⟨T, hT⟩ : ∃ T, T = ts.getD k Sec.zero := ⟨_, rfl⟩
              have HTT := Lib.hid hT
              clear hT
              go_wp2_with fail
              cases B with
              | true =>
                have HBn : Hid (true = true ↔ ∃ x, x < k + 1 ∧ ts.getD x Sec.zero = S) := Lib.hid ⟨fun h => by obtain ⟨x, h1, h2⟩ := HBk.out.1 h; exact ⟨x, by omega, h2⟩, fun _ => rfl⟩
                clear HBk hcc1 hcc2
                go_quiet (fail)
                go_wp2_with fail
                go_roundw
                case rel => exact ⟨k + 1, true, by omega, rfl, by go_num, Lib.hid (Gr.trans HGk.out ⟨rfl, rfl, rfl, Nat.le_refl _, fun _ _ => rfl⟩), HBn⟩
                case measure => simp [intOf]; omega
              | false =>
                have HBn : Hid (decide (S = T) = true ↔ ∃ x, x < k + 1 ∧ ts.getD x Sec.zero = S) := Lib.hid (by
                  rw [decide_eq_true_iff]
                  constructor
                  · intro e
                    exact ⟨k, by omega, by rw [← HTT.out, e]⟩
                  · rintro ⟨x, h1, h2⟩
                    by_cases hxk : x < k
                    · have := HBk.out.2 ⟨x, hxk, h2⟩
                      simp at this
                    · obtain rfl : x = k := by omega
                      rw [← h2, HTT.out])
                clear HBk hcc1 hcc2
                have HA1 : Hid (∀ W, Gr wr W → W.cell? ⟨rb, 0, none⟩ = some (.slice (some ⟨gs, 0, none⟩) N cs)) := Lib.hid fun W g => (HU.out W (Gr.trans HGk.out g)).1
                have HA2 : Hid (∀ W, Gr wr W → W.cell? ⟨gs, j, none⟩ = some (.slice (some ⟨gu, 0, none⟩) M cu)) := Lib.hid fun W g => (HU.out W (Gr.trans HGk.out g)).2.1
                have HA3 : Hid (∀ W, Gr wr W → W.rangeAt gu (k * 256) T.cells) := Lib.hid fun W g => by rw [HTT.out]; exact (HU.out W (Gr.trans HGk.out g)).2.2 k (by rw [← HM.out]; exact hkl)
                have HA4 : Hid (∀ W, Gr wr W → W.rangeAt n8 0 S.cells) := Lib.hid fun W g => HX8.out W (Gr.trans HGk.out g)
                refine Flow.regionG 15 15 (by kernel_rfl) [16] 18 (Slt rb gs N cs j gu M cu k n8 S T) (Gr wr) (Gr wr) (fun _ => True) (fun _ _ _ => True) (by kernel_rfl) (by kernel_rfl) (by kernel_rfl) (fun _ _ _ _ _ _ h _ => h) ⟨rfl, rfl, rfl, Nat.le_refl _, fun _ _ => rfl⟩ True.intro ?steps ?fin
                case steps =>
                  refine Flow.StepsG.cons (fun a W hfr hinv hear hdep K hK => ?_) ?_
                  · have s16 : a.tmps.getD 16 undef = .bool false := hfr.at 16 (by kernel_rfl)
                    have t16 : a.tmps[16]?.getD undef = .bool false := by simpa using s16
                    rw [if_pos (Flow.wanted_none rfl)]
                    clear hfr hdep hear
                    go_simp
                    exact hK _ _ True.intro hinv (fun _ => True.intro) (fun d hd => by cases hd; rfl)
                  refine Flow.StepsG.cons (fun a W hfr hinv hear hdep K hK => ?_) ?_
                  · have s96 : a.tmps.getD 96 undef = .bool false := hdep 96 (by kernel_rfl)
                    have t96 : a.tmps[96]?.getD undef = .bool false := by simpa using s96
                    rw [if_pos (Flow.wanted_none rfl)]
                    clear hfr hdep hear
                    go_simp
                    exact hK _ _ True.intro hinv (fun _ => True.intro) (fun d hd => by cases hd; rfl)
                  refine Flow.StepsG.cons (fun a W hfr hinv hear hdep K hK => ?_) ?_
                  · have sg : a.tmps.getD 97 undef = .bool false := hdep 97 (by kernel_rfl)
                    have s14 : a.tmps.getD 14 undef = .pointer (some ⟨n8, 0, none⟩) := hfr.at 14 (by kernel_rfl)
                    have t14 : a.tmps[14]?.getD undef = .pointer (some ⟨n8, 0, none⟩) := by simpa using s14
                    rw [if_pos (Flow.wanted_yes 1 false 97 rfl (by kernel_rfl) sg)]
                    clear hfr hdep
                    refine wp_load_sec (.tmp 14) rfl (HA4.out W hinv) (by simpa [Act.eval] using s14) ?_
                    exact hK _ _ True.intro hinv (fun _ => True.intro) (fun d hd => by cases hd; rfl)
                  refine Flow.StepsG.cons (fun a W hfr hinv hear hdep K hK => ?_) ?_
                  · have sg : a.tmps.getD 97 undef = .bool false := hdep 97 (by kernel_rfl)
                    have s9 : a.tmps.getD 9 undef = .pointer (some ⟨rb, 0, none⟩) := hfr.at 9 (by kernel_rfl)
                    have t9 : a.tmps[9]?.getD undef = .pointer (some ⟨rb, 0, none⟩) := by simpa using s9
                    rw [if_pos (Flow.wanted_yes 1 false 97 rfl (by kernel_rfl) sg)]
                    clear hfr hdep hear
                    go_simp
                    exact hK _ _ True.intro hinv (fun _ => True.intro) (fun d hd => by cases hd; rfl)
                  refine Flow.StepsG.cons (fun a W hfr hinv hear hdep K hK => ?_) ?_
                  · have sg : a.tmps.getD 97 undef = .bool false := hdep 97 (by kernel_rfl)
                    have s99 : a.tmps.getD 99 undef = .pointer (some ⟨rb, 0, none⟩) := hdep 99 (by kernel_rfl)
                    have t99 : a.tmps[99]?.getD undef = .pointer (some ⟨rb, 0, none⟩) := by simpa using s99
                    rw [if_pos (Flow.wanted_yes 1 false 97 rfl (by kernel_rfl) sg)]
                    clear hfr hdep hear
                    go_simp
                    exact hK _ _ True.intro hinv (fun _ => True.intro) (fun d hd => by cases hd; rfl)
                  refine Flow.StepsG.cons (fun a W hfr hinv hear hdep K hK => ?_) ?_
                  · have sg : a.tmps.getD 97 undef = .bool false := hdep 97 (by kernel_rfl)
                    have s100 : a.tmps.getD 100 undef = .pointer (some ⟨rb, 0, none⟩) := hdep 100 (by kernel_rfl)
                    have t100 : a.tmps[100]?.getD undef = .pointer (some ⟨rb, 0, none⟩) := by simpa using s100
                    rw [if_pos (Flow.wanted_yes 1 false 97 rfl (by kernel_rfl) sg)]
                    clear hfr hdep hear
                    go_simp
                    exact hK _ _ True.intro hinv (fun _ => True.intro) (fun d hd => by cases hd; rfl)
                  refine Flow.StepsG.cons (fun a W hfr hinv hear hdep K hK => ?_) ?_
                  · have sg : a.tmps.getD 97 undef = .bool false := hdep 97 (by kernel_rfl)
                    have s101 : a.tmps.getD 101 undef = .pointer (some ⟨rb, 0, none⟩) := hdep 101 (by kernel_rfl)
                    have t101 : a.tmps[101]?.getD undef = .pointer (some ⟨rb, 0, none⟩) := by simpa using s101
                    have hc := HA1.out W hinv
                    rw [if_pos (Flow.wanted_yes 1 false 97 rfl (by kernel_rfl) sg)]
                    clear hfr hdep hear
                    go_simp
                    exact hK _ _ True.intro hinv (fun _ => True.intro) (fun d hd => by cases hd; rfl)
                  refine Flow.StepsG.cons (fun a W hfr hinv hear hdep K hK => ?_) ?_
                  · have sg : a.tmps.getD 97 undef = .bool false := hdep 97 (by kernel_rfl)
                    have s13 : a.tmps.getD 13 undef = .int .i64 (j : Int) := hfr.at 13 (by kernel_rfl)
                    have t13 : a.tmps[13]?.getD undef = .int .i64 (j : Int) := by simpa using s13
                    rw [if_pos (Flow.wanted_yes 1 false 97 rfl (by kernel_rfl) sg)]
                    clear hfr hdep hear
                    go_simp
                    exact hK _ _ True.intro hinv (fun _ => True.intro) (fun d hd => by cases hd; rfl)
                  refine Flow.StepsG.cons (fun a W hfr hinv hear hdep K hK => ?_) ?_
                  · have sg : a.tmps.getD 97 undef = .bool false := hdep 97 (by kernel_rfl)
                    have s102 : a.tmps.getD 102 undef = .slice (some ⟨gs, 0, none⟩) N cs := hdep 102 (by kernel_rfl)
                    have t102 : a.tmps[102]?.getD undef = .slice (some ⟨gs, 0, none⟩) N cs := by simpa using s102
                    have s103 : a.tmps.getD 103 undef = .int .i64 (j : Int) := hdep 103 (by kernel_rfl)
                    have t103 : a.tmps[103]?.getD undef = .int .i64 (j : Int) := by simpa using s103
                    rw [if_pos (Flow.wanted_yes 1 false 97 rfl (by kernel_rfl) sg)]
                    clear hfr hdep hear
                    go_simp
                    exact hK _ _ True.intro hinv (fun _ => True.intro) (fun d hd => by cases hd; rfl)
                  refine Flow.StepsG.cons (fun a W hfr hinv hear hdep K hK => ?_) ?_
                  · have sg : a.tmps.getD 97 undef = .bool false := hdep 97 (by kernel_rfl)
                    have s104 : a.tmps.getD 104 undef = .pointer (some ⟨gs, j, none⟩) := hdep 104 (by kernel_rfl)
                    have t104 : a.tmps[104]?.getD undef = .pointer (some ⟨gs, j, none⟩) := by simpa using s104
                    have hc := HA2.out W hinv
                    rw [if_pos (Flow.wanted_yes 1 false 97 rfl (by kernel_rfl) sg)]
                    clear hfr hdep hear
                    go_simp
                    exact hK _ _ True.intro hinv (fun _ => True.intro) (fun d hd => by cases hd; rfl)
                  refine Flow.StepsG.cons (fun a W hfr hinv hear hdep K hK => ?_) ?_
                  · have sg : a.tmps.getD 97 undef = .bool false := hdep 97 (by kernel_rfl)
                    have s17 : a.tmps.getD 17 undef = .int .i64 (k : Int) := hfr.at 17 (by kernel_rfl)
                    have t17 : a.tmps[17]?.getD undef = .int .i64 (k : Int) := by simpa using s17
                    rw [if_pos (Flow.wanted_yes 1 false 97 rfl (by kernel_rfl) sg)]
                    clear hfr hdep hear
                    go_simp
                    exact hK _ _ True.intro hinv (fun _ => True.intro) (fun d hd => by cases hd; rfl)
                  refine Flow.StepsG.cons (fun a W hfr hinv hear hdep K hK => ?_) ?_
                  · have sg : a.tmps.getD 97 undef = .bool false := hdep 97 (by kernel_rfl)
                    have s105 : a.tmps.getD 105 undef = .slice (some ⟨gu, 0, none⟩) M cu := hdep 105 (by kernel_rfl)
                    have t105 : a.tmps[105]?.getD undef = .slice (some ⟨gu, 0, none⟩) M cu := by simpa using s105
                    have s106 : a.tmps.getD 106 undef = .int .i64 (k : Int) := hdep 106 (by kernel_rfl)
                    have t106 : a.tmps[106]?.getD undef = .int .i64 (k : Int) := by simpa using s106
                    rw [if_pos (Flow.wanted_yes 1 false 97 rfl (by kernel_rfl) sg)]
                    clear hfr hdep hear
                    go_simp
                    exact hK _ _ True.intro hinv (fun _ => True.intro) (fun d hd => by cases hd; rfl)
                  refine Flow.StepsG.cons (fun a W hfr hinv hear hdep K hK => ?_) ?_
                  · have sg : a.tmps.getD 97 undef = .bool false := hdep 97 (by kernel_rfl)
                    have s107 : a.tmps.getD 107 undef = .pointer (some ⟨gu, k * 256, none⟩) := hdep 107 (by kernel_rfl)
                    have t107 : a.tmps[107]?.getD undef = .pointer (some ⟨gu, k * 256, none⟩) := by simpa using s107
                    rw [if_pos (Flow.wanted_yes 1 false 97 rfl (by kernel_rfl) sg)]
                    clear hfr hdep
                    refine wp_load_sec (.tmp 107) rfl (HA3.out W hinv) (by simpa [Act.eval] using s107) ?_
                    exact hK _ _ True.intro hinv (fun _ => True.intro) (fun d hd => by cases hd; rfl)
                  refine Flow.StepsG.cons (fun a W hfr hinv hear hdep K hK => ?_) ?_
                  · have sg : a.tmps.getD 97 undef = .bool false := hdep 97 (by kernel_rfl)
                    have s98 : a.tmps.getD 98 undef = .agg (sec S) := hdep 98 (by kernel_rfl)
                    have t98 : a.tmps[98]?.getD undef = .agg (sec S) := by simpa using s98
                    have s108 : a.tmps.getD 108 undef = .agg (sec T) := hdep 108 (by kernel_rfl)
                    have t108 : a.tmps[108]?.getD undef = .agg (sec T) := by simpa using s108
                    have hq := eqi_sec
                    rw [if_pos (Flow.wanted_yes 1 false 97 rfl (by kernel_rfl) sg)]
                    clear hfr hdep hear
                    go_simp
                    exact hK _ _ True.intro hinv (fun _ => True.intro) (fun d hd => by cases hd; rfl)
                  refine Flow.StepsG.cons (fun a W hfr hinv hear hdep K hK => ?_) ?_
                  · have s97 : a.tmps.getD 97 undef = .bool false := hdep 97 (by kernel_rfl)
                    have t97 : a.tmps[97]?.getD undef = .bool false := by simpa using s97
                    have s109 : a.tmps.getD 109 undef = .bool (decide (S = T)) := hdep 109 (by kernel_rfl)
                    have t109 : a.tmps[109]?.getD undef = .bool (decide (S = T)) := by simpa using s109
                    rw [if_pos (Flow.wanted_none rfl)]
                    clear hfr hdep hear
                    go_simp
                    exact hK _ _ True.intro hinv (fun _ => True.intro) (fun d hd => by cases hd; rfl)
                  refine Flow.StepsG.cons (fun a W hfr hinv hear hdep K hK => ?_) ?_
                  · have s110 : a.tmps.getD 110 undef = .bool (decide (S = T)) := hdep 110 (by kernel_rfl)
                    have t110 : a.tmps[110]?.getD undef = .bool (decide (S = T)) := by simpa using s110
                    rw [if_pos (Flow.wanted_none rfl)]
                    clear hfr hdep hear
                    go_simp
                    exact hK _ _ True.intro hinv True.intro (fun d hd => by cases hd; rfl)
                  exact True.intro
                case fin =>
                  intro a W hfr hfin hsl
                  have s16 : a.tmps.getD 16 undef = .bool (decide (S = T)) := hsl 15 _ 16 rfl rfl (by simp)
                  have t16 : a.tmps[16]?.getD undef = .bool (decide (S = T)) := by simpa using s16
                  clear hsl s16
                  have e := Flow.frame hfr [16, 96, 97, 98, 99, 100, 101, 102, 103, 104, 105, 106, 107, 108, 109, 110] (List.range 173) (by kernel_rfl) (by kernel_rfl)
                  simp [List.range, List.range.loop] at e
                  rw [e]
                  clear e hfr
                  rw [t16]
                  clear t16
                  have HGn := Lib.hid (Gr.trans HGk.out hfin)
                  obtain ⟨B2, hB2⟩ : ∃ B2, B2 = decide (S = T) := ⟨_, rfl⟩
                  rw [← hB2] at HBn ⊢
                  clear hfin HA1 HA2 HA3 HA4 HGk hB2
                  rename_i K2 hK2
                  refine hK2 _ _ ?_
                  go_wp2
                  go_roundw
                  case rel => exact ⟨k + 1, B2, by omega, rfl, by go_num, HGn, HBn⟩
                  case measure => simp [intOf]; omega
            · obtain rfl : k = M := by omega
              have hBt : B = true := hB.out.2 (by
                obtain ⟨x, h1, h2⟩ := HIn.out
                exact ⟨x, by rw [HM.out]; exact h1, h2⟩)
              subst hBt
              have HGn := Lib.hid (Gr.trans HG8.out hgk.out)
              clear hgk hB HU HIn HX8 HG8
              go_wp2_with fail
              go_roundw
              case rel => exact ⟨j + 1, by omega, by go_num, HGn⟩
              case measure => simp [intOf]; omega
        · obtain rfl : j = N := by omega
          have HG7 : Hid (Gr w wr) := Lib.hid (Gr.trans HG6.out hgr.out)
          have HDk := Lib.hid (HP6.out.dk.gr hgr.out)
          clear hgr HP6 HRf HDc HBd HG6
          cases hdd : s.dead with
          | true =>
            have HB := Lib.hid (Barrier_dead wr HDk.out hdd)
            have hde := Dead_any wr HDk.out
            rw [hdd] at hde
            have HDe := Lib.hid hde
            clear hdd hde
            go_wp2_with fail
            refine HB.out.mono ?_
            rintro e w8 ⟨rfl, rfl⟩
            go_wp2_with fail
            refine HDe.out.mono ?_
            rintro e w8 ⟨rfl, rfl⟩
            go_wp2_with fail
            refine (known_any _).mono ?_
            rintro e w9 ⟨rfl, g9⟩
            have HGf := Lib.hid (Gr.trans HG7.out g9)
            clear g9
            go_wp2_with fail
            go_ret
            exact ⟨rfl, HGf.out⟩
          | false =>
            have HB := Lib.hid (Barrier_yes wr HDk.out HWr.out hdd)
            clear hdd
            go_wp2_with fail
            refine HB.out.mono ?_
            rintro e w8 ⟨F8, rfl, hd8, hu8⟩
            have hg8 : Gr w w8 := Below.trans HG7.out (hu8.below HG7.out.size HF5.out)
            have HC8 := Lib.hid (Crash_any w8 hd8 (show s.writes ≤ 1000000000 from HWr.out) q2 m2 c2 zs (HZs.out.gr hg8))
            have HD8 := Lib.hid hd8
            have HG8 := Lib.hid hg8
            clear hd8 hu8 hg8 HB HDk HG7
            go_wp2_with fail
            refine HC8.out.mono ?_
            rintro e w9 ⟨fp, Ff, rfl, hdf, hg9, hff⟩
            have HDa := Lib.hid (HD8.out.gr hg9)
            have HDf := Lib.hid hdf
            have HG9 := Lib.hid (Gr.trans HG8.out hg9)
            clear hdf hg9 hff HC8 HD8 HG8
            go_wp2_with fail
            go_loopw [19] (fun i wr => ∃ x : Nat, x ≤ j ∧ i = .int .i64 x ∧ Hid (Gr w9 wr)) (fun i _ => j - (intOf i).toNat)
            case atStart => exact ⟨0, Nat.zero_le _, rfl, Lib.hid (Gr.refl _)⟩
            case round =>
              obtain ⟨x, hx, rfl, hgr⟩ := hrel
              by_cases hxl : x < j
              · have hxs : x < s.ls.length := by rw [HLen.out]; exact hxl
                have hxb : x < s.barrier.ls.length := by simpa [St.barrier] using hxs
                have hxc : x < (s.barrier.crash zs).ls.length := by simpa [St.crash, fresh] using hxb
                obtain ⟨S, hS⟩ : ∃ S, S = s.barrier.nw x := ⟨_, rfl⟩
                have hrd := Read_yes wr (HDa.out.gr hgr.out) x hxb
                rw [← hS] at hrd
                have HRd := Lib.hid hrd
                have HRf : Hid (∀ W, Gr wr W → Calls Try.prog 14 #[fp, .int .i64 (x : Int)] W fun e w' => RetRead W w' e S 0) := Lib.hid fun W g => by
                  have := Read_yes W (HDf.out.gr (Gr.trans hgr.out g)) x hxc
                  rwa [barrier_crash_nw s zs x hxs, ← hS] at this
                clear hS hrd hxs hxb hxc
                go_wp2_with fail
                refine HRd.out.mono ?_
                rintro e w10 ⟨rfl, g10⟩
                have HZe := Lib.hid (Blk.new w10 TS (sec Sec.zero))
                have hz := zero_sec
                have hgg : Gr w10 ((w10.alloc (.cells (sec Sec.zero) TS)).setRow w10.heap.size (sec S)) := below_setRow (Gr.new w10 _) (Nat.le_refl _) _
                have HG11 := Lib.hid (Gr.trans g10 hgg)
                have HX11 := Lib.hid (HZe.out.row (sec S))
                clear g10 HRd hgg
                go_wp2_with (refine wpList_store_sec rfl (.tmp 20) (.tmp 137) rfl HZe.out rfl rfl ?_)
                clear hz HZe
                have hg11 := HG11.out
                have hx11 := HX11.out
                clear HG11 HX11
                obtain ⟨n11, hn11⟩ : ∃ n11, w10.heap.size = n11 := ⟨_, rfl⟩
                generalize ((w10.alloc (.cells (sec Sec.zero) TS)).setRow w10.heap.size (sec S)) = W11 at *
                rw [hn11] at hx11 ⊢
                have HG11 := Lib.hid hg11
                have HX11 := Lib.hid hx11
                have HRf2 := Lib.hid (HRf.out W11 hg11)
                clear hg11 hx11 hn11 HRf
                first | refine HRf2.out.mono ?_ | (go_wp2_with fail; refine HRf2.out.mono ?_)
                rintro e w12 ⟨rfl, g12⟩
                have HZe := Lib.hid (Blk.new w12 TS (sec Sec.zero))
                have hz := zero_sec
                have hgg : Gr w12 ((w12.alloc (.cells (sec Sec.zero) TS)).setRow w12.heap.size (sec S)) := below_setRow (Gr.new w12 _) (Nat.le_refl _) _
                have HG13 := Lib.hid (Gr.trans hgr.out (Gr.trans HG11.out (Gr.trans g12 hgg)))
                have HX13 : Hid (Blk ((w12.alloc (.cells (sec Sec.zero) TS)).setRow w12.heap.size (sec S)) n11 TS (sec S)) := Lib.hid (HX11.out.gr (Gr.trans g12 hgg))
                have HY13 := Lib.hid (HZe.out.row (sec S))
                clear g12 HRf2 hgg HG11 HX11 hgr
                go_wp2_with (refine wpList_store_sec rfl (.tmp 22) (.tmp 143) rfl HZe.out rfl rfl ?_)
                clear hz HZe
                have hg13 := HG13.out
                have hx13 := HX13.out
                have hy13 := HY13.out
                clear HG13 HX13 HY13
                obtain ⟨n13, hn13⟩ : ∃ n13, w12.heap.size = n13 := ⟨_, rfl⟩
                generalize ((w12.alloc (.cells (sec Sec.zero) TS)).setRow w12.heap.size (sec S)) = W13 at *
                rw [hn13] at hy13 ⊢
                have HG13 := Lib.hid hg13
                have HX13 := Lib.hid hx13.one
                have HY13 := Lib.hid hy13.one
                clear hg13 hx13 hy13 hn13
                refine wp_load_sec (.tmp 20) rfl HX13.out rfl ?_
                go_wp2_with fail
                refine wp_load_sec (.tmp 22) rfl HY13.out rfl ?_
                have hq := eqi_sec
                go_wp2_with fail
                go_roundw
                case rel => exact ⟨x + 1, by omega, by go_num, HG13⟩
                case measure => simp [intOf]; omega
              · obtain rfl : x = j := by omega
                have HGw := Lib.hid (Gr.trans HG9.out hgr.out)
                have HLo := Lib.hid (Loose_any wr (HDa.out.gr hgr.out) (show s.writes ≤ 1000000000 from HWr.out))
                have HDf2 := Lib.hid (HDf.out.gr hgr.out)
                clear hgr HDa HDf HG9
                go_wp2_with fail
                refine HLo.out.mono ?_
                rintro e w14 ⟨lo, rfl, hi, hg14⟩
                rw [barrier_loose] at hi
                obtain ⟨p14, c14, rfl, _, _⟩ := Ints.nums hi (fun x hx => by cases hx)
                have HG14 := Lib.hid (Gr.trans HGw.out hg14)
                have HW14 : Hid (Calls Try.prog 19 #[fp] w14 fun e w' => e = .returned (.int .i64 0) ∧ w14 = w') := Lib.hid (Writes_any w14 (HDf2.out.gr hg14))
                have HD14 : Hid (Calls Try.prog 17 #[fp] w14 fun e w' => e = .returned (.bool false) ∧ w14 = w') := Lib.hid (Dead_any w14 (HDf2.out.gr hg14))
                clear hi hg14 HLo HDf2 HGw
                go_wp2_with fail
                refine HW14.out.mono ?_
                rintro e w15 ⟨rfl, rfl⟩
                go_wp2_with fail
                refine HD14.out.mono ?_
                rintro e w15 ⟨rfl, rfl⟩
                go_wp2_with fail
                refine (known_any _).mono ?_
                rintro e w16 ⟨rfl, g16⟩
                have HGf := Lib.hid (Gr.trans HG14.out g16)
                clear g16
                go_wp2_with fail
                go_ret
                exact ⟨rfl, HGf.out⟩

set_option maxRecDepth 100000 in
set_option maxHeartbeats 2000000 in
theorem diskLasts_none (n : Int) (q : Option Addr) (m c : Nat) (q2 : Option Addr) (m2 c2 : Nat) (w : World) (hm63 : m ≤ 9223372036854775807) (hm64 : m2 ≤ 9223372036854775807) (h : n < 1 ∨ 60 < n ∨ 60 < m ∨ 200 < m2) :
    Calls Try.prog 4 #[.int .i64 n, .slice q m c, .slice q2 m2 c2] w fun e w' => RetTrue w e w' := by
  by_cases h1 : n < 1
  · clear h
    go_enter Try.func4, Try.ntmps4
    go_wp2_with fail
    refine (known_any _).mono ?_
    rintro e w1 ⟨rfl, g1⟩
    go_wp2_with fail
    go_ret
    exact ⟨rfl, g1⟩
  · by_cases h2 : 60 < n
    · clear h
      go_enter Try.func4, Try.ntmps4
      go_wp2_with fail
      refine (known_any _).mono ?_
      rintro e w1 ⟨rfl, g1⟩
      go_wp2_with fail
      go_ret
      exact ⟨rfl, g1⟩
    · by_cases h3 : (60 : Int) < (m : Int)
      · clear h
        go_enter Try.func4, Try.ntmps4
        go_wp2_with fail
        refine (known_any _).mono ?_
        rintro e w1 ⟨rfl, g1⟩
        go_wp2_with fail
        go_ret
        exact ⟨rfl, g1⟩
      · have h4 : (200 : Int) < (m2 : Int) := by omega
        clear h
        go_enter Try.func4, Try.ntmps4
        go_wp2_with fail
        refine (known_any _).mono ?_
        rintro e w1 ⟨rfl, g1⟩
        go_wp2_with fail
        go_ret
        exact ⟨rfl, g1⟩

theorem diskLasts_walk (n : Int) (q : Option Addr) (m c : Nat) (f : Nat → Do) (q2 : Option Addr) (m2 c2 : Nat) (zs : List Int) (w : World) (hf : Acts w q m f) (hz : Nums w q2 m2 c2 zs) :
    Calls Try.prog 4 #[.int .i64 n, .slice q m c, .slice q2 m2 c2] w fun e w' => RetTrue w e w' := by
  by_cases h1 : n < 1 ∨ 60 < n ∨ 60 < m ∨ 200 < m2
  · exact diskLasts_none n q m c q2 m2 c2 w hf.1 hz.most h1
  · obtain ⟨N, rfl⟩ := Int.eq_ofNat_of_zero_le (show 0 ≤ n by omega)
    exact diskLasts_main N (by omega) (by omega) q m c (by omega) f q2 m2 c2 zs (by omega) w hf hz

end Go.Proofs.Ytepabjfkelmdoaa
