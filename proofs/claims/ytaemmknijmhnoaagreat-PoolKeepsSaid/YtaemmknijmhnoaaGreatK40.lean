/-
  Texts, put together: PoolKeepsWalk.
-/
import Derived.StillTailTactics
import Derived.Test.YtaemmknijmhnoaaGreatK38
import Derived.Test.YtaemmknijmhnoaaGreatK39
set_option linter.unusedVariables false
set_option linter.unusedSimpArgs false
/-
  The law that what was put is got, walked.
-/
namespace Go.Proofs.YtaemmknijmhnoaaGreat
open Go.RowKit Go.Maps

/-- The LSNs that the law keeps. -/
def lsC (c : Nat → List Int × Nat) : Array Value := ((List.range 64).map fun i => Value.int .u64 ((c i).2 : Int)).toArray
theorem zero_pgs (w : World) : (zeroValue TPgs).run Tryz.prog w = .ok (.agg (Array.replicate 15872 (.int .u8 0))) w := (zero_of_info info_pgs).1 w
theorem zero_lsn (w : World) : (zeroValue TLsn).run Tryz.prog w = .ok (.agg (Array.replicate 64 (.int .u64 0))) w := (zero_of_info info_lsn).1 w
theorem lsC_zero : lsC (fun _ => (List.replicate 248 0, 0)) = Array.replicate 64 (.int .u64 0) := by
  unfold lsC
  rfl
theorem lsC_at (c : Nat → List Int × Nat) {i : Nat} (h : i < 64) : (lsC c)[i]? = some (.int .u64 ((c i).2 : Int)) := by
  unfold lsC
  rw [List.getElem?_toArray, List.getElem?_map, List.getElem?_range h]
  rfl
theorem lsC_set (c : Nat → List Int × Nat) {i : Nat} (h : i < 64) (x : List Int) (f : Nat) : (lsC c).setIfInBounds i (.int .u64 (f : Int)) = lsC fun j => if j = i then (x, f) else c j := by
  refine Array.ext_getElem? fun j => ?_
  rw [Array.getElem?_setIfInBounds]
  by_cases hj : j < 64
  · rw [lsC_at _ hj, lsC_at _ hj]
    by_cases e : i = j
    · subst e
      rw [if_pos rfl, if_pos (by simp [lsC, h])]
      simp
    · rw [if_neg e, if_neg (fun h => e h.symm)]
  · rw [if_neg (by omega)]
    rw [Array.getElem?_eq_none (by simp [lsC]; omega), Array.getElem?_eq_none (by simp [lsC]; omega)]
def SlKe32 (x : Sec) (X : List Int) (Y : Nat) (j : Nat) (Q1Q : Nat) (slot : Nat) (v : Value) (_ : World) : Prop :=
  match slot with
  | 176 => v = .int .i64 0
  | 177 | 178 | 184 | 185 | 186 | 192 | 193 => v = .bool false
  | 179 | 187 => v = .agg x.cells.toArray
  | 180 | 183 => v = .int .u64 (Y : Int)
  | 181 | 189 => v = .int .i64 (j : Int)
  | 182 => v = .pointer (some ⟨Q1Q + 1, j, none⟩)
  | 188 | 191 => v = .agg (PSx X).cells.toArray
  | 190 => v = .pointer (some ⟨Q1Q, j * 248, none⟩)
  | _ => True
set_option maxRecDepth 100000 in
set_option maxHeartbeats 2000000 in
theorem poolKeeps_walk (frames : Int) (held : Bool) (p : Option Addr) (n c : Nat) (w : World) (hb : PActs w p n c) : Calls Tryz.prog 4 #[.int .i64 frames, .bool held, .slice p n c] w fun e w' => e = .returned (.bool true) ∧ Below w.heap.size w w' := by
  have HK : Hid (∀ W, Calls Tryz.prog 8 #[] W fun e w' => e = .returned (.bool true) ∧ Gr W w') := Lib.hid fun W => known07_any W
  have HB := Lib.hid hb
  have hz1 := zero_pgs
  have hz2 := zero_lsn
  clear hb
  go_enter Tryz.func4, Tryz.ntmps4
  by_cases g1 : (80 : Int) < (n : Int)
  · go_wp2_with fail
    refine (HK.out w).mono ?_
    rintro e w1 ⟨rfl, g⟩
    have HG := Lib.hid g
    clear g
    go_wp2_with fail
    go_ret
    exact ⟨rfl, HG.out⟩
  by_cases g2 : frames < 8
  · go_wp2_with fail
    refine (HK.out w).mono ?_
    rintro e w1 ⟨rfl, g⟩
    have HG := Lib.hid g
    clear g
    go_wp2_with fail
    go_ret
    exact ⟨rfl, HG.out⟩
  by_cases g3 : 4096 < frames
  · go_wp2_with fail
    refine (HK.out w).mono ?_
    rintro e w1 ⟨rfl, g⟩
    have HG := Lib.hid g
    clear g
    go_wp2_with fail
    go_ret
    exact ⟨rfl, HG.out⟩
  have HBe : Hid (∀ W, Calls Tryz.prog 9 #[.int .i64 frames, .bool held] W (RetBeg7 frames held W)) := Lib.hid fun W => begin7_any frames held W (by omega) (by omega)
  go_wp2_with fail
  refine (HBe.out w).mono ?_
  rintro e w1 hbg
  obtain ⟨d, l, b, m, rfl, hki⟩ := KpI.begin hbg
  have HK1 := Lib.hid hki
  clear hbg hki HBe
  obtain ⟨W2, hW2⟩ : ∃ W2, W2 = w1.alloc (.cells (Array.replicate 15872 (.int .u8 0)) TPgs) := ⟨_, rfl⟩
  obtain ⟨W3, hW3⟩ : ∃ W3, W3 = W2.alloc (.cells (Array.replicate 64 (.int .u64 0)) TLsn) := ⟨_, rfl⟩
  have hs2 : W2.heap.size = w1.heap.size + 1 := by rw [hW2, World.size_alloc]
  have HW : Hid (w1.alloc (.cells (Array.replicate 15872 (.int .u8 0)) TPgs) = W2 ∧ W2.alloc (.cells (Array.replicate 64 (.int .u64 0)) TLsn) = W3) := Lib.hid ⟨hW2.symm, hW3.symm⟩
  have HI : Hid (KpI w W3 d l b m held (fun _ => (List.replicate 248 0, 0)) 1000000 [(w1.heap.size + 1, TLsn, lsC (fun _ => (List.replicate 248 0, 0))), (w1.heap.size, TPgs, Array.replicate 15872 (.int .u8 0))] CTr ∧ PgAt W3 w1.heap.size (Array.replicate 15872 (.int .u8 0)) (fun _ => List.replicate 248 0)) := Lib.hid (by
    have h := (HK1.out.box (Array.replicate 15872 (.int .u8 0)) TPgs).box (Array.replicate 64 (.int .u64 0)) TLsn
    rw [← hW2, ← hW3, hs2, ← lsC_zero] at h
    exact ⟨h, PgAt.start (h.blk.1 (w1.heap.size, TPgs, Array.replicate 15872 (.int .u8 0)) (List.mem_cons_of_mem _ (List.mem_singleton.2 rfl)))⟩)
  have HN : Hid (n ≤ 80) := Lib.hid (by omega)
  clear hW2 hW3 hs2 HK1 g1 g2 g3
  go_wp2_with fail
  rw [HW.out.1, HW.out.2]
  go_loopw [13] (fun kv wr => ∃ (k : Nat) (c : Nat → List Int × Nat) (cs : Array Value), k ≤ n ∧ kv = .int .i64 (k : Int) ∧ Hid (KpI w wr d l b m held c (1000000 - 500 * k) [(w1.heap.size + 1, TLsn, lsC c), (w1.heap.size, TPgs, cs)] CTr ∧ PgAt wr w1.heap.size cs (fun i => (c i).1))) (fun kv _ => n - (intOf kv).toNat)
  case atStart => exact ⟨0, _, _, Nat.zero_le _, rfl, HI⟩
  case round =>
    obtain ⟨k, c, cs, hk, rfl, HJ⟩ := hrel
    by_cases hlt : k < n
    · have g3 : (k : Int) < (n : Int) := by omega
      have hw : IntKind.i64.wrap ((k : Int) + 1) = ((k + 1 : Nat) : Int) := by rw [IntWalk.i64_in _ (by have := HN.out; omega)]; omega
      obtain ⟨pb0, o, a, rfl, hrow⟩ := HB.out.row k hlt
      obtain ⟨hc, hin⟩ := hrow wr HJ.out.1.blk.2
      have c0 : wr.cell? ⟨pb0, o + k * 5, none⟩ = some (.int .i64 a.kind) := hc 0 _ rfl
      have c1 : wr.cell? ⟨pb0, o + k * 5 + 1, none⟩ = some (.int .i64 a.page) := hc 1 _ rfl
      have c2 : wr.cell? ⟨pb0, o + k * 5 + 2, none⟩ = some (.int .i64 a.off) := hc 2 _ rfl
      have c3 : wr.cell? ⟨pb0, o + k * 5 + 3, none⟩ = some (.int .i64 a.n) := hc 3 _ rfl
      have c4 : wr.cell? ⟨pb0, o + k * 5 + 4, none⟩ = some (.slice a.pb a.nb a.cb) := hc 4 _ rfl
      have HRow : Hid (∀ V, Gr w V → a.In V) := Lib.hid fun V g => (hrow V g).2
      obtain ⟨kind, page, off, num, pb, nb, cb, ys⟩ := a
      dsimp only at c0 c1 c2 c3 c4
      clear hc hin hrow
      obtain ⟨W4, hW4⟩ : ∃ W4, W4 = wr.alloc (.cells #[.int .i64 kind, .int .i64 page, .int .i64 off, .int .i64 num, .slice pb nb cb] TPa) := ⟨_, rfl⟩
      have HW4 := Lib.hid hW4.symm
      have HQ : Hid (KpI w W4 d l b m held c (1000000 - 500 * k) [(wr.heap.size, TPa, #[.int .i64 kind, .int .i64 page, .int .i64 off, .int .i64 num, .slice pb nb cb]), (w1.heap.size + 1, TLsn, lsC c), (w1.heap.size, TPgs, cs)] CTr ∧ PgAt W4 w1.heap.size cs (fun i => (c i).1)) := Lib.hid (by
        have h := HJ.out.1.box #[.int .i64 kind, .int .i64 page, .int .i64 off, .int .i64 num, .slice pb nb cb] TPa
        rw [← hW4] at h
        exact ⟨h, HJ.out.2.stays ((show Blk W4 w1.heap.size TPgs cs from h.blk.1 (w1.heap.size, TPgs, cs) (List.mem_cons_of_mem _ (List.mem_cons_of_mem _ (List.mem_singleton.2 rfl)))).trans HJ.out.2.blk.symm)⟩)
      have HSk : Hid (Hid (KpI w W4 d l b m held c (1000000 - 500 * (k + 1)) [(w1.heap.size + 1, TLsn, lsC c), (w1.heap.size, TPgs, cs)] CTr ∧ PgAt W4 w1.heap.size cs (fun i => (c i).1))) := Lib.hid (Lib.hid ⟨HQ.out.1.less (by omega) (fun x hx => List.mem_cons_of_mem _ hx), HQ.out.2⟩)
      clear hW4
      by_cases p1 : page < 19
      · go_wp2_with fail
        rw [HW4.out]
        go_roundw
        case rel => exact ⟨k + 1, c, cs, by omega, by go_num, HSk.out⟩
        case measure => simp [intOf]; omega
      by_cases p2 : 63 < page
      · go_wp2_with fail
        rw [HW4.out]
        go_roundw
        case rel => exact ⟨k + 1, c, cs, by omega, by go_num, HSk.out⟩
        case measure => simp [intOf]; omega
      by_cases p3 : off < 0
      · go_wp2_with fail
        rw [HW4.out]
        go_roundw
        case rel => exact ⟨k + 1, c, cs, by omega, by go_num, HSk.out⟩
        case measure => simp [intOf]; omega
      by_cases p4 : 248 < off
      · go_wp2_with fail
        rw [HW4.out]
        go_roundw
        case rel => exact ⟨k + 1, c, cs, by omega, by go_num, HSk.out⟩
        case measure => simp [intOf]; omega
      have hws : IntKind.i64.wrap (248 - off) = 248 - off := IntWalk.i64_in _ (by omega)
      by_cases p5 : 248 - off < (nb : Int)
      · go_wp2_with fail
        rw [HW4.out]
        go_roundw
        case rel => exact ⟨k + 1, c, cs, by omega, by go_num, HSk.out⟩
        case measure => simp [intOf]; omega
      obtain ⟨I, rfl⟩ : ∃ I : Nat, page = (I : Int) := ⟨page.toNat, by omega⟩
      obtain ⟨F, rfl⟩ : ∃ F : Nat, off = (F : Int) := ⟨off.toNat, by omega⟩
      have HNum : Hid (19 ≤ I ∧ I < 64 ∧ F + nb ≤ 248) := Lib.hid ⟨by omega, by omega, by omega⟩
      have HM : Hid (200 ≤ 1000000 - 500 * k ∧ 200 ≤ 1000000 - 500 * k - 200 ∧ 1000000 - 500 * (k + 1) ≤ 1000000 - 500 * k - 200 - 200 ∧ 1000000 - 500 * (k + 1) ≤ 1000000 - 500 * k - 200) := Lib.hid (by have := HN.out; omega)
      by_cases hk2 : kind = 2
      · subst hk2
        have HNe : Hid (w1.heap.size < wr.heap.size ∧ w1.heap.size + 1 < wr.heap.size) := Lib.hid ⟨(HJ.out.1.blk.1 (w1.heap.size, TPgs, cs) (by simp)).lt, (HJ.out.1.blk.1 (w1.heap.size + 1, TLsn, lsC c) (by simp)).lt⟩
        go_wp2_with fail
        rw [HW4.out]
        refine HQ.out.1.note.mono ?_
        rintro e w5 ⟨av, fv, xv, rfl, hna, hnf, hnx, hq5⟩
        have HQ5 := Lib.hid hq5
        have HP5 := Lib.hid (HQ.out.2.on (hq5.blk.1 (w1.heap.size, TPgs, cs) (by simp)))
        have HNV := Lib.hid (And.intro hna (And.intro hnf hnx))
        clear hna hnf hnx hq5
        cases xv with
        | false =>
          go_wp2_with fail
          refine (HK.out w5).mono ?_
          rintro e wk ⟨rfl, g⟩
          have HG := Lib.hid (Gr.trans HQ5.out.blk.2 g)
          clear g
          go_wp2_with fail
          go_ret
          exact ⟨rfl, HG.out⟩
        | true =>
          have hA5 := HQ5.out.blk.1 (wr.heap.size, TPa, #[.int .i64 2, .int .i64 (I : Int), .int .i64 (F : Int), .int .i64 num, .slice pb nb cb]) (by simp)
          have a1 : w5.cell? ⟨wr.heap.size, 1, none⟩ = some (.int .i64 (I : Int)) := hA5.cell 1
          have a2 : w5.cell? ⟨wr.heap.size, 2, none⟩ = some (.int .i64 (F : Int)) := hA5.cell 2
          have a4 : w5.cell? ⟨wr.heap.size, 4, none⟩ = some (.slice pb nb cb) := hA5.cell 4
          clear hA5
          go_wp2_with fail
          refine (HQ5.out.put (i := I) (o := F) HM.out.1 HNum.out.1 HNum.out.2.1 HNum.out.2.2 (HNV.out.2.2 (by simp)) HNV.out.2.1 HNV.out.1 (HRow.out w (Gr.refl w)).b (HRow.out w5 HQ5.out.blk.2).b).mono ?_
          rintro e w6 ⟨rfl, hq6⟩
          have HQ6 := Lib.hid (hq6.gr (Gr.refl w6).drew)
          have HP6 := Lib.hid (HP5.out.on ((hq6.gr (Gr.refl w6).drew).blk.1 (w1.heap.size, TPgs, cs) (by simp)))
          have hA6 := hq6.blk.1 (wr.heap.size, TPa, #[.int .i64 2, .int .i64 (I : Int), .int .i64 (F : Int), .int .i64 num, .slice pb nb cb]) (by simp)
          have d1 : w6.cell? ⟨wr.heap.size, 1, none⟩ = some (.int .i64 (I : Int)) := hA6.cell 1
          have d2 : w6.cell? ⟨wr.heap.size, 2, none⟩ = some (.int .i64 (F : Int)) := hA6.cell 2
          have d4 : w6.cell? ⟨wr.heap.size, 4, none⟩ = some (.slice pb nb cb) := hA6.cell 4
          have HY6 : Hid (Byt w6.drew pb nb cb ys) := Lib.hid (HRow.out w6.drew HQ6.out.blk.2).b
          obtain ⟨A, hA⟩ : ∃ A, A = I * 248 + (if 248 = F then 0 else F) := ⟨_, rfl⟩
          have hcut := run_cutG w1.heap.size (I * 248) F (by have := HNum.out.2.2; omega)
          rw [← hA] at hcut
          have HA := Lib.hid hA
          have hidx := run_index_pgs w1.heap.size I HNum.out.2.1
          clear hA6 hq6 a1 a2 a4 hA
          go_wp2_with fail
          go_still_tail 8, (by kernel_rfl)
          change wpList _ _ _ _ _ w6.drew
          generalize w6.drew = wd at HQ6 HP6 HY6 ⊢
          clear d1 d2 d4 hcut hidx
          go_wp2_with (
            refine wpList_copy_pg rfl (.tmp 111) (.tmp 113) rfl HA.out rfl HP6.out HNum.out.2.1 rfl HY6.out HNum.out.2.2 ?_
            intro w7 cs7 hp7 ho7
            have hq7 := HQ6.out.onc (q := w1.heap.size) (ty := TPgs) (old := cs) (Ns := [(wr.heap.size, TPa, #[.int .i64 2, .int .i64 (I : Int), .int .i64 (F : Int), .int .i64 num, .slice pb nb cb]), (w1.heap.size + 1, TLsn, lsC c), (w1.heap.size, TPgs, cs7)]) (by simp) ho7 hp7.blk (fun x hx => by
              have hne := HNe.out
              simp only [List.mem_cons, List.mem_nil_iff, or_false] at hx
              rcases hx with rfl | rfl | rfl
              · exact .inr ⟨by simp, by show wr.heap.size ≠ w1.heap.size; omega⟩
              · exact .inr ⟨by simp, by show w1.heap.size + 1 ≠ w1.heap.size; omega⟩
              · exact .inl rfl)
            have hpc : (fun k => if k = I then Play (c I).1 F ys else (c k).1) = fun k => ((fun j => if j = I then (Play (c j).1 F ys, fv) else c j) k).1 := funext fun k => by
              by_cases e : k = I
              · subst e; simp
              · simp [e]
            rw [hpc] at hp7
            have hL7 : Blk w7 (w1.heap.size + 1) TLsn (lsC c) := hq7.blk.1 (w1.heap.size + 1, TLsn, lsC c) (by simp)
            have hA7 := hq7.blk.1 (wr.heap.size, TPa, #[.int .i64 2, .int .i64 (I : Int), .int .i64 (F : Int), .int .i64 num, .slice pb nb cb]) (by simp)
            have f1 : w7.cell? ⟨wr.heap.size, 1, none⟩ = some (.int .i64 (I : Int)) := hA7.cell 1
            have f2 : w7.cell? ⟨w1.heap.size + 1, I, none⟩ = some (.int .u64 ((c I).2 : Int)) := by rw [hL7.cell I, lsC_at c HNum.out.2.1]
            have f3 := hL7.frozen I
            obtain ⟨W7, hW7⟩ : ∃ W7, W7 = w7.setCell ⟨w1.heap.size + 1, I, none⟩ (.int .u64 (fv : Int)) := ⟨_, rfl⟩
            have f4 : (w7.setCell ⟨w1.heap.size + 1, I, none⟩ (.int .u64 (fv : Int))).cell? ⟨wr.heap.size, 1, none⟩ = some (.int .i64 (I : Int)) := by
              rw [World.cell?_setCell_other _ _ _ _ (by have hne := HNe.out; intro e; have h2 := congrArg Addr.block e; dsimp only at h2; omega)]
              exact f1
            have HL7 : Hid (Blk W7 (w1.heap.size + 1) TLsn (lsC (fun j => if j = I then (Play (c j).1 F ys, fv) else c j))) := Lib.hid (by
              have h := hL7.set I (.int .u64 (fv : Int))
              rw [lsC_set c HNum.out.2.1 (Play (c I).1 F ys) fv] at h
              rw [hW7]
              have e : (fun j => if j = I then (Play (c I).1 F ys, fv) else c j) = (fun j => if j = I then (Play (c j).1 F ys, fv) else c j) := funext fun j => by
                by_cases e : j = I
                · subst e; simp
                · simp [e]
              rw [← e]
              exact h)
            have hq8 := hq7.onc (q := w1.heap.size + 1) (ty := TLsn) (old := lsC c) (Ns := [(wr.heap.size, TPa, #[.int .i64 2, .int .i64 (I : Int), .int .i64 (F : Int), .int .i64 num, .slice pb nb cb]), (w1.heap.size + 1, TLsn, lsC (fun j => if j = I then (Play (c j).1 F ys, fv) else c j)), (w1.heap.size, TPgs, cs7)]) (by simp) (w' := W7) (by rw [hW7]; exact Onc.cell _ _ _ _) HL7.out (fun x hx => by
              have hne := HNe.out
              simp only [List.mem_cons, List.mem_nil_iff, or_false] at hx
              rcases hx with rfl | rfl | rfl
              · exact .inr ⟨by simp, by show wr.heap.size ≠ w1.heap.size + 1; omega⟩
              · exact .inl rfl
              · exact .inr ⟨by simp, by show w1.heap.size ≠ w1.heap.size + 1; omega⟩)
            obtain ⟨C3, hC3⟩ : ∃ C3 : Nat → List Int × Nat, C3 = (fun j => if j = I then (Play (c j).1 F ys, fv) else c j) := ⟨_, rfl⟩
            rw [← hC3] at hq8 hp7
            have HT := Lib.hid (And.intro hq8 (hp7.on (hq8.blk.1 (w1.heap.size, TPgs, cs7) (by simp))))
            have HW7 := Lib.hid hW7.symm
            have hI0 : (0 : Int) ≤ (I : Int) := by omega
            have hI1 : (I : Int) < 64 := by have := HNum.out.2.1; omega
            clear hq7 hpc hp7 ho7 hL7 hA7 hW7 hq8 hC3 HL7 HQ6 HP6 HY6
            have b1 : W7.cell? ⟨wr.heap.size, 1, none⟩ = some (.int .i64 (I : Int)) := (HT.out.1.blk.1 (wr.heap.size, TPa, #[.int .i64 2, .int .i64 (I : Int), .int .i64 (F : Int), .int .i64 num, .slice pb nb cb]) List.mem_cons_self).cell 1
            have HGt := Lib.hid (HT.out.1.get (i := I) HM.out.2.1 HNum.out.1 HNum.out.2.1)
            have HXs : Hid (PIsSec (C3 I).1) := Lib.hid (HT.out.2.sec I)
            obtain ⟨X, hX⟩ : ∃ X, X = (C3 I).1 := ⟨_, rfl⟩
            obtain ⟨Y, hY⟩ : ∃ Y, Y = (C3 I).2 := ⟨_, rfl⟩
            have HXY := Lib.hid (And.intro hX hY)
            rw [← hX, ← hY] at HGt
            rw [← hX] at HXs
            clear hX hY)
          rw [HW7.out]
          refine HGt.out.mono ?_
          rintro e w7 ⟨rfl, hq7⟩
          have HT7 := Lib.hid (And.intro hq7 (HT.out.2.on (hq7.blk.1 (w1.heap.size, TPgs, cs7) (by simp))))
          have hz := Pzero_sec
          have HB7 : Hid (Blk (w7.alloc (.cells (Psec PSec.zero) PTS)) w7.heap.size PTS (Psec PSec.zero)) := Lib.hid (Blk.new _ _ _)
          obtain ⟨W8, hW8⟩ : ∃ W8, W8 = (w7.alloc (.cells (Psec PSec.zero) PTS)).setRow w7.heap.size (Psec (PSx X)) := ⟨_, rfl⟩
          have HW8 := Lib.hid hW8.symm
          have hq8 := hq7.newrow (Psec PSec.zero) PTS (Psec (PSx X))
          rw [← hW8] at hq8
          have HT8 := Lib.hid (And.intro hq8 (HT7.out.2.on (hq8.blk.1 (w1.heap.size, TPgs, cs7) (by simp))))
          have HS8 : Hid (∀ V, Gr W8 V → V.cell? ⟨wr.heap.size, 1, none⟩ = some (.int .i64 (I : Int)) ∧ V.rangeAt w7.heap.size 0 (PSx X).cells ∧ V.rangeAt w1.heap.size (I * 248) (PSx X).cells ∧ V.cell? ⟨w1.heap.size + 1, I, none⟩ = some (.int .u64 (Y : Int))) := Lib.hid fun V g => by
            have k := HT8.out.1.gr g
            have kb := k.blk.1
            have h1 : Blk V w7.heap.size PTS (Psec (PSx X)) := kb (w7.heap.size, PTS, Psec (PSx X)) List.mem_cons_self
            have h2 : Blk V wr.heap.size TPa #[.int .i64 2, .int .i64 (I : Int), .int .i64 (F : Int), .int .i64 num, .slice pb nb cb] := kb (wr.heap.size, TPa, #[.int .i64 2, .int .i64 (I : Int), .int .i64 (F : Int), .int .i64 num, .slice pb nb cb]) (by simp)
            have h3 : Blk V (w1.heap.size + 1) TLsn (lsC C3) := kb (w1.heap.size + 1, TLsn, lsC C3) (by simp)
            have h4 := (HT8.out.2.on (kb (w1.heap.size, TPgs, cs7) (by simp))).range HNum.out.2.1
            have h5 := h3.cell I
            rw [lsC_at C3 HNum.out.2.1] at h5
            refine ⟨h2.cell 1, h1.pone, ?_, ?_⟩
            · rw [HXY.out.1]; exact h4
            · rw [h5, HXY.out.2]
          clear hq7 hq8 hW8 HT7 b1 HGt
          go_wp2_with (refine PwpList_store_x rfl (.tmp 18) (.tmp 124) rfl HB7.out rfl rfl ?_; rw [HW8.out])
          obtain ⟨e1, e2, e3, e4⟩ := HS8.out W8 (Gr.refl _)
          have hqq : ∀ V, (binOp .neq PTS (.agg (PSx X).cells.toArray) (.agg (PSx X).cells.toArray)).run Tryz.prog V = .ok (.bool false) V := fun V => by
            have h := Pneq_sec (PSx X) (PSx X) V
            rw [decide_eq_true (rfl : PSx X = PSx X)] at h
            exact h
          have hidx := run_index_pgs w1.heap.size I HNum.out.2.1
          have hyy : ((Y : Int) != (Y : Int)) = false := by simp
          have hI0 : (0 : Int) ≤ (I : Int) := by omega
          have hI1 : (I : Int) < 64 := by have := HNum.out.2.1; omega
          clear e2 e3
          refine wp_region_quiet_lit (by kernel_rfl) (by kernel_rfl) ?_
          repeat (go_big_quiet_step (fail))
          refine wpQuiet_load_mid rfl PTS (.tmp 18) rfl _ _ rfl (PSx X).cells _ (fun V hV => by obtain ⟨nn, rfl⟩ := hV; exact (HS8.out _ ⟨rfl, rfl, rfl, Nat.le_refl _, fun _ _ => rfl⟩).2.1) Punder_sec rfl (by rw [PSec.cells_len]; exact Psize_sec) ?_
          simp only [Act.put, List.setIfInBounds_toArray, List.set_cons_zero, List.set_cons_succ]
          repeat (go_big_quiet_step (fail))
          refine wpQuiet_load_mid rfl PTS (.tmp 133) rfl _ _ rfl (PSx X).cells _ (fun V hV => by obtain ⟨nn, rfl⟩ := hV; exact (HS8.out _ ⟨rfl, rfl, rfl, Nat.le_refl _, fun _ _ => rfl⟩).2.2.1) Punder_sec rfl (by rw [PSec.cells_len]; exact Psize_sec) ?_
          simp only [Act.put, List.setIfInBounds_toArray, List.set_cons_zero, List.set_cons_succ]
          repeat (go_big_quiet_step (fail))
          refine wpQuiet_nil ?_
          intro _ hw'
          obtain ⟨nq, hw''⟩ := hw'
          subst hw''
          have HE : Hid (Hid (KpI w (W8.drewN nq) d l b m held C3 (1000000 - 500 * (k + 1)) [(w1.heap.size + 1, TLsn, lsC C3), (w1.heap.size, TPgs, cs7)] CTr ∧ PgAt (W8.drewN nq) w1.heap.size cs7 (fun i => (C3 i).1))) := Lib.hid (Lib.hid (by
            have g : Gr W8 (W8.drewN nq) := ⟨rfl, rfl, rfl, Nat.le_refl _, fun _ _ => rfl⟩
            have k1 := HT8.out.1.gr g
            refine ⟨k1.less HM.out.2.2.1 (fun x hx => ?_), HT8.out.2.on (k1.blk.1 (w1.heap.size, TPgs, cs7) (by simp))⟩
            simp only [List.mem_cons, List.mem_nil_iff, or_false] at hx ⊢
            rcases hx with rfl | rfl <;> simp))
          go_wp2_with fail
          go_roundw
          case rel => exact ⟨k + 1, C3, cs7, by omega, by go_num, HE.out⟩
          case measure => simp [intOf]; omega
      · have hkn : (kind == 2) = false := beq_eq_false_iff_ne.2 hk2
        have HT := HQ
        have b1 : W4.cell? ⟨wr.heap.size, 1, none⟩ = some (.int .i64 (I : Int)) := (HT.out.1.blk.1 (wr.heap.size, TPa, #[.int .i64 kind, .int .i64 (I : Int), .int .i64 (F : Int), .int .i64 num, .slice pb nb cb]) List.mem_cons_self).cell 1
        have HGt := Lib.hid (HT.out.1.get (i := I) HM.out.1 HNum.out.1 HNum.out.2.1)
        have HXs : Hid (PIsSec (c I).1) := Lib.hid (HT.out.2.sec I)
        obtain ⟨X, hX⟩ : ∃ X, X = (c I).1 := ⟨_, rfl⟩
        obtain ⟨Y, hY⟩ : ∃ Y, Y = (c I).2 := ⟨_, rfl⟩
        have HXY := Lib.hid (And.intro hX hY)
        rw [← hX, ← hY] at HGt
        rw [← hX] at HXs
        clear hX hY
        go_wp2_with fail
        rw [HW4.out]
        refine HGt.out.mono ?_
        rintro e w7 ⟨rfl, hq7⟩
        have HT7 := Lib.hid (And.intro hq7 (HT.out.2.on (hq7.blk.1 (w1.heap.size, TPgs, cs) (by simp))))
        have hz := Pzero_sec
        have HB7 : Hid (Blk (w7.alloc (.cells (Psec PSec.zero) PTS)) w7.heap.size PTS (Psec PSec.zero)) := Lib.hid (Blk.new _ _ _)
        obtain ⟨W8, hW8⟩ : ∃ W8, W8 = (w7.alloc (.cells (Psec PSec.zero) PTS)).setRow w7.heap.size (Psec (PSx X)) := ⟨_, rfl⟩
        have HW8 := Lib.hid hW8.symm
        have hq8 := hq7.newrow (Psec PSec.zero) PTS (Psec (PSx X))
        rw [← hW8] at hq8
        have HT8 := Lib.hid (And.intro hq8 (HT7.out.2.on (hq8.blk.1 (w1.heap.size, TPgs, cs) (by simp))))
        have HS8 : Hid (∀ V, Gr W8 V → V.cell? ⟨wr.heap.size, 1, none⟩ = some (.int .i64 (I : Int)) ∧ V.rangeAt w7.heap.size 0 (PSx X).cells ∧ V.rangeAt w1.heap.size (I * 248) (PSx X).cells ∧ V.cell? ⟨w1.heap.size + 1, I, none⟩ = some (.int .u64 (Y : Int))) := Lib.hid fun V g => by
          have k := HT8.out.1.gr g
          have kb := k.blk.1
          have h1 : Blk V w7.heap.size PTS (Psec (PSx X)) := kb (w7.heap.size, PTS, Psec (PSx X)) List.mem_cons_self
          have h2 : Blk V wr.heap.size TPa #[.int .i64 kind, .int .i64 (I : Int), .int .i64 (F : Int), .int .i64 num, .slice pb nb cb] := kb (wr.heap.size, TPa, #[.int .i64 kind, .int .i64 (I : Int), .int .i64 (F : Int), .int .i64 num, .slice pb nb cb]) (by simp)
          have h3 : Blk V (w1.heap.size + 1) TLsn (lsC c) := kb (w1.heap.size + 1, TLsn, lsC c) (by simp)
          have h4 := (HT8.out.2.on (kb (w1.heap.size, TPgs, cs) (by simp))).range HNum.out.2.1
          have h5 := h3.cell I
          rw [lsC_at c HNum.out.2.1] at h5
          refine ⟨h2.cell 1, h1.pone, ?_, ?_⟩
          · rw [HXY.out.1]; exact h4
          · rw [h5, HXY.out.2]
        clear hq7 hq8 hW8 HT7 b1 HGt
        go_wp2_with (refine PwpList_store_x rfl (.tmp 18) (.tmp 124) rfl HB7.out rfl rfl ?_; rw [HW8.out])
        obtain ⟨e1, e2, e3, e4⟩ := HS8.out W8 (Gr.refl _)
        have hqq : ∀ V, (binOp .neq PTS (.agg (PSx X).cells.toArray) (.agg (PSx X).cells.toArray)).run Tryz.prog V = .ok (.bool false) V := fun V => by
          have h := Pneq_sec (PSx X) (PSx X) V
          rw [decide_eq_true (rfl : PSx X = PSx X)] at h
          exact h
        have hidx := run_index_pgs w1.heap.size I HNum.out.2.1
        have hyy : ((Y : Int) != (Y : Int)) = false := by simp
        have hI0 : (0 : Int) ≤ (I : Int) := by omega
        have hI1 : (I : Int) < 64 := by have := HNum.out.2.1; omega
        clear e2 e3
        refine wp_region_quiet_lit (by kernel_rfl) (by kernel_rfl) ?_
        repeat (go_big_quiet_step (fail))
        refine wpQuiet_load_mid rfl PTS (.tmp 18) rfl _ _ rfl (PSx X).cells _ (fun V hV => by obtain ⟨nn, rfl⟩ := hV; exact (HS8.out _ ⟨rfl, rfl, rfl, Nat.le_refl _, fun _ _ => rfl⟩).2.1) Punder_sec rfl (by rw [PSec.cells_len]; exact Psize_sec) ?_
        simp only [Act.put, List.setIfInBounds_toArray, List.set_cons_zero, List.set_cons_succ]
        repeat (go_big_quiet_step (fail))
        refine wpQuiet_load_mid rfl PTS (.tmp 133) rfl _ _ rfl (PSx X).cells _ (fun V hV => by obtain ⟨nn, rfl⟩ := hV; exact (HS8.out _ ⟨rfl, rfl, rfl, Nat.le_refl _, fun _ _ => rfl⟩).2.2.1) Punder_sec rfl (by rw [PSec.cells_len]; exact Psize_sec) ?_
        simp only [Act.put, List.setIfInBounds_toArray, List.set_cons_zero, List.set_cons_succ]
        repeat (go_big_quiet_step (fail))
        refine wpQuiet_nil ?_
        intro _ hw'
        obtain ⟨nq, hw''⟩ := hw'
        subst hw''
        have HE : Hid (Hid (KpI w (W8.drewN nq) d l b m held c (1000000 - 500 * (k + 1)) [(w1.heap.size + 1, TLsn, lsC c), (w1.heap.size, TPgs, cs)] CTr ∧ PgAt (W8.drewN nq) w1.heap.size cs (fun i => (c i).1))) := Lib.hid (Lib.hid (by
          have g : Gr W8 (W8.drewN nq) := ⟨rfl, rfl, rfl, Nat.le_refl _, fun _ _ => rfl⟩
          have k1 := HT8.out.1.gr g
          refine ⟨k1.less HM.out.2.2.2 (fun x hx => ?_), HT8.out.2.on (k1.blk.1 (w1.heap.size, TPgs, cs) (by simp))⟩
          simp only [List.mem_cons, List.mem_nil_iff, or_false] at hx ⊢
          rcases hx with rfl | rfl <;> simp))
        go_wp2_with fail
        go_roundw
        case rel => exact ⟨k + 1, c, cs, by omega, by go_num, HE.out⟩
        case measure => simp [intOf]; omega
    · obtain rfl : k = n := by omega
      have hg3 : ¬ ((k : Int) < (k : Int)) := by omega
      clear hk hlt
      have HKW := Lib.hid HJ.out.1.writes
      have HWa := Lib.hid (HJ.out.1.all (by have := HN.out; omega))
      cases held with
      | false =>
        go_wp2_with fail
        refine HWa.out.mono ?_
        rintro e w3 ⟨rfl, hf⟩
        have HF3 := Lib.hid hf
        have HP3 := Lib.hid (HJ.out.2.on (hf.blk.1 (w1.heap.size, TPgs, cs) (by simp)))
        clear hf HWa
        go_wp2_with fail
        refine HF3.out.dirty.mono ?_
        rintro e w4 ⟨v4, rfl, hi4, g4⟩
        obtain ⟨p4, c4, rfl, -, -⟩ := hi4.nums (fun x hx => by cases hx)
        have HF4 := Lib.hid (HF3.out.gr g4)
        have HP4 := Lib.hid (HP3.out.on ((HF3.out.gr g4).blk.1 (w1.heap.size, TPgs, cs) (by simp)))
        clear hi4 g4 HF3 HP3
        go_wp2_with fail
        refine HF4.out.loose.mono ?_
        rintro e w5 ⟨v5, rfl, hi5, g5⟩
        obtain ⟨p5, c5, rfl, -, -⟩ := hi5.nums (fun x hx => by cases hx)
        have HF5 := Lib.hid (HF4.out.gr g5)
        have HP5 := Lib.hid (HP4.out.on ((HF4.out.gr g5).blk.1 (w1.heap.size, TPgs, cs) (by simp)))
        clear hi5 g5 HF4 HP4
        go_wp2_with fail
        go_loopw [21] (fun gv wr => ∃ j : Nat, 19 ≤ j ∧ j ≤ 64 ∧ gv = .int .i64 (j : Int) ∧ Hid (Gr w5 wr)) (fun gv _ => 64 - (intOf gv).toNat)
        case atStart => exact ⟨19, by omega, by omega, rfl, Lib.hid (Gr.refl _)⟩
        case round =>
          obtain ⟨j, hj19, hj, rfl, HG⟩ := hrel
          by_cases hlt : j < 64
          · have g3 : (j : Int) < 64 := by omega
            have hq : IntKind.i64.wrap ((j : Int) + 1) = ((j + 1 : Nat) : Int) := by rw [IntWalk.i64_in _ (by omega)]; omega
            have HR := Lib.hid ((HF5.out.gr HG.out).read hj19 hlt)
            have HJ6 : Hid (19 ≤ j ∧ j < 64) := Lib.hid ⟨hj19, hlt⟩
            have hz := zero_sec
            go_wp2_with fail
            refine HR.out.mono ?_
            rintro e w6 ⟨x, ⟨rfl, g6⟩, hx1, hx2⟩
            have HX := Lib.hid (And.intro hx1 hx2)
            have HN6 : Hid (Blk (w6.alloc (.cells (sec Sec.zero) TS)) w6.heap.size TS (sec Sec.zero)) := Lib.hid (Blk.new _ _ _)
            obtain ⟨W7, hW7⟩ : ∃ W7, W7 = (w6.alloc (.cells (sec Sec.zero) TS)).setRow w6.heap.size (sec x) := ⟨_, rfl⟩
            have HW7 := Lib.hid hW7.symm
            have HB7 : Hid (Blk W7 w6.heap.size TS (sec x) ∧ Gr w5 W7) := Lib.hid (by
              rw [hW7]
              exact ⟨HN6.out.row _, below_setRow (Gr.trans HG.out (Gr.trans g6 (Gr.new _ _))) (Nat.le_trans HG.out.size g6.size) _⟩)
            obtain ⟨X, hX⟩ : ∃ X, X = (c j).1 := ⟨_, rfl⟩
            obtain ⟨Y, hY⟩ : ∃ Y, Y = (c j).2 := ⟨_, rfl⟩
            have HS : Hid (∀ V, Gr W7 V → V.rangeAt w6.heap.size 0 x.cells ∧ V.cell? ⟨w1.heap.size + 1, j, none⟩ = some (.int .u64 (Y : Int)) ∧ V.rangeAt w1.heap.size (j * 248) (PSx X).cells) := Lib.hid fun V g => by
              have k := (HF5.out.gr (Gr.trans HB7.out.2 g)).blk.1
              have h3 : Blk V (w1.heap.size + 1) TLsn (lsC c) := k (w1.heap.size + 1, TLsn, lsC c) (by simp)
              have h4 := (HP5.out.on (k (w1.heap.size, TPgs, cs) (by simp))).range HJ6.out.2
              refine ⟨(HB7.out.1.gr g).one, ?_, ?_⟩
              · rw [h3.cell j, lsC_at c HJ6.out.2, hY]
              · rw [hX]; exact h4
            have HLs : Hid (∀ V, Calls Tryz.prog 29 #[.agg x.cells.toArray] V fun e w' => e = .returned (.int .u64 (Y : Int)) ∧ Gr V w') := Lib.hid fun V => by
              have h := LSN_any (secN_sec x) V
              rw [Sx_secN, HX.out.2, ← hY] at h
              exact h
            have HPl : Hid (∀ V, Calls Tryz.prog 32 #[.agg x.cells.toArray] V fun e w' => e = .returned (.agg (PSx X).cells.toArray) ∧ Gr V w') := Lib.hid fun V => by
              have h := Payload_any (secN_sec x) V
              rw [Sx_secN, HX.out.1, ← hX] at h
              exact h
            clear g6 hW7 HR hX hY hx1 hx2 hlt hj19
            go_wp2_with (refine wpList_store_x rfl (.tmp 22) (.tmp 174) rfl HN6.out rfl rfl ?_; rw [HW7.out])
            have hqq : ∀ V, (binOp .neq PTS (.agg (PSx X).cells.toArray) (.agg (PSx X).cells.toArray)).run Tryz.prog V = .ok (.bool false) V := fun V => by
              have h := Pneq_sec (PSx X) (PSx X) V
              rw [decide_eq_true (rfl : PSx X = PSx X)] at h
              exact h
            have hidx := run_index_pgs w1.heap.size j HJ6.out.2
            have hyy : ((Y : Int) != (Y : Int)) = false := by simp
            have hI0 : (0 : Int) ≤ (j : Int) := by omega
            have hI1 : (j : Int) < 64 := by have := HJ6.out.2; omega
            refine Flow.region (SlKe32 x X Y j w1.heap.size) (Gr W7) (fun _ _ => True) (by kernel_rfl) (by kernel_rfl) (fun _ _ _ _ h _ => h) ⟨rfl, rfl, rfl, Nat.le_refl _, fun _ _ => rfl⟩ ?steps ?fin
            case steps =>
              refine Flow.Steps.cons (fun a W hfr hinv hdep K hK => ?_) ?_
              · have s23 : a.tmps.getD 23 undef = .int .i64 0 := hfr.at 23 (by kernel_rfl)
                have t23 : a.tmps[23]?.getD undef = .int .i64 0 := by simpa using s23
                rw [if_pos (Flow.wanted_none rfl)]
                clear hfr hdep
                go_simp
                exact hK _ _ True.intro hinv (fun d hd => by cases hd; trivial)
              refine Flow.Steps.cons (fun a W hfr hinv hdep K hK => ?_) ?_
              · have s176 : a.tmps.getD 176 undef = .int .i64 0 := hdep 176 (by kernel_rfl)
                have t176 : a.tmps[176]?.getD undef = .int .i64 0 := by simpa using s176
                rw [if_pos (Flow.wanted_none rfl)]
                clear hfr hdep
                go_simp
                exact hK _ _ True.intro hinv (fun d hd => by cases hd; trivial)
              refine Flow.Steps.cons (fun a W hfr hinv hdep K hK => ?_) ?_
              · have s177 : a.tmps.getD 177 undef = .bool false := hdep 177 (by kernel_rfl)
                have t177 : a.tmps[177]?.getD undef = .bool false := by simpa using s177
                rw [if_pos (Flow.wanted_none rfl)]
                clear hfr hdep
                go_simp
                exact hK _ _ True.intro hinv (fun d hd => by cases hd; trivial)
              refine Flow.Steps.cons (fun a W hfr hinv hdep K hK => ?_) ?_
              · have sg : a.tmps.getD 178 undef = .bool false := hdep 178 (by kernel_rfl)
                have s22 : a.tmps.getD 22 undef = .pointer (some ⟨w6.heap.size, 0, none⟩) := hfr.at 22 (by kernel_rfl)
                have t22 : a.tmps[22]?.getD undef = .pointer (some ⟨w6.heap.size, 0, none⟩) := by simpa using s22
                rw [if_pos (Flow.wanted_yes 2 false 178 rfl (by kernel_rfl) sg)]
                clear hfr hdep
                exact wp_load_mid TS (.tmp 22) rfl _ _ s22 x.cells _ (HS.out W hinv).1 under_sec rfl (by rw [Sec.cells_len]; exact size_sec) (hK _ _ True.intro hinv (fun d hd => by cases hd; rfl))
              refine Flow.Steps.cons (fun a W hfr hinv hdep K hK => ?_) ?_
              · have sg : a.tmps.getD 178 undef = .bool false := hdep 178 (by kernel_rfl)
                have s179 : a.tmps.getD 179 undef = .agg x.cells.toArray := hdep 179 (by kernel_rfl)
                have t179 : a.tmps[179]?.getD undef = .agg x.cells.toArray := by simpa using s179
                rw [if_pos (Flow.wanted_yes 2 false 178 rfl (by kernel_rfl) sg)]
                clear hfr hdep
                go_simp
                refine (HLs.out W).mono ?_
                rintro e W' ⟨rfl, g1⟩
                exact hK _ _ True.intro (Gr.trans hinv g1) (fun d hd => by cases hd; trivial)
              refine Flow.Steps.cons (fun a W hfr hinv hdep K hK => ?_) ?_
              · have sg : a.tmps.getD 178 undef = .bool false := hdep 178 (by kernel_rfl)
                have s21 : a.tmps.getD 21 undef = .int .i64 (j : Int) := hfr.at 21 (by kernel_rfl)
                have t21 : a.tmps[21]?.getD undef = .int .i64 (j : Int) := by simpa using s21
                rw [if_pos (Flow.wanted_yes 2 false 178 rfl (by kernel_rfl) sg)]
                clear hfr hdep
                go_simp
                exact hK _ _ True.intro hinv (fun d hd => by cases hd; trivial)
              refine Flow.Steps.cons (fun a W hfr hinv hdep K hK => ?_) ?_
              · have sg : a.tmps.getD 178 undef = .bool false := hdep 178 (by kernel_rfl)
                have s12 : a.tmps.getD 12 undef = .pointer (some ⟨w1.heap.size + 1, 0, none⟩) := hfr.at 12 (by kernel_rfl)
                have t12 : a.tmps[12]?.getD undef = .pointer (some ⟨w1.heap.size + 1, 0, none⟩) := by simpa using s12
                have s181 : a.tmps.getD 181 undef = .int .i64 (j : Int) := hdep 181 (by kernel_rfl)
                have t181 : a.tmps[181]?.getD undef = .int .i64 (j : Int) := by simpa using s181
                rw [if_pos (Flow.wanted_yes 2 false 178 rfl (by kernel_rfl) sg)]
                clear hfr hdep
                go_simp
                exact hK _ _ True.intro hinv (fun d hd => by cases hd; trivial)
              refine Flow.Steps.cons (fun a W hfr hinv hdep K hK => ?_) ?_
              · have sg : a.tmps.getD 178 undef = .bool false := hdep 178 (by kernel_rfl)
                have s182 : a.tmps.getD 182 undef = .pointer (some ⟨w1.heap.size + 1, j, none⟩) := hdep 182 (by kernel_rfl)
                have t182 : a.tmps[182]?.getD undef = .pointer (some ⟨w1.heap.size + 1, j, none⟩) := by simpa using s182
                obtain ⟨-, e2, -⟩ := HS.out W hinv
                rw [if_pos (Flow.wanted_yes 2 false 178 rfl (by kernel_rfl) sg)]
                clear hfr hdep
                go_simp
                exact hK _ _ True.intro hinv (fun d hd => by cases hd; trivial)
              refine Flow.Steps.cons (fun a W hfr hinv hdep K hK => ?_) ?_
              · have sg : a.tmps.getD 178 undef = .bool false := hdep 178 (by kernel_rfl)
                have s180 : a.tmps.getD 180 undef = .int .u64 (Y : Int) := hdep 180 (by kernel_rfl)
                have t180 : a.tmps[180]?.getD undef = .int .u64 (Y : Int) := by simpa using s180
                have s183 : a.tmps.getD 183 undef = .int .u64 (Y : Int) := hdep 183 (by kernel_rfl)
                have t183 : a.tmps[183]?.getD undef = .int .u64 (Y : Int) := by simpa using s183
                rw [if_pos (Flow.wanted_yes 2 false 178 rfl (by kernel_rfl) sg)]
                clear hfr hdep
                go_simp
                exact hK _ _ True.intro hinv (fun d hd => by cases hd; trivial)
              refine Flow.Steps.cons (fun a W hfr hinv hdep K hK => ?_) ?_
              · have s178 : a.tmps.getD 178 undef = .bool false := hdep 178 (by kernel_rfl)
                have t178 : a.tmps[178]?.getD undef = .bool false := by simpa using s178
                have s184 : a.tmps.getD 184 undef = .bool false := hdep 184 (by kernel_rfl)
                have t184 : a.tmps[184]?.getD undef = .bool false := by simpa using s184
                rw [if_pos (Flow.wanted_none rfl)]
                clear hfr hdep
                go_simp
                exact hK _ _ True.intro hinv (fun d hd => by cases hd; trivial)
              refine Flow.Steps.cons (fun a W hfr hinv hdep K hK => ?_) ?_
              · have s185 : a.tmps.getD 185 undef = .bool false := hdep 185 (by kernel_rfl)
                have t185 : a.tmps[185]?.getD undef = .bool false := by simpa using s185
                rw [if_pos (Flow.wanted_none rfl)]
                clear hfr hdep
                go_simp
                exact hK _ _ True.intro hinv (fun d hd => by cases hd; trivial)
              refine Flow.Steps.cons (fun a W hfr hinv hdep K hK => ?_) ?_
              · have sg : a.tmps.getD 186 undef = .bool false := hdep 186 (by kernel_rfl)
                have s22 : a.tmps.getD 22 undef = .pointer (some ⟨w6.heap.size, 0, none⟩) := hfr.at 22 (by kernel_rfl)
                have t22 : a.tmps[22]?.getD undef = .pointer (some ⟨w6.heap.size, 0, none⟩) := by simpa using s22
                rw [if_pos (Flow.wanted_yes 10 false 186 rfl (by kernel_rfl) sg)]
                clear hfr hdep
                exact wp_load_mid TS (.tmp 22) rfl _ _ s22 x.cells _ (HS.out W hinv).1 under_sec rfl (by rw [Sec.cells_len]; exact size_sec) (hK _ _ True.intro hinv (fun d hd => by cases hd; rfl))
              refine Flow.Steps.cons (fun a W hfr hinv hdep K hK => ?_) ?_
              · have sg : a.tmps.getD 186 undef = .bool false := hdep 186 (by kernel_rfl)
                have s187 : a.tmps.getD 187 undef = .agg x.cells.toArray := hdep 187 (by kernel_rfl)
                have t187 : a.tmps[187]?.getD undef = .agg x.cells.toArray := by simpa using s187
                rw [if_pos (Flow.wanted_yes 10 false 186 rfl (by kernel_rfl) sg)]
                clear hfr hdep
                go_simp
                refine (HPl.out W).mono ?_
                rintro e W' ⟨rfl, g1⟩
                exact hK _ _ True.intro (Gr.trans hinv g1) (fun d hd => by cases hd; trivial)
              refine Flow.Steps.cons (fun a W hfr hinv hdep K hK => ?_) ?_
              · have sg : a.tmps.getD 186 undef = .bool false := hdep 186 (by kernel_rfl)
                have s21 : a.tmps.getD 21 undef = .int .i64 (j : Int) := hfr.at 21 (by kernel_rfl)
                have t21 : a.tmps[21]?.getD undef = .int .i64 (j : Int) := by simpa using s21
                rw [if_pos (Flow.wanted_yes 10 false 186 rfl (by kernel_rfl) sg)]
                clear hfr hdep
                go_simp
                exact hK _ _ True.intro hinv (fun d hd => by cases hd; trivial)
              refine Flow.Steps.cons (fun a W hfr hinv hdep K hK => ?_) ?_
              · have sg : a.tmps.getD 186 undef = .bool false := hdep 186 (by kernel_rfl)
                have s11 : a.tmps.getD 11 undef = .pointer (some ⟨w1.heap.size, 0, none⟩) := hfr.at 11 (by kernel_rfl)
                have t11 : a.tmps[11]?.getD undef = .pointer (some ⟨w1.heap.size, 0, none⟩) := by simpa using s11
                have s189 : a.tmps.getD 189 undef = .int .i64 (j : Int) := hdep 189 (by kernel_rfl)
                have t189 : a.tmps[189]?.getD undef = .int .i64 (j : Int) := by simpa using s189
                rw [if_pos (Flow.wanted_yes 10 false 186 rfl (by kernel_rfl) sg)]
                clear hfr hdep
                go_simp
                exact hK _ _ True.intro hinv (fun d hd => by cases hd; trivial)
              refine Flow.Steps.cons (fun a W hfr hinv hdep K hK => ?_) ?_
              · have sg : a.tmps.getD 186 undef = .bool false := hdep 186 (by kernel_rfl)
                have s190 : a.tmps.getD 190 undef = .pointer (some ⟨w1.heap.size, j * 248, none⟩) := hdep 190 (by kernel_rfl)
                have t190 : a.tmps[190]?.getD undef = .pointer (some ⟨w1.heap.size, j * 248, none⟩) := by simpa using s190
                rw [if_pos (Flow.wanted_yes 10 false 186 rfl (by kernel_rfl) sg)]
                clear hfr hdep
                exact wp_load_mid PTS (.tmp 190) rfl _ _ s190 (PSx X).cells _ (HS.out W hinv).2.2 Punder_sec rfl (by rw [PSec.cells_len]; exact Psize_sec) (hK _ _ True.intro hinv (fun d hd => by cases hd; rfl))
              refine Flow.Steps.cons (fun a W hfr hinv hdep K hK => ?_) ?_
              · have sg : a.tmps.getD 186 undef = .bool false := hdep 186 (by kernel_rfl)
                have s188 : a.tmps.getD 188 undef = .agg (PSx X).cells.toArray := hdep 188 (by kernel_rfl)
                have t188 : a.tmps[188]?.getD undef = .agg (PSx X).cells.toArray := by simpa using s188
                have s191 : a.tmps.getD 191 undef = .agg (PSx X).cells.toArray := hdep 191 (by kernel_rfl)
                have t191 : a.tmps[191]?.getD undef = .agg (PSx X).cells.toArray := by simpa using s191
                rw [if_pos (Flow.wanted_yes 10 false 186 rfl (by kernel_rfl) sg)]
                clear hfr hdep
                go_simp
                exact hK _ _ True.intro hinv (fun d hd => by cases hd; trivial)
              refine Flow.Steps.cons (fun a W hfr hinv hdep K hK => ?_) ?_
              · have s186 : a.tmps.getD 186 undef = .bool false := hdep 186 (by kernel_rfl)
                have t186 : a.tmps[186]?.getD undef = .bool false := by simpa using s186
                have s192 : a.tmps.getD 192 undef = .bool false := hdep 192 (by kernel_rfl)
                have t192 : a.tmps[192]?.getD undef = .bool false := by simpa using s192
                rw [if_pos (Flow.wanted_none rfl)]
                clear hfr hdep
                go_simp
                exact hK _ _ True.intro hinv (fun d hd => by cases hd; trivial)
              exact True.intro
            case fin =>
              intro a W hfr hfin hsl
              have s193 : a.tmps.getD 193 undef = .bool false := hsl 17 _ 193 rfl rfl
              have t193 : a.tmps[193]?.getD undef = .bool false := by simpa using s193
              have e := Flow.frame hfr [176, 177, 178, 179, 180, 181, 182, 183, 184, 185, 186, 187, 188, 189, 190, 191, 192, 193] (List.range 195) (by kernel_rfl) (by kernel_rfl)
              simp [List.range, List.range.loop] at e
              rw [t193] at e
              rw [e]
              clear e hfr hsl s193 t193
              rename_i K2 hK2
              refine hK2 _ _ ?_
              have HG7 := Lib.hid (Gr.trans HB7.out.2 hfin)
              clear hfin hqq hidx
              go_wp2_with fail
              go_roundw
              case rel => exact ⟨j + 1, by have := HJ6.out; omega, by have := HJ6.out; omega, by go_num, HG7⟩
              case measure => have := HJ6.out; simp [intOf]; omega
          · obtain rfl : j = 64 := by omega
            go_wp2_with fail
            refine (HK.out wr).mono ?_
            rintro e wk ⟨rfl, g⟩
            have HG := Lib.hid (Gr.trans (Gr.trans HF5.out.blk.2 HG.out) g)
            clear g
            go_wp2_with fail
            go_ret
            exact ⟨rfl, HG.out⟩
      | true =>
        go_wp2_with fail
        refine HKW.out.mono ?_
        rintro e w2 ⟨nw, rfl, hnw, rfl⟩
        obtain rfl : nw = 0 := hnw (by simp)
        clear HKW hnw
        go_wp2_with fail
        refine HWa.out.mono ?_
        rintro e w3 ⟨rfl, hf⟩
        have HF3 := Lib.hid hf
        have HP3 := Lib.hid (HJ.out.2.on (hf.blk.1 (w1.heap.size, TPgs, cs) (by simp)))
        clear hf HWa
        go_wp2_with fail
        refine HF3.out.dirty.mono ?_
        rintro e w4 ⟨v4, rfl, hi4, g4⟩
        obtain ⟨p4, c4, rfl, -, -⟩ := hi4.nums (fun x hx => by cases hx)
        have HF4 := Lib.hid (HF3.out.gr g4)
        have HP4 := Lib.hid (HP3.out.on ((HF3.out.gr g4).blk.1 (w1.heap.size, TPgs, cs) (by simp)))
        clear hi4 g4 HF3 HP3
        go_wp2_with fail
        refine HF4.out.loose.mono ?_
        rintro e w5 ⟨v5, rfl, hi5, g5⟩
        obtain ⟨p5, c5, rfl, -, -⟩ := hi5.nums (fun x hx => by cases hx)
        have HF5 := Lib.hid (HF4.out.gr g5)
        have HP5 := Lib.hid (HP4.out.on ((HF4.out.gr g5).blk.1 (w1.heap.size, TPgs, cs) (by simp)))
        clear hi5 g5 HF4 HP4
        go_wp2_with fail
        go_loopw [21] (fun gv wr => ∃ j : Nat, 19 ≤ j ∧ j ≤ 64 ∧ gv = .int .i64 (j : Int) ∧ Hid (Gr w5 wr)) (fun gv _ => 64 - (intOf gv).toNat)
        case atStart => exact ⟨19, by omega, by omega, rfl, Lib.hid (Gr.refl _)⟩
        case round =>
          obtain ⟨j, hj19, hj, rfl, HG⟩ := hrel
          by_cases hlt : j < 64
          · have g3 : (j : Int) < 64 := by omega
            have hq : IntKind.i64.wrap ((j : Int) + 1) = ((j + 1 : Nat) : Int) := by rw [IntWalk.i64_in _ (by omega)]; omega
            have HR := Lib.hid ((HF5.out.gr HG.out).read hj19 hlt)
            have HJ6 : Hid (19 ≤ j ∧ j < 64) := Lib.hid ⟨hj19, hlt⟩
            have hz := zero_sec
            go_wp2_with fail
            refine HR.out.mono ?_
            rintro e w6 ⟨x, ⟨rfl, g6⟩, hx1, hx2⟩
            have HX := Lib.hid (And.intro hx1 hx2)
            have HN6 : Hid (Blk (w6.alloc (.cells (sec Sec.zero) TS)) w6.heap.size TS (sec Sec.zero)) := Lib.hid (Blk.new _ _ _)
            obtain ⟨W7, hW7⟩ : ∃ W7, W7 = (w6.alloc (.cells (sec Sec.zero) TS)).setRow w6.heap.size (sec x) := ⟨_, rfl⟩
            have HW7 := Lib.hid hW7.symm
            have HB7 : Hid (Blk W7 w6.heap.size TS (sec x) ∧ Gr w5 W7) := Lib.hid (by
              rw [hW7]
              exact ⟨HN6.out.row _, below_setRow (Gr.trans HG.out (Gr.trans g6 (Gr.new _ _))) (Nat.le_trans HG.out.size g6.size) _⟩)
            obtain ⟨X, hX⟩ : ∃ X, X = (c j).1 := ⟨_, rfl⟩
            obtain ⟨Y, hY⟩ : ∃ Y, Y = (c j).2 := ⟨_, rfl⟩
            have HS : Hid (∀ V, Gr W7 V → V.rangeAt w6.heap.size 0 x.cells ∧ V.cell? ⟨w1.heap.size + 1, j, none⟩ = some (.int .u64 (Y : Int)) ∧ V.rangeAt w1.heap.size (j * 248) (PSx X).cells) := Lib.hid fun V g => by
              have k := (HF5.out.gr (Gr.trans HB7.out.2 g)).blk.1
              have h3 : Blk V (w1.heap.size + 1) TLsn (lsC c) := k (w1.heap.size + 1, TLsn, lsC c) (by simp)
              have h4 := (HP5.out.on (k (w1.heap.size, TPgs, cs) (by simp))).range HJ6.out.2
              refine ⟨(HB7.out.1.gr g).one, ?_, ?_⟩
              · rw [h3.cell j, lsC_at c HJ6.out.2, hY]
              · rw [hX]; exact h4
            have HLs : Hid (∀ V, Calls Tryz.prog 29 #[.agg x.cells.toArray] V fun e w' => e = .returned (.int .u64 (Y : Int)) ∧ Gr V w') := Lib.hid fun V => by
              have h := LSN_any (secN_sec x) V
              rw [Sx_secN, HX.out.2, ← hY] at h
              exact h
            have HPl : Hid (∀ V, Calls Tryz.prog 32 #[.agg x.cells.toArray] V fun e w' => e = .returned (.agg (PSx X).cells.toArray) ∧ Gr V w') := Lib.hid fun V => by
              have h := Payload_any (secN_sec x) V
              rw [Sx_secN, HX.out.1, ← hX] at h
              exact h
            clear g6 hW7 HR hX hY hx1 hx2 hlt hj19
            go_wp2_with (refine wpList_store_x rfl (.tmp 22) (.tmp 174) rfl HN6.out rfl rfl ?_; rw [HW7.out])
            have hqq : ∀ V, (binOp .neq PTS (.agg (PSx X).cells.toArray) (.agg (PSx X).cells.toArray)).run Tryz.prog V = .ok (.bool false) V := fun V => by
              have h := Pneq_sec (PSx X) (PSx X) V
              rw [decide_eq_true (rfl : PSx X = PSx X)] at h
              exact h
            have hidx := run_index_pgs w1.heap.size j HJ6.out.2
            have hyy : ((Y : Int) != (Y : Int)) = false := by simp
            have hI0 : (0 : Int) ≤ (j : Int) := by omega
            have hI1 : (j : Int) < 64 := by have := HJ6.out.2; omega
            refine Flow.region (SlKe32 x X Y j w1.heap.size) (Gr W7) (fun _ _ => True) (by kernel_rfl) (by kernel_rfl) (fun _ _ _ _ h _ => h) ⟨rfl, rfl, rfl, Nat.le_refl _, fun _ _ => rfl⟩ ?steps ?fin
            case steps =>
              refine Flow.Steps.cons (fun a W hfr hinv hdep K hK => ?_) ?_
              · have s23 : a.tmps.getD 23 undef = .int .i64 0 := hfr.at 23 (by kernel_rfl)
                have t23 : a.tmps[23]?.getD undef = .int .i64 0 := by simpa using s23
                rw [if_pos (Flow.wanted_none rfl)]
                clear hfr hdep
                go_simp
                exact hK _ _ True.intro hinv (fun d hd => by cases hd; trivial)
              refine Flow.Steps.cons (fun a W hfr hinv hdep K hK => ?_) ?_
              · have s176 : a.tmps.getD 176 undef = .int .i64 0 := hdep 176 (by kernel_rfl)
                have t176 : a.tmps[176]?.getD undef = .int .i64 0 := by simpa using s176
                rw [if_pos (Flow.wanted_none rfl)]
                clear hfr hdep
                go_simp
                exact hK _ _ True.intro hinv (fun d hd => by cases hd; trivial)
              refine Flow.Steps.cons (fun a W hfr hinv hdep K hK => ?_) ?_
              · have s177 : a.tmps.getD 177 undef = .bool false := hdep 177 (by kernel_rfl)
                have t177 : a.tmps[177]?.getD undef = .bool false := by simpa using s177
                rw [if_pos (Flow.wanted_none rfl)]
                clear hfr hdep
                go_simp
                exact hK _ _ True.intro hinv (fun d hd => by cases hd; trivial)
              refine Flow.Steps.cons (fun a W hfr hinv hdep K hK => ?_) ?_
              · have sg : a.tmps.getD 178 undef = .bool false := hdep 178 (by kernel_rfl)
                have s22 : a.tmps.getD 22 undef = .pointer (some ⟨w6.heap.size, 0, none⟩) := hfr.at 22 (by kernel_rfl)
                have t22 : a.tmps[22]?.getD undef = .pointer (some ⟨w6.heap.size, 0, none⟩) := by simpa using s22
                rw [if_pos (Flow.wanted_yes 2 false 178 rfl (by kernel_rfl) sg)]
                clear hfr hdep
                exact wp_load_mid TS (.tmp 22) rfl _ _ s22 x.cells _ (HS.out W hinv).1 under_sec rfl (by rw [Sec.cells_len]; exact size_sec) (hK _ _ True.intro hinv (fun d hd => by cases hd; rfl))
              refine Flow.Steps.cons (fun a W hfr hinv hdep K hK => ?_) ?_
              · have sg : a.tmps.getD 178 undef = .bool false := hdep 178 (by kernel_rfl)
                have s179 : a.tmps.getD 179 undef = .agg x.cells.toArray := hdep 179 (by kernel_rfl)
                have t179 : a.tmps[179]?.getD undef = .agg x.cells.toArray := by simpa using s179
                rw [if_pos (Flow.wanted_yes 2 false 178 rfl (by kernel_rfl) sg)]
                clear hfr hdep
                go_simp
                refine (HLs.out W).mono ?_
                rintro e W' ⟨rfl, g1⟩
                exact hK _ _ True.intro (Gr.trans hinv g1) (fun d hd => by cases hd; trivial)
              refine Flow.Steps.cons (fun a W hfr hinv hdep K hK => ?_) ?_
              · have sg : a.tmps.getD 178 undef = .bool false := hdep 178 (by kernel_rfl)
                have s21 : a.tmps.getD 21 undef = .int .i64 (j : Int) := hfr.at 21 (by kernel_rfl)
                have t21 : a.tmps[21]?.getD undef = .int .i64 (j : Int) := by simpa using s21
                rw [if_pos (Flow.wanted_yes 2 false 178 rfl (by kernel_rfl) sg)]
                clear hfr hdep
                go_simp
                exact hK _ _ True.intro hinv (fun d hd => by cases hd; trivial)
              refine Flow.Steps.cons (fun a W hfr hinv hdep K hK => ?_) ?_
              · have sg : a.tmps.getD 178 undef = .bool false := hdep 178 (by kernel_rfl)
                have s12 : a.tmps.getD 12 undef = .pointer (some ⟨w1.heap.size + 1, 0, none⟩) := hfr.at 12 (by kernel_rfl)
                have t12 : a.tmps[12]?.getD undef = .pointer (some ⟨w1.heap.size + 1, 0, none⟩) := by simpa using s12
                have s181 : a.tmps.getD 181 undef = .int .i64 (j : Int) := hdep 181 (by kernel_rfl)
                have t181 : a.tmps[181]?.getD undef = .int .i64 (j : Int) := by simpa using s181
                rw [if_pos (Flow.wanted_yes 2 false 178 rfl (by kernel_rfl) sg)]
                clear hfr hdep
                go_simp
                exact hK _ _ True.intro hinv (fun d hd => by cases hd; trivial)
              refine Flow.Steps.cons (fun a W hfr hinv hdep K hK => ?_) ?_
              · have sg : a.tmps.getD 178 undef = .bool false := hdep 178 (by kernel_rfl)
                have s182 : a.tmps.getD 182 undef = .pointer (some ⟨w1.heap.size + 1, j, none⟩) := hdep 182 (by kernel_rfl)
                have t182 : a.tmps[182]?.getD undef = .pointer (some ⟨w1.heap.size + 1, j, none⟩) := by simpa using s182
                obtain ⟨-, e2, -⟩ := HS.out W hinv
                rw [if_pos (Flow.wanted_yes 2 false 178 rfl (by kernel_rfl) sg)]
                clear hfr hdep
                go_simp
                exact hK _ _ True.intro hinv (fun d hd => by cases hd; trivial)
              refine Flow.Steps.cons (fun a W hfr hinv hdep K hK => ?_) ?_
              · have sg : a.tmps.getD 178 undef = .bool false := hdep 178 (by kernel_rfl)
                have s180 : a.tmps.getD 180 undef = .int .u64 (Y : Int) := hdep 180 (by kernel_rfl)
                have t180 : a.tmps[180]?.getD undef = .int .u64 (Y : Int) := by simpa using s180
                have s183 : a.tmps.getD 183 undef = .int .u64 (Y : Int) := hdep 183 (by kernel_rfl)
                have t183 : a.tmps[183]?.getD undef = .int .u64 (Y : Int) := by simpa using s183
                rw [if_pos (Flow.wanted_yes 2 false 178 rfl (by kernel_rfl) sg)]
                clear hfr hdep
                go_simp
                exact hK _ _ True.intro hinv (fun d hd => by cases hd; trivial)
              refine Flow.Steps.cons (fun a W hfr hinv hdep K hK => ?_) ?_
              · have s178 : a.tmps.getD 178 undef = .bool false := hdep 178 (by kernel_rfl)
                have t178 : a.tmps[178]?.getD undef = .bool false := by simpa using s178
                have s184 : a.tmps.getD 184 undef = .bool false := hdep 184 (by kernel_rfl)
                have t184 : a.tmps[184]?.getD undef = .bool false := by simpa using s184
                rw [if_pos (Flow.wanted_none rfl)]
                clear hfr hdep
                go_simp
                exact hK _ _ True.intro hinv (fun d hd => by cases hd; trivial)
              refine Flow.Steps.cons (fun a W hfr hinv hdep K hK => ?_) ?_
              · have s185 : a.tmps.getD 185 undef = .bool false := hdep 185 (by kernel_rfl)
                have t185 : a.tmps[185]?.getD undef = .bool false := by simpa using s185
                rw [if_pos (Flow.wanted_none rfl)]
                clear hfr hdep
                go_simp
                exact hK _ _ True.intro hinv (fun d hd => by cases hd; trivial)
              refine Flow.Steps.cons (fun a W hfr hinv hdep K hK => ?_) ?_
              · have sg : a.tmps.getD 186 undef = .bool false := hdep 186 (by kernel_rfl)
                have s22 : a.tmps.getD 22 undef = .pointer (some ⟨w6.heap.size, 0, none⟩) := hfr.at 22 (by kernel_rfl)
                have t22 : a.tmps[22]?.getD undef = .pointer (some ⟨w6.heap.size, 0, none⟩) := by simpa using s22
                rw [if_pos (Flow.wanted_yes 10 false 186 rfl (by kernel_rfl) sg)]
                clear hfr hdep
                exact wp_load_mid TS (.tmp 22) rfl _ _ s22 x.cells _ (HS.out W hinv).1 under_sec rfl (by rw [Sec.cells_len]; exact size_sec) (hK _ _ True.intro hinv (fun d hd => by cases hd; rfl))
              refine Flow.Steps.cons (fun a W hfr hinv hdep K hK => ?_) ?_
              · have sg : a.tmps.getD 186 undef = .bool false := hdep 186 (by kernel_rfl)
                have s187 : a.tmps.getD 187 undef = .agg x.cells.toArray := hdep 187 (by kernel_rfl)
                have t187 : a.tmps[187]?.getD undef = .agg x.cells.toArray := by simpa using s187
                rw [if_pos (Flow.wanted_yes 10 false 186 rfl (by kernel_rfl) sg)]
                clear hfr hdep
                go_simp
                refine (HPl.out W).mono ?_
                rintro e W' ⟨rfl, g1⟩
                exact hK _ _ True.intro (Gr.trans hinv g1) (fun d hd => by cases hd; trivial)
              refine Flow.Steps.cons (fun a W hfr hinv hdep K hK => ?_) ?_
              · have sg : a.tmps.getD 186 undef = .bool false := hdep 186 (by kernel_rfl)
                have s21 : a.tmps.getD 21 undef = .int .i64 (j : Int) := hfr.at 21 (by kernel_rfl)
                have t21 : a.tmps[21]?.getD undef = .int .i64 (j : Int) := by simpa using s21
                rw [if_pos (Flow.wanted_yes 10 false 186 rfl (by kernel_rfl) sg)]
                clear hfr hdep
                go_simp
                exact hK _ _ True.intro hinv (fun d hd => by cases hd; trivial)
              refine Flow.Steps.cons (fun a W hfr hinv hdep K hK => ?_) ?_
              · have sg : a.tmps.getD 186 undef = .bool false := hdep 186 (by kernel_rfl)
                have s11 : a.tmps.getD 11 undef = .pointer (some ⟨w1.heap.size, 0, none⟩) := hfr.at 11 (by kernel_rfl)
                have t11 : a.tmps[11]?.getD undef = .pointer (some ⟨w1.heap.size, 0, none⟩) := by simpa using s11
                have s189 : a.tmps.getD 189 undef = .int .i64 (j : Int) := hdep 189 (by kernel_rfl)
                have t189 : a.tmps[189]?.getD undef = .int .i64 (j : Int) := by simpa using s189
                rw [if_pos (Flow.wanted_yes 10 false 186 rfl (by kernel_rfl) sg)]
                clear hfr hdep
                go_simp
                exact hK _ _ True.intro hinv (fun d hd => by cases hd; trivial)
              refine Flow.Steps.cons (fun a W hfr hinv hdep K hK => ?_) ?_
              · have sg : a.tmps.getD 186 undef = .bool false := hdep 186 (by kernel_rfl)
                have s190 : a.tmps.getD 190 undef = .pointer (some ⟨w1.heap.size, j * 248, none⟩) := hdep 190 (by kernel_rfl)
                have t190 : a.tmps[190]?.getD undef = .pointer (some ⟨w1.heap.size, j * 248, none⟩) := by simpa using s190
                rw [if_pos (Flow.wanted_yes 10 false 186 rfl (by kernel_rfl) sg)]
                clear hfr hdep
                exact wp_load_mid PTS (.tmp 190) rfl _ _ s190 (PSx X).cells _ (HS.out W hinv).2.2 Punder_sec rfl (by rw [PSec.cells_len]; exact Psize_sec) (hK _ _ True.intro hinv (fun d hd => by cases hd; rfl))
              refine Flow.Steps.cons (fun a W hfr hinv hdep K hK => ?_) ?_
              · have sg : a.tmps.getD 186 undef = .bool false := hdep 186 (by kernel_rfl)
                have s188 : a.tmps.getD 188 undef = .agg (PSx X).cells.toArray := hdep 188 (by kernel_rfl)
                have t188 : a.tmps[188]?.getD undef = .agg (PSx X).cells.toArray := by simpa using s188
                have s191 : a.tmps.getD 191 undef = .agg (PSx X).cells.toArray := hdep 191 (by kernel_rfl)
                have t191 : a.tmps[191]?.getD undef = .agg (PSx X).cells.toArray := by simpa using s191
                rw [if_pos (Flow.wanted_yes 10 false 186 rfl (by kernel_rfl) sg)]
                clear hfr hdep
                go_simp
                exact hK _ _ True.intro hinv (fun d hd => by cases hd; trivial)
              refine Flow.Steps.cons (fun a W hfr hinv hdep K hK => ?_) ?_
              · have s186 : a.tmps.getD 186 undef = .bool false := hdep 186 (by kernel_rfl)
                have t186 : a.tmps[186]?.getD undef = .bool false := by simpa using s186
                have s192 : a.tmps.getD 192 undef = .bool false := hdep 192 (by kernel_rfl)
                have t192 : a.tmps[192]?.getD undef = .bool false := by simpa using s192
                rw [if_pos (Flow.wanted_none rfl)]
                clear hfr hdep
                go_simp
                exact hK _ _ True.intro hinv (fun d hd => by cases hd; trivial)
              exact True.intro
            case fin =>
              intro a W hfr hfin hsl
              have s193 : a.tmps.getD 193 undef = .bool false := hsl 17 _ 193 rfl rfl
              have t193 : a.tmps[193]?.getD undef = .bool false := by simpa using s193
              have e := Flow.frame hfr [176, 177, 178, 179, 180, 181, 182, 183, 184, 185, 186, 187, 188, 189, 190, 191, 192, 193] (List.range 195) (by kernel_rfl) (by kernel_rfl)
              simp [List.range, List.range.loop] at e
              rw [t193] at e
              rw [e]
              clear e hfr hsl s193 t193
              rename_i K2 hK2
              refine hK2 _ _ ?_
              have HG7 := Lib.hid (Gr.trans HB7.out.2 hfin)
              clear hfin hqq hidx
              go_wp2_with fail
              go_roundw
              case rel => exact ⟨j + 1, by have := HJ6.out; omega, by have := HJ6.out; omega, by go_num, HG7⟩
              case measure => have := HJ6.out; simp [intOf]; omega
          · obtain rfl : j = 64 := by omega
            go_wp2_with fail
            refine (HK.out wr).mono ?_
            rintro e wk ⟨rfl, g⟩
            have HG := Lib.hid (Gr.trans (Gr.trans HF5.out.blk.2 HG.out) g)
            clear g
            go_wp2_with fail
            go_ret
            exact ⟨rfl, HG.out⟩
end Go.Proofs.YtaemmknijmhnoaaGreat

