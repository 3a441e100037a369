import Derived.Test.YtcbmgdigidpbeaaPageWordsWalk
import Derived.Deep.AppendLies
import Derived.Deep.RegionHeld3
namespace Go.Proofs.Ytcbmgdigidpbeaa.pageMarks
open Go.RowKit
open Go.Proofs.Ytcbmgdigidpbeaa.wordsFit (conv_at)

/-- A mark: its place, its size, its number. -/
structure Mk where
  f : Int
  s : Int
  n : Nat

/-- The slice value p, n, c reads as marks. -/
structure Marks (w : World) (p : Option Addr) (n c : Nat) (ms : List Mk) : Prop where
  len : ms.length = n
  cap : n ≤ c
  most : c ≤ maxLen
  lies : 0 < n → ∃ b o, p = some ⟨b, o, none⟩ ∧ ∀ i, i < n → ∃ F S : Int, ∃ N : Nat, N ≤ 18446744073709551615 ∧
    w.cell? ⟨b, o + i * 3, none⟩ = some (.int .i64 F) ∧ w.cell? ⟨b, o + i * 3 + 1, none⟩ = some (.int .i64 S) ∧ w.cell? ⟨b, o + i * 3 + 2, none⟩ = some (.int .u64 N)

/-- What a row of the call's own holds stays, as long as nothing that was there turns. -/
theorem own_kept {w w' : World} {base tB : Nat} {v : Value} {xs : List Int} (h : OwnB w base tB v xs) (g : Gr w w') : OwnB w' base tB v xs := by
  refine ⟨⟨h.row.1, ?_⟩, h.small⟩
  rcases h.row.2 with hn | ⟨b, cap, cur, rfl, hb, hg, rest⟩
  · exact .inl hn
  · exact .inr ⟨b, cap, cur, rfl, hb, by rw [g.block b (Array.getElem?_eq_some_iff.1 hg).1]; exact hg, rest⟩
theorem byt_grown {w w' : World} {p : Option Addr} {n c : Nat} {xs : List Int} {row : Option Nat} (h : Byt w p n c xs) (g : w.grownBy w' row) (hne : 0 < n → ∀ a, p = some a → some a.block ≠ row) : Byt w' p n c xs :=
  ⟨h.len, h.cap, h.most, fun hn => by
    obtain ⟨b, o, rfl, hc⟩ := h.at hn
    exact ⟨b, o, rfl, fun i hi => g.cell (hc i hi) (show some b ≠ row from hne hn ⟨b, o, none⟩ rfl)⟩, h.nilCap, h.small⟩

theorem splice_take {α : Type} (cs ys : List α) (n F m : Nat) (hy : ys.length = m) (hF : F + m ≤ n) (hn : n ≤ cs.length) :
    (cs.take F ++ (ys ++ cs.drop (F + m))).take n = (cs.take n).take F ++ (ys ++ (cs.take n).drop (F + m)) := by
  rw [List.take_append, List.take_append, List.take_take, List.take_take, List.drop_take]
  have e1 : (cs.take F).length = F := by simp; omega
  rw [e1, hy, Nat.min_eq_right (by omega), Nat.min_eq_left (by omega), List.take_of_length_le (l := ys) (by omega), show n - F - m = n - (F + m) by omega]

/-- copy(own[F:], src): the call's own row of bytes, and a slice of bytes that fits: as one step of a region that draws its order. -/
theorem step_copy_byt {P : Program} {tS tB : TypeId} (T : BT P tS tB) {w : World} {ops : Array Oper} {o : Oper} {a : Act} {K : Act → World → Prop} {Q : Exit → Act → World → Prop} {E : Prop} (hgd : o.guard = none) (s x : Operand)
    (ho : o.op = .call { callee := .builtin .copy, args := #[s, x], argTypes := #[tS, tS] }) (base g n c F L C : Nat) (xs : List Int) (hs : a.eval s = .slice (some ⟨g, F, none⟩) L C) (hown : OwnB w base tB (.slice (some ⟨g, 0, none⟩) n c) xs)
    (q : Option Addr) (m d : Nat) (ys : List Int) (hx : a.eval x = .slice q m d) (hy : Byt w q m d ys) (hL : m ≤ L) (hfit : F + m ≤ n)
    (h : ∀ w', OwnB w' base tB (.slice (some ⟨g, 0, none⟩) n c) (xs.take F ++ (ys ++ xs.drop (F + m))) → w.grownBy w' (some g) → K (a.put o.dst (goInt m)) w') :
    if Region.wanted o (yielded ops a.tmps) = true then Oper.wp P o a w K Q else E := by
  have hw : Region.wanted o (yielded ops a.tmps) = true := by simp [Region.wanted, hgd]
  rw [if_pos hw]
  obtain ⟨i, hi, hz0, hz1, hz2⟩ := info_parts T.info
  have hsz : (P.info? tB).map (·.size) = some 1 := by rw [hi]; simp [hz1]
  have hyl := hy.len
  have hxl : xs.length = n := hown.byt.2.symm
  rcases Nat.eq_zero_or_pos m with hm | hm
  · subst hm
    obtain rfl : ys = [] := List.eq_nil_of_length_eq_zero hyl
    have hrun := run_copy_none (P := P) w tS tS o.type tB (some ⟨g, F, none⟩) q L C 0 d T.us hsz (by simp)
    unfold Oper.wp
    simp [execOp, ho, resolve, invoke, builtin, hs, hx, hrun, Result.andThen]
    exact h w (by simpa using hown) (World.grownBy.refl _ _)
  · obtain ⟨b, of, rfl, _⟩ := hy.at hm
    rcases hown.row.2 with ⟨h0, _⟩ | ⟨g', cap, cur, h0, hb, hg, hnc, hcm, hcs, ht⟩
    · simp at h0
    · simp only [Value.slice.injEq, Option.some.injEq, Addr.mk.injEq, and_true] at h0
      obtain ⟨rfl, hxn, rfl⟩ := h0
      subst hyl
      have hl2 : (ys.map (Value.int .u8)).length = ys.length := by simp
      have hrun := run_copy_row (P := P) w tS tS o.type tB g F L C ⟨b, of, none⟩ ys.length d cur tB (ys.map (Value.int .u8)) T.us hsz hg (by rw [hl2]; exact (Nat.min_eq_left hL).symm) hy.news (by rw [hl2]; omega) (u8s_oneCell _)
      rw [hl2, List.append_assoc] at hrun
      have hcl : cur.toList.length = cur.size := by simp
      have h3 := splice_take cur.toList (ys.map (Value.int .u8)) xs.length F ys.length hl2 (by omega) (by rw [hcl]; omega)
      rw [Nat.mul_one] at ht
      rw [ht] at h3
      have hlen2 : (xs.take F ++ (ys ++ xs.drop (F + ys.length))).length = xs.length := by simp; omega
      obtain ⟨N, hN⟩ : ∃ N, N = cur.toList.take F ++ (ys.map (Value.int .u8) ++ cur.toList.drop (F + ys.length)) := ⟨_, rfl⟩
      have hNs : N.length = cur.size := by rw [hN]; simp; omega
      rw [← hN] at hrun h3
      have hK := h (w.setRow g N.toArray) ⟨⟨by rw [List.length_map, Nat.mul_one], .inr ⟨g, c, N.toArray, by rw [hlen2, hxl], hb, setRow_heap w g cur N.toArray tB _ hg, by rw [hlen2]; exact hnc, hcm, by rw [List.size_toArray, hNs, hcs], by rw [hlen2, Nat.mul_one, h3]; simp [List.map_take, List.map_drop]⟩⟩, (hown.small.take F).app (hy.small.app (hown.small.drop _))⟩
        ⟨rfl, rfl, rfl, by simp, fun k _ hk => setRow_other w g k _ (fun e => hk (by simp [e]))⟩
      unfold Oper.wp
      simp [execOp, ho, resolve, invoke, builtin, hs, hx, hrun, Result.andThen]
      exact hK

theorem set_no {xs : List Int} {f s : Int} {n : Nat} (h : setOk xs.length f n s = false) : setE xs f n s = 2 ∧ setR xs f n s = [] := by simp [setE, setR, h]
theorem set_yes {xs : List Int} {f s : Int} {n : Nat} (h : setOk xs.length f n s = true) : setE xs f n s = 0 ∧ setR xs f n s = xs.take f.toNat ++ (Wd.enc s.toNat n ++ xs.drop (f.toNat + s.toNat)) := by simp [setE, setR, h]

/-- What is set is read again. -/
theorem at_set {xs : List Int} {F S n : Nat} (h : fitsB n S = true) (h2 : standsB xs.length F S = true) :
    atR (xs.take F ++ (Wd.enc S n ++ xs.drop (F + S))) F S = n ∧ atE (xs.take F ++ (Wd.enc S n ++ xs.drop (F + S))) F S = 0 ∧ (xs.take F ++ (Wd.enc S n ++ xs.drop (F + S))).length = xs.length := by
  obtain ⟨g1, g2, g3, g4⟩ := standsB_iff.1 h2
  have hl : (xs.take F ++ (Wd.enc S n ++ xs.drop (F + S))).length = xs.length := by simp [Wd.enc_length]; omega
  have hs : standsB (xs.take F ++ (Wd.enc S n ++ xs.drop (F + S))).length F S = true := by rw [hl]; exact h2
  have hd : sub (xs.take F ++ (Wd.enc S n ++ xs.drop (F + S))) F S = Wd.enc S n := by
    unfold sub
    simp only [Int.toNat_natCast]
    rw [List.drop_append_of_le_length (by simp; omega), List.drop_eq_nil_of_le (by simp; omega), List.nil_append, List.take_append_of_le_length (by simp [Wd.enc_length]), List.take_of_length_le (by simp [Wd.enc_length])]
  simp only [fitsB, Bool.and_eq_true, decide_eq_true_eq, Int.toNat_natCast] at h
  refine ⟨?_, by rw [atE, if_pos hs], hl⟩
  rw [atR, if_pos hs, hd, Wd.dec_enc, Nat.mod_eq_of_lt h.2]

theorem long (p q : Option Addr) (n c m d : Nat) (w : World) (hn : (n : Int) ≤ 9223372036854775807) (hm : (m : Int) ≤ 9223372036854775807) (h : 300 < n ∨ 40 < m) :
    Calls Try.prog 5 #[.slice p n c, .slice q m d] w fun e w' => e = .returned (.bool true) ∧ Gr w w' := by
  by_cases h1 : 300 < n
  · go_enter Try.func5, Try.ntmps5
    go_wp2_with fail
    refine (known_any _).mono ?_
    rintro e w' ⟨rfl, hg⟩
    go_wp2
    go_ret
    exact ⟨rfl, hg⟩
  have h2 : 40 < m := by omega
  clear h
  go_enter Try.func5, Try.ntmps5
  go_wp2_with fail
  refine (known_any _).mono ?_
  rintro e w' ⟨rfl, hg⟩
  go_wp2
  go_ret
  exact ⟨rfl, hg⟩

set_option maxRecDepth 100000 in
set_option maxHeartbeats 4000000 in
theorem short (p q : Option Addr) (n c m d : Nat) (xs : List Int) (ms : List Mk) (w : World) (hx : Byt w p n c xs) (hy : Marks w q m d ms) (h1 : n ≤ 300) (h2 : m ≤ 40) :
    Calls Try.prog 5 #[.slice p n c, .slice q m d] w fun e w' => e = .returned (.bool true) ∧ Gr w w' := by
  have HX := Lib.hid hx
  have HY := Lib.hid hy
  have HN := Lib.hid hx.len
  have hd : m ≤ d := hy.cap
  clear hx hy
  go_enter Try.func5, Try.ntmps5
  go_wp2_with (at_builtin; refine wpList_app_byt bt rfl _ (.tmp 24) rfl w.heap.size _ _ rfl (OwnB.nil _ _ _) p n c _ rfl HX.out ?h1 ?h2 ?_)
  case h1 => simp; omega
  case h2 => exact Nat.le_refl _
  intro v w1 own grow
  obtain ⟨pw, cw, hv⟩ := own.shape n HN.out
  subst hv
  have HO := Lib.hid own
  have HB : Hid (Below w.heap.size w w1) := Below.app (Below.refl _ _) (Nat.le_refl _) (OwnB.nil w w.heap.size 5) grow
  clear own grow
  go_wp2
  go_loopw [5, 7] (fun t i wr => ∃ (k : Nat) (p' : Option Addr) (c' : Nat) (X : List Int), k ≤ m ∧ i = .int .i64 k ∧ t = .slice p' n c' ∧ Hid (Byt wr p' n c' X) ∧ Hid (OwnB wr w.heap.size 5 (.slice pw n cw) X) ∧
      Hid (0 < n → ∀ a b, p' = some a → pw = some b → a.block ≠ b.block) ∧ Hid (Below w.heap.size w wr)) (fun _ i _ => m - (intOf i).toNat)
  case atStart =>
    refine ⟨0, p, c, xs, Nat.zero_le _, rfl, rfl, HX.out.kept HB.out, HO, ?_, HB⟩
    intro hn a b ha hb
    obtain ⟨b', o', e, hc⟩ := HX.out.at hn
    rw [ha] at e
    cases e
    have h1 : b' < w.heap.size := blk_lt (hc 0 hn)
    have h2 := HO.out.far b hb
    show b' ≠ b.block
    omega
  case round =>
    obtain ⟨k, p', c', X, hk, rfl, rfl, hpg, hwant, hfar, hb⟩ := hrel
    have hbs := hb.out.size
    by_cases hlt : k < m
    · obtain ⟨b, o, rfl, hc⟩ := HY.out.lies (by omega)
      obtain ⟨F, S, N, hN, hcF, hcS, hcN⟩ := hc k hlt
      have hkF : wr.cell? ⟨b, o + k * 3, none⟩ = some (.int .i64 F) := by rw [hb.out.cell (blk_lt hcF)]; exact hcF
      have hkS : wr.cell? ⟨b, o + k * 3 + 1, none⟩ = some (.int .i64 S) := by rw [hb.out.cell (blk_lt hcS)]; exact hcS
      have hkN : wr.cell? ⟨b, o + k * 3 + 2, none⟩ = some (.int .u64 N) := by rw [hb.out.cell (blk_lt hcN)]; exact hcN
      clear hc hcF hcS hcN
      have hX := Lib.hid hpg.out.len
      obtain ⟨W0, hW0⟩ : ∃ W0, W0 = wr.alloc (.cells #[.int .i64 F, .int .i64 S, .int .u64 N] 41) := ⟨_, rfl⟩
      have hx0 : W0.cell? ⟨wr.heap.size, 0, none⟩ = some (.int .i64 F) := by rw [hW0]; exact World.cell?_alloc_at _ _ _ _ rfl
      have hx1 : W0.cell? ⟨wr.heap.size, 1, none⟩ = some (.int .i64 S) := by rw [hW0]; exact World.cell?_alloc_at _ _ _ _ rfl
      have hx2 : W0.cell? ⟨wr.heap.size, 2, none⟩ = some (.int .u64 N) := by rw [hW0]; exact World.cell?_alloc_at _ _ _ _ rfl
      have hpg0 : Hid (Byt W0 p' n c' X) := by rw [hW0]; exact hpg.out.kept (gr_self _ _)
      have hwant0 : Hid (OwnB W0 w.heap.size 5 (.slice pw n cw) X) := by rw [hW0]; exact hwant.out.alloc _
      have hb0 : Hid (Below w.heap.size w W0) := by rw [hW0]; exact hb.out.alloc hbs _
      have hsz0 : Hid (∀ b, pw = some b → b.block < W0.heap.size) := fun b hb' => by
        have := (hwant0.out.row.lt b.block (by rw [hb']; rfl)).2
        exact this
      have hsz1 : Hid (∀ b, pw = some b → b.block < wr.heap.size) := fun b hb' => (hwant.out.row.lt b.block (by rw [hb']; rfl)).2
      have hset := Lib.hid (set_any p' n c' X F N S W0 hpg0.out (by omega))
      have HX0 := Lib.hid hx0
      have HX1 := Lib.hid hx1
      have HX2 := Lib.hid hx2
      have HW0 := Lib.hid hW0
      clear hx0 hx1 hx2 hW0 hwant hpg hb
      by_cases hs : standsB n F S = true
      · by_cases hf : fitsB N S = true
        · obtain ⟨g1, g2, g3, g4⟩ := standsB_iff.1 hs
          obtain ⟨F, rfl⟩ := Int.eq_ofNat_of_zero_le g3
          obtain ⟨S, rfl⟩ := Int.eq_ofNat_of_zero_le (show 0 ≤ S by omega)
          have hFS : F + S ≤ n := by omega
          have hS8 : S ≤ 8 := by omega
          have hS1 : 1 ≤ S := by omega
          have hsx : standsB X.length F S = true := by rw [hX.out]; exact hs
          have hys := Lib.hid (set_yes (xs := X) (f := F) (s := S) (n := N) (by simp [setOk, hf, hsx]))
          have hat := Lib.hid (at_set (xs := X) hf hsx)
          simp only [Int.toNat_natCast] at hys
          obtain ⟨bw, cp, e, hbw, hblt⟩ := (hwant0.out.row).form (by rw [hX.out]; omega)
          have hcwn : n ≤ cw := by have := hwant0.out.byt.1.cap; omega
          simp only [Value.slice.injEq] at e
          obtain ⟨rfl, hnx, rfl⟩ := e
          clear hnx
          have hbwx : bw < wr.heap.size := by
            have := hsz1.out ⟨bw, 0, none⟩ rfl
            exact this
          have HS := Lib.hid hs
          have HF := Lib.hid hf
          clear hs hf hsx g1 g2 g3 g4
          obtain ⟨Y, hY⟩ : ∃ Y, Y = X.take F ++ (Wd.enc S N ++ X.drop (F + S)) := ⟨_, rfl⟩
          rw [← hY] at hys hat
          have HY2 := Lib.hid hY
          clear hY
          go_wp2_with fail
          rw [← HW0.out]
          have hc := hset.out
          rw [hys.out.1, hys.out.2] at hc
          refine hc.mono ?_
          clear hc
          rintro e w2 ⟨q2, n2, d2, rfl, hby2, g2, hf2⟩
          obtain rfl : n = n2 := by rw [← hby2.len, hat.out.2.2, hX.out]
          have hy0 : w2.cell? ⟨wr.heap.size, 0, none⟩ = some (.int .i64 F) := by rw [g2.cell (blk_lt HX0.out)]; exact HX0.out
          have hy1 : w2.cell? ⟨wr.heap.size, 1, none⟩ = some (.int .i64 S) := by rw [g2.cell (blk_lt HX1.out)]; exact HX1.out
          have hy2 : w2.cell? ⟨wr.heap.size, 2, none⟩ = some (.int .u64 N) := by rw [g2.cell (blk_lt HX2.out)]; exact HX2.out
          have HP2 := Lib.hid (hpg0.out.kept g2)
          have HW2 := Lib.hid (own_kept hwant0.out g2)
          have HB2 : Hid (Below w.heap.size w w2) := hb0.out.trans (g2.mono hb0.out.size)
          have HO2 := Lib.hid hby2
          have HF2 : Hid (∀ a, q2 = some a → a.block ≠ bw) := fun a ha e => by
            have h1 := hf2 a ha
            have h2 : bw < W0.heap.size := hblt
            omega
          clear g2 hby2 hf2
          go_wp2_with fail
          refine (refThere_any _ _ _ _ (by omega)).mono ?_
          rintro e w' ⟨rfl, rfl⟩
          rw [HS.out]
          go_wp2_with fail
          refine (refMay_any _ _ _ hN).mono ?_
          rintro e w' ⟨rfl, rfl⟩
          rw [HF.out]
          have hc1 := conv_at HP2.out
          obtain ⟨SX, hSX⟩ : ∃ SX, SX = strOfNums X := ⟨_, rfl⟩
          rw [← hSX] at hc1
          have HSX := Lib.hid hSX
          clear hSX
          go_wp2_with fail
          have hbne : Hid (some (⟨wr.heap.size, 0, none⟩ : Addr).block ≠ some bw) := by show some wr.heap.size ≠ some bw; simp; omega
          have hi1 : (0 : Int) ≤ (F : Int) := by omega
          have hi2 : (F : Int) ≤ (n : Int) := by omega
          have hne : ¬ cw = F := by omega
          have hPU := Lib.hid (refPut_any N S w2.drew hN hS8)
          have hWd : Hid (OwnB w2.drew w.heap.size 5 (.slice (some ⟨bw, 0, none⟩) n cw) X) := HW2.out.heap rfl
          have hbox : Hid (∀ w3, Gr w2.drew w3 → w3.cell? ⟨wr.heap.size, 0, none⟩ = some (.int .i64 F) ∧ w3.cell? ⟨wr.heap.size, 1, none⟩ = some (.int .i64 S) ∧ w3.cell? ⟨wr.heap.size, 2, none⟩ = some (.int .u64 N)) := fun w3 g =>
            ⟨by rw [g.cell (w := w2.drew) (blk_lt (w := w2) hy0)]; exact hy0, by rw [g.cell (w := w2.drew) (blk_lt (w := w2) hy1)]; exact hy1, by rw [g.cell (w := w2.drew) (blk_lt (w := w2) hy2)]; exact hy2⟩
          have hfit : Hid (S ≤ n - F ∧ F + S ≤ n) := by constructor <;> omega
          go_region_held3 (fun w' => w'.cell? ⟨wr.heap.size, 0, none⟩ = some (.int .i64 F) ∧ w'.cell? ⟨wr.heap.size, 1, none⟩ = some (.int .i64 S) ∧ w'.cell? ⟨wr.heap.size, 2, none⟩ = some (.int .u64 N))
            (first | exact ⟨hy0, hy1, hy2⟩ | exact ⟨hz0, hz1, hz2⟩ | exact ⟨ht0, ht1, ht2⟩)
            (first
              | (refine step_copy_byt bt rfl (.tmp 72) (.tmp 77) rfl w.heap.size bw n cw F (n - F) (cw - F) X rfl hW3.out q3 S d3 (Wd.enc S N) rfl hE3.out hfit.out.1 hfit.out.2 ?_; intro w4 own4 grow4; have ht0 := grow4.cell hz0 hbne.out; have ht1 := grow4.cell hz1 hbne.out; have ht2 := grow4.cell hz2 hbne.out)
              | (go_at_call 12; refine hPU.out.mono ?_; rintro e w3 ⟨q3, n3, d3, rfl, hby3, g3, hf3⟩; obtain rfl : S = n3 := (by rw [← hby3.len, Wd.enc_length]); have hE3 := Lib.hid hby3; have hW3 := Lib.hid (own_kept hWd.out g3); have hG3 := Lib.hid g3; obtain ⟨hz0, hz1, hz2⟩ := hbox.out w3 g3; clear hby3 g3 hf3))
          have HP4 : Hid (Byt w4 p' n c' X) := byt_grown ((HP2.out.heap (w' := w2.drew) rfl).kept hG3.out) grow4 (fun hn a ha e => hfar.out hn a ⟨bw, 0, none⟩ ha rfl (by simpa using e))
          have HO4 : Hid (Byt w4 q2 n d2 Y) := byt_grown ((HO2.out.heap (w' := w2.drew) rfl).kept hG3.out) grow4 (fun hn a ha e => HF2.out a ha (by simpa using e))
          have HW4 : Hid (OwnB w4 w.heap.size 5 (.slice (some ⟨bw, 0, none⟩) n cw) Y) := by rw [HY2.out]; exact own4
          have HB4 : Hid (Below w.heap.size w w4) := by
            have h2 : Below w.heap.size w w3 := (HB2.out.drew).trans (hG3.out.mono HB2.out.size)
            have h3 : w.heap.size ≤ w3.heap.size := h2.size
            exact h2.grown grow4 h3 (fun k hk => by cases hk; exact hbw)
          clear own4 grow4 hG3 hE3 hW3 hz0 hz1 hz2 hy0 hy1 hy2 hc1
          have hc4 := conv_at HO4.out
          have hc5 := conv_at HW4.out.byt.1
          have hc6 := conv_at HP4.out
          rw [← HSX.out] at hc6
          have hat1 := hat.out.1
          have hat2 := hat.out.2.1
          have HA4 := Lib.hid (at_any q2 n d2 Y F S w4 HO4.out)
          go_wp2_with fail
          have hca := HA4.out
          rw [hat1, hat2] at hca
          refine hca.mono ?_
          clear hca hat1 hat2
          rintro e w' ⟨rfl, rfl⟩
          go_wp2
          go_roundw
          case rel => exact ⟨k + 1, q2, d2, Y, by omega, by go_num, rfl, HO4, HW4, (fun _ a b ha hb e => by cases hb; exact HF2.out a ha e), HB4⟩
          case measure => simp [intOf]; omega
        · have hf : fitsB N S = false := by simpa using hf
          have hno := set_no (xs := X) (f := F) (s := S) (n := N) (by simp [setOk, hf])
          have HS := Lib.hid hs
          have HF := Lib.hid hf
          have HNO := Lib.hid hno
          clear hs hf hno
          go_wp2_with fail
          rw [← HW0.out]
          have hc := hset.out
          rw [HNO.out.1, HNO.out.2] at hc
          refine hc.mono ?_
          clear hc
          rintro e w2 hr
          obtain ⟨p2, c2, rfl, g2⟩ := hr.nil
          have hy0 : w2.cell? ⟨wr.heap.size, 0, none⟩ = some (.int .i64 F) := by rw [g2.cell (blk_lt HX0.out)]; exact HX0.out
          have hy1 : w2.cell? ⟨wr.heap.size, 1, none⟩ = some (.int .i64 S) := by rw [g2.cell (blk_lt HX1.out)]; exact HX1.out
          have hy2 : w2.cell? ⟨wr.heap.size, 2, none⟩ = some (.int .u64 N) := by rw [g2.cell (blk_lt HX2.out)]; exact HX2.out
          have HP2 := Lib.hid (hpg0.out.kept g2)
          have HW2 := Lib.hid (own_kept hwant0.out g2)
          have HB2 : Hid (Below w.heap.size w w2) := hb0.out.trans (g2.mono hb0.out.size)
          clear hr g2
          go_wp2_with fail
          refine (refThere_any _ _ _ _ (by omega)).mono ?_
          rintro e w' ⟨rfl, rfl⟩
          rw [HS.out]
          go_wp2_with fail
          refine (refMay_any _ _ _ hN).mono ?_
          rintro e w' ⟨rfl, rfl⟩
          rw [HF.out]
          go_wp2_with fail
          refine (no_yes _ _ _ _ _ rfl).mono ?_
          rintro e w' ⟨rfl, rfl⟩
          go_wp2
          go_roundw
          case rel => exact ⟨k + 1, p', c', X, by omega, by go_num, rfl, HP2, HW2, hfar, HB2⟩
          case measure => simp [intOf]; omega
      · have hs : standsB n F S = false := by simpa using hs
        have hno := set_no (xs := X) (f := F) (s := S) (n := N) (by simp [setOk, hX.out, hs])
        have HS := Lib.hid hs
        have HNO := Lib.hid hno
        clear hs hno
        go_wp2_with fail
        rw [← HW0.out]
        have hc := hset.out
        rw [HNO.out.1, HNO.out.2] at hc
        refine hc.mono ?_
        clear hc
        rintro e w2 hr
        obtain ⟨p2, c2, rfl, g2⟩ := hr.nil
        have hy0 : w2.cell? ⟨wr.heap.size, 0, none⟩ = some (.int .i64 F) := by rw [g2.cell (blk_lt HX0.out)]; exact HX0.out
        have hy1 : w2.cell? ⟨wr.heap.size, 1, none⟩ = some (.int .i64 S) := by rw [g2.cell (blk_lt HX1.out)]; exact HX1.out
        have hy2 : w2.cell? ⟨wr.heap.size, 2, none⟩ = some (.int .u64 N) := by rw [g2.cell (blk_lt HX2.out)]; exact HX2.out
        have HP2 := Lib.hid (hpg0.out.kept g2)
        have HW2 := Lib.hid (own_kept hwant0.out g2)
        have HB2 : Hid (Below w.heap.size w w2) := hb0.out.trans (g2.mono hb0.out.size)
        clear hr g2
        go_wp2_with fail
        refine (refThere_any _ _ _ _ (by omega)).mono ?_
        rintro e w' ⟨rfl, rfl⟩
        rw [HS.out]
        go_wp2_with fail
        refine (no_yes _ _ _ _ _ rfl).mono ?_
        rintro e w' ⟨rfl, rfl⟩
        go_wp2
        go_roundw
        case rel => exact ⟨k + 1, p', c', X, by omega, by go_num, rfl, HP2, HW2, hfar, HB2⟩
        case measure => simp [intOf]; omega
    · go_wp2_with fail
      refine (known_any _).mono ?_
      rintro e w2 ⟨rfl, g2⟩
      have hg : Gr w w2 := hb.out.trans (g2.mono hb.out.size)
      go_wp2
      go_ret
      exact ⟨rfl, hg⟩

theorem walk (p : Option Addr) (n c : Nat) (xs : List Int) (q : Option Addr) (m d : Nat) (ms : List Mk) (w : World) (hx : Byt w p n c xs) (hy : Marks w q m d ms) :
    Calls Try.prog 5 #[.slice p n c, .slice q m d] w fun e w' => e = .returned (.bool true) ∧ Gr w w' := by
  by_cases h : 300 < n ∨ 40 < m
  · refine long p q n c m d w ?_ ?_ h
    · have := hx.cap; have := hx.most; unfold maxLen at this; omega
    · have := hy.cap; have := hy.most; unfold maxLen at this; omega
  · exact short p q n c m d xs ms w hx hy (by omega) (by omega)

end Go.Proofs.Ytcbmgdigidpbeaa.pageMarks
