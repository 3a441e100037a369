/-
  Texts on locks, put together: LkRef8.
-/
import Derived.Test.YtadopbpfnnpnaaaGreatL30
set_option linter.unusedVariables false
set_option linter.unusedSimpArgs false
/-
  The document's For.
-/
namespace Go.Proofs.YtadopbpfnnpnaaaGreat
open Go.RowKit Go.Maps

theorem adds_snoc (M : List Nat) (b : Nat) (l : List Nat) : adds (M ++ [b]) l = addN b (adds M l) := by unfold adds; rw [List.foldl_append]; rfl
theorem adds_le : ∀ {M l : List Nat}, (adds M l).length ≤ M.length + l.length
  | [], l => by unfold adds; simp
  | a :: r, l => by
    show (adds r (addN a l)).length ≤ _
    have h1 := adds_le (M := r) (l := addN a l)
    have h2 := (addN_len (o := a) (l := l)).2
    simp only [List.length_cons]
    omega
theorem takeWhile_idx (o : Nat) : ∀ l : List DL, (l.takeWhile fun x => !ofO o x) = l.take (l.findIdx (ofO o))
  | [] => rfl
  | x :: r => by
    rw [List.takeWhile_cons, List.findIdx_cons]
    cases h : ofO o x with
    | true => simp
    | false => simp [takeWhile_idx o r]
theorem find_idx (o : Nat) : ∀ l : List DL, (l.find? (ofO o)).getD DL.zero = l.getD (l.findIdx (ofO o)) DL.zero
  | [] => rfl
  | x :: r => by
    rw [List.find?_cons, List.findIdx_cons]
    cases h : ofO o x with
    | true => simp
    | false =>
      have := find_idx o r
      simp only [cond_false, List.getD_cons_succ]
      exact this
theorem any_idx (o : Nat) (l : List DL) : l.any (ofO o) = true ↔ l.findIdx (ofO o) < l.length := by
  rw [List.any_eq_true, List.findIdx_lt_length]
def f1 (x : DL) (o : Nat) (H : List DL) : List Nat := adds ((H.filter fun y => DT.unlike x y && !ofO o y).map DL.o) []
def f2 (x : DL) (F : List Nat) (L : List DL) : List Nat := adds ((L.filter (DT.unlike x)).map DL.o) F
theorem f1_snoc {x : DL} {o : Nat} {H : List DL} {y : DL} : f1 x o (H ++ [y]) = if (DT.unlike x y && !ofO o y) = true then addN y.o (f1 x o H) else f1 x o H := by
  unfold f1
  rw [List.filter_append, List.filter_cons]
  split
  · rw [List.map_append]
    exact adds_snoc _ _ _
  · simp
theorem f2_snoc {x : DL} {F : List Nat} {L : List DL} {y : DL} : f2 x F (L ++ [y]) = if DT.unlike x y = true then addN y.o (f2 x F L) else f2 x F L := by
  unfold f2
  rw [List.filter_append, List.filter_cons]
  split
  · rw [List.map_append]
    exact adds_snoc _ _ _
  · simp
theorem f1_le (x : DL) (o : Nat) (H : List DL) : (f1 x o H).length ≤ H.length := by
  have := adds_le (M := (H.filter fun y => DT.unlike x y && !ofO o y).map DL.o) (l := [])
  rw [List.length_map] at this
  have h2 := List.length_filter_le (fun y => DT.unlike x y && !ofO o y) H
  unfold f1
  simp only [List.length_nil] at this
  omega
theorem f2_le (x : DL) (F : List Nat) (L : List DL) : (f2 x F L).length ≤ L.length + F.length := by
  have := adds_le (M := (L.filter (DT.unlike x)).map DL.o) (l := F)
  rw [List.length_map] at this
  have h2 := List.length_filter_le (DT.unlike x) L
  unfold f2
  omega
section
variable {w : World} {base d : Nat} {D : DT}
theorem forL_yes {o : Nat} (h : D.line.findIdx (ofO o) < D.line.length) : D.forL o = f2 (D.line.getD (D.line.findIdx (ofO o)) DL.zero) (f1 (D.line.getD (D.line.findIdx (ofO o)) DL.zero) o D.held) (D.line.take (D.line.findIdx (ofO o))) := by
  unfold DT.forL
  rw [if_pos ((any_idx o _).2 h)]
  unfold DT.ahd DT.at
  rw [takeWhile_idx, find_idx]
  rfl
theorem forL_no {o : Nat} (h : ¬ D.line.findIdx (ofO o) < D.line.length) : D.forL o = [] := by
  unfold DT.forL
  rw [if_neg (fun e => h ((any_idx o _).1 e))]
set_option maxRecDepth 100000 in
theorem dFor_any (h : DtAt w base d D) (hnh : D.held.length ≤ 400000000) (hnl : D.line.length ≤ 400000000) (o : Nat) : Calls Tryz.prog 25 #[.pointer (some ⟨d, 0, none⟩), .int .u64 (o : Int)] w (RetRow (D.forL o) w) := by
  have HW := Lib.hid (dWaits_any h (by omega) o)
  have HD := Lib.hid h
  by_cases hi : D.line.findIdx (ofO o) < D.line.length
  · have hwi : D.wi o = ((D.line.findIdx (ofO o) : Nat) : Int) := by unfold DT.wi; rw [if_pos hi]
    have hF := forL_yes hi
    obtain ⟨A, hA⟩ : ∃ A, A = D.line.findIdx (ofO o) := ⟨_, rfl⟩
    rw [← hA] at hi hwi hF
    rw [hwi] at HW
    have hA0 : ¬ (A : Int) < 0 := by omega
    have eA : decide ((A : Int) < 0) = false := decide_eq_false hA0
    have HF := Lib.hid (And.intro hF (And.intro hi (And.intro hnh hnl)))
    clear h hF hA hwi hnh hnl
    go_enter Tryz.func25, Tryz.ntmps25
    go_wp2_with fail
    refine HW.out.mono ?_
    rintro e w1 ⟨rfl, g01⟩
    obtain ⟨hv, lv, hb, hh, hl, -⟩ := (HD.out.gr g01).ex
    obtain ⟨ph, ch, rfl⟩ := dform hh
    obtain ⟨pl, cl, rfl⟩ := dform hl
    obtain ⟨N, hN⟩ : ∃ N, N = D.held.length := ⟨_, rfl⟩
    obtain ⟨M, hM⟩ : ∃ M, M = D.line.length := ⟨_, rfl⟩
    have hath := hh.dsl
    have hatl := hl.dsl
    rw [← hN] at hath
    rw [← hM] at hatl
    obtain ⟨-, hNc, hath⟩ := hath.at
    obtain ⟨-, hMc, hatl⟩ := hatl.at
    have c0 := hb.cell 0
    have c1 := hb.cell 1
    simp at c0 c1
    rw [← hN] at c0
    rw [← hM] at c1
    have hAM : A < M := by omega
    have hAi : (A : Int) < (M : Int) := by omega
    have hAz : (0 : Int) ≤ (A : Int) := by omega
    have hbl : d < w1.heap.size := hb.lt
    obtain ⟨x, hx⟩ : ∃ x, x = D.line.getD A DL.zero := ⟨_, rfl⟩
    obtain ⟨g, q, hp, ha, hb1, hb2, hb3, hb4⟩ := hatl A hAM
    rw [← hx] at ha hb1 hb2 hb3 hb4
    subst hp
    obtain ⟨xo, hxo⟩ : ∃ xo, xo = x.o := ⟨_, rfl⟩
    obtain ⟨k1, hk1⟩ : ∃ k1, k1 = x.k.1 := ⟨_, rfl⟩
    obtain ⟨k2, hk2⟩ : ∃ k2, k2 = x.k.2 := ⟨_, rfl⟩
    obtain ⟨m, hm⟩ : ∃ m, m = x.m := ⟨_, rfl⟩
    obtain ⟨up, hup⟩ : ∃ up, up = x.up := ⟨_, rfl⟩
    rw [← hxo] at ha
    rw [← hk1] at hb1
    rw [← hk2] at hb2
    rw [← hm] at hb3
    rw [← hup] at hb4
    have g0 : Gr w1 (w1.alloc (.cells #[.int .u64 (xo : Int), .int .i64 k1, .int .i64 k2, .int .i64 m, .bool up] TDl)) := (Gr.refl w1).alloc (Nat.le_refl _) _
    have b0 := Blk.new w1 TDl #[.int .u64 (xo : Int), .int .i64 k1, .int .i64 k2, .int .i64 m, .bool up]
    obtain ⟨W0, hW0⟩ : ∃ W0, W0 = w1.alloc (.cells #[.int .u64 (xo : Int), .int .i64 k1, .int .i64 k2, .int .i64 m, .bool up] TDl) := ⟨_, rfl⟩
    rw [← hW0] at g0 b0
    have HH := Lib.hid (And.intro hath (And.intro hatl (And.intro hN (And.intro hM (And.intro (And.intro hk1 (And.intro hk2 hm)) (And.intro g0 (And.intro b0 (And.intro c0 (And.intro c1 (And.intro hbl (And.intro hx (And.intro g01 hW0))))))))))))
    clear hb hh hl hath hatl hN hM hk1 hk2 hm hxo hup g0 b0 hx g01 hNc hMc hW0
    go_upto_region 5 with fail
    rw [show (w1.alloc (.cells #[.int .u64 (xo : Int), .int .i64 k1, .int .i64 k2, .int .i64 m, .bool up] 71)) = W0 from HH.out.2.2.2.2.2.2.2.2.2.2.2.2.symm]
    clear ha hb1 hb2 hb3 hb4 c0 c1 hbl
    go_wp2_with fail
    go_loopw [8, 7] (fun i s7 wr => ∃ j : Nat, i = .int .i64 (j : Int) ∧ j ≤ N ∧ Hid (Us wr W0.heap.size s7 (f1 x o (D.held.take j)) ∧ Gr W0 wr)) (fun i _ _ => N - (intOf i).toNat)
    case atStart => exact ⟨0, rfl, by omega, Lib.hid ⟨by rw [List.take_zero]; exact Us.nil _ _, Gr.refl _⟩⟩
    case round =>
      obtain ⟨j, rfl, hj, HR⟩ := hrel
      obtain ⟨hath, hatl, hN, hM, ⟨hk1, hk2, hm⟩, g0, b0, c0, c1, hbl, hx, g01, hW0⟩ := HH.out
      have gw := Gr.trans (Gr.trans g01 g0) HR.out.2
      have gv := Gr.trans g0 HR.out.2
      have c0' := (gv.cell hbl).trans c0
      have c1' := (gv.cell hbl).trans c1
      have z1 := (b0.gr HR.out.2).cell 1
      have z2 := (b0.gr HR.out.2).cell 2
      have z3 := (b0.gr HR.out.2).cell 3
      simp at z1 z2 z3
      by_cases hlt : j < N
      · have g3 : (j : Int) < (N : Int) := by omega
        obtain ⟨gg, qq, hp, ha, hb1, hb2, hb3, -⟩ := hath j (by omega)
        subst hp
        have r0 := (gv.cell (blk_lt' ha)).trans ha
        have r1 := (gv.cell (blk_lt' hb1)).trans hb1
        have r2 := (gv.cell (blk_lt' hb2)).trans hb2
        have r3 := (gv.cell (blk_lt' hb3)).trans hb3
        obtain ⟨y, hy⟩ : ∃ y, y = D.held.getD j DL.zero := ⟨_, rfl⟩
        obtain ⟨X, hX⟩ : ∃ X, X = y.o := ⟨_, rfl⟩
        obtain ⟨Y, hY⟩ : ∃ Y, Y = y.k := ⟨_, rfl⟩
        obtain ⟨Z, hZ⟩ : ∃ Z, Z = y.m := ⟨_, rfl⟩
        rw [← hy] at r0 r1 r2 r3
        rw [← hX] at r0
        rw [← hY] at r1 r2
        rw [← hZ] at r3
        have htk : D.held.take (j + 1) = D.held.take j ++ [y] := by rw [List.take_succ_eq_append_getElem (by omega), hy, dnth (by omega)]
        have hq0 : ∀ W, (Op.equalIn 10000 TKey (.agg #[.int .i64 Y.1, .int .i64 Y.2]) (.agg #[.int .i64 k1, .int .i64 k2])).run Tryz.prog W = .ok (decide (Y = x.k)) W := fun W => by
          rw [hk1, hk2]
          exact eqi_key Y x.k W
        have hw1 : IntKind.i64.wrap ((j : Int) + 1) = ((j + 1 : Nat) : Int) := by
          have hbnd1 := HF.out.2.2.1
          have hbnd2 := HF.out.2.2.2
          rw [IntWalk.i64_in _ (by omega)]; omega
        have e13 : decide ((j : Int) < (N : Int)) = true := decide_eq_true g3
        have hp0 : (0 : Int) ≤ (j : Int) := by omega
        have HQ0 := fun W => dtogether_any Z m W
        have hlen : (f1 x o (D.held.take j)).length ≤ 900000000 := by
          have a1 := f1_le x o (D.held.take j)
          rw [List.length_take] at a1
          have := HF.out.2.2.1
          omega
        have hs0 : f1 x o (D.held.take (j + 1)) = if (DT.unlike x y && !ofO o y) = true then addN X (f1 x o (D.held.take j)) else f1 x o (D.held.take j) := by rw [htk, f1_snoc, hX]
        have hun : (DT.unlike x y && !ofO o y) = (decide (Y = x.k) && !tog Z m && !decide (X = o)) := by unfold DT.unlike ofK ofO; rw [← hX, ← hY, ← hZ, hm]
        rw [hun] at hs0
        clear hun
        by_cases hk : Y = x.k
        · by_cases he : X = o
          · have hq : ∀ W, (Op.equalIn 10000 TKey (.agg #[.int .i64 Y.1, .int .i64 Y.2]) (.agg #[.int .i64 k1, .int .i64 k2])).run Tryz.prog W = .ok true W := fun W => by
              rw [hq0 W]; simp [hk]
            have e1 : ((X : Int) == (o : Int)) = true := by rw [he]; simp
            have e2 : ((X : Int) != (o : Int)) = false := by rw [he]; simp
            have hs := hs0
            rw [if_neg (by simp [he])] at hs
            have HQ := Lib.hid HQ0
            have HS := Lib.hid hs
            have HMe : Hid (j + 1 ≤ N ∧ N - (j + 1) < N - j) := Lib.hid ⟨by omega, by omega⟩
            clear hath hatl hN hM hk1 hk2 hm g0 b0 c0 c1 hbl hx g01 hW0 gw gv ha hb1 hb2 hb3 hX hY hZ hy htk hq0 hs hs0 hk he HQ0 hlen
            go_upto_region 9 with fail
            go_quiet (exact Calls.quiet_of ((HQ.out _).mono fun _ _ h => ⟨h.1, 0, h.2.symm⟩))
            rename_i nq
            have HE := Lib.hid (And.intro (show Us (wr.drewN nq) W0.heap.size u7 (f1 x o (D.held.take (j + 1))) by rw [HS.out]; exact HR.out.1.gr (grD (Gr.refl _))) (show Gr W0 (wr.drewN nq) from grD HR.out.2))
            go_wp2_with fail
            go_roundw
            case rel => exact ⟨j + 1, by simp, HMe.out.1, HE⟩
            case measure => simpa [intOf] using HMe.out.2
          · have e1 : ((X : Int) == (o : Int)) = false := by rw [beq_eq_false_iff_ne]; omega
            have e2 : ((X : Int) != (o : Int)) = true := by rw [bne_iff_ne]; omega
            cases hT : tog Z m with
            | true =>
              have hq : ∀ W, (Op.equalIn 10000 TKey (.agg #[.int .i64 Y.1, .int .i64 Y.2]) (.agg #[.int .i64 k1, .int .i64 k2])).run Tryz.prog W = .ok true W := fun W => by
                rw [hq0 W]; simp [hk]
              have hs := hs0
              rw [if_neg (by simp [hT])] at hs
              rw [hT] at HQ0
              have HQ := Lib.hid HQ0
              have HS := Lib.hid hs
              have HMe : Hid (j + 1 ≤ N ∧ N - (j + 1) < N - j) := Lib.hid ⟨by omega, by omega⟩
              clear hath hatl hN hM hk1 hk2 hm g0 b0 c0 c1 hbl hx g01 hW0 gw gv ha hb1 hb2 hb3 hX hY hZ hy htk hq0 hs hs0 hk he HQ0 hT hlen
              go_upto_region 9 with fail
              go_quiet (exact Calls.quiet_of ((HQ.out _).mono fun _ _ h => ⟨h.1, 0, h.2.symm⟩))
              rename_i nq
              have HE := Lib.hid (And.intro (show Us (wr.drewN nq) W0.heap.size u7 (f1 x o (D.held.take (j + 1))) by rw [HS.out]; exact HR.out.1.gr (grD (Gr.refl _))) (show Gr W0 (wr.drewN nq) from grD HR.out.2))
              go_wp2_with fail
              go_roundw
              case rel => exact ⟨j + 1, by simp, HMe.out.1, HE⟩
              case measure => simpa [intOf] using HMe.out.2
            | false =>
              have hq : ∀ W, (Op.equalIn 10000 TKey (.agg #[.int .i64 Y.1, .int .i64 Y.2]) (.agg #[.int .i64 k1, .int .i64 k2])).run Tryz.prog W = .ok true W := fun W => by
                rw [hq0 W]; simp [hk]
              have hs := hs0
              rw [if_pos (by simp [hT, hk, he])] at hs
              rw [hT] at HQ0
              have HQ := Lib.hid HQ0
              have HS := Lib.hid hs
              have HMe : Hid (j + 1 ≤ N ∧ N - (j + 1) < N - j) := Lib.hid ⟨by omega, by omega⟩
              have HL := Lib.hid hlen
              have HC := Lib.hid (And.intro c0' r0)
              clear hath hatl hN hM hk1 hk2 hm g0 b0 c0 c1 hbl hx g01 hW0 gw gv ha hb1 hb2 hb3 hX hY hZ hy htk hq0 hs hs0 hk he HQ0 hT hlen
              go_upto_region 9 with fail
              go_quiet (exact Calls.quiet_of ((HQ.out _).mono fun _ _ h => ⟨h.1, 0, h.2.symm⟩))
              rename_i nq
              have g1 : Gr wr (wr.drewN nq) := grD (Gr.refl _)
              obtain ⟨W1, hW1⟩ : ∃ W1, W1 = wr.drewN nq := ⟨_, rfl⟩
              rw [← hW1] at g1 ⊢
              have d1 := (g1.cell (blk_lt' HC.out.1)).trans HC.out.1
              have d2 := (g1.cell (blk_lt' HC.out.2)).trans HC.out.2
              have HG1 := Lib.hid (And.intro (HR.out.1.gr g1) (Gr.trans HR.out.2 g1))
              clear hW1 g1 c0' c1' r0 r1 r2 r3 z1 z2 z3
              go_wp2_with fail
              refine (dadd_any HG1.out.1 HG1.out.2.size HL.out X).mono ?_
              rintro e W2 ⟨v2, rfl, hv2, g2⟩
              have HE := Lib.hid (And.intro (show Us W2 W0.heap.size v2 (f1 x o (D.held.take (j + 1))) by rw [HS.out]; exact hv2) (Gr.trans HG1.out.2 g2))
              clear hv2 g2
              go_wp2_with fail
              go_roundw
              case rel => exact ⟨j + 1, by simp, HMe.out.1, HE⟩
              case measure => simpa [intOf] using HMe.out.2
        · have hq : ∀ W, (Op.equalIn 10000 TKey (.agg #[.int .i64 Y.1, .int .i64 Y.2]) (.agg #[.int .i64 k1, .int .i64 k2])).run Tryz.prog W = .ok false W := fun W => by
            rw [hq0 W]; simp [hk]
          have hs := hs0
          rw [if_neg (by simp [hk])] at hs
          have HQ := Lib.hid HQ0
          have HS := Lib.hid hs
          have HMe : Hid (j + 1 ≤ N ∧ N - (j + 1) < N - j) := Lib.hid ⟨by omega, by omega⟩
          clear hath hatl hN hM hk1 hk2 hm g0 b0 c0 c1 hbl hx g01 hW0 gw gv ha hb1 hb2 hb3 hX hY hZ hy htk hq0 hs hs0 hk HQ0 hlen
          go_upto_region 9 with fail
          go_quiet (exact Calls.quiet_of ((HQ.out _).mono fun _ _ h => ⟨h.1, 0, h.2.symm⟩))
          rename_i nq
          have HE := Lib.hid (And.intro (show Us (wr.drewN nq) W0.heap.size u7 (f1 x o (D.held.take (j + 1))) by rw [HS.out]; exact HR.out.1.gr (grD (Gr.refl _))) (show Gr W0 (wr.drewN nq) from grD HR.out.2))
          go_wp2_with fail
          go_roundw
          case rel => exact ⟨j + 1, by simp, HMe.out.1, HE⟩
          case measure => simpa [intOf] using HMe.out.2
      · have hjN : j = N := by omega
        subst hjN
        have HS1 := Lib.hid (show Us wr W0.heap.size u7 (f1 x o D.held) ∧ Gr W0 wr by
          have := HR.out.1
          rw [hN, List.take_length] at this
          exact ⟨this, HR.out.2⟩)
        have e27 : decide ((j : Int) < (j : Int)) = false := decide_eq_false (by omega)
        clear hath hatl hN hM hk1 hk2 hm g0 b0 c0 c1 hbl hx g01 hW0 gw gv
        go_wp2_with fail
        go_loopw [9, 7] (fun i s7 wr => ∃ j : Nat, i = .int .i64 (j : Int) ∧ j ≤ A ∧ Hid (Us wr W0.heap.size s7 (f2 x (f1 x o D.held) (D.line.take j)) ∧ Gr W0 wr)) (fun i _ _ => A - (intOf i).toNat)
        case atStart => exact ⟨0, rfl, by omega, Lib.hid ⟨by rw [List.take_zero]; exact HS1.out.1, HS1.out.2⟩⟩
        case round =>
          obtain ⟨j, rfl, hj, HR⟩ := hrel
          obtain ⟨hath, hatl, hN, hM, ⟨hk1, hk2, hm⟩, g0, b0, c0, c1, hbl, hx, g01, hW0⟩ := HH.out
          have gw := Gr.trans (Gr.trans g01 g0) HR.out.2
          have gv := Gr.trans g0 HR.out.2
          have c0' := (gv.cell hbl).trans c0
          have c1' := (gv.cell hbl).trans c1
          have z1 := (b0.gr HR.out.2).cell 1
          have z2 := (b0.gr HR.out.2).cell 2
          have z3 := (b0.gr HR.out.2).cell 3
          simp at z1 z2 z3
          by_cases hlt : j < A
          · have g3 : (j : Int) < (A : Int) := by omega
            obtain ⟨gg, qq, hp, ha, hb1, hb2, hb3, -⟩ := hatl j (by omega)
            cases hp
            have r0 := (gv.cell (blk_lt' ha)).trans ha
            have r1 := (gv.cell (blk_lt' hb1)).trans hb1
            have r2 := (gv.cell (blk_lt' hb2)).trans hb2
            have r3 := (gv.cell (blk_lt' hb3)).trans hb3
            obtain ⟨y, hy⟩ : ∃ y, y = D.line.getD j DL.zero := ⟨_, rfl⟩
            obtain ⟨X, hX⟩ : ∃ X, X = y.o := ⟨_, rfl⟩
            obtain ⟨Y, hY⟩ : ∃ Y, Y = y.k := ⟨_, rfl⟩
            obtain ⟨Z, hZ⟩ : ∃ Z, Z = y.m := ⟨_, rfl⟩
            rw [← hy] at r0 r1 r2 r3
            rw [← hX] at r0
            rw [← hY] at r1 r2
            rw [← hZ] at r3
            have htk : D.line.take (j + 1) = D.line.take j ++ [y] := by rw [List.take_succ_eq_append_getElem (by omega), hy, dnth (by omega)]
            have hq0 : ∀ W, (Op.equalIn 10000 TKey (.agg #[.int .i64 Y.1, .int .i64 Y.2]) (.agg #[.int .i64 k1, .int .i64 k2])).run Tryz.prog W = .ok (decide (Y = x.k)) W := fun W => by
              rw [hk1, hk2]
              exact eqi_key Y x.k W
            have hw1 : IntKind.i64.wrap ((j : Int) + 1) = ((j + 1 : Nat) : Int) := by
              have hbnd1 := HF.out.2.2.1
              have hbnd2 := HF.out.2.2.2
              rw [IntWalk.i64_in _ (by omega)]; omega
            have e13 : decide ((j : Int) < (A : Int)) = true := decide_eq_true g3
            have hp0 : (0 : Int) ≤ (j : Int) := by omega
            have HQ0 := fun W => dtogether_any Z m W
            have hjM : (j : Int) < (M : Int) := by omega
            have hlen : (f2 x (f1 x o D.held) (D.line.take j)).length ≤ 900000000 := by
              have a1 := f2_le x (f1 x o D.held) (D.line.take j)
              have a2 := f1_le x o D.held
              rw [List.length_take] at a1
              have := HF.out.2.2
              omega
            have hs0 : f2 x (f1 x o D.held) (D.line.take (j + 1)) = if DT.unlike x y = true then addN X (f2 x (f1 x o D.held) (D.line.take j)) else f2 x (f1 x o D.held) (D.line.take j) := by rw [htk, f2_snoc, hX]
            have hun : DT.unlike x y = (decide (Y = x.k) && !tog Z m) := by unfold DT.unlike ofK; rw [← hY, ← hZ, hm]
            rw [hun] at hs0
            clear hun
            by_cases hk : Y = x.k
            · cases hT : tog Z m with
              | true =>
                have hq : ∀ W, (Op.equalIn 10000 TKey (.agg #[.int .i64 Y.1, .int .i64 Y.2]) (.agg #[.int .i64 k1, .int .i64 k2])).run Tryz.prog W = .ok true W := fun W => by
                  rw [hq0 W]; simp [hk]
                have hs := hs0
                rw [if_neg (by simp [hT])] at hs
                rw [hT] at HQ0
                have HQ := Lib.hid HQ0
                have HS := Lib.hid hs
                have HMe : Hid (j + 1 ≤ A ∧ A - (j + 1) < A - j) := Lib.hid ⟨by omega, by omega⟩
                clear hath hatl hN hM hk1 hk2 hm g0 b0 c0 c1 hbl hx g01 hW0 gw gv ha hb1 hb2 hb3 hX hY hZ hy htk hq0 hs hs0 hk HQ0 hT hlen
                go_upto_region 14 with fail
                go_quiet (exact Calls.quiet_of ((HQ.out _).mono fun _ _ h => ⟨h.1, 0, h.2.symm⟩))
                rename_i nq
                have HE := Lib.hid (And.intro (show Us (wr.drewN nq) W0.heap.size u7 (f2 x (f1 x o D.held) (D.line.take (j + 1))) by rw [HS.out]; exact HR.out.1.gr (grD (Gr.refl _))) (show Gr W0 (wr.drewN nq) from grD HR.out.2))
                go_wp2_with fail
                go_roundw
                case rel => exact ⟨j + 1, by simp, HMe.out.1, HE⟩
                case measure => simpa [intOf] using HMe.out.2
              | false =>
                have hq : ∀ W, (Op.equalIn 10000 TKey (.agg #[.int .i64 Y.1, .int .i64 Y.2]) (.agg #[.int .i64 k1, .int .i64 k2])).run Tryz.prog W = .ok true W := fun W => by
                  rw [hq0 W]; simp [hk]
                have hs := hs0
                rw [if_pos (by simp [hT, hk])] at hs
                rw [hT] at HQ0
                have HQ := Lib.hid HQ0
                have HS := Lib.hid hs
                have HMe : Hid (j + 1 ≤ A ∧ A - (j + 1) < A - j) := Lib.hid ⟨by omega, by omega⟩
                have HL := Lib.hid hlen
                have HC := Lib.hid (And.intro c1' r0)
                clear hath hatl hN hM hk1 hk2 hm g0 b0 c0 c1 hbl hx g01 hW0 gw gv ha hb1 hb2 hb3 hX hY hZ hy htk hq0 hs hs0 hk HQ0 hT hlen
                go_upto_region 14 with fail
                go_quiet (exact Calls.quiet_of ((HQ.out _).mono fun _ _ h => ⟨h.1, 0, h.2.symm⟩))
                rename_i nq
                have g1 : Gr wr (wr.drewN nq) := grD (Gr.refl _)
                obtain ⟨W1, hW1⟩ : ∃ W1, W1 = wr.drewN nq := ⟨_, rfl⟩
                rw [← hW1] at g1 ⊢
                have d1 := (g1.cell (blk_lt' HC.out.1)).trans HC.out.1
                have d2 := (g1.cell (blk_lt' HC.out.2)).trans HC.out.2
                have HG1 := Lib.hid (And.intro (HR.out.1.gr g1) (Gr.trans HR.out.2 g1))
                clear hW1 g1 c0' c1' r0 r1 r2 r3 z1 z2 z3
                go_wp2_with fail
                refine (dadd_any HG1.out.1 HG1.out.2.size HL.out X).mono ?_
                rintro e W2 ⟨v2, rfl, hv2, g2⟩
                have HE := Lib.hid (And.intro (show Us W2 W0.heap.size v2 (f2 x (f1 x o D.held) (D.line.take (j + 1))) by rw [HS.out]; exact hv2) (Gr.trans HG1.out.2 g2))
                clear hv2 g2
                go_wp2_with fail
                go_roundw
                case rel => exact ⟨j + 1, by simp, HMe.out.1, HE⟩
                case measure => simpa [intOf] using HMe.out.2
            · have hq : ∀ W, (Op.equalIn 10000 TKey (.agg #[.int .i64 Y.1, .int .i64 Y.2]) (.agg #[.int .i64 k1, .int .i64 k2])).run Tryz.prog W = .ok false W := fun W => by
                rw [hq0 W]; simp [hk]
              have hs := hs0
              rw [if_neg (by simp [hk])] at hs
              have HQ := Lib.hid HQ0
              have HS := Lib.hid hs
              have HMe : Hid (j + 1 ≤ A ∧ A - (j + 1) < A - j) := Lib.hid ⟨by omega, by omega⟩
              clear hath hatl hN hM hk1 hk2 hm g0 b0 c0 c1 hbl hx g01 hW0 gw gv ha hb1 hb2 hb3 hX hY hZ hy htk hq0 hs hs0 hk HQ0 hlen
              go_upto_region 14 with fail
              go_quiet (exact Calls.quiet_of ((HQ.out _).mono fun _ _ h => ⟨h.1, 0, h.2.symm⟩))
              rename_i nq
              have HE := Lib.hid (And.intro (show Us (wr.drewN nq) W0.heap.size u7 (f2 x (f1 x o D.held) (D.line.take (j + 1))) by rw [HS.out]; exact HR.out.1.gr (grD (Gr.refl _))) (show Gr W0 (wr.drewN nq) from grD HR.out.2))
              go_wp2_with fail
              go_roundw
              case rel => exact ⟨j + 1, by simp, HMe.out.1, HE⟩
              case measure => simpa [intOf] using HMe.out.2
          · have hjA : j = A := by omega
            subst hjA
            have HE := Lib.hid (And.intro (show Us wr w.heap.size u7 (D.forL o) by
              have := HR.out.1.base (Gr.trans g01 g0).size
              rw [HF.out.1, ← hx]
              exact this) gw)
            have e27 : decide ((j : Int) < (j : Int)) = false := decide_eq_false (by omega)
            clear hath hatl hN hM hk1 hk2 hm g0 b0 c0 c1 hbl hx g01 hW0 gw gv
            go_wp2_with fail
            go_ret
            exact ⟨_, rfl, HE.out.1, HE.out.2⟩
  · have hwi : D.wi o = -1 := by unfold DT.wi; rw [if_neg hi]
    rw [forL_no hi]
    rw [hwi] at HW
    clear hi h hwi
    go_enter Tryz.func25, Tryz.ntmps25
    go_wp2_with fail
    refine HW.out.mono ?_
    rintro e w1 ⟨rfl, g1⟩
    have HG := Lib.hid g1
    clear g1
    go_wp2_with fail
    go_ret
    exact ⟨_, rfl, Us.nil _ _, HG.out⟩
end
end Go.Proofs.YtadopbpfnnpnaaaGreat

