/-
  Texts on locks, put together: Lk18 Lk19 Lk20 Lk38.
-/
import Derived.Lib.AppendZerosOnto
import Derived.Lib.Overlaps
import Derived.Laws.Externs
import Derived.IntWalk
import Derived.Test.YtadopbpfnnpnaaaGreatL10
set_option linter.unusedVariables false
set_option linter.unusedSimpArgs false
/-
  The code's table of locks: Free, whatever leave leaves.
-/
namespace Go.Proofs.YtadopbpfnnpnaaaGreat
open Go.RowKit Go.Maps

/-- Those that come to keys, one key after another. -/
def Tb.nextsT : Tb → List Key → Tb
  | T, [] => T
  | T, k :: r => (T.nextT k).nextsT r
def Tb.nextsC : Tb → List Key → List Nat
  | _, [] => []
  | T, k :: r => T.nextC k ++ (T.nextT k).nextsC r
/-- What the way wants of the keys. -/
def Tb.NG : Tb → List Key → Prop
  | _, [] => True
  | T, k :: r => KL.dom k ∧ (T.lk k).isSome = true ∧ (∀ n, n ≤ (T.lkOf k).line.length → (Tb.nextN n T k []).2.Good k) ∧ (T.nextT k).NG r
def RetLv (t km om : Nat) (B : Tag → Option Nat) (T1 : Tb) (ks : List Key) (w : World) (e : Ending) (w' : World) : Prop :=
  ∃ v B', e = .returned v ∧ Kr w' w.heap.size v ks ∧ TbAt w' t km om B' T1 ∧ Tn w w' B B' ∧ (∀ g, v.ownBlock = some g → ¬ FB B' g)
def RetFree (t km om : Nat) (B : Tag → Option Nat) (T1 : Tb) (c : List Nat) (w : World) (e : Ending) (w' : World) : Prop :=
  ∃ v B', e = .returned v ∧ Us w' w.heap.size v c ∧ TbAt w' t km om B' T1 ∧ Tn w w' B B' ∧ (∀ g, v.ownBlock = some g → ¬ FB B' g)
/-- A row of the call's own grows, the table stays. -/
theorem Tn.row {w w1 w' : World} {B B' : Tag → Option Nat} (h : Tn w w1 B B') {row : Option Nat} (g : w1.grownBy w' row) (hr : ∀ m, row = some m → w.heap.size ≤ m) : Tn w w' B B' :=
  ⟨⟨g.os.trans h.onl.os, g.tape.trans h.onl.tape, g.output.trans h.onl.output, Nat.le_trans h.onl.size g.size, fun m hm hn => (g.block m (Nat.lt_of_lt_of_le hm h.onl.size) (fun e => by have := hr m e.symm; omega)).trans (h.onl.block m hm hn)⟩, h.new⟩
section
variable {w : World} {t km om : Nat} {B : Tag → Option Nat} {T : Tb}
theorem TbAt.row {w' : World} (h : TbAt w t km om B T) {row : Option Nat} (g : w.grownBy w' row) (hr : ∀ m, row = some m → ¬ FB B m) : TbAt w' t km om B T :=
  h.stays fun a m hm => g.block m (h.lt a m hm) (fun e => hr m e.symm ⟨a, hm⟩)
set_option maxRecDepth 100000 in
set_option maxHeartbeats 4000000 in
theorem Free_any (h : TbAt w t km om B T) {o : Nat} {T1 : Tb} {ks : List Key} (hlv : Calls Tryz.prog 40 #[.pointer (some ⟨t, 0, none⟩), .int .u64 (o : Int)] w (RetLv t km om B T1 ks w))
    (hng : T1.NG ks) (hcl : (T1.nextsC ks).length ≤ 1000000000) (hkl : ks.length ≤ 1000000000) :
    Calls Tryz.prog 14 #[.pointer (some ⟨t, 0, none⟩), .int .u64 (o : Int)] w (RetFree t km om B (T1.nextsT ks) (T1.nextsC ks) w) := by
  have HM := Lib.hid (missing_no h)
  have HLv := Lib.hid hlv
  have HH := Lib.hid (And.intro h (And.intro hng hcl))
  clear h hlv hng hcl
  go_enter Tryz.func14, Tryz.ntmps14
  go_wp2_with fail
  refine HM.out.mono ?_
  rintro e w' ⟨rfl, rfl⟩
  go_wp2_with fail
  refine HLv.out.mono ?_
  rintro e w1 ⟨v, B1, rfl, hv, h1, t1, hfar⟩
  obtain ⟨p, cap, hvf, hvg⟩ := hv.form
  subst hvf
  obtain ⟨N, hN⟩ : ∃ N, N = ks.length := ⟨_, rfl⟩
  rw [← hN] at hv hvg hfar
  rw [show (Value.slice p ks.length cap) = .slice p N cap by rw [hN]]
  have hN1 : N ≤ 1000000000 := by omega
  have H1 := Lib.hid (And.intro hv (And.intro h1 (And.intro t1 (And.intro hfar hN))))
  clear hv h1 t1 hfar hN hvg hkl
  go_wp2_with fail
  go_loopw [14, 5] (fun i s5 wr => ∃ j : Nat, i = .int .i64 (j : Int) ∧ j ≤ N ∧ Hid (∃ T' B' c, Us wr w1.heap.size s5 c ∧ TbAt wr t km om B' T' ∧ Tn w1 wr B1 B' ∧ T'.nextsT (ks.drop j) = T1.nextsT ks ∧ c ++ T'.nextsC (ks.drop j) = T1.nextsC ks ∧ T'.NG (ks.drop j))) (fun i _ _ => N - (intOf i).toNat)
  case atStart => exact ⟨0, rfl, by omega, Lib.hid ⟨T1, B1, [], Us.nil _ _, H1.out.2.1, Tn.refl _ _, by rw [List.drop_zero], by rw [List.drop_zero]; rfl, by rw [List.drop_zero]; exact HH.out.2.1⟩⟩
  case round =>
    obtain ⟨j, rfl, hj, HR⟩ := hrel
    by_cases hlt : j < N
    · obtain ⟨T', B', c, hu, tr, tn, hT, hC, hG⟩ := HR.out
      obtain ⟨hv, h1, t1, hfar, hN⟩ := H1.out
      have hjl : j < ks.length := by omega
      have hvr := hv.tn tn hfar
      obtain ⟨g, hpg, -, hcap, c0, c1⟩ := Kr.at' hvr j hjl
      obtain ⟨X, hX⟩ : ∃ X, X = ks.getD j (0, 0) := ⟨_, rfl⟩
      have hXm : X = ks[j] := by rw [hX]; simp [List.getD, hjl]
      have hdr : ks.drop j = X :: ks.drop (j + 1) := by rw [hXm]; exact List.drop_eq_getElem_cons hjl
      rw [hdr] at hT hC hG
      obtain ⟨hXd, hXs, hXg, hG'⟩ := hG
      rw [← hX] at c0 c1
      obtain ⟨x1, x2⟩ := X
      have g6 : Gr wr (wr.alloc (.cells #[.int .i64 x1, .int .i64 x2] TKey)) := (Gr.refl _).alloc (Nat.le_refl _) _
      have k6 := Blk.new wr TKey #[.int .i64 x1, .int .i64 x2]
      obtain ⟨W6, hW6⟩ : ∃ W6, W6 = wr.alloc (.cells #[.int .i64 x1, .int .i64 x2] TKey) := ⟨_, rfl⟩
      rw [← hW6] at g6 k6
      have y0 := k6.cell 0
      have y1 := k6.cell 1
      simp at y0 y1
      have hNx : Hid (Calls Tryz.prog 41 #[.pointer (some ⟨t, 0, none⟩), .agg #[.int .i64 x1, .int .i64 x2]] W6 (RetNext t km om B' T' (x1, x2) W6)) := Lib.hid (next_any (tr.gr g6) hXd hXs hXg)
      have e27 : decide ((j : Int) < (N : Int)) = true := decide_eq_true (by omega)
      have hp0 : (0 : Int) ≤ (j : Int) := by omega
      have HX := Lib.hid (And.intro hu (And.intro tr (And.intro tn (And.intro hT (And.intro hC (And.intro hG' (And.intro g6 hW6)))))))
      subst hpg
      clear hu tr tn hT hC hXd hXs hXg hG' hv h1 t1 hfar hN hjl hvr hX hXm hdr g6 k6 hW6
      go_upto_region 7 with fail
      rw [show (wr.alloc (.cells #[.int .i64 x1, .int .i64 x2] 33)) = W6 from HX.out.2.2.2.2.2.2.2.symm]
      go_wp2_with fail
      refine hNx.out.mono ?_
      rintro e W7 ⟨v2, B2, rfl, hu2, tD, nD, hfar2⟩
      obtain ⟨hu, tr, tn, hT, hC, hG', g6, _⟩ := HX.out
      have hu7 := (hu.gr g6).tn nD ((hu.gr g6).far (tr.gr g6))
      have nT := (tn.trans (Tn.of_gr g6)).trans nD
      have hlen : c.length + (T'.nextC (x1, x2)).length ≤ 1000000000 := by
        have e1 : (c ++ (T'.nextC (x1, x2) ++ (T'.nextT (x1, x2)).nextsC (ks.drop (j + 1)))).length = (T1.nextsC ks).length := by rw [← hC]; rfl
        have e2 := HH.out.2.2
        simp only [List.length_append] at e1
        omega
      have hbs : w1.heap.size ≤ W7.heap.size := nT.onl.size
      have HU := Lib.hid (And.intro hu7 (And.intro hu2.usl (And.intro tD (And.intro nT (And.intro hT (And.intro hC hG'))))))
      clear hu tr tn hT hC hG' g6 hu7 nT hu2 tD nD hfar2
      go_wp2_with (at_builtin; refine wpList_app_us rfl (.tmp 18) (.tmp 21) rfl rfl HU.out.1 rfl HU.out.2.1 hlen hbs (fun v' W9 hv9 hg9 => ?_))
      have hg9' : W7.grownBy W9 u5.ownBlock := hg9
      clear hg9
      obtain ⟨hu7, hus, tD, nT, hT, hC, hG'⟩ := HU.out
      have HE := Lib.hid (show ∃ T' B' c, Us W9 w1.heap.size v' c ∧ TbAt W9 t km om B' T' ∧ Tn w1 W9 B1 B' ∧ T'.nextsT (ks.drop (j + 1)) = T1.nextsT ks ∧ c ++ T'.nextsC (ks.drop (j + 1)) = T1.nextsC ks ∧ T'.NG (ks.drop (j + 1)) from
        ⟨T'.nextT (x1, x2), B2, c ++ T'.nextC (x1, x2), hv9, tD.row hg9' (hu7.far tD), nT.row hg9' (fun m e => (hu7.lt m e).1), hT, by rw [List.append_assoc]; exact hC, hG'⟩)
      clear hu7 hus tD nT hT hC hG' hg9'
      go_wp2_with fail
      go_roundw
      case rel => exact ⟨j + 1, by simp, by omega, HE⟩
      case measure => simp [intOf]; omega
    · have hjN : j = N := by omega
      subst hjN
      obtain ⟨T', B', c, hu, tr, tn, hT, hC, hG⟩ := HR.out
      obtain ⟨hv, h1, t1, hfar, hN⟩ := H1.out
      rw [hN, List.drop_length] at hT hC
      have e27 : decide ((j : Int) < (j : Int)) = false := decide_eq_false (by omega)
      have hT' : T' = T1.nextsT ks := hT
      have hC' : c = T1.nextsC ks := by rw [← hC]; exact (List.append_nil c).symm
      rw [hT'] at tr
      rw [hC'] at hu
      have HE := Lib.hid (And.intro (hu.base t1.onl.size) (And.intro tr (And.intro (t1.trans tn) (hu.far tr))))
      clear hu tr tn hT hC hG hv h1 t1 hfar hN hT' hC'
      go_wp2_with fail
      go_ret
      exact ⟨_, _, rfl, HE.out.1, HE.out.2.1, HE.out.2.2.1, HE.out.2.2.2⟩
end
end Go.Proofs.YtadopbpfnnpnaaaGreat

/-
  The code's table of locks: a line grows at its end.
-/
namespace Go.Proofs.YtadopbpfnnpnaaaGreat
open Go.RowKit Go.Maps

abbrev TWts : TypeId := 54
theorem wt_info : (Tryz.prog.info? TWt).map (fun i => (i.zero, i.size, i.bytes)) = some (some (.agg #[.int .u64 0, .int .i64 0]), 2, 16) := by kernel_rfl
theorem wcells_len (ws : List (Nat × Int)) : (wcells ws).length = 2 * ws.length := by
  induction ws with
  | nil => rfl
  | cons a r ih =>
    show ([Value.int .u64 (a.1 : Int), .int .i64 a.2] ++ wcells r).length = _
    simp [ih]
    omega
theorem wcells_app (ws : List (Nat × Int)) (o : Nat) (m : Int) : wcells (ws ++ [(o, m)]) = wcells ws ++ [.int .u64 (o : Int), .int .i64 m] := by
  unfold wcells
  rw [List.flatMap_append]
  rfl
/-- A line grows at its end. -/
theorem run_append_line {w : World} {ob : Option Nat} {v : Value} {ws : List (Nat × Int)} {pop : Bool} (h : LnAt w ob v ws pop) (o : Nat) (m : Int) (hb : ws.length ≤ 1000000000) {b c : Nat}
    (hx0 : w.cell? ⟨b, 0, none⟩ = some (.int .u64 (o : Int))) (hx1 : w.cell? ⟨b, 1, none⟩ = some (.int .i64 m)) (ty : TypeId) :
    ∃ v' w' ob', (Builtin.append_ #[TWts, TWts] ty #[v, .slice (some ⟨b, 0, none⟩) 1 c]).run Tryz.prog w = .ok v' w' ∧ LnAt w' ob' v' (ws ++ [(o, m)]) pop ∧ w.grownBy w' ob ∧ (∀ n, ob' = some n → ob = some n ∨ w.heap.size ≤ n) := by
  obtain ⟨i, hi, hz, hsz, hbb⟩ := inf_parts wt_info
  obtain ⟨news, hnw⟩ : ∃ news : List Value, news = [.int .u64 (o : Int), .int .i64 m] := ⟨_, rfl⟩
  have hl : news.length = 1 * i.size := by rw [hsz, hnw]; rfl
  have hnews : ∀ j u, news[j]? = some u → w.cell? ((⟨b, 0, none⟩ : Addr).add j) = some u := fun j u hj => by
    rw [add_lit', Nat.zero_add]
    rw [hnw] at hj
    match j, hj with
    | 0, hj => cases hj; exact hx0
    | 1, hj => cases hj; exact hx1
  have h1 : ∀ u, u ∈ news → u.oneCell' = true := fun u hu => by
    rw [hnw] at hu
    simp at hu
    rcases hu with rfl | rfl <;> rfl
  have hln : (ws ++ [(o, m)]).length = ws.length + 1 := by simp
  have hwa : wcells (ws ++ [(o, m)]) = wcells ws ++ news := by rw [wcells_app, hnw]
  have hus := Tryz.underlying54
  have grown : ∀ (old : Nat), old ≤ ws.length → ∀ (row : Option Nat),
      LnAt (w.drew.alloc (.cells ((wcells ws).toArray ++ news.toArray ++ Builtin.zeroCells (Value.agg #[.int .u64 0, .int .i64 0]).cells (grownCap w (ws.length + 1) old TWt - (ws.length + 1))) TWt)) (some w.heap.size)
        (.slice (some ⟨w.heap.size, 0, none⟩) (ws.length + 1) (grownCap w (ws.length + 1) old TWt)) (ws ++ [(o, m)]) pop ∧
      w.grownBy (w.drew.alloc (.cells ((wcells ws).toArray ++ news.toArray ++ Builtin.zeroCells (Value.agg #[.int .u64 0, .int .i64 0]).cells (grownCap w (ws.length + 1) old TWt - (ws.length + 1))) TWt)) row := by
    intro old ho row
    have hge := grownCap_ge w (ws.length + 1) old TWt
    have hcm : grownCap w (ws.length + 1) old TWt ≤ maxLen := grownCap_le_maxLen w (ws.length + 1) old TWt (by simp only [maxLen]; omega)
    have hcs : ((wcells ws).toArray ++ news.toArray ++ Builtin.zeroCells (Value.agg #[.int .u64 0, .int .i64 0]).cells (grownCap w (ws.length + 1) old TWt - (ws.length + 1))).size = grownCap w (ws.length + 1) old TWt * 2 := by
      have e : (Value.agg #[.int .u64 0, .int .i64 0]).cells.size = 2 := rfl
      simp only [Array.size_append, List.size_toArray, size_zeroCells, e, wcells_len, hl, hsz]
      omega
    refine ⟨.inr ⟨w.heap.size, 0, _, _, rfl, by rw [hln], heap_alloc_new w.drew _, by rw [hln]; exact hge, hcm, by rw [hcs]; omega, fun j u hj => ?_, fun _ => ⟨rfl, hcs⟩⟩, ⟨rfl, rfl, rfl, by simp, fun k hk _ => heap_alloc_old w.drew _ (by exact hk)⟩⟩
    rw [hwa] at hj
    have hjl := (List.getElem?_eq_some_iff.1 hj).1
    rw [Nat.mul_zero, Nat.zero_add, Array.getElem?_append_left (by simpa using hjl)]
    simpa using hj
  rcases h with ⟨rfl, rfl, rfl⟩ | ⟨lb, off, cap, cs, rfl, rfl, r3, r4, r5, r6, r7, r8⟩
  · have hr := run_append_nil (P := Tryz.prog) w TWts ty TWt i (.agg #[.int .u64 0, .int .i64 0]) hus hi hz ⟨b, 0, none⟩ 1 c news hl hnews (by omega) (by omega) (by rw [hbb]; omega)
    have hg := grown 0 (by simp) none
    have e0 : (wcells []).toArray ++ news.toArray = news.toArray := by
      show #[] ++ news.toArray = _
      simp
    rw [e0] at hg
    exact ⟨_, _, _, hr, hg.1, hg.2, fun n hn => .inr (by cases hn; exact Nat.le_refl _)⟩
  · by_cases hroom : ws.length + 1 ≤ cap
    · have hf := run_firstCells_some (P := Tryz.prog) w i.size 1 ⟨b, 0, none⟩ 1 c news hl hnews
      have hl2 : news.length = 2 := by rw [hl, hsz]
      have hst := run_storeCells_at Tryz.prog lb (2 * off + ws.length * 2) TWt news 0 cs w r3 (by rw [hl2]; omega) h1
      simp only [Nat.add_zero] at hst
      have hr : (Builtin.append_ #[TWts, TWts] ty #[.slice (some ⟨lb, 2 * off, none⟩) ws.length cap, .slice (some ⟨b, 0, none⟩) 1 c]).run Tryz.prog w = .ok (.slice (some ⟨lb, 2 * off, none⟩) (ws.length + 1) cap) (w.setRow lb (cs.toList.take (2 * off + ws.length * 2) ++ news ++ cs.toList.drop (2 * off + ws.length * 2 + news.length)).toArray) := by
        have ha : (⟨lb, 2 * off, none⟩ : Addr).add (ws.length * i.size) = ⟨lb, 2 * off + ws.length * 2, none⟩ := by rw [add_lit', hsz]
        simp [Builtin.append_, run_underlying hus, sizeOf, typeInfo, hi, Builtin.lenOf, hroom, hf, ha, hst]
      refine ⟨_, _, some lb, hr, .inr ⟨lb, off, cap, _, rfl, by rw [hln], setRow_heap w lb cs _ TWt _ r3, by rw [hln]; exact hroom, r5, ?_, fun j u hj => ?_, fun hp => ⟨(r8 hp).1, ?_⟩⟩, ⟨rfl, rfl, rfl, by simp, fun k _ hk => setRow_other w lb k _ (fun e => hk (by rw [e]))⟩, fun n hn => .inl hn⟩
      · simp only [List.size_toArray, List.length_append, List.length_take, List.length_drop, Array.length_toList, hl2]
        omega
      · rw [List.getElem?_toArray]
        rw [hwa] at hj
        rcases Nat.lt_or_ge j (2 * ws.length) with hlt | hge
        · rw [List.getElem?_append_left (by rw [wcells_len]; exact hlt)] at hj
          have := r7 j u hj
          rw [List.append_assoc, List.getElem?_append_left (by simp; omega), List.getElem?_take_of_lt (by omega)]
          simpa using this
        · have hjl := (List.getElem?_eq_some_iff.1 hj).1
          rw [List.length_append, wcells_len, hl2] at hjl
          rw [List.getElem?_append_right (by rw [wcells_len]; exact hge), wcells_len] at hj
          have hA : (cs.toList.take (2 * off + ws.length * 2)).length = 2 * off + ws.length * 2 := by
            have e : cs.toList.length = cs.size := by simp
            rw [List.length_take, e]
            omega
          rw [List.append_assoc, List.getElem?_append_right (by rw [hA]; omega), hA, List.getElem?_append_left (by rw [hl2]; omega), show 2 * off + j - (2 * off + ws.length * 2) = j - 2 * ws.length by omega]
          exact hj
      · have := (r8 hp).2
        simp only [List.size_toArray, List.length_append, List.length_take, List.length_drop, Array.length_toList, hl2]
        omega
    · have hce : cap = ws.length := by omega
      subst hce
      have hr := run_append_grow (P := Tryz.prog) w TWts ty TWt i (.agg #[.int .u64 0, .int .i64 0]) hus hi hz ⟨lb, 2 * off, none⟩ ws.length ws.length (wcells ws) (by rw [wcells_len, hsz]; omega) (fun j u hj => by
        rw [add_lit']
        exact (r3.cell _).trans (r7 j u hj)) ⟨b, 0, none⟩ 1 c news hl hnews (by omega) (by omega) (growslice_fits (by omega) (by rw [hbb]; omega))
      have hg := grown ws.length (by omega) (some lb)
      exact ⟨_, _, _, hr, hg.1, hg.2, fun n hn => .inr (by cases hn; exact Nat.le_refl _)⟩
end Go.Proofs.YtadopbpfnnpnaaaGreat

/-
  The code's table of locks: slices.Insert at a line's end; a party waits.
-/
namespace Go.Proofs.YtadopbpfnnpnaaaGreat
open Go.RowKit Go.Maps

theorem wpList_append_line {ops : Array Oper} {rest : List Oper} {op : Oper} {a : Act} {w : World} {Q : Exit → Act → World → Prop} (hg : op.guard = none) (s x : Operand) (ho : op.op = .call { callee := .builtin .append, args := #[s, x], argTypes := #[TWts, TWts] })
    {ob : Option Nat} {v : Value} {ws : List (Nat × Int)} {pop : Bool} (hs : a.eval s = v) (h : LnAt w ob v ws pop) {b c : Nat} (hx : a.eval x = .slice (some ⟨b, 0, none⟩) 1 c) {o : Nat} {m : Int} (hb : ws.length ≤ 1000000000)
    (hx0 : w.cell? ⟨b, 0, none⟩ = some (.int .u64 (o : Int))) (hx1 : w.cell? ⟨b, 1, none⟩ = some (.int .i64 m))
    (h2 : ∀ v' w' ob', LnAt w' ob' v' (ws ++ [(o, m)]) pop → w.grownBy w' ob → (∀ n, ob' = some n → ob = some n ∨ w.heap.size ≤ n) → wpList Tryz.prog ops Q rest (a.put op.dst v') w') : wpList Tryz.prog ops Q (op :: rest) a w := by
  refine wpList_plain hg fun K hK => ?_
  obtain ⟨v', w', ob', hr, r1, r2, r3⟩ := run_append_line h o m hb hx0 hx1 op.type (c := c)
  unfold Oper.wp execOp
  simp only [ho, resolve, invoke, builtin, Sem.run_bind, Sem.run_pure, Result.andThen_ok, List.map_toArray, List.map_cons, List.map_nil, hs, hx, hr]
  exact hK _ _ (h2 v' w' ob' r1 r2 r3)
def RetLn (ob : Option Nat) (ws : List (Nat × Int)) (pop : Bool) (w : World) (e : Ending) (w' : World) : Prop :=
  ∃ v' ob', e = .returned v' ∧ LnAt w' ob' v' ws pop ∧ w.grownBy w' ob ∧ (∀ n, ob' = some n → ob = some n ∨ w.heap.size ≤ n)
set_option maxRecDepth 100000 in
theorem insert_end {w : World} {ob : Option Nat} {v : Value} {ws : List (Nat × Int)} {pop : Bool} (h : LnAt w ob v ws pop) {N : Nat} (hN : N = ws.length) {b o : Nat} {m : Int} (hb : ws.length ≤ 1000000000)
    (hx0 : w.cell? ⟨b, 0, none⟩ = some (.int .u64 (o : Int))) (hx1 : w.cell? ⟨b, 1, none⟩ = some (.int .i64 m)) :
    Calls Tryz.prog 55 #[v, .int .i64 (N : Int), .slice (some ⟨b, 0, none⟩) 1 1] w (RetLn ob (ws ++ [(o, m)]) pop w) := by
  have HL := Lib.hid h
  have hNb : N ≤ 1000000000 := by omega
  obtain ⟨p, c, hv, hNc⟩ : ∃ p c, v = .slice p N c ∧ N ≤ c := by
    rcases h with ⟨_, rfl, rfl⟩ | ⟨lb, off, cap, cs, _, rfl, _, h4, _⟩
    · exact ⟨none, 0, by rw [hN]; rfl, by rw [hN]; exact Nat.le_refl _⟩
    · exact ⟨_, cap, by rw [hN], by rw [hN]; exact h4⟩
  subst hv
  have HX := Lib.hid (And.intro hb (And.intro hx0 hx1))
  clear h hN hb hx0 hx1
  have hq : ¬ ((c : Int) < (N : Int)) := by omega
  have hq2 : N ≤ c := hNc
  have e1 : decide ((1 : Int) = 0) = false := rfl
  cases p with
  | none =>
    go_enter Tryz.func55, Tryz.ntmps55
    go_wp2_with (at_builtin; refine wpList_append_line rfl (.tmp 23) (.tmp 24) rfl rfl HL.out rfl HX.out.1 HX.out.2.1 HX.out.2.2 (fun v' w' ob' r1 r2 r3 => ?_))
    all_goals
      go_ret
      exact ⟨_, _, rfl, r1, r2, r3⟩
  | some p =>
    go_enter Tryz.func55, Tryz.ntmps55
    go_wp2_with (at_builtin; refine wpList_append_line rfl (.tmp 23) (.tmp 24) rfl rfl HL.out rfl HX.out.1 HX.out.2.1 HX.out.2.2 (fun v' w' ob' r1 r2 r3 => ?_))
    all_goals
      go_ret
      exact ⟨_, _, rfl, r1, r2, r3⟩
/-- A line in which one stands besides: at its end, or (it upgrades) at its front. -/
def lineIn (Y : Bool) (o : Nat) (m : Int) (ws : List (Nat × Int)) : List (Nat × Int) := if Y = true then (o, m) :: ws else ws ++ [(o, m)]
theorem lineIn_len (Y : Bool) (o : Nat) (m : Int) (ws : List (Nat × Int)) : (lineIn Y o m ws).length = ws.length + 1 := by
  unfold lineIn
  split <;> simp
theorem mem_lineIn {Y : Bool} {o : Nat} {m : Int} {ws : List (Nat × Int)} {x : Nat × Int} : x ∈ lineIn Y o m ws ↔ x = (o, m) ∨ x ∈ ws := by
  unfold lineIn
  split
  · simp
  · simp [or_comm]
def Tb.stand (T : Tb) (o : Nat) (k : Key) (m : Int) : Tb :=
  { T.made o with many := T.many + 1, lk := updF T.lk k (some { T.lkOf k with line := lineIn (decide (k ∈ (T.of o).ks)) o m (T.lkOf k).line }), py := updF (T.made o).py o (some { T.of o with key := k, mode := m }) }
section
variable {w : World} {t km om : Nat} {B : Tag → Option Nat} {T : Tb}
/-- A party waits for something. -/
theorem TbAt.setParty (h : TbAt w t km om B T) {o : Nat} {p : Py} (ho : T.py o = some p) {pb : Nat} (e1 : B (.py o) = some pb) (k : Key) (m : Int) :
    TbAt (((w.setCell ⟨pb, 1, none⟩ (.int .i64 k.1)).setCell ⟨pb, 2, none⟩ (.int .i64 k.2)).setCell ⟨pb, 3, none⟩ (.int .i64 m)) t km om B { T with py := updF T.py o (some { p with key := k, mode := m }) } ∧ Tn w (((w.setCell ⟨pb, 1, none⟩ (.int .i64 k.1)).setCell ⟨pb, 2, none⟩ (.int .i64 k.2)).setCell ⟨pb, 3, none⟩ (.int .i64 m)) B B := by
  obtain ⟨b, hm, q1, q2, q3, q4⟩ := h.py o p ho
  rw [e1] at q1
  cases q1
  have hs := fun (u : World) (i : Nat) (v : Value) => Onl.of_set (S := fun n => B (.py o) = some n ∨ B (.pm o) = some n) (w := u) (a := ⟨pb, i, none⟩) v (.inl e1)
  have hw : Onl (fun n => B (.py o) = some n ∨ B (.pm o) = some n) w (((w.setCell ⟨pb, 1, none⟩ (.int .i64 k.1)).setCell ⟨pb, 2, none⟩ (.int .i64 k.2)).setCell ⟨pb, 3, none⟩ (.int .i64 m)) :=
    ((hs _ 1 _).trans (hs _ 2 _) (fun _ _ e => e)).trans (hs _ 3 _) (fun _ _ e => e)
  have hb := ((q3.set 1 (.int .i64 k.1)).set 2 (.int .i64 k.2)).set 3 (.int .i64 m)
  simp at hb
  refine h.setPy ho hw ⟨pb, hm, e1, q2, hb, q4.stays ?_⟩
  have hne := h.ne q2 e1 (by simp)
  rw [Below.heap_setCell _ _ _ _ hne, Below.heap_setCell _ _ _ _ hne, Below.heap_setCell _ _ _ _ hne]
/-- A line grows. -/
theorem TbAt.growLine {w2 w3 : World} (h : TbAt w t km om B T) {k : Key} {l : Lk} (hl : T.lk k = some l) {bl : Nat} (e1 : B (.lk k) = some bl) (g : Gr w w2) (hg : w2.grownBy w3 (B (.ln k))) {v1 : Value} {ob : Option Nat} {ws : List (Nat × Int)}
    (hv : LnAt w3 ob v1 ws l.pop) (hob : ∀ n, ob = some n → B (.ln k) = some n ∨ w2.heap.size ≤ n) :
    TbAt (w3.setCell ⟨bl, 2, none⟩ v1) t km om (updF B (.ln k) ob) { T with lk := updF T.lk k (some { l with line := ws }) } ∧ Tn w (w3.setCell ⟨bl, 2, none⟩ v1) B (updF B (.ln k) ob) := by
  obtain ⟨b, hm, v, q1, q2, q3, q4, q5⟩ := h.lk k l hl
  rw [e1] at q1
  cases q1
  have hne := @TbAt.ne w t km om B T h
  have hon : ∀ n, n < w.heap.size → B (.ln k) ≠ some n → w3.heap[n]? = w.heap[n]? := fun n h1 h2 => (hg.block n (Nat.lt_of_lt_of_le h1 g.size) (fun e => h2 e.symm)).trans (g.block n h1)
  have hlnb : B (.ln k) ≠ some bl := fun e => hne e e1 (by simp) rfl
  have hlnm : B (.ln k) ≠ some hm := fun e => hne e q2 (by simp) rfl
  have hw3 : Onl (fun n => B (.lk k) = some n ∨ B (.hm k) = some n ∨ B (.ln k) = some n) w w3 := ⟨hg.os.trans g.os, hg.tape.trans g.tape, hg.output.trans g.output, Nat.le_trans g.size hg.size, fun n h1 h2 => hon n h1 (fun e => h2 (.inr (.inr e)))⟩
  have hw : Onl (fun n => B (.lk k) = some n ∨ B (.hm k) = some n ∨ B (.ln k) = some n) w (w3.setCell ⟨bl, 2, none⟩ v1) :=
    hw3.trans (Onl.of_set (S := fun n => B (.lk k) = some n ∨ B (.hm k) = some n ∨ B (.ln k) = some n) v1 (.inl e1)) (fun _ _ e => e)
  have hb := (q3.stays (hon bl q3.lt hlnb)).set 2 v1
  simp at hb
  refine h.setLk hl (l' := { l with line := ws }) (ol := ob) hw ⟨bl, hm, v1, e1, q2, hb, (q4.stays (hon hm q4.lt hlnm)).stays (Below.heap_setCell _ _ _ _ (hne q2 e1 (by simp))), hv.stays fun n hn => Below.heap_setCell _ _ _ _ ?_⟩ (fun n hn => ?_)
  · rcases hob n hn with h1 | h1
    · exact hne h1 e1 (by simp)
    · have := q3.lt
      have := g.size
      show n ≠ bl
      omega
  · rcases hob n hn with h1 | h1
    · exact .inl h1
    · exact .inr (Nat.le_trans g.size h1)
end
end Go.Proofs.YtadopbpfnnpnaaaGreat

/-
  The code's table of locks: slices.Insert at a line's front.
-/
namespace Go.Proofs.YtadopbpfnnpnaaaGreat
open Go.RowKit Go.Maps

section
variable {P : Program}
/-- copy onto a row, elements of any size. -/
theorem run_copy_rowS (w : World) (dT sT ty elem : TypeId) (g o dLen dCap : Nat) (a : Addr) (sLen sCap : Nat) (cur : Array Value) (t : TypeId) (cs : List Value) (sz : Nat)
    (hu : P.underlying dT = some (.slice elem)) (hs : (P.info? elem).map (·.size) = some sz)
    (hg : w.heap[g]? = some (.cells cur t (0, 0))) (hn : cs.length = Nat.min sLen dLen * sz)
    (hsrc : ∀ j v, cs[j]? = some v → w.cell? (a.add j) = some v) (hfit : o + cs.length ≤ cur.size) (h1 : ∀ v ∈ cs, v.oneCell' = true) :
    (Builtin.copy_ #[dT, sT] ty #[.slice (some ⟨g, o, none⟩) dLen dCap, .slice (some a) sLen sCap]).run P w =
      .ok (goInt (Nat.min sLen dLen)) (w.setRow g (cur.toList.take o ++ cs ++ cur.toList.drop (o + cs.length)).toArray) := by
  have hl := run_loadCells_list (P := P) w a cs hsrc
  have hst := run_storeCells_at P g o t cs 0 cur w hg (by simpa using hfit) h1
  cases hq : P.info? elem with
  | none => simp [hq] at hs
  | some i =>
    have hi : i.size = sz := by simpa [hq] using hs
    simp [Builtin.copy_, run_underlying hu, Builtin.lenOf, Builtin.firstCells, sizeOf, typeInfo, hq, hi, ← hn, hl, hst]
end
/-- Cells laid over a list of cells. -/
def over (cur : List Value) (o : Nat) (cs : List Value) : List Value := cur.take o ++ cs ++ cur.drop (o + cs.length)
theorem over_len {cur : List Value} {o : Nat} {cs : List Value} (h : o + cs.length ≤ cur.length) : (over cur o cs).length = cur.length := by
  unfold over
  simp only [List.length_append, List.length_take, List.length_drop]
  omega
theorem over_in {cur : List Value} {o : Nat} {cs : List Value} (h : o + cs.length ≤ cur.length) {i : Nat} (hi : i < cs.length) : (over cur o cs)[o + i]? = cs[i]? := by
  unfold over
  rw [List.append_assoc, List.getElem?_append_right (by simp only [List.length_take]; omega)]
  simp only [List.length_take]
  rw [show o + i - min o cur.length = i by omega, List.getElem?_append_left hi]
theorem over_out {cur : List Value} {o : Nat} {cs : List Value} (h : o + cs.length ≤ cur.length) {i : Nat} (hi : i < o ∨ o + cs.length ≤ i) : (over cur o cs)[i]? = cur[i]? := by
  unfold over
  rcases hi with hi | hi
  · rw [List.append_assoc, List.getElem?_append_left (by simp only [List.length_take]; omega), List.getElem?_take, if_pos hi]
  · rw [List.append_assoc, List.getElem?_append_right (by simp only [List.length_take]; omega)]
    simp only [List.length_take]
    rw [List.getElem?_append_right (by omega), List.getElem?_drop]
    congr 1
    omega
theorem wcells_one (ws : List (Nat × Int)) : ∀ v, v ∈ wcells ws → v.oneCell' = true := fun v hv => by
  unfold wcells at hv
  rw [List.mem_flatMap] at hv
  obtain ⟨p, _, h2⟩ := hv
  simp at h2
  rcases h2 with rfl | rfl <;> rfl
theorem wt_size : (Tryz.prog.info? TWt).map (·.size) = some 2 := by kernel_rfl
/-- Two copies: what stood moves up by one, one is laid ahead. -/
theorem front_cells {cs0 : List Value} {q : Nat} {ws : List (Nat × Int)} {o : Nat} {m : Int} (hfit : q + 2 + 2 * ws.length ≤ cs0.length) :
    (over (over cs0 (q + 2) (wcells ws)) q [.int .u64 (o : Int), .int .i64 m]).length = cs0.length ∧ ∀ i u, (wcells ((o, m) :: ws))[i]? = some u → (over (over cs0 (q + 2) (wcells ws)) q [.int .u64 (o : Int), .int .i64 m])[q + i]? = some u := by
  have hwl := wcells_len ws
  have h1 : (over cs0 (q + 2) (wcells ws)).length = cs0.length := over_len (by omega)
  have h2 : q + ([.int .u64 (o : Int), .int .i64 m] : List Value).length ≤ (over cs0 (q + 2) (wcells ws)).length := by
    rw [h1]
    simp
    omega
  refine ⟨(over_len h2).trans h1, fun i u hi => ?_⟩
  have hc : wcells ((o, m) :: ws) = [.int .u64 (o : Int), .int .i64 m] ++ wcells ws := rfl
  rw [hc] at hi
  by_cases h3 : i < 2
  · rw [over_in h2 (by simpa using h3)]
    rwa [List.getElem?_append_left (by simpa using h3)] at hi
  · rw [List.getElem?_append_right (by simp; omega)] at hi
    have hlt := (List.getElem?_eq_some_iff.1 hi).1
    simp only [List.length_cons, List.length_nil] at hi hlt
    rw [over_out h2 (.inr (by simp; omega))]
    have := over_in (cur := cs0) (o := q + 2) (cs := wcells ws) (by omega) (i := i - 2) (by omega)
    rw [show q + 2 + (i - 2) = q + i by omega] at this
    rw [this]
    exact hi
/-- The like the other way round. -/
theorem front_cells2 {cs0 : List Value} {ws : List (Nat × Int)} {o : Nat} {m : Int} (hfit : 2 + 2 * ws.length ≤ cs0.length) :
    (over (over cs0 0 [.int .u64 (o : Int), .int .i64 m]) 2 (wcells ws)).length = cs0.length ∧ ∀ (i : Nat) (u : Value), (wcells ((o, m) :: ws))[i]? = some u → (over (over cs0 0 [.int .u64 (o : Int), .int .i64 m]) 2 (wcells ws))[i]? = some u := by
  have hwl := wcells_len ws
  have h0 : 0 + ([.int .u64 (o : Int), .int .i64 m] : List Value).length ≤ cs0.length := by simp; omega
  have h1 : (over cs0 0 [.int .u64 (o : Int), .int .i64 m]).length = cs0.length := over_len h0
  have h2 : 2 + (wcells ws).length ≤ (over cs0 0 [.int .u64 (o : Int), .int .i64 m]).length := by omega
  refine ⟨(over_len h2).trans h1, fun i u hi => ?_⟩
  have hc : wcells ((o, m) :: ws) = [.int .u64 (o : Int), .int .i64 m] ++ wcells ws := rfl
  rw [hc] at hi
  by_cases h3 : i < 2
  · rw [over_out h2 (.inl h3)]
    have := over_in h0 (i := i) (by simpa using h3)
    rw [Nat.zero_add] at this
    rw [this]
    rwa [List.getElem?_append_left (by simpa using h3)] at hi
  · rw [List.getElem?_append_right (by simp; omega)] at hi
    have hlt := (List.getElem?_eq_some_iff.1 hi).1
    simp only [List.length_cons, List.length_nil] at hi hlt
    have := over_in h2 (i := i - 2) (by omega)
    rw [show 2 + (i - 2) = i by omega] at this
    rw [this]
    exact hi
end Go.Proofs.YtadopbpfnnpnaaaGreat

