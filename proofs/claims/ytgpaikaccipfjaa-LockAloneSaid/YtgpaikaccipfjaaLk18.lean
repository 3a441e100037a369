
/-
  The code's table of locks: Free, whatever leave leaves.
-/
import Derived.Test.YtgpaikaccipfjaaLk17
namespace Go.Proofs.Ytgpaikaccipfjaa
open Go.RowKit Go.Maps

/-- Those that come to keys, one key after another. -/
def Tb.nextsT : Tb → List Key → Tb
  | T, [] => T
  | T, k :: r => (T.nextT k).nextsT r
def Tb.nextsC : Tb → List Key → List Nat
  | _, [] => []
  | T, k :: r => T.nextC k ++ (T.nextT k).nextsC r
/-- What the way wants of the keys. -/
def Tb.NG : Tb → List Key → Prop
  | _, [] => True
  | T, k :: r => KL.dom k ∧ (T.lk k).isSome = true ∧ (∀ n, n ≤ (T.lkOf k).line.length → (Tb.nextN n T k []).2.Good k) ∧ (T.nextT k).NG r
def RetLv (t km om : Nat) (B : Tag → Option Nat) (T1 : Tb) (ks : List Key) (w : World) (e : Ending) (w' : World) : Prop :=
  ∃ v B', e = .returned v ∧ Kr w' w.heap.size v ks ∧ TbAt w' t km om B' T1 ∧ Tn w w' B B' ∧ (∀ g, v.ownBlock = some g → ¬ FB B' g)
def RetFree (t km om : Nat) (B : Tag → Option Nat) (T1 : Tb) (c : List Nat) (w : World) (e : Ending) (w' : World) : Prop :=
  ∃ v B', e = .returned v ∧ Us w' w.heap.size v c ∧ TbAt w' t km om B' T1 ∧ Tn w w' B B' ∧ (∀ g, v.ownBlock = some g → ¬ FB B' g)
/-- A row of the call's own grows, the table stays. -/
theorem Tn.row {w w1 w' : World} {B B' : Tag → Option Nat} (h : Tn w w1 B B') {row : Option Nat} (g : w1.grownBy w' row) (hr : ∀ m, row = some m → w.heap.size ≤ m) : Tn w w' B B' :=
  ⟨⟨g.os.trans h.onl.os, g.tape.trans h.onl.tape, g.output.trans h.onl.output, Nat.le_trans h.onl.size g.size, fun m hm hn => (g.block m (Nat.lt_of_lt_of_le hm h.onl.size) (fun e => by have := hr m e.symm; omega)).trans (h.onl.block m hm hn)⟩, h.new⟩
section
variable {w : World} {t km om : Nat} {B : Tag → Option Nat} {T : Tb}
theorem TbAt.row {w' : World} (h : TbAt w t km om B T) {row : Option Nat} (g : w.grownBy w' row) (hr : ∀ m, row = some m → ¬ FB B m) : TbAt w' t km om B T :=
  h.stays fun a m hm => g.block m (h.lt a m hm) (fun e => hr m e.symm ⟨a, hm⟩)
set_option maxRecDepth 100000 in
set_option maxHeartbeats 4000000 in
theorem Free_any (h : TbAt w t km om B T) {o : Nat} {T1 : Tb} {ks : List Key} (hlv : Calls Try.prog 23 #[.pointer (some ⟨t, 0, none⟩), .int .u64 (o : Int)] w (RetLv t km om B T1 ks w))
    (hng : T1.NG ks) (hcl : (T1.nextsC ks).length ≤ 1000000000) (hkl : ks.length ≤ 1000000000) :
    Calls Try.prog 9 #[.pointer (some ⟨t, 0, none⟩), .int .u64 (o : Int)] w (RetFree t km om B (T1.nextsT ks) (T1.nextsC ks) w) := by
  have HM := Lib.hid (missing_no h)
  have HLv := Lib.hid hlv
  have HH := Lib.hid (And.intro h (And.intro hng hcl))
  clear h hlv hng hcl
  go_enter Try.func9, Try.ntmps9
  go_wp2_with fail
  refine HM.out.mono ?_
  rintro e w' ⟨rfl, rfl⟩
  go_wp2_with fail
  refine HLv.out.mono ?_
  rintro e w1 ⟨v, B1, rfl, hv, h1, t1, hfar⟩
  obtain ⟨p, cap, hvf, hvg⟩ := hv.form
  subst hvf
  obtain ⟨N, hN⟩ : ∃ N, N = ks.length := ⟨_, rfl⟩
  rw [← hN] at hv hvg hfar
  rw [show (Value.slice p ks.length cap) = .slice p N cap by rw [hN]]
  have hN1 : N ≤ 1000000000 := by omega
  have H1 := Lib.hid (And.intro hv (And.intro h1 (And.intro t1 (And.intro hfar hN))))
  clear hv h1 t1 hfar hN hvg hkl
  go_wp2_with fail
  go_loopw [14, 5] (fun i s5 wr => ∃ j : Nat, i = .int .i64 (j : Int) ∧ j ≤ N ∧ Hid (∃ T' B' c, Us wr w1.heap.size s5 c ∧ TbAt wr t km om B' T' ∧ Tn w1 wr B1 B' ∧ T'.nextsT (ks.drop j) = T1.nextsT ks ∧ c ++ T'.nextsC (ks.drop j) = T1.nextsC ks ∧ T'.NG (ks.drop j))) (fun i _ _ => N - (intOf i).toNat)
  case atStart => exact ⟨0, rfl, by omega, Lib.hid ⟨T1, B1, [], Us.nil _ _, H1.out.2.1, Tn.refl _ _, by rw [List.drop_zero], by rw [List.drop_zero]; rfl, by rw [List.drop_zero]; exact HH.out.2.1⟩⟩
  case round =>
    obtain ⟨j, rfl, hj, HR⟩ := hrel
    by_cases hlt : j < N
    · obtain ⟨T', B', c, hu, tr, tn, hT, hC, hG⟩ := HR.out
      obtain ⟨hv, h1, t1, hfar, hN⟩ := H1.out
      have hjl : j < ks.length := by omega
      have hvr := hv.tn tn hfar
      obtain ⟨g, hpg, -, hcap, c0, c1⟩ := Kr.at' hvr j hjl
      obtain ⟨X, hX⟩ : ∃ X, X = ks.getD j (0, 0) := ⟨_, rfl⟩
      have hXm : X = ks[j] := by rw [hX]; simp [List.getD, hjl]
      have hdr : ks.drop j = X :: ks.drop (j + 1) := by rw [hXm]; exact List.drop_eq_getElem_cons hjl
      rw [hdr] at hT hC hG
      obtain ⟨hXd, hXs, hXg, hG'⟩ := hG
      rw [← hX] at c0 c1
      obtain ⟨x1, x2⟩ := X
      have g6 : Gr wr (wr.alloc (.cells #[.int .i64 x1, .int .i64 x2] TKey)) := (Gr.refl _).alloc (Nat.le_refl _) _
      have k6 := Blk.new wr TKey #[.int .i64 x1, .int .i64 x2]
      obtain ⟨W6, hW6⟩ : ∃ W6, W6 = wr.alloc (.cells #[.int .i64 x1, .int .i64 x2] TKey) := ⟨_, rfl⟩
      rw [← hW6] at g6 k6
      have y0 := k6.cell 0
      have y1 := k6.cell 1
      simp at y0 y1
      have hNx : Hid (Calls Try.prog 24 #[.pointer (some ⟨t, 0, none⟩), .agg #[.int .i64 x1, .int .i64 x2]] W6 (RetNext t km om B' T' (x1, x2) W6)) := Lib.hid (next_any (tr.gr g6) hXd hXs hXg)
      have e27 : decide ((j : Int) < (N : Int)) = true := decide_eq_true (by omega)
      have hp0 : (0 : Int) ≤ (j : Int) := by omega
      have HX := Lib.hid (And.intro hu (And.intro tr (And.intro tn (And.intro hT (And.intro hC (And.intro hG' (And.intro g6 hW6)))))))
      subst hpg
      clear hu tr tn hT hC hXd hXs hXg hG' hv h1 t1 hfar hN hjl hvr hX hXm hdr g6 k6 hW6
      go_upto_region 7 with fail
      rw [show (wr.alloc (.cells #[.int .i64 x1, .int .i64 x2] 29)) = W6 from HX.out.2.2.2.2.2.2.2.symm]
      go_wp2_with fail
      refine hNx.out.mono ?_
      rintro e W7 ⟨v2, B2, rfl, hu2, tD, nD, hfar2⟩
      obtain ⟨hu, tr, tn, hT, hC, hG', g6, _⟩ := HX.out
      have hu7 := (hu.gr g6).tn nD ((hu.gr g6).far (tr.gr g6))
      have nT := (tn.trans (Tn.of_gr g6)).trans nD
      have hlen : c.length + (T'.nextC (x1, x2)).length ≤ 1000000000 := by
        have e1 : (c ++ (T'.nextC (x1, x2) ++ (T'.nextT (x1, x2)).nextsC (ks.drop (j + 1)))).length = (T1.nextsC ks).length := by rw [← hC]; rfl
        have e2 := HH.out.2.2
        simp only [List.length_append] at e1
        omega
      have hbs : w1.heap.size ≤ W7.heap.size := nT.onl.size
      have HU := Lib.hid (And.intro hu7 (And.intro hu2.usl (And.intro tD (And.intro nT (And.intro hT (And.intro hC hG'))))))
      clear hu tr tn hT hC hG' g6 hu7 nT hu2 tD nD hfar2
      go_wp2_with (at_builtin; refine wpList_app_us rfl (.tmp 18) (.tmp 21) rfl rfl HU.out.1 rfl HU.out.2.1 hlen hbs (fun v' W9 hv9 hg9 => ?_))
      have hg9' : W7.grownBy W9 u5.ownBlock := hg9
      clear hg9
      obtain ⟨hu7, hus, tD, nT, hT, hC, hG'⟩ := HU.out
      have HE := Lib.hid (show ∃ T' B' c, Us W9 w1.heap.size v' c ∧ TbAt W9 t km om B' T' ∧ Tn w1 W9 B1 B' ∧ T'.nextsT (ks.drop (j + 1)) = T1.nextsT ks ∧ c ++ T'.nextsC (ks.drop (j + 1)) = T1.nextsC ks ∧ T'.NG (ks.drop (j + 1)) from
        ⟨T'.nextT (x1, x2), B2, c ++ T'.nextC (x1, x2), hv9, tD.row hg9' (hu7.far tD), nT.row hg9' (fun m e => (hu7.lt m e).1), hT, by rw [List.append_assoc]; exact hC, hG'⟩)
      clear hu7 hus tD nT hT hC hG' hg9'
      go_wp2_with fail
      go_roundw
      case rel => exact ⟨j + 1, by simp, by omega, HE⟩
      case measure => simp [intOf]; omega
    · have hjN : j = N := by omega
      subst hjN
      obtain ⟨T', B', c, hu, tr, tn, hT, hC, hG⟩ := HR.out
      obtain ⟨hv, h1, t1, hfar, hN⟩ := H1.out
      rw [hN, List.drop_length] at hT hC
      have e27 : decide ((j : Int) < (j : Int)) = false := decide_eq_false (by omega)
      have hT' : T' = T1.nextsT ks := hT
      have hC' : c = T1.nextsC ks := by rw [← hC]; exact (List.append_nil c).symm
      rw [hT'] at tr
      rw [hC'] at hu
      have HE := Lib.hid (And.intro (hu.base t1.onl.size) (And.intro tr (And.intro (t1.trans tn) (hu.far tr))))
      clear hu tr tn hT hC hG hv h1 t1 hfar hN hT' hC'
      go_wp2_with fail
      go_ret
      exact ⟨_, _, rfl, HE.out.1, HE.out.2.1, HE.out.2.2.1, HE.out.2.2.2⟩
end
end Go.Proofs.Ytgpaikaccipfjaa
