/-
  Texts on locks, put together: Lk43 Lk44 Lk45.
-/
import Derived.Test.YtadopbpfnnpnaaaGreatL11
import Derived.Test.YtadopbpfnnpnaaaGreatL19
set_option linter.unusedVariables false
set_option linter.unusedSimpArgs false
/-
  The code's table of locks: ring, whole.
-/
namespace Go.Proofs.YtadopbpfnnpnaaaGreat
open Go.RowKit Go.Maps

section
variable {w : World} {t km om : Nat} {B : Tag → Option Nat} {T : Tb}
/-- What is closed leads to nothing. -/
theorem Done.not_leads {ks ss' : List Key} (h : Done T ks [] ss') {k : Key} (hk : T.Leads ks k) : k ∉ ss' := by
  induction hk with
  | hit h1 h2 h3 => exact fun e => (h.2 _ e (by simp) _ h1 h2).1 h3
  | via h1 h2 _ ih => exact fun e => ih (h.2 _ e (by simp) _ h1 h2).2
/-- Where nobody stands in the line of what is held, nothing leads there. -/
theorem wanted_leads (hI : Inv T) {ks : List Key} (hw : T.wanted ks = false) {k : Key} : ¬ T.Leads ks k := fun h => by
  have key : ∀ q, (T.of q).mode ≠ 0 → (T.of q).key ∉ ks := fun q hq e => by
    obtain ⟨l, h1, h2⟩ := hI.wt q hq
    have : T.wanted ks = true := wanted_true e (by
      rw [lkOf_of h1]
      intro e2
      rw [e2] at h2
      cases h2)
    rw [hw] at this
    cases this
  induction h with
  | hit _ h2 h3 => exact key _ h2 h3
  | via _ _ _ ih => exact ih
def RetRing (T : Tb) (o : Nat) (k : Key) (w : World) (e : Ending) (w' : World) : Prop := ∃ R, e = .returned (.bool R) ∧ (R = true ↔ T.Leads (T.of o).ks k) ∧ Gr w w'
set_option maxRecDepth 100000 in
set_option maxHeartbeats 2000000 in
theorem ring_any (h : TbAt w t km om B T) (hI : Inv T) (hkl : T.kk.length ≤ 1000000000) (hol : T.oo.length ≤ 1000000000) {o : Nat} (ho : KO.dom o) {k : Key} (hk : KL.dom k) (hlk : (T.lk k).isSome = true) :
    Calls Tryz.prog 38 #[.pointer (some ⟨t, 0, none⟩), .int .u64 (o : Int), kv k] w (RetRing T o k w) := by
  have ok := hI.ok hol
  cases hw : T.wanted (T.of o).ks with
  | false =>
    refine (ring_no h ok ho k hw).mono ?_
    rintro e w' ⟨rfl, g⟩
    exact ⟨false, rfl, ⟨(fun e => by cases e), fun e => absurd e (wanted_leads hI hw)⟩, g⟩
  | true =>
  have g1 : Gr w ((w.alloc (.cells #[.pointer (some ⟨t, 0, none⟩)] 24)).alloc (.cells #[.int .i64 k.1, .int .i64 k.2] TKey)) := ((Gr.refl w).alloc (Nat.le_refl _) _).alloc (by simp) _
  have HO := Lib.hid (of_any (h.gr g1) ho)
  have hhs := h.hs o
  obtain ⟨hp, hhp⟩ : ∃ hp, hp = B (.pm o) := ⟨_, rfl⟩
  obtain ⟨O1, hO1⟩ : ∃ O1, O1 = (T.of o).key.1 := ⟨_, rfl⟩
  obtain ⟨O2, hO2⟩ : ∃ O2, O2 = (T.of o).key.2 := ⟨_, rfl⟩
  obtain ⟨PM, hPM⟩ : ∃ PM, PM = (T.of o).mode := ⟨_, rfl⟩
  unfold ofV at HO
  rw [← hhp, ← hO1, ← hO2, ← hPM] at HO
  rw [← hhp] at hhs
  have hb := (Blk.new w 24 #[.pointer (some ⟨t, 0, none⟩)]).gr ((Gr.refl _).alloc (Nat.le_refl _) (.cells #[.int .i64 k.1, .int .i64 k.2] TKey))
  have HWa := Lib.hid (fun W (g : Gr w W) => wanted_any (h.gr g) O1 O2 PM (hhs.gr g) (fun k hk => by obtain ⟨l, e, _⟩ := ok.holds o k hk; rw [e]; rfl))
  rw [hw] at HWa
  have hkb2 := Blk.new (w.alloc (.cells #[.pointer (some ⟨t, 0, none⟩)] 24)) TKey #[.int .i64 k.1, .int .i64 k.2]
  simp only [World.size_alloc] at hkb2
  obtain ⟨W0, hW0⟩ : ∃ W0, W0 = (w.alloc (.cells #[.pointer (some ⟨t, 0, none⟩)] 24)).alloc (.cells #[.int .i64 k.1, .int .i64 k.2] TKey) := ⟨_, rfl⟩
  rw [← hW0] at g1 HO hb hkb2
  obtain ⟨tb, htb⟩ : ∃ tb, tb = w.heap.size := ⟨_, rfl⟩
  rw [← htb] at hb hkb2
  have HKb := Lib.hid hkb2
  clear hkb2
  have x0 := hb.cell 0
  simp at x0
  have HZ := Lib.hid (And.intro h (And.intro ok (And.intro hk (And.intro hlk (And.intro hI (And.intro hkl hhs))))))
  have HB := Lib.hid (And.intro hb (And.intro g1 (And.intro hW0 htb)))
  show Calls Tryz.prog 38 #[.pointer (some ⟨t, 0, none⟩), .int .u64 (o : Int), .agg #[.int .i64 k.1, .int .i64 k.2]] w _
  clear h ok hk hlk hI hkl hhs hhp hO1 hO2 hPM hb g1 hW0 htb hw hol
  go_enter Tryz.func38, Tryz.ntmps38
  go_upto_region 1 with fail
  rw [show ((w.alloc (.cells #[.pointer (some ⟨t, 0, none⟩)] 24)).alloc (.cells #[.int .i64 k.1, .int .i64 k.2] 33)) = W0 from HB.out.2.2.1.symm, ← HB.out.2.2.2]
  go_wp2_with fail
  refine HO.out.mono ?_
  rintro e W2 ⟨rfl, g2⟩
  have g3 : Gr W2 (W2.alloc (.cells #[.map hp, .int .i64 O1, .int .i64 O2, .int .i64 PM] TPy)) := (Gr.refl _).alloc (Nat.le_refl _) _
  have b3 := Blk.new W2 TPy #[.map hp, .int .i64 O1, .int .i64 O2, .int .i64 PM]
  obtain ⟨W3, hW3⟩ : ∃ W3, W3 = W2.alloc (.cells #[.map hp, .int .i64 O1, .int .i64 O2, .int .i64 PM] TPy) := ⟨_, rfl⟩
  rw [← hW3] at g3 b3
  obtain ⟨pb, hpb⟩ : ∃ pb, pb = W2.heap.size := ⟨_, rfl⟩
  rw [← hpb] at b3
  have z0 := b3.cell 0
  have z1 := b3.cell 1
  have z2 := b3.cell 2
  have z3 := b3.cell 3
  have x3 := (HB.out.1.gr (Gr.trans g2 g3)).cell 0
  have x2 := (HB.out.1.gr g2).cell 0
  simp at z0 z1 z2 z3 x3 x2
  have HP := Lib.hid b3
  have HX := Lib.hid (HB.out.1.gr (Gr.trans g2 g3))
  have HX2 := Lib.hid (HKb.out.gr (Gr.trans g2 g3))
  have G3 : Hid (Gr w W3) := Lib.hid (Gr.trans HB.out.2.1 (Gr.trans g2 g3))
  have H3 := Lib.hid (And.intro hW3 hpb)
  clear g2 g3 b3 hW3 hpb x0
  go_upto_region 2 with fail
  rw [show (W2.alloc (.cells #[.map hp, .int .i64 O1, .int .i64 O2, .int .i64 PM] 66)) = W3 from H3.out.1.symm, ← H3.out.2]
  go_wp2_with fail
  refine (HWa.out W3 G3.out).mono ?_
  rintro e W4 ⟨rfl, g4⟩
  have G4 : Hid (Gr w W4) := Lib.hid (Gr.trans G3.out g4)
  have b4 := HP.out.gr g4
  have t4 := HX.out.gr g4
  have K4 := Lib.hid (And.intro b4 t4)
  have K5 := Lib.hid (HX2.out.gr g4)
  clear g4 b4 t4 z0 z1 z2 z3 x3 x2
  have hmm := @run_makeMap Tryz.prog
  obtain ⟨h, ok, hk, hlk, hI, hkl, hhs⟩ := HZ.out
  obtain ⟨sm, hsm⟩ : ∃ sm, sm = W4.heap.size := ⟨_, rfl⟩
  obtain ⟨fv, hfv⟩ : ∃ fv, fv = Value.func (Fn.func 54) #[] #[.pointer (some ⟨sm + 1, 0, none⟩), .pointer (some ⟨tb, 0, none⟩), .pointer (some ⟨pb, 0, none⟩), .pointer (some ⟨sm + 1 + 1, 0, none⟩)] := ⟨_, rfl⟩
  have ga : Gr W4 (W4.alloc (.map #[] 0)) := (Gr.refl _).alloc (Nat.le_refl _) _
  have gb : Gr (W4.alloc (.map #[] 0)) ((W4.alloc (.map #[] 0)).alloc (.cells #[.map (some sm)] TMs)) := (Gr.refl _).alloc (Nat.le_refl _) _
  have gc : Gr ((W4.alloc (.map #[] 0)).alloc (.cells #[.map (some sm)] TMs)) (((W4.alloc (.map #[] 0)).alloc (.cells #[.map (some sm)] TMs)).alloc (.cells #[.nilFunc] 85)) := (Gr.refl _).alloc (Nat.le_refl _) _
  have m1 : Mp Tryz.prog KL (W4.alloc (.map #[] 0)) W4.heap.size (fun _ => none) [] := Mp.made W4
  have bs := Blk.new (W4.alloc (.map #[] 0)) TMs #[.map (some sm)]
  have bL := Blk.new ((W4.alloc (.map #[] 0)).alloc (.cells #[.map (some sm)] TMs)) 85 #[.nilFunc]
  simp only [World.size_alloc] at bs bL
  rw [← hsm] at m1 bs bL
  obtain ⟨WX, hWX⟩ : ∃ WX, WX = ((W4.alloc (.map #[] 0)).alloc (.cells #[.map (some sm)] TMs)).alloc (.cells #[.nilFunc] 85) := ⟨_, rfl⟩
  have m2 := (m1.stays (gb.block sm m1.lt)).stays (gc.block sm (Nat.lt_of_lt_of_le m1.lt gb.size))
  have bs2 := bs.gr gc
  have gX : Gr W4 WX := by rw [hWX]; exact Gr.trans ga (Gr.trans gb gc)
  rw [← hWX] at bL m2 bs2
  have xL := bL.cell 0
  have fL := bL.frozen 0
  simp at xL
  have hlw : w.heap.size ≤ W4.heap.size := G4.out.size
  have gWY : Gr w (WX.setCell ⟨sm + 1 + 1, 0, none⟩ fv) := ⟨gX.os.trans G4.out.os, gX.tape.trans G4.out.tape, gX.output.trans G4.out.output, by have := gX.size; simp; omega, fun n hn => (Below.heap_setCell _ _ _ _ (by show n ≠ sm + 1 + 1; omega)).trans ((gX.block n (by omega)).trans (G4.out.block n hn))⟩
  have m3 := m2.stays (w' := WX.setCell ⟨sm + 1 + 1, 0, none⟩ fv) (Below.heap_setCell _ _ _ _ (by show sm ≠ sm + 1 + 1; omega))
  have bs3 := bs2.far (p := ⟨sm + 1 + 1, 0, none⟩) (by show sm + 1 ≠ sm + 1 + 1; omega) fv
  have hpb4 := K4.out.1.lt
  have htb4 := K4.out.2.lt
  have bp3 := (K4.out.1.gr gX).far (p := ⟨sm + 1 + 1, 0, none⟩) (by show pb ≠ sm + 1 + 1; omega) fv
  have bt3 := (K4.out.2.gr gX).far (p := ⟨sm + 1 + 1, 0, none⟩) (by show tb ≠ sm + 1 + 1; omega) fv
  have hkb4 := K5.out.lt
  have bk3 := (K5.out.gr gX).far (p := ⟨sm + 1 + 1, 0, none⟩) (by show tb + 1 ≠ sm + 1 + 1; omega) fv
  have y0 := bk3.cell 0
  have y1 := bk3.cell 1
  have bL3 := bL.set 0 fv
  have yL := bL3.cell 0
  simp at y0 y1 yL bL3
  have hun : (unitF ([] : List Key)) = fun _ => none := by
    funext a
    rfl
  rw [← hun] at m3
  rw [hfv] at bL3
  have hRG : RgAt (WX.setCell ⟨sm + 1 + 1, 0, none⟩ fv) t km om B T (sm + 1) tb pb (sm + 1 + 1) sm hp O1 O2 PM (T.of o).ks :=
    ⟨h.gr gWY, (fun ⟨a, ha⟩ => by have := h.lt a _ ha; omega), bs3, bt3, bp3, by rw [hfv]; exact bL3, hhs.gr gWY, (fun n hn e => by
      rcases hhs with ⟨h1, _⟩ | ⟨n', h1, h2⟩
      · rw [hn] at h1; cases h1
      · rw [hn] at h1; cases h1; have := h2.lt; omega), m3.isMap⟩
  have hLF := leads_any hI hI.key (unseen T.kk []) _ k [] (Nat.le_refl _) hRG m3 hlk (by simp) hkl (fun a ha => by cases ha)
  rw [show kv k = .agg #[.int .i64 k.1, .int .i64 k.2] from rfl] at hLF
  have HLF := Lib.hid hLF
  have HY := Lib.hid (And.intro gWY (And.intro hWX (And.intro hlw hsm)))
  have HFV := Lib.hid hfv
  clear h ok hk hlk hI hkl hhs bk3 hkb4 ga gb gc m1 bs bL m2 bs2 gX gWY m3 bs3 hpb4 htb4 bp3 bt3 hun hLF hWX hsm hlw hfv bL3 hRG
  go_upto_region 6 with fail
  rw [← HY.out.2.2.2, show (((W4.alloc (.map #[] 0)).alloc (.cells #[.map (some sm)] 63)).alloc (.cells #[.nilFunc] 85)) = WX from HY.out.2.1.symm]
  go_upto_region 7 with fail
  rw [← HFV.out]
  have eg : ∀ args w, (callFunc 54 args).run Tryz.prog w = .ok (.enter 54 args) w := enters_of Tryz.func54 (by kernel_rfl) rfl
  obtain ⟨WY, hWY⟩ : ∃ WY, WY = WX.setCell ⟨sm + 1 + 1, 0, none⟩ fv := ⟨_, rfl⟩
  rw [← hWY] at y0 y1 yL HLF HY ⊢
  clear hWY xL fL
  have hfv := HFV.out
  subst hfv
  go_wp2_with (go_at_fn 54; refine HLF.out.mono ?_; rintro e W9 ⟨R, ss', rfl, g9, -, hT, hF, -⟩; have G9 := Lib.hid (And.intro g9 (And.intro hT hF)); clear g9 hT hF)
  go_ret
  obtain ⟨gWY, -, hlw, hsm⟩ := HY.out
  obtain ⟨g9, hT, hF⟩ := G9.out
  refine ⟨R, rfl, ⟨hT, fun hl => ?_⟩, ⟨g9.os.trans gWY.os, g9.tape.trans gWY.tape, g9.output.trans gWY.output, Nat.le_trans gWY.size g9.size, fun n hn => (g9.block n (Nat.lt_of_lt_of_le hn gWY.size) (fun e => by cases e; omega)).trans (gWY.block n hn)⟩⟩
  cases R with
  | true => rfl
  | false =>
    obtain ⟨h1, h2⟩ := hF (by simp)
    exact absurd h2 (h1.not_leads hl)
end
end Go.Proofs.YtadopbpfnnpnaaaGreat

/-
  The code's table of locks: Ask, whole, of a table that is right.
-/
namespace Go.Proofs.YtadopbpfnnpnaaaGreat
open Go.RowKit Go.Maps

section
variable {w : World} {t km om : Nat} {B : Tag → Option Nat} {T : Tb}
/-- What ring answers where Ask asks for it. -/
def RingOk (T : Tb) (o : Nat) (k : Key) (R : Bool) : Prop := R = true ↔ T.Leads (T.of o).ks k
def RetAskI (t km om : Nat) (B : Tag → Option Nat) (T : Tb) (o : Nat) (k : Key) (m : Int) (w : World) (e : Ending) (w' : World) : Prop :=
  ∃ R, (T.may o k m = false → RingOk T o k R) ∧ RetAsk t km om B (T.ask o k m R) w e w'
theorem ask_any (h : TbAt w t km om B T) (hI : Inv T) (hol : T.oo.length ≤ 10000) (hkl : T.kk.length ≤ 10000) {o : Nat} (ho : KO.dom o) {k : Key} (hk : KL.dom k) (m : Int) :
    Calls Tryz.prog 12 #[.pointer (some ⟨t, 0, none⟩), .int .u64 (o : Int), kv k, .int .i64 m] w (RetAskI t km om B T o k m w) := by
  have ok := hI.ok (Nat.le_trans hol (by omega))
  have hmx : maxLen = 9223372036854775807 := rfl
  have h1 := hI.lkOf_hs k
  have h2 := hI.lkOf_line k
  have h3 := hI.ks_le o
  have h4 := hI.many
  have h5 : T.oo.length * (T.kk.length + 1) ≤ 10000 * 10001 := Nat.mul_le_mul hol (by omega)
  obtain ⟨R, hR⟩ : ∃ R : Bool, R = true ↔ T.Leads (T.of o).ks k := by
    by_cases e : T.Leads (T.of o).ks k
    · exact ⟨true, by simp [e]⟩
    · exact ⟨false, by simp [e]⟩
  have hring : ∀ m', T.may o k m' = false → ∀ W, Gr w W → Calls Tryz.prog 38 #[.pointer (some ⟨t, 0, none⟩), .int .u64 (o : Int), kv k] W fun e w' => e = .returned (.bool R) ∧ Gr W w' := fun m' hm W g =>
    (ring_any (h.gr g) hI (Nat.le_trans hkl (by omega)) (Nat.le_trans hol (by omega)) ho hk (may_lk hm)).mono fun e w' ⟨R', he, hR', hg⟩ => by
      have : R' = R := by
        cases R' <;> cases R <;> simp_all
      rw [this] at he
      exact ⟨he, hg⟩
  by_cases e1 : m = 1
  · subst e1
    exact (ask_1 h ok ho hk (R := R) (hring 1) (by omega) (by omega) (by omega) (by omega) (by omega) (by omega)).mono fun e w' hr => ⟨R, fun _ => hR, hr⟩
  by_cases e2 : m = 2
  · subst e2
    exact (ask_2 h ok ho hk (R := R) (hring 2) (by omega) (by omega) (by omega) (by omega) (by omega) (by omega)).mono fun e w' hr => ⟨R, fun _ => hR, hr⟩
  exact (ask_bad h (R := R) e1 e2).mono fun e w' hr => ⟨R, fun _ => hR, hr⟩
end
end Go.Proofs.YtadopbpfnnpnaaaGreat

/-
  The code's table of locks: an owner is taken out of a line (slices.IndexFunc, slices.DeleteFunc).
-/
namespace Go.Proofs.YtadopbpfnnpnaaaGreat
open Go.RowKit Go.Maps

/-- A line's cells in a block that is known whole. -/
def LnC (w : World) (lb q : Nat) (ws : List (Nat × Int)) (cs : Array Value) : Prop := Blk w lb TWt cs ∧ q + 2 * ws.length ≤ cs.size ∧ ∀ i u, (wcells ws)[i]? = some u → cs[q + i]? = some u
theorem wcells_at : ∀ (l : List (Nat × Int)) (i : Nat) (hi : i < l.length), (wcells l)[2 * i]? = some (.int .u64 ((l[i].1 : Nat) : Int)) ∧ (wcells l)[2 * i + 1]? = some (.int .i64 l[i].2)
  | [], i, hi => absurd hi (Nat.not_lt_zero _)
  | a :: r, 0, _ => ⟨rfl, rfl⟩
  | a :: r, i + 1, hi => by
    have hc : wcells (a :: r) = .int .u64 (a.1 : Int) :: .int .i64 a.2 :: wcells r := rfl
    have := wcells_at r i (by simpa using hi)
    rw [hc, show 2 * (i + 1) = 2 * i + 1 + 1 by omega]
    simpa using this
/-- What stands in a line's cells says the line. -/
theorem wcells_of {ws : List (Nat × Int)} {cs : Array Value} {q : Nat} (h : ∀ j (hj : j < ws.length), cs[q + 2 * j]? = some (.int .u64 ((ws[j].1 : Nat) : Int)) ∧ cs[q + 2 * j + 1]? = some (.int .i64 ws[j].2)) : ∀ i u, (wcells ws)[i]? = some u → cs[q + i]? = some u := fun i u hi => by
  have hlt := (List.getElem?_eq_some_iff.1 hi).1
  rw [wcells_len] at hlt
  have hj : i / 2 < ws.length := by omega
  obtain ⟨a, b⟩ := wcells_at ws (i / 2) hj
  obtain ⟨c, d⟩ := h (i / 2) hj
  rcases Nat.mod_two_eq_zero_or_one i with e | e
  · have e2 : i = 2 * (i / 2) := by omega
    rw [e2, a] at hi
    cases hi
    exact (congrArg (fun n => cs[q + n]?) e2).trans c
  · have e2 : i = 2 * (i / 2) + 1 := by omega
    rw [e2, b] at hi
    cases hi
    exact (congrArg (fun n => cs[q + n]?) e2).trans (by show cs[q + (2 * (i / 2) + 1)]? = _; rw [← Nat.add_assoc]; exact d)
section
variable {w w' : World} {lb q : Nat} {ws : List (Nat × Int)} {cs : Array Value}
theorem LnC.gr (h : LnC w lb q ws cs) (g : Gr w w') : LnC w' lb q ws cs := ⟨h.1.gr g, h.2⟩
theorem LnC.at (h : LnC w lb q ws cs) (j : Nat) (hj : j < ws.length) : w.cell? ⟨lb, q + j * 2, none⟩ = some (.int .u64 ((ws[j].1 : Nat) : Int)) ∧ w.cell? ⟨lb, q + j * 2 + 1, none⟩ = some (.int .i64 ws[j].2) := by
  obtain ⟨a, b⟩ := wcells_at ws j hj
  rw [h.1.cell, h.1.cell, Nat.mul_comm j 2]
  exact ⟨h.2.2 _ _ a, by rw [Nat.add_assoc]; exact h.2.2 _ _ b⟩
theorem LnC.set (h : LnC w lb q ws cs) (j : Nat) (hj : j < ws.length) (o : Nat) (m : Int) :
    LnC ((w.setCell ⟨lb, q + j * 2, none⟩ (.int .u64 (o : Int))).setCell ⟨lb, q + j * 2 + 1, none⟩ (.int .i64 m)) lb q (ws.set j (o, m)) ((cs.setIfInBounds (q + j * 2) (.int .u64 (o : Int))).setIfInBounds (q + j * 2 + 1) (.int .i64 m)) := by
  refine ⟨(h.1.set _ _).set _ _, by simpa using h.2.1, wcells_of fun i hi => ?_⟩
  rw [List.length_set] at hi
  obtain ⟨a, b⟩ := wcells_at ws i hi
  have ha := h.2.2 _ _ a
  have hb := h.2.2 _ _ b
  have hs := h.2.1
  by_cases e : i = j
  · subst e
    simp only [List.getElem_set_self]
    rw [Nat.mul_comm 2 i]
    constructor
    · rw [Array.getElem?_setIfInBounds_ne (by omega), Array.getElem?_setIfInBounds_self_of_lt (by omega)]
    · rw [Array.getElem?_setIfInBounds_self_of_lt (by simp; omega)]
  · rw [List.getElem_set_ne (by omega)]
    rw [← Nat.add_assoc] at hb
    constructor
    · rw [Array.getElem?_setIfInBounds_ne (by omega), Array.getElem?_setIfInBounds_ne (by omega)]
      exact ha
    · rw [Array.getElem?_setIfInBounds_ne (by omega), Array.getElem?_setIfInBounds_ne (by omega)]
      exact hb
end
def fnGone (ob : Nat) : Value := .func (.func 58) #[] #[.pointer (some ⟨ob, 0, none⟩)]
set_option maxRecDepth 100000 in
theorem gone1_any {W : World} {ob o : Nat} (hb : Blk W ob TOw #[.int .u64 (o : Int)]) (q : Nat) (m : Int) :
    Calls Tryz.prog 58 #[.agg #[.int .u64 (q : Int), .int .i64 m], .pointer (some ⟨ob, 0, none⟩)] W fun e w' => e = .returned (.bool (decide (q = o))) ∧ Gr W w' := by
  have g1 : Gr W (W.alloc (.cells #[.int .u64 (q : Int), .int .i64 m] TWt)) := (Gr.refl W).alloc (Nat.le_refl _) _
  have c0 := (hb.gr g1).cell 0
  simp at c0
  have HG := Lib.hid g1
  clear hb g1
  by_cases e : q = o
  · rw [decide_eq_true e]
    have e1 : ((q : Int) == (o : Int)) = true := by rw [e]; simp
    clear e
    go_enter Tryz.func58, Tryz.ntmps58
    go_wp2_with fail
    go_ret
    exact ⟨rfl, HG.out⟩
  · rw [decide_eq_false e]
    have e1 : ((q : Int) == (o : Int)) = false := by rw [beq_eq_false_iff_ne]; omega
    clear e
    go_enter Tryz.func58, Tryz.ntmps58
    go_wp2_with fail
    go_ret
    exact ⟨rfl, HG.out⟩
set_option maxRecDepth 100000 in
set_option maxHeartbeats 2000000 in
theorem lindex_any {w : World} {lb q N cap ob o : Nat} {a c : List (Nat × Int)} {m : Int} {cs : Array Value} (h : LnC w lb q (a ++ (o, m) :: c) cs) (hN : N = (a ++ (o, m) :: c).length) (hNb : N ≤ 1000000000) (hb : Blk w ob TOw #[.int .u64 (o : Int)]) (ha : ∀ x, x ∈ a → x.1 ≠ o) :
    Calls Tryz.prog 69 #[.slice (some ⟨lb, q, none⟩) N cap, fnGone ob] w fun e w' => e = .returned (.int .i64 (a.length : Int)) ∧ Gr w w' := by
  obtain ⟨I, hI⟩ : ∃ I, I = a.length := ⟨_, rfl⟩
  rw [← hI]
  have HH := Lib.hid (And.intro h (And.intro hN (And.intro hb (And.intro ha hI))))
  have hIN : I < N := by rw [hN, hI]; simp
  have eg : ∀ args w, (callFunc 58 args).run Tryz.prog w = .ok (.enter 58 args) w := enters_of Tryz.func58 (by kernel_rfl) rfl
  unfold fnGone
  clear h hN hb ha hI
  go_enter Tryz.func69, Tryz.ntmps69
  go_wp2_with fail
  go_loopw [8] (fun i wr => ∃ j : Nat, i = .int .i64 (j : Int) ∧ j ≤ I ∧ Hid (Gr w wr)) (fun i _ => N - (intOf i).toNat)
  case atStart => exact ⟨0, rfl, Nat.zero_le _, Lib.hid (Gr.refl w)⟩
  case round =>
    obtain ⟨j, rfl, hj, HG⟩ := hrel
    have hjN : (j : Int) < (N : Int) := by omega
    have HJ := Lib.hid (And.intro hj (And.intro hIN hNb))
    obtain ⟨x2, x3⟩ := (HH.out.1.gr HG.out).at j (by have := HH.out.2.1; omega)
    obtain ⟨Q, hQ⟩ : ∃ Q, Q = (a ++ (o, m) :: c)[j]'(by have := HH.out.2.1; omega) := ⟨_, rfl⟩
    rw [← hQ] at x2 x3
    obtain ⟨Q1, Q2⟩ := Q
    have HC := Lib.hid (gone1_any (HH.out.2.2.1.gr HG.out) Q1 Q2)
    have HQ : Hid ((j = I → Q1 = o) ∧ (j ≠ I → Q1 ≠ o)) := Lib.hid (by
      obtain ⟨-, -, -, ha, hI⟩ := HH.out
      constructor
      · intro e
        have : (a ++ (o, m) :: c)[j]'(by have := HH.out.2.1; omega) = (o, m) := by
          simp [e, hI]
        rw [this] at hQ
        exact (Prod.mk.inj hQ).1
      · intro e
        have hja : j < a.length := by omega
        have : (a ++ (o, m) :: c)[j]'(by have := HH.out.2.1; omega) = a[j] := List.getElem_append_left hja
        rw [this] at hQ
        have := ha a[j] (List.getElem_mem hja)
        rw [← hQ] at this
        exact this)
    have hq1 : IntKind.i64.wrap ((j : Int) + 1) = ((j + 1 : Nat) : Int) := by rw [IntWalk.i64_in _ (by omega)]; omega
    clear hQ hj
    by_cases hjI : j = I
    · have hd : decide (Q1 = o) = true := decide_eq_true (HQ.out.1 hjI)
      rw [hd] at HC
      subst hjI
      clear hd
      go_wp2_with (go_at_fn 58; refine HC.out.mono ?_; rintro e w7 ⟨rfl, g7⟩; have G7 := Lib.hid (Gr.trans HG.out g7); clear g7)
      go_ret
      exact ⟨rfl, G7.out⟩
    · have hd : decide (Q1 = o) = false := decide_eq_false (HQ.out.2 hjI)
      rw [hd] at HC
      have HJI := Lib.hid hjI
      clear hd hjI
      go_wp2_with (go_at_fn 58; refine HC.out.mono ?_; rintro e w7 ⟨rfl, g7⟩; have G7 := Lib.hid (Gr.trans HG.out g7); clear g7)
      go_roundw
      case rel => exact ⟨j + 1, by simp, by have := HJ.out; have := HJI.out; omega, G7⟩
      case measure => simp [intOf] <;> (have := HJ.out; omega)
/-- clear of one cell pair. -/
theorem run_clear_one {w : World} {lb q c : Nat} {cs : Array Value} (hb : Blk w lb TWt cs) (hq : q + 2 ≤ cs.size) (ty : TypeId) :
    (Builtin.clear_ #[TWts] ty #[.slice (some ⟨lb, q, none⟩) 1 c]).run Tryz.prog w = .ok (.tuple #[]) (w.setRow lb (over cs.toList q [.int .u64 0, .int .i64 0]).toArray) := by
  have hst := run_storeCells_at Tryz.prog lb q TWt [.int .u64 0, .int .i64 0] 0 cs w hb (by simp; omega) (fun v hv => by simp at hv; rcases hv with rfl | rfl <;> rfl)
  have hz : (Builtin.zeroCells (Value.agg #[.int .u64 0, .int .i64 0]).cells 1).toList = [.int .u64 0, .int .i64 0] := by kernel_rfl
  simp only [Nat.add_zero] at hst
  have hzv := Tryz.zeroValue61 w
  simp [Builtin.clear_, run_underlying Tryz.underlying54, hzv, hz, hst, over]
end Go.Proofs.YtadopbpfnnpnaaaGreat

