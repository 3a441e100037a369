
/-
  The law RecordMeans, walked.
-/
import Derived.Test.YtfjdlcgojigogaaRecBack
import Derived.Test.YtfjdlcgojigogaaRecOwn
import Derived.Test.YtfjdlcgojigogaaRecRefMay
import Derived.Test.YtfjdlcgojigogaaRecKnown
import Derived.Test.YtfjdlcgojigogaaFlowZ
import Derived.Deep.DeepCutAuto
import Derived.Deep.CutBlock
namespace Go.Proofs.Ytfjdlcgojigogaa
open Go.RowKit Cr

theorem bt5 : BT Try.prog 24 5 := ⟨Try.underlying24, by kernel_rfl⟩

def SlMn (d : Nat) (G : Nat) (O : Nat) (pb : Option Addr) (nb : Nat) (cb : Nat) (slot : Nat) (v : Value) (_ : World) : Prop :=
  match slot with
  | 104 => v = .pointer (some ⟨d, 5, none⟩)
  | 105 => v = .int .i64 O
  | 106 => v = .slice (some ⟨G, O, none⟩) (248 - O) (248 - O)
  | 107 => v = .pointer (some ⟨d, 6, none⟩)
  | 108 => v = .slice pb nb cb
  | _ => True

set_option maxRecDepth 100000 in
set_option maxHeartbeats 16000000 in
theorem recordMeans_walk (c : Rc) (pb : Option Addr) (nb cb : Nat) (pa : Option Addr) (na ca : Nat) (at' : Nat) (pr : Option Addr) (nr cr : Nat) (xs : List Int) (bit : Int) (ps : List Int) (w : World) (hb : Byt w pb nb cb c.b) (ha : Byt w pa na ca c.a) (hi : c.In) (hat : at' ≤ 18446744073709551615) (hr : Byt w pr nr cr xs) (hbit : -9223372036854775808 ≤ bit ∧ bit ≤ 9223372036854775807) (hp : IsSec ps) :
    Calls Try.prog 6 #[.agg #[.int .i64 c.k, .int .u64 c.t, .int .u64 c.p, .int .u64 c.x, .int .i64 c.g, .int .i64 c.o, .slice pb nb cb, .slice pa na ca], .int .u64 at', .slice pr nr cr, .int .i64 bit, .agg (sec (Sx ps))] w (RetB true w) := by
  have HK := Lib.hid known_any
  have HMU := Lib.hid (fun W => refMuch_any c.k c.t c.p c.x c.g c.o pb nb cb pa na ca W)
  have HBN : Hid (mayR c = false → ∀ W, Gr w W → Calls Try.prog 10 #[.agg #[.int .i64 c.k, .int .u64 c.t, .int .u64 c.p, .int .u64 c.x, .int .i64 c.g, .int .i64 c.o, .slice pb nb cb, .slice pa na ca], .int .u64 at'] W (RetBytes 2 [] W)) := Lib.hid fun hm W gr => bytes_no c pb nb cb pa na ca at' W hm (hb.kept gr) (ha.kept gr)
  have HBY : Hid (mayR c = true → ∀ W, Gr w W → Calls Try.prog 10 #[.agg #[.int .i64 c.k, .int .u64 c.t, .int .u64 c.p, .int .u64 c.x, .int .i64 c.g, .int .i64 c.o, .slice pb nb cb, .slice pa na ca], .int .u64 at'] W fun e w' => ∃ v, e = .returned (.tuple #[v, .int .i64 0]) ∧ OwnB w' W.heap.size 5 v (recL c at') ∧ Gr W w') := Lib.hid fun hm W gr => bytes_own c pb nb cb pa na ca at' W hm hi (hb.kept gr) (ha.kept gr) hat
  have HOF : Hid (mayR c = true → ∀ p n cc W, Byt W p n cc (recL c at' ++ xs) → Calls Try.prog 17 #[.slice p n cc, .int .u64 at'] W (RetOf c (recL c at').length (.int .i64 0) W)) := Lib.hid fun hm p n cc W h => by
    have h1 := of_any p n cc _ at' W h hat
    rw [ofR_rec hm hi, ofN_rec hm hi] at h1
    have h2 : ofE (recL c at' ++ xs) at' = 0 := by unfold ofE; rw [ofB_rec hm hi]; rfl
    rw [h2] at h1
    exact h1
  have HTU : Hid (mayR c = true → ∀ B R p n cc W, 2 ≤ B → B < (recL c at').length → R < 8 → Byt W p n cc ((recL c at').set B (Cr.flip ((recL c at').getD B 0) (2 ^ R))) → Calls Try.prog 17 #[.slice p n cc, .int .u64 at'] W (RetOf (ofR (turned1 (recL c at') B (2 ^ R)) at') (ofN (turned1 (recL c at') B (2 ^ R)) at') (.int .i64 4) W)) := Lib.hid fun hm B R p n cc W h1 h2 h3 h => by
    obtain ⟨v0, v1, _⟩ := two_pow R h3
    have h4 := of_any p n cc _ at' W h hat
    have h5 : ofE (turned1 (recL c at') B (2 ^ R)) at' = 4 := by unfold ofE; rw [rec_turned hm hi at' B (2 ^ R) h1 h2 v0 v1]; rfl
    have h6 : (recL c at').set B (Cr.flip ((recL c at').getD B 0) (2 ^ R)) = turned1 (recL c at') B (2 ^ R) := rfl
    rw [h6, h5] at h4
    exact h4
  have HSM : Hid (∀ W p1 n1 c1 p2 n2 c2, Gr w W → Byt W p1 n1 c1 c.b → Byt W p2 n2 c2 c.a → Calls Try.prog 19 #[.agg #[.int .i64 c.k, .int .u64 c.t, .int .u64 c.p, .int .u64 c.x, .int .i64 c.g, .int .i64 c.o, .slice p1 n1 c1, .slice p2 n2 c2], .agg #[.int .i64 c.k, .int .u64 c.t, .int .u64 c.p, .int .u64 c.x, .int .i64 c.g, .int .i64 c.o, .slice pb nb cb, .slice pa na ca]] W (RetB true W)) := Lib.hid fun W p1 n1 c1 p2 n2 c2 gr h1 h2 => by
    have h := refSameRec_any c c p1 n1 c1 p2 n2 c2 pb nb cb pa na ca W h1 h2 (hb.kept gr) (ha.kept gr)
    rw [sameR_self] at h
    exact h
  have HR1 : Hid (mayR c = true → c.k = 1 → ∀ W, Gr w W → Calls Try.prog 22 #[.agg #[.int .i64 c.k, .int .u64 c.t, .int .u64 c.p, .int .u64 c.x, .int .i64 c.g, .int .i64 c.o, .slice pb nb cb, .slice pa na ca], .agg (sec (Sx (lay ps c.o.toNat c.b)))] W (RetRedo (redoL c (lay ps c.o.toNat c.b)) true W)) := Lib.hid fun hm hk W gr => by
    have h := (mayQ_iff.1 hm).2
    have h1 := redo_any c pb nb cb pa na ca (lay ps c.o.toNat c.b) W (hb.kept gr) (ha.kept gr) (lay_sec hp hi.b (by omega)) hi
    rw [(redo_back hm hk at' ps hp).1] at h1
    exact h1
  have HBK : Hid (mayR c = true → c.k = 1 → ∀ W, Gr w W → Calls Try.prog 23 #[.agg #[.int .i64 c.k, .int .u64 c.t, .int .u64 c.p, .int .u64 c.x, .int .i64 c.g, .int .i64 c.o, .slice pb nb cb, .slice pa na ca], .int .u64 at'] W fun e w' => ∃ q m d, e = .returned (.tuple #[.agg #[.int .i64 2, .int .u64 c.t, .int .u64 at', .int .u64 c.p, .int .i64 c.g, .int .i64 c.o, .slice none 0 0, .slice q m d], .int .i64 0]) ∧ Byt w' q m d c.b ∧ Gr W w') := Lib.hid fun hm hk W gr => back_yes c pb nb cb pa na ca at' W hm hk (hb.kept gr) (ha.kept gr)
  have HR2 : Hid (mayR c = true → c.k = 1 → ∀ W q m d, Byt W q m d c.b → Calls Try.prog 22 #[.agg #[.int .i64 2, .int .u64 c.t, .int .u64 at', .int .u64 c.p, .int .i64 c.g, .int .i64 c.o, .slice none 0 0, .slice q m d], .agg (sec (Sx (redoL c (lay ps c.o.toNat c.b))))] W (RetRedo (lay ps c.o.toNat c.b) true W)) := Lib.hid fun hm hk W q m d hy => by
    have h := (mayQ_iff.1 hm).2
    obtain ⟨_, e2, e3⟩ := redo_back hm hk at' ps hp
    have h1 := redo_any (backR c at') none 0 0 q m d (redoL c (lay ps c.o.toNat c.b)) W (Byt.nil W) hy (redoL_sec (lay_sec hp hi.b (by omega)) hi) (backR_in hi at' hat)
    rw [e2, e3] at h1
    exact h1
  have HFI : Hid (mayR c = true → c.k = 1 → 0 ≤ c.o ∧ 1 ≤ c.b.length ∧ c.o + c.b.length ≤ 248) := Lib.hid fun hm hk => by
    have h := (mayQ_iff.1 hm).2
    omega
  have HLE : Hid (mayR c = true → 35 ≤ (recL c at').length ∧ (recL c at').length ≤ 531 ∧ Wd.Small (recL c at')) := Lib.hid fun hm => by
    have f := mayR_fits hm
    have h1 := f.na
    have h2 := f.nb1
    rw [recL_len]
    exact ⟨by omega, by omega, recL_small hi at'⟩
  have HB := Lib.hid ((Blk.new w TR #[.int .i64 c.k, .int .u64 c.t, .int .u64 c.p, .int .u64 c.x, .int .i64 c.g, .int .i64 c.o, .slice pb nb cb, .slice pa na ca]).alloc (.cells (sec (Sx ps)) TS))
  have hp0 := Blk.new (w.alloc (.cells #[.int .i64 c.k, .int .u64 c.t, .int .u64 c.p, .int .u64 c.x, .int .i64 c.g, .int .i64 c.o, .slice pb nb cb, .slice pa na ca] TR)) TS (sec (Sx ps))
  simp only [World.size_alloc] at hp0
  have HP := Lib.hid hp0
  have HG := Lib.hid (((Gr.refl w).alloc (Nat.le_refl _) (.cells #[.int .i64 c.k, .int .u64 c.t, .int .u64 c.p, .int .u64 c.x, .int .i64 c.g, .int .i64 c.o, .slice pb nb cb, .slice pa na ca] TR)).alloc (by simp) (.cells (sec (Sx ps)) TS))
  have HX := Lib.hid hp
  have HRS := Lib.hid hr
  have HCB := Lib.hid hb
  have nr63 : (nr : Int) ≤ 9223372036854775807 := by have h1 := hr.most; have h2 := hr.cap; unfold maxLen at h1; omega
  have lx := Lib.hid hr.len
  obtain ⟨bit0, bit1⟩ := hbit
  clear hb ha hi hat hr hp hp0
  obtain ⟨k, t, p, x, g, o, b, a⟩ := c
  simp only at HMU HBN HBY HOF HTU HSM HR1 HBK HR2 HFI HLE HB HP HG HCB
  obtain ⟨M, hM⟩ : ∃ M, M = mayR ⟨k, t, p, x, g, o, b, a⟩ := ⟨_, rfl⟩
  obtain ⟨L, hL⟩ : ∃ L, L = recL ⟨k, t, p, x, g, o, b, a⟩ at' := ⟨_, rfl⟩
  rw [← hM] at HBN HBY HOF HTU HR1 HBK HR2 HFI HLE
  rw [← hL] at HBY HOF HTU HLE
  clear hM hL
  go_enter Try.func6, Try.ntmps6
  go_wp2_with fail
  refine (HK.out _).mono ?_
  rintro e w1 ⟨rfl, g1⟩
  have HB1 := Lib.hid (HB.out.below g1 HB.out.lt)
  have HP1 := Lib.hid (HP.out.below g1 HP.out.lt)
  have HG1 := Lib.hid (Gr.trans HG.out g1)
  clear g1 HB HP HG HK
  obtain ⟨c0, c1, c2, c3, c4, c5, c6, c7⟩ := HB1.out.c8
  go_wp2_with fail
  refine (HMU.out _).mono ?_
  rintro e w2 ⟨rfl, g2⟩
  have HB2 := Lib.hid (HB1.out.below g2 HB1.out.lt)
  have HP2 := Lib.hid (HP1.out.below g2 HP1.out.lt)
  have HG2 := Lib.hid (Gr.trans HG1.out g2)
  clear g2 HB1 HP1 HG1 HMU c0 c1 c2 c3 c4 c5 c6 c7
  obtain ⟨MU, hMU⟩ : ∃ M, M = muchR nb na := ⟨_, rfl⟩
  rw [← hMU]
  clear hMU
  cases MU
  case true =>
    go_wp2_with fail
    go_ret
    exact ⟨rfl, HG2.out⟩
  case false =>
    by_cases h600 : 600 < nr
    · have h600' : (600 : Int) < nr := by omega
      go_wp2_with fail
      go_ret
      exact ⟨rfl, HG2.out⟩
    · have h600' : ¬ (600 : Int) < nr := by omega
      obtain ⟨c0, c1, c2, c3, c4, c5, c6, c7⟩ := HB2.out.c8
      cases M
      · have HBN1 := Lib.hid (HBN.out rfl _ HG2.out)
        go_wp2_with fail
        refine HBN1.out.mono ?_
        rintro e w3 ⟨q, n, cc, rfl, _, g3, _⟩
        have HG3 := Lib.hid (Gr.trans HG2.out g3)
        clear g3 c0 c1 c2 c3 c4 c5 c6 c7
        go_wp2_with (refine (num_any _ _).mono ?_; rintro e w' ⟨rfl, rfl⟩)
        go_ret
        exact ⟨rfl, HG3.out⟩
      · have HBY1 := Lib.hid (HBY.out rfl _ HG2.out)
        have HOF1 := Lib.hid (HOF.out rfl)
        have HTU1 := Lib.hid (HTU.out rfl)
        have HR11 := Lib.hid (HR1.out rfl)
        have HBK1 := Lib.hid (HBK.out rfl)
        have HR21 := Lib.hid (HR2.out rfl)
        have HFI1 := Lib.hid (HFI.out rfl)
        obtain ⟨l35, l531, hLs⟩ := HLE.out rfl
        have HLS := Lib.hid hLs
        clear HBN HBY HOF HTU HR1 HBK HR2 HFI HLE hLs
        go_wp2_with fail
        refine HBY1.out.mono ?_
        rintro e w3 ⟨v, rfl, ho, g3⟩
        obtain ⟨q, cc, hv⟩ := ho.shape _ rfl
        subst hv
        obtain ⟨bb, rfl, hbb, hbl, hcell⟩ := ho.opened (by omega)
        have HB3 := Lib.hid (HB2.out.below g3 HB2.out.lt)
        have HP3 := Lib.hid (HP2.out.below g3 HP2.out.lt)
        have HG3 := Lib.hid (Gr.trans HG2.out g3)
        have ho3 := ho.base_le (Nat.le_of_lt HP2.out.lt)
        have HBB := Lib.hid (Nat.lt_of_lt_of_le HP2.out.lt hbb)
        have HY3 := Lib.hid ho.byt.1
        obtain ⟨LL, hLL⟩ : ∃ n, n = L.length := ⟨_, rfl⟩
        rw [← hLL] at l35 l531 HY3 ho3 ⊢
        have HO3 := Lib.hid ho3
        have HLL := Lib.hid hLL
        clear ho3 g3 ho hbb hbl hcell HB2 HP2 HG2 HBY1 c0 c1 c2 c3 c4 c5 c6 c7 hLL
        have HN3 := Lib.hid (OwnB.nil w3 w3.heap.size 5)
        go_wp2_with (first | (refine (num_any _ _).mono ?_; rintro e w' ⟨rfl, rfl⟩) | (at_builtin; refine wpList_app_byt bt5 rfl (.const (.slice none 0 0)) (.tmp 44) rfl w3.heap.size _ _ rfl HN3.out _ _ _ _ rfl HY3.out (by simp; omega) (Nat.le_refl _) ?_))
        intro v4 w4 ho4 gr4
        have hb4 : Below w3.heap.size w3 w4 := Below.app (Below.refl _ _) (Nat.le_refl _) (OwnB.nil w3 w3.heap.size 5) gr4
        have HO4 := Lib.hid (ho4.as (List.nil_append L))
        have HB4 := Lib.hid (HB3.out.below hb4 HB3.out.lt)
        have HP4 := Lib.hid (HP3.out.below hb4 HP3.out.lt)
        have HG4 := Lib.hid (Gr.trans HG3.out hb4)
        have HGB4 := Lib.hid hb4
        have HRS4 := Lib.hid (HRS.out.kept HG4.out)
        have hsz4 : w3.heap.size ≤ w4.heap.size := hb4.size
        clear ho4 gr4 hb4 HN3
        go_wp2_with (at_builtin; refine wpList_app_byt bt5 rfl (.tmp 45) (.tmp 46) rfl w3.heap.size _ _ rfl HO4.out _ _ _ _ rfl HRS4.out (by have := HLL.out; omega) hsz4 ?_)
        intro v5 w5 ho5 gr5
        have hb5 : Below w3.heap.size w3 w5 := Below.app HGB4.out hsz4 HO4.out gr5
        obtain ⟨N5, hN5⟩ : ∃ n, n = (L ++ xs).length := ⟨_, rfl⟩
        obtain ⟨q5, d5, hv⟩ := ho5.shape N5 hN5.symm
        subst hv
        clear hN5
        have HB5 := Lib.hid (HB3.out.below hb5 HB3.out.lt)
        have HP5 := Lib.hid (HP3.out.below hb5 HP3.out.lt)
        have HG5 := Lib.hid (Gr.trans HG3.out hb5)
        have HY5 := Lib.hid ho5.byt.1
        have HO5 : Hid (OwnB w5 (w.heap.size + 1) 5 (.slice (some ⟨bb, 0, none⟩) LL cc) L) := Lib.hid (HO3.out.below' hb5)
        clear ho5 gr5 hb5 HO4 HB4 HP4 HG4 HGB4 HRS4 hsz4 HB3 HP3 HG3 HO3 HY3
        go_wp2_with fail
        refine (HOF1.out _ _ _ _ HY5.out).mono ?_
        rintro e w6 ⟨p1, n1, k1, p2, n2, k2, rfl, y1, y2, g6, _⟩
        have g6' := Gr.trans g6 ((Gr.refl w6).alloc (Nat.le_refl _) (.cells #[.int .i64 k, .int .u64 t, .int .u64 p, .int .u64 x, .int .i64 g, .int .i64 o, .slice p1 n1 k1, .slice p2 n2 k2] TR))
        have HB6 := Lib.hid (HB5.out.below g6' HB5.out.lt)
        have HP6 := Lib.hid (HP5.out.below g6' HP5.out.lt)
        have HG6 := Lib.hid (Gr.trans HG5.out g6')
        have HO6 := Lib.hid (HO5.out.below' g6')
        have HY1 := Lib.hid (y1.kept ((Gr.refl w6).alloc (Nat.le_refl _) (.cells #[.int .i64 k, .int .u64 t, .int .u64 p, .int .u64 x, .int .i64 g, .int .i64 o, .slice p1 n1 k1, .slice p2 n2 k2] TR)))
        have HY2 := Lib.hid (y2.kept ((Gr.refl w6).alloc (Nat.le_refl _) (.cells #[.int .i64 k, .int .u64 t, .int .u64 p, .int .u64 x, .int .i64 g, .int .i64 o, .slice p1 n1 k1, .slice p2 n2 k2] TR)))
        have HBX := Lib.hid (Blk.new w6 TR #[.int .i64 k, .int .u64 t, .int .u64 p, .int .u64 x, .int .i64 g, .int .i64 o, .slice p1 n1 k1, .slice p2 n2 k2])
        clear g6 g6' y1 y2 HB5 HP5 HG5 HO5 HY5
        rw [← HLL.out]
        obtain ⟨c0, c1, c2, c3, c4, c5, c6, c7⟩ := HB6.out.c8
        obtain ⟨d0, d1, d2, d3, d4, d5', d6, d7⟩ := HBX.out.c8
        go_wp2_with (refine (num_any _ _).mono ?_; rintro e w' ⟨rfl, rfl⟩)
        refine (HSM.out _ _ _ _ _ _ _ HG6.out HY1.out HY2.out).mono ?_
        rintro e w7 ⟨rfl, g7⟩
        have HB7 := Lib.hid (HB6.out.below g7 HB6.out.lt)
        have HP7 := Lib.hid (HP6.out.below g7 HP6.out.lt)
        have HG7 := Lib.hid (Gr.trans HG6.out g7)
        have HO7 := Lib.hid (HO6.out.below' g7)
        clear g7 HB6 HP6 HG6 HO6 HY1 HY2 HBX c0 c1 c2 c3 c4 c5 c6 c7 d0 d1 d2 d3 d4 d5' d6 d7 HSM HOF1
        by_cases b16 : 16 ≤ bit
        · obtain ⟨B, rfl⟩ := Int.eq_ofNat_of_zero_le (show 0 ≤ bit by omega)
          by_cases b8 : (B : Int) < 8 * (LL : Int)
          · obtain ⟨P, hP⟩ : ∃ P, P = B / 8 := ⟨_, rfl⟩
            obtain ⟨R, hR⟩ : ∃ R, R = B % 8 := ⟨_, rfl⟩
            have hP2 : (B : Int) / 8 = (P : Int) := by omega
            have hR2 : (B : Int) % 8 = (R : Int) := by omega
            have q2 : 2 ≤ P := by omega
            have q3 : P < LL := by omega
            have q4 : R < 8 := by omega
            clear hP hR
            obtain ⟨bb', hbb', _, hbl, hcell⟩ := HO7.out.opened (by omega)
            cases hbb'
            obtain ⟨hc1, hc2⟩ := hcell P (by omega)
            have hxs := Wd.Small.getD HLS.out P
            obtain ⟨x0, hx0⟩ : ∃ y, y = L.getD P 0 := ⟨_, rfl⟩
            rw [← hx0] at hc1 hxs
            obtain ⟨xa, xb⟩ := hxs
            have hsmall := flip_small (x := x0) (v := 2 ^ R) ⟨xa, xb⟩ (two_pow R q4).2.1
            have hO8 := HO7.out.set P (Cr.flip x0 (2 ^ R)) hsmall
            have hy8 := hO8.byt.1
            have hx0' := hx0
            rw [hx0] at hy8
            have HB8 := Lib.hid (HB7.out.far (p := ⟨bb, P, none⟩) (by show w.heap.size ≠ bb; have := HBB.out; omega) (.int .u8 (Cr.flip x0 (2 ^ R))))
            have HP8 := Lib.hid (HP7.out.far (p := ⟨bb, P, none⟩) (by show w.heap.size + 1 ≠ bb; have := HBB.out; omega) (.int .u8 (Cr.flip x0 (2 ^ R))))
            have hbw : w.heap.size ≤ (Addr.mk bb P none).block := by show w.heap.size ≤ bb; have := HBB.out; omega
            have HG8 : Hid (Gr w (w7.setCell ⟨bb, P, none⟩ (.int .u8 (Cr.flip x0 (2 ^ R))))) := Lib.hid (HG7.out.setCell hbw _)
            clear hbw
            rw [← hx0] at hy8
            have HY8 : Hid (Byt (w7.setCell ⟨bb, P, none⟩ (.int .u8 (Cr.flip x0 (2 ^ R)))) (some ⟨bb, 0, none⟩) LL cc (L.set P (Cr.flip (L.getD P 0) (2 ^ R)))) := Lib.hid (by rw [← hx0]; exact hO8.byt.1)
            clear hbl hcell hx0 hx0' hO8 hy8 hsmall HB7 HP7 HG7 HO7
            go_upto_region 13 with fail
            first | rw [bits_flip x0 R xa xb q4] | rw [bits_flip2 x0 R xa xb q4]
            generalize w7.setCell ⟨bb, P, none⟩ (.int .u8 (Cr.flip x0 (2 ^ R))) = W8 at HB8 HP8 HG8 HY8 ⊢
            clear hc1 hc2
            go_wp2_with fail
            refine (HTU1.out P R _ _ _ _ q2 (by rw [← HLL.out]; exact q3) q4 HY8.out).mono ?_
            rintro e w9 ⟨p3, n3, k3, p4, n4, k4, rfl, _, _, g9, _⟩
            obtain ⟨RR, hRR⟩ : ∃ r, r = ofR (turned1 L P (2 ^ R)) at' := ⟨_, rfl⟩
            obtain ⟨NN, hNN⟩ : ∃ r, r = ofN (turned1 L P (2 ^ R)) at' := ⟨_, rfl⟩
            rw [← hRR, ← hNN]
            clear hRR hNN
            have g9' := Gr.trans g9 ((Gr.refl w9).alloc (Nat.le_refl _) (.cells #[.int .i64 RR.k, .int .u64 RR.t, .int .u64 RR.p, .int .u64 RR.x, .int .i64 RR.g, .int .i64 RR.o, .slice p3 n3 k3, .slice p4 n4 k4] TR))
            have HBt := Lib.hid (HB8.out.below g9' HB8.out.lt)
            have HPt := Lib.hid (HP8.out.below g9' HP8.out.lt)
            have HGt := Lib.hid (Gr.trans HG8.out g9')
            clear g9 g9' HB8 HP8 HG8 HY8 HTU1
            go_upto_region 14 with fail
            generalize w9.alloc (.cells #[.int .i64 RR.k, .int .u64 RR.t, .int .u64 RR.p, .int .u64 RR.x, .int .i64 RR.g, .int .i64 RR.o, .slice p3 n3 k3, .slice p4 n4 k4] TR) = WT at HBt HPt HGt ⊢
            go_upto_region 16 with (refine (num_any _ _).mono ?_; rintro e w' ⟨rfl, rfl⟩)
            by_cases hk1 : k = 1
            · subst hk1
              obtain ⟨o0, o1, o2⟩ := HFI1.out rfl
              obtain ⟨O, rfl⟩ := Int.eq_ofNat_of_zero_le o0
              have HR12 := Lib.hid (HR11.out rfl)
              have HBK2 := Lib.hid (HBK1.out rfl)
              have HR22 := Lib.hid (HR21.out rfl)
              simp only [Int.toNat_natCast] at HR12 HR22
              obtain ⟨Q, hQ⟩ : ∃ Q, Q = redoL ⟨1, t, p, x, g, (O : Int), b, a⟩ (lay ps O b) := ⟨_, rfl⟩
              rw [← hQ] at HR12 HR22
              have lb := HCB.out.len
              have n1 : 1 ≤ nb := by omega
              have n2 : O + nb ≤ 248 := by omega
              have l4 : (O : Int) ≤ 248 := by omega
              have l6 : ¬ 248 = O := by omega
              have l5 : (0 : Int) ≤ (O : Int) := by omega
              have HA3 := Lib.hid ((HCB.out.kept HGt.out).heap (w' := WT.drew) rfl)
              have HQ3 := Lib.hid (HPt.out.heap (w' := WT.drew) rfl)
              have HP3 := Lib.hid (HBt.out.heap (w' := WT.drew) rfl)
              obtain ⟨c0, c1, c2, c3, c4, c5, c6, c7⟩ := HBt.out.c8
              clear hQ lb HR11 HBK1 HR21 HFI1 o1 o2
              go_upto_region 18 with fail
              clear c0 c1 c2 c3 c4 c5 c6 c7
              refine Flow.regionZ 5 0 (by kernel_rfl) [] 12 (SlMn w.heap.size (w.heap.size + 1) O pb nb cb) (fun W => W = WT.drew) (fun W => W = WT.drew.setRow (w.heap.size + 1) (sec (Sx (lay ps O b)))) (fun _ => True) (fun _ _ _ => True) (by kernel_rfl) (by kernel_rfl) (by kernel_rfl) (fun _ _ _ _ _ _ h _ => h) rfl True.intro ?steps ?fin
              case steps =>
                refine Flow.StepsZ.cons (fun A W hfr hinv hear hdep K hK => ?_) ?_
                · have s5 : A.tmps.getD 5 undef = .pointer (some ⟨w.heap.size, 0, none⟩) := hfr.at 5 (by kernel_rfl)
                  have t5 : A.tmps[5]?.getD undef = .pointer (some ⟨w.heap.size, 0, none⟩) := by simpa using s5
                  rw [if_pos (Flow.wanted_none rfl)]
                  clear hfr hdep
                  subst hinv
                  go_simp
                  exact hK _ _ True.intro rfl True.intro (fun d hd => by cases hd; trivial)
                refine Flow.StepsZ.cons (fun A W hfr hinv hear hdep K hK => ?_) ?_
                · have s104 : A.tmps.getD 104 undef = .pointer (some ⟨w.heap.size, 5, none⟩) := hdep 104 (by kernel_rfl)
                  have t104 : A.tmps[104]?.getD undef = .pointer (some ⟨w.heap.size, 5, none⟩) := by simpa using s104
                  rw [if_pos (Flow.wanted_none rfl)]
                  clear hfr hdep
                  subst hinv
                  obtain ⟨c0, c1, c2, c3, c4, c5, c6, c7⟩ := HP3.out.c8
                  go_simp
                  exact hK _ _ True.intro rfl (fun h => h) (fun d hd => by cases hd; trivial)
                refine Flow.StepsZ.cons (fun A W hfr hinv hear hdep K hK => ?_) ?_
                · have s9 : A.tmps.getD 9 undef = .pointer (some ⟨w.heap.size + 1, 0, none⟩) := hfr.at 9 (by kernel_rfl)
                  have t9 : A.tmps[9]?.getD undef = .pointer (some ⟨w.heap.size + 1, 0, none⟩) := by simpa using s9
                  have s105 : A.tmps.getD 105 undef = .int .i64 O := hdep 105 (by kernel_rfl)
                  have t105 : A.tmps[105]?.getD undef = .int .i64 O := by simpa using s105
                  rw [if_pos (Flow.wanted_none rfl)]
                  clear hfr hdep
                  subst hinv
                  go_simp
                  exact hK _ _ True.intro rfl (fun h => h) (fun d hd => by cases hd; trivial)
                refine Flow.StepsZ.cons (fun A W hfr hinv hear hdep K hK => ?_) ?_
                · have s5 : A.tmps.getD 5 undef = .pointer (some ⟨w.heap.size, 0, none⟩) := hfr.at 5 (by kernel_rfl)
                  have t5 : A.tmps[5]?.getD undef = .pointer (some ⟨w.heap.size, 0, none⟩) := by simpa using s5
                  rw [if_pos (Flow.wanted_none rfl)]
                  clear hfr hdep
                  subst hinv
                  go_simp
                  exact hK _ _ True.intro rfl (fun h => h) (fun d hd => by cases hd; trivial)
                refine Flow.StepsZ.cons (fun A W hfr hinv hear hdep K hK => ?_) ?_
                · have s107 : A.tmps.getD 107 undef = .pointer (some ⟨w.heap.size, 6, none⟩) := hdep 107 (by kernel_rfl)
                  have t107 : A.tmps[107]?.getD undef = .pointer (some ⟨w.heap.size, 6, none⟩) := by simpa using s107
                  rw [if_pos (Flow.wanted_none rfl)]
                  clear hfr hdep
                  subst hinv
                  obtain ⟨c0, c1, c2, c3, c4, c5, c6, c7⟩ := HP3.out.c8
                  go_simp
                  exact hK _ _ True.intro rfl (fun h => h) (fun d hd => by cases hd; trivial)
                refine Flow.StepsZ.cons (fun A W hfr hinv hear hdep K hK => ?_) ?_
                · have s106 : A.tmps.getD 106 undef = .slice (some ⟨w.heap.size + 1, O, none⟩) (248 - O) (248 - O) := hdep 106 (by kernel_rfl)
                  have t106 : A.tmps[106]?.getD undef = .slice (some ⟨w.heap.size + 1, O, none⟩) (248 - O) (248 - O) := by simpa using s106
                  have s108 : A.tmps.getD 108 undef = .slice pb nb cb := hdep 108 (by kernel_rfl)
                  have t108 : A.tmps[108]?.getD undef = .slice pb nb cb := by simpa using s108
                  rw [if_pos (Flow.wanted_none rfl)]
                  clear hfr hdep
                  subst hinv
                  refine wp_copy_sec (ops := #[]) rfl (.tmp 106) (.tmp 108) rfl (by simpa [Act.eval] using s106) HQ3.out HX.out (by simpa [Act.eval] using s108) HA3.out (by omega) (by omega) (by omega) ?_
                  exact hK _ _ True.intro rfl True.intro (fun d hd => by cases hd; trivial)
                exact True.intro
              case fin =>
                intro A W hfr hfin hsl
                subst hfin
                have e := Flow.frame hfr [104, 105, 106, 107, 108, 109] (List.range 142) (by kernel_rfl) (by kernel_rfl)
                simp [List.range, List.range.loop] at e
                rw [e]
                clear e hfr hsl
                first
                | (rename_i hB; refine hB _ _ ?_)
                | (rename_i hB y0; refine hB _ _ ?_)
                | (rename_i hB y0 y1; refine hB _ _ ?_)
                | (rename_i hB y0 y1 y2; refine hB _ _ ?_)
                | (rename_i hB y0 y1 y2 y3; refine hB _ _ ?_)
                | (rename_i hB y0 y1 y2 y3 y4; refine hB _ _ ?_)
                | (rename_i hB y0 y1 y2 y3 y4 y5; refine hB _ _ ?_)
                | (rename_i hB y0 y1 y2 y3 y4 y5 y6; refine hB _ _ ?_)
                | (rename_i hB y0 y1 y2 y3 y4 y5 y6 y7; refine hB _ _ ?_)
                | (rename_i hB y0 y1 y2 y3 y4 y5 y6 y7 y8; refine hB _ _ ?_)
                have HP6 := Lib.hid (HQ3.out.row (sec (Sx (lay ps O b))))
                have HB6 : Hid (Blk (WT.drew.setRow (w.heap.size + 1) (sec (Sx (lay ps O b)))) w.heap.size TR #[.int .i64 1, .int .u64 t, .int .u64 p, .int .u64 x, .int .i64 g, .int .i64 O, .slice pb nb cb, .slice pa na ca]) := Lib.hid ((setRow_other WT.drew (w.heap.size + 1) w.heap.size (sec (Sx (lay ps O b))) (by omega)).trans HP3.out)
                have HG6 : Hid (Gr w (WT.drew.setRow (w.heap.size + 1) (sec (Sx (lay ps O b))))) := Lib.hid (below_setRow (Below.drew HGt.out) (by omega) _)
                clear HA3 HQ3 HP3 HBt HPt HGt
                generalize WT.drew.setRow (w.heap.size + 1) (sec (Sx (lay ps O b))) = W6 at HP6 HB6 HG6 ⊢
                obtain ⟨c0, c1, c2, c3, c4, c5, c6, c7⟩ := HB6.out.c8
                go_wp2_with (refine wpList_load_x rfl _ rfl HP6.out rfl ?_)
                refine (HR12.out _ HG6.out).mono ?_
                rintro e w8 ⟨rfl, g8⟩
                have HB8 := Lib.hid (HB6.out.below g8 HB6.out.lt)
                have HP8 := Lib.hid (HP6.out.below g8 HP6.out.lt)
                have HG8 := Lib.hid (Gr.trans HG6.out g8)
                have HZ8 := Lib.hid (Blk.new w8 TS (sec Sec.zero))
                have hz := zero_sec
                clear g8 HB6 HP6 HG6 HR12 c0 c1 c2 c3 c4 c5 c6 c7
                go_upto_region 20 with (refine wpList_store_x rfl _ _ rfl HZ8.out rfl rfl ?_; rw [World.setRow_alloc_new])
                have HQ8 := Lib.hid (Blk.new w8 TS (sec (Sx Q)))
                have HB9 := Lib.hid (HB8.out.alloc (.cells (sec (Sx Q)) TS))
                have HP9 := Lib.hid (HP8.out.alloc (.cells (sec (Sx Q)) TS))
                have HG9 := Lib.hid (HG8.out.alloc HG8.out.size (.cells (sec (Sx Q)) TS))
                clear HB8 HP8 HG8 HZ8
                generalize w8.alloc (.cells (sec (Sx Q)) TS) = W9 at HQ8 HB9 HP9 HG9 ⊢
                obtain ⟨c0, c1, c2, c3, c4, c5, c6, c7⟩ := HB9.out.c8
                go_wp2_with fail
                refine (HBK2.out _ HG9.out).mono ?_
                rintro e w10 ⟨qa, ma, da, rfl, hy, g10⟩
                have hgn := (Gr.refl w10).alloc (Nat.le_refl _) (.cells #[.int .i64 2, .int .u64 t, .int .u64 at', .int .u64 p, .int .i64 g, .int .i64 O, .slice none 0 0, .slice qa ma da] TR)
                have HP10 := Lib.hid ((HP9.out.below g10 HP9.out.lt).alloc (.cells #[.int .i64 2, .int .u64 t, .int .u64 at', .int .u64 p, .int .i64 g, .int .i64 O, .slice none 0 0, .slice qa ma da] TR))
                have HQ10 := Lib.hid ((HQ8.out.below g10 HQ8.out.lt).alloc (.cells #[.int .i64 2, .int .u64 t, .int .u64 at', .int .u64 p, .int .i64 g, .int .i64 O, .slice none 0 0, .slice qa ma da] TR))
                have HG10 := Lib.hid (Gr.trans (Gr.trans HG9.out g10) hgn)
                have HY10 := Lib.hid (hy.kept hgn)
                have HX10 := Lib.hid (Blk.new w10 TR #[.int .i64 2, .int .u64 t, .int .u64 at', .int .u64 p, .int .i64 g, .int .i64 O, .slice none 0 0, .slice qa ma da])
                clear g10 hgn hy HB9 HP9 HG9 HQ8 HBK2 c0 c1 c2 c3 c4 c5 c6 c7
                obtain ⟨c0, c1, c2, c3, c4, c5, c6, c7⟩ := HX10.out.c8
                go_wp2_with (refine wpList_load_x rfl _ rfl HQ10.out rfl ?_)
                refine (HR22.out _ _ _ _ HY10.out).mono ?_
                rintro e w12 ⟨rfl, g12⟩
                have HP12 := Lib.hid (HP10.out.below g12 HP10.out.lt)
                have HG12 := Lib.hid (Gr.trans HG10.out g12)
                have HZ12 := Lib.hid (Blk.new w12 TS (sec Sec.zero))
                clear g12 HP10 HQ10 HG10 HY10 HX10 HR22 c0 c1 c2 c3 c4 c5 c6 c7
                go_upto_region 22 with (refine wpList_store_x rfl _ _ rfl HZ12.out rfl rfl ?_; rw [World.setRow_alloc_new])
                have HO13 := Lib.hid (Blk.new w12 TS (sec (Sx (lay ps O b))))
                have HP13 := Lib.hid (HP12.out.alloc (.cells (sec (Sx (lay ps O b))) TS))
                have HG13 := Lib.hid (HG12.out.alloc HG12.out.size (.cells (sec (Sx (lay ps O b))) TS))
                clear HP12 HG12 HZ12
                go_wp2_with (refine (num_any _ _).mono ?_; rintro e w' ⟨rfl, rfl⟩)
                refine wp_load_x (.tmp 23) rfl HO13.out rfl ?_
                go_wp2_with fail
                refine wp_load_x (.tmp 9) rfl HP13.out rfl ?_
                have hq := eqi_sec
                go_wp2_with fail
                go_ret
                exact ⟨rfl, HG13.out⟩
            · obtain ⟨c0, c1, c2, c3, c4, c5, c6, c7⟩ := HBt.out.c8
              go_wp2_with fail
              go_ret
              exact ⟨rfl, HGt.out⟩
          · skip
            have HBt := HB7
            have HPt := HP7
            have HGt := HG7
            clear HB7 HP7 HG7
            by_cases hk1 : k = 1
            · subst hk1
              obtain ⟨o0, o1, o2⟩ := HFI1.out rfl
              obtain ⟨O, rfl⟩ := Int.eq_ofNat_of_zero_le o0
              have HR12 := Lib.hid (HR11.out rfl)
              have HBK2 := Lib.hid (HBK1.out rfl)
              have HR22 := Lib.hid (HR21.out rfl)
              simp only [Int.toNat_natCast] at HR12 HR22
              obtain ⟨Q, hQ⟩ : ∃ Q, Q = redoL ⟨1, t, p, x, g, (O : Int), b, a⟩ (lay ps O b) := ⟨_, rfl⟩
              rw [← hQ] at HR12 HR22
              have lb := HCB.out.len
              have n1 : 1 ≤ nb := by omega
              have n2 : O + nb ≤ 248 := by omega
              have l4 : (O : Int) ≤ 248 := by omega
              have l6 : ¬ 248 = O := by omega
              have l5 : (0 : Int) ≤ (O : Int) := by omega
              have HA3 := Lib.hid ((HCB.out.kept HGt.out).heap (w' := w7.drew) rfl)
              have HQ3 := Lib.hid (HPt.out.heap (w' := w7.drew) rfl)
              have HP3 := Lib.hid (HBt.out.heap (w' := w7.drew) rfl)
              obtain ⟨c0, c1, c2, c3, c4, c5, c6, c7⟩ := HBt.out.c8
              clear hQ lb HR11 HBK1 HR21 HFI1 o1 o2
              go_upto_region 18 with fail
              clear c0 c1 c2 c3 c4 c5 c6 c7
              refine Flow.regionZ 5 0 (by kernel_rfl) [] 12 (SlMn w.heap.size (w.heap.size + 1) O pb nb cb) (fun W => W = w7.drew) (fun W => W = w7.drew.setRow (w.heap.size + 1) (sec (Sx (lay ps O b)))) (fun _ => True) (fun _ _ _ => True) (by kernel_rfl) (by kernel_rfl) (by kernel_rfl) (fun _ _ _ _ _ _ h _ => h) rfl True.intro ?steps ?fin
              case steps =>
                refine Flow.StepsZ.cons (fun A W hfr hinv hear hdep K hK => ?_) ?_
                · have s5 : A.tmps.getD 5 undef = .pointer (some ⟨w.heap.size, 0, none⟩) := hfr.at 5 (by kernel_rfl)
                  have t5 : A.tmps[5]?.getD undef = .pointer (some ⟨w.heap.size, 0, none⟩) := by simpa using s5
                  rw [if_pos (Flow.wanted_none rfl)]
                  clear hfr hdep
                  subst hinv
                  go_simp
                  exact hK _ _ True.intro rfl True.intro (fun d hd => by cases hd; trivial)
                refine Flow.StepsZ.cons (fun A W hfr hinv hear hdep K hK => ?_) ?_
                · have s104 : A.tmps.getD 104 undef = .pointer (some ⟨w.heap.size, 5, none⟩) := hdep 104 (by kernel_rfl)
                  have t104 : A.tmps[104]?.getD undef = .pointer (some ⟨w.heap.size, 5, none⟩) := by simpa using s104
                  rw [if_pos (Flow.wanted_none rfl)]
                  clear hfr hdep
                  subst hinv
                  obtain ⟨c0, c1, c2, c3, c4, c5, c6, c7⟩ := HP3.out.c8
                  go_simp
                  exact hK _ _ True.intro rfl (fun h => h) (fun d hd => by cases hd; trivial)
                refine Flow.StepsZ.cons (fun A W hfr hinv hear hdep K hK => ?_) ?_
                · have s9 : A.tmps.getD 9 undef = .pointer (some ⟨w.heap.size + 1, 0, none⟩) := hfr.at 9 (by kernel_rfl)
                  have t9 : A.tmps[9]?.getD undef = .pointer (some ⟨w.heap.size + 1, 0, none⟩) := by simpa using s9
                  have s105 : A.tmps.getD 105 undef = .int .i64 O := hdep 105 (by kernel_rfl)
                  have t105 : A.tmps[105]?.getD undef = .int .i64 O := by simpa using s105
                  rw [if_pos (Flow.wanted_none rfl)]
                  clear hfr hdep
                  subst hinv
                  go_simp
                  exact hK _ _ True.intro rfl (fun h => h) (fun d hd => by cases hd; trivial)
                refine Flow.StepsZ.cons (fun A W hfr hinv hear hdep K hK => ?_) ?_
                · have s5 : A.tmps.getD 5 undef = .pointer (some ⟨w.heap.size, 0, none⟩) := hfr.at 5 (by kernel_rfl)
                  have t5 : A.tmps[5]?.getD undef = .pointer (some ⟨w.heap.size, 0, none⟩) := by simpa using s5
                  rw [if_pos (Flow.wanted_none rfl)]
                  clear hfr hdep
                  subst hinv
                  go_simp
                  exact hK _ _ True.intro rfl (fun h => h) (fun d hd => by cases hd; trivial)
                refine Flow.StepsZ.cons (fun A W hfr hinv hear hdep K hK => ?_) ?_
                · have s107 : A.tmps.getD 107 undef = .pointer (some ⟨w.heap.size, 6, none⟩) := hdep 107 (by kernel_rfl)
                  have t107 : A.tmps[107]?.getD undef = .pointer (some ⟨w.heap.size, 6, none⟩) := by simpa using s107
                  rw [if_pos (Flow.wanted_none rfl)]
                  clear hfr hdep
                  subst hinv
                  obtain ⟨c0, c1, c2, c3, c4, c5, c6, c7⟩ := HP3.out.c8
                  go_simp
                  exact hK _ _ True.intro rfl (fun h => h) (fun d hd => by cases hd; trivial)
                refine Flow.StepsZ.cons (fun A W hfr hinv hear hdep K hK => ?_) ?_
                · have s106 : A.tmps.getD 106 undef = .slice (some ⟨w.heap.size + 1, O, none⟩) (248 - O) (248 - O) := hdep 106 (by kernel_rfl)
                  have t106 : A.tmps[106]?.getD undef = .slice (some ⟨w.heap.size + 1, O, none⟩) (248 - O) (248 - O) := by simpa using s106
                  have s108 : A.tmps.getD 108 undef = .slice pb nb cb := hdep 108 (by kernel_rfl)
                  have t108 : A.tmps[108]?.getD undef = .slice pb nb cb := by simpa using s108
                  rw [if_pos (Flow.wanted_none rfl)]
                  clear hfr hdep
                  subst hinv
                  refine wp_copy_sec (ops := #[]) rfl (.tmp 106) (.tmp 108) rfl (by simpa [Act.eval] using s106) HQ3.out HX.out (by simpa [Act.eval] using s108) HA3.out (by omega) (by omega) (by omega) ?_
                  exact hK _ _ True.intro rfl True.intro (fun d hd => by cases hd; trivial)
                exact True.intro
              case fin =>
                intro A W hfr hfin hsl
                subst hfin
                have e := Flow.frame hfr [104, 105, 106, 107, 108, 109] (List.range 142) (by kernel_rfl) (by kernel_rfl)
                simp [List.range, List.range.loop] at e
                rw [e]
                clear e hfr hsl
                first
                | (rename_i hB; refine hB _ _ ?_)
                | (rename_i hB y0; refine hB _ _ ?_)
                | (rename_i hB y0 y1; refine hB _ _ ?_)
                | (rename_i hB y0 y1 y2; refine hB _ _ ?_)
                | (rename_i hB y0 y1 y2 y3; refine hB _ _ ?_)
                | (rename_i hB y0 y1 y2 y3 y4; refine hB _ _ ?_)
                | (rename_i hB y0 y1 y2 y3 y4 y5; refine hB _ _ ?_)
                | (rename_i hB y0 y1 y2 y3 y4 y5 y6; refine hB _ _ ?_)
                | (rename_i hB y0 y1 y2 y3 y4 y5 y6 y7; refine hB _ _ ?_)
                | (rename_i hB y0 y1 y2 y3 y4 y5 y6 y7 y8; refine hB _ _ ?_)
                have HP6 := Lib.hid (HQ3.out.row (sec (Sx (lay ps O b))))
                have HB6 : Hid (Blk (w7.drew.setRow (w.heap.size + 1) (sec (Sx (lay ps O b)))) w.heap.size TR #[.int .i64 1, .int .u64 t, .int .u64 p, .int .u64 x, .int .i64 g, .int .i64 O, .slice pb nb cb, .slice pa na ca]) := Lib.hid ((setRow_other w7.drew (w.heap.size + 1) w.heap.size (sec (Sx (lay ps O b))) (by omega)).trans HP3.out)
                have HG6 : Hid (Gr w (w7.drew.setRow (w.heap.size + 1) (sec (Sx (lay ps O b))))) := Lib.hid (below_setRow (Below.drew HGt.out) (by omega) _)
                clear HA3 HQ3 HP3 HBt HPt HGt
                generalize w7.drew.setRow (w.heap.size + 1) (sec (Sx (lay ps O b))) = W6 at HP6 HB6 HG6 ⊢
                obtain ⟨c0, c1, c2, c3, c4, c5, c6, c7⟩ := HB6.out.c8
                go_wp2_with (refine wpList_load_x rfl _ rfl HP6.out rfl ?_)
                refine (HR12.out _ HG6.out).mono ?_
                rintro e w8 ⟨rfl, g8⟩
                have HB8 := Lib.hid (HB6.out.below g8 HB6.out.lt)
                have HP8 := Lib.hid (HP6.out.below g8 HP6.out.lt)
                have HG8 := Lib.hid (Gr.trans HG6.out g8)
                have HZ8 := Lib.hid (Blk.new w8 TS (sec Sec.zero))
                have hz := zero_sec
                clear g8 HB6 HP6 HG6 HR12 c0 c1 c2 c3 c4 c5 c6 c7
                go_upto_region 20 with (refine wpList_store_x rfl _ _ rfl HZ8.out rfl rfl ?_; rw [World.setRow_alloc_new])
                have HQ8 := Lib.hid (Blk.new w8 TS (sec (Sx Q)))
                have HB9 := Lib.hid (HB8.out.alloc (.cells (sec (Sx Q)) TS))
                have HP9 := Lib.hid (HP8.out.alloc (.cells (sec (Sx Q)) TS))
                have HG9 := Lib.hid (HG8.out.alloc HG8.out.size (.cells (sec (Sx Q)) TS))
                clear HB8 HP8 HG8 HZ8
                generalize w8.alloc (.cells (sec (Sx Q)) TS) = W9 at HQ8 HB9 HP9 HG9 ⊢
                obtain ⟨c0, c1, c2, c3, c4, c5, c6, c7⟩ := HB9.out.c8
                go_wp2_with fail
                refine (HBK2.out _ HG9.out).mono ?_
                rintro e w10 ⟨qa, ma, da, rfl, hy, g10⟩
                have hgn := (Gr.refl w10).alloc (Nat.le_refl _) (.cells #[.int .i64 2, .int .u64 t, .int .u64 at', .int .u64 p, .int .i64 g, .int .i64 O, .slice none 0 0, .slice qa ma da] TR)
                have HP10 := Lib.hid ((HP9.out.below g10 HP9.out.lt).alloc (.cells #[.int .i64 2, .int .u64 t, .int .u64 at', .int .u64 p, .int .i64 g, .int .i64 O, .slice none 0 0, .slice qa ma da] TR))
                have HQ10 := Lib.hid ((HQ8.out.below g10 HQ8.out.lt).alloc (.cells #[.int .i64 2, .int .u64 t, .int .u64 at', .int .u64 p, .int .i64 g, .int .i64 O, .slice none 0 0, .slice qa ma da] TR))
                have HG10 := Lib.hid (Gr.trans (Gr.trans HG9.out g10) hgn)
                have HY10 := Lib.hid (hy.kept hgn)
                have HX10 := Lib.hid (Blk.new w10 TR #[.int .i64 2, .int .u64 t, .int .u64 at', .int .u64 p, .int .i64 g, .int .i64 O, .slice none 0 0, .slice qa ma da])
                clear g10 hgn hy HB9 HP9 HG9 HQ8 HBK2 c0 c1 c2 c3 c4 c5 c6 c7
                obtain ⟨c0, c1, c2, c3, c4, c5, c6, c7⟩ := HX10.out.c8
                go_wp2_with (refine wpList_load_x rfl _ rfl HQ10.out rfl ?_)
                refine (HR22.out _ _ _ _ HY10.out).mono ?_
                rintro e w12 ⟨rfl, g12⟩
                have HP12 := Lib.hid (HP10.out.below g12 HP10.out.lt)
                have HG12 := Lib.hid (Gr.trans HG10.out g12)
                have HZ12 := Lib.hid (Blk.new w12 TS (sec Sec.zero))
                clear g12 HP10 HQ10 HG10 HY10 HX10 HR22 c0 c1 c2 c3 c4 c5 c6 c7
                go_upto_region 22 with (refine wpList_store_x rfl _ _ rfl HZ12.out rfl rfl ?_; rw [World.setRow_alloc_new])
                have HO13 := Lib.hid (Blk.new w12 TS (sec (Sx (lay ps O b))))
                have HP13 := Lib.hid (HP12.out.alloc (.cells (sec (Sx (lay ps O b))) TS))
                have HG13 := Lib.hid (HG12.out.alloc HG12.out.size (.cells (sec (Sx (lay ps O b))) TS))
                clear HP12 HG12 HZ12
                go_wp2_with (refine (num_any _ _).mono ?_; rintro e w' ⟨rfl, rfl⟩)
                refine wp_load_x (.tmp 23) rfl HO13.out rfl ?_
                go_wp2_with fail
                refine wp_load_x (.tmp 9) rfl HP13.out rfl ?_
                have hq := eqi_sec
                go_wp2_with fail
                go_ret
                exact ⟨rfl, HG13.out⟩
            · obtain ⟨c0, c1, c2, c3, c4, c5, c6, c7⟩ := HBt.out.c8
              go_wp2_with fail
              go_ret
              exact ⟨rfl, HGt.out⟩
        · skip
          have HBt := HB7
          have HPt := HP7
          have HGt := HG7
          clear HB7 HP7 HG7
          by_cases hk1 : k = 1
          · subst hk1
            obtain ⟨o0, o1, o2⟩ := HFI1.out rfl
            obtain ⟨O, rfl⟩ := Int.eq_ofNat_of_zero_le o0
            have HR12 := Lib.hid (HR11.out rfl)
            have HBK2 := Lib.hid (HBK1.out rfl)
            have HR22 := Lib.hid (HR21.out rfl)
            simp only [Int.toNat_natCast] at HR12 HR22
            obtain ⟨Q, hQ⟩ : ∃ Q, Q = redoL ⟨1, t, p, x, g, (O : Int), b, a⟩ (lay ps O b) := ⟨_, rfl⟩
            rw [← hQ] at HR12 HR22
            have lb := HCB.out.len
            have n1 : 1 ≤ nb := by omega
            have n2 : O + nb ≤ 248 := by omega
            have l4 : (O : Int) ≤ 248 := by omega
            have l6 : ¬ 248 = O := by omega
            have l5 : (0 : Int) ≤ (O : Int) := by omega
            have HA3 := Lib.hid ((HCB.out.kept HGt.out).heap (w' := w7.drew) rfl)
            have HQ3 := Lib.hid (HPt.out.heap (w' := w7.drew) rfl)
            have HP3 := Lib.hid (HBt.out.heap (w' := w7.drew) rfl)
            obtain ⟨c0, c1, c2, c3, c4, c5, c6, c7⟩ := HBt.out.c8
            clear hQ lb HR11 HBK1 HR21 HFI1 o1 o2
            go_upto_region 18 with fail
            clear c0 c1 c2 c3 c4 c5 c6 c7
            refine Flow.regionZ 5 0 (by kernel_rfl) [] 12 (SlMn w.heap.size (w.heap.size + 1) O pb nb cb) (fun W => W = w7.drew) (fun W => W = w7.drew.setRow (w.heap.size + 1) (sec (Sx (lay ps O b)))) (fun _ => True) (fun _ _ _ => True) (by kernel_rfl) (by kernel_rfl) (by kernel_rfl) (fun _ _ _ _ _ _ h _ => h) rfl True.intro ?steps ?fin
            case steps =>
              refine Flow.StepsZ.cons (fun A W hfr hinv hear hdep K hK => ?_) ?_
              · have s5 : A.tmps.getD 5 undef = .pointer (some ⟨w.heap.size, 0, none⟩) := hfr.at 5 (by kernel_rfl)
                have t5 : A.tmps[5]?.getD undef = .pointer (some ⟨w.heap.size, 0, none⟩) := by simpa using s5
                rw [if_pos (Flow.wanted_none rfl)]
                clear hfr hdep
                subst hinv
                go_simp
                exact hK _ _ True.intro rfl True.intro (fun d hd => by cases hd; trivial)
              refine Flow.StepsZ.cons (fun A W hfr hinv hear hdep K hK => ?_) ?_
              · have s104 : A.tmps.getD 104 undef = .pointer (some ⟨w.heap.size, 5, none⟩) := hdep 104 (by kernel_rfl)
                have t104 : A.tmps[104]?.getD undef = .pointer (some ⟨w.heap.size, 5, none⟩) := by simpa using s104
                rw [if_pos (Flow.wanted_none rfl)]
                clear hfr hdep
                subst hinv
                obtain ⟨c0, c1, c2, c3, c4, c5, c6, c7⟩ := HP3.out.c8
                go_simp
                exact hK _ _ True.intro rfl (fun h => h) (fun d hd => by cases hd; trivial)
              refine Flow.StepsZ.cons (fun A W hfr hinv hear hdep K hK => ?_) ?_
              · have s9 : A.tmps.getD 9 undef = .pointer (some ⟨w.heap.size + 1, 0, none⟩) := hfr.at 9 (by kernel_rfl)
                have t9 : A.tmps[9]?.getD undef = .pointer (some ⟨w.heap.size + 1, 0, none⟩) := by simpa using s9
                have s105 : A.tmps.getD 105 undef = .int .i64 O := hdep 105 (by kernel_rfl)
                have t105 : A.tmps[105]?.getD undef = .int .i64 O := by simpa using s105
                rw [if_pos (Flow.wanted_none rfl)]
                clear hfr hdep
                subst hinv
                go_simp
                exact hK _ _ True.intro rfl (fun h => h) (fun d hd => by cases hd; trivial)
              refine Flow.StepsZ.cons (fun A W hfr hinv hear hdep K hK => ?_) ?_
              · have s5 : A.tmps.getD 5 undef = .pointer (some ⟨w.heap.size, 0, none⟩) := hfr.at 5 (by kernel_rfl)
                have t5 : A.tmps[5]?.getD undef = .pointer (some ⟨w.heap.size, 0, none⟩) := by simpa using s5
                rw [if_pos (Flow.wanted_none rfl)]
                clear hfr hdep
                subst hinv
                go_simp
                exact hK _ _ True.intro rfl (fun h => h) (fun d hd => by cases hd; trivial)
              refine Flow.StepsZ.cons (fun A W hfr hinv hear hdep K hK => ?_) ?_
              · have s107 : A.tmps.getD 107 undef = .pointer (some ⟨w.heap.size, 6, none⟩) := hdep 107 (by kernel_rfl)
                have t107 : A.tmps[107]?.getD undef = .pointer (some ⟨w.heap.size, 6, none⟩) := by simpa using s107
                rw [if_pos (Flow.wanted_none rfl)]
                clear hfr hdep
                subst hinv
                obtain ⟨c0, c1, c2, c3, c4, c5, c6, c7⟩ := HP3.out.c8
                go_simp
                exact hK _ _ True.intro rfl (fun h => h) (fun d hd => by cases hd; trivial)
              refine Flow.StepsZ.cons (fun A W hfr hinv hear hdep K hK => ?_) ?_
              · have s106 : A.tmps.getD 106 undef = .slice (some ⟨w.heap.size + 1, O, none⟩) (248 - O) (248 - O) := hdep 106 (by kernel_rfl)
                have t106 : A.tmps[106]?.getD undef = .slice (some ⟨w.heap.size + 1, O, none⟩) (248 - O) (248 - O) := by simpa using s106
                have s108 : A.tmps.getD 108 undef = .slice pb nb cb := hdep 108 (by kernel_rfl)
                have t108 : A.tmps[108]?.getD undef = .slice pb nb cb := by simpa using s108
                rw [if_pos (Flow.wanted_none rfl)]
                clear hfr hdep
                subst hinv
                refine wp_copy_sec (ops := #[]) rfl (.tmp 106) (.tmp 108) rfl (by simpa [Act.eval] using s106) HQ3.out HX.out (by simpa [Act.eval] using s108) HA3.out (by omega) (by omega) (by omega) ?_
                exact hK _ _ True.intro rfl True.intro (fun d hd => by cases hd; trivial)
              exact True.intro
            case fin =>
              intro A W hfr hfin hsl
              subst hfin
              have e := Flow.frame hfr [104, 105, 106, 107, 108, 109] (List.range 142) (by kernel_rfl) (by kernel_rfl)
              simp [List.range, List.range.loop] at e
              rw [e]
              clear e hfr hsl
              first
              | (rename_i hB; refine hB _ _ ?_)
              | (rename_i hB y0; refine hB _ _ ?_)
              | (rename_i hB y0 y1; refine hB _ _ ?_)
              | (rename_i hB y0 y1 y2; refine hB _ _ ?_)
              | (rename_i hB y0 y1 y2 y3; refine hB _ _ ?_)
              | (rename_i hB y0 y1 y2 y3 y4; refine hB _ _ ?_)
              | (rename_i hB y0 y1 y2 y3 y4 y5; refine hB _ _ ?_)
              | (rename_i hB y0 y1 y2 y3 y4 y5 y6; refine hB _ _ ?_)
              | (rename_i hB y0 y1 y2 y3 y4 y5 y6 y7; refine hB _ _ ?_)
              | (rename_i hB y0 y1 y2 y3 y4 y5 y6 y7 y8; refine hB _ _ ?_)
              have HP6 := Lib.hid (HQ3.out.row (sec (Sx (lay ps O b))))
              have HB6 : Hid (Blk (w7.drew.setRow (w.heap.size + 1) (sec (Sx (lay ps O b)))) w.heap.size TR #[.int .i64 1, .int .u64 t, .int .u64 p, .int .u64 x, .int .i64 g, .int .i64 O, .slice pb nb cb, .slice pa na ca]) := Lib.hid ((setRow_other w7.drew (w.heap.size + 1) w.heap.size (sec (Sx (lay ps O b))) (by omega)).trans HP3.out)
              have HG6 : Hid (Gr w (w7.drew.setRow (w.heap.size + 1) (sec (Sx (lay ps O b))))) := Lib.hid (below_setRow (Below.drew HGt.out) (by omega) _)
              clear HA3 HQ3 HP3 HBt HPt HGt
              generalize w7.drew.setRow (w.heap.size + 1) (sec (Sx (lay ps O b))) = W6 at HP6 HB6 HG6 ⊢
              obtain ⟨c0, c1, c2, c3, c4, c5, c6, c7⟩ := HB6.out.c8
              go_wp2_with (refine wpList_load_x rfl _ rfl HP6.out rfl ?_)
              refine (HR12.out _ HG6.out).mono ?_
              rintro e w8 ⟨rfl, g8⟩
              have HB8 := Lib.hid (HB6.out.below g8 HB6.out.lt)
              have HP8 := Lib.hid (HP6.out.below g8 HP6.out.lt)
              have HG8 := Lib.hid (Gr.trans HG6.out g8)
              have HZ8 := Lib.hid (Blk.new w8 TS (sec Sec.zero))
              have hz := zero_sec
              clear g8 HB6 HP6 HG6 HR12 c0 c1 c2 c3 c4 c5 c6 c7
              go_upto_region 20 with (refine wpList_store_x rfl _ _ rfl HZ8.out rfl rfl ?_; rw [World.setRow_alloc_new])
              have HQ8 := Lib.hid (Blk.new w8 TS (sec (Sx Q)))
              have HB9 := Lib.hid (HB8.out.alloc (.cells (sec (Sx Q)) TS))
              have HP9 := Lib.hid (HP8.out.alloc (.cells (sec (Sx Q)) TS))
              have HG9 := Lib.hid (HG8.out.alloc HG8.out.size (.cells (sec (Sx Q)) TS))
              clear HB8 HP8 HG8 HZ8
              generalize w8.alloc (.cells (sec (Sx Q)) TS) = W9 at HQ8 HB9 HP9 HG9 ⊢
              obtain ⟨c0, c1, c2, c3, c4, c5, c6, c7⟩ := HB9.out.c8
              go_wp2_with fail
              refine (HBK2.out _ HG9.out).mono ?_
              rintro e w10 ⟨qa, ma, da, rfl, hy, g10⟩
              have hgn := (Gr.refl w10).alloc (Nat.le_refl _) (.cells #[.int .i64 2, .int .u64 t, .int .u64 at', .int .u64 p, .int .i64 g, .int .i64 O, .slice none 0 0, .slice qa ma da] TR)
              have HP10 := Lib.hid ((HP9.out.below g10 HP9.out.lt).alloc (.cells #[.int .i64 2, .int .u64 t, .int .u64 at', .int .u64 p, .int .i64 g, .int .i64 O, .slice none 0 0, .slice qa ma da] TR))
              have HQ10 := Lib.hid ((HQ8.out.below g10 HQ8.out.lt).alloc (.cells #[.int .i64 2, .int .u64 t, .int .u64 at', .int .u64 p, .int .i64 g, .int .i64 O, .slice none 0 0, .slice qa ma da] TR))
              have HG10 := Lib.hid (Gr.trans (Gr.trans HG9.out g10) hgn)
              have HY10 := Lib.hid (hy.kept hgn)
              have HX10 := Lib.hid (Blk.new w10 TR #[.int .i64 2, .int .u64 t, .int .u64 at', .int .u64 p, .int .i64 g, .int .i64 O, .slice none 0 0, .slice qa ma da])
              clear g10 hgn hy HB9 HP9 HG9 HQ8 HBK2 c0 c1 c2 c3 c4 c5 c6 c7
              obtain ⟨c0, c1, c2, c3, c4, c5, c6, c7⟩ := HX10.out.c8
              go_wp2_with (refine wpList_load_x rfl _ rfl HQ10.out rfl ?_)
              refine (HR22.out _ _ _ _ HY10.out).mono ?_
              rintro e w12 ⟨rfl, g12⟩
              have HP12 := Lib.hid (HP10.out.below g12 HP10.out.lt)
              have HG12 := Lib.hid (Gr.trans HG10.out g12)
              have HZ12 := Lib.hid (Blk.new w12 TS (sec Sec.zero))
              clear g12 HP10 HQ10 HG10 HY10 HX10 HR22 c0 c1 c2 c3 c4 c5 c6 c7
              go_upto_region 22 with (refine wpList_store_x rfl _ _ rfl HZ12.out rfl rfl ?_; rw [World.setRow_alloc_new])
              have HO13 := Lib.hid (Blk.new w12 TS (sec (Sx (lay ps O b))))
              have HP13 := Lib.hid (HP12.out.alloc (.cells (sec (Sx (lay ps O b))) TS))
              have HG13 := Lib.hid (HG12.out.alloc HG12.out.size (.cells (sec (Sx (lay ps O b))) TS))
              clear HP12 HG12 HZ12
              go_wp2_with (refine (num_any _ _).mono ?_; rintro e w' ⟨rfl, rfl⟩)
              refine wp_load_x (.tmp 23) rfl HO13.out rfl ?_
              go_wp2_with fail
              refine wp_load_x (.tmp 9) rfl HP13.out rfl ?_
              have hq := eqi_sec
              go_wp2_with fail
              go_ret
              exact ⟨rfl, HG13.out⟩
          · obtain ⟨c0, c1, c2, c3, c4, c5, c6, c7⟩ := HBt.out.c8
            go_wp2_with fail
            go_ret
            exact ⟨rfl, HGt.out⟩

end Go.Proofs.Ytfjdlcgojigogaa
