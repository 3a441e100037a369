/-
  Part 14 of what the laws of stage 6 rest on: contracts of the functions that they call, and what these rest on.
-/
import Derived.Deep.DeepCutAuto
import Derived.Deep.CutBlock
import Derived.Test.YtlijbgapkmfnaaaGreatV2
import Derived.Test.YtlijbgapkmfnaaaGreatV3
import Derived.Test.YtlijbgapkmfnaaaGreatV4
import Derived.Test.YtlijbgapkmfnaaaGreatV8
import Derived.Test.YtlijbgapkmfnaaaGreatV13
import Derived.Test.YtlijbgapkmfnaaaGreatV1
set_option linter.unusedVariables false
set_option linter.unusedSimpArgs false
namespace Go.Proofs.YtlijbgapkmfnaaaGreat
open Go.RowKit Cr
def RetRef (c : Rc) (n : Nat) (er : Value) (K : World → Prop) (w : World) (e : Ending) (w' : World) : Prop :=
 ∃ pb nb cb pa na ca, e = .returned (.tuple #[.agg #[.int .i64 c.k, .int .u64 c.t, .int .u64 c.p, .int .u64 c.x, .int .i64 c.g, .int .i64 c.o, .slice pb nb cb, .slice pa na ca], .int .i64 n, er]) ∧ Byt w' pb nb cb c.b ∧ Byt w' pa na ca c.a ∧ Gr w w' ∧ ∀ U, K U → Byt U pb nb cb c.b ∧ Byt U pa na ca c.a
def InR (W1 : World) (C : Array Value) (l : Nat → Bool) (W : World) : Prop := cond (l 23) (Blk W W1.heap.size TR C ∧ Gr W1 W) (cond (l 22) (W = W1.drew.alloc (.cells #[.int .i64 0, .int .u64 0, .int .u64 0, .int .u64 0, .int .i64 0, .int .i64 0, .slice none 0 0, .slice none 0 0] TR)) (W = W1.drew))
theorem InR.at0 {W1 W : World} {C : Array Value} {l : Nat → Bool} (h : InR W1 C l W) (h22 : l 22 = false) (h23 : l 23 = false) : W = W1.drew := by unfold InR at h; rw [h23, h22] at h; exact h
theorem InR.eq1 {W1 W : World} {C : Array Value} {l : Nat → Bool} (h : InR W1 C l W) (h22 : l 22 = true) (h23 : l 23 = false) : W = W1.drew.alloc (.cells #[.int .i64 0, .int .u64 0, .int .u64 0, .int .u64 0, .int .i64 0, .int .i64 0, .slice none 0 0, .slice none 0 0] TR) := by unfold InR at h; rw [h23, h22] at h; exact h
theorem InR.at1 {W1 W : World} {C : Array Value} {l : Nat → Bool} (h : InR W1 C l W) (h22 : l 22 = true) (h23 : l 23 = false) : Blk W W1.heap.size TR #[.int .i64 0, .int .u64 0, .int .u64 0, .int .u64 0, .int .i64 0, .int .i64 0, .slice none 0 0, .slice none 0 0] := by
 rw [h.eq1 h22 h23]; exact Blk.new W1.drew TR _
theorem InR.ahead {W1 W : World} {C : Array Value} {l : Nat → Bool} (h : InR W1 C l W) (h23 : l 23 = false) : Gr W1 W := by
 cases h22 : l 22
 · rw [h.at0 h22 h23]; exact (Gr.refl W1).drew
 · rw [h.eq1 h22 h23]; exact (Gr.refl W1).drew.alloc (Nat.le_refl _) _
theorem InR.keep {W1 W : World} {C : Array Value} {l : Nat → Bool} (h : InR W1 C l W) (i : Nat) (h1 : 22 ≠ i) (h2 : 23 ≠ i) : InR W1 C (Flow.upd l i) W := by
 unfold InR
 rw [Flow.upd_other l h1, Flow.upd_other l h2]; exact h
theorem InR.s22 {W1 : World} {C : Array Value} {l : Nat → Bool} (h23 : l 23 = false) : InR W1 C (Flow.upd l 22) (W1.drew.alloc (.cells #[.int .i64 0, .int .u64 0, .int .u64 0, .int .u64 0, .int .i64 0, .int .i64 0, .slice none 0 0, .slice none 0 0] TR)) := by
 unfold InR
 rw [Flow.upd_other l (by decide : 23 ≠ 22), h23, Flow.upd_same]
 rfl
theorem InR.s23 {W1 W : World} {C : Array Value} {l : Nat → Bool} (hb : Blk W W1.heap.size TR C) (hg : Gr W1 W) : InR W1 C (Flow.upd l 23) W := by
 unfold InR
 rw [Flow.upd_same]; exact ⟨hb, hg⟩
theorem InR.fin {W1 W : World} {C : Array Value} {l : Nat → Bool} (h : InR W1 C l W) (h23 : l 23 = true) : Blk W W1.heap.size TR C ∧ Gr W1 W := by unfold InR at h; rw [h23] at h; exact h
theorem at_there {xs : List Int} (f s : Nat) (h : f + s ≤ xs.length) (h1 : 1 ≤ s) (h8 : s ≤ 8) : Wd.dec ((xs.drop f).take s) = atR xs f s := by
 unfold atR sub
 rw [standsB_iff.2 ⟨by omega, by omega, by omega, by omega⟩]
 rfl
theorem at_byte {xs : List Int} (f : Nat) (h : f + 1 ≤ xs.length) (hx : Wd.Small xs) : xs.getD f 0 = ((atR xs f 1 : Nat) : Int) := by
 have h1 : atR xs (f : Int) (1 : Int) = Wd.dec ((xs.drop f).take 1) := (at_there f 1 h (by omega) (by omega)).symm
 have h2 : (xs.drop f).take 1 = [xs.getD f 0] := by
  rw [List.drop_eq_getElem_cons (by omega)]
  have hf : f < xs.length := by omega
  simp only [List.take_succ_cons, List.take_zero, List.getD, List.getElem?_eq_getElem hf, Option.getD_some]
 rw [h1, h2]; have h3 := hx.getD f
 simp only [Wd.dec]
 omega
theorem Byt.any0 (w : World) (q : Addr) (cc : Nat) (h : cc ≤ maxLen) : Byt w (some q) 0 cc [] := ⟨rfl, Nat.zero_le _, h, Lib.BytesIn.nil _ _ _, fun h => (by cases h), fun _ h => by cases h⟩
theorem byt_at {w : World} {B O n c : Nat} {xs : List Int} (h : Byt w (some ⟨B, O, none⟩) n c xs) (f s : Nat) (hs : 6 + f + s ≤ n) (hc : s ≤ c - 6 - f) : Byt w (if c - 6 = f then some ⟨B, O + 6, none⟩ else some ⟨B, O + 6 + f, none⟩) s (c - 6 - f) ((xs.drop (6 + f)).take s) := by
 have hm := h.most
 rcases Nat.eq_zero_or_pos s with rfl | h0
 ·
  rw [List.take_zero]
  split
  · exact Byt.any0 _ _ _ (by omega)
  · exact Byt.any0 _ _ _ (by omega)
 ·
  rw [if_neg (by omega)]; have h1 := h.sub (by omega) (6 + f) s (c - 6 - f) (by omega) hc (by omega)
  rw [← Nat.add_assoc] at h1
  exact h1
def SlRo (B : Nat) (O : Nat) (sz : Nat) (c : Nat) (r : Nat) (v1 : Nat) (v2 : Nat) (v3 : Nat) (v4 : Nat) (v5 : Nat) (v6 : Nat) (slot : Nat) (v : Value) (_ : World) : Prop :=
 match slot with
 | 9 => v = .pointer (some ⟨r, 0, none⟩)
 | 34 => v = .slice (some ⟨B, O + 6, none⟩) sz (c - 6)
 | 35 => v = .pointer (some ⟨B, O + 6, none⟩)
 | 36 => v = .int .u8 v1
 | 37 => v = .int .i64 v1
 | 38 => v = .slice (some ⟨B, O + 6, none⟩) sz (c - 6)
 | 39 => v = .slice (some ⟨B, O + 6 + 1, none⟩) 8 (c - 6 - 1)
 | 40 => v = .int .u64 v2
 | 41 => v = .slice (some ⟨B, O + 6, none⟩) sz (c - 6)
 | 42 => v = .slice (some ⟨B, O + 6 + 9, none⟩) 8 (c - 6 - 9)
 | 43 => v = .int .u64 v3
 | 44 => v = .slice (some ⟨B, O + 6, none⟩) sz (c - 6)
 | 45 => v = .slice (some ⟨B, O + 6 + 17, none⟩) 8 (c - 6 - 17)
 | 46 => v = .int .u64 v4
 | 47 => v = .slice (some ⟨B, O + 6, none⟩) sz (c - 6)
 | 48 => v = .slice (some ⟨B, O + 6 + 25, none⟩) 2 (c - 6 - 25)
 | 49 => v = .int .u64 v5
 | 50 => v = .int .i64 v5
 | 51 => v = .slice (some ⟨B, O + 6, none⟩) sz (c - 6)
 | 52 => v = .pointer (some ⟨B, O + 6 + 27, none⟩)
 | 53 => v = .int .u8 v6
 | 54 => v = .int .i64 v6
 | 55 => v = .agg #[.int .i64 v1, .int .u64 v2, .int .u64 v3, .int .u64 v4, .int .i64 v5, .int .i64 v6, .slice none 0 0, .slice none 0 0]
 | _ => True
def SlRq1 (v1 : Nat) (v2 : Nat) (v3 : Nat) (v4 : Nat) (v5 : Nat) (v6 : Nat) (v7 : Nat) (qb : Option Addr) (m : Nat) (cb : Nat) (qa : Option Addr) (ca : Nat) (_ : Nat) (_ : Nat) (_ : Nat) (_ : Nat) (_ : Nat) (_ : Nat) (_ : ByteArray) (_ : ByteArray) (_ : List Int) (slot : Nat) (v : Value) (_ : World) : Prop :=
 match slot with
 | 77 => v = .agg #[.int .i64 v1, .int .u64 v2, .int .u64 v3, .int .u64 v4, .int .i64 v5, .int .i64 v6, .slice qb m cb, .slice qa v7 ca]
 | 78 => v = .bool false
 | 79 => v = .bool true
 | 80 => v = .bool true
 | 91 => v = .bool true
 | _ => True
theorem slRq1_gr {v1 v2 v3 v4 v5 v6 v7 : Nat} {qb : Option Addr} {m cb : Nat} {qa : Option Addr} {ca at' B O n c sz : Nat} {ST SU : ByteArray} {L : List Int} {s : Nat} {v : Value} {w w' : World} (h : SlRq1 v1 v2 v3 v4 v5 v6 v7 qb m cb qa ca at' B O n c sz ST SU L s v w) (_ : Gr w w') : SlRq1 v1 v2 v3 v4 v5 v6 v7 qb m cb qa ca at' B O n c sz ST SU L s v w' := by
 unfold SlRq1 at *
 split <;> simp_all
def SlRq2 (v1 : Nat) (v2 : Nat) (v3 : Nat) (v4 : Nat) (v5 : Nat) (v6 : Nat) (v7 : Nat) (qb : Option Addr) (m : Nat) (cb : Nat) (qa : Option Addr) (ca : Nat) (at' : Nat) (B : Nat) (O : Nat) (n : Nat) (c : Nat) (sz : Nat) (ST : ByteArray) (SU : ByteArray) (L : List Int) (slot : Nat) (v : Value) (w : World) : Prop :=
 match slot with
 | 77 => v = .agg #[.int .i64 v1, .int .u64 v2, .int .u64 v3, .int .u64 v4, .int .i64 v5, .int .i64 v6, .slice qb m cb, .slice qa v7 ca]
 | 78 => v = .bool true
 | 79 => v = .bool false
 | 80 => v = .bool false
 | 81 => v = .agg #[.int .i64 v1, .int .u64 v2, .int .u64 v3, .int .u64 v4, .int .i64 v5, .int .i64 v6, .slice qb m cb, .slice qa v7 ca]
 | 82 => v = .int .u64 at'
 | 84 => v = .string ST
 | 85 => v = .slice (some ⟨B, O, none⟩) n c
 | 86 => v = .int .i64 sz
 | 87 => v = .int .i64 (6 + (sz : Int))
 | 88 => v = .slice (some ⟨B, O, none⟩) (6 + sz) c
 | 89 => v = .string SU
 | 90 => v = .bool true
 | 91 => v = .bool true
 | 83 => IsB w v L
 | _ => True
theorem slRq2_gr {v1 v2 v3 v4 v5 v6 v7 : Nat} {qb : Option Addr} {m cb : Nat} {qa : Option Addr} {ca at' B O n c sz : Nat} {ST SU : ByteArray} {L : List Int} {s : Nat} {v : Value} {w w' : World} (h : SlRq2 v1 v2 v3 v4 v5 v6 v7 qb m cb qa ca at' B O n c sz ST SU L s v w) (gr : Gr w w') : SlRq2 v1 v2 v3 v4 v5 v6 v7 qb m cb qa ca at' B O n c sz ST SU L s v w' := by
 unfold SlRq2 at *
 split <;> simp_all
 exact IsB.kept (by assumption) gr
def SlRq3 (v1 : Nat) (v2 : Nat) (v3 : Nat) (v4 : Nat) (v5 : Nat) (v6 : Nat) (v7 : Nat) (qb : Option Addr) (m : Nat) (cb : Nat) (qa : Option Addr) (ca : Nat) (at' : Nat) (B : Nat) (O : Nat) (n : Nat) (c : Nat) (sz : Nat) (ST : ByteArray) (SU : ByteArray) (L : List Int) (slot : Nat) (v : Value) (w : World) : Prop :=
 match slot with
 | 77 => v = .agg #[.int .i64 v1, .int .u64 v2, .int .u64 v3, .int .u64 v4, .int .i64 v5, .int .i64 v6, .slice qb m cb, .slice qa v7 ca]
 | 78 => v = .bool true
 | 79 => v = .bool false
 | 80 => v = .bool false
 | 81 => v = .agg #[.int .i64 v1, .int .u64 v2, .int .u64 v3, .int .u64 v4, .int .i64 v5, .int .i64 v6, .slice qb m cb, .slice qa v7 ca]
 | 82 => v = .int .u64 at'
 | 84 => v = .string ST
 | 85 => v = .slice (some ⟨B, O, none⟩) n c
 | 86 => v = .int .i64 sz
 | 87 => v = .int .i64 (6 + (sz : Int))
 | 88 => v = .slice (some ⟨B, O, none⟩) (6 + sz) c
 | 89 => v = .string SU
 | 90 => v = .bool false
 | 91 => v = .bool false
 | 83 => IsB w v L
 | _ => True
theorem slRq3_gr {v1 v2 v3 v4 v5 v6 v7 : Nat} {qb : Option Addr} {m cb : Nat} {qa : Option Addr} {ca at' B O n c sz : Nat} {ST SU : ByteArray} {L : List Int} {s : Nat} {v : Value} {w w' : World} (h : SlRq3 v1 v2 v3 v4 v5 v6 v7 qb m cb qa ca at' B O n c sz ST SU L s v w) (gr : Gr w w') : SlRq3 v1 v2 v3 v4 v5 v6 v7 qb m cb qa ca at' B O n c sz ST SU L s v w' := by
 unfold SlRq3 at *
 split <;> simp_all
 exact IsB.kept (by assumption) gr
set_option maxRecDepth 100000 in
set_option maxHeartbeats 4000000 in
theorem refOf_any (p : Option Addr) (n c : Nat) (xs : List Int) (at' : Nat) (w : World) (hb : Byt w p n c xs) (hat : at' ≤ 18446744073709551615) : Calls Tryz.prog 75 #[.slice p n c, .int .u64 at'] w (RetRef (ofR xs at') (ofN xs at') (.bool (ofB xs at')) (fun U => Byt U p n c xs) w) := by
 have HZ := Lib.hid (zeros_rec w); have HG := Lib.hid ((Gr.refl w).alloc (Nat.le_refl _) (.cells #[.int .i64 0, .int .u64 0, .int .u64 0, .int .u64 0, .int .i64 0, .int .i64 0, .slice none 0 0, .slice none 0 0] TR)); have HBY := Lib.hid (hb.kept HG.out); have HSM := Lib.hid hb.small; have HB0 := Lib.hid hb
 have HNO : Hid (ofB xs at' = false → ∀ e w', RetRef Rc.nil 0 (.bool false) (fun U => Byt U p n c xs) w e w' → RetRef (ofR xs at') (ofN xs at') (.bool (ofB xs at')) (fun U => Byt U p n c xs) w e w') := Lib.hid fun h e w' k => by
  have e1 : ofR xs at' = Rc.nil := by unfold ofR; rw [h]; rfl
  have e2 : ofN xs at' = 0 := by unfold ofN; rw [h]; rfl
  rw [e1, e2, h]; exact k
 have lx := hb.len; have hcap := hb.cap
 have c63 : c ≤ 9223372036854775807 := by have h1 := hb.most; unfold maxLen at h1; omega
 have HLX := Lib.hid lx; obtain ⟨z0, z1, z2, z3, z4, z5, z6, z7⟩ := HZ.out.c8; obtain ⟨f0, f1, f2, f3, f4, f5, f6, f7⟩ := HZ.out.f8
 by_cases h35 : n < 35
 ·
  have h35' : (n : Int) < 35 := by omega
  have HF : Hid (ofB xs at' = false) := Lib.hid (by
   cases h : ofB xs at'
   · rfl
   · have := (ref_of h).1; omega)
  clear hb lx
  go_enter Tryz.func75, Tryz.ntmps75
  go_upto_region 1 with fail
  generalize w.alloc (.cells #[.int .i64 0, .int .u64 0, .int .u64 0, .int .u64 0, .int .i64 0, .int .i64 0, .slice none 0 0, .slice none 0 0] TR) = W1 at HZ HG HBY z0 z1 z2 z3 z4 z5 z6 z7 f0 f1 f2 f3 f4 f5 f6 f7 ⊢
  go_wp2_with fail; exact bodyPost_ret (results_rec3 rfl _ _ w.heap.size #[.int .i64 0, .int .u64 0, .int .u64 0, .int .u64 0, .int .i64 0, .int .i64 0, .slice none 0 0, .slice none 0 0] _ _ rfl rfl rfl rfl ((((((((HZ.out.set 0 _).set 1 _).set 2 _).set 3 _).set 4 _).set 5 _).set 6 _).set 7 _)) rfl (HNO.out HF.out _ _ ⟨none, 0, 0, none, 0, 0, rfl, Byt.nil _, Byt.nil _, below_set8 HG.out (Nat.le_refl _), fun U _ => ⟨Byt.nil U, Byt.nil U⟩⟩)
 ·
  obtain ⟨B, O, rfl, _⟩ := hb.at (by omega)
  have h35' : ¬ (n : Int) < 35 := by omega
  have H2 := Lib.hid (HBY.out.pre 2 c (by omega) (by omega) (Nat.le_refl _)); have hs2 : Wd.dec (xs.take 2) = szR xs := rfl
  have hsz : szR xs < 65536 := by
   have h1 := Wd.dec_lt _ (HSM.out.take 2)
   have h2 : (xs.take 2).length = 2 := by simp; omega
   rw [h2] at h1
   exact h1
  obtain ⟨sz, hsze⟩ : ∃ s, s = szR xs := ⟨_, rfl⟩
  rw [← hsze] at hs2 hsz
  have HSZ := Lib.hid hsze; have HS2 := Lib.hid hs2; clear hsze hs2 hb lx
  go_enter Tryz.func75, Tryz.ntmps75
  go_upto_region 1 with fail
  generalize w.alloc (.cells #[.int .i64 0, .int .u64 0, .int .u64 0, .int .u64 0, .int .i64 0, .int .i64 0, .slice none 0 0, .slice none 0 0] TR) = W1 at HZ HG HBY z0 z1 z2 z3 z4 z5 z6 z7 f0 f1 f2 f3 f4 f5 f6 f7 H2 ⊢
  go_wp2_with fail; refine (refGet_any _ _ _ _ _ H2.out (by omega)).mono ?_; rintro e w' ⟨rfl, rfl⟩; rw [HS2.out]
  by_cases h29 : sz < 29
  ·
   have h29' : (sz : Int) < 29 := by omega
   have HF : Hid (ofB xs at' = false) := Lib.hid (by
    cases h : ofB xs at'
    · rfl
    · have := (ref_of h).2.1; have := HSZ.out; omega)
   go_wp2_with fail; exact bodyPost_ret (results_rec3 rfl _ _ w.heap.size #[.int .i64 0, .int .u64 0, .int .u64 0, .int .u64 0, .int .i64 0, .int .i64 0, .slice none 0 0, .slice none 0 0] _ _ rfl rfl rfl rfl ((((((((HZ.out.set 0 _).set 1 _).set 2 _).set 3 _).set 4 _).set 5 _).set 6 _).set 7 _)) rfl (HNO.out HF.out _ _ ⟨none, 0, 0, none, 0, 0, rfl, Byt.nil _, Byt.nil _, below_set8 HG.out (Nat.le_refl _), fun U _ => ⟨Byt.nil U, Byt.nil U⟩⟩)
  ·
   have h29' : ¬ (sz : Int) < 29 := by omega
   by_cases h6 : n < sz + 6
   ·
    have h6' : (n : Int) - 6 < (sz : Int) := by omega
    have HF : Hid (ofB xs at' = false) := Lib.hid (by
     cases h : ofB xs at'
     · rfl
     · have := (ref_of h).2.2.1; have := HSZ.out; have := HLX.out; omega)
    go_wp2_with fail; exact bodyPost_ret (results_rec3 rfl _ _ w.heap.size #[.int .i64 0, .int .u64 0, .int .u64 0, .int .u64 0, .int .i64 0, .int .i64 0, .slice none 0 0, .slice none 0 0] _ _ rfl rfl rfl rfl ((((((((HZ.out.set 0 _).set 1 _).set 2 _).set 3 _).set 4 _).set 5 _).set 6 _).set 7 _)) rfl (HNO.out HF.out _ _ ⟨none, 0, 0, none, 0, 0, rfl, Byt.nil _, Byt.nil _, below_set8 HG.out (Nat.le_refl _), fun U _ => ⟨Byt.nil U, Byt.nil U⟩⟩)
   ·
    have h6' : ¬ (n : Int) - 6 < (sz : Int) := by omega
    have q1 : sz + 6 ≤ c := by omega
    have q2 : (6 : Int) + (sz : Int) ≤ (c : Int) := by omega
    have q3 : ¬ c = 6 := by omega
    have e6 : 6 + sz - 6 = sz := by omega
    go_upto_region 7 with fail
    rw [e6]; clear e6; have hxl := HLX.out
    have HGET : Hid (∀ W, Gr W1 W → ∀ f s m : Nat, f + s + 6 ≤ n → s ≤ m → m ≤ c → Byt W (some ⟨B, O + 6 + f, none⟩) s m ((xs.drop (6 + f)).take s)) := Lib.hid fun W gr f s m h1 h2 h3 => by
     have h := (HBY.out.kept gr).sub (by omega) (6 + f) s m (by omega) h2 (by have := HBY.out.most; omega)
     rw [← Nat.add_assoc] at h
     exact h
    have HB1 : Hid (∀ W, Gr W1 W → ∀ f : Nat, f + 1 ≤ n → W.cell? ⟨B, O + f, none⟩ = some (.int .u8 ((atR xs f 1 : Nat) : Int))) := Lib.hid fun W gr f h => by
     obtain ⟨b', o', e, hc⟩ := (HBY.out.kept gr).at (by omega)
     cases e
     rw [hc f (by omega), at_byte f (by omega) HSM.out]
    have hv2 : Wd.dec ((xs.drop (6 + 1)).take 8) = atR xs 7 8 := at_there 7 8 (by omega) (by omega) (by omega); have hv3 : Wd.dec ((xs.drop (6 + 9)).take 8) = atR xs 15 8 := at_there 15 8 (by omega) (by omega) (by omega); have hv4 : Wd.dec ((xs.drop (6 + 17)).take 8) = atR xs 23 8 := at_there 23 8 (by omega) (by omega) (by omega); have hv5 : Wd.dec ((xs.drop (6 + 25)).take 2) = atR xs 31 2 := at_there 31 2 (by omega) (by omega) (by omega); have b1 : atR xs 6 1 < 256 := atR_lt xs HSM.out 6 1 (by omega); have b5 : atR xs 31 2 < 65536 := atR_lt xs HSM.out 31 2 (by omega); have b6 : atR xs 33 1 < 256 := atR_lt xs HSM.out 33 1 (by omega); have b7 : atR xs 34 1 < 256 := atR_lt xs HSM.out 34 1 (by omega)
    have HC1a := fun W gr => HB1.out W gr 6 (by omega)
    have HC6a := fun W gr => HB1.out W gr 33 (by omega)
    have HC7a := fun W gr => HB1.out W gr 34 (by omega)
    have HC2 : Hid (∀ m, cand2 xs m = ⟨(atR xs 6 1 : Nat), atR xs 7 8, atR xs 15 8, atR xs 23 8, (atR xs 31 2 : Nat), (atR xs 33 1 : Nat), (xs.drop 35).take m, (xs.drop (35 + m)).take (atR xs 34 1)⟩) := Lib.hid fun _ => rfl
    have HV7 : Hid (ofB xs at' = true → atR xs 34 1 + 29 ≤ szR xs) := Lib.hid fun h => (ref_of h).2.2.2.1
    rw [show (((6 : Nat) : Int)) = 6 from rfl] at HC1a
    obtain ⟨v1, e1⟩ : ∃ v, v = atR xs 6 1 := ⟨_, rfl⟩; obtain ⟨v2, e2⟩ : ∃ v, v = atR xs 7 8 := ⟨_, rfl⟩; obtain ⟨v3, e3⟩ : ∃ v, v = atR xs 15 8 := ⟨_, rfl⟩; obtain ⟨v4, e4⟩ : ∃ v, v = atR xs 23 8 := ⟨_, rfl⟩; obtain ⟨v5, e5⟩ : ∃ v, v = atR xs 31 2 := ⟨_, rfl⟩; obtain ⟨v6, e6⟩ : ∃ v, v = atR xs 33 1 := ⟨_, rfl⟩; obtain ⟨v7, e7⟩ : ∃ v, v = atR xs 34 1 := ⟨_, rfl⟩; have HC1 : Hid (∀ W, Gr W1 W → W.cell? ⟨B, O + 6, none⟩ = some (.int .u8 (v1 : Int))) := Lib.hid (by rw [e1]; exact HC1a); have HC6 : Hid (∀ W, Gr W1 W → W.cell? ⟨B, O + 6 + 27, none⟩ = some (.int .u8 (v6 : Int))) := Lib.hid (by rw [e6]; exact HC6a); have HC7 : Hid (∀ W, Gr W1 W → W.cell? ⟨B, O + 6 + 28, none⟩ = some (.int .u8 (v7 : Int))) := Lib.hid (by rw [e7]; exact HC7a)
    rw [← e2] at hv2
    rw [← e3] at hv3
    rw [← e4] at hv4
    rw [← e5] at hv5 b5
    rw [← e1] at b1
    rw [← e6] at b6
    rw [← e7] at b7 HV7
    rw [← e1, ← e2, ← e3, ← e4, ← e5, ← e6, ← e7] at HC2
    have HE7 := Lib.hid e7.symm; have HV2 := Lib.hid hv2; have HV3 := Lib.hid hv3; have HV4 := Lib.hid hv4; have HV5 := Lib.hid hv5; have QS : Hid ((0 < sz ∧ 27 < sz ∧ 28 < sz) ∧ (9 ≤ c - 6 ∧ 17 ≤ c - 6 ∧ 25 ≤ c - 6 ∧ 27 ≤ c - 6) ∧ (¬ c - 6 = 1 ∧ ¬ c - 6 = 9 ∧ ¬ c - 6 = 17 ∧ ¬ c - 6 = 25) ∧ ((27 : Int) < (sz : Int) ∧ (28 : Int) < (sz : Int))) := Lib.hid (by omega); have QI : Hid ((9 : Int) ≤ ((c - 6 : Nat) : Int) ∧ (17 : Int) ≤ ((c - 6 : Nat) : Int) ∧ (25 : Int) ≤ ((c - 6 : Nat) : Int) ∧ (27 : Int) ≤ ((c - 6 : Nat) : Int)) := Lib.hid (by omega); have QW : Hid (IntKind.i64.wrap (v1 : Int) = v1 ∧ IntKind.i64.wrap (v5 : Int) = v5 ∧ IntKind.i64.wrap (v6 : Int) = v6 ∧ IntKind.i64.wrap (v7 : Int) = v7) := Lib.hid (by simp only [IntKind.wrap_i64]; omega); clear HC1a HC6a HC7a HB1 hv2 hv3 hv4 hv5 e1 e2 e3 e4 e5 e6 e7 hxl; clear z0 z1 z2 z3 z4 z5 z6 z7 f0 f1 f2 f3 f4 f5 f6 f7; refine Flow.regionS [9] 20 (SlRo B O sz c W1.heap.size v1 v2 v3 v4 v5 v6) (InR W1 #[.int .i64 v1, .int .u64 v2, .int .u64 v3, .int .u64 v4, .int .i64 v5, .int .i64 v6, .slice none 0 0, .slice none 0 0]) (fun _ _ _ => True) (by kernel_rfl) (by kernel_rfl) (fun _ _ _ _ _ _ h _ => h) (show W1.drew = W1.drew from rfl) ?steps ?fin
    case steps =>
     refine .cons (fun l a W hfr hun hup hdn hinv hdep K hK => ?_) ?_
     · have t8 := tAt (.slice (some ⟨B, O + 6, none⟩) sz (c - 6)) (hfr.at 8 (by kernel_rfl)); refine fW0 rfl ?_; clear hfr hdep; have h23 := hup 23 (by decide) (by kernel_rfl); have hg := hinv.ahead h23; go_simp; exact hK _ _ True.intro (hinv.keep 0 (by decide) (by decide)) (dsT (by trivial))
     refine .cons (fun l a W hfr hun hup hdn hinv hdep K hK => ?_) ?_
     · have t34 := tAt (.slice (some ⟨B, O + 6, none⟩) sz (c - 6)) (hdep 34 (by kernel_rfl)); refine fW0 rfl ?_; clear hfr hdep; have h23 := hup 23 (by decide) (by kernel_rfl); have hg := hinv.ahead h23; obtain ⟨⟨qa1, qa2, qa3⟩, ⟨qb1, qb2, qb3, qb4⟩, ⟨qc1, qc2, qc3, qc4⟩, qd1, qd2⟩ := QS.out; obtain ⟨qi1, qi2, qi3, qi4⟩ := QI.out; go_simp; exact hK _ _ True.intro (hinv.keep 1 (by decide) (by decide)) (dsT (by trivial))
     refine .cons (fun l a W hfr hun hup hdn hinv hdep K hK => ?_) ?_
     · have t35 := tAt (.pointer (some ⟨B, O + 6, none⟩)) (hdep 35 (by kernel_rfl)); refine fW0 rfl ?_; clear hfr hdep; have h23 := hup 23 (by decide) (by kernel_rfl); have hg := hinv.ahead h23; have hc := HC1.out W hg; go_simp; exact hK _ _ True.intro (hinv.keep 2 (by decide) (by decide)) (dsT (by trivial))
     refine .cons (fun l a W hfr hun hup hdn hinv hdep K hK => ?_) ?_
     · have t36 := tAt (.int .u8 v1) (hdep 36 (by kernel_rfl)); refine fW0 rfl ?_; clear hfr hdep; have h23 := hup 23 (by decide) (by kernel_rfl); have hg := hinv.ahead h23; obtain ⟨qw1, qw2, qw3, qw4⟩ := QW.out; go_simp; exact hK _ _ True.intro (hinv.keep 3 (by decide) (by decide)) (dsT (by trivial))
     refine .cons (fun l a W hfr hun hup hdn hinv hdep K hK => ?_) ?_
     · have t8 := tAt (.slice (some ⟨B, O + 6, none⟩) sz (c - 6)) (hfr.at 8 (by kernel_rfl)); refine fW0 rfl ?_; clear hfr hdep; have h23 := hup 23 (by decide) (by kernel_rfl); have hg := hinv.ahead h23; go_simp; exact hK _ _ True.intro (hinv.keep 4 (by decide) (by decide)) (dsT (by trivial))
     refine .cons (fun l a W hfr hun hup hdn hinv hdep K hK => ?_) ?_
     · have t38 := tAt (.slice (some ⟨B, O + 6, none⟩) sz (c - 6)) (hdep 38 (by kernel_rfl)); refine fW0 rfl ?_; clear hfr hdep; have h23 := hup 23 (by decide) (by kernel_rfl); have hg := hinv.ahead h23; obtain ⟨⟨qa1, qa2, qa3⟩, ⟨qb1, qb2, qb3, qb4⟩, ⟨qc1, qc2, qc3, qc4⟩, qd1, qd2⟩ := QS.out; obtain ⟨qi1, qi2, qi3, qi4⟩ := QI.out; go_simp; exact hK _ _ True.intro (hinv.keep 5 (by decide) (by decide)) (dsT (by trivial))
     refine .cons (fun l a W hfr hun hup hdn hinv hdep K hK => ?_) ?_
     · have t39 := tAt (.slice (some ⟨B, O + 6 + 1, none⟩) 8 (c - 6 - 1)) (hdep 39 (by kernel_rfl)); refine fW0 rfl ?_; clear hfr hdep; have h23 := hup 23 (by decide) (by kernel_rfl); have hg := hinv.ahead h23; go_simp; refine (refGet_any _ _ _ _ W (HGET.out W hg 1 8 (c - 6 - 1) (by omega) (by omega) (by omega)) (by omega)).mono ?_; rintro e W2 ⟨rfl, rfl⟩; rw [HV2.out]; exact hK _ _ True.intro (hinv.keep 6 (by decide) (by decide)) (dsT (by trivial))
     refine .cons (fun l a W hfr hun hup hdn hinv hdep K hK => ?_) ?_
     · have t8 := tAt (.slice (some ⟨B, O + 6, none⟩) sz (c - 6)) (hfr.at 8 (by kernel_rfl)); refine fW0 rfl ?_; clear hfr hdep; have h23 := hup 23 (by decide) (by kernel_rfl); have hg := hinv.ahead h23; go_simp; exact hK _ _ True.intro (hinv.keep 7 (by decide) (by decide)) (dsT (by trivial))
     refine .cons (fun l a W hfr hun hup hdn hinv hdep K hK => ?_) ?_
     · have t41 := tAt (.slice (some ⟨B, O + 6, none⟩) sz (c - 6)) (hdep 41 (by kernel_rfl)); refine fW0 rfl ?_; clear hfr hdep; have h23 := hup 23 (by decide) (by kernel_rfl); have hg := hinv.ahead h23; obtain ⟨⟨qa1, qa2, qa3⟩, ⟨qb1, qb2, qb3, qb4⟩, ⟨qc1, qc2, qc3, qc4⟩, qd1, qd2⟩ := QS.out; obtain ⟨qi1, qi2, qi3, qi4⟩ := QI.out; go_simp; exact hK _ _ True.intro (hinv.keep 8 (by decide) (by decide)) (dsT (by trivial))
     refine .cons (fun l a W hfr hun hup hdn hinv hdep K hK => ?_) ?_
     · have t42 := tAt (.slice (some ⟨B, O + 6 + 9, none⟩) 8 (c - 6 - 9)) (hdep 42 (by kernel_rfl)); refine fW0 rfl ?_; clear hfr hdep; have h23 := hup 23 (by decide) (by kernel_rfl); have hg := hinv.ahead h23; go_simp; refine (refGet_any _ _ _ _ W (HGET.out W hg 9 8 (c - 6 - 9) (by omega) (by omega) (by omega)) (by omega)).mono ?_; rintro e W2 ⟨rfl, rfl⟩; rw [HV3.out]; exact hK _ _ True.intro (hinv.keep 9 (by decide) (by decide)) (dsT (by trivial))
     refine .cons (fun l a W hfr hun hup hdn hinv hdep K hK => ?_) ?_
     · have t8 := tAt (.slice (some ⟨B, O + 6, none⟩) sz (c - 6)) (hfr.at 8 (by kernel_rfl)); refine fW0 rfl ?_; clear hfr hdep; have h23 := hup 23 (by decide) (by kernel_rfl); have hg := hinv.ahead h23; go_simp; exact hK _ _ True.intro (hinv.keep 10 (by decide) (by decide)) (dsT (by trivial))
     refine .cons (fun l a W hfr hun hup hdn hinv hdep K hK => ?_) ?_
     · have t44 := tAt (.slice (some ⟨B, O + 6, none⟩) sz (c - 6)) (hdep 44 (by kernel_rfl)); refine fW0 rfl ?_; clear hfr hdep; have h23 := hup 23 (by decide) (by kernel_rfl); have hg := hinv.ahead h23; obtain ⟨⟨qa1, qa2, qa3⟩, ⟨qb1, qb2, qb3, qb4⟩, ⟨qc1, qc2, qc3, qc4⟩, qd1, qd2⟩ := QS.out; obtain ⟨qi1, qi2, qi3, qi4⟩ := QI.out; go_simp; exact hK _ _ True.intro (hinv.keep 11 (by decide) (by decide)) (dsT (by trivial))
     refine .cons (fun l a W hfr hun hup hdn hinv hdep K hK => ?_) ?_
     · have t45 := tAt (.slice (some ⟨B, O + 6 + 17, none⟩) 8 (c - 6 - 17)) (hdep 45 (by kernel_rfl)); refine fW0 rfl ?_; clear hfr hdep; have h23 := hup 23 (by decide) (by kernel_rfl); have hg := hinv.ahead h23; go_simp; refine (refGet_any _ _ _ _ W (HGET.out W hg 17 8 (c - 6 - 17) (by omega) (by omega) (by omega)) (by omega)).mono ?_; rintro e W2 ⟨rfl, rfl⟩; rw [HV4.out]; exact hK _ _ True.intro (hinv.keep 12 (by decide) (by decide)) (dsT (by trivial))
     refine .cons (fun l a W hfr hun hup hdn hinv hdep K hK => ?_) ?_
     · have t8 := tAt (.slice (some ⟨B, O + 6, none⟩) sz (c - 6)) (hfr.at 8 (by kernel_rfl)); refine fW0 rfl ?_; clear hfr hdep; have h23 := hup 23 (by decide) (by kernel_rfl); have hg := hinv.ahead h23; go_simp; exact hK _ _ True.intro (hinv.keep 13 (by decide) (by decide)) (dsT (by trivial))
     refine .cons (fun l a W hfr hun hup hdn hinv hdep K hK => ?_) ?_
     · have t47 := tAt (.slice (some ⟨B, O + 6, none⟩) sz (c - 6)) (hdep 47 (by kernel_rfl)); refine fW0 rfl ?_; clear hfr hdep; have h23 := hup 23 (by decide) (by kernel_rfl); have hg := hinv.ahead h23; obtain ⟨⟨qa1, qa2, qa3⟩, ⟨qb1, qb2, qb3, qb4⟩, ⟨qc1, qc2, qc3, qc4⟩, qd1, qd2⟩ := QS.out; obtain ⟨qi1, qi2, qi3, qi4⟩ := QI.out; go_simp; exact hK _ _ True.intro (hinv.keep 14 (by decide) (by decide)) (dsT (by trivial))
     refine .cons (fun l a W hfr hun hup hdn hinv hdep K hK => ?_) ?_
     · have t48 := tAt (.slice (some ⟨B, O + 6 + 25, none⟩) 2 (c - 6 - 25)) (hdep 48 (by kernel_rfl)); refine fW0 rfl ?_; clear hfr hdep; have h23 := hup 23 (by decide) (by kernel_rfl); have hg := hinv.ahead h23; go_simp; refine (refGet_any _ _ _ _ W (HGET.out W hg 25 2 (c - 6 - 25) (by omega) (by omega) (by omega)) (by omega)).mono ?_; rintro e W2 ⟨rfl, rfl⟩; rw [HV5.out]; exact hK _ _ True.intro (hinv.keep 15 (by decide) (by decide)) (dsT (by trivial))
     refine .cons (fun l a W hfr hun hup hdn hinv hdep K hK => ?_) ?_
     · have t49 := tAt (.int .u64 v5) (hdep 49 (by kernel_rfl)); refine fW0 rfl ?_; clear hfr hdep; have h23 := hup 23 (by decide) (by kernel_rfl); have hg := hinv.ahead h23; obtain ⟨qw1, qw2, qw3, qw4⟩ := QW.out; go_simp; exact hK _ _ True.intro (hinv.keep 16 (by decide) (by decide)) (dsT (by trivial))
     refine .cons (fun l a W hfr hun hup hdn hinv hdep K hK => ?_) ?_
     · have t8 := tAt (.slice (some ⟨B, O + 6, none⟩) sz (c - 6)) (hfr.at 8 (by kernel_rfl)); refine fW0 rfl ?_; clear hfr hdep; have h23 := hup 23 (by decide) (by kernel_rfl); have hg := hinv.ahead h23; go_simp; exact hK _ _ True.intro (hinv.keep 17 (by decide) (by decide)) (dsT (by trivial))
     refine .cons (fun l a W hfr hun hup hdn hinv hdep K hK => ?_) ?_
     · have t51 := tAt (.slice (some ⟨B, O + 6, none⟩) sz (c - 6)) (hdep 51 (by kernel_rfl)); refine fW0 rfl ?_; clear hfr hdep; have h23 := hup 23 (by decide) (by kernel_rfl); have hg := hinv.ahead h23; obtain ⟨⟨qa1, qa2, qa3⟩, ⟨qb1, qb2, qb3, qb4⟩, ⟨qc1, qc2, qc3, qc4⟩, qd1, qd2⟩ := QS.out; obtain ⟨qi1, qi2, qi3, qi4⟩ := QI.out; go_simp; exact hK _ _ True.intro (hinv.keep 18 (by decide) (by decide)) (dsT (by trivial))
     refine .cons (fun l a W hfr hun hup hdn hinv hdep K hK => ?_) ?_
     · have t52 := tAt (.pointer (some ⟨B, O + 6 + 27, none⟩)) (hdep 52 (by kernel_rfl)); refine fW0 rfl ?_; clear hfr hdep; have h23 := hup 23 (by decide) (by kernel_rfl); have hg := hinv.ahead h23; have hc := HC6.out W hg; go_simp; exact hK _ _ True.intro (hinv.keep 19 (by decide) (by decide)) (dsT (by trivial))
     refine .cons (fun l a W hfr hun hup hdn hinv hdep K hK => ?_) ?_
     · have t53 := tAt (.int .u8 v6) (hdep 53 (by kernel_rfl)); refine fW0 rfl ?_; clear hfr hdep; have h23 := hup 23 (by decide) (by kernel_rfl); have hg := hinv.ahead h23; obtain ⟨qw1, qw2, qw3, qw4⟩ := QW.out; go_simp; exact hK _ _ True.intro (hinv.keep 20 (by decide) (by decide)) (dsT (by trivial))
     refine .cons (fun l a W hfr hun hup hdn hinv hdep K hK => ?_) ?_
     · have t37 := tAt (.int .i64 v1) (hdep 37 (by kernel_rfl)); have t40 := tAt (.int .u64 v2) (hdep 40 (by kernel_rfl)); have t43 := tAt (.int .u64 v3) (hdep 43 (by kernel_rfl)); have t46 := tAt (.int .u64 v4) (hdep 46 (by kernel_rfl)); have t50 := tAt (.int .i64 v5) (hdep 50 (by kernel_rfl)); have t54 := tAt (.int .i64 v6) (hdep 54 (by kernel_rfl)); refine fW0 rfl ?_; clear hfr hdep; have h23 := hup 23 (by decide) (by kernel_rfl); have hg := hinv.ahead h23; go_simp; exact hK _ _ True.intro (hinv.keep 21 (by decide) (by decide)) (dsT (by trivial))
     refine .cons (fun l a W hfr hun hup hdn hinv hdep K hK => ?_) ?_
     · refine fW0 rfl ?_; clear hfr hdep; have h23 := hup 23 (by decide) (by kernel_rfl); have hW := hinv.at0 hun h23; subst hW; go_simp; exact hK _ _ True.intro (InR.s22 h23) (dsT (by trivial))
     refine .cons (fun l a W hfr hun hup hdn hinv hdep K hK => ?_) ?_
     · have s9 : a.tmps.getD 9 undef = .pointer (some ⟨W1.heap.size, 0, none⟩) := hdep 9 (by kernel_rfl); have t9 := tmpAt s9; have t55 := tAt (.agg #[.int .i64 v1, .int .u64 v2, .int .u64 v3, .int .u64 v4, .int .i64 v5, .int .i64 v6, .slice none 0 0, .slice none 0 0]) (hdep 55 (by kernel_rfl)); refine fW0 rfl ?_; clear hfr hdep; have h22 := hdn 22 (by decide) (by kernel_rfl); have hg := hinv.ahead hun; have hbz := hinv.at1 h22 hun; obtain ⟨z0, z1, z2, z3, z4, z5, z6, z7⟩ := hbz.c8; obtain ⟨f0, f1, f2, f3, f4, f5, f6, f7⟩ := hbz.f8; go_simp; exact hK undef _ True.intro (InR.s23 (((((((hbz.set 0 _).set 1 _).set 2 _).set 3 _).set 4 _).set 5 _).set 6 _ |>.set 7 _) (below_set8 hg (Nat.le_refl _))) (fun d hd => by cases hd)
     exact True.intro
    case fin =>
     intro a W l hfr hall hinv hsl
     have h23 : l 23 = true := hall 23 (by decide); have s9 : a.tmps.getD 9 undef = .pointer (some ⟨W1.heap.size, 0, none⟩) := hsl 22 _ 9 rfl rfl (by simp); have t9 := tmpAt s9; have e := Flow.frame hfr [34, 35, 36, 37, 38, 39, 40, 41, 42, 43, 44, 45, 46, 47, 48, 49, 50, 51, 52, 53, 54, 55, 9] (List.range 96) (by kernel_rfl) (by kernel_rfl)
     simp [List.range, List.range.loop] at e
     rw [t9] at e
     rw [e]; have hfin := hinv.fin h23; clear e hfr hsl hall hinv h23 s9 t9
     first
     | (rename_i hB; refine hB _ _ ?_)
     | (rename_i hB y0; refine hB _ _ ?_)
     | (rename_i hB y0 y1; refine hB _ _ ?_)
     | (rename_i hB y0 y1 y2; refine hB _ _ ?_)
     | (rename_i hB y0 y1 y2 y3; refine hB _ _ ?_)
     | (rename_i hB y0 y1 y2 y3 y4; refine hB _ _ ?_)
     | (rename_i hB y0 y1 y2 y3 y4 y5; refine hB _ _ ?_)
     | (rename_i hB y0 y1 y2 y3 y4 y5 y6; refine hB _ _ ?_)
     | (rename_i hB y0 y1 y2 y3 y4 y5 y6 y7; refine hB _ _ ?_)
     | (rename_i hB y0 y1 y2 y3 y4 y5 y6 y7 y8; refine hB _ _ ?_)
     | (rename_i hB y0 y1 y2 y3 y4 y5 y6 y7 y8 y9; refine hB _ _ ?_)
     | (rename_i hB y0 y1 y2 y3 y4 y5 y6 y7 y8 y9 y10; refine hB _ _ ?_)
     | (rename_i hB y0 y1 y2 y3 y4 y5 y6 y7 y8 y9 y10 y11; refine hB _ _ ?_)
     | (rename_i hB y0 y1 y2 y3 y4 y5 y6 y7 y8 y9 y10 y11 y12; refine hB _ _ ?_)
     have HBr := Lib.hid hfin.1; have hg := hfin.2; have HZ2 := Lib.hid (HZ.out.below hg HZ.out.lt); have HG2 := Lib.hid (Gr.trans HG.out hg); have HBY2 := Lib.hid (HBY.out.kept hg); have HLR : Hid (w.heap.size < W1.heap.size) := Lib.hid HZ.out.lt; have hc28 := HC7.out W hg; obtain ⟨⟨qa1, qa2, qa3⟩, _, _, qd1, qd2⟩ := QS.out; obtain ⟨r, hr⟩ : ∃ r, r = W1.heap.size := ⟨_, rfl⟩
     rw [← hr] at HBr HLR ⊢
     clear hr hfin hg HGET HC1 HC6 HC7 HZ HG HBY QS QI QW HV2 HV3 HV4 HV5 H2
     by_cases h7 : sz < 29 + v7
     ·
      have h7' : (sz : Int) - 29 - (v7 : Int) < 0 := by omega
      have HF : Hid (ofB xs at' = false) := Lib.hid (by
       cases h : ofB xs at'
       · rfl
       · have := HV7.out h; have := HSZ.out; omega)
      obtain ⟨z0, z1, z2, z3, z4, z5, z6, z7⟩ := HZ2.out.c8; obtain ⟨f0, f1, f2, f3, f4, f5, f6, f7⟩ := HZ2.out.f8; go_wp2_with fail; exact bodyPost_ret (results_rec3 rfl _ _ w.heap.size #[.int .i64 0, .int .u64 0, .int .u64 0, .int .u64 0, .int .i64 0, .int .i64 0, .slice none 0 0, .slice none 0 0] _ _ rfl rfl rfl rfl ((((((((HZ2.out.set 0 _).set 1 _).set 2 _).set 3 _).set 4 _).set 5 _).set 6 _).set 7 _)) rfl (HNO.out HF.out _ _ ⟨none, 0, 0, none, 0, 0, rfl, Byt.nil _, Byt.nil _, below_set8 HG2.out (Nat.le_refl _), fun U _ => ⟨Byt.nil U, Byt.nil U⟩⟩)
     ·
      obtain ⟨m, hm⟩ : ∃ m, m = sz - 29 - v7 := ⟨_, rfl⟩
      have hm' : (sz : Int) - 29 - (v7 : Int) = (m : Int) := by omega
      have hm2 : sz = 29 + m + v7 := by omega
      have HM := Lib.hid hm; have HM2 := Lib.hid hm2; clear hm
      have u1 : (29 : Int) + (m : Int) ≤ (sz : Int) := by omega
      have u2 : (29 : Int) + (m : Int) ≤ ((c - 6 : Nat) : Int) := by omega
      have u3 : 29 + m ≤ c - 6 := by omega
      have u4 : 29 + m ≤ sz := by omega
      clear hm2
      go_upto_region 10 with fail
      try rw [hm']
      clear hm'; obtain ⟨c0, c1, c2, c3, c4, c5, c6, c7⟩ := HBr.out.c8; obtain ⟨g0, g1, g2, g3, g4, g5, g6, g7⟩ := HBr.out.f8
      go_upto_region 14 with fail
      have u5 : sz - (29 + m) = v7 := by have := HM2.out; omega
      rw [u5]; have hlr := HLR.out; have hBv := (HBr.out.set 6 (.slice (if c - 6 = 29 then some ⟨B, O + 6, none⟩ else some ⟨B, O + 6 + 29, none⟩) m (c - 6 - 29))).set 7 (.slice (if c - 6 = 29 + m then some ⟨B, O + 6, none⟩ else some ⟨B, O + 6 + (29 + m), none⟩) v7 (c - 6 - (29 + m)))
      have hz1 : w.heap.size ≠ (Addr.mk r 6 none).block := by show w.heap.size ≠ r; omega
      have hz2 : w.heap.size ≠ (Addr.mk r 7 none).block := by show w.heap.size ≠ r; omega
      have hZv := (HZ2.out.far hz1 (.slice (if c - 6 = 29 then some ⟨B, O + 6, none⟩ else some ⟨B, O + 6 + 29, none⟩) m (c - 6 - 29))).far hz2 (.slice (if c - 6 = 29 + m then some ⟨B, O + 6, none⟩ else some ⟨B, O + 6 + (29 + m), none⟩) v7 (c - 6 - (29 + m)))
      have hy1 : w.heap.size ≤ (Addr.mk r 6 none).block := by show w.heap.size ≤ r; omega
      have hy2 : w.heap.size ≤ (Addr.mk r 7 none).block := by show w.heap.size ≤ r; omega
      have hGv := (HG2.out.setCell hy1 (.slice (if c - 6 = 29 then some ⟨B, O + 6, none⟩ else some ⟨B, O + 6 + 29, none⟩) m (c - 6 - 29))).setCell hy2 (.slice (if c - 6 = 29 + m then some ⟨B, O + 6, none⟩ else some ⟨B, O + 6 + (29 + m), none⟩) v7 (c - 6 - (29 + m)))
      generalize ((W.setCell ⟨r, 6, none⟩ (.slice (if c - 6 = 29 then some ⟨B, O + 6, none⟩ else some ⟨B, O + 6 + 29, none⟩) m (c - 6 - 29))).setCell ⟨r, 7, none⟩ (.slice (if c - 6 = 29 + m then some ⟨B, O + 6, none⟩ else some ⟨B, O + 6 + (29 + m), none⟩) v7 (c - 6 - (29 + m)))) = V at hBv hZv hGv ⊢
      have HGv : Hid (Gr w V) := Lib.hid hGv; have HZv := Lib.hid hZv; have hX := HB0.out.kept hGv; have m6 := HM2.out; have yb := byt_at hX 29 m (by omega) (by omega); have ya := byt_at hX (29 + m) v7 (by omega) (by omega); obtain ⟨qb, hqb⟩ : ∃ q, q = (if c - 6 = 29 then (some ⟨B, O + 6, none⟩ : Option Addr) else some ⟨B, O + 6 + 29, none⟩) := ⟨_, rfl⟩; obtain ⟨qa, hqa⟩ : ∃ q, q = (if c - 6 = 29 + m then (some ⟨B, O + 6, none⟩ : Option Addr) else some ⟨B, O + 6 + (29 + m), none⟩) := ⟨_, rfl⟩
      rw [← hqb] at yb hBv ⊢
      rw [← hqa] at ya hBv ⊢
      have HBv : Hid (Blk V r TR #[.int .i64 v1, .int .u64 v2, .int .u64 v3, .int .u64 v4, .int .i64 v5, .int .i64 v6, .slice qb m (c - 6 - 29), .slice qa v7 (c - 6 - (29 + m))]) := Lib.hid hBv; have hc2 := HC2.out m; have yb' : Byt V qb m (c - 6 - 29) (cand2 xs m).b := yb
      have ya' : Byt V qa v7 (c - 6 - (29 + m)) (cand2 xs m).a := by
       rw [hc2]
       rw [show 6 + (29 + m) = 35 + m by omega] at ya
       exact ya
      have HYB := Lib.hid yb'; have HYA := Lib.hid ya'; have HIN := Lib.hid (cand2_in xs HSM.out m)
      have hma : ∀ W, Gr V W → Calls Tryz.prog 46 #[.agg #[.int .i64 v1, .int .u64 v2, .int .u64 v3, .int .u64 v4, .int .i64 v5, .int .i64 v6, .slice qb m (c - 6 - 29), .slice qa v7 (c - 6 - (29 + m))]] W (RetB (mayR (cand2 xs m)) W) := fun W gr => by
       have h := refMay_any (cand2 xs m) qb m (c - 6 - 29) qa v7 (c - 6 - (29 + m)) W (HYB.out.kept gr) (HYA.out.kept gr)
       rw [hc2] at h ⊢
       exact h
      have hrb : mayR (cand2 xs m) = true → ∀ W, Gr V W → Calls Tryz.prog 47 #[.agg #[.int .i64 v1, .int .u64 v2, .int .u64 v3, .int .u64 v4, .int .i64 v5, .int .i64 v6, .slice qb m (c - 6 - 29), .slice qa v7 (c - 6 - (29 + m))], .int .u64 at'] W (RetByte (recL (cand2 xs m) at') W) := fun hm W gr => by
       have h := refBytes_any (cand2 xs m) qb m (c - 6 - 29) qa v7 (c - 6 - (29 + m)) at' W hm HIN.out (HYB.out.kept gr) (HYA.out.kept gr) hat
       rw [hc2] at h ⊢
       exact h
      have HPX := Lib.hid (hX.pre (6 + sz) c (by omega) (by omega) (Nat.le_refl _))
      have HREF : Hid (ofB xs at' = true → mayR (cand2 xs m) = true ∧ recL (cand2 xs m) at' = xs.take (6 + sz)) := Lib.hid fun h => by
       have h1 := ref_of h; have e1 : szR xs = sz := HSZ.out.symm; have e2 : atR xs 34 1 = v7 := HE7.out
       rw [e1, e2, ← HM.out] at h1
       exact ⟨h1.2.2.2.2.1, h1.2.2.2.2.2.2⟩
      have HYES : Hid (mayR (cand2 xs m) = true → recL (cand2 xs m) at' = xs.take (6 + sz) → ofB xs at' = true ∧ cand xs = cand2 xs m ∧ (recL (cand xs) at').length = 6 + sz) := Lib.hid fun h1 h2 => by
       have e1 : szR xs = sz := HSZ.out.symm; have h3 := ref_yes (xs := xs) (at' := at') (m := m) HSM.out (by rw [e1, HLX.out]; omega) h1 (by rw [e1]; exact h2)
       rw [e1] at h3
       exact h3
      have QQ : Hid ((0 : Int) ≤ 6 + (sz : Int) ∧ (6 : Int) + (sz : Int) ≤ (c : Int) ∧ 6 + sz ≤ c ∧ IntKind.i64.wrap (6 + (sz : Int)) = 6 + (sz : Int)) := Lib.hid ⟨by omega, by omega, by omega, by rw [IntKind.wrap_i64]; omega⟩
      have HKP : Hid (∀ U, Byt U (some ⟨B, O, none⟩) n c xs → Byt U qb m (c - 6 - 29) ((xs.drop 35).take m) ∧ Byt U qa v7 (c - 6 - (29 + m)) ((xs.drop (35 + m)).take v7)) := Lib.hid fun U gr => ⟨by rw [hqb]; exact byt_at gr 29 m (by omega) (by omega), by
       rw [hqa]; have h := byt_at gr (29 + m) v7 (by omega) (by omega)
       rw [show 6 + (29 + m) = 35 + m by omega] at h
       exact h⟩
      have HCC := Lib.hid hc2; clear hBv hZv hGv hX yb ya hqb hqa yb' ya' hc2 hz1 hz2 hy1 hy2 m6 c0 c1 c2 c3 c4 c5 c6 c7 g0 g1 g2 g3 g4 g5 g6 g7 u1 u2 u3 u4 u5 hlr hc28 HBr HZ2 HG2 HBY2
      cases hM : mayR (cand2 xs m)
      ·
       have HMA : Hid (∀ W, Gr V W → Calls Tryz.prog 46 #[.agg #[.int .i64 v1, .int .u64 v2, .int .u64 v3, .int .u64 v4, .int .i64 v5, .int .i64 v6, .slice qb m (c - 6 - 29), .slice qa v7 (c - 6 - (29 + m))]] W (RetB false W)) := Lib.hid (by rw [← hM]; exact hma)
       have HF : Hid (ofB xs at' = false) := Lib.hid (by
        cases h : ofB xs at'
        · rfl
        · have := (HREF.out h).1; rw [hM] at this; cases this)
       clear hma hrb hM; obtain ⟨ST, hST⟩ : ∃ s, s = ByteArray.empty := ⟨_, rfl⟩; obtain ⟨SU, hSU⟩ : ∃ s, s = ByteArray.empty := ⟨_, rfl⟩; obtain ⟨L, hL⟩ : ∃ s, s = ([] : List Int) := ⟨_, rfl⟩; clear hST hSU hL; refine Flow.region (SlRq1 v1 v2 v3 v4 v5 v6 v7 qb m (c - 6 - 29) qa (c - 6 - (29 + m)) at' B O n c sz ST SU L) (Gr V) Gr (by kernel_rfl) (by kernel_rfl) (fun _ _ _ _ h g => slRq1_gr h g) ⟨rfl, rfl, rfl, Nat.le_refl _, fun _ _ => rfl⟩ ?steps ?fin
       case steps =>
        refine .cons (fun A W hfr hinv hdep K hK => ?_) ?_
        · have t9 := tAt (.pointer (some ⟨r, 0, none⟩)) (hfr.at 9 (by kernel_rfl)); refine fW0 rfl ?_; clear hfr hdep; obtain ⟨c0, c1, c2, c3, c4, c5, c6, c7⟩ := (HBv.out.below hinv HBv.out.lt).c8; go_simp; exact hK _ _ (Gr.refl _) hinv (dsT (by trivial))
        refine .cons (fun A W hfr hinv hdep K hK => ?_) ?_
        · have t77 := tAt (.agg #[.int .i64 v1, .int .u64 v2, .int .u64 v3, .int .u64 v4, .int .i64 v5, .int .i64 v6, .slice qb m (c - 6 - 29), .slice qa v7 (c - 6 - (29 + m))]) (hdep 77 (by kernel_rfl)); refine fW0 rfl ?_; clear hfr hdep; go_simp; refine (HMA.out W hinv).mono ?_; rintro e W2 ⟨rfl, g1⟩; exact hK _ _ g1 (Gr.trans hinv g1) (dsT (by trivial))
        refine .cons (fun A W hfr hinv hdep K hK => ?_) ?_
        · have t78 := tAt (.bool false) (hdep 78 (by kernel_rfl)); refine fW0 rfl ?_; clear hfr hdep; go_simp; exact hK _ _ (Gr.refl _) hinv (dsT (by trivial))
        refine .cons (fun A W hfr hinv hdep K hK => ?_) ?_
        · have t79 := tAt (.bool true) (hdep 79 (by kernel_rfl)); refine fW0 rfl ?_; clear hfr hdep; go_simp; exact hK _ _ (Gr.refl _) hinv (dsT (by trivial))
        refine .cons (fun A W hfr hinv hdep K hK => ?_) ?_
        · have sg : A.tmps.getD 80 undef = .bool !false := hdep 80 (by kernel_rfl); have t9 := tAt (.pointer (some ⟨r, 0, none⟩)) (hfr.at 9 (by kernel_rfl)); rw [if_neg (Flow.wanted_no 3 false 80 rfl (by kernel_rfl) sg)]; clear hfr hdep; exact hK _ _ (Gr.refl _) hinv (dsT (by trivial))
        refine .cons (fun A W hfr hinv hdep K hK => ?_) ?_
        · have sg : A.tmps.getD 80 undef = .bool !false := hdep 80 (by kernel_rfl); have t1 := tAt (.int .u64 at') (hfr.at 1 (by kernel_rfl)); rw [if_neg (Flow.wanted_no 3 false 80 rfl (by kernel_rfl) sg)]; clear hfr hdep; exact hK _ _ (Gr.refl _) hinv (dsT (by trivial))
        refine .cons (fun A W hfr hinv hdep K hK => ?_) ?_
        · have sg : A.tmps.getD 80 undef = .bool !false := hdep 80 (by kernel_rfl); rw [if_neg (Flow.wanted_no 3 false 80 rfl (by kernel_rfl) sg)]; clear hfr hdep; exact hK _ _ (Gr.refl _) hinv (dsT (by trivial))
        refine .cons (fun A W hfr hinv hdep K hK => ?_) ?_
        · have sg : A.tmps.getD 80 undef = .bool !false := hdep 80 (by kernel_rfl); rw [if_neg (Flow.wanted_no 3 false 80 rfl (by kernel_rfl) sg)]; clear hfr hdep; exact hK _ _ (Gr.refl _) hinv (dsT (by trivial))
        refine .cons (fun A W hfr hinv hdep K hK => ?_) ?_
        · have sg : A.tmps.getD 80 undef = .bool !false := hdep 80 (by kernel_rfl); have t0 := tAt (.slice (some ⟨B, O, none⟩) n c) (hfr.at 0 (by kernel_rfl)); rw [if_neg (Flow.wanted_no 3 false 80 rfl (by kernel_rfl) sg)]; clear hfr hdep; exact hK _ _ (Gr.refl _) hinv (dsT (by trivial))
        refine .cons (fun A W hfr hinv hdep K hK => ?_) ?_
        · have sg : A.tmps.getD 80 undef = .bool !false := hdep 80 (by kernel_rfl); have t7 := tAt (.int .i64 sz) (hfr.at 7 (by kernel_rfl)); rw [if_neg (Flow.wanted_no 3 false 80 rfl (by kernel_rfl) sg)]; clear hfr hdep; exact hK _ _ (Gr.refl _) hinv (dsT (by trivial))
        refine .cons (fun A W hfr hinv hdep K hK => ?_) ?_
        · have sg : A.tmps.getD 80 undef = .bool !false := hdep 80 (by kernel_rfl); rw [if_neg (Flow.wanted_no 3 false 80 rfl (by kernel_rfl) sg)]; clear hfr hdep; exact hK _ _ (Gr.refl _) hinv (dsT (by trivial))
        refine .cons (fun A W hfr hinv hdep K hK => ?_) ?_
        · have sg : A.tmps.getD 80 undef = .bool !false := hdep 80 (by kernel_rfl); rw [if_neg (Flow.wanted_no 3 false 80 rfl (by kernel_rfl) sg)]; clear hfr hdep; exact hK _ _ (Gr.refl _) hinv (dsT (by trivial))
        refine .cons (fun A W hfr hinv hdep K hK => ?_) ?_
        · have sg : A.tmps.getD 80 undef = .bool !false := hdep 80 (by kernel_rfl); rw [if_neg (Flow.wanted_no 3 false 80 rfl (by kernel_rfl) sg)]; clear hfr hdep; exact hK _ _ (Gr.refl _) hinv (dsT (by trivial))
        refine .cons (fun A W hfr hinv hdep K hK => ?_) ?_
        · have sg : A.tmps.getD 80 undef = .bool !false := hdep 80 (by kernel_rfl); rw [if_neg (Flow.wanted_no 3 false 80 rfl (by kernel_rfl) sg)]; clear hfr hdep; exact hK _ _ (Gr.refl _) hinv (dsT (by trivial))
        refine .cons (fun A W hfr hinv hdep K hK => ?_) ?_
        · have t80 := tAt (.bool true) (hdep 80 (by kernel_rfl)); refine fW0 rfl ?_; clear hfr hdep; go_simp; exact hK _ _ (Gr.refl _) hinv (dsT (by trivial))
        exact True.intro
       case fin =>
        intro A W hfr hfin hsl
        have s91 : A.tmps.getD 91 undef = .bool true := hsl 14 _ 91 rfl rfl; have t91 := tmpAt s91; have e := Flow.frame hfr [77, 78, 79, 80, 81, 82, 83, 84, 85, 86, 87, 88, 89, 90, 91] (List.range 96) (by kernel_rfl) (by kernel_rfl)
        simp [List.range, List.range.loop] at e
        rw [t91] at e
        rw [e]; clear e hfr hsl s91 t91
        first
        | (rename_i hB; refine hB _ _ ?_)
        | (rename_i hB y0; refine hB _ _ ?_)
        | (rename_i hB y0 y1; refine hB _ _ ?_)
        | (rename_i hB y0 y1 y2; refine hB _ _ ?_)
        | (rename_i hB y0 y1 y2 y3; refine hB _ _ ?_)
        | (rename_i hB y0 y1 y2 y3 y4; refine hB _ _ ?_)
        | (rename_i hB y0 y1 y2 y3 y4 y5; refine hB _ _ ?_)
        | (rename_i hB y0 y1 y2 y3 y4 y5 y6; refine hB _ _ ?_)
        | (rename_i hB y0 y1 y2 y3 y4 y5 y6 y7; refine hB _ _ ?_)
        | (rename_i hB y0 y1 y2 y3 y4 y5 y6 y7 y8; refine hB _ _ ?_)
        | (rename_i hB y0 y1 y2 y3 y4 y5 y6 y7 y8 y9; refine hB _ _ ?_)
        | (rename_i hB y0 y1 y2 y3 y4 y5 y6 y7 y8 y9 y10; refine hB _ _ ?_)
        | (rename_i hB y0 y1 y2 y3 y4 y5 y6 y7 y8 y9 y10 y11; refine hB _ _ ?_)
        | (rename_i hB y0 y1 y2 y3 y4 y5 y6 y7 y8 y9 y10 y11 y12; refine hB _ _ ?_)
        have HZw := Lib.hid (HZv.out.below hfin HZv.out.lt); have HGw := Lib.hid (Gr.trans HGv.out hfin); obtain ⟨z0, z1, z2, z3, z4, z5, z6, z7⟩ := HZw.out.c8; obtain ⟨f0, f1, f2, f3, f4, f5, f6, f7⟩ := HZw.out.f8; go_wp2_with fail; exact bodyPost_ret (results_rec3 rfl _ _ w.heap.size #[.int .i64 0, .int .u64 0, .int .u64 0, .int .u64 0, .int .i64 0, .int .i64 0, .slice none 0 0, .slice none 0 0] _ _ rfl rfl rfl rfl ((((((((HZw.out.set 0 _).set 1 _).set 2 _).set 3 _).set 4 _).set 5 _).set 6 _).set 7 _)) rfl (HNO.out HF.out _ _ ⟨none, 0, 0, none, 0, 0, rfl, Byt.nil _, Byt.nil _, below_set8 HGw.out (Nat.le_refl _), fun U _ => ⟨Byt.nil U, Byt.nil U⟩⟩)
      ·
       have HMA : Hid (∀ W, Gr V W → Calls Tryz.prog 46 #[.agg #[.int .i64 v1, .int .u64 v2, .int .u64 v3, .int .u64 v4, .int .i64 v5, .int .i64 v6, .slice qb m (c - 6 - 29), .slice qa v7 (c - 6 - (29 + m))]] W (RetB true W)) := Lib.hid (by rw [← hM]; exact hma); have HRB := Lib.hid (hrb hM); have HMT := Lib.hid hM
       obtain ⟨L, hL⟩ : ∃ s, s = recL (cand2 xs m) at' := ⟨_, rfl⟩
       rw [← hL] at HRB
       have hls : Wd.Small L := by rw [hL]; exact recL_small HIN.out at'
       have hse := strEq hls (HSM.out.take (6 + sz)); obtain ⟨ST, hST⟩ : ∃ s, s = strOfNums L := ⟨_, rfl⟩; obtain ⟨SU, hSU⟩ : ∃ s, s = strOfNums (xs.take (6 + sz)) := ⟨_, rfl⟩
       rw [← hST, ← hSU] at hse
       have HST := Lib.hid hST; have HSU := Lib.hid hSU; have HL := Lib.hid hL; clear hma hrb hM hST hSU hL hls
       by_cases hq : L = xs.take (6 + sz)
       ·
        have HEQ : Hid ((ST.toList == SU.toList) = true) := Lib.hid (by rw [hse]; exact decide_eq_true hq); have HQ := Lib.hid hq; clear hse hq; refine Flow.region (SlRq3 v1 v2 v3 v4 v5 v6 v7 qb m (c - 6 - 29) qa (c - 6 - (29 + m)) at' B O n c sz ST SU L) (Gr V) Gr (by kernel_rfl) (by kernel_rfl) (fun _ _ _ _ h g => slRq3_gr h g) ⟨rfl, rfl, rfl, Nat.le_refl _, fun _ _ => rfl⟩ ?steps ?fin
        case steps =>
         refine .cons (fun A W hfr hinv hdep K hK => ?_) ?_
         · have t9 := tAt (.pointer (some ⟨r, 0, none⟩)) (hfr.at 9 (by kernel_rfl)); refine fW0 rfl ?_; clear hfr hdep; obtain ⟨c0, c1, c2, c3, c4, c5, c6, c7⟩ := (HBv.out.below hinv HBv.out.lt).c8; go_simp; exact hK _ _ (Gr.refl _) hinv (dsT (by trivial))
         refine .cons (fun A W hfr hinv hdep K hK => ?_) ?_
         · have t77 := tAt (.agg #[.int .i64 v1, .int .u64 v2, .int .u64 v3, .int .u64 v4, .int .i64 v5, .int .i64 v6, .slice qb m (c - 6 - 29), .slice qa v7 (c - 6 - (29 + m))]) (hdep 77 (by kernel_rfl)); refine fW0 rfl ?_; clear hfr hdep; go_simp; refine (HMA.out W hinv).mono ?_; rintro e W2 ⟨rfl, g1⟩; exact hK _ _ g1 (Gr.trans hinv g1) (dsT (by trivial))
         refine .cons (fun A W hfr hinv hdep K hK => ?_) ?_
         · have t78 := tAt (.bool true) (hdep 78 (by kernel_rfl)); refine fW0 rfl ?_; clear hfr hdep; go_simp; exact hK _ _ (Gr.refl _) hinv (dsT (by trivial))
         refine .cons (fun A W hfr hinv hdep K hK => ?_) ?_
         · have t79 := tAt (.bool false) (hdep 79 (by kernel_rfl)); refine fW0 rfl ?_; clear hfr hdep; go_simp; exact hK _ _ (Gr.refl _) hinv (dsT (by trivial))
         refine .cons (fun A W hfr hinv hdep K hK => ?_) ?_
         · have sg : A.tmps.getD 80 undef = .bool false := hdep 80 (by kernel_rfl); have t9 := tAt (.pointer (some ⟨r, 0, none⟩)) (hfr.at 9 (by kernel_rfl)); rw [if_pos (Flow.wanted_yes 3 false 80 rfl (by kernel_rfl) sg)]; clear hfr hdep; obtain ⟨c0, c1, c2, c3, c4, c5, c6, c7⟩ := (HBv.out.below hinv HBv.out.lt).c8; go_simp; exact hK _ _ (Gr.refl _) hinv (dsT (by trivial))
         refine .cons (fun A W hfr hinv hdep K hK => ?_) ?_
         · have sg : A.tmps.getD 80 undef = .bool false := hdep 80 (by kernel_rfl); have t1 := tAt (.int .u64 at') (hfr.at 1 (by kernel_rfl)); rw [if_pos (Flow.wanted_yes 3 false 80 rfl (by kernel_rfl) sg)]; clear hfr hdep; go_simp; exact hK _ _ (Gr.refl _) hinv (dsT (by trivial))
         refine .cons (fun A W hfr hinv hdep K hK => ?_) ?_
         · have sg : A.tmps.getD 80 undef = .bool false := hdep 80 (by kernel_rfl); have t81 := tAt (.agg #[.int .i64 v1, .int .u64 v2, .int .u64 v3, .int .u64 v4, .int .i64 v5, .int .i64 v6, .slice qb m (c - 6 - 29), .slice qa v7 (c - 6 - (29 + m))]) (hdep 81 (by kernel_rfl)); have t82 := tAt (.int .u64 at') (hdep 82 (by kernel_rfl)); rw [if_pos (Flow.wanted_yes 3 false 80 rfl (by kernel_rfl) sg)]; clear hfr hdep; go_simp; refine (HRB.out W hinv).mono ?_; rintro e W2 ⟨q2, m2, d2, rfl, hy2, g1, _⟩; exact hK _ _ g1 (Gr.trans hinv g1) (fun d hd => by cases hd; exact ⟨_, _, _, rfl, hy2⟩)
         refine .cons (fun A W hfr hinv hdep K hK => ?_) ?_
         ·
          have sg : A.tmps.getD 80 undef = .bool false := hdep 80 (by kernel_rfl); have s83 : IsB W (A.tmps.getD 83 undef) L := hdep 83 (by kernel_rfl); rw [if_pos (Flow.wanted_yes 3 false 80 rfl (by kernel_rfl) sg)]; clear hfr hdep; obtain ⟨q2, m2, d2, s83, hy2⟩ := s83; have t83 := tmpAt s83; have hcv := hy2.lies.convert hy2.len d2 31 5 9 Tryz.underlying31 Tryz.underlying5 Tryz.underlying9
          rw [← HST.out] at hcv
          go_simp; exact hK _ _ (Gr.refl _) hinv (dsT (by trivial))
         refine .cons (fun A W hfr hinv hdep K hK => ?_) ?_
         · have sg : A.tmps.getD 80 undef = .bool false := hdep 80 (by kernel_rfl); have t0 := tAt (.slice (some ⟨B, O, none⟩) n c) (hfr.at 0 (by kernel_rfl)); rw [if_pos (Flow.wanted_yes 3 false 80 rfl (by kernel_rfl) sg)]; clear hfr hdep; go_simp; exact hK _ _ (Gr.refl _) hinv (dsT (by trivial))
         refine .cons (fun A W hfr hinv hdep K hK => ?_) ?_
         · have sg : A.tmps.getD 80 undef = .bool false := hdep 80 (by kernel_rfl); have t7 := tAt (.int .i64 sz) (hfr.at 7 (by kernel_rfl)); rw [if_pos (Flow.wanted_yes 3 false 80 rfl (by kernel_rfl) sg)]; clear hfr hdep; go_simp; exact hK _ _ (Gr.refl _) hinv (dsT (by trivial))
         refine .cons (fun A W hfr hinv hdep K hK => ?_) ?_
         · have sg : A.tmps.getD 80 undef = .bool false := hdep 80 (by kernel_rfl); have t86 := tAt (.int .i64 sz) (hdep 86 (by kernel_rfl)); rw [if_pos (Flow.wanted_yes 3 false 80 rfl (by kernel_rfl) sg)]; clear hfr hdep; obtain ⟨qq1, qq2, qq3, qq4⟩ := QQ.out; go_simp; exact hK _ _ (Gr.refl _) hinv (dsT (by trivial))
         refine .cons (fun A W hfr hinv hdep K hK => ?_) ?_
         · have sg : A.tmps.getD 80 undef = .bool false := hdep 80 (by kernel_rfl); have t85 := tAt (.slice (some ⟨B, O, none⟩) n c) (hdep 85 (by kernel_rfl)); have t87 := tAt (.int .i64 (6 + (sz : Int))) (hdep 87 (by kernel_rfl)); rw [if_pos (Flow.wanted_yes 3 false 80 rfl (by kernel_rfl) sg)]; clear hfr hdep; obtain ⟨qq1, qq2, qq3, qq4⟩ := QQ.out; go_simp; exact hK _ _ (Gr.refl _) hinv (dsT (by trivial))
         refine .cons (fun A W hfr hinv hdep K hK => ?_) ?_
         ·
          have sg : A.tmps.getD 80 undef = .bool false := hdep 80 (by kernel_rfl); have t88 := tAt (.slice (some ⟨B, O, none⟩) (6 + sz) c) (hdep 88 (by kernel_rfl)); rw [if_pos (Flow.wanted_yes 3 false 80 rfl (by kernel_rfl) sg)]; clear hfr hdep; have hyp := (HPX.out.kept hinv); have hcv := hyp.lies.convert hyp.len c 31 5 9 Tryz.underlying31 Tryz.underlying5 Tryz.underlying9
          rw [← HSU.out] at hcv
          go_simp; exact hK _ _ (Gr.refl _) hinv (dsT (by trivial))
         refine .cons (fun A W hfr hinv hdep K hK => ?_) ?_
         · have sg : A.tmps.getD 80 undef = .bool false := hdep 80 (by kernel_rfl); have t84 := tAt (.string ST) (hdep 84 (by kernel_rfl)); have t89 := tAt (.string SU) (hdep 89 (by kernel_rfl)); rw [if_pos (Flow.wanted_yes 3 false 80 rfl (by kernel_rfl) sg)]; clear hfr hdep; have hst := HEQ.out; go_simp; exact hK _ _ (Gr.refl _) hinv (dsT (by trivial))
         refine .cons (fun A W hfr hinv hdep K hK => ?_) ?_
         · have t80 := tAt (.bool false) (hdep 80 (by kernel_rfl)); have t90 := tAt (.bool false) (hdep 90 (by kernel_rfl)); refine fW0 rfl ?_; clear hfr hdep; go_simp; exact hK _ _ (Gr.refl _) hinv (dsT (by trivial))
         exact True.intro
        case fin =>
         intro A W hfr hfin hsl
         have s91 : A.tmps.getD 91 undef = .bool false := hsl 14 _ 91 rfl rfl; have t91 := tmpAt s91; have e := Flow.frame hfr [77, 78, 79, 80, 81, 82, 83, 84, 85, 86, 87, 88, 89, 90, 91] (List.range 96) (by kernel_rfl) (by kernel_rfl)
         simp [List.range, List.range.loop] at e
         rw [t91] at e
         rw [e]; clear e hfr hsl s91 t91
         first
         | (rename_i hB; refine hB _ _ ?_)
         | (rename_i hB y0; refine hB _ _ ?_)
         | (rename_i hB y0 y1; refine hB _ _ ?_)
         | (rename_i hB y0 y1 y2; refine hB _ _ ?_)
         | (rename_i hB y0 y1 y2 y3; refine hB _ _ ?_)
         | (rename_i hB y0 y1 y2 y3 y4; refine hB _ _ ?_)
         | (rename_i hB y0 y1 y2 y3 y4 y5; refine hB _ _ ?_)
         | (rename_i hB y0 y1 y2 y3 y4 y5 y6; refine hB _ _ ?_)
         | (rename_i hB y0 y1 y2 y3 y4 y5 y6 y7; refine hB _ _ ?_)
         | (rename_i hB y0 y1 y2 y3 y4 y5 y6 y7 y8; refine hB _ _ ?_)
         | (rename_i hB y0 y1 y2 y3 y4 y5 y6 y7 y8 y9; refine hB _ _ ?_)
         | (rename_i hB y0 y1 y2 y3 y4 y5 y6 y7 y8 y9 y10; refine hB _ _ ?_)
         | (rename_i hB y0 y1 y2 y3 y4 y5 y6 y7 y8 y9 y10 y11; refine hB _ _ ?_)
         | (rename_i hB y0 y1 y2 y3 y4 y5 y6 y7 y8 y9 y10 y11 y12; refine hB _ _ ?_)
         have HZw := Lib.hid (HZv.out.below hfin HZv.out.lt); have HGw := Lib.hid (Gr.trans HGv.out hfin); obtain ⟨z0, z1, z2, z3, z4, z5, z6, z7⟩ := HZw.out.c8; obtain ⟨f0, f1, f2, f3, f4, f5, f6, f7⟩ := HZw.out.f8; obtain ⟨c0, c1, c2, c3, c4, c5, c6, c7⟩ := (HBv.out.below hfin HBv.out.lt).c8; have HY1 := Lib.hid (HYB.out.kept hfin); have HY2 := Lib.hid (HYA.out.kept hfin); clear hfin
         have HFIN : Hid (∀ e w', RetRef ⟨(v1 : Int), v2, v3, v4, (v5 : Int), (v6 : Int), (xs.drop 35).take m, (xs.drop (35 + m)).take v7⟩ (6 + sz) (.bool true) (fun U => Byt U (some ⟨B, O, none⟩) n c xs) w e w' → RetRef (ofR xs at') (ofN xs at') (.bool (ofB xs at')) (fun U => Byt U (some ⟨B, O, none⟩) n c xs) w e w') := Lib.hid fun e w' h => by
          obtain ⟨h1, h2, h3⟩ := HYES.out HMT.out (HL.out.symm.trans HQ.out)
          have e1 : ofR xs at' = cand2 xs m := by unfold ofR; rw [h1, h2]; rfl
          have e2 : ofN xs at' = 6 + sz := by unfold ofN; rw [h1]; exact h3
          rw [e1, e2, h1, HCC.out]; exact h
         go_wp2_with fail
         exact bodyPost_ret (results_rec3 rfl _ _ w.heap.size #[.int .i64 v1, .int .u64 v2, .int .u64 v3, .int .u64 v4, .int .i64 v5, .int .i64 v6, .slice qb m (c - 6 - 29), .slice qa v7 (c - 6 - (29 + m))] _ _ rfl rfl rfl rfl ((((((((HZw.out.set 0 _).set 1 _).set 2 _).set 3 _).set 4 _).set 5 _).set 6 _).set 7 _)) rfl
          (HFIN.out _ _ ⟨qb, m, c - 6 - 29, qa, v7, c - 6 - (29 + m), by rw [Int.natCast_add]; rfl, (HKP.out _ (HB0.out.kept (below_set8 HGw.out (Nat.le_refl _)))).1, (HKP.out _ (HB0.out.kept (below_set8 HGw.out (Nat.le_refl _)))).2, below_set8 HGw.out (Nat.le_refl _), HKP.out⟩)
       ·
        have HEQ : Hid ((ST.toList == SU.toList) = false) := Lib.hid (by rw [hse]; exact decide_eq_false hq)
        have HF : Hid (ofB xs at' = false) := Lib.hid (by
         cases h : ofB xs at'
         · rfl
         · exact absurd (HL.out.trans (HREF.out h).2) hq)
        clear hse hq; refine Flow.region (SlRq2 v1 v2 v3 v4 v5 v6 v7 qb m (c - 6 - 29) qa (c - 6 - (29 + m)) at' B O n c sz ST SU L) (Gr V) Gr (by kernel_rfl) (by kernel_rfl) (fun _ _ _ _ h g => slRq2_gr h g) ⟨rfl, rfl, rfl, Nat.le_refl _, fun _ _ => rfl⟩ ?steps ?fin
        case steps =>
         refine .cons (fun A W hfr hinv hdep K hK => ?_) ?_
         · have t9 := tAt (.pointer (some ⟨r, 0, none⟩)) (hfr.at 9 (by kernel_rfl)); refine fW0 rfl ?_; clear hfr hdep; obtain ⟨c0, c1, c2, c3, c4, c5, c6, c7⟩ := (HBv.out.below hinv HBv.out.lt).c8; go_simp; exact hK _ _ (Gr.refl _) hinv (dsT (by trivial))
         refine .cons (fun A W hfr hinv hdep K hK => ?_) ?_
         · have t77 := tAt (.agg #[.int .i64 v1, .int .u64 v2, .int .u64 v3, .int .u64 v4, .int .i64 v5, .int .i64 v6, .slice qb m (c - 6 - 29), .slice qa v7 (c - 6 - (29 + m))]) (hdep 77 (by kernel_rfl)); refine fW0 rfl ?_; clear hfr hdep; go_simp; refine (HMA.out W hinv).mono ?_; rintro e W2 ⟨rfl, g1⟩; exact hK _ _ g1 (Gr.trans hinv g1) (dsT (by trivial))
         refine .cons (fun A W hfr hinv hdep K hK => ?_) ?_
         · have t78 := tAt (.bool true) (hdep 78 (by kernel_rfl)); refine fW0 rfl ?_; clear hfr hdep; go_simp; exact hK _ _ (Gr.refl _) hinv (dsT (by trivial))
         refine .cons (fun A W hfr hinv hdep K hK => ?_) ?_
         · have t79 := tAt (.bool false) (hdep 79 (by kernel_rfl)); refine fW0 rfl ?_; clear hfr hdep; go_simp; exact hK _ _ (Gr.refl _) hinv (dsT (by trivial))
         refine .cons (fun A W hfr hinv hdep K hK => ?_) ?_
         · have sg : A.tmps.getD 80 undef = .bool false := hdep 80 (by kernel_rfl); have t9 := tAt (.pointer (some ⟨r, 0, none⟩)) (hfr.at 9 (by kernel_rfl)); rw [if_pos (Flow.wanted_yes 3 false 80 rfl (by kernel_rfl) sg)]; clear hfr hdep; obtain ⟨c0, c1, c2, c3, c4, c5, c6, c7⟩ := (HBv.out.below hinv HBv.out.lt).c8; go_simp; exact hK _ _ (Gr.refl _) hinv (dsT (by trivial))
         refine .cons (fun A W hfr hinv hdep K hK => ?_) ?_
         · have sg : A.tmps.getD 80 undef = .bool false := hdep 80 (by kernel_rfl); have t1 := tAt (.int .u64 at') (hfr.at 1 (by kernel_rfl)); rw [if_pos (Flow.wanted_yes 3 false 80 rfl (by kernel_rfl) sg)]; clear hfr hdep; go_simp; exact hK _ _ (Gr.refl _) hinv (dsT (by trivial))
         refine .cons (fun A W hfr hinv hdep K hK => ?_) ?_
         · have sg : A.tmps.getD 80 undef = .bool false := hdep 80 (by kernel_rfl); have t81 := tAt (.agg #[.int .i64 v1, .int .u64 v2, .int .u64 v3, .int .u64 v4, .int .i64 v5, .int .i64 v6, .slice qb m (c - 6 - 29), .slice qa v7 (c - 6 - (29 + m))]) (hdep 81 (by kernel_rfl)); have t82 := tAt (.int .u64 at') (hdep 82 (by kernel_rfl)); rw [if_pos (Flow.wanted_yes 3 false 80 rfl (by kernel_rfl) sg)]; clear hfr hdep; go_simp; refine (HRB.out W hinv).mono ?_; rintro e W2 ⟨q2, m2, d2, rfl, hy2, g1, _⟩; exact hK _ _ g1 (Gr.trans hinv g1) (fun d hd => by cases hd; exact ⟨_, _, _, rfl, hy2⟩)
         refine .cons (fun A W hfr hinv hdep K hK => ?_) ?_
         ·
          have sg : A.tmps.getD 80 undef = .bool false := hdep 80 (by kernel_rfl); have s83 : IsB W (A.tmps.getD 83 undef) L := hdep 83 (by kernel_rfl); rw [if_pos (Flow.wanted_yes 3 false 80 rfl (by kernel_rfl) sg)]; clear hfr hdep; obtain ⟨q2, m2, d2, s83, hy2⟩ := s83; have t83 := tmpAt s83; have hcv := hy2.lies.convert hy2.len d2 31 5 9 Tryz.underlying31 Tryz.underlying5 Tryz.underlying9
          rw [← HST.out] at hcv
          go_simp; exact hK _ _ (Gr.refl _) hinv (dsT (by trivial))
         refine .cons (fun A W hfr hinv hdep K hK => ?_) ?_
         · have sg : A.tmps.getD 80 undef = .bool false := hdep 80 (by kernel_rfl); have t0 := tAt (.slice (some ⟨B, O, none⟩) n c) (hfr.at 0 (by kernel_rfl)); rw [if_pos (Flow.wanted_yes 3 false 80 rfl (by kernel_rfl) sg)]; clear hfr hdep; go_simp; exact hK _ _ (Gr.refl _) hinv (dsT (by trivial))
         refine .cons (fun A W hfr hinv hdep K hK => ?_) ?_
         · have sg : A.tmps.getD 80 undef = .bool false := hdep 80 (by kernel_rfl); have t7 := tAt (.int .i64 sz) (hfr.at 7 (by kernel_rfl)); rw [if_pos (Flow.wanted_yes 3 false 80 rfl (by kernel_rfl) sg)]; clear hfr hdep; go_simp; exact hK _ _ (Gr.refl _) hinv (dsT (by trivial))
         refine .cons (fun A W hfr hinv hdep K hK => ?_) ?_
         · have sg : A.tmps.getD 80 undef = .bool false := hdep 80 (by kernel_rfl); have t86 := tAt (.int .i64 sz) (hdep 86 (by kernel_rfl)); rw [if_pos (Flow.wanted_yes 3 false 80 rfl (by kernel_rfl) sg)]; clear hfr hdep; obtain ⟨qq1, qq2, qq3, qq4⟩ := QQ.out; go_simp; exact hK _ _ (Gr.refl _) hinv (dsT (by trivial))
         refine .cons (fun A W hfr hinv hdep K hK => ?_) ?_
         · have sg : A.tmps.getD 80 undef = .bool false := hdep 80 (by kernel_rfl); have t85 := tAt (.slice (some ⟨B, O, none⟩) n c) (hdep 85 (by kernel_rfl)); have t87 := tAt (.int .i64 (6 + (sz : Int))) (hdep 87 (by kernel_rfl)); rw [if_pos (Flow.wanted_yes 3 false 80 rfl (by kernel_rfl) sg)]; clear hfr hdep; obtain ⟨qq1, qq2, qq3, qq4⟩ := QQ.out; go_simp; exact hK _ _ (Gr.refl _) hinv (dsT (by trivial))
         refine .cons (fun A W hfr hinv hdep K hK => ?_) ?_
         ·
          have sg : A.tmps.getD 80 undef = .bool false := hdep 80 (by kernel_rfl); have t88 := tAt (.slice (some ⟨B, O, none⟩) (6 + sz) c) (hdep 88 (by kernel_rfl)); rw [if_pos (Flow.wanted_yes 3 false 80 rfl (by kernel_rfl) sg)]; clear hfr hdep; have hyp := (HPX.out.kept hinv); have hcv := hyp.lies.convert hyp.len c 31 5 9 Tryz.underlying31 Tryz.underlying5 Tryz.underlying9
          rw [← HSU.out] at hcv
          go_simp; exact hK _ _ (Gr.refl _) hinv (dsT (by trivial))
         refine .cons (fun A W hfr hinv hdep K hK => ?_) ?_
         · have sg : A.tmps.getD 80 undef = .bool false := hdep 80 (by kernel_rfl); have t84 := tAt (.string ST) (hdep 84 (by kernel_rfl)); have t89 := tAt (.string SU) (hdep 89 (by kernel_rfl)); rw [if_pos (Flow.wanted_yes 3 false 80 rfl (by kernel_rfl) sg)]; clear hfr hdep; have hst := HEQ.out; go_simp; exact hK _ _ (Gr.refl _) hinv (dsT (by trivial))
         refine .cons (fun A W hfr hinv hdep K hK => ?_) ?_
         · have t80 := tAt (.bool false) (hdep 80 (by kernel_rfl)); have t90 := tAt (.bool true) (hdep 90 (by kernel_rfl)); refine fW0 rfl ?_; clear hfr hdep; go_simp; exact hK _ _ (Gr.refl _) hinv (dsT (by trivial))
         exact True.intro
        case fin =>
         intro A W hfr hfin hsl
         have s91 : A.tmps.getD 91 undef = .bool true := hsl 14 _ 91 rfl rfl; have t91 := tmpAt s91; have e := Flow.frame hfr [77, 78, 79, 80, 81, 82, 83, 84, 85, 86, 87, 88, 89, 90, 91] (List.range 96) (by kernel_rfl) (by kernel_rfl)
         simp [List.range, List.range.loop] at e
         rw [t91] at e
         rw [e]; clear e hfr hsl s91 t91
         first
         | (rename_i hB; refine hB _ _ ?_)
         | (rename_i hB y0; refine hB _ _ ?_)
         | (rename_i hB y0 y1; refine hB _ _ ?_)
         | (rename_i hB y0 y1 y2; refine hB _ _ ?_)
         | (rename_i hB y0 y1 y2 y3; refine hB _ _ ?_)
         | (rename_i hB y0 y1 y2 y3 y4; refine hB _ _ ?_)
         | (rename_i hB y0 y1 y2 y3 y4 y5; refine hB _ _ ?_)
         | (rename_i hB y0 y1 y2 y3 y4 y5 y6; refine hB _ _ ?_)
         | (rename_i hB y0 y1 y2 y3 y4 y5 y6 y7; refine hB _ _ ?_)
         | (rename_i hB y0 y1 y2 y3 y4 y5 y6 y7 y8; refine hB _ _ ?_)
         | (rename_i hB y0 y1 y2 y3 y4 y5 y6 y7 y8 y9; refine hB _ _ ?_)
         | (rename_i hB y0 y1 y2 y3 y4 y5 y6 y7 y8 y9 y10; refine hB _ _ ?_)
         | (rename_i hB y0 y1 y2 y3 y4 y5 y6 y7 y8 y9 y10 y11; refine hB _ _ ?_)
         | (rename_i hB y0 y1 y2 y3 y4 y5 y6 y7 y8 y9 y10 y11 y12; refine hB _ _ ?_)
         have HZw := Lib.hid (HZv.out.below hfin HZv.out.lt); have HGw := Lib.hid (Gr.trans HGv.out hfin); obtain ⟨z0, z1, z2, z3, z4, z5, z6, z7⟩ := HZw.out.c8; obtain ⟨f0, f1, f2, f3, f4, f5, f6, f7⟩ := HZw.out.f8; go_wp2_with fail; exact bodyPost_ret (results_rec3 rfl _ _ w.heap.size #[.int .i64 0, .int .u64 0, .int .u64 0, .int .u64 0, .int .i64 0, .int .i64 0, .slice none 0 0, .slice none 0 0] _ _ rfl rfl rfl rfl ((((((((HZw.out.set 0 _).set 1 _).set 2 _).set 3 _).set 4 _).set 5 _).set 6 _).set 7 _)) rfl (HNO.out HF.out _ _ ⟨none, 0, 0, none, 0, 0, rfl, Byt.nil _, Byt.nil _, below_set8 HGw.out (Nat.le_refl _), fun U _ => ⟨Byt.nil U, Byt.nil U⟩⟩)
end Go.Proofs.YtlijbgapkmfnaaaGreat
