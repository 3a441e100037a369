/-
  Part 8 of what the laws of stage 6 rest on: contracts of the functions that they call, and what these rest on.
-/
import Derived.Maps.AppendAt
import Derived.OrdersIn
import Derived.RangeFuncCalls
import Derived.OwnWalkIn
import Derived.Test.YtlijbgapkmfnaaaGreatProg
import Derived.Test.YtlijbgapkmfnaaaGreatV1
import Derived.Test.YtlijbgapkmfnaaaGreatV4
import Derived.Test.YtlijbgapkmfnaaaGreatV5
import Derived.Test.YtlijbgapkmfnaaaGreatV6
import Derived.Test.YtlijbgapkmfnaaaGreatV7
set_option linter.unusedVariables false
set_option linter.unusedSimpArgs false
namespace Go.Proofs.YtlijbgapkmfnaaaGreat
open Go.RowKit Cr
theorem mayQ_no {k : Int} {t x : Nat} {g o : Int} {nb na : Nat} (h : ¬ (t ≠ 0 ∧ ((k = 1 ∧ x = 0 ∧ nb = na ∧ 0 ≤ g ∧ g < 4096 ∧ 1 ≤ na ∧ 0 ≤ o ∧ o + na ≤ 248) ∨ (k = 2 ∧ nb = 0 ∧ 0 ≤ g ∧ g < 4096 ∧ 1 ≤ na ∧ 0 ≤ o ∧ o + na ≤ 248) ∨ ((k = 3 ∨ k = 4) ∧ x = 0 ∧ g = 0 ∧ o = 0 ∧ nb = 0 ∧ na = 0)))) : mayQ k t x g o nb na = false := by
 cases hm : mayQ k t x g o nb na
 · rfl
 · exact absurd (mayQ_iff.1 hm) h
set_option maxRecDepth 100000 in
set_option maxHeartbeats 4000000 in
theorem refMay_any (c : Rc) (pb : Option Addr) (nb cb : Nat) (pa : Option Addr) (na ca : Nat) (w : World) (hb : Byt w pb nb cb c.b) (ha : Byt w pa na ca c.a) :
  Calls Tryz.prog 46 #[.agg #[.int .i64 c.k, .int .u64 c.t, .int .u64 c.p, .int .u64 c.x, .int .i64 c.g, .int .i64 c.o, .slice pb nb cb, .slice pa na ca]] w (RetB (mayR c) w) := by
 obtain ⟨k, t, p, x, g, o, b, a⟩ := c
 simp only at hb ha
 simp only
 have lb := hb.len; have la := ha.len
 have na63 : (na : Int) ≤ 9223372036854775807 := by have h1 := ha.most; have h2 := ha.cap; unfold maxLen at h1; omega
 have nb63 : (nb : Int) ≤ 9223372036854775807 := by have h1 := hb.most; have h2 := hb.cap; unfold maxLen at h1; omega
 have HM : Hid (mayR ⟨k, t, p, x, g, o, b, a⟩ = mayQ k t x g o nb na) := Lib.hid (by unfold mayR; rw [← lb, ← la]); rw [HM.out]; have HG := Lib.hid ((Gr.refl w).alloc (Nat.le_refl _) (.cells #[.int .i64 k, .int .u64 t, .int .u64 p, .int .u64 x, .int .i64 g, .int .i64 o, .slice pb nb cb, .slice pa na ca] TR)); have HS := Lib.hid (fun j => refSameRec_any ⟨k, t, p, x, g, o, b, a⟩ ⟨j, t, p, 0, 0, 0, [], []⟩ pb nb cb pa na ca none 0 0 none 0 0 _ (hb.kept HG.out) (ha.kept HG.out) (Byt.nil _) (Byt.nil _)); have HE := Lib.hid (show (b = [] ↔ nb = 0) ∧ (a = [] ↔ na = 0) from ⟨by rw [len_nil', lb], by rw [len_nil', la]⟩)
 simp only at HS
 clear lb la hb ha HM
 by_cases hk1 : k = 1
 ·
  subst hk1
  by_cases ht : t = 0
  ·
   subst ht; have HR : Hid (mayQ 1 0 x g o nb na = false) := Lib.hid (mayQ_no (by omega))
   go_enter Tryz.func46, Tryz.ntmps46
   go_wp2_with fail
   go_ret
   exact ⟨ret_b HR.out.symm, HG.out⟩
  ·
   have ht2 : ¬ (t : Int) = 0 := by omega
   by_cases h1 : g < 0
   ·
    skip
    have HR : Hid (mayQ 1 t x g o nb na = false) := Lib.hid (mayQ_no (by omega))
    go_enter Tryz.func46, Tryz.ntmps46
    go_wp2_with fail
    go_ret
    exact ⟨ret_b HR.out.symm, HG.out⟩
   ·
    skip
    by_cases h2 : 4096 ≤ g
    ·
     skip
     have HR : Hid (mayQ 1 t x g o nb na = false) := Lib.hid (mayQ_no (by omega))
     go_enter Tryz.func46, Tryz.ntmps46
     go_wp2_with fail
     go_ret
     exact ⟨ret_b HR.out.symm, HG.out⟩
    ·
     skip
     by_cases h3 : o < 0
     ·
      skip
      have HR : Hid (mayQ 1 t x g o nb na = false) := Lib.hid (mayQ_no (by omega))
      go_enter Tryz.func46, Tryz.ntmps46
      go_wp2_with fail
      go_ret
      exact ⟨ret_b HR.out.symm, HG.out⟩
     ·
      skip
      by_cases h4 : 248 ≤ o
      ·
       skip
       have HR : Hid (mayQ 1 t x g o nb na = false) := Lib.hid (mayQ_no (by omega))
       go_enter Tryz.func46, Tryz.ntmps46
       go_wp2_with fail
       go_ret
       exact ⟨ret_b HR.out.symm, HG.out⟩
      ·
       skip
       by_cases h5 : na < 1
       ·
        skip
        have HR : Hid (mayQ 1 t x g o nb na = false) := Lib.hid (mayQ_no (by omega))
        have h5b : (na : Int) < 1 := by omega
        go_enter Tryz.func46, Tryz.ntmps46
        go_wp2_with fail
        go_ret
        exact ⟨ret_b HR.out.symm, HG.out⟩
       ·
        have h5b : ¬ (na : Int) < 1 := by omega
        by_cases h6 : 248 - o < (na : Int)
        ·
         skip
         have HR : Hid (mayQ 1 t x g o nb na = false) := Lib.hid (mayQ_no (by omega))
         go_enter Tryz.func46, Tryz.ntmps46
         go_wp2_with fail
         go_ret
         exact ⟨ret_b HR.out.symm, HG.out⟩
        ·
         skip
         by_cases hx : x = 0
         ·
          subst hx
          by_cases hl : nb = na
          ·
           subst hl; have HR : Hid (mayQ 1 t 0 g o nb nb = true) := Lib.hid (mayQ_iff.2 (by omega))
           go_enter Tryz.func46, Tryz.ntmps46
           go_wp2_with fail
           go_ret
           exact ⟨ret_b HR.out.symm, HG.out⟩
          ·
           have hl2 : ¬ (nb : Int) = na := by omega
           have HR : Hid (mayQ 1 t 0 g o nb na = false) := Lib.hid (mayQ_no (by omega))
           go_enter Tryz.func46, Tryz.ntmps46
           go_wp2_with fail
           go_ret
           exact ⟨ret_b (by rw [HR.out]; exact beq_eq_false_iff_ne.2 hl2), HG.out⟩
         ·
          have hx2 : ¬ (x : Int) = 0 := by omega
          have HR : Hid (mayQ 1 t x g o nb na = false) := Lib.hid (mayQ_no (by omega))
          go_enter Tryz.func46, Tryz.ntmps46
          go_wp2_with fail
          go_ret
          exact ⟨ret_b HR.out.symm, HG.out⟩
 ·
  skip
  by_cases hk2 : k = 2
  ·
   subst hk2
   by_cases ht : t = 0
   ·
    subst ht; have HR : Hid (mayQ 2 0 x g o nb na = false) := Lib.hid (mayQ_no (by omega))
    go_enter Tryz.func46, Tryz.ntmps46
    go_wp2_with fail
    go_ret
    exact ⟨ret_b HR.out.symm, HG.out⟩
   ·
    have ht2 : ¬ (t : Int) = 0 := by omega
    by_cases h1 : g < 0
    ·
     skip
     have HR : Hid (mayQ 2 t x g o nb na = false) := Lib.hid (mayQ_no (by omega))
     go_enter Tryz.func46, Tryz.ntmps46
     go_wp2_with fail
     go_ret
     exact ⟨ret_b HR.out.symm, HG.out⟩
    ·
     skip
     by_cases h2 : 4096 ≤ g
     ·
      skip
      have HR : Hid (mayQ 2 t x g o nb na = false) := Lib.hid (mayQ_no (by omega))
      go_enter Tryz.func46, Tryz.ntmps46
      go_wp2_with fail
      go_ret
      exact ⟨ret_b HR.out.symm, HG.out⟩
     ·
      skip
      by_cases h3 : o < 0
      ·
       skip
       have HR : Hid (mayQ 2 t x g o nb na = false) := Lib.hid (mayQ_no (by omega))
       go_enter Tryz.func46, Tryz.ntmps46
       go_wp2_with fail
       go_ret
       exact ⟨ret_b HR.out.symm, HG.out⟩
      ·
       skip
       by_cases h4 : 248 ≤ o
       ·
        skip
        have HR : Hid (mayQ 2 t x g o nb na = false) := Lib.hid (mayQ_no (by omega))
        go_enter Tryz.func46, Tryz.ntmps46
        go_wp2_with fail
        go_ret
        exact ⟨ret_b HR.out.symm, HG.out⟩
       ·
        skip
        by_cases h5 : na < 1
        ·
         skip
         have HR : Hid (mayQ 2 t x g o nb na = false) := Lib.hid (mayQ_no (by omega))
         have h5b : (na : Int) < 1 := by omega
         go_enter Tryz.func46, Tryz.ntmps46
         go_wp2_with fail
         go_ret
         exact ⟨ret_b HR.out.symm, HG.out⟩
        ·
         have h5b : ¬ (na : Int) < 1 := by omega
         by_cases h6 : 248 - o < (na : Int)
         ·
          skip
          have HR : Hid (mayQ 2 t x g o nb na = false) := Lib.hid (mayQ_no (by omega))
          go_enter Tryz.func46, Tryz.ntmps46
          go_wp2_with fail
          go_ret
          exact ⟨ret_b HR.out.symm, HG.out⟩
         ·
          skip
          by_cases hl : nb = 0
          ·
           subst hl; have HR : Hid (mayQ 2 t x g o 0 na = true) := Lib.hid (mayQ_iff.2 (by omega))
           go_enter Tryz.func46, Tryz.ntmps46
           go_wp2_with fail
           go_ret
           exact ⟨ret_b HR.out.symm, HG.out⟩
          ·
           have hl2 : ¬ (nb : Int) = 0 := by omega
           have HR : Hid (mayQ 2 t x g o nb na = false) := Lib.hid (mayQ_no (by omega))
           go_enter Tryz.func46, Tryz.ntmps46
           go_wp2_with fail
           go_ret
           exact ⟨ret_b (by rw [HR.out]; exact beq_eq_false_iff_ne.2 hl2), HG.out⟩
  ·
   skip
   by_cases hk3 : k = 3
   ·
    subst hk3
    by_cases ht : t = 0
    ·
     subst ht; have HR : Hid (mayQ 3 0 x g o nb na = false) := Lib.hid (mayQ_no (by omega))
     go_enter Tryz.func46, Tryz.ntmps46
     go_wp2_with fail
     go_ret
     exact ⟨ret_b HR.out.symm, HG.out⟩
    ·
     have ht2 : ¬ (t : Int) = 0 := by omega
     have HR : Hid (sameR ⟨3, t, p, x, g, o, b, a⟩ ⟨3, t, p, 0, 0, 0, [], []⟩ = mayQ 3 t x g o nb na) := Lib.hid (by rw [Bool.eq_iff_iff, mayQ_iff]; simp [sameR, HE.out.1, HE.out.2, ht])
     go_enter Tryz.func46, Tryz.ntmps46
     go_wp2_with fail; refine (HS.out 3).mono ?_; rintro e w1 ⟨rfl, g1⟩; have HG1 := Lib.hid (Gr.trans HG.out g1); clear g1; go_wp2_with fail
     go_ret
     exact ⟨ret_b HR.out, HG1.out⟩
   ·
    skip
    by_cases hk4 : k = 4
    ·
     subst hk4
     by_cases ht : t = 0
     ·
      subst ht; have HR : Hid (mayQ 4 0 x g o nb na = false) := Lib.hid (mayQ_no (by omega))
      go_enter Tryz.func46, Tryz.ntmps46
      go_wp2_with fail
      go_ret
      exact ⟨ret_b HR.out.symm, HG.out⟩
     ·
      have ht2 : ¬ (t : Int) = 0 := by omega
      have HR : Hid (sameR ⟨4, t, p, x, g, o, b, a⟩ ⟨4, t, p, 0, 0, 0, [], []⟩ = mayQ 4 t x g o nb na) := Lib.hid (by rw [Bool.eq_iff_iff, mayQ_iff]; simp [sameR, HE.out.1, HE.out.2, ht])
      go_enter Tryz.func46, Tryz.ntmps46
      go_wp2_with fail; refine (HS.out 4).mono ?_; rintro e w1 ⟨rfl, g1⟩; have HG1 := Lib.hid (Gr.trans HG.out g1); clear g1; go_wp2_with fail
      go_ret
      exact ⟨ret_b HR.out, HG1.out⟩
    ·
     skip
     have HR : Hid (mayQ k t x g o nb na = false) := Lib.hid (mayQ_no (by omega))
     go_enter Tryz.func46, Tryz.ntmps46
     go_wp2_with fail
     go_ret
     exact ⟨ret_b HR.out.symm, HG.out⟩
theorem refSize_any (c : Rc) (pb : Option Addr) (nb cb : Nat) (pa : Option Addr) (na ca : Nat) (w : World) (hb : Byt w pb nb cb c.b) (ha : Byt w pa na ca c.a) :
  Calls Tryz.prog 20 #[.agg #[.int .i64 c.k, .int .u64 c.t, .int .u64 c.p, .int .u64 c.x, .int .i64 c.g, .int .i64 c.o, .slice pb nb cb, .slice pa na ca]] w (RetI (sizeR c) w) := by
 have HM := Lib.hid (refMay_any c pb nb cb pa na ca (w.alloc (.cells #[.int .i64 c.k, .int .u64 c.t, .int .u64 c.p, .int .u64 c.x, .int .i64 c.g, .int .i64 c.o, .slice pb nb cb, .slice pa na ca] TR)) (hb.kept ((Gr.refl w).alloc (Nat.le_refl _) _)) (ha.kept ((Gr.refl w).alloc (Nat.le_refl _) _))); have HB := Lib.hid (Blk.new w TR #[.int .i64 c.k, .int .u64 c.t, .int .u64 c.p, .int .u64 c.x, .int .i64 c.g, .int .i64 c.o, .slice pb nb cb, .slice pa na ca]); have lb := hb.len; have la := ha.len
 cases hm : mayR c
 ·
  rw [hm] at HM
  have HR : Hid (sizeR c = 0) := Lib.hid (by simp [sizeR, hm]); obtain ⟨k, t, p, x, g, o, b, a⟩ := c
  simp only at HM HB
  obtain ⟨c0, c1, c2, c3, c4, c5, c6, c7⟩ := HB.out.c8; clear hm hb ha lb la
  go_enter Tryz.func20, Tryz.ntmps20
  go_wp2_with fail; refine HM.out.mono ?_; rintro e w1 ⟨rfl, g1⟩; have HG := Lib.hid (grow1 g1); clear g1 HM c0 c1 c2 c3 c4 c5 c6 c7; go_wp2_with fail
  go_ret
  exact ⟨ret_i (by first | (rw [HR.out]; done) | (rw [HR.out]; rfl)), HG.out⟩
 ·
  rw [hm] at HM
  have hf := mayR_fits hm; have h1 := hf.na; have h2 := hf.nb1; have HR : Hid ((sizeR c : Int) = 35 + nb + na) := Lib.hid (by simp [sizeR, hm]; omega)
  have n1 : nb ≤ 248 := by omega
  have n2 : na ≤ 248 := by omega
  obtain ⟨k, t, p, x, g, o, b, a⟩ := c
  simp only at HM HB
  obtain ⟨c0, c1, c2, c3, c4, c5, c6, c7⟩ := HB.out.c8; clear hm hb ha lb la hf h1 h2
  go_enter Tryz.func20, Tryz.ntmps20
  go_wp2_with fail; refine HM.out.mono ?_; rintro e w1 ⟨rfl, g1⟩; have HB1 := HB.out.below g1 HB.out.lt; have HG := Lib.hid (grow1 g1); clear g1 HM c0 c1 c2 c3 c4 c5 c6 c7; obtain ⟨c0, c1, c2, c3, c4, c5, c6, c7⟩ := HB1.c8; clear HB1; go_wp2_with fail
  go_ret
  exact ⟨ret_i (by first | (rw [HR.out]; done) | (rw [HR.out]; rfl)), HG.out⟩
def muchR (nb na : Nat) : Bool := decide (600 < nb) || decide (600 < na)
theorem refMuch_any (k : Int) (t : Nat) (p : Nat) (x : Nat) (g : Int) (o : Int) (pb : Option Addr) (nb : Nat) (cb : Nat) (pa : Option Addr) (na : Nat) (ca : Nat) (w : World) : Calls Tryz.prog 17 #[.agg #[.int .i64 k, .int .u64 t, .int .u64 p, .int .u64 x, .int .i64 g, .int .i64 o, .slice pb nb cb, .slice pa na ca]] w (RetB (muchR nb na) w) := by
 have HG := Lib.hid ((Gr.refl w).alloc (Nat.le_refl _) (.cells #[.int .i64 k, .int .u64 t, .int .u64 p, .int .u64 x, .int .i64 g, .int .i64 o, .slice pb nb cb, .slice pa na ca] TR))
 by_cases h1 : 600 < nb
 ·
  have h1' : (600 : Int) < nb := by omega
  have HR : Hid (muchR nb na = true) := Lib.hid (by simp [muchR, h1])
  go_enter Tryz.func17, Tryz.ntmps17
  go_wp2_with fail
  go_ret
  exact ⟨ret_b HR.out.symm, HG.out⟩
 ·
  have h1' : ¬ (600 : Int) < nb := by omega
  by_cases h2 : 600 < na
  ·
   have h2' : (600 : Int) < na := by omega
   have HR : Hid (muchR nb na = true) := Lib.hid (by simp [muchR, h2])
   go_enter Tryz.func17, Tryz.ntmps17
   go_wp2_with fail
   go_ret
   exact ⟨ret_b HR.out.symm, HG.out⟩
  ·
   have h2' : ¬ (600 : Int) < na := by omega
   have HR : Hid (muchR nb na = false) := Lib.hid (by simp [muchR, h1, h2])
   go_enter Tryz.func17, Tryz.ntmps17
   go_wp2_with fail
   go_ret
   exact ⟨ret_b HR.out.symm, HG.out⟩
end Go.Proofs.YtlijbgapkmfnaaaGreat
namespace Go.Proofs.YtlijbgapkmfnaaaGreat
open Go.RowKit Go.Maps
def RetAnyS (w : World) (e : Ending) (w' : World) : Prop := ∃ x : Sec, e = .returned (.agg (sec x)) ∧ Gr w w'
theorem step_copy_cut {w : World} {ops : Array Oper} {o : Oper} {a : Act} {K : Act → World → Prop} {Q : Exit → Act → World → Prop} {E : Prop} (hgd : o.guard = none) (d s : Operand)
  (ho : o.op = .call { callee := .builtin .copy, args := #[d, s], argTypes := #[31, 31] }) {g : Nat} {xs : List Int} (hd : a.eval d = .slice (some ⟨g, 0, none⟩) 256 256) (hb : Blk w g TS (sec (Sx xs))) (hx : IsSec xs)
  {q : Option Addr} {m c : Nat} {ys : List Int} (hs : a.eval s = .slice q m c) (hy : Byt w q m c ys)
  (h : ∀ W' x n, Blk W' g TS (sec x) → Only g w W' → K (a.put o.dst (goInt n)) W') : if Region.wanted o (yielded ops a.tmps) = true then Oper.wp Tryz.prog o a w K Q else E := by
 rw [if_pos (by simp [Region.wanted, hgd])]; have hl := hy.len
 by_cases h0 : m = 0
 ·
  subst h0; have hrun := run_copy_none (P := Tryz.prog) w 31 31 o.type 5 (some ⟨g, 0, none⟩) q 256 256 0 c bt4.us bt4_size (by simp)
  unfold Oper.wp
  simp only [execOp, ho, resolve, invoke, builtin, hd, hs]
  simp [hd, hs, hrun, Result.andThen]
  exact h w _ _ hb (Only.refl _ _)
 ·
  obtain ⟨b, of, rfl, _⟩ := hy.at (by omega)
  have hmn : Nat.min m 256 ≤ m := Nat.min_le_left _ _; have hmx : Nat.min m 256 ≤ 256 := Nat.min_le_right _ _
  have hyl : (ys.take (Nat.min m 256)).length = Nat.min m 256 := by rw [List.length_take]; omega
  have hy2 := hy.pre (Nat.min m 256) c hmn (Nat.le_trans hmn hy.cap) (Nat.le_refl _); have hrun := run_copy_row (P := Tryz.prog) w 31 31 o.type 5 g 0 256 256 ⟨b, of, none⟩ m c (sec (Sx xs)) TS ((ys.take (Nat.min m 256)).map (Value.int .u8)) bt4.us bt4_size hb (by rw [List.length_map, hyl]) hy2.news (by rw [List.length_map, hyl, sec_size]; omega) (u8s_oneCell _)
  rw [List.append_assoc, lay_cells hx hy2.small (by rw [hyl]; omega)] at hrun
  unfold Oper.wp
  simp only [execOp, ho, resolve, invoke, builtin, hd, hs]
  simp [hd, hs, hrun, Result.andThen]
  exact h _ _ _ (hb.row _) (Only.row _ _ _)
structure ScB (w : World) (B : Nat) (Z : List Int) (k : Int) (ep : Nat) (q : Option Addr) (m c : Nat) (rp : Option Addr) (rn rc : Nat) (any : Bool) (W : World) : Prop where
 gr : Gr w W
 inb : Blk W B TRaw #[.int .i64 k, .int .u64 (ep : Int), .slice q m c, .slice rp rn rc, .bool any]
 res : Blk W (B + 1) TS (sec (Sx Z))
 var : Blk W (B + 1 + 1) TS (sec (Sx Z))
 lo : w.heap.size = B
theorem scB_made (w : World) (Z : List Int) (k : Int) (ep : Nat) (q : Option Addr) (m c : Nat) (rp : Option Addr) (rn rc : Nat) (any : Bool) : ScB w w.heap.size Z k ep q m c rp rn rc any (((w.alloc (.cells #[.int .i64 k, .int .u64 (ep : Int), .slice q m c, .slice rp rn rc, .bool any] TRaw)).alloc (.cells (sec (Sx Z)) TS)).alloc (.cells (sec (Sx Z)) TS)) := by
 obtain ⟨W1, h1⟩ : ∃ W1, W1 = w.alloc (.cells #[.int .i64 k, .int .u64 (ep : Int), .slice q m c, .slice rp rn rc, .bool any] TRaw) := ⟨_, rfl⟩
 have s1 : W1.heap.size = w.heap.size + 1 := by rw [h1, World.size_alloc]
 obtain ⟨W2, h2⟩ : ∃ W2, W2 = W1.alloc (.cells (sec (Sx Z)) TS) := ⟨_, rfl⟩
 have s2 : W2.heap.size = w.heap.size + 1 + 1 := by rw [h2, World.size_alloc, s1]
 have b1 : Blk W1 w.heap.size TRaw #[.int .i64 k, .int .u64 (ep : Int), .slice q m c, .slice rp rn rc, .bool any] := by rw [h1]; exact Blk.new w _ _
 have b2 : Blk W2 (w.heap.size + 1) TS (sec (Sx Z)) := by rw [h2, ← s1]; exact Blk.new W1 _ _
 rw [← h1, ← h2]
 have g1 : Gr w W1 := by rw [h1]; exact Gr.new _ _
 have g2 : Gr W1 W2 := by rw [h2]; exact Gr.new _ _
 refine ⟨Gr.trans g1 (Gr.trans g2 (Gr.new _ _)), ?_, b2.alloc _, ?_, rfl⟩
 · exact (by rw [h2]; exact b1.alloc _ : Blk W2 w.heap.size TRaw #[.int .i64 k, .int .u64 (ep : Int), .slice q m c, .slice rp rn rc, .bool any]).alloc _
 · rw [← s2]; exact Blk.new W2 _ _
theorem Recs.at {w : World} {p : Option Addr} {n c : Nat} (h : Recs w p n c) (k : Nat) (hk : k < n) : ∃ (b o : Nat) (z : RX), p = some ⟨b, o, none⟩ ∧ z.c.In ∧ ∀ V, Gr w V → (V.cell? ⟨b, o + k * 8, none⟩ = some (.int .i64 z.c.k) ∧ V.cell? ⟨b, o + k * 8 + 1, none⟩ = some (.int .u64 z.c.t) ∧ V.cell? ⟨b, o + k * 8 + 2, none⟩ = some (.int .u64 z.c.p) ∧ V.cell? ⟨b, o + k * 8 + 3, none⟩ = some (.int .u64 z.c.x) ∧ V.cell? ⟨b, o + k * 8 + 4, none⟩ = some (.int .i64 z.c.g) ∧ V.cell? ⟨b, o + k * 8 + 5, none⟩ = some (.int .i64 z.c.o) ∧ V.cell? ⟨b, o + k * 8 + 6, none⟩ = some (.slice z.pb z.nb z.cb) ∧ V.cell? ⟨b, o + k * 8 + 7, none⟩ = some (.slice z.pa z.na z.ca)) ∧ Byt V z.pb z.nb z.cb z.c.b ∧ Byt V z.pa z.na z.ca z.c.a := by
 obtain ⟨b, o, rfl, hc⟩ := h.lies (by omega); obtain ⟨z, hz, hzb, hza, hzi⟩ := hc k hk; refine ⟨b, o, z, rfl, hzi, fun V gr => ⟨?_, hzb.kept gr, hza.kept gr⟩⟩
 have cz : ∀ j v, w.cell? ⟨b, j, none⟩ = some v → V.cell? ⟨b, j, none⟩ = some v := fun j v h => (Below.cell gr (p := ⟨b, j, none⟩) (blk_lt h)).trans h
 obtain ⟨z0, z1, z2, z3, z4, z5, z6, z7⟩ := hz; exact ⟨cz _ _ z0, cz _ _ z1, cz _ _ z2, cz _ _ z3, cz _ _ z4, cz _ _ z5, cz _ _ z6, cz _ _ z7⟩
set_option maxRecDepth 100000 in
set_option maxHeartbeats 1000000 in
theorem wsector_bytes (k : Int) (ep : Nat) (q : Option Addr) (m c : Nat) (xs : List Int) (rp : Option Addr) (rn rc : Nat) (w : World) (hy : Byt w q m c xs) : Calls Tryz.prog 12 #[.agg #[.int .i64 k, .int .u64 (ep : Int), .slice q m c, .slice rp rn rc, .bool true]] w (RetAnyS w) := by
 have hz := zero_sec
 rw [← Sx_zero] at hz
 obtain ⟨Z, hZ⟩ : ∃ Z, Z = List.replicate 256 (0 : Int) := ⟨_, rfl⟩
 rw [← hZ] at hz
 obtain ⟨W1, hW1⟩ : ∃ W1, W1 = (((w.alloc (.cells #[.int .i64 k, .int .u64 (ep : Int), .slice q m c, .slice rp rn rc, .bool true] TRaw)).alloc (.cells (sec (Sx Z)) TS)).alloc (.cells (sec (Sx Z)) TS)) := ⟨_, rfl⟩; have HS : Hid (ScB w w.heap.size Z k ep q m c rp rn rc true W1) := Lib.hid (by rw [hW1]; exact scB_made w Z k ep q m c rp rn rc true); have HY := Lib.hid (hy.kept HS.out.gr); have HZ := Lib.hid hZ; have HW1 := Lib.hid hW1.symm; clear hy hW1 hZ
 go_enter Tryz.func12, Tryz.ntmps12
 go_wp2_with fail; rw [HW1.out]; have HBd := Lib.hid (show Blk W1.drew (w.heap.size + 1 + 1) TS (sec (Sx Z)) from HS.out.var.heap rfl); have HIn := Lib.hid (show Blk W1.drew w.heap.size TRaw #[.int .i64 k, .int .u64 (ep : Int), .slice q m c, .slice rp rn rc, .bool true] from HS.out.inb.heap rfl); have HYd := Lib.hid (HY.out.kept (Gr.refl W1).drew); have HZs : Hid (IsSec Z) := Lib.hid (by rw [HZ.out]; exact zeros_sec)
 have HCC : Hid (∀ V, Only (w.heap.size + 1 + 1) W1.drew V → V.cell? ⟨w.heap.size, 2, none⟩ = some (.slice q m c)) := Lib.hid fun V ho => (HIn.out.stays (ho.block w.heap.size (by omega))).cell 2
 have c2 := HS.out.inb.cell 2
 simp at c2
 clear hz HW1
 go_region_held3 (fun w' => w'.cell? ⟨w.heap.size, 2, none⟩ = some (.slice q m c)) (first | exact c2 | exact hc3) ((refine step_copy_cut rfl (.tmp 11) (.tmp 13) rfl rfl HBd.out HZs.out rfl HYd.out ?_; intro W3 x nn hb3 ho3; have hc3 := HCC.out W3 ho3))
 have HR3 := Lib.hid ((show Blk W1.drew (w.heap.size + 1) TS (sec (Sx Z)) from HS.out.res.heap rfl).stays (ho3.block (w.heap.size + 1) (by omega))); have HV3 := Lib.hid hb3; have HG3 := Lib.hid (ho3.below (HS.out.gr.drew) (by omega)); clear hb3 ho3 hc3 c2 HBd HIn HYd HCC HS
 go_wp2_with (first | (refine wpList_load_x rfl _ rfl HV3.out rfl ?_) | (refine wpList_store_x rfl _ _ rfl HR3.out rfl rfl ?_))
 exact bodyPost_ret (results_x rfl _ _ _ _ rfl (HR3.out.row _)) rfl ⟨_, rfl, below_setRow HG3.out (by omega) _⟩
theorem rem_twice (k n : Int) (hn : 0 < n) : -n < k.tmod n ∧ k.tmod n < n ∧ 0 ≤ (k.tmod n + n).tmod n ∧ (k.tmod n + n).tmod n < n := by
 have h1 := Int.tmod_lt_of_pos k hn
 have h2 : -n < k.tmod n := by
  have := Int.tmod_lt_of_pos (-k) hn
  rw [Int.neg_tmod] at this
  omega
 exact ⟨h2, h1, Int.tmod_nonneg n (by omega), Int.tmod_lt_of_pos _ hn⟩
theorem may_small {r : Rc} (h : mayR r = true) (at' : Nat) : (recL r at').length ≤ 600 := by
 rw [recL_len]; have := mayQ_iff.1 h
 omega
set_option maxRecDepth 100000 in
set_option maxHeartbeats 4000000 in
theorem wsector_recs (k : Int) (ep : Nat) (q : Option Addr) (m c : Nat) (xs : List Int) (rp : Option Addr) (rn rc : Nat) (w : World) (hy : Byt w q m c xs) (hr : Recs w rp rn rc) (hm : m ≤ 1048576) (hrn : rn ≤ 1048576) (he : ep ≤ 18446744073709551615) : Calls Tryz.prog 12 #[.agg #[.int .i64 k, .int .u64 (ep : Int), .slice q m c, .slice rp rn rc, .bool false]] w (RetAnyS w) := by
 have hz := zero_sec
 rw [← Sx_zero] at hz
 obtain ⟨Z, hZ⟩ : ∃ Z, Z = List.replicate 256 (0 : Int) := ⟨_, rfl⟩
 rw [← hZ] at hz
 obtain ⟨W1, hW1⟩ : ∃ W1, W1 = (((w.alloc (.cells #[.int .i64 k, .int .u64 (ep : Int), .slice q m c, .slice rp rn rc, .bool false] TRaw)).alloc (.cells (sec (Sx Z)) TS)).alloc (.cells (sec (Sx Z)) TS)) := ⟨_, rfl⟩; have HS : Hid (ScB w w.heap.size Z k ep q m c rp rn rc false W1) := Lib.hid (by rw [hW1]; exact scB_made w Z k ep q m c rp rn rc false); have HY := Lib.hid (hy.kept HS.out.gr); have HRc := Lib.hid hr; have HW1 := Lib.hid hW1.symm; have HN := Lib.hid (And.intro hm (And.intro hrn he)); have hrem := rem_twice k 64 (by decide); obtain ⟨a0, ha0⟩ : ∃ a : Nat, (a : Int) = (k.tmod 64 + 64).tmod 64 ∧ a < 64 := ⟨((k.tmod 64 + 64).tmod 64).toNat, by omega, by omega⟩
 have q1 : wrap64 (k.tmod 64 + 64) = k.tmod 64 + 64 := by unfold wrap64; omega
 have q2 : IntKind.u64.wrap ((k.tmod 64 + 64).tmod 64) = (a0 : Int) := by rw [IntKind.wrap_u64]; omega
 obtain ⟨J0, hJ0⟩ : ∃ J0, J0 = 232 * a0 := ⟨_, rfl⟩
 have q3 : IntKind.u64.wrap (232 * (a0 : Int)) = (J0 : Int) := by rw [IntKind.wrap_u64]; omega
 have HA : Hid (a0 < 64 ∧ J0 ≤ 18446744073709551615) := Lib.hid (by omega); clear hy hW1 hZ hr hm hrn he ha0 hrem hJ0
 go_enter Tryz.func12, Tryz.ntmps12
 go_wp2_with fail; rw [HW1.out]; have HR0 : Hid (Blk W1 (w.heap.size + 1) TS (sec (Sx Z)) ∧ Gr w W1) := Lib.hid ⟨HS.out.res, HS.out.gr⟩; have HIb := Lib.hid (fun V (g : Gr W1 V) => HS.out.inb.gr g); have HRs := Lib.hid (fun V (g : Gr W1 V) => HS.out.res.gr g); have HG1 := Lib.hid HS.out.gr; have HRw := Lib.hid (HRc.out.up HS.out.gr); clear hz HW1 HS HRc q1 q2 q3
 go_loopw [5, 6, 7] (fun bv av iv wr => ∃ (i N J : Nat) (pB : Option Addr) (cB : Nat) (ys : List Int), i ≤ rn ∧ iv = .int .i64 (i : Int) ∧ bv = .slice pB N cB ∧ av = .int .u64 (J : Int) ∧ Hid (Gr W1 wr ∧ Byt wr pB N cB ys ∧ N ≤ 1048576 + 600 * i ∧ J ≤ 18446744073709551615)) (fun _ _ iv _ => rn - (intOf iv).toNat)
 case atStart => exact ⟨0, m, J0, q, c, xs, Nat.zero_le _, rfl, rfl, rfl, Lib.hid ⟨Gr.refl _, HY.out, by have := HN.out; omega, HA.out.2⟩⟩
 case round =>
  obtain ⟨i, N, J, pB, cB, ys, hi, rfl, rfl, rfl, HG⟩ := hrel; have c3 := (HIb.out wr HG.out.1).cell 3
  simp at c3
  by_cases hlt : i < rn
  ·
   have g3 : (i : Int) < (rn : Int) := by omega
   obtain ⟨b, o, z, rfl, hzi, hrow⟩ := HRw.out.at i hlt
   have HMe : Hid (i + 1 ≤ rn ∧ rn - (i + 1) < rn - i) := Lib.hid ⟨by omega, by omega⟩
   have hq : IntKind.i64.wrap ((i : Int) + 1) = ((i + 1 : Nat) : Int) := by have := HN.out; rw [IntWalk.i64_in _ (by omega)]; omega
   obtain ⟨A, hA⟩ : ∃ A, A = o + i * 8 := ⟨_, rfl⟩
   rw [← hA] at hrow
   have hA' : o + i * 8 = A := hA.symm; have HZ2 := Lib.hid hrow; have HZI := Lib.hid hzi; obtain ⟨x0, x1, x2, x3, x4, x5, x6, x7⟩ := (hrow wr HG.out.1).1; clear hrow hzi hlt hi hA; go_wp2_with fail; refine (refMuch_any z.c.k z.c.t z.c.p z.c.x z.c.g z.c.o z.pb z.nb z.cb z.pa z.na z.ca wr).mono ?_; rintro e w2 ⟨rfl, g2⟩; have HG2 := Lib.hid (Gr.trans HG.out.1 g2); have HB2 := Lib.hid (HG.out.2.1.kept g2); have HNu := Lib.hid HG.out.2.2; have c3' := (HIb.out w2 HG2.out).cell 3
   simp at c3'
   obtain ⟨y0, y1, y2, y3, y4, y5, y6, y7⟩ := (HZ2.out w2 HG2.out).1; clear g2 x0 x1 x2 x3 x4 x5 x6 x7 c3
   cases hmu : muchR z.nb z.na with
   | true =>
    clear hmu y0 y1 y2 y3 y4 y5 y6 y7 c3'; go_wp2_with fail
    go_roundw
    case rel => exact ⟨i + 1, N, J, pB, cB, ys, HMe.out.1, rfl, rfl, rfl, Lib.hid ⟨HG2.out, HB2.out, by have := HNu.out; omega, HNu.out.2⟩⟩
    case measure => exact HMe.out.2
   | false =>
    clear hmu; have HMa := Lib.hid (refMay_any z.c z.pb z.nb z.cb z.pa z.na z.ca w2 (HZ2.out w2 HG2.out).2.1 (HZ2.out w2 HG2.out).2.2); go_wp2_with fail; refine HMa.out.mono ?_; rintro e w3 ⟨rfl, g3'⟩; have HG3 := Lib.hid (Gr.trans HG2.out g3'); have HB3 := Lib.hid (HB2.out.kept g3'); have c3 := (HIb.out w3 HG3.out).cell 3
    simp at c3
    obtain ⟨x0, x1, x2, x3, x4, x5, x6, x7⟩ := (HZ2.out w3 HG3.out).1; clear g3' y0 y1 y2 y3 y4 y5 y6 y7 c3' HMa
    cases hma : mayR z.c with
    | false =>
     clear hma x0 x1 x2 x3 x4 x5 x6 x7 c3; go_wp2_with fail
     go_roundw
     case rel => exact ⟨i + 1, N, J, pB, cB, ys, HMe.out.1, rfl, rfl, rfl, Lib.hid ⟨HG3.out, HB3.out, by have := HNu.out; omega, HNu.out.2⟩⟩
     case measure => exact HMe.out.2
    | true =>
     have HBy := Lib.hid (refBytes_any z.c z.pb z.nb z.cb z.pa z.na z.ca J w3 hma HZI.out (HZ2.out w3 HG3.out).2.1 (HZ2.out w3 HG3.out).2.2 HNu.out.2); have HSm := Lib.hid (may_small hma J); clear hma; go_wp2_with fail; refine HBy.out.mono ?_; rintro e w4 ⟨p8, n8, c8, rfl, hb8, g4, _⟩; have HG4 := Lib.hid (Gr.trans HG3.out g4); have HB4 := Lib.hid (HB3.out.kept g4); have HX8 := Lib.hid hb8; have HNn : Hid (n8 ≤ 600 ∧ N ≤ 1048576 + 600 * i ∧ N ≤ 700000000) := Lib.hid (by have h1 := hb8.len; have h2 := HSm.out; have h3 := HNu.out.1; have h4 := HMe.out; have h5 := HN.out; omega); have HLy : Hid (ys.length = N) := Lib.hid HB4.out.len; obtain ⟨J', hJ'⟩ : ∃ J' : Nat, (J' : Int) = IntKind.u64.wrap ((J : Int) + IntKind.u64.wrap (n8 : Int)) ∧ J' ≤ 18446744073709551615 := ⟨(IntKind.u64.wrap ((J : Int) + IntKind.u64.wrap (n8 : Int))).toNat, by rw [IntKind.wrap_u64]; omega, by rw [IntKind.wrap_u64]; omega⟩; have q5 := hJ'.1.symm; have HJ' := Lib.hid hJ'.2; clear g4 hb8 x0 x1 x2 x3 x4 x5 x6 x7 c3 HBy hJ'
     go_wp2_with (at_builtin; first
      | (refine wpList_app_byt bt rfl (.const (.slice none 0 0)) (.tmp 55) rfl w4.heap.size (.slice none 0 0) [] rfl (OwnB.nil _ _ _) pB N cB ys rfl HB4.out (by have := HNn.out; simp; omega) (Nat.le_refl _) ?_; intro v5 W5 ho5 hg5; have ho5' : OwnB W5 w4.heap.size 5 v5 ys := ho5; have HO5 := Lib.hid ho5'; have HG5 := Lib.hid (Below.grown (Gr.refl w4) hg5 (Nat.le_refl _) (fun k e => by simp [Value.ownBlock] at e)); have HX5 := Lib.hid (HX8.out.kept HG5.out); have HS5 : Hid (w4.heap.size ≤ W5.heap.size) := Lib.hid HG5.out.size; clear ho5 ho5' hg5)
      | (refine wpList_app_byt bt rfl (.tmp 56) (.tmp 57) rfl w4.heap.size v5 ys rfl HO5.out p8 n8 c8 _ rfl HX5.out (by have := HNn.out; have := HLy.out; omega) HS5.out ?_; intro v6 W6 ho6 hg6; obtain ⟨N6, hN6⟩ : ∃ N6, N6 = N + n8 := ⟨_, rfl⟩; obtain ⟨p6, c6, hv6⟩ := ho6.shape N6 (by rw [List.length_append, HLy.out, HX5.out.len, hN6]); subst hv6; have HO6 := Lib.hid ho6.byt.1; have HG6 := Lib.hid (Below.grown HG5.out hg6 HS5.out (fun k e => HO5.out.base k e)); have HN6 : Hid (N6 ≤ 1048576 + 600 * (i + 1)) := Lib.hid (by have := HNn.out; omega); clear ho6 hg6 hN6))
     go_roundw
     case rel => exact ⟨i + 1, N6, J', p6, c6, _, HMe.out.1, rfl, rfl, rfl, Lib.hid ⟨Gr.trans HG4.out HG6.out, HO6.out, HN6.out, HJ'.out⟩⟩
     case measure => exact HMe.out.2
  ·
   obtain rfl : i = rn := by omega
   have g3 : ¬ (i : Int) < (i : Int) := by omega
   have HSx : Hid (∀ p N c ys W, Byt W p N c ys → N ≤ 232 → Calls Tryz.prog 48 #[.int .u64 (a0 : Int), .int .u64 (ep : Int), .slice p N c] W (RetAnyS W)) := Lib.hid fun p N c ys W h h2 => (rSector_any a0 ep p N c ys W (by have := HA.out; omega) HN.out.2.2 h h2).mono fun _ _ hh => ⟨_, hh.1, hh.2⟩
   have HRb := Lib.hid (fun W (g : Gr wr W) => HRs.out W (Gr.trans HG.out.1 g))
   have c1 := fun W (g : Gr wr W) => (HIb.out W (Gr.trans HG.out.1 g)).cell 1
   have HC1 := Lib.hid c1; clear c1 hlt hi; have c1 := HC1.out wr (Gr.refl _)
   simp at c1
   by_cases h232 : 232 < N
   ·
    have gN : (232 : Int) < (N : Int) := by omega
    have hcap := HG.out.2.1.cap
    obtain ⟨bB, oB, rfl, _⟩ := HG.out.2.1.at (by omega)
    have HCall := Lib.hid (HSx.out (some ⟨bB, oB, none⟩) 232 cB _ wr (HG.out.2.1.pre 232 cB (by omega) (by omega) (Nat.le_refl _)) (by omega))
    have hcap2 : 232 ≤ cB := by omega
    clear h232 hcap; go_wp2_with fail; refine HCall.out.mono ?_; rintro e w5 ⟨x, rfl, g5⟩; have HRe := Lib.hid (HRb.out w5 g5); have HGe := Lib.hid (Gr.trans HG1.out (Gr.trans HG.out.1 g5)); clear g5 c1 c3
    go_wp2_with (refine wpList_store_x rfl _ _ rfl HRe.out rfl rfl ?_)
    exact bodyPost_ret (results_x rfl _ _ _ _ rfl (HRe.out.row _)) rfl ⟨_, rfl, below_setRow HGe.out (by omega) _⟩
   ·
    have gN : ¬ (232 : Int) < (N : Int) := by omega
    have HCall := Lib.hid (HSx.out pB N cB _ wr HG.out.2.1 (by omega)); clear h232; go_wp2_with fail; refine HCall.out.mono ?_; rintro e w5 ⟨x, rfl, g5⟩; have HRe := Lib.hid (HRb.out w5 g5); have HGe := Lib.hid (Gr.trans HG1.out (Gr.trans HG.out.1 g5)); clear g5 c1 c3
    go_wp2_with (refine wpList_store_x rfl _ _ rfl HRe.out rfl rfl ?_)
    exact bodyPost_ret (results_x rfl _ _ _ _ rfl (HRe.out.row _)) rfl ⟨_, rfl, below_setRow HGe.out (by omega) _⟩
theorem wsector_any (a : RawA) (w : World) (h : a.In w) : Calls Tryz.prog 12 #[.agg #[.int .i64 a.k, .int .u64 (a.ep : Int), .slice a.q a.m a.c, .slice a.rp a.rn a.rc, .bool a.any]] w (RetAnyS w) := by
 cases ha : a.any with
 | true => exact wsector_bytes _ _ _ _ _ _ _ _ _ w h.byt
 | false => exact wsector_recs _ _ _ _ _ _ _ _ _ w h.byt h.recs h.bm h.rm h.e1
end Go.Proofs.YtlijbgapkmfnaaaGreat
namespace Go.Proofs.YtlijbgapkmfnaaaGreat
open Go.RowKit Go.Maps
abbrev TBs : TypeId := 31
theorem Byt.cut {W : World} {p : Option Addr} {n c : Nat} {xs : List Int} (h : Byt W p n c xs) (l k m : Nat) (h1 : l ≤ k) (h2 : k ≤ n) (h3 : k ≤ m) (h4 : m ≤ c) : Byt W (if m = l then p else p.map (·.add (l * 1))) (k - l) (m - l) ((xs.take k).drop l) := by
 have hl := h.len; have hc := h.cap; have hm := h.most; refine ⟨by simp; omega, by omega, by omega, fun h0 => ?_, fun e => ?_, (h.small.take k).drop l⟩
 ·
  obtain ⟨b, o, rfl, hcell⟩ := h.at (by omega)
  have hc0 : ¬ m = l := by omega
  refine ⟨b, o + l, by simp [hc0, Addr.add], fun i hi => ?_⟩; rw [Nat.add_assoc, hcell (l + i) (by omega)]
  have : l + i < k := by omega
  simp [List.getD, this]
 ·
  by_cases hc0 : m = l
  · omega
  ·
   rw [if_neg hc0] at e
   have hp : p = none := by simpa using e
   have := h.nilCap hp
   omega
theorem elem_bs : Tryz.prog.elem TBs = 5 := by kernel_rfl
theorem under_bs : Tryz.prog.underlying TBs = some (.slice (Tryz.prog.elem TBs)) := by rw [elem_bs]; exact Tryz.underlying31
theorem size_bs (w : World) : (sizeOf (Tryz.prog.elem TBs)).run Tryz.prog w = .ok 1 w := by rw [elem_bs]; exact size_u8 w
theorem blk_cut {p : Option Addr} {m l : Nat} : ∀ y, (if m = l then p else p.map (·.add (l * 1))) = some y → ∃ z, p = some z ∧ z.block = y.block := by
 intro y hy
 by_cases h : m = l
 · rw [if_pos h] at hy; exact ⟨y, hy, rfl⟩
 ·
  rw [if_neg h] at hy
  cases p with
  | none => cases hy
  | some z => cases hy; exact ⟨z, rfl, by cases z; simp only [Addr.add]; split <;> rfl⟩
structure CutOf (p : Option Addr) (n c l k d : Nat) (q : Option Addr) : Prop where
 byt : ∀ W xs, Byt W p n c xs → Byt W q (k - l) d ((xs.take k).drop l)
 blk : ∀ y, q = some y → ∃ z, p = some z ∧ z.block = y.block
theorem cut_lhm {p : Option Addr} {n c : Nat} (l k m : Nat) (h1 : l ≤ k) (h2 : k ≤ n) (h3 : k ≤ m) (h4 : m ≤ c) : ∃ q, (∀ w, (Instr.slice TBs (.slice p n c) (some (.int .i64 (l : Int))) (some (.int .i64 (k : Int))) (some (.int .i64 (m : Int)))).run Tryz.prog w = .ok (.slice q (k - l) (m - l)) w) ∧ CutOf p n c l k (m - l) q :=
 ⟨_, fun w => by
  rw [run_slice_lhm w TBs p n c under_bs .i64 .i64 .i64 (l : Int) (k : Int) (m : Int) (by omega) (by omega) (by omega) (by omega), size_bs]
  rfl, ⟨fun W xs h => h.cut l k m h1 h2 h3 h4, blk_cut⟩⟩
theorem cut_h {p : Option Addr} {n c : Nat} (k : Nat) (h2 : k ≤ n) (hc : n ≤ c) : ∃ q, (∀ w, (Instr.slice TBs (.slice p n c) none (some (.int .i64 (k : Int))) none).run Tryz.prog w = .ok (.slice q k c) w) ∧ CutOf p n c 0 k c q :=
 ⟨_, fun w => by
  rw [run_slice_h w TBs p n c under_bs .i64 (k : Int) (by omega) (by omega), size_bs]
  rfl, ⟨fun W xs h => h.cut 0 k c (Nat.zero_le _) h2 (by omega) (Nat.le_refl _), blk_cut⟩⟩
theorem cut_l {p : Option Addr} {n c : Nat} (l : Nat) (h1 : l ≤ n) (hc : n ≤ c) : ∃ q, (∀ w, (Instr.slice TBs (.slice p n c) (some (.int .i64 (l : Int))) none none).run Tryz.prog w = .ok (.slice q (n - l) (c - l)) w) ∧ CutOf p n c l n (c - l) q :=
 ⟨_, fun w => by
  rw [run_slice_l w TBs p n c under_bs .i64 (l : Int) (by omega) (by omega), size_bs]
  rfl, ⟨fun W xs h => h.cut l n c h1 (Nat.le_refl _) hc (Nat.le_refl _), blk_cut⟩⟩
theorem drop_take_all {xs : List Int} {n l : Nat} (h : xs.length = n) : (xs.take n).drop l = xs.drop l := by rw [List.take_of_length_le (by omega)]
/-! ### What is appended -/
def Txt (w : World) (q : Option Addr) (m c : Nat) (xs : List Int) : Prop := Byt w q m c xs ∧ (m = c ∨ OwnB w 0 5 (.slice q m c) xs)
def TxtChg (q q' : Option Addr) (w w' : World) : Prop := Upd (fun k => ∃ y, q = some y ∧ y.block = k) (fun k => ∃ y, q' = some y ∧ y.block = k) w w'
theorem run_app_txt {w : World} {ty : TypeId} {q : Option Addr} {m c : Nat} {xs : List Int} (h : Txt w q m c xs) {ad : Addr} {k d : Nat} {ys : List Int} (hy : Byt w (some ad) k d ys) (hk : 0 < k) (hb : m + k ≤ 140737488355328) :
  ∃ q' c' w', (Builtin.append_ #[TBs, TBs] ty #[.slice q m c, .slice (some ad) k d]).run Tryz.prog w = .ok (.slice q' (m + k) c') w' ∧ Txt w' q' (m + k) c' (xs ++ ys) ∧ TxtChg q q' w w' := by
 obtain ⟨hx, ho⟩ := h; obtain ⟨i, hi, hz0, hz1, hz2⟩ := info_parts bt.info; have hlx := hx.len; have hly := hy.len
 rcases ho with rfl | ho
 ·
  -- full
  cases q with
  | none =>
   have hm0 := hx.nilCap rfl; subst hm0; obtain rfl : xs = [] := List.eq_nil_of_length_eq_zero hlx; obtain ⟨v', w', hr, hown, hg, _, hat⟩ := run_append_own_at w 0 TBs ty 5 i (.int .u8 0) 1 1 bt.us hi hz0 hz1 hz2 rfl (by decide) (.slice none 0 0) 0 [] (World.ownsRow_nil _ _ _ _) ad k d (ys.map (Value.int .u8)) (by simp [hly]) hy.news (u8s_oneCell _) (by simp only [maxLen]; omega) (by omega) (Nat.zero_le _); have hO : OwnB w' 0 5 v' ys := ⟨by simpa [hly] using hown, hy.small⟩; obtain ⟨p', c', hv, _⟩ := hO.form
   rw [hly] at hv
   subst hv; refine ⟨p', c', w', by simpa using hr, ⟨by simpa using hO.byt.1, .inr (by simpa using hO)⟩, ⟨hg.os, hg.tape, hg.output, hg.size, fun j hj hn => hg.block j hj (by simp [Value.ownBlock]), fun j hj => ?_⟩⟩; obtain ⟨y, rfl, hyb⟩ := hj
   rcases hat with h | h
   · simp [Value.ownBlock] at h
   · simp [Value.ownBlock] at h; exact .inr (by omega)
  | some a0 =>
   have hr := run_append_grow (P := Tryz.prog) w TBs ty 5 i (.int .u8 0) bt.us hi hz0 a0 m m (xs.map (Value.int .u8)) (by rw [List.length_map, hlx, hz1, Nat.mul_one]) hx.news ad k d (ys.map (Value.int .u8)) (by rw [List.length_map, hly, hz1, Nat.mul_one]) hy.news (by omega) (by omega) (growslice_fits (by omega) (by rw [hz2]; omega)); have hge := grownCap_ge w (m + k) m 5; have hcm : grownCap w (m + k) m 5 ≤ maxLen := grownCap_le_maxLen w (m + k) m 5 (by simp only [maxLen]; omega)
   have hO : OwnB (w.drew.alloc (.cells ((xs.map (Value.int .u8)).toArray ++ (ys.map (Value.int .u8)).toArray ++ Builtin.zeroCells (Value.int .u8 0).cells (grownCap w (m + k) m 5 - (m + k))) 5)) 0 5 (.slice (some ⟨w.heap.size, 0, none⟩) (m + k) (grownCap w (m + k) m 5)) (xs ++ ys) := by
    refine ⟨⟨by simp [hlx, hly], .inr ⟨w.heap.size, _, _, by simp [hlx, hly], Nat.zero_le _, heap_alloc_new w.drew _, by simp [hlx, hly]; omega, hcm, ?_, ?_⟩⟩, hx.small.app hy.small⟩
    ·
     simp only [Array.size_append, List.size_toArray, size_zeroCells, List.length_map, hlx, hly]
     simp [Value.cells]
     omega
    ·
     simp only [Array.toList_append, List.map_append]
     rw [show (xs ++ ys).length * 1 = ((xs.map (Value.int .u8)) ++ (ys.map (Value.int .u8))).length by simp]; exact List.take_left
   refine ⟨_, _, _, hr, ⟨hO.byt.1, .inr hO⟩, ⟨rfl, rfl, rfl, by simp, fun j hj hn => heap_alloc_old w.drew _ hj, fun j hj => ?_⟩⟩; obtain ⟨y, hy1, hyb⟩ := hj
   cases hy1
   exact .inr (by simp at hyb; omega)
 ·
  obtain ⟨v', w', hr, hown, hg, _, hat⟩ := run_append_own_at w 0 TBs ty 5 i (.int .u8 0) 1 1 bt.us hi hz0 hz1 hz2 rfl (by decide) (.slice q m c) m (xs.map (Value.int .u8)) (by have := ho.row; rwa [hlx] at this) ad k d (ys.map (Value.int .u8)) (by simp [hly]) hy.news (u8s_oneCell _) (by simp only [maxLen]; omega) (by omega) (Nat.zero_le _); have hO : OwnB w' 0 5 v' (xs ++ ys) := ⟨by simpa [hly, hlx] using hown, hx.small.app hy.small⟩; obtain ⟨p', c', hv, _⟩ := hO.form
  rw [List.length_append, hly, hlx] at hv
  subst hv
  have hown0 : ∀ y, q = some y → (Value.slice q m c).ownBlock = some y.block := fun y hy => by
   rcases ho.row.2 with ⟨h0, _⟩ | ⟨g, cap, cur, h0, _⟩
   · cases h0; cases hy
   · cases h0; cases hy; rfl
  refine ⟨p', c', w', hr, ⟨hO.byt.1, .inr hO⟩, ⟨hg.os, hg.tape, hg.output, hg.size, fun j hj hn => hg.block j hj (fun e => ?_), fun j hj => ?_⟩⟩
  ·
   cases q with
   | none => simp [Value.ownBlock] at e
   | some y =>
    rw [hown0 y rfl] at e
    cases e
    exact hn ⟨y, rfl, rfl⟩
  ·
   obtain ⟨y, rfl, hyb⟩ := hj
   have hy2 : (Value.slice (some y) (m + k) c').ownBlock = some y.block := by
    rcases hO.row.2 with ⟨h0, _⟩ | ⟨g, cap, cur, h0, _⟩
    · cases h0
    ·
     simp only [Value.slice.injEq] at h0
     obtain ⟨h0, _⟩ := h0
     cases h0
     rfl
   rw [hy2] at hat
   rcases hat with h | h
   ·
    cases q with
    | none => simp [Value.ownBlock] at h
    | some z =>
     rw [hown0 z rfl] at h
     exact .inl ⟨z, rfl, by rw [← hyb]; exact (Option.some.inj h).symm⟩
   · exact .inr (by have := Option.some.inj h; omega)
end Go.Proofs.YtlijbgapkmfnaaaGreat
namespace Go.Proofs.YtlijbgapkmfnaaaGreat
open Go.RowKit Go.Maps
theorem wpList_app_txt {w : World} {ops : Array Oper} {rest : List Oper} {o : Oper} {a : Act} {Q : Exit → Act → World → Prop} (hgd : o.guard = none) (s x : Operand)
  (ho : o.op = .call { callee := .builtin .append, args := #[s, x], argTypes := #[TBs, TBs] }) {q : Option Addr} {m c : Nat} {xs : List Int} (hs : a.eval s = .slice q m c) (h : Txt w q m c xs)
  {ad : Addr} {k d : Nat} {ys : List Int} (hx : a.eval x = .slice (some ad) k d) (hy : Byt w (some ad) k d ys) (hk : 0 < k) (hb : m + k ≤ 140737488355328)
  (hQ : ∀ q' c' w', Txt w' q' (m + k) c' (xs ++ ys) → TxtChg q q' w w' → wpList Tryz.prog ops Q rest (a.put o.dst (.slice q' (m + k) c')) w') : wpList Tryz.prog ops Q (o :: rest) a w := by
 obtain ⟨q', c', w', hrun, h1, h2⟩ := run_app_txt (ty := o.type) h hy hk hb
 refine wpList_plain hgd fun K hK => ?_
 unfold Oper.wp
 simp [execOp, ho, resolve, invoke, builtin, hs, hx, hrun, Result.andThen]
 exact hK _ _ (hQ q' c' w' h1 h2)
theorem Txt.gr {w w' : World} {q : Option Addr} {m c : Nat} {xs : List Int} (h : Txt w q m c xs) (g : Gr w w') : Txt w' q m c xs := ⟨h.1.kept g, h.2.imp id (fun ho => ho.below' g)⟩
theorem Byt.stays {w w' : World} {p : Option Addr} {n c : Nat} {xs : List Int} (h : Byt w p n c xs) (e : ∀ y, p = some y → w'.heap[y.block]? = w.heap[y.block]?) : Byt w' p n c xs :=
 ⟨h.len, h.cap, h.most, fun hn => by
  obtain ⟨b, o, rfl, hc⟩ := h.lies.at hn
  refine ⟨b, o, rfl, fun i hi => ?_⟩; rw [← hc i hi]
  unfold World.cell?
  rw [e _ rfl], h.nilCap, h.small⟩
theorem OwnB.stays {w w' : World} {base tB : Nat} {p : Option Addr} {n c : Nat} {xs : List Int} (h : OwnB w base tB (.slice p n c) xs) (e : ∀ y, p = some y → w'.heap[y.block]? = w.heap[y.block]?) : OwnB w' base tB (.slice p n c) xs := by
 refine ⟨⟨h.row.1, ?_⟩, h.small⟩
 rcases h.row.2 with h2 | ⟨g, cap, cur, h0, hb, hg, r⟩
 · exact .inl h2
 ·
  refine .inr ⟨g, cap, cur, h0, hb, ?_, r⟩
  simp only [Value.slice.injEq] at h0
  obtain ⟨rfl, _⟩ := h0; exact (e _ rfl).trans hg
theorem Txt.stays {w w' : World} {q : Option Addr} {m c : Nat} {xs : List Int} (h : Txt w q m c xs) (e : ∀ y, q = some y → w'.heap[y.block]? = w.heap[y.block]?) : Txt w' q m c xs := ⟨h.1.stays e, h.2.imp id (fun ho => ho.stays e)⟩
theorem Txt.lt {w : World} {q : Option Addr} {m c : Nat} {xs : List Int} (h : Txt w q m c xs) (hm : 0 < m) : ∀ y, q = some y → y.block < w.heap.size := fun y hy => by
 obtain ⟨b, o, e, hc⟩ := h.1.at hm
 rw [hy] at e
 cases e
 exact blk_lt (hc 0 hm)
structure Lg where
 n : Int
 l : Int
 g : Int
 epoch : Nat
 tail : Nat
 lasts : Nat
 txt : List Int
 rsv : Int
 begun : Bool
def Lg.fin (L : Lg) : Nat := L.lasts - L.lasts % 232 + L.txt.length
structure Lg.Ok (L : Lg) : Prop where
 may : mayL L.n L.l L.g = true
 e0 : 1 ≤ L.epoch
 e1 : L.epoch ≤ 4611686018427387904
 tl : L.tail ≤ L.lasts
 has : L.lasts % 232 ≤ L.txt.length
 most : L.fin ≤ 9000000000000000000
 room : L.fin ≤ L.tail - L.tail % 232 + 232 * L.l.toNat
 r0 : 0 ≤ L.rsv
 r1 : L.rsv ≤ 60000
theorem Lg.Ok.l1 {L : Lg} (h : L.Ok) : 16 ≤ L.l ∧ L.l ≤ 256 := by have := may_in h.may; omega
theorem Lg.Ok.near {L : Lg} (h : L.Ok) : L.tail ≤ L.fin ∧ L.fin ≤ L.tail + 100000 ∧ L.lasts ≤ L.fin := by
 have h1 := h.tl; have h2 := h.has; have h3 := h.room; have h4 := h.l1
 unfold Lg.fin at *
 omega
theorem Lg.Ok.len {L : Lg} (h : L.Ok) : L.lasts + L.txt.length ≤ 9100000000000000000 ∧ L.txt.length ≤ 100300 := by
 have h1 := h.most; have h3 := h.near; have h4 := h.tl
 unfold Lg.fin at *
 omega
def lgS (b : Nat) (q : Option Addr) (k : Nat) : Prop := k = b ∨ ∃ y, q = some y ∧ y.block = k
structure LgAt (w : World) (b : Nat) (p : Value) (q : Option Addr) (m c : Nat) (L : Lg) : Prop where
 blk : Blk w b TLg #[p, .int .i64 L.n, .int .i64 L.l, .int .i64 L.g, .int .u64 L.epoch, .int .u64 L.tail, .int .u64 L.lasts, .slice q m c, .int .i64 L.rsv, .bool L.begun]
 txt : Txt w q m c L.txt
 apart : ∀ y, q = some y → y.block ≠ b
 low : ∀ k, lgS b q k → k < w.heap.size
 dsk : ∃ d, p = .pointer (some ⟨d, 0, none⟩)
section
variable {w w' : World} {b : Nat} {p : Value} {q : Option Addr} {m c : Nat} {L : Lg}
theorem LgAt.gr (h : LgAt w b p q m c L) (g : Gr w w') : LgAt w' b p q m c L := ⟨h.blk.gr g, h.txt.gr g, h.apart, fun k hk => Nat.lt_of_lt_of_le (h.low k hk) g.size, h.dsk⟩
theorem LgAt.mlen (h : LgAt w b p q m c L) : m = L.txt.length := h.txt.1.len.symm
theorem LgAt.fin (h : LgAt w b p q m c L) : L.lasts - L.lasts % 232 + m = L.fin := by rw [h.mlen]; rfl
theorem LgAt.End (h : LgAt w b p q m c L) (ok : L.Ok) : Calls Tryz.prog 22 #[.pointer (some ⟨b, 0, none⟩)] w (RetU L.fin w) := by
 obtain ⟨d, rfl⟩ := h.dsk; have h1 := wEnd_any d b _ _ _ _ _ _ _ _ _ _ _ _ w h.blk rfl (by have := ok.len; have := h.mlen; omega)
 rwa [h.fin] at h1
theorem LgAt.Free (h : LgAt w b p q m c L) (ok : L.Ok) : Calls Tryz.prog 40 #[.pointer (some ⟨b, 0, none⟩)] w (RetI (freeR L.l L.rsv L.tail L.fin) w) := by
 obtain ⟨d, rfl⟩ := h.dsk; have hn := ok.near; have hf := h.fin; have h1 := wFree_any d b _ _ _ _ _ _ _ _ _ _ _ _ w h.blk rfl (by have := ok.len; have := h.mlen; omega) (by have := ok.l1; omega) ⟨ok.r0, by have := ok.r1; omega⟩ (by rw [hf]; exact hn.1) (by rw [hf]; exact hn.2.1)
 rwa [hf] at h1
end
def rcv (r : Rc) (pb : Option Addr) (nb cb : Nat) (pa : Option Addr) (na ca : Nat) : Array Value := #[.int .i64 r.k, .int .u64 r.t, .int .u64 r.p, .int .u64 r.x, .int .i64 r.g, .int .i64 r.o, .slice pb nb cb, .slice pa na ca]
def RetLayE (x : Int) (w : World) (e : Ending) (w' : World) : Prop := e = .returned (.tuple #[.int .u64 0, .int .i64 x]) ∧ Gr w w'
def Lg.more (L : Lg) (ys : List Int) : Lg := { L with txt := L.txt ++ ys }
def RetLay (b : Nat) (p : Value) (q : Option Addr) (L : Lg) (ys : List Int) (w : World) (e : Ending) (w' : World) : Prop :=
 ∃ q' m' c', e = .returned (.tuple #[.int .u64 (L.fin : Int), .int .i64 0]) ∧ LgAt w' b p q' m' c' (L.more ys) ∧ Upd (lgS b q) (lgS b q') w w'
set_option maxRecDepth 100000 in
set_option maxHeartbeats 1000000 in
theorem wlay_any {b : Nat} {p : Value} {q : Option Addr} {m c : Nat} {L : Lg} (w : World) (h : LgAt w b p q m c L) (ok : L.Ok) (r : Rc) (hi : r.In) (pb : Option Addr) (nb cb : Nat) (pa : Option Addr) (na ca : Nat) (hb : Byt w pb nb cb r.b) (ha : Byt w pa na ca r.a) (room : Int) (hfit : mayR r = true) (hroom : (35 + r.b.length + r.a.length : Int) ≤ room) :
  Calls Tryz.prog 56 #[.pointer (some ⟨b, 0, none⟩), .agg (rcv r pb nb cb pa na ca), .int .i64 room] w (RetLay b p q L (recL r L.fin) w) := by
 obtain ⟨W1, hW1⟩ : ∃ W1, W1 = w.alloc (.cells (rcv r pb nb cb pa na ca) TR) := ⟨_, rfl⟩; have HB1 : Hid (Blk W1 w.heap.size TR (rcv r pb nb cb pa na ca) ∧ Gr w W1) := Lib.hid (by rw [hW1]; exact ⟨Blk.new _ _ _, Gr.new _ _⟩); have HE := Lib.hid (LgAt.End (h.gr HB1.out.2) ok); have HH := Lib.hid h; have HBy := Lib.hid (fun W (g : Gr w W) => bytes_any r pb nb cb pa na ca L.fin W hi (hb.kept g) (ha.kept g) (by have := ok.most; omega)); have HW1 : Hid (w.alloc (.cells (rcv r pb nb cb pa na ca) 33) = W1) := Lib.hid hW1.symm; obtain ⟨F, hF⟩ : ∃ F, F = L.fin := ⟨_, rfl⟩; have HF := Lib.hid hF
 rw [← hF] at HE HBy
 clear h hb ha hW1 hF
 unfold rcv at HW1 HB1 ⊢
 go_enter Tryz.func56, Tryz.ntmps56
 go_wp2_with fail; rw [HW1.out]; refine HE.out.mono ?_; rintro e W2 ⟨rfl, g2⟩; obtain ⟨c0, c1, c2, c3, c4, c5, c6, c7⟩ := (HB1.out.1.gr g2).c8; have HG2 := Lib.hid (Gr.trans HB1.out.2 g2); clear g2; go_wp2_with fail; refine (HBy.out W2 HG2.out).mono ?_; rintro e W3 ⟨q3, n3, d3, rfl, hy3, g3, f3⟩; obtain ⟨n, hn⟩ : ∃ n, n = 35 + r.b.length + r.a.length := ⟨_, rfl⟩
 have hy4 : Byt W3 q3 n3 d3 (recL r F) := by have h := hy3; unfold bytesL at h; rw [if_pos hfit] at h; exact h
 have hn3 : n3 = n := by rw [← hy4.len, recL_len, hn]
 subst hn3
 have hE0 : bytesE r = 0 := by unfold bytesE; rw [if_pos hfit]
 rw [hE0]
 have hr2 : ¬ room < (n3 : Int) := by omega
 have hr3 : (n3 : Int) ≤ 9223372036854775807 := by have := hy4.cap; have := hy4.most; unfold maxLen at *; omega
 have hn0 : 35 ≤ n3 := by omega
 have HG3 := Lib.hid (Gr.trans HG2.out g3)
 obtain ⟨b3, o3, rfl, _⟩ := hy4.at (by omega)
 have HY := Lib.hid hy4; have HL := Lib.hid (HH.out.gr HG3.out); have c7 := HL.out.blk.c10.2.2.2.2.2.2.2.1
 have hml : m + n3 ≤ 140737488355328 := by
  have h1 := ok.len.2; have h2 := HH.out.mlen; have h3 := (mayR_fits hfit).nb1; have h4 := (mayR_fits hfit).na
  omega
 clear hy3 hy4 hE0 hn hroom HBy HE g3 f3 HB1 HW1 HH
 go_wp2_with (at_builtin; refine wpList_app_txt rfl _ _ rfl rfl HL.out.txt rfl HY.out (by omega) hml ?_; intro q4 d4 W4 ht4 hu4; have HB4 := Lib.hid (HL.out.blk.stays (hu4.block b HL.out.blk.lt (fun hk => by obtain ⟨y, hy, e⟩ := hk; exact HL.out.apart y hy e))); have f7 := HB4.out.frozen 7; have k7 := HB4.out.c10.2.2.2.2.2.2.2.1)
 have HT4 := Lib.hid ht4; have HU4 := Lib.hid hu4; clear ht4 hu4 f7 k7 c0 c1 c2 c3 c4 c5 c6 c7; refine bodyPost_ret_by (P := Tryz.prog) (v := .tuple #[.int .u64 (F : Int), .int .i64 0]) (by simp [results, Tryz.results56]) rfl ?_; rw [HF.out]
 have hq4 : ∀ y, q4 = some y → y.block ≠ b := fun y hy e => by
  rcases HU4.out.fresh y.block ⟨y, hy, rfl⟩ with ⟨z, hz, e2⟩ | h2
  · exact HL.out.apart z hz (e2.trans e)
  · have := HL.out.blk.lt; omega
 have hoc := Only.cell b 7 W4 (.slice q4 (m + n3) d4)
 have hlt4 : ∀ y, q4 = some y → y.block < W4.heap.size := fun y hy => HT4.out.lt (by omega) y hy
 refine ⟨q4, m + n3, d4, rfl, ⟨HB4.out.set 7 _, ?_, hq4, fun k hk => ?_, HL.out.dsk⟩, ⟨?_, ?_, ?_, ?_, fun k hk hn => ?_, fun k hk => ?_⟩⟩
 ·
  have h1 : Txt (W4.setCell ⟨b, 7, none⟩ (.slice q4 (m + n3) d4)) q4 (m + n3) d4 (L.txt ++ recL r F) := HT4.out.stays (fun y hy => hoc.block _ (hq4 y hy))
  rw [HF.out] at h1
  exact h1
 ·
  rw [hoc.size]
  rcases hk with rfl | ⟨y, hy, rfl⟩
  · exact HB4.out.lt
  · exact hlt4 y hy
 · exact hoc.os.trans (HU4.out.os.trans HG3.out.os)
 · exact hoc.tape.trans (HU4.out.tape.trans HG3.out.tape)
 · exact hoc.output.trans (HU4.out.output.trans HG3.out.output)
 · rw [hoc.size]; exact Nat.le_trans HG3.out.size HU4.out.size
 ·
  have hkb : k ≠ b := fun e => hn (.inl e)
  exact (hoc.block k hkb).trans ((HU4.out.block k (Nat.lt_of_lt_of_le hk HG3.out.size) (fun h => hn (.inr h))).trans (HG3.out.block k hk))
 ·
  rcases hk with rfl | hk
  · exact .inl (.inl rfl)
  ·
   rcases HU4.out.fresh k hk with h | h
   · exact .inl (.inr h)
   · exact .inr (Nat.le_trans HG3.out.size h)
end Go.Proofs.YtlijbgapkmfnaaaGreat
namespace Go.Proofs.YtlijbgapkmfnaaaGreat
open Go.RowKit Go.Maps
def InC (z : Nat) (w0 : World) (Fin : World → Prop) (l : Nat → Bool) (W : World) : Prop := (l z = false → Gr w0 W) ∧ (l z = true → Fin W)
theorem InC.pre {z : Nat} {w0 W : World} {Fin : World → Prop} {l : Nat → Bool} (h : InC z w0 Fin l W) (hl : l z = false) : Gr w0 W := h.1 hl
theorem InC.post {z : Nat} {w0 W : World} {Fin : World → Prop} {l : Nat → Bool} (h : InC z w0 Fin l W) (hl : l z = true) : Fin W := h.2 hl
theorem InC.other {z : Nat} {w0 W : World} {Fin : World → Prop} {l : Nat → Bool} (h : InC z w0 Fin l W) (i : Nat) (hi : z ≠ i) : InC z w0 Fin (Flow.upd l i) W := by
 unfold InC; rw [Flow.upd_other l hi]; exact h
theorem InC.grow {z : Nat} {w0 W W' : World} {Fin : World → Prop} {l : Nat → Bool} (h : InC z w0 Fin l W) (hl : l z = false) (g : Gr W W') (i : Nat) (hi : z ≠ i) : InC z w0 Fin (Flow.upd l i) W' := by
 unfold InC; rw [Flow.upd_other l hi]; exact ⟨fun _ => Gr.trans (h.1 hl) g, fun e => by rw [hl] at e; cases e⟩
theorem InC.fin {z : Nat} {w0 W' : World} {Fin : World → Prop} {l : Nat → Bool} (h : Fin W') : InC z w0 Fin (Flow.upd l z) W' := by
 unfold InC; rw [Flow.upd_same]; exact ⟨(fun e => by cases e), fun _ => h⟩
theorem InC.start {z : Nat} {w0 W : World} {Fin : World → Prop} {l : Nat → Bool} (h : l z = false) (g : Gr w0 W) : InC z w0 Fin l W := ⟨fun _ => g, fun e => by rw [h] at e; cases e⟩
def SlAp (b : Nat) (k : Int) (t : Nat) (p : Nat) (x : Nat) (g : Int) (o : Int) (pb : Option Addr) (nb : Nat) (cb : Nat) (pa : Option Addr) (na : Nat) (ca : Nat) (A : Nat) (E : Int) (F : Int) (slot : Nat) (v : Value) (_ : World) : Prop :=
 match slot with
 | 4 => v = .int .u64 (A : Int)
 | 5 => v = .int .i64 E
 | 8 => v = .pointer (some ⟨b, 0, none⟩)
 | 9 => v = .agg #[.int .i64 k, .int .u64 t, .int .u64 p, .int .u64 x, .int .i64 g, .int .i64 o, .slice pb nb cb, .slice pa na ca]
 | 10 => v = .pointer (some ⟨b, 0, none⟩)
 | 11 => v = .int .i64 F
 | 12 => v = .tuple #[.int .u64 (A : Int), .int .i64 E]
 | 13 => v = .int .u64 (A : Int)
 | 14 => v = .int .i64 E
 | _ => True
set_option maxRecDepth 100000 in
set_option maxHeartbeats 1000000 in
theorem append_core (b d : Nat) (k : Int) (t p x : Nat) (g o : Int) (pb : Option Addr) (nb cb : Nat) (pa : Option Addr) (na ca : Nat) (A : Nat) (E F : Int) (Fin : World → Prop) (w : World) (hm : Hid (∀ W, Gr w W → Calls Tryz.prog 55 #[.pointer (some ⟨b, 0, none⟩)] W fun e w' => e = .returned (.bool false) ∧ W = w'))
  (HFr : Hid (∀ W, Gr w W → Calls Tryz.prog 40 #[.pointer (some ⟨b, 0, none⟩)] W fun e w' => e = .returned (.int .i64 F) ∧ Gr W w'))
  (HLY : Hid (∀ W, Gr w W → Calls Tryz.prog 56 #[.pointer (some ⟨b, 0, none⟩), .agg #[.int .i64 k, .int .u64 t, .int .u64 p, .int .u64 x, .int .i64 g, .int .i64 o, .slice pb nb cb, .slice pa na ca], .int .i64 F] W fun e w' => e = .returned (.tuple #[.int .u64 (A : Int), .int .i64 E]) ∧ Fin w')) :
  Calls Tryz.prog 19 #[.pointer (some ⟨b, 0, none⟩), .agg #[.int .i64 k, .int .u64 t, .int .u64 p, .int .u64 x, .int .i64 g, .int .i64 o, .slice pb nb cb, .slice pa na ca]] w fun e w' => e = .returned (.tuple #[.int .u64 (A : Int), .int .i64 E]) ∧ Fin w' := by
 obtain ⟨W1, hW1⟩ : ∃ W1, W1 = w.alloc (.cells #[.int .i64 k, .int .u64 t, .int .u64 p, .int .u64 x, .int .i64 g, .int .i64 o, .slice pb nb cb, .slice pa na ca] TR) := ⟨_, rfl⟩; have HB1 : Hid (Blk W1 w.heap.size TR #[.int .i64 k, .int .u64 t, .int .u64 p, .int .u64 x, .int .i64 g, .int .i64 o, .slice pb nb cb, .slice pa na ca] ∧ Gr w W1) := Lib.hid (by rw [hW1]; exact ⟨Blk.new _ _ _, Gr.new _ _⟩); have hW1' : w.alloc (.cells #[.int .i64 k, .int .u64 t, .int .u64 p, .int .u64 x, .int .i64 g, .int .i64 o, .slice pb nb cb, .slice pa na ca] 33) = W1 := hW1.symm; have HW1 := Lib.hid hW1'; have HLY' := Lib.hid (fun W (gr : Gr W1 W) => HLY.out W (Gr.trans HB1.out.2 gr)); have HFr' := Lib.hid (fun W (gr : Gr W1 W) => HFr.out W (Gr.trans HB1.out.2 gr)); have HM := Lib.hid (hm.out W1 HB1.out.2); clear hW1 hW1' HLY HFr hm; have HLY := HLY'; have HFr := HFr'; clear HLY' HFr'
 go_enter Tryz.func19, Tryz.ntmps19
 go_wp2_with fail; rw [HW1.out]; refine HM.out.mono ?_; rintro e W2 ⟨rfl, rfl⟩; go_wp2_with fail; refine Flow.regionS [4, 5] 20 (SlAp b k t p x g o pb nb cb pa na ca A E F) (InC 4 W1 (Fin)) (fun _ _ _ => True) (by kernel_rfl) (by kernel_rfl) (fun _ _ _ _ _ _ h _ => h) (InC.start (by rfl) (Gr.refl _).drew) ?steps ?fin
 case steps =>
  refine .cons (fun l a W hfr hun hup hdn hinv hdep K hK => ?_) ?_
  · have t0 := tAt (.pointer (some ⟨b, 0, none⟩)) (hfr.at 0 (by kernel_rfl)); refine fW0 rfl ?_; clear hfr hdep hdn; go_simp; exact hK _ _ True.intro (hinv.other 0 (by decide)) (dsT (by trivial))
  refine .cons (fun l a W hfr hun hup hdn hinv hdep K hK => ?_) ?_
  · have t3 := tAt (.pointer (some ⟨w.heap.size, 0, none⟩)) (hfr.at 3 (by kernel_rfl)); refine fW0 rfl ?_; clear hfr hdep hdn; have hlz : l 4 = false := hup 4 (by decide) (by kernel_rfl); have hin := hinv.pre hlz; obtain ⟨c0, c1, c2, c3, c4, c5, c6, c7⟩ := (HB1.out.1.gr hin).c8; go_simp; exact hK _ _ True.intro (hinv.other 1 (by decide)) (dsT (by trivial))
  refine .cons (fun l a W hfr hun hup hdn hinv hdep K hK => ?_) ?_
  · have t0 := tAt (.pointer (some ⟨b, 0, none⟩)) (hfr.at 0 (by kernel_rfl)); refine fW0 rfl ?_; clear hfr hdep hdn; go_simp; exact hK _ _ True.intro (hinv.other 2 (by decide)) (dsT (by trivial))
  refine .cons (fun l a W hfr hun hup hdn hinv hdep K hK => ?_) ?_
  · have t10 := tAt (.pointer (some ⟨b, 0, none⟩)) (hdep 10 (by kernel_rfl)); refine fW0 rfl ?_; clear hfr hdep hdn; have hlz : l 4 = false := hup 4 (by decide) (by kernel_rfl); have hin := hinv.pre hlz; go_simp; refine (HFr.out W hin).mono ?_; rintro e W' ⟨rfl, g1⟩; exact hK _ _ True.intro (hinv.grow hlz g1 3 (by decide)) (dsT (by trivial))
  refine .cons (fun l a W hfr hun hup hdn hinv hdep K hK => ?_) ?_
  · have t8 := tAt (.pointer (some ⟨b, 0, none⟩)) (hdep 8 (by kernel_rfl)); have t9 := tAt (.agg #[.int .i64 k, .int .u64 t, .int .u64 p, .int .u64 x, .int .i64 g, .int .i64 o, .slice pb nb cb, .slice pa na ca]) (hdep 9 (by kernel_rfl)); have t11 := tAt (.int .i64 F) (hdep 11 (by kernel_rfl)); refine fW0 rfl ?_; clear hfr hdep hdn; have hin := hinv.pre hun; go_simp; refine (HLY.out W hin).mono ?_; rintro e W' ⟨rfl, h1⟩; exact hK _ _ True.intro (InC.fin h1) (dsT (by trivial))
  refine .cons (fun l a W hfr hun hup hdn hinv hdep K hK => ?_) ?_
  · have t12 := tAt (.tuple #[.int .u64 (A : Int), .int .i64 E]) (hdep 12 (by kernel_rfl)); refine fW0 rfl ?_; clear hfr hdep hdn; go_simp; exact hK _ _ True.intro (hinv.other 5 (by decide)) (dsT (by trivial))
  refine .cons (fun l a W hfr hun hup hdn hinv hdep K hK => ?_) ?_
  · have t12 := tAt (.tuple #[.int .u64 (A : Int), .int .i64 E]) (hdep 12 (by kernel_rfl)); refine fW0 rfl ?_; clear hfr hdep hdn; go_simp; exact hK _ _ True.intro (hinv.other 6 (by decide)) (dsT (by trivial))
  refine .cons (fun l a W hfr hun hup hdn hinv hdep K hK => ?_) ?_
  · have t13 := tAt (.int .u64 (A : Int)) (hdep 13 (by kernel_rfl)); refine fW0 rfl ?_; clear hfr hdep hdn; go_simp; exact hK _ _ True.intro (hinv.other 7 (by decide)) (dsT (by trivial))
  refine .cons (fun l a W hfr hun hup hdn hinv hdep K hK => ?_) ?_
  · have t14 := tAt (.int .i64 E) (hdep 14 (by kernel_rfl)); refine fW0 rfl ?_; clear hfr hdep hdn; go_simp; exact hK _ _ True.intro (hinv.other 8 (by decide)) (dsT (by trivial))
  exact True.intro
 case fin =>
  intro a W l hfr hall hinv hsl
  have s4 : a.tmps.getD 4 undef = .int .u64 (A : Int) := hsl 7 _ 4 rfl rfl (by simp); have t4 := tmpAt s4; have s5 : a.tmps.getD 5 undef = .int .i64 E := hsl 8 _ 5 rfl rfl (by simp); have t5 := tmpAt s5; have hfin := hinv.post (hall 4 (by decide)); have e := Flow.frame hfr [8, 9, 10, 11, 12, 13, 14, 4, 5] (List.range 15) (by kernel_rfl) (by kernel_rfl)
  simp [List.range, List.range.loop] at e
  rw [t4, t5] at e
  rw [e]; have HFin := Lib.hid hfin; clear e hfr hsl hall hinv hfin s4 t4 s5 t5
  first
   | (rename_i hB; refine hB _ _ ?_)
   | (rename_i hB y0; refine hB _ _ ?_)
   | (rename_i hB y0 y1; refine hB _ _ ?_)
   | (rename_i hB y0 y1 y2; refine hB _ _ ?_)
   | (rename_i hB y0 y1 y2 y3; refine hB _ _ ?_)
   | (rename_i hB y0 y1 y2 y3 y4; refine hB _ _ ?_)
   | (rename_i hB y0 y1 y2 y3 y4 y5; refine hB _ _ ?_)
   | (rename_i hB y0 y1 y2 y3 y4 y5 y6; refine hB _ _ ?_)
   | (rename_i hB y0 y1 y2 y3 y4 y5 y6 y7; refine hB _ _ ?_)
   | (rename_i hB y0 y1 y2 y3 y4 y5 y6 y7 y8; refine hB _ _ ?_)
   | skip
  go_wp2_with fail; exact bodyPost_ret_by (P := Tryz.prog) (v := .tuple #[.int .u64 (A : Int), .int .i64 E]) (by simp [results, Tryz.results19]) rfl ⟨rfl, HFin.out⟩
end Go.Proofs.YtlijbgapkmfnaaaGreat
namespace Go.Proofs.YtlijbgapkmfnaaaGreat
open Go.RowKit Go.Maps
def BaS (s : St) : St := if s.dead then s else s.barrier
def BaE (s : St) : Int := if s.dead then 8 else 0
theorem Barrier_all {F : Nat → Prop} {p : Value} {s : St} (w : World) (h : Dk w F p s) (hw : s.writes ≤ 1000000000) : Calls Tryz.prog 79 #[p] w fun e w' => Chg F p (BaS s) (.int .i64 (BaE s)) w e w' := by
 unfold BaS BaE
 by_cases hd : s.dead = true
 · rw [if_pos hd, if_pos hd]; refine (Barrier_dead w h hd).mono ?_; rintro e w' ⟨rfl, rfl⟩; exact ⟨F, rfl, h, Upd.same _⟩
 · rw [if_neg hd, if_neg hd]; exact Barrier_yes w h hw (by simpa using hd)
end Go.Proofs.YtlijbgapkmfnaaaGreat
namespace Go.Proofs.YtlijbgapkmfnaaaGreat
open Go.RowKit Go.Maps
def putD (s : St) (i : Nat) (x : Sec) : St := if s.refuses then { s with dead := true } else s.wrote i x
def putDE (s : St) : Int := if s.refuses then 8 else 0
theorem WriteX_any {F : Nat → Prop} {p : Value} {s : St} (w : World) (h : Dk w F p s) (i : Nat) (hi : i < s.ls.length) (x : Sec) (hw : s.writes ≤ 1000000000) : Calls Tryz.prog 13 #[p, .int .i64 (i : Int), .agg (sec x)] w fun e w' => Chg F p (putD s i x) (.int .i64 (putDE s)) w e w' := by
 unfold putD putDE
 by_cases hr : s.refuses
 · rw [if_pos hr, if_pos hr]; refine (Write_dead w h i hi x hr).mono ?_; rintro e w' ⟨rfl, hd, hu⟩; exact ⟨F, rfl, hd, hu⟩
 · rw [if_neg hr, if_neg hr]; exact Write_yes w h i hi x hr hw
def SlWr (b : Nat) (p : Value) (k : Nat) (ep : Nat) (q1 : Option Addr) (m1 : Nat) (c1 : Nat) (I : Nat) (S : Sec) (E : Int) (slot : Nat) (v : Value) (_ : World) : Prop :=
 match slot with
 | 6 => v = .int .i64 E
 | 7 => v = .pointer (some ⟨b, 0, none⟩)
 | 8 => v = .pointer (some ⟨b, 0, none⟩)
 | 9 => v = .pointer (some ⟨b, 0, none⟩)
 | 10 => v = p
 | 11 => v = .pointer (some ⟨b, 0, none⟩)
 | 12 => v = .int .u64 (k : Int)
 | 13 => v = .int .i64 (I : Int)
 | 14 => v = .int .u64 (k : Int)
 | 15 => v = .pointer (some ⟨b, 0, none⟩)
 | 16 => v = .pointer (some ⟨b, 0, none⟩)
 | 17 => v = .pointer (some ⟨b, 4, none⟩)
 | 18 => v = .int .u64 (ep : Int)
 | 19 => v = .slice q1 m1 c1
 | 20 => v = .agg #[.int .u64 (k : Int), .int .u64 (ep : Int), .slice q1 m1 c1]
 | 21 => v = .agg (sec S)
 | 22 => v = .int .i64 E
 | _ => True
set_option maxRecDepth 100000 in
set_option maxHeartbeats 1000000 in
theorem wwrite_core (D b : Nat) (p : Value) (n : Int) (l : Int) (g : Int) (ep : Nat) (tl : Nat) (la : Nat) (q : Option Addr) (m : Nat) (c : Nat) (rs : Int) (bg : Bool) (k : Nat) (q1 : Option Addr) (m1 c1 : Nat) (ys : List Int) (I : Nat) (S : Sec) (E : Int) (Fin : World → Prop) (w : World) (h : Blk w b TLg #[p, .int .i64 n, .int .i64 l, .int .i64 g, .int .u64 ep, .int .u64 tl, .int .u64 la, .slice q m c, .int .i64 rs, .bool bg]) (hp : p = .pointer (some ⟨D, 0, none⟩)) (hm : mayL n l g = true) (hk : k ≤ 18446744073709551615) (he : ep ≤ 18446744073709551615)
  (hy : Byt w q1 m1 c1 ys) (h1 : m1 ≤ 232) (hI : I = 3 + k % l.toNat) (hS : S = Sx (secL k ep ys))
  (HWr : Hid (∀ W, Gr w W → Calls Tryz.prog 13 #[p, .int .i64 (I : Int), .agg (sec S)] W fun e w' => e = .returned (.int .i64 E) ∧ Fin w')) :
  Calls Tryz.prog 77 #[.pointer (some ⟨b, 0, none⟩), .int .u64 (k : Int), .slice q1 m1 c1] w fun e w' => e = .returned (.int .i64 E) ∧ Fin w' := by
 have HB := Lib.hid h
 have HP : Hid (∀ W, Gr w W → Calls Tryz.prog 95 #[.pointer (some ⟨b, 0, none⟩), .int .u64 (k : Int)] W fun e w' => e = .returned (.int .i64 (I : Int)) ∧ Gr W w') := Lib.hid fun W gr => by
  rw [hI]; exact wplace_any b p n l g ep tl la q m c rs bg k W (h.gr gr) hm hk
 have HS : Hid (∀ W, Gr w W → Calls Tryz.prog 96 #[.agg #[.int .u64 (k : Int), .int .u64 (ep : Int), .slice q1 m1 c1]] W fun e w' => e = .returned (.agg (sec S)) ∧ Gr W w') := Lib.hid fun W gr => by
  rw [hS]; exact psector_any k ep q1 m1 c1 ys W hk he (hy.kept gr) h1
 clear h hy hm hI hS hp
 go_enter Tryz.func77, Tryz.ntmps77
 go_wp2_with fail; refine Flow.regionS [6] 20 (SlWr b p k ep q1 m1 c1 I S E) (InC 15 w (Fin)) (fun _ _ _ => True) (by kernel_rfl) (by kernel_rfl) (fun _ _ _ _ _ _ h _ => h) (InC.start (by rfl) (Gr.refl _).drew) ?steps ?fin
 case steps =>
  refine .cons (fun l a W hfr hun hup hdn hinv hdep K hK => ?_) ?_
  · have t0 := tAt (.pointer (some ⟨b, 0, none⟩)) (hfr.at 0 (by kernel_rfl)); refine fW0 rfl ?_; clear hfr hdep hdn; go_simp; exact hK _ _ True.intro (hinv.other 0 (by decide)) (dsT (by trivial))
  refine .cons (fun l a W hfr hun hup hdn hinv hdep K hK => ?_) ?_
  · have t7 := tAt (.pointer (some ⟨b, 0, none⟩)) (hdep 7 (by kernel_rfl)); refine fW0 rfl ?_; clear hfr hdep hdn; go_simp; exact hK _ _ True.intro (hinv.other 1 (by decide)) (dsT (by trivial))
  refine .cons (fun l a W hfr hun hup hdn hinv hdep K hK => ?_) ?_
  · have t8 := tAt (.pointer (some ⟨b, 0, none⟩)) (hdep 8 (by kernel_rfl)); refine fW0 rfl ?_; clear hfr hdep hdn; go_simp; exact hK _ _ True.intro (hinv.other 2 (by decide)) (dsT (by trivial))
  refine .cons (fun l a W hfr hun hup hdn hinv hdep K hK => ?_) ?_
  · have t9 := tAt (.pointer (some ⟨b, 0, none⟩)) (hdep 9 (by kernel_rfl)); refine fW0 rfl ?_; clear hfr hdep hdn; have hlz : l 15 = false := hup 15 (by decide) (by kernel_rfl); have hin := hinv.pre hlz; obtain ⟨c0, c1, c2, c3, c4, c5, c6, c7, c8, c9⟩ := (HB.out.gr hin).c10; go_simp; exact hK _ _ True.intro (hinv.other 3 (by decide)) (dsT (by trivial))
  refine .cons (fun l a W hfr hun hup hdn hinv hdep K hK => ?_) ?_
  · have t0 := tAt (.pointer (some ⟨b, 0, none⟩)) (hfr.at 0 (by kernel_rfl)); refine fW0 rfl ?_; clear hfr hdep hdn; go_simp; exact hK _ _ True.intro (hinv.other 4 (by decide)) (dsT (by trivial))
  refine .cons (fun l a W hfr hun hup hdn hinv hdep K hK => ?_) ?_
  · have t1 := tAt (.int .u64 (k : Int)) (hfr.at 1 (by kernel_rfl)); refine fW0 rfl ?_; clear hfr hdep hdn; go_simp; exact hK _ _ True.intro (hinv.other 5 (by decide)) (dsT (by trivial))
  refine .cons (fun l a W hfr hun hup hdn hinv hdep K hK => ?_) ?_
  · have t11 := tAt (.pointer (some ⟨b, 0, none⟩)) (hdep 11 (by kernel_rfl)); have t12 := tAt (.int .u64 (k : Int)) (hdep 12 (by kernel_rfl)); refine fW0 rfl ?_; clear hfr hdep hdn; have hlz : l 15 = false := hup 15 (by decide) (by kernel_rfl); have hin := hinv.pre hlz; go_simp; refine (HP.out W hin).mono ?_; rintro e W' ⟨rfl, g1⟩; exact hK _ _ True.intro (hinv.grow hlz g1 6 (by decide)) (dsT (by trivial))
  refine .cons (fun l a W hfr hun hup hdn hinv hdep K hK => ?_) ?_
  · have t1 := tAt (.int .u64 (k : Int)) (hfr.at 1 (by kernel_rfl)); refine fW0 rfl ?_; clear hfr hdep hdn; go_simp; exact hK _ _ True.intro (hinv.other 7 (by decide)) (dsT (by trivial))
  refine .cons (fun l a W hfr hun hup hdn hinv hdep K hK => ?_) ?_
  · have t0 := tAt (.pointer (some ⟨b, 0, none⟩)) (hfr.at 0 (by kernel_rfl)); refine fW0 rfl ?_; clear hfr hdep hdn; go_simp; exact hK _ _ True.intro (hinv.other 8 (by decide)) (dsT (by trivial))
  refine .cons (fun l a W hfr hun hup hdn hinv hdep K hK => ?_) ?_
  · have t15 := tAt (.pointer (some ⟨b, 0, none⟩)) (hdep 15 (by kernel_rfl)); refine fW0 rfl ?_; clear hfr hdep hdn; go_simp; exact hK _ _ True.intro (hinv.other 9 (by decide)) (dsT (by trivial))
  refine .cons (fun l a W hfr hun hup hdn hinv hdep K hK => ?_) ?_
  · have t16 := tAt (.pointer (some ⟨b, 0, none⟩)) (hdep 16 (by kernel_rfl)); refine fW0 rfl ?_; clear hfr hdep hdn; go_simp; exact hK _ _ True.intro (hinv.other 10 (by decide)) (dsT (by trivial))
  refine .cons (fun l a W hfr hun hup hdn hinv hdep K hK => ?_) ?_
  · have t17 := tAt (.pointer (some ⟨b, 4, none⟩)) (hdep 17 (by kernel_rfl)); refine fW0 rfl ?_; clear hfr hdep hdn; have hlz : l 15 = false := hup 15 (by decide) (by kernel_rfl); have hin := hinv.pre hlz; obtain ⟨c0, c1, c2, c3, c4, c5, c6, c7, c8, c9⟩ := (HB.out.gr hin).c10; go_simp; exact hK _ _ True.intro (hinv.other 11 (by decide)) (dsT (by trivial))
  refine .cons (fun l a W hfr hun hup hdn hinv hdep K hK => ?_) ?_
  · have t2 := tAt (.slice q1 m1 c1) (hfr.at 2 (by kernel_rfl)); refine fW0 rfl ?_; clear hfr hdep hdn; go_simp; exact hK _ _ True.intro (hinv.other 12 (by decide)) (dsT (by trivial))
  refine .cons (fun l a W hfr hun hup hdn hinv hdep K hK => ?_) ?_
  · have t14 := tAt (.int .u64 (k : Int)) (hdep 14 (by kernel_rfl)); have t18 := tAt (.int .u64 (ep : Int)) (hdep 18 (by kernel_rfl)); have t19 := tAt (.slice q1 m1 c1) (hdep 19 (by kernel_rfl)); refine fW0 rfl ?_; clear hfr hdep hdn; go_simp; exact hK _ _ True.intro (hinv.other 13 (by decide)) (dsT (by trivial))
  refine .cons (fun l a W hfr hun hup hdn hinv hdep K hK => ?_) ?_
  · have t20 := tAt (.agg #[.int .u64 (k : Int), .int .u64 (ep : Int), .slice q1 m1 c1]) (hdep 20 (by kernel_rfl)); refine fW0 rfl ?_; clear hfr hdep hdn; have hlz : l 15 = false := hup 15 (by decide) (by kernel_rfl); have hin := hinv.pre hlz; go_simp; refine (HS.out W hin).mono ?_; rintro e W' ⟨rfl, g1⟩; exact hK _ _ True.intro (hinv.grow hlz g1 14 (by decide)) (dsT (by trivial))
  refine .cons (fun l a W hfr hun hup hdn hinv hdep K hK => ?_) ?_
  · have t10 := tAt (p) (hdep 10 (by kernel_rfl)); have t13 := tAt (.int .i64 (I : Int)) (hdep 13 (by kernel_rfl)); have t21 := tAt (.agg (sec S)) (hdep 21 (by kernel_rfl)); refine fW0 rfl ?_; clear hfr hdep hdn; have hin := hinv.pre hun; go_simp; refine (HWr.out W hin).mono ?_; rintro e W' ⟨rfl, h1⟩; exact hK _ _ True.intro (InC.fin h1) (dsT (by trivial))
  refine .cons (fun l a W hfr hun hup hdn hinv hdep K hK => ?_) ?_
  · have t22 := tAt (.int .i64 E) (hdep 22 (by kernel_rfl)); refine fW0 rfl ?_; clear hfr hdep hdn; go_simp; exact hK _ _ True.intro (hinv.other 16 (by decide)) (dsT (by trivial))
  exact True.intro
 case fin =>
  intro a W l hfr hall hinv hsl
  have s6 : a.tmps.getD 6 undef = .int .i64 E := hsl 16 _ 6 rfl rfl (by simp); have t6 := tmpAt s6; have hfin := hinv.post (hall 15 (by decide)); have e := Flow.frame hfr [7, 8, 9, 10, 11, 12, 13, 14, 15, 16, 17, 18, 19, 20, 21, 22, 6] (List.range 23) (by kernel_rfl) (by kernel_rfl)
  simp [List.range, List.range.loop] at e
  rw [t6] at e
  rw [e]; have HFin := Lib.hid hfin; clear e hfr hsl hall hinv hfin s6 t6
  first
   | (rename_i hB; refine hB _ _ ?_)
   | (rename_i hB y0; refine hB _ _ ?_)
   | (rename_i hB y0 y1; refine hB _ _ ?_)
   | (rename_i hB y0 y1 y2; refine hB _ _ ?_)
   | (rename_i hB y0 y1 y2 y3; refine hB _ _ ?_)
   | (rename_i hB y0 y1 y2 y3 y4; refine hB _ _ ?_)
   | (rename_i hB y0 y1 y2 y3 y4 y5; refine hB _ _ ?_)
   | (rename_i hB y0 y1 y2 y3 y4 y5 y6; refine hB _ _ ?_)
   | (rename_i hB y0 y1 y2 y3 y4 y5 y6 y7; refine hB _ _ ?_)
   | (rename_i hB y0 y1 y2 y3 y4 y5 y6 y7 y8; refine hB _ _ ?_)
   | skip
  go_wp2_with fail
  go_ret
  exact ⟨rfl, HFin.out⟩
def DkFin (F : Nat → Prop) (p : Value) (s : St) (w : World) (W : World) : Prop := ∃ F', Dk W F' p s ∧ Upd F F' w W
theorem place_lt {n l g : Int} (hm : mayL n l g = true) (k N : Nat) (hn : 3 + l ≤ N) : 3 + k % l.toNat < N := by
 have hin := may_in hm; have : k % l.toNat < l.toNat := Nat.mod_lt _ (by omega)
 omega
theorem wwrite_any {F : Nat → Prop} {s : St} (D b : Nat) (p : Value) (n : Int) (l : Int) (g : Int) (ep : Nat) (tl : Nat) (la : Nat) (q : Option Addr) (m : Nat) (c : Nat) (rs : Int) (bg : Bool) (k : Nat) (q1 : Option Addr) (m1 c1 : Nat) (ys : List Int) (w : World) (h : Blk w b TLg #[p, .int .i64 n, .int .i64 l, .int .i64 g, .int .u64 ep, .int .u64 tl, .int .u64 la, .slice q m c, .int .i64 rs, .bool bg]) (hp : p = .pointer (some ⟨D, 0, none⟩)) (hd : Dk w F p s) (hm : mayL n l g = true) (hk : k ≤ 18446744073709551615) (he : ep ≤ 18446744073709551615)
  (hy : Byt w q1 m1 c1 ys) (h1 : m1 ≤ 232) (hn : 3 + l ≤ s.ls.length) (hw : s.writes ≤ 1000000000) :
  Calls Tryz.prog 77 #[.pointer (some ⟨b, 0, none⟩), .int .u64 (k : Int), .slice q1 m1 c1] w fun e w' => e = .returned (.int .i64 (putDE s)) ∧ DkFin F p (putD s (3 + k % l.toNat) (Sx (secL k ep ys))) w w' :=
 wwrite_core D b p n l g ep tl la q m c rs bg k q1 m1 c1 ys _ _ _ _ w h hp hm hk he hy h1 rfl rfl (Lib.hid fun W gr => by
  refine (WriteX_any W (hd.gr gr) _ (place_lt hm k _ hn) _ hw).mono ?_; rintro e w' ⟨F', rfl, hd', hu⟩
  exact ⟨rfl, F', hd', hu.pre gr⟩)
def Tight (w : World) (F : Nat → Prop) (mm : Nat) : Prop := ∀ k, F k → k = mm ∨ ∃ cs t fr, w.heap[k]? = some (.cells cs t fr)
def DkM (w : World) (F : Nat → Prop) (p : Value) (mm : Nat) (s : St) : Prop := (∃ b lv L, p = .pointer (some ⟨b, 0, none⟩) ∧ DkAt w F b lv mm L s) ∧ Tight w F mm
theorem DkM.dk {w : World} {F : Nat → Prop} {p : Value} {mm : Nat} {s : St} (h : DkM w F p mm s) : Dk w F p s := by
 obtain ⟨⟨b, lv, L, e, h⟩, _⟩ := h; exact ⟨b, lv, mm, L, e, h⟩
theorem DkM.gr {w w' : World} {F : Nat → Prop} {p : Value} {mm : Nat} {s : St} (h : DkM w F p mm s) (g : Gr w w') : DkM w' F p mm s := by
 obtain ⟨⟨b, lv, L, e, h⟩, ht⟩ := h; exact ⟨⟨b, lv, L, e, h.gr g⟩, fun k hk => (ht k hk).imp id fun ⟨cs, t, fr, hc⟩ => ⟨cs, t, fr, (g.block k (h.low k hk)).trans hc⟩⟩
theorem DkM.stays {w w' : World} {F : Nat → Prop} {p : Value} {mm : Nat} {s : St} (h : DkM w F p mm s) (e : ∀ k, F k → w'.heap[k]? = w.heap[k]?) (hs : w.heap.size ≤ w'.heap.size) : DkM w' F p mm s := by
 obtain ⟨⟨b, lv, L, e1, h⟩, ht⟩ := h; exact ⟨⟨b, lv, L, e1, h.stays e hs⟩, fun k hk => (ht k hk).imp id fun ⟨cs, t, fr, hc⟩ => ⟨cs, t, fr, (e k hk).trans hc⟩⟩
theorem DkAt.tight {w : World} {F : Nat → Prop} {b : Nat} {lv : Value} {mm : Nat} {L : Nat → Value} {s : St} (h : DkAt w F b lv mm L s) : ∃ F1, (∀ k, F1 k → F k) ∧ DkM w F1 (.pointer (some ⟨b, 0, none⟩)) mm s := by
 refine ⟨fun k => k = b ∨ k = mm ∨ lv.ownBlock = some k ∨ ∃ i, (L i).ownBlock = some k, ?_, ⟨b, lv, L, rfl, ⟨h.ok, h.blk, h.ls, h.map, h.rows, h.apart, h.apart0, .inl rfl, .inr (.inl rfl), fun g hg => .inr (.inr (.inl hg)), fun i g hg => .inr (.inr (.inr ⟨i, hg⟩)), ?_⟩⟩, ?_⟩
 ·
  rintro k (rfl | rfl | hk | ⟨i, hk⟩)
  · exact h.ownB
  · exact h.ownM
  · exact h.ownL k hk
  · exact h.ownR i k hk
 ·
  rintro k (rfl | rfl | hk | ⟨i, hk⟩)
  · exact h.blk.lt
  · exact h.map.lt
  · exact h.ls.lt k hk
  · exact (h.rows i).lt k hk
 ·
  rintro k (rfl | rfl | hk | ⟨i, hk⟩)
  · exact .inr ⟨_, _, _, h.blk⟩
  · exact .inl rfl
  · obtain ⟨cs, hc⟩ := h.ls.kind hk; exact .inr ⟨_, _, _, hc⟩
  · obtain ⟨cs, hc⟩ := (h.rows i).kind hk; exact .inr ⟨_, _, _, hc⟩
theorem Dk.tight {w : World} {F : Nat → Prop} {p : Value} {s : St} (h : Dk w F p s) : ∃ F1 mm, (∀ k, F1 k → F k) ∧ DkM w F1 p mm s := by
 obtain ⟨b, lv, mm, L, rfl, h⟩ := h; obtain ⟨F1, h1, h2⟩ := h.tight; exact ⟨F1, mm, h1, h2⟩
theorem Upd.less {F F' F1 : Nat → Prop} {w w' : World} (h : Upd F F' w w') (hs : ∀ k, F1 k → F' k) : Upd F F1 w w' := ⟨h.os, h.tape, h.output, h.size, h.block, fun k hk => h.fresh k (hs k hk)⟩
theorem WriteM_any {F : Nat → Prop} {p : Value} {mm : Nat} {s : St} (w : World) (h : DkM w F p mm s) (i : Nat) (hi : i < s.ls.length) (x : Sec) (hw : s.writes ≤ 1000000000) : Calls Tryz.prog 13 #[p, .int .i64 (i : Int), .agg (sec x)] w fun e w' => e = .returned (.int .i64 (putDE s)) ∧ ∃ F', DkM w' F' p mm (putD s i x) ∧ Upd F F' w w' := by
 obtain ⟨⟨b, lv, L, rfl, h⟩, ht⟩ := h
 unfold putD putDE
 by_cases hr : s.refuses
 · rw [if_pos hr, if_pos hr]; refine (Write_deadM w h i hi x hr).mono ?_; rintro e w' ⟨rfl, hd, hu⟩; obtain ⟨F1, h1, h2⟩ := hd.tight; exact ⟨rfl, F1, h2, hu.less h1⟩
 · rw [if_neg hr, if_neg hr]; refine (Write_yesM w h i hi x hr hw).mono ?_; rintro e w' ⟨F', L', rfl, hd, hu⟩; obtain ⟨F1, h1, h2⟩ := hd.tight; exact ⟨rfl, F1, h2, hu.less h1⟩
theorem wwrite_m {F : Nat → Prop} {s : St} (D b : Nat) (p : Value) (n : Int) (l : Int) (g : Int) (ep : Nat) (tl : Nat) (la : Nat) (q : Option Addr) (m : Nat) (c : Nat) (rs : Int) (bg : Bool) (mm : Nat) (k : Nat) (q1 : Option Addr) (m1 c1 : Nat) (ys : List Int) (w : World) (h : Blk w b TLg #[p, .int .i64 n, .int .i64 l, .int .i64 g, .int .u64 ep, .int .u64 tl, .int .u64 la, .slice q m c, .int .i64 rs, .bool bg]) (hp : p = .pointer (some ⟨D, 0, none⟩)) (hd : DkM w F p mm s) (hm : mayL n l g = true) (hk : k ≤ 18446744073709551615) (he : ep ≤ 18446744073709551615)
  (hy : Byt w q1 m1 c1 ys) (h1 : m1 ≤ 232) (hn : 3 + l ≤ s.ls.length) (hw : s.writes ≤ 1000000000) :
  Calls Tryz.prog 77 #[.pointer (some ⟨b, 0, none⟩), .int .u64 (k : Int), .slice q1 m1 c1] w fun e w' => e = .returned (.int .i64 (putDE s)) ∧ ∃ F', DkM w' F' p mm (putD s (3 + k % l.toNat) (Sx (secL k ep ys))) ∧ Upd F F' w w' :=
 wwrite_core D b p n l g ep tl la q m c rs bg k q1 m1 c1 ys _ _ _ _ w h hp hm hk he hy h1 rfl rfl (Lib.hid fun W gr => by
  refine (WriteM_any W (hd.gr gr) _ (place_lt hm k _ hn) _ hw).mono ?_; rintro e w' ⟨rfl, F', hd', hu⟩
  exact ⟨rfl, F', hd', hu.pre gr⟩)
end Go.Proofs.YtlijbgapkmfnaaaGreat
namespace Go.Proofs.YtlijbgapkmfnaaaGreat
open Go.RowKit Go.Maps
structure Wl (w : World) (F : Nat → Prop) (b : Nat) (p : Value) (q : Option Addr) (m c : Nat) (s : St) (L : Lg) : Prop where
 dk : Dk w F p s
 lg : LgAt w b p q m c L
 apart : ∀ k, F k → ¬ lgS b q k
def wlS (F : Nat → Prop) (b : Nat) (q : Option Addr) (k : Nat) : Prop := F k ∨ lgS b q k
theorem Wl.gr {w w' : World} {F : Nat → Prop} {b : Nat} {p : Value} {q : Option Addr} {m c : Nat} {s : St} {L : Lg} (h : Wl w F b p q m c s L) (g : Gr w w') : Wl w' F b p q m c s L := ⟨h.dk.gr g, h.lg.gr g, h.apart⟩
theorem LgAt.stays {w w' : World} {b : Nat} {p : Value} {q : Option Addr} {m c : Nat} {L : Lg} (h : LgAt w b p q m c L) (e : ∀ k, lgS b q k → w'.heap[k]? = w.heap[k]?) (hs : w.heap.size ≤ w'.heap.size) : LgAt w' b p q m c L :=
 ⟨h.blk.stays (e b (.inl rfl)), h.txt.stays (fun y hy => e _ (.inr ⟨y, hy, rfl⟩)), h.apart, fun k hk => Nat.lt_of_lt_of_le (h.low k hk) hs, h.dsk⟩
theorem Wl.disk {w w' : World} {F : Nat → Prop} {b : Nat} {p : Value} {q : Option Addr} {m c : Nat} {s s' : St} {L : Lg} (h : Wl w F b p q m c s L) (hf : DkFin F p s' w w') : ∃ F', Wl w' F' b p q m c s' L ∧ Upd (wlS F b q) (wlS F' b q) w w' := by
 obtain ⟨F', hd, hu⟩ := hf; obtain ⟨h1, h2⟩ := hu.other h.lg.low h.apart; exact ⟨F', ⟨hd, h.lg.stays h1 hu.size, h2⟩, ⟨hu.os, hu.tape, hu.output, hu.size, fun k hk hn => hu.block k hk (fun e => hn (.inl e)), fun k hk => hk.elim (fun e => (hu.fresh k e).imp .inl id) (fun e => .inl (.inr e))⟩⟩
theorem Upd.comp {F F' F'' : Nat → Prop} {w w1 w2 : World} (h : Upd F F' w w1) (k : Upd F' F'' w1 w2) : Upd F F'' w w2 := h.trans k
theorem Upd.cell {S : Nat → Prop} {b i : Nat} (hb : S b) (w : World) (u : Value) : Upd S S w (w.setCell ⟨b, i, none⟩ u) := by
 have h := Only.cell b i w u; exact ⟨h.os, h.tape, h.output, Nat.le_of_eq h.size.symm, fun k _ hn => h.block k (fun e => hn (e ▸ hb)), fun k hk => .inl hk⟩
theorem Wl.begun {w : World} {F : Nat → Prop} {b : Nat} {p : Value} {q : Option Addr} {m c : Nat} {s : St} {L : Lg} (h : Wl w F b p q m c s L) : Wl (w.setCell ⟨b, 9, none⟩ (.bool true)) F b p q m c s { L with begun := true } := by
 have ho := Only.cell b 9 w (.bool true); refine ⟨h.dk.stays (fun k hk => ho.block k (fun e => h.apart k hk (.inl e))) (Nat.le_of_eq ho.size.symm), ⟨h.lg.blk.set 9 _, h.lg.txt.stays (fun y hy => ho.block _ (h.lg.apart y hy)), h.lg.apart, fun k hk => by rw [ho.size]; exact h.lg.low k hk, h.lg.dsk⟩, h.apart⟩
def RetWl (v : Value) (s' : St) (L' : Lg) (F : Nat → Prop) (b : Nat) (p : Value) (q : Option Addr) (w : World) (e : Ending) (w' : World) : Prop :=
 ∃ F' q' m' c', e = .returned v ∧ Wl w' F' b p q' m' c' s' L' ∧ Upd (wlS F b q) (wlS F' b q') w w'
def begX (L : Lg) : Sec := Sx (secL (L.lasts / 232) L.epoch (L.txt.take (L.lasts % 232)))
def begI (L : Lg) : Nat := 3 + L.lasts / 232 % L.l.toNat
def begS (s : St) (L : Lg) : St := if L.begun then s else if s.refuses then putD s (begI L) (begX L) else BaS (putD s (begI L) (begX L))
def begL (s : St) (L : Lg) : Lg := if L.begun then L else if s.refuses then L else { L with begun := true }
def begE (s : St) (L : Lg) : Int := if L.begun then 0 else putDE s
theorem putD_alive {s : St} {i : Nat} {x : Sec} (h : ¬ s.refuses) : (putD s i x).dead = false ∧ (putD s i x).writes = s.writes + 1 ∧ (putD s i x).ls = s.ls := by
 unfold putD
 rw [if_neg h]; refine ⟨?_, rfl, rfl⟩
 show s.dead = false
 cases hd : s.dead with
 | false => rfl
 | true => exact absurd (.inr hd) h
theorem BaE_alive {s : St} (h : s.dead = false) : BaE s = 0 := by unfold BaE; rw [h]; rfl
def SlBe (b : Nat) (La : Nat) (J : Nat) (A : Nat) (q : Option Addr) (m : Nat) (c : Nat) (q2 : Option Addr) (E : Int) (slot : Nat) (v : Value) (_ : World) : Prop :=
 match slot with
 | 3 => v = .int .i64 E
 | 8 => v = .pointer (some ⟨b, 0, none⟩)
 | 9 => v = .pointer (some ⟨b, 0, none⟩)
 | 10 => v = .pointer (some ⟨b, 0, none⟩)
 | 11 => v = .pointer (some ⟨b, 6, none⟩)
 | 12 => v = .int .u64 (La : Int)
 | 13 => v = .int .u64 (J : Int)
 | 14 => v = .pointer (some ⟨b, 0, none⟩)
 | 15 => v = .pointer (some ⟨b, 0, none⟩)
 | 16 => v = .pointer (some ⟨b, 7, none⟩)
 | 17 => v = .slice q m c
 | 18 => v = .pointer (some ⟨b, 0, none⟩)
 | 19 => v = .pointer (some ⟨b, 0, none⟩)
 | 20 => v = .pointer (some ⟨b, 6, none⟩)
 | 21 => v = .int .u64 (La : Int)
 | 22 => v = .int .i64 (A : Int)
 | 23 => v = .slice q2 A c
 | 24 => v = .int .i64 E
 | _ => True
set_option maxRecDepth 100000 in
set_option maxHeartbeats 1000000 in
theorem wbegin_any {F : Nat → Prop} {b : Nat} {p : Value} {q : Option Addr} {m c : Nat} {s : St} {L : Lg} (w : World) (h : Wl w F b p q m c s L) (ok : L.Ok) (hn : 3 + L.l ≤ s.ls.length) (hw : s.writes ≤ 900000000) :
  Calls Tryz.prog 57 #[.pointer (some ⟨b, 0, none⟩)] w (RetWl (.int .i64 (begE s L)) (begS s L) (begL s L) F b p q w) := by
 obtain ⟨c0, c1, c2, c3, c4, c5, c6, c7, c8, c9⟩ := h.lg.blk.c10; have HL := Lib.hid h
 cases hb : L.begun
 ·
  rw [hb] at c9
  obtain ⟨D, hD⟩ := h.lg.dsk; obtain ⟨A, hA⟩ : ∃ A, A = L.lasts % 232 := ⟨_, rfl⟩; obtain ⟨J, hJ⟩ : ∃ J, J = L.lasts / 232 := ⟨_, rfl⟩; have hml := h.lg.mlen
  have hAm : A ≤ m := by have := ok.has; omega
  have hcap := h.lg.txt.1.cap; obtain ⟨q2, hcut, hc2⟩ := cut_h (p := q) (n := m) (c := c) A hAm hcap; have HCut := Lib.hid hcut
  have hlb : L.lasts ≤ 18446744073709551615 := by have := ok.near; have := ok.most; omega
  have HA : Hid (∀ W, Calls Tryz.prog 60 #[.int .u64 (L.lasts : Int)] W fun e w' => e = .returned (.int .i64 (A : Int)) ∧ W = w') := Lib.hid fun W => by rw [hA]; exact ahead_any _ W hlb
  have HJs : Hid (∀ W, Calls Tryz.prog 78 #[.int .u64 (L.lasts : Int)] W fun e w' => e = .returned (.int .u64 (J : Int)) ∧ W = w') := Lib.hid fun W => by rw [hJ]; exact sectorOf_any _ W hlb
  obtain ⟨E, hE⟩ : ∃ E, E = putDE s := ⟨_, rfl⟩; obtain ⟨s1, hs1⟩ : ∃ s1, s1 = putD s (begI L) (begX L) := ⟨_, rfl⟩
  obtain ⟨Fin, hFin⟩ : ∃ Fin : World → Prop, Fin = fun W => ∃ F', Wl W F' b p q m c s1 L ∧ Upd (wlS F b q) (wlS F' b q) w W := ⟨_, rfl⟩
  have HWr : Hid (∀ W, Gr w W → Calls Tryz.prog 77 #[.pointer (some ⟨b, 0, none⟩), .int .u64 (J : Int), .slice q2 A c] W fun e w' => e = .returned (.int .i64 E) ∧ Fin w') := Lib.hid fun W gr => by
   have hW := h.gr gr; have hy := hc2.byt W _ hW.lg.txt.1
   rw [Nat.sub_zero, List.drop_zero] at hy
   refine (wwrite_any D b _ _ _ _ _ _ _ _ _ _ _ _ J q2 A c (L.txt.take A) W hW.lg.blk hD hW.dk ok.may (by omega) (by have := ok.e1; omega) hy (by omega) hn (by omega)).mono ?_; rintro e w' ⟨rfl, hf⟩; rw [hFin, hE]; refine ⟨rfl, ?_⟩
   have hs : putD s (3 + J % L.l.toNat) (Sx (secL J L.epoch (L.txt.take A))) = s1 := by rw [hs1, hA, hJ]; rfl
   rw [hs] at hf
   obtain ⟨F', h1, h2⟩ := hW.disk hf; exact ⟨F', h1, (Upd.of_gr gr).comp h2⟩
  have HB := Lib.hid h.lg.blk
  have HZ : Hid (begE s L = E ∧ begS s L = (if s.refuses then s1 else BaS s1) ∧ begL s L = (if s.refuses then L else { L with begun := true }) ∧ (s.refuses → E = 8) ∧ (¬ s.refuses → E = 0 ∧ s1.dead = false ∧ s1.writes ≤ 1000000000)) := Lib.hid (by
   refine ⟨by simp [begE, hb, hE], by unfold begS; simp [hb, hs1], by unfold begL; simp [hb], fun hr => by rw [hE]; unfold putDE; rw [if_pos hr], fun hr => ⟨by rw [hE]; unfold putDE; rw [if_neg hr], ?_⟩⟩; have := putD_alive (i := begI L) (x := begX L) hr
   rw [← hs1] at this
   exact ⟨this.1, by omega⟩)
  have HFn := Lib.hid hFin; rw [HZ.out.1]; clear c0 c1 c2 c3 c4 c5 c6 c7 c8 h hA hJ hml hAm hcap hcut hc2 hlb hE hs1 hFin hD hn hw ok HL
  go_enter Tryz.func57, Tryz.ntmps57
  go_wp2_with fail; refine Flow.regionS [3] 20 (SlBe b L.lasts J A q m c q2 E) (InC 16 w (Fin)) (fun _ _ _ => True) (by kernel_rfl) (by kernel_rfl) (fun _ _ _ _ _ _ h _ => h) (InC.start (by rfl) (Gr.refl _).drew) ?steps ?fin
  case steps =>
   refine .cons (fun l a W hfr hun hup hdn hinv hdep K hK => ?_) ?_
   · have t0 := tAt (.pointer (some ⟨b, 0, none⟩)) (hfr.at 0 (by kernel_rfl)); refine fW0 rfl ?_; clear hfr hdep hdn; go_simp; exact hK _ _ True.intro (hinv.other 0 (by decide)) (dsT (by trivial))
   refine .cons (fun l a W hfr hun hup hdn hinv hdep K hK => ?_) ?_
   · have t0 := tAt (.pointer (some ⟨b, 0, none⟩)) (hfr.at 0 (by kernel_rfl)); refine fW0 rfl ?_; clear hfr hdep hdn; go_simp; exact hK _ _ True.intro (hinv.other 1 (by decide)) (dsT (by trivial))
   refine .cons (fun l a W hfr hun hup hdn hinv hdep K hK => ?_) ?_
   · have t9 := tAt (.pointer (some ⟨b, 0, none⟩)) (hdep 9 (by kernel_rfl)); refine fW0 rfl ?_; clear hfr hdep hdn; go_simp; exact hK _ _ True.intro (hinv.other 2 (by decide)) (dsT (by trivial))
   refine .cons (fun l a W hfr hun hup hdn hinv hdep K hK => ?_) ?_
   · have t10 := tAt (.pointer (some ⟨b, 0, none⟩)) (hdep 10 (by kernel_rfl)); refine fW0 rfl ?_; clear hfr hdep hdn; go_simp; exact hK _ _ True.intro (hinv.other 3 (by decide)) (dsT (by trivial))
   refine .cons (fun l a W hfr hun hup hdn hinv hdep K hK => ?_) ?_
   · have t11 := tAt (.pointer (some ⟨b, 6, none⟩)) (hdep 11 (by kernel_rfl)); refine fW0 rfl ?_; clear hfr hdep hdn; have hlz : l 16 = false := hup 16 (by decide) (by kernel_rfl); have hin := hinv.pre hlz; obtain ⟨c0, c1, c2, c3, c4, c5, c6, c7, c8, c9⟩ := (HB.out.gr hin).c10; go_simp; exact hK _ _ True.intro (hinv.other 4 (by decide)) (dsT (by trivial))
   refine .cons (fun l a W hfr hun hup hdn hinv hdep K hK => ?_) ?_
   · have t12 := tAt (.int .u64 (L.lasts : Int)) (hdep 12 (by kernel_rfl)); refine fW0 rfl ?_; clear hfr hdep hdn; have hlz : l 16 = false := hup 16 (by decide) (by kernel_rfl); have hin := hinv.pre hlz; go_simp; refine (HJs.out W).mono ?_; rintro e W' ⟨rfl, rfl⟩; exact hK _ _ True.intro (hinv.other 5 (by decide)) (dsT (by trivial))
   refine .cons (fun l a W hfr hun hup hdn hinv hdep K hK => ?_) ?_
   · have t0 := tAt (.pointer (some ⟨b, 0, none⟩)) (hfr.at 0 (by kernel_rfl)); refine fW0 rfl ?_; clear hfr hdep hdn; go_simp; exact hK _ _ True.intro (hinv.other 6 (by decide)) (dsT (by trivial))
   refine .cons (fun l a W hfr hun hup hdn hinv hdep K hK => ?_) ?_
   · have t14 := tAt (.pointer (some ⟨b, 0, none⟩)) (hdep 14 (by kernel_rfl)); refine fW0 rfl ?_; clear hfr hdep hdn; go_simp; exact hK _ _ True.intro (hinv.other 7 (by decide)) (dsT (by trivial))
   refine .cons (fun l a W hfr hun hup hdn hinv hdep K hK => ?_) ?_
   · have t15 := tAt (.pointer (some ⟨b, 0, none⟩)) (hdep 15 (by kernel_rfl)); refine fW0 rfl ?_; clear hfr hdep hdn; go_simp; exact hK _ _ True.intro (hinv.other 8 (by decide)) (dsT (by trivial))
   refine .cons (fun l a W hfr hun hup hdn hinv hdep K hK => ?_) ?_
   · have t16 := tAt (.pointer (some ⟨b, 7, none⟩)) (hdep 16 (by kernel_rfl)); refine fW0 rfl ?_; clear hfr hdep hdn; have hlz : l 16 = false := hup 16 (by decide) (by kernel_rfl); have hin := hinv.pre hlz; obtain ⟨c0, c1, c2, c3, c4, c5, c6, c7, c8, c9⟩ := (HB.out.gr hin).c10; go_simp; exact hK _ _ True.intro (hinv.other 9 (by decide)) (dsT (by trivial))
   refine .cons (fun l a W hfr hun hup hdn hinv hdep K hK => ?_) ?_
   · have t0 := tAt (.pointer (some ⟨b, 0, none⟩)) (hfr.at 0 (by kernel_rfl)); refine fW0 rfl ?_; clear hfr hdep hdn; go_simp; exact hK _ _ True.intro (hinv.other 10 (by decide)) (dsT (by trivial))
   refine .cons (fun l a W hfr hun hup hdn hinv hdep K hK => ?_) ?_
   · have t18 := tAt (.pointer (some ⟨b, 0, none⟩)) (hdep 18 (by kernel_rfl)); refine fW0 rfl ?_; clear hfr hdep hdn; go_simp; exact hK _ _ True.intro (hinv.other 11 (by decide)) (dsT (by trivial))
   refine .cons (fun l a W hfr hun hup hdn hinv hdep K hK => ?_) ?_
   · have t19 := tAt (.pointer (some ⟨b, 0, none⟩)) (hdep 19 (by kernel_rfl)); refine fW0 rfl ?_; clear hfr hdep hdn; go_simp; exact hK _ _ True.intro (hinv.other 12 (by decide)) (dsT (by trivial))
   refine .cons (fun l a W hfr hun hup hdn hinv hdep K hK => ?_) ?_
   · have t20 := tAt (.pointer (some ⟨b, 6, none⟩)) (hdep 20 (by kernel_rfl)); refine fW0 rfl ?_; clear hfr hdep hdn; have hlz : l 16 = false := hup 16 (by decide) (by kernel_rfl); have hin := hinv.pre hlz; obtain ⟨c0, c1, c2, c3, c4, c5, c6, c7, c8, c9⟩ := (HB.out.gr hin).c10; go_simp; exact hK _ _ True.intro (hinv.other 13 (by decide)) (dsT (by trivial))
   refine .cons (fun l a W hfr hun hup hdn hinv hdep K hK => ?_) ?_
   · have t21 := tAt (.int .u64 (L.lasts : Int)) (hdep 21 (by kernel_rfl)); refine fW0 rfl ?_; clear hfr hdep hdn; have hlz : l 16 = false := hup 16 (by decide) (by kernel_rfl); have hin := hinv.pre hlz; go_simp; refine (HA.out W).mono ?_; rintro e W' ⟨rfl, rfl⟩; exact hK _ _ True.intro (hinv.other 14 (by decide)) (dsT (by trivial))
   refine .cons (fun l a W hfr hun hup hdn hinv hdep K hK => ?_) ?_
   · have t17 := tAt (.slice q m c) (hdep 17 (by kernel_rfl)); have t22 := tAt (.int .i64 (A : Int)) (hdep 22 (by kernel_rfl)); have hcut := HCut.out W; refine fW0 rfl ?_; clear hfr hdep hdn; go_simp; exact hK _ _ True.intro (hinv.other 15 (by decide)) (dsT (by trivial))
   refine .cons (fun l a W hfr hun hup hdn hinv hdep K hK => ?_) ?_
   · have t8 := tAt (.pointer (some ⟨b, 0, none⟩)) (hdep 8 (by kernel_rfl)); have t13 := tAt (.int .u64 (J : Int)) (hdep 13 (by kernel_rfl)); have t23 := tAt (.slice q2 A c) (hdep 23 (by kernel_rfl)); refine fW0 rfl ?_; clear hfr hdep hdn; have hin := hinv.pre hun; go_simp; refine (HWr.out W hin).mono ?_; rintro e W' ⟨rfl, h1⟩; exact hK _ _ True.intro (InC.fin h1) (dsT (by trivial))
   refine .cons (fun l a W hfr hun hup hdn hinv hdep K hK => ?_) ?_
   · have t24 := tAt (.int .i64 E) (hdep 24 (by kernel_rfl)); refine fW0 rfl ?_; clear hfr hdep hdn; go_simp; exact hK _ _ True.intro (hinv.other 17 (by decide)) (dsT (by trivial))
   exact True.intro
  case fin =>
   intro a W l hfr hall hinv hsl
   have s3 : a.tmps.getD 3 undef = .int .i64 E := hsl 17 _ 3 rfl rfl (by simp); have t3 := tmpAt s3; have hfin := hinv.post (hall 16 (by decide)); have e := Flow.frame hfr [8, 9, 10, 11, 12, 13, 14, 15, 16, 17, 18, 19, 20, 21, 22, 23, 24, 3] (List.range 36) (by kernel_rfl) (by kernel_rfl)
   simp [List.range, List.range.loop] at e
   rw [t3] at e
   rw [e]; have HFin := Lib.hid hfin; clear e hfr hsl hall hinv hfin s3 t3
   first
    | (rename_i hB; refine hB _ _ ?_)
    | (rename_i hB y0; refine hB _ _ ?_)
    | (rename_i hB y0 y1; refine hB _ _ ?_)
    | (rename_i hB y0 y1 y2; refine hB _ _ ?_)
    | (rename_i hB y0 y1 y2 y3; refine hB _ _ ?_)
    | (rename_i hB y0 y1 y2 y3 y4; refine hB _ _ ?_)
    | (rename_i hB y0 y1 y2 y3 y4 y5; refine hB _ _ ?_)
    | (rename_i hB y0 y1 y2 y3 y4 y5 y6; refine hB _ _ ?_)
    | (rename_i hB y0 y1 y2 y3 y4 y5 y6 y7; refine hB _ _ ?_)
    | (rename_i hB y0 y1 y2 y3 y4 y5 y6 y7 y8; refine hB _ _ ?_)
    | skip
   have hF := HFin.out
   rw [HFn.out] at hF
   obtain ⟨F1, hw1, hu1⟩ := hF; have HW1 := Lib.hid hw1; have HU1 := Lib.hid hu1; clear hw1 hu1 HFin HWr HA HJs HCut HB
   by_cases hr : s.refuses
   ·
    have HZ2 : Hid (begS s L = s1 ∧ begL s L = L) := Lib.hid ⟨by rw [HZ.out.2.1, if_pos hr], by rw [HZ.out.2.2.1, if_pos hr]⟩; obtain rfl : E = 8 := HZ.out.2.2.2.1 hr; clear hr HZ; go_wp2_with fail
    go_ret
    rw [HZ2.out.1, HZ2.out.2]; exact ⟨F1, q, m, c, rfl, HW1.out, HU1.out⟩
   ·
    have HZ2 : Hid (begS s L = BaS s1 ∧ begL s L = { L with begun := true }) := Lib.hid ⟨by rw [HZ.out.2.1, if_neg hr], by rw [HZ.out.2.2.1, if_neg hr]⟩; have h3 := HZ.out.2.2.2.2 hr; obtain rfl : E = 0 := h3.1; have HS1 : Hid (s1.dead = false ∧ s1.writes ≤ 1000000000) := Lib.hid h3.2; clear hr h3 HZ; have c9 := HW1.out.lg.blk.c10.2.2.2.2.2.2.2.2.2; have c0 := HW1.out.lg.blk.cell 0
    simp at c0
    have f9 := HW1.out.lg.blk.frozen 9; have HW2 := Lib.hid HW1.out.begun
    have HBa : Hid (Calls Tryz.prog 79 #[p] (W.setCell ⟨b, 9, none⟩ (.bool true)) fun e w' => e = .returned (.int .i64 0) ∧ DkFin F1 p (BaS s1) (W.setCell ⟨b, 9, none⟩ (.bool true)) w') := Lib.hid (by
     have h := Barrier_all _ HW2.out.dk HS1.out.2
     rw [BaE_alive HS1.out.1] at h
     refine h.mono ?_; rintro e w' ⟨F2, rfl, hd, hu⟩
     exact ⟨rfl, F2, hd, hu⟩)
    go_wp2_with fail; refine HBa.out.mono ?_; rintro e w2 ⟨rfl, hf2⟩; obtain ⟨F2, hw2, hu2⟩ := HW2.out.disk hf2; have HW3 := Lib.hid hw2; have HU3 := Lib.hid (HU1.out.comp ((Upd.cell (S := wlS F1 b q) (.inr (.inl rfl)) W (.bool true)).comp hu2)); clear hw2 hu2 hf2 c9 c0 f9 HW2 HBa HW1; go_wp2_with fail
    go_ret
    rw [HZ2.out.1, HZ2.out.2]; exact ⟨F2, q, m, c, rfl, HW3.out, HU3.out⟩
 ·
  rw [hb] at c9
  have HZ : Hid (begE s L = 0 ∧ begS s L = s ∧ begL s L = L) := Lib.hid ⟨by unfold begE; rw [hb]; rfl, by unfold begS; rw [hb]; rfl, by unfold begL; rw [hb]; rfl⟩; clear c0 c1 c2 c3 c4 c5 c6 c7 c8 h hb
  go_enter Tryz.func57, Tryz.ntmps57
  go_wp2_with fail
  go_ret
  rw [HZ.out.1, HZ.out.2.1, HZ.out.2.2]; exact ⟨F, q, m, c, rfl, HL.out, Upd.of_gr (Gr.refl _)⟩
end Go.Proofs.YtlijbgapkmfnaaaGreat
namespace Go.Proofs.YtlijbgapkmfnaaaGreat
namespace Flow
open Go
theorem rows_in {n l : Nat} {P : Program} {row : String} {args : Array Value} {w : World} {R : Value → World → Prop} (h : Go.Rows P row args w R) : RowsIn (Fence.wide.inRound l) n P row args w R := fun c cs _ => by
 obtain ⟨v, w', r, s⟩ := h c cs; exact ⟨v, w', r, stepsIn_wide.2 s⟩
theorem oper_in {n l : Nat} {P : Program} {o : Oper} {a : Act} {w : World} {K : Act → World → Prop} {Q : Exit → Act → World → Prop} (hd : ∀ c, o.op ≠ .defer c) (h : o.wp P a w K Q) : o.wpIn (Fence.wide.inRound l) n P a w K Q := by
 unfold Oper.wpIn
 refine ⟨fun _ _ => trivial, ?_⟩; rw [Oper.semAt_plain _ _ _ hd]
 unfold Oper.wp at h
 generalize (execOp a.eval o).run P w = r at h ⊢
 cases r with
 | ok x w' =>
  cases x with
  | enter f args => exact ⟨(fun hh => by cases hh), (callsIn_wide.2 h).inRound l⟩
  | row row args => exact ⟨(fun hh => by cases hh), rows_in h⟩
  | round => exact h.elim
  | _ => exact h
 | halt x w' => cases x <;> exact h
section
variable {P : Program} {ops : Array Oper} {Q : Exit → Act → World → Prop} {md : Region.Mode} {l n : Nat}
variable {Sl : Nat → Value → World → Prop} {Inv : World → Prop} {G : World → World → Prop} {a0 : Act}
end
end Flow
end Go.Proofs.YtlijbgapkmfnaaaGreat
namespace Go.Proofs.YtlijbgapkmfnaaaGreat
open Go.RowKit Go.Maps Go.Shelf
attribute [local go_sem] Oper.semAt_some
abbrev CX : Type := Nat × Option Addr × Nat
def encC (x : CX) : Array Value := #[.slice x.2.1 x.2.2 x.2.2]
def chN (m : Nat) : Nat := (m + 231) / 232
def ChG (q : Option Addr) (m c : Nat) (pre : List CX) (x : CX) (_ : World) : Prop := x.1 = pre.length ∧ 232 * x.1 < m ∧ x.2.2 = min 232 (m - 232 * x.1) ∧ CutOf q m c (232 * x.1) (232 * x.1 + x.2.2) x.2.2 x.2.1
theorem chunk_any (q : Option Addr) (m c : Nat) (w : World) : Calls Tryz.prog 80 #[.slice q m c, .int .i64 232] w fun e w' => e = .returned (.func (.func 97) #[] #[.pointer (some ⟨w.heap.size, 0, none⟩), .pointer (some ⟨w.heap.size + 1, 0, none⟩)]) ∧ Blk w' w.heap.size TBs #[.slice q m c] ∧ Blk w' (w.heap.size + 1) TI #[.int .i64 232] ∧ Gr w w' ∧ w.heap.size + 1 < w'.heap.size := by
 have h1 := Blk.new w TBs #[.slice q m c]; have h2 := Blk.new (w.alloc (.cells #[.slice q m c] TBs)) TI #[.int .i64 232]
 simp only [World.size_alloc] at h2
 have H1 := Lib.hid (h1.alloc (.cells #[.int .i64 232] TI)); have H2 := Lib.hid h2; have HG := Lib.hid (Gr.trans (Gr.new w (.cells #[.slice q m c] TBs)) (Gr.new _ (.cells #[.int .i64 232] TI))); have c1 := h2.cell 0
 simp at c1
 clear h1 h2
 go_enter Tryz.func80, Tryz.ntmps80
 go_wp2_with fail
 go_ret
 exact ⟨rfl, H1.out, H2.out, HG.out, by simp⟩
set_option maxRecDepth 100000 in
set_option maxHeartbeats 2000000 in
theorem chunk1_told (n : Nat) (hn : 2 ≤ n) (Bs Bn : Nat) (q : Option Addr) (m c : Nat) (w : World) (hs : Blk w Bs TBs #[.slice q m c]) (hb : Blk w Bn TI #[.int .i64 232]) (hc : m ≤ c) (hm : m ≤ 1000000) :
  SeqTold Fence.wide n Tryz.prog 97 #[.pointer (some ⟨Bs, 0, none⟩), .pointer (some ⟨Bn, 0, none⟩)] encC (ChG q m c) (fun k => k = Bs ∨ k = Bn) (fun ys => ys.length = chN m) (fun _ => True) w := fun l J Jx W hW hJ hJx hY h0 => by
 have h1 : 1 ≤ n := by omega
 have HJ := Lib.hid hJ; have HY := Lib.hid hY; have H0 := Lib.hid h0; have HS := Lib.hid (hs.gr hW); have HN := Lib.hid (hb.gr hW); clear hW hJ hJx hY h0 hs hb; refine callsIn_of_wp Tryz.func97 rfl trivial ?_ rfl
 simp only [Tryz.ntmps97, List.size_toArray, List.length_cons, List.length_nil, Nat.reduceAdd, Nat.reduceSub, Array.replicate_succ, Array.replicate_zero, List.push_toArray, List.append_toArray, List.nil_append, List.cons_append]
 gi_wp2_with fail
 gi_loopw [4] (fun iv wr => ∃ (pre : List CX) (i : Nat), iv = .int .i64 (i : Int) ∧ i < m + 232 ∧ Hid (i = 232 * pre.length) ∧ Hid (J pre wr ∧ Blk wr Bs TBs #[.slice q m c] ∧ Blk wr Bn TI #[.int .i64 232] ∧ W.heap.size ≤ wr.heap.size)) (fun iv _ => m + 232 - (intOf iv).toNat)
 case atStart => exact ⟨[], 0, rfl, by omega, Lib.hid rfl, Lib.hid ⟨H0.out, HS.out, HN.out, Nat.le_refl _⟩⟩
 case round =>
  obtain ⟨pre, i, rfl, hp, HI, hh⟩ := hrel; have c1 := hh.out.2.1.cell 0; have c2 := hh.out.2.2.1.cell 0
  simp at c1 c2
  by_cases hlt : i < m
  ·
   have hlt2 : (i : Int) < (m : Int) := by omega
   obtain ⟨q1, hcut1, _⟩ := cut_l (p := q) (n := m) (c := c) i (by omega) hc; obtain ⟨K, hK⟩ : ∃ K, K = min 232 (m - i) := ⟨_, rfl⟩
   have hmin : min (232 : Int) ((m - i : Nat) : Int) = (K : Int) := by omega
   obtain ⟨E, hE⟩ : ∃ E, E = i + K := ⟨_, rfl⟩; obtain ⟨q2, hcut2, hof2⟩ := cut_lhm (p := q) (n := m) (c := c) i E E (by omega) (by omega) (Nat.le_refl _) (by omega)
   have hEK : E - i = K := by omega
   rw [hEK] at hcut2 hof2
   have hw1 : IntKind.i64.wrap ((i : Int) + (K : Int)) = (E : Int) := by rw [IntWalk.i64_in _ (by omega)]; omega
   have hi0 : (0 : Int) ≤ (i : Int) := by omega
   have hi2 : (i : Int) ≤ (m : Int) := by omega
   have hE2 : (E : Int) ≤ (c : Int) := by omega
   have hiE : (i : Int) ≤ (E : Int) := by omega
   have hx : ∃ x : CX, x = (pre.length, q2, K) := ⟨_, rfl⟩; obtain ⟨x, hx⟩ := hx
   have HG : Hid (∀ V, ChG q m c pre x V) := Lib.hid fun V => by
    rw [hx]; have h3 := HI.out; refine ⟨rfl, by show 232 * pre.length < m; omega, by show K = min 232 (m - 232 * pre.length); rw [← h3]; exact hK, ?_⟩
    show CutOf q m c (232 * pre.length) (232 * pre.length + K) K q2
    rw [← h3, ← hE]; exact hof2
   have HX := Lib.hid hx; have HK : Hid (E = i + K ∧ (K = 232 ∨ K = m - i) ∧ K ≤ 232 ∧ 0 < K) := Lib.hid ⟨hE, by omega, by omega, by omega⟩; clear hK hE hEK hof2 hx
   gi_wp2_with fail
   refine wpIn_wide.2 ?_
   go_quiet (fail)
   have gd : Gr wr (wr.drewN nq) := below_drewN (Gr.refl wr) nq; have HV : Hid (J pre (wr.drewN nq) ∧ Blk (wr.drewN nq) Bs TBs #[.slice q m c] ∧ Blk (wr.drewN nq) Bn TI #[.int .i64 232] ∧ W.heap.size ≤ (wr.drewN nq).heap.size) := Lib.hid ⟨HJ.out pre _ _ none hh.out.1 gd.gnone (fun r e => by cases e), hh.out.2.1.gr gd, hh.out.2.2.1.gr gd, Nat.le_trans hh.out.2.2.2 gd.size⟩; obtain ⟨V, hV⟩ : ∃ V, V = wr.drewN nq := ⟨_, rfl⟩
   rw [← hV] at HV ⊢
   clear hV gd hh c1 c2 hcut1 hmin; have c1 := HV.out.2.1.cell 0; have c2 := HV.out.2.2.1.cell 0
   simp at c1 c2
   obtain ⟨fn, tmps, assign, body, hyl, hR⟩ := HY.out pre x V HV.out.1 (HG.out V)
   rw [HX.out] at hyl
   dsimp only [encC] at hyl
   have HR := Lib.hid hR; clear hR
   gi_wp2_with fail
   refine HR.out.mono ?_; rintro e2 V' (⟨rfl, hj2, hk⟩ | ⟨rfl, hx2⟩)
   ·
    have HV2 : Hid (J (pre ++ [x]) V' ∧ Blk V' Bs TBs #[.slice q m c] ∧ Blk V' Bn TI #[.int .i64 232] ∧ W.heap.size ≤ V'.heap.size) := Lib.hid ⟨hj2, hk.same Bs _ (.inl rfl) HV.out.2.1 rfl, hk.same Bn _ (.inr rfl) HV.out.2.2.1 rfl, Nat.le_trans HV.out.2.2.2 hk.size⟩; have c1' := HV2.out.2.1.cell 0; have c2' := HV2.out.2.2.1.cell 0
    simp at c1' c2'
    have hw3 : IntKind.i64.wrap ((i : Int) + 232) = (i : Int) + 232 := IntWalk.i64_in _ (by omega); clear hk hj2 hyl HR c1 c2
    gi_wp2_with fail
    go_roundw
    case rel => exact ⟨pre ++ [x], i + 232, by go_num, by omega, Lib.hid (by have := HI.out; simp; omega), HV2⟩
    case measure => simp [intOf]; omega
   ·
    clear hyl HR
    gi_wp2_with fail
    exact bodyPost_ret (results_none rfl _ _ _) rfl ⟨⟨_, rfl⟩, .inr ⟨pre ++ [x], trivial, hx2⟩⟩
  ·
   have hge : ¬ (i : Int) < (m : Int) := by omega
   gi_wp2_with fail
   exact bodyPost_end (results_none rfl _ _ _) rfl ⟨⟨_, rfl⟩, .inl ⟨pre, by have := HI.out; unfold chN; omega, hh.out.1⟩⟩
end Go.Proofs.YtlijbgapkmfnaaaGreat
namespace Go.Proofs.YtlijbgapkmfnaaaGreat
open Go.RowKit
theorem hold_grown {W W' : World} {row : Option Nat} (g : W.grownBy W' row) (hr : ∀ r, row = some r → ∃ o : Obj, W.heap[r]? = some o ∧ o.isCells = false) : HoldS Obj.isCells (fun _ => True) W W' :=
 ⟨g.size, fun k o _ hk hc => (g.block k (Array.getElem?_eq_some_iff.1 hk).1 (fun e => by
  obtain ⟨o2, h1, h2⟩ := hr k e.symm
  rw [hk] at h1
  cases h1
  rw [hc] at h2
  cases h2)).trans hk⟩
theorem Blk.held {W W' : World} {g : Nat} {t : TypeId} {cs : Array Value} (h : Blk W g t cs) (k : HoldS Obj.isCells (fun _ => True) W W') : Blk W' g t cs := k.same g _ trivial h rfl
theorem results_cell_one {fn : Func} {p : Tmp} {ty : TypeId} (h : fn.results = #[.cell p ty]) (ha : ∀ w, (isAgg ty).run Tryz.prog w = .ok false w) (tmps : Array Value) (w : World) (a : Addr) (v : Value) (hp : tmps.getD p undef = .pointer (some a)) (hc : w.cell? a = some v) : (results fn tmps).run Tryz.prog w = .ok v w := by
 simp only [results, h]
 simp [-Array.getD_eq_getD_getElem?, Sem.run_bind, Result.andThen, hp, asAddr, loadVar, ha, hc]
end Go.Proofs.YtlijbgapkmfnaaaGreat
