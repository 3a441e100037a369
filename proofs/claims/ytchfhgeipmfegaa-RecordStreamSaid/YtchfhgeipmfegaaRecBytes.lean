
/-
  A record's bytes at a place: the program's.
-/
import Derived.Test.YtchfhgeipmfegaaRecBody
import Derived.Test.YtchfhgeipmfegaaRecSame
namespace Go.Proofs.Ytchfhgeipmfegaa
open Go.RowKit Cr

theorem befR_nat (k : Int) (na nb : Nat) : ((nb : Int) = befR k na) ↔ (nb = if k = 1 then na else 0) := by
  unfold befR; split <;> omega

theorem len_nil {l : List Int} : ([] = l) ↔ l.length = 0 := by
  constructor
  · intro h; rw [← h]; rfl
  · intro h; exact (List.eq_nil_of_length_eq_zero h).symm
theorem len_nil' {l : List Int} : (l = []) ↔ l.length = 0 := List.length_eq_zero_iff.symm

set_option maxHeartbeats 1000000 in
theorem mayR_any (c : Rc) (pb : Option Addr) (nb cb : Nat) (pa : Option Addr) (na ca : Nat) (w : World) (hb : Byt w pb nb cb c.b) (ha : Byt w pa na ca c.a) :
    Calls Try.prog 57 #[.agg #[.int .i64 c.k, .int .u64 c.t, .int .u64 c.p, .int .u64 c.x, .int .i64 c.g, .int .i64 c.o, .slice pb nb cb, .slice pa na ca]] w (RetB (mayR c) w) := by
  obtain ⟨k, t, p, x, g, o, b, a⟩ := c
  simp only at hb ha
  simp only
  have lb := hb.len
  have la := ha.len
  have hmost : (na : Int) ≤ 9223372036854775807 := by have h1 := ha.most; have h2 := ha.cap; unfold maxLen at h1; omega
  have hF := fun W => fitsR_any k t p x g o pb nb cb pa na ca W hmost
  have fin : ∀ (V : Value) (S : Bool), (∀ W, Calls Try.prog 76 #[.agg #[.int .i64 k, .int .u64 t, .int .u64 p, .int .u64 x, .int .i64 g, .int .i64 o, .slice pb nb cb, .slice pa na ca]] W (RetV V W)) →
      (∀ W, Gr w W → Calls Try.prog 75 #[.agg #[.int .i64 k, .int .u64 t, .int .u64 p, .int .u64 x, .int .i64 g, .int .i64 o, .slice pb nb cb, .slice pa na ca], V] W (RetB S W)) →
      (!decide (t = 0) && (S && (!chB k || fitQ k g o nb na))) = mayR ⟨k, t, p, x, g, o, b, a⟩ → Calls Try.prog 57 #[.agg #[.int .i64 k, .int .u64 t, .int .u64 p, .int .u64 x, .int .i64 g, .int .i64 o, .slice pb nb cb, .slice pa na ca]] w (RetB (mayR ⟨k, t, p, x, g, o, b, a⟩) w) := fun V S h1 h2 h3 => by
    rw [← h3]
    exact may_core k t p x g o pb nb cb pa na ca V S _ w h1 h2 hF
  by_cases h1 : k = 1
  · subst h1
    refine fin _ _ (fun W => named1 t p x g o pb nb cb pa na ca W) (fun W gr => sameRec_any ⟨1, t, p, x, g, o, b, a⟩ ⟨1, t, p, 0, g, o, b, a⟩ pb nb cb pa na ca pb nb cb pa na ca W (hb.kept gr) (ha.kept gr) (hb.kept gr) (ha.kept gr)) ?_
    rw [Bool.eq_iff_iff]
    simp [sameR, mayR, mayQ, fitR, fitQ, chB, befR, lb, la]
    omega
  by_cases h2 : k = 2
  · subst h2
    refine fin _ _ (fun W => named2 t p x g o pb nb cb pa na ca W) (fun W gr => sameRec_any ⟨2, t, p, x, g, o, b, a⟩ ⟨2, t, p, x, g, o, [], a⟩ pb nb cb pa na ca none 0 0 pa na ca W (hb.kept gr) (ha.kept gr) (Byt.nil W) (ha.kept gr)) ?_
    rw [Bool.eq_iff_iff]
    simp [sameR, mayR, mayQ, fitR, fitQ, chB, befR, lb, la, len_nil']
    omega
  by_cases h3 : k = 3
  · subst h3
    refine fin _ _ (fun W => named3 t p x g o pb nb cb pa na ca W) (fun W gr => sameRec_any ⟨3, t, p, x, g, o, b, a⟩ ⟨3, t, p, 0, 0, 0, [], []⟩ pb nb cb pa na ca none 0 0 none 0 0 W (hb.kept gr) (ha.kept gr) (Byt.nil W) (Byt.nil W)) ?_
    rw [Bool.eq_iff_iff]
    simp [sameR, mayR, mayQ, fitR, fitQ, chB, befR, lb, la, len_nil']
  by_cases h4 : k = 4
  · subst h4
    refine fin _ _ (fun W => named4 t p x g o pb nb cb pa na ca W) (fun W gr => sameRec_any ⟨4, t, p, x, g, o, b, a⟩ ⟨4, t, p, 0, 0, 0, [], []⟩ pb nb cb pa na ca none 0 0 none 0 0 W (hb.kept gr) (ha.kept gr) (Byt.nil W) (Byt.nil W)) ?_
    rw [Bool.eq_iff_iff]
    simp [sameR, mayR, mayQ, fitR, fitQ, chB, befR, lb, la, len_nil']
  · refine fin _ _ (fun W => named0 k t p x g o pb nb cb pa na ca W h1 h2 h3 h4) (fun W gr => sameRec_any ⟨k, t, p, x, g, o, b, a⟩ Rc.nil pb nb cb pa na ca none 0 0 none 0 0 W (hb.kept gr) (ha.kept gr) (Byt.nil W) (Byt.nil W)) ?_
    rw [Bool.eq_iff_iff]
    simp [sameR, mayR, mayQ, fitR, fitQ, chB, befR, lb, la, Rc.nil, h1, h2, h3, h4]
    intro q1
    exact decide_eq_false fun h => q1 h.2.1

/-- How many bytes it has. -/
def sizeR (c : Rc) : Nat := if mayR c then 35 + c.b.length + c.a.length else 0
theorem size_any (c : Rc) (pb : Option Addr) (nb cb : Nat) (pa : Option Addr) (na ca : Nat) (w : World) (hb : Byt w pb nb cb c.b) (ha : Byt w pa na ca c.a) :
    Calls Try.prog 50 #[.agg #[.int .i64 c.k, .int .u64 c.t, .int .u64 c.p, .int .u64 c.x, .int .i64 c.g, .int .i64 c.o, .slice pb nb cb, .slice pa na ca]] w (RetI (sizeR c) w) := by
  have HM := Lib.hid (mayR_any c pb nb cb pa na ca (w.alloc (.cells #[.int .i64 c.k, .int .u64 c.t, .int .u64 c.p, .int .u64 c.x, .int .i64 c.g, .int .i64 c.o, .slice pb nb cb, .slice pa na ca] TR)) (hb.kept ((Gr.refl w).alloc (Nat.le_refl _) _)) (ha.kept ((Gr.refl w).alloc (Nat.le_refl _) _)))
  have HB := Lib.hid (Blk.new w TR #[.int .i64 c.k, .int .u64 c.t, .int .u64 c.p, .int .u64 c.x, .int .i64 c.g, .int .i64 c.o, .slice pb nb cb, .slice pa na ca])
  have lb := hb.len
  have la := ha.len
  cases hm : mayR c
  · rw [hm] at HM
    have HR : Hid (sizeR c = 0) := Lib.hid (by simp [sizeR, hm])
    obtain ⟨k, t, p, x, g, o, b, a⟩ := c
    simp only at HM HB
    obtain ⟨c0, c1, c2, c3, c4, c5, c6, c7⟩ := HB.out.c8
    clear hm hb ha lb la
    go_enter Try.func50, Try.ntmps50
    go_wp2_with fail
    refine HM.out.mono ?_
    rintro e w1 ⟨rfl, g1⟩
    have HG := Lib.hid (grow1 g1)
    clear g1 HM c0 c1 c2 c3 c4 c5 c6 c7
    go_wp2_with fail
    go_ret
    exact ⟨ret_i (by first | (rw [HR.out]; done) | (rw [HR.out]; rfl)), HG.out⟩
  · rw [hm] at HM
    have hf := mayR_fits hm
    have h1 := hf.na
    have h2 := hf.nb1
    have HR : Hid ((sizeR c : Int) = 35 + nb + na) := Lib.hid (by simp [sizeR, hm]; omega)
    have n1 : nb ≤ 248 := by omega
    have n2 : na ≤ 248 := by omega
    obtain ⟨k, t, p, x, g, o, b, a⟩ := c
    simp only at HM HB
    obtain ⟨c0, c1, c2, c3, c4, c5, c6, c7⟩ := HB.out.c8
    clear hm hb ha lb la hf h1 h2
    go_enter Try.func50, Try.ntmps50
    go_wp2_with fail
    refine HM.out.mono ?_
    rintro e w1 ⟨rfl, g1⟩
    have HB1 := HB.out.below g1 HB.out.lt
    have HG := Lib.hid (grow1 g1)
    clear g1 HM c0 c1 c2 c3 c4 c5 c6 c7
    obtain ⟨c0, c1, c2, c3, c4, c5, c6, c7⟩ := HB1.c8
    clear HB1
    go_wp2_with fail
    go_ret
    exact ⟨ret_i (by first | (rw [HR.out]; done) | (rw [HR.out]; rfl)), HG.out⟩

/-- Its body. -/
theorem body_any (c : Rc) (pb : Option Addr) (nb cb : Nat) (pa : Option Addr) (na ca : Nat) (w : World) (hm : mayR c = true) (hi : c.In) (hb : Byt w pb nb cb c.b) (ha : Byt w pa na ca c.a) :
    Calls Try.prog 58 #[.agg #[.int .i64 c.k, .int .u64 c.t, .int .u64 c.p, .int .u64 c.x, .int .i64 c.g, .int .i64 c.o, .slice pb nb cb, .slice pa na ca]] w (RetByte (bodyL c) w) := by
  have hf := mayR_fits hm
  have f1 := hf.k0
  have f2 := hf.k1
  have f3 := hf.g0
  have f4 := hf.g1
  have f5 := hf.o0
  have f6 := hf.o1
  have f7 := hf.na
  have f9 := hf.nb1
  have i1 := hi.t
  have i2 := hi.p
  have i3 := hi.x
  obtain ⟨k, t, p, x, g, o, b, a⟩ := c
  simp only at f1 f2 f3 f4 f5 f6 f7 f9 i1 i2 i3 hb ha
  simp only
  obtain ⟨k, rfl⟩ := Int.eq_ofNat_of_zero_le (show 0 ≤ k by omega)
  obtain ⟨g, rfl⟩ := Int.eq_ofNat_of_zero_le f3
  obtain ⟨o, rfl⟩ := Int.eq_ofNat_of_zero_le f5
  have lb := hb.len
  have la := ha.len
  subst lb la
  have h := body_nat k t p x g o b a pb cb pa ca w hb ha (by omega) i1 i2 i3 (by omega) (by omega) (by omega) (by omega)
  rw [nine_rec] at h
  exact h
theorem refBytes_any (c : Rc) (pb : Option Addr) (nb cb : Nat) (pa : Option Addr) (na ca : Nat) (at' : Nat) (w : World) (hm : mayR c = true) (hi : c.In) (hb : Byt w pb nb cb c.b) (ha : Byt w pa na ca c.a) (hat : at' ≤ 18446744073709551615) :
    Calls Try.prog 55 #[.agg #[.int .i64 c.k, .int .u64 c.t, .int .u64 c.p, .int .u64 c.x, .int .i64 c.g, .int .i64 c.o, .slice pb nb cb, .slice pa na ca], .int .u64 at'] w (RetByte (recL c at') w) := by
  have hf := mayR_fits hm
  have f1 := hf.k0
  have f2 := hf.k1
  have f3 := hf.g0
  have f4 := hf.g1
  have f5 := hf.o0
  have f6 := hf.o1
  have f7 := hf.na
  have f9 := hf.nb1
  have i1 := hi.t
  have i2 := hi.p
  have i3 := hi.x
  obtain ⟨k, t, p, x, g, o, b, a⟩ := c
  simp only at f1 f2 f3 f4 f5 f6 f7 f9 i1 i2 i3 hb ha
  simp only
  obtain ⟨k, rfl⟩ := Int.eq_ofNat_of_zero_le (show 0 ≤ k by omega)
  obtain ⟨g, rfl⟩ := Int.eq_ofNat_of_zero_le f3
  obtain ⟨o, rfl⟩ := Int.eq_ofNat_of_zero_le f5
  have lb := hb.len
  have la := ha.len
  subst lb la
  exact refBytes_nat k t p x g o b a pb cb pa ca at' w hb ha (by omega) i1 i2 i3 (by omega) (by omega) (by omega) (by omega) hat

/-- What Bytes answers. -/
def bytesL (c : Rc) (at' : Nat) : List Int := if mayR c then recL c at' else []
def bytesE (c : Rc) : Int := if mayR c then 0 else 2

set_option maxRecDepth 100000 in
set_option maxHeartbeats 2000000 in
theorem bytes_may (c : Rc) (pb : Option Addr) (nb cb : Nat) (pa : Option Addr) (na ca : Nat) (at' : Nat) (w : World) (hm : mayR c = true) (hi : c.In) (hb : Byt w pb nb cb c.b) (ha : Byt w pa na ca c.a) (hat : at' ≤ 18446744073709551615) :
    Calls Try.prog 27 #[.agg #[.int .i64 c.k, .int .u64 c.t, .int .u64 c.p, .int .u64 c.x, .int .i64 c.g, .int .i64 c.o, .slice pb nb cb, .slice pa na ca], .int .u64 at'] w (RetBytes 0 (recL c at') w) := by
  have HG0 := Lib.hid ((Gr.refl w).alloc (Nat.le_refl _) (.cells #[.int .i64 c.k, .int .u64 c.t, .int .u64 c.p, .int .u64 c.x, .int .i64 c.g, .int .i64 c.o, .slice pb nb cb, .slice pa na ca] TR))
  have HMa := mayR_any c pb nb cb pa na ca (w.alloc (.cells #[.int .i64 c.k, .int .u64 c.t, .int .u64 c.p, .int .u64 c.x, .int .i64 c.g, .int .i64 c.o, .slice pb nb cb, .slice pa na ca] TR)) (hb.kept HG0.out) (ha.kept HG0.out)
  rw [hm] at HMa
  have HM := Lib.hid HMa
  have HBO := Lib.hid (fun W (gr : Gr (w.alloc (.cells #[.int .i64 c.k, .int .u64 c.t, .int .u64 c.p, .int .u64 c.x, .int .i64 c.g, .int .i64 c.o, .slice pb nb cb, .slice pa na ca] TR)) W) => body_any c pb nb cb pa na ca W hm hi ((hb.kept HG0.out).kept gr) ((ha.kept HG0.out).kept gr))
  have HB := Lib.hid (Blk.new w TR #[.int .i64 c.k, .int .u64 c.t, .int .u64 c.p, .int .u64 c.x, .int .i64 c.g, .int .i64 c.o, .slice pb nb cb, .slice pa na ca])
  have hf := mayR_fits hm
  have f7 := hf.na
  have f9 := hf.nb1
  have hlen := bodyL_len c
  have HREC : Hid (∀ B0 n m, B0 = bodyL c → n = 29 + c.b.length + c.a.length → m = (sumW (Wd.enc 8 at' ++ [Wd.enc 2 n, B0].flatten)).toNat → [Wd.enc 2 n, Wd.enc 4 m, B0].flatten = recL c at') := Lib.hid (fun B0 n m h1 h2 h3 => by
    subst h1 h2 h3
    unfold recL sumL sizeL
    simp)
  obtain ⟨B0, hB0⟩ : ∃ B0, B0 = bodyL c := ⟨_, rfl⟩
  rw [← hB0] at hlen HBO
  have HB0 := Lib.hid hB0
  obtain ⟨N, hN⟩ : ∃ N, N = 29 + c.b.length + c.a.length := ⟨_, rfl⟩
  rw [← hN] at hlen
  have hn1 : N ≤ 600 := by omega
  have HN := Lib.hid hN
  have HAT := Lib.hid hat
  have HLB := Lib.hid hlen
  obtain ⟨R0, hR0⟩ : ∃ R0, R0 = recL c at' := ⟨_, rfl⟩
  have HREC2 : Hid (∀ m, m = (sumW (Wd.enc 8 at' ++ [Wd.enc 2 N, B0].flatten)).toNat → [Wd.enc 2 N, Wd.enc 4 m, B0].flatten = R0) := Lib.hid fun m h => by rw [hR0]; exact HREC.out B0 N m HB0.out HN.out h
  rw [← hR0]
  clear hR0 HREC
  have hfit : fitsB N (2 : Nat) = true := fitK (k := 2) (by omega) (by omega) (by omega)
  have HFI := Lib.hid (fun W => word_fit N 2 W hfit)
  have HFM := Lib.hid (fun m (h : m ≤ 4294967295) W => word_fit m 4 W (fitK (k := 4) (by omega) (by omega) (by omega)))
  obtain ⟨k, t, p, x, g, o, b, a⟩ := c
  simp only at HM HB HG0 HBO
  obtain ⟨c0, c1, c2, c3, c4, c5, c6, c7⟩ := HB.out.c8
  clear hm hb ha hf f7 f9 hi hB0 hN hlen HMa hat hfit HN HB0
  go_enter Try.func27, Try.ntmps27
  go_wp2_with fail
  refine HM.out.mono ?_
  rintro e w1 ⟨rfl, g1⟩
  have HB1 := HB.out.below g1 HB.out.lt
  have HBO1 := Lib.hid (HBO.out w1 g1)
  have HG1 := Lib.hid (Below.trans HG0.out (g1.mono HG0.out.size))
  clear g1 HM c0 c1 c2 c3 c4 c5 c6 c7 HBO
  obtain ⟨c0, c1, c2, c3, c4, c5, c6, c7⟩ := HB1.c8
  clear HB1
  go_wp2_with fail
  refine HBO1.out.mono ?_
  rintro e w2 ⟨q, nr, cr, rfl, hy, g2, _⟩
  have hl := hy.len
  rw [HLB.out] at hl
  subst hl
  have HR2 := Lib.hid hy
  have HG2 := Lib.hid (Below.trans HG1.out (g2.mono HG1.out.size))
  clear g2 hy HBO1 c0 c1 c2 c3 c4 c5 c6 c7
  go_wp2_with fail
  refine (HFI.out _).mono ?_
  rintro e w3 ⟨q3, m3, d3, rfl, hy3, g3, _⟩
  have HR3 := Lib.hid (HR2.out.kept g3)
  have HY3 := Lib.hid hy3
  have HG3 := Lib.hid (Below.trans HG2.out (g3.mono HG2.out.size))
  have HRows := Lib.hid (Rows.two (t := 22) hy3 HR3.out rfl)
  clear g3 hy3 HR2 HFI
  go_wp2_with fail
  refine (at_crc _ _ _ _ _ _ HAT.out HRows.out).mono ?_
  rintro e w4 ⟨rfl, g4⟩
  have HR4 := Lib.hid (HR3.out.kept (grow1 g4))
  have HY4 := Lib.hid (HY3.out.kept (grow1 g4))
  have HG4 := Lib.hid (Below.trans HG3.out ((grow1 g4).mono HG3.out.size))
  clear g4 HR3 HY3 HRows
  obtain ⟨S, hS⟩ : ∃ S, S = sumW (Wd.enc 8 at' ++ [Wd.enc 2 N, B0].flatten) := ⟨_, rfl⟩
  rw [← hS]
  have hU : U S = ((S.toNat : Nat) : Int) := rfl
  obtain ⟨m, hm⟩ : ∃ m, m = S.toNat := ⟨_, rfl⟩
  have hm1 : m ≤ 4294967295 := by have := S.isLt; omega
  rw [hU, ← hm]
  have HS := Lib.hid hS
  have HM := Lib.hid hm
  clear hS hm hU
  go_wp2_with fail
  refine (HFM.out m hm1 _).mono ?_
  rintro e w5 ⟨q5, m5, d5, rfl, hy5, g5, _⟩
  have HR5 := Lib.hid (HR4.out.kept g5)
  have HY5 := Lib.hid (HY4.out.kept g5)
  have HG5 := Lib.hid (Below.trans HG4.out (g5.mono HG4.out.size))
  have HRows := Lib.hid (Rows.three (t := 22) HY5.out hy5 HR5.out rfl)
  clear hy5 g5 HR4 HY4
  go_wp2_with fail
  refine (join_any _ _ _ _ _ HRows.out (by have := HLB.out; unfold tot; simp only [List.flatten_cons, List.flatten_nil, List.length_append, Wd.enc_length, List.length_nil]; omega)).mono ?_
  rintro e w6 ⟨q6, m6, d6, rfl, hy6, g6, hf6⟩
  have HG6 := Lib.hid (Below.trans HG5.out ((grow1 g6).mono HG5.out.size))
  have HJ6 := Lib.hid hy6
  have HF6 := Lib.hid hf6
  clear hy6 g6 hf6 HRows
  go_wp2_with fail
  go_ret2
  exact ⟨_, _, _, rfl, HREC2.out m (by rw [HM.out, HS.out]) ▸ HJ6.out, HG6.out, fun y hy => Nat.le_trans (by have := HG5.out.size; simp; omega) (HF6.out y hy)⟩

theorem bytes_no (c : Rc) (pb : Option Addr) (nb cb : Nat) (pa : Option Addr) (na ca : Nat) (at' : Nat) (w : World) (hm : mayR c = false) (hb : Byt w pb nb cb c.b) (ha : Byt w pa na ca c.a) :
    Calls Try.prog 27 #[.agg #[.int .i64 c.k, .int .u64 c.t, .int .u64 c.p, .int .u64 c.x, .int .i64 c.g, .int .i64 c.o, .slice pb nb cb, .slice pa na ca], .int .u64 at'] w (RetBytes 2 [] w) := by
  have HMa := mayR_any c pb nb cb pa na ca (w.alloc (.cells #[.int .i64 c.k, .int .u64 c.t, .int .u64 c.p, .int .u64 c.x, .int .i64 c.g, .int .i64 c.o, .slice pb nb cb, .slice pa na ca] TR)) (hb.kept ((Gr.refl w).alloc (Nat.le_refl _) _)) (ha.kept ((Gr.refl w).alloc (Nat.le_refl _) _))
  rw [hm] at HMa
  have HM := Lib.hid HMa
  have HB := Lib.hid (Blk.new w TR #[.int .i64 c.k, .int .u64 c.t, .int .u64 c.p, .int .u64 c.x, .int .i64 c.g, .int .i64 c.o, .slice pb nb cb, .slice pa na ca])
  obtain ⟨k, t, p, x, g, o, b, a⟩ := c
  simp only at HM HB
  obtain ⟨c0, c1, c2, c3, c4, c5, c6, c7⟩ := HB.out.c8
  clear hm hb ha HMa
  go_enter Try.func27, Try.ntmps27
  go_wp2_with fail
  refine HM.out.mono ?_
  rintro e w1 ⟨rfl, g1⟩
  have HG := Lib.hid (grow1 g1)
  clear g1 HM c0 c1 c2 c3 c4 c5 c6 c7
  go_wp2_with fail
  go_ret2
  exact ⟨none, 0, 0, rfl, Byt.nil _, HG.out, fun _ h => by cases h⟩

theorem bytes_any (c : Rc) (pb : Option Addr) (nb cb : Nat) (pa : Option Addr) (na ca : Nat) (at' : Nat) (w : World) (hi : c.In) (hb : Byt w pb nb cb c.b) (ha : Byt w pa na ca c.a) (hat : at' ≤ 18446744073709551615) :
    Calls Try.prog 27 #[.agg #[.int .i64 c.k, .int .u64 c.t, .int .u64 c.p, .int .u64 c.x, .int .i64 c.g, .int .i64 c.o, .slice pb nb cb, .slice pa na ca], .int .u64 at'] w (RetBytes (bytesE c) (bytesL c at') w) := by
  unfold bytesE bytesL
  by_cases hm : mayR c = true
  · rw [hm]; exact bytes_may c pb nb cb pa na ca at' w hm hi hb ha hat
  · have hm : mayR c = false := by simpa using hm
    rw [hm]; exact bytes_no c pb nb cb pa na ca at' w hm hb ha

end Go.Proofs.Ytchfhgeipmfegaa
