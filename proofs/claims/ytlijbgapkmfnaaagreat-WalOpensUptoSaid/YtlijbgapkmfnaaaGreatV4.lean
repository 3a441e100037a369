/-
  Part 4 of what the laws of stage 6 rest on: contracts of the functions that they call, and what these rest on.
-/
import Derived.RangeFuncNested
import Derived.RangeFuncBound
import Derived.RangeFuncCalls
import Derived.RangeFuncLeaves
import Derived.Lib.Hide
import Derived.Shelf.Abstract
import Derived.Shelf.RegionOpen
import Derived.WalkKit
import Derived.OwnWalkIn
import Derived.TacticsInMore
import Derived.LoopNIn
import Derived.LoopIn
import Derived.Deep.Slices
import Derived.Test.YtlijbgapkmfnaaaGreatProg
import Derived.WalkSpells
import Derived.WalkLawsBesides
import Derived.Handy
import Derived.Laws.AppendOwnNone
import Derived.Deep.MidRow
import Derived.Deep.WholeRow
import Derived.Deep.RegionLaw
import Derived.ProofKit
import Derived.Stop.BytesEq
import Derived.Carry
import Derived.Maps.Own
import Derived.Maps.OwnOps
import Derived.Maps.OwnSet
import Derived.Maps.Views
import Derived.Test.YtlijbgapkmfnaaaGreatV1
import Derived.Test.YtlijbgapkmfnaaaGreatV2
import Derived.Test.YtlijbgapkmfnaaaGreatV3
set_option linter.unusedVariables false
set_option linter.unusedSimpArgs false
namespace Go.Proofs.YtlijbgapkmfnaaaGreat
open Go.RowKit Cr
theorem len_nil' {l : List Int} : (l = []) ↔ l.length = 0 := List.length_eq_zero_iff.symm
set_option maxHeartbeats 1000000 in
theorem mayR_any (c : Rc) (pb : Option Addr) (nb cb : Nat) (pa : Option Addr) (na ca : Nat) (w : World) (hb : Byt w pb nb cb c.b) (ha : Byt w pa na ca c.a) :
  Calls Tryz.prog 90 #[.agg #[.int .i64 c.k, .int .u64 c.t, .int .u64 c.p, .int .u64 c.x, .int .i64 c.g, .int .i64 c.o, .slice pb nb cb, .slice pa na ca]] w (RetB (mayR c) w) := by
 obtain ⟨k, t, p, x, g, o, b, a⟩ := c
 simp only at hb ha
 simp only
 have lb := hb.len; have la := ha.len
 have hmost : (na : Int) ≤ 9223372036854775807 := by have h1 := ha.most; have h2 := ha.cap; unfold maxLen at h1; omega
 have hF := fun W => fitsR_any k t p x g o pb nb cb pa na ca W hmost
 have fin : ∀ (V : Value) (S : Bool), (∀ W, Calls Tryz.prog 106 #[.agg #[.int .i64 k, .int .u64 t, .int .u64 p, .int .u64 x, .int .i64 g, .int .i64 o, .slice pb nb cb, .slice pa na ca]] W (RetV V W)) →
   (∀ W, Gr w W → Calls Tryz.prog 105 #[.agg #[.int .i64 k, .int .u64 t, .int .u64 p, .int .u64 x, .int .i64 g, .int .i64 o, .slice pb nb cb, .slice pa na ca], V] W (RetB S W)) →
   (!decide (t = 0) && (S && (!chB k || fitQ k g o nb na))) = mayR ⟨k, t, p, x, g, o, b, a⟩ → Calls Tryz.prog 90 #[.agg #[.int .i64 k, .int .u64 t, .int .u64 p, .int .u64 x, .int .i64 g, .int .i64 o, .slice pb nb cb, .slice pa na ca]] w (RetB (mayR ⟨k, t, p, x, g, o, b, a⟩) w) := fun V S h1 h2 h3 => by
  rw [← h3]; exact may_core k t p x g o pb nb cb pa na ca V S _ w h1 h2 hF
 by_cases h1 : k = 1
 ·
  subst h1; refine fin _ _ (fun W => named1 t p x g o pb nb cb pa na ca W) (fun W gr => sameRec_any ⟨1, t, p, x, g, o, b, a⟩ ⟨1, t, p, 0, g, o, b, a⟩ pb nb cb pa na ca pb nb cb pa na ca W (hb.kept gr) (ha.kept gr) (hb.kept gr) (ha.kept gr)) ?_; rw [Bool.eq_iff_iff]
  simp [sameR, mayR, mayQ, fitR, fitQ, chB, befR, lb, la]
  omega
 by_cases h2 : k = 2
 ·
  subst h2; refine fin _ _ (fun W => named2 t p x g o pb nb cb pa na ca W) (fun W gr => sameRec_any ⟨2, t, p, x, g, o, b, a⟩ ⟨2, t, p, x, g, o, [], a⟩ pb nb cb pa na ca none 0 0 pa na ca W (hb.kept gr) (ha.kept gr) (Byt.nil W) (ha.kept gr)) ?_; rw [Bool.eq_iff_iff]
  simp [sameR, mayR, mayQ, fitR, fitQ, chB, befR, lb, la, len_nil']
  omega
 by_cases h3 : k = 3
 ·
  subst h3; refine fin _ _ (fun W => named3 t p x g o pb nb cb pa na ca W) (fun W gr => sameRec_any ⟨3, t, p, x, g, o, b, a⟩ ⟨3, t, p, 0, 0, 0, [], []⟩ pb nb cb pa na ca none 0 0 none 0 0 W (hb.kept gr) (ha.kept gr) (Byt.nil W) (Byt.nil W)) ?_; rw [Bool.eq_iff_iff]
  simp [sameR, mayR, mayQ, fitR, fitQ, chB, befR, lb, la, len_nil']
 by_cases h4 : k = 4
 ·
  subst h4; refine fin _ _ (fun W => named4 t p x g o pb nb cb pa na ca W) (fun W gr => sameRec_any ⟨4, t, p, x, g, o, b, a⟩ ⟨4, t, p, 0, 0, 0, [], []⟩ pb nb cb pa na ca none 0 0 none 0 0 W (hb.kept gr) (ha.kept gr) (Byt.nil W) (Byt.nil W)) ?_; rw [Bool.eq_iff_iff]
  simp [sameR, mayR, mayQ, fitR, fitQ, chB, befR, lb, la, len_nil']
 ·
  refine fin _ _ (fun W => named0 k t p x g o pb nb cb pa na ca W h1 h2 h3 h4) (fun W gr => sameRec_any ⟨k, t, p, x, g, o, b, a⟩ Rc.nil pb nb cb pa na ca none 0 0 none 0 0 W (hb.kept gr) (ha.kept gr) (Byt.nil W) (Byt.nil W)) ?_; rw [Bool.eq_iff_iff]
  simp [sameR, mayR, mayQ, fitR, fitQ, chB, befR, lb, la, Rc.nil, h1, h2, h3, h4]
  intro q1
  exact decide_eq_false fun h => q1 h.2.1
def sizeR (c : Rc) : Nat := if mayR c then 35 + c.b.length + c.a.length else 0
theorem body_any (c : Rc) (pb : Option Addr) (nb cb : Nat) (pa : Option Addr) (na ca : Nat) (w : World) (hm : mayR c = true) (hi : c.In) (hb : Byt w pb nb cb c.b) (ha : Byt w pa na ca c.a) :
  Calls Tryz.prog 91 #[.agg #[.int .i64 c.k, .int .u64 c.t, .int .u64 c.p, .int .u64 c.x, .int .i64 c.g, .int .i64 c.o, .slice pb nb cb, .slice pa na ca]] w (RetByte (bodyL c) w) := by
 have hf := mayR_fits hm; have f1 := hf.k0; have f2 := hf.k1; have f3 := hf.g0; have f4 := hf.g1; have f5 := hf.o0; have f6 := hf.o1; have f7 := hf.na; have f9 := hf.nb1; have i1 := hi.t; have i2 := hi.p; have i3 := hi.x; obtain ⟨k, t, p, x, g, o, b, a⟩ := c
 simp only at f1 f2 f3 f4 f5 f6 f7 f9 i1 i2 i3 hb ha
 simp only
 obtain ⟨k, rfl⟩ := Int.eq_ofNat_of_zero_le (show 0 ≤ k by omega); obtain ⟨g, rfl⟩ := Int.eq_ofNat_of_zero_le f3; obtain ⟨o, rfl⟩ := Int.eq_ofNat_of_zero_le f5; have lb := hb.len; have la := ha.len; subst lb la; have h := body_nat k t p x g o b a pb cb pa ca w hb ha (by omega) i1 i2 i3 (by omega) (by omega) (by omega) (by omega)
 rw [nine_rec] at h
 exact h
theorem refBytes_any (c : Rc) (pb : Option Addr) (nb cb : Nat) (pa : Option Addr) (na ca : Nat) (at' : Nat) (w : World) (hm : mayR c = true) (hi : c.In) (hb : Byt w pb nb cb c.b) (ha : Byt w pa na ca c.a) (hat : at' ≤ 18446744073709551615) :
  Calls Tryz.prog 47 #[.agg #[.int .i64 c.k, .int .u64 c.t, .int .u64 c.p, .int .u64 c.x, .int .i64 c.g, .int .i64 c.o, .slice pb nb cb, .slice pa na ca], .int .u64 at'] w (RetByte (recL c at') w) := by
 have hf := mayR_fits hm; have f1 := hf.k0; have f2 := hf.k1; have f3 := hf.g0; have f4 := hf.g1; have f5 := hf.o0; have f6 := hf.o1; have f7 := hf.na; have f9 := hf.nb1; have i1 := hi.t; have i2 := hi.p; have i3 := hi.x; obtain ⟨k, t, p, x, g, o, b, a⟩ := c
 simp only at f1 f2 f3 f4 f5 f6 f7 f9 i1 i2 i3 hb ha
 simp only
 obtain ⟨k, rfl⟩ := Int.eq_ofNat_of_zero_le (show 0 ≤ k by omega); obtain ⟨g, rfl⟩ := Int.eq_ofNat_of_zero_le f3; obtain ⟨o, rfl⟩ := Int.eq_ofNat_of_zero_le f5; have lb := hb.len; have la := ha.len; subst lb la
 exact refBytes_nat k t p x g o b a pb cb pa ca at' w hb ha (by omega) i1 i2 i3 (by omega) (by omega) (by omega) (by omega) hat
def bytesL (c : Rc) (at' : Nat) : List Int := if mayR c then recL c at' else []
def bytesE (c : Rc) : Int := if mayR c then 0 else 2
set_option maxRecDepth 100000 in
set_option maxHeartbeats 2000000 in
theorem bytes_may (c : Rc) (pb : Option Addr) (nb cb : Nat) (pa : Option Addr) (na ca : Nat) (at' : Nat) (w : World) (hm : mayR c = true) (hi : c.In) (hb : Byt w pb nb cb c.b) (ha : Byt w pa na ca c.a) (hat : at' ≤ 18446744073709551615) :
  Calls Tryz.prog 76 #[.agg #[.int .i64 c.k, .int .u64 c.t, .int .u64 c.p, .int .u64 c.x, .int .i64 c.g, .int .i64 c.o, .slice pb nb cb, .slice pa na ca], .int .u64 at'] w (RetBytes 0 (recL c at') w) := by
 have HG0 := Lib.hid ((Gr.refl w).alloc (Nat.le_refl _) (.cells #[.int .i64 c.k, .int .u64 c.t, .int .u64 c.p, .int .u64 c.x, .int .i64 c.g, .int .i64 c.o, .slice pb nb cb, .slice pa na ca] TR)); have HMa := mayR_any c pb nb cb pa na ca (w.alloc (.cells #[.int .i64 c.k, .int .u64 c.t, .int .u64 c.p, .int .u64 c.x, .int .i64 c.g, .int .i64 c.o, .slice pb nb cb, .slice pa na ca] TR)) (hb.kept HG0.out) (ha.kept HG0.out)
 rw [hm] at HMa
 have HM := Lib.hid HMa; have HBO := Lib.hid (fun W (gr : Gr (w.alloc (.cells #[.int .i64 c.k, .int .u64 c.t, .int .u64 c.p, .int .u64 c.x, .int .i64 c.g, .int .i64 c.o, .slice pb nb cb, .slice pa na ca] TR)) W) => body_any c pb nb cb pa na ca W hm hi ((hb.kept HG0.out).kept gr) ((ha.kept HG0.out).kept gr)); have HB := Lib.hid (Blk.new w TR #[.int .i64 c.k, .int .u64 c.t, .int .u64 c.p, .int .u64 c.x, .int .i64 c.g, .int .i64 c.o, .slice pb nb cb, .slice pa na ca]); have hf := mayR_fits hm; have f7 := hf.na; have f9 := hf.nb1; have hlen := bodyL_len c
 have HREC : Hid (∀ B0 n m, B0 = bodyL c → n = 29 + c.b.length + c.a.length → m = (sumW (Wd.enc 8 at' ++ [Wd.enc 2 n, B0].flatten)).toNat → [Wd.enc 2 n, Wd.enc 4 m, B0].flatten = recL c at') := Lib.hid (fun B0 n m h1 h2 h3 => by
  subst h1 h2 h3
  unfold recL sumL sizeL
  simp)
 obtain ⟨B0, hB0⟩ : ∃ B0, B0 = bodyL c := ⟨_, rfl⟩
 rw [← hB0] at hlen HBO
 have HB0 := Lib.hid hB0; obtain ⟨N, hN⟩ : ∃ N, N = 29 + c.b.length + c.a.length := ⟨_, rfl⟩
 rw [← hN] at hlen
 have hn1 : N ≤ 600 := by omega
 have HN := Lib.hid hN; have HAT := Lib.hid hat; have HLB := Lib.hid hlen
 obtain ⟨R0, hR0⟩ : ∃ R0, R0 = recL c at' := ⟨_, rfl⟩
 have HREC2 : Hid (∀ m, m = (sumW (Wd.enc 8 at' ++ [Wd.enc 2 N, B0].flatten)).toNat → [Wd.enc 2 N, Wd.enc 4 m, B0].flatten = R0) := Lib.hid fun m h => by rw [hR0]; exact HREC.out B0 N m HB0.out HN.out h
 rw [← hR0]; clear hR0 HREC; have hfit : fitsB N (2 : Nat) = true := fitK (k := 2) (by omega) (by omega) (by omega); have HFI := Lib.hid (fun W => word_fit N 2 W hfit); have HFM := Lib.hid (fun m (h : m ≤ 4294967295) W => word_fit m 4 W (fitK (k := 4) (by omega) (by omega) (by omega))); obtain ⟨k, t, p, x, g, o, b, a⟩ := c
 simp only at HM HB HG0 HBO
 obtain ⟨c0, c1, c2, c3, c4, c5, c6, c7⟩ := HB.out.c8; clear hm hb ha hf f7 f9 hi hB0 hN hlen HMa hat hfit HN HB0
 go_enter Tryz.func76, Tryz.ntmps76
 go_wp2_with fail; refine HM.out.mono ?_; rintro e w1 ⟨rfl, g1⟩; have HB1 := HB.out.below g1 HB.out.lt; have HBO1 := Lib.hid (HBO.out w1 g1); have HG1 := Lib.hid (Below.trans HG0.out (g1.mono HG0.out.size)); clear g1 HM c0 c1 c2 c3 c4 c5 c6 c7 HBO; obtain ⟨c0, c1, c2, c3, c4, c5, c6, c7⟩ := HB1.c8; clear HB1; go_wp2_with fail; refine HBO1.out.mono ?_; rintro e w2 ⟨q, nr, cr, rfl, hy, g2, _⟩; have hl := hy.len
 rw [HLB.out] at hl
 subst hl; have HR2 := Lib.hid hy; have HG2 := Lib.hid (Below.trans HG1.out (g2.mono HG1.out.size)); clear g2 hy HBO1 c0 c1 c2 c3 c4 c5 c6 c7; go_wp2_with fail; refine (HFI.out _).mono ?_; rintro e w3 ⟨q3, m3, d3, rfl, hy3, g3, _⟩; have HR3 := Lib.hid (HR2.out.kept g3); have HY3 := Lib.hid hy3; have HG3 := Lib.hid (Below.trans HG2.out (g3.mono HG2.out.size)); have HRows := Lib.hid (Rows.two (t := 31) hy3 HR3.out rfl); clear g3 hy3 HR2 HFI; go_wp2_with fail; refine (at_crc _ _ _ _ _ _ HAT.out HRows.out).mono ?_; rintro e w4 ⟨rfl, g4⟩; have HR4 := Lib.hid (HR3.out.kept (grow1 g4)); have HY4 := Lib.hid (HY3.out.kept (grow1 g4)); have HG4 := Lib.hid (Below.trans HG3.out ((grow1 g4).mono HG3.out.size)); clear g4 HR3 HY3 HRows; obtain ⟨S, hS⟩ : ∃ S, S = sumW (Wd.enc 8 at' ++ [Wd.enc 2 N, B0].flatten) := ⟨_, rfl⟩; rw [← hS]; have hU : U S = ((S.toNat : Nat) : Int) := rfl; obtain ⟨m, hm⟩ : ∃ m, m = S.toNat := ⟨_, rfl⟩
 have hm1 : m ≤ 4294967295 := by have := S.isLt; omega
 rw [hU, ← hm]; have HS := Lib.hid hS; have HM := Lib.hid hm; clear hS hm hU; go_wp2_with fail; refine (HFM.out m hm1 _).mono ?_; rintro e w5 ⟨q5, m5, d5, rfl, hy5, g5, _⟩; have HR5 := Lib.hid (HR4.out.kept g5); have HY5 := Lib.hid (HY4.out.kept g5); have HG5 := Lib.hid (Below.trans HG4.out (g5.mono HG4.out.size)); have HRows := Lib.hid (Rows.three (t := 31) HY5.out hy5 HR5.out rfl); clear hy5 g5 HR4 HY4; go_wp2_with fail; refine (join_any _ _ _ _ _ HRows.out (by have := HLB.out; unfold tot; simp only [List.flatten_cons, List.flatten_nil, List.length_append, Wd.enc_length, List.length_nil]; omega)).mono ?_; rintro e w6 ⟨q6, m6, d6, rfl, hy6, g6, hf6⟩; have HG6 := Lib.hid (Below.trans HG5.out ((grow1 g6).mono HG5.out.size)); have HJ6 := Lib.hid hy6; have HF6 := Lib.hid hf6; clear hy6 g6 hf6 HRows; go_wp2_with fail
 go_ret2
 exact ⟨_, _, _, rfl, HREC2.out m (by rw [HM.out, HS.out]) ▸ HJ6.out, HG6.out, fun y hy => Nat.le_trans (by have := HG5.out.size; simp; omega) (HF6.out y hy)⟩
theorem bytes_no (c : Rc) (pb : Option Addr) (nb cb : Nat) (pa : Option Addr) (na ca : Nat) (at' : Nat) (w : World) (hm : mayR c = false) (hb : Byt w pb nb cb c.b) (ha : Byt w pa na ca c.a) :
  Calls Tryz.prog 76 #[.agg #[.int .i64 c.k, .int .u64 c.t, .int .u64 c.p, .int .u64 c.x, .int .i64 c.g, .int .i64 c.o, .slice pb nb cb, .slice pa na ca], .int .u64 at'] w (RetBytes 2 [] w) := by
 have HMa := mayR_any c pb nb cb pa na ca (w.alloc (.cells #[.int .i64 c.k, .int .u64 c.t, .int .u64 c.p, .int .u64 c.x, .int .i64 c.g, .int .i64 c.o, .slice pb nb cb, .slice pa na ca] TR)) (hb.kept ((Gr.refl w).alloc (Nat.le_refl _) _)) (ha.kept ((Gr.refl w).alloc (Nat.le_refl _) _))
 rw [hm] at HMa
 have HM := Lib.hid HMa; have HB := Lib.hid (Blk.new w TR #[.int .i64 c.k, .int .u64 c.t, .int .u64 c.p, .int .u64 c.x, .int .i64 c.g, .int .i64 c.o, .slice pb nb cb, .slice pa na ca]); obtain ⟨k, t, p, x, g, o, b, a⟩ := c
 simp only at HM HB
 obtain ⟨c0, c1, c2, c3, c4, c5, c6, c7⟩ := HB.out.c8; clear hm hb ha HMa
 go_enter Tryz.func76, Tryz.ntmps76
 go_wp2_with fail; refine HM.out.mono ?_; rintro e w1 ⟨rfl, g1⟩; have HG := Lib.hid (grow1 g1); clear g1 HM c0 c1 c2 c3 c4 c5 c6 c7; go_wp2_with fail
 go_ret2
 exact ⟨none, 0, 0, rfl, Byt.nil _, HG.out, fun _ h => by cases h⟩
theorem bytes_any (c : Rc) (pb : Option Addr) (nb cb : Nat) (pa : Option Addr) (na ca : Nat) (at' : Nat) (w : World) (hi : c.In) (hb : Byt w pb nb cb c.b) (ha : Byt w pa na ca c.a) (hat : at' ≤ 18446744073709551615) :
  Calls Tryz.prog 76 #[.agg #[.int .i64 c.k, .int .u64 c.t, .int .u64 c.p, .int .u64 c.x, .int .i64 c.g, .int .i64 c.o, .slice pb nb cb, .slice pa na ca], .int .u64 at'] w (RetBytes (bytesE c) (bytesL c at') w) := by
 unfold bytesE bytesL
 by_cases hm : mayR c = true
 · rw [hm]; exact bytes_may c pb nb cb pa na ca at' w hm hi hb ha hat
 ·
  have hm : mayR c = false := by simpa using hm
  rw [hm]; exact bytes_no c pb nb cb pa na ca at' w hm hb ha
end Go.Proofs.YtlijbgapkmfnaaaGreat
namespace Go.Proofs.YtlijbgapkmfnaaaGreat
open Go.RowKit Cr
theorem equal_any (p q : Option Addr) (n c m d : Nat) (xs ys : List Int) (w : World) (h : Byt w p n c xs) (k : Byt w q m d ys) : Calls Tryz.prog 145 #[.slice p n c, .slice q m d] w fun e w' => e = .returned (.bool (decide (xs = ys))) ∧ w = w' := by
 have hc1 := h.lies.convert h.len c 31 5 9 Tryz.underlying31 Tryz.underlying5 Tryz.underlying9; have hc2 := k.lies.convert k.len d 31 5 9 Tryz.underlying31 Tryz.underlying5 Tryz.underlying9; have he := Lib.hid (strEq h.small k.small); clear h k; obtain ⟨r, hr⟩ : ∃ r, r = strOfNums xs := ⟨_, rfl⟩; obtain ⟨s, hs⟩ : ∃ s, s = strOfNums ys := ⟨_, rfl⟩
 rw [← hr] at hc1 he
 rw [← hs] at hc2 he
 clear hr hs
 go_enter Tryz.func145, Tryz.ntmps145
 go_wp2
 go_ret
 exact ⟨ret_b he.out, rfl⟩
theorem hasPrefix_any (p q : Option Addr) (n c m d : Nat) (xs ys : List Int) (w : World) (h : Byt w p n c xs) (k : Byt w q m d ys) : Calls Tryz.prog 122 #[.slice p n c, .slice q m d] w fun e w' => e = .returned (.bool (preB xs ys)) ∧ w = w' := by
 have lx := h.len; have ly := k.len; have hcap := h.cap
 by_cases hl : m ≤ n
 ·
  have hp := h.pre m c hl (by omega) (Nat.le_refl _); have HE := Lib.hid (equal_any p q m c m d (xs.take m) ys w hp k); have HR : Hid (preB xs ys = decide (xs.take m = ys)) := Lib.hid (by unfold preB; rw [ly])
  have hl' : (m : Int) ≤ n := by omega
  have hmc : m ≤ c := by omega
  have hnil := h.nilCap; clear h k lx ly hp
  cases p with
  | none =>
   have h0 := hnil rfl; subst h0
   obtain rfl : n = 0 := by omega
   obtain rfl : m = 0 := by omega
   clear hnil
   go_enter Tryz.func122, Tryz.ntmps122
   go_wp2_with fail; refine HE.out.mono ?_; rintro e w' ⟨rfl, rfl⟩; go_wp2_with fail
   go_ret
   exact ⟨ret_b (by rw [HR.out]; simp only [List.take_zero]; exact decide_eq_decide.2 eq_comm), rfl⟩
  | some ad =>
   clear hnil
   go_enter Tryz.func122, Tryz.ntmps122
   go_wp2_with fail; refine HE.out.mono ?_; rintro e w' ⟨rfl, rfl⟩; go_wp2_with fail
   go_ret
   exact ⟨ret_b HR.out.symm, rfl⟩
 ·
  have HR : Hid (preB xs ys = false) := Lib.hid (by
   unfold preB
   apply decide_eq_false
   intro e
   have := congrArg List.length e
   simp at this
   omega)
  have hl' : ¬ (m : Int) ≤ n := by omega
  clear h k lx ly
  go_enter Tryz.func122, Tryz.ntmps122
  go_wp2_with fail
  go_ret
  exact ⟨ret_b HR.out.symm, rfl⟩
structure Oth (f : Nat) (W W' : World) : Prop where
 size : W.heap.size ≤ W'.heap.size
 block : ∀ g, g < W.heap.size → g ≠ f → W'.heap[g]? = W.heap[g]?
theorem Oth.refl (f : Nat) (W : World) : Oth f W W := ⟨Nat.le_refl _, fun _ _ _ => rfl⟩
theorem Oth.set {f : Nat} {W W' : World} (h : Oth f W W') (v : Value) : Oth f W (W'.setCell ⟨f, 0, none⟩ v) :=
 ⟨by have := h.size; simp; exact this, fun g h1 h2 => (heap_setCell_other W' ⟨f, 0, none⟩ g v h2).trans (h.block g h1 h2)⟩
theorem Oth.seti {f : Nat} {W W' : World} (h : Oth f W W') (i : Nat) (v : Value) : Oth f W (W'.setCell ⟨f, i, none⟩ v) :=
 ⟨by have := h.size; simp; exact this, fun g h1 h2 => (heap_setCell_other W' ⟨f, i, none⟩ g v h2).trans (h.block g h1 h2)⟩
theorem Oth.set8 {f : Nat} (W : World) (a b c d e g i j : Value) : Oth f W ((((((((W.setCell ⟨f, 0, none⟩ a).setCell ⟨f, 1, none⟩ b).setCell ⟨f, 2, none⟩ c).setCell ⟨f, 3, none⟩ d).setCell ⟨f, 4, none⟩ e).setCell ⟨f, 5, none⟩ g).setCell ⟨f, 6, none⟩ i).setCell ⟨f, 7, none⟩ j) :=
 ((((((((Oth.refl f W).seti 0 a).seti 1 b).seti 2 c).seti 3 d).seti 4 e).seti 5 g).seti 6 i).seti 7 j
theorem Oth.gr {f : Nat} {W W' W'' : World} (h : Oth f W W') (g : Gr W' W'') : Oth f W W'' :=
 ⟨Nat.le_trans h.size g.size, fun k h1 h2 => (g.block k (Nat.lt_of_lt_of_le h1 h.size)).trans (h.block k h1 h2)⟩
theorem Oth.blk {f g : Nat} {W W' : World} {t : TypeId} {cs : Array Value} (h : Oth f W W') (hb : Blk W g t cs) (hg : g ≠ f) : Blk W' g t cs := (h.block g hb.lt hg).trans hb
theorem Oth.byt {f : Nat} {W W' : World} {p : Option Addr} {n c : Nat} {xs : List Int} (h : Oth f W W') (hb : Byt W p n c xs) (hf : ∀ a, p = some a → f < a.block) : Byt W' p n c xs :=
 ⟨hb.len, hb.cap, hb.most, fun hn => by
  obtain ⟨b, o, rfl, hc⟩ := hb.lies.at hn
  refine ⟨b, o, rfl, fun i hi => ?_⟩; have hfb : f < b := hf _ rfl; rw [← hc i hi]
  unfold World.cell?
  rw [h.block b (blk_lt (hc i hi)) (by omega)], hb.nilCap, hb.small⟩
abbrev TBy : TypeId := 31
structure RdAt (w0 : World) (p : Option Addr) (n c : Nat) (F : Int) (W : World) : Prop where
 gr : Gr w0 W
 b : Blk W w0.heap.size TBy #[.slice p n c]
 z : Blk W (w0.heap.size + 1) TR #[.int .i64 0, .int .u64 0, .int .u64 0, .int .u64 0, .int .i64 0, .int .i64 0, .slice none 0 0, .slice none 0 0]
 f : Blk W (w0.heap.size + 1 + 1) TI #[.int .i64 F]
theorem RdAt.set {w0 W : World} {p : Option Addr} {n c : Nat} {F : Int} (h : RdAt w0 p n c F W) (F' : Int) : RdAt w0 p n c F' (W.setCell ⟨w0.heap.size + 1 + 1, 0, none⟩ (.int .i64 F')) :=
 ⟨h.gr.setCell (by show w0.heap.size ≤ w0.heap.size + 1 + 1; omega) _, h.b.far (by show w0.heap.size ≠ w0.heap.size + 1 + 1; omega) _, h.z.far (by show w0.heap.size + 1 ≠ w0.heap.size + 1 + 1; omega) _, h.f.set 0 _⟩
theorem RdAt.up {w0 W W' : World} {p : Option Addr} {n c : Nat} {F : Int} (h : RdAt w0 p n c F W) (g : Gr W W') : RdAt w0 p n c F W' :=
 ⟨Gr.trans h.gr g, h.b.below g h.b.lt, h.z.below g h.z.lt, h.f.below g h.f.lt⟩
theorem RdAt.put {w0 W : World} {p : Option Addr} {n c : Nat} {F : Int} (h : RdAt w0 p n c F W) (g i : Nat) (v : Value) (hg : w0.heap.size + 1 + 1 < g) : RdAt w0 p n c F (W.setCell ⟨g, i, none⟩ v) :=
 ⟨h.gr.setCell (by show w0.heap.size ≤ g; omega) _, h.b.far (by show w0.heap.size ≠ g; omega) _, h.z.far (by show w0.heap.size + 1 ≠ g; omega) _, h.f.far (by show w0.heap.size + 1 + 1 ≠ g; omega) _⟩
theorem sz_set (w : World) (a : Addr) (v : Value) : (w.setCell a v).heap.size = w.heap.size := by simp [World.setCell]
set_option maxRecDepth 100000 in
theorem next_any {w0 : World} {p : Option Addr} {n c : Nat} {xs : List Int} (hb : Byt w0 p n c xs) (F s F' : Int) (W : World) (h : RdAt w0 p n c F W) (hF : F + s = F') (h0 : 0 ≤ F) (h1 : F ≤ 1000) (h2 : 0 ≤ s) (h3 : s ≤ 8) :
  Calls Tryz.prog 143 #[.int .i64 s, .pointer (some ⟨w0.heap.size, 0, none⟩), .pointer (some ⟨w0.heap.size + 1 + 1, 0, none⟩)] W fun e w' => e = .returned (.int .u64 (atR xs F s)) ∧ W.setCell ⟨w0.heap.size + 1 + 1, 0, none⟩ (.int .i64 F') = w' := by
 subst hF; have HA := Lib.hid (at_any p n c xs F s W (hb.kept h.gr)); have c0 : W.cell? ⟨w0.heap.size, 0, none⟩ = some (.slice p n c) := h.b.cell 0; have c1 : W.cell? ⟨w0.heap.size + 1 + 1, 0, none⟩ = some (.int .i64 F) := h.f.cell 0; have f1 := h.f.frozen 0; clear hb h
 go_enter Tryz.func143, Tryz.ntmps143
 go_wp2_with fail; refine HA.out.mono ?_; rintro e w1 ⟨rfl, rfl⟩; go_wp2_with fail
 go_ret
 exact ⟨rfl, rfl⟩
theorem drop_take_min (xs : List Int) (F M A E : Nat) (hA : A = min F xs.length) (hE : E = min (A + M) xs.length) : (xs.drop A).take (E - A) = (xs.drop F).take M := by
 subst hA hE
 by_cases h : F ≤ xs.length
 ·
  rw [Nat.min_eq_left h]
  by_cases h2 : F + M ≤ xs.length
  · rw [Nat.min_eq_left h2]; congr 1; omega
  · rw [Nat.min_eq_right (by omega), List.take_of_length_le (by simp), List.take_of_length_le (by simp; omega)]
 ·
  have e1 : min F xs.length = xs.length := by omega
  rw [e1, List.drop_of_length_le (Nat.le_refl _), List.drop_of_length_le (by omega)]
  simp
theorem results_rec3 {fn : Func} {p q r : Tmp} (h : fn.results = #[.cell p TR, .tmp q, .tmp r]) (tmps : Array Value) (w : World) (g : Nat) (cs : Array Value) (x y : Value) (hs : cs.size = 8)
  (hp : tmps.getD p undef = .pointer (some ⟨g, 0, none⟩)) (hx : tmps.getD q undef = x) (hy : tmps.getD r undef = y) (hb : Blk w g TR cs) : (results fn tmps).run Tryz.prog w = .ok (.tuple #[.agg cs, x, y]) w := by
 have hp' : tmps[p]?.getD undef = .pointer (some ⟨g, 0, none⟩) := by simpa using hp
 have hx' : tmps[q]?.getD undef = x := by simpa using hx
 have hy' : tmps[r]?.getD undef = y := by simpa using hy
 have hl := run_loadVar_row (P := Tryz.prog) w g TR TR cs (0, 0) _ hb Tryz.underlying33 rfl (by rw [hs]; exact rec_size)
 simp [results, h, hp', hx', hy', asAddr, hl]
def ofE (xs : List Int) (at' : Nat) : Int := if ofB xs at' then 0 else 4
theorem zeros_rec (w : World) : Blk (w.alloc (.cells #[.int .i64 0, .int .u64 0, .int .u64 0, .int .u64 0, .int .i64 0, .int .i64 0, .slice none 0 0, .slice none 0 0] TR)) w.heap.size TR #[.int .i64 0, .int .u64 0, .int .u64 0, .int .u64 0, .int .i64 0, .int .i64 0, .slice none 0 0, .slice none 0 0] := Blk.new _ _ _
end Go.Proofs.YtlijbgapkmfnaaaGreat
namespace Go.Proofs.YtlijbgapkmfnaaaGreat
open Go.RowKit Cr
theorem OwnB.below' {w w' : World} {base tB : Nat} {v : Value} {xs : List Int} (h : OwnB w base tB v xs) (g : Below w.heap.size w w') : OwnB w' base tB v xs := by
 refine ⟨⟨h.row.1, ?_⟩, h.small⟩
 rcases h.row.2 with h2 | ⟨b, cap, cur, e, h0, hg, r⟩
 · exact .inl h2
 · have hlt : b < w.heap.size := (Array.getElem?_eq_some_iff.1 hg).1; exact .inr ⟨b, cap, cur, e, h0, (g.block b hlt).trans hg, r⟩
def RetOwn (tB : Nat) (xs : List Int) (w : World) (e : Ending) (w' : World) : Prop := ∃ v, e = .returned v ∧ OwnB w' w.heap.size tB v xs ∧ Gr w w'
theorem OwnB.base_le {w : World} {B B' tB : Nat} {v : Value} {xs : List Int} (h : OwnB w B tB v xs) (hb : B' ≤ B) : OwnB w B' tB v xs := by
 refine ⟨⟨h.row.1, ?_⟩, h.small⟩
 rcases h.row.2 with h2 | ⟨g, cap, cur, e, h0, r⟩
 · exact .inl h2
 · exact .inr ⟨g, cap, cur, e, Nat.le_trans hb h0, r⟩
set_option maxHeartbeats 800000 in
theorem concat_own (p : Option Addr) (n c : Nat) (xss : List (List Int)) (w : World) (h : Rows w p n c xss) (hbig : tot xss ≤ 140737488355328) : Calls Tryz.prog 112 #[.slice p n c] w (RetOwn 5 xss.flatten w) := by
 have HLen := Lib.hid h.len
 have hn63 : n ≤ 9223372036854775807 := by have := h.cap; have := h.most; unfold maxLen at this; omega
 have HH := Lib.hid h; have Hbig := Lib.hid hbig; clear h hbig
 go_enter Tryz.func112, Tryz.ntmps112
 go_wp2
 go_loop [3, 11] (fun t i => ∃ k : Nat, k ≤ n ∧ i = .int .i64 k ∧ t = .int .i64 (tot (xss.take k) : Nat)) (fun _ i => n - (intOf i).toNat)
 case atStart => exact ⟨0, Nat.zero_le _, rfl, rfl⟩
 case round =>
  obtain ⟨k, hk, rfl, rfl⟩ := hrel; have hle := tot_le xss k; have hb2 := Hbig.out
  by_cases hlt : k < n
  ·
   obtain ⟨b, o, rfl, hc⟩ := HH.out.lies (by omega); obtain ⟨q, m, d, hcell, hby⟩ := hc k hlt; have hle2 := tot_le xss (k + 1); have hL := tot_succ xss k m (by rw [HLen.out]; exact hlt) hby.len; have HL := Lib.hid hL
   have hSm : tot (xss.take k) + m ≤ 140737488355328 := by omega
   clear hL hle2 hc hby hb2 hle
   go_wp2
   go_round
   case rel => exact ⟨k + 1, by omega, by go_num, congrArg (Value.int .i64) (by rw [HL.out]; rfl)⟩
   case measure => simp [intOf]; omega
  ·
   obtain rfl : k = n := by omega
   have hall : xss.take k = xss := List.take_of_length_le (by rw [HLen.out]; exact Nat.le_refl _); rw [hall]; clear hall hle; go_wp2_with fail; refine (grow_any _ _ hb2).mono ?_; rintro e w1 ⟨v, rfl, own, gr⟩; have HO := Lib.hid own; have HB := Lib.hid gr; clear own gr hb2
   go_wp2
   go_loopw [6, 27] (fun v i wr => ∃ j : Nat, j ≤ k ∧ i = .int .i64 j ∧ Hid (OwnB wr w.heap.size 5 v (xss.take j).flatten) ∧ Hid (Below w.heap.size w wr)) (fun _ i _ => k - (intOf i).toNat)
   case atStart => exact ⟨0, Nat.zero_le _, rfl, HO, HB⟩
   case round =>
    obtain ⟨j, hj, rfl, ho, hb⟩ := hrel; have hbs := hb.out.size
    by_cases hlt : j < k
    ·
     obtain ⟨b, o, rfl, hc⟩ := (HH.out.kept hb.out).lies (by omega); obtain ⟨q, m, d, hcell, hby⟩ := hc j hlt; have hfs := Lib.hid (flat_succ xss j (by rw [HLen.out]; exact hlt))
     have hsz : Hid ((xss.take j).flatten.length + m ≤ 140737488355328) := by
      have h1 := tot_le xss (j + 1)
      rw [tot_succ xss j m (by rw [HLen.out]; exact hlt) hby.len] at h1
      exact Nat.le_trans h1 Hbig.out
     have HBY := Lib.hid hby
     clear hby hc
     go_wp2_with (at_builtin; refine wpList_app_byt bt rfl (.tmp 31) (.tmp 32) rfl w.heap.size _ _ rfl ho.out q m d _ rfl HBY.out hsz.out hbs ?_)
     intro v' w' own grow
     have HO2 := Lib.hid (own.as hfs.out.symm); have HB2 : Hid (Below w.heap.size w w') := Below.app hb.out hbs ho.out grow; clear own grow
     go_wp2
     go_roundw
     case rel => exact ⟨j + 1, by omega, by go_num, HO2, HB2⟩
     case measure => simp [intOf]; omega
    ·
     obtain rfl : j = k := by omega
     have hall : xss.take j = xss := List.take_of_length_le (by rw [HLen.out]; exact Nat.le_refl _); have ho2 := ho.out
     rw [hall] at ho2
     obtain ⟨q, d, hv⟩ := ho2.shape (tot xss) rfl; subst hv; have HO2 := Lib.hid ho2; clear ho2 hall
     go_wp2
     go_ret
     exact ⟨_, rfl, HO2.out, hb.out⟩
theorem join_own (p : Option Addr) (n c : Nat) (xss : List (List Int)) (w : World) (h : Rows w p n c xss) (hbig : tot xss ≤ 140737488355328) : Calls Tryz.prog 94 #[.slice p n c] w (RetOwn 5 xss.flatten w) := by
 go_enter Tryz.func94, Tryz.ntmps94
 go_wp2_with fail; refine (concat_own _ _ _ _ _ h hbig).mono ?_; rintro e w' ⟨v, rfl, ho, hg⟩
 go_wp2
 go_ret
 exact ⟨v, rfl, ho, hg⟩
end Go.Proofs.YtlijbgapkmfnaaaGreat
namespace Go.Proofs.YtlijbgapkmfnaaaGreat
open Go.RowKit Cr
theorem OwnB.oth {W W' : World} {f base tB n c : Nat} {p : Option Addr} {xs : List Int} (h : OwnB W base tB (.slice p n c) xs) (g : Oth f W W') (hf : ∀ a, p = some a → a.block ≠ f) : OwnB W' base tB (.slice p n c) xs := by
 refine ⟨⟨h.row.1, ?_⟩, h.small⟩
 rcases h.row.2 with h2 | ⟨b, cap, cur, e, h0, hg, r⟩
 · exact .inl h2
 ·
  have hlt : b < W.heap.size := (Array.getElem?_eq_some_iff.1 hg).1
  have hne : b ≠ f := by
   simp only [Value.slice.injEq] at e
   exact hf _ e.1
  exact .inr ⟨b, cap, cur, e, h0, (g.block b hlt hne).trans hg, r⟩
set_option maxRecDepth 100000 in
set_option maxHeartbeats 1000000 in
theorem list_own {w0 : World} {p : Option Addr} {n c : Nat} {xs : List Int} (hb : Byt w0 p n c xs) (F M A E : Nat) (W : World) (h : RdAt w0 p n c F W) (hA : A = min F n) (hE : E = min (A + M) n) (h1 : F ≤ 1000) (h2 : M ≤ 1000) :
  Calls Tryz.prog 144 #[.int .i64 M, .pointer (some ⟨w0.heap.size + 1 + 1, 0, none⟩), .pointer (some ⟨w0.heap.size, 0, none⟩)] W fun e w' => ∃ q m d, e = .returned (.slice q m d) ∧ OwnB w' W.heap.size 5 (.slice q m d) ((xs.drop F).take M) ∧ RdAt w0 p n c E w' ∧ Oth (w0.heap.size + 1 + 1) W w' := by
 have lx := hb.len; have hcap := hb.cap; have hX := Lib.hid (drop_take_min xs F M A E (by rw [lx]; exact hA) (by rw [lx]; exact hE)); have c0 : W.cell? ⟨w0.heap.size, 0, none⟩ = some (.slice p n c) := h.b.cell 0; have c1 : W.cell? ⟨w0.heap.size + 1 + 1, 0, none⟩ = some (.int .i64 F) := h.f.cell 0; have f1 := h.f.frozen 0
 have a1 : A ≤ E := by omega
 have a2 : E ≤ n := by omega
 have a3 : E ≤ c := by omega
 have a4 : A ≤ 1000 := by omega
 have n63 : n ≤ 9223372036854775807 := by have := hb.most; unfold maxLen at this; omega
 have m1 : min (F : Int) (n : Int) = (A : Int) := by omega
 have m2 : min ((A : Int) + M) (n : Int) = (E : Int) := by omega
 have HS := Lib.hid (h.set E); have hby := hb.kept HS.out.gr; have HO : Hid (Oth (w0.heap.size + 1 + 1) W (W.setCell ⟨w0.heap.size + 1 + 1, 0, none⟩ (.int .i64 E))) := Lib.hid ((Oth.refl _ _).set _)
 have hsub : ∃ q, (A < E → ∃ b o, p = some ⟨b, o, none⟩ ∧ q = some ⟨b, o + A, none⟩) ∧ Byt (W.setCell ⟨w0.heap.size + 1 + 1, 0, none⟩ (.int .i64 E)) q (E - A) (E - A) ((xs.drop F).take M) := by
  rw [← hX.out]
  by_cases hlt : A < E
  ·
   obtain ⟨b, o, rfl, _⟩ := hby.at (by omega)
   exact ⟨_, fun _ => ⟨b, o, rfl, rfl⟩, hby.sub (by omega) A (E - A) (E - A) (by omega) (Nat.le_refl _) (by simp only [maxLen]; omega)⟩
  ·
   have e0 : E - A = 0 := by omega
   rw [e0]; exact ⟨none, fun h => absurd h hlt, Byt.zero _ _⟩
 have hz : Hid (∀ (p : Option Addr) (w : World), E = A → Byt w p 0 0 ((xs.drop F).take M)) := Lib.hid fun p w e => by
  rw [← hX.out, e]
  simp
  exact Byt.zero w p
 have HT : Hid (tot [(xs.drop F).take M] ≤ 140737488355328) := Lib.hid (by unfold tot; simp; omega); have HFL : Hid ([(xs.drop F).take M].flatten = (xs.drop F).take M) := Lib.hid (by simp)
 by_cases hlt : A < E
 ·
  obtain ⟨q, hq, hy⟩ := hsub; obtain ⟨b, o, rfl, rfl⟩ := hq hlt; have hr := Rows.one (t := 31) hy rfl
  rw [sz_set] at hr
  have HR := Lib.hid hr; clear hr hy hq hz hby h hb hA hE lx
  go_enter Tryz.func144, Tryz.ntmps144
  go_wp2_with fail; refine (join_own _ _ _ _ _ HR.out HT.out).mono ?_; rintro e w1 ⟨v, rfl, ho, g1⟩; obtain ⟨m, hm⟩ : ∃ m, m = ((xs.drop F).take M).length := ⟨_, rfl⟩; obtain ⟨q, d, hv⟩ := (ho.as HFL.out).shape m hm.symm; subst hv; have HY := Lib.hid ((ho.as HFL.out).base_le (B' := W.heap.size) (by rw [World.size_alloc, sz_set]; exact Nat.le_succ _)); have HG := Lib.hid (grow1 g1); clear hm; clear ho g1; go_wp2_with fail
  go_ret
  exact ⟨q, m, d, rfl, HY.out, HS.out.up HG.out, HO.out.gr HG.out⟩
 ·
  clear hA hE
  obtain rfl : E = A := by omega
  have HZ : Hid (∀ q, Rows ((W.setCell ⟨w0.heap.size + 1 + 1, 0, none⟩ (.int .i64 E)).alloc (.cells #[.slice q 0 0] 31)) (some ⟨W.heap.size, 0, none⟩) 1 1 [(xs.drop F).take M]) := Lib.hid fun q => by
   have h1 := Rows.one (w := W.setCell ⟨w0.heap.size + 1 + 1, 0, none⟩ (.int .i64 E)) (t := 31) (hz.out q _ rfl) rfl
   rw [sz_set] at h1
   exact h1
  clear hsub hz hby h hlt hb hX
  cases p with
  | none =>
   go_enter Tryz.func144, Tryz.ntmps144
   go_wp2_with fail; refine (join_own _ _ _ [(xs.drop F).take M] _ (HZ.out _) HT.out).mono ?_; rintro e w1 ⟨v, rfl, ho, g1⟩; obtain ⟨m, hm⟩ : ∃ m, m = ((xs.drop F).take M).length := ⟨_, rfl⟩; obtain ⟨q, d, hv⟩ := (ho.as HFL.out).shape m hm.symm; subst hv; have HY := Lib.hid ((ho.as HFL.out).base_le (B' := W.heap.size) (by rw [World.size_alloc, sz_set]; exact Nat.le_succ _)); have HG := Lib.hid (grow1 g1); clear hm; clear ho g1; go_wp2_with fail
   go_ret
   exact ⟨q, m, d, rfl, HY.out, HS.out.up HG.out, HO.out.gr HG.out⟩
  | some ad =>
   go_enter Tryz.func144, Tryz.ntmps144
   go_wp2_with fail; refine (join_own _ _ _ [(xs.drop F).take M] _ (HZ.out _) HT.out).mono ?_; rintro e w1 ⟨v, rfl, ho, g1⟩; obtain ⟨m, hm⟩ : ∃ m, m = ((xs.drop F).take M).length := ⟨_, rfl⟩; obtain ⟨q, d, hv⟩ := (ho.as HFL.out).shape m hm.symm; subst hv; have HY := Lib.hid ((ho.as HFL.out).base_le (B' := W.heap.size) (by rw [World.size_alloc, sz_set]; exact Nat.le_succ _)); have HG := Lib.hid (grow1 g1); clear hm; clear ho g1; go_wp2_with fail
   go_ret
   exact ⟨q, m, d, rfl, HY.out, HS.out.up HG.out, HO.out.gr HG.out⟩
def RetCandO (c : Rc) (w : World) (e : Ending) (w' : World) : Prop :=
 ∃ pb nb cb pa na ca, e = .returned (.agg #[.int .i64 c.k, .int .u64 c.t, .int .u64 c.p, .int .u64 c.x, .int .i64 c.g, .int .i64 c.o, .slice pb nb cb, .slice pa na ca]) ∧ OwnB w' w.heap.size 5 (.slice pb nb cb) c.b ∧ OwnB w' w.heap.size 5 (.slice pa na ca) c.a ∧ Gr w w'
set_option maxRecDepth 100000 in
set_option maxHeartbeats 4000000 in
theorem read_own (p : Option Addr) (n c : Nat) (xs : List Int) (w : World) (hb : Byt w p n c xs) : Calls Tryz.prog 121 #[.slice p n c] w (RetCandO (cand xs) w) := by
 have hs := hb.small; have lx := Lib.hid hb.len; have HX := Lib.hid (fun (F : Nat) s F' W h hF h1 h2 h3 => next_any (w0 := w) hb F s F' W h hF (by omega) h1 h2 h3); have HL := Lib.hid (fun F M A E W h hA hE h1 h2 => list_own (w0 := w) hb F M A E W h hA hE h1 h2)
 have H0 : Hid (RdAt w p n c 6 (((w.alloc (.cells #[.slice p n c] TBy)).alloc (.cells #[.int .i64 0, .int .u64 0, .int .u64 0, .int .u64 0, .int .i64 0, .int .i64 0, .slice none 0 0, .slice none 0 0] TR)).alloc (.cells #[.int .i64 6] TI))) := Lib.hid (by
  have h1 := Blk.new w TBy #[.slice p n c]; have h2 := Blk.new (w.alloc (.cells #[.slice p n c] TBy)) TR #[.int .i64 0, .int .u64 0, .int .u64 0, .int .u64 0, .int .i64 0, .int .i64 0, .slice none 0 0, .slice none 0 0]; have h3 := Blk.new ((w.alloc (.cells #[.slice p n c] TBy)).alloc (.cells #[.int .i64 0, .int .u64 0, .int .u64 0, .int .u64 0, .int .i64 0, .int .i64 0, .slice none 0 0, .slice none 0 0] TR)) TI #[.int .i64 6]
  simp only [World.size_alloc] at h2 h3
  have g1 := (Gr.refl w).alloc (Nat.le_refl _) (.cells #[.slice p n c] TBy); have g2 := g1.alloc g1.size (.cells #[.int .i64 0, .int .u64 0, .int .u64 0, .int .u64 0, .int .i64 0, .int .i64 0, .slice none 0 0, .slice none 0 0] TR)
  exact ⟨g2.alloc g2.size _, (h1.alloc _).alloc _, h2.alloc _, h3⟩)
 have S0 : Hid ((((w.alloc (.cells #[.slice p n c] TBy)).alloc (.cells #[.int .i64 0, .int .u64 0, .int .u64 0, .int .u64 0, .int .i64 0, .int .i64 0, .slice none 0 0, .slice none 0 0] TR)).alloc (.cells #[.int .i64 6] TI)).heap.size = w.heap.size + 1 + 1 + 1) := Lib.hid (by simp); have b1 : atR xs 6 1 < 256 := atR_lt xs hs 6 1 (by omega); have b5 : atR xs 31 2 < 65536 := atR_lt xs hs 31 2 (by omega); have b6 : atR xs 33 1 < 256 := atR_lt xs hs 33 1 (by omega); have b7 : atR xs 34 1 < 256 := atR_lt xs hs 34 1 (by omega); have HC : Hid (cand xs = ⟨(atR xs 6 1 : Nat), atR xs 7 8, atR xs 15 8, atR xs 23 8, (atR xs 31 2 : Nat), (atR xs 33 1 : Nat), (xs.drop 35).take (if atR xs 6 1 = 1 then atR xs 34 1 else 0), (xs.drop (35 + (if atR xs 6 1 = 1 then atR xs 34 1 else 0))).take (atR xs 34 1)⟩) := Lib.hid rfl; rw [HC.out]; clear HC hb hs; obtain ⟨v1, e1⟩ : ∃ v, v = atR xs 6 1 := ⟨_, rfl⟩; obtain ⟨v2, e2⟩ : ∃ v, v = atR xs 7 8 := ⟨_, rfl⟩; obtain ⟨v3, e3⟩ : ∃ v, v = atR xs 15 8 := ⟨_, rfl⟩; obtain ⟨v4, e4⟩ : ∃ v, v = atR xs 23 8 := ⟨_, rfl⟩; obtain ⟨v5, e5⟩ : ∃ v, v = atR xs 31 2 := ⟨_, rfl⟩; obtain ⟨v6, e6⟩ : ∃ v, v = atR xs 33 1 := ⟨_, rfl⟩; obtain ⟨v7, e7⟩ : ∃ v, v = atR xs 34 1 := ⟨_, rfl⟩; rw [← e1, ← e2, ← e3, ← e4, ← e5, ← e6, ← e7]
 rw [← e1] at b1
 rw [← e5] at b5
 rw [← e6] at b6
 rw [← e7] at b7
 have E1 := Lib.hid e1; have E2 := Lib.hid e2; have E3 := Lib.hid e3; have E4 := Lib.hid e4; have E5 := Lib.hid e5; have E6 := Lib.hid e6; have E7 := Lib.hid e7; clear e1 e2 e3 e4 e5 e6 e7; obtain ⟨nbf, hnbf⟩ : ∃ m : Nat, (m : Int) = befR v1 v7 ∧ m = (if v1 = 1 then v7 else 0) := ⟨if v1 = 1 then v7 else 0, by unfold befR; split <;> split <;> omega, rfl⟩; rw [← hnbf.2]; have HNB := Lib.hid hnbf.1
 have bn : nbf ≤ 255 := by have := hnbf.2; split at this <;> omega
 clear hnbf
 go_enter Tryz.func121, Tryz.ntmps121
 go_wp2_with fail
 generalize (((w.alloc (.cells #[.slice p n c] TBy)).alloc (.cells #[.int .i64 0, .int .u64 0, .int .u64 0, .int .u64 0, .int .i64 0, .int .i64 0, .slice none 0 0, .slice none 0 0] TR)).alloc (.cells #[.int .i64 6] TI)) = W0 at H0 S0 ⊢
 refine (HX.out 6 1 7 _ H0.out (by omega) (by omega) (by omega) (by omega)).mono ?_; rintro e y0 ⟨rfl, rfl⟩; have H1 := Lib.hid (H0.out.set 7); have S1 := Lib.hid ((sz_set W0 ⟨w.heap.size + 1 + 1, 0, none⟩ (.int .i64 7)).trans S0.out); rw [show atR xs ((6 : Nat) : Int) 1 = v1 from E1.out.symm]
 generalize W0.setCell ⟨w.heap.size + 1 + 1, 0, none⟩ (.int .i64 7) = W1 at H1 S1 ⊢
 clear H0 S0; go_wp2_with fail; refine (HX.out 7 8 15 _ H1.out (by omega) (by omega) (by omega) (by omega)).mono ?_; rintro e y1 ⟨rfl, rfl⟩; have H2 := Lib.hid (H1.out.set 15); have S2 := Lib.hid ((sz_set W1 ⟨w.heap.size + 1 + 1, 0, none⟩ (.int .i64 15)).trans S1.out); rw [show atR xs ((7 : Nat) : Int) 8 = v2 from E2.out.symm]
 generalize W1.setCell ⟨w.heap.size + 1 + 1, 0, none⟩ (.int .i64 15) = W2 at H2 S2 ⊢
 clear H1 S1; go_wp2_with fail; refine (HX.out 15 8 23 _ H2.out (by omega) (by omega) (by omega) (by omega)).mono ?_; rintro e y2 ⟨rfl, rfl⟩; have H3 := Lib.hid (H2.out.set 23); have S3 := Lib.hid ((sz_set W2 ⟨w.heap.size + 1 + 1, 0, none⟩ (.int .i64 23)).trans S2.out); rw [show atR xs ((15 : Nat) : Int) 8 = v3 from E3.out.symm]
 generalize W2.setCell ⟨w.heap.size + 1 + 1, 0, none⟩ (.int .i64 23) = W3 at H3 S3 ⊢
 clear H2 S2; go_wp2_with fail; refine (HX.out 23 8 31 _ H3.out (by omega) (by omega) (by omega) (by omega)).mono ?_; rintro e y3 ⟨rfl, rfl⟩; have H4 := Lib.hid (H3.out.set 31); have S4 := Lib.hid ((sz_set W3 ⟨w.heap.size + 1 + 1, 0, none⟩ (.int .i64 31)).trans S3.out); rw [show atR xs ((23 : Nat) : Int) 8 = v4 from E4.out.symm]
 generalize W3.setCell ⟨w.heap.size + 1 + 1, 0, none⟩ (.int .i64 31) = W4 at H4 S4 ⊢
 clear H3 S3; go_wp2_with fail; refine (HX.out 31 2 33 _ H4.out (by omega) (by omega) (by omega) (by omega)).mono ?_; rintro e y4 ⟨rfl, rfl⟩; have H5 := Lib.hid (H4.out.set 33); have S5 := Lib.hid ((sz_set W4 ⟨w.heap.size + 1 + 1, 0, none⟩ (.int .i64 33)).trans S4.out); rw [show atR xs ((31 : Nat) : Int) 2 = v5 from E5.out.symm]
 generalize W4.setCell ⟨w.heap.size + 1 + 1, 0, none⟩ (.int .i64 33) = W5 at H5 S5 ⊢
 clear H4 S4; go_wp2_with fail; refine (HX.out 33 1 34 _ H5.out (by omega) (by omega) (by omega) (by omega)).mono ?_; rintro e y5 ⟨rfl, rfl⟩; have H6 := Lib.hid (H5.out.set 34); have S6 := Lib.hid ((sz_set W5 ⟨w.heap.size + 1 + 1, 0, none⟩ (.int .i64 34)).trans S5.out); rw [show atR xs ((33 : Nat) : Int) 1 = v6 from E6.out.symm]
 generalize W5.setCell ⟨w.heap.size + 1 + 1, 0, none⟩ (.int .i64 34) = W6 at H6 S6 ⊢
 clear H5 S5; go_wp2_with fail; have HR6 := Lib.hid (Blk.new W6 TR #[.int .i64 v1, .int .u64 v2, .int .u64 v3, .int .u64 v4, .int .i64 v5, .int .i64 v6, .slice none 0 0, .slice none 0 0]); have H6a := Lib.hid (H6.out.up ((Gr.refl W6).alloc (Nat.le_refl _) (.cells #[.int .i64 v1, .int .u64 v2, .int .u64 v3, .int .u64 v4, .int .i64 v5, .int .i64 v6, .slice none 0 0, .slice none 0 0] TR))); clear H6; refine (HX.out 34 1 35 _ H6a.out (by omega) (by omega) (by omega) (by omega)).mono ?_; rintro e y7 ⟨rfl, rfl⟩; rw [show atR xs ((34 : Nat) : Int) 1 = v7 from E7.out.symm]; have HR7 := Lib.hid (HR6.out.far (p := ⟨w.heap.size + 1 + 1, 0, none⟩) (by show W6.heap.size ≠ w.heap.size + 1 + 1; have := S6.out; omega) (.int .i64 35)); have H7 := Lib.hid (H6a.out.set 35); clear HR6 H6a
 generalize (W6.alloc (.cells #[.int .i64 v1, .int .u64 v2, .int .u64 v3, .int .u64 v4, .int .i64 v5, .int .i64 v6, .slice none 0 0, .slice none 0 0] TR)).setCell ⟨w.heap.size + 1 + 1, 0, none⟩ (.int .i64 35) = W7 at HR7 H7 ⊢
 have HWW : Hid (w.heap.size ≤ W7.heap.size) := Lib.hid H7.out.gr.size; obtain ⟨R, hR⟩ : ∃ R, R = W6.heap.size := ⟨_, rfl⟩; have SR : Hid (w.heap.size + 1 + 1 < R) := Lib.hid (by have := S6.out; omega)
 rw [← hR] at HR7 ⊢
 clear hR S6; obtain ⟨c0, c1, c2, c3, c4, c5, c6, c7⟩ := HR7.out.c8; go_wp2_with fail; refine (befores_any _ _ _).mono ?_; rintro e y8 ⟨rfl, rfl⟩; rw [← HNB.out]; clear c0 c1 c2 c3 c4 c5 c6 c7; go_wp2_with fail; refine (HL.out 35 nbf (min 35 n) (min (min 35 n + nbf) n) _ H7.out rfl rfl (by omega) (by omega)).mono ?_; rintro e W8 ⟨q, m, d, rfl, hy8, h8, ho⟩; have hf := hy8.far; have hy := hy8; clear hy8; have HY8 := Lib.hid hy; have H8 := Lib.hid h8; have HR8 := Lib.hid (ho.blk HR7.out (by have := SR.out; omega)); have HF8 := Lib.hid (fun y hy2 => Nat.lt_of_lt_of_le HR7.out.lt (hf y hy2)); clear hy h8 ho hf HR7 H7; obtain ⟨c0, c1, c2, c3, c4, c5, c6, c7⟩ := HR8.out.c8; obtain ⟨q0, q1, q2, q3, q4, q5, q6, q7⟩ := HR8.out.f8; go_wp2_with fail; have HR9 := Lib.hid (HR8.out.set 6 (.slice q m d)); have H9 := Lib.hid (H8.out.put R 6 (.slice q m d) SR.out); have HY9 : Hid (OwnB (W8.setCell ⟨R, 6, none⟩ (.slice q m d)) W7.heap.size 5 (.slice q m d) ((xs.drop 35).take nbf)) := Lib.hid (HY8.out.oth (f := R) ⟨Nat.le_of_eq (sz_set _ _ _).symm, fun g h1 h2 => heap_setCell_other W8 ⟨R, 6, none⟩ g _ h2⟩ (fun y hy => Nat.ne_of_gt (HF8.out y hy))); have HW7 : Hid (w.heap.size ≤ W7.heap.size) := Lib.hid HWW.out; clear c0 c1 c2 c3 c4 c5 c6 c7 q0 q1 q2 q3 q4 q5 q6 q7 HR8 H8 HY8
 generalize W8.setCell ⟨R, 6, none⟩ (.slice q m d) = W9 at HR9 H9 HY9 ⊢
 obtain ⟨E, hE⟩ : ∃ E, E = min (min 35 n + nbf) n := ⟨_, rfl⟩
 rw [← hE] at H9
 have hE1 : E ≤ 1000 := by omega
 have HEE : Hid (xs.drop E = xs.drop (35 + nbf)) := Lib.hid (by
  have l := lx.out
  by_cases h : 35 + nbf ≤ n
  · rw [hE]; congr 1; omega
  · rw [List.drop_of_length_le (by omega), List.drop_of_length_le (by omega)])
 clear hE; have hl2 := HL.out E v7 (min E n) (min (min E n + v7) n) _ H9.out rfl rfl hE1 (by omega)
 rw [HEE.out] at hl2
 have HL2 := Lib.hid hl2; clear hl2; refine HL2.out.mono ?_; rintro e W10 ⟨q2, m2, d2, rfl, hy, h10, ho⟩; have hf := hy.far; have HY10 := Lib.hid hy; have H10 := Lib.hid h10; have HR10 := Lib.hid (ho.blk HR9.out (by have := SR.out; omega)); have HX10 := Lib.hid (HY9.out.oth ho (fun y hy2 => Nat.ne_of_gt (Nat.lt_trans SR.out (HF8.out y hy2)))); have HF10 := Lib.hid (fun y hy2 => Nat.lt_of_lt_of_le HR9.out.lt (hf y hy2)); have HW9 : Hid (w.heap.size ≤ W9.heap.size) := Lib.hid (by have := SR.out; have := HR9.out.lt; omega); clear hy h10 ho hf HR9 H9 HY9 HL2; obtain ⟨c0, c1, c2, c3, c4, c5, c6, c7⟩ := HR10.out.c8; obtain ⟨q0, q1, q2', q3, q4, q5, q6, q7⟩ := HR10.out.f8; have hz := H10.out.z.c8; obtain ⟨z0, z1, z2, z3, z4, z5, z6, z7⟩ := hz; obtain ⟨f0, f1, f2, f3, f4, f5, f6, f7⟩ := H10.out.z.f8
 have hne : w.heap.size + 1 ≠ R := by have := SR.out; omega
 have hne2 : R ≠ w.heap.size + 1 := by have := SR.out; omega
 go_wp2_with fail; have hW9 := HW9.out
 have hR0 : w.heap.size ≤ R := by have := SR.out; omega
 have F8 := HF8.out; have F10 := HF10.out
 have bR : ∀ y, q = some y → w.heap.size + 1 < y.block := fun y hy => Nat.lt_trans (by have := SR.out; omega) (F8 y hy)
 have bR2 : ∀ y, q2 = some y → w.heap.size + 1 < y.block := fun y hy => Nat.lt_trans (by have := SR.out; omega) (F10 y hy)
 exact bodyPost_ret (results_rec rfl _ _ (w.heap.size + 1) #[.int .i64 v1, .int .u64 v2, .int .u64 v3, .int .u64 v4, .int .i64 v5, .int .i64 v6, .slice q m d, .slice q2 m2 d2] rfl rfl (((((((((H10.out.z.far hne _).set 0 _).set 1 _).set 2 _).set 3 _).set 4 _).set 5 _).set 6 _).set 7 _)) rfl
  ⟨q, m, d, q2, m2, d2, rfl, (HX10.out.base_le (B' := w.heap.size) HW7.out).oth ((Oth.refl R _).seti 7 _) (fun y hy => Nat.ne_of_gt (F8 y hy)) |>.oth (Oth.set8 _ _ _ _ _ _ _ _ _) (fun y hy => Nat.ne_of_gt (bR y hy)), (HY10.out.base_le (B' := w.heap.size) hW9).oth ((Oth.refl R _).seti 7 _) (fun y hy => Nat.ne_of_gt (F10 y hy)) |>.oth (Oth.set8 _ _ _ _ _ _ _ _ _) (fun y hy => Nat.ne_of_gt (bR2 y hy)), below_set8 (H10.out.gr.setCell hR0 _) (by omega)⟩
def RetOfO (c : Rc) (n : Nat) (er : Value) (w : World) (e : Ending) (w' : World) : Prop :=
 ∃ pb nb cb pa na ca, e = .returned (.tuple #[.agg #[.int .i64 c.k, .int .u64 c.t, .int .u64 c.p, .int .u64 c.x, .int .i64 c.g, .int .i64 c.o, .slice pb nb cb, .slice pa na ca], .int .i64 n, er]) ∧ OwnB w' w.heap.size 5 (.slice pb nb cb) c.b ∧ OwnB w' w.heap.size 5 (.slice pa na ca) c.a ∧ Gr w w'
set_option maxRecDepth 100000 in
set_option maxHeartbeats 4000000 in
theorem of_own (p : Option Addr) (n c : Nat) (xs : List Int) (at' : Nat) (w : World) (hb : Byt w p n c xs) (hat : at' ≤ 18446744073709551615) : Calls Tryz.prog 104 #[.slice p n c, .int .u64 at'] w (RetOfO (ofR xs at') (ofN xs at') (.int .i64 (ofE xs at')) w) := by
 have HZ := Lib.hid (zeros_rec w); have HG := Lib.hid ((Gr.refl w).alloc (Nat.le_refl _) (.cells #[.int .i64 0, .int .u64 0, .int .u64 0, .int .u64 0, .int .i64 0, .int .i64 0, .slice none 0 0, .slice none 0 0] TR)); have HRD := Lib.hid (read_own p n c xs _ (hb.kept HG.out)); have HIN := Lib.hid (cand_in xs hb.small); have HBY := Lib.hid (hb.kept HG.out)
 have HN0 : Hid (ofB xs at' = false → ofR xs at' = Rc.nil ∧ ofN xs at' = 0 ∧ ofE xs at' = 4) := Lib.hid fun h => by simp [ofR, ofN, ofE, h]
 have HY0 : Hid (ofB xs at' = true → ofR xs at' = cand xs ∧ ofN xs at' = (recL (cand xs) at').length ∧ ofE xs at' = 0) := Lib.hid fun h => by simp [ofR, ofN, ofE, h]
 have HOB : Hid (ofB xs at' = (mayR (cand xs) && preB xs (recL (cand xs) at'))) := Lib.hid rfl; have HBB := Lib.hid (fun pb nb cb pa na ca W h1 h2 => bytes_any (cand xs) pb nb cb pa na ca at' W HIN.out h1 h2 hat); obtain ⟨C, hC⟩ : ∃ C, C = cand xs := ⟨_, rfl⟩
 rw [← hC] at HRD HIN HY0 HOB HBB
 clear hC hb hat; obtain ⟨k, t, pp, x, g, o, b, a⟩ := C
 simp only at HRD HBB
 go_enter Tryz.func104, Tryz.ntmps104
 go_wp2_with fail; refine HRD.out.mono ?_; rintro e w1 ⟨pb, nb, cb, pa, na, ca, rfl, ho1, ho2, g1⟩; have y1 := ho1.byt.1; have f1 := ho1.far; have HO1 := Lib.hid (ho1.alloc (.cells #[.int .i64 k, .int .u64 t, .int .u64 pp, .int .u64 x, .int .i64 g, .int .i64 o, .slice pb nb cb, .slice pa na ca] TR)); have y2 := ho2.byt.1; have f2 := ho2.far; have HO2 := Lib.hid (ho2.alloc (.cells #[.int .i64 k, .int .u64 t, .int .u64 pp, .int .u64 x, .int .i64 g, .int .i64 o, .slice pb nb cb, .slice pa na ca] TR)); clear ho1 ho2; have HB1 := Lib.hid (Blk.new w1 TR #[.int .i64 k, .int .u64 t, .int .u64 pp, .int .u64 x, .int .i64 g, .int .i64 o, .slice pb nb cb, .slice pa na ca]); have HA1 := Lib.hid ((Gr.refl w1).alloc (Nat.le_refl _) (.cells #[.int .i64 k, .int .u64 t, .int .u64 pp, .int .u64 x, .int .i64 g, .int .i64 o, .slice pb nb cb, .slice pa na ca] TR)); have HG1 := Lib.hid (Below.trans HG.out (g1.mono HG.out.size)); have HZ1 := Lib.hid (HZ.out.below g1 HZ.out.lt); have HBY1 := Lib.hid ((HBY.out.kept g1).kept HA1.out); have HY1 := Lib.hid (y1.kept HA1.out); have HY2 := Lib.hid (y2.kept HA1.out)
 have HF2 : Hid (∀ y, pa = some y → w.heap.size < y.block) := Lib.hid fun y h => by have := f2 y h; rw [World.size_alloc] at this; omega
 have HF1 : Hid (∀ y, pb = some y → w.heap.size < y.block) := Lib.hid fun y h => by have := f1 y h; rw [World.size_alloc] at this; omega
 have HS1 := Lib.hid (lt_of_new g1); clear y1 y2 g1 f1 f2 HRD HG HZ HBY; obtain ⟨c0, c1, c2, c3, c4, c5, c6, c7⟩ := HB1.out.c8; go_wp2_with fail; refine (HBB.out pb nb cb pa na ca _ HY1.out HY2.out).mono ?_; rintro e w2 ⟨q, m, d, rfl, hy, g2, _⟩; have HB2 := Lib.hid (HB1.out.below g2 HB1.out.lt); have HG2 : Hid (Gr w w2) := Lib.hid (Below.trans HG1.out ((Below.trans HA1.out (g2.mono HA1.out.size)).mono HG1.out.size)); have HZ2 := Lib.hid ((HZ1.out.below HA1.out HZ1.out.lt).below g2 (HZ1.out.alloc _).lt); have HBY2 := Lib.hid (HBY1.out.kept g2); have HX1 := Lib.hid ((HO1.out.below' g2).base_le (B' := w.heap.size) (by rw [World.size_alloc]; exact Nat.le_succ _)); have HX2 := Lib.hid ((HO2.out.below' g2).base_le (B' := w.heap.size) (by rw [World.size_alloc]; exact Nat.le_succ _)); have HYB := Lib.hid hy; clear hy g2 HBY1 HY1 HY2 HB1 HZ1 HA1 HG1 c0 c1 c2 c3 c4 c5 c6 c7 HBB; obtain ⟨c0, c1, c2, c3, c4, c5, c6, c7⟩ := HB2.out.c8; obtain ⟨z0, z1, z2, z3, z4, z5, z6, z7⟩ := HZ2.out.c8; obtain ⟨f0, f1, f2, f3, f4, f5, f6, f7⟩ := HZ2.out.f8
 cases hm : mayR ⟨k, t, pp, x, g, o, b, a⟩
 · have HE : Hid (bytesE ⟨k, t, pp, x, g, o, b, a⟩ = 2) := Lib.hid (by simp [bytesE, hm]); have HOK : Hid (ofB xs at' = false) := Lib.hid (by rw [HOB.out, hm]; rfl); have hn := HN0.out HOK.out; have HNO : Hid (∀ e w', RetOfO Rc.nil 0 (.int .i64 4) w e w' → RetOfO (ofR xs at') (ofN xs at') (.int .i64 (ofE xs at')) w e w') := Lib.hid (fun e w' h => by rw [hn.1, hn.2.1, hn.2.2]; exact h); rw [HE.out]; clear hm hn HE HOK HN0 HY0 HOB; go_wp2_with fail; exact bodyPost_ret (results_rec3 rfl _ _ w.heap.size #[.int .i64 0, .int .u64 0, .int .u64 0, .int .u64 0, .int .i64 0, .int .i64 0, .slice none 0 0, .slice none 0 0] _ _ rfl rfl rfl rfl ((((((((HZ2.out.set 0 _).set 1 _).set 2 _).set 3 _).set 4 _).set 5 _).set 6 _).set 7 _)) rfl (HNO.out _ _ ⟨none, 0, 0, none, 0, 0, rfl, OwnB.nil _ _ _, OwnB.nil _ _ _, below_set8 HG2.out (Nat.le_refl _)⟩)
 ·
  have HE : Hid (bytesE ⟨k, t, pp, x, g, o, b, a⟩ = 0 ∧ bytesL ⟨k, t, pp, x, g, o, b, a⟩ at' = recL ⟨k, t, pp, x, g, o, b, a⟩ at') := Lib.hid (by simp [bytesE, bytesL, hm])
  rw [HE.out.2] at HYB
  rw [HE.out.1]; have HP := Lib.hid (hasPrefix_any _ _ _ _ _ _ _ _ w2 HBY2.out HYB.out)
  cases hp : preB xs (recL ⟨k, t, pp, x, g, o, b, a⟩ at')
  ·
   rw [hp] at HP
   have HOK : Hid (ofB xs at' = false) := Lib.hid (by rw [HOB.out, hp, Bool.and_false]); have hn := HN0.out HOK.out; have HNO : Hid (∀ e w', RetOfO Rc.nil 0 (.int .i64 4) w e w' → RetOfO (ofR xs at') (ofN xs at') (.int .i64 (ofE xs at')) w e w') := Lib.hid (fun e w' h => by rw [hn.1, hn.2.1, hn.2.2]; exact h); clear hm hp hn HE HOK HN0 HY0 HOB; go_wp2_with fail; refine HP.out.mono ?_; rintro e w' ⟨rfl, rfl⟩; go_wp2_with fail; exact bodyPost_ret (results_rec3 rfl _ _ w.heap.size #[.int .i64 0, .int .u64 0, .int .u64 0, .int .u64 0, .int .i64 0, .int .i64 0, .slice none 0 0, .slice none 0 0] _ _ rfl rfl rfl rfl ((((((((HZ2.out.set 0 _).set 1 _).set 2 _).set 3 _).set 4 _).set 5 _).set 6 _).set 7 _)) rfl (HNO.out _ _ ⟨none, 0, 0, none, 0, 0, rfl, OwnB.nil _ _ _, OwnB.nil _ _ _, below_set8 HG2.out (Nat.le_refl _)⟩)
  ·
   rw [hp] at HP
   have HOK : Hid (ofB xs at' = true) := Lib.hid (by rw [HOB.out, hp, hm]; rfl); have hn := HY0.out HOK.out; have hln := HYB.out.len; have HYES : Hid (∀ e w', RetOfO ⟨k, t, pp, x, g, o, b, a⟩ m (.int .i64 0) w e w' → RetOfO (ofR xs at') (ofN xs at') (.int .i64 (ofE xs at')) w e w') := Lib.hid (fun e w' h => by rw [hn.1, hn.2.1, hn.2.2, hln]; exact h); clear hm hp hn HE HOK HN0 HY0 HOB hln; go_wp2_with fail; refine HP.out.mono ?_; rintro e w' ⟨rfl, rfl⟩; go_wp2_with fail; exact bodyPost_ret (results_rec3 rfl _ _ w.heap.size #[.int .i64 k, .int .u64 t, .int .u64 pp, .int .u64 x, .int .i64 g, .int .i64 o, .slice pb nb cb, .slice pa na ca] _ _ rfl rfl rfl rfl ((((((((HZ2.out.set 0 _).set 1 _).set 2 _).set 3 _).set 4 _).set 5 _).set 6 _).set 7 _)) rfl (HYES.out _ _ ⟨pb, nb, cb, pa, na, ca, rfl, HX1.out.oth (Oth.set8 _ _ _ _ _ _ _ _ _) (fun y hy => Nat.ne_of_gt (HF1.out y hy)), HX2.out.oth (Oth.set8 _ _ _ _ _ _ _ _ _) (fun y hy => Nat.ne_of_gt (HF2.out y hy)), below_set8 HG2.out (Nat.le_refl _)⟩)
end Go.Proofs.YtlijbgapkmfnaaaGreat
namespace Go.Proofs.YtlijbgapkmfnaaaGreat
open Cr
def onW (a n : Nat) : Nat := (a + n) % 18446744073709551616
theorem onW_le (a n : Nat) : onW a n ≤ 18446744073709551615 := by unfold onW; omega
theorem onW_of {a n : Nat} (h : a + n ≤ 18446744073709551615) : onW a n = a + n := by unfold onW; omega
def allF : Nat → List Int → Nat → List (Nat × Rc)
 | 0, _, _ => []
 | k + 1, xs, a => if ofB xs a then (onW a (ofN xs a), ofR xs a) :: allF k (xs.drop (ofN xs a)) (onW a (ofN xs a)) else []
def allL (xs : List Int) (a : Nat) : List (Nat × Rc) := allF xs.length xs a
theorem ofN_yes {xs : List Int} {a : Nat} (h : ofB xs a = true) : 35 ≤ ofN xs a ∧ ofN xs a ≤ xs.length := by
 have h1 : ofN xs a = (recL (cand xs) a).length := by simp [ofN, h]
 unfold ofB at h
 rw [Bool.and_eq_true] at h
 have h2 := congrArg List.length (preB_iff.1 h.2)
 rw [List.length_take] at h2
 have h3 := recL_len (cand xs) a
 omega
theorem ofB_short {xs : List Int} {a : Nat} (h : xs.length < 35) : ofB xs a = false := by
 cases h2 : ofB xs a
 · rfl
 ·
  have := ofN_yes h2
  omega
theorem ofN_small {xs : List Int} {a : Nat} (h : ofB xs a = true) : ofN xs a ≤ 531 := by
 have h1 : ofN xs a = (recL (cand xs) a).length := by simp [ofN, h]
 unfold ofB at h
 rw [Bool.and_eq_true] at h
 have f := mayR_fits h.1; have f1 := f.na; have f2 := f.nb1; rw [h1, recL_len]
 omega
theorem allF_nil {k : Nat} {xs : List Int} {a : Nat} (h : ofB xs a = false) : allF k xs a = [] := by cases k <;> simp [allF, h]
theorem allF_more : ∀ (k j : Nat) (xs : List Int) (a : Nat), xs.length ≤ k → xs.length ≤ j → allF k xs a = allF j xs a
 | 0, j, xs, a, h, _ => by
  have h0 : ofB xs a = false := ofB_short (by omega); rw [allF_nil h0, allF_nil h0]
 | k + 1, 0, xs, a, _, h => by
  have h0 : ofB xs a = false := ofB_short (by omega); rw [allF_nil h0, allF_nil h0]
 | k + 1, j + 1, xs, a, h, h' => by
  cases hb : ofB xs a
  · rw [allF_nil hb, allF_nil hb]
  ·
   have hn := ofN_yes hb
   simp only [allF, hb, if_true]
   rw [allF_more k j _ _ (by rw [List.length_drop]; omega) (by rw [List.length_drop]; omega)]
theorem allL_no {xs : List Int} {a : Nat} (h : ofB xs a = false) : allL xs a = [] := allF_nil h
theorem allL_yes {xs : List Int} {a : Nat} (h : ofB xs a = true) : allL xs a = (onW a (ofN xs a), ofR xs a) :: allL (xs.drop (ofN xs a)) (onW a (ofN xs a)) := by
 have hn := ofN_yes h; have h1 : allL xs a = allF (xs.length + 1) xs a := allF_more _ _ _ _ (Nat.le_refl _) (by omega); rw [h1]
 simp only [allF, h, if_true]
 rw [allL]
 congr 1
 exact allF_more _ _ _ _ (by rw [List.length_drop]; omega) (Nat.le_refl _)
theorem allL_len : ∀ (k : Nat) (xs : List Int) (a : Nat), xs.length ≤ k → 35 * (allL xs a).length ≤ xs.length
 | 0, xs, a, h => by rw [allL_no (ofB_short (by omega))]; simp
 | k + 1, xs, a, h => by
  cases hb : ofB xs a
  · rw [allL_no hb]; simp
  ·
   have hn := ofN_yes hb; rw [allL_yes hb, List.length_cons]; have := allL_len k (xs.drop (ofN xs a)) (onW a (ofN xs a)) (by rw [List.length_drop]; omega)
   rw [List.length_drop] at this
   omega
theorem ofR_in {xs : List Int} (hx : Wd.Small xs) (a : Nat) : (ofR xs a).In := by
 unfold ofR
 split
 · exact cand_in xs hx
 · exact ⟨by decide, by decide, by decide, (fun _ h => by cases h), fun _ h => by cases h⟩
def strL : List Rc → Nat → List Int
 | [], _ => []
 | r :: rs, a => recL r a ++ strL rs (onW a (recL r a).length)
def strE : List Rc → Nat → List (Nat × Rc)
 | [], _ => []
 | r :: rs, a => (onW a (recL r a).length, r) :: strE rs (onW a (recL r a).length)
theorem allL_str : ∀ (rs : List Rc) (a : Nat) (T : List Int), (∀ r ∈ rs, mayR r = true ∧ r.In) → T.length < 35 → allL (strL rs a ++ T) a = strE rs a
 | [], a, T, _, hT => by
  simp only [strL, strE, List.nil_append]
  exact allL_no (ofB_short hT)
 | r :: rs, a, T, h, hT => by
  obtain ⟨hm, hi⟩ := h r (List.mem_cons_self ..)
  simp only [strL, strE, List.append_assoc]
  rw [allL_yes (ofB_rec hm hi a _), ofN_rec hm hi, ofR_rec hm hi, List.drop_left' rfl, allL_str rs _ T (fun q hq => h q (List.mem_cons_of_mem _ hq)) hT]
end Go.Proofs.YtlijbgapkmfnaaaGreat
namespace Go.Proofs.YtlijbgapkmfnaaaGreat
open Go.RowKit
def firm (o : Obj) : Bool := o.isCells || o.isWalk
structure HoldS (κ : Obj → Bool) (Ks : Nat → Prop) (W W' : World) : Prop where
 size : W.heap.size ≤ W'.heap.size
 same : ∀ k o, Ks k → W.heap[k]? = some o → κ o = true → W'.heap[k]? = some o
theorem HoldS.refl (κ : Obj → Bool) (Ks : Nat → Prop) (W : World) : HoldS κ Ks W W := ⟨Nat.le_refl _, fun _ _ _ h _ => h⟩
theorem HoldS.trans {κ : Obj → Bool} {Ks : Nat → Prop} {X Y Z : World} (h : HoldS κ Ks X Y) (k : HoldS κ Ks Y Z) : HoldS κ Ks X Z := ⟨Nat.le_trans h.size k.size, fun i o hi h1 hc => k.same i o hi (h.same i o hi h1 hc) hc⟩
theorem HoldS.put {κ : Obj → Bool} {Ks : Nat → Prop} (W : World) (l : Nat) (o o' : Obj) (h : W.heap[l]? = some o) (hc : κ o = false) : HoldS κ Ks W (W.putObj l o') := ⟨by simp, fun k u _ hk hu => by
 by_cases e : k = l
 · subst e; rw [h] at hk; cases hk; rw [hc] at hu; cases hu
 · exact (World.putObj_heap_other e).trans hk⟩
def SeqTold {α : Type} (F : Fence) (n : Nat) (P : Program) (g : Nat) (lb : Array Value) (encs : α → Array Value) (G : List α → α → World → Prop) (Ks : Nat → Prop) (S Sp : List α → Prop) (w : World) : Prop :=
 ∀ (l : Nat) (J Jx : List α → World → Prop) (W : World), Below w.heap.size w W → OwnFrom W.heap.size J → OwnFrom W.heap.size Jx →
  (∀ pre x V, J pre V → G pre x V → YieldAt F (n - 1) P l (encs x) V fun e V' => (e = .returned (.bool true) ∧ J (pre ++ [x]) V' ∧ HoldS firm Ks V V') ∨ (e = .returned (.bool false) ∧ Jx (pre ++ [x]) V')) →
  J [] W → CallsIn F n P g (#[.func (.yield l) #[] #[]] ++ lb) W fun e V => (∃ v, e = .returned v) ∧ ((∃ xs, S xs ∧ J xs V) ∨ ∃ pre, Sp pre ∧ Jx pre V)
def toldPost {α : Type} (B : Nat) (Ks : Nat → Prop) (I Ir : List α → World → Prop) (xs : List α) (W : World) : Exit → Act → World → Prop
 | .normal, _, V => KeepsFrom B W V ∧ HoldS firm Ks W V ∧ I xs V
 | .ret, _, V => KeepsFrom B W V ∧ Ir xs V
 | _, _, _ => False
variable {F : Fence} {n : Nat} {P : Program} {w : World}
end Go.Proofs.YtlijbgapkmfnaaaGreat
namespace Go.Proofs.YtlijbgapkmfnaaaGreat
open Go.RowKit Go.Shelf Cr
attribute [local go_sem] Oper.semAt_some
abbrev TU : TypeId := 30
structure AllAt (W : World) (Bb Ba : Nat) (q : Option Addr) (m d : Nat) (xs : List Int) (at' : Nat) : Prop where
 b : Blk W Bb TBy #[.slice q m d]
 a : Blk W Ba TU #[.int .u64 at']
 y : Byt W q m d xs
theorem AllAt.up {W W' : World} {Bb Ba : Nat} {q : Option Addr} {m d : Nat} {xs : List Int} {at' : Nat} (h : AllAt W Bb Ba q m d xs at') (g : Gr W W') : AllAt W' Bb Ba q m d xs at' :=
 ⟨h.b.below g h.b.lt, h.a.below g h.a.lt, h.y.kept g⟩
set_option maxRecDepth 100000 in
set_option maxHeartbeats 1000000 in
theorem all_any (p : Option Addr) (n c : Nat) (xs : List Int) (at' : Nat) (w : World) (hb : Byt w p n c xs) (hl : n ≤ 20000) :
  Calls Tryz.prog 87 #[.slice p n c, .int .u64 at'] w fun e w' => ∃ q m d, e = .returned (.func (.func 103) #[] #[.pointer (some ⟨w.heap.size, 0, none⟩), .pointer (some ⟨w.heap.size + 1, 0, none⟩)]) ∧ AllAt w' w.heap.size (w.heap.size + 1) q m d xs at' ∧ (∀ y, q = some y → w.heap.size + 1 < y.block) ∧ Gr w w' := by
 have h1 := Blk.new w TBy #[.slice p n c]; have h2 := Blk.new (w.alloc (.cells #[.slice p n c] TBy)) TU #[.int .u64 at']; have h3 := Blk.new ((w.alloc (.cells #[.slice p n c] TBy)).alloc (.cells #[.int .u64 at'] TU)) 31 #[.slice p n c]
 simp only [World.size_alloc] at h2 h3
 have g1 := (Gr.refl w).alloc (Nat.le_refl _) (.cells #[.slice p n c] TBy); have g2 := g1.alloc g1.size (.cells #[.int .u64 at'] TU); have HB := Lib.hid ((h1.alloc (.cells #[.int .u64 at'] TU)).alloc (.cells #[.slice p n c] 31)); have HA := Lib.hid (h2.alloc (.cells #[.slice p n c] 31)); have HG := Lib.hid (g2.alloc g2.size (.cells #[.slice p n c] 31)); have hr := Rows.one (t := 31) (hb.kept g2) rfl
 simp only [World.size_alloc] at hr
 have HR := Lib.hid hr; have HT : Hid (tot [xs] ≤ 140737488355328) := Lib.hid (by have := hb.len; unfold tot; simp; omega); have HFL : Hid ([xs].flatten = xs) := Lib.hid (by simp); have c0 : (w.alloc (.cells #[.slice p n c] TBy)).cell? ⟨w.heap.size, 0, none⟩ = some (.slice p n c) := h1.cell 0; clear h1 h2 h3 g1 g2 hr hb
 go_enter Tryz.func87, Tryz.ntmps87
 go_wp2_with fail; refine (join_any _ _ _ _ _ HR.out HT.out).mono ?_; rintro e w1 ⟨q, m, d, rfl, hy, g1, hf⟩; have HB1 := Lib.hid (HB.out.below g1 HB.out.lt); have HA1 := Lib.hid (HA.out.below g1 HA.out.lt); have HG1 := Lib.hid (Gr.trans HG.out g1); have HY1 := Lib.hid (HFL.out ▸ hy)
 have HF1 : Hid (∀ y, q = some y → w.heap.size + 1 < y.block) := Lib.hid fun y h => by
  have h2 := hf y h
  simp only [World.size_alloc] at h2
  omega
 clear hy g1 hf HB HA HG HR HT HFL c0; have c0 := HB1.out.cell 0; have f0 := HB1.out.frozen 0; go_wp2_with fail
 go_ret
 have hgr := HG1.out.setCell (p := ⟨w.heap.size, 0, none⟩) (Nat.le_refl _) (.slice q m d); exact ⟨q, m, d, rfl, ⟨HB1.out.set 0 _, HA1.out.far (by show w.heap.size + 1 ≠ w.heap.size; omega) _, ((Oth.refl w.heap.size _).set _).byt HY1.out (fun y h => by have := HF1.out y h; omega)⟩, HF1.out, hgr⟩
structure RX where
 e : Nat
 c : Rc
 pb : Option Addr
 nb : Nat
 cb : Nat
 pa : Option Addr
 na : Nat
 ca : Nat
abbrev RX.agg (x : RX) : Value := .agg #[.int .i64 x.c.k, .int .u64 x.c.t, .int .u64 x.c.p, .int .u64 x.c.x, .int .i64 x.c.g, .int .i64 x.c.o, .slice x.pb x.nb x.cb, .slice x.pa x.na x.ca]
abbrev RX.encs (x : RX) : Array Value := #[.int .u64 x.e, x.agg]
structure RX.Good (x : RX) (W : World) : Prop where
 b : OwnB W 0 5 (.slice x.pb x.nb x.cb) x.c.b
 a : OwnB W 0 5 (.slice x.pa x.na x.ca) x.c.a
 e : x.e ≤ 18446744073709551615
 i : x.c.In
def RX.two (x : RX) : Nat × Rc := (x.e, x.c)
theorem Byt.held {κ : Obj → Bool} {Ks : Nat → Prop} {W W' : World} {p : Option Addr} {n c : Nat} {xs : List Int} (h : Byt W p n c xs) (hκ : ∀ o : Obj, o.isCells = true → κ o = true) (g : HoldS κ Ks W W') (hk : ∀ y, p = some y → Ks y.block) : Byt W' p n c xs :=
 ⟨h.len, h.cap, h.most, fun hn => by
  obtain ⟨b, o, rfl, hc⟩ := h.at hn
  refine ⟨b, o, rfl, fun i hi => ?_⟩; have hci := hc i hi
  have hb : ∃ ob, W.heap[b]? = some ob ∧ ob.isCells = true := by
   unfold World.cell? at hci
   cases ho : W.heap[b]? with
   | none => simp [ho] at hci
   | some ob =>
    refine ⟨ob, rfl, ?_⟩
    cases ob <;> simp [ho] at hci <;> rfl
  obtain ⟨ob, h1, h2⟩ := hb; have h3 := g.same b ob (hk _ rfl) h1 (hκ _ h2); rw [← hci]
  unfold World.cell?
  rw [h3, h1], h.nilCap, h.small⟩
theorem Gr.gnone {W W' : World} (g : Gr W W') : W.grownBy W' none := ⟨g.os, g.tape, g.output, g.size, fun k hk _ => g.block k hk⟩
theorem firm_cells (o : Obj) (h : o.isCells = true) : firm o = true := by unfold firm; rw [h]; rfl
theorem Gr.hold {κ : Obj → Bool} {Ks : Nat → Prop} {W W' : World} (g : Gr W W') : HoldS κ Ks W W' := ⟨g.size, fun k _ _ h1 _ => (g.block k (Array.getElem?_eq_some_iff.1 h1).1).trans h1⟩
set_option maxRecDepth 100000 in
set_option maxHeartbeats 4000000 in
theorem all1_told (n : Nat) (hn : 2 ≤ n) (Bb Ba : Nat) (q : Option Addr) (m d : Nat) (xs : List Int) (at' : Nat) (w : World) (h : AllAt w Bb Ba q m d xs at') (hat : at' ≤ 18446744073709551615) (hm : m ≤ 20000) :
  SeqTold Fence.wide n Tryz.prog 103 #[.pointer (some ⟨Bb, 0, none⟩), .pointer (some ⟨Ba, 0, none⟩)] RX.encs (fun pre x V => x.Good V ∧ ∃ zs, (pre ++ [x]).map RX.two ++ zs = allL xs at') (fun k => ∃ y, q = some y ∧ y.block = k) (fun ys => ys.map RX.two = allL xs at') (fun _ => True) w := fun l J Jx W hW hJ hJx hY h0 => by
 have hA := Lib.hid (h.up hW)
 have h1 : 1 ≤ n := by omega
 have c0 : W.cell? ⟨Bb, 0, none⟩ = some (.slice q m d) := hA.out.b.cell 0; have c1 : W.cell? ⟨Ba, 0, none⟩ = some (.int .u64 at') := hA.out.a.cell 0; have HJ := Lib.hid hJ; have HY := Lib.hid hY; have H0 := Lib.hid h0; clear hW hJ hJx hY h0 h; refine callsIn_of_wp Tryz.func103 rfl trivial ?_ rfl
 simp only [Tryz.ntmps103, List.size_toArray, List.length_cons, List.length_nil, Nat.reduceAdd, Nat.reduceSub, Array.replicate_succ, Array.replicate_zero, List.push_toArray, List.append_toArray, List.nil_append, List.cons_append]
 gi_wp2_with fail
 gi_region
 gi_wp2_with fail
 have gd : Gr W W.drew := (Gr.refl W).drew
 have HE : Hid (∀ ys e, ofB ys e = true → ofE ys e = 0) := Lib.hid fun ys e h => by simp [ofE, h]
 have HE1 : Hid (∀ ys e, ofB ys e = false → ofE ys e = 4) := Lib.hid fun ys e h => by simp [ofE, h]
 have HY0 := Lib.hid (hA.out.y.kept gd); have HJ0 := Lib.hid (HJ.out [] W _ none H0.out gd.gnone (fun r e => by cases e)); have HS0 := Lib.hid gd.size
 generalize W.drew = W0 at HY0 HJ0 HS0 ⊢
 clear c0 c1 hA H0 gd
 gi_loopw [4, 5] (fun rest en wr => ∃ (pre : List RX) (ys : List Int) (e : Nat) (q' : Option Addr) (m' d' : Nat), rest = .slice q' m' d' ∧ en = .int .u64 e ∧ Hid (Byt wr q' m' d' ys) ∧ Hid (∀ y, q' = some y → ∃ z, q = some z ∧ z.block = y.block) ∧ Hid (pre.map RX.two ++ allL ys e = allL xs at') ∧ e ≤ 18446744073709551615 ∧ m' ≤ 20000 ∧ Hid (J pre wr ∧ W.heap.size ≤ wr.heap.size)) (fun rest _ _ => match rest with | .slice _ k _ => k | _ => 0)
 case atStart => exact ⟨[], xs, at', q, m, d, rfl, rfl, HY0, Lib.hid fun y h => ⟨y, h, rfl⟩, Lib.hid rfl, hat, hm, Lib.hid ⟨HJ0.out, HS0.out⟩⟩
 case round =>
  obtain ⟨pre, ys, e, q', m', d', rfl, rfl, hy, hq, hs, he, hm', hj⟩ := hrel; clear HY0 HJ0 HS0 hat hm
  gi_wp2_with fail
  refine ⟨trivial, ?_⟩; refine (callsIn_wide.2 (of_own q' m' d' ys e _ hy.out he)).mono ?_; rintro e1 V ⟨pb, nb, cb, pa, na, ca, rfl, ho1, ho2, g1⟩; have gn := Gr.trans g1 ((Gr.refl V).alloc (Nat.le_refl _) (.cells #[.int .i64 (ofR ys e).k, .int .u64 (ofR ys e).t, .int .u64 (ofR ys e).p, .int .u64 (ofR ys e).x, .int .i64 (ofR ys e).g, .int .i64 (ofR ys e).o, .slice pb nb cb, .slice pa na ca] TR))
  cases hB : ofB ys e
  ·
   rw [HE1.out _ _ hB]
   gi_wp2_with fail
   refine bodyPost_ret (results_none rfl _ _ _) rfl ?_; exact ⟨⟨_, rfl⟩, .inl ⟨pre, by rw [← hs.out, allL_no hB, List.append_nil], HJ.out pre _ _ none hj.out.1 gn.gnone (fun r e => by cases e)⟩⟩
  ·
   rw [HE.out _ _ hB]; have hn := ofN_yes hB; have hly := hy.out.len; have hcy := hy.out.cap
   obtain ⟨b, o, rfl, _⟩ := hy.out.at (by omega)
   obtain ⟨N, hN⟩ : ∃ N, N = ofN ys e := ⟨_, rfl⟩; obtain ⟨R, hR⟩ : ∃ R, R = ofR ys e := ⟨_, rfl⟩; have hN2 := ofN_small hB; have hs2 := hs.out
   rw [allL_yes hB, ← hN, ← hR] at hs2
   rw [← hR] at ho1 ho2 gn ⊢
   rw [← hN] at hn hN2 ⊢
   have hRI : R.In := by rw [hR]; exact ofR_in hy.out.small e
   clear hN hR hB
   have hw : IntKind.u64.wrap ((e : Int) + (N : Int)) = ((onW e N : Nat) : Int) := by rw [IntKind.wrap_u64]; unfold onW; omega
   have hqb := hq.out _ rfl; have HX : ∃ x : RX, x = ⟨onW e N, R, pb, nb, cb, pa, na, ca⟩ := ⟨_, rfl⟩; obtain ⟨x, hx⟩ := HX
   have hgood : x.Good (V.alloc (.cells #[.int .i64 R.k, .int .u64 R.t, .int .u64 R.p, .int .u64 R.x, .int .i64 R.g, .int .i64 R.o, .slice pb nb cb, .slice pa na ca] TR)) := by
    rw [hx]; exact ⟨(ho1.base_le (Nat.zero_le _)).alloc _, (ho2.base_le (Nat.zero_le _)).alloc _, onW_le _ _, hRI⟩
   obtain ⟨fn, tmps, assign, body, hyl, hR⟩ := HY.out pre x _ (HJ.out pre _ _ none hj.out.1 gn.gnone (fun r e => by cases e)) ⟨hgood, allL (ys.drop N) (onW e N), by rw [← hs2, hx]; simp [RX.two]⟩
   rw [hx] at hyl
   dsimp only [RX.encs, RX.agg] at hyl
   have HR := Lib.hid hR; have hyt := Lib.hid (hy.out.kept gn); have hsz := Lib.hid (Nat.le_trans hj.out.2 gn.size); have hss : Hid ((pre ++ [x]).map RX.two ++ allL (ys.drop N) (onW e N) = allL xs at') := Lib.hid (by rw [← hs2, hx]; simp [RX.two]); have hbr := (Blk.new V TR #[.int .i64 R.k, .int .u64 R.t, .int .u64 R.p, .int .u64 R.x, .int .i64 R.g, .int .i64 R.o, .slice pb nb cb, .slice pa na ca]).c8; obtain ⟨r0, r1, r2, r3, r4, r5, r6, r7⟩ := hbr
   have hm2 : N ≤ m' := by omega
   clear hgood hR hx hs2 hs hj hy hq gn g1 ho1 ho2 hRI
   by_cases hd : d' = N
   ·
    gi_wp2_with fail
    refine HR.out.mono ?_; rintro e2 V' (⟨rfl, hj2, hk⟩ | ⟨rfl, hx2⟩)
    ·
     have hy2 : Hid (Byt V' (some ⟨b, o, none⟩) (m' - N) 0 (ys.drop N)) := Lib.hid ((show Byt _ (some ⟨b, o, none⟩) (m' - N) 0 (ys.drop N) from by have h := hyt.out.tail N hm2 (some ⟨b, o, none⟩) (fun h => absurd hd h); rw [hd, Nat.sub_self] at h; exact h).held firm_cells hk (fun y h => by cases h; exact hqb)); have hj3 := Lib.hid (show J (pre ++ [x]) V' ∧ W.heap.size ≤ V'.heap.size from ⟨hj2, Nat.le_trans hsz.out hk.size⟩); clear hk hj2 hyt hsz r0 r1 r2 r3 r4 r5 r6 r7 hyl HR
     gi_wp2_with fail
     go_roundw
     case rel => exact ⟨pre ++ [x], ys.drop N, onW e N, (some ⟨b, o, none⟩), m' - N, 0, rfl, rfl, hy2, Lib.hid (fun y h => by cases h; exact hqb), hss, onW_le _ _, by omega, hj3⟩
     case measure => simp; omega
    ·
     gi_wp2_with fail
     refine bodyPost_ret (results_none rfl _ _ _) rfl ?_; exact ⟨⟨_, rfl⟩, .inr ⟨pre ++ [x], trivial, hx2⟩⟩
   ·
    gi_wp2_with fail
    refine HR.out.mono ?_; rintro e2 V' (⟨rfl, hj2, hk⟩ | ⟨rfl, hx2⟩)
    ·
     have hy2 : Hid (Byt V' (some ⟨b, o + N, none⟩) (m' - N) (d' - N) (ys.drop N)) := Lib.hid ((hyt.out.tail N hm2 (some ⟨b, o + N, none⟩) (fun _ => rfl)).held firm_cells hk (fun y h => by cases h; exact hqb)); have hj3 := Lib.hid (show J (pre ++ [x]) V' ∧ W.heap.size ≤ V'.heap.size from ⟨hj2, Nat.le_trans hsz.out hk.size⟩); clear hk hj2 hyt hsz r0 r1 r2 r3 r4 r5 r6 r7 hyl HR
     gi_wp2_with fail
     go_roundw
     case rel => exact ⟨pre ++ [x], ys.drop N, onW e N, (some ⟨b, o + N, none⟩), m' - N, (d' - N), rfl, rfl, hy2, Lib.hid (fun y h => by cases h; exact hqb), hss, onW_le _ _, by omega, hj3⟩
     case measure => simp; omega
    ·
     gi_wp2_with fail
     refine bodyPost_ret (results_none rfl _ _ _) rfl ?_; exact ⟨⟨_, rfl⟩, .inr ⟨pre ++ [x], trivial, hx2⟩⟩
end Go.Proofs.YtlijbgapkmfnaaaGreat
namespace Go.Proofs.YtlijbgapkmfnaaaGreat
open Go.ChangeShapes Go.WideShapes Go.ChangeAt Go.RowKit
set_option maxRecDepth 100000 in
theorem openRecL {H : Type} {enc : TypeId × Value → H} {W : World} {fuel : Nat} {l : List Value} {x : DataW H × List MemPlace} (hs : l.length = 8)
  (hf : DataW.trod enc Tryz.prog W 0 (fun _ => true) true fuel 33 l = some x) : ∃ (c : Rc) (pb : Option Addr) (nb cb : Nat) (pa : Option Addr) (na ca : Nat), l = [.int .i64 c.k, .int .u64 c.t, .int .u64 c.p, .int .u64 c.x, .int .i64 c.g, .int .i64 c.o, .slice pb nb cb, .slice pa na ca] ∧ Byt W pb nb cb c.b ∧ Byt W pa na ca c.a ∧ c.In := by
 have hc1 : Tryz.prog.cellsOf 3 = 1 := by kernel_rfl
 have hc2 : Tryz.prog.cellsOf 29 = 1 := by kernel_rfl
 have hc3 : Tryz.prog.cellsOf 30 = 1 := by kernel_rfl
 have hc4 : Tryz.prog.cellsOf 31 = 1 := by kernel_rfl
 obtain ⟨xs, n, _, _, hl, hlen, hff⟩ := DataW.trod_struct Tryz.underlying33 hf
 match l, hs with
 | [c0, c1, c2, c3, c4, c5, c6, c7], _ =>
  match xs, hlen with
  | [y0, y1, y2, y3, y4, y5, y6, y7], _ =>
   have t0 := hff 0 _ rfl; have t1 := hff 1 _ rfl; have t2 := hff 2 _ rfl; have t3 := hff 3 _ rfl; have t4 := hff 4 _ rfl; have t5 := hff 5 _ rfl; have t6 := hff 6 _ rfl; have t7 := hff 7 _ rfl
   simp [hc2] at t0
   simp [hc3] at t1
   simp [hc3] at t2
   simp [hc3] at t3
   simp [hc1] at t4
   simp [hc1] at t5
   simp [hc4] at t6
   simp [hc4] at t7
   obtain ⟨v0, e0, _, w0⟩ := DataW.trod_int Tryz.underlying29 t0; obtain ⟨v1, e1, _, w1⟩ := DataW.trod_int Tryz.underlying30 t1; obtain ⟨v2, e2, _, w2⟩ := DataW.trod_int Tryz.underlying30 t2; obtain ⟨v3, e3, _, w3⟩ := DataW.trod_int Tryz.underlying30 t3; obtain ⟨v4, e4, _, w4⟩ := DataW.trod_int Tryz.underlying3 t4; obtain ⟨v5, e5, _, w5⟩ := DataW.trod_int Tryz.underlying3 t5
   simp at e0 e1 e2 e3 e4 e5
   subst e0 e1 e2 e3 e4 e5; obtain ⟨pb, nb, cb, bs, rfl, hb⟩ := openCell (v := c6) Tryz.underlying31 Tryz.underlying5 (by kernel_rfl) t6; obtain ⟨pa, na, ca, xa, rfl, ha⟩ := openCell (v := c7) Tryz.underlying31 Tryz.underlying5 (by kernel_rfl) t7; have b1 := u64Of w1; have b2 := u64Of w2; have b3 := u64Of w3; obtain ⟨v1, rfl⟩ := Int.eq_ofNat_of_zero_le b1.1; obtain ⟨v2, rfl⟩ := Int.eq_ofNat_of_zero_le b2.1; obtain ⟨v3, rfl⟩ := Int.eq_ofNat_of_zero_le b3.1; exact ⟨⟨v0, v1, v2, v3, v4, v5, bs, xa⟩, pb, nb, cb, pa, na, ca, rfl, hb, ha, ⟨by show v1 ≤ _; omega, by show v2 ≤ _; omega, by show v3 ≤ _; omega, hb.small, ha.small⟩⟩
structure Recs (w : World) (p : Option Addr) (n c : Nat) : Prop where
 cap : n ≤ c
 most : c ≤ maxLen
 lies : 0 < n → ∃ b o, p = some ⟨b, o, none⟩ ∧ ∀ i, i < n → ∃ x : RX, (w.cell? ⟨b, o + i * 8, none⟩ = some (.int .i64 x.c.k) ∧ w.cell? ⟨b, o + i * 8 + 1, none⟩ = some (.int .u64 x.c.t) ∧ w.cell? ⟨b, o + i * 8 + 2, none⟩ = some (.int .u64 x.c.p) ∧ w.cell? ⟨b, o + i * 8 + 3, none⟩ = some (.int .u64 x.c.x) ∧ w.cell? ⟨b, o + i * 8 + 4, none⟩ = some (.int .i64 x.c.g) ∧ w.cell? ⟨b, o + i * 8 + 5, none⟩ = some (.int .i64 x.c.o) ∧ w.cell? ⟨b, o + i * 8 + 6, none⟩ = some (.slice x.pb x.nb x.cb) ∧ w.cell? ⟨b, o + i * 8 + 7, none⟩ = some (.slice x.pa x.na x.ca)) ∧ Byt w x.pb x.nb x.cb x.c.b ∧ Byt w x.pa x.na x.ca x.c.a ∧ x.c.In
theorem openRecs {H : Type} {enc : TypeId × Value → H} {W : World} {a : Option Addr} {len cap : Nat} {d : DataW H} {p : List MemPlace}
  (h : DataW.Trod enc Tryz.prog W 0 (fun _ => true) true 47 (.slice a len cap) d p) : Recs W a len cap := by
 obtain ⟨fuel, hf⟩ := h
 have hc : Tryz.prog.cellsOf 33 = 8 := by kernel_rfl
 rcases Go.Deep.open_slice Tryz.underlying47 hf with ⟨hcs, _⟩ | ⟨x, l, c, m, n, D, Pl, hcs, _, hl, hm, hmm, _, hx⟩
 ·
  simp [Value.cells] at hcs
  obtain ⟨rfl, rfl, rfl⟩ := hcs; exact ⟨Nat.le_refl _, Nat.zero_le _, fun h => absurd h (Nat.lt_irrefl 0)⟩
 ·
  simp [Value.cells] at hcs
  obtain ⟨rfl, rfl, rfl⟩ := hcs
  simp only [if_true] at hmm
  subst hmm
  rw [hc] at hx
  have each : ∀ i, i < len → ∃ z : RX, (∀ j v, [Value.int .i64 z.c.k, .int .u64 z.c.t, .int .u64 z.c.p, .int .u64 z.c.x, .int .i64 z.c.g, .int .i64 z.c.o, .slice z.pb z.nb z.cb, .slice z.pa z.na z.ca][j]? = some v → W.cell? ((x.add (i * 8)).add j) = some v) ∧ Byt W z.pb z.nb z.cb z.c.b ∧ Byt W z.pa z.na z.ca z.c.a ∧ z.c.In := fun i hi => by
   obtain ⟨cs, h1, h2⟩ := hx i (by omega); obtain ⟨_, hlen, hcells⟩ := World.cells?_some h1; obtain ⟨rc, pb, nb, cb, pa, na, ca, rfl, hb, ha, hin⟩ := openRecL hlen h2; refine ⟨⟨0, rc, pb, nb, cb, pa, na, ca⟩, fun j v hj => ?_, hb, ha, hin⟩
   have hlt : j < 8 := by have := (List.getElem?_eq_some_iff.1 hj).1; simpa using this
   rw [hcells j hlt]; exact hj
  refine ⟨hl, hm, fun hn => ?_⟩; obtain ⟨z0, hz0, _⟩ := each 0 hn; have hc0 := hz0 0 _ rfl; obtain ⟨b, o, sp⟩ := x
  obtain rfl : sp = none := by simpa [Addr.add] using World.cell?_spot hc0
  refine ⟨b, o, rfl, fun i hi => ?_⟩; obtain ⟨z, hz, hb, ha, hin⟩ := each i hi
  have hz' : ∀ j v, [Value.int .i64 z.c.k, .int .u64 z.c.t, .int .u64 z.c.p, .int .u64 z.c.x, .int .i64 z.c.g, .int .i64 z.c.o, .slice z.pb z.nb z.cb, .slice z.pa z.na z.ca][j]? = some v → W.cell? ⟨b, o + i * 8 + j, none⟩ = some v := fun j v hj => by
   have := hz j v hj
   simpa only [Go.WideShapes.add_plain] using this
  exact ⟨z, ⟨hz' 0 _ rfl, hz' 1 _ rfl, hz' 2 _ rfl, hz' 3 _ rfl, hz' 4 _ rfl, hz' 5 _ rfl, hz' 6 _ rfl, hz' 7 _ rfl⟩, hb, ha, hin⟩
end Go.Proofs.YtlijbgapkmfnaaaGreat
namespace Go.Proofs.YtlijbgapkmfnaaaGreat
open Go.RowKit
open Extern.Stop (cell)
abbrev TS : TypeId := 46
structure Sec where
 bytes : List UInt8
 len : bytes.length = 256
theorem Sec.ext {s t : Sec} (h : s.bytes = t.bytes) : s = t := by
 cases s; cases t; cases h; rfl
instance : DecidableEq Sec := fun s t => if h : s.bytes = t.bytes then isTrue (Sec.ext h) else isFalse (fun e => h (by rw [e]))
def Sec.cells (s : Sec) : List Value := s.bytes.map cell
def sec (s : Sec) : Array Value := s.cells.toArray
theorem Sec.cells_len (s : Sec) : s.cells.length = 256 := by unfold Sec.cells; rw [List.length_map, s.len]
theorem sec_size (s : Sec) : (sec s).size = 256 := by unfold sec; simp [Sec.cells_len]
theorem sec_list (s : Sec) : (sec s).toList = s.cells := rfl
theorem Sec.one (s : Sec) : ∀ v ∈ s.cells, v.oneCell' = true := by
 intro v hv
 obtain ⟨x, _, rfl⟩ := List.mem_map.1 hv
 rfl
theorem sec_one (s : Sec) : (sec s).all (·.oneCell') = true := all_oneCell_toArray s.one
def Sec.zero : Sec := ⟨List.replicate 256 0, List.length_replicate ..⟩
theorem info_sec : (Tryz.prog.info? TS).map (fun i => (i.zero, i.size, i.bytes)) = some (some (.agg (sec Sec.zero)), 256, 256) := by kernel_rfl
theorem size_sec : (Tryz.prog.info? TS).map (·.size) = some 256 := by kernel_rfl
theorem zero_sec (w : World) : (zeroValue TS).run Tryz.prog w = .ok (.agg (sec Sec.zero)) w :=
 (zero_of_info (n := 256) (show (Tryz.prog.info? TS).map (fun i => (i.zero, i.size)) = some (some (.agg (sec Sec.zero)), 256) by kernel_rfl)).1 w
theorem under_sec : Tryz.prog.underlying TS = some (.array 256 5) := Tryz.underlying46
theorem size_u8 (w : World) : (sizeOf 5).run Tryz.prog w = .ok 1 w := by
 have h : (Tryz.prog.info? 5).map (·.size) = some 1 := by kernel_rfl
 cases hq : Tryz.prog.info? 5 with
 | none => rw [hq] at h; cases h
 | some i => rw [hq] at h; simp at h; simp [sizeOf, typeInfo, hq, h]
def cellsOf (ss : List Sec) : List Value := ss.flatMap Sec.cells
theorem cellsOf_len (ss : List Sec) : (cellsOf ss).length = ss.length * 256 := by
 induction ss with
 | nil => rfl
 | cons s r ih => unfold cellsOf at *; rw [List.flatMap_cons, List.length_append, ih, s.cells_len, List.length_cons]; omega
theorem cellsOf_app (ss ts : List Sec) : cellsOf (ss ++ ts) = cellsOf ss ++ cellsOf ts := by unfold cellsOf; exact List.flatMap_append
theorem cellsOf_one (s : Sec) : cellsOf [s] = s.cells := by unfold cellsOf; simp
theorem cellsOf_each (ss : List Sec) : ∀ v ∈ cellsOf ss, v.oneCell' = true := by
 intro v hv
 obtain ⟨s, _, h⟩ := List.mem_flatMap.1 hv; exact s.one v h
theorem cellsOf_at : ∀ (ss : List Sec) (i : Nat) (h : i < ss.length) (j : Nat), j < 256 → (cellsOf ss)[i * 256 + j]? = (ss[i]).cells[j]?
 | s :: r, 0, _, j, hj => by
  unfold cellsOf
  rw [List.flatMap_cons, List.getElem?_append_left (by rw [s.cells_len]; omega)]
  simp
 | s :: r, i + 1, h, j, hj => by
  have ih := cellsOf_at r i (by simpa using h) j hj
  unfold cellsOf at *
  rw [List.flatMap_cons, List.getElem?_append_right (by rw [s.cells_len]; omega), s.cells_len, show (i + 1) * 256 + j - 256 = i * 256 + j by omega, ih]
  simp
theorem cellsOf_split (ss : List Sec) (i : Nat) : cellsOf ss = cellsOf (ss.take i) ++ cellsOf (ss.drop i) := by rw [← cellsOf_app, List.take_append_drop]
theorem cellsOf_take (ss : List Sec) (i : Nat) (h : i ≤ ss.length) : (cellsOf ss).take (i * 256) = cellsOf (ss.take i) := by
 rw [cellsOf_split ss i, List.take_left' (by rw [cellsOf_len, List.length_take, Nat.min_eq_left h])]
theorem cellsOf_drop (ss : List Sec) (i : Nat) (h : i ≤ ss.length) : (cellsOf ss).drop (i * 256) = cellsOf (ss.drop i) := by
 rw [cellsOf_split ss i, List.drop_left' (by rw [cellsOf_len, List.length_take, Nat.min_eq_left h])]
theorem cellsOf_set (ss : List Sec) (i : Nat) (h : i < ss.length) (s : Sec) : cellsOf (ss.set i s) = (cellsOf ss).take (i * 256) ++ s.cells ++ (cellsOf ss).drop (i * 256 + 256) := by
 rw [cellsOf_take ss i (by omega), show i * 256 + 256 = (i + 1) * 256 by omega, cellsOf_drop ss (i + 1) (by omega)]; rw [List.set_eq_take_append_cons_drop, if_pos h, cellsOf_app, ← List.singleton_append, cellsOf_app, cellsOf_one, List.append_assoc]
def Row (w : World) (v : Value) (ss : List Sec) : Prop := w.ownsRow 0 TS 256 v ss.length (cellsOf ss)
theorem Row.empty (w : World) : Row w (.slice none 0 0) [] := World.ownsRow_nil _ _ _ _
theorem Row.form {w : World} {v : Value} {ss : List Sec} (h : Row w v ss) : (v = .slice none 0 0 ∧ ss = []) ∨ ∃ g c, v = .slice (some ⟨g, 0, none⟩) ss.length c ∧ g < w.heap.size ∧ ss.length ≤ c ∧ c ≤ maxLen := by
 rcases h.2 with ⟨rfl, h0⟩ | ⟨g, cap, cur, rfl, _, hg, hn, hm, _⟩
 · exact .inl ⟨rfl, List.eq_nil_of_length_eq_zero h0⟩
 · exact .inr ⟨g, cap, rfl, (Array.getElem?_eq_some_iff.1 hg).1, hn, hm⟩
theorem Row.full {w : World} {v : Value} {ss : List Sec} (h : Row w v ss) (hn : ss ≠ []) : ∃ g c, v = .slice (some ⟨g, 0, none⟩) ss.length c ∧ g < w.heap.size ∧ ss.length ≤ c ∧ c ≤ maxLen := by
 rcases h.form with ⟨_, h0⟩ | h
 · exact absurd h0 hn
 · exact h
theorem Row.stays {w w' : World} {v : Value} {ss : List Sec} (h : Row w v ss) (hb : ∀ g, v.ownBlock = some g → w'.heap[g]? = w.heap[g]?) : Row w' v ss := by
 refine ⟨h.1, ?_⟩
 rcases h.2 with h2 | ⟨g, cap, cur, rfl, h0, hg, r⟩
 · exact .inl h2
 · exact .inr ⟨g, cap, cur, rfl, h0, (hb g rfl).trans hg, r⟩
theorem Row.lt {w : World} {v : Value} {ss : List Sec} (h : Row w v ss) : ∀ g, v.ownBlock = some g → g < w.heap.size := fun g hg => (World.ownsRow.lt h g hg).2
theorem Row.kept {w w' : World} {B : Nat} {v : Value} {ss : List Sec} (h : Row w v ss) (hb : Below B w w') (hB : ∀ g, v.ownBlock = some g → g < B) : Row w' v ss := h.stays fun g hg => hb.block g (hB g hg)
theorem Row.gr {w w' : World} {v : Value} {ss : List Sec} (h : Row w v ss) (hb : Below w.heap.size w w') : Row w' v ss := h.kept hb h.lt
theorem Row.kind {w : World} {v : Value} {ss : List Sec} (h : Row w v ss) {g : Nat} (hg : v.ownBlock = some g) : ∃ cs, w.heap[g]? = some (.cells cs TS (0, 0)) := by
 rcases h.2 with ⟨rfl, _⟩ | ⟨g', cap, cur, rfl, _, h2, _⟩
 · cases hg
 · cases hg; exact ⟨_, h2⟩
theorem Row.lies {w : World} {g n c : Nat} {ss : List Sec} (h : Row w (.slice (some ⟨g, 0, none⟩) n c) ss) (i : Nat) (hi : i < ss.length) : w.rangeAt g (i * 256) (ss[i]).cells := by
 rcases h.2 with ⟨h0, _⟩ | ⟨g', cap, cur, h0, _, hg, hn, hm, hs, ht⟩
 · cases h0
 ·
  cases h0
  intro j v hv
  have hj : j < 256 := by have := (List.getElem?_eq_some_iff.1 hv).1; rwa [Sec.cells_len] at this
  rw [← hv, ← cellsOf_at ss i hi j hj, cell_of_row w g _ cur TS (0, 0) hg, ← ht, List.getElem?_take, if_pos (by omega)]
  simp
theorem Row.there {w : World} {g n c : Nat} {ss : List Sec} (h : Row w (.slice (some ⟨g, 0, none⟩) n c) ss) (i : Nat) (hi : i < ss.length) : w.there g (i * 256) 256 := by
 intro j hj
 have hl := h.lies i hi
 rcases h.2 with ⟨h0, _⟩ | ⟨g', cap, cur, h0, _, hg, hn, hm, hs, ht⟩
 · cases h0
 ·
  cases h0
  refine ⟨?_, frozen_of_row w g _ cur TS hg⟩
  have hjl : j < (ss[i]).cells.length := by rw [Sec.cells_len]; exact hj
  rw [hl j _ (List.getElem?_eq_getElem hjl)]
  rfl
theorem heap_setCells_other (b : Nat) : ∀ (vs : List Value) (o : Nat) (w : World) (k : Nat), k ≠ b → (w.setCells b o vs).heap[k]? = w.heap[k]?
 | [], _, _, _, _ => rfl
 | v :: r, o, w, k, h => by
  rw [World.setCells, heap_setCells_other b r (o + 1) _ k h]; exact Below.heap_setCell w ⟨b, o, none⟩ v k h
theorem heap_setCells_same (b : Nat) (t : TypeId) : ∀ (vs : List Value) (o : Nat) (w : World) (cur : Array Value), w.heap[b]? = some (.cells cur t (0, 0)) → o + vs.length ≤ cur.size →
  (w.setCells b o vs).heap[b]? = some (.cells (cur.toList.take o ++ vs ++ cur.toList.drop (o + vs.length)).toArray t (0, 0))
 | [], o, w, cur, h, _ => by simpa [World.setCells] using h
 | v :: r, o, w, cur, h, hl => by
  have hl' : o < cur.size := by simp at hl; omega
  have h1 := heap_setCell_same w b o cur t v h; rw [World.setCells, heap_setCells_same b t r (o + 1) _ _ h1 (by simp at hl ⊢; omega)]
  congr 2
  apply congrArg List.toArray
  have e1 : (cur.setIfInBounds o v).toList = cur.toList.set o v := by simp
  rw [e1, List.set_eq_take_append_cons_drop, if_pos (by simpa using hl')]
  have ht : (cur.toList.take o).length = o := by simp; omega
  generalize cur.toList.take o = A at ht ⊢
  have h2 : List.take (o + 1) (A ++ v :: List.drop (o + 1) cur.toList) = A ++ [v] := by
   rw [List.take_append, ht, List.take_of_length_le (by omega), show o + 1 - o = 1 by omega]; rfl
  have h3 : List.drop (o + 1 + r.length) (A ++ v :: List.drop (o + 1) cur.toList) = List.drop (o + (v :: r).length) cur.toList := by
   rw [List.drop_append, ht, List.drop_of_length_le (by omega), List.nil_append, show o + 1 + r.length - o = r.length + 1 by omega, List.drop_succ_cons, List.drop_drop]
   congr 1
   simp; omega
  rw [h2, h3]
  simp
theorem setCells_os (b : Nat) : ∀ (vs : List Value) (o : Nat) (w : World), (w.setCells b o vs).os = w.os ∧ (w.setCells b o vs).tape = w.tape ∧ (w.setCells b o vs).output = w.output ∧ (w.setCells b o vs).heap.size = w.heap.size
 | [], _, _ => ⟨rfl, rfl, rfl, rfl⟩
 | v :: r, o, w => by
  obtain ⟨h1, h2, h3, h4⟩ := setCells_os b r (o + 1) (w.setCell ⟨b, o, none⟩ v); exact ⟨h1, h2, h3, by rw [World.setCells, h4]; simp [World.setCell]⟩
theorem put_list (l x : List Value) (o L K : Nat) (hx : x.length = K) (h : o + K ≤ L) (hL : L ≤ l.length) :
  (l.take o ++ x ++ l.drop (o + x.length)).take L = (l.take L).take o ++ x ++ (l.take L).drop (o + K) := by
 have ho : (l.take o).length = o := by simp; omega
 rw [hx, List.take_append, List.take_append, List.length_append, ho, hx, List.take_of_length_le (l := l.take o) (by omega), List.take_of_length_le (l := x) (by omega), List.take_take, Nat.min_eq_left (by omega), List.drop_take]
theorem Row.put {w : World} {g n c : Nat} {ss : List Sec} (h : Row w (.slice (some ⟨g, 0, none⟩) n c) ss) (i : Nat) (hi : i < ss.length) (s : Sec) : Row (w.setCells g (i * 256) s.cells) (.slice (some ⟨g, 0, none⟩) n c) (ss.set i s) := by
 have hl := h.1
 rcases h.2 with ⟨h0, _⟩ | ⟨g', cap, cur, h0, _, hg, hn, hm, hs, ht⟩
 · cases h0
 ·
  cases h0
  have hfit : i * 256 + s.cells.length ≤ cur.size := by
   rw [s.cells_len, hs]; have : (i + 1) * 256 ≤ c * 256 := Nat.mul_le_mul_right _ (show i + 1 ≤ c by omega)
   omega
  refine ⟨by rw [cellsOf_len], .inr ⟨g, c, _, by rw [List.length_set], Nat.zero_le _, heap_setCells_same g TS s.cells (i * 256) w cur hg hfit, by rw [List.length_set]; exact hn, hm, ?_, ?_⟩⟩
  ·
   have h1 : (List.take (i * 256) cur.toList).length = i * 256 := by simp; omega
   have h2 : (List.drop (i * 256 + s.cells.length) cur.toList).length = cur.size - (i * 256 + s.cells.length) := by simp
   simp only [List.size_toArray, List.length_append, h1, h2]
   omega
  ·
   rw [List.length_set, cellsOf_set ss i hi s, ← ht]
   have hL : ss.length * 256 ≤ cur.toList.length := by
    have h5 := Nat.mul_le_mul_right 256 hn
    have h6 : cur.toList.length = c * 256 := by rw [← hs]; exact Array.length_toList
    rw [h6]; exact h5
   have hi2 : i * 256 + 256 ≤ ss.length * 256 := by
    have h5 := Nat.mul_le_mul_right 256 (show i + 1 ≤ ss.length from hi)
    rwa [Nat.add_mul, Nat.one_mul] at h5
   exact put_list _ _ _ _ _ s.cells_len hi2 hL
end Go.Proofs.YtlijbgapkmfnaaaGreat
namespace Go.Proofs.YtlijbgapkmfnaaaGreat
open Go.RowKit Go.Maps
theorem Blk.one {w : World} {g : Nat} {s : Sec} (h : Blk w g TS (sec s)) : w.rangeAt g 0 s.cells := fun j v hv => by
 rw [Nat.zero_add, h.cell j, ← hv]; simp [sec]
theorem below_setRow {B : Nat} {a w : World} (h : Below B a w) {g : Nat} (hg : B ≤ g) (cs : Array Value) : Below B a (w.setRow g cs) :=
 h.trans ⟨rfl, rfl, rfl, by simp, fun k hk => setRow_other w g k cs (by omega)⟩
theorem wpList_load_sec {ops : Array Oper} {rest : List Oper} {op : Oper} {a : Act} {w : World} {Q : Exit → Act → World → Prop} (hgd : op.guard = none) (x : Operand) (ho : op.op = .load TS x)
  {b o : Nat} {s : Sec} (hc : w.rangeAt b o s.cells) (hx : a.eval x = .pointer (some ⟨b, o, none⟩))
  (h : wpList Tryz.prog ops Q rest (a.put op.dst (.agg (sec s))) w) : wpList Tryz.prog ops Q (op :: rest) a w :=
 wpList_load_mid hgd TS x ho b o hx s.cells _ hc under_sec rfl (by rw [s.cells_len]; exact size_sec) h
theorem wpList_store_sec {ops : Array Oper} {rest : List Oper} {op : Oper} {a : Act} {w : World} {Q : Exit → Act → World → Prop} (hgd : op.guard = none) (x y : Operand) (ho : op.op = .store TS x y)
  {g : Nat} {old s : Sec} (hb : Blk w g TS (sec old)) (hx : a.eval x = .pointer (some ⟨g, 0, none⟩)) (hy : a.eval y = .agg (sec s))
  (h : wpList Tryz.prog ops Q rest (a.put op.dst undef) (w.setRow g (sec s))) : wpList Tryz.prog ops Q (op :: rest) a w :=
 wpList_store_row hgd TS x y ho g (sec s) hx hy TS (sec old) hb (by rw [sec_size]; exact size_sec) (by rw [sec_size, sec_size]) (sec_one s) h
theorem results_sec {fn : Func} {p : Tmp} (h : fn.results = #[.cell p TS]) (tmps : Array Value) (w : World) (g : Nat) (s : Sec)
  (hp : tmps.getD p undef = .pointer (some ⟨g, 0, none⟩)) (hb : Blk w g TS (sec s)) : (results fn tmps).run Tryz.prog w = .ok (.agg (sec s)) w :=
 results_cell_row h tmps w g TS (sec s) (0, 0) _ hp hb under_sec rfl (by rw [sec_size]; exact size_sec)
/-! ### What a disk is -/
structure St where
 ls : List Sec
 t : Nat → List Sec
 fuse : Int
 dead : Bool
 writes : Nat
structure St.Ok (s : St) : Prop where
 pos : 0 < s.ls.length
 most : s.ls.length ≤ 65536
 out : ∀ i, s.ls.length ≤ i → s.t i = []
 less : ∀ i, (s.t i).length ≤ s.writes
 lo : -9223372036854775808 ≤ s.fuse
 hi : s.fuse ≤ 9223372036854775807
def St.nw (s : St) (i : Nat) : Sec := (s.t i).getLastD (s.ls.getD i Sec.zero)
abbrev nilS : Value := .slice none 0 0
def key (i : Nat) : Lit := .int .i64 (i : Int)
def eltR (v : Value) : Option (DataW Value × List MemPlace) := some (.held v, [])
abbrev TM : TypeId := 93
abbrev TL : TypeId := 44
abbrev TD : TypeId := 95
def Loose (w : World) (m most : Nat) (N : Nat) (L : Nat → Value) (t : Nat → List Sec) : Prop :=
 ∃ (D : DataW Value) (n : Nat), w.ownsMap Tryz.prog TI eltR m n D ∧ n ≤ most ∧ (∀ i, i < N → D.atKey (key i) (.held nilS) = .held (L i)) ∧ (∀ i, i < N → (has D (key i) = true ↔ t i ≠ [])) ∧ (∀ k, has D k = true → ∃ i, i < N ∧ k = key i)
structure DkAt (w : World) (F : Nat → Prop) (b : Nat) (lv : Value) (m : Nat) (L : Nat → Value) (s : St) : Prop where
 ok : s.Ok
 blk : Blk w b TD #[lv, .map (some m), .int .i64 s.fuse, .bool s.dead, .int .i64 (s.writes : Int)]
 ls : Row w lv s.ls
 map : Loose w m (65536 + s.writes) s.ls.length L s.t
 rows : ∀ i, Row w (L i) (s.t i)
 apart : ∀ i j g, (L i).ownBlock = some g → (L j).ownBlock = some g → i = j
 apart0 : ∀ i g, (L i).ownBlock = some g → lv.ownBlock ≠ some g
 ownB : F b
 ownM : F m
 ownL : ∀ g, lv.ownBlock = some g → F g
 ownR : ∀ i g, (L i).ownBlock = some g → F g
 low : ∀ k, F k → k < w.heap.size
def Dk (w : World) (F : Nat → Prop) (p : Value) (s : St) : Prop := ∃ b lv m L, p = .pointer (some ⟨b, 0, none⟩) ∧ DkAt w F b lv m L s
theorem ownsMap_stays {w w' : World} {P : Program} {k : TypeId} {R : Value → Option (DataW Value × List MemPlace)} {b n : Nat} {D : DataW Value} (h : w.ownsMap P k R b n D) (e : w'.heap[b]? = w.heap[b]?) : w'.ownsMap P k R b n D := by
 obtain ⟨es, clock, hb, r⟩ := h; exact ⟨es, clock, e.trans hb, r⟩
theorem Loose.stays {w w' : World} {m q N : Nat} {L : Nat → Value} {t : Nat → List Sec} (h : Loose w m q N L t) (e : w'.heap[m]? = w.heap[m]?) : Loose w' m q N L t := by
 obtain ⟨D, n, ho, r⟩ := h; exact ⟨D, n, ownsMap_stays ho e, r⟩
theorem Loose.lt {w : World} {m q N : Nat} {L : Nat → Value} {t : Nat → List Sec} (h : Loose w m q N L t) : m < w.heap.size := by
 obtain ⟨D, n, ho, r⟩ := h; exact ho.lt
theorem DkAt.stays {w w' : World} {F : Nat → Prop} {b : Nat} {lv : Value} {m : Nat} {L : Nat → Value} {s : St} (h : DkAt w F b lv m L s) (e : ∀ k, F k → w'.heap[k]? = w.heap[k]?) (hs : w.heap.size ≤ w'.heap.size) : DkAt w' F b lv m L s :=
 ⟨h.ok, h.blk.stays (e b h.ownB), h.ls.stays fun g hg => e g (h.ownL g hg), h.map.stays (e m h.ownM), fun i => (h.rows i).stays fun g hg => e g (h.ownR i g hg), h.apart, h.apart0, h.ownB, h.ownM, h.ownL, h.ownR, fun k hk => Nat.lt_of_lt_of_le (h.low k hk) hs⟩
theorem DkAt.gr {w w' : World} {F : Nat → Prop} {b : Nat} {lv : Value} {m : Nat} {L : Nat → Value} {s : St} (h : DkAt w F b lv m L s) (e : Gr w w') : DkAt w' F b lv m L s := h.stays (fun k hk => e.block k (h.low k hk)) e.size
theorem Dk.stays {w w' : World} {F : Nat → Prop} {p : Value} {s : St} (h : Dk w F p s) (e : ∀ k, F k → w'.heap[k]? = w.heap[k]?) (hs : w.heap.size ≤ w'.heap.size) : Dk w' F p s := by
 obtain ⟨b, lv, m, L, hp, h⟩ := h; exact ⟨b, lv, m, L, hp, h.stays e hs⟩
theorem Dk.gr {w w' : World} {F : Nat → Prop} {p : Value} {s : St} (h : Dk w F p s) (e : Gr w w') : Dk w' F p s := by
 obtain ⟨b, lv, m, L, hp, h⟩ := h; exact ⟨b, lv, m, L, hp, h.gr e⟩
theorem Dk.low {w : World} {F : Nat → Prop} {p : Value} {s : St} (h : Dk w F p s) : ∀ k, F k → k < w.heap.size := by
 obtain ⟨b, lv, m, L, hp, h⟩ := h; exact h.low
structure Upd (F F' : Nat → Prop) (w w' : World) : Prop where
 os : w'.os = w.os
 tape : w'.tape = w.tape
 output : w'.output = w.output
 size : w.heap.size ≤ w'.heap.size
 block : ∀ k, k < w.heap.size → ¬ F k → w'.heap[k]? = w.heap[k]?
 fresh : ∀ k, F' k → F k ∨ w.heap.size ≤ k
theorem Upd.below {F F' : Nat → Prop} {w w' : World} (h : Upd F F' w w') {B : Nat} (hB : B ≤ w.heap.size) (hF : ∀ k, F k → B ≤ k) : Below B w w' :=
 ⟨h.os, h.tape, h.output, h.size, fun k hk => h.block k (by omega) fun hf => by have := hF k hf; omega⟩
theorem Upd.from {F F' : Nat → Prop} {w w' : World} (h : Upd F F' w w') {B : Nat} (hB : B ≤ w.heap.size) (hF : ∀ k, F k → B ≤ k) : ∀ k, F' k → B ≤ k := fun k hk => by
 rcases h.fresh k hk with h | h
 · exact hF k h
 · omega
theorem Upd.other {F F' G : Nat → Prop} {w w' : World} (h : Upd F F' w w') (hG : ∀ k, G k → k < w.heap.size) (ha : ∀ k, F k → ¬ G k) : (∀ k, G k → w'.heap[k]? = w.heap[k]?) ∧ ∀ k, F' k → ¬ G k :=
 ⟨fun k hk => h.block k (hG k hk) fun hf => ha k hf hk, fun k hk hg => by
  rcases h.fresh k hk with h1 | h1
  · exact ha k h1 hg
  · have := hG k hg; omega⟩
theorem Upd.of_gr {F : Nat → Prop} {w w' : World} (h : Gr w w') : Upd F F w w' := ⟨h.os, h.tape, h.output, h.size, fun k hk _ => h.block k hk, fun k hk => .inl hk⟩
theorem Loose.look {w : World} {m q N : Nat} {L : Nat → Value} {t : Nat → List Sec} (h : Loose w m q N L t) (i : Nat) (hi : i < N) (hN : N ≤ 65536) :
  (Instr.lookup TM (.map (some m)) (.int .i64 (i : Int)) false).run Tryz.prog w = .ok (L i) w := by
 obtain ⟨D, n, ho, hn, ha, _, _⟩ := h
 obtain ⟨v, ps, hr, hv⟩ := ho.lookup (t := TM) (e := TL) (int_keyed Tryz.underlying3) Tryz.underlying93 (z := nilS) (show (zeroValue TL).run Tryz.prog w = .ok nilS w from Tryz.zeroValue44 w) (zd := .held nilS) (zp := []) rfl (key := .int .i64 (i : Int)) (kl := key i)
  (keyOf_int_mk Tryz.underlying3 (WalkArith.wf_i64 (by omega)))
 rw [ha i hi] at hv
 simp only [eltR, Option.some.injEq, Prod.mk.injEq, DataW.held.injEq] at hv
 rw [hr, hv.1]
end Go.Proofs.YtlijbgapkmfnaaaGreat
namespace Go.Proofs.YtlijbgapkmfnaaaGreat
open Go.RowKit Go.Maps
theorem DkAt.cells {w : World} {F : Nat → Prop} {b : Nat} {lv : Value} {m : Nat} {L : Nat → Value} {s : St} (h : DkAt w F b lv m L s) :
  w.cell? ⟨b, 0, none⟩ = some lv ∧ w.cell? ⟨b, 1, none⟩ = some (.map (some m)) ∧ w.cell? ⟨b, 2, none⟩ = some (.int .i64 s.fuse) ∧ w.cell? ⟨b, 3, none⟩ = some (.bool s.dead) ∧ w.cell? ⟨b, 4, none⟩ = some (.int .i64 (s.writes : Int)) :=
 ⟨h.blk.cell 0, h.blk.cell 1, h.blk.cell 2, h.blk.cell 3, h.blk.cell 4⟩
theorem DkAt.lv {w : World} {F : Nat → Prop} {b : Nat} {lv : Value} {m : Nat} {L : Nat → Value} {s : St} (h : DkAt w F b lv m L s) : ∃ g c, lv = .slice (some ⟨g, 0, none⟩) s.ls.length c :=
 let ⟨g, c, e, _⟩ := h.ls.full (fun e => by have := h.ok.pos; rw [e] at this; simp at this)
 ⟨g, c, e⟩
set_option maxRecDepth 100000 in
theorem missing_no {F : Nat → Prop} {b : Nat} {lv : Value} {m : Nat} {L : Nat → Value} {s : St} (w : World) (h : DkAt w F b lv m L s) : Calls Tryz.prog 50 #[.pointer (some ⟨b, 0, none⟩)] w fun e w' => e = .returned (.bool false) ∧ w = w' := by
 obtain ⟨h0, h1, h2, h3, h4⟩ := h.cells; obtain ⟨g, c, rfl⟩ := h.lv; obtain ⟨N, hN⟩ : ∃ N, N = s.ls.length := ⟨_, rfl⟩; have hp := h.ok.pos
 rw [← hN] at h0 hp
 have hz : ((N : Int) == 0) = false := by simp; omega
 clear h hN h1 h2 h3 h4
 go_enter Tryz.func50, Tryz.ntmps50
 go_wp2
 go_ret
 exact ⟨rfl, rfl⟩
def askE (n : Nat) (i : Int) : Int := if i < 0 ∨ (n : Int) ≤ i then 2 else 0
set_option maxRecDepth 100000 in
theorem asked_any {F : Nat → Prop} {b : Nat} {lv : Value} {m : Nat} {L : Nat → Value} {s : St} (w : World) (h : DkAt w F b lv m L s) (i : Int) : Calls Tryz.prog 49 #[.pointer (some ⟨b, 0, none⟩), .int .i64 i] w fun e w' => e = .returned (.int .i64 (askE s.ls.length i)) ∧ w = w' := by
 have HM := Lib.hid (missing_no w h); obtain ⟨h0, h1, h2, h3, h4⟩ := h.cells; obtain ⟨g, c, rfl⟩ := h.lv; obtain ⟨N, hN⟩ : ∃ N, N = s.ls.length := ⟨_, rfl⟩
 rw [← hN] at h0 ⊢
 clear h hN h1 h2 h3 h4
 by_cases hi : i < 0
 ·
  have HE : Hid (askE N i = 2) := Lib.hid (by unfold askE; rw [if_pos (.inl hi)])
  go_enter Tryz.func49, Tryz.ntmps49
  go_wp2_with fail; refine HM.out.mono ?_; rintro e w' ⟨rfl, rfl⟩
  go_wp2
  go_ret
  exact ⟨ret_i HE.out.symm, rfl⟩
 ·
  by_cases hj : (N : Int) ≤ i
  ·
   have HE : Hid (askE N i = 2) := Lib.hid (by unfold askE; rw [if_pos (.inr hj)])
   go_enter Tryz.func49, Tryz.ntmps49
   go_wp2_with fail; refine HM.out.mono ?_; rintro e w' ⟨rfl, rfl⟩
   go_wp2
   go_ret
   exact ⟨ret_i HE.out.symm, rfl⟩
  ·
   have HE : Hid (askE N i = 0) := Lib.hid (by unfold askE; rw [if_neg (by omega)])
   go_enter Tryz.func49, Tryz.ntmps49
   go_wp2_with fail; refine HM.out.mono ?_; rintro e w' ⟨rfl, rfl⟩
   go_wp2
   go_ret
   exact ⟨ret_i HE.out.symm, rfl⟩
theorem nw_none {s : St} {i : Nat} (h : s.t i = []) : s.nw i = s.ls.getD i Sec.zero := by unfold St.nw; rw [h]; rfl
theorem last_at {α : Type} (d : α) : ∀ (l : List α) (h : l.length - 1 < l.length), l[l.length - 1] = l.getLastD d
 | [], h => by simp at h
 | x :: r, h => by rw [← List.getLast_eq_getElem (by simp), List.getLast_eq_getLastD, List.getLastD_cons]
theorem nw_some {s : St} {i : Nat} (h : (s.t i).length - 1 < (s.t i).length) : (s.t i)[(s.t i).length - 1] = s.nw i := last_at _ _ h
set_option maxRecDepth 100000 in
set_option maxHeartbeats 1000000 in
theorem newest_any {F : Nat → Prop} {b : Nat} {lv : Value} {m : Nat} {L : Nat → Value} {s : St} (w : World) (h : DkAt w F b lv m L s) (i : Nat) (hi : i < s.ls.length) : Calls Tryz.prog 64 #[.pointer (some ⟨b, 0, none⟩), .int .i64 (i : Int)] w fun e w' => e = .returned (.agg (sec (s.nw i))) ∧ Gr w w' := by
 have hi2 : (i : Int) < 65536 := by have := h.ok.most; omega
 have hg : Gr w (w.alloc (.cells (sec Sec.zero) TS)) := (Gr.refl w).alloc (Nat.le_refl _) _; have h' := h.gr hg; obtain ⟨h0, h1, h2, h3, h4⟩ := h'.cells; obtain ⟨g, c, rfl⟩ := h.lv; have HK := Lib.hid (h'.map.look i hi h.ok.most); have HZ := Lib.hid zero_sec; have HN := Lib.hid (Blk.new w TS (sec Sec.zero))
 have hN : (i : Int) < (s.ls.length : Int) := by omega
 clear h2 h3 h4
 by_cases ht : s.t i = []
 ·
  have HW := Lib.hid (nw_none ht)
  have hL : L i = nilS := by
   obtain ⟨D, n, ho, hn, ha, hh, _⟩ := h'.map
   have : has D (key i) = false := by
    cases hc : has D (key i) with
    | false => rfl
    | true => exact absurd ht ((hh i hi).1 hc)
   have e := ha i hi
   rw [atKey_of_not_has this] at e
   simpa using e.symm
  have hk := HK.out
  rw [hL] at hk
  have HL := Lib.hid (h'.ls.lies i hi); have HS : Hid (s.ls[i] = s.nw i) := Lib.hid (by rw [HW.out]; simp [List.getD, hi]); obtain ⟨N, hN⟩ : ∃ N, N = s.ls.length := ⟨_, rfl⟩; obtain ⟨x, hx⟩ : ∃ x, x = s.ls[i] := ⟨_, rfl⟩
  rw [← hx] at HL HS
  rw [← hN] at h0 hi
  clear h h' HK ht hL HW hN hx
  go_enter Tryz.func64, Tryz.ntmps64
  have hz := HZ.out; clear HZ
  go_wp2_with (first | (refine wpList_load_sec rfl _ rfl HL.out rfl ?_) | (refine wpList_store_sec rfl _ _ rfl HN.out rfl rfl ?_))
  exact bodyPost_ret (results_sec rfl _ _ _ _ rfl (HN.out.row _)) rfl ⟨by rw [HS.out], below_setRow hg (Nat.le_refl _) _⟩
 ·
  have hl : (s.t i).length - 1 < (s.t i).length := by have := List.length_pos_iff.2 ht; omega
  have hlen : (s.t i).length ≤ 9223372036854775807 := by
   obtain ⟨g', c', _, _, h5, h6⟩ := (h.rows i).full ht
   unfold maxLen at h6; omega
  have hr := h'.rows i; obtain ⟨g', c', e, _⟩ := hr.full ht; have hk := HK.out
  rw [e] at hk hr
  have HL := Lib.hid (hr.lies _ hl); have HS := Lib.hid (nw_some hl)
  rw [HS.out] at HL
  obtain ⟨k, hM⟩ : ∃ k, (s.t i).length = k + 1 := ⟨(s.t i).length - 1, by omega⟩
  have hk1 : (s.t i).length - 1 = k := by omega
  rw [hk1] at HL
  rw [hM] at hk hlen
  have hpos : (0 : Int) < ((k + 1 : Nat) : Int) := by omega
  clear h h' HK hr e hM h0 ht HS hi hi2 hN hl hk1
  go_enter Tryz.func64, Tryz.ntmps64
  have hz := HZ.out; clear HZ
  go_wp2_with (first | (refine wpList_load_sec rfl _ rfl HL.out rfl ?_) | (refine wpList_store_sec rfl _ _ rfl HN.out rfl rfl ?_))
  exact bodyPost_ret (results_sec rfl _ _ _ _ rfl (HN.out.row _)) rfl ⟨rfl, below_setRow hg (Nat.le_refl _) _⟩
end Go.Proofs.YtlijbgapkmfnaaaGreat
namespace Go.Proofs.YtlijbgapkmfnaaaGreat
open Go.RowKit Go.Maps
/-! ### sectors that are noughts -/
theorem zero_cells : Sec.zero.cells = List.replicate 256 (.int .u8 0) := by
 unfold Sec.cells Sec.zero
 rw [List.map_replicate]
 rfl
theorem cellsOf_zero (n : Nat) : cellsOf (List.replicate n Sec.zero) = List.replicate (n * 256) (.int .u8 0) := by
 induction n with
 | zero => rfl
 | succ n ih =>
  rw [List.replicate_succ, ← List.singleton_append, cellsOf_app, cellsOf_one, ih, zero_cells, List.replicate_append_replicate]
  congr 1; omega
theorem made_const (c : Value) (K m : Nat) (h : 0 < K) : (madeCells (List.replicate K c).toArray m).toList = List.replicate m c := by
 apply List.ext_getElem?
 intro j
 by_cases hj : j < m
 · simp [madeCells, hj, List.getElem?_replicate, Nat.mod_lt _ h]
 · simp [madeCells, hj, List.getElem?_replicate]
theorem made_zero (n : Nat) : (madeCells (Value.agg (sec Sec.zero)).cells (n * 256)).toList = cellsOf (List.replicate n Sec.zero) := by
 have h : (Value.agg (sec Sec.zero)).cells = (List.replicate 256 (Value.int .u8 0)).toArray := by
  show (sec Sec.zero) = _
  unfold sec
  rw [zero_cells]
 rw [cellsOf_zero, h, made_const _ _ _ (by omega)]
def Small (n : Int) : Prop := 1 ≤ n ∧ n ≤ 65536
set_option maxRecDepth 100000 in
theorem may_yes (n : Int) (w : World) (h : Small n) : Calls Tryz.prog 44 #[.int .i64 n] w fun e w' => e = .returned (.bool true) ∧ w = w' := by
 obtain ⟨h1, h2⟩ := h
 go_enter Tryz.func44, Tryz.ntmps44
 go_wp2
 go_ret
 exact ⟨rfl, rfl⟩
def fresh (l : List Sec) : St := ⟨l, fun _ => [], -1, false, 0⟩
theorem fresh_ok {l : List Sec} (h1 : 0 < l.length) (h2 : l.length ≤ 65536) : (fresh l).Ok := ⟨h1, h2, fun _ _ => rfl, fun _ => Nat.zero_le _, by show (-9223372036854775808 : Int) ≤ -1; omega, by show (-1 : Int) ≤ 9223372036854775807; omega⟩
def NewDk (w w' : World) (e : Ending) (s : St) : Prop := ∃ p F, e = .returned p ∧ Dk w' F p s ∧ Gr w w' ∧ ∀ k, F k → w.heap.size ≤ k
theorem Loose.made {w : World} {most N : Nat} : Loose (w.alloc (.map #[] 0)) w.heap.size most N (fun _ => nilS) (fun _ => []) :=
 ⟨.map [], 0, World.ownsMap_made _ _ _ _, Nat.zero_le _, fun i _ => rfl, fun i _ => ⟨(fun h => by cases h), fun h => absurd rfl h⟩, fun k h => by cases h⟩
theorem lasting_at (w : World) (v : Value) (l : List Sec) (h : Row w v l) (h1 : 0 < l.length) (h2 : l.length ≤ 65536) :
  DkAt ((w.alloc (.map #[] 0)).alloc (.cells #[v, .map (some w.heap.size), .int .i64 (-1), .bool false, .int .i64 0] TD)) (fun k => v.ownBlock = some k ∨ w.heap.size ≤ k ∧ k < w.heap.size + 2) (w.heap.size + 1) v w.heap.size (fun _ => nilS) (fresh l) := by
 have e1 : (w.alloc (.map #[] 0)).heap.size = w.heap.size + 1 := by simp
 have hg : Gr w ((w.alloc (.map #[] 0)).alloc (.cells #[v, .map (some w.heap.size), .int .i64 (-1), .bool false, .int .i64 0] TD)) := ((Gr.refl w).alloc (Nat.le_refl _) _).alloc (by simp) _; refine ⟨fresh_ok h1 h2, ?_, h.gr hg, ?_, fun i => Row.empty _, (fun i j g h => by cases h), (fun i g h => by cases h), .inr ⟨by omega, by omega⟩, .inr ⟨by omega, by omega⟩, fun g hg => .inl hg, (fun i g h => by cases h), ?_⟩
 ·
  have := Blk.new (w.alloc (.map #[] 0)) TD #[v, .map (some w.heap.size), .int .i64 (-1), .bool false, .int .i64 0]
  rwa [e1] at this
 · exact Loose.made.stays (Below.heap_alloc (w.alloc (.map #[] 0)) _ w.heap.size (by rw [e1]; omega))
 ·
  rintro k (hk | ⟨_, hk⟩)
  ·
   have := h.lt k hk; have := hg.size
   simp; omega
  · simp; omega
set_option maxRecDepth 100000 in
theorem lasting_any (w : World) (v : Value) (l : List Sec) (h : Row w v l) (h1 : 0 < l.length) (h2 : l.length ≤ 65536) : Calls Tryz.prog 45 #[v] w fun e w' => ∃ p, e = .returned p ∧ Dk w' (fun k => v.ownBlock = some k ∨ w.heap.size ≤ k ∧ k < w.heap.size + 2) p (fresh l) ∧ Gr w w' := by
 have hg : Gr w ((w.alloc (.map #[] 0)).alloc (.cells #[v, .map (some w.heap.size), .int .i64 (-1), .bool false, .int .i64 0] TD)) := ((Gr.refl w).alloc (Nat.le_refl _) _).alloc (by simp) _; have HA := Lib.hid (lasting_at w v l h h1 h2); obtain ⟨g, c, rfl, _⟩ := h.full (fun e => by rw [e] at h1; simp at h1); obtain ⟨n, hn⟩ : ∃ n, n = l.length := ⟨_, rfl⟩
 rw [← hn] at HA hg ⊢
 have hmm := @run_makeMap Tryz.prog; clear h h1 h2 hn
 go_enter Tryz.func45, Tryz.ntmps45
 go_wp2
 go_ret
 exact ⟨_, rfl, ⟨_, _, _, _, rfl, HA.out⟩, hg⟩
def RetNew (w w' : World) (e : Ending) (s : St) : Prop := ∃ p F, e = .returned (.tuple #[p, .int .i64 0]) ∧ Dk w' F p s ∧ Gr w w' ∧ ∀ k, F k → w.heap.size ≤ k
set_option maxRecDepth 100000 in
theorem New_yes (n : Nat) (w : World) (h : Small n) : Calls Tryz.prog 10 #[.int .i64 (n : Int)] w fun e w' => RetNew w w' e (fresh (List.replicate n Sec.zero)) := by
 have HM := Lib.hid (may_yes n w h); obtain ⟨h1, h2⟩ := h; obtain ⟨i0, hi, hz0, hz1, hz2⟩ := info_parts info_sec; have HI := Lib.hid hi; have HZ0 := Lib.hid hz0; have HZ1 := Lib.hid hz1; have HZ2 := Lib.hid hz2; clear hi hz0 hz1 hz2
 go_enter Tryz.func10, Tryz.ntmps10
 go_wp2_with fail; refine HM.out.mono ?_; rintro e w' ⟨rfl, rfl⟩
 go_wp2_with (at_make; refine wpList_make_full _ rfl _ _ TL rfl 0 TS i0 (.agg (sec Sec.zero)) 256 Tryz.underlying44 HI.out HZ0.out HZ1.out _ _ _ _ n rfl rfl rfl rfl ?b1 ?b2 (Nat.zero_le _) ?_)
 case b1 => rw [HZ2.out]; omega
 case b2 => unfold maxLen; omega
 intro w1 hown hgrow
 have hz := made_zero n
 simp only [Value.cells] at hz
 rw [hz] at hown
 clear hz
 have hr : Row w1 (.slice (some ⟨w.heap.size, 0, none⟩) n n) (List.replicate n Sec.zero) := by
  unfold Row
  rw [List.length_replicate]; exact hown
 have HG : Hid (Gr w w1) := Lib.hid (Below.grown (Gr.refl w) hgrow (Nat.le_refl _) (fun k e => by cases e)); have HC := Lib.hid (lasting_any w1 _ _ hr (by rw [List.length_replicate]; omega) (by rw [List.length_replicate]; omega)); clear hown hgrow hr; go_wp2_with fail; refine HC.out.mono ?_; rintro e w2 ⟨p, rfl, hd, hg⟩; have HD := Lib.hid hd; have HG2 := Lib.hid (Gr.trans HG.out hg); have hs := HG.out.size; clear hd hg; go_wp2_with fail
 go_ret2
 refine ⟨_, _, rfl, HD.out, HG2.out, ?_⟩; rintro k (hk | ⟨hk, _⟩)
 · cases hk; exact Nat.le_refl _
 · omega
end Go.Proofs.YtlijbgapkmfnaaaGreat
