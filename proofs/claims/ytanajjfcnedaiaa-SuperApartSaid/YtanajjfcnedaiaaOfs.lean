
/-
  Which layout, which master a sector is: the program's answers.
-/
import Derived.Test.YtanajjfcnedaiaaRefBytes
namespace Go.Proofs.Ytanajjfcnedaiaa
open Go.RowKit Cr

/-- The number at a place of a sector. -/
theorem at_lt {xs : List Int} (h : Wd.Small xs) (f : Int) (k : Nat) (hk : k ≤ 8) : atR xs f k < 256 ^ k := by
  unfold atR
  split
  · have h1 := Wd.dec_lt _ ((h.drop f.toNat).take k)
    have h2 : ((xs.drop f.toNat).take k).length ≤ k := by simp; omega
    refine Nat.lt_of_lt_of_le (show Wd.dec (sub xs f k) < 256 ^ ((xs.drop f.toNat).take k).length from ?_) (Nat.pow_le_pow_right (by omega) h2)
    simpa [sub] using h1
  · exact Nat.pos_of_ne_zero (by simp)

def lyN (xs : List Int) : Nat := atR xs 8 (4 : Nat)
/-- The sector is a layout's. -/
def lyOk (xs : List Int) : Bool := okN (lyN xs) && decide (xs = lyB (lyN xs) (logOf (lyN xs)) (grpOf (lyN xs)))
def maE (xs : List Int) : Nat := atR xs 8 (8 : Nat)
def maS (xs : List Int) : Nat := atR xs 16 (8 : Nat)
def maT (xs : List Int) : Nat := atR xs 24 (8 : Nat)
/-- The sector is a master's. -/
def maOk (xs : List Int) : Bool := decide (xs = maB (maE xs) (maS xs) (maT xs))
def onlyN (b : Bool) (a : Nat) : Nat := if b then a else 0
def errB (b : Bool) : Int := if b then 0 else 4

def RetOf (ok : Bool) (n l g : Int) (er : Value) (w : World) (e : Ending) (w' : World) : Prop := e = .returned (.tuple #[.agg #[.int .i64 (only ok n), .int .i64 (only ok l), .int .i64 (only ok g)], er]) ∧ Gr w w'
def RetMa (ok : Bool) (n l g : Nat) (er : Value) (w : World) (e : Ending) (w' : World) : Prop := e = .returned (.tuple #[.agg #[.int .u64 (onlyN ok n), .int .u64 (onlyN ok l), .int .u64 (onlyN ok g)], er]) ∧ Gr w w'

theorem mayL_mk (N : Int) : mayL (mkN N) (mkL N) (mkG N) = okN N := by
  cases h : okN N
  · simp only [mkN, mkL, mkG, h, Bool.false_eq_true, if_false]
    decide
  · simp only [mkN, mkL, mkG, h, if_true, mayL]
    simp

set_option maxRecDepth 100000 in
set_option maxHeartbeats 2000000 in
theorem of_any (xs : List Int) (w : World) (hx : IsSec xs) : Calls Try.prog 31 #[.agg (sec (Sx xs))] w (RetOf (lyOk xs) (lyN xs) (logOf (lyN xs)) (grpOf (lyN xs)) (.int .i64 (errB (lyOk xs))) w) := by
  have hN : lyN xs < 256 ^ 4 := at_lt hx.small 8 4 (by omega)
  have hw0 := fun W => word_of W hx 0 4 (by omega) (by omega) (by omega) (by omega)
  rw [show atR xs (8 + 0 * 4) 4 = lyN xs from rfl] at hw0
  have HW0 := Lib.hid hw0
  have HMK := Lib.hid (make_any (lyN xs))
  have HBY := Lib.hid (bytes_any (mkN (lyN xs)) (mkL (lyN xs)) (mkG (lyN xs)))
  rw [mayL_mk] at HBY
  have HYS := bytesR_sec (mkN (lyN xs)) (mkL (lyN xs)) (mkG (lyN xs))
  have HOK : Hid (okN (lyN xs) = true → (mkN (lyN xs) = lyN xs ∧ mkL (lyN xs) = logOf (lyN xs) ∧ mkG (lyN xs) = grpOf (lyN xs)) ∧ lyOk xs = decide (Sx xs = Sx (bytesR (mkN (lyN xs)) (mkL (lyN xs)) (mkG (lyN xs))))) := Lib.hid fun h => by
    have e1 : mkN (lyN xs) = lyN xs ∧ mkL (lyN xs) = logOf (lyN xs) ∧ mkG (lyN xs) = grpOf (lyN xs) := by simp [mkN, mkL, mkG, h]
    refine ⟨e1, ?_⟩
    have e2 := mayL_mk (lyN xs)
    unfold lyOk
    rw [h, Bool.true_and, decide_eq_decide, Sx_inj hx HYS]
    unfold bytesR
    rw [e2, h, if_pos rfl, e1.1, e1.2.1, e1.2.2]
  have HNO : Hid (okN (lyN xs) = false → lyOk xs = false) := Lib.hid fun h => by unfold lyOk; rw [h]; rfl
  obtain ⟨N, hNN⟩ : ∃ N, N = lyN xs := ⟨_, rfl⟩
  obtain ⟨m0, e0⟩ : ∃ m, m = mkN (lyN xs) := ⟨_, rfl⟩
  obtain ⟨m1, e1⟩ : ∃ m, m = mkL (lyN xs) := ⟨_, rfl⟩
  obtain ⟨m2, e2⟩ : ∃ m, m = mkG (lyN xs) := ⟨_, rfl⟩
  obtain ⟨me, e3⟩ : ∃ m, m = mkE (lyN xs) := ⟨_, rfl⟩
  rw [← e0, ← e1, ← e2] at HBY HYS HOK
  rw [← e0, ← e1, ← e2, ← e3] at HMK
  obtain ⟨ys, e4⟩ : ∃ ys, ys = bytesR m0 m1 m2 := ⟨_, rfl⟩
  rw [← e4] at HBY HYS HOK
  obtain ⟨K, e5⟩ : ∃ K, K = lyOk xs := ⟨_, rfl⟩
  obtain ⟨O, e6⟩ : ∃ O, O = okN (lyN xs) := ⟨_, rfl⟩
  rw [← e6] at HBY HOK HNO
  rw [← hNN] at hN HW0 HMK HOK ⊢
  rw [← e5] at HOK HNO ⊢
  have HX := Lib.hid hx
  have HYS := Lib.hid HYS
  have hz := zero_sec
  rw [← Sx_zero] at hz
  obtain ⟨Z, hZ⟩ : ∃ Z, Z = List.replicate 256 (0 : Int) := ⟨_, rfl⟩
  rw [← hZ] at hz
  have hN2 : N < 4294967296 := hN
  have HB0 := Lib.hid ((Blk.new w TS (sec (Sx xs))).alloc (.cells #[.int .i64 0, .int .i64 0, .int .i64 0] TY))
  have hr0 := Blk.new (w.alloc (.cells (sec (Sx xs)) TS)) TY #[.int .i64 0, .int .i64 0, .int .i64 0]
  simp only [World.size_alloc] at hr0
  have HR0 := Lib.hid hr0
  have HG0 := Lib.hid (((Gr.refl w).alloc (Nat.le_refl _) (.cells (sec (Sx xs)) TS)).alloc (by simp) (.cells #[.int .i64 0, .int .i64 0, .int .i64 0] TY))
  clear hw0 hN hNN e0 e1 e2 e3 e4 e5 e6 hx hr0 hZ
  go_enter Try.func31, Try.ntmps31
  go_wp2_with (first | (refine wpList_load_x rfl _ rfl HB0.out rfl ?_))
  refine (HW0.out _).mono ?_
  rintro e w1 ⟨rfl, g1⟩
  have HB1 := Lib.hid (HB0.out.below g1 HB0.out.lt)
  have HR1 := Lib.hid (HR0.out.below g1 HR0.out.lt)
  have HG1 : Hid (Gr w w1) := Lib.hid (Below.trans HG0.out (g1.mono HG0.out.size))
  clear g1 HB0 HR0 HG0 HW0
  go_wp2_with fail
  refine (HMK.out _).mono ?_
  rintro e w2 ⟨rfl, g2⟩
  have HB2 := Lib.hid ((HB1.out.below g2 HB1.out.lt).alloc (.cells #[.int .i64 m0, .int .i64 m1, .int .i64 m2] TY))
  have HR2 := Lib.hid ((HR1.out.below g2 HR1.out.lt).alloc (.cells #[.int .i64 m0, .int .i64 m1, .int .i64 m2] TY))
  have HS2 := Lib.hid (Blk.new w2 TY #[.int .i64 m0, .int .i64 m1, .int .i64 m2])
  have HG2 : Hid (Gr w (w2.alloc (.cells #[.int .i64 m0, .int .i64 m1, .int .i64 m2] TY))) := Lib.hid (by have h := Gr.trans HG1.out g2; exact h.alloc h.size _)
  have HN5 : Hid (w.heap.size + 1 < w2.heap.size) := Lib.hid (by have := HR1.out.lt; have := g2.size; omega)
  clear g2 HB1 HR1 HG1 HMK
  go_wp2_with fail
  refine (HBY.out _).mono ?_
  rintro e w3 ⟨rfl, g3⟩
  have HB3 := Lib.hid ((HB2.out.below g3 HB2.out.lt).alloc (.cells (sec (Sx Z)) TS))
  have HR3 := Lib.hid ((HR2.out.below g3 HR2.out.lt).alloc (.cells (sec (Sx Z)) TS))
  have HS3 := Lib.hid ((HS2.out.below g3 HS2.out.lt).alloc (.cells (sec (Sx Z)) TS))
  have HY3 := Lib.hid (Blk.new w3 TS (sec (Sx Z)))
  have HG3 : Hid (Gr w (w3.alloc (.cells (sec (Sx Z)) TS))) := Lib.hid (by have h := Gr.trans HG2.out g3; exact h.alloc h.size _)
  have n1 : Hid (w.heap.size ≠ w3.heap.size) := Lib.hid (by have h1 := HB2.out.lt; have h2 := g3.size; simp only [World.size_alloc] at h1 h2; omega)
  have n2 : Hid (w.heap.size + 1 ≠ w3.heap.size) := Lib.hid (by have h1 := HR2.out.lt; have h2 := g3.size; simp only [World.size_alloc] at h1 h2; omega)
  have n3 : Hid (w2.heap.size ≠ w3.heap.size) := Lib.hid (by have h1 := HS2.out.lt; have h2 := g3.size; simp only [World.size_alloc] at h1 h2; omega)
  have n4 : Hid (w.heap.size ≤ w3.heap.size) := Lib.hid (by have h1 := HG2.out.size; have h2 := g3.size; simp only [World.size_alloc] at h1 h2; omega)
  clear g3 HB2 HR2 HS2 HG2 HBY
  have HB4 := Lib.hid (HB3.out.other (cs' := sec (Sx ys)) n1.out)
  have HR4 := Lib.hid (HR3.out.other (cs' := sec (Sx ys)) n2.out)
  have HS4 := Lib.hid (HS3.out.other (cs' := sec (Sx ys)) n3.out)
  have HY4 := Lib.hid (HY3.out.row (sec (Sx ys)))
  have HG4 := Lib.hid (below_setRow HG3.out n4.out (sec (Sx ys)))
  obtain ⟨W, hW⟩ : ∃ W, W = (w3.alloc (.cells (sec (Sx Z)) TS)).setRow w3.heap.size (sec (Sx ys)) := ⟨_, rfl⟩
  rw [← hW] at HB4 HR4 HS4 HY4 HG4
  have HW := Lib.hid hW
  clear hW HB3 HR3 HS3 HG3 n1 n2 n3 n4
  obtain ⟨⟨c0, c1, c2⟩, f0, f1, f2⟩ := HR4.out.c3
  obtain ⟨⟨d0, d1, d2⟩, q0, q1, q2⟩ := HS4.out.c3
  cases O
  · have e6 := HNO.out (by first | rfl | trivial)
    subst e6
    have e7 : err false = 2 := rfl
    rw [e7]
    clear e7 HNO HOK
    go_wp2_with (first | (refine wpList_store_x rfl _ _ rfl HY3.out rfl rfl ?_; rw [← HW.out]) | (refine wpList_load_x rfl _ rfl HB4.out rfl ?_) | (refine wpList_load_x rfl _ rfl HY4.out rfl ?_))
    exact bodyPost_ret (results_ly rfl _ _ (w.heap.size + 1) #[.int .i64 0, .int .i64 0, .int .i64 0] _ rfl rfl rfl (((HR4.out.set 0 _).set 1 _).set 2 _)) rfl ⟨rfl, below_set3 HG4.out (by omega)⟩
  · obtain ⟨⟨e6, e7, e8⟩, hK⟩ := HOK.out (by first | rfl | trivial)
    subst e6 e7 e8
    have e7 : err true = 0 := rfl
    rw [e7]
    clear e7 HNO HOK HX HYS
    have hq := eqi_sec
    obtain ⟨S, hS⟩ : ∃ S, S = Sx xs := ⟨_, rfl⟩
    obtain ⟨T, hT⟩ : ∃ T, T = Sx ys := ⟨_, rfl⟩
    rw [← hS, ← hT] at hK
    rw [← hS] at HB4
    rw [← hT] at HY4 HW
    rw [← hS, ← hT]
    clear hS hT
    by_cases hs : S = T
    · have hd : decide (S = T) = true := decide_eq_true hs
      rw [hd] at hK
      subst hK
      have HSS := Lib.hid hs
      clear hs
      go_wp2_with (first | (refine wpList_store_x rfl _ _ rfl HY3.out rfl rfl ?_; rw [← HW.out]))
      refine wp_load_x _ rfl HB4.out rfl ?_
      go_wp2_with fail
      refine wp_load_x _ rfl HY4.out rfl ?_
      go_wp2_with fail
      exact bodyPost_ret (results_ly rfl _ _ (w.heap.size + 1) #[.int .i64 N, .int .i64 (logOf N), .int .i64 (grpOf N)] _ rfl rfl rfl (((HR4.out.set 0 _).set 1 _).set 2 _)) rfl ⟨rfl, below_set3 HG4.out (by omega)⟩
    · have hd : decide (S = T) = false := decide_eq_false hs
      rw [hd] at hK
      subst hK
      have HSS := Lib.hid hs
      clear hs
      go_wp2_with (first | (refine wpList_store_x rfl _ _ rfl HY3.out rfl rfl ?_; rw [← HW.out]))
      refine wp_load_x _ rfl HB4.out rfl ?_
      go_wp2_with fail
      refine wp_load_x _ rfl HY4.out rfl ?_
      go_wp2_with fail
      exact bodyPost_ret (results_ly rfl _ _ (w.heap.size + 1) #[.int .i64 0, .int .i64 0, .int .i64 0] _ rfl rfl rfl (((HR4.out.set 0 _).set 1 _).set 2 _)) rfl ⟨rfl, below_set3 HG4.out (by omega)⟩

end Go.Proofs.Ytanajjfcnedaiaa
