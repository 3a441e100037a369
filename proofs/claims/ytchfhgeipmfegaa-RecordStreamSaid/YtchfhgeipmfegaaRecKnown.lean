
/-
  The chapter's rows.
-/
import Derived.Test.YtchfhgeipmfegaaRecRedo
namespace Go.Proofs.Ytchfhgeipmfegaa
open Go.RowKit Cr

theorem num_any (n : Int) (w : World) : Calls Try.prog 23 #[.int .i64 n] w fun e w' => e = .returned (.int .i64 n) ∧ w = w' := by
  go_enter Try.func23, Try.ntmps23
  go_wp2
  go_ret
  exact ⟨rfl, rfl⟩

def rowC : Rc := ⟨3, 1, 0, 0, 0, 0, [], []⟩
def rowU : Rc := ⟨1, 1, 0, 0, 20, 3, [1], [2]⟩
theorem rowU_may : mayR rowU = true := by decide
theorem rowU_in : rowU.In := ⟨by decide, by decide, by decide, Wd.Small.of (by decide), Wd.Small.of (by decide)⟩
theorem rowC_size : sizeR rowC = 35 := by decide
theorem rowU_size : sizeR rowU = 37 := by decide
theorem rowU_len (a : Nat) : (recL rowU a).length = 37 := by rw [recL_len]; rfl
theorem rowU_of : ofR (recL rowU 5) 5 = rowU ∧ ofN (recL rowU 5) 5 = 37 ∧ ofE (recL rowU 5) 5 = 0 := by
  have h := ofR_rec rowU_may rowU_in 5 []
  have h2 := ofN_rec rowU_may rowU_in 5 []
  have h3 := ofB_rec rowU_may rowU_in 5 []
  rw [List.append_nil] at h h2 h3
  refine ⟨h, by rw [h2, rowU_len], by simp [ofE, h3]⟩
/-- The sums of two places are not one. -/
theorem recL_place {r : Rc} {a F : Nat} (hF : F < 4294967296) (h : recL r (a ^^^ F) = recL r a) : F = 0 := by
  unfold recL at h
  have h1 := List.append_inj_right h rfl
  have h2 := List.append_inj_left h1 (by rw [Wd.enc_length, Wd.enc_length])
  have h3 := congrArg Wd.dec h2
  have l1 := (sumL r (a ^^^ F)).isLt
  have l2 := (sumL r a).isLt
  rw [Wd.dec_enc, Wd.dec_enc, Nat.mod_eq_of_lt (by omega), Nat.mod_eq_of_lt (by omega)] at h3
  have h4 := BitVec.eq_of_toNat_eq h3
  unfold sumL sumW at h4
  have h5 := congrArg (~~~ ·) h4
  simp only [BitVec.not_not] at h5
  have h6 := (places ones (sizeL r ++ bodyL r) a F 0 hF (by omega)).1 (by rw [Nat.pow_zero, Nat.mul_one]; exact h5)
  exact h6
theorem rowU_apart : ofE (recL rowU 5) 6 = 4 := by
  have hc : cand (recL rowU 5) = rowU := by
    have h := cand_rec rowU_may rowU_in 5 []
    rwa [List.append_nil] at h
  have h : ofB (recL rowU 5) 6 = false := by
    unfold ofB
    rw [hc, Bool.and_eq_false_iff]
    right
    unfold preB
    apply decide_eq_false
    rw [rowU_len, List.take_of_length_le (by rw [rowU_len]; omega)]
    intro e
    have := recL_place (r := rowU) (a := 5) (F := 3) (by omega) e.symm
    omega
  simp [ofE, h]
theorem rowU_redo : redoB rowU = true ∧ redoL rowU (List.replicate 248 0) = lay (List.replicate 248 0) 3 [2] := ⟨by decide, by
  unfold redoL
  rw [show redoB rowU = true by decide]
  rfl⟩
/-- A page with 2 at 3. -/
def Sec.p2 : Sec := ⟨(List.replicate 248 (0 : UInt8)).set 3 2, by rw [List.length_set]; exact List.length_replicate ..⟩
theorem built_p2 : Try.prog.built TS [(3, .int .u8 2)] = some (sec Sec.p2) := by kernel_rfl
theorem set_p2 : (sec Sec.zero).setIfInBounds 3 (.int .u8 2) = sec Sec.p2 := by kernel_rfl
theorem lay_p2 : Sx (lay (List.replicate 248 0) 3 [2]) = Sec.p2 := by
  apply Sec.ext
  rw [Sx_bytes (lay_sec (ys := [2]) (F := 3) zeros_sec (Wd.Small.of (by decide)) (by decide)).len]
  decide +kernel

/-- What lies there all the while. -/
structure KnAt (w W : World) : Prop where
  gr : Gr w W
  c : Blk W w.heap.size TR #[.int .i64 3, .int .u64 1, .int .u64 0, .int .u64 0, .int .i64 0, .int .i64 0, .slice none 0 0, .slice none 0 0]
  b : Byt W (some ⟨w.heap.size + 1, 0, none⟩) 1 1 [1]
  a : Byt W (some ⟨w.heap.size + 1 + 1, 0, none⟩) 1 1 [2]
  u : Blk W (w.heap.size + 1 + 1 + 1) TR #[.int .i64 1, .int .u64 1, .int .u64 0, .int .u64 0, .int .i64 20, .int .i64 3, .slice (some ⟨w.heap.size + 1, 0, none⟩) 1 1, .slice (some ⟨w.heap.size + 1 + 1, 0, none⟩) 1 1]
theorem KnAt.up {w W W' : World} (h : KnAt w W) (g : Gr W W') : KnAt w W' := ⟨Gr.trans h.gr g, h.c.below g h.c.lt, h.b.kept g, h.a.kept g, h.u.below g h.u.lt⟩
theorem KnAt.new (w : World) (t : TypeId) : KnAt w ((((w.alloc (.cells #[.int .i64 3, .int .u64 1, .int .u64 0, .int .u64 0, .int .i64 0, .int .i64 0, .slice none 0 0, .slice none 0 0] TR)).alloc (.cells #[.int .u8 1] t)).alloc (.cells #[.int .u8 2] t)).alloc (.cells #[.int .i64 1, .int .u64 1, .int .u64 0, .int .u64 0, .int .i64 20, .int .i64 3, .slice (some ⟨w.heap.size + 1, 0, none⟩) 1 1, .slice (some ⟨w.heap.size + 1 + 1, 0, none⟩) 1 1] TR)) := by
  have h1 := Blk.new w TR #[.int .i64 3, .int .u64 1, .int .u64 0, .int .u64 0, .int .i64 0, .int .i64 0, .slice none 0 0, .slice none 0 0]
  have h2 := Byt.one (w.alloc (.cells #[.int .i64 3, .int .u64 1, .int .u64 0, .int .u64 0, .int .i64 0, .int .i64 0, .slice none 0 0, .slice none 0 0] TR)) 1 t (by omega)
  have h3 := Byt.one ((w.alloc (.cells #[.int .i64 3, .int .u64 1, .int .u64 0, .int .u64 0, .int .i64 0, .int .i64 0, .slice none 0 0, .slice none 0 0] TR)).alloc (.cells #[.int .u8 1] t)) 2 t (by omega)
  have h4 := Blk.new (((w.alloc (.cells #[.int .i64 3, .int .u64 1, .int .u64 0, .int .u64 0, .int .i64 0, .int .i64 0, .slice none 0 0, .slice none 0 0] TR)).alloc (.cells #[.int .u8 1] t)).alloc (.cells #[.int .u8 2] t)) TR #[.int .i64 1, .int .u64 1, .int .u64 0, .int .u64 0, .int .i64 20, .int .i64 3, .slice (some ⟨w.heap.size + 1, 0, none⟩) 1 1, .slice (some ⟨w.heap.size + 1 + 1, 0, none⟩) 1 1]
  simp only [World.size_alloc] at h2 h3 h4
  have g1 := (Gr.refl w).alloc (Nat.le_refl _) (.cells #[.int .i64 3, .int .u64 1, .int .u64 0, .int .u64 0, .int .i64 0, .int .i64 0, .slice none 0 0, .slice none 0 0] TR)
  have g2 := g1.alloc g1.size (.cells #[.int .u8 1] t)
  have g3 := g2.alloc g2.size (.cells #[.int .u8 2] t)
  exact ⟨g3.alloc g3.size _, ((h1.alloc _).alloc _).alloc _, (h2.kept ((Gr.refl _).alloc (Nat.le_refl _) _)).kept ((Gr.refl _).alloc (Nat.le_refl _) _), h3.kept ((Gr.refl _).alloc (Nat.le_refl _) _), h4⟩
theorem gr_new (w : World) (o : Obj) : Gr w (w.alloc o) := (Gr.refl w).alloc (Nat.le_refl _) o

set_option maxRecDepth 100000 in
set_option maxHeartbeats 4000000 in
theorem known_any (w : World) : Calls Try.prog 19 #[] w (RetB true w) := by
  have H0 := Lib.hid (KnAt.new w 5)
  have HBY : Hid (∀ W, KnAt w W → Calls Try.prog 27 #[.agg #[.int .i64 1, .int .u64 1, .int .u64 0, .int .u64 0, .int .i64 20, .int .i64 3, .slice (some ⟨w.heap.size + 1, 0, none⟩) 1 1, .slice (some ⟨w.heap.size + 1 + 1, 0, none⟩) 1 1], .int .u64 5] W (RetBytes 0 (recL rowU 5) W)) := Lib.hid fun W h => bytes_may rowU _ 1 1 _ 1 1 5 W rowU_may rowU_in h.b h.a (by omega)
  have HO5 : Hid (∀ p n c W, Byt W p n c (recL rowU 5) → Calls Try.prog 20 #[.slice p n c, .int .u64 5] W (fun e w' => ∃ pb nb cb pa na ca, e = .returned (.tuple #[.agg #[.int .i64 1, .int .u64 1, .int .u64 0, .int .u64 0, .int .i64 20, .int .i64 3, .slice pb nb cb, .slice pa na ca], .int .i64 37, .int .i64 0]) ∧ Byt w' pb nb cb [1] ∧ Byt w' pa na ca [2] ∧ Gr W w' ∧ ∀ y, pa = some y → W.heap.size ≤ y.block)) := Lib.hid fun p n c W h => by
    have h1 := of_any p n c _ 5 W h (by omega)
    rw [rowU_of.1, rowU_of.2.1, rowU_of.2.2] at h1
    exact h1
  have HO6 : Hid (∀ p n c W, Byt W p n c (recL rowU 5) → Calls Try.prog 20 #[.slice p n c, .int .u64 6] W (RetOf (ofR (recL rowU 5) 6) (ofN (recL rowU 5) 6) (.int .i64 4) W)) := Lib.hid fun p n c W h => by
    have h1 := of_any p n c _ 6 W h (by omega)
    rw [rowU_apart] at h1
    exact h1
  have HRE : Hid (∀ W, KnAt w W → Calls Try.prog 49 #[.agg #[.int .i64 1, .int .u64 1, .int .u64 0, .int .u64 0, .int .i64 20, .int .i64 3, .slice (some ⟨w.heap.size + 1, 0, none⟩) 1 1, .slice (some ⟨w.heap.size + 1 + 1, 0, none⟩) 1 1], .agg (sec (Sx (List.replicate 248 0)))] W (RetRedo (lay (List.replicate 248 0) 3 [2]) true W)) := Lib.hid fun W h => by
    have h1 := redo_any rowU _ 1 1 _ 1 1 (List.replicate 248 0) W h.b h.a zeros_sec rowU_in
    rw [rowU_redo.1, rowU_redo.2] at h1
    exact h1
  have HS35 : Hid (∀ W, Calls Try.prog 50 #[.agg #[.int .i64 3, .int .u64 1, .int .u64 0, .int .u64 0, .int .i64 0, .int .i64 0, .slice none 0 0, .slice none 0 0]] W (RetI 35 W)) := Lib.hid fun W => by
    have h1 := size_any rowC none 0 0 none 0 0 W (Byt.nil W) (Byt.nil W)
    rw [rowC_size] at h1
    exact h1
  have HS37 : Hid (∀ W, KnAt w W → Calls Try.prog 50 #[.agg #[.int .i64 1, .int .u64 1, .int .u64 0, .int .u64 0, .int .i64 20, .int .i64 3, .slice (some ⟨w.heap.size + 1, 0, none⟩) 1 1, .slice (some ⟨w.heap.size + 1 + 1, 0, none⟩) 1 1]] W (RetI 37 W)) := Lib.hid fun W h => by
    have h1 := size_any rowU _ 1 1 _ 1 1 W h.b h.a
    rw [rowU_size] at h1
    exact h1
  have HSM : Hid (∀ W pb nb cb pa na ca, KnAt w W → Byt W pb nb cb [1] → Byt W pa na ca [2] → Calls Try.prog 22 #[.agg #[.int .i64 1, .int .u64 1, .int .u64 0, .int .u64 0, .int .i64 20, .int .i64 3, .slice pb nb cb, .slice pa na ca], .agg #[.int .i64 1, .int .u64 1, .int .u64 0, .int .u64 0, .int .i64 20, .int .i64 3, .slice (some ⟨w.heap.size + 1, 0, none⟩) 1 1, .slice (some ⟨w.heap.size + 1 + 1, 0, none⟩) 1 1]] W (RetB true W)) := Lib.hid fun W pb nb cb pa na ca h h1 h2 => by
    have h3 := refSameRec_any rowU rowU pb nb cb pa na ca _ 1 1 _ 1 1 W h1 h2 h.b h.a
    rw [sameR_self] at h3
    exact h3
  have HP2 := Lib.hid lay_p2
  have HRL := Lib.hid (rowU_len 5)
  obtain ⟨R5, hR5⟩ : ∃ R5, R5 = recL rowU 5 := ⟨_, rfl⟩
  rw [← hR5] at HBY HO5 HO6 HRL
  obtain ⟨Z, hZ⟩ : ∃ Z, Z = List.replicate 248 (0 : Int) := ⟨_, rfl⟩
  have HZ := Lib.hid hZ
  rw [← hZ] at HRE HP2
  clear hR5 hZ
  go_enter Try.func19, Try.ntmps19
  go_wp2_with fail
  refine (HBY.out _ H0.out).mono ?_
  rintro e w1 ⟨q, n, c, rfl, hy, g1, _⟩
  have hl := hy.len
  rw [HRL.out] at hl
  subst hl
  have H1 := Lib.hid (H0.out.up g1)
  have HY1 := Lib.hid hy
  clear hy g1 H0 HBY
  go_wp2_with fail
  refine (HO5.out _ _ _ _ HY1.out).mono ?_
  rintro e w2 ⟨pb, nb, cb, pa, na, ca, rfl, y1, y2, g2, _⟩
  have H2 := Lib.hid (H1.out.up (Gr.trans g2 (gr_new w2 (.cells #[.int .i64 1, .int .u64 1, .int .u64 0, .int .u64 0, .int .i64 20, .int .i64 3, .slice pb nb cb, .slice pa na ca] TR))))
  have HY2 := Lib.hid (HY1.out.kept (Gr.trans g2 (gr_new w2 (.cells #[.int .i64 1, .int .u64 1, .int .u64 0, .int .u64 0, .int .i64 20, .int .i64 3, .slice pb nb cb, .slice pa na ca] TR))))
  have HU1 := Lib.hid (y1.kept (gr_new w2 (.cells #[.int .i64 1, .int .u64 1, .int .u64 0, .int .u64 0, .int .i64 20, .int .i64 3, .slice pb nb cb, .slice pa na ca] TR)))
  have HU2 := Lib.hid (y2.kept (gr_new w2 (.cells #[.int .i64 1, .int .u64 1, .int .u64 0, .int .u64 0, .int .i64 20, .int .i64 3, .slice pb nb cb, .slice pa na ca] TR)))
  have HB2 := Lib.hid (Blk.new w2 TR #[.int .i64 1, .int .u64 1, .int .u64 0, .int .u64 0, .int .i64 20, .int .i64 3, .slice pb nb cb, .slice pa na ca])
  clear y1 y2 g2 H1 HY1 HO5
  go_wp2_with fail
  refine (HO6.out _ _ _ _ HY2.out).mono ?_
  rintro e w3 ⟨pc, nc, cc, pd, nd, cd, rfl, _, _, g3, _⟩
  have H3 := Lib.hid (H2.out.up g3)
  have HU1 := Lib.hid (HU1.out.kept g3)
  have HU2 := Lib.hid (HU2.out.kept g3)
  have HB3 := Lib.hid (HB2.out.below g3 HB2.out.lt)
  clear g3 H2 HY2 HB2 HO6
  obtain ⟨R6, hR6⟩ : ∃ R6, R6 = ofR R5 6 := ⟨_, rfl⟩
  obtain ⟨N6, hN6⟩ : ∃ N6, N6 = ofN R5 6 := ⟨_, rfl⟩
  rw [← hR6, ← hN6]
  clear hR6 hN6
  have H4 := Lib.hid (H3.out.up (gr_new w3 (.cells #[.int .i64 R6.k, .int .u64 R6.t, .int .u64 R6.p, .int .u64 R6.x, .int .i64 R6.g, .int .i64 R6.o, .slice pc nc cc, .slice pd nd cd] TR)))
  have HU3 := Lib.hid (HU1.out.kept (gr_new w3 (.cells #[.int .i64 R6.k, .int .u64 R6.t, .int .u64 R6.p, .int .u64 R6.x, .int .i64 R6.g, .int .i64 R6.o, .slice pc nc cc, .slice pd nd cd] TR)))
  have HU4 := Lib.hid (HU2.out.kept (gr_new w3 (.cells #[.int .i64 R6.k, .int .u64 R6.t, .int .u64 R6.p, .int .u64 R6.x, .int .i64 R6.g, .int .i64 R6.o, .slice pc nc cc, .slice pd nd cd] TR)))
  have HB4 := Lib.hid (HB3.out.alloc (.cells #[.int .i64 R6.k, .int .u64 R6.t, .int .u64 R6.p, .int .u64 R6.x, .int .i64 R6.g, .int .i64 R6.o, .slice pc nc cc, .slice pd nd cd] TR))
  clear H3 HU1 HU2 HB3
  obtain ⟨c0, c1, c2, c3, c4, c5, c6, c7⟩ := H4.out.u.c8
  go_wp2_with (refine wpList_build_x rfl rfl ?_; rw [← HZ.out])
  refine (HRE.out _ H4.out).mono ?_
  rintro e w5 ⟨rfl, g5⟩
  have H5 := Lib.hid ((H4.out.up g5).up (gr_new w5 (.cells (sec (Sx (lay Z 3 [2]))) TS)))
  have HU5 := Lib.hid ((HU3.out.kept g5).kept (gr_new w5 (.cells (sec (Sx (lay Z 3 [2]))) TS)))
  have HU6 := Lib.hid ((HU4.out.kept g5).kept (gr_new w5 (.cells (sec (Sx (lay Z 3 [2]))) TS)))
  have HB5 := Lib.hid ((HB4.out.below g5 HB4.out.lt).alloc (.cells (sec (Sx (lay Z 3 [2]))) TS))
  have HP5 := Lib.hid (Blk.new w5 TS (sec (Sx (lay Z 3 [2]))))
  clear g5 H4 HU3 HU4 HB4 HRE c0 c1 c2 c3 c4 c5 c6 c7
  have hz := zero_sec
  have HZ5 := Lib.hid (Blk.new w5 TS (sec Sec.zero))
  go_upto_region 7 with (refine wpList_store_x rfl _ _ rfl HZ5.out rfl rfl ?_; rw [World.setRow_alloc_new])
  clear HZ5 hz
  have HX5 := HU5
  have HY5 := HU6
  clear HU5 HU6
  have hb2 := built_p2
  have hq := eqi_sec
  obtain ⟨c0, c1, c2, c3, c4, c5, c6, c7⟩ := H5.out.c.c8
  go_wp2_with fail
  refine (HS35.out _).mono ?_
  rintro e w6 ⟨rfl, g6⟩
  clear c0 c1 c2 c3 c4 c5 c6 c7
  have H6 := Lib.hid (H5.out.up g6)
  have HX6 := Lib.hid (HX5.out.kept g6)
  have HY6 := Lib.hid (HY5.out.kept g6)
  have HB6 := Lib.hid (HB5.out.below g6 HB5.out.lt)
  have HP6 := Lib.hid (HP5.out.below g6 HP5.out.lt)
  clear g6 H5 HX5 HY5 HB5 HP5
  obtain ⟨c0, c1, c2, c3, c4, c5, c6, c7⟩ := H6.out.u.c8
  go_wp2_with fail
  refine (HS37.out _ H6.out).mono ?_
  rintro e w7 ⟨rfl, g7⟩
  clear c0 c1 c2 c3 c4 c5 c6 c7
  have H7 := Lib.hid (H6.out.up g7)
  have HX7 := Lib.hid (HX6.out.kept g7)
  have HY7 := Lib.hid (HY6.out.kept g7)
  have HB7 := Lib.hid (HB6.out.below g7 HB6.out.lt)
  have HP7 := Lib.hid (HP6.out.below g7 HP6.out.lt)
  clear g7 H6 HX6 HY6 HB6 HP6
  obtain ⟨c0, c1, c2, c3, c4, c5, c6, c7⟩ := H7.out.u.c8
  obtain ⟨d0, d1, d2, d3, d4, d5, d6, d7⟩ := HB7.out.c8
  go_wp2_with (refine (num_any _ _).mono ?_; rintro e w' ⟨rfl, rfl⟩)
  refine (HSM.out _ _ _ _ _ _ _ H7.out HX7.out HY7.out).mono ?_
  rintro e w8 ⟨rfl, g8⟩
  clear c0 c1 c2 c3 c4 c5 c6 c7 d0 d1 d2 d3 d4 d5 d6 d7
  have H8 := Lib.hid (H7.out.up g8)
  have HX8 := Lib.hid (HX7.out.kept g8)
  have HY8 := Lib.hid (HY7.out.kept g8)
  have HB8 := Lib.hid (HB7.out.below g8 HB7.out.lt)
  have HP8 := Lib.hid (HP7.out.below g8 HP7.out.lt)
  clear g8 H7 HX7 HY7 HB7 HP7
  go_wp2_with (first | (refine (num_any _ _).mono ?_; rintro e w' ⟨rfl, rfl⟩) | (refine wpList_load_x rfl _ rfl HP8.out rfl ?_) | (refine wp_load_x (.tmp 11) rfl HP8.out rfl ?_))
  have hp := HP8.out
  rw [HP2.out] at hp
  have hz := zero_sec
  have hset := set_p2
  have hs4 : ¬ (sec Sec.zero).size < 4 := by rw [sec_size]; omega
  refine wp_load_x (.tmp 11) rfl hp rfl ?_
  go_wp2_with fail
  go_ret
  exact ⟨rfl, H8.out.gr⟩

end Go.Proofs.Ytchfhgeipmfegaa
