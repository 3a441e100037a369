
/-
  A layout's sector, and a master's: the program's.
-/
import Derived.Test.YtanajjfcnedaiaaRefSeal
import Derived.Test.YtanajjfcnedaiaaOuter
namespace Go.Proofs.Ytanajjfcnedaiaa
open Go.RowKit Cr

def nameS : List Int := [104, 111, 114, 110, 98, 111, 111, 107]
def nameM : List Int := [109, 97, 115, 116, 101, 114, 0, 0]
theorem nameS_of : ((⟨#[104, 111, 114, 110, 98, 111, 111, 107]⟩ : ByteArray).data.map fun x => Value.int .u8 x.toNat).toList = nameS.map (Value.int .u8) := by simp [nameS]
theorem nameM_of : ((⟨#[109, 97, 115, 116, 101, 114, 0, 0]⟩ : ByteArray).data.map fun x => Value.int .u8 x.toNat).toList = nameM.map (Value.int .u8) := by simp [nameM]
theorem nameS_small : Wd.Small nameS := Wd.Small.of (by decide)
theorem nameM_small : Wd.Small nameM := Wd.Small.of (by decide)
/-- A layout's sector; a master's. -/
def lyB (n l g : Int) : List Int := sealL (upTo nameS 4 [n.toNat, l.toNat, g.toNat] 3)
def maB (e s t : Nat) : List Int := sealL (upTo nameM 8 [e, s, t] 3)
theorem lyB_sec (n l g : Int) : IsSec (lyB n l g) := sealL_sec (upTo_small nameS_small (by simp)) (by rw [upTo_len (by simp)]; decide)
theorem maB_sec (e s t : Nat) : IsSec (maB e s t) := sealL_sec (upTo_small nameM_small (by simp)) (by rw [upTo_len (by simp)]; decide)
def zero256 : List Int := List.replicate 256 0

/-- Answers: a sector, and an error's number. -/
def RetSecE (xs : List Int) (er : Int) (w : World) (e : Ending) (w' : World) : Prop := e = .returned (.tuple #[.agg (sec (Sx xs)), .int .i64 er]) ∧ Gr w w'

theorem fits4 {n : Nat} (h : n ≤ 5000) : fitsB n (4 : Nat) = true := by
  simp only [fitsB, Bool.and_eq_true, mayB_iff, decide_eq_true_eq]
  exact ⟨by omega, by show n < 256 ^ 4; omega⟩
theorem fits8 {n : Nat} (h : n ≤ 18446744073709551615) : fitsB n (8 : Nat) = true := by
  simp only [fitsB, Bool.and_eq_true, mayB_iff, decide_eq_true_eq]
  exact ⟨by omega, by show n < 256 ^ 8; omega⟩

set_option maxRecDepth 100000 in
set_option maxHeartbeats 1000000 in
theorem bytes_no (n l g : Int) (w : World) (hm : mayL n l g = false) : Calls Try.prog 24 #[.agg #[.int .i64 n, .int .i64 l, .int .i64 g]] w (RetSecE zero256 2 w) := by
  have HM := Lib.hid (mayS_any n l g)
  rw [hm] at HM
  have hz := zero_sec
  rw [← Sx_zero] at hz
  have hB := ((Blk.new w TY #[.int .i64 n, .int .i64 l, .int .i64 g]).alloc (.cells (sec (Sx (List.replicate 256 0))) TS))
  have hR := (Blk.new (w.alloc (.cells #[.int .i64 n, .int .i64 l, .int .i64 g] TY)) TS (sec (Sx (List.replicate 256 0))))
  simp only [World.size_alloc] at hR
  have HB := Lib.hid hB
  have HR := Lib.hid hR
  have HG := Lib.hid (((Gr.refl w).alloc (Nat.le_refl _) (.cells #[.int .i64 n, .int .i64 l, .int .i64 g] TY)).alloc (by simp) (.cells (sec (Sx (List.replicate 256 0))) TS))
  obtain ⟨Z, hZ⟩ : ∃ Z, Z = List.replicate 256 (0 : Int) := ⟨_, rfl⟩
  have HZ := Lib.hid hZ
  rw [← hZ] at HB HR HG hz
  clear hm hB hR hZ
  go_enter Try.func24, Try.ntmps24
  go_wp2_with fail
  refine (HM.out _).mono ?_
  rintro e w1 ⟨rfl, g1⟩
  have HR1 := Lib.hid (HR.out.below g1 HR.out.lt)
  have HG1 : Hid (Gr w w1) := Lib.hid (Below.trans HG.out (g1.mono HG.out.size))
  clear g1 hz
  go_wp2_with (first | (refine wpList_build_x rfl rfl ?_; rw [← HZ.out]) | (refine wpList_store_x rfl _ _ rfl HR1.out rfl rfl ?_))
  exact bodyPost_ret (results_x2 rfl _ _ _ _ rfl (HR1.out.row _)) rfl ⟨by rw [HZ.out]; rfl, below_setRow HG1.out (by omega) _⟩

set_option maxRecDepth 100000 in
set_option maxHeartbeats 1000000 in
theorem bytes_yes (n l g : Nat) (w : World) (hm : mayL n l g = true) : Calls Try.prog 24 #[.agg #[.int .i64 n, .int .i64 l, .int .i64 g]] w (RetSecE (lyB n l g) 0 w) := by
  obtain ⟨i0, i1, i2, i3, i4, i5, _, _⟩ := may_in hm
  have HM := Lib.hid (mayS_any n l g)
  rw [hm] at HM
  have hz := zero_sec
  rw [← Sx_zero] at hz
  have hB := ((Blk.new w TY #[.int .i64 n, .int .i64 l, .int .i64 g]).alloc (.cells (sec (Sx (List.replicate 256 0))) TS))
  have hR := (Blk.new (w.alloc (.cells #[.int .i64 n, .int .i64 l, .int .i64 g] TY)) TS (sec (Sx (List.replicate 256 0))))
  simp only [World.size_alloc] at hR
  have HB := Lib.hid hB
  have HR := Lib.hid hR
  have HG := Lib.hid (((Gr.refl w).alloc (Nat.le_refl _) (.cells #[.int .i64 n, .int .i64 l, .int .i64 g] TY)).alloc (by simp) (.cells (sec (Sx (List.replicate 256 0))) TS))
  obtain ⟨Z, hZ⟩ : ∃ Z, Z = List.replicate 256 (0 : Int) := ⟨_, rfl⟩
  rw [← hZ] at HB HR HG hz
  have HSE := Lib.hid (fun gw t W hw => sealed_any ⟨#[104, 111, 114, 110, 98, 111, 111, 107]⟩ nameS nameS_of nameS_small rfl 4 (.inl rfl) n l g gw (fits4 (by omega)) (fits4 (by omega)) (fits4 (by omega)) t W hw)
  clear hm hB hR hZ
  go_enter Try.func24, Try.ntmps24
  go_wp2_with fail
  refine (HM.out _).mono ?_
  rintro e w1 ⟨rfl, g1⟩
  have HR1 := Lib.hid (HR.out.below g1 HR.out.lt)
  have HB1 := Lib.hid (HB.out.below g1 HB.out.lt)
  obtain ⟨⟨c0, c1, c2⟩, _⟩ := HB1.out.c3
  have HG1 : Hid (Gr w w1) := Lib.hid (Below.trans HG.out (g1.mono HG.out.size))
  clear g1 hz
  go_wp2_with fail
  refine (HSE.out _ _ _ (Blk.new _ _ _)).mono ?_
  rintro e w2 ⟨rfl, g2⟩
  have HR2 := Lib.hid ((HR1.out.alloc (.cells #[.int .u64 n, .int .u64 l, .int .u64 g] 42)).below g2 (by have := HR1.out.lt; simp; omega))
  have HG2 : Hid (Gr w w2) := Lib.hid (Gr.trans HG1.out (grow1 g2))
  clear g2 HSE HR1 c0 c1 c2
  go_wp2_with (refine wpList_store_x rfl _ _ rfl HR2.out rfl rfl ?_)
  exact bodyPost_ret (results_x2 rfl _ _ _ _ rfl (HR2.out.row _)) rfl ⟨rfl, below_setRow HG2.out (by omega) _⟩

/-- What Bytes answers. -/
def bytesR (n l g : Int) : List Int := if mayL n l g then lyB n l g else zero256
theorem bytes_any (n l g : Int) (w : World) : Calls Try.prog 24 #[.agg #[.int .i64 n, .int .i64 l, .int .i64 g]] w (RetSecE (bytesR n l g) (err (mayL n l g)) w) := by
  by_cases hm : mayL n l g = true
  · obtain ⟨i0, i1, i2, i3, i4, i5, _, _⟩ := may_in hm
    obtain ⟨n, rfl⟩ := Int.eq_ofNat_of_zero_le (show 0 ≤ n by omega)
    obtain ⟨l, rfl⟩ := Int.eq_ofNat_of_zero_le (show 0 ≤ l by omega)
    obtain ⟨g, rfl⟩ := Int.eq_ofNat_of_zero_le (show 0 ≤ g by omega)
    have h := bytes_yes n l g w hm
    unfold bytesR
    rw [hm]
    exact h
  · have hm : mayL n l g = false := by simpa using hm
    have h := bytes_no n l g w hm
    unfold bytesR
    rw [hm]
    exact h
theorem bytesR_sec (n l g : Int) : IsSec (bytesR n l g) := by
  unfold bytesR
  split
  · exact lyB_sec n l g
  · exact zeros_sec

abbrev TMa : TypeId := 44

set_option maxRecDepth 100000 in
set_option maxHeartbeats 1000000 in
theorem maBytes_any (e s t : Nat) (w : World) (h0 : e ≤ 18446744073709551615) (h1 : s ≤ 18446744073709551615) (h2 : t ≤ 18446744073709551615) : Calls Try.prog 26 #[.agg #[.int .u64 e, .int .u64 s, .int .u64 t]] w (RetSec (maB e s t) w) := by
  have hz := zero_sec
  rw [← Sx_zero] at hz
  have hB := ((Blk.new w TMa #[.int .u64 e, .int .u64 s, .int .u64 t]).alloc (.cells (sec (Sx (List.replicate 256 0))) TS))
  have hR := (Blk.new (w.alloc (.cells #[.int .u64 e, .int .u64 s, .int .u64 t] TMa)) TS (sec (Sx (List.replicate 256 0))))
  simp only [World.size_alloc] at hR
  have HB := Lib.hid hB
  have HR := Lib.hid hR
  have HG := Lib.hid (((Gr.refl w).alloc (Nat.le_refl _) (.cells #[.int .u64 e, .int .u64 s, .int .u64 t] TMa)).alloc (by simp) (.cells (sec (Sx (List.replicate 256 0))) TS))
  obtain ⟨Z, hZ⟩ : ∃ Z, Z = List.replicate 256 (0 : Int) := ⟨_, rfl⟩
  rw [← hZ] at HB HR HG hz
  have hse := sealed_any ⟨#[109, 97, 115, 116, 101, 114, 0, 0]⟩ nameM nameM_of nameM_small rfl 8 (.inr rfl) e s t _ (fits8 h0) (fits8 h1) (fits8 h2) 42 _ (Blk.new ((w.alloc (.cells #[.int .u64 e, .int .u64 s, .int .u64 t] TMa)).alloc (.cells (sec (Sx Z)) TS)) 42 #[.int .u64 e, .int .u64 s, .int .u64 t])
  simp only [World.size_alloc] at hse
  have HSE := Lib.hid hse
  clear hse
  clear hB hR hZ
  go_enter Try.func26, Try.ntmps26
  go_wp2_with fail
  refine HSE.out.mono ?_
  rintro e' w2 ⟨rfl, g2⟩
  have HR2 := Lib.hid ((HR.out.alloc (.cells #[.int .u64 e, .int .u64 s, .int .u64 t] 42)).below g2 (by go_size))
  have HG2 : Hid (Gr w w2) := Lib.hid (Below.trans (Below.alloc HG.out HG.out.size _) (g2.mono (by go_size)))
  clear g2 HSE hz
  go_wp2_with (refine wpList_store_x rfl _ _ rfl HR2.out rfl rfl ?_)
  exact bodyPost_ret (results_x rfl _ _ _ _ rfl (HR2.out.row _)) rfl ⟨rfl, below_setRow HG2.out (by omega) _⟩

/-- Is the one newer? -/
def newB (e s f t : Nat) : Bool := decide (f < e ∨ e = f ∧ t < s)

set_option maxRecDepth 100000 in
theorem newer_any (e s t f u v : Nat) (w : World) : Calls Try.prog 28 #[.agg #[.int .u64 e, .int .u64 s, .int .u64 t], .agg #[.int .u64 f, .int .u64 u, .int .u64 v]] w (RetB (newB e s f u) w) := by
  by_cases h : e = f
  · subst h
    have HG := Lib.hid (((Gr.refl w).alloc (Nat.le_refl _) (.cells #[.int .u64 e, .int .u64 s, .int .u64 t] TMa)).alloc (by simp) (.cells #[.int .u64 e, .int .u64 u, .int .u64 v] TMa))
    go_enter Try.func28, Try.ntmps28
    go_wp2
    go_ret
    exact ⟨ret_b (by unfold newB; rw [decide_eq_decide]; omega), HG.out⟩
  · have h' : ¬ ((e : Int) = f) := by omega
    have HG := Lib.hid (((Gr.refl w).alloc (Nat.le_refl _) (.cells #[.int .u64 e, .int .u64 s, .int .u64 t] TMa)).alloc (by simp) (.cells #[.int .u64 f, .int .u64 u, .int .u64 v] TMa))
    go_enter Try.func28, Try.ntmps28
    go_wp2
    go_ret
    exact ⟨ret_b (by unfold newB; rw [decide_eq_decide]; omega), HG.out⟩

set_option maxRecDepth 100000 in
theorem refNewer_any (e s t f u v : Nat) (w : World) : Calls Try.prog 29 #[.agg #[.int .u64 e, .int .u64 s, .int .u64 t], .agg #[.int .u64 f, .int .u64 u, .int .u64 v]] w (RetB (newB e s f u) w) := by
  by_cases h : e = f
  · subst h
    have HG := Lib.hid (((Gr.refl w).alloc (Nat.le_refl _) (.cells #[.int .u64 e, .int .u64 s, .int .u64 t] TMa)).alloc (by simp) (.cells #[.int .u64 e, .int .u64 u, .int .u64 v] TMa))
    go_enter Try.func29, Try.ntmps29
    go_wp2
    go_ret
    exact ⟨ret_b (by unfold newB; rw [decide_eq_decide]; omega), HG.out⟩
  · have h' : ¬ ((e : Int) = f) := by omega
    have HG := Lib.hid (((Gr.refl w).alloc (Nat.le_refl _) (.cells #[.int .u64 e, .int .u64 s, .int .u64 t] TMa)).alloc (by simp) (.cells #[.int .u64 f, .int .u64 u, .int .u64 v] TMa))
    go_enter Try.func29, Try.ntmps29
    go_wp2
    go_ret
    exact ⟨ret_b (by unfold newB; rw [decide_eq_decide]; omega), HG.out⟩

end Go.Proofs.Ytanajjfcnedaiaa
