
/-
  Sectors that bear a name, words, and their sum: what the program makes of them.
-/
import Derived.Test.YtanajjfcnedaiaaArr
import Derived.Test.YtanajjfcnedaiaaCrc4
import Derived.Deep.DeepMust
namespace Go.Proofs.Ytanajjfcnedaiaa
open Go.RowKit Cr

/-- The world but for one block is as it was. -/
def But (g : Nat) (w w' : World) : Prop := ∀ B, B ≤ g → Below B w w'

set_option maxRecDepth 100000 in
theorem put_in {g F L C n k : Nat} {xs : List Int} (w : World) (hb : Blk w g TS (sec (Sx xs))) (hx : IsSec xs) (hf : fitsB n k = true) (hL : k ≤ L) (hF : F + k ≤ 256) :
    Calls Try.prog 48 #[.slice (some ⟨g, F, none⟩) L C, .int .u64 n, .int .i64 k] w fun e w' => e = .returned (.int .i64 k) ∧ Blk w' g TS (sec (Sx (lay xs F (Wd.enc k n)))) ∧ w.heap.size ≤ w'.heap.size ∧ But g w w' := by
  have hk : 1 ≤ (k : Int) ∧ (k : Int) ≤ 8 := by
    simp only [fitsB, Bool.and_eq_true, mayB_iff] at hf
    omega
  have HP := Lib.hid (put_yes n k w hf)
  have HB := Lib.hid hb
  have HX := Lib.hid hx
  clear hf hb hx
  go_enter Try.func48, Try.ntmps48
  go_wp2_with fail
  refine HP.out.mono ?_
  rintro e w1 ⟨p, m, c, rfl, hy, g1, _⟩
  obtain rfl : m = k := by rw [← hy.len, Wd.enc_length]
  have HY := Lib.hid hy
  have HG := Lib.hid g1
  have HB1 := Lib.hid (HB.out.below g1 HB.out.lt)
  clear hy g1
  go_wp2_with (refine wpList_copy_sec rfl _ _ rfl rfl HB1.out HX.out rfl HY.out (by omega) hL hF ?_)

  go_ret
  refine ⟨rfl, HB1.out.row _, ?_, fun B hB => ?_⟩
  · have := HG.out.size; simpa using this
  · exact below_setRow (HG.out.mono (by have := HB.out.lt; omega)) hB _

/-- The i-th word of so many bytes behind a sector's name. -/
theorem word_of {xs : List Int} (w : World) (hx : IsSec xs) (i k : Int) (h0 : 0 ≤ i) (h1 : i ≤ 100) (h2 : 0 ≤ k) (h3 : k ≤ 8) : Calls Try.prog 45 #[.agg (sec (Sx xs)), .int .i64 i, .int .i64 k] w fun e w' => e = .returned (.int .u64 (atR xs (8 + i * k) k)) ∧ Gr w w' := by
  have HB := Lib.hid (Blk.new w TS (sec (Sx xs)))
  have HG := Lib.hid ((Gr.refl w).alloc (Nat.le_refl _) (.cells (sec (Sx xs)) TS))
  have HA := Lib.hid (fun f => at_any (some ⟨w.heap.size, 0, none⟩) 256 256 xs f k _ (HB.out.byt hx))
  have q0 : 0 ≤ i * k := Int.mul_nonneg h0 h2
  have q1 : i * k ≤ 800 := by
    have := Int.mul_le_mul_of_nonneg_left h3 h0
    omega
  go_enter Try.func45, Try.ntmps45
  go_wp2_with fail
  refine (HA.out _).mono ?_
  rintro e w1 ⟨rfl, rfl⟩
  go_wp2
  go_ret
  exact ⟨rfl, HG.out⟩

end Go.Proofs.Ytanajjfcnedaiaa
