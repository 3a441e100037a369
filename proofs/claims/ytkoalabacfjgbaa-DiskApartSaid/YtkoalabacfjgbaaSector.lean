
import Derived.Test.YtkoalabacfjgbaaBarrier
import Derived.Test.YtkoalabacfjgbaaFlowS
namespace Go.Proofs.Ytkoalabacfjgbaa
open Go.RowKit Go.Maps

/-- A byte's number. -/
def B8 (x : UInt8) : Int := (x.toNat : Int)
theorem B8_lo (x : UInt8) : 0 ≤ B8 x := by unfold B8; omega
theorem B8_hi (x : UInt8) : B8 x < 256 := by unfold B8; have := x.toNat_lt; omega
theorem B8_of (n : Int) (h0 : 0 ≤ n) (h1 : n < 256) : B8 (UInt8.ofNat n.toNat) = n := by
  unfold B8
  rw [UInt8.toNat_ofNat']
  omega
theorem B8_inj {x y : UInt8} (h : B8 x = B8 y) : x = y := by
  unfold B8 at h
  exact UInt8.toNat_inj.1 (by omega)
theorem B8_add (x : UInt8) : IntKind.u8.wrap (B8 x + 1) = B8 (x + 1) := by
  rw [IntKind.wrap_u8]
  unfold B8
  rw [UInt8.toNat_add]
  have h1 : (1 : UInt8).toNat = 1 := rfl
  rw [h1]
  omega

theorem built_of (x : UInt8) : Try.prog.built TS [(0, .int .u8 (B8 x)), (100, .int .u8 (B8 (x + 1))), (255, .int .u8 (B8 x))] = some (sec (Sec.of x)) := by kernel_rfl

theorem wpList_build_of {ops : Array Oper} {rest : List Oper} {o : Oper} {a : Act} {w : World} {Q : Exit → Act → World → Prop} (hg : o.guard = none) (x y z : Operand) (ho : o.op = .build TS #[(0, x), (100, y), (255, z)]) (b : UInt8)
    (hx : a.eval x = .int .u8 (B8 b)) (hy : a.eval y = .int .u8 (B8 (b + 1))) (hz : a.eval z = .int .u8 (B8 b))
    (h : wpList Try.prog ops Q rest (a.put o.dst (.agg (sec (Sec.of b)))) w) : wpList Try.prog ops Q (o :: rest) a w :=
  wpList_build_sec hg _ ho (by simp only [List.map_toArray, List.map_cons, List.map_nil, hx, hy, hz]; exact built_of b) h
theorem wpList_build_some {ops : Array Oper} {rest : List Oper} {o : Oper} {a : Act} {w : World} {Q : Exit → Act → World → Prop} (hg : o.guard = none) (s : Sec) (parts : Array (Nat × Operand)) (ho : o.op = .build TS parts)
    (hb : Try.prog.built TS (parts.map fun (i, x) => (i, a.eval x)).toList = some (sec s))
    (h : wpList Try.prog ops Q rest (a.put o.dst (.agg (sec s))) w) : wpList Try.prog ops Q (o :: rest) a w :=
  wpList_build_sec hg parts ho hb h

/-- An answer: a sector. -/
def RetSector (s : Sec) (w : World) (e : Ending) (w' : World) : Prop := e = .returned (.agg (sec s)) ∧ Gr w w'

set_option maxRecDepth 100000 in
set_option maxHeartbeats 1000000 in
theorem sector_any (x : UInt8) (w : World) : Calls Try.prog 5 #[.int .u8 (B8 x)] w fun e w' => RetSector (Sec.of x) w e w' := by
  have hz := zero_sec
  have hb := B8_add x
  have HN := Lib.hid (Blk.new w TS (sec Sec.zero))
  have HG : Hid (Gr w (w.alloc (.cells (sec Sec.zero) TS))) := Lib.hid ((Gr.refl w).alloc (Nat.le_refl _) _)
  go_enter Try.func5, Try.ntmps5
  go_wp2_with (first | (refine wpList_build_of rfl _ _ _ rfl x rfl rfl rfl ?_) | (refine wpList_store_sec rfl _ _ rfl HN.out rfl rfl ?_))
  exact bodyPost_ret (results_sec rfl _ _ _ _ rfl (HN.out.row _)) rfl ⟨rfl, below_setRow HG.out (Nat.le_refl _) _⟩

end Go.Proofs.Ytkoalabacfjgbaa
