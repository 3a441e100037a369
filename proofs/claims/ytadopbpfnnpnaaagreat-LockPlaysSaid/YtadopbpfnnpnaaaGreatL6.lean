/-
  Texts on locks, put together: Lk8 Lk9 Lk10.
-/
import Derived.LoopTactic
import Derived.Laws.AppendOwnNone
import Derived.Laws.AppendOwn
import Derived.RangeFuncGives
import Derived.Sort.MapsRangeIn
import Derived.OwnWalkIn
import Derived.TacticsInMore
import Derived.RegionIn
import Derived.LoopNIn
import Derived.LoopIn
import Derived.Maps.AppendAt
import Derived.Shelf.Abstract
import Derived.Test.YtadopbpfnnpnaaaGreatL5
set_option linter.unusedVariables false
set_option linter.unusedSimpArgs false
/-
  The code's table of locks: Holds, wanted, Line.
-/
namespace Go.Proofs.YtadopbpfnnpnaaaGreat
open Go.RowKit Go.Maps

def SlHolds (t : Nat) (_ : Nat) (o : Nat) (hp : Option Nat) (k1 : Int) (k2 : Int) (O1 : Int) (O2 : Int) (O3 : Int) (Y : Bool) (slot : Nat) (v : Value) (_ : World) : Prop :=
  match slot with
  | 7 => v = .pointer (some ⟨t, 0, none⟩)
  | 8 => v = .int .u64 (o : Int)
  | 9 => v = .agg #[.map hp, .int .i64 O1, .int .i64 O2, .int .i64 O3]
  | 10 => v = .agg #[.int .i64 k1, .int .i64 k2]
  | 11 => v = .bool Y
  | 12 => v = .bool (!Y)
  | _ => True


def Tb.hold (T : Tb) (o : Nat) (k : Key) : Int := if k ∈ (T.of o).ks then (T.lkOf k).mode else 0
section
variable {w : World} {t km om : Nat} {B : Tag → Option Nat} {T : Tb}
theorem grD {w w' : World} {q : Nat} (g : Gr w w') : Gr w (w'.drewN q) := below_drewN g q
set_option maxRecDepth 100000 in
set_option maxHeartbeats 2000000 in
theorem Holds_any (h : TbAt w t km om B T) (ok : T.Ok) {o : Nat} (ho : KO.dom o) {k : Key} (hk : KL.dom k) :
    Calls Tryz.prog 16 #[.pointer (some ⟨t, 0, none⟩), .int .u64 (o : Int), kv k] w fun e w' => e = .returned (.int .i64 (T.hold o k)) ∧ Gr w w' := by
  have g1 : Gr w (w.alloc (.cells #[.int .i64 k.1, .int .i64 k.2] TKey)) := (Gr.refl w).alloc (Nat.le_refl _) _
  have b6 := (Blk.new w TKey #[.int .i64 k.1, .int .i64 k.2])
  obtain ⟨k1, hk1⟩ : ∃ x, x = k.1 := ⟨_, rfl⟩
  obtain ⟨k2, hk2⟩ : ∃ x, x = k.2 := ⟨_, rfl⟩
  show Calls Tryz.prog 16 #[.pointer (some ⟨t, 0, none⟩), .int .u64 (o : Int), .agg #[.int .i64 k.1, .int .i64 k.2]] w _
  rw [← hk1, ← hk2] at g1 b6 ⊢
  have hkv : kv k = .agg #[.int .i64 k1, .int .i64 k2] := by rw [hk1, hk2]; rfl
  obtain ⟨W0, hW0⟩ : ∃ W0, W0 = w.alloc (.cells #[.int .i64 k1, .int .i64 k2] TKey) := ⟨_, rfl⟩
  rw [← hW0] at g1 b6
  have HO := Lib.hid (fun W (g : Gr W0 W) => of_any (h.gr (Gr.trans g1 g)) ho)
  have HA := Lib.hid (fun W (g : Gr W0 W) => has_any W (a := .int .i64 (T.of o).key.1) (b := .int .i64 (T.of o).key.2) (m := .int .i64 (T.of o).mode) rfl rfl rfl ((h.hs o).gr (Gr.trans g1 g)) hk)
  rw [hkv] at HA
  obtain ⟨Y, hY⟩ : ∃ Y, Y = decide (k ∈ (T.of o).ks) := ⟨_, rfl⟩
  obtain ⟨O1, hO1⟩ : ∃ O1, O1 = (T.of o).key.1 := ⟨_, rfl⟩
  obtain ⟨O2, hO2⟩ : ∃ O2, O2 = (T.of o).key.2 := ⟨_, rfl⟩
  obtain ⟨O3, hO3⟩ : ∃ O3, O3 = (T.of o).mode := ⟨_, rfl⟩
  obtain ⟨hp, hhp⟩ : ∃ hp, hp = B (.pm o) := ⟨_, rfl⟩
  unfold ofV at HO
  rw [← hO1, ← hO2, ← hO3, ← hhp] at HA HO
  rw [← hY] at HA
  have HH := Lib.hid (And.intro h (And.intro ok (And.intro g1 (And.intro hY (And.intro hW0 hkv)))))
  obtain ⟨kb, hkb⟩ : ∃ kb, kb = w.heap.size := ⟨_, rfl⟩
  rw [← hkb] at b6
  have HB := Lib.hid (fun W (g : Gr W0 W) => b6.gr g)
  have HW := Lib.hid (And.intro hW0 hkb)
  have x0 := b6.cell 0
  have x1 := b6.cell 1
  simp at x0 x1
  clear h ok g1 b6 hkv hY hO1 hO2 hO3 hhp hW0 hkb hk1 hk2
  go_enter Tryz.func16, Tryz.ntmps16
  go_upto_region 1 with fail
  rw [show (w.alloc (.cells #[.int .i64 k1, .int .i64 k2] 33)) = W0 from HW.out.1.symm, ← HW.out.2]
  refine Flow.region (SlHolds t kb o hp k1 k2 O1 O2 O3 Y) (Gr W0) (fun _ _ => True) (by kernel_rfl) (by kernel_rfl) (fun _ _ _ _ h _ => h) ⟨rfl, rfl, rfl, Nat.le_refl _, fun _ _ => rfl⟩ ?steps ?fin
  case steps =>
    refine Flow.Steps.cons (fun a W hfr hinv hdep K hK => ?_) ?_
    · have s0 : a.tmps.getD 0 undef = .pointer (some ⟨t, 0, none⟩) := hfr.at 0 (by kernel_rfl)
      have t0 : a.tmps[0]?.getD undef = .pointer (some ⟨t, 0, none⟩) := by simpa using s0
      rw [if_pos (Flow.wanted_none rfl)]
      clear hfr hdep
      go_simp
      exact hK _ _ True.intro hinv (fun d hd => by cases hd; trivial)
    refine Flow.Steps.cons (fun a W hfr hinv hdep K hK => ?_) ?_
    · have s1 : a.tmps.getD 1 undef = .int .u64 (o : Int) := hfr.at 1 (by kernel_rfl)
      have t1 : a.tmps[1]?.getD undef = .int .u64 (o : Int) := by simpa using s1
      rw [if_pos (Flow.wanted_none rfl)]
      clear hfr hdep
      go_simp
      exact hK _ _ True.intro hinv (fun d hd => by cases hd; trivial)
    refine Flow.Steps.cons (fun a W hfr hinv hdep K hK => ?_) ?_
    · have s7 : a.tmps.getD 7 undef = .pointer (some ⟨t, 0, none⟩) := hdep 7 (by kernel_rfl)
      have t7 : a.tmps[7]?.getD undef = .pointer (some ⟨t, 0, none⟩) := by simpa using s7
      have s8 : a.tmps.getD 8 undef = .int .u64 (o : Int) := hdep 8 (by kernel_rfl)
      have t8 : a.tmps[8]?.getD undef = .int .u64 (o : Int) := by simpa using s8
      rw [if_pos (Flow.wanted_none rfl)]
      clear hfr hdep
      go_simp
      refine (HO.out W hinv).mono ?_
      rintro e W' ⟨rfl, g1⟩
      exact hK _ _ True.intro (Gr.trans hinv g1) (fun d hd => by cases hd; trivial)
    refine Flow.Steps.cons (fun a W hfr hinv hdep K hK => ?_) ?_
    · have s5 : a.tmps.getD 5 undef = .pointer (some ⟨kb, 0, none⟩) := hfr.at 5 (by kernel_rfl)
      have t5 : a.tmps[5]?.getD undef = .pointer (some ⟨kb, 0, none⟩) := by simpa using s5
      have kc := (HB.out W hinv).cell 0; have kd := (HB.out W hinv).cell 1; simp at kc kd
      rw [if_pos (Flow.wanted_none rfl)]
      clear hfr hdep
      go_simp
      exact hK _ _ True.intro hinv (fun d hd => by cases hd; trivial)
    refine Flow.Steps.cons (fun a W hfr hinv hdep K hK => ?_) ?_
    · have s9 : a.tmps.getD 9 undef = .agg #[.map hp, .int .i64 O1, .int .i64 O2, .int .i64 O3] := hdep 9 (by kernel_rfl)
      have t9 : a.tmps[9]?.getD undef = .agg #[.map hp, .int .i64 O1, .int .i64 O2, .int .i64 O3] := by simpa using s9
      have s10 : a.tmps.getD 10 undef = .agg #[.int .i64 k1, .int .i64 k2] := hdep 10 (by kernel_rfl)
      have t10 : a.tmps[10]?.getD undef = .agg #[.int .i64 k1, .int .i64 k2] := by simpa using s10
      rw [if_pos (Flow.wanted_none rfl)]
      clear hfr hdep
      go_simp
      refine (HA.out W hinv).mono ?_
      rintro e W' ⟨rfl, g1⟩
      exact hK _ _ True.intro (Gr.trans hinv g1) (fun d hd => by cases hd; trivial)
    refine Flow.Steps.cons (fun a W hfr hinv hdep K hK => ?_) ?_
    · have s11 : a.tmps.getD 11 undef = .bool Y := hdep 11 (by kernel_rfl)
      have t11 : a.tmps[11]?.getD undef = .bool Y := by simpa using s11
      rw [if_pos (Flow.wanted_none rfl)]
      clear hfr hdep
      go_simp
      exact hK _ _ True.intro hinv (fun d hd => by cases hd; trivial)
    exact True.intro
  case fin =>
    intro a W hfr hfin hsl
    have s12 : a.tmps.getD 12 undef = .bool (!Y) := hsl 5 _ 12 rfl rfl
    have t12 : a.tmps[12]?.getD undef = .bool (!Y) := by simpa using s12
    have e := Flow.frame hfr [7, 8, 9, 10, 11, 12] (List.range 22) (by kernel_rfl) (by kernel_rfl)
    simp [List.range, List.range.loop] at e
    rw [t12] at e
    rw [e]
    clear e hfr hsl s12 t12
    rename_i K2 hK2
    refine hK2 _ _ ?_
    have HG := Lib.hid hfin
    clear hfin
    obtain ⟨h, ok, g1, hY, hW0, hkv⟩ := HH.out
    cases Y with
    | false =>
      have hv : T.hold o k = 0 := by unfold Tb.hold; rw [if_neg (of_decide_eq_false hY.symm)]
      have HV := Lib.hid hv
      have HGG := Lib.hid (Gr.trans g1 HG.out)
      clear h ok g1 hY hW0 hkv hv
      go_wp2_with fail
      go_ret
      exact ⟨by rw [HV.out]; rfl, HGG.out⟩
    | true =>
      have hin : k ∈ (T.of o).ks := of_decide_eq_true hY.symm
      have hv : T.hold o k = (T.lkOf k).mode := by unfold Tb.hold; rw [if_pos hin]
      obtain ⟨l, e, _⟩ := ok.holds o k hin
      have hm : (T.lkOf k).mode = l.mode := by unfold Tb.lkOf; rw [e]; rfl
      have HGG := Lib.hid (Gr.trans g1 HG.out)
      have h1 := h.gr HGG.out
      obtain ⟨b, n, v, e1, e2, e3, e4, e5⟩ := h1.lk k l e
      have hl : ∀ q, (Instr.lookup TMk (.map (some km)) (.agg #[.int .i64 k1, .int .i64 k2]) false).run Tryz.prog (W.drewN q) = .ok (.pointer (some ⟨b, 0, none⟩)) (W.drewN q) := fun q => by
        have := (h1.stays (w' := W.drewN q) (fun _ _ _ => rfl)).look hk
        rw [hkv, e1] at this
        exact this
      have c0 := h1.c3.1
      have m0 := e3.cell 0
      have y0 := (HB.out W HG.out).cell 0
      have y1 := (HB.out W HG.out).cell 1
      simp at m0 y0 y1
      obtain ⟨M, hM⟩ : ∃ M, M = l.mode := ⟨_, rfl⟩
      rw [← hM] at m0
      have HV : Hid (T.hold o k = M) := Lib.hid (by rw [hv, hm, hM])
      clear h ok g1 hY hW0 hkv hv hin e hm h1 e1 e2 e3 e4 e5 hM x0 x1
      go_wp2_with fail
      go_quiet (fail)
      go_wp2_with fail
      go_ret
      exact ⟨by rw [HV.out]; rfl, grD HGG.out⟩
/-- Does anybody stand in the line of one of the keys? -/
def Tb.wanted (T : Tb) (ks : List Key) : Bool := ks.any fun k => decide ((T.lkOf k).line ≠ [])
theorem wanted_false {T : Tb} {ks : List Key} (h : ∀ k, k ∈ ks → (T.lkOf k).line = []) : T.wanted ks = false := by
  unfold Tb.wanted
  rw [List.any_eq_false]
  intro k hk
  simp [h k hk]
theorem wanted_true {T : Tb} {ks : List Key} {k : Key} (hk : k ∈ ks) (h : (T.lkOf k).line ≠ []) : T.wanted ks = true := List.any_eq_true.2 ⟨k, hk, by simpa using h⟩
set_option maxRecDepth 100000 in
set_option maxHeartbeats 2000000 in
theorem wanted_any (h : TbAt w t km om B T) {hp : Option Nat} {ks : List Key} (O1 O2 O3 : Int) (H : HsAt w hp ks) (hks : ∀ k, k ∈ ks → (T.lk k).isSome = true) :
    Calls Tryz.prog 53 #[.pointer (some ⟨t, 0, none⟩), .agg #[.map hp, .int .i64 O1, .int .i64 O2, .int .i64 O3]] w fun e w' => e = .returned (.bool (T.wanted ks)) ∧ Gr w w' := by
  have g1 : Gr w (w.alloc (.cells #[.map hp, .int .i64 O1, .int .i64 O2, .int .i64 O3] TPy)) := (Gr.refl w).alloc (Nat.le_refl _) _
  rcases H with ⟨rfl, rfl⟩ | ⟨m, rfl, hm⟩
  · have HG := Lib.hid g1
    obtain ⟨W, hW⟩ : ∃ W, W = w.alloc (.cells #[.map none, .int .i64 O1, .int .i64 O2, .int .i64 O3] TPy) := ⟨_, rfl⟩
    have hrg := run_range_nilMap (P := Tryz.prog) W TMs TKey 58 Tryz.underlying63
    have hnx : ∀ ty, (Instr.next (.pointer (some ⟨W.heap.size, 0, none⟩)) false ty).run Tryz.prog (W.alloc (.mapIter none 0 #[] 0)) = _ := fun ty => run_next_nilMap W ty 0 0 #[]
    have hv : T.wanted [] = false := rfl
    rw [hv]
    rw [hW] at hrg hnx
    simp only [World.size_alloc] at hrg hnx
    clear h hks hW g1 hv
    go_enter Tryz.func53, Tryz.ntmps53
    go_wp2
    refine wp_loop_rounds 1 ?_
    rw [rounds_succ]
    go_wp2
    go_ret
    exact ⟨rfl, HG.out.alloc (by simp) _⟩
  · have hm1 := hm.stays (g1.block m hm.lt)
    have HG := Lib.hid g1
    have HH := Lib.hid h
    have HK := Lib.hid hks
    clear h hks hm g1
    go_enter Tryz.func53, Tryz.ntmps53
    go_wp2_with (first
      | (at_range; refine wpList_range_mp KL_ok rfl _ TMs rfl 58 Tryz.underlying63 rfl hm1 ?_; intro w0 hrg0 hg0 hs0)
      | go_in)
    have HG0 : Hid (Gr w w0) := Lib.hid (Gr.trans HG.out hg0)
    obtain ⟨r, hr⟩ : ∃ r, r = (w.alloc (.cells #[.map (some m), .int .i64 O1, .int .i64 O2, .int .i64 O3] 66)).heap.size := ⟨_, rfl⟩
    have hrr : w.heap.size < r := by rw [hr]; simp
    have hrg1 : Rg Tryz.prog KL w0 m r (unitF ks) ks (fun a => a ∈ ks) := by rw [hr]; exact hrg0
    rw [← hr]
    clear hrg0 hr hs0 hg0 hm1
    go_frame
    go_loopw [] (fun wr => ∃ L, Rg Tryz.prog KL wr m r (unitF ks) ks L ∧ Hid (Gr w wr) ∧ Hid (∀ k, k ∈ ks → ¬ L k → (T.lkOf k).line = [])) (fun wr => wr.rangeLeft m r)
    case atStart => exact ⟨_, hrg1, HG0, Lib.hid fun k h1 h2 => absurd h1 h2⟩
    case round =>
      obtain ⟨L, hrg, HGr, HL⟩ := hrel
      go_wp2_with (first
        | (at_next; refine wpList_next_mp KL_ok rfl _ rfl rfl hrg ?_ ?_)
        | go_in)
      · intro hno
        have hv : T.wanted ks = false := wanted_false fun k hk => HL.out k hk (hno k.1 k.2)
        have HV := Lib.hid hv
        clear hv hno
        go_wp2
        go_ret
        exact ⟨by rw [HV.out]; rfl, HGr.out⟩
      · intro k1 k2 v w1 hLk hkd hfv hrg1' hlt hg1 hs1 hen
        rw [show KL.val (k1, k2) = .agg #[.int .i64 k1, .int .i64 k2] from rfl] at hen ⊢
        have hkin : ((k1, k2) : Key) ∈ ks := ((hrg1'.mp KL_ok).mem (k1, k2)).2 (by rw [hfv]; rfl)
        obtain ⟨l, hl⟩ := Option.isSome_iff_exists.1 (HK.out (k1, k2) hkin)
        have hrlt : r < w1.heap.size := by
          obtain ⟨D, left, cnt, q, _⟩ := hrg1'
          exact q.lt
        have hgw1 : Gr w w1 := ⟨hg1.os.trans HGr.out.os, hg1.tape.trans HGr.out.tape, hg1.output.trans HGr.out.output, Nat.le_trans HGr.out.size hg1.size, fun n hn => (hg1.block n (Nat.lt_of_lt_of_le hn HGr.out.size) (fun e => by cases e; omega)).trans (HGr.out.block n hn)⟩
        have hgw2 : Gr w (w1.alloc (.cells #[.int .i64 k1, .int .i64 k2] TKey)) := hgw1.alloc hgw1.size _
        have h2 := HH.out.gr hgw2
        obtain ⟨b, n, lv, e1, e2, e3, e4, e5⟩ := h2.lk (k1, k2) l hl
        have hll : ∀ q, (Instr.lookup TMk (.map (some km)) (.agg #[.int .i64 k1, .int .i64 k2]) false).run Tryz.prog ((w1.alloc (.cells #[.int .i64 k1, .int .i64 k2] TKey)).drewN q) = .ok (.pointer (some ⟨b, 0, none⟩)) ((w1.alloc (.cells #[.int .i64 k1, .int .i64 k2] TKey)).drewN q) := fun q => by
          have := (h2.stays (w' := (w1.alloc (.cells #[.int .i64 k1, .int .i64 k2] TKey)).drewN q) (fun _ _ _ => rfl)).look hkd
          rw [e1] at this
          exact this
        obtain ⟨p, N, cp, hv⟩ : ∃ p N cp, lv = .slice p N cp ∧ N = l.line.length := by
          rcases e5 with ⟨r1, r2, r3⟩ | ⟨b', off, cap, cs, r1, r2, _⟩
          · exact ⟨none, 0, 0, r2, by rw [r3]; rfl⟩
          · exact ⟨_, l.line.length, cap, r2, rfl⟩
        obtain ⟨rfl, hNl⟩ := hv
        have c0 := h2.c3.1
        have m2 := e3.cell 2
        simp at m2
        have hlk : (T.lkOf (k1, k2)).line = l.line := by unfold Tb.lkOf; rw [hl]; rfl
        have hmeas := hrg1'.left_same (w' := (w1.alloc (.cells #[.int .i64 k1, .int .i64 k2] TKey))) ((Gr.refl w1).alloc (Nat.le_refl _) _)
        have HS := Lib.hid (And.intro hrg1' (And.intro hlt (And.intro hgw2 (And.intro hkin (And.intro hlk hNl)))))
        clear hLk hkd hfv hrg1' hlt hg1 hs1 hl hrlt hgw1 hgw2 h2 e1 e2 e3 e4 e5 hlk hNl hkin hrg
        by_cases hpos : 0 < N
        · have hd : decide ((0 : Int) < (N : Int)) = true := decide_eq_true (by omega)
          have HP := Lib.hid hpos
          clear hpos
          go_wp2_with fail
          go_wp2_with fail
          go_quiet (fail)
          go_wp2_with fail
          go_ret
          exact ⟨by rw [wanted_true HS.out.2.2.2.1 (by rw [HS.out.2.2.2.2.1]; intro e; have := HS.out.2.2.2.2.2; have := HP.out; rw [e] at *; simp at *; omega)]; rfl, grD HS.out.2.2.1⟩
        · have hd : decide ((0 : Int) < (N : Int)) = false := decide_eq_false (by omega)
          have HP := Lib.hid hpos
          clear hpos
          go_wp2_with fail
          go_quiet (fail)
          go_wp2_with fail
          go_roundw
          case rel =>
            refine ⟨_, (HS.out.1.gr ((Gr.refl w1).alloc (Nat.le_refl _) _)).gr (grD (Gr.refl _)), Lib.hid (grD HS.out.2.2.1), Lib.hid fun k' h1 h2 => ?_⟩
            by_cases e : k' = (k1, k2)
            · rw [e, HS.out.2.2.2.2.1]
              exact List.eq_nil_of_length_eq_zero (by have := HS.out.2.2.2.2.2; have := HP.out; omega)
            · exact HL.out k' h1 fun e2 => h2 ⟨e2, e⟩
          case measure => exact Nat.lt_of_le_of_lt (Nat.le_of_eq hmeas) HS.out.2.1
end
end Go.Proofs.YtadopbpfnnpnaaaGreat

/-
  Rows of owners, of the call's own; what a slice of owners reads.
-/
namespace Go.Proofs.YtadopbpfnnpnaaaGreat
open Go.RowKit Go.Maps

abbrev TUs : TypeId := 38
def u64v (n : Nat) : Value := .int .u64 (n : Int)
/-- The value v is the call's own row of owners. -/
def Us (w : World) (base : Nat) (v : Value) (xs : List Nat) : Prop := w.ownsRow base TOw 1 v xs.length (xs.map u64v)
theorem Us.nil (w : World) (base : Nat) : Us w base (.slice none 0 0) [] := World.ownsRow_nil _ _ _ _
/-- Owners that a slice reads. -/
def USl (w : World) (v : Value) (xs : List Nat) : Prop :=
  (v = .slice none 0 0 ∧ xs = []) ∨ ∃ g o c, v = .slice (some ⟨g, o, none⟩) xs.length c ∧ xs.length ≤ c ∧ c ≤ maxLen ∧ ∀ j, j < xs.length → w.cell? ⟨g, o + j, none⟩ = some (u64v (xs.getD j 0))
theorem blk_lt' {w : World} {a : Addr} {v : Value} (h : w.cell? a = some v) : a.block < w.heap.size := World.block_lt_of_cell? w a h
theorem USl.gr {w w' : World} {v : Value} {xs : List Nat} (h : USl w v xs) (g : Gr w w') : USl w' v xs := by
  rcases h with h | ⟨b, o, c, h1, h2, h3, h4⟩
  · exact .inl h
  · exact .inr ⟨b, o, c, h1, h2, h3, fun j hj => by rw [g.cell (blk_lt' (h4 j hj))]; exact h4 j hj⟩
theorem Us.cellAt {w : World} {base g cap : Nat} {xs : List Nat} (h : Us w base (.slice (some ⟨g, 0, none⟩) xs.length cap) xs) (j : Nat) (hj : j < xs.length) : w.cell? ⟨g, j, none⟩ = some (u64v (xs.getD j 0)) := by
  have := World.ownsRow.cellAt h j (by omega)
  rw [this]
  simp [List.getD, hj]
theorem Us.usl {w : World} {base : Nat} {v : Value} {xs : List Nat} (h : Us w base v xs) : USl w v xs := by
  rcases h.2 with ⟨rfl, h0⟩ | ⟨g, cap, cur, rfl, hb, hg, h1, h2, _⟩
  · exact .inl ⟨rfl, List.eq_nil_of_length_eq_zero h0⟩
  · exact .inr ⟨g, 0, cap, rfl, h1, h2, fun j hj => by rw [Nat.zero_add]; exact Us.cellAt h j hj⟩
theorem Us.form {w : World} {base : Nat} {v : Value} {xs : List Nat} (h : Us w base v xs) : ∃ p c, v = .slice p xs.length c := by
  rcases h.2 with ⟨rfl, h0⟩ | ⟨g, cap, cur, rfl, _⟩
  · exact ⟨none, 0, by rw [h0]⟩
  · exact ⟨_, cap, rfl⟩
theorem Us.lt {w : World} {base : Nat} {v : Value} {xs : List Nat} (h : Us w base v xs) : ∀ k, v.ownBlock = some k → base ≤ k ∧ k < w.heap.size := World.ownsRow.lt h
theorem Us.stays {w w' : World} {base : Nat} {v : Value} {xs : List Nat} (h : Us w base v xs) (e : ∀ k, v.ownBlock = some k → w'.heap[k]? = w.heap[k]?) : Us w' base v xs := by
  refine ⟨h.1, ?_⟩
  rcases h.2 with h0 | ⟨g, cap, cur, h1, hb, hg, r⟩
  · exact .inl h0
  · exact .inr ⟨g, cap, cur, h1, hb, (e g (by rw [h1]; rfl)).trans hg, r⟩
theorem Us.gr {w w' : World} {base : Nat} {v : Value} {xs : List Nat} (h : Us w base v xs) (g : Gr w w') : Us w' base v xs := h.stays fun k hk => g.block k (h.lt k hk).2
theorem u64_info : (Tryz.prog.info? TOw).map (fun i => (i.zero, i.size, i.bytes)) = some (some (.int .u64 0), 1, 8) := by kernel_rfl
theorem inf_parts {P : Program} {t : TypeId} {z : Value} {s b : Nat} (h : (P.info? t).map (fun i => (i.zero, i.size, i.bytes)) = some (some z, s, b)) : ∃ i, P.info? t = some i ∧ i.zero = some z ∧ i.size = s ∧ i.bytes = b := by
  cases hi : P.info? t with
  | none => rw [hi] at h; cases h
  | some i =>
    rw [hi] at h
    simp at h
    exact ⟨i, rfl, h.1, h.2.1, h.2.2⟩
theorem add_lit' (g q j : Nat) : ((⟨g, q, none⟩ : Addr).add j) = ⟨g, q + j, none⟩ := by
  rcases Nat.eq_zero_or_pos j with rfl | h0
  · simp [Addr.add]
  · have hn : j ≠ 0 := by omega
    simp [Addr.add, hn]
theorem wpList_app_us {ops : Array Oper} {rest : List Oper} {o : Oper} {a : Act} {w : World} {Q : Exit → Act → World → Prop} (hg : o.guard = none) (s x : Operand) (ho : o.op = .call { callee := .builtin .append, args := #[s, x], argTypes := #[TUs, TUs] })
    {v : Value} {base : Nat} {xs : List Nat} (hs : a.eval s = v) (hr : Us w base v xs) {vx : Value} {ys : List Nat} (hx : a.eval x = vx) (hy : USl w vx ys) (hk : xs.length + ys.length ≤ 1000000000) (hb : base ≤ w.heap.size)
    (h : ∀ v' w', Us w' base v' (xs ++ ys) → w.grownBy w' v.ownBlock → wpList Tryz.prog ops Q rest (a.put o.dst v') w') : wpList Tryz.prog ops Q (o :: rest) a w := by
  obtain ⟨i, hi, hz, hsz, hbb⟩ := inf_parts u64_info
  rcases hy with ⟨rfl, rfl⟩ | ⟨g, q, c, rfl, h2, h3, h4⟩
  · refine wpList_append_own_none hg s x TUs ho base TOw i 1 Tryz.underlying38 hi v xs.length _ hs hr hx ?_
    exact h v w (by simpa using hr) (World.grownBy.refl _ _)
  · refine wpList_append_own w hg s x TUs ho base TOw i (.int .u64 0) 1 8 Tryz.underlying38 hi hz hsz hbb rfl (by decide) v xs.length _ hs hr ⟨g, q, none⟩ ys.length c (ys.map u64v) hx
      (by simp) (fun j u hj => ?_) (fun u hu => ?_) (by simp only [maxLen]; omega) (by omega) hb ?_
    · have hlt : j < ys.length := by simpa using (List.getElem?_eq_some_iff.1 hj).1
      have h5 := h4 j hlt
      rw [add_lit', h5, ← hj, List.getElem?_map]
      simp [List.getD, hlt]
    · obtain ⟨x, _, rfl⟩ := List.mem_map.1 hu
      rfl
    · intro v' w' h5 h6 _
      refine h v' w' ?_ h6
      unfold Us
      rw [List.length_append, List.map_append]
      exact h5
/-- One owner in a new block. -/
theorem USl.one (w : World) (x : Nat) (t : TypeId) : USl (w.alloc (.cells #[u64v x] t)) (.slice (some ⟨w.heap.size, 0, none⟩) 1 1) [x] :=
  .inr ⟨_, _, 1, rfl, Nat.le_refl _, by simp only [maxLen]; omega, fun j hj => by
    have : j = 0 := by simp at hj; exact hj
    subst this
    exact (Blk.new w t #[u64v x]).cell 0⟩
end Go.Proofs.YtadopbpfnnpnaaaGreat

/-
  The keys of a set, one by one: maps.Keys at keys that are structs; what a slice of them owns.
-/
namespace Go.Proofs.YtadopbpfnnpnaaaGreat
open Go.RowKit Go.Maps

section
variable {α : Type} {P : Program} {K : KK α} {w : World} {m r : Nat} {f : α → Option Value} {ks : List α} {L : α → Prop}
theorem Rg.of_walks {w' : World} (h : Rg P K w m r f ks L) (hk : KeepsWalks w w') : Rg P K w' m r f ks L ∧ w'.rangeLeft m r = w.rangeLeft m r := by
  obtain ⟨D, left, cnt, a, b⟩ := h
  have a' := a.of_walks hk
  exact ⟨⟨D, left, cnt, a', b⟩, by rw [a.left_eq, a'.left_eq]⟩
variable {F : Fence} {nf : Nat} {ops : Array Oper} {rest : List Oper} {o : Oper} {a : Act} {Q : Exit → Act → World → Prop}
theorem wpListIn_range_mp (O : K.Ok P) (hg : o.guard = none) (x : Operand) (t : TypeId) (hop : o.op = Op.range t x) (e : TypeId) (ht : P.underlying t = some (.map K.ty e)) (hm : a.eval x = .map (some m)) (h : Mp P K w m f ks)
    (hK : ∀ w', Rg P K w' m w.heap.size f ks (fun a => a ∈ ks) → w.grownBy w' none → w'.heap.size = w.heap.size + 1 → w'.rangeLeft m w.heap.size = ks.length → wpListIn F nf P ops Q rest (a.put o.dst (.pointer (some ⟨w.heap.size, 0, none⟩))) w') : wpListIn F nf P ops Q (o :: rest) a w := by
  obtain ⟨D, h1, hD⟩ := h
  refine wpListIn_range_own w hg x t hop K.ty e O.keyed ht elV m ks.length D hm h1 fun w' h2 h3 h4 => ?_
  exact hK w' ⟨D, _, _, h2, hD, fun a ha => by rw [hD.has a ha]; exact (hD.mem a).symm, fun _ h => h⟩ h3 h4 (by rw [h2.left_eq, own_size O h1 hD])
theorem wpListIn_next_mp (O : K.Ok P) (hg : o.guard = none) (it : Operand) (hop : o.op = Op.next it false) (hit : a.eval it = .pointer (some ⟨r, 0, none⟩)) (h : Rg P K w m r f ks L)
    (hDone : (∀ a, ¬ L a) → wpListIn F nf P ops Q rest (a.put o.dst (.tuple #[.bool false])) w)
    (hMore : ∀ (x : α) (v : Value) (w' : World), L x → K.dom x → f x = some v → Rg P K w' m r f ks (fun b => L b ∧ b ≠ x) → w'.rangeLeft m r < w.rangeLeft m r → w.grownBy w' (some r) → w'.heap.size = w.heap.size → (∃ o : Obj, w.heap[r]? = some o ∧ o.isWalk = true) →
      (Instr.entry (.pointer (some ⟨r, 0, none⟩))).run P w' = .ok (.tuple #[K.val x, v]) w' → wpListIn F nf P ops Q rest (a.put o.dst (.tuple #[.bool true, K.val x, v])) w') : wpListIn F nf P ops Q (o :: rest) a w := by
  obtain ⟨D, left, cnt, h1, hD, hL, hLk⟩ := h
  have hleft := h1.left_eq
  have hinv : ∀ key kl, keyOf P K.ty key = some kl → ∃ x : { x : α // K.dom x }, key = K.val x.1 := fun key kl hk => by
    obtain ⟨x, hx, e, _⟩ := O.inv key kl hk
    exact ⟨⟨x, hx⟩, e⟩
  refine wpListIn_next_ranges w hg it hop K.ty O.keyed elV (fun x : { x : α // K.dom x } => K.val x.1) id hinv (fun v y _ => ⟨v, rfl⟩) m r ks.length D left cnt hit h1 ?_ ?_
  · intro _ h0
    refine hDone fun x hx => ?_
    have := (hL x (hD.dom x ((hD.mem x).1 (hLk x hx)))).2 hx
    rw [h0] at this
    cases this
  · intro x c kl y w' cnt' hkey hlk hv hat hrg hlt hgr hsz hen
    have hkl : kl = K.lit x.1 := by
      have := O.key x.1 x.2
      rw [this] at hkey
      exact (Option.some.inj hkey).symm
    subst hkl
    have hLx := (hL x.1 x.2).1 hlk
    have hfx := (hD.mem x.1).1 (hLk x.1 hLx)
    obtain ⟨v, hfv⟩ := Option.isSome_iff_exists.1 hfx
    have e1 := hD.at_ x.1 c x.2
    rw [hat, hfv] at e1
    simp only [elV, Option.some.injEq] at hv
    rw [← hv] at e1
    have hcv : c = v := by
      simp at e1
      exact e1
    subst hcv
    refine hMore x.1 c w' hLx x.2 hfv ⟨D, _, cnt', hrg, hD, fun b hb => ?_, fun b hb => hLk b hb.1⟩ (by rw [hrg.left_eq, hleft]; exact hlt) hgr hsz h1.iter_walk hen
    by_cases e : b = x.1
    · subst e
      simp [WideAt.sameKey_self (O.is hb)]
    · have : (K.lit b).sameKey (K.lit x.1) = false := Maps.sameKey_ne fun e2 => e (O.lit_inj hb x.2 e2)
      rw [this]
      simp [hL b hb, e]
end
set_option maxRecDepth 100000 in
set_option maxHeartbeats 2000000 in
/-- The iterator of maps.Keys: the keys come, each once, in some order. -/
theorem keys1_in (F : Fence) (n : Nat) (hF : F.fn 86) (hro : F.round = none) (hn : 1 ≤ n) (l Bm b : Nat) (f : Key → Option Value) (ks : List Key) (J : List Key → World → Prop)
    (hY : ∀ pre x W, J pre W → pre.length < ks.length → YieldAt F (n - 1) Tryz.prog l #[kv x] W fun e W' => e = .returned (.bool true) ∧ J (pre ++ [x]) W' ∧ KeepsWalks W W')
    (W : World) (hJ : AbidesFrom W.heap.size J) (hm : W.cell? ⟨Bm, 0, none⟩ = some (.map (some b))) (hown : Mp Tryz.prog KL W b f ks) (h0 : J [] W) :
    CallsIn F n Tryz.prog 86 #[.func (.yield l) #[] #[], .pointer (some ⟨Bm, 0, none⟩)] W fun e W' => (∃ v, e = .returned v) ∧ ∃ ss : List Key, ss.Perm ks ∧ J ss W' := by
  have hnd := hown.nodup
  have HND := Lib.hid hnd
  clear hnd
  refine callsIn_of_wp Tryz.func86 rfl hF ?_ hro
  simp only [Tryz.ntmps86, List.size_toArray, List.length_cons, List.length_nil, Nat.reduceAdd, Nat.reduceSub, Array.replicate_succ, Array.replicate_zero, List.push_toArray, List.append_toArray, List.nil_append, List.cons_append]
  gi_wp2_with (first
    | (gi_at_range; refine wpListIn_range_mp KL_ok rfl _ TMs rfl 58 Tryz.underlying63 rfl hown ?_; intro w0 hrg0 hg0 hs0 hlf0)
    | gi_in)
  go_frame
  gi_loopw [] (fun wr => ∃ L ss, Rg Tryz.prog KL wr b W.heap.size f ks L ∧ ss.length + wr.rangeLeft b W.heap.size ≤ ks.length ∧ Hid (ss.Nodup ∧ ∀ a, a ∈ ss ↔ a ∈ ks ∧ ¬ L a) ∧ J ss wr)
    (fun wr => wr.rangeLeft b W.heap.size)
  case atStart => exact ⟨_, [], hrg0, by rw [hlf0]; simp, Lib.hid ⟨List.nodup_nil, fun a => by simp⟩, hJ [] W w0 none h0 hg0 (fun r e => by cases e)⟩
  case round =>
    obtain ⟨L, ss, hrg, hcs, HS, hJs⟩ := hrel
    gi_wp2_with (first
      | (gi_at_next; refine wpListIn_next_mp KL_ok rfl _ rfl rfl hrg ?_ ?_)
      | gi_in)
    · intro hno
      have HNo := Lib.hid hno
      clear hno
      gi_wp2
      go_end0
      refine ⟨⟨_, rfl⟩, ss, ?_, hJs⟩
      rw [List.perm_ext_iff_of_nodup HS.out.1 HND.out]
      intro a
      rw [HS.out.2]
      exact ⟨fun h => h.1, fun h => ⟨h, HNo.out a.1 a.2⟩⟩
    · intro k1 k2 v w2 hLx hkd hfv hrg2 hlt hg2 hs2 ob hob hwk hen
      rw [show KL.val (k1, k2) = .agg #[.int .i64 k1, .int .i64 k2] from rfl] at hen ⊢
      have hJ2 : J ss w2 := hJ ss wr w2 (some W.heap.size) hJs hg2 (fun r e => by cases e; exact ⟨Nat.le_refl _, ob, hob, hwk⟩)
      have hg3 : w2.grownBy (w2.alloc (.cells #[.int .i64 k1, .int .i64 k2] TKey)) none := World.grownBy_alloc w2 _ none
      have hJ3 : J ss (w2.alloc (.cells #[.int .i64 k1, .int .i64 k2] TKey)) := hJ ss w2 _ none hJ2 hg3 (fun r e => by cases e)
      have hrg3 := hrg2.gr ((Gr.refl w2).alloc (Nat.le_refl _) (.cells #[.int .i64 k1, .int .i64 k2] TKey))
      have hl3 := hrg2.left_same ((Gr.refl w2).alloc (Nat.le_refl _) (.cells #[.int .i64 k1, .int .i64 k2] TKey))
      have hy1 := hY ss (k1, k2) (w2.alloc (.cells #[.int .i64 k1, .int .i64 k2] TKey)) hJ3 (by omega)
      rw [show kv (k1, k2) = .agg #[.int .i64 k1, .int .i64 k2] from rfl] at hy1
      obtain ⟨fn, tmps, assign, body, hy, hR⟩ := hy1
      have HS2 := Lib.hid (And.intro hLx (And.intro hfv (And.intro hlt (And.intro hl3 hrg2))))
      clear hs2 hJ2 hg3 hlt hl3 hLx hfv hg2 hrg2
      gi_wp2
      refine hR.mono ?_
      rintro e W3 ⟨rfl, hJ4, hk4⟩
      gi_wp2
      obtain ⟨hrg4, hl4⟩ := hrg3.of_walks hk4
      go_roundw
      case rel =>
        refine ⟨_, ss ++ [(k1, k2)], hrg4, ?_, Lib.hid ⟨?_, fun a => ?_⟩, hJ4⟩
        · have e1 := HS2.out.2.2.1
          have e2 := HS2.out.2.2.2.1
          rw [List.length_append, List.length_singleton, hl4, e2]
          omega
        · rw [List.nodup_append]
          refine ⟨HS.out.1, by simp, fun a ha b hb e => ?_⟩
          rw [List.mem_singleton] at hb
          rw [e, hb] at ha
          exact ((HS.out.2 _).1 ha).2 HS2.out.1
        · rw [List.mem_append, List.mem_singleton, HS.out.2]
          constructor
          · rintro (⟨h1, h2⟩ | h1)
            · exact ⟨h1, fun h => h2 h.1⟩
            · rw [h1]
              exact ⟨(HS2.out.2.2.2.2.mp KL_ok).mem _ |>.2 (by rw [HS2.out.2.1]; rfl), fun h => h.2 rfl⟩
          · rintro ⟨h1, h2⟩
            by_cases e : a = (k1, k2)
            · exact .inr e
            · exact .inl ⟨h1, fun h => h2 ⟨h, e⟩⟩
      case measure =>
        have e1 := HS2.out.2.2.1
        have e2 := HS2.out.2.2.2.1
        rw [hl4, e2]
        exact e1
end Go.Proofs.YtadopbpfnnpnaaaGreat

