
/-
  The code's table of locks: Holds, wanted, Line.
-/
import Derived.Test.YtgpaikaccipfjaaLk7
import Derived.Test.YtgpaikaccipfjaaLkRange
import Derived.LoopTactic
namespace Go.Proofs.Ytgpaikaccipfjaa
open Go.RowKit Go.Maps

def SlHolds (t : Nat) (_ : Nat) (o : Nat) (hp : Option Nat) (k1 : Int) (k2 : Int) (O1 : Int) (O2 : Int) (O3 : Int) (Y : Bool) (slot : Nat) (v : Value) (_ : World) : Prop :=
  match slot with
  | 7 => v = .pointer (some ⟨t, 0, none⟩)
  | 8 => v = .int .u64 (o : Int)
  | 9 => v = .agg #[.map hp, .int .i64 O1, .int .i64 O2, .int .i64 O3]
  | 10 => v = .agg #[.int .i64 k1, .int .i64 k2]
  | 11 => v = .bool Y
  | 12 => v = .bool (!Y)
  | _ => True


def Tb.hold (T : Tb) (o : Nat) (k : Key) : Int := if k ∈ (T.of o).ks then (T.lkOf k).mode else 0
section
variable {w : World} {t km om : Nat} {B : Tag → Option Nat} {T : Tb}
theorem grD {w w' : World} {q : Nat} (g : Gr w w') : Gr w (w'.drewN q) := below_drewN g q
set_option maxRecDepth 100000 in
set_option maxHeartbeats 2000000 in
theorem Holds_any (h : TbAt w t km om B T) (ok : T.Ok) {o : Nat} (ho : KO.dom o) {k : Key} (hk : KL.dom k) :
    Calls Try.prog 12 #[.pointer (some ⟨t, 0, none⟩), .int .u64 (o : Int), kv k] w fun e w' => e = .returned (.int .i64 (T.hold o k)) ∧ Gr w w' := by
  have g1 : Gr w (w.alloc (.cells #[.int .i64 k.1, .int .i64 k.2] TKey)) := (Gr.refl w).alloc (Nat.le_refl _) _
  have b6 := (Blk.new w TKey #[.int .i64 k.1, .int .i64 k.2])
  obtain ⟨k1, hk1⟩ : ∃ x, x = k.1 := ⟨_, rfl⟩
  obtain ⟨k2, hk2⟩ : ∃ x, x = k.2 := ⟨_, rfl⟩
  show Calls Try.prog 12 #[.pointer (some ⟨t, 0, none⟩), .int .u64 (o : Int), .agg #[.int .i64 k.1, .int .i64 k.2]] w _
  rw [← hk1, ← hk2] at g1 b6 ⊢
  have hkv : kv k = .agg #[.int .i64 k1, .int .i64 k2] := by rw [hk1, hk2]; rfl
  obtain ⟨W0, hW0⟩ : ∃ W0, W0 = w.alloc (.cells #[.int .i64 k1, .int .i64 k2] TKey) := ⟨_, rfl⟩
  rw [← hW0] at g1 b6
  have HO := Lib.hid (fun W (g : Gr W0 W) => of_any (h.gr (Gr.trans g1 g)) ho)
  have HA := Lib.hid (fun W (g : Gr W0 W) => has_any W (a := .int .i64 (T.of o).key.1) (b := .int .i64 (T.of o).key.2) (m := .int .i64 (T.of o).mode) rfl rfl rfl ((h.hs o).gr (Gr.trans g1 g)) hk)
  rw [hkv] at HA
  obtain ⟨Y, hY⟩ : ∃ Y, Y = decide (k ∈ (T.of o).ks) := ⟨_, rfl⟩
  obtain ⟨O1, hO1⟩ : ∃ O1, O1 = (T.of o).key.1 := ⟨_, rfl⟩
  obtain ⟨O2, hO2⟩ : ∃ O2, O2 = (T.of o).key.2 := ⟨_, rfl⟩
  obtain ⟨O3, hO3⟩ : ∃ O3, O3 = (T.of o).mode := ⟨_, rfl⟩
  obtain ⟨hp, hhp⟩ : ∃ hp, hp = B (.pm o) := ⟨_, rfl⟩
  unfold ofV at HO
  rw [← hO1, ← hO2, ← hO3, ← hhp] at HA HO
  rw [← hY] at HA
  have HH := Lib.hid (And.intro h (And.intro ok (And.intro g1 (And.intro hY (And.intro hW0 hkv)))))
  obtain ⟨kb, hkb⟩ : ∃ kb, kb = w.heap.size := ⟨_, rfl⟩
  rw [← hkb] at b6
  have HB := Lib.hid (fun W (g : Gr W0 W) => b6.gr g)
  have HW := Lib.hid (And.intro hW0 hkb)
  have x0 := b6.cell 0
  have x1 := b6.cell 1
  simp at x0 x1
  clear h ok g1 b6 hkv hY hO1 hO2 hO3 hhp hW0 hkb hk1 hk2
  go_enter Try.func12, Try.ntmps12
  go_upto_region 1 with fail
  rw [show (w.alloc (.cells #[.int .i64 k1, .int .i64 k2] 29)) = W0 from HW.out.1.symm, ← HW.out.2]
  refine Flow.region (SlHolds t kb o hp k1 k2 O1 O2 O3 Y) (Gr W0) (fun _ _ => True) (by kernel_rfl) (by kernel_rfl) (fun _ _ _ _ h _ => h) ⟨rfl, rfl, rfl, Nat.le_refl _, fun _ _ => rfl⟩ ?steps ?fin
  case steps =>
    refine Flow.Steps.cons (fun a W hfr hinv hdep K hK => ?_) ?_
    · have s0 : a.tmps.getD 0 undef = .pointer (some ⟨t, 0, none⟩) := hfr.at 0 (by kernel_rfl)
      have t0 : a.tmps[0]?.getD undef = .pointer (some ⟨t, 0, none⟩) := by simpa using s0
      rw [if_pos (Flow.wanted_none rfl)]
      clear hfr hdep
      go_simp
      exact hK _ _ True.intro hinv (fun d hd => by cases hd; trivial)
    refine Flow.Steps.cons (fun a W hfr hinv hdep K hK => ?_) ?_
    · have s1 : a.tmps.getD 1 undef = .int .u64 (o : Int) := hfr.at 1 (by kernel_rfl)
      have t1 : a.tmps[1]?.getD undef = .int .u64 (o : Int) := by simpa using s1
      rw [if_pos (Flow.wanted_none rfl)]
      clear hfr hdep
      go_simp
      exact hK _ _ True.intro hinv (fun d hd => by cases hd; trivial)
    refine Flow.Steps.cons (fun a W hfr hinv hdep K hK => ?_) ?_
    · have s7 : a.tmps.getD 7 undef = .pointer (some ⟨t, 0, none⟩) := hdep 7 (by kernel_rfl)
      have t7 : a.tmps[7]?.getD undef = .pointer (some ⟨t, 0, none⟩) := by simpa using s7
      have s8 : a.tmps.getD 8 undef = .int .u64 (o : Int) := hdep 8 (by kernel_rfl)
      have t8 : a.tmps[8]?.getD undef = .int .u64 (o : Int) := by simpa using s8
      rw [if_pos (Flow.wanted_none rfl)]
      clear hfr hdep
      go_simp
      refine (HO.out W hinv).mono ?_
      rintro e W' ⟨rfl, g1⟩
      exact hK _ _ True.intro (Gr.trans hinv g1) (fun d hd => by cases hd; trivial)
    refine Flow.Steps.cons (fun a W hfr hinv hdep K hK => ?_) ?_
    · have s5 : a.tmps.getD 5 undef = .pointer (some ⟨kb, 0, none⟩) := hfr.at 5 (by kernel_rfl)
      have t5 : a.tmps[5]?.getD undef = .pointer (some ⟨kb, 0, none⟩) := by simpa using s5
      have kc := (HB.out W hinv).cell 0; have kd := (HB.out W hinv).cell 1; simp at kc kd
      rw [if_pos (Flow.wanted_none rfl)]
      clear hfr hdep
      go_simp
      exact hK _ _ True.intro hinv (fun d hd => by cases hd; trivial)
    refine Flow.Steps.cons (fun a W hfr hinv hdep K hK => ?_) ?_
    · have s9 : a.tmps.getD 9 undef = .agg #[.map hp, .int .i64 O1, .int .i64 O2, .int .i64 O3] := hdep 9 (by kernel_rfl)
      have t9 : a.tmps[9]?.getD undef = .agg #[.map hp, .int .i64 O1, .int .i64 O2, .int .i64 O3] := by simpa using s9
      have s10 : a.tmps.getD 10 undef = .agg #[.int .i64 k1, .int .i64 k2] := hdep 10 (by kernel_rfl)
      have t10 : a.tmps[10]?.getD undef = .agg #[.int .i64 k1, .int .i64 k2] := by simpa using s10
      rw [if_pos (Flow.wanted_none rfl)]
      clear hfr hdep
      go_simp
      refine (HA.out W hinv).mono ?_
      rintro e W' ⟨rfl, g1⟩
      exact hK _ _ True.intro (Gr.trans hinv g1) (fun d hd => by cases hd; trivial)
    refine Flow.Steps.cons (fun a W hfr hinv hdep K hK => ?_) ?_
    · have s11 : a.tmps.getD 11 undef = .bool Y := hdep 11 (by kernel_rfl)
      have t11 : a.tmps[11]?.getD undef = .bool Y := by simpa using s11
      rw [if_pos (Flow.wanted_none rfl)]
      clear hfr hdep
      go_simp
      exact hK _ _ True.intro hinv (fun d hd => by cases hd; trivial)
    exact True.intro
  case fin =>
    intro a W hfr hfin hsl
    have s12 : a.tmps.getD 12 undef = .bool (!Y) := hsl 5 _ 12 rfl rfl
    have t12 : a.tmps[12]?.getD undef = .bool (!Y) := by simpa using s12
    have e := Flow.frame hfr [7, 8, 9, 10, 11, 12] (List.range 22) (by kernel_rfl) (by kernel_rfl)
    simp [List.range, List.range.loop] at e
    rw [t12] at e
    rw [e]
    clear e hfr hsl s12 t12
    rename_i K2 hK2
    refine hK2 _ _ ?_
    have HG := Lib.hid hfin
    clear hfin
    obtain ⟨h, ok, g1, hY, hW0, hkv⟩ := HH.out
    cases Y with
    | false =>
      have hv : T.hold o k = 0 := by unfold Tb.hold; rw [if_neg (of_decide_eq_false hY.symm)]
      have HV := Lib.hid hv
      have HGG := Lib.hid (Gr.trans g1 HG.out)
      clear h ok g1 hY hW0 hkv hv
      go_wp2_with fail
      go_ret
      exact ⟨by rw [HV.out]; rfl, HGG.out⟩
    | true =>
      have hin : k ∈ (T.of o).ks := of_decide_eq_true hY.symm
      have hv : T.hold o k = (T.lkOf k).mode := by unfold Tb.hold; rw [if_pos hin]
      obtain ⟨l, e, _⟩ := ok.holds o k hin
      have hm : (T.lkOf k).mode = l.mode := by unfold Tb.lkOf; rw [e]; rfl
      have HGG := Lib.hid (Gr.trans g1 HG.out)
      have h1 := h.gr HGG.out
      obtain ⟨b, n, v, e1, e2, e3, e4, e5⟩ := h1.lk k l e
      have hl : ∀ q, (Instr.lookup TMk (.map (some km)) (.agg #[.int .i64 k1, .int .i64 k2]) false).run Try.prog (W.drewN q) = .ok (.pointer (some ⟨b, 0, none⟩)) (W.drewN q) := fun q => by
        have := (h1.stays (w' := W.drewN q) (fun _ _ _ => rfl)).look hk
        rw [hkv, e1] at this
        exact this
      have c0 := h1.c3.1
      have m0 := e3.cell 0
      have y0 := (HB.out W HG.out).cell 0
      have y1 := (HB.out W HG.out).cell 1
      simp at m0 y0 y1
      obtain ⟨M, hM⟩ : ∃ M, M = l.mode := ⟨_, rfl⟩
      rw [← hM] at m0
      have HV : Hid (T.hold o k = M) := Lib.hid (by rw [hv, hm, hM])
      clear h ok g1 hY hW0 hkv hv hin e hm h1 e1 e2 e3 e4 e5 hM x0 x1
      go_wp2_with fail
      go_quiet (fail)
      go_wp2_with fail
      go_ret
      exact ⟨by rw [HV.out]; rfl, grD HGG.out⟩
/-- Does anybody stand in the line of one of the keys? -/
def Tb.wanted (T : Tb) (ks : List Key) : Bool := ks.any fun k => decide ((T.lkOf k).line ≠ [])
theorem wanted_false {T : Tb} {ks : List Key} (h : ∀ k, k ∈ ks → (T.lkOf k).line = []) : T.wanted ks = false := by
  unfold Tb.wanted
  rw [List.any_eq_false]
  intro k hk
  simp [h k hk]
theorem wanted_true {T : Tb} {ks : List Key} {k : Key} (hk : k ∈ ks) (h : (T.lkOf k).line ≠ []) : T.wanted ks = true := List.any_eq_true.2 ⟨k, hk, by simpa using h⟩
set_option maxRecDepth 100000 in
set_option maxHeartbeats 2000000 in
theorem wanted_any (h : TbAt w t km om B T) {hp : Option Nat} {ks : List Key} (O1 O2 O3 : Int) (H : HsAt w hp ks) (hks : ∀ k, k ∈ ks → (T.lk k).isSome = true) :
    Calls Try.prog 44 #[.pointer (some ⟨t, 0, none⟩), .agg #[.map hp, .int .i64 O1, .int .i64 O2, .int .i64 O3]] w fun e w' => e = .returned (.bool (T.wanted ks)) ∧ Gr w w' := by
  have g1 : Gr w (w.alloc (.cells #[.map hp, .int .i64 O1, .int .i64 O2, .int .i64 O3] TPy)) := (Gr.refl w).alloc (Nat.le_refl _) _
  rcases H with ⟨rfl, rfl⟩ | ⟨m, rfl, hm⟩
  · have HG := Lib.hid g1
    obtain ⟨W, hW⟩ : ∃ W, W = w.alloc (.cells #[.map none, .int .i64 O1, .int .i64 O2, .int .i64 O3] TPy) := ⟨_, rfl⟩
    have hrg := run_range_nilMap (P := Try.prog) W TMs TKey 88 Try.underlying59
    have hnx : ∀ ty, (Instr.next (.pointer (some ⟨W.heap.size, 0, none⟩)) false ty).run Try.prog (W.alloc (.mapIter none 0 #[] 0)) = _ := fun ty => run_next_nilMap W ty 0 0 #[]
    have hv : T.wanted [] = false := rfl
    rw [hv]
    rw [hW] at hrg hnx
    simp only [World.size_alloc] at hrg hnx
    clear h hks hW g1 hv
    go_enter Try.func44, Try.ntmps44
    go_wp2
    refine wp_loop_rounds 1 ?_
    rw [rounds_succ]
    go_wp2
    go_ret
    exact ⟨rfl, HG.out.alloc (by simp) _⟩
  · have hm1 := hm.stays (g1.block m hm.lt)
    have HG := Lib.hid g1
    have HH := Lib.hid h
    have HK := Lib.hid hks
    clear h hks hm g1
    go_enter Try.func44, Try.ntmps44
    go_wp2_with (first
      | (at_range; refine wpList_range_mp KL_ok rfl _ TMs rfl 88 Try.underlying59 rfl hm1 ?_; intro w0 hrg0 hg0 hs0)
      | go_in)
    have HG0 : Hid (Gr w w0) := Lib.hid (Gr.trans HG.out hg0)
    obtain ⟨r, hr⟩ : ∃ r, r = (w.alloc (.cells #[.map (some m), .int .i64 O1, .int .i64 O2, .int .i64 O3] 61)).heap.size := ⟨_, rfl⟩
    have hrr : w.heap.size < r := by rw [hr]; simp
    have hrg1 : Rg Try.prog KL w0 m r (unitF ks) ks (fun a => a ∈ ks) := by rw [hr]; exact hrg0
    rw [← hr]
    clear hrg0 hr hs0 hg0 hm1
    go_frame
    go_loopw [] (fun wr => ∃ L, Rg Try.prog KL wr m r (unitF ks) ks L ∧ Hid (Gr w wr) ∧ Hid (∀ k, k ∈ ks → ¬ L k → (T.lkOf k).line = [])) (fun wr => wr.rangeLeft m r)
    case atStart => exact ⟨_, hrg1, HG0, Lib.hid fun k h1 h2 => absurd h1 h2⟩
    case round =>
      obtain ⟨L, hrg, HGr, HL⟩ := hrel
      go_wp2_with (first
        | (at_next; refine wpList_next_mp KL_ok rfl _ rfl rfl hrg ?_ ?_)
        | go_in)
      · intro hno
        have hv : T.wanted ks = false := wanted_false fun k hk => HL.out k hk (hno k.1 k.2)
        have HV := Lib.hid hv
        clear hv hno
        go_wp2
        go_ret
        exact ⟨by rw [HV.out]; rfl, HGr.out⟩
      · intro k1 k2 v w1 hLk hkd hfv hrg1' hlt hg1 hs1 hen
        rw [show KL.val (k1, k2) = .agg #[.int .i64 k1, .int .i64 k2] from rfl] at hen ⊢
        have hkin : ((k1, k2) : Key) ∈ ks := ((hrg1'.mp KL_ok).mem (k1, k2)).2 (by rw [hfv]; rfl)
        obtain ⟨l, hl⟩ := Option.isSome_iff_exists.1 (HK.out (k1, k2) hkin)
        have hrlt : r < w1.heap.size := by
          obtain ⟨D, left, cnt, q, _⟩ := hrg1'
          exact q.lt
        have hgw1 : Gr w w1 := ⟨hg1.os.trans HGr.out.os, hg1.tape.trans HGr.out.tape, hg1.output.trans HGr.out.output, Nat.le_trans HGr.out.size hg1.size, fun n hn => (hg1.block n (Nat.lt_of_lt_of_le hn HGr.out.size) (fun e => by cases e; omega)).trans (HGr.out.block n hn)⟩
        have hgw2 : Gr w (w1.alloc (.cells #[.int .i64 k1, .int .i64 k2] TKey)) := hgw1.alloc hgw1.size _
        have h2 := HH.out.gr hgw2
        obtain ⟨b, n, lv, e1, e2, e3, e4, e5⟩ := h2.lk (k1, k2) l hl
        have hll : ∀ q, (Instr.lookup TMk (.map (some km)) (.agg #[.int .i64 k1, .int .i64 k2]) false).run Try.prog ((w1.alloc (.cells #[.int .i64 k1, .int .i64 k2] TKey)).drewN q) = .ok (.pointer (some ⟨b, 0, none⟩)) ((w1.alloc (.cells #[.int .i64 k1, .int .i64 k2] TKey)).drewN q) := fun q => by
          have := (h2.stays (w' := (w1.alloc (.cells #[.int .i64 k1, .int .i64 k2] TKey)).drewN q) (fun _ _ _ => rfl)).look hkd
          rw [e1] at this
          exact this
        obtain ⟨p, N, cp, hv⟩ : ∃ p N cp, lv = .slice p N cp ∧ N = l.line.length := by
          rcases e5 with ⟨r1, r2, r3⟩ | ⟨b', off, cap, cs, r1, r2, _⟩
          · exact ⟨none, 0, 0, r2, by rw [r3]; rfl⟩
          · exact ⟨_, l.line.length, cap, r2, rfl⟩
        obtain ⟨rfl, hNl⟩ := hv
        have c0 := h2.c3.1
        have m2 := e3.cell 2
        simp at m2
        have hlk : (T.lkOf (k1, k2)).line = l.line := by unfold Tb.lkOf; rw [hl]; rfl
        have hmeas := hrg1'.left_same (w' := (w1.alloc (.cells #[.int .i64 k1, .int .i64 k2] TKey))) ((Gr.refl w1).alloc (Nat.le_refl _) _)
        have HS := Lib.hid (And.intro hrg1' (And.intro hlt (And.intro hgw2 (And.intro hkin (And.intro hlk hNl)))))
        clear hLk hkd hfv hrg1' hlt hg1 hs1 hl hrlt hgw1 hgw2 h2 e1 e2 e3 e4 e5 hlk hNl hkin hrg
        by_cases hpos : 0 < N
        · have hd : decide ((0 : Int) < (N : Int)) = true := decide_eq_true (by omega)
          have HP := Lib.hid hpos
          clear hpos
          go_wp2_with fail
          go_wp2_with fail
          go_quiet (fail)
          go_wp2_with fail
          go_ret
          exact ⟨by rw [wanted_true HS.out.2.2.2.1 (by rw [HS.out.2.2.2.2.1]; intro e; have := HS.out.2.2.2.2.2; have := HP.out; rw [e] at *; simp at *; omega)]; rfl, grD HS.out.2.2.1⟩
        · have hd : decide ((0 : Int) < (N : Int)) = false := decide_eq_false (by omega)
          have HP := Lib.hid hpos
          clear hpos
          go_wp2_with fail
          go_quiet (fail)
          go_wp2_with fail
          go_roundw
          case rel =>
            refine ⟨_, (HS.out.1.gr ((Gr.refl w1).alloc (Nat.le_refl _) _)).gr (grD (Gr.refl _)), Lib.hid (grD HS.out.2.2.1), Lib.hid fun k' h1 h2 => ?_⟩
            by_cases e : k' = (k1, k2)
            · rw [e, HS.out.2.2.2.2.1]
              exact List.eq_nil_of_length_eq_zero (by have := HS.out.2.2.2.2.2; have := HP.out; omega)
            · exact HL.out k' h1 fun e2 => h2 ⟨e2, e⟩
          case measure => exact Nat.lt_of_le_of_lt (Nat.le_of_eq hmeas) HS.out.2.1
end
end Go.Proofs.Ytgpaikaccipfjaa
