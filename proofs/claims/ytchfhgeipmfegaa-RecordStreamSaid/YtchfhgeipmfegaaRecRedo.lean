
/-
  A page behind what a record changes of it; what changes an update back.
-/
import Derived.Test.YtchfhgeipmfegaaRecOf
import Derived.Test.YtchfhgeipmfegaaPgArr
import Derived.Test.YtchfhgeipmfegaaFlowZ
import Derived.Deep.DeepCutAuto
import Derived.Deep.CutBlock
namespace Go.Proofs.Ytchfhgeipmfegaa
open Go.RowKit Cr

/-- What is redone. -/
def redoB (c : Rc) : Bool := chB c.k && mayR c
def redoL (c : Rc) (ps : List Int) : List Int := if redoB c then lay ps c.o.toNat c.a else ps
def RetRedo (ps : List Int) (b : Bool) (w : World) (e : Ending) (w' : World) : Prop := e = .returned (.tuple #[.agg (sec (Sx ps)), .bool b]) ∧ Gr w w'
theorem redoL_sec {c : Rc} {ps : List Int} (h : IsSec ps) (hi : c.In) : IsSec (redoL c ps) := by
  unfold redoL
  split
  · rename_i hr
    simp only [redoB, Bool.and_eq_true] at hr
    have hf := mayR_fits hr.2
    have h2 := (mayQ_iff.1 hr.2).2
    simp only [chB, Bool.or_eq_true, decide_eq_true_eq] at hr
    exact lay_sec h hi.a (by omega)
  · exact h

theorem wp_copy_sec {w : World} {ops : Array Oper} {o : Oper} {a : Act} {K : Act → World → Prop} {Q : Exit → Act → World → Prop} (hgd : o.guard = none) (d s : Operand)
    (ho : o.op = .call { callee := .builtin .copy, args := #[d, s], argTypes := #[22, 22] }) {g F L C : Nat} {xs : List Int} (hd : a.eval d = .slice (some ⟨g, F, none⟩) L C) (hb : Blk w g TS (sec (Sx xs))) (hx : IsSec xs)
    {q : Option Addr} {m c : Nat} {ys : List Int} (hs : a.eval s = .slice q m c) (hy : Byt w q m c ys) (hm : 0 < m) (hL : m ≤ L) (hf : F + m ≤ 248)
    (h : K (a.put o.dst (goInt m)) (w.setRow g (sec (Sx (lay xs F ys))))) : Oper.wp Try.prog o a w K Q := by
  have h1 := step_copy_sec (ops := ops) (Q := Q) (E := True) hgd d s ho hd hb hx hs hy hm hL hf h
  rwa [if_pos (Flow.wanted_none hgd)] at h1

def SlRd (d : Nat) (R : Nat) (o : Nat) (pa : Option Addr) (na : Nat) (ca : Nat) (slot : Nat) (v : Value) (_ : World) : Prop :=
  match slot with
  | 18 => v = .pointer (some ⟨d, 5, none⟩)
  | 19 => v = .int .i64 o
  | 20 => v = .slice (some ⟨R, o, none⟩) (248 - o) (248 - o)
  | 21 => v = .pointer (some ⟨d, 7, none⟩)
  | 22 => v = .slice pa na ca
  | _ => True
/-- What lies there: the record, the page that came in, the result's cell. -/
structure PgAt (w : World) (C : Array Value) (S Z : Sec) (W : World) : Prop where
  gr : Gr w W
  c : Blk W w.heap.size TR C
  p : Blk W (w.heap.size + 1) TS (sec S)
  z : Blk W (w.heap.size + 1 + 1) TS (sec Z)
theorem PgAt.new (w : World) (C : Array Value) (S : Sec) : PgAt w C S Sec.zero (((w.alloc (.cells C TR)).alloc (.cells (sec S) TS)).alloc (.cells (sec Sec.zero) TS)) := by
  have h1 := Blk.new w TR C
  have h2 := Blk.new (w.alloc (.cells C TR)) TS (sec S)
  have h3 := Blk.new ((w.alloc (.cells C TR)).alloc (.cells (sec S) TS)) TS (sec Sec.zero)
  simp only [World.size_alloc] at h2 h3
  have g1 := (Gr.refl w).alloc (Nat.le_refl _) (.cells C TR)
  have g2 := g1.alloc g1.size (.cells (sec S) TS)
  exact ⟨g2.alloc g2.size _, (h1.alloc _).alloc _, h2.alloc _, h3⟩
theorem PgAt.up {w W W' : World} {C : Array Value} {S Z : Sec} (h : PgAt w C S Z W) (g : Gr W W') : PgAt w C S Z W' :=
  ⟨Gr.trans h.gr g, h.c.below g h.c.lt, h.p.below g h.p.lt, h.z.below g h.z.lt⟩

set_option maxRecDepth 100000 in
set_option maxHeartbeats 4000000 in
theorem redo_any (c : Rc) (pb : Option Addr) (nb cb : Nat) (pa : Option Addr) (na ca : Nat) (ps : List Int) (w : World) (hb : Byt w pb nb cb c.b) (ha : Byt w pa na ca c.a) (hp : IsSec ps) (_ : c.In) :
    Calls Try.prog 49 #[.agg #[.int .i64 c.k, .int .u64 c.t, .int .u64 c.p, .int .u64 c.x, .int .i64 c.g, .int .i64 c.o, .slice pb nb cb, .slice pa na ca], .agg (sec (Sx ps))] w (RetRedo (redoL c ps) (redoB c) w) := by
  have HP := Lib.hid (PgAt.new w #[.int .i64 c.k, .int .u64 c.t, .int .u64 c.p, .int .u64 c.x, .int .i64 c.g, .int .i64 c.o, .slice pb nb cb, .slice pa na ca] (Sx ps))
  have HM := Lib.hid (fun W g => mayR_any c pb nb cb pa na ca W (hb.kept g) (ha.kept g))
  have HR : Hid (redoL c ps = (if redoB c then lay ps c.o.toNat c.a else ps) ∧ redoB c = (chB c.k && mayR c)) := Lib.hid ⟨rfl, rfl⟩
  have HF : Hid (mayR c = true → chB c.k = true → 0 ≤ c.o ∧ 1 ≤ c.a.length ∧ c.o + c.a.length ≤ 248) := Lib.hid (fun h1 h2 => by
    have h3 := (mayQ_iff.1 h1).2
    simp only [chB, Bool.or_eq_true, decide_eq_true_eq] at h2
    omega)
  have HX := Lib.hid hp
  have HA := Lib.hid ha
  have hz := zero_sec
  clear hb ha hp
  obtain ⟨k, t, p, x, g, o, b, a⟩ := c
  simp only at HP HM HR HF HA
  obtain ⟨c0, c1, c2, c3, c4, c5, c6, c7⟩ := HP.out.c.c8
  have HP0 := HP
  go_enter Try.func49, Try.ntmps49
  go_wp2_with fail
  clear HP0
  generalize (((w.alloc (.cells #[.int .i64 k, .int .u64 t, .int .u64 p, .int .u64 x, .int .i64 g, .int .i64 o, .slice pb nb cb, .slice pa na ca] TR)).alloc (.cells (sec (Sx ps)) TS)).alloc (.cells (sec Sec.zero) TS)) = W at HP c0 c1 c2 c3 c4 c5 c6 c7 ⊢
  refine (changes_any _ _).mono ?_
  rintro e w' ⟨rfl, rfl⟩
  cases hc : chB k
  · have HRN : Hid (redoL ⟨k, t, p, x, g, o, b, a⟩ ps = ps ∧ redoB ⟨k, t, p, x, g, o, b, a⟩ = false) := Lib.hid (by
      have h1 := HR.out
      rw [hc] at h1
      simp only [Bool.false_and] at h1
      obtain ⟨h1, h2⟩ := h1
      rw [h2] at h1
      exact ⟨h1, h2⟩)
    clear hc HR HF HM
    go_wp2_with (first | (refine wpList_load_x rfl _ rfl HP.out.p rfl ?_) | (refine wpList_store_x rfl _ _ rfl HP.out.z rfl rfl ?_))
    exact bodyPost_ret (results_x2 rfl _ _ _ _ rfl (HP.out.z.row _)) rfl ⟨by rw [HRN.out.1, HRN.out.2]; rfl, below_setRow HP.out.gr (by omega) _⟩
  · have HC := Lib.hid hc
    clear hc
    go_wp2_with fail
    refine (HM.out _ HP.out.gr).mono ?_
    rintro e W1 ⟨rfl, g1⟩
    have HP1 := Lib.hid (HP.out.up g1)
    clear g1 HP c0 c1 c2 c3 c4 c5 c6 c7 HM
    cases hm : mayR ⟨k, t, p, x, g, o, b, a⟩
    · have HRN : Hid (redoL ⟨k, t, p, x, g, o, b, a⟩ ps = ps ∧ redoB ⟨k, t, p, x, g, o, b, a⟩ = false) := Lib.hid (by
        have h1 := HR.out
        rw [hm] at h1
        simp only [Bool.and_false] at h1
        obtain ⟨h1, h2⟩ := h1
        rw [h2] at h1
        exact ⟨h1, h2⟩)
      clear hm HR HF
      go_wp2_with (first | (refine wpList_load_x rfl _ rfl HP1.out.p rfl ?_) | (refine wpList_store_x rfl _ _ rfl HP1.out.z rfl rfl ?_))
      exact bodyPost_ret (results_x2 rfl _ _ _ _ rfl (HP1.out.z.row _)) rfl ⟨by rw [HRN.out.1, HRN.out.2]; rfl, below_setRow HP1.out.gr (by omega) _⟩
    · have hf := HF.out hm HC.out
      obtain ⟨o, rfl⟩ := Int.eq_ofNat_of_zero_le hf.1
      have h1 : 1 ≤ a.length := hf.2.1
      have h2 : o + a.length ≤ 248 := by omega
      have HRN : Hid (redoL ⟨k, t, p, x, g, o, b, a⟩ ps = lay ps o a ∧ redoB ⟨k, t, p, x, g, o, b, a⟩ = true) := Lib.hid (by
        have h1 := HR.out
        rw [hm, HC.out] at h1
        simp only [Bool.and_true] at h1
        obtain ⟨h1, h2⟩ := h1
        rw [h2] at h1
        exact ⟨h1, h2⟩)
      clear hm HR HF hf
      have la := HA.out.len
      have l1 : 1 ≤ na := by omega
      have l2 : o + na ≤ 248 := by omega
      clear h1 h2 la
      have HQ := Lib.hid (Blk.new W1 TS (sec Sec.zero))
      go_upto_region 4 with (first | (refine wpList_load_x rfl _ rfl HP1.out.p rfl ?_) | (refine wpList_store_x rfl _ _ rfl HQ.out rfl rfl ?_))
      have hg2 := below_setRow ((Gr.refl W1).alloc (Nat.le_refl _) (.cells (sec Sec.zero) TS)) (Nat.le_refl _) (sec (Sx ps))
      have HQ2 := Lib.hid (HQ.out.row (sec (Sx ps)))
      have HP2 := Lib.hid (HP1.out.up hg2)
      have HA2 := Lib.hid (HA.out.kept HP2.out.gr)
      have HLT := Lib.hid HP1.out.z.lt
      generalize (W1.alloc (.cells (sec Sec.zero) TS)).setRow W1.heap.size (sec (Sx ps)) = W2 at hg2 HQ2 HP2 HA2 ⊢
      obtain ⟨R, hR⟩ : ∃ R, R = W1.heap.size := ⟨_, rfl⟩
      rw [← hR] at HQ2 HLT ⊢
      clear hR hg2 HQ HP1 HA hz
      have l3 : o ≤ 248 := by omega
      have HP3 := Lib.hid (HP2.out.up (Gr.refl W2).drew)
      have HQ3 := Lib.hid (HQ2.out.heap (w' := W2.drew) rfl)
      have HA3 := Lib.hid (HA2.out.heap (w' := W2.drew) rfl)
      have l4 : (o : Int) ≤ 248 := by omega
      have l6 : ¬ 248 = o := by omega
      have l5 : (0 : Int) ≤ (o : Int) := by omega
      refine Flow.regionZ 5 0 (by kernel_rfl) [] 12 (SlRd w.heap.size R o pa na ca) (fun W => W = W2.drew) (fun W => W = W2.drew.setRow R (sec (Sx (lay ps o a)))) (fun _ => True) (fun _ _ _ => True) (by kernel_rfl) (by kernel_rfl) (by kernel_rfl) (fun _ _ _ _ _ _ h _ => h) rfl True.intro ?steps ?fin
      case steps =>
        refine Flow.StepsZ.cons (fun A W hfr hinv hear hdep K hK => ?_) ?_
        · have s2 : A.tmps.getD 2 undef = .pointer (some ⟨w.heap.size, 0, none⟩) := hfr.at 2 (by kernel_rfl)
          have t2 : A.tmps[2]?.getD undef = .pointer (some ⟨w.heap.size, 0, none⟩) := by simpa using s2
          rw [if_pos (Flow.wanted_none rfl)]
          clear hfr hdep
          subst hinv
          go_simp
          exact hK _ _ True.intro rfl True.intro (fun d hd => by cases hd; trivial)
        refine Flow.StepsZ.cons (fun A W hfr hinv hear hdep K hK => ?_) ?_
        · have s18 : A.tmps.getD 18 undef = .pointer (some ⟨w.heap.size, 5, none⟩) := hdep 18 (by kernel_rfl)
          have t18 : A.tmps[18]?.getD undef = .pointer (some ⟨w.heap.size, 5, none⟩) := by simpa using s18
          rw [if_pos (Flow.wanted_none rfl)]
          clear hfr hdep
          subst hinv
          obtain ⟨c0, c1, c2, c3, c4, c5, c6, c7⟩ := HP3.out.c.c8
          go_simp
          exact hK _ _ True.intro rfl (fun h => h) (fun d hd => by cases hd; trivial)
        refine Flow.StepsZ.cons (fun A W hfr hinv hear hdep K hK => ?_) ?_
        · have s6 : A.tmps.getD 6 undef = .pointer (some ⟨R, 0, none⟩) := hfr.at 6 (by kernel_rfl)
          have t6 : A.tmps[6]?.getD undef = .pointer (some ⟨R, 0, none⟩) := by simpa using s6
          have s19 : A.tmps.getD 19 undef = .int .i64 o := hdep 19 (by kernel_rfl)
          have t19 : A.tmps[19]?.getD undef = .int .i64 o := by simpa using s19
          rw [if_pos (Flow.wanted_none rfl)]
          clear hfr hdep
          subst hinv
          go_simp
          exact hK _ _ True.intro rfl (fun h => h) (fun d hd => by cases hd; trivial)
        refine Flow.StepsZ.cons (fun A W hfr hinv hear hdep K hK => ?_) ?_
        · have s2 : A.tmps.getD 2 undef = .pointer (some ⟨w.heap.size, 0, none⟩) := hfr.at 2 (by kernel_rfl)
          have t2 : A.tmps[2]?.getD undef = .pointer (some ⟨w.heap.size, 0, none⟩) := by simpa using s2
          rw [if_pos (Flow.wanted_none rfl)]
          clear hfr hdep
          subst hinv
          go_simp
          exact hK _ _ True.intro rfl (fun h => h) (fun d hd => by cases hd; trivial)
        refine Flow.StepsZ.cons (fun A W hfr hinv hear hdep K hK => ?_) ?_
        · have s21 : A.tmps.getD 21 undef = .pointer (some ⟨w.heap.size, 7, none⟩) := hdep 21 (by kernel_rfl)
          have t21 : A.tmps[21]?.getD undef = .pointer (some ⟨w.heap.size, 7, none⟩) := by simpa using s21
          rw [if_pos (Flow.wanted_none rfl)]
          clear hfr hdep
          subst hinv
          obtain ⟨c0, c1, c2, c3, c4, c5, c6, c7⟩ := HP3.out.c.c8
          go_simp
          exact hK _ _ True.intro rfl (fun h => h) (fun d hd => by cases hd; trivial)
        refine Flow.StepsZ.cons (fun A W hfr hinv hear hdep K hK => ?_) ?_
        · have s20 : A.tmps.getD 20 undef = .slice (some ⟨R, o, none⟩) (248 - o) (248 - o) := hdep 20 (by kernel_rfl)
          have t20 : A.tmps[20]?.getD undef = .slice (some ⟨R, o, none⟩) (248 - o) (248 - o) := by simpa using s20
          have s22 : A.tmps.getD 22 undef = .slice pa na ca := hdep 22 (by kernel_rfl)
          have t22 : A.tmps[22]?.getD undef = .slice pa na ca := by simpa using s22
          rw [if_pos (Flow.wanted_none rfl)]
          clear hfr hdep
          subst hinv
          refine wp_copy_sec (ops := #[]) rfl (.tmp 20) (.tmp 22) rfl (by simpa [Act.eval] using s20) HQ3.out HX.out (by simpa [Act.eval] using s22) HA3.out (by omega) (by omega) (by omega) ?_
          exact hK _ _ True.intro rfl True.intro (fun d hd => by cases hd; trivial)
        exact True.intro
      case fin =>
        intro A W hfr hfin hsl
        subst hfin
        have e := Flow.frame hfr [18, 19, 20, 21, 22, 23] (List.range 25) (by kernel_rfl) (by kernel_rfl)
        simp [List.range, List.range.loop] at e
        rw [e]
        clear e hfr hsl
        first
        | (rename_i hB; refine hB _ _ ?_)
        | (rename_i hB y0; refine hB _ _ ?_)
        | (rename_i hB y0 y1; refine hB _ _ ?_)
        | (rename_i hB y0 y1 y2; refine hB _ _ ?_)
        | (rename_i hB y0 y1 y2 y3; refine hB _ _ ?_)
        | (rename_i hB y0 y1 y2 y3 y4; refine hB _ _ ?_)
        | (rename_i hB y0 y1 y2 y3 y4 y5; refine hB _ _ ?_)
        | (rename_i hB y0 y1 y2 y3 y4 y5 y6; refine hB _ _ ?_)
        | (rename_i hB y0 y1 y2 y3 y4 y5 y6 y7; refine hB _ _ ?_)
        | (rename_i hB y0 y1 y2 y3 y4 y5 y6 y7 y8; refine hB _ _ ?_)
        have HQ4 := Lib.hid (HQ3.out.row (sec (Sx (lay ps o a))))
        have HZ4 : Hid (Blk (W2.drew.setRow R (sec (Sx (lay ps o a)))) (w.heap.size + 1 + 1) TS (sec Sec.zero)) := Lib.hid ((setRow_other W2.drew R (w.heap.size + 1 + 1) (sec (Sx (lay ps o a))) (by have := HLT.out; omega)).trans HP2.out.z)
        have HG4 : Hid (Gr w (W2.drew.setRow R (sec (Sx (lay ps o a))))) := Lib.hid (below_setRow (Below.drew HP2.out.gr) (by have := HLT.out; omega) _)
        go_wp2_with (first | (refine wpList_load_x rfl _ rfl HQ4.out rfl ?_) | (refine wpList_store_x rfl _ _ rfl HZ4.out rfl rfl ?_))
        exact bodyPost_ret (results_x2 rfl _ _ _ _ rfl (HZ4.out.row _)) rfl ⟨by rw [HRN.out.1, HRN.out.2]; rfl, below_setRow HG4.out (by omega) _⟩

end Go.Proofs.Ytchfhgeipmfegaa
