/-
  Texts on locks, put together: Lk7 LkRange.
-/
import Derived.Deep.RegionWith
import Derived.Deep.DeepCutAuto
import Derived.Deep.CutBlock
import Derived.Test.YtadopbpfnnpnaaaGreatL1
import Derived.Test.YtadopbpfnnpnaaaGreatL4
set_option linter.unusedVariables false
set_option linter.unusedSimpArgs false
/-
  The code's table of locks: give.
-/
namespace Go.Proofs.YtadopbpfnnpnaaaGreat
open Go.RowKit Go.Maps

def SlGive5 (_ : Nat) (b : Nat) (hp : Nat) (k1 : Int) (k2 : Int) (O1 : Int) (O2 : Int) (O3 : Int) (Y : Bool) (slot : Nat) (v : Value) (_ : World) : Prop :=
  match slot with
  | 30 | 31 => v = .pointer (some ⟨b, 0, none⟩)
  | 32 => v = .agg #[.map (some hp), .int .i64 O1, .int .i64 O2, .int .i64 O3]
  | 33 => v = .agg #[.int .i64 k1, .int .i64 k2]
  | 34 => v = .bool Y
  | 35 => v = .bool (!Y)
  | _ => True


/-- A key has a lock. -/
def Lk.zero : Lk := ⟨0, [], [], false⟩
def Tb.locked (T : Tb) (k : Key) : Tb := match T.lk k with | none => { T with lk := updF T.lk k (some Lk.zero), kk := putK k T.kk } | some _ => T
def Tb.lkOf (T : Tb) (k : Key) : Lk := (T.lk k).getD Lk.zero
def Tb.ready (T : Tb) (o : Nat) (k : Key) : Tb := (T.made o).locked k
def Tb.give (T : Tb) (o : Nat) (k : Key) (m : Int) : Tb :=
  { T.ready o k with
    many := if k ∈ ((T.ready o k).of o).ks then (T.ready o k).many else (T.ready o k).many + 1
    lk := updF (T.ready o k).lk k (some { (T.ready o k).lkOf k with mode := m, hs := putK o ((T.ready o k).lkOf k).hs })
    py := updF (T.ready o k).py o (some { (T.ready o k).of o with ks := putK k ((T.ready o k).of o).ks }) }
theorem made_py (T : Tb) (o : Nat) : (T.made o).py o = some (T.of o) := by
  unfold Tb.made Tb.of
  cases e : T.py o with
  | none => simp [updF_same]
  | some p => simp [e]
theorem made_lk (T : Tb) (o : Nat) : (T.made o).lk = T.lk := by
  unfold Tb.made
  cases e : T.py o <;> rfl
theorem locked_py (T : Tb) (k : Key) : (T.locked k).py = T.py := by
  unfold Tb.locked
  cases e : T.lk k <;> rfl
theorem locked_lk (T : Tb) (k : Key) : (T.locked k).lk k = some (T.lkOf k) := by
  unfold Tb.locked Tb.lkOf
  cases e : T.lk k with
  | none => simp [updF_same]
  | some p => simp [e]
theorem ready_py (T : Tb) (o : Nat) (k : Key) : (T.ready o k).py o = some (T.of o) := by rw [Tb.ready, locked_py, made_py]
theorem ready_of (T : Tb) (o : Nat) (k : Key) : (T.ready o k).of o = T.of o := by rw [Tb.of, ready_py]; rfl
theorem ready_lk (T : Tb) (o : Nat) (k : Key) : (T.ready o k).lk k = some (T.lkOf k) := by rw [Tb.ready, locked_lk, Tb.lkOf, made_lk]; rfl
theorem ready_lkOf (T : Tb) (o : Nat) (k : Key) : (T.ready o k).lkOf k = T.lkOf k := by rw [Tb.lkOf, ready_lk]; rfl
theorem updF_self {α β : Type} [DecidableEq α] (f : α → Option β) (a : α) : updF f a (f a) = f := by
  funext b
  unfold updF
  split
  · rename_i e; rw [e]
  · rfl
theorem unitF_put {α : Type} [DecidableEq α] (ks : List α) (a : α) : updF (unitF ks) a (some (.agg #[])) = unitF (putK a ks) := by
  funext b
  unfold updF unitF
  by_cases e : b = a
  · simp [e, mem_putK]
  · simp [e, mem_putK]
/-- What give leaves: the key's lock, if there was one, is where it was. -/
def RetGive (t km om : Nat) (B : Tag → Option Nat) (T : Tb) (k : Key) (T' : Tb) (w : World) (e : Ending) (w' : World) : Prop :=
  ∃ B', e = .returned (.tuple #[]) ∧ TbAt w' t km om B' T' ∧ Tn w w' B B' ∧ ((T.lk k).isSome = true → B' (.lk k) = B (.lk k))
section
variable {w : World} {t km om : Nat} {B : Tag → Option Nat} {T : Tb}
theorem TbAt.ne (h : TbAt w t km om B T) {a c : Tag} {n m : Nat} (ha : B a = some n) (hc : B c = some m) (e : a ≠ c) : n ≠ m := fun e2 => e (h.inj _ _ _ ha (by rw [e2]; exact hc))
theorem Blk.drew {w : World} {g : Nat} {t : TypeId} {cs : Array Value} (h : Blk w g t cs) : Blk w.drew g t cs := h
theorem Tn.blk {w w' : World} {B B' : Tag → Option Nat} (h : Tn w w' B B') {n : Nat} {ty : TypeId} {cs : Array Value} (hb : Blk w n ty cs) (hn : ¬ FB B n) : Blk w' n ty cs := hb.stays (h.onl.block n hb.lt hn)
theorem Tn.far {w w' : World} {B B' : Tag → Option Nat} (h : Tn w w' B B') {n : Nat} (hl : n < w.heap.size) (hn : ¬ FB B n) : ¬ FB B' n := fun ⟨a, ha⟩ => by
  rcases h.new a n ha with h1 | h1
  · exact hn h1
  · omega
set_option maxRecDepth 100000 in
set_option maxHeartbeats 2000000 in
theorem give_any (h : TbAt w t km om B T) {o : Nat} (ho : KO.dom o) {k : Key} (hk : KL.dom k) (m : Int) (hoo : T.oo.length < maxLen) (hkk : T.kk.length < maxLen)
    (hhs : (T.lkOf k).hs.length < maxLen) (hks : (T.of o).ks.length < maxLen) (hmn : -1000000000 ≤ T.many ∧ T.many ≤ 1000000000) :
    Calls Tryz.prog 37 #[.pointer (some ⟨t, 0, none⟩), .int .u64 (o : Int), kv k, .int .i64 m] w (RetGive t km om B T k (T.give o k m) w) := by
  have g1 : Gr w (w.alloc (.cells #[.int .i64 k.1, .int .i64 k.2] TKey)) := (Gr.refl w).alloc (Nat.le_refl _) _
  have h1 := h.gr g1
  have b6 := (Blk.new w TKey #[.int .i64 k.1, .int .i64 k.2])
  obtain ⟨k1, hk1⟩ : ∃ x, x = k.1 := ⟨_, rfl⟩
  obtain ⟨k2, hk2⟩ : ∃ x, x = k.2 := ⟨_, rfl⟩
  show Calls Tryz.prog 37 #[.pointer (some ⟨t, 0, none⟩), .int .u64 (o : Int), .agg #[.int .i64 k.1, .int .i64 k.2], .int .i64 m] w _
  rw [← hk1, ← hk2] at g1 h1 b6 ⊢
  obtain ⟨W0, hW0⟩ : ∃ W0, W0 = w.alloc (.cells #[.int .i64 k1, .int .i64 k2] TKey) := ⟨_, rfl⟩
  rw [← hW0] at g1 h1 b6
  have hkb : ¬ FB B w.heap.size := fun ⟨a, ha⟩ => by have := h.lt a _ ha; omega
  have c0 := h1.c3.1
  have hkv : kv k = .agg #[.int .i64 k1, .int .i64 k2] := by rw [hk1, hk2]; rfl
  have hl := fun q => (h1.stays (w' := W0.drewN q) (fun _ _ _ => rfl)).look hk
  rw [hkv] at hl
  have HL := Lib.hid hl
  have H1 := Lib.hid h1
  have HB := Lib.hid b6
  have HG := Lib.hid g1
  have HK := Lib.hid hkv
  have HN := Lib.hid hkb
  have HM := Lib.hid (fun q => made_any (h1.stays (w' := W0.drewN q) (fun _ _ _ => rfl)) ho hoo)
  obtain ⟨kb, hkbe⟩ : ∃ kb, kb = w.heap.size := ⟨_, rfl⟩
  rw [← hkbe] at HB HN
  have hbT : Hid (B (.lk k) = none ∧ T.lk k = none ∨ ∃ b, B (.lk k) = some b ∧ T.lk k = some (T.lkOf k)) := by
    refine Lib.hid ?_
    cases e : T.lk k with
    | none => exact .inl ⟨(h.lk0 k e).1, rfl⟩
    | some l =>
      obtain ⟨b, _, _, e1, _⟩ := h.lk k l e
      exact .inr ⟨b, e1, by rw [Tb.lkOf, e]; rfl⟩
  have x0 := HB.out.cell 0
  have x1 := HB.out.cell 1
  simp at x0 x1
  have HW0 := Lib.hid (And.intro hW0 (And.intro hkbe (And.intro hk1 hk2)))
  clear h h1 b6 g1 hkb hl hkv hW0 hkbe hk1 hk2
  go_enter Tryz.func37, Tryz.ntmps37
  go_upto_region 1 with fail
  rw [show (w.alloc (.cells #[.int .i64 k1, .int .i64 k2] 33)) = W0 from HW0.out.1.symm, ← HW0.out.2.1]
  go_cut [8, 9] (fun s8 s9 wc => Hid (∃ b B', s8 = ptrB (B (.lk k)) ∧ s9 = .pointer (some ⟨b, 0, none⟩) ∧ B' (.py o) = some b ∧ B' (.lk k) = B (.lk k) ∧ TbAt wc t km om B' (T.made o) ∧ Tn W0 wc B B'))
  case first =>
    have hl' : (Instr.lookup TMk (.map (some km)) (.agg #[.int .i64 k1, .int .i64 k2]) false).run Tryz.prog W0.drew = .ok (ptrB (B (.lk k))) W0.drew := HL.out 1
    have HM1 : Hid (Calls Tryz.prog 52 #[.pointer (some ⟨t, 0, none⟩), .int .u64 (o : Int)] W0.drew (RetMade t km om B T o W0.drew)) := Lib.hid (HM.out 1)
    obtain ⟨pl, hpl⟩ : ∃ pl, pl = ptrB (B (.lk k)) := ⟨_, rfl⟩
    rw [← hpl] at hl'
    have HPl := Lib.hid hpl
    clear hpl
    go_region_with (go_at_call 52; refine HM1.out.mono ?_; rintro e w2 ⟨b, B', rfl, q1, q2, q3, q4⟩; have hl2 := q2.look hk; rw [(q4 k).1, ← HPl.out, HK.out] at hl2; have d0 := q2.c3.1; have y0 := (q3.blk (HB.out.drew) HN.out).cell 0; have y1 := (q3.blk (HB.out.drew) HN.out).cell 1; simp at y0 y1; have Q := Lib.hid (And.intro q1 (And.intro q2 (And.intro q3 (q4 k).1))); clear q1 q2 q3 q4)
    all_goals
      go_wp2_with fail
      go_meet
      exact Lib.hid ⟨_, _, HPl.out, rfl, Q.out.1, Q.out.2.2.2, Q.out.2.1, (Tn.of_gr (Gr.refl W0).drew).trans Q.out.2.2.1⟩
  case rest =>
    obtain ⟨b, B1, e8, e9, q1, q2, q3, q4⟩ := hcut.out
    have hbl1 : T.lk k = none → B1 (.lk k) = none ∧ B1 (.hm k) = none := fun e => ⟨(q3.lk0 k (by rw [made_lk]; exact e)).1, (q3.lk0 k (by rw [made_lk]; exact e)).2.1⟩
    subst e9
    have HBK := Lib.hid (q4.blk HB.out HN.out)
    have HFar := Lib.hid (q4.far HB.out.lt HN.out)
    have HQ := Lib.hid (And.intro q1 (And.intro q2 (And.intro q3 q4)))
    have hrd : T.ready o k = (T.made o).locked k := rfl
    clear hcut x0 x1 c0
    obtain ⟨X, hX⟩ : ∃ X, X = (B (.lk k)).isNone := ⟨_, rfl⟩
    have hq1 : (eqGuard .eql 52 (.tmp 19) (.const (.pointer none)) u8 (.pointer none)).run Tryz.prog wc = .ok () wc := by
      rw [e8]; cases B (.lk k) <;> rfl
    have hq2 : (binOp .eql 52 u8 (.pointer none)).run Tryz.prog wc = .ok (.bool X) wc := by
      rw [e8, hX]; cases B (.lk k) <;> rfl
    have HE8 := Lib.hid (And.intro e8 hX)
    clear e8 hX
    go_upto_if 20 with fail
    go_cut [8] (fun s8 wd => Hid (∃ bl B2, s8 = .pointer (some ⟨bl, 0, none⟩) ∧ B2 (.lk k) = some bl ∧ B2 (.py o) = some b ∧ TbAt wd t km om B2 (T.ready o k) ∧ Tn W0 wd B B2 ∧ ((T.lk k).isSome = true → B2 (.lk k) = B (.lk k))))
    case first =>
      rcases hbT.out with ⟨n1, n2⟩ | ⟨bl, n1, n2⟩
      · obtain ⟨e8, hX⟩ := HE8.out
        rw [n1] at e8 hX
        have e8' : u8 = .pointer none := e8
        have hX' : X = true := hX
        subst e8' hX'
        have hmk : (T.made o).lk k = none := by rw [made_lk]; exact n2
        have hkk1 : (T.made o).kk = T.kk := by unfold Tb.made; cases T.py o <;> rfl
        have g1 : Gr wc (wc.alloc (.map #[] 0)) := (Gr.refl wc).alloc (Nat.le_refl _) _
        have g2 : Gr (wc.alloc (.map #[] 0)) ((wc.alloc (.map #[] 0)).alloc (.cells #[.int .i64 0, .map (some wc.heap.size), .slice none 0 0] TLk)) := (Gr.refl _).alloc (Nat.le_refl _) _
        have hb := Blk.new (wc.alloc (.map #[] 0)) TLk #[.int .i64 0, .map (some wc.heap.size), .slice none 0 0]
        have m1 : Mp Tryz.prog KO (wc.alloc (.map #[] 0)) wc.heap.size (fun _ => none) [] := Mp.made wc
        have h2 := q3.gr (Gr.trans g1 g2)
        rw [World.size_alloc] at hb
        have d1 := h2.c3.1
        have b2 := HBK.out.gr (Gr.trans g1 g2)
        have y0 := b2.cell 0
        have y1 := b2.cell 1
        simp at y0 y1
        obtain ⟨W, hW⟩ : ∃ W, W = (wc.alloc (.map #[] 0)).alloc (.cells #[.int .i64 0, .map (some wc.heap.size), .slice none 0 0] TLk) := ⟨_, rfl⟩
        rw [← hW] at g2 hb h2 d1 y0 y1
        have h2d : TbAt W.drew t km om B1 (T.made o) := h2.stays (fun _ _ _ => rfl)
        obtain ⟨w3, hrun, hM, hG⟩ := h2d.keys.store KL_ok (by rw [hkk1]; exact hkk) (t := TMk) Tryz.underlying48 hk (.pointer (some ⟨wc.heap.size + 1, 0, none⟩))
        rw [show KL.val k = kv k from rfl, HK.out] at hrun
        have hml := m1.lt
        have hgW : Gr wc W.drew := Gr.trans g1 (Gr.trans g2 (Gr.refl _).drew)
        have hne : ∀ n, n < W.heap.size → n ≠ km → w3.heap[n]? = W.heap[n]? := fun n h1 h2 => hG.block n h1 fun e => h2 (by cases e; rfl)
        have hkml : km < wc.heap.size := q3.keys.lt
        have hl3 : LkAt w3 (some (wc.heap.size + 1)) (some wc.heap.size) none Lk.zero :=
          ⟨_, _, _, rfl, rfl, hb.stays (hne _ hb.lt (by omega)), (m1.stays (g2.block _ hml)).stays (hne _ (by have := g2.size; omega) (by omega)), .inl ⟨rfl, rfl, rfl⟩⟩
        have hw : Onl (fun n => n = km) wc w3 := (Onl.of_gr hgW).trans (Onl.of_grown (S := fun n => n = km) hG rfl) (fun _ _ e => e)
        obtain ⟨r1, r2⟩ := q3.addLk hmk (by omega) (by omega) (by omega) hw hl3 hM
        have hT : { T.made o with lk := updF (T.made o).lk k (some Lk.zero), kk := putK k (T.made o).kk } = T.ready o k := by
          rw [hrd, Tb.locked, hmk]
        rw [hT] at r1
        have HR : Hid (∃ bl B2, Value.pointer (some ⟨wc.heap.size + 1, 0, none⟩) = .pointer (some ⟨bl, 0, none⟩) ∧ B2 (.lk k) = some bl ∧ B2 (.py o) = some b ∧ TbAt w3 t km om B2 (T.ready o k) ∧ Tn W0 w3 B B2 ∧ ((T.lk k).isSome = true → B2 (.lk k) = B (.lk k))) := Lib.hid
          ⟨_, _, rfl, by rw [updF_other _ _ (by simp), updF_same], by rw [updF_other _ _ (by simp), updF_other _ _ (by simp)]; exact q1, r1, q4.trans r2, fun e => by rw [n2] at e; cases e⟩
        have hmm := @run_makeMap Tryz.prog
        rw [hW] at hrun d1 y0 y1
        clear q1 q2 q3 q4 hb m1 h2 h2d hM hG hml hgW hne hkml hl3 hw r1 r2 hT hmk hkk1 g1 g2 hW n1 n2 e8 hrd hbl1 b2 hq1 hq2 hX HE8
        go_wp2_with fail
        go_region_with (fail)
        all_goals
          go_wp2_with fail
          go_meet
          exact HR.out
      · obtain ⟨e8, hX⟩ := HE8.out
        rw [n1] at e8 hX
        have e8' : u8 = .pointer (some ⟨bl, 0, none⟩) := e8
        have hX' : X = false := hX
        subst e8' hX'
        have hT : T.ready o k = T.made o := by rw [hrd, Tb.locked, made_lk, n2]
        have HR : Hid (∃ bl' B2, Value.pointer (some ⟨bl, 0, none⟩) = .pointer (some ⟨bl', 0, none⟩) ∧ B2 (.lk k) = some bl' ∧ B2 (.py o) = some b ∧ TbAt wc t km om B2 (T.ready o k) ∧ Tn W0 wc B B2 ∧ ((T.lk k).isSome = true → B2 (.lk k) = B (.lk k))) := Lib.hid
          ⟨_, B1, rfl, by rw [q2, n1], q1, by rw [hT]; exact q3, q4, fun _ => q2⟩
        clear q1 q2 q3 q4 n1 n2 e8 hrd hbl1 hT hq1 hq2 hX HE8
        go_wp2_with fail
        go_meet
        exact HR.out
    case rest =>
      obtain ⟨bl, B2, e8, p1, p2, p3, p4, p5⟩ := hcut.out
      subst e8
      have HKB := Lib.hid (p4.blk HB.out HN.out)
      have HFr := Lib.hid (p4.far HB.out.lt HN.out)
      have hk2 := ready_lk T o k
      have ho2 := ready_py T o k
      have hmn2 : (T.ready o k).many = T.many := by
        unfold Tb.ready Tb.locked Tb.made
        cases T.py o <;> (simp only; split <;> rfl)
      obtain ⟨T2, hT2⟩ : ∃ T2, T2 = T.ready o k := ⟨_, rfl⟩
      rw [← hT2] at p3 hk2 ho2 hmn2
      obtain ⟨L, hL⟩ : ∃ L, L = T.lkOf k := ⟨_, rfl⟩
      obtain ⟨P, hP⟩ : ∃ P, P = T.of o := ⟨_, rfl⟩
      rw [← hL] at hk2 hhs
      rw [← hP] at ho2 hks
      have hgive : T.give o k m = { T2 with many := if k ∈ P.ks then T2.many else T2.many + 1, lk := updF T2.lk k (some { L with mode := m, hs := putK o L.hs }), py := updF T2.py o (some { P with ks := putK k P.ks }) } := by
        unfold Tb.give
        rw [← hT2, hT2, ready_of, ready_lkOf, ← hP, ← hL]
      obtain ⟨b', hp, f1, f2, f3, f4⟩ := p3.py o P ho2
      rw [p2] at f1
      cases f1
      have HGive := Lib.hid hgive
      have HA := Lib.hid (fun V (g : Gr wc V) => has_any V (a := .int .i64 P.key.1) (b := .int .i64 P.key.2) (m := .int .i64 P.mode) rfl rfl rfl (.inr ⟨hp, rfl, f4.stays (g.block _ f4.lt)⟩) hk)
      rw [HK.out] at HA
      have HPb := Lib.hid (fun V (g : Gr wc V) => f3.gr g)
      obtain ⟨Y, hY⟩ : ∃ Y, Y = decide (k ∈ P.ks) := ⟨_, rfl⟩
      obtain ⟨O1, hO1⟩ : ∃ O1, O1 = P.key.1 := ⟨_, rfl⟩
      obtain ⟨O2, hO2⟩ : ∃ O2, O2 = P.key.2 := ⟨_, rfl⟩
      obtain ⟨O3, hO3⟩ : ∃ O3, O3 = P.mode := ⟨_, rfl⟩
      rw [← hO1, ← hO2, ← hO3] at HA HPb
      rw [← hY] at HA
      have HEq := Lib.hid (And.intro hk2 (And.intro ho2 (And.intro hmn2 (And.intro hY (And.intro hO1 (And.intro hO2 hO3))))))
      have HP := Lib.hid (And.intro p1 (And.intro p2 (And.intro p3 (And.intro p4 f2))))
      have HP5 := Lib.hid p5
      clear p5
      clear hcut hgive hk2 ho2 hmn2 hY hO1 hO2 hO3 hT2 hL hP f3 f4 f2 p1 p2 p3 p4 hrd hbl1 hq1 hq2 HE8 q1 q2 q3 q4
      go_upto_region 5 with fail
      refine Flow.region (SlGive5 kb b hp k1 k2 O1 O2 O3 Y) (Gr wc) (fun _ _ => True) (by kernel_rfl) (by kernel_rfl) (fun _ _ _ _ h _ => h) ⟨rfl, rfl, rfl, Nat.le_refl _, fun _ _ => rfl⟩ ?steps ?fin
      case steps =>
        refine Flow.Steps.cons (fun a W hfr hinv hdep K hK => ?_) ?_
        · have s9 : a.tmps.getD 9 undef = .pointer (some ⟨b, 0, none⟩) := hfr.at 9 (by kernel_rfl)
          have t9 : a.tmps[9]?.getD undef = .pointer (some ⟨b, 0, none⟩) := by simpa using s9
          rw [if_pos (Flow.wanted_none rfl)]
          clear hfr hdep
          go_simp
          exact hK _ _ True.intro hinv (fun d hd => by cases hd; trivial)
        refine Flow.Steps.cons (fun a W hfr hinv hdep K hK => ?_) ?_
        · have s30 : a.tmps.getD 30 undef = .pointer (some ⟨b, 0, none⟩) := hdep 30 (by kernel_rfl)
          have t30 : a.tmps[30]?.getD undef = .pointer (some ⟨b, 0, none⟩) := by simpa using s30
          rw [if_pos (Flow.wanted_none rfl)]
          clear hfr hdep
          go_simp
          exact hK _ _ True.intro hinv (fun d hd => by cases hd; trivial)
        refine Flow.Steps.cons (fun a W hfr hinv hdep K hK => ?_) ?_
        · have s31 : a.tmps.getD 31 undef = .pointer (some ⟨b, 0, none⟩) := hdep 31 (by kernel_rfl)
          have t31 : a.tmps[31]?.getD undef = .pointer (some ⟨b, 0, none⟩) := by simpa using s31
          have kc := (HKB.out.gr hinv).cell 0; have kd := (HKB.out.gr hinv).cell 1; have pa := (HPb.out W hinv).cell 0; have pb := (HPb.out W hinv).cell 1; have pc := (HPb.out W hinv).cell 2; have pd := (HPb.out W hinv).cell 3; simp at kc kd pa pb pc pd
          rw [if_pos (Flow.wanted_none rfl)]
          clear hfr hdep
          go_simp
          exact hK _ _ True.intro hinv (fun d hd => by cases hd; trivial)
        refine Flow.Steps.cons (fun a W hfr hinv hdep K hK => ?_) ?_
        · have s6 : a.tmps.getD 6 undef = .pointer (some ⟨kb, 0, none⟩) := hfr.at 6 (by kernel_rfl)
          have t6 : a.tmps[6]?.getD undef = .pointer (some ⟨kb, 0, none⟩) := by simpa using s6
          have kc := (HKB.out.gr hinv).cell 0; have kd := (HKB.out.gr hinv).cell 1; have pa := (HPb.out W hinv).cell 0; have pb := (HPb.out W hinv).cell 1; have pc := (HPb.out W hinv).cell 2; have pd := (HPb.out W hinv).cell 3; simp at kc kd pa pb pc pd
          rw [if_pos (Flow.wanted_none rfl)]
          clear hfr hdep
          go_simp
          exact hK _ _ True.intro hinv (fun d hd => by cases hd; trivial)
        refine Flow.Steps.cons (fun a W hfr hinv hdep K hK => ?_) ?_
        · have s32 : a.tmps.getD 32 undef = .agg #[.map (some hp), .int .i64 O1, .int .i64 O2, .int .i64 O3] := hdep 32 (by kernel_rfl)
          have t32 : a.tmps[32]?.getD undef = .agg #[.map (some hp), .int .i64 O1, .int .i64 O2, .int .i64 O3] := by simpa using s32
          have s33 : a.tmps.getD 33 undef = .agg #[.int .i64 k1, .int .i64 k2] := hdep 33 (by kernel_rfl)
          have t33 : a.tmps[33]?.getD undef = .agg #[.int .i64 k1, .int .i64 k2] := by simpa using s33
          rw [if_pos (Flow.wanted_none rfl)]
          clear hfr hdep
          go_simp
          refine (HA.out W hinv).mono ?_
          rintro e W' ⟨rfl, g1⟩
          exact hK _ _ True.intro (Gr.trans hinv g1) (fun d hd => by cases hd; trivial)
        refine Flow.Steps.cons (fun a W hfr hinv hdep K hK => ?_) ?_
        · have s34 : a.tmps.getD 34 undef = .bool Y := hdep 34 (by kernel_rfl)
          have t34 : a.tmps[34]?.getD undef = .bool Y := by simpa using s34
          rw [if_pos (Flow.wanted_none rfl)]
          clear hfr hdep
          go_simp
          exact hK _ _ True.intro hinv (fun d hd => by cases hd; trivial)
        exact True.intro
      case fin =>
        intro a W hfr hfin hsl
        have s35 : a.tmps.getD 35 undef = .bool (!Y) := hsl 5 _ 35 rfl rfl
        have t35 : a.tmps[35]?.getD undef = .bool (!Y) := by simpa using s35
        have e := Flow.frame hfr [30, 31, 32, 33, 34, 35] (List.range 59) (by kernel_rfl) (by kernel_rfl)
        simp [List.range, List.range.loop] at e
        rw [t35] at e
        rw [e]
        clear e hfr hsl s35 t35
        rename_i K2 hK2
        refine hK2 _ _ ?_
        have HGW : Hid (Gr wc W) := Lib.hid hfin
        clear hfin
        have c2 := (HP.out.2.2.1.gr HGW.out).c3.2.2
        have c2f := (HP.out.2.2.1.gr HGW.out).blk.frozen 2
        have hlo : -1000000000 ≤ T2.many ∧ T2.many ≤ 1000000000 := by rw [HEq.out.2.2.1]; exact hmn
        obtain ⟨N, hN⟩ : ∃ N, N = T2.many := ⟨_, rfl⟩
        rw [← hN] at c2 hlo
        have HNN := Lib.hid hN
        obtain ⟨hlo1, hlo2⟩ := hlo
        clear hN
        go_upto_if 35 with fail
        go_cut [] (fun wd => Hid (TbAt wd t km om B2 { T2 with many := if k ∈ P.ks then T2.many else T2.many + 1 } ∧ Tn wc wd B2 B2))
        case first =>
          cases Y with
          | true =>
            go_wp2_with fail
            go_meet
            have hin : k ∈ P.ks := of_decide_eq_true HEq.out.2.2.2.1.symm
            refine Lib.hid ⟨?_, Tn.of_gr HGW.out⟩
            rw [if_pos hin]
            exact HP.out.2.2.1.gr HGW.out
          | false =>
            go_wp2_with fail
            go_meet
            have hin : ¬ k ∈ P.ks := of_decide_eq_false HEq.out.2.2.2.1.symm
            obtain ⟨r1, r2⟩ := (HP.out.2.2.1.gr HGW.out).setMany (N + 1)
            refine Lib.hid ⟨?_, (Tn.of_gr HGW.out).trans r2⟩
            rw [if_neg hin, ← HNN.out]
            exact r1
        case rest =>
          obtain ⟨r3, r4⟩ := hcut.out
          rename_i wc0 _ _ _
          obtain ⟨T3, hT3⟩ : ∃ T3 : Tb, T3 = { T2 with many := if k ∈ P.ks then T2.many else T2.many + 1 } := ⟨_, rfl⟩
          rw [← hT3] at r3
          have h3k : T3.lk k = some L := by rw [hT3]; exact HEq.out.1
          have h3o : T3.py o = some P := by rw [hT3]; exact HEq.out.2.1
          have hgv : T.give o k m = { T3 with lk := updF T3.lk k (some { L with mode := m, hs := putK o L.hs }), py := updF T3.py o (some { P with ks := putK k P.ks }) } := by rw [HGive.out, hT3]
          obtain ⟨bl', hl, v, e1, e2, lb, lm, ln⟩ := r3.lk k L h3k
          have e1' := HP.out.1
          rw [e1] at e1'
          cases e1'
          have hbb := HP.out.2.1
          have hpp := HP.out.2.2.2.2
          have hne := @TbAt.ne wc t km om B2 T3 r3
          have kb5 := r4.blk HKB.out HFr.out
          have kbF : ∀ a n, B2 a = some n → kb ≠ n := fun a n ha e => HFr.out ⟨a, by rw [ha, e]⟩
          have ff := lb.frozen 0
          have cc0 := lb.cell 0
          simp at cc0
          obtain ⟨LM, hLM⟩ : ∃ LM, LM = L.mode := ⟨_, rfl⟩
          rw [← hLM] at cc0
          have hh5 : ∀ n, n ≠ bl → (wc.setCell ⟨bl, 0, none⟩ (.int .i64 m)).heap[n]? = wc.heap[n]? := fun n hn => Below.heap_setCell _ _ _ _ hn
          have lb5 : Blk (wc.setCell ⟨bl, 0, none⟩ (.int .i64 m)) bl TLk #[.int .i64 m, .map (some hl), v] := lb.set 0 _
          have lm5 := lm.stays (hh5 hl (hne e2 e1 (by simp)))
          have c51 := lb5.cell 1
          obtain ⟨w6, hrun6, hM6, hG6⟩ := lm5.store KO_ok hhs (t := TMh) Tryz.underlying53 ho (.agg #[])
          rw [show KO.val o = .int .u64 (o : Int) from rfl] at hrun6
          have sz5 : (wc.setCell ⟨bl, 0, none⟩ (.int .i64 m)).heap.size = wc.heap.size := by simp
          have hh6 : ∀ n, n < wc.heap.size → n ≠ bl → n ≠ hl → w6.heap[n]? = wc.heap[n]? := fun n h1 h2 h3 => (hG6.block n (by rw [sz5]; exact h1) fun e => h3 (by cases e; rfl)).trans (hh5 n h2)
          have lb6 := lb5.stays (hG6.block bl lb5.lt fun e => hne e1 e2 (by simp) (by cases e; rfl))
          rw [unitF_put] at hM6
          have hlk6 : LkAt w6 (B2 (.lk k)) (B2 (.hm k)) (B2 (.ln k)) { L with mode := m, hs := putK o L.hs } :=
            ⟨bl, hl, v, e1, e2, lb6, hM6, ln.stays fun n hn => hh6 n (r3.lt _ _ hn) (hne hn e1 (by simp)) (hne hn e2 (by simp))⟩
          have hw6 : Onl (fun n => B2 (.lk k) = some n ∨ B2 (.hm k) = some n ∨ B2 (.ln k) = some n) wc w6 := (Onl.of_set (S := fun n => B2 (.lk k) = some n ∨ B2 (.hm k) = some n ∨ B2 (.ln k) = some n) _ (.inl e1)).trans (Onl.of_grown (S := fun n => B2 (.lk k) = some n ∨ B2 (.hm k) = some n ∨ B2 (.ln k) = some n) hG6 (.inr (.inl e2))) (fun _ _ e => e)
          obtain ⟨r6, t6⟩ := r3.setLk h3k hw6 hlk6 (fun n hn => .inl hn)
          rw [updF_self] at r6 t6
          obtain ⟨b', hp', f1, f2, pb6, pm6⟩ := r6.py o P h3o
          rw [hbb] at f1
          cases f1
          rw [hpp] at f2
          cases f2
          have kb6 := t6.blk kb5 HFr.out
          have x60 := kb6.cell 0
          have x61 := kb6.cell 1
          have p60 := pb6.cell 0
          simp at x60 x61 p60 c51
          have pm6d : Mp Tryz.prog KL w6.drew hp (unitF P.ks) P.ks := pm6.stays rfl
          obtain ⟨w7, hrun7, hM7, hG7⟩ := pm6d.store KL_ok hks (t := TMs) Tryz.underlying63 hk (.agg #[])
          rw [show KL.val k = kv k from rfl, HK.out] at hrun7
          rw [unitF_put] at hM7
          have hp7 : PyAt w7 (B2 (.py o)) (B2 (.pm o)) { P with ks := putK k P.ks } :=
            ⟨b, hp, hbb, hpp, pb6.stays (hG7.block b pb6.lt fun e => hne hbb hpp (by simp) (by cases e; rfl)), hM7⟩
          have hw7 : Onl (fun n => B2 (.py o) = some n ∨ B2 (.pm o) = some n) w6 w7 := (Onl.of_gr (Gr.refl w6).drew).trans (Onl.of_grown (S := fun n => B2 (.py o) = some n ∨ B2 (.pm o) = some n) hG7 (.inr hpp)) (fun _ _ e => e)
          obtain ⟨r7, t7⟩ := r6.setPy h3o hw7 hp7
          have HR : Hid (RetGive t km om B T k (T.give o k m) w (.returned (.tuple #[])) w7) := Lib.hid ⟨B2, rfl, by rw [hgv]; exact r7, ((((Tn.of_gr HG.out).trans HP.out.2.2.2.1).trans r4).trans t6).trans t7, HP5.out⟩
          clear r3 r4 hT3 h3k h3o hgv e1 e2 lb lm ln hbb hpp hne kb5 kbF hh5 lb5 lm5 hM6 hG6 sz5 hh6 lb6 hlk6 hw6 r6 t6 pb6 pm6 kb6 pm6d hM7 hG7 hp7 hw7 r7 t7 c2 c2f hcut hLM
          go_wp2_with fail
          go_region_with (fail)
          all_goals
            go_wp2_with fail
            go_end0
            exact HR.out
end
end Go.Proofs.YtadopbpfnnpnaaaGreat

/-
  A range over a map in memory, its keys of whatever kind. Over whatever program.
-/
namespace Go.Proofs.YtadopbpfnnpnaaaGreat
open Go.RowKit Go.Maps

/-- A range over the map m is under way: block r; the keys in L are still to come. -/
def Rg {α : Type} (P : Program) (K : KK α) (w : World) (m r : Nat) (f : α → Option Value) (ks : List α) (L : α → Prop) : Prop :=
  ∃ D left cnt, w.ranges P K.ty elV m r ks.length D left cnt ∧ MpD K D f ks ∧ (∀ a, K.dom a → (left (K.lit a) = true ↔ L a)) ∧ ∀ a, L a → a ∈ ks
section
variable {α : Type} {P : Program} {K : KK α} {w : World} {m r : Nat} {f : α → Option Value} {ks : List α} {L : α → Prop}
theorem Rg.kept {w' : World} {row : Option Nat} (h : Rg P K w m r f ks L) (hg : w.grownBy w' row) (h1 : some m ≠ row) (h2 : some r ≠ row) : Rg P K w' m r f ks L := by
  obtain ⟨D, left, cnt, a, b⟩ := h
  exact ⟨D, left, cnt, a.kept hg h1 h2, b⟩
theorem Rg.gr {w' : World} (h : Rg P K w m r f ks L) (hg : Gr w w') : Rg P K w' m r f ks L :=
  h.kept (row := none) ⟨hg.os, hg.tape, hg.output, hg.size, fun k hk _ => hg.block k hk⟩ (by simp) (by simp)
theorem Rg.left_same {w' : World} (h : Rg P K w m r f ks L) (hg : Gr w w') : w'.rangeLeft m r = w.rangeLeft m r := by
  obtain ⟨D, left, cnt, a, b⟩ := h
  have h1 := a.owns.lt
  have h2 := a.lt
  unfold World.rangeLeft
  rw [hg.block m h1, hg.block r h2]
theorem Rg.mp (O : K.Ok P) (h : Rg P K w m r f ks L) : Mp P K w m f ks := by
  obtain ⟨D, left, cnt, a, b, _⟩ := h
  exact own_at O a.owns b
variable {ops : Array Oper} {rest : List Oper} {o : Oper} {a : Act} {Q : Exit → Act → World → Prop}
theorem wpList_range_mp (O : K.Ok P) (hg : o.guard = none) (x : Operand) (t : TypeId) (hop : o.op = Op.range t x) (e : TypeId) (ht : P.underlying t = some (.map K.ty e)) (hm : a.eval x = .map (some m)) (h : Mp P K w m f ks)
    (hK : ∀ w', Rg P K w' m w.heap.size f ks (fun a => a ∈ ks) → Gr w w' → w'.heap.size = w.heap.size + 1 → wpList P ops Q rest (a.put o.dst (.pointer (some ⟨w.heap.size, 0, none⟩))) w') : wpList P ops Q (o :: rest) a w := by
  obtain ⟨D, h1, hD⟩ := h
  refine wpList_range_own w hg x t hop K.ty e O.keyed ht elV m ks.length D hm h1 fun w' h2 h3 h4 => ?_
  exact hK w' ⟨D, _, _, h2, hD, fun a ha => by rw [hD.has a ha]; exact (hD.mem a).symm, fun _ h => h⟩ ⟨h3.os, h3.tape, h3.output, h3.size, fun k hk => h3.block k hk (by simp)⟩ h4
theorem wpList_next_mp (O : K.Ok P) (hg : o.guard = none) (it : Operand) (hop : o.op = Op.next it false) (hit : a.eval it = .pointer (some ⟨r, 0, none⟩)) (h : Rg P K w m r f ks L)
    (hDone : (∀ a, ¬ L a) → wpList P ops Q rest (a.put o.dst (.tuple #[.bool false])) w)
    (hMore : ∀ (x : α) (v : Value) (w' : World), L x → K.dom x → f x = some v → Rg P K w' m r f ks (fun b => L b ∧ b ≠ x) → w'.rangeLeft m r < w.rangeLeft m r → w.grownBy w' (some r) → w'.heap.size = w.heap.size →
      (Instr.entry (.pointer (some ⟨r, 0, none⟩))).run P w' = .ok (.tuple #[K.val x, v]) w' → wpList P ops Q rest (a.put o.dst (.tuple #[.bool true, K.val x, v])) w') : wpList P ops Q (o :: rest) a w := by
  obtain ⟨D, left, cnt, h1, hD, hL, hLk⟩ := h
  have hleft := h1.left_eq
  have hinv : ∀ key kl, keyOf P K.ty key = some kl → ∃ x : { x : α // K.dom x }, key = K.val x.1 := fun key kl hk => by
    obtain ⟨x, hx, e, _⟩ := O.inv key kl hk
    exact ⟨⟨x, hx⟩, e⟩
  refine wpList_next_ranges w hg it hop K.ty O.keyed elV (fun x : { x : α // K.dom x } => K.val x.1) id hinv (fun v y _ => ⟨v, rfl⟩) m r ks.length D left cnt hit h1 ?_ ?_
  · intro _ h0
    refine hDone fun x hx => ?_
    have := (hL x (hD.dom x ((hD.mem x).1 (hLk x hx)))).2 hx
    rw [h0] at this
    cases this
  · intro x c kl y w' cnt' hkey hlk hv hat hrg hlt hgr hsz hen
    have hkl : kl = K.lit x.1 := by
      have := O.key x.1 x.2
      rw [this] at hkey
      exact (Option.some.inj hkey).symm
    subst hkl
    have hLx := (hL x.1 x.2).1 hlk
    have hfx := (hD.mem x.1).1 (hLk x.1 hLx)
    obtain ⟨v, hfv⟩ := Option.isSome_iff_exists.1 hfx
    have e1 := hD.at_ x.1 c x.2
    rw [hat, hfv] at e1
    simp only [elV, Option.some.injEq] at hv
    rw [← hv] at e1
    have hcv : c = v := by
      simp at e1
      exact e1
    subst hcv
    refine hMore x.1 c w' hLx x.2 hfv ⟨D, _, cnt', hrg, hD, fun b hb => ?_, fun b hb => hLk b hb.1⟩ (by rw [hrg.left_eq, hleft]; exact hlt) hgr hsz hen
    by_cases e : b = x.1
    · subst e
      simp [WideAt.sameKey_self (O.is hb)]
    · have : (K.lit b).sameKey (K.lit x.1) = false := Maps.sameKey_ne fun e2 => e (O.lit_inj hb x.2 e2)
      rw [this]
      simp [hL b hb, e]
end
end Go.Proofs.YtadopbpfnnpnaaaGreat

