/-
  Texts on locks, put together: LkFor2.
-/
import Derived.Deep.DeepCutAuto
import Derived.Deep.CutBlock
import Derived.Test.YtadopbpfnnpnaaaGreatL14
import Derived.Test.YtadopbpfnnpnaaaGreatL36
set_option linter.unusedVariables false
set_option linter.unusedSimpArgs false
/-
  The code's table of locks: For.
-/
namespace Go.Proofs.YtadopbpfnnpnaaaGreat
open Go.RowKit Go.Maps

/-- What For answers: whom the owner waits for, rising. -/
def RetFor (T : Tb) (o : Nat) (w : World) (e : Ending) (w' : World) : Prop := ∃ xs, (∀ q, q ∈ xs ↔ q ∈ T.whom o) ∧ xs.Pairwise (· < ·) ∧ RetRow xs w e w'
/-- Whom it has found among the holders, where those of L are still to come. -/
structure ForH (o : Nat) (G : Bool) (hs xs : List Nat) (L : Nat → Prop) : Prop where
  mem : ∀ q, q ∈ xs ↔ q ∈ hs ∧ ¬ L q ∧ q ≠ o ∧ G = false
  nd : xs.Nodup
  sub : ∀ q, q ∈ xs → q ∈ hs
theorem ForH.len {o : Nat} {G : Bool} {hs xs : List Nat} {L : Nat → Prop} (h : ForH o G hs xs L) : xs.length ≤ hs.length := nodup_le _ _ h.nd h.sub
theorem ForH.skip {o q : Nat} {G : Bool} {hs xs : List Nat} {L : Nat → Prop} (h : ForH o G hs xs L) (_ : q ∉ xs) (hq : q = o ∨ G = true) : ForH o G hs xs (fun b => L b ∧ b ≠ q) :=
  ⟨fun q' => by
    rw [h.mem]
    constructor
    · rintro ⟨h1, h2, h3⟩
      exact ⟨h1, fun e => h2 e.1, h3⟩
    · rintro ⟨h1, h2, h3, h4⟩
      refine ⟨h1, fun e => ?_, h3, h4⟩
      by_cases e2 : q' = q
      · rcases hq with e3 | e3
        · exact h3 (e2.trans e3)
        · rw [e3] at h4; cases h4
      · exact h2 ⟨e, e2⟩, h.nd, h.sub⟩
theorem ForH.add {o q : Nat} {G : Bool} {hs xs : List Nat} {L : Nat → Prop} (h : ForH o G hs xs L) (hn : q ∉ xs) (hin : q ∈ hs) (hq : q ≠ o) (hG : G = false) : ForH o G hs (xs ++ [q]) (fun b => L b ∧ b ≠ q) :=
  ⟨fun q' => by
    rw [List.mem_append, h.mem, List.mem_singleton]
    constructor
    · rintro (⟨h1, h2, h3⟩ | rfl)
      · exact ⟨h1, fun e => h2 e.1, h3⟩
      · exact ⟨hin, fun e => e.2 rfl, hq, hG⟩
    · rintro ⟨h1, h2, h3⟩
      by_cases e2 : q' = q
      · exact .inr e2
      · exact .inl ⟨h1, fun e => h2 ⟨e, e2⟩, h3⟩, List.nodup_append.2 ⟨h.nd, by simp, fun a ha b hb e => by
        simp at hb
        rw [hb] at e
        exact hn (e ▸ ha)⟩, fun q' hq' => by
      rcases List.mem_append.1 hq' with e | e
      · exact h.sub q' e
      · simp at e; rw [e]; exact hin⟩
theorem ahead_stop {o : Nat} : ∀ {ws : List (Nat × Int)} {j : Nat} (hj : j < ws.length), (∀ x, x ∈ ws.take j → x.1 ≠ o) → ws[j].1 = o → ahead o ws = ws.take j
  | y :: r, 0, _, _, h => by
    have h' : y.1 = o := h
    unfold ahead
    rw [if_pos h']
    rfl
  | y :: r, j + 1, hj, h0, h => by
    unfold ahead
    rw [if_neg (h0 y (by simp)), List.take_succ_cons, ahead_stop (ws := r) (j := j) (by simpa using hj) (fun x hx => h0 x (by simp [hx])) (by simpa using h)]
theorem ahead_all {o : Nat} : ∀ {ws : List (Nat × Int)}, (∀ x, x ∈ ws → x.1 ≠ o) → ahead o ws = ws
  | [], _ => rfl
  | y :: r, h => by
    unfold ahead
    rw [if_neg (h y (by simp)), ahead_all fun x hx => h x (by simp [hx])]
theorem Us.low {w : World} {b b' : Nat} {v : Value} {xs : List Nat} (h : Us w b v xs) (hb : b' ≤ b) : Us w b' v xs := by
  refine ⟨h.1, ?_⟩
  rcases h.2 with e | ⟨g, cap, cur, h1, h2, r⟩
  · exact .inl e
  · exact .inr ⟨g, cap, cur, h1, Nat.le_trans hb h2, r⟩
/-- What the loops of For hold on to. -/
structure FoAt (w0 W : World) (t km om : Nat) (B : Tag → Option Nat) (T : Tb) (pb r0 : Nat) (hp : Option Nat) (K1 K2 M : Int) (v : Value) (xs : List Nat) : Prop where
  gr : Gr w0 W
  lo : w0.heap.size ≤ pb
  pr : pb < r0
  pbk : Blk W pb TPy #[.map hp, .int .i64 K1, .int .i64 K2, .int .i64 M]
  us : Us W r0 v xs
  sz : r0 ≤ W.heap.size
theorem grown_new {a b c : World} {r : Nat} {row : Option Nat} (h : a.grownBy b (some r)) (k : b.grownBy c row) (hr : ∀ n, row = some n → a.heap.size ≤ n ∨ n = r) : a.grownBy c (some r) :=
  ⟨k.os.trans h.os, k.tape.trans h.tape, k.output.trans h.output, Nat.le_trans h.size k.size, fun n hn hne => (k.block n (Nat.lt_of_lt_of_le hn h.size) fun e => by
    rcases hr n e.symm with h1 | h1
    · omega
    · exact hne (by rw [h1])).trans (h.block n hn hne)⟩
section
variable {w0 W W' : World} {t km om : Nat} {B : Tag → Option Nat} {T : Tb} {pb r0 r : Nat} {hp : Option Nat} {K1 K2 M : Int} {v : Value} {xs : List Nat}
theorem gr_grown {a b c : World} {row : Option Nat} (h : Gr a b) (k : b.grownBy c row) (hr : ∀ n, row = some n → a.heap.size ≤ n) : Gr a c :=
  ⟨k.os.trans h.os, k.tape.trans h.tape, k.output.trans h.output, Nat.le_trans h.size k.size, fun n hn => (k.block n (Nat.lt_of_lt_of_le hn h.size) fun e => by have := hr n e.symm; omega).trans (h.block n hn)⟩
theorem FoAt.next (h : FoAt w0 W t km om B T pb r0 hp K1 K2 M v xs) (hg : W.grownBy W' (some r)) (h1 : pb < r) (h2 : r < r0) : FoAt w0 W' t km om B T pb r0 hp K1 K2 M v xs :=
  ⟨gr_grown h.gr hg (fun n e => by cases e; have := h.lo; omega), h.lo, h.pr, h.pbk.stays (hg.block pb h.pbk.lt (fun e => by cases e; omega)), h.us.stays fun k hk => hg.block k (h.us.lt k hk).2 (fun e => by cases e; have := (h.us.lt r hk).1; omega), Nat.le_trans h.sz hg.size⟩
theorem FoAt.more (h : FoAt w0 W t km om B T pb r0 hp K1 K2 M v xs) (hg : Gr W W') : FoAt w0 W' t km om B T pb r0 hp K1 K2 M v xs :=
  ⟨Gr.trans h.gr hg, h.lo, h.pr, h.pbk.gr hg, h.us.gr hg, Nat.le_trans h.sz hg.size⟩
theorem FoAt.app (h : FoAt w0 W t km om B T pb r0 hp K1 K2 M v xs) {v' : Value} {ys : List Nat} (hu : Us W' r0 v' ys) (hg : W.grownBy W' v.ownBlock) : FoAt w0 W' t km om B T pb r0 hp K1 K2 M v' ys :=
  ⟨gr_grown h.gr hg (fun n e => by have := (h.us.lt n e).1; have := h.lo; have := h.pr; omega), h.lo, h.pr, h.pbk.stays (hg.block pb h.pbk.lt (fun e => by have := (h.us.lt pb e.symm).1; have := h.pr; omega)), hu, Nat.le_trans h.sz hg.size⟩
end
section
variable {w : World} {t km om : Nat} {B : Tag → Option Nat} {T : Tb}
set_option maxRecDepth 100000 in
set_option maxHeartbeats 16000000 in
theorem For_any (h : TbAt w t km om B T) (hI : Inv T) (hol : T.oo.length ≤ 10000) {o : Nat} (ho : KO.dom o) :
    Calls Tryz.prog 24 #[.pointer (some ⟨t, 0, none⟩), .int .u64 (o : Int)] w (RetFor T o w) := by
  have HO := Lib.hid (of_any h ho)
  obtain ⟨hp, hhp⟩ : ∃ hp, hp = B (.pm o) := ⟨_, rfl⟩
  obtain ⟨K1, hK1⟩ : ∃ x, x = (T.of o).key.1 := ⟨_, rfl⟩
  obtain ⟨K2, hK2⟩ : ∃ x, x = (T.of o).key.2 := ⟨_, rfl⟩
  obtain ⟨M, hM⟩ : ∃ x, x = (T.of o).mode := ⟨_, rfl⟩
  unfold ofV at HO
  rw [← hhp, ← hK1, ← hK2, ← hM] at HO
  have HP := Lib.hid (And.intro hhp (And.intro hK1 (And.intro hK2 hM)))
  have HH := Lib.hid (And.intro h (And.intro hI (And.intro hol ho)))
  clear h hI hol ho hhp hK1 hK2 hM
  go_enter Tryz.func24, Tryz.ntmps24
  go_wp2_with fail
  refine HO.out.mono ?_
  rintro e w1 ⟨rfl, g1⟩
  have g2 : Gr w1 (w1.alloc (.cells #[.map hp, .int .i64 K1, .int .i64 K2, .int .i64 M] TPy)) := (Gr.refl _).alloc (Nat.le_refl _) _
  have b2 := Blk.new w1 TPy #[.map hp, .int .i64 K1, .int .i64 K2, .int .i64 M]
  obtain ⟨W2, hW2⟩ : ∃ W2, W2 = w1.alloc (.cells #[.map hp, .int .i64 K1, .int .i64 K2, .int .i64 M] TPy) := ⟨_, rfl⟩
  rw [← hW2] at g2 b2
  obtain ⟨pb, hpb⟩ : ∃ pb, pb = w1.heap.size := ⟨_, rfl⟩
  rw [← hpb] at b2
  have hpw : w.heap.size ≤ pb := by rw [hpb]; exact g1.size
  have G2 := Lib.hid (And.intro (Gr.trans g1 g2) (And.intro b2 (And.intro hW2 (And.intro hpb hpw))))
  have z3 := b2.cell 3
  have z1 := b2.cell 1
  have z2 := b2.cell 2
  simp at z1 z2 z3
  clear g1 g2 b2 hW2 hpb
  by_cases hm0 : M = 0
  · subst hm0
    have hwh : T.whom o = [] := by unfold Tb.whom; rw [if_pos HP.out.2.2.2.symm]
    go_upto_region 2 with fail
    rw [show (w1.alloc (.cells #[.map hp, .int .i64 K1, .int .i64 K2, .int .i64 0] 66)) = W2 from G2.out.2.2.1.symm, ← G2.out.2.2.2.1]
    go_wp2_with fail
    go_ret
    exact ⟨[], (fun q => by rw [hwh]), List.Pairwise.nil, _, rfl, Us.nil _ _, G2.out.1⟩
  · have hb0 : (M == 0) = false := by simpa using hm0
    have hmo : (T.of o).mode ≠ 0 := by rw [← HP.out.2.2.2]; exact hm0
    obtain ⟨l, hl, hin⟩ := HH.out.2.1.wt o hmo
    obtain ⟨bl, hm, v, e1, e2, e3, e4, e5⟩ := (HH.out.1.gr G2.out.1).lk _ l hl
    have hkv : kv (T.of o).key = .agg #[.int .i64 K1, .int .i64 K2] := by rw [HP.out.2.1, HP.out.2.2.1]; rfl
    have hll := fun q => ((HH.out.1.gr G2.out.1).stays (w' := W2.drewN q) (fun _ _ _ => rfl)).look (HH.out.2.1.key o)
    rw [e1, hkv] at hll
    have hll' : ∀ q, (Instr.lookup TMk (.map (some km)) (.agg #[.int .i64 K1, .int .i64 K2]) false).run Tryz.prog (W2.drewN q) = .ok (.pointer (some ⟨bl, 0, none⟩)) (W2.drewN q) := hll
    have c0 := (HH.out.1.gr G2.out.1).c3.1
    have HL := Lib.hid (And.intro hl (And.intro e1 (And.intro e3 (And.intro e4 (And.intro e5 hmo)))))
    clear hl hin e1 e2 e3 e4 e5 hkv hll hmo
    go_upto_region 2 with fail
    rw [show (w1.alloc (.cells #[.map hp, .int .i64 K1, .int .i64 K2, .int .i64 M] 66)) = W2 from G2.out.2.2.1.symm, ← G2.out.2.2.2.1]
    go_wp2_with fail
    go_quiet (fail)
    obtain ⟨W3, hW3⟩ : ∃ W3, W3 = W2.drewN nq := ⟨_, rfl⟩
    have g3 : Gr W2 W3 := by rw [hW3]; exact grD (Gr.refl _)
    rw [← hW3]
    clear hW3
    have m1 := (HL.out.2.2.1.gr g3).cell 1
    simp at m1
    have hmp := HL.out.2.2.2.1.stays (g3.block hm HL.out.2.2.2.1.lt)
    have G3 := Lib.hid (And.intro (Gr.trans G2.out.1 g3) (And.intro (G2.out.2.1.gr g3) g3))
    clear g3 z1 z2 z3 c0 hll'
    go_upto_region 6 with fail
    go_wp2_with (first
      | (at_range; refine wpList_range_mp KO_ok rfl _ TMh rfl 58 Tryz.underlying53 rfl hmp ?_; intro w0 hrg0 hg0 hs0)
      | go_in)
    obtain ⟨r, hr⟩ : ∃ r, r = W3.heap.size := ⟨_, rfl⟩
    rw [← hr] at hrg0 ⊢
    obtain ⟨r0, hr0⟩ : ∃ r0, r0 = w0.heap.size := ⟨_, rfl⟩
    obtain ⟨hs, hhs⟩ : ∃ hs, hs = l.hs := ⟨_, rfl⟩
    rw [← hhs] at hrg0
    obtain ⟨LM, hLM⟩ : ∃ LM, LM = l.mode := ⟨_, rfl⟩
    obtain ⟨G, hG⟩ : ∃ G, G = tog M LM := ⟨_, rfl⟩
    have hrr : pb < r ∧ r < r0 ∧ hm < r ∧ bl < r := by
      have q1 := G3.out.2.1.lt
      have q2 := hmp.lt
      have q3 := (HL.out.2.2.1.gr G3.out.2.2).lt
      exact ⟨by omega, by omega, by omega, by omega⟩
    have hW2r : W2.heap.size ≤ r := by rw [hr]; exact G3.out.2.2.size
    have F0 : Hid (FoAt w w0 t km om B T pb r0 hp K1 K2 M (.slice none 0 0) []) := Lib.hid ⟨Gr.trans G3.out.1 hg0, G2.out.2.2.2.2, by omega, G3.out.2.1.gr hg0, Us.nil _ _, by omega⟩
    have B0 := Lib.hid (And.intro (HL.out.2.2.1.gr (Gr.trans G3.out.2.2 hg0)) (And.intro hr0 (And.intro hhs (And.intro hLM hG))))
    have GW := Lib.hid (Gr.trans G3.out.2.2 hg0)
    clear hg0 hs0 hr hr0 hhs hLM hG m1 hmp
    go_frame
    go_loopw [7] (fun s7 wr => ∃ L xs, Rg Tryz.prog KO wr hm r (unitF hs) hs L ∧ Hid (FoAt w wr t km om B T pb r0 hp K1 K2 M s7 xs ∧ w0.grownBy wr (some r)) ∧ Hid (ForH o G hs xs L)) (fun _ wr => wr.rangeLeft hm r)
    case atStart => exact ⟨_, [], hrg0, Lib.hid ⟨F0.out, World.grownBy.refl _ _⟩, Lib.hid ⟨fun q => ⟨(fun h => by cases h), fun h => absurd h.1 h.2.1⟩, List.nodup_nil, (fun q hq => by cases hq)⟩⟩
    case round =>
      obtain ⟨L, xs, hrg, HF, HX⟩ := hrel
      go_wp2_with (first
        | (at_next; refine wpList_next_mp KO_ok rfl _ rfl rfl hrg ?_ ?_)
        | go_in)
      · intro hno
        have hX1 : ∀ q, q ∈ xs ↔ q ∈ hs ∧ q ≠ o ∧ G = false := fun q => by
          rw [HX.out.mem]
          exact ⟨fun h => ⟨h.1, h.2.2⟩, fun h => ⟨h.1, hno q, h.2⟩⟩
        have bl3 := B0.out.1.stays (HF.out.2.block bl B0.out.1.lt (fun e => by cases e; omega))
        obtain ⟨p, N, cp, hv, hN⟩ : ∃ p N cp, v = .slice p N cp ∧ N = l.line.length := by
          rcases HL.out.2.2.2.2.1 with ⟨r1, r2, r3⟩ | ⟨b', off, cap, cs, r1, r2, _⟩
          · exact ⟨none, 0, 0, r2, by rw [r3]; rfl⟩
          · exact ⟨_, l.line.length, cap, r2, rfl⟩
        subst hv
        have z2 := bl3.cell 2
        simp at z2
        have hhsb : hs.length ≤ 10000 := by
          have q1 := HH.out.2.1.hs_le HL.out.1
          have q2 := HH.out.2.2.1
          rw [B0.out.2.2.1]
          omega
        have hNb : N ≤ 10000 := by
          have q1 := HH.out.2.1.line_le HL.out.1
          have q2 := HH.out.2.2.1
          omega
        have FIN := Lib.hid (show ∀ zs : List Nat, (∀ q, q ∈ zs ↔ (q ∈ hs ∧ q ≠ o ∧ G = false) ∨ ∃ m, (q, m) ∈ ahead o l.line ∧ tog M m = false) → ∀ q, q ∈ zs ↔ q ∈ T.whom o from fun zs hz q => by
          rw [hz, mem_whom, lkOf_of HL.out.1, B0.out.2.2.1, B0.out.2.2.2.2, B0.out.2.2.2.1, HP.out.2.2.2]
          exact ⟨fun h => ⟨HL.out.2.2.2.2.2, h⟩, fun h => h.2⟩)
        have HX1 := Lib.hid (And.intro hX1 (And.intro HX.out.len hN))
        have hgt : w0.tape = w0.tape := rfl
        clear hno hX1 bl3 hrg hN hgt HX
        go_upto_block 2 with fail
        go_cut [7, 10] from 55 to 74 (fun s7 s10 wx => ∃ zs, Hid (FoAt w wx t km om B T pb r0 hp K1 K2 M s7 zs) ∧ Hid (∀ q, q ∈ zs ↔ q ∈ T.whom o) ∧ zs.length ≤ 20000)
        case first =>
          go_wp2_with fail
          go_loopw [55, 7] (fun i s7 wr => ∃ (j : Nat) (zs : List Nat), i = .int .i64 (j : Int) ∧ j ≤ N ∧ Hid (FoAt w wr t km om B T pb r0 hp K1 K2 M s7 zs ∧ w0.grownBy wr (some r)) ∧ Hid ((∀ q, q ∈ zs ↔ (q ∈ hs ∧ q ≠ o ∧ G = false) ∨ ∃ m, (q, m) ∈ l.line.take j ∧ tog M m = false) ∧ (∀ x, x ∈ l.line.take j → x.1 ≠ o) ∧ zs.length ≤ hs.length + j)) (fun i _ _ => N - (intOf i).toNat)
          case atStart => exact ⟨0, xs, rfl, by omega, HF, Lib.hid ⟨fun q => by rw [HX1.out.1]; simp, (fun x hx => by simp at hx), by have := HX1.out.2.1; omega⟩⟩
          case round =>
            obtain ⟨j, zs, rfl, hj, HF2, HZ⟩ := hrel
            by_cases hlt : j < N
            · have hjl : j < l.line.length := by rw [← HX1.out.2.2]; exact hlt
              have e27 : decide ((j : Int) < (N : Int)) = true := decide_eq_true (by omega)
              have hp0 : (0 : Int) ≤ (j : Int) := by omega
              obtain ⟨g, q0, hpg, -, hcap, s0, s1⟩ := HL.out.2.2.2.2.1.at j hjl
              subst hpg
              have up : ∀ {a : Addr} {u : Value}, W2.cell? a = some u → wr.cell? a = some u := fun {a u} hc => by
                have h1 := blk_lt' hc
                have h2 := (GW.out.cell h1).trans hc
                have h3 : a.block < w0.heap.size := Nat.lt_of_lt_of_le h1 GW.out.size
                exact HF2.out.2.cell h2 (fun e => absurd (Option.some.inj e) (by omega))
              have r1 := up s0
              have r2 := up s1
              obtain ⟨X, hX⟩ : ∃ X, X = l.line[j].1 := ⟨_, rfl⟩
              obtain ⟨Y, hY⟩ : ∃ Y, Y = l.line[j].2 := ⟨_, rfl⟩
              rw [← hX] at r1
              rw [← hY] at r2
              have htk : l.line.take (j + 1) = l.line.take j ++ [(X, Y)] := by rw [List.take_succ_eq_append_getElem hjl, hX, hY]
              have hah : X = o → ahead o l.line = l.line.take j := fun e => ahead_stop hjl HZ.out.2.1 (by rw [← hX]; exact e)
              have g6 : Gr wr (wr.alloc (.cells #[.int .u64 (X : Int), .int .i64 Y] TWt)) := (Gr.refl _).alloc (Nat.le_refl _) _
              have b6 := Blk.new wr TWt #[.int .u64 (X : Int), .int .i64 Y]
              obtain ⟨W6, hW6⟩ : ∃ W6, W6 = wr.alloc (.cells #[.int .u64 (X : Int), .int .i64 Y] TWt) := ⟨_, rfl⟩
              rw [← hW6] at g6 b6
              obtain ⟨wb, hwb⟩ : ∃ wb, wb = wr.heap.size := ⟨_, rfl⟩
              rw [← hwb] at b6
              have u0 := b6.cell 0
              have u1 := b6.cell 1
              have y3 := (HF2.out.1.more g6).pbk.cell 3
              simp at u0 u1 y3
              have H6 := Lib.hid (And.intro (HF2.out.1.more g6) (And.intro (grown_new (row := none) HF2.out.2 ⟨g6.os, g6.tape, g6.output, g6.size, fun n hn _ => g6.block n hn⟩ (fun n e => by cases e)) (And.intro hW6 (And.intro hwb (And.intro b6 (And.intro htk hah))))))
              clear hX hY htk hah g6 b6 hW6 hwb s0 s1 hjl up
              have hw9 : IntKind.i64.wrap ((j : Int) + 1) = ((j + 1 : Nat) : Int) := by rw [IntWalk.i64_in _ (by omega)]; omega
              go_upto_region 14 with fail
              rw [show (wr.alloc (.cells #[.int .u64 (X : Int), .int .i64 Y] 61)) = W6 from H6.out.2.2.1.symm, ← H6.out.2.2.2.1]
              by_cases hXo : X = o
              · have hXz : ((X : Int) == (o : Int)) = true := by rw [hXo]; simp
                go_wp2_with fail
                go_meet
                exact ⟨zs, Lib.hid H6.out.1, Lib.hid (FIN.out zs (by rw [H6.out.2.2.2.2.2.2 hXo]; exact HZ.out.1)), by have := HZ.out.2.2; have := HX1.out.2.1; have := hhsb; omega⟩
              · have hXz : ((X : Int) == (o : Int)) = false := by rw [beq_eq_false_iff_ne]; exact fun e => hXo (Int.ofNat.inj e)
                obtain ⟨G2', hG2⟩ : ∃ G2', G2' = tog M Y := ⟨_, rfl⟩
                have HT2 := Lib.hid (fun V => (together_any M Y V))
                rw [← hG2] at HT2
                have HG2 := Lib.hid hG2
                clear hG2
                go_wp2_with fail
                refine (HT2.out _).mono ?_
                rintro e w7 ⟨rfl, rfl⟩
                cases G2'
                · obtain ⟨W8, hW8⟩ : ∃ W8, W8 = W6.alloc (.cells #[.int .u64 (X : Int)] TOw) := ⟨_, rfl⟩
                  have g8 : Gr W6 W8 := by rw [hW8]; exact (Gr.refl _).alloc (Nat.le_refl _) _
                  have F8 := H6.out.1.more g8
                  have hy8 : USl W8 (.slice (some ⟨W6.heap.size, 0, none⟩) 1 1) [X] := by rw [hW8]; exact USl.one W6 X TOw
                  have hlen : zs.length + [X].length ≤ 1000000000 := by
                    have q1 := HZ.out.2.2
                    simp only [List.length_singleton]
                    omega
                  have hbs : r0 ≤ W8.heap.size := F8.sz
                  have H8 := Lib.hid (And.intro F8 (And.intro hy8 (And.intro hW8 (And.intro g8 (And.intro hlen hbs)))))
                  clear g8 F8 hy8 hW8 hlen hbs
                  go_upto_region 16 with fail
                  go_wp2_with (at_builtin; rw [show (W6.alloc (.cells #[.int .u64 (X : Int)] 31)) = W8 from H8.out.2.2.1.symm]; refine wpList_app_us rfl (.tmp 69) (.tmp 72) rfl rfl H8.out.1.us rfl H8.out.2.1 H8.out.2.2.2.2.1 H8.out.2.2.2.2.2 (fun v' W9 hv9 hg9 => ?_))
                  have hg9' : W8.grownBy W9 u7.ownBlock := hg9
                  clear hg9
                  have H9 := Lib.hid (show FoAt w W9 t km om B T pb r0 hp K1 K2 M v' (zs ++ [X]) ∧ w0.grownBy W9 (some r) from by
                    have g38 := H8.out.2.2.2.1
                    have own := H8.out.1.us.lt
                    have g8 := grown_new (row := none) H6.out.2.1 ⟨g38.os, g38.tape, g38.output, g38.size, fun n hn _ => g38.block n hn⟩ (fun n e => by cases e)
                    have hr0 := B0.out.2.1
                    exact ⟨H8.out.1.app hv9 hg9', grown_new g8 hg9' (fun n e => .inl (by have := (own n e).1; omega))⟩)
                  clear hv9 hg9'
                  go_wp2_with fail
                  go_roundw
                  case rel =>
                    refine ⟨j + 1, zs ++ [X], by simp, by omega, H9, Lib.hid ⟨fun q => ?_, fun x hx => ?_, ?_⟩⟩
                    · rw [List.mem_append, HZ.out.1, H6.out.2.2.2.2.2.1, List.mem_singleton]
                      constructor
                      · rintro ((h1 | ⟨m, h1, h2⟩) | rfl)
                        · exact .inl h1
                        · exact .inr ⟨m, List.mem_append.2 (.inl h1), h2⟩
                        · exact .inr ⟨Y, List.mem_append.2 (.inr (by simp)), HG2.out.symm⟩
                      · rintro (h1 | ⟨m, h1, h2⟩)
                        · exact .inl (.inl h1)
                        · rcases List.mem_append.1 h1 with h3 | h3
                          · exact .inl (.inr ⟨m, h3, h2⟩)
                          · simp at h3
                            exact .inr h3.1
                    · rw [H6.out.2.2.2.2.2.1] at hx
                      rcases List.mem_append.1 hx with h3 | h3
                      · exact HZ.out.2.1 x h3
                      · simp at h3
                        rw [h3]
                        exact hXo
                    · have := HZ.out.2.2
                      simp only [List.length_append, List.length_singleton]
                      omega
                  case measure => simp [intOf]; omega
                · go_wp2_with fail
                  go_roundw
                  case rel =>
                    refine ⟨j + 1, zs, by simp, by omega, Lib.hid ⟨H6.out.1, H6.out.2.1⟩, Lib.hid ⟨fun q => ?_, fun x hx => ?_, ?_⟩⟩
                    · rw [HZ.out.1, H6.out.2.2.2.2.2.1]
                      constructor
                      · rintro (h1 | ⟨m, h1, h2⟩)
                        · exact .inl h1
                        · exact .inr ⟨m, List.mem_append.2 (.inl h1), h2⟩
                      · rintro (h1 | ⟨m, h1, h2⟩)
                        · exact .inl h1
                        · rcases List.mem_append.1 h1 with h3 | h3
                          · exact .inr ⟨m, h3, h2⟩
                          · simp at h3
                            rw [h3.2, ← HG2.out] at h2
                            cases h2
                    · rw [H6.out.2.2.2.2.2.1] at hx
                      rcases List.mem_append.1 hx with h3 | h3
                      · exact HZ.out.2.1 x h3
                      · simp at h3
                        rw [h3]
                        exact hXo
                    · have := HZ.out.2.2
                      omega
                  case measure => simp [intOf]; omega
            · have e27 : decide ((j : Int) < (N : Int)) = false := decide_eq_false (by omega)
              go_wp2_with fail
              go_meet
              have e9 : l.line.take j = l.line := List.take_of_length_le (by have := HX1.out.2.2; omega)
              exact ⟨zs, Lib.hid HF2.out.1, Lib.hid (FIN.out zs (by rw [ahead_all (by have := HZ.out.2.1; rw [e9] at this; exact this)]; have := HZ.out.1; rw [e9] at this; exact this)), by have := HZ.out.2.2; have := hhsb; omega⟩
        case rest =>
          obtain ⟨zs, HF3, HZ, hzl⟩ := hcut
          have hne : zs ≠ [] := fun e => by
            obtain ⟨q, hq⟩ := waits_some HH.out.2.1 HL.out.2.2.2.2.2
            have := (HZ.out q).2 hq
            rw [e] at this
            cases this
          obtain ⟨gz, cz, hvz⟩ := HF3.out.us.ne_nil hne
          subst hvz
          obtain ⟨NZ, hNZ⟩ : ∃ NZ, NZ = zs.length := ⟨_, rfl⟩
          have HS := Lib.hid (sort_us HF3.out.us (by omega))
          rw [← hNZ] at HS ⊢
          have HNZ := Lib.hid hNZ
          have hgz := (HF3.out.us.lt gz rfl).1
          clear hne hNZ
          go_wp2_with fail
          refine HS.out.mono ?_
          rintro e w8 ⟨rfl, ys, hp1, hp2, hu8, hg8⟩
          have hyl : ys.length = NZ := by rw [hp1.length_eq, HNZ.out]
          rw [← hyl] at hu8
          have HC := Lib.hid (compact_us hu8 (by rw [hyl, HNZ.out]; omega) hp2)
          rw [hyl] at HC
          have H8 := Lib.hid (And.intro hp1 (And.intro hg8 hyl))
          clear hp1 hp2 hu8 hg8 hyl
          go_wp2_with fail
          refine HC.out.mono ?_
          rintro e w9 ⟨ks, v9, rfl, hm9, hr9, hl9, hu9, hg9⟩
          have H9 := Lib.hid (And.intro hm9 (And.intro hr9 (And.intro hu9 hg9)))
          clear hm9 hr9 hl9 hu9 hg9
          go_wp2_with fail
          go_ret
          obtain ⟨hm9, hr9, hu9, hg9⟩ := H9.out
          obtain ⟨hp1, hg8, hyl⟩ := H8.out
          have hwr0 : w.heap.size ≤ r0 := by have := HF3.out.lo; have := HF3.out.pr; omega
          refine ⟨ks, fun q => ?_, hr9, _, rfl, hu9.low hwr0, ?_⟩
          · rw [hm9, hp1.mem_iff, HZ.out]
          · exact gr_grown (gr_grown HF3.out.gr hg8 (fun n e => by cases e; omega)) hg9 (fun n e => by cases e; omega)
      · intro q v w3 hLq hqd hfv hrg' hlt hg3 hs3 hen
        have hqin : q ∈ hs := ((hrg'.mp KO_ok).mem q).2 (by rw [hfv]; rfl)
        have F3 := HF.out.1.next hg3 hrr.1 hrr.2.1
        have g03 := grown_new HF.out.2 hg3 (fun n e => .inr (by cases e; rfl))
        have bl3 := B0.out.1.stays (g03.block bl B0.out.1.lt (fun e => by cases e; omega))
        have m0 := bl3.cell 0
        rw [← B0.out.2.2.2.1] at m0
        have y3 := F3.pbk.cell 3
        simp at m0 y3
        have hnx : q ∉ xs := fun e => ((HX.out.mem q).1 e).2.1 hLq
        obtain ⟨pX, nX, hv7⟩ := F3.us.form
        rw [show KO.val q = .int .u64 (q : Int) from rfl] at hen ⊢
        have HQ := Lib.hid (And.intro hqin (And.intro hrg' (And.intro hlt (And.intro F3 (And.intro g03 (And.intro hnx hLq))))))
        clear hLq hqd hfv hrg' hlt hg3 hs3 hqin F3 g03 bl3 hnx hrg HF
        go_wp2_with fail
        by_cases hqo : q = o
        · have hqz : ((q : Int) != (o : Int)) = false := by rw [hqo]; simp
          go_quiet (fail)
          go_wp2_with fail
          go_roundw
          case rel => exact ⟨_, xs, HQ.out.2.1.gr (grD (Gr.refl _)), Lib.hid ⟨HQ.out.2.2.2.1.more (grD (Gr.refl _)), grown_new HQ.out.2.2.2.2.1 (row := none) ⟨rfl, rfl, rfl, Nat.le_refl _, fun _ _ _ => rfl⟩ (fun n e => by cases e)⟩, Lib.hid (HX.out.skip HQ.out.2.2.2.2.2.1 (.inl hqo))⟩
          case measure => exact HQ.out.2.2.1
        · have hqz : ((q : Int) != (o : Int)) = true := by
            rw [bne_iff_ne]; exact fun e => hqo (Int.ofNat.inj e)
          have HTg : Hid (∀ W, Calls Tryz.prog 44 #[.int .i64 M, .int .i64 LM] W fun e w' => e = .returned (.bool G) ∧ W = w') := Lib.hid fun W => (together_any M LM W).mono fun e w' h => ⟨h.1.trans (by rw [B0.out.2.2.2.2]), h.2⟩
          cases G
          · go_quiet (exact Calls.quiet_of ((HTg.out _).mono fun _ _ h => ⟨h.1, 0, h.2.symm⟩))
            go_upto_region 10 with fail
            obtain ⟨W5, hW5⟩ : ∃ W5, W5 = w3.drewN nq := ⟨_, rfl⟩
            have g5 : Gr w3 W5 := by rw [hW5]; exact grD (Gr.refl _)
            obtain ⟨W8, hW8⟩ : ∃ W8, W8 = W5.alloc (.cells #[.int .u64 (q : Int)] TOw) := ⟨_, rfl⟩
            have g8 : Gr W5 W8 := by rw [hW8]; exact (Gr.refl _).alloc (Nat.le_refl _) _
            have F8 := HQ.out.2.2.2.1.more (Gr.trans g5 g8)
            have hy8 : USl W8 (.slice (some ⟨W5.heap.size, 0, none⟩) 1 1) [q] := by rw [hW8]; exact USl.one W5 q TOw
            have H8 := Lib.hid (And.intro F8 (And.intro hy8 (And.intro hW8 (And.intro hW5 (Gr.trans g5 g8)))))
            have hlen : xs.length + [q].length ≤ 1000000000 := by
              have q1 := HX.out.len
              have q2 : hs.length ≤ T.oo.length := by rw [B0.out.2.2.1]; exact HH.out.2.1.hs_le HL.out.1
              have q3 := HH.out.2.2.1
              simp only [List.length_singleton]
              omega
            have hbs : r0 ≤ W8.heap.size := F8.sz
            have HSM := Lib.hid (And.intro hlen hbs)
            rw [← hW5]
            clear g5 g8 F8 hy8 hW5 hW8 hlen hbs m0 y3 hen hv7
            go_wp2_with (at_builtin; rw [show (W5.alloc (.cells #[.int .u64 (q : Int)] 31)) = W8 from H8.out.2.2.1.symm]; refine wpList_app_us rfl (.tmp 46) (.tmp 48) rfl rfl H8.out.1.us rfl H8.out.2.1 HSM.out.1 HSM.out.2 (fun v' W9 hv9 hg9 => ?_))
            have hg9' : W8.grownBy W9 u7.ownBlock := hg9
            clear hg9
            have H9 := Lib.hid (show FoAt w W9 t km om B T pb r0 hp K1 K2 M v' (xs ++ [q]) ∧ w0.grownBy W9 (some r) ∧ Rg Tryz.prog KO W9 hm r (unitF hs) hs (fun b => L b ∧ b ≠ q) ∧ W9.rangeLeft hm r < wr.rangeLeft hm r from by
              have g38 := H8.out.2.2.2.2
              have own := H8.out.1.us.lt
              have g8 := grown_new (row := none) HQ.out.2.2.2.2.1 ⟨g38.os, g38.tape, g38.output, g38.size, fun n hn _ => g38.block n hn⟩ (fun n e => by cases e)
              have hr0 := B0.out.2.1
              have ne1 : some hm ≠ u7.ownBlock := fun e => by have := (own hm e.symm).1; omega
              have ne2 : some r ≠ u7.ownBlock := fun e => by have := (own r e.symm).1; omega
              refine ⟨H8.out.1.app hv9 hg9', grown_new g8 hg9' (fun n e => .inl (by have := (own n e).1; omega)), (HQ.out.2.1.gr g38).kept hg9' ne1 ne2, ?_⟩
              rw [(HQ.out.2.1.gr g38).left_row hg9' ne1 ne2, HQ.out.2.1.left_same g38]
              exact HQ.out.2.2.1)
            clear hv9 hg9'
            go_wp2_with fail
            go_roundw
            case rel => exact ⟨_, xs ++ [q], H9.out.2.2.1, Lib.hid ⟨H9.out.1, H9.out.2.1⟩, Lib.hid (HX.out.add HQ.out.2.2.2.2.2.1 HQ.out.1 hqo rfl)⟩
            case measure => exact H9.out.2.2.2
          · go_quiet (exact Calls.quiet_of ((HTg.out _).mono fun _ _ h => ⟨h.1, 0, h.2.symm⟩))
            go_wp2_with fail
            go_roundw
            case rel => exact ⟨_, xs, HQ.out.2.1.gr (grD (Gr.refl _)), Lib.hid ⟨HQ.out.2.2.2.1.more (grD (Gr.refl _)), grown_new HQ.out.2.2.2.2.1 (row := none) ⟨rfl, rfl, rfl, Nat.le_refl _, fun _ _ _ => rfl⟩ (fun n e => by cases e)⟩, Lib.hid (HX.out.skip HQ.out.2.2.2.2.2.1 (.inr rfl))⟩
            case measure => exact HQ.out.2.2.1
end
end Go.Proofs.YtadopbpfnnpnaaaGreat

