/-
  Texts on locks, put together: LkRef1 LkRef2 LkRef3 LkRef4.
-/
import Derived.Maps.AppendAt
import Derived.Test.YtadopbpfnnpnaaaGreatL7
import Derived.Test.YtadopbpfnnpnaaaGreatL8
import Derived.Test.YtadopbpfnnpnaaaGreatL14
import Derived.Test.YtadopbpfnnpnaaaGreatL27
set_option linter.unusedVariables false
set_option linter.unusedSimpArgs false
/-
  The document's table of locks in memory; together, Waits, Holds.
-/
namespace Go.Proofs.YtadopbpfnnpnaaaGreat
open Go.RowKit Go.Maps

abbrev TDl : TypeId := 71
abbrev TDs : TypeId := 27
abbrev TDt : TypeId := 29
def dcells (x : DL) : List Value := [.int .u64 (x.o : Int), .int .i64 x.k.1, .int .i64 x.k.2, .int .i64 x.m, .bool x.up]
/-- The value v is the call's own row of the document's locks. -/
def Dr (w : World) (base : Nat) (v : Value) (L : List DL) : Prop := w.ownsRow base TDl 5 v L.length (L.flatMap dcells)
theorem dcells_len (L : List DL) : (L.flatMap dcells).length = L.length * 5 := by
  induction L with
  | nil => rfl
  | cons x r ih => rw [List.flatMap_cons, List.length_append, ih]; simp [dcells]; omega
theorem dl_info : (Tryz.prog.info? TDl).map (fun i => (i.zero, i.size, i.bytes)) = some (some (.agg #[.int .u64 0, .int .i64 0, .int .i64 0, .int .i64 0, .bool false]), 5, 40) := by kernel_rfl
theorem flat_nth : ∀ (L : List DL) (i : Nat) (h : i < L.length) (j : Nat), j < 5 → (L.flatMap dcells)[5 * i + j]? = (dcells L[i])[j]?
  | [], i, h, _, _ => by simp at h
  | x :: r, 0, _, j, hj => by
    rw [List.flatMap_cons, Nat.mul_zero, Nat.zero_add, List.getElem?_append_left (by simpa [dcells] using hj)]
    rfl
  | x :: r, i + 1, h, j, hj => by
    have h2 := flat_nth r i (by simpa using h) j hj
    have e : (dcells x).length = 5 := rfl
    rw [List.flatMap_cons, List.getElem?_append_right (by omega), e, show 5 * (i + 1) + j - 5 = 5 * i + j by omega, h2]
    rfl
theorem Dr.nil (w : World) (base : Nat) : Dr w base (.slice none 0 0) [] := World.ownsRow_nil _ _ _ _
theorem Dr.lt {w : World} {base : Nat} {v : Value} {L : List DL} (h : Dr w base v L) : ∀ k, v.ownBlock = some k → base ≤ k ∧ k < w.heap.size := World.ownsRow.lt h
theorem Dr.stays {w w' : World} {base : Nat} {v : Value} {L : List DL} (h : Dr w base v L) (e : ∀ k, v.ownBlock = some k → w'.heap[k]? = w.heap[k]?) : Dr w' base v L := by
  refine ⟨h.1, ?_⟩
  rcases h.2 with h0 | ⟨g, cap, cur, h1, hb, hg, r⟩
  · exact .inl h0
  · exact .inr ⟨g, cap, cur, h1, hb, (e g (by rw [h1]; rfl)).trans hg, r⟩
theorem Dr.gr {w w' : World} {base : Nat} {v : Value} {L : List DL} (h : Dr w base v L) (g : Gr w w') : Dr w' base v L := h.stays fun k hk => g.block k (h.lt k hk).2
/-- What a slice of locks reads. -/
def DSl (w : World) (v : Value) (L : List DL) : Prop :=
  ∃ p c, v = .slice p L.length c ∧ L.length ≤ c ∧ c ≤ maxLen ∧ (p = none → L = [] ∧ c = 0) ∧ ∀ a, p = some a → ∃ g q, a = ⟨g, q, none⟩ ∧ (0 < L.length → g < w.heap.size) ∧ ∀ i (h : i < L.length) j u, (dcells L[i])[j]? = some u → w.cell? ⟨g, q + 5 * i + j, none⟩ = some u
theorem Dr.dsl {w : World} {base : Nat} {v : Value} {L : List DL} (h : Dr w base v L) : DSl w v L := by
  rcases h.2 with ⟨rfl, h0⟩ | ⟨g, cap, cur, rfl, hb, hg, h1, h2, _⟩
  · have hL : L = [] := List.eq_nil_of_length_eq_zero h0
    subst hL
    exact ⟨none, 0, rfl, Nat.le_refl _, Nat.zero_le _, fun _ => ⟨rfl, rfl⟩, fun a e => by cases e⟩
  · refine ⟨_, cap, rfl, h1, h2, fun e => (by cases e), fun a e => ?_⟩
    cases e
    refine ⟨g, 0, rfl, fun _ => (Array.getElem?_eq_some_iff.1 hg).1, fun i hi j u hu => ?_⟩
    have hj : j < 5 := by simpa [dcells] using (List.getElem?_eq_some_iff.1 hu).1
    have := World.ownsRow.cells h (g := g) rfl (5 * i + j) u (by rw [flat_nth L i hi j hj]; exact hu)
    rw [add_lit'] at this
    rw [show 0 + 5 * i + j = 0 + (5 * i + j) by omega]
    exact this
theorem DSl.gr {w w' : World} {v : Value} {L : List DL} (h : DSl w v L) (g : Gr w w') : DSl w' v L := by
  obtain ⟨p, c, h1, h2, h3, h4, h5⟩ := h
  refine ⟨p, c, h1, h2, h3, h4, fun a ha => ?_⟩
  obtain ⟨g', q, e, hb, hc⟩ := h5 a ha
  refine ⟨g', q, e, fun h0 => Nat.lt_of_lt_of_le (hb h0) g.size, fun i hi j u hu => ?_⟩
  rw [g.cell (blk_lt' (hc i hi j u hu))]
  exact hc i hi j u hu
/-- An append to a row of locks. -/
theorem run_app_d {w : World} {base : Nat} {v : Value} {L M : List DL} (hr : Dr w base v L) {vx : Value} (hy : DSl w vx M) (hk : L.length + M.length ≤ 1000000000) (hb : base ≤ w.heap.size) (ty : TypeId) :
    ∃ v' w', (Builtin.append_ #[TDs, TDs] ty #[v, vx]).run Tryz.prog w = .ok v' w' ∧ Dr w' base v' (L ++ M) ∧ w.grownBy w' v.ownBlock ∧ (v'.ownBlock = v.ownBlock ∨ v'.ownBlock = some w.heap.size) := by
  obtain ⟨i, hi, hz, hsz, hbb⟩ := inf_parts dl_info
  obtain ⟨p, c, rfl, h2, h3, h4, h5⟩ := hy
  cases p with
  | none =>
    obtain ⟨rfl, rfl⟩ := h4 rfl
    exact ⟨v, w, run_append_owned_none w base TDs ty TDl i 5 Tryz.underlying27 hi v _ _ hr, by simpa using hr, World.grownBy.refl _ _, .inl rfl⟩
  | some a =>
    obtain ⟨g, q, rfl, -, h6⟩ := h5 a rfl
    obtain ⟨v', w', e1, e2, e3, -, e4⟩ := run_append_own_at (P := Tryz.prog) w base TDs ty TDl i _ 5 40 Tryz.underlying27 hi hz hsz hbb rfl (by decide) v L.length _ hr ⟨g, q, none⟩ M.length c (M.flatMap dcells) (dcells_len M) (fun j u hj => by
      have hlt : j < M.length * 5 := by rw [← dcells_len]; exact (List.getElem?_eq_some_iff.1 hj).1
      have e : 5 * (j / 5) + j % 5 = j := Nat.div_add_mod j 5
      rw [← e, flat_nth M (j / 5) (by omega) (j % 5) (by omega)] at hj
      have := h6 (j / 5) (by omega) (j % 5) u hj
      rw [add_lit']
      rw [show q + 5 * (j / 5) + j % 5 = q + j by omega] at this
      exact this) (fun u hu => by
      obtain ⟨x, _, hx⟩ := List.mem_flatMap.1 hu
      simp [dcells] at hx
      rcases hx with rfl | rfl | rfl | rfl | rfl <;> rfl) (by simp only [maxLen]; omega) (by omega) hb
    refine ⟨v', w', e1, ?_, e3, e4⟩
    unfold Dr
    rw [List.length_append, List.flatMap_append]
    exact e2
/-- The document's table in memory: its block d, its rows. -/
structure DtAt (w : World) (base d : Nat) (D : DT) : Prop where
  ex : ∃ hv lv, Blk w d TDt #[hv, lv] ∧ Dr w base hv D.held ∧ Dr w base lv D.line ∧ (∀ k, hv.ownBlock = some k → k ≠ d) ∧ (∀ k, lv.ownBlock = some k → k ≠ d) ∧ ∀ k, hv.ownBlock = some k → lv.ownBlock ≠ some k
theorem DtAt.gr {w w' : World} {base d : Nat} {D : DT} (h : DtAt w base d D) (g : Gr w w') : DtAt w' base d D := by
  obtain ⟨hv, lv, h1, h2, h3, h4⟩ := h.ex
  exact ⟨hv, lv, h1.gr g, h2.gr g, h3.gr g, h4⟩
end Go.Proofs.YtadopbpfnnpnaaaGreat

/-
  The document's table of locks: together, Waits, LineOf, Holds.
-/
namespace Go.Proofs.YtadopbpfnnpnaaaGreat
open Go.RowKit Go.Maps

theorem DSl.at {w : World} {p : Option Addr} {N c : Nat} {L : List DL} (h : DSl w (.slice p N c) L) : N = L.length ∧ N ≤ c ∧ ∀ j, j < N → ∃ g q, p = some ⟨g, q, none⟩ ∧ w.cell? ⟨g, q + j * 5, none⟩ = some (.int .u64 ((L.getD j DL.zero).o : Int)) ∧ w.cell? ⟨g, q + j * 5 + 1, none⟩ = some (.int .i64 (L.getD j DL.zero).k.1) ∧ w.cell? ⟨g, q + j * 5 + 2, none⟩ = some (.int .i64 (L.getD j DL.zero).k.2) ∧ w.cell? ⟨g, q + j * 5 + 3, none⟩ = some (.int .i64 (L.getD j DL.zero).m) ∧ w.cell? ⟨g, q + j * 5 + 4, none⟩ = some (.bool (L.getD j DL.zero).up) := by
  obtain ⟨p', c', e, h2, h3, h4, h5⟩ := h
  cases e
  refine ⟨rfl, h2, fun j hj => ?_⟩
  cases p with
  | none => rw [(h4 rfl).1] at hj; simp at hj
  | some a =>
    obtain ⟨g, q, rfl, -, hc⟩ := h5 a rfl
    have e : L.getD j DL.zero = L[j] := by simp [List.getD, List.getElem?_eq_getElem hj]
    rw [e]
    have hc := fun k u hu => hc j hj k u hu
    simp only [Nat.mul_comm 5 j] at hc
    exact ⟨g, q, rfl, hc 0 _ rfl, hc 1 _ rfl, hc 2 _ rfl, hc 3 _ rfl, hc 4 _ rfl⟩
theorem dform {w : World} {base : Nat} {v : Value} {L : List DL} (h : Dr w base v L) : ∃ p c, v = .slice p L.length c := by
  obtain ⟨p, c, e, _⟩ := h.dsl
  exact ⟨p, c, e⟩
def DT.wi (D : DT) (o : Nat) : Int := if D.line.findIdx (ofO o) < D.line.length then (D.line.findIdx (ofO o) : Int) else -1
theorem dnth {L : List DL} {n : Nat} (h : n < L.length) : L.getD n DL.zero = L[n] := by simp [List.getD, List.getElem?_eq_getElem h]
theorem findIdx_here {p : DL → Bool} {L : List DL} {j : Nat} (hj : j < L.length) (h1 : p (L.getD j DL.zero) = true) (h2 : ∀ n, n < j → p (L.getD n DL.zero) = false) : L.findIdx p = j := by
  refine (List.findIdx_eq hj).2 ⟨by rw [← dnth hj]; exact h1, fun n hn => ?_⟩
  have := h2 n hn
  rw [dnth (by omega)] at this
  simpa using this
theorem findIdx_none {p : DL → Bool} {L : List DL} (h2 : ∀ n, n < L.length → p (L.getD n DL.zero) = false) : L.findIdx p = L.length := by
  refine List.findIdx_eq_length.2 fun x hx => ?_
  obtain ⟨n, hn, rfl⟩ := List.getElem_of_mem hx
  rw [← dnth hn]
  exact h2 n hn
section
variable {w : World} {base d : Nat} {D : DT}
set_option maxRecDepth 100000 in
theorem dtogether_any (a b : Int) (w : World) : Calls Tryz.prog 47 #[.int .i64 a, .int .i64 b] w fun e w' => e = .returned (.bool (tog a b)) ∧ w = w' := by
  by_cases ha : a = 1
  · by_cases hb : b = 1
    · subst ha hb
      go_enter Tryz.func47, Tryz.ntmps47
      go_wp2
      go_ret
      exact ⟨rfl, rfl⟩
    · subst ha
      have e1 : (b == 1) = false := by simpa using hb
      have e2 : tog 1 b = false := by unfold tog; simp [hb]
      rw [e2]
      go_enter Tryz.func47, Tryz.ntmps47
      go_wp2
      go_ret
      exact ⟨rfl, rfl⟩
  · have e1 : (a == 1) = false := by simpa using ha
    have e2 : tog a b = false := by unfold tog; simp [ha]
    rw [e2]
    go_enter Tryz.func47, Tryz.ntmps47
    go_wp2
    go_ret
    exact ⟨rfl, rfl⟩
set_option maxRecDepth 100000 in
theorem dWaits_any (h : DtAt w base d D) (hn : D.line.length ≤ 1000000000) (o : Nat) : Calls Tryz.prog 22 #[.pointer (some ⟨d, 0, none⟩), .int .u64 (o : Int)] w fun e w' => e = .returned (.int .i64 (D.wi o)) ∧ Gr w w' := by
  obtain ⟨hv, lv, hb, hh, hl, -⟩ := h.ex
  obtain ⟨p, c, rfl⟩ := dform hl
  have c1 := hb.cell 1
  simp at c1
  obtain ⟨N, hN⟩ : ∃ N, N = D.line.length := ⟨_, rfl⟩
  have hat := hl.dsl
  rw [← hN] at hat c1 hn
  obtain ⟨-, hNc, hat⟩ := hat.at
  obtain ⟨I, hI⟩ : ∃ I, I = D.wi o := ⟨_, rfl⟩
  rw [← hI]
  have HH := Lib.hid (And.intro hat (And.intro hN hI))
  clear h hat hN hI hb hh hl hNc
  go_enter Tryz.func22, Tryz.ntmps22
  go_wp2_with fail
  go_loopw [5] (fun i wr => ∃ j : Nat, i = .int .i64 (j : Int) ∧ j ≤ N ∧ wr = w ∧ Hid (∀ n, n < j → ofO o (D.line.getD n DL.zero) = false)) (fun i _ => N - (intOf i).toNat)
  case atStart => exact ⟨0, rfl, Nat.zero_le _, rfl, Lib.hid fun n hn => by omega⟩
  case round =>
    obtain ⟨j, rfl, hj, rfl, HJ⟩ := hrel
    obtain ⟨hat, hN, hI⟩ := HH.out
    by_cases hlt : j < N
    · have g3 : (j : Int) < (N : Int) := by omega
      obtain ⟨g, q, hp, hc, -⟩ := hat j (by omega)
      obtain ⟨X, hX⟩ : ∃ X, X = (D.line.getD j DL.zero).o := ⟨_, rfl⟩
      rw [← hX] at hc
      subst hp
      have hw1 : IntKind.i64.wrap ((j : Int) + 1) = ((j + 1 : Nat) : Int) := by rw [IntWalk.i64_in _ (by omega)]; omega
      by_cases he : X = o
      · have e1 : ((X : Int) == (o : Int)) = true := by rw [he]; simp
        have hd : I = (j : Int) := by
          rw [hI]
          unfold DT.wi
          rw [findIdx_here (by omega) (ofO_iff.2 (by rw [← hX]; exact he)) HJ.out, if_pos (by omega)]
        subst hd
        clear hat hN hX he HH hI
        go_wp2_with fail
        go_ret
        exact ⟨rfl, Gr.refl _⟩
      · have e1 : ((X : Int) == (o : Int)) = false := by rw [beq_eq_false_iff_ne]; omega
        have HJ2 : Hid (∀ n, n < j + 1 → ofO o (D.line.getD n DL.zero) = false) := Lib.hid fun n hn => by
          by_cases e : n = j
          · rw [e]
            unfold ofO
            rw [← hX]
            simp [he]
          · exact HJ.out n (by omega)
        have HMe : Hid (j + 1 ≤ N ∧ N - (j + 1) < N - j) := Lib.hid ⟨by omega, by omega⟩
        clear hat hN hX he hI hj hlt
        go_wp2_with fail
        go_roundw
        case rel => exact ⟨j + 1, by simp, HMe.out.1, (by first | rfl | trivial), HJ2⟩
        case measure => simpa [intOf] using HMe.out.2
    · have g3 : ¬ (j : Int) < (N : Int) := by omega
      have hd : I = -1 := by
        rw [hI]
        unfold DT.wi
        rw [findIdx_none fun n hn => HJ.out n (by omega), if_neg (by omega)]
      subst hd
      clear hat hN hI
      go_wp2_with fail
      go_ret
      exact ⟨rfl, Gr.refl _⟩
end
end Go.Proofs.YtadopbpfnnpnaaaGreat

/-
  The document's table of locks: LineOf.
-/
namespace Go.Proofs.YtadopbpfnnpnaaaGreat
open Go.RowKit Go.Maps

theorem Us.base_le {w : World} {b b' : Nat} {v : Value} {xs : List Nat} (h : Us w b v xs) (hb : b' ≤ b) : Us w b' v xs := by
  refine ⟨h.1, ?_⟩
  rcases h.2 with h2 | ⟨g, cap, cur, e, h0, r⟩
  · exact .inl h2
  · exact .inr ⟨g, cap, cur, e, Nat.le_trans hb h0, r⟩
theorem dgr_grown {a b c : World} {r : Option Nat} (h : Gr a b) (g : b.grownBy c r) (hr : ∀ n, r = some n → a.heap.size ≤ n) : Gr a c :=
  ⟨g.os.trans h.os, g.tape.trans h.tape, g.output.trans h.output, Nat.le_trans h.size g.size, fun n hn => (g.block n (Nat.lt_of_lt_of_le hn h.size) (fun e => by have := hr n e.symm; omega)).trans (h.block n hn)⟩
section
variable {w : World} {base d : Nat} {D : DT}
set_option maxRecDepth 100000 in
theorem dLineOf_any (h : DtAt w base d D) (hn : D.line.length ≤ 1000000000) (k : Key) : Calls Tryz.prog 26 #[.pointer (some ⟨d, 0, none⟩), .agg #[.int .i64 k.1, .int .i64 k.2]] w (RetRow (D.lineOf k) w) := by
  obtain ⟨hv, lv, hb, hh, hl, -⟩ := h.ex
  obtain ⟨p, c, rfl⟩ := dform hl
  obtain ⟨k1, hk1⟩ : ∃ k1, k1 = k.1 := ⟨_, rfl⟩
  obtain ⟨k2, hk2⟩ : ∃ k2, k2 = k.2 := ⟨_, rfl⟩
  rw [← hk1, ← hk2]
  obtain ⟨N, hN⟩ : ∃ N, N = D.line.length := ⟨_, rfl⟩
  have hat := hl.dsl
  rw [← hN] at hat hn
  obtain ⟨-, hNc, hat⟩ := hat.at
  have c1 := hb.cell 1
  simp at c1
  rw [← hN] at c1
  have hbl : d < w.heap.size := hb.lt
  have g0 : Gr w (w.alloc (.cells #[.int .i64 k1, .int .i64 k2] TKey)) := (Gr.refl w).alloc (Nat.le_refl _) _
  have b0 := Blk.new w TKey #[.int .i64 k1, .int .i64 k2]
  obtain ⟨W0, hW0⟩ : ∃ W0, W0 = w.alloc (.cells #[.int .i64 k1, .int .i64 k2] TKey) := ⟨_, rfl⟩
  rw [← hW0] at g0 b0
  have HH := Lib.hid (And.intro hat (And.intro hN (And.intro hk1 (And.intro hk2 (And.intro g0 (And.intro b0 (And.intro c1 (And.intro hbl hW0))))))))
  clear h hat hN hb hh hl hNc hk1 hk2 g0 b0 c1 hbl hW0
  go_enter Tryz.func26, Tryz.ntmps26
  go_upto_region 3 with fail
  rw [show (w.alloc (.cells #[.int .i64 k1, .int .i64 k2] 33)) = W0 from HH.out.2.2.2.2.2.2.2.2.symm]
  go_wp2_with fail
  go_loopw [6, 5] (fun i s5 wr => ∃ j : Nat, i = .int .i64 (j : Int) ∧ j ≤ N ∧ Hid (Us wr W0.heap.size s5 (((D.line.take j).filter (ofK k)).map DL.o) ∧ Gr W0 wr)) (fun i _ _ => N - (intOf i).toNat)
  case atStart => exact ⟨0, rfl, by omega, Lib.hid ⟨by rw [List.take_zero]; exact Us.nil _ _, Gr.refl _⟩⟩
  case round =>
    obtain ⟨j, rfl, hj, HR⟩ := hrel
    obtain ⟨hat, hN, hk1, hk2, g0, b0, c1, hbl, hW0⟩ := HH.out
    have gw := Gr.trans g0 HR.out.2
    have c1' := (gw.cell hbl).trans c1
    have z0 := (b0.gr HR.out.2).cell 0
    have z1 := (b0.gr HR.out.2).cell 1
    simp at z0 z1
    by_cases hlt : j < N
    · have g3 : (j : Int) < (N : Int) := by omega
      obtain ⟨g, q, hp, ha, hb1, hb2, -⟩ := hat j hlt
      subst hp
      have r0 := (gw.cell (blk_lt' ha)).trans ha
      have r1 := (gw.cell (blk_lt' hb1)).trans hb1
      have r2 := (gw.cell (blk_lt' hb2)).trans hb2
      obtain ⟨X, hX⟩ : ∃ X, X = (D.line.getD j DL.zero).o := ⟨_, rfl⟩
      obtain ⟨Y, hY⟩ : ∃ Y, Y = (D.line.getD j DL.zero).k := ⟨_, rfl⟩
      rw [← hX] at r0
      rw [← hY] at r1 r2
      have hjl : j < D.line.length := by omega
      have htk : D.line.take (j + 1) = D.line.take j ++ [D.line.getD j DL.zero] := by rw [List.take_succ_eq_append_getElem hjl, dnth hjl]
      have hq0 : ∀ W, (Op.equalIn 10000 TKey (.agg #[.int .i64 Y.1, .int .i64 Y.2]) (.agg #[.int .i64 k1, .int .i64 k2])).run Tryz.prog W = .ok (decide (Y = k)) W := fun W => by
        rw [hk1, hk2]
        exact eqi_key Y k W
      have hw1 : IntKind.i64.wrap ((j : Int) + 1) = ((j + 1 : Nat) : Int) := by rw [IntWalk.i64_in _ (by omega)]; omega
      have hMe : Hid (j + 1 ≤ N ∧ N - (j + 1) < N - j) := Lib.hid ⟨by omega, by omega⟩
      have hlen : (((D.line.take j).filter (ofK k)).map DL.o).length ≤ j := by
        rw [List.length_map]
        exact Nat.le_trans (List.length_filter_le _ _) (by rw [List.length_take]; omega)
      have e13 : decide ((j : Int) < (N : Int)) = true := decide_eq_true g3
      have hp0 : (0 : Int) ≤ (j : Int) := by omega
      by_cases he : Y = k
      · have hs : (((D.line.take (j + 1)).filter (ofK k)).map DL.o) = (((D.line.take j).filter (ofK k)).map DL.o) ++ [X] := by
          rw [htk, List.filter_append, List.map_append, List.filter_cons, if_pos (ofK_iff.2 (by rw [← hY]; exact he)), hX]
          rfl
        have hq : ∀ W, (Op.equalIn 10000 TKey (.agg #[.int .i64 Y.1, .int .i64 Y.2]) (.agg #[.int .i64 k1, .int .i64 k2])).run Tryz.prog W = .ok true W := fun W => by
          rw [hq0 W]; simp [he]
        have HS := Lib.hid hs
        have HL := Lib.hid hlen
        have HB := Lib.hid hbl
        clear hat hN hk1 hk2 g0 b0 c1 hW0 ha hb1 hb2 hX hY htk hq0 he hs hlen hbl
        have HG := Lib.hid gw
        clear gw
        go_upto_region 5 with fail
        go_quiet (fail)
        have g1 : Gr wr (wr.drewN nq) := grD (Gr.refl _)
        obtain ⟨W1, hW1⟩ : ∃ W1, W1 = wr.drewN nq := ⟨_, rfl⟩
        rw [← hW1] at g1 ⊢
        have d1 := (g1.cell (blk_lt' c1')).trans c1'
        have d2 := (g1.cell (blk_lt' r0)).trans r0
        clear c1' r0 r1 r2 z0 z1
        obtain ⟨W8, hW8⟩ : ∃ W8, W8 = W1.alloc (.cells #[.int .u64 (X : Int)] TOw) := ⟨_, rfl⟩
        have g8 : Gr W1 W8 := by rw [hW8]; exact (Gr.refl W1).alloc (Nat.le_refl _) _
        have hu8 := (HR.out.1.gr g1).gr g8
        have hy8 : USl W8 (.slice (some ⟨W1.heap.size, 0, none⟩) 1 1) [X] := by rw [hW8]; exact USl.one W1 X TOw
        have gw8 := Gr.trans HR.out.2 (Gr.trans g1 g8)
        have H8 := Lib.hid (And.intro hu8 (And.intro hy8 (And.intro gw8 hW8)))
        have hcl : (((D.line.take j).filter (ofK k)).map DL.o).length + [X].length ≤ 1000000000 := by
          have := HL.out
          simp only [List.length_cons, List.length_nil]
          omega
        have hbs : W0.heap.size ≤ W8.heap.size := gw8.size
        clear hW1 g1 hW8 g8 hu8 hy8 gw8
        go_wp2_with (at_builtin; rw [show (W1.alloc (.cells #[.int .u64 (X : Int)] 31)) = W8 from H8.out.2.2.2.symm]; refine wpList_app_us rfl (.tmp 26) (.tmp 35) rfl rfl H8.out.1 rfl H8.out.2.1 hcl hbs (fun v' W9 hv9 hg9 => ?_))
        have hg9' : W8.grownBy W9 u5.ownBlock := hg9
        clear hg9
        have HE := Lib.hid (And.intro (show Us W9 W0.heap.size v' (((D.line.take (j + 1)).filter (ofK k)).map DL.o) by rw [HS.out]; exact hv9) (show Gr W0 W9 from dgr_grown H8.out.2.2.1 hg9' fun n hn => (H8.out.1.lt n hn).1))
        clear hv9 hg9' hcl hbs
        go_wp2_with fail
        go_roundw
        case rel => exact ⟨j + 1, by simp, hMe.out.1, HE⟩
        case measure => simpa [intOf] using hMe.out.2
      · have hs : (((D.line.take (j + 1)).filter (ofK k)).map DL.o) = (((D.line.take j).filter (ofK k)).map DL.o) := by
          rw [htk, List.filter_append, List.map_append, List.filter_cons, if_neg (fun e => he (by rw [hY]; exact ofK_iff.1 e))]
          simp
        have hq : ∀ W, (Op.equalIn 10000 TKey (.agg #[.int .i64 Y.1, .int .i64 Y.2]) (.agg #[.int .i64 k1, .int .i64 k2])).run Tryz.prog W = .ok false W := fun W => by
          rw [hq0 W]; simp [he]
        have HS := Lib.hid hs
        clear hat hN hk1 hk2 g0 b0 c1 hW0 ha hb1 hb2 hX hY htk hq0 he hs hlen hbl gw
        go_upto_region 5 with fail
        go_quiet (fail)
        have HE := Lib.hid (And.intro (show Us (wr.drewN nq) W0.heap.size u5 (((D.line.take (j + 1)).filter (ofK k)).map DL.o) by rw [HS.out]; exact HR.out.1.gr (grD (Gr.refl _))) (show Gr W0 (wr.drewN nq) from grD HR.out.2))
        go_wp2_with fail
        go_roundw
        case rel => exact ⟨j + 1, by simp, hMe.out.1, HE⟩
        case measure => simpa [intOf] using hMe.out.2
    · have hjN : j = N := by omega
      subst hjN
      have HE := Lib.hid (show Us wr w.heap.size u5 (D.lineOf k) by
        have := HR.out.1.base_le g0.size
        rwa [hN, List.take_length] at this)
      have HG := Lib.hid gw
      have e27 : decide ((j : Int) < (j : Int)) = false := decide_eq_false (by omega)
      clear hat hN hk1 hk2 g0 b0 c1 hW0 gw hbl
      go_wp2_with fail
      go_ret
      exact ⟨_, rfl, HE.out, HG.out⟩
end
end Go.Proofs.YtadopbpfnnpnaaaGreat

/-
  The document's table of locks: Holds; less; Keys.
-/
namespace Go.Proofs.YtadopbpfnnpnaaaGreat
open Go.RowKit Go.Maps

theorem find_here {p : DL → Bool} : ∀ {L : List DL} {j : Nat}, j < L.length → p (L.getD j DL.zero) = true → (∀ n, n < j → p (L.getD n DL.zero) = false) → L.find? p = some (L.getD j DL.zero)
  | [], j, hj, _, _ => by simp at hj
  | x :: r, 0, _, h1, _ => by
    have h1' : p x = true := h1
    rw [List.find?_cons, h1']
    rfl
  | x :: r, j + 1, hj, h1, h2 => by
    have h0 : p x = false := h2 0 (by omega)
    rw [List.find?_cons, h0]
    exact find_here (L := r) (j := j) (by simpa using hj) h1 fun n hn => h2 (n + 1) (by omega)
theorem find_none {p : DL → Bool} {L : List DL} (h2 : ∀ n, n < L.length → p (L.getD n DL.zero) = false) : L.find? p = none := by
  refine List.find?_eq_none.2 fun x hx => ?_
  obtain ⟨n, hn, rfl⟩ := List.getElem_of_mem hx
  rw [← dnth hn, h2 n hn]
  simp
section
variable {w : World} {base d : Nat} {D : DT}
set_option maxRecDepth 100000 in
theorem dHolds_any (h : DtAt w base d D) (hn : D.held.length ≤ 1000000000) (o : Nat) (k : Key) : Calls Tryz.prog 23 #[.pointer (some ⟨d, 0, none⟩), .int .u64 (o : Int), .agg #[.int .i64 k.1, .int .i64 k.2]] w fun e w' => e = .returned (.int .i64 (D.holds o k)) ∧ Gr w w' := by
  obtain ⟨hv, lv, hb, hl, hh, -⟩ := h.ex
  obtain ⟨p, c, rfl⟩ := dform hl
  obtain ⟨k1, hk1⟩ : ∃ k1, k1 = k.1 := ⟨_, rfl⟩
  obtain ⟨k2, hk2⟩ : ∃ k2, k2 = k.2 := ⟨_, rfl⟩
  rw [← hk1, ← hk2]
  obtain ⟨N, hN⟩ : ∃ N, N = D.held.length := ⟨_, rfl⟩
  obtain ⟨I, hI⟩ : ∃ I, I = D.holds o k := ⟨_, rfl⟩
  rw [← hI]
  have hat := hl.dsl
  rw [← hN] at hat hn
  obtain ⟨-, hNc, hat⟩ := hat.at
  have c1 := hb.cell 0
  simp at c1
  rw [← hN] at c1
  have hbl : d < w.heap.size := hb.lt
  have g0 : Gr w (w.alloc (.cells #[.int .i64 k1, .int .i64 k2] TKey)) := (Gr.refl w).alloc (Nat.le_refl _) _
  have b0 := Blk.new w TKey #[.int .i64 k1, .int .i64 k2]
  obtain ⟨W0, hW0⟩ : ∃ W0, W0 = w.alloc (.cells #[.int .i64 k1, .int .i64 k2] TKey) := ⟨_, rfl⟩
  rw [← hW0] at g0 b0
  have HH := Lib.hid (And.intro hat (And.intro hN (And.intro hk1 (And.intro hk2 (And.intro g0 (And.intro b0 (And.intro c1 (And.intro hbl (And.intro hI hW0)))))))))
  clear h hat hN hb hh hl hNc hk1 hk2 g0 b0 c1 hbl hW0 hI
  go_enter Tryz.func23, Tryz.ntmps23
  go_upto_region 2 with fail
  rw [show (w.alloc (.cells #[.int .i64 k1, .int .i64 k2] 33)) = W0 from HH.out.2.2.2.2.2.2.2.2.2.symm]
  go_wp2_with fail
  go_loopw [7] (fun i wr => ∃ j : Nat, i = .int .i64 (j : Int) ∧ j ≤ N ∧ Hid ((∀ n, n < j → isOf o k (D.held.getD n DL.zero) = false) ∧ Gr W0 wr)) (fun i _ => N - (intOf i).toNat)
  case atStart => exact ⟨0, rfl, by omega, Lib.hid ⟨fun n hn => by omega, Gr.refl _⟩⟩
  case round =>
    obtain ⟨j, rfl, hj, HR⟩ := hrel
    obtain ⟨hat, hN, hk1, hk2, g0, b0, c1, hbl, hI, hW0⟩ := HH.out
    have gw := Gr.trans g0 HR.out.2
    have c1' := (gw.cell hbl).trans c1
    have z0 := (b0.gr HR.out.2).cell 0
    have z1 := (b0.gr HR.out.2).cell 1
    simp at z0 z1
    by_cases hlt : j < N
    · have g3 : (j : Int) < (N : Int) := by omega
      obtain ⟨g, q, hp, ha, hb1, hb2, hb3, -⟩ := hat j hlt
      subst hp
      have r0 := (gw.cell (blk_lt' ha)).trans ha
      have r1 := (gw.cell (blk_lt' hb1)).trans hb1
      have r2 := (gw.cell (blk_lt' hb2)).trans hb2
      have r3 := (gw.cell (blk_lt' hb3)).trans hb3
      obtain ⟨X, hX⟩ : ∃ X, X = (D.held.getD j DL.zero).o := ⟨_, rfl⟩
      obtain ⟨Y, hY⟩ : ∃ Y, Y = (D.held.getD j DL.zero).k := ⟨_, rfl⟩
      obtain ⟨M, hM⟩ : ∃ M, M = (D.held.getD j DL.zero).m := ⟨_, rfl⟩
      rw [← hX] at r0
      rw [← hY] at r1 r2
      rw [← hM] at r3
      have hjl : j < D.held.length := by omega
      have hq0 : ∀ W, (Op.equalIn 10000 TKey (.agg #[.int .i64 Y.1, .int .i64 Y.2]) (.agg #[.int .i64 k1, .int .i64 k2])).run Tryz.prog W = .ok (decide (Y = k)) W := fun W => by
        rw [hk1, hk2]
        exact eqi_key Y k W
      have hw1 : IntKind.i64.wrap ((j : Int) + 1) = ((j + 1 : Nat) : Int) := by rw [IntWalk.i64_in _ (by omega)]; omega
      have hMe : Hid (j + 1 ≤ N ∧ N - (j + 1) < N - j) := Lib.hid ⟨by omega, by omega⟩
      have e13 : decide ((j : Int) < (N : Int)) = true := decide_eq_true g3
      have hp0 : (0 : Int) ≤ (j : Int) := by omega
      have hiso : isOf o k (D.held.getD j DL.zero) = (decide (X = o) && decide (Y = k)) := by unfold isOf; rw [← hX, ← hY]
      have hnext : (decide (X = o) && decide (Y = k)) = false → Hid ((∀ n, n < j + 1 → isOf o k (D.held.getD n DL.zero) = false)) := fun hf => Lib.hid fun n hn => by
        by_cases e : n = j
        · rw [e, hiso]; exact hf
        · exact HR.out.1 n (by omega)
      by_cases he : X = o
      · have e1 : ((X : Int) == (o : Int)) = true := by rw [he]; simp
        by_cases hk : Y = k
        · have hq : ∀ W, (Op.equalIn 10000 TKey (.agg #[.int .i64 Y.1, .int .i64 Y.2]) (.agg #[.int .i64 k1, .int .i64 k2])).run Tryz.prog W = .ok true W := fun W => by
            rw [hq0 W]; simp [hk]
          have hd : I = M := by
            rw [hI]
            unfold DT.holds
            rw [find_here hjl (by rw [hiso]; simp [he, hk]) HR.out.1]
            exact hM.symm
          subst hd
          have HG := Lib.hid gw
          clear hat hN hk1 hk2 g0 b0 c1 hbl hI hW0 ha hb1 hb2 hb3 hX hY hM hjl hq0 hiso hnext he hk gw
          go_upto_region 4 with fail
          go_quiet (fail)
          rename_i nq
          have g1 : Gr wr (wr.drewN nq) := grD (Gr.refl _)
          have d1 := (g1.cell (blk_lt' c1')).trans c1'
          have d3 := (g1.cell (blk_lt' r3)).trans r3
          have HG2 := Lib.hid (Gr.trans HG.out g1)
          obtain ⟨W1, hW1⟩ : ∃ W1, W1 = wr.drewN nq := ⟨_, rfl⟩
          rw [← hW1] at d1 d3 HG2 ⊢
          clear hW1 g1 c1' r0 r1 r2 r3 z0 z1
          go_wp2_with fail
          go_ret
          exact ⟨rfl, HG2.out⟩
        · have hq : ∀ W, (Op.equalIn 10000 TKey (.agg #[.int .i64 Y.1, .int .i64 Y.2]) (.agg #[.int .i64 k1, .int .i64 k2])).run Tryz.prog W = .ok false W := fun W => by
            rw [hq0 W]; simp [hk]
          have HN := hnext (by simp [hk])
          clear hat hN hk1 hk2 g0 b0 c1 hbl hI hW0 ha hb1 hb2 hb3 hX hY hM hjl hq0 hiso hnext he hk gw
          go_upto_region 4 with fail
          go_quiet (fail)
          rename_i nq
          have HE := Lib.hid (And.intro HN.out (show Gr W0 (wr.drewN nq) from grD HR.out.2))
          go_wp2_with fail
          go_roundw
          case rel => exact ⟨j + 1, by simp, hMe.out.1, HE⟩
          case measure => simpa [intOf] using hMe.out.2
      · have e1 : ((X : Int) == (o : Int)) = false := by rw [beq_eq_false_iff_ne]; omega
        have HN := hnext (by simp [he])
        clear hat hN hk1 hk2 g0 b0 c1 hbl hI hW0 ha hb1 hb2 hb3 hX hY hM hjl hq0 hiso hnext he gw
        go_upto_region 4 with fail
        go_quiet (fail)
        rename_i nq
        have HE := Lib.hid (And.intro HN.out (show Gr W0 (wr.drewN nq) from grD HR.out.2))
        go_wp2_with fail
        go_roundw
        case rel => exact ⟨j + 1, by simp, hMe.out.1, HE⟩
        case measure => simpa [intOf] using hMe.out.2
    · have hjN : j = N := by omega
      subst hjN
      have hd : I = 0 := by
        rw [hI]
        unfold DT.holds
        rw [find_none fun n hn => HR.out.1 n (by omega)]
      subst hd
      have HG := Lib.hid gw
      have e27 : decide ((j : Int) < (j : Int)) = false := decide_eq_false (by omega)
      clear hat hN hk1 hk2 g0 b0 c1 hW0 gw hbl hI
      go_wp2_with fail
      go_ret
      exact ⟨rfl, HG.out⟩
end
end Go.Proofs.YtadopbpfnnpnaaaGreat

