
/-
  The document's disk: what lies loose.
-/
import Derived.Test.YtkoalabacfjgbaaRefNew
namespace Go.Proofs.Ytkoalabacfjgbaa
open Go.RowKit Go.Maps

abbrev TNI : TypeId := 38
theorem info_int : (Try.prog.info? TI).map (fun i => (i.zero, i.size, i.bytes)) = some (some (.int .i64 0), 1, 8) := by kernel_rfl
/-- One number behind a list of numbers of one's own. -/
theorem wpList_app_int {ops : Array Oper} {rest : List Oper} {o : Oper} {a : Act} {w : World} {Q : Exit → Act → World → Prop} (hg : o.guard = none) (s x : Operand) (ho : o.op = .call { callee := .builtin .append, args := #[s, x], argTypes := #[TNI, TNI] })
    {v : Value} {base : Nat} {xs : List Nat} (hs : a.eval s = v) (hr : Ints w base v xs) {q : Nat} (hx : a.eval x = .slice (some ⟨q, 0, none⟩) 1 1) {z : Nat} (hc : w.cell? ⟨q, 0, none⟩ = some (.int .i64 (z : Int))) (hk : xs.length ≤ 1000000) (hb : base ≤ w.heap.size)
    (h : ∀ v' w', Ints w' base v' (xs ++ [z]) → w.grownBy w' v.ownBlock → wpList Try.prog ops Q rest (a.put o.dst v') w') : wpList Try.prog ops Q (o :: rest) a w := by
  refine wpList_plain hg fun K hK => ?_
  obtain ⟨i, hi, hz, hsz, hbb⟩ := info_parts info_int
  obtain ⟨v', w', hrun, h1, h2, _, h3⟩ := run_append_own_at (P := Try.prog) w base TNI o.type TI i (.int .i64 0) 1 8 Try.underlying38 hi hz hsz hbb (by rfl) (by omega) v xs.length _ hr ⟨q, 0, none⟩ 1 1 [.int .i64 (z : Int)] (by simp) (fun j x hj => by
    cases j with
    | zero => simp at hj; subst hj; exact hc
    | succ j => simp at hj) (fun x hx => by simp at hx; subst hx; rfl) (by unfold maxLen; omega) (by omega) hb
  unfold Oper.wp execOp
  simp only [ho, resolve, invoke, builtin, Sem.run_bind, Sem.run_pure, Result.andThen_ok, List.map_toArray, List.map_cons, List.map_nil, hs, hx, hrun]
  refine hK _ _ (h v' w' ?_ h2)
  unfold Ints
  rw [List.map_append, List.length_append]
  exact h1

/-- Of the first k. -/
def St.loosek (s : St) (k : Nat) : List Nat := (List.range k).filter fun i => !(s.t i).isEmpty
theorem loosek_len (s : St) (k : Nat) : (s.loosek k).length ≤ k := by
  have := List.length_filter_le (fun i => !(s.t i).isEmpty) (List.range k)
  rwa [List.length_range] at this
theorem loosek_succ (s : St) (k : Nat) : s.loosek (k + 1) = s.loosek k ++ (if s.t k = [] then [] else [k]) := by
  unfold St.loosek
  rw [List.range_succ, List.filter_append]
  congr 1
  by_cases h : s.t k = []
  · rw [if_pos h]; simp [h]
  · rw [if_neg h]; simp [h]

set_option maxRecDepth 100000 in
set_option maxHeartbeats 2000000 in
theorem refLoose_any {G : Nat → Prop} {r : Value} {s : St} (w : World) (h : Rf w G r s) : Calls Try.prog 25 #[r] w fun e w' => RetLoose s.loose w e w' := by
  obtain ⟨b, gs, cs, V, rfl, h⟩ := h
  obtain ⟨N, hN⟩ : ∃ N, N = s.ls.length := ⟨_, rfl⟩
  have hN2 : N ≤ 65536 := by rw [hN]; exact h.most
  have HN := Lib.hid hN
  have HD := Lib.hid h
  have HI : Hid (Ints w w.heap.size (.slice none 0 0) (s.loosek 0)) := Lib.hid (World.ownsRow_nil _ _ _ _)
  clear h hN
  go_enter Try.func25, Try.ntmps25
  go_wp2_with fail
  go_loopw [3, 4] (fun l0 i wr => ∃ (k : Nat) (l : Value), k ≤ N ∧ i = .int .i64 k ∧ l = l0 ∧ Hid (Ints wr w.heap.size l (s.loosek k)) ∧ Hid (Gr w wr)) (fun _ i _ => N - (intOf i).toNat)
  case atStart => exact ⟨0, _, Nat.zero_le _, rfl, rfl, HI, Lib.hid (Gr.refl _)⟩
  case round =>
    obtain ⟨k, l, hk, rfl, rfl, hi, hg⟩ := hrel
    have hc := (HD.out.gr hg.out).cells.1
    rw [← HN.out] at hc
    by_cases hlt : k < N
    · have hk65 : (k : Int) < 65536 := by omega
      have hkl : k < s.ls.length := by rw [← HN.out]; exact hlt
      have hoc := (HD.out.gr hg.out).outer.cell k hkl
      obtain ⟨gu, cu, hv, _, hc1, hc2⟩ := (HD.out.rows k hkl).full (at_ne s k)
      rw [at_len] at hv hc1
      obtain ⟨n, hn⟩ : ∃ n, n = (s.t k).length := ⟨_, rfl⟩
      rw [← hn] at hv hc1
      rw [hv] at hoc
      have hnm : n + 1 ≤ 9223372036854775807 := by unfold maxLen at hc2; omega
      have HS := Lib.hid (loosek_succ s k)
      by_cases ht : s.t k = []
      · have hn0 : n = 0 := by rw [hn, ht]; rfl
        have HT := Lib.hid ht
        subst hn0
        have HI2 : Hid (Ints wr w.heap.size l (s.loosek (k + 1))) := Lib.hid (by rw [HS.out, if_pos HT.out, List.append_nil]; exact hi.out)
        have HG := hg
        clear hi hg hc1 hc2 hn hv hkl ht
        go_wp2_with fail
        go_roundw
        case rel => exact ⟨k + 1, _, by omega, by go_num, rfl, HI2, HG⟩
        case measure => simp [intOf]; omega
      · obtain ⟨m, hm⟩ : ∃ m, m = n + 1 := ⟨_, rfl⟩
        have hn1 : 1 < m := by
          have : 0 < (s.t k).length := List.length_pos_iff.2 ht
          omega
        rw [← hm] at hoc hnm
        clear hm
        have HT := Lib.hid ht
        have HI := hi
        have HG := hg
        have HL : Hid ((s.loosek k).length ≤ 1000000) := Lib.hid (by have := loosek_len s k; omega)
        have HW : Hid (Ints (wr.alloc (.cells #[.int .i64 (k : Int)] TI)) w.heap.size l (s.loosek k)) := Lib.hid (by
          unfold Ints
          have h1 := hi.out
          unfold Ints at h1
          refine ⟨h1.1, ?_⟩
          rcases h1.2 with h2 | ⟨g', cap, cur, e, h0, h2, r⟩
          · exact .inl h2
          · exact .inr ⟨g', cap, cur, e, h0, ((Gr.new wr _).block g' (Array.getElem?_eq_some_iff.1 h2).1).trans h2, r⟩)
        have HC : Hid ((wr.alloc (.cells #[.int .i64 (k : Int)] TI)).cell? ⟨wr.heap.size, 0, none⟩ = some (.int .i64 (k : Int))) := Lib.hid ((Blk.new wr TI #[.int .i64 (k : Int)]).cell 0)
        have HB : Hid (w.heap.size ≤ (wr.alloc (.cells #[.int .i64 (k : Int)] TI)).heap.size) := Lib.hid (by have := hg.out.size; simp; omega)
        have HO : Hid (∀ g, l.ownBlock = some g → w.heap.size ≤ g) := Lib.hid fun g e => (World.ownsRow.lt hi.out g e).1
        clear hi hg hc1 hc2 hn hv hkl ht
        go_upto_if 22 with fail
        have e1 : decide ((1 : Int) < (m : Int)) = true := decide_eq_true (by omega)
        rw [e1]
        clear e1 hn1
        go_wp2_with (refine wpList_app_int rfl _ _ rfl rfl HW.out rfl HC.out HL.out HB.out ?_; intro v' w' hv' hw')
        have HI3 : Hid (Ints w' w.heap.size v' (s.loosek (k + 1))) := Lib.hid (by rw [HS.out, if_neg HT.out]; exact hv')
        have HG3 : Hid (Gr w w') := Lib.hid ((Gr.trans HG.out (Gr.new wr _)).own hw' HO.out)
        clear hv' hw'
        go_wp2_with fail
        go_roundw
        case rel => exact ⟨k + 1, _, by omega, by go_num, rfl, HI3, HG3⟩
        case measure => simp [intOf]; omega
    · obtain rfl : k = N := by omega
      have HI := hi
      have HG := hg
      have HE : Hid (s.loosek k = s.loose) := Lib.hid (by unfold St.loosek St.loose; rw [HN.out])
      clear hi hg
      go_wp2_with fail
      go_ret
      exact ⟨_, rfl, by rw [← HE.out]; exact HI.out, HG.out⟩

end Go.Proofs.Ytkoalabacfjgbaa
