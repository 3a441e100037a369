
/-
  The law's nothing: a table that is not there.
-/
import Derived.Test.YtgpaikaccipfjaaLk36
import Derived.Test.YtgpaikaccipfjaaLk24
namespace Go.Proofs.Ytgpaikaccipfjaa
open Go.RowKit Go.Maps Go.Shelf
attribute [local go_sem] Oper.semAt_some

abbrev TSq : TypeId := 50
theorem seq_nil_func (f : Go.Fn) (g bs : Array Value) (W : World) : (binOp .eql TSq (.func f g bs) .nilFunc).run Try.prog W = .ok (.bool false) W := by
  have h : (Op.equal TSq (.func f g bs) .nilFunc).run Try.prog W = .ok false W := by
    unfold Op.equal
    have h2 : ∀ D : Nat, (Op.equalIn (D + 1) TSq (.func f g bs) .nilFunc).run Try.prog W = .ok false W := fun D => by
      simp [Op.equalIn, run_underlying Try.underlying50]
    exact h2 _
  unfold binOp
  simp [h]
/-- What lies there all the while. -/
structure NoAt (w W : World) (nb D : Nat) : Prop where
  gr : Gr w W
  n : Blk W nb TI #[.int .i64 0]
  d : W.heap[D]? = some (.deferred (some []))
  lo : w.heap.size ≤ D
theorem NoAt.up {w W W' : World} {nb D : Nat} (h : NoAt w W nb D) (g : Gr W W') : NoAt w W' nb D := ⟨Gr.trans h.gr g, h.n.gr g, (g.block D (Array.getElem?_eq_some_iff.1 h.d).1).trans h.d, h.lo⟩
set_option maxRecDepth 100000 in
set_option maxHeartbeats 4000000 in
theorem nothing_gone (w : World) (tv : Value) (h : TGone w tv) : Calls Try.prog 18 #[tv] w fun e w' => e = .returned (.bool true) ∧ Gr w w' := by
  have HT := Lib.hid h
  clear h
  refine (callsIn_wide (n := 8)).1 ?_
  refine callsIn_of_wp_marks Try.func18 rfl trivial ?_ rfl
  simp only [Try.ntmps18, List.size_toArray, List.length_cons, List.length_nil, Nat.reduceAdd, Nat.reduceSub, Array.replicate_succ, Array.replicate_zero, List.push_toArray, List.append_toArray, List.nil_append, List.cons_append]
  gi_wp2_with fail
  refine ⟨trivial, ?_⟩
  refine (callsIn_wide.2 (Waits_gone HT.out 1)).mono ?_
  rintro e W1 ⟨rfl, g1⟩
  have HG := Lib.hid (Gr.trans g1 ((Gr.refl W1).alloc (Nat.le_refl _) (.cells #[.int .i64 0, .int .i64 0] TKey)))
  clear g1
  gi_wp2_with fail
  refine ⟨trivial, ?_⟩
  refine (callsIn_wide.2 (Held_gone (HT.out.gr HG.out) 1)).mono ?_
  rintro e W2 ⟨kb, mb, p, cap, rfl, g2, hkb⟩
  have H2 := Lib.hid (And.intro (Gr.trans HG.out g2) hkb)
  clear g2 hkb
  have hsn := seq_nil_func
  gi_wp2_with fail
  obtain ⟨WA, hWA⟩ : ∃ WA, WA = W2.alloc (.cells #[.int .i64 0] TI) := ⟨_, rfl⟩
  obtain ⟨nb, hnb⟩ : ∃ nb, nb = W2.heap.size := ⟨_, rfl⟩
  have HA : Hid (Gr w WA ∧ Blk WA nb TI #[.int .i64 0] ∧ kb < WA.heap.size ∧ WA.cell? ⟨kb, 0, none⟩ = some (.slice p 0 cap)) := Lib.hid (by
    have g3 : Gr W2 (W2.alloc (.cells #[.int .i64 0] TI)) := (Gr.refl W2).alloc (Nat.le_refl _) _
    rw [hWA, hnb]
    have hb := H2.out.2.gr g3
    exact ⟨Gr.trans H2.out.1 g3, Blk.new _ _ _, hb.lt, hb.cell 0⟩)
  rw [show (W2.alloc (.cells #[.int .i64 0] 3)) = WA from hWA.symm, ← hnb]
  clear hWA hnb hsn
  refine wpIn_rangeFunc_ownF rfl (by omega) (gf := 36) (lb := #[.pointer (some ⟨kb, 0, none⟩), .pointer (some ⟨mb, 0, none⟩)]) rfl trivial (enters_of Try.func36 (by kernel_rfl) rfl)
    (held_stops 7 kb mb p cap (fun _ _ => True) _ HA.out.2.2.1 HA.out.2.2.2) (fun _ _ => trivial) (fun _ _ _ _ _ _ _ _ => trivial) (Below.refl _ _) (fun x => x.elim)
    (fun _ W' => Below WA.heap.size WA W') (fun _ _ _ => False) (ownFrom_below (Nat.le_refl _) (Nat.le_refl _)) (fun _ _ _ _ _ hs _ _ => hs) (Below.refl _ _) (fun x => x.elim) (fun _ x => x.elim) (fun _ _ x => x.elim) ?done1 (fun _ _ _ _ _ hs _ _ => hs.elim)
  rintro D xs WB hD rfl hBB hK1
  have HN : Hid (NoAt w WB nb D) := Lib.hid ⟨Gr.trans HA.out.1 hBB, HA.out.2.1.gr hBB, hK1, Nat.le_trans HA.out.1.size hD⟩
  clear hBB hK1 hD HA
  have dom00 : KL.dom ((0 : Int), (0 : Int)) := ⟨⟨by decide, by decide⟩, ⟨by decide, by decide⟩⟩
  gi_wp2_with fail
  refine ⟨trivial, ?_⟩
  refine (callsIn_wide.2 (Ask_gone (HT.out.gr HN.out.gr) 1 0 0 0)).mono ?_
  rintro e V0 ⟨rfl, g1⟩
  have HN := Lib.hid (HN.out.up g1)
  clear g1
  gi_wp2_with fail
  refine ⟨trivial, ?_⟩
  refine (callsIn_wide.2 (num_any _ 1)).mono ?_
  rintro e V1 ⟨rfl, rfl⟩
  gi_wp2_with fail
  refine ⟨trivial, ?_⟩
  refine (callsIn_wide.2 (Free_gone (HT.out.gr HN.out.gr) 1)).mono ?_
  rintro e V2 ⟨rfl, rfl⟩
  gi_wp2_with fail
  refine ⟨trivial, ?_⟩
  refine (callsIn_wide.2 (Holds_gone (HT.out.gr HN.out.gr) 1 dom00)).mono ?_
  rintro e V3 ⟨rfl, g1⟩
  have HN := Lib.hid (HN.out.up g1)
  clear g1
  gi_wp2_with fail
  refine ⟨trivial, ?_⟩
  refine (callsIn_wide.2 (For_gone (HT.out.gr HN.out.gr) 1)).mono ?_
  rintro e V4 ⟨rfl, g1⟩
  have HN := Lib.hid (HN.out.up g1)
  clear g1
  gi_wp2_with fail
  refine ⟨trivial, ?_⟩
  refine (callsIn_wide.2 (Line_gone (HT.out.gr HN.out.gr) 0 0)).mono ?_
  rintro e V5 ⟨rfl, g1⟩
  have HN := Lib.hid (HN.out.up g1)
  clear g1
  have hn0 := HN.out.n.cell 0
  simp at hn0
  gi_wp2_with fail
  clear hn0
  refine ⟨trivial, ?_⟩
  refine (callsIn_wide.2 (Len_gone (HT.out.gr HN.out.gr))).mono ?_
  rintro e V6 ⟨rfl, rfl⟩
  gi_wp2_with fail
  refine ⟨trivial, ?_⟩
  refine (callsIn_wide.2 (Copy_gone10 (HT.out.gr HN.out.gr))).mono ?_
  rintro e V7 ⟨rfl, rfl⟩
  gi_wp2_with fail
  refine ⟨by simp, .inl ⟨_, _, rfl, run_takeDeferred HN.out.d, ?_⟩⟩
  exact ⟨.bool true, by simp [results, Try.results18], rfl, Below.trans HN.out.gr (belowK_b (w := w) (Nat.le_refl _) V5 D _ (.deferred none) HN.out.lo HN.out.d rfl rfl)⟩
end Go.Proofs.Ytgpaikaccipfjaa
