
/-
  The code's table of locks: New, Len, made.
-/
import Derived.Test.YtgpaikaccipfjaaLk5
namespace Go.Proofs.Ytgpaikaccipfjaa
open Go.RowKit Go.Maps

def Tb.new : Tb := ⟨fun _ => none, fun _ => none, 0, [], []⟩
def B0 (w : World) : Tag → Option Nat | .tb => some (w.heap.size + 1 + 1) | .km => some w.heap.size | .om => some (w.heap.size + 1) | _ => none
set_option maxRecDepth 100000 in
theorem New_any (w : World) : Calls Try.prog 8 #[] w fun e w' => ∃ t km om B, e = .returned (.pointer (some ⟨t, 0, none⟩)) ∧ TbAt w' t km om B Tb.new ∧ Gr w w' ∧ (∀ n, FB B n → w.heap.size ≤ n) := by
  have hmm := @run_makeMap Try.prog
  go_enter Try.func8, Try.ntmps8
  go_wp2
  go_ret
  have g1 : Gr w (w.alloc (.map #[] 0)) := (Gr.refl w).alloc (Nat.le_refl _) _
  have g2 : Gr (w.alloc (.map #[] 0)) ((w.alloc (.map #[] 0)).alloc (.map #[] 0)) := (Gr.refl _).alloc (Nat.le_refl _) _
  have g3 : Gr ((w.alloc (.map #[] 0)).alloc (.map #[] 0)) (((w.alloc (.map #[] 0)).alloc (.map #[] 0)).alloc (.cells #[.map (some w.heap.size), .map (some (w.heap.size + 1)), .int .i64 0] TTb)) := (Gr.refl _).alloc (Nat.le_refl _) _
  have hb := Blk.new ((w.alloc (.map #[] 0)).alloc (.map #[] 0)) TTb #[.map (some w.heap.size), .map (some (w.heap.size + 1)), .int .i64 0]
  have m1 : Mp Try.prog KL (w.alloc (.map #[] 0)) w.heap.size (fun _ => none) [] := Mp.made w
  have m2 : Mp Try.prog KO ((w.alloc (.map #[] 0)).alloc (.map #[] 0)) (w.heap.size + 1) (fun _ => none) [] := by
    have := Mp.made (P := Try.prog) (K := KO) (w.alloc (.map #[] 0))
    rwa [World.size_alloc] at this
  simp only [World.size_alloc] at hb
  refine ⟨w.heap.size + 1 + 1, w.heap.size, w.heap.size + 1, B0 w, rfl, ⟨rfl, rfl, rfl, fun a b n ha hb => ?_, hb, (m1.stays (g2.block _ m1.lt)).stays (g3.block _ (by simp; omega)), m2.stays (g3.block _ m2.lt), (fun _ _ h => by cases h), (fun _ _ h => by cases h), fun _ _ => ⟨rfl, rfl, rfl⟩, fun _ _ => ⟨rfl, rfl⟩⟩, Gr.trans g1 (Gr.trans g2 g3), fun n hn => ?_⟩
  · cases a <;> cases b <;> simp [B0] at ha hb <;> first | rfl | omega
  · obtain ⟨a, ha⟩ := hn
    cases a <;> simp [B0] at ha <;> omega
section
variable {w : World} {t km om : Nat} {B : Tag → Option Nat} {T : Tb}
set_option maxRecDepth 100000 in
theorem Len_any (h : TbAt w t km om B T) : Calls Try.prog 16 #[.pointer (some ⟨t, 0, none⟩)] w fun e w' => e = .returned (.int .i64 T.many) ∧ w = w' := by
  have c2 := h.c3.2.2
  have HM := Lib.hid (missing_no h)
  clear h
  go_enter Try.func16, Try.ntmps16
  go_wp2_with fail
  refine HM.out.mono ?_
  rintro e w' ⟨rfl, rfl⟩
  go_wp2_with fail
  go_ret
  exact ⟨rfl, rfl⟩
/-- An owner has a party. -/
def Tb.made (T : Tb) (o : Nat) : Tb := match T.py o with | none => { T with py := updF T.py o (some Py.zero), oo := putK o T.oo } | some _ => T
def RetMade (t km om : Nat) (B : Tag → Option Nat) (T : Tb) (o : Nat) (w : World) (e : Ending) (w' : World) : Prop :=
  ∃ b B', e = .returned (.pointer (some ⟨b, 0, none⟩)) ∧ B' (.py o) = some b ∧ TbAt w' t km om B' (T.made o) ∧ Tn w w' B B' ∧ ∀ k, B' (.lk k) = B (.lk k) ∧ B' (.hm k) = B (.hm k)
set_option maxRecDepth 100000 in
theorem made_any (h : TbAt w t km om B T) {o : Nat} (ho : KO.dom o) (hn : T.oo.length < maxLen) : Calls Try.prog 43 #[.pointer (some ⟨t, 0, none⟩), .int .u64 (o : Int)] w (RetMade t km om B T o w) := by
  have c1 := h.c3.2.1
  have hl := h.lookO ho
  cases e : T.py o with
  | some p =>
    obtain ⟨b, h', e1, e2, e3, e4⟩ := h.py o p e
    rw [e1] at hl
    have hl' : (Instr.lookup TMo (.map (some om)) (.int .u64 (o : Int)) false).run Try.prog w = .ok (.pointer (some ⟨b, 0, none⟩)) w := hl
    have HR : Hid (RetMade t km om B T o w (.returned (.pointer (some ⟨b, 0, none⟩))) w) := Lib.hid ⟨b, B, rfl, e1, by unfold Tb.made; rw [e]; exact h, Tn.refl _ _, fun _ => ⟨rfl, rfl⟩⟩
    clear h hl e e1 e2 e3 e4
    go_enter Try.func43, Try.ntmps43
    go_wp2_with fail
    go_ret
    exact HR.out
  | none =>
    rw [(h.py0 o e).1] at hl
    have hl' : (Instr.lookup TMo (.map (some om)) (.int .u64 (o : Int)) false).run Try.prog w = .ok (.pointer none) w := hl
    have g1 : Gr w (w.alloc (.map #[] 0)) := (Gr.refl w).alloc (Nat.le_refl _) _
    have g2 : Gr (w.alloc (.map #[] 0)) ((w.alloc (.map #[] 0)).alloc (.cells #[.map (some w.heap.size), .int .i64 0, .int .i64 0, .int .i64 0] TPy)) := (Gr.refl _).alloc (Nat.le_refl _) _
    have hb := Blk.new (w.alloc (.map #[] 0)) TPy #[.map (some w.heap.size), .int .i64 0, .int .i64 0, .int .i64 0]
    have m1 : Mp Try.prog KL (w.alloc (.map #[] 0)) w.heap.size (fun _ => none) [] := Mp.made w
    have h2 := h.gr (Gr.trans g1 g2)
    rw [World.size_alloc] at hb
    have d1 := h2.c3.2.1
    obtain ⟨W, hW⟩ : ∃ W, W = (w.alloc (.map #[] 0)).alloc (.cells #[.map (some w.heap.size), .int .i64 0, .int .i64 0, .int .i64 0] TPy) := ⟨_, rfl⟩
    rw [← hW] at g2 hb h2 d1
    obtain ⟨w3, hrun, hM, hG⟩ := h2.owners.store KO_ok hn (t := TMo) Try.underlying46 ho (.pointer (some ⟨w.heap.size + 1, 0, none⟩))
    rw [show KO.val o = .int .u64 (o : Int) from rfl] at hrun
    have hml := m1.lt
    have hne : ∀ n, n < W.heap.size → n ≠ om → w3.heap[n]? = W.heap[n]? := fun n h1 h2 => hG.block n h1 fun e => h2 (by cases e; rfl)
    have homl : om < w.heap.size := h.owners.lt
    have hp : PyAt w3 (some (w.heap.size + 1)) (some w.heap.size) Py.zero :=
      ⟨_, _, rfl, rfl, hb.stays (hne _ hb.lt (by omega)), (m1.stays (g2.block _ hml)).stays (hne _ (by have := g2.size; omega) (by omega))⟩
    have hw : Onl (fun n => n = om) w w3 := (Onl.of_gr (Gr.trans g1 g2)).trans (Onl.of_grown (S := fun n => n = om) hG rfl) (fun _ _ e => e)
    obtain ⟨r1, r2⟩ := h.addPy e (by omega) (by omega) (by omega) hw hp hM
    have HR : Hid (RetMade t km om B T o w (.returned (.pointer (some ⟨w.heap.size + 1, 0, none⟩))) w3) := Lib.hid ⟨_, _, rfl, by rw [updF_other _ _ (by simp), updF_same], by unfold Tb.made; rw [e]; exact r1, r2, fun k => ⟨by rw [updF_other _ _ (by simp), updF_other _ _ (by simp)], by rw [updF_other _ _ (by simp), updF_other _ _ (by simp)]⟩⟩
    rw [hW] at hrun d1
    have hmm := @run_makeMap Try.prog
    clear h hl e g1 g2 hb m1 h2 hW hM hG hml hne homl hp hw r1 r2
    go_enter Try.func43, Try.ntmps43
    go_wp2_with fail
    go_ret
    exact HR.out
end
end Go.Proofs.Ytgpaikaccipfjaa
