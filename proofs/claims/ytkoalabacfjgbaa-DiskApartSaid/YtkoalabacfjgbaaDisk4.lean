
import Derived.Test.YtkoalabacfjgbaaDisk3
import Derived.Test.YtkoalabacfjgbaaFlowBy
import Derived.Deep.DeepCutAuto
import Derived.Deep.CutBlock
import Derived.Outline
namespace Go.Proofs.Ytkoalabacfjgbaa
open Go.RowKit Go.Maps

/-- What a write does. -/
def St.wrote (s : St) (i : Nat) (x : Sec) : St := { s with fuse := if 0 < s.fuse then s.fuse - 1 else s.fuse, t := fun j => if j = i then s.t i ++ [x] else s.t j, writes := s.writes + 1 }
def St.refuses (s : St) : Prop := s.fuse = 0 ∨ s.dead = true
instance (s : St) : Decidable s.refuses := inferInstanceAs (Decidable (_ ∨ _))

set_option maxRecDepth 100000 in
set_option maxHeartbeats 1000000 in
theorem Write_dead {F : Nat → Prop} {p : Value} {s : St} (w : World) (h : Dk w F p s) (i : Nat) (hi : i < s.ls.length) (x : Sec) (hr : s.refuses) : Calls Try.prog 17 #[p, .int .i64 (i : Int), .agg (sec x)] w fun e w' => e = .returned (.int .i64 8) ∧ Dk w' F p { s with dead := true } ∧ Upd F F w w' := by
  obtain ⟨b, lv, m, L, rfl, h⟩ := h
  have hg : Gr w (w.alloc (.cells (sec x) TS)) := (Gr.refl w).alloc (Nat.le_refl _) _
  have h' := h.gr hg
  have ha := asked_any _ h' (i : Int)
  have he : askE s.ls.length (i : Int) = 0 := by unfold askE; rw [if_neg (by omega)]
  rw [he] at ha
  have HA := Lib.hid ha
  obtain ⟨h0, h1, h2, h3, h4⟩ := h'.cells
  have hf := h'.blk.frozen 3
  have HB := Lib.hid (h'.blk.set 3 (.bool true))
  have HU := Lib.hid (Upd.trans (Upd.of_gr (F := F) hg) (upd_cell (w := w.alloc (.cells (sec x) TS)) (i := 3) h.ownB (.bool true)))
  have HU0 := Lib.hid (Upd.of_gr (F := F) hg)
  have HD : Hid (DkAt ((w.alloc (.cells (sec x) TS)).setCell ⟨b, 3, none⟩ (.bool true)) F b lv m L { s with dead := true }) := Lib.hid (h'.block (s' := { s with dead := true }) ⟨h.ok.pos, h.ok.most, h.ok.out, h.ok.less, h.ok.lo, h.ok.hi⟩ rfl rfl (Nat.le_refl _) (by simpa using HB.out) (fun k _ hk => Below.heap_setCell _ _ _ k hk) (by simp [World.setCell]))
  by_cases hz : s.fuse = 0
  · rw [hz] at h2
    clear h h' ha he hi HB hr h0 h1 h4 HU0 hz
    go_enter Try.func17, Try.ntmps17
    go_wp2_with fail
    refine HA.out.mono ?_
    rintro e w1 ⟨rfl, rfl⟩
    go_wp2
    go_ret
    exact ⟨rfl, ⟨_, _, _, _, rfl, HD.out⟩, HU.out⟩
  · have hd : s.dead = true := by rcases hr with h | h
                                  · exact absurd h hz
                                  · exact h
    have hs : { s with dead := true } = s := by cases s; simp at hd; simp [hd]
    have HD0 : Hid (DkAt (w.alloc (.cells (sec x) TS)) F b lv m L { s with dead := true }) := Lib.hid (by rw [hs]; exact h')
    rw [hd] at h3
    have hz2 : (s.fuse == 0) = false := by simpa using hz
    obtain ⟨f, hff⟩ : ∃ f, f = s.fuse := ⟨_, rfl⟩
    rw [← hff] at h2 hz2
    clear h h' ha he hi HB hr h0 h1 h4 HU hz hs HD hd hff
    go_enter Try.func17, Try.ntmps17
    go_wp2_with fail
    refine HA.out.mono ?_
    rintro e w1 ⟨rfl, rfl⟩
    go_wp2
    go_ret
    exact ⟨rfl, ⟨_, _, _, _, rfl, HD0.out⟩, HU0.out⟩

end Go.Proofs.Ytkoalabacfjgbaa
