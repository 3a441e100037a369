
/-
  Both disks, side by side; an act.
-/
import Derived.Test.YtkoalabacfjgbaaRefCrash
import Derived.Deep.QuietTactic
import Derived.BigQuiet
namespace Go.Proofs.Ytkoalabacfjgbaa
open Go.RowKit Go.Maps

set_option maxRecDepth 100000 in
set_option maxHeartbeats 1000000 in
theorem Write_no {F : Nat → Prop} {p : Value} {s : St} (w : World) (h : Dk w F p s) (i : Int) (hi : i < 0 ∨ (s.ls.length : Int) ≤ i) (x : Sec) : Calls Try.prog 17 #[p, .int .i64 i, .agg (sec x)] w fun e w' => e = .returned (.int .i64 2) ∧ Gr w w' := by
  obtain ⟨b, lv, m, L, rfl, h⟩ := h
  have hg : Gr w (w.alloc (.cells (sec x) TS)) := (Gr.refl w).alloc (Nat.le_refl _) _
  have ha := asked_any _ (h.gr hg) i
  have he : askE s.ls.length i = 2 := by unfold askE; rw [if_pos hi]
  rw [he] at ha
  have HA := Lib.hid ha
  have HG := Lib.hid hg
  clear he ha h hi hg
  go_enter Try.func17, Try.ntmps17
  go_wp2_with fail
  refine HA.out.mono ?_
  rintro e w1 ⟨rfl, rfl⟩
  go_wp2
  go_ret
  exact ⟨rfl, HG.out⟩

structure Pair (w : World) (F G : Nat → Prop) (p r : Value) (s : St) : Prop where
  dk : Dk w F p s
  rf : Rf w G r s
  apart : ∀ k, F k → ¬ G k
theorem Pair.stays {w w' : World} {F G : Nat → Prop} {p r : Value} {s : St} (h : Pair w F G p r s) (g : Gr w w') : Pair w' F G p r s := ⟨h.dk.gr g, h.rf.gr g, h.apart⟩
/-- The code's disk has turned. -/
theorem Pair.code {w w1 : World} {F G F' : Nat → Prop} {p r : Value} {s : St} (h : Pair w F G p r s) (u : Upd F F' w w1) : Rf w1 G r s ∧ ∀ k, F' k → ¬ G k := by
  obtain ⟨h1, h2⟩ := u.other h.rf.low h.apart
  exact ⟨h.rf.stays h1 u.size, h2⟩
/-- The document's has, too. -/
theorem Pair.doc {w w1 w2 : World} {F G F' G' : Nat → Prop} {p' r' : Value} {s' : St} (u1 : Upd F F' w w1) (d : Dk w1 F' p' s') (ap : ∀ k, F' k → ¬ G k) (u2 : Upd G G' w1 w2) (r2 : Rf w2 G' r' s') : Pair w2 F' G' p' r' s' ∧ Upd (fun k => F k ∨ G k) (fun k => F' k ∨ G' k) w w2 := by
  obtain ⟨h1, h2⟩ := u2.other d.low (fun k hg hf => ap k hf hg)
  refine ⟨⟨d.stays h1 u2.size, r2, fun k hf hg => h2 k hg hf⟩, ⟨u2.os.trans u1.os, u2.tape.trans u1.tape, u2.output.trans u1.output, Nat.le_trans u1.size u2.size, fun k hk hn => ?_, fun k hk => ?_⟩⟩
  · exact (u2.block k (Nat.lt_of_lt_of_le hk u1.size) (fun e => hn (.inr e))).trans (u1.block k hk (fun e => hn (.inl e)))
  · rcases hk with hk | hk
    · exact (u1.fresh k hk).imp .inl id
    · rcases u2.fresh k hk with h | h
      · exact .inl (.inr h)
      · exact .inr (Nat.le_trans u1.size h)
theorem Upd.same {F : Nat → Prop} (w : World) : Upd F F w w := Upd.of_gr (Gr.refl w)
theorem Upd.pre {F F' : Nat → Prop} {w w1 w2 : World} (g : Gr w w1) (u : Upd F F' w1 w2) : Upd F F' w w2 := (Upd.of_gr g).trans u

/-- An act. -/
structure Do where
  kind : Int
  i : Int
  n : Int
  byt : UInt8
  picks : List Int
structure Do.Ok (a : Do) : Prop where
  k0 : -9223372036854775808 ≤ a.kind
  k1 : a.kind ≤ 9223372036854775807
  i0 : -9223372036854775808 ≤ a.i
  i1 : a.i ≤ 9223372036854775807
  n0 : -9223372036854775808 ≤ a.n
  n1 : a.n ≤ 9223372036854775807
abbrev TAct : TypeId := 40
def Do.val (a : Do) (v : Value) : Array Value := #[.int .i64 a.kind, .int .i64 a.i, .int .i64 a.n, .int .u8 (B8 a.byt), v]
/-- What it makes of a disk. -/
def St.does (s : St) (a : Do) : St :=
  if a.kind = 1 then (if a.i < 0 ∨ (s.ls.length : Int) ≤ a.i then s else if s.refuses then { s with dead := true } else s.wrote a.i.toNat (Sec.of a.byt))
  else if a.kind = 2 then (if s.dead then s else s.barrier)
  else if a.kind = 3 then { s with fuse := a.n }
  else if a.kind = 4 then s.crash a.picks
  else s
/-- Both have done it, and agree. -/
def DoRet (w : World) (F G : Nat → Prop) (s : St) (e : Ending) (w' : World) : Prop := ∃ p' r' F' G', e = .returned (.tuple #[p', r', .bool true]) ∧ Pair w' F' G' p' r' s ∧ Upd (fun k => F k ∨ G k) (fun k => F' k ∨ G' k) w w'

/-- The code's write, whatever comes of it. -/
def WrE (s : St) (a : Do) : Int := if a.i < 0 ∨ (s.ls.length : Int) ≤ a.i then 2 else if s.refuses then 8 else 0
def WrS (s : St) (a : Do) : St := if a.i < 0 ∨ (s.ls.length : Int) ≤ a.i then s else if s.refuses then { s with dead := true } else s.wrote a.i.toNat (Sec.of a.byt)
theorem Write_all {F : Nat → Prop} {p : Value} {s : St} (w : World) (h : Dk w F p s) (a : Do) (hw : s.writes ≤ 1000000000) : Calls Try.prog 17 #[p, .int .i64 a.i, .agg (sec (Sec.of a.byt))] w fun e w' => Chg F p (WrS s a) (.int .i64 (WrE s a)) w e w' := by
  unfold WrS WrE
  by_cases hi : a.i < 0 ∨ (s.ls.length : Int) ≤ a.i
  · rw [if_pos hi, if_pos hi]
    refine (Write_no w h a.i hi _).mono ?_
    rintro e w' ⟨rfl, hg⟩
    exact ⟨F, rfl, h.gr hg, Upd.of_gr hg⟩
  · rw [if_neg hi, if_neg hi]
    have hin : a.i = (a.i.toNat : Int) := by omega
    have hlt : a.i.toNat < s.ls.length := by omega
    by_cases hr : s.refuses
    · rw [if_pos hr, if_pos hr]
      have := Write_dead w h a.i.toNat hlt (Sec.of a.byt) hr
      rw [← hin] at this
      refine this.mono ?_
      rintro e w' ⟨rfl, hd, hu⟩
      exact ⟨F, rfl, hd, hu⟩
    · rw [if_neg hr, if_neg hr]
      have := Write_yes w h a.i.toNat hlt (Sec.of a.byt) hr hw
      rw [← hin] at this
      exact this
def RwS (s : St) (a : Do) : St := if s.refuses then { s with dead := true } else s.wrote a.i.toNat (Sec.of a.byt)
theorem refWrite_all {G : Nat → Prop} {r : Value} {s : St} (w : World) (h : Rf w G r s) (a : Do) (h0 : 0 ≤ a.i) (h1 : a.i < (s.ls.length : Int)) (hw : s.writes ≤ 1000000000) (hl : ∀ i, (s.t i).length ≤ 1000000000) :
    Calls Try.prog 28 #[r, .int .i64 a.i, .agg (sec (Sec.of a.byt))] w fun e w' => ChgR G r (RwS s a) (.bool (!decide s.refuses)) w e w' := by
  unfold RwS
  have hin : a.i = (a.i.toNat : Int) := by omega
  by_cases hr : s.refuses
  · rw [if_pos hr]
    have := refWrite_dead w h a.i.toNat (Sec.of a.byt) hr
    rw [← hin] at this
    refine this.mono ?_
    rintro e w' h
    simpa [hr] using h
  · rw [if_neg hr]
    have := refWrite_yes w h a.i.toNat (by omega) (Sec.of a.byt) hr hw (hl _)
    rw [← hin] at this
    refine this.mono ?_
    rintro e w' h
    simpa [hr] using h

end Go.Proofs.Ytkoalabacfjgbaa
