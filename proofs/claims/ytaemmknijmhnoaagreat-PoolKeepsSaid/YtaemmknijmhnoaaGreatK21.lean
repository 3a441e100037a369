/-
  Texts, put together: Wal8.
-/
import Derived.Test.YtaemmknijmhnoaaGreatK20
set_option linter.unusedVariables false
set_option linter.unusedSimpArgs false
/-
  One of the log's sectors is written; an opening's sectors are parted from those of elder ones; what lasts is noted.
-/
namespace Go.Proofs.YtaemmknijmhnoaaGreat
open Go.RowKit Go.Maps

/-- A sector is written, or the power goes. -/
def putD (s : St) (i : Nat) (x : Sec) : St := if s.refuses then { s with dead := true } else s.wrote i x
def putDE (s : St) : Int := if s.refuses then 8 else 0
theorem WriteX_any {F : Nat → Prop} {p : Value} {s : St} (w : World) (h : Dk w F p s) (i : Nat) (hi : i < s.ls.length) (x : Sec) (hw : s.writes ≤ 1000000000) : Calls Tryz.prog 77 #[p, .int .i64 (i : Int), .agg (sec x)] w fun e w' => Chg F p (putD s i x) (.int .i64 (putDE s)) w e w' := by
  unfold putD putDE
  by_cases hr : s.refuses
  · rw [if_pos hr, if_pos hr]
    refine (Write_dead w h i hi x hr).mono ?_
    rintro e w' ⟨rfl, hd, hu⟩
    exact ⟨F, rfl, hd, hu⟩
  · rw [if_neg hr, if_neg hr]
    exact Write_yes w h i hi x hr hw

def SlWr (b : Nat) (p : Value) (k : Nat) (ep : Nat) (q1 : Option Addr) (m1 : Nat) (c1 : Nat) (I : Nat) (S : Sec) (E : Int) (slot : Nat) (v : Value) (_ : World) : Prop :=
  match slot with
  | 6 => v = .int .i64 E
  | 7 => v = .pointer (some ⟨b, 0, none⟩)
  | 8 => v = .pointer (some ⟨b, 0, none⟩)
  | 9 => v = .pointer (some ⟨b, 0, none⟩)
  | 10 => v = p
  | 11 => v = .pointer (some ⟨b, 0, none⟩)
  | 12 => v = .int .u64 (k : Int)
  | 13 => v = .int .i64 (I : Int)
  | 14 => v = .int .u64 (k : Int)
  | 15 => v = .pointer (some ⟨b, 0, none⟩)
  | 16 => v = .pointer (some ⟨b, 0, none⟩)
  | 17 => v = .pointer (some ⟨b, 4, none⟩)
  | 18 => v = .int .u64 (ep : Int)
  | 19 => v = .slice q1 m1 c1
  | 20 => v = .agg #[.int .u64 (k : Int), .int .u64 (ep : Int), .slice q1 m1 c1]
  | 21 => v = .agg (sec S)
  | 22 => v = .int .i64 E
  | _ => True

set_option maxRecDepth 100000 in
set_option maxHeartbeats 1000000 in
theorem wwrite_core (D b : Nat) (p : Value) (n : Int) (l : Int) (g : Int) (ep : Nat) (tl : Nat) (la : Nat) (q : Option Addr) (m : Nat) (c : Nat) (rs : Int) (bg : Bool) (k : Nat) (q1 : Option Addr) (m1 c1 : Nat) (ys : List Int) (I : Nat) (S : Sec) (E : Int) (Fin : World → Prop) (w : World) (h : Blk w b TLg #[p, .int .i64 n, .int .i64 l, .int .i64 g, .int .u64 ep, .int .u64 tl, .int .u64 la, .slice q m c, .int .i64 rs, .bool bg]) (hp : p = .pointer (some ⟨D, 0, none⟩)) (hm : mayL n l g = true) (hk : k ≤ 18446744073709551615) (he : ep ≤ 18446744073709551615)
    (hy : Byt w q1 m1 c1 ys) (h1 : m1 ≤ 232) (hI : I = 3 + k % l.toNat) (hS : S = Sx (secL k ep ys))
    (HWr : Hid (∀ W, Gr w W → Calls Tryz.prog 77 #[p, .int .i64 (I : Int), .agg (sec S)] W fun e w' => e = .returned (.int .i64 E) ∧ Fin w')) :
    Calls Tryz.prog 104 #[.pointer (some ⟨b, 0, none⟩), .int .u64 (k : Int), .slice q1 m1 c1] w fun e w' => e = .returned (.int .i64 E) ∧ Fin w' := by
  have HB := Lib.hid h
  have HP : Hid (∀ W, Gr w W → Calls Tryz.prog 100 #[.pointer (some ⟨b, 0, none⟩), .int .u64 (k : Int)] W fun e w' => e = .returned (.int .i64 (I : Int)) ∧ Gr W w') := Lib.hid fun W gr => by
    rw [hI]
    exact wplace_any b p n l g ep tl la q m c rs bg k W (h.gr gr) hm hk
  have HS : Hid (∀ W, Gr w W → Calls Tryz.prog 131 #[.agg #[.int .u64 (k : Int), .int .u64 (ep : Int), .slice q1 m1 c1]] W fun e w' => e = .returned (.agg (sec S)) ∧ Gr W w') := Lib.hid fun W gr => by
    rw [hS]
    exact psector_any k ep q1 m1 c1 ys W hk he (hy.kept gr) h1
  clear h hy hm hI hS hp
  go_enter Tryz.func104, Tryz.ntmps104
  go_wp2_with fail
  refine Flow.regionS [6] 20 (SlWr b p k ep q1 m1 c1 I S E) (InC 15 w (Fin)) (fun _ _ _ => True) (by kernel_rfl) (by kernel_rfl) (fun _ _ _ _ _ _ h _ => h) (InC.start (by rfl) (Gr.refl _).drew) ?steps ?fin
  case steps =>
    refine Flow.StepsS.cons (fun l a W hfr hun hup hdn hinv hdep K hK => ?_) ?_
    · have s0 : a.tmps.getD 0 undef = .pointer (some ⟨b, 0, none⟩) := hfr.at 0 (by kernel_rfl)
      have t0 : a.tmps[0]?.getD undef = .pointer (some ⟨b, 0, none⟩) := by simpa using s0
      rw [if_pos (Flow.wanted_none rfl)]
      clear hfr hdep hdn
      go_simp
      exact hK _ _ True.intro (hinv.other 0 (by decide)) (fun d hd => by cases hd; trivial)
    refine Flow.StepsS.cons (fun l a W hfr hun hup hdn hinv hdep K hK => ?_) ?_
    · have s7 : a.tmps.getD 7 undef = .pointer (some ⟨b, 0, none⟩) := hdep 7 (by kernel_rfl)
      have t7 : a.tmps[7]?.getD undef = .pointer (some ⟨b, 0, none⟩) := by simpa using s7
      rw [if_pos (Flow.wanted_none rfl)]
      clear hfr hdep hdn
      go_simp
      exact hK _ _ True.intro (hinv.other 1 (by decide)) (fun d hd => by cases hd; trivial)
    refine Flow.StepsS.cons (fun l a W hfr hun hup hdn hinv hdep K hK => ?_) ?_
    · have s8 : a.tmps.getD 8 undef = .pointer (some ⟨b, 0, none⟩) := hdep 8 (by kernel_rfl)
      have t8 : a.tmps[8]?.getD undef = .pointer (some ⟨b, 0, none⟩) := by simpa using s8
      rw [if_pos (Flow.wanted_none rfl)]
      clear hfr hdep hdn
      go_simp
      exact hK _ _ True.intro (hinv.other 2 (by decide)) (fun d hd => by cases hd; trivial)
    refine Flow.StepsS.cons (fun l a W hfr hun hup hdn hinv hdep K hK => ?_) ?_
    · have s9 : a.tmps.getD 9 undef = .pointer (some ⟨b, 0, none⟩) := hdep 9 (by kernel_rfl)
      have t9 : a.tmps[9]?.getD undef = .pointer (some ⟨b, 0, none⟩) := by simpa using s9
      rw [if_pos (Flow.wanted_none rfl)]
      clear hfr hdep hdn
      have hlz : l 15 = false := hup 15 (by decide) (by kernel_rfl)
      have hin := hinv.pre hlz
      obtain ⟨c0, c1, c2, c3, c4, c5, c6, c7, c8, c9⟩ := (HB.out.gr hin).c10
      go_simp
      exact hK _ _ True.intro (hinv.other 3 (by decide)) (fun d hd => by cases hd; trivial)
    refine Flow.StepsS.cons (fun l a W hfr hun hup hdn hinv hdep K hK => ?_) ?_
    · have s0 : a.tmps.getD 0 undef = .pointer (some ⟨b, 0, none⟩) := hfr.at 0 (by kernel_rfl)
      have t0 : a.tmps[0]?.getD undef = .pointer (some ⟨b, 0, none⟩) := by simpa using s0
      rw [if_pos (Flow.wanted_none rfl)]
      clear hfr hdep hdn
      go_simp
      exact hK _ _ True.intro (hinv.other 4 (by decide)) (fun d hd => by cases hd; trivial)
    refine Flow.StepsS.cons (fun l a W hfr hun hup hdn hinv hdep K hK => ?_) ?_
    · have s1 : a.tmps.getD 1 undef = .int .u64 (k : Int) := hfr.at 1 (by kernel_rfl)
      have t1 : a.tmps[1]?.getD undef = .int .u64 (k : Int) := by simpa using s1
      rw [if_pos (Flow.wanted_none rfl)]
      clear hfr hdep hdn
      go_simp
      exact hK _ _ True.intro (hinv.other 5 (by decide)) (fun d hd => by cases hd; trivial)
    refine Flow.StepsS.cons (fun l a W hfr hun hup hdn hinv hdep K hK => ?_) ?_
    · have s11 : a.tmps.getD 11 undef = .pointer (some ⟨b, 0, none⟩) := hdep 11 (by kernel_rfl)
      have t11 : a.tmps[11]?.getD undef = .pointer (some ⟨b, 0, none⟩) := by simpa using s11
      have s12 : a.tmps.getD 12 undef = .int .u64 (k : Int) := hdep 12 (by kernel_rfl)
      have t12 : a.tmps[12]?.getD undef = .int .u64 (k : Int) := by simpa using s12
      rw [if_pos (Flow.wanted_none rfl)]
      clear hfr hdep hdn
      have hlz : l 15 = false := hup 15 (by decide) (by kernel_rfl)
      have hin := hinv.pre hlz
      go_simp
      refine (HP.out W hin).mono ?_
      rintro e W' ⟨rfl, g1⟩
      exact hK _ _ True.intro (hinv.grow hlz g1 6 (by decide)) (fun d hd => by cases hd; trivial)
    refine Flow.StepsS.cons (fun l a W hfr hun hup hdn hinv hdep K hK => ?_) ?_
    · have s1 : a.tmps.getD 1 undef = .int .u64 (k : Int) := hfr.at 1 (by kernel_rfl)
      have t1 : a.tmps[1]?.getD undef = .int .u64 (k : Int) := by simpa using s1
      rw [if_pos (Flow.wanted_none rfl)]
      clear hfr hdep hdn
      go_simp
      exact hK _ _ True.intro (hinv.other 7 (by decide)) (fun d hd => by cases hd; trivial)
    refine Flow.StepsS.cons (fun l a W hfr hun hup hdn hinv hdep K hK => ?_) ?_
    · have s0 : a.tmps.getD 0 undef = .pointer (some ⟨b, 0, none⟩) := hfr.at 0 (by kernel_rfl)
      have t0 : a.tmps[0]?.getD undef = .pointer (some ⟨b, 0, none⟩) := by simpa using s0
      rw [if_pos (Flow.wanted_none rfl)]
      clear hfr hdep hdn
      go_simp
      exact hK _ _ True.intro (hinv.other 8 (by decide)) (fun d hd => by cases hd; trivial)
    refine Flow.StepsS.cons (fun l a W hfr hun hup hdn hinv hdep K hK => ?_) ?_
    · have s15 : a.tmps.getD 15 undef = .pointer (some ⟨b, 0, none⟩) := hdep 15 (by kernel_rfl)
      have t15 : a.tmps[15]?.getD undef = .pointer (some ⟨b, 0, none⟩) := by simpa using s15
      rw [if_pos (Flow.wanted_none rfl)]
      clear hfr hdep hdn
      go_simp
      exact hK _ _ True.intro (hinv.other 9 (by decide)) (fun d hd => by cases hd; trivial)
    refine Flow.StepsS.cons (fun l a W hfr hun hup hdn hinv hdep K hK => ?_) ?_
    · have s16 : a.tmps.getD 16 undef = .pointer (some ⟨b, 0, none⟩) := hdep 16 (by kernel_rfl)
      have t16 : a.tmps[16]?.getD undef = .pointer (some ⟨b, 0, none⟩) := by simpa using s16
      rw [if_pos (Flow.wanted_none rfl)]
      clear hfr hdep hdn
      go_simp
      exact hK _ _ True.intro (hinv.other 10 (by decide)) (fun d hd => by cases hd; trivial)
    refine Flow.StepsS.cons (fun l a W hfr hun hup hdn hinv hdep K hK => ?_) ?_
    · have s17 : a.tmps.getD 17 undef = .pointer (some ⟨b, 4, none⟩) := hdep 17 (by kernel_rfl)
      have t17 : a.tmps[17]?.getD undef = .pointer (some ⟨b, 4, none⟩) := by simpa using s17
      rw [if_pos (Flow.wanted_none rfl)]
      clear hfr hdep hdn
      have hlz : l 15 = false := hup 15 (by decide) (by kernel_rfl)
      have hin := hinv.pre hlz
      obtain ⟨c0, c1, c2, c3, c4, c5, c6, c7, c8, c9⟩ := (HB.out.gr hin).c10
      go_simp
      exact hK _ _ True.intro (hinv.other 11 (by decide)) (fun d hd => by cases hd; trivial)
    refine Flow.StepsS.cons (fun l a W hfr hun hup hdn hinv hdep K hK => ?_) ?_
    · have s2 : a.tmps.getD 2 undef = .slice q1 m1 c1 := hfr.at 2 (by kernel_rfl)
      have t2 : a.tmps[2]?.getD undef = .slice q1 m1 c1 := by simpa using s2
      rw [if_pos (Flow.wanted_none rfl)]
      clear hfr hdep hdn
      go_simp
      exact hK _ _ True.intro (hinv.other 12 (by decide)) (fun d hd => by cases hd; trivial)
    refine Flow.StepsS.cons (fun l a W hfr hun hup hdn hinv hdep K hK => ?_) ?_
    · have s14 : a.tmps.getD 14 undef = .int .u64 (k : Int) := hdep 14 (by kernel_rfl)
      have t14 : a.tmps[14]?.getD undef = .int .u64 (k : Int) := by simpa using s14
      have s18 : a.tmps.getD 18 undef = .int .u64 (ep : Int) := hdep 18 (by kernel_rfl)
      have t18 : a.tmps[18]?.getD undef = .int .u64 (ep : Int) := by simpa using s18
      have s19 : a.tmps.getD 19 undef = .slice q1 m1 c1 := hdep 19 (by kernel_rfl)
      have t19 : a.tmps[19]?.getD undef = .slice q1 m1 c1 := by simpa using s19
      rw [if_pos (Flow.wanted_none rfl)]
      clear hfr hdep hdn
      go_simp
      exact hK _ _ True.intro (hinv.other 13 (by decide)) (fun d hd => by cases hd; trivial)
    refine Flow.StepsS.cons (fun l a W hfr hun hup hdn hinv hdep K hK => ?_) ?_
    · have s20 : a.tmps.getD 20 undef = .agg #[.int .u64 (k : Int), .int .u64 (ep : Int), .slice q1 m1 c1] := hdep 20 (by kernel_rfl)
      have t20 : a.tmps[20]?.getD undef = .agg #[.int .u64 (k : Int), .int .u64 (ep : Int), .slice q1 m1 c1] := by simpa using s20
      rw [if_pos (Flow.wanted_none rfl)]
      clear hfr hdep hdn
      have hlz : l 15 = false := hup 15 (by decide) (by kernel_rfl)
      have hin := hinv.pre hlz
      go_simp
      refine (HS.out W hin).mono ?_
      rintro e W' ⟨rfl, g1⟩
      exact hK _ _ True.intro (hinv.grow hlz g1 14 (by decide)) (fun d hd => by cases hd; trivial)
    refine Flow.StepsS.cons (fun l a W hfr hun hup hdn hinv hdep K hK => ?_) ?_
    · have s10 : a.tmps.getD 10 undef = p := hdep 10 (by kernel_rfl)
      have t10 : a.tmps[10]?.getD undef = p := by simpa using s10
      have s13 : a.tmps.getD 13 undef = .int .i64 (I : Int) := hdep 13 (by kernel_rfl)
      have t13 : a.tmps[13]?.getD undef = .int .i64 (I : Int) := by simpa using s13
      have s21 : a.tmps.getD 21 undef = .agg (sec S) := hdep 21 (by kernel_rfl)
      have t21 : a.tmps[21]?.getD undef = .agg (sec S) := by simpa using s21
      rw [if_pos (Flow.wanted_none rfl)]
      clear hfr hdep hdn
      have hin := hinv.pre hun
      go_simp
      refine (HWr.out W hin).mono ?_
      rintro e W' ⟨rfl, h1⟩
      exact hK _ _ True.intro (InC.fin h1) (fun d hd => by cases hd; trivial)
    refine Flow.StepsS.cons (fun l a W hfr hun hup hdn hinv hdep K hK => ?_) ?_
    · have s22 : a.tmps.getD 22 undef = .int .i64 E := hdep 22 (by kernel_rfl)
      have t22 : a.tmps[22]?.getD undef = .int .i64 E := by simpa using s22
      rw [if_pos (Flow.wanted_none rfl)]
      clear hfr hdep hdn
      go_simp
      exact hK _ _ True.intro (hinv.other 16 (by decide)) (fun d hd => by cases hd; trivial)
    exact True.intro
  case fin =>
    intro a W l hfr hall hinv hsl
    have s6 : a.tmps.getD 6 undef = .int .i64 E := hsl 16 _ 6 rfl rfl (by simp)
    have t6 : a.tmps[6]?.getD undef = .int .i64 E := by simpa using s6
    have hfin := hinv.post (hall 15 (by decide))
    have e := Flow.frame hfr [7, 8, 9, 10, 11, 12, 13, 14, 15, 16, 17, 18, 19, 20, 21, 22, 6] (List.range 23) (by kernel_rfl) (by kernel_rfl)
    simp [List.range, List.range.loop] at e
    rw [t6] at e
    rw [e]
    have HFin := Lib.hid hfin
    clear e hfr hsl hall hinv hfin s6 t6 
    first
      | (rename_i hB; refine hB _ _ ?_)
      | (rename_i hB y0; refine hB _ _ ?_)
      | (rename_i hB y0 y1; refine hB _ _ ?_)
      | (rename_i hB y0 y1 y2; refine hB _ _ ?_)
      | (rename_i hB y0 y1 y2 y3; refine hB _ _ ?_)
      | (rename_i hB y0 y1 y2 y3 y4; refine hB _ _ ?_)
      | (rename_i hB y0 y1 y2 y3 y4 y5; refine hB _ _ ?_)
      | (rename_i hB y0 y1 y2 y3 y4 y5 y6; refine hB _ _ ?_)
      | (rename_i hB y0 y1 y2 y3 y4 y5 y6 y7; refine hB _ _ ?_)
      | (rename_i hB y0 y1 y2 y3 y4 y5 y6 y7 y8; refine hB _ _ ?_)
      | skip
    go_wp2_with fail
    go_ret
    exact ⟨rfl, HFin.out⟩

/-- What a write of the log's leaves of the disk. -/
def DkFin (F : Nat → Prop) (p : Value) (s : St) (w : World) (W : World) : Prop := ∃ F', Dk W F' p s ∧ Upd F F' w W
theorem place_lt {n l g : Int} (hm : mayL n l g = true) (k N : Nat) (hn : 3 + l ≤ N) : 3 + k % l.toNat < N := by
  have hin := may_in hm
  have : k % l.toNat < l.toNat := Nat.mod_lt _ (by omega)
  omega
theorem wwrite_any {F : Nat → Prop} {s : St} (D b : Nat) (p : Value) (n : Int) (l : Int) (g : Int) (ep : Nat) (tl : Nat) (la : Nat) (q : Option Addr) (m : Nat) (c : Nat) (rs : Int) (bg : Bool) (k : Nat) (q1 : Option Addr) (m1 c1 : Nat) (ys : List Int) (w : World) (h : Blk w b TLg #[p, .int .i64 n, .int .i64 l, .int .i64 g, .int .u64 ep, .int .u64 tl, .int .u64 la, .slice q m c, .int .i64 rs, .bool bg]) (hp : p = .pointer (some ⟨D, 0, none⟩)) (hd : Dk w F p s) (hm : mayL n l g = true) (hk : k ≤ 18446744073709551615) (he : ep ≤ 18446744073709551615)
    (hy : Byt w q1 m1 c1 ys) (h1 : m1 ≤ 232) (hn : 3 + l ≤ s.ls.length) (hw : s.writes ≤ 1000000000) :
    Calls Tryz.prog 104 #[.pointer (some ⟨b, 0, none⟩), .int .u64 (k : Int), .slice q1 m1 c1] w fun e w' => e = .returned (.int .i64 (putDE s)) ∧ DkFin F p (putD s (3 + k % l.toNat) (Sx (secL k ep ys))) w w' :=
  wwrite_core D b p n l g ep tl la q m c rs bg k q1 m1 c1 ys _ _ _ _ w h hp hm hk he hy h1 rfl rfl (Lib.hid fun W gr => by
    refine (WriteX_any W (hd.gr gr) _ (place_lt hm k _ hn) _ hw).mono ?_
    rintro e w' ⟨F', rfl, hd', hu⟩
    exact ⟨rfl, F', hd', hu.pre gr⟩)

/-- The disk, told with its map; its blocks are no more than it has. -/
def Tight (w : World) (F : Nat → Prop) (mm : Nat) : Prop := ∀ k, F k → k = mm ∨ ∃ cs t fr, w.heap[k]? = some (.cells cs t fr)
def DkM (w : World) (F : Nat → Prop) (p : Value) (mm : Nat) (s : St) : Prop := (∃ b lv L, p = .pointer (some ⟨b, 0, none⟩) ∧ DkAt w F b lv mm L s) ∧ Tight w F mm
theorem DkM.dk {w : World} {F : Nat → Prop} {p : Value} {mm : Nat} {s : St} (h : DkM w F p mm s) : Dk w F p s := by
  obtain ⟨⟨b, lv, L, e, h⟩, _⟩ := h
  exact ⟨b, lv, mm, L, e, h⟩
theorem DkM.gr {w w' : World} {F : Nat → Prop} {p : Value} {mm : Nat} {s : St} (h : DkM w F p mm s) (g : Gr w w') : DkM w' F p mm s := by
  obtain ⟨⟨b, lv, L, e, h⟩, ht⟩ := h
  exact ⟨⟨b, lv, L, e, h.gr g⟩, fun k hk => (ht k hk).imp id fun ⟨cs, t, fr, hc⟩ => ⟨cs, t, fr, (g.block k (h.low k hk)).trans hc⟩⟩
theorem DkM.stays {w w' : World} {F : Nat → Prop} {p : Value} {mm : Nat} {s : St} (h : DkM w F p mm s) (e : ∀ k, F k → w'.heap[k]? = w.heap[k]?) (hs : w.heap.size ≤ w'.heap.size) : DkM w' F p mm s := by
  obtain ⟨⟨b, lv, L, e1, h⟩, ht⟩ := h
  exact ⟨⟨b, lv, L, e1, h.stays e hs⟩, fun k hk => (ht k hk).imp id fun ⟨cs, t, fr, hc⟩ => ⟨cs, t, fr, (e k hk).trans hc⟩⟩
theorem DkAt.tight {w : World} {F : Nat → Prop} {b : Nat} {lv : Value} {mm : Nat} {L : Nat → Value} {s : St} (h : DkAt w F b lv mm L s) : ∃ F1, (∀ k, F1 k → F k) ∧ DkM w F1 (.pointer (some ⟨b, 0, none⟩)) mm s := by
  refine ⟨fun k => k = b ∨ k = mm ∨ lv.ownBlock = some k ∨ ∃ i, (L i).ownBlock = some k, ?_, ⟨b, lv, L, rfl, ⟨h.ok, h.blk, h.ls, h.map, h.rows, h.apart, h.apart0, .inl rfl, .inr (.inl rfl), fun g hg => .inr (.inr (.inl hg)), fun i g hg => .inr (.inr (.inr ⟨i, hg⟩)), ?_⟩⟩, ?_⟩
  · rintro k (rfl | rfl | hk | ⟨i, hk⟩)
    · exact h.ownB
    · exact h.ownM
    · exact h.ownL k hk
    · exact h.ownR i k hk
  · rintro k (rfl | rfl | hk | ⟨i, hk⟩)
    · exact h.blk.lt
    · exact h.map.lt
    · exact h.ls.lt k hk
    · exact (h.rows i).lt k hk
  · rintro k (rfl | rfl | hk | ⟨i, hk⟩)
    · exact .inr ⟨_, _, _, h.blk⟩
    · exact .inl rfl
    · obtain ⟨cs, hc⟩ := h.ls.kind hk
      exact .inr ⟨_, _, _, hc⟩
    · obtain ⟨cs, hc⟩ := (h.rows i).kind hk
      exact .inr ⟨_, _, _, hc⟩
theorem Dk.tight {w : World} {F : Nat → Prop} {p : Value} {s : St} (h : Dk w F p s) : ∃ F1 mm, (∀ k, F1 k → F k) ∧ DkM w F1 p mm s := by
  obtain ⟨b, lv, mm, L, rfl, h⟩ := h
  obtain ⟨F1, h1, h2⟩ := h.tight
  exact ⟨F1, mm, h1, h2⟩
theorem Upd.less {F F' F1 : Nat → Prop} {w w' : World} (h : Upd F F' w w') (hs : ∀ k, F1 k → F' k) : Upd F F1 w w' := ⟨h.os, h.tape, h.output, h.size, h.block, fun k hk => h.fresh k (hs k hk)⟩
theorem WriteM_any {F : Nat → Prop} {p : Value} {mm : Nat} {s : St} (w : World) (h : DkM w F p mm s) (i : Nat) (hi : i < s.ls.length) (x : Sec) (hw : s.writes ≤ 1000000000) : Calls Tryz.prog 77 #[p, .int .i64 (i : Int), .agg (sec x)] w fun e w' => e = .returned (.int .i64 (putDE s)) ∧ ∃ F', DkM w' F' p mm (putD s i x) ∧ Upd F F' w w' := by
  obtain ⟨⟨b, lv, L, rfl, h⟩, ht⟩ := h
  unfold putD putDE
  by_cases hr : s.refuses
  · rw [if_pos hr, if_pos hr]
    refine (Write_deadM w h i hi x hr).mono ?_
    rintro e w' ⟨rfl, hd, hu⟩
    obtain ⟨F1, h1, h2⟩ := hd.tight
    exact ⟨rfl, F1, h2, hu.less h1⟩
  · rw [if_neg hr, if_neg hr]
    refine (Write_yesM w h i hi x hr hw).mono ?_
    rintro e w' ⟨F', L', rfl, hd, hu⟩
    obtain ⟨F1, h1, h2⟩ := hd.tight
    exact ⟨rfl, F1, h2, hu.less h1⟩
theorem wwrite_m {F : Nat → Prop} {s : St} (D b : Nat) (p : Value) (n : Int) (l : Int) (g : Int) (ep : Nat) (tl : Nat) (la : Nat) (q : Option Addr) (m : Nat) (c : Nat) (rs : Int) (bg : Bool) (mm : Nat) (k : Nat) (q1 : Option Addr) (m1 c1 : Nat) (ys : List Int) (w : World) (h : Blk w b TLg #[p, .int .i64 n, .int .i64 l, .int .i64 g, .int .u64 ep, .int .u64 tl, .int .u64 la, .slice q m c, .int .i64 rs, .bool bg]) (hp : p = .pointer (some ⟨D, 0, none⟩)) (hd : DkM w F p mm s) (hm : mayL n l g = true) (hk : k ≤ 18446744073709551615) (he : ep ≤ 18446744073709551615)
    (hy : Byt w q1 m1 c1 ys) (h1 : m1 ≤ 232) (hn : 3 + l ≤ s.ls.length) (hw : s.writes ≤ 1000000000) :
    Calls Tryz.prog 104 #[.pointer (some ⟨b, 0, none⟩), .int .u64 (k : Int), .slice q1 m1 c1] w fun e w' => e = .returned (.int .i64 (putDE s)) ∧ ∃ F', DkM w' F' p mm (putD s (3 + k % l.toNat) (Sx (secL k ep ys))) ∧ Upd F F' w w' :=
  wwrite_core D b p n l g ep tl la q m c rs bg k q1 m1 c1 ys _ _ _ _ w h hp hm hk he hy h1 rfl rfl (Lib.hid fun W gr => by
    refine (WriteM_any W (hd.gr gr) _ (place_lt hm k _ hn) _ hw).mono ?_
    rintro e w' ⟨rfl, F', hd', hu⟩
    exact ⟨rfl, F', hd', hu.pre gr⟩)

end Go.Proofs.YtaemmknijmhnoaaGreat

