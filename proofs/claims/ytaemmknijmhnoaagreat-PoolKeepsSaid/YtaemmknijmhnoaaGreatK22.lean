/-
  Texts, put together: Wal9 RecOf.
-/
import Derived.Test.YtaemmknijmhnoaaGreatK19
import Derived.Test.YtaemmknijmhnoaaGreatK21
set_option linter.unusedVariables false
set_option linter.unusedSimpArgs false
/-
  The log and its disk; an opening's sectors are parted from those of elder ones.
-/
namespace Go.Proofs.YtaemmknijmhnoaaGreat
open Go.RowKit Go.Maps

/-- The log, and its disk. -/
structure Wl (w : World) (F : Nat → Prop) (b : Nat) (p : Value) (q : Option Addr) (m c : Nat) (s : St) (L : Lg) : Prop where
  dk : Dk w F p s
  lg : LgAt w b p q m c L
  apart : ∀ k, F k → ¬ lgS b q k
/-- Both's blocks. -/
def wlS (F : Nat → Prop) (b : Nat) (q : Option Addr) (k : Nat) : Prop := F k ∨ lgS b q k
theorem Wl.gr {w w' : World} {F : Nat → Prop} {b : Nat} {p : Value} {q : Option Addr} {m c : Nat} {s : St} {L : Lg} (h : Wl w F b p q m c s L) (g : Gr w w') : Wl w' F b p q m c s L := ⟨h.dk.gr g, h.lg.gr g, h.apart⟩
theorem LgAt.stays {w w' : World} {b : Nat} {p : Value} {q : Option Addr} {m c : Nat} {L : Lg} (h : LgAt w b p q m c L) (e : ∀ k, lgS b q k → w'.heap[k]? = w.heap[k]?) (hs : w.heap.size ≤ w'.heap.size) : LgAt w' b p q m c L :=
  ⟨h.blk.stays (e b (.inl rfl)), h.txt.stays (fun y hy => e _ (.inr ⟨y, hy, rfl⟩)), h.apart, fun k hk => Nat.lt_of_lt_of_le (h.low k hk) hs, h.dsk⟩
/-- The disk has turned. -/
theorem Wl.disk {w w' : World} {F : Nat → Prop} {b : Nat} {p : Value} {q : Option Addr} {m c : Nat} {s s' : St} {L : Lg} (h : Wl w F b p q m c s L) (hf : DkFin F p s' w w') : ∃ F', Wl w' F' b p q m c s' L ∧ Upd (wlS F b q) (wlS F' b q) w w' := by
  obtain ⟨F', hd, hu⟩ := hf
  obtain ⟨h1, h2⟩ := hu.other h.lg.low h.apart
  exact ⟨F', ⟨hd, h.lg.stays h1 hu.size, h2⟩, ⟨hu.os, hu.tape, hu.output, hu.size, fun k hk hn => hu.block k hk (fun e => hn (.inl e)), fun k hk => hk.elim (fun e => (hu.fresh k e).imp .inl id) (fun e => .inl (.inr e))⟩⟩
theorem Upd.comp {F F' F'' : Nat → Prop} {w w1 w2 : World} (h : Upd F F' w w1) (k : Upd F' F'' w1 w2) : Upd F F'' w w2 := h.trans k
/-- A cell of the log's is set (none of those that say where its text lies). -/
theorem Upd.cell {S : Nat → Prop} {b i : Nat} (hb : S b) (w : World) (u : Value) : Upd S S w (w.setCell ⟨b, i, none⟩ u) := by
  have h := Only.cell b i w u
  exact ⟨h.os, h.tape, h.output, Nat.le_of_eq h.size.symm, fun k _ hn => h.block k (fun e => hn (e ▸ hb)), fun k hk => .inl hk⟩
theorem Wl.begun {w : World} {F : Nat → Prop} {b : Nat} {p : Value} {q : Option Addr} {m c : Nat} {s : St} {L : Lg} (h : Wl w F b p q m c s L) : Wl (w.setCell ⟨b, 9, none⟩ (.bool true)) F b p q m c s { L with begun := true } := by
  have ho := Only.cell b 9 w (.bool true)
  refine ⟨h.dk.stays (fun k hk => ho.block k (fun e => h.apart k hk (.inl e))) (Nat.le_of_eq ho.size.symm), ⟨h.lg.blk.set 9 _, h.lg.txt.stays (fun y hy => ho.block _ (h.lg.apart y hy)), h.lg.apart, fun k hk => by rw [ho.size]; exact h.lg.low k hk, h.lg.dsk⟩, h.apart⟩
def RetWl (v : Value) (s' : St) (L' : Lg) (F : Nat → Prop) (b : Nat) (p : Value) (q : Option Addr) (w : World) (e : Ending) (w' : World) : Prop :=
  ∃ F' q' m' c', e = .returned v ∧ Wl w' F' b p q' m' c' s' L' ∧ Upd (wlS F b q) (wlS F' b q') w w'

/-- The first sector that an opening writes. -/
def begX (L : Lg) : Sec := Sx (secL (L.lasts / 232) L.epoch (L.txt.take (L.lasts % 232)))
def begI (L : Lg) : Nat := 3 + L.lasts / 232 % L.l.toNat
def begS (s : St) (L : Lg) : St := if L.begun then s else if s.refuses then putD s (begI L) (begX L) else BaS (putD s (begI L) (begX L))
def begL (s : St) (L : Lg) : Lg := if L.begun then L else if s.refuses then L else { L with begun := true }
def begE (s : St) (L : Lg) : Int := if L.begun then 0 else putDE s
theorem putD_alive {s : St} {i : Nat} {x : Sec} (h : ¬ s.refuses) : (putD s i x).dead = false ∧ (putD s i x).writes = s.writes + 1 ∧ (putD s i x).ls = s.ls := by
  unfold putD
  rw [if_neg h]
  refine ⟨?_, rfl, rfl⟩
  show s.dead = false
  cases hd : s.dead with
  | false => rfl
  | true => exact absurd (.inr hd) h
theorem BaE_alive {s : St} (h : s.dead = false) : BaE s = 0 := by unfold BaE; rw [h]; rfl
def SlBe (b : Nat) (La : Nat) (J : Nat) (A : Nat) (q : Option Addr) (m : Nat) (c : Nat) (q2 : Option Addr) (E : Int) (slot : Nat) (v : Value) (_ : World) : Prop :=
  match slot with
  | 3 => v = .int .i64 E
  | 8 => v = .pointer (some ⟨b, 0, none⟩)
  | 9 => v = .pointer (some ⟨b, 0, none⟩)
  | 10 => v = .pointer (some ⟨b, 0, none⟩)
  | 11 => v = .pointer (some ⟨b, 6, none⟩)
  | 12 => v = .int .u64 (La : Int)
  | 13 => v = .int .u64 (J : Int)
  | 14 => v = .pointer (some ⟨b, 0, none⟩)
  | 15 => v = .pointer (some ⟨b, 0, none⟩)
  | 16 => v = .pointer (some ⟨b, 7, none⟩)
  | 17 => v = .slice q m c
  | 18 => v = .pointer (some ⟨b, 0, none⟩)
  | 19 => v = .pointer (some ⟨b, 0, none⟩)
  | 20 => v = .pointer (some ⟨b, 6, none⟩)
  | 21 => v = .int .u64 (La : Int)
  | 22 => v = .int .i64 (A : Int)
  | 23 => v = .slice q2 A c
  | 24 => v = .int .i64 E
  | _ => True

set_option maxRecDepth 100000 in
set_option maxHeartbeats 1000000 in
theorem wbegin_any {F : Nat → Prop} {b : Nat} {p : Value} {q : Option Addr} {m c : Nat} {s : St} {L : Lg} (w : World) (h : Wl w F b p q m c s L) (ok : L.Ok) (hn : 3 + L.l ≤ s.ls.length) (hw : s.writes ≤ 900000000) :
    Calls Tryz.prog 87 #[.pointer (some ⟨b, 0, none⟩)] w (RetWl (.int .i64 (begE s L)) (begS s L) (begL s L) F b p q w) := by
  obtain ⟨c0, c1, c2, c3, c4, c5, c6, c7, c8, c9⟩ := h.lg.blk.c10
  have HL := Lib.hid h
  cases hb : L.begun
  · rw [hb] at c9
    obtain ⟨D, hD⟩ := h.lg.dsk
    obtain ⟨A, hA⟩ : ∃ A, A = L.lasts % 232 := ⟨_, rfl⟩
    obtain ⟨J, hJ⟩ : ∃ J, J = L.lasts / 232 := ⟨_, rfl⟩
    have hml := h.lg.mlen
    have hAm : A ≤ m := by have := ok.has; omega
    have hcap := h.lg.txt.1.cap
    obtain ⟨q2, hcut, hc2⟩ := cut_h (p := q) (n := m) (c := c) A hAm hcap
    have HCut := Lib.hid hcut
    have hlb : L.lasts ≤ 18446744073709551615 := by have := ok.near; have := ok.most; omega
    have HA : Hid (∀ W, Calls Tryz.prog 66 #[.int .u64 (L.lasts : Int)] W fun e w' => e = .returned (.int .i64 (A : Int)) ∧ W = w') := Lib.hid fun W => by rw [hA]; exact ahead_any _ W hlb
    have HJs : Hid (∀ W, Calls Tryz.prog 98 #[.int .u64 (L.lasts : Int)] W fun e w' => e = .returned (.int .u64 (J : Int)) ∧ W = w') := Lib.hid fun W => by rw [hJ]; exact sectorOf_any _ W hlb
    obtain ⟨E, hE⟩ : ∃ E, E = putDE s := ⟨_, rfl⟩
    obtain ⟨s1, hs1⟩ : ∃ s1, s1 = putD s (begI L) (begX L) := ⟨_, rfl⟩
    obtain ⟨Fin, hFin⟩ : ∃ Fin : World → Prop, Fin = fun W => ∃ F', Wl W F' b p q m c s1 L ∧ Upd (wlS F b q) (wlS F' b q) w W := ⟨_, rfl⟩
    have HWr : Hid (∀ W, Gr w W → Calls Tryz.prog 104 #[.pointer (some ⟨b, 0, none⟩), .int .u64 (J : Int), .slice q2 A c] W fun e w' => e = .returned (.int .i64 E) ∧ Fin w') := Lib.hid fun W gr => by
      have hW := h.gr gr
      have hy := hc2.byt W _ hW.lg.txt.1
      rw [Nat.sub_zero, List.drop_zero] at hy
      refine (wwrite_any D b _ _ _ _ _ _ _ _ _ _ _ _ J q2 A c (L.txt.take A) W hW.lg.blk hD hW.dk ok.may (by omega) (by have := ok.e1; omega) hy (by omega) hn (by omega)).mono ?_
      rintro e w' ⟨rfl, hf⟩
      rw [hFin, hE]
      refine ⟨rfl, ?_⟩
      have hs : putD s (3 + J % L.l.toNat) (Sx (secL J L.epoch (L.txt.take A))) = s1 := by rw [hs1, hA, hJ]; rfl
      rw [hs] at hf
      obtain ⟨F', h1, h2⟩ := hW.disk hf
      exact ⟨F', h1, (Upd.of_gr gr).comp h2⟩
    have HB := Lib.hid h.lg.blk
    have HZ : Hid (begE s L = E ∧ begS s L = (if s.refuses then s1 else BaS s1) ∧ begL s L = (if s.refuses then L else { L with begun := true }) ∧ (s.refuses → E = 8) ∧ (¬ s.refuses → E = 0 ∧ s1.dead = false ∧ s1.writes ≤ 1000000000)) := Lib.hid (by
      refine ⟨by simp [begE, hb, hE], by unfold begS; simp [hb, hs1], by unfold begL; simp [hb], fun hr => by rw [hE]; unfold putDE; rw [if_pos hr], fun hr => ⟨by rw [hE]; unfold putDE; rw [if_neg hr], ?_⟩⟩
      have := putD_alive (i := begI L) (x := begX L) hr
      rw [← hs1] at this
      exact ⟨this.1, by omega⟩)
    have HFn := Lib.hid hFin
    rw [HZ.out.1]
    clear c0 c1 c2 c3 c4 c5 c6 c7 c8 h hA hJ hml hAm hcap hcut hc2 hlb hE hs1 hFin hD hn hw ok HL
    go_enter Tryz.func87, Tryz.ntmps87
    go_wp2_with fail
    refine Flow.regionS [3] 20 (SlBe b L.lasts J A q m c q2 E) (InC 16 w (Fin)) (fun _ _ _ => True) (by kernel_rfl) (by kernel_rfl) (fun _ _ _ _ _ _ h _ => h) (InC.start (by rfl) (Gr.refl _).drew) ?steps ?fin
    case steps =>
      refine Flow.StepsS.cons (fun l a W hfr hun hup hdn hinv hdep K hK => ?_) ?_
      · have s0 : a.tmps.getD 0 undef = .pointer (some ⟨b, 0, none⟩) := hfr.at 0 (by kernel_rfl)
        have t0 : a.tmps[0]?.getD undef = .pointer (some ⟨b, 0, none⟩) := by simpa using s0
        rw [if_pos (Flow.wanted_none rfl)]
        clear hfr hdep hdn
        go_simp
        exact hK _ _ True.intro (hinv.other 0 (by decide)) (fun d hd => by cases hd; trivial)
      refine Flow.StepsS.cons (fun l a W hfr hun hup hdn hinv hdep K hK => ?_) ?_
      · have s0 : a.tmps.getD 0 undef = .pointer (some ⟨b, 0, none⟩) := hfr.at 0 (by kernel_rfl)
        have t0 : a.tmps[0]?.getD undef = .pointer (some ⟨b, 0, none⟩) := by simpa using s0
        rw [if_pos (Flow.wanted_none rfl)]
        clear hfr hdep hdn
        go_simp
        exact hK _ _ True.intro (hinv.other 1 (by decide)) (fun d hd => by cases hd; trivial)
      refine Flow.StepsS.cons (fun l a W hfr hun hup hdn hinv hdep K hK => ?_) ?_
      · have s9 : a.tmps.getD 9 undef = .pointer (some ⟨b, 0, none⟩) := hdep 9 (by kernel_rfl)
        have t9 : a.tmps[9]?.getD undef = .pointer (some ⟨b, 0, none⟩) := by simpa using s9
        rw [if_pos (Flow.wanted_none rfl)]
        clear hfr hdep hdn
        go_simp
        exact hK _ _ True.intro (hinv.other 2 (by decide)) (fun d hd => by cases hd; trivial)
      refine Flow.StepsS.cons (fun l a W hfr hun hup hdn hinv hdep K hK => ?_) ?_
      · have s10 : a.tmps.getD 10 undef = .pointer (some ⟨b, 0, none⟩) := hdep 10 (by kernel_rfl)
        have t10 : a.tmps[10]?.getD undef = .pointer (some ⟨b, 0, none⟩) := by simpa using s10
        rw [if_pos (Flow.wanted_none rfl)]
        clear hfr hdep hdn
        go_simp
        exact hK _ _ True.intro (hinv.other 3 (by decide)) (fun d hd => by cases hd; trivial)
      refine Flow.StepsS.cons (fun l a W hfr hun hup hdn hinv hdep K hK => ?_) ?_
      · have s11 : a.tmps.getD 11 undef = .pointer (some ⟨b, 6, none⟩) := hdep 11 (by kernel_rfl)
        have t11 : a.tmps[11]?.getD undef = .pointer (some ⟨b, 6, none⟩) := by simpa using s11
        rw [if_pos (Flow.wanted_none rfl)]
        clear hfr hdep hdn
        have hlz : l 16 = false := hup 16 (by decide) (by kernel_rfl)
        have hin := hinv.pre hlz
        obtain ⟨c0, c1, c2, c3, c4, c5, c6, c7, c8, c9⟩ := (HB.out.gr hin).c10
        go_simp
        exact hK _ _ True.intro (hinv.other 4 (by decide)) (fun d hd => by cases hd; trivial)
      refine Flow.StepsS.cons (fun l a W hfr hun hup hdn hinv hdep K hK => ?_) ?_
      · have s12 : a.tmps.getD 12 undef = .int .u64 (L.lasts : Int) := hdep 12 (by kernel_rfl)
        have t12 : a.tmps[12]?.getD undef = .int .u64 (L.lasts : Int) := by simpa using s12
        rw [if_pos (Flow.wanted_none rfl)]
        clear hfr hdep hdn
        have hlz : l 16 = false := hup 16 (by decide) (by kernel_rfl)
        have hin := hinv.pre hlz
        go_simp
        refine (HJs.out W).mono ?_
        rintro e W' ⟨rfl, rfl⟩
        exact hK _ _ True.intro (hinv.other 5 (by decide)) (fun d hd => by cases hd; trivial)
      refine Flow.StepsS.cons (fun l a W hfr hun hup hdn hinv hdep K hK => ?_) ?_
      · have s0 : a.tmps.getD 0 undef = .pointer (some ⟨b, 0, none⟩) := hfr.at 0 (by kernel_rfl)
        have t0 : a.tmps[0]?.getD undef = .pointer (some ⟨b, 0, none⟩) := by simpa using s0
        rw [if_pos (Flow.wanted_none rfl)]
        clear hfr hdep hdn
        go_simp
        exact hK _ _ True.intro (hinv.other 6 (by decide)) (fun d hd => by cases hd; trivial)
      refine Flow.StepsS.cons (fun l a W hfr hun hup hdn hinv hdep K hK => ?_) ?_
      · have s14 : a.tmps.getD 14 undef = .pointer (some ⟨b, 0, none⟩) := hdep 14 (by kernel_rfl)
        have t14 : a.tmps[14]?.getD undef = .pointer (some ⟨b, 0, none⟩) := by simpa using s14
        rw [if_pos (Flow.wanted_none rfl)]
        clear hfr hdep hdn
        go_simp
        exact hK _ _ True.intro (hinv.other 7 (by decide)) (fun d hd => by cases hd; trivial)
      refine Flow.StepsS.cons (fun l a W hfr hun hup hdn hinv hdep K hK => ?_) ?_
      · have s15 : a.tmps.getD 15 undef = .pointer (some ⟨b, 0, none⟩) := hdep 15 (by kernel_rfl)
        have t15 : a.tmps[15]?.getD undef = .pointer (some ⟨b, 0, none⟩) := by simpa using s15
        rw [if_pos (Flow.wanted_none rfl)]
        clear hfr hdep hdn
        go_simp
        exact hK _ _ True.intro (hinv.other 8 (by decide)) (fun d hd => by cases hd; trivial)
      refine Flow.StepsS.cons (fun l a W hfr hun hup hdn hinv hdep K hK => ?_) ?_
      · have s16 : a.tmps.getD 16 undef = .pointer (some ⟨b, 7, none⟩) := hdep 16 (by kernel_rfl)
        have t16 : a.tmps[16]?.getD undef = .pointer (some ⟨b, 7, none⟩) := by simpa using s16
        rw [if_pos (Flow.wanted_none rfl)]
        clear hfr hdep hdn
        have hlz : l 16 = false := hup 16 (by decide) (by kernel_rfl)
        have hin := hinv.pre hlz
        obtain ⟨c0, c1, c2, c3, c4, c5, c6, c7, c8, c9⟩ := (HB.out.gr hin).c10
        go_simp
        exact hK _ _ True.intro (hinv.other 9 (by decide)) (fun d hd => by cases hd; trivial)
      refine Flow.StepsS.cons (fun l a W hfr hun hup hdn hinv hdep K hK => ?_) ?_
      · have s0 : a.tmps.getD 0 undef = .pointer (some ⟨b, 0, none⟩) := hfr.at 0 (by kernel_rfl)
        have t0 : a.tmps[0]?.getD undef = .pointer (some ⟨b, 0, none⟩) := by simpa using s0
        rw [if_pos (Flow.wanted_none rfl)]
        clear hfr hdep hdn
        go_simp
        exact hK _ _ True.intro (hinv.other 10 (by decide)) (fun d hd => by cases hd; trivial)
      refine Flow.StepsS.cons (fun l a W hfr hun hup hdn hinv hdep K hK => ?_) ?_
      · have s18 : a.tmps.getD 18 undef = .pointer (some ⟨b, 0, none⟩) := hdep 18 (by kernel_rfl)
        have t18 : a.tmps[18]?.getD undef = .pointer (some ⟨b, 0, none⟩) := by simpa using s18
        rw [if_pos (Flow.wanted_none rfl)]
        clear hfr hdep hdn
        go_simp
        exact hK _ _ True.intro (hinv.other 11 (by decide)) (fun d hd => by cases hd; trivial)
      refine Flow.StepsS.cons (fun l a W hfr hun hup hdn hinv hdep K hK => ?_) ?_
      · have s19 : a.tmps.getD 19 undef = .pointer (some ⟨b, 0, none⟩) := hdep 19 (by kernel_rfl)
        have t19 : a.tmps[19]?.getD undef = .pointer (some ⟨b, 0, none⟩) := by simpa using s19
        rw [if_pos (Flow.wanted_none rfl)]
        clear hfr hdep hdn
        go_simp
        exact hK _ _ True.intro (hinv.other 12 (by decide)) (fun d hd => by cases hd; trivial)
      refine Flow.StepsS.cons (fun l a W hfr hun hup hdn hinv hdep K hK => ?_) ?_
      · have s20 : a.tmps.getD 20 undef = .pointer (some ⟨b, 6, none⟩) := hdep 20 (by kernel_rfl)
        have t20 : a.tmps[20]?.getD undef = .pointer (some ⟨b, 6, none⟩) := by simpa using s20
        rw [if_pos (Flow.wanted_none rfl)]
        clear hfr hdep hdn
        have hlz : l 16 = false := hup 16 (by decide) (by kernel_rfl)
        have hin := hinv.pre hlz
        obtain ⟨c0, c1, c2, c3, c4, c5, c6, c7, c8, c9⟩ := (HB.out.gr hin).c10
        go_simp
        exact hK _ _ True.intro (hinv.other 13 (by decide)) (fun d hd => by cases hd; trivial)
      refine Flow.StepsS.cons (fun l a W hfr hun hup hdn hinv hdep K hK => ?_) ?_
      · have s21 : a.tmps.getD 21 undef = .int .u64 (L.lasts : Int) := hdep 21 (by kernel_rfl)
        have t21 : a.tmps[21]?.getD undef = .int .u64 (L.lasts : Int) := by simpa using s21
        rw [if_pos (Flow.wanted_none rfl)]
        clear hfr hdep hdn
        have hlz : l 16 = false := hup 16 (by decide) (by kernel_rfl)
        have hin := hinv.pre hlz
        go_simp
        refine (HA.out W).mono ?_
        rintro e W' ⟨rfl, rfl⟩
        exact hK _ _ True.intro (hinv.other 14 (by decide)) (fun d hd => by cases hd; trivial)
      refine Flow.StepsS.cons (fun l a W hfr hun hup hdn hinv hdep K hK => ?_) ?_
      · have s17 : a.tmps.getD 17 undef = .slice q m c := hdep 17 (by kernel_rfl)
        have t17 : a.tmps[17]?.getD undef = .slice q m c := by simpa using s17
        have s22 : a.tmps.getD 22 undef = .int .i64 (A : Int) := hdep 22 (by kernel_rfl)
        have t22 : a.tmps[22]?.getD undef = .int .i64 (A : Int) := by simpa using s22
        have hcut := HCut.out W
        rw [if_pos (Flow.wanted_none rfl)]
        clear hfr hdep hdn
        go_simp
        exact hK _ _ True.intro (hinv.other 15 (by decide)) (fun d hd => by cases hd; trivial)
      refine Flow.StepsS.cons (fun l a W hfr hun hup hdn hinv hdep K hK => ?_) ?_
      · have s8 : a.tmps.getD 8 undef = .pointer (some ⟨b, 0, none⟩) := hdep 8 (by kernel_rfl)
        have t8 : a.tmps[8]?.getD undef = .pointer (some ⟨b, 0, none⟩) := by simpa using s8
        have s13 : a.tmps.getD 13 undef = .int .u64 (J : Int) := hdep 13 (by kernel_rfl)
        have t13 : a.tmps[13]?.getD undef = .int .u64 (J : Int) := by simpa using s13
        have s23 : a.tmps.getD 23 undef = .slice q2 A c := hdep 23 (by kernel_rfl)
        have t23 : a.tmps[23]?.getD undef = .slice q2 A c := by simpa using s23
        rw [if_pos (Flow.wanted_none rfl)]
        clear hfr hdep hdn
        have hin := hinv.pre hun
        go_simp
        refine (HWr.out W hin).mono ?_
        rintro e W' ⟨rfl, h1⟩
        exact hK _ _ True.intro (InC.fin h1) (fun d hd => by cases hd; trivial)
      refine Flow.StepsS.cons (fun l a W hfr hun hup hdn hinv hdep K hK => ?_) ?_
      · have s24 : a.tmps.getD 24 undef = .int .i64 E := hdep 24 (by kernel_rfl)
        have t24 : a.tmps[24]?.getD undef = .int .i64 E := by simpa using s24
        rw [if_pos (Flow.wanted_none rfl)]
        clear hfr hdep hdn
        go_simp
        exact hK _ _ True.intro (hinv.other 17 (by decide)) (fun d hd => by cases hd; trivial)
      exact True.intro
    case fin =>
      intro a W l hfr hall hinv hsl
      have s3 : a.tmps.getD 3 undef = .int .i64 E := hsl 17 _ 3 rfl rfl (by simp)
      have t3 : a.tmps[3]?.getD undef = .int .i64 E := by simpa using s3
      have hfin := hinv.post (hall 16 (by decide))
      have e := Flow.frame hfr [8, 9, 10, 11, 12, 13, 14, 15, 16, 17, 18, 19, 20, 21, 22, 23, 24, 3] (List.range 36) (by kernel_rfl) (by kernel_rfl)
      simp [List.range, List.range.loop] at e
      rw [t3] at e
      rw [e]
      have HFin := Lib.hid hfin
      clear e hfr hsl hall hinv hfin s3 t3 
      first
        | (rename_i hB; refine hB _ _ ?_)
        | (rename_i hB y0; refine hB _ _ ?_)
        | (rename_i hB y0 y1; refine hB _ _ ?_)
        | (rename_i hB y0 y1 y2; refine hB _ _ ?_)
        | (rename_i hB y0 y1 y2 y3; refine hB _ _ ?_)
        | (rename_i hB y0 y1 y2 y3 y4; refine hB _ _ ?_)
        | (rename_i hB y0 y1 y2 y3 y4 y5; refine hB _ _ ?_)
        | (rename_i hB y0 y1 y2 y3 y4 y5 y6; refine hB _ _ ?_)
        | (rename_i hB y0 y1 y2 y3 y4 y5 y6 y7; refine hB _ _ ?_)
        | (rename_i hB y0 y1 y2 y3 y4 y5 y6 y7 y8; refine hB _ _ ?_)
        | skip
      have hF := HFin.out
      rw [HFn.out] at hF
      obtain ⟨F1, hw1, hu1⟩ := hF
      have HW1 := Lib.hid hw1
      have HU1 := Lib.hid hu1
      clear hw1 hu1 HFin HWr HA HJs HCut HB
      by_cases hr : s.refuses
      · have HZ2 : Hid (begS s L = s1 ∧ begL s L = L) := Lib.hid ⟨by rw [HZ.out.2.1, if_pos hr], by rw [HZ.out.2.2.1, if_pos hr]⟩
        obtain rfl : E = 8 := HZ.out.2.2.2.1 hr
        clear hr HZ
        go_wp2_with fail
        go_ret
        rw [HZ2.out.1, HZ2.out.2]
        exact ⟨F1, q, m, c, rfl, HW1.out, HU1.out⟩
      · have HZ2 : Hid (begS s L = BaS s1 ∧ begL s L = { L with begun := true }) := Lib.hid ⟨by rw [HZ.out.2.1, if_neg hr], by rw [HZ.out.2.2.1, if_neg hr]⟩
        have h3 := HZ.out.2.2.2.2 hr
        obtain rfl : E = 0 := h3.1
        have HS1 : Hid (s1.dead = false ∧ s1.writes ≤ 1000000000) := Lib.hid h3.2
        clear hr h3 HZ
        have c9 := HW1.out.lg.blk.c10.2.2.2.2.2.2.2.2.2
        have c0 := HW1.out.lg.blk.cell 0
        simp at c0
        have f9 := HW1.out.lg.blk.frozen 9
        have HW2 := Lib.hid HW1.out.begun
        have HBa : Hid (Calls Tryz.prog 49 #[p] (W.setCell ⟨b, 9, none⟩ (.bool true)) fun e w' => e = .returned (.int .i64 0) ∧ DkFin F1 p (BaS s1) (W.setCell ⟨b, 9, none⟩ (.bool true)) w') := Lib.hid (by
          have h := Barrier_all _ HW2.out.dk HS1.out.2
          rw [BaE_alive HS1.out.1] at h
          refine h.mono ?_
          rintro e w' ⟨F2, rfl, hd, hu⟩
          exact ⟨rfl, F2, hd, hu⟩)
        go_wp2_with fail
        refine HBa.out.mono ?_
        rintro e w2 ⟨rfl, hf2⟩
        obtain ⟨F2, hw2, hu2⟩ := HW2.out.disk hf2
        have HW3 := Lib.hid hw2
        have HU3 := Lib.hid (HU1.out.comp ((Upd.cell (S := wlS F1 b q) (.inr (.inl rfl)) W (.bool true)).comp hu2))
        clear hw2 hu2 hf2 c9 c0 f9 HW2 HBa HW1
        go_wp2_with fail
        go_ret
        rw [HZ2.out.1, HZ2.out.2]
        exact ⟨F2, q, m, c, rfl, HW3.out, HU3.out⟩
  · rw [hb] at c9
    have HZ : Hid (begE s L = 0 ∧ begS s L = s ∧ begL s L = L) := Lib.hid ⟨by unfold begE; rw [hb]; rfl, by unfold begS; rw [hb]; rfl, by unfold begL; rw [hb]; rfl⟩
    clear c0 c1 c2 c3 c4 c5 c6 c7 c8 h hb
    go_enter Tryz.func87, Tryz.ntmps87
    go_wp2_with fail
    go_ret
    rw [HZ.out.1, HZ.out.2.1, HZ.out.2.2]
    exact ⟨F, q, m, c, rfl, HL.out, Upd.of_gr (Gr.refl _)⟩

end Go.Proofs.YtaemmknijmhnoaaGreat

/-
  What record bytes begin with: the program's.
-/
namespace Go.Proofs.YtaemmknijmhnoaaGreat
open Go.RowKit Cr

theorem equal_any (p q : Option Addr) (n c m d : Nat) (xs ys : List Int) (w : World) (h : Byt w p n c xs) (k : Byt w q m d ys) : Calls Tryz.prog 155 #[.slice p n c, .slice q m d] w fun e w' => e = .returned (.bool (decide (xs = ys))) ∧ w = w' := by
  have hc1 := h.lies.convert h.len c 31 5 9 Tryz.underlying31 Tryz.underlying5 Tryz.underlying9
  have hc2 := k.lies.convert k.len d 31 5 9 Tryz.underlying31 Tryz.underlying5 Tryz.underlying9
  have he := Lib.hid (strEq h.small k.small)
  clear h k
  obtain ⟨r, hr⟩ : ∃ r, r = strOfNums xs := ⟨_, rfl⟩
  obtain ⟨s, hs⟩ : ∃ s, s = strOfNums ys := ⟨_, rfl⟩
  rw [← hr] at hc1 he
  rw [← hs] at hc2 he
  clear hr hs
  go_enter Tryz.func155, Tryz.ntmps155
  go_wp2
  go_ret
  exact ⟨ret_b he.out, rfl⟩

theorem hasPrefix_any (p q : Option Addr) (n c m d : Nat) (xs ys : List Int) (w : World) (h : Byt w p n c xs) (k : Byt w q m d ys) : Calls Tryz.prog 130 #[.slice p n c, .slice q m d] w fun e w' => e = .returned (.bool (preB xs ys)) ∧ w = w' := by
  have lx := h.len
  have ly := k.len
  have hcap := h.cap
  by_cases hl : m ≤ n
  · have hp := h.pre m c hl (by omega) (Nat.le_refl _)
    have HE := Lib.hid (equal_any p q m c m d (xs.take m) ys w hp k)
    have HR : Hid (preB xs ys = decide (xs.take m = ys)) := Lib.hid (by unfold preB; rw [ly])
    have hl' : (m : Int) ≤ n := by omega
    have hmc : m ≤ c := by omega
    have hnil := h.nilCap
    clear h k lx ly hp
    cases p with
    | none =>
      have h0 := hnil rfl
      subst h0
      obtain rfl : n = 0 := by omega
      obtain rfl : m = 0 := by omega
      clear hnil
      go_enter Tryz.func130, Tryz.ntmps130
      go_wp2_with fail
      refine HE.out.mono ?_
      rintro e w' ⟨rfl, rfl⟩
      go_wp2_with fail
      go_ret
      exact ⟨ret_b (by rw [HR.out]; simp only [List.take_zero]; exact decide_eq_decide.2 eq_comm), rfl⟩
    | some ad =>
      clear hnil
      go_enter Tryz.func130, Tryz.ntmps130
      go_wp2_with fail
      refine HE.out.mono ?_
      rintro e w' ⟨rfl, rfl⟩
      go_wp2_with fail
      go_ret
      exact ⟨ret_b HR.out.symm, rfl⟩
  · have HR : Hid (preB xs ys = false) := Lib.hid (by
      unfold preB
      apply decide_eq_false
      intro e
      have := congrArg List.length e
      simp at this
      omega)
    have hl' : ¬ (m : Int) ≤ n := by omega
    clear h k lx ly
    go_enter Tryz.func130, Tryz.ntmps130
    go_wp2_with fail
    go_ret
    exact ⟨ret_b HR.out.symm, rfl⟩

/-- All but one block is as it was. -/
structure Oth (f : Nat) (W W' : World) : Prop where
  size : W.heap.size ≤ W'.heap.size
  block : ∀ g, g < W.heap.size → g ≠ f → W'.heap[g]? = W.heap[g]?
theorem Oth.refl (f : Nat) (W : World) : Oth f W W := ⟨Nat.le_refl _, fun _ _ _ => rfl⟩
theorem Oth.set {f : Nat} {W W' : World} (h : Oth f W W') (v : Value) : Oth f W (W'.setCell ⟨f, 0, none⟩ v) :=
  ⟨by have := h.size; simp; exact this, fun g h1 h2 => (heap_setCell_other W' ⟨f, 0, none⟩ g v h2).trans (h.block g h1 h2)⟩
theorem Oth.seti {f : Nat} {W W' : World} (h : Oth f W W') (i : Nat) (v : Value) : Oth f W (W'.setCell ⟨f, i, none⟩ v) :=
  ⟨by have := h.size; simp; exact this, fun g h1 h2 => (heap_setCell_other W' ⟨f, i, none⟩ g v h2).trans (h.block g h1 h2)⟩
theorem Oth.set8 {f : Nat} (W : World) (a b c d e g i j : Value) : Oth f W ((((((((W.setCell ⟨f, 0, none⟩ a).setCell ⟨f, 1, none⟩ b).setCell ⟨f, 2, none⟩ c).setCell ⟨f, 3, none⟩ d).setCell ⟨f, 4, none⟩ e).setCell ⟨f, 5, none⟩ g).setCell ⟨f, 6, none⟩ i).setCell ⟨f, 7, none⟩ j) :=
  ((((((((Oth.refl f W).seti 0 a).seti 1 b).seti 2 c).seti 3 d).seti 4 e).seti 5 g).seti 6 i).seti 7 j
theorem Oth.gr {f : Nat} {W W' W'' : World} (h : Oth f W W') (g : Gr W' W'') : Oth f W W'' :=
  ⟨Nat.le_trans h.size g.size, fun k h1 h2 => (g.block k (Nat.lt_of_lt_of_le h1 h.size)).trans (h.block k h1 h2)⟩
theorem Oth.blk {f g : Nat} {W W' : World} {t : TypeId} {cs : Array Value} (h : Oth f W W') (hb : Blk W g t cs) (hg : g ≠ f) : Blk W' g t cs := (h.block g hb.lt hg).trans hb
theorem Oth.byt {f : Nat} {W W' : World} {p : Option Addr} {n c : Nat} {xs : List Int} (h : Oth f W W') (hb : Byt W p n c xs) (hf : ∀ a, p = some a → f < a.block) : Byt W' p n c xs :=
  ⟨hb.len, hb.cap, hb.most, fun hn => by
    obtain ⟨b, o, rfl, hc⟩ := hb.lies.at hn
    refine ⟨b, o, rfl, fun i hi => ?_⟩
    have hfb : f < b := hf _ rfl
    rw [← hc i hi]
    unfold World.cell?
    rw [h.block b (blk_lt (hc i hi)) (by omega)], hb.nilCap, hb.small⟩

abbrev TBy : TypeId := 31
/-- What lies there while a record is read. -/
structure RdAt (w0 : World) (p : Option Addr) (n c : Nat) (F : Int) (W : World) : Prop where
  gr : Gr w0 W
  b : Blk W w0.heap.size TBy #[.slice p n c]
  z : Blk W (w0.heap.size + 1) TR #[.int .i64 0, .int .u64 0, .int .u64 0, .int .u64 0, .int .i64 0, .int .i64 0, .slice none 0 0, .slice none 0 0]
  f : Blk W (w0.heap.size + 1 + 1) TI #[.int .i64 F]
theorem RdAt.set {w0 W : World} {p : Option Addr} {n c : Nat} {F : Int} (h : RdAt w0 p n c F W) (F' : Int) : RdAt w0 p n c F' (W.setCell ⟨w0.heap.size + 1 + 1, 0, none⟩ (.int .i64 F')) :=
  ⟨h.gr.setCell (by show w0.heap.size ≤ w0.heap.size + 1 + 1; omega) _, h.b.far (by show w0.heap.size ≠ w0.heap.size + 1 + 1; omega) _, h.z.far (by show w0.heap.size + 1 ≠ w0.heap.size + 1 + 1; omega) _, h.f.set 0 _⟩
theorem RdAt.up {w0 W W' : World} {p : Option Addr} {n c : Nat} {F : Int} (h : RdAt w0 p n c F W) (g : Gr W W') : RdAt w0 p n c F W' :=
  ⟨Gr.trans h.gr g, h.b.below g h.b.lt, h.z.below g h.z.lt, h.f.below g h.f.lt⟩
theorem RdAt.put {w0 W : World} {p : Option Addr} {n c : Nat} {F : Int} (h : RdAt w0 p n c F W) (g i : Nat) (v : Value) (hg : w0.heap.size + 1 + 1 < g) : RdAt w0 p n c F (W.setCell ⟨g, i, none⟩ v) :=
  ⟨h.gr.setCell (by show w0.heap.size ≤ g; omega) _, h.b.far (by show w0.heap.size ≠ g; omega) _, h.z.far (by show w0.heap.size + 1 ≠ g; omega) _, h.f.far (by show w0.heap.size + 1 + 1 ≠ g; omega) _⟩

theorem sz_set (w : World) (a : Addr) (v : Value) : (w.setCell a v).heap.size = w.heap.size := by simp [World.setCell]

set_option maxRecDepth 100000 in
/-- next: a word, and on. -/
theorem next_any {w0 : World} {p : Option Addr} {n c : Nat} {xs : List Int} (hb : Byt w0 p n c xs) (F s F' : Int) (W : World) (h : RdAt w0 p n c F W) (hF : F + s = F') (h0 : 0 ≤ F) (h1 : F ≤ 1000) (h2 : 0 ≤ s) (h3 : s ≤ 8) :
    Calls Tryz.prog 152 #[.int .i64 s, .pointer (some ⟨w0.heap.size, 0, none⟩), .pointer (some ⟨w0.heap.size + 1 + 1, 0, none⟩)] W fun e w' => e = .returned (.int .u64 (atR xs F s)) ∧ W.setCell ⟨w0.heap.size + 1 + 1, 0, none⟩ (.int .i64 F') = w' := by
  subst hF
  have HA := Lib.hid (at_any p n c xs F s W (hb.kept h.gr))
  have c0 : W.cell? ⟨w0.heap.size, 0, none⟩ = some (.slice p n c) := h.b.cell 0
  have c1 : W.cell? ⟨w0.heap.size + 1 + 1, 0, none⟩ = some (.int .i64 F) := h.f.cell 0
  have f1 := h.f.frozen 0
  clear hb h
  go_enter Tryz.func152, Tryz.ntmps152
  go_wp2_with fail
  refine HA.out.mono ?_
  rintro e w1 ⟨rfl, rfl⟩
  go_wp2_with fail
  go_ret
  exact ⟨rfl, rfl⟩

theorem drop_take_min (xs : List Int) (F M A E : Nat) (hA : A = min F xs.length) (hE : E = min (A + M) xs.length) : (xs.drop A).take (E - A) = (xs.drop F).take M := by
  subst hA hE
  by_cases h : F ≤ xs.length
  · rw [Nat.min_eq_left h]
    by_cases h2 : F + M ≤ xs.length
    · rw [Nat.min_eq_left h2]; congr 1; omega
    · rw [Nat.min_eq_right (by omega), List.take_of_length_le (by simp), List.take_of_length_le (by simp; omega)]
  · have e1 : min F xs.length = xs.length := by omega
    rw [e1, List.drop_of_length_le (Nat.le_refl _), List.drop_of_length_le (by omega)]
    simp

theorem results_rec3 {fn : Func} {p q r : Tmp} (h : fn.results = #[.cell p TR, .tmp q, .tmp r]) (tmps : Array Value) (w : World) (g : Nat) (cs : Array Value) (x y : Value) (hs : cs.size = 8)
    (hp : tmps.getD p undef = .pointer (some ⟨g, 0, none⟩)) (hx : tmps.getD q undef = x) (hy : tmps.getD r undef = y) (hb : Blk w g TR cs) : (results fn tmps).run Tryz.prog w = .ok (.tuple #[.agg cs, x, y]) w := by
  have hp' : tmps[p]?.getD undef = .pointer (some ⟨g, 0, none⟩) := by simpa using hp
  have hx' : tmps[q]?.getD undef = x := by simpa using hx
  have hy' : tmps[r]?.getD undef = y := by simpa using hy
  have hl := run_loadVar_row (P := Tryz.prog) w g TR TR cs (0, 0) _ hb Tryz.underlying100 rfl (by rw [hs]; exact rec_size)
  simp [results, h, hp', hx', hy', asAddr, hl]

def ofE (xs : List Int) (at' : Nat) : Int := if ofB xs at' then 0 else 4
theorem zeros_rec (w : World) : Blk (w.alloc (.cells #[.int .i64 0, .int .u64 0, .int .u64 0, .int .u64 0, .int .i64 0, .int .i64 0, .slice none 0 0, .slice none 0 0] TR)) w.heap.size TR #[.int .i64 0, .int .u64 0, .int .u64 0, .int .u64 0, .int .i64 0, .int .i64 0, .slice none 0 0, .slice none 0 0] := Blk.new _ _ _

end Go.Proofs.YtaemmknijmhnoaaGreat

