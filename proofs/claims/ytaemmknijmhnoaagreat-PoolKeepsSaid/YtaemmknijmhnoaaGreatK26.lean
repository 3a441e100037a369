/-
  Texts, put together: Wal13 Wal15 Gone Pool13 Pool14.
-/
import Derived.Test.YtaemmknijmhnoaaGreatK5
import Derived.Test.YtaemmknijmhnoaaGreatK7
import Derived.Test.YtaemmknijmhnoaaGreatK17
import Derived.Test.YtaemmknijmhnoaaGreatK24
import Derived.Test.YtaemmknijmhnoaaGreatK25
set_option linter.unusedVariables false
set_option linter.unusedSimpArgs false
/-
  What lasts is noted; the log is flushed.
-/
namespace Go.Proofs.YtaemmknijmhnoaaGreat
open Go.RowKit Go.Maps

set_option maxRecDepth 100000 in
theorem wlast_any (b : Nat) (p : Value) (n : Int) (l : Int) (g : Int) (ep : Nat) (tl : Nat) (la : Nat) (q : Option Addr) (m : Nat) (c : Nat) (rs : Int) (bg : Bool) (q1 : Option Addr) (m1 c1 : Nat) (E : Nat) (w : World) (h : Blk w b TLg #[p, .int .i64 n, .int .i64 l, .int .i64 g, .int .u64 ep, .int .u64 tl, .int .u64 la, .slice q m c, .int .i64 rs, .bool bg]) (hE : E ≤ 18446744073709551615) (hA : E % 232 ≤ m1) (hc : m1 ≤ c1) (hb : c1 ≤ 9223372036854775807) :
    Calls Tryz.prog 86 #[.pointer (some ⟨b, 0, none⟩), .slice q1 m1 c1, .int .u64 (E : Int)] w fun e w' => e = .returned (.tuple #[]) ∧ ∃ q2, w' = (w.setCell ⟨b, 6, none⟩ (.int .u64 (E : Int))).setCell ⟨b, 7, none⟩ (.slice q2 (E % 232) (E % 232)) ∧ CutOf q1 m1 c1 (m1 - E % 232) m1 (E % 232) q2 := by
  obtain ⟨A, hA2⟩ : ∃ A, A = E % 232 := ⟨_, rfl⟩
  rw [← hA2] at hA ⊢
  obtain ⟨q2, hcut, hof⟩ := cut_lhm (p := q1) (n := m1) (c := c1) (m1 - A) m1 m1 (by omega) (Nat.le_refl _) (Nat.le_refl _) hc
  rw [show m1 - (m1 - A) = A by omega] at hcut hof
  have HA : Hid (∀ W, Calls Tryz.prog 66 #[.int .u64 (E : Int)] W fun e w' => e = .returned (.int .i64 (A : Int)) ∧ W = w') := Lib.hid fun W => by rw [hA2]; exact ahead_any _ W hE
  have HOf := Lib.hid hof
  have HC := Lib.hid hcut
  obtain ⟨I, hI⟩ : ∃ I, I = m1 - A := ⟨_, rfl⟩
  have hw : IntKind.i64.wrap ((m1 : Int) - (A : Int)) = (I : Int) := by rw [IntWalk.i64_in _ (by omega)]; omega
  rw [← hI] at HC
  have hcut2 := fun w => HC.out w
  have f6 := h.frozen 6
  have f7 := h.frozen 7
  have c6 := h.c10.2.2.2.2.2.2.1
  have c7 := h.c10.2.2.2.2.2.2.2.1
  clear h hof hcut hA2 hI hE
  go_enter Tryz.func86, Tryz.ntmps86
  go_wp2_with fail
  refine (HA.out _).mono ?_
  rintro e w1 ⟨rfl, rfl⟩
  go_wp2_with fail
  exact bodyPost_end (results_none rfl _ _ _) rfl ⟨rfl, q2, rfl, HOf.out⟩

/-- All of it lasts. -/
def Lg.done (L : Lg) : Lg := { L with lasts := L.fin, txt := L.txt.drop (L.txt.length - L.fin % 232) }
theorem Lg.Ok.done {L : Lg} (ok : L.Ok) : L.done.Ok ∧ L.done.fin = L.fin ∧ L.fin % 232 ≤ L.txt.length := by
  have hn := ok.near
  have hh := ok.has
  have e0 : L.fin = L.lasts - L.lasts % 232 + L.txt.length := rfl
  have h1 : L.fin % 232 ≤ L.txt.length := by omega
  have hl : (L.txt.drop (L.txt.length - L.fin % 232)).length = L.fin % 232 := by rw [List.length_drop]; omega
  have hf : L.done.fin = L.fin := by
    show L.fin - L.fin % 232 + (L.txt.drop (L.txt.length - L.fin % 232)).length = L.fin
    rw [hl]; omega
  refine ⟨⟨ok.may, ok.e0, ok.e1, hn.1, ?_, by rw [hf]; exact ok.most, by rw [hf]; exact ok.room, ok.r0, ok.r1⟩, hf, h1⟩
  show L.fin % 232 ≤ (L.txt.drop (L.txt.length - L.fin % 232)).length
  rw [hl]
  exact Nat.le_refl _
theorem Wl.last {w : World} {F : Nat → Prop} {b : Nat} {p : Value} {q : Option Addr} {m c : Nat} {s : St} {L : Lg} (h : Wl w F b p q m c s L) (ok : L.Ok) :
    Calls Tryz.prog 86 #[.pointer (some ⟨b, 0, none⟩), .slice q m c, .int .u64 (L.fin : Int)] w (RetWl (.tuple #[]) s L.done F b p q w) := by
  have hml := h.lg.mlen
  have hd := ok.done
  have hcap := h.lg.txt.1.cap
  have hmost := h.lg.txt.1.most
  refine (wlast_any b _ _ _ _ _ _ _ _ _ _ _ _ q m c L.fin w h.lg.blk (by have := ok.most; omega) (by rw [hml]; exact hd.2.2) hcap (by unfold maxLen at hmost; omega)).mono ?_
  rintro e w' ⟨rfl, q2, rfl, hof⟩
  have h1 := Only.cell b 6 w (.int .u64 (L.fin : Int))
  have h2 := Only.cell b 7 (w.setCell ⟨b, 6, none⟩ (.int .u64 (L.fin : Int))) (.slice q2 (L.fin % 232) (L.fin % 232))
  have ho := h1.trans h2
  have hb : ∀ y, q2 = some y → y.block ≠ b := fun y hy => by
    obtain ⟨z, hz, e⟩ := hof.blk y hy
    rw [← e]
    exact h.lg.apart z hz
  have hsub : ∀ k, lgS b q2 k → lgS b q k := fun k hk => hk.imp id fun ⟨y, hy, e⟩ => by
    obtain ⟨z, hz, e2⟩ := hof.blk y hy
    exact ⟨z, hz, e2.trans e⟩
  have hy := hof.byt w _ h.lg.txt.1
  rw [show m - (m - L.fin % 232) = L.fin % 232 by have := hd.2.2; omega, drop_take_all h.lg.txt.1.len] at hy
  have hy2 := hy.stays (w' := (w.setCell ⟨b, 6, none⟩ (.int .u64 (L.fin : Int))).setCell ⟨b, 7, none⟩ (.slice q2 (L.fin % 232) (L.fin % 232))) (fun y hyy => ho.block _ (hb y hyy))
  refine ⟨F, q2, _, _, rfl, ⟨h.dk.stays (fun k hk => ho.block k (fun e => h.apart k hk (.inl e))) (Nat.le_of_eq ho.size.symm), ⟨(h.lg.blk.set 6 _).set 7 _, ⟨?_, .inl rfl⟩, hb, fun k hk => by rw [ho.size]; exact h.lg.low k (hsub k hk), h.lg.dsk⟩, fun k hk hl => h.apart k hk (hsub k hl)⟩,
    ⟨ho.os, ho.tape, ho.output, Nat.le_of_eq ho.size.symm, fun k _ hn => ho.block k (fun e => hn (.inr (.inl e))), fun k hk => .inl (hk.imp id (hsub k))⟩⟩
  show Byt _ q2 _ _ (L.txt.drop (L.txt.length - L.fin % 232))
  rw [hml] at hy2
  exact hy2

/-- Flush, as the mathematics has it. -/
def flS (s : St) (L : Lg) (u : Nat) : St := if L.fin < u then s else if u ≤ L.lasts then s else if begE s L ≠ 0 then begS s L else (wrAll (begL s L) (chN L.txt.length) 0 (begS s L)).1
def flE (s : St) (L : Lg) (u : Nat) : Int := if L.fin < u then 2 else if u ≤ L.lasts then 0 else if begE s L ≠ 0 then begE s L else (wrAll (begL s L) (chN L.txt.length) 0 (begS s L)).2
def flL (s : St) (L : Lg) (u : Nat) : Lg := if L.fin < u then L else if u ≤ L.lasts then L else if begE s L ≠ 0 then begL s L else if (wrAll (begL s L) (chN L.txt.length) 0 (begS s L)).2 ≠ 0 then begL s L else (begL s L).done
theorem begL_cases (s : St) (L : Lg) : begL s L = L ∨ begL s L = { L with begun := true } := by
  unfold begL
  split
  · exact .inl rfl
  · split
    · exact .inl rfl
    · exact .inr rfl
theorem begL_ok {s : St} {L : Lg} (ok : L.Ok) : (begL s L).Ok ∧ (begL s L).fin = L.fin ∧ (begL s L).txt = L.txt ∧ (begL s L).l = L.l := by
  rcases begL_cases s L with h | h
  · rw [h]; exact ⟨ok, rfl, rfl, rfl⟩
  · rw [h]; exact ⟨⟨ok.may, ok.e0, ok.e1, ok.tl, ok.has, ok.most, ok.room, ok.r0, ok.r1⟩, rfl, rfl, rfl⟩
theorem begS_bounds {s : St} {L : Lg} : (begS s L).ls.length = s.ls.length ∧ (begS s L).writes ≤ s.writes + 1 := by
  unfold begS putD BaS
  split
  · exact ⟨rfl, Nat.le_succ _⟩
  · split
    · exact ⟨rfl, Nat.le_succ _⟩
    · split
      · exact ⟨rfl, Nat.le_refl _⟩
      · exact ⟨by simp [St.barrier, St.wrote], Nat.le_refl _⟩
def SlFl (b : Nat) (q3 : Option Addr) (m3 : Nat) (c3 : Nat) (F1n : Nat) (slot : Nat) (v : Value) (_ : World) : Prop :=
  match slot with
  | 32 => v = .pointer (some ⟨b, 0, none⟩)
  | 33 => v = .pointer (some ⟨b, 0, none⟩)
  | 34 => v = .pointer (some ⟨b, 0, none⟩)
  | 35 => v = .pointer (some ⟨b, 7, none⟩)
  | 36 => v = .slice q3 m3 c3
  | 37 => v = .pointer (some ⟨b, 0, none⟩)
  | 38 => v = .int .u64 (F1n : Int)
  | 39 => v = .tuple #[]
  | _ => True

set_option maxRecDepth 100000 in
set_option maxHeartbeats 1000000 in
theorem wFlush_any {F : Nat → Prop} {b : Nat} {p : Value} {q : Option Addr} {m c : Nat} {s : St} {L : Lg} (w : World) (h : Wl w F b p q m c s L) (ok : L.Ok) (hn : 3 + L.l ≤ s.ls.length) (hw : s.writes ≤ 800000000) (u : Nat) (hu : u ≤ 18446744073709551615) :
    Calls Tryz.prog 67 #[.pointer (some ⟨b, 0, none⟩), .int .u64 (u : Int)] w (RetWl (.int .i64 (flE s L u)) (flS s L u) (flL s L u) F b p q w) := by
  obtain ⟨D, hD⟩ := h.lg.dsk
  have HM := Lib.hid (wmissing_no D b _ _ _ _ _ _ _ _ _ _ _ _ w h.lg.blk hD)
  have HE := Lib.hid (h.lg.End ok)
  have HH := Lib.hid h
  have HOK := Lib.hid ok
  have c6 := h.lg.blk.c10.2.2.2.2.2.2.1
  obtain ⟨Fn, hF⟩ : ∃ Fn, Fn = L.fin := ⟨_, rfl⟩
  obtain ⟨La, hLa⟩ : ∃ La, La = L.lasts := ⟨_, rfl⟩
  rw [← hF] at HE
  rw [← hLa] at c6
  have HFL : Hid (Fn = L.fin ∧ La = L.lasts) := Lib.hid ⟨hF, hLa⟩
  by_cases h1 : Fn < u
  · have g1 : (Fn : Int) < (u : Int) := by omega
    have HZ : Hid (flE s L u = 2 ∧ flS s L u = s ∧ flL s L u = L) := Lib.hid (by
      have h1' : L.fin < u := by omega
      unfold flE flS flL; simp [h1'])
    clear h hF hLa c6 h1
    go_enter Tryz.func67, Tryz.ntmps67
    go_wp2_with fail
    refine HM.out.mono ?_
    rintro e w1 ⟨rfl, rfl⟩
    go_wp2_with fail
    refine HE.out.mono ?_
    rintro e w1 ⟨rfl, g⟩
    have HG := Lib.hid g
    clear g
    go_wp2_with fail
    go_ret
    rw [HZ.out.1, HZ.out.2.1, HZ.out.2.2]
    exact ⟨F, q, m, c, rfl, HH.out.gr HG.out, Upd.of_gr HG.out⟩
  · have g1 : ¬ (Fn : Int) < (u : Int) := by omega
    by_cases h2 : u ≤ La
    · have g2 : (u : Int) ≤ (La : Int) := by omega
      have HZ : Hid (flE s L u = 0 ∧ flS s L u = s ∧ flL s L u = L) := Lib.hid (by
        have h1' : ¬ L.fin < u := by omega
        have h2' : u ≤ L.lasts := by omega
        unfold flE flS flL; simp [h1', h2'])
      have HC6 := Lib.hid (fun W (g : Gr w W) => (h.lg.gr g).blk.c10.2.2.2.2.2.2.1)
      clear h hF hLa c6 h1 h2
      go_enter Tryz.func67, Tryz.ntmps67
      go_wp2_with fail
      refine HM.out.mono ?_
      rintro e w1 ⟨rfl, rfl⟩
      go_wp2_with fail
      refine HE.out.mono ?_
      rintro e w1 ⟨rfl, g⟩
      have HG := Lib.hid g
      have c6 := HC6.out w1 g
      rw [← HFL.out.2] at c6
      clear g HC6
      go_wp2_with fail
      go_ret
      rw [HZ.out.1, HZ.out.2.1, HZ.out.2.2]
      exact ⟨F, q, m, c, rfl, HH.out.gr HG.out, Upd.of_gr HG.out⟩
    · have g2 : ¬ (u : Int) ≤ (La : Int) := by omega
      obtain ⟨E1, hE1⟩ : ∃ E1, E1 = begE s L := ⟨_, rfl⟩
      obtain ⟨r2, hr2⟩ : ∃ r2, r2 = wrAll (begL s L) (chN L.txt.length) 0 (begS s L) := ⟨_, rfl⟩
      have h1' : ¬ L.fin < u := by omega
      have h2' : ¬ u ≤ L.lasts := by omega
      have HZ : Hid (E1 ≠ 0 → flE s L u = E1 ∧ flS s L u = begS s L ∧ flL s L u = begL s L) := Lib.hid fun he => by
        rw [hE1] at he ⊢
        unfold flE flS flL
        rw [if_neg h1', if_neg h2', if_pos he, if_neg h1', if_neg h2', if_pos he, if_neg h1', if_neg h2', if_pos he]
        exact ⟨rfl, rfl, rfl⟩
      have HZ2 : Hid (E1 = 0 → flE s L u = r2.2 ∧ flS s L u = r2.1 ∧ flL s L u = if r2.2 ≠ 0 then begL s L else (begL s L).done) := Lib.hid fun he => by
        rw [hE1] at he
        unfold flE flS flL
        rw [if_neg h1', if_neg h2', if_neg (fun e => e he), if_neg h1', if_neg h2', if_neg (fun e => e he), if_neg h1', if_neg h2', if_neg (fun e => e he), hr2]
        exact ⟨rfl, rfl, rfl⟩
      have HB1 := Lib.hid (fun W (g : Gr w W) => wbegin_any W (h.gr g) ok hn (by omega))
      rw [← hE1] at HB1
      have HBL := Lib.hid (begL_ok (s := s) ok)
      have HBS := Lib.hid (begS_bounds (s := s) (L := L))
      have HNN := Lib.hid (show 3 + L.l ≤ s.ls.length ∧ s.writes ≤ 800000000 from ⟨hn, hw⟩)
      have HC6 := Lib.hid (fun W (g : Gr w W) => (h.lg.gr g).blk.c10.2.2.2.2.2.2.1)
      have HR2 := Lib.hid hr2
      obtain ⟨s1, hs1⟩ : ∃ s1, s1 = begS s L := ⟨_, rfl⟩
      obtain ⟨L1, hL1⟩ : ∃ L1, L1 = begL s L := ⟨_, rfl⟩
      rw [← hs1, ← hL1] at HZ HB1 HR2
      rw [← hL1] at HZ2 HBL
      rw [← hs1] at HBS
      clear h hF hLa c6 h1 h2 hE1 hr2 h1' h2' hn hw hs1 hL1 ok hD
      go_enter Tryz.func67, Tryz.ntmps67
      go_wp2_with fail
      refine HM.out.mono ?_
      rintro e w1 ⟨rfl, rfl⟩
      go_wp2_with fail
      refine HE.out.mono ?_
      rintro e w1 ⟨rfl, g⟩
      have HG := Lib.hid g
      have c6 := HC6.out w1 g
      rw [← HFL.out.2] at c6
      clear g HC6
      go_wp2_with fail
      refine (HB1.out w1 HG.out).mono ?_
      rintro e w2 ⟨F2, q2, m2, c2, rfl, hw2, hu2⟩
      have HW2 := Lib.hid hw2
      have HU2 := Lib.hid ((Upd.of_gr HG.out).comp hu2)
      clear hw2 hu2 c6 HB1
      by_cases hE0 : E1 = 0
      · subst hE0
        have HZ3 := Lib.hid (HZ2.out rfl)
        have hm2 : m2 = L.txt.length := by rw [HW2.out.lg.mlen, HBL.out.2.2.1]
        have HWA : Hid (Calls Tryz.prog 88 #[.pointer (some ⟨b, 0, none⟩)] w2 (RetWl (.int .i64 r2.2) r2.1 L1 F2 b p q2 w2)) := Lib.hid (by
          have h := wwriteAll_any w2 HW2.out HBL.out.1 (by rw [HBL.out.2.2.2, HBS.out.1]; exact HNN.out.1) (by have := HBS.out.2; have := HNN.out.2; omega)
          rw [hm2, ← HR2.out] at h
          exact h)
        obtain ⟨E2, hE2⟩ : ∃ E2, E2 = r2.2 := ⟨_, rfl⟩
        rw [← hE2] at HWA HZ3
        clear hm2 hE2 HZ HZ2
        go_wp2_with fail
        refine HWA.out.mono ?_
        rintro e w3 ⟨F3, q3, m3, c3, rfl, hw3, hu3⟩
        have HW3 := Lib.hid hw3
        have HU3 := Lib.hid (HU2.out.comp hu3)
        clear hw3 hu3 HWA
        by_cases hE20 : E2 = 0
        · subst hE20
          have HZ4 : Hid (flE s L u = 0 ∧ flS s L u = r2.1 ∧ flL s L u = L1.done) := Lib.hid ⟨HZ3.out.1, HZ3.out.2.1, by rw [HZ3.out.2.2, if_neg (fun e => e rfl)]⟩
          obtain ⟨Fin, hFin⟩ : ∃ Fin : World → Prop, Fin = fun W => ∃ F' q' m' c', Wl W F' b p q' m' c' r2.1 L1.done ∧ Upd (wlS F3 b q3) (wlS F' b q') w3 W := ⟨_, rfl⟩
          have HEn : Hid (∀ W, Gr w3 W → Calls Tryz.prog 37 #[.pointer (some ⟨b, 0, none⟩)] W (RetU L1.fin W)) := Lib.hid fun W g => (HW3.out.gr g).lg.End HBL.out.1
          have HLa : Hid (∀ W, Gr w3 W → Calls Tryz.prog 86 #[.pointer (some ⟨b, 0, none⟩), .slice q3 m3 c3, .int .u64 (L1.fin : Int)] W fun e w' => e = .returned (.tuple #[]) ∧ Fin w') := Lib.hid fun W g => by
            refine ((HW3.out.gr g).last HBL.out.1).mono ?_
            rintro e w' ⟨F', q', m', c', rfl, hw', hu'⟩
            rw [hFin]
            exact ⟨rfl, F', q', m', c', hw', (Upd.of_gr g).comp hu'⟩
          have HB := Lib.hid HW3.out.lg.blk
          have HFn := Lib.hid hFin
          obtain ⟨F1n, hF1n⟩ : ∃ F1n, F1n = L1.fin := ⟨_, rfl⟩
          rw [← hF1n] at HEn HLa
          clear hFin hF1n HZ3
          go_wp2_with fail
          refine Flow.regionS [] 20 (SlFl b q3 m3 c3 F1n) (InC 7 w3 (Fin)) (fun _ _ _ => True) (by kernel_rfl) (by kernel_rfl) (fun _ _ _ _ _ _ h _ => h) (InC.start (by rfl) (Gr.refl _).drew) ?steps ?fin
          case steps =>
            refine Flow.StepsS.cons (fun l a W hfr hun hup hdn hinv hdep K hK => ?_) ?_
            · have s0 : a.tmps.getD 0 undef = .pointer (some ⟨b, 0, none⟩) := hfr.at 0 (by kernel_rfl)
              have t0 : a.tmps[0]?.getD undef = .pointer (some ⟨b, 0, none⟩) := by simpa using s0
              rw [if_pos (Flow.wanted_none rfl)]
              clear hfr hdep hdn
              go_simp
              exact hK _ _ True.intro (hinv.other 0 (by decide)) (fun d hd => by cases hd; trivial)
            refine Flow.StepsS.cons (fun l a W hfr hun hup hdn hinv hdep K hK => ?_) ?_
            · have s0 : a.tmps.getD 0 undef = .pointer (some ⟨b, 0, none⟩) := hfr.at 0 (by kernel_rfl)
              have t0 : a.tmps[0]?.getD undef = .pointer (some ⟨b, 0, none⟩) := by simpa using s0
              rw [if_pos (Flow.wanted_none rfl)]
              clear hfr hdep hdn
              go_simp
              exact hK _ _ True.intro (hinv.other 1 (by decide)) (fun d hd => by cases hd; trivial)
            refine Flow.StepsS.cons (fun l a W hfr hun hup hdn hinv hdep K hK => ?_) ?_
            · have s33 : a.tmps.getD 33 undef = .pointer (some ⟨b, 0, none⟩) := hdep 33 (by kernel_rfl)
              have t33 : a.tmps[33]?.getD undef = .pointer (some ⟨b, 0, none⟩) := by simpa using s33
              rw [if_pos (Flow.wanted_none rfl)]
              clear hfr hdep hdn
              go_simp
              exact hK _ _ True.intro (hinv.other 2 (by decide)) (fun d hd => by cases hd; trivial)
            refine Flow.StepsS.cons (fun l a W hfr hun hup hdn hinv hdep K hK => ?_) ?_
            · have s34 : a.tmps.getD 34 undef = .pointer (some ⟨b, 0, none⟩) := hdep 34 (by kernel_rfl)
              have t34 : a.tmps[34]?.getD undef = .pointer (some ⟨b, 0, none⟩) := by simpa using s34
              rw [if_pos (Flow.wanted_none rfl)]
              clear hfr hdep hdn
              go_simp
              exact hK _ _ True.intro (hinv.other 3 (by decide)) (fun d hd => by cases hd; trivial)
            refine Flow.StepsS.cons (fun l a W hfr hun hup hdn hinv hdep K hK => ?_) ?_
            · have s35 : a.tmps.getD 35 undef = .pointer (some ⟨b, 7, none⟩) := hdep 35 (by kernel_rfl)
              have t35 : a.tmps[35]?.getD undef = .pointer (some ⟨b, 7, none⟩) := by simpa using s35
              rw [if_pos (Flow.wanted_none rfl)]
              clear hfr hdep hdn
              have hlz : l 7 = false := hup 7 (by decide) (by kernel_rfl)
              have hin := hinv.pre hlz
              have c7 := (HB.out.gr hin).c10.2.2.2.2.2.2.2.1
              go_simp
              exact hK _ _ True.intro (hinv.other 4 (by decide)) (fun d hd => by cases hd; trivial)
            refine Flow.StepsS.cons (fun l a W hfr hun hup hdn hinv hdep K hK => ?_) ?_
            · have s0 : a.tmps.getD 0 undef = .pointer (some ⟨b, 0, none⟩) := hfr.at 0 (by kernel_rfl)
              have t0 : a.tmps[0]?.getD undef = .pointer (some ⟨b, 0, none⟩) := by simpa using s0
              rw [if_pos (Flow.wanted_none rfl)]
              clear hfr hdep hdn
              go_simp
              exact hK _ _ True.intro (hinv.other 5 (by decide)) (fun d hd => by cases hd; trivial)
            refine Flow.StepsS.cons (fun l a W hfr hun hup hdn hinv hdep K hK => ?_) ?_
            · have s37 : a.tmps.getD 37 undef = .pointer (some ⟨b, 0, none⟩) := hdep 37 (by kernel_rfl)
              have t37 : a.tmps[37]?.getD undef = .pointer (some ⟨b, 0, none⟩) := by simpa using s37
              rw [if_pos (Flow.wanted_none rfl)]
              clear hfr hdep hdn
              have hlz : l 7 = false := hup 7 (by decide) (by kernel_rfl)
              have hin := hinv.pre hlz
              go_simp
              refine (HEn.out W hin).mono ?_
              rintro e W' ⟨rfl, g1⟩
              exact hK _ _ True.intro (hinv.grow hlz g1 6 (by decide)) (fun d hd => by cases hd; trivial)
            refine Flow.StepsS.cons (fun l a W hfr hun hup hdn hinv hdep K hK => ?_) ?_
            · have s32 : a.tmps.getD 32 undef = .pointer (some ⟨b, 0, none⟩) := hdep 32 (by kernel_rfl)
              have t32 : a.tmps[32]?.getD undef = .pointer (some ⟨b, 0, none⟩) := by simpa using s32
              have s36 : a.tmps.getD 36 undef = .slice q3 m3 c3 := hdep 36 (by kernel_rfl)
              have t36 : a.tmps[36]?.getD undef = .slice q3 m3 c3 := by simpa using s36
              have s38 : a.tmps.getD 38 undef = .int .u64 (F1n : Int) := hdep 38 (by kernel_rfl)
              have t38 : a.tmps[38]?.getD undef = .int .u64 (F1n : Int) := by simpa using s38
              rw [if_pos (Flow.wanted_none rfl)]
              clear hfr hdep hdn
              have hin := hinv.pre hun
              go_simp
              refine (HLa.out W hin).mono ?_
              rintro e W' ⟨rfl, h1⟩
              exact hK _ _ True.intro (InC.fin h1) (fun d hd => by cases hd; trivial)
            exact True.intro
          case fin =>
            intro a W l hfr hall hinv hsl
            have hfin := hinv.post (hall 7 (by decide))
            have e := Flow.frame hfr [32, 33, 34, 35, 36, 37, 38, 39] (List.range 40) (by kernel_rfl) (by kernel_rfl)
            simp [List.range, List.range.loop] at e
            rw [e]
            have HFin := Lib.hid hfin
            clear e hfr hsl hall hinv hfin  
            first
              | (rename_i hB; refine hB _ _ ?_)
              | (rename_i hB y0; refine hB _ _ ?_)
              | (rename_i hB y0 y1; refine hB _ _ ?_)
              | (rename_i hB y0 y1 y2; refine hB _ _ ?_)
              | (rename_i hB y0 y1 y2 y3; refine hB _ _ ?_)
              | (rename_i hB y0 y1 y2 y3 y4; refine hB _ _ ?_)
              | (rename_i hB y0 y1 y2 y3 y4 y5; refine hB _ _ ?_)
              | (rename_i hB y0 y1 y2 y3 y4 y5 y6; refine hB _ _ ?_)
              | (rename_i hB y0 y1 y2 y3 y4 y5 y6 y7; refine hB _ _ ?_)
              | (rename_i hB y0 y1 y2 y3 y4 y5 y6 y7 y8; refine hB _ _ ?_)
              | skip
            have hF := HFin.out
            rw [HFn.out] at hF
            obtain ⟨F4, q4, m4, c4, hw4, hu4⟩ := hF
            have HW4 := Lib.hid hw4
            have HU4 := Lib.hid (HU3.out.comp hu4)
            clear hw4 hu4 HFin
            go_wp2_with fail
            go_ret
            rw [HZ4.out.1, HZ4.out.2.1, HZ4.out.2.2]
            exact ⟨F4, q4, m4, c4, rfl, HW4.out, HU4.out⟩
        · have hE2b : (E2 != 0) = true := by simpa using hE20
          have HZ4 : Hid (flE s L u = E2 ∧ flS s L u = r2.1 ∧ flL s L u = L1) := Lib.hid ⟨HZ3.out.1, HZ3.out.2.1, by rw [HZ3.out.2.2, if_pos hE20]⟩
          clear hE20 HZ3
          go_wp2_with fail
          go_ret
          rw [HZ4.out.1, HZ4.out.2.1, HZ4.out.2.2]
          exact ⟨F3, q3, m3, c3, rfl, HW3.out, HU3.out⟩
      · have hE1b : (E1 != 0) = true := by simpa using hE0
        have HZ4 := Lib.hid (HZ.out hE0)
        clear hE0 HZ HZ2
        go_wp2_with fail
        go_ret
        rw [HZ4.out.1, HZ4.out.2.1, HZ4.out.2.2]
        exact ⟨F2, q2, m2, c2, rfl, HW2.out, HU2.out⟩

end Go.Proofs.YtaemmknijmhnoaaGreat

/-
  What a nil or a zero log answers; and what is refused.
-/
namespace Go.Proofs.YtaemmknijmhnoaaGreat
open Go.RowKit Go.Maps

set_option maxRecDepth 100000 in
set_option maxHeartbeats 1000000 in
theorem wlay_no {b : Nat} {p : Value} {q : Option Addr} {m c : Nat} {L : Lg} (w : World) (h : LgAt w b p q m c L) (ok : L.Ok) (r : Rc) (hi : r.In) (pb : Option Addr) (nb cb : Nat) (pa : Option Addr) (na ca : Nat) (hb : Byt w pb nb cb r.b) (ha : Byt w pa na ca r.a) (room : Int) (hfit : mayR r = false) :
    Calls Tryz.prog 72 #[.pointer (some ⟨b, 0, none⟩), .agg (rcv r pb nb cb pa na ca), .int .i64 room] w (RetLayE 2 w) := by
  obtain ⟨W1, hW1⟩ : ∃ W1, W1 = w.alloc (.cells (rcv r pb nb cb pa na ca) TR) := ⟨_, rfl⟩
  have HB1 : Hid (Blk W1 w.heap.size TR (rcv r pb nb cb pa na ca) ∧ Gr w W1) := Lib.hid (by rw [hW1]; exact ⟨Blk.new _ _ _, Gr.new _ _⟩)
  have HE := Lib.hid (LgAt.End (h.gr HB1.out.2) ok)
  have HBy := Lib.hid (fun W (g : Gr w W) => bytes_any r pb nb cb pa na ca L.fin W hi (hb.kept g) (ha.kept g) (by have := ok.most; omega))
  have HW1 : Hid (w.alloc (.cells (rcv r pb nb cb pa na ca) 100) = W1) := Lib.hid hW1.symm
  obtain ⟨F, hF⟩ : ∃ F, F = L.fin := ⟨_, rfl⟩
  rw [← hF] at HE HBy
  clear h hb ha hW1 hF
  unfold rcv at HW1 HB1 ⊢
  go_enter Tryz.func72, Tryz.ntmps72
  go_wp2_with fail
  rw [HW1.out]
  refine HE.out.mono ?_
  rintro e W2 ⟨rfl, g2⟩
  obtain ⟨c0, c1, c2, c3, c4, c5, c6, c7⟩ := (HB1.out.1.gr g2).c8
  have HG2 := Lib.hid (Gr.trans HB1.out.2 g2)
  clear g2
  go_wp2_with fail
  refine (HBy.out W2 HG2.out).mono ?_
  rintro e W3 ⟨q3, n3, d3, rfl, hy3, g3, f3⟩
  have HG3 := Lib.hid (Gr.trans HG2.out g3)
  have hE0 : bytesE r = 2 := by unfold bytesE; rw [if_neg (by rw [hfit]; decide)]
  rw [hE0]
  clear hE0 HBy HE g3 f3 hy3 HB1 HW1
  go_wp2_with fail
  refine bodyPost_ret_by (P := Tryz.prog) (v := .tuple #[.int .u64 0, .int .i64 2]) (by simp [results, Tryz.results72]) rfl ?_
  exact ⟨rfl, HG3.out⟩
set_option maxRecDepth 100000 in
set_option maxHeartbeats 1000000 in
theorem wlay_full {b : Nat} {p : Value} {q : Option Addr} {m c : Nat} {L : Lg} (w : World) (h : LgAt w b p q m c L) (ok : L.Ok) (r : Rc) (hi : r.In) (pb : Option Addr) (nb cb : Nat) (pa : Option Addr) (na ca : Nat) (hb : Byt w pb nb cb r.b) (ha : Byt w pa na ca r.a) (room : Int) (hfit : mayR r = true) (hroom : room < (35 + r.b.length + r.a.length : Int)) :
    Calls Tryz.prog 72 #[.pointer (some ⟨b, 0, none⟩), .agg (rcv r pb nb cb pa na ca), .int .i64 room] w (RetLayE 5 w) := by
  obtain ⟨W1, hW1⟩ : ∃ W1, W1 = w.alloc (.cells (rcv r pb nb cb pa na ca) TR) := ⟨_, rfl⟩
  have HB1 : Hid (Blk W1 w.heap.size TR (rcv r pb nb cb pa na ca) ∧ Gr w W1) := Lib.hid (by rw [hW1]; exact ⟨Blk.new _ _ _, Gr.new _ _⟩)
  have HE := Lib.hid (LgAt.End (h.gr HB1.out.2) ok)
  have HBy := Lib.hid (fun W (g : Gr w W) => bytes_any r pb nb cb pa na ca L.fin W hi (hb.kept g) (ha.kept g) (by have := ok.most; omega))
  have HW1 : Hid (w.alloc (.cells (rcv r pb nb cb pa na ca) 100) = W1) := Lib.hid hW1.symm
  obtain ⟨F, hF⟩ : ∃ F, F = L.fin := ⟨_, rfl⟩
  rw [← hF] at HE HBy
  clear h hb ha hW1 hF
  unfold rcv at HW1 HB1 ⊢
  go_enter Tryz.func72, Tryz.ntmps72
  go_wp2_with fail
  rw [HW1.out]
  refine HE.out.mono ?_
  rintro e W2 ⟨rfl, g2⟩
  obtain ⟨c0, c1, c2, c3, c4, c5, c6, c7⟩ := (HB1.out.1.gr g2).c8
  have HG2 := Lib.hid (Gr.trans HB1.out.2 g2)
  clear g2
  go_wp2_with fail
  refine (HBy.out W2 HG2.out).mono ?_
  rintro e W3 ⟨q3, n3, d3, rfl, hy3, g3, f3⟩
  have HG3 := Lib.hid (Gr.trans HG2.out g3)
  obtain ⟨n, hn⟩ : ∃ n, n = 35 + r.b.length + r.a.length := ⟨_, rfl⟩
  have hy4 : Byt W3 q3 n3 d3 (recL r F) := by have h := hy3; unfold bytesL at h; rw [if_pos hfit] at h; exact h
  have hn3 : n3 = n := by rw [← hy4.len, recL_len, hn]
  subst hn3
  have hE0 : bytesE r = 0 := by unfold bytesE; rw [if_pos hfit]
  rw [hE0]
  have hr2 : room < (n3 : Int) := by omega
  have hr3 : (n3 : Int) ≤ 9223372036854775807 := by have := hy4.cap; have := hy4.most; unfold maxLen at *; omega
  clear hE0 HBy HE g3 f3 hy3 hy4 hn hroom HB1 HW1
  go_wp2_with fail
  refine bodyPost_ret_by (P := Tryz.prog) (v := .tuple #[.int .u64 0, .int .i64 5]) (by simp [results, Tryz.results72]) rfl ?_
  exact ⟨rfl, HG3.out⟩
end Go.Proofs.YtaemmknijmhnoaaGreat

/-
  A disk that is not there, or a zero one: what it answers.
-/
namespace Go.Proofs.YtaemmknijmhnoaaGreat
open Go.RowKit Go.Maps

end Go.Proofs.YtaemmknijmhnoaaGreat

/-
  A new pool.
-/
namespace Go.Proofs.YtaemmknijmhnoaaGreat
open Go.RowKit Go.Maps

/-- A pool's cells as it is made. -/
theorem built_pl (pd pl : Value) (n : Int) (x : Bool) (m : Nat) (hd : pd.cells = #[pd]) (hl : pl.cells = #[pl]) : Tryz.prog.built TPl [(0, pd), (1, pl), (2, .int .i64 n), (3, .bool x), (4, .map (some m)), (5, .int .i64 (-1))] = some #[pd, pl, .int .i64 n, .bool x, .map (some m), .int .i64 (-1)] := by
  have hz0 : (Tryz.prog.info? TPl).map (·.zero) = some (some (.agg #[.pointer none, .pointer none, .int .i64 0, .bool false, .map none, .int .i64 0])) := by kernel_rfl
  obtain ⟨it, hit, hz⟩ : ∃ it, Tryz.prog.info? TPl = some it ∧ it.zero = some (.agg #[.pointer none, .pointer none, .int .i64 0, .bool false, .map none, .int .i64 0]) := by
    cases h : Tryz.prog.info? TPl with
    | none => rw [h] at hz0; cases hz0
    | some it => rw [h] at hz0; exact ⟨it, rfl, Option.some.inj hz0⟩
  obtain ⟨fs, hfs, hm⟩ : ∃ fs : Array Field, Tryz.prog.underlying TPl = some (.struct fs) ∧ fs.toList.mapM (fun f => (Tryz.prog.info? f.type).map fun i => (f.offset, i.size)) = some [(0, 1), (1, 1), (2, 1), (3, 1), (4, 1), (5, 1)] := ⟨_, Tryz.underlying80, by kernel_rfl⟩
  unfold Program.built
  rw [hit, hfs]
  simp only [hz]
  rw [hm]
  simp [Instr.fill, hd, hl]
  simp [Value.cells]
theorem wpList_build_pl {ops : Array Oper} {rest : List Oper} {o : Oper} {a : Act} {w : World} {Q : Exit → Act → World → Prop} (hg : o.guard = none) (x0 x1 x2 x3 x4 x5 : Operand) (ho : o.op = .build TPl #[(0, x0), (1, x1), (2, x2), (3, x3), (4, x4), (5, x5)])
    {pd pl : Value} {n : Int} {x : Bool} {m : Nat} (hd : pd.cells = #[pd]) (hl : pl.cells = #[pl]) (h0 : a.eval x0 = pd) (h1 : a.eval x1 = pl) (h2 : a.eval x2 = .int .i64 n) (h3 : a.eval x3 = .bool x) (h4 : a.eval x4 = .map (some m)) (h5 : a.eval x5 = .int .i64 (-1))
    (h : wpList Tryz.prog ops Q rest (a.put o.dst (.agg #[pd, pl, .int .i64 n, .bool x, .map (some m), .int .i64 (-1)])) w) : wpList Tryz.prog ops Q (o :: rest) a w := by
  have hb : Tryz.prog.built TPl ((#[(0, x0), (1, x1), (2, x2), (3, x3), (4, x4), (5, x5)] : Array (Nat × Operand)).map fun (i, x) => (i, a.eval x)).toList = some #[pd, pl, .int .i64 n, .bool x, .map (some m), .int .i64 (-1)] := by
    simp only [List.map_toArray, List.map_cons, List.map_nil, h0, h1, h2, h3, h4, h5]
    exact built_pl pd pl n x m hd hl
  exact wpList_build hg TPl _ ho (by rw [hb]; rfl) (by rw [hb]; exact h)
theorem Fm.made (w w' : World) (h : w'.heap[w.heap.size]? = (w.alloc (.map #[] 0)).heap[w.heap.size]?) : Fm w' w.heap.size 0 (fun _ => none) := by
  have h1 := World.ownsMap_made w Tryz.prog TI eltR
  exact ⟨.map [], ownsMap_stays h1 h, fun i _ => rfl, fun i _ => ⟨(fun h => by cases h), fun h => absurd rfl h⟩, fun k h => by cases h⟩
section
variable {w : World} {F : Nat → Prop} {s : St}
set_option maxRecDepth 100000 in
set_option maxHeartbeats 1000000 in
theorem NewP_any {d l : Nat} (n : Int) (x : Bool) (hF : ∀ W, Gr w W → Calls Tryz.prog 67 #[.pointer (some ⟨l, 0, none⟩), .int .u64 0] W fun e w' => e = .returned (.int .i64 0) ∧ Gr W w')
    (hd : Dk w F (.pointer (some ⟨d, 0, none⟩)) s) (hs : 0 < s.ls.length) (h1 : 8 ≤ n) (h2 : n ≤ 4096) :
    Calls Tryz.prog 38 #[.pointer (some ⟨d, 0, none⟩), .pointer (some ⟨l, 0, none⟩), .int .i64 n, .bool x] w fun e w' => ∃ b m, e = .returned (.tuple #[.pointer (some ⟨b, 0, none⟩), .int .i64 0]) ∧
      PlAt w' b (.pointer (some ⟨d, 0, none⟩)) (.pointer (some ⟨l, 0, none⟩)) m 0 (fun _ => none) ⟨n, x, -1, fun _ => none⟩ ∧ w.heap.size ≤ b ∧ w.heap.size ≤ m ∧ Gr w w' := by
  have HF := Lib.hid hF
  have HS := Lib.hid (fun W (g : Gr w W) => Sectors_any W (hd.gr g))
  have e1 : decide (n < 8) = false := decide_eq_false (by omega)
  have e2 : decide ((4096 : Int) < n) = false := decide_eq_false (by omega)
  have e3 : ((s.ls.length : Int) == 0) = false := beq_eq_false_iff_ne.2 (by omega)
  obtain ⟨N, hN⟩ : ∃ N, N = s.ls.length := ⟨_, rfl⟩
  rw [← hN] at HS e3
  have hbl := fun m => built_pl (.pointer (some ⟨d, 0, none⟩)) (.pointer (some ⟨l, 0, none⟩)) n x m rfl rfl
  have hmm := @run_makeMap Tryz.prog
  clear hF hd hs hN
  go_enter Tryz.func38, Tryz.ntmps38
  go_wp2_with fail
  refine (HF.out _ (Gr.refl _)).mono ?_
  rintro e w1 ⟨rfl, g1⟩
  have HG := Lib.hid g1
  clear g1
  go_wp2_with fail
  refine (HS.out _ HG.out).mono ?_
  rintro e w2 ⟨rfl, rfl⟩
  go_wp2_with (refine wpList_build_pl rfl (.tmp 28) (.tmp 29) (.tmp 30) (.tmp 31) (.tmp 32) (.const (.int .i64 (-1))) rfl (pd := .pointer (some ⟨d, 0, none⟩)) (pl := .pointer (some ⟨l, 0, none⟩)) rfl rfl rfl rfl rfl rfl rfl rfl ?_)
  go_ret2
  have hb := Blk.new (w1.alloc (.map #[] 0)) TPl #[.pointer (some ⟨d, 0, none⟩), .pointer (some ⟨l, 0, none⟩), .int .i64 n, .bool x, .map (some w1.heap.size), .int .i64 (-1)]
  rw [World.size_alloc] at hb
  have g1 : Gr w1 (w1.alloc (.map #[] 0)) := Gr.new _ _
  have g2 := Gr.new (w1.alloc (.map #[] 0)) (.cells #[.pointer (some ⟨d, 0, none⟩), .pointer (some ⟨l, 0, none⟩), .int .i64 n, .bool x, .map (some w1.heap.size), .int .i64 (-1)] TPl)
  have g0 := HG.out.size
  refine ⟨w1.heap.size + 1, w1.heap.size, rfl, ⟨hb, Fm.made w1 _ (g2.block _ (by rw [World.size_alloc]; omega)), Nat.zero_le _, fun i => ⟨fun _ => rfl, fun _ => rfl⟩, fun i c h => by (cases h), fun i j c h => by (cases h), ⟨d, rfl⟩, ⟨l, rfl⟩⟩, by omega, by omega, Gr.trans HG.out (Gr.trans g1 g2)⟩
end
end Go.Proofs.YtaemmknijmhnoaaGreat

/-
  The code's pool: a page comes in, a page goes; a page in memory is used.
-/
namespace Go.Proofs.YtaemmknijmhnoaaGreat
open Go.RowKit Go.Maps

theorem Fm.store {w : World} {m n : Nat} {B : Nat → Option Nat} (h : Fm w m n B) (hn : n < maxLen) (i : Nat) (hi : i < 65536) (c : Nat) :
    ∃ w', (Instr.mapUpdate TPm (.map (some m)) (.int .i64 (i : Int)) (.pointer (some ⟨c, 0, none⟩))).run Tryz.prog w = .ok () w' ∧ Fm w' m (n + 1) (fun j => if j = i then some c else B j) ∧ w.grownBy w' (some m) := by
  obtain ⟨D, ho, hat, hhas, hkeys⟩ := h
  obtain ⟨w', hrun, ho2, ht⟩ := ho.store (t := TPm) (e := 87) (int_keyed Tryz.underlying3) Tryz.underlying78 hn (key := .int .i64 (i : Int)) (val := .pointer (some ⟨c, 0, none⟩)) (kl := key i)
    (keyOf_int_mk Tryz.underlying3 (WalkArith.wf_i64 (by omega))) (d := .held (.pointer (some ⟨c, 0, none⟩))) (ps := []) rfl
  refine ⟨w', hrun, ⟨_, ho2, fun j hj => ?_, fun j hj => ?_, fun k hk => ?_⟩, ht.grown⟩
  · by_cases hji : j = i
    · subst hji
      show _ = DataW.held (ptrB (if j = j then some c else B j))
      rw [if_pos rfl]
      exact atKey_put_same ho.isMap (key_lit j) _ _
    · show _ = DataW.held (ptrB (if j = i then some c else B j))
      rw [if_neg hji, atKey_put_other (fun e => hji (key_inj e))]
      exact hat j hj
  · by_cases hji : j = i
    · subst hji
      refine ⟨fun _ => ?_, fun _ => has_put_same ho.isMap (key_lit j) _⟩
      simp
    · rw [has_put_other (fun e => hji (key_inj e))]
      show _ ↔ (if j = i then some c else B j) ≠ none
      rw [if_neg hji]
      exact hhas j hj
  · by_cases hki : k = key i
    · exact ⟨i, hi, hki⟩
    · rw [has_put_other hki] at hk
      exact hkeys k hk
theorem Fm.drop {w : World} {m n : Nat} {B : Nat → Option Nat} (h : Fm w m n B) (i : Nat) (hi : i < 65536) (ty : TypeId) :
    ∃ w', (Builtin.delete_ #[TPm, TI] ty #[.map (some m), .int .i64 (i : Int)]).run Tryz.prog w = .ok (.tuple #[]) w' ∧ Fm w' m n (fun j => if j = i then none else B j) ∧ w.grownBy w' (some m) := by
  obtain ⟨D, ho, hat, hhas, hkeys⟩ := h
  obtain ⟨w', hrun, ho2, ht⟩ := ho.drop (t := TPm) (e := 87) (int_keyed Tryz.underlying3) Tryz.underlying78 (key := .int .i64 (i : Int)) (kl := key i)
    (keyOf_int_mk Tryz.underlying3 (WalkArith.wf_i64 (by omega))) ty
  refine ⟨w', hrun, ⟨_, ho2, fun j hj => ?_, fun j hj => ?_, fun k hk => ?_⟩, ht.grown⟩
  · by_cases hji : j = i
    · subst hji
      show _ = DataW.held (ptrB (if j = j then none else B j))
      rw [if_pos rfl]
      exact atKey_del_same _
    · show _ = DataW.held (ptrB (if j = i then none else B j))
      rw [if_neg hji, atKey_del_other (fun e => hji (key_inj e))]
      exact hat j hj
  · by_cases hji : j = i
    · subst hji
      rw [has_del_same]
      simp
    · rw [has_del_other (fun e => hji (key_inj e))]
      show _ ↔ (if j = i then none else B j) ≠ none
      rw [if_neg hji]
      exact hhas j hj
  · by_cases hki : k = key i
    · exact ⟨i, hi, hki⟩
    · rw [has_del_other hki] at hk
      exact hkeys k hk
/-- Page i is not in memory any more. -/
def Pl.gone (P : Pl) (i : Nat) : Pl := { P with fr := fun j => if j = i then none else P.fr j }
section
variable {w w' : World} {b m n : Nat} {pd pl : Value} {B : Nat → Option Nat} {P : Pl}
theorem PlAt.ne (h : PlAt w b pd pl m n B P) : b ≠ m := fun e => by
  obtain ⟨D, ⟨es, ck, h1, _⟩, _⟩ := h.map
  have h2 := h.blk
  unfold Blk at h2
  rw [e, h1] at h2
  cases h2
/-- A page comes in. -/
theorem PlAt.add (h : PlAt w b pd pl m n B P) (hn : n < 1000000000) {i c : Nat} {f : PFr} (hb : Blk w c TFr f.cells) (hf : f.In) (hc : ¬ plS b m B c) (hm : Fm w' m (n + 1) (fun j => if j = i then some c else B j)) (hg : w.grownBy w' (some m)) :
    PlAt w' b pd pl m (n + 1) (fun j => if j = i then some c else B j) (P.put i f) := by
  have ho : ∀ k, k < w.heap.size → k ≠ m → w'.heap[k]? = w.heap[k]? := fun k hk hkm => hg.block k hk fun e => hkm (by cases e; rfl)
  have hcm : c ≠ m := fun e => hc (.inr (.inl e))
  refine ⟨h.blk.stays (ho b h.blk.lt h.ne), hm, by omega, fun j => ?_, fun j d hj => ?_, fun j k d hj hk => ?_, h.dsk, h.lg⟩
  · show (if j = i then some c else B j) = none ↔ (if j = i then some f else P.fr j) = none
    by_cases hj : j = i
    · simp [hj]
    · rw [if_neg hj, if_neg hj]; exact h.has j
  · have hj' : (if j = i then some c else B j) = some d := hj
    show ∃ g, (if j = i then some f else P.fr j) = some g ∧ _
    by_cases hji : j = i
    · rw [if_pos hji] at hj' ⊢
      cases hj'
      exact ⟨f, rfl, hb.stays (ho c hb.lt hcm), hf⟩
    · rw [if_neg hji] at hj' ⊢
      obtain ⟨g, k1, k2, k3⟩ := h.frs j d hj'
      exact ⟨g, k1, k2.stays (ho d k2.lt (h.apart hj').2), k3⟩
  · have hj' : (if j = i then some c else B j) = some d := hj
    have hk' : (if k = i then some c else B k) = some d := hk
    by_cases hji : j = i
    · by_cases hki : k = i
      · rw [hji, hki]
      · rw [if_pos hji] at hj'
        rw [if_neg hki] at hk'
        cases hj'
        exact absurd (.inr (.inr ⟨k, hk'⟩)) hc
    · by_cases hki : k = i
      · rw [if_neg hji] at hj'
        rw [if_pos hki] at hk'
        cases hk'
        exact absurd (.inr (.inr ⟨j, hj'⟩)) hc
      · rw [if_neg hji] at hj'
        rw [if_neg hki] at hk'
        exact h.inj j k d hj' hk'
/-- A page goes. -/
theorem PlAt.drop (h : PlAt w b pd pl m n B P) {i : Nat} (hm : Fm w' m n (fun j => if j = i then none else B j)) (hg : w.grownBy w' (some m)) :
    PlAt w' b pd pl m n (fun j => if j = i then none else B j) (P.gone i) := by
  have ho : ∀ k, k < w.heap.size → k ≠ m → w'.heap[k]? = w.heap[k]? := fun k hk hkm => hg.block k hk fun e => hkm (by cases e; rfl)
  refine ⟨h.blk.stays (ho b h.blk.lt h.ne), hm, h.most, fun j => ?_, fun j d hj => ?_, fun j k d hj hk => ?_, h.dsk, h.lg⟩
  · show (if j = i then none else B j) = none ↔ (if j = i then none else P.fr j) = none
    by_cases hj : j = i
    · simp [hj]
    · rw [if_neg hj, if_neg hj]; exact h.has j
  · have hj' : (if j = i then none else B j) = some d := hj
    show ∃ g, (if j = i then none else P.fr j) = some g ∧ _
    by_cases hji : j = i
    · rw [if_pos hji] at hj'
      cases hj'
    · rw [if_neg hji] at hj' ⊢
      obtain ⟨g, k1, k2, k3⟩ := h.frs j d hj'
      exact ⟨g, k1, k2.stays (ho d k2.lt (h.apart hj').2), k3⟩
  · have hj' : (if j = i then none else B j) = some d := hj
    have hk' : (if k = i then none else B k) = some d := hk
    by_cases hji : j = i
    · rw [if_pos hji] at hj'
      cases hj'
    · by_cases hki : k = i
      · rw [if_pos hki] at hk'
        cases hk'
      · rw [if_neg hji] at hj'
        rw [if_neg hki] at hk'
        exact h.inj j k d hj' hk'
/-- A page in memory is used. -/
def Pl.use (P : Pl) (i : Nat) (f : PFr) : Pl := P.put i { f with used := true }
set_option maxRecDepth 100000 in
set_option maxHeartbeats 1000000 in
theorem use_in (h : PlAt w b pd pl m n B P) {i c : Nat} {f : PFr} (hi : i < 65536) (hB : B i = some c) (hf : P.fr i = some f) : Calls Tryz.prog 41 #[.pointer (some ⟨b, 0, none⟩), .int .i64 (i : Int)] w fun e w' => e = .returned (.tuple #[.pointer (some ⟨c, 0, none⟩), .int .i64 0]) ∧
    PlAt w' b pd pl m n B (P.use i f) ∧ FrOnly B w w' := by
  have c4 := h.c6.2.2.2.2.1
  have hl := h.map.look i hi
  rw [hB] at hl
  have hl2 : (Instr.lookup TPm (.map (some m)) (.int .i64 (i : Int)) false).run Tryz.prog w = .ok (.pointer (some ⟨c, 0, none⟩)) w := hl
  obtain ⟨g, h1, h2, h3⟩ := h.frs i c hB
  rw [hf] at h1
  cases h1
  have k4 := (PFr.c4 h2).2.2.2
  have f4 := h2.frozen 251
  have HT : Hid (PlAt (w.setCell ⟨c, 251, none⟩ (.bool true)) b pd pl m n B (P.use i f) ∧ FrOnly B w (w.setCell ⟨c, 251, none⟩ (.bool true))) := Lib.hid
    ⟨h.turn hB (h3.use true) (by rw [← PFr.setUsed]; exact h2.set 251 (.bool true)) (fun j hj => Below.heap_setCell w _ _ j hj), FrOnly.cell hB w _ _⟩
  clear h hl hB hf h2 h3
  go_enter Tryz.func41, Tryz.ntmps41
  go_wp2
  go_ret2
  exact ⟨rfl, HT.out.1, HT.out.2⟩
end
end Go.Proofs.YtaemmknijmhnoaaGreat

