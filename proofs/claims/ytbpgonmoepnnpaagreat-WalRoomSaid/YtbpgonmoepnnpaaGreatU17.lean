/-
  Part 17 of what the laws of stage 6 rest on: contracts of the functions that they call, and what these rest on.
-/
import Derived.Test.YtbpgonmoepnnpaaGreatU2
import Derived.Test.YtbpgonmoepnnpaaGreatU10
import Derived.Test.YtbpgonmoepnnpaaGreatU15
import Derived.Test.YtbpgonmoepnnpaaGreatU1
set_option linter.unusedVariables false
set_option linter.unusedSimpArgs false
namespace Go.Proofs.YtbpgonmoepnnpaaGreat
open Go.ChangeShapes Go.WideShapes Go.ChangeAt Go.RowKit Go.Maps
abbrev TAw : TypeId := 36
structure WDo where
 kind : Int
 n : Int
 z : RX
 q : Option Addr
 m : Nat
 c : Nat
 picks : List Int
 byt : Int
def WDo.cells (a : WDo) : List Value := [.int .i64 a.kind, .int .i64 a.n, .int .i64 a.z.c.k, .int .u64 a.z.c.t, .int .u64 a.z.c.p, .int .u64 a.z.c.x, .int .i64 a.z.c.g, .int .i64 a.z.c.o, .slice a.z.pb a.z.nb a.z.cb, .slice a.z.pa a.z.na a.z.ca, .slice a.q a.m a.c, .int .u8 a.byt]
structure WDo.In (w : World) (a : WDo) : Prop where
 xb : Byt w a.z.pb a.z.nb a.z.cb a.z.c.b
 xa : Byt w a.z.pa a.z.na a.z.ca a.z.c.a
 ri : a.z.c.In
 pk : Nums w a.q a.m a.c a.picks
 k0 : -9223372036854775808 ≤ a.kind
 k1 : a.kind ≤ 9223372036854775807
 n0 : -9223372036854775808 ≤ a.n
 n1 : a.n ≤ 9223372036854775807
 b0 : 0 ≤ a.byt
 b1 : a.byt < 256
theorem WDo.In.gr {w w' : World} {a : WDo} (h : a.In w) (g : Gr w w') : a.In w' := ⟨h.xb.kept g, h.xa.kept g, h.ri, h.pk.gr g, h.k0, h.k1, h.n0, h.n1, h.b0, h.b1⟩
structure WActs (w : World) (p : Option Addr) (n c : Nat) : Prop where
 cap : n ≤ c
 most : c ≤ maxLen
 lies : 0 < n → ∃ b o, p = some ⟨b, o, none⟩ ∧ ∀ i, i < n → ∃ a : WDo, (∀ j v, a.cells[j]? = some v → w.cell? ⟨b, o + i * 12 + j, none⟩ = some v) ∧ a.In w
theorem WActs.row {w : World} {p : Option Addr} {n c : Nat} (h : WActs w p n c) (k : Nat) (hk : k < n) : ∃ b o a, p = some ⟨b, o, none⟩ ∧ ∀ V, Gr w V → (∀ j v, (WDo.cells a)[j]? = some v → V.cell? ⟨b, o + k * 12 + j, none⟩ = some v) ∧ a.In V := by
 obtain ⟨b, o, rfl, hc⟩ := h.lies (by omega); obtain ⟨a, h1, h2⟩ := hc k hk; exact ⟨b, o, a, rfl, fun V g => ⟨fun j v hv => by rw [g.cell (World.block_lt_of_cell? w _ (h1 j v hv))]; exact h1 j v hv, h2.gr g⟩⟩
set_option maxRecDepth 100000 in
theorem openWActs {H : Type} {enc : TypeId × Value → H} {W : World} {a : Option Addr} {len cap : Nat} {d : DataW H} {p : List MemPlace}
  (h : DataW.Trod enc Tryz.prog W 0 (fun _ => true) true 22 (.slice a len cap) d p) : WActs W a len cap := by
 obtain ⟨fuel, hf⟩ := h
 have hc : Tryz.prog.cellsOf TAw = 12 := by kernel_rfl
 have hc1 : Tryz.prog.cellsOf 3 = 1 := by kernel_rfl
 have hc2 : Tryz.prog.cellsOf 5 = 1 := by kernel_rfl
 have hc3 : Tryz.prog.cellsOf 34 = 1 := by kernel_rfl
 have hc4 : Tryz.prog.cellsOf 33 = 8 := by kernel_rfl
 rcases Go.Deep.open_slice Tryz.underlying22 hf with ⟨hcs, _⟩ | ⟨x, l, c, m, n, D, Pl, hcs, _, hl, hm, hmm, _, hx⟩
 ·
  simp [Value.cells] at hcs
  obtain ⟨rfl, rfl, rfl⟩ := hcs; exact ⟨Nat.le_refl _, Nat.zero_le _, fun h => absurd h (Nat.lt_irrefl 0)⟩
 ·
  simp [Value.cells] at hcs
  obtain ⟨rfl, rfl, rfl⟩ := hcs
  simp only [if_true] at hmm
  subst hmm; have hc' : Tryz.prog.cellsOf 36 = 12 := hc
  rw [hc'] at hx
  have each : ∀ i, i < len → ∃ g : WDo, (∀ j v, g.cells[j]? = some v → W.cell? ((x.add (i * 12)).add j) = some v) ∧ g.In W := fun i hi => by
   obtain ⟨cs, h1, h2⟩ := hx i (by omega); obtain ⟨_, hlen, hcells⟩ := World.cells?_some h1; obtain ⟨xs, k, _, _, _, hlx, hff⟩ := DataW.trod_struct Tryz.underlying36 h2
   match xs, hlx with
   | [y0, y1, y2, y3, y4], _ =>
    match cs, hlen with
    | [c0, c1, r0, r1, r2, r3, r4, r5, r6, r7, c10, c11], _ =>
     have t0 := hff 0 _ rfl; have t1 := hff 1 _ rfl; have t2 := hff 2 _ rfl; have t3 := hff 3 _ rfl; have t4 := hff 4 _ rfl
     simp [hc1] at t0
     simp [hc1] at t1
     simp [hc4] at t2
     simp [hc3] at t3
     simp [hc2] at t4
     obtain ⟨K, e0, _, w0⟩ := DataW.trod_int Tryz.underlying3 t0; obtain ⟨I, e1, _, w1⟩ := DataW.trod_int Tryz.underlying3 t1; obtain ⟨Y, e4, _, w4⟩ := DataW.trod_int Tryz.underlying5 t4
     simp at e0 e1 e4
     subst e0 e1 e4; obtain ⟨rc, pb, nb, cb, pa, na, ca, hrl, hb, ha, hin⟩ := openRecL (by rfl) t2
     simp only [List.cons.injEq, and_true] at hrl
     obtain ⟨rfl, rfl, rfl, rfl, rfl, rfl, rfl, rfl⟩ := hrl
     obtain ⟨q, mm, kk, zs, e3, hz⟩ : ∃ q mm kk zs, c10 = Value.slice q mm kk ∧ Nums W q mm kk zs := by
      have tt := t3
      rcases Go.Deep.open_slice Tryz.underlying34 t3 with ⟨h5, _⟩ | ⟨a5, l5, c5, _, _, _, _, h5, _⟩
      ·
       simp at h5
       subst h5; exact ⟨none, 0, 0, [], rfl, Nums.nil W⟩
      ·
       simp at h5
       subst h5; obtain ⟨zs, hz⟩ := openNums (P := Tryz.prog) (t := 34) Tryz.underlying34 Tryz.underlying3 hc1 (W := W) (base := 0) (a := some a5) (len := l5) (cap := c5) (enc := enc) (d := y3.1) (p := y3.2) ⟨_, by simpa [Value.cells] using tt⟩; exact ⟨_, _, _, zs, rfl, hz⟩
     subst e3; have b0 := i64Of w0; have b1 := i64Of w1; have b3 := byteOf w4; refine ⟨⟨K, I, ⟨0, rc, pb, nb, cb, pa, na, ca⟩, q, mm, kk, zs, Y⟩, fun j v hj => ?_, hb, ha, hin, hz, b0.1, b0.2, b1.1, b1.2, b3.1, b3.2⟩
     have hlt : j < 12 := by have := (List.getElem?_eq_some_iff.1 hj).1; simpa [WDo.cells] using this
     rw [hcells j (by omega)]; exact hj
  refine ⟨hl, hm, fun hn => ?_⟩; obtain ⟨z0, hz0, _⟩ := each 0 hn; have hc0 := hz0 0 _ rfl; obtain ⟨b, o, sp⟩ := x
  obtain rfl : sp = none := by simpa [Addr.add] using World.cell?_spot hc0
  refine ⟨b, o, rfl, fun i hi => ?_⟩; obtain ⟨z, hz, hin⟩ := each i hi; refine ⟨z, fun j v hj => ?_, hin⟩; have := hz j v hj
  simpa only [Go.WideShapes.add_plain] using this
end Go.Proofs.YtbpgonmoepnnpaaGreat
namespace Go.Proofs.YtbpgonmoepnnpaaGreat
open Go.RowKit Go.Maps
def WRow (V : World) (b A : Nat) (a : WDo) : Prop :=
 V.cell? ⟨b, A, none⟩ = some (.int .i64 a.kind) ∧ V.cell? ⟨b, A + 1, none⟩ = some (.int .i64 a.n) ∧ (V.cell? ⟨b, A + 2, none⟩ = some (.int .i64 a.z.c.k) ∧ V.cell? ⟨b, A + 2 + 1, none⟩ = some (.int .u64 a.z.c.t) ∧ V.cell? ⟨b, A + 2 + 2, none⟩ = some (.int .u64 a.z.c.p) ∧ V.cell? ⟨b, A + 2 + 3, none⟩ = some (.int .u64 a.z.c.x) ∧ V.cell? ⟨b, A + 2 + 4, none⟩ = some (.int .i64 a.z.c.g) ∧ V.cell? ⟨b, A + 2 + 5, none⟩ = some (.int .i64 a.z.c.o) ∧ V.cell? ⟨b, A + 2 + 6, none⟩ = some (.slice a.z.pb a.z.nb a.z.cb) ∧ V.cell? ⟨b, A + 2 + 7, none⟩ = some (.slice a.z.pa a.z.na a.z.ca)) ∧ V.cell? ⟨b, A + 10, none⟩ = some (.slice a.q a.m a.c) ∧ V.cell? ⟨b, A + 11, none⟩ = some (.int .u8 a.byt)
def WActsF (w : World) (p : Option Addr) (n : Nat) (f : Nat → WDo) : Prop := n ≤ 9223372036854775807 ∧ ∀ k, k < n → ∃ b o, p = some ⟨b, o, none⟩ ∧ ∀ V, Gr w V → WRow V b (o + k * 12) (f k) ∧ (f k).In V
theorem WActs.chosen {w : World} {p : Option Addr} {n c : Nat} (h : WActs w p n c) : ∃ f, WActsF w p n f := by
 have h1 : ∀ k, ∃ a : WDo, k < n → ∃ b o, p = some ⟨b, o, none⟩ ∧ ∀ V, Gr w V → WRow V b (o + k * 12) a ∧ a.In V := fun k => by
  by_cases hk : k < n
  · obtain ⟨b, o, a, e, hr⟩ := h.row k hk; refine ⟨a, fun _ => ⟨b, o, e, fun V g => ⟨?_, (hr V g).2⟩⟩⟩; have hc := (hr V g).1; exact ⟨hc 0 _ rfl, hc 1 _ rfl, ⟨hc 2 _ rfl, hc 3 _ rfl, hc 4 _ rfl, hc 5 _ rfl, hc 6 _ rfl, hc 7 _ rfl, hc 8 _ rfl, hc 9 _ rfl⟩, hc 10 _ rfl, hc 11 _ rfl⟩
  · exact ⟨⟨0, 0, ⟨0, ⟨0, 0, 0, 0, 0, 0, [], []⟩, none, 0, 0, none, 0, 0⟩, none, 0, 0, [], 0⟩, fun e => absurd e hk⟩
 obtain ⟨f, hf⟩ := Classical.axiomOfChoice h1; refine ⟨f, ?_, hf⟩; have h2 := h.cap; have h3 := h.most
 unfold maxLen at h3
 omega
def Mild (f : Nat → WDo) (n : Nat) : Prop := ∀ k, k < n → muchR (f k).z.nb (f k).z.na = false ∧ (f k).m ≤ 100
def RetMuch (f : Nat → WDo) (n : Nat) (w : World) (e : Ending) (w' : World) : Prop := ∃ B, e = .returned (.bool B) ∧ Gr w w' ∧ (B = false → n ≤ 80 ∧ Mild f n)
set_option maxRecDepth 100000 in
set_option maxHeartbeats 1000000 in
theorem wmuch_any (p : Option Addr) (n c : Nat) (f : Nat → WDo) (w : World) (h : WActsF w p n f) : Calls Tryz.prog 8 #[.slice p n c] w (RetMuch f n w) := by
 have HA := Lib.hid h; have hmost := h.1; clear h
 go_enter Tryz.func8, Tryz.ntmps8
 go_wp2_with fail
 go_loopw [3] (fun iv wr => ∃ k : Nat, k ≤ n ∧ iv = .int .i64 (k : Int) ∧ Hid (Gr w wr ∧ Mild f k)) (fun iv _ => n - (intOf iv).toNat)
 case atStart => exact ⟨0, Nat.zero_le _, rfl, Lib.hid ⟨Gr.refl _, fun k h => absurd h (Nat.not_lt_zero k)⟩⟩
 case round =>
  obtain ⟨k, hk, rfl, HG⟩ := hrel
  by_cases hlt : k < n
  ·
   have g3 : (k : Int) < (n : Int) := by omega
   obtain ⟨b, o, rfl, hrow⟩ := HA.out.2 k hlt; obtain ⟨x0, x1, ⟨y0, y1, y2, y3, y4, y5, y6, y7⟩, x10, x11⟩ := (hrow wr HG.out.1).1; have HRow := Lib.hid hrow; have HMe : Hid (k + 1 ≤ n ∧ n - (k + 1) < n - k) := Lib.hid ⟨by omega, by omega⟩
   have hq : IntKind.i64.wrap ((k : Int) + 1) = ((k + 1 : Nat) : Int) := by rw [IntWalk.i64_in _ (by omega)]; omega
   obtain ⟨a, ha⟩ : ∃ a, a = f k := ⟨_, rfl⟩; have HFa := Lib.hid ha
   simp only [← ha] at y0 y1 y2 y3 y4 y5 y6 y7 x10
   clear hrow hlt hk x0 x1 x11 ha; go_wp2_with fail; refine (refMuch_any a.z.c.k a.z.c.t a.z.c.p a.z.c.x a.z.c.g a.z.c.o a.z.pb a.z.nb a.z.cb a.z.pa a.z.na a.z.ca wr).mono ?_; rintro e w2 ⟨rfl, g2⟩; have HG2 := Lib.hid (Gr.trans HG.out.1 g2); have x10' := (HRow.out w2 HG2.out).1.2.2.2.1
   rw [← HFa.out] at x10'
   clear g2 y0 y1 y2 y3 y4 y5 y6 y7 x10
   cases hmu : muchR a.z.nb a.z.na with
   | true =>
    clear hmu; go_wp2_with fail
    go_ret
    exact ⟨true, rfl, HG2.out, fun h => by cases h⟩
   | false =>
    have HMu := Lib.hid hmu; clear hmu
    by_cases hm : 100 < a.m
    ·
     have hd : decide ((100 : Int) < (a.m : Int)) = true := decide_eq_true (by omega); clear hm; go_wp2_with fail
     go_ret
     exact ⟨true, rfl, HG2.out, fun h => by cases h⟩
    ·
     have hd : decide ((100 : Int) < (a.m : Int)) = false := decide_eq_false (by omega)
     have HMi : Hid (Mild f (k + 1)) := Lib.hid fun j hj => by
      by_cases e : j = k
      · subst e; rw [← HFa.out]; exact ⟨HMu.out, by omega⟩
      · exact HG.out.2 j (by omega)
     clear hm; go_wp2_with fail
     go_roundw
     case rel => exact ⟨k + 1, HMe.out.1, rfl, Lib.hid ⟨HG2.out, HMi.out⟩⟩
     case measure => exact HMe.out.2
  ·
   obtain rfl : k = n := by omega
   have g3 : ¬ (k : Int) < (k : Int) := by omega
   by_cases h80 : 80 < k
   ·
    have hd : decide ((80 : Int) < (k : Int)) = true := decide_eq_true (by omega); clear hlt hk h80; go_wp2_with fail
    go_ret
    exact ⟨true, rfl, HG.out.1, fun h => by cases h⟩
   ·
    have hd : decide ((80 : Int) < (k : Int)) = false := decide_eq_false (by omega); have HL : Hid (k ≤ 80) := Lib.hid (by omega); clear hlt hk h80; go_wp2_with fail
    go_ret
    exact ⟨false, rfl, HG.out.1, fun _ => ⟨HL.out, HG.out.2⟩⟩
end Go.Proofs.YtbpgonmoepnnpaaGreat
namespace Go.Proofs.YtbpgonmoepnnpaaGreat
open Go.RowKit Go.Maps
structure RmK (j rem : Nat) (s : St) (L : Lg) : Prop where
 ok : L.Ok
 l : L.l = 16
 tail : L.tail = 0
 rsv : L.rsv = 37 * (rem : Int)
 room : (L.fin : Int) + L.rsv ≤ 3480
 al : s.Alive
 len : s.ls.length = 64
 wr : s.writes ≤ 500 * j
 less : ∀ i, (s.t i).length ≤ s.writes
section
variable {j rem : Nat} {s : St} {L : Lg}
theorem RmK.fits (h : RmK j rem s L) : L.Fits := .inr (by
 have := h.room; rw [h.tail, h.l]
 omega)
theorem RmK.free (h : RmK j rem s L) : L.free = 3480 - (L.fin : Int) - L.rsv := by
 have := h.room
 show freeR L.l L.rsv L.tail L.fin = _
 unfold freeR
 rw [h.tail, h.l]
 omega
theorem RmK.more (h : RmK j rem s L) : RmK (j + 1) rem s L := ⟨h.ok, h.l, h.tail, h.rsv, h.room, h.al, h.len, by have := h.wr; omega, h.less⟩
theorem RmK.app (h : RmK j rem s L) (r : Rc) : RmK (j + 1) rem s (layL L r L.free) := by
 by_cases he : layE r L.free = 0
 ·
  have hf := (layL_free h.ok r he).2
  have hl : layL L r L.free = L.more (recL r L.fin) := by unfold layL; rw [if_pos he]
  have hfr := h.free; have h0 := h.room; have h9 := h.rsv; refine ⟨append_ok h.ok r (by omega), by rw [layL_l]; exact h.l, by rw [hl]; exact h.tail, by rw [hl]; exact h.rsv, ?_, h.al, h.len, by have := h.wr; omega, h.less⟩
  rcases layE_cases r L.free with h1 | h1 | ⟨_, h2, h3⟩
  · rw [he] at h1; cases h1
  · rw [he] at h1; cases h1
  ·
   have hz := sizeR_may h2
   have hr : (layL L r L.free).rsv = L.rsv := by rw [hl]; rfl
   rw [hf, hr]
   omega
 · rw [layL_same he]; exact h.more
theorem RmK.fl (h : RmK j rem s L) : RmK (j + 1) rem (flS s L L.fin) (flL s L L.fin) := by
 have hw := flS_stw (s := s) h.ok h.less L.fin; have hl := flL_facts (s := s) h.ok L.fin; exact ⟨hl.1, by rw [hl.2.l]; exact h.l, by rw [hl.2.tail]; exact h.tail, by rw [hl.2.rsv]; exact h.rsv, by rw [hl.2.fin, hl.2.rsv]; exact h.room, (fl_alive h.al h.ok).1, by rw [hw.len]; exact h.len, by have := hw.wr; have := h.wr; omega, hw.less⟩
theorem RmK.uses (h : RmK j (rem + 1) s L) {r : Rc} (hm : mayR r = true) (hs : sizeR r = 37) : layE r L.rsv = 0 ∧ RmK j rem s (useL L r) ∧ (layL L r L.rsv).Ok := by
 have hz := sizeR_may hm; have hr := h.rsv; have h0 := h.room
 have he : layE r L.rsv = 0 := by unfold layE; rw [if_pos hm, if_neg (by omega)]
 have hu := use_ok h.ok h.fits r (by omega)
 have hu1 : useL L r = relL (layL L r L.rsv) ((35 + r.b.length + r.a.length : Nat) : Int) := by unfold useL; rw [if_pos he]
 have hl : layL L r L.rsv = L.more (recL r L.fin) := by unfold layL; rw [if_pos he]
 have hrel : relL (L.more (recL r L.fin)) ((35 + r.b.length + r.a.length : Nat) : Int) = { L.more (recL r L.fin) with rsv := L.rsv - 37 } := by
  unfold relL
  rw [if_neg (by omega)]
  have : min ((35 + r.b.length + r.a.length : Nat) : Int) (L.more (recL r L.fin)).rsv = 37 := by
   show min ((35 + r.b.length + r.a.length : Nat) : Int) L.rsv = 37
   omega
  rw [this]
  rfl
 rw [hl, hrel] at hu1
 refine ⟨he, ⟨hu.1, by rw [hu1]; exact h.l, by rw [hu1]; exact h.tail, by rw [hu1]; show L.rsv - 37 = _; omega, ?_, h.al, h.len, h.wr, h.less⟩, lay_rsv_ok h.ok h.fits r (by omega)⟩
 have hf : (useL L r).fin = L.fin + (35 + r.b.length + r.a.length) := by rw [hu1]; exact more_fin L r
 have hv : (useL L r).rsv = L.rsv - 37 := by rw [hu1]
 rw [hf, hv]
 omega
end
set_option maxRecDepth 100000 in
set_option maxHeartbeats 4000000 in
theorem walRoom_main (p : Option Addr) (n c : Nat) (f : Nat → WDo) (K : Nat) (w : World) (hA : WActsF w p n f) (hK : K ≤ 2000) :
  Calls Tryz.prog 4 #[.slice p n c, .int .i64 (K : Int)] w (RetB true w) := by
 have HA := Lib.hid hA; have HMu := Lib.hid (wmuch_any p n c f w hA); obtain ⟨r9, hr9⟩ : ∃ r, r = noteR 9 1 := ⟨_, rfl⟩
 have HNo : Hid (∀ V, Calls Tryz.prog 13 #[.int .u64 9, .int .i64 1] V (RetNote r9 V)) := Lib.hid fun V => by rw [hr9]; exact note_any 9 1 V (by decide) (by decide)
 have HI : Hid (r9.In ∧ sizeR r9 = 37 ∧ mayR r9 = true ∧ r9.b.length = 1 ∧ r9.a.length = 1) := Lib.hid (by
  have hm := noteR_may 9 1 (by decide) (by decide) (by decide); rw [hr9]
  exact ⟨noteR_in _ _ (by decide), by rw [sizeR_may hm, (noteR_b 9 1).1, (noteR_b 9 1).2], hm, (noteR_b 9 1).1, (noteR_b 9 1).2⟩)
 obtain ⟨L2, hL2⟩ : ∃ L, L = newL 64 16 1 1 0 := ⟨_, rfl⟩; have HBg : Hid (∀ V, Calls Tryz.prog 10 #[] V (fun e w' => ∃ bp S T pd pw pl pm, e = .returned (.tuple #[.pointer (some ⟨bp, 0, none⟩), .bool true]) ∧ PrB V w' bp S T pd pw pl pm zeroD L2 zeroD L2 20000)) := Lib.hid (by rw [hL2]; exact begin_any)
 have HL0 : Hid (L2.Ok ∧ L2.free = 3480 ∧ (K * 37 ≤ 3480 → RmK 0 K zeroD (rsvL L2 ((K * 37 : Nat) : Int)))) := Lib.hid (by
  have h1 : L2.Ok := by rw [hL2]; exact newL_ok.1
  have h2 : L2.free = 3480 := by rw [hL2]; decide
  refine ⟨h1, h2, fun h => ?_⟩
  have e : rsvL L2 ((K * 37 : Nat) : Int) = { L2 with rsv := L2.rsv + ((K * 37 : Nat) : Int) } := by unfold rsvL; rw [if_neg (by omega), if_neg (by omega)]
  refine ⟨(rsvL_ok h1 _).1, by rw [e, hL2]; rfl, by rw [e, hL2]; rfl, ?_, ?_, zeroD_alive, by simp [zeroD, fresh], by simp [zeroD, fresh], zeroD_less⟩
  · rw [e, hL2]; show 0 + ((K * 37 : Nat) : Int) = _; omega
  ·
   have hf : (rsvL L2 ((K * 37 : Nat) : Int)).fin = 0 := by rw [(rsvL_ok h1 _).2, hL2]; rfl
   have hv : (rsvL L2 ((K * 37 : Nat) : Int)).rsv = ((K * 37 : Nat) : Int) := by rw [e, hL2]; show 0 + ((K * 37 : Nat) : Int) = _; omega
   rw [hf, hv]
   omega)
 have k0 : decide ((K : Int) < 0) = false := decide_eq_false (by omega); have k1 : decide ((2000 : Int) < (K : Int)) = false := decide_eq_false (by omega); have HKk := Lib.hid hK; clear hr9 hL2 hA hK
 go_enter Tryz.func4, Tryz.ntmps4
 go_wp2_with fail; refine HMu.out.mono ?_; rintro e wa ⟨B, rfl, ga, hB⟩; have HGa := Lib.hid ga; clear ga
 cases B
 rotate_left
 ·
  clear hB; go_wp2_with fail; refine (wknown_any wa).mono ?_; rintro e w7 ⟨rfl, g7⟩; go_wp2_with fail
  go_ret
  exact ⟨rfl, Gr.trans HGa.out g7⟩
 have HKn : Hid (K ≤ 2000 ∧ n ≤ 80) := Lib.hid ⟨HKk.out, (hB rfl).1⟩; clear hB; go_wp2_with fail; refine (HBg.out wa).mono ?_; rintro e w1 ⟨bp, S, T, pd, pw, pl, pm, rfl, hp⟩; obtain ⟨⟨lb, rfl⟩, _⟩ := hp.code.ptr; have HP1 := Lib.hid (PrB.base hp HGa.out); clear hp HBg k0 k1; go_wp2_with fail; refine (HNo.out w1).mono ?_; rintro e w2 ⟨v, rfl, hv, g2⟩; obtain ⟨pb9, nb9, cb9, pa9, na9, ca9, rfl, b1, a1, lb1, la1⟩ := hv.at2 (by rw [HI.out.2.2.2.1]; decide) (by rw [HI.out.2.2.2.2]; decide); have HR9 := Lib.hid (And.intro b1 (And.intro a1 (And.intro lb1 la1))); have HG2 := Lib.hid g2; clear hv b1 a1 lb1 la1 g2 HNo; have HTh := Lib.hid (Blk.new w2 TR zrec); have hx8 : (((w2.alloc (.cells #[.int .i64 0, .int .u64 0, .int .u64 0, .int .u64 0, .int .i64 0, .int .i64 0, .slice none 0 0, .slice none 0 0] TR)).setRow w2.heap.size (rcv r9 pb9 nb9 cb9 pa9 na9 ca9)).cell? ⟨w2.heap.size, 0, none⟩ = some (.int .i64 r9.k) ∧ ((w2.alloc (.cells #[.int .i64 0, .int .u64 0, .int .u64 0, .int .u64 0, .int .i64 0, .int .i64 0, .slice none 0 0, .slice none 0 0] TR)).setRow w2.heap.size (rcv r9 pb9 nb9 cb9 pa9 na9 ca9)).cell? ⟨w2.heap.size, 1, none⟩ = some (.int .u64 (r9.t : Int)) ∧ ((w2.alloc (.cells #[.int .i64 0, .int .u64 0, .int .u64 0, .int .u64 0, .int .i64 0, .int .i64 0, .slice none 0 0, .slice none 0 0] TR)).setRow w2.heap.size (rcv r9 pb9 nb9 cb9 pa9 na9 ca9)).cell? ⟨w2.heap.size, 2, none⟩ = some (.int .u64 (r9.p : Int)) ∧ ((w2.alloc (.cells #[.int .i64 0, .int .u64 0, .int .u64 0, .int .u64 0, .int .i64 0, .int .i64 0, .slice none 0 0, .slice none 0 0] TR)).setRow w2.heap.size (rcv r9 pb9 nb9 cb9 pa9 na9 ca9)).cell? ⟨w2.heap.size, 3, none⟩ = some (.int .u64 (r9.x : Int)) ∧ ((w2.alloc (.cells #[.int .i64 0, .int .u64 0, .int .u64 0, .int .u64 0, .int .i64 0, .int .i64 0, .slice none 0 0, .slice none 0 0] TR)).setRow w2.heap.size (rcv r9 pb9 nb9 cb9 pa9 na9 ca9)).cell? ⟨w2.heap.size, 4, none⟩ = some (.int .i64 r9.g) ∧ ((w2.alloc (.cells #[.int .i64 0, .int .u64 0, .int .u64 0, .int .u64 0, .int .i64 0, .int .i64 0, .slice none 0 0, .slice none 0 0] TR)).setRow w2.heap.size (rcv r9 pb9 nb9 cb9 pa9 na9 ca9)).cell? ⟨w2.heap.size, 5, none⟩ = some (.int .i64 r9.o) ∧ ((w2.alloc (.cells #[.int .i64 0, .int .u64 0, .int .u64 0, .int .u64 0, .int .i64 0, .int .i64 0, .slice none 0 0, .slice none 0 0] TR)).setRow w2.heap.size (rcv r9 pb9 nb9 cb9 pa9 na9 ca9)).cell? ⟨w2.heap.size, 6, none⟩ = some (.slice pb9 nb9 cb9) ∧ ((w2.alloc (.cells #[.int .i64 0, .int .u64 0, .int .u64 0, .int .u64 0, .int .i64 0, .int .i64 0, .slice none 0 0, .slice none 0 0] TR)).setRow w2.heap.size (rcv r9 pb9 nb9 cb9 pa9 na9 ca9)).cell? ⟨w2.heap.size, 7, none⟩ = some (.slice pa9 na9 ca9)) := (HTh.out.row (rcv r9 pb9 nb9 cb9 pa9 na9 ca9)).c8; obtain ⟨x0, x1, x2, x3, x4, x5, x6, x7⟩ := hx8
 go_wp2_with (refine wpList_store_rc rfl (.tmp 7) (.tmp 34) rfl (g := w2.heap.size) (r := r9) (pb := pb9) (nb := nb9) (cb := cb9) (pa := pa9) (na := na9) (ca := ca9) ?hb ?hx ?hy ?_)
 all_goals try (first | exact HTh.out | with_reducible_and_instances rfl | rfl)
 obtain ⟨W5, hW5⟩ : ∃ W5, W5 = ((w2.alloc (.cells zrec TR)).setRow w2.heap.size (rcv r9 pb9 nb9 cb9 pa9 na9 ca9)) := ⟨_, rfl⟩; have hW5' : ((w2.alloc (.cells #[.int .i64 0, .int .u64 0, .int .u64 0, .int .u64 0, .int .i64 0, .int .i64 0, .slice none 0 0, .slice none 0 0] TR)).setRow w2.heap.size (rcv r9 pb9 nb9 cb9 pa9 na9 ca9)) = W5 := hW5.symm; rw [hW5']
 have hb5 : Blk W5 w2.heap.size TR (rcv r9 pb9 nb9 cb9 pa9 na9 ca9) := by rw [hW5]; exact HTh.out.row _
 have hg5 : Gr w2 W5 := by rw [hW5]; exact below_setRow (Gr.new _ _) (Nat.le_refl _) _
 have hs5 : W5.heap.size = w2.heap.size + 1 := by rw [hW5, (Only.row _ _ _).size]; simp
 obtain ⟨B9, hB9⟩ : ∃ B, B = w2.heap.size := ⟨_, rfl⟩; have hs2 := HG2.out.size
 have hra : RcAt W5 w1.heap.size W5.heap.size B9 r9 pb9 nb9 cb9 pa9 na9 ca9 :=
  ⟨by rw [hB9]; exact hb5, HR9.out.1.kept hg5, HR9.out.2.1.kept hg5, by omega, fun y hy => by have := HR9.out.2.2.1 y hy; omega, fun y hy => by have := HR9.out.2.2.2 y hy; omega⟩
 have HA9 : Hid (∀ V, (∀ j, w1.heap.size ≤ j → j < W5.heap.size → V.heap[j]? = W5.heap[j]?) → RcAt V w1.heap.size W5.heap.size B9 r9 pb9 nb9 cb9 pa9 na9 ca9) := Lib.hid fun V h => hra.stays h
 have HK0 : Hid (PrK w W5 W5 w1.heap.size bp S T pd pw (.pointer (some ⟨lb, 0, none⟩)) pm zeroD L2 zeroD L2 20000) := Lib.hid (PrK.start HP1.out (Gr.trans HG2.out hg5)); rw [← hB9]; clear hra hs2 hs5 hg5 hb5 hW5 hW5' hB9 HTh HG2 HR9 HP1 x0 x1 x2 x3 x4 x5 x6 x7
 have HSz : Hid (Calls Tryz.prog 14 #[.agg #[.int .i64 r9.k, .int .u64 (r9.t : Int), .int .u64 (r9.p : Int), .int .u64 (r9.x : Int), .int .i64 r9.g, .int .i64 r9.o, .slice pb9 nb9 cb9, .slice pa9 na9 ca9]] W5 (RetI 37 W5)) := Lib.hid (by
  have hr := HA9.out W5 HK0.out.keep; have h := refSize_any r9 pb9 nb9 cb9 pa9 na9 ca9 W5 hr.xb hr.xa
  rw [HI.out.2.1] at h
  exact h)
 refine HSz.out.mono ?_; rintro e W6 ⟨rfl, g6⟩; have HK := Lib.hid (HK0.out.up g6); clear g6 HSz HK0; have hc2 := HK.out.pr.blk.cell 2
 simp at hc2
 obtain ⟨R, hR⟩ : ∃ R, R = K * 37 := ⟨_, rfl⟩
 have hq0 : IntKind.i64.wrap ((K : Int) * 37) = (R : Int) := by have := HKn.out; rw [IntWalk.i64_in _ (by omega)]; omega
 rw [← hR] at HL0
 have HRs : Hid (Calls Tryz.prog 15 #[(.pointer (some ⟨lb, 0, none⟩)), .int .i64 (R : Int)] W6 (RetC (.int .i64 (rsvE L2 (R : Int))) zeroD (rsvL L2 (R : Int)) S pd (.pointer (some ⟨lb, 0, none⟩)) W6)) := Lib.hid (HK.out.pr.code.Reserve HL0.out.1 (R : Int)); clear hR
 by_cases hbig : R ≤ 3480
 ·
  have hE : rsvE L2 (R : Int) = 0 := by unfold rsvE; rw [if_neg (by omega), if_neg (by have := HL0.out.2.1; omega)]
  obtain ⟨L0, hL0⟩ : ∃ L0, L0 = rsvL L2 (R : Int) := ⟨_, rfl⟩; have HM0 : Hid (RmK 0 K zeroD L0) := Lib.hid (by rw [hL0]; exact HL0.out.2.2 hbig)
  rw [hE, ← hL0] at HRs
  clear hE hL0 hbig; go_wp2_with fail; refine HRs.out.mono ?_; rintro e W7 ⟨S7, rfl, hcc, huu⟩; have HK7 : Hid (PrK w W5 W7 w1.heap.size bp S7 T pd pw (.pointer (some ⟨lb, 0, none⟩)) pm zeroD L0 zeroD L2 20000) := Lib.hid (HK.out.codes hcc huu); clear hcc huu hc2 HK HRs hq0; go_wp2_with fail
  go_loopw [9, 10] (fun uv iv wr => ∃ (i u : Nat) (S : Nat → Prop) (s : St) (L : Lg), i ≤ n ∧ u ≤ K ∧ iv = .int .i64 (i : Int) ∧ uv = .int .i64 (u : Int) ∧ Hid (PrK w W5 wr w1.heap.size bp S T pd pw (.pointer (some ⟨lb, 0, none⟩)) pm s L zeroD L2 20000) ∧ Hid (RmK i (K - u) s L)) (fun _ iv _ => n - (intOf iv).toNat)
  case atStart => exact ⟨0, 0, S7, zeroD, L0, Nat.zero_le _, Nat.zero_le _, rfl, rfl, HK7, HM0⟩
  case round =>
   obtain ⟨i, u, S, s, L, hi, hu, rfl, rfl, HK, HM⟩ := hrel
   by_cases hlt : i < n
   ·
    have g3 : (i : Int) < (n : Int) := by omega
    obtain ⟨b, o, rfl, hrow⟩ := HA.out.2 i hlt; have HRow := Lib.hid hrow; obtain ⟨a, ha⟩ : ∃ a, a = f i := ⟨_, rfl⟩; obtain ⟨A, hA⟩ : ∃ A, A = o + i * 12 := ⟨_, rfl⟩
    rw [← ha, ← hA] at HRow
    have hA' : o + i * 12 = A := hA.symm; have x0 := (HRow.out wr HK.out.pr.gr).1.1
    have hq : IntKind.i64.wrap ((i : Int) + 1) = ((i + 1 : Nat) : Int) := by have := HKn.out; rw [IntWalk.i64_in _ (by omega)]; omega
    have HMe : Hid (i + 1 ≤ n ∧ n - (i + 1) < n - i ∧ u ≤ K) := Lib.hid ⟨by omega, by omega, hu⟩
    have hq1 : IntKind.i64.wrap ((u : Int) + 1) = ((u + 1 : Nat) : Int) := by have := HKn.out; rw [IntWalk.i64_in _ (by omega)]; omega
    clear hrow hlt hi hu ha hA; obtain ⟨kd, hkd⟩ : ∃ kd, kd = a.kind := ⟨_, rfl⟩
    rw [← hkd] at x0
    clear hkd
    by_cases h1 : kd = 1
    ·
     subst h1; obtain ⟨L1, hL1⟩ : ∃ L1, L1 = layL L a.z.c L.free := ⟨_, rfl⟩; obtain ⟨X, hX⟩ : ∃ X : Value, X = .tuple #[.int .u64 (layA L a.z.c L.free : Int), .int .i64 (layE a.z.c L.free)] := ⟨_, rfl⟩; have HM1 : Hid (RmK (i + 1) (K - u) s L1) := Lib.hid (by rw [hL1]; exact HM.out.app a.z.c)
     have HAp : Hid (Calls Tryz.prog 16 #[(.pointer (some ⟨lb, 0, none⟩)), .agg #[.int .i64 a.z.c.k, .int .u64 (a.z.c.t : Int), .int .u64 (a.z.c.p : Int), .int .u64 (a.z.c.x : Int), .int .i64 a.z.c.g, .int .i64 a.z.c.o, .slice a.z.pb a.z.nb a.z.cb, .slice a.z.pa a.z.na a.z.ca]] wr.drew (RetC X s L1 S pd (.pointer (some ⟨lb, 0, none⟩)) wr.drew)) := Lib.hid (by
      have hg := (Gr.refl wr).drew; have hr := (HRow.out wr.drew (Gr.trans HK.out.pr.gr hg)).2; have h := (HK.out.pr.up hg).code.Append HM.out.ok a.z.c hr.ri a.z.pb a.z.nb a.z.cb a.z.pa a.z.na a.z.ca hr.xb hr.xa
      rw [← hX, ← hL1] at h
      exact h)
     clear hX hL1; have hc2 := HK.out.pr.blk.cell 2
     simp at hc2
     have hc8 := (HRow.out wr HK.out.pr.gr).1.2.2.1; go_wp2_with fail
     go_region_held3 (fun V => V.cell? ⟨bp, 2, none⟩ = some (.pointer (some ⟨lb, 0, none⟩)) ∧ V.cell? ⟨b, A + 2, none⟩ = some (.int .i64 a.z.c.k) ∧ V.cell? ⟨b, A + 2 + 1, none⟩ = some (.int .u64 (a.z.c.t : Int)) ∧ V.cell? ⟨b, A + 2 + 2, none⟩ = some (.int .u64 (a.z.c.p : Int)) ∧ V.cell? ⟨b, A + 2 + 3, none⟩ = some (.int .u64 (a.z.c.x : Int)) ∧ V.cell? ⟨b, A + 2 + 4, none⟩ = some (.int .i64 a.z.c.g) ∧ V.cell? ⟨b, A + 2 + 5, none⟩ = some (.int .i64 a.z.c.o) ∧ V.cell? ⟨b, A + 2 + 6, none⟩ = some (.slice a.z.pb a.z.nb a.z.cb) ∧ V.cell? ⟨b, A + 2 + 7, none⟩ = some (.slice a.z.pa a.z.na a.z.ca)) (first | exact ⟨hc2, hc8⟩ | exact ⟨hc2', hc8'⟩) (first | (go_at_call 16; refine HAp.out.mono ?_; rintro e w5 ⟨S5, rfl, hcc, huu⟩; have HK5 : Hid (PrK w W5 w5 w1.heap.size bp S5 T pd pw (.pointer (some ⟨lb, 0, none⟩)) pm s L1 zeroD L2 20000) := Lib.hid ((HK.out.up ((Gr.refl wr).drew)).codes hcc huu); have hc2' := HK5.out.pr.blk.cell 2; simp at hc2'; have hc8' := (HRow.out w5 HK5.out.pr.gr).1.2.2.1))
     clear hc2 hc8 hcc huu hc2' hc8' HAp HK HM x0; obtain ⟨E1, hE1⟩ : ∃ E, E = L1.fin := ⟨_, rfl⟩; obtain ⟨F1, hF1⟩ : ∃ F, F = L1.free := ⟨_, rfl⟩
     have HNu : Hid ((E1 : Int) ≤ 3480 ∧ 0 ≤ F1) := Lib.hid (by
      have h1 := HM1.out.room; have h2 := HM1.out.rsv; have h3 := HM1.out.free
      omega)
     have gE : ¬ (3480 : Int) < (E1 : Int) := by have := HNu.out; omega
     have gF : ¬ F1 < 0 := by have := HNu.out; omega
     have dE : decide ((3480 : Int) < (E1 : Int)) = false := decide_eq_false gE; have dF : decide (F1 < 0) = false := decide_eq_false gF; have HEn : Hid (Calls Tryz.prog 18 #[(.pointer (some ⟨lb, 0, none⟩))] w5 (RetU E1 w5)) := Lib.hid (by rw [hE1]; exact HK5.out.pr.code.End HM1.out.ok)
     have HFr : Hid (∀ V, PrK w W5 V w1.heap.size bp S5 T pd pw (.pointer (some ⟨lb, 0, none⟩)) pm s L1 zeroD L2 20000 → Calls Tryz.prog 19 #[(.pointer (some ⟨lb, 0, none⟩))] V (RetI F1 V)) := Lib.hid fun V h => by rw [hF1]; exact h.pr.code.Free HM1.out.ok
     have hc2 := HK5.out.pr.blk.cell 2
     simp at hc2
     clear hE1 hF1 gE gF; go_wp2_with fail; refine HEn.out.mono ?_; rintro e w6 ⟨rfl, g6⟩; have HK6 := Lib.hid (HK5.out.up g6); clear g6 HEn hc2 HK5; have hc2 := HK6.out.pr.blk.cell 2
     simp at hc2
     go_wp2_with fail; refine (HFr.out w6 HK6.out).mono ?_; rintro e w7 ⟨rfl, g7⟩; have HK7 := Lib.hid (HK6.out.up g7); clear g7 HFr hc2 HK6; have hc2 := HK7.out.pr.blk.cell 2
     simp at hc2
     have hc8 := (HA9.out w7 HK7.out.keep).blk.c8
     by_cases huk : u < K
     ·
      have g4 : (u : Int) < (K : Int) := by omega
      have hu3 := RmK.uses (by rw [show K - (u + 1) + 1 = K - u by omega]; exact HM1.out : RmK (i + 1) (K - (u + 1) + 1) s L1) HI.out.2.2.1 HI.out.2.1; have HU1 : Hid (u + 1 ≤ K) := Lib.hid (by omega); obtain ⟨X9, hX9⟩ : ∃ X, X = layA L1 r9 L1.rsv := ⟨_, rfl⟩; obtain ⟨L9, hL9⟩ : ∃ L, L = useL L1 r9 := ⟨_, rfl⟩; have HM9 := Lib.hid hu3.2.1
      have HUs : Hid (Calls Tryz.prog 20 #[(.pointer (some ⟨lb, 0, none⟩)), .agg #[.int .i64 r9.k, .int .u64 (r9.t : Int), .int .u64 (r9.p : Int), .int .u64 (r9.x : Int), .int .i64 r9.g, .int .i64 r9.o, .slice pb9 nb9 cb9, .slice pa9 na9 ca9]] w7.drew (RetC (.tuple #[.int .u64 (X9 : Int), .int .i64 0]) s L9 S5 pd (.pointer (some ⟨lb, 0, none⟩)) w7.drew)) := Lib.hid (by
       have hg := (Gr.refl w7).drew; have hr := HA9.out w7 HK7.out.keep; have h := (HK7.out.pr.up hg).code.Use HM1.out.ok hu3.2.2 HI.out.1 pb9 nb9 cb9 pa9 na9 ca9 (hr.xb.kept hg) (hr.xa.kept hg)
       rw [hu3.1, ← hX9, ← hL9] at h
       exact h)
      rw [← hL9] at HM9
      clear hu3 hX9 hL9
      try clear huk
      try clear hlt
      go_wp2_with fail
      go_region_held3 (fun V => V.cell? ⟨bp, 2, none⟩ = some (.pointer (some ⟨lb, 0, none⟩)) ∧ V.cell? ⟨B9, 0, none⟩ = some (.int .i64 r9.k) ∧ V.cell? ⟨B9, 1, none⟩ = some (.int .u64 (r9.t : Int)) ∧ V.cell? ⟨B9, 2, none⟩ = some (.int .u64 (r9.p : Int)) ∧ V.cell? ⟨B9, 3, none⟩ = some (.int .u64 (r9.x : Int)) ∧ V.cell? ⟨B9, 4, none⟩ = some (.int .i64 r9.g) ∧ V.cell? ⟨B9, 5, none⟩ = some (.int .i64 r9.o) ∧ V.cell? ⟨B9, 6, none⟩ = some (.slice pb9 nb9 cb9) ∧ V.cell? ⟨B9, 7, none⟩ = some (.slice pa9 na9 ca9)) (first | exact ⟨hc2, hc8⟩ | exact ⟨hc2', hc8'⟩) (first | (go_at_call 20; refine HUs.out.mono ?_; rintro e w9 ⟨S9, rfl, hcc, huu⟩; have HK9 : Hid (PrK w W5 w9 w1.heap.size bp S9 T pd pw (.pointer (some ⟨lb, 0, none⟩)) pm s L9 zeroD L2 20000) := Lib.hid ((HK7.out.up ((Gr.refl w7).drew)).codes hcc huu); have hc2' := HK9.out.pr.blk.cell 2; simp at hc2'; have hc8' := (HA9.out w9 HK9.out.keep).blk.c8))
      clear hc2 hc8 hcc huu hc2' hc8' HUs; go_wp2_with fail
      go_roundw
      case rel => exact ⟨i + 1, u + 1, S9, s, L9, HMe.out.1, HU1.out, rfl, rfl, HK9, HM9⟩
      case measure => exact HMe.out.2.1
     ·
      have g4 : ¬ (u : Int) < (K : Int) := by omega
      clear huk; go_wp2_with fail
      go_roundw
      case rel => exact ⟨i + 1, u, S5, s, L1, HMe.out.1, HMe.out.2.2, rfl, rfl, HK7, HM1⟩
      case measure => exact HMe.out.2.1
    ·
     by_cases h3 : kd = 3
     ·
      subst h3; obtain ⟨E0, hE0⟩ : ∃ E, E = L.fin := ⟨_, rfl⟩; obtain ⟨s2, hs2⟩ : ∃ s2, s2 = flS s L E0 := ⟨_, rfl⟩; obtain ⟨L1, hL1⟩ : ∃ L1, L1 = flL s L E0 := ⟨_, rfl⟩; have HM1 : Hid (RmK (i + 1) (K - u) s2 L1) := Lib.hid (by rw [hL1, hs2, hE0]; exact HM.out.fl); have HEn : Hid (Calls Tryz.prog 18 #[(.pointer (some ⟨lb, 0, none⟩))] wr.drew (RetU E0 wr.drew)) := Lib.hid (by rw [hE0]; exact (HK.out.pr.up ((Gr.refl wr).drew)).code.End HM.out.ok)
      have HFu : Hid (∀ V, PrK w W5 V w1.heap.size bp S T pd pw (.pointer (some ⟨lb, 0, none⟩)) pm s L zeroD L2 20000 → Calls Tryz.prog 17 #[(.pointer (some ⟨lb, 0, none⟩)), .int .u64 (E0 : Int)] V (RetC (.int .i64 0) s2 L1 S pd (.pointer (some ⟨lb, 0, none⟩)) V)) := Lib.hid fun V h => by
       have h := h.pr.code.Flush HM.out.ok (by rw [HM.out.l, HM.out.len]; decide) (by have := HM.out.wr; have := HMe.out; have := HKn.out; omega) E0 (by have := HM.out.room; have := HM.out.rsv; omega); have h2 := (fl_alive HM.out.al HM.out.ok).2.1
       rw [← hE0] at h2
       rw [h2, ← hs2, ← hL1] at h
       exact h
      clear hE0 hs2 hL1; have hc2 := HK.out.pr.blk.cell 2
      simp at hc2
      go_wp2_with fail
      go_region_held3 (fun V => V.cell? ⟨bp, 2, none⟩ = some (.pointer (some ⟨lb, 0, none⟩))) (first | exact hc2 | exact ya | exact yb) (first
       | (go_at_call 18; refine HEn.out.mono ?_; rintro e v1 ⟨rfl, h1⟩; have HK4 := Lib.hid ((HK.out.up ((Gr.refl wr).drew)).up h1); have ya := HK4.out.pr.blk.cell 2; simp at ya)
       | (go_at_call 17; refine (HFu.out v1 HK4.out).mono ?_; rintro e w5 ⟨S5, rfl, hcc, huu⟩; have HK5 : Hid (PrK w W5 w5 w1.heap.size bp S5 T pd pw (.pointer (some ⟨lb, 0, none⟩)) pm s2 L1 zeroD L2 20000) := Lib.hid (HK4.out.codes hcc huu); have yb := HK5.out.pr.blk.cell 2; simp at yb))
      clear hc2 hcc huu ya yb h1 HK HK4 HM x0 HEn HFu; obtain ⟨E1, hE1⟩ : ∃ E, E = L1.fin := ⟨_, rfl⟩; obtain ⟨F1, hF1⟩ : ∃ F, F = L1.free := ⟨_, rfl⟩
      have HNu : Hid ((E1 : Int) ≤ 3480 ∧ 0 ≤ F1) := Lib.hid (by
       have h1 := HM1.out.room; have h2 := HM1.out.rsv; have h3 := HM1.out.free
       omega)
      have gE : ¬ (3480 : Int) < (E1 : Int) := by have := HNu.out; omega
      have gF : ¬ F1 < 0 := by have := HNu.out; omega
      have dE : decide ((3480 : Int) < (E1 : Int)) = false := decide_eq_false gE; have dF : decide (F1 < 0) = false := decide_eq_false gF; have HEn : Hid (Calls Tryz.prog 18 #[(.pointer (some ⟨lb, 0, none⟩))] w5 (RetU E1 w5)) := Lib.hid (by rw [hE1]; exact HK5.out.pr.code.End HM1.out.ok)
      have HFr : Hid (∀ V, PrK w W5 V w1.heap.size bp S5 T pd pw (.pointer (some ⟨lb, 0, none⟩)) pm s2 L1 zeroD L2 20000 → Calls Tryz.prog 19 #[(.pointer (some ⟨lb, 0, none⟩))] V (RetI F1 V)) := Lib.hid fun V h => by rw [hF1]; exact h.pr.code.Free HM1.out.ok
      have hc2 := HK5.out.pr.blk.cell 2
      simp at hc2
      clear hE1 hF1 gE gF; go_wp2_with fail; refine HEn.out.mono ?_; rintro e w6 ⟨rfl, g6⟩; have HK6 := Lib.hid (HK5.out.up g6); clear g6 HEn hc2 HK5; have hc2 := HK6.out.pr.blk.cell 2
      simp at hc2
      go_wp2_with fail; refine (HFr.out w6 HK6.out).mono ?_; rintro e w7 ⟨rfl, g7⟩; have HK7 := Lib.hid (HK6.out.up g7); clear g7 HFr hc2 HK6; have hc2 := HK7.out.pr.blk.cell 2
      simp at hc2
      have hc8 := (HA9.out w7 HK7.out.keep).blk.c8
      by_cases huk : u < K
      ·
       have g4 : (u : Int) < (K : Int) := by omega
       have hu3 := RmK.uses (by rw [show K - (u + 1) + 1 = K - u by omega]; exact HM1.out : RmK (i + 1) (K - (u + 1) + 1) s2 L1) HI.out.2.2.1 HI.out.2.1; have HU1 : Hid (u + 1 ≤ K) := Lib.hid (by omega); obtain ⟨X9, hX9⟩ : ∃ X, X = layA L1 r9 L1.rsv := ⟨_, rfl⟩; obtain ⟨L9, hL9⟩ : ∃ L, L = useL L1 r9 := ⟨_, rfl⟩; have HM9 := Lib.hid hu3.2.1
       have HUs : Hid (Calls Tryz.prog 20 #[(.pointer (some ⟨lb, 0, none⟩)), .agg #[.int .i64 r9.k, .int .u64 (r9.t : Int), .int .u64 (r9.p : Int), .int .u64 (r9.x : Int), .int .i64 r9.g, .int .i64 r9.o, .slice pb9 nb9 cb9, .slice pa9 na9 ca9]] w7.drew (RetC (.tuple #[.int .u64 (X9 : Int), .int .i64 0]) s2 L9 S5 pd (.pointer (some ⟨lb, 0, none⟩)) w7.drew)) := Lib.hid (by
        have hg := (Gr.refl w7).drew; have hr := HA9.out w7 HK7.out.keep; have h := (HK7.out.pr.up hg).code.Use HM1.out.ok hu3.2.2 HI.out.1 pb9 nb9 cb9 pa9 na9 ca9 (hr.xb.kept hg) (hr.xa.kept hg)
        rw [hu3.1, ← hX9, ← hL9] at h
        exact h)
       rw [← hL9] at HM9
       clear hu3 hX9 hL9
       try clear huk
       try clear hlt
       go_wp2_with fail
       go_region_held3 (fun V => V.cell? ⟨bp, 2, none⟩ = some (.pointer (some ⟨lb, 0, none⟩)) ∧ V.cell? ⟨B9, 0, none⟩ = some (.int .i64 r9.k) ∧ V.cell? ⟨B9, 1, none⟩ = some (.int .u64 (r9.t : Int)) ∧ V.cell? ⟨B9, 2, none⟩ = some (.int .u64 (r9.p : Int)) ∧ V.cell? ⟨B9, 3, none⟩ = some (.int .u64 (r9.x : Int)) ∧ V.cell? ⟨B9, 4, none⟩ = some (.int .i64 r9.g) ∧ V.cell? ⟨B9, 5, none⟩ = some (.int .i64 r9.o) ∧ V.cell? ⟨B9, 6, none⟩ = some (.slice pb9 nb9 cb9) ∧ V.cell? ⟨B9, 7, none⟩ = some (.slice pa9 na9 ca9)) (first | exact ⟨hc2, hc8⟩ | exact ⟨hc2', hc8'⟩) (first | (go_at_call 20; refine HUs.out.mono ?_; rintro e w9 ⟨S9, rfl, hcc, huu⟩; have HK9 : Hid (PrK w W5 w9 w1.heap.size bp S9 T pd pw (.pointer (some ⟨lb, 0, none⟩)) pm s2 L9 zeroD L2 20000) := Lib.hid ((HK7.out.up ((Gr.refl w7).drew)).codes hcc huu); have hc2' := HK9.out.pr.blk.cell 2; simp at hc2'; have hc8' := (HA9.out w9 HK9.out.keep).blk.c8))
       clear hc2 hc8 hcc huu hc2' hc8' HUs; go_wp2_with fail
       go_roundw
       case rel => exact ⟨i + 1, u + 1, S9, s2, L9, HMe.out.1, HU1.out, rfl, rfl, HK9, HM9⟩
       case measure => exact HMe.out.2.1
      ·
       have g4 : ¬ (u : Int) < (K : Int) := by omega
       clear huk; go_wp2_with fail
       go_roundw
       case rel => exact ⟨i + 1, u, S5, s2, L1, HMe.out.1, HMe.out.2.2, rfl, rfl, HK7, HM1⟩
       case measure => exact HMe.out.2.1
     ·
      have e1 : (kd != 1) = true := by simpa using h1
      have e3 : (kd != 3) = true := by simpa using h3
      have HM1 := Lib.hid HM.out.more; clear h1 h3; go_wp2_with fail
      go_roundw
      case rel => exact ⟨i + 1, u, S, s, L, HMe.out.1, HMe.out.2.2, rfl, rfl, HK, HM1⟩
      case measure => exact HMe.out.2.1
   ·
    obtain rfl : i = n := by omega
    have g3 : ¬ (i : Int) < (i : Int) := by omega
    clear hlt hi; go_wp2_with fail
    go_loopw [9] (fun uv wr => ∃ (u : Nat) (S : Nat → Prop) (s : St) (L : Lg), u ≤ K ∧ uv = .int .i64 (u : Int) ∧ Hid (PrK w W5 wr w1.heap.size bp S T pd pw (.pointer (some ⟨lb, 0, none⟩)) pm s L zeroD L2 20000) ∧ Hid (RmK i (K - u) s L)) (fun uv _ => K - (intOf uv).toNat)
    case atStart => exact ⟨u, S, s, L, hu, rfl, HK, HM⟩
    case round =>
     obtain ⟨u2, S2, s2, L3, hu2, rfl, HK2, HM2⟩ := hrel; have hc2 := HK2.out.pr.blk.cell 2
     simp at hc2
     have hc8 := (HA9.out wr HK2.out.keep).blk.c8
     by_cases hlt : u2 < K
     ·
      have g4 : (u2 : Int) < (K : Int) := by omega
      have hq1 : IntKind.i64.wrap ((u2 : Int) + 1) = ((u2 + 1 : Nat) : Int) := by have := HKn.out; rw [IntWalk.i64_in _ (by omega)]; omega
      have HMe : Hid (u2 + 1 ≤ K ∧ K - (u2 + 1) < K - u2) := Lib.hid ⟨by omega, by omega⟩; have hu3 := RmK.uses (by rw [show K - (u2 + 1) + 1 = K - u2 by omega]; exact HM2.out : RmK i (K - (u2 + 1) + 1) s2 L3) HI.out.2.2.1 HI.out.2.1; obtain ⟨X9, hX9⟩ : ∃ X, X = layA L3 r9 L3.rsv := ⟨_, rfl⟩; obtain ⟨L9, hL9⟩ : ∃ L, L = useL L3 r9 := ⟨_, rfl⟩; have HM9 := Lib.hid hu3.2.1
      have HUs : Hid (Calls Tryz.prog 20 #[(.pointer (some ⟨lb, 0, none⟩)), .agg #[.int .i64 r9.k, .int .u64 (r9.t : Int), .int .u64 (r9.p : Int), .int .u64 (r9.x : Int), .int .i64 r9.g, .int .i64 r9.o, .slice pb9 nb9 cb9, .slice pa9 na9 ca9]] wr.drew (RetC (.tuple #[.int .u64 (X9 : Int), .int .i64 0]) s2 L9 S2 pd (.pointer (some ⟨lb, 0, none⟩)) wr.drew)) := Lib.hid (by
       have hg := (Gr.refl wr).drew; have hr := HA9.out wr HK2.out.keep; have h := (HK2.out.pr.up hg).code.Use HM2.out.ok hu3.2.2 HI.out.1 pb9 nb9 cb9 pa9 na9 ca9 (hr.xb.kept hg) (hr.xa.kept hg)
       rw [hu3.1, ← hX9, ← hL9] at h
       exact h)
      rw [← hL9] at HM9
      clear hu3 hX9 hL9
      try clear huk
      try clear hlt
      go_wp2_with fail
      go_region_held3 (fun V => V.cell? ⟨bp, 2, none⟩ = some (.pointer (some ⟨lb, 0, none⟩)) ∧ V.cell? ⟨B9, 0, none⟩ = some (.int .i64 r9.k) ∧ V.cell? ⟨B9, 1, none⟩ = some (.int .u64 (r9.t : Int)) ∧ V.cell? ⟨B9, 2, none⟩ = some (.int .u64 (r9.p : Int)) ∧ V.cell? ⟨B9, 3, none⟩ = some (.int .u64 (r9.x : Int)) ∧ V.cell? ⟨B9, 4, none⟩ = some (.int .i64 r9.g) ∧ V.cell? ⟨B9, 5, none⟩ = some (.int .i64 r9.o) ∧ V.cell? ⟨B9, 6, none⟩ = some (.slice pb9 nb9 cb9) ∧ V.cell? ⟨B9, 7, none⟩ = some (.slice pa9 na9 ca9)) (first | exact ⟨hc2, hc8⟩ | exact ⟨hc2', hc8'⟩) (first | (go_at_call 20; refine HUs.out.mono ?_; rintro e w9 ⟨S9, rfl, hcc, huu⟩; have HK9 : Hid (PrK w W5 w9 w1.heap.size bp S9 T pd pw (.pointer (some ⟨lb, 0, none⟩)) pm s2 L9 zeroD L2 20000) := Lib.hid ((HK2.out.up ((Gr.refl wr).drew)).codes hcc huu); have hc2' := HK9.out.pr.blk.cell 2; simp at hc2'; have hc8' := (HA9.out w9 HK9.out.keep).blk.c8))
      clear hc2 hc8 hcc huu hc2' hc8' HUs; go_wp2_with fail
      go_roundw
      case rel => exact ⟨u2 + 1, S9, s2, L9, HMe.out.1, rfl, HK9, HM9⟩
      case measure => exact HMe.out.2
     ·
      obtain rfl : u2 = K := by omega
      have g4 : ¬ (u2 : Int) < (u2 : Int) := by omega
      have hE5 : layE r9 L3.rsv = 5 := by
       have h := HM2.out.rsv; have hz := sizeR_may HI.out.2.2.1; have hz2 := HI.out.2.1
       unfold layE
       rw [if_pos HI.out.2.2.1, if_pos (by omega)]
      obtain ⟨X, hX⟩ : ∃ X, X = layA L3 r9 L3.rsv := ⟨_, rfl⟩
      have HUs : Hid (Calls Tryz.prog 20 #[(.pointer (some ⟨lb, 0, none⟩)), .agg #[.int .i64 r9.k, .int .u64 (r9.t : Int), .int .u64 (r9.p : Int), .int .u64 (r9.x : Int), .int .i64 r9.g, .int .i64 r9.o, .slice pb9 nb9 cb9, .slice pa9 na9 ca9]] wr.drew (RetC (.tuple #[.int .u64 (X : Int), .int .i64 5]) s2 L3 S2 pd (.pointer (some ⟨lb, 0, none⟩)) wr.drew)) := Lib.hid (by
       have hg := (Gr.refl wr).drew; have hr := HA9.out wr HK2.out.keep; have h := (HK2.out.pr.up hg).code.Use HM2.out.ok (lay_rsv_ok HM2.out.ok HM2.out.fits r9 (by have := HM2.out.room; have := HM2.out.rsv; omega)) HI.out.1 pb9 nb9 cb9 pa9 na9 ca9 (hr.xb.kept hg) (hr.xa.kept hg)
       have h2 : useL L3 r9 = L3 := by unfold useL; rw [if_neg (by rw [hE5]; decide)]
       rw [hE5, ← hX, h2] at h
       exact h)
      have HE : Hid ((L3.fin : Int) ≤ 3480) := Lib.hid (by have := HM2.out.room; have := HM2.out.rsv; omega); obtain ⟨E1, hE1⟩ : ∃ E, E = L3.fin := ⟨_, rfl⟩
      have HEn : Hid (∀ V SX, PrK w W5 V w1.heap.size bp SX T pd pw (.pointer (some ⟨lb, 0, none⟩)) pm s2 L3 zeroD L2 20000 → Calls Tryz.prog 18 #[(.pointer (some ⟨lb, 0, none⟩))] V (RetU E1 V)) := Lib.hid fun V SX h => by rw [hE1]; exact h.pr.code.End HM2.out.ok
      have gE : (E1 : Int) ≤ 3480 := by rw [hE1]; exact HE.out
      clear hE5 hX hE1 hlt; go_wp2_with fail
      go_region_held3 (fun V => V.cell? ⟨bp, 2, none⟩ = some (.pointer (some ⟨lb, 0, none⟩)) ∧ V.cell? ⟨B9, 0, none⟩ = some (.int .i64 r9.k) ∧ V.cell? ⟨B9, 1, none⟩ = some (.int .u64 (r9.t : Int)) ∧ V.cell? ⟨B9, 2, none⟩ = some (.int .u64 (r9.p : Int)) ∧ V.cell? ⟨B9, 3, none⟩ = some (.int .u64 (r9.x : Int)) ∧ V.cell? ⟨B9, 4, none⟩ = some (.int .i64 r9.g) ∧ V.cell? ⟨B9, 5, none⟩ = some (.int .i64 r9.o) ∧ V.cell? ⟨B9, 6, none⟩ = some (.slice pb9 nb9 cb9) ∧ V.cell? ⟨B9, 7, none⟩ = some (.slice pa9 na9 ca9)) (first | exact ⟨hc2, hc8⟩ | exact ⟨hc2', hc8'⟩) (first | (go_at_call 20; refine HUs.out.mono ?_; rintro e w5 ⟨S5, rfl, hcc, huu⟩; have HK5 : Hid (PrK w W5 w5 w1.heap.size bp S5 T pd pw (.pointer (some ⟨lb, 0, none⟩)) pm s2 L3 zeroD L2 20000) := Lib.hid ((HK2.out.up ((Gr.refl wr).drew)).codes hcc huu); have hc2' := HK5.out.pr.blk.cell 2; simp at hc2'; have hc8' := (HA9.out w5 HK5.out.keep).blk.c8))
      clear hc2 hc8 hcc huu hc2' hc8' HUs; have hc2 := HK5.out.pr.blk.cell 2
      simp at hc2
      go_wp2_with fail; refine (HEn.out w5 _ HK5.out).mono ?_; rintro e w6 ⟨rfl, g6⟩; have HK6 := Lib.hid (HK5.out.up g6); clear g6 hc2 HK5 HEn; go_wp2_with fail; refine (wknown_any w6).mono ?_; rintro e w7 ⟨rfl, g7⟩; go_wp2_with fail
      go_ret
      exact ⟨rfl, Gr.trans HK6.out.pr.gr g7⟩
 ·
  have hE : rsvE L2 (R : Int) = 5 := by unfold rsvE; rw [if_neg (by omega), if_pos (by have := HL0.out.2.1; omega)]
  have gR : decide ((3480 : Int) < (R : Int)) = true := decide_eq_true (by omega)
  rw [hE] at HRs
  clear hE hbig; go_wp2_with fail; refine HRs.out.mono ?_; rintro e W7 ⟨S7, rfl, hcc, huu⟩; have HK7 := Lib.hid (HK.out.codes hcc huu); clear hcc huu hc2 HK HRs; go_wp2_with fail; refine (wknown_any W7).mono ?_; rintro e w7 ⟨rfl, g7⟩; go_wp2_with fail
  go_ret
  exact ⟨rfl, Gr.trans HK7.out.pr.gr g7⟩
set_option maxRecDepth 100000 in
set_option maxHeartbeats 1000000 in
theorem walRoom_walk (p : Option Addr) (n c : Nat) (K : Int) (w : World) (hA : WActs w p n c) : Calls Tryz.prog 4 #[.slice p n c, .int .i64 K] w (RetB true w) := by
 obtain ⟨f, hf⟩ := hA.chosen
 by_cases h0 : K < 0
 ·
  have HMu := Lib.hid (wmuch_any p n c f w hf); have k0 : decide (K < 0) = true := decide_eq_true h0; clear hf hA h0
  go_enter Tryz.func4, Tryz.ntmps4
  go_wp2_with fail; refine HMu.out.mono ?_; rintro e wa ⟨B, rfl, ga, _⟩
  cases B
  all_goals
   go_wp2_with fail; refine (wknown_any wa).mono ?_; rintro e w7 ⟨rfl, g7⟩; go_wp2_with fail
   go_ret
   exact ⟨rfl, Gr.trans ga g7⟩
 ·
  by_cases h1 : 2000 < K
  ·
   have HMu := Lib.hid (wmuch_any p n c f w hf); have k0 : decide (K < 0) = false := decide_eq_false h0; have k1 : decide (2000 < K) = true := decide_eq_true h1; clear hf hA h0 h1
   go_enter Tryz.func4, Tryz.ntmps4
   go_wp2_with fail; refine HMu.out.mono ?_; rintro e wa ⟨B, rfl, ga, _⟩
   cases B
   all_goals
    go_wp2_with fail; refine (wknown_any wa).mono ?_; rintro e w7 ⟨rfl, g7⟩; go_wp2_with fail
    go_ret
    exact ⟨rfl, Gr.trans ga g7⟩
  · obtain ⟨N, rfl⟩ := Int.eq_ofNat_of_zero_le (show 0 ≤ K by omega); exact walRoom_main p n c f N w hf (by omega)
end Go.Proofs.YtbpgonmoepnnpaaGreat
