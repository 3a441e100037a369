/-
  Texts on locks, put together: LkCopy3.
-/
import Derived.Test.YtadopbpfnnpnaaaGreatL16
import Derived.Test.YtadopbpfnnpnaaaGreatL46
set_option linter.unusedVariables false
set_option linter.unusedSimpArgs false
/-
  The code's Copy.
-/
namespace Go.Proofs.YtadopbpfnnpnaaaGreat
open Go.RowKit Go.Maps

theorem left_eq {w w' : World} {m r : Nat} (h1 : w'.heap[m]? = w.heap[m]?) (h2 : w'.heap[r]? = w.heap[r]?) : w'.rangeLeft m r = w.rangeLeft m r := by
  unfold World.rangeLeft
  rw [h1, h2]
/-- What Copy answers. -/
def RetCopy (T : Tb) (w : World) (e : Ending) (w' : World) : Prop :=
  ∃ c kmc omc Bc, e = .returned (.pointer (some ⟨c, 0, none⟩)) ∧ TbAt w' c kmc omc Bc T ∧ Gr w w' ∧ ∀ n, FB Bc n → w.heap.size ≤ n
/-- How it stands while Copy goes on. -/
structure CpAt (w0 W : World) (t km om : Nat) (B : Tag → Option Nat) (T : Tb) (c kmc omc : Nat) (Bc : Tag → Option Nat) (a : List Key) (b : List Nat) : Prop where
  tb : TbAt W t km om B T
  cp : TbAt W c kmc omc Bc (T.part a b)
  new : ∀ n, FB Bc n → w0.heap.size ≤ n
  gr : Gr w0 W
section
variable {w0 W W' : World} {t km om c kmc omc : Nat} {B Bc Bc' : Tag → Option Nat} {T : Tb} {a a' : List Key} {b b' : List Nat}
theorem CpAt.more (h : CpAt w0 W t km om B T c kmc omc Bc a b) (g : Gr W W') : CpAt w0 W' t km om B T c kmc omc Bc a b := ⟨h.tb.gr g, h.cp.gr g, h.new, Gr.trans h.gr g⟩
/-- A block turns that is neither table's. -/
theorem CpAt.next (h : CpAt w0 W t km om B T c kmc omc Bc a b) {r : Nat} (g : W.grownBy W' (some r)) (hr : w0.heap.size ≤ r) (hb : ¬ FB B r) (hc : ¬ FB Bc r) : CpAt w0 W' t km om B T c kmc omc Bc a b :=
  ⟨h.tb.stays fun x n hn => g.block n (h.tb.lt x n hn) fun e => hb ⟨x, by rw [hn, Option.some.inj e]⟩, h.cp.stays fun x n hn => g.block n (h.cp.lt x n hn) fun e => hc ⟨x, by rw [hn, Option.some.inj e]⟩, h.new,
   h.gr.grown g h.gr.size fun n e => by cases e; exact hr⟩
/-- The copy turns. -/
theorem CpAt.turn (h : CpAt w0 W t km om B T c kmc omc Bc a b) (hB : ∀ n, FB B n → n < w0.heap.size) (k : TbAt W' c kmc omc Bc' (T.part a' b')) (g : Tn W W' Bc Bc') : CpAt w0 W' t km om B T c kmc omc Bc' a' b' :=
  ⟨h.tb.stays fun x n hn => g.onl.block n (h.tb.lt x n hn) fun e => by have h1 := hB n ⟨x, hn⟩; have h2 := h.new n e; omega, k, fun n ⟨x, hn⟩ => by
    rcases g.new x n hn with e | e
    · exact h.new n e
    · exact Nat.le_trans h.gr.size e, Below.trans h.gr (g.onl.below h.gr.size h.new)⟩
/-- A lock comes to the copy. -/
theorem CpAt.addKey {x : Key} {l : Lk} {MD : Int} (hMD : MD = l.mode) {w7 w8 W10 : World} {v8 : Value} {ob8 : Option Nat} (h : CpAt w0 W t km om B T c kmc omc Bc a b) (hB : ∀ n, FB B n → n < w0.heap.size) (hl : T.lk x = some l) (hx : x ∉ a) (g7 : Gr W w7) (s7 : w7.heap.size = W.heap.size + 1)
    (hM7 : Mp Tryz.prog KO w7 W.heap.size (unitF l.hs) l.hs) (g8 : Gr w7 w8) (hl8 : LnAt w8 ob8 v8 l.line false) (hn8 : ∀ n, ob8 = some n → w7.heap.size ≤ n ∧ n < w8.heap.size)
    (hG : (w8.alloc (.cells #[.int .i64 MD, .map (some W.heap.size), v8] TLk)).grownBy W10 (some kmc)) (hM10 : Mp Tryz.prog KL W10 kmc (updF (fun k => ((T.part a b).lk k).map fun _ => ptrB (Bc (.lk k))) x (some (ptrB (some w8.heap.size)))) (putK x a)) :
    ∃ Bn, CpAt w0 W10 t km om B T c kmc omc Bn (putK x a) b ∧ Tn W W10 Bc Bn := by
  have hk : kmc < W.heap.size := h.cp.lt _ _ h.cp.bk
  have s8 := g8.size
  have g9 : Gr W (w8.alloc (.cells #[.int .i64 MD, .map (some W.heap.size), v8] TLk)) := Gr.trans (Gr.trans g7 g8) (gr_alloc _ _)
  have s9 : (w8.alloc (.cells #[.int .i64 MD, .map (some W.heap.size), v8] TLk)).heap.size = w8.heap.size + 1 := World.size_alloc _ _
  have keep : ∀ n, n ≠ kmc → n < w8.heap.size + 1 → W10.heap[n]? = (w8.alloc (.cells #[.int .i64 MD, .map (some W.heap.size), v8] TLk)).heap[n]? := fun n hn hl => hG.block n (by omega) fun e => hn (Option.some.inj e)
  have old : ∀ n, n < w8.heap.size → (w8.alloc (.cells #[.int .i64 MD, .map (some W.heap.size), v8] TLk)).heap[n]? = w8.heap[n]? := fun n hn => heap_alloc_old w8 _ hn
  have hnone : (T.part a b).lk x = none := if_neg hx
  have hlk : LkAt W10 (some w8.heap.size) (some W.heap.size) ob8 l := by
    refine ⟨w8.heap.size, W.heap.size, v8, rfl, rfl, hMD ▸ (Blk.new w8 TLk #[.int .i64 MD, .map (some W.heap.size), v8]).stays (keep _ (by omega) (by omega)), ((hM7.stays (g8.block _ (by omega))).stays (old _ (by omega))).stays (keep _ (by omega) (by omega)), ((hl8.any l.pop).stays fun n hn => old n (hn8 n hn).2).stays fun n hn => keep n (by have := (hn8 n hn).1; omega) (by have := (hn8 n hn).2; omega)⟩
  obtain ⟨k1, k2⟩ := h.cp.addLkLn hnone (b := w8.heap.size) (g := W.heap.size) (ol := ob8) (by omega) (fun n hn => ⟨by have := (hn8 n hn).1; omega, by have := (hn8 n hn).2; omega, by have := (hn8 n hn).1; omega⟩) (by omega) (Nat.le_refl _) ((Onl.of_gr (S := fun n => n = kmc) g9).trans (Onl.of_grown (S := fun n => n = kmc) hG rfl) fun _ _ e => e) hlk hM10
  have e9 := part_lk T a b hl
  exact ⟨_, h.turn hB (e9 ▸ k1) k2, k2⟩
theorem CpAt.storeKey {V : World} {x : Key} {n : Nat} (h : CpAt w0 W t km om B T c kmc omc Bc a b) (g : Gr W V) (hdx : KL.dom x) (hlen : T.kk.length ≤ 10000) (ha : a.length ≤ T.kk.length) :
    ∃ W10, (Instr.mapUpdate TMk (.map (some kmc)) (KL.val x) (.pointer (some ⟨n, 0, none⟩))).run Tryz.prog V = .ok () W10 ∧ Mp Tryz.prog KL W10 kmc (updF (fun k => ((T.part a b).lk k).map fun _ => ptrB (Bc (.lk k))) x (some (ptrB (some n)))) (putK x a) ∧ V.grownBy W10 (some kmc) :=
  (h.cp.gr g).keys.store KL_ok (by show a.length < 9223372036854775807; omega) (t := TMk) Tryz.underlying48 hdx (ptrB (some n))
/-- An owner comes to the copy. -/
theorem CpAt.addOwner {x : Nat} {p : Py} {K1 K2 MD : Int} (hK1 : K1 = p.key.1) (hK2 : K2 = p.key.2) (hMD : MD = p.mode) {w7 W10 : World} (h : CpAt w0 W t km om B T c kmc omc Bc a b) (hB : ∀ n, FB B n → n < w0.heap.size) (hp : T.py x = some p) (hx : x ∉ b) (g7 : Gr W w7) (s7 : w7.heap.size = W.heap.size + 1)
    (hM7 : Mp Tryz.prog KL w7 W.heap.size (unitF p.ks) p.ks)
    (hG : (w7.alloc (.cells #[.map (some W.heap.size), .int .i64 K1, .int .i64 K2, .int .i64 MD] TPy)).grownBy W10 (some omc)) (hM10 : Mp Tryz.prog KO W10 omc (updF (fun k => ((T.part a b).py k).map fun _ => ptrB (Bc (.py k))) x (some (ptrB (some w7.heap.size)))) (putK x b)) :
    ∃ Bn, CpAt w0 W10 t km om B T c kmc omc Bn a (putK x b) ∧ Tn W W10 Bc Bn := by
  have hk : omc < W.heap.size := h.cp.lt _ _ h.cp.bo
  have g9 : Gr W (w7.alloc (.cells #[.map (some W.heap.size), .int .i64 K1, .int .i64 K2, .int .i64 MD] TPy)) := Gr.trans g7 (gr_alloc _ _)
  have s9 : (w7.alloc (.cells #[.map (some W.heap.size), .int .i64 K1, .int .i64 K2, .int .i64 MD] TPy)).heap.size = w7.heap.size + 1 := World.size_alloc _ _
  have keep : ∀ n, n ≠ omc → n < w7.heap.size + 1 → W10.heap[n]? = (w7.alloc (.cells #[.map (some W.heap.size), .int .i64 K1, .int .i64 K2, .int .i64 MD] TPy)).heap[n]? := fun n hn hl => hG.block n (by omega) fun e => hn (Option.some.inj e)
  have old : ∀ n, n < w7.heap.size → (w7.alloc (.cells #[.map (some W.heap.size), .int .i64 K1, .int .i64 K2, .int .i64 MD] TPy)).heap[n]? = w7.heap[n]? := fun n hn => heap_alloc_old w7 _ hn
  have hnone : (T.part a b).py x = none := if_neg hx
  have hpy : PyAt W10 (some w7.heap.size) (some W.heap.size) p := by
    refine ⟨w7.heap.size, W.heap.size, rfl, rfl, ?_, (hM7.stays (old _ (by omega))).stays (keep _ (by omega) (by omega))⟩
    rw [← hK1, ← hK2, ← hMD]
    exact (Blk.new w7 TPy #[.map (some W.heap.size), .int .i64 K1, .int .i64 K2, .int .i64 MD]).stays (keep _ (by omega) (by omega))
  obtain ⟨k1, k2⟩ := h.cp.addPy hnone (b := w7.heap.size) (g := W.heap.size) (by omega) (by omega) (Nat.le_refl _) ((Onl.of_gr (S := fun n => n = omc) g9).trans (Onl.of_grown (S := fun n => n = omc) hG rfl) fun _ _ e => e) hpy hM10
  have e9 := part_py T a b hp
  exact ⟨_, h.turn hB (e9 ▸ k1) k2, k2⟩
theorem CpAt.storeOwner {V : World} {x : Nat} {n : Nat} (h : CpAt w0 W t km om B T c kmc omc Bc a b) (g : Gr W V) (hdx : KO.dom x) (hlen : T.oo.length ≤ 10000) (ha : b.length ≤ T.oo.length) :
    ∃ W10, (Instr.mapUpdate TMo (.map (some omc)) (KO.val x) (.pointer (some ⟨n, 0, none⟩))).run Tryz.prog V = .ok () W10 ∧ Mp Tryz.prog KO W10 omc (updF (fun k => ((T.part a b).py k).map fun _ => ptrB (Bc (.py k))) x (some (ptrB (some n)))) (putK x b) ∧ V.grownBy W10 (some omc) :=
  (h.cp.gr g).owners.store KO_ok (by show b.length < 9223372036854775807; omega) (t := TMo) Tryz.underlying49 hdx (ptrB (some n))
theorem lnform {ob : Option Nat} {v : Value} {ws : List (Nat × Int)} {pop : Bool} (h : LnAt W ob v ws pop) : ∃ p n k, v = .slice p n k := by
  rcases h with ⟨r1, r2, r3⟩ | ⟨b', off, cap, cs, r1, r2, _⟩
  · exact ⟨none, 0, 0, r2⟩
  · exact ⟨_, _, _, r2⟩
theorem range_kept {r : Nat} (h : ∀ n, FB Bc n → n ≠ r) (g : Tn W W' Bc Bc') (hr : r < W.heap.size) : (∀ n, FB Bc' n → n ≠ r) := fun n ⟨x, hn⟩ => by
  rcases g.new x n hn with e | e
  · exact h n e
  · omega
end
section
variable {w : World} {t km om : Nat} {B : Tag → Option Nat} {T : Tb}
set_option maxRecDepth 100000 in
set_option maxHeartbeats 8000000 in
theorem Copy_any (h : TbAt w t km om B T) (hol : T.oo.length ≤ 10000) (hkl : T.kk.length ≤ 10000) (hln : ∀ k l, T.lk k = some l → l.line.length ≤ 1000000000) : Calls Tryz.prog 6 #[.pointer (some ⟨t, 0, none⟩)] w (RetCopy T w) := by
  have HM := Lib.hid (missing_no h)
  have HA := Lib.hid (And.intro h (And.intro hol (And.intro hkl (And.intro hln (show ∀ n, FB B n → n < w.heap.size from fun n ⟨x, hn⟩ => h.lt x n hn)))))
  have HN := Lib.hid (New_any w)
  clear h hol hkl hln
  go_enter Tryz.func6, Tryz.ntmps6
  go_wp2_with fail
  refine HM.out.mono ?_
  rintro e w0 ⟨rfl, rfl⟩
  go_wp2_with fail
  refine HN.out.mono ?_
  rintro e W1 ⟨c, kmc, omc, Bc, rfl, hc1, g1, hn1⟩
  have c2 := (HA.out.1.gr g1).c3.2.2
  have z2 := hc1.c3.2.2
  have f2 := hc1.blk.frozen 2
  have hs := hc1.setMany T.many
  rw [part_new] at hs
  obtain ⟨MN, hMN⟩ : ∃ MN, MN = T.many := ⟨_, rfl⟩
  rw [← hMN] at c2 hs
  obtain ⟨W2, hW2⟩ : ∃ W2, W2 = W1.setCell ⟨c, 2, none⟩ (.int .i64 MN) := ⟨_, rfl⟩
  rw [← hW2] at hs
  have C2 : CpAt w W2 t km om B T c kmc omc Bc [] [] := by
    have q1 := HA.out.1.gr g1
    refine ⟨q1.stays fun x n hn => hs.2.onl.block n (q1.lt x n hn) fun e => ?_, hs.1, hn1, Below.trans g1 (hs.2.onl.below g1.size hn1)⟩
    have h1 := HA.out.2.2.2.2 n ⟨x, hn⟩
    have h2 := hn1 n e
    omega
  have HC2 := Lib.hid C2
  have c0 := C2.tb.c3.1
  have hmp := C2.tb.keys
  clear hc1 g1 hs hMN C2

  subst hW2
  go_wp2_with (first
    | (at_range; refine wpList_range_mp KL_ok rfl _ TMk rfl 52 Tryz.underlying48 rfl hmp ?_; intro W3 hrg0 hg0 hs0)
    | go_in)
  obtain ⟨r, hr⟩ : ∃ r, r = (W1.setCell ⟨c, 2, none⟩ (.int .i64 MN)).heap.size := ⟨_, rfl⟩
  rw [← hr] at hrg0 ⊢
  have C3 := Lib.hid (HC2.out.more hg0)
  have hrn : Hid (r < W3.heap.size ∧ w.heap.size ≤ r ∧ (∀ n, FB Bc n → n ≠ r) ∧ ∀ n, FB B n → n ≠ r) := Lib.hid ⟨by rw [hs0, ← hr]; omega, by rw [hr]; exact HC2.out.gr.size, fun n ⟨x, hn⟩ e => by have := HC2.out.cp.lt x n hn; omega, fun n e e2 => by have h1 := HA.out.2.2.2.2 n e; have h2 := HC2.out.gr.size; omega⟩
  clear hg0 hs0 hr HC2 c0 c2 z2 f2 hmp hn1 HN HM
  go_frame
  go_loopw [4] (fun _ wr => ∃ L a Ba, Rg Tryz.prog KL wr km r (fun k => (T.lk k).map fun _ => ptrB (B (.lk k))) T.kk L ∧ Hid (CpAt w wr t km om B T c kmc omc Ba a [] ∧ r < wr.heap.size ∧ (∀ n, FB Ba n → n ≠ r) ∧ (∀ k, k ∈ T.kk ↔ (k ∈ a ∨ L k)) ∧ ∀ k, L k → k ∉ a)) (fun _ wr => wr.rangeLeft km r)
  case atStart => exact ⟨_, [], Bc, hrg0, Lib.hid ⟨C3.out, hrn.out.1, hrn.out.2.2.1, fun k => by simp, fun k _ e => by cases e⟩⟩
  case round =>
    obtain ⟨L, a, Ba, hrg, HL⟩ := hrel
    go_wp2_with (first
      | (at_next; refine wpList_next_mp KL_ok rfl _ rfl rfl hrg ?_ ?_)
      | go_in)
    · intro hno
      have HK : Hid (∀ k, k ∈ a ↔ k ∈ T.kk) := Lib.hid fun k => by
        rw [HL.out.2.2.2.1]
        exact ⟨.inl, fun h => h.elim id fun h => absurd h (by obtain ⟨k1, k2⟩ := k; exact hno k1 k2)⟩
      have hmo := HL.out.1.tb.owners
      have c1 := HL.out.1.tb.c3.2.1
      clear hno hrg hrg0
      go_wp2_with (first
        | (at_range; refine wpList_range_mp KO_ok rfl _ TMo rfl 62 Tryz.underlying49 rfl hmo ?_; intro W4 hrg0 hg0 hs0)
        | go_in)
      obtain ⟨r2, hr2⟩ : ∃ r2, r2 = wr.heap.size := ⟨_, rfl⟩
      rw [← hr2] at hrg0 ⊢
      have C4 := Lib.hid (HL.out.1.more hg0)
      have hrn2 : Hid (r2 < W4.heap.size ∧ w.heap.size ≤ r2 ∧ (∀ n, FB Ba n → n ≠ r2) ∧ ∀ n, FB B n → n ≠ r2) := Lib.hid ⟨by omega, by rw [hr2]; exact HL.out.1.gr.size, fun n ⟨x, hn⟩ e => by have := HL.out.1.cp.lt x n hn; omega, fun n e e2 => by have h1 := HA.out.2.2.2.2 n e; have h2 := HL.out.1.gr.size; omega⟩
      clear hg0 hs0 hr2 HL c1 hmo
      go_frame
      go_loopw [6] (fun _ wy => ∃ L b Bb, Rg Tryz.prog KO wy om r2 (fun o => (T.py o).map fun _ => ptrB (B (.py o))) T.oo L ∧ Hid (CpAt w wy t km om B T c kmc omc Bb a b ∧ r2 < wy.heap.size ∧ (∀ n, FB Bb n → n ≠ r2) ∧ (∀ k, k ∈ T.oo ↔ (k ∈ b ∨ L k)) ∧ ∀ k, L k → k ∉ b)) (fun _ wy => wy.rangeLeft om r2)
      case atStart => exact ⟨_, [], Ba, hrg0, Lib.hid ⟨C4.out, hrn2.out.1, hrn2.out.2.2.1, fun k => by simp, fun k _ e => by cases e⟩⟩
      case round =>
        obtain ⟨L2, b, Bb, hrg, HL⟩ := hrel
        go_wp2_with (first
          | (at_next; refine wpList_next_mp KO_ok rfl _ rfl rfl hrg ?_ ?_)
          | go_in)
        · intro hno
          have HR : Hid (RetCopy T w (.returned (.pointer (some ⟨c, 0, none⟩))) wr) := Lib.hid ⟨c, kmc, omc, Bb, rfl, HL.out.1.tb.whole HL.out.1.cp HK.out (fun o => by rw [HL.out.2.2.2.1]; exact ⟨.inl, fun h => h.elim id fun h => absurd h (hno o)⟩), HL.out.1.gr, HL.out.1.new⟩
          clear hno hrg HL
          go_wp2_with fail
          go_ret
          exact HR.out
        · intro x v w4 hLx hdx p hp hvv hrg4 hlt4 hg4 hs4 hen4
          subst hvv
          have C4 := HL.out.1.next hg4 hrn2.out.2.1 (fun e => hrn2.out.2.2.2 _ e rfl) (fun e => HL.out.2.2.1 _ e rfl)
          obtain ⟨bl, hm, e1, e2, e3, e4⟩ := C4.tb.py x p hp
          rw [e1] at hen4 ⊢
          have hen5 : (Instr.entry (.pointer (some ⟨r2, 0, none⟩))).run Tryz.prog w4 = .ok (.tuple #[.int .u64 (x : Int), .pointer (some ⟨bl, 0, none⟩)]) w4 := hen4
          obtain ⟨K1, hK1⟩ : ∃ K1, K1 = p.key.1 := ⟨_, rfl⟩
          obtain ⟨K2, hK2⟩ : ∃ K2, K2 = p.key.2 := ⟨_, rfl⟩
          obtain ⟨MD, hMD⟩ : ∃ MD, MD = p.mode := ⟨_, rfl⟩
          rw [← hK1, ← hK2, ← hMD] at e3
          have HSW : Hid (∀ V, Gr w4 V → V.cell? ⟨c, 1, none⟩ = some (.map (some omc)) ∧ V.cell? ⟨bl, 0, none⟩ = some (.map (some hm)) ∧ V.cell? ⟨bl, 1, none⟩ = some (.int .i64 K1) ∧ V.cell? ⟨bl, 2, none⟩ = some (.int .i64 K2) ∧ V.cell? ⟨bl, 3, none⟩ = some (.int .i64 MD)) := Lib.hid fun V g =>
            ⟨(C4.cp.gr g).c3.2.1, (e3.gr g).cell 0, (e3.gr g).cell 1, (e3.gr g).cell 2, (e3.gr g).cell 3⟩
          have H20 : Hid (∀ V, Gr w4 V → Calls Tryz.prog 20 #[.map (some hm)] V fun e w' => e = .returned (.map (some V.heap.size)) ∧ Mp Tryz.prog KL w' V.heap.size (unitF p.ks) p.ks ∧ Gr V w' ∧ w'.heap.size = V.heap.size + 1) := Lib.hid fun V g => mclone_k (e4.stays (g.block hm e4.lt))
          have hck : c ≠ omc := fun e => by
            have := C4.cp.inj .tb .om c C4.cp.bt (by rw [e]; exact C4.cp.bo)
            cases this
          have hkb : bl ≠ omc := fun e => by
            have h1 := HA.out.2.2.2.2 bl ⟨_, e1⟩
            have h2 := C4.new omc ⟨_, C4.cp.bo⟩
            omega
          have hkml : om < w4.heap.size := C4.tb.owners.lt
          have hal : b.length ≤ T.oo.length := nodup_le b T.oo C4.cp.owners.nodup fun k hk => (HL.out.2.2.2.1 k).2 (.inl hk)
          have HST : Hid (∀ V, Gr w4 V → ∀ n, ∃ W10, (Instr.mapUpdate TMo (.map (some omc)) (.int .u64 (x : Int)) (.pointer (some ⟨n, 0, none⟩))).run Tryz.prog V = .ok () W10 ∧ (Mp Tryz.prog KO W10 omc (updF (fun k => ((T.part a b).py k).map fun _ => ptrB (Bb (.py k))) x (some (ptrB (some n)))) (putK x b) ∧ V.grownBy W10 (some omc)) ∧ W10.cell? ⟨c, 1, none⟩ = some (.map (some omc)) ∧ W10.cell? ⟨bl, 0, none⟩ = some (.map (some hm)) ∧ W10.cell? ⟨bl, 1, none⟩ = some (.int .i64 K1) ∧ W10.cell? ⟨bl, 2, none⟩ = some (.int .i64 K2) ∧ W10.cell? ⟨bl, 3, none⟩ = some (.int .i64 MD)) := Lib.hid fun V g n => by
            obtain ⟨W10, q1, q2, q3⟩ := C4.storeOwner (n := n) g hdx HA.out.2.1 hal
            obtain ⟨r1, r2, r3, r4, r5⟩ := HSW.out V g
            exact ⟨W10, q1, ⟨q2, q3⟩, q3.cell r1 (fun e => hck (Option.some.inj e)), q3.cell r2 (fun e => hkb (Option.some.inj e)), q3.cell r3 (fun e => hkb (Option.some.inj e)), q3.cell r4 (fun e => hkb (Option.some.inj e)), q3.cell r5 (fun e => hkb (Option.some.inj e))⟩
          have HX := Lib.hid (And.intro C4 (And.intro hp (And.intro hLx (And.intro hK1 (And.intro hK2 (And.intro hMD (And.intro hrg4 (And.intro hlt4 (And.intro hs4 hkml)))))))))
          clear e1 e2 e3 e4 hp C4 hrg4 hg4 hs4 hlt4 hLx hdx hen4 hrg hK1 hK2 hMD hck hkb hal hkml
          go_upto_region 12 with fail
          go_region_held3 (fun V => V.cell? ⟨c, 1, none⟩ = some (.map (some omc)) ∧ V.cell? ⟨bl, 0, none⟩ = some (.map (some hm)) ∧ V.cell? ⟨bl, 1, none⟩ = some (.int .i64 K1) ∧ V.cell? ⟨bl, 2, none⟩ = some (.int .i64 K2) ∧ V.cell? ⟨bl, 3, none⟩ = some (.int .i64 MD)) (first | exact HSW.out _ (Gr.refl _) | exact HSW.out _ (Gr.refl _).drew | exact HSW.out _ H7.out.1 | exact HSW.out _ (Gr.trans H7.out.1 (gr_alloc _ _)) | exact H7.out.2.2.2.2) (first
            | (go_at_call 20; refine (H20.out _ (Gr.refl w4).drew).mono ?_; rintro e w7 ⟨rfl, hM7, g7, s7⟩; obtain ⟨W10, hrun, hMG, hS10⟩ := HST.out (w7.alloc (.cells #[.map (some w4.heap.size), .int .i64 K1, .int .i64 K2, .int .i64 MD] TPy)) (Gr.trans (Gr.trans (Gr.refl w4).drew g7) (gr_alloc _ _)) w7.heap.size; have H7 := Lib.hid (And.intro (Gr.trans (Gr.refl w4).drew g7) (And.intro hM7 (And.intro s7 (And.intro hMG hS10)))); clear hM7 g7 s7 hMG hS10))
          have HE := Lib.hid (HX.out.1.addOwner HX.out.2.2.2.1 HX.out.2.2.2.2.1 HX.out.2.2.2.2.2.1 HA.out.2.2.2.2 HX.out.2.1 (HL.out.2.2.2.2 _ HX.out.2.2.1) H7.out.1 H7.out.2.2.1 H7.out.2.1 H7.out.2.2.2.1.2 H7.out.2.2.2.1.1)
          have g9 : Gr w4 (w7.alloc (.cells #[.map (some w4.heap.size), .int .i64 K1, .int .i64 K2, .int .i64 MD] TPy)) := Gr.trans H7.out.1 (gr_alloc _ _)
          have hG10 := H7.out.2.2.2.1.2
          have hkm : om ≠ omc := fun e => by
            have h1 := HA.out.2.2.2.2 om ⟨_, HA.out.1.bo⟩
            have h2 := HX.out.1.new omc ⟨_, HX.out.1.cp.bo⟩
            omega
          have hrk : r2 ≠ omc := fun e => HL.out.2.2.1 omc ⟨_, HX.out.1.cp.bo⟩ e.symm
          have hrg10 := (HX.out.2.2.2.2.2.2.1.gr g9).kept hG10 (fun e => hkm (Option.some.inj e)) (fun e => hrk (Option.some.inj e))
          have hrw : r2 < w4.heap.size := by rw [HX.out.2.2.2.2.2.2.2.2.1]; exact HL.out.2.1
          have hkml := HX.out.2.2.2.2.2.2.2.2.2
          have hlf : W10.rangeLeft om r2 = w4.rangeLeft om r2 := left_eq ((hG10.block om (Nat.lt_of_lt_of_le hkml g9.size) (fun e => hkm (Option.some.inj e))).trans (g9.block om hkml)) ((hG10.block r2 (Nat.lt_of_lt_of_le hrw g9.size) (fun e => hrk (Option.some.inj e))).trans (g9.block r2 hrw))
          have HR := Lib.hid (And.intro hrg10 (And.intro hlf (And.intro hrw (Nat.lt_of_lt_of_le (Nat.lt_of_lt_of_le hrw g9.size) hG10.size))))
          clear g9 hG10 hkm hrk hrg10 hlf HSW HST H20 hrun hrw hkml
          go_wp2_with fail
          go_roundw
          case rel =>
            obtain ⟨Bn, q1, q2⟩ := HE.out
            refine ⟨_, putK x b, Bn, HR.out.1, Lib.hid ⟨q1, HR.out.2.2.2, range_kept HL.out.2.2.1 q2 HR.out.2.2.1, fun k => ?_, fun k hk e => ?_⟩⟩
            · rw [HL.out.2.2.2.1, mem_putK]
              by_cases e : k = x
              · rw [e]
                exact ⟨fun _ => .inl (.inl rfl), fun _ => .inr HX.out.2.2.1⟩
              · constructor
                · rintro (h | h)
                  · exact .inl (.inr h)
                  · exact .inr ⟨h, e⟩
                · rintro ((h | h) | h)
                  · exact absurd h e
                  · exact .inl h
                  · exact .inr h.1
            · rcases mem_putK.1 e with h | h
              · exact hk.2 h
              · exact HL.out.2.2.2.2 k hk.1 h
          case measure => rw [HR.out.2.1]; exact HX.out.2.2.2.2.2.2.2.1
    · intro x1 x2 v w4 hLx hdx l hl hvv hrg4 hlt4 hg4 hs4 hen4
      subst hvv
      have C4 := HL.out.1.next hg4 hrn.out.2.1 (fun e => hrn.out.2.2.2 _ e rfl) (fun e => HL.out.2.2.1 _ e rfl)
      obtain ⟨bl, hm, lv, e1, e2, e3, e4, e5⟩ := C4.tb.lk (x1, x2) l hl
      rw [e1] at hen4 ⊢
      obtain ⟨p, N, cp, hv, hN⟩ : ∃ p N cp, lv = .slice p N cp ∧ N = l.line.length := by
        rcases e5 with ⟨r1, r2, r3⟩ | ⟨b', off, cap, cs, r1, r2, _⟩
        · exact ⟨none, 0, 0, r2, by rw [r3]; rfl⟩
        · exact ⟨_, l.line.length, cap, r2, rfl⟩
      subst hv
      have hen5 : (Instr.entry (.pointer (some ⟨r, 0, none⟩))).run Tryz.prog w4 = .ok (.tuple #[.agg #[.int .i64 x1, .int .i64 x2], .pointer (some ⟨bl, 0, none⟩)]) w4 := hen4
      obtain ⟨MD, hMD⟩ : ∃ MD, MD = l.mode := ⟨_, rfl⟩
      obtain ⟨W6, hW6⟩ : ∃ W6, W6 = w4.alloc (.cells #[.int .i64 x1, .int .i64 x2] TKey) := ⟨_, rfl⟩
      have g6 : Gr w4 W6 := by rw [hW6]; exact gr_alloc _ _
      have b6 := Blk.new w4 TKey #[.int .i64 x1, .int .i64 x2]
      rw [← hW6] at b6
      rw [← hMD] at e3
      have C6 := C4.more g6
      have HSW : Hid (∀ V, Gr W6 V → V.cell? ⟨c, 0, none⟩ = some (.map (some kmc)) ∧ V.cell? ⟨w4.heap.size, 0, none⟩ = some (.int .i64 x1) ∧ V.cell? ⟨w4.heap.size, 1, none⟩ = some (.int .i64 x2) ∧ V.cell? ⟨bl, 0, none⟩ = some (.int .i64 MD) ∧ V.cell? ⟨bl, 1, none⟩ = some (.map (some hm)) ∧ V.cell? ⟨bl, 2, none⟩ = some (.slice p N cp)) := Lib.hid fun V g =>
        ⟨(C6.cp.gr g).c3.1, (b6.gr g).cell 0, (b6.gr g).cell 1, ((e3.gr g6).gr g).cell 0, ((e3.gr g6).gr g).cell 1, ((e3.gr g6).gr g).cell 2⟩
      have H18 : Hid (∀ V, Gr W6 V → Calls Tryz.prog 18 #[.map (some hm)] V fun e w' => e = .returned (.map (some V.heap.size)) ∧ Mp Tryz.prog KO w' V.heap.size (unitF l.hs) l.hs ∧ Gr V w' ∧ w'.heap.size = V.heap.size + 1) := Lib.hid fun V g => mclone_h ((e4.stays (g6.block hm e4.lt)).stays (g.block hm (Nat.lt_of_lt_of_le e4.lt g6.size)))
      have H19 : Hid (∀ V, Gr W6 V → Calls Tryz.prog 19 #[.slice p N cp] V fun e w' => ∃ v' ob', e = .returned v' ∧ LnAt w' ob' v' l.line false ∧ Gr V w' ∧ (∀ n, ob' = some n → V.heap.size ≤ n ∧ n < w'.heap.size)) := Lib.hid fun V g => lclone_any ((e5.stays fun n hn => g6.block n (e5.lt n hn)).stays fun n hn => g.block n (Nat.lt_of_lt_of_le (e5.lt n hn) g6.size)) (HA.out.2.2.2.1 _ _ hl)
      have hck : c ≠ kmc := fun e => by
        have := C6.cp.inj .tb .km c C6.cp.bt (by rw [e]; exact C6.cp.bk)
        cases this
      have hkb : bl ≠ kmc := fun e => by
        have h1 := HA.out.2.2.2.2 bl ⟨_, e1⟩
        have h2 := C6.new kmc ⟨_, C6.cp.bk⟩
        omega
      have hkk : kmc < w4.heap.size := C4.cp.lt _ _ C4.cp.bk
      have hkml : km < w4.heap.size := C4.tb.keys.lt
      have hal : a.length ≤ T.kk.length := nodup_le a T.kk C6.cp.keys.nodup fun k hk => (HL.out.2.2.2.1 k).2 (.inl hk)
      have HST : Hid (∀ V, Gr W6 V → ∀ n, ∃ W10, (Instr.mapUpdate TMk (.map (some kmc)) (.agg #[.int .i64 x1, .int .i64 x2]) (.pointer (some ⟨n, 0, none⟩))).run Tryz.prog V = .ok () W10 ∧ (Mp Tryz.prog KL W10 kmc (updF (fun k => ((T.part a []).lk k).map fun _ => ptrB (Ba (.lk k))) (x1, x2) (some (ptrB (some n)))) (putK (x1, x2) a) ∧ V.grownBy W10 (some kmc)) ∧ W10.cell? ⟨c, 0, none⟩ = some (.map (some kmc)) ∧ W10.cell? ⟨w4.heap.size, 0, none⟩ = some (.int .i64 x1) ∧ W10.cell? ⟨w4.heap.size, 1, none⟩ = some (.int .i64 x2) ∧ W10.cell? ⟨bl, 0, none⟩ = some (.int .i64 MD) ∧ W10.cell? ⟨bl, 1, none⟩ = some (.map (some hm)) ∧ W10.cell? ⟨bl, 2, none⟩ = some (.slice p N cp)) := Lib.hid fun V g n => by
        obtain ⟨W10, q1, q2, q3⟩ := C6.storeKey (n := n) g hdx HA.out.2.2.1 hal
        obtain ⟨r1, r2, r3, r4, r5, r6⟩ := HSW.out V g
        exact ⟨W10, q1, ⟨q2, q3⟩, q3.cell r1 (fun e => hck (Option.some.inj e)), q3.cell r2 (fun e => by have := Option.some.inj e; simp at this; omega), q3.cell r3 (fun e => by have := Option.some.inj e; simp at this; omega), q3.cell r4 (fun e => hkb (Option.some.inj e)), q3.cell r5 (fun e => hkb (Option.some.inj e)), q3.cell r6 (fun e => hkb (Option.some.inj e))⟩
      have HX := Lib.hid (And.intro C6 (And.intro hl (And.intro hLx (And.intro hdx (And.intro hMD (And.intro hrg4 (And.intro g6 (And.intro hlt4 (And.intro hW6 (And.intro hs4 hkml))))))))))
      clear e1 e2 e3 e4 e5 hl C4 C6 hN hrg4 hg4 hs4 hlt4 hLx hdx hen4 g6 b6 hrg hMD hW6 hck hkb hkk hal hkml
      go_upto_region 8 with fail
      rw [show (w4.alloc (.cells #[.int .i64 x1, .int .i64 x2] 33)) = W6 from HX.out.2.2.2.2.2.2.2.2.1.symm]
      go_region_held3 (fun V => V.cell? ⟨c, 0, none⟩ = some (.map (some kmc)) ∧ V.cell? ⟨w4.heap.size, 0, none⟩ = some (.int .i64 x1) ∧ V.cell? ⟨w4.heap.size, 1, none⟩ = some (.int .i64 x2) ∧ V.cell? ⟨bl, 0, none⟩ = some (.int .i64 MD) ∧ V.cell? ⟨bl, 1, none⟩ = some (.map (some hm)) ∧ V.cell? ⟨bl, 2, none⟩ = some (.slice p N cp)) (first | exact HSW.out _ (Gr.refl _) | exact HSW.out _ (Gr.refl _).drew | exact HSW.out _ H7.out.1 | exact HSW.out _ H8.out.1 | exact HSW.out _ (Gr.trans H8.out.1 (gr_alloc _ _)) | exact H8.out.2.2.2.2.2) (first
        | (go_at_call 18; refine (H18.out _ (Gr.refl W6).drew).mono ?_; rintro e w7 ⟨rfl, hM7, g7, s7⟩; have H7 := Lib.hid (And.intro (Gr.trans (Gr.refl W6).drew g7) (And.intro hM7 s7)); clear hM7 g7 s7)
        | (go_at_call 19; refine (H19.out w7 H7.out.1).mono ?_; rintro e w8 ⟨v8, ob8, rfl, hl8, g8, hn8⟩; obtain ⟨p8, n8, c8, hv8⟩ := lnform hl8; subst hv8; obtain ⟨W10, hrun, hMG, hS10⟩ := HST.out (w8.alloc (.cells #[.int .i64 MD, .map (some W6.heap.size), .slice p8 n8 c8] TLk)) (Gr.trans (Gr.trans H7.out.1 g8) (gr_alloc _ _)) w8.heap.size; have H8 := Lib.hid (And.intro (Gr.trans H7.out.1 g8) (And.intro hl8 (And.intro g8 (And.intro hn8 (And.intro hMG hS10))))); clear hl8 g8 hn8 hMG hS10))
      have HE := Lib.hid (HX.out.1.addKey HX.out.2.2.2.2.1 HA.out.2.2.2.2 HX.out.2.1 (HL.out.2.2.2.2 _ HX.out.2.2.1) H7.out.1 H7.out.2.2 H7.out.2.1 H8.out.2.2.1 H8.out.2.1 H8.out.2.2.2.1 H8.out.2.2.2.2.1.2 H8.out.2.2.2.2.1.1)
      have g9 : Gr w4 (w8.alloc (.cells #[.int .i64 MD, .map (some W6.heap.size), .slice p8 n8 c8] TLk)) := Gr.trans (Gr.trans HX.out.2.2.2.2.2.2.1 H8.out.1) (gr_alloc _ _)
      have hG10 := H8.out.2.2.2.2.1.2
      have hkm : km ≠ kmc := fun e => by
        have h1 := HA.out.2.2.2.2 km ⟨_, HA.out.1.bk⟩
        have h2 := HX.out.1.new kmc ⟨_, HX.out.1.cp.bk⟩
        omega
      have hrk : r ≠ kmc := fun e => HL.out.2.2.1 kmc ⟨_, HX.out.1.cp.bk⟩ e.symm
      have hrg10 := (HX.out.2.2.2.2.2.1.gr g9).kept hG10 (fun e => hkm (Option.some.inj e)) (fun e => hrk (Option.some.inj e))
      have hrw : r < w4.heap.size := by rw [HX.out.2.2.2.2.2.2.2.2.2.1]; exact HL.out.2.1
      have hkml := HX.out.2.2.2.2.2.2.2.2.2.2
      have hlf : W10.rangeLeft km r = w4.rangeLeft km r := left_eq ((hG10.block km (Nat.lt_of_lt_of_le hkml g9.size) (fun e => hkm (Option.some.inj e))).trans (g9.block km hkml)) ((hG10.block r (Nat.lt_of_lt_of_le hrw g9.size) (fun e => hrk (Option.some.inj e))).trans (g9.block r hrw))
      have HR := Lib.hid (And.intro hrg10 (And.intro hlf (And.intro (Nat.lt_of_lt_of_le hrw HX.out.2.2.2.2.2.2.1.size) (Nat.lt_of_lt_of_le (Nat.lt_of_lt_of_le hrw g9.size) hG10.size))))
      clear g9 hG10 hkm hrk hrg10 hlf HSW HST H18 H19 hrun hrw hkml
      go_wp2_with fail
      go_roundw
      case rel =>
        obtain ⟨Bn, q1, q2⟩ := HE.out
        refine ⟨_, putK (x1, x2) a, Bn, HR.out.1, Lib.hid ⟨q1, HR.out.2.2.2, range_kept HL.out.2.2.1 q2 HR.out.2.2.1, fun k => ?_, fun k hk e => ?_⟩⟩
        · rw [HL.out.2.2.2.1, mem_putK]
          by_cases e : k = (x1, x2)
          · rw [e]
            exact ⟨fun _ => .inl (.inl rfl), fun _ => .inr HX.out.2.2.1⟩
          · constructor
            · rintro (h | h)
              · exact .inl (.inr h)
              · exact .inr ⟨h, e⟩
            · rintro ((h | h) | h)
              · exact absurd h e
              · exact .inl h
              · exact .inr h.1
        · rcases mem_putK.1 e with h | h
          · exact hk.2 h
          · exact HL.out.2.2.2.2 k hk.1 h
      case measure => rw [HR.out.2.1]; exact HX.out.2.2.2.2.2.2.2.1
end
end Go.Proofs.YtadopbpfnnpnaaaGreat

