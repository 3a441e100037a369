/-
  Texts, put together: Wal11 Wal12.
-/
import Derived.Test.YtaemmknijmhnoaaGreatK24
set_option linter.unusedVariables false
set_option linter.unusedSimpArgs false
/-
  All that does not last is written.
-/
namespace Go.Proofs.YtaemmknijmhnoaaGreat
open Go.RowKit Go.Maps Go.Shelf
attribute [local go_sem] Oper.semAt_some

/-- The j-th sector that is written, and where. -/
def wrI (L : Lg) (j : Nat) : Nat := 3 + (L.lasts / 232 + j) % L.l.toNat
def wrX (L : Lg) (j : Nat) : Sec := Sx (secL (L.lasts / 232 + j) L.epoch ((L.txt.drop (232 * j)).take 232))
/-- So many are written, from the j-th on, and a barrier. -/
def wrAll (L : Lg) : Nat → Nat → St → St × Int
  | 0, _, s => (BaS s, BaE s)
  | n + 1, j, s => if s.refuses then ({ s with dead := true }, 8) else wrAll L n (j + 1) (s.wrote (wrI L j) (wrX L j))
theorem chunk_eq {xs : List Int} {a n m : Nat} (hl : xs.length = m) (hn : n = min 232 (m - a)) : (xs.take (a + n)).drop a = (xs.drop a).take 232 := by
  rw [List.drop_take, show a + n - a = n by omega]
  rcases Nat.le_total 232 (m - a) with h | h
  · rw [show n = 232 by omega]
  · rw [List.take_of_length_le (by rw [List.length_drop]; omega), List.take_of_length_le (by rw [List.length_drop]; omega)]

abbrev TPL2 : TypeId := 25
abbrev TEr : TypeId := 37
/-- What lies there while sectors are written. -/
structure WaAt (w : World) (F0 : Nat → Prop) (X b : Nat) (p : Value) (q : Option Addr) (m c mm : Nat) (L : Lg) (r : Int) (k : Nat) (s : St) (F : Nat → Prop) (W : World) : Prop where
  dk : DkM W F p mm s
  lg : LgAt W b p q m c L
  apart : ∀ k, F k → ¬ lgS b q k
  box : Blk W w.heap.size TPL2 #[.pointer (some ⟨b, 0, none⟩)]
  res : Blk W (w.heap.size + 1) TEr #[.int .i64 r]
  num : Blk W (w.heap.size + 1 + 1) TU #[.int .u64 (k : Int)]
  upd : Upd (wlS F0 b q) (wlS F b q) w W
  far : ∀ k, F k → k < w.heap.size ∨ X ≤ k
  ml : mm < w.heap.size
  xs : w.heap.size + 1 + 1 < X ∧ X ≤ W.heap.size
  lgl : ∀ k, lgS b q k → k < w.heap.size
section
variable {w : World} {F0 : Nat → Prop} {X b : Nat} {p : Value} {q : Option Addr} {m c mm : Nat} {L : Lg} {r : Int} {k : Nat} {s : St} {F : Nat → Prop} {W W' : World}
theorem WaAt.wl (h : WaAt w F0 X b p q m c mm L r k s F W) : Wl W F b p q m c s L := ⟨h.dk.dk, h.lg, h.apart⟩
theorem WaAt.write {F' : Nat → Prop} {s' : St} (h : WaAt w F0 X b p q m c mm L r k s F W) (hd : DkM W' F' p mm s') (hu : Upd F F' W W') : WaAt w F0 X b p q m c mm L r k s' F' W' := by
  obtain ⟨h1, h2⟩ := hu.other h.lg.low h.apart
  have hx := h.xs
  have hb : ∀ j, w.heap.size ≤ j → j < X → W'.heap[j]? = W.heap[j]? := fun j hj hj2 => hu.block j (by omega) (fun hf => by have := h.far j hf; omega)
  refine ⟨hd, h.lg.stays h1 hu.size, h2, h.box.stays (hb _ (by omega) (by omega)), h.res.stays (hb _ (by omega) (by omega)), h.num.stays (hb _ (by omega) (by omega)), h.upd.comp ⟨hu.os, hu.tape, hu.output, hu.size, fun j hj hn => hu.block j hj (fun e => hn (.inl e)), fun j hj => hj.elim (fun e => (hu.fresh j e).imp .inl id) (fun e => .inl (.inr e))⟩, fun j hj => ?_, h.ml, ⟨hx.1, Nat.le_trans hx.2 hu.size⟩, h.lgl⟩
  rcases hu.fresh j hj with h3 | h3
  · exact h.far j h3
  · exact .inr (by omega)
theorem WaAt.kept {F' : Nat → Prop} (h : WaAt w F0 X b p q m c mm L r k s F W) (hu : Upd F F' W W') : KeepsFrom X W W' ∧ ∀ Bs Bn, w.heap.size ≤ Bs → Bs < X → w.heap.size ≤ Bn → Bn < X → HoldS firm (fun k => k = Bs ∨ k = Bn) W W' := by
  refine ⟨⟨hu.size, fun j o hj h1 h2 => ?_⟩, fun Bs Bn h1 h2 h3 h4 => ⟨hu.size, fun j o hj h5 _ => ?_⟩⟩
  · refine (hu.block j (Array.getElem?_eq_some_iff.1 h1).1 (fun hf => ?_)).trans h1
    rcases h.dk.2 j hf with e | ⟨cs, t, fr, hc⟩
    · have := h.ml; have := h.xs.1; omega
    · rw [h1] at hc
      cases hc
      cases h2
  · refine (hu.block j (Array.getElem?_eq_some_iff.1 h5).1 (fun hf => ?_)).trans h5
    have := h.far j hf
    rcases hj with rfl | rfl <;> omega
theorem WaAt.held (h : WaAt w F0 X b p q m c mm L r k s F W) {row : Option Nat} (g : W.grownBy W' row) (hr : ∀ j, row = some j → X ≤ j ∧ ∃ o : Obj, W.heap[j]? = some o ∧ o.isCells = false) : WaAt w F0 X b p q m c mm L r k s F W' := by
  have hk := hold_grown g (fun j e => (hr j e).2)
  have hx := h.xs
  have hF : ∀ j, F j → W'.heap[j]? = W.heap[j]? := fun j hj => by
    rcases h.dk.2 j hj with e | ⟨cs, t, fr, hc⟩
    · refine g.block j (h.dk.dk.low j hj) (fun e2 => ?_)
      have := (hr j e2.symm).1
      have := h.ml
      omega
    · exact (hk.same j _ trivial hc rfl).trans hc.symm
  have hL : ∀ j, j < w.heap.size → j < W.heap.size → W'.heap[j]? = W.heap[j]? := fun j hj hj2 => g.block j hj2 (fun e => by have := (hr j e.symm).1; omega)
  refine ⟨h.dk.stays hF g.size, h.lg.stays (fun j hj => hL j (h.lgl j hj) (h.lg.low j hj)) g.size, h.apart, h.box.held hk, h.res.held hk, h.num.held hk, ⟨g.os.trans h.upd.os, g.tape.trans h.upd.tape, g.output.trans h.upd.output, Nat.le_trans h.upd.size g.size, fun j hj hn => (hL j hj (Nat.lt_of_lt_of_le hj h.upd.size)).trans (h.upd.block j hj hn), h.upd.fresh⟩, h.far, h.ml, ⟨hx.1, Nat.le_trans hx.2 g.size⟩, h.lgl⟩
theorem WaAt.cell (h : WaAt w F0 X b p q m c mm L r k s F W) (i : Nat) (hi : w.heap.size ≤ i) (hi2 : i < X) (u : Value) : (∀ j, j ≠ i → (W.setCell ⟨i, 0, none⟩ u).heap[j]? = W.heap[j]?) ∧ DkM (W.setCell ⟨i, 0, none⟩ u) F p mm s ∧ LgAt (W.setCell ⟨i, 0, none⟩ u) b p q m c L ∧ Upd (wlS F0 b q) (wlS F b q) w (W.setCell ⟨i, 0, none⟩ u) := by
  have ho := Only.cell i 0 W u
  have hsz : W.heap.size ≤ (W.setCell ⟨i, 0, none⟩ u).heap.size := Nat.le_of_eq ho.size.symm
  exact ⟨ho.block, h.dk.stays (fun j hj => ho.block j (fun e => by have := h.far j hj; omega)) hsz, h.lg.stays (fun j hj => ho.block j (fun e => by have := h.lgl j hj; omega)) hsz, ⟨ho.os.trans h.upd.os, ho.tape.trans h.upd.tape, ho.output.trans h.upd.output, Nat.le_trans h.upd.size hsz, fun j hj hn => (ho.block j (by omega)).trans (h.upd.block j hj hn), h.upd.fresh⟩⟩
theorem WaAt.next (h : WaAt w F0 X b p q m c mm L r k s F W) {k' : Nat} (u : Int) (hu : u = (k' : Int)) : WaAt w F0 X b p q m c mm L r k' s F (W.setCell ⟨w.heap.size + 1 + 1, 0, none⟩ (.int .u64 u)) := by
  have hx := h.xs
  obtain ⟨h1, h2, h3, h4⟩ := h.cell (w.heap.size + 1 + 1) (by omega) (by omega) (.int .u64 u)
  subst hu
  exact ⟨h2, h3, h.apart, h.box.stays (h1 _ (by omega)), h.res.stays (h1 _ (by omega)), h.num.set 0 _, h4, h.far, h.ml, ⟨hx.1, by simpa using hx.2⟩, h.lgl⟩
theorem WaAt.tell (h : WaAt w F0 X b p q m c mm L r k s F W) (r' : Int) : WaAt w F0 X b p q m c mm L r' k s F (W.setCell ⟨w.heap.size + 1, 0, none⟩ (.int .i64 r')) := by
  have hx := h.xs
  obtain ⟨h1, h2, h3, h4⟩ := h.cell (w.heap.size + 1) (by omega) (by omega) (.int .i64 r')
  exact ⟨h2, h3, h.apart, h.box.stays (h1 _ (by omega)), h.res.set 0 _, h.num.stays (h1 _ (by omega)), h4, h.far, h.ml, ⟨hx.1, by simpa using hx.2⟩, h.lgl⟩
end

end Go.Proofs.YtaemmknijmhnoaaGreat

/-
  All that does not last is written: the walk.
-/
namespace Go.Proofs.YtaemmknijmhnoaaGreat
open Go.RowKit Go.Maps Go.Shelf
attribute [local go_sem] Oper.semAt_some

set_option maxRecDepth 100000 in
set_option maxHeartbeats 4000000 in
theorem wwriteAll_any {F : Nat → Prop} {b : Nat} {p : Value} {q : Option Addr} {m c : Nat} {s : St} {L : Lg} (w : World) (h : Wl w F b p q m c s L) (ok : L.Ok) (hn : 3 + L.l ≤ s.ls.length) (hw : s.writes ≤ 900000000) :
    Calls Tryz.prog 88 #[.pointer (some ⟨b, 0, none⟩)] w (RetWl (.int .i64 (wrAll L (chN m) 0 s).2) (wrAll L (chN m) 0 s).1 L F b p q w) := by
  obtain ⟨F1, mm, hF1, hdm⟩ := h.dk.tight
  obtain ⟨D, hD⟩ := h.lg.dsk
  have hml := h.lg.mlen
  have hm1 : m ≤ 1000000 := by have := ok.len.2; omega
  have hcap := h.lg.txt.1.cap
  have hlb : L.lasts ≤ 9100000000000000000 := by have := ok.len.1; omega
  have HOK := Lib.hid ok
  have HN := Lib.hid (show 3 + L.l ≤ s.ls.length ∧ s.writes ≤ 900000000 from ⟨hn, hw⟩)
  obtain ⟨K, hK⟩ : ∃ K, K = L.lasts / 232 := ⟨_, rfl⟩
  have HK := Lib.hid hK
  have HKs : Hid (∀ W, Calls Tryz.prog 98 #[.int .u64 (L.lasts : Int)] W fun e w' => e = .returned (.int .u64 (K : Int)) ∧ W = w') := Lib.hid fun W => by rw [hK]; exact sectorOf_any _ W (by omega)
  -- the three cells
  obtain ⟨W1, hW1⟩ : ∃ W1, W1 = (w.alloc (.cells #[.pointer (some ⟨b, 0, none⟩)] TPL2)).alloc (.cells #[.int .i64 0] TEr) := ⟨_, rfl⟩
  have hb1 := Blk.new w TPL2 #[.pointer (some ⟨b, 0, none⟩)]
  have hb2 := Blk.new (w.alloc (.cells #[.pointer (some ⟨b, 0, none⟩)] TPL2)) TEr #[.int .i64 0]
  have hs1 : W1.heap.size = w.heap.size + 1 + 1 := by rw [hW1]; simp
  have H1 : Hid (Blk W1 w.heap.size TPL2 #[.pointer (some ⟨b, 0, none⟩)] ∧ Blk W1 (w.heap.size + 1) TEr #[.int .i64 0] ∧ Gr w W1) := Lib.hid (by
    simp only [World.size_alloc] at hb2
    rw [← hW1] at hb2
    refine ⟨by rw [hW1]; exact hb1.gr (Gr.new _ _), hb2, by rw [hW1]; exact Gr.trans (Gr.new _ _) (Gr.new _ _)⟩)
  have hW1' : (w.alloc (.cells #[.pointer (some ⟨b, 0, none⟩)] 25)).alloc (.cells #[.int .i64 0] 37) = W1 := hW1.symm
  have HW1 := Lib.hid hW1'
  obtain ⟨W2, hW2⟩ : ∃ W2, W2 = W1.alloc (.cells #[.int .u64 (K : Int)] TU) := ⟨_, rfl⟩
  have hb4 := Blk.new W1 TU #[.int .u64 (K : Int)]
  rw [← hW2, hs1] at hb4
  have g12 : Gr W1 W2 := by rw [hW2]; exact Gr.new W1 _
  have hs2 : W2.heap.size = w.heap.size + 1 + 1 + 1 := by rw [hW2]; simp [hs1]
  have H2 : Hid (Blk W2 (w.heap.size + 1 + 1) TU #[.int .u64 (K : Int)] ∧ Gr w W2 ∧ Gr W1 W2 ∧ W2.heap.size = w.heap.size + 1 + 1 + 1) := Lib.hid ⟨hb4, Gr.trans H1.out.2.2 g12, g12, hs2⟩
  have hW2' : W1.alloc (.cells #[.int .u64 (K : Int)] 36) = W2 := hW2.symm
  have HW2 := Lib.hid hW2'
  have HH := Lib.hid h
  have HF1 := Lib.hid hF1
  have HDM := Lib.hid hdm
  have HDD := Lib.hid hD
  have HS1 := Lib.hid hs1
  have c0 : ((w.alloc (.cells #[.pointer (some ⟨b, 0, none⟩)] 25)).alloc (.cells #[.int .i64 0] 37)).cell? ⟨w.heap.size, 0, none⟩ = some (.pointer (some ⟨b, 0, none⟩)) := by rw [hW1']; exact H1.out.1.cell 0
  have c6 : ((w.alloc (.cells #[.pointer (some ⟨b, 0, none⟩)] 25)).alloc (.cells #[.int .i64 0] 37)).cell? ⟨b, 6, none⟩ = some (.int .u64 (L.lasts : Int)) := by rw [hW1']; exact (h.lg.gr H1.out.2.2).blk.c10.2.2.2.2.2.2.1
  have d0 : (W1.alloc (.cells #[.int .u64 (K : Int)] 36)).cell? ⟨w.heap.size, 0, none⟩ = some (.pointer (some ⟨b, 0, none⟩)) := by rw [hW2']; exact (H1.out.1.gr H2.out.2.2.1).cell 0
  have d7 : (W1.alloc (.cells #[.int .u64 (K : Int)] 36)).cell? ⟨b, 7, none⟩ = some (.slice q m c) := by rw [hW2']; exact (h.lg.gr H2.out.2.1).blk.c10.2.2.2.2.2.2.2.1
  clear hW1 hW1' hW2 hW2' hb1 hb2 hb4 g12 hs1 hs2 h hdm hF1 hn hw ok hK hD hml
  refine (callsIn_wide (n := 12)).1 ?_
  refine callsIn_of_wp_marks Tryz.func88 rfl trivial ?_ rfl
  simp only [Tryz.ntmps88, List.size_toArray, List.length_cons, List.length_nil, Nat.reduceAdd, Nat.reduceSub, Array.replicate_succ, Array.replicate_zero, List.push_toArray, List.append_toArray, List.nil_append, List.cons_append]
  gi_wp2_with fail
  rw [HW1.out]
  refine ⟨trivial, ?_⟩
  refine (callsIn_wide.2 (HKs.out W1)).mono ?_
  rintro e w1 ⟨rfl, rfl⟩
  gi_wp2_with fail
  rw [HW2.out, HS1.out]
  refine ⟨trivial, ?_⟩
  refine (callsIn_wide.2 (chunk_any q m c W2)).mono ?_
  rintro e W3 ⟨rfl, hbs, hbn, g3, hs3⟩
  rw [H2.out.2.2.2] at hbs hbn hs3 ⊢
  obtain ⟨X, hX⟩ : ∃ X, X = W3.heap.size := ⟨_, rfl⟩
  have HX := Lib.hid hX
  have HBs := Lib.hid hbs
  have HBn := Lib.hid hbn
  have HW3 : Hid (WaAt w F X b p q m c mm L 0 (K + 0) s F1 W3) := Lib.hid (by
    have g := Gr.trans H2.out.2.1 g3
    have hh := HH.out.gr g
    refine ⟨HDM.out.gr g, hh.lg, fun k hk => HH.out.apart k (HF1.out k hk), H1.out.1.gr (Gr.trans H2.out.2.2.1 g3), H1.out.2.1.gr (Gr.trans H2.out.2.2.1 g3), H2.out.1.gr g3, ⟨g.os, g.tape, g.output, g.size, fun k hk _ => g.block k hk, fun k hk => .inl (hk.imp (HF1.out k) id)⟩, fun k hk => .inl (HH.out.dk.low k (HF1.out k hk)), ?_, ⟨by omega, by omega⟩, HH.out.lg.low⟩
    obtain ⟨⟨b0, lv0, L0, _, hd0⟩, _⟩ := HDM.out
    exact hd0.map.lt)
  have HXs : Hid (w.heap.size + 1 + 1 + 1 + 1 < X) := Lib.hid (by omega)
  clear hbs hbn g3 hs3 c0 c6 d0 d7 H1 H2 HW1 HW2 HKs
  gi_wp2_with fail
  refine wpIn_range_toldF (F := Fence.wide) rfl (by omega) (gf := 132) (lb := #[.pointer (some ⟨w.heap.size + 1 + 1 + 1, 0, none⟩), .pointer (some ⟨w.heap.size + 1 + 1 + 1 + 1, 0, none⟩)]) rfl trivial (enters_of Tryz.func132 (by kernel_rfl) rfl)
    (chunk1_told 11 (by omega) _ _ q m c W3 HBs.out HBn.out hcap hm1).keeps (Below.refl _ _) (fun _ => rfl)
    (fun pre V => ∃ s' F', WaAt w F X b p q m c mm L 0 (K + pre.length) s' F' V ∧ wrAll L (chN m) 0 s = wrAll L (chN m - pre.length) pre.length s' ∧ (s'.ls.length = s.ls.length ∧ s'.writes ≤ s.writes + pre.length ∧ pre.length ≤ chN m))
    (fun pre V => ∃ s' F' k', WaAt w F X b p q m c mm L 8 k' s' F' V ∧ wrAll L (chN m) 0 s = (s', 8)) ?hI ?hIr ⟨s, F1, HW3.out, rfl, rfl, Nat.le_refl _, Nat.zero_le _⟩
    (fun tm x (_ : Unit) => (tm.setIfInBounds 16 (.slice x.2.1 x.2.2 x.2.2)).setIfInBounds 4 (.slice x.2.1 x.2.2 x.2.2)) (fun pre x _ V => ChG q m c pre x V) ?hBx ?assign ?body ?done ?stop
  case hI =>
    rintro pre U V row ⟨s', F', h1, h2⟩ hg hr
    exact ⟨s', F', h1.held hg (fun j e => by have := hr j e; rw [← HX.out] at this; exact this), h2⟩
  case hIr =>
    rintro pre U V row ⟨s', F', k', h1, h2⟩ hg hr
    exact ⟨s', F', k', h1.held hg (fun j e => by have := hr j e; rw [← HX.out] at this; exact this), h2⟩
  case hBx =>
    rintro pre x R z U V row h hg hr
    exact h
  case assign =>
    rintro l pre x V K' hi hx hK
    simp only [List.setIfInBounds_toArray, List.set_cons_succ, List.set_cons_zero] at hK
    dsimp only [encC]
    gi_wp2_with fail
    exact hK () _ (KeepsFrom.refl _ _) (HoldS.refl _ _ _) hi hx
  case body =>
    rintro l pre x R W8 hlw ⟨s', F', hi, hall, hls, hwr, hpre⟩ hx
    obtain ⟨j, qj, nj⟩ := x
    obtain ⟨hx1, hx2, hx3, hx4⟩ := hx
    simp only at hx1 hx2 hx3 hx4 ⊢
    subst hx1
    simp only [List.setIfInBounds_toArray, List.set_cons_succ, List.set_cons_zero]
    obtain ⟨J, hJ⟩ : ∃ J, J = K + pre.length := ⟨_, rfl⟩
    rw [← hJ] at hi
    have hlt : pre.length < chN m := by unfold chN; omega
    have hlen := HH.out.lg.mlen
    have hyc := hx4.byt W8 _ hi.lg.txt.1
    rw [show 232 * pre.length + nj - 232 * pre.length = nj by omega, chunk_eq (m := m) hlen.symm hx3] at hyc
    have HWr : Hid (Calls Tryz.prog 104 #[.pointer (some ⟨b, 0, none⟩), .int .u64 (J : Int), .slice qj nj nj] W8 fun e w' => e = .returned (.int .i64 (putDE s')) ∧ ∃ F2, DkM w' F2 p mm (putD s' (wrI L pre.length) (wrX L pre.length)) ∧ Upd F' F2 W8 w') := Lib.hid (by
      have h := wwrite_m D b _ _ _ _ _ _ _ _ _ _ _ _ mm J qj nj nj _ W8 hi.lg.blk HDD.out hi.dk HOK.out.may (by have := HK.out; omega) (by have := HOK.out.e1; omega) hyc (by omega) (by rw [hls]; exact HN.out.1) (by have := HN.out.2; have := hlen; unfold chN at hpre; omega)
      have e1 : 3 + J % L.l.toNat = wrI L pre.length := by unfold wrI; rw [hJ, HK.out]
      have e2 : Sx (secL J L.epoch ((L.txt.drop (232 * pre.length)).take 232)) = wrX L pre.length := by unfold wrX; rw [hJ, HK.out]
      rw [e1, e2] at h
      exact h)
    have HI := Lib.hid hi
    have HA : Hid (wrAll L (chN m) 0 s = wrAll L (chN m - pre.length - 1 + 1) pre.length s') := Lib.hid (by rw [hall, show chN m - pre.length - 1 + 1 = chN m - pre.length by omega])
    have HL2 : Hid (s'.ls.length = s.ls.length ∧ s'.writes ≤ s.writes + pre.length ∧ pre.length < chN m) := Lib.hid ⟨hls, hwr, hlt⟩
    have HJ := Lib.hid hJ
    have HLW := Lib.hid hlw
    have n1 := hi.box.cell 0
    have n3 := hi.num.cell 0
    simp at n1 n3
    obtain ⟨E, hE⟩ : ∃ E, E = putDE s' := ⟨_, rfl⟩
    rw [← hE] at HWr
    have HE := Lib.hid hE
    clear hi hall hls hwr hpre hx2 hx3 hx4 hyc hJ hlt hlen hlw hE
    gi_wp2_with fail
    refine ⟨trivial, ?_⟩
    refine ((callsIn_wide.2 HWr.out).inRound l).mono ?_
    rintro e W9 ⟨rfl, F2, hd2, hu2⟩
    have hk9 := HI.out.kept hu2
    have HI9 := Lib.hid (HI.out.write hd2 hu2)
    have HK9 : Hid (KeepsFrom W3.heap.size W8 W9) := Lib.hid (by rw [← HX.out]; exact hk9.1)
    have HH9 : Hid (HoldS firm (fun k => k = w.heap.size + 1 + 1 + 1 ∨ k = w.heap.size + 1 + 1 + 1 + 1) W8 W9) := Lib.hid (hk9.2 _ _ (by omega) (by have := HXs.out; omega) (by omega) HXs.out)
    clear hd2 hu2 hk9 n1 n3 HWr
    by_cases hr : s'.refuses
    · have hE8 : E = 8 := by rw [HE.out]; unfold putDE; rw [if_pos hr]
      have HR9 : Hid (wrAll L (chN m) 0 s = (putD s' (wrI L pre.length) (wrX L pre.length), 8)) := Lib.hid (by rw [HA.out]; unfold wrAll putD; rw [if_pos hr, if_pos hr])
      subst hE8
      have f2 := HI9.out.res.frozen 0
      have n2 := HI9.out.res.cell 0
      simp at n2
      clear hr HA HE
      gi_wp2_with fail
      exact And.intro (HK9.out.trans ((KeepsOthers.setCell _ _ _).from _)) ⟨_, F2, J, HI9.out.tell 8, HR9.out⟩
    · have hE0 : E = 0 := by rw [HE.out]; unfold putDE; rw [if_neg hr]
      have HR9 : Hid (wrAll L (chN m) 0 s = wrAll L (chN m - (pre ++ [(pre.length, qj, nj)]).length) (pre ++ [(pre.length, qj, nj)]).length (putD s' (wrI L pre.length) (wrX L pre.length)) ∧ ((putD s' (wrI L pre.length) (wrX L pre.length)).ls.length = s.ls.length ∧ (putD s' (wrI L pre.length) (wrX L pre.length)).writes ≤ s.writes + (pre ++ [(pre.length, qj, nj)]).length ∧ (pre ++ [(pre.length, qj, nj)]).length ≤ chN m)) := Lib.hid (by
        have h4 := HL2.out
        have hp := putD_alive (i := wrI L pre.length) (x := wrX L pre.length) hr
        refine ⟨?_, by rw [hp.2.2]; exact h4.1, by rw [hp.2.1]; simp; omega, by simp; omega⟩
        rw [HA.out, List.length_append, List.length_singleton]
        unfold putD
        rw [if_neg hr, show chN m - (pre.length + 1) = chN m - pre.length - 1 by omega]
        show (if s'.refuses then _ else _) = _
        rw [if_neg hr])
      subst hE0
      have f3 := HI9.out.num.frozen 0
      have n3 := HI9.out.num.cell 0
      simp at n3
      have hw3 : IntKind.u64.wrap ((J : Int) + 1) = (J : Int) + 1 := by rw [IntKind.wrap_u64]; have := HJ.out; have := HK.out; have := HL2.out.2.2; unfold chN at this; omega
      clear hr HA HE
      gi_wp2_with fail
      exact And.intro (HK9.out.trans ((KeepsOthers.setCell _ _ _).from _)) (And.intro (HH9.out.trans ⟨by simp, fun j o hj h1 _ => (heap_setCell_other W9 ⟨w.heap.size + 1 + 1, 0, none⟩ j _ (by rcases hj with rfl | rfl <;> (show _ ≠ w.heap.size + 1 + 1; omega))).trans h1⟩) ⟨_, F2, HI9.out.next _ (by have := HJ.out; simp; omega), HR9.out⟩)
  case done =>
    rintro D2 ys V hD2 hS ⟨s', F', hi, hall, hls, hwr, hpre⟩ hK
    rw [hS, Nat.sub_self] at hall
    have n1 := hi.box.cell 0
    have c0 := hi.lg.blk.cell 0
    simp at n1 c0
    have HI := Lib.hid hi
    have HA := Lib.hid hall
    have HDk := Lib.hid hK
    have HLW : Hid (X ≤ D2) := Lib.hid (by rw [HX.out]; exact hD2)
    have HBa : Hid (Calls Tryz.prog 49 #[p] V fun e w' => e = .returned (.int .i64 (BaE s')) ∧ DkFin F' p (BaS s') V w') := Lib.hid (by
      refine (Barrier_all V hi.dk.dk (by have := HN.out.2; rw [hS] at hwr; unfold chN at hwr; omega)).mono ?_
      rintro e w' ⟨F2, rfl, hd, hu⟩
      exact ⟨rfl, F2, hd, hu⟩)
    obtain ⟨E, hE⟩ : ∃ E, E = BaE s' := ⟨_, rfl⟩
    rw [← hE] at HBa
    have HE := Lib.hid hE
    have hR : Hid (wrAll L (chN m) 0 s = (BaS s', E)) := Lib.hid (by rw [hE]; exact hall)
    have f2 := hi.res.frozen 0
    have HNF : Hid (¬ F' D2 ∧ ¬ F' (w.heap.size + 1)) := Lib.hid (by
      refine ⟨fun hf => ?_, fun hf => ?_⟩
      · rcases hi.dk.2 D2 hf with e | ⟨cs, t, fr, hc⟩
        · have := hi.ml; have := hi.xs.1; have := HLW.out; omega
        · rw [hK] at hc
          cases hc
      · have := hi.far _ hf
        have := hi.xs.1
        omega)
    clear hi hall hls hwr hpre hK hD2 hE f2
    gi_wp2_with fail
    refine ⟨trivial, ?_⟩
    refine (callsIn_wide.2 HBa.out).mono ?_
    rintro e V2 ⟨rfl, hf⟩
    have hf2 := hf
    obtain ⟨F3, hd3, hu3⟩ := hf2
    have HK2 : Hid (V2.heap[D2]? = some (.deferred (some []))) := Lib.hid ((hu3.block D2 (Array.getElem?_eq_some_iff.1 HDk.out).1 HNF.out.1).trans HDk.out)
    have HRs : Hid (Blk V2 (w.heap.size + 1) TEr #[.int .i64 0]) := Lib.hid (HI.out.res.stays (hu3.block _ HI.out.res.lt HNF.out.2))
    obtain ⟨F2, hw2, hup2⟩ := HI.out.wl.disk hf
    have HW2 : Hid (Wl V2 F2 b p q m c (BaS s') L ∧ Upd (wlS F b q) (wlS F2 b q) w V2) := Lib.hid ⟨hw2, HI.out.upd.comp hup2⟩
    have HF2 : Hid (¬ F2 (w.heap.size + 1) ∧ ¬ F2 D2) := Lib.hid (by
      have h1 := HI.out.res.lt
      have h2 := (Array.getElem?_eq_some_iff.1 HDk.out).1
      refine ⟨fun hf => ?_, fun hf => ?_⟩
      · rcases hup2.fresh _ (.inl hf) with (h | h) | h
        · exact HNF.out.2 h
        · have := HI.out.lgl _ h; omega
        · omega
      · rcases hup2.fresh _ (.inl hf) with (h | h) | h
        · exact HNF.out.1 h
        · have := HI.out.lgl _ h; have := HI.out.xs.1; have := HLW.out; omega
        · omega)
    have f2 := HRs.out.frozen 0
    have n2 := HRs.out.cell 0
    simp at n2
    clear hd3 hu3 hf hw2 hup2 n1 c0 HBa
    gi_wp2_with fail
    have hoc := Only.cell (w.heap.size + 1) 0 V2 (.int .i64 E)
    have hD4 : D2 ≠ w.heap.size + 1 := by have := HI.out.xs.1; have := HLW.out; omega
    have hKd : (V2.setCell ⟨w.heap.size + 1, 0, none⟩ (.int .i64 E)).heap[D2]? = some (.deferred (some [])) := (hoc.block D2 hD4).trans HK2.out
    refine ⟨by simp, .inl ⟨_, _, rfl, run_takeDeferred hKd, ?_⟩⟩
    have hg := grownBy_putObj' (V2.setCell ⟨w.heap.size + 1, 0, none⟩ (.int .i64 E)) D2 (.deferred none)
    have hb2 : ∀ k, k ≠ w.heap.size + 1 → k ≠ D2 → k < V2.heap.size → ((V2.setCell ⟨w.heap.size + 1, 0, none⟩ (.int .i64 E)).putObj D2 (.deferred none)).heap[k]? = V2.heap[k]? := fun k h1 h2 h3 => (hg.block k (by rw [hoc.size]; exact h3) (fun e => h2 (Option.some.inj e))).trans (hoc.block k h1)
    have hr2 : Blk ((V2.setCell ⟨w.heap.size + 1, 0, none⟩ (.int .i64 E)).putObj D2 (.deferred none)) (w.heap.size + 1) TEr #[.int .i64 E] := Blk.stays (HRs.out.set 0 (.int .i64 E)) (hg.block _ (by rw [hoc.size]; exact HRs.out.lt) (fun e => hD4 (Option.some.inj e).symm))
    have hsz : V2.heap.size ≤ ((V2.setCell ⟨w.heap.size + 1, 0, none⟩ (.int .i64 E)).putObj D2 (.deferred none)).heap.size := by have := hg.size; rw [hoc.size] at this; exact this
    refine ⟨_, results_cell_one rfl Tryz.isAgg37 _ _ ⟨w.heap.size + 1, 0, none⟩ (.int .i64 E) rfl (hr2.cell 0), ?_⟩
    rw [hR.out]
    have hl1 : ∀ k, lgS b q k → k ≠ w.heap.size + 1 ∧ k ≠ D2 := fun k hk => by have := HI.out.lgl k hk; have := HI.out.xs.1; have := HLW.out; omega
    refine ⟨F2, q, m, c, rfl, ⟨HW2.out.1.dk.stays (fun k hk => hb2 k (fun e => HF2.out.1 (e ▸ hk)) (fun e => HF2.out.2 (e ▸ hk)) (HW2.out.1.dk.low k hk)) hsz, HW2.out.1.lg.stays (fun k hk => hb2 k (hl1 k hk).1 (hl1 k hk).2 (HW2.out.1.lg.low k hk)) hsz, HW2.out.1.apart⟩, ⟨hg.os.trans (hoc.os.trans HW2.out.2.os), hg.tape.trans (hoc.tape.trans HW2.out.2.tape), hg.output.trans (hoc.output.trans HW2.out.2.output), Nat.le_trans HW2.out.2.size hsz, fun k hk hn => (hb2 k (by omega) (by have := HI.out.xs.1; have := HLW.out; omega) (Nat.lt_of_lt_of_le hk HW2.out.2.size)).trans (HW2.out.2.block k hk hn), HW2.out.2.fresh⟩⟩
  case stop =>
    rintro D2 pre V hD2 _ ⟨s', F', k', hi, hall⟩ hK
    have hD3 : X ≤ D2 := by rw [HX.out]; exact hD2
    have hK3 := hi.held (grownBy_putObj' V D2 (.deferred none)) (fun r e => by cases e; exact ⟨hD3, _, hK, rfl⟩)
    have HI := Lib.hid hK3
    have HA := Lib.hid hall
    clear hi hall hD2
    gi_wp2_with fail
    refine ⟨by simp, .inl ⟨_, _, rfl, run_takeDeferred hK, ?_⟩⟩
    refine ⟨_, results_cell_one rfl Tryz.isAgg37 _ _ ⟨w.heap.size + 1, 0, none⟩ (.int .i64 8) rfl (HI.out.res.cell 0), ?_⟩
    rw [HA.out]
    exact ⟨F', q, m, c, rfl, HI.out.wl, HI.out.upd⟩

end Go.Proofs.YtaemmknijmhnoaaGreat

