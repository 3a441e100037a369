/-
  Texts, put together: Pool26 Wal24 Pool27 Pool28 Pool29.
-/
import Derived.Test.YtaemmknijmhnoaaGreatK26
import Derived.Test.YtaemmknijmhnoaaGreatK33
import Derived.Test.YtaemmknijmhnoaaGreatK35
set_option linter.unusedVariables false
set_option linter.unusedSimpArgs false
/-
  The law's begin, over the code's pool, and its note.
-/
namespace Go.Proofs.YtaemmknijmhnoaaGreat
open Go.RowKit Go.Maps

set_option maxRecDepth 100000 in
set_option maxHeartbeats 1000000 in
/-- Up to 0 each log lasts. -/
theorem flush0_any {b : Nat} {p : Value} {q : Option Addr} {m c : Nat} {L : Lg} (w : World) (h : LgAt w b p q m c L) (ok : L.Ok) :
    Calls Tryz.prog 67 #[.pointer (some ⟨b, 0, none⟩), .int .u64 0] w fun e w' => e = .returned (.int .i64 0) ∧ Gr w w' := by
  obtain ⟨D, hD⟩ := h.dsk
  have HM := Lib.hid (wmissing_no D b _ _ _ _ _ _ _ _ _ _ _ _ w h.blk hD)
  have HE := Lib.hid (h.End ok)
  obtain ⟨Fn, hF⟩ : ∃ Fn, Fn = L.fin := ⟨_, rfl⟩
  obtain ⟨La, hLa⟩ : ∃ La, La = L.lasts := ⟨_, rfl⟩
  rw [← hF] at HE
  have g1 : ¬ (Fn : Int) < 0 := by omega
  have g2 : (0 : Int) ≤ (La : Int) := by omega
  have HC6 := Lib.hid (fun W (g : Gr w W) => (h.gr g).blk.c10.2.2.2.2.2.2.1)
  rw [← hLa] at HC6
  clear h hF hLa
  go_enter Tryz.func67, Tryz.ntmps67
  go_wp2_with fail
  refine HM.out.mono ?_
  rintro e w1 ⟨rfl, rfl⟩
  go_wp2_with fail
  refine HE.out.mono ?_
  rintro e w1 ⟨rfl, g⟩
  have HG := Lib.hid g
  have c6 := HC6.out w1 g
  clear g HC6
  go_wp2_with fail
  go_ret
  exact ⟨rfl, HG.out⟩
/-- What begin answers. -/
def P0 (n : Int) (x : Bool) : Pl := ⟨n, x, -1, fun _ => none⟩
def L0 : Lg := newL 64 16 1 1 0
def RetBeg7 (n : Int) (x : Bool) (w : World) (e : Ending) (w' : World) : Prop :=
  ∃ d l b m S, e = .returned (.tuple #[.pointer (some ⟨d, 0, none⟩), .pointer (some ⟨l, 0, none⟩), .pointer (some ⟨b, 0, none⟩), .bool true]) ∧ PoAt w' b m 0 (.pointer (some ⟨d, 0, none⟩)) (.pointer (some ⟨l, 0, none⟩)) (fun _ => none) S (P0 n x) zeroD L0 64 1000000 ∧ (∀ q, uS S b m (fun _ => none) q → w.heap.size ≤ q) ∧ Gr w w'
set_option maxRecDepth 100000 in
set_option maxHeartbeats 1000000 in
theorem begin7_any (n : Int) (x : Bool) (w : World) (h1 : 8 ≤ n) (h2 : n ≤ 4096) : Calls Tryz.prog 9 #[.int .i64 n, .bool x] w (RetBeg7 n x w) := by
  have H12 := Lib.hid (And.intro h1 h2)
  clear h1 h2
  go_enter Tryz.func9, Tryz.ntmps9
  go_wp2_with fail
  refine (New_yes 64 _ ⟨by omega, by omega⟩).mono ?_
  rintro e w1 ⟨d, F, rfl, hd, hg, hfar⟩
  have HD1 := Lib.hid hd
  have HG1 := Lib.hid hg
  have HF1 := Lib.hid hfar
  obtain ⟨D, rfl⟩ : ∃ D, d = .pointer (some ⟨D, 0, none⟩) := by
    obtain ⟨D, _, _, _, h, _⟩ := hd
    exact ⟨D, h⟩
  clear hd hg hfar
  go_wp2_with fail
  refine (make64 w1).mono ?_
  rintro e w2 ⟨rfl, g2⟩
  have HG2 := Lib.hid g2
  clear g2
  go_wp2_with fail
  have HO : Hid (∀ W, Gr w2 W → Calls Tryz.prog 36 #[.pointer (some ⟨D, 0, none⟩), .agg #[.int .i64 64, .int .i64 16, .int .i64 1], .int .u64 0, .int .u64 1] W (RetO1 (.pointer (some ⟨D, 0, none⟩)) zeroD 1 0 W)) := Lib.hid fun W g => open1_yes W (HD1.out.gr (Gr.trans HG2.out g)) (by simp [zeroD, fresh]) (by decide) (by decide) (by decide) opOk_begin
  have HG3 : Hid (Gr w2 (w2.alloc (.cells #[.int .i64 64, .int .i64 16, .int .i64 1] 71))) := Lib.hid (Gr.new _ _)
  refine (HO.out _ HG3.out).mono ?_
  rintro e w3 ⟨l, v, K, q, m, rfl, -, -, hlg, hlow, g3⟩
  rw [opL_begin] at hlg
  have HL := Lib.hid hlg
  have HLo := Lib.hid hlow
  have HG4 := Lib.hid g3
  have HNw : Hid (∀ W, Gr w3 W → Calls Tryz.prog 38 #[.pointer (some ⟨D, 0, none⟩), .pointer (some ⟨l, 0, none⟩), .int .i64 n, .bool x] W fun e w' => ∃ b m, e = .returned (.tuple #[.pointer (some ⟨b, 0, none⟩), .int .i64 0]) ∧
      PlAt w' b (.pointer (some ⟨D, 0, none⟩)) (.pointer (some ⟨l, 0, none⟩)) m 0 (fun _ => none) ⟨n, x, -1, fun _ => none⟩ ∧ W.heap.size ≤ b ∧ W.heap.size ≤ m ∧ Gr W w') := Lib.hid fun W g => NewP_any n x (fun V gV => flush0_any V (HL.out.gr (Gr.trans g gV)) newL_ok.1) (HD1.out.gr (Gr.trans HG2.out (Gr.trans HG3.out (Gr.trans HG4.out g)))) (by simp [zeroD, fresh]) H12.out.1 H12.out.2
  clear hlg hlow g3 HO
  go_wp2_with fail
  refine (HNw.out _ (Gr.refl _)).mono ?_
  rintro e w4 ⟨b, mm, rfl, hpl, hb, hm, g4⟩
  have HPl := Lib.hid hpl
  have HB := Lib.hid (And.intro hb hm)
  have HG5 := Lib.hid g4
  clear hpl hb hm g4 HNw
  go_wp2_with fail
  refine bodyPost_ret_by (P := Tryz.prog) (v := .tuple #[.pointer (some ⟨D, 0, none⟩), .pointer (some ⟨l, 0, none⟩), .pointer (some ⟨b, 0, none⟩), .bool true]) (by simp [results, Tryz.results9]) rfl ?_
  have s1 := HG1.out.size
  have s2 := HG2.out.size
  have s3 := HG3.out.size
  have s4 := HG4.out.size
  have g14 : Gr w1 w4 := Gr.trans HG2.out (Gr.trans HG3.out (Gr.trans HG4.out HG5.out))
  have hdl := HD1.out.low
  have hfl := HF1.out
  have hll := HLo.out
  have hb := HB.out
  have hll2 := HL.out.low
  refine ⟨D, l, b, mm, wlS F l q, rfl, ⟨⟨F, l, q, m, m, rfl, ⟨HD1.out.gr g14, HL.out.gr HG5.out, fun k hF hl => ?_⟩, rfl⟩, HPl.out, fun k hk e => ?_, ⟨newL_ok.1, by simp [zeroD, fresh], by decide, by simp [zeroD, fresh], zeroD_less⟩, ⟨fun i hi => absurd rfl hi, by decide, Int.le_refl _, (by show (-1 : Int) < 65536; decide), H12.out.1, H12.out.2⟩, by decide⟩, fun k hk => ?_, Gr.trans HG1.out g14⟩
  · have := hdl k hF; have := hll k hl; omega
  · rcases e with rfl | rfl | ⟨i, hi⟩
    · rcases hk with hk | hk
      · have := hdl _ hk; omega
      · have := hll2 _ hk; omega
    · rcases hk with hk | hk
      · have := hdl _ hk; omega
      · have := hll2 _ hk; omega
    · cases hi
  · rcases hk with (hk | hk) | rfl | rfl | ⟨i, hi⟩
    · exact hfl k hk
    · have := hll k hk; omega
    · omega
    · omega
    · cases hi
/-- The record that the law notes. -/
def nR (page : Nat) : Rc := ⟨1, 1, 0, 0, page, 0, [0], [1]⟩
theorem nR_in (page : Nat) : (nR page).In := ⟨by simp [nR], by simp [nR], by simp [nR], (fun x hx => by simp [nR] at hx; omega), fun x hx => by simp [nR] at hx; omega⟩
/-- What noting leaves. -/
def Lg.noted (L : Lg) (page : Nat) : Lg := layL L (nR page) L.free
def RetNo7 (L : Lg) (page : Nat) (b m n : Nat) (pd pl : Value) (B : Nat → Option Nat) (S : Nat → Prop) (P : Pl) (s : St) (N k : Nat) (w : World) (e : Ending) (w' : World) : Prop :=
  e = .returned (.tuple #[.int .u64 (layA L (nR page) L.free : Int), .int .u64 ((L.noted page).fin : Int), .bool (layE (nR page) L.free == 0)]) ∧ ∃ S', PoAt w' b m n pd pl B S' P s (L.noted page) N k ∧ Upd (uS S b m B) (uS S' b m B) w w'
section
variable {w w' : World} {b m n : Nat} {pd pl : Value} {B : Nat → Option Nat} {P : Pl} {S : Nat → Prop} {s : St} {L : Lg} {N k : Nat}
set_option maxRecDepth 100000 in
set_option maxHeartbeats 1000000 in
theorem note7_any (h : PoAt w b m n pd pl B S P s L N k) (hf : L.fin ≤ 8000000000000000000) (page : Nat) : Calls Tryz.prog 13 #[pl, .int .i64 (page : Int)] w (RetNo7 L page b m n pd pl B S P s N k w) := by
  have HP := Lib.hid h
  obtain ⟨l, rfl⟩ := h.pl.lg
  have HA : Hid (Calls Tryz.prog 43 #[.pointer (some ⟨l, 0, none⟩), .agg (rcv (nR page) (some ⟨w.heap.size, 0, none⟩) 1 1 (some ⟨w.heap.size + 1, 0, none⟩) 1 1)] ((w.alloc (.cells #[.int .u8 0] 5)).alloc (.cells #[.int .u8 1] 5)) fun e w' => ∃ a er S', e = .returned (.tuple #[.int .u64 (a : Int), .int .i64 er]) ∧ a = layA L (nR page) L.free ∧ er = layE (nR page) L.free ∧ PoAt w' b m n pd (.pointer (some ⟨l, 0, none⟩)) B S' P s (L.noted page) N k ∧ Upd (uS S b m B) (uS S' b m B) w w') := Lib.hid (by
    have g1 := Gr.new w (.cells #[.int .u8 0] 5)
    have g2 := Gr.new (w.alloc (.cells #[.int .u8 0] 5)) (.cells #[.int .u8 1] 5)
    have hb := (Byt.one w 0 5 (by omega)).kept g2
    have ha := Byt.one (w.alloc (.cells #[.int .u8 0] 5)) 1 5 (by omega)
    rw [World.size_alloc] at ha
    refine ((h.cd.gr (Gr.trans g1 g2)).Append h.bud.ok (nR page) (nR_in page) _ 1 1 _ 1 1 hb ha).mono ?_
    rintro e w' ⟨S', rfl, hc, hu⟩
    obtain ⟨k1, k2⟩ := (h.gr (Gr.trans g1 g2)).next hc hu (j := k) ⟨append_ok h.bud.ok _ hf, h.bud.len, by rw [(layL_parts L _ _).1]; exact h.bud.fit, h.bud.wr, h.bud.less⟩ (Nat.le_refl _)
    exact ⟨_, _, S', rfl, rfl, rfl, k1, Upd.pre (Gr.trans g1 g2) k2⟩)
  clear h hf
  go_enter Tryz.func13, Tryz.ntmps13
  go_wp2_with fail
  refine HA.out.mono ?_
  rintro e w2 ⟨a, er, S', rfl, ha, her, hpo, hu⟩
  have HE := Lib.hid (And.intro ha her)
  have HPo := Lib.hid hpo
  have HU := Lib.hid hu
  have HEn := Lib.hid (hpo.cd.End hpo.bud.ok)
  clear ha her hpo hu HA HP
  go_wp2_with fail
  refine HEn.out.mono ?_
  rintro e w3 ⟨rfl, g3⟩
  have HG := Lib.hid g3
  clear g3 HEn
  go_wp2_with fail
  go_ret3
  refine ⟨?_, S', HPo.out.gr HG.out, HU.out.more HG.out⟩
  rw [← HE.out.1, ← HE.out.2]
  rfl
end
end Go.Proofs.YtaemmknijmhnoaaGreat

/-
  With power, what is flushed lasts; what an append leaves free.
-/
namespace Go.Proofs.YtaemmknijmhnoaaGreat
open Go.RowKit Go.Maps

/-- There is power, and no fuse. -/
def St.Alive (s : St) : Prop := s.dead = false ∧ s.fuse = -1
theorem St.Alive.no {s : St} (h : s.Alive) : ¬ s.refuses := by
  unfold St.refuses
  rw [h.1, h.2]
  simp
theorem St.Alive.wrote {s : St} (h : s.Alive) (i : Nat) (x : Sec) : (s.wrote i x).Alive := by
  refine ⟨h.1, ?_⟩
  unfold St.wrote
  simp [h.2]
theorem St.Alive.barrier {s : St} (h : s.Alive) : s.barrier.Alive := ⟨h.1, h.2⟩
theorem St.Alive.ba {s : St} (h : s.Alive) : (BaS s).Alive ∧ BaE s = 0 := by
  unfold BaS BaE
  rw [h.1]
  exact ⟨h.barrier, rfl⟩
theorem wrAll_alive {L : Lg} : ∀ (n j : Nat) (s : St), s.Alive → (wrAll L n j s).1.Alive ∧ (wrAll L n j s).2 = 0
  | 0, _, s, h => h.ba
  | n + 1, j, s, h => by
    unfold wrAll
    rw [if_neg h.no]
    exact wrAll_alive n (j + 1) _ (h.wrote _ _)
theorem fl_alive {s : St} {L : Lg} (h : s.Alive) (ok : L.Ok) : (flS s L L.fin).Alive ∧ flE s L L.fin = 0 ∧ (flL s L L.fin).lasts = L.fin := by
  have hb : (begS s L).Alive ∧ begE s L = 0 := by
    obtain ⟨h1, _, h3⟩ := beg_facts s L
    cases hg : L.begun with
    | true =>
      obtain ⟨e1, e2, _⟩ := h1 hg
      rw [e2]
      exact ⟨h, e1⟩
    | false =>
      obtain ⟨e1, e2, _⟩ := h3 hg h.no
      rw [e2]
      exact ⟨(h.wrote _ _).barrier, e1⟩
  have hw := wrAll_alive (L := begL s L) (chN L.txt.length) 0 _ hb.1
  have hn := ok.near
  have e0 : ¬ begE s L ≠ 0 := fun e => e hb.2
  unfold flS flE flL
  rw [if_neg (Nat.lt_irrefl _), if_neg (Nat.lt_irrefl _), if_neg (Nat.lt_irrefl _)]
  by_cases hl : L.fin ≤ L.lasts
  · rw [if_pos hl, if_pos hl, if_pos hl]
    exact ⟨h, rfl, by omega⟩
  · rw [if_neg hl, if_neg hl, if_neg hl, if_neg e0, if_neg e0, if_neg e0, if_neg (fun e => e hw.2)]
    exact ⟨hw.1, hw.2, (begL_ok ok).2.1⟩
theorem zeroD_alive : zeroD.Alive := ⟨rfl, rfl⟩
/-- What an append leaves free. -/
theorem layL_free {L : Lg} (ok : L.Ok) (r : Rc) (h : layE r L.free = 0) : (layL L r L.free).free = L.free - (sizeR r : Int) ∧ (layL L r L.free).fin = L.fin + sizeR r := by
  rcases layE_cases r L.free with h1 | h1 | ⟨_, h2, h3⟩
  · rw [h] at h1; cases h1
  · rw [h] at h1; cases h1
  · have hf := layL_fin L r L.free
    rw [if_pos h] at hf
    have hz := sizeR_may h2
    refine ⟨?_, by rw [hf, hz]⟩
    have hl : layL L r L.free = L.more (recL r L.fin) := by unfold layL; rw [if_pos h]
    have hn := ok.near
    have e1 : (layL L r L.free).free = freeR L.l L.rsv L.tail (L.fin + (35 + r.b.length + r.a.length)) := by
      show freeR (layL L r L.free).l (layL L r L.free).rsv (layL L r L.free).tail (layL L r L.free).fin = _
      rw [hf, hl]
      rfl
    rw [e1, hz]
    have e2 : L.free = freeR L.l L.rsv L.tail L.fin := rfl
    rw [e2] at h3 ⊢
    unfold freeR at *
    omega
end Go.Proofs.YtaemmknijmhnoaaGreat

/-
  The code's pool: how many pages there are; what goes.
-/
namespace Go.Proofs.YtaemmknijmhnoaaGreat
open Go.RowKit Go.Maps

theorem rise_eq : ∀ (l m : List Nat), l.Pairwise (· < ·) → m.Pairwise (· < ·) → (∀ i, i ∈ l ↔ i ∈ m) → l = m
  | [], [], _, _, _ => rfl
  | [], b :: m, _, _, h => by have := (h b).2 (by simp); simp at this
  | a :: l, [], _, _, h => by have := (h a).1 (by simp); simp at this
  | a :: l, b :: m, hl, hm, h => by
    rw [List.pairwise_cons] at hl hm
    have e : a = b := by
      rcases List.mem_cons.1 ((h a).1 (by simp)) with h1 | h1
      · exact h1
      · rcases List.mem_cons.1 ((h b).2 (by simp)) with h2 | h2
        · exact h2.symm
        · have := hl.1 b h2; have := hm.1 a h1; omega
    subst e
    rw [rise_eq l m hl.2 hm.2 fun i => ?_]
    constructor
    · intro hi
      rcases List.mem_cons.1 ((h i).1 (List.mem_cons_of_mem _ hi)) with h1 | h1
      · have := hl.1 i hi; omega
      · exact h1
    · intro hi
      rcases List.mem_cons.1 ((h i).2 (List.mem_cons_of_mem _ hi)) with h1 | h1
      · have := hm.1 i hi; omega
      · exact h1
theorem Pl.pages_rise (P : Pl) : P.pages.Pairwise (· < ·) := List.Pairwise.filter _ List.pairwise_lt_range
/-- The pages in memory are those. -/
theorem Pl.pages_is (P : Pl) {l : List Nat} (hl : l.Pairwise (· < ·)) (h : ∀ i, i ∈ l ↔ i < 65536 ∧ P.fr i ≠ none) : P.pages = l :=
  rise_eq _ _ P.pages_rise hl fun i => (P.mem_pages i).trans (h i).symm
theorem cnt_add {p p' : Nat → Bool} {i : Nat} (hp : p i = false) (h : ∀ j, p' j = (p j || decide (j = i))) : ∀ l : List Nat, l.Nodup → i ∈ l → (l.filter p').length = (l.filter p).length + 1
  | [], _, hi => by simp at hi
  | a :: l, hn, hi => by
    rw [List.nodup_cons] at hn
    by_cases e : a = i
    · subst e
      have h1 : l.filter p' = l.filter p := List.filter_congr fun j hj => by
        rw [h j]
        have : j ≠ a := fun e => hn.1 (e ▸ hj)
        simp [this]
      rw [List.filter_cons, List.filter_cons, h a, hp, h1]
      simp
    · have hi' : i ∈ l := (List.mem_cons.1 hi).resolve_left fun e2 => e e2.symm
      have ih := cnt_add hp h l hn.2 hi'
      rw [List.filter_cons, List.filter_cons, h a]
      simp only [e, decide_false, Bool.or_false]
      split
      · simp only [List.length_cons, ih]
      · exact ih
theorem Pl.put_len (P : Pl) {i : Nat} (hi : i < 65536) (h : P.fr i = none) (f : PFr) : (P.put i f).pages.length = P.pages.length + 1 := by
  unfold Pl.pages
  refine cnt_add (by rw [h]; rfl) (fun j => ?_) _ List.nodup_range (List.mem_range.2 hi)
  show (if j = i then some f else P.fr j).isSome = _
  by_cases e : j = i
  · simp [e]
  · simp [e]
theorem Pl.put_len2 (P : Pl) {i : Nat} {g : PFr} (h : P.fr i = some g) (f : PFr) : (P.put i f).pages.length = P.pages.length := by
  have e : (P.put i f).pages = P.pages := List.filter_congr fun j _ => by
    show (if j = i then some f else P.fr j).isSome = _
    by_cases e : j = i
    · simp [e, h]
    · simp [e]
  rw [e]
theorem Pl.off_pages (P : Pl) (xs : List Nat) : (P.off xs).pages = P.pages := List.filter_congr fun j _ => by
  have h := P.off_none xs j
  cases h1 : P.fr j with
  | none => rw [h.2 h1]
  | some f =>
    cases h2 : (P.off xs).fr j with
    | none => rw [h.1 h2] at h1; cases h1
    | some g => rfl
theorem Pl.leave_len (P : Pl) {i : Nat} (hi : i < 65536) (h : P.fr i ≠ none) : (P.leave [i]).pages.length + 1 = P.pages.length := by
  unfold Pl.pages
  refine (cnt_add (p := fun j => ((P.leave [i]).fr j).isSome) (i := i) ?_ (fun j => ?_) _ List.nodup_range (List.mem_range.2 hi)).symm
  · show (if i ∈ [i] then none else P.fr i).isSome = false
    simp
  · show _ = ((if j ∈ [i] then none else P.fr j).isSome || _)
    by_cases e : j = i
    · subst e
      cases h1 : P.fr j with
      | none => exact absurd h1 h
      | some f => simp
    · simp [e]
theorem Pl.use_fr (P : Pl) (i : Nat) (f : PFr) (j : Nat) : (P.use i f).fr j = if j = i then some { f with used := true } else P.fr j := rfl
theorem Pl.leave_fr (P : Pl) (xs : List Nat) (j : Nat) : (P.leave xs).fr j = if j ∈ xs then none else P.fr j := rfl
theorem Pl.off_fr (P : Pl) (xs : List Nat) (j : Nat) : (P.off xs).fr j = if j ∈ xs then (P.fr j).map fun f => { f with used := false } else P.fr j := rfl
/-- All pages are clean, as many as may be. -/
structure KnB (P : Pl) : Prop where
  most : P.most = 8
  held : P.held = false
  len : P.pages.length = 8
  cl : ∀ i g, P.fr i = some g → g.dirty = false
theorem Pl.wr_clean (P : Pl) (h : ∀ i g, P.fr i = some g → g.dirty = false) (xs : List Nat) (s : St) (L : Lg) : P.wr xs s L = (0, s, L) := by
  have e : xs.filter (fun i => !P.clean i) = [] := List.filter_eq_nil_iff.2 fun i _ hc => by
    unfold Pl.clean at hc
    cases hf : P.fr i with
    | none => rw [hf] at hc; simp at hc
    | some g => rw [hf] at hc; simp [h i g hf] at hc
  unfold Pl.wr
  rw [e]
  rfl
theorem goingL_one {u : Nat → Bool} {xs : List Nat} (h : xs ≠ []) : ∃ g, goingL u xs 1 = [g] ∧ g ∈ xs := by
  have hl : (goingL u xs 1).length = 1 := by
    unfold goingL
    rw [List.length_take, List.length_append, filt_len]
    have : xs.length ≠ 0 := fun e => h (List.eq_nil_of_length_eq_zero e)
    omega
  obtain ⟨g, hg⟩ := List.length_eq_one_iff.1 hl
  exact ⟨g, hg, goingL_mem (by rw [hg]; simp)⟩
theorem Pl.many_one (P : Pl) (h1 : P.most = 8) (h2 : P.pages.length = 8) : P.many = 1 := by
  unfold Pl.many; rw [h1, h2]; rfl
theorem KnB.of {P : Pl} {xs ys : List Nat} {i : Nat} {f : PFr} (h1 : P.most = 8) (h2 : P.held = false) (h3 : (((P.off xs).leave ys).put i { f with used := true }).pages.length = 8) (h4 : ∀ j g, (((P.off xs).leave ys).use i f).fr j = some g → g.dirty = false) : KnB (((P.off xs).leave ys).use i f) :=
  KnB.mk h1 h2 h3 h4
/-- One more page comes, one goes; nothing is written. -/
theorem KnB.us {P : Pl} (h : KnB P) {i : Nat} (hi : i < 65536) (s : St) (L : Lg) : (P.us i s L).1 = 0 ∧ (P.us i s L).2.2 = (s, L) ∧ KnB (P.us i s L).2.1 := by
  unfold Pl.us
  cases hf : P.fr i with
  | some f =>
    refine ⟨rfl, rfl, h.most, h.held, (P.put_len2 hf _).trans h.len, fun j g hj => ?_⟩
    have h1 : (if j = i then some ({ f with used := true } : PFr) else P.fr j) = some g := hj
    split at h1
    · cases h1; exact h.cl i f hf
    · exact h.cl j g h1
  | none =>
    obtain ⟨g, hg, hgm⟩ := goingL_one (u := P.usd) (xs := P.round) (fun e => by have := P.round_len; rw [e, h.len] at this; cases this)
    have hmr : P.mr s L = (0, (P.off (sparedL P.usd P.round P.many)).leave [g], s, L) := by
      unfold Pl.mr
      rw [if_neg (by rw [h.held, h.len, h.most]; decide), P.wr_clean h.cl, if_neg (by simp), P.many_one h.most h.len, hg]
    obtain ⟨hg6, hgn⟩ := P.round_mem hgm
    have hno := P.mr_fr s L hf
    rw [hmr] at hno
    have hq : (if (P.mr s L).1 ≠ 0 then P.mr s L else (0, (P.mr s L).2.1.use i (frS (secN ((P.mr s L).2.2.1.nw i))), (P.mr s L).2.2)) = (0, ((P.off (sparedL P.usd P.round P.many)).leave [g]).use i (frS (secN (s.nw i))), s, L) := by
      rw [hmr]; exact if_neg (by simp)
    show (if (P.mr s L).1 ≠ 0 then P.mr s L else (0, (P.mr s L).2.1.use i (frS (secN ((P.mr s L).2.2.1.nw i))), (P.mr s L).2.2)).1 = 0 ∧ (if (P.mr s L).1 ≠ 0 then P.mr s L else (0, (P.mr s L).2.1.use i (frS (secN ((P.mr s L).2.2.1.nw i))), (P.mr s L).2.2)).2.2 = (s, L) ∧ KnB (if (P.mr s L).1 ≠ 0 then P.mr s L else (0, (P.mr s L).2.1.use i (frS (secN ((P.mr s L).2.2.1.nw i))), (P.mr s L).2.2)).2.1
    rw [hq]
    refine ⟨rfl, rfl, KnB.of h.most h.held ?_ fun j z hj => ?_⟩
    · have h1 := Pl.leave_len (P.off (sparedL P.usd P.round P.many)) hg6 (fun e => hgn ((P.off_none _ g).1 e))
      rw [P.off_pages, h.len] at h1
      have h2 := Pl.put_len ((P.off (sparedL P.usd P.round P.many)).leave [g]) hi hno { frS (secN (s.nw i)) with used := true }
      rw [h1] at h2
      exact h2
    · have h1 := hj
      rw [Pl.use_fr, Pl.leave_fr, Pl.off_fr] at h1
      split at h1
      · cases h1; rfl
      · split at h1
        · cases h1
        · split at h1
          · cases hp : P.fr j with
            | none => rw [hp] at h1; cases h1
            | some f => rw [hp] at h1; cases h1; exact h.cl j f hp
          · exact h.cl j z h1
/-- Fewer pages than may be; page 25 is dirty, all the others are clean; each is used. -/
structure KnA (P : Pl) (k : Nat) (f : PFr) : Prop where
  most : P.most = 8
  held : P.held = false
  hand : P.hand = -1
  has : ∀ i, P.fr i ≠ none ↔ i = 25 ∨ 30 ≤ i ∧ i < 30 + k
  at_ : P.fr 25 = some f
  used : ∀ i g, P.fr i = some g → g.used = true
  cl : ∀ i g, i ≠ 25 → P.fr i = some g → g.dirty = false
theorem KnA.pages {P : Pl} {k : Nat} {f : PFr} (h : KnA P k f) (hk : k ≤ 8) : P.pages = 25 :: (List.range k).map (30 + ·) := by
  refine P.pages_is ?_ fun i => ?_
  · rw [List.pairwise_cons]
    refine ⟨fun j hj => ?_, ?_⟩
    · obtain ⟨z, -, rfl⟩ := List.mem_map.1 hj
      omega
    · rw [List.pairwise_map]
      exact List.pairwise_lt_range.imp fun h => by omega
  · rw [h.has i, List.mem_cons, List.mem_map]
    constructor
    · rintro (rfl | ⟨z, hz, rfl⟩)
      · exact ⟨by omega, .inl rfl⟩
      · have := List.mem_range.1 hz
        exact ⟨by omega, .inr ⟨by omega, by omega⟩⟩
    · rintro ⟨_, h1 | h1⟩
      · exact .inl h1
      · exact .inr ⟨i - 30, List.mem_range.2 (by omega), by omega⟩
theorem KnA.step {P : Pl} {k : Nat} {f : PFr} (h : KnA P k f) (hk : k < 7) (s : St) (L : Lg) : (P.us (30 + k) s L).1 = 0 ∧ (P.us (30 + k) s L).2.2 = (s, L) ∧ KnA (P.us (30 + k) s L).2.1 (k + 1) f := by
  have hno : P.fr (30 + k) = none := by
    cases e : P.fr (30 + k) with
    | none => rfl
    | some g =>
      have := (h.has (30 + k)).1 (by rw [e]; exact Option.some_ne_none _)
      omega
  have hmr : P.mr s L = (0, P, s, L) := by
    unfold Pl.mr
    rw [if_pos (.inr (by rw [h.pages (by omega), h.most]; simp; omega))]
  unfold Pl.us
  rw [hno, hmr]
  refine ⟨rfl, rfl, h.most, h.held, h.hand, fun i => ?_, ?_, fun i g hi => ?_, fun i g hne hi => ?_⟩
  · show (if i = 30 + k then some ({ frS (secN (s.nw (30 + k))) with used := true } : PFr) else P.fr i) ≠ none ↔ _
    by_cases e : i = 30 + k
    · rw [if_pos e]
      exact ⟨fun _ => by omega, fun _ => Option.some_ne_none _⟩
    · rw [if_neg e, h.has i]
      omega
  · show (if 25 = 30 + k then some ({ frS (secN (s.nw (30 + k))) with used := true } : PFr) else P.fr 25) = some f
    rw [if_neg (by omega)]
    exact h.at_
  · have h1 : (if i = 30 + k then some ({ frS (secN (s.nw (30 + k))) with used := true } : PFr) else P.fr i) = some g := hi
    split at h1
    · cases h1; rfl
    · exact h.used i g h1
  · have h1 : (if i = 30 + k then some ({ frS (secN (s.nw (30 + k))) with used := true } : PFr) else P.fr i) = some g := hi
    split at h1
    · cases h1; rfl
    · exact h.cl i g hne h1
theorem KnA.dirty {P : Pl} {k : Nat} {f : PFr} (h : KnA P k f) (hk : k ≤ 8) (hf : f.dirty = true) : P.dirty = [25] := by
  unfold Pl.dirty
  rw [h.pages hk, List.filter_cons, if_pos (by unfold Pl.clean; rw [h.at_]; simp [hf]), List.filter_eq_nil_iff.2 fun i hi hc => ?_]
  obtain ⟨z, -, rfl⟩ := List.mem_map.1 hi
  unfold Pl.clean at hc
  cases e : P.fr (30 + z) with
  | none => rw [e] at hc; simp at hc
  | some g => rw [e] at hc; simp [h.cl _ g (by omega) e] at hc
/-- Page 25 goes: it is written. -/
theorem KnA.last {P : Pl} {f : PFr} (h : KnA P 7 f) (hf : f.dirty = true) {s : St} {L : Lg} (hl : f.lsn = L.fin) (ha : s.Alive) (ok : L.Ok) : (P.us 37 s L).1 = 0 ∧ (P.us 37 s L).2.2 = ((flS s L L.fin).wrote 25 (Sx f.sec), flL s L L.fin) ∧ KnB (P.us 37 s L).2.1 := by
  have hpg := h.pages (k := 7) (by omega)
  have hlen : P.pages.length = 8 := by rw [hpg]; simp
  have hno : P.fr 37 = none := by
    cases e : P.fr 37 with
    | none => rfl
    | some g =>
      have := (h.has 37).1 (by rw [e]; exact Option.some_ne_none _)
      omega
  have hrd : P.round = P.pages := by
    have hb : P.behind = 0 := by
      unfold Pl.behind
      rw [h.hand]
      rw [List.countP_eq_zero]
      intro a ha
      obtain ⟨z, -, rfl⟩ := List.mem_map.1 ha
      simp
    unfold Pl.round
    rw [hb]
    simp
  have hus : ∀ i, i ∈ P.pages → P.usd i = true := fun i hi => by
    obtain ⟨_, h2⟩ := (P.mem_pages i).1 hi
    unfold Pl.usd
    cases e : P.fr i with
    | none => exact absurd e h2
    | some g => exact h.used i g e
  have hgo : goingL P.usd P.round P.many = [25] := by
    rw [P.many_one h.most hlen, hrd]
    unfold goingL
    rw [List.filter_eq_nil_iff.2 fun i hi hc => by rw [hus i hi] at hc; simp at hc, List.filter_eq_self.2 hus, hpg]
    rfl
  obtain ⟨f1, f2, f3⟩ := fl_alive ha ok
  have hwr : P.wr [25] s L = (0, (flS s L L.fin).wrote 25 (Sx f.sec), flL s L L.fin) := by
    have e : [25].filter (fun i => !P.clean i) = [25] := by
      rw [List.filter_cons, if_pos (by unfold Pl.clean; rw [h.at_]; simp [hf])]
      rfl
    unfold Pl.wr
    rw [e, if_neg (by unfold Pl.unk; simp [h.at_, hl]), P.wrGo_cons h.at_, hl, if_neg (by rw [f2]; simp), if_neg f1.no]
    rfl
  have hmr : P.mr s L = (0, (P.off (sparedL P.usd P.round P.many)).leave [25], (flS s L L.fin).wrote 25 (Sx f.sec), flL s L L.fin) := by
    unfold Pl.mr
    rw [if_neg (by rw [h.held, hlen, h.most]; decide), hgo, hwr, if_neg (by simp)]
  have hno2 := P.mr_fr s L hno
  rw [hmr] at hno2
  have hq : P.us 37 s L = (0, ((P.off (sparedL P.usd P.round P.many)).leave [25]).use 37 (frS (secN (((flS s L L.fin).wrote 25 (Sx f.sec)).nw 37))), (flS s L L.fin).wrote 25 (Sx f.sec), flL s L L.fin) := by
    unfold Pl.us
    rw [hno, hmr]; exact if_neg (by simp)
  rw [hq]
  refine ⟨rfl, rfl, KnB.of h.most h.held ?_ fun j z hj => ?_⟩
  · have h1 := Pl.leave_len (P.off (sparedL P.usd P.round P.many)) (i := 25) (by omega) (fun e => by have h3 := h.at_; rw [(P.off_none _ 25).1 e] at h3; cases h3)
    rw [P.off_pages, hlen] at h1
    have h2 := Pl.put_len ((P.off (sparedL P.usd P.round P.many)).leave [25]) (i := 37) (by omega) hno2 { frS (secN (((flS s L L.fin).wrote 25 (Sx f.sec)).nw 37)) with used := true }
    rw [h1] at h2
    exact h2
  · have h1 := hj
    rw [Pl.use_fr, Pl.leave_fr, Pl.off_fr] at h1
    split at h1
    · cases h1; rfl
    · split at h1
      · cases h1
      · rename_i hne
        have hne' : j ≠ 25 := fun e => hne (by simp [e])
        split at h1
        · cases hp : P.fr j with
          | none => rw [hp] at h1; cases h1
          | some g => rw [hp] at h1; cases h1; exact h.cl j g hne' hp
        · exact h.cl j z hne' h1
end Go.Proofs.YtaemmknijmhnoaaGreat

/-
  The law's known, over the code's pool: what is put.
-/
namespace Go.Proofs.YtaemmknijmhnoaaGreat
open Go.RowKit Go.Maps

def L1 : Lg := L0.noted 25
theorem nR_lay : layE (nR 25) L0.free = 0 := by decide
theorem L1_fin : L1.fin = 37 := by
  have h := layL_free newL_ok.1 (nR 25) nR_lay
  show (layL L0 (nR 25) L0.free).fin = 37
  rw [show (layL L0 (nR 25) L0.free).fin = L0.fin + sizeR (nR 25) from h.2]
  decide
theorem L1_ok : L1.Ok := append_ok newL_ok.1 (nR 25) (by decide)
theorem nR_at : layA L0 (nR 25) L0.free = 0 := by unfold layA; rw [if_pos nR_lay]; decide
/-- The frame that is put. -/
def fK : PFr := ⟨Play ((secN (zeroD.nw 25)).drop 8) 0 [7], 37, 0, true, true⟩
theorem known_put : (P0 8 false).pt 64 25 0 [7] 0 37 zeroD L1 = (0, ((P0 8 false).use 25 (frS (secN (zeroD.nw 25)))).put 25 fK, zeroD, L1) := by
  have hmr : (P0 8 false).mr zeroD L1 = (0, P0 8 false, zeroD, L1) := by
    have hp : (P0 8 false).pages = [] := Pl.pages_is _ List.Pairwise.nil fun i => by simp [P0]
    unfold Pl.mr
    rw [if_pos (.inr (by rw [hp]; decide))]
  have hus : (P0 8 false).us 25 zeroD L1 = (0, (P0 8 false).use 25 (frS (secN (zeroD.nw 25))), zeroD, L1) := by
    unfold Pl.us
    rw [show (P0 8 false).fr 25 = none from rfl, hmr]
    exact if_neg (by simp)
  unfold Pl.pt
  rw [if_neg (by decide), if_neg (by decide), show ((25 : Int)).toNat = 25 from rfl, hus, if_neg (by simp)]
  rfl
theorem known_A : KnA (((P0 8 false).use 25 (frS (secN (zeroD.nw 25)))).put 25 fK) 0 fK := by
  have hfr : ∀ i, ((((P0 8 false).use 25 (frS (secN (zeroD.nw 25)))).put 25 fK)).fr i = if i = 25 then some fK else none := fun i => by
    show (if i = 25 then some fK else if i = 25 then _ else none) = _
    by_cases h : i = 25
    · rw [if_pos h, if_pos h]
    · rw [if_neg h, if_neg h, if_neg h]
  refine ⟨rfl, rfl, rfl, fun i => ?_, by rw [hfr]; rfl, fun i g hi => ?_, fun i g hne hi => ?_⟩
  · rw [hfr]
    by_cases h : i = 25
    · simp [h]
    · rw [if_neg h]; simp; omega
  · rw [hfr] at hi
    split at hi
    · cases hi; rfl
    · cases hi
  · rw [hfr, if_neg hne] at hi
    cases hi
/-- A page's first byte, on the disk. -/
theorem known_sec (s : St) : ((s.wrote 25 (Sx fK.sec)).nw 25) = Sx fK.sec := by
  simp [St.nw, St.wrote]
theorem fK_in : fK.In := ⟨Play_sec (frS_in (secN_sec (zeroD.nw 25))).pay (fun x hx => by simp at hx; omega) (by simp), by decide, by decide⟩
theorem known_byte : (sec (Sx fK.sec))[8]? = some (.int .u8 7) := by
  have h1 : fK.sec[8]? = some 7 := by
    unfold PFr.sec
    rw [List.getElem?_append_right (by rw [Wd.enc_length]; omega), Wd.enc_length]
    show (Play ((secN (zeroD.nw 25)).drop 8) 0 [7])[0]? = some 7
    unfold Play
    simp
  unfold sec
  rw [Sx_cells fK_in.sec, List.getElem?_toArray, List.getElem?_map, h1]
  rfl
theorem known_least {P : Pl} (h : KnA P 0 fK) : P.least = 0 ∧ P.dirty = [25] := by
  have hd := h.dirty (by omega) rfl
  refine ⟨?_, hd⟩
  unfold Pl.least
  rw [hd, if_neg (by simp)]
  unfold Pl.leastTo Pl.fst
  simp [h.at_, fK]
end Go.Proofs.YtaemmknijmhnoaaGreat

/-
  The law's known, over the code's pool.
-/
namespace Go.Proofs.YtaemmknijmhnoaaGreat
open Go.RowKit Go.Maps

def sK : St := (flS zeroD L1 L1.fin).wrote 25 (Sx fK.sec)
def LK : Lg := flL zeroD L1 L1.fin
/-- How it stands after so many gets. -/
def KI (k : Nat) (P : Pl) (s : St) (L : Lg) : Prop := (k ≤ 7 ∧ KnA P k fK ∧ s = zeroD ∧ L = L1) ∨ (8 ≤ k ∧ KnB P ∧ s = sK ∧ L = LK)
theorem KI.step {k : Nat} {P : Pl} {s : St} {L : Lg} (h : KI k P s L) (hk : k < 17) : (P.us (30 + k) s L).1 = 0 ∧ KI (k + 1) (P.us (30 + k) s L).2.1 (P.us (30 + k) s L).2.2.1 (P.us (30 + k) s L).2.2.2 := by
  rcases h with ⟨h1, h2, rfl, rfl⟩ | ⟨h1, h2, rfl, rfl⟩
  · by_cases h7 : k = 7
    · subst h7
      obtain ⟨k1, k2, k3⟩ := h2.last rfl (s := zeroD) (L := L1) (by rw [L1_fin]; rfl) zeroD_alive L1_ok
      exact ⟨k1, .inr ⟨by omega, k3, by rw [show (30 + 7) = 37 from rfl, k2]; rfl, by rw [show (30 + 7) = 37 from rfl, k2]; rfl⟩⟩
    · obtain ⟨k1, k2, k3⟩ := h2.step (by omega) zeroD L1
      exact ⟨k1, .inl ⟨by omega, k3, by rw [k2], by rw [k2]⟩⟩
  · obtain ⟨k1, k2, k3⟩ := h2.us (i := 30 + k) (by omega) sK LK
    exact ⟨k1, .inr ⟨by omega, k3, by rw [k2], by rw [k2]⟩⟩
theorem KI.get {k : Nat} {P : Pl} {s : St} {L : Lg} (h : KI k P s L) (hk : k < 17) : ∃ x y, P.gt 64 ((30 + k : Nat) : Int) s L = ((x, y, 0), (P.us (30 + k) s L).2) := by
  have ha : askE 64 ((30 + k : Nat) : Int) = 0 := by unfold askE; rw [if_neg (by omega)]
  unfold Pl.gt
  rw [if_neg (by rw [ha]; simp), show (((30 + k : Nat) : Int)).toNat = 30 + k from rfl, if_neg (by rw [(h.step hk).1]; simp)]
  cases (P.us (30 + k) s L).2.1.fr (30 + k) with
  | none => exact ⟨_, _, rfl⟩
  | some f => exact ⟨_, _, rfl⟩
/-- Pool, log and disk lie in new blocks. -/
def KAt (w0 w : World) (b m : Nat) (pd pl : Value) (P : Pl) (s : St) (L : Lg) (R : Nat) : Prop :=
  ∃ S n B, PoAt w b m n pd pl B S P s L 64 R ∧ (∀ q, uS S b m B q → w0.heap.size ≤ q) ∧ Gr w0 w
section
variable {w0 w w' : World} {b m : Nat} {pd pl : Value} {P : Pl} {s : St} {L : Lg} {R k : Nat}
theorem KAt.gr (h : KAt w0 w b m pd pl P s L R) (g : Gr w w') : KAt w0 w' b m pd pl P s L R := by
  obtain ⟨S, n, B, h1, h2, h3⟩ := h
  exact ⟨S, n, B, h1.gr g, h2, Gr.trans h3 g⟩
theorem KAt.next {P' : Pl} {s' : St} {L' : Lg} {S S' : Nat → Prop} {B B' : Nat → Option Nat} {n' : Nat} (h2 : ∀ q, uS S b m B q → w0.heap.size ≤ q) (h3 : Gr w0 w) (k1 : PoAt w' b m n' pd pl B' S' P' s' L' 64 R) (k2 : Upd (uS S b m B) (uS S' b m B') w w') : KAt w0 w' b m pd pl P' s' L' R :=
  ⟨S', n', B', k1, fun q hq => k2.from h3.size h2 q hq, Below.trans h3 (k2.below h3.size h2)⟩
theorem KAt.newrow (h : KAt w0 w b m pd pl P s L R) (o : Obj) (cs : Array Value) : KAt w0 ((w.alloc o).setRow w.heap.size cs) b m pd pl P s L R := by
  obtain ⟨S, n, B, h1, h2, h3⟩ := h
  have g := Gr.new w o
  refine ⟨S, n, B, (h1.gr g).row (fun e => by have := h1.low _ e; omega) cs, h2, Below.trans h3 (below_setRow (B := w0.heap.size) (Below.mono g h3.size) h3.size cs)⟩
end
end Go.Proofs.YtaemmknijmhnoaaGreat

