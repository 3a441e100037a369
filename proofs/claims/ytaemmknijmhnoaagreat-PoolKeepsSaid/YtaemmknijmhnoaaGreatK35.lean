/-
  Texts, put together: Pool23 Pool24 Pool25.
-/
import Derived.Laws.CopyOwn
import Derived.Test.YtaemmknijmhnoaaGreatK34
set_option linter.unusedVariables false
set_option linter.unusedSimpArgs false
/-
  The code's pool: a page is asked for.
-/
namespace Go.Proofs.YtaemmknijmhnoaaGreat
open Go.RowKit Go.Maps

theorem setCells_blk {g : Nat} {t : TypeId} : ∀ (vs : List Value) (o : Nat) {w : World} {cs : Array Value}, Blk w g t cs → ∃ cs', Blk (w.setCells g o vs) g t cs' ∧ cs'.size = cs.size ∧ (∀ (j : Nat) (v : Value), vs[j]? = some v → o + j < cs.size → cs'[o + j]? = some v) ∧ ∀ k, k < o → cs'[k]? = cs[k]?
  | [], o, w, cs, h => ⟨cs, h, rfl, fun j v hj => by simp at hj, fun _ _ => rfl⟩
  | v :: vs, o, w, cs, h => by
    obtain ⟨cs', h1, h2, h3, h4⟩ := setCells_blk vs (o + 1) (h.set o v)
    refine ⟨cs', h1, by rw [h2]; simp, fun j u hj hlt => ?_, fun k hk => ?_⟩
    · cases j with
      | zero =>
        simp only [List.getElem?_cons_zero, Option.some.injEq] at hj
        subst hj
        rw [Nat.add_zero] at hlt ⊢
        rw [h4 o (by omega), Array.getElem?_setIfInBounds]
        simp [hlt]
      | succ j =>
        have h5 := h3 j u (by simpa using hj) (by simp; omega)
        rwa [show o + 1 + j = o + (j + 1) by omega] at h5
    · rw [h4 k (by omega), Array.getElem?_setIfInBounds]
      rw [if_neg (by omega)]
theorem Blk.whole {w : World} {g : Nat} {t : TypeId} {cs : Array Value} (h : Blk w g t cs) (vs : List Value) (hl : vs.length = cs.size) : Blk (w.setCells g 0 vs) g t vs.toArray := by
  obtain ⟨cs', h1, h2, h3, -⟩ := setCells_blk vs 0 h
  have e : cs' = vs.toArray := by
    refine Array.ext_getElem? fun j => ?_
    by_cases hj : j < vs.length
    · have h4 := h3 j vs[j] (List.getElem?_eq_getElem hj) (by omega)
      rw [Nat.zero_add] at h4
      rw [h4]; simp [hj]
    · rw [Array.getElem?_eq_none (by omega), Array.getElem?_eq_none (by simp; omega)]
  rw [← e]; exact h1
theorem setCells_size (g : Nat) : ∀ (vs : List Value) (o : Nat) (w : World), (w.setCells g o vs).heap.size = w.heap.size
  | [], _, _ => rfl
  | v :: vs, o, w => by
    have h := setCells_size g vs (o + 1) (w.setCell ⟨g, o, none⟩ v)
    rw [World.setCells, h]
    simp
theorem setCells_other {g k : Nat} (hk : k ≠ g) : ∀ (vs : List Value) (o : Nat) (w : World), (w.setCells g o vs).heap[k]? = w.heap[k]?
  | [], _, _ => rfl
  | v :: vs, o, w => (setCells_other hk vs (o + 1) (w.setCell ⟨g, o, none⟩ v)).trans (Below.heap_setCell w ⟨g, o, none⟩ v k hk)
theorem setCells_rest (g : Nat) : ∀ (vs : List Value) (o : Nat) (w : World), (w.setCells g o vs).os = w.os ∧ (w.setCells g o vs).tape = w.tape ∧ (w.setCells g o vs).output = w.output
  | [], _, _ => ⟨rfl, rfl, rfl⟩
  | v :: vs, o, w => by
    have hb := (Below.refl 0 w).setCell (p := ⟨g, o, none⟩) (Nat.zero_le _) v
    obtain ⟨h1, h2, h3⟩ := setCells_rest g vs (o + 1) (w.setCell ⟨g, o, none⟩ v)
    exact ⟨h1.trans hb.os, h2.trans hb.tape, h3.trans hb.output⟩
/-- What asking for a page answers and leaves. -/
def Pl.gt (P : Pl) (N : Nat) (i : Int) (s : St) (L : Lg) : (PSec × Nat × Int) × Pl × St × Lg :=
  if askE N i ≠ 0 then ((PSec.zero, 0, askE N i), P, s, L) else
    if (P.us i.toNat s L).1 ≠ 0 then ((PSec.zero, 0, (P.us i.toNat s L).1), (P.us i.toNat s L).2) else
      (match (P.us i.toNat s L).2.1.fr i.toNat with | some f => (PSx f.pay, f.lsn, 0) | none => (PSec.zero, 0, 0), (P.us i.toNat s L).2)
section
variable {w w' w1 : World} {b m n : Nat} {pd pl : Value} {B : Nat → Option Nat} {P : Pl} {S : Nat → Prop} {s : St} {L : Lg} {N k R : Nat}
theorem PoAt.stays (h : PoAt w b m n pd pl B S P s L N k) (e : ∀ q, uS S b m B q → w'.heap[q]? = w.heap[q]?) (hs : w.heap.size ≤ w'.heap.size) : PoAt w' b m n pd pl B S P s L N k :=
  ⟨h.cd.stays (fun q hq => e q (.inl hq)) hs, h.pl.stays fun q hq => e q (.inr hq), h.ap, h.bud, h.ok, h.cnt⟩
theorem PoAt.row (h : PoAt w b m n pd pl B S P s L N k) {q : Nat} (hq : ¬ uS S b m B q) (cs : Array Value) : PoAt (w.setRow q cs) b m n pd pl B S P s L N k :=
  h.stays (fun k hk => setRow_other w q k cs fun e => hq (e ▸ hk)) (by simp)
theorem Upd.row {F F' : Nat → Prop} (h : Upd F F' w w') {q : Nat} (hq : w.heap.size ≤ q) (cs : Array Value) : Upd F F' w (w'.setRow q cs) :=
  ⟨h.os, h.tape, h.output, by simpa using h.size, fun k hk hn => (setRow_other w' q k cs (by omega)).trans (h.block k hk hn), h.fresh⟩
theorem PoAt.cells (h : PoAt w b m n pd pl B S P s L N k) {q : Nat} (hq : ¬ uS S b m B q) (vs : List Value) : PoAt (w.setCells q 0 vs) b m n pd pl B S P s L N k :=
  h.stays (fun k hk => setCells_other (fun e => hq (by rw [← e]; exact hk)) vs 0 w) (Nat.le_of_eq (setCells_size q vs 0 w).symm)
theorem Upd.cells {F F' : Nat → Prop} (h : Upd F F' w w') {q : Nat} (hq : w.heap.size ≤ q) (vs : List Value) : Upd F F' w (w'.setCells q 0 vs) :=
  have hk := setCells_rest q vs 0 w'
  ⟨hk.1.trans h.os, hk.2.1.trans h.tape, hk.2.2.trans h.output, Nat.le_trans h.size (Nat.le_of_eq (setCells_size q vs 0 w').symm), fun k hk hn => (setCells_other (by omega) vs 0 w').trans (h.block k hk hn), h.fresh⟩
theorem askE_no {N : Nat} {i : Int} (h : askE N i = 0) : 0 ≤ i ∧ i < (N : Int) := by
  unfold askE at h
  split at h
  · cases h
  · omega
/-- Pool, log and disk stand; an answer. -/
def RetPo (v : Value) (P : Pl) (s : St) (L : Lg) (b m : Nat) (pd pl : Value) (B : Nat → Option Nat) (S : Nat → Prop) (N R : Nat) (w : World) (e : Ending) (w' : World) : Prop :=
  e = .returned v ∧ ∃ S' n' B', PoAt w' b m n' pd pl B' S' P s L N R ∧ Upd (uS S b m B) (uS S' b m B') w w'
def gtV (x : PSec × Nat × Int) : Value := .tuple #[.agg (Psec x.1), .int .u64 (x.2.1 : Int), .int .i64 x.2.2]
set_option maxRecDepth 100000 in
set_option maxHeartbeats 2000000 in
theorem Get_any (h : PoAt w b m n pd pl B S P s L N k) (hR : R + 2 * N + 1 ≤ k) (i : Int) : Calls Tryz.prog 11 #[.pointer (some ⟨b, 0, none⟩), .int .i64 i] w (RetPo (gtV (P.gt N i s L).1) (P.gt N i s L).2.1 (P.gt N i s L).2.2.1 (P.gt N i s L).2.2.2 b m pd pl B S N R w) := by
  have g0 : Gr w (w.alloc (.cells (Psec PSec.zero) PTS)) := Gr.new _ _
  have HB : Hid (Blk (w.alloc (.cells (Psec PSec.zero) PTS)) w.heap.size PTS (Psec PSec.zero)) := Lib.hid (Blk.new _ _ _)
  obtain ⟨W1, hW1⟩ : ∃ W1, W1 = w.alloc (.cells (Psec PSec.zero) PTS) := ⟨_, rfl⟩
  rw [← hW1] at g0 HB
  have HW1 : Hid (w.alloc (.cells (Psec PSec.zero) PTS) = W1) := Lib.hid hW1.symm
  have h1 := h.gr g0
  obtain ⟨F, hd, -⟩ := h1.cd.disk (w' := W1)
  have HA := pasked_any h1.pl hd i
  rw [h1.bud.len] at HA
  have HAk := Lib.hid HA
  have hz := Pzero_sec
  have HPo := Lib.hid h
  have HG := Lib.hid g0
  have HLow := Lib.hid h.low
  have hlo : w.heap.size < W1.heap.size := HB.out.lt
  have HU : Hid (askE N i = 0 → Calls Tryz.prog 41 #[.pointer (some ⟨b, 0, none⟩), .int .i64 i] W1 fun e w' => ∃ er S' n' B', er = (P.us i.toNat s L).1 ∧ PoAt w' b m n' pd pl B' S' (P.us i.toNat s L).2.1 (P.us i.toNat s L).2.2.1 (P.us i.toNat s L).2.2.2 N R ∧ Upd (uS S b m B) (uS S' b m B') w w' ∧ ¬ uS S' b m B' w.heap.size ∧ Blk w' w.heap.size PTS (Psec PSec.zero) ∧
      ((er ≠ 0 ∧ e = .returned (.tuple #[.pointer none, .int .i64 er])) ∨ (er = 0 ∧ ∃ c f, e = .returned (.tuple #[.pointer (some ⟨c, 0, none⟩), .int .i64 0]) ∧ c ≠ w.heap.size ∧ Blk w' c TFr f.cells ∧ (P.us i.toNat s L).2.1.fr i.toNat = some f))) := Lib.hid fun ha => by
    obtain ⟨ha0, ha1⟩ := askE_no ha
    obtain ⟨j, rfl⟩ : ∃ j : Nat, i = (j : Int) := ⟨i.toNat, by omega⟩
    refine (use_any h1 (i := j) (by omega) hR).mono ?_
    rintro e w' ⟨S', n', B', k1, k2, k3⟩
    have hn : ¬ uS S' b m B' w.heap.size := fun e => by
      rcases k2.fresh _ e with h4 | h4
      · have := HLow.out _ h4; omega
      · omega
    refine ⟨_, S', n', B', rfl, k1, Upd.pre g0 k2, hn, HB.out.stays (k2.block _ hlo fun e => by have := HLow.out _ e; omega), ?_⟩
    rcases k3 with k3 | ⟨k3, c, f, k4, k5, k6⟩
    · exact .inl k3
    · obtain ⟨f2, n1, n2, n3⟩ := k1.pl.frs j c k5
      rw [show ((j : Int).toNat) = j from rfl] at *
      rw [k6] at n1
      cases n1
      exact .inr ⟨k3, c, f, k4, fun e => hn (.inr (.inr (.inr ⟨j, by rw [k5, e]⟩))), n2, k6⟩
  have HKR : Hid (R ≤ k) := Lib.hid (by omega)
  clear h h1 hd g0 HA hW1 hR
  go_enter Tryz.func11, Tryz.ntmps11
  go_wp2_with fail
  rw [HW1.out]
  refine HAk.out.mono ?_
  rintro e w1 ⟨rfl, rfl⟩
  obtain ⟨ae, hae⟩ : ∃ ae, ae = askE N i := ⟨_, rfl⟩
  have HAe := Lib.hid hae
  rw [← hae]
  clear hae HAk HW1
  by_cases ha : ae = 0
  · subst ha
    have HUs := Lib.hid (HU.out HAe.out.symm)
    have HGt : Hid (P.gt N i s L = if (P.us i.toNat s L).1 ≠ 0 then ((PSec.zero, 0, (P.us i.toNat s L).1), (P.us i.toNat s L).2) else
      (match (P.us i.toNat s L).2.1.fr i.toNat with | some f => (PSx f.pay, f.lsn, 0) | none => (PSec.zero, 0, 0), (P.us i.toNat s L).2)) := Lib.hid (by
        unfold Pl.gt; rw [← HAe.out]; exact if_neg (by simp))
    clear HU HAe
    go_wp2_with fail
    refine HUs.out.mono ?_
    rintro e w2 ⟨er, S', n', B', her, hpo, hu, hn, hb, h3⟩
    have HE := Lib.hid her
    have HP2 := Lib.hid hpo
    have HU2 := Lib.hid hu
    have HN := Lib.hid hn
    have HB2 := Lib.hid hb
    clear her hpo hu hn hb HUs
    rcases h3 with ⟨h3, rfl⟩ | ⟨rfl, c, f, rfl, hcq, hbc, hf⟩
    · have hne : (er == 0) = false := beq_eq_false_iff_ne.2 h3
      have HR : Hid (P.gt N i s L = ((PSec.zero, 0, er), (P.us i.toNat s L).2)) := Lib.hid (by rw [HGt.out, if_pos (by rw [← HE.out]; exact h3), ← HE.out])
      clear h3 HGt HE
      go_wp2_with (refine PwpList_store_x rfl (.tmp 4) (.tmp 25) rfl HB2.out rfl rfl ?_)
      rw [HR.out]
      exact bodyPost_ret (Presults_x3 rfl _ _ _ _ rfl (HB2.out.row _)) rfl ⟨rfl, S', n', B', HP2.out.row HN.out _, HU2.out.row (Nat.le_refl _) _⟩
    · have HR : Hid (P.gt N i s L = ((PSx f.pay, f.lsn, 0), (P.us i.toNat s L).2)) := Lib.hid (by rw [HGt.out, if_neg (by rw [← HE.out]; simp), hf])
      have HBq : Hid (∀ W, Gr w2 W → Blk W w.heap.size PTS (Psec PSec.zero) ∧ W.rangeAt c 0 (PSx f.pay).cells ∧ W.cell? ⟨c, 248, none⟩ = some (.int .u64 (f.lsn : Int))) := Lib.hid fun W g => ⟨HB2.out.gr g, PFr.range (hbc.gr g), (PFr.c4 (hbc.gr g)).1⟩
      have hbq := (HBq.out _ (Gr.refl w2).drew).1
      have hS0 : w2.drew.rangeAt c 0 (PSx f.pay).cells ∧ w2.drew.cell? ⟨c, 248, none⟩ = some (.int .u64 (f.lsn : Int)) ∧ w2.drew.there w.heap.size 0 248 := ⟨(HBq.out _ (Gr.refl w2).drew).2.1, (HBq.out _ (Gr.refl w2).drew).2.2, fun j hj => ⟨by rw [hbq.cell]; simp [Psec_size, hj], hbq.frozen _⟩⟩
      have hS3 : (w2.drew.setCells w.heap.size 0 (PSx f.pay).cells).rangeAt c 0 (PSx f.pay).cells ∧ (w2.drew.setCells w.heap.size 0 (PSx f.pay).cells).cell? ⟨c, 248, none⟩ = some (.int .u64 (f.lsn : Int)) ∧ (w2.drew.setCells w.heap.size 0 (PSx f.pay).cells).there w.heap.size 0 248 := by
        have h5 : Blk (w2.drew.setCells w.heap.size 0 (PSx f.pay).cells) c TFr f.cells := (hbc.gr (Gr.refl w2).drew).stays (setCells_other hcq _ _ _)
        exact ⟨PFr.range h5, (PFr.c4 h5).1, World.there_setCells hS0.2.2 _ _ _⟩
      have hus := Punder_sec
      have hsz : (Tryz.prog.info? PTS).map (·.size) = some (PSx f.pay).cells.length := by rw [PSec.cells_len]; exact Psize_sec
      have hcl := (PSx f.pay).cells_len
      have hco := (PSx f.pay).one
      clear hf HGt HE hcq hbc
      go_wp2_with fail
      go_region_held3 (fun V => V.rangeAt c 0 (PSx f.pay).cells ∧ V.cell? ⟨c, 248, none⟩ = some (.int .u64 (f.lsn : Int)) ∧ V.there w.heap.size 0 248) (first | exact hS0 | exact hS3) (fail)
      all_goals
        go_wp2_with fail
        rw [HR.out]
        have hd2 : PoAt w2.drew b m n' pd pl B' S' (P.us i.toNat s L).2.1 (P.us i.toNat s L).2.2.1 (P.us i.toNat s L).2.2.2 N R := HP2.out.gr (Gr.refl w2).drew
        exact bodyPost_ret (Presults_x3 rfl _ _ _ _ rfl (hbq.whole (PSx f.pay).cells (by rw [hcl, Psec_size]))) rfl ⟨rfl, S', n', B', hd2.cells HN.out _, (HU2.out.more (Gr.refl w2).drew).cells (Nat.le_refl _) _⟩
  · have hne : (ae == 0) = false := beq_eq_false_iff_ne.2 ha
    have HR : Hid (P.gt N i s L = ((PSec.zero, 0, ae), P, s, L)) := Lib.hid (by unfold Pl.gt; rw [← HAe.out]; exact if_pos ha)
    have HK : Hid (R ≤ k ∧ ¬ uS S b m B w.heap.size) := Lib.hid ⟨HKR.out, fun e => by have := HLow.out _ e; omega⟩
    clear HU HAe ha
    go_wp2_with (refine PwpList_store_x rfl (.tmp 4) (.tmp 15) rfl HB.out rfl rfl ?_)
    rw [HR.out]
    exact bodyPost_ret (Presults_x3 rfl _ _ _ _ rfl (HB.out.row _)) rfl ⟨rfl, S, n, B, ((HPo.out.gr HG.out).lower HK.out.1).row HK.out.2 _, (Upd.of_gr HG.out).row (Nat.le_refl _) _⟩
end
end Go.Proofs.YtaemmknijmhnoaaGreat

/-
  The code's pool: a page is changed.
-/
namespace Go.Proofs.YtaemmknijmhnoaaGreat
open Go.RowKit Go.Maps

/-- Only one block has turned. -/
structure Onc (c : Nat) (w w' : World) : Prop where
  os : w'.os = w.os
  tape : w'.tape = w.tape
  output : w'.output = w.output
  size : w'.heap.size = w.heap.size
  block : ∀ k, k ≠ c → w'.heap[k]? = w.heap[k]?
theorem Onc.refl (c : Nat) (w : World) : Onc c w w := ⟨rfl, rfl, rfl, rfl, fun _ _ => rfl⟩
theorem Onc.trans {c : Nat} {w1 w2 w3 : World} (h : Onc c w1 w2) (k : Onc c w2 w3) : Onc c w1 w3 := ⟨k.os.trans h.os, k.tape.trans h.tape, k.output.trans h.output, k.size.trans h.size, fun q hq => (k.block q hq).trans (h.block q hq)⟩
theorem Onc.cell (c : Nat) (w : World) (o : Nat) (u : Value) : Onc c w (w.setCell ⟨c, o, none⟩ u) := by
  have hb := (Below.refl 0 w).setCell (p := ⟨c, o, none⟩) (Nat.zero_le _) u
  exact ⟨hb.os, hb.tape, hb.output, by simp, fun k hk => Below.heap_setCell w _ _ k hk⟩
theorem Onc.upd {c : Nat} {w w' : World} (h : Onc c w w') : Upd (fun q => q = c) (fun q => q = c) w w' := ⟨h.os, h.tape, h.output, Nat.le_of_eq h.size.symm, fun k _ hk => h.block k hk, fun _ hk => .inl hk⟩
theorem Onc.row (c : Nat) (w : World) (cs : Array Value) : Onc c w (w.setRow c cs) := ⟨rfl, rfl, rfl, by simp, fun k hk => setRow_other w c k cs hk⟩
theorem PFr.In.laid {f : PFr} (h : f.In) {F : Nat} {ys : List Int} (k : Wd.Small ys) (hf : F + ys.length ≤ 248) : ({ f with pay := Play f.pay F ys } : PFr).In := ⟨Play_sec h.pay k hf, h.l, h.f⟩
theorem Play_nil (xs : List Int) (F : Nat) : Play xs F [] = xs := by simp [Play]
/-- copy(f.payload[off:], bytes). -/
theorem wpList_copy_fr {w : World} {ops : Array Oper} {rest : List Oper} {o : Oper} {a : Act} {Q : Exit → Act → World → Prop} (hgd : o.guard = none) (d s : Operand)
    (ho : o.op = .call { callee := .builtin .copy, args := #[d, s], argTypes := #[31, 31] }) {c F A : Nat} {f : PFr} (hA : A = if 248 = F then 0 else F) (hd : a.eval d = .slice (some ⟨c, A, none⟩) (248 - F) (248 - F)) (hb : Blk w c TFr f.cells) (hx : f.In)
    {q : Option Addr} {m cc : Nat} {ys : List Int} (hs : a.eval s = .slice q m cc) (hy : Byt w q m cc ys) (hf : F + m ≤ 248)
    (h : ∀ w', Blk w' c TFr ({ f with pay := Play f.pay F ys } : PFr).cells → Onc c w w' → wpList Tryz.prog ops Q rest (a.put o.dst (goInt m)) w') : wpList Tryz.prog ops Q (o :: rest) a w := by
  have hl := hy.len
  by_cases h0 : m = 0
  · subst h0
    obtain rfl : ys = [] := List.eq_nil_of_length_eq_zero hl
    refine wpList_copy_nothing hgd d s _ _ ho 5 Pbt4.us Pbt4_size _ _ _ _ _ _ hd hs (by simp) ?_
    exact h w (by rw [Play_nil]; exact hb) (Onc.refl c w)
  · obtain ⟨b, of, rfl, _⟩ := hy.at (by omega)
    have hAF : A = F := by rw [hA, if_neg (by omega)]
    subst hAF
    refine wpList_copy_own hgd d s _ _ ho 5 Pbt4.us Pbt4_size c A (248 - A) (248 - A) ⟨b, of, none⟩ m cc hd hs f.cells TFr hb (ys.map (Value.int .u8)) (by rw [List.length_map, hl]; exact (Nat.min_eq_left (by omega)).symm) hy.news (by rw [List.length_map, hl, f.size]; omega) (u8s_oneCell _) ?_
    have e := PFr.laid f hx.pay A ys hy.small (by rw [hl]; exact hf)
    rw [List.append_assoc] at e
    rw [e, List.length_map, hl]
    exact h _ (hb.row _) (Onc.row c w _)
/-- What changing a page answers and leaves. -/
def Pl.pt (P : Pl) (N : Nat) (i o : Int) (ys : List Int) (first lsn : Nat) (s : St) (L : Lg) : Int × Pl × St × Lg :=
  if askE N i ≠ 0 then (askE N i, P, s, L) else if o < 0 ∨ 248 - (ys.length : Int) < o ∨ lsn = 0 then (2, P, s, L) else
    if (P.us i.toNat s L).1 ≠ 0 then P.us i.toNat s L else
      (0, match (P.us i.toNat s L).2.1.fr i.toNat with
        | some f => (P.us i.toNat s L).2.1.put i.toNat { f with pay := Play f.pay o.toNat ys, lsn := lsn, first := if f.dirty then f.first else first, dirty := true }
        | none => (P.us i.toNat s L).2.1, (P.us i.toNat s L).2.2)
theorem run_cutF (c F : Nat) (h : F ≤ 248) (w : World) : (Instr.sliceAt PTS (.pointer (some ⟨c, 0, none⟩)) (some (.int .i64 (F : Int))) none none).run Tryz.prog w = .ok (.slice (some ⟨c, if 248 = F then 0 else F, none⟩) (248 - F) (248 - F)) w := by
  have hl : Tryz.prog.arrayLen PTS = 248 := by kernel_rfl
  have he : Tryz.prog.elem PTS = 5 := by kernel_rfl
  have hu : Tryz.prog.underlying PTS = some (.array (Tryz.prog.arrayLen PTS) (Tryz.prog.elem PTS)) := by rw [hl, he]; exact Punder_sec
  rw [run_sliceAt_array_l w PTS ⟨c, 0, none⟩ hu .i64 (F : Int) (by omega) (by rw [hl]; omega), he, Psize_u8]
  by_cases hE : 248 = F
  · subst hE; simp [slicedAt, Result.andThen, hl]
  · have h1 : ¬ F = 248 := fun e => hE e.symm
    simp [slicedAt, Result.andThen, hl, hE, Addr.add, h1]
    try (intro e; exact e.symm)
theorem PlOk.put {P : Pl} {N i : Nat} (h : PlOk P N) (hi : i < N) (f : PFr) : PlOk (P.put i f) N := ⟨fun j hj => by
    by_cases e : j = i
    · omega
    · refine h.lt j ?_
      have h1 : (if j = i then some f else P.fr j) ≠ none := hj
      rwa [if_neg e] at h1, h.n, h.h0, h.h1, h.m0, h.m1⟩
section
variable {w w' w1 : World} {b m n : Nat} {pd pl : Value} {B : Nat → Option Nat} {P : Pl} {S : Nat → Prop} {s : St} {L : Lg} {N k R : Nat}
theorem PoAt.turn (h : PoAt w b m n pd pl B S P s L N k) {i c : Nat} {f : PFr} (hi : i < N) (hB : B i = some c) (hf : f.In) (hb : Blk w' c TFr f.cells) (ho : Onc c w w') : PoAt w' b m n pd pl B S (P.put i f) s L N k ∧ Upd (uS S b m B) (uS S b m B) w w' :=
  ⟨⟨h.cd.stays (fun q hq => ho.block q fun e => h.ap q hq (.inr (.inr ⟨i, by rw [hB, e]⟩))) (Nat.le_of_eq ho.size.symm), h.pl.turn hB hf hb ho.block, h.ap, h.bud, h.ok.put hi f, h.cnt⟩,
    ⟨ho.os, ho.tape, ho.output, Nat.le_of_eq ho.size.symm, fun q _ hn => ho.block q fun e => hn (.inr (.inr (.inr ⟨i, by rw [hB, e]⟩))), fun _ hq => .inl hq⟩⟩
theorem Byt.upd {F F' : Nat → Prop} {p : Option Addr} {n c : Nat} {xs : List Int} (h : Byt w p n c xs) (u : Upd F F' w w') (hF : 0 < n → ∀ y, p = some y → ¬ F y.block) : Byt w' p n c xs := by
  by_cases h0 : n = 0
  · subst h0
    obtain rfl : xs = [] := List.eq_nil_of_length_eq_zero h.len
    exact ⟨rfl, h.cap, h.most, Lib.BytesIn.nil _ _ _, h.nilCap, h.small⟩
  · exact h.stays fun y hy => u.block y.block (h.up (by omega) y hy) (hF (by omega) y hy)
set_option maxRecDepth 100000 in
set_option maxHeartbeats 2000000 in
theorem Put_any (h : PoAt w b m n pd pl B S P s L N k) (hR : R + 2 * N + 1 ≤ k) (i o : Int) {pb : Option Addr} {nb cb : Nat} {ys : List Int} (hy : Byt w pb nb cb ys) (hya : 0 < nb → ∀ y, pb = some y → ¬ uS S b m B y.block) {first lsn : Nat} (hfi : first ≤ 18446744073709551615) (hls : lsn ≤ 18446744073709551615) :
    Calls Tryz.prog 14 #[.pointer (some ⟨b, 0, none⟩), .int .i64 i, .int .i64 o, .slice pb nb cb, .int .u64 (first : Int), .int .u64 (lsn : Int)] w (RetPo (.int .i64 (P.pt N i o ys first lsn s L).1) (P.pt N i o ys first lsn s L).2.1 (P.pt N i o ys first lsn s L).2.2.1 (P.pt N i o ys first lsn s L).2.2.2 b m pd pl B S N R w) := by
  obtain ⟨F0, hd, -⟩ := h.cd.disk (w' := w)
  have HA := pasked_any h.pl hd i
  rw [h.bud.len] at HA
  have HAk := Lib.hid HA
  have HPo := Lib.hid h
  have HY := Lib.hid hy
  have hnb : nb ≤ 9223372036854775807 := by have h1 := hy.cap; have h2 := hy.most; unfold maxLen at h2; omega
  have hyl := hy.len
  have HB : Hid (first ≤ 18446744073709551615 ∧ lsn ≤ 18446744073709551615 ∧ nb ≤ 9223372036854775807 ∧ ys.length = nb ∧ R ≤ k ∧ Wd.Small ys) := Lib.hid ⟨hfi, hls, hnb, hyl, by omega, hy.small⟩
  have HU : Hid (askE N i = 0 → Calls Tryz.prog 41 #[.pointer (some ⟨b, 0, none⟩), .int .i64 i] w fun e w' => ∃ er S' n' B', er = (P.us i.toNat s L).1 ∧ PoAt w' b m n' pd pl B' S' (P.us i.toNat s L).2.1 (P.us i.toNat s L).2.2.1 (P.us i.toNat s L).2.2.2 N R ∧ Upd (uS S b m B) (uS S' b m B') w w' ∧ Byt w' pb nb cb ys ∧
      ((er ≠ 0 ∧ e = .returned (.tuple #[.pointer none, .int .i64 er])) ∨ (er = 0 ∧ ∃ c f, e = .returned (.tuple #[.pointer (some ⟨c, 0, none⟩), .int .i64 0]) ∧ B' i.toNat = some c ∧ i.toNat < N ∧ Blk w' c TFr f.cells ∧ f.In ∧ (P.us i.toNat s L).2.1.fr i.toNat = some f ∧ (0 < nb → ∀ y, pb = some y → y.block ≠ c)))) := Lib.hid fun ha => by
    obtain ⟨ha0, ha1⟩ := askE_no ha
    obtain ⟨j, rfl⟩ : ∃ j : Nat, i = (j : Int) := ⟨i.toNat, by omega⟩
    refine (use_any h (i := j) (by omega) hR).mono ?_
    rintro e w' ⟨S', n', B', k1, k2, k3⟩
    refine ⟨_, S', n', B', rfl, k1, k2, hy.upd k2 hya, ?_⟩
    rcases k3 with k3 | ⟨k3, c, f, k4, k5, k6⟩
    · exact .inl k3
    · obtain ⟨f2, n1, n2, n3⟩ := k1.pl.frs j c k5
      rw [show ((j : Int).toNat) = j from rfl] at *
      rw [k6] at n1
      cases n1
      refine .inr ⟨k3, c, f, k4, k5, by omega, n2, n3, k6, fun h0 y hy1 e => ?_⟩
      rcases k2.fresh c (.inr (.inr (.inr ⟨j, k5⟩))) with h4 | h4
      · exact hya h0 y hy1 (e ▸ h4)
      · have := hy.up h0 y hy1; omega
  clear h hd HA hR hy hya hfi hls hyl
  go_enter Tryz.func14, Tryz.ntmps14
  go_wp2_with fail
  refine HAk.out.mono ?_
  rintro e w1 ⟨rfl, rfl⟩
  obtain ⟨ae, hae⟩ : ∃ ae, ae = askE N i := ⟨_, rfl⟩
  have HAe := Lib.hid hae
  rw [← hae]
  clear hae HAk
  by_cases ha : ae = 0
  · subst ha
    have hws : IntKind.i64.wrap (248 - (nb : Int)) = 248 - (nb : Int) := IntWalk.i64_in _ (by omega)
    by_cases hb : o < 0 ∨ 248 - (nb : Int) < o ∨ lsn = 0
    · have HR : Hid (P.pt N i o ys first lsn s L = (2, P, s, L)) := Lib.hid (by
        unfold Pl.pt; rw [← HAe.out, if_neg (by simp), HB.out.2.2.2.1, if_pos hb])
      have HE : ∀ ex, ex = P.pt N i o ys first lsn s L → RetPo (.int .i64 ex.1) ex.2.1 ex.2.2.1 ex.2.2.2 b m pd pl B S N R w (.returned (.int .i64 2)) w := by
        rintro ex rfl
        rw [HR.out]
        exact ⟨rfl, S, n, B, HPo.out.lower HB.out.2.2.2.2.1, Upd.same _⟩
      have HEh := Lib.hid (HE _ rfl)
      clear HE HU HAe
      by_cases h0 : o < 0
      · have d0 : decide (o < 0) = true := decide_eq_true h0
        go_wp2_with fail
        go_ret
        exact HEh.out
      · have d0 : decide (o < 0) = false := decide_eq_false h0
        by_cases h1 : 248 - (nb : Int) < o
        · have d1 : decide (248 - (nb : Int) < o) = true := decide_eq_true h1
          go_wp2_with fail
          go_ret
          exact HEh.out
        · have d1 : decide (248 - (nb : Int) < o) = false := decide_eq_false h1
          have e2 : lsn = 0 := by omega
          have d2 : ((lsn : Int) == 0) = true := by rw [e2]; rfl
          clear e2
          go_wp2_with fail
          go_ret
          exact HEh.out
    · have d0 : decide (o < 0) = false := decide_eq_false fun e => hb (.inl e)
      have d1 : decide (248 - (nb : Int) < o) = false := decide_eq_false fun e => hb (.inr (.inl e))
      have d2 : ((lsn : Int) == 0) = false := beq_eq_false_iff_ne.2 fun e => hb (.inr (.inr (by omega)))
      have HGt : Hid (P.pt N i o ys first lsn s L = if (P.us i.toNat s L).1 ≠ 0 then P.us i.toNat s L else
        (0, match (P.us i.toNat s L).2.1.fr i.toNat with
          | some f => (P.us i.toNat s L).2.1.put i.toNat { f with pay := Play f.pay o.toNat ys, lsn := lsn, first := if f.dirty then f.first else first, dirty := true }
          | none => (P.us i.toNat s L).2.1, (P.us i.toNat s L).2.2)) := Lib.hid (by
        unfold Pl.pt; rw [← HAe.out, if_neg (by simp), HB.out.2.2.2.1, if_neg hb])
      obtain ⟨Fo, rfl⟩ : ∃ Fo : Nat, o = (Fo : Int) := ⟨o.toNat, by have := not_or.1 hb; omega⟩
      have HFo : Hid (Fo + nb ≤ 248) := Lib.hid (by have := not_or.1 hb; have := not_or.1 this.2; omega)
      have HUs := Lib.hid (HU.out HAe.out.symm)
      clear HU HAe hb
      go_wp2_with fail
      refine HUs.out.mono ?_
      rintro e w2 ⟨er, S', n', B', her, hpo, hu, hy, h3⟩
      have HE := Lib.hid her
      have HP2 := Lib.hid hpo
      have HU2 := Lib.hid hu
      have HY2 := Lib.hid hy
      clear her hpo hu hy HUs
      rcases h3 with ⟨h3, rfl⟩ | ⟨rfl, c, f, rfl, hBc, hiN, hbc, hin, hf, hyc⟩
      · have hne : (er == 0) = false := beq_eq_false_iff_ne.2 h3
        have HR : Hid (P.pt N i Fo ys first lsn s L = (er, (P.us i.toNat s L).2)) := Lib.hid (by rw [HGt.out, if_pos (by rw [← HE.out]; exact h3), HE.out])
        clear h3 HGt HE
        go_wp2_with fail
        go_ret
        rw [HR.out]
        exact ⟨rfl, S', n', B', HP2.out, HU2.out⟩
      · have HR : Hid (P.pt N i Fo ys first lsn s L = (0, (P.us i.toNat s L).2.1.put i.toNat { f with pay := Play f.pay Fo ys, lsn := lsn, first := if f.dirty then f.first else first, dirty := true }, (P.us i.toNat s L).2.2)) := Lib.hid (by
          rw [HGt.out, if_neg (by rw [← HE.out]; simp), hf]; rfl)
        have hcut := run_cutF c Fo (by have := HFo.out; omega)
        obtain ⟨A, hA⟩ : ∃ A, A = if 248 = Fo then 0 else Fo := ⟨_, rfl⟩
        rw [← hA] at hcut
        have HAa := Lib.hid hA
        have HEnd : Hid (∀ W f3, Onc c w2 W → Blk W c TFr f3.cells → f3 = ({ f with pay := Play f.pay Fo ys, lsn := lsn, first := if f.dirty then f.first else first, dirty := true } : PFr) → RetPo (.int .i64 (P.pt N i Fo ys first lsn s L).1) (P.pt N i Fo ys first lsn s L).2.1 (P.pt N i Fo ys first lsn s L).2.2.1 (P.pt N i Fo ys first lsn s L).2.2.2 b m pd pl B S N R w (.returned (.int .i64 0)) W) := Lib.hid fun W f3 ho hb3 e3 => by
          rw [HR.out]
          have hin3 : f3.In := by
            rw [e3]
            refine ⟨(hin.laid HB.out.2.2.2.2.2 (by rw [HB.out.2.2.2.1]; exact HFo.out)).pay, HB.out.2.1, ?_⟩
            show (if f.dirty then f.first else first) ≤ _
            split
            · exact hin.f
            · exact HB.out.1
          obtain ⟨k1, k2⟩ := HP2.out.turn hiN hBc hin3 hb3 ho
          rw [e3] at k1
          exact ⟨rfl, S', n', B', k1, HU2.out.trans k2⟩
        have k0 := PFr.c4 hbc
        have f1 := hbc.frozen 249
        have f2 := hbc.frozen 250
        have HIn := Lib.hid hin
        have HYc := Lib.hid hyc
        have HBc := Lib.hid hbc
        obtain ⟨_, k1, k2, _⟩ := k0
        obtain ⟨dy, hdy⟩ : ∃ dy, dy = f.dirty := ⟨_, rfl⟩
        have HDy := Lib.hid hdy
        rw [← hdy] at k2
        clear hf HGt HE hBc hiN hbc hin hA hdy hyc
        have HMid : Hid (∃ f3 : PFr, f3 = (if dy = true then f else ({ f with dirty := true, first := first } : PFr)) ∧ f3.In) := Lib.hid ⟨_, rfl, by
          split
          · exact HIn.out
          · exact ⟨HIn.out.pay, HIn.out.l, HB.out.1⟩⟩
        obtain ⟨f3, hf3, hi3⟩ := HMid.out
        have HF3 := Lib.hid hf3
        have HI3 := Lib.hid hi3
        clear hf3 hi3 HMid
        cases dy with
        | true =>
          have HW3 : Hid (Blk w2 c TFr f3.cells ∧ Onc c w2 w2 ∧ Byt w2 pb nb cb ys) := Lib.hid ⟨by rw [HF3.out]; exact HBc.out, Onc.refl _ _, HY2.out⟩
          clear k1 f1 f2
          go_wp2_with (refine wpList_copy_fr rfl (.tmp 60) (.tmp 61) rfl HAa.out rfl HW3.out.1 HI3.out rfl HW3.out.2.2 HFo.out ?_; intro W4 hb4 ho4; have HB4 := Lib.hid hb4; have HO4 := Lib.hid ho4; have m0 := (PFr.c4 hb4).1; have mf := hb4.frozen 248; clear hb4 ho4)
          go_ret
          refine HEnd.out _ _ ((HW3.out.2.1.trans HO4.out).trans (Onc.cell c _ _ _)) (HB4.out.set 248 _ |> fun h => by rw [PFr.setLsn] at h; exact h) ?_
          rw [HF3.out, ← HDy.out]
          simp only [if_true]
          have hd := HDy.out
          obtain ⟨a1, a2, a3, a4, a5⟩ := f
          cases (show true = a4 from hd)
          rfl
        | false =>
          have HW3 : Hid (Blk ((w2.setCell ⟨c, 250, none⟩ (.bool true)).setCell ⟨c, 249, none⟩ (.int .u64 (first : Int))) c TFr f3.cells ∧ Onc c w2 ((w2.setCell ⟨c, 250, none⟩ (.bool true)).setCell ⟨c, 249, none⟩ (.int .u64 (first : Int))) ∧ Byt ((w2.setCell ⟨c, 250, none⟩ (.bool true)).setCell ⟨c, 249, none⟩ (.int .u64 (first : Int))) pb nb cb ys) := Lib.hid ⟨by
            have h5 := (HBc.out.set 250 (.bool true)).set 249 (.int .u64 (first : Int))
            rw [PFr.setDirty, PFr.setFirst] at h5
            rw [HF3.out]; exact h5, (Onc.cell c w2 _ _).trans (Onc.cell c _ _ _), HY2.out.upd (F := fun q => q = c) (F' := fun q => q = c) (((Onc.cell c w2 _ _).trans (Onc.cell c _ _ _)).upd) HYc.out⟩
          go_wp2_with (refine wpList_copy_fr rfl (.tmp 60) (.tmp 61) rfl HAa.out rfl HW3.out.1 HI3.out rfl HW3.out.2.2 HFo.out ?_; intro W4 hb4 ho4; have HB4 := Lib.hid hb4; have HO4 := Lib.hid ho4; have m0 := (PFr.c4 hb4).1; have mf := hb4.frozen 248; clear hb4 ho4)
          go_ret
          refine HEnd.out _ _ ((HW3.out.2.1.trans HO4.out).trans (Onc.cell c _ _ _)) (HB4.out.set 248 _ |> fun h => by rw [PFr.setLsn] at h; exact h) ?_
          rw [HF3.out, ← HDy.out]
          rfl
  · have hne : (ae == 0) = false := beq_eq_false_iff_ne.2 ha
    have HR : Hid (P.pt N i o ys first lsn s L = (ae, P, s, L)) := Lib.hid (by unfold Pl.pt; rw [← HAe.out]; exact if_pos ha)
    clear HU HAe ha
    go_wp2_with fail
    go_ret
    rw [HR.out]
    exact ⟨rfl, S, n, B, HPo.out.lower HB.out.2.2.2.2.1, Upd.same _⟩
end
end Go.Proofs.YtaemmknijmhnoaaGreat

/-
  The code's pool: pages are written out.
-/
namespace Go.Proofs.YtaemmknijmhnoaaGreat
open Go.RowKit Go.Maps

def Pl.wa (P : Pl) (s : St) (L : Lg) : Int × Pl × St × Lg :=
  if (P.wr P.dirty s L).1 ≠ 0 then ((P.wr P.dirty s L).1, P, (P.wr P.dirty s L).2) else
    if BaE (P.wr P.dirty s L).2.1 ≠ 0 then (BaE (P.wr P.dirty s L).2.1, P, BaS (P.wr P.dirty s L).2.1, (P.wr P.dirty s L).2.2) else (0, P.wrote P.dirty, BaS (P.wr P.dirty s L).2.1, (P.wr P.dirty s L).2.2)
theorem Pl.wrote_none (P : Pl) (xs : List Nat) (i : Nat) : (P.wrote xs).fr i = none ↔ P.fr i = none := by
  show (if i ∈ xs then (P.fr i).map fun f => ({ f with dirty := false } : PFr) else P.fr i) = none ↔ _
  by_cases h : i ∈ xs
  · rw [if_pos h]; simp
  · rw [if_neg h]
theorem PlOk.wrote {P : Pl} {N : Nat} (h : PlOk P N) (xs : List Nat) : PlOk (P.wrote xs) N := ⟨fun i hi => h.lt i fun e => hi ((P.wrote_none xs i).2 e), h.n, h.h0, h.h1, h.m0, h.m1⟩
section
variable {w w' w1 : World} {b m n : Nat} {pd pl : Value} {B : Nat → Option Nat} {P : Pl} {S : Nat → Prop} {s : St} {L : Lg} {N k R : Nat}
theorem CodeAt.Barrier (h : CodeAt w S pd pl s L) (hw : s.writes ≤ 1000000000) : Calls Tryz.prog 49 #[pd] w (RetC (.int .i64 (BaE s)) (BaS s) L S pd pl w) := by
  obtain ⟨F, b, q, m, c, rfl, h, rfl⟩ := h
  refine (Barrier_all w h.dk hw).mono ?_
  rintro e w' ⟨F', he, hd, hu⟩
  obtain ⟨F2, h1, h2⟩ := h.disk ⟨_, hd, hu⟩
  exact ⟨_, he, ⟨F2, b, q, m, c, rfl, h1, rfl⟩, h2⟩
theorem PoAt.next {S' : Nat → Prop} {s' : St} {L' : Lg} {j : Nat} (h : PoAt w b m n pd pl B S P s L N k) (hc : CodeAt w' S' pd pl s' L') (hu : Upd S S' w w') (hb : Bud N j s' L') (hj : j ≤ k) : PoAt w' b m n pd pl B S' P s' L' N j ∧ Upd (uS S b m B) (uS S' b m B) w w' := by
  refine ⟨⟨hc, h.pl.stays fun q hq => hu.block q (h.pl.low q hq) fun e => h.ap q e hq, fun q hq e => ?_, hb, h.ok, by have := h.cnt; omega⟩, hu.both (Upd.same _) h.pl.low (fun q hq e => ?_) fun _ e => e⟩
  all_goals
    rcases hu.fresh q hq with h1 | h1
    · exact h.ap q h1 e
    · have := h.pl.low q e; omega
theorem Bud.ba {N k : Nat} {s : St} {L : Lg} (h : Bud N k s L) : Bud N k (BaS s) L := by
  have h3 := (StW.ba (s0 := s) (k := 0) ⟨rfl, h.less, Nat.le_refl _⟩)
  exact ⟨h.ok, h3.len.trans h.len, h.fit, by have := h.wr; have := h3.wr; omega, h3.less⟩
theorem barrier_po (h : PoAt w b m n pd pl B S P s L N k) : Calls Tryz.prog 49 #[pd] w fun e w' => e = .returned (.int .i64 (BaE s)) ∧ ∃ S', PoAt w' b m n pd pl B S' P (BaS s) L N k ∧ Upd (uS S b m B) (uS S' b m B) w w' := by
  refine (h.cd.Barrier (by have := h.bud.wr; omega)).mono ?_
  rintro e w' ⟨S', rfl, hc, hu⟩
  exact ⟨rfl, S', h.next hc hu h.bud.ba (Nat.le_refl _)⟩
theorem written_po {base : Nat} {v : Value} {xs : List Nat} (h : PoAt w b m n pd pl B S P s L N k) (hr : Ints w base v xs) (hx : ∀ j, j < xs.length → xs.getD j 0 < 65536) (hv : ∀ g, v.ownBlock = some g → ¬ plS b m B g) :
    Calls Tryz.prog 45 #[.pointer (some ⟨b, 0, none⟩), v] w fun e w' => e = .returned (.tuple #[]) ∧ PoAt w' b m n pd pl B S (P.wrote xs) s L N k ∧ Upd (uS S b m B) (uS S b m B) w w' := by
  refine (written_any h.pl hr hx hv).mono ?_
  rintro e w' ⟨rfl, h1, h2⟩
  have hu := Upd.frOnly (b := b) (m := m) h2
  exact ⟨rfl, ⟨h.cd.stays (fun q hq => hu.block q (h.cd.low q hq) (h.ap q hq)) hu.size, h1, h.ap, h.bud, h.ok.wrote xs, h.cnt⟩, (Upd.same (F := S) w).both hu h.pl.low h.ap fun _ e => e⟩
set_option maxRecDepth 100000 in
set_option maxHeartbeats 2000000 in
theorem WriteAllP_any (h : PoAt w b m n pd pl B S P s L N k) (hR : R + 2 * N ≤ k) : Calls Tryz.prog 18 #[.pointer (some ⟨b, 0, none⟩)] w (RetPo (.int .i64 (P.wa s L).1) (P.wa s L).2.1 (P.wa s L).2.2.1 (P.wa s L).2.2.2 b m pd pl B S N R w) := by
  have HMi := Lib.hid (pmissing_no h.pl)
  have hdx : ∀ j, j < P.dirty.length → P.dirty.getD j 0 < 65536 := fun j hj => (P.dirty_at hj).1
  have hdl : P.dirty.length ≤ N := Nat.le_trans (List.length_filter_le _ _) h.ok.pages_len
  have hN6 := h.ok.n
  obtain ⟨ds, hds⟩ : ∃ ds, ds = P.dirty := ⟨_, rfl⟩
  obtain ⟨X, hX⟩ : ∃ X, X = P.wr ds s L := ⟨_, rfl⟩
  have HT : Hid (P.wa s L = if X.1 ≠ 0 then (X.1, P, X.2) else if BaE X.2.1 ≠ 0 then (BaE X.2.1, P, BaS X.2.1, X.2.2) else (0, P.wrote ds, BaS X.2.1, X.2.2)) := Lib.hid (by unfold Pl.wa; rw [hX, hds])
  have HDi := Lib.hid (Dirty_any h.pl h.ok.hin)
  rw [← hds] at HDi hdx hdl
  have HLow := Lib.hid h.pl.low
  have HWr : Hid (∀ W v, Gr w W → Ints W w.heap.size v ds → Calls Tryz.prog 44 #[.pointer (some ⟨b, 0, none⟩), v] W fun e w' => ∃ er S', e = .returned (.int .i64 er) ∧ er = X.1 ∧ PoAt w' b m n pd pl B S' P X.2.1 X.2.2 N R ∧ Upd (uS S b m B) (uS S' b m B) w w' ∧ Ints w' w.heap.size v ds ∧ (∀ q, v.ownBlock = some q → w.heap.size ≤ q ∧ ¬ S' q) ∧ W.heap.size ≤ w'.heap.size) := Lib.hid fun W v g hv => by
    have hvo := World.ownsRow.lt hv
    refine (write_po (K0 := fun q => v.ownBlock = some q) (fun q hq => ⟨fun e => ?_, (hvo q hq).2⟩) (h.gr g) hv.isl (by omega) hdx (R := R) (by omega)).mono ?_
    · have := h.cd.low q e; have := (hvo q hq).1; omega
    · rintro e w' ⟨rfl, k0, S', k1, k2⟩
      rw [← hX] at k1 ⊢
      refine ⟨_, S', rfl, rfl, k1, Upd.pre g (k2.both (Upd.same _) (h.gr g).pl.low (fun q hq e => ?_) fun _ e => e), hv.stays k0, fun q hq => ⟨(hvo q hq).1, fun e => ?_⟩, k2.size⟩
      · rcases k2.fresh q hq with h1 | h1
        · exact h.ap q h1 e
        · have := (h.gr g).pl.low q e; omega
      · rcases k2.fresh q e with h1 | h1
        · have := h.cd.low q h1; have := (hvo q hq).1; omega
        · have := (hvo q hq).2; omega
  have HDx := Lib.hid hdx
  obtain ⟨d, rfl⟩ := h.pl.dsk
  clear h hdx hdl hN6 hds hX hR
  go_enter Tryz.func18, Tryz.ntmps18
  go_wp2_with fail
  refine HMi.out.mono ?_
  rintro e w1 ⟨rfl, rfl⟩
  go_wp2_with fail
  refine HDi.out.mono ?_
  rintro e w1 ⟨v, rfl, hv, g1⟩
  have HV := Lib.hid hv
  have HG := Lib.hid g1
  clear hv g1 HDi HMi
  go_wp2_with fail
  refine (HWr.out _ _ HG.out HV.out).mono ?_
  rintro e w2 ⟨er, S', rfl, her, hpo, hu, hv2, hvo, -⟩
  have HP2 := Lib.hid hpo
  have HU2 := Lib.hid hu
  have HV2 := Lib.hid hv2
  have HVo := Lib.hid hvo
  clear hpo hu hv2 hvo HWr HG
  by_cases he : er = 0
  · have HE : Hid (P.wa s L = if BaE X.2.1 ≠ 0 then (BaE X.2.1, P, BaS X.2.1, X.2.2) else (0, P.wrote ds, BaS X.2.1, X.2.2)) := Lib.hid (by rw [HT.out, if_neg (by rw [← her, he]; simp)])
    have c0 := HP2.out.pl.c6.1
    have HBa := Lib.hid (barrier_po HP2.out)
    subst he
    clear her HT
    go_wp2_with fail
    refine HBa.out.mono ?_
    rintro e w3 ⟨rfl, S3, hp3, hu3⟩
    have HP3 := Lib.hid hp3
    have HU3 := Lib.hid hu3
    have HV3 : Hid (Ints w3 w.heap.size v ds) := Lib.hid (HV2.out.stays fun q hq => hu3.block q (World.ownsRow.lt HV2.out q hq).2 fun e => by
      rcases e with e | e
      · exact (HVo.out q hq).2 e
      · have h1 := HLow.out q e
        have h2 := (HVo.out q hq).1
        omega)
    obtain ⟨eb, heb⟩ : ∃ eb, eb = BaE X.2.1 := ⟨_, rfl⟩
    rw [← heb] at HE ⊢
    clear hp3 hu3 heb HBa
    by_cases hb : eb = 0
    · subst hb
      have HE2 : Hid (P.wa s L = (0, P.wrote ds, BaS X.2.1, X.2.2)) := Lib.hid (by rw [HE.out, if_neg (by simp)])
      have HWn := Lib.hid (written_po HP3.out HV3.out HDx.out fun q hq e => by
        have h1 := HLow.out q e
        have h2 := (HVo.out q hq).1
        omega)
      clear HE
      go_wp2_with fail
      refine HWn.out.mono ?_
      rintro e w4 ⟨rfl, hp4, hu4⟩
      have HP4 := Lib.hid hp4
      have HU4 := Lib.hid hu4
      clear hp4 hu4
      go_wp2_with fail
      go_ret
      rw [HE2.out]
      exact ⟨rfl, S3, n, B, HP4.out, (HU2.out.trans HU3.out).trans HU4.out⟩
    · have hne : (eb == 0) = false := beq_eq_false_iff_ne.2 hb
      have HE2 : Hid (P.wa s L = (eb, P, BaS X.2.1, X.2.2)) := Lib.hid (by rw [HE.out, if_pos hb])
      clear HE hb
      go_wp2_with fail
      go_ret
      rw [HE2.out]
      exact ⟨rfl, S3, n, B, HP3.out, HU2.out.trans HU3.out⟩
  · have hne : (er == 0) = false := beq_eq_false_iff_ne.2 he
    have HE : Hid (P.wa s L = (er, P, X.2)) := Lib.hid (by rw [HT.out, if_pos (by rw [← her]; exact he), ← her])
    clear her HT he
    go_wp2_with fail
    go_ret
    rw [HE.out]
    exact ⟨rfl, S', n, B, HP2.out, HU2.out⟩
end
end Go.Proofs.YtaemmknijmhnoaaGreat

