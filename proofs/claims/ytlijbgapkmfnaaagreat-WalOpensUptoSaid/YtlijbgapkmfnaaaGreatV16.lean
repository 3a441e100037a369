/-
  Part 16 of what the laws of stage 6 rest on: contracts of the functions that they call, and what these rest on.
-/
import Derived.BigQuiet
import Derived.Test.YtlijbgapkmfnaaaGreatRows
import Derived.Test.YtlijbgapkmfnaaaGreatV1
import Derived.Test.YtlijbgapkmfnaaaGreatV3
import Derived.Test.YtlijbgapkmfnaaaGreatV5
import Derived.Test.YtlijbgapkmfnaaaGreatV6
import Derived.Test.YtlijbgapkmfnaaaGreatV8
import Derived.Test.YtlijbgapkmfnaaaGreatV9
import Derived.Test.YtlijbgapkmfnaaaGreatV10
import Derived.Test.YtlijbgapkmfnaaaGreatV11
import Derived.Test.YtlijbgapkmfnaaaGreatV15
set_option linter.unusedVariables false
set_option linter.unusedSimpArgs false
namespace Go.Proofs.YtlijbgapkmfnaaaGreat
open Go.RowKit Go.Maps
theorem opL_begin : opL zeroD 64 16 1 1 0 = newL 64 16 1 1 0 := opL_zero 64 1 1 15
theorem opOk_begin : opOk zeroD 16 1 0 = true := opOk_zero 15 1
def RetBeg (w : World) (e : Ending) (w' : World) : Prop :=
 ∃ bp S T pd pw pl pm, e = .returned (.tuple #[.pointer (some ⟨bp, 0, none⟩), .bool true]) ∧ PrB w w' bp S T pd pw pl pm zeroD (newL 64 16 1 1 0) zeroD (newL 64 16 1 1 0) 20000
set_option maxRecDepth 100000 in
set_option maxHeartbeats 1000000 in
theorem begin_any (w : World) : Calls Tryz.prog 7 #[] w (RetBeg w) := by
 obtain ⟨i0, hi, hz0, hz1, hz2⟩ := info_parts info_sec; have HI := Lib.hid hi; have HZ0 := Lib.hid hz0; have HZ1 := Lib.hid hz1; have HZ2 := Lib.hid hz2; clear hi hz0 hz1 hz2
 go_enter Tryz.func7, Tryz.ntmps7
 go_wp2_with fail; refine (New_yes 64 _ ⟨by omega, by omega⟩).mono ?_; rintro e w1 ⟨d, F, rfl, hd, hg, hfar⟩; have HD1 := Lib.hid hd; have HG1 := Lib.hid hg; have HF1 := Lib.hid hfar; clear hd hg hfar
 go_wp2_with (at_make; refine wpList_make_full _ rfl _ _ TL rfl 0 TS i0 (.agg (sec Sec.zero)) 256 Tryz.underlying44 HI.out HZ0.out HZ1.out _ _ _ _ 64 rfl rfl rfl rfl ?b1 ?b2 (Nat.zero_le _) ?_)
 case b1 => rw [HZ2.out]; omega
 case b2 => unfold maxLen; omega
 intro w2 hown hgrow
 have hz := made_zero 64
 simp only [Value.cells] at hz
 rw [hz] at hown
 clear hz
 have hr : Row w2 (.slice (some ⟨w1.heap.size, 0, none⟩) 64 64) (List.replicate 64 Sec.zero) := by
  unfold Row
  rw [List.length_replicate]; exact hown
 have HG2 : Hid (Gr w1 w2) := Lib.hid (Below.grown (Gr.refl w1) hgrow (Nat.le_refl _) (fun k e => by cases e)); have HC := Lib.hid (refNew_any w2 _ _ hr (by rw [List.length_replicate]; omega) (by rw [List.length_replicate]; omega)); clear hown hgrow hr; go_wp2_with fail; refine HC.out.mono ?_; rintro e w3 ⟨p, G, rfl, hr, hg3, hG3⟩
 obtain ⟨D, hD⟩ : ∃ D, d = .pointer (some ⟨D, 0, none⟩) := by
  obtain ⟨D, _, _, _, h, _⟩ := HD1.out; exact ⟨D, h⟩
 obtain ⟨R, hR⟩ : ∃ R, p = .pointer (some ⟨R, 0, none⟩) := by
  obtain ⟨R, _, _, _, h, _⟩ := hr; exact ⟨R, h⟩
 have HP : Hid (PrD w (w3.alloc (.cells #[d, p, .pointer none, .pointer none] TPr)) w3.heap.size F G d p (.pointer none) (.pointer none) zeroD) := Lib.hid (by
  have gn := Gr.new w3 (.cells #[d, p, .pointer none, .pointer none] TPr); have s1 := HG1.out.size; have s2 := HG2.out.size; have s3 := hg3.size; refine ⟨Blk.new w3 TPr _, (HD1.out.gr HG2.out).gr (Gr.trans hg3 gn), hr.gr gn, fun k hF hG => ?_, fun hF => ?_, fun hG => ?_, Gr.trans HG1.out (Gr.trans HG2.out (Gr.trans hg3 gn)), by omega, HF1.out, fun k hG => ?_, ⟨_, rfl⟩, ⟨_, rfl⟩⟩
  · have := HD1.out.low k hF; have := hG3 k hG; omega
  · have := HD1.out.low _ hF; omega
  · have := hr.low _ hG; omega
  · have := hG3 k hG; omega)
 subst hD hR; clear hr hg3 hG3 HC HG2 HD1 HG1 HF1 HI HZ0 HZ1 HZ2; go_wp2_with fail; refine (popen_any HP.out (by simp [zeroD, fresh]) 1 0 (by decide) (by decide) (by decide)).mono ?_; rintro e w4 ⟨_, (⟨h, _⟩ | ⟨_, v, K, S, T, pl, pm, rfl, _, _, hp⟩)⟩
 ·
  rw [opOk_begin] at h
  cases h
 rw [opL_begin] at hp
 have HPB := Lib.hid hp; obtain ⟨⟨b, rfl⟩, _⟩ := hp.code.ptr; have c2 := hp.blk.cell 2
 simp at c2
 clear hp; go_wp2_with fail
 go_quiet (fail)
 go_wp2_with fail
 go_ret2
 exact ⟨w3.heap.size, S, T, _, _, _, _, rfl, HPB.out.up (gr_drewN (Gr.refl _) _)⟩
end Go.Proofs.YtlijbgapkmfnaaaGreat
namespace Go.Proofs.YtlijbgapkmfnaaaGreat
open Go.RowKit Go.Maps
def KB (w w' : World) : Prop := ∀ p n c xs, Byt w p n c xs → Byt w' p n c xs
theorem KB.refl (w : World) : KB w w := fun _ _ _ _ h => h
theorem KB.gr {w w' : World} (g : Gr w w') : KB w w' := fun _ _ _ _ h => h.kept g
theorem KB.only {w w' : World} {k : Nat} {t : TypeId} {cs : Array Value} (hb : Blk w k t cs) (hc : ∀ v ∈ cs.toList, ∀ i, v ≠ .int .u8 i) (ho : Only k w w') : KB w w' := fun _ _ _ _ h =>
 h.grown (grown_only ho) fun hn y hy e => h.not_blk hn hb hc y hy (Option.some.inj e).symm
def IsBf (w : World) (v : Value) (b : Nat) (xs : List Int) : Prop := ∃ p n c, v = .slice p n c ∧ Byt w p n c xs ∧ ∀ y, p = some y → b ≤ y.block
def IsRf (w : World) (v : Value) (b : Nat) (r : Rc) : Prop := ∃ pb nb cb pa na ca, v = .agg (rcv r pb nb cb pa na ca) ∧ Byt w pb nb cb r.b ∧ Byt w pa na ca r.a ∧ (∀ y, pb = some y → b ≤ y.block) ∧ ∀ y, pa = some y → b ≤ y.block
theorem IsBf.kb {w w' : World} {v : Value} {b : Nat} {xs : List Int} (h : IsBf w v b xs) (k : KB w w') : IsBf w' v b xs := by
 obtain ⟨p, n, c, e, h, l⟩ := h; exact ⟨p, n, c, e, k _ _ _ _ h, l⟩
theorem IsRf.kb {w w' : World} {v : Value} {b : Nat} {r : Rc} (h : IsRf w v b r) (k : KB w w') : IsRf w' v b r := by
 obtain ⟨pb, nb, cb, pa, na, ca, e, h1, h2, l⟩ := h; exact ⟨pb, nb, cb, pa, na, ca, e, k _ _ _ _ h1, k _ _ _ _ h2, l⟩
theorem zrec_u8 : ∀ v ∈ zrec.toList, ∀ i, v ≠ .int .u8 i := by
 intro v hv i e
 subst e
 simp [zrec] at hv
theorem rcv_size (r : Rc) (pb : Option Addr) (nb cb : Nat) (pa : Option Addr) (na ca : Nat) : (rcv r pb nb cb pa na ca).size = 8 := rfl
theorem rcv_one (r : Rc) (pb : Option Addr) (nb cb : Nat) (pa : Option Addr) (na ca : Nat) : (rcv r pb nb cb pa na ca).all (·.oneCell') = true := by simp [rcv, Value.oneCell']
theorem make_zeros {base : Nat} (n : Nat) (w : World) (hn : n ≤ 100000) (hb : base ≤ w.heap.size) :
  ∃ w', (Instr.makeSlice TBs (.int .i64 (n : Int)) (.int .i64 (n : Int))).run Tryz.prog w = .ok (.slice (some ⟨w.heap.size, 0, none⟩) n n) w' ∧ OwnB w' base 5 (.slice (some ⟨w.heap.size, 0, none⟩) n n) (List.replicate n 0) ∧ Gr w w' := by
 obtain ⟨i, hi, hz0, hz1, hz2⟩ := info_parts btc.info; obtain ⟨w', h1, h2, h3⟩ := run_makeSlice_full (P := Tryz.prog) (w := w) base TBs 5 i (.int .u8 0) 1 btc.us hi hz0 hz1 .i64 .i64 n (by omega) (by rw [hz2]; omega) (by unfold maxLen; omega) hb
 simp only [Value.cells, Nat.mul_one] at h2
 rw [toList_madeCells_one] at h2
 refine ⟨w', h1, ⟨?_, small_zeros n⟩, Below.grown (Gr.refl w) h3 (Nat.le_refl _) (fun k e => by cases e)⟩; rw [List.length_replicate, List.map_replicate]; exact h2
end Go.Proofs.YtlijbgapkmfnaaaGreat
namespace Go.Proofs.YtlijbgapkmfnaaaGreat
open Go.RowKit Go.Maps
def SlNo (b : Nat) (t : Nat) (n : Nat) (slot : Nat) (v : Value) (w : World) : Prop :=
 match slot with
 | 5 => v = .int .u64 (t : Int)
 | 6 => v = .int .i64 (n : Int)
 | 8 => v = .int .i64 (n : Int)
 | 7 => IsBf w v b (List.replicate n 0)
 | 9 => IsBf w v b (List.replicate n 0)
 | 10 => IsRf w v b (noteR t n)
 | _ => True
theorem slNo_kb {b : Nat} {t : Nat} {n : Nat} {s : Nat} {v : Value} {w w' : World} (h : SlNo b t n s v w) (g : KB w w') : SlNo b t n s v w' := by
 unfold SlNo at *
 split <;> simp only at h
 all_goals first
  | exact h
  | exact IsB.kb h g
  | exact IsRc.kb h g
  | exact IsBf.kb h g
  | exact IsRf.kb h g
def RetNote (r : Rc) (w : World) (e : Ending) (w' : World) : Prop := ∃ v, e = .returned v ∧ IsRf w' v w.heap.size r ∧ Gr w w'
set_option maxRecDepth 100000 in
set_option maxHeartbeats 1000000 in
theorem note_any (t n : Nat) (w : World) (ht : t ≤ 18446744073709551615) (hn : n ≤ 600) : Calls Tryz.prog 18 #[.int .u64 (t : Int), .int .i64 (n : Int)] w (RetNote (noteR t n) w) := by
 have HN : Hid (n ≤ 100000) := Lib.hid (by omega)
 go_enter Tryz.func18, Tryz.ntmps18
 go_wp2_with fail; obtain ⟨W0, hW0⟩ : ∃ W0, W0 = w.alloc (.cells zrec TR) := ⟨_, rfl⟩; have hW0' : w.alloc (.cells #[.int .i64 0, .int .u64 0, .int .u64 0, .int .u64 0, .int .i64 0, .int .i64 0, .slice none 0 0, .slice none 0 0] TR) = W0 := hW0.symm; rw [hW0']
 have HB4 : Hid (∀ W, Gr W0 W → Blk W w.heap.size TR zrec ∧ Gr w W) := Lib.hid fun W g => by
  have h := Blk.new w TR zrec
  rw [← hW0] at h
  exact ⟨h.gr g, Gr.trans (by rw [hW0]; exact Gr.new _ _) g⟩
 obtain ⟨b, hb0⟩ : ∃ b, b = w.heap.size := ⟨_, rfl⟩; have HB0 := Lib.hid hb0; clear hW0 hW0' hb0; refine Flow.regionSG [] 22 (SlNo b t n) (InC 6 W0 (fun W => ∃ pb nb cb pa na ca, Blk W w.heap.size TR (rcv (noteR t n) pb nb cb pa na ca) ∧ Byt W pb nb cb (noteR t n).b ∧ Byt W pa na ca (noteR t n).a ∧ (∀ y, pb = some y → b ≤ y.block) ∧ (∀ y, pa = some y → b ≤ y.block) ∧ Gr w W)) (fun _ => KB) (by kernel_rfl) (by kernel_rfl) (fun _ _ _ _ _ _ h g => slNo_kb h g) (InC.start (by rfl) (Gr.refl _).drew) ?steps ?fin
 case steps =>
  refine .cons (fun l a W hfr hun hup hdn hinv hdep K hK => ?_) ?_
  · have t0 := tAt (.int .u64 (t : Int)) (hfr.at 0 (by kernel_rfl)); refine fW0 rfl ?_; clear hfr hdep; have hl1 : l 6 = false := hup 6 (by decide) (by kernel_rfl); have hin := hinv.pre hl1; go_simp; exact hK _ _ (KB.refl _) (hinv.other 0 (by decide)) (dsT (by trivial))
  refine .cons (fun l a W hfr hun hup hdn hinv hdep K hK => ?_) ?_
  · have t1 := tAt (.int .i64 (n : Int)) (hfr.at 1 (by kernel_rfl)); refine fW0 rfl ?_; clear hfr hdep; have hl1 : l 6 = false := hup 6 (by decide) (by kernel_rfl); have hin := hinv.pre hl1; go_simp; exact hK _ _ (KB.refl _) (hinv.other 1 (by decide)) (dsT (by trivial))
  refine .cons (fun l a W hfr hun hup hdn hinv hdep K hK => ?_) ?_
  ·
   have t6 := tAt (.int .i64 (n : Int)) (hdep 6 (by kernel_rfl)); refine fW0 rfl ?_; clear hfr hdep; have hl1 : l 6 = false := hup 6 (by decide) (by kernel_rfl); have hin := hinv.pre hl1; obtain ⟨W', hmk, hob, g1⟩ := make_zeros n W HN.out (Nat.zero_le W.heap.size)
   have hlow : b ≤ W.heap.size := by have := (HB4.out W hin).2.size; have := HB0.out; omega
   go_simp; exact hK _ _ (KB.gr g1) (hinv.grow hl1 g1 2 (by decide)) (fun d hd => by cases hd; exact ⟨_, _, _, rfl, hob.byt.1, fun y hy => by cases hy; exact hlow⟩)
  refine .cons (fun l a W hfr hun hup hdn hinv hdep K hK => ?_) ?_
  · have t1 := tAt (.int .i64 (n : Int)) (hfr.at 1 (by kernel_rfl)); refine fW0 rfl ?_; clear hfr hdep; have hl1 : l 6 = false := hup 6 (by decide) (by kernel_rfl); have hin := hinv.pre hl1; go_simp; exact hK _ _ (KB.refl _) (hinv.other 3 (by decide)) (dsT (by trivial))
  refine .cons (fun l a W hfr hun hup hdn hinv hdep K hK => ?_) ?_
  ·
   have t8 := tAt (.int .i64 (n : Int)) (hdep 8 (by kernel_rfl)); refine fW0 rfl ?_; clear hfr hdep; have hl1 : l 6 = false := hup 6 (by decide) (by kernel_rfl); have hin := hinv.pre hl1; obtain ⟨W', hmk, hob, g1⟩ := make_zeros n W HN.out (Nat.zero_le W.heap.size)
   have hlow : b ≤ W.heap.size := by have := (HB4.out W hin).2.size; have := HB0.out; omega
   go_simp; exact hK _ _ (KB.gr g1) (hinv.grow hl1 g1 4 (by decide)) (fun d hd => by cases hd; exact ⟨_, _, _, rfl, hob.byt.1, fun y hy => by cases hy; exact hlow⟩)
  refine .cons (fun l a W hfr hun hup hdn hinv hdep K hK => ?_) ?_
  · have t5 := tAt (.int .u64 (t : Int)) (hdep 5 (by kernel_rfl)); have s7 : IsBf W (a.tmps.getD 7 undef) b (List.replicate n 0) := hdep 7 (by kernel_rfl); have s9 : IsBf W (a.tmps.getD 9 undef) b (List.replicate n 0) := hdep 9 (by kernel_rfl); refine fW0 rfl ?_; clear hfr hdep; have hl1 : l 6 = false := hup 6 (by decide) (by kernel_rfl); have hin := hinv.pre hl1; obtain ⟨p7, n7, c7, e7, h7, l7⟩ := s7; have t7 := tmpAt e7; obtain ⟨p9, n9, c9, e9, h9, l9⟩ := s9; have t9 := tmpAt e9; go_simp; exact hK _ _ (KB.refl _) (hinv.other 5 (by decide)) (fun d hd => by cases hd; exact ⟨_, _, _, _, _, _, rfl, h7, h9, l7, l9⟩)
  refine .cons (fun l a W hfr hun hup hdn hinv hdep K hK => ?_) ?_
  ·
   have s4 : a.tmps.getD 4 undef = .pointer (some ⟨w.heap.size, 0, none⟩) := hfr.at 4 (by kernel_rfl)
   have t4 := tmpAt s4; have s10 : IsRf W (a.tmps.getD 10 undef) b (noteR t n) := hdep 10 (by kernel_rfl); refine fW0 rfl ?_; clear hfr hdep; have hin := hinv.pre hun; obtain ⟨pb, nb, cb, pa, na, ca, hv, h1, h2, l1, l2⟩ := s10; obtain ⟨hb6, g6⟩ := HB4.out W hin; refine wp_store_row TR (.tmp 4) (.tmp 10) rfl w.heap.size (rcv (noteR t n) pb nb cb pa na ca) (by simpa [Act.eval] using s4) (by simpa [Act.eval] using hv) TR zrec hb6 (by rw [rcv_size]; exact size_rec) (by rw [rcv_size]; rfl) (rcv_one _ _ _ _ _ _ _) ?_; have kb := KB.only hb6 zrec_u8 (Only.row w.heap.size W (rcv (noteR t n) pb nb cb pa na ca)); exact hK undef _ kb (InC.fin ⟨pb, nb, cb, pa, na, ca, hb6.row _, kb _ _ _ _ h1, kb _ _ _ _ h2, l1, l2, below_setRow g6 (Nat.le_refl _) _⟩) (fun d hd => by cases hd)
  exact True.intro
 case fin =>
  intro a W l hfr hall hinv hsl
  have hfin := hinv.post (hall 6 (by decide)); have e := Flow.frame hfr [5, 6, 7, 8, 9, 10] (List.range 11) (by kernel_rfl) (by kernel_rfl)
  simp [List.range, List.range.loop] at e
  rw [e]; have HFin := Lib.hid hfin; clear e hfr hsl hall hinv hfin
  first
   | (rename_i hB; refine hB _ _ ?_)
   | (rename_i hB y0; refine hB _ _ ?_)
   | (rename_i hB y0 y1; refine hB _ _ ?_)
   | (rename_i hB y0 y1 y2; refine hB _ _ ?_)
   | (rename_i hB y0 y1 y2 y3; refine hB _ _ ?_)
   | (rename_i hB y0 y1 y2 y3 y4; refine hB _ _ ?_)
   | (rename_i hB y0 y1 y2 y3 y4 y5; refine hB _ _ ?_)
   | (rename_i hB y0 y1 y2 y3 y4 y5 y6; refine hB _ _ ?_)
   | (rename_i hB y0 y1 y2 y3 y4 y5 y6 y7; refine hB _ _ ?_)
   | (rename_i hB y0 y1 y2 y3 y4 y5 y6 y7 y8; refine hB _ _ ?_)
   | (rename_i hB y0 y1 y2 y3 y4 y5 y6 y7 y8 y9; refine hB _ _ ?_)
   | (rename_i hB y0 y1 y2 y3 y4 y5 y6 y7 y8 y9 y10; refine hB _ _ ?_)
   | skip
  obtain ⟨pb, nb, cb, pa, na, ca, hb, h1, h2, l1, l2, hg⟩ := HFin.out
  rw [HB0.out] at l1 l2
  go_wp2
  exact bodyPost_ret (results_rec rfl _ _ _ _ rfl rfl hb) rfl ⟨_, rfl, ⟨pb, nb, cb, pa, na, ca, rfl, h1, h2, l1, l2⟩, hg⟩
end Go.Proofs.YtlijbgapkmfnaaaGreat
namespace Go.Proofs.YtlijbgapkmfnaaaGreat
open Go.RowKit Go.Maps
structure PrK (w0 W5 W : World) (lo : Nat) (bp : Nat) (S T : Nat → Prop) (pd pw pl pm : Value) (s1 : St) (L1 : Lg) (s2 : St) (L2 : Lg) (M : Nat) : Prop where
 pr : PrB w0 W bp S T pd pw pl pm s1 L1 s2 L2 M
 keep : ∀ k, lo ≤ k → k < W5.heap.size → W.heap[k]? = W5.heap[k]?
 oS : ∀ k, S k → ¬ (lo ≤ k ∧ k < W5.heap.size)
 oT : ∀ k, T k → ¬ (lo ≤ k ∧ k < W5.heap.size)
 oB : bp < lo
 sz : W5.heap.size ≤ W.heap.size
section
variable {w0 W5 W W' : World} {lo bp : Nat} {S T S' T' : Nat → Prop} {pd pw pl pm : Value} {s1 s2 s' : St} {L1 L2 L' : Lg} {M M' : Nat}
theorem PrK.start (h : PrB w0 W bp S T pd pw pl pm s1 L1 s2 L2 M) (g : Gr W W5) : PrK w0 W5 W5 W.heap.size bp S T pd pw pl pm s1 L1 s2 L2 M :=
 ⟨h.up g, fun _ _ _ => rfl, fun k hk e => by have := h.code.low k hk; omega, fun k hk e => by have := h.doc.low k hk; omega, h.blk.lt, Nat.le_refl _⟩
theorem PrK.up (h : PrK w0 W5 W lo bp S T pd pw pl pm s1 L1 s2 L2 M) (g : Gr W W') : PrK w0 W5 W' lo bp S T pd pw pl pm s1 L1 s2 L2 M :=
 ⟨h.pr.up g, fun k h1 h2 => (g.block k (Nat.lt_of_lt_of_le h2 h.sz)).trans (h.keep k h1 h2), h.oS, h.oT, h.oB, Nat.le_trans h.sz g.size⟩
theorem PrK.codes (h : PrK w0 W5 W lo bp S T pd pw pl pm s1 L1 s2 L2 M) (hc : CodeAt W' S' pd pl s' L') (hu : Upd S S' W W') : PrK w0 W5 W' lo bp S' T pd pw pl pm s' L' s2 L2 M := by
 obtain ⟨h1, h2⟩ := hu.other (G := fun k => lo ≤ k ∧ k < W5.heap.size) (fun k hk => Nat.lt_of_lt_of_le hk.2 h.sz) h.oS; exact ⟨h.pr.codes hc hu, fun k e1 e2 => (h1 k ⟨e1, e2⟩).trans (h.keep k e1 e2), h2, h.oT, h.oB, Nat.le_trans h.sz hu.size⟩
theorem PrK.docs (h : PrK w0 W5 W lo bp S T pd pw pl pm s1 L1 s2 L2 M) (hc : DocAt W' T' pw pm s' L' M') (hu : Upd T T' W W') : PrK w0 W5 W' lo bp S T' pd pw pl pm s1 L1 s' L' M' := by
 obtain ⟨h1, h2⟩ := hu.other (G := fun k => lo ≤ k ∧ k < W5.heap.size) (fun k hk => Nat.lt_of_lt_of_le hk.2 h.sz) h.oT; exact ⟨h.pr.docs hc hu, fun k e1 e2 => (h1 k ⟨e1, e2⟩).trans (h.keep k e1 e2), h.oS, h2, h.oB, Nat.le_trans h.sz hu.size⟩
end
structure RcAt (W : World) (lo hi b : Nat) (r : Rc) (pb : Option Addr) (nb cb : Nat) (pa : Option Addr) (na ca : Nat) : Prop where
 blk : Blk W b TR (rcv r pb nb cb pa na ca)
 xb : Byt W pb nb cb r.b
 xa : Byt W pa na ca r.a
 lb : lo ≤ b ∧ b < hi
 lpb : ∀ y, pb = some y → lo ≤ y.block ∧ y.block < hi
 lpa : ∀ y, pa = some y → lo ≤ y.block ∧ y.block < hi
theorem RcAt.stays {W W' : World} {lo hi b : Nat} {r : Rc} {pb : Option Addr} {nb cb : Nat} {pa : Option Addr} {na ca : Nat} (h : RcAt W lo hi b r pb nb cb pa na ca) (k : ∀ k, lo ≤ k → k < hi → W'.heap[k]? = W.heap[k]?) : RcAt W' lo hi b r pb nb cb pa na ca :=
 ⟨h.blk.stays (k b h.lb.1 h.lb.2), h.xb.stays (fun y hy => k _ (h.lpb y hy).1 (h.lpb y hy).2), h.xa.stays (fun y hy => k _ (h.lpa y hy).1 (h.lpa y hy).2), h.lb, h.lpb, h.lpa⟩
theorem Byt.up {w : World} {p : Option Addr} {n c : Nat} {xs : List Int} (h : Byt w p n c xs) (hn : 0 < n) : ∀ y, p = some y → y.block < w.heap.size := fun y hy => by
 obtain ⟨b, o, e, hc⟩ := h.at hn
 rw [hy] at e
 cases e
 exact blk_lt (hc 0 hn)
theorem noteR_b (t n : Nat) : (noteR t n).b.length = n ∧ (noteR t n).a.length = n := by simp [noteR]
theorem IsRf.at2 {w : World} {v : Value} {b : Nat} {r : Rc} (h : IsRf w v b r) (hb : 0 < r.b.length) (ha : 0 < r.a.length) : ∃ pb nb cb pa na ca, v = .agg (rcv r pb nb cb pa na ca) ∧ Byt w pb nb cb r.b ∧ Byt w pa na ca r.a ∧ (∀ y, pb = some y → b ≤ y.block ∧ y.block < w.heap.size) ∧ ∀ y, pa = some y → b ≤ y.block ∧ y.block < w.heap.size := by
 obtain ⟨pb, nb, cb, pa, na, ca, e, h1, h2, l1, l2⟩ := h; have e1 := h1.len; have e2 := h2.len; exact ⟨pb, nb, cb, pa, na, ca, e, h1, h2, fun y hy => ⟨l1 y hy, h1.up (by omega) y hy⟩, fun y hy => ⟨l2 y hy, h2.up (by omega) y hy⟩⟩
def threeA (w : World) : World := ((w.alloc (.cells zrec TR)).alloc (.cells zrec TR)).alloc (.cells zrec TR)
theorem threeA_size (w : World) : (threeA w).heap.size = w.heap.size + 3 := by unfold threeA; simp
theorem threeA_gr (w : World) : Gr w (threeA w) := Gr.trans (Gr.new _ _) (Gr.trans (Gr.new _ _) (Gr.new _ _))
theorem threeA_blk (w : World) : Blk (threeA w) w.heap.size TR zrec ∧ (∀ cs, Blk ((threeA w).setRow w.heap.size cs) (w.heap.size + 1) TR zrec) ∧ ∀ cs cs2, Blk (((threeA w).setRow w.heap.size cs).setRow (w.heap.size + 1) cs2) (w.heap.size + 1 + 1) TR zrec := by
 have h2 : Blk (threeA w) (w.heap.size + 1) TR zrec := by
  have h := Blk.new (w.alloc (.cells zrec TR)) TR zrec
  rw [show (w.alloc (.cells zrec TR)).heap.size = w.heap.size + 1 by simp] at h
  exact h.gr (Gr.new _ _)
 have h3 : Blk (threeA w) (w.heap.size + 1 + 1) TR zrec := by
  have h := Blk.new ((w.alloc (.cells zrec TR)).alloc (.cells zrec TR)) TR zrec
  rwa [show ((w.alloc (.cells zrec TR)).alloc (.cells zrec TR)).heap.size = w.heap.size + 1 + 1 by simp] at h
 exact ⟨((Blk.new w TR zrec).gr (Gr.new _ _)).gr (Gr.new _ _), fun cs => h2.other (by omega), fun cs cs2 => (h3.other (by omega)).other (by omega)⟩
theorem three_rows (w : World) (c1 c2 c3 : Array Value) : Gr w ((((threeA w).setRow w.heap.size c1).setRow (w.heap.size + 1) c2).setRow (w.heap.size + 1 + 1) c3) ∧ ((((threeA w).setRow w.heap.size c1).setRow (w.heap.size + 1) c2).setRow (w.heap.size + 1 + 1) c3).heap.size = w.heap.size + 3 ∧
  Blk ((((threeA w).setRow w.heap.size c1).setRow (w.heap.size + 1) c2).setRow (w.heap.size + 1 + 1) c3) w.heap.size TR c1 ∧ Blk ((((threeA w).setRow w.heap.size c1).setRow (w.heap.size + 1) c2).setRow (w.heap.size + 1 + 1) c3) (w.heap.size + 1) TR c2 ∧ Blk ((((threeA w).setRow w.heap.size c1).setRow (w.heap.size + 1) c2).setRow (w.heap.size + 1 + 1) c3) (w.heap.size + 1 + 1) TR c3 := by
 obtain ⟨h1, h2, h3⟩ := threeA_blk w; refine ⟨below_setRow (below_setRow (below_setRow (threeA_gr w) (Nat.le_refl _) _) (by omega) _) (by omega) _, ?_, ((h1.row c1).other (by omega)).other (by omega), ((h2 c1).row c2).other (by omega), (h3 c1 c2).row c3⟩; rw [(Only.row _ _ _).size, (Only.row _ _ _).size, (Only.row _ _ _).size, threeA_size]
theorem wpList_store_rc {ops : Array Oper} {rest : List Oper} {op : Oper} {a : Act} {w : World} {Q : Exit → Act → World → Prop} (hgd : op.guard = none) (x y : Operand) (ho : op.op = .store TR x y) {g : Nat} {r : Rc} {pb : Option Addr} {nb cb : Nat} {pa : Option Addr} {na ca : Nat} (hb : Blk w g TR zrec)
  (hx : a.eval x = .pointer (some ⟨g, 0, none⟩)) (hy : a.eval y = .agg (rcv r pb nb cb pa na ca)) (h : wpList Tryz.prog ops Q rest (a.put op.dst undef) (w.setRow g (rcv r pb nb cb pa na ca))) : wpList Tryz.prog ops Q (op :: rest) a w :=
 wpList_store_row hgd TR x y ho g _ hx hy TR zrec hb (by rw [rcv_size]; exact size_rec) (by rw [rcv_size]; rfl) (rcv_one _ _ _ _ _ _ _) h
end Go.Proofs.YtlijbgapkmfnaaaGreat
namespace Go.Proofs.YtlijbgapkmfnaaaGreat
open Go.RowKit
def InK (c1 c2 z1 z2 d1 d2 : Nat) (w0 : World) (A1 : Value → World → Prop) (A2 A3 A4 : Value → Value → World → Prop) (l : Nat → Bool) (a : Act) (W : World) : Prop :=
 (l c1 = false → Gr w0 W) ∧ (l c1 = true → l c2 = false → A1 (a.tmps.getD d1 undef) W) ∧ (l c2 = true → l z1 = false → A2 (a.tmps.getD d1 undef) (a.tmps.getD d2 undef) W) ∧
  (l z1 = true → l z2 = false → A3 (a.tmps.getD d1 undef) (a.tmps.getD d2 undef) W) ∧ (l z2 = true → A4 (a.tmps.getD d1 undef) (a.tmps.getD d2 undef) W)
section
variable {c1 c2 z1 z2 d1 d2 : Nat} {w0 W W' : World} {A1 : Value → World → Prop} {A2 A3 A4 : Value → Value → World → Prop} {l : Nat → Bool} {a : Act}
theorem InK.start (h1 : l c1 = false) (h2 : l c2 = false) (h3 : l z1 = false) (h4 : l z2 = false) (g : Gr w0 W) : InK c1 c2 z1 z2 d1 d2 w0 A1 A2 A3 A4 l a W :=
 ⟨fun _ => g, (fun e => by rw [h1] at e; cases e), (fun e => by rw [h2] at e; cases e), (fun e => by rw [h3] at e; cases e), fun e => by rw [h4] at e; cases e⟩
theorem InK.other (h : InK c1 c2 z1 z2 d1 d2 w0 A1 A2 A3 A4 l a W) (i : Nat) (n1 : c1 ≠ i) (n2 : c2 ≠ i) (n3 : z1 ≠ i) (n4 : z2 ≠ i) {x : Option Nat} (x1 : x ≠ some d1) (x2 : x ≠ some d2) (v : Value) : InK c1 c2 z1 z2 d1 d2 w0 A1 A2 A3 A4 (Flow.upd l i) (a.put x v) W := by
 unfold InK
 rw [Flow.upd_other l n1, Flow.upd_other l n2, Flow.upd_other l n3, Flow.upd_other l n4, Flow.getD_put_other x1, Flow.getD_put_other x2]; exact h
theorem InK.pre (h : InK c1 c2 z1 z2 d1 d2 w0 A1 A2 A3 A4 l a W) (h1 : l c1 = false) : Gr w0 W := h.1 h1
theorem InK.got1 (h : InK c1 c2 z1 z2 d1 d2 w0 A1 A2 A3 A4 l a W) (h1 : l c1 = true) (h2 : l c2 = false) : A1 (a.tmps.getD d1 undef) W := h.2.1 h1 h2
theorem InK.got2 (h : InK c1 c2 z1 z2 d1 d2 w0 A1 A2 A3 A4 l a W) (h1 : l c2 = true) (h2 : l z1 = false) : A2 (a.tmps.getD d1 undef) (a.tmps.getD d2 undef) W := h.2.2.1 h1 h2
theorem InK.got3 (h : InK c1 c2 z1 z2 d1 d2 w0 A1 A2 A3 A4 l a W) (h1 : l z1 = true) (h2 : l z2 = false) : A3 (a.tmps.getD d1 undef) (a.tmps.getD d2 undef) W := h.2.2.2.1 h1 h2
theorem InK.post (h : InK c1 c2 z1 z2 d1 d2 w0 A1 A2 A3 A4 l a W) (h1 : l z2 = true) : A4 (a.tmps.getD d1 undef) (a.tmps.getD d2 undef) W := h.2.2.2.2 h1
theorem InK.call1 (n : c1 ≠ c2 ∧ c1 ≠ z1 ∧ c1 ≠ z2) (h2 : l c2 = false) (h3 : l z1 = false) (h4 : l z2 = false) (hd : d1 < a.tmps.size) {v : Value} (hv : A1 v W') : InK c1 c2 z1 z2 d1 d2 w0 A1 A2 A3 A4 (Flow.upd l c1) (a.put (some d1) v) W' := by
 unfold InK
 rw [Flow.upd_same, Flow.upd_other l (Ne.symm n.1), Flow.upd_other l (Ne.symm n.2.1), Flow.upd_other l (Ne.symm n.2.2), Flow.getD_put_same hd, h2, h3, h4]; exact ⟨(fun e => by cases e), fun _ _ => hv, (fun e => by cases e), (fun e => by cases e), fun e => by cases e⟩
theorem InK.call2 (n : c2 ≠ c1 ∧ c2 ≠ z1 ∧ c2 ≠ z2) (hne : d2 ≠ d1) (h1 : l c1 = true) (h3 : l z1 = false) (h4 : l z2 = false) (hd : d2 < a.tmps.size) {v : Value} (hv : A2 (a.tmps.getD d1 undef) v W') : InK c1 c2 z1 z2 d1 d2 w0 A1 A2 A3 A4 (Flow.upd l c2) (a.put (some d2) v) W' := by
 unfold InK
 rw [Flow.upd_same, Flow.upd_other l (Ne.symm n.1), Flow.upd_other l (Ne.symm n.2.1), Flow.upd_other l (Ne.symm n.2.2), Flow.getD_put_same hd, Flow.getD_put_other (fun e => hne (Option.some.inj e)), h1, h3, h4]; exact ⟨(fun e => by cases e), (fun _ e => by cases e), fun _ _ => hv, (fun e => by cases e), fun e => by cases e⟩
theorem InK.store1 (n : z1 ≠ c1 ∧ z1 ≠ c2 ∧ z1 ≠ z2) (h1 : l c1 = true) (h2 : l c2 = true) (h4 : l z2 = false) (v : Value) (hv : A3 (a.tmps.getD d1 undef) (a.tmps.getD d2 undef) W') : InK c1 c2 z1 z2 d1 d2 w0 A1 A2 A3 A4 (Flow.upd l z1) (a.put none v) W' := by
 unfold InK
 rw [Flow.upd_same, Flow.upd_other l (Ne.symm n.1), Flow.upd_other l (Ne.symm n.2.1), Flow.upd_other l (Ne.symm n.2.2), Flow.getD_put_other (by simp), Flow.getD_put_other (by simp), h1, h2, h4]; exact ⟨(fun e => by cases e), (fun _ e => by cases e), (fun _ e => by cases e), fun _ _ => hv, fun e => by cases e⟩
theorem InK.store2 (n : z2 ≠ c1 ∧ z2 ≠ c2 ∧ z2 ≠ z1) (h1 : l c1 = true) (h2 : l c2 = true) (h3 : l z1 = true) (v : Value) (hv : A4 (a.tmps.getD d1 undef) (a.tmps.getD d2 undef) W') : InK c1 c2 z1 z2 d1 d2 w0 A1 A2 A3 A4 (Flow.upd l z2) (a.put none v) W' := by
 unfold InK
 rw [Flow.upd_same, Flow.upd_other l (Ne.symm n.1), Flow.upd_other l (Ne.symm n.2.1), Flow.upd_other l (Ne.symm n.2.2), Flow.getD_put_other (by simp), Flow.getD_put_other (by simp), h1, h2, h3]; exact ⟨(fun e => by cases e), (fun _ e => by cases e), (fun _ e => by cases e), (fun _ e => by cases e), fun _ => hv⟩
end
end Go.Proofs.YtlijbgapkmfnaaaGreat
namespace Go.Proofs.YtlijbgapkmfnaaaGreat
open Go.RowKit Go.Maps
def Cr1 (w0 : World) (s : St) (v : Value) (W : World) : Prop := Gr w0 W ∧ ∃ D F, v = .pointer (some ⟨D, 0, none⟩) ∧ Dk W F v s ∧ ∀ k, F k → w0.heap.size ≤ k
def Cr2 (w0 : World) (s : St) (v u : Value) (W : World) : Prop :=
 Gr w0 W ∧ ∃ D R F G, v = .pointer (some ⟨D, 0, none⟩) ∧ u = .pointer (some ⟨R, 0, none⟩) ∧ Dk W F v s ∧ Rf W G u s ∧ (∀ k, F k → w0.heap.size ≤ k) ∧ (∀ k, G k → w0.heap.size ≤ k) ∧ ∀ k, F k → ¬ G k
def Cr3 (w0 : World) (bp : Nat) (s : St) (v u : Value) (W : World) : Prop := ∃ V, Cr2 w0 s v u V ∧ W = V.setCell ⟨bp, 0, none⟩ v
def Cr4 (w0 : World) (bp : Nat) (s : St) (v u : Value) (W : World) : Prop := ∃ V, Cr2 w0 s v u V ∧ W = (V.setCell ⟨bp, 0, none⟩ v).setCell ⟨bp, 1, none⟩ u
theorem Cr1.gr {w0 W : World} {s : St} {v : Value} (h : Cr1 w0 s v W) : Gr w0 W := h.1
theorem Cr1.of {w0 W W' : World} {s : St} {v : Value} {F : Nat → Prop} (g : Gr w0 W) (hd : Dk W' F v s) (g2 : Gr W W') (hF : ∀ k, F k → W.heap.size ≤ k) : Cr1 w0 s v W' := by
 obtain ⟨D, _, _, _, h, _⟩ := id hd; exact ⟨Gr.trans g g2, D, F, h, hd, fun k hk => Nat.le_trans g.size (hF k hk)⟩
theorem Cr1.two {w0 W W' : World} {s : St} {v u : Value} (h : Cr1 w0 s v W) {G : Nat → Prop} (hr : Rf W' G u s) (g2 : Gr W W') (hG : ∀ k, G k → W.heap.size ≤ k) : Cr2 w0 s v u W' := by
 obtain ⟨g, D, F, e, hd, hF⟩ := h; obtain ⟨R, _, _, _, h, _⟩ := id hr; exact ⟨Gr.trans g g2, D, R, F, G, e, h, hd.gr g2, hr, hF, fun k hk => Nat.le_trans g.size (hG k hk), fun k h1 h2 => by have := hd.low k h1; have := hG k h2; omega⟩
theorem Cr4.made {w00 w W : World} {bp : Nat} {S T : Nat → Prop} {pd pw pl pm v u : Value} {s1 s2 s : St} {L1 L2 : Lg} {M : Nat} (hp : PrB w00 w bp S T pd pw pl pm s1 L1 s2 L2 M) (h : Cr4 w bp s v u W) :
  ∃ D R F G, v = .pointer (some ⟨D, 0, none⟩) ∧ u = .pointer (some ⟨R, 0, none⟩) ∧ PrD w00 W bp F G v u pl pm s ∧ KeepB bp w W := by
 obtain ⟨V, ⟨g, D, R, F, G, ev, eu, hd, hr, hF, hG, ha⟩, rfl⟩ := h; have hl := hp.blk.lt; have hg0 := hp.gr.size; have k : KeepB bp V ((V.setCell ⟨bp, 0, none⟩ v).setCell ⟨bp, 1, none⟩ u) := (KeepB.cell 0 _ _).trans (KeepB.cell 1 _ _)
 have nF : ¬ F bp := fun e => by have := hF _ e; omega
 have nG : ¬ G bp := fun e => by have := hG _ e; omega
 have gg : Gr w00 V := Gr.trans hp.gr g; refine ⟨D, R, F, G, ev, eu, ⟨?_, hd.stays (fun j hj => k.2 j (hd.low j hj) (fun e => nF (e ▸ hj))) k.1, hr.stays (fun j hj => k.2 j (hr.low j hj) (fun e => nG (e ▸ hj))) k.1, ha, nF, nG, Below.setCell (Below.setCell gg hp.lb _) hp.lb _, hp.lb, fun j hj => Nat.le_trans hg0 (hF j hj), fun j hj => Nat.le_trans hg0 (hG j hj), ?_, ?_⟩, (KeepB.gr g).trans k⟩
 · exact ((hp.blk.gr g).set 0 v).set 1 u
 · obtain ⟨⟨b, e⟩, _⟩ := hp.code.ptr; exact ⟨_, e⟩
 · obtain ⟨_, b, _, _, _, _, _, e, _⟩ := hp.doc; exact ⟨_, e⟩
end Go.Proofs.YtlijbgapkmfnaaaGreat
namespace Go.Proofs.YtlijbgapkmfnaaaGreat
open Go.RowKit Go.Maps
structure Lg.Like (L L' : Lg) : Prop where
 n : L'.n = L.n
 l : L'.l = L.l
 g : L'.g = L.g
 epoch : L'.epoch = L.epoch
 tail : L'.tail = L.tail
 rsv : L'.rsv = L.rsv
 fin : L'.fin = L.fin
theorem flL_facts {s : St} {L : Lg} (ok : L.Ok) (u : Nat) : (flL s L u).Ok ∧ L.Like (flL s L u) := by
 have h0 : L.Like L := ⟨rfl, rfl, rfl, rfl, rfl, rfl, rfl⟩
 have hb : (begL s L).Ok ∧ L.Like (begL s L) := by
  refine ⟨(begL_ok ok).1, ?_⟩
  rcases begL_cases s L with h | h
  · rw [h]; exact h0
  · rw [h]; exact ⟨rfl, rfl, rfl, rfl, rfl, rfl, rfl⟩
 unfold flL
 split
 · exact ⟨ok, h0⟩
 ·
  split
  · exact ⟨ok, h0⟩
  ·
   split
   · exact hb
   ·
    split
    · exact hb
    · have hd := hb.1.done; exact ⟨hd.1, hb.2.n, hb.2.l, hb.2.g, hb.2.epoch, hb.2.tail, hb.2.rsv, hd.2.1.trans hb.2.fin⟩
theorem newL_ok : (newL 64 16 1 1 0).Ok ∧ (newL 64 16 1 1 0).Fits := by
 have h := opL_ok zeroD 64 16 1 1 0 (by decide) (by decide) (by decide) (by decide) (opOk_zero 15 1)
 rw [show opL zeroD 64 16 1 1 0 = newL 64 16 1 1 0 from opL_zero 64 1 1 15] at h
 exact ⟨h.1, h.2.2.1⟩
theorem zeroD_less : ∀ i, (zeroD.t i).length ≤ zeroD.writes := fun i => by simp [zeroD, fresh]
end Go.Proofs.YtlijbgapkmfnaaaGreat
namespace Go.Proofs.YtlijbgapkmfnaaaGreat
open Go.RowKit Go.Maps
def SlKc (bp : Nat) (db : Nat) (pw : Value) (slot : Nat) (v : Value) (_ : World) : Prop :=
 match slot with
 | 113 => v = .pointer (some ⟨bp, 0, none⟩)
 | 114 => v = .pointer (some ⟨bp, 0, none⟩)
 | 115 => v = .pointer (some ⟨bp, 0, none⟩)
 | 116 => v = .pointer (some ⟨bp, 0, none⟩)
 | 117 => v = .pointer (some ⟨bp, 0, none⟩)
 | 118 => v = .pointer (some ⟨db, 0, none⟩)
 | 120 => v = .pointer (some ⟨bp, 0, none⟩)
 | 121 => v = .pointer (some ⟨bp, 0, none⟩)
 | 122 => v = .pointer (some ⟨bp, 1, none⟩)
 | 123 => v = pw
 | 125 => v = .pointer (some ⟨bp, 0, none⟩)
 | 126 => v = .pointer (some ⟨bp, 0, none⟩)
 | 127 => v = .pointer (some ⟨bp, 0, none⟩)
 | 128 => v = .pointer (some ⟨bp, 1, none⟩)
 | _ => True
set_option maxRecDepth 100000 in
set_option maxHeartbeats 4000000 in
theorem wknown_any (w : World) : Calls Tryz.prog 6 #[] w (RetB true w) := by
 obtain ⟨r1, hr1⟩ : ∃ r, r = noteR 1 3 := ⟨_, rfl⟩
 have HNo1 : Hid (∀ V, Calls Tryz.prog 18 #[.int .u64 1, .int .i64 3] V (RetNote r1 V)) := Lib.hid fun V => by rw [hr1]; exact note_any 1 3 V (by decide) (by decide)
 have HI1 : Hid (r1.In ∧ sizeR r1 = 41 ∧ mayR r1 = true ∧ r1.b.length = 3 ∧ r1.a.length = 3) := Lib.hid (by
  have hm := noteR_may 1 3 (by decide) (by decide) (by decide); rw [hr1]
  exact ⟨noteR_in _ _ (by decide), by rw [sizeR_may hm, (noteR_b 1 3).1, (noteR_b 1 3).2], hm, (noteR_b 1 3).1, (noteR_b 1 3).2⟩)
 obtain ⟨r2, hr2⟩ : ∃ r, r = noteR 2 5 := ⟨_, rfl⟩
 have HNo2 : Hid (∀ V, Calls Tryz.prog 18 #[.int .u64 2, .int .i64 5] V (RetNote r2 V)) := Lib.hid fun V => by rw [hr2]; exact note_any 2 5 V (by decide) (by decide)
 have HI2 : Hid (r2.In ∧ sizeR r2 = 45 ∧ mayR r2 = true ∧ r2.b.length = 5 ∧ r2.a.length = 5) := Lib.hid (by
  have hm := noteR_may 2 5 (by decide) (by decide) (by decide); rw [hr2]
  exact ⟨noteR_in _ _ (by decide), by rw [sizeR_may hm, (noteR_b 2 5).1, (noteR_b 2 5).2], hm, (noteR_b 2 5).1, (noteR_b 2 5).2⟩)
 obtain ⟨r3, hr3⟩ : ∃ r, r = noteR 3 1 := ⟨_, rfl⟩
 have HNo3 : Hid (∀ V, Calls Tryz.prog 18 #[.int .u64 3, .int .i64 1] V (RetNote r3 V)) := Lib.hid fun V => by rw [hr3]; exact note_any 3 1 V (by decide) (by decide)
 have HI3 : Hid (r3.In ∧ sizeR r3 = 37 ∧ mayR r3 = true ∧ r3.b.length = 1 ∧ r3.a.length = 1) := Lib.hid (by
  have hm := noteR_may 3 1 (by decide) (by decide) (by decide); rw [hr3]
  exact ⟨noteR_in _ _ (by decide), by rw [sizeR_may hm, (noteR_b 3 1).1, (noteR_b 3 1).2], hm, (noteR_b 3 1).1, (noteR_b 3 1).2⟩)
 obtain ⟨L0, hL0⟩ : ∃ L, L = newL 64 16 1 1 0 := ⟨_, rfl⟩; have HBg : Hid (∀ V, Calls Tryz.prog 7 #[] V (fun e w' => ∃ bp S T pd pw pl pm, e = .returned (.tuple #[.pointer (some ⟨bp, 0, none⟩), .bool true]) ∧ PrB V w' bp S T pd pw pl pm zeroD L0 zeroD L0 20000)) := Lib.hid (by rw [hL0]; exact begin_any); obtain ⟨L1, hL1⟩ : ∃ L, L = layL L0 r1 L0.free := ⟨_, rfl⟩; obtain ⟨L2, hL2⟩ : ∃ L, L = layL L1 r2 L1.free := ⟨_, rfl⟩; obtain ⟨L3, hL3⟩ : ∃ L, L = flL zeroD L2 86 := ⟨_, rfl⟩; obtain ⟨s3, hs3⟩ : ∃ s, s = flS zeroD L2 86 := ⟨_, rfl⟩
 have hok0 : L0.Ok := by rw [hL0]; exact newL_ok.1
 have hfin0 : L0.fin = 0 := by rw [hL0]; rfl
 have hok1 : L1.Ok := by rw [hL1]; exact append_ok hok0 r1 (by omega)
 have h2 := two_lay 1
 rw [← hr1, ← hr2, ← hL0, ← hL1, ← hL2] at h2
 have hf := two_flush 1
 rw [← h2.2.2.2.2, ← hs3, ← hL3] at hf
 have hfin1 : L1.fin ≤ 8000000000000000000 := by rw [hL1, layL_fin]; split <;> have := HI1.out <;> omega
 have hok2 : L2.Ok := by rw [hL2]; exact append_ok hok1 r2 hfin1
 have hfl := flL_facts (s := zeroD) hok2 86
 rw [← hL3] at hfl
 have hfree : L3.free = 3394 := by
  unfold Lg.free
  rw [hf.2.2.2.1, hf.2.2.2.2.2.1, hf.2.2.2.2.1, hf.2.2.1]
  decide
 have hlay3 : layE r3 L3.free = 0 := by
  unfold layE
  rw [if_pos HI3.out.2.2.1, hfree, HI3.out.2.2.2.1, HI3.out.2.2.2.2]
  decide
 have HOk : Hid (L0.Ok ∧ L1.Ok ∧ L2.Ok ∧ L3.Ok) := Lib.hid ⟨hok0, hok1, hok2, hfl.1⟩; have HLay : Hid (layE r1 L0.free = 0 ∧ layA L0 r1 L0.free = 0 ∧ layE r2 L1.free = 0 ∧ layA L1 r2 L1.free = 41 ∧ layE r3 L3.free = 0) := Lib.hid ⟨h2.1, h2.2.1, h2.2.2.1, h2.2.2.2.1, hlay3⟩
 have hfin2 : L2.fin = 86 := by rw [h2.2.2.2.2]; exact twoL_fin 1
 have HFl : Hid (flE zeroD L2 86 = 0 ∧ L3.fin = 86 ∧ s3.ls.length = 64 ∧ (∀ i, s3.t i = []) ∧ s3.writes = 2 ∧ (s3.crash []).nw 3 = Sx (secL 0 1 twoB) ∧ L2.l = 16) := Lib.hid ⟨hf.1, hf.2.2.1, hf.2.2.2.2.2.2.1, hf.2.2.2.2.2.2.2.2.1, hf.2.2.2.2.2.2.2.2.2.1, hf.2.2.2.2.2.2.2.2.2.2, by rw [h2.2.2.2.2]; rfl⟩; have HD1 := Lib.hid hL1; have HD2 := Lib.hid hL2; have HD3 := Lib.hid hL3; have HS3 := Lib.hid hs3; have HLe : Hid (L0.fin ≤ 8000000000000000000 ∧ L1.fin ≤ 8000000000000000000 ∧ L2.fin ≤ 8000000000000000000) := Lib.hid ⟨by omega, hfin1, by omega⟩; have HRn : Hid (r1 = noteR 1 3 ∧ r2 = noteR 2 5) := Lib.hid ⟨hr1, hr2⟩; clear hr1 hr2 hr3 hL0 hL1 hL2 hL3 hs3 hok0 hok1 hok2 hfin0 hfin1 hfin2 h2 hf hfl hfree hlay3
 go_enter Tryz.func6, Tryz.ntmps6
 go_wp2_with fail; refine (HBg.out w).mono ?_; rintro e w1 ⟨bp, S, T, pd, pw, pl, pm, rfl, hp⟩; have HP1 := Lib.hid hp; clear hp HBg; go_wp2_with fail; refine (HNo1.out w1).mono ?_; rintro e w2 ⟨v, rfl, hv, g2⟩; obtain ⟨pb1, nb1, cb1, pa1, na1, ca1, rfl, b1, a1, lb1, la1⟩ := hv.at2 (by rw [HI1.out.2.2.2.1]; decide) (by rw [HI1.out.2.2.2.2]; decide); have HR1 := Lib.hid (And.intro b1 (And.intro a1 (And.intro lb1 la1))); have HG2 := Lib.hid g2; clear hv b1 a1 lb1 la1 g2 HNo1; go_wp2_with fail; refine (HNo2.out w2).mono ?_; rintro e w3 ⟨v, rfl, hv, g3⟩; obtain ⟨pb2, nb2, cb2, pa2, na2, ca2, rfl, b1, a1, lb1, la1⟩ := hv.at2 (by rw [HI2.out.2.2.2.1]; decide) (by rw [HI2.out.2.2.2.2]; decide); have HR2 := Lib.hid (And.intro b1 (And.intro a1 (And.intro lb1 la1))); have HG3 := Lib.hid g3; clear hv b1 a1 lb1 la1 g3 HNo2; go_wp2_with fail; refine (HNo3.out w3).mono ?_; rintro e w4 ⟨v, rfl, hv, g4⟩; obtain ⟨pb3, nb3, cb3, pa3, na3, ca3, rfl, b1, a1, lb1, la1⟩ := hv.at2 (by rw [HI3.out.2.2.2.1]; decide) (by rw [HI3.out.2.2.2.2]; decide); have HR3 := Lib.hid (And.intro b1 (And.intro a1 (And.intro lb1 la1))); have HG4 := Lib.hid g4; clear hv b1 a1 lb1 la1 g4 HNo3; have HTh : Hid (Blk (((w4.alloc (.cells #[.int .i64 0, .int .u64 0, .int .u64 0, .int .u64 0, .int .i64 0, .int .i64 0, .slice none 0 0, .slice none 0 0] TR)).alloc (.cells #[.int .i64 0, .int .u64 0, .int .u64 0, .int .u64 0, .int .i64 0, .int .i64 0, .slice none 0 0, .slice none 0 0] TR)).alloc (.cells #[.int .i64 0, .int .u64 0, .int .u64 0, .int .u64 0, .int .i64 0, .int .i64 0, .slice none 0 0, .slice none 0 0] TR)) w4.heap.size TR zrec ∧ (∀ cs, Blk ((((w4.alloc (.cells #[.int .i64 0, .int .u64 0, .int .u64 0, .int .u64 0, .int .i64 0, .int .i64 0, .slice none 0 0, .slice none 0 0] TR)).alloc (.cells #[.int .i64 0, .int .u64 0, .int .u64 0, .int .u64 0, .int .i64 0, .int .i64 0, .slice none 0 0, .slice none 0 0] TR)).alloc (.cells #[.int .i64 0, .int .u64 0, .int .u64 0, .int .u64 0, .int .i64 0, .int .i64 0, .slice none 0 0, .slice none 0 0] TR)).setRow w4.heap.size cs) (w4.heap.size + 1) TR zrec) ∧ ∀ cs cs2, Blk (((((w4.alloc (.cells #[.int .i64 0, .int .u64 0, .int .u64 0, .int .u64 0, .int .i64 0, .int .i64 0, .slice none 0 0, .slice none 0 0] TR)).alloc (.cells #[.int .i64 0, .int .u64 0, .int .u64 0, .int .u64 0, .int .i64 0, .int .i64 0, .slice none 0 0, .slice none 0 0] TR)).alloc (.cells #[.int .i64 0, .int .u64 0, .int .u64 0, .int .u64 0, .int .i64 0, .int .i64 0, .slice none 0 0, .slice none 0 0] TR)).setRow w4.heap.size cs).setRow (w4.heap.size + 1) cs2) (w4.heap.size + 1 + 1) TR zrec) := Lib.hid (threeA_blk w4); have hz : ((w4.alloc (.cells #[.int .i64 0, .int .u64 0, .int .u64 0, .int .u64 0, .int .i64 0, .int .i64 0, .slice none 0 0, .slice none 0 0] TR)).alloc (.cells #[.int .i64 0, .int .u64 0, .int .u64 0, .int .u64 0, .int .i64 0, .int .i64 0, .slice none 0 0, .slice none 0 0] TR)).alloc (.cells #[.int .i64 0, .int .u64 0, .int .u64 0, .int .u64 0, .int .i64 0, .int .i64 0, .slice none 0 0, .slice none 0 0] TR) = threeA w4 := rfl
 go_wp2_with (first
  | (refine wpList_store_rc rfl (.tmp 3) (.tmp 21) rfl (g := w4.heap.size) (r := r1) (pb := pb1) (nb := nb1) (cb := cb1) (pa := pa1) (na := na1) (ca := ca1) ?hb1 ?hx1 ?hy1 ?_)
  | (refine wpList_store_rc rfl (.tmp 4) (.tmp 22) rfl (g := w4.heap.size + 1) (r := r2) (pb := pb2) (nb := nb2) (cb := cb2) (pa := pa2) (na := na2) (ca := ca2) ?hb2 ?hx2 ?hy2 ?_)
  | (refine wpList_store_rc rfl (.tmp 5) (.tmp 23) rfl (g := w4.heap.size + 1 + 1) (r := r3) (pb := pb3) (nb := nb3) (cb := cb3) (pa := pa3) (na := na3) (ca := ca3) ?hb3 ?hx3 ?hy3 ?_))
 all_goals try (first | exact HTh.out.1 | exact HTh.out.2.1 _ | exact HTh.out.2.2 _ _ | with_reducible_and_instances rfl | rfl)
 have H3 := Lib.hid (three_rows w4 (rcv r1 pb1 nb1 cb1 pa1 na1 ca1) (rcv r2 pb2 nb2 cb2 pa2 na2 ca2) (rcv r3 pb3 nb3 cb3 pa3 na3 ca3)); obtain ⟨W5, hW5⟩ : ∃ W, W = ((((threeA w4).setRow w4.heap.size (rcv r1 pb1 nb1 cb1 pa1 na1 ca1)).setRow (w4.heap.size + 1) (rcv r2 pb2 nb2 cb2 pa2 na2 ca2)).setRow (w4.heap.size + 1 + 1) (rcv r3 pb3 nb3 cb3 pa3 na3 ca3)) := ⟨_, rfl⟩
 rw [← hW5] at H3 ⊢
 obtain ⟨B1, hB1⟩ : ∃ B, B = w4.heap.size := ⟨_, rfl⟩; obtain ⟨B2, hB2⟩ : ∃ B, B = w4.heap.size + 1 := ⟨_, rfl⟩; obtain ⟨B3, hB3⟩ : ∃ B, B = w4.heap.size + 1 + 1 := ⟨_, rfl⟩
 rw [← hB3, ← hB2, ← hB1] at H3
 rw [← hB3, ← hB2, ← hB1]; have hgg : Gr w1 w4 := Gr.trans HG2.out (Gr.trans HG3.out HG4.out); have hs12 := HG2.out.size; have hs23 := HG3.out.size; have hs34 := HG4.out.size; have hs5 := H3.out.2.1; have HK : Hid (PrK w W5 W5 w1.heap.size bp S T pd pw pl pm zeroD L0 zeroD L0 20000) := Lib.hid (PrK.start HP1.out (Gr.trans hgg H3.out.1))
 have hra1 : RcAt W5 w1.heap.size W5.heap.size B1 r1 pb1 nb1 cb1 pa1 na1 ca1 :=
  ⟨H3.out.2.2.1, HR1.out.1.kept (Gr.trans HG3.out (Gr.trans HG4.out H3.out.1)), HR1.out.2.1.kept (Gr.trans HG3.out (Gr.trans HG4.out H3.out.1)), by omega, fun y hy => by have := HR1.out.2.2.1 y hy; omega, fun y hy => by have := HR1.out.2.2.2 y hy; omega⟩
 have HA1 : Hid (∀ V, (∀ j, w1.heap.size ≤ j → j < W5.heap.size → V.heap[j]? = W5.heap[j]?) → RcAt V w1.heap.size W5.heap.size B1 r1 pb1 nb1 cb1 pa1 na1 ca1) := Lib.hid fun V h => hra1.stays h
 have hra2 : RcAt W5 w1.heap.size W5.heap.size B2 r2 pb2 nb2 cb2 pa2 na2 ca2 :=
  ⟨H3.out.2.2.2.1, HR2.out.1.kept (Gr.trans HG4.out H3.out.1), HR2.out.2.1.kept (Gr.trans HG4.out H3.out.1), by omega, fun y hy => by have := HR2.out.2.2.1 y hy; omega, fun y hy => by have := HR2.out.2.2.2 y hy; omega⟩
 have HA2 : Hid (∀ V, (∀ j, w1.heap.size ≤ j → j < W5.heap.size → V.heap[j]? = W5.heap[j]?) → RcAt V w1.heap.size W5.heap.size B2 r2 pb2 nb2 cb2 pa2 na2 ca2) := Lib.hid fun V h => hra2.stays h
 have hra3 : RcAt W5 w1.heap.size W5.heap.size B3 r3 pb3 nb3 cb3 pa3 na3 ca3 :=
  ⟨H3.out.2.2.2.2, HR3.out.1.kept (H3.out.1), HR3.out.2.1.kept (H3.out.1), by omega, fun y hy => by have := HR3.out.2.2.1 y hy; omega, fun y hy => by have := HR3.out.2.2.2 y hy; omega⟩
 have HA3 : Hid (∀ V, (∀ j, w1.heap.size ≤ j → j < W5.heap.size → V.heap[j]? = W5.heap[j]?) → RcAt V w1.heap.size W5.heap.size B3 r3 pb3 nb3 cb3 pa3 na3 ca3) := Lib.hid fun V h => hra3.stays h
 clear hra1 hra2 hra3 hs5 hs34 hs23 hs12 hgg hB1 hB2 hB3 hW5 H3 hz HTh HR1 HR2 HR3 HP1 HG2 HG3 HG4; obtain ⟨⟨lb, rfl⟩, ⟨db, rfl⟩⟩ := HK.out.pr.code.ptr
 obtain ⟨mb, rfl⟩ : ∃ b, pm = .pointer (some ⟨b, 0, none⟩) := by
  obtain ⟨_, b, _, _, _, _, _, h, _⟩ := HK.out.pr.doc; exact ⟨b, h⟩
 have hc2 := HK.out.pr.blk.cell 2
 simp at hc2
 have hc8 := (HA1.out W5 HK.out.keep).blk.c8
 have HCa : Hid (Calls Tryz.prog 19 #[.pointer (some ⟨lb, 0, none⟩), .agg #[.int .i64 r1.k, .int .u64 (r1.t : Int), .int .u64 (r1.p : Int), .int .u64 (r1.x : Int), .int .i64 r1.g, .int .i64 r1.o, .slice pb1 nb1 cb1, .slice pa1 na1 ca1]] W5.drew (RetC (.tuple #[.int .u64 0, .int .i64 0]) zeroD L1 S (.pointer (some ⟨db, 0, none⟩)) (.pointer (some ⟨lb, 0, none⟩)) W5.drew)) := Lib.hid (by
  have hr := HA1.out W5 HK.out.keep; have hg := (Gr.refl W5).drew; have h := (HK.out.pr.up hg).code.Append HOk.out.1 r1 HI1.out.1 pb1 nb1 cb1 pa1 na1 ca1 (hr.xb.kept hg) (hr.xa.kept hg)
  rw [HLay.out.1, HLay.out.2.1, ← HD1.out] at h
  exact h)
 go_wp2_with fail
 go_region_held3 (fun V => V.cell? ⟨bp, 2, none⟩ = some (.pointer (some ⟨lb, 0, none⟩)) ∧ V.cell? ⟨B1, 0, none⟩ = some (.int .i64 r1.k) ∧ V.cell? ⟨B1, 1, none⟩ = some (.int .u64 (r1.t : Int)) ∧ V.cell? ⟨B1, 2, none⟩ = some (.int .u64 (r1.p : Int)) ∧ V.cell? ⟨B1, 3, none⟩ = some (.int .u64 (r1.x : Int)) ∧ V.cell? ⟨B1, 4, none⟩ = some (.int .i64 r1.g) ∧ V.cell? ⟨B1, 5, none⟩ = some (.int .i64 r1.o) ∧ V.cell? ⟨B1, 6, none⟩ = some (.slice pb1 nb1 cb1) ∧ V.cell? ⟨B1, 7, none⟩ = some (.slice pa1 na1 ca1)) (first | exact ⟨hc2, hc8⟩ | exact ⟨hc2', hc8'⟩) (first | (go_at_call 19; refine HCa.out.mono ?_; rintro e W6 ⟨S6, rfl, hcc, huu⟩; have HK2 : Hid (PrK w W5 W6 w1.heap.size bp S6 T (.pointer (some ⟨db, 0, none⟩)) pw (.pointer (some ⟨lb, 0, none⟩)) (.pointer (some ⟨mb, 0, none⟩)) zeroD L1 zeroD L0 20000) := Lib.hid ((HK.out.up ((Gr.refl W5).drew)).codes hcc huu); have hc2' := HK2.out.pr.blk.cell 2; simp at hc2'; have hc8' := (HA1.out W6 HK2.out.keep).blk.c8))
 clear hc2 hc8 hcc huu hc2' hc8' HCa HK; have HK := HK2; clear HK2; have hc2 := HK.out.pr.blk.cell 2
 simp at hc2
 have hc8 := (HA2.out W6 HK.out.keep).blk.c8
 have HCa : Hid (Calls Tryz.prog 19 #[.pointer (some ⟨lb, 0, none⟩), .agg #[.int .i64 r2.k, .int .u64 (r2.t : Int), .int .u64 (r2.p : Int), .int .u64 (r2.x : Int), .int .i64 r2.g, .int .i64 r2.o, .slice pb2 nb2 cb2, .slice pa2 na2 ca2]] W6.drew (RetC (.tuple #[.int .u64 41, .int .i64 0]) zeroD L2 S6 (.pointer (some ⟨db, 0, none⟩)) (.pointer (some ⟨lb, 0, none⟩)) W6.drew)) := Lib.hid (by
  have hr := HA2.out W6 HK.out.keep; have hg := (Gr.refl W6).drew; have h := (HK.out.pr.up hg).code.Append HOk.out.2.1 r2 HI2.out.1 pb2 nb2 cb2 pa2 na2 ca2 (hr.xb.kept hg) (hr.xa.kept hg)
  rw [HLay.out.2.2.1, HLay.out.2.2.2.1, ← HD2.out] at h
  exact h)
 go_wp2_with fail
 go_region_held3 (fun V => V.cell? ⟨bp, 2, none⟩ = some (.pointer (some ⟨lb, 0, none⟩)) ∧ V.cell? ⟨B2, 0, none⟩ = some (.int .i64 r2.k) ∧ V.cell? ⟨B2, 1, none⟩ = some (.int .u64 (r2.t : Int)) ∧ V.cell? ⟨B2, 2, none⟩ = some (.int .u64 (r2.p : Int)) ∧ V.cell? ⟨B2, 3, none⟩ = some (.int .u64 (r2.x : Int)) ∧ V.cell? ⟨B2, 4, none⟩ = some (.int .i64 r2.g) ∧ V.cell? ⟨B2, 5, none⟩ = some (.int .i64 r2.o) ∧ V.cell? ⟨B2, 6, none⟩ = some (.slice pb2 nb2 cb2) ∧ V.cell? ⟨B2, 7, none⟩ = some (.slice pa2 na2 ca2)) (first | exact ⟨hc2, hc8⟩ | exact ⟨hc2', hc8'⟩) (first | (go_at_call 19; refine HCa.out.mono ?_; rintro e W7 ⟨S7, rfl, hcc, huu⟩; have HK2 : Hid (PrK w W5 W7 w1.heap.size bp S7 T (.pointer (some ⟨db, 0, none⟩)) pw (.pointer (some ⟨lb, 0, none⟩)) (.pointer (some ⟨mb, 0, none⟩)) zeroD L2 zeroD L0 20000) := Lib.hid ((HK.out.up ((Gr.refl W6).drew)).codes hcc huu); have hc2' := HK2.out.pr.blk.cell 2; simp at hc2'; have hc8' := (HA2.out W7 HK2.out.keep).blk.c8))
 clear hc2 hc8 hcc huu hc2' hc8' HCa HK; have HK := HK2; clear HK2; have hc81 := (HA1.out W7 HK.out.keep).blk.c8; have hc82 := (HA2.out W7 HK.out.keep).blk.c8
 have HZ1 : Hid (∀ V, PrK w W5 V w1.heap.size bp S7 T (.pointer (some ⟨db, 0, none⟩)) pw (.pointer (some ⟨lb, 0, none⟩)) (.pointer (some ⟨mb, 0, none⟩)) zeroD L2 zeroD L0 20000 → Calls Tryz.prog 20 #[.agg #[.int .i64 r1.k, .int .u64 (r1.t : Int), .int .u64 (r1.p : Int), .int .u64 (r1.x : Int), .int .i64 r1.g, .int .i64 r1.o, .slice pb1 nb1 cb1, .slice pa1 na1 ca1]] V (RetI 41 V)) := Lib.hid fun V h => by
  have hr := HA1.out V h.keep; have h := refSize_any r1 pb1 nb1 cb1 pa1 na1 ca1 V hr.xb hr.xa
  rw [HI1.out.2.1] at h
  exact h
 have HZ2 : Hid (∀ V, PrK w W5 V w1.heap.size bp S7 T (.pointer (some ⟨db, 0, none⟩)) pw (.pointer (some ⟨lb, 0, none⟩)) (.pointer (some ⟨mb, 0, none⟩)) zeroD L2 zeroD L0 20000 → Calls Tryz.prog 20 #[.agg #[.int .i64 r2.k, .int .u64 (r2.t : Int), .int .u64 (r2.p : Int), .int .u64 (r2.x : Int), .int .i64 r2.g, .int .i64 r2.o, .slice pb2 nb2 cb2, .slice pa2 na2 ca2]] V (RetI 45 V)) := Lib.hid fun V h => by
  have hr := HA2.out V h.keep; have h := refSize_any r2 pb2 nb2 cb2 pa2 na2 ca2 V hr.xb hr.xa
  rw [HI2.out.2.1] at h
  exact h
 go_wp2_with fail
 go_region_held3 (fun V => (V.cell? ⟨B1, 0, none⟩ = some (.int .i64 r1.k) ∧ V.cell? ⟨B1, 1, none⟩ = some (.int .u64 (r1.t : Int)) ∧ V.cell? ⟨B1, 2, none⟩ = some (.int .u64 (r1.p : Int)) ∧ V.cell? ⟨B1, 3, none⟩ = some (.int .u64 (r1.x : Int)) ∧ V.cell? ⟨B1, 4, none⟩ = some (.int .i64 r1.g) ∧ V.cell? ⟨B1, 5, none⟩ = some (.int .i64 r1.o) ∧ V.cell? ⟨B1, 6, none⟩ = some (.slice pb1 nb1 cb1) ∧ V.cell? ⟨B1, 7, none⟩ = some (.slice pa1 na1 ca1)) ∧ (V.cell? ⟨B2, 0, none⟩ = some (.int .i64 r2.k) ∧ V.cell? ⟨B2, 1, none⟩ = some (.int .u64 (r2.t : Int)) ∧ V.cell? ⟨B2, 2, none⟩ = some (.int .u64 (r2.p : Int)) ∧ V.cell? ⟨B2, 3, none⟩ = some (.int .u64 (r2.x : Int)) ∧ V.cell? ⟨B2, 4, none⟩ = some (.int .i64 r2.g) ∧ V.cell? ⟨B2, 5, none⟩ = some (.int .i64 r2.o) ∧ V.cell? ⟨B2, 6, none⟩ = some (.slice pb2 nb2 cb2) ∧ V.cell? ⟨B2, 7, none⟩ = some (.slice pa2 na2 ca2))) (first | exact ⟨hc81, hc82⟩ | exact ⟨hx81, hx82⟩ | exact ⟨hy81, hy82⟩) (first
  | (go_at_call 20; (with_reducible refine (HZ1.out W7.drew (HK.out.up ((Gr.refl W7).drew))).mono ?_); rintro e W8 ⟨rfl, g8⟩; have HK8 := Lib.hid ((HK.out.up ((Gr.refl W7).drew)).up g8); have hx81 := (HA1.out W8 HK8.out.keep).blk.c8; have hx82 := (HA2.out W8 HK8.out.keep).blk.c8)
  | (go_at_call 20; (with_reducible refine (HZ2.out W8 HK8.out).mono ?_); rintro e W9 ⟨rfl, g9⟩; have HK9 := Lib.hid (HK8.out.up g9); have hy81 := (HA1.out W9 HK9.out.keep).blk.c8; have hy82 := (HA2.out W9 HK9.out.keep).blk.c8))
 clear hc81 hc82 g8 g9 hx81 hx82 hy81 hy82 HK HK8; have HK := HK9; clear HK9; have hc2 := HK.out.pr.blk.cell 2
 simp at hc2
 have HFc : Hid (Calls Tryz.prog 21 #[.pointer (some ⟨lb, 0, none⟩), .int .u64 86] W9 (RetC (.int .i64 0) s3 L3 S7 (.pointer (some ⟨db, 0, none⟩)) (.pointer (some ⟨lb, 0, none⟩)) W9)) := Lib.hid (by
  have h := HK.out.pr.code.Flush HOk.out.2.2.1 (by rw [HFl.out.2.2.2.2.2.2]; simp [zeroD, fresh]) (by simp [zeroD, fresh]) 86 (by decide)
  rw [HFl.out.1, ← HD3.out, ← HS3.out] at h
  exact h)
 go_wp2_with fail; refine HFc.out.mono ?_; rintro e W10 ⟨S10, rfl, hcc, huu⟩; have HK2 : Hid (PrK w W5 W10 w1.heap.size bp S10 T (.pointer (some ⟨db, 0, none⟩)) pw (.pointer (some ⟨lb, 0, none⟩)) (.pointer (some ⟨mb, 0, none⟩)) s3 L3 zeroD L0 20000) := Lib.hid (HK.out.codes hcc huu); clear hcc huu HFc HK hc2; have HK := HK2; clear HK2; have hc8 := (HA1.out W10 HK.out.keep).blk.c8
 have HZ1 : Hid (Calls Tryz.prog 20 #[.agg #[.int .i64 r1.k, .int .u64 (r1.t : Int), .int .u64 (r1.p : Int), .int .u64 (r1.x : Int), .int .i64 r1.g, .int .i64 r1.o, .slice pb1 nb1 cb1, .slice pa1 na1 ca1]] W10 (RetI 41 W10)) := Lib.hid (by
  have hr := HA1.out W10 HK.out.keep; have h := refSize_any r1 pb1 nb1 cb1 pa1 na1 ca1 W10 hr.xb hr.xa
  rw [HI1.out.2.1] at h
  exact h)
 go_wp2_with fail; refine HZ1.out.mono ?_; rintro e W11 ⟨rfl, g11⟩; have HK2 := Lib.hid (HK.out.up g11); clear g11 HZ1 HZ2 HK hc8; have HK := HK2; clear HK2; have hc2 := HK.out.pr.blk.cell 2
 simp at hc2
 have HEn : Hid (Calls Tryz.prog 22 #[.pointer (some ⟨lb, 0, none⟩)] W11 (RetU 86 W11)) := Lib.hid (by
  have h := HK.out.pr.code.End HOk.out.2.2.2
  rw [HFl.out.2.1] at h
  exact h)
 go_wp2_with fail; refine HEn.out.mono ?_; rintro e W12 ⟨rfl, g12⟩; have HK2 := Lib.hid (HK.out.up g12); clear g12 HEn HK hc2; have HK := HK2; clear HK2; have hc3 := HK.out.pr.blk.cell 3
 simp at hc3
 have hc8 := (HA1.out W12 HK.out.keep).blk.c8
 have HCa : Hid (Calls Tryz.prog 23 #[.pointer (some ⟨mb, 0, none⟩), .agg #[.int .i64 r1.k, .int .u64 (r1.t : Int), .int .u64 (r1.p : Int), .int .u64 (r1.x : Int), .int .i64 r1.g, .int .i64 r1.o, .slice pb1 nb1 cb1, .slice pa1 na1 ca1], .bool false] W12.drew (RetD (.tuple #[.int .u64 0, .int .i64 0]) zeroD L1 (20000 + 600) T pw (.pointer (some ⟨mb, 0, none⟩)) W12.drew)) := Lib.hid (by
  have hr := HA1.out W12 HK.out.keep; have hg := (Gr.refl W12).drew; have h := (HK.out.pr.up hg).doc.Append HOk.out.1 r1 HI1.out.1 pb1 nb1 cb1 pa1 na1 ca1 (hr.xb.kept hg) (hr.xa.kept hg) (by decide)
  rw [HLay.out.1, HLay.out.2.1, ← HD1.out] at h
  exact h)
 go_wp2_with fail
 go_region_held3 (fun V => V.cell? ⟨bp, 3, none⟩ = some (.pointer (some ⟨mb, 0, none⟩)) ∧ V.cell? ⟨B1, 0, none⟩ = some (.int .i64 r1.k) ∧ V.cell? ⟨B1, 1, none⟩ = some (.int .u64 (r1.t : Int)) ∧ V.cell? ⟨B1, 2, none⟩ = some (.int .u64 (r1.p : Int)) ∧ V.cell? ⟨B1, 3, none⟩ = some (.int .u64 (r1.x : Int)) ∧ V.cell? ⟨B1, 4, none⟩ = some (.int .i64 r1.g) ∧ V.cell? ⟨B1, 5, none⟩ = some (.int .i64 r1.o) ∧ V.cell? ⟨B1, 6, none⟩ = some (.slice pb1 nb1 cb1) ∧ V.cell? ⟨B1, 7, none⟩ = some (.slice pa1 na1 ca1)) (first | exact ⟨hc3, hc8⟩ | exact ⟨hc3', hc8'⟩) (first | (go_at_call 23; refine HCa.out.mono ?_; rintro e W13 ⟨T13, rfl, hcc, huu⟩; have HK2 : Hid (PrK w W5 W13 w1.heap.size bp S10 T13 (.pointer (some ⟨db, 0, none⟩)) pw (.pointer (some ⟨lb, 0, none⟩)) (.pointer (some ⟨mb, 0, none⟩)) s3 L3 zeroD L1 20600) := Lib.hid ((HK.out.up ((Gr.refl W12).drew)).docs hcc huu); have hc3' := HK2.out.pr.blk.cell 3; simp at hc3'; have hc8' := (HA1.out W13 HK2.out.keep).blk.c8))
 clear hc3 hc8 hcc huu hc3' hc8' HCa HK; have HK := HK2; clear HK2; have hc3 := HK.out.pr.blk.cell 3
 simp at hc3
 have hc8 := (HA2.out W13 HK.out.keep).blk.c8
 have HCa : Hid (Calls Tryz.prog 23 #[.pointer (some ⟨mb, 0, none⟩), .agg #[.int .i64 r2.k, .int .u64 (r2.t : Int), .int .u64 (r2.p : Int), .int .u64 (r2.x : Int), .int .i64 r2.g, .int .i64 r2.o, .slice pb2 nb2 cb2, .slice pa2 na2 ca2], .bool false] W13.drew (RetD (.tuple #[.int .u64 41, .int .i64 0]) zeroD L2 (20600 + 600) T13 pw (.pointer (some ⟨mb, 0, none⟩)) W13.drew)) := Lib.hid (by
  have hr := HA2.out W13 HK.out.keep; have hg := (Gr.refl W13).drew; have h := (HK.out.pr.up hg).doc.Append HOk.out.2.1 r2 HI2.out.1 pb2 nb2 cb2 pa2 na2 ca2 (hr.xb.kept hg) (hr.xa.kept hg) (by decide)
  rw [HLay.out.2.2.1, HLay.out.2.2.2.1, ← HD2.out] at h
  exact h)
 go_wp2_with fail
 go_region_held3 (fun V => V.cell? ⟨bp, 3, none⟩ = some (.pointer (some ⟨mb, 0, none⟩)) ∧ V.cell? ⟨B2, 0, none⟩ = some (.int .i64 r2.k) ∧ V.cell? ⟨B2, 1, none⟩ = some (.int .u64 (r2.t : Int)) ∧ V.cell? ⟨B2, 2, none⟩ = some (.int .u64 (r2.p : Int)) ∧ V.cell? ⟨B2, 3, none⟩ = some (.int .u64 (r2.x : Int)) ∧ V.cell? ⟨B2, 4, none⟩ = some (.int .i64 r2.g) ∧ V.cell? ⟨B2, 5, none⟩ = some (.int .i64 r2.o) ∧ V.cell? ⟨B2, 6, none⟩ = some (.slice pb2 nb2 cb2) ∧ V.cell? ⟨B2, 7, none⟩ = some (.slice pa2 na2 ca2)) (first | exact ⟨hc3, hc8⟩ | exact ⟨hc3', hc8'⟩) (first | (go_at_call 23; refine HCa.out.mono ?_; rintro e W14 ⟨T14, rfl, hcc, huu⟩; have HK2 : Hid (PrK w W5 W14 w1.heap.size bp S10 T14 (.pointer (some ⟨db, 0, none⟩)) pw (.pointer (some ⟨lb, 0, none⟩)) (.pointer (some ⟨mb, 0, none⟩)) s3 L3 zeroD L2 21200) := Lib.hid ((HK.out.up ((Gr.refl W13).drew)).docs hcc huu); have hc3' := HK2.out.pr.blk.cell 3; simp at hc3'; have hc8' := (HA2.out W14 HK2.out.keep).blk.c8))
 clear hc3 hc8 hcc huu hc3' hc8' HCa HK; have HK := HK2; clear HK2; have hc3 := HK.out.pr.blk.cell 3
 simp at hc3
 have HFc : Hid (Calls Tryz.prog 24 #[.pointer (some ⟨mb, 0, none⟩), .int .u64 86] W14 (RetD (.int .i64 0) s3 L3 21200 T14 pw (.pointer (some ⟨mb, 0, none⟩)) W14)) := Lib.hid (by
  have h := HK.out.pr.doc.Flush HOk.out.2.2.1 (by rw [HFl.out.2.2.2.2.2.2]; simp [zeroD, fresh]) (by simp [zeroD, fresh]) zeroD_less 86 (by decide)
  rw [HFl.out.1, ← HD3.out, ← HS3.out] at h
  exact h)
 go_wp2_with fail; refine HFc.out.mono ?_; rintro e W15 ⟨T15, rfl, hcc, huu⟩; have HK2 : Hid (PrK w W5 W15 w1.heap.size bp S10 T15 (.pointer (some ⟨db, 0, none⟩)) pw (.pointer (some ⟨lb, 0, none⟩)) (.pointer (some ⟨mb, 0, none⟩)) s3 L3 s3 L3 21200) := Lib.hid (HK.out.docs hcc huu); clear hcc huu HFc HK hc3; have HK := HK2; clear HK2; obtain ⟨A3, hA3⟩ : ∃ A, A = layA L3 r3 L3.free := ⟨_, rfl⟩; obtain ⟨L4, hL4⟩ : ∃ L, L = layL L3 r3 L3.free := ⟨_, rfl⟩; have HD4 := Lib.hid (And.intro hA3 hL4); clear hA3 hL4; have hc2 := HK.out.pr.blk.cell 2
 simp at hc2
 have hc8 := (HA3.out W15 HK.out.keep).blk.c8
 have HCa : Hid (Calls Tryz.prog 19 #[.pointer (some ⟨lb, 0, none⟩), .agg #[.int .i64 r3.k, .int .u64 (r3.t : Int), .int .u64 (r3.p : Int), .int .u64 (r3.x : Int), .int .i64 r3.g, .int .i64 r3.o, .slice pb3 nb3 cb3, .slice pa3 na3 ca3]] W15.drew (RetC (.tuple #[.int .u64 (A3 : Int), .int .i64 0]) s3 L4 S10 (.pointer (some ⟨db, 0, none⟩)) (.pointer (some ⟨lb, 0, none⟩)) W15.drew)) := Lib.hid (by
  have hr := HA3.out W15 HK.out.keep; have hg := (Gr.refl W15).drew; have h := (HK.out.pr.up hg).code.Append HOk.out.2.2.2 r3 HI3.out.1 pb3 nb3 cb3 pa3 na3 ca3 (hr.xb.kept hg) (hr.xa.kept hg)
  rw [HLay.out.2.2.2.2, ← HD4.out.1, ← HD4.out.2] at h
  exact h)
 go_wp2_with fail
 go_region_held3 (fun V => V.cell? ⟨bp, 2, none⟩ = some (.pointer (some ⟨lb, 0, none⟩)) ∧ V.cell? ⟨B3, 0, none⟩ = some (.int .i64 r3.k) ∧ V.cell? ⟨B3, 1, none⟩ = some (.int .u64 (r3.t : Int)) ∧ V.cell? ⟨B3, 2, none⟩ = some (.int .u64 (r3.p : Int)) ∧ V.cell? ⟨B3, 3, none⟩ = some (.int .u64 (r3.x : Int)) ∧ V.cell? ⟨B3, 4, none⟩ = some (.int .i64 r3.g) ∧ V.cell? ⟨B3, 5, none⟩ = some (.int .i64 r3.o) ∧ V.cell? ⟨B3, 6, none⟩ = some (.slice pb3 nb3 cb3) ∧ V.cell? ⟨B3, 7, none⟩ = some (.slice pa3 na3 ca3)) (first | exact ⟨hc2, hc8⟩ | exact ⟨hc2', hc8'⟩) (first | (go_at_call 19; refine HCa.out.mono ?_; rintro e W16 ⟨S16, rfl, hcc, huu⟩; have HK2 : Hid (PrK w W5 W16 w1.heap.size bp S16 T15 (.pointer (some ⟨db, 0, none⟩)) pw (.pointer (some ⟨lb, 0, none⟩)) (.pointer (some ⟨mb, 0, none⟩)) s3 L4 s3 L3 21200) := Lib.hid ((HK.out.up ((Gr.refl W15).drew)).codes hcc huu); have hc2' := HK2.out.pr.blk.cell 2; simp at hc2'; have hc8' := (HA3.out W16 HK2.out.keep).blk.c8))
 clear hc2 hc8 hcc huu hc2' hc8' HCa HK; have HK := HK2; clear HK2; go_wp2_with fail
 have HBW : Hid (∀ W, Gr W16 W → W.cell? ⟨bp, 0, none⟩ = some (.pointer (some ⟨db, 0, none⟩)) ∧ W.cell? ⟨bp, 1, none⟩ = some pw ∧ Blk W bp TPr #[(.pointer (some ⟨db, 0, none⟩)), pw, (.pointer (some ⟨lb, 0, none⟩)), (.pointer (some ⟨mb, 0, none⟩))]) := Lib.hid fun W g => by
  have h := HK.out.pr.blk.gr g; exact ⟨h.cell 0, h.cell 1, h⟩
 obtain ⟨s4, hs4⟩ : ∃ s, s = s3.crash [] := ⟨_, rfl⟩
 have HCr1 : Hid (∀ W, Gr W16 W → Calls Tryz.prog 25 #[(.pointer (some ⟨db, 0, none⟩)), .slice none 0 0] W fun e w' => NewDk W w' e s4) := Lib.hid fun W g => by
  obtain ⟨F, hd, _⟩ := (HK.out.pr.code.gr g).disk (w' := W); rw [hs4]; exact Crash_any W hd (by rw [HFl.out.2.2.2.2.1]; omega) none 0 0 [] (Nums.nil W)
 have HCr2 : Hid (∀ W, Gr W16 W → Calls Tryz.prog 26 #[pw, .slice none 0 0] W fun e w' => NewRf W w' e s4) := Lib.hid fun W g => by
  obtain ⟨G, hr, _⟩ := (HK.out.pr.doc.gr g).disk (w' := W); rw [hs4]; exact refCrash_any W hr (fun i => by rw [HFl.out.2.2.2.1 i]; simp) none 0 0 [] (Nums.nil W)
 have HS4 : Hid (s4.ls.length = 64 ∧ s4.nw 3 = Sx (secL 0 1 twoB)) := Lib.hid ⟨by rw [hs4]; show ((List.range s3.ls.length).map _).length = 64; rw [List.length_map, List.length_range, HFl.out.2.2.1], by rw [hs4]; exact HFl.out.2.2.2.2.2.1⟩; clear hs4; refine Flow.regionF [] 24 (SlKc bp db pw) (InK 6 11 14 17 119 124 W16 (Cr1 W16 s4) (Cr2 W16 s4) (Cr3 W16 bp s4) (Cr4 W16 bp s4)) (fun _ _ _ => True) (by kernel_rfl) (by kernel_rfl) (fun _ _ _ _ _ _ h _ => h) (InK.start (by rfl) (by rfl) (by rfl) (by rfl) (Gr.refl _).drew) ?steps ?fin
 case steps =>
  refine .cons (fun l a W hfr hun hup hdn hinv hdep K hK => ?_) ?_
  · have t1 := tAt (.pointer (some ⟨bp, 0, none⟩)) (hfr.at 1 (by kernel_rfl)); refine fW0 rfl ?_; clear hdep; go_simp; exact hK _ _ True.intro (hinv.other 0 (by decide) (by decide) (by decide) (by decide) (by simp) (by simp) _) (dsT (by trivial))
  refine .cons (fun l a W hfr hun hup hdn hinv hdep K hK => ?_) ?_
  · have t1 := tAt (.pointer (some ⟨bp, 0, none⟩)) (hfr.at 1 (by kernel_rfl)); refine fW0 rfl ?_; clear hdep; go_simp; exact hK _ _ True.intro (hinv.other 1 (by decide) (by decide) (by decide) (by decide) (by simp) (by simp) _) (dsT (by trivial))
  refine .cons (fun l a W hfr hun hup hdn hinv hdep K hK => ?_) ?_
  · have t1 := tAt (.pointer (some ⟨bp, 0, none⟩)) (hfr.at 1 (by kernel_rfl)); refine fW0 rfl ?_; clear hdep; go_simp; exact hK _ _ True.intro (hinv.other 2 (by decide) (by decide) (by decide) (by decide) (by simp) (by simp) _) (dsT (by trivial))
  refine .cons (fun l a W hfr hun hup hdn hinv hdep K hK => ?_) ?_
  · have t115 := tAt (.pointer (some ⟨bp, 0, none⟩)) (hdep 115 (by kernel_rfl)); refine fW0 rfl ?_; clear hdep; go_simp; exact hK _ _ True.intro (hinv.other 3 (by decide) (by decide) (by decide) (by decide) (by simp) (by simp) _) (dsT (by trivial))
  refine .cons (fun l a W hfr hun hup hdn hinv hdep K hK => ?_) ?_
  · have t116 := tAt (.pointer (some ⟨bp, 0, none⟩)) (hdep 116 (by kernel_rfl)); refine fW0 rfl ?_; clear hdep; go_simp; exact hK _ _ True.intro (hinv.other 4 (by decide) (by decide) (by decide) (by decide) (by simp) (by simp) _) (dsT (by trivial))
  refine .cons (fun l a W hfr hun hup hdn hinv hdep K hK => ?_) ?_
  · have t117 := tAt (.pointer (some ⟨bp, 0, none⟩)) (hdep 117 (by kernel_rfl)); refine fW0 rfl ?_; clear hdep; have hg := hinv.pre (hup 6 (by decide) (by kernel_rfl)); have k0 := (HBW.out W hg).1; go_simp; exact hK _ _ True.intro (hinv.other 5 (by decide) (by decide) (by decide) (by decide) (by simp) (by simp) _) (dsT (by trivial))
  refine .cons (fun l a W hfr hun hup hdn hinv hdep K hK => ?_) ?_
  ·
   have t118 := tAt (.pointer (some ⟨db, 0, none⟩)) (hdep 118 (by kernel_rfl)); refine fW0 rfl ?_; clear hdep; have hg := hinv.pre hun; go_simp
   (with_reducible refine (HCr1.out W hg).mono ?_)
   rintro e W' ⟨v, F1, rfl, hd1, g2, hF⟩; exact hK _ _ True.intro (InK.call1 (by decide) (hup 11 (by decide) (by kernel_rfl)) (hup 14 (by decide) (by kernel_rfl)) (hup 17 (by decide) (by kernel_rfl)) (by rw [hfr.size]; simp) (Cr1.of hg hd1 g2 hF)) (dsT (by trivial))
  refine .cons (fun l a W hfr hun hup hdn hinv hdep K hK => ?_) ?_
  · have t1 := tAt (.pointer (some ⟨bp, 0, none⟩)) (hfr.at 1 (by kernel_rfl)); refine fW0 rfl ?_; clear hdep; go_simp; exact hK _ _ True.intro (hinv.other 7 (by decide) (by decide) (by decide) (by decide) (by simp) (by simp) _) (dsT (by trivial))
  refine .cons (fun l a W hfr hun hup hdn hinv hdep K hK => ?_) ?_
  · have t120 := tAt (.pointer (some ⟨bp, 0, none⟩)) (hdep 120 (by kernel_rfl)); refine fW0 rfl ?_; clear hdep; go_simp; exact hK _ _ True.intro (hinv.other 8 (by decide) (by decide) (by decide) (by decide) (by simp) (by simp) _) (dsT (by trivial))
  refine .cons (fun l a W hfr hun hup hdn hinv hdep K hK => ?_) ?_
  · have t121 := tAt (.pointer (some ⟨bp, 0, none⟩)) (hdep 121 (by kernel_rfl)); refine fW0 rfl ?_; clear hdep; go_simp; exact hK _ _ True.intro (hinv.other 9 (by decide) (by decide) (by decide) (by decide) (by simp) (by simp) _) (dsT (by trivial))
  refine .cons (fun l a W hfr hun hup hdn hinv hdep K hK => ?_) ?_
  ·
   have t122 := tAt (.pointer (some ⟨bp, 1, none⟩)) (hdep 122 (by kernel_rfl)); refine fW0 rfl ?_; clear hdep
   have hg : Gr W16 W := by
    cases hc : l 6 with
    | false => exact hinv.pre hc
    | true => exact (hinv.got1 hc (hup 11 (by decide) (by kernel_rfl))).gr
   have k1 := (HBW.out W hg).2.1; go_simp; exact hK _ _ True.intro (hinv.other 10 (by decide) (by decide) (by decide) (by decide) (by simp) (by simp) _) (dsT (by trivial))
  refine .cons (fun l a W hfr hun hup hdn hinv hdep K hK => ?_) ?_
  ·
   have t123 := tAt (pw) (hdep 123 (by kernel_rfl)); refine fW0 rfl ?_; clear hdep; have hgot := hinv.got1 (hdn 6 (by decide) (by kernel_rfl)) hun; go_simp
   (with_reducible refine (HCr2.out W hgot.gr).mono ?_)
   rintro e W' ⟨v, G1, rfl, hr1, g2, hG⟩; exact hK _ _ True.intro (InK.call2 (by decide) (by decide) (hdn 6 (by decide) (by kernel_rfl)) (hup 14 (by decide) (by kernel_rfl)) (hup 17 (by decide) (by kernel_rfl)) (by rw [hfr.size]; simp) (hgot.two hr1 g2 hG)) (dsT (by trivial))
  refine .cons (fun l a W hfr hun hup hdn hinv hdep K hK => ?_) ?_
  · have t113 := tAt (.pointer (some ⟨bp, 0, none⟩)) (hdep 113 (by kernel_rfl)); refine fW0 rfl ?_; clear hdep; go_simp; exact hK _ _ True.intro (hinv.other 12 (by decide) (by decide) (by decide) (by decide) (by simp) (by simp) _) (dsT (by trivial))
  refine .cons (fun l a W hfr hun hup hdn hinv hdep K hK => ?_) ?_
  · have t125 := tAt (.pointer (some ⟨bp, 0, none⟩)) (hdep 125 (by kernel_rfl)); refine fW0 rfl ?_; clear hdep; go_simp; exact hK _ _ True.intro (hinv.other 13 (by decide) (by decide) (by decide) (by decide) (by simp) (by simp) _) (dsT (by trivial))
  refine .cons (fun l a W hfr hun hup hdn hinv hdep K hK => ?_) ?_
  · have t126 := tAt (.pointer (some ⟨bp, 0, none⟩)) (hdep 126 (by kernel_rfl)); refine fW0 rfl ?_; clear hdep; have hgot := hinv.got2 (hdn 11 (by decide) (by kernel_rfl)) hun; have hgot2 := hgot; obtain ⟨hg, D, R, F, G, e1, e2, _⟩ := hgot2; have t119 := tmpAt e1; have k0 := (HBW.out W hg).1; have f0 := (HBW.out W hg).2.2.frozen 0; go_simp; exact hK undef _ True.intro (InK.store1 (by decide) (hdn 6 (by decide) (by kernel_rfl)) (hdn 11 (by decide) (by kernel_rfl)) (hup 17 (by decide) (by kernel_rfl)) undef ⟨W, hgot, by rw [e1]⟩) (fun d hd => by cases hd)
  refine .cons (fun l a W hfr hun hup hdn hinv hdep K hK => ?_) ?_
  · have t114 := tAt (.pointer (some ⟨bp, 0, none⟩)) (hdep 114 (by kernel_rfl)); refine fW0 rfl ?_; clear hdep; go_simp; exact hK _ _ True.intro (hinv.other 15 (by decide) (by decide) (by decide) (by decide) (by simp) (by simp) _) (dsT (by trivial))
  refine .cons (fun l a W hfr hun hup hdn hinv hdep K hK => ?_) ?_
  · have t127 := tAt (.pointer (some ⟨bp, 0, none⟩)) (hdep 127 (by kernel_rfl)); refine fW0 rfl ?_; clear hdep; go_simp; exact hK _ _ True.intro (hinv.other 16 (by decide) (by decide) (by decide) (by decide) (by simp) (by simp) _) (dsT (by trivial))
  refine .cons (fun l a W hfr hun hup hdn hinv hdep K hK => ?_) ?_
  ·
   have t128 := tAt (.pointer (some ⟨bp, 1, none⟩)) (hdep 128 (by kernel_rfl)); refine fW0 rfl ?_; clear hdep; obtain ⟨V, hgot, rfl⟩ := hinv.got3 (hdn 14 (by decide) (by kernel_rfl)) hun; have hgot2 := hgot; obtain ⟨hg, D, R, F, G, e1, e2, _⟩ := hgot2; have t124 := tmpAt e2; have hb := (HBW.out V hg).2.2.set 0 (.pointer (some ⟨D, 0, none⟩)); have k1 : (V.setCell ⟨bp, 0, none⟩ (.pointer (some ⟨D, 0, none⟩))).cell? ⟨bp, 1, none⟩ = some pw := hb.cell 1; have f1 : (V.setCell ⟨bp, 0, none⟩ (.pointer (some ⟨D, 0, none⟩))).frozen? ⟨bp, 1, none⟩ = false := hb.frozen 1; have hk2 := hK undef ((V.setCell ⟨bp, 0, none⟩ (a.tmps.getD 119 undef)).setCell ⟨bp, 1, none⟩ (a.tmps.getD 124 undef)) True.intro (InK.store2 (by decide) (hdn 6 (by decide) (by kernel_rfl)) (hdn 11 (by decide) (by kernel_rfl)) (hdn 14 (by decide) (by kernel_rfl)) undef ⟨V, hgot, rfl⟩) (fun d hd => by cases hd)
   rw [e1, e2] at hk2
   rw [e1]; clear e1 e2 hK hgot hinv; go_simp; exact hk2
  exact True.intro
 case fin =>
  intro a W l hfr hall hinv hsl
  have hfin := hinv.post (hall 17 (by decide)); have e := Flow.frame hfr [113, 114, 115, 116, 117, 118, 119, 120, 121, 122, 123, 124, 125, 126, 127, 128] (List.range 156) (by kernel_rfl) (by kernel_rfl)
  simp [List.range, List.range.loop] at e
  rw [e]; have HFin := Lib.hid hfin; clear e hfr hsl hall hinv hfin
  first
   | (rename_i hB; refine hB _ _ ?_)
   | (rename_i hB y0; refine hB _ _ ?_)
   | (rename_i hB y0 y1; refine hB _ _ ?_)
   | (rename_i hB y0 y1 y2; refine hB _ _ ?_)
   | (rename_i hB y0 y1 y2 y3; refine hB _ _ ?_)
   | (rename_i hB y0 y1 y2 y3 y4; refine hB _ _ ?_)
   | (rename_i hB y0 y1 y2 y3 y4 y5; refine hB _ _ ?_)
   | (rename_i hB y0 y1 y2 y3 y4 y5 y6; refine hB _ _ ?_)
   | (rename_i hB y0 y1 y2 y3 y4 y5 y6 y7; refine hB _ _ ?_)
   | (rename_i hB y0 y1 y2 y3 y4 y5 y6 y7 y8; refine hB _ _ ?_)
   | (rename_i hB y0 y1 y2 y3 y4 y5 y6 y7 y8 y9; refine hB _ _ ?_)
   | (rename_i hB y0 y1 y2 y3 y4 y5 y6 y7 y8 y9 y10; refine hB _ _ ?_)
   | (rename_i hB y0 y1 y2 y3 y4 y5 y6 y7 y8 y9 y10 y11; refine hB _ _ ?_)
   | (rename_i hB y0 y1 y2 y3 y4 y5 y6 y7 y8 y9 y10 y11 y12; refine hB _ _ ?_)
   | skip
  obtain ⟨D, R, F, G, ev, eu, hpd, hkb⟩ := HFin.out.made HK.out.pr
  rw [ev, eu] at hpd
  clear ev eu HFin; have HPD := Lib.hid hpd
  have HKp : Hid (∀ k, w1.heap.size ≤ k → k < W5.heap.size → W.heap[k]? = W5.heap[k]?) := Lib.hid fun k h1 h2 => (hkb.2 k (Nat.lt_of_lt_of_le h2 HK.out.sz) (fun e => by have := HK.out.oB; omega)).trans (HK.out.keep k h1 h2)
  have HSz : Hid (W5.heap.size ≤ W.heap.size ∧ bp < w1.heap.size) := Lib.hid ⟨Nat.le_trans HK.out.sz hkb.1, HK.out.oB⟩; clear hpd hkb HK HCr1 HCr2 HBW; go_wp2_with fail; refine (popen_any HPD.out HS4.out.1 2 0 (by decide) (by decide) (by decide)).mono ?_; rintro e W18 ⟨hk2, (⟨h, _⟩ | ⟨_, v, K, S', T', pl', pm', rfl, hv, hm, hp⟩)⟩
  ·
   rw [(two_found s4 HS4.out.2).2.2] at h
   cases h
  rw [(two_found s4 HS4.out.2).2.1] at hm
  have hlen : K.length = 2 := by
   have := congrArg List.length hm
   simpa [logT] using this
  obtain ⟨p, c, rfl, _, _, _, _⟩ := hv.shape 2 hlen; obtain ⟨g, y0, qb1, mb1, db1, qa1, ma1, da1, rfl, hy0, hrow0⟩ := hv.lgd rfl hlen 0 (by decide); obtain ⟨g2, y1, qb2, mb2, db2, qa2, ma2, da2, hp2, hy1, hrow1⟩ := hv.lgd rfl hlen 1 (by decide)
  obtain rfl : g = g2 := by simpa using hp2
  rw [hm] at hy0 hy1
  have e0 : (0, 41, noteR 1 3) = y0 := Option.some.inj hy0; have e1 : (41, 86, noteR 2 5) = y1 := Option.some.inj hy1
  rw [← HRn.out.1] at e0
  rw [← HRn.out.2] at e1
  subst e0 e1
  have hkp : ∀ k, w1.heap.size ≤ k → k < W5.heap.size → W18.heap[k]? = W5.heap[k]? := fun k h1 h2 => (hk2.2 k (Nat.lt_of_lt_of_le h2 HSz.out.1) (fun e => by have := HSz.out.2; omega)).trans (HKp.out k h1 h2)
  have hsz : W5.heap.size ≤ W18.heap.size := Nat.le_trans HSz.out.1 hk2.1
  have HR1 : Hid (∀ V, Gr W18 V → RcAt V w1.heap.size W5.heap.size B1 r1 pb1 nb1 cb1 pa1 na1 ca1) := Lib.hid fun V gr => HA1.out V fun k h1 h2 => (gr.block k (Nat.lt_of_lt_of_le h2 hsz)).trans (hkp k h1 h2)
  have HR2 : Hid (∀ V, Gr W18 V → RcAt V w1.heap.size W5.heap.size B2 r2 pb2 nb2 cb2 pa2 na2 ca2) := Lib.hid fun V gr => HA2.out V fun k h1 h2 => (gr.block k (Nat.lt_of_lt_of_le h2 hsz)).trans (hkp k h1 h2)
  have HRow : Hid (∀ V, Gr W18 V → (V.cell? ⟨g, 2, none⟩ = some (.int .i64 r1.k) ∧ V.cell? ⟨g, 3, none⟩ = some (.int .u64 (r1.t : Int)) ∧ V.cell? ⟨g, 4, none⟩ = some (.int .u64 (r1.p : Int)) ∧ V.cell? ⟨g, 5, none⟩ = some (.int .u64 (r1.x : Int)) ∧ V.cell? ⟨g, 6, none⟩ = some (.int .i64 r1.g) ∧ V.cell? ⟨g, 7, none⟩ = some (.int .i64 r1.o) ∧ V.cell? ⟨g, 8, none⟩ = some (.slice qb1 mb1 db1) ∧ V.cell? ⟨g, 9, none⟩ = some (.slice qa1 ma1 da1)) ∧ (V.cell? ⟨g, 12, none⟩ = some (.int .i64 r2.k) ∧ V.cell? ⟨g, 13, none⟩ = some (.int .u64 (r2.t : Int)) ∧ V.cell? ⟨g, 14, none⟩ = some (.int .u64 (r2.p : Int)) ∧ V.cell? ⟨g, 15, none⟩ = some (.int .u64 (r2.x : Int)) ∧ V.cell? ⟨g, 16, none⟩ = some (.int .i64 r2.g) ∧ V.cell? ⟨g, 17, none⟩ = some (.int .i64 r2.o) ∧ V.cell? ⟨g, 18, none⟩ = some (.slice qb2 mb2 db2) ∧ V.cell? ⟨g, 19, none⟩ = some (.slice qa2 ma2 da2))) := Lib.hid fun V gr => by
   have h0 := (hrow0 V gr).1; have h1 := (hrow1 V gr).1; exact ⟨⟨h0.2.2.1, h0.2.2.2.1, h0.2.2.2.2.1, h0.2.2.2.2.2.1, h0.2.2.2.2.2.2.1, h0.2.2.2.2.2.2.2.1, h0.2.2.2.2.2.2.2.2.1, h0.2.2.2.2.2.2.2.2.2⟩, ⟨h1.2.2.1, h1.2.2.2.1, h1.2.2.2.2.1, h1.2.2.2.2.2.1, h1.2.2.2.2.2.2.1, h1.2.2.2.2.2.2.2.1, h1.2.2.2.2.2.2.2.2.1, h1.2.2.2.2.2.2.2.2.2⟩⟩
  have HSm1 : Hid (∀ V, Gr W18 V → Calls Tryz.prog 27 #[.agg #[.int .i64 r1.k, .int .u64 (r1.t : Int), .int .u64 (r1.p : Int), .int .u64 (r1.x : Int), .int .i64 r1.g, .int .i64 r1.o, .slice qb1 mb1 db1, .slice qa1 ma1 da1], .agg #[.int .i64 r1.k, .int .u64 (r1.t : Int), .int .u64 (r1.p : Int), .int .u64 (r1.x : Int), .int .i64 r1.g, .int .i64 r1.o, .slice pb1 nb1 cb1, .slice pa1 na1 ca1]] V (RetB true V)) := Lib.hid fun V gr => by
   have hr := HR1.out V gr; have h := refSameRec_any r1 r1 qb1 mb1 db1 qa1 ma1 da1 pb1 nb1 cb1 pa1 na1 ca1 V (hrow0 V gr).2.1 (hrow0 V gr).2.2 hr.xb hr.xa
   rw [sameR_self] at h
   exact h
  have HSm2 : Hid (∀ V, Gr W18 V → Calls Tryz.prog 27 #[.agg #[.int .i64 r2.k, .int .u64 (r2.t : Int), .int .u64 (r2.p : Int), .int .u64 (r2.x : Int), .int .i64 r2.g, .int .i64 r2.o, .slice qb2 mb2 db2, .slice qa2 ma2 da2], .agg #[.int .i64 r2.k, .int .u64 (r2.t : Int), .int .u64 (r2.p : Int), .int .u64 (r2.x : Int), .int .i64 r2.g, .int .i64 r2.o, .slice pb2 nb2 cb2, .slice pa2 na2 ca2]] V (RetB true V)) := Lib.hid fun V gr => by
   have hr := HR2.out V gr; have h := refSameRec_any r2 r2 qb2 mb2 db2 qa2 ma2 da2 pb2 nb2 cb2 pa2 na2 ca2 V (hrow1 V gr).2.1 (hrow1 V gr).2.2 hr.xb hr.xa
   rw [sameR_self] at h
   exact h
  have HGf : Hid (Gr w W18) := Lib.hid hp.gr; clear hrow0 hrow1 hy0 hy1 hm hv hp hk2 hkp hsz hlen hp2 HPD HKp HSz HA1 HA2 HA3; have xa := (HRow.out W18 (Gr.refl _)).1; have xb := (HRow.out W18 (Gr.refl _)).2; have xc := (HR1.out W18 (Gr.refl _)).blk.c8; have xd := (HR2.out W18 (Gr.refl _)).blk.c8; go_wp2_with fail
  go_region_held3 (fun V => (V.cell? ⟨g, 2, none⟩ = some (.int .i64 r1.k) ∧ V.cell? ⟨g, 3, none⟩ = some (.int .u64 (r1.t : Int)) ∧ V.cell? ⟨g, 4, none⟩ = some (.int .u64 (r1.p : Int)) ∧ V.cell? ⟨g, 5, none⟩ = some (.int .u64 (r1.x : Int)) ∧ V.cell? ⟨g, 6, none⟩ = some (.int .i64 r1.g) ∧ V.cell? ⟨g, 7, none⟩ = some (.int .i64 r1.o) ∧ V.cell? ⟨g, 8, none⟩ = some (.slice qb1 mb1 db1) ∧ V.cell? ⟨g, 9, none⟩ = some (.slice qa1 ma1 da1)) ∧ (V.cell? ⟨g, 12, none⟩ = some (.int .i64 r2.k) ∧ V.cell? ⟨g, 13, none⟩ = some (.int .u64 (r2.t : Int)) ∧ V.cell? ⟨g, 14, none⟩ = some (.int .u64 (r2.p : Int)) ∧ V.cell? ⟨g, 15, none⟩ = some (.int .u64 (r2.x : Int)) ∧ V.cell? ⟨g, 16, none⟩ = some (.int .i64 r2.g) ∧ V.cell? ⟨g, 17, none⟩ = some (.int .i64 r2.o) ∧ V.cell? ⟨g, 18, none⟩ = some (.slice qb2 mb2 db2) ∧ V.cell? ⟨g, 19, none⟩ = some (.slice qa2 ma2 da2)) ∧ (V.cell? ⟨B1, 0, none⟩ = some (.int .i64 r1.k) ∧ V.cell? ⟨B1, 1, none⟩ = some (.int .u64 (r1.t : Int)) ∧ V.cell? ⟨B1, 2, none⟩ = some (.int .u64 (r1.p : Int)) ∧ V.cell? ⟨B1, 3, none⟩ = some (.int .u64 (r1.x : Int)) ∧ V.cell? ⟨B1, 4, none⟩ = some (.int .i64 r1.g) ∧ V.cell? ⟨B1, 5, none⟩ = some (.int .i64 r1.o) ∧ V.cell? ⟨B1, 6, none⟩ = some (.slice pb1 nb1 cb1) ∧ V.cell? ⟨B1, 7, none⟩ = some (.slice pa1 na1 ca1)) ∧ (V.cell? ⟨B2, 0, none⟩ = some (.int .i64 r2.k) ∧ V.cell? ⟨B2, 1, none⟩ = some (.int .u64 (r2.t : Int)) ∧ V.cell? ⟨B2, 2, none⟩ = some (.int .u64 (r2.p : Int)) ∧ V.cell? ⟨B2, 3, none⟩ = some (.int .u64 (r2.x : Int)) ∧ V.cell? ⟨B2, 4, none⟩ = some (.int .i64 r2.g) ∧ V.cell? ⟨B2, 5, none⟩ = some (.int .i64 r2.o) ∧ V.cell? ⟨B2, 6, none⟩ = some (.slice pb2 nb2 cb2) ∧ V.cell? ⟨B2, 7, none⟩ = some (.slice pa2 na2 ca2))) (first | exact ⟨xa, xb, xc, xd⟩ | exact ⟨ya, yb, yc, yd⟩ | exact ⟨za, zb, zc, zd⟩) (first
   | (go_at_call 27; (with_reducible refine (HSm1.out W18.drew ((Gr.refl W18).drew)).mono ?_); rintro e W19 ⟨rfl, g19⟩; have h19 := Gr.trans ((Gr.refl W18).drew) g19; have H19 := Lib.hid h19; have ya := (HRow.out W19 h19).1; have yb := (HRow.out W19 h19).2; have yc := (HR1.out W19 h19).blk.c8; have yd := (HR2.out W19 h19).blk.c8)
   | (go_at_call 27; (with_reducible refine (HSm2.out W19 H19.out).mono ?_); rintro e W20 ⟨rfl, g20⟩; have h20 := Gr.trans H19.out g20; have H20 := Lib.hid h20; have za := (HRow.out W20 h20).1; have zb := (HRow.out W20 h20).2; have zc := (HR1.out W20 h20).blk.c8; have zd := (HR2.out W20 h20).blk.c8))
  go_wp2_with fail
  go_ret
  exact ⟨rfl, Gr.trans HGf.out H20.out⟩
end Go.Proofs.YtlijbgapkmfnaaaGreat
namespace Go.Proofs.YtlijbgapkmfnaaaGreat
open Go.RowKit Go.Maps
def St.Alive (s : St) : Prop := s.dead = false ∧ s.fuse = -1
theorem St.Alive.no {s : St} (h : s.Alive) : ¬ s.refuses := by
 unfold St.refuses
 rw [h.1, h.2]
 simp
theorem St.Alive.wrote {s : St} (h : s.Alive) (i : Nat) (x : Sec) : (s.wrote i x).Alive := by
 refine ⟨h.1, ?_⟩
 unfold St.wrote
 simp [h.2]
theorem zeroD_alive : zeroD.Alive := ⟨rfl, rfl⟩
end Go.Proofs.YtlijbgapkmfnaaaGreat
namespace Go.Proofs.YtlijbgapkmfnaaaGreat
open Go.RowKit Go.Maps
structure OpA (w W : World) (F G : Nat → Prop) (d p : Value) (s : St) : Prop where
 dk : Dk W F d s
 rf : Rf W G p s
 ap : ∀ k, F k → ¬ G k
 gr : Gr w W
 lF : ∀ k, F k → w.heap.size ≤ k
 lG : ∀ k, G k → w.heap.size ≤ k
theorem OpA.up {w W W' : World} {F G : Nat → Prop} {d p : Value} {s : St} (h : OpA w W F G d p s) (g : Gr W W') : OpA w W' F G d p s := ⟨h.dk.gr g, h.rf.gr g, h.ap, Gr.trans h.gr g, h.lF, h.lG⟩
theorem OpA.pair {w W W' : World} {F G F' : Nat → Prop} {d p : Value} {s s' : St} (h : OpA w W F G d p s) (hd : Dk W' F' d s') (hu : Upd F F' W W') : Rf W' G p s ∧ (∀ k, F' k → ¬ G k) ∧ Gr w W' ∧ ∀ k, F' k → w.heap.size ≤ k := by
 obtain ⟨h1, h2⟩ := hu.other h.rf.low h.ap; exact ⟨h.rf.stays h1 hu.size, h2, Below.trans h.gr (hu.below h.gr.size h.lF), hu.from h.gr.size h.lF⟩
theorem OpA.both {w W W1 W2 : World} {F G F' G' : Nat → Prop} {d p : Value} {s s' : St} (h : OpA w W F G d p s) (hd : Dk W1 F' d s') (hu : Upd F F' W W1) (hr : Rf W2 G' p s') (hv : Upd G G' W1 W2) : OpA w W2 F' G' d p s' := by
 obtain ⟨_, h2, h3, h4⟩ := h.pair hd hu; obtain ⟨k1, k2⟩ := hv.other hd.low (fun k hg hf => h2 k hf hg); exact ⟨hd.stays k1 hv.size, hr, fun k hf hg => k2 k hg hf, Below.trans h3 (hv.below h3.size h.lG), h4, hv.from h3.size h.lG⟩
structure OpK (i : Nat) (s : St) : Prop where
 al : s.Alive
 len : s.ls.length = 64
 wr : s.writes ≤ i
 less : ∀ j, (s.t j).length ≤ s.writes
theorem OpK.put {i : Nat} {s : St} (h : OpK i s) (j : Nat) (x : Sec) : OpK (i + 1) (s.wrote j x) := by
 refine ⟨h.al.wrote j x, h.len, by have := h.wr; show s.writes + 1 ≤ _; omega, fun k => ?_⟩; have := h.less k
 show ((if k = j then s.t j ++ [x] else s.t k)).length ≤ s.writes + 1
 split
 · rename_i e; subst e; simp; omega
 · omega
set_option maxRecDepth 100000 in
set_option maxHeartbeats 4000000 in
theorem walOpens_main (p : Option Addr) (n c : Nat) (tl ep : Nat) (w : World) (hb : WRaws w p n c) (hn : n ≤ 40) (ht : tl ≤ 18446744073709551615) (he : ep ≤ 18446744073709551615) :
  Calls Tryz.prog 4 #[.slice p n c, .int .u64 (tl : Int), .int .u64 (ep : Int)] w (RetB true w) := by
 obtain ⟨i0, hi, hz0, hz1, hz2⟩ := info_parts info_sec; have HI := Lib.hid hi; have HZ0 := Lib.hid hz0; have HZ1 := Lib.hid hz1; have HZ2 := Lib.hid hz2; have HR := Lib.hid hb; have HN := Lib.hid hn
 have h40 : ¬ (40 : Int) < (n : Int) := by omega
 clear hi hz0 hz1 hz2 hb hn
 go_enter Tryz.func4, Tryz.ntmps4
 go_wp2_with fail; refine (New_yes 64 _ ⟨by omega, by omega⟩).mono ?_; rintro e w1 ⟨d, F, rfl, hd, hg, hfar⟩; have HD1 := Lib.hid hd; have HG1 := Lib.hid hg; have HF1 := Lib.hid hfar; clear hd hg hfar
 go_wp2_with (at_make; refine wpList_make_full _ rfl _ _ TL rfl 0 TS i0 (.agg (sec Sec.zero)) 256 Tryz.underlying44 HI.out HZ0.out HZ1.out _ _ _ _ 64 rfl rfl rfl rfl ?b1 ?b2 (Nat.zero_le _) ?_)
 case b1 => rw [HZ2.out]; omega
 case b2 => unfold maxLen; omega
 intro w2 hown hgrow
 have hz := made_zero 64
 simp only [Value.cells] at hz
 rw [hz] at hown
 clear hz
 have hr : Row w2 (.slice (some ⟨w1.heap.size, 0, none⟩) 64 64) (List.replicate 64 Sec.zero) := by
  unfold Row
  rw [List.length_replicate]; exact hown
 have HG2 : Hid (Gr w1 w2) := Lib.hid (Below.grown (Gr.refl w1) hgrow (Nat.le_refl _) (fun k e => by cases e)); have HC := Lib.hid (refNew_any w2 _ _ hr (by rw [List.length_replicate]; omega) (by rw [List.length_replicate]; omega)); clear hown hgrow hr; go_wp2_with fail; refine HC.out.mono ?_; rintro e w3 ⟨q, G, rfl, hr, hg3, hG3⟩
 obtain ⟨D, hD⟩ : ∃ D, d = .pointer (some ⟨D, 0, none⟩) := by
  obtain ⟨D, _, _, _, h, _⟩ := HD1.out; exact ⟨D, h⟩
 obtain ⟨R, hR⟩ : ∃ R, q = .pointer (some ⟨R, 0, none⟩) := by
  obtain ⟨R, _, _, _, h, _⟩ := hr; exact ⟨R, h⟩
 have HA0 : Hid (OpA w w3 F G d q zeroD) := Lib.hid (by
  have s1 := HG1.out.size; have s2 := HG2.out.size; refine ⟨(HD1.out.gr HG2.out).gr hg3, hr, fun k hF hG => ?_, Gr.trans HG1.out (Gr.trans HG2.out hg3), HF1.out, fun k hG => ?_⟩
  · have := HD1.out.low k hF; have := hG3 k hG; omega
  · have := hG3 k hG; omega)
 have HK0 : Hid (OpK 0 zeroD) := Lib.hid ⟨zeroD_alive, by simp [zeroD, fresh], by simp [zeroD, fresh], zeroD_less⟩; subst hD hR; clear hr hg3 hG3 HC HG2 HD1 HG1 HF1 HI HZ0 HZ1 HZ2; go_wp2_with fail
 go_loopw [10] (fun iv wr => ∃ (i : Nat) (F G : Nat → Prop) (s : St), i ≤ n ∧ iv = .int .i64 (i : Int) ∧ Hid (OpA w wr F G (.pointer (some ⟨D, 0, none⟩)) (.pointer (some ⟨R, 0, none⟩)) s) ∧ Hid (OpK i s)) (fun iv _ => n - (intOf iv).toNat)
 case atStart => exact ⟨0, F, G, zeroD, Nat.zero_le _, rfl, HA0, HK0⟩
 case round =>
  clear HA0 HK0; obtain ⟨i, F, G, s, hin, rfl, HA, HK⟩ := hrel
  by_cases hlt : i < n
  ·
   have g3 : (i : Int) < (n : Int) := by omega
   obtain ⟨b, o, a, rfl, hrow⟩ := HR.out.row i hlt; have HMe : Hid (i + 1 ≤ n ∧ n - (i + 1) < n - i) := Lib.hid ⟨by omega, by omega⟩
   have hq : IntKind.i64.wrap ((i : Int) + 1) = ((i + 1 : Nat) : Int) := by have := HN.out; rw [IntWalk.i64_in _ (by omega)]; omega
   obtain ⟨A, hA⟩ : ∃ A, A = o + i * 5 := ⟨_, rfl⟩
   rw [← hA] at hrow
   have hA' : o + i * 5 = A := hA.symm; have HRow := Lib.hid hrow; obtain ⟨⟨x0, x1, x2, x3, x4⟩, hin1⟩ := hrow wr HA.out.gr; have HSe := Lib.hid (wsector_any a wr hin1); obtain ⟨t, ht⟩ : ∃ t, t = a.k := ⟨_, rfl⟩; have hrem := rem_twice t 16 (by decide); obtain ⟨r, hr⟩ : ∃ r : Nat, (r : Int) = 3 + ((t.tmod 16 + 16).tmod 16) ∧ r < 19 := ⟨(3 + ((t.tmod 16 + 16).tmod 16)).toNat, by omega, by omega⟩; have HR19 := Lib.hid hr.2
   have q1 : wrap64 (t.tmod 16 + 16) = t.tmod 16 + 16 := by unfold wrap64; omega
   have q2 : wrap64 (3 + (t.tmod 16 + 16).tmod 16) = (r : Int) := by unfold wrap64; omega
   have HQ := Lib.hid (And.intro q1 q2); have HT := Lib.hid ht; clear hrow hlt hin hA hin1 hrem hr q1 q2 ht; go_wp2_with fail; refine HSe.out.mono ?_; rintro e w4 ⟨x, rfl, g4⟩; obtain ⟨W5, hW5⟩ : ∃ W5, W5 = (w4.alloc (.cells (sec Sec.zero) TS)).setRow w4.heap.size (sec x) := ⟨_, rfl⟩; have HNw : Hid (Blk (w4.alloc (.cells (sec Sec.zero) TS)) w4.heap.size TS (sec Sec.zero)) := Lib.hid (Blk.new _ _ _); have HV5 : Hid (Blk W5 w4.heap.size TS (sec x) ∧ Gr wr W5) := Lib.hid (by rw [hW5]; exact ⟨HNw.out.row _, below_setRow (Gr.trans g4 (Gr.new _ _)) g4.size _⟩); have HA5 := Lib.hid (HA.out.up HV5.out.2); have HVo : Hid (wr.heap.size ≤ w4.heap.size) := Lib.hid g4.size; have HW5 := Lib.hid hW5.symm; have y0 := (HRow.out W5 HA5.out.gr).1.1
   rw [← HT.out] at y0
   have q1 := HQ.out.1; have q2 := HQ.out.2; have hz := zero_sec; clear g4 hW5 x0 x1 x2 x3 x4 HSe
   go_wp2_with (first | (refine wpList_store_x rfl (.tmp 11) (.tmp 39) rfl HNw.out rfl rfl ?_; rw [HW5.out]) | (refine wpList_load_x rfl _ rfl HV5.out.1 rfl ?_) | (refine wp_load_x _ rfl HV5.out.1 rfl ?_))
   refine (Write_yes W5 HA5.out.dk r (by have := HK.out.len; have := HR19.out; omega) x HK.out.al.no (by have := HK.out.wr; have := HMe.out; have := HN.out; omega)).mono ?_; rintro e w6 ⟨F6, rfl, hd6, hu6⟩; have HD6 := Lib.hid (And.intro hd6 hu6); have HV6 : Hid (Blk w6 w4.heap.size TS (sec x)) := Lib.hid (HV5.out.1.stays (hu6.block _ HV5.out.1.lt (fun e => by have := HA.out.dk.low _ e; have := HVo.out; omega))); have HR6 := Lib.hid (HA5.out.pair hd6 hu6).1; clear hd6 hu6 q1 q2 y0 hz; go_wp2_with fail; refine wp_load_x _ rfl HV6.out rfl ?_; go_wp2_with fail; refine (refWrite_yes w6 HR6.out r (by have := HK.out.len; have := HR19.out; omega) x HK.out.al.no (by have := HK.out.wr; have := HMe.out; have := HN.out; omega) (by have := HK.out.less r; have := HK.out.wr; have := HMe.out; have := HN.out; omega)).mono ?_; rintro e w7 ⟨G7, rfl, hr7, hv7⟩; have HA7 := Lib.hid (HA5.out.both HD6.out.1 HD6.out.2 hr7 hv7); have HK7 := Lib.hid (HK.out.put r x); clear hr7 hv7 HR6 HD6 HV6; go_wp2_with fail
   go_roundw
   case rel => exact ⟨i + 1, F6, G7, _, HMe.out.1, rfl, HA7, HK7⟩
   case measure => exact HMe.out.2
  ·
   obtain rfl : i = n := by omega
   have g3 : ¬ (i : Int) < (i : Int) := by omega
   have HW1 := Lib.hid (Writes_any wr HA.out.dk); clear hlt hin; obtain ⟨wn, hwn⟩ : ∃ wn, wn = s.writes := ⟨_, rfl⟩
   rw [← hwn] at HW1
   have HWn := Lib.hid hwn; clear hwn; go_wp2_with fail; refine HW1.out.mono ?_; rintro e w4 ⟨rfl, rfl⟩
   have HP : Hid (PrD w (wr.alloc (.cells #[.pointer (some ⟨D, 0, none⟩), .pointer (some ⟨R, 0, none⟩), .pointer none, .pointer none] TPr)) wr.heap.size F G (.pointer (some ⟨D, 0, none⟩)) (.pointer (some ⟨R, 0, none⟩)) (.pointer none) (.pointer none) s) := Lib.hid (by
    have gn := Gr.new wr (.cells #[.pointer (some ⟨D, 0, none⟩), .pointer (some ⟨R, 0, none⟩), .pointer none, .pointer none] TPr); have h := HA.out
    exact ⟨Blk.new wr TPr _, h.dk.gr gn, h.rf.gr gn, h.ap, (fun e => by have := h.dk.low _ e; omega), (fun e => by have := h.rf.low _ e; omega), Gr.trans h.gr gn, h.gr.size, h.lF, h.lG, ⟨_, rfl⟩, ⟨_, rfl⟩⟩)
   have HOp : Hid (Calls Tryz.prog 16 #[.pointer (some ⟨wr.heap.size, 0, none⟩), .int .u64 (tl : Int), .int .u64 (ep : Int)] (wr.alloc (.cells #[.pointer (some ⟨D, 0, none⟩), .pointer (some ⟨R, 0, none⟩), .pointer none, .pointer none] TPr)) (fun e w' => ∃ v F', e = .returned (.tuple #[v, .bool true]) ∧ Dk w' F' (.pointer (some ⟨D, 0, none⟩)) s ∧ Gr w w')) := Lib.hid (by
    by_cases hbad : ep = 0 ∨ 4611686018427387904 < ep ∨ 4611686018427387904 < tl
    · refine (popen_bad HP.out HK.out.len ep tl hbad).mono ?_; rintro e w' ⟨rfl, g⟩; exact ⟨_, F, rfl, HP.out.dk.gr g, Gr.trans HP.out.gr g⟩
    ·
     refine (popen_any HP.out HK.out.len ep tl (by omega) (by omega) (by omega)).mono ?_; rintro e w' ⟨_, (⟨_, rfl, h⟩ | ⟨_, v, K, S, T, pl, pm, rfl, _, _, h⟩)⟩
     · exact ⟨_, F, rfl, h.dk, h.gr⟩
     ·
      obtain ⟨F', h1, _⟩ := h.code.disk (w' := w')
      exact ⟨_, F', rfl, h1, h.gr⟩)
   clear HW1 HP; go_wp2_with fail; refine HOp.out.mono ?_; rintro e w5 ⟨v, F5, rfl, hd5, g5⟩; have HW5 := Lib.hid (Writes_any w5 hd5)
   rw [← HWn.out] at HW5
   have HG5 := Lib.hid g5; clear hd5 g5 HOp; go_wp2_with fail; refine HW5.out.mono ?_; rintro e w6 ⟨rfl, rfl⟩; go_wp2_with fail; refine (wknown_any w5).mono ?_; rintro e w7 ⟨rfl, g7⟩; go_wp2_with fail
   go_ret
   exact ⟨rfl, Gr.trans HG5.out g7⟩
set_option maxRecDepth 100000 in
set_option maxHeartbeats 1000000 in
theorem walOpens_walk (p : Option Addr) (n c : Nat) (tl ep : Nat) (w : World) (hb : WRaws w p n c) (ht : tl ≤ 18446744073709551615) (he : ep ≤ 18446744073709551615) :
  Calls Tryz.prog 4 #[.slice p n c, .int .u64 (tl : Int), .int .u64 (ep : Int)] w (RetB true w) := by
 by_cases hn : 40 < n
 ·
  have h40 : (40 : Int) < (n : Int) := by omega
  clear hb ht he hn
  go_enter Tryz.func4, Tryz.ntmps4
  go_wp2_with fail; refine (wknown_any w).mono ?_; rintro e w7 ⟨rfl, g7⟩; go_wp2_with fail
  go_ret
  exact ⟨rfl, g7⟩
 · exact walOpens_main p n c tl ep w hb (by omega) ht he
end Go.Proofs.YtlijbgapkmfnaaaGreat
namespace Go.Proofs.YtlijbgapkmfnaaaGreat
open Go.ChangeShapes Go.WideShapes Go.ChangeAt Go.RowKit Go.Maps
theorem bulk_mem {H : Type} : ∀ {ds : List (DataW H)} {d : DataW H}, d ∈ ds → Rows.uptoBulk d ≤ Rows.uptoBulkAll ds
 | [], _, h => by cases h
 | x :: r, d, h => by
  simp only [Rows.uptoBulkAll]
  rcases List.mem_cons.1 h with rfl | h
  · omega
  · have := bulk_mem h; omega
theorem bulk_len {H : Type} : ∀ (ds : List (DataW H)), ds.length ≤ Rows.uptoBulkAll ds
 | [] => Nat.le_refl _
 | x :: r => by
  have h1 := bulk_len r
  have h2 : 1 ≤ Rows.uptoBulk x := by
   cases x with
   | lit l => cases l <;> simp only [Rows.uptoBulk] <;> omega
   | nil => simp only [Rows.uptoBulk]; omega
   | ptr d => simp only [Rows.uptoBulk]; omega
   | slice a b => simp only [Rows.uptoBulk]; omega
   | agg a => simp only [Rows.uptoBulk]; omega
   | iface a b => simp only [Rows.uptoBulk]; omega
   | map a => simp only [Rows.uptoBulk]; omega
   | held a => simp only [Rows.uptoBulk]; omega
  simp only [Rows.uptoBulkAll, List.length_cons]
  omega
theorem openCellN {H : Type} {enc : TypeId × Value → H} {P : Program} {t e : TypeId} (ht : P.underlying t = some (.slice e)) (he : P.underlying e = some (.int .u8)) (hc : P.cellsOf e = 1) {W : World} {n : Nat} {v : Value} {x : DataW H × List MemPlace}
  (h : DataW.trod enc P W 0 (fun _ => true) true n t [v] = some x) : ∃ a len cap xs, v = .slice a len cap ∧ Byt W a len cap xs ∧ len ≤ Rows.uptoBulk x.1 := by
 rcases open_ints ht he hc h with ⟨hcs, _⟩ | ⟨x', l, c, zs, hcs, _, hl, hm, hz, hD, hcell, hwz⟩
 ·
  simp at hcs
  exact ⟨none, 0, 0, [], hcs, Byt.nil W, Nat.zero_le _⟩
 ·
  simp at hcs
  simp only [if_true] at hz
  refine ⟨some x', l, c, zs.take l, hcs, ⟨by simp; omega, hl, hm, Lib.BytesIn.of_cells (fun i hi => ?_), (fun h => by cases h), fun y hy => byteOf (hwz y (List.mem_of_mem_take hy))⟩, ?_⟩
  ·
   rw [hcell i (by omega)]
   simp [List.getD, hi]
  ·
   have hD1 : x.1 = .slice (lits .u8 (zs.take l)) (lits .u8 (zs.drop l)) := congrArg Prod.fst hD; rw [hD1]
   simp only [Rows.uptoBulk]
   have h1 := bulk_len (lits (H := H) .u8 (zs.take l))
   have h2 : (lits (H := H) .u8 (zs.take l)).length = (zs.take l).length := by simp [lits]
   rw [h2, List.length_take] at h1
   omega
set_option maxRecDepth 100000 in
theorem openWRaws {H : Type} {enc : TypeId × Value → H} {W : World} {a : Option Addr} {len cap : Nat} {d : DataW H} {p : List MemPlace}
  (h : DataW.Trod enc Tryz.prog W 0 (fun _ => true) true 37 (.slice a len cap) d p) (hz : Rows.uptoBulk d ≤ 1048576) : WRaws W a len cap := by
 obtain ⟨fuel, hf⟩ := h
 have hc : Tryz.prog.cellsOf TRaw = 5 := by kernel_rfl
 have hc1 : Tryz.prog.cellsOf 3 = 1 := by kernel_rfl
 have hc2 : Tryz.prog.cellsOf 30 = 1 := by kernel_rfl
 have hc3 : Tryz.prog.cellsOf 31 = 1 := by kernel_rfl
 have hc4 : Tryz.prog.cellsOf 47 = 1 := by kernel_rfl
 have hc5 : Tryz.prog.cellsOf 4 = 1 := by kernel_rfl
 rcases Go.Deep.open_slice Tryz.underlying37 hf with ⟨hcs, _⟩ | ⟨x, l, c, m, n, D, Pl, hcs, _, hl, hm, hmm, hd, hx⟩
 ·
  simp [Value.cells] at hcs
  obtain ⟨rfl, rfl, rfl⟩ := hcs; exact ⟨Nat.le_refl _, Nat.zero_le _, fun h => absurd h (Nat.lt_irrefl 0)⟩
 ·
  simp [Value.cells] at hcs
  obtain ⟨rfl, rfl, rfl⟩ := hcs
  simp only [if_true] at hmm
  subst hmm; have hc' : Tryz.prog.cellsOf 49 = 5 := hc
  rw [hc'] at hx
  have hd1 : d = .slice ((List.range len).map D) ((List.range (m - len)).map fun j => D (len + j)) := congrArg Prod.fst hd
  have hbulk : ∀ i, i < len → Rows.uptoBulk (D i) ≤ 1048576 := fun i hi => by
   rw [hd1] at hz
   simp only [Rows.uptoBulk] at hz
   have := bulk_mem (List.mem_map.2 ⟨i, List.mem_range.2 hi, rfl⟩ : D i ∈ (List.range len).map D)
   omega
  have each : ∀ i, i < len → ∃ g : RawA, (∀ j v, g.cells[j]? = some v → W.cell? ((x.add (i * 5)).add j) = some v) ∧ g.In W := fun i hi => by
   obtain ⟨cs, h1, h2⟩ := hx i (by omega); obtain ⟨_, hlen, hcells⟩ := World.cells?_some h1; have hb := hbulk i hi; obtain ⟨xs, k, _, hxx, hlx, hlen2, hff⟩ := DataW.trod_struct Tryz.underlying49 h2; have hD1 : D i = .agg (xs.map fun x => x.1) := congrArg Prod.fst hxx
   rw [hD1] at hb
   simp only [Rows.uptoBulk] at hb
   revert hb hff
   match xs, hlen2 with
   | [y0, y1, y2, y3, y4], _ =>
    intro hb hff
    match cs, hlen with
    | [c0, c1, c2, c3, c4], _ =>
     have t0 := hff 0 _ rfl; have t1 := hff 1 _ rfl; have t2 := hff 2 _ rfl; have t3 := hff 3 _ rfl; have t4 := hff 4 _ rfl
     try simp [hc1] at t0
     try simp [hc2] at t1
     try simp [hc3] at t2
     try simp [hc4] at t3
     try simp [hc5] at t4
     simp only [List.map_cons, List.map_nil, Rows.uptoBulkAll] at hb
     obtain ⟨K, e0, _, w0⟩ := DataW.trod_int Tryz.underlying3 t0; obtain ⟨E, e1, _, w1⟩ := DataW.trod_int Tryz.underlying30 t1; obtain ⟨B, e4, _⟩ := DataW.trod_bool Tryz.underlying4 t4
     simp at e0 e1 e4
     subst e0 e1 e4; obtain ⟨q, mm, kk, zs, rfl, hq, hqn⟩ := openCellN (v := c2) Tryz.underlying31 Tryz.underlying5 (by kernel_rfl) t2
     obtain ⟨rp, rn, rc, e3, hr, hrn⟩ : ∃ rp rn rc, c3 = Value.slice rp rn rc ∧ Recs W rp rn rc ∧ rn ≤ Rows.uptoBulk y3.1 := by
      have tt := t3
      rcases Go.Deep.open_slice Tryz.underlying47 t3 with ⟨h5, _⟩ | ⟨a5, l5, c5, _, _, D5, _, h5, _, _, _, _, h6, _⟩
      ·
       simp at h5
       subst h5; exact ⟨none, 0, 0, rfl, ⟨Nat.le_refl _, Nat.zero_le _, fun h => absurd h (Nat.lt_irrefl 0)⟩, Nat.zero_le _⟩
      ·
       simp at h5
       subst h5; refine ⟨_, _, _, rfl, openRecs (enc := enc) (d := y3.1) (p := y3.2) ⟨_, by simpa [Value.cells] using tt⟩, ?_⟩; have h7 : y3.1 = _ := congrArg Prod.fst h6; rw [h7]
       simp only [Rows.uptoBulk]
       have h8 := bulk_len ((List.range l5).map D5)
       rw [List.length_map, List.length_range] at h8
       omega
     subst e3; have b0 := i64Of w0; have b1 := u64Of w1; obtain ⟨E, rfl⟩ := Int.eq_ofNat_of_zero_le b1.1; refine ⟨⟨K, E, q, mm, kk, zs, rp, rn, rc, B⟩, fun j v hj => ?_, hq, hr, by show E ≤ _; omega, b0.1, b0.2, by show mm ≤ _; omega, by show rn ≤ _; omega⟩
     have hlt : j < 5 := by have := (List.getElem?_eq_some_iff.1 hj).1; simpa [RawA.cells] using this
     rw [hcells j (by omega)]; exact hj
  refine ⟨hl, hm, fun hn => ?_⟩; obtain ⟨z0, hz0, _⟩ := each 0 hn; have hc0 := hz0 0 _ rfl; obtain ⟨b, o, sp⟩ := x
  obtain rfl : sp = none := by simpa [Addr.add] using World.cell?_spot hc0
  refine ⟨b, o, rfl, fun i hi => ?_⟩; obtain ⟨z, hz, hin⟩ := each i hi; refine ⟨z, fun j v hj => ?_, hin⟩; have := hz j v hj
  simpa only [Go.WideShapes.add_plain] using this
end Go.Proofs.YtlijbgapkmfnaaaGreat
