/-
  Texts, put together: PoolKe1 PoolRef1 PoolKe2 PoolKe3 PoolKe4 PoolKe5.
-/
import Derived.BigQuiet
import Derived.Deep.MidRow
import Derived.Test.YtaemmknijmhnoaaGreatK7
import Derived.Test.YtaemmknijmhnoaaGreatK35
import Derived.Test.YtaemmknijmhnoaaGreatK37
set_option linter.unusedVariables false
set_option linter.unusedSimpArgs false
/-
  A local array of 64 pages.
-/
namespace Go.Proofs.YtaemmknijmhnoaaGreat
open Go.RowKit Go.Maps

abbrev TPgs : TypeId := 65
abbrev TLsn : TypeId := 66
set_option maxRecDepth 1000000 in
theorem info_pgs : (Tryz.prog.info? TPgs).map (fun i => (i.zero, i.size)) = some (some (.agg (Array.replicate 15872 (.int .u8 0))), 15872) := by kernel_rfl
theorem info_lsn : (Tryz.prog.info? TLsn).map (fun i => (i.zero, i.size)) = some (some (.agg (Array.replicate 64 (.int .u64 0))), 64) := by kernel_rfl
theorem splice_at {α : Type} (L zs : List α) (off k : Nat) (h : off + zs.length ≤ L.length) : (L.take off ++ (zs ++ L.drop (off + zs.length)))[k]? = if off ≤ k ∧ k < off + zs.length then zs[k - off]? else L[k]? := by
  have hl : (L.take off).length = off := by rw [List.length_take]; omega
  by_cases h1 : k < off
  · rw [if_neg (by omega), List.getElem?_append_left (by omega), List.getElem?_take]
    simp [h1]
  · rw [List.getElem?_append_right (by omega), hl]
    by_cases h2 : k < off + zs.length
    · rw [if_pos ⟨by omega, h2⟩, List.getElem?_append_left (by omega)]
    · rw [if_neg (by omega), List.getElem?_append_right (by omega), List.getElem?_drop]
      congr 1
      omega
theorem Play_getD {xs ys : List Int} {F j : Nat} (h : F + ys.length ≤ xs.length) : (Play xs F ys).getD j 0 = if F ≤ j ∧ j < F + ys.length then ys.getD (j - F) 0 else xs.getD j 0 := by
  have h1 := splice_at xs ys F j h
  unfold Play
  rw [List.getD_eq_getElem?_getD, h1]
  split <;> simp [List.getD]
/-- 64 pages in one block. -/
structure PgAt (w : World) (q : Nat) (cs : Array Value) (c : Nat → List Int) : Prop where
  blk : Blk w q TPgs cs
  size : cs.size = 15872
  cell : ∀ i j, i < 64 → j < 248 → cs[i * 248 + j]? = some (.int .u8 ((c i).getD j 0))
  sec : ∀ i, PIsSec (c i)
theorem PgAt.start {w : World} {q : Nat} (h : Blk w q TPgs (Array.replicate 15872 (.int .u8 0))) : PgAt w q (Array.replicate 15872 (.int .u8 0)) fun _ => List.replicate 248 0 := by
  refine ⟨h, by rw [Array.size_replicate], fun i j hi hj => ?_, fun i => ⟨List.length_replicate, fun x hx => by rw [List.eq_of_mem_replicate hx]; omega⟩⟩
  have e : (List.replicate 248 (0 : Int)).getD j 0 = 0 := by
    rw [List.getD_eq_getElem?_getD, List.getElem?_replicate, if_pos hj]
    rfl
  rw [Array.getElem?_replicate, if_pos (by omega), e]
theorem PgAt.stays {w w' : World} {q : Nat} {cs : Array Value} {c : Nat → List Int} (h : PgAt w q cs c) (e : w'.heap[q]? = w.heap[q]?) : PgAt w' q cs c := ⟨h.blk.stays e, h.size, h.cell, h.sec⟩
/-- A page of them. -/
theorem PgAt.range {w : World} {q : Nat} {cs : Array Value} {c : Nat → List Int} (h : PgAt w q cs c) {i : Nat} (hi : i < 64) : w.rangeAt q (i * 248) (PSx (c i)).cells := fun j v hv => by
  rw [PSx_cells (h.sec i)] at hv
  have hj : j < 248 := by
    have := (List.getElem?_eq_some_iff.1 hv).1
    rw [List.length_map, (h.sec i).len] at this
    exact this
  rw [h.blk.cell, h.cell i j hi hj]
  rw [List.getElem?_map] at hv
  have h2 : (c i)[j]? = some ((c i).getD j 0) := by simp [List.getD, (h.sec i).len, hj]
  rw [h2] at hv
  exact hv
/-- Bytes are laid into a page. -/
theorem PgAt.put {w : World} {q : Nat} {cs : Array Value} {c : Nat → List Int} (h : PgAt w q cs c) {i F : Nat} {ys : List Int} (hi : i < 64) (hy : Wd.Small ys) (hf : F + ys.length ≤ 248) :
    PgAt (w.setRow q (cs.toList.take (i * 248 + F) ++ (ys.map (Value.int .u8) ++ cs.toList.drop (i * 248 + F + (ys.map (Value.int .u8)).length))).toArray) q (cs.toList.take (i * 248 + F) ++ (ys.map (Value.int .u8) ++ cs.toList.drop (i * 248 + F + (ys.map (Value.int .u8)).length))).toArray (fun k => if k = i then Play (c i) F ys else c k) := by
  have hs : cs.toList.length = 15872 := by rw [Array.length_toList]; exact h.size
  have hl : (ys.map (Value.int .u8)).length = ys.length := List.length_map ..
  refine ⟨h.blk.row _, ?_, fun k j hk hj => ?_, fun k => ?_⟩
  · rw [List.size_toArray, List.length_append, List.length_append, List.length_take, List.length_drop, hs, hl]
    omega
  · rw [List.getElem?_toArray, splice_at _ _ _ _ (by rw [hl, hs]; omega), hl]
    show _ = some (Value.int .u8 ((if k = i then Play (c i) F ys else c k).getD j 0))
    by_cases hin : i * 248 + F ≤ k * 248 + j ∧ k * 248 + j < i * 248 + F + ys.length
    · obtain rfl : k = i := by omega
      rw [if_pos hin, if_pos rfl, Play_getD (by rw [(h.sec k).len]; exact hf), if_pos (by omega), List.getElem?_map, show k * 248 + j - (k * 248 + F) = j - F by omega]
      simp [List.getD, show j - F < ys.length by omega]
    · rw [if_neg hin, Array.getElem?_toList, h.cell k j hk hj]
      by_cases e : k = i
      · subst e
        rw [if_pos rfl, Play_getD (by rw [(h.sec k).len]; exact hf), if_neg (by omega)]
      · rw [if_neg e]
  · show PIsSec (if k = i then Play (c i) F ys else c k)
    split
    · exact Play_sec (h.sec i) hy hf
    · exact h.sec k
end Go.Proofs.YtaemmknijmhnoaaGreat

/-
  The document's pool: what a sector says of a page.
-/
namespace Go.Proofs.YtaemmknijmhnoaaGreat
open Go.RowKit Go.Maps

theorem dec_cons (x : Int) (r : List Int) : Wd.dec (x :: r) = x.toNat + 256 * Wd.dec r := rfl
theorem dec_lt : ∀ (l : List Int), Wd.Small l → Wd.dec l < 256 ^ l.length
  | [], _ => by decide
  | x :: r, h => by
    have h1 := h.head
    have h2 := dec_lt r h.tail
    rw [dec_cons, List.length_cons, Nat.pow_succ]
    omega
theorem dec_drop {l : List Int} {j : Nat} (h : j < l.length) : Wd.dec (l.drop j) = (l.getD j 0).toNat + 256 * Wd.dec (l.drop (j + 1)) := by
  have e : l.drop j = l.getD j 0 :: l.drop (j + 1) := by
    rw [List.drop_eq_getElem_cons h]
    simp [List.getD, h]
  rw [e, dec_cons]
set_option maxRecDepth 100000 in
set_option maxHeartbeats 1000000 in
theorem LSN_any {xs : List Int} (hx : IsSec xs) (w : World) : Calls Tryz.prog 29 #[.agg (sec (Sx xs))] w fun e w' => e = .returned (.int .u64 (Wd.dec (xs.take 8) : Int)) ∧ Gr w w' := by
  obtain ⟨W1, hW1⟩ : ∃ W1, W1 = w.alloc (.cells (sec (Sx xs)) TS) := ⟨_, rfl⟩
  have HW1 := Lib.hid hW1.symm
  have HB : Hid (Blk W1 w.heap.size TS (sec (Sx xs)) ∧ Gr w W1) := Lib.hid (by rw [hW1]; exact ⟨Blk.new _ _ _, Gr.new _ _⟩)
  have HC : Hid (∀ j : Nat, j < 8 → W1.cell? ⟨w.heap.size, j, none⟩ = some (.int .u8 (xs.getD j 0)) ∧ 0 ≤ xs.getD j 0 ∧ xs.getD j 0 < 256 ∧ Wd.dec ((xs.take 8).drop j) = (xs.getD j 0).toNat + 256 * Wd.dec ((xs.take 8).drop (j + 1)) ∧ Wd.dec ((xs.take 8).drop (j + 1)) < 72057594037927936) := Lib.hid fun j hj => by
    have hl := hx.len
    have hs := hx.small.getD j
    refine ⟨?_, hs.1, hs.2, ?_, ?_⟩
    · rw [HB.out.1.cell]
      unfold sec
      rw [Sx_cells hx, List.getElem?_toArray, List.getElem?_map]
      simp [List.getD, show j < xs.length by omega]
    · have h1 := dec_drop (l := xs.take 8) (j := j) (by rw [List.length_take]; omega)
      have h2 : (xs.take 8).getD j 0 = xs.getD j 0 := by simp [List.getD, hj]
      rw [h2] at h1
      exact h1
    · have h1 := dec_lt ((xs.take 8).drop (j + 1)) ((hx.small.take 8).drop (j + 1))
      have h2 : ((xs.take 8).drop (j + 1)).length ≤ 7 := by rw [List.length_drop, List.length_take]; omega
      exact Nat.lt_of_lt_of_le h1 (Nat.le_trans (Nat.pow_le_pow_right (by decide) h2) (by decide))
  have HE : Hid (Wd.dec ((xs.take 8).drop 8) = 0 ∧ Wd.dec ((xs.take 8).drop 0) = Wd.dec (xs.take 8)) := Lib.hid (by
    refine ⟨?_, by rw [List.drop_zero]⟩
    rw [List.drop_of_length_le (by rw [List.length_take]; omega)]
    rfl)
  clear hW1
  go_enter Tryz.func29, Tryz.ntmps29
  go_wp2_with fail
  rw [HW1.out]
  go_loop [3, 4] (fun nv iv => ∃ j : Nat, j ≤ 8 ∧ iv = .int .i64 ((j : Int) - 1) ∧ nv = .int .u64 ((Wd.dec ((xs.take 8).drop j) : Nat) : Int)) (fun _ iv => (intOf iv + 1).toNat)
  case atStart => exact ⟨8, Nat.le_refl _, rfl, by rw [HE.out.1]; rfl⟩
  case round =>
    obtain ⟨j, hj, rfl, rfl⟩ := hrel
    cases j with
    | zero =>
      rw [HE.out.2]
      go_wp2_with fail
      go_ret
      exact ⟨rfl, HB.out.2⟩
    | succ j =>
      obtain ⟨c0, x0, x1, hd, hlt⟩ := HC.out j (by omega)
      obtain ⟨X, hX⟩ : ∃ X, X = xs.getD j 0 := ⟨_, rfl⟩
      obtain ⟨D, hD⟩ : ∃ D, D = Wd.dec ((xs.take 8).drop (j + 1)) := ⟨_, rfl⟩
      rw [← hX] at c0 x0 x1 hd
      rw [← hD] at hd hlt ⊢
      rw [show (((j + 1 : Nat) : Int) - 1) = (j : Int) by omega]
      have hw : IntKind.i64.wrap ((j : Int) - 1) = (j : Int) - 1 := IntWalk.i64_in _ (by omega)
      have e1 : IntKind.u64.wrap X = X := IntWalk.u64_in _ (by omega)
      have e2 : IntKind.u64.wrap ((D : Int) * 256 + X) = (D : Int) * 256 + X := IntWalk.u64_in _ (by omega)
      go_wp2_with fail
      refine ⟨⟨j, by omega, rfl, ?_⟩, by simp [intOf]⟩
      have hX2 : xs[j]?.getD 0 = X := hX.symm
      rw [hX2, ← hD, e1, e2]
      congr 1
      have hd2 : Wd.dec ((xs.take 8).drop j) = X.toNat + 256 * D := hd
      rw [hd2]
      omega
theorem run_cutP (q : Nat) (w : World) : (Instr.sliceAt PTS (.pointer (some ⟨q, 0, none⟩)) none none none).run Tryz.prog w = .ok (.slice (some ⟨q, 0, none⟩) 248 248) w := by
  have hl : Tryz.prog.arrayLen PTS = 248 := by kernel_rfl
  have he : Tryz.prog.elem PTS = 5 := by kernel_rfl
  have hu : Tryz.prog.underlying PTS = some (.array (Tryz.prog.arrayLen PTS) (Tryz.prog.elem PTS)) := by rw [hl, he]; exact Punder_sec
  rw [run_sliceAt_array_all w PTS ⟨q, 0, none⟩ hu, he, Psize_u8]
  simp [slicedAt, Result.andThen, hl, Addr.add]
theorem run_cut8 (q : Nat) (w : World) : (Instr.sliceAt TS (.pointer (some ⟨q, 0, none⟩)) (some (.int .i64 8)) none none).run Tryz.prog w = .ok (.slice (some ⟨q, 8, none⟩) 248 248) w := by
  have hl : Tryz.prog.arrayLen TS = 256 := by kernel_rfl
  have he : Tryz.prog.elem TS = 5 := by kernel_rfl
  have hu : Tryz.prog.underlying TS = some (.array (Tryz.prog.arrayLen TS) (Tryz.prog.elem TS)) := by rw [hl, he]; exact under_sec
  rw [run_sliceAt_array_l w TS ⟨q, 0, none⟩ hu .i64 8 (by omega) (by rw [hl]; omega), he, Psize_u8]
  simp [slicedAt, Result.andThen, hl, Addr.add]
theorem Play_all {xs ys : List Int} (h : xs.length = ys.length) : Play xs 0 ys = ys := by
  unfold Play
  rw [List.take_zero, List.drop_of_length_le (by omega)]
  simp
set_option maxRecDepth 100000 in
set_option maxHeartbeats 1000000 in
theorem Payload_any {xs : List Int} (hx : IsSec xs) (w : World) : Calls Tryz.prog 32 #[.agg (sec (Sx xs))] w fun e w' => e = .returned (.agg (Psec (PSx (xs.drop 8)))) ∧ Gr w w' := by
  obtain ⟨W1, hW1⟩ : ∃ W1, W1 = w.alloc (.cells (sec (Sx xs)) TS) := ⟨_, rfl⟩
  obtain ⟨W2, hW2⟩ : ∃ W2, W2 = W1.alloc (.cells (Psec PSec.zero) PTS) := ⟨_, rfl⟩
  obtain ⟨W3, hW3⟩ : ∃ W3, W3 = W2.alloc (.cells (Psec PSec.zero) PTS) := ⟨_, rfl⟩
  have s1 : W1.heap.size = w.heap.size + 1 := by rw [hW1, World.size_alloc]
  have s2 : W2.heap.size = w.heap.size + 1 + 1 := by rw [hW2, World.size_alloc, s1]
  have g1 : Gr w W1 := by rw [hW1]; exact Gr.new _ _
  have g2 : Gr W1 W2 := by rw [hW2]; exact Gr.new _ _
  have g3 : Gr W2 W3 := by rw [hW3]; exact Gr.new _ _
  have hb1 : Blk W3 w.heap.size TS (sec (Sx xs)) := by
    have h : Blk W1 w.heap.size TS (sec (Sx xs)) := by rw [hW1]; exact Blk.new _ _ _
    exact (h.gr g2).gr g3
  have hb2 : Blk W3 (w.heap.size + 1) PTS (Psec (PSx (List.replicate 248 0))) := by
    have h : Blk W2 W1.heap.size PTS (Psec PSec.zero) := by rw [hW2]; exact Blk.new _ _ _
    rw [PSx_zero, ← s1]; exact h.gr g3
  have hb3 : Blk W3 (w.heap.size + 1 + 1) PTS (Psec (PSx (List.replicate 248 0))) := by
    have h : Blk W3 W2.heap.size PTS (Psec PSec.zero) := by rw [hW3]; exact Blk.new _ _ _
    rw [PSx_zero, ← s2]; exact h
  have hy : Byt W3 (some ⟨w.heap.size, 8, none⟩) 248 248 (xs.drop 8) := (Blk.byt hb1 hx).tail 8 (by omega) (some ⟨w.heap.size, 8, none⟩) (fun _ => by simp)
  have HW : Hid (w.alloc (.cells (sec (Sx xs)) TS) = W1 ∧ W1.alloc (.cells (Psec PSec.zero) PTS) = W2 ∧ W2.alloc (.cells (Psec PSec.zero) PTS) = W3) := Lib.hid ⟨hW1.symm, hW2.symm, hW3.symm⟩
  have HB := Lib.hid (And.intro hb2 (And.intro (hb3.gr (Gr.refl W3).drew) (And.intro (hy.kept (Gr.refl W3).drew) (Gr.trans g1 (Gr.trans g2 g3)))))
  have hsec : PIsSec (List.replicate 248 (0 : Int)) := ⟨List.length_replicate, fun x hx => by rw [List.eq_of_mem_replicate hx]; omega⟩
  have HP : Hid (PIsSec (List.replicate 248 (0 : Int)) ∧ Play (List.replicate 248 (0 : Int)) 0 (xs.drop 8) = xs.drop 8) := Lib.hid ⟨hsec, Play_all (by rw [List.length_replicate, List.length_drop, hx.len])⟩
  have k1 := run_cutP (w.heap.size + 1 + 1)
  have k2 := run_cut8 w.heap.size
  have hz := Pzero_sec
  clear hW1 hW2 hW3 s1 s2 g1 g2 g3 hb1 hb2 hb3 hy hsec
  obtain ⟨zs, hzs⟩ : ∃ zs, zs = List.replicate 248 (0 : Int) := ⟨_, rfl⟩
  obtain ⟨ys, hys⟩ : ∃ ys, ys = xs.drop 8 := ⟨_, rfl⟩
  rw [← hzs, ← hys] at HB HP
  rw [← hys]
  clear hzs hys
  go_enter Tryz.func32, Tryz.ntmps32
  go_wp2_with fail
  rw [HW.out.1, HW.out.2.1, HW.out.2.2]
  go_region_law (refine Pstep_copy_sec rfl (.tmp 4) (.tmp 5) rfl rfl HB.out.2.1 HP.out.1 rfl HB.out.2.2.1 (by omega) (by omega) (by omega) ?_)
  rw [HP.out.2]
  obtain ⟨W4, hW4⟩ : ∃ W4, W4 = W3.drew.setRow (w.heap.size + 1 + 1) (Psec (PSx ys)) := ⟨_, rfl⟩
  rw [← hW4]
  have HX : Hid (Blk W4 (w.heap.size + 1 + 1) PTS (Psec (PSx ys)) ∧ Blk W4 (w.heap.size + 1) PTS (Psec (PSx zs)) ∧ Gr w W4) := Lib.hid (by
    rw [hW4]
    exact ⟨HB.out.2.1.row _, (HB.out.1.gr (Gr.refl W3).drew).stays (setRow_other _ _ _ _ (by omega)), below_setRow (HB.out.2.2.2.drew) (by omega) _⟩)
  clear hW4 k1 k2
  go_wp2_with (first | (refine PwpList_load_x rfl (.tmp 3) rfl HX.out.1 rfl ?_) | (refine PwpList_store_x rfl (.tmp 2) (.tmp 7) rfl HX.out.2.1 rfl rfl ?_))
  exact bodyPost_ret (Presults_x rfl _ _ _ _ rfl (HX.out.2.1.row _)) rfl ⟨rfl, below_setRow HX.out.2.2 (by omega) _⟩
end Go.Proofs.YtaemmknijmhnoaaGreat

/-
  One pool, and blocks of the law's own beside it.
-/
namespace Go.Proofs.YtaemmknijmhnoaaGreat
open Go.RowKit Go.Maps

/-- Pool, log and disk, apart from blocks of the law's own. -/
def KpQ (w0 w : World) (b m : Nat) (pd pl : Value) (P : Pl) (s : St) (L : Lg) (R : Nat) (Ks : List (Nat × TypeId × Array Value)) : Prop :=
  ∃ S n B, PoAt w b m n pd pl B S P s L 64 R ∧ (∀ z, uS S b m B z → w0.heap.size ≤ z) ∧ Gr w0 w ∧ ∀ x, x ∈ Ks → ¬ uS S b m B x.1 ∧ w0.heap.size ≤ x.1 ∧ Blk w x.1 x.2.1 x.2.2
section
variable {w0 w w' : World} {b m : Nat} {pd pl : Value} {P Q : Pl} {s t : St} {L M : Lg} {R R' : Nat} {Ks Ns : List (Nat × TypeId × Array Value)}
theorem KpQ.blk (h : KpQ w0 w b m pd pl P s L R Ks) : (∀ x, x ∈ Ks → Blk w x.1 x.2.1 x.2.2) ∧ Gr w0 w := by
  obtain ⟨S, n, B, _, _, h3, h4⟩ := h
  exact ⟨fun x hx => (h4 x hx).2.2, h3⟩
theorem KpQ.gr (h : KpQ w0 w b m pd pl P s L R Ks) (g : Gr w w') : KpQ w0 w' b m pd pl P s L R Ks := by
  obtain ⟨S, n, B, h1, h2, h3, h4⟩ := h
  exact ⟨S, n, B, h1.gr g, h2, Gr.trans h3 g, fun x hx => ⟨(h4 x hx).1, (h4 x hx).2.1, (h4 x hx).2.2.gr g⟩⟩
theorem KpQ.less (h : KpQ w0 w b m pd pl P s L R Ks) (hR : R' ≤ R) (hk : ∀ x, x ∈ Ns → x ∈ Ks) : KpQ w0 w b m pd pl P s L R' Ns := by
  obtain ⟨S, n, B, h1, h2, h3, h4⟩ := h
  exact ⟨S, n, B, h1.lower hR, h2, h3, fun x hx => h4 x (hk x hx)⟩
theorem KpQ.box (h : KpQ w0 w b m pd pl P s L R Ks) (cs : Array Value) (ty : TypeId) : KpQ w0 (w.alloc (.cells cs ty)) b m pd pl P s L R ((w.heap.size, ty, cs) :: Ks) := by
  obtain ⟨S, n, B, h1, h2, h3, h4⟩ := h
  have g := Gr.new w (.cells cs ty)
  refine ⟨S, n, B, h1.gr g, h2, Gr.trans h3 g, fun x hx => ?_⟩
  rcases List.mem_cons.1 hx with rfl | hx
  · exact ⟨fun e => by have := h1.low _ e; omega, h3.size, Blk.new _ _ _⟩
  · exact ⟨(h4 x hx).1, (h4 x hx).2.1, (h4 x hx).2.2.gr g⟩
/-- A block of the law's own turns. -/
theorem KpQ.row (h : KpQ w0 w b m pd pl P s L R Ks) {q : Nat} {ty : TypeId} {old : Array Value} (hq : (q, ty, old) ∈ Ks) (cs : Array Value) (hn : ∀ x, x ∈ Ns → x = (q, ty, cs) ∨ x ∈ Ks ∧ x.1 ≠ q) : KpQ w0 (w.setRow q cs) b m pd pl P s L R Ns := by
  obtain ⟨S, n, B, h1, h2, h3, h4⟩ := h
  obtain ⟨k1, k2, k3⟩ := h4 _ hq
  refine ⟨S, n, B, h1.row k1 cs, h2, below_setRow (B := w0.heap.size) h3 k2 cs, fun x hx => ?_⟩
  rcases hn x hx with rfl | ⟨hx, hne⟩
  · exact ⟨k1, k2, k3.row cs⟩
  · exact ⟨(h4 x hx).1, (h4 x hx).2.1, (h4 x hx).2.2.stays (setRow_other _ _ _ _ hne)⟩
/-- The pool goes on. -/
theorem KpQ.call {f : Nat} {args : Array Value} {v : Value} (h : KpQ w0 w b m pd pl P s L R Ks) (hc : ∀ S n B, PoAt w b m n pd pl B S P s L 64 R → (∀ q, uS S b m B q → w0.heap.size ≤ q) → Calls Tryz.prog f args w (RetPo v Q t M b m pd pl B S 64 R' w)) :
    Calls Tryz.prog f args w fun e w' => e = .returned v ∧ KpQ w0 w' b m pd pl Q t M R' Ks := by
  obtain ⟨S, n, B, h1, h2, h3, h4⟩ := h
  refine (hc S n B h1 h2).mono ?_
  rintro e w' ⟨rfl, S', n', B', k1, k2⟩
  refine ⟨rfl, S', n', B', k1, fun q hq => k2.from h3.size h2 q hq, Below.trans h3 (k2.below h3.size h2), fun x hx => ?_⟩
  obtain ⟨m1, m2, m3⟩ := h4 x hx
  refine ⟨fun e => ?_, m2, m3.stays (k2.block _ m3.lt m1)⟩
  rcases k2.fresh _ e with h | h
  · exact m1 h
  · have := m3.lt; omega
theorem KpQ.note (h : KpQ w0 w b m pd pl P s L R Ks) (hf : L.fin ≤ 8000000000000000000) (page : Nat) : Calls Tryz.prog 13 #[pl, .int .i64 (page : Int)] w fun e w' => e = .returned (.tuple #[.int .u64 (layA L (nR page) L.free : Int), .int .u64 ((L.noted page).fin : Int), .bool (layE (nR page) L.free == 0)]) ∧ KpQ w0 w' b m pd pl P s (L.noted page) R Ks :=
  h.call fun S n B hp _ => (note7_any hp hf page).mono fun e w' ⟨h1, S', h2, h3⟩ => ⟨h1, S', n, B, h2, h3⟩
end
end Go.Proofs.YtaemmknijmhnoaaGreat

/-
  One pool, by what its pages have.
-/
namespace Go.Proofs.YtaemmknijmhnoaaGreat
open Go.RowKit Go.Maps

/-- What the pages have is c; where it is held, nothing was written. -/
def KpI (w0 w : World) (d l b m : Nat) (hd : Bool) (c : Nat → List Int × Nat) (R : Nat) (Ks : List (Nat × TypeId × Array Value)) (C : St → Lg → Prop) : Prop :=
  ∃ P s L, AL P s L ∧ (hd = true → P.held = true ∧ s.writes = 0) ∧ (∀ j, 19 ≤ j → j < 64 → P.ct s j = c j) ∧ C s L ∧ KpQ w0 w b m (.pointer (some ⟨d, 0, none⟩)) (.pointer (some ⟨l, 0, none⟩)) P s L R Ks
def CTr (_ : St) (_ : Lg) : Prop := True
section
variable {w0 w w' : World} {d l b m : Nat} {hd : Bool} {c : Nat → List Int × Nat} {R : Nat} {Ks Ns : List (Nat × TypeId × Array Value)} {C : St → Lg → Prop}
theorem KpI.blk (h : KpI w0 w d l b m hd c R Ks C) : (∀ x, x ∈ Ks → Blk w x.1 x.2.1 x.2.2) ∧ Gr w0 w := by
  obtain ⟨P, s, L, _, _, _, _, h⟩ := h
  exact h.blk
theorem KpI.gr (h : KpI w0 w d l b m hd c R Ks C) (g : Gr w w') : KpI w0 w' d l b m hd c R Ks C := by
  obtain ⟨P, s, L, h1, h2, h3, h4, h5⟩ := h
  exact ⟨P, s, L, h1, h2, h3, h4, h5.gr g⟩
theorem KpI.box (h : KpI w0 w d l b m hd c R Ks C) (cs : Array Value) (ty : TypeId) : KpI w0 (w.alloc (.cells cs ty)) d l b m hd c R ((w.heap.size, ty, cs) :: Ks) C := by
  obtain ⟨P, s, L, h1, h2, h3, h4, h5⟩ := h
  exact ⟨P, s, L, h1, h2, h3, h4, h5.box cs ty⟩
theorem KpI.row (h : KpI w0 w d l b m hd c R Ks C) {q : Nat} {ty : TypeId} {old : Array Value} (hq : (q, ty, old) ∈ Ks) (cs : Array Value) (hn : ∀ x, x ∈ Ns → x = (q, ty, cs) ∨ x ∈ Ks ∧ x.1 ≠ q) : KpI w0 (w.setRow q cs) d l b m hd c R Ns C := by
  obtain ⟨P, s, L, h1, h2, h3, h4, h5⟩ := h
  exact ⟨P, s, L, h1, h2, h3, h4, h5.row hq cs hn⟩
theorem KpI.less (h : KpI w0 w d l b m hd c R Ks C) {R' : Nat} (hR : R' ≤ R) (hk : ∀ x, x ∈ Ns → x ∈ Ks) : KpI w0 w d l b m hd c R' Ns CTr := by
  obtain ⟨P, s, L, h1, h2, h3, h4, h5⟩ := h
  exact ⟨P, s, L, h1, h2, h3, trivial, h5.less hR hk⟩
/-- A record is noted: where there was room for it, its end is not 0. -/
theorem KpI.note (h : KpI w0 w d l b m hd c R Ks CTr) : Calls Tryz.prog 13 #[.pointer (some ⟨l, 0, none⟩), .int .i64 25] w fun e w' => ∃ (a f : Nat) (x : Bool), e = .returned (.tuple #[.int .u64 (a : Int), .int .u64 (f : Int), .bool x]) ∧ a ≤ 100000 ∧ f ≤ 100000 ∧ (x = true → f ≠ 0) ∧ KpI w0 w' d l b m hd c R Ks (fun _ L => f ≤ L.fin) := by
  obtain ⟨P, s, L, h1, h2, h3, -, h5⟩ := h
  have hs := h1.ad.small
  have hs2 := (h1.noted 25).ad.small
  refine (h5.note (by omega) 25).mono ?_
  rintro e w' ⟨rfl, k⟩
  refine ⟨_, _, _, rfl, ?_, hs2, fun hx => ?_, P, s, L.noted 25, h1.noted 25, h2, h3, Nat.le_refl _, k⟩
  · unfold layA
    split <;> omega
  · have h6 := layL_fin L (nR 25) L.free
    show (layL L (nR 25) L.free).fin ≠ 0
    rw [h6, if_pos (by simpa using hx)]
    omega
/-- A page is changed. -/
theorem KpI.put {a f i o : Nat} {pb : Option Addr} {nb cb : Nat} {ys : List Int} (h : KpI w0 w d l b m hd c R Ks (fun _ L => f ≤ L.fin)) (hR : 200 ≤ R) (h19 : 19 ≤ i) (h64 : i < 64) (ho : o + nb ≤ 248) (hf0 : f ≠ 0) (hf : f ≤ 100000) (ha : a ≤ 100000) (hy0 : Byt w0 pb nb cb ys) (hy : Byt w pb nb cb ys) :
    Calls Tryz.prog 14 #[.pointer (some ⟨b, 0, none⟩), .int .i64 (i : Int), .int .i64 (o : Int), .slice pb nb cb, .int .u64 (a : Int), .int .u64 (f : Int)] w fun e w' => e = .returned (.int .i64 0) ∧ KpI w0 w' d l b m hd (fun j => if j = i then (Play (c j).1 o ys, f) else c j) (R - 200) Ks CTr := by
  obtain ⟨P, s, L, h1, h2, h3, h4, h5⟩ := h
  have hl := hy.len
  obtain ⟨k1, k2, k3, k4⟩ := h1.pt (i := (i : Int)) (o := (o : Int)) (ys := ys) (first := a) (lsn := f) (by omega) hy.small h4 (by omega) (by omega)
  have hp : pA (i : Int) (o : Int) ys.length f = 0 := by
    unfold pA askE
    rw [if_neg (by rw [if_neg (by omega)]; simp), if_neg (by omega)]
  refine (h5.call (R' := R - 200) fun S n B hq hlo => Put_any hq (by omega) (i : Int) (o : Int) hy (fun h0 y hye e => by have h5 := hlo _ e; have h6 := hy0.up h0 y hye; omega) (by omega) (by omega)).mono ?_
  rintro e w' ⟨rfl, k⟩
  refine ⟨by rw [k1, hp], _, _, _, k2, fun e => ?_, fun j j19 j64 => ?_, trivial, k⟩
  · obtain ⟨e1, e2⟩ := held_pt (s := s) (L := L) (h2 e).1 64 (i : Int) (o : Int) ys a f
    exact ⟨e1, by rw [e2]; exact (h2 e).2⟩
  · rw [k4 j j19 j64]
    unfold pC
    rw [hp, h3 j j19 j64]
    show _ = if j = i then (Play (c j).1 o ys, f) else c j
    by_cases e : j = i
    · rw [if_pos ⟨rfl, e⟩, if_pos e]
      rfl
    · rw [if_neg (fun h => e h.2), if_neg e]
/-- A page is asked for. -/
theorem KpI.get {i : Nat} (h : KpI w0 w d l b m hd c R Ks C) (hR : 200 ≤ R) (h19 : 19 ≤ i) (h64 : i < 64) :
    Calls Tryz.prog 11 #[.pointer (some ⟨b, 0, none⟩), .int .i64 (i : Int)] w fun e w' => e = .returned (.tuple #[.agg (Psec (PSx (c i).1)), .int .u64 ((c i).2 : Int), .int .i64 0]) ∧ KpI w0 w' d l b m hd c (R - 200) Ks CTr := by
  obtain ⟨P, s, L, h1, h2, h3, h4, h5⟩ := h
  obtain ⟨k1, k2, k3, k4⟩ := h1.gt (i := (i : Int)) (by omega)
  have hp : gA (P.ct s) (i : Int) = (PSx (c i).1, (c i).2, 0) := by
    unfold gA askE
    rw [if_neg (by rw [if_neg (by omega)]; simp), show ((i : Int)).toNat = i from rfl, h3 i h19 h64]
  refine (h5.call (R' := R - 200) fun S n B hq hlo => Get_any hq (by omega) (i : Int)).mono ?_
  rintro e w' ⟨rfl, k⟩
  refine ⟨by rw [k1, hp]; rfl, _, _, _, k2, fun e => ?_, fun j j19 j64 => (k4 j j19 j64).trans (h3 j j19 j64), trivial, k⟩
  obtain ⟨e1, e2⟩ := held_gt (s := s) (L := L) (h2 e).1 64 (i : Int)
  exact ⟨e1, by rw [e2]; exact (h2 e).2⟩
/-- All is written. -/
theorem KpI.writeAll (h : KpI w0 w d l b m hd c R Ks C) (hR : 200 ≤ R) :
    Calls Tryz.prog 18 #[.pointer (some ⟨b, 0, none⟩)] w fun e w' => e = .returned (.int .i64 0) ∧ ∃ P s L, AL P s L ∧ P.dirty = [] ∧ (∀ i, s.t i = []) ∧ (∀ j, 19 ≤ j → j < 64 → dC s j = c j) ∧ KpQ w0 w' b m (.pointer (some ⟨d, 0, none⟩)) (.pointer (some ⟨l, 0, none⟩)) P s L (R - 200) Ks := by
  obtain ⟨P, s, L, h1, h2, h3, h4, h5⟩ := h
  obtain ⟨k1, k2, k3, k4, k5, k6⟩ := h1.wa
  refine (h5.call (R' := R - 200) fun S n B hq hlo => WriteAllP_any hq (by omega)).mono ?_
  rintro e w' ⟨rfl, k⟩
  exact ⟨by rw [k1], _, _, _, k2, k4, k6, fun j j19 j64 => (k5 j j19 j64).trans (h3 j j19 j64), k⟩
theorem dC_zero (j : Nat) : dC zeroD j = (List.replicate 248 0, 0) := by
  have h1 : zeroD.nw j = Sec.zero := by
    unfold St.nw zeroD fresh
    simp only [List.getLastD_nil, List.getD_eq_getElem?_getD, List.getElem?_replicate]
    split <;> rfl
  have h2 : secN Sec.zero = List.replicate 256 0 := by
    unfold secN Sec.zero
    rw [List.map_replicate]
    rfl
  unfold dC frS
  rw [h1, h2]
  refine Prod.ext ?_ ?_
  · show (List.replicate 256 (0 : Int)).drop 8 = _
    rw [List.drop_replicate]
  · show Wd.dec ((List.replicate 256 (0 : Int)).take 8) = 0
    rw [List.take_replicate]
    decide
/-- As it begins. -/
theorem KpI.begin {n : Int} {x : Bool} {e : Ending} (h : RetBeg7 n x w0 e w) : ∃ d l b m, e = .returned (.tuple #[.pointer (some ⟨d, 0, none⟩), .pointer (some ⟨l, 0, none⟩), .pointer (some ⟨b, 0, none⟩), .bool true]) ∧ KpI w0 w d l b m x (fun _ => (List.replicate 248 0, 0)) 1000000 [] CTr := by
  obtain ⟨d, l, b, m, S, rfl, h1, h2, h3⟩ := h
  refine ⟨d, l, b, m, rfl, P0 n x, zeroD, L0, AL.begin n x, fun e => ⟨e, rfl⟩, fun j _ _ => ?_, trivial, S, _, _, h1, h2, h3, fun x hx => by cases hx⟩
  rw [ct_none rfl]
  exact dC_zero j
end
end Go.Proofs.YtaemmknijmhnoaaGreat

/-
  Bytes are laid into one of 64 pages: in a region that draws its order; what goes on then.
-/
namespace Go.Proofs.YtaemmknijmhnoaaGreat
open Go.RowKit Go.Maps

theorem PgAt.on {w w' : World} {q : Nat} {cs : Array Value} {c : Nat → List Int} (h : PgAt w q cs c) (hb : Blk w' q TPgs cs) : PgAt w' q cs c := ⟨hb, h.size, h.cell, h.sec⟩
section
variable {w0 w w' : World} {b m : Nat} {pd pl : Value} {P : Pl} {s : St} {L : Lg} {R : Nat} {Ks Ns : List (Nat × TypeId × Array Value)}
theorem KpQ.onc (h : KpQ w0 w b m pd pl P s L R Ks) {q : Nat} {ty : TypeId} {old : Array Value} (hq : (q, ty, old) ∈ Ks) {cs : Array Value} (ho : Onc q w w') (hb : Blk w' q ty cs) (hn : ∀ x, x ∈ Ns → x = (q, ty, cs) ∨ x ∈ Ks ∧ x.1 ≠ q) : KpQ w0 w' b m pd pl P s L R Ns := by
  obtain ⟨S, n, B, h1, h2, h3, h4⟩ := h
  obtain ⟨k1, k2, k3⟩ := h4 _ hq
  refine ⟨S, n, B, h1.stays (fun z hz => ho.block z fun e => k1 (e ▸ hz)) (Nat.le_of_eq ho.size.symm), h2, ⟨ho.os.trans h3.os, ho.tape.trans h3.tape, ho.output.trans h3.output, by rw [ho.size]; exact h3.size, fun k hk => (ho.block k (by dsimp only at k2; omega)).trans (h3.block k hk)⟩, fun x hx => ?_⟩
  rcases hn x hx with rfl | ⟨hx, hne⟩
  · exact ⟨k1, k2, hb⟩
  · exact ⟨(h4 x hx).1, (h4 x hx).2.1, (h4 x hx).2.2.stays (ho.block _ hne)⟩
end
theorem KpI.onc {w0 w w' : World} {d l b m : Nat} {hd : Bool} {c : Nat → List Int × Nat} {R : Nat} {Ks Ns : List (Nat × TypeId × Array Value)} {C : St → Lg → Prop} (h : KpI w0 w d l b m hd c R Ks C) {q : Nat} {ty : TypeId} {old : Array Value} (hq : (q, ty, old) ∈ Ks) {cs : Array Value} (ho : Onc q w w') (hb : Blk w' q ty cs) (hn : ∀ x, x ∈ Ns → x = (q, ty, cs) ∨ x ∈ Ks ∧ x.1 ≠ q) : KpI w0 w' d l b m hd c R Ns C := by
  obtain ⟨P, s, L, h1, h2, h3, h4, h5⟩ := h
  exact ⟨P, s, L, h1, h2, h3, h4, h5.onc hq ho hb hn⟩
theorem run_cutG (q A F : Nat) (h : F ≤ 248) (w : World) : (Instr.sliceAt PTS (.pointer (some ⟨q, A, none⟩)) (some (.int .i64 (F : Int))) none none).run Tryz.prog w = .ok (.slice (some ⟨q, A + (if 248 = F then 0 else F), none⟩) (248 - F) (248 - F)) w := by
  have hl : Tryz.prog.arrayLen PTS = 248 := by kernel_rfl
  have he : Tryz.prog.elem PTS = 5 := by kernel_rfl
  have hu : Tryz.prog.underlying PTS = some (.array (Tryz.prog.arrayLen PTS) (Tryz.prog.elem PTS)) := by rw [hl, he]; exact Punder_sec
  rw [run_sliceAt_array_l w PTS ⟨q, A, none⟩ hu .i64 (F : Int) (by omega) (by rw [hl]; omega), he, Psize_u8]
  by_cases hE : 248 = F
  · subst hE; simp [slicedAt, Result.andThen, hl]
  · have h1 : ¬ F = 248 := fun e => hE e.symm
    simp [slicedAt, Result.andThen, hl, hE, Addr.add, h1]
/-- copy(pages[i][off:], bytes), as one step of a region that draws its order. -/
theorem step_copy_pg {w : World} {ops : Array Oper} {o : Oper} {a : Act} {K : Act → World → Prop} {Q : Exit → Act → World → Prop} {E : Prop} (hgd : o.guard = none) (d s : Operand)
    (ho : o.op = .call { callee := .builtin .copy, args := #[d, s], argTypes := #[31, 31] }) {q i F A : Nat} {cs : Array Value} {c : Nat → List Int} (hA : A = i * 248 + if 248 = F then 0 else F) (hd : a.eval d = .slice (some ⟨q, A, none⟩) (248 - F) (248 - F)) (hp : PgAt w q cs c) (hi : i < 64)
    {pb : Option Addr} {m cc : Nat} {ys : List Int} (hs : a.eval s = .slice pb m cc) (hy : Byt w pb m cc ys) (hf : F + m ≤ 248)
    (h : ∀ w' cs', PgAt w' q cs' (fun k => if k = i then Play (c i) F ys else c k) → Onc q w w' → K (a.put o.dst (goInt m)) w') : if Region.wanted o (yielded ops a.tmps) = true then Oper.wp Tryz.prog o a w K Q else E := by
  have hl := hy.len
  by_cases h0 : m = 0
  · subst h0
    obtain rfl : ys = [] := List.eq_nil_of_length_eq_zero hl
    have hw : Region.wanted o (yielded ops a.tmps) = true := by simp [Region.wanted, hgd]
    rw [if_pos hw]
    have hrun := run_copy_none (P := Tryz.prog) w 31 31 o.type 5 (some ⟨q, A, none⟩) pb (248 - F) (248 - F) 0 cc Pbt4.us Pbt4_size (by simp)
    have hk := h w cs (by
      have e : (fun k => if k = i then Play (c i) F [] else c k) = c := funext fun k => by
        rw [Play_nil]
        split
        · rename_i e; rw [e]
        · rfl
      rw [e]
      exact hp) (Onc.refl q w)
    unfold Oper.wp
    simp only [execOp, ho, resolve, invoke, builtin]
    simp [hd, hs, hrun, Result.andThen]
    exact hk
  · obtain ⟨b, of, rfl, _⟩ := hy.at (by omega)
    have hAF : A = i * 248 + F := by rw [hA, if_neg (by omega)]
    subst hAF
    have hw : Region.wanted o (yielded ops a.tmps) = true := by simp [Region.wanted, hgd]
    rw [if_pos hw]
    have hrun := run_copy_row (P := Tryz.prog) w 31 31 o.type 5 q (i * 248 + F) (248 - F) (248 - F) ⟨b, of, none⟩ m cc cs TPgs (ys.map (Value.int .u8)) Pbt4.us Pbt4_size hp.blk (by rw [List.length_map, hl]; exact (Nat.min_eq_left (by omega)).symm) hy.news (by rw [List.length_map, hl, hp.size]; omega) (u8s_oneCell _)
    have hk := h _ _ (hp.put (i := i) (F := F) (ys := ys) hi hy.small (by rw [hl]; exact hf)) (Onc.row q w _)
    rw [List.append_assoc, List.length_map, hl] at hrun
    rw [List.length_map, hl] at hk
    unfold Oper.wp
    simp only [execOp, ho, resolve, invoke, builtin]
    simp [hd, hs, hrun, Result.andThen]
    exact hk
/-- The same in a plain region. -/
theorem wpList_copy_pg {w : World} {ops : Array Oper} {rest : List Oper} {o : Oper} {a : Act} {Q : Exit → Act → World → Prop} (hgd : o.guard = none) (d s : Operand)
    (ho : o.op = .call { callee := .builtin .copy, args := #[d, s], argTypes := #[31, 31] }) {q i F A : Nat} {cs : Array Value} {c : Nat → List Int} (hA : A = i * 248 + if 248 = F then 0 else F) (hd : a.eval d = .slice (some ⟨q, A, none⟩) (248 - F) (248 - F)) (hp : PgAt w q cs c) (hi : i < 64)
    {pb : Option Addr} {m cc : Nat} {ys : List Int} (hs : a.eval s = .slice pb m cc) (hy : Byt w pb m cc ys) (hf : F + m ≤ 248)
    (h : ∀ w' cs', PgAt w' q cs' (fun k => if k = i then Play (c i) F ys else c k) → Onc q w w' → wpList Tryz.prog ops Q rest (a.put o.dst (goInt m)) w') : wpList Tryz.prog ops Q (o :: rest) a w :=
  wpList_plain hgd fun K hK => by
    have k := step_copy_pg (ops := ops) (E := True) (Q := Q) hgd d s ho hA hd hp hi hs hy hf fun w' cs' h1 h2 => hK _ _ (h w' cs' h1 h2)
    rw [if_pos (by simp [Region.wanted, hgd])] at k
    exact k
end Go.Proofs.YtaemmknijmhnoaaGreat

/-
  One pool, by what its pages have: what is written, and what stands on the disk when all is.
-/
namespace Go.Proofs.YtaemmknijmhnoaaGreat
open Go.RowKit Go.Maps

theorem under_pgs : Tryz.prog.underlying TPgs = some (.array (Tryz.prog.arrayLen TPgs) (Tryz.prog.elem TPgs)) := by kernel_rfl
theorem run_index_pgs (q I : Nat) (h : I < 64) (w : World) : (Instr.indexAt TPgs (.pointer (some ⟨q, 0, none⟩)) (.int .i64 (I : Int))).run Tryz.prog w = .ok (.pointer (some ⟨q, I * 248, none⟩)) w := by
  have hl : Tryz.prog.arrayLen TPgs = 64 := by kernel_rfl
  have he : Tryz.prog.elem TPgs = PTS := by kernel_rfl
  rw [run_indexAt_array w TPgs ⟨q, 0, none⟩ .i64 (I : Int) under_pgs, if_pos (by rw [hl]; omega), he]
  simp [sizeOf, typeInfo]
  cases hq : Tryz.prog.info? PTS with
  | none => have := Psize_sec; simp [hq] at this
  | some i =>
    have hi : i.size = 248 := by have := Psize_sec; simpa [hq] using this
    simp [hi, Addr.add_mid]
/-- A long array, read in a region that only reads and draws its order. -/
theorem wpQuiet_load_mid {P : Program} {ops : Array Oper} {C : World → Prop} {Q : Act → Prop} {a : Act} {o : Oper} {rest : List Oper} (hw : Region.wanted o (yielded ops a.tmps) = true) (ty : TypeId) (x : Operand) (ho : o.op = .load ty x)
    (b off : Nat) (hx : a.eval x = .pointer (some ⟨b, off, none⟩)) (cs : List Value) (d : TypeDesc) (hS : ∀ w, C w → w.rangeAt b off cs) (hu : P.underlying ty = some d) (hd : d.isRow = true) (hi : (P.info? ty).map (·.size) = some cs.length)
    (h : wpQuiet P ops C Q rest (a.put o.dst (.agg cs.toArray))) : wpQuiet P ops C Q (o :: rest) a :=
  wpQuiet_step fun K hK => by
    rw [if_pos hw]
    refine ⟨_, fun w hw' => ?_, hK _ h⟩
    unfold Oper.quietAt execOp
    simp only [ho, hx, Instr.loadAt, Instr.sureAddr, Sem.run_bind, Sem.run_pure, Result.andThen_ok, run_loadVar_mid w b off ty cs d (hS w hw') hu hd hi]
    exact ⟨rfl, rfl⟩
theorem Blk.pone {w : World} {g : Nat} {s : PSec} (h : Blk w g PTS (Psec s)) : w.rangeAt g 0 s.cells := fun j v hv => by
  rw [Nat.zero_add, h.cell j, ← hv]; simp [Psec]
section
variable {w0 w w' : World} {d l b m : Nat} {hd : Bool} {c : Nat → List Int × Nat} {R : Nat} {Ks Ns : List (Nat × TypeId × Array Value)} {C : St → Lg → Prop}
theorem KpI.newrow (h : KpI w0 w d l b m hd c R Ks C) (cs0 : Array Value) (ty : TypeId) (cs : Array Value) : KpI w0 ((w.alloc (.cells cs0 ty)).setRow w.heap.size cs) d l b m hd c R ((w.heap.size, ty, cs) :: Ks) C :=
  (h.box cs0 ty).row List.mem_cons_self cs fun x hx => by
    rcases List.mem_cons.1 hx with rfl | hx
    · exact .inl rfl
    · refine .inr ⟨List.mem_cons_of_mem _ hx, ?_⟩
      have := (h.blk.1 x hx).lt
      omega
/-- What is asked of the disk. -/
theorem KpI.writes (h : KpI w0 w d l b m hd c R Ks C) : Calls Tryz.prog 30 #[.pointer (some ⟨d, 0, none⟩)] w fun e w' => ∃ n : Nat, e = .returned (.int .i64 (n : Int)) ∧ (hd = true → n = 0) ∧ w = w' := by
  obtain ⟨P, s, L, h1, h2, h3, h4, S, n, B, k1, _⟩ := h
  obtain ⟨F, hdk, _⟩ := k1.cd.disk (w' := w)
  refine (Writes_any w hdk).mono ?_
  rintro e w' ⟨rfl, rfl⟩
  exact ⟨_, rfl, fun e => (h2 e).2, rfl⟩
/-- All is written. -/
def KpF (w0 w : World) (d l b m : Nat) (c : Nat → List Int × Nat) (R : Nat) (Ks : List (Nat × TypeId × Array Value)) : Prop :=
  ∃ P s L, AL P s L ∧ P.dirty = [] ∧ (∀ i, s.t i = []) ∧ (∀ j, 19 ≤ j → j < 64 → dC s j = c j) ∧ KpQ w0 w b m (.pointer (some ⟨d, 0, none⟩)) (.pointer (some ⟨l, 0, none⟩)) P s L R Ks
theorem KpI.all (h : KpI w0 w d l b m hd c R Ks C) (hR : 200 ≤ R) : Calls Tryz.prog 18 #[.pointer (some ⟨b, 0, none⟩)] w fun e w' => e = .returned (.int .i64 0) ∧ KpF w0 w' d l b m c (R - 200) Ks := by
  refine (h.writeAll hR).mono ?_
  rintro e w' ⟨rfl, P, s, L, k⟩
  exact ⟨rfl, P, s, L, k⟩
theorem KpF.blk (h : KpF w0 w d l b m c R Ks) : (∀ x, x ∈ Ks → Blk w x.1 x.2.1 x.2.2) ∧ Gr w0 w := by
  obtain ⟨P, s, L, _, _, _, _, h⟩ := h
  exact h.blk
theorem KpF.gr (h : KpF w0 w d l b m c R Ks) (g : Gr w w') : KpF w0 w' d l b m c R Ks := by
  obtain ⟨P, s, L, h1, h2, h3, h4, h5⟩ := h
  exact ⟨P, s, L, h1, h2, h3, h4, h5.gr g⟩
theorem KpF.dirty (h : KpF w0 w d l b m c R Ks) : Calls Tryz.prog 22 #[.pointer (some ⟨b, 0, none⟩)] w fun e w' => RetLoose [] w e w' := by
  obtain ⟨P, s, L, h1, h2, h3, h4, S, n, B, k1, _⟩ := h
  have := Dirty_any k1.pl k1.ok.hin
  rw [h2] at this
  exact this
theorem KpF.loose (h : KpF w0 w d l b m c R Ks) : Calls Tryz.prog 31 #[.pointer (some ⟨d, 0, none⟩)] w fun e w' => RetLoose [] w e w' := by
  obtain ⟨P, s, L, h1, h2, h3, h4, S, n, B, k1, _⟩ := h
  obtain ⟨F, hdk, _⟩ := k1.cd.disk (w' := w)
  have := Loose_any w hdk (by have := k1.bud.wr; omega)
  rw [show s.loose = [] by
    unfold St.loose
    refine List.filter_eq_nil_iff.2 fun i _ => ?_
    rw [h3 i]
    simp] at this
  exact this
/-- A page, as it stands on the disk. -/
theorem KpF.read (h : KpF w0 w d l b m c R Ks) {i : Nat} (h19 : 19 ≤ i) (h64 : i < 64) : Calls Tryz.prog 28 #[.pointer (some ⟨d, 0, none⟩), .int .i64 (i : Int)] w fun e w' => ∃ x : Sec, RetRead w w' e x 0 ∧ (secN x).drop 8 = (c i).1 ∧ Wd.dec ((secN x).take 8) = (c i).2 := by
  obtain ⟨P, s, L, h1, h2, h3, h4, S, n, B, k1, _⟩ := h
  obtain ⟨F, hdk, _⟩ := k1.cd.disk (w' := w)
  have hc := h4 i h19 h64
  refine (Read_yes w hdk i (by rw [h1.ad.len]; exact h64)).mono ?_
  intro e w' hr
  refine ⟨_, hr, ?_, ?_⟩
  · rw [← hc]; rfl
  · rw [← hc]; rfl
end
end Go.Proofs.YtaemmknijmhnoaaGreat

