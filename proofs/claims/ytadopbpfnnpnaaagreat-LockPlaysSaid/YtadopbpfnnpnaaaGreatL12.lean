/-
  Texts on locks, put together: Lk40 Lk41 Lk21.
-/
import Derived.Deep.AppendLies
import Derived.Lib.AppendZeros
import Derived.Test.YtadopbpfnnpnaaaGreatL11
set_option linter.unusedVariables false
set_option linter.unusedSimpArgs false
/-
  The code's table of locks: slices.Insert at a line's front, where there is room.
-/
namespace Go.Proofs.YtadopbpfnnpnaaaGreat
open Go.RowKit Go.Maps

set_option maxRecDepth 100000 in
set_option maxHeartbeats 4000000 in
theorem insert_front {w : World} {ob : Option Nat} {v : Value} {ws : List (Nat × Int)} {pop : Bool} (h : LnAt w ob v ws pop) (hne : ws ≠ []) {b o : Nat} {m : Int} (hb : ws.length ≤ 1000000000)
    (hxb : Blk w b TWt #[.int .u64 (o : Int), .int .i64 m]) (hbo : ob ≠ some b) :
    Calls Tryz.prog 55 #[v, .int .i64 0, .slice (some ⟨b, 0, none⟩) 1 1] w (RetLn ob ((o, m) :: ws) pop w) := by
  rcases h with ⟨_, _, rfl⟩ | ⟨lb, off, cap, cs, rfl, rfl, r3, r4, r5, r6, r7, r8⟩
  · exact absurd rfl hne
  have hN0 : 0 < ws.length := List.length_pos_iff.2 hne
  obtain ⟨N, hN⟩ : ∃ N, N = ws.length := ⟨_, rfl⟩
  have hwl := wcells_len ws
  have hlb : b ≠ lb := fun e => hbo (by rw [e])
  have us := Tryz.underlying54
  have hsrc1 : ∀ (W : World), (∀ x, W.cell? x = w.cell? x) → ∀ j u, (wcells ws)[j]? = some u → W.cell? ((⟨lb, 2 * off, none⟩ : Addr).add j) = some u := fun W hW j u hj => by
    rw [add_lit', hW, r3.cell]
    exact r7 j u hj
  obtain ⟨news, hnw⟩ : ∃ news : List Value, news = [.int .u64 (o : Int), .int .i64 m] := ⟨_, rfl⟩
  have hnl : news.length = 2 := by rw [hnw]; rfl
  have hn1 : ∀ u, u ∈ news → u.oneCell' = true := fun u hu => by
    rw [hnw] at hu
    simp at hu
    rcases hu with rfl | rfl <;> rfl
  have hsrc2 : ∀ (W : World), Blk W b TWt #[.int .u64 (o : Int), .int .i64 m] → ∀ j u, news[j]? = some u → W.cell? ((⟨b, 0, none⟩ : Addr).add j) = some u := fun W hW j u hj => by
    rw [add_lit', Nat.zero_add, hW.cell]
    rw [hnw] at hj
    simpa using hj
  by_cases hroom : N + 1 ≤ cap
  · have q2 : ¬ ((cap : Int) < (N : Int) + 1) := by omega
    have hcl : cs.toList.length = cs.size := Array.length_toList
    obtain ⟨C1, hC1⟩ : ∃ C1, C1 = (over cs.toList (2 * off + 2) (wcells ws)).toArray := ⟨_, rfl⟩
    obtain ⟨C2, hC2⟩ : ∃ C2, C2 = (over C1.toList (2 * off) news).toArray := ⟨_, rfl⟩
    have hcp1 : ∀ ty dc sc, (Builtin.copy_ #[TWts, TWts] ty #[.slice (some ⟨lb, 2 * off + 2, none⟩) N dc, .slice (some ⟨lb, 2 * off, none⟩) (N + 1) sc]).run Tryz.prog w.drew = .ok (goInt N) (w.drew.setRow lb C1) := fun ty dc sc => by
      have := run_copy_rowS (P := Tryz.prog) w.drew TWts TWts ty TWt lb (2 * off + 2) N dc ⟨lb, 2 * off, none⟩ (N + 1) sc cs TWt (wcells ws) 2 us wt_size r3 (by rw [hwl, ← hN]; simp only [Nat.min_def]; split <;> omega) (hsrc1 _ (fun _ => rfl)) (by omega) (wcells_one ws)
      rw [this, hC1, show Nat.min (N + 1) N = N by simp only [Nat.min_def]; split <;> omega]
      rfl
    have hB1 : Blk (w.drew.setRow lb C1) lb TWt C1 := (show Blk w.drew lb TWt cs from r3).row C1
    have hX1 : Blk (w.drew.setRow lb C1) b TWt #[.int .u64 (o : Int), .int .i64 m] := (show Blk w.drew b TWt _ from hxb).stays (setRow_other w.drew lb b C1 hlb)
    have hC1s : C1.toList.length = cs.size := by rw [hC1]; simp only [List.toList_toArray]; rw [over_len (by omega), hcl]
    have hcp2 : ∀ ty dc, (Builtin.copy_ #[TWts, TWts] ty #[.slice (some ⟨lb, 2 * off, none⟩) (N + 1) dc, .slice (some ⟨b, 0, none⟩) 1 1]).run Tryz.prog (w.drew.setRow lb C1) = .ok (goInt 1) ((w.drew.setRow lb C1).setRow lb C2) := fun ty dc => by
      have := run_copy_rowS (P := Tryz.prog) (w.drew.setRow lb C1) TWts TWts ty TWt lb (2 * off) (N + 1) dc ⟨b, 0, none⟩ 1 1 C1 TWt news 2 us wt_size hB1 (by rw [hnl]; simp only [Nat.min_def]; split <;> omega) (hsrc2 _ hX1) (by rw [hnl, ← Array.length_toList, hC1s]; omega) hn1
      rw [this, hC2, show Nat.min 1 (N + 1) = 1 by simp only [Nat.min_def]; split <;> omega]
      rfl
    have hov : ∀ lc cc, (callFunc 65 #[.slice (some ⟨b, 0, none⟩) 1 1, .slice (some ⟨lb, 2 * off + 2, none⟩) lc cc]).run Tryz.prog w = .ok (.value (.bool false)) w := fun lc cc => by
      have hz : ∀ W : World, (Go.sizeOf TWt).run Tryz.prog W = .ok 2 W := fun W => by kernel_rfl
      have hsa : w.shape? b = some (TWt, 2) := by unfold Blk at hxb; simp [World.shape?, hxb]
      have hsb : w.shape? lb = some (TWt, cs.size) := by unfold Blk at r3; simp [World.shape?, r3]
      rw [run_callFunc_extern Tryz.func65 (by kernel_rfl) (by kernel_rfl) (by kernel_rfl) (e := Extern.SlicesOverlaps.overlaps #[TWts, TWts] #[4]) (by kernel_rfl),
        Lib.run_overlaps_apart w TWts 4 TWt us 2 hz ⟨b, 0, none⟩ ⟨lb, 2 * off + 2, none⟩ 1 1 lc cc hlb TWt TWt 2 cs.size hsa hsb (by omega) (hxb.frozen 0) (hxb.frozen 2)]
      rfl
    have HE : Hid (RetLn (some lb) ((o, m) :: ws) pop w (.returned (.slice (some ⟨lb, 2 * off, none⟩) (N + 1) cap)) ((w.drew.setRow lb C1).setRow lb C2)) := Lib.hid (by
      have hfc := front_cells (cs0 := cs.toList) (q := 2 * off) (ws := ws) (o := o) (m := m) (by omega)
      rw [← hnw] at hfc
      have e2 : C2.toList = over (over cs.toList (2 * off + 2) (wcells ws)) (2 * off) news := by rw [hC2, hC1]
      refine ⟨_, some lb, rfl, .inr ⟨lb, off, cap, C2, rfl, by rw [hN]; rfl, hB1.row C2, by simp; omega, r5, ?_, fun i u hi => ?_, fun hp => ⟨(r8 hp).1, ?_⟩⟩, ⟨rfl, rfl, rfl, by simp, fun k _ hk => ?_⟩, fun n hn => .inl hn⟩
      · rw [← Array.length_toList, e2, hfc.1, hcl]; exact r6
      · have := hfc.2 i u hi
        rw [← e2] at this
        simpa using this
      · rw [← Array.length_toList, e2, hfc.1, hcl]; exact (r8 hp).2
      · have hkl : k ≠ lb := fun e => hk (by rw [e])
        exact (setRow_other _ lb k C2 hkl).trans (setRow_other w.drew lb k C1 hkl))
    have w1 : IntKind.i64.wrap (0 + (1 : Int)) = 1 := rfl
    clear hsrc1 hsrc2 hB1 hX1 hC1s hC1 hC2 hnw hnl hn1 hcl r7 r8
    rw [← hN] at r4 hN0 hb ⊢
    clear hN hwl us hxb r3 r6 hbo hne
    have hov1 := hov
    have hz : ((0 : Int) == (N : Int)) = false := by rw [beq_eq_false_iff_ne]; omega
    have hNb : N ≤ 1000000000 := by omega
    go_enter Tryz.func55, Tryz.ntmps55
    go_upto_region 14 with fail
    clear hov1
    go_upto_region 15 with (simp only [hov])
    clear hov
    have w2 : IntKind.i64.wrap 1 = 1 := rfl
    have hb2 : ¬ (cap = 1) := by omega
    have hb4 : ¬ (cap = 0) := by omega
    have hb3 : (1 : Int) ≤ (N : Int) + 1 := by omega
    have hb5 : (0 : Int) ≤ (N : Int) + 1 := by omega
    go_region_law (refine step_copy_runS rfl _ _ TWts TWts rfl _ _ (by simp [Act.eval, Act.put]) (by simp [Act.eval, Act.put]) (hcp1 _ _ _) ?_)
    all_goals
      go_wp2_with (at_builtin; refine wpList_copy_runS _ rfl _ _ TWts TWts rfl _ _ rfl rfl (hcp2 _ _) ?_)
      go_ret
      exact HE.out
  · obtain ⟨i, hi, hzz, hsz, hbb⟩ := inf_parts wt_info
    have ui := Tryz.underlying3
    have hcap : N ≤ cap := by omega
    have hcl : cs.toList.length = cs.size := Array.length_toList
    obtain ⟨g, hg⟩ : ∃ g, g = w.heap.size := ⟨_, rfl⟩
    obtain ⟨G, hG⟩ : ∃ G, G = grownCap w (N + 1) cap TWt := ⟨_, rfl⟩
    have hG1 : N + 1 ≤ G := by rw [hG]; exact grownCap_ge w _ _ _
    have hG2 : G ≤ maxLen := by rw [hG]; exact grownCap_le_maxLen w (N + 1) cap TWt (by unfold maxLen; omega)
    obtain ⟨ROW, hROW⟩ : ∃ ROW : Array Value, ROW = ([] : List Value).toArray ++ Builtin.zeroCells (Value.agg #[.int .u64 0, .int .i64 0]).cells (N + 1) ++ Builtin.zeroCells (Value.agg #[.int .u64 0, .int .i64 0]).cells (G - (N + 1)) := ⟨_, rfl⟩
    have hRs : ROW.size = G * 2 := by
      have e : (Value.agg #[.int .u64 0, .int .i64 0]).cells.size = 2 := rfl
      rw [hROW]
      simp only [Array.size_append, List.size_toArray, size_zeroCells, e, List.length_nil]
      omega
    obtain ⟨W1, hW1⟩ : ∃ W1, W1 = w.drew.alloc (.cells ROW TWt) := ⟨_, rfl⟩
    have hrz : ∀ ty, (Builtin.append_ #[TWts, 3] ty #[.slice (some ⟨lb, 2 * off, none⟩) 0 cap, .int .i64 ((N : Int) + 1)]).run Tryz.prog w = .ok (.slice (some ⟨g, 0, none⟩) (N + 1) G) W1 := fun ty => by
      have h := Lib.run_append_grow_zeros (P := Tryz.prog) w TWts 3 ty TWt i (.agg #[.int .u64 0, .int .i64 0]) .i64 .i64 us ui hi hzz (some ⟨lb, 2 * off, none⟩) 0 cap [] (run_firstCells_some (P := Tryz.prog) w.drew i.size 0 ⟨lb, 2 * off, none⟩ 0 cap [] (by simp) (fun j v hj => by simp at hj)) (N + 1) (by omega) (by rw [hsz]; omega) (by omega) (by omega) (by rw [hbb]; omega) (by rw [hbb]; exact growslice_fits (by omega) (by omega))
      rw [Nat.zero_add, ← hG, ← hROW, ← hW1, ← hg] at h
      have e : ((N + 1 : Nat) : Int) = (N : Int) + 1 := by simp
      rw [← e]
      exact h
    have hR1 : Blk W1 g TWt ROW := by rw [hW1, hg]; exact heap_alloc_new w.drew _
    have hold : ∀ k, k < g → W1.heap[k]? = w.heap[k]? := fun k hk => by rw [hW1]; exact heap_alloc_old w.drew _ (by rw [hg] at hk; exact hk)
    have hX1 : Blk W1 b TWt #[.int .u64 (o : Int), .int .i64 m] := hxb.stays (hold b (by have := hxb.lt; omega))
    have hL1 : Blk W1 lb TWt cs := r3.stays (hold lb (by have := r3.lt; omega))
    have hgb : g ≠ lb := by have := r3.lt; omega
    obtain ⟨C1, hC1⟩ : ∃ C1, C1 = (over ROW.toList 0 news).toArray := ⟨_, rfl⟩
    obtain ⟨C2, hC2⟩ : ∃ C2, C2 = (over C1.toList 2 (wcells ws)).toArray := ⟨_, rfl⟩
    have hC1s : C1.toList.length = ROW.size := by rw [hC1]; simp only [List.toList_toArray]; rw [over_len (by rw [hnl, Array.length_toList]; omega), Array.length_toList]
    obtain ⟨W2, hW2⟩ : ∃ W2, W2 = W1.setRow g C1 := ⟨_, rfl⟩
    have hcp1 : ∀ ty dc, (Builtin.copy_ #[TWts, TWts] ty #[.slice (some ⟨g, 0, none⟩) (N + 1) dc, .slice (some ⟨b, 0, none⟩) 1 1]).run Tryz.prog W1 = .ok (goInt 1) W2 := fun ty dc => by
      have := run_copy_rowS (P := Tryz.prog) W1 TWts TWts ty TWt g 0 (N + 1) dc ⟨b, 0, none⟩ 1 1 ROW TWt news 2 us wt_size hR1 (by rw [hnl]; simp only [Nat.min_def]; split <;> omega) (hsrc2 _ hX1) (by rw [hnl]; omega) hn1
      rw [this, hW2, hC1, show Nat.min 1 (N + 1) = 1 by simp only [Nat.min_def]; split <;> omega]
      rfl
    have hR2 : Blk W2 g TWt C1 := by rw [hW2]; exact hR1.row C1
    have hL2 : Blk W2.drew lb TWt cs := (show Blk W2 lb TWt cs by rw [hW2]; exact hL1.stays (setRow_other W1 g lb C1 (fun e => hgb e.symm)))
    obtain ⟨W3, hW3⟩ : ∃ W3, W3 = W2.drew.setRow g C2 := ⟨_, rfl⟩
    have hcp2 : ∀ ty dc sc, (Builtin.copy_ #[TWts, TWts] ty #[.slice (some ⟨g, 2, none⟩) N dc, .slice (some ⟨lb, 2 * off, none⟩) N sc]).run Tryz.prog W2.drew = .ok (goInt N) W3 := fun ty dc sc => by
      have := run_copy_rowS (P := Tryz.prog) W2.drew TWts TWts ty TWt g 2 N dc ⟨lb, 2 * off, none⟩ N sc C1 TWt (wcells ws) 2 us wt_size (show Blk W2.drew g TWt C1 from hR2) (by rw [hwl, ← hN]; simp only [Nat.min_def]; split <;> omega) (fun j u hj => by rw [add_lit', hL2.cell]; exact r7 j u hj) (by rw [hwl, ← hN, ← Array.length_toList, hC1s]; omega) (wcells_one ws)
      rw [this, hW3, hC2, show Nat.min N N = N by simp only [Nat.min_def]; split <;> omega]
      rfl
    have HE : Hid (RetLn (some lb) ((o, m) :: ws) pop w (.returned (.slice (some ⟨g, 0, none⟩) (N + 1) G)) W3) := Lib.hid (by
      have hfc := front_cells2 (cs0 := ROW.toList) (ws := ws) (o := o) (m := m) (by have e : ROW.toList.length = ROW.size := Array.length_toList; omega)
      rw [← hnw] at hfc
      have e2 : C2.toList = over (over ROW.toList 0 news) 2 (wcells ws) := by rw [hC2, hC1]
      have e3 : C2.size = G * 2 := by rw [← Array.length_toList, e2, hfc.1, Array.length_toList, hRs]
      refine ⟨_, some g, rfl, .inr ⟨g, 0, G, C2, rfl, by rw [hN]; rfl, by rw [hW3]; exact (show Blk W2.drew g TWt C1 from hR2).row C2, by simp; omega, hG2, by omega, fun i u hi => ?_, fun hp => ⟨rfl, e3⟩⟩, ⟨?_, ?_, ?_, ?_, fun k hk _ => ?_⟩, fun n hn => .inr (by cases hn; omega)⟩
      · have := hfc.2 i u hi
        rw [← e2] at this
        simpa using this
      · rw [hW3, hW2, hW1]; rfl
      · rw [hW3, hW2, hW1]; rfl
      · rw [hW3, hW2, hW1]; rfl
      · rw [hW3, hW2, hW1]; simp
      · have hkg : k ≠ g := by omega
        rw [hW3]
        refine (setRow_other W2.drew g k C2 hkg).trans ?_
        show W2.heap[k]? = _
        rw [hW2]
        exact (setRow_other W1 g k C1 hkg).trans (hold k (by omega)))
    have q1 : (cap : Int) < (N : Int) + 1 := by omega
    have hz : ((0 : Int) == (N : Int)) = false := by rw [beq_eq_false_iff_ne]; omega
    have w2 : IntKind.i64.wrap 1 = 1 := rfl
    have hb2 : ¬ (G = 1) := by omega
    have hb4 : ¬ (G = 0) := by omega
    have hb6 : ¬ (cap = 0) := by omega
    have hb3 : (1 : Int) ≤ (N : Int) + 1 := by omega
    have hb5 : (0 : Int) ≤ (N : Int) + 1 := by omega
    have hb7 : (0 : Int) ≤ (N : Int) := by omega
    clear hsrc1 hsrc2 hC1s hC1 hC2 hnw hnl hn1 hcl r7 r8 hL1 hL2 hR1 hR2 hX1 hold hgb hROW hRs hW1 hW2 hW3 hG hsz hbb hzz hi
    rw [← hN] at r4 hN0 hb ⊢
    clear hN hwl us ui hxb r3 r6 hbo hne hlb hg
    go_enter Tryz.func55, Tryz.ntmps55
    go_upto_region 11 with (first
      | (at_builtin; refine Lib.wpList_append_run _ rfl _ _ _ _ rfl _ _ rfl rfl _ _ (hrz _) ?_)
      | (at_builtin; refine wpList_copy_runS _ rfl _ _ TWts TWts rfl _ _ rfl rfl (hcp1 _ _) ?_))
    go_region_law (refine step_copy_runS rfl _ _ TWts TWts rfl _ _ (by simp [Act.eval, Act.put]) (by simp [Act.eval, Act.put]) (hcp2 _ _ _) ?_)
    all_goals
      go_wp2_with fail
      go_ret
      exact HE.out
end Go.Proofs.YtadopbpfnnpnaaaGreat

/-
  The code's table of locks: slices.Insert at a line's front, or at its end.
-/
namespace Go.Proofs.YtadopbpfnnpnaaaGreat
open Go.RowKit Go.Maps

theorem insert_place {w : World} {ob : Option Nat} {v : Value} {ws : List (Nat × Int)} {pop : Bool} (h : LnAt w ob v ws pop) {N : Nat} (hN : N = ws.length) (Y : Bool) {b o : Nat} {m : Int} (hb : ws.length ≤ 1000000000)
    (hxb : Blk w b TWt #[.int .u64 (o : Int), .int .i64 m]) (hbo : ob ≠ some b) {Z : Nat} (hZ : Z = if Y = true then 0 else N) :
    Calls Tryz.prog 55 #[v, .int .i64 (Z : Int), .slice (some ⟨b, 0, none⟩) 1 1] w (RetLn ob (lineIn Y o m ws) pop w) := by
  have c0 := hxb.cell 0
  have c1 := hxb.cell 1
  simp at c0 c1
  unfold lineIn
  cases Y with
  | false =>
    rw [if_neg (by simp)] at hZ ⊢
    subst hZ
    exact insert_end h hN hb c0 c1
  | true =>
    rw [if_pos rfl] at hZ ⊢
    subst hZ
    by_cases hne : ws = []
    · subst hne
      exact insert_end h (N := 0) rfl hb c0 c1
    · exact insert_front h hne hb hxb hbo
end Go.Proofs.YtadopbpfnnpnaaaGreat

/-
  The code's table of locks: stand.
-/
namespace Go.Proofs.YtadopbpfnnpnaaaGreat
open Go.RowKit Go.Maps

def SlStand3 (_ : Nat) (b : Nat) (hp : Nat) (k1 : Int) (k2 : Int) (O1 : Int) (O2 : Int) (O3 : Int) (Y : Bool) (slot : Nat) (v : Value) (_ : World) : Prop :=
  match slot with
  | 25 | 26 => v = .pointer (some ⟨b, 0, none⟩)
  | 27 => v = .agg #[.map (some hp), .int .i64 O1, .int .i64 O2, .int .i64 O3]
  | 28 => v = .agg #[.int .i64 k1, .int .i64 k2]
  | 29 => v = .bool Y
  | _ => True


def RetStand (t km om : Nat) (B : Tag → Option Nat) (T' : Tb) (w : World) (e : Ending) (w' : World) : Prop :=
  ∃ B', e = .returned (.tuple #[]) ∧ TbAt w' t km om B' T' ∧ Tn w w' B B'
theorem LnAt.form {w : World} {ob : Option Nat} {v : Value} {ws : List (Nat × Int)} {pop : Bool} (h : LnAt w ob v ws pop) : ∃ p n c, v = .slice p n c := by
  rcases h with ⟨_, r, _⟩ | ⟨lb, off, cap, cs, _, r, _⟩
  · exact ⟨_, _, _, r⟩
  · exact ⟨_, _, _, r⟩
section
variable {w : World} {t km om : Nat} {B : Tag → Option Nat} {T : Tb}
set_option maxRecDepth 100000 in
set_option maxHeartbeats 4000000 in
theorem stand_any (h : TbAt w t km om B T) {o : Nat} (ho : KO.dom o) {k : Key} (hk : KL.dom k) (m : Int) (hlk : (T.lk k).isSome = true) (hoo : T.oo.length < maxLen)
    (hln : (T.lkOf k).line.length ≤ 1000000000) (hmn : -1000000000 ≤ T.many ∧ T.many ≤ 1000000000) :
    Calls Tryz.prog 39 #[.pointer (some ⟨t, 0, none⟩), .int .u64 (o : Int), kv k, .int .i64 m] w (RetStand t km om B (T.stand o k m) w) := by
  obtain ⟨l, hl⟩ := Option.isSome_iff_exists.1 hlk
  have hlo : T.lkOf k = l := lkOf_of hl
  rw [hlo] at hln
  have g1 : Gr w (w.alloc (.cells #[.int .i64 k.1, .int .i64 k.2] TKey)) := (Gr.refl w).alloc (Nat.le_refl _) _
  have h1 := h.gr g1
  have b6 := (Blk.new w TKey #[.int .i64 k.1, .int .i64 k.2])
  obtain ⟨bl, hm0, v0, e1, e2, e3, e4, e5⟩ := h1.lk k l hl
  obtain ⟨k1, hk1⟩ : ∃ x, x = k.1 := ⟨_, rfl⟩
  obtain ⟨k2, hk2⟩ : ∃ x, x = k.2 := ⟨_, rfl⟩
  show Calls Tryz.prog 39 #[.pointer (some ⟨t, 0, none⟩), .int .u64 (o : Int), .agg #[.int .i64 k.1, .int .i64 k.2], .int .i64 m] w _
  rw [← hk1, ← hk2] at g1 h1 b6 e3 e4 e5 ⊢
  obtain ⟨W0, hW0⟩ : ∃ W0, W0 = w.alloc (.cells #[.int .i64 k1, .int .i64 k2] TKey) := ⟨_, rfl⟩
  rw [← hW0] at g1 h1 b6 e3 e4 e5
  have hkb : ¬ FB B w.heap.size := fun ⟨a, ha⟩ => by have := h.lt a _ ha; omega
  have c0 := h1.c3.1
  have hkv : kv k = .agg #[.int .i64 k1, .int .i64 k2] := by rw [hk1, hk2]; rfl
  have hl6 := (h1.stays (w' := W0.drewN 1) (fun _ _ _ => rfl)).look hk
  rw [hkv, e1] at hl6
  have hl' : (Instr.lookup TMk (.map (some km)) (.agg #[.int .i64 k1, .int .i64 k2]) false).run Tryz.prog W0.drew = .ok (.pointer (some ⟨bl, 0, none⟩)) W0.drew := hl6
  have HM1 : Hid (Calls Tryz.prog 52 #[.pointer (some ⟨t, 0, none⟩), .int .u64 (o : Int)] W0.drew (RetMade t km om B T o W0.drew)) := Lib.hid (made_any (h1.stays (w' := W0.drew) (fun _ _ _ => rfl)) ho hoo)
  obtain ⟨kb, hkbe⟩ : ∃ kb, kb = w.heap.size := ⟨_, rfl⟩
  rw [← hkbe] at b6 hkb
  have HB := Lib.hid b6
  have HN := Lib.hid hkb
  have HK := Lib.hid hkv
  have HW0 := Lib.hid (And.intro hW0 hkbe)
  have x0 := b6.cell 0
  have x1 := b6.cell 1
  simp at x0 x1
  have HH := Lib.hid (And.intro True.intro (And.intro hln (And.intro hmn (And.intro hl (And.intro hlo (And.intro g1 (And.intro e1 h.bt)))))))
  clear h h1 b6 g1 hkb hl6 hkv hW0 hkbe hk1 hk2 e1 e2 e3 e4 e5 hl hlo hln hmn hlk hoo
  go_enter Tryz.func39, Tryz.ntmps39
  go_upto_region 1 with fail
  rw [show (w.alloc (.cells #[.int .i64 k1, .int .i64 k2] 33)) = W0 from HW0.out.1.symm, ← HW0.out.2]
  go_cut [8, 9] (fun s8 s9 wc => Hid (∃ b B', s8 = .pointer (some ⟨bl, 0, none⟩) ∧ s9 = .pointer (some ⟨b, 0, none⟩) ∧ B' (.py o) = some b ∧ B' (.lk k) = some bl ∧ TbAt wc t km om B' (T.made o) ∧ Tn W0 wc B B'))
  case first =>
    go_region_with (go_at_call 52; refine HM1.out.mono ?_; rintro e w2 ⟨b, B', rfl, q1, q2, q3, q4⟩; have hl2 := q2.look hk; rw [(q4 k).1, HH.out.2.2.2.2.2.2.1, HK.out] at hl2; have d0 := q2.c3.1; have y0 := (q3.blk (HB.out.drew) HN.out).cell 0; have y1 := (q3.blk (HB.out.drew) HN.out).cell 1; simp at y0 y1; have Q := Lib.hid (And.intro q1 (And.intro q2 (And.intro q3 (q4 k).1))); clear q1 q2 q3 q4)
    all_goals
      go_wp2_with fail
      go_meet
      exact Lib.hid ⟨_, _, rfl, rfl, Q.out.1, Q.out.2.2.2.trans HH.out.2.2.2.2.2.2.1, Q.out.2.1, (Tn.of_gr (Gr.refl W0).drew).trans Q.out.2.2.1⟩
  case rest =>
    obtain ⟨b, B1, e8, e9, q1, q2, q3, q4⟩ := hcut.out
    subst e8 e9
    clear hcut x0 x1 c0 hl' HM1
    obtain ⟨-, hln, hmn, hl, hlo, g1, eb, hbt⟩ := HH.out
    have hl1 : (T.made o).lk k = some l := by rw [made_lk]; exact hl
    obtain ⟨bl', hm, v, s1, s2, s3, s4, s5⟩ := q3.lk k l hl1
    rw [q2] at s1
    cases s1
    obtain ⟨P, hP⟩ : ∃ P, P = T.of o := ⟨_, rfl⟩
    have ho1 : (T.made o).py o = some P := by rw [made_py, hP]
    obtain ⟨b', hp, f1, f2, f3, f4⟩ := q3.py o P ho1
    rw [q1] at f1
    cases f1
    obtain ⟨N, hN⟩ : ∃ N, N = l.line.length := ⟨_, rfl⟩
    obtain ⟨p, cp, hv⟩ : ∃ p cp, v = .slice p N cp := by
      rcases s5 with ⟨_, r2, r3⟩ | ⟨lb, off, cap, cs, _, r2, _⟩
      · exact ⟨none, 0, by rw [r2, hN, r3]; rfl⟩
      · exact ⟨_, cap, by rw [r2, hN]⟩
    subst hv
    have HA := Lib.hid (fun V (g : Gr wc V) => has_any V (a := .int .i64 P.key.1) (b := .int .i64 P.key.2) (m := .int .i64 P.mode) rfl rfl rfl (.inr ⟨hp, rfl, f4.stays (g.block _ f4.lt)⟩) hk)
    rw [HK.out] at HA
    have HPb := Lib.hid (fun V (g : Gr wc V) => f3.gr g)
    obtain ⟨Y, hY⟩ : ∃ Y, Y = decide (k ∈ P.ks) := ⟨_, rfl⟩
    obtain ⟨O1, hO1⟩ : ∃ O1, O1 = P.key.1 := ⟨_, rfl⟩
    obtain ⟨O2, hO2⟩ : ∃ O2, O2 = P.key.2 := ⟨_, rfl⟩
    obtain ⟨O3, hO3⟩ : ∃ O3, O3 = P.mode := ⟨_, rfl⟩
    rw [← hO1, ← hO2, ← hO3] at HA HPb
    rw [← hY] at HA
    have HKB := Lib.hid (q4.blk HB.out HN.out)
    obtain ⟨Z, hZ⟩ : ∃ Z : Nat, Z = if Y = true then 0 else N := ⟨_, rfl⟩
    have z2 := s3.cell 2
    simp at z2
    have HQ := Lib.hid (And.intro q1 (And.intro q2 (And.intro q3 (And.intro q4 (And.intro hl1 (And.intro s3 (And.intro s5 (And.intro ho1 (And.intro hP (And.intro hN hY))))))))))
    clear hln hmn hl hlo g1 eb hbt hl1 s2 s3 s4 s5 hP ho1 f2 f3 f4 hN hY hO1 hO2 hO3 q1 q2 q3 q4
    go_upto_region 3 with fail
    refine Flow.region (SlStand3 kb b hp k1 k2 O1 O2 O3 Y) (Gr wc) (fun _ _ => True) (by kernel_rfl) (by kernel_rfl) (fun _ _ _ _ h _ => h) ⟨rfl, rfl, rfl, Nat.le_refl _, fun _ _ => rfl⟩ ?steps ?fin
    case steps =>
      refine Flow.Steps.cons (fun a W hfr hinv hdep K hK => ?_) ?_
      · have s9 : a.tmps.getD 9 undef = .pointer (some ⟨b, 0, none⟩) := hfr.at 9 (by kernel_rfl)
        have t9 : a.tmps[9]?.getD undef = .pointer (some ⟨b, 0, none⟩) := by simpa using s9
        rw [if_pos (Flow.wanted_none rfl)]
        clear hfr hdep
        go_simp
        exact hK _ _ True.intro hinv (fun d hd => by cases hd; trivial)
      refine Flow.Steps.cons (fun a W hfr hinv hdep K hK => ?_) ?_
      · have s25 : a.tmps.getD 25 undef = .pointer (some ⟨b, 0, none⟩) := hdep 25 (by kernel_rfl)
        have t25 : a.tmps[25]?.getD undef = .pointer (some ⟨b, 0, none⟩) := by simpa using s25
        rw [if_pos (Flow.wanted_none rfl)]
        clear hfr hdep
        go_simp
        exact hK _ _ True.intro hinv (fun d hd => by cases hd; trivial)
      refine Flow.Steps.cons (fun a W hfr hinv hdep K hK => ?_) ?_
      · have s26 : a.tmps.getD 26 undef = .pointer (some ⟨b, 0, none⟩) := hdep 26 (by kernel_rfl)
        have t26 : a.tmps[26]?.getD undef = .pointer (some ⟨b, 0, none⟩) := by simpa using s26
        have kc := (HKB.out.gr hinv).cell 0; have kd := (HKB.out.gr hinv).cell 1; have pa := (HPb.out W hinv).cell 0; have pb := (HPb.out W hinv).cell 1; have pc := (HPb.out W hinv).cell 2; have pd := (HPb.out W hinv).cell 3; simp at kc kd pa pb pc pd
        rw [if_pos (Flow.wanted_none rfl)]
        clear hfr hdep
        go_simp
        exact hK _ _ True.intro hinv (fun d hd => by cases hd; trivial)
      refine Flow.Steps.cons (fun a W hfr hinv hdep K hK => ?_) ?_
      · have s6 : a.tmps.getD 6 undef = .pointer (some ⟨kb, 0, none⟩) := hfr.at 6 (by kernel_rfl)
        have t6 : a.tmps[6]?.getD undef = .pointer (some ⟨kb, 0, none⟩) := by simpa using s6
        have kc := (HKB.out.gr hinv).cell 0; have kd := (HKB.out.gr hinv).cell 1; have pa := (HPb.out W hinv).cell 0; have pb := (HPb.out W hinv).cell 1; have pc := (HPb.out W hinv).cell 2; have pd := (HPb.out W hinv).cell 3; simp at kc kd pa pb pc pd
        rw [if_pos (Flow.wanted_none rfl)]
        clear hfr hdep
        go_simp
        exact hK _ _ True.intro hinv (fun d hd => by cases hd; trivial)
      refine Flow.Steps.cons (fun a W hfr hinv hdep K hK => ?_) ?_
      · have s27 : a.tmps.getD 27 undef = .agg #[.map (some hp), .int .i64 O1, .int .i64 O2, .int .i64 O3] := hdep 27 (by kernel_rfl)
        have t27 : a.tmps[27]?.getD undef = .agg #[.map (some hp), .int .i64 O1, .int .i64 O2, .int .i64 O3] := by simpa using s27
        have s28 : a.tmps.getD 28 undef = .agg #[.int .i64 k1, .int .i64 k2] := hdep 28 (by kernel_rfl)
        have t28 : a.tmps[28]?.getD undef = .agg #[.int .i64 k1, .int .i64 k2] := by simpa using s28
        rw [if_pos (Flow.wanted_none rfl)]
        clear hfr hdep
        go_simp
        refine (HA.out W hinv).mono ?_
        rintro e W' ⟨rfl, g1⟩
        exact hK _ _ True.intro (Gr.trans hinv g1) (fun d hd => by cases hd; trivial)
      exact True.intro
    case fin =>
      intro a W hfr hfin hsl
      have s29 : a.tmps.getD 29 undef = .bool Y := hsl 4 _ 29 rfl rfl
      have t29 : a.tmps[29]?.getD undef = .bool Y := by simpa using s29
      have e := Flow.frame hfr [25, 26, 27, 28, 29] (List.range 58) (by kernel_rfl) (by kernel_rfl)
      simp [List.range, List.range.loop] at e
      rw [t29] at e
      rw [e]
      clear e hfr hsl s29 t29
      rename_i K2 hK2
      refine hK2 _ _ ?_
      have HG3 := Lib.hid hfin
      clear hfin
      go_cut [10] (fun s10 wx => s10 = .int .i64 (Z : Int) ∧ Hid (Gr wc wx))
      case first =>
        cases Y with
        | true =>
          rw [if_pos rfl] at hZ
          subst hZ
          go_wp2_with fail
          go_meet
          exact ⟨rfl, HG3⟩
        | false =>
          rw [if_neg (by simp)] at hZ
          subst hZ
          go_wp2_with fail
          go_meet
          exact ⟨rfl, HG3⟩
      case rest =>
        obtain ⟨rfl, HG4⟩ := hcut
        obtain ⟨q1, q2, q3, q4, hl1, s3, s5, ho1, hP, hN, hY⟩ := HQ.out
        obtain ⟨-, hln, hmn, hl, hlo, g1, eb, hbt⟩ := HH.out
        have g4 := HG4.out
        obtain ⟨W8, hW8⟩ : ∃ W8, W8 = wc.alloc (.cells #[.int .u64 (o : Int), .int .i64 m] TWt) := ⟨_, rfl⟩
        have g8 : Gr wc W8 := by rw [hW8]; exact (Gr.refl wc).alloc (Nat.le_refl _) _
        have wb8 : Blk W8 wc.heap.size TWt #[.int .u64 (o : Int), .int .i64 m] := by rw [hW8]; exact Blk.new wc TWt #[.int .u64 (o : Int), .int .i64 m]
        have ln8 : LnAt W8 (B1 (.ln k)) (.slice p N cp) l.line l.pop := s5.stays fun n hn => (Gr.trans g4 g8).block n (s5.lt n hn)
        have z2x := (s3.gr g4).cell 2
        simp at z2x
        have HIn := Lib.hid (insert_place ln8 hN Y hln wb8 (fun e => by have := q3.lt _ _ e; have := g4.size; omega) hZ)
        have HG8 := Lib.hid (And.intro g8 hW8)
        clear hln hmn hl hlo g1 eb hbt hl1 s3 s5 hP ho1 hN hY q1 q2 q3 q4 g4 hW8 g8 wb8 ln8 z2 hZ
        go_upto_region 5 with fail
        go_wp2_with (rw [show (wc.alloc (.cells #[.int .u64 (o : Int), .int .i64 m] 61)) = W8 from HG8.out.2.symm])
        refine HIn.out.mono ?_
        rintro e W9 ⟨v', ob', rfl, r1, r2, r3⟩
        obtain ⟨p2, n2, cp2, rfl⟩ := r1.form
        obtain ⟨q1, q2, q3, q4, hl1, s3, s5, ho1, hP, hN, hY⟩ := HQ.out
        have g48 := Gr.trans HG4.out HG8.out.1
        have hkF := q4.far HB.out.lt HN.out
        obtain ⟨tA, nA⟩ := q3.growLine hl1 q2 g48 r2 r1 r3
        have hlnb : B1 (.ln k) ≠ some bl := fun e => q3.ne e q2 (by simp) rfl
        have s9 := (s3.gr g48).stays (r2.block bl (s3.gr g48).lt (fun e => hlnb e.symm))
        have y2 := s9.cell 2
        have yf := s9.frozen 2
        simp at y2
        have kb10 := nA.blk HKB.out hkF
        obtain ⟨W10, hW10⟩ : ∃ W10, W10 = W9.setCell ⟨bl, 2, none⟩ (.slice p2 n2 cp2) := ⟨_, rfl⟩
        rw [← hW10] at tA nA kb10
        have HT := Lib.hid (And.intro tA (And.intro nA (And.intro kb10 (And.intro (nA.far HKB.out.lt hkF) hW10))))
        clear q1 q2 q3 q4 hl1 s3 s5 ho1 hP hN hY g48 hkF tA nA hlnb s9 kb10 hW10 r1 r2 r3
        go_upto_region 6 with fail
        rw [← HT.out.2.2.2.2]
        obtain ⟨q1, q2, q3, q4, hl1, s3, s5, ho1, hP, hN, hY⟩ := HQ.out
        obtain ⟨tA, nA, kb10, hkF, -⟩ := HT.out
        have e1 : updF B1 (.ln k) ob' (.py o) = some b := by rw [updF_other _ _ (by simp)]; exact q1
        obtain ⟨b', hp', f1, f2, f3, f4⟩ := tA.py o P ho1
        rw [e1] at f1
        cases f1
        have pz1 := f3.cell 1
        have pz2 := f3.cell 2
        have pz3 := f3.cell 3
        have pf1 := f3.frozen 1
        have pf2 := f3.frozen 2
        have pf3 := f3.frozen 3
        have y0 := kb10.cell 0
        have y1 := kb10.cell 1
        simp at pz1 pz2 pz3 y0 y1
        have hkv := HK.out
        have hk12 : k.1 = k1 ∧ k.2 = k2 := by
          have : #[Value.int .i64 k.1, .int .i64 k.2] = #[Value.int .i64 k1, .int .i64 k2] := by
            unfold kv at hkv
            injection hkv
          simpa using this
        obtain ⟨tB, nB⟩ := tA.setParty (o := o) (p := P) ho1 e1 k m
        rw [hk12.1, hk12.2] at tB nB
        have HTB := Lib.hid (And.intro tB (And.intro (nA.trans nB) (And.intro hk12.1 hk12.2)))
        clear q1 q2 q3 q4 hl1 s3 s5 ho1 hP hN hY tA nA kb10 hkF e1 f2 f3 f4 hkv hk12 tB nB y2 yf z2x
        go_upto_region 7 with fail
        obtain ⟨W11, hW11⟩ : ∃ W11, W11 = ((W10.setCell ⟨b, 1, none⟩ (.int .i64 k1)).setCell ⟨b, 2, none⟩ (.int .i64 k2)).setCell ⟨b, 3, none⟩ (.int .i64 m) := ⟨_, rfl⟩
        rw [← hW11]
        have HTC := HTB.out
        rw [← hW11] at HTC
        obtain ⟨tB, nB, hk1, hk2⟩ := HTC
        obtain ⟨M, hM⟩ : ∃ M, M = T.many := ⟨_, rfl⟩
        have hmany : (T.made o).many = M := by
          rw [hM]
          unfold Tb.made
          cases T.py o <;> rfl
        have c2 : W11.cell? ⟨t, 2, none⟩ = some (.int .i64 M) := by rw [← hmany]; exact tB.c3.2.2
        have cf := tB.blk.frozen 2
        obtain ⟨tC, nC⟩ := tB.setMany (M + 1)
        obtain ⟨-, hln, ⟨hm1, hm2⟩, hl, hlo, g1, eb, hbt⟩ := HH.out
        rw [← hM] at hm1 hm2
        have hT : T.stand o k m = { T.made o with many := M + 1, lk := updF (T.made o).lk k (some { l with line := lineIn Y o m l.line }), py := updF (T.made o).py o (some { P with key := k, mode := m }) } := by
          unfold Tb.stand
          rw [hlo, made_lk, ← HQ.out.2.2.2.2.2.2.2.2.1, ← HQ.out.2.2.2.2.2.2.2.2.2.2, hM]
        have HE : Hid (RetStand t km om B (T.stand o k m) w (.returned (.tuple #[])) (W11.setCell ⟨t, 2, none⟩ (.int .i64 (M + 1)))) := Lib.hid ⟨_, rfl, by rw [hT]; exact tC, (((Tn.of_gr g1).trans HQ.out.2.2.2.1).trans nB).trans nC⟩
        clear hW11 hk1 hk2 hM hmany tB nB tC nC hln hl hlo g1 eb hbt hT pz1 pz2 pz3 pf1 pf2 pf3 y0 y1
        go_wp2_with fail
        go_end0
        exact HE.out
end
end Go.Proofs.YtadopbpfnnpnaaaGreat

