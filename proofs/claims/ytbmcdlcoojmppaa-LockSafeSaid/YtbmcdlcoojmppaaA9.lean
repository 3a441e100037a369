/-
  Texts on locks, put together: Lk13 Lk14 Lk15.
-/
import Derived.Laws.StructEq
import Derived.IntWalk
import Derived.Test.YtbmcdlcoojmppaaA8
/-
  The keys that a party holds, rising.
-/
namespace Go.Proofs.Ytbmcdlcoojmppaa
open Go.RowKit Go.Maps Go.Shelf Go.Sort Go.Lib

theorem sortK_congr {ss ks : List Key} (h : ss.Perm ks) : sortK ss = sortK ks := by
  have tr : ∀ a b c : Key, (!(ltOf cmpK) b a) = true → (!(ltOf cmpK) c b) = true → (!(ltOf cmpK) c a) = true := fun a b c h1 h2 => by
    simp only [ltK, Bool.not_eq_true', decide_eq_false_iff_not] at *
    omega
  have tt : ∀ a b : Key, ((!(ltOf cmpK) b a) || (!(ltOf cmpK) a b)) = true := fun a b => by
    simp only [ltK, Bool.or_eq_true, Bool.not_eq_true', decide_eq_false_iff_not]
    omega
  refine List.Perm.eq_of_pairwise (le := fun a b => (!(ltOf cmpK) b a) = true) (fun a b _ _ h1 h2 => ?_) (List.pairwise_mergeSort tr tt ss) (List.pairwise_mergeSort tr tt ks) (((List.mergeSort_perm ss _).trans h).trans (List.mergeSort_perm ks _).symm)
  exact totK a b (by simpa using h2) (by simpa using h1)
theorem Kr.base {W : World} {b b' : Nat} {v : Value} {ks : List Key} (h : Kr W b v ks) (hb : b' ≤ b) : Kr W b' v ks := by
  refine ⟨h.1, ?_⟩
  rcases h.2 with hn | ⟨g, cap, cur, hv, hbg, rest⟩
  · exact .inl hn
  · exact .inr ⟨g, cap, cur, hv, Nat.le_trans hb hbg, rest⟩
set_option maxRecDepth 100000 in
set_option maxHeartbeats 1000000 in
theorem sortedFunc_in (n : Nat) (hn : 4 ≤ n) (g : Nat) (lb : Array Value) (eg : ∀ args w, (callFunc g args).run Try.prog w = .ok (.enter g args) w)
    (ks : List Key) (N : Nat) (hN : N ≤ 1000000000) (hk : ks.length ≤ 1000000000) (w : World) (hseq : SeqGives Fence.wide (n - 1 - 1 - 1) Try.prog g lb kv (fun ss => ss.Perm ks) N w) :
    CallsIn Fence.wide n Try.prog 52 #[.func (.func g) #[] lb, .func (.func 40) #[] #[]] w fun e w' => ∃ v : Value, e = .returned v ∧ Kr w' w.heap.size v (sortK ks) ∧ Gr w w' := by
  have h1 : 1 ≤ n := by omega
  refine callsIn_of_wp Try.func52 rfl trivial ?_ rfl
  simp only [Try.ntmps52, List.size_toArray, List.length_cons, List.length_nil, Nat.reduceAdd, Nat.reduceSub, Array.replicate_succ, Array.replicate_zero, List.push_toArray, List.append_toArray, List.nil_append, List.cons_append]
  have hf1 : Fence.wide.fn 72 := trivial
  have hf2 : Fence.wide.fn 39 := trivial
  gi_wp2_with (gi_at_call 72; refine (collect_in Fence.wide (n - 1) trivial trivial rfl (by omega) g lb trivial eg _ N hN _ hseq).mono ?_; rintro e W ⟨v, ss, rfl, hS, hrow, hnil, hb⟩)
  have hss : ss.length = ks.length := hS.length_eq
  have hsk := sortK_congr hS
  rcases hrow.2 with ⟨rfl, hz⟩ | ⟨gb, cap, cur, rfl, hbase, hgb, r1, r2, r3, r4⟩
  · have he : ss = [] := List.eq_nil_of_length_eq_zero hz
    have hks : sortK ks = [] := by rw [← hsk, he]; simp [sortK]
    have HK := Lib.hid (And.intro hks hb)
    have HC := Lib.hid (fun W => show CallsIn Fence.wide (n - 1) _ _ _ _ _ from callsIn_wide.2 (sortFunc_none none 0 (.func (.func 40) #[] #[]) W))
    clear hss hsk hks hrow hnil he hz hS hb hseq
    gi_wp2_with (gi_at_call 39; refine (HC.out _).mono ?_; rintro e w' ⟨rfl, rfl⟩)
    go_ret
    exact ⟨_, rfl, by rw [HK.out.1]; exact World.ownsRow_nil _ _ _ _, HK.out.2⟩
  · have HC := Lib.hid (show CallsIn Fence.wide (n - 1) _ _ _ _ _ from callsIn_wide.2 (sortFunc_any (w := W) (base := w.heap.size) (g := gb) (cap := cap) (ss := ss) hrow (by omega)))
    obtain ⟨L, hL⟩ : ∃ L, L = ss.length := ⟨_, rfl⟩
    rw [← hL] at HC
    rw [← hL]
    have HK := Lib.hid (And.intro hsk (And.intro hb hbase))
    clear hss hsk hrow hnil hS hb hseq r1 r2 r3 r4 hgb hbase hL
    gi_wp2_with (gi_at_call 39; refine HC.out.mono ?_; rintro e w' ⟨rfl, hr, hg⟩; have HR := Lib.hid (And.intro hr hg); clear hr hg)
    go_ret
    exact ⟨_, rfl, by rw [← HK.out.1]; exact HR.out.1, HK.out.2.1.grown HR.out.2 HK.out.2.1.size (fun j hj => by cases hj; exact HK.out.2.2)⟩
set_option maxRecDepth 100000 in
set_option maxHeartbeats 1000000 in
theorem sorted_any (w : World) {hp : Option Nat} {ks : List Key} (O1 O2 O3 : Int) (H : HsAt w hp ks) (hk : ks.length ≤ 1000000000) :
    Calls Try.prog 35 #[.agg #[.map hp, .int .i64 O1, .int .i64 O2, .int .i64 O3]] w fun e w' => ∃ v : Value, e = .returned v ∧ Kr w' w.heap.size v (sortK ks) ∧ Gr w w' := by
  have g1 : Gr w (w.alloc (.cells #[.map hp, .int .i64 O1, .int .i64 O2, .int .i64 O3] TPy)) := (Gr.refl w).alloc (Nat.le_refl _) _
  obtain ⟨W, hW⟩ : ∃ W, W = w.alloc (.cells #[.map hp, .int .i64 O1, .int .i64 O2, .int .i64 O3] TPy) := ⟨_, rfl⟩
  rw [← hW] at g1
  have hsz : W.heap.size = w.heap.size + 1 := by rw [hW]; simp
  have eg := enters_of Try.func73 (by kernel_rfl) rfl
  have g2 : Gr W (W.alloc (.cells #[.map hp] TMs)) := (Gr.refl W).alloc (Nat.le_refl _) _
  have hseq : ∃ N, N ≤ 1000000000 ∧ SeqGives Fence.wide (4 - 1 - 1 - 1) Try.prog 73 #[.pointer (some ⟨W.heap.size, 0, none⟩)] kv (fun ss => ss.Perm ks) N (W.alloc (.cells #[.map hp] TMs)) := by
    rcases H with ⟨rfl, rfl⟩ | ⟨m, rfl, hm⟩
    · exact ⟨0, by omega, keys_gives_nil Fence.wide _ trivial rfl W.heap.size _ (by simp) (by simp)⟩
    · exact ⟨ks.length, hk, keys_gives Fence.wide _ trivial rfl (by omega) W.heap.size m (unitF ks) ks _ (by simp) (by simp) ((hm.stays (g1.block m hm.lt)).stays (g2.block m (by have := hm.lt; omega)))⟩
  obtain ⟨N, hN, hseq⟩ := hseq
  rw [hsz] at hseq
  have hk0 := callsIn_wide.1 (keys_in Fence.wide 1 trivial rfl hp W)
  rw [hsz] at hk0
  have HC := Lib.hid (callsIn_wide.1 (sortedFunc_in 4 (Nat.le_refl _) _ _ eg ks N hN hk _ hseq))
  have HK := Lib.hid hk0
  have HG := Lib.hid (And.intro g1 (And.intro g2 hsz))
  rw [hW] at HC HK
  clear hseq eg g1 g2 H hsz hk hN hk0
  have HW := Lib.hid hW
  clear hW
  go_enter Try.func35, Try.ntmps35
  go_wp2_with fail
  refine HK.out.mono ?_
  rintro e w1 ⟨rfl, rfl⟩
  go_wp2_with fail
  refine HC.out.mono ?_
  rintro e w2 ⟨v, rfl, hr, g3⟩
  have HR := Lib.hid (And.intro hr g3)
  clear hr g3
  go_wp2_with fail
  go_ret
  have hG := HG.out
  rw [HW.out] at hG
  exact ⟨v, rfl, HR.out.1.base (by simp; omega), Gr.trans hG.1 (Gr.trans hG.2.1 HR.out.2)⟩
end Go.Proofs.Ytbmcdlcoojmppaa

/-
  slices.Compact at keys that differ.
-/
namespace Go.Proofs.Ytbmcdlcoojmppaa
open Go.RowKit Go.Maps Go.Shelf Go.Sort Go.Lib

theorem eqi_key (a b : Key) (w : World) : (Op.equalIn 10000 TKey (kv a) (kv b)).run Try.prog w = .ok (decide (a = b)) w := by
  have u3 := Try.underlying3
  have a3 := Try.isAgg3
  have z3 := Try.sizeOf3
  have hS : Try.prog.underlying TKey = some (.struct (Try.prog.fieldsOf TKey)) := by kernel_rfl
  have hp : Try.prog.stoodInHeld TKey = false := by kernel_rfl
  unfold kv
  rw [show (10000 : Nat) = 9999 + 1 from rfl, run_equalIn_agg w 9999 TKey _ _ hS hp]
  simp only [Program.fieldsOf, Try.underlying29]
  obtain ⟨a1, a2⟩ := a
  obtain ⟨b1, b2⟩ := b
  have e : decide (((a1, a2) : Key) = (b1, b2)) = (a1 == b1 && a2 == b2) := by
    by_cases h1 : a1 = b1
    · by_cases h2 : a2 = b2
      · subst h1 h2; simp
      · subst h1; simp [h2]
    · simp [h1]
  rw [e]
  go_simp
  by_cases h1 : a1 = b1
  · by_cases h2 : a2 = b2
    · simp [h1, h2]
    · simp [h1, h2]
  · simp [h1]
/-- Two that stand beside one another differ. -/
def Beside (ks : List Key) : Prop := ∀ j, j + 1 < ks.length → ks.getD j (0, 0) ≠ ks.getD (j + 1) (0, 0)
theorem Kr.at {w : World} {base g cap : Nat} {ks : List Key} (h : Kr w base (.slice (some ⟨g, 0, none⟩) ks.length cap) ks) (j : Nat) (hj : j < ks.length) :
    w.cell? ⟨g, j * 2, none⟩ = some (.int .i64 (ks.getD j (0, 0)).1) ∧ w.cell? ⟨g, j * 2 + 1, none⟩ = some (.int .i64 (ks.getD j (0, 0)).2) := by
  have h0 := World.ownsRow.cellAt h (j * 2) (by omega)
  have h1 := World.ownsRow.cellAt h (j * 2 + 1) (by omega)
  have f0 := flat_get ks (j * 2) (by omega)
  have f1 := flat_get ks (j * 2 + 1) (by omega)
  rw [show j * 2 / 2 = j by omega, show j * 2 % 2 = 0 by omega] at f0
  rw [show (j * 2 + 1) / 2 = j by omega, show (j * 2 + 1) % 2 = 1 by omega] at f1
  rw [h0, h1, f0, f1]
  exact ⟨rfl, rfl⟩
set_option maxRecDepth 100000 in
set_option maxHeartbeats 2000000 in
theorem compact_any {w : World} {base : Nat} {v : Value} {ks : List Key} (h : Kr w base v ks) (hb : Beside ks) (hn : ks.length ≤ 1000000000) :
    Calls Try.prog 41 #[v] w fun e w' => e = .returned v ∧ Gr w w' := by
  rcases h.2 with ⟨rfl, h0⟩ | ⟨g, cap, cur, rfl, _, _, hc, hm, _⟩
  · clear h hb
    go_enter Try.func41, Try.ntmps41
    go_wp2
    go_ret
    exact ⟨rfl, Gr.refl _⟩
  · have HKr := Lib.hid h
    have HBs := Lib.hid hb
    obtain ⟨n, hn'⟩ : ∃ n, n = ks.length := ⟨_, rfl⟩
    rw [← hn'] at hn hc
    rw [show (Value.slice (some ⟨g, 0, none⟩) ks.length cap) = .slice (some ⟨g, 0, none⟩) n cap by rw [hn']]
    have HN := Lib.hid hn'
    clear h hb hn'
    by_cases h2 : n < 2
    · have e : decide ((n : Int) < 2) = true := decide_eq_true (by omega)
      clear h2
      go_enter Try.func41, Try.ntmps41
      go_wp2
      go_ret
      exact ⟨rfl, Gr.refl _⟩
    · have e : decide ((n : Int) < 2) = false := decide_eq_false (by omega)
      go_enter Try.func41, Try.ntmps41
      go_wp2
      go_loopw [3] (fun i wr => ∃ j : Nat, i = .int .i64 ((j : Int) + 1) ∧ j + 1 ≤ n ∧ Hid (Gr w wr)) (fun i _ => n - (intOf i).toNat)
      case atStart => exact ⟨0, rfl, by omega, Lib.hid (Gr.refl _)⟩
      case round =>
        obtain ⟨j, rfl, hj2, HG⟩ := hrel
        by_cases hlt : j + 1 < n
        · have hlt' : j + 1 < ks.length := by rw [← HN.out]; exact hlt
          have hrow := World.ownsRow.kept HKr.out (w' := wr) (row := none) ⟨HG.out.os, HG.out.tape, HG.out.output, HG.out.size, fun k hk _ => HG.out.block k hk⟩ (.inr (by simp [Value.ownBlock]))
          obtain ⟨c0, c1⟩ := Kr.at (ks := ks) hrow (j + 1) hlt'
          obtain ⟨d0, d1⟩ := Kr.at (ks := ks) hrow j (by omega)
          obtain ⟨X, hX⟩ : ∃ X, X = ks.getD (j + 1) (0, 0) := ⟨_, rfl⟩
          obtain ⟨Y, hY⟩ : ∃ Y, Y = ks.getD j (0, 0) := ⟨_, rfl⟩
          rw [← hX] at c0 c1
          rw [← hY] at d0 d1
          have hne : X ≠ Y := by
            have := HBs.out j (by omega)
            rw [← hX, ← hY] at this
            exact fun e => this e.symm
          have hq : ∀ W, (Op.equalIn 10000 TKey (.agg #[.int .i64 X.1, .int .i64 X.2]) (.agg #[.int .i64 Y.1, .int .i64 Y.2])).run Try.prog W = .ok false W := fun W => by
            have := eqi_key X Y W
            rw [decide_eq_false hne] at this
            exact this
          have e3 : decide ((j : Int) + 1 < (n : Int)) = true := decide_eq_true (by omega)
          have hw : IntKind.i64.wrap ((j : Int) + 1 - 1) = (j : Int) := by rw [Int.add_sub_cancel]; exact IntWalk.i64_in _ (by omega)
          have hw2 : ((j : Int) + 1).toNat = j + 1 := by omega
          have hp : (0 : Int) ≤ (j : Int) + 1 := by omega
          clear hrow hX hY hne hlt'
          go_wp2_with fail
          go_quiet (fail)
          go_wp2_with fail
          go_roundw
          case rel => exact ⟨j + 1, by simp, by omega, Lib.hid (grD HG.out)⟩
          case measure => simp [intOf]; omega
        · have e3 : decide ((j : Int) + 1 < (n : Int)) = false := decide_eq_false (by omega)
          clear hlt
          go_wp2_with fail
          go_ret
          exact ⟨rfl, HG.out⟩
end Go.Proofs.Ytbmcdlcoojmppaa

/-
  The code's table of locks: a party goes, a lock goes; leave, of an owner that waits for nothing.
-/
namespace Go.Proofs.Ytbmcdlcoojmppaa
open Go.RowKit Go.Maps Go.Shelf Go.Sort Go.Lib

section
variable {w w' : World} {t km om : Nat} {B : Tag → Option Nat} {T : Tb}
/-- A party goes. -/
theorem TbAt.delPy (h : TbAt w t km om B T) {o : Nat} (hw : Onl (fun n => n = om) w w')
    (hm : Mp Try.prog KO w' om (updF (fun o => (T.py o).map fun _ => ptrB (B (.py o))) o none) (delK o T.oo)) :
    TbAt w' t km om (updF (updF B (.py o) none) (.pm o) none) { T with py := updF T.py o none, oo := delK o T.oo } ∧ Tn w w' B (updF (updF B (.py o) none) (.pm o) none) := by
  have hs : ∀ a n, B a = some n → a ≠ .om → w'.heap[n]? = w.heap[n]? := fun a n hn h1 => hw.block n (h.lt a n hn) fun e => h1 (h.inj _ _ _ hn (by rw [e]; exact h.bo))
  obtain ⟨B', hB'⟩ : ∃ B', B' = updF (updF B (.py o) none) (.pm o) none := ⟨_, rfl⟩
  have b1 : B' (.py o) = none := by rw [hB', updF_other _ _ (by simp), updF_same]
  have b2 : B' (.pm o) = none := by rw [hB', updF_same]
  have b3 : ∀ a, a ≠ .py o → a ≠ .pm o → B' a = B a := fun a h1 h2 => by rw [hB', updF_other _ _ h2, updF_other _ _ h1]
  rw [← hB']
  clear hB'
  have b4 : ∀ a n, B' a = some n → B a = some n := fun a n hn => by
    by_cases e1 : a = .py o
    · rw [e1, b1] at hn; cases hn
    · by_cases e2 : a = .pm o
      · rw [e2, b2] at hn; cases hn
      · rw [b3 a e1 e2] at hn; exact hn
  refine ⟨⟨by rw [b3 _ (by simp) (by simp)]; exact h.bt, by rw [b3 _ (by simp) (by simp)]; exact h.bk, by rw [b3 _ (by simp) (by simp)]; exact h.bo, fun a c n ha hc => h.inj _ _ _ (b4 a n ha) (b4 c n hc), h.blk.stays (hs _ _ h.bt (by simp)), ?_, ?_, fun k l hk => ?_, fun o' p2 ho' => ?_, fun k hk => ?_, fun o' ho' => ?_⟩, ⟨hw.mono fun n _ e => ⟨.om, by rw [e]; exact h.bo⟩, fun a n ha => .inl ⟨a, b4 a n ha⟩⟩⟩
  · have e : (fun k => (T.lk k).map fun _ => ptrB (B' (.lk k))) = fun k => (T.lk k).map fun _ => ptrB (B (.lk k)) := by
      funext k
      rw [b3 _ (by simp) (by simp)]
    show Mp _ _ _ _ (fun k => (T.lk k).map fun _ => ptrB (B' (.lk k))) _
    rw [e]
    exact h.keys.stays (hs _ _ h.bk (by simp))
  · have e : (fun o' => (updF T.py o none o').map fun _ => ptrB (B' (.py o'))) = updF (fun o => (T.py o).map fun _ => ptrB (B (.py o))) o none := by
      funext o'
      by_cases e : o' = o
      · rw [e, updF_same, updF_same]; rfl
      · rw [updF_other _ _ e, updF_other _ _ e, b3 _ (by simp [e]) (by simp)]
    show Mp _ _ _ _ (fun o' => (updF T.py o none o').map fun _ => ptrB (B' (.py o'))) _
    rw [e]
    exact hm
  · rw [b3 _ (by simp) (by simp), b3 _ (by simp) (by simp), b3 _ (by simp) (by simp)]
    exact (h.lk k l hk).stays (fun n hn => hs _ n hn (by simp)) (fun n hn => hs _ n hn (by simp)) (fun n hn => hs _ n hn (by simp))
  · have ho2 : updF T.py o none o' = some p2 := ho'
    by_cases e : o' = o
    · rw [e, updF_same] at ho2; cases ho2
    · rw [updF_other _ _ e] at ho2
      rw [b3 _ (by simp [e]) (by simp), b3 _ (by simp) (by simp [e])]
      exact (h.py o' p2 ho2).stays (fun n hn => hs _ n hn (by simp)) (fun n hn => hs _ n hn (by simp))
  · rw [b3 _ (by simp) (by simp), b3 _ (by simp) (by simp), b3 _ (by simp) (by simp)]
    exact h.lk0 k hk
  · have ho2 : updF T.py o none o' = none := ho'
    by_cases e : o' = o
    · rw [e]; exact ⟨b1, b2⟩
    · rw [updF_other _ _ e] at ho2
      rw [b3 _ (by simp [e]) (by simp), b3 _ (by simp) (by simp [e])]
      exact h.py0 o' ho2
/-- A lock goes. -/
theorem TbAt.delLk (h : TbAt w t km om B T) {k : Key} (hw : Onl (fun n => n = km) w w')
    (hm : Mp Try.prog KL w' km (updF (fun k => (T.lk k).map fun _ => ptrB (B (.lk k))) k none) (delK k T.kk)) :
    TbAt w' t km om (updF (updF (updF B (.lk k) none) (.hm k) none) (.ln k) none) { T with lk := updF T.lk k none, kk := delK k T.kk } ∧ Tn w w' B (updF (updF (updF B (.lk k) none) (.hm k) none) (.ln k) none) := by
  have hs : ∀ a n, B a = some n → a ≠ .km → w'.heap[n]? = w.heap[n]? := fun a n hn h1 => hw.block n (h.lt a n hn) fun e => h1 (h.inj _ _ _ hn (by rw [e]; exact h.bk))
  obtain ⟨B', hB'⟩ : ∃ B', B' = updF (updF (updF B (.lk k) none) (.hm k) none) (.ln k) none := ⟨_, rfl⟩
  have b1 : B' (.lk k) = none := by rw [hB', updF_other _ _ (by simp), updF_other _ _ (by simp), updF_same]
  have b2 : B' (.hm k) = none := by rw [hB', updF_other _ _ (by simp), updF_same]
  have b2' : B' (.ln k) = none := by rw [hB', updF_same]
  have b3 : ∀ a, a ≠ .lk k → a ≠ .hm k → a ≠ .ln k → B' a = B a := fun a h1 h2 h3 => by rw [hB', updF_other _ _ h3, updF_other _ _ h2, updF_other _ _ h1]
  rw [← hB']
  clear hB'
  have b4 : ∀ a n, B' a = some n → B a = some n := fun a n hn => by
    by_cases e1 : a = .lk k
    · rw [e1, b1] at hn; cases hn
    · by_cases e2 : a = .hm k
      · rw [e2, b2] at hn; cases hn
      · by_cases e3 : a = .ln k
        · rw [e3, b2'] at hn; cases hn
        · rw [b3 a e1 e2 e3] at hn; exact hn
  refine ⟨⟨by rw [b3 _ (by simp) (by simp) (by simp)]; exact h.bt, by rw [b3 _ (by simp) (by simp) (by simp)]; exact h.bk, by rw [b3 _ (by simp) (by simp) (by simp)]; exact h.bo, fun a c n ha hc => h.inj _ _ _ (b4 a n ha) (b4 c n hc), h.blk.stays (hs _ _ h.bt (by simp)), ?_, ?_, fun k' l2 hk' => ?_, fun o' p2 ho' => ?_, fun k' hk' => ?_, fun o' ho' => ?_⟩, ⟨hw.mono fun n _ e => ⟨.km, by rw [e]; exact h.bk⟩, fun a n ha => .inl ⟨a, b4 a n ha⟩⟩⟩
  · have e : (fun k' => (updF T.lk k none k').map fun _ => ptrB (B' (.lk k'))) = updF (fun k => (T.lk k).map fun _ => ptrB (B (.lk k))) k none := by
      funext k'
      by_cases e : k' = k
      · rw [e, updF_same, updF_same]; rfl
      · rw [updF_other _ _ e, updF_other _ _ e, b3 _ (by simp [e]) (by simp) (by simp)]
    show Mp _ _ _ _ (fun k' => (updF T.lk k none k').map fun _ => ptrB (B' (.lk k'))) _
    rw [e]
    exact hm
  · have e : (fun o => (T.py o).map fun _ => ptrB (B' (.py o))) = fun o => (T.py o).map fun _ => ptrB (B (.py o)) := by
      funext o
      rw [b3 _ (by simp) (by simp) (by simp)]
    show Mp _ _ _ _ (fun o => (T.py o).map fun _ => ptrB (B' (.py o))) _
    rw [e]
    exact h.owners.stays (hs _ _ h.bo (by simp))
  · have hk2 : updF T.lk k none k' = some l2 := hk'
    by_cases e : k' = k
    · rw [e, updF_same] at hk2; cases hk2
    · rw [updF_other _ _ e] at hk2
      rw [b3 _ (by simp [e]) (by simp) (by simp), b3 _ (by simp) (by simp [e]) (by simp), b3 _ (by simp) (by simp) (by simp [e])]
      exact (h.lk k' l2 hk2).stays (fun n hn => hs _ n hn (by simp)) (fun n hn => hs _ n hn (by simp)) (fun n hn => hs _ n hn (by simp))
  · rw [b3 _ (by simp) (by simp) (by simp), b3 _ (by simp) (by simp) (by simp)]
    exact (h.py o' p2 ho').stays (fun n hn => hs _ n hn (by simp)) (fun n hn => hs _ n hn (by simp))
  · have hk2 : updF T.lk k none k' = none := hk'
    by_cases e : k' = k
    · rw [e]; exact ⟨b1, b2, b2'⟩
    · rw [updF_other _ _ e] at hk2
      rw [b3 _ (by simp [e]) (by simp) (by simp), b3 _ (by simp) (by simp [e]) (by simp), b3 _ (by simp) (by simp) (by simp [e])]
      exact h.lk0 k' hk2
  · rw [b3 _ (by simp) (by simp) (by simp), b3 _ (by simp) (by simp) (by simp)]
    exact h.py0 o' ho'
theorem unitF_del {α : Type} [DecidableEq α] (ks : List α) (a : α) : updF (unitF ks) a none = unitF (delK a ks) := by
  funext b
  unfold updF unitF
  by_cases e : b = a
  · simp [e, mem_delK]
  · simp [e, mem_delK]
/-- An owner holds these keys no more. -/
def Tb.off (T : Tb) (o : Nat) (ks : List Key) : Tb := { T with lk := fun k => if k ∈ ks then (T.lk k).map fun l => { l with hs := delK o l.hs } else T.lk k }
theorem off_nil (T : Tb) (o : Nat) : T.off o [] = T := by
  unfold Tb.off
  simp
theorem off_snoc (T : Tb) (o : Nat) (ks : List Key) (k : Key) (hk : k ∉ ks) (l : Lk) (hl : T.lk k = some l) : T.off o (ks ++ [k]) = { T.off o ks with lk := updF (T.off o ks).lk k (some { l with hs := delK o l.hs }) } := by
  unfold Tb.off updF
  congr 1
  funext k'
  by_cases e : k' = k
  · subst e
    simp [hl]
  · simp [e]
theorem off_lk (T : Tb) (o : Nat) (ks : List Key) (k : Key) (hk : k ∉ ks) : (T.off o ks).lk k = T.lk k := by
  unfold Tb.off
  simp [hk]
end
end Go.Proofs.Ytbmcdlcoojmppaa

