
/-
  The keys that a party holds, rising.
-/
import Derived.Test.YtgpaikaccipfjaaLk12
namespace Go.Proofs.Ytgpaikaccipfjaa
open Go.RowKit Go.Maps Go.Shelf Go.Sort Go.Lib

theorem sortK_congr {ss ks : List Key} (h : ss.Perm ks) : sortK ss = sortK ks := by
  have tr : ∀ a b c : Key, (!(ltOf cmpK) b a) = true → (!(ltOf cmpK) c b) = true → (!(ltOf cmpK) c a) = true := fun a b c h1 h2 => by
    simp only [ltK, Bool.not_eq_true', decide_eq_false_iff_not] at *
    omega
  have tt : ∀ a b : Key, ((!(ltOf cmpK) b a) || (!(ltOf cmpK) a b)) = true := fun a b => by
    simp only [ltK, Bool.or_eq_true, Bool.not_eq_true', decide_eq_false_iff_not]
    omega
  refine List.Perm.eq_of_pairwise (le := fun a b => (!(ltOf cmpK) b a) = true) (fun a b _ _ h1 h2 => ?_) (List.pairwise_mergeSort tr tt ss) (List.pairwise_mergeSort tr tt ks) (((List.mergeSort_perm ss _).trans h).trans (List.mergeSort_perm ks _).symm)
  exact totK a b (by simpa using h2) (by simpa using h1)
theorem Kr.base {W : World} {b b' : Nat} {v : Value} {ks : List Key} (h : Kr W b v ks) (hb : b' ≤ b) : Kr W b' v ks := by
  refine ⟨h.1, ?_⟩
  rcases h.2 with hn | ⟨g, cap, cur, hv, hbg, rest⟩
  · exact .inl hn
  · exact .inr ⟨g, cap, cur, hv, Nat.le_trans hb hbg, rest⟩
set_option maxRecDepth 100000 in
set_option maxHeartbeats 1000000 in
theorem sortedFunc_in (n : Nat) (hn : 4 ≤ n) (g : Nat) (lb : Array Value) (eg : ∀ args w, (callFunc g args).run Try.prog w = .ok (.enter g args) w)
    (ks : List Key) (N : Nat) (hN : N ≤ 1000000000) (hk : ks.length ≤ 1000000000) (w : World) (hseq : SeqGives Fence.wide (n - 1 - 1 - 1) Try.prog g lb kv (fun ss => ss.Perm ks) N w) :
    CallsIn Fence.wide n Try.prog 52 #[.func (.func g) #[] lb, .func (.func 40) #[] #[]] w fun e w' => ∃ v : Value, e = .returned v ∧ Kr w' w.heap.size v (sortK ks) ∧ Gr w w' := by
  have h1 : 1 ≤ n := by omega
  refine callsIn_of_wp Try.func52 rfl trivial ?_ rfl
  simp only [Try.ntmps52, List.size_toArray, List.length_cons, List.length_nil, Nat.reduceAdd, Nat.reduceSub, Array.replicate_succ, Array.replicate_zero, List.push_toArray, List.append_toArray, List.nil_append, List.cons_append]
  have hf1 : Fence.wide.fn 72 := trivial
  have hf2 : Fence.wide.fn 39 := trivial
  gi_wp2_with (gi_at_call 72; refine (collect_in Fence.wide (n - 1) trivial trivial rfl (by omega) g lb trivial eg _ N hN _ hseq).mono ?_; rintro e W ⟨v, ss, rfl, hS, hrow, hnil, hb⟩)
  have hss : ss.length = ks.length := hS.length_eq
  have hsk := sortK_congr hS
  rcases hrow.2 with ⟨rfl, hz⟩ | ⟨gb, cap, cur, rfl, hbase, hgb, r1, r2, r3, r4⟩
  · have he : ss = [] := List.eq_nil_of_length_eq_zero hz
    have hks : sortK ks = [] := by rw [← hsk, he]; simp [sortK]
    have HK := Lib.hid (And.intro hks hb)
    have HC := Lib.hid (fun W => show CallsIn Fence.wide (n - 1) _ _ _ _ _ from callsIn_wide.2 (sortFunc_none none 0 (.func (.func 40) #[] #[]) W))
    clear hss hsk hks hrow hnil he hz hS hb hseq
    gi_wp2_with (gi_at_call 39; refine (HC.out _).mono ?_; rintro e w' ⟨rfl, rfl⟩)
    go_ret
    exact ⟨_, rfl, by rw [HK.out.1]; exact World.ownsRow_nil _ _ _ _, HK.out.2⟩
  · have HC := Lib.hid (show CallsIn Fence.wide (n - 1) _ _ _ _ _ from callsIn_wide.2 (sortFunc_any (w := W) (base := w.heap.size) (g := gb) (cap := cap) (ss := ss) hrow (by omega)))
    obtain ⟨L, hL⟩ : ∃ L, L = ss.length := ⟨_, rfl⟩
    rw [← hL] at HC
    rw [← hL]
    have HK := Lib.hid (And.intro hsk (And.intro hb hbase))
    clear hss hsk hrow hnil hS hb hseq r1 r2 r3 r4 hgb hbase hL
    gi_wp2_with (gi_at_call 39; refine HC.out.mono ?_; rintro e w' ⟨rfl, hr, hg⟩; have HR := Lib.hid (And.intro hr hg); clear hr hg)
    go_ret
    exact ⟨_, rfl, by rw [← HK.out.1]; exact HR.out.1, HK.out.2.1.grown HR.out.2 HK.out.2.1.size (fun j hj => by cases hj; exact HK.out.2.2)⟩
set_option maxRecDepth 100000 in
set_option maxHeartbeats 1000000 in
theorem sorted_any (w : World) {hp : Option Nat} {ks : List Key} (O1 O2 O3 : Int) (H : HsAt w hp ks) (hk : ks.length ≤ 1000000000) :
    Calls Try.prog 35 #[.agg #[.map hp, .int .i64 O1, .int .i64 O2, .int .i64 O3]] w fun e w' => ∃ v : Value, e = .returned v ∧ Kr w' w.heap.size v (sortK ks) ∧ Gr w w' := by
  have g1 : Gr w (w.alloc (.cells #[.map hp, .int .i64 O1, .int .i64 O2, .int .i64 O3] TPy)) := (Gr.refl w).alloc (Nat.le_refl _) _
  obtain ⟨W, hW⟩ : ∃ W, W = w.alloc (.cells #[.map hp, .int .i64 O1, .int .i64 O2, .int .i64 O3] TPy) := ⟨_, rfl⟩
  rw [← hW] at g1
  have hsz : W.heap.size = w.heap.size + 1 := by rw [hW]; simp
  have eg := enters_of Try.func73 (by kernel_rfl) rfl
  have g2 : Gr W (W.alloc (.cells #[.map hp] TMs)) := (Gr.refl W).alloc (Nat.le_refl _) _
  have hseq : ∃ N, N ≤ 1000000000 ∧ SeqGives Fence.wide (4 - 1 - 1 - 1) Try.prog 73 #[.pointer (some ⟨W.heap.size, 0, none⟩)] kv (fun ss => ss.Perm ks) N (W.alloc (.cells #[.map hp] TMs)) := by
    rcases H with ⟨rfl, rfl⟩ | ⟨m, rfl, hm⟩
    · exact ⟨0, by omega, keys_gives_nil Fence.wide _ trivial rfl W.heap.size _ (by simp) (by simp)⟩
    · exact ⟨ks.length, hk, keys_gives Fence.wide _ trivial rfl (by omega) W.heap.size m (unitF ks) ks _ (by simp) (by simp) ((hm.stays (g1.block m hm.lt)).stays (g2.block m (by have := hm.lt; omega)))⟩
  obtain ⟨N, hN, hseq⟩ := hseq
  rw [hsz] at hseq
  have hk0 := callsIn_wide.1 (keys_in Fence.wide 1 trivial rfl hp W)
  rw [hsz] at hk0
  have HC := Lib.hid (callsIn_wide.1 (sortedFunc_in 4 (Nat.le_refl _) _ _ eg ks N hN hk _ hseq))
  have HK := Lib.hid hk0
  have HG := Lib.hid (And.intro g1 (And.intro g2 hsz))
  rw [hW] at HC HK
  clear hseq eg g1 g2 H hsz hk hN hk0
  have HW := Lib.hid hW
  clear hW
  go_enter Try.func35, Try.ntmps35
  go_wp2_with fail
  refine HK.out.mono ?_
  rintro e w1 ⟨rfl, rfl⟩
  go_wp2_with fail
  refine HC.out.mono ?_
  rintro e w2 ⟨v, rfl, hr, g3⟩
  have HR := Lib.hid (And.intro hr g3)
  clear hr g3
  go_wp2_with fail
  go_ret
  have hG := HG.out
  rw [HW.out] at hG
  exact ⟨v, rfl, HR.out.1.base (by simp; omega), Gr.trans hG.1 (Gr.trans hG.2.1 HR.out.2)⟩
end Go.Proofs.Ytgpaikaccipfjaa
