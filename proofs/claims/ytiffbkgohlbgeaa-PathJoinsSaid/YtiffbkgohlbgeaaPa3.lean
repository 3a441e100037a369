
/-
  The pieces of a path: the function over which one ranges, and what it gives.
-/
import Derived.Test.YtiffbkgohlbgeaaPa2
import Derived.Test.YtiffbkgohlbgeaaTold
import Derived.Shelf.Abstract
import Derived.Shelf.RegionOpen
import Derived.WalkKit
import Derived.OwnWalkIn
import Derived.TacticsInMore
import Derived.LoopNIn
import Derived.LoopIn
namespace Go.Proofs.Ytiffbkgohlbgeaa
open Go.RowKit Go.Shelf
set_option linter.unusedVariables false
set_option linter.unusedSimpArgs false
attribute [local go_sem] Oper.semAt_some

abbrev TStr : TypeId := 9
/-- What the function over which one ranges is. -/
abbrev seqP (b : Nat) : Value := .func (.func 29) #[] #[.pointer (some ⟨b, 0, none⟩)]
theorem pieces_any (s : ByteArray) (w : World) : Calls Try.prog 21 #[.string s] w fun e w' => e = .returned (seqP w.heap.size) ∧ w' = w.alloc (.cells #[.string s] TStr) := by
  go_enter Try.func21, Try.ntmps21
  go_wp2_with fail
  go_ret
  exact ⟨rfl, rfl⟩

abbrev encP (x : Nat × ByteArray) : Array Value := #[.int .i64 x.1, .string x.2]
theorem none_gr (W : World) : W.grownBy W none := ⟨rfl, rfl, rfl, Nat.le_refl _, fun _ _ _ => rfl⟩

/-- How far it is: what has come, where the piece begins, where it stands. -/
def PcAt (s : ByteArray) (pre : List (Nat × ByteArray)) (f a : Nat) : Prop :=
  (a ≤ s.size ∧ f ≤ a ∧ pre.map (·.2) ++ pcs s (s.size - a) f a = names s) ∨ (a = s.size + 1 ∧ f ≤ a ∧ pre.map (·.2) = names s)
theorem PcAt.start {s : ByteArray} (h : s ≠ ⟨#[47]⟩) (h1 : 1 ≤ s.size) : PcAt s [] 1 1 := .inl ⟨h1, Nat.le_refl _, by
  unfold names
  rw [if_neg h]
  rfl⟩
theorem PcAt.miss {s : ByteArray} {pre : List (Nat × ByteArray)} {f a : Nat} (h : PcAt s pre f a) (hl : a < s.size) (e : ¬ s[a] = 47) : PcAt s pre f (a + 1) := by
  rcases h with ⟨_, hf, h⟩ | ⟨h, _⟩
  · exact .inl ⟨by omega, by omega, by rw [← pcs_miss s f a hl e]; exact h⟩
  · omega
theorem PcAt.hit {s : ByteArray} {pre : List (Nat × ByteArray)} {f a : Nat} (h : PcAt s pre f a) (hl : a < s.size) (e : s[a] = 47) (n : Nat) : PcAt s (pre ++ [(n, s.extract f a)]) (a + 1) (a + 1) ∧ ∃ zs, pre.map (·.2) ++ s.extract f a :: zs = names s := by
  rcases h with ⟨_, hf, h⟩ | ⟨h, _⟩
  · rw [pcs_hit s f a hl e] at h
    exact ⟨.inl ⟨by omega, by omega, by simpa using h⟩, _, h⟩
  · omega
theorem PcAt.last {s : ByteArray} {pre : List (Nat × ByteArray)} {f : Nat} (h : PcAt s pre f s.size) (n : Nat) : PcAt s (pre ++ [(n, s.extract f s.size)]) (s.size + 1) (s.size + 1) ∧ ∃ zs, pre.map (·.2) ++ s.extract f s.size :: zs = names s := by
  rcases h with ⟨_, hf, h⟩ | ⟨h, _⟩
  · rw [pcs_end] at h
    exact ⟨.inr ⟨rfl, by omega, by simpa using h⟩, [], h⟩
  · omega
theorem PcAt.over {s : ByteArray} {pre : List (Nat × ByteArray)} {f a : Nat} (h : PcAt s pre f a) (hl : ¬ a ≤ s.size) : pre.map (·.2) = names s := by
  rcases h with ⟨h, _⟩ | ⟨_, _, h⟩
  · exact absurd h hl
  · exact h
theorem PcAt.low {s : ByteArray} {pre : List (Nat × ByteArray)} {f a : Nat} (h : PcAt s pre f a) : f ≤ a := by
  rcases h with ⟨_, h, _⟩ | ⟨_, h, _⟩ <;> exact h

set_option maxRecDepth 100000 in
set_option maxHeartbeats 2000000 in
theorem pieces1_told (n : Nat) (hn : 2 ≤ n) (B : Nat) (s : ByteArray) (w : World) (h : Blk w B TStr #[.string s]) (h1 : 1 ≤ s.size) (h2 : s.size ≤ 4611686018427387904) :
    SeqTold Fence.wide n Try.prog 29 #[.pointer (some ⟨B, 0, none⟩)] encP (fun pre x V => x.1 = pre.length ∧ ∃ zs, pre.map (·.2) ++ x.2 :: zs = names s) (fun k => k = B) (fun ys => ys.map (·.2) = names s) (fun _ => True) w := fun l J Jx W hW hJ hJx hY h0 => by
  have hB := Lib.hid (h.below hW h.lt)
  have c0 : W.cell? ⟨B, 0, none⟩ = some (.string s) := hB.out.cell 0
  have n1 : 1 ≤ n := by omega
  have HJ := Lib.hid hJ
  have HY := Lib.hid hY
  have H0 := Lib.hid h0
  clear hW hJ hJx hY h0 h
  by_cases he : s = ⟨#[47]⟩
  · subst he
    refine callsIn_of_wp Try.func29 rfl trivial ?_ rfl
    simp only [Try.ntmps29, List.size_toArray, List.length_cons, List.length_nil, Nat.reduceAdd, Nat.reduceSub, Array.replicate_succ, Array.replicate_zero, List.push_toArray, List.append_toArray, List.nil_append, List.cons_append]
    gi_wp2_with fail
    gi_loopw [5] (fun a wr => a = .int .i64 1 ∧ wr = W) (fun _ _ => 0)
    case atStart => exact ⟨rfl, rfl⟩
    case round =>
      obtain ⟨rfl, rfl⟩ := hrel
      gi_wp2_with fail
      go_end0
      exact ⟨⟨_, rfl⟩, .inl ⟨[], rfl, H0.out⟩⟩
  · obtain ⟨hq1, hq2⟩ := text_ne (l := [47]) he
    have HS := Lib.hid (PcAt.start he h1)
    have hq3 : (s.toList != [47]) = true := by simpa using hq2
    clear he
    refine callsIn_of_wp Try.func29 rfl trivial ?_ rfl
    simp only [Try.ntmps29, List.size_toArray, List.length_cons, List.length_nil, Nat.reduceAdd, Nat.reduceSub, Array.replicate_succ, Array.replicate_zero, List.push_toArray, List.append_toArray, List.nil_append, List.cons_append]
    gi_wp2_with fail
    clear c0
    gi_loopw [3, 4, 5] (fun k f a wr => ∃ (pre : List (Nat × ByteArray)) (m f' a' : Nat), k = .int .i64 m ∧ f = .int .i64 f' ∧ a = .int .i64 a' ∧ Hid (m = pre.length) ∧ Hid (PcAt s pre f' a') ∧ a' ≤ s.size + 1 ∧ f' ≤ a' ∧ m ≤ a' ∧ Hid (Blk wr B TStr #[.string s] ∧ J pre wr)) (fun _ _ a _ => s.size + 1 - (intOf a).toNat)
    case atStart => exact ⟨[], 0, 1, 1, rfl, rfl, rfl, Lib.hid rfl, HS, by omega, by omega, by omega, Lib.hid ⟨hB.out, H0.out⟩⟩
    case round =>
      obtain ⟨pre, m, f', a', rfl, rfl, rfl, hm, hp, ha, hf, hma, hj⟩ := hrel
      clear HS hB H0
      have c0 : wr.cell? ⟨B, 0, none⟩ = some (.string s) := hj.out.1.cell 0
      by_cases hle : a' ≤ s.size
      · by_cases hlt : a' < s.size
        · by_cases h47 : s[a'] = 47
          · have hv : ((s[a'].toNat : Int) != 47) = false := by have := u8_is h47; simpa using this
            obtain ⟨x, hx⟩ : ∃ x, x = (m, s.extract f' a') := ⟨_, rfl⟩
            have hh := hp.out.hit hlt h47 m
            rw [← hx] at hh
            obtain ⟨fn, tmps, assign, body, hyl, hR⟩ := HY.out pre x _ hj.out.2 ⟨by rw [hx]; exact hm.out, by rw [hx]; exact hh.2⟩
            have HP := Lib.hid hh.1
            have HM : Hid (m + 1 = (pre ++ [x]).length) := Lib.hid (by rw [List.length_append, ← hm.out]; rfl)
            have HR := Lib.hid hR
            have HB := Lib.hid hj.out.1
            rw [hx] at hyl
            dsimp only [encP] at hyl
            clear hh hR hx hp hj hm h47
            gi_wp2_with fail
            refine HR.out.mono ?_
            rintro e2 V' (⟨rfl, hj2, hk⟩ | ⟨rfl, hx2⟩)
            · have hj3 : Hid (Blk V' B TStr #[.string s] ∧ J (pre ++ [x]) V') := Lib.hid ⟨hk.same B _ rfl HB.out rfl, hj2⟩
              clear hk hj2 hyl HR HB c0
              gi_wp2_with fail
              go_roundw
              case rel => exact ⟨pre ++ [x], m + 1, a' + 1, a' + 1, by go_num, by go_num, by go_num, HM, HP, by omega, by omega, by omega, hj3⟩
              case measure => first | (simp [intOf]; done) | (simp [intOf]; omega)
            · gi_wp2_with fail
              refine bodyPost_ret (results_none rfl _ _ _) rfl ?_
              exact ⟨⟨_, rfl⟩, .inr ⟨pre ++ [x], trivial, hx2⟩⟩
          · have hv : ((s[a'].toNat : Int) != 47) = true := by have := u8_not h47; simpa using this
            have HP := Lib.hid (hp.out.miss hlt h47)
            clear hp h47
            gi_wp2_with fail
            go_roundw
            case rel => exact ⟨pre, m, f', a' + 1, rfl, rfl, by go_num, hm, HP, by omega, by omega, by omega, hj⟩
            case measure => first | (simp [intOf]; done) | (simp [intOf]; omega)
        · obtain rfl : a' = s.size := by omega
          obtain ⟨x, hx⟩ : ∃ x, x = (m, s.extract f' s.size) := ⟨_, rfl⟩
          have hh := hp.out.last m
          rw [← hx] at hh
          obtain ⟨fn, tmps, assign, body, hyl, hR⟩ := HY.out pre x _ hj.out.2 ⟨by rw [hx]; exact hm.out, by rw [hx]; exact hh.2⟩
          have HP := Lib.hid hh.1
          have HM : Hid (m + 1 = (pre ++ [x]).length) := Lib.hid (by rw [List.length_append, ← hm.out]; rfl)
          have HR := Lib.hid hR
          have HB := Lib.hid hj.out.1
          rw [hx] at hyl
          dsimp only [encP] at hyl
          clear hh hR hx hp hj hm
          gi_wp2_with fail
          refine HR.out.mono ?_
          rintro e2 V' (⟨rfl, hj2, hk⟩ | ⟨rfl, hx2⟩)
          · have hj3 : Hid (Blk V' B TStr #[.string s] ∧ J (pre ++ [x]) V') := Lib.hid ⟨hk.same B _ rfl HB.out rfl, hj2⟩
            clear hk hj2 hyl HR HB c0
            gi_wp2_with fail
            go_roundw
            case rel => exact ⟨pre ++ [x], m + 1, s.size + 1, s.size + 1, by go_num, by go_num, by go_num, HM, HP, by omega, by omega, by omega, hj3⟩
            case measure => first | (simp [intOf]; done) | (simp [intOf]; omega)
          · gi_wp2_with fail
            refine bodyPost_ret (results_none rfl _ _ _) rfl ?_
            exact ⟨⟨_, rfl⟩, .inr ⟨pre ++ [x], trivial, hx2⟩⟩
      · have HO := Lib.hid (hp.out.over hle)
        clear hp
        gi_wp2_with fail
        go_end0
        exact ⟨⟨_, rfl⟩, .inl ⟨pre, HO.out, hj.out.2⟩⟩

end Go.Proofs.Ytiffbkgohlbgeaa
