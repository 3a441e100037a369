
/-
  Paths, as the mathematics has them: the names of a path; what is wrong; the path of names. Of no program.
-/
import Derived.Lib.Bytealg
import Derived.Lib.Join
import Derived.Lib.LastIndexByte
namespace Go.Proofs.Ytiffbkgohlbgeaa
set_option linter.unusedVariables false
set_option linter.unusedSimpArgs false

/-- A text's bytes. -/
abbrev bys (s : ByteArray) : List UInt8 := s.data.toList
/-- The text of bytes. -/
abbrev txt (l : List UInt8) : ByteArray := ⟨l.toArray⟩
theorem txt_bys (s : ByteArray) : txt (bys s) = s := by cases s; simp [txt, bys]
theorem bys_txt (l : List UInt8) : bys (txt l) = l := by simp [txt, bys]
theorem bys_inj {a b : ByteArray} (h : bys a = bys b) : a = b := by rw [← txt_bys a, ← txt_bys b, h]
theorem bys_len (s : ByteArray) : (bys s).length = s.size := by show s.data.toList.length = s.data.size; exact Array.length_toList
theorem bys_cut (s : ByteArray) (f a : Nat) : bys (s.extract f a) = ((bys s).take a).drop f := by
  simp only [bys, ByteArray.data_extract, Array.toList_extract, List.extract_eq_take_drop, List.take_drop]
  by_cases h : f ≤ a
  · rw [show f + (a - f) = a by omega]
  · rw [List.drop_eq_nil_of_le (by rw [List.length_take]; omega), List.drop_eq_nil_of_le (by rw [List.length_take]; omega)]
theorem bys_add (a b : ByteArray) : bys (a ++ b) = bys a ++ bys b := by simp [bys]
theorem bys_at (s : ByteArray) (k : Nat) (h : k < s.size) : (bys s)[k]? = some s[k] := by
  have h2 : k < s.data.size := h
  show s.data.toList[k]? = some s.data[k]
  simp [h2]

theorem text_ne {s : ByteArray} {l : List UInt8} (h : s ≠ txt l) : (s.toList == l) = false ∧ ¬ s.toList = l := by
  have h2 : ¬ s.toList = l := fun e => h (bys_inj (by rw [bys_txt, ← e, ByteArray.toList_eq]))
  exact ⟨by simpa using h2, h2⟩

def hasB (s : ByteArray) (c : UInt8) : Bool := (bys s).contains c
theorem index_has (l : List UInt8) (c : UInt8) : (0 ≤ Go.Lib.indexByte l c) ↔ c ∈ l := by
  induction l with
  | nil => simp [Go.Lib.indexByte]
  | cons b l ih =>
    unfold Go.Lib.indexByte
    have := Go.Lib.indexByte_ge l c
    by_cases h : b = c
    · subst h; simp
    · have h' : ¬ c = b := fun e => h e.symm
      simp only [beq_iff_eq, h, if_false, List.mem_cons, h', false_or, ← ih]
      split <;> omega
theorem has_index (s : ByteArray) (c : UInt8) : decide (0 ≤ Go.Lib.indexByte (bys s) c) = hasB s c := by
  unfold hasB
  rw [Bool.eq_iff_iff]
  simp [index_has]

/-- What is wrong with a name. -/
def nameE (s : ByteArray) : Int :=
  if s = ⟨#[]⟩ ∨ s = ⟨#[46]⟩ ∨ s = ⟨#[46, 46]⟩ then 6 else if hasB s 47 = true ∨ hasB s 0 = true then 6 else if 16 < s.size then 11 else 0

/-- The pieces from a on, the first of which begins at f. -/
def pcs (s : ByteArray) : Nat → Nat → Nat → List ByteArray
  | 0, f, a => [s.extract f a]
  | k + 1, f, a => if s.data[a]! = 47 then s.extract f a :: pcs s k (a + 1) (a + 1) else pcs s k f (a + 1)
theorem pcs_end (s : ByteArray) (f : Nat) : pcs s (s.size - s.size) f s.size = [s.extract f s.size] := by rw [Nat.sub_self]; rfl
theorem bang (s : ByteArray) (a : Nat) (h : a < s.size) : s.data[a]! = s[a] := by
  have h2 : a < s.data.size := h
  rw [getElem!_pos s.data a h2]
  rfl
theorem pcs_hit (s : ByteArray) (f a : Nat) (h : a < s.size) (e : s[a] = 47) : pcs s (s.size - a) f a = s.extract f a :: pcs s (s.size - (a + 1)) (a + 1) (a + 1) := by
  rw [show s.size - a = (s.size - (a + 1)) + 1 by omega]
  unfold pcs
  rw [bang s a h, if_pos e]
  rw [show s.size - (a + 1) = s.size - a - 1 by omega]
  cases s.size - a - 1 <;> rfl
theorem pcs_miss (s : ByteArray) (f a : Nat) (h : a < s.size) (e : ¬ s[a] = 47) : pcs s (s.size - a) f a = pcs s (s.size - (a + 1)) f (a + 1) := by
  rw [show s.size - a = (s.size - (a + 1)) + 1 by omega]
  conv => lhs; unfold pcs
  rw [bang s a h, if_neg e]
/-- The names of what begins with a '/'. -/
def names (s : ByteArray) : List ByteArray := if s = ⟨#[47]⟩ then [] else pcs s (s.size - 1) 1 1

def firstE : List ByteArray → Int
  | [] => 0
  | x :: r => if nameE x ≠ 0 then nameE x else firstE r
theorem firstE_app (a b : List ByteArray) : firstE (a ++ b) = if firstE a ≠ 0 then firstE a else firstE b := by
  induction a with
  | nil => simp [firstE]
  | cons x r ih =>
    rw [List.cons_append, show firstE (x :: (r ++ b)) = (if nameE x ≠ 0 then nameE x else firstE (r ++ b)) from rfl, show firstE (x :: r) = (if nameE x ≠ 0 then nameE x else firstE r) from rfl]
    by_cases h : nameE x ≠ 0
    · rw [if_pos h, if_pos h, if_pos h]
    · rw [if_neg h, if_neg h, ih]
theorem firstE_zero {l : List ByteArray} (h : firstE l = 0) : ∀ x ∈ l, nameE x = 0 := by
  induction l with
  | nil => intro x hx; cases hx
  | cons y r ih =>
    unfold firstE at h
    by_cases hy : nameE y ≠ 0
    · rw [if_pos hy] at h; exact absurd h hy
    · rw [if_neg hy] at h
      intro x hx
      rcases List.mem_cons.1 hx with rfl | hx
      · simpa using hy
      · exact ih h x hx
theorem firstE_of {l : List ByteArray} (h : ∀ x ∈ l, nameE x = 0) : firstE l = 0 := by
  induction l with
  | nil => rfl
  | cons y r ih =>
    unfold firstE
    rw [if_neg (by rw [h y (by simp)]; simp)]
    exact ih fun x hx => h x (by simp [hx])
/-- What is wrong with a path. -/
def wrongR (s : ByteArray) : Int :=
  if s = ⟨#[]⟩ ∨ ¬ s.data[0]! = 47 then 6 else if 128 < s.size then 11 else if firstE (names s) ≠ 0 then firstE (names s) else if 8 < (names s).length then 11 else 0
/-- Its names, if it is one. -/
def splitR (s : ByteArray) : List ByteArray := if wrongR s = 0 then names s else []

/-- The pieces of bytes. -/
def spl (cur : List UInt8) : List UInt8 → List (List UInt8)
  | [] => [cur]
  | c :: r => if c = 47 then cur :: spl [] r else spl (cur ++ [c]) r
theorem pcs_spl (s : ByteArray) : ∀ (k f a : Nat), f ≤ a → a + k = s.size → (pcs s k f a).map bys = spl (((bys s).take a).drop f) ((bys s).drop a)
  | 0, f, a, hf, ha => by
    have e : (bys s).drop a = [] := List.drop_eq_nil_of_le (by rw [bys_len]; omega)
    rw [e]
    show [bys (s.extract f a)] = [_]
    rw [bys_cut]
  | k + 1, f, a, hf, ha => by
    have hlt : a < s.size := by omega
    have hd : (bys s).drop a = s[a] :: (bys s).drop (a + 1) := by
      rw [List.drop_eq_getElem_cons (by rw [bys_len]; exact hlt)]
      congr 1
    have ht : ((bys s).take (a + 1)).drop f = ((bys s).take a).drop f ++ [s[a]] := by
      rw [List.take_succ_eq_append_getElem (by rw [bys_len]; exact hlt), List.drop_append_of_le_length (by rw [List.length_take, bys_len]; omega)]
      congr 1
    rw [hd]
    unfold pcs spl
    rw [bang s a hlt]
    by_cases e : s[a] = 47
    · rw [if_pos e, if_pos e, List.map_cons, pcs_spl s k (a + 1) (a + 1) (Nat.le_refl _) (by omega), bys_cut]
      rw [List.drop_eq_nil_of_le (as := (bys s).take (a + 1)) (by rw [List.length_take]; omega)]
    · rw [if_neg e, if_neg e, pcs_spl s k f (a + 1) (by omega) (by omega), ht]
theorem spl_ne (cur r : List UInt8) : spl cur r ≠ [] := by
  induction r generalizing cur with
  | nil => simp [spl]
  | cons c r ih => unfold spl; split; simp; exact ih _
theorem spl_join (cur r : List UInt8) : Go.Lib.join (spl cur r) [47] = cur ++ r := by
  induction r generalizing cur with
  | nil => simp [spl, Go.Lib.join_one]
  | cons c r ih =>
    unfold spl
    split
    · rename_i h
      subst h
      rw [Go.Lib.join_cons]
      cases hs : spl [] r with
      | nil => exact absurd hs (spl_ne _ _)
      | cons x t =>
        have := ih []
        rw [hs, Go.Lib.join_cons] at this
        simp only [List.nil_append] at this
        rw [← this]
        simp [Go.Lib.joinTail]
    · rw [ih]; simp
theorem spl_free (cur r : List UInt8) (h : ¬ (47 : UInt8) ∈ cur) : ∀ x ∈ spl cur r, ¬ (47 : UInt8) ∈ x := by
  induction r generalizing cur with
  | nil => intro x hx; simp [spl] at hx; subst hx; exact h
  | cons c r ih =>
    unfold spl
    split
    · intro x hx
      rcases List.mem_cons.1 hx with rfl | hx
      · exact h
      · exact ih [] (by simp) x hx
    · rename_i hc
      exact ih _ (by simp only [List.mem_append, List.mem_singleton, not_or]; exact ⟨h, fun e => hc e.symm⟩)
theorem spl_run (cur x r : List UInt8) (h : ¬ (47 : UInt8) ∈ x) : spl cur (x ++ r) = spl (cur ++ x) r := by
  induction x generalizing cur with
  | nil => simp
  | cons c x ih =>
    rw [List.cons_append]
    conv => lhs; unfold spl
    rw [if_neg (fun e => h (by rw [← e]; simp)), ih _ (fun e => h (by simp [e]))]
    simp
theorem spl_tail (cur : List UInt8) (xs : List (List UInt8)) (h : ∀ x ∈ xs, ¬ (47 : UInt8) ∈ x) : spl cur (Go.Lib.joinTail [47] xs) = cur :: xs := by
  induction xs generalizing cur with
  | nil => simp [Go.Lib.joinTail, spl]
  | cons x r ih =>
    have e : Go.Lib.joinTail [47] (x :: r) = 47 :: (x ++ Go.Lib.joinTail [47] r) := by simp [Go.Lib.joinTail]
    rw [e]
    unfold spl
    rw [if_pos rfl, spl_run [] x _ (h x (by simp)), List.nil_append, ih _ fun y hy => h y (by simp [hy])]

/-- The bytes of names, each behind a '/'. -/
def jn (l : List ByteArray) : List UInt8 := Go.Lib.joinTail [47] (l.map bys)
theorem jn_nil : jn [] = [] := rfl
theorem jn_cons (x : ByteArray) (l : List ByteArray) : jn (x :: l) = 47 :: (bys x ++ jn l) := by simp [jn, Go.Lib.joinTail]
theorem jn_app (a b : List ByteArray) : jn (a ++ b) = jn a ++ jn b := by simp [jn, Go.Lib.joinTail]
/-- The path of names. -/
def pathB (l : List ByteArray) : ByteArray := if l = [] then ⟨#[47]⟩ else txt (jn l)
/-- Has a name a '/', or is there one alone, which is empty? -/
def slash (l : List ByteArray) : Bool := l.any (fun x => hasB x 47) || decide (l = [⟨#[]⟩])
theorem slash_no {l : List ByteArray} (h : slash l = false) : (∀ x ∈ l, ¬ (47 : UInt8) ∈ bys x) ∧ l ≠ [⟨#[]⟩] := by
  unfold slash at h
  rw [Bool.or_eq_false_iff] at h
  refine ⟨fun x hx hm => ?_, by simpa using h.2⟩
  have h1 := List.any_eq_false.1 h.1 x hx
  exact h1 (by unfold hasB; simpa using hm)
theorem map_bys_inj {a b : List ByteArray} (h : a.map bys = b.map bys) : a = b := List.map_inj_right (fun x y hxy => bys_inj hxy) |>.1 h
theorem jn_len_pos {l : List ByteArray} (h : l ≠ []) : 1 ≤ (jn l).length := by
  cases l with
  | nil => exact absurd rfl h
  | cons x r => rw [jn_cons]; simp
theorem pathB_size (l : List ByteArray) : (pathB l).size = if l = [] then 1 else (jn l).length := by
  unfold pathB
  split
  · rfl
  · rw [← bys_len, bys_txt]
theorem pathB_bys {l : List ByteArray} (h : l ≠ []) : bys (pathB l) = jn l := by unfold pathB; rw [if_neg h, bys_txt]
theorem pathB_first (l : List ByteArray) : (bys (pathB l))[0]? = some 47 := by
  cases l with
  | nil => rfl
  | cons x r => rw [pathB_bys (by simp), jn_cons]; rfl
theorem names_spl {s : ByteArray} (h : s ≠ ⟨#[47]⟩) (h1 : 1 ≤ s.size) : (names s).map bys = spl [] ((bys s).drop 1) := by
  unfold names
  rw [if_neg h, pcs_spl s (s.size - 1) 1 1 (Nat.le_refl _) (by omega)]
  congr 1
  exact List.drop_eq_nil_of_le (by rw [List.length_take]; omega)
/-- The names of the path of names. -/
theorem names_path {l : List ByteArray} (h : slash l = false) : names (pathB l) = l := by
  obtain ⟨h1, h2⟩ := slash_no h
  cases l with
  | nil => unfold names pathB; rfl
  | cons x r =>
    have hb := pathB_bys (l := x :: r) (by simp)
    have hne : pathB (x :: r) ≠ ⟨#[47]⟩ := fun e => by
      have e2 : bys (pathB (x :: r)) = [47] := by rw [e]
      rw [hb, jn_cons] at e2
      have e3 : bys x ++ jn r = [] := by simpa using e2
      have e4 := List.append_eq_nil_iff.1 e3
      cases r with
      | nil => exact h2 (by rw [show x = ⟨#[]⟩ from bys_inj e4.1])
      | cons y t => rw [jn_cons] at e4; exact absurd e4.2 (by simp)
    have hsz : 1 ≤ (pathB (x :: r)).size := by rw [pathB_size, if_neg (by simp)]; exact jn_len_pos (by simp)
    apply map_bys_inj
    rw [names_spl hne hsz, hb, jn_cons, List.drop_one, List.tail_cons, spl_run _ _ _ (h1 x (by simp)), List.nil_append]
    exact spl_tail _ _ (fun y hy => by
      obtain ⟨z, hz, rfl⟩ := List.mem_map.1 hy
      exact h1 z (by simp [hz]))
/-- The path of a path's names. -/
theorem path_names {s : ByteArray} (h : s.data[0]! = 47) (h1 : 1 ≤ s.size) : pathB (names s) = s := by
  by_cases e : s = ⟨#[47]⟩
  · subst e; rfl
  · have hs := names_spl e h1
    have hne : names s ≠ [] := fun e2 => by rw [e2] at hs; exact spl_ne _ _ hs.symm
    apply bys_inj
    rw [pathB_bys hne]
    have hj := spl_join [] ((bys s).drop 1)
    rw [← hs, List.nil_append] at hj
    cases hn : names s with
    | nil => exact absurd hn hne
    | cons x r =>
      rw [hn, List.map_cons, Go.Lib.join_cons] at hj
      rw [jn_cons]
      unfold jn
      rw [hj]
      have hh : (bys s)[0]? = some 47 := by rw [bys_at s 0 h1, ← bang s 0 h1, h]
      cases hb : bys s with
      | nil => rw [hb] at hh; cases hh
      | cons c t => rw [hb] at hh; simp at hh; subst hh; simp
theorem names_free {s : ByteArray} (h1 : 1 ≤ s.size) : ∀ x ∈ names s, hasB x 47 = false := by
  by_cases e : s = ⟨#[47]⟩
  · subst e; intro x hx; cases hx
  · intro x hx
    have hs := names_spl e h1
    have hm : bys x ∈ spl [] ((bys s).drop 1) := by rw [← hs]; exact List.mem_map.2 ⟨x, hx, rfl⟩
    have := spl_free [] _ (by simp) _ hm
    unfold hasB
    simpa using this
theorem first_path (l : List ByteArray) : (pathB l).data[0]! = 47 := by
  have h := pathB_first l
  have h1 : 0 < (pathB l).size := by rw [← bys_len]; cases hb : bys (pathB l) with
    | nil => rw [hb] at h; cases h
    | cons c t => simp
  rw [bys_at _ 0 h1] at h
  rw [bang _ 0 h1]
  exact Option.some.inj h
theorem path_ne (l : List ByteArray) : pathB l ≠ ⟨#[]⟩ := fun e => by
  have h := pathB_first l
  rw [e] at h
  cases h
/-- What is wrong with the path of names. -/
theorem wrong_path {l : List ByteArray} (h : slash l = false) : wrongR (pathB l) = if 128 < (pathB l).size then 11 else if firstE l ≠ 0 then firstE l else if 8 < l.length then 11 else 0 := by
  unfold wrongR
  rw [if_neg (by rw [not_or]; exact ⟨path_ne l, fun h => h (first_path l)⟩), names_path h]
theorem wrong_long {l : List ByteArray} (h : 128 < (jn l).length) : wrongR (pathB l) = 11 := by
  have hl : l ≠ [] := fun e => by rw [e] at h; simp [jn_nil] at h
  unfold wrongR
  rw [if_neg (by rw [not_or]; exact ⟨path_ne l, fun h => h (first_path l)⟩), if_pos (by rw [pathB_size, if_neg hl]; exact h)]
/-- Nothing is wrong. -/
structure GoodP (s : ByteArray) : Prop where
  first : s.data[0]! = 47
  pos : 1 ≤ s.size
  small : s.size ≤ 128
  each : firstE (names s) = 0
  few : (names s).length ≤ 8
theorem wrong_zero {s : ByteArray} (h : wrongR s = 0) : GoodP s := by
  unfold wrongR at h
  by_cases h1 : s = ⟨#[]⟩ ∨ ¬ s.data[0]! = 47
  · rw [if_pos h1] at h; cases h
  · rw [if_neg h1] at h
    rw [not_or, Decidable.not_not] at h1
    by_cases h2 : 128 < s.size
    · rw [if_pos h2] at h; cases h
    · rw [if_neg h2] at h
      by_cases h3 : firstE (names s) ≠ 0
      · rw [if_pos h3] at h; exact absurd h h3
      · rw [if_neg h3] at h
        by_cases h4 : 8 < (names s).length
        · rw [if_pos h4] at h; cases h
        · refine ⟨h1.2, ?_, by omega, by simpa using h3, by omega⟩
          have : s.size ≠ 0 := fun e => h1.1 (by apply bys_inj; exact List.eq_nil_of_length_eq_zero (by rw [bys_len]; exact e))
          omega
theorem GoodP.wrong {s : ByteArray} (h : GoodP s) : wrongR s = 0 := by
  unfold wrongR
  have h1 : s ≠ ⟨#[]⟩ := fun e => by have := h.pos; rw [e] at this; cases this
  rw [if_neg (by rw [not_or]; exact ⟨h1, fun g => g h.first⟩), if_neg (by have := h.small; omega), if_neg (by rw [h.each]; simp), if_neg (by have := h.few; omega)]
/-- The parent of a path, and its last name. -/
theorem parent_of {s : ByteArray} (h : GoodP s) (h1 : s ≠ ⟨#[47]⟩) : ∃ (i : List ByteArray) (x : ByteArray) (k : Nat), names s = i ++ [x] ∧ Go.Lib.lastIndexByte s 47 = (k : Int) ∧ k + 1 ≤ s.size ∧ s.extract 0 (max k 1) = pathB i ∧ s.extract (k + 1) s.size = x ∧ nameE x = 0 ∧ slash i = false ∧ GoodP (pathB i) ∧ names (pathB i) = i := by
  have hp := path_names h.first h.pos
  have hs := names_spl h1 h.pos
  have hne : names s ≠ [] := fun e => by rw [e] at hs; exact spl_ne _ _ hs.symm
  obtain ⟨i, x, hix⟩ : ∃ i x, names s = i ++ [x] := ⟨_, _, (List.dropLast_concat_getLast hne).symm⟩
  have hfree := names_free h.pos
  have hz := firstE_zero h.each
  have hsl : slash i = false := by
    unfold slash
    rw [Bool.or_eq_false_iff]
    refine ⟨List.any_eq_false.2 fun y hy => by rw [hfree y (by rw [hix]; simp [hy])]; simp, ?_⟩
    have : i ≠ [⟨#[]⟩] := fun e => by
      have := hz ⟨#[]⟩ (by rw [hix, e]; simp)
      cases this
    simpa using this
  have hb : bys s = jn i ++ 47 :: bys x := by
    rw [← hp, pathB_bys hne, hix, jn_app, jn_cons, jn_nil, List.append_nil]
  have hx47 : ¬ (47 : UInt8) ∈ bys x := by
    have := hfree x (by rw [hix]; simp)
    unfold hasB at this
    simpa using this
  obtain ⟨k, hk⟩ : ∃ k, k = (jn i).length := ⟨_, rfl⟩
  have hsz : s.size = k + 1 + (bys x).length := by rw [← bys_len, hb, hk]; simp; omega
  have hat : ∀ j, j < s.size → s.data[j]! = (bys s).getD j 0 := fun j hj => by
    rw [bang s j hj, List.getD_eq_getElem?_getD, bys_at s j hj]; rfl
  have hlast : Go.Lib.lastIndexByte s 47 = (k : Int) := by
    have hkk : s.data[k]! = 47 := by rw [hat k (by omega), hb, hk]; simp
    have hbeh : ∀ j, k < j → j < s.size → ((s.data[j]!).toNat : Int) ≠ 47 := fun j h2 h3 e => by
      have e2 : s.data[j]! = 47 := by
        apply UInt8.toNat_inj.1
        have : (s.data[j]!).toNat = 47 := by omega
        rw [this]; rfl
      rw [hat j h3, hb, List.getD_eq_getElem?_getD, List.getElem?_append_right (by omega), show j - (jn i).length = (j - k - 1) + 1 by omega, List.getElem?_cons_succ] at e2
      have hlt : j - k - 1 < (bys x).length := by omega
      rw [List.getElem?_eq_getElem hlt] at e2
      exact hx47 (by rw [← show (bys x)[j - k - 1] = 47 from e2]; exact List.getElem_mem hlt)
    rcases Go.Lib.lastIndexByte_spec s 47 with ⟨_, h2⟩ | ⟨m, hm, e, hc, h2⟩
    · exact absurd (by rw [hkk]; rfl) (h2 k (by omega))
    · rw [e]
      rcases Nat.lt_trichotomy m k with h3 | h3 | h3
      · exact absurd (by rw [hkk]; rfl) (h2 k h3 (by omega))
      · rw [h3]
      · exact absurd hc (hbeh m h3 hm)
  have hpar : s.extract 0 (max k 1) = pathB i := by
    apply bys_inj
    rw [bys_cut, List.drop_zero]
    by_cases hi : i = []
    · subst hi
      rw [hk, hb]
      rfl
    · have := jn_len_pos hi
      rw [pathB_bys hi, show max k 1 = k by omega, hb, hk]
      simp
  have hgood : GoodP (pathB i) := by
    refine ⟨first_path i, ?_, ?_, ?_, ?_⟩
    · rw [pathB_size]; split
      · exact Nat.le_refl _
      · exact jn_len_pos (by assumption)
    · have := h.small
      rw [pathB_size]; split
      · omega
      · omega
    · rw [names_path hsl]
      exact firstE_of fun y hy => hz y (by rw [hix]; simp [hy])
    · rw [names_path hsl]
      have := h.few
      rw [hix] at this
      simp at this
      omega
  refine ⟨i, x, k, hix, hlast, by omega, hpar, ?_, hz x (by rw [hix]; simp), hsl, hgood, names_path hsl⟩
  apply bys_inj
  rw [bys_cut, hb, hsz, List.take_of_length_le (by simp; omega), hk]
  rw [show (jn i).length + 1 = (jn i ++ [47]).length by simp, show jn i ++ 47 :: bys x = (jn i ++ [47]) ++ bys x by simp, List.drop_left]

end Go.Proofs.Ytiffbkgohlbgeaa
