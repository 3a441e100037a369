
import Derived.Test.YtkoalabacfjgbaaDisk
namespace Go.Proofs.Ytkoalabacfjgbaa
open Go.RowKit Go.Maps

theorem DkAt.cells {w : World} {F : Nat → Prop} {b : Nat} {lv : Value} {m : Nat} {L : Nat → Value} {s : St} (h : DkAt w F b lv m L s) :
    w.cell? ⟨b, 0, none⟩ = some lv ∧ w.cell? ⟨b, 1, none⟩ = some (.map (some m)) ∧ w.cell? ⟨b, 2, none⟩ = some (.int .i64 s.fuse) ∧ w.cell? ⟨b, 3, none⟩ = some (.bool s.dead) ∧ w.cell? ⟨b, 4, none⟩ = some (.int .i64 (s.writes : Int)) :=
  ⟨h.blk.cell 0, h.blk.cell 1, h.blk.cell 2, h.blk.cell 3, h.blk.cell 4⟩
theorem DkAt.lv {w : World} {F : Nat → Prop} {b : Nat} {lv : Value} {m : Nat} {L : Nat → Value} {s : St} (h : DkAt w F b lv m L s) : ∃ g c, lv = .slice (some ⟨g, 0, none⟩) s.ls.length c :=
  let ⟨g, c, e, _⟩ := h.ls.full (fun e => by have := h.ok.pos; rw [e] at this; simp at this)
  ⟨g, c, e⟩

set_option maxRecDepth 100000 in
theorem missing_no {F : Nat → Prop} {b : Nat} {lv : Value} {m : Nat} {L : Nat → Value} {s : St} (w : World) (h : DkAt w F b lv m L s) : Calls Try.prog 31 #[.pointer (some ⟨b, 0, none⟩)] w fun e w' => e = .returned (.bool false) ∧ w = w' := by
  obtain ⟨h0, h1, h2, h3, h4⟩ := h.cells
  obtain ⟨g, c, rfl⟩ := h.lv
  obtain ⟨N, hN⟩ : ∃ N, N = s.ls.length := ⟨_, rfl⟩
  have hp := h.ok.pos
  rw [← hN] at h0 hp
  have hz : ((N : Int) == 0) = false := by simp; omega
  clear h hN h1 h2 h3 h4
  go_enter Try.func31, Try.ntmps31
  go_wp2
  go_ret
  exact ⟨rfl, rfl⟩

/-- No disk: nil, or a zero one. -/
def Gone (w : World) (p : Value) : Prop := p = .pointer none ∨ ∃ b, p = .pointer (some ⟨b, 0, none⟩) ∧ Blk w b TD #[.slice none 0 0, .map none, .int .i64 0, .bool false, .int .i64 0]
theorem Gone.gr {w w' : World} {p : Value} (h : Gone w p) (g : Gr w w') : Gone w' p := by
  rcases h with h | ⟨b, e, h⟩
  · exact .inl h
  · exact .inr ⟨b, e, h.gr g⟩
theorem Gone.shape {w : World} {p : Value} (h : Gone w p) : ∃ a, p = .pointer a := by
  rcases h with h | ⟨b, e, h⟩
  · exact ⟨_, h⟩
  · exact ⟨_, e⟩

set_option maxRecDepth 100000 in
theorem missing_yes (p : Option Addr) (w : World) (h : Gone w (.pointer p)) : Calls Try.prog 31 #[.pointer p] w fun e w' => e = .returned (.bool true) ∧ w = w' := by
  rcases h with h | ⟨b, e, h⟩
  · cases h
    go_enter Try.func31, Try.ntmps31
    go_wp2
    go_ret
    exact ⟨rfl, rfl⟩
  · cases e
    have h0 := h.cell 0
    clear h
    go_enter Try.func31, Try.ntmps31
    go_wp2
    go_ret
    exact ⟨rfl, rfl⟩

def askE (n : Nat) (i : Int) : Int := if i < 0 ∨ (n : Int) ≤ i then 2 else 0

set_option maxRecDepth 100000 in
theorem asked_any {F : Nat → Prop} {b : Nat} {lv : Value} {m : Nat} {L : Nat → Value} {s : St} (w : World) (h : DkAt w F b lv m L s) (i : Int) : Calls Try.prog 36 #[.pointer (some ⟨b, 0, none⟩), .int .i64 i] w fun e w' => e = .returned (.int .i64 (askE s.ls.length i)) ∧ w = w' := by
  have HM := Lib.hid (missing_no w h)
  obtain ⟨h0, h1, h2, h3, h4⟩ := h.cells
  obtain ⟨g, c, rfl⟩ := h.lv
  obtain ⟨N, hN⟩ : ∃ N, N = s.ls.length := ⟨_, rfl⟩
  rw [← hN] at h0 ⊢
  clear h hN h1 h2 h3 h4
  by_cases hi : i < 0
  · have HE : Hid (askE N i = 2) := Lib.hid (by unfold askE; rw [if_pos (.inl hi)])
    go_enter Try.func36, Try.ntmps36
    go_wp2_with fail
    refine HM.out.mono ?_
    rintro e w' ⟨rfl, rfl⟩
    go_wp2
    go_ret
    exact ⟨ret_i HE.out.symm, rfl⟩
  · by_cases hj : (N : Int) ≤ i
    · have HE : Hid (askE N i = 2) := Lib.hid (by unfold askE; rw [if_pos (.inr hj)])
      go_enter Try.func36, Try.ntmps36
      go_wp2_with fail
      refine HM.out.mono ?_
      rintro e w' ⟨rfl, rfl⟩
      go_wp2
      go_ret
      exact ⟨ret_i HE.out.symm, rfl⟩
    · have HE : Hid (askE N i = 0) := Lib.hid (by unfold askE; rw [if_neg (by omega)])
      go_enter Try.func36, Try.ntmps36
      go_wp2_with fail
      refine HM.out.mono ?_
      rintro e w' ⟨rfl, rfl⟩
      go_wp2
      go_ret
      exact ⟨ret_i HE.out.symm, rfl⟩

theorem nw_none {s : St} {i : Nat} (h : s.t i = []) : s.nw i = s.ls.getD i Sec.zero := by unfold St.nw; rw [h]; rfl
theorem last_at {α : Type} (d : α) : ∀ (l : List α) (h : l.length - 1 < l.length), l[l.length - 1] = l.getLastD d
  | [], h => by simp at h
  | x :: r, h => by rw [← List.getLast_eq_getElem (by simp), List.getLast_eq_getLastD, List.getLastD_cons]
theorem nw_some {s : St} {i : Nat} (h : (s.t i).length - 1 < (s.t i).length) : (s.t i)[(s.t i).length - 1] = s.nw i := last_at _ _ h

set_option maxRecDepth 100000 in
set_option maxHeartbeats 1000000 in
theorem newest_any {F : Nat → Prop} {b : Nat} {lv : Value} {m : Nat} {L : Nat → Value} {s : St} (w : World) (h : DkAt w F b lv m L s) (i : Nat) (hi : i < s.ls.length) : Calls Try.prog 35 #[.pointer (some ⟨b, 0, none⟩), .int .i64 (i : Int)] w fun e w' => e = .returned (.agg (sec (s.nw i))) ∧ Gr w w' := by
  have hi2 : (i : Int) < 65536 := by have := h.ok.most; omega
  have hg : Gr w (w.alloc (.cells (sec Sec.zero) TS)) := (Gr.refl w).alloc (Nat.le_refl _) _
  have h' := h.gr hg
  obtain ⟨h0, h1, h2, h3, h4⟩ := h'.cells
  obtain ⟨g, c, rfl⟩ := h.lv
  have HK := Lib.hid (h'.map.look i hi h.ok.most)
  have HZ := Lib.hid zero_sec
  have HN := Lib.hid (Blk.new w TS (sec Sec.zero))
  have hN : (i : Int) < (s.ls.length : Int) := by omega
  clear h2 h3 h4
  by_cases ht : s.t i = []
  · have HW := Lib.hid (nw_none ht)
    have hL : L i = nilS := by
      obtain ⟨D, n, ho, hn, ha, hh, _⟩ := h'.map
      have : has D (key i) = false := by
        cases hc : has D (key i) with
        | false => rfl
        | true => exact absurd ht ((hh i hi).1 hc)
      have e := ha i hi
      rw [atKey_of_not_has this] at e
      simpa using e.symm
    have hk := HK.out
    rw [hL] at hk
    have HL := Lib.hid (h'.ls.lies i hi)
    have HS : Hid (s.ls[i] = s.nw i) := Lib.hid (by rw [HW.out]; simp [List.getD, hi])
    obtain ⟨N, hN⟩ : ∃ N, N = s.ls.length := ⟨_, rfl⟩
    obtain ⟨x, hx⟩ : ∃ x, x = s.ls[i] := ⟨_, rfl⟩
    rw [← hx] at HL HS
    rw [← hN] at h0 hi
    clear h h' HK ht hL HW hN hx
    go_enter Try.func35, Try.ntmps35
    have hz := HZ.out
    clear HZ
    go_wp2_with (first | (refine wpList_load_sec rfl _ rfl HL.out rfl ?_) | (refine wpList_store_sec rfl _ _ rfl HN.out rfl rfl ?_))
    exact bodyPost_ret (results_sec rfl _ _ _ _ rfl (HN.out.row _)) rfl ⟨by rw [HS.out], below_setRow hg (Nat.le_refl _) _⟩
  · have hl : (s.t i).length - 1 < (s.t i).length := by have := List.length_pos_iff.2 ht; omega
    have hlen : (s.t i).length ≤ 9223372036854775807 := by
      obtain ⟨g', c', _, _, h5, h6⟩ := (h.rows i).full ht
      unfold maxLen at h6; omega
    have hr := h'.rows i
    obtain ⟨g', c', e, _⟩ := hr.full ht
    have hk := HK.out
    rw [e] at hk hr
    have HL := Lib.hid (hr.lies _ hl)
    have HS := Lib.hid (nw_some hl)
    rw [HS.out] at HL
    obtain ⟨k, hM⟩ : ∃ k, (s.t i).length = k + 1 := ⟨(s.t i).length - 1, by omega⟩
    have hk1 : (s.t i).length - 1 = k := by omega
    rw [hk1] at HL
    rw [hM] at hk hlen
    have hpos : (0 : Int) < ((k + 1 : Nat) : Int) := by omega
    clear h h' HK hr e hM h0 ht HS hi hi2 hN hl hk1
    go_enter Try.func35, Try.ntmps35
    have hz := HZ.out
    clear HZ
    go_wp2_with (first | (refine wpList_load_sec rfl _ rfl HL.out rfl ?_) | (refine wpList_store_sec rfl _ _ rfl HN.out rfl rfl ?_))
    exact bodyPost_ret (results_sec rfl _ _ _ _ rfl (HN.out.row _)) rfl ⟨rfl, below_setRow hg (Nat.le_refl _) _⟩

end Go.Proofs.Ytkoalabacfjgbaa
