/-
  Texts on locks, put together: LkRef9 LkRef10.
-/
import Derived.Test.YtadopbpfnnpnaaaGreatL31
import Derived.Test.YtadopbpfnnpnaaaGreatL38
set_option linter.unusedVariables false
set_option linter.unusedSimpArgs false
/-
  The document's Ring.
-/
namespace Go.Proofs.YtadopbpfnnpnaaaGreat
open Go.RowKit Go.Maps

theorem rounds_snoc {F : Nat → List Nat} : ∀ {c : Nat} {S : List Nat}, manyRounds F (c + 1) S = oneRound F (manyRounds F c S).length 0 (manyRounds F c S)
  | 0, S => rfl
  | c + 1, S => by
    have := rounds_snoc (F := F) (c := c) (S := oneRound F S.length 0 S)
    unfold manyRounds
    exact this
theorem round_snoc {F : Nat → List Nat} : ∀ {c i : Nat} {S : List Nat}, oneRound F (c + 1) i S = adds (F ((oneRound F c i S).getD (i + c) 0)) (oneRound F c i S)
  | 0, i, S => rfl
  | c + 1, i, S => by
    have := round_snoc (F := F) (c := c) (i := i + 1) (S := adds (F (S.getD i 0)) S)
    unfold oneRound
    rw [show i + (c + 1) = i + 1 + c by omega]
    exact this
theorem round_len {F : Nat → List Nat} : ∀ {c i : Nat} {S : List Nat}, S.length ≤ (oneRound F c i S).length
  | 0, i, S => Nat.le_refl _
  | c + 1, i, S => by
    unfold oneRound
    exact Nat.le_trans adds_len round_len
def DT.own (D : DT) : List Nat := D.held.map DL.o ++ D.line.map DL.o
structure RiD (w wr : World) (D : DT) (v : Value) (S : List Nat) : Prop where
  us : Us wr w.heap.size v S
  gr : Gr w wr
  rise : S.Pairwise (· < ·)
  sub : ∀ b, b ∈ S → b ∈ D.own
section
variable {w wr w' : World} {base d : Nat} {D : DT}
theorem RiD.len {v : Value} {S : List Nat} (h : RiD w wr D v S) : S.length ≤ D.held.length + D.line.length := by
  have := nodup_le S D.own (h.rise.imp (fun h => Nat.ne_of_lt h)) h.sub
  unfold DT.own at this
  simpa using this
theorem RiD.more {v : Value} {S : List Nat} (h : RiD w wr D v S) (g : Gr wr w') : RiD w w' D v S := ⟨h.us.gr g, h.gr.trans g, h.rise, h.sub⟩
theorem RiD.add {v v' : Value} {S : List Nat} (h : RiD w wr D v S) {X : Nat} (hX : X ∈ D.own) (hu : Us w' w.heap.size v' (addN X S)) (g : Gr wr w') : RiD w w' D v' (addN X S) :=
  ⟨hu, h.gr.trans g, addN_rise h.rise, fun b hb => by
    rcases mem_addN.1 hb with e | e
    · rw [e]; exact hX
    · exact h.sub b e⟩
theorem forL_own {o b : Nat} (h : b ∈ D.forL o) : b ∈ D.own := by
  unfold DT.own
  rw [List.mem_append]
  rcases (mem_forL.1 h).2 with ⟨y, y1, _, _, _, y5⟩ | ⟨y, y1, _, _, y4⟩
  · exact .inl (List.mem_map.2 ⟨y, y1, y5⟩)
  · exact .inr (List.mem_map.2 ⟨y, List.takeWhile_subset _ y1, y4⟩)
set_option maxRecDepth 100000 in
theorem dRing_any (h : DtAt w base d D) (hnh : D.held.length ≤ 10000) (hnl : D.line.length ≤ 10000) (o : Nat) : Calls Tryz.prog 34 #[.pointer (some ⟨d, 0, none⟩), .int .u64 (o : Int)] w fun e w' => e = .returned (.bool (D.ring o)) ∧ Gr w w' := by
  have HF := Lib.hid fun (q : Nat) (W : World) (g : Gr w W) => dFor_any (h.gr g) (by omega) (by omega) q
  obtain ⟨hv, lv, hb, hh, hl, -⟩ := h.ex
  obtain ⟨pl, cl, rfl⟩ := dform hl
  obtain ⟨M, hM⟩ : ∃ M, M = D.line.length := ⟨_, rfl⟩
  have c1 := hb.cell 1
  simp at c1
  rw [← hM] at c1
  obtain ⟨I, hI⟩ : ∃ I, I = D.ring o := ⟨_, rfl⟩
  rw [← hI]
  have hMn : M ≤ 10000 := by omega
  have HI := Lib.hid (And.intro hI (And.intro hM (And.intro hnh (And.intro c1 hb.lt))))
  clear h hb hh hl hM c1 hI hnh hnl
  go_enter Tryz.func34, Tryz.ntmps34
  go_wp2_with fail
  refine (HF.out o w (Gr.refl _)).mono ?_
  rintro e w2 ⟨v2, rfl, hu, hg⟩
  have R1 : Hid (RiD w w2 D v2 (manyRounds D.forL 0 (D.forL o))) := Lib.hid ⟨hu, hg, forL_rise D o, fun b hb => forL_own hb⟩
  clear hu hg
  go_wp2_with fail
  go_loopw [6, 5] (fun rd s7 wr => ∃ k : Nat, rd = .int .i64 (k : Int) ∧ k ≤ M + 1 ∧ Hid (RiD w wr D s7 (manyRounds D.forL k (D.forL o)))) (fun rd _ _ => M + 1 - (intOf rd).toNat)
  case atStart => exact ⟨0, rfl, by omega, R1⟩
  case round =>
    obtain ⟨k, rfl, hk, HR⟩ := hrel
    have c1 := (HR.out.gr.cell HI.out.2.2.2.2).trans HI.out.2.2.2.1
    by_cases hkm : k ≤ M
    · have hkz : (k : Int) ≤ (M : Int) := by omega
      have ekz : decide ((k : Int) ≤ (M : Int)) = true := decide_eq_true hkz
      have hw9 : IntKind.i64.wrap ((k : Int) + 1) = ((k + 1 : Nat) : Int) := by rw [IntWalk.i64_in _ (by omega)]; omega
      obtain ⟨S, hS⟩ : ∃ S, S = manyRounds D.forL k (D.forL o) := ⟨_, rfl⟩
      rw [← hS] at HR
      obtain ⟨p7, n7, c7, hv7, hn7, hm7, -⟩ := HR.out.us.split
      subst hv7
      have hb7 : n7 ≤ 20000 := by have := HR.out.len; have := HI.out.2.1; have := HI.out.2.2.1; omega
      have HN := Lib.hid (And.intro hn7 hS)
      clear hn7 hm7 hS
      go_wp2_with fail
      go_loopw [8, 5] (fun iv s7 wr => ∃ i : Nat, iv = .int .i64 (i : Int) ∧ i ≤ n7 ∧ Hid (RiD w wr D s7 (oneRound D.forL i 0 S))) (fun iv _ _ => n7 - (intOf iv).toNat)
      case atStart => exact ⟨0, rfl, Nat.zero_le _, HR⟩
      case round =>
        obtain ⟨i, rfl, hi, HZ⟩ := hrel
        by_cases hin : i < n7
        · have hiz : (i : Int) < (n7 : Int) := by omega
          have hi0 : (0 : Int) ≤ (i : Int) := by omega
          have hw8 : IntKind.i64.wrap ((i : Int) + 1) = ((i + 1 : Nat) : Int) := by rw [IntWalk.i64_in _ (by omega)]; omega
          obtain ⟨Z, hZ⟩ : ∃ Z, Z = oneRound D.forL i 0 S := ⟨_, rfl⟩
          have hZl : S.length ≤ Z.length := by rw [hZ]; exact round_len
          rw [← hZ] at HZ
          obtain ⟨p2, n2, c2, hv2, hn2, hm2, hat⟩ := HZ.out.us.split
          subst hv2
          have hin2 : i < n2 := by have := HN.out.1; omega
          obtain ⟨g2, rfl, hcap, hcell⟩ := hat i hin2
          obtain ⟨q, hq⟩ : ∃ q, q = Z.getD i 0 := ⟨_, rfl⟩
          rw [← hq] at hcell
          have hnext : oneRound D.forL (i + 1) 0 S = adds (D.forL q) Z := by rw [round_snoc, ← hZ, Nat.zero_add, ← hq]
          have HQ := Lib.hid hnext
          have hb2 : n2 ≤ 20000 := by have := HZ.out.len; have := HI.out.2.1; have := HI.out.2.2.1; omega
          clear hq hn2 hm2 hat hnext hZ hZl
          go_wp2_with fail
          refine (HF.out q wr HZ.out.gr).mono ?_
          rintro e w3 ⟨v3, rfl, hu3, hg3⟩
          have R3 : Hid (RiD w w3 D (.slice (some ⟨g2, 0, none⟩) n2 c2) Z) := Lib.hid (HZ.out.more hg3)
          obtain ⟨p3, n3, c3, hv3, hn3, hm3, hat3⟩ := hu3.split
          subst hv3
          have hkl : (D.forL q).length ≤ 20000 := by
            have q1 := nodup_le (D.forL q) D.own ((forL_rise D q).imp (fun h => Nat.ne_of_lt h)) fun x hx => forL_own hx
            unfold DT.own at q1
            have := HI.out.2.1
            have := HI.out.2.2.1
            simp at q1
            omega
          have hn3b : n3 ≤ 20000 := by omega
          obtain ⟨hb3, hhb3⟩ : ∃ b, b = wr.heap.size := ⟨_, rfl⟩
          have D3 : Hid (Us w3 hb3 (.slice p3 n3 c3) (D.forL q)) := Lib.hid (by rw [hhb3]; exact hu3)
          have HK := Lib.hid hn3
          clear hu3 hg3 hkl hm3 hat3 hn3 hcell HZ hhb3 c1
          go_wp2_with fail
          go_loopw [10, 5] (fun kv s7 wr3 => ∃ kk : Nat, kv = .int .i64 (kk : Int) ∧ kk ≤ n3 ∧ Hid (RiD w wr3 D s7 (adds ((D.forL q).take kk) Z)) ∧ Hid (Us wr3 hb3 (.slice p3 n3 c3) (D.forL q))) (fun kv _ _ => n3 - (intOf kv).toNat)
          case atStart => exact ⟨0, rfl, Nat.zero_le _, R3, D3⟩
          case round =>
            obtain ⟨kk, rfl, hkk, HU, HD⟩ := hrel
            by_cases hk3 : kk < n3
            · have hkz3 : (kk : Int) < (n3 : Int) := by omega
              have hk0 : (0 : Int) ≤ (kk : Int) := by omega
              have hw7 : IntKind.i64.wrap ((kk : Int) + 1) = ((kk + 1 : Nat) : Int) := by rw [IntWalk.i64_in _ (by omega)]; omega
              obtain ⟨p3', n3', c3', hv3', hn3', -, hat3⟩ := HD.out.split
              simp only [Value.slice.injEq] at hv3'
              obtain ⟨rfl, rfl, rfl⟩ := hv3'
              obtain ⟨g3, rfl, hcap3, hcell3⟩ := hat3 kk hk3
              obtain ⟨X, hX⟩ : ∃ X, X = (D.forL q).getD kk 0 := ⟨_, rfl⟩
              rw [← hX] at hcell3
              have hkl : kk < (D.forL q).length := by omega
              have hXk : X ∈ D.forL q := by rw [hX]; exact getD_in hkl
              have hsn : adds ((D.forL q).take (kk + 1)) Z = addN X (adds ((D.forL q).take kk) Z) := by
                rw [List.take_succ_eq_append_getElem hkl, adds_snoc, hX, getD_nth hkl]
              have hub : (adds ((D.forL q).take kk) Z).length ≤ 900000000 := by have := HU.out.len; have := HI.out.2.1; have := HI.out.2.2.1; omega
              have HX := Lib.hid (And.intro (forL_own hXk) (And.intro hsn hub))
              clear hX hXk hat3 hn3' hkl hsn hub
              go_wp2_with fail
              refine (dadd_any HU.out.us HU.out.gr.size HX.out.2.2 X).mono ?_
              rintro e w5 ⟨v5, rfl, hu5, g5⟩
              have H5 := Lib.hid (show RiD w w5 D v5 (adds ((D.forL q).take (kk + 1)) Z) ∧ Us w5 hb3 (.slice (some ⟨g3, 0, none⟩) n3 c3) (D.forL q) by
                rw [HX.out.2.1]
                exact ⟨HU.out.add HX.out.1 hu5 g5, HD.out.gr g5⟩)
              clear hu5 g5 hcell3
              go_wp2_with fail
              go_roundw
              case rel => exact ⟨kk + 1, by simp, by omega, Lib.hid H5.out.1, Lib.hid H5.out.2⟩
              case measure => simp [intOf]; omega
            · have hkz3 : ¬ (kk : Int) < (n3 : Int) := by omega
              have hkn : kk = n3 := by omega
              have HE : Hid (RiD w wr D u5 (oneRound D.forL (i + 1) 0 S)) := Lib.hid (by
                rw [HQ.out]
                have := HU.out
                rw [hkn, HK.out, List.take_length] at this
                exact this)
              clear hkn
              go_wp2_with fail
              go_roundw
              case rel => exact ⟨i + 1, by simp, by omega, HE⟩
              case measure => simp [intOf]; omega
        · have hiz : ¬ (i : Int) < (n7 : Int) := by omega
          have hin7 : i = n7 := by omega
          have HE : Hid (RiD w wr D u5 (manyRounds D.forL (k + 1) (D.forL o))) := Lib.hid (by
            rw [rounds_snoc, ← HN.out.2, ← HN.out.1, ← hin7]
            exact HZ.out)
          clear hin7 c1
          go_wp2_with fail
          go_roundw
          case rel => exact ⟨k + 1, by simp, by omega, HE⟩
          case measure => simp [intOf]; omega
    · have hkz : ¬ (k : Int) ≤ (M : Int) := by omega
      have ekz : decide ((k : Int) ≤ (M : Int)) = false := decide_eq_false hkz
      have hkM : k = M + 1 := by omega
      obtain ⟨S, hS⟩ : ∃ S, S = manyRounds D.forL k (D.forL o) := ⟨_, rfl⟩
      rw [← hS] at HR
      have hIS : I = decide (o ∈ S) := by
        rw [HI.out.1, hS, hkM, HI.out.2.1]
        rfl
      obtain ⟨p7, n7, c7, hv7, hn7, hm7, hat7⟩ := HR.out.us.split
      subst hv7
      have hb7 : n7 ≤ 20000 := by have := HR.out.len; have := HI.out.2.1; have := HI.out.2.2.1; omega
      have HN := Lib.hid (And.intro hn7 (And.intro hIS hat7))
      clear hn7 hm7 hS hat7 hIS hkM
      go_wp2_with fail
      go_loopw [11] (fun iv wq => ∃ i : Nat, iv = .int .i64 (i : Int) ∧ i ≤ n7 ∧ wq = wr ∧ Hid (∀ n, n < i → S.getD n 0 ≠ o)) (fun iv _ => n7 - (intOf iv).toNat)
      case atStart => exact ⟨0, rfl, Nat.zero_le _, rfl, Lib.hid fun n hn => by omega⟩
      case round =>
        obtain ⟨j, rfl, hj, rfl, HJ⟩ := hrel
        obtain ⟨hn7, hIS, hat7⟩ := HN.out
        by_cases hlt : j < n7
        · have g3 : (j : Int) < (n7 : Int) := by omega
          have hj0 : (0 : Int) ≤ (j : Int) := by omega
          obtain ⟨g, rfl, hcap, hcell⟩ := hat7 j hlt
          obtain ⟨X, hX⟩ : ∃ X, X = S.getD j 0 := ⟨_, rfl⟩
          rw [← hX] at hcell
          have hw1 : IntKind.i64.wrap ((j : Int) + 1) = ((j + 1 : Nat) : Int) := by rw [IntWalk.i64_in _ (by omega)]; omega
          by_cases he : X = o
          · have e1 : ((X : Int) == (o : Int)) = true := by rw [he]; simp
            have hd : I = true := by
              rw [hIS]
              refine decide_eq_true ?_
              rw [← he, hX]
              exact getD_in (by omega)
            subst hd
            clear hat7 hn7 hX he hIS
            go_wp2_with fail
            go_ret
            exact ⟨rfl, HR.out.gr⟩
          · have e1 : ((X : Int) == (o : Int)) = false := by rw [beq_eq_false_iff_ne]; omega
            have HJ2 : Hid (∀ n, n < j + 1 → S.getD n 0 ≠ o) := Lib.hid fun n hn => by
              by_cases e : n = j
              · rw [e, ← hX]; exact he
              · exact HJ.out n (by omega)
            have HMe : Hid (j + 1 ≤ n7 ∧ n7 - (j + 1) < n7 - j) := Lib.hid ⟨by omega, by omega⟩
            clear hat7 hn7 hX he hIS hj hlt
            go_wp2_with fail
            go_roundw
            case rel => exact ⟨j + 1, by simp, HMe.out.1, (by first | rfl | trivial), HJ2⟩
            case measure => simpa [intOf] using HMe.out.2
        · have g3 : ¬ (j : Int) < (n7 : Int) := by omega
          have hd : I = false := by
            rw [hIS]
            refine decide_eq_false fun e => ?_
            obtain ⟨n, hn, e2⟩ := List.getElem_of_mem e
            refine HJ.out n (by omega) ?_
            rw [getD_nth hn]
            exact e2
          subst hd
          clear hat7 hn7 hIS
          go_wp2_with fail
          go_ret
          exact ⟨rfl, HR.out.gr⟩
end
end Go.Proofs.YtadopbpfnnpnaaaGreat

/-
  The document's give.
-/
namespace Go.Proofs.YtadopbpfnnpnaaaGreat
open Go.RowKit Go.Maps

theorem dset_cells : ∀ (L : List DL) (j : Nat) (m : Int), j < L.length → (L.flatMap dcells).set (j * 5 + 3) (.int .i64 m) = (L.set j { L.getD j DL.zero with m := m }).flatMap dcells
  | [], j, m, h => by simp at h
  | x :: r, 0, m, _ => by simp [dcells]
  | x :: r, j + 1, m, h => by
    have ih := dset_cells r j m (by simpa using h)
    rw [List.flatMap_cons, List.set_append, if_neg (by simp [dcells]; omega), show (j + 1) * 5 + 3 - (dcells x).length = j * 5 + 3 by simp [dcells]; omega, ih]
    simp [List.flatMap_cons, List.getD]
theorem Dr.put {w : World} {base g N cap : Nat} {L : List DL} (h : Dr w base (.slice (some ⟨g, 0, none⟩) N cap) L) (hN : N = L.length) {j : Nat} (hj : j < L.length) (m : Int) :
    Dr (w.setCell ⟨g, j * 5 + 3, none⟩ (.int .i64 m)) base (.slice (some ⟨g, 0, none⟩) N cap) (L.set j { L.getD j DL.zero with m := m }) ∧ w.grownBy (w.setCell ⟨g, j * 5 + 3, none⟩ (.int .i64 m)) (some g) := by
  unfold Dr at h ⊢
  rw [List.length_set, ← dset_cells L j m hj, ← hN]
  rw [← hN] at h
  exact World.ownsRow.stored h (j * 5 + 3) (.int .i64 m)
theorem setM_here {o : Nat} {k : Key} {m : Int} : ∀ {L : List DL} {j : Nat}, j < L.length → isOf o k (L.getD j DL.zero) = true → (∀ n, n < j → isOf o k (L.getD n DL.zero) = false) → setM o k m L = L.set j { L.getD j DL.zero with m := m }
  | [], j, hj, _, _ => by simp at hj
  | x :: r, 0, _, h1, _ => by
    have h1' : isOf o k x = true := h1
    unfold setM
    rw [if_pos h1']
    rfl
  | x :: r, j + 1, hj, h1, h2 => by
    have h0 : isOf o k x = false := h2 0 (by omega)
    unfold setM
    rw [if_neg (by simp [h0]), setM_here (L := r) (j := j) (by simpa using hj) h1 fun n hn => h2 (n + 1) (by omega)]
    rfl
/-- The blocks of the document's table. -/
def DB (d : Nat) (hv lv : Value) (n : Nat) : Prop := n = d ∨ hv.ownBlock = some n ∨ lv.ownBlock = some n
structure DtA (w : World) (base d : Nat) (hv lv : Value) (D : DT) : Prop where
  blk : Blk w d TDt #[hv, lv]
  held : Dr w base hv D.held
  line : Dr w base lv D.line
  dh : hv.ownBlock ≠ some d
  dl : lv.ownBlock ≠ some d
  hl : ∀ k, hv.ownBlock = some k → lv.ownBlock ≠ some k
/-- Only those blocks have turned, and new ones. -/
structure DTn (w w' : World) (Q Q' : Nat → Prop) : Prop where
  os : w'.os = w.os
  tape : w'.tape = w.tape
  output : w'.output = w.output
  size : w.heap.size ≤ w'.heap.size
  blk : ∀ n, n < w.heap.size → ¬ Q n → w'.heap[n]? = w.heap[n]?
  sub : ∀ n, Q' n → Q n ∨ w.heap.size ≤ n
theorem DTn.of_gr {w w' : World} {Q : Nat → Prop} (g : Gr w w') : DTn w w' Q Q := ⟨g.os, g.tape, g.output, g.size, fun n hn _ => g.block n hn, fun _ h => .inl h⟩
theorem DTn.trans {a b c : World} {Q Q' Q'' : Nat → Prop} (h : DTn a b Q Q') (k : DTn b c Q' Q'') : DTn a c Q Q'' :=
  ⟨k.os.trans h.os, k.tape.trans h.tape, k.output.trans h.output, Nat.le_trans h.size k.size, fun n hn hq => (k.blk n (Nat.lt_of_lt_of_le hn h.size) (fun e => by
    rcases h.sub n e with e2 | e2
    · exact hq e2
    · omega)).trans (h.blk n hn hq), fun n hn => by
    rcases k.sub n hn with e | e
    · exact h.sub n e
    · exact .inr (Nat.le_trans h.size e)⟩
section
variable {w w' : World} {base d : Nat} {hv lv : Value} {D : DT}
theorem DtA.at (h : DtA w base d hv lv D) : DtAt w base d D := ⟨⟨hv, lv, h.blk, h.held, h.line, fun k e e2 => h.dh (by rw [e, e2]), fun k e e2 => h.dl (by rw [e, e2]), h.hl⟩⟩
theorem DtA.gr (h : DtA w base d hv lv D) (g : Gr w w') : DtA w' base d hv lv D := ⟨h.blk.gr g, h.held.gr g, h.line.gr g, h.dh, h.dl, h.hl⟩
def RetDt (base d : Nat) (hv lv : Value) (D' : DT) (w w' : World) : Prop := ∃ hv' lv', DtA w' base d hv' lv' D' ∧ DTn w w' (DB d hv lv) (DB d hv' lv')
/-- The mode of one is another now. -/
theorem DtA.setMode {g N cap : Nat} (h : DtA w base d (.slice (some ⟨g, 0, none⟩) N cap) lv D) (hN : N = D.held.length) {j : Nat} (hj : j < D.held.length) (m : Int) : RetDt base d (.slice (some ⟨g, 0, none⟩) N cap) lv { D with held := D.held.set j { D.held.getD j DL.zero with m := m } } w (w.setCell ⟨g, j * 5 + 3, none⟩ (.int .i64 m)) := by
  obtain ⟨p1, p2⟩ := h.held.put hN hj m
  have hgd : g ≠ d := fun e => h.dh (by rw [e]; rfl)
  refine ⟨_, _, ⟨h.blk.far (p := ⟨g, j * 5 + 3, none⟩) (fun e => hgd e.symm) _, p1, h.line.stays fun k hk => p2.block k (h.line.lt k hk).2 (fun e => h.hl g rfl (by rw [hk, e])), h.dh, h.dl, h.hl⟩, ⟨p2.os, p2.tape, p2.output, p2.size, fun n hn hq => p2.block n hn (fun e => hq (.inr (.inl e.symm))), fun n hn => .inl hn⟩⟩
/-- One comes behind them. -/
theorem DtA.newHeld (h : DtA w base d hv lv D) {W W' : World} {v' : Value} {L' : List DL} (g : Gr w W) (hv' : Dr W' base v' L') (hg : W.grownBy W' hv.ownBlock) (hc : v'.ownBlock = hv.ownBlock ∨ v'.ownBlock = some W.heap.size) : RetDt base d hv lv { D with held := L' } w (W'.setCell ⟨d, 0, none⟩ v') := by
  have hW := h.gr g
  have hd : d < W.heap.size := hW.blk.lt
  have b1 : Blk W' d TDt #[hv, lv] := hW.blk.stays (hg.block d hd (fun e => h.dh e.symm))
  have hvd : v'.ownBlock ≠ some d := by
    rcases hc with e | e
    · rw [e]; exact h.dh
    · rw [e]; intro e2; cases e2; omega
  have o1 : ∀ k, k ≠ d → (W'.setCell ⟨d, 0, none⟩ v').heap[k]? = W'.heap[k]? := fun k hk => heap_setCell_other W' ⟨d, 0, none⟩ k v' hk
  have s1 : (W'.setCell ⟨d, 0, none⟩ v').heap.size = W'.heap.size := by simp
  refine ⟨v', lv, ⟨b1.set 0 v', hv'.stays fun k hk => o1 k (fun e => hvd (by rw [hk, e])), (hW.line.stays fun k hk => hg.block k (hW.line.lt k hk).2 (fun e => h.hl k e.symm hk)).stays fun k hk => o1 k (fun e => h.dl (by rw [hk, e])), hvd, h.dl, fun k hk => ?_⟩, ⟨?_, ?_, ?_, ?_, fun n hn hq => ?_, fun n hn => ?_⟩⟩
  · rcases hc with e | e
    · rw [e] at hk; exact h.hl k hk
    · rw [e] at hk
      cases hk
      intro e2
      have := (hW.line.lt _ e2).2
      omega
  · exact hg.os.trans g.os
  · exact hg.tape.trans g.tape
  · exact hg.output.trans g.output
  · rw [s1]; exact Nat.le_trans g.size hg.size
  · rw [o1 n (fun e => hq (.inl e)), hg.block n (Nat.lt_of_lt_of_le hn g.size) (fun e => hq (.inr (.inl e.symm))), g.block n hn]
  · rcases hn with e | e | e
    · exact .inl (.inl e)
    · rcases hc with e2 | e2
      · rw [e2] at e; exact .inl (.inr (.inl e))
      · rw [e2] at e
        cases e
        exact .inr g.size
    · exact .inl (.inr (.inr e))
end
end Go.Proofs.YtadopbpfnnpnaaaGreat

