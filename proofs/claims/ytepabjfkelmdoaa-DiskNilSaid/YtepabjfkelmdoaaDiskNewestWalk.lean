import Derived.Test.YtepabjfkelmdoaaDiskFuseWalk
namespace Go.Proofs.Ytepabjfkelmdoaa
open Go.RowKit Go.Maps

abbrev TA : TypeId := 69
theorem getD_zeros (n j : Nat) : (List.replicate n Sec.zero).getD j Sec.zero = Sec.zero := by
  unfold List.getD
  rw [List.getElem?_replicate]
  split <;> rfl
/-- Twenty of noughts. -/
def zeros20 : List Sec := List.replicate 20 Sec.zero
theorem zero_arr (w : World) : (zeroValue TA).run Try.prog w = .ok (.agg (cellsOf zeros20).toArray) w :=
  (zero_of_info (n := 5120) (show (Try.prog.info? TA).map (fun i => (i.zero, i.size)) = some (some (.agg (cellsOf zeros20).toArray), 5120) by kernel_rfl)).1 w

theorem Blk.lies {w : World} {g : Nat} {t : TypeId} {ss : List Sec} (h : Blk w g t (cellsOf ss).toArray) (i : Nat) (hi : i < ss.length) : w.rangeAt g (i * 256) (ss[i]).cells := by
  intro j v hv
  have hj : j < 256 := by have := (List.getElem?_eq_some_iff.1 hv).1; rwa [Sec.cells_len] at this
  rw [← hv, ← cellsOf_at ss i hi j hj, h.cell]
  simp
theorem Blk.there {w : World} {g : Nat} {t : TypeId} {ss : List Sec} (h : Blk w g t (cellsOf ss).toArray) (i : Nat) (hi : i < ss.length) : w.there g (i * 256) 256 := by
  intro j hj
  have hl := h.lies i hi
  refine ⟨?_, h.frozen _⟩
  have hjl : j < (ss[i]).cells.length := by rw [Sec.cells_len]; exact hj
  rw [hl j _ (List.getElem?_eq_getElem hjl)]
  rfl
theorem Blk.put {w : World} {g : Nat} {t : TypeId} {ss : List Sec} (h : Blk w g t (cellsOf ss).toArray) (i : Nat) (hi : i < ss.length) (s : Sec) : Blk (w.setCells g (i * 256) s.cells) g t (cellsOf (ss.set i s)).toArray := by
  have hfit : i * 256 + s.cells.length ≤ (cellsOf ss).toArray.size := by
    rw [s.cells_len, List.size_toArray, cellsOf_len]
    have := Nat.mul_le_mul_right 256 (show i + 1 ≤ ss.length from hi)
    rwa [Nat.add_mul, Nat.one_mul] at this
  have := heap_setCells_same g t s.cells (i * 256) w _ h hfit
  unfold Blk
  rw [this, cellsOf_set ss i hi s, s.cells_len]

/-- Slices of bytes, of bools, as they come in. -/
structure Bys (w : World) (p : Option Addr) (n c : Nat) (xs : List Int) : Prop where
  len : xs.length = n
  most : n ≤ 9223372036854775807
  lies : 0 < n → ∃ b o, p = some ⟨b, o, none⟩ ∧ ∀ i, i < n → w.cell? ⟨b, o + i, none⟩ = some (.int .u8 (xs.getD i 0))
  ok : ∀ x ∈ xs, 0 ≤ x ∧ x < 256
structure Bls (w : World) (p : Option Addr) (n c : Nat) (xs : List Bool) : Prop where
  len : xs.length = n
  most : n ≤ 9223372036854775807
  lies : 0 < n → ∃ b o, p = some ⟨b, o, none⟩ ∧ ∀ i, i < n → w.cell? ⟨b, o + i, none⟩ = some (.bool (xs.getD i false))
theorem Bys.gr {w w' : World} {p : Option Addr} {n c : Nat} {xs : List Int} (h : Bys w p n c xs) (g : Gr w w') : Bys w' p n c xs :=
  ⟨h.len, h.most, fun hn => by
    obtain ⟨b, o, e, hc⟩ := h.lies hn
    exact ⟨b, o, e, fun i hi => by rw [g.cell (World.block_lt_of_cell? w _ (hc i hi))]; exact hc i hi⟩, h.ok⟩
theorem Bls.gr {w w' : World} {p : Option Addr} {n c : Nat} {xs : List Bool} (h : Bls w p n c xs) (g : Gr w w') : Bls w' p n c xs :=
  ⟨h.len, h.most, fun hn => by
    obtain ⟨b, o, e, hc⟩ := h.lies hn
    exact ⟨b, o, e, fun i hi => by rw [g.cell (World.block_lt_of_cell? w _ (hc i hi))]; exact hc i hi⟩⟩

theorem nw_wrote (s : St) (J j : Nat) (x : Sec) : (s.wrote J x).nw j = if j = J then x else s.nw j := by
  unfold St.nw St.wrote
  by_cases h : j = J
  · subst h; simp
  · simp [h]
theorem nw_barrier (s : St) (j : Nat) (hj : j < s.ls.length) : s.barrier.nw j = s.nw j := by
  rw [nw_none (s := s.barrier) rfl]
  unfold St.barrier
  simp [List.getD, hj]

/-- The law's disk, and what it wrote last. -/
def Mine (w wr : World) (d : Value) (bl N k : Nat) (s : St) (l : List Sec) : Prop :=
  ∃ F, Dk wr F d s ∧ Gr w wr ∧ (∀ k, F k → w.heap.size ≤ k) ∧ Out F wr bl ∧ Blk wr bl TA (cellsOf l).toArray ∧ w.heap.size ≤ bl ∧ l.length = 20 ∧ s.ls.length = N ∧ s.fuse = -1 ∧ s.dead = false ∧ s.writes ≤ k ∧ ∀ j, j < N → s.nw j = l.getD j Sec.zero
theorem Mine.gr {w wr wx : World} {d : Value} {bl N k : Nat} {s : St} {l : List Sec} (h : Mine w wr d bl N k s l) (g : Gr wr wx) : Mine w wx d bl N k s l := by
  obtain ⟨F, h1, h2, h3, h4, h5, r⟩ := h
  exact ⟨F, h1.gr g, Gr.trans h2 g, h3, ⟨h4.1, Nat.lt_of_lt_of_le h4.2 g.size⟩, h5.gr g, r⟩
theorem Mine.grown {w wr : World} {d : Value} {bl N k : Nat} {s : St} {l : List Sec} (h : Mine w wr d bl N k s l) : Gr w wr := by
  obtain ⟨F, h1, h2, r⟩ := h
  exact h2

/-- What the slots of the test hold. -/
def Sq (bl j _n8 : Nat) (S : Sec) (d : Nat) (v : Value) (_ : World) : Prop :=
  match d with
  | 100 => v = .int .i64 0
  | 101 | 102 | 107 | 108 => v = .bool false
  | 103 | 106 => v = .agg (sec S)
  | 104 => v = .int .i64 (j : Int)
  | 105 => v = .pointer (some ⟨bl, j * 256, none⟩)
  | _ => True

set_option maxRecDepth 100000 in
set_option maxHeartbeats 4000000 in
theorem diskNewest_walk (n : Int) (q : Option Addr) (m c : Nat) (zs : List Int) (q2 : Option Addr) (m2 c2 : Nat) (ys : List Int) (q3 : Option Addr) (m3 c3 : Nat) (bs : List Bool) (w : World) (hz : Nums w q m c zs) (hy : Bys w q2 m2 c2 ys) (hb : Bls w q3 m3 c3 bs) :
    Calls Try.prog 8 #[.int .i64 n, .slice q m c, .slice q2 m2 c2, .slice q3 m3 c3] w fun e w' => RetTrue w e w' := by
  have hm63 := hz.most
  have hm63' := hy.most
  have hm63'' := hb.most
  have HZ := Lib.hid hz
  have HY := Lib.hid hy
  have HBs := Lib.hid hb
  clear hz hy hb
  by_cases h1 : n < 1
  · clear HZ HY HBs
    go_enter Try.func8, Try.ntmps8
    go_wp2_with fail
    refine (known_any _).mono ?_
    rintro e w1 ⟨rfl, g1⟩
    go_wp2_with fail
    go_ret
    exact ⟨rfl, g1⟩
  · by_cases h2 : 20 < n
    · clear HZ HY HBs
      go_enter Try.func8, Try.ntmps8
      go_wp2_with fail
      refine (known_any _).mono ?_
      rintro e w1 ⟨rfl, g1⟩
      go_wp2_with fail
      go_ret
      exact ⟨rfl, g1⟩
    · by_cases h3 : 100 < m
      · have h3' : (100 : Int) < (m : Int) := by omega
        clear HZ HY HBs
        go_enter Try.func8, Try.ntmps8
        go_wp2_with fail
        refine (known_any _).mono ?_
        rintro e w1 ⟨rfl, g1⟩
        go_wp2_with fail
        go_ret
        exact ⟨rfl, g1⟩
      · have h3' : ¬ (100 : Int) < (m : Int) := by omega
        obtain ⟨N, rfl⟩ := Int.eq_ofNat_of_zero_le (show 0 ≤ n by omega)
        go_enter Try.func8, Try.ntmps8
        go_wp2_with fail
        refine (New_yes N _ ⟨by omega, by omega⟩).mono ?_
        rintro e w1 ⟨d, F, rfl, hd, hg, hfar⟩
        have hzz := zero_arr
        have hga : Gr w1 (w1.alloc (.cells (cellsOf zeros20).toArray TA)) := Gr.new _ _
        have HM : Hid (Mine w (w1.alloc (.cells (cellsOf zeros20).toArray TA)) d w1.heap.size N 0 (fresh (List.replicate N Sec.zero)) zeros20) := Lib.hid
          ⟨F, hd.gr hga, Gr.trans hg hga, hfar, ⟨fun hf => by have := hd.low _ hf; omega, by simp⟩, Blk.new _ _ _, hg.size, List.length_replicate .., by simp [fresh], rfl, rfl, Nat.le_refl _, fun j hj => by
            rw [nw_none (s := fresh (List.replicate N Sec.zero)) rfl]
            exact (getD_zeros _ _).trans (getD_zeros _ _).symm⟩
        clear hd hg hfar hga
        go_wp2_with fail
        clear hzz
        obtain ⟨bl, hbl⟩ : ∃ bl, w1.heap.size = bl := ⟨_, rfl⟩
        generalize (w1.alloc (.cells (cellsOf zeros20).toArray TA)) = W1 at *
        rw [hbl] at HM ⊢
        clear hbl
        go_loopw [12] (fun i wr => ∃ (k : Nat) (s : St) (l : List Sec), k ≤ m ∧ i = .int .i64 k ∧ Hid (Mine w wr d bl N k s l)) (fun i _ => m - (intOf i).toNat)
        case atStart => exact ⟨0, _, _, Nat.zero_le _, rfl, HM.out⟩
        case round =>
          clear HM
          obtain ⟨k, s, l, hk, rfl, hmi⟩ := hrel
          by_cases hlt : k < m ∧ k < m2
          · obtain ⟨hlt1, hlt2⟩ := hlt
            obtain ⟨b2, o2, rfl, hc2⟩ := (HZ.out.gr hmi.out.grown).lies (by omega)
            have hcz := hc2 k hlt1
            obtain ⟨b3, o3, rfl, hc3⟩ := (HY.out.gr hmi.out.grown).lies (by omega)
            have hcy := hc3 k hlt2
            have HC3 := Lib.hid (fun (W : World) (h : Gr w W) => by
              obtain ⟨b4, o4, e4, hc4⟩ := (HY.out.gr h).lies (by omega)
              simp only [Option.some.injEq, Addr.mk.injEq, and_true] at e4
              obtain ⟨rfl, rfl⟩ := e4
              exact hc4 k hlt2)
            obtain ⟨Y, hY⟩ : ∃ Y, Y = ys.getD k 0 := ⟨_, rfl⟩
            have hYb : 0 ≤ Y ∧ Y < 256 := by
              rw [hY]
              refine HY.out.ok _ ?_
              have hl : k < ys.length := by rw [HY.out.len]; exact hlt2
              simp [List.getD, hl]
            obtain ⟨hY0, hY1⟩ := hYb
            rw [← hY] at hcy HC3
            obtain ⟨Z, hZ⟩ : ∃ Z, Z = zs.getD k 0 := ⟨_, rfl⟩
            rw [← hZ] at hcz
            obtain ⟨J, hJ, e1, e2, b1, b2', b3'⟩ := into Z N (by omega) (by omega)
            have HJ := Lib.hid hJ
            clear hc2 hc3 hZ hY hJ
            go_wp2_with fail
            refine (sector_at Y hY0 hY1 _).mono ?_
            rintro e w3 ⟨rfl, g3⟩
            obtain ⟨X, hX⟩ : ∃ X, Sec.of (UInt8.ofNat Y.toNat) = X := ⟨_, rfl⟩
            rw [hX]
            have HX := Lib.hid hX
            obtain ⟨F3, hd3, hg3, hf3, ho3, hb3, hbl3, hl3, hN3, hfu, hde, hwr, hnw⟩ := hmi.out.gr g3
            clear hX hmi g3 hcz e1 e2 b1 b2' b3' hcy
            have HWr : Hid (Calls Try.prog 28 #[d, .int .i64 (J : Int), .agg (sec X)] w3 fun e w' => Chg F3 d (s.wrote J X) (.int .i64 0) w3 e w') := Lib.hid (Write_yes w3 hd3 J (by rw [hN3]; exact HJ.out) X (by unfold St.refuses; rw [hfu, hde]; simp) (by omega))
            have HK3 := Lib.hid (And.intro hg3 (And.intro hf3 (And.intro ho3 (And.intro hb3 (And.intro hbl3 (And.intro hl3 (And.intro hN3 (And.intro hfu (And.intro hde (And.intro hwr hnw))))))))))
            clear hd3 hg3 hf3 ho3 hb3 hbl3 hl3 hN3 hfu hde hwr hnw
            go_wp2_with fail
            refine HWr.out.mono ?_
            rintro e w4 ⟨F4, rfl, hd4, hu4⟩
            have HM4 : Hid (∃ F, Dk w4 F d (s.wrote J X) ∧ Gr w w4 ∧ (∀ k, F k → w.heap.size ≤ k) ∧ Out F w4 bl ∧ Blk w4 bl TA (cellsOf l).toArray ∧ w.heap.size ≤ bl ∧ l.length = 20 ∧ (s.wrote J X).ls.length = N ∧ (s.wrote J X).fuse = -1 ∧ (s.wrote J X).dead = false ∧ (s.wrote J X).writes ≤ k + 1 ∧ ∀ j, j < N → (s.wrote J X).nw j = (l.set J X).getD j Sec.zero) := Lib.hid (by
              obtain ⟨hg3, hf3, ho3, hb3, hbl3, hl3, hN3, hfu, hde, hwr, hnw⟩ := HK3.out
              refine ⟨F4, hd4, Below.trans hg3 (hu4.below hg3.size hf3), hu4.from hg3.size hf3, ho3.upd hu4, hb3.upd ho3 hu4, hbl3, hl3, hN3, ?_, hde, by show s.writes + 1 ≤ k + 1; omega, fun j hj => ?_⟩
              · show (if 0 < s.fuse then s.fuse - 1 else s.fuse) = -1
                rw [hfu]; rfl
              · rw [nw_wrote]
                by_cases hjJ : j = J
                · subst hjJ
                  have : j < l.length := by omega
                  simp [List.getD, this]
                · rw [if_neg hjJ, hnw j hj]
                  simp [List.getD, Ne.symm hjJ])
            clear hd4 hu4 HWr HK3
            have hcy4 := HC3.out w4 (by obtain ⟨_, _, h, _⟩ := HM4.out; exact h)
            go_wp2_with fail
            refine (sector_at Y hY0 hY1 _).mono ?_
            rintro e w5 ⟨rfl, g5⟩
            rw [HX.out]
            have HM5 : Hid (Mine w (w5.setCells bl (J * 256) X.cells) d bl N (k + 1) (s.wrote J X) (l.set J X)) := Lib.hid (by
              obtain ⟨F, a1, a2, a3, a4, a5, a6, a7, a8, a9, a10, a11, a12⟩ := HM4.out
              have hJ := HJ.out
              have b5 := a5.gr g5
              have hg := grown_setCells w5 bl (J * 256) X.cells
              have b1 := (a1.gr g5).stays (w' := w5.setCells bl (J * 256) X.cells) (fun j hj => hg.block j (Nat.lt_of_lt_of_le (a1.low j hj) g5.size) (fun e => a4.1 (by cases e; exact hj))) hg.size
              exact ⟨F, b1, (Gr.trans a2 g5).grown hg (Gr.trans a2 g5).size (fun j e => by cases e; exact a6), a3, ⟨a4.1, by have := g5.size; have := hg.size; have := a4.2; omega⟩, b5.put J (by omega) X, a6, by rw [List.length_set]; exact a7, a8, a9, a10, a11, a12⟩)
            have HT5 : Hid (w5.there bl (J * 256) 256) := Lib.hid (by
              obtain ⟨F, a1, a2, a3, a4, a5, a6, a7, r⟩ := HM4.out
              have hJ := HJ.out
              exact (a5.gr g5).there J (by omega))
            clear g5 HM4 hcy4
            have hJ20 : J < 20 := by have := HJ.out; omega
            go_upto_region 14 with (refine wpList_store_at rfl (.tmp 73) (.tmp 72) rfl HT5.out rfl rfl ?_; go_frame)
            obtain ⟨l', hl'⟩ : ∃ l', l' = l.set J X := ⟨_, rfl⟩
            obtain ⟨s1, hs1⟩ : ∃ s1, s1 = s.wrote J X := ⟨_, rfl⟩
            rw [← hl', ← hs1] at HM5
            clear HT5 hl' hs1 HX HC3
            generalize (w5.setCells bl (J * 256) X.cells) = W5 at *
            go_cut [88] (fun s88 wc => s88 = .bool false ∧ Hid (∃ s2, Mine w wc d bl N (k + 1) s2 l'))
            case first =>
              by_cases hb : k < m3
              · obtain ⟨b4, o4, rfl, hc4⟩ := (HBs.out.gr HM5.out.grown).lies (by omega)
                have hcb := hc4 k hb
                obtain ⟨B, hB⟩ : ∃ B, B = bs.getD k false := ⟨_, rfl⟩
                rw [← hB] at hcb
                clear hc4 hB
                cases B with
                | false =>
                  go_wp2
                  go_meet
                  exact ⟨rfl, ⟨_, HM5.out⟩⟩
                | true =>
                  obtain ⟨F, a1, a2, a3, a4, a5, a6, a7, a8, a9, a10, a11, a12⟩ := HM5.out
                  have HBar := Lib.hid (Barrier_yes W5 a1 (by omega) a10)
                  have HR := Lib.hid (And.intro a2 (And.intro a3 (And.intro a4 (And.intro a5 (And.intro a6 (And.intro a7 (And.intro a8 (And.intro a9 (And.intro a10 (And.intro a11 a12))))))))))
                  clear a1 a2 a3 a4 a5 a6 a7 a8 a9 a10 a11 a12 HM5
                  go_wp2_with fail
                  refine HBar.out.mono ?_
                  rintro e w6 ⟨F6, rfl, hd6, hu6⟩
                  have HF : Hid (∃ s2, Mine w w6 d bl N (k + 1) s2 l') := Lib.hid (by
                    obtain ⟨a2, a3, a4, a5, a6, a7, a8, a9, a10, a11, a12⟩ := HR.out
                    refine ⟨s1.barrier, F6, hd6, Below.trans a2 (hu6.below a2.size a3), hu6.from a2.size a3, a4.upd hu6, a5.upd a4 hu6, a6, a7, by simp [St.barrier, a8], a9, a10, a11, fun j hj => ?_⟩
                    rw [nw_barrier _ _ (by rw [a8]; exact hj)]
                    exact a12 j hj)
                  clear hd6 hu6 HR HBar
                  go_wp2_with fail
                  go_meet
                  exact ⟨rfl, HF.out⟩
              · have hb' : ¬ (k : Int) < (m3 : Int) := by omega
                go_wp2
                go_meet
                exact ⟨rfl, ⟨_, HM5.out⟩⟩
            case rest =>
              obtain ⟨rfl, hm⟩ := hcut
              obtain ⟨s2, hm2⟩ := hm.out
              have HM6 := Lib.hid hm2
              clear hm hm2 HM5
              obtain ⟨W6, hW6⟩ : ∃ W6, W6 = wc := ⟨_, rfl⟩
              rw [← hW6] at HM6 ⊢
              clear hW6
              go_wp2_with fail
              go_loopw [14] (fun i wr => ∃ j : Nat, j ≤ N ∧ i = .int .i64 j ∧ Hid (Gr W6 wr)) (fun i _ => N - (intOf i).toNat)
              case atStart => exact ⟨0, Nat.zero_le _, rfl, Gr.refl _⟩
              case round =>
                obtain ⟨j, hj, rfl, hgr⟩ := hrel
                by_cases hjl : j < N
                · obtain ⟨F, a1, a2, a3, a4, a5, a6, a7, a8, a9, a10, a11, a12⟩ := HM6.out.gr hgr.out
                  have HRd := Lib.hid (Read_yes wr a1 j (by rw [a8]; exact hjl))
                  have HNw : Hid (s2.nw j = l'.getD j Sec.zero) := Lib.hid (a12 j hjl)
                  have HBl := Lib.hid a5
                  have hl20 : Hid (j < l'.length) := Lib.hid (by rw [a7]; omega)
                  clear a1 a2 a3 a4 a5 a6 a7 a8 a9 a10 a11 a12
                  go_wp2_with fail
                  refine HRd.out.mono ?_
                  rintro e w7 ⟨rfl, g7⟩
                  rw [HNw.out]
                  obtain ⟨S, hS⟩ : ∃ S, S = l'.getD j Sec.zero := ⟨_, rfl⟩
                  rw [← hS]
                  have HB7 := Lib.hid (HBl.out.gr g7)
                  have HG7 := Lib.hid (Gr.trans hgr.out g7)
                  have HZe := Lib.hid (Blk.new w7 TS (sec Sec.zero))
                  have hz := zero_sec
                  have hgg : Gr w7 ((w7.alloc (.cells (sec Sec.zero) TS)).setRow w7.heap.size (sec S)) := below_setRow (Gr.new w7 _) (Nat.le_refl _) _
                  have HG8 := Lib.hid (Gr.trans HG7.out hgg)
                  have HB8 := Lib.hid (HB7.out.gr hgg)
                  have HX8 := Lib.hid (HZe.out.row (sec S))
                  have HS8 : Hid (l'[j]'hl20.out = S) := Lib.hid (by rw [hS]; simp [List.getD, hl20.out])
                  clear g7 hgr HRd HNw HBl HB7 HG7 hgg hS
                  go_wp2_with (refine wpList_store_sec rfl (.tmp 15) (.tmp 98) rfl HZe.out rfl rfl ?_)
                  clear hz HZe
                  have hg8 := HG8.out
                  have hb8 := HB8.out
                  have hx8 := HX8.out
                  clear HG8 HB8 HX8
                  obtain ⟨n8, hn8⟩ : ∃ n8, w7.heap.size = n8 := ⟨_, rfl⟩
                  generalize ((w7.alloc (.cells (sec Sec.zero) TS)).setRow w7.heap.size (sec S)) = W8 at *
                  rw [hn8] at hx8 ⊢
                  have HG8 := Lib.hid hg8
                  have HX8 : Hid (∀ W, Gr W8 W → W.rangeAt n8 0 S.cells) := Lib.hid fun W h => (hx8.gr h).one
                  have HW8 : Hid (∀ W, Gr W8 W → W.rangeAt bl (j * 256) S.cells) := Lib.hid fun W h => by
                    have := (hb8.gr h).lies j hl20.out
                    rw [HS8.out] at this
                    exact this
                  have hj20 : j < 20 := by omega
                  clear hg8 hb8 hx8 hn8 HS8
                  refine Flow.region (Sq bl j n8 S) (Gr W8) (fun _ _ => True) (by kernel_rfl) (by kernel_rfl) (fun _ _ _ _ h _ => h) ⟨rfl, rfl, rfl, Nat.le_refl _, fun _ _ => rfl⟩ ?steps ?fin
                  case fin =>
                    intro a W hfr hfin hsl
                    have s108 : a.tmps.getD 108 undef = .bool false := hsl 8 _ 108 rfl rfl
                    have t108 : a.tmps[108]?.getD undef = .bool false := by simpa using s108
                    clear hsl s108
                    have e := Flow.frame hfr [100, 101, 102, 103, 104, 105, 106, 107, 108] (List.range 110) (by kernel_rfl) (by kernel_rfl)
                    simp [List.range, List.range.loop] at e
                    rw [t108] at e
                    rw [e]
                    clear e hfr t108
                    have HGf := Lib.hid (Gr.trans HG8.out hfin)
                    clear hfin HX8 HW8 HG8
                    rename_i K2 hK2
                    refine hK2 _ _ ?_
                    go_wp2
                    go_roundw
                    case rel => exact ⟨j + 1, by omega, by go_num, HGf⟩
                    case measure => simp [intOf]; omega
                  case steps =>
                    refine Flow.Steps.cons (fun a W hfr hinv hdep K hK => ?_) ?_
                    · have s16 : a.tmps.getD 16 undef = .int .i64 0 := hfr.at 16 (by kernel_rfl)
                      have t16 : a.tmps[16]?.getD undef = .int .i64 0 := by simpa using s16
                      rw [if_pos (Flow.wanted_none rfl)]
                      clear hfr hdep
                      go_simp
                      exact hK _ _ True.intro hinv (fun d hd => by cases hd; rfl)
                    refine Flow.Steps.cons (fun a W hfr hinv hdep K hK => ?_) ?_
                    · have s100 : a.tmps.getD 100 undef = .int .i64 0 := hdep 100 (by kernel_rfl)
                      have t100 : a.tmps[100]?.getD undef = .int .i64 0 := by simpa using s100
                      rw [if_pos (Flow.wanted_none rfl)]
                      clear hfr hdep
                      go_simp
                      exact hK _ _ True.intro hinv (fun d hd => by cases hd; rfl)
                    refine Flow.Steps.cons (fun a W hfr hinv hdep K hK => ?_) ?_
                    · have s101 : a.tmps.getD 101 undef = .bool false := hdep 101 (by kernel_rfl)
                      have t101 : a.tmps[101]?.getD undef = .bool false := by simpa using s101
                      rw [if_pos (Flow.wanted_none rfl)]
                      clear hfr hdep
                      go_simp
                      exact hK _ _ True.intro hinv (fun d hd => by cases hd; rfl)
                    refine Flow.Steps.cons (fun a W hfr hinv hdep K hK => ?_) ?_
                    · have sg : a.tmps.getD 102 undef = .bool false := hdep 102 (by kernel_rfl)
                      have s15 : a.tmps.getD 15 undef = .pointer (some ⟨n8, 0, none⟩) := hfr.at 15 (by kernel_rfl)
                      have t15 : a.tmps[15]?.getD undef = .pointer (some ⟨n8, 0, none⟩) := by simpa using s15
                      rw [if_pos (Flow.wanted_yes 2 false 102 rfl (by kernel_rfl) sg)]
                      clear hfr hdep
                      refine wp_load_sec (.tmp 15) rfl (HX8.out W hinv) (by simpa [Act.eval] using s15) ?_
                      exact hK _ _ True.intro hinv (fun d hd => by cases hd; rfl)
                    refine Flow.Steps.cons (fun a W hfr hinv hdep K hK => ?_) ?_
                    · have sg : a.tmps.getD 102 undef = .bool false := hdep 102 (by kernel_rfl)
                      have s14 : a.tmps.getD 14 undef = .int .i64 (j : Int) := hfr.at 14 (by kernel_rfl)
                      have t14 : a.tmps[14]?.getD undef = .int .i64 (j : Int) := by simpa using s14
                      rw [if_pos (Flow.wanted_yes 2 false 102 rfl (by kernel_rfl) sg)]
                      clear hfr hdep
                      go_simp
                      exact hK _ _ True.intro hinv (fun d hd => by cases hd; rfl)
                    refine Flow.Steps.cons (fun a W hfr hinv hdep K hK => ?_) ?_
                    · have sg : a.tmps.getD 102 undef = .bool false := hdep 102 (by kernel_rfl)
                      have s11 : a.tmps.getD 11 undef = .pointer (some ⟨bl, 0, none⟩) := hfr.at 11 (by kernel_rfl)
                      have t11 : a.tmps[11]?.getD undef = .pointer (some ⟨bl, 0, none⟩) := by simpa using s11
                      have s104 : a.tmps.getD 104 undef = .int .i64 (j : Int) := hdep 104 (by kernel_rfl)
                      have t104 : a.tmps[104]?.getD undef = .int .i64 (j : Int) := by simpa using s104
                      have hj20i : (j : Int) < 20 := by omega
                      rw [if_pos (Flow.wanted_yes 2 false 102 rfl (by kernel_rfl) sg)]
                      clear hfr hdep
                      go_simp
                      exact hK _ _ True.intro hinv (fun d hd => by cases hd; rfl)
                    refine Flow.Steps.cons (fun a W hfr hinv hdep K hK => ?_) ?_
                    · have sg : a.tmps.getD 102 undef = .bool false := hdep 102 (by kernel_rfl)
                      have s105 : a.tmps.getD 105 undef = .pointer (some ⟨bl, j * 256, none⟩) := hdep 105 (by kernel_rfl)
                      have t105 : a.tmps[105]?.getD undef = .pointer (some ⟨bl, j * 256, none⟩) := by simpa using s105
                      rw [if_pos (Flow.wanted_yes 2 false 102 rfl (by kernel_rfl) sg)]
                      clear hfr hdep
                      refine wp_load_sec (.tmp 105) rfl (HW8.out W hinv) (by simpa [Act.eval] using s105) ?_
                      exact hK _ _ True.intro hinv (fun d hd => by cases hd; rfl)
                    refine Flow.Steps.cons (fun a W hfr hinv hdep K hK => ?_) ?_
                    · have sg : a.tmps.getD 102 undef = .bool false := hdep 102 (by kernel_rfl)
                      have s103 : a.tmps.getD 103 undef = .agg (sec S) := hdep 103 (by kernel_rfl)
                      have t103 : a.tmps[103]?.getD undef = .agg (sec S) := by simpa using s103
                      have s106 : a.tmps.getD 106 undef = .agg (sec S) := hdep 106 (by kernel_rfl)
                      have t106 : a.tmps[106]?.getD undef = .agg (sec S) := by simpa using s106
                      have hq := eqi_sec
                      rw [if_pos (Flow.wanted_yes 2 false 102 rfl (by kernel_rfl) sg)]
                      clear hfr hdep
                      go_simp
                      exact hK _ _ True.intro hinv (fun d hd => by cases hd; rfl)
                    refine Flow.Steps.cons (fun a W hfr hinv hdep K hK => ?_) ?_
                    · have s102 : a.tmps.getD 102 undef = .bool false := hdep 102 (by kernel_rfl)
                      have t102 : a.tmps[102]?.getD undef = .bool false := by simpa using s102
                      have s107 : a.tmps.getD 107 undef = .bool false := hdep 107 (by kernel_rfl)
                      have t107 : a.tmps[107]?.getD undef = .bool false := by simpa using s107
                      rw [if_pos (Flow.wanted_none rfl)]
                      clear hfr hdep
                      go_simp
                      exact hK _ _ True.intro hinv (fun d hd => by cases hd; rfl)
                    exact True.intro
                · obtain rfl : j = N := by omega
                  have HMe := Lib.hid (HM6.out.gr hgr.out)
                  clear hgr HM6
                  go_wp2
                  go_roundw
                  case rel => exact ⟨k + 1, _, _, by omega, by go_num, HMe⟩
                  case measure => simp [intOf]; omega
          · have hgw := Lib.hid hmi.out.grown
            clear hmi
            by_cases hk1 : k < m
            · have hk2 : ¬ (k : Int) < (m2 : Int) := fun h => hlt ⟨hk1, by omega⟩
              have hk3 : ¬ k < m2 := fun h => hlt ⟨hk1, h⟩
              clear hlt
              go_wp2_with fail
              refine (known_any _).mono ?_
              rintro e w5 ⟨rfl, g5⟩
              have HG5 := Lib.hid (Gr.trans hgw.out g5)
              clear g5
              go_wp2_with fail
              go_ret
              exact ⟨rfl, HG5.out⟩
            · clear hlt
              go_wp2_with fail
              refine (known_any _).mono ?_
              rintro e w5 ⟨rfl, g5⟩
              have HG5 := Lib.hid (Gr.trans hgw.out g5)
              clear g5
              go_wp2_with fail
              go_ret
              exact ⟨rfl, HG5.out⟩

end Go.Proofs.Ytepabjfkelmdoaa
