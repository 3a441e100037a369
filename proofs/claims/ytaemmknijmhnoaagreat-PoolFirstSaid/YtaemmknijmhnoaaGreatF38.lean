/-
  Texts, put together: PoolOpen PoolFirstWalk.
-/
import Derived.Test.YtaemmknijmhnoaaGreatF8
import Derived.Test.YtaemmknijmhnoaaGreatF33
import Derived.Test.YtaemmknijmhnoaaGreatF37
set_option linter.unusedVariables false
set_option linter.unusedSimpArgs false
/-
  Acts of the laws on pool, as they come in.
-/
namespace Go.Proofs.YtaemmknijmhnoaaGreat
open Go.ChangeShapes Go.WideShapes Go.ChangeAt Go.RowKit Go.Maps

abbrev TPa : TypeId := 33
/-- An act; where its bytes lie. -/
structure PDo where
  kind : Int
  page : Int
  off : Int
  n : Int
  pb : Option Addr
  nb : Nat
  cb : Nat
  ys : List Int
def PDo.cells (a : PDo) : List Value := [.int .i64 a.kind, .int .i64 a.page, .int .i64 a.off, .int .i64 a.n, .slice a.pb a.nb a.cb]
def I64 (x : Int) : Prop := -9223372036854775808 ≤ x ∧ x ≤ 9223372036854775807
/-- What it names, in memory. -/
structure PDo.In (w : World) (a : PDo) : Prop where
  b : Byt w a.pb a.nb a.cb a.ys
  k : I64 a.kind
  g : I64 a.page
  o : I64 a.off
  n : I64 a.n
theorem PDo.In.gr {w w' : World} {a : PDo} (h : a.In w) (g : Gr w w') : a.In w' := ⟨h.b.kept g, h.k, h.g, h.o, h.n⟩
structure PActs (w : World) (p : Option Addr) (n c : Nat) : Prop where
  cap : n ≤ c
  most : c ≤ maxLen
  lies : 0 < n → ∃ b o, p = some ⟨b, o, none⟩ ∧ ∀ i, i < n → ∃ a : PDo, (∀ j v, a.cells[j]? = some v → w.cell? ⟨b, o + i * 5 + j, none⟩ = some v) ∧ a.In w
/-- A row of it, in each world that has grown. -/
theorem PActs.row {w : World} {p : Option Addr} {n c : Nat} (h : PActs w p n c) (k : Nat) (hk : k < n) : ∃ b o a, p = some ⟨b, o, none⟩ ∧ ∀ V, Gr w V → (∀ j v, (PDo.cells a)[j]? = some v → V.cell? ⟨b, o + k * 5 + j, none⟩ = some v) ∧ a.In V := by
  obtain ⟨b, o, rfl, hc⟩ := h.lies (by omega)
  obtain ⟨a, h1, h2⟩ := hc k hk
  exact ⟨b, o, a, rfl, fun V g => ⟨fun j v hv => by rw [g.cell (World.block_lt_of_cell? w _ (h1 j v hv))]; exact h1 j v hv, h2.gr g⟩⟩

set_option maxRecDepth 100000 in
/-- An argument of type []Act, opened. -/
theorem openPActs {H : Type} {enc : TypeId × Value → H} {W : World} {a : Option Addr} {len cap : Nat} {d : DataW H} {p : List MemPlace}
    (h : DataW.Trod enc Tryz.prog W 0 (fun _ => true) true 22 (.slice a len cap) d p) : PActs W a len cap := by
  obtain ⟨fuel, hf⟩ := h
  have hc : Tryz.prog.cellsOf TPa = 5 := by kernel_rfl
  have hc1 : Tryz.prog.cellsOf 3 = 1 := by kernel_rfl
  have hc2 : Tryz.prog.cellsOf 5 = 1 := by kernel_rfl
  have hc3 : Tryz.prog.cellsOf 31 = 1 := by kernel_rfl
  rcases Go.Deep.open_slice Tryz.underlying22 hf with ⟨hcs, _⟩ | ⟨x, l, c, m, n, D, Pl, hcs, _, hl, hm, hmm, _, hx⟩
  · simp [Value.cells] at hcs
    obtain ⟨rfl, rfl, rfl⟩ := hcs
    exact ⟨Nat.le_refl _, Nat.zero_le _, fun h => absurd h (Nat.lt_irrefl 0)⟩
  · simp [Value.cells] at hcs
    obtain ⟨rfl, rfl, rfl⟩ := hcs
    simp only [if_true] at hmm
    subst hmm
    have hc' : Tryz.prog.cellsOf 33 = 5 := hc
    rw [hc'] at hx
    have each : ∀ i, i < len → ∃ g : PDo, (∀ j v, g.cells[j]? = some v → W.cell? ((x.add (i * 5)).add j) = some v) ∧ g.In W := fun i hi => by
      obtain ⟨cs, h1, h2⟩ := hx i (by omega)
      obtain ⟨_, hlen, hcells⟩ := World.cells?_some h1
      obtain ⟨xs, k, _, _, _, hlx, hff⟩ := DataW.trod_struct Tryz.underlying33 h2
      match xs, hlx with
      | [y0, y1, y2, y3, y4], _ =>
        match cs, hlen with
        | [c0, c1, c2, c3, c4], _ =>
          have t0 := hff 0 _ rfl
          have t1 := hff 1 _ rfl
          have t2 := hff 2 _ rfl
          have t3 := hff 3 _ rfl
          have t4 := hff 4 _ rfl
          simp [hc1] at t0
          simp [hc1] at t1
          simp [hc1] at t2
          simp [hc1] at t3
          simp [hc3] at t4
          obtain ⟨K, e0, _, w0⟩ := DataW.trod_int Tryz.underlying3 t0
          obtain ⟨I, e1, _, w1⟩ := DataW.trod_int Tryz.underlying3 t1
          obtain ⟨J, e2, _, w2⟩ := DataW.trod_int Tryz.underlying3 t2
          obtain ⟨M, e3, _, w3⟩ := DataW.trod_int Tryz.underlying3 t3
          simp at e0 e1 e2 e3
          subst e0 e1 e2 e3
          obtain ⟨q, mm, kk, zs, e4, hz⟩ : ∃ q mm kk zs, c4 = Value.slice q mm kk ∧ Byt W q mm kk zs := by
            have tt := t4
            rcases Go.Deep.open_slice Tryz.underlying31 t4 with ⟨h5, _⟩ | ⟨a5, l5, c5, _, _, _, _, h5, _⟩
            · simp at h5
              subst h5
              exact ⟨none, 0, 0, [], rfl, Byt.nil W⟩
            · simp at h5
              subst h5
              obtain ⟨zs, hz⟩ := openBytes Tryz.underlying31 Tryz.underlying5 hc2 (W := W) (a := some a5) (len := l5) (cap := c5) (enc := enc) (d := y4.1) (p := y4.2) ⟨_, by simpa [Value.cells] using tt⟩
              exact ⟨_, _, _, zs, rfl, hz⟩
          subst e4
          refine ⟨⟨K, I, J, M, q, mm, kk, zs⟩, fun j v hj => ?_, hz, i64Of w0, i64Of w1, i64Of w2, i64Of w3⟩
          have hlt : j < 5 := by have := (List.getElem?_eq_some_iff.1 hj).1; simpa [PDo.cells] using this
          rw [hcells j (by omega)]
          exact hj
    refine ⟨hl, hm, fun hn => ?_⟩
    obtain ⟨z0, hz0, _⟩ := each 0 hn
    have hc0 := hz0 0 _ rfl
    obtain ⟨b, o, sp⟩ := x
    obtain rfl : sp = none := by simpa [Addr.add] using World.cell?_spot hc0
    refine ⟨b, o, rfl, fun i hi => ?_⟩
    obtain ⟨z, hz, hin⟩ := each i hi
    refine ⟨z, fun j v hj => ?_, hin⟩
    have := hz j v hj
    simpa only [Go.WideShapes.add_plain] using this
end Go.Proofs.YtaemmknijmhnoaaGreat

/-
  The law that no page stands on the disk whose records do not last, walked.
-/
namespace Go.Proofs.YtaemmknijmhnoaaGreat
open Go.RowKit Go.Maps

theorem opOk0 (s : St) : opOk s 16 2 0 = true := by simp [opOk]
set_option maxRecDepth 100000 in
set_option maxHeartbeats 2000000 in
theorem poolFirst_walk (p : Option Addr) (n c : Nat) (fuse : Int) (q : Option Addr) (m k0 : Nat) (zs : List Int) (w : World) (hb : PActs w p n c) (hz : Nums w q m k0 zs) (hf0 : -9223372036854775808 ≤ fuse) (hf1 : fuse ≤ 9223372036854775807) :
    Calls Tryz.prog 5 #[.slice p n c, .int .i64 fuse, .slice q m k0] w fun e w' => e = .returned (.bool true) ∧ Below w.heap.size w w' := by
  have HK : Hid (∀ W, Calls Tryz.prog 8 #[] W fun e w' => e = .returned (.bool true) ∧ Gr W w') := Lib.hid fun W => known07_any W
  have HB := Lib.hid hb
  have HZ := Lib.hid hz
  have HF := Lib.hid (And.intro hf0 hf1)
  clear hb hz hf0 hf1
  go_enter Tryz.func5, Tryz.ntmps5
  by_cases g1 : (80 : Int) < (n : Int)
  · go_wp2_with fail
    refine (HK.out w).mono ?_
    rintro e wk ⟨rfl, g⟩
    have HG := Lib.hid (g)
    clear g
    go_wp2_with fail
    go_ret
    exact ⟨rfl, HG.out⟩
  by_cases g2 : (200 : Int) < (m : Int)
  · go_wp2_with fail
    refine (HK.out w).mono ?_
    rintro e wk ⟨rfl, g⟩
    have HG := Lib.hid (g)
    clear g
    go_wp2_with fail
    go_ret
    exact ⟨rfl, HG.out⟩
  have HBe : Hid (∀ W, Calls Tryz.prog 9 #[.int .i64 8, .bool false] W (RetBeg7 8 false W)) := Lib.hid fun W => begin7_any 8 false W (by omega) (by omega)
  have HN : Hid (n ≤ 80) := Lib.hid (by omega)
  go_wp2_with fail
  refine (HBe.out w).mono ?_
  rintro e w1 hbg
  obtain ⟨d, l, b, mm, rfl, hg1, hfu⟩ := FpI.begin hbg fuse HF.out.1 HF.out.2
  have HFu := Lib.hid hfu
  clear hbg hfu HBe hg1 g1 g2
  go_wp2_with fail
  refine HFu.out.mono ?_
  rintro e w2 ⟨rfl, hi⟩
  have HI := Lib.hid hi
  clear hi HFu
  go_wp2_with fail
  go_loopw [11] (fun kv wr => ∃ k : Nat, k ≤ n ∧ kv = .int .i64 (k : Int) ∧ Hid (FpI w wr d l b mm (1000000 - 500 * k) [])) (fun kv _ => n - (intOf kv).toNat)
  case atStart => exact ⟨0, Nat.zero_le _, rfl, HI⟩
  case round =>
    obtain ⟨k, hk, rfl, HJ⟩ := hrel
    by_cases hlt : k < n
    · have g3 : (k : Int) < (n : Int) := by omega
      have hw : IntKind.i64.wrap ((k : Int) + 1) = ((k + 1 : Nat) : Int) := by rw [IntWalk.i64_in _ (by have := HN.out; omega)]; omega
      obtain ⟨pb0, o, a, rfl, hrow⟩ := HB.out.row k hlt
      obtain ⟨hc, hin⟩ := hrow wr HJ.out.blk.2
      have c0 : wr.cell? ⟨pb0, o + k * 5, none⟩ = some (.int .i64 a.kind) := hc 0 _ rfl
      have c1 : wr.cell? ⟨pb0, o + k * 5 + 1, none⟩ = some (.int .i64 a.page) := hc 1 _ rfl
      have c2 : wr.cell? ⟨pb0, o + k * 5 + 2, none⟩ = some (.int .i64 a.off) := hc 2 _ rfl
      have c3 : wr.cell? ⟨pb0, o + k * 5 + 3, none⟩ = some (.int .i64 a.n) := hc 3 _ rfl
      have c4 : wr.cell? ⟨pb0, o + k * 5 + 4, none⟩ = some (.slice a.pb a.nb a.cb) := hc 4 _ rfl
      have HRow : Hid (∀ V, Gr w V → a.In V) := Lib.hid fun V g => (hrow V g).2
      obtain ⟨kind, page, off, num, pb, nb, cb, ys⟩ := a
      dsimp only at c0 c1 c2 c3 c4
      clear hc hin hrow
      obtain ⟨W4, hW4⟩ : ∃ W4, W4 = wr.alloc (.cells #[.int .i64 kind, .int .i64 page, .int .i64 off, .int .i64 num, .slice pb nb cb] TPa) := ⟨_, rfl⟩
      have HW4 := Lib.hid hW4.symm
      have HQ : Hid (FpI w W4 d l b mm (1000000 - 500 * k) [(wr.heap.size, TPa, #[.int .i64 kind, .int .i64 page, .int .i64 off, .int .i64 num, .slice pb nb cb])]) := Lib.hid (by
        rw [hW4]
        exact HJ.out.box _ _)
      have HSk : Hid (Hid (FpI w W4 d l b mm (1000000 - 500 * (k + 1)) [])) := Lib.hid (Lib.hid (HQ.out.less (by omega) (fun x hx => by cases hx)))
      clear hW4
      by_cases p1 : page < 19
      · go_wp2_with fail
        rw [HW4.out]
        go_roundw
        case rel => exact ⟨k + 1, by omega, by go_num, HSk.out⟩
        case measure => simp [intOf]; omega
      by_cases p2 : 63 < page
      · go_wp2_with fail
        rw [HW4.out]
        go_roundw
        case rel => exact ⟨k + 1, by omega, by go_num, HSk.out⟩
        case measure => simp [intOf]; omega
      by_cases p3 : off < 0
      · go_wp2_with fail
        rw [HW4.out]
        go_roundw
        case rel => exact ⟨k + 1, by omega, by go_num, HSk.out⟩
        case measure => simp [intOf]; omega
      by_cases p4 : 248 < off
      · go_wp2_with fail
        rw [HW4.out]
        go_roundw
        case rel => exact ⟨k + 1, by omega, by go_num, HSk.out⟩
        case measure => simp [intOf]; omega
      have hws : IntKind.i64.wrap (248 - off) = 248 - off := IntWalk.i64_in _ (by omega)
      by_cases p5 : 248 - off < (nb : Int)
      · go_wp2_with fail
        rw [HW4.out]
        go_roundw
        case rel => exact ⟨k + 1, by omega, by go_num, HSk.out⟩
        case measure => simp [intOf]; omega
      have HNum : Hid (19 ≤ page) := Lib.hid (by omega)
      have HM : Hid (200 ≤ 1000000 - 500 * k ∧ 200 ≤ 1000000 - 500 * k - 200 ∧ 1000000 - 500 * (k + 1) ≤ 1000000 - 500 * k - 200 - 200 ∧ 1000000 - 500 * (k + 1) ≤ 1000000 - 500 * k - 200) := Lib.hid (by have := HN.out; omega)
      by_cases hk2 : kind = 2
      · subst hk2
        go_wp2_with fail
        rw [HW4.out]
        refine HQ.out.note.mono ?_
        rintro e w5 ⟨av, fv, xv, rfl, hna, hnf, hq5⟩
        have HQ5 := Lib.hid hq5
        have HNV := Lib.hid (And.intro hna hnf)
        clear hna hnf hq5
        cases xv with
        | false =>
          go_wp2_with fail
          refine (HK.out w5).mono ?_
          rintro e wk ⟨rfl, g⟩
          have HG := Lib.hid (Gr.trans HQ5.out.blk.2 g)
          clear g
          go_wp2_with fail
          go_ret
          exact ⟨rfl, HG.out⟩
        | true =>
          have hA5 := HQ5.out.blk.1 _ (List.mem_singleton.2 rfl)
          have a1 : w5.cell? ⟨wr.heap.size, 1, none⟩ = some (.int .i64 page) := hA5.cell 1
          have a2 : w5.cell? ⟨wr.heap.size, 2, none⟩ = some (.int .i64 off) := hA5.cell 2
          have a4 : w5.cell? ⟨wr.heap.size, 4, none⟩ = some (.slice pb nb cb) := hA5.cell 4
          clear hA5
          go_wp2_with fail
          refine (HQ5.out.put (i := page) (o := off) HM.out.1 HNum.out HNV.out.2 HNV.out.1 (HRow.out w (Gr.refl w)).b (HRow.out w5 HQ5.out.blk.2).b).mono ?_
          rintro e w6 ⟨er, rfl, hq6⟩
          have HQ6 := Lib.hid hq6
          have b1 : w6.cell? ⟨wr.heap.size, 1, none⟩ = some (.int .i64 page) := (hq6.blk.1 _ (List.mem_singleton.2 rfl)).cell 1
          clear a1 a2 a4 hq6
          go_wp2_with fail
          go_roundw
          case rel => exact ⟨k + 1, by omega, by go_num, Lib.hid (HQ6.out.less HM.out.2.2.2 (fun x hx => by cases hx))⟩
          case measure => simp [intOf]; omega
      · have hkn : (kind == 2) = false := beq_eq_false_iff_ne.2 hk2
        go_wp2_with fail
        rw [HW4.out]
        refine (HQ.out.get (i := page) HM.out.1 HNum.out).mono ?_
        rintro e w6 ⟨x, y, z, rfl, hq6⟩
        have HQ6 := Lib.hid hq6
        clear hq6
        go_wp2_with fail
        go_roundw
        case rel => exact ⟨k + 1, by omega, by go_num, Lib.hid (HQ6.out.less HM.out.2.2.2 (fun x hx => by cases hx))⟩
        case measure => simp [intOf]; omega
    · obtain rfl : k = n := by omega
      have hg3 : ¬ ((k : Int) < (k : Int)) := by omega
      clear hk hlt
      have HC := Lib.hid (HJ.out.crash (HZ.out.gr HJ.out.blk.2))
      have HGw := Lib.hid HJ.out.blk.2
      go_wp2_with fail
      refine HC.out.mono ?_
      rintro e w3 ⟨pc, F, s', rfl, hd, hl, g3, hpg⟩
      have HPg := Lib.hid hpg
      have HG3 := Lib.hid (Gr.trans HGw.out g3)
      have HRd : Hid (∀ V (i : Nat), Gr w3 V → i < 64 → Calls Tryz.prog 28 #[pc, .int .i64 (i : Int)] V fun e w' => RetRead V w' e (s'.nw i) 0) := Lib.hid fun V i g hi => Read_yes V (hd.gr g) i (by omega)
      have HO : Hid (∀ V, Gr w3 V → Calls Tryz.prog 36 #[pc, .agg #[.int .i64 64, .int .i64 16, .int .i64 1], .int .u64 0, .int .u64 2] V (RetO1 pc s' 2 0 V)) := Lib.hid fun V g => open1_yes V (hd.gr g) hl (by decide) (by decide) (by decide) (opOk0 s')
      have HLo : Hid ((opL s' 64 16 1 2 0).Ok ∧ (opL s' 64 16 1 2 0).fin = opN s' 16 2 0) := Lib.hid (by
        obtain ⟨h1, h2, _⟩ := opL_ok s' 64 16 1 2 0 may64 (by decide) (by decide) (by decide) (opOk0 s')
        exact ⟨h1, h2⟩)
      clear hd hl hpg g3 HC
      go_wp2_with fail
      refine (make64 w3).mono ?_
      rintro e w4 ⟨rfl, g4⟩
      have HG4 := Lib.hid g4
      clear g4
      go_wp2_with fail
      obtain ⟨W4, hW4⟩ : ∃ W4, W4 = w4.alloc (.cells #[.int .i64 64, .int .i64 16, .int .i64 1] 71) := ⟨_, rfl⟩
      have HG5 : Hid (Gr w3 W4) := Lib.hid (by rw [hW4]; exact Gr.trans HG4.out (Gr.new _ _))
      rw [← hW4]
      clear hW4
      refine (HO.out W4 HG5.out).mono ?_
      rintro e w5 ⟨lb, v, K, lq, lm, rfl, -, -, hlg, -, g5⟩
      have HL := Lib.hid hlg
      have HG6 := Lib.hid (Gr.trans HG5.out g5)
      have HE : Hid (∀ V, Gr w5 V → Calls Tryz.prog 37 #[.pointer (some ⟨lb, 0, none⟩)] V (RetU (opN s' 16 2 0) V)) := Lib.hid fun V g => by
        have h := (HL.out.gr g).End HLo.out.1
        rw [HLo.out.2] at h
        exact h
      clear hlg g5 HO HL
      go_wp2_with fail
      go_loopw [22] (fun gv wr => ∃ j : Nat, 19 ≤ j ∧ j ≤ 64 ∧ gv = .int .i64 (j : Int) ∧ Hid (Gr w5 wr)) (fun gv _ => 64 - (intOf gv).toNat)
      case atStart => exact ⟨19, by omega, by omega, rfl, Lib.hid (Gr.refl _)⟩
      case round =>
        obtain ⟨j, hj19, hj, rfl, HG⟩ := hrel
        by_cases hlt : j < 64
        · have g3 : (j : Int) < 64 := by omega
          have hq : IntKind.i64.wrap ((j : Int) + 1) = ((j + 1 : Nat) : Int) := by rw [IntWalk.i64_in _ (by omega)]; omega
          obtain ⟨x, hx⟩ : ∃ x, x = s'.nw j := ⟨_, rfl⟩
          obtain ⟨u, hu⟩ : ∃ u, u = lsnS x := ⟨_, rfl⟩
          obtain ⟨E, hE⟩ : ∃ E, E = opN s' 16 2 0 := ⟨_, rfl⟩
          have hle : ¬ ((E : Int) < (u : Int)) := by
            have h1 := HPg.out j hj19 hlt
            rw [← hx, ← hu, ← hE] at h1
            omega
          have HR1 := Lib.hid (HRd.out wr j (Gr.trans HG6.out HG.out) hlt)
          rw [← hx] at HR1
          have HLs : Hid (∀ V, Calls Tryz.prog 29 #[.agg (sec x)] V fun e w' => e = .returned (.int .u64 (u : Int)) ∧ Gr V w') := Lib.hid fun V => by
            have h := LSN_any (secN_sec x) V
            rw [Sx_secN] at h
            rw [hu]
            exact h
          have HE1 := HE
          rw [← hE] at HE1
          have hz := zero_sec
          clear hx hu hE
          go_wp2_with fail
          refine HR1.out.mono ?_
          rintro e w6 ⟨rfl, g6⟩
          have HN6 : Hid (Blk (w6.alloc (.cells (sec Sec.zero) TS)) w6.heap.size TS (sec Sec.zero)) := Lib.hid (Blk.new _ _ _)
          obtain ⟨W7, hW7⟩ : ∃ W7, W7 = (w6.alloc (.cells (sec Sec.zero) TS)).setRow w6.heap.size (sec x) := ⟨_, rfl⟩
          have HW7 := Lib.hid hW7.symm
          have HB7 : Hid (Blk W7 w6.heap.size TS (sec x) ∧ Gr w5 W7) := Lib.hid (by
            rw [hW7]
            exact ⟨HN6.out.row _, below_setRow (Gr.trans HG.out (Gr.trans g6 (Gr.new _ _))) (Nat.le_trans HG.out.size g6.size) _⟩)
          clear g6 hW7 HR1
          go_wp2_with (refine wpList_store_x rfl (.tmp 23) (.tmp 136) rfl HN6.out rfl rfl ?_; rw [HW7.out])
          refine wp_load_x (.tmp 23) rfl HB7.out.1 rfl ?_
          go_wp2_with fail
          refine (HLs.out W7).mono ?_
          rintro e w8 ⟨rfl, g8⟩
          have HG8 := Lib.hid (Gr.trans HB7.out.2 g8)
          clear g8
          go_wp2_with fail
          refine (HE1.out w8 HG8.out).mono ?_
          rintro e w9 ⟨rfl, g9⟩
          have HG9 := Lib.hid (Gr.trans HG8.out g9)
          clear g9
          go_wp2_with fail
          go_roundw
          case rel => exact ⟨j + 1, by omega, by omega, by go_num, HG9⟩
          case measure => simp [intOf]; omega
        · obtain rfl : j = 64 := by omega
          go_wp2_with fail
          refine (HK.out wr).mono ?_
          rintro e wk ⟨rfl, g⟩
          have HG := Lib.hid (Gr.trans (Gr.trans HG3.out (Gr.trans HG6.out HG.out)) g)
          clear g
          go_wp2_with fail
          go_ret
          exact ⟨rfl, HG.out⟩
end Go.Proofs.YtaemmknijmhnoaaGreat

