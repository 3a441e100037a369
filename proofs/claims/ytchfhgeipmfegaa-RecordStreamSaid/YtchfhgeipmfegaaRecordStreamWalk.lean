
/-
  The law RecordStream, walked.
-/
import Derived.Test.YtchfhgeipmfegaaRecordAllWalk
import Derived.Test.YtchfhgeipmfegaaOpenRecs
namespace Go.Proofs.Ytchfhgeipmfegaa
open Go.RowKit Cr

theorem bt6 : BT Try.prog 22 5 := ⟨Try.underlying22, by kernel_rfl⟩

theorem ownBlock_at {w : World} {base e size : Nat} {v : Value} {n : Nat} {xs : List Value} (h : w.ownsRow base e size v n xs) {k : Nat} (hk : v.ownBlock = some k) : ∃ cur, w.heap[k]? = some (.cells cur e (0, 0)) := by
  rcases h.2 with ⟨rfl, _⟩ | ⟨g, cap, cur, rfl, _, hg, _⟩
  · cases hk
  · cases hk
    exact ⟨cur, hg⟩
/-- append(own, src..), where its guard is met. -/
theorem wpList_app_byt_g {P : Program} {tS tB : TypeId} (T : BT P tS tB) {w : World} {ops : Array Oper} {rest : List Oper} {o : Oper} {a : Act} {Q : Exit → Act → World → Prop} (hgd : Region.wanted o (yielded ops a.tmps) = true) (s x : Operand)
    (ho : o.op = .call { callee := .builtin .append, args := #[s, x], argTypes := #[tS, tS] }) (base : Nat) (v : Value) (xs : List Int) (hs : a.eval s = v) (hown : OwnB w base tB v xs)
    (ad : Addr) (m c : Nat) (ys : List Int) (hx : a.eval x = .slice (some ad) m c) (hy : Byt w (some ad) m c ys) (hbytes : xs.length + m ≤ 140737488355328) (hbase : base ≤ w.heap.size)
    (h : ∀ v' w', OwnB w' base tB v' (xs ++ ys) → w.grownBy w' v.ownBlock → wpList P ops Q rest (a.put o.dst v') w') : wpList P ops Q (o :: rest) a w := by
  obtain ⟨i, hi, hz0, hz1, hz2⟩ := info_parts T.info
  refine wpList_step fun K hK => ?_
  rw [if_pos hgd]
  refine wp_append_own w s x tS ho base tB i (.int .u8 0) 1 1 T.us hi hz0 hz1 hz2 rfl (by decide) v xs.length _ hs hown.row ad m c (ys.map (Value.int .u8)) hx
    (by simp [hy.len]) hy.news (u8s_oneCell _) (by simp only [maxLen]; omega) (by omega) hbase ?_
  intro v' w' h1 h2 _
  refine hK _ _ (h v' w' ⟨?_, hown.small.app hy.small⟩ h2)
  have := hy.len
  simpa [this] using h1
/-- Three bytes in a new block. -/
theorem Byt.three (w : World) (x y z : Int) (t : TypeId) (h : 0 ≤ x ∧ x < 256) (k : 0 ≤ y ∧ y < 256) (l : 0 ≤ z ∧ z < 256) : Byt (w.alloc (.cells #[.int .u8 x, .int .u8 y, .int .u8 z] t)) (some ⟨w.heap.size, 0, .none⟩) 3 3 [x, y, z] :=
  ⟨rfl, Nat.le_refl _, by simp only [maxLen]; omega, fun _ => ⟨_, _, rfl, fun i hi => by
    have : i = 0 ∨ i = 1 ∨ i = 2 := by omega
    rcases this with rfl | rfl | rfl
    · exact World.cell?_alloc_at _ _ _ _ (by simp)
    · exact World.cell?_alloc_at _ _ _ _ (by simp)
    · exact World.cell?_alloc_at _ _ _ _ (by simp)⟩, (fun h => by cases h), fun u hu => by
      simp only [List.mem_cons, List.not_mem_nil, or_false] at hu
      rcases hu with rfl | rfl | rfl
      · exact h
      · exact k
      · exact l⟩
/-- Rows of unlike types are apart. -/
theorem rows_apart {w : World} {b1 e1 s1 n1 b2 e2 s2 n2 : Nat} {v1 v2 : Value} {xs1 xs2 : List Value} (h1 : w.ownsRow b1 e1 s1 v1 n1 xs1) (h2 : w.ownsRow b2 e2 s2 v2 n2 xs2) (he : e1 ≠ e2) : v1.ownBlock = none ∨ v1.ownBlock ≠ v2.ownBlock := by
  cases hk : v1.ownBlock with
  | none => exact .inl rfl
  | some k =>
    refine .inr fun e => ?_
    obtain ⟨c1, a1⟩ := ownBlock_at h1 hk
    obtain ⟨c2, a2⟩ := ownBlock_at h2 e.symm
    rw [a1] at a2
    simp only [Option.some.injEq, Obj.cells.injEq] at a2
    exact he a2.2.1
theorem byt_low {w : World} {p : Option Addr} {n c : Nat} {xs : List Int} (h : Byt w p n c xs) {B : Nat} (hB : w.heap.size ≤ B) (hn : 0 < n) : ∀ y, p = some y → (some B : Option Nat) ≠ some y.block := fun y hy e => by
  obtain ⟨b, o, e2, hc⟩ := h.at hn
  rw [hy] at e2
  cases e2
  have h1 : b < w.heap.size := blk_lt (hc 0 hn)
  have h2 : B = b := Option.some.inj e
  omega

set_option maxRecDepth 100000 in
set_option maxHeartbeats 4000000 in
theorem recordStream_walk (p : Option Addr) (n c : Nat) (at' : Nat) (bh : Int) (w : World) (hb : Recs w p n c) (hat : at' ≤ 18446744073709551615) (hbh : 0 ≤ bh ∧ bh < 256) :
    Calls Try.prog 6 #[.slice p n c, .int .u64 at', .int .u8 bh] w (RetB true w) := by
  have HK := Lib.hid known_any
  have HR := Lib.hid hb
  have n63 : (n : Int) ≤ 9223372036854775807 := by have h1 := hb.most; have h2 := hb.cap; unfold maxLen at h1; omega
  clear hb
  by_cases h20 : 20 < n
  · have h20' : (20 : Int) < n := by omega
    go_enter Try.func6, Try.ntmps6
    go_wp2_with fail
    refine (HK.out _).mono ?_
    rintro e w1 ⟨rfl, g1⟩
    go_wp2_with fail
    go_ret
    exact ⟨rfl, g1⟩
  have h20' : ¬ (20 : Int) < n := by omega
  have HMU := Lib.hid (fun (z : RX) W => refMuch_any z.c.k z.c.t z.c.p z.c.x z.c.g z.c.o z.pb z.nb z.cb z.pa z.na z.ca W)
  have HBY := Lib.hid (fun (z : RX) a W hi hb ha h => bytes_any z.c z.pb z.nb z.cb z.pa z.na z.ca a W hi hb ha h)
  go_enter Try.func6, Try.ntmps6
  go_wp2_with fail
  go_loopw [7, 8, 9] (fun bv wv iv wr => ∃ (j : Nat) (rs : List Rc) (L : List RX), j ≤ n ∧ iv = .int .i64 j ∧ (strL rs at').length ≤ 531 * j ∧ L.length ≤ j ∧ Hid (OwnB wr w.heap.size 5 bv (strL rs at')) ∧ Hid (OwnR ShS wr w.heap.size TST wv L) ∧ Hid (L.map RX.two = strE rs at') ∧ Hid (∀ r ∈ rs, mayR r = true ∧ r.In) ∧ Hid (Gr w wr) ∧ Hid (∀ x ∈ L, ∀ s ∈ ShS.sl x, Byt w s.p s.n s.c s.xs)) (fun _ _ iv _ => n - (intOf iv).toNat)
  case atStart => exact ⟨0, [], [], Nat.zero_le _, rfl, by simp [strL], Nat.le_refl _, Lib.hid (OwnB.nil _ _ _), Lib.hid (OwnR.nil _ _ _ _), Lib.hid rfl, Lib.hid (fun _ h => by cases h), Lib.hid (Gr.refl w), Lib.hid (fun _ h => by cases h)⟩
  case round =>
    obtain ⟨j, rs, L, hj, rfl, hbl, hll, ho, hw, hs, hm, hg, hx⟩ := hrel
    obtain ⟨bn, hbn⟩ : ∃ bn, bn = (strL rs at').length := ⟨_, rfl⟩
    obtain ⟨bp, bc, rfl⟩ := ho.out.shape bn hbn.symm
    obtain ⟨LL, hLL⟩ : ∃ LL, LL = L.length := ⟨_, rfl⟩
    obtain ⟨lp, lc, rfl, _⟩ := hw.out.shape LL hLL.symm
    rw [← hbn] at hbl
    rw [← hLL] at hll
    have HBN := Lib.hid hbn
    have HLL := Lib.hid hLL
    clear hbn hLL
    by_cases hlt : j < n
    · obtain ⟨b, o, rfl, hc⟩ := HR.out.lies (by omega)
      obtain ⟨z, hz, hzb, hza, hzi⟩ := hc j hlt
      have cz : ∀ k v, w.cell? ⟨b, k, none⟩ = some v → ∀ W, Gr w W → W.cell? ⟨b, k, none⟩ = some v := fun k v h W gr => (Below.cell gr (p := ⟨b, k, none⟩) (blk_lt h)).trans h
      have HZ : Hid (∀ W, Gr w W → W.cell? ⟨b, o + j * 8, none⟩ = some (.int .i64 z.c.k) ∧ W.cell? ⟨b, o + j * 8 + 1, none⟩ = some (.int .u64 z.c.t) ∧ W.cell? ⟨b, o + j * 8 + 2, none⟩ = some (.int .u64 z.c.p) ∧ W.cell? ⟨b, o + j * 8 + 3, none⟩ = some (.int .u64 z.c.x) ∧ W.cell? ⟨b, o + j * 8 + 4, none⟩ = some (.int .i64 z.c.g) ∧ W.cell? ⟨b, o + j * 8 + 5, none⟩ = some (.int .i64 z.c.o) ∧ W.cell? ⟨b, o + j * 8 + 6, none⟩ = some (.slice z.pb z.nb z.cb) ∧ W.cell? ⟨b, o + j * 8 + 7, none⟩ = some (.slice z.pa z.na z.ca)) := Lib.hid fun W gr => by
        obtain ⟨z0, z1, z2, z3, z4, z5, z6, z7⟩ := hz
        exact ⟨cz _ _ z0 W gr, cz _ _ z1 W gr, cz _ _ z2 W gr, cz _ _ z3 W gr, cz _ _ z4 W gr, cz _ _ z5 W gr, cz _ _ z6 W gr, cz _ _ z7 W gr⟩
      have HZB := Lib.hid hzb
      have HZA := Lib.hid hza
      have HZI := Lib.hid hzi
      clear hz hzb hza hzi cz hc
      obtain ⟨c0, c1, c2, c3, c4, c5, c6, c7⟩ := HZ.out _ hg.out
      go_wp2_with fail
      refine (HMU.out z _).mono ?_
      rintro e w2 ⟨rfl, g2⟩
      have hg2 := Lib.hid (Gr.trans hg.out g2)
      have ho2 := Lib.hid (ho.out.below' g2)
      have hw2 := Lib.hid (hw.out.gr g2)
      clear g2 hg ho hw c0 c1 c2 c3 c4 c5 c6 c7
      obtain ⟨MU, hMU⟩ : ∃ M, M = muchR z.nb z.na := ⟨_, rfl⟩
      rw [← hMU]
      clear hMU
      cases MU
      case true =>
        go_wp2_with fail
        refine (HK.out _).mono ?_
        rintro e w3 ⟨rfl, g3⟩
        go_wp2_with fail
        go_ret
        exact ⟨rfl, Gr.trans hg2.out g3⟩
      case false =>
        obtain ⟨c0, c1, c2, c3, c4, c5, c6, c7⟩ := HZ.out _ hg2.out
        have hwr : IntKind.u64.wrap ((at' : Int) + (bn : Int)) = ((onW at' bn : Nat) : Int) := by rw [IntKind.wrap_u64]; unfold onW; omega
        have HBY1 := Lib.hid (HBY.out z (onW at' bn) _ HZI.out (HZB.out.kept hg2.out) (HZA.out.kept hg2.out) (onW_le _ _))
        go_wp2_with fail
        refine HBY1.out.mono ?_
        rintro e w3 ⟨q, m, d, rfl, hy, g3, _⟩
        have hg3 := Lib.hid (Gr.trans hg2.out g3)
        have ho3 := Lib.hid (ho2.out.below' g3)
        have hw3 := Lib.hid (hw2.out.gr g3)
        have HY := Lib.hid hy
        clear g3 hg2 ho2 hw2 hy HBY1 c0 c1 c2 c3 c4 c5 c6 c7
        cases hmz : mayR z.c
        · have HE : Hid (bytesE z.c = 2) := Lib.hid (by simp [bytesE, hmz])
          rw [HE.out]
          clear HE hmz
          go_wp2_with (refine (num_any _ _).mono ?_; rintro e w' ⟨rfl, rfl⟩)
          go_roundw
          case rel => exact ⟨j + 1, rs, L, by omega, by go_num, by rw [← HBN.out]; omega, by rw [← HLL.out]; omega, ho3, hw3, hs, hm, hg3, hx⟩
          case measure => simp [intOf]; omega
        · have HE : Hid (bytesE z.c = 0 ∧ bytesL z.c (onW at' bn) = recL z.c (onW at' bn)) := Lib.hid (by simp [bytesE, bytesL, hmz])
          have hf := mayR_fits hmz
          have hf1 := hf.na
          have hf2 := hf.nb1
          have HRL : Hid ((recL z.c (onW at' bn)).length ≤ 531) := Lib.hid (by rw [recL_len]; omega)
          have HMZ := Lib.hid hmz
          rw [HE.out.2] at HY
          rw [HE.out.1]
          have HYL := Lib.hid HY.out.len
          have hm531 : m ≤ 531 := by have := HYL.out; have := HRL.out; omega
          have HST : Hid (strL (rs ++ [z.c]) at' = strL rs at' ++ recL z.c (onW at' bn)) := Lib.hid (by rw [strL_snoc _ _ _ hat, HBN.out])
          have hw64 : w.heap.size ≤ w3.heap.size := hg3.out.size
          clear HE hf hf1 hf2 hmz
          go_wp2_with (first | (refine (num_any _ _).mono ?_; rintro e w' ⟨rfl, rfl⟩) | (at_builtin; refine wpList_app_byt bt6 rfl (.tmp 44) (.tmp 45) rfl w.heap.size _ _ rfl ho3.out q m d _ rfl HY.out (by have := HBN.out; omega) hw64 ?_))
          intro v4 w4 ho4 gr4
          have hg4 := Lib.hid (Below.grown hg3.out gr4 hw64 (fun k e => (OwnB.base ho3.out k e)))
          have hw4 : Hid (OwnR ShS w4 w.heap.size TST (.slice lp LL lc) L) := Lib.hid (hw3.out.grown gr4 (rows_apart hw3.out.row ho3.out.row (by decide)) (fun x hx1 s hs1 hn1 y hy1 e => by
            have h1 := byt_low (hx.out x hx1 s hs1) (Nat.le_refl _) hn1 y hy1
            cases hk : (Value.slice bp bn bc).ownBlock with
            | none => rw [hk] at e; cases e
            | some k =>
              have h2 := byt_low (hx.out x hx1 s hs1) (OwnB.base ho3.out k hk) hn1 y hy1
              rw [hk] at e
              exact h2 e))
          obtain ⟨bn4, hbn4⟩ : ∃ bn4, bn4 = (strL rs at' ++ recL z.c (onW at' bn)).length := ⟨_, rfl⟩
          obtain ⟨bp4, bc4, rfl⟩ := ho4.shape bn4 hbn4.symm
          have hb4 : bn4 ≤ 531 * (j + 1) := by
            rw [hbn4, List.length_append]
            have h1 := HRL.out
            have h2 := HBN.out
            omega
          have HO4 := Lib.hid (ho4.as HST.out.symm)
          have HB4 : Hid (bn4 = (strL (rs ++ [z.c]) at').length) := Lib.hid (by rw [hbn4, HST.out])
          clear ho4 gr4 hbn4 ho3 hw3 hg3
          obtain ⟨c0, c1, c2, c3, c4, c5, c6, c7⟩ := HZ.out _ hg4.out
          have hwr4 : IntKind.u64.wrap ((at' : Int) + (bn4 : Int)) = ((onW at' bn4 : Nat) : Int) := by rw [IntKind.wrap_u64]; unfold onW; omega
          clear hwr
          have gq := (Gr.refl w4).alloc (Nat.le_refl _) (.cells #[.int .u64 (onW at' bn4), .int .i64 z.c.k, .int .u64 z.c.t, .int .u64 z.c.p, .int .u64 z.c.x, .int .i64 z.c.g, .int .i64 z.c.o, .slice z.pb z.nb z.cb, .slice z.pa z.na z.ca] TST)
          have hq0 := Blk.new w4 TST #[.int .u64 (onW at' bn4), .int .i64 z.c.k, .int .u64 z.c.t, .int .u64 z.c.p, .int .u64 z.c.x, .int .i64 z.c.g, .int .i64 z.c.o, .slice z.pb z.nb z.cb, .slice z.pa z.na z.ca]
          have HQ : Hid (∀ k, k < ShS.k → (w4.alloc (.cells #[.int .u64 (onW at' bn4), .int .i64 z.c.k, .int .u64 z.c.t, .int .u64 z.c.p, .int .u64 z.c.x, .int .i64 z.c.g, .int .i64 z.c.o, .slice z.pb z.nb z.cb, .slice z.pa z.na z.ca] TST)).cell? ⟨w4.heap.size, k, none⟩ = (ShS.cs ⟨onW at' bn4, z.c, z.pb, z.nb, z.cb, z.pa, z.na, z.ca⟩)[k]?) := Lib.hid fun k _ => by
            rw [hq0.cell k]
            simp [ShS]
          have hg5 := Lib.hid (Gr.trans hg4.out gq)
          have hw5 := Lib.hid (hw4.out.gr gq)
          have ho5 := Lib.hid (HO4.out.below' gq)
          have hlow : ∀ (q : Option Addr) (m d : Nat) (zs : List Int), Byt w q m d zs → 0 < m → ∀ y, q = some y → (Value.slice lp LL lc).ownBlock ≠ some y.block := fun q m d zs hq hm0 y hy e => by
            cases hk : (Value.slice lp LL lc).ownBlock with
            | none => rw [hk] at e; cases e
            | some k =>
              have h2 := byt_low hq (hw5.out.base k hk).1 hm0 y hy
              rw [hk] at e
              exact h2 e
          have HFA : Hid (∀ s ∈ ShS.sl ⟨onW at' bn4, z.c, z.pb, z.nb, z.cb, z.pa, z.na, z.ca⟩, s.In (w4.alloc (.cells #[.int .u64 (onW at' bn4), .int .i64 z.c.k, .int .u64 z.c.t, .int .u64 z.c.p, .int .u64 z.c.x, .int .i64 z.c.g, .int .i64 z.c.o, .slice z.pb z.nb z.cb, .slice z.pa z.na z.ca] TST)) (.slice lp LL lc)) := Lib.hid fun s hs1 => by
            simp only [ShS, List.mem_cons, List.not_mem_nil, or_false] at hs1
            rcases hs1 with rfl | rfl
            · exact ⟨HZB.out.kept hg5.out, fun h0 y hy => hlow _ _ _ _ HZB.out h0 y hy⟩
            · exact ⟨HZA.out.kept hg5.out, fun h0 y hy => hlow _ _ _ _ HZA.out h0 y hy⟩
          have HX5 : Hid (∀ x ∈ L ++ [(⟨onW at' bn4, z.c, z.pb, z.nb, z.cb, z.pa, z.na, z.ca⟩ : RX)], ∀ s ∈ ShS.sl x, Byt w s.p s.n s.c s.xs) := Lib.hid fun x hx1 s hs1 => by
            rcases List.mem_append.1 hx1 with h1 | h1
            · exact hx.out x h1 s hs1
            · obtain rfl := List.mem_singleton.1 h1
              simp only [ShS, List.mem_cons, List.not_mem_nil, or_false] at hs1
              rcases hs1 with rfl | rfl
              · exact HZB.out
              · exact HZA.out
          have hb1 : (L.length + 1) * 104 ≤ 140737488355328 := by have := HLL.out; omega
          have hb2 : L.length + 1 ≤ 100000000000 := by have := HLL.out; omega
          have HB12 := Lib.hid (And.intro hb1 hb2)
          have HSZ5 : Hid (w.heap.size ≤ (w4.alloc (.cells #[.int .u64 (onW at' bn4), .int .i64 z.c.k, .int .u64 z.c.t, .int .u64 z.c.p, .int .u64 z.c.x, .int .i64 z.c.g, .int .i64 z.c.o, .slice z.pb z.nb z.cb, .slice z.pa z.na z.ca] TST)).heap.size) := Lib.hid hg5.out.size
          clear gq hq0 hlow hb1 hb2 hw4 HO4
          go_wp2_with (at_builtin; refine wpList_app_row ShS (T := TST) Try.underlying65 info_std rfl rfl (.tmp 47) (.tmp 58) rfl w.heap.size _ L rfl hw5.out w4.heap.size rfl ⟨onW at' bn4, z.c, z.pb, z.nb, z.cb, z.pa, z.na, z.ca⟩ HQ.out HFA.out HB12.out.1 HB12.out.2 HSZ5.out ?_)
          intro v' w6 own gr6 _
          have hg6 := Lib.hid (Below.grown hg5.out gr6 HSZ5.out (fun k e => (hw5.out.base k e).1))
          have ho6 : Hid (OwnB w6 w.heap.size 5 (.slice bp4 bn4 bc4) (strL (rs ++ [z.c]) at')) := Lib.hid ⟨ho5.out.row.kept gr6 (rows_apart ho5.out.row hw5.out.row (by decide)), ho5.out.small⟩
          have hw6 := Lib.hid own
          have hs6 : Hid ((L ++ [(⟨onW at' bn4, z.c, z.pb, z.nb, z.cb, z.pa, z.na, z.ca⟩ : RX)]).map RX.two = strE (rs ++ [z.c]) at') := Lib.hid (by
            rw [List.map_append, hs.out, strE_snoc, ← HB4.out]
            simp [RX.two])
          have hm6 : Hid (∀ r ∈ rs ++ [z.c], mayR r = true ∧ r.In) := Lib.hid fun r hr => by
            rcases List.mem_append.1 hr with h1 | h1
            · exact hm.out r h1
            · obtain rfl := List.mem_singleton.1 h1
              exact ⟨HMZ.out, HZI.out⟩
          have hln6 : (L ++ [(⟨onW at' bn4, z.c, z.pb, z.nb, z.cb, z.pa, z.na, z.ca⟩ : RX)]).length ≤ j + 1 := by rw [List.length_append, ← HLL.out]; simp; omega
          have hbl6 : (strL (rs ++ [z.c]) at').length ≤ 531 * (j + 1) := by rw [← HB4.out]; exact hb4
          clear own gr6 c0 c1 c2 c3 c4 c5 c6 c7
          go_wp2
          go_roundw
          case rel => exact ⟨j + 1, rs ++ [z.c], L ++ [(⟨onW at' bn4, z.c, z.pb, z.nb, z.cb, z.pa, z.na, z.ca⟩ : RX)], by omega, by go_num, hbl6, hln6, ho6, hw6, hs6, hm6, hg6, HX5⟩
          case measure => simp [intOf]; omega
    · have hbl2 : bn ≤ 10620 := by omega
      have HON : Hid (∀ W zs q m d most, m ≤ 20000 → Gr wr W → Byt W q m d zs → L.map RX.two = allL zs at' → Calls Try.prog 25 #[.slice q m d, .int .u64 at', .slice lp LL lc, .int .i64 most] W (RetB true W)) := Lib.hid fun W zs q m d most hm2 gr hy hl => once_any q m d zs at' lp LL lc L most W hy hat hm2 ((hw.out.gr gr).base_le (Nat.zero_le _)) hl
      have HA0 : Hid (L.map RX.two = allL (strL rs at') at') := Lib.hid (by
        have h1 := allL_str rs at' [] hm.out (by simp)
        rw [List.append_nil] at h1
        rw [hs.out, h1])
      have HA1 : Hid (∀ T : List Int, T.length < 35 → L.map RX.two = allL (strL rs at' ++ T) at') := Lib.hid fun T hT => by rw [hs.out, allL_str rs at' T hm.out hT]
      have HN1 := Lib.hid (HON.out _ _ _ _ _ 0 (by omega) (Gr.refl _) ho.out.byt.1 HA0.out)
      go_wp2_with fail
      refine HN1.out.mono ?_
      rintro e w2 ⟨rfl, g2⟩
      have hg2 := Lib.hid (Gr.trans hg.out g2)
      have ho2 := Lib.hid (ho.out.below' g2)
      have gq := (Gr.refl w2).alloc (Nat.le_refl _) (.cells #[.int .u8 bh, .int .u8 0, .int .u8 0] 5)
      have HT3 := Lib.hid (Byt.three w2 bh 0 0 5 hbh (by omega) (by omega))
      have hg3 := Lib.hid (Gr.trans hg2.out gq)
      have ho3 := Lib.hid (ho2.out.below' gq)
      have hsz3 : Hid (w.heap.size ≤ (w2.alloc (.cells #[.int .u8 bh, .int .u8 0, .int .u8 0] 5)).heap.size) := Lib.hid hg3.out.size
      have hgw : Hid (Gr wr w2) := Lib.hid g2
      clear gq g2 HN1 ho2 hg2
      have hlb : Hid ((strL rs at').length + 3 ≤ 140737488355328) := Lib.hid (by have := HBN.out; omega)
      go_wp2_with (at_builtin; refine wpList_app_byt_g bt6 rfl (.tmp 65) (.tmp 67) rfl w.heap.size _ _ rfl ho3.out ⟨w2.heap.size, 0, none⟩ 3 3 _ rfl HT3.out hlb.out hsz3.out ?_)
      intro v4 w4 ho4 gr4
      have hg4 := Lib.hid (Below.grown hg3.out gr4 hsz3.out (fun k e => OwnB.base ho3.out k e))
      have hw3 := ((hw.out.gr hgw.out).gr ((Gr.refl w2).alloc (Nat.le_refl _) (.cells #[.int .u8 bh, .int .u8 0, .int .u8 0] 5)))
      have hw4 : Hid (OwnR ShS w4 w.heap.size TST (.slice lp LL lc) L) := Lib.hid (hw3.grown gr4 (rows_apart hw3.row ho3.out.row (by decide)) (fun x hx1 s hs1 hn1 y hy1 e => by
        cases hk : (Value.slice bp bn bc).ownBlock with
        | none => rw [hk] at e; cases e
        | some k =>
          have h2 := byt_low (hx.out x hx1 s hs1) (OwnB.base ho3.out k hk) hn1 y hy1
          rw [hk] at e
          exact h2 e))
      obtain ⟨bn4, hbn4⟩ : ∃ bn4, bn4 = (strL rs at' ++ [bh, 0, 0]).length := ⟨_, rfl⟩
      obtain ⟨bp4, bc4, rfl⟩ := ho4.shape bn4 hbn4.symm
      have hb4 : bn4 ≤ 20000 := by rw [hbn4, List.length_append]; have := HBN.out; simp; omega
      have HN4 := Lib.hid (once_any bp4 bn4 bc4 _ at' lp LL lc L 0 w4 ho4.byt.1 hat hb4 (hw4.out.base_le (Nat.zero_le _)) (HA1.out [bh, 0, 0] (by simp)))
      clear ho4 gr4 hw3 hbn4
      go_wp2_with fail
      refine HN4.out.mono ?_
      rintro e w5 ⟨rfl, g5⟩
      have hg5 := Lib.hid (Gr.trans hg4.out g5)
      clear g5 HN4 HON
      go_wp2_with fail
      refine (HK.out _).mono ?_
      rintro e w6 ⟨rfl, g6⟩
      go_wp2_with fail
      go_ret
      exact ⟨rfl, Gr.trans hg5.out g6⟩

end Go.Proofs.Ytchfhgeipmfegaa
