
/-
  A layout's sector, and a master's: the document's.
-/
import Derived.Test.YtanajjfcnedaiaaBytes
import Derived.ArgAppend
import Derived.Test.YtanajjfcnedaiaaKeeps
import Derived.Lib.SlBytesConst
namespace Go.Proofs.Ytanajjfcnedaiaa
open Go.RowKit Cr

theorem upTo_three (nm : List Int) (k a b c : Nat) : nm ++ (Wd.enc k a ++ (Wd.enc k b ++ Wd.enc k c)) = upTo nm k [a, b, c] 3 := by simp [upTo]

theorem gr_none {w w' : World} (h : w.grownBy w' none) : Gr w w' := (Gr.refl w).grown h (Nat.le_refl _) (fun _ h => by cases h)

/-- append(a full slice, bytes). -/
theorem wpList_app_full {w : World} {ops : Array Oper} {rest : List Oper} {o : Oper} {a : Act} {Q : Exit → Act → World → Prop} (hgd : o.guard = none) (s x : Operand)
    (ho : o.op = .call { callee := .builtin .append, args := #[s, x], argTypes := #[71, 71] }) {b of n : Nat} {xs : List Int} (hs : a.eval s = .slice (some ⟨b, of, none⟩) n n) (hb : Byt w (some ⟨b, of, none⟩) n n xs) (h0 : 0 < n)
    {q : Option Addr} {m c : Nat} {ys : List Int} (hx : a.eval x = .slice q m c) (hy : Byt w q m c ys) (hm : 0 < m) (hl : n + m ≤ 1000)
    (h : ∀ v' w', OwnB w' w.heap.size 5 v' (xs ++ ys) → Gr w w' → wpList Try.prog ops Q rest (a.put o.dst v') w') : wpList Try.prog ops Q (o :: rest) a w := by
  obtain ⟨i, hi, hz0, hz1, hz2⟩ := info_parts bt4.info
  obtain ⟨b2, of2, rfl, _⟩ := hy.at hm
  have hxl := hb.len
  have hyl := hy.len
  refine wpList_append_arg w hgd s x _ ho 5 i (.int .u8 0) 1 1 bt4.us hi hz0 hz1 hz2 rfl (by decide) b of n n (xs.map (Value.int .u8)) hs (by simp [hxl]) ?olds ⟨b2, of2, none⟩ m c (ys.map (Value.int .u8)) hx (by simp [hyl]) hy.news (u8s_oneCell _) ?spare ?b1 ?b2 ?room ?grow
  case olds =>
    intro j u hj
    have := hb.news j u hj
    rwa [Addr.add_lit] at this
  case spare => intro h; omega
  case b1 => simp only [maxLen]; omega
  case b2 => omega
  case room => intro h; omega
  case grow =>
    intro _ v' w' hown hg
    refine h v' w' ⟨?_, hb.small.app hy.small⟩ (gr_none hg)
    have e : (xs ++ ys).length = n + m := by simp [hxl, hyl]
    rw [e, List.map_append]
    exact hown

/-- A literal's bytes, marked or not. -/
theorem byt_lit (w : World) (xs : List Int) (n : Nat) (fr : Nat × Nat) (hn : xs.length = n) (hm : n ≤ 1000) (hs : Wd.Small xs) (C : Array Value) (hC : C = (xs.map (Value.int .u8)).toArray) :
    Byt (w.alloc (.cells C 5 fr)) (some ⟨w.heap.size, 0, none⟩) n n xs := by
  subst hC
  refine ⟨hn, Nat.le_refl _, by simp only [maxLen]; omega, fun h => ⟨_, 0, rfl, fun i hi => ?_⟩, (fun h => by cases h), hs⟩
  have hg := heap_alloc_new w (.cells (xs.map (Value.int .u8)).toArray 5 fr)
  unfold World.cell?
  simp only [Nat.zero_add]
  rw [hg]
  simp [List.getD, hn, hi]

theorem own_gr {w w' : World} {base tB : Nat} {v : Value} {xs : List Int} (h : OwnB w base tB v xs) (g : Gr w w') : OwnB w' base tB v xs := by
  refine ⟨⟨h.row.1, ?_⟩, h.small⟩
  rcases h.row.2 with hn | ⟨b, cap, cur, rfl, hb, hg, rest⟩
  · exact .inl hn
  · exact .inr ⟨b, cap, cur, rfl, hb, by rw [g.block b (Array.getElem?_eq_some_iff.1 hg).1]; exact hg, rest⟩
theorem byt_grown {w w' : World} {p : Option Addr} {n c : Nat} {xs : List Int} {row : Option Nat} (h : Byt w p n c xs) (g : w.grownBy w' row) (hne : 0 < n → ∀ a, p = some a → some a.block ≠ row) : Byt w' p n c xs :=
  ⟨h.len, h.cap, h.most, fun hn => by
    obtain ⟨b, o, rfl, hc⟩ := h.at hn
    exact ⟨b, o, rfl, fun i hi => g.cell (hc i hi) (show some b ≠ row from hne hn ⟨b, o, none⟩ rfl)⟩, h.nilCap, h.small⟩

set_option maxRecDepth 100000 in
set_option maxHeartbeats 1000000 in
theorem refBytes_any (n l g : Nat) (w : World) (h0 : n ≤ 5000) (h1 : l ≤ 5000) (h2 : g ≤ 5000) : Calls Try.prog 25 #[.agg #[.int .i64 n, .int .i64 l, .int .i64 g]] w (RetSec (lyB n l g) w) := by
  have hz := zero_sec
  rw [← Sx_zero] at hz
  obtain ⟨Z, hZ⟩ : ∃ Z, Z = List.replicate 256 (0 : Int) := ⟨_, rfl⟩
  rw [← hZ] at hz
  clear hZ
  obtain ⟨C, hC⟩ : ∃ C, C = (nameS.map (Value.int .u8)).toArray := ⟨_, rfl⟩
  have hcv := Lib.run_convert_bytes_const (P := Try.prog) ((w.alloc (.cells #[.int .i64 n, .int .i64 l, .int .i64 g] TY)).alloc (.cells (sec (Sx Z)) TS)) 71 5 C 8 8 Try.underlying71 Try.underlying5
  have h8 : C.size = 8 := by rw [hC]; rfl
  have hY := byt_lit ((w.alloc (.cells #[.int .i64 n, .int .i64 l, .int .i64 g] TY)).alloc (.cells (sec (Sx Z)) TS)) nameS 8 (8, 9) rfl (by omega) nameS_small C hC
  have hB := (((Blk.new w TY #[.int .i64 n, .int .i64 l, .int .i64 g]).alloc (.cells (sec (Sx Z)) TS)).alloc (.cells C 5 (8, 9)))
  have hR := ((Blk.new (w.alloc (.cells #[.int .i64 n, .int .i64 l, .int .i64 g] TY)) TS (sec (Sx Z))).alloc (.cells C 5 (8, 9)))
  have hG := ((((Gr.refl w).alloc (Nat.le_refl _) (.cells #[.int .i64 n, .int .i64 l, .int .i64 g] TY)).alloc (by simp) (.cells (sec (Sx Z)) TS)).alloc (by simp; omega) (.cells C 5 (8, 9)))
  obtain ⟨W, hW⟩ : ∃ W, W = ((w.alloc (.cells #[.int .i64 n, .int .i64 l, .int .i64 g] TY)).alloc (.cells (sec (Sx Z)) TS)).alloc (.cells C 5 (8, 9)) := ⟨_, rfl⟩
  rw [h8] at hcv
  rw [← hW] at hcv hY hB hR hG
  simp only [World.size_alloc] at hcv hY hR
  rw [hC] at hcv
  simp only [nameS, List.map_cons, List.map_nil] at hcv
  have HB := Lib.hid hB
  have HR := Lib.hid hR
  have HG : Hid (Gr w W) := Lib.hid hG
  have HY := Lib.hid hY
  have HWS : Hid (W.heap.size = w.heap.size + 3) := Lib.hid (by rw [hW]; simp)
  have HP := Lib.hid (fun m W (hm : m ≤ 5000) => refPut_any m 4 W (by omega) (by omega))
  obtain ⟨⟨c0, c1, c2⟩, _⟩ := hB.c3
  clear hB hR hG hY hW hC h8
  go_enter Try.func25, Try.ntmps25
  go_wp2_with fail
  refine (HP.out n _ h0).mono ?_
  rintro e w1 ⟨p1, m1, d1, rfl, hy1, g1, _⟩
  obtain rfl : 4 = m1 := by rw [← hy1.len, Wd.enc_length]
  have HY1 := Lib.hid hy1
  have HN1 := Lib.hid (HY.out.kept g1)
  have HB1 := Lib.hid (HB.out.below g1 HB.out.lt)
  have HR1 := Lib.hid (HR.out.below g1 HR.out.lt)
  have HG1 := Lib.hid (Gr.trans HG.out g1)
  clear g1 hy1 c0 c1 c2 hcv hz HY HB HR HG
  obtain ⟨⟨c0, c1, c2⟩, _⟩ := HB1.out.c3
  go_wp2_with (at_builtin; refine wpList_app_full rfl _ _ rfl rfl HN1.out (by omega) rfl HY1.out (by omega) (by omega) ?_)
  intro v2 w2 own2 g2
  have HO2 := Lib.hid own2
  have HB2 := Lib.hid (HB1.out.below g2 HB1.out.lt)
  have HR2 := Lib.hid (HR1.out.below g2 HR1.out.lt)
  have HG2 := Lib.hid (Gr.trans HG1.out g2)
  have HS2 : Hid (w1.heap.size ≤ w2.heap.size) := Lib.hid g2.size
  have HGW : Hid (Gr w1 w2) := Lib.hid g2
  clear own2 g2 HY1 HN1 c0 c1 c2
  obtain ⟨⟨c0, c1, c2⟩, _⟩ := HB2.out.c3
  go_wp2_with fail
  refine (HP.out l _ h1).mono ?_
  rintro e w3 ⟨p3, m3, d3, rfl, hy3, g3, _⟩
  obtain rfl : 4 = m3 := by rw [← hy3.len, Wd.enc_length]
  have HY3 := Lib.hid hy3
  have HO3 := Lib.hid (own_gr HO2.out g3)
  have HB3 := Lib.hid (HB2.out.below g3 HB2.out.lt)
  have HR3 := Lib.hid (HR2.out.below g3 HR2.out.lt)
  have HG3 := Lib.hid (Gr.trans HG2.out g3)
  have HS3 : Hid (w1.heap.size ≤ w3.heap.size) := Lib.hid (Nat.le_trans HS2.out g3.size)
  have HBG : Hid (Gr w1 w3) := Lib.hid (Gr.trans HGW.out g3)
  clear g3 hy3 c0 c1 c2 HO2 HB2 HR2 HG2 HS2
  obtain ⟨⟨c0, c1, c2⟩, _⟩ := HB3.out.c3
  go_wp2_with (at_builtin; refine wpList_app_byt bt4 rfl _ _ rfl w1.heap.size _ _ rfl HO3.out _ 4 _ _ rfl HY3.out (by simp [nameS, Wd.enc_length]) HS3.out ?_)
  intro v4 w4 own4 g4
  have HO4 := Lib.hid own4
  have HG4w : Hid (Below w1.heap.size w1 w4) := Lib.hid (Below.app HBG.out HS3.out HO3.out g4)
  have HG4 : Hid (Gr w w4) := Lib.hid (Gr.trans HG1.out HG4w.out)
  have HB4 := Lib.hid (HB1.out.below HG4w.out HB1.out.lt)
  have HR4 := Lib.hid (HR1.out.below HG4w.out HR1.out.lt)
  clear own4 g4 HO3 HB3 HR3 HG3 HS3 HY3 c0 c1 c2 HBG
  obtain ⟨⟨c0, c1, c2⟩, _⟩ := HB4.out.c3
  go_wp2_with fail
  refine (HP.out g _ h2).mono ?_
  rintro e w5 ⟨p5, m5, d5, rfl, hy5, g5, _⟩
  obtain rfl : 4 = m5 := by rw [← hy5.len, Wd.enc_length]
  have HY5 := Lib.hid hy5
  have HO5 := Lib.hid (own_gr HO4.out g5)
  have HBG : Hid (Gr w1 w5) := Lib.hid (Gr.trans HG4w.out g5)
  have HS5 : Hid (w1.heap.size ≤ w5.heap.size) := Lib.hid HBG.out.size
  clear g5 hy5 c0 c1 c2 HO4 HB4 HR4 HG4 HG4w
  go_wp2_with (at_builtin; refine wpList_app_byt bt4 rfl _ _ rfl w1.heap.size _ _ rfl HO5.out _ 4 _ _ rfl HY5.out (by simp [nameS, Wd.enc_length]) HS5.out ?_)
  intro v6 w6 own6 g6
  obtain ⟨p6, c6, hv⟩ := own6.shape 20 (by simp [nameS, Wd.enc_length])
  subst hv
  have HG6w : Hid (Below w1.heap.size w1 w6) := Lib.hid (Below.app HBG.out HS5.out HO5.out g6)
  have HG6 : Hid (Gr w w6) := Lib.hid (Gr.trans HG1.out HG6w.out)
  have HR6 := Lib.hid (HR1.out.below HG6w.out HR1.out.lt)
  have HSL := Lib.hid (refSealed_any p6 20 c6 _ w6 own6.byt.1 (by omega) (by omega))
  rw [upTo_three] at HSL
  clear own6 g6 HO5 HBG HS5 HY5 HG6w
  go_wp2_with fail
  refine HSL.out.mono ?_
  rintro e w7 ⟨rfl, g7⟩
  have HR7 := Lib.hid (HR6.out.below g7 HR6.out.lt)
  have HG7 := Lib.hid (Gr.trans HG6.out g7)
  clear g7 HSL
  go_wp2_with (refine wpList_store_x rfl _ _ rfl HR7.out rfl rfl ?_)
  exact bodyPost_ret (results_x rfl _ _ _ _ rfl (HR7.out.row _)) rfl ⟨rfl, below_setRow HG7.out (by omega) _⟩

set_option maxRecDepth 100000 in
set_option maxHeartbeats 1000000 in
theorem refMaBytes_any (n l g : Nat) (w : World) (h0 : n ≤ 18446744073709551615) (h1 : l ≤ 18446744073709551615) (h2 : g ≤ 18446744073709551615) : Calls Try.prog 27 #[.agg #[.int .u64 n, .int .u64 l, .int .u64 g]] w (RetSec (maB n l g) w) := by
  have hz := zero_sec
  rw [← Sx_zero] at hz
  obtain ⟨Z, hZ⟩ : ∃ Z, Z = List.replicate 256 (0 : Int) := ⟨_, rfl⟩
  rw [← hZ] at hz
  clear hZ
  obtain ⟨C, hC⟩ : ∃ C, C = (nameM.map (Value.int .u8)).toArray := ⟨_, rfl⟩
  have h8 : C.size = 8 := by rw [hC]; rfl
  have hY := byt_lit ((w.alloc (.cells #[.int .u64 n, .int .u64 l, .int .u64 g] TMa)).alloc (.cells (sec (Sx Z)) TS)) nameM 8 (0, 0) rfl (by omega) nameM_small C hC
  have hB := (((Blk.new w TMa #[.int .u64 n, .int .u64 l, .int .u64 g]).alloc (.cells (sec (Sx Z)) TS)).alloc (.cells C 5))
  have hR := ((Blk.new (w.alloc (.cells #[.int .u64 n, .int .u64 l, .int .u64 g] TMa)) TS (sec (Sx Z))).alloc (.cells C 5))
  have hG := ((((Gr.refl w).alloc (Nat.le_refl _) (.cells #[.int .u64 n, .int .u64 l, .int .u64 g] TMa)).alloc (by simp) (.cells (sec (Sx Z)) TS)).alloc (by simp; omega) (.cells C 5))
  obtain ⟨W, hW⟩ : ∃ W, W = ((w.alloc (.cells #[.int .u64 n, .int .u64 l, .int .u64 g] TMa)).alloc (.cells (sec (Sx Z)) TS)).alloc (.cells C 5) := ⟨_, rfl⟩
  rw [← hW] at hY hB hR hG
  simp only [World.size_alloc] at hY hR
  rw [hC] at hW
  simp only [nameM, List.map_cons, List.map_nil] at hW
  have HB := Lib.hid hB
  have HR := Lib.hid hR
  have HG : Hid (Gr w W) := Lib.hid hG
  have HY := Lib.hid hY
  have HP := Lib.hid (fun m W (hm : m ≤ 18446744073709551615) => refPut_any m 8 W hm (by omega))
  obtain ⟨⟨c0, c1, c2⟩, _⟩ := hB.c3
  have HWW := Lib.hid hW
  clear hB hR hG hY hW hC h8
  go_enter Try.func27, Try.ntmps27
  go_wp2_with fail
  rw [← HWW.out]
  refine (HP.out n _ h0).mono ?_
  rintro e w1 ⟨p1, m1, d1, rfl, hy1, g1, _⟩
  obtain rfl : 8 = m1 := by rw [← hy1.len, Wd.enc_length]
  have HY1 := Lib.hid hy1
  have HN1 := Lib.hid (HY.out.kept g1)
  have HB1 := Lib.hid (HB.out.below g1 HB.out.lt)
  have HR1 := Lib.hid (HR.out.below g1 HR.out.lt)
  have HG1 := Lib.hid (Gr.trans HG.out g1)
  clear g1 hy1 c0 c1 c2 hz HY HB HR HG
  obtain ⟨⟨c0, c1, c2⟩, _⟩ := HB1.out.c3
  go_wp2_with (at_builtin; refine wpList_app_full rfl _ _ rfl rfl HN1.out (by omega) rfl HY1.out (by omega) (by omega) ?_)
  intro v2 w2 own2 g2
  have HO2 := Lib.hid own2
  have HB2 := Lib.hid (HB1.out.below g2 HB1.out.lt)
  have HR2 := Lib.hid (HR1.out.below g2 HR1.out.lt)
  have HG2 := Lib.hid (Gr.trans HG1.out g2)
  have HS2 : Hid (w1.heap.size ≤ w2.heap.size) := Lib.hid g2.size
  have HGW : Hid (Gr w1 w2) := Lib.hid g2
  clear own2 g2 HY1 HN1 c0 c1 c2
  obtain ⟨⟨c0, c1, c2⟩, _⟩ := HB2.out.c3
  go_wp2_with fail
  refine (HP.out l _ h1).mono ?_
  rintro e w3 ⟨p3, m3, d3, rfl, hy3, g3, _⟩
  obtain rfl : 8 = m3 := by rw [← hy3.len, Wd.enc_length]
  have HY3 := Lib.hid hy3
  have HO3 := Lib.hid (own_gr HO2.out g3)
  have HB3 := Lib.hid (HB2.out.below g3 HB2.out.lt)
  have HR3 := Lib.hid (HR2.out.below g3 HR2.out.lt)
  have HG3 := Lib.hid (Gr.trans HG2.out g3)
  have HS3 : Hid (w1.heap.size ≤ w3.heap.size) := Lib.hid (Nat.le_trans HS2.out g3.size)
  have HBG : Hid (Gr w1 w3) := Lib.hid (Gr.trans HGW.out g3)
  clear g3 hy3 c0 c1 c2 HO2 HB2 HR2 HG2 HS2
  obtain ⟨⟨c0, c1, c2⟩, _⟩ := HB3.out.c3
  go_wp2_with (at_builtin; refine wpList_app_byt bt4 rfl _ _ rfl w1.heap.size _ _ rfl HO3.out _ 8 _ _ rfl HY3.out (by simp [nameM, Wd.enc_length]) HS3.out ?_)
  intro v4 w4 own4 g4
  have HO4 := Lib.hid own4
  have HG4w : Hid (Below w1.heap.size w1 w4) := Lib.hid (Below.app HBG.out HS3.out HO3.out g4)
  have HG4 : Hid (Gr w w4) := Lib.hid (Gr.trans HG1.out HG4w.out)
  have HB4 := Lib.hid (HB1.out.below HG4w.out HB1.out.lt)
  have HR4 := Lib.hid (HR1.out.below HG4w.out HR1.out.lt)
  clear own4 g4 HO3 HB3 HR3 HG3 HS3 HY3 c0 c1 c2 HBG
  obtain ⟨⟨c0, c1, c2⟩, _⟩ := HB4.out.c3
  go_wp2_with fail
  refine (HP.out g _ h2).mono ?_
  rintro e w5 ⟨p5, m5, d5, rfl, hy5, g5, _⟩
  obtain rfl : 8 = m5 := by rw [← hy5.len, Wd.enc_length]
  have HY5 := Lib.hid hy5
  have HO5 := Lib.hid (own_gr HO4.out g5)
  have HBG : Hid (Gr w1 w5) := Lib.hid (Gr.trans HG4w.out g5)
  have HS5 : Hid (w1.heap.size ≤ w5.heap.size) := Lib.hid HBG.out.size
  clear g5 hy5 c0 c1 c2 HO4 HB4 HR4 HG4 HG4w
  go_wp2_with (at_builtin; refine wpList_app_byt bt4 rfl _ _ rfl w1.heap.size _ _ rfl HO5.out _ 8 _ _ rfl HY5.out (by simp [nameM, Wd.enc_length]) HS5.out ?_)
  intro v6 w6 own6 g6
  obtain ⟨p6, c6, hv⟩ := own6.shape 32 (by simp [nameM, Wd.enc_length])
  subst hv
  have HG6w : Hid (Below w1.heap.size w1 w6) := Lib.hid (Below.app HBG.out HS5.out HO5.out g6)
  have HG6 : Hid (Gr w w6) := Lib.hid (Gr.trans HG1.out HG6w.out)
  have HR6 := Lib.hid (HR1.out.below HG6w.out HR1.out.lt)
  have HSL := Lib.hid (refSealed_any p6 32 c6 _ w6 own6.byt.1 (by omega) (by omega))
  rw [upTo_three] at HSL
  clear own6 g6 HO5 HBG HS5 HY5 HG6w
  go_wp2_with fail
  refine HSL.out.mono ?_
  rintro e w7 ⟨rfl, g7⟩
  have HR7 := Lib.hid (HR6.out.below g7 HR6.out.lt)
  have HG7 := Lib.hid (Gr.trans HG6.out g7)
  clear g7 HSL
  go_wp2_with (refine wpList_store_x rfl _ _ rfl HR7.out rfl rfl ?_)
  exact bodyPost_ret (results_x rfl _ _ _ _ rfl (HR7.out.row _)) rfl ⟨rfl, below_setRow HG7.out (by omega) _⟩

end Go.Proofs.Ytanajjfcnedaiaa
