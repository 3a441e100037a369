
/-
  The document's All; going over a program's records, as the law does.
-/
import Derived.Test.YtchfhgeipmfegaaRecAll
import Derived.Test.YtchfhgeipmfegaaRecRefOf
import Derived.Test.YtchfhgeipmfegaaOwnR
namespace Go.Proofs.Ytchfhgeipmfegaa
open Go.RowKit Cr

abbrev TST : TypeId := 74
abbrev TSL : TypeId := 65
/-- How one that stands lies. -/
def ShS : Shp RX where
  k := 9
  cs x := [.int .u64 x.e, .int .i64 x.c.k, .int .u64 x.c.t, .int .u64 x.c.p, .int .u64 x.c.x, .int .i64 x.c.g, .int .i64 x.c.o, .slice x.pb x.nb x.cb, .slice x.pa x.na x.ca]
  sl x := [⟨x.pb, x.nb, x.cb, x.c.b⟩, ⟨x.pa, x.na, x.ca, x.c.a⟩]
  kpos := by omega
  len _ := rfl
  one x := by
    intro u hu
    simp only [List.mem_cons, List.not_mem_nil, or_false] at hu
    rcases hu with rfl | rfl | rfl | rfl | rfl | rfl | rfl | rfl | rfl <;> rfl
theorem info_std : (Try.prog.info? TST).map (fun i => (i.zero, i.size, i.bytes)) = some (some (.agg #[.int .u64 0, .int .i64 0, .int .u64 0, .int .u64 0, .int .u64 0, .int .i64 0, .int .i64 0, .slice none 0 0, .slice none 0 0]), 9, 104) := by kernel_rfl

set_option maxRecDepth 100000 in
set_option maxHeartbeats 2000000 in
theorem refAll_any (p : Option Addr) (n c : Nat) (xs : List Int) (at' : Nat) (w : World) (hb : Byt w p n c xs) (hat : at' ≤ 18446744073709551615) (hn : n ≤ 20000) :
    Calls Try.prog 24 #[.slice p n c, .int .u64 at'] w fun e w' => ∃ v L, e = .returned v ∧ OwnR ShS w' w.heap.size TST v L ∧ L.map RX.two = allL xs at' ∧ Gr w w' := by
  have HB := Lib.hid hb
  have hl := Lib.hid hb.len
  have hcap := hb.cap
  have HBN : Hid (∀ ys e, ofB ys e = false → allL ys e = []) := Lib.hid fun ys e h => allL_no h
  clear hb
  go_enter Try.func24, Try.ntmps24
  go_wp2
  go_loopw [1, 5, 6] (fun av lv iv wr => ∃ (k e : Nat) (L : List RX), k ≤ n ∧ iv = .int .i64 k ∧ av = .int .u64 e ∧ e ≤ 18446744073709551615 ∧ L.length ≤ k ∧ Hid (OwnR ShS wr w.heap.size TST lv L) ∧ Hid (L.map RX.two ++ allL (xs.drop k) e = allL xs at') ∧ Hid (Gr w wr)) (fun _ _ iv _ => n - (intOf iv).toNat)
  case atStart => exact ⟨0, at', [], Nat.zero_le _, rfl, rfl, hat, Nat.le_refl _, Lib.hid (OwnR.nil _ _ _ _), Lib.hid rfl, Lib.hid (Gr.refl w)⟩
  case round =>
    obtain ⟨k, e, L, hk, rfl, rfl, he, hL, ho, hs, hg⟩ := hrel
    obtain ⟨lp, lc, rfl, hlc1, hlc2, hlf, _⟩ := ho.out.shape L.length rfl
    obtain ⟨LL, hLL⟩ : ∃ LL, LL = L.length := ⟨_, rfl⟩
    rw [← hLL] at ho hL ⊢
    have HLL := Lib.hid hLL
    clear hLL hlc1
    by_cases hlt : k < n
    · have hck : ¬ c = k := by omega
      obtain ⟨b, o, rfl, _⟩ := HB.out.at (by omega)
      have hyt := (HB.out.kept hg.out).tail k hk (some ⟨b, o + k, none⟩) (fun _ => rfl)
      have hy0 := HB.out.tail k hk (some ⟨b, o + k, none⟩) (fun _ => rfl)
      have HOF := Lib.hid (refOf_any _ _ _ _ e _ hyt he)
      have HY0 := Lib.hid hy0
      clear hyt hy0
      obtain ⟨ys, hys⟩ : ∃ ys, ys = xs.drop k := ⟨_, rfl⟩
      rw [← hys] at HOF HY0 hs
      have HYS := Lib.hid hys
      clear hys
      go_wp2_with fail
      refine HOF.out.mono ?_
      rintro e1 V ⟨pb, nb, cb, pa, na, ca, rfl, y1, y2, g1, hK⟩
      obtain ⟨R, hR⟩ : ∃ R, R = ofR ys e := ⟨_, rfl⟩
      obtain ⟨N, hN⟩ : ∃ N, N = ofN ys e := ⟨_, rfl⟩
      have ga := (Gr.refl V).alloc (Nat.le_refl _) (.cells #[.int .i64 R.k, .int .u64 R.t, .int .u64 R.p, .int .u64 R.x, .int .i64 R.g, .int .i64 R.o, .slice pb nb cb, .slice pa na ca] TR)
      have gn := Gr.trans g1 ga
      obtain ⟨k1, k2⟩ := hK w HY0.out
      rw [← hR] at y1 y2 k1 k2 ⊢
      have HG := Lib.hid (Gr.trans hg.out gn)
      have HO := Lib.hid (ho.out.gr gn)
      have HC := Lib.hid (Blk.new V TR #[.int .i64 R.k, .int .u64 R.t, .int .u64 R.p, .int .u64 R.x, .int .i64 R.g, .int .i64 R.o, .slice pb nb cb, .slice pa na ca])
      cases hB : ofB ys e
      · have hz := HBN.out _ _ hB
        have hs2 : Hid (L.map RX.two = allL xs at') := Lib.hid (by rw [← hs.out, hz, List.append_nil])
        rw [← hN]
        clear hB hz ga gn k1 k2 y1 y2 g1 hs HOF hg ho hR hN HC
        go_wp2_with fail
        go_ret
        exact ⟨_, L, rfl, HO.out, hs2.out, HG.out⟩
      · have hn1 := ofN_yes hB
        have hl1 := HY0.out.len
        rw [← hN] at hn1 ⊢
        have hs2 : Hid ((L ++ [(⟨onW e N, R, pb, nb, cb, pa, na, ca⟩ : RX)]).map RX.two ++ allL (xs.drop (k + N)) (onW e N) = allL xs at') := Lib.hid (by
          rw [← hs.out, allL_yes hB, ← hN, ← hR, HYS.out, List.drop_drop]
          simp [RX.two])
        have hw : IntKind.u64.wrap ((e : Int) + (N : Int)) = ((onW e N : Nat) : Int) := by rw [IntKind.wrap_u64]; unfold onW; omega
        have hfar : Hid (∀ s ∈ ShS.sl ⟨onW e N, R, pb, nb, cb, pa, na, ca⟩, s.In (V.alloc (.cells #[.int .i64 R.k, .int .u64 R.t, .int .u64 R.p, .int .u64 R.x, .int .i64 R.g, .int .i64 R.o, .slice pb nb cb, .slice pa na ca] TR)) (.slice lp LL lc)) := Lib.hid fun s hs => by
          have hrow : ∀ (q : Option Addr) (m d : Nat) (zs : List Int), Byt w q m d zs → 0 < m → ∀ y, q = some y → Value.ownBlock (.slice lp LL lc) ≠ some y.block := fun q m d zs hq hm y hy e2 => by
            obtain ⟨b2, o2, e3, hc⟩ := hq.at hm
            rw [hy] at e3
            cases e3
            have h1 : b2 < w.heap.size := blk_lt (hc 0 hm)
            have h2 : w.heap.size ≤ b2 := (ho.out.base b2 e2).1
            omega
          simp only [ShS, List.mem_cons, List.not_mem_nil, or_false] at hs
          rcases hs with rfl | rfl
          · exact ⟨y1.kept ga, fun h0 y hy => hrow _ _ _ _ k1 h0 y hy⟩
          · exact ⟨y2.kept ga, fun h0 y hy => hrow _ _ _ _ k2 h0 y hy⟩
        have hkN : k + N ≤ n := by omega
        have HLN : Hid (L.length = LL) := Lib.hid HLL.out.symm
        have hpos : 35 ≤ N := hn1.1
        clear hB ga gn k1 k2 y1 y2 g1 hs HOF hg ho hR hN hn1 hl1
        obtain ⟨c0, c1, c2, c3, c4, c5, c6, c7⟩ := HC.out.c8
        have hq0 := Blk.new (V.alloc (.cells #[.int .i64 R.k, .int .u64 R.t, .int .u64 R.p, .int .u64 R.x, .int .i64 R.g, .int .i64 R.o, .slice pb nb cb, .slice pa na ca] TR)) TST #[.int .u64 (onW e N), .int .i64 R.k, .int .u64 R.t, .int .u64 R.p, .int .u64 R.x, .int .i64 R.g, .int .i64 R.o, .slice pb nb cb, .slice pa na ca]
        simp only [World.size_alloc] at hq0
        have gq := (Gr.refl (V.alloc (.cells #[.int .i64 R.k, .int .u64 R.t, .int .u64 R.p, .int .u64 R.x, .int .i64 R.g, .int .i64 R.o, .slice pb nb cb, .slice pa na ca] TR))).alloc (Nat.le_refl _) (.cells #[.int .u64 (onW e N), .int .i64 R.k, .int .u64 R.t, .int .u64 R.p, .int .u64 R.x, .int .i64 R.g, .int .i64 R.o, .slice pb nb cb, .slice pa na ca] TST)
        have HO2 := Lib.hid (HO.out.gr gq)
        have HG2 := Lib.hid (Gr.trans HG.out gq)
        have HQ : Hid (∀ j, j < ShS.k → ((V.alloc (.cells #[.int .i64 R.k, .int .u64 R.t, .int .u64 R.p, .int .u64 R.x, .int .i64 R.g, .int .i64 R.o, .slice pb nb cb, .slice pa na ca] TR)).alloc (.cells #[.int .u64 (onW e N), .int .i64 R.k, .int .u64 R.t, .int .u64 R.p, .int .u64 R.x, .int .i64 R.g, .int .i64 R.o, .slice pb nb cb, .slice pa na ca] TST)).cell? ⟨V.heap.size + 1, j, none⟩ = (ShS.cs ⟨onW e N, R, pb, nb, cb, pa, na, ca⟩)[j]?) := Lib.hid fun j _ => by
          rw [hq0.cell j]
          simp [ShS]
        have HFA : Hid (∀ s ∈ ShS.sl ⟨onW e N, R, pb, nb, cb, pa, na, ca⟩, s.In ((V.alloc (.cells #[.int .i64 R.k, .int .u64 R.t, .int .u64 R.p, .int .u64 R.x, .int .i64 R.g, .int .i64 R.o, .slice pb nb cb, .slice pa na ca] TR)).alloc (.cells #[.int .u64 (onW e N), .int .i64 R.k, .int .u64 R.t, .int .u64 R.p, .int .u64 R.x, .int .i64 R.g, .int .i64 R.o, .slice pb nb cb, .slice pa na ca] TST)) (.slice lp LL lc)) := Lib.hid fun s hs => ⟨(hfar.out s hs).1.kept gq, (hfar.out s hs).2⟩
        have hsz : w.heap.size ≤ ((V.alloc (.cells #[.int .i64 R.k, .int .u64 R.t, .int .u64 R.p, .int .u64 R.x, .int .i64 R.g, .int .i64 R.o, .slice pb nb cb, .slice pa na ca] TR)).alloc (.cells #[.int .u64 (onW e N), .int .i64 R.k, .int .u64 R.t, .int .u64 R.p, .int .u64 R.x, .int .i64 R.g, .int .i64 R.o, .slice pb nb cb, .slice pa na ca] TST)).heap.size := HG2.out.size
        have hb1 : (L.length + 1) * 104 ≤ 140737488355328 := by have := HLN.out; omega
        have hb2 : L.length + 1 ≤ 100000000000 := by have := HLN.out; omega
        have HZ := Lib.hid (And.intro hsz (And.intro hb1 hb2))
        clear hq0 gq hsz hb1 hb2 HO HG hfar
        go_wp2_with (at_builtin; refine wpList_app_row ShS (T := TST) Try.underlying65 info_std rfl rfl (.tmp 33) (.tmp 37) rfl w.heap.size _ L rfl HO2.out (V.heap.size + 1) rfl ⟨onW e N, R, pb, nb, cb, pa, na, ca⟩ HQ.out HFA.out HZ.out.2.1 HZ.out.2.2 HZ.out.1 ?_)
        intro v' w' own gr _
        have HO3 := Lib.hid own
        have HG3 : Hid (Gr w w') := Lib.hid (Below.grown HG2.out gr HG2.out.size (fun j e => (HO2.out.base j e).1))
        have hln : (L ++ [(⟨onW e N, R, pb, nb, cb, pa, na, ca⟩ : RX)]).length ≤ k + N := by have := HLN.out; rw [List.length_append]; simp; omega
        clear own gr c0 c1 c2 c3 c4 c5 c6 c7
        go_wp2
        go_roundw
        case rel => exact ⟨k + N, onW e N, L ++ [⟨onW e N, R, pb, nb, cb, pa, na, ca⟩], hkN, by go_num, rfl, onW_le _ _, hln, HO3, hs2, HG3⟩
        case measure => simp [intOf]; omega
    · obtain rfl : k = n := by omega
      have hz : xs.drop k = [] := List.drop_of_length_le (by rw [hl.out]; exact Nat.le_refl _)
      have hs2 : Hid (L.map RX.two = allL xs at') := Lib.hid (by rw [← hs.out, hz, HBN.out [] e (ofB_short (by simp)), List.append_nil])
      clear hz hs
      go_wp2_with fail
      go_ret
      exact ⟨_, L, rfl, ho.out, hs2.out, hg.out⟩

end Go.Proofs.Ytchfhgeipmfegaa
