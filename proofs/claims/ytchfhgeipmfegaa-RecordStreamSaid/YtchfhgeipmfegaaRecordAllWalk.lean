
/-
  The law RecordAll, walked.
-/
import Derived.Test.YtchfhgeipmfegaaOnce
import Derived.Test.YtchfhgeipmfegaaRecKnown
namespace Go.Proofs.Ytchfhgeipmfegaa
open Go.RowKit Cr

set_option maxRecDepth 100000 in
set_option maxHeartbeats 2000000 in
theorem recordAll_walk (p : Option Addr) (n c : Nat) (xs : List Int) (at' : Nat) (leave : Int) (w : World) (hb : Byt w p n c xs) (hat : at' ≤ 18446744073709551615) :
    Calls Try.prog 5 #[.slice p n c, .int .u64 at', .int .i64 leave] w (RetB true w) := by
  have HK := Lib.hid known_any
  have HB := Lib.hid hb
  have n63 : (n : Int) ≤ 9223372036854775807 := by have h1 := hb.most; have h2 := hb.cap; unfold maxLen at h1; omega
  by_cases h3000 : 3000 < n
  · have h3000' : (3000 : Int) < n := by omega
    clear hb
    go_enter Try.func5, Try.ntmps5
    go_wp2_with fail
    refine (HK.out _).mono ?_
    rintro e w1 ⟨rfl, g1⟩
    go_wp2_with fail
    go_ret
    exact ⟨rfl, g1⟩
  · have h3000' : ¬ (3000 : Int) < n := by omega
    have hn4 : n ≤ 20000 := by omega
    have HRA := Lib.hid (refAll_any p n c xs at' w hb hat hn4)
    have HON : Hid (∀ W lp ll lc L most, Gr w W → OwnR ShS W 0 TST (.slice lp ll lc) L → L.map RX.two = allL xs at' → Calls Try.prog 25 #[.slice p n c, .int .u64 at', .slice lp ll lc, .int .i64 most] W (RetB true W)) := Lib.hid fun W lp ll lc L most gr ho hl => once_any p n c xs at' lp ll lc L most W (HB.out.kept gr) hat hn4 ho hl
    clear hb
    go_enter Try.func5, Try.ntmps5
    go_wp2_with fail
    refine HRA.out.mono ?_
    rintro e w1 ⟨v, L, rfl, ho, hl, g1⟩
    obtain ⟨ll, hll⟩ : ∃ ll, ll = L.length := ⟨_, rfl⟩
    obtain ⟨lp, lc, rfl, _⟩ := ho.shape ll hll.symm
    have HO := Lib.hid (ho.base_le (Nat.zero_le _))
    have HL := Lib.hid hl
    have HG := Lib.hid g1
    clear ho hl g1 hll HRA
    have HN1 := Lib.hid (HON.out _ _ _ _ _ leave HG.out HO.out HL.out)
    go_wp2_with fail
    refine HN1.out.mono ?_
    rintro e w2 ⟨rfl, g2⟩
    have HN2 := Lib.hid (HON.out _ _ _ _ _ 0 (Gr.trans HG.out g2) (HO.out.gr g2) HL.out)
    have HG2 := Lib.hid (Gr.trans HG.out g2)
    clear g2 HN1 HON HO HG
    go_wp2_with fail
    refine HN2.out.mono ?_
    rintro e w3 ⟨rfl, g3⟩
    have HG3 := Lib.hid (Gr.trans HG2.out g3)
    clear g3 HN2 HG2
    go_wp2_with fail
    refine (HK.out _).mono ?_
    rintro e w4 ⟨rfl, g4⟩
    go_wp2_with fail
    go_ret
    exact ⟨rfl, Gr.trans HG3.out g4⟩

end Go.Proofs.Ytchfhgeipmfegaa
