import Derived.Test.YtepabjfkelmdoaaKnown3
namespace Go.Proofs.Ytepabjfkelmdoaa
open Go.RowKit Go.Maps

theorem sector_at (j : Int) (h0 : 0 ≤ j) (h1 : j < 256) (w : World) : Calls Try.prog 20 #[.int .u8 j] w fun e w' => RetSec (Sec.of (UInt8.ofNat j.toNat)) w e w' := by
  have := sector_any (UInt8.ofNat j.toNat) w
  rwa [B8_of j h0 h1] at this

/-- A number brought into 0 .. n - 1. -/
theorem into (z : Int) (n : Nat) (hn : 0 < n) (h2 : n ≤ 20) : ∃ J : Nat, J < n ∧ (z.tmod (n : Int) + (n : Int)) % (n : Int) = (J : Int) ∧ (z.tmod (n : Int) + (n : Int)).tmod (n : Int) = (J : Int) ∧ 0 ≤ z.tmod (n : Int) + (n : Int) ∧ -20 ≤ z.tmod (n : Int) ∧ z.tmod (n : Int) ≤ 20 := by
  have h1 := Int.tmod_lt_of_pos z (show (0 : Int) < (n : Int) by omega)
  have h3 : -(n : Int) < z.tmod (n : Int) := by
    have := Int.tmod_lt_of_pos (-z) (show (0 : Int) < (n : Int) by omega)
    rw [Int.neg_tmod] at this
    omega
  refine ⟨((z.tmod (n : Int) + (n : Int)) % (n : Int)).toNat, ?_, ?_, ?_, by omega, by omega, by omega⟩
  · have := Int.emod_lt_of_pos (z.tmod (n : Int) + (n : Int)) (show (0 : Int) < (n : Int) by omega)
    have := Int.emod_nonneg (z.tmod (n : Int) + (n : Int)) (show (n : Int) ≠ 0 by omega)
    omega
  · have := Int.emod_nonneg (z.tmod (n : Int) + (n : Int)) (show (n : Int) ≠ 0 by omega)
    omega
  · rw [Int.tmod_eq_emod_of_nonneg (by omega)]
    have := Int.emod_nonneg (z.tmod (n : Int) + (n : Int)) (show (n : Int) ≠ 0 by omega)
    omega

/-- Behind k writes. -/
def Fz (z : Int) (n k dn : Nat) (s : St) : Prop := s.ls.length = n ∧ s.writes = dn ∧ dn ≤ k ∧ ((((k : Int) ≤ z) ∧ dn = k ∧ s.fuse = z - k ∧ s.dead = false) ∨ (z < k ∧ (dn : Int) = z ∧ s.dead = true))
/-- A disk of the law's own, below whose blocks nothing has turned. -/
def Own (w wr : World) (d : Value) (s : St) : Prop := ∃ F, Dk wr F d s ∧ Gr w wr ∧ ∀ k, F k → w.heap.size ≤ k
theorem Own.gr {w wr wx : World} {d : Value} {s : St} (h : Own w wr d s) (g : Gr wr wx) : Own w wx d s := by
  obtain ⟨F, h1, h2, h3⟩ := h
  exact ⟨F, h1.gr g, Gr.trans h2 g, h3⟩
theorem Own.grown {w wr : World} {d : Value} {s : St} (h : Own w wr d s) : Gr w wr := by
  obtain ⟨F, h1, h2, h3⟩ := h
  exact h2
theorem Own.upd {w wr wx : World} {d : Value} {s' : St} {F F' : Nat → Prop} (hg : Gr w wr) (hF : ∀ k, F k → w.heap.size ≤ k) (h : Dk wx F' d s') (u : Upd F F' wr wx) : Own w wx d s' :=
  ⟨F', h, Below.trans hg (u.below hg.size hF), u.from hg.size hF⟩

set_option maxRecDepth 100000 in
set_option maxHeartbeats 2000000 in
theorem diskFuse_walk (n z : Int) (q : Option Addr) (m c : Nat) (zs : List Int) (w : World) (hz : Nums w q m c zs) (hz1 : -9223372036854775808 ≤ z) (hz2 : z ≤ 9223372036854775807) :
    Calls Try.prog 6 #[.int .i64 n, .int .i64 z, .slice q m c] w fun e w' => RetTrue w e w' := by
  have hm63 := hz.most
  have HZ := Lib.hid hz
  clear hz
  by_cases h1 : n < 1
  · clear HZ hz1 hz2
    go_enter Try.func6, Try.ntmps6
    go_wp2_with fail
    refine (known_any _).mono ?_
    rintro e w1 ⟨rfl, g1⟩
    go_wp2_with fail
    go_ret
    exact ⟨rfl, g1⟩
  · by_cases h2 : 20 < n
    · clear HZ hz1 hz2
      go_enter Try.func6, Try.ntmps6
      go_wp2_with fail
      refine (known_any _).mono ?_
      rintro e w1 ⟨rfl, g1⟩
      go_wp2_with fail
      go_ret
      exact ⟨rfl, g1⟩
    · by_cases h3 : 100 < m
      · have h3' : (100 : Int) < (m : Int) := by omega
        clear HZ hz1 hz2
        go_enter Try.func6, Try.ntmps6
        go_wp2_with fail
        refine (known_any _).mono ?_
        rintro e w1 ⟨rfl, g1⟩
        go_wp2_with fail
        go_ret
        exact ⟨rfl, g1⟩
      · by_cases h4 : z < 0
        · have h3' : ¬ (100 : Int) < (m : Int) := by omega
          clear HZ hz1 hz2
          go_enter Try.func6, Try.ntmps6
          go_wp2_with fail
          refine (known_any _).mono ?_
          rintro e w1 ⟨rfl, g1⟩
          go_wp2_with fail
          go_ret
          exact ⟨rfl, g1⟩
        · have h3' : ¬ (100 : Int) < (m : Int) := by omega
          obtain ⟨N, rfl⟩ := Int.eq_ofNat_of_zero_le (show 0 ≤ n by omega)
          go_enter Try.func6, Try.ntmps6
          go_wp2_with fail
          refine (New_yes N _ ⟨by omega, by omega⟩).mono ?_
          rintro e w1 ⟨d, F, rfl, hd, hg, hfar⟩
          have HD1 := Lib.hid hd
          have HG1 := Lib.hid hg
          have HF1 := Lib.hid hfar
          clear hd hg hfar
          go_wp2_with fail
          refine (Fuse_any w1 HD1.out z (by omega) (by omega)).mono ?_
          rintro e w2 ⟨rfl, hd, hu⟩
          have HO2 : Hid (Own w w2 d { fresh (List.replicate N Sec.zero) with fuse := z }) := Lib.hid (Own.upd HG1.out HF1.out hd hu)
          clear hd hu HD1 HG1 HF1
          go_wp2_with fail
          go_loopw [9, 10] (fun dv i wr => ∃ (k dn : Nat) (s : St), k ≤ m ∧ i = .int .i64 k ∧ dv = .int .i64 dn ∧ Hid (Own w wr d s) ∧ Hid (Fz z N k dn s)) (fun _ i _ => m - (intOf i).toNat)
          case atStart => exact ⟨0, 0, _, Nat.zero_le _, rfl, rfl, HO2.out, by simp [fresh], rfl, Nat.le_refl _, .inl ⟨by omega, rfl, by simp, rfl⟩⟩
          case round =>
            obtain ⟨k, dn, s, hk, rfl, rfl, ho, hf⟩ := hrel
            by_cases hlt : k < m
            · obtain ⟨b2, o2, rfl, hc2⟩ := (HZ.out.gr ho.out.grown).lies (by omega)
              have hcz := hc2 k hlt
              obtain ⟨Z, hZ⟩ : ∃ Z, Z = zs.getD k 0 := ⟨_, rfl⟩
              rw [← hZ] at hcz
              obtain ⟨J, hJ, e1, e2, b1, b2', b3⟩ := into Z N (by omega) (by omega)
              have hdk : dn ≤ k := hf.out.2.2.1
              have hu8 : IntKind.u8.wrap (k : Int) = (k : Int) := by rw [IntKind.wrap_u8]; omega
              have HJ := Lib.hid hJ
              clear hc2 hZ hJ
              go_wp2_with fail
              refine (sector_at k (by omega) (by omega) _).mono ?_
              rintro e w3 ⟨rfl, g3⟩
              obtain ⟨F3, hd3, hg3, hf3⟩ := ho.out.gr g3
              have HD3 := Lib.hid hd3
              have HG3 := Lib.hid hg3
              have HF3 := Lib.hid hf3
              obtain ⟨hl, hw, _, hor⟩ := hf.out
              have hJl : J < s.ls.length := by rw [hl]; exact HJ.out
              have HJl := Lib.hid hJl
              clear ho g3 hd3 hg3 hf3 hcz e1 e2 b1 b2' b3 hu8 hJl HJ
              by_cases hkz : (k : Int) < z
              · have hs : dn = k ∧ s.fuse = z - k ∧ s.dead = false := by
                  rcases hor with ⟨_, h1, h2, h3⟩ | ⟨h, _⟩
                  · exact ⟨h1, h2, h3⟩
                  · omega
                obtain ⟨rfl, hfu, hde⟩ := hs
                have hnr : ¬ s.refuses := by unfold St.refuses; rw [hfu, hde]; simp; omega
                have HNr := Lib.hid hnr
                have HWb : Hid (s.writes ≤ 1000000000) := Lib.hid (show s.writes ≤ 1000000000 by omega)
                have HFz : Hid (∀ x, Fz z N (dn + 1) (dn + 1) (s.wrote J x)) := Lib.hid fun x => ⟨hl, by show s.writes + 1 = dn + 1; omega, Nat.le_refl _, .inl ⟨by omega, rfl, by show (if 0 < s.fuse then s.fuse - 1 else s.fuse) = _; rw [hfu, if_pos (by omega)]; omega, hde⟩⟩
                have HDe : Hid (∀ x, (s.wrote J x).dead = false) := Lib.hid fun _ => hde
                clear hl hw hor hfu hde hnr hf
                go_wp2_with fail
                refine (Write_yes w3 HD3.out J HJl.out _ HNr.out HWb.out).mono ?_
                rintro e w4 ⟨F4, rfl, hd4, hu4⟩
                have HD4 := Lib.hid hd4
                have HO4 : Hid (Own w w4 d _) := Lib.hid (Own.upd HG3.out HF3.out hd4 hu4)
                clear hd4 hu4 HD3 HG3 HF3 HNr HWb HJl
                go_wp2_with fail
                refine (Dead_any w4 HD4.out).mono ?_
                rintro e w5 ⟨rfl, rfl⟩
                rw [HDe.out]
                clear HDe HD4
                go_wp2
                go_roundw
                case rel => exact ⟨dn + 1, dn + 1, _, by omega, by go_num, by go_num, HO4, HFz.out _⟩
                case measure => simp [intOf]; omega
              · have hs : s.refuses ∧ (dn : Int) = z := by
                  rcases hor with ⟨h0, h1, h2, h3⟩ | ⟨h, h1, h2⟩
                  · exact ⟨.inl (by rw [h2]; omega), by omega⟩
                  · exact ⟨.inr h2, h1⟩
                have hdz : ¬ (dn : Int) < z := by rw [hs.2]; omega
                have HR := Lib.hid hs.1
                have HFz : Hid (Fz z N (k + 1) dn { s with dead := true }) := Lib.hid ⟨hl, hw, by omega, .inr ⟨by omega, hs.2, rfl⟩⟩
                clear hl hw hor hf hs hkz
                go_wp2_with fail
                refine (Write_dead w3 HD3.out J HJl.out _ HR.out).mono ?_
                rintro e w4 ⟨rfl, hd4, hu4⟩
                have HD4 := Lib.hid hd4
                have HO4 : Hid (Own w w4 d _) := Lib.hid (Own.upd HG3.out HF3.out hd4 hu4)
                clear hd4 hu4 HD3 HG3 HF3 HR HJl
                go_wp2_with fail
                refine (Dead_any w4 HD4.out).mono ?_
                rintro e w5 ⟨rfl, rfl⟩
                go_wp2_with fail
                refine (Barrier_dead w4 HD4.out rfl).mono ?_
                rintro e w5 ⟨rfl, rfl⟩
                clear HD4
                go_wp2
                go_roundw
                case rel => exact ⟨k + 1, dn, _, by omega, by go_num, rfl, HO4, HFz⟩
                case measure => simp [intOf]; omega
            · obtain rfl : k = m := by omega
              obtain ⟨F3, hd3, hg3, _⟩ := ho.out
              have HD3 := Lib.hid hd3
              have HG3 := Lib.hid hg3
              have HW : Hid (s.writes = dn) := Lib.hid hf.out.2.1
              clear ho hf hd3 hg3
              go_wp2_with fail
              refine (Writes_any wr HD3.out).mono ?_
              rintro e w4 ⟨rfl, rfl⟩
              rw [HW.out]
              go_wp2_with fail
              refine (known_any _).mono ?_
              rintro e w5 ⟨rfl, g5⟩
              have HG5 := Lib.hid (Gr.trans HG3.out g5)
              clear g5
              go_wp2_with fail
              go_ret
              exact ⟨rfl, HG5.out⟩

end Go.Proofs.Ytepabjfkelmdoaa
