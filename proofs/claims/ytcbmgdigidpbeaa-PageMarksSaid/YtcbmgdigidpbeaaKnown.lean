import Derived.Test.YtcbmgdigidpbeaaSet
namespace Go.Proofs.Ytcbmgdigidpbeaa
open Go.RowKit

/-- Bytes written out in a new block. -/
theorem Byt.lit (w : World) (xs : List Int) (t : TypeId) (n : Nat) (hn : xs.length = n) (hm : n ≤ 1000) (hs : Wd.Small xs) (C : Array Value) (hC : C = (xs.map (Value.int .u8)).toArray) : Byt (w.alloc (.cells C t)) (some ⟨w.heap.size, 0, none⟩) n n xs := by
  subst hC
  refine ⟨hn, Nat.le_refl _, by simp only [maxLen]; omega, fun _ => ⟨_, 0, rfl, fun i hi => ?_⟩, (fun h => by cases h), hs⟩
  rw [World.cell?_alloc_at _ _ _ _ rfl]
  simp [List.getD, hn, hi]

/-- no: is it refused with that error, and nothing is told? -/
theorem no_yes (p : Option Addr) (c : Nat) (e want : Int) (w : World) (h : e = want) : Calls Try.prog 11 #[.slice p 0 c, .int .i64 e, .int .i64 want] w fun e w' => e = .returned (.bool true) ∧ w = w' := by
  subst h
  go_enter Try.func11, Try.ntmps11
  go_wp2
  go_ret
  exact ⟨rfl, rfl⟩

theorem RetBytes.nil {er : Int} {w w' : World} {e : Ending} (h : RetBytes er [] w e w') : ∃ p c, e = .returned (.tuple #[.slice p 0 c, .int .i64 er]) ∧ Gr w w' := by
  obtain ⟨p, n, c, rfl, hby, hg, _⟩ := h
  obtain rfl : n = 0 := hby.len.symm
  exact ⟨p, c, rfl, hg⟩

theorem k1 (w : World) : Calls Try.prog 9 #[.int .u64 258, .int .i64 2] w (RetBytes 0 [2, 1] w) := put_yes 258 2 w (by decide)
theorem k2 (w : World) : Calls Try.prog 9 #[.int .u64 256, .int .i64 1] w (RetBytes 2 [] w) := put_no 256 1 w (by decide)
theorem k3 (w : World) : Calls Try.prog 9 #[.int .u64 1, .int .i64 9] w (RetBytes 2 [] w) := put_no 1 9 w (by decide)
theorem k4 {w : World} {p : Option Addr} {n c : Nat} (h : Byt w p n c [2, 1]) : Calls Try.prog 13 #[.slice p n c] w fun e w' => e = .returned (.tuple #[.int .u64 258, .int .i64 0]) ∧ w = w' := get_any p n c _ w h
theorem k5 {w : World} {p : Option Addr} {n c : Nat} (h : Byt w p n c [9, 2, 1, 9]) : Calls Try.prog 15 #[.slice p n c, .int .i64 1, .int .i64 2] w fun e w' => e = .returned (.tuple #[.int .u64 258, .int .i64 0]) ∧ w = w' := at_any p n c _ 1 2 w h
theorem k6 {w : World} {p : Option Addr} {n c : Nat} (h : Byt w p n c [0, 0, 0]) : Calls Try.prog 19 #[.slice p n c, .int .i64 1, .int .u64 258, .int .i64 2] w (RetBytes 0 [0, 2, 1] w) := set_any p n c _ 1 258 2 w h (by have := h.len; simp at this; omega)
theorem k7 {w : World} {p : Option Addr} {n c : Nat} (h : Byt w p n c [1]) : Calls Try.prog 15 #[.slice p n c, .int .i64 1, .int .i64 1] w fun e w' => e = .returned (.tuple #[.int .u64 0, .int .i64 2]) ∧ w = w' := at_any p n c _ 1 1 w h
theorem k8 (w : World) : Calls Try.prog 25 #[.string ⟨#[70, 70]⟩] w (RetBytes 4 [] w) := unhex_any ⟨#[70, 70]⟩ w (by decide)
theorem k9 (w : World) : Calls Try.prog 25 #[.string ⟨#[102]⟩] w (RetBytes 4 [] w) := unhex_any ⟨#[102]⟩ w (by decide)
theorem k10 {w : World} {p : Option Addr} {n c : Nat} (h : Byt w p n c [255, 1]) : Calls Try.prog 24 #[.slice p n c] w fun e w' => e = .returned (.string ⟨#[102, 102, 48, 49]⟩) ∧ Gr w w' := hex_any p n c _ w h (by have := h.len; simp at this; omega)

theorem gr_alloc {a w : World} (h : Gr a w) (o : Obj) : Gr a (w.alloc o) := Below.alloc h h.size o
theorem gr_self (w : World) (o : Obj) : Gr w (w.alloc o) := gr_alloc (Gr.refl w) o

set_option maxRecDepth 100000 in
set_option maxHeartbeats 1600000 in
/-- known: the chapter's rows. -/
theorem known_any (w : World) : Calls Try.prog 8 #[] w fun e w' => e = .returned (.bool true) ∧ Gr w w' := by
  go_enter Try.func8, Try.ntmps8
  go_wp2_with fail
  refine (k1 _).mono ?_
  rintro e w1 ⟨p1, n1, c1, rfl, hb1, g1, _⟩
  have HB1 := Lib.hid hb1
  have HG1 := Lib.hid g1
  clear hb1 g1
  go_wp2_with fail
  refine (k2 _).mono ?_
  rintro e w2 h
  obtain ⟨p2, c2, rfl, g2⟩ := h.nil
  have HB2 := Lib.hid (HB1.out.kept g2)
  have HG2 := Lib.hid (HG1.out.trans g2)
  clear h g2 HB1 HG1
  go_wp2_with fail
  refine (k3 _).mono ?_
  rintro e w3 h
  obtain ⟨p3, c3, rfl, g3⟩ := h.nil
  have HB3 := Lib.hid (HB2.out.kept g3)
  have HG3 := Lib.hid (HG2.out.trans g3)
  clear h g3 HB2 HG2
  go_wp2_with fail
  have HL4 := Lib.hid (Byt.lit w3 [2, 1] 5 2 rfl (by omega) (Wd.Small.of (by decide)) #[.int .u8 2, .int .u8 1] rfl)
  refine (k4 HL4.out).mono ?_
  rintro e w' ⟨rfl, rfl⟩
  clear HL4
  have HB4 := Lib.hid (HB3.out.kept (gr_self w3 (.cells #[.int .u8 2, .int .u8 1] 5)))
  have HG4 := Lib.hid (gr_alloc HG3.out (.cells #[.int .u8 2, .int .u8 1] 5))
  clear HB3 HG3
  generalize w3.alloc (.cells #[.int .u8 2, .int .u8 1] 5) = w4 at *
  go_wp2_with fail
  have HL5 := Lib.hid (Byt.lit w4 [9, 2, 1, 9] 5 4 rfl (by omega) (Wd.Small.of (by decide)) #[.int .u8 9, .int .u8 2, .int .u8 1, .int .u8 9] rfl)
  refine (k5 HL5.out).mono ?_
  rintro e w' ⟨rfl, rfl⟩
  clear HL5
  have HB5 := Lib.hid (HB4.out.kept (gr_self w4 (.cells #[.int .u8 9, .int .u8 2, .int .u8 1, .int .u8 9] 5)))
  have HG5 := Lib.hid (gr_alloc HG4.out (.cells #[.int .u8 9, .int .u8 2, .int .u8 1, .int .u8 9] 5))
  clear HB4 HG4
  generalize w4.alloc (.cells #[.int .u8 9, .int .u8 2, .int .u8 1, .int .u8 9] 5) = w5 at *
  go_wp2_with fail
  have HL6 := Lib.hid (Byt.lit w5 [0, 0, 0] 5 3 rfl (by omega) (Wd.Small.of (by decide)) #[.int .u8 0, .int .u8 0, .int .u8 0] rfl)
  have HB6 := Lib.hid (HB5.out.kept (gr_self w5 (.cells #[.int .u8 0, .int .u8 0, .int .u8 0] 5)))
  have HG6 := Lib.hid (gr_alloc HG5.out (.cells #[.int .u8 0, .int .u8 0, .int .u8 0] 5))
  refine (k6 HL6.out).mono ?_
  rintro e w7 ⟨p7, n7, c7, rfl, hb7, g7, _⟩
  have HD7 := Lib.hid hb7
  have HB7 := Lib.hid (HB6.out.kept g7)
  have HG7 := Lib.hid (HG6.out.trans g7)
  clear hb7 g7 HL6 HB5 HG5 HB6 HG6
  go_wp2_with fail
  have HL8 := Lib.hid (Byt.lit w7 [1] 5 1 rfl (by omega) (Wd.Small.of (by decide)) #[.int .u8 1] rfl)
  refine (k7 HL8.out).mono ?_
  rintro e w' ⟨rfl, rfl⟩
  clear HL8
  have HB8 := Lib.hid (HB7.out.kept (gr_self w7 (.cells #[.int .u8 1] 5)))
  have HD8 := Lib.hid (HD7.out.kept (gr_self w7 (.cells #[.int .u8 1] 5)))
  have HG8 := Lib.hid (gr_alloc HG7.out (.cells #[.int .u8 1] 5))
  clear HB7 HD7 HG7
  generalize w7.alloc (.cells #[.int .u8 1] 5) = w8 at *
  go_wp2_with fail
  refine (k8 _).mono ?_
  rintro e w9 h
  obtain ⟨p9, c9, rfl, g9⟩ := h.nil
  have HB9 := Lib.hid (HB8.out.kept g9)
  have HD9 := Lib.hid (HD8.out.kept g9)
  have HG9 := Lib.hid (HG8.out.trans g9)
  clear h g9 HB8 HD8 HG8
  go_wp2_with fail
  refine (k9 _).mono ?_
  rintro e w10 h
  obtain ⟨p10, c10, rfl, g10⟩ := h.nil
  have hb := HB9.out.kept g10
  have hd := HD9.out.kept g10
  have HG := Lib.hid (HG9.out.trans g10)
  have hconv1 : (convert 23 9 (.slice p1 n1 c1)).run Try.prog w10 = .ok (.string ⟨#[2, 1]⟩) w10 := hb.lies.convert hb.len c1 23 5 9 Try.underlying23 Try.underlying5 Try.underlying9
  have hconv2 : (convert 23 9 (.slice p7 n7 c7)).run Try.prog w10 = .ok (.string ⟨#[0, 2, 1]⟩) w10 := hd.lies.convert hd.len c7 23 5 9 Try.underlying23 Try.underlying5 Try.underlying9
  clear h g10 HB9 HD9 HG9 hb hd
  go_wp2_with (first | (go_at_call 11; refine (no_yes _ _ _ _ _ rfl).mono ?_; rintro e w' ⟨rfl, rfl⟩) | (go_at_call 24; refine (k10 (Byt.lit w10 [255, 1] 5 2 rfl (by omega) (Wd.Small.of (by decide)) #[.int .u8 255, .int .u8 1] rfl)).mono ?_; rintro e w11 ⟨rfl, g11⟩))
  go_wp2
  go_ret
  exact ⟨rfl, (gr_alloc HG.out _).trans g11⟩

end Go.Proofs.Ytcbmgdigidpbeaa
