/-
  Part 10 of what the laws of stage 6 rest on: contracts of the functions that they call, and what these rest on.
-/
import Derived.BigQuiet
import Derived.Deep.QuietTactic
import Derived.Test.YtlijbgapkmfnaaaGreatV3
import Derived.Test.YtlijbgapkmfnaaaGreatV6
import Derived.Test.YtlijbgapkmfnaaaGreatV7
import Derived.Test.YtlijbgapkmfnaaaGreatV8
import Derived.Test.YtlijbgapkmfnaaaGreatV9
import Derived.Test.YtlijbgapkmfnaaaGreatV1
set_option linter.unusedVariables false
set_option linter.unusedSimpArgs false
namespace Go.Proofs.YtlijbgapkmfnaaaGreat
open Go.RowKit Go.Maps
abbrev TLr : TypeId := 82
theorem Blk.c9 {w : World} {b : Nat} {t : TypeId} {x0 x1 x2 x3 x4 x5 x6 x7 x8 : Value} (h : Blk w b t #[x0, x1, x2, x3, x4, x5, x6, x7, x8]) :
  w.cell? ⟨b, 0, none⟩ = some x0 ∧ w.cell? ⟨b, 1, none⟩ = some x1 ∧ w.cell? ⟨b, 2, none⟩ = some x2 ∧ w.cell? ⟨b, 3, none⟩ = some x3 ∧ w.cell? ⟨b, 4, none⟩ = some x4 ∧ w.cell? ⟨b, 5, none⟩ = some x5 ∧ w.cell? ⟨b, 6, none⟩ = some x6 ∧ w.cell? ⟨b, 7, none⟩ = some x7 ∧ w.cell? ⟨b, 8, none⟩ = some x8 :=
 ⟨h.cell 0, h.cell 1, h.cell 2, h.cell 3, h.cell 4, h.cell 5, h.cell 6, h.cell 7, h.cell 8⟩
theorem rEnd_any (b : Nat) (p : Value) (n : Int) (ep tl fr : Nat) (q : Option Addr) (m c la : Nat) (rs : Int) (ct : Bool) (w : World) (h : Blk w b TLr #[p, .int .i64 n, .int .u64 ep, .int .u64 tl, .int .u64 fr, .slice q m c, .int .u64 la, .int .i64 rs, .bool ct]) (hE : fr + m ≤ 9223372036854775807) :
  Calls Tryz.prog 30 #[.pointer (some ⟨b, 0, none⟩)] w fun e w' => e = .returned (.int .u64 ((fr + m : Nat) : Int)) ∧ ∃ k, w' = w.drewN k := by
 obtain ⟨c0, c1, c2, c3, c4, c5, c6, c7, c8⟩ := h.c9; obtain ⟨E, hE2⟩ : ∃ E, E = fr + m := ⟨_, rfl⟩
 have hw1 : IntKind.u64.wrap (m : Int) = (m : Int) := by rw [IntKind.wrap_u64]; omega
 have hw2 : IntKind.u64.wrap ((fr : Int) + (m : Int)) = (E : Int) := by rw [IntKind.wrap_u64]; omega
 rw [← hE2]; clear h c0 c1 c2 c3 c6 c7 c8 hE hE2
 go_enter Tryz.func30, Tryz.ntmps30
 go_wp2_with fail
 go_quiet (fail)
 go_wp2_with fail
 go_ret
 exact ⟨rfl, _, rfl⟩
def rfreeR (n rs : Int) (tl E : Nat) : Int := max (232 * (n - 1) - ((E - tl / 232 * 232 : Nat) : Int) - rs) 0
theorem rFree_any (b : Nat) (p : Value) (n : Int) (ep tl fr : Nat) (q : Option Addr) (m c la : Nat) (rs : Int) (ct : Bool) (w : World) (h : Blk w b TLr #[p, .int .i64 n, .int .u64 ep, .int .u64 tl, .int .u64 fr, .slice q m c, .int .u64 la, .int .i64 rs, .bool ct]) (hE : fr + m ≤ 9223372036854775807) (hn : 0 ≤ n ∧ n ≤ 300) (hr : 0 ≤ rs ∧ rs ≤ 1000000) (ht : tl ≤ fr + m) (hs : fr + m ≤ tl + 100000) :
  Calls Tryz.prog 41 #[.pointer (some ⟨b, 0, none⟩)] w fun e w' => e = .returned (.int .i64 (rfreeR n rs tl (fr + m))) ∧ ∃ k, w' = w.drewN k := by
 obtain ⟨c0, c1, c2, c3, c4, c5, c6, c7, c8⟩ := h.c9; have HEn := Lib.hid (fun k => rEnd_any b p n ep tl fr q m c la rs ct (w.drewN k) (h.gr (gr_drewN (Gr.refl w) k)) hE); obtain ⟨E, hE2⟩ : ∃ E, E = fr + m := ⟨_, rfl⟩; obtain ⟨T, hT⟩ : ∃ T, T = tl / 232 := ⟨_, rfl⟩; obtain ⟨X, hX⟩ : ∃ X, X = E - T * 232 := ⟨_, rfl⟩; obtain ⟨Y, hY⟩ : ∃ Y : Int, Y = 232 * (n - 1) := ⟨_, rfl⟩
 rw [← hE2] at HEn
 have hw1 : IntKind.u64.wrap ((T : Int) * 232) = ((T * 232 : Nat) : Int) := by rw [IntKind.wrap_u64]; omega
 have hw2 : IntKind.u64.wrap ((E : Int) - ((T * 232 : Nat) : Int)) = (X : Int) := by rw [IntKind.wrap_u64]; omega
 have hw3 : (tl : Int) / 232 = (T : Int) := by omega
 have HR : Hid (rfreeR n rs tl (fr + m) = max (Y - X - rs) 0) := Lib.hid (by unfold rfreeR; rw [← hE2, ← hT, ← hX, ← hY]); rw [HR.out]
 have hw0 : IntKind.u64.wrap (T : Int) = (T : Int) := by rw [IntKind.wrap_u64]; omega
 have HQ : Hid (wrap64 (wrap64 (232 * (n - 1) - wrap64 (IntKind.u64.wrap ((E : Int) - IntKind.u64.wrap (IntKind.u64.wrap (T : Int) * 232)))) - rs) = Y - X - rs) := Lib.hid (by rw [hw0, hw1, hw2]; unfold wrap64; omega)
 have hb : 0 ≤ (X : Int) ∧ (X : Int) ≤ 101000 ∧ -300 ≤ Y ∧ Y ≤ 100000 := by omega
 clear h c0 c2 c4 c5 c6 c8 hE hE2 hT hX ht hs HR hw1 hw2 hw0 hb
 go_enter Tryz.func41, Tryz.ntmps41
 go_wp2_with fail
 go_quiet (exact Calls.quiet_of (HEn.out _))
 go_wp2_with fail
 all_goals
  rename_i hge
  rw [HQ.out] at hge ⊢
  go_ret
  refine ⟨ret_i ?_, _, rfl⟩
  omega
end Go.Proofs.YtlijbgapkmfnaaaGreat
namespace Go.Proofs.YtlijbgapkmfnaaaGreat
open Go.RowKit Go.Maps
structure RlAt (w : World) (b : Nat) (p : Value) (q : Option Addr) (m c fr : Nat) (ys : List Int) (L : Lg) : Prop where
 blk : Blk w b TLr #[p, .int .i64 L.l, .int .u64 L.epoch, .int .u64 L.tail, .int .u64 fr, .slice q m c, .int .u64 L.lasts, .int .i64 L.rsv, .bool L.begun]
 txt : Txt w q m c ys
 apart : ∀ y, q = some y → y.block ≠ b
 low : ∀ k, lgS b q k → k < w.heap.size
 nought : fr % 232 = 0
 le : fr ≤ L.lasts - L.lasts % 232
 tl : fr ≤ L.tail
 ends : ys.drop (L.lasts - L.lasts % 232 - fr) = L.txt
 len : fr + ys.length = L.fin
def RetRl (v : Value) (fr : Nat) (ys : List Int) (L' : Lg) (b : Nat) (p : Value) (q : Option Addr) (w : World) (e : Ending) (w' : World) : Prop :=
 ∃ q' m' c', e = .returned v ∧ RlAt w' b p q' m' c' fr ys L' ∧ Upd (lgS b q) (lgS b q') w w'
theorem rfree_same {l rs : Int} {tl E : Nat} (h : tl ≤ E) : rfreeR l rs tl E = freeR l rs tl E := by
 unfold rfreeR freeR
 have : E - tl / 232 * 232 = tl % 232 + (E - tl) := by omega
 rw [this]
section
variable {w w' : World} {b : Nat} {p : Value} {q : Option Addr} {m c fr : Nat} {ys : List Int} {L : Lg}
theorem RlAt.gr (h : RlAt w b p q m c fr ys L) (g : Gr w w') : RlAt w' b p q m c fr ys L := ⟨h.blk.gr g, h.txt.gr g, h.apart, fun k hk => Nat.lt_of_lt_of_le (h.low k hk) g.size, h.nought, h.le, h.tl, h.ends, h.len⟩
theorem RlAt.mlen (h : RlAt w b p q m c fr ys L) : fr + m = L.fin := by rw [← h.len, h.txt.1.len]
theorem RlAt.End (h : RlAt w b p q m c fr ys L) (ok : L.Ok) : Calls Tryz.prog 30 #[.pointer (some ⟨b, 0, none⟩)] w (RetU L.fin w) := by
 have hm := h.mlen; have h1 := rEnd_any b _ _ _ _ _ _ _ _ _ _ _ w h.blk (by have := ok.most; omega)
 rw [hm] at h1
 refine h1.mono ?_; rintro e w1 ⟨rfl, k, rfl⟩; exact ⟨rfl, gr_drewN (Gr.refl _) _⟩
theorem RlAt.Free' (h : RlAt w b p q m c fr ys L) (ok : L.Ok) : Calls Tryz.prog 41 #[.pointer (some ⟨b, 0, none⟩)] w fun e w' => e = .returned (.int .i64 L.free) ∧ ∃ k, w' = w.drewN k := by
 have hm := h.mlen; have hn := ok.near; have h1 := rFree_any b _ _ _ _ _ _ _ _ _ _ _ w h.blk (by have := ok.most; omega) (by have := ok.l1; omega) ⟨ok.r0, by have := ok.r1; omega⟩ (by omega) (by omega)
 rw [hm, rfree_same hn.1] at h1
 exact h1
theorem RlAt.set (h : RlAt w b p q m c fr ys L) (o : Only b w w') (L' : Lg) (hb : Blk w' b TLr #[p, .int .i64 L'.l, .int .u64 L'.epoch, .int .u64 L'.tail, .int .u64 fr, .slice q m c, .int .u64 L'.lasts, .int .i64 L'.rsv, .bool L'.begun]) (e1 : L'.lasts = L.lasts) (e2 : L'.txt = L.txt) (e3 : fr ≤ L'.tail) : RlAt w' b p q m c fr ys L' :=
 ⟨hb, h.txt.stays (fun y hy => o.block _ (h.apart y hy)), h.apart, fun k hk => by rw [o.size]; exact h.low k hk, h.nought, by rw [e1]; exact h.le, e3, by rw [e1, e2]; exact h.ends, by have := h.len; unfold Lg.fin at *; rw [e1, e2]; exact this⟩
end
end Go.Proofs.YtlijbgapkmfnaaaGreat
namespace Go.Proofs.YtlijbgapkmfnaaaGreat
open Go.RowKit Go.Maps
set_option maxRecDepth 100000 in
theorem rLay_no {b : Nat} {p : Value} {q : Option Addr} {m c fr : Nat} {ys : List Int} {L : Lg} (w : World) (h : RlAt w b p q m c fr ys L) (ok : L.Ok) (r : Rc) (pb : Option Addr) (nb cb : Nat) (pa : Option Addr) (na ca : Nat) (hb : Byt w pb nb cb r.b) (ha : Byt w pa na ca r.a) (use : Bool) (hfit : mayR r = false) :
  Calls Tryz.prog 23 #[.pointer (some ⟨b, 0, none⟩), .agg (rcv r pb nb cb pa na ca), .bool use] w (RetLayE 2 w) := by
 obtain ⟨W1, hW1⟩ : ∃ W1, W1 = w.alloc (.cells (rcv r pb nb cb pa na ca) TR) := ⟨_, rfl⟩; have HB1 : Hid (Blk W1 w.heap.size TR (rcv r pb nb cb pa na ca) ∧ Gr w W1) := Lib.hid (by rw [hW1]; exact ⟨Blk.new _ _ _, Gr.new _ _⟩); have HM := Lib.hid (fun W (g : Gr w W) => refMay_any r pb nb cb pa na ca W (hb.kept g) (ha.kept g)); have HW1 : Hid (w.alloc (.cells (rcv r pb nb cb pa na ca) 33) = W1) := Lib.hid hW1.symm
 rw [hfit] at HM
 clear h ok hb ha hW1 hfit
 unfold rcv at HW1 HB1 ⊢
 obtain ⟨c0, c1, c2, c3, c4, c5, c6, c7⟩ := HB1.out.1.c8
 go_enter Tryz.func23, Tryz.ntmps23
 go_wp2_with fail; rw [HW1.out]; go_wp2_with fail; refine (HM.out W1 HB1.out.2).mono ?_; rintro e W2 ⟨rfl, g2⟩; have HG2 := Lib.hid (Gr.trans HB1.out.2 g2); clear g2 HM c0 c1 c2 c3 c4 c5 c6 c7; go_wp2_with fail; refine bodyPost_ret_by (P := Tryz.prog) (v := .tuple #[.int .u64 0, .int .i64 2]) (by simp [results, Tryz.results23]) rfl ?_; exact ⟨rfl, HG2.out⟩
set_option maxRecDepth 100000 in
set_option maxHeartbeats 1000000 in
theorem rLay_full {b : Nat} {p : Value} {q : Option Addr} {m c fr : Nat} {ys : List Int} {L : Lg} (w : World) (h : RlAt w b p q m c fr ys L) (ok : L.Ok) (r : Rc) (pb : Option Addr) (nb cb : Nat) (pa : Option Addr) (na ca : Nat) (hb : Byt w pb nb cb r.b) (ha : Byt w pa na ca r.a) (use : Bool) (hfit : mayR r = true) (hroom : (if use then L.rsv else L.free) < sizeR r) :
  Calls Tryz.prog 23 #[.pointer (some ⟨b, 0, none⟩), .agg (rcv r pb nb cb pa na ca), .bool use] w (RetLayE 5 w) := by
 obtain ⟨W1, hW1⟩ : ∃ W1, W1 = w.alloc (.cells (rcv r pb nb cb pa na ca) TR) := ⟨_, rfl⟩; have HB1 : Hid (Blk W1 w.heap.size TR (rcv r pb nb cb pa na ca) ∧ Gr w W1) := Lib.hid (by rw [hW1]; exact ⟨Blk.new _ _ _, Gr.new _ _⟩); have HM := Lib.hid (fun W (g : Gr w W) => refMay_any r pb nb cb pa na ca W (hb.kept g) (ha.kept g)); have HS := Lib.hid (fun W (g : Gr w W) => refSize_any r pb nb cb pa na ca W (hb.kept g) (ha.kept g)); have HFr := Lib.hid (fun W (g : Gr w W) => (h.gr g).Free' ok); have HBk := Lib.hid (fun W (g : Gr w W) => (h.blk.gr g).cell 7); have HW1 : Hid (w.alloc (.cells (rcv r pb nb cb pa na ca) 33) = W1) := Lib.hid hW1.symm
 rw [hfit] at HM
 obtain ⟨z, hz⟩ : ∃ z, z = sizeR r := ⟨_, rfl⟩; obtain ⟨F, hF⟩ : ∃ F, F = L.free := ⟨_, rfl⟩; obtain ⟨R, hR⟩ : ∃ R, R = L.rsv := ⟨_, rfl⟩
 rw [← hz] at HS hroom
 rw [← hF] at HFr hroom
 rw [← hR] at HBk hroom
 clear h ok hb ha hW1 hfit hz hF hR
 unfold rcv at HW1 HB1 ⊢
 obtain ⟨c0, c1, c2, c3, c4, c5, c6, c7⟩ := HB1.out.1.c8
 go_enter Tryz.func23, Tryz.ntmps23
 go_wp2_with fail; rw [HW1.out]; go_wp2_with fail; refine (HM.out W1 HB1.out.2).mono ?_; rintro e W2 ⟨rfl, g2⟩; have HG2 := Lib.hid (Gr.trans HB1.out.2 g2); have HC2 := Lib.hid (HB1.out.1.gr g2); clear g2 HM c0 c1 c2 c3 c4 c5 c6 c7; obtain ⟨c0, c1, c2, c3, c4, c5, c6, c7⟩ := HC2.out.c8; go_wp2_with fail; refine (HS.out W2 HG2.out).mono ?_; rintro e W3 ⟨rfl, g3⟩; have HG3 := Lib.hid (Gr.trans HG2.out g3); have k7 := HBk.out W3 HG3.out
 simp at k7
 clear g3 HS c0 c1 c2 c3 c4 c5 c6 c7
 cases use
 ·
  have hr : F < z := by simpa using hroom
  clear hroom; go_wp2_with fail; refine (HFr.out W3 HG3.out).mono ?_; rintro e W4 ⟨rfl, k, rfl⟩; go_wp2_with fail; refine bodyPost_ret_by (P := Tryz.prog) (v := .tuple #[.int .u64 0, .int .i64 5]) (by simp [results, Tryz.results23]) rfl ?_; exact ⟨rfl, gr_drewN HG3.out _⟩
 ·
  have hr : R < z := by simpa using hroom
  clear hroom; go_wp2_with fail; refine bodyPost_ret_by (P := Tryz.prog) (v := .tuple #[.int .u64 0, .int .i64 5]) (by simp [results, Tryz.results23]) rfl ?_; exact ⟨rfl, HG3.out⟩
end Go.Proofs.YtlijbgapkmfnaaaGreat
namespace Go.Proofs.YtlijbgapkmfnaaaGreat
open Go.RowKit Go.Maps
theorem RlAt.more {w w' : World} {b : Nat} {p : Value} {q q' : Option Addr} {m c fr k c' : Nat} {ys zs : List Int} {L : Lg} (h : RlAt w b p q m c fr ys L) (hb : Blk w' b TLr #[p, .int .i64 L.l, .int .u64 L.epoch, .int .u64 L.tail, .int .u64 fr, .slice q' (m + k) c', .int .u64 L.lasts, .int .i64 L.rsv, .bool L.begun]) (ht : Txt w' q' (m + k) c' (ys ++ zs)) (ha : ∀ y, q' = some y → y.block ≠ b) (hl : ∀ k, lgS b q' k → k < w'.heap.size) : RlAt w' b p q' (m + k) c' fr (ys ++ zs) (L.more zs) := by
 have hlen := h.len; have hle := h.le
 unfold Lg.fin at hlen
 refine ⟨hb, ht, ha, hl, h.nought, h.le, h.tl, ?_, ?_⟩
 ·
  show (ys ++ zs).drop (L.lasts - L.lasts % 232 - fr) = L.txt ++ zs
  rw [List.drop_append_of_le_length (by omega), h.ends]
 ·
  show fr + (ys ++ zs).length = L.lasts - L.lasts % 232 + (L.txt ++ zs).length
  rw [List.length_append, List.length_append]
  omega
end Go.Proofs.YtlijbgapkmfnaaaGreat
namespace Go.Proofs.YtlijbgapkmfnaaaGreat
open Go.RowKit Go.Maps Cr
theorem sub_at {xs A B C : List Int} {f k : Nat} (h : xs = A ++ (B ++ C)) (hA : A.length = f) (hB : B.length = k) : sub xs (f : Int) (k : Int) = B := by
 subst h
 unfold sub
 rw [Int.toNat_natCast, Int.toNat_natCast, List.drop_left' hA, List.take_left' hB]
theorem atR_at {xs A B C : List Int} {f k : Nat} (h : xs = A ++ (B ++ C)) (hA : A.length = f) (hB : B.length = k) (h8 : 1 ≤ k ∧ k ≤ 8) (hx : xs.length = 256) : atR xs (f : Int) (k : Int) = Wd.dec B := by
 have hl : f + k ≤ 256 := by
  have := congrArg List.length h
  rw [List.length_append, List.length_append] at this
  omega
 unfold atR
 have hs : standsB xs.length (f : Int) (k : Int) = true := by
  unfold standsB mayB
  simp
  omega
 rw [hs, if_pos rfl, sub_at h hA hB]
theorem secL_says {k ep : Nat} {b : List Int} (hk : k < 18446744073709551616) (he : ep < 18446744073709551616) (hb : b.length ≤ 232) :
  okX (secL k ep b) = true ∧ numX (secL k ep b) = k ∧ epX (secL k ep b) = ep ∧ manyX (secL k ep b) = b.length ∧ bytX (secL k ep b) = b := by
 have hl := secL_len (k := k) (ep := ep) hb
 have e8 : (256 : Nat) ^ 8 = 18446744073709551616 := by decide
 have e4 : (256 : Nat) ^ 4 = 4294967296 := by decide
 have h1 : numX (secL k ep b) = k := by
  have h := atR_at (xs := secL k ep b) (A := []) (B := Wd.enc 8 k) (C := Wd.enc 8 ep ++ (Wd.enc 4 b.length ++ (Wd.enc 4 (sumW (headL k ep b.length ++ padTo 232 b)).toNat ++ padTo 232 b))) (f := 0) (k := 8) (by simp [secL, headL, List.append_assoc]) rfl (Wd.enc_length _ _) (by omega) hl
  unfold numX
  rw [show ((0 : Nat) : Int) = 0 from rfl, show ((8 : Nat) : Int) = 8 from rfl] at h
  rw [h, Wd.dec_enc, e8, Nat.mod_eq_of_lt hk]
 have h2 : epX (secL k ep b) = ep := by
  have h := atR_at (xs := secL k ep b) (A := Wd.enc 8 k) (B := Wd.enc 8 ep) (C := Wd.enc 4 b.length ++ (Wd.enc 4 (sumW (headL k ep b.length ++ padTo 232 b)).toNat ++ padTo 232 b)) (f := 8) (k := 8) (by simp [secL, headL, List.append_assoc]) (Wd.enc_length _ _) (Wd.enc_length _ _) (by omega) hl
  unfold epX
  rw [show ((8 : Nat) : Int) = 8 from rfl] at h
  rw [h, Wd.dec_enc, e8, Nat.mod_eq_of_lt he]
 have h3 : manyX (secL k ep b) = b.length := by
  have h := atR_at (xs := secL k ep b) (A := Wd.enc 8 k ++ Wd.enc 8 ep) (B := Wd.enc 4 b.length) (C := Wd.enc 4 (sumW (headL k ep b.length ++ padTo 232 b)).toNat ++ padTo 232 b) (f := 16) (k := 4) (by simp [secL, headL, List.append_assoc]) (by simp [Wd.enc_length]) (Wd.enc_length _ _) (by omega) hl
  unfold manyX
  rw [show ((16 : Nat) : Int) = 16 from rfl, show ((4 : Nat) : Int) = 4 from rfl] at h
  rw [h, Wd.dec_enc, e4, Nat.mod_eq_of_lt (by omega)]
 have h4 : sumX (secL k ep b) = (sumW (headL k ep b.length ++ padTo 232 b)).toNat := by
  have h := atR_at (xs := secL k ep b) (A := headL k ep b.length) (B := Wd.enc 4 (sumW (headL k ep b.length ++ padTo 232 b)).toNat) (C := padTo 232 b) (f := 20) (k := 4) (by simp [secL, List.append_assoc]) (headL_len _ _ _) (Wd.enc_length _ _) (by omega) hl
  unfold sumX
  rw [show ((20 : Nat) : Int) = 20 from rfl, show ((4 : Nat) : Int) = 4 from rfl] at h
  have hlt : (sumW (headL k ep b.length ++ padTo 232 b)).toNat < 4294967296 := (sumW (headL k ep b.length ++ padTo 232 b)).isLt; rw [h, Wd.dec_enc, e4, Nat.mod_eq_of_lt hlt]
 have h5 : (secL k ep b).take 20 = headL k ep b.length := by
  unfold secL
  rw [List.append_assoc, List.take_left' (headL_len _ _ _)]
 have h6 : (secL k ep b).drop 24 = padTo 232 b := by
  unfold secL
  rw [List.drop_left' (by rw [List.length_append, headL_len, Wd.enc_length])]
 refine ⟨?_, h1, h2, h3, ?_⟩
 ·
  unfold okX trueX
  rw [h3, h4, h5, h6]
  simp
  omega
 ·
  unfold bytX
  rw [h3, h6]
  unfold padTo
  exact List.take_left' rfl
def InC2 (z1 z2 : Nat) (w0 : World) (Mid Fin : World → Prop) (l : Nat → Bool) (W : World) : Prop := (l z1 = false → l z2 = false → Gr w0 W) ∧ (l z1 = true → l z2 = false → Mid W) ∧ (l z1 = true → l z2 = true → Fin W)
section
variable {z1 z2 : Nat} {w0 W W' : World} {Mid Fin : World → Prop} {l : Nat → Bool}
theorem InC2.start (h1 : l z1 = false) (g : Gr w0 W) : InC2 z1 z2 w0 Mid Fin l W := ⟨fun _ _ => g, (fun e => by rw [h1] at e; cases e), fun e => by rw [h1] at e; cases e⟩
theorem InC2.pre (h : InC2 z1 z2 w0 Mid Fin l W) (h1 : l z1 = false) (h2 : l z2 = false) : Gr w0 W := h.1 h1 h2
theorem InC2.mid (h : InC2 z1 z2 w0 Mid Fin l W) (h1 : l z1 = true) (h2 : l z2 = false) : Mid W := h.2.1 h1 h2
theorem InC2.post (h : InC2 z1 z2 w0 Mid Fin l W) (h1 : l z1 = true) (h2 : l z2 = true) : Fin W := h.2.2 h1 h2
theorem InC2.other (h : InC2 z1 z2 w0 Mid Fin l W) (i : Nat) (h1 : z1 ≠ i) (h2 : z2 ≠ i) : InC2 z1 z2 w0 Mid Fin (Flow.upd l i) W := by
 unfold InC2; rw [Flow.upd_other l h1, Flow.upd_other l h2]; exact h
theorem InC2.one (h2 : l z2 = false) (hm : Mid W') (hne : z2 ≠ z1) : InC2 z1 z2 w0 Mid Fin (Flow.upd l z1) W' := by
 unfold InC2; rw [Flow.upd_same, Flow.upd_other l hne]
 exact ⟨(fun e => by cases e), fun _ _ => hm, fun _ e => by rw [h2] at e; cases e⟩
theorem InC2.two (h1 : l z1 = true) (hm : Fin W') (hne : z1 ≠ z2) : InC2 z1 z2 w0 Mid Fin (Flow.upd l z2) W' := by
 unfold InC2; rw [Flow.upd_same, Flow.upd_other l hne]
 exact ⟨(fun e => by rw [h1] at e; cases e), (fun _ e => by cases e), fun _ _ => hm⟩
theorem InC2.grow0 (h : InC2 z1 z2 w0 Mid Fin l W) (h1 : l z1 = false) (h2 : l z2 = false) (g : Gr W W') (i : Nat) (n1 : z1 ≠ i) (n2 : z2 ≠ i) : InC2 z1 z2 w0 Mid Fin (Flow.upd l i) W' := by
 unfold InC2; rw [Flow.upd_other l n1, Flow.upd_other l n2]
 exact ⟨fun _ _ => Gr.trans (h.1 h1 h2) g, (fun e => by rw [h1] at e; cases e), fun e => by rw [h1] at e; cases e⟩
end
end Go.Proofs.YtlijbgapkmfnaaaGreat
namespace Go.Proofs.YtlijbgapkmfnaaaGreat
namespace Flow
open Go
section
variable {P : Program} {ops : Array Oper} {Q : Exit → Act → World → Prop} {md : Region.Mode}
def readsG (md : Region.Mode) (ops : Array Oper) (o : Oper) : List Nat := (o.after.toList.filter fun e => Region.binds md e && (match e.ground with
 | .data => true
 | .guard => true
 | _ => false)).filterMap fun e => (ops[e.on]?).bind (·.dst)
def bearsG (md : Region.Mode) (ops : Array Oper) (keep : List Nat) (fuel : Nat) (i d : Nat) : Bool :=
 ((List.range ops.size).any fun j => match ops[j]? with
  | some o => o.dst == some d && !waits md ops i fuel j
  | none => false) &&
 (keep.contains d || (List.range ops.size).any fun j => j != i && !waits md ops j fuel i && match ops[j]? with
  | some o => (readsG md ops o).contains d
  | none => false)
variable {Sl : Nat → Value → World → Prop} {Inv Fin Ear : World → Prop} {G : Nat → World → World → Prop} {a0 : Act}
end
end Flow
end Go.Proofs.YtlijbgapkmfnaaaGreat
namespace Go.Proofs.YtlijbgapkmfnaaaGreat
namespace Flow
open Go
section
variable {P : Program} {ops : Array Oper} {Q : Exit → Act → World → Prop} {md : Region.Mode}
def StepSG (P : Program) (md : Region.Mode) (ops : Array Oper) (Q : Exit → Act → World → Prop) (Sl : Nat → Value → World → Prop) (Inv : (Nat → Bool) → World → Prop) (G : World → World → Prop) (a0 : Act) (fl i : Nat) (o : Oper) : Prop :=
 ∀ (ℓ : Nat → Bool) a w, Same ops a0 a → ℓ i = false → (∀ j, j ≠ i → waits md ops i fl j = true → ℓ j = false) → (∀ j, j ≠ i → waits md ops j fl i = true → ℓ j = true) → Inv ℓ w → (∀ d, (readsG md ops o).contains d = true → Sl d (a.tmps.getD d undef) w) →
  ∀ K : Act → World → Prop, (∀ v w', G w w' → Inv (upd ℓ i) w' → (∀ d, o.dst = some d → Sl d v w') → K (a.put o.dst v) w') →
   if Region.wanted o (yielded ops a.tmps) = true then o.wp P a w K Q else K (a.put o.dst undef) w
def StepsSG (P : Program) (md : Region.Mode) (ops : Array Oper) (Q : Exit → Act → World → Prop) (Sl : Nat → Value → World → Prop) (Inv : (Nat → Bool) → World → Prop) (G : Nat → World → World → Prop) (a0 : Act) (fl : Nat) : Nat → List Oper → Prop
 | _, [] => True
 | i, o :: r => StepSG P md ops Q Sl Inv (G i) a0 fl i o ∧ StepsSG P md ops Q Sl Inv G a0 fl (i + 1) r
theorem StepsSG.cons {Sl : Nat → Value → World → Prop} {Inv : (Nat → Bool) → World → Prop} {G : Nat → World → World → Prop} {a0 : Act} {fl i : Nat} {o : Oper} {r : List Oper} (h : StepSG P md ops Q Sl Inv (G i) a0 fl i o) (k : StepsSG P md ops Q Sl Inv G a0 fl (i + 1) r) : StepsSG P md ops Q Sl Inv G a0 fl i (o :: r) := ⟨h, k⟩
theorem StepsSG.at {Sl : Nat → Value → World → Prop} {Inv : (Nat → Bool) → World → Prop} {G : Nat → World → World → Prop} {a0 : Act} {fl : Nat} : ∀ {l : List Oper} {i : Nat}, StepsSG P md ops Q Sl Inv G a0 fl i l → ∀ (j : Nat) (o : Oper), l[j]? = some o → StepSG P md ops Q Sl Inv (G (i + j)) a0 fl (i + j) o
 | [], _, _, _, _, h => by simp at h
 | x :: r, i, h, 0, o, ho => by
  simp only [List.getElem?_cons_zero, Option.some.injEq] at ho
  subst ho; exact h.1
 | x :: r, i, h, j + 1, o, ho => by
  simp only [List.getElem?_cons_succ] at ho
  have := StepsSG.at h.2 j o ho
  rwa [show i + 1 + j = i + (j + 1) by omega] at this
variable {Sl : Nat → Value → World → Prop} {Inv : (Nat → Bool) → World → Prop} {G : Nat → World → World → Prop} {a0 : Act}
theorem walkSG (keep : List Nat) (fl : Nat) (hmono : ∀ i d v w w', bearsG md ops keep fl i d = true → Sl d v w → G i w w' → Sl d v w') (hf : fineB md a0.tmps.size ops = true) (hs : ∀ (i : Nat) (o : Oper), ops[i]? = some o → StepSG P md ops Q Sl Inv (G i) a0 fl i o)
  (hfin : ∀ a w ℓ, Same ops a0 a → (∀ i, i < ops.size → ℓ i = true) → Inv ℓ w → (∀ (i : Nat) (o : Oper) d, ops[i]? = some o → o.dst = some d → d ∈ keep → Sl d (a.tmps.getD d undef) w) → Q .normal a w) :
  ∀ (fuel : Nat) (listed : Array Bool) (a : Act) (w : World), left listed ops.size ≤ fuel → listed.size = ops.size → Closed md ops listed → Same ops a0 a → Inv (fun j => listed.getD j true) w →
   (∀ (i : Nat) (o : Oper) d, ops[i]? = some o → listed.getD i true = true → o.dst = some d → (d ∈ keep ∨ ∃ (j : Nat) (oj : Oper), ops[j]? = some oj ∧ listed.getD j true = false ∧ d ∈ readsG md ops oj) → Sl d (a.tmps.getD d undef) w) → wpAny P md ops Q fuel listed a w := by
 have ends : ∀ (listed : Array Bool) (a : Act) (w : World), (∀ i, i < ops.size → listed.getD i true = true) → Same ops a0 a → Inv (fun j => listed.getD j true) w →
   (∀ (i : Nat) (o : Oper) d, ops[i]? = some o → listed.getD i true = true → o.dst = some d → (d ∈ keep ∨ ∃ (j : Nat) (oj : Oper), ops[j]? = some oj ∧ listed.getD j true = false ∧ d ∈ readsG md ops oj) → Sl d (a.tmps.getD d undef) w) → Q .normal a w := fun listed a w hl hsame hinv hsl =>
  hfin a w _ hsame hl hinv fun i o d ho hd hk => hsl i o d ho (hl i (Array.getElem?_eq_some_iff.1 ho).1) hd (.inl hk)
 have alls : ∀ listed : Array Bool, listed.size = ops.size → Region.ready md ops listed = [] → ∀ i, i < ops.size → listed.getD i true = true := by
  intro listed hsz hr i
  induction i using Nat.strongRecOn with
  | _ i ih =>
   intro hi
   cases hg : listed.getD i true with
   | true => rfl
   | false =>
    exfalso
    have : i ∈ Region.ready md ops listed := mem_ready.2 ⟨hg, ops[i], Array.getElem?_eq_getElem hi, fun e he hbd => by
     have hlt := fineB_down hf (Array.getElem?_eq_getElem hi) e he hbd; have h1 := ih e.on hlt (by omega)
     have h2 : e.on < listed.size := by omega
     simp only [Array.getD_eq_getD_getElem?, Array.getElem?_eq_getElem h2, Option.getD_some] at h1 ⊢
     exact h1⟩
    rw [hr] at this
    cases this
 intro fuel
 induction fuel with
 | zero =>
  intro listed a w hl hsz hcl hsame hinv hsl
  have hall2 := left_zero (listed := listed) (n := ops.size) (by omega); refine ⟨?_, ends listed a w hall2 hsame hinv hsl⟩
  cases hr : Region.ready md ops listed with
  | nil => rfl
  | cons j r =>
   have hj : j ∈ Region.ready md ops listed := by rw [hr]; exact List.mem_cons_self ..
   obtain ⟨hun, o, ho, _⟩ := mem_ready.1 hj
   rw [hall2 j (Array.getElem?_eq_some_iff.1 ho).1] at hun
   cases hun
 | succ fuel ih =>
  intro listed a w hl hsz hcl hsame hinv hsl
  refine ⟨fun hr => ends listed a w (alls listed hsz hr) hsame hinv hsl, fun i hi => ?_⟩; obtain ⟨hun, o, ho, hdep⟩ := mem_ready.1 hi; have hib : i < ops.size := (Array.getElem?_eq_some_iff.1 ho).1
  have flip : ∀ j, j < ops.size → listed.getD j false = true → listed.getD j true = true := fun j hj h => by
   have h2 : j < listed.size := by omega
   simp only [Array.getD_eq_getD_getElem?, Array.getElem?_eq_getElem h2, Option.getD_some] at h ⊢
   exact h
  have anc : ∀ j, waits md ops j fl i = true → j ≠ i → listed.getD j true = true := fun j hw hne => by
   cases fl with
   | zero => exact absurd (by simpa [waits] using hw) hne
   | succ f =>
    simp only [waits, Bool.or_eq_true] at hw
    rcases hw with hw | hw
    · exact absurd (by simpa using hw) hne
    ·
     rw [ho] at hw
     obtain ⟨k, hk, h2⟩ := Array.any_eq_true.1 hw
     simp only [Bool.and_eq_true] at h2
     have hmem := Array.getElem_mem hk; have hei := fineB_down hf ho _ hmem h2.1; exact waits_listed hcl f _ h2.2 (flip _ (by omega) (hdep _ hmem h2.1))
  refine wpOp_step ho fun K hK => hs i o ho (fun j => listed.getD j true) a w hsame hun (fun j hne hw => ?_) (fun j hne hw => anc j hw hne) hinv ?_ K ?_
  ·
   cases hlj : listed.getD j true with
   | false => rfl
   | true => rw [waits_listed hcl fl j hw hlj] at hun; cases hun
  ·
   intro d hd
   have hd' : d ∈ readsG md ops o := by simpa using hd
   obtain ⟨e, he, hed⟩ := List.mem_filterMap.1 hd'; obtain ⟨he1, he3⟩ := List.mem_filter.1 he
   have he2 : Region.binds md e = true := by simp only [Bool.and_eq_true] at he3; exact he3.1
   cases hoe : ops[e.on]? with
   | none => rw [hoe] at hed; cases hed
   | some oe =>
    rw [hoe] at hed
    have hl1 := hdep e (by simpa using he1) he2; exact hsl e.on oe d hoe (flip _ (Array.getElem?_eq_some_iff.1 hoe).1 hl1) hed (.inr ⟨i, o, ho, hun, hd'⟩)
  ·
   intro v w' hg hinv' hv
   have hset : ∀ j, listed.getD j true = true → (listed.setIfInBounds i true).getD j true = true := fun j h => by
    by_cases hji : i = j
    ·
     subst hji
     have : i < listed.size := by omega
     simp [this]
    · rw [getD_set_ne true hji]; exact h
   refine hK _ _ (ih (listed.setIfInBounds i true) (a.put o.dst v) w' ?_ (by simpa using hsz) ?_ ⟨(put_defers ..).trans hsame.defers, (put_size ..).trans hsame.size, fun d hd => ?_⟩ ?_ ?_)
   · have := left_less hun hib; omega
   ·
    intro j oj hoj hlj e he hb
    by_cases hji : i = j
    ·
     subst hji
     rw [ho] at hoj
     cases hoj
     have hei : e.on < ops.size := by have := fineB_down hf ho e he hb; omega
     exact hset _ (flip _ hei (hdep e he hb))
    ·
     rw [getD_set_ne true hji] at hlj
     exact hset _ (hcl j oj hoj hlj e he hb)
   · rw [getD_put_other (hd i o ho)]; exact hsame.old d hd
   ·
    have e : (fun j => (listed.setIfInBounds i true).getD j true) = upd (fun j => listed.getD j true) i := by
     funext j
     unfold upd
     by_cases hji : j = i
     ·
      subst hji
      have : j < listed.size := by omega
      simp [this]
     · rw [if_neg hji, getD_set_ne true (Ne.symm hji)]
    rw [e]; exact hinv'
   ·
    intro j oj d hoj hlj hdj hlive
    by_cases hji : j = i
    ·
     subst hji
     rw [ho] at hoj
     cases hoj
     have hds := (fineB_slot hf ho hdj).1; rw [hdj, getD_put_same (by rw [hsame.size]; exact hds)]; exact hv d hdj
    ·
     rw [getD_put_other (fun e => hji (fineB_one hf hoj ho hdj e))]
     rw [getD_set_ne true (Ne.symm hji)] at hlj
     have hjb : j < ops.size := (Array.getElem?_eq_some_iff.1 hoj).1; refine hmono i d _ _ _ ?_ (hsl j oj d hoj hlj hdj ?_) hg
     ·
      unfold bearsG
      rw [Bool.and_eq_true]
      constructor
      ·
       refine List.any_eq_true.2 ⟨j, List.mem_range.2 hjb, ?_⟩; rw [hoj]
       have hnw : waits md ops i fl j = false := by
        cases hw : waits md ops i fl j with
        | false => rfl
        | true => rw [waits_listed hcl fl j hw hlj] at hun; cases hun
       simp [hdj, hnw]
      ·
       rw [Bool.or_eq_true]
       rcases hlive with hk | ⟨j', oj', hoj', hl', hn'⟩
       · exact .inl (by simpa using hk)
       ·
        right
        have hne : j' ≠ i := by
         rintro rfl
         have : j' < listed.size := by omega
         simp [this] at hl'
        have hnw2 : waits md ops j' fl i = false := by
         cases hw : waits md ops j' fl i with
         | false => rfl
         | true =>
          exfalso
          have hl3 := anc j' hw hne
          have hlj : listed.getD j' true = false := by
           cases hlj' : listed.getD j' true with
           | false => rfl
           | true => rw [hset j' hlj'] at hl'; cases hl'
          rw [hl3] at hlj
          cases hlj
        refine List.any_eq_true.2 ⟨j', List.mem_range.2 (Array.getElem?_eq_some_iff.1 hoj').1, ?_⟩; rw [hoj']
        simp [hne, hn', hnw2]
     ·
      rcases hlive with hk | ⟨j', oj', hoj', hl', hn'⟩
      · exact .inl hk
      ·
       refine .inr ⟨j', oj', hoj', ?_, hn'⟩
       cases hlj' : listed.getD j' true with
       | false => rfl
       | true => rw [hset j' hlj'] at hl'; cases hl'
theorem regionSG {id : Nat} {w : World} (keep : List Nat) (fl : Nat) (Sl : Nat → Value → World → Prop) (Inv : (Nat → Bool) → World → Prop) (G : Nat → World → World → Prop) (hm : P.follows .mixedOrders = true) (hf : fineB .any a0.tmps.size ops = true)
  (hmono : ∀ i d v w w', bearsG .any ops keep fl i d = true → Sl d v w → G i w w' → Sl d v w') (h0 : Inv (fun j => (Array.replicate ops.size false).getD j true) w.drew) (hs : StepsSG P .any ops Q Sl Inv G a0 fl 0 ops.toList)
  (hfin : ∀ a w ℓ, Same ops a0 a → (∀ i, i < ops.size → ℓ i = true) → Inv ℓ w → (∀ (i : Nat) (o : Oper) d, ops[i]? = some o → o.dst = some d → d ∈ keep → Sl d (a.tmps.getD d undef) w) → Q .normal a w) :
  (Code.region id ops true).wp P Q a0 w := by
 refine wp_region_any hm ?_
 have hun : ∀ (i : Nat) (o : Oper), ops[i]? = some o → (Array.replicate ops.size false).getD i true = true → False := fun i o ho hl => by
  have hi : i < ops.size := (Array.getElem?_eq_some_iff.1 ho).1
  simp [hi] at hl
 refine walkSG keep fl hmono hf (fun i o ho => ?_) hfin _ _ a0 w.drew ?_ (by simp) (fun j o ho hl => (hun j o ho hl).elim) ⟨rfl, rfl, fun _ _ => rfl⟩ h0 (fun i o d ho hl _ _ => (hun i o ho hl).elim)
 ·
  have := hs.at i o (by simpa using ho)
  rwa [Nat.zero_add] at this
 ·
  have : ∀ n, left (Array.replicate ops.size false) n ≤ n := by
   intro n
   induction n with
   | zero => exact Nat.le_refl _
   | succ n ih => simp only [left]; split <;> omega
  exact this _
end
end Flow
end Go.Proofs.YtlijbgapkmfnaaaGreat
