/-
  Texts, put together: Pool30 PoolAl1 PoolAl2 PoolAl3 PoolAl5.
-/
import Derived.Test.YtaemmknijmhnoaaGreatK36
set_option linter.unusedVariables false
set_option linter.unusedSimpArgs false
/-
  The law's known is true.
-/
namespace Go.Proofs.YtaemmknijmhnoaaGreat
open Go.RowKit Go.Maps

def PK : Pl := ((P0 8 false).use 25 (frS (secN (zeroD.nw 25)))).put 25 fK
theorem LK_lasts : LK.lasts = 37 := by
  unfold LK
  rw [(fl_alive zeroD_alive L1_ok).2.2, L1_fin]
theorem sK_sec : sK.nw 25 = Sx fK.sec := known_sec _
theorem KnB.dirty {P : Pl} (h : KnB P) : P.dirty = [] := by
  unfold Pl.dirty
  rw [List.filter_eq_nil_iff]
  intro i _ hc
  unfold Pl.clean at hc
  cases e : P.fr i with
  | none => rw [e] at hc; simp at hc
  | some g => rw [e] at hc; simp [h.cl i g e] at hc
set_option maxRecDepth 100000 in
set_option maxHeartbeats 2000000 in
theorem known07_any (w : World) : Calls Tryz.prog 8 #[] w fun e w' => e = .returned (.bool true) ∧ Gr w w' := by
  go_enter Tryz.func8, Tryz.ntmps8
  go_wp2_with fail
  refine (begin7_any 8 false w (by omega) (by omega)).mono ?_
  rintro e w1 ⟨d, l, b, m, S, rfl, h1, h2, g1⟩
  have HNo : Hid (Calls Tryz.prog 13 #[.pointer (some ⟨l, 0, none⟩), .int .i64 25] w1 fun e w' => e = .returned (.tuple #[.int .u64 0, .int .u64 37, .bool true]) ∧ KAt w w' b m (.pointer (some ⟨d, 0, none⟩)) (.pointer (some ⟨l, 0, none⟩)) (P0 8 false) zeroD L1 1000000) := Lib.hid (by
    refine (note7_any h1 (by decide) 25).mono ?_
    rintro e w' ⟨rfl, S', k1, k2⟩
    refine ⟨?_, KAt.next h2 g1 k1 k2⟩
    rw [nR_at, nR_lay, show (L0.noted 25).fin = 37 from L1_fin]
    rfl)
  clear h1 h2 g1
  go_wp2_with fail
  refine HNo.out.mono ?_
  rintro e w2 ⟨rfl, hk⟩
  have HPut : Hid (Calls Tryz.prog 14 #[.pointer (some ⟨b, 0, none⟩), .int .i64 25, .int .i64 0, .slice (some ⟨w2.heap.size, 0, none⟩) 1 1, .int .u64 0, .int .u64 37] (w2.alloc (.cells #[.int .u8 7] 5)) fun e w' => e = .returned (.int .i64 0) ∧ KAt w w' b m (.pointer (some ⟨d, 0, none⟩)) (.pointer (some ⟨l, 0, none⟩)) PK zeroD L1 900000) := Lib.hid (by
    obtain ⟨S, n, B, h1, h2, h3⟩ := hk
    have g := Gr.new w2 (.cells #[.int .u8 7] 5)
    have hc := Put_any (h1.gr g) (R := 900000) (by omega) 25 0 (Byt.one w2 7 5 (by omega)) (fun _ y hy e => by
      cases hy
      have := h1.low _ e
      exact absurd this (Nat.lt_irrefl _)) (first := 0) (lsn := 37) (by omega) (by omega)
    rw [known_put] at hc
    refine hc.mono ?_
    rintro e w' ⟨rfl, S', n', B', k1, k2⟩
    exact ⟨rfl, KAt.next h2 (Gr.trans h3 g) k1 k2⟩)
  clear hk HNo
  go_wp2_with fail
  refine HPut.out.mono ?_
  rintro e w3 ⟨rfl, hk⟩
  have HK3 := Lib.hid hk
  obtain ⟨hle, hdi⟩ := known_least known_A
  have HFi : Hid (Calls Tryz.prog 26 #[.pointer (some ⟨b, 0, none⟩)] w3 fun e w' => e = .returned (.tuple #[.int .u64 0, .bool true]) ∧ Gr w3 w') := Lib.hid (by
    obtain ⟨S, n, B, h1, h2, h3⟩ := hk
    have h := First_any h1.pl h1.ok.hin
    rw [show PK.least = 0 from hle, show PK.dirty = [25] from hdi] at h
    exact h)
  have HDi : Hid (∀ W, Gr w3 W → Calls Tryz.prog 22 #[.pointer (some ⟨b, 0, none⟩)] W fun e w' => ∃ q c, e = .returned (.slice (some ⟨q, 0, none⟩) 1 c) ∧ w'.cell? ⟨q, 0, none⟩ = some (.int .i64 25) ∧ Gr W w') := Lib.hid fun W g => by
    obtain ⟨S, n, B, h1, h2, h3⟩ := hk
    refine (Dirty_any (h1.gr g).pl h1.ok.hin).mono ?_
    rw [show PK.dirty = [25] from hdi]
    rintro e w' ⟨v, rfl, hv, g2⟩
    obtain ⟨q, c, rfl⟩ := hv.full (by simp)
    exact ⟨q, c, rfl, hv.cellAt 0 (by simp), g2⟩
  clear hk hle hdi HPut
  go_wp2_with fail
  refine HFi.out.mono ?_
  rintro e w4 ⟨rfl, g4⟩
  have HG4 := Lib.hid g4
  clear g4
  go_wp2_with fail
  refine (HDi.out _ HG4.out).mono ?_
  rintro e w5 ⟨q, c, rfl, c0, g5⟩
  have HK5 : Hid (KAt w w5 b m (.pointer (some ⟨d, 0, none⟩)) (.pointer (some ⟨l, 0, none⟩)) PK zeroD L1 900000) := Lib.hid (HK3.out.gr (Gr.trans HG4.out g5))
  clear g5 HDi HFi HK3
  go_wp2_with fail
  go_loopw [10] (fun kv wr => ∃ k : Nat, k ≤ 17 ∧ kv = .int .i64 (k : Int) ∧ Hid (∃ P s L, KI k P s L ∧ KAt w wr b m (.pointer (some ⟨d, 0, none⟩)) (.pointer (some ⟨l, 0, none⟩)) P s L (900000 - 200 * k))) (fun kv _ => 17 - (intOf kv).toNat)
  case atStart => exact ⟨0, Nat.zero_le _, rfl, Lib.hid ⟨PK, zeroD, L1, .inl ⟨by omega, known_A, rfl, rfl⟩, HK5.out⟩⟩
  case round =>
    obtain ⟨k, hk, rfl, HI⟩ := hrel
    by_cases hlt : k < 17
    · have g3 : (k : Int) < 17 := by omega
      have hw30 : IntKind.i64.wrap (30 + (k : Int)) = 30 + (k : Int) := IntWalk.i64_in _ (by omega)
      have hw : IntKind.i64.wrap ((k : Int) + 1) = ((k + 1 : Nat) : Int) := by rw [IntWalk.i64_in _ (by omega)]; omega
      have HGet : Hid (Calls Tryz.prog 11 #[.pointer (some ⟨b, 0, none⟩), .int .i64 (30 + (k : Int))] wr fun e w' => ∃ x y, e = .returned (.tuple #[.agg (Psec x), .int .u64 (y : Int), .int .i64 0]) ∧ ∃ P s L, KI (k + 1) P s L ∧ KAt w w' b m (.pointer (some ⟨d, 0, none⟩)) (.pointer (some ⟨l, 0, none⟩)) P s L (900000 - 200 * (k + 1))) := Lib.hid (by
        obtain ⟨P, s, L, hi, S, n, B, h1, h2, h3⟩ := HI.out
        obtain ⟨x, y, hg⟩ := hi.get hlt
        have hc := Get_any h1 (R := 900000 - 200 * (k + 1)) (by omega) ((30 + k : Nat) : Int)
        rw [hg] at hc
        rw [show (30 : Int) + (k : Int) = ((30 + k : Nat) : Int) by omega]
        refine hc.mono ?_
        rintro e w' ⟨rfl, S', n', B', k1, k2⟩
        exact ⟨x, y, rfl, _, _, _, (hi.step hlt).2, KAt.next h2 h3 k1 k2⟩)
      clear HI
      go_wp2_with fail
      refine HGet.out.mono ?_
      rintro e w6 ⟨x, y, rfl, hkk⟩
      have HKK := Lib.hid hkk
      have hz := Pzero_sec
      have HB : Hid (Blk (w6.alloc (.cells (Psec PSec.zero) PTS)) w6.heap.size PTS (Psec PSec.zero)) := Lib.hid (Blk.new _ _ _)
      clear hkk HGet
      go_wp2_with (refine PwpList_store_x rfl (.tmp 11) (.tmp 74) rfl HB.out rfl rfl ?_)
      go_roundw
      case rel =>
        obtain ⟨P, s, L, hi, hka⟩ := HKK.out
        exact ⟨k + 1, by omega, by go_num, Lib.hid ⟨P, s, L, hi, hka.newrow _ _⟩⟩
      case measure => simp [intOf]; omega
    · obtain rfl : k = 17 := by omega
      have HF : Hid (∃ P, KnB P ∧ KAt w wr b m (.pointer (some ⟨d, 0, none⟩)) (.pointer (some ⟨l, 0, none⟩)) P sK LK 890000) := Lib.hid (by
        obtain ⟨P, s, L, hi, S, n, B, h1, h2, h3⟩ := HI.out
        rcases hi with ⟨h, _⟩ | ⟨_, hb, rfl, rfl⟩
        · omega
        · exact ⟨P, hb, S, n, B, h1.lower (by omega), h2, h3⟩)
      obtain ⟨P, hkb, hka⟩ := HF.out
      have HKB := Lib.hid hkb
      have HKA := Lib.hid hka
      have HRd : Hid (Calls Tryz.prog 28 #[.pointer (some ⟨d, 0, none⟩), .int .i64 25] wr fun e w' => e = .returned (.tuple #[.agg (sec (Sx fK.sec)), .int .i64 0]) ∧ Gr wr w') := Lib.hid (by
        obtain ⟨S, n, B, h1, h2, h3⟩ := hka
        obtain ⟨F, hd, -⟩ := h1.cd.disk (w' := wr)
        have h := Read_yes wr hd 25 (by rw [h1.bud.len]; omega)
        rw [sK_sec] at h
        exact h)
      clear HI HF hkb hka c0
      go_wp2_with fail
      refine HRd.out.mono ?_
      rintro e w7 ⟨rfl, g7⟩
      have hz := zero_sec
      have HB : Hid (Blk (w7.alloc (.cells (sec Sec.zero) TS)) w7.heap.size TS (sec Sec.zero)) := Lib.hid (Blk.new _ _ _)
      have HK7 := Lib.hid ((HKA.out.gr g7).newrow (.cells (sec Sec.zero) TS) (sec (Sx fK.sec)))
      have hc8 : ((w7.alloc (.cells (sec Sec.zero) TS)).setRow w7.heap.size (sec (Sx fK.sec))).cell? ⟨w7.heap.size, 8, none⟩ = some (.int .u8 7) := ((HB.out.row _).cell 8).trans known_byte
      obtain ⟨W8, hW8⟩ : ∃ W8, W8 = (w7.alloc (.cells (sec Sec.zero) TS)).setRow w7.heap.size (sec (Sx fK.sec)) := ⟨_, rfl⟩
      have HW8 := Lib.hid hW8.symm
      rw [← hW8] at HK7 hc8
      have HLa : Hid (Calls Tryz.prog 21 #[.pointer (some ⟨l, 0, none⟩)] W8 fun e w' => e = .returned (.int .u64 37) ∧ Gr W8 w') := Lib.hid (by
        obtain ⟨S, n, B, h1, h2, h3⟩ := HK7.out
        have h := h1.cd.Lasts
        rw [LK_lasts] at h
        exact h)
      have HDi : Hid (∀ W, Gr W8 W → Calls Tryz.prog 22 #[.pointer (some ⟨b, 0, none⟩)] W fun e w' => ∃ p c, e = .returned (.slice p 0 c) ∧ Gr W w') := Lib.hid fun W g => by
        obtain ⟨S, n, B, h1, h2, h3⟩ := HK7.out
        refine (Dirty_any (h1.gr g).pl h1.ok.hin).mono ?_
        rw [HKB.out.dirty]
        rintro e w' ⟨v, rfl, hv, g2⟩
        obtain ⟨q, c, rfl⟩ := hv.shape
        exact ⟨q, c, rfl, g2⟩
      have HFr : Hid (∀ W, Gr W8 W → Calls Tryz.prog 24 #[.pointer (some ⟨b, 0, none⟩)] W fun e w' => e = .returned (.int .i64 8) ∧ W = w') := Lib.hid fun W g => by
        obtain ⟨S, n, B, h1, h2, h3⟩ := HK7.out
        have h := Frames_any (h1.gr g).pl
        rw [HKB.out.len] at h
        exact h
      have HG8 : Hid (Gr w W8) := Lib.hid (by
        obtain ⟨S, n, B, h1, h2, h3⟩ := HK7.out
        exact h3)
      clear g7 HRd HKA hW8 HK5 HK7
      go_wp2_with (refine wpList_store_x rfl (.tmp 14) (.tmp 82) rfl HB.out rfl rfl ?_; rw [HW8.out])
      refine HLa.out.mono ?_
      rintro e w8 ⟨rfl, g8⟩
      have HGa := Lib.hid g8
      clear g8
      go_wp2_with fail
      refine (HDi.out _ HGa.out).mono ?_
      rintro e w9 ⟨p9, c9, rfl, g9⟩
      have HGb := Lib.hid (Gr.trans HGa.out g9)
      clear g9
      go_wp2_with fail
      refine (HFr.out _ HGb.out).mono ?_
      rintro e w10 ⟨rfl, rfl⟩
      go_wp2_with fail
      go_ret
      exact ⟨rfl, Gr.trans HG8.out HGb.out⟩
end Go.Proofs.YtaemmknijmhnoaaGreat

/-
  With power nothing is refused; what a page has, in memory or on the disk.
-/
namespace Go.Proofs.YtaemmknijmhnoaaGreat
open Go.RowKit Go.Maps

theorem nw_wrote2 (s : St) (J j : Nat) (x : Sec) : (s.wrote J x).nw j = if j = J then x else s.nw j := by
  unfold St.nw St.wrote
  by_cases h : j = J
  · subst h; simp
  · simp [h]
theorem nw_ba {s : St} {i : Nat} (hi : i < s.ls.length) : (BaS s).nw i = s.nw i := by
  unfold BaS
  split
  · rfl
  · unfold St.barrier St.nw
    simp [List.getD, hi]
theorem ba_len (s : St) : (BaS s).ls.length = s.ls.length := by
  unfold BaS
  split
  · rfl
  · unfold St.barrier; simp
theorem nw_wrAll {L : Lg} (hl : L.l = 16) {i : Nat} (h19 : 19 ≤ i) : ∀ (n j : Nat) (s : St), i < s.ls.length → (wrAll L n j s).1.nw i = s.nw i
  | 0, _, s, hi => nw_ba hi
  | n + 1, j, s, hi => by
    unfold wrAll
    split
    · rfl
    · refine (nw_wrAll hl h19 n (j + 1) (s.wrote (wrI L j) (wrX L j)) hi).trans ?_
      rw [nw_wrote2, if_neg]
      have h1 : wrI L j < 19 := by
        unfold wrI
        rw [hl]
        have : (L.lasts / 232 + j) % (16 : Int).toNat < 16 := Nat.mod_lt _ (by decide)
        omega
      omega
theorem begI_lt {L : Lg} (hl : L.l = 16) : begI L < 19 := by
  unfold begI
  rw [hl]
  have : L.lasts / 232 % (16 : Int).toNat < 16 := Nat.mod_lt _ (by decide)
  omega
theorem putD_nw (s : St) {i j : Nat} (x : Sec) (h : i ≠ j) : (putD s i x).nw j = s.nw j ∧ (putD s i x).ls.length = s.ls.length := by
  unfold putD
  split
  · exact ⟨rfl, rfl⟩
  · exact ⟨by rw [nw_wrote2, if_neg (Ne.symm h)], rfl⟩
theorem nw_beg {s : St} {L : Lg} (hl : L.l = 16) {i : Nat} (h19 : 19 ≤ i) (hi : i < s.ls.length) : (begS s L).nw i = s.nw i ∧ (begS s L).ls.length = s.ls.length := by
  have hb := begI_lt hl
  obtain ⟨h1, h2⟩ := putD_nw s (i := begI L) (j := i) (begX L) (by omega)
  unfold begS
  split
  · exact ⟨rfl, rfl⟩
  · split
    · exact ⟨h1, h2⟩
    · exact ⟨(nw_ba (by rw [h2]; exact hi)).trans h1, (ba_len _).trans h2⟩
theorem begL_l (s : St) (L : Lg) : (begL s L).l = L.l := by
  rcases begL_cases s L with h | h <;> rw [h]
/-- The log's writes leave the pages' sectors. -/
theorem nw_fl {s : St} {L : Lg} (hl : L.l = 16) (u : Nat) {i : Nat} (h19 : 19 ≤ i) (hi : i < s.ls.length) : (flS s L u).nw i = s.nw i := by
  obtain ⟨h1, h2⟩ := nw_beg (s := s) hl h19 hi
  unfold flS
  split
  · rfl
  · split
    · rfl
    · split
      · exact h1
      · exact (nw_wrAll (by rw [begL_l]; exact hl) h19 _ _ _ (by rw [h2]; exact hi)).trans h1
theorem wrAll_len {L : Lg} : ∀ (n j : Nat) (s : St), (wrAll L n j s).1.ls.length = s.ls.length
  | 0, _, s => ba_len s
  | n + 1, j, s => by
    unfold wrAll
    split
    · rfl
    · exact wrAll_len n (j + 1) (s.wrote (wrI L j) (wrX L j))
theorem nw_fl_len {s : St} {L : Lg} (u : Nat) : (flS s L u).ls.length = s.ls.length := by
  have hb : (begS s L).ls.length = s.ls.length := by
    have hp : ∀ x, (putD s (begI L) x).ls.length = s.ls.length := fun x => by unfold putD; split <;> rfl
    unfold begS
    split
    · rfl
    · split
      · exact hp _
      · exact (ba_len _).trans (hp _)
  unfold flS
  split
  · rfl
  · split
    · rfl
    · split
      · exact hb
      · exact (wrAll_len _ _ _).trans hb
theorem fl_alive2 {s : St} {L : Lg} (h : s.Alive) (ok : L.Ok) {u : Nat} (hu : u ≤ L.fin) : (flS s L u).Alive ∧ flE s L u = 0 := by
  obtain ⟨h1, h2, _⟩ := fl_alive h ok
  have hn : ¬ L.fin < u := by omega
  by_cases hl : u ≤ L.lasts
  · unfold flS flE
    rw [if_neg hn, if_neg hn, if_pos hl, if_pos hl]
    exact ⟨h, rfl⟩
  · have hl2 : ¬ L.fin ≤ L.lasts := by omega
    have e1 : flS s L u = flS s L L.fin := by
      unfold flS
      rw [if_neg hn, if_neg hl, if_neg (Nat.lt_irrefl _), if_neg hl2]
    have e2 : flE s L u = flE s L L.fin := by
      unfold flE
      rw [if_neg hn, if_neg hl, if_neg (Nat.lt_irrefl _), if_neg hl2]
    rw [e1, e2]
    exact ⟨h1, h2⟩
/-- What a page has: in memory, or on the disk. -/
def dC (s : St) (i : Nat) : List Int × Nat := ((frS (secN (s.nw i))).pay, (frS (secN (s.nw i))).lsn)
def Pl.ct (P : Pl) (s : St) (i : Nat) : List Int × Nat := match P.fr i with
  | some f => (f.pay, f.lsn)
  | none => dC s i
theorem frS_sec {f : PFr} (h : f.In) : (frS (secN (Sx f.sec))).pay = f.pay ∧ (frS (secN (Sx f.sec))).lsn = f.lsn := by
  rw [secN_Sx h.sec]
  unfold frS PFr.sec
  have he : (Wd.enc 8 f.lsn).length = 8 := Wd.enc_length _ _
  refine ⟨?_, ?_⟩
  · show (Wd.enc 8 f.lsn ++ f.pay).drop 8 = f.pay
    rw [List.drop_left' he]
  · show Wd.dec ((Wd.enc 8 f.lsn ++ f.pay).take 8) = f.lsn
    rw [List.take_left' he, Wd.dec_enc]
    exact Nat.mod_eq_of_lt (Nat.lt_of_le_of_lt h.l (by decide))
theorem dC_wrote (s : St) (i j : Nat) {f : PFr} (h : f.In) : dC (s.wrote i (Sx f.sec)) j = if j = i then (f.pay, f.lsn) else dC s j := by
  unfold dC
  rw [nw_wrote2]
  by_cases e : j = i
  · rw [if_pos e, if_pos e, (frS_sec h).1, (frS_sec h).2]
  · rw [if_neg e, if_neg e]
theorem Lg.Like.refl (L : Lg) : L.Like L := ⟨rfl, rfl, rfl, rfl, rfl, rfl, rfl⟩
theorem Lg.Like.trans {L1 L2 L3 : Lg} (h : L1.Like L2) (k : L2.Like L3) : L1.Like L3 := ⟨k.n.trans h.n, k.l.trans h.l, k.g.trans h.g, k.epoch.trans h.epoch, k.tail.trans h.tail, k.rsv.trans h.rsv, k.fin.trans h.fin⟩
/-- There is power, the log is right, the disk has 64 sectors. -/
structure AD (s : St) (L : Lg) : Prop where
  alive : s.Alive
  ok : L.Ok
  l16 : L.l = 16
  len : s.ls.length = 64
  tl : L.tail = 0
theorem AD.fl {s : St} {L : Lg} (h : AD s L) {u : Nat} (hu : u ≤ L.fin) : flE s L u = 0 ∧ AD (flS s L u) (flL s L u) ∧ L.Like (flL s L u) ∧ ∀ j, 19 ≤ j → j < 64 → dC (flS s L u) j = dC s j := by
  obtain ⟨h1, h2⟩ := fl_alive2 h.alive h.ok hu
  obtain ⟨h3, h4⟩ := flL_facts (s := s) h.ok u
  refine ⟨h2, ⟨h1, h3, h4.l.trans h.l16, ?_, h4.tail.trans h.tl⟩, h4, fun j h19 h64 => ?_⟩
  · have hl := (nw_fl_len (s := s) (L := L) u).trans h.len
    exact hl
  · unfold dC
    rw [nw_fl h.l16 u h19 (by rw [h.len]; exact h64)]
theorem AD.put {s : St} {L : Lg} (h : AD s L) (i : Nat) (x : Sec) : AD (s.wrote i x) L := ⟨h.alive.wrote i x, h.ok, h.l16, h.len, h.tl⟩
/-- Dirty pages are written, one after another. -/
theorem wrGo_al (P : Pl) : ∀ (xs : List Nat) (s : St) (L : Lg), AD s L → (∀ i, i ∈ xs → ∃ f, P.fr i = some f ∧ f.In ∧ f.lsn ≤ L.fin) →
    (P.wrGo xs s L).1 = 0 ∧ AD (P.wrGo xs s L).2.1 (P.wrGo xs s L).2.2 ∧ L.Like (P.wrGo xs s L).2.2 ∧ ∀ j, 19 ≤ j → j < 64 → dC (P.wrGo xs s L).2.1 j = if j ∈ xs then P.ct s j else dC s j
  | [], s, L, h, _ => ⟨rfl, h, Lg.Like.refl L, fun j _ _ => by simp [Pl.wrGo]⟩
  | i :: xs, s, L, h, hx => by
    obtain ⟨f, hf, hin, hl⟩ := hx i (by simp)
    obtain ⟨h1, h2, h3, h4⟩ := h.fl hl
    obtain ⟨k1, k2, k3, k4⟩ := wrGo_al P xs ((flS s L f.lsn).wrote i (Sx f.sec)) (flL s L f.lsn) (h2.put _ _) fun j hj => by
      obtain ⟨g, n1, n2, n3⟩ := hx j (List.mem_cons_of_mem _ hj)
      exact ⟨g, n1, n2, by rw [h3.fin]; exact n3⟩
    rw [P.wrGo_cons hf, if_neg (by rw [h1]; simp), if_neg h2.alive.no]
    refine ⟨k1, k2, h3.trans k3, fun j h19 h64 => ?_⟩
    rw [k4 j h19 h64, dC_wrote _ _ _ hin, h4 j h19 h64]
    by_cases hj : j ∈ xs
    · rw [if_pos hj, if_pos (List.mem_cons_of_mem _ hj)]
      obtain ⟨g, n1, _⟩ := hx j (List.mem_cons_of_mem _ hj)
      unfold Pl.ct
      rw [n1]
    · rw [if_neg hj]
      by_cases e : j = i
      · subst e
        rw [if_pos rfl, if_pos (by simp)]
        unfold Pl.ct
        rw [hf]
      · rw [if_neg e, if_neg (by simp [e, hj])]
end Go.Proofs.YtaemmknijmhnoaaGreat

/-
  With power: what each page has, whatever goes and comes.
-/
namespace Go.Proofs.YtaemmknijmhnoaaGreat
open Go.RowKit Go.Maps

/-- Nothing that is asked of this pool is refused. -/
structure AL (P : Pl) (s : St) (L : Lg) : Prop where
  ad : AD s L
  rng : ∀ i, P.fr i ≠ none → 19 ≤ i ∧ i < 64
  inn : ∀ i f, P.fr i = some f → f.In
  lsn : ∀ i f, P.fr i = some f → f.dirty = true → f.lsn ≤ L.fin
  cln : ∀ i f, P.fr i = some f → f.dirty = false → (f.pay, f.lsn) = dC s i
section
variable {P : Pl} {s : St} {L : Lg}
theorem ct_some {i : Nat} {f : PFr} (h : P.fr i = some f) : P.ct s i = (f.pay, f.lsn) := by unfold Pl.ct; rw [h]
theorem ct_none {i : Nat} (h : P.fr i = none) : P.ct s i = dC s i := by unfold Pl.ct; rw [h]
theorem AL.wr (h : AL P s L) (xs : List Nat) : (P.wr xs s L).1 = 0 ∧ AD (P.wr xs s L).2.1 (P.wr xs s L).2.2 ∧ L.Like (P.wr xs s L).2.2 ∧ ∀ j, 19 ≤ j → j < 64 → dC (P.wr xs s L).2.1 j = if j ∈ xs ∧ P.fr j ≠ none then P.ct s j else dC s j := by
  have hx : ∀ i, i ∈ xs.filter (fun i => !P.clean i) → ∃ f, P.fr i = some f ∧ f.dirty = true := fun i hi => by
    have hc := (List.mem_filter.1 hi).2
    unfold Pl.clean at hc
    cases e : P.fr i with
    | none => rw [e] at hc; simp at hc
    | some f => rw [e] at hc; exact ⟨f, rfl, by simpa using hc⟩
  have hu : (xs.filter fun i => !P.clean i).any (P.unk L.fin) = false := by
    rw [List.any_eq_false]
    intro i hi hc
    obtain ⟨f, hf, hd⟩ := hx i hi
    have := h.lsn i f hf hd
    unfold Pl.unk at hc
    rw [hf] at hc
    simp at hc
    omega
  obtain ⟨k1, k2, k3, k4⟩ := wrGo_al P (xs.filter fun i => !P.clean i) s L h.ad fun i hi => by
    obtain ⟨f, hf, hd⟩ := hx i hi
    exact ⟨f, hf, h.inn i f hf, h.lsn i f hf hd⟩
  unfold Pl.wr
  rw [hu]
  refine ⟨k1, k2, k3, fun j h19 h64 => (k4 j h19 h64).trans ?_⟩
  by_cases hj : j ∈ xs.filter fun i => !P.clean i
  · obtain ⟨f, hf, _⟩ := hx j hj
    rw [if_pos hj, if_pos ⟨(List.mem_filter.1 hj).1, by rw [hf]; exact Option.some_ne_none _⟩]
  · rw [if_neg hj]
    by_cases hj2 : j ∈ xs ∧ P.fr j ≠ none
    · rw [if_pos hj2]
      cases e : P.fr j with
      | none => exact absurd e hj2.2
      | some f =>
        have hd : f.dirty = false := by
          cases hd : f.dirty with
          | false => rfl
          | true => exact absurd (List.mem_filter.2 ⟨hj2.1, by unfold Pl.clean; rw [e]; simp [hd]⟩) hj
        rw [ct_some e, h.cln j f e hd]
    · rw [if_neg hj2]
theorem AL.mr (h : AL P s L) : (P.mr s L).1 = 0 ∧ AL (P.mr s L).2.1 (P.mr s L).2.2.1 (P.mr s L).2.2.2 ∧ L.Like (P.mr s L).2.2.2 ∧ ∀ j, 19 ≤ j → j < 64 → (P.mr s L).2.1.ct (P.mr s L).2.2.1 j = P.ct s j := by
  unfold Pl.mr
  split
  · exact ⟨rfl, h, Lg.Like.refl L, fun _ _ _ => rfl⟩
  · obtain ⟨g, hg⟩ : ∃ g, g = goingL P.usd P.round P.many := ⟨_, rfl⟩
    obtain ⟨sp, hsp⟩ : ∃ sp, sp = sparedL P.usd P.round P.many := ⟨_, rfl⟩
    have hgm : ∀ i, i ∈ g → P.fr i ≠ none := fun i hi => (P.round_mem (goingL_mem (hg ▸ hi))).2
    rw [← hg, ← hsp]
    obtain ⟨k1, k2, k3, k4⟩ := h.wr g
    rw [if_neg (by rw [k1]; simp)]
    have hfr : ∀ i f, ((P.off sp).leave g).fr i = some f → i ∉ g ∧ ∃ f0, P.fr i = some f0 ∧ f.pay = f0.pay ∧ f.lsn = f0.lsn ∧ f.dirty = f0.dirty ∧ f.first = f0.first := fun i f hf => by
      rw [Pl.leave_fr, Pl.off_fr] at hf
      split at hf
      · cases hf
      · rename_i hn
        refine ⟨hn, ?_⟩
        split at hf
        · cases e : P.fr i with
          | none => rw [e] at hf; cases hf
          | some f0 => rw [e] at hf; cases hf; exact ⟨f0, rfl, rfl, rfl, rfl, rfl⟩
        · exact ⟨f, hf, rfl, rfl, rfl, rfl⟩
    refine ⟨rfl, ⟨k2, fun i hi => ?_, fun i f hf => ?_, fun i f hf hd => ?_, fun i f hf hd => ?_⟩, k3, fun j h19 h64 => ?_⟩
    · cases e : ((P.off sp).leave g).fr i with
      | none => exact absurd e hi
      | some f =>
        obtain ⟨_, f0, h0, _⟩ := hfr i f e
        exact h.rng i (by rw [h0]; exact Option.some_ne_none _)
    · obtain ⟨_, f0, h0, e1, e2, e3, e4⟩ := hfr i f hf
      have hin := h.inn i f0 h0
      exact ⟨by rw [e1]; exact hin.pay, by rw [e2]; exact hin.l, by rw [e4]; exact hin.f⟩
    · obtain ⟨_, f0, h0, e1, e2, e3, e4⟩ := hfr i f hf
      have h1 := h.lsn i f0 h0 (by rw [← e3]; exact hd)
      show f.lsn ≤ (P.wr g s L).2.2.fin
      rw [k3.fin, e2]
      exact h1
    · obtain ⟨hn, f0, h0, e1, e2, e3, e4⟩ := hfr i f hf
      obtain ⟨h19, h64⟩ := h.rng i (by rw [h0]; exact Option.some_ne_none _)
      have h1 := k4 i h19 h64
      rw [if_neg (fun e => hn e.1)] at h1
      rw [e1, e2]
      exact (h.cln i f0 h0 (by rw [← e3]; exact hd)).trans h1.symm
    · have h1 := k4 j h19 h64
      cases e : ((P.off sp).leave g).fr j with
      | some f =>
        obtain ⟨_, f0, h0, e1, e2, _⟩ := hfr j f e
        rw [ct_some e, ct_some h0, e1, e2]
      | none =>
        refine (ct_none e).trans (h1.trans ?_)
        by_cases hj : j ∈ g ∧ P.fr j ≠ none
        · rw [if_pos hj]
        · rw [if_neg hj]
          have hno : P.fr j = none := by
            cases e2 : P.fr j with
            | none => rfl
            | some f0 =>
              have hjg : j ∉ g := fun h5 => hj ⟨h5, by rw [e2]; exact Option.some_ne_none _⟩
              rw [Pl.leave_fr, if_neg hjg] at e
              rw [(P.off_none sp j).1 e] at e2
              cases e2
          rw [ct_none hno]
theorem AL.us (h : AL P s L) {i : Nat} (hi : 19 ≤ i) (hi2 : i < 64) : (P.us i s L).1 = 0 ∧ AL (P.us i s L).2.1 (P.us i s L).2.2.1 (P.us i s L).2.2.2 ∧ L.Like (P.us i s L).2.2.2 ∧ (∀ j, 19 ≤ j → j < 64 → (P.us i s L).2.1.ct (P.us i s L).2.2.1 j = P.ct s j) ∧ ∃ f, (P.us i s L).2.1.fr i = some f := by
  have key : ∀ (Q : Pl) (s : St) (L : Lg) (f : PFr), AL Q s L → f.In → (f.dirty = true → f.lsn ≤ L.fin) → (f.dirty = false → (f.pay, f.lsn) = dC s i) → (f.pay, f.lsn) = Q.ct s i → AL (Q.use i f) s L ∧ ∀ j, (Q.use i f).ct s j = Q.ct s j := fun Q s L f hq hin hl hc hct => by
    refine ⟨⟨hq.ad, fun j hj => ?_, fun j g hj => ?_, fun j g hj hd => ?_, fun j g hj hd => ?_⟩, fun j => ?_⟩
    · rw [Pl.use_fr] at hj
      by_cases e : j = i
      · omega
      · rw [if_neg e] at hj; exact hq.rng j hj
    · rw [Pl.use_fr] at hj
      split at hj
      · cases hj; exact ⟨hin.pay, hin.l, hin.f⟩
      · exact hq.inn j g hj
    · rw [Pl.use_fr] at hj
      split at hj
      · cases hj; exact hl hd
      · exact hq.lsn j g hj hd
    · rw [Pl.use_fr] at hj
      split at hj
      · rename_i e
        cases hj; rw [e]; exact hc hd
      · exact hq.cln j g hj hd
    · by_cases e : j = i
      · have h1 : (Q.use i f).fr j = some { f with used := true } := by rw [Pl.use_fr, if_pos e]
        rw [ct_some h1, e]
        exact hct
      · have h1 : (Q.use i f).fr j = Q.fr j := by rw [Pl.use_fr, if_neg e]
        unfold Pl.ct
        rw [h1]
  cases hf : P.fr i with
  | some f =>
    have hus : P.us i s L = (0, P.use i f, s, L) := by unfold Pl.us; rw [hf]
    rw [hus]
    obtain ⟨k1, k2⟩ := key P s L f h (h.inn i f hf) (h.lsn i f hf) (h.cln i f hf) (ct_some hf).symm
    exact ⟨rfl, k1, Lg.Like.refl L, fun j _ _ => k2 j, _, by show (P.use i f).fr i = _; rw [Pl.use_fr, if_pos rfl]⟩
  | none =>
    obtain ⟨k1, k2, k3, k4⟩ := h.mr
    have hno := P.mr_fr s L hf
    have hus : P.us i s L = (0, (P.mr s L).2.1.use i (frS (secN ((P.mr s L).2.2.1.nw i))), (P.mr s L).2.2) := by unfold Pl.us; rw [hf]; exact if_neg (by rw [k1]; simp)
    rw [hus]
    obtain ⟨m1, m2⟩ := key _ _ _ (frS (secN ((P.mr s L).2.2.1.nw i))) k2 (frS_in (secN_sec _)) (fun e => by cases e) (fun _ => rfl) (ct_none hno).symm
    exact ⟨rfl, m1, k3, fun j h19 h64 => (m2 j).trans (k4 j h19 h64), _, by show ((P.mr s L).2.1.use i _).fr i = _; rw [Pl.use_fr, if_pos rfl]⟩
/-- What asking for a page answers, by what the pages have. -/
def gA (c : Nat → List Int × Nat) (i : Int) : PSec × Nat × Int := if askE 64 i ≠ 0 then (PSec.zero, 0, askE 64 i) else (PSx (c i.toNat).1, (c i.toNat).2, 0)
theorem AL.gt (h : AL P s L) {i : Int} (hi : ¬ (0 ≤ i ∧ i < 19)) : (P.gt 64 i s L).1 = gA (P.ct s) i ∧ AL (P.gt 64 i s L).2.1 (P.gt 64 i s L).2.2.1 (P.gt 64 i s L).2.2.2 ∧ L.Like (P.gt 64 i s L).2.2.2 ∧ ∀ j, 19 ≤ j → j < 64 → (P.gt 64 i s L).2.1.ct (P.gt 64 i s L).2.2.1 j = P.ct s j := by
  unfold Pl.gt gA
  by_cases ha : askE 64 i = 0
  · obtain ⟨h0, h1⟩ := askE_no ha
    obtain ⟨k1, k2, k3, k4, f, hf⟩ := h.us (i := i.toNat) (by omega) (by omega)
    rw [if_neg (by rw [ha]; simp), if_neg (by rw [k1]; simp), if_neg (by rw [ha]; simp)]
    refine ⟨?_, k2, k3, k4⟩
    have hc := k4 i.toNat (by omega) (by omega)
    rw [ct_some hf] at hc
    rw [hf, ← hc]
  · rw [if_pos ha, if_pos ha]
    exact ⟨rfl, h, Lg.Like.refl L, fun _ _ _ => rfl⟩
/-- What changing a page answers; what the pages have then. -/
def pA (i o : Int) (nb lsn : Nat) : Int := if askE 64 i ≠ 0 then askE 64 i else if o < 0 ∨ 248 - (nb : Int) < o ∨ lsn = 0 then 2 else 0
def pC (c : Nat → List Int × Nat) (i o : Int) (ys : List Int) (lsn : Nat) (j : Nat) : List Int × Nat := if pA i o ys.length lsn = 0 ∧ j = i.toNat then (Play (c j).1 o.toNat ys, lsn) else c j
theorem AL.pt (h : AL P s L) {i o : Int} {ys : List Int} {first lsn : Nat} (hi : ¬ (0 ≤ i ∧ i < 19)) (hy : Wd.Small ys) (hl : lsn ≤ L.fin) (hl2 : lsn ≤ 18446744073709551615) (hf2 : first ≤ 18446744073709551615) :
    (P.pt 64 i o ys first lsn s L).1 = pA i o ys.length lsn ∧ AL (P.pt 64 i o ys first lsn s L).2.1 (P.pt 64 i o ys first lsn s L).2.2.1 (P.pt 64 i o ys first lsn s L).2.2.2 ∧ L.Like (P.pt 64 i o ys first lsn s L).2.2.2 ∧ ∀ j, 19 ≤ j → j < 64 → (P.pt 64 i o ys first lsn s L).2.1.ct (P.pt 64 i o ys first lsn s L).2.2.1 j = pC (P.ct s) i o ys lsn j := by
  unfold pC
  by_cases ha : askE 64 i = 0
  · obtain ⟨h0, h1⟩ := askE_no ha
    have hna : ¬ askE 64 i ≠ 0 := fun e => e ha
    by_cases hb : o < 0 ∨ 248 - (ys.length : Int) < o ∨ lsn = 0
    · have e1 : P.pt 64 i o ys first lsn s L = (2, P, s, L) := by unfold Pl.pt; exact (if_neg hna).trans (if_pos hb)
      have e2 : pA i o ys.length lsn = 2 := by unfold pA; exact (if_neg hna).trans (if_pos hb)
      rw [e1, e2]
      refine ⟨rfl, h, Lg.Like.refl L, fun j _ _ => ?_⟩
      rw [if_neg (by simp)]
    · obtain ⟨k1, k2, k3, k4, f, hf⟩ := h.us (i := i.toNat) (by omega) (by omega)
      have e1 : P.pt 64 i o ys first lsn s L = (0, (P.us i.toNat s L).2.1.put i.toNat { f with pay := Play f.pay o.toNat ys, lsn := lsn, first := if f.dirty then f.first else first, dirty := true }, (P.us i.toNat s L).2.2) := by
        unfold Pl.pt
        refine (if_neg hna).trans ((if_neg hb).trans ((if_neg (fun e => e k1)).trans ?_))
        rw [hf]
      have e2 : pA i o ys.length lsn = 0 := by unfold pA; exact (if_neg hna).trans (if_neg hb)
      rw [e1, e2]
      have hin := k2.inn _ f hf
      have hfit : o.toNat + ys.length ≤ 248 := by have := not_or.1 hb; have := not_or.1 this.2; omega
      refine ⟨rfl, ⟨k2.ad, fun j hj => ?_, fun j g hj => ?_, fun j g hj hd => ?_, fun j g hj hd => ?_⟩, k3, fun j h19 h64 => ?_⟩
      · have h5 : (if j = i.toNat then some _ else (P.us i.toNat s L).2.1.fr j) ≠ none := hj
        by_cases e : j = i.toNat
        · omega
        · rw [if_neg e] at h5; exact k2.rng j h5
      · have h5 : (if j = i.toNat then some _ else (P.us i.toNat s L).2.1.fr j) = some g := hj
        split at h5
        · cases h5
          refine ⟨Play_sec hin.pay hy hfit, hl2, ?_⟩
          show (if f.dirty then f.first else first) ≤ _
          split
          · exact hin.f
          · exact hf2
        · exact k2.inn j g h5
      · have h5 : (if j = i.toNat then some _ else (P.us i.toNat s L).2.1.fr j) = some g := hj
        split at h5
        · cases h5
          show lsn ≤ (P.us i.toNat s L).2.2.2.fin
          rw [k3.fin]; exact hl
        · exact k2.lsn j g h5 hd
      · have h5 : (if j = i.toNat then some _ else (P.us i.toNat s L).2.1.fr j) = some g := hj
        split at h5
        · cases h5; cases hd
        · exact k2.cln j g h5 hd
      · have h4 := k4 j h19 h64
        obtain ⟨F, hF⟩ : ∃ F : PFr, F = { f with pay := Play f.pay o.toNat ys, lsn := lsn, first := if f.dirty then f.first else first, dirty := true } := ⟨_, rfl⟩
        rw [← hF]
        show ((P.us i.toNat s L).2.1.put i.toNat F).ct (P.us i.toNat s L).2.2.1 j = if (0 : Int) = 0 ∧ j = i.toNat then (Play (P.ct s j).1 o.toNat ys, lsn) else P.ct s j
        by_cases e : j = i.toNat
        · have h6 : ((P.us i.toNat s L).2.1.put i.toNat F).fr j = some F := if_pos e
          have h7 : (P.us i.toNat s L).2.1.ct (P.us i.toNat s L).2.2.1 j = (f.pay, f.lsn) := by rw [e]; exact ct_some hf
          have h8 : ((0 : Int) = 0 ∧ j = i.toNat) := ⟨rfl, e⟩
          rw [if_pos h8, ← h4, h7, ct_some h6, hF]
        · have h6 : ((P.us i.toNat s L).2.1.put i.toNat F).fr j = (P.us i.toNat s L).2.1.fr j := if_neg e
          have h8 : ¬ ((0 : Int) = 0 ∧ j = i.toNat) := fun h9 => e h9.2
          rw [if_neg h8, ← h4]
          unfold Pl.ct
          rw [h6]
  · have e1 : P.pt 64 i o ys first lsn s L = (askE 64 i, P, s, L) := by unfold Pl.pt; exact if_pos ha
    have e2 : pA i o ys.length lsn = askE 64 i := by unfold pA; exact if_pos ha
    rw [e1, e2]
    refine ⟨rfl, h, Lg.Like.refl L, fun j _ _ => ?_⟩
    rw [if_neg (fun e => ha e.1)]
end
end Go.Proofs.YtaemmknijmhnoaaGreat

/-
  Two pools with the same pages.
-/
namespace Go.Proofs.YtaemmknijmhnoaaGreat
open Go.RowKit Go.Maps

section
variable {P P1 P2 : Pl} {s s1 s2 : St} {L L1 L2 : Lg}
theorem AD.small (h : AD s L) : L.fin ≤ 100000 := by
  have h1 := h.ok.near
  have h2 := h.tl
  omega
theorem AL.noted (h : AL P s L) (page : Nat) : AL P s (L.noted page) := by
  have hp := layL_parts L (nR page) L.free
  refine ⟨⟨h.ad.alive, append_ok h.ad.ok _ (by have := h.ad.small; omega), hp.1.trans h.ad.l16, h.ad.len, hp.2.2.2.2.trans h.ad.tl⟩, h.rng, h.inn, fun i f hf hd => ?_, h.cln⟩
  have h1 := h.lsn i f hf hd
  have h2 := layL_fin L (nR page) L.free
  show f.lsn ≤ (layL L (nR page) L.free).fin
  rw [h2]
  split <;> omega
theorem AL.begin (n : Int) (x : Bool) : AL (P0 n x) zeroD L0 :=
  ⟨⟨zeroD_alive, newL_ok.1, rfl, by simp [zeroD, fresh], rfl⟩, fun i hi => absurd rfl hi, fun i f hf => by (cases hf), fun i f hf => by (cases hf), fun i f hf => by (cases hf)⟩
end
end Go.Proofs.YtaemmknijmhnoaaGreat

/-
  With power: all is written; of a pool that is held nothing is.
-/
namespace Go.Proofs.YtaemmknijmhnoaaGreat
open Go.RowKit Go.Maps

section
variable {P : Pl} {s : St} {L : Lg}
theorem Pl.wrote_fr (P : Pl) (xs : List Nat) (j : Nat) : (P.wrote xs).fr j = if j ∈ xs then (P.fr j).map fun f => { f with dirty := false } else P.fr j := rfl
theorem AL.dirty_mem (h : AL P s L) {j : Nat} {f : PFr} (hf : P.fr j = some f) : j ∈ P.dirty ↔ f.dirty = true := by
  have hr := h.rng j (by rw [hf]; exact Option.some_ne_none _)
  unfold Pl.dirty
  rw [List.mem_filter, P.mem_pages]
  unfold Pl.clean
  rw [hf]
  constructor
  · rintro ⟨_, h2⟩
    simpa using h2
  · intro h2
    exact ⟨⟨by omega, by simp⟩, by simp [h2]⟩
theorem AL.wa (h : AL P s L) : (P.wa s L).1 = 0 ∧ AL (P.wa s L).2.1 (P.wa s L).2.2.1 (P.wa s L).2.2.2 ∧ L.Like (P.wa s L).2.2.2 ∧ (P.wa s L).2.1.dirty = [] ∧ (∀ j, 19 ≤ j → j < 64 → dC (P.wa s L).2.2.1 j = P.ct s j) ∧ ∀ i, (P.wa s L).2.2.1.t i = [] := by
  obtain ⟨k1, k2, k3, k4⟩ := h.wr P.dirty
  have hb := k2.alive.ba
  have e : P.wa s L = (0, P.wrote P.dirty, BaS (P.wr P.dirty s L).2.1, (P.wr P.dirty s L).2.2) := by
    unfold Pl.wa
    exact (if_neg (fun e => e k1)).trans (if_neg (fun e => e hb.2))
  have hC : ∀ j, 19 ≤ j → j < 64 → dC (BaS (P.wr P.dirty s L).2.1) j = P.ct s j := fun j h19 h64 => by
    have e1 : dC (BaS (P.wr P.dirty s L).2.1) j = dC (P.wr P.dirty s L).2.1 j := by
      unfold dC
      rw [nw_ba (by rw [k2.len]; exact h64)]
    rw [e1, k4 j h19 h64]
    by_cases hj : j ∈ P.dirty ∧ P.fr j ≠ none
    · rw [if_pos hj]
    · rw [if_neg hj]
      cases hf : P.fr j with
      | none => rw [ct_none hf]
      | some f =>
        have hd : f.dirty = false := by
          cases hd : f.dirty with
          | false => rfl
          | true => exact absurd ⟨(h.dirty_mem hf).2 hd, by rw [hf]; exact Option.some_ne_none _⟩ hj
        rw [ct_some hf, h.cln j f hf hd]
  have hfr : ∀ i f, (P.wrote P.dirty).fr i = some f → f.dirty = false ∧ ∃ f0, P.fr i = some f0 ∧ f.pay = f0.pay ∧ f.lsn = f0.lsn ∧ f.first = f0.first := fun i f hf => by
    rw [Pl.wrote_fr] at hf
    split at hf
    · cases e0 : P.fr i with
      | none => rw [e0] at hf; cases hf
      | some f0 => rw [e0] at hf; cases hf; exact ⟨rfl, f0, rfl, rfl, rfl, rfl⟩
    · rename_i hn
      refine ⟨?_, f, hf, rfl, rfl, rfl⟩
      cases hd : f.dirty with
      | false => rfl
      | true => exact absurd ((h.dirty_mem hf).2 hd) hn
  have hal : AL (P.wrote P.dirty) (BaS (P.wr P.dirty s L).2.1) (P.wr P.dirty s L).2.2 := by
    refine ⟨⟨hb.1, k2.ok, k2.l16, (ba_len _).trans k2.len, k2.tl⟩, fun i hi => h.rng i fun e2 => hi ((P.wrote_none _ i).2 e2), fun i f hf => ?_, fun i f hf hd => ?_, fun i f hf hd => ?_⟩
    · obtain ⟨_, f0, h0, e1, e2, e3⟩ := hfr i f hf
      have hin := h.inn i f0 h0
      exact ⟨by rw [e1]; exact hin.pay, by rw [e2]; exact hin.l, by rw [e3]; exact hin.f⟩
    · rw [(hfr i f hf).1] at hd; cases hd
    · obtain ⟨_, f0, h0, e1, e2, _⟩ := hfr i f hf
      obtain ⟨h19, h64⟩ := h.rng i (by rw [h0]; exact Option.some_ne_none _)
      rw [hC i h19 h64, ct_some h0, e1, e2]
  have hdi : (P.wrote P.dirty).dirty = [] := by
    rw [Pl.dirty, List.filter_eq_nil_iff]
    intro i _ hc
    unfold Pl.clean at hc
    cases e0 : (P.wrote P.dirty).fr i with
    | none => rw [e0] at hc; simp at hc
    | some f => rw [e0] at hc; simp [(hfr i f e0).1] at hc
  have ht : ∀ i, (BaS (P.wr P.dirty s L).2.1).t i = [] := fun i => by
    unfold BaS
    rw [k2.alive.1]
    rfl
  generalize P.wrote P.dirty = PW at *
  generalize BaS (P.wr P.dirty s L).2.1 = SW at *
  generalize (P.wr P.dirty s L).2.2 = LW at *
  rw [e]
  exact ⟨rfl, hal, k3, hdi, hC, ht⟩
/-- A pool that is held writes nothing when a page comes. -/
theorem held_mr (h : P.held = true) : P.mr s L = (0, P, s, L) := by
  unfold Pl.mr
  rw [if_pos (.inl h)]
theorem held_us (h : P.held = true) (i : Nat) : (P.us i s L).2.1.held = true ∧ (P.us i s L).2.2 = (s, L) := by
  unfold Pl.us
  cases P.fr i with
  | some f => exact ⟨h, rfl⟩
  | none => rw [held_mr h]; exact ⟨h, rfl⟩
theorem held_gt (h : P.held = true) (N : Nat) (i : Int) : (P.gt N i s L).2.1.held = true ∧ (P.gt N i s L).2.2 = (s, L) := by
  unfold Pl.gt
  split
  · exact ⟨h, rfl⟩
  · split
    · exact held_us h _
    · exact held_us h _
theorem held_pt (h : P.held = true) (N : Nat) (i o : Int) (ys : List Int) (first lsn : Nat) : (P.pt N i o ys first lsn s L).2.1.held = true ∧ (P.pt N i o ys first lsn s L).2.2 = (s, L) := by
  have hu := held_us (s := s) (L := L) h i.toNat
  unfold Pl.pt
  split
  · exact ⟨h, rfl⟩
  · split
    · exact ⟨h, rfl⟩
    · split
      · exact hu
      · refine ⟨?_, hu.2⟩
        cases (P.us i.toNat s L).2.1.fr i.toNat with
        | none => exact hu.1
        | some f => exact hu.1
end
end Go.Proofs.YtaemmknijmhnoaaGreat

