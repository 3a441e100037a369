
/-
  The law DiskApart, walked.
-/
import Derived.Test.YtkoalabacfjgbaaDiskPlaysWalk
import Derived.Test.YtkoalabacfjgbaaDiskNewestWalk
import Derived.Test.YtkoalabacfjgbaaApartRange
import Derived.Test.YtkoalabacfjgbaaFlowG
import Derived.Deep.DeepCutAuto
import Derived.Deep.CutBlock
namespace Go.Proofs.Ytkoalabacfjgbaa
open Go.RowKit Go.Maps Go.Shelf

def Sd28 (RB rb i : Nat) (u : Value) (S : Sec) (ts : List Sec) (slot : Nat) (v : Value) (w : World) : Prop :=
  match slot with
  | 120 => v = u
  | 121 => v = .pointer (some ⟨rb, 0, none⟩)
  | 122 => v = .int .i64 (i : Int)
  | 123 => v = .agg (sec S)
  | 124 => (∃ q, v = .slice (some ⟨q, 0, none⟩) 1 1 ∧ Row w v [S])
  | 125 => (Row w v (ts ++ [S]) ∧ ∀ g, v.ownBlock = some g → RB < g)
  | _ => True
theorem sd28_kept {RB rb i : Nat} {u : Value} {S : Sec} {ts : List Sec} (sl : Nat) (v : Value) (w w' : World) (h : Sd28 RB rb i u S ts sl v w) (g : Gr w w') : Sd28 RB rb i u S ts sl v w' := by
  unfold Sd28 at h ⊢
  split <;> simp only at h
  all_goals first
    | exact h
    | exact ⟨h.1.gr g, h.2⟩
    | exact ⟨h.choose, h.choose_spec.1, h.choose_spec.2.gr g⟩
def Fin28 (X4 : World) (RB : Nat) (S : Sec) (ts : List Sec) (w : World) : Prop := ∃ v, Blk w RB TL #[v] ∧ Row w v (ts ++ [S]) ∧ (∀ g, v.ownBlock = some g → RB < g) ∧ Gr X4 w
def Gd28 (i : Nat) (w w' : World) : Prop := cond (i == 5 || i == 6) True (Gr w w')
def Sd47 (gu : Nat) (cu : Nat) (i : Nat) (t : Nat) (S : Sec) (T : Sec) (slot : Nat) (v : Value) (_ : World) : Prop :=
  match slot with
  | 196 => v = .int .i64 0
  | 197 | 198 => v = .bool false
  | 199 => v = .agg (sec S)
  | 200 => v = .slice (some ⟨gu, 0, none⟩) i cu
  | 201 => v = .int .i64 (t : Int)
  | 202 => v = .pointer (some ⟨gu, t * 256, none⟩)
  | 203 => v = .agg (sec T)
  | 204 | 205 => v = .bool (!decide (S = T))
  | _ => True

def Sd49a  (slot : Nat) (v : Value) (_ : World) : Prop :=
  match slot with
  | 206 | 207 | 215 | 216 | 225 | 22 => v = .bool false
  | _ => True

def Sd49b (t : Nat) (wp : Value) (np : Value) (P : Sec) (Q : Sec) (slot : Nat) (v : Value) (_ : World) : Prop :=
  match slot with
  | 206 | 207 => v = .bool true
  | 208 => v = wp
  | 209 | 212 => v = .int .i64 (t : Int)
  | 210 => v = .agg (sec P)
  | 211 => v = np
  | 213 => v = .agg (sec Q)
  | 214 | 215 | 216 | 225 | 22 => v = .bool false
  | _ => True

def Sd49c (gu : Nat) (cu : Nat) (i : Nat) (t : Nat) (wp : Value) (np : Value) (rv : Value) (P : Sec) (Q : Sec) (S : Sec) (U : Sec) (slot : Nat) (v : Value) (_ : World) : Prop :=
  match slot with
  | 206 | 207 | 214 | 215 | 216 => v = .bool true
  | 208 => v = wp
  | 209 | 212 | 218 | 222 => v = .int .i64 (t : Int)
  | 210 => v = .agg (sec P)
  | 211 => v = np
  | 213 => v = .agg (sec Q)
  | 217 => v = .slice (some ⟨gu, 0, none⟩) i cu
  | 219 => v = .pointer (some ⟨gu, t * 256, none⟩)
  | 220 => v = .agg (sec S)
  | 221 => v = rv
  | 223 => v = .agg (sec U)
  | 224 | 225 | 22 => v = .bool (decide (S = U))
  | _ => True


set_option maxRecDepth 100000 in
set_option maxHeartbeats 8000000 in
theorem diskApart_main (q : Option Addr) (m c : Nat) (xs : List Int) (q1 : Option Addr) (m1 c1 : Nat) (f1 : Nat → Do) (q2 : Option Addr) (m2 c2 : Nat) (f2 : Nat → Do) (w : World) (hb : Bys w q m c xs) (h1 : Acts w q1 m1 f1) (h2 : Acts w q2 m2 f2) (hm1 : 1 ≤ m) (hm2 : m ≤ 40) (hl1 : m1 ≤ 40) (hl2 : m2 ≤ 40) :
    Calls Try.prog 3 #[.slice q m c, .slice q1 m1 c1, .slice q2 m2 c2] w fun e w' => RetTrue w e w' := by
  have HB := Lib.hid hb
  have HA1 := Lib.hid h1
  have HA2 := Lib.hid h2
  have HM : Hid (1 ≤ m ∧ m ≤ 40) := Lib.hid ⟨hm1, hm2⟩
  clear hb h1 h2
  refine (callsIn_wide (n := 12)).1 ?_
  refine callsIn_of_wp_marks Try.func3 rfl trivial ?_ rfl
  simp only [Try.ntmps3, List.size_toArray, List.length_cons, List.length_nil, Nat.reduceAdd, Nat.reduceSub, Array.replicate_succ, Array.replicate_zero, List.push_toArray, List.append_toArray, List.nil_append, List.cons_append]
  refine wpIn_wide.2 ?_
  obtain ⟨W0, hW0⟩ : ∃ W0, W0 = w.alloc (.cells #[.bool false] 4) := ⟨_, rfl⟩
  have HW0 := Lib.hid hW0
  have H0 : Hid (Blk W0 w.heap.size TBo #[.bool false] ∧ Gr w W0 ∧ w.heap.size < W0.heap.size) := Lib.hid (by rw [hW0]; exact ⟨Blk.new _ _ _, Gr.new _ _, by simp⟩)
  clear hW0
  go_wp2_with fail
  rw [← HW0.out]
  clear HW0
  go_loopw [7, 8] (fun v i wr => ∃ (j : Nat) (ss : List Sec), j ≤ m ∧ i = .int .i64 j ∧ Hid (Row wr v ss ∧ ss.length = j) ∧ Hid (Gr W0 wr ∧ ∀ g, v.ownBlock = some g → W0.heap.size ≤ g)) (fun _ i _ => m - (intOf i).toNat)
  case atStart => exact ⟨0, [], Nat.zero_le _, rfl, Lib.hid ⟨Row.empty _, rfl⟩, Lib.hid ⟨Gr.refl _, fun g h => by cases h⟩⟩
  case round =>
    obtain ⟨j, ss, hj, rfl, hr, hg⟩ := hrel
    by_cases hlt : j < m
    ·
      obtain ⟨b, o, rfl, hcell⟩ := HB.out.lies (by omega)
      have hxr : 0 ≤ xs.getD j 0 ∧ xs.getD j 0 < 256 := HB.out.ok _ (by
        rw [List.getD, List.getElem?_eq_getElem (by rw [HB.out.len]; exact hlt)]
        exact List.getElem_mem _)
      obtain ⟨x, hx⟩ : ∃ x : UInt8, xs.getD j 0 = B8 x := ⟨UInt8.ofNat (xs.getD j 0).toNat, (B8_of _ hxr.1 hxr.2).symm⟩
      have hw0 := hcell j hlt
      rw [hx] at hw0
      have HC : Hid (∀ W, Gr wr W → W.cell? ⟨b, o + j, none⟩ = some (.int .u8 (B8 x))) := Lib.hid fun W gr => (Below.cell (Gr.trans (Gr.trans H0.out.2.1 hg.out.1) gr) (World.block_lt_of_cell? w _ hw0)).trans hw0
      clear hcell hxr hx hw0
      have c1 := HC.out wr (Gr.refl _)
      go_wp2_with fail
      refine (sector_any x _).mono ?_
      rintro e V ⟨rfl, gV⟩
      obtain ⟨S, hS⟩ : ∃ S, S = Sec.of x := ⟨_, rfl⟩
      rw [← hS]
      have HZ := Lib.hid (Blk.new V TS (sec Sec.zero))
      have hz := zero_sec
      obtain ⟨V2, hV2⟩ : ∃ V2, V2 = (V.alloc (.cells (sec Sec.zero) TS)).setRow V.heap.size (sec S) := ⟨_, rfl⟩
      have gV2 : Gr wr V2 := by rw [hV2]; exact below_setRow (Gr.trans gV (Gr.new _ _)) gV.size _
      have HV2 := Lib.hid hV2
      have HB2 : Hid (Blk V2 V.heap.size TS (sec S)) := Lib.hid (by rw [hV2]; exact HZ.out.row _)
      have HR2 := Lib.hid (hr.out.1.gr gV2)
      have HL2 := Lib.hid hr.out.2
      have HG2 : Hid (Gr W0 V2 ∧ ∀ g, u7.ownBlock = some g → W0.heap.size ≤ g) := Lib.hid ⟨Gr.trans hg.out.1 gV2, hg.out.2⟩
      have HW2 : Hid (W0.heap.size ≤ V.heap.size) := Lib.hid (Nat.le_trans hg.out.1.size gV.size)
      have c2 := HC.out V2 gV2
      have HO2 : Hid (∀ g, u7.ownBlock = some g → g < V.heap.size) := Lib.hid fun g hg => Nat.lt_of_lt_of_le (hr.out.1.lt g hg) gV.size
      clear hS hV2 gV gV2 hr hg c1
      by_cases hx0 : B8 x = 0
      · rw [hx0] at c2
        obtain ⟨V3, hV3⟩ : ∃ V3, V3 = V2.setRow V.heap.size (sec Sec.zero) := ⟨_, rfl⟩
        have HV3 := Lib.hid hV3
        have HB3 : Hid (Blk V3 V.heap.size TS (sec Sec.zero)) := Lib.hid (by rw [hV3]; exact HB2.out.row _)
        have HR3 : Hid (Row V3 u7 ss) := Lib.hid (HR2.out.stays (fun g hg => by rw [hV3]; exact setRow_other V2 V.heap.size g _ (by have := HO2.out g hg; omega)))
        have HG3 : Hid (Gr W0 V3 ∧ ∀ g, u7.ownBlock = some g → W0.heap.size ≤ g) := Lib.hid ⟨by rw [hV3]; exact below_setRow HG2.out.1 HW2.out _, HG2.out.2⟩
        clear hV3
        go_wp2_with (first | (refine wpList_store_sec rfl (.tmp 9) (.tmp 60) rfl HZ.out rfl rfl ?_; rw [← HV2.out]) | (refine wpList_build_zero rfl rfl ?_) | (refine wpList_store_sec rfl (.tmp 9) (.tmp 66) rfl HB2.out rfl rfl ?_; rw [← HV3.out]))
        refine wp_load_sec (.tmp 9) rfl HB3.out.one rfl ?_
        rename_i K hK
        refine hK _ _ ?_
        go_wp2_with fail
        refine wp_buildSecs 1 _ rfl [Sec.zero] rfl (by omega) (by omega) (by simp [Act.put, Act.eval, partsOf, partsL, sec]) ?_
        rename_i K hK
        refine hK _ _ ?_
        clear hK K
        have gL : Gr V3 (V3.alloc (.cells (cellsOf [Sec.zero]).toArray TS)) := Gr.new _ _
        have HRL := Lib.hid (HR3.out.gr gL)
        have HLL := Lib.hid (Row.lit V3 [Sec.zero] 1 rfl (by omega))
        have HLen : Hid (ss.length + 1 ≤ 500000000000) := Lib.hid (by have := HL2.out; omega)
        have HGL : Hid (Gr W0 (V3.alloc (.cells (cellsOf [Sec.zero]).toArray TS)) ∧ ∀ g, u7.ownBlock = some g → W0.heap.size ≤ g) := Lib.hid ⟨Gr.trans HG3.out.1 gL, HG3.out.2⟩
        clear gL
        go_wp2_with (at_builtin; refine app_secL rfl _ _ rfl rfl HRL.out rfl HLL.out rfl HLen.out ?_)
        intro v8 W8 hr8 hg8 ho8
        have HR8 : Hid (Row W8 v8 (ss ++ [Sec.zero]) ∧ (ss ++ [Sec.zero]).length = j + 1) := Lib.hid ⟨hr8, by simp [HL2.out]⟩
        have HG8 : Hid (Gr W0 W8 ∧ ∀ g, v8.ownBlock = some g → W0.heap.size ≤ g) := Lib.hid ⟨HGL.out.1.grown hg8 HGL.out.1.size HGL.out.2, fun g hg => by
          rcases ho8 with h | h
          · exact HGL.out.2 g (h ▸ hg)
          · rw [h] at hg
            cases hg
            simpa using HGL.out.1.size⟩
        clear hr8 hg8 ho8 HGL HLL HRL HLen
        go_wp2_with fail
        go_roundw
        case rel => exact ⟨j + 1, _, by omega, by go_num, HR8, HG8⟩
        case measure => simp [intOf]; omega
      · have hx1 : (B8 x == 0) = false := by simpa using hx0
        go_wp2_with (refine wpList_store_sec rfl (.tmp 9) (.tmp 60) rfl HZ.out rfl rfl ?_; rw [← HV2.out])
        refine wp_load_sec (.tmp 9) rfl HB2.out.one rfl ?_
        rename_i K hK
        refine hK _ _ ?_
        go_wp2_with fail
        refine wp_buildSecs 1 _ rfl [S] rfl (by omega) (by omega) (by simp [Act.put, Act.eval, partsOf, partsL, sec]) ?_
        rename_i K hK
        refine hK _ _ ?_
        clear hK K
        have gL : Gr V2 (V2.alloc (.cells (cellsOf [S]).toArray TS)) := Gr.new _ _
        have HRL := Lib.hid (HR2.out.gr gL)
        have HLL := Lib.hid (Row.lit V2 [S] 1 rfl (by omega))
        have HLen : Hid (ss.length + 1 ≤ 500000000000) := Lib.hid (by have := HL2.out; omega)
        have HGL : Hid (Gr W0 (V2.alloc (.cells (cellsOf [S]).toArray TS)) ∧ ∀ g, u7.ownBlock = some g → W0.heap.size ≤ g) := Lib.hid ⟨Gr.trans HG2.out.1 gL, HG2.out.2⟩
        clear gL
        go_wp2_with (at_builtin; refine app_secL rfl _ _ rfl rfl HRL.out rfl HLL.out rfl HLen.out ?_)
        intro v8 W8 hr8 hg8 ho8
        have HR8 : Hid (Row W8 v8 (ss ++ [S]) ∧ (ss ++ [S]).length = j + 1) := Lib.hid ⟨hr8, by simp [HL2.out]⟩
        have HG8 : Hid (Gr W0 W8 ∧ ∀ g, v8.ownBlock = some g → W0.heap.size ≤ g) := Lib.hid ⟨HGL.out.1.grown hg8 HGL.out.1.size HGL.out.2, fun g hg => by
          rcases ho8 with h | h
          · exact HGL.out.2 g (h ▸ hg)
          · rw [h] at hg
            cases hg
            simpa using HGL.out.1.size⟩
        clear hr8 hg8 ho8 HGL HLL HRL HLen
        go_wp2_with fail
        go_roundw
        case rel => exact ⟨j + 1, _, by omega, by go_num, HR8, HG8⟩
        case measure => simp [intOf]; omega
    · obtain rfl : j = m := by omega
      have HF1 : Hid (Row wr u7 ss ∧ ss.length = j ∧ Gr W0 wr ∧ ∀ g, u7.ownBlock = some g → W0.heap.size ≤ g) := Lib.hid ⟨hr.out.1, hr.out.2, hg.out.1, hg.out.2⟩
      clear hr hg hj HB
      go_wp2_with fail
      obtain ⟨WB, hWB⟩ : ∃ WB, WB = wr := ⟨_, rfl⟩
      have HBase : Hid (Gr w WB ∧ W0.heap.size ≤ WB.heap.size ∧ Gr W0 WB) := Lib.hid (by rw [hWB]; exact ⟨Gr.trans H0.out.2.1 HF1.out.2.2.1, HF1.out.2.2.1.size, HF1.out.2.2.1⟩)
      subst hWB
      have hne1 : ss ≠ [] := fun e => by have := HF1.out.2.1; rw [e] at this; simp at this; omega
      obtain ⟨g1s, c7, e7, _⟩ := HF1.out.1.full hne1
      rw [HF1.out.2.1] at e7
      subst e7
      clear hne1
      have HRes : Hid (Blk WB w.heap.size TBo #[.bool false] ∧ w.heap.size < WB.heap.size) := Lib.hid ⟨H0.out.1.gr HBase.out.2.2, Nat.lt_of_lt_of_le H0.out.2.2 HBase.out.2.1⟩
      have HN1 : Hid (0 < ss.length ∧ ss.length ≤ 65536 ∧ ss.length = j) := Lib.hid ⟨by have := HF1.out.2.1; omega, by have := HF1.out.2.1; omega, HF1.out.2.1⟩
      refine (Of_yes WB _ ss HF1.out.1 HN1.out.1 HN1.out.2.1).mono ?_
      rintro e w1 ⟨d, F, rfl, hd, hg1, hfar⟩
      have HD1 := Lib.hid hd
      have HG1 := Lib.hid hg1
      have HFa1 := Lib.hid hfar
      clear hd hg1 hfar
      go_wp2_with fail
      refine (refNew_any w1 _ ss (HF1.out.1.gr HG1.out) HN1.out.1 HN1.out.2.1).mono ?_
      rintro e w3 ⟨p, G, rfl, hr3, hg3, hG3⟩
      have HO : Hid (OwnP WB w3 d p (fresh ss)) := Lib.hid (OwnP.made HD1.out HG1.out HFa1.out (Gr.refl w1) hr3 hg3 hG3)
      have HSm := Lib.hid (HO.out.same (by show 0 ≤ _; omega))
      clear hr3 hg3 hG3 HD1 HG1 HFa1
      go_wp2_with fail
      refine HSm.out.mono ?_
      rintro e w5 ⟨rfl, hg5⟩
      have HO5 := Lib.hid (HO.out.gr hg5)
      clear hg5 HO HSm
      go_wp2_with fail
      have HA1b := Lib.hid (HA1.out.gr HBase.out.1)
      go_loopw [10, 12, 13, 14] (fun dv rv ok i wr => ∃ (k : Nat) (p r : Value) (s : St), k ≤ m1 ∧ i = .int .i64 k ∧ ok = .bool true ∧ p = dv ∧ r = rv ∧ Hid (OwnP WB wr p r s) ∧ Hid (s.ls.length = j ∧ s.writes ≤ k)) (fun _ _ _ i _ => m1 - (intOf i).toNat)
      case atStart => exact ⟨0, _, _, _, Nat.zero_le _, rfl, rfl, rfl, rfl, HO5, Lib.hid ⟨HN1.out.2.2, Nat.le_refl _⟩⟩
      case round =>
        obtain ⟨k, p, r, s, hk, rfl, rfl, rfl, rfl, ho, hs⟩ := hrel
        by_cases hlt : k < m1
        · 
          have hact := HA1b.out.gr ho.out.grown
          obtain ⟨b2, o2, rfl, hc2⟩ := hact.2 (by omega)
          obtain ⟨hok, qa, na, ca, hr2, hn2⟩ := hc2 k hlt
          obtain ⟨a, ha⟩ : ∃ a, a = f1 k := ⟨_, rfl⟩
          rw [← ha] at hok hr2 hn2
          have HR := Lib.hid hr2
          have HSz : Hid ((a.val (.slice qa na ca)).size = 5) := Lib.hid (act_size a _)
          have HDo := Lib.hid (ho.out.does a hok qa na ca hn2 (by have := hs.out.2; omega))
          have HS2 : Hid ((s.does a).ls.length = j ∧ (s.does a).writes ≤ k + 1) := Lib.hid ⟨by rw [does_len]; exact hs.out.1, by have := does_writes s a; have := hs.out.2; omega⟩
          obtain ⟨av, hav⟩ : ∃ av, av = a.val (.slice qa na ca) := ⟨_, rfl⟩
          rw [← hav] at HR HSz HDo
          obtain ⟨s2, hs2⟩ : ∃ s2, s2 = s.does a := ⟨_, rfl⟩
          rw [← hs2] at HDo HS2
          clear hact hc2 hok hr2 hn2 ho hs ha hav hs2
          go_wp2_with (refine wpList_load_act rfl (.tmp 97) rfl HR.out HSz.out rfl ?_)
          refine HDo.out.mono ?_
          rintro e w4 ⟨p4, r4, rfl, ho4⟩
          have HO4 := Lib.hid ho4
          clear ho4 HDo HR HSz
          go_wp2_with fail
          go_roundw
          case rel => exact ⟨k + 1, _, _, _, by omega, by go_num, rfl, rfl, rfl, HO4, HS2⟩
          case measure => simp [intOf]; omega
        · obtain rfl : k = m1 := by omega
          have HO6 := Lib.hid ho.out
          have HS6 : Hid (s.ls.length = j ∧ s.writes ≤ 40) := Lib.hid ⟨hs.out.1, by have := hs.out.2; omega⟩
          clear ho hs HO5 hk
          go_wp2_with fail
          obtain ⟨X1, hX1⟩ : ∃ X1, X1 = wr := ⟨_, rfl⟩
          subst hX1
          obtain ⟨F6, G6, hp6, hg6, hz6⟩ := HO6.out
          have HP6 := Lib.hid hp6
          have HG6 := Lib.hid hg6
          have HZ6 := Lib.hid hz6
          have HWr : Hid (s.writes ≤ 1000000000 ∧ ∀ i, (s.t i).length ≤ 1000000000) := Lib.hid ⟨by have := HS6.out.2; omega, fun i => by have := hp6.dk.ok.less i; have := HS6.out.2; omega⟩
          clear hp6 hg6 hz6 HO6
          refine (Copy_any X1 HP6.out.dk HWr.out.1).mono ?_
          rintro e X2 ⟨cp, Fc, rfl, hdc, g2, fc⟩
          have hdc2 := hdc
          obtain ⟨cb, clv, cm, cL, rfl, _⟩ := hdc2
          have HC2 : Hid (Dk X2 Fc (.pointer (some ⟨cb, 0, none⟩)) s ∧ Gr X1 X2 ∧ ∀ k, Fc k → X1.heap.size ≤ k) := Lib.hid ⟨hdc, g2, fc⟩
          clear hdc g2 fc
          go_wp2_with fail
          refine (All_any X2 (HP6.out.dk.gr HC2.out.2.1) HWr.out.1).mono ?_
          rintro e X3 ⟨Bd, Fa, ab, alv, am, aL, rfl, hBd, hda, g3, hb3, fa⟩
          have HC3 : Hid (Blk X3 Bd TPD #[.pointer (some ⟨ab, 0, none⟩)] ∧ DkAt X3 Fa ab alv am aL s ∧ Gr X2 X3 ∧ X2.heap.size ≤ Bd ∧ ∀ k, Fa k → X2.heap.size ≤ k) := Lib.hid ⟨hBd, hda, g3, hb3, fa⟩
          clear hBd hda g3 hb3 fa
          go_wp2_with fail
          refine (refCrash_any X3 ((HP6.out.rf.gr HC2.out.2.1).gr HC3.out.2.2.1) HWr.out.2 none 0 0 [] (Nums.nil _)).mono ?_
          rintro e X4 ⟨wp, Gw, rfl, hrw, g4, fw⟩
          have HC4 : Hid (Rf X4 Gw wp (s.crash []) ∧ Gr X3 X4 ∧ ∀ k, Gw k → X3.heap.size ≤ k) := Lib.hid ⟨hrw, g4, fw⟩
          clear hrw g4 fw
          obtain ⟨rb, gs, cs, Vr, er, hrf⟩ := HP6.out.rf
          subst er
          have HRf := Lib.hid hrf
          clear hrf
          obtain ⟨X5, hX5⟩ : ∃ X5, X5 = X4.alloc (.cells #[.slice none 0 0] 25) := ⟨_, rfl⟩
          have HX5 := Lib.hid hX5
          have H5 : Hid (Blk X5 X4.heap.size TL #[.slice none 0 0] ∧ Gr X4 X5 ∧ X4.heap.size < X5.heap.size) := Lib.hid (by rw [hX5]; exact ⟨Blk.new _ _ _, Gr.new _ _, by simp⟩)
          clear hX5
          have HN6 : Hid (s.ls.length = j) := Lib.hid HS6.out.1
          go_wp2_with fail
          rw [← HX5.out]
          clear HX5
          go_loopw [19] (fun iv W => ∃ (i : Nat), i ≤ j ∧ iv = .int .i64 i ∧ Hid (∃ v, Blk W X4.heap.size TL #[v] ∧ Row W v ((List.range i).map s.nw) ∧ ∀ g, v.ownBlock = some g → X4.heap.size < g) ∧ Hid (Gr X4 W)) (fun iv _ => j - (intOf iv).toNat)
          case atStart => exact ⟨0, Nat.zero_le _, rfl, Lib.hid ⟨_, H5.out.1, Row.empty _, fun g h => by cases h⟩, Lib.hid H5.out.2.1⟩
          case round =>
            obtain ⟨i, hi, rfl, hv, hg⟩ := hrel
            have HRf7 := Lib.hid (HRf.out.gr (Gr.trans (Gr.trans HC2.out.2.1 HC3.out.2.2.1) (Gr.trans HC4.out.2.1 hg.out)))
            have c0 := HRf7.out.blk.cell 0
            simp at c0
            rw [HN6.out] at c0
            by_cases hlt : i < j
            · 
              obtain ⟨u, hu1, hu2, hu3⟩ := hv.out
              obtain ⟨ts, hts⟩ : ∃ ts, ts = (List.range i).map s.nw := ⟨_, rfl⟩
              rw [← hts] at hu2
              obtain ⟨S, hS⟩ : ∃ S, S = s.nw i := ⟨_, rfl⟩
              have HU : Hid (Row wr u ts ∧ (∀ g, u.ownBlock = some g → X4.heap.size < g) ∧ Gr X4 wr ∧ Blk wr X4.heap.size TL #[u]) := Lib.hid ⟨hu2, hu3, hg.out, hu1⟩
              have HCE : Hid (∀ W, Gr wr W → W.cell? ⟨X4.heap.size, 0, none⟩ = some u) := Lib.hid fun W gr => (hu1.gr gr).cell 0
              have HRD : Hid (∀ W, Gr wr W → Calls Try.prog 13 #[.pointer (some ⟨rb, 0, none⟩), .int .i64 (i : Int)] W fun e w' => e = .returned (.agg (sec S)) ∧ Gr W w') := Lib.hid fun W gr => by
                rw [hS]
                exact refRead_any W ⟨rb, gs, cs, Vr, rfl, HRf7.out.gr gr⟩ i (by rw [HN6.out]; exact hlt)
              have HLen : Hid (ts.length + 1 ≤ 500000000000) := Lib.hid (by rw [hts]; simp; omega)
              have HTS : Hid (ts ++ [S] = (List.range (i + 1)).map s.nw) := Lib.hid (by rw [hts, hS, List.range_succ, List.map_append]; rfl)
              clear hu1 hu2 hu3 hts hS hv hg
              go_wp2_with fail
              refine Flow.regionZ 6 5 (by kernel_rfl) [] 10 (Sd28 X4.heap.size rb i u S ts) (fun W => Gr X4 W ∧ Blk W X4.heap.size TL #[u]) (Fin28 X4 X4.heap.size S ts) (Gr wr) Gd28 (by kernel_rfl) (by kernel_rfl) (by kernel_rfl) ?mono ⟨(Gr.refl X4).trans ⟨HU.out.2.2.1.os, HU.out.2.2.1.tape, HU.out.2.2.1.output, HU.out.2.2.1.size, HU.out.2.2.1.block⟩, HU.out.2.2.2⟩ ⟨rfl, rfl, rfl, Nat.le_refl _, fun _ _ => rfl⟩ ?steps ?fin
              case mono =>
                intro j d v w w' hb hs hg
                by_cases h5 : j = 5
                · subst h5
                  have := Flow.bears2_only [] (by kernel_rfl) hb
                  cases this
                · by_cases h6 : j = 6
                  · subst h6
                    have := Flow.bears2_only [] (by kernel_rfl) hb
                    cases this
                  · have e1 : (j == 5 || j == 6) = false := by simp [h5, h6]
                    unfold Gd28 at hg
                    rw [e1] at hg
                    exact sd28_kept d v w w' hs hg
              case steps =>
                refine Flow.StepsZ.cons (fun a W hfr hinv hear hdep K hK => ?_) ?_
                · have s18 : a.tmps.getD 18 undef = .pointer (some ⟨X4.heap.size, 0, none⟩) := hfr.at 18 (by kernel_rfl)
                  have t18 : a.tmps[18]?.getD undef = .pointer (some ⟨X4.heap.size, 0, none⟩) := by simpa using s18
                  have n0 := HCE.out W (Flow.early hear (by kernel_rfl))
                  rw [if_pos (Flow.wanted_none rfl)]
                  clear hfr hdep hear
                  go_simp
                  exact hK _ _ (show Gr W W from Gr.refl W) hinv (fun h => h) (fun d hd => by cases hd; rfl)
                refine Flow.StepsZ.cons (fun a W hfr hinv hear hdep K hK => ?_) ?_
                · have s12 : a.tmps.getD 12 undef = .pointer (some ⟨rb, 0, none⟩) := hfr.at 12 (by kernel_rfl)
                  have t12 : a.tmps[12]?.getD undef = .pointer (some ⟨rb, 0, none⟩) := by simpa using s12
                  rw [if_pos (Flow.wanted_none rfl)]
                  clear hfr hdep hear
                  go_simp
                  exact hK _ _ (show Gr W W from Gr.refl W) hinv (fun h => h) (fun d hd => by cases hd; rfl)
                refine Flow.StepsZ.cons (fun a W hfr hinv hear hdep K hK => ?_) ?_
                · have s19 : a.tmps.getD 19 undef = .int .i64 (i : Int) := hfr.at 19 (by kernel_rfl)
                  have t19 : a.tmps[19]?.getD undef = .int .i64 (i : Int) := by simpa using s19
                  rw [if_pos (Flow.wanted_none rfl)]
                  clear hfr hdep hear
                  go_simp
                  exact hK _ _ (show Gr W W from Gr.refl W) hinv (fun h => h) (fun d hd => by cases hd; rfl)
                refine Flow.StepsZ.cons (fun a W hfr hinv hear hdep K hK => ?_) ?_
                · have s121 : a.tmps.getD 121 undef = .pointer (some ⟨rb, 0, none⟩) := hdep 121 (by kernel_rfl)
                  have t121 : a.tmps[121]?.getD undef = .pointer (some ⟨rb, 0, none⟩) := by simpa using s121
                  have s122 : a.tmps.getD 122 undef = .int .i64 (i : Int) := hdep 122 (by kernel_rfl)
                  have t122 : a.tmps[122]?.getD undef = .int .i64 (i : Int) := by simpa using s122
                  rw [if_pos (Flow.wanted_none rfl)]
                  clear hfr hdep
                  have hE := Flow.early hear (by kernel_rfl)
                  clear hear
                  go_simp
                  refine (HRD.out W hE).mono ?_
                  rintro e W' ⟨rfl, g1⟩
                  exact hK _ _ (show Gr W W' from g1) ⟨Gr.trans hinv.1 g1, hinv.2.gr g1⟩ (fun h => Gr.trans h g1) (fun d hd => by cases hd; rfl)
                refine Flow.StepsZ.cons (fun a W hfr hinv hear hdep K hK => ?_) ?_
                · have s123 : a.tmps.getD 123 undef = .agg (sec S) := hdep 123 (by kernel_rfl)
                  have t123 : a.tmps[123]?.getD undef = .agg (sec S) := by simpa using s123
                  rw [if_pos (Flow.wanted_none rfl)]
                  clear hfr hdep
                  clear hear
                  refine wp_buildSecs 1 _ rfl [S] rfl (by omega) (by omega) (by simp [Act.eval, t123, partsOf, partsL, sec]) ?_
                  exact hK _ _ (show Gr W _ from Gr.new _ _) ⟨Gr.trans hinv.1 (Gr.new _ _), hinv.2.gr (Gr.new _ _)⟩ (fun h => Gr.trans h (Gr.new _ _)) (fun d hd => by cases hd; exact ⟨_, rfl, Row.lit W [S] 1 rfl (by omega)⟩)
                refine Flow.StepsZ.cons (fun a W hfr hinv hear hdep K hK => ?_) ?_
                · have s120 : a.tmps.getD 120 undef = u := hdep 120 (by kernel_rfl)
                  have t120 : a.tmps[120]?.getD undef = u := by simpa using s120
                  have s124 : (∃ q, (a.tmps.getD 124 undef) = .slice (some ⟨q, 0, none⟩) 1 1 ∧ Row W (a.tmps.getD 124 undef) [S]) := hdep 124 (by kernel_rfl)
                  rw [if_pos (Flow.wanted_none rfl)]
                  clear hfr hdep
                  have hE := Flow.early hear (by kernel_rfl)
                  clear hear
                  obtain ⟨q4, e124, r124⟩ := s124
                  rw [e124] at r124
                  refine app_sec (.tmp 120) (.tmp 124) rfl (by simpa [Act.eval] using s120) (HU.out.1.gr hE) (by simpa [Act.eval] using e124) r124 rfl HLen.out ?_
                  intro v' w' h1 h2 h3
                  have hb : ∀ g, u.ownBlock = some g → X4.heap.size < g := HU.out.2.1
                  exact hK _ _ True.intro ⟨hinv.1.grown h2 hinv.1.size (fun k hk => Nat.le_of_lt (hb k hk)), hinv.2.stays (h2.block _ hinv.2.lt (fun e => by have := hb _ e.symm; omega))⟩ True.intro (fun d hd => by cases hd; exact ⟨h1, fun g hg => by
                    rcases h3 with h | h
                    · exact hb g (h ▸ hg)
                    · rw [h] at hg
                      cases hg
                      exact hinv.2.lt⟩)
                refine Flow.StepsZ.cons (fun a W hfr hinv hear hdep K hK => ?_) ?_
                · have s18 : a.tmps.getD 18 undef = .pointer (some ⟨X4.heap.size, 0, none⟩) := hfr.at 18 (by kernel_rfl)
                  have t18 : a.tmps[18]?.getD undef = .pointer (some ⟨X4.heap.size, 0, none⟩) := by simpa using s18
                  have s125 : (Row W (a.tmps.getD 125 undef) (ts ++ [S]) ∧ ∀ g, (a.tmps.getD 125 undef).ownBlock = some g → X4.heap.size < g) := hdep 125 (by kernel_rfl)
                  rw [if_pos (Flow.wanted_none rfl)]
                  clear hfr hdep
                  clear hear
                  obtain ⟨r125, o125⟩ := s125
                  obtain ⟨v5, hv5⟩ : ∃ v5, v5 = a.tmps.getD 125 undef := ⟨_, rfl⟩
                  rw [← hv5] at r125 o125
                  have t125 : a.tmps[125]?.getD undef = v5 := by simpa using hv5.symm
                  have hb0 := hinv.2
                  have n0 := hb0.cell 0
                  have f0 := hb0.frozen 0
                  have hi0 := hinv.1
                  simp at n0
                  clear hinv hv5
                  obtain ⟨g5, c5, e5, _⟩ := r125.full (by simp)
                  obtain ⟨n5, hn5⟩ : ∃ n5, n5 = (ts ++ [S]).length := ⟨_, rfl⟩
                  rw [← hn5] at e5
                  clear hn5
                  subst e5
                  go_simp
                  exact hK undef _ True.intro ⟨_, hb0.set 0 _, r125.stays (fun g hg => heap_setCell_other W ⟨X4.heap.size, 0, none⟩ g _ (by have := o125 g hg; show g ≠ X4.heap.size; omega)), o125, hi0.setCell (Nat.le_refl _) _⟩ True.intro (fun d hd => by cases hd)
                exact True.intro
              case fin =>
                intro a W hfr hfin hsl
                clear hsl
                have e := Flow.frame hfr [120, 121, 122, 123, 124, 125] (List.range 288) (by kernel_rfl) (by kernel_rfl)
                simp (maxSteps := 2000000) [List.range, List.range.loop] at e
                rw [e]
                clear e hfr
                rename_i K2 hK2
                refine hK2 _ _ ?_
                obtain ⟨v5, hb5, hr5, ho5, hg5⟩ := hfin
                rw [HTS.out] at hr5
                have HV5 : Hid (∃ v, Blk W X4.heap.size TL #[v] ∧ Row W v ((List.range (i + 1)).map s.nw) ∧ ∀ g, v.ownBlock = some g → X4.heap.size < g) := Lib.hid ⟨v5, hb5, hr5, ho5⟩
                have HG5 := Lib.hid hg5
                clear hb5 hr5 ho5 hg5 HU HCE HRD HLen HTS HRf7 c0
                go_wp2_with fail
                go_roundw
                case rel => exact ⟨i + 1, by omega, by go_num, HV5, HG5⟩
                case measure => simp [intOf]; omega
            · obtain rfl : i = j := by omega
              obtain ⟨u, hu1, hu2, hu3⟩ := hv.out
              obtain ⟨X6, hX6⟩ : ∃ X6, X6 = wr := ⟨_, rfl⟩
              subst hX6
              have g24 : Gr X2 X6 := Gr.trans HC3.out.2.2.1 (Gr.trans HC4.out.2.1 hg.out)
              have g16 : Gr X1 X6 := Gr.trans HC2.out.2.1 g24
              have g36 : Gr X3 X6 := Gr.trans HC4.out.2.1 hg.out
              have z12 := HC2.out.2.1.size
              have z23 := HC3.out.2.2.1.size
              have z34 := HC4.out.2.1.size
              have z46 := hg.out.size
              have HM6 : Hid (Mid w WB.heap.size X1.heap.size X6.heap.size i (.pointer (some ⟨cb, 0, none⟩)) wp Bd ab alv am aL Fa X4.heap.size s p (.pointer (some ⟨rb, 0, none⟩)) s X6) := Lib.hid
                ⟨Gr.trans HBase.out.1 (Gr.trans HG6.out g16), HRes.out.1.gr (Gr.trans HG6.out g16), ⟨F6, G6, HP6.out.stays g16, fun k hk => ⟨HZ6.out k hk, .inl (hk.elim (HP6.out.dk.low k) (HP6.out.rf.low k))⟩⟩,
                ⟨Fc, HC2.out.1.gr g24, fun k hk => ⟨HC2.out.2.2 k hk, by have := HC2.out.1.low k hk; omega⟩⟩, ⟨HC3.out.1.gr g36, by have := HC3.out.2.2.2.1; omega, by have := HC3.out.1.lt; omega⟩,
                ⟨HC3.out.2.1.gr g36, fun k hk => ⟨by have := HC3.out.2.2.2.2 k hk; omega, by have := HC3.out.2.1.low k hk; omega⟩⟩, ⟨Gw, HC4.out.1.gr hg.out, fun k hk => ⟨by have := HC4.out.2.2 k hk; omega, by have := HC4.out.1.low k hk; omega⟩⟩,
                ⟨u, hu1, hu2, fun g hg => ⟨by have := hu3 g hg; omega, hu2.lt g hg⟩⟩, ⟨by omega, hu1.lt⟩, ⟨HRes.out.2, HG6.out.size, by omega, Nat.le_refl _⟩⟩
              have HFs : Hid (Row X6 (.slice (some ⟨g1s, 0, none⟩) i c7) ss ∧ w.heap.size < g1s ∧ g1s < WB.heap.size ∧ 0 < ss.length) := Lib.hid ⟨HF1.out.1.gr (Gr.trans HG6.out g16), by have := HF1.out.2.2.2 g1s rfl; have := H0.out.2.2; omega, HF1.out.1.lt g1s rfl, HN1.out.1⟩
              have HSl : Hid (s.ls.length = i ∧ s.writes ≤ 40 ∧ 0 < i) := Lib.hid ⟨HS6.out.1, HS6.out.2, by have := HN1.out.1; have := HN1.out.2.2; omega⟩
              have HA2b := Lib.hid (HA2.out.gr HM6.out.gr)
              clear g24 g16 g36 z12 z23 z34 z46 hu1 hu2 hu3 hv hg hi HRf HRf7 HP6 HG6 HZ6 HC2 HC3 HC4 H5 HF1 HBase HRes HA1b HA1 HS6 HN6 HWr HN1 H0
              have hnf := eq_nil_func
              go_wp2_with fail
              clear c0 hnf
              have HS1 : Hid (Calls Try.prog 14 #[.pointer (some ⟨cb, 0, none⟩), p] X6 fun e w' => e = .returned (.bool true) ∧ Gr X6 w') := Lib.hid (by
                obtain ⟨Fq, hq1, _⟩ := HM6.out.cp
                obtain ⟨Fp, Gp, hq2, _⟩ := HM6.out.own
                have h := Same_any X6 hq1 hq2.dk rfl
                rw [sameS_self] at h
                exact h)
              refine HS1.out.mono ?_
              rintro e X7 ⟨rfl, g7⟩
              have HM7 := Lib.hid (HM6.out.grow g7)
              have HS2 : Hid (Calls Try.prog 14 #[p, .pointer (some ⟨cb, 0, none⟩)] X7 fun e w' => e = .returned (.bool true) ∧ Gr X7 w') := Lib.hid (by
                obtain ⟨Fq, hq1, _⟩ := HM7.out.cp
                obtain ⟨Fp, Gp, hq2, _⟩ := HM7.out.own
                have h := Same_any X7 hq2.dk hq1 rfl
                rw [sameS_self] at h
                exact h)
              have HFs7 := Lib.hid (show Row X7 (.slice (some ⟨g1s, 0, none⟩) i c7) ss ∧ w.heap.size < g1s ∧ g1s < WB.heap.size ∧ 0 < ss.length from ⟨HFs.out.1.gr g7, HFs.out.2⟩)
              clear g7 HS1 HFs HM6
              go_wp2_with fail
              refine HS2.out.mono ?_
              rintro e X8 ⟨rfl, g8⟩
              have HM8 := Lib.hid (HM7.out.grow g8)
              have HFs8 := Lib.hid (show Row X8 (.slice (some ⟨g1s, 0, none⟩) i c7) ss ∧ w.heap.size < g1s ∧ g1s < WB.heap.size ∧ 0 < ss.length from ⟨HFs7.out.1.gr g8, HFs7.out.2⟩)
              clear g8 HS2 HFs7 HM7
              go_upto_region 31 with fail
              go_cut [151] from 144 to 151 (fun s151 wc => s151 = .bool (decide (k = 0)) ∧ X8 = wc)
              case first =>
                have hi0 : (0 : Int) < (i : Int) := by have := HSl.out.2.2; omega
                by_cases hk0 : k = 0
                · have HK0 := Lib.hid hk0
                  have hk1 : ((k : Int) == 0) = true := by simp [hk0]
                  clear hk0
                  go_wp2_with fail
                  go_meet
                  exact ⟨by simp [HK0.out, HSl.out.2.2], rfl⟩
                · have hk1 : ((k : Int) == 0) = false := by simpa using hk0
                  go_wp2_with fail
                  go_meet
                  exact ⟨by simp [hk0], rfl⟩
              case rest =>
                obtain ⟨rfl, rfl⟩ := hcut
                go_upto_if 151 with fail
                go_cut [7] from 144 to 162 (fun s7 wc => Hid (Mid w WB.heap.size X1.heap.size X6.heap.size i (.pointer (some ⟨cb, 0, none⟩)) wp Bd ab alv am aL Fa X4.heap.size s p (.pointer (some ⟨rb, 0, none⟩)) s wc))
                case first =>
                  by_cases hk0 : k = 0
                  · rw [show decide (k = 0) = true from decide_eq_true hk0]
                    clear hk0
                    have hrow := HFs8.out.1
                    obtain ⟨cs8, hk8⟩ := hrow.kind rfl
                    have hce := hrow.lies 0 HFs8.out.2.2.2
                    obtain ⟨z8, hz8⟩ : ∃ z : UInt8, (ss[0]'HFs8.out.2.2.2).cells[7]? = some (.int .u8 (z.toNat : Int)) := by
                      have hl := (ss[0]'HFs8.out.2.2.2).len
                      exact ⟨(ss[0]'HFs8.out.2.2.2).bytes[7]'(by omega), by unfold Sec.cells; rw [List.getElem?_map, List.getElem?_eq_getElem (by omega)]; rfl⟩
                    have c8 := hce 7 _ hz8
                    have f8 : X8.frozen? ⟨g1s, 7, none⟩ = false := frozen_of_row X8 g1s 7 cs8 TS hk8
                    simp at c8
                    have hi0 : 0 < i := HSl.out.2.2
                    have HK8 := Lib.hid hk8
                    clear hk8 hce hz8 hrow
                    go_wp2_with fail
                    go_region
                    generalize hX9 : World.drew (World.setCell X8 _ _) = X9
                    have HM9 := Lib.hid (HM8.out.store (W' := X9) g1s HFs8.out.2.1 HFs8.out.2.2.1 (by rw [← hX9]; rfl) (by rw [← hX9]; rfl) (by rw [← hX9]; rfl) (by rw [← hX9]; simp [World.drew, World.setCell]) (fun k hk => by rw [← hX9]; exact heap_setCell_other X8 ⟨g1s, 7, none⟩ k _ hk))
                    have HSm9 := Lib.hid (HM9.out.same (by have := HSl.out.2.1; omega))
                    clear hX9 c8 f8 HK8 HM8
                    go_wp2_with fail
                    refine HSm9.out.mono ?_
                    rintro e X10 ⟨rfl, g10⟩
                    have HM10 := Lib.hid (HM9.out.grow g10)
                    clear g10 HSm9
                    go_wp2_with fail
                    go_meet
                    exact HM10
                  · rw [show decide (k = 0) = false from decide_eq_false hk0]
                    clear hk0
                    go_wp2_with fail
                    go_meet
                    exact HM8
                case rest =>
                  clear HM8 HFs8
                  have HM9 := hcut
                  clear hcut
                  go_wp2_with fail
                  go_loopw [10, 12, 13, 20] (fun dv rv ok iv wr => ∃ (k2 : Nat) (s2 : St), k2 ≤ m2 ∧ iv = .int .i64 k2 ∧ ok = .bool true ∧ Hid (Mid w WB.heap.size X1.heap.size X6.heap.size i (.pointer (some ⟨cb, 0, none⟩)) wp Bd ab alv am aL Fa X4.heap.size s dv rv s2 wr) ∧ Hid (s2.ls.length = i ∧ s2.writes ≤ 40 + k2)) (fun _ _ _ iv _ => m2 - (intOf iv).toNat)
                  case atStart => exact ⟨0, s, Nat.zero_le _, rfl, rfl, HM9, Lib.hid ⟨HSl.out.1, HSl.out.2.1⟩⟩
                  case round =>
                    obtain ⟨k2, s2, hk2, rfl, rfl, ho, hs⟩ := hrel
                    by_cases hlt : k2 < m2
                    ·
                      have hact := HA2.out.gr ho.out.gr
                      obtain ⟨b2, o2, rfl, hc2⟩ := hact.2 (by omega)
                      obtain ⟨hok, qa, na, ca, hr2, hn2⟩ := hc2 k2 hlt
                      obtain ⟨a, ha⟩ : ∃ a, a = f2 k2 := ⟨_, rfl⟩
                      rw [← ha] at hok hr2 hn2
                      have HR := Lib.hid hr2
                      have HSz : Hid ((a.val (.slice qa na ca)).size = 5) := Lib.hid (act_size a _)
                      have HDo := Lib.hid (ho.out.does a hok qa na ca hn2 (by have := hs.out.2; omega))
                      have HS2 : Hid ((s2.does a).ls.length = i ∧ (s2.does a).writes ≤ 40 + (k2 + 1)) := Lib.hid ⟨by rw [does_len]; exact hs.out.1, by have := does_writes s2 a; have := hs.out.2; omega⟩
                      obtain ⟨av, hav⟩ : ∃ av, av = a.val (.slice qa na ca) := ⟨_, rfl⟩
                      rw [← hav] at HR HSz HDo
                      obtain ⟨s3, hs3⟩ : ∃ s3, s3 = s2.does a := ⟨_, rfl⟩
                      rw [← hs3] at HDo HS2
                      clear hact hc2 hok hr2 hn2 ho hs ha hav hs3 HM9
                      go_wp2_with (refine wpList_load_act rfl (.tmp 174) rfl HR.out HSz.out rfl ?_)
                      refine HDo.out.mono ?_
                      rintro e w4 ⟨p4, r4, rfl, ho4⟩
                      have HO4 := Lib.hid ho4
                      clear ho4 HDo HR HSz
                      go_wp2_with fail
                      go_roundw
                      case rel => exact ⟨k2 + 1, _, by omega, by go_num, rfl, HO4, HS2⟩
                      case measure => simp [intOf]; omega
                    · obtain rfl : k2 = m2 := by omega
                      have HM10 := Lib.hid ho.out
                      have HS10 : Hid (s2.ls.length = i ∧ s2.writes ≤ 80) := Lib.hid ⟨hs.out.1, by have := hs.out.2; omega⟩
                      clear ho hs HM9 hk2
                      obtain ⟨X11, hX11⟩ : ∃ X11, X11 = wr := ⟨_, rfl⟩
                      subst hX11
                      obtain ⟨rv, hrv⟩ : ∃ rv, rv = u12 := ⟨_, rfl⟩
                      subst hrv
                      obtain ⟨dv, hdv⟩ : ∃ dv, dv = u10 := ⟨_, rfl⟩
                      subst hdv
                      have HCr : Hid (Calls Try.prog 12 #[rv, .slice none 0 0] X11 fun e w' => NewRf X11 w' e (s2.crash [])) := Lib.hid (by
                        obtain ⟨F, G, hp, _⟩ := HM10.out.own
                        exact refCrash_any X11 hp.rf (fun i => by have := hp.dk.ok.less i; have := HS10.out.2; omega) none 0 0 [] (Nums.nil _))
                      go_wp2_with fail
                      refine HCr.out.mono ?_
                      rintro e X12 ⟨np, Gn, rfl, hrn, g12, fn⟩
                      have HM12 := Lib.hid (HM10.out.grow g12)
                      have HNp := Lib.hid hrn
                      obtain ⟨u, hu1, hu2, _⟩ := HM12.out.rd
                      obtain ⟨gu, cu, eu, _⟩ := hu2.full (fun e => by have h := congrArg List.length e; simp at h; have := HSl.out.2.2; omega)
                      have hlu : ((List.range i).map s.nw).length = i := by simp
                      rw [hlu] at eu
                      subst eu
                      have HU : Hid (Blk X12 X4.heap.size TL #[.slice (some ⟨gu, 0, none⟩) i cu] ∧ Row X12 (.slice (some ⟨gu, 0, none⟩) i cu) ((List.range i).map s.nw)) := Lib.hid ⟨hu1, hu2⟩
                      clear hrn g12 fn HCr HM10 hu1 hu2 hlu
                      go_wp2_with fail
                      go_loopw [22, 23] (fun av iv wr => ∃ (t : Nat), t ≤ i ∧ iv = .int .i64 t ∧ av = .bool (alikeTo s s2 t) ∧ Hid (Gr X12 wr)) (fun _ iv _ => i - (intOf iv).toNat)
                      case atStart => exact ⟨0, Nat.zero_le _, rfl, by unfold alikeTo; simp, Lib.hid (Gr.refl _)⟩
                      case round =>
                        obtain ⟨t, ht, rfl, rfl, hg⟩ := hrel
                        have c0 := (HU.out.1.gr hg.out).cell 0
                        simp at c0
                        by_cases hlt : t < i
                        ·
                          obtain ⟨S, hS⟩ : ∃ S, S = s.nw t := ⟨_, rfl⟩
                          have HRd : Hid (Calls Try.prog 15 #[.pointer (some ⟨cb, 0, none⟩), .int .i64 (t : Int)] wr fun e w' => RetRead wr w' e S 0) := Lib.hid (by
                            obtain ⟨Fq, hq, _⟩ := (HM12.out.grow hg.out).cp
                            rw [hS]
                            exact Read_yes wr hq t (by rw [HSl.out.1]; exact hlt))
                          have HSS := Lib.hid hS
                          clear hS
                          go_wp2_with fail
                          refine HRd.out.mono ?_
                          rintro e Y1 ⟨rfl, g1⟩
                          have HZ := Lib.hid (Blk.new Y1 TS (sec Sec.zero))
                          have hz := zero_sec
                          obtain ⟨Y2, hY2⟩ : ∃ Y2, Y2 = (Y1.alloc (.cells (sec Sec.zero) TS)).setRow Y1.heap.size (sec S) := ⟨_, rfl⟩
                          have HY2 := Lib.hid hY2
                          have HG2 : Hid (Gr X12 Y2 ∧ Blk Y2 Y1.heap.size TS (sec S)) := Lib.hid ⟨by rw [hY2]; exact Gr.trans hg.out (below_setRow (Gr.trans g1 (Gr.new _ _)) g1.size _), by rw [hY2]; exact HZ.out.row _⟩
                          clear hY2 g1 c0 hg HRd
                          go_wp2_with (refine wpList_store_sec rfl (.tmp 24) (.tmp 194) rfl HZ.out rfl rfl ?_; rw [← HY2.out])
                          obtain ⟨T, hT⟩ : ∃ T, T = ((List.range i).map s.nw)[t]'(by simp; exact hlt) := ⟨_, rfl⟩
                          have HTS : Hid (S = T) := Lib.hid (by rw [hT, HSS.out]; simp)
                          have hlie := HU.out.2.lies t (by simp; exact hlt)
                          rw [← hT] at hlie
                          have HX202 : Hid (∀ W, Gr Y2 W → W.rangeAt gu (t * 256) T.cells) := Lib.hid fun W gr k v hv => (Below.cell (Gr.trans HG2.out.1 gr) (p := ⟨gu, t * 256 + k, none⟩) (World.block_lt_of_cell? _ _ (hlie k v hv))).trans (hlie k v hv)
                          have HX24 : Hid (∀ W, Gr Y2 W → W.rangeAt Y1.heap.size 0 S.cells) := Lib.hid fun W gr => (HG2.out.2.gr gr).one
                          have HL18 : Hid (∀ W, Gr Y2 W → W.cell? ⟨X4.heap.size, 0, none⟩ = some (.slice (some ⟨gu, 0, none⟩) i cu)) := Lib.hid fun W gr => (HU.out.1.gr (Gr.trans HG2.out.1 gr)).cell 0
                          have HTN : Hid ((t : Int) < i ∧ t < i) := Lib.hid ⟨by omega, hlt⟩
                          clear hT hlie hz HZ HY2
                          refine Flow.region (Sd47 gu cu i t S T) (Gr Y2) (fun _ _ => True) (by kernel_rfl) (by kernel_rfl) (fun _ _ _ _ h _ => h) ⟨rfl, rfl, rfl, Nat.le_refl _, fun _ _ => rfl⟩ ?steps ?fin
                          case steps =>
                            refine Flow.Steps.cons (fun a W hfr hinv hdep K hK => ?_) ?_
                            · have s25 : a.tmps.getD 25 undef = .int .i64 0 := hfr.at 25 (by kernel_rfl)
                              have t25 : a.tmps[25]?.getD undef = .int .i64 0 := by simpa using s25
                              rw [if_pos (Flow.wanted_none rfl)]
                              clear hfr hdep
                              go_simp
                              exact hK _ _ True.intro hinv (fun d hd => by cases hd; trivial)
                            refine Flow.Steps.cons (fun a W hfr hinv hdep K hK => ?_) ?_
                            · have s196 : a.tmps.getD 196 undef = .int .i64 0 := hdep 196 (by kernel_rfl)
                              have t196 : a.tmps[196]?.getD undef = .int .i64 0 := by simpa using s196
                              rw [if_pos (Flow.wanted_none rfl)]
                              clear hfr hdep
                              go_simp
                              exact hK _ _ True.intro hinv (fun d hd => by cases hd; trivial)
                            refine Flow.Steps.cons (fun a W hfr hinv hdep K hK => ?_) ?_
                            · have s197 : a.tmps.getD 197 undef = .bool false := hdep 197 (by kernel_rfl)
                              have t197 : a.tmps[197]?.getD undef = .bool false := by simpa using s197
                              rw [if_pos (Flow.wanted_none rfl)]
                              clear hfr hdep
                              go_simp
                              exact hK _ _ True.intro hinv (fun d hd => by cases hd; trivial)
                            refine Flow.Steps.cons (fun a W hfr hinv hdep K hK => ?_) ?_
                            · have sg : a.tmps.getD 198 undef = .bool false := hdep 198 (by kernel_rfl)
                              have s24 : a.tmps.getD 24 undef = .pointer (some ⟨Y1.heap.size, 0, none⟩) := hfr.at 24 (by kernel_rfl)
                              have t24 : a.tmps[24]?.getD undef = .pointer (some ⟨Y1.heap.size, 0, none⟩) := by simpa using s24
                              rw [if_pos (Flow.wanted_yes 2 false 198 rfl (by kernel_rfl) sg)]
                              clear hfr hdep
                              refine wp_load_sec (.tmp 24) rfl (HX24.out W hinv) (by simpa [Act.eval] using s24) ?_
                              exact hK _ _ True.intro hinv (fun d hd => by cases hd; trivial)
                            refine Flow.Steps.cons (fun a W hfr hinv hdep K hK => ?_) ?_
                            · have sg : a.tmps.getD 198 undef = .bool false := hdep 198 (by kernel_rfl)
                              have s18 : a.tmps.getD 18 undef = .pointer (some ⟨X4.heap.size, 0, none⟩) := hfr.at 18 (by kernel_rfl)
                              have t18 : a.tmps[18]?.getD undef = .pointer (some ⟨X4.heap.size, 0, none⟩) := by simpa using s18
                              have n18 := HL18.out W hinv
                              rw [if_pos (Flow.wanted_yes 2 false 198 rfl (by kernel_rfl) sg)]
                              clear hfr hdep
                              go_simp
                              exact hK _ _ True.intro hinv (fun d hd => by cases hd; trivial)
                            refine Flow.Steps.cons (fun a W hfr hinv hdep K hK => ?_) ?_
                            · have sg : a.tmps.getD 198 undef = .bool false := hdep 198 (by kernel_rfl)
                              have s23 : a.tmps.getD 23 undef = .int .i64 (t : Int) := hfr.at 23 (by kernel_rfl)
                              have t23 : a.tmps[23]?.getD undef = .int .i64 (t : Int) := by simpa using s23
                              rw [if_pos (Flow.wanted_yes 2 false 198 rfl (by kernel_rfl) sg)]
                              clear hfr hdep
                              go_simp
                              exact hK _ _ True.intro hinv (fun d hd => by cases hd; trivial)
                            refine Flow.Steps.cons (fun a W hfr hinv hdep K hK => ?_) ?_
                            · have sg : a.tmps.getD 198 undef = .bool false := hdep 198 (by kernel_rfl)
                              have s200 : a.tmps.getD 200 undef = .slice (some ⟨gu, 0, none⟩) i cu := hdep 200 (by kernel_rfl)
                              have t200 : a.tmps[200]?.getD undef = .slice (some ⟨gu, 0, none⟩) i cu := by simpa using s200
                              have s201 : a.tmps.getD 201 undef = .int .i64 (t : Int) := hdep 201 (by kernel_rfl)
                              have t201 : a.tmps[201]?.getD undef = .int .i64 (t : Int) := by simpa using s201
                              have htn := HTN.out
                              rw [if_pos (Flow.wanted_yes 2 false 198 rfl (by kernel_rfl) sg)]
                              clear hfr hdep
                              go_simp
                              exact hK _ _ True.intro hinv (fun d hd => by cases hd; trivial)
                            refine Flow.Steps.cons (fun a W hfr hinv hdep K hK => ?_) ?_
                            · have sg : a.tmps.getD 198 undef = .bool false := hdep 198 (by kernel_rfl)
                              have s202 : a.tmps.getD 202 undef = .pointer (some ⟨gu, t * 256, none⟩) := hdep 202 (by kernel_rfl)
                              have t202 : a.tmps[202]?.getD undef = .pointer (some ⟨gu, t * 256, none⟩) := by simpa using s202
                              rw [if_pos (Flow.wanted_yes 2 false 198 rfl (by kernel_rfl) sg)]
                              clear hfr hdep
                              refine wp_load_sec (.tmp 202) rfl (HX202.out W hinv) (by simpa [Act.eval] using s202) ?_
                              exact hK _ _ True.intro hinv (fun d hd => by cases hd; trivial)
                            refine Flow.Steps.cons (fun a W hfr hinv hdep K hK => ?_) ?_
                            · have sg : a.tmps.getD 198 undef = .bool false := hdep 198 (by kernel_rfl)
                              have s199 : a.tmps.getD 199 undef = .agg (sec S) := hdep 199 (by kernel_rfl)
                              have t199 : a.tmps[199]?.getD undef = .agg (sec S) := by simpa using s199
                              have s203 : a.tmps.getD 203 undef = .agg (sec T) := hdep 203 (by kernel_rfl)
                              have t203 : a.tmps[203]?.getD undef = .agg (sec T) := by simpa using s203
                              have hq := eqi_sec
                              rw [if_pos (Flow.wanted_yes 2 false 198 rfl (by kernel_rfl) sg)]
                              clear hfr hdep
                              go_simp
                              exact hK _ _ True.intro hinv (fun d hd => by cases hd; trivial)
                            refine Flow.Steps.cons (fun a W hfr hinv hdep K hK => ?_) ?_
                            · have s198 : a.tmps.getD 198 undef = .bool false := hdep 198 (by kernel_rfl)
                              have t198 : a.tmps[198]?.getD undef = .bool false := by simpa using s198
                              have s204 : a.tmps.getD 204 undef = .bool (!decide (S = T)) := hdep 204 (by kernel_rfl)
                              have t204 : a.tmps[204]?.getD undef = .bool (!decide (S = T)) := by simpa using s204
                              rw [if_pos (Flow.wanted_none rfl)]
                              clear hfr hdep
                              go_simp
                              exact hK _ _ True.intro hinv (fun d hd => by cases hd; trivial)
                            exact True.intro
                          case fin =>
                            intro a W hfr hfin hsl
                            have s205 : a.tmps.getD 205 undef = .bool (!decide (S = T)) := hsl 9 _ 205 rfl rfl
                            have t205 : a.tmps[205]?.getD undef = .bool (!decide (S = T)) := by simpa using s205
                            have e := Flow.frame hfr [196, 197, 198, 199, 200, 201, 202, 203, 204, 205] (List.range 288) (by kernel_rfl) (by kernel_rfl)
                            simp (maxSteps := 2000000) [List.range, List.range.loop] at e
                            rw [t205] at e
                            rw [e]
                            clear e hfr hsl s205 t205
                            rename_i K2 hK2
                            refine hK2 _ _ ?_
                            have hst : decide (S = T) = true := decide_eq_true HTS.out
                            rw [hst]
                            clear hst
                            obtain ⟨Y3, hY3⟩ : ∃ Y3, Y3 = W := ⟨_, rfl⟩
                            subst hY3
                            have HGW := Lib.hid (Gr.trans HG2.out.1 hfin)
                            have HM3 := Lib.hid (HM12.out.grow HGW.out)
                            have HX3 : Hid (∀ W, Gr Y3 W → W.rangeAt gu (t * 256) S.cells) := Lib.hid fun W gr => by rw [HTS.out]; exact HX202.out W (Gr.trans hfin gr)
                            have HL3 : Hid (∀ W, Gr Y3 W → W.cell? ⟨X4.heap.size, 0, none⟩ = some (.slice (some ⟨gu, 0, none⟩) i cu)) := Lib.hid fun W gr => HL18.out W (Gr.trans hfin gr)
                            obtain ⟨P, hP⟩ : ∃ P, P = s.ls.getD t Sec.zero := ⟨_, rfl⟩
                            obtain ⟨Q, hQ⟩ : ∃ Q, Q = s2.ls.getD t Sec.zero := ⟨_, rfl⟩
                            obtain ⟨U, hU⟩ : ∃ U, U = s2.nw t := ⟨_, rfl⟩
                            have HWA : Hid (∀ W, Gr Y3 W → Calls Try.prog 13 #[wp, .int .i64 (t : Int)] W fun e w' => e = .returned (.agg (sec P)) ∧ Gr W w') := Lib.hid fun W gr => by
                              obtain ⟨G, hw, _⟩ := HM3.out.was
                              have h := refRead_any W (hw.gr gr) t (by simp [St.crash, fresh]; have := HSl.out.1; omega)
                              rwa [crash_none s t (by have := HSl.out.1; omega), ← hP] at h
                            have HNO : Hid (∀ W, Gr Y3 W → Calls Try.prog 13 #[np, .int .i64 (t : Int)] W fun e w' => e = .returned (.agg (sec Q)) ∧ Gr W w') := Lib.hid fun W gr => by
                              have h := refRead_any W (HNp.out.gr (Gr.trans HGW.out gr)) t (by simp [St.crash, fresh]; have := HS10.out.1; omega)
                              rwa [crash_none s2 t (by have := HS10.out.1; omega), ← hQ] at h
                            have HRV : Hid (∀ W, Gr Y3 W → Calls Try.prog 13 #[rv, .int .i64 (t : Int)] W fun e w' => e = .returned (.agg (sec U)) ∧ Gr W w') := Lib.hid fun W gr => by
                              obtain ⟨F, G, hp, _⟩ := HM3.out.own
                              rw [hU]
                              exact refRead_any W (hp.rf.gr gr) t (by have := HS10.out.1; omega)
                            obtain ⟨A, hA⟩ : ∃ A, A = alikeTo s s2 t := ⟨_, rfl⟩
                            have HAS : Hid (alikeTo s s2 (t + 1) = (A && (decide (P = Q) && decide (S = U)))) := Lib.hid (by rw [alikeTo_succ, ← hA, ← hP, ← hQ, ← hU, ← HSS.out])
                            clear hfin HX24 HG2 HX202 HL18 HSS HTS hP hQ hU HM3
                            go_wp2_with fail
                            rw [← hA]
                            clear hA
                            cases A
                            · have HR : Hid (alikeTo s s2 (t + 1) = false) := Lib.hid (by rw [HAS.out]; rfl)
                              clear HAS
                              refine Flow.regionG 20 20 (by kernel_rfl) [22] 25 (Sd49a ) (Gr Y3) (Gr Y3) (fun _ => True) (fun _ _ _ => True) (by kernel_rfl) (by kernel_rfl) (by kernel_rfl) (fun _ _ _ _ _ _ h _ => h) ⟨rfl, rfl, rfl, Nat.le_refl _, fun _ _ => rfl⟩ True.intro ?steps ?fin
                              case steps =>
                                refine Flow.StepsG.cons (fun a W hfr hinv hear hdep K hK => ?_) ?_
                                · have s22 : a.tmps.getD 22 undef = .bool false := hfr.at 22 (by kernel_rfl)
                                  have t22 : a.tmps[22]?.getD undef = .bool false := by simpa using s22
                                  rw [if_pos (Flow.wanted_none rfl)]
                                  clear hfr hdep hear
                                  go_simp
                                  exact hK _ _ True.intro hinv (fun _ => True.intro) (fun d hd => by cases hd; first | rfl | trivial)
                                refine Flow.StepsG.cons (fun a W hfr hinv hear hdep K hK => ?_) ?_
                                · have s206 : a.tmps.getD 206 undef = .bool false := hdep 206 (by kernel_rfl)
                                  have t206 : a.tmps[206]?.getD undef = .bool false := by simpa using s206
                                  rw [if_pos (Flow.wanted_none rfl)]
                                  clear hfr hdep hear
                                  go_simp
                                  exact hK _ _ True.intro hinv (fun _ => True.intro) (fun d hd => by cases hd; first | rfl | trivial)
                                refine Flow.StepsG.cons (fun a W hfr hinv hear hdep K hK => ?_) ?_
                                · have sg : a.tmps.getD 207 undef = .bool !true := hdep 207 (by kernel_rfl)
                                  have s17 : a.tmps.getD 17 undef = wp := hfr.at 17 (by kernel_rfl)
                                  have t17 : a.tmps[17]?.getD undef = wp := by simpa using s17
                                  rw [if_neg (Flow.wanted_no 1 true 207 rfl (by kernel_rfl) sg)]
                                  clear hfr hdep
                                  exact hK _ _ True.intro hinv (fun _ => True.intro) (fun d hd => by cases hd; first | rfl | trivial)
                                refine Flow.StepsG.cons (fun a W hfr hinv hear hdep K hK => ?_) ?_
                                · have sg : a.tmps.getD 207 undef = .bool !true := hdep 207 (by kernel_rfl)
                                  have s23 : a.tmps.getD 23 undef = .int .i64 (t : Int) := hfr.at 23 (by kernel_rfl)
                                  have t23 : a.tmps[23]?.getD undef = .int .i64 (t : Int) := by simpa using s23
                                  rw [if_neg (Flow.wanted_no 1 true 207 rfl (by kernel_rfl) sg)]
                                  clear hfr hdep
                                  exact hK _ _ True.intro hinv (fun _ => True.intro) (fun d hd => by cases hd; first | rfl | trivial)
                                refine Flow.StepsG.cons (fun a W hfr hinv hear hdep K hK => ?_) ?_
                                · have sg : a.tmps.getD 207 undef = .bool !true := hdep 207 (by kernel_rfl)
                                  rw [if_neg (Flow.wanted_no 1 true 207 rfl (by kernel_rfl) sg)]
                                  clear hfr hdep
                                  exact hK _ _ True.intro hinv (fun _ => True.intro) (fun d hd => by cases hd; first | rfl | trivial)
                                refine Flow.StepsG.cons (fun a W hfr hinv hear hdep K hK => ?_) ?_
                                · have sg : a.tmps.getD 207 undef = .bool !true := hdep 207 (by kernel_rfl)
                                  have s21 : a.tmps.getD 21 undef = np := hfr.at 21 (by kernel_rfl)
                                  have t21 : a.tmps[21]?.getD undef = np := by simpa using s21
                                  rw [if_neg (Flow.wanted_no 1 true 207 rfl (by kernel_rfl) sg)]
                                  clear hfr hdep
                                  exact hK _ _ True.intro hinv (fun _ => True.intro) (fun d hd => by cases hd; first | rfl | trivial)
                                refine Flow.StepsG.cons (fun a W hfr hinv hear hdep K hK => ?_) ?_
                                · have sg : a.tmps.getD 207 undef = .bool !true := hdep 207 (by kernel_rfl)
                                  have s23 : a.tmps.getD 23 undef = .int .i64 (t : Int) := hfr.at 23 (by kernel_rfl)
                                  have t23 : a.tmps[23]?.getD undef = .int .i64 (t : Int) := by simpa using s23
                                  rw [if_neg (Flow.wanted_no 1 true 207 rfl (by kernel_rfl) sg)]
                                  clear hfr hdep
                                  exact hK _ _ True.intro hinv (fun _ => True.intro) (fun d hd => by cases hd; first | rfl | trivial)
                                refine Flow.StepsG.cons (fun a W hfr hinv hear hdep K hK => ?_) ?_
                                · have sg : a.tmps.getD 207 undef = .bool !true := hdep 207 (by kernel_rfl)
                                  rw [if_neg (Flow.wanted_no 1 true 207 rfl (by kernel_rfl) sg)]
                                  clear hfr hdep
                                  exact hK _ _ True.intro hinv (fun _ => True.intro) (fun d hd => by cases hd; first | rfl | trivial)
                                refine Flow.StepsG.cons (fun a W hfr hinv hear hdep K hK => ?_) ?_
                                · have sg : a.tmps.getD 207 undef = .bool !true := hdep 207 (by kernel_rfl)
                                  rw [if_neg (Flow.wanted_no 1 true 207 rfl (by kernel_rfl) sg)]
                                  clear hfr hdep
                                  exact hK _ _ True.intro hinv (fun _ => True.intro) (fun d hd => by cases hd; first | rfl | trivial)
                                refine Flow.StepsG.cons (fun a W hfr hinv hear hdep K hK => ?_) ?_
                                · have s207 : a.tmps.getD 207 undef = .bool false := hdep 207 (by kernel_rfl)
                                  have t207 : a.tmps[207]?.getD undef = .bool false := by simpa using s207
                                  rw [if_pos (Flow.wanted_none rfl)]
                                  clear hfr hdep hear
                                  go_simp
                                  exact hK _ _ True.intro hinv (fun _ => True.intro) (fun d hd => by cases hd; first | rfl | trivial)
                                refine Flow.StepsG.cons (fun a W hfr hinv hear hdep K hK => ?_) ?_
                                · have s215 : a.tmps.getD 215 undef = .bool false := hdep 215 (by kernel_rfl)
                                  have t215 : a.tmps[215]?.getD undef = .bool false := by simpa using s215
                                  rw [if_pos (Flow.wanted_none rfl)]
                                  clear hfr hdep hear
                                  go_simp
                                  exact hK _ _ True.intro hinv (fun _ => True.intro) (fun d hd => by cases hd; first | rfl | trivial)
                                refine Flow.StepsG.cons (fun a W hfr hinv hear hdep K hK => ?_) ?_
                                · have sg : a.tmps.getD 216 undef = .bool !true := hdep 216 (by kernel_rfl)
                                  have s18 : a.tmps.getD 18 undef = .pointer (some ⟨X4.heap.size, 0, none⟩) := hfr.at 18 (by kernel_rfl)
                                  have t18 : a.tmps[18]?.getD undef = .pointer (some ⟨X4.heap.size, 0, none⟩) := by simpa using s18
                                  rw [if_neg (Flow.wanted_no 10 true 216 rfl (by kernel_rfl) sg)]
                                  clear hfr hdep
                                  exact hK _ _ True.intro hinv (fun _ => True.intro) (fun d hd => by cases hd; first | rfl | trivial)
                                refine Flow.StepsG.cons (fun a W hfr hinv hear hdep K hK => ?_) ?_
                                · have sg : a.tmps.getD 216 undef = .bool !true := hdep 216 (by kernel_rfl)
                                  have s23 : a.tmps.getD 23 undef = .int .i64 (t : Int) := hfr.at 23 (by kernel_rfl)
                                  have t23 : a.tmps[23]?.getD undef = .int .i64 (t : Int) := by simpa using s23
                                  rw [if_neg (Flow.wanted_no 10 true 216 rfl (by kernel_rfl) sg)]
                                  clear hfr hdep
                                  exact hK _ _ True.intro hinv (fun _ => True.intro) (fun d hd => by cases hd; first | rfl | trivial)
                                refine Flow.StepsG.cons (fun a W hfr hinv hear hdep K hK => ?_) ?_
                                · have sg : a.tmps.getD 216 undef = .bool !true := hdep 216 (by kernel_rfl)
                                  rw [if_neg (Flow.wanted_no 10 true 216 rfl (by kernel_rfl) sg)]
                                  clear hfr hdep
                                  exact hK _ _ True.intro hinv (fun _ => True.intro) (fun d hd => by cases hd; first | rfl | trivial)
                                refine Flow.StepsG.cons (fun a W hfr hinv hear hdep K hK => ?_) ?_
                                · have sg : a.tmps.getD 216 undef = .bool !true := hdep 216 (by kernel_rfl)
                                  rw [if_neg (Flow.wanted_no 10 true 216 rfl (by kernel_rfl) sg)]
                                  clear hfr hdep
                                  exact hK _ _ True.intro hinv (fun _ => True.intro) (fun d hd => by cases hd; first | rfl | trivial)
                                refine Flow.StepsG.cons (fun a W hfr hinv hear hdep K hK => ?_) ?_
                                · have sg : a.tmps.getD 216 undef = .bool !true := hdep 216 (by kernel_rfl)
                                  have s12 : a.tmps.getD 12 undef = rv := hfr.at 12 (by kernel_rfl)
                                  have t12 : a.tmps[12]?.getD undef = rv := by simpa using s12
                                  rw [if_neg (Flow.wanted_no 10 true 216 rfl (by kernel_rfl) sg)]
                                  clear hfr hdep
                                  exact hK _ _ True.intro hinv (fun _ => True.intro) (fun d hd => by cases hd; first | rfl | trivial)
                                refine Flow.StepsG.cons (fun a W hfr hinv hear hdep K hK => ?_) ?_
                                · have sg : a.tmps.getD 216 undef = .bool !true := hdep 216 (by kernel_rfl)
                                  have s23 : a.tmps.getD 23 undef = .int .i64 (t : Int) := hfr.at 23 (by kernel_rfl)
                                  have t23 : a.tmps[23]?.getD undef = .int .i64 (t : Int) := by simpa using s23
                                  rw [if_neg (Flow.wanted_no 10 true 216 rfl (by kernel_rfl) sg)]
                                  clear hfr hdep
                                  exact hK _ _ True.intro hinv (fun _ => True.intro) (fun d hd => by cases hd; first | rfl | trivial)
                                refine Flow.StepsG.cons (fun a W hfr hinv hear hdep K hK => ?_) ?_
                                · have sg : a.tmps.getD 216 undef = .bool !true := hdep 216 (by kernel_rfl)
                                  rw [if_neg (Flow.wanted_no 10 true 216 rfl (by kernel_rfl) sg)]
                                  clear hfr hdep
                                  exact hK _ _ True.intro hinv (fun _ => True.intro) (fun d hd => by cases hd; first | rfl | trivial)
                                refine Flow.StepsG.cons (fun a W hfr hinv hear hdep K hK => ?_) ?_
                                · have sg : a.tmps.getD 216 undef = .bool !true := hdep 216 (by kernel_rfl)
                                  rw [if_neg (Flow.wanted_no 10 true 216 rfl (by kernel_rfl) sg)]
                                  clear hfr hdep
                                  exact hK _ _ True.intro hinv (fun _ => True.intro) (fun d hd => by cases hd; first | rfl | trivial)
                                refine Flow.StepsG.cons (fun a W hfr hinv hear hdep K hK => ?_) ?_
                                · have s216 : a.tmps.getD 216 undef = .bool false := hdep 216 (by kernel_rfl)
                                  have t216 : a.tmps[216]?.getD undef = .bool false := by simpa using s216
                                  rw [if_pos (Flow.wanted_none rfl)]
                                  clear hfr hdep hear
                                  go_simp
                                  exact hK _ _ True.intro hinv (fun _ => True.intro) (fun d hd => by cases hd; first | rfl | trivial)
                                refine Flow.StepsG.cons (fun a W hfr hinv hear hdep K hK => ?_) ?_
                                · have s225 : a.tmps.getD 225 undef = .bool false := hdep 225 (by kernel_rfl)
                                  have t225 : a.tmps[225]?.getD undef = .bool false := by simpa using s225
                                  rw [if_pos (Flow.wanted_none rfl)]
                                  clear hfr hdep hear
                                  go_simp
                                  exact hK _ _ True.intro hinv True.intro (fun d hd => by cases hd; first | rfl | trivial)
                                exact True.intro
                              case fin =>
                                intro a W hfr hfin hsl
                                have s22 : a.tmps.getD 22 undef = .bool false := hsl 20 _ 22 rfl rfl (by simp)
                                have t22 : a.tmps[22]?.getD undef = .bool false := by simpa using s22
                                clear hsl s22
                                have e := Flow.frame hfr [22, 206, 207, 208, 209, 210, 211, 212, 213, 214, 215, 216, 217, 218, 219, 220, 221, 222, 223, 224, 225] (List.range 288) (by kernel_rfl) (by kernel_rfl)
                                simp (maxSteps := 2000000) [List.range, List.range.loop] at e
                                rw [t22] at e
                                rw [e]
                                clear e hfr t22
                                first
                                  | (rename_i hB; refine hB _ _ ?_)
                                  | (rename_i hB y0; refine hB _ _ ?_)
                                  | (rename_i hB y0 y1; refine hB _ _ ?_)
                                  | (rename_i hB y0 y1 y2; refine hB _ _ ?_)
                                  | (rename_i hB y0 y1 y2 y3; refine hB _ _ ?_)
                                  | (rename_i hB y0 y1 y2 y3 y4; refine hB _ _ ?_)
                                  | (rename_i hB y0 y1 y2 y3 y4 y5; refine hB _ _ ?_)
                                  | (rename_i hB y0 y1 y2 y3 y4 y5 y6; refine hB _ _ ?_)
                                have HG3 := Lib.hid (Gr.trans HGW.out hfin)
                                clear hfin HX3 HL3 HWA HNO HRV HGW
                                go_wp2_with fail
                                go_roundw
                                case rel => exact ⟨t + 1, by omega, by go_num, by rw [HR.out], HG3⟩
                                case measure => simp [intOf]; omega
                            · by_cases hpq : P = Q
                              · have HPQ : Hid (decide (P = Q) = true) := Lib.hid (decide_eq_true hpq)
                                have HR : Hid (alikeTo s s2 (t + 1) = decide (S = U)) := Lib.hid (by rw [HAS.out, HPQ.out]; simp)
                                clear HAS hpq
                                refine Flow.regionG 20 20 (by kernel_rfl) [22] 25 (Sd49c gu cu i t wp np rv P Q S U) (Gr Y3) (Gr Y3) (fun _ => True) (fun _ _ _ => True) (by kernel_rfl) (by kernel_rfl) (by kernel_rfl) (fun _ _ _ _ _ _ h _ => h) ⟨rfl, rfl, rfl, Nat.le_refl _, fun _ _ => rfl⟩ True.intro ?steps ?fin
                                case steps =>
                                  refine Flow.StepsG.cons (fun a W hfr hinv hear hdep K hK => ?_) ?_
                                  · have s22 : a.tmps.getD 22 undef = .bool true := hfr.at 22 (by kernel_rfl)
                                    have t22 : a.tmps[22]?.getD undef = .bool true := by simpa using s22
                                    rw [if_pos (Flow.wanted_none rfl)]
                                    clear hfr hdep hear
                                    go_simp
                                    exact hK _ _ True.intro hinv (fun _ => True.intro) (fun d hd => by cases hd; first | rfl | trivial)
                                  refine Flow.StepsG.cons (fun a W hfr hinv hear hdep K hK => ?_) ?_
                                  · have s206 : a.tmps.getD 206 undef = .bool true := hdep 206 (by kernel_rfl)
                                    have t206 : a.tmps[206]?.getD undef = .bool true := by simpa using s206
                                    rw [if_pos (Flow.wanted_none rfl)]
                                    clear hfr hdep hear
                                    go_simp
                                    exact hK _ _ True.intro hinv (fun _ => True.intro) (fun d hd => by cases hd; first | rfl | trivial)
                                  refine Flow.StepsG.cons (fun a W hfr hinv hear hdep K hK => ?_) ?_
                                  · have sg : a.tmps.getD 207 undef = .bool true := hdep 207 (by kernel_rfl)
                                    have s17 : a.tmps.getD 17 undef = wp := hfr.at 17 (by kernel_rfl)
                                    have t17 : a.tmps[17]?.getD undef = wp := by simpa using s17
                                    rw [if_pos (Flow.wanted_yes 1 true 207 rfl (by kernel_rfl) sg)]
                                    clear hfr hdep hear
                                    go_simp
                                    exact hK _ _ True.intro hinv (fun _ => True.intro) (fun d hd => by cases hd; first | rfl | trivial)
                                  refine Flow.StepsG.cons (fun a W hfr hinv hear hdep K hK => ?_) ?_
                                  · have sg : a.tmps.getD 207 undef = .bool true := hdep 207 (by kernel_rfl)
                                    have s23 : a.tmps.getD 23 undef = .int .i64 (t : Int) := hfr.at 23 (by kernel_rfl)
                                    have t23 : a.tmps[23]?.getD undef = .int .i64 (t : Int) := by simpa using s23
                                    rw [if_pos (Flow.wanted_yes 1 true 207 rfl (by kernel_rfl) sg)]
                                    clear hfr hdep hear
                                    go_simp
                                    exact hK _ _ True.intro hinv (fun _ => True.intro) (fun d hd => by cases hd; first | rfl | trivial)
                                  refine Flow.StepsG.cons (fun a W hfr hinv hear hdep K hK => ?_) ?_
                                  · have sg : a.tmps.getD 207 undef = .bool true := hdep 207 (by kernel_rfl)
                                    have s208 : a.tmps.getD 208 undef = wp := hdep 208 (by kernel_rfl)
                                    have t208 : a.tmps[208]?.getD undef = wp := by simpa using s208
                                    have s209 : a.tmps.getD 209 undef = .int .i64 (t : Int) := hdep 209 (by kernel_rfl)
                                    have t209 : a.tmps[209]?.getD undef = .int .i64 (t : Int) := by simpa using s209
                                    rw [if_pos (Flow.wanted_yes 1 true 207 rfl (by kernel_rfl) sg)]
                                    clear hfr hdep
                                    go_simp
                                    refine (HWA.out W hinv).mono ?_
                                    rintro e W' ⟨rfl, g1⟩
                                    exact hK _ _ True.intro (Gr.trans hinv g1) (fun _ => True.intro) (fun d hd => by cases hd; rfl)
                                  refine Flow.StepsG.cons (fun a W hfr hinv hear hdep K hK => ?_) ?_
                                  · have sg : a.tmps.getD 207 undef = .bool true := hdep 207 (by kernel_rfl)
                                    have s21 : a.tmps.getD 21 undef = np := hfr.at 21 (by kernel_rfl)
                                    have t21 : a.tmps[21]?.getD undef = np := by simpa using s21
                                    rw [if_pos (Flow.wanted_yes 1 true 207 rfl (by kernel_rfl) sg)]
                                    clear hfr hdep hear
                                    go_simp
                                    exact hK _ _ True.intro hinv (fun _ => True.intro) (fun d hd => by cases hd; first | rfl | trivial)
                                  refine Flow.StepsG.cons (fun a W hfr hinv hear hdep K hK => ?_) ?_
                                  · have sg : a.tmps.getD 207 undef = .bool true := hdep 207 (by kernel_rfl)
                                    have s23 : a.tmps.getD 23 undef = .int .i64 (t : Int) := hfr.at 23 (by kernel_rfl)
                                    have t23 : a.tmps[23]?.getD undef = .int .i64 (t : Int) := by simpa using s23
                                    rw [if_pos (Flow.wanted_yes 1 true 207 rfl (by kernel_rfl) sg)]
                                    clear hfr hdep hear
                                    go_simp
                                    exact hK _ _ True.intro hinv (fun _ => True.intro) (fun d hd => by cases hd; first | rfl | trivial)
                                  refine Flow.StepsG.cons (fun a W hfr hinv hear hdep K hK => ?_) ?_
                                  · have sg : a.tmps.getD 207 undef = .bool true := hdep 207 (by kernel_rfl)
                                    have s211 : a.tmps.getD 211 undef = np := hdep 211 (by kernel_rfl)
                                    have t211 : a.tmps[211]?.getD undef = np := by simpa using s211
                                    have s212 : a.tmps.getD 212 undef = .int .i64 (t : Int) := hdep 212 (by kernel_rfl)
                                    have t212 : a.tmps[212]?.getD undef = .int .i64 (t : Int) := by simpa using s212
                                    rw [if_pos (Flow.wanted_yes 1 true 207 rfl (by kernel_rfl) sg)]
                                    clear hfr hdep
                                    go_simp
                                    refine (HNO.out W hinv).mono ?_
                                    rintro e W' ⟨rfl, g1⟩
                                    exact hK _ _ True.intro (Gr.trans hinv g1) (fun _ => True.intro) (fun d hd => by cases hd; rfl)
                                  refine Flow.StepsG.cons (fun a W hfr hinv hear hdep K hK => ?_) ?_
                                  · have sg : a.tmps.getD 207 undef = .bool true := hdep 207 (by kernel_rfl)
                                    have s210 : a.tmps.getD 210 undef = .agg (sec P) := hdep 210 (by kernel_rfl)
                                    have t210 : a.tmps[210]?.getD undef = .agg (sec P) := by simpa using s210
                                    have s213 : a.tmps.getD 213 undef = .agg (sec Q) := hdep 213 (by kernel_rfl)
                                    have t213 : a.tmps[213]?.getD undef = .agg (sec Q) := by simpa using s213
                                    have hq := eqi_sec
                                    have hd := HPQ.out
                                    rw [if_pos (Flow.wanted_yes 1 true 207 rfl (by kernel_rfl) sg)]
                                    clear hfr hdep hear
                                    go_simp
                                    exact hK _ _ True.intro hinv (fun _ => True.intro) (fun d hd => by cases hd; first | rfl | trivial)
                                  refine Flow.StepsG.cons (fun a W hfr hinv hear hdep K hK => ?_) ?_
                                  · have s207 : a.tmps.getD 207 undef = .bool true := hdep 207 (by kernel_rfl)
                                    have t207 : a.tmps[207]?.getD undef = .bool true := by simpa using s207
                                    have s214 : a.tmps.getD 214 undef = .bool true := hdep 214 (by kernel_rfl)
                                    have t214 : a.tmps[214]?.getD undef = .bool true := by simpa using s214
                                    rw [if_pos (Flow.wanted_none rfl)]
                                    clear hfr hdep hear
                                    go_simp
                                    exact hK _ _ True.intro hinv (fun _ => True.intro) (fun d hd => by cases hd; first | rfl | trivial)
                                  refine Flow.StepsG.cons (fun a W hfr hinv hear hdep K hK => ?_) ?_
                                  · have s215 : a.tmps.getD 215 undef = .bool true := hdep 215 (by kernel_rfl)
                                    have t215 : a.tmps[215]?.getD undef = .bool true := by simpa using s215
                                    rw [if_pos (Flow.wanted_none rfl)]
                                    clear hfr hdep hear
                                    go_simp
                                    exact hK _ _ True.intro hinv (fun _ => True.intro) (fun d hd => by cases hd; first | rfl | trivial)
                                  refine Flow.StepsG.cons (fun a W hfr hinv hear hdep K hK => ?_) ?_
                                  · have sg : a.tmps.getD 216 undef = .bool true := hdep 216 (by kernel_rfl)
                                    have s18 : a.tmps.getD 18 undef = .pointer (some ⟨X4.heap.size, 0, none⟩) := hfr.at 18 (by kernel_rfl)
                                    have t18 : a.tmps[18]?.getD undef = .pointer (some ⟨X4.heap.size, 0, none⟩) := by simpa using s18
                                    have n18 := HL3.out W hinv
                                    rw [if_pos (Flow.wanted_yes 10 true 216 rfl (by kernel_rfl) sg)]
                                    clear hfr hdep hear
                                    go_simp
                                    exact hK _ _ True.intro hinv (fun _ => True.intro) (fun d hd => by cases hd; first | rfl | trivial)
                                  refine Flow.StepsG.cons (fun a W hfr hinv hear hdep K hK => ?_) ?_
                                  · have sg : a.tmps.getD 216 undef = .bool true := hdep 216 (by kernel_rfl)
                                    have s23 : a.tmps.getD 23 undef = .int .i64 (t : Int) := hfr.at 23 (by kernel_rfl)
                                    have t23 : a.tmps[23]?.getD undef = .int .i64 (t : Int) := by simpa using s23
                                    rw [if_pos (Flow.wanted_yes 10 true 216 rfl (by kernel_rfl) sg)]
                                    clear hfr hdep hear
                                    go_simp
                                    exact hK _ _ True.intro hinv (fun _ => True.intro) (fun d hd => by cases hd; first | rfl | trivial)
                                  refine Flow.StepsG.cons (fun a W hfr hinv hear hdep K hK => ?_) ?_
                                  · have sg : a.tmps.getD 216 undef = .bool true := hdep 216 (by kernel_rfl)
                                    have s217 : a.tmps.getD 217 undef = .slice (some ⟨gu, 0, none⟩) i cu := hdep 217 (by kernel_rfl)
                                    have t217 : a.tmps[217]?.getD undef = .slice (some ⟨gu, 0, none⟩) i cu := by simpa using s217
                                    have s218 : a.tmps.getD 218 undef = .int .i64 (t : Int) := hdep 218 (by kernel_rfl)
                                    have t218 : a.tmps[218]?.getD undef = .int .i64 (t : Int) := by simpa using s218
                                    have htn := HTN.out
                                    rw [if_pos (Flow.wanted_yes 10 true 216 rfl (by kernel_rfl) sg)]
                                    clear hfr hdep hear
                                    go_simp
                                    exact hK _ _ True.intro hinv (fun _ => True.intro) (fun d hd => by cases hd; first | rfl | trivial)
                                  refine Flow.StepsG.cons (fun a W hfr hinv hear hdep K hK => ?_) ?_
                                  · have sg : a.tmps.getD 216 undef = .bool true := hdep 216 (by kernel_rfl)
                                    have s219 : a.tmps.getD 219 undef = .pointer (some ⟨gu, t * 256, none⟩) := hdep 219 (by kernel_rfl)
                                    have t219 : a.tmps[219]?.getD undef = .pointer (some ⟨gu, t * 256, none⟩) := by simpa using s219
                                    rw [if_pos (Flow.wanted_yes 10 true 216 rfl (by kernel_rfl) sg)]
                                    clear hfr hdep
                                    refine wp_load_sec (.tmp 219) rfl (HX3.out W hinv) (by simpa [Act.eval] using s219) ?_
                                    exact hK _ _ True.intro hinv (fun _ => True.intro) (fun d hd => by cases hd; first | rfl | trivial)
                                  refine Flow.StepsG.cons (fun a W hfr hinv hear hdep K hK => ?_) ?_
                                  · have sg : a.tmps.getD 216 undef = .bool true := hdep 216 (by kernel_rfl)
                                    have s12 : a.tmps.getD 12 undef = rv := hfr.at 12 (by kernel_rfl)
                                    have t12 : a.tmps[12]?.getD undef = rv := by simpa using s12
                                    rw [if_pos (Flow.wanted_yes 10 true 216 rfl (by kernel_rfl) sg)]
                                    clear hfr hdep hear
                                    go_simp
                                    exact hK _ _ True.intro hinv (fun _ => True.intro) (fun d hd => by cases hd; first | rfl | trivial)
                                  refine Flow.StepsG.cons (fun a W hfr hinv hear hdep K hK => ?_) ?_
                                  · have sg : a.tmps.getD 216 undef = .bool true := hdep 216 (by kernel_rfl)
                                    have s23 : a.tmps.getD 23 undef = .int .i64 (t : Int) := hfr.at 23 (by kernel_rfl)
                                    have t23 : a.tmps[23]?.getD undef = .int .i64 (t : Int) := by simpa using s23
                                    rw [if_pos (Flow.wanted_yes 10 true 216 rfl (by kernel_rfl) sg)]
                                    clear hfr hdep hear
                                    go_simp
                                    exact hK _ _ True.intro hinv (fun _ => True.intro) (fun d hd => by cases hd; first | rfl | trivial)
                                  refine Flow.StepsG.cons (fun a W hfr hinv hear hdep K hK => ?_) ?_
                                  · have sg : a.tmps.getD 216 undef = .bool true := hdep 216 (by kernel_rfl)
                                    have s221 : a.tmps.getD 221 undef = rv := hdep 221 (by kernel_rfl)
                                    have t221 : a.tmps[221]?.getD undef = rv := by simpa using s221
                                    have s222 : a.tmps.getD 222 undef = .int .i64 (t : Int) := hdep 222 (by kernel_rfl)
                                    have t222 : a.tmps[222]?.getD undef = .int .i64 (t : Int) := by simpa using s222
                                    rw [if_pos (Flow.wanted_yes 10 true 216 rfl (by kernel_rfl) sg)]
                                    clear hfr hdep
                                    go_simp
                                    refine (HRV.out W hinv).mono ?_
                                    rintro e W' ⟨rfl, g1⟩
                                    exact hK _ _ True.intro (Gr.trans hinv g1) (fun _ => True.intro) (fun d hd => by cases hd; rfl)
                                  refine Flow.StepsG.cons (fun a W hfr hinv hear hdep K hK => ?_) ?_
                                  · have sg : a.tmps.getD 216 undef = .bool true := hdep 216 (by kernel_rfl)
                                    have s220 : a.tmps.getD 220 undef = .agg (sec S) := hdep 220 (by kernel_rfl)
                                    have t220 : a.tmps[220]?.getD undef = .agg (sec S) := by simpa using s220
                                    have s223 : a.tmps.getD 223 undef = .agg (sec U) := hdep 223 (by kernel_rfl)
                                    have t223 : a.tmps[223]?.getD undef = .agg (sec U) := by simpa using s223
                                    have hq := eqi_sec
                                    rw [if_pos (Flow.wanted_yes 10 true 216 rfl (by kernel_rfl) sg)]
                                    clear hfr hdep hear
                                    go_simp
                                    exact hK _ _ True.intro hinv (fun _ => True.intro) (fun d hd => by cases hd; first | rfl | trivial)
                                  refine Flow.StepsG.cons (fun a W hfr hinv hear hdep K hK => ?_) ?_
                                  · have s216 : a.tmps.getD 216 undef = .bool true := hdep 216 (by kernel_rfl)
                                    have t216 : a.tmps[216]?.getD undef = .bool true := by simpa using s216
                                    have s224 : a.tmps.getD 224 undef = .bool (decide (S = U)) := hdep 224 (by kernel_rfl)
                                    have t224 : a.tmps[224]?.getD undef = .bool (decide (S = U)) := by simpa using s224
                                    rw [if_pos (Flow.wanted_none rfl)]
                                    clear hfr hdep hear
                                    go_simp
                                    exact hK _ _ True.intro hinv (fun _ => True.intro) (fun d hd => by cases hd; first | rfl | trivial)
                                  refine Flow.StepsG.cons (fun a W hfr hinv hear hdep K hK => ?_) ?_
                                  · have s225 : a.tmps.getD 225 undef = .bool (decide (S = U)) := hdep 225 (by kernel_rfl)
                                    have t225 : a.tmps[225]?.getD undef = .bool (decide (S = U)) := by simpa using s225
                                    rw [if_pos (Flow.wanted_none rfl)]
                                    clear hfr hdep hear
                                    go_simp
                                    exact hK _ _ True.intro hinv True.intro (fun d hd => by cases hd; first | rfl | trivial)
                                  exact True.intro
                                case fin =>
                                  intro a W hfr hfin hsl
                                  have s22 : a.tmps.getD 22 undef = .bool (decide (S = U)) := hsl 20 _ 22 rfl rfl (by simp)
                                  have t22 : a.tmps[22]?.getD undef = .bool (decide (S = U)) := by simpa using s22
                                  clear hsl s22
                                  have e := Flow.frame hfr [22, 206, 207, 208, 209, 210, 211, 212, 213, 214, 215, 216, 217, 218, 219, 220, 221, 222, 223, 224, 225] (List.range 288) (by kernel_rfl) (by kernel_rfl)
                                  simp (maxSteps := 2000000) [List.range, List.range.loop] at e
                                  rw [t22] at e
                                  rw [e]
                                  clear e hfr t22
                                  first
                                    | (rename_i hB; refine hB _ _ ?_)
                                    | (rename_i hB y0; refine hB _ _ ?_)
                                    | (rename_i hB y0 y1; refine hB _ _ ?_)
                                    | (rename_i hB y0 y1 y2; refine hB _ _ ?_)
                                    | (rename_i hB y0 y1 y2 y3; refine hB _ _ ?_)
                                    | (rename_i hB y0 y1 y2 y3 y4; refine hB _ _ ?_)
                                    | (rename_i hB y0 y1 y2 y3 y4 y5; refine hB _ _ ?_)
                                    | (rename_i hB y0 y1 y2 y3 y4 y5 y6; refine hB _ _ ?_)
                                  have HG3 := Lib.hid (Gr.trans HGW.out hfin)
                                  clear hfin HX3 HL3 HWA HNO HRV HGW HPQ
                                  rw [← HR.out]
                                  go_wp2_with fail
                                  go_roundw
                                  case rel => exact ⟨t + 1, by omega, by go_num, rfl, HG3⟩
                                  case measure => simp [intOf]; omega
                              · have HPQ : Hid (decide (P = Q) = false) := Lib.hid (decide_eq_false hpq)
                                have HR : Hid (alikeTo s s2 (t + 1) = false) := Lib.hid (by rw [HAS.out, HPQ.out]; simp)
                                clear HAS hpq
                                refine Flow.regionG 20 20 (by kernel_rfl) [22] 25 (Sd49b t wp np P Q) (Gr Y3) (Gr Y3) (fun _ => True) (fun _ _ _ => True) (by kernel_rfl) (by kernel_rfl) (by kernel_rfl) (fun _ _ _ _ _ _ h _ => h) ⟨rfl, rfl, rfl, Nat.le_refl _, fun _ _ => rfl⟩ True.intro ?steps ?fin
                                case steps =>
                                  refine Flow.StepsG.cons (fun a W hfr hinv hear hdep K hK => ?_) ?_
                                  · have s22 : a.tmps.getD 22 undef = .bool true := hfr.at 22 (by kernel_rfl)
                                    have t22 : a.tmps[22]?.getD undef = .bool true := by simpa using s22
                                    rw [if_pos (Flow.wanted_none rfl)]
                                    clear hfr hdep hear
                                    go_simp
                                    exact hK _ _ True.intro hinv (fun _ => True.intro) (fun d hd => by cases hd; first | rfl | trivial)
                                  refine Flow.StepsG.cons (fun a W hfr hinv hear hdep K hK => ?_) ?_
                                  · have s206 : a.tmps.getD 206 undef = .bool true := hdep 206 (by kernel_rfl)
                                    have t206 : a.tmps[206]?.getD undef = .bool true := by simpa using s206
                                    rw [if_pos (Flow.wanted_none rfl)]
                                    clear hfr hdep hear
                                    go_simp
                                    exact hK _ _ True.intro hinv (fun _ => True.intro) (fun d hd => by cases hd; first | rfl | trivial)
                                  refine Flow.StepsG.cons (fun a W hfr hinv hear hdep K hK => ?_) ?_
                                  · have sg : a.tmps.getD 207 undef = .bool true := hdep 207 (by kernel_rfl)
                                    have s17 : a.tmps.getD 17 undef = wp := hfr.at 17 (by kernel_rfl)
                                    have t17 : a.tmps[17]?.getD undef = wp := by simpa using s17
                                    rw [if_pos (Flow.wanted_yes 1 true 207 rfl (by kernel_rfl) sg)]
                                    clear hfr hdep hear
                                    go_simp
                                    exact hK _ _ True.intro hinv (fun _ => True.intro) (fun d hd => by cases hd; first | rfl | trivial)
                                  refine Flow.StepsG.cons (fun a W hfr hinv hear hdep K hK => ?_) ?_
                                  · have sg : a.tmps.getD 207 undef = .bool true := hdep 207 (by kernel_rfl)
                                    have s23 : a.tmps.getD 23 undef = .int .i64 (t : Int) := hfr.at 23 (by kernel_rfl)
                                    have t23 : a.tmps[23]?.getD undef = .int .i64 (t : Int) := by simpa using s23
                                    rw [if_pos (Flow.wanted_yes 1 true 207 rfl (by kernel_rfl) sg)]
                                    clear hfr hdep hear
                                    go_simp
                                    exact hK _ _ True.intro hinv (fun _ => True.intro) (fun d hd => by cases hd; first | rfl | trivial)
                                  refine Flow.StepsG.cons (fun a W hfr hinv hear hdep K hK => ?_) ?_
                                  · have sg : a.tmps.getD 207 undef = .bool true := hdep 207 (by kernel_rfl)
                                    have s208 : a.tmps.getD 208 undef = wp := hdep 208 (by kernel_rfl)
                                    have t208 : a.tmps[208]?.getD undef = wp := by simpa using s208
                                    have s209 : a.tmps.getD 209 undef = .int .i64 (t : Int) := hdep 209 (by kernel_rfl)
                                    have t209 : a.tmps[209]?.getD undef = .int .i64 (t : Int) := by simpa using s209
                                    rw [if_pos (Flow.wanted_yes 1 true 207 rfl (by kernel_rfl) sg)]
                                    clear hfr hdep
                                    go_simp
                                    refine (HWA.out W hinv).mono ?_
                                    rintro e W' ⟨rfl, g1⟩
                                    exact hK _ _ True.intro (Gr.trans hinv g1) (fun _ => True.intro) (fun d hd => by cases hd; rfl)
                                  refine Flow.StepsG.cons (fun a W hfr hinv hear hdep K hK => ?_) ?_
                                  · have sg : a.tmps.getD 207 undef = .bool true := hdep 207 (by kernel_rfl)
                                    have s21 : a.tmps.getD 21 undef = np := hfr.at 21 (by kernel_rfl)
                                    have t21 : a.tmps[21]?.getD undef = np := by simpa using s21
                                    rw [if_pos (Flow.wanted_yes 1 true 207 rfl (by kernel_rfl) sg)]
                                    clear hfr hdep hear
                                    go_simp
                                    exact hK _ _ True.intro hinv (fun _ => True.intro) (fun d hd => by cases hd; first | rfl | trivial)
                                  refine Flow.StepsG.cons (fun a W hfr hinv hear hdep K hK => ?_) ?_
                                  · have sg : a.tmps.getD 207 undef = .bool true := hdep 207 (by kernel_rfl)
                                    have s23 : a.tmps.getD 23 undef = .int .i64 (t : Int) := hfr.at 23 (by kernel_rfl)
                                    have t23 : a.tmps[23]?.getD undef = .int .i64 (t : Int) := by simpa using s23
                                    rw [if_pos (Flow.wanted_yes 1 true 207 rfl (by kernel_rfl) sg)]
                                    clear hfr hdep hear
                                    go_simp
                                    exact hK _ _ True.intro hinv (fun _ => True.intro) (fun d hd => by cases hd; first | rfl | trivial)
                                  refine Flow.StepsG.cons (fun a W hfr hinv hear hdep K hK => ?_) ?_
                                  · have sg : a.tmps.getD 207 undef = .bool true := hdep 207 (by kernel_rfl)
                                    have s211 : a.tmps.getD 211 undef = np := hdep 211 (by kernel_rfl)
                                    have t211 : a.tmps[211]?.getD undef = np := by simpa using s211
                                    have s212 : a.tmps.getD 212 undef = .int .i64 (t : Int) := hdep 212 (by kernel_rfl)
                                    have t212 : a.tmps[212]?.getD undef = .int .i64 (t : Int) := by simpa using s212
                                    rw [if_pos (Flow.wanted_yes 1 true 207 rfl (by kernel_rfl) sg)]
                                    clear hfr hdep
                                    go_simp
                                    refine (HNO.out W hinv).mono ?_
                                    rintro e W' ⟨rfl, g1⟩
                                    exact hK _ _ True.intro (Gr.trans hinv g1) (fun _ => True.intro) (fun d hd => by cases hd; rfl)
                                  refine Flow.StepsG.cons (fun a W hfr hinv hear hdep K hK => ?_) ?_
                                  · have sg : a.tmps.getD 207 undef = .bool true := hdep 207 (by kernel_rfl)
                                    have s210 : a.tmps.getD 210 undef = .agg (sec P) := hdep 210 (by kernel_rfl)
                                    have t210 : a.tmps[210]?.getD undef = .agg (sec P) := by simpa using s210
                                    have s213 : a.tmps.getD 213 undef = .agg (sec Q) := hdep 213 (by kernel_rfl)
                                    have t213 : a.tmps[213]?.getD undef = .agg (sec Q) := by simpa using s213
                                    have hq := eqi_sec
                                    have hd := HPQ.out
                                    rw [if_pos (Flow.wanted_yes 1 true 207 rfl (by kernel_rfl) sg)]
                                    clear hfr hdep hear
                                    go_simp
                                    exact hK _ _ True.intro hinv (fun _ => True.intro) (fun d hd => by cases hd; first | rfl | trivial)
                                  refine Flow.StepsG.cons (fun a W hfr hinv hear hdep K hK => ?_) ?_
                                  · have s207 : a.tmps.getD 207 undef = .bool true := hdep 207 (by kernel_rfl)
                                    have t207 : a.tmps[207]?.getD undef = .bool true := by simpa using s207
                                    have s214 : a.tmps.getD 214 undef = .bool false := hdep 214 (by kernel_rfl)
                                    have t214 : a.tmps[214]?.getD undef = .bool false := by simpa using s214
                                    rw [if_pos (Flow.wanted_none rfl)]
                                    clear hfr hdep hear
                                    go_simp
                                    exact hK _ _ True.intro hinv (fun _ => True.intro) (fun d hd => by cases hd; first | rfl | trivial)
                                  refine Flow.StepsG.cons (fun a W hfr hinv hear hdep K hK => ?_) ?_
                                  · have s215 : a.tmps.getD 215 undef = .bool false := hdep 215 (by kernel_rfl)
                                    have t215 : a.tmps[215]?.getD undef = .bool false := by simpa using s215
                                    rw [if_pos (Flow.wanted_none rfl)]
                                    clear hfr hdep hear
                                    go_simp
                                    exact hK _ _ True.intro hinv (fun _ => True.intro) (fun d hd => by cases hd; first | rfl | trivial)
                                  refine Flow.StepsG.cons (fun a W hfr hinv hear hdep K hK => ?_) ?_
                                  · have sg : a.tmps.getD 216 undef = .bool !true := hdep 216 (by kernel_rfl)
                                    have s18 : a.tmps.getD 18 undef = .pointer (some ⟨X4.heap.size, 0, none⟩) := hfr.at 18 (by kernel_rfl)
                                    have t18 : a.tmps[18]?.getD undef = .pointer (some ⟨X4.heap.size, 0, none⟩) := by simpa using s18
                                    rw [if_neg (Flow.wanted_no 10 true 216 rfl (by kernel_rfl) sg)]
                                    clear hfr hdep
                                    exact hK _ _ True.intro hinv (fun _ => True.intro) (fun d hd => by cases hd; first | rfl | trivial)
                                  refine Flow.StepsG.cons (fun a W hfr hinv hear hdep K hK => ?_) ?_
                                  · have sg : a.tmps.getD 216 undef = .bool !true := hdep 216 (by kernel_rfl)
                                    have s23 : a.tmps.getD 23 undef = .int .i64 (t : Int) := hfr.at 23 (by kernel_rfl)
                                    have t23 : a.tmps[23]?.getD undef = .int .i64 (t : Int) := by simpa using s23
                                    rw [if_neg (Flow.wanted_no 10 true 216 rfl (by kernel_rfl) sg)]
                                    clear hfr hdep
                                    exact hK _ _ True.intro hinv (fun _ => True.intro) (fun d hd => by cases hd; first | rfl | trivial)
                                  refine Flow.StepsG.cons (fun a W hfr hinv hear hdep K hK => ?_) ?_
                                  · have sg : a.tmps.getD 216 undef = .bool !true := hdep 216 (by kernel_rfl)
                                    rw [if_neg (Flow.wanted_no 10 true 216 rfl (by kernel_rfl) sg)]
                                    clear hfr hdep
                                    exact hK _ _ True.intro hinv (fun _ => True.intro) (fun d hd => by cases hd; first | rfl | trivial)
                                  refine Flow.StepsG.cons (fun a W hfr hinv hear hdep K hK => ?_) ?_
                                  · have sg : a.tmps.getD 216 undef = .bool !true := hdep 216 (by kernel_rfl)
                                    rw [if_neg (Flow.wanted_no 10 true 216 rfl (by kernel_rfl) sg)]
                                    clear hfr hdep
                                    exact hK _ _ True.intro hinv (fun _ => True.intro) (fun d hd => by cases hd; first | rfl | trivial)
                                  refine Flow.StepsG.cons (fun a W hfr hinv hear hdep K hK => ?_) ?_
                                  · have sg : a.tmps.getD 216 undef = .bool !true := hdep 216 (by kernel_rfl)
                                    have s12 : a.tmps.getD 12 undef = rv := hfr.at 12 (by kernel_rfl)
                                    have t12 : a.tmps[12]?.getD undef = rv := by simpa using s12
                                    rw [if_neg (Flow.wanted_no 10 true 216 rfl (by kernel_rfl) sg)]
                                    clear hfr hdep
                                    exact hK _ _ True.intro hinv (fun _ => True.intro) (fun d hd => by cases hd; first | rfl | trivial)
                                  refine Flow.StepsG.cons (fun a W hfr hinv hear hdep K hK => ?_) ?_
                                  · have sg : a.tmps.getD 216 undef = .bool !true := hdep 216 (by kernel_rfl)
                                    have s23 : a.tmps.getD 23 undef = .int .i64 (t : Int) := hfr.at 23 (by kernel_rfl)
                                    have t23 : a.tmps[23]?.getD undef = .int .i64 (t : Int) := by simpa using s23
                                    rw [if_neg (Flow.wanted_no 10 true 216 rfl (by kernel_rfl) sg)]
                                    clear hfr hdep
                                    exact hK _ _ True.intro hinv (fun _ => True.intro) (fun d hd => by cases hd; first | rfl | trivial)
                                  refine Flow.StepsG.cons (fun a W hfr hinv hear hdep K hK => ?_) ?_
                                  · have sg : a.tmps.getD 216 undef = .bool !true := hdep 216 (by kernel_rfl)
                                    rw [if_neg (Flow.wanted_no 10 true 216 rfl (by kernel_rfl) sg)]
                                    clear hfr hdep
                                    exact hK _ _ True.intro hinv (fun _ => True.intro) (fun d hd => by cases hd; first | rfl | trivial)
                                  refine Flow.StepsG.cons (fun a W hfr hinv hear hdep K hK => ?_) ?_
                                  · have sg : a.tmps.getD 216 undef = .bool !true := hdep 216 (by kernel_rfl)
                                    rw [if_neg (Flow.wanted_no 10 true 216 rfl (by kernel_rfl) sg)]
                                    clear hfr hdep
                                    exact hK _ _ True.intro hinv (fun _ => True.intro) (fun d hd => by cases hd; first | rfl | trivial)
                                  refine Flow.StepsG.cons (fun a W hfr hinv hear hdep K hK => ?_) ?_
                                  · have s216 : a.tmps.getD 216 undef = .bool false := hdep 216 (by kernel_rfl)
                                    have t216 : a.tmps[216]?.getD undef = .bool false := by simpa using s216
                                    rw [if_pos (Flow.wanted_none rfl)]
                                    clear hfr hdep hear
                                    go_simp
                                    exact hK _ _ True.intro hinv (fun _ => True.intro) (fun d hd => by cases hd; first | rfl | trivial)
                                  refine Flow.StepsG.cons (fun a W hfr hinv hear hdep K hK => ?_) ?_
                                  · have s225 : a.tmps.getD 225 undef = .bool false := hdep 225 (by kernel_rfl)
                                    have t225 : a.tmps[225]?.getD undef = .bool false := by simpa using s225
                                    rw [if_pos (Flow.wanted_none rfl)]
                                    clear hfr hdep hear
                                    go_simp
                                    exact hK _ _ True.intro hinv True.intro (fun d hd => by cases hd; first | rfl | trivial)
                                  exact True.intro
                                case fin =>
                                  intro a W hfr hfin hsl
                                  have s22 : a.tmps.getD 22 undef = .bool false := hsl 20 _ 22 rfl rfl (by simp)
                                  have t22 : a.tmps[22]?.getD undef = .bool false := by simpa using s22
                                  clear hsl s22
                                  have e := Flow.frame hfr [22, 206, 207, 208, 209, 210, 211, 212, 213, 214, 215, 216, 217, 218, 219, 220, 221, 222, 223, 224, 225] (List.range 288) (by kernel_rfl) (by kernel_rfl)
                                  simp (maxSteps := 2000000) [List.range, List.range.loop] at e
                                  rw [t22] at e
                                  rw [e]
                                  clear e hfr t22
                                  first
                                    | (rename_i hB; refine hB _ _ ?_)
                                    | (rename_i hB y0; refine hB _ _ ?_)
                                    | (rename_i hB y0 y1; refine hB _ _ ?_)
                                    | (rename_i hB y0 y1 y2; refine hB _ _ ?_)
                                    | (rename_i hB y0 y1 y2 y3; refine hB _ _ ?_)
                                    | (rename_i hB y0 y1 y2 y3 y4; refine hB _ _ ?_)
                                    | (rename_i hB y0 y1 y2 y3 y4 y5; refine hB _ _ ?_)
                                    | (rename_i hB y0 y1 y2 y3 y4 y5 y6; refine hB _ _ ?_)
                                  have HG3 := Lib.hid (Gr.trans HGW.out hfin)
                                  clear hfin HX3 HL3 HWA HNO HRV HGW HPQ
                                  go_wp2_with fail
                                  go_roundw
                                  case rel => exact ⟨t + 1, by omega, by go_num, by rw [HR.out], HG3⟩
                                  case measure => simp [intOf]; omega
                        · obtain rfl : t = i := by omega
                          have HG13 := Lib.hid hg.out
                          clear hg
                          go_wp2_with fail
                          have HSm : Hid (Calls Try.prog 14 #[.pointer (some ⟨cb, 0, none⟩), dv] wr fun e w' => e = .returned (.bool (alikeTo s s2 t)) ∧ Gr wr w') := Lib.hid (by
                            obtain ⟨Fq, hq, _⟩ := (HM12.out.grow HG13.out).cp
                            obtain ⟨F, G, hp, _⟩ := (HM12.out.grow HG13.out).own
                            have hl : s.ls.length = s2.ls.length := by have := HSl.out.1; have := HS10.out.1; omega
                            have h := Same_any wr hq hp.dk hl
                            rwa [← alikeTo_same hl, HSl.out.1] at h)
                          refine HSm.out.mono ?_
                          rintro e X14 ⟨rfl, g14⟩
                          have HM14 := Lib.hid (HM12.out.grow (Gr.trans HG13.out g14))
                          have HU14 : Hid (Blk X14 X4.heap.size TL #[.slice (some ⟨gu, 0, none⟩) t cu] ∧ Row X14 (.slice (some ⟨gu, 0, none⟩) t cu) ((List.range t).map s.nw)) := Lib.hid ⟨HU.out.1.gr (Gr.trans HG13.out g14), HU.out.2.gr (Gr.trans HG13.out g14)⟩
                          obtain ⟨A, hA⟩ : ∃ A, A = alikeTo s s2 t := ⟨_, rfl⟩
                          rw [← hA]
                          clear hA c0 g14 HSm HG13 HU HNp HM12 ht
                          obtain ⟨X15, hX15⟩ : ∃ X15, X15 = X14.alloc (.cells #[.int .i64 0] 3) := ⟨_, rfl⟩
                          have HX15 := Lib.hid hX15
                          have H15 : Hid (Blk X15 X14.heap.size TI #[.int .i64 0] ∧ Gr X14 X15 ∧ X14.heap.size < X15.heap.size) := Lib.hid (by rw [hX15]; exact ⟨Blk.new _ _ _, Gr.new _ _, by simp⟩)
                          clear hX15
                          go_wp2_with fail
                          try rw [← HX15.out]
                          clear HX15
                          have HM15 := Lib.hid (HM14.out.grow H15.out.2.1)
                          have HBd : Hid (Blk X15 Bd TPD #[.pointer (some ⟨ab, 0, none⟩)] ∧ DkAt X15 Fa ab alv am aL s) := Lib.hid ⟨HM15.out.bd.1, HM15.out.al.1⟩
                          have hN1 : t ≤ 40 := by have := HSl.out.1; omega
                          have HLn : Hid (s.ls.length = t) := Lib.hid HSl.out.1
                          have HAp : Hid (∀ k, (Fa k ∨ k = Bd ∨ X15.heap.size ≤ k) → k ≠ X14.heap.size) := Lib.hid fun k hk => by
                            have h0 := HM14.out.low
                            have h1 := H15.out.2.2
                            rcases hk with h | h | h
                            · have := (HM14.out.al.2 k h).2; omega
                            · have := HM14.out.bd.2.2; omega
                            · omega
                          have HF0 : Hid (FinA w X4.heap.size gu t cu X14.heap.size s false 0 X15) := Lib.hid
                            ⟨HM15.out.gr, HM15.out.res, HU14.out.1.gr H15.out.2.1, HU14.out.2.gr H15.out.2.1, H15.out.1, by
                              have h0 := HM14.out.low
                              have h1 := HM14.out.rb
                              have h2 := HU14.out.2.lt gu rfl
                              obtain ⟨u, hu1, hu2, hu3⟩ := HM14.out.rd
                              have e := hu1.symm.trans HU14.out.1
                              simp at e
                              have h4 := hu3 gu (by rw [e]; rfl)
                              omega⟩
                          have HSz : Hid (w.heap.size ≤ X15.heap.size) := Lib.hid HM15.out.gr.size
                          clear HM15 HM14 HU14 H15 HSl HS10 HA2b HM
                          have hge : 0 ≤ t := Nat.zero_le _
                          go_wp2_with fail
                          refine (wpIn_wide (n := 12)).1 ?_
                          refine apart_range w X15 X4.heap.size gu t cu X14.heap.size s Bd Fa ab alv am aL HBd.out.1 HBd.out.2 HLn.out hN1 HAp.out HF0.out ?_
                          intro D k3 V hD hf hk3 hnz hKD
                          have HF16 : Hid (FinA w X4.heap.size gu t cu X14.heap.size s false k3 V ∧ V.heap[D]? = some (.deferred (some [])) ∧ X14.heap.size < D ∧ w.heap.size ≤ D) := Lib.hid ⟨hf, hKD, by have := HF0.out.cell.lt; omega, Nat.le_trans HSz.out hD⟩
                          have HNZ := Lib.hid hnz
                          clear hf hKD hnz hD HF0 HAp HBd
                          go_wp2_with fail
                          go_loopw [270] (fun _ wr => ∃ j : Nat, k3 ≤ j ∧ j ≤ t ∧ Hid (FinA w X4.heap.size gu t cu X14.heap.size s false j wr ∧ wr.heap[D]? = some (.deferred (some [])))) (fun _ wr => t - (intOf ((wr.cell? ⟨X14.heap.size, 0, none⟩).getD undef)).toNat)
                          case atStart => exact ⟨k3, Nat.le_refl _, hk3, Lib.hid ⟨HF16.out.1, HF16.out.2.1⟩⟩
                          case round =>
                            obtain ⟨j3, hj1, hj2, hf⟩ := hrel
                            have n26 := hf.out.1.cell.cell 0
                            have f26 := hf.out.1.cell.frozen 0
                            have n18 := hf.out.1.rd.cell 0
                            simp at n26 n18
                            by_cases hlt : j3 < t
                            · have hq := eqi_sec
                              have hz := zero_sec
                              have hlie := hf.out.1.row.lies j3 (by simp; exact hlt)
                              obtain ⟨T, hT⟩ : ∃ T, T = ((List.range t).map s.nw)[j3]'(by simp; exact hlt) := ⟨_, rfl⟩
                              rw [← hT] at hlie
                              have HLI := Lib.hid hlie
                              have hd : decide (T = Sec.zero) = true := decide_eq_true (by rw [hT]; simp; exact HNZ.out j3 hj1 hlt)
                              clear hT hlie
                              go_wp2_with (refine wpList_load_sec rfl (.tmp 275) rfl HLI.out rfl ?_)
                              have HF9 : Hid (FinA w X4.heap.size gu t cu X14.heap.size s false (j3 + 1) (wr.setCell ⟨X14.heap.size, 0, none⟩ (.int .i64 ((j3 : Int) + 1))) ∧ (wr.setCell ⟨X14.heap.size, 0, none⟩ (.int .i64 ((j3 : Int) + 1))).heap[D]? = some (.deferred (some []))) := Lib.hid ⟨hf.out.1.step _ (by omega), (heap_setCell_other wr ⟨X14.heap.size, 0, none⟩ D _ (by show D ≠ X14.heap.size; have := HF16.out.2.2.1; omega)).trans hf.out.2⟩
                              have HC9 := HF9.out.1.cell.cell 0
                              simp at HC9
                              go_roundw
                              case rel => exact ⟨j3 + 1, by omega, by omega, HF9⟩
                              case measure => rw [n26, HC9]; simp [intOf]; omega
                            · go_wp2_with fail
                              refine (Of_none wr).mono ?_
                              rintro e W20 ⟨rfl, rfl⟩
                              go_wp2_with fail
                              refine (known_any wr).mono ?_
                              rintro e W21 ⟨rfl, g21⟩
                              have HF21 := Lib.hid (hf.out.1.up g21)
                              have HD21 : Hid (W21.heap[D]? = some (.deferred (some []))) := Lib.hid ((g21.block D (Array.getElem?_eq_some_iff.1 hf.out.2).1).trans hf.out.2)
                              have f6 := HF21.out.res.frozen 0
                              have n6 := HF21.out.res.cell 0
                              simp at n6
                              clear g21 n26 f26 n18 hf
                              go_wp2_with fail
                              have hDr : D ≠ w.heap.size := by have := HF16.out.2.2.1; have := HF21.out.ne; omega
                              have HF22 := HF21.out.tell true
                              have hK2 : (W21.setCell ⟨w.heap.size, 0, none⟩ (.bool true)).heap[D]? = some (.deferred (some [])) := (heap_setCell_other W21 ⟨w.heap.size, 0, none⟩ D _ hDr).trans HD21.out
                              have HF23 := HF22.over HF16.out.2.2.2 hK2
                              refine ⟨by simp, .inl ⟨_, _, rfl, run_takeDeferred hK2, ?_⟩⟩
                              exact ⟨_, results_cell_one rfl Try.isAgg4 _ _ ⟨w.heap.size, 0, none⟩ (.bool true) rfl (HF23.res.cell 0), rfl, HF23.gr⟩

end Go.Proofs.Ytkoalabacfjgbaa
