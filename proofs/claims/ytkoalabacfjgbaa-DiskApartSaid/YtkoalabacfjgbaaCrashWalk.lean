
import Derived.Test.YtkoalabacfjgbaaCrash
namespace Go.Proofs.Ytkoalabacfjgbaa
open Go.RowKit Go.Maps

theorem St.loose_small {s : St} (h : s.Ok) : ∀ x ∈ s.loose, x < 65536 := fun x hx => by
  have := (St.mem_loose.1 hx).1
  have := h.most
  omega
theorem St.loose_len (s : St) : s.loose.length ≤ s.ls.length := by
  unfold St.loose
  have := List.length_filter_le (fun i => !(s.t i).isEmpty) (List.range s.ls.length)
  rwa [List.length_range] at this

theorem Nums.stays {w w' : World} {p : Option Addr} {n c : Nat} {zs : List Int} (h : Nums w p n c zs) (g : ∀ a, p = some a → 0 < n → w'.heap[a.block]? = w.heap[a.block]?) : Nums w' p n c zs :=
  ⟨h.len, h.most, fun hn => by
    obtain ⟨b, o, e, hc⟩ := h.lies hn
    exact ⟨b, o, e, fun i hi => (World.cell?_of_block (a := ⟨b, o + i, none⟩) (show w'.heap[b]? = w.heap[b]? from g _ e hn)).trans (hc i hi)⟩, h.ok⟩
theorem Nums.lt {w : World} {p : Option Addr} {n c : Nat} {zs : List Int} (h : Nums w p n c zs) {a : Addr} (e : p = some a) (hn : 0 < n) : a.block < w.heap.size := by
  obtain ⟨b, o, e2, hc⟩ := h.lies hn
  rw [e] at e2
  cases e2
  exact World.block_lt_of_cell? w _ (hc 0 hn)
theorem wpList_store_at {ops : Array Oper} {rest : List Oper} {op : Oper} {a : Act} {w : World} {Q : Exit → Act → World → Prop} (hgd : op.guard = none) (x y : Operand) (ho : op.op = .store TS x y)
    {b o : Nat} {s : Sec} (ht : w.there b o 256) (hx : a.eval x = .pointer (some ⟨b, o, none⟩)) (hy : a.eval y = .agg (sec s))
    (h : wpList Try.prog ops Q rest (a.put op.dst undef) (w.setCells b o s.cells)) : wpList Try.prog ops Q (op :: rest) a w :=
  wpList_store_mid hgd TS x y ho b o (sec s) hx hy (by rw [sec_size]; exact ht) (by rw [sec_size]; exact size_sec) (sec_one s) h
theorem u64_wrap_nat (z : Int) : IntKind.u64.wrap z = ((z % 18446744073709551616).toNat : Int) := by
  rw [IntKind.wrap_u64]
  omega
theorem grown_setCells (w : World) (g o : Nat) (vs : List Value) : w.grownBy (w.setCells g o vs) (some g) := by
  obtain ⟨h1, h2, h3, h4⟩ := setCells_os g vs o w
  exact ⟨h1, h2, h3, by rw [h4]; exact Nat.le_refl _, fun k _ hk => heap_setCells_other g vs o w k (fun e => hk (by rw [e]))⟩

set_option maxRecDepth 100000 in
set_option maxHeartbeats 4000000 in
theorem Crash_any {F : Nat → Prop} {p : Value} {s : St} (w : World) (h : Dk w F p s) (hw : s.writes ≤ 1000000000) (q : Option Addr) (n c : Nat) (zs : List Int) (hz : Nums w q n c zs) : Calls Try.prog 18 #[p, .slice q n c] w fun e w' => NewDk w w' e (s.crash zs) := by
  obtain ⟨b, lv, m, L, rfl, h⟩ := h
  have HM := Lib.hid (missing_no w h)
  have HD := Lib.hid h
  obtain ⟨h0, h1, h2, h3, h4⟩ := h.cells
  have hne : s.ls ≠ [] := fun e => by have := h.ok.pos; rw [e] at this; simp at this
  have HC := Lib.hid (Clone_any w lv s.ls h.ls hne (by have := h.ok.most; omega))
  have HZ := Lib.hid hz
  have HW := Lib.hid (show s.writes ≤ 1000000000 from hw)
  have hn63 := hz.most
  have HLow : Hid (∀ k, F k → k < w.heap.size) := Lib.hid h.low
  clear h h1 h2 h3 h4 hne hz hw
  go_enter Try.func18, Try.ntmps18
  go_wp2_with fail
  refine HM.out.mono ?_
  rintro e w1 ⟨rfl, rfl⟩
  go_wp2_with fail
  refine HC.out.mono ?_
  rintro e w1 ⟨v, rfl, hr, hf, hg⟩
  have HD1 := Lib.hid (HD.out.gr hg)
  have HR := Lib.hid hr
  have HF := Lib.hid hf
  have HG := Lib.hid hg
  clear hr hf hg h0 HC
  go_wp2_with fail
  refine (Loose_any w1 ⟨_, _, _, _, rfl, HD1.out⟩ HW.out).mono ?_
  rintro e w2 ⟨lo, rfl, hi, hg⟩
  obtain ⟨p2, c2, rfl, hfar, hnums⟩ := Ints.nums hi (St.loose_small HD1.out.ok)
  have HD2 := Lib.hid (HD1.out.gr hg)
  have HR2 := Lib.hid (HR.out.gr hg)
  have HG2 := Lib.hid (Gr.trans HG.out hg)
  have HI := Lib.hid hnums
  have HZ2 := Lib.hid ((HZ.out.gr HG.out).gr hg)
  obtain ⟨K, hK⟩ : ∃ K, K = s.loose.length := ⟨_, rfl⟩
  have hKs : K ≤ 65536 := by rw [hK]; have := s.loose_len; have := HD1.out.ok.most; omega
  rw [← hK] at HI
  have HK := Lib.hid hK
  obtain ⟨gv, cv, hv, hgv, _⟩ := HR.out.full (fun e => by have := HD1.out.ok.pos; rw [e] at this; simp at this)
  have hgb : w.heap.size ≤ gv := HF.out gv (by rw [hv]; rfl)
  have HFar : Hid (∀ a, p2 = some a → a.block ≠ gv) := Lib.hid fun a ha e => by
    subst ha
    have := (hfar a.block rfl).1
    have := HR.out.lt gv (by rw [hv]; rfl)
    omega
  have HQ : Hid (∀ a, q = some a → 0 < n → a.block ≠ gv) := Lib.hid fun a ha hn e => by
    have := HZ.out.lt ha hn
    omega
  have hgl : gv < w2.heap.size := by have := hg.size; omega
  rw [← hK]
  obtain ⟨N, hN⟩ : ∃ N, N = s.ls.length := ⟨_, rfl⟩
  rw [← hN] at hv
  have HN := Lib.hid hN
  subst hv
  clear hi hfar hnums hg hK hN HD1 HR HG HZ HD HM hgv HF
  go_wp2_with fail
  go_loopw [21] (fun i wr => ∃ k : Nat, k ≤ K ∧ i = .int .i64 k ∧ Hid (Row wr (.slice (some ⟨gv, 0, none⟩) N cv) (s.upto zs k)) ∧ Hid (w2.grownBy wr (some gv))) (fun i _ => K - (intOf i).toNat)
  case atStart => exact ⟨0, Nat.zero_le _, rfl, HR2.out, World.grownBy.refl _ _⟩
  case round =>
    obtain ⟨k, hk, rfl, hrow, hgr⟩ := hrel
    by_cases hlt : k < K
    · have hDr := HD2.out.stays (fun j hj => hgr.out.block j (HD2.out.low j hj) (fun e => by cases e; have := HLow.out gv hj; omega)) hgr.out.size
      obtain ⟨b2, o2, rfl, hc2⟩ := (HI.out.stays (w' := wr) (fun a ha hn => hgr.out.block _ (HI.out.lt ha hn) (fun e => HFar.out a ha (by cases e; rfl)))).lies (by omega)
      have hkk : k < s.loose.length := by rw [← HK.out]; exact hlt
      obtain ⟨i, hi⟩ : ∃ i, s.loose[k]? = some i := ⟨_, List.getElem?_eq_getElem hkk⟩
      have hci := hc2 k hlt
      have ei : (s.loose.map fun (x : Nat) => (x : Int)).getD k 0 = (i : Int) := by simp [List.getD, hi]
      rw [ei] at hci
      obtain ⟨hrank, hiN, hti⟩ := St.loose_at hi
      have hi6 : i < 65536 := by have := hDr.ok.most; omega
      have hlk := hDr.map.look i hiN hDr.ok.most
      obtain ⟨gi, ci, eL, _⟩ := (hDr.rows i).full hti
      have hri := hDr.rows i
      obtain ⟨M, hM⟩ : ∃ M, M = (s.t i).length := ⟨_, rfl⟩
      have hM2 : M ≤ 1000000000 := by have := hDr.ok.less i; have := HW.out; omega
      rw [eL, ← hM] at hri hlk
      obtain ⟨_, hb1, _⟩ := hDr.cells
      have HRi := Lib.hid hri
      have HII := Lib.hid hi
      clear hi
      have HMM := Lib.hid hM
      have HRow := hrow
      have HGr := hgr
      clear hDr hc2 ei hrank hti eL hri hM hrow hgr hkk
      have HLk := Lib.hid hlk
      have HB1 := Lib.hid hb1
      have HI6 := Lib.hid hi6
      obtain ⟨P, hP⟩ : ∃ P, P = pickAt zs k := ⟨_, rfl⟩
      have HP := Lib.hid hP
      have hPlt : (P : Int) < 18446744073709551616 := by have := pickAt_lt zs k; omega
      have HPlt := Lib.hid hPlt
      clear hlk hb1 hPlt
      go_upto_if 29 with fail
      go_cut [8] (fun s8 wc => s8 = .int .u64 (P : Int) ∧ wr = wc)
      case first =>
        by_cases hp : k < n
        · obtain ⟨b3, o3, rfl, hc3⟩ := (HZ2.out.stays (w' := wr) (fun a ha hn => HGr.out.block _ (HZ2.out.lt ha hn) (fun e => HQ.out a ha hn (by cases e; rfl)))).lies (by omega)
          have hcz := hc3 k hp
          have hlz := HZ2.out.len
          have HV : Hid (IntKind.u64.wrap (zs[k]?.getD 0) = (P : Int)) := Lib.hid (by
            rw [hP, u64_wrap_nat]
            unfold pickAt
            rw [if_pos (by omega)]
            rfl)
          clear hc3 hP hlz
          have hv := HV.out
          clear HV
          rw [show decide (k < n) = true from decide_eq_true hp]
          go_wp2
          go_meet
          exact ⟨rfl, rfl⟩
        · have hP0 : P = 0 := by
            rw [hP]
            unfold pickAt
            rw [if_neg (by have := HZ2.out.len; omega)]
          have HP0 := Lib.hid hP0
          clear hP hP0
          rw [show decide (k < n) = false from decide_eq_false hp]
          clear hp
          go_wp2
          go_meet
          exact ⟨by rw [HP0.out]; rfl, rfl⟩
      case rest =>
        obtain ⟨rfl, rfl⟩ := hcut
        have hlk := HLk.out
        have hb1 := HB1.out
        have hPlt := HPlt.out
        obtain ⟨Q, hQ⟩ : ∃ Q, P % (M + 1) = Q := ⟨_, rfl⟩
        have hQi : (P : Int) % ((M : Int) + 1) = (Q : Int) := by rw [← hQ]; rfl
        have hQM : Q < M + 1 := by rw [← hQ]; exact Nat.mod_lt _ (by omega)
        have HQm := Lib.hid hQ
        clear hP hQ HLk HB1
        cases Q with
        | zero =>
          have HU : Hid (s.upto zs (k + 1) = s.upto zs k) := Lib.hid (St.upto_same HII.out (by rw [← HP.out, ← HMM.out]; exact HQm.out))
          have hQ0 : (P : Int) % ((M : Int) + 1) = 0 := hQi
          clear hQi hQM
          go_wp2
          go_roundw
          case rel => exact ⟨k + 1, by omega, by go_num, by rw [HU.out]; exact HRow, HGr⟩
          case measure => simp [intOf]; omega
        | succ r =>
          have hrM : r < (s.t i).length := by rw [← HMM.out]; omega
          have HL := Lib.hid (HRi.out.lies r hrM)
          have HE : Hid ((s.t i)[r] = s.chosen zs i) := Lib.hid (St.chosen_some HII.out (by rw [← HP.out, ← HMM.out]; exact HQm.out) hrM)
          rw [HE.out] at HL
          have hiL : i < (s.upto zs k).length := by rw [s.upto_len]; exact hiN
          have HT := Lib.hid (HRow.out.there i hiL)
          have HU : Hid (s.upto zs (k + 1) = (s.upto zs k).set i (s.chosen zs i)) := Lib.hid (St.upto_succ HII.out)
          have HNew := Lib.hid (HRow.out.put i hiL (s.chosen zs i))
          have HGr2 : Hid (w2.grownBy (wr.setCells gv (i * 256) (s.chosen zs i).cells) (some gv)) := Lib.hid (HGr.out.trans (grown_setCells _ _ _ _))
          have hiN2 : i < N := by rw [HN.out]; exact hiN
          have hrM2 : r < M := by omega
          clear hiN hiL hrM HE
          go_wp2_with (first | (refine wpList_load_sec rfl _ rfl HL.out rfl ?_) | (refine wpList_store_at rfl _ _ rfl HT.out rfl rfl ?_))
          go_roundw
          case rel => exact ⟨k + 1, by omega, by go_num, by rw [HU.out]; exact HNew.out, HGr2.out⟩
          case measure => simp [intOf]; omega
    · obtain rfl : k = K := by omega
      rw [HK.out, s.upto_all] at hrow
      have hlen : ((List.range s.ls.length).map (s.chosen zs)).length = s.ls.length := by simp
      have HC := Lib.hid (lasting_any wr _ _ hrow.out (by rw [hlen]; exact HD2.out.ok.pos) (by rw [hlen]; exact HD2.out.ok.most))
      have HB : Hid (Gr w wr) := Lib.hid (HG2.out.grown hgr.out HG2.out.size (fun j e => by cases e; exact hgb))
      clear hrow hlen hgr
      go_wp2_with fail
      refine HC.out.mono ?_
      rintro e w3 ⟨p, rfl, hd, hg⟩
      have HD3 := Lib.hid hd
      have HG3 := Lib.hid (Gr.trans HB.out hg)
      have hsz := HB.out.size
      clear hd hg
      go_wp2_with fail
      go_ret
      refine ⟨_, _, rfl, HD3.out, HG3.out, ?_⟩
      rintro j (hj | ⟨hj, _⟩)
      · cases hj; exact hgb
      · omega

end Go.Proofs.Ytkoalabacfjgbaa
