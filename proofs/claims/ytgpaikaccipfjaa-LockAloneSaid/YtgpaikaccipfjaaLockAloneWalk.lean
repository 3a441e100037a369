
/-
  The law LockAlone, walked.
-/
import Derived.Test.YtgpaikaccipfjaaLk39
import Derived.Test.YtgpaikaccipfjaaLkInv
import Derived.Test.YtgpaikaccipfjaaLk32
import Derived.Test.YtgpaikaccipfjaaLkOpen
import Derived.Deep.RegionHeld3
import Derived.IntWalk
namespace Go.Proofs.Ytgpaikaccipfjaa
open Go.RowKit Go.Maps

abbrev TBe : TypeId := 54
/-- What the law's own map has. -/
def bestF (T : Tb) (o : Nat) (k : Key) : Option Value := if k ∈ (T.of o).ks then some (.int .i64 (T.lkOf k).mode) else none
theorem best_look (T : Tb) (o : Nat) (k : Key) : (bestF T o k).getD (.int .i64 0) = .int .i64 (T.hold o k) := by
  unfold bestF Tb.hold
  split <;> rfl
theorem best_store {T T' : Tb} {o : Nat} {k : Key} {v : Int} (h1 : (T'.of o).ks = putK k (T.of o).ks) (h2 : T'.hold o k = v) (h3 : ∀ k', k' ≠ k → T'.hold o k' = T.hold o k') : updF (bestF T o) k (some (.int .i64 v)) = bestF T' o := by
  funext k'
  by_cases e : k' = k
  · subst e
    rw [updF_same]
    unfold bestF
    have hm : k' ∈ (T'.of o).ks := by rw [h1]; exact mem_putK.2 (.inl rfl)
    rw [if_pos hm, ← h2]
    unfold Tb.hold
    rw [if_pos hm]
  · rw [updF_other _ _ e]
    have h4 := h3 k' e
    unfold Tb.hold at h4
    unfold bestF
    have hm : k' ∈ (T'.of o).ks ↔ k' ∈ (T.of o).ks := by rw [h1, mem_putK]; simp [e]
    by_cases e2 : k' ∈ (T.of o).ks
    · rw [if_pos e2, if_pos (hm.2 e2)]
      rw [if_pos e2, if_pos (hm.2 e2)] at h4
      rw [h4]
    · rw [if_neg e2, if_neg fun e3 => e2 (hm.1 e3)]
theorem best_len {P : Program} {K : KK Key} {w : World} {m : Nat} {T : Tb} {o : Nat} {bk : List Key} (h : Mp P K w m (bestF T o) bk) (hn : (T.of o).ks.Nodup) : bk.length = (T.of o).ks.length := by
  have hm : ∀ k, k ∈ bk ↔ k ∈ (T.of o).ks := fun k => by
    rw [h.mem]
    unfold bestF
    split <;> simp_all
  exact Nat.le_antisymm (nodup_le _ _ h.nodup fun k hk => (hm k).1 hk) (nodup_le _ _ hn fun k hk => (hm k).2 hk)
/-- How it stands so many acts in. -/
structure AlAt (w0 w : World) (t km om bm o j : Nat) (B : Tag → Option Nat) (T : Tb) (bk : List Key) : Prop where
  tb : TbAt w t km om B T
  al : Alone T o j
  mp : Mp Try.prog KL w bm (bestF T o) bk
  fb : ¬ FB B bm
  fw : ∀ n, FB B n → w0.heap.size ≤ n
  gr : Gr w0 w
  ge : w0.heap.size ≤ bm
theorem AlAt.more {w0 w w' : World} {t km om bm o j : Nat} {B : Tag → Option Nat} {T : Tb} {bk : List Key} (h : AlAt w0 w t km om bm o j B T bk) (g : Gr w w') : AlAt w0 w' t km om bm o j B T bk :=
  ⟨h.tb.gr g, h.al, h.mp.stays (g.block bm h.mp.lt), h.fb, h.fw, Gr.trans h.gr g, h.ge⟩
theorem AlAt.step {w0 w : World} {t km om bm o j : Nat} {B : Tag → Option Nat} {T : Tb} {bk : List Key} (h : AlAt w0 w t km om bm o j B T bk) : AlAt w0 w t km om bm o (j + 1) B T bk := { h with al := h.al.more }
/-- It has asked, the law's own map is not yet turned. -/
structure AlMid (w0 w : World) (t km om bm o : Nat) (B : Tag → Option Nat) (T' T : Tb) (bk : List Key) : Prop where
  tb : TbAt w t km om B T'
  mp : Mp Try.prog KL w bm (bestF T o) bk
  fb : ¬ FB B bm
  fw : ∀ n, FB B n → w0.heap.size ≤ n
  gr : Gr w0 w
  ge : w0.heap.size ≤ bm
section
variable {w0 w : World} {t km om bm o j : Nat} {B : Tag → Option Nat} {T T' : Tb} {bk : List Key}
theorem AlAt.asked (h : AlAt w0 w t km om bm o j B T bk) {w5 : World} {B5 : Tag → Option Nat} (r : TbAt w5 t km om B5 T') (n : Tn w.drew w5 B B5) : AlMid w0 w5 t km om bm o B5 T' T bk := by
  have h1 := h.more (Gr.refl w).drew
  obtain ⟨a, b⟩ := n.from0 h1.gr h1.fw
  exact ⟨r, h1.mp.stays (n.onl.block bm h1.mp.lt h1.fb), n.far h1.mp.lt h1.fb, b, a, h.ge⟩
theorem best_run {V : World} (h : Mp Try.prog KL V bm (bestF T o) bk) {k : Key} (hk : KL.dom k) : (Instr.lookup TBe (.map (some bm)) (kv k) false).run Try.prog V = .ok (.int .i64 (T.hold o k)) V := by
  have := h.look KL_ok (t := TBe) Try.underlying54 (Try.zeroValue30 V) hk
  rw [show KL.val k = kv k from rfl] at this
  rw [this, best_look]
theorem AlMid.stored (h : AlMid w0 w t km om bm o B T' T bk) (ha : (T.of o).ks.Nodup) (hn : (T.of o).ks.length ≤ 1000) (al : Alone T' o j) {k : Key} (hk : KL.dom k) {M : Int} (h1 : (T'.of o).ks = putK k (T.of o).ks) (h2 : T'.hold o k = max (T.hold o k) M) (h3 : ∀ k', k' ≠ k → T'.hold o k' = T.hold o k') :
    ∃ w6, (Instr.mapUpdate TBe (.map (some bm)) (kv k) (.int .i64 (max (T.hold o k) M))).run Try.prog w.drew = .ok () w6 ∧ AlAt w0 w6 t km om bm o j B T' (putK k bk) := by
  have hl := best_len h.mp ha
  obtain ⟨w6, hrun, hM, hG⟩ := (show Mp Try.prog KL w.drew bm (bestF T o) bk from h.mp).store KL_ok (by rw [hl]; show (T.of o).ks.length < 9223372036854775807; omega) (t := TBe) Try.underlying54 hk (.int .i64 (max (T.hold o k) M))
  rw [show KL.val k = kv k from rfl] at hrun
  refine ⟨w6, hrun, (h.tb.gr (Gr.refl w).drew).row hG (fun m e => by cases e; exact h.fb), al, ?_, h.fb, h.fw, ?_, h.ge⟩
  · rwa [best_store h1 h2 h3] at hM
  · have g := h.gr
    have hge := h.ge
    exact ⟨hG.os.trans g.os, hG.tape.trans g.tape, hG.output.trans g.output, Nat.le_trans g.size hG.size, fun n hn => (hG.block n (Nat.lt_of_lt_of_le hn g.size) (fun e => by cases e; omega)).trans (g.block n hn)⟩
theorem AlAt.len (h : AlAt w0 w t km om bm o j B T bk) (ty : TypeId) : (Builtin.len_ #[TBe] ty #[.map (some bm)]).run Try.prog w = .ok (.int .i64 T.many) w := by
  rw [h.mp.len KL_ok Try.underlying54 ty, best_len h.mp h.al.nd, h.al.many]
end
set_option maxRecDepth 100000 in
set_option maxHeartbeats 8000000 in
theorem lockAlone_walk (p : Option Addr) (n c : Nat) (f : Nat → LAct) (o : Nat) (w : World) (hl : LActs w p n c f) (ho : KO.dom o) :
    Calls Try.prog 6 #[.slice p n c, .int .u64 (o : Int)] w fun e w' => e = .returned (.bool true) ∧ Gr w w' := by
  have HL := Lib.hid (And.intro hl ho)
  have hnm : n ≤ maxLen := Nat.le_trans hl.cap hl.most
  unfold maxLen at hnm
  clear hl ho
  go_enter Try.func6, Try.ntmps6
  by_cases hbig : 60 < n
  · have g1 : (60 : Int) < (n : Int) := by omega
    go_wp2_with fail
    refine (known10_any w).mono ?_
    rintro e w1 ⟨rfl, g⟩
    have HG := Lib.hid g
    clear g
    go_wp2_with fail
    go_ret
    exact ⟨rfl, HG.out⟩
  · have g1 : ¬ (60 : Int) < (n : Int) := by omega
    have hn60 : n ≤ 60 := by omega
    go_wp2_with fail
    refine (New_any w).mono ?_
    rintro e w1 ⟨t, km, om, B0, rfl, t1, gr1, f1⟩
    have H1 := Lib.hid (And.intro t1 (And.intro gr1 f1))
    clear t1 gr1 f1
    have hmm := @run_makeMap Try.prog
    obtain ⟨bm, hbm⟩ : ∃ bm, bm = w1.heap.size := ⟨_, rfl⟩
    have HA : Hid (AlAt w (w1.alloc (.map #[] 0)) t km om bm o 0 B0 Tb.new []) := Lib.hid (by
      obtain ⟨t1, gr1, f1⟩ := H1.out
      have g2 : Gr w1 (w1.alloc (.map #[] 0)) := (Gr.refl w1).alloc (Nat.le_refl _) _
      refine ⟨t1.gr g2, alone_new o, ?_, fun ⟨a, ha⟩ => by have := t1.lt a bm ha; omega, f1, Gr.trans gr1 g2, by rw [hbm]; exact gr1.size⟩
      have : bestF Tb.new o = fun _ => none := by
        funext k
        rfl
      rw [this, hbm]
      exact Mp.made w1)
    obtain ⟨W2, hW2⟩ : ∃ W2, W2 = w1.alloc (.map #[] 0) := ⟨_, rfl⟩
    rw [← hW2] at HA
    have HW2 := Lib.hid (And.intro hW2 hbm)
    clear hW2 hbm H1
    go_upto_region 7 with fail
    rw [← HW2.out.2, show w1.alloc (.map #[] 0) = W2 from HW2.out.1.symm]
    clear hmm
    go_wp2_with fail
    go_loopw [7] (fun i wr => ∃ j : Nat, i = .int .i64 (j : Int) ∧ j ≤ n ∧ Hid (∃ B T bk, AlAt w wr t km om bm o j B T bk)) (fun i _ => n - (intOf i).toNat)
    case atStart => exact ⟨0, rfl, Nat.zero_le _, Lib.hid ⟨_, _, _, HA.out⟩⟩
    case round =>
      obtain ⟨j, rfl, hj, HR⟩ := hrel
      by_cases hlt : j < n
      · have g3 : (j : Int) < (n : Int) := by omega
        obtain ⟨B, T, bk, hAl⟩ := HR.out
        obtain ⟨pb, off, rfl, hin, hrow⟩ := HL.out.1.row j hlt
        obtain ⟨a, ha⟩ : ∃ a, a = f j := ⟨_, rfl⟩
        obtain ⟨A, hA⟩ : ∃ A, A = off + j * 5 := ⟨_, rfl⟩
        rw [← ha] at hin
        rw [← ha, ← hA] at hrow
        have hA' : off + j * 5 = A := hA.symm
        obtain ⟨k, hk⟩ : ∃ k, k = a.k := ⟨_, rfl⟩
        obtain ⟨K1, hK1⟩ : ∃ x, x = k.1 := ⟨_, rfl⟩
        obtain ⟨K2, hK2⟩ : ∃ x, x = k.2 := ⟨_, rfl⟩
        obtain ⟨M, hM⟩ : ∃ x, x = a.m := ⟨_, rfl⟩
        have hkd : KL.dom k := by rw [hk]; exact hin.k
        have hkv : kv k = .agg #[.int .i64 K1, .int .i64 K2] := by rw [hK1, hK2]; rfl
        have HRow : Hid (∀ V, Gr w V → V.cell? ⟨pb, A + 2, none⟩ = some (.int .i64 K1) ∧ V.cell? ⟨pb, A + 2 + 1, none⟩ = some (.int .i64 K2) ∧ V.cell? ⟨pb, A + 4, none⟩ = some (.int .i64 M)) := Lib.hid fun V g => by
          rw [hK1, hK2, hM, hk]
          exact ⟨hrow V g 2 _ rfl, hrow V g 3 _ rfl, hrow V g 4 _ rfl⟩
        have hq : IntKind.i64.wrap ((j : Int) + 1) = ((j + 1 : Nat) : Int) := by rw [IntWalk.i64_in _ (by omega)]; omega
        have HMe : Hid (j + 1 ≤ n ∧ n - (j + 1) < n - j) := Lib.hid ⟨by omega, by omega⟩
        obtain ⟨x2, x3, x4⟩ := HRow.out wr hAl.gr
        have HAl := Lib.hid hAl
        have HK := Lib.hid (And.intro hkd hkv)
        have hj60 : j ≤ 60 := by omega
        clear hrow hA ha hin hAl hkd hkv hk hK1 hK2 hM HR hj
        by_cases hm : M = 1 ∨ M = 2
        · have HT := Lib.hid (ask_alone ((HAl.out.tb).gr (Gr.refl wr).drew) HAl.out.al (by omega) HL.out.2 HK.out.1 hm)
          rw [HK.out.2] at HT
          clear hj60
          obtain ⟨T', hAsk, al', hks, hho, hot⟩ := HT.out
          have HAsk := Lib.hid hAsk
          have HT' := Lib.hid (And.intro al' (And.intro hks (And.intro hho hot)))
          clear hAsk al' hks hho hot HT
          have he : (M != 1) = false ∨ (M != 1) = true ∧ (M != 2) = false := by
            rcases hm with rfl | rfl
            · exact .inl rfl
            · exact .inr ⟨rfl, rfl⟩
          clear hm
          obtain ⟨H, hH⟩ : ∃ H, H = T.hold o k := ⟨_, rfl⟩
          obtain ⟨H', hH'⟩ : ∃ H, H = T'.hold o k := ⟨_, rfl⟩
          obtain ⟨N', hN'⟩ : ∃ N, N = T'.many := ⟨_, rfl⟩
          have HHH := Lib.hid (And.intro hH (And.intro hH' hN'))
          clear hH hH' hN'
          rcases he with e1 | ⟨e1, e2⟩
          all_goals
            go_upto_region 11 with fail
            go_region_held3 (fun V => V.cell? ⟨pb, A + 2, none⟩ = some (.int .i64 K1) ∧ V.cell? ⟨pb, A + 2 + 1, none⟩ = some (.int .i64 K2) ∧ V.cell? ⟨pb, A + 4, none⟩ = some (.int .i64 M)) (first | exact ⟨x2, x3, x4⟩ | exact ⟨y2, y3, y4⟩) (first
              | (go_at_call 10; refine HAsk.out.mono ?_; rintro e w5 ⟨B5, rfl, r5, n5⟩; have H5 := Lib.hid (HAl.out.asked r5 n5); clear r5 n5; obtain ⟨y2, y3, y4⟩ := HRow.out w5 H5.out.gr)
              | (go_at_call 17; refine (num_any _ _).mono ?_; rintro e w9 ⟨rfl, rfl⟩))
            clear x2 x3 x4 HAsk
            obtain ⟨w6, hrun, hA6⟩ := H5.out.stored HAl.out.al.nd (by have := HAl.out.al.ln; omega) HT'.out.1 HK.out.1 HT'.out.2.1 HT'.out.2.2.1 HT'.out.2.2.2
            have hlk := best_run (show Mp Try.prog KL w5.drew bm (bestF T o) bk from H5.out.mp) HK.out.1
            rw [HK.out.2, ← HHH.out.1] at hrun hlk
            have H6 := Lib.hid hA6
            clear hA6
            obtain ⟨z2, z3, z4⟩ := HRow.out w6 H6.out.gr
            go_upto_region 13 with fail
            go_region_held3 (fun V => V.cell? ⟨pb, A + 2, none⟩ = some (.int .i64 K1) ∧ V.cell? ⟨pb, A + 2 + 1, none⟩ = some (.int .i64 K2) ∧ V.cell? ⟨pb, A + 4, none⟩ = some (.int .i64 M)) (first | exact ⟨y2, y3, y4⟩ | exact ⟨z2, z3, z4⟩) (fail)
            clear y2 y3 y4 z4 hrun hlk
            have HHo : Hid (Calls Try.prog 12 #[.pointer (some ⟨t, 0, none⟩), .int .u64 (o : Int), .agg #[.int .i64 K1, .int .i64 K2]] w6.drew fun e w' => e = .returned (.int .i64 H') ∧ Gr w6.drew w') := Lib.hid (by
              have := Holds_any (H6.out.tb.gr (Gr.refl w6).drew) H6.out.al.ok HL.out.2 HK.out.1
              rw [HK.out.2, ← HHH.out.2.1] at this
              exact this)
            have HLk : Hid (∀ V, Gr w6 V → (Instr.lookup TBe (.map (some bm)) (.agg #[.int .i64 K1, .int .i64 K2]) false).run Try.prog V = .ok (.int .i64 H') V ∧ (Builtin.len_ #[TBe] TI #[.map (some bm)]).run Try.prog V = .ok (.int .i64 N') V) := Lib.hid fun V g => by
              have h1 := best_run (H6.out.more g).mp HK.out.1
              have h2 := (H6.out.more g).len TI
              rw [HK.out.2, ← HHH.out.2.1] at h1
              rw [← HHH.out.2.2] at h2
              exact ⟨h1, h2⟩
            have hl6 := (HLk.out w6.drew (Gr.refl w6).drew).1
            have hn6 := (HLk.out w6.drew (Gr.refl w6).drew).2
            go_upto_region 14 with fail
            go_region_held3 (fun V => V.cell? ⟨pb, A + 2, none⟩ = some (.int .i64 K1) ∧ V.cell? ⟨pb, A + 2 + 1, none⟩ = some (.int .i64 K2) ∧ (Instr.lookup TBe (.map (some bm)) (.agg #[.int .i64 K1, .int .i64 K2]) false).run Try.prog V = .ok (.int .i64 H') V ∧ (Builtin.len_ #[TBe] TI #[.map (some bm)]).run Try.prog V = .ok (.int .i64 N') V) (first | exact ⟨z2, z3, hl6, hn6⟩ | exact ⟨u2, u3, hl7, hn7⟩) (first
              | (go_at_call 12; refine HHo.out.mono ?_; rintro e w7 ⟨rfl, g7⟩; have H7 := Lib.hid (And.intro (H6.out.more (Gr.trans (Gr.refl w6).drew g7)) (Gr.trans (Gr.refl w6).drew g7)); clear g7; obtain ⟨u2, u3, -⟩ := HRow.out w7 H7.out.1.gr; obtain ⟨hl7, hn7⟩ := HLk.out w7 H7.out.2)
              | (go_at_call 16; refine (Len_any H7.out.1.tb).mono ?_; rintro e w9 ⟨rfl, rfl⟩; rw [← HHH.out.2.2]))
            clear z2 z3 hl6 hn6 u2 u3 hl7 hn7 HHo
            go_wp2_with fail
            all_goals exact ⟨⟨j + 1, by simp, HMe.out.1, Lib.hid ⟨_, _, _, H7.out.1⟩⟩, by simpa [intOf] using HMe.out.2⟩
        · have e1 : (M != 1) = true := by
            rw [bne_iff_ne]
            exact fun e => hm (.inl e)
          have e2 : (M != 2) = true := by
            rw [bne_iff_ne]
            exact fun e => hm (.inr e)
          clear hm
          go_wp2_with fail
          go_roundw
          case rel => exact ⟨j + 1, by simp, HMe.out.1, Lib.hid ⟨B, T, bk, HAl.out.step⟩⟩
          case measure => simpa [intOf] using HMe.out.2
      · have g3 : ¬ (j : Int) < (n : Int) := by omega
        obtain ⟨B, T, bk, hAl⟩ := HR.out
        obtain ⟨T9, hT9, hF⟩ := free_alone hAl.tb hAl.al (by omega) HL.out.2
        have HF := Lib.hid hF
        have HAl := Lib.hid (And.intro hAl hT9)
        clear hF hAl hT9 HR
        go_wp2_with fail
        refine HF.out.mono ?_
        rintro e W4 ⟨v, B4, rfl, hu, t4, n4, -⟩
        obtain ⟨p', c', hv⟩ := hu.form
        subst hv
        have H4 := Lib.hid (And.intro t4 (n4.from0 HAl.out.1.gr HAl.out.1.fw))
        clear hu t4 n4 HF
        rw [show (([] : List Nat).length) = 0 from rfl]
        go_wp2_with fail
        refine (Len_any H4.out.1).mono ?_
        rintro e W5 ⟨rfl, rfl⟩
        rw [HAl.out.2]
        go_wp2_with fail
        refine (known10_any W4).mono ?_
        rintro e W8 ⟨rfl, g8⟩
        have H8 := Lib.hid (Gr.trans H4.out.2.1 g8)
        clear g8 H4
        go_wp2_with fail
        go_ret
        exact ⟨rfl, H8.out⟩
end Go.Proofs.Ytgpaikaccipfjaa
