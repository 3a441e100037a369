/-
  Texts on locks, put together: Lk42.
-/
import Derived.Test.YtadopbpfnnpnaaaGreatL15
import Derived.Test.YtadopbpfnnpnaaaGreatL18
set_option linter.unusedVariables false
set_option linter.unusedSimpArgs false
/-
  The code's table of locks: ring's own way, whole.
-/
namespace Go.Proofs.YtadopbpfnnpnaaaGreat
open Go.RowKit Go.Maps

theorem grown_tr {w w1 w2 : World} {row : Option Nat} (h : w.grownBy w1 row) (g : w1.grownBy w2 row) : w.grownBy w2 row :=
  ⟨g.os.trans h.os, g.tape.trans h.tape, g.output.trans h.output, Nat.le_trans h.size g.size, fun n h1 h2 => (g.block n (Nat.lt_of_lt_of_le h1 h.size) h2).trans (h.block n h1 h2)⟩
theorem grown_gr {w w1 w2 : World} {row : Option Nat} (h : w.grownBy w1 row) (g : Gr w1 w2) : w.grownBy w2 row :=
  ⟨g.os.trans h.os, g.tape.trans h.tape, g.output.trans h.output, Nat.le_trans h.size g.size, fun n h1 h2 => (g.block n (Nat.lt_of_lt_of_le h1 h.size)).trans (h.block n h1 h2)⟩
theorem Rg.left_row {α : Type} {P : Program} {K : KK α} {w w' : World} {m r : Nat} {f : α → Option Value} {ks : List α} {L : α → Prop} {row : Option Nat} (h : Rg P K w m r f ks L) (hg : w.grownBy w' row) (h1 : some m ≠ row) (h2 : some r ≠ row) : w'.rangeLeft m r = w.rangeLeft m r := by
  obtain ⟨D, left, cnt, a, b⟩ := h
  have h3 := a.owns.lt
  have h4 := a.lt
  unfold World.rangeLeft
  rw [hg.block m h3 h1, hg.block r h4 h2]
/-- How many keys are not yet seen. -/
def unseen (kk ss : List Key) : Nat := (kk.filter fun a => decide (a ∉ ss)).length
theorem unseen_less {kk ss : List Key} {k : Key} (hk : k ∈ kk) (hs : k ∉ ss) : unseen kk (k :: ss) < unseen kk ss := by
  unfold unseen
  have hsub : (kk.filter fun a => decide (a ∉ k :: ss)).length + (kk.filter fun a => decide (a = k ∧ a ∉ ss)).length = (kk.filter fun a => decide (a ∉ ss)).length := by
    clear hk
    induction kk with
    | nil => rfl
    | cons a r ih =>
      by_cases h1 : a = k
      · subst h1
        by_cases h2 : a ∈ ss
        · exact absurd h2 hs
        · simp [h2] at ih ⊢
          omega
      · by_cases h2 : a ∈ ss
        · simp [h1, h2] at ih ⊢
          omega
        · simp [h1, h2] at ih ⊢
          omega
  have hpos : 0 < (kk.filter fun a => decide (a = k ∧ a ∉ ss)).length := List.length_pos_of_mem (List.mem_filter.2 ⟨hk, by simp [hs]⟩)
  omega
theorem unseen_mono {kk ss ss' : List Key} (h : ∀ a, a ∈ ss → a ∈ ss') : unseen kk ss' ≤ unseen kk ss := by
  unfold unseen
  induction kk with
  | nil => exact Nat.le_refl _
  | cons a r ih =>
    by_cases h1 : a ∈ ss
    · have h2 := h a h1
      simp [h1, h2] at ih ⊢
      exact ih
    · by_cases h2 : a ∈ ss'
      · simp [h1, h2] at ih ⊢
        omega
      · simp [h1, h2] at ih ⊢
        exact ih
/-- What is seen besides leads to nothing but what is seen. -/
def Done (T : Tb) (ks ss ss' : List Key) : Prop := (∀ a, a ∈ ss → a ∈ ss') ∧ ∀ a, a ∈ ss' → a ∉ ss → ∀ q, q ∈ (T.lkOf a).hs → (T.of q).mode ≠ 0 → (T.of q).key ∉ ks ∧ (T.of q).key ∈ ss'
def RetLeads (T : Tb) (ks ss : List Key) (k : Key) (sm : Nat) (w : World) (e : Ending) (w' : World) : Prop :=
  ∃ R ss', e = .returned (.bool R) ∧ w.grownBy w' (some sm) ∧ Mp Tryz.prog KL w' sm (unitF ss') ss' ∧ (R = true → T.Leads ks k) ∧ (R = false → Done T ks ss ss' ∧ k ∈ ss') ∧ (∀ a, a ∈ ss' → a ∈ T.kk)
abbrev TFk : TypeId := 85
/-- What the search finds in memory. -/
structure RgAt (w : World) (t km om : Nat) (B : Tag → Option Nat) (T : Tb) (sb tb mb lb sm : Nat) (hp : Option Nat) (O1 O2 O3 : Int) (ks : List Key) : Prop where
  tt : TbAt w t km om B T
  nF : ¬ FB B sm
  s : Blk w sb TMs #[.map (some sm)]
  t : Blk w tb 24 #[.pointer (some ⟨t, 0, none⟩)]
  m : Blk w mb TPy #[.map hp, .int .i64 O1, .int .i64 O2, .int .i64 O3]
  l : Blk w lb TFk #[.func (.func 54) #[] #[.pointer (some ⟨sb, 0, none⟩), .pointer (some ⟨tb, 0, none⟩), .pointer (some ⟨mb, 0, none⟩), .pointer (some ⟨lb, 0, none⟩)]]
  hs : HsAt w hp ks
  ne : ∀ n, hp = some n → n ≠ sm
  im : ∃ es c, w.heap[sm]? = some (.map es c)
section
variable {w w' : World} {t km om sb tb mb lb sm : Nat} {B : Tag → Option Nat} {T : Tb} {hp : Option Nat} {O1 O2 O3 : Int} {ks : List Key}
theorem RgAt.up (h : RgAt w t km om B T sb tb mb lb sm hp O1 O2 O3 ks) (g : w.grownBy w' (some sm)) (im : ∃ es c, w'.heap[sm]? = some (.map es c)) : RgAt w' t km om B T sb tb mb lb sm hp O1 O2 O3 ks := by
  have hne : ∀ {n : Nat} {ty : TypeId} {cs : Array Value}, Blk w n ty cs → Blk w' n ty cs := fun {n ty cs} hb => hb.stays (g.block n hb.lt fun e => by
    cases e
    obtain ⟨es, c, q⟩ := h.im
    unfold Blk at hb
    rw [q] at hb
    cases hb)
  refine ⟨h.tt.row g (fun m e => by cases e; exact h.nF), h.nF, hne h.s, hne h.t, hne h.m, hne h.l, ?_, h.ne, im⟩
  rcases h.hs with h1 | ⟨n, h1, h2⟩
  · exact .inl h1
  · exact .inr ⟨n, h1, h2.stays (g.block n h2.lt fun e => h.ne n h1 (by cases e; rfl))⟩
theorem RgAt.gr (h : RgAt w t km om B T sb tb mb lb sm hp O1 O2 O3 ks) (g : Gr w w') : RgAt w' t km om B T sb tb mb lb sm hp O1 O2 O3 ks := by
  obtain ⟨es, c, q⟩ := h.im
  exact h.up ⟨g.os, g.tape, g.output, g.size, fun n hn _ => g.block n hn⟩ ⟨es, c, (g.block sm (Array.getElem?_eq_some_iff.1 q).1).trans q⟩
set_option maxRecDepth 100000 in
set_option maxHeartbeats 4000000 in
theorem leads_any (hI : Inv T) (hkd : ∀ q, KL.dom (T.of q).key) : ∀ (N : Nat) (w : World) (k : Key) (ss : List Key), unseen T.kk ss ≤ N → RgAt w t km om B T sb tb mb lb sm hp O1 O2 O3 ks → Mp Tryz.prog KL w sm (unitF ss) ss → (T.lk k).isSome = true → k ∉ ss → T.kk.length ≤ 1000000000 → (∀ a, a ∈ ss → a ∈ T.kk) →
    Calls Tryz.prog 54 #[kv k, .pointer (some ⟨sb, 0, none⟩), .pointer (some ⟨tb, 0, none⟩), .pointer (some ⟨mb, 0, none⟩), .pointer (some ⟨lb, 0, none⟩)] w (RetLeads T ks ss k sm w)
  | 0, w, k, ss, hN, hA, hsm, hlk, hks, hkl, hsk => by
    have := unseen_less ((hI.km k).2 hlk) hks
    omega
  | N + 1, w, k, ss, hN, hA, hsm, hlk, hks, hkl, hsk => by
    have hun := unseen_less ((hI.km k).2 hlk) hks
    have hk : KL.dom k := hI.kdm k ((hI.km k).2 hlk)
    obtain ⟨l, hl⟩ := Option.isSome_iff_exists.1 hlk
    have hlo : T.lkOf k = l := lkOf_of hl
    obtain ⟨k1, hk1⟩ : ∃ x, x = k.1 := ⟨_, rfl⟩
    obtain ⟨k2, hk2⟩ : ∃ x, x = k.2 := ⟨_, rfl⟩
    have hkv : kv k = .agg #[.int .i64 k1, .int .i64 k2] := by rw [hk1, hk2]; rfl
    rw [hkv]
    have g1 : Gr w (w.alloc (.cells #[.int .i64 k1, .int .i64 k2] TKey)) := (Gr.refl w).alloc (Nat.le_refl _) _
    have b6 := (Blk.new w TKey #[.int .i64 k1, .int .i64 k2])
    obtain ⟨W0, hW0⟩ : ∃ W0, W0 = w.alloc (.cells #[.int .i64 k1, .int .i64 k2] TKey) := ⟨_, rfl⟩
    rw [← hW0] at g1 b6
    have hA0 := hA.gr g1
    have hssl : ss.length ≤ 1000000000 := Nat.le_trans (nodup_le ss T.kk hsm.nodup hsk) hkl
    obtain ⟨w1, hrun, hM1, hG1⟩ := (hsm.stays (g1.block sm hsm.lt)).store KL_ok (by show ss.length < 9223372036854775807; omega) (t := TMs) Tryz.underlying63 hk (.agg #[])
    rw [show KL.val k = kv k from rfl, hkv] at hrun
    rw [unitF_put, putK_new hks] at hM1
    have hsm0 : sm < w.heap.size := hsm.lt
    obtain ⟨kb, hkb⟩ : ∃ kb, kb = w.heap.size := ⟨_, rfl⟩
    rw [← hkb] at b6
    have x0 := b6.cell 0
    have x1 := b6.cell 1
    have s0 := hA0.s.cell 0
    simp at x0 x1 s0
    have hA1 := hA0.up hG1 hM1.isMap
    have b61 := b6.stays (hG1.block kb b6.lt fun e => by cases e; omega)
    obtain ⟨bl, hm, v, e1, e2, e3, e4, e5⟩ := hA1.tt.lk k l hl
    have hhm : hm ≠ sm := fun e => hA1.nF ⟨_, by rw [← e]; exact e2⟩
    have hll1 : (Instr.lookup TMk (.map (some km)) (.agg #[.int .i64 k1, .int .i64 k2]) false).run Tryz.prog w1.drew = .ok (.pointer (some ⟨bl, 0, none⟩)) w1.drew := by
      have := (hA1.tt.stays (w' := w1.drewN 1) (fun _ _ _ => rfl)).look hk
      rw [e1, hkv] at this
      exact this
    obtain ⟨w2, hrr, hrg, hgr, hsz⟩ := (show Mp Tryz.prog KO w1.drew hm (unitF l.hs) l.hs from e4).range KO_ok (t := TMh) Tryz.underlying53
    have y0 := b61.cell 0
    have y1 := b61.cell 1
    have y2 := hA1.t.cell 0
    have y3 := hA1.tt.c3.1
    have y4 := e3.cell 1
    simp at y0 y1 y2 y4
    have gw1 : w.grownBy w1 (some sm) := ⟨hG1.os.trans g1.os, hG1.tape.trans g1.tape, hG1.output.trans g1.output, Nat.le_trans g1.size hG1.size, fun n h1 h2 => (hG1.block n (Nat.lt_of_lt_of_le h1 g1.size) h2).trans (g1.block n h1)⟩
    have hsm1 : sm < w1.heap.size := hM1.lt
    have HW := Lib.hid (And.intro hW0 hkb)
    have HA := Lib.hid (And.intro hA1 (And.intro hM1 (And.intro gw1 (And.intro hl (And.intro hlo (And.intro hhm (And.intro e4 hsm1)))))))
    have HI := Lib.hid (And.intro hI (And.intro hkd (And.intro hun (And.intro hN (And.intro hkl (And.intro hsk (And.intro hks ((hI.km k).2 hlk))))))))
    have HIH := Lib.hid (leads_any hI hkd N)
    have HR := Lib.hid (And.intro hrg (And.intro hgr hsz))
    clear hI hkd hun hN hkl hsk hks hssl hrg hgr hsz hA hA0 hsm g1 b6 hW0 hM1 hG1 hA1 b61 e1 e2 e3 e5 gw1 hl hlo hkb hk1 hk2 hkv hsm0 hhm e4 hlk leads_any hsm1
    go_enter Tryz.func54, Tryz.ntmps54
    go_upto_region 1 with fail
    rw [show (w.alloc (.cells #[.int .i64 k1, .int .i64 k2] 33)) = W0 from HW.out.1.symm, ← HW.out.2]
    go_step3
    go_wp2_with fail
    go_step3
    go_wp2_with fail
    go_cut [24] (fun s24 wx => s24 = .pointer (some ⟨w1.heap.size, 0, none⟩) ∧ wx = w2)
    case first =>
      go_region_with (fail)
      all_goals
        go_wp2_with fail
        go_meet
        exact ⟨rfl, rfl⟩
    case rest =>
      obtain ⟨rfl, rfl⟩ := hcut
      obtain ⟨r, hr⟩ : ∃ r, r = w1.heap.size := ⟨_, rfl⟩
      have hrg1 : Rg Tryz.prog KO wc hm r (unitF l.hs) l.hs (fun a => a ∈ l.hs) := by rw [hr]; exact HR.out.1
      have G12 : Gr w1 wc := Gr.trans (Gr.refl w1).drew HR.out.2.1
      rw [← hr]
      have Hr := Lib.hid (show r ≠ sm ∧ w1.heap.size ≤ r by have := HA.out.2.2.2.2.2.2.2; omega)
      have HST : Hid (RgAt wc t km om B T sb tb mb lb sm hp O1 O2 O3 ks ∧ Mp Tryz.prog KL wc sm (unitF (k :: ss)) (k :: ss) ∧ w1.grownBy wc (some sm)) := Lib.hid ⟨HA.out.1.gr G12, HA.out.2.1.stays (G12.block sm HA.out.2.1.lt), ⟨G12.os, G12.tape, G12.output, G12.size, fun n hn _ => G12.block n hn⟩⟩
      clear hrr hll1 y0 y1 y2 y3 y4 hr x0 x1 s0 hrun G12
      go_wp2_with fail
      go_loopw [7] (fun s7 wr => s7 = .bool false ∧ ∃ L cur, Rg Tryz.prog KO wr hm r (unitF l.hs) l.hs L ∧ Hid (RgAt wr t km om B T sb tb mb lb sm hp O1 O2 O3 ks ∧ Mp Tryz.prog KL wr sm (unitF cur) cur ∧ w1.grownBy wr (some sm)) ∧ Hid ((∀ a, a ∈ k :: ss → a ∈ cur) ∧ (∀ a, a ∈ cur → a ∈ T.kk) ∧ (∀ q, q ∈ l.hs → ¬ L q → (T.of q).mode ≠ 0 → (T.of q).key ∉ ks ∧ (T.of q).key ∈ cur) ∧ (∀ a, a ∈ cur → a ∉ k :: ss → ∀ q, q ∈ (T.lkOf a).hs → (T.of q).mode ≠ 0 → (T.of q).key ∉ ks ∧ (T.of q).key ∈ cur))) (fun _ wr => wr.rangeLeft hm r)
      case atStart =>
        obtain ⟨-, -, -, -, -, hsk, -, hkk⟩ := HI.out
        exact ⟨rfl, _, k :: ss, hrg1, HST, Lib.hid ⟨fun a h => h, fun a h => by
          rcases List.mem_cons.1 h with e | e
          · rw [e]; exact hkk
          · exact hsk a e, fun q h1 h2 => absurd h1 h2, fun a h1 h2 => absurd h1 h2⟩⟩
      case round =>
        obtain ⟨rfl, L, cur, hrg, HS, HL⟩ := hrel
        go_wp2_with (first
          | (at_next; refine wpList_next_mp KO_ok rfl _ rfl rfl hrg ?_ ?_)
          | go_in)
        · intro hno
          have HV : Hid (RetLeads T ks ss k sm w (.returned (.bool false)) wr) := Lib.hid (by
            obtain ⟨h1, h2, h3⟩ := HS.out
            obtain ⟨c1, c2, c3, c4⟩ := HL.out
            obtain ⟨-, -, gw1, hl, hlo, -, -⟩ := HA.out
            refine ⟨false, cur, rfl, grown_tr gw1 h3, h2, (fun e => by cases e), fun _ => ⟨⟨fun a ha => c1 a (by simp [ha]), fun a ha hn q hq hm => ?_⟩, c1 k (by simp)⟩, c2⟩
            by_cases e : a = k
            · rw [e, hlo] at hq
              exact c3 q hq (hno q) hm
            · exact c4 a ha (by simp [e, hn]) q hq hm)
          clear hno
          go_wp2_with fail
          rw [Exit.noGoto_ret]
          go_ret
          exact HV.out
        · intro q v w3 hLq hqd hfv hrg' hlt hg3 hs3 hen
          have hqin : q ∈ l.hs := ((hrg'.mp KO_ok).mem q).2 (by rw [hfv]; rfl)
          have hS3 : Hid (RgAt w3 t km om B T sb tb mb lb sm hp O1 O2 O3 ks ∧ Mp Tryz.prog KL w3 sm (unitF cur) cur ∧ w1.grownBy w3 (some sm)) := Lib.hid (by
            obtain ⟨h1, h2, h3⟩ := HS.out
            obtain ⟨hr1, hr2⟩ := Hr.out
            have g13 : w1.grownBy w3 (some sm) := ⟨hg3.os.trans h3.os, hg3.tape.trans h3.tape, hg3.output.trans h3.output, Nat.le_trans h3.size hg3.size, fun n hn hs => (hg3.block n (Nat.lt_of_lt_of_le hn h3.size) fun e => by cases e; omega).trans (h3.block n hn hs)⟩
            have hm3 := h2.stays (hg3.block sm h2.lt fun e => by cases e; exact hr1 rfl)
            exact ⟨HA.out.1.up g13 hm3.isMap, hm3, g13⟩)
          have y2 := hS3.out.1.t.cell 0
          simp at y2
          have HO := Lib.hid (of_any hS3.out.1.tt hqd)
          obtain ⟨qp, hqp⟩ : ∃ qp, qp = B (.pm q) := ⟨_, rfl⟩
          obtain ⟨Q1, hQ1⟩ : ∃ Q1, Q1 = (T.of q).key.1 := ⟨_, rfl⟩
          obtain ⟨Q2, hQ2⟩ : ∃ Q2, Q2 = (T.of q).key.2 := ⟨_, rfl⟩
          obtain ⟨QM, hQM⟩ : ∃ QM, QM = (T.of q).mode := ⟨_, rfl⟩
          unfold ofV at HO
          rw [← hqp, ← hQ1, ← hQ2, ← hQM] at HO
          rw [show KO.val q = .int .u64 (q : Int) from rfl] at hen ⊢
          have hkq : kv (T.of q).key = .agg #[.int .i64 Q1, .int .i64 Q2] := by rw [hQ1, hQ2]; rfl
          have HQ := Lib.hid (And.intro hqin (And.intro hrg' (And.intro hlt (And.intro hQM hkq))))
          clear hLq hqd hfv hrg' hlt hg3 hs3 hqin hqp hQ1 hQ2 hQM hkq hrg HS
          go_wp2_with fail
          refine HO.out.mono ?_
          rintro e W4 ⟨rfl, g4⟩
          have g5 : Gr W4 (W4.alloc (.cells #[.map qp, .int .i64 Q1, .int .i64 Q2, .int .i64 QM] TPy)) := (Gr.refl _).alloc (Nat.le_refl _) _
          have b5 := Blk.new W4 TPy #[.map qp, .int .i64 Q1, .int .i64 Q2, .int .i64 QM]
          obtain ⟨W5, hW5⟩ : ∃ W5, W5 = W4.alloc (.cells #[.map qp, .int .i64 Q1, .int .i64 Q2, .int .i64 QM] TPy) := ⟨_, rfl⟩
          rw [← hW5] at g5 b5
          obtain ⟨pb, hpb⟩ : ∃ pb, pb = W4.heap.size := ⟨_, rfl⟩
          rw [← hpb] at b5
          have g35 : Gr w3 W5 := Gr.trans g4 g5
          have z1 := b5.cell 1
          have z2 := b5.cell 2
          have s5 := (hS3.out.1.s.gr g35).cell 0
          simp at z1 z2 s5
          have hlq := (show HsAt W5 (some sm) cur from .inr ⟨sm, rfl, hS3.out.2.1.stays (g35.block sm hS3.out.2.1.lt)⟩).look (HI.out.2.1 q)
          rw [HQ.out.2.2.2.2] at hlq
          obtain ⟨X, hX⟩ : ∃ X, X = decide ((T.of q).key ∈ cur) := ⟨_, rfl⟩
          rw [← hX] at hlq
          have g6 : Gr W5 (W5.alloc (.cells #[] 58)) := (Gr.refl _).alloc (Nat.le_refl _) _
          obtain ⟨W6, hW6⟩ : ∃ W6, W6 = W5.alloc (.cells #[] 58) := ⟨_, rfl⟩
          rw [← hW6] at g6
          have b6 := b5.gr g6
          have g36 := Gr.trans g35 g6
          have m6 := hS3.out.1.m.gr g36
          have u1 := b6.cell 1
          have u2 := b6.cell 2
          have u3 := b6.cell 3
          have m0 := m6.cell 0
          have m1 := m6.cell 1
          have m2 := m6.cell 2
          have m3 := m6.cell 3
          simp at u1 u2 u3 m0 m1 m2 m3
          have HS6 := Lib.hid (And.intro hW5 (And.intro hpb (And.intro hW6 (And.intro b6 (And.intro g36 hX)))))
          clear g4 g5 b5 hW5 hpb g35 hX g6 hW6 b6 g36 m6
          go_upto_region 7 with fail
          rw [show (W4.alloc (.cells #[.map qp, .int .i64 Q1, .int .i64 Q2, .int .i64 QM] 66)) = W5 from HS6.out.1.symm, ← HS6.out.2.1]
          go_upto_region 8 with fail
          rw [show (W5.alloc (.cells #[] 58)) = W6 from HS6.out.2.2.1.symm]
          have HT6 : Hid (RgAt W6 t km om B T sb tb mb lb sm hp O1 O2 O3 ks ∧ Mp Tryz.prog KL W6 sm (unitF cur) cur ∧ w1.grownBy W6 (some sm)) := Lib.hid (by
            obtain ⟨h1, h2, h3⟩ := hS3.out
            have g := HS6.out.2.2.2.2.1
            exact ⟨h1.gr g, h2.stays (g.block sm h2.lt), grown_gr h3 g⟩)
          have HG6 : Hid (Rg Tryz.prog KO W6 hm r (unitF l.hs) l.hs (fun b => L b ∧ b ≠ q) ∧ W6.rangeLeft hm r < wr.rangeLeft hm r) := Lib.hid (by
            obtain ⟨hqin, hrg', hlt, hQM, hkq⟩ := HQ.out
            have g := HS6.out.2.2.2.2.1
            exact ⟨hrg'.gr g, by rw [hrg'.left_same g]; exact hlt⟩)
          have HQ2 := Lib.hid (And.intro HQ.out.1 (And.intro HQ.out.2.2.2.1 HQ.out.2.2.2.2))
          have HX := Lib.hid (And.intro HS6.out.2.2.2.1 HS6.out.2.2.2.2.2)
          clear HQ hS3 HO HS6 hlq z1 z2 s5 y2 hen
          by_cases hQ0 : QM = 0
          · subst hQ0
            go_wp2_with fail
            go_roundw
            case rel =>
              obtain ⟨c1, c2, c3, c4⟩ := HL.out
              refine ⟨rfl, _, cur, HG6.out.1, HT6, Lib.hid ⟨c1, c2, fun q' h1 h2 h3 => ?_, c4⟩⟩
              by_cases e : q' = q
              · rw [e] at h3
                exact absurd HQ2.out.2.1.symm h3
              · exact c3 q' h1 (fun e2 => h2 ⟨e2, e⟩) h3
            case measure => exact HG6.out.2
          · have hb0 : (QM == 0) = false := by simpa using hQ0
            have HQ0 := Lib.hid (show (T.of q).mode ≠ 0 by rw [← HQ2.out.2.1]; exact hQ0)
            have hHas := has_any W6 (a := .int .i64 O1) (b := .int .i64 O2) (m := .int .i64 O3) rfl rfl rfl HT6.out.1.hs (HI.out.2.1 q)
            rw [HQ2.out.2.2] at hHas
            clear hQ0
            by_cases hY : (T.of q).key ∈ ks
            · rw [decide_eq_true hY] at hHas
              have HHas := Lib.hid hHas
              have HY := Lib.hid hY
              clear hHas hY
              go_wp2_with fail
              refine HHas.out.mono ?_
              rintro e W7 ⟨rfl, g7⟩
              have G7 := Lib.hid g7
              clear g7
              go_wp2_with fail
              rw [Exit.noGoto_ret]
              go_ret
              obtain ⟨h1, h2, h3⟩ := HT6.out
              obtain ⟨-, -, gw1, hl, hlo, -, -⟩ := HA.out
              exact ⟨true, cur, rfl, grown_tr gw1 (grown_gr h3 G7.out), h2.stays (G7.out.block sm h2.lt), fun _ => .hit (q := q) (by rw [hlo]; exact HQ2.out.1) HQ0.out HY.out, (fun e => by cases e), HL.out.2.1⟩
            · rw [decide_eq_false hY] at hHas
              have HHas := Lib.hid hHas
              have HY := Lib.hid hY
              clear hHas hY
              by_cases hX : (T.of q).key ∈ cur
              · have hXt : X = true := by rw [HX.out.2]; exact decide_eq_true hX
                subst hXt
                have HXi := Lib.hid hX
                clear hX
                go_wp2_with fail
                refine HHas.out.mono ?_
                rintro e W7 ⟨rfl, g7⟩
                have G7 := Lib.hid g7
                clear g7
                go_wp2_with fail
                go_roundw
                case rel =>
                  obtain ⟨c1, c2, c3, c4⟩ := HL.out
                  obtain ⟨h1, h2, h3⟩ := HT6.out
                  refine ⟨rfl, _, cur, HG6.out.1.gr G7.out, Lib.hid ⟨h1.gr G7.out, h2.stays (G7.out.block sm h2.lt), grown_gr h3 G7.out⟩, Lib.hid ⟨c1, c2, fun q' h1 h2 h3 => ?_, c4⟩⟩
                  by_cases e : q' = q
                  · rw [e]
                    exact ⟨HY.out, HXi.out⟩
                  · exact c3 q' h1 (fun e2 => h2 ⟨e2, e⟩) h3
                case measure => rw [HG6.out.1.left_same G7.out]; exact HG6.out.2
              · have hXf : X = false := by rw [HX.out.2]; exact decide_eq_false hX
                subst hXf
                have HXi := Lib.hid hX
                clear hX
                go_wp2_with fail
                refine HHas.out.mono ?_
                rintro e W7 ⟨rfl, g7⟩
                have HT7 : Hid (RgAt W7 t km om B T sb tb mb lb sm hp O1 O2 O3 ks ∧ Mp Tryz.prog KL W7 sm (unitF cur) cur ∧ w1.grownBy W7 (some sm)) := Lib.hid (by
                  obtain ⟨h1, h2, h3⟩ := HT6.out
                  exact ⟨h1.gr g7, h2.stays (g7.block sm h2.lt), grown_gr h3 g7⟩)
                have HG7 : Hid (Rg Tryz.prog KO W7 hm r (unitF l.hs) l.hs (fun b => L b ∧ b ≠ q) ∧ W7.rangeLeft hm r < wr.rangeLeft hm r) := Lib.hid ⟨HG6.out.1.gr g7, by rw [HG6.out.1.left_same g7]; exact HG6.out.2⟩
                have b7 := HX.out.1.gr g7
                have l0 := HT7.out.1.l.cell 0
                have v1 := b7.cell 1
                have v2 := b7.cell 2
                simp at l0 v1 v2
                have HC := Lib.hid (HIH.out W7 (T.of q).key cur (by
                  obtain ⟨-, -, hun, hN, -, -, -, -⟩ := HI.out
                  have := unseen_mono (kk := T.kk) HL.out.1
                  omega) HT7.out.1 HT7.out.2.1 (by
                  obtain ⟨l', h1, _⟩ := HI.out.1.wt q HQ0.out
                  rw [h1]; rfl) HXi.out HI.out.2.2.2.2.1 HL.out.2.1)
                rw [HQ2.out.2.2] at HC
                have eg : ∀ args w, (callFunc 54 args).run Tryz.prog w = .ok (.enter 54 args) w := enters_of Tryz.func54 (by kernel_rfl) rfl
                clear g7 b7 HT6 HG6 u1 u2 u3 m0 m1 m2 m3
                go_wp2_with (go_at_fn 54; refine HC.out.mono ?_; rintro e W9 ⟨R, ss', rfl, g9, hM9, hT9, hF9, hk9⟩; have H9 := Lib.hid (And.intro g9 (And.intro hM9 (And.intro hT9 (And.intro hF9 hk9)))); clear g9 hM9 hT9 hF9 hk9; cases R)
                · go_wp2_with fail
                  go_roundw
                  case rel =>
                    obtain ⟨c1, c2, c3, c4⟩ := HL.out
                    obtain ⟨h1, h2, h3⟩ := HT7.out
                    obtain ⟨g9, hM9, -, hF9, hk9⟩ := H9.out
                    obtain ⟨⟨d1, d2⟩, d3⟩ := hF9 (by simp)
                    refine ⟨rfl, _, ss', HG7.out.1.kept g9 (fun e => HA.out.2.2.2.2.2.1 (by cases e; rfl)) (fun e => Hr.out.1 (by cases e; rfl)), Lib.hid ⟨h1.up g9 hM9.isMap, hM9, grown_tr h3 g9⟩, Lib.hid ⟨fun a ha => d1 a (c1 a ha), hk9, fun q' h1 h2 h3 => ?_, fun a ha hn q' hq' hm' => ?_⟩⟩
                    · by_cases e : q' = q
                      · rw [e]
                        exact ⟨HY.out, d3⟩
                      · have := c3 q' h1 (fun e2 => h2 ⟨e2, e⟩) h3
                        exact ⟨this.1, d1 _ this.2⟩
                    · by_cases e : a ∈ cur
                      · have := c4 a e hn q' hq' hm'
                        exact ⟨this.1, d1 _ this.2⟩
                      · exact d2 a ha e q' hq' hm'
                  case measure =>
                    rw [HG7.out.1.left_row H9.out.1 (fun e => HA.out.2.2.2.2.2.1 (by cases e; rfl)) (fun e => Hr.out.1 (by cases e; rfl))]
                    exact HG7.out.2
                · go_wp2_with fail
                  rw [Exit.noGoto_ret]
                  go_ret
                  obtain ⟨h1, h2, h3⟩ := HT7.out
                  obtain ⟨-, -, gw1, hl, hlo, -, -⟩ := HA.out
                  obtain ⟨g9, hM9, hT9, -, hk9⟩ := H9.out
                  exact ⟨true, ss', rfl, grown_tr gw1 (grown_tr h3 g9), hM9, fun _ => .via (q := q) (by rw [hlo]; exact HQ2.out.1) HQ0.out (hT9 (by simp)), (fun e => by cases e), hk9⟩
end
end Go.Proofs.YtadopbpfnnpnaaaGreat

