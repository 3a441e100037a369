/-
  Texts on locks, put together: Lk21.
-/
import Derived.Test.YtbmcdlcoojmppaaA13
/-
  The code's table of locks: stand.
-/
namespace Go.Proofs.Ytbmcdlcoojmppaa
open Go.RowKit Go.Maps

def SlStand3 (_ : Nat) (b : Nat) (hp : Nat) (k1 : Int) (k2 : Int) (O1 : Int) (O2 : Int) (O3 : Int) (Y : Bool) (slot : Nat) (v : Value) (_ : World) : Prop :=
  match slot with
  | 25 | 26 => v = .pointer (some ⟨b, 0, none⟩)
  | 27 => v = .agg #[.map (some hp), .int .i64 O1, .int .i64 O2, .int .i64 O3]
  | 28 => v = .agg #[.int .i64 k1, .int .i64 k2]
  | 29 => v = .bool Y
  | _ => True


def RetStand (t km om : Nat) (B : Tag → Option Nat) (T' : Tb) (w : World) (e : Ending) (w' : World) : Prop :=
  ∃ B', e = .returned (.tuple #[]) ∧ TbAt w' t km om B' T' ∧ Tn w w' B B'
theorem LnAt.form {w : World} {ob : Option Nat} {v : Value} {ws : List (Nat × Int)} {pop : Bool} (h : LnAt w ob v ws pop) : ∃ p n c, v = .slice p n c := by
  rcases h with ⟨_, r, _⟩ | ⟨lb, off, cap, cs, _, r, _⟩
  · exact ⟨_, _, _, r⟩
  · exact ⟨_, _, _, r⟩
section
variable {w : World} {t km om : Nat} {B : Tag → Option Nat} {T : Tb}
set_option maxRecDepth 100000 in
set_option maxHeartbeats 4000000 in
theorem stand_any (h : TbAt w t km om B T) {o : Nat} (ho : KO.dom o) {k : Key} (hk : KL.dom k) (m : Int) (hlk : (T.lk k).isSome = true) (hoo : T.oo.length < maxLen)
    (hln : (T.lkOf k).line.length ≤ 1000000000) (hmn : -1000000000 ≤ T.many ∧ T.many ≤ 1000000000) :
    Calls Try.prog 29 #[.pointer (some ⟨t, 0, none⟩), .int .u64 (o : Int), kv k, .int .i64 m] w (RetStand t km om B (T.stand o k m) w) := by
  obtain ⟨l, hl⟩ := Option.isSome_iff_exists.1 hlk
  have hlo : T.lkOf k = l := lkOf_of hl
  rw [hlo] at hln
  have g1 : Gr w (w.alloc (.cells #[.int .i64 k.1, .int .i64 k.2] TKey)) := (Gr.refl w).alloc (Nat.le_refl _) _
  have h1 := h.gr g1
  have b6 := (Blk.new w TKey #[.int .i64 k.1, .int .i64 k.2])
  obtain ⟨bl, hm0, v0, e1, e2, e3, e4, e5⟩ := h1.lk k l hl
  obtain ⟨k1, hk1⟩ : ∃ x, x = k.1 := ⟨_, rfl⟩
  obtain ⟨k2, hk2⟩ : ∃ x, x = k.2 := ⟨_, rfl⟩
  show Calls Try.prog 29 #[.pointer (some ⟨t, 0, none⟩), .int .u64 (o : Int), .agg #[.int .i64 k.1, .int .i64 k.2], .int .i64 m] w _
  rw [← hk1, ← hk2] at g1 h1 b6 e3 e4 e5 ⊢
  obtain ⟨W0, hW0⟩ : ∃ W0, W0 = w.alloc (.cells #[.int .i64 k1, .int .i64 k2] TKey) := ⟨_, rfl⟩
  rw [← hW0] at g1 h1 b6 e3 e4 e5
  have hkb : ¬ FB B w.heap.size := fun ⟨a, ha⟩ => by have := h.lt a _ ha; omega
  have c0 := h1.c3.1
  have hkv : kv k = .agg #[.int .i64 k1, .int .i64 k2] := by rw [hk1, hk2]; rfl
  have hl6 := (h1.stays (w' := W0.drewN 1) (fun _ _ _ => rfl)).look hk
  rw [hkv, e1] at hl6
  have hl' : (Instr.lookup TMk (.map (some km)) (.agg #[.int .i64 k1, .int .i64 k2]) false).run Try.prog W0.drew = .ok (.pointer (some ⟨bl, 0, none⟩)) W0.drew := hl6
  have HM1 : Hid (Calls Try.prog 43 #[.pointer (some ⟨t, 0, none⟩), .int .u64 (o : Int)] W0.drew (RetMade t km om B T o W0.drew)) := Lib.hid (made_any (h1.stays (w' := W0.drew) (fun _ _ _ => rfl)) ho hoo)
  obtain ⟨kb, hkbe⟩ : ∃ kb, kb = w.heap.size := ⟨_, rfl⟩
  rw [← hkbe] at b6 hkb
  have HB := Lib.hid b6
  have HN := Lib.hid hkb
  have HK := Lib.hid hkv
  have HW0 := Lib.hid (And.intro hW0 hkbe)
  have x0 := b6.cell 0
  have x1 := b6.cell 1
  simp at x0 x1
  have HH := Lib.hid (And.intro True.intro (And.intro hln (And.intro hmn (And.intro hl (And.intro hlo (And.intro g1 (And.intro e1 h.bt)))))))
  clear h h1 b6 g1 hkb hl6 hkv hW0 hkbe hk1 hk2 e1 e2 e3 e4 e5 hl hlo hln hmn hlk hoo
  go_enter Try.func29, Try.ntmps29
  go_upto_region 1 with fail
  rw [show (w.alloc (.cells #[.int .i64 k1, .int .i64 k2] 29)) = W0 from HW0.out.1.symm, ← HW0.out.2]
  go_cut [8, 9] (fun s8 s9 wc => Hid (∃ b B', s8 = .pointer (some ⟨bl, 0, none⟩) ∧ s9 = .pointer (some ⟨b, 0, none⟩) ∧ B' (.py o) = some b ∧ B' (.lk k) = some bl ∧ TbAt wc t km om B' (T.made o) ∧ Tn W0 wc B B'))
  case first =>
    go_region_with (go_at_call 43; refine HM1.out.mono ?_; rintro e w2 ⟨b, B', rfl, q1, q2, q3, q4⟩; have hl2 := q2.look hk; rw [(q4 k).1, HH.out.2.2.2.2.2.2.1, HK.out] at hl2; have d0 := q2.c3.1; have y0 := (q3.blk (HB.out.drew) HN.out).cell 0; have y1 := (q3.blk (HB.out.drew) HN.out).cell 1; simp at y0 y1; have Q := Lib.hid (And.intro q1 (And.intro q2 (And.intro q3 (q4 k).1))); clear q1 q2 q3 q4)
    all_goals
      go_wp2_with fail
      go_meet
      exact Lib.hid ⟨_, _, rfl, rfl, Q.out.1, Q.out.2.2.2.trans HH.out.2.2.2.2.2.2.1, Q.out.2.1, (Tn.of_gr (Gr.refl W0).drew).trans Q.out.2.2.1⟩
  case rest =>
    obtain ⟨b, B1, e8, e9, q1, q2, q3, q4⟩ := hcut.out
    subst e8 e9
    clear hcut x0 x1 c0 hl' HM1
    obtain ⟨-, hln, hmn, hl, hlo, g1, eb, hbt⟩ := HH.out
    have hl1 : (T.made o).lk k = some l := by rw [made_lk]; exact hl
    obtain ⟨bl', hm, v, s1, s2, s3, s4, s5⟩ := q3.lk k l hl1
    rw [q2] at s1
    cases s1
    obtain ⟨P, hP⟩ : ∃ P, P = T.of o := ⟨_, rfl⟩
    have ho1 : (T.made o).py o = some P := by rw [made_py, hP]
    obtain ⟨b', hp, f1, f2, f3, f4⟩ := q3.py o P ho1
    rw [q1] at f1
    cases f1
    obtain ⟨N, hN⟩ : ∃ N, N = l.line.length := ⟨_, rfl⟩
    obtain ⟨p, cp, hv⟩ : ∃ p cp, v = .slice p N cp := by
      rcases s5 with ⟨_, r2, r3⟩ | ⟨lb, off, cap, cs, _, r2, _⟩
      · exact ⟨none, 0, by rw [r2, hN, r3]; rfl⟩
      · exact ⟨_, cap, by rw [r2, hN]⟩
    subst hv
    have HA := Lib.hid (fun V (g : Gr wc V) => has_any V (a := .int .i64 P.key.1) (b := .int .i64 P.key.2) (m := .int .i64 P.mode) rfl rfl rfl (.inr ⟨hp, rfl, f4.stays (g.block _ f4.lt)⟩) hk)
    rw [HK.out] at HA
    have HPb := Lib.hid (fun V (g : Gr wc V) => f3.gr g)
    obtain ⟨Y, hY⟩ : ∃ Y, Y = decide (k ∈ P.ks) := ⟨_, rfl⟩
    obtain ⟨O1, hO1⟩ : ∃ O1, O1 = P.key.1 := ⟨_, rfl⟩
    obtain ⟨O2, hO2⟩ : ∃ O2, O2 = P.key.2 := ⟨_, rfl⟩
    obtain ⟨O3, hO3⟩ : ∃ O3, O3 = P.mode := ⟨_, rfl⟩
    rw [← hO1, ← hO2, ← hO3] at HA HPb
    rw [← hY] at HA
    have HKB := Lib.hid (q4.blk HB.out HN.out)
    obtain ⟨Z, hZ⟩ : ∃ Z : Nat, Z = if Y = true then 0 else N := ⟨_, rfl⟩
    have z2 := s3.cell 2
    simp at z2
    have HQ := Lib.hid (And.intro q1 (And.intro q2 (And.intro q3 (And.intro q4 (And.intro hl1 (And.intro s3 (And.intro s5 (And.intro ho1 (And.intro hP (And.intro hN hY))))))))))
    clear hln hmn hl hlo g1 eb hbt hl1 s2 s3 s4 s5 hP ho1 f2 f3 f4 hN hY hO1 hO2 hO3 q1 q2 q3 q4
    go_upto_region 3 with fail
    refine Flow.region (SlStand3 kb b hp k1 k2 O1 O2 O3 Y) (Gr wc) (fun _ _ => True) (by kernel_rfl) (by kernel_rfl) (fun _ _ _ _ h _ => h) ⟨rfl, rfl, rfl, Nat.le_refl _, fun _ _ => rfl⟩ ?steps ?fin
    case steps =>
      refine Flow.Steps.cons (fun a W hfr hinv hdep K hK => ?_) ?_
      · have s9 : a.tmps.getD 9 undef = .pointer (some ⟨b, 0, none⟩) := hfr.at 9 (by kernel_rfl)
        have t9 : a.tmps[9]?.getD undef = .pointer (some ⟨b, 0, none⟩) := by simpa using s9
        rw [if_pos (Flow.wanted_none rfl)]
        clear hfr hdep
        go_simp
        exact hK _ _ True.intro hinv (fun d hd => by cases hd; trivial)
      refine Flow.Steps.cons (fun a W hfr hinv hdep K hK => ?_) ?_
      · have s25 : a.tmps.getD 25 undef = .pointer (some ⟨b, 0, none⟩) := hdep 25 (by kernel_rfl)
        have t25 : a.tmps[25]?.getD undef = .pointer (some ⟨b, 0, none⟩) := by simpa using s25
        rw [if_pos (Flow.wanted_none rfl)]
        clear hfr hdep
        go_simp
        exact hK _ _ True.intro hinv (fun d hd => by cases hd; trivial)
      refine Flow.Steps.cons (fun a W hfr hinv hdep K hK => ?_) ?_
      · have s26 : a.tmps.getD 26 undef = .pointer (some ⟨b, 0, none⟩) := hdep 26 (by kernel_rfl)
        have t26 : a.tmps[26]?.getD undef = .pointer (some ⟨b, 0, none⟩) := by simpa using s26
        have kc := (HKB.out.gr hinv).cell 0; have kd := (HKB.out.gr hinv).cell 1; have pa := (HPb.out W hinv).cell 0; have pb := (HPb.out W hinv).cell 1; have pc := (HPb.out W hinv).cell 2; have pd := (HPb.out W hinv).cell 3; simp at kc kd pa pb pc pd
        rw [if_pos (Flow.wanted_none rfl)]
        clear hfr hdep
        go_simp
        exact hK _ _ True.intro hinv (fun d hd => by cases hd; trivial)
      refine Flow.Steps.cons (fun a W hfr hinv hdep K hK => ?_) ?_
      · have s6 : a.tmps.getD 6 undef = .pointer (some ⟨kb, 0, none⟩) := hfr.at 6 (by kernel_rfl)
        have t6 : a.tmps[6]?.getD undef = .pointer (some ⟨kb, 0, none⟩) := by simpa using s6
        have kc := (HKB.out.gr hinv).cell 0; have kd := (HKB.out.gr hinv).cell 1; have pa := (HPb.out W hinv).cell 0; have pb := (HPb.out W hinv).cell 1; have pc := (HPb.out W hinv).cell 2; have pd := (HPb.out W hinv).cell 3; simp at kc kd pa pb pc pd
        rw [if_pos (Flow.wanted_none rfl)]
        clear hfr hdep
        go_simp
        exact hK _ _ True.intro hinv (fun d hd => by cases hd; trivial)
      refine Flow.Steps.cons (fun a W hfr hinv hdep K hK => ?_) ?_
      · have s27 : a.tmps.getD 27 undef = .agg #[.map (some hp), .int .i64 O1, .int .i64 O2, .int .i64 O3] := hdep 27 (by kernel_rfl)
        have t27 : a.tmps[27]?.getD undef = .agg #[.map (some hp), .int .i64 O1, .int .i64 O2, .int .i64 O3] := by simpa using s27
        have s28 : a.tmps.getD 28 undef = .agg #[.int .i64 k1, .int .i64 k2] := hdep 28 (by kernel_rfl)
        have t28 : a.tmps[28]?.getD undef = .agg #[.int .i64 k1, .int .i64 k2] := by simpa using s28
        rw [if_pos (Flow.wanted_none rfl)]
        clear hfr hdep
        go_simp
        refine (HA.out W hinv).mono ?_
        rintro e W' ⟨rfl, g1⟩
        exact hK _ _ True.intro (Gr.trans hinv g1) (fun d hd => by cases hd; trivial)
      exact True.intro
    case fin =>
      intro a W hfr hfin hsl
      have s29 : a.tmps.getD 29 undef = .bool Y := hsl 4 _ 29 rfl rfl
      have t29 : a.tmps[29]?.getD undef = .bool Y := by simpa using s29
      have e := Flow.frame hfr [25, 26, 27, 28, 29] (List.range 58) (by kernel_rfl) (by kernel_rfl)
      simp [List.range, List.range.loop] at e
      rw [t29] at e
      rw [e]
      clear e hfr hsl s29 t29
      rename_i K2 hK2
      refine hK2 _ _ ?_
      have HG3 := Lib.hid hfin
      clear hfin
      go_cut [10] (fun s10 wx => s10 = .int .i64 (Z : Int) ∧ Hid (Gr wc wx))
      case first =>
        cases Y with
        | true =>
          rw [if_pos rfl] at hZ
          subst hZ
          go_wp2_with fail
          go_meet
          exact ⟨rfl, HG3⟩
        | false =>
          rw [if_neg (by simp)] at hZ
          subst hZ
          go_wp2_with fail
          go_meet
          exact ⟨rfl, HG3⟩
      case rest =>
        obtain ⟨rfl, HG4⟩ := hcut
        obtain ⟨q1, q2, q3, q4, hl1, s3, s5, ho1, hP, hN, hY⟩ := HQ.out
        obtain ⟨-, hln, hmn, hl, hlo, g1, eb, hbt⟩ := HH.out
        have g4 := HG4.out
        obtain ⟨W8, hW8⟩ : ∃ W8, W8 = wc.alloc (.cells #[.int .u64 (o : Int), .int .i64 m] TWt) := ⟨_, rfl⟩
        have g8 : Gr wc W8 := by rw [hW8]; exact (Gr.refl wc).alloc (Nat.le_refl _) _
        have wb8 : Blk W8 wc.heap.size TWt #[.int .u64 (o : Int), .int .i64 m] := by rw [hW8]; exact Blk.new wc TWt #[.int .u64 (o : Int), .int .i64 m]
        have ln8 : LnAt W8 (B1 (.ln k)) (.slice p N cp) l.line l.pop := s5.stays fun n hn => (Gr.trans g4 g8).block n (s5.lt n hn)
        have z2x := (s3.gr g4).cell 2
        simp at z2x
        have HIn := Lib.hid (insert_place ln8 hN Y hln wb8 (fun e => by have := q3.lt _ _ e; have := g4.size; omega) hZ)
        have HG8 := Lib.hid (And.intro g8 hW8)
        clear hln hmn hl hlo g1 eb hbt hl1 s3 s5 hP ho1 hN hY q1 q2 q3 q4 g4 hW8 g8 wb8 ln8 z2 hZ
        go_upto_region 5 with fail
        go_wp2_with (rw [show (wc.alloc (.cells #[.int .u64 (o : Int), .int .i64 m] 74)) = W8 from HG8.out.2.symm])
        refine HIn.out.mono ?_
        rintro e W9 ⟨v', ob', rfl, r1, r2, r3⟩
        obtain ⟨p2, n2, cp2, rfl⟩ := r1.form
        obtain ⟨q1, q2, q3, q4, hl1, s3, s5, ho1, hP, hN, hY⟩ := HQ.out
        have g48 := Gr.trans HG4.out HG8.out.1
        have hkF := q4.far HB.out.lt HN.out
        obtain ⟨tA, nA⟩ := q3.growLine hl1 q2 g48 r2 r1 r3
        have hlnb : B1 (.ln k) ≠ some bl := fun e => q3.ne e q2 (by simp) rfl
        have s9 := (s3.gr g48).stays (r2.block bl (s3.gr g48).lt (fun e => hlnb e.symm))
        have y2 := s9.cell 2
        have yf := s9.frozen 2
        simp at y2
        have kb10 := nA.blk HKB.out hkF
        obtain ⟨W10, hW10⟩ : ∃ W10, W10 = W9.setCell ⟨bl, 2, none⟩ (.slice p2 n2 cp2) := ⟨_, rfl⟩
        rw [← hW10] at tA nA kb10
        have HT := Lib.hid (And.intro tA (And.intro nA (And.intro kb10 (And.intro (nA.far HKB.out.lt hkF) hW10))))
        clear q1 q2 q3 q4 hl1 s3 s5 ho1 hP hN hY g48 hkF tA nA hlnb s9 kb10 hW10 r1 r2 r3
        go_upto_region 6 with fail
        rw [← HT.out.2.2.2.2]
        obtain ⟨q1, q2, q3, q4, hl1, s3, s5, ho1, hP, hN, hY⟩ := HQ.out
        obtain ⟨tA, nA, kb10, hkF, -⟩ := HT.out
        have e1 : updF B1 (.ln k) ob' (.py o) = some b := by rw [updF_other _ _ (by simp)]; exact q1
        obtain ⟨b', hp', f1, f2, f3, f4⟩ := tA.py o P ho1
        rw [e1] at f1
        cases f1
        have pz1 := f3.cell 1
        have pz2 := f3.cell 2
        have pz3 := f3.cell 3
        have pf1 := f3.frozen 1
        have pf2 := f3.frozen 2
        have pf3 := f3.frozen 3
        have y0 := kb10.cell 0
        have y1 := kb10.cell 1
        simp at pz1 pz2 pz3 y0 y1
        have hkv := HK.out
        have hk12 : k.1 = k1 ∧ k.2 = k2 := by
          have : #[Value.int .i64 k.1, .int .i64 k.2] = #[Value.int .i64 k1, .int .i64 k2] := by
            unfold kv at hkv
            injection hkv
          simpa using this
        obtain ⟨tB, nB⟩ := tA.setParty (o := o) (p := P) ho1 e1 k m
        rw [hk12.1, hk12.2] at tB nB
        have HTB := Lib.hid (And.intro tB (And.intro (nA.trans nB) (And.intro hk12.1 hk12.2)))
        clear q1 q2 q3 q4 hl1 s3 s5 ho1 hP hN hY tA nA kb10 hkF e1 f2 f3 f4 hkv hk12 tB nB y2 yf z2x
        go_upto_region 7 with fail
        obtain ⟨W11, hW11⟩ : ∃ W11, W11 = ((W10.setCell ⟨b, 1, none⟩ (.int .i64 k1)).setCell ⟨b, 2, none⟩ (.int .i64 k2)).setCell ⟨b, 3, none⟩ (.int .i64 m) := ⟨_, rfl⟩
        rw [← hW11]
        have HTC := HTB.out
        rw [← hW11] at HTC
        obtain ⟨tB, nB, hk1, hk2⟩ := HTC
        obtain ⟨M, hM⟩ : ∃ M, M = T.many := ⟨_, rfl⟩
        have hmany : (T.made o).many = M := by
          rw [hM]
          unfold Tb.made
          cases T.py o <;> rfl
        have c2 : W11.cell? ⟨t, 2, none⟩ = some (.int .i64 M) := by rw [← hmany]; exact tB.c3.2.2
        have cf := tB.blk.frozen 2
        obtain ⟨tC, nC⟩ := tB.setMany (M + 1)
        obtain ⟨-, hln, ⟨hm1, hm2⟩, hl, hlo, g1, eb, hbt⟩ := HH.out
        rw [← hM] at hm1 hm2
        have hT : T.stand o k m = { T.made o with many := M + 1, lk := updF (T.made o).lk k (some { l with line := lineIn Y o m l.line }), py := updF (T.made o).py o (some { P with key := k, mode := m }) } := by
          unfold Tb.stand
          rw [hlo, made_lk, ← HQ.out.2.2.2.2.2.2.2.2.1, ← HQ.out.2.2.2.2.2.2.2.2.2.2, hM]
        have HE : Hid (RetStand t km om B (T.stand o k m) w (.returned (.tuple #[])) (W11.setCell ⟨t, 2, none⟩ (.int .i64 (M + 1)))) := Lib.hid ⟨_, rfl, by rw [hT]; exact tC, (((Tn.of_gr g1).trans HQ.out.2.2.2.1).trans nB).trans nC⟩
        clear hW11 hk1 hk2 hM hmany tB nB tC nC hln hl hlo g1 eb hbt hT pz1 pz2 pz3 pf1 pf2 pf3 y0 y1
        go_wp2_with fail
        go_end0
        exact HE.out
end
end Go.Proofs.Ytbmcdlcoojmppaa

