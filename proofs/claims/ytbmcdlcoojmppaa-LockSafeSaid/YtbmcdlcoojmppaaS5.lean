/-
  Texts on locks, put together: LkSafe1 LkOpen LockSafeWalk.
-/
import Derived.ProofKit
import Derived.OpenShut
import Derived.ShutString
import Derived.ChangeOld
import Derived.Deep.Slices
import Derived.Deep.RegionHeld3
import Derived.IntWalk
import Derived.Test.YtbmcdlcoojmppaaS4
import Derived.Test.YtbmcdlcoojmppaaA17
import Derived.Test.YtbmcdlcoojmppaaA24
import Derived.Test.YtbmcdlcoojmppaaA2
import Derived.Test.YtbmcdlcoojmppaaA26
/-
  The law LockSafe: how it stands while acts go in, and while all let go.
-/
namespace Go.Proofs.Ytbmcdlcoojmppaa
open Go.RowKit Go.Maps

theorem safe_ready_oo {X : Key → Prop} {T : Tb} (h : InvX X T) (o : Nat) (k : Key) (q : Nat) (hq : q ∈ (T.ready o k).oo) : q = o ∨ q ∈ T.oo := by
  refine (made_oo_mem h o q).1 ?_
  unfold Tb.ready Tb.locked at hq
  cases e : (T.made o).lk k <;> rw [e] at hq <;> exact hq
theorem safe_ask_oo {T : Tb} (h : Inv T) (o : Nat) (k : Key) (m : Int) (R : Bool) : ∀ q, q ∈ (T.ask o k m R).2.oo → q = o ∨ q ∈ T.oo := by
  intro q
  unfold Tb.ask
  split
  · exact .inr
  split
  · exact .inr
  split
  · exact .inr
  split
  · exact .inr
  split
  · exact .inr
  split
  · exact fun hq => safe_ready_oo h o k q hq
  split
  · exact .inr
  · exact fun hq => (made_oo_mem h o q).1 hq
/-- How it stands so many acts in: e are the owners that are not yet in the law's own row. -/
structure SfAt (w0 w : World) (t km om : Nat) (B : Tag → Option Nat) (T : Tb) (ow : List Nat) (ov : Value) (e : List Nat) (j : Nat) : Prop where
  tb : TbAt w t km om B T
  inv : Inv T
  ac : Acyc T
  ol : T.oo.length ≤ j
  kl : T.kk.length ≤ j
  sub : ∀ x, x ∈ T.oo → x ∈ ow ∨ x ∈ e
  nd : ow.Nodup
  lo : ow.length ≤ j
  dm : ∀ x, x ∈ ow → KO.dom x
  us : Us w w0.heap.size ov ow
  fw : ∀ n, FB B n → w0.heap.size ≤ n
  gr : Gr w0 w
section
variable {w0 w w' : World} {t km om o j : Nat} {B : Tag → Option Nat} {T : Tb} {ow e : List Nat} {ov : Value}
theorem SfAt.more (h : SfAt w0 w t km om B T ow ov e j) (g : Gr w w') : SfAt w0 w' t km om B T ow ov e j :=
  { h with tb := h.tb.gr g, us := h.us.gr g, gr := Gr.trans h.gr g }
theorem SfAt.turned (h : SfAt w0 w t km om B T ow ov [] j) {B' : Tag → Option Nat} {T' : Tb} {i : Nat} (hji : j ≤ i) (r : TbAt w' t km om B' T') (n : Tn w w' B B') (hi : Inv T') (ha : Acyc T') (h1 : T'.oo.length ≤ i) (h2 : T'.kk.length ≤ i) {e : List Nat} (h3 : ∀ q, q ∈ T'.oo → q ∈ e ∨ q ∈ T.oo) :
    SfAt w0 w' t km om B' T' ow ov e i := by
  obtain ⟨a, b⟩ := n.from0 h.gr h.fw
  have hsub : ∀ x, x ∈ T'.oo → x ∈ ow ∨ x ∈ e := fun x hx => by
    rcases h3 x hx with e | e
    · exact .inr e
    · rcases h.sub x e with e | e
      · exact .inl e
      · cases e
  exact ⟨r, hi, ha, h1, h2, hsub, h.nd, Nat.le_trans h.lo hji, h.dm, h.us.tn n (h.us.far h.tb), b, a⟩
theorem SfAt.asked (h : SfAt w0 w t km om B T ow ov [] j) (ho : KO.dom o) {k : Key} (hk : KL.dom k) {m : Int} {x : Ending} (r : RetAskI t km om B T o k m w x w') :
    ∃ B' T' c, x = .returned (.int .i64 c) ∧ SfAt w0 w' t km om B' T' ow ov [o] (j + 1) := by
  obtain ⟨R, hR, B', rfl, r1, r2⟩ := r
  obtain ⟨i1, i2, i3⟩ := ask_inv (k := k) (m := m) (R := R) h.inv ho hk (fun e1 e2 e3 => by
    have := (hR e1).2 e3
    rw [e2] at this
    cases this)
  exact ⟨B', _, _, rfl, h.turned (Nat.le_succ _) r1 r2 i1 (ask_acyc h.inv h.ac hR) (by have := h.ol; omega) (by have := h.kl; omega) (fun q hq => by
    rcases safe_ask_oo h.inv o k m R q hq with e | e
    · exact .inl (by simp [e])
    · exact .inr e)⟩
theorem SfAt.freed (h : SfAt w0 w t km om B T ow ov [] j) (hj : j ≤ 60) {i : Nat} (hji : j ≤ i) (e : List Nat) {x : Ending} (r : RetFree t km om B (T.freed o) (T.came o) w x w') :
    ∃ v B', x = .returned v ∧ SfAt w0 w' t km om B' (T.freed o) ow ov e i := by
  obtain ⟨v, B', rfl, -, r1, r2, -⟩ := r
  have hol := h.ol
  have hkl := h.kl
  obtain ⟨i1, i2, i3⟩ := freed_inv h.inv o (by omega) (by omega)
  exact ⟨v, B', rfl, h.turned hji r1 r2 i1 (freed_acyc h.inv h.ac o) (by omega) (by omega) (fun q hq => .inr (by
    rw [freed_oo h.inv o (by omega) (by omega), mem_delK] at hq
    exact hq.1))⟩
theorem SfAt.had (h : SfAt w0 w t km om B T ow ov [o] j) (ho : o ∈ ow) : SfAt w0 w t km om B T ow ov [] j :=
  have hs : ∀ x, x ∈ T.oo → x ∈ ow ∨ x ∈ [] := fun x hx => by
    rcases h.sub x hx with e | e
    · exact .inl e
    · simp at e
      exact .inl (by rw [e]; exact ho)
  { h with sub := hs }
theorem SfAt.app (h : SfAt w0 w t km om B T ow ov [o] (j + 1)) (hl : ow.length ≤ j) (hn : o ∉ ow) (hd : KO.dom o) {v' : Value} (us2 : Us w' w0.heap.size v' (ow ++ [o])) (h3 : w.grownBy w' ov.ownBlock) : SfAt w0 w' t km om B T (ow ++ [o]) v' [] (j + 1) := by
  refine ⟨h.tb.row h3 (h.us.far h.tb), h.inv, h.ac, h.ol, h.kl, fun x hx => .inl ?_, ?_, by rw [List.length_append]; simp; omega, fun x hx => ?_, us2, h.fw, gr_grown h.gr h3 (fun n e => (h.us.lt n e).1)⟩
  · rcases h.sub x hx with e | e <;> simp at e ⊢
    · exact .inl e
    · exact .inr e
  · rw [List.nodup_append]
    refine ⟨h.nd, by simp, fun a ha b hb e => ?_⟩
    simp at hb
    exact hn (by rw [← hb, ← e]; exact ha)
  · rcases List.mem_append.1 hx with e | e
    · exact h.dm x e
    · simp at e; rw [e]; exact hd
/-- As all let go, one behind the other: what a round has done so far. -/
def Going (n0 : Nat) (T : Tb) (gone : List Nat) : Prop := T.oo = [] ∨ T.oo.length < n0 ∨ (T.oo.length ≤ n0 ∧ ∃ m, m ∈ T.oo ∧ (T.of m).mode = 0 ∧ m ∉ gone)
theorem Going.start (hi : Inv T) (ha : Acyc T) : Going T.oo.length T [] := by
  by_cases e : T.oo = []
  · exact .inl e
  · obtain ⟨q, h1, h2⟩ := some_free hi ha e
    exact .inr (.inr ⟨Nat.le_refl _, q, h1, h2, by simp⟩)
theorem delK_lt {a : Nat} {ks : List Nat} (h : a ∈ ks) : (delK a ks).length < ks.length := by
  have h1 : (delK a ks).length ≤ ks.length := delK_len _ _
  rcases Nat.lt_or_ge (delK a ks).length ks.length with e | e
  · exact e
  · exfalso
    have h2 : delK a ks = ks := by
      unfold delK at e ⊢
      exact List.filter_eq_self.2 (List.length_filter_eq_length_iff.1 (Nat.le_antisymm (List.length_filter_le _ _) e))
    have := (mem_delK (a := a) (ks := ks) (b := a)).1 (by rw [h2]; exact h)
    exact this.2 rfl
theorem Going.stays {n0 : Nat} {gone : List Nat} (h : Going n0 T gone) {q : Nat} (hq : (T.of q).mode ≠ 0) : Going n0 T (gone ++ [q]) := by
  rcases h with e | e | ⟨e, m, h1, h2, h3⟩
  · exact .inl e
  · exact .inr (.inl e)
  · refine .inr (.inr ⟨e, m, h1, h2, fun h4 => ?_⟩)
    rcases List.mem_append.1 h4 with h5 | h5
    · exact h3 h5
    · simp at h5
      rw [h5] at h2
      exact hq h2
theorem Going.goes {n0 : Nat} {gone : List Nat} (h : Going n0 T gone) (hi : Inv T) (ho : T.oo.length ≤ 10000) (hk : T.kk.length ≤ 10000) (q : Nat) : Going n0 (T.freed q) (gone ++ [q]) := by
  have e0 := freed_oo hi q ho hk
  have e1 : (T.freed q).oo.length ≤ T.oo.length := by rw [e0]; exact delK_len _ _
  rcases h with e | e | ⟨e, m, h1, h2, h3⟩
  · exact .inl (by rw [e0, e]; rfl)
  · exact .inr (.inl (by omega))
  · by_cases hm : m = q
    · subst hm
      have := delK_lt h1
      exact .inr (.inl (by rw [e0]; omega))
    · refine .inr (.inr ⟨by omega, m, by rw [e0, mem_delK]; exact ⟨h1, hm⟩, freed_mode h2, fun h4 => ?_⟩)
      rcases List.mem_append.1 h4 with h5 | h5
      · exact h3 h5
      · simp at h5
        exact hm h5
theorem Going.ends {n0 : Nat} (h : Going n0 T ow) (hs : ∀ x, x ∈ T.oo → x ∈ ow) : T.oo = [] ∨ T.oo.length < n0 := by
  rcases h with e | e | ⟨e, m, h1, h2, h3⟩
  · exact .inl e
  · exact .inr e
  · exact absurd (hs m h1) h3
end
end Go.Proofs.Ytbmcdlcoojmppaa

/-
  Acts of the laws on locks, as they come in.
-/
namespace Go.Proofs.Ytbmcdlcoojmppaa
open Go.ChangeShapes Go.WideShapes Go.ChangeAt Go.RowKit Go.Maps

theorem u64Of {x : Int} (h : (Lit.int .u64 x).wf = true) : 0 ≤ x ∧ x ≤ 18446744073709551615 := by
  have h1 : IntKind.u64.min = 0 := rfl
  have h2 : IntKind.u64.max = 18446744073709551615 := rfl
  simp only [Lit.wf, Bool.and_eq_true, decide_eq_true_eq] at h
  omega
theorem i64Of {x : Int} (h : (Lit.int .i64 x).wf = true) : -9223372036854775808 ≤ x ∧ x ≤ 9223372036854775807 := by
  have h1 : IntKind.i64.min = -9223372036854775808 := rfl
  have h2 : IntKind.i64.max = 9223372036854775807 := rfl
  simp only [Lit.wf, Bool.and_eq_true, decide_eq_true_eq] at h
  omega
/-- An act of the laws. -/
structure LAct where
  free : Bool
  ow : Nat
  k : Key
  m : Int
def LAct.cells (a : LAct) : List Value := [.bool a.free, .int .u64 (a.ow : Int), .int .i64 a.k.1, .int .i64 a.k.2, .int .i64 a.m]
structure LAct.In (a : LAct) : Prop where
  o : KO.dom a.ow
  k : KL.dom a.k
  m0 : -9223372036854775808 ≤ a.m
  m1 : a.m ≤ 9223372036854775807
structure LActs (w : World) (p : Option Addr) (n c : Nat) (f : Nat → LAct) : Prop where
  cap : n ≤ c
  most : c ≤ maxLen
  lies : 0 < n → ∃ b o, p = some ⟨b, o, none⟩ ∧ ∀ i, i < n → (f i).In ∧ ∀ j v, (f i).cells[j]? = some v → w.cell? ⟨b, o + i * 5 + j, none⟩ = some v
/-- A row of it, in each world that has grown. -/
theorem LActs.row {w : World} {p : Option Addr} {n c : Nat} {f : Nat → LAct} (h : LActs w p n c f) (k : Nat) (hk : k < n) : ∃ b o, p = some ⟨b, o, none⟩ ∧ (f k).In ∧ ∀ V, Below w.heap.size w V → ∀ j v, (f k).cells[j]? = some v → V.cell? ⟨b, o + k * 5 + j, none⟩ = some v := by
  obtain ⟨b, o, rfl, hc⟩ := h.lies (by omega)
  obtain ⟨h1, h2⟩ := hc k hk
  exact ⟨b, o, rfl, h1, fun V g j v hv => by rw [g.cell (World.block_lt_of_cell? w _ (h2 j v hv))]; exact h2 j v hv⟩
abbrev TAl : TypeId := 32
set_option maxRecDepth 100000 in
/-- An argument of type []Act, opened. -/
theorem openLActs {H : Type} {enc : TypeId × Value → H} {W : World} {a : Option Addr} {len cap : Nat} {d : DataW H} {p : List MemPlace}
    (h : DataW.Trod enc Try.prog W 0 (fun _ => true) true 22 (.slice a len cap) d p) : ∃ f, LActs W a len cap f := by
  obtain ⟨fuel, hf⟩ := h
  have hc : Try.prog.cellsOf TAl = 5 := by kernel_rfl
  have hc1 : Try.prog.cellsOf 4 = 1 := by kernel_rfl
  have hc2 : Try.prog.cellsOf 27 = 1 := by kernel_rfl
  have hc3 : Try.prog.cellsOf 29 = 2 := by kernel_rfl
  have hc4 : Try.prog.cellsOf 30 = 1 := by kernel_rfl
  have hc5 : Try.prog.cellsOf 3 = 1 := by kernel_rfl
  rcases Go.Deep.open_slice Try.underlying22 hf with ⟨hcs, _⟩ | ⟨x, l, c, m, n, D, Pl, hcs, _, hl, hm, hmm, _, hx⟩
  · simp [Value.cells] at hcs
    obtain ⟨rfl, rfl, rfl⟩ := hcs
    exact ⟨fun _ => ⟨false, 0, (0, 0), 0⟩, Nat.le_refl _, Nat.zero_le _, fun h => absurd h (Nat.lt_irrefl 0)⟩
  · simp [Value.cells] at hcs
    obtain ⟨rfl, rfl, rfl⟩ := hcs
    simp only [if_true] at hmm
    subst hmm
    have hc' : Try.prog.cellsOf 32 = 5 := hc
    rw [hc'] at hx
    have each : ∀ i, ∃ g : LAct, i < len → g.In ∧ ∀ j v, g.cells[j]? = some v → W.cell? ((x.add (i * 5)).add j) = some v := fun i => by
      by_cases hi : i < len
      · obtain ⟨cs, h1, h2⟩ := hx i (by omega)
        obtain ⟨_, hlen, hcells⟩ := World.cells?_some h1
        obtain ⟨xs, k, _, _, _, hlx, hff⟩ := DataW.trod_struct Try.underlying32 h2
        match xs, hlx with
        | [y0, y1, y2, y3], _ =>
          match cs, hlen with
          | [c0, c1, c2, c3, c4], _ =>
            have t0 := hff 0 _ rfl
            have t1 := hff 1 _ rfl
            have t2 := hff 2 _ rfl
            have t3 := hff 3 _ rfl
            simp [hc1] at t0
            simp [hc2] at t1
            simp [hc3] at t2
            simp [hc4] at t3
            obtain ⟨F, e0, _⟩ := DataW.trod_bool Try.underlying4 t0
            obtain ⟨O, e1, _, w1⟩ := DataW.trod_int Try.underlying27 t1
            obtain ⟨M, e3, _, w3⟩ := DataW.trod_int Try.underlying30 t3
            obtain ⟨ys, k2, _, _, _, hly, hgg⟩ := DataW.trod_struct Try.underlying29 t2
            match ys, hly with
            | [z0, z1], _ =>
              have s0 := hgg 0 _ rfl
              have s1 := hgg 1 _ rfl
              simp [hc5] at s0
              simp [hc5] at s1
              obtain ⟨K1, e4, _, w4⟩ := DataW.trod_int Try.underlying3 s0
              obtain ⟨K2, e5, _, w5⟩ := DataW.trod_int Try.underlying3 s1
              simp at e0 e1 e3 e4 e5
              subst e0 e1 e3 e4 e5
              have b1 := u64Of w1
              have b3 := i64Of w3
              have b4 := i64Of w4
              have b5 := i64Of w5
              obtain ⟨N, rfl⟩ := Int.eq_ofNat_of_zero_le b1.1
              refine ⟨⟨F, N, (K1, K2), M⟩, fun _ => ⟨⟨(show N ≤ _ by omega), ⟨b4, b5⟩, b3.1, b3.2⟩, fun j v hj => ?_⟩⟩
              have hlt : j < 5 := by have := (List.getElem?_eq_some_iff.1 hj).1; simpa [LAct.cells] using this
              rw [hcells j (by omega)]
              exact hj
      · exact ⟨⟨false, 0, (0, 0), 0⟩, fun h => absurd h hi⟩
    obtain ⟨f, hf2⟩ := Classical.axiomOfChoice each
    refine ⟨f, hl, hm, fun hn => ?_⟩
    have hc0 := (hf2 0 hn).2 0 _ rfl
    obtain ⟨b, o, sp⟩ := x
    obtain rfl : sp = none := by simpa [Addr.add] using World.cell?_spot hc0
    refine ⟨b, o, rfl, fun i hi => ⟨(hf2 i hi).1, fun j v hj => ?_⟩⟩
    have := (hf2 i hi).2 j v hj
    simpa only [Go.WideShapes.add_plain] using this
end Go.Proofs.Ytbmcdlcoojmppaa

/-
  The law LockSafe, walked.
-/
namespace Go.Proofs.Ytbmcdlcoojmppaa
open Go.RowKit Go.Maps

set_option maxRecDepth 100000 in
set_option maxHeartbeats 32000000 in
theorem lockSafe_walk (p : Option Addr) (n c : Nat) (f : Nat → LAct) (w : World) (hl : LActs w p n c f) :
    Calls Try.prog 3 #[.slice p n c] w fun e w' => e = .returned (.bool true) ∧ Gr w w' := by
  have HL := Lib.hid hl
  have hnm : n ≤ maxLen := Nat.le_trans hl.cap hl.most
  unfold maxLen at hnm
  clear hl
  go_enter Try.func3, Try.ntmps3
  go_wp2_with fail
  refine (known10_any w).mono ?_
  rintro e w1 ⟨rfl, g1⟩
  have G1 := Lib.hid g1
  clear g1
  by_cases hbig : 40 < n
  · have hbz : (40 : Int) < (n : Int) := by omega
    go_wp2_with fail
    go_ret
    exact ⟨rfl, G1.out⟩
  · have hbz : ¬ (40 : Int) < (n : Int) := by omega
    have hn40 : n ≤ 40 := by omega
    go_wp2_with fail
    refine (New_any w1).mono ?_
    rintro e w2 ⟨t, km, om, B0, rfl, t1, gr1, f1⟩
    have HS0 : Hid (SfAt w w2 t km om B0 Tb.new [] (.slice none 0 0) [] 0) := Lib.hid ⟨t1, new_inv, acyc_new, Nat.le_refl _, Nat.le_refl _, (fun x hx => by cases hx), List.nodup_nil, Nat.le_refl _, (fun x hx => by cases hx), Us.nil _ _, fun n hn => Nat.le_trans G1.out.size (f1 n hn), Gr.trans G1.out gr1⟩
    clear t1 gr1 f1
    go_wp2_with fail
    go_loopw [5, 4] (fun iv ov wr => ∃ (j : Nat), iv = .int .i64 (j : Int) ∧ j ≤ n ∧ Hid (∃ B T ow, SfAt w wr t km om B T ow ov [] j)) (fun iv _ _ => n - (intOf iv).toNat)
    case atStart => exact ⟨0, rfl, Nat.zero_le _, Lib.hid ⟨_, _, _, HS0.out⟩⟩
    case round =>
      obtain ⟨j, rfl, hj, HR⟩ := hrel
      by_cases hlt : j < n
      · have hltz : (j : Int) < (n : Int) := by omega
        have hw9 : IntKind.i64.wrap ((j : Int) + 1) = ((j + 1 : Nat) : Int) := by rw [IntWalk.i64_in _ (by omega)]; omega
        obtain ⟨B, T, ow, hS⟩ := HR.out
        obtain ⟨pb, off, rfl, hin, hrow⟩ := HL.out.row j hlt
        obtain ⟨a, ha⟩ : ∃ a, a = f j := ⟨_, rfl⟩
        obtain ⟨A, hA⟩ : ∃ A, A = off + j * 5 := ⟨_, rfl⟩
        rw [← ha] at hin
        rw [← ha, ← hA] at hrow
        have hA' : off + j * 5 = A := hA.symm
        obtain ⟨k, hk⟩ : ∃ k, k = a.k := ⟨_, rfl⟩
        obtain ⟨K1, hK1⟩ : ∃ x, x = k.1 := ⟨_, rfl⟩
        obtain ⟨K2, hK2⟩ : ∃ x, x = k.2 := ⟨_, rfl⟩
        obtain ⟨M, hM⟩ : ∃ x, x = a.m := ⟨_, rfl⟩
        obtain ⟨O, hO⟩ : ∃ x, x = a.ow := ⟨_, rfl⟩
        obtain ⟨F, hF⟩ : ∃ x, x = a.free := ⟨_, rfl⟩
        have hkd : KL.dom k := by rw [hk]; exact hin.k
        have hod : KO.dom O := by rw [hO]; exact hin.o
        have hkv : kv k = .agg #[.int .i64 K1, .int .i64 K2] := by rw [hK1, hK2]; rfl
        have HRow : Hid (∀ V, Gr w V → V.cell? ⟨pb, A, none⟩ = some (.bool F) ∧ V.cell? ⟨pb, A + 1, none⟩ = some (.int .u64 (O : Int)) ∧ V.cell? ⟨pb, A + 2, none⟩ = some (.int .i64 K1) ∧ V.cell? ⟨pb, A + 2 + 1, none⟩ = some (.int .i64 K2) ∧ V.cell? ⟨pb, A + 4, none⟩ = some (.int .i64 M)) := Lib.hid fun V g => by
          rw [hK1, hK2, hM, hk, hO, hF]
          exact ⟨hrow V g 0 _ rfl, hrow V g 1 _ rfl, hrow V g 2 _ rfl, hrow V g 3 _ rfl, hrow V g 4 _ rfl⟩
        obtain ⟨x0, x1, x2, x3, x4⟩ := HRow.out wr hS.gr
        have HK := Lib.hid (And.intro hkd (And.intro hkv hod))
        have HSt := Lib.hid hS
        clear hrow hA ha hin hS hkd hkv hk hK1 hK2 hM hO hF hod HR
        have HFr : Hid (∀ V, Gr wr V → Calls Try.prog 9 #[.pointer (some ⟨t, 0, none⟩), .int .u64 (O : Int)] V fun e w' => ∃ v B', e = .returned v ∧ SfAt w w' t km om B' (T.freed O) ow u4 [O] (j + 1)) := Lib.hid fun V g => by
          have h := HSt.out.more g
          have h1 := h.ol
          have h2 := h.kl
          exact (free_any h.tb h.inv (by omega) (by omega) HK.out.2.2).mono fun e w' r => h.freed (by omega) (Nat.le_succ _) _ r
        have HAs : Hid (∀ V, Gr wr V → Calls Try.prog 10 #[.pointer (some ⟨t, 0, none⟩), .int .u64 (O : Int), .agg #[.int .i64 K1, .int .i64 K2], .int .i64 M] V fun e w' => ∃ B' T' c, e = .returned (.int .i64 c) ∧ SfAt w w' t km om B' T' ow u4 [O] (j + 1)) := Lib.hid fun V g => by
          have h := HSt.out.more g
          have h1 := h.ol
          have h2 := h.kl
          have := (ask_any h.tb h.inv (by omega) (by omega) HK.out.2.2 HK.out.1 M).mono fun e w' r => h.asked HK.out.2.2 HK.out.1 r
          rw [HK.out.2.1] at this
          exact this
        go_upto_if 36 with fail
        go_cut [] from 37 to 60 (fun wx => ∃ B' T', Hid (SfAt w wx t km om B' T' ow u4 [O] (j + 1)))
        case first =>
          cases F
          · go_upto_region 14 with fail
            go_region_held3 (fun V => V.cell? ⟨pb, A + 1, none⟩ = some (.int .u64 (O : Int)) ∧ V.cell? ⟨pb, A + 2, none⟩ = some (.int .i64 K1) ∧ V.cell? ⟨pb, A + 2 + 1, none⟩ = some (.int .i64 K2) ∧ V.cell? ⟨pb, A + 4, none⟩ = some (.int .i64 M)) (first | exact ⟨x1, x2, x3, x4⟩ | exact ⟨y1, y2, y3, y4⟩) (first | (go_at_call 10; refine (HAs.out _ (Gr.refl wr).drew).mono ?_; rintro e w5 ⟨B5, T5, c5, rfl, h5⟩; obtain ⟨y0, y1, y2, y3, y4⟩ := HRow.out w5 h5.gr; have H5 := Lib.hid h5; clear h5))
            go_wp2_with fail
            go_meet
            exact ⟨B5, T5, H5⟩
          · go_wp2_with fail
            refine (HFr.out wr (Gr.refl wr)).mono ?_
            rintro e w5 ⟨v5, B5, rfl, h5⟩
            have H5 := Lib.hid h5
            clear h5
            go_wp2_with fail
            go_meet
            exact ⟨B5, _, H5⟩
        case rest =>
          obtain ⟨B1, T1, H1⟩ := hcut
          clear HFr HAs x0 x1 x2 x3 x4
          obtain ⟨x0, x1, x2, x3, x4⟩ := HRow.out wc H1.out.gr
          obtain ⟨p4, n4, c4, hv4, hn4, -, -⟩ := H1.out.us.split
          subst hv4
          have hn4b : n4 ≤ 40 := by have := HSt.out.lo; omega
          have HN4 := Lib.hid hn4
          clear hn4
          have HIn := Lib.hid (in_any H1.out.us.usl (by have := HSt.out.lo; omega) O)
          go_wp2_with fail
          refine HIn.out.mono ?_
          rintro e w6 ⟨rfl, g6⟩
          have H6 := Lib.hid (H1.out.more g6)
          clear g6
          obtain ⟨x0', x1', x2', x3', x4'⟩ := HRow.out w6 H6.out.gr
          obtain ⟨D, hD⟩ : ∃ D, D = decide (O ∈ ow) := ⟨_, rfl⟩
          rw [← hD]
          have HD := Lib.hid hD
          clear hD
          go_upto_if 68 with fail
          go_cut [4] from 69 to 76 (fun s4 wx => ∃ B' T' ow', Hid (SfAt w wx t km om B' T' ow' s4 [] (j + 1)))
          case first =>
            cases D
            · have hno : O ∉ ow := of_decide_eq_false HD.out.symm
              obtain ⟨W8, hW8⟩ : ∃ W8, W8 = w6.alloc (.cells #[.int .u64 (O : Int)] TOw) := ⟨_, rfl⟩
              have g8 : Gr w6 W8 := by rw [hW8]; exact (Gr.refl _).alloc (Nat.le_refl _) _
              have hy8 : USl W8 (.slice (some ⟨w6.heap.size, 0, none⟩) 1 1) [O] := by rw [hW8]; exact USl.one w6 O TOw
              have h8 := H6.out.more g8
              have hlen : ow.length + [O].length ≤ 1000000000 := by
                have q1 := HSt.out.lo
                simp only [List.length_singleton]
                omega
              have H8 := Lib.hid (And.intro h8 (And.intro hy8 (And.intro hW8 (And.intro hlen (And.intro h8.gr.size hno)))))
              clear hno g8 hy8 h8 hlen hW8
              go_upto_region 16 with fail
              go_wp2_with (at_builtin; rw [show (w6.alloc (.cells #[.int .u64 (O : Int)] 27)) = W8 from H8.out.2.2.1.symm]; refine wpList_app_us rfl (.tmp 69) (.tmp 75) rfl rfl H8.out.1.us rfl H8.out.2.1 H8.out.2.2.2.1 H8.out.2.2.2.2.1 (fun v' W9 hv9 hg9 => ?_))
              have hg9' : W8.grownBy W9 (Value.slice p4 n4 c4).ownBlock := hg9
              have H9 := Lib.hid (H8.out.1.app HSt.out.lo H8.out.2.2.2.2.2 HK.out.2.2 hv9 hg9')
              clear hg9 hg9' hv9
              go_wp2_with fail
              go_meet
              exact ⟨B1, T1, _, H9⟩
            · go_wp2_with fail
              go_meet
              exact ⟨B1, T1, ow, Lib.hid (H6.out.had (of_decide_eq_true HD.out.symm))⟩
          case rest =>
            obtain ⟨B2, T2, ow2, H2⟩ := hcut
            rename_i wc2
            clear x0 x1 x2 x3 x4 x0' x1' x2' x3' x4' HIn
            obtain ⟨p4, n4, c4, hv4, hn4, -, -⟩ := H2.out.us.split
            subst hv4
            have hn4b : n4 ≤ 60 := by have := H2.out.lo; omega
            have HN4 := Lib.hid hn4
            clear hn4
            go_wp2_with fail
            go_loopw [6] (fun kv wr => ∃ (kk : Nat), kv = .int .i64 (kk : Int) ∧ kk ≤ n4 ∧ Hid (SfAt w wr t km om B2 T2 ow2 (.slice p4 n4 c4) [] (j + 1))) (fun kv _ => n4 - (intOf kv).toNat)
            case atStart => exact ⟨0, rfl, Nat.zero_le _, H2⟩
            case round =>
              obtain ⟨kk, rfl, hkk, HC⟩ := hrel
              by_cases hk4 : kk < n4
              · have hk4z : (kk : Int) < (n4 : Int) := by omega
                have hk0 : (0 : Int) ≤ (kk : Int) := by omega
                have hw8 : IntKind.i64.wrap ((kk : Int) + 1) = ((kk + 1 : Nat) : Int) := by rw [IntWalk.i64_in _ (by omega)]; omega
                have hat : ∀ V, SfAt w V t km om B2 T2 ow2 (.slice p4 n4 c4) [] (j + 1) → ∀ i, i < n4 → ∃ g, p4 = some ⟨g, 0, none⟩ ∧ n4 ≤ c4 ∧ V.cell? ⟨g, i, none⟩ = some (.int .u64 ((ow2.getD i 0 : Nat) : Int)) := fun V hV i hi => by
                  obtain ⟨p5, n5, c5, hv5, -, -, h5⟩ := hV.us.split
                  simp only [Value.slice.injEq] at hv5
                  obtain ⟨rfl, rfl, rfl⟩ := hv5
                  exact h5 i hi
                obtain ⟨g4, rfl, hcap4, hc4⟩ := hat wr HC.out kk hk4
                have HAt := Lib.hid hat
                obtain ⟨q, hq⟩ : ∃ q, q = ow2.getD kk 0 := ⟨_, rfl⟩
                rw [← hq] at hc4
                have hqd : KO.dom q := HC.out.dm q (by rw [hq]; exact getD_in (by rw [← HN4.out]; exact hk4))
                have HQ := Lib.hid (And.intro hq hqd)
                have HHo : Hid (∀ x, KO.dom x → ∀ V, Gr wr V → Calls Try.prog 12 #[.pointer (some ⟨t, 0, none⟩), .int .u64 (x : Int), .agg #[.int .i64 K1, .int .i64 K2]] V fun e w' => e = .returned (.int .i64 (T2.hold x k)) ∧ Gr V w') := Lib.hid fun x hx V g => by
                  have h := HC.out.more g
                  have := Holds_any h.tb (h.inv.ok (by have := h.ol; omega)) hx HK.out.1
                  rw [HK.out.2.1] at this
                  exact this
                obtain ⟨HM, hHM⟩ : ∃ HM, HM = T2.hold q k := ⟨_, rfl⟩
                have HHq := Lib.hid (HHo.out q hqd)
                rw [← hHM] at HHq
                have HHM := Lib.hid hHM
                obtain ⟨-, -, x2, x3, -⟩ := HRow.out wr HC.out.gr
                clear hq hqd hHM hat
                go_upto_region 20 with fail
                go_region_held3 (fun V => V.cell? ⟨g4, kk, none⟩ = some (.int .u64 (q : Int)) ∧ V.cell? ⟨pb, A + 2, none⟩ = some (.int .i64 K1) ∧ V.cell? ⟨pb, A + 2 + 1, none⟩ = some (.int .i64 K2)) (first | exact ⟨hc4, x2, x3⟩ | exact ⟨d1, d2, d3⟩) (first | (go_at_call 12; refine (HHq.out _ (Gr.refl wr).drew).mono ?_; rintro e w5 ⟨rfl, g5⟩; have H5 := Lib.hid (HC.out.more (Gr.trans (Gr.refl wr).drew g5)); have d1 := (g5.cell (blk_lt' hc4)).trans hc4; have d2 := (g5.cell (blk_lt' x2)).trans x2; have d3 := (g5.cell (blk_lt' x3)).trans x3; clear g5))
                clear x2 x3 hc4 d1 d2 d3
                go_wp2_with fail
                go_loopw [8] (fun nv wr => ∃ (nn : Nat), nv = .int .i64 (nn : Int) ∧ nn ≤ kk ∧ Hid (SfAt w wr t km om B2 T2 ow2 (.slice (some ⟨g4, 0, none⟩) n4 c4) [] (j + 1))) (fun nv _ => kk - (intOf nv).toNat)
                case atStart => exact ⟨0, rfl, Nat.zero_le _, H5⟩
                case round =>
                  obtain ⟨nn, rfl, hnn, HE⟩ := hrel
                  by_cases hn4' : nn < kk
                  · have hnz : (nn : Int) < (kk : Int) := by omega
                    have hn0 : (0 : Int) ≤ (nn : Int) := by omega
                    have hw7 : IntKind.i64.wrap ((nn : Int) + 1) = ((nn + 1 : Nat) : Int) := by rw [IntWalk.i64_in _ (by omega)]; omega
                    have hn4'' : nn < n4 := by omega
                    obtain ⟨g4', e4, -, hc5⟩ := HAt.out wr HE.out nn hn4''
                    simp only [Option.some.injEq, Addr.mk.injEq, and_true] at e4
                    subst e4
                    obtain ⟨q2, hq2⟩ : ∃ q2, q2 = ow2.getD nn 0 := ⟨_, rfl⟩
                    rw [← hq2] at hc5
                    have hq2d : KO.dom q2 := HE.out.dm q2 (by rw [hq2]; exact getD_in (by rw [← HN4.out]; exact hn4''))
                    have hqq : q ≠ q2 := fun e => by
                      have h1 := HE.out.nd
                      rw [HQ.out.1, hq2, getD_get ow2 kk 0 (by rw [← HN4.out]; exact hk4), getD_get ow2 nn 0 (by rw [← HN4.out]; exact hn4'')] at e
                      have := (List.getElem_inj h1).1 e
                      omega
                    obtain ⟨H2', hH2'⟩ : ∃ x, x = T2.hold q2 k := ⟨_, rfl⟩
                    have HHq2 : Hid (∀ V, Gr wr V → Calls Try.prog 12 #[.pointer (some ⟨t, 0, none⟩), .int .u64 (q2 : Int), .agg #[.int .i64 K1, .int .i64 K2]] V fun e w' => e = .returned (.int .i64 H2') ∧ Gr V w') := Lib.hid fun V g => by
                      have h := HE.out.more g
                      have := Holds_any h.tb (h.inv.ok (by have := h.ol; omega)) hq2d HK.out.1
                      rw [HK.out.2.1, ← hH2'] at this
                      exact this
                    have hfine : ¬ HM = 0 → ¬ H2' = 0 → HM = 1 ∧ H2' = 1 := fun h1 h2 => by
                      rw [HHM.out] at h1
                      rw [hH2'] at h2
                      have := hold_modes HE.out.inv k hqq h1 h2
                      rw [HHM.out, hH2']
                      exact this
                    have HFi := Lib.hid hfine
                    obtain ⟨-, -, x2, x3, -⟩ := HRow.out wr HE.out.gr
                    clear hq2 hq2d hqq hH2' hfine
                    go_upto_region 24 with fail
                    go_region_held3 (fun V => V.cell? ⟨g4, nn, none⟩ = some (.int .u64 (q2 : Int)) ∧ V.cell? ⟨pb, A + 2, none⟩ = some (.int .i64 K1) ∧ V.cell? ⟨pb, A + 2 + 1, none⟩ = some (.int .i64 K2)) (first | exact ⟨hc5, x2, x3⟩ | exact ⟨d1, d2, d3⟩) (first | (go_at_call 12; refine (HHq2.out _ (Gr.refl wr).drew).mono ?_; rintro e w6 ⟨rfl, g6⟩; have H6 := Lib.hid (HE.out.more (Gr.trans (Gr.refl wr).drew g6)); have d1 := (g6.cell (blk_lt' hc5)).trans hc5; have d2 := (g6.cell (blk_lt' x2)).trans x2; have d3 := (g6.cell (blk_lt' x3)).trans x3; clear g6))
                    clear x2 x3 hc5 d1 d2 d3
                    have rnd : ∀ (u : Value), u = .int .i64 ((nn : Int) + 1) → ∃ (nn' : Nat), u = .int .i64 (nn' : Int) ∧ nn' ≤ kk ∧ Hid (SfAt w w6 t km om B2 T2 ow2 (.slice (some ⟨g4, 0, none⟩) n4 c4) [] (j + 1)) := fun u hu => ⟨nn + 1, by rw [hu]; simp, by omega, H6⟩
                    have RND := Lib.hid rnd
                    clear rnd
                    by_cases hM0 : HM = 0
                    · have z1 : (HM != 0) = false := by rw [hM0]; rfl
                      go_wp2_with fail
                      go_roundw
                      case rel => exact RND.out _ (by simp)
                      case measure => simp [intOf]; omega
                    · have z1 : (HM != 0) = true := by simpa using hM0
                      by_cases hO0 : H2' = 0
                      · have z2 : (H2' != 0) = false := by rw [hO0]; rfl
                        clear hM0
                        go_wp2_with fail
                        go_roundw
                        case rel => exact RND.out _ (by simp)
                        case measure => simp [intOf]; omega
                      · obtain ⟨m1, m2⟩ := HFi.out hM0 hO0
                        have z2 : (H2' != 0) = true := by simpa using hO0
                        have z3 : (HM != 1) = false := by rw [m1]; rfl
                        have z4 : (H2' != 1) = false := by rw [m2]; rfl
                        clear hM0 hO0 m1 m2
                        go_wp2_with fail
                        go_roundw
                        case rel => exact RND.out _ (by simp)
                        case measure => simp [intOf]; omega
                  · have hnz : ¬ (nn : Int) < (kk : Int) := by omega
                    obtain ⟨g4', e4, -, hc6⟩ := HAt.out wr HE.out kk hk4
                    simp only [Option.some.injEq, Addr.mk.injEq, and_true] at e4
                    subst e4
                    rw [← HQ.out.1] at hc6
                    obtain ⟨Q1, hQ1⟩ : ∃ x, x = (T2.of q).key.1 := ⟨_, rfl⟩
                    obtain ⟨Q2, hQ2⟩ : ∃ x, x = (T2.of q).key.2 := ⟨_, rfl⟩
                    obtain ⟨MD, hMD⟩ : ∃ x, x = (T2.of q).mode := ⟨_, rfl⟩
                    obtain ⟨WB, hWB⟩ : ∃ x, x = ((T2.of q).mode != 0) := ⟨_, rfl⟩
                    have HWa : Hid (Calls Try.prog 13 #[.pointer (some ⟨t, 0, none⟩), .int .u64 (q : Int)] wr fun e w' => e = .returned (.tuple #[.agg #[.int .i64 Q1, .int .i64 Q2], .int .i64 MD, .bool WB]) ∧ Gr wr w') := Lib.hid (by
                      have := Waits_any HE.out.tb HQ.out.2
                      rw [hQ1, hQ2, hMD, hWB]
                      exact this)
                    have HWB := Lib.hid hWB
                    clear hQ1 hQ2 hMD hWB
                    go_wp2_with fail
                    refine HWa.out.mono ?_
                    rintro e w7 ⟨rfl, g7⟩
                    have g8 : Gr w7 (w7.alloc (.cells #[.int .i64 Q1, .int .i64 Q2] TKey)) := (Gr.refl _).alloc (Nat.le_refl _) _
                    obtain ⟨W8, hW8⟩ : ∃ W8, W8 = w7.alloc (.cells #[.int .i64 Q1, .int .i64 Q2] TKey) := ⟨_, rfl⟩
                    rw [← hW8] at g8
                    have H8 := Lib.hid (And.intro (HE.out.more (Gr.trans g7 g8)) hW8)
                    have hc8 := ((Gr.trans g7 g8).cell (blk_lt' hc6)).trans hc6
                    clear g7 g8 hW8 hc6
                    go_upto_region 28 with fail
                    rw [show (w7.alloc (.cells #[.int .i64 Q1, .int .i64 Q2] 29)) = W8 from H8.out.2.symm]
                    go_wp2_with fail
                    refine (For_any H8.out.1.tb H8.out.1.inv (by have := H8.out.1.ol; omega) HQ.out.2).mono ?_
                    rintro e w9 ⟨xs, hx1, hx2, v9, rfl, hu9, hg9⟩
                    obtain ⟨p9, n9, c9, hv9, hn9, -, -⟩ := hu9.split
                    subst hv9
                    have hWn : (WB = true → (0 : Int) < (n9 : Int)) ∧ (WB = false → n9 = 0) := by
                      constructor
                      · intro e1
                        rw [HWB.out] at e1
                        obtain ⟨q', hq'⟩ := waits_some H8.out.1.inv (by simpa using e1)
                        have := List.length_pos_of_mem ((hx1 q').2 hq')
                        omega
                      · intro e1
                        rw [HWB.out] at e1
                        have e2 : T2.whom q = [] := by unfold Tb.whom; rw [if_pos (by simpa using e1)]
                        rw [hn9]
                        cases xs with
                        | nil => rfl
                        | cons y ys =>
                          have := (hx1 y).1 (by simp)
                          rw [e2] at this
                          cases this
                    have H9 := Lib.hid (H8.out.1.more hg9)
                    have HWn := Lib.hid hWn
                    have hc9 := (hg9.cell (blk_lt' hc8)).trans hc8
                    have HRg := Lib.hid (ring10_any H9.out.tb H9.out.inv H9.out.ac (by have := H9.out.ol; omega) HQ.out.2 (po := some ⟨g4, 0, none⟩) (m := n4) (co := c4) (by omega))
                    clear hx1 hx2 hu9 hg9 hn9 hWn hc8
                    cases WB
                    · obtain rfl : n9 = 0 := HWn.out.2 rfl
                      go_wp2_with fail
                      refine HRg.out.mono ?_
                      rintro e w10 ⟨rfl, g10⟩
                      have H10 := Lib.hid (H9.out.more g10)
                      clear g10
                      go_wp2_with fail
                      go_roundw
                      case rel => exact ⟨kk + 1, by simp, by omega, H10⟩
                      case measure => simp [intOf]; omega
                    · have hn9p := HWn.out.1 rfl
                      go_wp2_with fail
                      refine HRg.out.mono ?_
                      rintro e w10 ⟨rfl, g10⟩
                      have H10 := Lib.hid (H9.out.more g10)
                      clear g10
                      go_wp2_with fail
                      go_roundw
                      case rel => exact ⟨kk + 1, by simp, by omega, H10⟩
                      case measure => simp [intOf]; omega
              · have hk4z : ¬ (kk : Int) < (n4 : Int) := by omega
                go_wp2_with fail
                go_roundw
                case rel => exact ⟨j + 1, by simp, by omega, Lib.hid ⟨_, _, _, HC.out⟩⟩
                case measure => simp [intOf]; omega
      · have hltz : ¬ (j : Int) < (n : Int) := by omega
        obtain ⟨B, T, ow, hS⟩ := HR.out
        obtain ⟨p4, n4, c4, hv4, hn4, -, -⟩ := hS.us.split
        subst hv4
        have hn4b : n4 ≤ 40 := by have := hS.lo; omega
        have hjb : j ≤ 40 := by omega
        have hat : ∀ V B T, SfAt w V t km om B T ow (.slice p4 n4 c4) [] j → ∀ i, i < n4 → ∃ g, p4 = some ⟨g, 0, none⟩ ∧ n4 ≤ c4 ∧ V.cell? ⟨g, i, none⟩ = some (.int .u64 ((ow.getD i 0 : Nat) : Int)) := fun V B T hV i hi => by
          obtain ⟨p5, n5, c5, hv5, -, -, h5⟩ := hV.us.split
          simp only [Value.slice.injEq] at hv5
          obtain ⟨rfl, rfl, rfl⟩ := hv5
          exact h5 i hi
        have HAt := Lib.hid hat
        have HN4 := Lib.hid hn4
        have hsub0 : ∀ x, x ∈ T.oo → x ∈ ow := fun x hx => by
          rcases hS.sub x hx with h | h
          · exact h
          · cases h
        have hlen0 : T.oo.length ≤ n4 := by rw [hn4]; exact nodup_le _ _ hS.inv.ond hsub0
        have HS := Lib.hid (And.intro hS hlen0)
        clear hS hn4 hat hsub0 hlen0 HR
        go_wp2_with fail
        go_loopw [13] (fun rv wr => ∃ (r : Nat), rv = .int .i64 (r : Int) ∧ r ≤ n4 + 1 ∧ Hid (∃ B T, SfAt w wr t km om B T ow (.slice p4 n4 c4) [] j ∧ (T.oo = [] ∨ T.oo.length + r ≤ n4))) (fun rv _ => n4 + 1 - (intOf rv).toNat)
        case atStart => exact ⟨0, rfl, Nat.zero_le _, Lib.hid ⟨B, T, HS.out.1, .inr (by have := HS.out.2; omega)⟩⟩
        case round =>
          obtain ⟨r, rfl, hr, HQ⟩ := hrel
          by_cases hrn : r ≤ n4
          · have hrz : (r : Int) ≤ (n4 : Int) := by omega
            have hw9 : IntKind.i64.wrap ((r : Int) + 1) = ((r + 1 : Nat) : Int) := by rw [IntWalk.i64_in _ (by omega)]; omega
            obtain ⟨B1, T1, h1, h1r⟩ := HQ.out
            obtain ⟨n0, hn0⟩ : ∃ n0, n0 = T1.oo.length := ⟨_, rfl⟩
            have HG0 : Hid (Going n0 T1 (ow.take 0)) := Lib.hid (by rw [hn0, List.take_zero]; exact Going.start h1.inv h1.ac)
            have HE0 := Lib.hid (And.intro h1 (show n0 = 0 ∨ n0 + r ≤ n4 by
              rcases h1r with h | h
              · exact .inl (by rw [hn0, h]; rfl)
              · exact .inr (by omega)))
            clear h1 h1r hn0 HQ
            go_wp2_with fail
            go_loopw [14] (fun kv wr => ∃ (kk : Nat), kv = .int .i64 (kk : Int) ∧ kk ≤ n4 ∧ Hid (∃ B T, SfAt w wr t km om B T ow (.slice p4 n4 c4) [] j ∧ Going n0 T (ow.take kk))) (fun kv _ => n4 - (intOf kv).toNat)
            case atStart => exact ⟨0, rfl, Nat.zero_le _, Lib.hid ⟨B1, T1, HE0.out.1, HG0.out⟩⟩
            case round =>
              obtain ⟨kk, rfl, hkk, HK⟩ := hrel
              by_cases hk4 : kk < n4
              · have hk4z : (kk : Int) < (n4 : Int) := by omega
                have hk0 : (0 : Int) ≤ (kk : Int) := by omega
                have hw8 : IntKind.i64.wrap ((kk : Int) + 1) = ((kk + 1 : Nat) : Int) := by rw [IntWalk.i64_in _ (by omega)]; omega
                obtain ⟨B3, T3, h3, h3g⟩ := HK.out
                obtain ⟨g4, rfl, hcap4, hc4⟩ := HAt.out wr B3 T3 h3 kk hk4
                obtain ⟨q, hq⟩ : ∃ q, q = ow.getD kk 0 := ⟨_, rfl⟩
                rw [← hq] at hc4
                have hqd : KO.dom q := h3.dm q (by rw [hq]; exact getD_in (by rw [← HN4.out]; exact hk4))
                have htk : ow.take (kk + 1) = ow.take kk ++ [q] := by
                  have hlt' : kk < ow.length := by rw [← HN4.out]; exact hk4
                  rw [List.take_succ_eq_append_getElem hlt', hq, getD_get ow kk 0 hlt']
                obtain ⟨Q1, hQ1⟩ : ∃ x, x = (T3.of q).key.1 := ⟨_, rfl⟩
                obtain ⟨Q2, hQ2⟩ : ∃ x, x = (T3.of q).key.2 := ⟨_, rfl⟩
                obtain ⟨MD, hMD⟩ : ∃ x, x = (T3.of q).mode := ⟨_, rfl⟩
                obtain ⟨WB, hWB⟩ : ∃ x, x = ((T3.of q).mode != 0) := ⟨_, rfl⟩
                have HWa : Hid (Calls Try.prog 13 #[.pointer (some ⟨t, 0, none⟩), .int .u64 (q : Int)] wr fun e w' => e = .returned (.tuple #[.agg #[.int .i64 Q1, .int .i64 Q2], .int .i64 MD, .bool WB]) ∧ Gr wr w') := Lib.hid (by
                  have := Waits_any h3.tb hqd
                  rw [hQ1, hQ2, hMD, hWB]
                  exact this)
                have H3 := Lib.hid (And.intro h3 (And.intro h3g (And.intro htk (And.intro hqd hWB))))
                clear hQ1 hQ2 hMD hWB h3 h3g htk hqd hq HK
                go_wp2_with fail
                refine HWa.out.mono ?_
                rintro e w7 ⟨rfl, g7⟩
                have g8 : Gr w7 (w7.alloc (.cells #[.int .i64 Q1, .int .i64 Q2] TKey)) := (Gr.refl _).alloc (Nat.le_refl _) _
                obtain ⟨W8, hW8⟩ : ∃ W8, W8 = w7.alloc (.cells #[.int .i64 Q1, .int .i64 Q2] TKey) := ⟨_, rfl⟩
                rw [← hW8] at g8
                have H8 := Lib.hid (And.intro (H3.out.1.more (Gr.trans g7 g8)) hW8)
                have hc8 := ((Gr.trans g7 g8).cell (blk_lt' hc4)).trans hc4
                clear g7 g8 hW8 hc4
                go_upto_region 37 with fail
                rw [show (w7.alloc (.cells #[.int .i64 Q1, .int .i64 Q2] 29)) = W8 from H8.out.2.symm]
                cases WB
                · have HFr : Hid (Calls Try.prog 9 #[.pointer (some ⟨t, 0, none⟩), .int .u64 (q : Int)] W8 fun e w' => ∃ v B', e = .returned v ∧ SfAt w w' t km om B' (T3.freed q) ow (.slice (some ⟨g4, 0, none⟩) n4 c4) [] j) := Lib.hid (by
                    have h := H8.out.1
                    have h1 := h.ol
                    have h2 := h.kl
                    exact (free_any h.tb h.inv (by omega) (by omega) H3.out.2.2.2.1).mono fun e w' r => h.freed (by omega) (Nat.le_refl _) _ r)
                  go_wp2_with fail
                  refine HFr.out.mono ?_
                  rintro e w9 ⟨v9, B9, rfl, h9⟩
                  have H9 := Lib.hid h9
                  clear h9
                  go_wp2_with fail
                  go_roundw
                  case rel => exact ⟨kk + 1, by simp, by omega, Lib.hid ⟨B9, _, H9.out, by rw [H3.out.2.2.1]; exact H3.out.2.1.goes H3.out.1.inv (by have := H3.out.1.ol; omega) (by have := H3.out.1.kl; omega) q⟩⟩
                  case measure => simp [intOf]; omega
                · go_wp2_with fail
                  go_roundw
                  case rel => exact ⟨kk + 1, by simp, by omega, Lib.hid ⟨B3, T3, H8.out.1, by rw [H3.out.2.2.1]; exact H3.out.2.1.stays (by have := H3.out.2.2.2.2; simpa using this.symm)⟩⟩
                  case measure => simp [intOf]; omega
              · have hk4z : ¬ (kk : Int) < (n4 : Int) := by omega
                obtain ⟨B3, T3, h3, h3g⟩ := HK.out
                have hend : T3.oo = [] ∨ T3.oo.length < n0 := by
                  rw [List.take_of_length_le (by have := HN4.out; omega)] at h3g
                  exact h3g.ends fun x hx => by
                    rcases h3.sub x hx with h | h
                    · exact h
                    · cases h
                have H3 := Lib.hid (And.intro h3 hend)
                clear h3 h3g hend HK
                go_wp2_with fail
                go_roundw
                case rel => exact ⟨r + 1, by simp, by omega, Lib.hid ⟨B3, T3, H3.out.1, by
                  rcases H3.out.2 with h | h
                  · exact .inl h
                  · rcases HE0.out.2 with h2 | h2
                    · omega
                    · exact .inr (by omega)⟩⟩
                case measure => simp [intOf]; omega
          · have hrz : ¬ (r : Int) ≤ (n4 : Int) := by omega
            obtain ⟨B3, T3, h3, h3r⟩ := HQ.out
            have hz : T3.oo = [] := by
              rcases h3r with h | h
              · exact h
              · omega
            have hmany := none_many h3.inv hz
            have HLn := Lib.hid (Len_any h3.tb)
            rw [hmany] at HLn
            have HG := Lib.hid h3.gr
            clear h3 h3r hz hmany HQ
            go_wp2_with fail
            refine HLn.out.mono ?_
            rintro e w9 ⟨rfl, rfl⟩
            go_wp2_with fail
            go_ret
            exact ⟨rfl, HG.out⟩
end Go.Proofs.Ytbmcdlcoojmppaa

