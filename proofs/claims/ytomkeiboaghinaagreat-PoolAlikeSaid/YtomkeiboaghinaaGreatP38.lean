/-
  Texts on locks, put together: PoolAl4 PoolAlikeWalk.
-/
import Derived.Test.YtomkeiboaghinaaGreatP37
set_option linter.unusedVariables false
set_option linter.unusedSimpArgs false
/-
  Two pools with the same pages, and a box beside: what the law asks of each.
-/
namespace Go.Proofs.YtomkeiboaghinaaGreat
open Go.RowKit Go.Maps

/-- Both, apart from one another and from a box. -/
def TwQ (w0 w : World) (b1 m1 : Nat) (pd1 pl1 : Value) (P1 : Pl) (s1 : St) (L1 : Lg) (b2 m2 : Nat) (pd2 pl2 : Value) (P2 : Pl) (s2 : St) (L2 : Lg) (R : Nat) (Ks : List (Nat × TypeId × Array Value)) : Prop :=
  ∃ S1 n1 B1 S2 n2 B2, PoAt w b1 m1 n1 pd1 pl1 B1 S1 P1 s1 L1 64 R ∧ PoAt w b2 m2 n2 pd2 pl2 B2 S2 P2 s2 L2 64 R ∧ (∀ z, uS S1 b1 m1 B1 z → ¬ uS S2 b2 m2 B2 z) ∧ (∀ z, uS S1 b1 m1 B1 z → w0.heap.size ≤ z) ∧ (∀ z, uS S2 b2 m2 B2 z → w0.heap.size ≤ z) ∧ Gr w0 w ∧ ∀ x, x ∈ Ks → ¬ uS S1 b1 m1 B1 x.1 ∧ ¬ uS S2 b2 m2 B2 x.1 ∧ Blk w x.1 x.2.1 x.2.2
section
variable {w0 w w' : World} {b1 m1 b2 m2 : Nat} {pd1 pl1 pd2 pl2 : Value} {P1 P2 Q : Pl} {s1 s2 t : St} {L1 L2 M : Lg} {R R' : Nat} {Ks : List (Nat × TypeId × Array Value)}
theorem TwAt.box (h : TwAt w0 w b1 m1 pd1 pl1 P1 s1 L1 b2 m2 pd2 pl2 P2 s2 L2 R) (cs : Array Value) : TwQ w0 (w.alloc (.cells cs TPa)) b1 m1 pd1 pl1 P1 s1 L1 b2 m2 pd2 pl2 P2 s2 L2 R [(w.heap.size, TPa, cs)] := by
  have g := Gr.new w (.cells cs TPa)
  obtain ⟨S1, n1, B1, S2, n2, B2, h1, h2, h3, h4, h5, h6⟩ := h
  exact ⟨S1, n1, B1, S2, n2, B2, h1.gr g, h2.gr g, h3, h4, h5, Gr.trans h6 g, fun x hx => by
    obtain rfl := List.mem_singleton.1 hx
    exact ⟨fun e => by have := h1.low _ e; omega, fun e => by have := h2.low _ e; omega, Blk.new _ _ _⟩⟩
theorem TwQ.at_ (h : TwQ w0 w b1 m1 pd1 pl1 P1 s1 L1 b2 m2 pd2 pl2 P2 s2 L2 R Ks) : TwAt w0 w b1 m1 pd1 pl1 P1 s1 L1 b2 m2 pd2 pl2 P2 s2 L2 R := by
  obtain ⟨S1, n1, B1, S2, n2, B2, h1, h2, h3, h4, h5, h6, _⟩ := h
  exact ⟨S1, n1, B1, S2, n2, B2, h1, h2, h3, h4, h5, h6⟩
theorem TwQ.blk (h : TwQ w0 w b1 m1 pd1 pl1 P1 s1 L1 b2 m2 pd2 pl2 P2 s2 L2 R Ks) : (∀ x, x ∈ Ks → Blk w x.1 x.2.1 x.2.2) ∧ Gr w0 w := by
  obtain ⟨S1, n1, B1, S2, n2, B2, _, _, _, _, _, h6, h7⟩ := h
  exact ⟨fun x hx => (h7 x hx).2.2, h6⟩
theorem TwQ.swap (h : TwQ w0 w b1 m1 pd1 pl1 P1 s1 L1 b2 m2 pd2 pl2 P2 s2 L2 R Ks) : TwQ w0 w b2 m2 pd2 pl2 P2 s2 L2 b1 m1 pd1 pl1 P1 s1 L1 R Ks := by
  obtain ⟨S1, n1, B1, S2, n2, B2, h1, h2, h3, h4, h5, h6, h7⟩ := h
  exact ⟨S2, n2, B2, S1, n1, B1, h2, h1, fun q hq e => h3 q e hq, h5, h4, h6, fun x hx => ⟨(h7 x hx).2.1, (h7 x hx).1, (h7 x hx).2.2⟩⟩
theorem TwQ.gr (h : TwQ w0 w b1 m1 pd1 pl1 P1 s1 L1 b2 m2 pd2 pl2 P2 s2 L2 R Ks) (g : Gr w w') : TwQ w0 w' b1 m1 pd1 pl1 P1 s1 L1 b2 m2 pd2 pl2 P2 s2 L2 R Ks := by
  obtain ⟨S1, n1, B1, S2, n2, B2, h1, h2, h3, h4, h5, h6, h7⟩ := h
  exact ⟨S1, n1, B1, S2, n2, B2, h1.gr g, h2.gr g, h3, h4, h5, Gr.trans h6 g, fun x hx => ⟨(h7 x hx).1, (h7 x hx).2.1, (h7 x hx).2.2.gr g⟩⟩
theorem TwQ.newrow (h : TwQ w0 w b1 m1 pd1 pl1 P1 s1 L1 b2 m2 pd2 pl2 P2 s2 L2 R Ks) (old : Array Value) (t : TypeId) (ds : Array Value) : TwQ w0 ((w.alloc (.cells old t)).setRow w.heap.size ds) b1 m1 pd1 pl1 P1 s1 L1 b2 m2 pd2 pl2 P2 s2 L2 R ((w.heap.size, t, ds) :: Ks) := by
  obtain ⟨S1, n1, B1, S2, n2, B2, h1, h2, h3, h4, h5, h6, h7⟩ := h
  have g := Gr.new w (.cells old t)
  refine ⟨S1, n1, B1, S2, n2, B2, (h1.gr g).row (fun e => by have := h1.low _ e; omega) ds, (h2.gr g).row (fun e => by have := h2.low _ e; omega) ds, h3, h4, h5, Below.trans h6 (below_setRow (B := w0.heap.size) (Below.mono g h6.size) h6.size ds), fun x hx => ?_⟩
  rcases List.mem_cons.1 hx with rfl | hx
  · exact ⟨fun e => by have := h1.low _ e; omega, fun e => by have := h2.low _ e; omega, (Blk.new w t old).row ds⟩
  · obtain ⟨n1, n2, n3⟩ := h7 x hx
    have hq := n3.lt
    exact ⟨n1, n2, (n3.gr g).stays (setRow_other _ _ _ _ (by omega))⟩
/-- The first goes on. -/
theorem TwQ.one {f : Nat} {args : Array Value} {v : Value} (h : TwQ w0 w b1 m1 pd1 pl1 P1 s1 L1 b2 m2 pd2 pl2 P2 s2 L2 R Ks) (hR : R' ≤ R) (hc : ∀ S n B, PoAt w b1 m1 n pd1 pl1 B S P1 s1 L1 64 R → (∀ q, uS S b1 m1 B q → w0.heap.size ≤ q) → Calls Tryz.prog f args w (RetPo v Q t M b1 m1 pd1 pl1 B S 64 R' w)) :
    Calls Tryz.prog f args w fun e w' => e = .returned v ∧ TwQ w0 w' b1 m1 pd1 pl1 Q t M b2 m2 pd2 pl2 P2 s2 L2 R' Ks := by
  obtain ⟨S1, n1, B1, S2, n2, B2, h1, h2, h3, h4, h5, h6, h7⟩ := h
  refine (hc S1 n1 B1 h1 h4).mono ?_
  rintro e w' ⟨rfl, S', n', B', k1, k2⟩
  refine ⟨rfl, S', n', B', S2, n2, B2, k1, (h2.lower hR).stays (fun q hq => k2.block q (h2.low q hq) fun e => h3 q e hq) k2.size, fun q hq e => ?_, fun q hq => k2.from h6.size h4 q hq, h5, Below.trans h6 (k2.below h6.size h4), fun x hx => ?_⟩
  · rcases k2.fresh q hq with h7 | h7
    · exact h3 q h7 e
    · have := h2.low q e; omega
  · obtain ⟨m1, m2, m3⟩ := h7 x hx
    refine ⟨fun e => ?_, m2, m3.stays (k2.block _ m3.lt m1)⟩
    rcases k2.fresh _ e with h | h
    · exact m1 h
    · have := m3.lt; omega
theorem TwQ.note (h : TwQ w0 w b1 m1 pd1 pl1 P1 s1 L1 b2 m2 pd2 pl2 P2 s2 L2 R Ks) (hf : L1.fin ≤ 8000000000000000000) (page : Nat) : Calls Tryz.prog 13 #[pl1, .int .i64 (page : Int)] w fun e w' => e = .returned (.tuple #[.int .u64 (layA L1 (nR page) L1.free : Int), .int .u64 ((L1.noted page).fin : Int), .bool (layE (nR page) L1.free == 0)]) ∧ TwQ w0 w' b1 m1 pd1 pl1 P1 s1 (L1.noted page) b2 m2 pd2 pl2 P2 s2 L2 R Ks :=
  h.one (Nat.le_refl _) fun S n B hp _ => (note7_any hp hf page).mono fun e w' ⟨h1, S', h2, h3⟩ => ⟨h1, S', n, B, h2, h3⟩
end
/-- How it stands between two calls. -/
def AlQ (w W : World) (d1 l1 b1 m1 d2 l2 b2 m2 R : Nat) (Ks : List (Nat × TypeId × Array Value)) (F : Pl → St → Lg → Pl × St × Lg) (C : Pl → St → Lg → Prop) : Prop :=
  ∃ P1 s1 L1 P2 s2 L2, Tw P1 s1 L1 P2 s2 L2 ∧ C P1 s1 L1 ∧ TwQ w W b1 m1 (.pointer (some ⟨d1, 0, none⟩)) (.pointer (some ⟨l1, 0, none⟩)) (F P1 s1 L1).1 (F P1 s1 L1).2.1 (F P1 s1 L1).2.2 b2 m2 (.pointer (some ⟨d2, 0, none⟩)) (.pointer (some ⟨l2, 0, none⟩)) P2 s2 L2 R Ks
def FI (P : Pl) (s : St) (L : Lg) : Pl × St × Lg := (P, s, L)
def CT (_ : Pl) (_ : St) (_ : Lg) : Prop := True
section
variable {w W W' : World} {d1 l1 b1 m1 d2 l2 b2 m2 R : Nat} {Ks : List (Nat × TypeId × Array Value)} {F : Pl → St → Lg → Pl × St × Lg} {C : Pl → St → Lg → Prop}
theorem AlQ.gr (h : AlQ w W d1 l1 b1 m1 d2 l2 b2 m2 R Ks F C) (g : Gr W W') : AlQ w W' d1 l1 b1 m1 d2 l2 b2 m2 R Ks F C := by
  obtain ⟨P1, s1, L1, P2, s2, L2, h1, h2, h3⟩ := h
  exact ⟨P1, s1, L1, P2, s2, L2, h1, h2, h3.gr g⟩
theorem AlQ.newrow (h : AlQ w W d1 l1 b1 m1 d2 l2 b2 m2 R Ks F C) (old : Array Value) (t : TypeId) (ds : Array Value) : AlQ w ((W.alloc (.cells old t)).setRow W.heap.size ds) d1 l1 b1 m1 d2 l2 b2 m2 R ((W.heap.size, t, ds) :: Ks) F C := by
  obtain ⟨P1, s1, L1, P2, s2, L2, h1, h2, h3⟩ := h
  exact ⟨P1, s1, L1, P2, s2, L2, h1, h2, h3.newrow old t ds⟩
theorem AlQ.blk (h : AlQ w W d1 l1 b1 m1 d2 l2 b2 m2 R Ks F C) : (∀ x, x ∈ Ks → Blk W x.1 x.2.1 x.2.2) ∧ Gr w W := by
  obtain ⟨P1, s1, L1, P2, s2, L2, h1, h2, h3⟩ := h
  exact h3.blk
/-- A record is noted in the first log. -/
theorem AlQ.noteA (h : AlQ w W d1 l1 b1 m1 d2 l2 b2 m2 R Ks FI CT) : Calls Tryz.prog 13 #[.pointer (some ⟨l1, 0, none⟩), .int .i64 25] W fun e w' => ∃ (a f : Nat) (x : Bool), e = .returned (.tuple #[.int .u64 (a : Int), .int .u64 (f : Int), .bool x]) ∧ AlQ w w' d1 l1 b1 m1 d2 l2 b2 m2 R Ks (fun P s L => (P, s, L.noted 25)) (fun _ _ L => a = layA L (nR 25) L.free ∧ f = (L.noted 25).fin ∧ x = (layE (nR 25) L.free == 0)) := by
  obtain ⟨P1, s1, L1, P2, s2, L2, h1, -, h3⟩ := h
  refine (TwQ.note h3 (by have := h1.a.ad.small; show L1.fin ≤ _; omega) 25).mono ?_
  rintro e w' ⟨rfl, k⟩
  exact ⟨_, _, _, rfl, P1, s1, L1, P2, s2, L2, h1, ⟨rfl, rfl, rfl⟩, k⟩
/-- .. and in the second. -/
theorem AlQ.noteB {a f : Nat} {x : Bool} (h : AlQ w W d1 l1 b1 m1 d2 l2 b2 m2 R Ks (fun P s L => (P, s, L.noted 25)) (fun _ _ L => a = layA L (nR 25) L.free ∧ f = (L.noted 25).fin ∧ x = (layE (nR 25) L.free == 0))) : Calls Tryz.prog 13 #[.pointer (some ⟨l2, 0, none⟩), .int .i64 25] W fun e w' => e = .returned (.tuple #[.int .u64 (a : Int), .int .u64 (f : Int), .bool x]) ∧ AlQ w w' d1 l1 b1 m1 d2 l2 b2 m2 R Ks FI (fun _ _ L => f ≤ L.fin ∧ a ≤ 100000) := by
  obtain ⟨P1, s1, L1, P2, s2, L2, h1, ⟨rfl, rfl, rfl⟩, h3⟩ := h
  obtain ⟨k1, k2, k3, k4⟩ := h1.noted 25
  refine (TwQ.note h3.swap (by have := h1.b.ad.small; omega) 25).mono ?_
  rintro e w' ⟨rfl, k⟩
  refine ⟨by rw [k2, k3, k4], P1, s1, L1.noted 25, P2, s2, L2.noted 25, k1, ⟨Nat.le_refl _, ?_⟩, k.swap⟩
  have := h1.a.ad.small
  unfold layA
  split <;> omega
/-- A page is changed in the first pool. -/
theorem AlQ.putA {a f : Nat} {i o : Int} {pb : Option Addr} {nb cb : Nat} {ys : List Int} (h : AlQ w W d1 l1 b1 m1 d2 l2 b2 m2 R Ks FI (fun _ _ L => f ≤ L.fin ∧ a ≤ 100000)) (hR : 200 ≤ R) (hy0 : Byt w pb nb cb ys) (hy : Byt W pb nb cb ys) : Calls Tryz.prog 14 #[.pointer (some ⟨b1, 0, none⟩), .int .i64 i, .int .i64 o, .slice pb nb cb, .int .u64 (a : Int), .int .u64 (f : Int)] W fun e w' => ∃ x, e = .returned (.int .i64 x) ∧ AlQ w w' d1 l1 b1 m1 d2 l2 b2 m2 (R - 200) Ks (fun P s L => (P.pt 64 i o ys a f s L).2) (fun P s L => f ≤ L.fin ∧ a ≤ 100000 ∧ x = (P.pt 64 i o ys a f s L).1) := by
  obtain ⟨P1, s1, L1, P2, s2, L2, h1, ⟨h2, h2'⟩, h3⟩ := h
  have hf := h1.a.ad.small
  refine (TwQ.one (R' := R - 200) h3 (by omega) fun S n B hp hlo => Put_any hp (by omega) i o hy (fun h0 y hye e => by have h5 := hlo _ e; have h6 := hy0.up h0 y hye; omega) (by omega) (by omega)).mono ?_
  rintro e w' ⟨rfl, k⟩
  exact ⟨_, rfl, P1, s1, L1, P2, s2, L2, h1, ⟨h2, h2', rfl⟩, k⟩
theorem AlQ.putB {a f : Nat} {i o x : Int} {pb : Option Addr} {nb cb : Nat} {ys : List Int} (hi : ¬ (0 ≤ i ∧ i < 19)) (h : AlQ w W d1 l1 b1 m1 d2 l2 b2 m2 R Ks (fun P s L => (P.pt 64 i o ys a f s L).2) (fun P s L => f ≤ L.fin ∧ a ≤ 100000 ∧ x = (P.pt 64 i o ys a f s L).1)) (hR : 200 ≤ R) (hy0 : Byt w pb nb cb ys) (hy : Byt W pb nb cb ys) : Calls Tryz.prog 14 #[.pointer (some ⟨b2, 0, none⟩), .int .i64 i, .int .i64 o, .slice pb nb cb, .int .u64 (a : Int), .int .u64 (f : Int)] W fun e w' => e = .returned (.int .i64 x) ∧ AlQ w w' d1 l1 b1 m1 d2 l2 b2 m2 (R - 200) Ks FI CT := by
  obtain ⟨P1, s1, L1, P2, s2, L2, h1, ⟨h2, h2', rfl⟩, h3⟩ := h
  have hf := h1.a.ad.small
  obtain ⟨k1, k2⟩ := h1.pt (i := i) (o := o) (first := a) hi hy0.small h2 (by omega) (by omega)
  refine (TwQ.one (R' := R - 200) h3.swap (by omega) fun S n B hp hlo => Put_any hp (by omega) i o hy (fun h0 y hye e => by have h5 := hlo _ e; have h6 := hy0.up h0 y hye; omega) (by omega) (by omega)).mono ?_
  rintro e w' ⟨rfl, k⟩
  exact ⟨by rw [k2], _, _, _, _, _, _, k1, trivial, k.swap⟩
/-- A page is asked of the first pool. -/
theorem AlQ.getA {i : Int} (h : AlQ w W d1 l1 b1 m1 d2 l2 b2 m2 R Ks FI CT) (hR : 200 ≤ R) : Calls Tryz.prog 11 #[.pointer (some ⟨b1, 0, none⟩), .int .i64 i] W fun e w' => ∃ (x : PSec) (y : Nat) (z : Int), e = .returned (.tuple #[.agg (Psec x), .int .u64 (y : Int), .int .i64 z]) ∧ AlQ w w' d1 l1 b1 m1 d2 l2 b2 m2 (R - 200) Ks (fun P s L => (P.gt 64 i s L).2) (fun P s L => (x, y, z) = (P.gt 64 i s L).1) := by
  obtain ⟨P1, s1, L1, P2, s2, L2, h1, -, h3⟩ := h
  refine (TwQ.one (R' := R - 200) h3 (by omega) fun S n B hp hlo => Get_any hp (by omega) i).mono ?_
  rintro e w' ⟨rfl, k⟩
  exact ⟨_, _, _, rfl, P1, s1, L1, P2, s2, L2, h1, rfl, k⟩
theorem AlQ.getB {i z : Int} {x : PSec} {y : Nat} (hi : ¬ (0 ≤ i ∧ i < 19)) (h : AlQ w W d1 l1 b1 m1 d2 l2 b2 m2 R Ks (fun P s L => (P.gt 64 i s L).2) (fun P s L => (x, y, z) = (P.gt 64 i s L).1)) (hR : 200 ≤ R) : Calls Tryz.prog 11 #[.pointer (some ⟨b2, 0, none⟩), .int .i64 i] W fun e w' => e = .returned (.tuple #[.agg (Psec x), .int .u64 (y : Int), .int .i64 z]) ∧ AlQ w w' d1 l1 b1 m1 d2 l2 b2 m2 (R - 200) Ks FI CT := by
  obtain ⟨P1, s1, L1, P2, s2, L2, h1, h2, h3⟩ := h
  obtain ⟨k1, k2⟩ := h1.gt (i := i) hi
  refine (TwQ.one (R' := R - 200) h3.swap (by omega) fun S n B hp hlo => Get_any hp (by omega) i).mono ?_
  rintro e w' ⟨rfl, k⟩
  refine ⟨?_, _, _, _, _, _, _, k1, trivial, k.swap⟩
  rw [k2, ← h2]
  rfl
end
end Go.Proofs.YtomkeiboaghinaaGreat

/-
  The law that pools with few and with many frames have the same pages, walked.
-/
namespace Go.Proofs.YtomkeiboaghinaaGreat
open Go.RowKit Go.Maps

/-- How it stands at an act's begin. -/
def AlI (w wr : World) (d1 l1 b1 m1 d2 l2 b2 m2 : Nat) (R : Nat) : Prop :=
  ∃ P1 s1 L1 P2 s2 L2, Tw P1 s1 L1 P2 s2 L2 ∧ TwAt w wr b1 m1 (.pointer (some ⟨d1, 0, none⟩)) (.pointer (some ⟨l1, 0, none⟩)) P1 s1 L1 b2 m2 (.pointer (some ⟨d2, 0, none⟩)) (.pointer (some ⟨l2, 0, none⟩)) P2 s2 L2 R
theorem AlI.world {w wr : World} {d1 l1 b1 m1 d2 l2 b2 m2 R : Nat} (h : AlI w wr d1 l1 b1 m1 d2 l2 b2 m2 R) : Gr w wr := by
  obtain ⟨P1, s1, L1, P2, s2, L2, h1, S1, n1, B1, S2, n2, B2, _, _, _, _, _, h6⟩ := h
  exact h6
theorem TwAt.lower {w0 w : World} {b1 m1 b2 m2 : Nat} {pd1 pl1 pd2 pl2 : Value} {P1 P2 : Pl} {s1 s2 : St} {L1 L2 : Lg} {R R' : Nat} (h : TwAt w0 w b1 m1 pd1 pl1 P1 s1 L1 b2 m2 pd2 pl2 P2 s2 L2 R) (hR : R' ≤ R) : TwAt w0 w b1 m1 pd1 pl1 P1 s1 L1 b2 m2 pd2 pl2 P2 s2 L2 R' := by
  obtain ⟨S1, n1, B1, S2, n2, B2, h1, h2, h3⟩ := h
  exact ⟨S1, n1, B1, S2, n2, B2, h1.lower hR, h2.lower hR, h3⟩
theorem AlQ.al {w W : World} {d1 l1 b1 m1 d2 l2 b2 m2 R R' : Nat} {Ks : List (Nat × TypeId × Array Value)} (h : AlQ w W d1 l1 b1 m1 d2 l2 b2 m2 R Ks FI CT) (hR : R' ≤ R) : AlI w W d1 l1 b1 m1 d2 l2 b2 m2 R' := by
  obtain ⟨P1, s1, L1, P2, s2, L2, h1, -, h3⟩ := h
  exact ⟨P1, s1, L1, P2, s2, L2, h1, h3.at_.lower hR⟩
set_option maxRecDepth 100000 in
set_option maxHeartbeats 2000000 in
theorem poolAlike_walk (few many : Int) (p : Option Addr) (n c : Nat) (w : World) (hb : PActs w p n c) : Calls Tryz.prog 7 #[.int .i64 few, .int .i64 many, .slice p n c] w fun e w' => e = .returned (.bool true) ∧ Below w.heap.size w w' := by
  have HK : Hid (∀ W, Calls Tryz.prog 8 #[] W fun e w' => e = .returned (.bool true) ∧ Gr W w') := Lib.hid fun W => known07_any W
  have HB := Lib.hid hb
  clear hb
  go_enter Tryz.func7, Tryz.ntmps7
  by_cases g1 : (80 : Int) < (n : Int)
  · go_wp2_with fail
    refine (HK.out w).mono ?_
    rintro e w1 ⟨rfl, g⟩
    have HG := Lib.hid g
    clear g
    go_wp2_with fail
    go_ret
    exact ⟨rfl, HG.out⟩
  by_cases g2 : few < 8
  · go_wp2_with fail
    refine (HK.out w).mono ?_
    rintro e w1 ⟨rfl, g⟩
    have HG := Lib.hid g
    clear g
    go_wp2_with fail
    go_ret
    exact ⟨rfl, HG.out⟩
  by_cases g3 : 100 < few
  · go_wp2_with fail
    refine (HK.out w).mono ?_
    rintro e w1 ⟨rfl, g⟩
    have HG := Lib.hid g
    clear g
    go_wp2_with fail
    go_ret
    exact ⟨rfl, HG.out⟩
  by_cases g4 : many < 8
  · go_wp2_with fail
    refine (HK.out w).mono ?_
    rintro e w1 ⟨rfl, g⟩
    have HG := Lib.hid g
    clear g
    go_wp2_with fail
    go_ret
    exact ⟨rfl, HG.out⟩
  by_cases g5 : 100 < many
  · go_wp2_with fail
    refine (HK.out w).mono ?_
    rintro e w1 ⟨rfl, g⟩
    have HG := Lib.hid g
    clear g
    go_wp2_with fail
    go_ret
    exact ⟨rfl, HG.out⟩
  have HBe : Hid (∀ W, Calls Tryz.prog 9 #[.int .i64 few, .bool false] W (RetBeg7 few false W)) := Lib.hid fun W => begin7_any few false W (by omega) (by omega)
  have HBf : Hid (∀ W, Calls Tryz.prog 9 #[.int .i64 many, .bool true] W (RetBeg7 many true W)) := Lib.hid fun W => begin7_any many true W (by omega) (by omega)
  have HN : Hid (n ≤ 80) := Lib.hid (by omega)
  go_wp2_with fail
  refine (HBe.out w).mono ?_
  rintro e w1 ⟨d1, l1, b1, m1, S1, rfl, a1, a2, a3⟩
  have HA1 := Lib.hid a1
  have HA2 := Lib.hid a2
  have HA3 := Lib.hid a3
  clear a1 a2 a3 g1 g2 g3 g4 g5 HBe
  go_wp2_with fail
  refine (HBf.out w1).mono ?_
  rintro e w2 ⟨d2, l2, b2, m2, S2, rfl, a1, a2, a3⟩
  have HI : Hid (AlI w w2 d1 l1 b1 m1 d2 l2 b2 m2 1000000) := Lib.hid ⟨_, _, _, _, _, _, ⟨AL.begin few false, AL.begin many true, Lg.Like.refl _, fun j _ _ => rfl⟩, S1, _, _, S2, _, _, HA1.out.gr a3, a1, fun q hq e => by
    have := HA1.out.low q hq; have := a2 q e; omega, HA2.out, fun q hq => Nat.le_trans HA3.out.size (a2 q hq), Gr.trans HA3.out a3⟩
  clear a1 a2 a3 HBf HA1 HA2 HA3
  go_wp2_with fail
  go_loopw [15] (fun kv wr => ∃ k : Nat, k ≤ n ∧ kv = .int .i64 (k : Int) ∧ Hid (AlI w wr d1 l1 b1 m1 d2 l2 b2 m2 (1000000 - 1000 * k))) (fun kv _ => n - (intOf kv).toNat)
  case atStart => exact ⟨0, Nat.zero_le _, rfl, Lib.hid HI.out⟩
  case round =>
    obtain ⟨k, hk, rfl, HJ⟩ := hrel
    by_cases hlt : k < n
    · have g3 : (k : Int) < (n : Int) := by omega
      have hw : IntKind.i64.wrap ((k : Int) + 1) = ((k + 1 : Nat) : Int) := by rw [IntWalk.i64_in _ (by have := HN.out; omega)]; omega
      obtain ⟨b, o, a, rfl, hrow⟩ := HB.out.row k hlt
      obtain ⟨hc, hin⟩ := hrow wr HJ.out.world
      have c0 : wr.cell? ⟨b, o + k * 5, none⟩ = some (.int .i64 a.kind) := hc 0 _ rfl
      have c1 : wr.cell? ⟨b, o + k * 5 + 1, none⟩ = some (.int .i64 a.page) := hc 1 _ rfl
      have c2 : wr.cell? ⟨b, o + k * 5 + 2, none⟩ = some (.int .i64 a.off) := hc 2 _ rfl
      have c3 : wr.cell? ⟨b, o + k * 5 + 3, none⟩ = some (.int .i64 a.n) := hc 3 _ rfl
      have c4 : wr.cell? ⟨b, o + k * 5 + 4, none⟩ = some (.slice a.pb a.nb a.cb) := hc 4 _ rfl
      have HRow : Hid (∀ V, Gr w V → a.In V) := Lib.hid fun V g => (hrow V g).2
      obtain ⟨kind, page, off, num, pb, nb, cb, ys⟩ := a
      dsimp only at c0 c1 c2 c3 c4
      clear hc hin hrow
      obtain ⟨W1, hW1⟩ : ∃ W1, W1 = wr.alloc (.cells #[.int .i64 kind, .int .i64 page, .int .i64 off, .int .i64 num, .slice pb nb cb] TPa) := ⟨_, rfl⟩
      have HW1 := Lib.hid hW1.symm
      have HQ : Hid (AlQ w W1 d1 l1 b1 m1 d2 l2 b2 m2 (1000000 - 1000 * k) [(wr.heap.size, TPa, #[.int .i64 kind, .int .i64 page, .int .i64 off, .int .i64 num, .slice pb nb cb])] FI CT) := Lib.hid (by
        obtain ⟨P1, s1, L1, P2, s2, L2, h1, h2⟩ := HJ.out
        rw [hW1]
        exact ⟨P1, s1, L1, P2, s2, L2, h1, trivial, h2.box _⟩)
      clear hW1
      by_cases hpA : 0 ≤ page
      · by_cases hpB : page < 19
        · go_wp2_with fail
          rw [HW1.out]
          go_roundw
          case rel => exact ⟨k + 1, by omega, by go_num, Lib.hid (HQ.out.al (by have := HN.out; omega))⟩
          case measure => simp [intOf]; omega
        · by_cases hnb : 300 < (nb : Int)
          · go_wp2_with fail
            rw [HW1.out]
            go_roundw
            case rel => exact ⟨k + 1, by omega, by go_num, Lib.hid (HQ.out.al (by have := HN.out; omega))⟩
            case measure => simp [intOf]; omega
          · have HPg : Hid (¬ (0 ≤ page ∧ page < 19)) := Lib.hid fun e => hpB e.2
            by_cases hk2 : kind = 2
            · subst hk2
              go_wp2_with fail
              rw [HW1.out]
              refine HQ.out.noteA.mono ?_
              rintro e w2 ⟨av, fv, xv, rfl, hq2⟩
              have HQ2 := Lib.hid hq2
              clear hq2
              go_wp2_with fail
              refine HQ2.out.noteB.mono ?_
              rintro e w3 ⟨rfl, hq3⟩
              have HQ3 := Lib.hid hq3
              clear hq3 HQ2
              cases xv with
              | false =>
                go_wp2_with fail
                refine (HK.out w3).mono ?_
                rintro e w4 ⟨rfl, g⟩
                have HG := Lib.hid (Gr.trans HQ3.out.blk.2 g)
                clear g
                go_wp2_with fail
                go_ret
                exact ⟨rfl, HG.out⟩
              | true =>
                have hy0 := (HRow.out w (Gr.refl w)).b
                have hy3 := (HRow.out w3 HQ3.out.blk.2).b
                dsimp only at hy0 hy3
                have HY0 := Lib.hid hy0
                have HS : Hid (∀ V, Gr w3 V → V.cell? ⟨wr.heap.size, 1, none⟩ = some (.int .i64 page) ∧ V.cell? ⟨wr.heap.size, 2, none⟩ = some (.int .i64 off) ∧ V.cell? ⟨wr.heap.size, 4, none⟩ = some (.slice pb nb cb)) := Lib.hid fun V g => by
                  have h := (HQ3.out.blk.1 _ (List.mem_singleton.2 rfl)).gr g
                  exact ⟨h.cell 1, h.cell 2, h.cell 4⟩
                have HPA : Hid (∀ V, Gr w3 V → Calls Tryz.prog 14 #[.pointer (some ⟨b1, 0, none⟩), .int .i64 page, .int .i64 off, .slice pb nb cb, .int .u64 (av : Int), .int .u64 (fv : Int)] V fun e w' => ∃ x, e = .returned (.int .i64 x) ∧ AlQ w w' d1 l1 b1 m1 d2 l2 b2 m2 (1000000 - 1000 * k - 200) [(wr.heap.size, TPa, #[.int .i64 2, .int .i64 page, .int .i64 off, .int .i64 num, .slice pb nb cb])] (fun P s L => (P.pt 64 page off ys av fv s L).2) (fun P s L => fv ≤ L.fin ∧ av ≤ 100000 ∧ x = (P.pt 64 page off ys av fv s L).1)) := Lib.hid fun V g => (HQ3.out.gr g).putA (by have := HN.out; omega) HY0.out (HRow.out V (Gr.trans HQ3.out.blk.2 g)).b
                have hS0 := HS.out w3 (Gr.refl _)
                have hS1 := HS.out w3.drew (Gr.refl _).drew
                clear hy0 hy3
                go_wp2_with fail
                go_region_held3 (fun V => V.cell? ⟨wr.heap.size, 1, none⟩ = some (.int .i64 page) ∧ V.cell? ⟨wr.heap.size, 2, none⟩ = some (.int .i64 off) ∧ V.cell? ⟨wr.heap.size, 4, none⟩ = some (.slice pb nb cb)) (first | exact hS0 | exact hS1 | exact hS2 | exact hS3) (first
                  | (go_at_call 14; refine (AlQ.putB HPg.out HM.out (by have := HN.out; omega) HY0.out (HRow.out w9 HM.out.blk.2).b).mono ?_; rintro e w10 ⟨rfl, hq10⟩; have HV := Lib.hid hq10; have hS3 : w10.cell? ⟨wr.heap.size, 1, none⟩ = some (.int .i64 page) ∧ w10.cell? ⟨wr.heap.size, 2, none⟩ = some (.int .i64 off) ∧ w10.cell? ⟨wr.heap.size, 4, none⟩ = some (.slice pb nb cb) := ⟨(HV.out.blk.1 _ (List.mem_singleton.2 rfl)).cell 1, (HV.out.blk.1 _ (List.mem_singleton.2 rfl)).cell 2, (HV.out.blk.1 _ (List.mem_singleton.2 rfl)).cell 4⟩; clear hq10)
                  | (go_at_call 14; refine (HPA.out _ (Gr.refl w3).drew).mono ?_; rintro e w9 ⟨xr, rfl, hq9⟩; have HM := Lib.hid hq9; have hS2 : w9.cell? ⟨wr.heap.size, 1, none⟩ = some (.int .i64 page) ∧ w9.cell? ⟨wr.heap.size, 2, none⟩ = some (.int .i64 off) ∧ w9.cell? ⟨wr.heap.size, 4, none⟩ = some (.slice pb nb cb) := ⟨(HM.out.blk.1 _ (List.mem_singleton.2 rfl)).cell 1, (HM.out.blk.1 _ (List.mem_singleton.2 rfl)).cell 2, (HM.out.blk.1 _ (List.mem_singleton.2 rfl)).cell 4⟩; clear hq9))
                obtain ⟨f1, -, -⟩ := hS3
                clear hS0 hS1 hS2
                go_wp2_with fail
                refine (HV.out.getA (i := page) (by have := HN.out; omega)).mono ?_
                rintro e w5 ⟨x, y, z, rfl, hq5⟩
                have HQ5 := Lib.hid hq5
                have hz := Pzero_sec
                have HB5 : Hid (Blk (w5.alloc (.cells (Psec PSec.zero) PTS)) w5.heap.size PTS (Psec PSec.zero)) := Lib.hid (Blk.new _ _ _)
                obtain ⟨W6, hW6⟩ : ∃ W6, W6 = (w5.alloc (.cells (Psec PSec.zero) PTS)).setRow w5.heap.size (Psec x) := ⟨_, rfl⟩
                have HW6 := Lib.hid hW6.symm
                have HQ6 := Lib.hid (HQ5.out.newrow (Psec PSec.zero) PTS (Psec x))
                rw [← hW6] at HQ6
                have e1 : W6.cell? ⟨wr.heap.size, 1, none⟩ = some (.int .i64 page) := (HQ6.out.blk.1 _ (List.mem_cons_of_mem _ (List.mem_singleton.2 rfl))).cell 1
                clear hq5 hW6 HQ5
                go_wp2_with (refine PwpList_store_x rfl (.tmp 23) (.tmp 151) rfl HB5.out rfl rfl ?_; rw [HW6.out])
                refine (AlQ.getB HPg.out HQ6.out (by have := HN.out; omega)).mono ?_
                rintro e w7 ⟨rfl, hq7⟩
                have HQ7 := Lib.hid hq7
                have HB7 : Hid (Blk (w7.alloc (.cells (Psec PSec.zero) PTS)) w7.heap.size PTS (Psec PSec.zero)) := Lib.hid (Blk.new _ _ _)
                obtain ⟨W8, hW8⟩ : ∃ W8, W8 = (w7.alloc (.cells (Psec PSec.zero) PTS)).setRow w7.heap.size (Psec x) := ⟨_, rfl⟩
                have HW8 := Lib.hid hW8.symm
                have HQ8 := Lib.hid (HQ7.out.newrow (Psec PSec.zero) PTS (Psec x))
                rw [← hW8] at HQ8
                have HX8 : Hid (Blk W8 w7.heap.size PTS (Psec x) ∧ Blk W8 w5.heap.size PTS (Psec x)) := Lib.hid ⟨HQ8.out.blk.1 _ (List.mem_cons.2 (.inl rfl)), HQ8.out.blk.1 _ (List.mem_cons_of_mem _ (List.mem_cons.2 (.inl rfl)))⟩
                have hne := Pneq_sec x x
                rw [decide_eq_true (rfl : x = x)] at hne
                clear hq7 hW8 HQ7 e1
                go_wp2_with (first | (refine PwpList_store_x rfl (.tmp 26) (.tmp 159) rfl HB7.out rfl rfl ?_; rw [HW8.out]) | (refine PwpList_load_x rfl (.tmp 23) rfl HX8.out.2 rfl ?_) | (refine PwpList_load_x rfl (.tmp 26) rfl HX8.out.1 rfl ?_))
                go_roundw
                case rel => exact ⟨k + 1, by omega, by go_num, Lib.hid (HQ8.out.al (by have := HN.out; omega))⟩
                case measure => simp [intOf]; omega
            · have hkn : (kind == 2) = false := beq_eq_false_iff_ne.2 hk2
              have HV := HQ
              go_wp2_with fail
              rw [HW1.out]
              refine (HV.out.getA (i := page) (by have := HN.out; omega)).mono ?_
              rintro e w5 ⟨x, y, z, rfl, hq5⟩
              have HQ5 := Lib.hid hq5
              have hz := Pzero_sec
              have HB5 : Hid (Blk (w5.alloc (.cells (Psec PSec.zero) PTS)) w5.heap.size PTS (Psec PSec.zero)) := Lib.hid (Blk.new _ _ _)
              obtain ⟨W6, hW6⟩ : ∃ W6, W6 = (w5.alloc (.cells (Psec PSec.zero) PTS)).setRow w5.heap.size (Psec x) := ⟨_, rfl⟩
              have HW6 := Lib.hid hW6.symm
              have HQ6 := Lib.hid (HQ5.out.newrow (Psec PSec.zero) PTS (Psec x))
              rw [← hW6] at HQ6
              have e1 : W6.cell? ⟨wr.heap.size, 1, none⟩ = some (.int .i64 page) := (HQ6.out.blk.1 _ (List.mem_cons_of_mem _ (List.mem_singleton.2 rfl))).cell 1
              clear hq5 hW6 HQ5
              go_wp2_with (refine PwpList_store_x rfl (.tmp 23) (.tmp 151) rfl HB5.out rfl rfl ?_; rw [HW6.out])
              refine (AlQ.getB HPg.out HQ6.out (by have := HN.out; omega)).mono ?_
              rintro e w7 ⟨rfl, hq7⟩
              have HQ7 := Lib.hid hq7
              have HB7 : Hid (Blk (w7.alloc (.cells (Psec PSec.zero) PTS)) w7.heap.size PTS (Psec PSec.zero)) := Lib.hid (Blk.new _ _ _)
              obtain ⟨W8, hW8⟩ : ∃ W8, W8 = (w7.alloc (.cells (Psec PSec.zero) PTS)).setRow w7.heap.size (Psec x) := ⟨_, rfl⟩
              have HW8 := Lib.hid hW8.symm
              have HQ8 := Lib.hid (HQ7.out.newrow (Psec PSec.zero) PTS (Psec x))
              rw [← hW8] at HQ8
              have HX8 : Hid (Blk W8 w7.heap.size PTS (Psec x) ∧ Blk W8 w5.heap.size PTS (Psec x)) := Lib.hid ⟨HQ8.out.blk.1 _ (List.mem_cons.2 (.inl rfl)), HQ8.out.blk.1 _ (List.mem_cons_of_mem _ (List.mem_cons.2 (.inl rfl)))⟩
              have hne := Pneq_sec x x
              rw [decide_eq_true (rfl : x = x)] at hne
              clear hq7 hW8 HQ7 e1
              go_wp2_with (first | (refine PwpList_store_x rfl (.tmp 26) (.tmp 159) rfl HB7.out rfl rfl ?_; rw [HW8.out]) | (refine PwpList_load_x rfl (.tmp 23) rfl HX8.out.2 rfl ?_) | (refine PwpList_load_x rfl (.tmp 26) rfl HX8.out.1 rfl ?_))
              go_roundw
              case rel => exact ⟨k + 1, by omega, by go_num, Lib.hid (HQ8.out.al (by have := HN.out; omega))⟩
              case measure => simp [intOf]; omega
      · by_cases hnb : 300 < (nb : Int)
        · go_wp2_with fail
          rw [HW1.out]
          go_roundw
          case rel => exact ⟨k + 1, by omega, by go_num, Lib.hid (HQ.out.al (by have := HN.out; omega))⟩
          case measure => simp [intOf]; omega
        · have HPg : Hid (¬ (0 ≤ page ∧ page < 19)) := Lib.hid fun e => hpA e.1
          by_cases hk2 : kind = 2
          · subst hk2
            go_wp2_with fail
            rw [HW1.out]
            refine HQ.out.noteA.mono ?_
            rintro e w2 ⟨av, fv, xv, rfl, hq2⟩
            have HQ2 := Lib.hid hq2
            clear hq2
            go_wp2_with fail
            refine HQ2.out.noteB.mono ?_
            rintro e w3 ⟨rfl, hq3⟩
            have HQ3 := Lib.hid hq3
            clear hq3 HQ2
            cases xv with
            | false =>
              go_wp2_with fail
              refine (HK.out w3).mono ?_
              rintro e w4 ⟨rfl, g⟩
              have HG := Lib.hid (Gr.trans HQ3.out.blk.2 g)
              clear g
              go_wp2_with fail
              go_ret
              exact ⟨rfl, HG.out⟩
            | true =>
              have hy0 := (HRow.out w (Gr.refl w)).b
              have hy3 := (HRow.out w3 HQ3.out.blk.2).b
              dsimp only at hy0 hy3
              have HY0 := Lib.hid hy0
              have HS : Hid (∀ V, Gr w3 V → V.cell? ⟨wr.heap.size, 1, none⟩ = some (.int .i64 page) ∧ V.cell? ⟨wr.heap.size, 2, none⟩ = some (.int .i64 off) ∧ V.cell? ⟨wr.heap.size, 4, none⟩ = some (.slice pb nb cb)) := Lib.hid fun V g => by
                have h := (HQ3.out.blk.1 _ (List.mem_singleton.2 rfl)).gr g
                exact ⟨h.cell 1, h.cell 2, h.cell 4⟩
              have HPA : Hid (∀ V, Gr w3 V → Calls Tryz.prog 14 #[.pointer (some ⟨b1, 0, none⟩), .int .i64 page, .int .i64 off, .slice pb nb cb, .int .u64 (av : Int), .int .u64 (fv : Int)] V fun e w' => ∃ x, e = .returned (.int .i64 x) ∧ AlQ w w' d1 l1 b1 m1 d2 l2 b2 m2 (1000000 - 1000 * k - 200) [(wr.heap.size, TPa, #[.int .i64 2, .int .i64 page, .int .i64 off, .int .i64 num, .slice pb nb cb])] (fun P s L => (P.pt 64 page off ys av fv s L).2) (fun P s L => fv ≤ L.fin ∧ av ≤ 100000 ∧ x = (P.pt 64 page off ys av fv s L).1)) := Lib.hid fun V g => (HQ3.out.gr g).putA (by have := HN.out; omega) HY0.out (HRow.out V (Gr.trans HQ3.out.blk.2 g)).b
              have hS0 := HS.out w3 (Gr.refl _)
              have hS1 := HS.out w3.drew (Gr.refl _).drew
              clear hy0 hy3
              go_wp2_with fail
              go_region_held3 (fun V => V.cell? ⟨wr.heap.size, 1, none⟩ = some (.int .i64 page) ∧ V.cell? ⟨wr.heap.size, 2, none⟩ = some (.int .i64 off) ∧ V.cell? ⟨wr.heap.size, 4, none⟩ = some (.slice pb nb cb)) (first | exact hS0 | exact hS1 | exact hS2 | exact hS3) (first
                | (go_at_call 14; refine (AlQ.putB HPg.out HM.out (by have := HN.out; omega) HY0.out (HRow.out w9 HM.out.blk.2).b).mono ?_; rintro e w10 ⟨rfl, hq10⟩; have HV := Lib.hid hq10; have hS3 : w10.cell? ⟨wr.heap.size, 1, none⟩ = some (.int .i64 page) ∧ w10.cell? ⟨wr.heap.size, 2, none⟩ = some (.int .i64 off) ∧ w10.cell? ⟨wr.heap.size, 4, none⟩ = some (.slice pb nb cb) := ⟨(HV.out.blk.1 _ (List.mem_singleton.2 rfl)).cell 1, (HV.out.blk.1 _ (List.mem_singleton.2 rfl)).cell 2, (HV.out.blk.1 _ (List.mem_singleton.2 rfl)).cell 4⟩; clear hq10)
                | (go_at_call 14; refine (HPA.out _ (Gr.refl w3).drew).mono ?_; rintro e w9 ⟨xr, rfl, hq9⟩; have HM := Lib.hid hq9; have hS2 : w9.cell? ⟨wr.heap.size, 1, none⟩ = some (.int .i64 page) ∧ w9.cell? ⟨wr.heap.size, 2, none⟩ = some (.int .i64 off) ∧ w9.cell? ⟨wr.heap.size, 4, none⟩ = some (.slice pb nb cb) := ⟨(HM.out.blk.1 _ (List.mem_singleton.2 rfl)).cell 1, (HM.out.blk.1 _ (List.mem_singleton.2 rfl)).cell 2, (HM.out.blk.1 _ (List.mem_singleton.2 rfl)).cell 4⟩; clear hq9))
              obtain ⟨f1, -, -⟩ := hS3
              clear hS0 hS1 hS2
              go_wp2_with fail
              refine (HV.out.getA (i := page) (by have := HN.out; omega)).mono ?_
              rintro e w5 ⟨x, y, z, rfl, hq5⟩
              have HQ5 := Lib.hid hq5
              have hz := Pzero_sec
              have HB5 : Hid (Blk (w5.alloc (.cells (Psec PSec.zero) PTS)) w5.heap.size PTS (Psec PSec.zero)) := Lib.hid (Blk.new _ _ _)
              obtain ⟨W6, hW6⟩ : ∃ W6, W6 = (w5.alloc (.cells (Psec PSec.zero) PTS)).setRow w5.heap.size (Psec x) := ⟨_, rfl⟩
              have HW6 := Lib.hid hW6.symm
              have HQ6 := Lib.hid (HQ5.out.newrow (Psec PSec.zero) PTS (Psec x))
              rw [← hW6] at HQ6
              have e1 : W6.cell? ⟨wr.heap.size, 1, none⟩ = some (.int .i64 page) := (HQ6.out.blk.1 _ (List.mem_cons_of_mem _ (List.mem_singleton.2 rfl))).cell 1
              clear hq5 hW6 HQ5
              go_wp2_with (refine PwpList_store_x rfl (.tmp 23) (.tmp 151) rfl HB5.out rfl rfl ?_; rw [HW6.out])
              refine (AlQ.getB HPg.out HQ6.out (by have := HN.out; omega)).mono ?_
              rintro e w7 ⟨rfl, hq7⟩
              have HQ7 := Lib.hid hq7
              have HB7 : Hid (Blk (w7.alloc (.cells (Psec PSec.zero) PTS)) w7.heap.size PTS (Psec PSec.zero)) := Lib.hid (Blk.new _ _ _)
              obtain ⟨W8, hW8⟩ : ∃ W8, W8 = (w7.alloc (.cells (Psec PSec.zero) PTS)).setRow w7.heap.size (Psec x) := ⟨_, rfl⟩
              have HW8 := Lib.hid hW8.symm
              have HQ8 := Lib.hid (HQ7.out.newrow (Psec PSec.zero) PTS (Psec x))
              rw [← hW8] at HQ8
              have HX8 : Hid (Blk W8 w7.heap.size PTS (Psec x) ∧ Blk W8 w5.heap.size PTS (Psec x)) := Lib.hid ⟨HQ8.out.blk.1 _ (List.mem_cons.2 (.inl rfl)), HQ8.out.blk.1 _ (List.mem_cons_of_mem _ (List.mem_cons.2 (.inl rfl)))⟩
              have hne := Pneq_sec x x
              rw [decide_eq_true (rfl : x = x)] at hne
              clear hq7 hW8 HQ7 e1
              go_wp2_with (first | (refine PwpList_store_x rfl (.tmp 26) (.tmp 159) rfl HB7.out rfl rfl ?_; rw [HW8.out]) | (refine PwpList_load_x rfl (.tmp 23) rfl HX8.out.2 rfl ?_) | (refine PwpList_load_x rfl (.tmp 26) rfl HX8.out.1 rfl ?_))
              go_roundw
              case rel => exact ⟨k + 1, by omega, by go_num, Lib.hid (HQ8.out.al (by have := HN.out; omega))⟩
              case measure => simp [intOf]; omega
          · have hkn : (kind == 2) = false := beq_eq_false_iff_ne.2 hk2
            have HV := HQ
            go_wp2_with fail
            rw [HW1.out]
            refine (HV.out.getA (i := page) (by have := HN.out; omega)).mono ?_
            rintro e w5 ⟨x, y, z, rfl, hq5⟩
            have HQ5 := Lib.hid hq5
            have hz := Pzero_sec
            have HB5 : Hid (Blk (w5.alloc (.cells (Psec PSec.zero) PTS)) w5.heap.size PTS (Psec PSec.zero)) := Lib.hid (Blk.new _ _ _)
            obtain ⟨W6, hW6⟩ : ∃ W6, W6 = (w5.alloc (.cells (Psec PSec.zero) PTS)).setRow w5.heap.size (Psec x) := ⟨_, rfl⟩
            have HW6 := Lib.hid hW6.symm
            have HQ6 := Lib.hid (HQ5.out.newrow (Psec PSec.zero) PTS (Psec x))
            rw [← hW6] at HQ6
            have e1 : W6.cell? ⟨wr.heap.size, 1, none⟩ = some (.int .i64 page) := (HQ6.out.blk.1 _ (List.mem_cons_of_mem _ (List.mem_singleton.2 rfl))).cell 1
            clear hq5 hW6 HQ5
            go_wp2_with (refine PwpList_store_x rfl (.tmp 23) (.tmp 151) rfl HB5.out rfl rfl ?_; rw [HW6.out])
            refine (AlQ.getB HPg.out HQ6.out (by have := HN.out; omega)).mono ?_
            rintro e w7 ⟨rfl, hq7⟩
            have HQ7 := Lib.hid hq7
            have HB7 : Hid (Blk (w7.alloc (.cells (Psec PSec.zero) PTS)) w7.heap.size PTS (Psec PSec.zero)) := Lib.hid (Blk.new _ _ _)
            obtain ⟨W8, hW8⟩ : ∃ W8, W8 = (w7.alloc (.cells (Psec PSec.zero) PTS)).setRow w7.heap.size (Psec x) := ⟨_, rfl⟩
            have HW8 := Lib.hid hW8.symm
            have HQ8 := Lib.hid (HQ7.out.newrow (Psec PSec.zero) PTS (Psec x))
            rw [← hW8] at HQ8
            have HX8 : Hid (Blk W8 w7.heap.size PTS (Psec x) ∧ Blk W8 w5.heap.size PTS (Psec x)) := Lib.hid ⟨HQ8.out.blk.1 _ (List.mem_cons.2 (.inl rfl)), HQ8.out.blk.1 _ (List.mem_cons_of_mem _ (List.mem_cons.2 (.inl rfl)))⟩
            have hne := Pneq_sec x x
            rw [decide_eq_true (rfl : x = x)] at hne
            clear hq7 hW8 HQ7 e1
            go_wp2_with (first | (refine PwpList_store_x rfl (.tmp 26) (.tmp 159) rfl HB7.out rfl rfl ?_; rw [HW8.out]) | (refine PwpList_load_x rfl (.tmp 23) rfl HX8.out.2 rfl ?_) | (refine PwpList_load_x rfl (.tmp 26) rfl HX8.out.1 rfl ?_))
            go_roundw
            case rel => exact ⟨k + 1, by omega, by go_num, Lib.hid (HQ8.out.al (by have := HN.out; omega))⟩
            case measure => simp [intOf]; omega
    · obtain rfl : k = n := by omega
      go_wp2_with fail
      refine (HK.out wr).mono ?_
      rintro e w4 ⟨rfl, g⟩
      have HG := Lib.hid (Gr.trans HJ.out.world g)
      clear g
      go_wp2_with fail
      go_ret
      exact ⟨rfl, HG.out⟩
end Go.Proofs.YtomkeiboaghinaaGreat

