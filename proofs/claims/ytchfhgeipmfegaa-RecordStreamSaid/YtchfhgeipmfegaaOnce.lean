
/-
  Going over a program's records, as the law does.
-/
import Derived.Test.YtchfhgeipmfegaaRecRefAll
import Derived.Test.YtchfhgeipmfegaaFlowIn
namespace Go.Proofs.Ytchfhgeipmfegaa
open Go.RowKit Go.Shelf Cr
attribute [local go_sem] Oper.semAt_some

abbrev TBo : TypeId := 4

/-- What turns no cells keeps them. -/
theorem hold_grown {W W' : World} {row : Option Nat} (g : W.grownBy W' row) (hr : ∀ r, row = some r → ∃ o : Obj, W.heap[r]? = some o ∧ o.isCells = false) : HoldS Obj.isCells (fun _ => True) W W' :=
  ⟨g.size, fun k o _ hk hc => (g.block k (Array.getElem?_eq_some_iff.1 hk).1 (fun e => by
    obtain ⟨o2, h1, h2⟩ := hr k e.symm
    rw [hk] at h1
    cases h1
    rw [hc] at h2
    cases h2)).trans hk⟩
theorem Blk.held {W W' : World} {g : Nat} {t : TypeId} {cs : Array Value} (h : Blk W g t cs) (k : HoldS Obj.isCells (fun _ => True) W W') : Blk W' g t cs := k.same g _ trivial h rfl
theorem OwnR.held {α : Type} {S : Shp α} {w w' : World} {base : Nat} {T : TypeId} {v : Value} {L : List α} (h : OwnR S w base T v L) (g : HoldS Obj.isCells (fun _ => True) w w') : OwnR S w' base T v L := by
  refine ⟨⟨h.row.1, ?_⟩, fun x hx s hs => ⟨(h.each x hx s hs).1.held (fun _ h => h) g (fun _ _ => trivial), (h.each x hx s hs).2⟩⟩
  rcases h.row.2 with h2 | ⟨b, cap, cur, e, h0, hg, r⟩
  · exact .inl h2
  · exact .inr ⟨b, cap, cur, e, h0, g.same b _ trivial hg rfl, r⟩
theorem OwnB.held {w w' : World} {base tB : Nat} {v : Value} {xs : List Int} (h : OwnB w base tB v xs) (g : HoldS Obj.isCells (fun _ => True) w w') : OwnB w' base tB v xs := by
  refine ⟨⟨h.row.1, ?_⟩, h.small⟩
  rcases h.row.2 with h2 | ⟨b, cap, cur, e, h0, hg, r⟩
  · exact .inl h2
  · exact .inr ⟨b, cap, cur, e, h0, g.same b _ trivial hg rfl, r⟩
theorem RX.Good.held {x : RX} {W W' : World} (h : x.Good W) (g : HoldS Obj.isCells (fun _ => True) W W') : x.Good W' := ⟨h.b.held g, h.a.held g, h.e, h.i⟩
theorem RX.Good.gr {x : RX} {W W' : World} (h : x.Good W) (g : Gr W W') : x.Good W' := ⟨h.b.below' g, h.a.below' g, h.e, h.i⟩

/-- What lies there while the records are gone over. -/
structure OnAt (w : World) (vs : Value) (most : Int) (r : Bool) (k : Nat) (W : World) : Prop where
  gr : Gr w W
  b6 : Blk W w.heap.size TSL #[vs]
  b7 : Blk W (w.heap.size + 1) TI #[.int .i64 most]
  b8 : Blk W (w.heap.size + 1 + 1) TBo #[.bool r]
  b9 : Blk W (w.heap.size + 1 + 1 + 1) TI #[.int .i64 k]
theorem OnAt.up {w : World} {vs : Value} {most : Int} {r : Bool} {k : Nat} {W W' : World} (h : OnAt w vs most r k W) (g : Gr W W') : OnAt w vs most r k W' :=
  ⟨Gr.trans h.gr g, h.b6.below g h.b6.lt, h.b7.below g h.b7.lt, h.b8.below g h.b8.lt, h.b9.below g h.b9.lt⟩
theorem OnAt.held {w : World} {vs : Value} {most : Int} {r : Bool} {k : Nat} {W W' : World} (h : OnAt w vs most r k W) (g : Gr w W') (s : HoldS Obj.isCells (fun _ => True) W W') : OnAt w vs most r k W' :=
  ⟨g, h.b6.held s, h.b7.held s, h.b8.held s, h.b9.held s⟩
theorem OnAt.num {w : World} {vs : Value} {most : Int} {r : Bool} {k : Nat} {W : World} (h : OnAt w vs most r k W) (k' : Nat) : OnAt w vs most r k' (W.setCell ⟨w.heap.size + 1 + 1 + 1, 0, none⟩ (.int .i64 k')) :=
  ⟨h.gr.setCell (p := ⟨w.heap.size + 1 + 1 + 1, 0, none⟩) (by show w.heap.size ≤ w.heap.size + 1 + 1 + 1; omega) _, h.b6.far (by show w.heap.size ≠ w.heap.size + 1 + 1 + 1; omega) _, h.b7.far (by show w.heap.size + 1 ≠ w.heap.size + 1 + 1 + 1; omega) _, h.b8.far (by show w.heap.size + 1 + 1 ≠ w.heap.size + 1 + 1 + 1; omega) _, h.b9.set 0 _⟩
theorem OnAt.res {w : World} {vs : Value} {most : Int} {r : Bool} {k : Nat} {W : World} (h : OnAt w vs most r k W) (r' : Bool) : OnAt w vs most r' k (W.setCell ⟨w.heap.size + 1 + 1, 0, none⟩ (.bool r')) :=
  ⟨h.gr.setCell (p := ⟨w.heap.size + 1 + 1, 0, none⟩) (by show w.heap.size ≤ w.heap.size + 1 + 1; omega) _, h.b6.far (by show w.heap.size ≠ w.heap.size + 1 + 1; omega) _, h.b7.far (by show w.heap.size + 1 ≠ w.heap.size + 1 + 1; omega) _, h.b8.set 0 _, h.b9.far (by show w.heap.size + 1 + 1 + 1 ≠ w.heap.size + 1 + 1; omega) _⟩
theorem onAt_own {w : World} {vs : Value} {most : Int} {r : Bool} {B : Nat} {f : List RX → Nat} (hB : w.heap.size ≤ B) : OwnFrom B (fun pre W => OnAt w vs most r (f pre) W) := fun s X Y row hs hg hr =>
  hs.held (Below.grown hs.gr hg hs.gr.size (fun k e => by have := (hr k e).1; omega)) (hold_grown hg (fun r e => (hr r e).2))

def SlO8 (_ : Nat) (_ : Nat) (G : Nat) (k : Nat) (e : Nat) (ll : Nat) (lc : Nat) (ck : Int) (ct : Nat) (cp : Nat) (cx : Nat) (cg : Int) (co : Int) (pb : Option Addr) (nb : Nat) (cb : Nat) (pa : Option Addr) (na : Nat) (ca : Nat) (qb : Option Addr) (mb : Nat) (db : Nat) (qa : Option Addr) (ma : Nat) (da : Nat) (slot : Nat) (v : Value) (_ : World) : Prop :=
  match slot with
  | 21 | 28 | 37 => v = .int .i64 k
  | 22 | 27 | 36 => v = .slice (some ⟨G, 0, none⟩) ll lc
  | 23 => v = .int .i64 ll
  | 24 | 25 | 32 | 33 | 34 | 42 | 43 => v = .bool false
  | 26 | 31 => v = .int .u64 e
  | 29 | 30 | 38 => v = .pointer (some ⟨G, k * 9, none⟩)
  | 35 => v = .agg #[.int .i64 ck, .int .u64 ct, .int .u64 cp, .int .u64 cx, .int .i64 cg, .int .i64 co, .slice pb nb cb, .slice pa na ca]
  | 39 => v = .pointer (some ⟨G, k * 9 + 1, none⟩)
  | 40 => v = .agg #[.int .i64 ck, .int .u64 ct, .int .u64 cp, .int .u64 cx, .int .i64 cg, .int .i64 co, .slice qb mb db, .slice qa ma da]
  | 41 => v = .bool true
  | _ => True

theorem results_cell_one {fn : Func} {p : Tmp} {ty : TypeId} (h : fn.results = #[.cell p ty]) (ha : ∀ w, (isAgg ty).run Try.prog w = .ok false w) (tmps : Array Value) (w : World) (a : Addr) (v : Value) (hp : tmps.getD p undef = .pointer (some a)) (hc : w.cell? a = some v) : (results fn tmps).run Try.prog w = .ok v w := by
  simp only [results, h]
  simp [-Array.getD_eq_getD_getElem?, Sem.run_bind, Result.andThen, hp, asAddr, loadVar, ha, hc]
/-- Behind the loop: its block for what is deferred is taken up. -/
theorem OnAt.over {w : World} {vs : Value} {most : Int} {k D : Nat} {W : World} (h : OnAt w vs most true k W) (hD : w.heap.size ≤ D) (hK : W.heap[D]? = some (.deferred (some []))) : Gr w (W.putObj D (.deferred none)) ∧ (W.putObj D (.deferred none)).cell? ⟨w.heap.size + 1 + 1, 0, none⟩ = some (.bool true) := by
  have g := grownBy_putObj' W D (.deferred none)
  have hne : w.heap.size + 1 + 1 ≠ D := fun e => by
    have h1 := h.b8
    unfold Blk at h1
    rw [e, hK] at h1
    cases h1
  exact ⟨Below.grown h.gr g h.gr.size (fun j e => by cases e; exact hD), Blk.cell (t := TBo) (cs := #[.bool true]) ((g.block _ h.b8.lt (fun e => hne (Option.some.inj e))).trans h.b8) 0⟩

set_option maxRecDepth 100000 in
set_option maxHeartbeats 4000000 in
theorem once_any (p : Option Addr) (n c : Nat) (xs : List Int) (at' : Nat) (lp : Option Addr) (ll lc : Nat) (L : List RX) (most : Int) (w : World) (hb : Byt w p n c xs) (hat : at' ≤ 18446744073709551615) (hn : n ≤ 20000)
    (hL : OwnR ShS w 0 TST (.slice lp ll lc) L) (hLe : L.map RX.two = allL xs at') :
    Calls Try.prog 25 #[.slice p n c, .int .u64 at', .slice lp ll lc, .int .i64 most] w (RetB true w) := by
  have HB := Lib.hid hb
  have HL := Lib.hid hL
  have HLE := Lib.hid hLe
  have lx := Lib.hid hb.len
  clear hb hL hLe
  refine (callsIn_wide (n := 8)).1 ?_
  refine callsIn_of_wp_marks Try.func25 rfl trivial ?_ rfl
  simp only [Try.ntmps25, List.size_toArray, List.length_cons, List.length_nil, Nat.reduceAdd, Nat.reduceSub, Array.replicate_succ, Array.replicate_zero, List.push_toArray, List.append_toArray, List.nil_append, List.cons_append]
  gi_wp2_with fail
  obtain ⟨V0, hV0⟩ : ∃ V0, V0 = ((((w.alloc (.cells #[.slice lp ll lc] TSL)).alloc (.cells #[.int .i64 most] TI)).alloc (.cells #[.bool false] TBo)).alloc (.cells #[.int .i64 0] TI)) := ⟨_, rfl⟩
  have H0 : Hid (OnAt w (.slice lp ll lc) most false 0 V0 ∧ V0.heap.size = w.heap.size + 1 + 1 + 1 + 1) := Lib.hid (by
    rw [hV0]
    have h1 := Blk.new w TSL #[.slice lp ll lc]
    have h2 := Blk.new (w.alloc (.cells #[.slice lp ll lc] TSL)) TI #[.int .i64 most]
    have h3 := Blk.new ((w.alloc (.cells #[.slice lp ll lc] TSL)).alloc (.cells #[.int .i64 most] TI)) TBo #[.bool false]
    have h4 := Blk.new (((w.alloc (.cells #[.slice lp ll lc] TSL)).alloc (.cells #[.int .i64 most] TI)).alloc (.cells #[.bool false] TBo)) TI #[.int .i64 0]
    simp only [World.size_alloc] at h2 h3 h4
    have g1 := (Gr.refl w).alloc (Nat.le_refl _) (.cells #[.slice lp ll lc] TSL)
    have g2 := g1.alloc g1.size (.cells #[.int .i64 most] TI)
    have g3 := g2.alloc g2.size (.cells #[.bool false] TBo)
    exact ⟨⟨g3.alloc g3.size _, ((h1.alloc _).alloc _).alloc _, (h2.alloc _).alloc _, h3.alloc _, h4⟩, by simp⟩)
  have hV0' : ((((w.alloc (.cells #[.slice lp ll lc] 65)).alloc (.cells #[.int .i64 most] 3)).alloc (.cells #[.bool false] 4)).alloc (.cells #[.int .i64 0] 3)) = V0 := hV0.symm
  rw [hV0']
  clear hV0 hV0'
  refine ⟨trivial, ?_⟩
  refine (callsIn_wide.2 (all_any p n c xs at' _ (HB.out.kept H0.out.1.gr) hn)).mono ?_
  rintro e V ⟨q, m, d, rfl, hA, hq, g1⟩
  have hm : m ≤ 20000 := by have := hA.y.len; have := lx.out; omega
  have H1 := Lib.hid (H0.out.1.up g1)
  have HQ : Hid (∀ y, q = some y → w.heap.size + 1 + 1 + 1 < y.block) := Lib.hid fun y h => by have h2 := hq y h; have h3 := H0.out.2; omega
  have HSZ : Hid (w.heap.size ≤ V.heap.size) := Lib.hid H1.out.gr.size
  have HA := Lib.hid hA
  clear H0 hq g1 hA
  have he : Sem.run Try.prog (binOp .eql 102 (.func (.func 74) #[] #[.pointer (some ⟨V0.heap.size, 0, none⟩), .pointer (some ⟨V0.heap.size + 1, 0, none⟩)]) .nilFunc) V = .ok (.bool false) V := by
    have hu : Try.prog.underlying 102 = some (.func #[123] #[] false) := by kernel_rfl
    have h : ∀ D : Nat, (Op.equalIn (D + 1) 102 (.func (.func 74) #[] #[.pointer (some ⟨V0.heap.size, 0, none⟩), .pointer (some ⟨V0.heap.size + 1, 0, none⟩)]) .nilFunc).run Try.prog V = .ok false V := fun D => by simp [Op.equalIn, run_underlying hu]
    simp [binOp, Op.equal, Op.maxDepth, h 9999]
  gi_wp2_with fail
  refine wpIn_range_told (F := Fence.wide) rfl (by omega) (gf := 74) (lb := #[.pointer (some ⟨V0.heap.size, 0, none⟩), .pointer (some ⟨V0.heap.size + 1, 0, none⟩)]) rfl trivial (enters_of Try.func74 (by kernel_rfl) rfl)
    (all1_told 7 (by omega) V0.heap.size (V0.heap.size + 1) q m d xs at' V HA.out hat hm) (Below.refl _ _) (fun _ => rfl)
    (fun pre W => OnAt w (.slice lp ll lc) most false pre.length W) (fun _ W => ∃ k, OnAt w (.slice lp ll lc) most true k W) (onAt_own HSZ.out) ?hIr H1.out
    (fun pre x b W => x.Good W ∧ (∃ zs, (pre ++ [x]).map RX.two ++ zs = allL xs at') ∧ ∃ R, w.heap.size + 1 + 1 + 1 < R ∧ Blk W R TR #[.int .i64 x.c.k, .int .u64 x.c.t, .int .u64 x.c.p, .int .u64 x.c.x, .int .i64 x.c.g, .int .i64 x.c.o, .slice x.pb x.nb x.cb, .slice x.pa x.na x.ca] ∧ b = ({ tmps := #[.slice p n c, .int .u64 at', .slice lp ll lc, .int .i64 most, undef, undef, .pointer (some ⟨w.heap.size, 0, none⟩), .pointer (some ⟨w.heap.size + 1, 0, none⟩), .pointer (some ⟨w.heap.size + 1 + 1, 0, none⟩), .pointer (some ⟨w.heap.size + 1 + 1 + 1, 0, none⟩), .func (.func 74) #[] #[.pointer (some ⟨V0.heap.size, 0, none⟩), .pointer (some ⟨V0.heap.size + 1, 0, none⟩)], .int .u64 x.e, .pointer (some ⟨R, 0, none⟩), .slice p n c, .int .u64 at', .func (.func 74) #[] #[.pointer (some ⟨V0.heap.size, 0, none⟩), .pointer (some ⟨V0.heap.size + 1, 0, none⟩)], .func (.func 74) #[] #[.pointer (some ⟨V0.heap.size, 0, none⟩), .pointer (some ⟨V0.heap.size + 1, 0, none⟩)], .bool false, .func (.func 74) #[] #[.pointer (some ⟨V0.heap.size, 0, none⟩), .pointer (some ⟨V0.heap.size + 1, 0, none⟩)], .int .u64 x.e, .agg #[.int .i64 x.c.k, .int .u64 x.c.t, .int .u64 x.c.p, .int .u64 x.c.x, .int .i64 x.c.g, .int .i64 x.c.o, .slice x.pb x.nb x.cb, .slice x.pa x.na x.ca], undef, undef, undef, undef, undef, undef, undef, undef, undef, undef, undef, undef, undef, undef, undef, undef, undef, undef, undef, undef, undef, undef, undef, undef, undef, undef, undef, undef, undef, undef, undef, undef], defers := [] } : Act)) ?hAx ?assign ?body ?done ?stop
  case assign =>
    rintro l pre x W K hi ⟨hgood, hpre⟩ hK
    gi_wp2_with fail
    have gn := (Gr.refl W).alloc (Nat.le_refl _) (.cells #[.int .i64 x.c.k, .int .u64 x.c.t, .int .u64 x.c.p, .int .u64 x.c.x, .int .i64 x.c.g, .int .i64 x.c.o, .slice x.pb x.nb x.cb, .slice x.pa x.na x.ca] TR)
    have h9 := hi.b9.lt
    exact hK _ _ ((KeepsOthers.alloc _ _).from _) (Gr.hold gn) (hi.up gn) ⟨hgood.gr gn, hpre, W.heap.size, h9, Blk.new W TR _, rfl⟩
  case hIr =>
    rintro s X Y row ⟨k, hs⟩ hg hr
    exact ⟨k, hs.held (Below.grown hs.gr hg hs.gr.size (fun k e => by have := (hr k e).1; have := HSZ.out; omega)) (hold_grown hg (fun r e => (hr r e).2))⟩
  case hAx =>
    rintro pre x b s X Y row ⟨h1, h2, R, h3, h4, h5⟩ hg hr
    have hh := hold_grown hg (fun r e => (hr r e).2)
    exact ⟨h1.held hh, h2, R, h3, h4.held hh, h5⟩
  case done =>
    rintro D ys W hD hS hi hK
    have hln : ys.length = ll := by
      have h1 := congrArg List.length (hS.trans HLE.out.symm)
      obtain ⟨_, _, h2, _⟩ := HL.out.shape L.length rfl
      simp only [Value.slice.injEq] at h2
      simp only [List.length_map] at h1
      omega
    have n9 := hi.b9.cell 0
    have n6 := hi.b6.cell 0
    have n8 := hi.b8.cell 0
    have f8 := hi.b8.frozen 0
    simp at n9 n6 n8
    rw [hln] at n9
    have hDw : w.heap.size ≤ D := Nat.le_trans HSZ.out hD
    have hi2 := hi.res true
    have hK2 := (KeepsOthers.setCell W ⟨w.heap.size + 1 + 1, 0, none⟩ (.bool true)).same D _ hK rfl
    gi_wp2_with fail
    refine ⟨by simp, .inl ⟨_, _, rfl, run_takeDeferred hK2, ?_⟩⟩
    exact ⟨_, results_cell_one rfl Try.isAgg4 _ _ ⟨w.heap.size + 1 + 1, 0, none⟩ (.bool true) rfl (hi2.over hDw hK2).2, rfl, (hi2.over hDw hK2).1⟩
  case stop =>
    rintro D pre W hD _ ⟨k, hi⟩ hK
    have hDw : w.heap.size ≤ D := Nat.le_trans HSZ.out hD
    gi_wp2_with fail
    refine ⟨by simp, .inl ⟨_, _, rfl, run_takeDeferred hK, ?_⟩⟩
    exact ⟨_, results_cell_one rfl Try.isAgg4 _ _ ⟨w.heap.size + 1 + 1, 0, none⟩ (.bool true) rfl (hi.over hDw hK).2, rfl, (hi.over hDw hK).1⟩
  case body =>
    rintro l pre x b W8 hl hi ⟨hgood, ⟨zs, hz⟩, R, hR, hbR, rfl⟩
    have hlen : pre.length < L.length := by
      have h1 := congrArg List.length (hz.trans HLE.out.symm)
      simp at h1
      omega
    obtain ⟨G, cap, hv, _, hG, hcells⟩ := HL.out.at (by omega)
    simp only [Value.slice.injEq] at hv
    obtain ⟨rfl, rfl, rfl⟩ := hv
    have hy : (L[pre.length]).two = x.two := by
      have h1 := congrArg (fun z => z[pre.length]?) (hz.trans HLE.out.symm)
      simp only [List.map_append, List.map_cons, List.map_nil, List.append_assoc] at h1
      rw [List.getElem?_append_right (by simp)] at h1
      simp [hlen] at h1
      exact h1.symm
    have hcs := fun j hj => hcells pre.length hlen j hj
    have hea := HL.out.each _ (List.getElem_mem hlen)
    generalize L[pre.length] = y at hy hcs hea
    obtain ⟨e9, ⟨ck, ct, cp, cx, cg, co, xb, xa⟩, pb, nb, cb, pa, na, ca⟩ := x
    obtain ⟨e, yc, qb, mb, db, qa, ma, da⟩ := y
    simp only [RX.two, Prod.mk.injEq] at hy
    obtain ⟨rfl, rfl⟩ := hy
    obtain ⟨k, hk⟩ : ∃ k, k = pre.length := ⟨_, rfl⟩
    have HKL : Hid ((k : Int) < (L.length : Int) ∧ k < L.length ∧ decide (L.length ≤ k) = false) := Lib.hid ⟨by omega, by omega, decide_eq_false (by omega)⟩
    rw [← hk] at hcs hi
    have HFA : Hid (∀ U, Gr W8 U → U.cell? ⟨w.heap.size + 1 + 1 + 1, 0, none⟩ = some (.int .i64 k) ∧ U.cell? ⟨w.heap.size, 0, none⟩ = some (.slice (some ⟨G, 0, none⟩) L.length lc) ∧
        (U.cell? ⟨R, 0, none⟩ = some (.int .i64 ck) ∧ U.cell? ⟨R, 1, none⟩ = some (.int .u64 ct) ∧ U.cell? ⟨R, 2, none⟩ = some (.int .u64 cp) ∧ U.cell? ⟨R, 3, none⟩ = some (.int .u64 cx) ∧ U.cell? ⟨R, 4, none⟩ = some (.int .i64 cg) ∧ U.cell? ⟨R, 5, none⟩ = some (.int .i64 co) ∧ U.cell? ⟨R, 6, none⟩ = some (.slice pb nb cb) ∧ U.cell? ⟨R, 7, none⟩ = some (.slice pa na ca)) ∧
        U.cell? ⟨G, k * 9, none⟩ = some (.int .u64 e) ∧ U.cell? ⟨G, k * 9 + 1, none⟩ = some (.int .i64 ck) ∧ U.cell? ⟨G, k * 9 + 1 + 1, none⟩ = some (.int .u64 ct) ∧ U.cell? ⟨G, k * 9 + 1 + 2, none⟩ = some (.int .u64 cp) ∧ U.cell? ⟨G, k * 9 + 1 + 3, none⟩ = some (.int .u64 cx) ∧ U.cell? ⟨G, k * 9 + 1 + 4, none⟩ = some (.int .i64 cg) ∧ U.cell? ⟨G, k * 9 + 1 + 5, none⟩ = some (.int .i64 co) ∧ U.cell? ⟨G, k * 9 + 1 + 6, none⟩ = some (.slice qb mb db) ∧ U.cell? ⟨G, k * 9 + 1 + 7, none⟩ = some (.slice qa ma da)) := Lib.hid fun U gr => by
      have hu := hi.up gr
      have hbu : Blk U R TR _ := hbR.below gr hbR.lt
      have hgu : ∀ j, j < 9 → U.cell? ⟨G, k * 9 + j, none⟩ = (ShS.cs ⟨e, ⟨ck, ct, cp, cx, cg, co, xb, xa⟩, qb, mb, db, qa, ma, da⟩)[j]? := fun j hj => ((Below.cell hu.gr (p := ⟨G, k * 9 + j, none⟩) hG).trans (hcs j hj))
      exact ⟨hu.b9.cell 0, hu.b6.cell 0, hbu.c8, hgu 0 (by omega), hgu 1 (by omega), hgu 2 (by omega), hgu 3 (by omega), hgu 4 (by omega), hgu 5 (by omega), hgu 6 (by omega), hgu 7 (by omega), hgu 8 (by omega)⟩
    have HSM : Hid (∀ U, Gr W8 U → Calls Try.prog 22 #[.agg #[.int .i64 ck, .int .u64 ct, .int .u64 cp, .int .u64 cx, .int .i64 cg, .int .i64 co, .slice pb nb cb, .slice pa na ca], .agg #[.int .i64 ck, .int .u64 ct, .int .u64 cp, .int .u64 cx, .int .i64 cg, .int .i64 co, .slice qb mb db, .slice qa ma da]] U (RetB true U)) := Lib.hid fun U gr => by
      have g0 : Gr w U := Gr.trans hi.gr gr
      have b1 := (hgood.b.byt.1).kept gr
      have b2 := (hgood.a.byt.1).kept gr
      have b3 := ((hea ⟨qb, mb, db, xb⟩ (by simp [ShS])).1).kept g0
      have b4 := ((hea ⟨qa, ma, da, xa⟩ (by simp [ShS])).1).kept g0
      have h := refSameRec_any ⟨ck, ct, cp, cx, cg, co, xb, xa⟩ ⟨ck, ct, cp, cx, cg, co, xb, xa⟩ pb nb cb pa na ca qb mb db qa ma da U b1 b2 b3 b4
      rw [sameR_self] at h
      exact h
    have HI := Lib.hid hi
    obtain ⟨ll, hll⟩ : ∃ ll, ll = L.length := ⟨_, rfl⟩
    rw [← hll] at HKL HFA ⊢
    have HLL := Lib.hid hll
    have HKE := Lib.hid hk
    clear hz hlen hcs hcells hea hgood hbR hi hk hll
    gi_wp2_with fail
    refine Flow.regionIn l _ (SlO8 w.heap.size R G k e ll lc ck ct cp cx cg co pb nb cb pa na ca qb mb db qa ma da) (Gr W8) (fun _ _ => True) (by kernel_rfl) (by kernel_rfl) (by kernel_rfl) (fun _ _ _ _ h _ => h) ⟨rfl, rfl, rfl, Nat.le_refl _, fun _ _ => rfl⟩ ?steps ?fin
    case steps =>
      refine Flow.Steps.cons (fun a W hfr hinv hdep K hK => ?_) ?_
      · have s9 : a.tmps.getD 9 undef = .pointer (some ⟨w.heap.size + 1 + 1 + 1, 0, none⟩) := hfr.at 9 (by kernel_rfl)
        have t9 : a.tmps[9]?.getD undef = .pointer (some ⟨w.heap.size + 1 + 1 + 1, 0, none⟩) := by simpa using s9
        obtain ⟨n9, n6, ⟨r0, r1, r2, r3, r4, r5, r6, r7⟩, y0, y1, y2, y3, y4, y5, y6, y7, y8⟩ := HFA.out W hinv
        rw [if_pos (Flow.wanted_none rfl)]
        clear hfr hdep
        go_simp
        exact hK _ _ True.intro hinv (fun d hd => by cases hd; trivial)
      refine Flow.Steps.cons (fun a W hfr hinv hdep K hK => ?_) ?_
      · have s6 : a.tmps.getD 6 undef = .pointer (some ⟨w.heap.size, 0, none⟩) := hfr.at 6 (by kernel_rfl)
        have t6 : a.tmps[6]?.getD undef = .pointer (some ⟨w.heap.size, 0, none⟩) := by simpa using s6
        obtain ⟨n9, n6, ⟨r0, r1, r2, r3, r4, r5, r6, r7⟩, y0, y1, y2, y3, y4, y5, y6, y7, y8⟩ := HFA.out W hinv
        rw [if_pos (Flow.wanted_none rfl)]
        clear hfr hdep
        go_simp
        exact hK _ _ True.intro hinv (fun d hd => by cases hd; trivial)
      refine Flow.Steps.cons (fun a W hfr hinv hdep K hK => ?_) ?_
      · have s22 : a.tmps.getD 22 undef = .slice (some ⟨G, 0, none⟩) ll lc := hdep 22 (by kernel_rfl)
        have t22 : a.tmps[22]?.getD undef = .slice (some ⟨G, 0, none⟩) ll lc := by simpa using s22
        rw [if_pos (Flow.wanted_none rfl)]
        clear hfr hdep
        go_simp
        exact hK _ _ True.intro hinv (fun d hd => by cases hd; trivial)
      refine Flow.Steps.cons (fun a W hfr hinv hdep K hK => ?_) ?_
      · have s21 : a.tmps.getD 21 undef = .int .i64 k := hdep 21 (by kernel_rfl)
        have t21 : a.tmps[21]?.getD undef = .int .i64 k := by simpa using s21
        have s23 : a.tmps.getD 23 undef = .int .i64 ll := hdep 23 (by kernel_rfl)
        have t23 : a.tmps[23]?.getD undef = .int .i64 ll := by simpa using s23
        have hkl := HKL.out
        rw [if_pos (Flow.wanted_none rfl)]
        clear hfr hdep
        go_simp
        exact hK _ _ True.intro hinv (fun d hd => by cases hd; trivial)
      refine Flow.Steps.cons (fun a W hfr hinv hdep K hK => ?_) ?_
      · have s24 : a.tmps.getD 24 undef = .bool false := hdep 24 (by kernel_rfl)
        have t24 : a.tmps[24]?.getD undef = .bool false := by simpa using s24
        rw [if_pos (Flow.wanted_none rfl)]
        clear hfr hdep
        go_simp
        exact hK _ _ True.intro hinv (fun d hd => by cases hd; trivial)
      refine Flow.Steps.cons (fun a W hfr hinv hdep K hK => ?_) ?_
      · have sg : a.tmps.getD 25 undef = .bool false := hdep 25 (by kernel_rfl)
        have s11 : a.tmps.getD 11 undef = .int .u64 e := hfr.at 11 (by kernel_rfl)
        have t11 : a.tmps[11]?.getD undef = .int .u64 e := by simpa using s11
        rw [if_pos (Flow.wanted_yes 4 false 25 rfl (by kernel_rfl) sg)]
        clear hfr hdep
        go_simp
        exact hK _ _ True.intro hinv (fun d hd => by cases hd; trivial)
      refine Flow.Steps.cons (fun a W hfr hinv hdep K hK => ?_) ?_
      · have sg : a.tmps.getD 25 undef = .bool false := hdep 25 (by kernel_rfl)
        have s6 : a.tmps.getD 6 undef = .pointer (some ⟨w.heap.size, 0, none⟩) := hfr.at 6 (by kernel_rfl)
        have t6 : a.tmps[6]?.getD undef = .pointer (some ⟨w.heap.size, 0, none⟩) := by simpa using s6
        obtain ⟨n9, n6, ⟨r0, r1, r2, r3, r4, r5, r6, r7⟩, y0, y1, y2, y3, y4, y5, y6, y7, y8⟩ := HFA.out W hinv
        rw [if_pos (Flow.wanted_yes 4 false 25 rfl (by kernel_rfl) sg)]
        clear hfr hdep
        go_simp
        exact hK _ _ True.intro hinv (fun d hd => by cases hd; trivial)
      refine Flow.Steps.cons (fun a W hfr hinv hdep K hK => ?_) ?_
      · have sg : a.tmps.getD 25 undef = .bool false := hdep 25 (by kernel_rfl)
        have s9 : a.tmps.getD 9 undef = .pointer (some ⟨w.heap.size + 1 + 1 + 1, 0, none⟩) := hfr.at 9 (by kernel_rfl)
        have t9 : a.tmps[9]?.getD undef = .pointer (some ⟨w.heap.size + 1 + 1 + 1, 0, none⟩) := by simpa using s9
        obtain ⟨n9, n6, ⟨r0, r1, r2, r3, r4, r5, r6, r7⟩, y0, y1, y2, y3, y4, y5, y6, y7, y8⟩ := HFA.out W hinv
        rw [if_pos (Flow.wanted_yes 4 false 25 rfl (by kernel_rfl) sg)]
        clear hfr hdep
        go_simp
        exact hK _ _ True.intro hinv (fun d hd => by cases hd; trivial)
      refine Flow.Steps.cons (fun a W hfr hinv hdep K hK => ?_) ?_
      · have sg : a.tmps.getD 25 undef = .bool false := hdep 25 (by kernel_rfl)
        have s27 : a.tmps.getD 27 undef = .slice (some ⟨G, 0, none⟩) ll lc := hdep 27 (by kernel_rfl)
        have t27 : a.tmps[27]?.getD undef = .slice (some ⟨G, 0, none⟩) ll lc := by simpa using s27
        have s28 : a.tmps.getD 28 undef = .int .i64 k := hdep 28 (by kernel_rfl)
        have t28 : a.tmps[28]?.getD undef = .int .i64 k := by simpa using s28
        have hkl := HKL.out
        rw [if_pos (Flow.wanted_yes 4 false 25 rfl (by kernel_rfl) sg)]
        clear hfr hdep
        go_simp
        exact hK _ _ True.intro hinv (fun d hd => by cases hd; trivial)
      refine Flow.Steps.cons (fun a W hfr hinv hdep K hK => ?_) ?_
      · have sg : a.tmps.getD 25 undef = .bool false := hdep 25 (by kernel_rfl)
        have s29 : a.tmps.getD 29 undef = .pointer (some ⟨G, k * 9, none⟩) := hdep 29 (by kernel_rfl)
        have t29 : a.tmps[29]?.getD undef = .pointer (some ⟨G, k * 9, none⟩) := by simpa using s29
        rw [if_pos (Flow.wanted_yes 4 false 25 rfl (by kernel_rfl) sg)]
        clear hfr hdep
        go_simp
        exact hK _ _ True.intro hinv (fun d hd => by cases hd; trivial)
      refine Flow.Steps.cons (fun a W hfr hinv hdep K hK => ?_) ?_
      · have sg : a.tmps.getD 25 undef = .bool false := hdep 25 (by kernel_rfl)
        have s30 : a.tmps.getD 30 undef = .pointer (some ⟨G, k * 9, none⟩) := hdep 30 (by kernel_rfl)
        have t30 : a.tmps[30]?.getD undef = .pointer (some ⟨G, k * 9, none⟩) := by simpa using s30
        obtain ⟨n9, n6, ⟨r0, r1, r2, r3, r4, r5, r6, r7⟩, y0, y1, y2, y3, y4, y5, y6, y7, y8⟩ := HFA.out W hinv
        rw [if_pos (Flow.wanted_yes 4 false 25 rfl (by kernel_rfl) sg)]
        clear hfr hdep
        go_simp
        exact hK _ _ True.intro hinv (fun d hd => by cases hd; trivial)
      refine Flow.Steps.cons (fun a W hfr hinv hdep K hK => ?_) ?_
      · have sg : a.tmps.getD 25 undef = .bool false := hdep 25 (by kernel_rfl)
        have s26 : a.tmps.getD 26 undef = .int .u64 e := hdep 26 (by kernel_rfl)
        have t26 : a.tmps[26]?.getD undef = .int .u64 e := by simpa using s26
        have s31 : a.tmps.getD 31 undef = .int .u64 e := hdep 31 (by kernel_rfl)
        have t31 : a.tmps[31]?.getD undef = .int .u64 e := by simpa using s31
        rw [if_pos (Flow.wanted_yes 4 false 25 rfl (by kernel_rfl) sg)]
        clear hfr hdep
        go_simp
        exact hK _ _ True.intro hinv (fun d hd => by cases hd; trivial)
      refine Flow.Steps.cons (fun a W hfr hinv hdep K hK => ?_) ?_
      · have s25 : a.tmps.getD 25 undef = .bool false := hdep 25 (by kernel_rfl)
        have t25 : a.tmps[25]?.getD undef = .bool false := by simpa using s25
        have s32 : a.tmps.getD 32 undef = .bool false := hdep 32 (by kernel_rfl)
        have t32 : a.tmps[32]?.getD undef = .bool false := by simpa using s32
        rw [if_pos (Flow.wanted_none rfl)]
        clear hfr hdep
        go_simp
        exact hK _ _ True.intro hinv (fun d hd => by cases hd; trivial)
      refine Flow.Steps.cons (fun a W hfr hinv hdep K hK => ?_) ?_
      · have s33 : a.tmps.getD 33 undef = .bool false := hdep 33 (by kernel_rfl)
        have t33 : a.tmps[33]?.getD undef = .bool false := by simpa using s33
        rw [if_pos (Flow.wanted_none rfl)]
        clear hfr hdep
        go_simp
        exact hK _ _ True.intro hinv (fun d hd => by cases hd; trivial)
      refine Flow.Steps.cons (fun a W hfr hinv hdep K hK => ?_) ?_
      · have sg : a.tmps.getD 34 undef = .bool false := hdep 34 (by kernel_rfl)
        have s12 : a.tmps.getD 12 undef = .pointer (some ⟨R, 0, none⟩) := hfr.at 12 (by kernel_rfl)
        have t12 : a.tmps[12]?.getD undef = .pointer (some ⟨R, 0, none⟩) := by simpa using s12
        obtain ⟨n9, n6, ⟨r0, r1, r2, r3, r4, r5, r6, r7⟩, y0, y1, y2, y3, y4, y5, y6, y7, y8⟩ := HFA.out W hinv
        rw [if_pos (Flow.wanted_yes 13 false 34 rfl (by kernel_rfl) sg)]
        clear hfr hdep
        go_simp
        exact hK _ _ True.intro hinv (fun d hd => by cases hd; trivial)
      refine Flow.Steps.cons (fun a W hfr hinv hdep K hK => ?_) ?_
      · have sg : a.tmps.getD 34 undef = .bool false := hdep 34 (by kernel_rfl)
        have s6 : a.tmps.getD 6 undef = .pointer (some ⟨w.heap.size, 0, none⟩) := hfr.at 6 (by kernel_rfl)
        have t6 : a.tmps[6]?.getD undef = .pointer (some ⟨w.heap.size, 0, none⟩) := by simpa using s6
        obtain ⟨n9, n6, ⟨r0, r1, r2, r3, r4, r5, r6, r7⟩, y0, y1, y2, y3, y4, y5, y6, y7, y8⟩ := HFA.out W hinv
        rw [if_pos (Flow.wanted_yes 13 false 34 rfl (by kernel_rfl) sg)]
        clear hfr hdep
        go_simp
        exact hK _ _ True.intro hinv (fun d hd => by cases hd; trivial)
      refine Flow.Steps.cons (fun a W hfr hinv hdep K hK => ?_) ?_
      · have sg : a.tmps.getD 34 undef = .bool false := hdep 34 (by kernel_rfl)
        have s9 : a.tmps.getD 9 undef = .pointer (some ⟨w.heap.size + 1 + 1 + 1, 0, none⟩) := hfr.at 9 (by kernel_rfl)
        have t9 : a.tmps[9]?.getD undef = .pointer (some ⟨w.heap.size + 1 + 1 + 1, 0, none⟩) := by simpa using s9
        obtain ⟨n9, n6, ⟨r0, r1, r2, r3, r4, r5, r6, r7⟩, y0, y1, y2, y3, y4, y5, y6, y7, y8⟩ := HFA.out W hinv
        rw [if_pos (Flow.wanted_yes 13 false 34 rfl (by kernel_rfl) sg)]
        clear hfr hdep
        go_simp
        exact hK _ _ True.intro hinv (fun d hd => by cases hd; trivial)
      refine Flow.Steps.cons (fun a W hfr hinv hdep K hK => ?_) ?_
      · have sg : a.tmps.getD 34 undef = .bool false := hdep 34 (by kernel_rfl)
        have s36 : a.tmps.getD 36 undef = .slice (some ⟨G, 0, none⟩) ll lc := hdep 36 (by kernel_rfl)
        have t36 : a.tmps[36]?.getD undef = .slice (some ⟨G, 0, none⟩) ll lc := by simpa using s36
        have s37 : a.tmps.getD 37 undef = .int .i64 k := hdep 37 (by kernel_rfl)
        have t37 : a.tmps[37]?.getD undef = .int .i64 k := by simpa using s37
        have hkl := HKL.out
        rw [if_pos (Flow.wanted_yes 13 false 34 rfl (by kernel_rfl) sg)]
        clear hfr hdep
        go_simp
        exact hK _ _ True.intro hinv (fun d hd => by cases hd; trivial)
      refine Flow.Steps.cons (fun a W hfr hinv hdep K hK => ?_) ?_
      · have sg : a.tmps.getD 34 undef = .bool false := hdep 34 (by kernel_rfl)
        have s38 : a.tmps.getD 38 undef = .pointer (some ⟨G, k * 9, none⟩) := hdep 38 (by kernel_rfl)
        have t38 : a.tmps[38]?.getD undef = .pointer (some ⟨G, k * 9, none⟩) := by simpa using s38
        rw [if_pos (Flow.wanted_yes 13 false 34 rfl (by kernel_rfl) sg)]
        clear hfr hdep
        go_simp
        exact hK _ _ True.intro hinv (fun d hd => by cases hd; trivial)
      refine Flow.Steps.cons (fun a W hfr hinv hdep K hK => ?_) ?_
      · have sg : a.tmps.getD 34 undef = .bool false := hdep 34 (by kernel_rfl)
        have s39 : a.tmps.getD 39 undef = .pointer (some ⟨G, k * 9 + 1, none⟩) := hdep 39 (by kernel_rfl)
        have t39 : a.tmps[39]?.getD undef = .pointer (some ⟨G, k * 9 + 1, none⟩) := by simpa using s39
        obtain ⟨n9, n6, ⟨r0, r1, r2, r3, r4, r5, r6, r7⟩, y0, y1, y2, y3, y4, y5, y6, y7, y8⟩ := HFA.out W hinv
        rw [if_pos (Flow.wanted_yes 13 false 34 rfl (by kernel_rfl) sg)]
        clear hfr hdep
        go_simp
        exact hK _ _ True.intro hinv (fun d hd => by cases hd; trivial)
      refine Flow.Steps.cons (fun a W hfr hinv hdep K hK => ?_) ?_
      · have sg : a.tmps.getD 34 undef = .bool false := hdep 34 (by kernel_rfl)
        have s35 : a.tmps.getD 35 undef = .agg #[.int .i64 ck, .int .u64 ct, .int .u64 cp, .int .u64 cx, .int .i64 cg, .int .i64 co, .slice pb nb cb, .slice pa na ca] := hdep 35 (by kernel_rfl)
        have t35 : a.tmps[35]?.getD undef = .agg #[.int .i64 ck, .int .u64 ct, .int .u64 cp, .int .u64 cx, .int .i64 cg, .int .i64 co, .slice pb nb cb, .slice pa na ca] := by simpa using s35
        have s40 : a.tmps.getD 40 undef = .agg #[.int .i64 ck, .int .u64 ct, .int .u64 cp, .int .u64 cx, .int .i64 cg, .int .i64 co, .slice qb mb db, .slice qa ma da] := hdep 40 (by kernel_rfl)
        have t40 : a.tmps[40]?.getD undef = .agg #[.int .i64 ck, .int .u64 ct, .int .u64 cp, .int .u64 cx, .int .i64 cg, .int .i64 co, .slice qb mb db, .slice qa ma da] := by simpa using s40
        rw [if_pos (Flow.wanted_yes 13 false 34 rfl (by kernel_rfl) sg)]
        clear hfr hdep
        go_simp
        refine (HSM.out W hinv).mono ?_
        rintro e W' ⟨rfl, g1⟩
        exact hK _ _ True.intro (Gr.trans hinv g1) (fun d hd => by cases hd; trivial)
      refine Flow.Steps.cons (fun a W hfr hinv hdep K hK => ?_) ?_
      · have sg : a.tmps.getD 34 undef = .bool false := hdep 34 (by kernel_rfl)
        have s41 : a.tmps.getD 41 undef = .bool true := hdep 41 (by kernel_rfl)
        have t41 : a.tmps[41]?.getD undef = .bool true := by simpa using s41
        rw [if_pos (Flow.wanted_yes 13 false 34 rfl (by kernel_rfl) sg)]
        clear hfr hdep
        go_simp
        exact hK _ _ True.intro hinv (fun d hd => by cases hd; trivial)
      refine Flow.Steps.cons (fun a W hfr hinv hdep K hK => ?_) ?_
      · have s34 : a.tmps.getD 34 undef = .bool false := hdep 34 (by kernel_rfl)
        have t34 : a.tmps[34]?.getD undef = .bool false := by simpa using s34
        have s42 : a.tmps.getD 42 undef = .bool false := hdep 42 (by kernel_rfl)
        have t42 : a.tmps[42]?.getD undef = .bool false := by simpa using s42
        rw [if_pos (Flow.wanted_none rfl)]
        clear hfr hdep
        go_simp
        exact hK _ _ True.intro hinv (fun d hd => by cases hd; trivial)
      exact True.intro
    case fin =>
      intro a W hfr hfin hsl
      have s43 : a.tmps.getD 43 undef = .bool false := hsl 22 _ 43 rfl rfl
      have t43 : a.tmps[43]?.getD undef = .bool false := by simpa using s43
      have e := Flow.frame hfr [21, 22, 23, 24, 25, 26, 27, 28, 29, 30, 31, 32, 33, 34, 35, 36, 37, 38, 39, 40, 41, 42, 43] (List.range 53) (by kernel_rfl) (by kernel_rfl)
      simp [List.range, List.range.loop] at e
      rw [t43] at e
      rw [e]
      clear e hfr hsl s43 t43
      rename_i K2 hK2
      refine hK2 _ _ ?_
      have HI9 := Lib.hid (HI.out.up hfin)
      have hko : KeepsOthers W8 W := ⟨hfin.size, fun k o hk _ => (hfin.block k (Array.getElem?_eq_some_iff.1 hk).1).trans hk⟩
      have HKO := Lib.hid (hko.trans (KeepsOthers.setCell W ⟨w.heap.size + 1 + 1 + 1, 0, none⟩ (.int .i64 (k + 1 : Nat))))
      have HHS : Hid (HoldS firm (fun k => ∃ y, q = some y ∧ y.block = k) W8 (W.setCell ⟨w.heap.size + 1 + 1 + 1, 0, none⟩ (.int .i64 (k + 1 : Nat)))) := Lib.hid ((Gr.hold hfin).trans ⟨by simp, fun j o ⟨y, hy, hj⟩ h1 _ => (heap_setCell_other W _ j _ (by have := HQ.out y hy; show j ≠ w.heap.size + 1 + 1 + 1; omega)).trans h1⟩)
      have HI10 := Lib.hid (HI9.out.num (k + 1))
      have n9 := HI9.out.b9.cell 0
      have f9 := HI9.out.b9.frozen 0
      have n7 := HI9.out.b7.cell 0
      have f8 := HI9.out.b8.frozen 0
      have k63 : (k : Int) ≤ 20000 := by
        have h1 := allL_len xs.length xs at' (Nat.le_refl _)
        have h2 := congrArg List.length HLE.out
        simp only [List.length_map] at h2
        have h3 := HKL.out.2.1
        have h4 := HLL.out
        have h5 := lx.out
        omega
      simp at n9 n7
      clear hfin hko
      have e1 : ((k + 1 : Nat) : Int) = (k : Int) + 1 := by omega
      rw [e1] at HKO HHS HI10
      rw [← HLL.out] at HI10
      have HLN : Hid ((pre ++ [(⟨e, ⟨ck, ct, cp, cx, cg, co, xb, xa⟩, pb, nb, cb, pa, na, ca⟩ : RX)]).length = k + 1) := Lib.hid (by rw [HKE.out]; simp)
      clear e1
      have m7 := HI10.out.b7.cell 0
      have m9 := HI10.out.b9.cell 0
      have m8 := HI9.out.b8.cell 0
      simp at m7 m9 m8
      by_cases hmo : ((k : Int) + 1) = most
      · have hb : (((k : Int) + 1) == most) = true := by simp [hmo]
        clear hmo
        gi_wp2_with fail
        exact And.intro ((HKO.out.trans (KeepsOthers.setCell _ _ _)).from _) (Exists.intro _ (HI10.out.res true))
      · have hb : (((k : Int) + 1) == most) = false := by simp [hmo]
        clear hmo
        gi_wp2_with fail
        exact And.intro (HKO.out.from _) (And.intro HHS.out (by dsimp only; rw [HLN.out]; exact HI10.out))

end Go.Proofs.Ytchfhgeipmfegaa
