/-
  Texts on locks, put together: Lk10 Lk11 LkSort.
-/
import Derived.RangeFuncGives
import Derived.Sort.MapsRangeIn
import Derived.OwnWalkIn
import Derived.TacticsInMore
import Derived.RegionIn
import Derived.LoopNIn
import Derived.LoopIn
import Derived.Maps.AppendAt
import Derived.Shelf.Abstract
import Derived.Shelf.SlSortCmp.NoneTotal
import Derived.Shelf.SlicesG.Cmp
import Derived.Test.YtbmcdlcoojmppaaProg
import Derived.Test.YtbmcdlcoojmppaaA6
/-
  The keys of a set, one by one: maps.Keys at keys that are structs; what a slice of them owns.
-/
namespace Go.Proofs.Ytbmcdlcoojmppaa
open Go.RowKit Go.Maps

section
variable {α : Type} {P : Program} {K : KK α} {w : World} {m r : Nat} {f : α → Option Value} {ks : List α} {L : α → Prop}
theorem Rg.of_walks {w' : World} (h : Rg P K w m r f ks L) (hk : KeepsWalks w w') : Rg P K w' m r f ks L ∧ w'.rangeLeft m r = w.rangeLeft m r := by
  obtain ⟨D, left, cnt, a, b⟩ := h
  have a' := a.of_walks hk
  exact ⟨⟨D, left, cnt, a', b⟩, by rw [a.left_eq, a'.left_eq]⟩
variable {F : Fence} {nf : Nat} {ops : Array Oper} {rest : List Oper} {o : Oper} {a : Act} {Q : Exit → Act → World → Prop}
theorem wpListIn_range_mp (O : K.Ok P) (hg : o.guard = none) (x : Operand) (t : TypeId) (hop : o.op = Op.range t x) (e : TypeId) (ht : P.underlying t = some (.map K.ty e)) (hm : a.eval x = .map (some m)) (h : Mp P K w m f ks)
    (hK : ∀ w', Rg P K w' m w.heap.size f ks (fun a => a ∈ ks) → w.grownBy w' none → w'.heap.size = w.heap.size + 1 → w'.rangeLeft m w.heap.size = ks.length → wpListIn F nf P ops Q rest (a.put o.dst (.pointer (some ⟨w.heap.size, 0, none⟩))) w') : wpListIn F nf P ops Q (o :: rest) a w := by
  obtain ⟨D, h1, hD⟩ := h
  refine wpListIn_range_own w hg x t hop K.ty e O.keyed ht elV m ks.length D hm h1 fun w' h2 h3 h4 => ?_
  exact hK w' ⟨D, _, _, h2, hD, fun a ha => by rw [hD.has a ha]; exact (hD.mem a).symm, fun _ h => h⟩ h3 h4 (by rw [h2.left_eq, own_size O h1 hD])
theorem wpListIn_next_mp (O : K.Ok P) (hg : o.guard = none) (it : Operand) (hop : o.op = Op.next it false) (hit : a.eval it = .pointer (some ⟨r, 0, none⟩)) (h : Rg P K w m r f ks L)
    (hDone : (∀ a, ¬ L a) → wpListIn F nf P ops Q rest (a.put o.dst (.tuple #[.bool false])) w)
    (hMore : ∀ (x : α) (v : Value) (w' : World), L x → K.dom x → f x = some v → Rg P K w' m r f ks (fun b => L b ∧ b ≠ x) → w'.rangeLeft m r < w.rangeLeft m r → w.grownBy w' (some r) → w'.heap.size = w.heap.size → (∃ o : Obj, w.heap[r]? = some o ∧ o.isWalk = true) →
      (Instr.entry (.pointer (some ⟨r, 0, none⟩))).run P w' = .ok (.tuple #[K.val x, v]) w' → wpListIn F nf P ops Q rest (a.put o.dst (.tuple #[.bool true, K.val x, v])) w') : wpListIn F nf P ops Q (o :: rest) a w := by
  obtain ⟨D, left, cnt, h1, hD, hL, hLk⟩ := h
  have hleft := h1.left_eq
  have hinv : ∀ key kl, keyOf P K.ty key = some kl → ∃ x : { x : α // K.dom x }, key = K.val x.1 := fun key kl hk => by
    obtain ⟨x, hx, e, _⟩ := O.inv key kl hk
    exact ⟨⟨x, hx⟩, e⟩
  refine wpListIn_next_ranges w hg it hop K.ty O.keyed elV (fun x : { x : α // K.dom x } => K.val x.1) id hinv (fun v y _ => ⟨v, rfl⟩) m r ks.length D left cnt hit h1 ?_ ?_
  · intro _ h0
    refine hDone fun x hx => ?_
    have := (hL x (hD.dom x ((hD.mem x).1 (hLk x hx)))).2 hx
    rw [h0] at this
    cases this
  · intro x c kl y w' cnt' hkey hlk hv hat hrg hlt hgr hsz hen
    have hkl : kl = K.lit x.1 := by
      have := O.key x.1 x.2
      rw [this] at hkey
      exact (Option.some.inj hkey).symm
    subst hkl
    have hLx := (hL x.1 x.2).1 hlk
    have hfx := (hD.mem x.1).1 (hLk x.1 hLx)
    obtain ⟨v, hfv⟩ := Option.isSome_iff_exists.1 hfx
    have e1 := hD.at_ x.1 c x.2
    rw [hat, hfv] at e1
    simp only [elV, Option.some.injEq] at hv
    rw [← hv] at e1
    have hcv : c = v := by
      simp at e1
      exact e1
    subst hcv
    refine hMore x.1 c w' hLx x.2 hfv ⟨D, _, cnt', hrg, hD, fun b hb => ?_, fun b hb => hLk b hb.1⟩ (by rw [hrg.left_eq, hleft]; exact hlt) hgr hsz h1.iter_walk hen
    by_cases e : b = x.1
    · subst e
      simp [WideAt.sameKey_self (O.is hb)]
    · have : (K.lit b).sameKey (K.lit x.1) = false := Maps.sameKey_ne fun e2 => e (O.lit_inj hb x.2 e2)
      rw [this]
      simp [hL b hb, e]
end
set_option maxRecDepth 100000 in
set_option maxHeartbeats 2000000 in
/-- The iterator of maps.Keys: the keys come, each once, in some order. -/
theorem keys1_in (F : Fence) (n : Nat) (hF : F.fn 73) (hro : F.round = none) (hn : 1 ≤ n) (l Bm b : Nat) (f : Key → Option Value) (ks : List Key) (J : List Key → World → Prop)
    (hY : ∀ pre x W, J pre W → pre.length < ks.length → YieldAt F (n - 1) Try.prog l #[kv x] W fun e W' => e = .returned (.bool true) ∧ J (pre ++ [x]) W' ∧ KeepsWalks W W')
    (W : World) (hJ : AbidesFrom W.heap.size J) (hm : W.cell? ⟨Bm, 0, none⟩ = some (.map (some b))) (hown : Mp Try.prog KL W b f ks) (h0 : J [] W) :
    CallsIn F n Try.prog 73 #[.func (.yield l) #[] #[], .pointer (some ⟨Bm, 0, none⟩)] W fun e W' => (∃ v, e = .returned v) ∧ ∃ ss : List Key, ss.Perm ks ∧ J ss W' := by
  have hnd := hown.nodup
  have HND := Lib.hid hnd
  clear hnd
  refine callsIn_of_wp Try.func73 rfl hF ?_ hro
  simp only [Try.ntmps73, List.size_toArray, List.length_cons, List.length_nil, Nat.reduceAdd, Nat.reduceSub, Array.replicate_succ, Array.replicate_zero, List.push_toArray, List.append_toArray, List.nil_append, List.cons_append]
  gi_wp2_with (first
    | (gi_at_range; refine wpListIn_range_mp KL_ok rfl _ TMs rfl 88 Try.underlying59 rfl hown ?_; intro w0 hrg0 hg0 hs0 hlf0)
    | gi_in)
  go_frame
  gi_loopw [] (fun wr => ∃ L ss, Rg Try.prog KL wr b W.heap.size f ks L ∧ ss.length + wr.rangeLeft b W.heap.size ≤ ks.length ∧ Hid (ss.Nodup ∧ ∀ a, a ∈ ss ↔ a ∈ ks ∧ ¬ L a) ∧ J ss wr)
    (fun wr => wr.rangeLeft b W.heap.size)
  case atStart => exact ⟨_, [], hrg0, by rw [hlf0]; simp, Lib.hid ⟨List.nodup_nil, fun a => by simp⟩, hJ [] W w0 none h0 hg0 (fun r e => by cases e)⟩
  case round =>
    obtain ⟨L, ss, hrg, hcs, HS, hJs⟩ := hrel
    gi_wp2_with (first
      | (gi_at_next; refine wpListIn_next_mp KL_ok rfl _ rfl rfl hrg ?_ ?_)
      | gi_in)
    · intro hno
      have HNo := Lib.hid hno
      clear hno
      gi_wp2
      go_end0
      refine ⟨⟨_, rfl⟩, ss, ?_, hJs⟩
      rw [List.perm_ext_iff_of_nodup HS.out.1 HND.out]
      intro a
      rw [HS.out.2]
      exact ⟨fun h => h.1, fun h => ⟨h, HNo.out a.1 a.2⟩⟩
    · intro k1 k2 v w2 hLx hkd hfv hrg2 hlt hg2 hs2 ob hob hwk hen
      rw [show KL.val (k1, k2) = .agg #[.int .i64 k1, .int .i64 k2] from rfl] at hen ⊢
      have hJ2 : J ss w2 := hJ ss wr w2 (some W.heap.size) hJs hg2 (fun r e => by cases e; exact ⟨Nat.le_refl _, ob, hob, hwk⟩)
      have hg3 : w2.grownBy (w2.alloc (.cells #[.int .i64 k1, .int .i64 k2] TKey)) none := World.grownBy_alloc w2 _ none
      have hJ3 : J ss (w2.alloc (.cells #[.int .i64 k1, .int .i64 k2] TKey)) := hJ ss w2 _ none hJ2 hg3 (fun r e => by cases e)
      have hrg3 := hrg2.gr ((Gr.refl w2).alloc (Nat.le_refl _) (.cells #[.int .i64 k1, .int .i64 k2] TKey))
      have hl3 := hrg2.left_same ((Gr.refl w2).alloc (Nat.le_refl _) (.cells #[.int .i64 k1, .int .i64 k2] TKey))
      have hy1 := hY ss (k1, k2) (w2.alloc (.cells #[.int .i64 k1, .int .i64 k2] TKey)) hJ3 (by omega)
      rw [show kv (k1, k2) = .agg #[.int .i64 k1, .int .i64 k2] from rfl] at hy1
      obtain ⟨fn, tmps, assign, body, hy, hR⟩ := hy1
      have HS2 := Lib.hid (And.intro hLx (And.intro hfv (And.intro hlt (And.intro hl3 hrg2))))
      clear hs2 hJ2 hg3 hlt hl3 hLx hfv hg2 hrg2
      gi_wp2
      refine hR.mono ?_
      rintro e W3 ⟨rfl, hJ4, hk4⟩
      gi_wp2
      obtain ⟨hrg4, hl4⟩ := hrg3.of_walks hk4
      go_roundw
      case rel =>
        refine ⟨_, ss ++ [(k1, k2)], hrg4, ?_, Lib.hid ⟨?_, fun a => ?_⟩, hJ4⟩
        · have e1 := HS2.out.2.2.1
          have e2 := HS2.out.2.2.2.1
          rw [List.length_append, List.length_singleton, hl4, e2]
          omega
        · rw [List.nodup_append]
          refine ⟨HS.out.1, by simp, fun a ha b hb e => ?_⟩
          rw [List.mem_singleton] at hb
          rw [e, hb] at ha
          exact ((HS.out.2 _).1 ha).2 HS2.out.1
        · rw [List.mem_append, List.mem_singleton, HS.out.2]
          constructor
          · rintro (⟨h1, h2⟩ | h1)
            · exact ⟨h1, fun h => h2 h.1⟩
            · rw [h1]
              exact ⟨(HS2.out.2.2.2.2.mp KL_ok).mem _ |>.2 (by rw [HS2.out.2.1]; rfl), fun h => h.2 rfl⟩
          · rintro ⟨h1, h2⟩
            by_cases e : a = (k1, k2)
            · exact .inr e
            · exact .inl ⟨h1, fun h => h2 ⟨h, e⟩⟩
      case measure =>
        have e1 := HS2.out.2.2.1
        have e2 := HS2.out.2.2.2.1
        rw [hl4, e2]
        exact e1
end Go.Proofs.Ytbmcdlcoojmppaa

/-
  slices.AppendSeq, slices.Collect at keys that are structs.
-/
namespace Go.Proofs.Ytbmcdlcoojmppaa
open Go.RowKit Go.Maps

abbrev TKs : TypeId := 57
def kcells (k : Key) : List Value := [.int .i64 k.1, .int .i64 k.2]
theorem kcells_len (ks : List Key) : (ks.flatMap kcells).length = ks.length * 2 := by
  induction ks with
  | nil => rfl
  | cons a r ih => simp [List.flatMap_cons, kcells, ih]; omega
/-- The call's own row of keys. -/
def Kr (w : World) (base : Nat) (v : Value) (ks : List Key) : Prop := w.ownsRow base TKey 2 v ks.length (ks.flatMap kcells)
theorem key_info : (Try.prog.info? TKey).map (fun i => (i.zero, i.size, i.bytes)) = some (some (.agg #[.int .i64 0, .int .i64 0]), 2, 16) := by kernel_rfl

theorem keys_in (F : Fence) (n : Nat) (hF : F.fn 53) (hro : F.round = none) (mb : Option Nat) (w : World) :
    CallsIn F n Try.prog 53 #[.map mb] w fun e w' => e = .returned (.func (.func 73) #[] #[.pointer (some ⟨w.heap.size, 0, none⟩)]) ∧ w' = w.alloc (.cells #[.map mb] TMs) := by
  refine callsIn_of_wp Try.func53 rfl hF ?_ hro
  simp only [Try.ntmps53, List.size_toArray, List.length_cons, List.length_nil, Nat.reduceAdd, Nat.reduceSub, Array.replicate_succ, Array.replicate_zero, List.push_toArray, List.append_toArray, List.nil_append, List.cons_append]
  gi_wp2
  go_ret
  exact ⟨rfl, rfl⟩
/-- maps.Keys hands back an iterator over the keys. -/
theorem keys_gives (F : Fence) (n : Nat) (hF : F.fn 73) (hro : F.round = none) (hn : 1 ≤ n) (Bm b : Nat) (f : Key → Option Value) (ks : List Key) (w : World) (hBm : Bm < w.heap.size)
    (hm : w.cell? ⟨Bm, 0, none⟩ = some (.map (some b))) (hown : Mp Try.prog KL w b f ks) :
    SeqGives F n Try.prog 73 #[.pointer (some ⟨Bm, 0, none⟩)] kv (fun ss => ss.Perm ks) ks.length w := fun l J W hW hJ hY h0 =>
  keys1_in F n hF hro hn l Bm b f ks J hY W hJ ((hW.cell (p := ⟨Bm, 0, none⟩) hBm).trans hm) (hown.stays (hW.block b hown.lt)) h0
theorem keys1_nil_in (F : Fence) (n : Nat) (hF : F.fn 73) (hro : F.round = none) (l Bm : Nat) (J : List Key → World → Prop) (W : World) (hJ : AbidesFrom W.heap.size J)
    (hm : W.cell? ⟨Bm, 0, none⟩ = some (.map none)) (h0 : J [] W) :
    CallsIn F n Try.prog 73 #[.func (.yield l) #[] #[], .pointer (some ⟨Bm, 0, none⟩)] W fun e W' => (∃ v, e = .returned v) ∧ ∃ ss : List Key, ss = [] ∧ J ss W' := by
  refine callsIn_of_wp Try.func73 rfl hF ?_ hro
  simp only [Try.ntmps73, List.size_toArray, List.length_cons, List.length_nil, Nat.reduceAdd, Nat.reduceSub, Array.replicate_succ, Array.replicate_zero, List.push_toArray, List.append_toArray, List.nil_append, List.cons_append]
  have hrg := run_range_nilMap (P := Try.prog) W TMs TKey 88 Try.underlying59
  have hnx : ∀ ty, (Instr.next (.pointer (some ⟨W.heap.size, 0, none⟩)) false ty).run Try.prog (W.alloc (.mapIter none 0 #[] 0)) = _ := fun ty => run_next_nilMap _ ty 0 0 #[]
  gi_wp2
  refine wpIn_loop_rounds 1 ?_
  rw [roundsIn_succ]
  gi_wp2
  go_end0
  exact ⟨⟨_, rfl⟩, [], rfl, hJ [] W _ none h0 (World.grownBy_alloc W _ none) (fun r e => by cases e)⟩
theorem keys_gives_nil (F : Fence) (n : Nat) (hF : F.fn 73) (hro : F.round = none) (Bm : Nat) (w : World) (hBm : Bm < w.heap.size) (hm : w.cell? ⟨Bm, 0, none⟩ = some (.map none)) :
    SeqGives F n Try.prog 73 #[.pointer (some ⟨Bm, 0, none⟩)] kv (fun ss : List Key => ss.Perm []) 0 w := fun l J W hW hJ _ h0 =>
  (keys1_nil_in F n hF hro l Bm J W hJ ((hW.cell (p := ⟨Bm, 0, none⟩) hBm).trans hm) h0).mono fun _ _ ⟨h1, ss, h2, h3⟩ => ⟨h1, ss, by rw [h2], h3⟩

/-! ### slices.AppendSeq(nil, seq), against whatever iterator -/
def apAssign : Code := (Code.region 2 #[{ dst := some 5, op := Op.alloc 29, type := 0, pos := "iter.go:51", after := #[], guard := none }, { dst := none, op := Op.store 29 (Operand.tmp 5) (Operand.tmp 7), type := 0, pos := "iter.go:51", after := #[{ on := 0, ground := Ground.data }, { on := 0, ground := Ground.phase }], guard := none }] false)
def apBody : Code := (Code.block 1 (Code.region 3 #[{ dst := some 8, op := Op.load 57 (Operand.tmp 2), type := 57, pos := "iter.go:52", after := #[], guard := none }, { dst := some 9, op := Op.load 29 (Operand.tmp 5), type := 29, pos := "iter.go:52", after := #[], guard := none }, { dst := some 10, op := Op.buildSlice 57 1 #[(0, Operand.tmp 9)], type := 57, pos := "iter.go:52", after := #[{ on := 1, ground := Ground.data }], guard := none }, { dst := some 11, op := Op.call { callee := Callee.builtin Builtin.append, args := #[Operand.tmp 8, Operand.tmp 10], argTypes := #[57, 57] }, type := 57, pos := "iter.go:52", after := #[{ on := 0, ground := Ground.data }, { on := 2, ground := Ground.data }], guard := none }, { dst := none, op := Op.store 57 (Operand.tmp 2) (Operand.tmp 11), type := 0, pos := "iter.go:52", after := #[{ on := 3, ground := Ground.data }, { on := 3, ground := Ground.chain }, { on := 0, ground := Ground.phase }, { on := 1, ground := Ground.phase }, { on := 2, ground := Ground.phase }, { on := 3, ground := Ground.phase }], guard := none }] false))
/-- The loop's record. -/
def apRec (fn : FuncId) (sv : Value) (Bs D : Nat) (st : LoopState) (pend : Option Code) : Loop :=
  { state := st, pending := pend, fn, tmps := #[.slice none 0 0, sv, .pointer (some ⟨Bs, 0, none⟩), undef, .slice none 0 0, undef, sv, undef, undef, undef, undef, undef, undef], params := #[7], assign := apAssign, body := apBody, defers := D }
/-- Between two rounds: the box holds a slice that owns, in a block of the call's own, what has come. -/
structure ApAt (w0 : World) (fn : FuncId) (sv : Value) (Bs l D : Nat) (ss : List Key) (W : World) : Prop where
  box : ∃ v, W.heap[Bs]? = some (.cells #[v] 57 (0, 0)) ∧ Kr W w0.heap.size v ss ∧ (v = .slice none 0 0 ↔ ss = [])
  L : W.heap[l]? = some (.loop (apRec fn sv Bs D .ready none))
  K : W.heap[D]? = some (.deferred (some []))
  below : Below w0.heap.size w0 W
theorem row_abides {W W' : World} {row : Option Nat} {base : Nat} {e : TypeId} {size : Nat} {v : Value} {k : Nat} {xs : List Value} (h : W.ownsRow base e size v k xs) (hg : W.grownBy W' row)
    (hrow : ∀ r, row = some r → ∃ o : Obj, W.heap[r]? = some o ∧ o.isWalk = true) : W'.ownsRow base e size v k xs := by
  refine h.kept hg ?_
  rcases h.2 with ⟨rfl, _⟩ | ⟨g, cap, cur, rfl, _, hgb, _⟩
  · exact .inl rfl
  · refine .inr fun e' => ?_
    obtain ⟨o, ho, hw⟩ := hrow g (by simpa [Value.ownBlock] using e'.symm)
    rw [hgb] at ho
    cases ho
    cases hw
theorem ap_abides (w0 : World) (fn : FuncId) (sv : Value) (Bs l D B : Nat) (hB : w0.heap.size ≤ B) : AbidesFrom B (ApAt w0 fn sv Bs l D) := fun s W W' row h hg hrow => by
  have hrow' : ∀ r, row = some r → ∃ o : Obj, W.heap[r]? = some o ∧ o.isWalk = true := fun r e => (hrow r e).2
  obtain ⟨v, hv, hr, hn⟩ := h.box
  exact ⟨⟨v, (grownBy_keeps hg hrow' hv rfl).trans hv, row_abides hr hg hrow', hn⟩, (grownBy_keeps hg hrow' h.L rfl).trans h.L, (grownBy_keeps hg hrow' h.K rfl).trans h.K,
    h.below.grown hg h.below.size (fun k e => Nat.le_trans hB (hrow k e).1)⟩
theorem grown_putObj (W : World) (l : Nat) (o : Obj) : W.grownBy (W.putObj l o) (some l) :=
  ⟨rfl, rfl, rfl, by simp, fun k _ hk => World.putObj_heap_other (fun e => hk (by rw [e]))⟩
theorem grown_setCell (W : World) (b : Nat) (v : Value) : W.grownBy (W.setCell ⟨b, 0, none⟩ v) (some b) :=
  ⟨rfl, rfl, rfl, (KeepsWalks.setCell W _ v).size, fun k _ hk => Below.heap_setCell _ _ _ k (fun e => hk (by rw [e]))⟩
theorem row_ne' {W : World} {base : Nat} {e : TypeId} {size : Nat} {v : Value} {k : Nat} {xs : List Value} (h : W.ownsRow base e size v k xs) {j : Nat} {o : Obj} (hj : W.heap[j]? = some o) (hno : ∀ cur, o ≠ .cells cur e (0, 0)) :
    v.ownBlock = none ∨ v.ownBlock ≠ some j := by
  rcases h.2 with ⟨rfl, _⟩ | ⟨g, cap, cur, rfl, _, hgb, _⟩
  · exact .inl rfl
  · refine .inr fun e' => ?_
    have : g = j := by simpa [Value.ownBlock] using e'
    subst this
    rw [hgb] at hj
    cases hj
    exact hno cur rfl
theorem box_cell {W : World} {B : Nat} {v : Value} {t : TypeId} (h : W.heap[B]? = some (.cells #[v] t (0, 0))) : W.cell? ⟨B, 0, none⟩ = some v ∧ W.frozen? ⟨B, 0, none⟩ = false := by
  constructor <;> simp [World.cell?, World.frozen?, h]
theorem box_set {W : World} {B : Nat} {v : Value} {t : TypeId} (v' : Value) (h : W.heap[B]? = some (.cells #[v] t (0, 0))) : (W.setCell ⟨B, 0, none⟩ v').heap[B]? = some (.cells #[v'] t (0, 0)) :=
  Blk.set (g := B) (t := t) (cs := #[v]) h 0 v'
theorem row_not_walk {W : World} {base : Nat} {e : TypeId} {size : Nat} {v : Value} {k : Nat} {xs : List Value} (h : W.ownsRow base e size v k xs) : ∀ (j : Nat) (o : Obj), v.ownBlock = some j → W.heap[j]? = some o → o.isWalk = false := by
  intro j o hj ho
  rcases h.2 with ⟨rfl, _⟩ | ⟨g, cap, cur, rfl, _, hgb, _⟩
  · simp [Value.ownBlock] at hj
  · have : g = j := by simpa [Value.ownBlock] using hj
    subst this
    rw [hgb] at ho
    cases ho
    rfl
set_option maxRecDepth 100000 in
set_option maxHeartbeats 2000000 in
theorem ap_yield (F : Fence) (m : Nat) (w0 : World) (fn : FuncId) (hfn : F.fn fn) (sv : Value) (Bs l D : Nat) (hBl : Bs ≠ l) (hDl : D ≠ l) (hDB : D ≠ Bs) (h0B : w0.heap.size ≤ Bs) (h0l : w0.heap.size ≤ l)
    (N : Nat) (hN : N ≤ 1000000000) (ss : List Key) (x : Key) (W : World) (h : ApAt w0 fn sv Bs l D ss W) (hlen : ss.length < N) :
    YieldAt F m Try.prog l #[kv x] W fun e W' => e = .returned (.bool true) ∧ ApAt w0 fn sv Bs l D (ss ++ [x]) W' ∧ KeepsWalks W W' := by
  obtain ⟨i0, hi, hz0, hz1, hz2⟩ := inf_parts key_info
  obtain ⟨v, hv, hrow, _⟩ := h.box
  obtain ⟨k1, k2⟩ := x
  rw [show kv (k1, k2) = .agg #[.int .i64 k1, .int .i64 k2] from rfl]
  refine ⟨fn, #[.slice none 0 0, sv, .pointer (some ⟨Bs, 0, none⟩), undef, .slice none 0 0, undef, sv, .agg #[.int .i64 k1, .int .i64 k2], undef, undef, undef, undef, undef], apAssign, apBody, by simpa [apRec] using run_yield (P := Try.prog) (args := #[.agg #[.int .i64 k1, .int .i64 k2]]) h.L rfl, roundIn_of_wpIn hfn ?_⟩
  obtain ⟨Wa, hWa⟩ : ∃ Wa, Wa = W.alloc (.cells #[.int .i64 k1, .int .i64 k2] 29) := ⟨_, rfl⟩
  have hkeep : ∀ j, j < W.heap.size → Wa.heap[j]? = W.heap[j]? := fun j hj => by rw [hWa]; exact Below.heap_alloc _ _ j hj
  have hl0 : l < W.heap.size := (Array.getElem?_eq_some_iff.1 h.L).1
  have hB0 : Bs < W.heap.size := (Array.getElem?_eq_some_iff.1 hv).1
  have hD0 : D < W.heap.size := (Array.getElem?_eq_some_iff.1 h.K).1
  have hsz : Wa.heap.size = W.heap.size + 1 := by rw [hWa]; simp
  have hx : Blk Wa W.heap.size 29 #[.int .i64 k1, .int .i64 k2] := by rw [hWa]; exact Blk.new _ _ _
  have hLa := (hkeep l hl0).trans h.L
  have hKa := (hkeep D hD0).trans h.K
  have hva := (hkeep Bs hB0).trans hv
  have hrowa : Kr Wa w0.heap.size v ss := by rw [hWa]; exact World.ownsRow.alloc hrow _
  have hba : Below w0.heap.size w0 Wa := by rw [hWa]; exact h.below.alloc h.below.size _
  have hka : KeepsWalks W Wa := by rw [hWa]; exact KeepsWalks.alloc _ _
  have hbr := run_beginRound (P := Try.prog) hLa rfl
  obtain ⟨W2, hW2⟩ : ∃ W2, Wa.putObj l (.loop { apRec fn sv Bs D .ready none with state := .busy }) = W2 := ⟨_, rfl⟩
  rw [hW2] at hbr
  have hl : l < Wa.heap.size := by omega
  have hg2 : Wa.grownBy W2 (some l) := by rw [← hW2]; exact grown_putObj _ _ _
  have hk2 : KeepsWalks W W2 := hka.trans (by rw [← hW2]; exact KeepsWalks.putObj _ hLa rfl)
  have hv2 : W2.heap[Bs]? = some (.cells #[v] 57 (0, 0)) := by rw [← hW2]; exact (World.putObj_heap_other hBl).trans hva
  have hK2 : W2.heap[D]? = some (.deferred (some [])) := by rw [← hW2]; exact (World.putObj_heap_other hDl).trans hKa
  have hL2 : W2.heap[l]? = some (.loop { apRec fn sv Bs D .ready none with state := .busy }) := by rw [← hW2]; exact World.putObj_heap_same hl
  have hx2 : Blk W2 W.heap.size 29 #[.int .i64 k1, .int .i64 k2] := hx.stays (by rw [← hW2]; exact World.putObj_heap_other (by omega))
  have hrow2 : Kr W2 w0.heap.size v ss := World.ownsRow.kept hrowa hg2 (row_ne' hrowa hLa (fun cur e => by cases e))
  have hb2 : Below w0.heap.size w0 W2 := hba.grown hg2 hba.size (fun k e => by cases e; exact h0l)
  obtain ⟨hc2, hf2⟩ := box_cell hv2
  have hBlt : Bs < W2.heap.size := (Array.getElem?_eq_some_iff.1 hv2).1
  have hl2 : l < W2.heap.size := (Array.getElem?_eq_some_iff.1 hL2).1
  have hDlt : D < W2.heap.size := (Array.getElem?_eq_some_iff.1 hK2).1
  have ne_of : ∀ {j : Nat} {o : Obj}, W2.heap[j]? = some o → (∀ cur, o ≠ .cells cur 29 (0, 0)) → some j ≠ v.ownBlock := fun hj hno => by
    rcases row_ne' hrow2 hj hno with e | e
    · rw [e]; simp
    · exact fun e' => e e'.symm
  have x0 := hx2.cell 0
  have x1 := hx2.cell 1
  simp at x0 x1
  have hw0 : w0.heap.size ≤ W2.heap.size := hb2.size
  have hrun2 : (Instr.beginRound l).run Try.prog (W.alloc (.cells #[.int .i64 k1, .int .i64 k2] 29)) = .ok () W2 := by rw [← hWa]; exact hbr
  clear hW2 hWa hkeep hx hbr hsz hLa hKa hva hrowa hba hka hg2
  unfold apAssign
  gi_wp2_with ((rw [Oper.semAt_eq _ _ _ (fun c h => by cases h)]; go_simp; try go_bits))
  have hnw : ∀ (j : Nat) (u : Value), ([.int .i64 k1, .int .i64 k2] : List Value)[j]? = some u → (W2.alloc (.cells #[.int .i64 k1, .int .i64 k2] 29)).cell? ((⟨W2.heap.size, 0, none⟩ : Addr).add j) = some u := fun j u hj => by
    rw [add_lit', Nat.zero_add, (Blk.new W2 29 #[.int .i64 k1, .int .i64 k2]).cell j]
    simpa using hj
  have hrow2' : (W2.alloc (.cells #[.int .i64 k1, .int .i64 k2] 29)).ownsRow w0.heap.size 29 2 v ss.length (ss.flatMap kcells) := World.ownsRow.alloc hrow2 _
  have hb3' : w0.heap.size ≤ (W2.alloc (.cells #[.int .i64 k1, .int .i64 k2] 29)).heap.size := by simp; omega
  unfold apBody
  gi_wp2_with (first
    | (gi_at_builtin; (refine wpListIn_append_own _ rfl _ _ 57 rfl w0.heap.size 29 i0 (.agg #[.int .i64 0, .int .i64 0]) 2 16 Try.underlying57 hi hz0 hz1 hz2 rfl (by decide) v ss.length (ss.flatMap kcells) rfl hrow2' ⟨W2.heap.size, 0, none⟩ 1 1 [.int .i64 k1, .int .i64 k2] rfl rfl hnw (by simp [Value.oneCell']) (by simp only [maxLen]; omega) (by omega) hb3' ?_); intro v' w3 hown' hg3 hnil3
       have hv3 : w3.heap[Bs]? = some (.cells #[v] 57 (0, 0)) := (hg3.block Bs (by simp; omega) (ne_of hv2 (fun cur e => by cases e))).trans ((Below.heap_alloc _ _ Bs hBlt).trans hv2)
       obtain ⟨hc3, hf3⟩ := box_cell hv3
       obtain ⟨g', cap', cur', rfl, hbase', hgb', hr1, hr2, hr3, hr4⟩ : ∃ g' cap' cur', v' = .slice (some ⟨g', 0, none⟩) (ss.length + 1) cap' ∧ w0.heap.size ≤ g' ∧ w3.heap[g']? = some (.cells cur' 29 (0, 0)) ∧ ss.length + 1 ≤ cap' ∧ cap' ≤ maxLen ∧ cur'.size = cap' * 2 ∧ cur'.toList.take ((ss.length + 1) * 2) = ss.flatMap kcells ++ [.int .i64 k1, .int .i64 k2] := by
         rcases hown'.2 with ⟨_, h0⟩ | h'
         · exact absurd h0 (by omega)
         · exact h'
       go_frame)
    | ((rw [Oper.semAt_eq _ _ _ (fun c h => by cases h)]; go_simp; try go_bits)))
  have hg3' : (W2.alloc (.cells #[.int .i64 k1, .int .i64 k2] 29)).grownBy w3 v.ownBlock := hg3
  have hL3 : w3.heap[l]? = some (.loop { apRec fn sv Bs D .ready none with state := .busy }) := (hg3'.block l (by simp; omega) (ne_of hL2 (fun cur e => by cases e))).trans ((Below.heap_alloc _ _ l hl2).trans hL2)
  have hK3 : w3.heap[D]? = some (.deferred (some [])) := (hg3'.block D (by simp; omega) (ne_of hK2 (fun cur e => by cases e))).trans ((Below.heap_alloc _ _ D hDlt).trans hK2)
  obtain ⟨w4, hw4⟩ : ∃ w4, w3.setCell ⟨Bs, 0, none⟩ (.slice (some ⟨g', 0, none⟩) (ss.length + 1) cap') = w4 := ⟨_, rfl⟩
  rw [hw4]
  have hg4 : w3.grownBy w4 (some Bs) := by rw [← hw4]; exact grown_setCell _ _ _
  have hv4 : w4.heap[Bs]? = some (.cells #[.slice (some ⟨g', 0, none⟩) (ss.length + 1) cap'] 57 (0, 0)) := by rw [← hw4]; exact box_set _ hv3
  have hL4 : w4.heap[l]? = some (.loop { apRec fn sv Bs D .ready none with state := .busy }) := (hg4.block l (Array.getElem?_eq_some_iff.1 hL3).1 (fun e => hBl (by cases e; rfl))).trans hL3
  have hK4 : w4.heap[D]? = some (.deferred (some [])) := (hg4.block D (Array.getElem?_eq_some_iff.1 hK3).1 (fun e => hDB (by cases e; rfl))).trans hK3
  have hrow4 := hown'.kept hg4 (row_ne' hown' hv3 (fun cur e => by cases e))
  have hl4 : l < w4.heap.size := (Array.getElem?_eq_some_iff.1 hL4).1
  have hb3 : Below w0.heap.size w0 w3 := (hb2.alloc hb2.size _).grown hg3' (by have := hb2.size; simp; omega) (fun k e => (World.ownsRow.lt hrow2 k e).1)
  have hb4 : Below w0.heap.size w0 w4 := hb3.grown hg4 hb3.size (fun k e => by cases e; exact h0B)
  have hk4 : KeepsWalks W w4 := ((hk2.trans (KeepsWalks.alloc _ _)).trans (KeepsWalks.of_grownBy hg3' (row_not_walk hrow2'))).trans (by rw [← hw4]; exact KeepsWalks.setCell _ _ _)
  clear hw4
  refine ⟨_, _, run_endRound none hL4, rfl, ⟨⟨_, (World.putObj_heap_other hBl).trans hv4, ?_, by simp⟩, World.putObj_heap_same hl4, (World.putObj_heap_other hDl).trans hK4, hb4.grown (grown_putObj _ _ _) hb4.size (fun k e => by cases e; exact h0l)⟩, hk4.trans (KeepsWalks.putObj _ hL4 rfl)⟩
  have := hrow4.kept (grown_putObj w4 l (.loop { { apRec fn sv Bs D .ready none with state := .busy } with state := if (none : Option Code).isNone then .ready else .done, pending := none })) (row_ne' hrow4 hL4 (fun cur e => by cases e))
  unfold Kr
  rw [List.length_append, List.length_singleton, List.flatMap_append]
  simpa [kcells] using this
set_option maxRecDepth 100000 in
set_option maxHeartbeats 2000000 in
/-- slices.AppendSeq(nil, seq): a slice that owns just what the iterator gave, in that order. -/
theorem appendSeq_in (F : Fence) (n : Nat) (hF : F.fn 90) (hro : F.round = none) (hn : 2 ≤ n) (g : Nat) (lb : Array Value) (hFg : F.fn g) (eg : ∀ args w, (callFunc g args).run Try.prog w = .ok (.enter g args) w)
    (S : List Key → Prop) (N : Nat) (hN : N ≤ 1000000000) (w : World) (hseq : SeqGives F (n - 1) Try.prog g lb kv S N w) :
    CallsIn F n Try.prog 90 #[.slice none 0 0, .func (.func g) #[] lb] w fun e w' => ∃ (v : Value) (ss : List Key), e = .returned v ∧ S ss ∧ Kr w' w.heap.size v ss ∧ (v = .slice none 0 0 ↔ ss = []) ∧ Below w.heap.size w w' := by
  have h1 : 1 ≤ n := by omega
  refine callsIn_of_wp_marks Try.func90 rfl hF ?_ hro
  simp only [Try.ntmps90, List.size_toArray, List.length_cons, List.length_nil, Nat.reduceAdd, Nat.reduceSub, Array.replicate_succ, Array.replicate_zero, List.push_toArray, List.append_toArray, List.nil_append, List.cons_append]
  gi_wp2
  refine wpIn_rangeFunc ?_
  intro fn hfn
  rw [hro]
  obtain ⟨W0, hW0⟩ : ∃ W0, w.alloc (.cells #[.slice none 0 0] 57) = W0 := ⟨_, rfl⟩
  have hs0 : W0.heap.size = w.heap.size + 1 := by rw [← hW0]; simp
  have hv0 : W0.heap[w.heap.size]? = some (.cells #[.slice none 0 0] 57 (0, 0)) := by rw [← hW0]; exact World.alloc_heap_new w _
  have hb0 : Below w.heap.size w W0 := by rw [← hW0]; exact (Below.refl _ w).alloc (Nat.le_refl _) _
  rw [hW0]
  obtain ⟨W1, hW1⟩ : ∃ W1, (W0.alloc (.deferred (some []))).alloc (.loop (apRec fn (.func (.func g) #[] lb) w.heap.size W0.heap.size .ready none)) = W1 := ⟨_, rfl⟩
  have hold : ∀ k, k < W0.heap.size → W1.heap[k]? = W0.heap[k]? := fun k hk => by
    rw [← hW1]; exact (Below.heap_alloc _ _ k (by simp; omega)).trans (Below.heap_alloc _ _ k hk)
  have hb1 : Below w.heap.size w W1 := by rw [← hW1]; exact (hb0.alloc hb0.size _).alloc (by have := hb0.size; simp; omega) _
  have hs1 : W1.heap.size = W0.heap.size + 2 := by rw [← hW1]; simp
  have hM : ApAt w fn (.func (.func g) #[] lb) w.heap.size (W0.heap.size + 1) W0.heap.size [] W1 :=
    ⟨⟨_, (hold w.heap.size (by omega)).trans hv0, ⟨rfl, .inl ⟨rfl, rfl⟩⟩, by simp⟩,
     by rw [← hW1]; have := World.alloc_heap_new (W0.alloc (.deferred (some []))) (.loop (apRec fn (.func (.func g) #[] lb) w.heap.size W0.heap.size .ready none)); rwa [World.size_alloc] at this,
     by rw [← hW1]; exact (Below.heap_alloc _ _ _ (by simp)).trans (World.alloc_heap_new W0 _), hb1⟩
  refine ⟨W0.heap.size + 1, [{ target := .collected W0.heap.size, args := #[] }], W1, { target := .fn (.func g) lb, args := #[.func (.yield (W0.heap.size + 1)) #[] #[]] }, W1, g,
    #[.func (.yield (W0.heap.size + 1)) #[] #[]] ++ lb, W1, ?_, ?_, ?_, ?_, fun _ => h1, ?_⟩
  · rw [← hW1]; exact run_enterLoop_outer _ _ _ _ _
  · simp [resolve, go_sem]
  · intro f' hf'; simp [Target.leads] at hf'; subst hf'; exact hFg
  · simp [invoke, go_sem, eg]
  · refine (hseq (W0.heap.size + 1) (ApAt w fn (.func (.func g) #[] lb) w.heap.size (W0.heap.size + 1) W0.heap.size) W1 hb1 (ap_abides _ _ _ _ _ _ _ hb1.size)
      (fun pre x W hJ hl => ap_yield F (n - 1 - 1) w fn hfn _ w.heap.size (W0.heap.size + 1) W0.heap.size (by omega) (by omega) (by omega) (Nat.le_refl _) (by omega) N hN pre x W hJ hl) hM).mono ?_
    rintro e W2 ⟨⟨v0, rfl⟩, ss, hS, h2⟩
    obtain ⟨v, hv, hrow, hnil⟩ := h2.box
    have hend := run_endLoop (P := Try.prog) h2.L (by simp [apRec])
    obtain ⟨W3, hW3⟩ : ∃ W3, W2.putObj (W0.heap.size + 1) (.loop { apRec fn (.func (.func g) #[] lb) w.heap.size W0.heap.size .ready none with state := .exhausted }) = W3 := ⟨_, rfl⟩
    rw [hW3] at hend
    have hg3 : W2.grownBy W3 (some (W0.heap.size + 1)) := by rw [← hW3]; exact grown_putObj _ _ _
    have hv3 : W3.heap[w.heap.size]? = some (.cells #[v] 57 (0, 0)) := by rw [← hW3]; exact (World.putObj_heap_other (by omega)).trans hv
    have hK3 : W3.heap[W0.heap.size]? = some (.deferred (some [])) := by rw [← hW3]; exact (World.putObj_heap_other (by omega)).trans h2.K
    have hrow3 : Kr W3 w.heap.size v ss := World.ownsRow.kept hrow hg3 (row_ne' hrow h2.L (fun cur e => by cases e))
    have hb3 : Below w.heap.size w W3 := h2.below.grown hg3 h2.below.size (fun k e => by cases e; omega)
    obtain ⟨hc3, hf3⟩ := box_cell hv3
    clear hW3
    refine ⟨none, W3, hend, ?_⟩
    gi_wp2
    rw [← hs0]
    refine ⟨by simp, .inl ⟨_, _, rfl, run_takeDeferred hK3, ?_⟩⟩
    exact ⟨_, results_tmp rfl _ _ _, v, ss, rfl, hS, World.ownsRow.kept hrow3 (grown_putObj _ _ _) (row_ne' hrow3 hK3 (fun cur e => by cases e)), hnil, hb3.grown (grown_putObj _ _ _) hb3.size (fun k e => by cases e; omega)⟩
/-- slices.Collect(seq). -/
theorem collect_in (F : Fence) (n : Nat) (hF : F.fn 72) (hF2 : F.fn 90) (hro : F.round = none) (hn : 3 ≤ n) (g : Nat) (lb : Array Value) (hFg : F.fn g) (eg : ∀ args w, (callFunc g args).run Try.prog w = .ok (.enter g args) w)
    (S : List Key → Prop) (N : Nat) (hN : N ≤ 1000000000) (w : World) (hseq : SeqGives F (n - 1 - 1) Try.prog g lb kv S N w) :
    CallsIn F n Try.prog 72 #[.func (.func g) #[] lb] w fun e w' => ∃ (v : Value) (ss : List Key), e = .returned v ∧ S ss ∧ Kr w' w.heap.size v ss ∧ (v = .slice none 0 0 ↔ ss = []) ∧ Below w.heap.size w w' := by
  have h1 : 1 ≤ n := by omega
  refine callsIn_of_wp Try.func72 rfl hF ?_ hro
  simp only [Try.ntmps72, List.size_toArray, List.length_cons, List.length_nil, Nat.reduceAdd, Nat.reduceSub, Array.replicate_succ, Array.replicate_zero, List.push_toArray, List.append_toArray, List.nil_append, List.cons_append]
  gi_wp2_with (gi_at_call 90; refine (appendSeq_in F (n - 1) hF2 hro (by omega) g lb hFg eg S N hN _ hseq).mono ?_; rintro e w' ⟨v, ss, rfl, hS, hrow, hnil, hb⟩)
  go_ret
  exact ⟨v, ss, rfl, hS, hrow, hnil, hb⟩
end Go.Proofs.Ytbmcdlcoojmppaa

/-
  The library's sort and comparison: the numbers of this program's functions and types, and the kernel's comparison of their bodies.
-/
namespace Go.Proofs.Ytbmcdlcoojmppaa
open Go.Shelf
def Shk.sortK_ren : Go.Shelf.Ren := ⟨fun | 6 => 39 | 15 => 48 | 14 => 55 | 28 => 69 | 29 => 70 | 20 => 74 | 21 => 75 | 22 => 76 | 23 => 77 | 24 => 78 | 25 => 79 | 26 => 80 | 27 => 81 | 46 => 91 | 47 => 85 | 48 => 86 | 49 => 92 | 50 => 93 | 57 => 96 | n => n, fun | 22 => 57 | 24 => 29 | 25 => 83 | 3 => 3 | 39 => 94 | 0 => 0 | 53 => 118 | 55 => 27 | 4 => 4 | 46 => 110 | 45 => 109 | 50 => 115 | 5 => 5 | 9 => 9 | 66 => 129 | 70 => 133 | 76 => 140 | 77 => 141 | n => n, fun | n => n⟩
theorem Shk.sortK : Go.Proofs.SlLaysF0.n6 Try.prog Shk.sortK_ren := {
  mixed := by kernel_rfl
  f6 := ⟨Try.f39.name, by decide, Try.func39.trans (congrArg some (by kernel_rfl))⟩
  f14 := ⟨Try.f55.name, by decide, Try.func55.trans (congrArg some (by kernel_rfl))⟩
  f15 := Try.func48.trans (congrArg some (by kernel_rfl))
  f20 := ⟨Try.f74.name, by decide, Try.func74.trans (congrArg some (by kernel_rfl))⟩
  f21 := ⟨Try.f75.name, by decide, Try.func75.trans (congrArg some (by kernel_rfl))⟩
  f22 := ⟨Try.f76.name, by decide, Try.func76.trans (congrArg some (by kernel_rfl))⟩
  f23 := ⟨Try.f77.name, by decide, Try.func77.trans (congrArg some (by kernel_rfl))⟩
  f24 := ⟨Try.f78.name, by decide, Try.func78.trans (congrArg some (by kernel_rfl))⟩
  f25 := ⟨Try.f79.name, by decide, Try.func79.trans (congrArg some (by kernel_rfl))⟩
  f26 := ⟨Try.f80.name, by decide, Try.func80.trans (congrArg some (by kernel_rfl))⟩
  f27 := ⟨Try.f81.name, by decide, Try.func81.trans (congrArg some (by kernel_rfl))⟩
  f28 := Try.func69.trans (congrArg some (by kernel_rfl))
  f29 := Try.func70.trans (congrArg some (by kernel_rfl))
  f46 := ⟨Try.f91.name, by decide, Try.func91.trans (congrArg some (by kernel_rfl))⟩
  f47 := Try.func85.trans (congrArg some (by kernel_rfl))
  f48 := Try.func86.trans (congrArg some (by kernel_rfl))
  f49 := ⟨Try.f92.name, by decide, Try.func92.trans (congrArg some (by kernel_rfl))⟩
  f50 := ⟨Try.f93.name, by decide, Try.func93.trans (congrArg some (by kernel_rfl))⟩
  f57 := ⟨Try.f96.name, by decide, Try.func96.trans (congrArg some (by kernel_rfl))⟩
  t0 := Try.underlying0
  a0 := Try.isAgg0
  z0 := Try.sizeOf0
  v0 := Try.zeroValue0
  t3 := Try.underlying3
  a3 := Try.isAgg3
  z3 := Try.sizeOf3
  v3 := Try.zeroValue3
  t4 := Try.underlying4
  a4 := Try.isAgg4
  z4 := Try.sizeOf4
  v4 := Try.zeroValue4
  t5 := Try.underlying5
  a5 := Try.isAgg5
  z5 := Try.sizeOf5
  v5 := Try.zeroValue5
  t9 := Try.underlying9
  a9 := Try.isAgg9
  z9 := Try.sizeOf9
  v9 := Try.zeroValue9
  t22 := Try.underlying57
  a22 := Try.isAgg57
  z22 := Try.sizeOf57
  v22 := Try.zeroValue57
  t25 := Try.underlying83
  a25 := Try.isAgg83
  z25 := Try.sizeOf83
  v25 := Try.zeroValue83
  t39 := Try.underlying94
  a39 := Try.isAgg94
  z39 := Try.sizeOf94
  v39 := Try.zeroValue94
  t45 := Try.underlying109
  a45 := Try.isAgg109
  z45 := Try.sizeOf109
  v45 := Try.zeroValue109
  t46 := Try.underlying110
  a46 := Try.isAgg110
  z46 := Try.sizeOf110
  v46 := Try.zeroValue110
  t50 := Try.underlying115
  a50 := Try.isAgg115
  z50 := Try.sizeOf115
  v50 := Try.zeroValue115
  t53 := Try.underlying118
  a53 := Try.isAgg118
  z53 := Try.sizeOf118
  v53 := Try.zeroValue118
  t55 := Try.underlying27
  a55 := Try.isAgg27
  z55 := Try.sizeOf27
  v55 := Try.zeroValue27
  t66 := Try.underlying129
  a66 := Try.isAgg129
  z66 := Try.sizeOf129
  v66 := Try.zeroValue129
  t70 := Try.underlying133
  a70 := Try.isAgg133
  z70 := Try.sizeOf133
  v70 := Try.zeroValue133
  t76 := Try.underlying140
  a76 := Try.isAgg140
  z76 := Try.sizeOf140
  v76 := Try.zeroValue140
  t77 := Try.underlying141
  a77 := Try.isAgg141
  z77 := Try.sizeOf141
  v77 := Try.zeroValue141 }
def Shk.cmpInt_ren : Go.Shelf.Ren := ⟨fun | 5 => 57 | 7 => 82 | n => n, fun | 22 => 3 | 3 => 3 | 4 => 4 | n => n, fun | n => n⟩
theorem Shk.cmpInt : Go.Proofs.SlLaysC2.n5 Try.prog Shk.cmpInt_ren := {
  mixed := by kernel_rfl
  f5 := ⟨Try.f57.name, by decide, Try.func57.trans (congrArg some (by kernel_rfl))⟩
  f7 := ⟨Try.f82.name, by decide, Try.func82.trans (congrArg some (by kernel_rfl))⟩
  t3 := Try.underlying3
  a3 := Try.isAgg3
  z3 := Try.sizeOf3
  v3 := Try.zeroValue3
  t4 := Try.underlying4
  a4 := Try.isAgg4
  z4 := Try.sizeOf4
  v4 := Try.zeroValue4
  t22 := Try.underlying3
  a22 := Try.isAgg3
  z22 := Try.sizeOf3
  v22 := Try.zeroValue3 }

end Go.Proofs.Ytbmcdlcoojmppaa

