
/-
  The code's table of locks in memory: what it is, how that stays, what is read of it.
-/
import Derived.Test.YtgpaikaccipfjaaLk1
namespace Go.Proofs.Ytgpaikaccipfjaa
open Go.RowKit Go.Maps

structure Lk where
  mode : Int
  hs : List Nat
  line : List (Nat × Int)
  pop : Bool
structure Py where
  ks : List Key
  key : Key
  mode : Int
def Py.zero : Py := ⟨[], (0, 0), 0⟩
structure Tb where
  lk : Key → Option Lk
  py : Nat → Option Py
  many : Int
  kk : List Key
  oo : List Nat
def Tb.of (T : Tb) (o : Nat) : Py := (T.py o).getD Py.zero

/-- What blocks of memory are for. -/
inductive Tag where
  | tb | km | om | lk (k : Key) | hm (k : Key) | ln (k : Key) | py (o : Nat) | pm (o : Nat)
deriving DecidableEq
def ptrB (o : Option Nat) : Value := .pointer (o.map fun b => ⟨b, 0, none⟩)
def unitF {α : Type} [DecidableEq α] (ks : List α) : α → Option Value := fun a => if a ∈ ks then some (.agg #[]) else none
/-- A line's cells. -/
def wcells (ws : List (Nat × Int)) : List Value := ws.flatMap fun p => [.int .u64 (p.1 : Int), .int .i64 p.2]
/-- A line in memory. -/
def LnAt (w : World) (ob : Option Nat) (v : Value) (ws : List (Nat × Int)) (pop : Bool) : Prop :=
  (ob = none ∧ v = .slice none 0 0 ∧ ws = []) ∨ ∃ b off cap cs, ob = some b ∧ v = .slice (some ⟨b, 2 * off, none⟩) ws.length cap ∧ Blk w b TWt cs ∧ ws.length ≤ cap ∧ cap ≤ maxLen ∧ 2 * off + 2 * cap ≤ cs.size ∧ (∀ i u, (wcells ws)[i]? = some u → cs[2 * off + i]? = some u) ∧ (pop = false → off = 0 ∧ cs.size = cap * 2)
def LkAt (w : World) (ob oh ol : Option Nat) (l : Lk) : Prop :=
  ∃ b h v, ob = some b ∧ oh = some h ∧ Blk w b TLk #[.int .i64 l.mode, .map (some h), v] ∧ Mp Try.prog KO w h (unitF l.hs) l.hs ∧ LnAt w ol v l.line l.pop
def PyAt (w : World) (ob oh : Option Nat) (p : Py) : Prop :=
  ∃ b h, ob = some b ∧ oh = some h ∧ Blk w b TPy #[.map (some h), .int .i64 p.key.1, .int .i64 p.key.2, .int .i64 p.mode] ∧ Mp Try.prog KL w h (unitF p.ks) p.ks
structure TbAt (w : World) (t km om : Nat) (B : Tag → Option Nat) (T : Tb) : Prop where
  bt : B .tb = some t
  bk : B .km = some km
  bo : B .om = some om
  inj : ∀ a b n, B a = some n → B b = some n → a = b
  blk : Blk w t TTb #[.map (some km), .map (some om), .int .i64 T.many]
  keys : Mp Try.prog KL w km (fun k => (T.lk k).map fun _ => ptrB (B (.lk k))) T.kk
  owners : Mp Try.prog KO w om (fun o => (T.py o).map fun _ => ptrB (B (.py o))) T.oo
  lk : ∀ k l, T.lk k = some l → LkAt w (B (.lk k)) (B (.hm k)) (B (.ln k)) l
  py : ∀ o p, T.py o = some p → PyAt w (B (.py o)) (B (.pm o)) p
  lk0 : ∀ k, T.lk k = none → B (.lk k) = none ∧ B (.hm k) = none ∧ B (.ln k) = none
  py0 : ∀ o, T.py o = none → B (.py o) = none ∧ B (.pm o) = none

section
variable {w w' : World} {t km om : Nat} {B : Tag → Option Nat} {T : Tb}
theorem LnAt.stays {ob : Option Nat} {v : Value} {ws : List (Nat × Int)} {pop : Bool} (h : LnAt w ob v ws pop) (e : ∀ n, ob = some n → w'.heap[n]? = w.heap[n]?) : LnAt w' ob v ws pop := by
  rcases h with h | ⟨b, off, cap, cs, h1, h2, h3, r⟩
  · exact .inl h
  · exact .inr ⟨b, off, cap, cs, h1, h2, h3.stays (e b h1), r⟩
theorem LnAt.lt {ob : Option Nat} {v : Value} {ws : List (Nat × Int)} {pop : Bool} (h : LnAt w ob v ws pop) : ∀ n, ob = some n → n < w.heap.size := fun n hn => by
  rcases h with ⟨h, _⟩ | ⟨b, off, cap, cs, h1, h2, h3, r⟩
  · rw [h] at hn; cases hn
  · rw [h1] at hn; cases hn; exact h3.lt
theorem LkAt.stays {ob oh ol : Option Nat} {l : Lk} (h : LkAt w ob oh ol l) (e1 : ∀ n, ob = some n → w'.heap[n]? = w.heap[n]?) (e2 : ∀ n, oh = some n → w'.heap[n]? = w.heap[n]?) (e3 : ∀ n, ol = some n → w'.heap[n]? = w.heap[n]?) : LkAt w' ob oh ol l := by
  obtain ⟨b, h', v, h1, h2, h3, h4, h5⟩ := h
  exact ⟨b, h', v, h1, h2, h3.stays (e1 b h1), h4.stays (e2 h' h2), h5.stays e3⟩
theorem PyAt.stays {ob oh : Option Nat} {p : Py} (h : PyAt w ob oh p) (e1 : ∀ n, ob = some n → w'.heap[n]? = w.heap[n]?) (e2 : ∀ n, oh = some n → w'.heap[n]? = w.heap[n]?) : PyAt w' ob oh p := by
  obtain ⟨b, h', h1, h2, h3, h4⟩ := h
  exact ⟨b, h', h1, h2, h3.stays (e1 b h1), h4.stays (e2 h' h2)⟩
/-- Its blocks lie in memory. -/
theorem TbAt.lt (h : TbAt w t km om B T) : ∀ a n, B a = some n → n < w.heap.size := fun a n hn => by
  cases a with
  | tb => have := h.bt; rw [hn] at this; cases this; exact h.blk.lt
  | km => have := h.bk; rw [hn] at this; cases this; exact h.keys.lt
  | om => have := h.bo; rw [hn] at this; cases this; exact h.owners.lt
  | lk k =>
    cases hk : T.lk k with
    | none => rw [(h.lk0 k hk).1] at hn; cases hn
    | some l =>
      obtain ⟨b, h', v, h1, h2, h3, h4, h5⟩ := h.lk k l hk
      rw [h1] at hn; cases hn; exact h3.lt
  | hm k =>
    cases hk : T.lk k with
    | none => rw [(h.lk0 k hk).2.1] at hn; cases hn
    | some l =>
      obtain ⟨b, h', v, h1, h2, h3, h4, h5⟩ := h.lk k l hk
      rw [h2] at hn; cases hn; exact h4.lt
  | ln k =>
    cases hk : T.lk k with
    | none => rw [(h.lk0 k hk).2.2] at hn; cases hn
    | some l =>
      obtain ⟨b, h', v, h1, h2, h3, h4, h5⟩ := h.lk k l hk
      exact h5.lt n hn
  | py o =>
    cases ho : T.py o with
    | none => rw [(h.py0 o ho).1] at hn; cases hn
    | some p =>
      obtain ⟨b, h', h1, h2, h3, h4⟩ := h.py o p ho
      rw [h1] at hn; cases hn; exact h3.lt
  | pm o =>
    cases ho : T.py o with
    | none => rw [(h.py0 o ho).2] at hn; cases hn
    | some p =>
      obtain ⟨b, h', h1, h2, h3, h4⟩ := h.py o p ho
      rw [h2] at hn; cases hn; exact h4.lt
theorem TbAt.stays (h : TbAt w t km om B T) (e : ∀ a n, B a = some n → w'.heap[n]? = w.heap[n]?) : TbAt w' t km om B T :=
  ⟨h.bt, h.bk, h.bo, h.inj, h.blk.stays (e _ _ h.bt), h.keys.stays (e _ _ h.bk), h.owners.stays (e _ _ h.bo),
   fun k l hk => (h.lk k l hk).stays (fun n hn => e _ n hn) (fun n hn => e _ n hn) (fun n hn => e _ n hn), fun o p ho => (h.py o p ho).stays (fun n hn => e _ n hn) (fun n hn => e _ n hn), h.lk0, h.py0⟩
theorem TbAt.gr (h : TbAt w t km om B T) (g : Gr w w') : TbAt w' t km om B T := h.stays fun a n hn => g.block n (h.lt a n hn)
theorem TbAt.c3 (h : TbAt w t km om B T) : w.cell? ⟨t, 0, none⟩ = some (.map (some km)) ∧ w.cell? ⟨t, 1, none⟩ = some (.map (some om)) ∧ w.cell? ⟨t, 2, none⟩ = some (.int .i64 T.many) := ⟨h.blk.cell 0, h.blk.cell 1, h.blk.cell 2⟩
/-- The look-ups of a key, and of an owner. -/
theorem TbAt.look (h : TbAt w t km om B T) {k : Key} (hk : KL.dom k) : (Instr.lookup TMk (.map (some km)) (kv k) false).run Try.prog w = .ok (ptrB (B (.lk k))) w := by
  have := h.keys.look KL_ok Try.underlying45 (Try.zeroValue71 w) hk
  rw [show KL.val k = kv k from rfl] at this
  rw [this]
  cases e : T.lk k with
  | none => rw [(h.lk0 k e).1]; rfl
  | some l => rfl
theorem TbAt.lookO (h : TbAt w t km om B T) {o : Nat} (ho : KO.dom o) : (Instr.lookup TMo (.map (some om)) (.int .u64 (o : Int)) false).run Try.prog w = .ok (ptrB (B (.py o))) w := by
  have := h.owners.look KO_ok Try.underlying46 (Try.zeroValue86 w) ho
  rw [show KO.val o = .int .u64 (o : Int) from rfl] at this
  rw [this]
  cases e : T.py o with
  | none => rw [(h.py0 o e).1]; rfl
  | some l => rfl
/-- A party as a value. -/
def ofV (B : Tag → Option Nat) (T : Tb) (o : Nat) : Value := .agg #[.map (B (.pm o)), .int .i64 (T.of o).key.1, .int .i64 (T.of o).key.2, .int .i64 (T.of o).mode]

theorem results_py {fn : Func} {p : Tmp} (h : fn.results = #[.cell p TPy]) (tmps : Array Value) (w : World) (g : Nat) {a b c d : Value} (hp : tmps.getD p undef = .pointer (some ⟨g, 0, none⟩)) (hb : Blk w g TPy #[a, b, c, d]) : (results fn tmps).run Try.prog w = .ok (.agg #[a, b, c, d]) w :=
  results_cell_row h tmps w g TPy _ (0, 0) _ hp hb Try.underlying61 rfl (by kernel_rfl)
theorem map_eql (m : Nat) (w : World) : (binOp .eql TMk (.map (some m)) (.map none)).run Try.prog w = .ok (.bool false) w := by
  kernel_rfl
set_option maxRecDepth 100000 in
theorem missing_no (h : TbAt w t km om B T) : Calls Try.prog 22 #[.pointer (some ⟨t, 0, none⟩)] w fun e w' => e = .returned (.bool false) ∧ w = w' := by
  have c0 := h.c3.1
  have he : (binOp .eql TMk (.map (some km)) (.map none)).run Try.prog w = .ok (.bool false) w := map_eql km w
  clear h
  go_enter Try.func22, Try.ntmps22
  go_wp2_with fail
  go_ret
  exact ⟨rfl, rfl⟩
set_option maxRecDepth 100000 in
theorem of_any (h : TbAt w t km om B T) {o : Nat} (ho : KO.dom o) : Calls Try.prog 25 #[.pointer (some ⟨t, 0, none⟩), .int .u64 (o : Int)] w fun e w' => e = .returned (ofV B T o) ∧ Gr w w' := by
  have g1 : Gr w (w.alloc (.cells #[.map none, .int .i64 0, .int .i64 0, .int .i64 0] TPy)) := (Gr.refl w).alloc (Nat.le_refl _) _
  have h1 := h.gr g1
  have c1 := h1.c3.2.1
  have hl := h1.lookO ho
  have HM := Lib.hid (missing_no h1)
  have hb := Blk.new w TPy #[.map none, .int .i64 0, .int .i64 0, .int .i64 0]
  cases e : T.py o with
  | none =>
    obtain ⟨e1, e2⟩ := h.py0 o e
    have hv : ofV B T o = .agg #[.map none, .int .i64 0, .int .i64 0, .int .i64 0] := by
      unfold ofV Tb.of
      rw [e, e2]
      rfl
    rw [e1] at hl
    rw [hv]
    have HG := Lib.hid g1
    have HB := Lib.hid hb
    clear h h1 e1 e2 hv g1 e hb
    have hl' : (Instr.lookup TMo (.map (some om)) (.int .u64 (o : Int)) false).run Try.prog (w.alloc (.cells #[.map none, .int .i64 0, .int .i64 0, .int .i64 0] TPy)) = .ok (.pointer none) (w.alloc (.cells #[.map none, .int .i64 0, .int .i64 0, .int .i64 0] TPy)) := hl
    clear hl
    go_enter Try.func25, Try.ntmps25
    go_wp2_with fail
    refine HM.out.mono ?_
    rintro e w2 ⟨rfl, rfl⟩
    go_wp2_with fail
    exact bodyPost_ret (results_py rfl _ _ w.heap.size rfl HB.out) rfl ⟨rfl, HG.out⟩
  | some p =>
    obtain ⟨b, h', e1, e2, e3, e4⟩ := h.py o p e
    obtain ⟨b', h'', f1, f2, f3, f4⟩ := h1.py o p e
    rw [e1] at f1 hl
    cases f1
    have hv : ofV B T o = .agg #[.map (some h'), .int .i64 p.key.1, .int .i64 p.key.2, .int .i64 p.mode] := by
      unfold ofV Tb.of
      rw [e, e2]
      rfl
    rw [hv]
    have hl' : (Instr.lookup TMo (.map (some om)) (.int .u64 (o : Int)) false).run Try.prog (w.alloc (.cells #[.map none, .int .i64 0, .int .i64 0, .int .i64 0] TPy)) = .ok (.pointer (some ⟨b, 0, none⟩)) (w.alloc (.cells #[.map none, .int .i64 0, .int .i64 0, .int .i64 0] TPy)) := hl
    have f3' := e3.alloc (.cells #[.map none, .int .i64 0, .int .i64 0, .int .i64 0] TPy)
    have k0 := f3'.cell 0
    have k1 := f3'.cell 1
    have k2 := f3'.cell 2
    have k3 := f3'.cell 3
    obtain ⟨K1, hK1⟩ : ∃ x, x = p.key.1 := ⟨_, rfl⟩
    obtain ⟨K2, hK2⟩ : ∃ x, x = p.key.2 := ⟨_, rfl⟩
    obtain ⟨M, hM⟩ : ∃ x, x = p.mode := ⟨_, rfl⟩
    rw [← hK1, ← hK2, ← hM]
    rw [← hK1] at k1
    rw [← hK2] at k2
    rw [← hM] at k3
    have HG := Lib.hid g1
    have HB := Lib.hid hb
    clear h h1 e1 e2 hv g1 e hb hl e3 e4 f2 f3 f4 f3' hK1 hK2 hM
    simp at k0 k1 k2 k3
    go_enter Try.func25, Try.ntmps25
    go_wp2_with fail
    refine HM.out.mono ?_
    rintro e w2 ⟨rfl, rfl⟩
    go_wp2_with fail
    exact bodyPost_ret (results_py rfl _ _ w.heap.size rfl (Blk.new _ _ _)) rfl ⟨rfl, (Gr.refl w).alloc (Nat.le_refl _) _⟩
end
end Go.Proofs.Ytgpaikaccipfjaa
