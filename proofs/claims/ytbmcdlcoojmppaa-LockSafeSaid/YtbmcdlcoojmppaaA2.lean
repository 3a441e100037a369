/-
  Texts on locks, put together: Lk1 Lk2 Lk3.
-/
import Derived.Test.YtbmcdlcoojmppaaProg
import Derived.Test.YtbmcdlcoojmppaaChecked
import Derived.DeepKeys4
import Derived.BigQuiet
import Derived.Deep.QuietTactic
import Derived.Test.YtbmcdlcoojmppaaA1
/-
  The code's table of locks in memory.
-/
namespace Go.Proofs.Ytbmcdlcoojmppaa
open Go.RowKit Go.Maps

abbrev TTb : TypeId := 48
abbrev TLk : TypeId := 70
abbrev TPy : TypeId := 61
abbrev TWt : TypeId := 74
abbrev TKey : TypeId := 29
abbrev TOw : TypeId := 27
abbrev TMk : TypeId := 45
abbrev TMo : TypeId := 46
abbrev TMh : TypeId := 67
abbrev TMs : TypeId := 59
abbrev Key : Type := Int × Int
def i64In (a : Int) : Prop := -9223372036854775808 ≤ a ∧ a ≤ 9223372036854775807
def kv (k : Key) : Value := .agg #[.int .i64 k.1, .int .i64 k.2]
def KO : KK Nat := ⟨TOw, fun n => .int .u64 (n : Int), fun n => .int .u64 (n : Int), fun n => n ≤ 18446744073709551615⟩
def KL : KK Key := ⟨TKey, kv, fun k => .string (keyBytes [.int .i64 k.1, .int .i64 k.2]), fun k => i64In k.1 ∧ i64In k.2⟩
theorem lk_laidOut : laidOutB Try.prog = true := by kernel_rfl
theorem key_row : (29 : TypeId) < Try.prog.types.size := of_decide_eq_true (by kernel_rfl)
theorem key_wide : (match Try.prog.underlying 29 with | some (.array _ _) | some (.struct _) => true | _ => false) = true := by kernel_rfl
theorem key_at : Try.prog.keyTypeAt 2 29 = true := by kernel_rfl
set_option maxRecDepth 100000 in
theorem key_law : WideMaps.KeyLaw Try.prog 29 := deep_law_laid lk_laidOut (m := 2) (by omega) key_row key_at key_wide
theorem i64_wf {a : Int} : (Lit.int .i64 a).wf = true ↔ i64In a := by
  unfold i64In
  have e1 : IntKind.i64.min = -9223372036854775808 := by decide
  have e2 : IntKind.i64.max = 9223372036854775807 := by decide
  simp [Lit.wf, e1, e2]
set_option maxRecDepth 100000 in
theorem keyLits_key (d : Nat) (cs : List Value) (ls : List Lit) : Try.prog.keyLits (d + 2) TKey cs = some ls ↔ ∃ a b, cs = [.int .i64 a, .int .i64 b] ∧ i64In a ∧ i64In b ∧ ls = [.int .i64 a, .int .i64 b] := by
  have hc : Try.prog.cellsOf TKey = 2 := by kernel_rfl
  have hi : Try.prog.cellsOf 3 = 1 := by kernel_rfl
  have h1 : ∀ v l, Try.prog.keyLits (d + 1) 3 [v] = some l ↔ ∃ a, v = .int .i64 a ∧ i64In a ∧ l = [.int .i64 a] := by
    intro v l
    unfold Program.keyLits
    rw [Try.underlying3]
    cases v <;> simp
    rename_i q n
    constructor
    · rintro ⟨⟨rfl, h⟩, rfl⟩
      exact ⟨n, ⟨rfl, rfl⟩, i64_wf.1 h, rfl⟩
    · rintro ⟨a, ⟨rfl, rfl⟩, h, rfl⟩
      exact ⟨⟨rfl, i64_wf.2 h⟩, rfl⟩
  unfold Program.keyLits
  rw [Try.underlying29]
  simp only [hc]
  constructor
  · intro h
    split at h
    · rename_i hcs
      match cs, hcs.1 with
      | [x, y], _ =>
        simp [hi] at h
        cases hx : Try.prog.keyLits (d + 1) 3 [x] with
        | none => simp [hx] at h
        | some lx =>
          cases hy : Try.prog.keyLits (d + 1) 3 [y] with
          | none => simp [hx, hy] at h
          | some ly =>
            simp [hx, hy] at h
            obtain ⟨a, rfl, ha, rfl⟩ := (h1 x lx).1 hx
            obtain ⟨b, rfl, hb, rfl⟩ := (h1 y ly).1 hy
            subst h
            exact ⟨a, b, rfl, ha, hb, rfl⟩
    · cases h
  · rintro ⟨a, b, rfl, ha, hb, rfl⟩
    have e1 := (h1 (.int .i64 a) _).2 ⟨a, rfl, ha, rfl⟩
    have e2 := (h1 (.int .i64 b) _).2 ⟨b, rfl, hb, rfl⟩
    simp [hi, e1, e2]
set_option maxRecDepth 100000 in
theorem keyOf_key (v : Value) (l : Lit) : keyOf Try.prog 29 v = some l ↔ ∃ k : Key, (i64In k.1 ∧ i64In k.2) ∧ v = kv k ∧ l = .string (keyBytes [.int .i64 k.1, .int .i64 k.2]) := by
  have hk : Try.prog.keyType 29 = true := by kernel_rfl
  have hc : Try.prog.cellsOf 29 = 2 := by kernel_rfl
  obtain ⟨m, hm⟩ : ∃ m, Try.prog.types.size + 1 = m + 2 := ⟨Try.prog.types.size - 1, by have : 1 ≤ Try.prog.types.size := of_decide_eq_true (by kernel_rfl); omega⟩
  unfold keyOf
  rw [Try.underlying29]
  simp only [hk, Bool.true_and]
  rw [hm]
  constructor
  · intro h
    split at h
    · rename_i hf
      cases hl : Try.prog.keyLits (m + 2) 29 v.cells.toList with
      | none => rw [hl] at h; cases h
      | some ls =>
        rw [hl] at h
        obtain ⟨a, b, hcs, ha, hb, rfl⟩ := (keyLits_key m _ ls).1 hl
        refine ⟨(a, b), ⟨ha, hb⟩, ?_, ?_⟩
        · unfold Value.formed at hf
          rw [Try.underlying29] at hf
          cases v <;> simp at hf
          rename_i xs
          simp [Value.cells] at hcs
          unfold kv
          congr 1
          exact Array.ext' (by simpa using hcs)
        · simp at h
          exact h.symm
    · cases h
  · rintro ⟨k, ⟨ha, hb⟩, rfl, rfl⟩
    have e := (keyLits_key m [.int .i64 k.1, .int .i64 k.2] _).2 ⟨k.1, k.2, rfl, ha, hb, rfl⟩
    have hf : (kv k).formed Try.prog 29 = true := by
      simp [Value.formed, kv, Try.underlying29, hc]
    rw [if_pos hf]
    show (Try.prog.keyLits (m + 2) 29 [.int .i64 k.1, .int .i64 k.2]).map _ = _
    rw [e]
    rfl
theorem KL_ok : KL.Ok Try.prog where
  keyed := Keyed.of_law key_law
  key a ha := (keyOf_key _ _).2 ⟨a, ha, rfl, rfl⟩
  inv v l h := by
    obtain ⟨k, h1, h2, h3⟩ := (keyOf_key v l).1 h
    exact ⟨k, h1, h2, h3⟩
  inj a b h := by
    obtain ⟨a1, a2⟩ := a
    obtain ⟨b1, b2⟩ := b
    simp [KL, kv] at h
    rw [h.1, h.2]
theorem KO_ok : KO.Ok Try.prog where
  keyed := int_keyed Try.underlying27
  key a ha := keyOf_int_mk Try.underlying27 (by
    have e1 : IntKind.u64.min = 0 := by decide
    have e2 : IntKind.u64.max = 18446744073709551615 := by decide
    have h : a ≤ 18446744073709551615 := ha
    simp only [Lit.wf, e1, e2, Bool.and_eq_true, decide_eq_true_eq]
    omega)
  inv v l h := by
    obtain ⟨x, rfl, rfl, hw⟩ := Maps.keyOf_int_inv Try.underlying27 h
    have e1 : IntKind.u64.min = 0 := by decide
    have e2 : IntKind.u64.max = 18446744073709551615 := by decide
    simp only [Lit.wf, e1, e2, Bool.and_eq_true, decide_eq_true_eq] at hw
    have hx : ((x.toNat : Nat) : Int) = x := by omega
    exact ⟨x.toNat, show x.toNat ≤ 18446744073709551615 by omega, by show _ = Value.int .u64 _; rw [hx], by show _ = Lit.int .u64 _; rw [hx]⟩
  inj a b h := by
    simp [KO] at h
    omega
end Go.Proofs.Ytbmcdlcoojmppaa

/-
  The code's table of locks in memory: what it is, how that stays, what is read of it.
-/
namespace Go.Proofs.Ytbmcdlcoojmppaa
open Go.RowKit Go.Maps

structure Lk where
  mode : Int
  hs : List Nat
  line : List (Nat × Int)
  pop : Bool
structure Py where
  ks : List Key
  key : Key
  mode : Int
def Py.zero : Py := ⟨[], (0, 0), 0⟩
structure Tb where
  lk : Key → Option Lk
  py : Nat → Option Py
  many : Int
  kk : List Key
  oo : List Nat
def Tb.of (T : Tb) (o : Nat) : Py := (T.py o).getD Py.zero

/-- What blocks of memory are for. -/
inductive Tag where
  | tb | km | om | lk (k : Key) | hm (k : Key) | ln (k : Key) | py (o : Nat) | pm (o : Nat)
deriving DecidableEq
def ptrB (o : Option Nat) : Value := .pointer (o.map fun b => ⟨b, 0, none⟩)
def unitF {α : Type} [DecidableEq α] (ks : List α) : α → Option Value := fun a => if a ∈ ks then some (.agg #[]) else none
/-- A line's cells. -/
def wcells (ws : List (Nat × Int)) : List Value := ws.flatMap fun p => [.int .u64 (p.1 : Int), .int .i64 p.2]
/-- A line in memory. -/
def LnAt (w : World) (ob : Option Nat) (v : Value) (ws : List (Nat × Int)) (pop : Bool) : Prop :=
  (ob = none ∧ v = .slice none 0 0 ∧ ws = []) ∨ ∃ b off cap cs, ob = some b ∧ v = .slice (some ⟨b, 2 * off, none⟩) ws.length cap ∧ Blk w b TWt cs ∧ ws.length ≤ cap ∧ cap ≤ maxLen ∧ 2 * off + 2 * cap ≤ cs.size ∧ (∀ i u, (wcells ws)[i]? = some u → cs[2 * off + i]? = some u) ∧ (pop = false → off = 0 ∧ cs.size = cap * 2)
def LkAt (w : World) (ob oh ol : Option Nat) (l : Lk) : Prop :=
  ∃ b h v, ob = some b ∧ oh = some h ∧ Blk w b TLk #[.int .i64 l.mode, .map (some h), v] ∧ Mp Try.prog KO w h (unitF l.hs) l.hs ∧ LnAt w ol v l.line l.pop
def PyAt (w : World) (ob oh : Option Nat) (p : Py) : Prop :=
  ∃ b h, ob = some b ∧ oh = some h ∧ Blk w b TPy #[.map (some h), .int .i64 p.key.1, .int .i64 p.key.2, .int .i64 p.mode] ∧ Mp Try.prog KL w h (unitF p.ks) p.ks
structure TbAt (w : World) (t km om : Nat) (B : Tag → Option Nat) (T : Tb) : Prop where
  bt : B .tb = some t
  bk : B .km = some km
  bo : B .om = some om
  inj : ∀ a b n, B a = some n → B b = some n → a = b
  blk : Blk w t TTb #[.map (some km), .map (some om), .int .i64 T.many]
  keys : Mp Try.prog KL w km (fun k => (T.lk k).map fun _ => ptrB (B (.lk k))) T.kk
  owners : Mp Try.prog KO w om (fun o => (T.py o).map fun _ => ptrB (B (.py o))) T.oo
  lk : ∀ k l, T.lk k = some l → LkAt w (B (.lk k)) (B (.hm k)) (B (.ln k)) l
  py : ∀ o p, T.py o = some p → PyAt w (B (.py o)) (B (.pm o)) p
  lk0 : ∀ k, T.lk k = none → B (.lk k) = none ∧ B (.hm k) = none ∧ B (.ln k) = none
  py0 : ∀ o, T.py o = none → B (.py o) = none ∧ B (.pm o) = none

section
variable {w w' : World} {t km om : Nat} {B : Tag → Option Nat} {T : Tb}
theorem LnAt.stays {ob : Option Nat} {v : Value} {ws : List (Nat × Int)} {pop : Bool} (h : LnAt w ob v ws pop) (e : ∀ n, ob = some n → w'.heap[n]? = w.heap[n]?) : LnAt w' ob v ws pop := by
  rcases h with h | ⟨b, off, cap, cs, h1, h2, h3, r⟩
  · exact .inl h
  · exact .inr ⟨b, off, cap, cs, h1, h2, h3.stays (e b h1), r⟩
theorem LnAt.lt {ob : Option Nat} {v : Value} {ws : List (Nat × Int)} {pop : Bool} (h : LnAt w ob v ws pop) : ∀ n, ob = some n → n < w.heap.size := fun n hn => by
  rcases h with ⟨h, _⟩ | ⟨b, off, cap, cs, h1, h2, h3, r⟩
  · rw [h] at hn; cases hn
  · rw [h1] at hn; cases hn; exact h3.lt
theorem LkAt.stays {ob oh ol : Option Nat} {l : Lk} (h : LkAt w ob oh ol l) (e1 : ∀ n, ob = some n → w'.heap[n]? = w.heap[n]?) (e2 : ∀ n, oh = some n → w'.heap[n]? = w.heap[n]?) (e3 : ∀ n, ol = some n → w'.heap[n]? = w.heap[n]?) : LkAt w' ob oh ol l := by
  obtain ⟨b, h', v, h1, h2, h3, h4, h5⟩ := h
  exact ⟨b, h', v, h1, h2, h3.stays (e1 b h1), h4.stays (e2 h' h2), h5.stays e3⟩
theorem PyAt.stays {ob oh : Option Nat} {p : Py} (h : PyAt w ob oh p) (e1 : ∀ n, ob = some n → w'.heap[n]? = w.heap[n]?) (e2 : ∀ n, oh = some n → w'.heap[n]? = w.heap[n]?) : PyAt w' ob oh p := by
  obtain ⟨b, h', h1, h2, h3, h4⟩ := h
  exact ⟨b, h', h1, h2, h3.stays (e1 b h1), h4.stays (e2 h' h2)⟩
/-- Its blocks lie in memory. -/
theorem TbAt.lt (h : TbAt w t km om B T) : ∀ a n, B a = some n → n < w.heap.size := fun a n hn => by
  cases a with
  | tb => have := h.bt; rw [hn] at this; cases this; exact h.blk.lt
  | km => have := h.bk; rw [hn] at this; cases this; exact h.keys.lt
  | om => have := h.bo; rw [hn] at this; cases this; exact h.owners.lt
  | lk k =>
    cases hk : T.lk k with
    | none => rw [(h.lk0 k hk).1] at hn; cases hn
    | some l =>
      obtain ⟨b, h', v, h1, h2, h3, h4, h5⟩ := h.lk k l hk
      rw [h1] at hn; cases hn; exact h3.lt
  | hm k =>
    cases hk : T.lk k with
    | none => rw [(h.lk0 k hk).2.1] at hn; cases hn
    | some l =>
      obtain ⟨b, h', v, h1, h2, h3, h4, h5⟩ := h.lk k l hk
      rw [h2] at hn; cases hn; exact h4.lt
  | ln k =>
    cases hk : T.lk k with
    | none => rw [(h.lk0 k hk).2.2] at hn; cases hn
    | some l =>
      obtain ⟨b, h', v, h1, h2, h3, h4, h5⟩ := h.lk k l hk
      exact h5.lt n hn
  | py o =>
    cases ho : T.py o with
    | none => rw [(h.py0 o ho).1] at hn; cases hn
    | some p =>
      obtain ⟨b, h', h1, h2, h3, h4⟩ := h.py o p ho
      rw [h1] at hn; cases hn; exact h3.lt
  | pm o =>
    cases ho : T.py o with
    | none => rw [(h.py0 o ho).2] at hn; cases hn
    | some p =>
      obtain ⟨b, h', h1, h2, h3, h4⟩ := h.py o p ho
      rw [h2] at hn; cases hn; exact h4.lt
theorem TbAt.stays (h : TbAt w t km om B T) (e : ∀ a n, B a = some n → w'.heap[n]? = w.heap[n]?) : TbAt w' t km om B T :=
  ⟨h.bt, h.bk, h.bo, h.inj, h.blk.stays (e _ _ h.bt), h.keys.stays (e _ _ h.bk), h.owners.stays (e _ _ h.bo),
   fun k l hk => (h.lk k l hk).stays (fun n hn => e _ n hn) (fun n hn => e _ n hn) (fun n hn => e _ n hn), fun o p ho => (h.py o p ho).stays (fun n hn => e _ n hn) (fun n hn => e _ n hn), h.lk0, h.py0⟩
theorem TbAt.gr (h : TbAt w t km om B T) (g : Gr w w') : TbAt w' t km om B T := h.stays fun a n hn => g.block n (h.lt a n hn)
theorem TbAt.c3 (h : TbAt w t km om B T) : w.cell? ⟨t, 0, none⟩ = some (.map (some km)) ∧ w.cell? ⟨t, 1, none⟩ = some (.map (some om)) ∧ w.cell? ⟨t, 2, none⟩ = some (.int .i64 T.many) := ⟨h.blk.cell 0, h.blk.cell 1, h.blk.cell 2⟩
/-- The look-ups of a key, and of an owner. -/
theorem TbAt.look (h : TbAt w t km om B T) {k : Key} (hk : KL.dom k) : (Instr.lookup TMk (.map (some km)) (kv k) false).run Try.prog w = .ok (ptrB (B (.lk k))) w := by
  have := h.keys.look KL_ok Try.underlying45 (Try.zeroValue71 w) hk
  rw [show KL.val k = kv k from rfl] at this
  rw [this]
  cases e : T.lk k with
  | none => rw [(h.lk0 k e).1]; rfl
  | some l => rfl
theorem TbAt.lookO (h : TbAt w t km om B T) {o : Nat} (ho : KO.dom o) : (Instr.lookup TMo (.map (some om)) (.int .u64 (o : Int)) false).run Try.prog w = .ok (ptrB (B (.py o))) w := by
  have := h.owners.look KO_ok Try.underlying46 (Try.zeroValue86 w) ho
  rw [show KO.val o = .int .u64 (o : Int) from rfl] at this
  rw [this]
  cases e : T.py o with
  | none => rw [(h.py0 o e).1]; rfl
  | some l => rfl
/-- A party as a value. -/
def ofV (B : Tag → Option Nat) (T : Tb) (o : Nat) : Value := .agg #[.map (B (.pm o)), .int .i64 (T.of o).key.1, .int .i64 (T.of o).key.2, .int .i64 (T.of o).mode]

theorem results_py {fn : Func} {p : Tmp} (h : fn.results = #[.cell p TPy]) (tmps : Array Value) (w : World) (g : Nat) {a b c d : Value} (hp : tmps.getD p undef = .pointer (some ⟨g, 0, none⟩)) (hb : Blk w g TPy #[a, b, c, d]) : (results fn tmps).run Try.prog w = .ok (.agg #[a, b, c, d]) w :=
  results_cell_row h tmps w g TPy _ (0, 0) _ hp hb Try.underlying61 rfl (by kernel_rfl)
theorem map_eql (m : Nat) (w : World) : (binOp .eql TMk (.map (some m)) (.map none)).run Try.prog w = .ok (.bool false) w := by
  kernel_rfl
set_option maxRecDepth 100000 in
theorem missing_no (h : TbAt w t km om B T) : Calls Try.prog 22 #[.pointer (some ⟨t, 0, none⟩)] w fun e w' => e = .returned (.bool false) ∧ w = w' := by
  have c0 := h.c3.1
  have he : (binOp .eql TMk (.map (some km)) (.map none)).run Try.prog w = .ok (.bool false) w := map_eql km w
  clear h
  go_enter Try.func22, Try.ntmps22
  go_wp2_with fail
  go_ret
  exact ⟨rfl, rfl⟩
set_option maxRecDepth 100000 in
theorem of_any (h : TbAt w t km om B T) {o : Nat} (ho : KO.dom o) : Calls Try.prog 25 #[.pointer (some ⟨t, 0, none⟩), .int .u64 (o : Int)] w fun e w' => e = .returned (ofV B T o) ∧ Gr w w' := by
  have g1 : Gr w (w.alloc (.cells #[.map none, .int .i64 0, .int .i64 0, .int .i64 0] TPy)) := (Gr.refl w).alloc (Nat.le_refl _) _
  have h1 := h.gr g1
  have c1 := h1.c3.2.1
  have hl := h1.lookO ho
  have HM := Lib.hid (missing_no h1)
  have hb := Blk.new w TPy #[.map none, .int .i64 0, .int .i64 0, .int .i64 0]
  cases e : T.py o with
  | none =>
    obtain ⟨e1, e2⟩ := h.py0 o e
    have hv : ofV B T o = .agg #[.map none, .int .i64 0, .int .i64 0, .int .i64 0] := by
      unfold ofV Tb.of
      rw [e, e2]
      rfl
    rw [e1] at hl
    rw [hv]
    have HG := Lib.hid g1
    have HB := Lib.hid hb
    clear h h1 e1 e2 hv g1 e hb
    have hl' : (Instr.lookup TMo (.map (some om)) (.int .u64 (o : Int)) false).run Try.prog (w.alloc (.cells #[.map none, .int .i64 0, .int .i64 0, .int .i64 0] TPy)) = .ok (.pointer none) (w.alloc (.cells #[.map none, .int .i64 0, .int .i64 0, .int .i64 0] TPy)) := hl
    clear hl
    go_enter Try.func25, Try.ntmps25
    go_wp2_with fail
    refine HM.out.mono ?_
    rintro e w2 ⟨rfl, rfl⟩
    go_wp2_with fail
    exact bodyPost_ret (results_py rfl _ _ w.heap.size rfl HB.out) rfl ⟨rfl, HG.out⟩
  | some p =>
    obtain ⟨b, h', e1, e2, e3, e4⟩ := h.py o p e
    obtain ⟨b', h'', f1, f2, f3, f4⟩ := h1.py o p e
    rw [e1] at f1 hl
    cases f1
    have hv : ofV B T o = .agg #[.map (some h'), .int .i64 p.key.1, .int .i64 p.key.2, .int .i64 p.mode] := by
      unfold ofV Tb.of
      rw [e, e2]
      rfl
    rw [hv]
    have hl' : (Instr.lookup TMo (.map (some om)) (.int .u64 (o : Int)) false).run Try.prog (w.alloc (.cells #[.map none, .int .i64 0, .int .i64 0, .int .i64 0] TPy)) = .ok (.pointer (some ⟨b, 0, none⟩)) (w.alloc (.cells #[.map none, .int .i64 0, .int .i64 0, .int .i64 0] TPy)) := hl
    have f3' := e3.alloc (.cells #[.map none, .int .i64 0, .int .i64 0, .int .i64 0] TPy)
    have k0 := f3'.cell 0
    have k1 := f3'.cell 1
    have k2 := f3'.cell 2
    have k3 := f3'.cell 3
    obtain ⟨K1, hK1⟩ : ∃ x, x = p.key.1 := ⟨_, rfl⟩
    obtain ⟨K2, hK2⟩ : ∃ x, x = p.key.2 := ⟨_, rfl⟩
    obtain ⟨M, hM⟩ : ∃ x, x = p.mode := ⟨_, rfl⟩
    rw [← hK1, ← hK2, ← hM]
    rw [← hK1] at k1
    rw [← hK2] at k2
    rw [← hM] at k3
    have HG := Lib.hid g1
    have HB := Lib.hid hb
    clear h h1 e1 e2 hv g1 e hb hl e3 e4 f2 f3 f4 f3' hK1 hK2 hM
    simp at k0 k1 k2 k3
    go_enter Try.func25, Try.ntmps25
    go_wp2_with fail
    refine HM.out.mono ?_
    rintro e w2 ⟨rfl, rfl⟩
    go_wp2_with fail
    exact bodyPost_ret (results_py rfl _ _ w.heap.size rfl (Blk.new _ _ _)) rfl ⟨rfl, (Gr.refl w).alloc (Nat.le_refl _) _⟩
end
end Go.Proofs.Ytbmcdlcoojmppaa

/-
  The code's table of locks: has, fits, may, Holds, Len.
-/
namespace Go.Proofs.Ytbmcdlcoojmppaa
open Go.RowKit Go.Maps

/-- A set of keys, perhaps a nil one. -/
def HsAt (w : World) (h : Option Nat) (ks : List Key) : Prop := (h = none ∧ ks = []) ∨ ∃ n, h = some n ∧ Mp Try.prog KL w n (unitF ks) ks
theorem HsAt.gr {w w' : World} {h : Option Nat} {ks : List Key} (H : HsAt w h ks) (g : Gr w w') : HsAt w' h ks := by
  rcases H with H | ⟨n, h1, h2⟩
  · exact .inl H
  · exact .inr ⟨n, h1, h2.stays (g.block n h2.lt)⟩
theorem HsAt.look {w : World} {h : Option Nat} {ks : List Key} (H : HsAt w h ks) {k : Key} (hk : KL.dom k) : (Instr.lookup TMs (.map h) (kv k) true).run Try.prog w = .ok (.tuple #[.agg #[], .bool (decide (k ∈ ks))]) w := by
  rcases H with ⟨rfl, rfl⟩ | ⟨n, rfl, h2⟩
  · have := Maps.look_nil true KL_ok.keyed (t := TMs) Try.underlying59 (w := w) (Try.zeroValue88 w) (KL_ok.key k hk)
    rw [show KL.val k = kv k from rfl] at this
    simpa using this
  · have := h2.look_ok KL_ok (t := TMs) Try.underlying59 (Try.zeroValue88 w) hk
    rw [show KL.val k = kv k from rfl] at this
    rw [this]
    unfold unitF
    by_cases e : k ∈ ks
    · simp [e]
    · simp [e]
theorem TbAt.hs {w : World} {t km om : Nat} {B : Tag → Option Nat} {T : Tb} (h : TbAt w t km om B T) (o : Nat) : HsAt w (B (.pm o)) (T.of o).ks := by
  unfold Tb.of
  cases e : T.py o with
  | none => exact .inl ⟨(h.py0 o e).2, rfl⟩
  | some p =>
    obtain ⟨b, h', h1, h2, h3, h4⟩ := h.py o p e
    exact .inr ⟨h', h2, h4⟩
set_option maxRecDepth 100000 in
theorem has_any (w : World) {h : Option Nat} {ks : List Key} {a b m : Value} (ha : a.cells = #[a]) (hb : b.cells = #[b]) (hm : m.cells = #[m]) (H : HsAt w h ks) {k : Key} (hk : KL.dom k) :
    Calls Try.prog 30 #[.agg #[.map h, a, b, m], kv k] w fun e w' => e = .returned (.bool (decide (k ∈ ks))) ∧ Gr w w' := by
  have g1 : Gr w ((w.alloc (.cells #[.map h, a, b, m] TPy)).alloc (.cells #[.int .i64 k.1, .int .i64 k.2] TKey)) := ((Gr.refl w).alloc (Nat.le_refl _) _).alloc (by simp) _
  have hl := (H.gr g1).look hk
  obtain ⟨X, hX⟩ : ∃ X, X = decide (k ∈ ks) := ⟨_, rfl⟩
  rw [← hX] at hl ⊢
  unfold kv at hl ⊢
  have HG := Lib.hid g1
  clear H hX g1 hk
  go_enter Try.func30, Try.ntmps30
  go_wp2_with fail
  go_ret
  exact ⟨rfl, HG.out.alloc (Nat.le_trans (by simp; omega) (Nat.le_refl _)) _⟩
/-- Two modes go together. -/
def tog (a b : Int) : Bool := decide (a = 1) && decide (b = 1)
def Lk.fits (l : Lk) (o : Nat) (m : Int) : Bool := decide ((l.hs.length : Int) - (if o ∈ l.hs then 1 else 0) = 0) || tog m l.mode
def Tb.may (T : Tb) (o : Nat) (k : Key) (m : Int) : Bool :=
  match T.lk k with
  | none => true
  | some l => l.fits o m && (decide (k ∈ (T.of o).ks) || decide ((l.line.length : Int) = 0))
set_option maxRecDepth 100000 in
theorem together_any (a b : Int) (w : World) : Calls Try.prog 31 #[.int .i64 a, .int .i64 b] w fun e w' => e = .returned (.bool (tog a b)) ∧ w = w' := by
  by_cases ha : a = 1
  · by_cases hb : b = 1
    · subst ha hb
      go_enter Try.func31, Try.ntmps31
      go_wp2
      go_ret
      exact ⟨rfl, rfl⟩
    · subst ha
      have e : (b == 1) = false := beq_eq_false_iff_ne.2 hb
      have hv : tog 1 b = false := by unfold tog; simp [hb]
      rw [hv]
      clear hb hv
      go_enter Try.func31, Try.ntmps31
      go_wp2
      go_ret
      exact ⟨rfl, rfl⟩
  · have e : (a == 1) = false := beq_eq_false_iff_ne.2 ha
    have hv : tog a b = false := by unfold tog; simp [ha]
    rw [hv]
    clear ha hv
    go_enter Try.func31, Try.ntmps31
    go_wp2
    go_ret
    exact ⟨rfl, rfl⟩
section
variable {w : World} {t km om : Nat} {B : Tag → Option Nat} {T : Tb}
theorem holders_look {w : World} {n : Nat} {hs : List Nat} (H : Mp Try.prog KO w n (unitF hs) hs) {o : Nat} (ho : KO.dom o) : (Instr.lookup TMh (.map (some n)) (.int .u64 (o : Int)) true).run Try.prog w = .ok (.tuple #[.agg #[], .bool (decide (o ∈ hs))]) w := by
  have := H.look_ok KO_ok (t := TMh) Try.underlying67 (Try.zeroValue88 w) ho
  rw [show KO.val o = .int .u64 (o : Int) from rfl] at this
  rw [this]
  unfold unitF
  by_cases e : o ∈ hs
  · simp [e]
  · simp [e]
set_option maxRecDepth 100000 in
theorem fits_any {b n : Nat} {v : Value} {l : Lk} (h1 : Blk w b TLk #[.int .i64 l.mode, .map (some n), v]) (h2 : Mp Try.prog KO w n (unitF l.hs) l.hs) (hb : l.hs.length ≤ 1000000000) {o : Nat} (ho : KO.dom o) (m : Int) :
    Calls Try.prog 42 #[.pointer (some ⟨b, 0, none⟩), .int .u64 (o : Int), .int .i64 m] w fun e w' => e = .returned (.bool (l.fits o m)) ∧ Gr w w' := by
  have c0 := h1.cell 0
  have c1 := h1.cell 1
  have hl := holders_look h2 ho
  have hn : (Builtin.len_ #[TMh] TI #[.map (some n)]).run Try.prog w = .ok (.int .i64 (l.hs.length : Int)) w := h2.len KO_ok Try.underlying67 TI
  obtain ⟨L, hL⟩ : ∃ L, L = l.hs.length := ⟨_, rfl⟩
  obtain ⟨M, hM⟩ : ∃ M, M = l.mode := ⟨_, rfl⟩
  unfold Lk.fits
  rw [← hL] at hn hb ⊢
  rw [← hM] at c0 ⊢
  have HT := Lib.hid (fun W => together_any m M W)
  simp at c0 c1
  have d0 := (h1.alloc (.cells #[] 88)).cell 0
  rw [← hM] at d0
  simp at d0
  have g1 : Gr w (w.alloc (.cells #[] 88)) := (Gr.refl w).alloc (Nat.le_refl _) _
  have HG := Lib.hid g1
  by_cases e : o ∈ l.hs
  · rw [decide_eq_true e] at hl
    simp only [e, if_true]
    clear e hL hM h1 h2 g1
    by_cases e1 : ((L : Int) - 1 = 0)
    · have e2 : (((L : Int) - 1) == 0) = true := beq_iff_eq.2 e1
      rw [decide_eq_true e1, Bool.true_or]
      clear e1
      go_enter Try.func42, Try.ntmps42
      go_wp2_with fail
      go_ret
      exact ⟨rfl, HG.out⟩
    · have e2 : (((L : Int) - 1) == 0) = false := beq_eq_false_iff_ne.2 e1
      rw [decide_eq_false e1, Bool.false_or]
      clear e1
      go_enter Try.func42, Try.ntmps42
      go_wp2_with fail
      refine (HT.out _).mono ?_
      rintro e w' ⟨rfl, rfl⟩
      go_wp2_with fail
      go_ret
      exact ⟨rfl, HG.out⟩
  · rw [decide_eq_false e] at hl
    simp only [e, if_false]
    clear e hL hM h1 h2 g1
    by_cases e1 : ((L : Int) - 0 = 0)
    · have e2 : ((L : Int) == 0) = true := beq_iff_eq.2 (by omega)
      rw [decide_eq_true e1, Bool.true_or]
      clear e1
      go_enter Try.func42, Try.ntmps42
      go_wp2_with fail
      go_ret
      exact ⟨rfl, HG.out⟩
    · have e2 : ((L : Int) == 0) = false := beq_eq_false_iff_ne.2 (by omega)
      rw [decide_eq_false e1, Bool.false_or]
      clear e1
      go_enter Try.func42, Try.ntmps42
      go_wp2_with fail
      refine (HT.out _).mono ?_
      rintro e w' ⟨rfl, rfl⟩
      go_wp2_with fail
      go_ret
      exact ⟨rfl, HG.out⟩
structure Tb.Ok (T : Tb) : Prop where
  holds : ∀ o k, k ∈ (T.of o).ks → ∃ l, T.lk k = some l ∧ o ∈ l.hs
  hs : ∀ k l, T.lk k = some l → l.hs.length ≤ 1000000000
  line : ∀ k l, T.lk k = some l → l.line.length ≤ 1000000000
  key : ∀ o, KL.dom (T.of o).key
end
end Go.Proofs.Ytbmcdlcoojmppaa

