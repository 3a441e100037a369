/-
  Texts, put together: Wal6 Wal7 Do1 Do2.
-/
import Derived.Test.YtaemmknijmhnoaaGreatK8
import Derived.Test.YtaemmknijmhnoaaGreatK19
set_option linter.unusedVariables false
set_option linter.unusedSimpArgs false
/-
  The log as the mathematics has it; records are laid behind its end.
-/
namespace Go.Proofs.YtaemmknijmhnoaaGreat
open Go.RowKit Go.Maps

theorem wpList_app_txt {w : World} {ops : Array Oper} {rest : List Oper} {o : Oper} {a : Act} {Q : Exit → Act → World → Prop} (hgd : o.guard = none) (s x : Operand)
    (ho : o.op = .call { callee := .builtin .append, args := #[s, x], argTypes := #[TBs, TBs] }) {q : Option Addr} {m c : Nat} {xs : List Int} (hs : a.eval s = .slice q m c) (h : Txt w q m c xs)
    {ad : Addr} {k d : Nat} {ys : List Int} (hx : a.eval x = .slice (some ad) k d) (hy : Byt w (some ad) k d ys) (hk : 0 < k) (hb : m + k ≤ 140737488355328)
    (hQ : ∀ q' c' w', Txt w' q' (m + k) c' (xs ++ ys) → TxtChg q q' w w' → wpList Tryz.prog ops Q rest (a.put o.dst (.slice q' (m + k) c')) w') : wpList Tryz.prog ops Q (o :: rest) a w := by
  obtain ⟨q', c', w', hrun, h1, h2⟩ := run_app_txt (ty := o.type) h hy hk hb
  refine wpList_plain hgd fun K hK => ?_
  unfold Oper.wp
  simp [execOp, ho, resolve, invoke, builtin, hs, hx, hrun, Result.andThen]
  exact hK _ _ (hQ q' c' w' h1 h2)

theorem Txt.gr {w w' : World} {q : Option Addr} {m c : Nat} {xs : List Int} (h : Txt w q m c xs) (g : Gr w w') : Txt w' q m c xs := ⟨h.1.kept g, h.2.imp id (fun ho => ho.below' g)⟩
theorem Byt.stays {w w' : World} {p : Option Addr} {n c : Nat} {xs : List Int} (h : Byt w p n c xs) (e : ∀ y, p = some y → w'.heap[y.block]? = w.heap[y.block]?) : Byt w' p n c xs :=
  ⟨h.len, h.cap, h.most, fun hn => by
    obtain ⟨b, o, rfl, hc⟩ := h.lies.at hn
    refine ⟨b, o, rfl, fun i hi => ?_⟩
    rw [← hc i hi]
    unfold World.cell?
    rw [e _ rfl], h.nilCap, h.small⟩
theorem OwnB.stays {w w' : World} {base tB : Nat} {p : Option Addr} {n c : Nat} {xs : List Int} (h : OwnB w base tB (.slice p n c) xs) (e : ∀ y, p = some y → w'.heap[y.block]? = w.heap[y.block]?) : OwnB w' base tB (.slice p n c) xs := by
  refine ⟨⟨h.row.1, ?_⟩, h.small⟩
  rcases h.row.2 with h2 | ⟨g, cap, cur, h0, hb, hg, r⟩
  · exact .inl h2
  · refine .inr ⟨g, cap, cur, h0, hb, ?_, r⟩
    simp only [Value.slice.injEq] at h0
    obtain ⟨rfl, _⟩ := h0
    exact (e _ rfl).trans hg
theorem Txt.stays {w w' : World} {q : Option Addr} {m c : Nat} {xs : List Int} (h : Txt w q m c xs) (e : ∀ y, q = some y → w'.heap[y.block]? = w.heap[y.block]?) : Txt w' q m c xs := ⟨h.1.stays e, h.2.imp id (fun ho => ho.stays e)⟩
theorem Txt.lt {w : World} {q : Option Addr} {m c : Nat} {xs : List Int} (h : Txt w q m c xs) (hm : 0 < m) : ∀ y, q = some y → y.block < w.heap.size := fun y hy => by
  obtain ⟨b, o, e, hc⟩ := h.1.at hm
  rw [hy] at e
  cases e
  exact blk_lt (hc 0 hm)

/-- The log. -/
structure Lg where
  n : Int
  l : Int
  g : Int
  epoch : Nat
  tail : Nat
  lasts : Nat
  txt : List Int
  rsv : Int
  begun : Bool
/-- Where it ends. -/
def Lg.fin (L : Lg) : Nat := L.lasts - L.lasts % 232 + L.txt.length
structure Lg.Ok (L : Lg) : Prop where
  may : mayL L.n L.l L.g = true
  e0 : 1 ≤ L.epoch
  e1 : L.epoch ≤ 4611686018427387904
  tl : L.tail ≤ L.lasts
  has : L.lasts % 232 ≤ L.txt.length
  most : L.fin ≤ 9000000000000000000
  room : L.fin ≤ L.tail - L.tail % 232 + 232 * L.l.toNat
  r0 : 0 ≤ L.rsv
  r1 : L.rsv ≤ 60000
theorem Lg.Ok.l1 {L : Lg} (h : L.Ok) : 16 ≤ L.l ∧ L.l ≤ 256 := by have := may_in h.may; omega
theorem Lg.Ok.near {L : Lg} (h : L.Ok) : L.tail ≤ L.fin ∧ L.fin ≤ L.tail + 100000 ∧ L.lasts ≤ L.fin := by
  have h1 := h.tl
  have h2 := h.has
  have h3 := h.room
  have h4 := h.l1
  unfold Lg.fin at *
  omega
theorem Lg.Ok.len {L : Lg} (h : L.Ok) : L.lasts + L.txt.length ≤ 9100000000000000000 ∧ L.txt.length ≤ 100300 := by
  have h1 := h.most
  have h3 := h.near
  have h4 := h.tl
  unfold Lg.fin at *
  omega
/-- The blocks that are the log's. -/
def lgS (b : Nat) (q : Option Addr) (k : Nat) : Prop := k = b ∨ ∃ y, q = some y ∧ y.block = k
structure LgAt (w : World) (b : Nat) (p : Value) (q : Option Addr) (m c : Nat) (L : Lg) : Prop where
  blk : Blk w b TLg #[p, .int .i64 L.n, .int .i64 L.l, .int .i64 L.g, .int .u64 L.epoch, .int .u64 L.tail, .int .u64 L.lasts, .slice q m c, .int .i64 L.rsv, .bool L.begun]
  txt : Txt w q m c L.txt
  apart : ∀ y, q = some y → y.block ≠ b
  low : ∀ k, lgS b q k → k < w.heap.size
  dsk : ∃ d, p = .pointer (some ⟨d, 0, none⟩)
section
variable {w w' : World} {b : Nat} {p : Value} {q : Option Addr} {m c : Nat} {L : Lg}
theorem LgAt.gr (h : LgAt w b p q m c L) (g : Gr w w') : LgAt w' b p q m c L := ⟨h.blk.gr g, h.txt.gr g, h.apart, fun k hk => Nat.lt_of_lt_of_le (h.low k hk) g.size, h.dsk⟩
theorem LgAt.mlen (h : LgAt w b p q m c L) : m = L.txt.length := h.txt.1.len.symm
theorem LgAt.fin (h : LgAt w b p q m c L) : L.lasts - L.lasts % 232 + m = L.fin := by rw [h.mlen]; rfl
theorem LgAt.End (h : LgAt w b p q m c L) (ok : L.Ok) : Calls Tryz.prog 37 #[.pointer (some ⟨b, 0, none⟩)] w (RetU L.fin w) := by
  obtain ⟨d, rfl⟩ := h.dsk
  have h1 := wEnd_any d b _ _ _ _ _ _ _ _ _ _ _ _ w h.blk rfl (by have := ok.len; have := h.mlen; omega)
  rwa [h.fin] at h1
theorem LgAt.Free (h : LgAt w b p q m c L) (ok : L.Ok) : Calls Tryz.prog 73 #[.pointer (some ⟨b, 0, none⟩)] w (RetI (freeR L.l L.rsv L.tail L.fin) w) := by
  obtain ⟨d, rfl⟩ := h.dsk
  have hn := ok.near
  have hf := h.fin
  have h1 := wFree_any d b _ _ _ _ _ _ _ _ _ _ _ _ w h.blk rfl (by have := ok.len; have := h.mlen; omega) (by have := ok.l1; omega) ⟨ok.r0, by have := ok.r1; omega⟩ (by rw [hf]; exact hn.1) (by rw [hf]; exact hn.2.1)
  rwa [hf] at h1
end

/-- The record's cells. -/
def rcv (r : Rc) (pb : Option Addr) (nb cb : Nat) (pa : Option Addr) (na ca : Nat) : Array Value := #[.int .i64 r.k, .int .u64 r.t, .int .u64 r.p, .int .u64 r.x, .int .i64 r.g, .int .i64 r.o, .slice pb nb cb, .slice pa na ca]
def RetLayE (x : Int) (w : World) (e : Ending) (w' : World) : Prop := e = .returned (.tuple #[.int .u64 0, .int .i64 x]) ∧ Gr w w'
/-- It was laid. -/
def Lg.more (L : Lg) (ys : List Int) : Lg := { L with txt := L.txt ++ ys }
def RetLay (b : Nat) (p : Value) (q : Option Addr) (L : Lg) (ys : List Int) (w : World) (e : Ending) (w' : World) : Prop :=
  ∃ q' m' c', e = .returned (.tuple #[.int .u64 (L.fin : Int), .int .i64 0]) ∧ LgAt w' b p q' m' c' (L.more ys) ∧ Upd (lgS b q) (lgS b q') w w'
set_option maxRecDepth 100000 in
set_option maxHeartbeats 1000000 in
theorem wlay_any {b : Nat} {p : Value} {q : Option Addr} {m c : Nat} {L : Lg} (w : World) (h : LgAt w b p q m c L) (ok : L.Ok) (r : Rc) (hi : r.In) (pb : Option Addr) (nb cb : Nat) (pa : Option Addr) (na ca : Nat) (hb : Byt w pb nb cb r.b) (ha : Byt w pa na ca r.a) (room : Int) (hfit : mayR r = true) (hroom : (35 + r.b.length + r.a.length : Int) ≤ room) :
    Calls Tryz.prog 72 #[.pointer (some ⟨b, 0, none⟩), .agg (rcv r pb nb cb pa na ca), .int .i64 room] w (RetLay b p q L (recL r L.fin) w) := by
  obtain ⟨W1, hW1⟩ : ∃ W1, W1 = w.alloc (.cells (rcv r pb nb cb pa na ca) TR) := ⟨_, rfl⟩
  have HB1 : Hid (Blk W1 w.heap.size TR (rcv r pb nb cb pa na ca) ∧ Gr w W1) := Lib.hid (by rw [hW1]; exact ⟨Blk.new _ _ _, Gr.new _ _⟩)
  have HE := Lib.hid (LgAt.End (h.gr HB1.out.2) ok)
  have HH := Lib.hid h
  have HBy := Lib.hid (fun W (g : Gr w W) => bytes_any r pb nb cb pa na ca L.fin W hi (hb.kept g) (ha.kept g) (by have := ok.most; omega))
  have HW1 : Hid (w.alloc (.cells (rcv r pb nb cb pa na ca) 100) = W1) := Lib.hid hW1.symm
  obtain ⟨F, hF⟩ : ∃ F, F = L.fin := ⟨_, rfl⟩
  have HF := Lib.hid hF
  rw [← hF] at HE HBy
  clear h hb ha hW1 hF
  unfold rcv at HW1 HB1 ⊢
  go_enter Tryz.func72, Tryz.ntmps72
  go_wp2_with fail
  rw [HW1.out]
  refine HE.out.mono ?_
  rintro e W2 ⟨rfl, g2⟩
  obtain ⟨c0, c1, c2, c3, c4, c5, c6, c7⟩ := (HB1.out.1.gr g2).c8
  have HG2 := Lib.hid (Gr.trans HB1.out.2 g2)
  clear g2
  go_wp2_with fail
  refine (HBy.out W2 HG2.out).mono ?_
  rintro e W3 ⟨q3, n3, d3, rfl, hy3, g3, f3⟩
  obtain ⟨n, hn⟩ : ∃ n, n = 35 + r.b.length + r.a.length := ⟨_, rfl⟩
  have hy4 : Byt W3 q3 n3 d3 (recL r F) := by have h := hy3; unfold bytesL at h; rw [if_pos hfit] at h; exact h
  have hn3 : n3 = n := by rw [← hy4.len, recL_len, hn]
  subst hn3
  have hE0 : bytesE r = 0 := by unfold bytesE; rw [if_pos hfit]
  rw [hE0]
  have hr2 : ¬ room < (n3 : Int) := by omega
  have hr3 : (n3 : Int) ≤ 9223372036854775807 := by have := hy4.cap; have := hy4.most; unfold maxLen at *; omega
  have hn0 : 35 ≤ n3 := by omega
  have HG3 := Lib.hid (Gr.trans HG2.out g3)
  obtain ⟨b3, o3, rfl, _⟩ := hy4.at (by omega)
  have HY := Lib.hid hy4
  have HL := Lib.hid (HH.out.gr HG3.out)
  have c7 := HL.out.blk.c10.2.2.2.2.2.2.2.1
  have hml : m + n3 ≤ 140737488355328 := by
    have h1 := ok.len.2
    have h2 := HH.out.mlen
    have h3 := (mayR_fits hfit).nb1
    have h4 := (mayR_fits hfit).na
    omega
  clear hy3 hy4 hE0 hn hroom HBy HE g3 f3 HB1 HW1 HH
  go_wp2_with (at_builtin; refine wpList_app_txt rfl _ _ rfl rfl HL.out.txt rfl HY.out (by omega) hml ?_; intro q4 d4 W4 ht4 hu4; have HB4 := Lib.hid (HL.out.blk.stays (hu4.block b HL.out.blk.lt (fun hk => by obtain ⟨y, hy, e⟩ := hk; exact HL.out.apart y hy e))); have f7 := HB4.out.frozen 7; have k7 := HB4.out.c10.2.2.2.2.2.2.2.1)
  have HT4 := Lib.hid ht4
  have HU4 := Lib.hid hu4
  clear ht4 hu4 f7 k7 c0 c1 c2 c3 c4 c5 c6 c7
  refine bodyPost_ret_by (P := Tryz.prog) (v := .tuple #[.int .u64 (F : Int), .int .i64 0]) (by simp [results, Tryz.results72]) rfl ?_
  rw [HF.out]
  have hq4 : ∀ y, q4 = some y → y.block ≠ b := fun y hy e => by
    rcases HU4.out.fresh y.block ⟨y, hy, rfl⟩ with ⟨z, hz, e2⟩ | h2
    · exact HL.out.apart z hz (e2.trans e)
    · have := HL.out.blk.lt; omega
  have hoc := Only.cell b 7 W4 (.slice q4 (m + n3) d4)
  have hlt4 : ∀ y, q4 = some y → y.block < W4.heap.size := fun y hy => HT4.out.lt (by omega) y hy
  refine ⟨q4, m + n3, d4, rfl, ⟨HB4.out.set 7 _, ?_, hq4, fun k hk => ?_, HL.out.dsk⟩, ⟨?_, ?_, ?_, ?_, fun k hk hn => ?_, fun k hk => ?_⟩⟩
  · have h1 : Txt (W4.setCell ⟨b, 7, none⟩ (.slice q4 (m + n3) d4)) q4 (m + n3) d4 (L.txt ++ recL r F) := HT4.out.stays (fun y hy => hoc.block _ (hq4 y hy))
    rw [HF.out] at h1
    exact h1
  · rw [hoc.size]
    rcases hk with rfl | ⟨y, hy, rfl⟩
    · exact HB4.out.lt
    · exact hlt4 y hy
  · exact hoc.os.trans (HU4.out.os.trans HG3.out.os)
  · exact hoc.tape.trans (HU4.out.tape.trans HG3.out.tape)
  · exact hoc.output.trans (HU4.out.output.trans HG3.out.output)
  · rw [hoc.size]; exact Nat.le_trans HG3.out.size HU4.out.size
  · have hkb : k ≠ b := fun e => hn (.inl e)
    exact (hoc.block k hkb).trans ((HU4.out.block k (Nat.lt_of_lt_of_le hk HG3.out.size) (fun h => hn (.inr h))).trans (HG3.out.block k hk))
  · rcases hk with rfl | hk
    · exact .inl (.inl rfl)
    · rcases HU4.out.fresh k hk with h | h
      · exact .inl (.inr h)
      · exact .inr (Nat.le_trans HG3.out.size h)

end Go.Proofs.YtaemmknijmhnoaaGreat

/-
  Append; Use.
-/
namespace Go.Proofs.YtaemmknijmhnoaaGreat
open Go.RowKit Go.Maps

/-- Of a region with one operation that turns the world: ahead of it worlds have grown, behind it Fin holds. -/
def InC (z : Nat) (w0 : World) (Fin : World → Prop) (l : Nat → Bool) (W : World) : Prop := (l z = false → Gr w0 W) ∧ (l z = true → Fin W)
theorem InC.pre {z : Nat} {w0 W : World} {Fin : World → Prop} {l : Nat → Bool} (h : InC z w0 Fin l W) (hl : l z = false) : Gr w0 W := h.1 hl
theorem InC.post {z : Nat} {w0 W : World} {Fin : World → Prop} {l : Nat → Bool} (h : InC z w0 Fin l W) (hl : l z = true) : Fin W := h.2 hl
theorem InC.other {z : Nat} {w0 W : World} {Fin : World → Prop} {l : Nat → Bool} (h : InC z w0 Fin l W) (i : Nat) (hi : z ≠ i) : InC z w0 Fin (Flow.upd l i) W := by
  unfold InC; rw [Flow.upd_other l hi]; exact h
theorem InC.grow {z : Nat} {w0 W W' : World} {Fin : World → Prop} {l : Nat → Bool} (h : InC z w0 Fin l W) (hl : l z = false) (g : Gr W W') (i : Nat) (hi : z ≠ i) : InC z w0 Fin (Flow.upd l i) W' := by
  unfold InC; rw [Flow.upd_other l hi]; exact ⟨fun _ => Gr.trans (h.1 hl) g, fun e => by rw [hl] at e; cases e⟩
theorem InC.fin {z : Nat} {w0 W' : World} {Fin : World → Prop} {l : Nat → Bool} (h : Fin W') : InC z w0 Fin (Flow.upd l z) W' := by
  unfold InC; rw [Flow.upd_same]; exact ⟨(fun e => by cases e), fun _ => h⟩
theorem InC.start {z : Nat} {w0 W : World} {Fin : World → Prop} {l : Nat → Bool} (h : l z = false) (g : Gr w0 W) : InC z w0 Fin l W := ⟨fun _ => g, fun e => by rw [h] at e; cases e⟩
def SlAp (b : Nat) (k : Int) (t : Nat) (p : Nat) (x : Nat) (g : Int) (o : Int) (pb : Option Addr) (nb : Nat) (cb : Nat) (pa : Option Addr) (na : Nat) (ca : Nat) (A : Nat) (E : Int) (F : Int) (slot : Nat) (v : Value) (_ : World) : Prop :=
  match slot with
  | 4 => v = .int .u64 (A : Int)
  | 5 => v = .int .i64 E
  | 8 => v = .pointer (some ⟨b, 0, none⟩)
  | 9 => v = .agg #[.int .i64 k, .int .u64 t, .int .u64 p, .int .u64 x, .int .i64 g, .int .i64 o, .slice pb nb cb, .slice pa na ca]
  | 10 => v = .pointer (some ⟨b, 0, none⟩)
  | 11 => v = .int .i64 F
  | 12 => v = .tuple #[.int .u64 (A : Int), .int .i64 E]
  | 13 => v = .int .u64 (A : Int)
  | 14 => v = .int .i64 E
  | _ => True
set_option maxRecDepth 100000 in
set_option maxHeartbeats 1000000 in
theorem append_core (b d : Nat) (k : Int) (t p x : Nat) (g o : Int) (pb : Option Addr) (nb cb : Nat) (pa : Option Addr) (na ca : Nat) (A : Nat) (E F : Int) (Fin : World → Prop) (w : World) (hm : Hid (∀ W, Gr w W → Calls Tryz.prog 50 #[.pointer (some ⟨b, 0, none⟩)] W fun e w' => e = .returned (.bool false) ∧ W = w'))
    (HFr : Hid (∀ W, Gr w W → Calls Tryz.prog 73 #[.pointer (some ⟨b, 0, none⟩)] W fun e w' => e = .returned (.int .i64 F) ∧ Gr W w'))
    (HLY : Hid (∀ W, Gr w W → Calls Tryz.prog 72 #[.pointer (some ⟨b, 0, none⟩), .agg #[.int .i64 k, .int .u64 t, .int .u64 p, .int .u64 x, .int .i64 g, .int .i64 o, .slice pb nb cb, .slice pa na ca], .int .i64 F] W fun e w' => e = .returned (.tuple #[.int .u64 (A : Int), .int .i64 E]) ∧ Fin w')) :
    Calls Tryz.prog 43 #[.pointer (some ⟨b, 0, none⟩), .agg #[.int .i64 k, .int .u64 t, .int .u64 p, .int .u64 x, .int .i64 g, .int .i64 o, .slice pb nb cb, .slice pa na ca]] w fun e w' => e = .returned (.tuple #[.int .u64 (A : Int), .int .i64 E]) ∧ Fin w' := by
  obtain ⟨W1, hW1⟩ : ∃ W1, W1 = w.alloc (.cells #[.int .i64 k, .int .u64 t, .int .u64 p, .int .u64 x, .int .i64 g, .int .i64 o, .slice pb nb cb, .slice pa na ca] TR) := ⟨_, rfl⟩
  have HB1 : Hid (Blk W1 w.heap.size TR #[.int .i64 k, .int .u64 t, .int .u64 p, .int .u64 x, .int .i64 g, .int .i64 o, .slice pb nb cb, .slice pa na ca] ∧ Gr w W1) := Lib.hid (by rw [hW1]; exact ⟨Blk.new _ _ _, Gr.new _ _⟩)
  have hW1' : w.alloc (.cells #[.int .i64 k, .int .u64 t, .int .u64 p, .int .u64 x, .int .i64 g, .int .i64 o, .slice pb nb cb, .slice pa na ca] 100) = W1 := hW1.symm
  have HW1 := Lib.hid hW1'
  have HLY' := Lib.hid (fun W (gr : Gr W1 W) => HLY.out W (Gr.trans HB1.out.2 gr))
  have HFr' := Lib.hid (fun W (gr : Gr W1 W) => HFr.out W (Gr.trans HB1.out.2 gr))
  have HM := Lib.hid (hm.out W1 HB1.out.2)
  clear hW1 hW1' HLY HFr hm
  have HLY := HLY'
  have HFr := HFr'
  clear HLY' HFr'
  go_enter Tryz.func43, Tryz.ntmps43
  go_wp2_with fail
  rw [HW1.out]
  refine HM.out.mono ?_
  rintro e W2 ⟨rfl, rfl⟩
  go_wp2_with fail
  refine Flow.regionS [4, 5] 20 (SlAp b k t p x g o pb nb cb pa na ca A E F) (InC 4 W1 (Fin)) (fun _ _ _ => True) (by kernel_rfl) (by kernel_rfl) (fun _ _ _ _ _ _ h _ => h) (InC.start (by rfl) (Gr.refl _).drew) ?steps ?fin
  case steps =>
    refine Flow.StepsS.cons (fun l a W hfr hun hup hdn hinv hdep K hK => ?_) ?_
    · have s0 : a.tmps.getD 0 undef = .pointer (some ⟨b, 0, none⟩) := hfr.at 0 (by kernel_rfl)
      have t0 : a.tmps[0]?.getD undef = .pointer (some ⟨b, 0, none⟩) := by simpa using s0
      rw [if_pos (Flow.wanted_none rfl)]
      clear hfr hdep hdn
      go_simp
      exact hK _ _ True.intro (hinv.other 0 (by decide)) (fun d hd => by cases hd; trivial)
    refine Flow.StepsS.cons (fun l a W hfr hun hup hdn hinv hdep K hK => ?_) ?_
    · have s3 : a.tmps.getD 3 undef = .pointer (some ⟨w.heap.size, 0, none⟩) := hfr.at 3 (by kernel_rfl)
      have t3 : a.tmps[3]?.getD undef = .pointer (some ⟨w.heap.size, 0, none⟩) := by simpa using s3
      rw [if_pos (Flow.wanted_none rfl)]
      clear hfr hdep hdn
      have hlz : l 4 = false := hup 4 (by decide) (by kernel_rfl)
      have hin := hinv.pre hlz
      obtain ⟨c0, c1, c2, c3, c4, c5, c6, c7⟩ := (HB1.out.1.gr hin).c8
      go_simp
      exact hK _ _ True.intro (hinv.other 1 (by decide)) (fun d hd => by cases hd; trivial)
    refine Flow.StepsS.cons (fun l a W hfr hun hup hdn hinv hdep K hK => ?_) ?_
    · have s0 : a.tmps.getD 0 undef = .pointer (some ⟨b, 0, none⟩) := hfr.at 0 (by kernel_rfl)
      have t0 : a.tmps[0]?.getD undef = .pointer (some ⟨b, 0, none⟩) := by simpa using s0
      rw [if_pos (Flow.wanted_none rfl)]
      clear hfr hdep hdn
      go_simp
      exact hK _ _ True.intro (hinv.other 2 (by decide)) (fun d hd => by cases hd; trivial)
    refine Flow.StepsS.cons (fun l a W hfr hun hup hdn hinv hdep K hK => ?_) ?_
    · have s10 : a.tmps.getD 10 undef = .pointer (some ⟨b, 0, none⟩) := hdep 10 (by kernel_rfl)
      have t10 : a.tmps[10]?.getD undef = .pointer (some ⟨b, 0, none⟩) := by simpa using s10
      rw [if_pos (Flow.wanted_none rfl)]
      clear hfr hdep hdn
      have hlz : l 4 = false := hup 4 (by decide) (by kernel_rfl)
      have hin := hinv.pre hlz
      go_simp
      refine (HFr.out W hin).mono ?_
      rintro e W' ⟨rfl, g1⟩
      exact hK _ _ True.intro (hinv.grow hlz g1 3 (by decide)) (fun d hd => by cases hd; trivial)
    refine Flow.StepsS.cons (fun l a W hfr hun hup hdn hinv hdep K hK => ?_) ?_
    · have s8 : a.tmps.getD 8 undef = .pointer (some ⟨b, 0, none⟩) := hdep 8 (by kernel_rfl)
      have t8 : a.tmps[8]?.getD undef = .pointer (some ⟨b, 0, none⟩) := by simpa using s8
      have s9 : a.tmps.getD 9 undef = .agg #[.int .i64 k, .int .u64 t, .int .u64 p, .int .u64 x, .int .i64 g, .int .i64 o, .slice pb nb cb, .slice pa na ca] := hdep 9 (by kernel_rfl)
      have t9 : a.tmps[9]?.getD undef = .agg #[.int .i64 k, .int .u64 t, .int .u64 p, .int .u64 x, .int .i64 g, .int .i64 o, .slice pb nb cb, .slice pa na ca] := by simpa using s9
      have s11 : a.tmps.getD 11 undef = .int .i64 F := hdep 11 (by kernel_rfl)
      have t11 : a.tmps[11]?.getD undef = .int .i64 F := by simpa using s11
      rw [if_pos (Flow.wanted_none rfl)]
      clear hfr hdep hdn
      have hin := hinv.pre hun
      go_simp
      refine (HLY.out W hin).mono ?_
      rintro e W' ⟨rfl, h1⟩
      exact hK _ _ True.intro (InC.fin h1) (fun d hd => by cases hd; trivial)
    refine Flow.StepsS.cons (fun l a W hfr hun hup hdn hinv hdep K hK => ?_) ?_
    · have s12 : a.tmps.getD 12 undef = .tuple #[.int .u64 (A : Int), .int .i64 E] := hdep 12 (by kernel_rfl)
      have t12 : a.tmps[12]?.getD undef = .tuple #[.int .u64 (A : Int), .int .i64 E] := by simpa using s12
      rw [if_pos (Flow.wanted_none rfl)]
      clear hfr hdep hdn
      go_simp
      exact hK _ _ True.intro (hinv.other 5 (by decide)) (fun d hd => by cases hd; trivial)
    refine Flow.StepsS.cons (fun l a W hfr hun hup hdn hinv hdep K hK => ?_) ?_
    · have s12 : a.tmps.getD 12 undef = .tuple #[.int .u64 (A : Int), .int .i64 E] := hdep 12 (by kernel_rfl)
      have t12 : a.tmps[12]?.getD undef = .tuple #[.int .u64 (A : Int), .int .i64 E] := by simpa using s12
      rw [if_pos (Flow.wanted_none rfl)]
      clear hfr hdep hdn
      go_simp
      exact hK _ _ True.intro (hinv.other 6 (by decide)) (fun d hd => by cases hd; trivial)
    refine Flow.StepsS.cons (fun l a W hfr hun hup hdn hinv hdep K hK => ?_) ?_
    · have s13 : a.tmps.getD 13 undef = .int .u64 (A : Int) := hdep 13 (by kernel_rfl)
      have t13 : a.tmps[13]?.getD undef = .int .u64 (A : Int) := by simpa using s13
      rw [if_pos (Flow.wanted_none rfl)]
      clear hfr hdep hdn
      go_simp
      exact hK _ _ True.intro (hinv.other 7 (by decide)) (fun d hd => by cases hd; trivial)
    refine Flow.StepsS.cons (fun l a W hfr hun hup hdn hinv hdep K hK => ?_) ?_
    · have s14 : a.tmps.getD 14 undef = .int .i64 E := hdep 14 (by kernel_rfl)
      have t14 : a.tmps[14]?.getD undef = .int .i64 E := by simpa using s14
      rw [if_pos (Flow.wanted_none rfl)]
      clear hfr hdep hdn
      go_simp
      exact hK _ _ True.intro (hinv.other 8 (by decide)) (fun d hd => by cases hd; trivial)
    exact True.intro
  case fin =>
    intro a W l hfr hall hinv hsl
    have s4 : a.tmps.getD 4 undef = .int .u64 (A : Int) := hsl 7 _ 4 rfl rfl (by simp)
    have t4 : a.tmps[4]?.getD undef = .int .u64 (A : Int) := by simpa using s4
    have s5 : a.tmps.getD 5 undef = .int .i64 E := hsl 8 _ 5 rfl rfl (by simp)
    have t5 : a.tmps[5]?.getD undef = .int .i64 E := by simpa using s5
    have hfin := hinv.post (hall 4 (by decide))
    have e := Flow.frame hfr [8, 9, 10, 11, 12, 13, 14, 4, 5] (List.range 15) (by kernel_rfl) (by kernel_rfl)
    simp [List.range, List.range.loop] at e
    rw [t4, t5] at e
    rw [e]
    have HFin := Lib.hid hfin
    clear e hfr hsl hall hinv hfin s4 t4 s5 t5 
    first
      | (rename_i hB; refine hB _ _ ?_)
      | (rename_i hB y0; refine hB _ _ ?_)
      | (rename_i hB y0 y1; refine hB _ _ ?_)
      | (rename_i hB y0 y1 y2; refine hB _ _ ?_)
      | (rename_i hB y0 y1 y2 y3; refine hB _ _ ?_)
      | (rename_i hB y0 y1 y2 y3 y4; refine hB _ _ ?_)
      | (rename_i hB y0 y1 y2 y3 y4 y5; refine hB _ _ ?_)
      | (rename_i hB y0 y1 y2 y3 y4 y5 y6; refine hB _ _ ?_)
      | (rename_i hB y0 y1 y2 y3 y4 y5 y6 y7; refine hB _ _ ?_)
      | (rename_i hB y0 y1 y2 y3 y4 y5 y6 y7 y8; refine hB _ _ ?_)
      | skip
    go_wp2_with fail
    exact bodyPost_ret_by (P := Tryz.prog) (v := .tuple #[.int .u64 (A : Int), .int .i64 E]) (by simp [results, Tryz.results43]) rfl ⟨rfl, HFin.out⟩

end Go.Proofs.YtaemmknijmhnoaaGreat

/-
  An act of both: a write.
-/
namespace Go.Proofs.YtaemmknijmhnoaaGreat
open Go.RowKit Go.Maps

theorem Upd.more {F F' : Nat → Prop} {w w1 w2 : World} (u : Upd F F' w w1) (g : Gr w1 w2) : Upd F F' w w2 := u.trans (Upd.of_gr g)
end Go.Proofs.YtaemmknijmhnoaaGreat

/-
  An act of both: a barrier, a fuse, a loss of power, nothing.
-/
namespace Go.Proofs.YtaemmknijmhnoaaGreat
open Go.RowKit Go.Maps

def BaS (s : St) : St := if s.dead then s else s.barrier
def BaE (s : St) : Int := if s.dead then 8 else 0
theorem Barrier_all {F : Nat → Prop} {p : Value} {s : St} (w : World) (h : Dk w F p s) (hw : s.writes ≤ 1000000000) : Calls Tryz.prog 49 #[p] w fun e w' => Chg F p (BaS s) (.int .i64 (BaE s)) w e w' := by
  unfold BaS BaE
  by_cases hd : s.dead = true
  · rw [if_pos hd, if_pos hd]
    refine (Barrier_dead w h hd).mono ?_
    rintro e w' ⟨rfl, rfl⟩
    exact ⟨F, rfl, h, Upd.same _⟩
  · rw [if_neg hd, if_neg hd]
    exact Barrier_yes w h hw (by simpa using hd)
end Go.Proofs.YtaemmknijmhnoaaGreat

