/-
  Texts on locks, put together: Lk56 Lk57 Lk58 LkOpen.
-/
import Derived.IntWalk
import Derived.ProofKit
import Derived.OpenShut
import Derived.ShutString
import Derived.ChangeOld
import Derived.Deep.Slices
import Derived.Test.YtbmcdlcoojmppaaA2
import Derived.Test.YtbmcdlcoojmppaaA30
/-
  The law LockHolds: its range over what an owner holds, by itself. (Made by gen_hrange.py.)
-/
namespace Go.Proofs.Ytbmcdlcoojmppaa
open Go.RowKit Go.Maps
attribute [local go_sem] Oper.semAt_some

def SlH26 (t mm g4 N c4 i o : Nat) (K1 K2 MD : Int) (slot : Nat) (v : Value) (_ : World) : Prop :=
  match slot with
  | 91 => v = .map (some mm)
  | 92 => v = .agg #[.int .i64 K1, .int .i64 K2]
  | 93 => v = .bool false
  | 94 => v = .bool false
  | 95 => v = .int .i64 MD
  | 96 => v = .bool false
  | 97 => v = .bool false
  | 98 => v = .bool false
  | 99 => v = .pointer (some ⟨t, 0, none⟩)
  | 100 => v = .slice (some ⟨g4, 0, none⟩) N c4
  | 101 => v = .int .i64 (i : Int)
  | 102 => v = .pointer (some ⟨g4, i, none⟩)
  | 103 => v = .int .u64 (o : Int)
  | 104 => v = .agg #[.int .i64 K1, .int .i64 K2]
  | 105 => v = .int .i64 MD
  | 106 => v = .int .i64 MD
  | 107 => v = .bool false
  | 108 => v = .bool false
  | _ => True
section
variable {X : World} {t km om vb ob ib sb nb mm g4 N c4 i o cc kb mb : Nat} {B : Tag → Option Nat} {T : Tb}
set_option maxRecDepth 100000 in
set_option maxHeartbeats 8000000 in
theorem hold_range {Q : Exit → Act → World → Prop} {w0 : World} {x0 x1 x2 x5 x10 x11 x12 x13 x14 x15 x16 x17 x18 x19 x20 x21 x22 x23 x24 x25 x26 x27 x28 x29 x30 x31 x32 x33 x34 x35 x36 x37 x38 x39 x40 x41 x42 x43 x44 x45 x46 x47 x48 x49 x50 x51 x52 x53 x54 x55 x56 x57 x58 x59 x60 x61 x62 x63 x64 x65 x66 x67 x68 x69 x70 x71 x72 x73 x74 x75 x76 x77 x78 x79 x80 x81 x82 x83 x84 x85 x86 x87 x89 x90 x91 x92 x93 x94 x95 x96 x97 x98 x99 x100 x101 x102 x103 x104 x105 x106 x107 x108 x109 x110 x111 x112 x113 x114 x115 x116 x117 x118 x119 x120 x121 x122 x123 x124 x125 x126 x127 x128 x129 x130 x131 x132 x133 x134 x135 x136 x137 x138 x139 x140 x141 x142 x143 x144 x145 x146 : Value} {ds : List Deferred} {kv' mv : Value} (hX : RgX X t km om vb ob ib sb mm g4 N c4 i o B T) (hF : RgFar X ib nb mm g4 B) (hI : Inv T) (hol : T.oo.length ≤ 60) (hkl : T.kk.length ≤ 60)
    (hiN : i < N) (hN : N ≤ 60) (hcc : cc ≤ 10000) (ho : KO.dom o) (hH : HeldAt w0 X kb mb kv' mv (sortK (T.of o).ks) (T.mds (sortK (T.of o).ks))) (hKs : ∀ k, hKs kb mb kv' mv k → k ≠ nb ∧ k ≠ mm) (hbn : Blk X nb TI #[.int .i64 ((cc : Nat) : Int)]) (hmp : Mp Try.prog KL X mm (fun _ => none) [])
    (hQ : ∀ (D : Nat) (V : World), X.heap.size ≤ D → Onl (fun n => n = nb ∨ n = mm) X V → Blk V nb TI #[.int .i64 ((cc + (T.of o).ks.length : Nat) : Int)] → V.heap[D]? = some (.deferred (some [])) → Q .normal { tmps := #[x0, x1, x2, .pointer (some ⟨vb, 0, none⟩), .pointer (some ⟨ob, 0, none⟩), x5, .pointer (some ⟨nb, 0, none⟩), .pointer (some ⟨ib, 0, none⟩), .func (.func 36) #[] #[.pointer (some ⟨kb, 0, none⟩), .pointer (some ⟨mb, 0, none⟩)], .pointer (some ⟨sb, 0, none⟩), x10, x11, x12, x13, x14, x15, x16, x17, x18, x19, x20, x21, x22, x23, x24, x25, x26, x27, x28, x29, x30, x31, x32, x33, x34, x35, x36, x37, x38, x39, x40, x41, x42, x43, x44, x45, x46, x47, x48, x49, x50, x51, x52, x53, x54, x55, x56, x57, x58, x59, x60, x61, x62, x63, x64, x65, x66, x67, x68, x69, x70, x71, x72, x73, x74, x75, x76, x77, x78, x79, x80, x81, x82, x83, x84, x85, x86, x87, .func (.func 36) #[] #[.pointer (some ⟨kb, 0, none⟩), .pointer (some ⟨mb, 0, none⟩)], x89, x90, x91, x92, x93, x94, x95, x96, x97, x98, x99, x100, x101, x102, x103, x104, x105, x106, x107, x108, x109, x110, x111, x112, x113, x114, x115, x116, x117, x118, x119, x120, x121, x122, x123, x124, x125, x126, x127, x128, x129, x130, x131, x132, x133, x134, x135, x136, x137, x138, x139, x140, x141, x142, x143, x144, x145, x146], defers := dmark D :: ds } V) :
    (rangeOf Try.f5).wpIn Fence.wide 8 Try.prog Q { tmps := #[x0, x1, x2, .pointer (some ⟨vb, 0, none⟩), .pointer (some ⟨ob, 0, none⟩), x5, .pointer (some ⟨nb, 0, none⟩), .pointer (some ⟨ib, 0, none⟩), .func (.func 36) #[] #[.pointer (some ⟨kb, 0, none⟩), .pointer (some ⟨mb, 0, none⟩)], .pointer (some ⟨sb, 0, none⟩), x10, x11, x12, x13, x14, x15, x16, x17, x18, x19, x20, x21, x22, x23, x24, x25, x26, x27, x28, x29, x30, x31, x32, x33, x34, x35, x36, x37, x38, x39, x40, x41, x42, x43, x44, x45, x46, x47, x48, x49, x50, x51, x52, x53, x54, x55, x56, x57, x58, x59, x60, x61, x62, x63, x64, x65, x66, x67, x68, x69, x70, x71, x72, x73, x74, x75, x76, x77, x78, x79, x80, x81, x82, x83, x84, x85, x86, x87, .func (.func 36) #[] #[.pointer (some ⟨kb, 0, none⟩), .pointer (some ⟨mb, 0, none⟩)], x89, x90, x91, x92, x93, x94, x95, x96, x97, x98, x99, x100, x101, x102, x103, x104, x105, x106, x107, x108, x109, x110, x111, x112, x113, x114, x115, x116, x117, x118, x119, x120, x121, x122, x123, x124, x125, x126, x127, x128, x129, x130, x131, x132, x133, x134, x135, x136, x137, x138, x139, x140, x141, x142, x143, x144, x145, x146], defers := ds } X := by
  obtain ⟨ks, hks⟩ : ∃ ks, ks = sortK (T.of o).ks := ⟨_, rfl⟩
  obtain ⟨L, hL⟩ : ∃ L, L = ks.zip (T.mds ks) := ⟨_, rfl⟩
  rw [← hks] at hH
  have hkn : ks.Nodup := by rw [hks]; exact (sortK_perm _).nodup_iff.2 (hI.pnd o)
  have hkm : ∀ k, k ∈ ks → k ∈ (T.of o).ks := fun k hk => (sortK_perm _).mem_iff.1 (hks ▸ hk)
  have hkl2 : ks.length = (T.of o).ks.length := by rw [hks, sortK_len]
  have hkb : ks.length ≤ 60 := by rw [hkl2]; exact Nat.le_trans (hI.ks_le o) hkl
  have hml : (T.mds ks).length = ks.length := by simp [Tb.mds]
  have hLl : L.length = ks.length := by rw [hL, List.length_zip, hml, Nat.min_self]
  have hLk : L.map Prod.fst = ks := by rw [hL]; exact List.map_fst_zip (by omega)
  have hLm : ∀ (j : Nat) (x : Key × Int), L[j]? = some x → x.1 ∈ ks ∧ x.2 = (T.lkOf x.1).mode := fun j x hx => by
    rw [hL] at hx
    obtain ⟨h1, h2⟩ := List.getElem?_zip_eq_some.1 hx
    refine ⟨List.mem_of_getElem? h1, ?_⟩
    unfold Tb.mds at h2
    rw [List.getElem?_map, h1] at h2
    exact (Option.some.inj h2).symm
  have htold := held1_told 7 (by omega) hH hml (by omega)
  rw [← hL] at htold
  have HX := Lib.hid (And.intro hX (And.intro hF (And.intro hI (And.intro hol (And.intro ho hH)))))
  have HL := Lib.hid (And.intro hkn (And.intro hkm (And.intro hLl (And.intro hLk (And.intro hLm (And.intro hkb hkl2))))))
  have HQ := Lib.hid hQ
  have HKs := Lib.hid hKs
  have hln : nb < X.heap.size := hbn.lt
  have hlm : mm < X.heap.size := hmp.lt
  have h0 : HgAt X X nb mm cc L [] := ⟨Onl.refl _ _, hbn, ⟨[], by
    have : seenF [] = fun _ => none := by funext k; rfl
    rw [this]; exact hmp⟩, rfl⟩
  have hrc : rangeOf Try.f5 = Code.rangeFunc _ _ _ _ := rfl
  rw [hrc]
  clear hrc hX hF hI hol hkl ho hH hkn hkm hkl2 hkb hml hLl hLk hLm hQ hKs hbn hmp hks hL
  refine wpIn_range_toldG (F := Fence.wide) rfl (by omega) (gf := 36) (lb := #[.pointer (some ⟨kb, 0, none⟩), .pointer (some ⟨mb, 0, none⟩)]) rfl trivial (enters_of Try.func36 (by kernel_rfl) rfl)
    htold (Below.refl _ _) (fun _ => rfl) (fun pre V => HgAt X V nb mm cc L pre) (hgAt_own hln hlm) h0
    (fun tm x (R : Nat) => (((tm.setIfInBounds 89 (kv x.1)).setIfInBounds 90 (.int .i64 x.2)).setIfInBounds 10 (.pointer (some ⟨R, 0, none⟩))).setIfInBounds 11 (.int .i64 x.2))
    (fun pre x R V => L[pre.length]? = some x ∧ X.heap.size ≤ R ∧ Blk V R TKey #[.int .i64 x.1.1, .int .i64 x.1.2]) ?hBx ?assign ?body ?done
  case hBx =>
    rintro pre x R z Y Z row ⟨h1, h2, h3⟩ hg hr
    exact ⟨h1, h2, h3.held (hold_grown hg (fun r e => (hr r e).2))⟩
  case assign =>
    rintro l pre x V K hi hx hK
    obtain ⟨⟨x1, x2⟩, x3⟩ := x
    have HI := Lib.hid hi
    simp only [kv, List.setIfInBounds_toArray, List.set_cons_succ, List.set_cons_zero] at hK
    have hK2 := Lib.hid hK
    clear hi hK
    have gn : Gr V (V.alloc (.cells #[.int .i64 x1, .int .i64 x2] TKey)) := (Gr.refl V).alloc (Nat.le_refl _) _
    have hb := Blk.new V TKey #[.int .i64 x1, .int .i64 x2]
    have HH := Lib.hid (And.intro gn (And.intro hb hx))
    clear gn hb hx
    dsimp only [encK, kv]
    gi_wp2_with fail
    exact hK2.out V.heap.size _ ((⟨HH.out.1.size, fun k o hk _ => (HH.out.1.block k (Array.getElem?_eq_some_iff.1 hk).1).trans hk⟩ : KeepsOthers V _).from _) (gr_holds HH.out.1) (HI.out.more HH.out.1) ⟨HH.out.2.2, HI.out.onl.size, HH.out.2.1⟩
  case done =>
    rintro D ys V hD hS hi hK
    subst hS
    refine HQ.out D V hD hi.onl ?_ hK
    have := hi.bn
    rwa [HL.out.2.2.1, HL.out.2.2.2.2.2.2] at this
  case body =>
    rintro l pre x R W8 hlw hi ⟨hx, hR, hbR⟩
    obtain ⟨⟨K1, K2⟩, MD⟩ := x
    obtain ⟨hk1, hm1⟩ := HL.out.2.2.2.2.1 _ _ hx
    have hk2 : ((K1, K2) : Key) ∉ pre.map Prod.fst := fun e => by
      have hp := hi.pre
      have h1 : ks[pre.length]? = some (K1, K2) := by rw [← HL.out.2.2.2.1, List.getElem?_map, hx]; rfl
      have h2 : (K1, K2) ∈ ks.take pre.length := by rw [← HL.out.2.2.2.1, ← List.map_take, ← hp]; exact e
      obtain ⟨j, hj, hj2⟩ := List.getElem_of_mem h2
      have hlen : pre.length < ks.length := (List.getElem?_eq_some_iff.1 h1).1
      rw [List.length_take] at hj
      rw [List.getElem_take] at hj2
      have h9 := (List.getElem?_eq_some_iff.1 h1).2
      exact List.pairwise_iff_getElem.1 HL.out.1 j pre.length (by omega) hlen (by omega) (hj2.trans h9.symm)
    have hp2 : pre ++ [((K1, K2), MD)] = L.take (pre ++ [((K1, K2), MD)]).length := by
      have hlt := (List.getElem?_eq_some_iff.1 hx).1
      rw [List.length_append, List.length_singleton, List.take_succ_eq_append_getElem hlt, ← hi.pre, (List.getElem?_eq_some_iff.1 hx).2]
    have hpl : pre.length < 60 := by have := (List.getElem?_eq_some_iff.1 hx).1; have := HL.out.2.2.1; have := HL.out.2.2.2.2.2.1; omega
    obtain ⟨X9, hX9⟩ : ∃ X9, X9 = X := ⟨_, rfl⟩
    have hRX := HX.out.1.onl HX.out.2.1 hi.onl
    obtain ⟨l9, hl9, hi9⟩ := HX.out.2.2.1.holds o (K1, K2) (HL.out.2.1 _ hk1)
    have hKd : KL.dom (K1, K2) := hRX.tb.ks_dom o (K1, K2) (HL.out.2.1 _ hk1)
    have hmd : MD = 1 ∨ MD = 2 := by
      have h1 : MD = l9.mode := by rw [show MD = _ from hm1]; exact congrArg Lk.mode (lkOf_of hl9)
      rw [h1]
      exact (HX.out.2.2.1.lk _ _ hl9).md fun e => by rw [e] at hi9; cases hi9
    have hho : T.hold o (K1, K2) = MD := by
      unfold Tb.hold
      rw [if_pos (HL.out.2.1 _ hk1)]
      exact hm1.symm
    obtain ⟨sk, hmp⟩ := hi.mp
    have hskl : sk.length ≤ 60 := by
      have := nodup_le sk (pre.map Prod.fst) hmp.nodup fun k hk => by
        rw [hmp.mem] at hk
        unfold seenF at hk
        by_cases e : k ∈ pre.map Prod.fst
        · exact e
        · rw [if_neg e] at hk; cases hk
      rw [List.length_map] at this
      omega
    have HF26 : Hid (∀ V, Gr W8 V → V.cell? ⟨sb, 0, none⟩ = some (.map (some mm)) ∧ V.cell? ⟨vb, 0, none⟩ = some (.pointer (some ⟨t, 0, none⟩)) ∧ V.cell? ⟨ob, 0, none⟩ = some (.slice (some ⟨g4, 0, none⟩) N c4) ∧ V.cell? ⟨ib, 0, none⟩ = some (.int .i64 (i : Int)) ∧ V.cell? ⟨g4, i, none⟩ = some (.int .u64 (o : Int)) ∧ V.cell? ⟨R, 0, none⟩ = some (.int .i64 K1) ∧ V.cell? ⟨R, 1, none⟩ = some (.int .i64 K2) ∧ (Instr.lookup TSn (.map (some mm)) (.agg #[.int .i64 K1, .int .i64 K2]) false).run Try.prog V = .ok (.bool false) V) := Lib.hid fun V g => by
      refine ⟨(hRX.bs.gr g).cell 0, (hRX.bv.gr g).cell 0, (hRX.bo.gr g).cell 0, (hRX.bi.gr g).cell 0, ?_, (hbR.gr g).cell 0, (hbR.gr g).cell 1, ?_⟩
      · rw [g.cell (World.block_lt_of_cell? _ _ hRX.ro)]; exact hRX.ro
      · have := (hmp.stays (g.block mm hmp.lt)).look KL_ok (t := TSn) Try.underlying52 (Try.zeroValue4 V) hKd
        rw [show KL.val (K1, K2) = .agg #[.int .i64 K1, .int .i64 K2] from rfl] at this
        rw [this]
        unfold seenF
        rw [if_neg hk2]
        rfl
    have HHo : Hid (∀ V, Gr W8 V → Calls Try.prog 12 #[.pointer (some ⟨t, 0, none⟩), .int .u64 (o : Int), .agg #[.int .i64 K1, .int .i64 K2]] V fun e w' => e = .returned (.int .i64 MD) ∧ Gr V w') := Lib.hid fun V g => by
      have := Holds_any (hRX.tb.gr g) (HX.out.2.2.1.ok (by have := HX.out.2.2.2.1; omega)) HX.out.2.2.2.2.1 hKd
      rw [hho] at this
      exact this
    have hmz : (MD == 0) = false := by
      rcases hmd with rfl | rfl <;> rfl
    have hiN' : (i : Int) < (N : Int) := by omega
    have HB := Lib.hid (And.intro hi (And.intro hmp (And.intro hskl (And.intro hk2 (And.intro hp2 (And.intro hpl (And.intro hKd hlw)))))))
    clear hk1 hm1 hX9 hRX hl9 hi9 hmd hho hi hmp hskl hk2 hp2 hx hR hbR hKd
    simp only [kv, List.setIfInBounds_toArray, List.set_cons_succ, List.set_cons_zero]
    gi_wp2_with fail
    refine Flow.regionIn l 6 (SlH26 t mm g4 N c4 i o K1 K2 MD) (Gr W8) (fun _ _ => True) (by kernel_rfl) (by kernel_rfl) (by kernel_rfl) (fun _ _ _ _ h _ => h) (Gr.refl W8).drew ?steps ?fin
    case steps =>
      refine Flow.Steps.cons (fun a W hfr hinv hdep K hK => ?_) ?_
      · have s9 : a.tmps.getD 9 undef = .pointer (some ⟨sb, 0, none⟩) := hfr.at 9 (by kernel_rfl)
        have t9 : a.tmps[9]?.getD undef = .pointer (some ⟨sb, 0, none⟩) := by simpa using s9
        rw [if_pos (Flow.wanted_none rfl)]
        obtain ⟨q0, q1, q2, q3, q4, q5, q6, q7⟩ := HF26.out W hinv
        clear hfr hdep
        go_simp
        exact hK _ _ True.intro hinv (fun d hd => by cases hd; trivial)
      refine Flow.Steps.cons (fun a W hfr hinv hdep K hK => ?_) ?_
      · have s10 : a.tmps.getD 10 undef = .pointer (some ⟨R, 0, none⟩) := hfr.at 10 (by kernel_rfl)
        have t10 : a.tmps[10]?.getD undef = .pointer (some ⟨R, 0, none⟩) := by simpa using s10
        rw [if_pos (Flow.wanted_none rfl)]
        obtain ⟨q0, q1, q2, q3, q4, q5, q6, q7⟩ := HF26.out W hinv
        clear hfr hdep
        go_simp
        exact hK _ _ True.intro hinv (fun d hd => by cases hd; trivial)
      refine Flow.Steps.cons (fun a W hfr hinv hdep K hK => ?_) ?_
      · have s91 : a.tmps.getD 91 undef = .map (some mm) := hdep 91 (by kernel_rfl)
        have t91 : a.tmps[91]?.getD undef = .map (some mm) := by simpa using s91
        have s92 : a.tmps.getD 92 undef = .agg #[.int .i64 K1, .int .i64 K2] := hdep 92 (by kernel_rfl)
        have t92 : a.tmps[92]?.getD undef = .agg #[.int .i64 K1, .int .i64 K2] := by simpa using s92
        rw [if_pos (Flow.wanted_none rfl)]
        obtain ⟨q0, q1, q2, q3, q4, q5, q6, q7⟩ := HF26.out W hinv
        clear hfr hdep
        go_simp
        exact hK _ _ True.intro hinv (fun d hd => by cases hd; trivial)
      refine Flow.Steps.cons (fun a W hfr hinv hdep K hK => ?_) ?_
      · have s93 : a.tmps.getD 93 undef = .bool false := hdep 93 (by kernel_rfl)
        have t93 : a.tmps[93]?.getD undef = .bool false := by simpa using s93
        rw [if_pos (Flow.wanted_none rfl)]
        obtain ⟨q0, q1, q2, q3, q4, q5, q6, q7⟩ := HF26.out W hinv
        clear hfr hdep
        go_simp
        exact hK _ _ True.intro hinv (fun d hd => by cases hd; trivial)
      refine Flow.Steps.cons (fun a W hfr hinv hdep K hK => ?_) ?_
      · have s11 : a.tmps.getD 11 undef = .int .i64 MD := hfr.at 11 (by kernel_rfl)
        have t11 : a.tmps[11]?.getD undef = .int .i64 MD := by simpa using s11
        have sg : a.tmps.getD 94 undef = .bool false := hdep 94 (by kernel_rfl)
        rw [if_pos (Flow.wanted_yes 3 false 94 rfl (by kernel_rfl) sg)]
        obtain ⟨q0, q1, q2, q3, q4, q5, q6, q7⟩ := HF26.out W hinv
        clear hfr hdep
        go_simp
        exact hK _ _ True.intro hinv (fun d hd => by cases hd; trivial)
      refine Flow.Steps.cons (fun a W hfr hinv hdep K hK => ?_) ?_
      · have s95 : a.tmps.getD 95 undef = .int .i64 MD := hdep 95 (by kernel_rfl)
        have t95 : a.tmps[95]?.getD undef = .int .i64 MD := by simpa using s95
        have sg : a.tmps.getD 94 undef = .bool false := hdep 94 (by kernel_rfl)
        rw [if_pos (Flow.wanted_yes 3 false 94 rfl (by kernel_rfl) sg)]
        obtain ⟨q0, q1, q2, q3, q4, q5, q6, q7⟩ := HF26.out W hinv
        clear hfr hdep
        go_simp
        exact hK _ _ True.intro hinv (fun d hd => by cases hd; trivial)
      refine Flow.Steps.cons (fun a W hfr hinv hdep K hK => ?_) ?_
      · have s94 : a.tmps.getD 94 undef = .bool false := hdep 94 (by kernel_rfl)
        have t94 : a.tmps[94]?.getD undef = .bool false := by simpa using s94
        have s96 : a.tmps.getD 96 undef = .bool false := hdep 96 (by kernel_rfl)
        have t96 : a.tmps[96]?.getD undef = .bool false := by simpa using s96
        rw [if_pos (Flow.wanted_none rfl)]
        obtain ⟨q0, q1, q2, q3, q4, q5, q6, q7⟩ := HF26.out W hinv
        clear hfr hdep
        go_simp
        exact hK _ _ True.intro hinv (fun d hd => by cases hd; trivial)
      refine Flow.Steps.cons (fun a W hfr hinv hdep K hK => ?_) ?_
      · have s97 : a.tmps.getD 97 undef = .bool false := hdep 97 (by kernel_rfl)
        have t97 : a.tmps[97]?.getD undef = .bool false := by simpa using s97
        rw [if_pos (Flow.wanted_none rfl)]
        obtain ⟨q0, q1, q2, q3, q4, q5, q6, q7⟩ := HF26.out W hinv
        clear hfr hdep
        go_simp
        exact hK _ _ True.intro hinv (fun d hd => by cases hd; trivial)
      refine Flow.Steps.cons (fun a W hfr hinv hdep K hK => ?_) ?_
      · have s3 : a.tmps.getD 3 undef = .pointer (some ⟨vb, 0, none⟩) := hfr.at 3 (by kernel_rfl)
        have t3 : a.tmps[3]?.getD undef = .pointer (some ⟨vb, 0, none⟩) := by simpa using s3
        have sg : a.tmps.getD 98 undef = .bool false := hdep 98 (by kernel_rfl)
        rw [if_pos (Flow.wanted_yes 7 false 98 rfl (by kernel_rfl) sg)]
        obtain ⟨q0, q1, q2, q3, q4, q5, q6, q7⟩ := HF26.out W hinv
        clear hfr hdep
        go_simp
        exact hK _ _ True.intro hinv (fun d hd => by cases hd; trivial)
      refine Flow.Steps.cons (fun a W hfr hinv hdep K hK => ?_) ?_
      · have s4 : a.tmps.getD 4 undef = .pointer (some ⟨ob, 0, none⟩) := hfr.at 4 (by kernel_rfl)
        have t4 : a.tmps[4]?.getD undef = .pointer (some ⟨ob, 0, none⟩) := by simpa using s4
        have sg : a.tmps.getD 98 undef = .bool false := hdep 98 (by kernel_rfl)
        rw [if_pos (Flow.wanted_yes 7 false 98 rfl (by kernel_rfl) sg)]
        obtain ⟨q0, q1, q2, q3, q4, q5, q6, q7⟩ := HF26.out W hinv
        clear hfr hdep
        go_simp
        exact hK _ _ True.intro hinv (fun d hd => by cases hd; trivial)
      refine Flow.Steps.cons (fun a W hfr hinv hdep K hK => ?_) ?_
      · have s7 : a.tmps.getD 7 undef = .pointer (some ⟨ib, 0, none⟩) := hfr.at 7 (by kernel_rfl)
        have t7 : a.tmps[7]?.getD undef = .pointer (some ⟨ib, 0, none⟩) := by simpa using s7
        have sg : a.tmps.getD 98 undef = .bool false := hdep 98 (by kernel_rfl)
        rw [if_pos (Flow.wanted_yes 7 false 98 rfl (by kernel_rfl) sg)]
        obtain ⟨q0, q1, q2, q3, q4, q5, q6, q7⟩ := HF26.out W hinv
        clear hfr hdep
        go_simp
        exact hK _ _ True.intro hinv (fun d hd => by cases hd; trivial)
      refine Flow.Steps.cons (fun a W hfr hinv hdep K hK => ?_) ?_
      · have s100 : a.tmps.getD 100 undef = .slice (some ⟨g4, 0, none⟩) N c4 := hdep 100 (by kernel_rfl)
        have t100 : a.tmps[100]?.getD undef = .slice (some ⟨g4, 0, none⟩) N c4 := by simpa using s100
        have s101 : a.tmps.getD 101 undef = .int .i64 (i : Int) := hdep 101 (by kernel_rfl)
        have t101 : a.tmps[101]?.getD undef = .int .i64 (i : Int) := by simpa using s101
        have sg : a.tmps.getD 98 undef = .bool false := hdep 98 (by kernel_rfl)
        rw [if_pos (Flow.wanted_yes 7 false 98 rfl (by kernel_rfl) sg)]
        obtain ⟨q0, q1, q2, q3, q4, q5, q6, q7⟩ := HF26.out W hinv
        clear hfr hdep
        go_simp
        exact hK _ _ True.intro hinv (fun d hd => by cases hd; trivial)
      refine Flow.Steps.cons (fun a W hfr hinv hdep K hK => ?_) ?_
      · have s102 : a.tmps.getD 102 undef = .pointer (some ⟨g4, i, none⟩) := hdep 102 (by kernel_rfl)
        have t102 : a.tmps[102]?.getD undef = .pointer (some ⟨g4, i, none⟩) := by simpa using s102
        have sg : a.tmps.getD 98 undef = .bool false := hdep 98 (by kernel_rfl)
        rw [if_pos (Flow.wanted_yes 7 false 98 rfl (by kernel_rfl) sg)]
        obtain ⟨q0, q1, q2, q3, q4, q5, q6, q7⟩ := HF26.out W hinv
        clear hfr hdep
        go_simp
        exact hK _ _ True.intro hinv (fun d hd => by cases hd; trivial)
      refine Flow.Steps.cons (fun a W hfr hinv hdep K hK => ?_) ?_
      · have s10 : a.tmps.getD 10 undef = .pointer (some ⟨R, 0, none⟩) := hfr.at 10 (by kernel_rfl)
        have t10 : a.tmps[10]?.getD undef = .pointer (some ⟨R, 0, none⟩) := by simpa using s10
        have sg : a.tmps.getD 98 undef = .bool false := hdep 98 (by kernel_rfl)
        rw [if_pos (Flow.wanted_yes 7 false 98 rfl (by kernel_rfl) sg)]
        obtain ⟨q0, q1, q2, q3, q4, q5, q6, q7⟩ := HF26.out W hinv
        clear hfr hdep
        go_simp
        exact hK _ _ True.intro hinv (fun d hd => by cases hd; trivial)
      refine Flow.Steps.cons (fun a W hfr hinv hdep K hK => ?_) ?_
      · have s99 : a.tmps.getD 99 undef = .pointer (some ⟨t, 0, none⟩) := hdep 99 (by kernel_rfl)
        have t99 : a.tmps[99]?.getD undef = .pointer (some ⟨t, 0, none⟩) := by simpa using s99
        have s103 : a.tmps.getD 103 undef = .int .u64 (o : Int) := hdep 103 (by kernel_rfl)
        have t103 : a.tmps[103]?.getD undef = .int .u64 (o : Int) := by simpa using s103
        have s104 : a.tmps.getD 104 undef = .agg #[.int .i64 K1, .int .i64 K2] := hdep 104 (by kernel_rfl)
        have t104 : a.tmps[104]?.getD undef = .agg #[.int .i64 K1, .int .i64 K2] := by simpa using s104
        have sg : a.tmps.getD 98 undef = .bool false := hdep 98 (by kernel_rfl)
        rw [if_pos (Flow.wanted_yes 7 false 98 rfl (by kernel_rfl) sg)]
        obtain ⟨q0, q1, q2, q3, q4, q5, q6, q7⟩ := HF26.out W hinv
        clear hfr hdep
        go_simp
        refine (HHo.out W hinv).mono ?_
        rintro e W' ⟨rfl, g9⟩
        exact hK _ _ True.intro (Gr.trans hinv g9) (fun d hd => by cases hd; trivial)
      refine Flow.Steps.cons (fun a W hfr hinv hdep K hK => ?_) ?_
      · have s11 : a.tmps.getD 11 undef = .int .i64 MD := hfr.at 11 (by kernel_rfl)
        have t11 : a.tmps[11]?.getD undef = .int .i64 MD := by simpa using s11
        have sg : a.tmps.getD 98 undef = .bool false := hdep 98 (by kernel_rfl)
        rw [if_pos (Flow.wanted_yes 7 false 98 rfl (by kernel_rfl) sg)]
        obtain ⟨q0, q1, q2, q3, q4, q5, q6, q7⟩ := HF26.out W hinv
        clear hfr hdep
        go_simp
        exact hK _ _ True.intro hinv (fun d hd => by cases hd; trivial)
      refine Flow.Steps.cons (fun a W hfr hinv hdep K hK => ?_) ?_
      · have s105 : a.tmps.getD 105 undef = .int .i64 MD := hdep 105 (by kernel_rfl)
        have t105 : a.tmps[105]?.getD undef = .int .i64 MD := by simpa using s105
        have s106 : a.tmps.getD 106 undef = .int .i64 MD := hdep 106 (by kernel_rfl)
        have t106 : a.tmps[106]?.getD undef = .int .i64 MD := by simpa using s106
        have sg : a.tmps.getD 98 undef = .bool false := hdep 98 (by kernel_rfl)
        rw [if_pos (Flow.wanted_yes 7 false 98 rfl (by kernel_rfl) sg)]
        obtain ⟨q0, q1, q2, q3, q4, q5, q6, q7⟩ := HF26.out W hinv
        clear hfr hdep
        go_simp
        exact hK _ _ True.intro hinv (fun d hd => by cases hd; trivial)
      refine Flow.Steps.cons (fun a W hfr hinv hdep K hK => ?_) ?_
      · have s98 : a.tmps.getD 98 undef = .bool false := hdep 98 (by kernel_rfl)
        have t98 : a.tmps[98]?.getD undef = .bool false := by simpa using s98
        have s107 : a.tmps.getD 107 undef = .bool false := hdep 107 (by kernel_rfl)
        have t107 : a.tmps[107]?.getD undef = .bool false := by simpa using s107
        rw [if_pos (Flow.wanted_none rfl)]
        obtain ⟨q0, q1, q2, q3, q4, q5, q6, q7⟩ := HF26.out W hinv
        clear hfr hdep
        go_simp
        exact hK _ _ True.intro hinv (fun d hd => by cases hd; trivial)
      exact True.intro
    case fin =>
      intro a W hfr hfin hsl
      have s108 : a.tmps.getD 108 undef = .bool false := hsl 17 _ 108 rfl rfl
      have t108 : a.tmps[108]?.getD undef = .bool false := by simpa using s108
      have e := Flow.frame hfr [91, 92, 93, 94, 95, 96, 97, 98, 99, 100, 101, 102, 103, 104, 105, 106, 107, 108] (List.range 147) (by kernel_rfl) (by kernel_rfl)
      simp [List.range, List.range.loop] at e
      rw [t108] at e
      rw [e]
      clear e hfr hsl s108 t108
      have HW := Lib.hid hfin
      clear hfin
      have hi2 := HB.out.1.more HW.out
      obtain ⟨W9, hrun, hM, hG⟩ := (HB.out.2.1.stays (w' := W) (HW.out.block mm HB.out.2.1.lt)).store KL_ok (by have := HB.out.2.2.1; show sk.length < 9223372036854775807; omega) (t := TSn) Try.underlying52 HB.out.2.2.2.2.2.2.1 (.bool true)
      rw [show KL.val (K1, K2) = .agg #[.int .i64 K1, .int .i64 K2] from rfl] at hrun
      rw [show updF (seenF pre) (K1, K2) (some (.bool true)) = seenF (pre ++ [((K1, K2), MD)]) from seen_store pre ((K1, K2), MD)] at hM
      obtain ⟨es9, ck9, hm9⟩ := HB.out.2.1.isMap
      have hne : nb ≠ mm := fun e => by
        have h1 := HB.out.1.bn
        unfold Blk at h1
        rw [e, hm9] at h1
        cases h1
      have hnx := hi2.next hne hG hM HB.out.2.2.2.2.1
      have b9 : Blk W9 nb TI #[.int .i64 ((cc + pre.length : Nat) : Int)] := hi2.bn.stays (hG.block nb hi2.bn.lt fun e => hne (Option.some.inj e))
      have hKF : KeepsFrom X.heap.size W8 (W9.setCell ⟨nb, 0, none⟩ (.int .i64 ((cc + pre.length + 1 : Nat) : Int))) :=
        (((⟨HW.out.size, fun k o hk _ => (HW.out.block k (Array.getElem?_eq_some_iff.1 hk).1).trans hk⟩ : KeepsOthers W8 W).from X.heap.size).trans (KeepsFrom.of_grownBy hG (fun j e => by cases e; exact hlm))).trans ((KeepsOthers.setCell _ _ _).from _)
      have hHS : HoldS firm (hKs kb mb kv' mv) W8 (W9.setCell ⟨nb, 0, none⟩ (.int .i64 ((cc + pre.length + 1 : Nat) : Int))) :=
        (gr_holds HW.out).trans (HoldS.trans (Y := W9) ⟨hG.size, fun k o hk h1 _ => (hG.block k (Array.getElem?_eq_some_iff.1 h1).1 fun e => (HKs.out k hk).2 (Option.some.inj e)).trans h1⟩ ⟨by simp, fun k o hk h1 _ => (heap_setCell_other W9 ⟨nb, 0, none⟩ k _ (HKs.out k hk).1).trans h1⟩)
      obtain ⟨CN, hCN⟩ : ∃ CN, CN = cc + pre.length := ⟨_, rfl⟩
      rw [← hCN] at b9 hnx hKF hHS
      have hCb : CN ≤ 20000 := by have := HB.out.2.2.2.2.2.1; omega
      have hw1 : IntKind.i64.wrap ((CN : Int) + 1) = ((CN + 1 : Nat) : Int) := by rw [IntWalk.i64_in _ (by omega)]; omega
      have n0 := b9.cell 0
      have f0 := b9.frozen 0
      simp at n0
      obtain ⟨q0, q1, q2, q3, q4, q5, q6, q7⟩ := HF26.out W HW.out
      have HE := Lib.hid (And.intro hKF (And.intro hHS hnx))
      clear hi2 hM hG hm9 hne hnx b9 hKF hHS hCN q1 q2 q3 q4 q7 HF26 HHo HB hmz hiN'
      gi_wp2_with fail
      exact HE.out
end
end Go.Proofs.Ytbmcdlcoojmppaa

/-
  The law LockHolds: how it stands while the owners are gone over.
-/
namespace Go.Proofs.Ytbmcdlcoojmppaa
open Go.RowKit Go.Maps

def ptA : Value → Addr
  | .pointer (some a) => a
  | _ => ⟨0, 0, none⟩
section
variable {w0 w w' : World} {t km om rb vb ob j nb ib i : Nat} {B : Tag → Option Nat} {T : Tb} {ow e : List Nat} {ov : Value} {Ds : List Nat}
theorem HlAt.up (h : HlAt w0 w t km om rb vb ob B T ow ov e j) {k : Nat} (hk : j ≤ k) : HlAt w0 w t km om rb vb ob B T ow ov e k :=
  { h with ol := Nat.le_trans h.ol hk, kl := Nat.le_trans h.kl hk, lo := Nat.le_trans h.lo hk }
theorem HlAt.onl (h : HlAt w0 w t km om rb vb ob B T ow ov e j) {S : Nat → Prop} (g : Onl S w w') (hS : ∀ n, S n → w0.heap.size ≤ n ∧ ¬ FB B n ∧ ∀ cs ty, w.heap[n]? = some (.cells cs ty (0, 0)) → ty = TI) :
    HlAt w0 w' t km om rb vb ob B T ow ov e j := by
  have keep : ∀ {q : Nat} {ty : TypeId} {cs : Array Value}, Blk w q ty cs → ty ≠ TI → Blk w' q ty cs := fun {q ty cs} hb ht => hb.stays (g.block q hb.lt fun e => ht ((hS q e).2.2 cs ty hb))
  refine { h with tb := h.tb.stays fun a n ha => g.block n (h.tb.lt a n ha) fun e => (hS n e).2.1 ⟨a, ha⟩, br := keep h.br (by decide), bv := keep h.bv (by decide), bo := keep h.bo (by decide), us := h.us.stays fun k hk => g.block k (h.us.lt k hk).2 fun e => ?_, gr := ?_ }
  · rcases h.us.2 with ⟨h0, _⟩ | ⟨g', cap, cur, h0, _, hh, _⟩
    · rw [h0] at hk; cases hk
    · rw [h0] at hk
      cases hk
      have := (hS _ e).2.2 _ _ hh
      exact absurd this (by decide)
  · exact ⟨g.os.trans h.gr.os, g.tape.trans h.gr.tape, g.output.trans h.gr.output, Nat.le_trans h.gr.size g.size, fun n hn => (g.block n (Nat.lt_of_lt_of_le hn h.gr.size) fun e => by have := (hS n e).1; omega).trans (h.gr.block n hn)⟩
structure H2At (w0 w : World) (t km om rb vb ob nb ib : Nat) (B : Tag → Option Nat) (T : Tb) (ow : List Nat) (ov : Value) (i cc : Nat) (Ds : List Nat) : Prop where
  hl : HlAt w0 w t km om rb vb ob B T ow ov [] 60
  bn : Blk w nb TI #[.int .i64 (cc : Int)]
  bi : Blk w ib TI #[.int .i64 (i : Int)]
  dk : ∀ D, D ∈ Ds → w0.heap.size ≤ D ∧ w.heap[D]? = some (.deferred (some []))
  dn : Ds.Nodup
  gn : w0.heap.size ≤ nb
  gi : nb < ib
theorem H2At.more {cc : Nat} (h : H2At w0 w t km om rb vb ob nb ib B T ow ov i cc Ds) (g : Gr w w') : H2At w0 w' t km om rb vb ob nb ib B T ow ov i cc Ds :=
  { h with hl := h.hl.more g, bn := h.bn.gr g, bi := h.bi.gr g, dk := fun D hD => ⟨(h.dk D hD).1, (g.block D (Array.getElem?_eq_some_iff.1 (h.dk D hD).2).1).trans (h.dk D hD).2⟩ }
/-- The count turns. -/
theorem H2At.count {cc : Nat} (h : H2At w0 w t km om rb vb ob nb ib B T ow ov i cc Ds) (c2 : Nat) : H2At w0 (w.setCell ⟨nb, 0, none⟩ (.int .i64 (c2 : Int))) t km om rb vb ob nb ib B T ow ov i c2 Ds := by
  have hfn : ¬ FB B nb := h.hl.tb.far_ty h.bn (by decide) (by decide) (by decide) (by decide)
  have g : Onl (fun n => n = nb) w (w.setCell ⟨nb, 0, none⟩ (.int .i64 (c2 : Int))) := Onl.of_set _ rfl
  refine ⟨h.hl.onl g fun n e => by subst e; exact ⟨h.gn, hfn, fun cs ty hh => by have := h.bn; unfold Blk at this; rw [this] at hh; cases hh; rfl⟩, h.bn.set 0 _, h.bi.far (show ib ≠ nb by have := h.gi; omega) _, fun D hD => ⟨(h.dk D hD).1, (g.block D (Array.getElem?_eq_some_iff.1 (h.dk D hD).2).1 fun e => ?_).trans (h.dk D hD).2⟩, h.dn, h.gn, h.gi⟩
  have h1 := (h.dk D hD).2
  have h2 := h.bn
  unfold Blk at h2
  rw [e, h2] at h1
  cases h1
/-- The next place, in a cell of its own. -/
theorem H2At.place {cc : Nat} (h : H2At w0 w t km om rb vb ob nb ib B T ow ov i cc Ds) : H2At w0 (w.alloc (.cells #[.int .i64 ((i : Int) + 1)] TI)) t km om rb vb ob nb w.heap.size B T ow ov (i + 1) cc Ds := by
  have g : Gr w (w.alloc (.cells #[.int .i64 ((i : Int) + 1)] TI)) := (Gr.refl w).alloc (Nat.le_refl _) _
  have h2 := h.more g
  have e : ((i + 1 : Nat) : Int) = (i : Int) + 1 := by omega
  have b := Blk.new w TI #[.int .i64 ((i : Int) + 1)]
  rw [← e] at b
  rw [← e] at h2 ⊢
  exact { h2 with bi := b, gi := h.bn.lt }
/-- A range was gone through. -/
theorem H2At.ranged {cc c2 D mm : Nat} (h : H2At w0 w t km om rb vb ob nb ib B T ow ov i cc Ds) (g : Onl (fun n => n = nb ∨ n = mm) w w') (hm : ∃ es c, w.heap[mm]? = some (.map es c)) (hf : ¬ FB B mm) (hg : w0.heap.size ≤ mm)
    (hn : Blk w' nb TI #[.int .i64 (c2 : Int)]) (hD : w.heap.size ≤ D) (hK : w'.heap[D]? = some (.deferred (some []))) : H2At w0 w' t km om rb vb ob nb ib B T ow ov i c2 (D :: Ds) := by
  have hfn : ¬ FB B nb := h.hl.tb.far_ty h.bn (by decide) (by decide) (by decide) (by decide)
  obtain ⟨es, ck, hm⟩ := hm
  have hbn := h.bn
  unfold Blk at hbn
  refine ⟨h.hl.onl g fun n e => ?_, hn, h.bi.stays (g.block ib h.bi.lt fun e => ?_), fun E hE => ?_, List.nodup_cons.2 ⟨fun hE => ?_, h.dn⟩, h.gn, h.gi⟩
  · rcases e with e | e
    · subst e; exact ⟨h.gn, hfn, fun cs ty hh => by rw [hbn] at hh; cases hh; rfl⟩
    · subst e; exact ⟨hg, hf, fun cs ty hh => by rw [hm] at hh; cases hh⟩
  · rcases e with e | e
    · have := h.gi; omega
    · have := h.bi; unfold Blk at this; rw [e, hm] at this; cases this
  · rcases List.mem_cons.1 hE with e | e
    · subst e; exact ⟨Nat.le_trans h.hl.gr.size hD, hK⟩
    · have h1 := (h.dk E e).2
      refine ⟨(h.dk E e).1, (g.block E (Array.getElem?_eq_some_iff.1 h1).1 fun e2 => ?_).trans h1⟩
      rcases e2 with e2 | e2
      · rw [e2, hbn] at h1; cases h1
      · rw [e2, hm] at h1; cases h1
  · have := (Array.getElem?_eq_some_iff.1 (h.dk D hE).2).1
    omega
/-- The end: the answer is stored. -/
theorem H2At.out {cc : Nat} {W : World} (h : H2At w0 w t km om rb vb ob nb ib B T ow ov i cc Ds) (hW : W = w.setCell ⟨rb, 0, none⟩ (.bool true)) :
    (∀ D, D ∈ Ds → W.heap[D]? = some (.deferred (some []))) ∧ W.cell? ⟨nb, 0, none⟩ = some (.int .i64 (cc : Int)) ∧ W.cell? ⟨vb, 0, none⟩ = some (.pointer (some ⟨t, 0, none⟩)) ∧
      ∀ W', Onl (fun k => k ∈ Ds) W W' → W'.cell? ⟨rb, 0, none⟩ = some (.bool true) ∧ Gr w0 W' := by
  have a := h.hl.br
  have b := h.bn
  have c := h.hl.bv
  unfold Blk at a b c
  have n1 : nb ≠ rb := fun e => by rw [e, a] at b; cases b
  have n2 : vb ≠ rb := fun e => by rw [e, a] at c; cases c
  have nD : ∀ D, D ∈ Ds → D ≠ rb := fun D hD e => by have := (h.dk D hD).2; rw [e, a] at this; cases this
  subst hW
  have hk : ∀ D, D ∈ Ds → (w.setCell ⟨rb, 0, none⟩ (.bool true)).heap[D]? = some (.deferred (some [])) := fun D hD => (heap_setCell_other w ⟨rb, 0, none⟩ D _ (nD D hD)).trans (h.dk D hD).2
  have h1 : (Blk w nb TI #[.int .i64 (cc : Int)]) := h.bn
  refine ⟨hk, (h1.far (show nb ≠ rb from n1) _).cell 0, (h.hl.bv.far (show vb ≠ rb from n2) _).cell 0, fun W' hw => ?_⟩
  have b2 : Blk (w.setCell ⟨rb, 0, none⟩ (.bool true)) rb TBl #[.bool true] := h.hl.br.set 0 _
  have b3 : Blk W' rb TBl #[.bool true] := b2.stays (hw.block rb b2.lt fun e => nD rb e rfl)
  refine ⟨b3.cell 0, ?_⟩
  have g : Gr w0 (w.setCell ⟨rb, 0, none⟩ (.bool true)) := h.hl.gr.setCell (p := ⟨rb, 0, none⟩) h.hl.ge.1 _
  exact ⟨hw.os.trans g.os, hw.tape.trans g.tape, hw.output.trans g.output, Nat.le_trans g.size hw.size, fun n hn => (hw.block n (Nat.lt_of_lt_of_le hn g.size) fun e => by have := (h.dk n e).1; omega).trans (g.block n hn)⟩
end
end Go.Proofs.Ytbmcdlcoojmppaa

/-
  The law LockHolds: the slots of a region. (Made by gen_h33.py.)
-/
namespace Go.Proofs.Ytbmcdlcoojmppaa
open Go.RowKit Go.Maps
def SlH33 (t g4 N c4 i o : Nat) (Q1 Q2 : Int) (WB DB : Bool) (xs : List Nat) (slot : Nat) (v : Value) (W : World) : Prop :=
  match slot with
  | 126 => v = .bool WB
  | 127 => v = .pointer (some ⟨t, 0, none⟩)
  | 128 => v = .agg #[.int .i64 Q1, .int .i64 Q2]
  | 130 => v = .slice (some ⟨g4, 0, none⟩) N c4
  | 131 => v = .int .i64 (i : Int)
  | 132 => v = .pointer (some ⟨g4, i, none⟩)
  | 133 => v = .int .u64 (o : Int)
  | 134 => v = .bool DB
  | 135 => v = .bool (WB != DB)
  | 136 => v = .bool (WB != DB)
  | 138 => v = .bool false
  | 129 => USl W v xs
  | 137 => (WB != DB) = true → v = .bool WB
  | _ => True
theorem SlH33.mono {t g4 N c4 i o : Nat} {Q1 Q2 : Int} {WB DB : Bool} {xs : List Nat} (d : Nat) (v : Value) (w w' : World) (h : SlH33 t g4 N c4 i o Q1 Q2 WB DB xs d v w) (g : Gr w w') : SlH33 t g4 N c4 i o Q1 Q2 WB DB xs d v w' := by
  by_cases e : d = 129
  · subst e
    exact USl.gr (show USl w v xs from h) g
  · have e2 : SlH33 t g4 N c4 i o Q1 Q2 WB DB xs d v w' = SlH33 t g4 N c4 i o Q1 Q2 WB DB xs d v w := by
      unfold SlH33
      split <;> first | rfl | exact absurd rfl e
    rw [e2]
    exact h
end Go.Proofs.Ytbmcdlcoojmppaa

/-
  Acts of the laws on locks, as they come in.
-/
namespace Go.Proofs.Ytbmcdlcoojmppaa
open Go.ChangeShapes Go.WideShapes Go.ChangeAt Go.RowKit Go.Maps

theorem u64Of {x : Int} (h : (Lit.int .u64 x).wf = true) : 0 ≤ x ∧ x ≤ 18446744073709551615 := by
  have h1 : IntKind.u64.min = 0 := rfl
  have h2 : IntKind.u64.max = 18446744073709551615 := rfl
  simp only [Lit.wf, Bool.and_eq_true, decide_eq_true_eq] at h
  omega
theorem i64Of {x : Int} (h : (Lit.int .i64 x).wf = true) : -9223372036854775808 ≤ x ∧ x ≤ 9223372036854775807 := by
  have h1 : IntKind.i64.min = -9223372036854775808 := rfl
  have h2 : IntKind.i64.max = 9223372036854775807 := rfl
  simp only [Lit.wf, Bool.and_eq_true, decide_eq_true_eq] at h
  omega
/-- An act of the laws. -/
structure LAct where
  free : Bool
  ow : Nat
  k : Key
  m : Int
def LAct.cells (a : LAct) : List Value := [.bool a.free, .int .u64 (a.ow : Int), .int .i64 a.k.1, .int .i64 a.k.2, .int .i64 a.m]
structure LAct.In (a : LAct) : Prop where
  o : KO.dom a.ow
  k : KL.dom a.k
  m0 : -9223372036854775808 ≤ a.m
  m1 : a.m ≤ 9223372036854775807
structure LActs (w : World) (p : Option Addr) (n c : Nat) (f : Nat → LAct) : Prop where
  cap : n ≤ c
  most : c ≤ maxLen
  lies : 0 < n → ∃ b o, p = some ⟨b, o, none⟩ ∧ ∀ i, i < n → (f i).In ∧ ∀ j v, (f i).cells[j]? = some v → w.cell? ⟨b, o + i * 5 + j, none⟩ = some v
/-- A row of it, in each world that has grown. -/
theorem LActs.row {w : World} {p : Option Addr} {n c : Nat} {f : Nat → LAct} (h : LActs w p n c f) (k : Nat) (hk : k < n) : ∃ b o, p = some ⟨b, o, none⟩ ∧ (f k).In ∧ ∀ V, Below w.heap.size w V → ∀ j v, (f k).cells[j]? = some v → V.cell? ⟨b, o + k * 5 + j, none⟩ = some v := by
  obtain ⟨b, o, rfl, hc⟩ := h.lies (by omega)
  obtain ⟨h1, h2⟩ := hc k hk
  exact ⟨b, o, rfl, h1, fun V g j v hv => by rw [g.cell (World.block_lt_of_cell? w _ (h2 j v hv))]; exact h2 j v hv⟩
abbrev TAl : TypeId := 32
set_option maxRecDepth 100000 in
/-- An argument of type []Act, opened. -/
theorem openLActs {H : Type} {enc : TypeId × Value → H} {W : World} {a : Option Addr} {len cap : Nat} {d : DataW H} {p : List MemPlace}
    (h : DataW.Trod enc Try.prog W 0 (fun _ => true) true 22 (.slice a len cap) d p) : ∃ f, LActs W a len cap f := by
  obtain ⟨fuel, hf⟩ := h
  have hc : Try.prog.cellsOf TAl = 5 := by kernel_rfl
  have hc1 : Try.prog.cellsOf 4 = 1 := by kernel_rfl
  have hc2 : Try.prog.cellsOf 27 = 1 := by kernel_rfl
  have hc3 : Try.prog.cellsOf 29 = 2 := by kernel_rfl
  have hc4 : Try.prog.cellsOf 30 = 1 := by kernel_rfl
  have hc5 : Try.prog.cellsOf 3 = 1 := by kernel_rfl
  rcases Go.Deep.open_slice Try.underlying22 hf with ⟨hcs, _⟩ | ⟨x, l, c, m, n, D, Pl, hcs, _, hl, hm, hmm, _, hx⟩
  · simp [Value.cells] at hcs
    obtain ⟨rfl, rfl, rfl⟩ := hcs
    exact ⟨fun _ => ⟨false, 0, (0, 0), 0⟩, Nat.le_refl _, Nat.zero_le _, fun h => absurd h (Nat.lt_irrefl 0)⟩
  · simp [Value.cells] at hcs
    obtain ⟨rfl, rfl, rfl⟩ := hcs
    simp only [if_true] at hmm
    subst hmm
    have hc' : Try.prog.cellsOf 32 = 5 := hc
    rw [hc'] at hx
    have each : ∀ i, ∃ g : LAct, i < len → g.In ∧ ∀ j v, g.cells[j]? = some v → W.cell? ((x.add (i * 5)).add j) = some v := fun i => by
      by_cases hi : i < len
      · obtain ⟨cs, h1, h2⟩ := hx i (by omega)
        obtain ⟨_, hlen, hcells⟩ := World.cells?_some h1
        obtain ⟨xs, k, _, _, _, hlx, hff⟩ := DataW.trod_struct Try.underlying32 h2
        match xs, hlx with
        | [y0, y1, y2, y3], _ =>
          match cs, hlen with
          | [c0, c1, c2, c3, c4], _ =>
            have t0 := hff 0 _ rfl
            have t1 := hff 1 _ rfl
            have t2 := hff 2 _ rfl
            have t3 := hff 3 _ rfl
            simp [hc1] at t0
            simp [hc2] at t1
            simp [hc3] at t2
            simp [hc4] at t3
            obtain ⟨F, e0, _⟩ := DataW.trod_bool Try.underlying4 t0
            obtain ⟨O, e1, _, w1⟩ := DataW.trod_int Try.underlying27 t1
            obtain ⟨M, e3, _, w3⟩ := DataW.trod_int Try.underlying30 t3
            obtain ⟨ys, k2, _, _, _, hly, hgg⟩ := DataW.trod_struct Try.underlying29 t2
            match ys, hly with
            | [z0, z1], _ =>
              have s0 := hgg 0 _ rfl
              have s1 := hgg 1 _ rfl
              simp [hc5] at s0
              simp [hc5] at s1
              obtain ⟨K1, e4, _, w4⟩ := DataW.trod_int Try.underlying3 s0
              obtain ⟨K2, e5, _, w5⟩ := DataW.trod_int Try.underlying3 s1
              simp at e0 e1 e3 e4 e5
              subst e0 e1 e3 e4 e5
              have b1 := u64Of w1
              have b3 := i64Of w3
              have b4 := i64Of w4
              have b5 := i64Of w5
              obtain ⟨N, rfl⟩ := Int.eq_ofNat_of_zero_le b1.1
              refine ⟨⟨F, N, (K1, K2), M⟩, fun _ => ⟨⟨(show N ≤ _ by omega), ⟨b4, b5⟩, b3.1, b3.2⟩, fun j v hj => ?_⟩⟩
              have hlt : j < 5 := by have := (List.getElem?_eq_some_iff.1 hj).1; simpa [LAct.cells] using this
              rw [hcells j (by omega)]
              exact hj
      · exact ⟨⟨false, 0, (0, 0), 0⟩, fun h => absurd h hi⟩
    obtain ⟨f, hf2⟩ := Classical.axiomOfChoice each
    refine ⟨f, hl, hm, fun hn => ?_⟩
    have hc0 := (hf2 0 hn).2 0 _ rfl
    obtain ⟨b, o, sp⟩ := x
    obtain rfl : sp = none := by simpa [Addr.add] using World.cell?_spot hc0
    refine ⟨b, o, rfl, fun i hi => ⟨(hf2 i hi).1, fun j v hj => ?_⟩⟩
    have := (hf2 i hi).2 j v hj
    simpa only [Go.WideShapes.add_plain] using this
end Go.Proofs.Ytbmcdlcoojmppaa

