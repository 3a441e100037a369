
/-
  The law DiskApart: its range over all sectors that are not noughts, by itself.
-/
import Derived.Test.YtkoalabacfjgbaaApartEnd
import Derived.Test.YtkoalabacfjgbaaFlowIn
namespace Go.Proofs.Ytkoalabacfjgbaa
open Go.RowKit Go.Maps Go.Shelf
attribute [local go_sem] Oper.semAt_some

/-- The first range over a function that stands in a code. -/
def firstRange : Code → Option Code
  | .seq a b => match firstRange a with
    | some c => some c
    | none => firstRange b
  | .cond _ a b => match firstRange a with
    | some c => some c
    | none => firstRange b
  | .block _ a => firstRange a
  | .loop a => firstRange a
  | .scope a => firstRange a
  | .rangeFunc f p a b => some (.rangeFunc f p a b)
  | _ => none
def rangeOf (f : Func) : Code := match f.body with
  | some c => (firstRange c).getD .skip
  | none => .skip

def SdA (gu : Nat) (cu : Nat) (N : Nat) (i : Nat) (S : Sec) (slot : Nat) (v : Value) (_ : World) : Prop :=
  match slot with
  | 248 | 253 | 254 | 260 => v = .int .i64 (i : Int)
  | 249 | 259 => v = .slice (some ⟨gu, 0, none⟩) N cu
  | 250 => v = .int .i64 (N : Int)
  | 251 | 252 | 255 | 256 | 257 | 263 | 264 => v = .bool false
  | 258 | 262 => v = .agg (sec S)
  | 261 => v = .pointer (some ⟨gu, i * 256, none⟩)
  | _ => True

set_option maxRecDepth 100000 in
set_option maxHeartbeats 8000000 in
theorem apart_range {Q : Exit → Act → World → Prop} {x0 x1 x2 x3 x4 x5 x7 x8 x9 x10 x11 x12 x13 x14 x15 x16 x17 x19 x20 x21 x22 x23 x24 x25 x27 x28 x29 x30 x31 x32 x33 x34 x35 x36 x37 x38 x39 x40 x41 x42 x43 x44 x45 x46 x47 x48 x49 x50 x51 x52 x53 x54 x55 x56 x57 x58 x59 x60 x61 x62 x63 x64 x65 x66 x67 x68 x69 x70 x71 x72 x73 x74 x75 x76 x77 x78 x79 x80 x81 x82 x83 x84 x85 x86 x87 x88 x89 x90 x91 x92 x93 x94 x95 x96 x97 x98 x99 x100 x101 x102 x103 x104 x105 x106 x107 x108 x109 x110 x111 x112 x113 x114 x115 x116 x117 x118 x119 x120 x121 x122 x123 x124 x125 x126 x127 x128 x129 x130 x131 x132 x133 x134 x135 x136 x137 x138 x139 x140 x141 x142 x143 x144 x145 x146 x147 x148 x149 x150 x151 x152 x153 x154 x155 x156 x157 x158 x159 x160 x161 x162 x163 x164 x165 x166 x167 x168 x169 x170 x171 x172 x173 x174 x175 x176 x177 x178 x179 x180 x181 x182 x183 x184 x185 x186 x187 x188 x189 x190 x191 x192 x193 x194 x195 x196 x197 x198 x199 x200 x201 x202 x203 x204 x205 x206 x207 x208 x209 x210 x211 x212 x213 x214 x215 x216 x217 x218 x219 x220 x221 x222 x223 x224 x225 x226 x227 x228 x229 x230 x232 x233 x234 x235 x236 x237 x238 x239 x240 x241 x242 x243 x244 x245 x246 x247 x248 x249 x250 x251 x252 x253 x254 x255 x256 x257 x258 x259 x260 x261 x262 x263 x264 x265 x266 x267 x268 x269 x270 x271 x272 x273 x274 x275 x276 x277 x278 x279 x280 x281 x282 x283 x284 x285 x286 x287 : Value} (w X : World) (RB gu N cu IB : Nat) (s : St) (Bd : Nat) (Fa : Nat → Prop) (ab : Nat) (alv : Value) (am : Nat) (aL : Nat → Value)
    (hBd : Blk X Bd TPD #[.pointer (some ⟨ab, 0, none⟩)]) (hAl : DkAt X Fa ab alv am aL s) (hl : s.ls.length = N) (hN : N ≤ 40) (hAp : ∀ k, (Fa k ∨ k = Bd ∨ X.heap.size ≤ k) → k ≠ IB) (hF0 : FinA w RB gu N cu IB s false 0 X)
    (hQ : ∀ (D k : Nat) (V : World), X.heap.size ≤ D → FinA w RB gu N cu IB s false k V → k ≤ N → noughts s k N → V.heap[D]? = some (.deferred (some [])) → Q .normal { tmps := #[x0, x1, x2, x3, x4, x5, .pointer (some ⟨w.heap.size, 0, none⟩), x7, x8, x9, x10, x11, x12, x13, x14, x15, x16, x17, .pointer (some ⟨RB, 0, none⟩), x19, x20, x21, x22, x23, x24, x25, .pointer (some ⟨IB, 0, none⟩), x27, x28, x29, x30, x31, x32, x33, x34, x35, x36, x37, x38, x39, x40, x41, x42, x43, x44, x45, x46, x47, x48, x49, x50, x51, x52, x53, x54, x55, x56, x57, x58, x59, x60, x61, x62, x63, x64, x65, x66, x67, x68, x69, x70, x71, x72, x73, x74, x75, x76, x77, x78, x79, x80, x81, x82, x83, x84, x85, x86, x87, x88, x89, x90, x91, x92, x93, x94, x95, x96, x97, x98, x99, x100, x101, x102, x103, x104, x105, x106, x107, x108, x109, x110, x111, x112, x113, x114, x115, x116, x117, x118, x119, x120, x121, x122, x123, x124, x125, x126, x127, x128, x129, x130, x131, x132, x133, x134, x135, x136, x137, x138, x139, x140, x141, x142, x143, x144, x145, x146, x147, x148, x149, x150, x151, x152, x153, x154, x155, x156, x157, x158, x159, x160, x161, x162, x163, x164, x165, x166, x167, x168, x169, x170, x171, x172, x173, x174, x175, x176, x177, x178, x179, x180, x181, x182, x183, x184, x185, x186, x187, x188, x189, x190, x191, x192, x193, x194, x195, x196, x197, x198, x199, x200, x201, x202, x203, x204, x205, x206, x207, x208, x209, x210, x211, x212, x213, x214, x215, x216, x217, x218, x219, x220, x221, x222, x223, x224, x225, x226, x227, x228, x229, x230, .func (.func 32) #[] #[.pointer (some ⟨Bd, 0, none⟩)], x232, x233, x234, x235, x236, x237, x238, x239, x240, x241, x242, x243, x244, x245, x246, x247, x248, x249, x250, x251, x252, x253, x254, x255, x256, x257, x258, x259, x260, x261, x262, x263, x264, x265, x266, x267, x268, x269, x270, x271, x272, x273, x274, x275, x276, x277, x278, x279, x280, x281, x282, x283, x284, x285, x286, x287], defers := [{ target := .collected D, args := #[] }] } V) :
    (rangeOf Try.f3).wpIn Fence.wide 12 Try.prog Q { tmps := #[x0, x1, x2, x3, x4, x5, .pointer (some ⟨w.heap.size, 0, none⟩), x7, x8, x9, x10, x11, x12, x13, x14, x15, x16, x17, .pointer (some ⟨RB, 0, none⟩), x19, x20, x21, x22, x23, x24, x25, .pointer (some ⟨IB, 0, none⟩), x27, x28, x29, x30, x31, x32, x33, x34, x35, x36, x37, x38, x39, x40, x41, x42, x43, x44, x45, x46, x47, x48, x49, x50, x51, x52, x53, x54, x55, x56, x57, x58, x59, x60, x61, x62, x63, x64, x65, x66, x67, x68, x69, x70, x71, x72, x73, x74, x75, x76, x77, x78, x79, x80, x81, x82, x83, x84, x85, x86, x87, x88, x89, x90, x91, x92, x93, x94, x95, x96, x97, x98, x99, x100, x101, x102, x103, x104, x105, x106, x107, x108, x109, x110, x111, x112, x113, x114, x115, x116, x117, x118, x119, x120, x121, x122, x123, x124, x125, x126, x127, x128, x129, x130, x131, x132, x133, x134, x135, x136, x137, x138, x139, x140, x141, x142, x143, x144, x145, x146, x147, x148, x149, x150, x151, x152, x153, x154, x155, x156, x157, x158, x159, x160, x161, x162, x163, x164, x165, x166, x167, x168, x169, x170, x171, x172, x173, x174, x175, x176, x177, x178, x179, x180, x181, x182, x183, x184, x185, x186, x187, x188, x189, x190, x191, x192, x193, x194, x195, x196, x197, x198, x199, x200, x201, x202, x203, x204, x205, x206, x207, x208, x209, x210, x211, x212, x213, x214, x215, x216, x217, x218, x219, x220, x221, x222, x223, x224, x225, x226, x227, x228, x229, x230, .func (.func 32) #[] #[.pointer (some ⟨Bd, 0, none⟩)], x232, x233, x234, x235, x236, x237, x238, x239, x240, x241, x242, x243, x244, x245, x246, x247, x248, x249, x250, x251, x252, x253, x254, x255, x256, x257, x258, x259, x260, x261, x262, x263, x264, x265, x266, x267, x268, x269, x270, x271, x272, x273, x274, x275, x276, x277, x278, x279, x280, x281, x282, x283, x284, x285, x286, x287], defers := [] } X := by
  have HBd : Hid (Blk X Bd TPD #[.pointer (some ⟨ab, 0, none⟩)] ∧ DkAt X Fa ab alv am aL s) := Lib.hid ⟨hBd, hAl⟩
  have HLn := Lib.hid hl
  have HAp := Lib.hid hAp
  have HF0 := Lib.hid hF0
  have HQ := Lib.hid hQ
  have HSz : Hid (w.heap.size ≤ X.heap.size) := Lib.hid hF0.gr.size
  clear hBd hAl hl hAp hF0 hQ
  have hrc : rangeOf Try.f3 = Code.rangeFunc _ _ _ _ := rfl
  rw [hrc]
  clear hrc
  refine wpIn_range_toldF (F := Fence.wide) rfl (by omega) (gf := 32) (lb := #[.pointer (some ⟨Bd, 0, none⟩)]) rfl trivial (enters_of Try.func32 (by kernel_rfl) rfl)
    (dall1_told 11 (by omega) Bd Fa ab alv am aL s X HBd.out.1 HBd.out.2) (Below.refl _ _) (fun _ => rfl)
    (fun pre V => ∃ k, FinA w RB gu N cu IB s false k V ∧ (k ≤ N ∧ pre = upTo s k)) (fun _ _ => False) (finA_own HSz.out _) (fun _ _ _ _ h _ _ => h) ⟨0, HF0.out, Nat.zero_le _, rfl⟩
    (fun tm x (R : Nat) => (((tm.setIfInBounds 232 (.int .i64 (x.1 : Int))).setIfInBounds 233 (.agg (sec x.2))).setIfInBounds 27 (.int .i64 (x.1 : Int))).setIfInBounds 28 (.pointer (some ⟨R, 0, none⟩)))
    (fun pre x R V => (x.1 < N ∧ x.2 = s.nw x.1 ∧ x.2 ≠ Sec.zero ∧ pre = upTo s x.1) ∧ IB < R ∧ Blk V R TS (sec x.2)) ?hBx ?assign ?body ?done ?stop
  case hBx =>
    rintro pre x R z X Y row ⟨h1, h2, h3⟩ hg hr
    exact ⟨h1, h2, h3.held (hold_grown hg (fun r e => (hr r e).2))⟩
  case assign =>
    rintro l pre x V K ⟨k, hi, hk⟩ hx hK
    have HX := Lib.hid (show (x.1 < N ∧ x.2 = s.nw x.1 ∧ x.2 ≠ Sec.zero ∧ pre = upTo s x.1) from ⟨by rw [← HLn.out]; exact hx.1, hx.2⟩)
    have HI := Lib.hid hi
    have HK := Lib.hid hk
    clear hx hi hk
    have HZ := Lib.hid (Blk.new V TS (sec Sec.zero))
    have hz := zero_sec
    simp only [List.setIfInBounds_toArray, List.set_cons_succ, List.set_cons_zero] at hK
    gi_wp2_with (refine wpListIn_store_sec rfl (.tmp 28) (.tmp 233) rfl HZ.out rfl rfl ?_)
    have gn : Gr V ((V.alloc (.cells (sec Sec.zero) TS)).setRow V.heap.size (sec x.2)) := below_setRow (Gr.new V (.cells (sec Sec.zero) TS)) (Nat.le_refl _) (sec x.2)
    refine hK V.heap.size _ ((⟨gn.size, fun k o hk _ => (gn.block k (Array.getElem?_eq_some_iff.1 hk).1).trans hk⟩ : KeepsOthers V _).from _) ⟨gn.size, fun k o _ h1 _ => (gn.block k (Array.getElem?_eq_some_iff.1 h1).1).trans h1⟩ ⟨k, HI.out.up gn, HK.out⟩ ⟨HX.out, HI.out.cell.lt, HZ.out.row _⟩
  case stop =>
    rintro D pre V hD _ hi
    exact hi.elim
  case done =>
    rintro D ys V hD hS ⟨k, hi, hk, hp⟩ hK
    obtain ⟨d, hd⟩ : ∃ d, N = k + d := ⟨N - k, by omega⟩
    refine HQ.out D k V hD hi hk ?_ hK
    have h := hp.symm.trans hS
    rw [HLn.out, hd] at h
    rw [hd]
    exact upTo_skip h
  case body =>
    rintro l pre x R W8 hlw ⟨k, hi, hk, hp⟩ ⟨⟨hx1, hx2, hx3, hx4⟩, hR, hbR⟩
    obtain ⟨i, S⟩ := x
    simp only at hx1 hx2 hx3 hx4 hbR ⊢
    have hnx := upTo_next (hp.symm.trans hx4) (by rw [← hx2]; exact hx3)
    simp only [List.setIfInBounds_toArray, List.set_cons_succ, List.set_cons_zero]
    have HNX : Hid (k ≤ i ∧ noughts s k i) := Lib.hid hnx
    have HXS : Hid (S = s.nw i ∧ S ≠ Sec.zero ∧ pre = upTo s i ∧ upTo s (i + 1) = upTo s i ++ [(i, S)]) := Lib.hid ⟨hx2, hx3, hx4, by rw [hx2]; exact upTo_yes (by rw [← hx2]; exact hx3)⟩
    have HI := Lib.hid hi
    have HRB : Hid (IB < R ∧ Blk W8 R TS (sec S)) := Lib.hid ⟨hR, hbR⟩
    clear hi hk hp hx2 hx3 hx4 hR hbR hnx
    gi_wp2_with fail
    gi_loopw [245] (fun _ wr => ∃ j : Nat, k ≤ j ∧ j ≤ i ∧ Hid (FinA w RB gu N cu IB s false j wr ∧ Blk wr R TS (sec S)) ∧ Hid (KeepsFrom X.heap.size W8 wr ∧ HoldS firm (fun k => Fa k ∨ k = Bd ∨ X.heap.size ≤ k) W8 wr)) (fun _ wr => i - (intOf ((wr.cell? ⟨IB, 0, none⟩).getD undef)).toNat)
    case atStart => exact ⟨k, Nat.le_refl _, HNX.out.1, Lib.hid ⟨HI.out, HRB.out.2⟩, Lib.hid ⟨KeepsFrom.refl _ _, HoldS.refl _ _ _⟩⟩
    case round =>
      obtain ⟨j, hj1, hj2, hf, hkp⟩ := hrel
      have n26 := hf.out.1.cell.cell 0
      have f26 := hf.out.1.cell.frozen 0
      have n18 := hf.out.1.rd.cell 0
      simp at n26 n18
      have hjn : (j : Int) < N := by omega
      have hjn2 : j < N := by omega
      have hq := eqi_sec
      have hz := zero_sec
      have hlie := hf.out.1.row.lies j (by simp; exact hjn2)
      obtain ⟨T, hT⟩ : ∃ T, T = ((List.range N).map s.nw)[j]'(by simp; exact hjn2) := ⟨_, rfl⟩
      rw [← hT] at hlie
      have HT : Hid (T = s.nw j) := Lib.hid (by rw [hT]; simp)
      have HLI := Lib.hid hlie
      clear hT hlie
      by_cases hlt : j < i
      · have hd : decide (T = Sec.zero) = true := decide_eq_true (by rw [HT.out]; exact HNX.out.2 j hj1 hlt)
        gi_wp2_with (refine wpListIn_load_sec rfl (.tmp 241) rfl HLI.out rfl ?_)
        have HF9 : Hid (FinA w RB gu N cu IB s false (j + 1) (wr.setCell ⟨IB, 0, none⟩ (.int .i64 ((j : Int) + 1))) ∧ Blk (wr.setCell ⟨IB, 0, none⟩ (.int .i64 ((j : Int) + 1))) R TS (sec S)) := Lib.hid ⟨hf.out.1.step _ (by omega), hf.out.2.far (by show R ≠ IB; have := HRB.out.1; omega) _⟩
        have HK9 : Hid (KeepsFrom X.heap.size W8 (wr.setCell ⟨IB, 0, none⟩ (.int .i64 ((j : Int) + 1))) ∧ HoldS firm (fun k => Fa k ∨ k = Bd ∨ X.heap.size ≤ k) W8 (wr.setCell ⟨IB, 0, none⟩ (.int .i64 ((j : Int) + 1)))) := Lib.hid ⟨hkp.out.1.trans ((KeepsOthers.setCell _ _ _).from _), hkp.out.2.trans ⟨by simp, fun k o hk h1 _ => (heap_setCell_other wr ⟨IB, 0, none⟩ k _ (HAp.out k hk)).trans h1⟩⟩
        have HC9 := HF9.out.1.cell.cell 0
        simp at HC9
        go_roundw
        case rel => exact ⟨j + 1, by omega, by omega, HF9, HK9⟩
        case measure => rw [n26, HC9]; simp [intOf]; omega
      · obtain rfl : i = j := by omega
        have hd : decide (T = Sec.zero) = false := decide_eq_false (by rw [HT.out, ← HXS.out.1]; exact HXS.out.2.1)
        have HTS : Hid (T = S) := Lib.hid (HT.out.trans HXS.out.1.symm)
        gi_wp2_with (refine wpListIn_load_sec rfl (.tmp 241) rfl HLI.out rfl ?_)
        obtain ⟨W9, hW9⟩ : ∃ W9, W9 = wr := ⟨_, rfl⟩
        subst hW9
        have HC : Hid (∀ W, Gr W9 W → W.cell? ⟨IB, 0, none⟩ = some (.int .i64 (i : Int))) := Lib.hid fun W gr => (hf.out.1.cell.gr gr).cell 0
        have HL : Hid (∀ W, Gr W9 W → W.cell? ⟨RB, 0, none⟩ = some (.slice (some ⟨gu, 0, none⟩) N cu)) := Lib.hid fun W gr => (hf.out.1.rd.gr gr).cell 0
        have HX : Hid (∀ W, Gr W9 W → W.rangeAt R 0 S.cells) := Lib.hid fun W gr => (hf.out.2.gr gr).one
        have HS : Hid (∀ W, Gr W9 W → W.rangeAt gu (i * 256) S.cells) := Lib.hid fun W gr k v hv => (Below.cell gr (p := ⟨gu, i * 256 + k, none⟩) (World.block_lt_of_cell? _ _ (HLI.out k v (by rw [HTS.out]; exact hv)))).trans (HLI.out k v (by rw [HTS.out]; exact hv))
        have HLT : Hid ((i : Int) < N ∧ i < N) := Lib.hid ⟨hjn, hjn2⟩
        have HDD : Hid (decide (S = S) = true) := Lib.hid (decide_eq_true rfl)
        clear hd hq hz n26 n18 f26 HT HLI hjn hjn2
        refine Flow.regionIn l _ (SdA gu cu N i S) (Gr W9) (fun _ _ => True) (by kernel_rfl) (by kernel_rfl) (by kernel_rfl) (fun _ _ _ _ h _ => h) ⟨rfl, rfl, rfl, Nat.le_refl _, fun _ _ => rfl⟩ ?steps ?fin
        case steps =>
          refine Flow.Steps.cons (fun a W hfr hinv hdep K hK => ?_) ?_
          · have s26 : a.tmps.getD 26 undef = .pointer (some ⟨IB, 0, none⟩) := hfr.at 26 (by kernel_rfl)
            have t26 : a.tmps[26]?.getD undef = .pointer (some ⟨IB, 0, none⟩) := by simpa using s26
            have n26 := HC.out W hinv
            rw [if_pos (Flow.wanted_none rfl)]
            clear hfr hdep
            go_simp
            exact hK _ _ True.intro hinv (fun d hd => by cases hd; trivial)
          refine Flow.Steps.cons (fun a W hfr hinv hdep K hK => ?_) ?_
          · have s18 : a.tmps.getD 18 undef = .pointer (some ⟨RB, 0, none⟩) := hfr.at 18 (by kernel_rfl)
            have t18 : a.tmps[18]?.getD undef = .pointer (some ⟨RB, 0, none⟩) := by simpa using s18
            have n18 := HL.out W hinv
            rw [if_pos (Flow.wanted_none rfl)]
            clear hfr hdep
            go_simp
            exact hK _ _ True.intro hinv (fun d hd => by cases hd; trivial)
          refine Flow.Steps.cons (fun a W hfr hinv hdep K hK => ?_) ?_
          · have s249 : a.tmps.getD 249 undef = .slice (some ⟨gu, 0, none⟩) N cu := hdep 249 (by kernel_rfl)
            have t249 : a.tmps[249]?.getD undef = .slice (some ⟨gu, 0, none⟩) N cu := by simpa using s249
            rw [if_pos (Flow.wanted_none rfl)]
            clear hfr hdep
            go_simp
            exact hK _ _ True.intro hinv (fun d hd => by cases hd; trivial)
          refine Flow.Steps.cons (fun a W hfr hinv hdep K hK => ?_) ?_
          · have s248 : a.tmps.getD 248 undef = .int .i64 (i : Int) := hdep 248 (by kernel_rfl)
            have t248 : a.tmps[248]?.getD undef = .int .i64 (i : Int) := by simpa using s248
            have s250 : a.tmps.getD 250 undef = .int .i64 (N : Int) := hdep 250 (by kernel_rfl)
            have t250 : a.tmps[250]?.getD undef = .int .i64 (N : Int) := by simpa using s250
            have hge : decide (N ≤ i) = false := decide_eq_false (by have := HLT.out.2; omega)
            rw [if_pos (Flow.wanted_none rfl)]
            clear hfr hdep
            go_simp
            exact hK _ _ True.intro hinv (fun d hd => by cases hd; trivial)
          refine Flow.Steps.cons (fun a W hfr hinv hdep K hK => ?_) ?_
          · have s251 : a.tmps.getD 251 undef = .bool false := hdep 251 (by kernel_rfl)
            have t251 : a.tmps[251]?.getD undef = .bool false := by simpa using s251
            rw [if_pos (Flow.wanted_none rfl)]
            clear hfr hdep
            go_simp
            exact hK _ _ True.intro hinv (fun d hd => by cases hd; trivial)
          refine Flow.Steps.cons (fun a W hfr hinv hdep K hK => ?_) ?_
          · have sg : a.tmps.getD 252 undef = .bool false := hdep 252 (by kernel_rfl)
            have s27 : a.tmps.getD 27 undef = .int .i64 (i : Int) := hfr.at 27 (by kernel_rfl)
            have t27 : a.tmps[27]?.getD undef = .int .i64 (i : Int) := by simpa using s27
            rw [if_pos (Flow.wanted_yes 4 false 252 rfl (by kernel_rfl) sg)]
            clear hfr hdep
            go_simp
            exact hK _ _ True.intro hinv (fun d hd => by cases hd; trivial)
          refine Flow.Steps.cons (fun a W hfr hinv hdep K hK => ?_) ?_
          · have sg : a.tmps.getD 252 undef = .bool false := hdep 252 (by kernel_rfl)
            have s26 : a.tmps.getD 26 undef = .pointer (some ⟨IB, 0, none⟩) := hfr.at 26 (by kernel_rfl)
            have t26 : a.tmps[26]?.getD undef = .pointer (some ⟨IB, 0, none⟩) := by simpa using s26
            have n26 := HC.out W hinv
            rw [if_pos (Flow.wanted_yes 4 false 252 rfl (by kernel_rfl) sg)]
            clear hfr hdep
            go_simp
            exact hK _ _ True.intro hinv (fun d hd => by cases hd; trivial)
          refine Flow.Steps.cons (fun a W hfr hinv hdep K hK => ?_) ?_
          · have sg : a.tmps.getD 252 undef = .bool false := hdep 252 (by kernel_rfl)
            have s253 : a.tmps.getD 253 undef = .int .i64 (i : Int) := hdep 253 (by kernel_rfl)
            have t253 : a.tmps[253]?.getD undef = .int .i64 (i : Int) := by simpa using s253
            have s254 : a.tmps.getD 254 undef = .int .i64 (i : Int) := hdep 254 (by kernel_rfl)
            have t254 : a.tmps[254]?.getD undef = .int .i64 (i : Int) := by simpa using s254
            rw [if_pos (Flow.wanted_yes 4 false 252 rfl (by kernel_rfl) sg)]
            clear hfr hdep
            go_simp
            exact hK _ _ True.intro hinv (fun d hd => by cases hd; trivial)
          refine Flow.Steps.cons (fun a W hfr hinv hdep K hK => ?_) ?_
          · have s252 : a.tmps.getD 252 undef = .bool false := hdep 252 (by kernel_rfl)
            have t252 : a.tmps[252]?.getD undef = .bool false := by simpa using s252
            have s255 : a.tmps.getD 255 undef = .bool false := hdep 255 (by kernel_rfl)
            have t255 : a.tmps[255]?.getD undef = .bool false := by simpa using s255
            rw [if_pos (Flow.wanted_none rfl)]
            clear hfr hdep
            go_simp
            exact hK _ _ True.intro hinv (fun d hd => by cases hd; trivial)
          refine Flow.Steps.cons (fun a W hfr hinv hdep K hK => ?_) ?_
          · have s256 : a.tmps.getD 256 undef = .bool false := hdep 256 (by kernel_rfl)
            have t256 : a.tmps[256]?.getD undef = .bool false := by simpa using s256
            rw [if_pos (Flow.wanted_none rfl)]
            clear hfr hdep
            go_simp
            exact hK _ _ True.intro hinv (fun d hd => by cases hd; trivial)
          refine Flow.Steps.cons (fun a W hfr hinv hdep K hK => ?_) ?_
          · have sg : a.tmps.getD 257 undef = .bool false := hdep 257 (by kernel_rfl)
            have s28 : a.tmps.getD 28 undef = .pointer (some ⟨R, 0, none⟩) := hfr.at 28 (by kernel_rfl)
            have t28 : a.tmps[28]?.getD undef = .pointer (some ⟨R, 0, none⟩) := by simpa using s28
            rw [if_pos (Flow.wanted_yes 9 false 257 rfl (by kernel_rfl) sg)]
            clear hfr hdep
            refine wp_load_sec (.tmp 28) rfl (HX.out W hinv) (by simpa [Act.eval] using s28) ?_
            exact hK _ _ True.intro hinv (fun d hd => by cases hd; trivial)
          refine Flow.Steps.cons (fun a W hfr hinv hdep K hK => ?_) ?_
          · have sg : a.tmps.getD 257 undef = .bool false := hdep 257 (by kernel_rfl)
            have s18 : a.tmps.getD 18 undef = .pointer (some ⟨RB, 0, none⟩) := hfr.at 18 (by kernel_rfl)
            have t18 : a.tmps[18]?.getD undef = .pointer (some ⟨RB, 0, none⟩) := by simpa using s18
            have n18 := HL.out W hinv
            rw [if_pos (Flow.wanted_yes 9 false 257 rfl (by kernel_rfl) sg)]
            clear hfr hdep
            go_simp
            exact hK _ _ True.intro hinv (fun d hd => by cases hd; trivial)
          refine Flow.Steps.cons (fun a W hfr hinv hdep K hK => ?_) ?_
          · have sg : a.tmps.getD 257 undef = .bool false := hdep 257 (by kernel_rfl)
            have s26 : a.tmps.getD 26 undef = .pointer (some ⟨IB, 0, none⟩) := hfr.at 26 (by kernel_rfl)
            have t26 : a.tmps[26]?.getD undef = .pointer (some ⟨IB, 0, none⟩) := by simpa using s26
            have n26 := HC.out W hinv
            rw [if_pos (Flow.wanted_yes 9 false 257 rfl (by kernel_rfl) sg)]
            clear hfr hdep
            go_simp
            exact hK _ _ True.intro hinv (fun d hd => by cases hd; trivial)
          refine Flow.Steps.cons (fun a W hfr hinv hdep K hK => ?_) ?_
          · have sg : a.tmps.getD 257 undef = .bool false := hdep 257 (by kernel_rfl)
            have s259 : a.tmps.getD 259 undef = .slice (some ⟨gu, 0, none⟩) N cu := hdep 259 (by kernel_rfl)
            have t259 : a.tmps[259]?.getD undef = .slice (some ⟨gu, 0, none⟩) N cu := by simpa using s259
            have s260 : a.tmps.getD 260 undef = .int .i64 (i : Int) := hdep 260 (by kernel_rfl)
            have t260 : a.tmps[260]?.getD undef = .int .i64 (i : Int) := by simpa using s260
            have hlt := HLT.out
            rw [if_pos (Flow.wanted_yes 9 false 257 rfl (by kernel_rfl) sg)]
            clear hfr hdep
            go_simp
            exact hK _ _ True.intro hinv (fun d hd => by cases hd; trivial)
          refine Flow.Steps.cons (fun a W hfr hinv hdep K hK => ?_) ?_
          · have sg : a.tmps.getD 257 undef = .bool false := hdep 257 (by kernel_rfl)
            have s261 : a.tmps.getD 261 undef = .pointer (some ⟨gu, i * 256, none⟩) := hdep 261 (by kernel_rfl)
            have t261 : a.tmps[261]?.getD undef = .pointer (some ⟨gu, i * 256, none⟩) := by simpa using s261
            rw [if_pos (Flow.wanted_yes 9 false 257 rfl (by kernel_rfl) sg)]
            clear hfr hdep
            refine wp_load_sec (.tmp 261) rfl (HS.out W hinv) (by simpa [Act.eval] using s261) ?_
            exact hK _ _ True.intro hinv (fun d hd => by cases hd; trivial)
          refine Flow.Steps.cons (fun a W hfr hinv hdep K hK => ?_) ?_
          · have sg : a.tmps.getD 257 undef = .bool false := hdep 257 (by kernel_rfl)
            have s258 : a.tmps.getD 258 undef = .agg (sec S) := hdep 258 (by kernel_rfl)
            have t258 : a.tmps[258]?.getD undef = .agg (sec S) := by simpa using s258
            have s262 : a.tmps.getD 262 undef = .agg (sec S) := hdep 262 (by kernel_rfl)
            have t262 : a.tmps[262]?.getD undef = .agg (sec S) := by simpa using s262
            have hq := eqi_sec
            have hd := HDD.out
            rw [if_pos (Flow.wanted_yes 9 false 257 rfl (by kernel_rfl) sg)]
            clear hfr hdep
            go_simp
            exact hK _ _ True.intro hinv (fun d hd => by cases hd; trivial)
          refine Flow.Steps.cons (fun a W hfr hinv hdep K hK => ?_) ?_
          · have s257 : a.tmps.getD 257 undef = .bool false := hdep 257 (by kernel_rfl)
            have t257 : a.tmps[257]?.getD undef = .bool false := by simpa using s257
            have s263 : a.tmps.getD 263 undef = .bool false := hdep 263 (by kernel_rfl)
            have t263 : a.tmps[263]?.getD undef = .bool false := by simpa using s263
            rw [if_pos (Flow.wanted_none rfl)]
            clear hfr hdep
            go_simp
            exact hK _ _ True.intro hinv (fun d hd => by cases hd; trivial)
          exact True.intro
        case fin =>
          intro a W hfr hfin hsl
          have s264 : a.tmps.getD 264 undef = .bool false := hsl 16 _ 264 rfl rfl
          have t264 : a.tmps[264]?.getD undef = .bool false := by simpa using s264
          clear hsl s264
          have e := Flow.frame hfr [248, 249, 250, 251, 252, 253, 254, 255, 256, 257, 258, 259, 260, 261, 262, 263, 264] (List.range 288) (by kernel_rfl) (by kernel_rfl)
          simp (maxSteps := 2000000) [List.range, List.range.loop] at e
          rw [t264] at e
          rw [e]
          clear e hfr t264
          first
            | (rename_i hB; refine hB _ _ ?_)
            | (rename_i hB y0; refine hB _ _ ?_)
            | (rename_i hB y0 y1; refine hB _ _ ?_)
            | (rename_i hB y0 y1 y2; refine hB _ _ ?_)
            | (rename_i hB y0 y1 y2 y3; refine hB _ _ ?_)
            | (rename_i hB y0 y1 y2 y3 y4; refine hB _ _ ?_)
          have HF9 := Lib.hid (hf.out.1.up hfin)
          have HKO : Hid (KeepsOthers W9 W) := Lib.hid ⟨hfin.size, fun k o hk _ => (hfin.block k (Array.getElem?_eq_some_iff.1 hk).1).trans hk⟩
          have HHS : Hid (HoldS firm (fun k => Fa k ∨ k = Bd ∨ X.heap.size ≤ k) W9 W) := Lib.hid ⟨hfin.size, fun k o _ h1 _ => (hfin.block k (Array.getElem?_eq_some_iff.1 h1).1).trans h1⟩
          have n26 := HF9.out.cell.cell 0
          have f26 := HF9.out.cell.frozen 0
          simp at n26
          clear hfin HC HL HX HS hf
          gi_wp2_with fail
          exact And.intro (hkp.out.1.trans ((HKO.out.trans (KeepsOthers.setCell _ _ _)).from _)) (And.intro (hkp.out.2.trans (HHS.out.trans ⟨by simp, fun k o hk h1 _ => (heap_setCell_other W ⟨IB, 0, none⟩ k _ (HAp.out k hk)).trans h1⟩)) ⟨i + 1, HF9.out.step _ (by omega), by have := HLT.out.2; omega, by rw [HXS.out.2.2.2, HXS.out.2.2.1]⟩)

end Go.Proofs.Ytkoalabacfjgbaa
