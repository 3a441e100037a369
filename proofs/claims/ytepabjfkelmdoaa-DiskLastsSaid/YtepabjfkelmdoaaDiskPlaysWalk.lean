/-
  The law DiskPlays, walked.
-/
import Derived.Test.YtepabjfkelmdoaaActs
namespace Go.Proofs.Ytepabjfkelmdoaa
open Go.RowKit Go.Maps

theorem size_act : (Try.prog.info? TAct).map (·.size) = some 5 := by kernel_rfl
theorem wpList_load_act {ops : Array Oper} {rest : List Oper} {op : Oper} {a : Act} {w : World} {Q : Exit → Act → World → Prop} (hgd : op.guard = none) (x : Operand) (ho : op.op = .load TAct x) {b o : Nat} {av : Array Value} (hc : w.rangeAt b o av.toList) (hl : av.size = 5) (hx : a.eval x = .pointer (some ⟨b, o, none⟩))
    (h : wpList Try.prog ops Q rest (a.put op.dst (.agg av)) w) : wpList Try.prog ops Q (op :: rest) a w :=
  wpList_load_mid hgd TAct x ho b o hx av.toList _ hc Try.underlying35 rfl (by rw [Array.length_toList, hl]; exact size_act) (by simpa using h)
theorem act_size (a : Do) (v : Value) : (a.val v).size = 5 := rfl
/-- Both are made. -/
theorem OwnP.made {w w1 w2 w3 : World} {d p : Value} {F : Nat → Prop} {l : List Sec} (hd : Dk w1 F d (fresh l)) (g1 : Gr w w1) (hF : ∀ k, F k → w.heap.size ≤ k) (g2 : Gr w1 w2) {G : Nat → Prop} (hr : Rf w3 G p (fresh l)) (g3 : Gr w2 w3) (hG : ∀ k, G k → w2.heap.size ≤ k) : OwnP w w3 d p (fresh l) := by
  refine ⟨F, G, ⟨hd.gr (Gr.trans g2 g3), hr, fun k hk hk2 => ?_⟩, Gr.trans g1 (Gr.trans g2 g3), fun k hk => ?_⟩
  · have h1 := hd.low k hk
    have h2 := hG k hk2
    have h3 := g2.size
    omega
  · rcases hk with hk | hk
    · exact hF k hk
    · exact Nat.le_trans (Nat.le_trans g1.size g2.size) (hG k hk)

set_option maxRecDepth 100000 in
set_option maxHeartbeats 4000000 in
theorem diskPlays_main (N : Nat) (h1 : 1 ≤ N) (h2 : N ≤ 60) (q : Option Addr) (m c : Nat) (hm : m ≤ 60) (f : Nat → Do) (w : World) (hf : Acts w q m f) :
    Calls Try.prog 3 #[.int .i64 (N : Int), .slice q m c] w fun e w' => RetTrue w e w' := by
  have HA := Lib.hid hf
  obtain ⟨i0, hi, hz0, hz1, hz2⟩ := info_parts info_sec
  have HI := Lib.hid hi
  have HZ0 := Lib.hid hz0
  have HZ1 := Lib.hid hz1
  have HZ2 := Lib.hid hz2
  clear hi hz0 hz1 hz2 hf
  go_enter Try.func3, Try.ntmps3
  go_wp2_with fail
  refine (New_yes N _ ⟨by omega, by omega⟩).mono ?_
  rintro e w1 ⟨d, F, rfl, hd, hg, hfar⟩
  have HD1 := Lib.hid hd
  have HG1 := Lib.hid hg
  have HF1 := Lib.hid hfar
  clear hd hg hfar
  go_wp2_with (at_make; refine wpList_make_full _ rfl _ _ TL rfl 0 TS i0 (.agg (sec Sec.zero)) 256 Try.underlying30 HI.out HZ0.out HZ1.out _ _ _ _ N rfl rfl rfl rfl ?b1 ?b2 (Nat.zero_le _) ?_)
  case b1 => rw [HZ2.out]; omega
  case b2 => unfold maxLen; omega
  intro w2 hown hgrow
  have hz := made_zero N
  simp only [Value.cells] at hz
  rw [hz] at hown
  clear hz
  have hr : Row w2 (.slice (some ⟨w1.heap.size, 0, none⟩) N N) (List.replicate N Sec.zero) := by
    unfold Row
    rw [List.length_replicate]
    exact hown
  have HG2 : Hid (Gr w1 w2) := Lib.hid ((Gr.refl w1).grown hgrow (Nat.le_refl _) (fun k e => by cases e))
  have HC := Lib.hid (refNew_any w2 _ _ hr (by rw [List.length_replicate]; omega) (by rw [List.length_replicate]; omega))
  clear hown hgrow hr
  go_wp2_with fail
  refine HC.out.mono ?_
  rintro e w3 ⟨p, G, rfl, hr, hg3, hG3⟩
  have HO : Hid (OwnP w w3 d p (fresh (List.replicate N Sec.zero))) := Lib.hid (OwnP.made HD1.out HG1.out HF1.out HG2.out hr hg3 hG3)
  clear hr hg3 hG3 HC HG2 HD1 HG1 HF1 HI HZ0 HZ1 HZ2
  go_wp2_with fail
  go_loopw [5, 7, 8, 9] (fun dv rv ok i wr => ∃ (k : Nat) (p r : Value) (s : St), k ≤ m ∧ i = .int .i64 k ∧ ok = .bool true ∧ p = dv ∧ r = rv ∧ Hid (OwnP w wr p r s) ∧ Hid (s.ls.length = N ∧ s.writes ≤ k)) (fun _ _ _ i _ => m - (intOf i).toNat)
  case atStart => exact ⟨0, _, _, _, Nat.zero_le _, rfl, rfl, rfl, rfl, HO, Lib.hid ⟨by simp [fresh], Nat.le_refl _⟩⟩
  case round =>
    obtain ⟨k, p, r, s, hk, rfl, rfl, rfl, rfl, ho, hs⟩ := hrel
    by_cases hlt : k < m
    · have hact := HA.out.gr ho.out.grown
      obtain ⟨b2, o2, rfl, hc2⟩ := hact.2 (by omega)
      obtain ⟨hok, q2, n2, c2, hr2, hn2⟩ := hc2 k hlt
      obtain ⟨a, ha⟩ : ∃ a, a = f k := ⟨_, rfl⟩
      rw [← ha] at hok hr2 hn2
      have HR := Lib.hid hr2
      have HSz : Hid ((a.val (.slice q2 n2 c2)).size = 5) := Lib.hid (act_size a _)
      have HDo := Lib.hid (ho.out.does a hok q2 n2 c2 hn2 (by have := hs.out.2; omega))
      have HS2 : Hid ((s.does a).ls.length = N ∧ (s.does a).writes ≤ k + 1) := Lib.hid ⟨by rw [does_len]; exact hs.out.1, by have := does_writes s a; have := hs.out.2; omega⟩
      obtain ⟨av, hav⟩ : ∃ av, av = a.val (.slice q2 n2 c2) := ⟨_, rfl⟩
      rw [← hav] at HR HSz HDo
      obtain ⟨s2, hs2⟩ : ∃ s2, s2 = s.does a := ⟨_, rfl⟩
      rw [← hs2] at HDo HS2
      clear hact hc2 hok hr2 hn2 ho hs ha hav hs2
      go_wp2_with (refine wpList_load_act rfl (.tmp 62) rfl HR.out HSz.out rfl ?_)
      refine HDo.out.mono ?_
      rintro e w4 ⟨p4, r4, rfl, ho4⟩
      have HSm := Lib.hid (ho4.same (by have := HS2.out.2; omega))
      have HO4 := Lib.hid ho4
      clear ho4 HDo HR HSz
      go_wp2_with fail
      refine HSm.out.mono ?_
      rintro e w5 ⟨rfl, hg5⟩
      have HO5 := Lib.hid (HO4.out.gr hg5)
      clear hg5 HO4 HSm
      go_wp2_with fail
      go_roundw
      case rel => exact ⟨k + 1, _, _, _, by omega, by go_num, rfl, rfl, rfl, HO5, HS2⟩
      case measure => simp [intOf]; omega
    · obtain rfl : k = m := by omega
      obtain ⟨F5, G5, h51, h52, h53⟩ := ho.out
      have HR1 := Lib.hid (Read_no wr h51.dk (-1) (.inl (by omega)))
      have HDk := Lib.hid h51.dk
      have HG5 := Lib.hid h52
      have HSl := Lib.hid hs.out.1
      clear h51 h52 h53 ho hs
      go_wp2_with fail
      refine HR1.out.mono ?_
      rintro e w7 ⟨rfl, g7⟩
      have HZe := Lib.hid (Blk.new w7 TS (sec Sec.zero))
      have hz := zero_sec
      have hgg : Gr w7 ((w7.alloc (.cells (sec Sec.zero) TS)).setRow w7.heap.size (sec Sec.zero)) := below_setRow (Gr.new w7 _) (Nat.le_refl _) _
      have HG8 := Lib.hid (Gr.trans HG5.out (Gr.trans g7 hgg))
      have HD8 := Lib.hid (HDk.out.gr (Gr.trans g7 hgg))
      clear g7 hgg HDk HG5 HR1
      go_wp2_with (refine wpList_store_sec rfl (.tmp 10) (.tmp 79) rfl HZe.out rfl rfl ?_)
      clear hz HZe
      generalize ((w7.alloc (.cells (sec Sec.zero) TS)).setRow w7.heap.size (sec Sec.zero)) = W8 at *
      have HR2 := Lib.hid (Read_no W8 HD8.out (N : Int) (.inr (by rw [HSl.out]; omega)))
      clear HD8
      first | refine HR2.out.mono ?_ | (go_wp2_with fail; refine HR2.out.mono ?_)
      rintro e w9 ⟨rfl, g9⟩
      have HZe := Lib.hid (Blk.new w9 TS (sec Sec.zero))
      have hz := zero_sec
      have hgg : Gr w9 ((w9.alloc (.cells (sec Sec.zero) TS)).setRow w9.heap.size (sec Sec.zero)) := below_setRow (Gr.new w9 _) (Nat.le_refl _) _
      have HG9 := Lib.hid (Gr.trans HG8.out (Gr.trans g9 hgg))
      clear g9 hgg HG8 HR2
      go_wp2_with (refine wpList_store_sec rfl (.tmp 12) (.tmp 85) rfl HZe.out rfl rfl ?_)
      clear hz HZe
      generalize ((w9.alloc (.cells (sec Sec.zero) TS)).setRow w9.heap.size (sec Sec.zero)) = W10 at *
      first | refine (known_any _).mono ?_ | (go_wp2_with fail; refine (known_any _).mono ?_)
      rintro e w11 ⟨rfl, g11⟩
      have HGf := Lib.hid (Gr.trans HG9.out g11)
      clear g11 HG9
      go_wp2_with fail
      go_ret
      exact ⟨rfl, HGf.out⟩

set_option maxRecDepth 100000 in
set_option maxHeartbeats 2000000 in
theorem diskPlays_many (n : Int) (q : Option Addr) (m c : Nat) (w : World) (hm63 : m ≤ 9223372036854775807) (h : (60 < n ∧ n ≤ 65536) ∨ 60 < m) :
    Calls Try.prog 3 #[.int .i64 n, .slice q m c] w fun e w' => RetTrue w e w' := by
  by_cases h1 : 60 < n
  · by_cases h2 : n ≤ 65536
    · clear h
      go_enter Try.func3, Try.ntmps3
      go_wp2_with fail
      refine (known_any _).mono ?_
      rintro e w1 ⟨rfl, g1⟩
      go_wp2_with fail
      go_ret
      exact ⟨rfl, g1⟩
    · have h3 : (60 : Int) < (m : Int) := by omega
      clear h
      go_enter Try.func3, Try.ntmps3
      go_wp2_with fail
      refine (known_any _).mono ?_
      rintro e w1 ⟨rfl, g1⟩
      go_wp2_with fail
      go_ret
      exact ⟨rfl, g1⟩
  · have h3 : (60 : Int) < (m : Int) := by omega
    clear h
    go_enter Try.func3, Try.ntmps3
    go_wp2_with fail
    refine (known_any _).mono ?_
    rintro e w1 ⟨rfl, g1⟩
    go_wp2_with fail
    go_ret
    exact ⟨rfl, g1⟩

set_option maxRecDepth 100000 in
set_option maxHeartbeats 2000000 in
theorem diskPlays_none (n : Int) (q : Option Addr) (m c : Nat) (w : World) (hm : m ≤ 60) (h : n < 1 ∨ 65536 < n) :
    Calls Try.prog 3 #[.int .i64 n, .slice q m c] w fun e w' => RetTrue w e w' := by
  have hm2 : ¬ (60 : Int) < (m : Int) := by omega
  have HN := Lib.hid (New_no n w (fun hs => by obtain ⟨h1, h2⟩ := hs; omega))
  by_cases h1 : n < 1
  · have h2 : ¬ 60 < n := by omega
    clear h
    go_enter Try.func3, Try.ntmps3
    go_wp2_with fail
    refine HN.out.mono ?_
    rintro e w1 ⟨rfl, rfl⟩
    go_wp2_with fail
    refine (known_any _).mono ?_
    rintro e w1 ⟨rfl, g1⟩
    go_wp2_with fail
    go_ret
    exact ⟨rfl, g1⟩
  · have h2 : 65536 < n := by omega
    have h3 : 60 < n := by omega
    have h4 : ¬ n ≤ 65536 := by omega
    clear h
    go_enter Try.func3, Try.ntmps3
    go_wp2_with fail
    refine HN.out.mono ?_
    rintro e w1 ⟨rfl, rfl⟩
    go_wp2_with fail
    refine (known_any _).mono ?_
    rintro e w1 ⟨rfl, g1⟩
    go_wp2_with fail
    go_ret
    exact ⟨rfl, g1⟩

theorem diskPlays_walk (n : Int) (q : Option Addr) (m c : Nat) (f : Nat → Do) (w : World) (hf : Acts w q m f) :
    Calls Try.prog 3 #[.int .i64 n, .slice q m c] w fun e w' => RetTrue w e w' := by
  by_cases h1 : (60 < n ∧ n ≤ 65536) ∨ 60 < m
  · exact diskPlays_many n q m c w hf.1 h1
  · by_cases h2 : n < 1 ∨ 65536 < n
    · exact diskPlays_none n q m c w (by omega) h2
    · obtain ⟨N, rfl⟩ := Int.eq_ofNat_of_zero_le (show 0 ≤ n by omega)
      exact diskPlays_main N (by omega) (by omega) q m c (by omega) f w hf

end Go.Proofs.Ytepabjfkelmdoaa
