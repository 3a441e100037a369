/-
  Texts, put together: Wal1 Types Crc1 Crc2.
-/
import Derived.Deep.QuietTactic
import Derived.BigQuiet
import Derived.Test.YtdmhemgepdknhaaGreatProg
import Derived.Deep.RegionLaw
import Derived.Test.YtdmhemgepdknhaaGreatV1
import Derived.Test.YtdmhemgepdknhaaGreatV7
import Derived.Test.YtdmhemgepdknhaaGreatV8
set_option linter.unusedVariables false
set_option linter.unusedSimpArgs false
namespace Go.Proofs.YtdmhemgepdknhaaGreat
open Go.RowKit Go.Maps
abbrev TLg:TypeId:=105
theorem Blk.c10 {w:World} {b:Nat} {t:TypeId} {x0 x1 x2 x3 x4 x5 x6 x7 x8 x9:Value} (h:Blk w b t #[x0,x1,x2,x3,x4,x5,x6,x7,x8,x9]) :
  w.cell? ⟨b,0,none⟩=some x0∧w.cell? ⟨b,1,none⟩=some x1∧w.cell? ⟨b,2,none⟩=some x2∧w.cell? ⟨b,3,none⟩=some x3∧w.cell? ⟨b,4,none⟩=some x4∧w.cell? ⟨b,5,none⟩=some x5∧w.cell? ⟨b,6,none⟩=some x6∧w.cell? ⟨b,7,none⟩=some x7∧w.cell? ⟨b,8,none⟩=some x8∧w.cell? ⟨b,9,none⟩=some x9:=
 ⟨h.cell 0,h.cell 1,h.cell 2,h.cell 3,h.cell 4,h.cell 5,h.cell 6,h.cell 7,h.cell 8,h.cell 9⟩
theorem wmissing_no (d b:Nat) (p:Value) (n:Int) (l:Int) (g:Int) (ep:Nat) (tl:Nat) (la:Nat) (q:Option Addr) (m:Nat) (c:Nat) (rs:Int) (bg:Bool) (w:World) (h:Blk w b TLg #[p,.int .i64 n,.int .i64 l,.int .i64 g,.int .u64 ep,.int .u64 tl,.int .u64 la,.slice q m c,.int .i64 rs,.bool bg]) (hp:p=.pointer (some ⟨d,0,none⟩)):Calls Tryz.prog 50 #[.pointer (some ⟨b,0,none⟩)] w fun e w'=>e=.returned (.bool false)∧w=w':=by
 obtain ⟨c0,c1,c2,c3,c4,c5,c6,c7,c8,c9⟩:=h.c10;clear h c1 c2 c3 c4 c5 c6 c7 c8 c9;subst hp
 go_enter Tryz.func50,Tryz.ntmps50
 go_wp2
 go_ret
 exact ⟨rfl,rfl⟩
theorem ahead_any (k:Nat) (w:World) (h:k≤18446744073709551615):Calls Tryz.prog 66 #[.int .u64 (k:Int)] w fun e w'=>e=.returned (.int .i64 ((k % 232:Nat):Int))∧w=w':=by
 have h0:(0:Int)≤(k:Int):=by omega
 have h1:(k:Int)≤18446744073709551615:=by omega
 go_enter Tryz.func66,Tryz.ntmps66
 go_wp2
 go_ret
 exact ⟨ret_i (by omega),rfl⟩
theorem sectorOf_any (k:Nat) (w:World) (h:k≤18446744073709551615):Calls Tryz.prog 98 #[.int .u64 (k:Int)] w fun e w'=>e=.returned (.int .u64 ((k / 232:Nat):Int))∧w=w':=by
 have h0:(0:Int)≤(k:Int):=by omega
 have h1:(k:Int)≤18446744073709551615:=by omega
 go_enter Tryz.func98,Tryz.ntmps98
 go_wp2
 go_ret
 exact ⟨ret_i (by omega),rfl⟩
theorem wword_any (n:Nat) (s:Int) (w:World):Calls Tryz.prog 156 #[.int .u64 n,.int .i64 s] w (RetByte (putR n s) w):=by
 go_enter Tryz.func156,Tryz.ntmps156
 go_wp2_with fail;refine (put_any n s w).mono ?_;rintro e w1 ⟨p,m,c,rfl,hb,hg,hf⟩
 go_wp2
 go_ret
 exact ⟨p,m,c,rfl,hb,hg,hf⟩
def SlWEnd (_:Value) (_:Int) (_:Int) (_:Int) (_:Nat) (_:Nat) (la:Nat) (q:Option Addr) (m:Nat) (c:Nat) (_:Int) (_:Bool) (b:Nat) (A:Nat) (X:Nat) (E:Nat) (slot:Nat) (v:Value) (_:World):Prop:=
 match slot with
 | 5 | 6 | 9 | 10 | 16 | 17=>v=.pointer (some ⟨b,0,none⟩)
 | 7 | 11=>v=.pointer (some ⟨b,6,none⟩)
 | 8 | 12=>v=.int .u64 la
 | 13=>v=.int .i64 (A:Int)
 | 14=>v=.int .u64 (A:Int)
 | 15=>v=.int .u64 (X:Int)
 | 18=>v=.pointer (some ⟨b,7,none⟩)
 | 19=>v=.slice q m c
 | 20=>v=.int .i64 m
 | 21=>v=.int .u64 m
 | 22 | 2=>v=.int .u64 (E:Int)
 | _=>True
def SlWFre (_:Value) (_:Int) (_:Int) (_:Int) (_:Nat) (tl:Nat) (_:Nat) (_:Option Addr) (_:Nat) (_:Nat) (_:Int) (_:Bool) (b:Nat) (A:Nat) (E:Nat) (X:Nat) (Y:Nat) (slot:Nat) (v:Value) (_:World):Prop:=
 match slot with
 | 14 | 15 | 19 | 21 | 22=>v=.pointer (some ⟨b,0,none⟩)
 | 16 | 23=>v=.pointer (some ⟨b,5,none⟩)
 | 17 | 24=>v=.int .u64 tl
 | 18=>v=.int .i64 (A:Int)
 | 20=>v=.int .u64 (E:Int)
 | 25=>v=.int .u64 (X:Int)
 | 26=>v=.int .i64 (X:Int)
 | 27 | 4=>v=.int .i64 (Y:Int)
 | _=>True
def SlWPla (_:Value) (n:Int) (l:Int) (g:Int) (_:Nat) (_:Nat) (_:Nat) (_:Option Addr) (_:Nat) (_:Nat) (_:Int) (_:Bool) (b:Nat) (k:Nat) (M:Nat) (R:Nat) (slot:Nat) (v:Value) (_:World):Prop:=
 match slot with
 | 8 | 9 | 13 | 14=>v=.pointer (some ⟨b,0,none⟩)
 | 10 | 15=>v=.pointer (some ⟨b,1,none⟩)
 | 11=>v=.agg #[.int .i64 n,.int .i64 l,.int .i64 g]
 | 12=>v=.int .u64 (k:Int)
 | 16=>v=.pointer (some ⟨b,2,none⟩)
 | 17=>v=.int .i64 l
 | 18=>v=.int .u64 l
 | 19=>v=.int .u64 (M:Int)
 | 20=>v=.int .i64 (M:Int)
 | 21 | 7=>v=.tuple #[.int .i64 (R:Int),.int .i64 0]
 | 22 | 5=>v=.int .i64 (R:Int)
 | 23 | 6=>v=.int .i64 0
 | _=>True
def RetU (x:Nat) (w:World) (e:Ending) (w':World):Prop:=e=.returned (.int .u64 (x:Int))∧Gr w w'
set_option maxRecDepth 100000 in
set_option maxHeartbeats 1000000 in
theorem wEnd_any (d b:Nat) (p:Value) (n:Int) (l:Int) (g:Int) (ep:Nat) (tl:Nat) (la:Nat) (q:Option Addr) (m:Nat) (c:Nat) (rs:Int) (bg:Bool) (w:World) (h:Blk w b TLg #[p,.int .i64 n,.int .i64 l,.int .i64 g,.int .u64 ep,.int .u64 tl,.int .u64 la,.slice q m c,.int .i64 rs,.bool bg]) (hp:p=.pointer (some ⟨d,0,none⟩)) (hE:la+m≤9223372036854775807):Calls Tryz.prog 37 #[.pointer (some ⟨b,0,none⟩)] w (RetU (la - la % 232+m) w):=by
 have HM:=Lib.hid (wmissing_no d b p n l g ep tl la q m c rs bg w h hp);have HB:=Lib.hid h;obtain ⟨A,hA⟩:∃ A,A=la % 232:=⟨_,rfl⟩;obtain ⟨X,hX⟩:∃ X,X=la - A:=⟨_,rfl⟩;obtain ⟨E,hE2⟩:∃ E,E=X+m:=⟨_,rfl⟩
 have HAh:Hid (∀ W,Calls Tryz.prog 66 #[.int .u64 (la:Int)] W fun e w'=>e=.returned (.int .i64 (A:Int))∧W=w'):=Lib.hid fun W=>by rw [hA];exact ahead_any la W (by omega)
 have HLA:Hid (IntKind.u64.wrap (A:Int)=(A:Int)∧IntKind.u64.wrap ((la:Int) - (A:Int))=(X:Int)∧IntKind.u64.wrap ((X:Int)+(m:Int))=(E:Int)∧IntKind.u64.wrap (m:Int)=(m:Int)):=Lib.hid ⟨by rw [IntKind.wrap_u64];omega,by rw [IntKind.wrap_u64];omega,by rw [IntKind.wrap_u64];omega,by rw [IntKind.wrap_u64];omega⟩;have HR:Hid (la - la % 232+m=E):=Lib.hid (by rw [hE2,hX,hA]);clear h hE hA hX hE2
 go_enter Tryz.func37,Tryz.ntmps37
 go_wp2_with fail;refine HM.out.mono ?_;rintro e w1 ⟨rfl,rfl⟩;go_wp2_with fail;refine Flow.region (SlWEnd p n l g ep tl la q m c rs bg b A X E) (Gr w) (fun _ _=>True) (by kernel_rfl) (by kernel_rfl) (fun _ _ _ _ h _=>h) ⟨rfl,rfl,rfl,Nat.le_refl _,fun _ _=>rfl⟩ ?steps ?fin
 case steps=>
  refine .cons (fun a W hfr hinv hdep K hK=>?_) ?_
  · have t0:=tAt (.pointer (some ⟨b,0,none⟩)) (hfr.at 0 (by kernel_rfl));refine fW0 rfl ?_;clear hfr hdep;go_simp;exact hK _ _ True.intro hinv (dsT (by trivial))
  refine .cons (fun a W hfr hinv hdep K hK=>?_) ?_
  · have t5:=tAt (.pointer (some ⟨b,0,none⟩)) (hdep 5 (by kernel_rfl));refine fW0 rfl ?_;clear hfr hdep;go_simp;exact hK _ _ True.intro hinv (dsT (by trivial))
  refine .cons (fun a W hfr hinv hdep K hK=>?_) ?_
  · have t6:=tAt (.pointer (some ⟨b,0,none⟩)) (hdep 6 (by kernel_rfl));refine fW0 rfl ?_;clear hfr hdep;go_simp;exact hK _ _ True.intro hinv (dsT (by trivial))
  refine .cons (fun a W hfr hinv hdep K hK=>?_) ?_
  · have t7:=tAt (.pointer (some ⟨b,6,none⟩)) (hdep 7 (by kernel_rfl));obtain ⟨c0,c1,c2,c3,c4,c5,c6,c7,c8,c9⟩:=(HB.out.gr hinv).c10;refine fW0 rfl ?_;clear hfr hdep;go_simp;exact hK _ _ True.intro hinv (dsT (by trivial))
  refine .cons (fun a W hfr hinv hdep K hK=>?_) ?_
  · have t0:=tAt (.pointer (some ⟨b,0,none⟩)) (hfr.at 0 (by kernel_rfl));refine fW0 rfl ?_;clear hfr hdep;go_simp;exact hK _ _ True.intro hinv (dsT (by trivial))
  refine .cons (fun a W hfr hinv hdep K hK=>?_) ?_
  · have t9:=tAt (.pointer (some ⟨b,0,none⟩)) (hdep 9 (by kernel_rfl));refine fW0 rfl ?_;clear hfr hdep;go_simp;exact hK _ _ True.intro hinv (dsT (by trivial))
  refine .cons (fun a W hfr hinv hdep K hK=>?_) ?_
  · have t10:=tAt (.pointer (some ⟨b,0,none⟩)) (hdep 10 (by kernel_rfl));refine fW0 rfl ?_;clear hfr hdep;go_simp;exact hK _ _ True.intro hinv (dsT (by trivial))
  refine .cons (fun a W hfr hinv hdep K hK=>?_) ?_
  · have t11:=tAt (.pointer (some ⟨b,6,none⟩)) (hdep 11 (by kernel_rfl));obtain ⟨c0,c1,c2,c3,c4,c5,c6,c7,c8,c9⟩:=(HB.out.gr hinv).c10;refine fW0 rfl ?_;clear hfr hdep;go_simp;exact hK _ _ True.intro hinv (dsT (by trivial))
  refine .cons (fun a W hfr hinv hdep K hK=>?_) ?_
  · have t12:=tAt (.int .u64 la) (hdep 12 (by kernel_rfl));refine fW0 rfl ?_;clear hfr hdep;go_simp;refine (HAh.out W).mono ?_;rintro e W' ⟨rfl,rfl⟩;exact hK _ _ True.intro hinv (dsT (by trivial))
  refine .cons (fun a W hfr hinv hdep K hK=>?_) ?_
  · have t13:=tAt (.int .i64 (A:Int)) (hdep 13 (by kernel_rfl));have hb:=HLA.out.1;refine fW0 rfl ?_;clear hfr hdep;go_simp;exact hK _ _ True.intro hinv (dsT (by trivial))
  refine .cons (fun a W hfr hinv hdep K hK=>?_) ?_
  · have t8:=tAt (.int .u64 la) (hdep 8 (by kernel_rfl));have t14:=tAt (.int .u64 (A:Int)) (hdep 14 (by kernel_rfl));have hw:=HLA.out.2.1;refine fW0 rfl ?_;clear hfr hdep;go_simp;exact hK _ _ True.intro hinv (dsT (by trivial))
  refine .cons (fun a W hfr hinv hdep K hK=>?_) ?_
  · have t0:=tAt (.pointer (some ⟨b,0,none⟩)) (hfr.at 0 (by kernel_rfl));refine fW0 rfl ?_;clear hfr hdep;go_simp;exact hK _ _ True.intro hinv (dsT (by trivial))
  refine .cons (fun a W hfr hinv hdep K hK=>?_) ?_
  · have t16:=tAt (.pointer (some ⟨b,0,none⟩)) (hdep 16 (by kernel_rfl));refine fW0 rfl ?_;clear hfr hdep;go_simp;exact hK _ _ True.intro hinv (dsT (by trivial))
  refine .cons (fun a W hfr hinv hdep K hK=>?_) ?_
  · have t17:=tAt (.pointer (some ⟨b,0,none⟩)) (hdep 17 (by kernel_rfl));refine fW0 rfl ?_;clear hfr hdep;go_simp;exact hK _ _ True.intro hinv (dsT (by trivial))
  refine .cons (fun a W hfr hinv hdep K hK=>?_) ?_
  · have t18:=tAt (.pointer (some ⟨b,7,none⟩)) (hdep 18 (by kernel_rfl));obtain ⟨c0,c1,c2,c3,c4,c5,c6,c7,c8,c9⟩:=(HB.out.gr hinv).c10;refine fW0 rfl ?_;clear hfr hdep;go_simp;exact hK _ _ True.intro hinv (dsT (by trivial))
  refine .cons (fun a W hfr hinv hdep K hK=>?_) ?_
  · have t19:=tAt (.slice q m c) (hdep 19 (by kernel_rfl));refine fW0 rfl ?_;clear hfr hdep;go_simp;exact hK _ _ True.intro hinv (dsT (by trivial))
  refine .cons (fun a W hfr hinv hdep K hK=>?_) ?_
  · have t20:=tAt (.int .i64 m) (hdep 20 (by kernel_rfl));have hb:=HLA.out.2.2.2;refine fW0 rfl ?_;clear hfr hdep;go_simp;exact hK _ _ True.intro hinv (dsT (by trivial))
  refine .cons (fun a W hfr hinv hdep K hK=>?_) ?_
  · have t15:=tAt (.int .u64 (X:Int)) (hdep 15 (by kernel_rfl));have t21:=tAt (.int .u64 m) (hdep 21 (by kernel_rfl));have hw:=HLA.out.2.2.1;refine fW0 rfl ?_;clear hfr hdep;go_simp;exact hK _ _ True.intro hinv (dsT (by trivial))
  refine .cons (fun a W hfr hinv hdep K hK=>?_) ?_
  · have t22:=tAt (.int .u64 (E:Int)) (hdep 22 (by kernel_rfl));refine fW0 rfl ?_;clear hfr hdep;go_simp;exact hK _ _ True.intro hinv (dsT (by trivial))
  exact True.intro
 case fin=>
  intro a W hfr hfin hsl
  have s2:a.tmps.getD 2 undef=.int .u64 (E:Int):=hsl 18 _ 2 rfl rfl;have t2:=tmpAt s2;have e:=Flow.frame hfr [5,6,7,8,9,10,11,12,13,14,15,16,17,18,19,20,21,22,2] (List.range 23) (by kernel_rfl) (by kernel_rfl)
  simp [List.range,List.range.loop] at e
  rw [t2] at e
  rw [e];clear e hfr hsl s2 t2
  rename_i K2 hK2
  refine hK2 _ _ ?_;go_wp2_with fail
  go_ret
  exact ⟨by rw [HR.out];rfl,hfin⟩
def freeR (l rs:Int) (tl E:Nat):Int:=max (232*(l - 1) - ((tl % 232+(E - tl):Nat):Int) - rs) 0
set_option maxRecDepth 100000 in
set_option maxHeartbeats 1000000 in
theorem wFree_any (d b:Nat) (p:Value) (n:Int) (l:Int) (g:Int) (ep:Nat) (tl:Nat) (la:Nat) (q:Option Addr) (m:Nat) (c:Nat) (rs:Int) (bg:Bool) (w:World) (h:Blk w b TLg #[p,.int .i64 n,.int .i64 l,.int .i64 g,.int .u64 ep,.int .u64 tl,.int .u64 la,.slice q m c,.int .i64 rs,.bool bg]) (hp:p=.pointer (some ⟨d,0,none⟩)) (hE:la+m≤9223372036854775807) (hl:0≤l∧l≤300) (hr:0≤rs∧rs≤1000000) (ht:tl≤la - la % 232+m) (hs:la - la % 232+m≤tl+100000) :
  Calls Tryz.prog 73 #[.pointer (some ⟨b,0,none⟩)] w fun e w'=>e=.returned (.int .i64 (freeR l rs tl (la - la % 232+m)))∧Gr w w':=by
 have HM:=Lib.hid (wmissing_no d b p n l g ep tl la q m c rs bg w h hp);have HB:=Lib.hid h;obtain ⟨A,hA⟩:∃ A,A=tl % 232:=⟨_,rfl⟩;obtain ⟨E,hE2⟩:∃ E,E=la - la % 232+m:=⟨_,rfl⟩;obtain ⟨X,hX⟩:∃ X,X=E - tl:=⟨_,rfl⟩;obtain ⟨Y,hY⟩:∃ Y,Y=A+X:=⟨_,rfl⟩
 rw [← hE2] at ht hs ⊢
 have HE:Hid (∀ W,Gr w W→Calls Tryz.prog 37 #[.pointer (some ⟨b,0,none⟩)] W fun e w'=>e=.returned (.int .u64 (E:Int))∧Gr W w'):=Lib.hid fun W gr=>by rw [hE2];exact wEnd_any d b p n l g ep tl la q m c rs bg W (h.gr gr) hp hE
 have HAh:Hid (∀ W,Calls Tryz.prog 66 #[.int .u64 (tl:Int)] W fun e w'=>e=.returned (.int .i64 (A:Int))∧W=w'):=Lib.hid fun W=>by rw [hA];exact ahead_any tl W (by omega)
 have HLA:Hid (IntKind.u64.wrap ((E:Int) - (tl:Int))=(X:Int)∧IntKind.i64.wrap (X:Int)=(X:Int)∧IntKind.i64.wrap ((A:Int)+(X:Int))=(Y:Int)):=Lib.hid ⟨by rw [IntKind.wrap_u64];omega,IntWalk.i64_in _ (by omega),by rw [IntWalk.i64_in _ (by omega)];omega⟩;have HR:Hid (freeR l rs tl E=max (232*(l - 1) - (Y:Int) - rs) 0∧(Y:Int)≤100231):=Lib.hid ⟨by unfold freeR;rw [← hA,← hX,← hY],by omega⟩;have hl0:=hl.1;have hl1:=hl.2;have hr0:=hr.1;have hr1:=hr.2;obtain ⟨c0,c1,c2,c3,c4,c5,c6,c7,c8,c9⟩:=h.c10;clear h hE hA hX hE2 hY ht hs hl hr c0 c1 c3 c4 c5 c6 c7 c9
 go_enter Tryz.func73,Tryz.ntmps73
 go_wp2_with fail;refine HM.out.mono ?_;rintro e w1 ⟨rfl,rfl⟩;go_wp2_with fail;refine Flow.region (SlWFre p n l g ep tl la q m c rs bg b A E X Y) (Gr w) (fun _ _=>True) (by kernel_rfl) (by kernel_rfl) (fun _ _ _ _ h _=>h) ⟨rfl,rfl,rfl,Nat.le_refl _,fun _ _=>rfl⟩ ?steps ?fin
 case steps=>
  refine .cons (fun a W hfr hinv hdep K hK=>?_) ?_
  · have t0:=tAt (.pointer (some ⟨b,0,none⟩)) (hfr.at 0 (by kernel_rfl));refine fW0 rfl ?_;clear hfr hdep;go_simp;exact hK _ _ True.intro hinv (dsT (by trivial))
  refine .cons (fun a W hfr hinv hdep K hK=>?_) ?_
  · have t14:=tAt (.pointer (some ⟨b,0,none⟩)) (hdep 14 (by kernel_rfl));refine fW0 rfl ?_;clear hfr hdep;go_simp;exact hK _ _ True.intro hinv (dsT (by trivial))
  refine .cons (fun a W hfr hinv hdep K hK=>?_) ?_
  · have t15:=tAt (.pointer (some ⟨b,0,none⟩)) (hdep 15 (by kernel_rfl));refine fW0 rfl ?_;clear hfr hdep;go_simp;exact hK _ _ True.intro hinv (dsT (by trivial))
  refine .cons (fun a W hfr hinv hdep K hK=>?_) ?_
  · have t16:=tAt (.pointer (some ⟨b,5,none⟩)) (hdep 16 (by kernel_rfl));obtain ⟨c0,c1,c2,c3,c4,c5,c6,c7,c8,c9⟩:=(HB.out.gr hinv).c10;refine fW0 rfl ?_;clear hfr hdep;go_simp;exact hK _ _ True.intro hinv (dsT (by trivial))
  refine .cons (fun a W hfr hinv hdep K hK=>?_) ?_
  · have t17:=tAt (.int .u64 tl) (hdep 17 (by kernel_rfl));refine fW0 rfl ?_;clear hfr hdep;go_simp;refine (HAh.out W).mono ?_;rintro e W' ⟨rfl,rfl⟩;exact hK _ _ True.intro hinv (dsT (by trivial))
  refine .cons (fun a W hfr hinv hdep K hK=>?_) ?_
  · have t0:=tAt (.pointer (some ⟨b,0,none⟩)) (hfr.at 0 (by kernel_rfl));refine fW0 rfl ?_;clear hfr hdep;go_simp;exact hK _ _ True.intro hinv (dsT (by trivial))
  refine .cons (fun a W hfr hinv hdep K hK=>?_) ?_
  · have t19:=tAt (.pointer (some ⟨b,0,none⟩)) (hdep 19 (by kernel_rfl));refine fW0 rfl ?_;clear hfr hdep;go_simp;refine (HE.out W hinv).mono ?_;rintro e W' ⟨rfl,g1⟩;exact hK _ _ True.intro (Gr.trans hinv g1) (dsT (by trivial))
  refine .cons (fun a W hfr hinv hdep K hK=>?_) ?_
  · have t0:=tAt (.pointer (some ⟨b,0,none⟩)) (hfr.at 0 (by kernel_rfl));refine fW0 rfl ?_;clear hfr hdep;go_simp;exact hK _ _ True.intro hinv (dsT (by trivial))
  refine .cons (fun a W hfr hinv hdep K hK=>?_) ?_
  · have t21:=tAt (.pointer (some ⟨b,0,none⟩)) (hdep 21 (by kernel_rfl));refine fW0 rfl ?_;clear hfr hdep;go_simp;exact hK _ _ True.intro hinv (dsT (by trivial))
  refine .cons (fun a W hfr hinv hdep K hK=>?_) ?_
  · have t22:=tAt (.pointer (some ⟨b,0,none⟩)) (hdep 22 (by kernel_rfl));refine fW0 rfl ?_;clear hfr hdep;go_simp;exact hK _ _ True.intro hinv (dsT (by trivial))
  refine .cons (fun a W hfr hinv hdep K hK=>?_) ?_
  · have t23:=tAt (.pointer (some ⟨b,5,none⟩)) (hdep 23 (by kernel_rfl));obtain ⟨c0,c1,c2,c3,c4,c5,c6,c7,c8,c9⟩:=(HB.out.gr hinv).c10;refine fW0 rfl ?_;clear hfr hdep;go_simp;exact hK _ _ True.intro hinv (dsT (by trivial))
  refine .cons (fun a W hfr hinv hdep K hK=>?_) ?_
  · have t20:=tAt (.int .u64 (E:Int)) (hdep 20 (by kernel_rfl));have t24:=tAt (.int .u64 tl) (hdep 24 (by kernel_rfl));have hw:=HLA.out.1;refine fW0 rfl ?_;clear hfr hdep;go_simp;exact hK _ _ True.intro hinv (dsT (by trivial))
  refine .cons (fun a W hfr hinv hdep K hK=>?_) ?_
  · have t25:=tAt (.int .u64 (X:Int)) (hdep 25 (by kernel_rfl));have hw:=HLA.out.2.1;refine fW0 rfl ?_;clear hfr hdep;go_simp;exact hK _ _ True.intro hinv (dsT (by trivial))
  refine .cons (fun a W hfr hinv hdep K hK=>?_) ?_
  · have t18:=tAt (.int .i64 (A:Int)) (hdep 18 (by kernel_rfl));have t26:=tAt (.int .i64 (X:Int)) (hdep 26 (by kernel_rfl));have hw:=HLA.out.2.2;refine fW0 rfl ?_;clear hfr hdep;go_simp;exact hK _ _ True.intro hinv (dsT (by trivial))
  refine .cons (fun a W hfr hinv hdep K hK=>?_) ?_
  · have t27:=tAt (.int .i64 (Y:Int)) (hdep 27 (by kernel_rfl));refine fW0 rfl ?_;clear hfr hdep;go_simp;exact hK _ _ True.intro hinv (dsT (by trivial))
  exact True.intro
 case fin=>
  intro a W hfr hfin hsl
  have s4:a.tmps.getD 4 undef=.int .i64 (Y:Int):=hsl 14 _ 4 rfl rfl;have t4:=tmpAt s4;have e:=Flow.frame hfr [14,15,16,17,18,19,20,21,22,23,24,25,26,27,4] (List.range 37) (by kernel_rfl) (by kernel_rfl)
  simp [List.range,List.range.loop] at e
  rw [t4] at e
  rw [e];clear e hfr hsl s4 t4
  rename_i K2 hK2
  refine hK2 _ _ ?_;have c8:=(HB.out.gr hfin).c10.2.2.2.2.2.2.2.2.1;have hY:=HR.out.2;have HRR:=HR.out.1;go_wp2_with fail
  go_ret
  exact ⟨ret_i (by rw [HRR]),hfin⟩
set_option maxRecDepth 100000 in
set_option maxHeartbeats 1000000 in
theorem wplace_any (b:Nat) (p:Value) (n:Int) (l:Int) (g:Int) (ep:Nat) (tl:Nat) (la:Nat) (q:Option Addr) (m:Nat) (c:Nat) (rs:Int) (bg:Bool) (k:Nat) (w:World) (h:Blk w b TLg #[p,.int .i64 n,.int .i64 l,.int .i64 g,.int .u64 ep,.int .u64 tl,.int .u64 la,.slice q m c,.int .i64 rs,.bool bg]) (hm:mayL n l g=true) (hk:k≤18446744073709551615) :
  Calls Tryz.prog 100 #[.pointer (some ⟨b,0,none⟩),.int .u64 (k:Int)] w fun e w'=>e=.returned (.int .i64 ((3+k % l.toNat:Nat):Int))∧Gr w w':=by
 have HB:=Lib.hid h;have hin:=may_in hm;obtain ⟨M,hM⟩:∃ M,M=k % l.toNat:=⟨_,rfl⟩;obtain ⟨R,hR⟩:∃ R,R=3+M:=⟨_,rfl⟩;rw [← hM,← hR]
 have hml:M < l.toNat:=by rw [hM];exact Nat.mod_lt _ (by omega)
 have hmi:(k:Int).tmod l=(M:Int):=by
  rw [hM,Int.tmod_eq_emod_of_nonneg (by omega)]
  have:l=(l.toNat:Int):=by omega
  rw [this];exact (Int.natCast_emod _ _).symm
 have HLO:Hid (∀ W,Calls Tryz.prog 125 #[.agg #[.int .i64 n,.int .i64 l,.int .i64 g],.int .i64 (M:Int)] W fun e w'=>e=.returned (.tuple #[.int .i64 (R:Int),.int .i64 0])∧Gr W w'):=Lib.hid fun W=>by
  have h1:=logAt_any n l g M W
  have hb:(mayL n l g && (decide ((0:Int)≤(M:Int)) && decide ((M:Int) < l)))=true:=by
   rw [hm]
   simp
   omega
  rw [hb] at h1
  refine h1.mono ?_;rintro e w' ⟨rfl,hg⟩;exact ⟨by simp [only,err,hR],hg⟩
 have HLA:Hid (IntKind.u64.wrap l=l∧(k:Int).tmod l=(M:Int)∧IntKind.i64.wrap (M:Int)=(M:Int)∧(l == 0)=false∧¬ l=0):=Lib.hid ⟨by rw [IntKind.wrap_u64];omega,hmi,IntWalk.i64_in _ (by omega),by simp;omega,by omega⟩;clear h hin hM hR hml hmi hm
 go_enter Tryz.func100,Tryz.ntmps100
 go_wp2_with fail;refine Flow.regionL (SlWPla p n l g ep tl la q m c rs bg b k M R) (Gr w) (fun _ _=>True) (by kernel_rfl) (by kernel_rfl) (fun _ _ _ _ h _=>h) ⟨rfl,rfl,rfl,Nat.le_refl _,fun _ _=>rfl⟩ ?steps ?fin
 case steps=>
  refine .cons (fun a W hfr hinv hdep K hK=>?_) ?_
  · have t0:=tAt (.pointer (some ⟨b,0,none⟩)) (hfr.at 0 (by kernel_rfl));refine fW0 rfl ?_;clear hfr hdep;go_simp;exact hK _ _ True.intro hinv (dsT (by trivial))
  refine .cons (fun a W hfr hinv hdep K hK=>?_) ?_
  · have t8:=tAt (.pointer (some ⟨b,0,none⟩)) (hdep 8 (by kernel_rfl));refine fW0 rfl ?_;clear hfr hdep;go_simp;exact hK _ _ True.intro hinv (dsT (by trivial))
  refine .cons (fun a W hfr hinv hdep K hK=>?_) ?_
  · have t9:=tAt (.pointer (some ⟨b,0,none⟩)) (hdep 9 (by kernel_rfl));refine fW0 rfl ?_;clear hfr hdep;go_simp;exact hK _ _ True.intro hinv (dsT (by trivial))
  refine .cons (fun a W hfr hinv hdep K hK=>?_) ?_
  · have t10:=tAt (.pointer (some ⟨b,1,none⟩)) (hdep 10 (by kernel_rfl));obtain ⟨c0,c1,c2,c3,c4,c5,c6,c7,c8,c9⟩:=(HB.out.gr hinv).c10;refine fW0 rfl ?_;clear hfr hdep;go_simp;exact hK _ _ True.intro hinv (dsT (by trivial))
  refine .cons (fun a W hfr hinv hdep K hK=>?_) ?_
  · have t1:=tAt (.int .u64 (k:Int)) (hfr.at 1 (by kernel_rfl));refine fW0 rfl ?_;clear hfr hdep;go_simp;exact hK _ _ True.intro hinv (dsT (by trivial))
  refine .cons (fun a W hfr hinv hdep K hK=>?_) ?_
  · have t0:=tAt (.pointer (some ⟨b,0,none⟩)) (hfr.at 0 (by kernel_rfl));refine fW0 rfl ?_;clear hfr hdep;go_simp;exact hK _ _ True.intro hinv (dsT (by trivial))
  refine .cons (fun a W hfr hinv hdep K hK=>?_) ?_
  · have t13:=tAt (.pointer (some ⟨b,0,none⟩)) (hdep 13 (by kernel_rfl));refine fW0 rfl ?_;clear hfr hdep;go_simp;exact hK _ _ True.intro hinv (dsT (by trivial))
  refine .cons (fun a W hfr hinv hdep K hK=>?_) ?_
  · have t14:=tAt (.pointer (some ⟨b,0,none⟩)) (hdep 14 (by kernel_rfl));refine fW0 rfl ?_;clear hfr hdep;go_simp;exact hK _ _ True.intro hinv (dsT (by trivial))
  refine .cons (fun a W hfr hinv hdep K hK=>?_) ?_
  · have t15:=tAt (.pointer (some ⟨b,1,none⟩)) (hdep 15 (by kernel_rfl));refine fW0 rfl ?_;clear hfr hdep;go_simp;exact hK _ _ True.intro hinv (dsT (by trivial))
  refine .cons (fun a W hfr hinv hdep K hK=>?_) ?_
  · have t16:=tAt (.pointer (some ⟨b,2,none⟩)) (hdep 16 (by kernel_rfl));obtain ⟨c0,c1,c2,c3,c4,c5,c6,c7,c8,c9⟩:=(HB.out.gr hinv).c10;refine fW0 rfl ?_;clear hfr hdep;go_simp;exact hK _ _ True.intro hinv (dsT (by trivial))
  refine .cons (fun a W hfr hinv hdep K hK=>?_) ?_
  · have t17:=tAt (.int .i64 l) (hdep 17 (by kernel_rfl));have hw:=HLA.out.1;refine fW0 rfl ?_;clear hfr hdep;go_simp;exact hK _ _ True.intro hinv (dsT (by trivial))
  refine .cons (fun a W hfr hinv hdep K hK=>?_) ?_
  · have t12:=tAt (.int .u64 (k:Int)) (hdep 12 (by kernel_rfl));have t18:=tAt (.int .u64 l) (hdep 18 (by kernel_rfl));have hw:=HLA.out.2.1;have hw2:=HLA.out.2.2.2.1;have hw3:=HLA.out.2.2.2.2;refine fW0 rfl ?_;clear hfr hdep;go_simp;exact hK _ _ True.intro hinv (dsT (by trivial))
  refine .cons (fun a W hfr hinv hdep K hK=>?_) ?_
  · have t19:=tAt (.int .u64 (M:Int)) (hdep 19 (by kernel_rfl));have hw:=HLA.out.2.2.1;refine fW0 rfl ?_;clear hfr hdep;go_simp;exact hK _ _ True.intro hinv (dsT (by trivial))
  refine .cons (fun a W hfr hinv hdep K hK=>?_) ?_
  · have t11:=tAt (.agg #[.int .i64 n,.int .i64 l,.int .i64 g]) (hdep 11 (by kernel_rfl));have t20:=tAt (.int .i64 (M:Int)) (hdep 20 (by kernel_rfl));refine fW0 rfl ?_;clear hfr hdep;go_simp;refine (HLO.out W).mono ?_;rintro e W' ⟨rfl,g1⟩;exact hK _ _ True.intro (Gr.trans hinv g1) (dsT (by trivial))
  refine .cons (fun a W hfr hinv hdep K hK=>?_) ?_
  · have t21:=tAt (.tuple #[.int .i64 (R:Int),.int .i64 0]) (hdep 21 (by kernel_rfl));refine fW0 rfl ?_;clear hfr hdep;go_simp;exact hK _ _ True.intro hinv (dsT (by trivial))
  refine .cons (fun a W hfr hinv hdep K hK=>?_) ?_
  · have t7:=tAt (.tuple #[.int .i64 (R:Int),.int .i64 0]) (hdep 7 (by kernel_rfl));refine fW0 rfl ?_;clear hfr hdep;go_simp;exact hK _ _ True.intro hinv (dsT (by trivial))
  refine .cons (fun a W hfr hinv hdep K hK=>?_) ?_
  · have t7:=tAt (.tuple #[.int .i64 (R:Int),.int .i64 0]) (hdep 7 (by kernel_rfl));refine fW0 rfl ?_;clear hfr hdep;go_simp;exact hK _ _ True.intro hinv (dsT (by trivial))
  refine .cons (fun a W hfr hinv hdep K hK=>?_) ?_
  · have t22:=tAt (.int .i64 (R:Int)) (hdep 22 (by kernel_rfl));refine fW0 rfl ?_;clear hfr hdep;go_simp;exact hK _ _ True.intro hinv (dsT (by trivial))
  refine .cons (fun a W hfr hinv hdep K hK=>?_) ?_
  · have t23:=tAt (.int .i64 0) (hdep 23 (by kernel_rfl));refine fW0 rfl ?_;clear hfr hdep;go_simp;exact hK _ _ True.intro hinv (dsT (by trivial))
  exact True.intro
 case fin=>
  intro a W hfr hfin hsl
  have s5:a.tmps.getD 5 undef=.int .i64 (R:Int):=hsl 17 _ 5 rfl rfl;have t5:=tmpAt s5;have s6:a.tmps.getD 6 undef=.int .i64 0:=hsl 18 _ 6 rfl rfl;have t6:=tmpAt s6;have e:=Flow.frame hfr [8,9,10,11,12,13,14,15,16,17,18,19,20,21,7,22,23,5,6] (List.range 25) (by kernel_rfl) (by kernel_rfl)
  simp [List.range,List.range.loop] at e
  rw [t5,t6] at e
  rw [e];clear e hfr hsl s5 t5 s6 t6
  rename_i K2 hK2
  refine hK2 _ _ ?_;go_wp2_with fail
  go_ret
  exact ⟨rfl,hfin⟩
end Go.Proofs.YtdmhemgepdknhaaGreat
namespace Go.Proofs.YtdmhemgepdknhaaGreat
open Go.RowKit Cr
theorem sz_table:(Tryz.prog.info? 215).map (·.size)=some 16:=by kernel_rfl
end Go.Proofs.YtdmhemgepdknhaaGreat
namespace Go.Proofs.YtdmhemgepdknhaaGreat
open Go.RowKit Cr
theorem nought_spell (s:W):bits BinOp.xor IntKind.u32 (U s / 2) (bits BinOp.and IntKind.u32 (-bits BinOp.and IntKind.u32 (U s) 1 % 4294967296) 2197175160)=U (nought s):=by
 have h2:(2197175160:Int)=U poly:=rfl;rw [U_bit,h2]
 show bits BinOp.xor IntKind.u32 (Int.ediv (U s) 2) _=_
 rw [U_half]
 unfold nought
 cases s.getLsbD 0
 ·
  simp only [Bool.false_eq_true,if_false]
  rw [show (-(0:Int) % 4294967296)=U 0#32 from rfl,U_and,U_xor,BitVec.zero_and]
 ·
  simp only [if_true]
  rw [show (-(1:Int) % 4294967296)=U (~~~0#32) from rfl,U_and,U_xor,show (~~~0#32)=BitVec.allOnes 32 from rfl,BitVec.allOnes_and]
set_option maxRecDepth 100000 in
theorem nought_any (s:W) (w:World):Calls Tryz.prog 163 #[.int .u32 (U s)] w fun e w'=>e=.returned (.int .u32 (U (nought s)))∧w=w':=by
 have h0:=U_lo s;have h1:=U_hi s
 go_enter Tryz.func163,Tryz.ntmps163
 go_wp2
 go_ret
 exact ⟨ret_i (nought_spell s),rfl⟩
end Go.Proofs.YtdmhemgepdknhaaGreat
namespace Go.Proofs.YtdmhemgepdknhaaGreat
open Go.RowKit Cr

end Go.Proofs.YtdmhemgepdknhaaGreat
