/-
  Part 4 of what the laws of stage 6 rest on: contracts of the functions that they call, and what these rest on.
-/
import Derived.Deep.QuietTactic
import Derived.BigQuiet
import Derived.Laws.CopyOwn
import Derived.Test.YtlijbgapkmfnaaaGreatProg
import Derived.Deep.RegionLaw
import Derived.Deep.DeepMust
import Derived.Deep.RegionHeld3
import Derived.Deep.DeepCutAuto
import Derived.Test.YtlijbgapkmfnaaaGreatW1
import Derived.Test.YtlijbgapkmfnaaaGreatW3
set_option linter.unusedVariables false
set_option linter.unusedSimpArgs false
namespace Go.Proofs.YtlijbgapkmfnaaaGreat
open Go.RowKit Go.Maps
abbrev TLg:TypeId:=107
theorem Blk.c10 {w:World} {b:Nat} {t:TypeId} {x0 x1 x2 x3 x4 x5 x6 x7 x8 x9:Value} (h:Blk w b t #[x0,x1,x2,x3,x4,x5,x6,x7,x8,x9]) :
  w.cell? ⟨b,0,none⟩=some x0∧w.cell? ⟨b,1,none⟩=some x1∧w.cell? ⟨b,2,none⟩=some x2∧w.cell? ⟨b,3,none⟩=some x3∧w.cell? ⟨b,4,none⟩=some x4∧w.cell? ⟨b,5,none⟩=some x5∧w.cell? ⟨b,6,none⟩=some x6∧w.cell? ⟨b,7,none⟩=some x7∧w.cell? ⟨b,8,none⟩=some x8∧w.cell? ⟨b,9,none⟩=some x9:=
 ⟨h.cell 0,h.cell 1,h.cell 2,h.cell 3,h.cell 4,h.cell 5,h.cell 6,h.cell 7,h.cell 8,h.cell 9⟩
theorem wmissing_no (d b:Nat) (p:Value) (n:Int) (l:Int) (g:Int) (ep:Nat) (tl:Nat) (la:Nat) (q:Option Addr) (m:Nat) (c:Nat) (rs:Int) (bg:Bool) (w:World) (h:Blk w b TLg #[p,.int .i64 n,.int .i64 l,.int .i64 g,.int .u64 ep,.int .u64 tl,.int .u64 la,.slice q m c,.int .i64 rs,.bool bg]) (hp:p=.pointer (some ⟨d,0,none⟩)):Calls Tryz.prog 55 #[.pointer (some ⟨b,0,none⟩)] w fun e w'=>e=.returned (.bool false)∧w=w':=by
 obtain ⟨c0,c1,c2,c3,c4,c5,c6,c7,c8,c9⟩:=h.c10;clear h c1 c2 c3 c4 c5 c6 c7 c8 c9;subst hp
 go_enter Tryz.func55,Tryz.ntmps55
 go_wp2
 go_ret
 exact ⟨rfl,rfl⟩
theorem ahead_any (k:Nat) (w:World) (h:k≤18446744073709551615):Calls Tryz.prog 60 #[.int .u64 (k:Int)] w fun e w'=>e=.returned (.int .i64 ((k % 232:Nat):Int))∧w=w':=by
 have h0:(0:Int)≤(k:Int):=by omega
 have h1:(k:Int)≤18446744073709551615:=by omega
 go_enter Tryz.func60,Tryz.ntmps60
 go_wp2
 go_ret
 exact ⟨ret_i (by omega),rfl⟩
theorem sectorOf_any (k:Nat) (w:World) (h:k≤18446744073709551615):Calls Tryz.prog 78 #[.int .u64 (k:Int)] w fun e w'=>e=.returned (.int .u64 ((k / 232:Nat):Int))∧w=w':=by
 have h0:(0:Int)≤(k:Int):=by omega
 have h1:(k:Int)≤18446744073709551615:=by omega
 go_enter Tryz.func78,Tryz.ntmps78
 go_wp2
 go_ret
 exact ⟨ret_i (by omega),rfl⟩
theorem wword_any (n:Nat) (s:Int) (w:World):Calls Tryz.prog 114 #[.int .u64 n,.int .i64 s] w (RetByte (putR n s) w):=by
 go_enter Tryz.func114,Tryz.ntmps114
 go_wp2_with fail;refine (put_any n s w).mono ?_;rintro e w1 ⟨p,m,c,rfl,hb,hg,hf⟩
 go_wp2
 go_ret
 exact ⟨p,m,c,rfl,hb,hg,hf⟩
def SlWEnd (_:Value) (_:Int) (_:Int) (_:Int) (_:Nat) (_:Nat) (la:Nat) (q:Option Addr) (m:Nat) (c:Nat) (_:Int) (_:Bool) (b:Nat) (A:Nat) (X:Nat) (E:Nat) (slot:Nat) (v:Value) (_:World):Prop:=
 match slot with
 | 5 | 6 | 9 | 10 | 16 | 17=>v=.pointer (some ⟨b,0,none⟩)
 | 7 | 11=>v=.pointer (some ⟨b,6,none⟩)
 | 8 | 12=>v=.int .u64 la
 | 13=>v=.int .i64 (A:Int)
 | 14=>v=.int .u64 (A:Int)
 | 15=>v=.int .u64 (X:Int)
 | 18=>v=.pointer (some ⟨b,7,none⟩)
 | 19=>v=.slice q m c
 | 20=>v=.int .i64 m
 | 21=>v=.int .u64 m
 | 22 | 2=>v=.int .u64 (E:Int)
 | _=>True
def SlWFre (_:Value) (_:Int) (_:Int) (_:Int) (_:Nat) (tl:Nat) (_:Nat) (_:Option Addr) (_:Nat) (_:Nat) (_:Int) (_:Bool) (b:Nat) (A:Nat) (E:Nat) (X:Nat) (Y:Nat) (slot:Nat) (v:Value) (_:World):Prop:=
 match slot with
 | 14 | 15 | 19 | 21 | 22=>v=.pointer (some ⟨b,0,none⟩)
 | 16 | 23=>v=.pointer (some ⟨b,5,none⟩)
 | 17 | 24=>v=.int .u64 tl
 | 18=>v=.int .i64 (A:Int)
 | 20=>v=.int .u64 (E:Int)
 | 25=>v=.int .u64 (X:Int)
 | 26=>v=.int .i64 (X:Int)
 | 27 | 4=>v=.int .i64 (Y:Int)
 | _=>True
def SlWPla (_:Value) (n:Int) (l:Int) (g:Int) (_:Nat) (_:Nat) (_:Nat) (_:Option Addr) (_:Nat) (_:Nat) (_:Int) (_:Bool) (b:Nat) (k:Nat) (M:Nat) (R:Nat) (slot:Nat) (v:Value) (_:World):Prop:=
 match slot with
 | 8 | 9 | 13 | 14=>v=.pointer (some ⟨b,0,none⟩)
 | 10 | 15=>v=.pointer (some ⟨b,1,none⟩)
 | 11=>v=.agg #[.int .i64 n,.int .i64 l,.int .i64 g]
 | 12=>v=.int .u64 (k:Int)
 | 16=>v=.pointer (some ⟨b,2,none⟩)
 | 17=>v=.int .i64 l
 | 18=>v=.int .u64 l
 | 19=>v=.int .u64 (M:Int)
 | 20=>v=.int .i64 (M:Int)
 | 21 | 7=>v=.tuple #[.int .i64 (R:Int),.int .i64 0]
 | 22 | 5=>v=.int .i64 (R:Int)
 | 23 | 6=>v=.int .i64 0
 | _=>True
def RetU (x:Nat) (w:World) (e:Ending) (w':World):Prop:=e=.returned (.int .u64 (x:Int))∧Gr w w'
set_option maxRecDepth 100000 in
set_option maxHeartbeats 1000000 in
theorem wEnd_any (d b:Nat) (p:Value) (n:Int) (l:Int) (g:Int) (ep:Nat) (tl:Nat) (la:Nat) (q:Option Addr) (m:Nat) (c:Nat) (rs:Int) (bg:Bool) (w:World) (h:Blk w b TLg #[p,.int .i64 n,.int .i64 l,.int .i64 g,.int .u64 ep,.int .u64 tl,.int .u64 la,.slice q m c,.int .i64 rs,.bool bg]) (hp:p=.pointer (some ⟨d,0,none⟩)) (hE:la+m≤9223372036854775807):Calls Tryz.prog 22 #[.pointer (some ⟨b,0,none⟩)] w (RetU (la - la % 232+m) w):=by
 have HM:=Lib.hid (wmissing_no d b p n l g ep tl la q m c rs bg w h hp);have HB:=Lib.hid h;obtain ⟨A,hA⟩:∃ A,A=la % 232:=⟨_,rfl⟩;obtain ⟨X,hX⟩:∃ X,X=la - A:=⟨_,rfl⟩;obtain ⟨E,hE2⟩:∃ E,E=X+m:=⟨_,rfl⟩
 have HAh:Hid (∀ W,Calls Tryz.prog 60 #[.int .u64 (la:Int)] W fun e w'=>e=.returned (.int .i64 (A:Int))∧W=w'):=Lib.hid fun W=>by rw [hA];exact ahead_any la W (by omega)
 have HLA:Hid (IntKind.u64.wrap (A:Int)=(A:Int)∧IntKind.u64.wrap ((la:Int) - (A:Int))=(X:Int)∧IntKind.u64.wrap ((X:Int)+(m:Int))=(E:Int)∧IntKind.u64.wrap (m:Int)=(m:Int)):=Lib.hid ⟨by rw [IntKind.wrap_u64];omega,by rw [IntKind.wrap_u64];omega,by rw [IntKind.wrap_u64];omega,by rw [IntKind.wrap_u64];omega⟩;have HR:Hid (la - la % 232+m=E):=Lib.hid (by rw [hE2,hX,hA]);clear h hE hA hX hE2
 go_enter Tryz.func22,Tryz.ntmps22
 go_wp2_with fail;refine HM.out.mono ?_;rintro e w1 ⟨rfl,rfl⟩;go_wp2_with fail;refine Flow.region (SlWEnd p n l g ep tl la q m c rs bg b A X E) (Gr w) (fun _ _=>True) (by kernel_rfl) (by kernel_rfl) (fun _ _ _ _ h _=>h) ⟨rfl,rfl,rfl,Nat.le_refl _,fun _ _=>rfl⟩ ?steps ?fin
 case steps=>
  refine .cons (fun a W hfr hinv hdep K hK=>?_) ?_
  · have t0:=tAt (.pointer (some ⟨b,0,none⟩)) (hfr.at 0 (by kernel_rfl));refine fW0 rfl ?_;clear hfr hdep;go_simp;exact hK _ _ True.intro hinv (dsT (by trivial))
  refine .cons (fun a W hfr hinv hdep K hK=>?_) ?_
  · have t5:=tAt (.pointer (some ⟨b,0,none⟩)) (hdep 5 (by kernel_rfl));refine fW0 rfl ?_;clear hfr hdep;go_simp;exact hK _ _ True.intro hinv (dsT (by trivial))
  refine .cons (fun a W hfr hinv hdep K hK=>?_) ?_
  · have t6:=tAt (.pointer (some ⟨b,0,none⟩)) (hdep 6 (by kernel_rfl));refine fW0 rfl ?_;clear hfr hdep;go_simp;exact hK _ _ True.intro hinv (dsT (by trivial))
  refine .cons (fun a W hfr hinv hdep K hK=>?_) ?_
  · have t7:=tAt (.pointer (some ⟨b,6,none⟩)) (hdep 7 (by kernel_rfl));obtain ⟨c0,c1,c2,c3,c4,c5,c6,c7,c8,c9⟩:=(HB.out.gr hinv).c10;refine fW0 rfl ?_;clear hfr hdep;go_simp;exact hK _ _ True.intro hinv (dsT (by trivial))
  refine .cons (fun a W hfr hinv hdep K hK=>?_) ?_
  · have t0:=tAt (.pointer (some ⟨b,0,none⟩)) (hfr.at 0 (by kernel_rfl));refine fW0 rfl ?_;clear hfr hdep;go_simp;exact hK _ _ True.intro hinv (dsT (by trivial))
  refine .cons (fun a W hfr hinv hdep K hK=>?_) ?_
  · have t9:=tAt (.pointer (some ⟨b,0,none⟩)) (hdep 9 (by kernel_rfl));refine fW0 rfl ?_;clear hfr hdep;go_simp;exact hK _ _ True.intro hinv (dsT (by trivial))
  refine .cons (fun a W hfr hinv hdep K hK=>?_) ?_
  · have t10:=tAt (.pointer (some ⟨b,0,none⟩)) (hdep 10 (by kernel_rfl));refine fW0 rfl ?_;clear hfr hdep;go_simp;exact hK _ _ True.intro hinv (dsT (by trivial))
  refine .cons (fun a W hfr hinv hdep K hK=>?_) ?_
  · have t11:=tAt (.pointer (some ⟨b,6,none⟩)) (hdep 11 (by kernel_rfl));obtain ⟨c0,c1,c2,c3,c4,c5,c6,c7,c8,c9⟩:=(HB.out.gr hinv).c10;refine fW0 rfl ?_;clear hfr hdep;go_simp;exact hK _ _ True.intro hinv (dsT (by trivial))
  refine .cons (fun a W hfr hinv hdep K hK=>?_) ?_
  · have t12:=tAt (.int .u64 la) (hdep 12 (by kernel_rfl));refine fW0 rfl ?_;clear hfr hdep;go_simp;refine (HAh.out W).mono ?_;rintro e W' ⟨rfl,rfl⟩;exact hK _ _ True.intro hinv (dsT (by trivial))
  refine .cons (fun a W hfr hinv hdep K hK=>?_) ?_
  · have t13:=tAt (.int .i64 (A:Int)) (hdep 13 (by kernel_rfl));have hb:=HLA.out.1;refine fW0 rfl ?_;clear hfr hdep;go_simp;exact hK _ _ True.intro hinv (dsT (by trivial))
  refine .cons (fun a W hfr hinv hdep K hK=>?_) ?_
  · have t8:=tAt (.int .u64 la) (hdep 8 (by kernel_rfl));have t14:=tAt (.int .u64 (A:Int)) (hdep 14 (by kernel_rfl));have hw:=HLA.out.2.1;refine fW0 rfl ?_;clear hfr hdep;go_simp;exact hK _ _ True.intro hinv (dsT (by trivial))
  refine .cons (fun a W hfr hinv hdep K hK=>?_) ?_
  · have t0:=tAt (.pointer (some ⟨b,0,none⟩)) (hfr.at 0 (by kernel_rfl));refine fW0 rfl ?_;clear hfr hdep;go_simp;exact hK _ _ True.intro hinv (dsT (by trivial))
  refine .cons (fun a W hfr hinv hdep K hK=>?_) ?_
  · have t16:=tAt (.pointer (some ⟨b,0,none⟩)) (hdep 16 (by kernel_rfl));refine fW0 rfl ?_;clear hfr hdep;go_simp;exact hK _ _ True.intro hinv (dsT (by trivial))
  refine .cons (fun a W hfr hinv hdep K hK=>?_) ?_
  · have t17:=tAt (.pointer (some ⟨b,0,none⟩)) (hdep 17 (by kernel_rfl));refine fW0 rfl ?_;clear hfr hdep;go_simp;exact hK _ _ True.intro hinv (dsT (by trivial))
  refine .cons (fun a W hfr hinv hdep K hK=>?_) ?_
  · have t18:=tAt (.pointer (some ⟨b,7,none⟩)) (hdep 18 (by kernel_rfl));obtain ⟨c0,c1,c2,c3,c4,c5,c6,c7,c8,c9⟩:=(HB.out.gr hinv).c10;refine fW0 rfl ?_;clear hfr hdep;go_simp;exact hK _ _ True.intro hinv (dsT (by trivial))
  refine .cons (fun a W hfr hinv hdep K hK=>?_) ?_
  · have t19:=tAt (.slice q m c) (hdep 19 (by kernel_rfl));refine fW0 rfl ?_;clear hfr hdep;go_simp;exact hK _ _ True.intro hinv (dsT (by trivial))
  refine .cons (fun a W hfr hinv hdep K hK=>?_) ?_
  · have t20:=tAt (.int .i64 m) (hdep 20 (by kernel_rfl));have hb:=HLA.out.2.2.2;refine fW0 rfl ?_;clear hfr hdep;go_simp;exact hK _ _ True.intro hinv (dsT (by trivial))
  refine .cons (fun a W hfr hinv hdep K hK=>?_) ?_
  · have t15:=tAt (.int .u64 (X:Int)) (hdep 15 (by kernel_rfl));have t21:=tAt (.int .u64 m) (hdep 21 (by kernel_rfl));have hw:=HLA.out.2.2.1;refine fW0 rfl ?_;clear hfr hdep;go_simp;exact hK _ _ True.intro hinv (dsT (by trivial))
  refine .cons (fun a W hfr hinv hdep K hK=>?_) ?_
  · have t22:=tAt (.int .u64 (E:Int)) (hdep 22 (by kernel_rfl));refine fW0 rfl ?_;clear hfr hdep;go_simp;exact hK _ _ True.intro hinv (dsT (by trivial))
  exact True.intro
 case fin=>
  intro a W hfr hfin hsl
  have s2:a.tmps.getD 2 undef=.int .u64 (E:Int):=hsl 18 _ 2 rfl rfl;have t2:=tmpAt s2;have e:=Flow.frame hfr [5,6,7,8,9,10,11,12,13,14,15,16,17,18,19,20,21,22,2] (List.range 23) (by kernel_rfl) (by kernel_rfl)
  simp [List.range,List.range.loop] at e
  rw [t2] at e
  rw [e];clear e hfr hsl s2 t2
  rename_i K2 hK2
  refine hK2 _ _ ?_;go_wp2_with fail
  go_ret
  exact ⟨by rw [HR.out];rfl,hfin⟩
def freeR (l rs:Int) (tl E:Nat):Int:=max (232*(l - 1) - ((tl % 232+(E - tl):Nat):Int) - rs) 0
set_option maxRecDepth 100000 in
set_option maxHeartbeats 1000000 in
theorem wFree_any (d b:Nat) (p:Value) (n:Int) (l:Int) (g:Int) (ep:Nat) (tl:Nat) (la:Nat) (q:Option Addr) (m:Nat) (c:Nat) (rs:Int) (bg:Bool) (w:World) (h:Blk w b TLg #[p,.int .i64 n,.int .i64 l,.int .i64 g,.int .u64 ep,.int .u64 tl,.int .u64 la,.slice q m c,.int .i64 rs,.bool bg]) (hp:p=.pointer (some ⟨d,0,none⟩)) (hE:la+m≤9223372036854775807) (hl:0≤l∧l≤300) (hr:0≤rs∧rs≤1000000) (ht:tl≤la - la % 232+m) (hs:la - la % 232+m≤tl+100000) :
  Calls Tryz.prog 40 #[.pointer (some ⟨b,0,none⟩)] w fun e w'=>e=.returned (.int .i64 (freeR l rs tl (la - la % 232+m)))∧Gr w w':=by
 have HM:=Lib.hid (wmissing_no d b p n l g ep tl la q m c rs bg w h hp);have HB:=Lib.hid h;obtain ⟨A,hA⟩:∃ A,A=tl % 232:=⟨_,rfl⟩;obtain ⟨E,hE2⟩:∃ E,E=la - la % 232+m:=⟨_,rfl⟩;obtain ⟨X,hX⟩:∃ X,X=E - tl:=⟨_,rfl⟩;obtain ⟨Y,hY⟩:∃ Y,Y=A+X:=⟨_,rfl⟩
 rw [← hE2] at ht hs ⊢
 have HE:Hid (∀ W,Gr w W→Calls Tryz.prog 22 #[.pointer (some ⟨b,0,none⟩)] W fun e w'=>e=.returned (.int .u64 (E:Int))∧Gr W w'):=Lib.hid fun W gr=>by rw [hE2];exact wEnd_any d b p n l g ep tl la q m c rs bg W (h.gr gr) hp hE
 have HAh:Hid (∀ W,Calls Tryz.prog 60 #[.int .u64 (tl:Int)] W fun e w'=>e=.returned (.int .i64 (A:Int))∧W=w'):=Lib.hid fun W=>by rw [hA];exact ahead_any tl W (by omega)
 have HLA:Hid (IntKind.u64.wrap ((E:Int) - (tl:Int))=(X:Int)∧IntKind.i64.wrap (X:Int)=(X:Int)∧IntKind.i64.wrap ((A:Int)+(X:Int))=(Y:Int)):=Lib.hid ⟨by rw [IntKind.wrap_u64];omega,IntWalk.i64_in _ (by omega),by rw [IntWalk.i64_in _ (by omega)];omega⟩;have HR:Hid (freeR l rs tl E=max (232*(l - 1) - (Y:Int) - rs) 0∧(Y:Int)≤100231):=Lib.hid ⟨by unfold freeR;rw [← hA,← hX,← hY],by omega⟩;have hl0:=hl.1;have hl1:=hl.2;have hr0:=hr.1;have hr1:=hr.2;obtain ⟨c0,c1,c2,c3,c4,c5,c6,c7,c8,c9⟩:=h.c10;clear h hE hA hX hE2 hY ht hs hl hr c0 c1 c3 c4 c5 c6 c7 c9
 go_enter Tryz.func40,Tryz.ntmps40
 go_wp2_with fail;refine HM.out.mono ?_;rintro e w1 ⟨rfl,rfl⟩;go_wp2_with fail;refine Flow.region (SlWFre p n l g ep tl la q m c rs bg b A E X Y) (Gr w) (fun _ _=>True) (by kernel_rfl) (by kernel_rfl) (fun _ _ _ _ h _=>h) ⟨rfl,rfl,rfl,Nat.le_refl _,fun _ _=>rfl⟩ ?steps ?fin
 case steps=>
  refine .cons (fun a W hfr hinv hdep K hK=>?_) ?_
  · have t0:=tAt (.pointer (some ⟨b,0,none⟩)) (hfr.at 0 (by kernel_rfl));refine fW0 rfl ?_;clear hfr hdep;go_simp;exact hK _ _ True.intro hinv (dsT (by trivial))
  refine .cons (fun a W hfr hinv hdep K hK=>?_) ?_
  · have t14:=tAt (.pointer (some ⟨b,0,none⟩)) (hdep 14 (by kernel_rfl));refine fW0 rfl ?_;clear hfr hdep;go_simp;exact hK _ _ True.intro hinv (dsT (by trivial))
  refine .cons (fun a W hfr hinv hdep K hK=>?_) ?_
  · have t15:=tAt (.pointer (some ⟨b,0,none⟩)) (hdep 15 (by kernel_rfl));refine fW0 rfl ?_;clear hfr hdep;go_simp;exact hK _ _ True.intro hinv (dsT (by trivial))
  refine .cons (fun a W hfr hinv hdep K hK=>?_) ?_
  · have t16:=tAt (.pointer (some ⟨b,5,none⟩)) (hdep 16 (by kernel_rfl));obtain ⟨c0,c1,c2,c3,c4,c5,c6,c7,c8,c9⟩:=(HB.out.gr hinv).c10;refine fW0 rfl ?_;clear hfr hdep;go_simp;exact hK _ _ True.intro hinv (dsT (by trivial))
  refine .cons (fun a W hfr hinv hdep K hK=>?_) ?_
  · have t17:=tAt (.int .u64 tl) (hdep 17 (by kernel_rfl));refine fW0 rfl ?_;clear hfr hdep;go_simp;refine (HAh.out W).mono ?_;rintro e W' ⟨rfl,rfl⟩;exact hK _ _ True.intro hinv (dsT (by trivial))
  refine .cons (fun a W hfr hinv hdep K hK=>?_) ?_
  · have t0:=tAt (.pointer (some ⟨b,0,none⟩)) (hfr.at 0 (by kernel_rfl));refine fW0 rfl ?_;clear hfr hdep;go_simp;exact hK _ _ True.intro hinv (dsT (by trivial))
  refine .cons (fun a W hfr hinv hdep K hK=>?_) ?_
  · have t19:=tAt (.pointer (some ⟨b,0,none⟩)) (hdep 19 (by kernel_rfl));refine fW0 rfl ?_;clear hfr hdep;go_simp;refine (HE.out W hinv).mono ?_;rintro e W' ⟨rfl,g1⟩;exact hK _ _ True.intro (Gr.trans hinv g1) (dsT (by trivial))
  refine .cons (fun a W hfr hinv hdep K hK=>?_) ?_
  · have t0:=tAt (.pointer (some ⟨b,0,none⟩)) (hfr.at 0 (by kernel_rfl));refine fW0 rfl ?_;clear hfr hdep;go_simp;exact hK _ _ True.intro hinv (dsT (by trivial))
  refine .cons (fun a W hfr hinv hdep K hK=>?_) ?_
  · have t21:=tAt (.pointer (some ⟨b,0,none⟩)) (hdep 21 (by kernel_rfl));refine fW0 rfl ?_;clear hfr hdep;go_simp;exact hK _ _ True.intro hinv (dsT (by trivial))
  refine .cons (fun a W hfr hinv hdep K hK=>?_) ?_
  · have t22:=tAt (.pointer (some ⟨b,0,none⟩)) (hdep 22 (by kernel_rfl));refine fW0 rfl ?_;clear hfr hdep;go_simp;exact hK _ _ True.intro hinv (dsT (by trivial))
  refine .cons (fun a W hfr hinv hdep K hK=>?_) ?_
  · have t23:=tAt (.pointer (some ⟨b,5,none⟩)) (hdep 23 (by kernel_rfl));obtain ⟨c0,c1,c2,c3,c4,c5,c6,c7,c8,c9⟩:=(HB.out.gr hinv).c10;refine fW0 rfl ?_;clear hfr hdep;go_simp;exact hK _ _ True.intro hinv (dsT (by trivial))
  refine .cons (fun a W hfr hinv hdep K hK=>?_) ?_
  · have t20:=tAt (.int .u64 (E:Int)) (hdep 20 (by kernel_rfl));have t24:=tAt (.int .u64 tl) (hdep 24 (by kernel_rfl));have hw:=HLA.out.1;refine fW0 rfl ?_;clear hfr hdep;go_simp;exact hK _ _ True.intro hinv (dsT (by trivial))
  refine .cons (fun a W hfr hinv hdep K hK=>?_) ?_
  · have t25:=tAt (.int .u64 (X:Int)) (hdep 25 (by kernel_rfl));have hw:=HLA.out.2.1;refine fW0 rfl ?_;clear hfr hdep;go_simp;exact hK _ _ True.intro hinv (dsT (by trivial))
  refine .cons (fun a W hfr hinv hdep K hK=>?_) ?_
  · have t18:=tAt (.int .i64 (A:Int)) (hdep 18 (by kernel_rfl));have t26:=tAt (.int .i64 (X:Int)) (hdep 26 (by kernel_rfl));have hw:=HLA.out.2.2;refine fW0 rfl ?_;clear hfr hdep;go_simp;exact hK _ _ True.intro hinv (dsT (by trivial))
  refine .cons (fun a W hfr hinv hdep K hK=>?_) ?_
  · have t27:=tAt (.int .i64 (Y:Int)) (hdep 27 (by kernel_rfl));refine fW0 rfl ?_;clear hfr hdep;go_simp;exact hK _ _ True.intro hinv (dsT (by trivial))
  exact True.intro
 case fin=>
  intro a W hfr hfin hsl
  have s4:a.tmps.getD 4 undef=.int .i64 (Y:Int):=hsl 14 _ 4 rfl rfl;have t4:=tmpAt s4;have e:=Flow.frame hfr [14,15,16,17,18,19,20,21,22,23,24,25,26,27,4] (List.range 37) (by kernel_rfl) (by kernel_rfl)
  simp [List.range,List.range.loop] at e
  rw [t4] at e
  rw [e];clear e hfr hsl s4 t4
  rename_i K2 hK2
  refine hK2 _ _ ?_;have c8:=(HB.out.gr hfin).c10.2.2.2.2.2.2.2.2.1;have hY:=HR.out.2;have HRR:=HR.out.1;go_wp2_with fail
  go_ret
  exact ⟨ret_i (by rw [HRR]),hfin⟩
set_option maxRecDepth 100000 in
set_option maxHeartbeats 1000000 in
theorem wplace_any (b:Nat) (p:Value) (n:Int) (l:Int) (g:Int) (ep:Nat) (tl:Nat) (la:Nat) (q:Option Addr) (m:Nat) (c:Nat) (rs:Int) (bg:Bool) (k:Nat) (w:World) (h:Blk w b TLg #[p,.int .i64 n,.int .i64 l,.int .i64 g,.int .u64 ep,.int .u64 tl,.int .u64 la,.slice q m c,.int .i64 rs,.bool bg]) (hm:mayL n l g=true) (hk:k≤18446744073709551615) :
  Calls Tryz.prog 95 #[.pointer (some ⟨b,0,none⟩),.int .u64 (k:Int)] w fun e w'=>e=.returned (.int .i64 ((3+k % l.toNat:Nat):Int))∧Gr w w':=by
 have HB:=Lib.hid h;have hin:=may_in hm;obtain ⟨M,hM⟩:∃ M,M=k % l.toNat:=⟨_,rfl⟩;obtain ⟨R,hR⟩:∃ R,R=3+M:=⟨_,rfl⟩;rw [← hM,← hR]
 have hml:M < l.toNat:=by rw [hM];exact Nat.mod_lt _ (by omega)
 have hmi:(k:Int).tmod l=(M:Int):=by
  rw [hM,Int.tmod_eq_emod_of_nonneg (by omega)]
  have:l=(l.toNat:Int):=by omega
  rw [this];exact (Int.natCast_emod _ _).symm
 have HLO:Hid (∀ W,Calls Tryz.prog 113 #[.agg #[.int .i64 n,.int .i64 l,.int .i64 g],.int .i64 (M:Int)] W fun e w'=>e=.returned (.tuple #[.int .i64 (R:Int),.int .i64 0])∧Gr W w'):=Lib.hid fun W=>by
  have h1:=logAt_any n l g M W
  have hb:(mayL n l g && (decide ((0:Int)≤(M:Int)) && decide ((M:Int) < l)))=true:=by
   rw [hm]
   simp
   omega
  rw [hb] at h1
  refine h1.mono ?_;rintro e w' ⟨rfl,hg⟩;exact ⟨by simp [only,err,hR],hg⟩
 have HLA:Hid (IntKind.u64.wrap l=l∧(k:Int).tmod l=(M:Int)∧IntKind.i64.wrap (M:Int)=(M:Int)∧(l == 0)=false∧¬ l=0):=Lib.hid ⟨by rw [IntKind.wrap_u64];omega,hmi,IntWalk.i64_in _ (by omega),by simp;omega,by omega⟩;clear h hin hM hR hml hmi hm
 go_enter Tryz.func95,Tryz.ntmps95
 go_wp2_with fail;refine Flow.regionL (SlWPla p n l g ep tl la q m c rs bg b k M R) (Gr w) (fun _ _=>True) (by kernel_rfl) (by kernel_rfl) (fun _ _ _ _ h _=>h) ⟨rfl,rfl,rfl,Nat.le_refl _,fun _ _=>rfl⟩ ?steps ?fin
 case steps=>
  refine .cons (fun a W hfr hinv hdep K hK=>?_) ?_
  · have t0:=tAt (.pointer (some ⟨b,0,none⟩)) (hfr.at 0 (by kernel_rfl));refine fW0 rfl ?_;clear hfr hdep;go_simp;exact hK _ _ True.intro hinv (dsT (by trivial))
  refine .cons (fun a W hfr hinv hdep K hK=>?_) ?_
  · have t8:=tAt (.pointer (some ⟨b,0,none⟩)) (hdep 8 (by kernel_rfl));refine fW0 rfl ?_;clear hfr hdep;go_simp;exact hK _ _ True.intro hinv (dsT (by trivial))
  refine .cons (fun a W hfr hinv hdep K hK=>?_) ?_
  · have t9:=tAt (.pointer (some ⟨b,0,none⟩)) (hdep 9 (by kernel_rfl));refine fW0 rfl ?_;clear hfr hdep;go_simp;exact hK _ _ True.intro hinv (dsT (by trivial))
  refine .cons (fun a W hfr hinv hdep K hK=>?_) ?_
  · have t10:=tAt (.pointer (some ⟨b,1,none⟩)) (hdep 10 (by kernel_rfl));obtain ⟨c0,c1,c2,c3,c4,c5,c6,c7,c8,c9⟩:=(HB.out.gr hinv).c10;refine fW0 rfl ?_;clear hfr hdep;go_simp;exact hK _ _ True.intro hinv (dsT (by trivial))
  refine .cons (fun a W hfr hinv hdep K hK=>?_) ?_
  · have t1:=tAt (.int .u64 (k:Int)) (hfr.at 1 (by kernel_rfl));refine fW0 rfl ?_;clear hfr hdep;go_simp;exact hK _ _ True.intro hinv (dsT (by trivial))
  refine .cons (fun a W hfr hinv hdep K hK=>?_) ?_
  · have t0:=tAt (.pointer (some ⟨b,0,none⟩)) (hfr.at 0 (by kernel_rfl));refine fW0 rfl ?_;clear hfr hdep;go_simp;exact hK _ _ True.intro hinv (dsT (by trivial))
  refine .cons (fun a W hfr hinv hdep K hK=>?_) ?_
  · have t13:=tAt (.pointer (some ⟨b,0,none⟩)) (hdep 13 (by kernel_rfl));refine fW0 rfl ?_;clear hfr hdep;go_simp;exact hK _ _ True.intro hinv (dsT (by trivial))
  refine .cons (fun a W hfr hinv hdep K hK=>?_) ?_
  · have t14:=tAt (.pointer (some ⟨b,0,none⟩)) (hdep 14 (by kernel_rfl));refine fW0 rfl ?_;clear hfr hdep;go_simp;exact hK _ _ True.intro hinv (dsT (by trivial))
  refine .cons (fun a W hfr hinv hdep K hK=>?_) ?_
  · have t15:=tAt (.pointer (some ⟨b,1,none⟩)) (hdep 15 (by kernel_rfl));refine fW0 rfl ?_;clear hfr hdep;go_simp;exact hK _ _ True.intro hinv (dsT (by trivial))
  refine .cons (fun a W hfr hinv hdep K hK=>?_) ?_
  · have t16:=tAt (.pointer (some ⟨b,2,none⟩)) (hdep 16 (by kernel_rfl));obtain ⟨c0,c1,c2,c3,c4,c5,c6,c7,c8,c9⟩:=(HB.out.gr hinv).c10;refine fW0 rfl ?_;clear hfr hdep;go_simp;exact hK _ _ True.intro hinv (dsT (by trivial))
  refine .cons (fun a W hfr hinv hdep K hK=>?_) ?_
  · have t17:=tAt (.int .i64 l) (hdep 17 (by kernel_rfl));have hw:=HLA.out.1;refine fW0 rfl ?_;clear hfr hdep;go_simp;exact hK _ _ True.intro hinv (dsT (by trivial))
  refine .cons (fun a W hfr hinv hdep K hK=>?_) ?_
  · have t12:=tAt (.int .u64 (k:Int)) (hdep 12 (by kernel_rfl));have t18:=tAt (.int .u64 l) (hdep 18 (by kernel_rfl));have hw:=HLA.out.2.1;have hw2:=HLA.out.2.2.2.1;have hw3:=HLA.out.2.2.2.2;refine fW0 rfl ?_;clear hfr hdep;go_simp;exact hK _ _ True.intro hinv (dsT (by trivial))
  refine .cons (fun a W hfr hinv hdep K hK=>?_) ?_
  · have t19:=tAt (.int .u64 (M:Int)) (hdep 19 (by kernel_rfl));have hw:=HLA.out.2.2.1;refine fW0 rfl ?_;clear hfr hdep;go_simp;exact hK _ _ True.intro hinv (dsT (by trivial))
  refine .cons (fun a W hfr hinv hdep K hK=>?_) ?_
  · have t11:=tAt (.agg #[.int .i64 n,.int .i64 l,.int .i64 g]) (hdep 11 (by kernel_rfl));have t20:=tAt (.int .i64 (M:Int)) (hdep 20 (by kernel_rfl));refine fW0 rfl ?_;clear hfr hdep;go_simp;refine (HLO.out W).mono ?_;rintro e W' ⟨rfl,g1⟩;exact hK _ _ True.intro (Gr.trans hinv g1) (dsT (by trivial))
  refine .cons (fun a W hfr hinv hdep K hK=>?_) ?_
  · have t21:=tAt (.tuple #[.int .i64 (R:Int),.int .i64 0]) (hdep 21 (by kernel_rfl));refine fW0 rfl ?_;clear hfr hdep;go_simp;exact hK _ _ True.intro hinv (dsT (by trivial))
  refine .cons (fun a W hfr hinv hdep K hK=>?_) ?_
  · have t7:=tAt (.tuple #[.int .i64 (R:Int),.int .i64 0]) (hdep 7 (by kernel_rfl));refine fW0 rfl ?_;clear hfr hdep;go_simp;exact hK _ _ True.intro hinv (dsT (by trivial))
  refine .cons (fun a W hfr hinv hdep K hK=>?_) ?_
  · have t7:=tAt (.tuple #[.int .i64 (R:Int),.int .i64 0]) (hdep 7 (by kernel_rfl));refine fW0 rfl ?_;clear hfr hdep;go_simp;exact hK _ _ True.intro hinv (dsT (by trivial))
  refine .cons (fun a W hfr hinv hdep K hK=>?_) ?_
  · have t22:=tAt (.int .i64 (R:Int)) (hdep 22 (by kernel_rfl));refine fW0 rfl ?_;clear hfr hdep;go_simp;exact hK _ _ True.intro hinv (dsT (by trivial))
  refine .cons (fun a W hfr hinv hdep K hK=>?_) ?_
  · have t23:=tAt (.int .i64 0) (hdep 23 (by kernel_rfl));refine fW0 rfl ?_;clear hfr hdep;go_simp;exact hK _ _ True.intro hinv (dsT (by trivial))
  exact True.intro
 case fin=>
  intro a W hfr hfin hsl
  have s5:a.tmps.getD 5 undef=.int .i64 (R:Int):=hsl 17 _ 5 rfl rfl;have t5:=tmpAt s5;have s6:a.tmps.getD 6 undef=.int .i64 0:=hsl 18 _ 6 rfl rfl;have t6:=tmpAt s6;have e:=Flow.frame hfr [8,9,10,11,12,13,14,15,16,17,18,19,20,21,7,22,23,5,6] (List.range 25) (by kernel_rfl) (by kernel_rfl)
  simp [List.range,List.range.loop] at e
  rw [t5,t6] at e
  rw [e];clear e hfr hsl s5 t5 s6 t6
  rename_i K2 hK2
  refine hK2 _ _ ?_;go_wp2_with fail
  go_ret
  exact ⟨rfl,hfin⟩
end Go.Proofs.YtlijbgapkmfnaaaGreat
namespace Go.Proofs.YtlijbgapkmfnaaaGreat
open Go.RowKit
open Extern.Stop (cell)
def Sx (xs:List Int):Sec:=if h:xs.length=256 then ⟨xs.map fun x=>UInt8.ofNat x.toNat,by rw [List.length_map,h]⟩ else Sec.zero
structure IsSec (xs:List Int):Prop where
 len:xs.length=256
 small:Wd.Small xs
theorem cell_of {x:Int} (h:0≤x∧x < 256):cell (UInt8.ofNat x.toNat)=.int .u8 x:=by
 obtain ⟨y,rfl⟩:=Int.eq_ofNat_of_zero_le h.1
 have:y % 256=y:=by omega
 simp [cell,UInt8.toNat_ofNat',this]
theorem Sx_bytes {xs:List Int} (h:xs.length=256):(Sx xs).bytes=xs.map fun x=>UInt8.ofNat x.toNat:=by simp [Sx,h]
theorem Sx_cells {xs:List Int} (h:IsSec xs):(Sx xs).cells=xs.map (Value.int .u8):=by
 unfold Sec.cells
 rw [Sx_bytes h.len,List.map_map]
 apply List.map_congr_left
 intro x hx
 exact cell_of (h.small x hx)
theorem Sx_inj {xs ys:List Int} (h:IsSec xs) (k:IsSec ys):Sx xs=Sx ys ↔ xs=ys:=by
 constructor
 ·
  intro e
  have e1:xs.map (Value.int .u8)=ys.map (Value.int .u8):=by rw [← Sx_cells h,← Sx_cells k,e]
  have e2:=congrArg (List.map fun v:Value=>match v with | .int _ x=>x | _=>0) e1
  simpa [List.map_map,Function.comp_def] using e2
 · intro e;rw [e]
theorem Sx_zero:Sx (List.replicate 256 0)=Sec.zero:=by
 have h:(List.replicate 256 (0:Int)).length=256:=List.length_replicate ..
 apply Sec.ext
 rw [Sx_bytes h,List.map_replicate]
 rfl
theorem zeros_sec:IsSec (List.replicate 256 0):=⟨List.length_replicate ..,fun x h=>by rw [List.mem_replicate] at h;omega⟩
theorem Blk.byt {w:World} {g:Nat} {xs:List Int} (h:Blk w g TS (sec (Sx xs))) (k:IsSec xs):Byt w (some ⟨g,0,none⟩) 256 256 xs:=
 ⟨k.len,Nat.le_refl _,by simp only [maxLen];omega,fun _=>⟨g,0,rfl,fun i hi=>by
  rw [Nat.zero_add,h.cell i]
  unfold sec
  rw [Sx_cells k]
  simp [List.getD,k.len,hi]⟩,(fun h=>by cases h),k.small⟩
def lay (xs:List Int) (F:Nat) (ys:List Int):List Int:=xs.take F++(ys++xs.drop (F+ys.length))
theorem lay_sec {xs ys:List Int} {F:Nat} (h:IsSec xs) (k:Wd.Small ys) (hf:F+ys.length≤256):IsSec (lay xs F ys):=
 ⟨by have:=h.len;simp [lay];omega,(h.small.take F).app (k.app (h.small.drop _))⟩
theorem lay_cells {xs ys:List Int} {F:Nat} (h:IsSec xs) (k:Wd.Small ys) (hf:F+ys.length≤256) :
  ((sec (Sx xs)).toList.take F++(ys.map (Value.int .u8)++(sec (Sx xs)).toList.drop (F+(ys.map (Value.int .u8)).length))).toArray=sec (Sx (lay xs F ys)):=by
 rw [sec_list,Sx_cells h]
 unfold sec
 rw [Sx_cells (lay_sec h k hf)]
 simp [lay]
theorem bt4:BT Tryz.prog 31 5:=⟨Tryz.underlying31,by kernel_rfl⟩
theorem bt4_size:(Tryz.prog.info? 5).map (·.size)=some 1:=by kernel_rfl
theorem step_copy_sec {w:World} {ops:Array Oper} {o:Oper} {a:Act} {K:Act→World→Prop} {Q:Exit→Act→World→Prop} {E:Prop} (hgd:o.guard=none) (d s:Operand)
  (ho:o.op=.call { callee:=.builtin .copy,args:=#[d,s],argTypes:=#[31,31] }) {g F L C:Nat} {xs:List Int} (hd:a.eval d=.slice (some ⟨g,F,none⟩) L C) (hb:Blk w g TS (sec (Sx xs))) (hx:IsSec xs)
  {q:Option Addr} {m c:Nat} {ys:List Int} (hs:a.eval s=.slice q m c) (hy:Byt w q m c ys) (hm:0 < m) (hL:m≤L) (hf:F+m≤256)
  (h:K (a.put o.dst (goInt m)) (w.setRow g (sec (Sx (lay xs F ys))))):if Region.wanted o (yielded ops a.tmps)=true then Oper.wp Tryz.prog o a w K Q else E:=by
 have hw:Region.wanted o (yielded ops a.tmps)=true:=by simp [Region.wanted,hgd]
 rw [if_pos hw]
 obtain ⟨b,of,rfl,_⟩:=hy.at hm
 have hl:=hy.len;have hrun:=run_copy_row (P:=Tryz.prog) w 31 31 o.type 5 g F L C ⟨b,of,none⟩ m c (sec (Sx xs)) TS (ys.map (Value.int .u8)) bt4.us bt4_size hb (by rw [List.length_map,hl];exact (Nat.min_eq_left hL).symm) hy.news (by rw [List.length_map,hl,sec_size];exact hf) (u8s_oneCell _)
 rw [List.append_assoc,lay_cells hx hy.small (by rw [hl];exact hf),List.length_map,hl] at hrun
 unfold Oper.wp
 simp only [execOp,ho,resolve,invoke,builtin,hd,hs]
 simp [hd,hs,hrun,Result.andThen]
 exact h
theorem wpList_load_x {ops:Array Oper} {rest:List Oper} {op:Oper} {a:Act} {w:World} {Q:Exit→Act→World→Prop} (hgd:op.guard=none) (x:Operand) (ho:op.op=.load TS x)
  {g:Nat} {s:Sec} (hb:Blk w g TS (sec s)) (hx:a.eval x=.pointer (some ⟨g,0,none⟩))
  (h:wpList Tryz.prog ops Q rest (a.put op.dst (.agg (sec s))) w):wpList Tryz.prog ops Q (op :: rest) a w:=
 wpList_load_row hgd TS x ho g hx TS (sec s) (0,0) _ hb under_sec rfl (by rw [sec_size];exact size_sec) h
theorem wpList_store_x {ops:Array Oper} {rest:List Oper} {op:Oper} {a:Act} {w:World} {Q:Exit→Act→World→Prop} (hgd:op.guard=none) (x y:Operand) (ho:op.op=.store TS x y)
  {g:Nat} {old s:Sec} (hb:Blk w g TS (sec old)) (hx:a.eval x=.pointer (some ⟨g,0,none⟩)) (hy:a.eval y=.agg (sec s))
  (h:wpList Tryz.prog ops Q rest (a.put op.dst undef) (w.setRow g (sec s))):wpList Tryz.prog ops Q (op :: rest) a w:=
 wpList_store_row hgd TS x y ho g (sec s) hx hy TS (sec old) hb (by rw [sec_size];exact size_sec) (by rw [sec_size,sec_size]) (sec_one s) h
theorem results_x {fn:Func} {p:Tmp} (h:fn.results=#[.cell p TS]) (tmps:Array Value) (w:World) (g:Nat) (s:Sec)
  (hp:tmps.getD p undef=.pointer (some ⟨g,0,none⟩)) (hb:Blk w g TS (sec s)):(results fn tmps).run Tryz.prog w=.ok (.agg (sec s)) w:=
 results_cell_row h tmps w g TS (sec s) (0,0) _ hp hb under_sec rfl (by rw [sec_size];exact size_sec)
end Go.Proofs.YtlijbgapkmfnaaaGreat
namespace Go.Proofs.YtlijbgapkmfnaaaGreat
open Go.RowKit Cr
theorem btc:BT Tryz.prog 31 5:=⟨Tryz.underlying31,by kernel_rfl⟩
theorem sz_table:(Tryz.prog.info? 175).map (·.size)=some 16:=by kernel_rfl
end Go.Proofs.YtlijbgapkmfnaaaGreat
namespace Go.Proofs.YtlijbgapkmfnaaaGreat
open Go.RowKit Cr
theorem nought_spell (s:W):bits BinOp.xor IntKind.u32 (U s / 2) (bits BinOp.and IntKind.u32 (-bits BinOp.and IntKind.u32 (U s) 1 % 4294967296) 2197175160)=U (nought s):=by
 have h2:(2197175160:Int)=U poly:=rfl;rw [U_bit,h2]
 show bits BinOp.xor IntKind.u32 (Int.ediv (U s) 2) _=_
 rw [U_half]
 unfold nought
 cases s.getLsbD 0
 ·
  simp only [Bool.false_eq_true,if_false]
  rw [show (-(0:Int) % 4294967296)=U 0#32 from rfl,U_and,U_xor,BitVec.zero_and]
 ·
  simp only [if_true]
  rw [show (-(1:Int) % 4294967296)=U (~~~0#32) from rfl,U_and,U_xor,show (~~~0#32)=BitVec.allOnes 32 from rfl,BitVec.allOnes_and]
set_option maxRecDepth 100000 in
theorem nought_any (s:W) (w:World):Calls Tryz.prog 147 #[.int .u32 (U s)] w fun e w'=>e=.returned (.int .u32 (U (nought s)))∧w=w':=by
 have h0:=U_lo s;have h1:=U_hi s
 go_enter Tryz.func147,Tryz.ntmps147
 go_wp2
 go_ret
 exact ⟨ret_i (nought_spell s),rfl⟩
end Go.Proofs.YtlijbgapkmfnaaaGreat
namespace Go.Proofs.YtlijbgapkmfnaaaGreat
def tot (xss:List (List Int)):Nat:=xss.flatten.length
theorem flat_succ (xss:List (List Int)) (k:Nat) (h:k < xss.length):(xss.take (k+1)).flatten=(xss.take k).flatten++xss.getD k []:=by
 rw [List.take_succ_eq_append_getElem h,List.flatten_append]
 simp [List.getD,h]
theorem tot_le (xss:List (List Int)) (k:Nat):tot (xss.take k)≤tot xss:=by
 have h:xss.flatten=(xss.take k).flatten++(xss.drop k).flatten:=by rw [← List.flatten_append,List.take_append_drop]
 unfold tot
 rw [h,List.length_append];exact Nat.le_add_right _ _
theorem tot_succ (xss:List (List Int)) (k m:Nat) (h:k < xss.length) (hm:(xss.getD k []).length=m):tot (xss.take (k+1))=tot (xss.take k)+m:=by
 unfold tot
 rw [flat_succ xss k h,List.length_append,hm]
end Go.Proofs.YtlijbgapkmfnaaaGreat
namespace Go.Proofs.YtlijbgapkmfnaaaGreat
open Go.RowKit Cr
theorem words16_zero:words 16 (fun _=>0#32)=#[.int .u32 0,.int .u32 0,.int .u32 0,.int .u32 0,.int .u32 0,.int .u32 0,.int .u32 0,.int .u32 0,.int .u32 0,.int .u32 0,.int .u32 0,.int .u32 0,.int .u32 0,.int .u32 0,.int .u32 0,.int .u32 0]:=rfl
theorem tab_join (b i:Nat) (hb:b=8∨b=4∨b=2∨b=1) (hi:i < 16) (hm:i % (2*b)=0):tab i ^^^ tab b=tab (i+b):=by
 unfold tab
 rw [← its_xor,← ofNat_xor]
 have:i ^^^ b=i+b:=by
  have h:∀ (i:Fin 16),(i.val % 16=0→i.val ^^^ 8=i.val+8)∧(i.val % 8=0→i.val ^^^ 4=i.val+4)∧(i.val % 4=0→i.val ^^^ 2=i.val+2)∧(i.val % 2=0→i.val ^^^ 1=i.val+1):=by decide
  have:=h ⟨i,hi⟩
  rcases hb with rfl | rfl | rfl | rfl
  · exact this.1 hm
  · exact this.2.1 hm
  · exact this.2.2.1 hm
  · exact this.2.2.2 hm
 rw [this]
theorem tab_half (b:Nat) (hb:b=8∨b=4∨b=2):nought (tab b)=tab (b / 2):=by
 unfold tab
 rw [show nought (its 4 (BitVec.ofNat 32 b))=its 4 (nought (BitVec.ofNat 32 b)) from its_comm 1 4 _]
 rcases hb with rfl | rfl | rfl <;> rfl
set_option maxRecDepth 100000 in
theorem halves_any (w:World):Calls Tryz.prog 126 #[] w fun e w'=>e=.returned (.agg (words 16 tab))∧Gr w w':=by
 have hg0:=((Gr.refl w).alloc (Nat.le_refl _) (.cells (words 16 fun _=>0#32) 175)).alloc (by simp) (.cells (words 16 fun _=>0#32) 175);have ha0:Blk ((w.alloc (.cells (words 16 fun _=>0#32) 175)).alloc (.cells (words 16 fun _=>0#32) 175)) w.heap.size 175 (words 16 fun _=>0#32):=(Blk.new w 175 (words 16 fun _=>0#32)).alloc _
 have hb0:Blk ((w.alloc (.cells (words 16 fun _=>0#32) 175)).alloc (.cells (words 16 fun _=>0#32) 175)) (w.heap.size+1) 175 (words 16 fun _=>0#32):=by
  have:=Blk.new (w.alloc (.cells (words 16 fun _=>0#32) 175)) 175 (words 16 fun _=>0#32)
  simpa using this
 have HA0:=Lib.hid ha0;have HB0:=Lib.hid hb0;have HG0:=Lib.hid hg0;clear ha0 hb0 hg0
 have HS:Hid (∀ f,(Tryz.prog.info? 175).map (·.size)=some (words 16 f).size):=Lib.hid fun f=>by rw [words_size];exact sz_table
 go_enter Tryz.func126,Tryz.ntmps126
 go_wp2
 rw [← words16_zero];have hb:=HB0.out;have ha:=HA0.out;have hg:=HG0.out;clear HB0 HA0 HG0
 generalize ((w.alloc (.cells (words 16 fun _=>0#32) 175)).alloc (.cells (words 16 fun _=>0#32) 175))=w0 at *
 have HA0:=Lib.hid ha;have HB0:=Lib.hid hb;have HG0:=Lib.hid hg;clear ha hb hg;have HP:(2197175160:Int)=U (tab 8):=rfl;rw [HP];clear HP
 go_loopw [2,3] (fun v m wr=>∃ (b:Nat) (s:W) (f:Nat→W),(b=8∨b=4∨b=2∨b=1∨b=0)∧m=.int .i64 b∧v=.int .u32 (U s)∧Blk wr (w.heap.size+1) 175 (words 16 f)∧Blk wr w.heap.size 175 (words 16 fun _=>0#32)∧Gr w wr∧(b≠0→s=tab b)∧(∀ j,j < 16→(b=0∨j % (2*b)=0)→f j=tab j)) (fun _ m _=>(intOf m).toNat)
 case atStart=>
  refine ⟨8,tab 8,_,.inl rfl,rfl,rfl,HB0.out,HA0.out,HG0.out,fun _=>rfl,fun j hj h=>?_⟩
  obtain rfl:j=0:=by omega
  rfl
 case round=>
  clear HA0 HB0 HG0;obtain ⟨b,s,f,hbs,rfl,rfl,hb,ha,hg,hs,hf⟩:=hrel
  by_cases h0:b=0
  ·
   subst h0;have HE:=Lib.hid (words_congr (n:=16) (fun j hj=>hf j hj (.inl rfl)));have HB:=Lib.hid hb;have HA:=Lib.hid ha;have HG:=Lib.hid hg;clear hb ha hg hs hf hbs
   go_wp2_with (first | (refine wpList_load_row rfl 175 _ rfl _ rfl _ _ _ _ HB.out Tryz.underlying175 rfl (HS.out _) ?_) | (refine wpList_store_row rfl 175 _ _ rfl _ _ rfl rfl _ _ HA.out (HS.out _) (by rw [words_size,words_size]) (words_one _ _) ?_))
   exact bodyPost_ret (v:=.agg (words 16 f)) (results_cell_row rfl _ _ _ _ _ _ _ rfl (HA.out.row (words 16 f)) Tryz.underlying175 rfl (HS.out _)) rfl ⟨by rw [HE.out],below_setRow HG.out (Nat.le_refl _) _⟩
  ·
   have hbs':b=8∨b=4∨b=2∨b=1:=by omega
   have hpos:0 < b:=by omega
   have hb8:b≤8:=by omega
   obtain rfl:=hs h0;have HB:=Lib.hid hb;have HA:=Lib.hid ha;have HG:=Lib.hid hg;have HF:=Lib.hid hf;have HBS:=Lib.hid hbs';clear hb ha hg hs hf hbs hbs' h0
   go_wp2
   obtain ⟨wo,rfl⟩:∃ wo:World,wo=wr:=⟨_,rfl⟩
   go_loopw [4] (fun i wr=>∃ (k:Nat) (f:Nat→W),k≤16∧k % (2*b)=0∧i=.int .i64 k∧Blk wr (w.heap.size+1) 175 (words 16 f)∧Blk wr w.heap.size 175 (words 16 fun _=>0#32)∧Gr w wr∧(∀ j,j < 16→j % (2*b)=0→f j=tab j)∧(∀ j,j < k→j % b=0→f j=tab j)) (fun i _=>16 - (intOf i).toNat)
   case atStart=>exact ⟨0,f,by omega,Nat.zero_mod _,rfl,HB.out,HA.out,HG.out,fun j hj h=>HF.out j hj (.inr h),fun j h=>by omega⟩
   case round=>
    clear HB HA HG HF;obtain ⟨k,f,hk,hkm,rfl,hb,ha,hg,hf,hf2⟩:=hrel;have HB:=Lib.hid hb;have HA:=Lib.hid ha;have HG:=Lib.hid hg;have HF:=Lib.hid hf;have HF2:=Lib.hid hf2;clear hb ha hg hf hf2
    by_cases hlt:k < 16
    ·
     have hkb:k+2*b≤16∧(k+2*b) % (2*b)=0:=by rcases HBS.out with rfl | rfl | rfl | rfl <;> omega
     obtain ⟨hk1,hk2⟩:=hkb;have HJ:=Lib.hid (tab_join b k HBS.out hlt hkm);have HK:Hid (f k=tab k):=Lib.hid (HF.out k hlt hkm);have hc1:=(HB.out.cell k).trans (words_get f hlt);have hc2:=(HB.out.cell (k+b)).trans (words_get f (by omega));have hfr:=HB.out.frozen (k+b);have HM:=Lib.hid hkm;have HM2:=Lib.hid hk2;clear hkm hk2;have HV:=Lib.hid (U_xor (f k) (tab b))
     go_wp2
     go_roundw
     case rel=>
      refine ⟨k+2*b,put f (k+b) (tab (k+b)),hk1,HM2.out,by go_num,?_,HA.out.far (by simp) _,HG.out.setCell (by simp) _,?_,?_⟩
      · rw [← words_put,← HJ.out,← HK.out,← HV.out];exact HB.out.set _ _
      ·
       intro j hj hm
       unfold put
       split
       · rename_i e;rw [e]
       · exact HF.out j hj hm
      ·
       intro j hj hm
       unfold put
       split
       · rename_i e;rw [e]
       ·
        rename_i e
        by_cases hjk:j < k
        · exact HF2.out j hjk hm
        ·
         have hjm:j % (2*b)=0:=by
          have h1:=HM.out
          rcases HBS.out with rfl | rfl | rfl | rfl <;> omega
         exact HF.out j (by omega) hjm
     case measure=>simp [intOf];omega
    ·
     obtain rfl:k=16:=by omega
     have HM:=Lib.hid hkm;clear hkm;go_wp2_with fail;refine (nought_any _ _).mono ?_;rintro e w' ⟨rfl,rfl⟩
     by_cases h1:b=1
     ·
      subst h1
      go_wp2
      go_roundw
      case rel=>exact ⟨0,nought (tab 1),f,by omega,rfl,rfl,HB.out,HA.out,HG.out,fun h=>absurd rfl h,fun j hj _=>HF2.out j hj (Nat.mod_one j)⟩
      case measure=>simp [intOf]
     ·
      have HT:=Lib.hid (tab_half b (by have:=HBS.out;omega))
      have hb2:b / 2=4∨b / 2=2∨b / 2=1:=by have:=HBS.out;omega
      have hb22:2*(b / 2)=b:=by have:=HBS.out;omega
      have HB2:=Lib.hid hb2;have HB22:=Lib.hid hb22;clear hb2 hb22
      go_wp2
      go_roundw
      case rel=>
       refine ⟨b / 2,nought (tab b),f,by have:=HB2.out;omega,by go_num,rfl,HB.out,HA.out,HG.out,fun _=>HT.out,fun j hj h=>HF2.out j hj ?_⟩;have h2:=HB22.out;have h3:=HB2.out
       rcases h with h | h
       · omega
       · rw [h2] at h;exact h
      case measure=>simp [intOf];omega
theorem enc_div (n k:Nat):n / 256 ^ k / 256=n / 256 ^ (k+1):=by rw [Nat.pow_succ,Nat.div_div_eq_div_mul]
def overs (s:W) (xss:List (List Int)):W:=xss.foldl over s
theorem overs_flat:∀ (xss:List (List Int)) (s:W),overs s xss=over s xss.flatten
 | [],_=>rfl
 | x :: r,s=>by rw [List.flatten_cons,over_app,← overs_flat r];rfl
theorem overs_take (s:W) (xss:List (List Int)) (k:Nat) (h:k < xss.length):overs s (xss.take (k+1))=over (overs s (xss.take k)) (xss.getD k []):=by
 rw [List.take_succ_eq_append_getElem h]
 unfold overs
 rw [List.foldl_append]
 simp [List.getD,h]
theorem and15w (s:W):bits BinOp.and IntKind.u32 (U s) 15=((s.toNat % 16:Nat):Int):=by
 have h:=u32_and_nat s.toNat 15 s.isLt (by omega);have e:s.toNat &&& 15=s.toNat % 16:=Nat.and_two_pow_sub_one_eq_mod s.toNat 4
 rw [e] at h
 exact h
theorem half_spell (s:W):bits BinOp.xor IntKind.u32 (U s / 16) (U (tab (s.toNat % 16)))=U (its 4 s):=by
 show bits BinOp.xor IntKind.u32 (Int.ediv (U s) 16) _=_
 rw [U_half4,U_xor,half]
theorem byte_spell (s:W) (x:Int) (h0:0≤x) (h1:x < 4294967296):bits BinOp.xor IntKind.u32 (U s) x=U (s ^^^ BitVec.ofNat 32 x.toNat):=by
 rw [← U_xor,U_of x h0 h1]
set_option maxRecDepth 100000 in
set_option maxHeartbeats 400000 in
theorem over_any (s:W) (p:Option Addr) (n c:Nat) (xss:List (List Int)) (w:World) (h:Rows w p n c xss):Calls Tryz.prog 110 #[.int .u32 (U s),.slice p n c] w fun e w'=>e=.returned (.int .u32 (U (overs s xss)))∧Gr w w':=by
 have HLen:=Lib.hid h.len
 have hn63:n≤9223372036854775807:=by have:=h.cap;have:=h.most;unfold maxLen at this;omega
 have HH:=Lib.hid h;clear h
 have HS:Hid (∀ f,(Tryz.prog.info? 175).map (·.size)=some (words 16 f).size):=Lib.hid fun f=>by rw [words_size];exact sz_table
 go_enter Tryz.func110,Tryz.ntmps110
 go_wp2_with fail;refine (halves_any _).mono ?_;rintro e w1 ⟨rfl,g1⟩;have ha:=Blk.new w1 175 (words 16 fun _=>0#32);have hg:=g1.alloc g1.size (.cells (words 16 fun _=>0#32) 175);have hg2:=below_setRow hg (show w.heap.size≤w1.heap.size from g1.size) (words 16 tab);have hb:=ha.row (words 16 tab);have HC:=Lib.hid (show (words 16 fun _=>0#32).size=(words 16 tab).size by rw [words_size,words_size]);have hl:=ha
 rw [words16_zero] at hl hg2 hb HC
 have HA:=Lib.hid hl;have HB:=Lib.hid hb;have HG:=Lib.hid hg2;clear ha hg hl hg2 hb g1
 go_wp2_with (refine wpList_store_row rfl 175 _ _ rfl _ _ rfl rfl _ _ HA.out (HS.out _) HC.out (words_one _ _) ?_)
 have hb:=HB.out;have hg:=HG.out;clear HA HB HG HC
 rw [← words16_zero] at *
 obtain ⟨b,hbz⟩:∃ b,b=w1.heap.size:=⟨_,rfl⟩
 generalize (w1.alloc (.cells (words 16 fun _=>0#32) 175)).setRow w1.heap.size (words 16 tab)=w0 at *
 rw [← hbz] at hb ⊢
 have HB:=Lib.hid hb;have HG:=Lib.hid hg;have HH0:=Lib.hid (HH.out.kept hg);clear hb hg hbz HH
 go_loop [0,14] (fun v i=>∃ k:Nat,k≤n∧i=.int .i64 k∧v=.int .u32 (U (overs s (xss.take k)))) (fun _ i=>n - (intOf i).toNat)
 case atStart=>exact ⟨0,Nat.zero_le _,rfl,rfl⟩
 case round=>
  obtain ⟨k,hk,rfl,rfl⟩:=hrel
  by_cases hlt:k < n
  ·
   obtain ⟨bl,o,rfl,hc⟩:=HH0.out.lies (by omega);obtain ⟨q,m,d,hcell,hby⟩:=hc k hlt
   have hm63:m≤9223372036854775807:=by have:=hby.cap;have:=hby.most;unfold maxLen at this;omega
   have HO:=Lib.hid (overs_take s xss k (by rw [HLen.out];exact hlt))
   have HY:=Lib.hid hby
   clear hc hby
   obtain ⟨ys,hys⟩:∃ ys,ys=xss.getD k []:=⟨_,rfl⟩
   rw [← hys] at HO HY
   clear hys;obtain ⟨S,hS⟩:∃ S,S=overs s (xss.take k):=⟨_,rfl⟩
   rw [← hS] at HO ⊢
   clear hS
   go_wp2
   go_loop [0,20] (fun v i=>∃ j:Nat,j≤m∧i=.int .i64 j∧v=.int .u32 (U (over S (ys.take j)))) (fun _ i=>m - (intOf i).toNat)
   case atStart=>exact ⟨0,Nat.zero_le _,rfl,rfl⟩
   case round=>
    obtain ⟨j,hj,rfl,rfl⟩:=hrel
    by_cases hjl:j < m
    ·
     obtain ⟨b2,o2,rfl,hc2⟩:=HY.out.at (by omega)
     have hbyte:=hc2 j hjl;obtain ⟨x0,x1⟩:=HY.out.small.getD j;have HP:=Lib.hid (over_take S ys j (by rw [HY.out.len];exact hjl));clear hc2;obtain ⟨x,hx⟩:∃ x,x=ys.getD j 0:=⟨_,rfl⟩
     rw [← hx] at HP hbyte x0 x1
     clear hx;obtain ⟨T,hT⟩:∃ T,T=over S (ys.take j):=⟨_,rfl⟩
     rw [← hT] at HP ⊢
     clear hT;have HX:=Lib.hid (byte_spell T x x0 (by omega))
     go_wp2
     rw [HX.out]
     go_loop [0,28] (fun v i=>∃ r:Nat,r≤2∧i=.int .i64 r∧v=.int .u32 (U (its (4*r) (T ^^^ BitVec.ofNat 32 x.toNat)))) (fun _ i=>2 - (intOf i).toNat)
     case atStart=>exact ⟨0,Nat.zero_le _,rfl,rfl⟩
     case round=>
      obtain ⟨r,hr,rfl,rfl⟩:=hrel;obtain ⟨R,hR⟩:∃ R,R=its (4*r) (T ^^^ BitVec.ofNat 32 x.toNat):=⟨_,rfl⟩
      by_cases hrl:r < 2
      ·
       have HR:Hid (its 4 R=its (4*(r+1)) (T ^^^ BitVec.ofNat 32 x.toNat)):=Lib.hid (by rw [hR,← its_add];congr 1);rw [← hR];clear hR;have hand:=and15w R;have HV:=Lib.hid (half_spell R);have hcl:=(HB.out.cell (R.toNat % 16)).trans (words_get tab (by omega))
       have hql:R.toNat % 16 < 16:=by omega
       obtain ⟨h,hh⟩:∃ h,h=R.toNat % 16:=⟨_,rfl⟩
       rw [← hh] at hand HV hcl hql
       clear hh
       go_wp2
       go_round
       case rel=>exact ⟨r+1,by omega,by go_num,ret_v (by rw [HV.out,HR.out])⟩
       case measure=>simp [intOf];omega
      ·
       obtain rfl:r=2:=by omega
       have HE:Hid (over S (ys.take (j+1))=R):=Lib.hid (by rw [HP.out,byte_half,← its_add];exact hR.symm);rw [← hR];clear hR
       go_wp2
       go_round
       case rel=>exact ⟨j+1,by omega,by go_num,ret_v (by rw [HE.out])⟩
       case measure=>simp [intOf];omega
    ·
     obtain rfl:j=m:=by omega
     have HE:Hid (overs s (xss.take (k+1))=over S (ys.take j)):=Lib.hid (by rw [HO.out,List.take_of_length_le (by rw [HY.out.len];exact Nat.le_refl _)])
     go_wp2
     go_round
     case rel=>exact ⟨k+1,by omega,by go_num,ret_v (by rw [HE.out])⟩
     case measure=>simp [intOf];omega
  ·
   obtain rfl:k=n:=by omega
   have HE:Hid (overs s (xss.take k)=overs s xss):=Lib.hid (by rw [List.take_of_length_le (by rw [HLen.out];exact Nat.le_refl _)])
   go_wp2
   go_ret
   exact ⟨ret_i (by rw [HE.out]),HG.out⟩
theorem enc_put (n k:Nat) (h:k < 8):((Wd.enc k n++List.replicate (8 - k) 0).map (Value.int .u8)).toArray.setIfInBounds k (.int .u8 ((n / 256 ^ k % 256:Nat):Int))=((Wd.enc (k+1) n++List.replicate (8 - (k+1)) 0).map (Value.int .u8)).toArray:=by
 rw [List.setIfInBounds_toArray,Wd.enc_snoc,show 8 - k=(8 - (k+1))+1 by omega,List.replicate_succ]
 congr 1
 have hl:=Wd.enc_length k n
 simp only [List.map_append,List.map_cons,List.append_assoc,List.cons_append,List.nil_append]
 rw [List.set_append_right _ _ (by simp [hl])]
 simp [hl]
set_option maxRecDepth 100000 in
theorem eight_any (n:Nat) (w:World) (hn:n≤18446744073709551615):Calls Tryz.prog 111 #[.int .u64 n] w (RetByte (Wd.enc 8 n) w):=by
 have hb0:Blk (w.alloc (.cells #[.int .u8 0,.int .u8 0,.int .u8 0,.int .u8 0,.int .u8 0,.int .u8 0,.int .u8 0,.int .u8 0] 177)) w.heap.size 177 ((Wd.enc 0 n++List.replicate 8 0).map (Value.int .u8)).toArray:=Blk.new _ _ _;have hg0:=(Gr.refl w).alloc (Nat.le_refl _) (.cells #[.int .u8 0,.int .u8 0,.int .u8 0,.int .u8 0,.int .u8 0,.int .u8 0,.int .u8 0,.int .u8 0] 177);have HB0:=Lib.hid hb0;have HG0:=Lib.hid hg0;clear hb0 hg0
 go_enter Tryz.func111,Tryz.ntmps111
 go_wp2
 go_loopw [0,5] (fun v i wr=>∃ k:Nat,k≤8∧i=.int .i64 k∧v=.int .u64 ((n / 256 ^ k:Nat):Int)∧Blk wr w.heap.size 177 ((Wd.enc k n++List.replicate (8 - k) 0).map (Value.int .u8)).toArray∧Gr w wr) (fun _ i _=>8 - (intOf i).toNat)
 case atStart=>exact ⟨0,Nat.zero_le _,rfl,by simp,HB0.out,HG0.out⟩
 case round=>
  clear HB0 HG0;obtain ⟨k,hk,rfl,rfl,hb,hg⟩:=hrel;have HB:=Lib.hid hb;have HG:=Lib.hid hg;clear hb hg
  by_cases hlt:k < 8
  ·
   have HD:=Lib.hid (enc_div n k);have HU:=Lib.hid (enc_put n k hlt);have hl:Hid ((((Wd.enc k n++List.replicate (8 - k) 0).map (Value.int .u8)).toArray).size=8):=Lib.hid (by simp [Wd.enc_length];omega);obtain ⟨u,hu⟩:∃ u,((Wd.enc k n++List.replicate (8 - k) 0).map (Value.int .u8)).toArray[k]?=some u:=⟨_,Array.getElem?_eq_getElem (by rw [hl.out];exact hlt)⟩;have hcell:=(HB.out.cell k).trans hu;have hfr:=HB.out.frozen k;clear hu;have hmx:n / 256 ^ k≤18446744073709551615:=Nat.le_trans (Nat.div_le_self _ _) hn;obtain ⟨m,hm⟩:∃ m,m=n / 256 ^ k:=⟨_,rfl⟩
   rw [← hm] at HD HU hmx ⊢
   clear hm
   go_wp2
   go_roundw
   case rel=>exact ⟨k+1,by omega,by go_num,by rw [← HD.out];rfl,by rw [← HU.out];exact HB.out.set _ _,HG.out.setCell (by simp) _⟩
   case measure=>simp [intOf];omega
  ·
   obtain rfl:k=8:=by omega
   go_wp2
   go_ret
   refine ⟨_,_,_,rfl,?_,HG.out,fun a h=>by cases h;exact Nat.le_refl _⟩;refine ⟨Wd.enc_length 8 n,Nat.le_refl _,by simp only [maxLen];omega,fun _=>⟨_,0,rfl,fun i hi=>?_⟩,(fun h=>by cases h),Wd.enc_small 8 n⟩;rw [Nat.zero_add,HB.out.cell i];have hl:=Wd.enc_length 8 n
   simp [List.getD,hl,hi]
end Go.Proofs.YtlijbgapkmfnaaaGreat
namespace Go.Proofs.YtlijbgapkmfnaaaGreat
open Go.RowKit Cr
def ones:W:=4294967295#32
theorem U_ones:U ones=4294967295:=rfl
def sumW (l:List Int):W := ~~~(over ones l)
theorem not_spell (s:W):bits BinOp.xor IntKind.u32 IntKind.u32.max (U s)=U (~~~s):=by
 rw [show IntKind.u32.max=U ones from rfl,U_xor,show ones=BitVec.allOnes 32 from rfl,BitVec.allOnes_xor]
theorem Rows.one {w W':World} {t:TypeId} {p:Option Addr} {n c:Nat} {x:List Int} (h:Byt w p n c x) (hW:W'.heap=(w.alloc (.cells #[.slice p n c] t)).heap):Rows W' (some ⟨w.heap.size,0,none⟩) 1 1 [x]:=by
 have hg:=(Below.refl w.heap.size w).alloc (Nat.le_refl _) (.cells #[.slice p n c] t);have g1:=(h.kept hg).heap hW
 have hc:∀ i,W'.cell? ⟨w.heap.size,i,none⟩=(#[.slice p n c]:Array Value)[i]?:=fun i=>by
  rw [← World.cell?_alloc_at (w:=w) #[.slice p n c] t w.heap.size i rfl];exact World.cell?_of_block (w:=w.alloc _) (by rw [hW])
 refine ⟨rfl,Nat.le_refl _,by simp only [maxLen];omega,fun _=>⟨_,0,rfl,fun i hi=>?_⟩,fun h=>by cases h⟩
 obtain rfl:i=0:=by omega
 exact ⟨p,n,c,hc 0,g1⟩
theorem Rows.two {w W':World} {t:TypeId} {p1 p2:Option Addr} {n1 n2 c1 c2:Nat} {x1 x2:List Int} (h1:Byt w p1 n1 c1 x1) (h2:Byt w p2 n2 c2 x2) (hW:W'.heap=(w.alloc (.cells #[.slice p1 n1 c1,.slice p2 n2 c2] t)).heap):Rows W' (some ⟨w.heap.size,0,none⟩) 2 2 [x1,x2]:=by
 have hg:=(Below.refl w.heap.size w).alloc (Nat.le_refl _) (.cells #[.slice p1 n1 c1,.slice p2 n2 c2] t);have g1:=(h1.kept hg).heap hW;have g2:=(h2.kept hg).heap hW
 have hc:∀ i,W'.cell? ⟨w.heap.size,i,none⟩=(#[.slice p1 n1 c1,.slice p2 n2 c2]:Array Value)[i]?:=fun i=>by
  rw [← World.cell?_alloc_at (w:=w) #[.slice p1 n1 c1,.slice p2 n2 c2] t w.heap.size i rfl];exact World.cell?_of_block (w:=w.alloc _) (by rw [hW])
 refine ⟨rfl,Nat.le_refl _,by simp only [maxLen];omega,fun _=>⟨_,0,rfl,fun i hi=>?_⟩,fun h=>by cases h⟩
 have:i=0∨i=1:=by omega
 rcases this with rfl | rfl
 · exact ⟨p1,n1,c1,hc 0,g1⟩
 · exact ⟨p2,n2,c2,hc 1,g2⟩
set_option maxRecDepth 100000 in
theorem sum_any (p:Option Addr) (n c:Nat) (xss:List (List Int)) (w:World) (h:Rows w p n c xss):Calls Tryz.prog 115 #[.slice p n c] w fun e w'=>e=.returned (.int .u32 (U (sumW xss.flatten)))∧Gr w w':=by
 have HH:=Lib.hid h;clear h;have hf:overs ones xss=over ones xss.flatten:=overs_flat xss ones;have HF:=Lib.hid hf;clear hf;have HO:=over_any ones p n c xss
 rw [U_ones] at HO
 have HO:=Lib.hid HO
 go_enter Tryz.func115,Tryz.ntmps115
 go_wp2_with fail;refine (HO.out _ HH.out).mono ?_;rintro e w1 ⟨rfl,g1⟩;have HG:=Lib.hid g1;clear g1 HO
 go_wp2
 go_ret
 exact ⟨ret_i (by rw [HF.out];exact not_spell _),HG.out⟩
set_option maxRecDepth 100000 in
theorem at_crc (m:Nat) (p:Option Addr) (n c:Nat) (xss:List (List Int)) (w:World) (hm:m≤18446744073709551615) (h:Rows w p n c xss):Calls Tryz.prog 93 #[.int .u64 m,.slice p n c] w fun e w'=>e=.returned (.int .u32 (U (sumW (Wd.enc 8 m++xss.flatten))))∧Gr w w':=by
 have HH:=Lib.hid h;clear h
 have hf:overs (over ones (Wd.enc 8 m)) xss=over ones (Wd.enc 8 m++xss.flatten):=by rw [overs_flat,over_app]
 have HF:=Lib.hid hf;clear hf
 have HO:=fun q k d ys=>over_any ones q k d ys
 rw [U_ones] at HO
 have HO:=Lib.hid HO
 go_enter Tryz.func93,Tryz.ntmps93
 go_wp2_with fail;refine (eight_any _ _ hm).mono ?_;rintro e w1 ⟨p1,n1,c1,rfl,hb1,g1,_⟩;have HR:=Lib.hid (Rows.one (t:=31) hb1 rfl);have HG:=Lib.hid (g1.alloc g1.size (.cells #[.slice p1 n1 c1] 31));clear hb1 g1;go_wp2_with fail;refine (HO.out _ _ _ _ _ HR.out).mono ?_;rintro e w2 ⟨rfl,g2⟩;have HG2:=Lib.hid (Gr.trans HG.out g2);have HH2:=Lib.hid (HH.out.kept HG2.out);clear g2 HG HR HO HH;go_wp2_with fail;refine (over_any _ _ _ _ _ _ HH2.out).mono ?_;rintro e w3 ⟨rfl,g3⟩;have HG3:=Lib.hid (HG2.out.trans g3);clear g3 HG2 HH2
 go_wp2
 go_ret
 exact ⟨ret_i (by have e:overs ones [Wd.enc 8 m]=over ones (Wd.enc 8 m):=rfl;rw [e,HF.out];exact not_spell _),HG3.out⟩
end Go.Proofs.YtlijbgapkmfnaaaGreat
namespace Go.Proofs.YtlijbgapkmfnaaaGreat
open Go.RowKit Cr
def padTo (n:Nat) (ys:List Int):List Int:=ys++List.replicate (n - ys.length) 0
theorem padTo_len {n:Nat} {ys:List Int} (h:ys.length≤n):(padTo n ys).length=n:=by simp [padTo];omega
theorem padTo_small {n:Nat} {ys:List Int} (h:Wd.Small ys):Wd.Small (padTo n ys):=h.app fun x hx=>by rw [List.mem_replicate] at hx;omega
theorem Blk.other {w:World} {g r:Nat} {t:TypeId} {cs cs':Array Value} (h:Blk w g t cs) (hne:g≠r):Blk (w.setRow r cs') g t cs:=(setRow_other w r g cs' hne).trans h
end Go.Proofs.YtlijbgapkmfnaaaGreat
namespace Go.Proofs.YtlijbgapkmfnaaaGreat
open Go.RowKit
theorem div_rounds (n k:Nat):n / 256 ^ k / 256=n / 256 ^ (k+1):=by rw [Nat.pow_succ,Nat.div_div_eq_div_mul]
theorem refGet_any (p:Option Addr) (n c:Nat) (xs:List Int) (w:World) (h:Byt w p n c xs) (h8:n≤8):Calls Tryz.prog 89 #[.slice p n c] w fun e w'=>e=.returned (.int .u64 (Wd.dec xs))∧w=w':=by
 have hlen:=h.len;have hsm:=Lib.hid h.small
 rcases Nat.eq_zero_or_pos n with rfl | hn
 ·
  obtain rfl:xs=[]:=List.eq_nil_of_length_eq_zero hlen
  go_enter Tryz.func89,Tryz.ntmps89
  go_wp2
  go_rounds 1
  go_ret
  exact ⟨rfl,rfl⟩
 ·
  obtain ⟨b,o,rfl,hc⟩:=h.at hn
  have Hlen:=Lib.hid hlen;have Hc:=Lib.hid hc;clear hc hlen h
  go_enter Tryz.func89,Tryz.ntmps89
  go_wp2
  go_loop [3,4] (fun t i=>∃ k:Nat,k≤n∧i=.int .i64 k∧t=.int .u64 (Wd.dec (xs.drop k))) (fun _ i=>(intOf i).toNat)
  case atStart=>exact ⟨n,Nat.le_refl _,rfl,by rw [List.drop_eq_nil_of_le (by rw [Hlen.out];exact Nat.le_refl _)];rfl⟩
  case round=>
   obtain ⟨k,hk,rfl,rfl⟩:=hrel
   by_cases hlt:0 < k
   ·
    obtain ⟨j,rfl⟩:∃ j,k=j+1:=⟨k - 1,by omega⟩;have hcell:w.cell? ⟨b,o+j,none⟩=some (.int .u8 (xs.getD j 0)):=Hc.out j (by omega);have hs:=hsm.out.getD j;have hst:=Wd.dec_drop xs j (by rw [Hlen.out];omega)
    have hlt2:Wd.dec (xs.drop (j+1)) < 72057594037927936:=by
     have h1:=Wd.dec_lt _ (hsm.out.drop (j+1))
     have h2:(xs.drop (j+1)).length≤7:=by rw [List.length_drop,Hlen.out];omega
     have h3:=Wd.pow_lt _ h2
     omega
    generalize hx:xs.getD j 0=x at *
    generalize hy:Wd.dec (xs.drop (j+1))=y at *
    have Hst:=Lib.hid hst;clear hst hx hy;obtain ⟨X,rfl⟩:=Int.eq_ofNat_of_zero_le hs.1;have hs2:(X:Int) < 256:=hs.2;clear hs
    go_wp2
    go_round
    case rel=>exact ⟨j,by omega,by go_num,congrArg (Value.int .u64) (by rw [Hst.out];simp;omega)⟩
    case measure=>simp [intOf]
   ·
    obtain rfl:k=0:=by omega
    go_wp2
    go_ret
    exact ⟨rfl,rfl⟩
end Go.Proofs.YtlijbgapkmfnaaaGreat
namespace Go.Proofs.YtlijbgapkmfnaaaGreat
open Go.RowKit
set_option maxHeartbeats 400000 in
theorem refPut_any (n k:Nat) (w:World) (hn:n≤18446744073709551615) (hk:k≤8):Calls Tryz.prog 83 #[.int .u64 n,.int .i64 k] w (RetByte (Wd.enc k n) w):=by
 go_enter Tryz.func83,Tryz.ntmps83
 go_wp2
 go_loopw [0,5] (fun t v wr=>∃ (j:Nat) (p:Option Addr) (c:Nat),j≤k∧t=.int .u64 ((n / 256 ^ j:Nat):Int)∧v=.slice p j c∧Hid (OwnB wr w.heap.size 5 (.slice p j c) (Wd.enc j n))∧Hid (Below w.heap.size w wr))
  (fun _ v _=>k - lenOf v)
 case atStart=>exact ⟨0,none,0,Nat.zero_le _,by simp,rfl,OwnB.nil _ _ _,Below.refl _ _⟩
 case round=>
  obtain ⟨j,p,c,hj,rfl,rfl,ho,hb⟩:=hrel;have hd:=Lib.hid (div_rounds n j);have hmx:n / 256 ^ j≤18446744073709551615:=Nat.le_trans (Nat.div_le_self _ _) hn;have hsn:=Lib.hid (Wd.enc_snoc j n);have hl:=Lib.hid (Wd.enc_length j n);have hbs:=hb.out.size
  generalize hm:n / 256 ^ j=m at *
  have HM:=Lib.hid hm;clear hm
  by_cases hlt:j < k
  ·
   go_wp2_with (at_builtin;refine wpList_app_byt bt rfl (.tmp 10) (.tmp 14) rfl w.heap.size _ _ rfl (ho.out.alloc _) (some ⟨wr.heap.size,0,none⟩) 1 1 [((m % 256:Nat):Int)] rfl ?h1 ?h2 ?h3 ?_)
   case h1=>simpa using Byt.one wr ((m % 256:Nat):Int) 5 (by omega)
   case h2=>rw [hl.out];omega
   case h3=>simp;omega
   intro v' w' own grow
   have HO:=Lib.hid (own.as (ys:=Wd.enc (j+1) n) (by rw [hsn.out];simp));have HB:Hid (Below w.heap.size w w'):=Below.app (hb.out.alloc hbs _) (by simp;omega) (ho.out.alloc _) grow;obtain ⟨p',c',hv⟩:=HO.out.shape (j+1) (Wd.enc_length _ _);subst hv;clear own grow
   go_wp2
   go_roundw
   case rel=>exact ⟨j+1,p',c',by omega,by rw [← hd.out];rfl,rfl,HO,HB⟩
   case measure=>simp [lenOf];omega
  ·
   obtain rfl:j=k:=by omega
   go_wp2
   go_ret
   exact RetByte.of_own ho.out hb.out
end Go.Proofs.YtlijbgapkmfnaaaGreat
namespace Go.Proofs.YtlijbgapkmfnaaaGreat
open Go.RowKit
theorem map_u8_inj:∀ (a b:List Int),Wd.Small a→Wd.Small b→(a.map fun n=>UInt8.ofNat n.toNat)=(b.map fun n=>UInt8.ofNat n.toNat)→a=b
 | [],[],_,_,_=>rfl
 | [],_ :: _,_,_,h=>by simp at h
 | _ :: _,[],_,_,h=>by simp at h
 | x :: r,y :: s,hx,hy,h=>by
  simp only [List.map_cons,List.cons.injEq] at h
  have h1:=hx.head;have h2:=hy.head;have e:=congrArg UInt8.toNat h.1
  simp only [UInt8.toNat_ofNat'] at e
  rw [map_u8_inj r s hx.tail hy.tail h.2]
  congr 1
  omega
theorem strOfNums_inj {a b:List Int} (ha:Wd.Small a) (hb:Wd.Small b):(strOfNums a).toList=(strOfNums b).toList ↔ a=b:=by
 constructor
 ·
  intro h
  rw [Lib.strOfNums_toList,Lib.strOfNums_toList] at h
  exact map_u8_inj a b ha hb h
 ·
  rintro rfl
  rfl
theorem wireSame_any (p q:Option Addr) (n c m d:Nat) (xs ys:List Int) (w:World) (h:Byt w p n c xs) (k:Byt w q m d ys):Calls Tryz.prog 123 #[.slice p n c,.slice q m d] w fun e w'=>e=.returned (.bool (decide (xs=ys)))∧w=w':=by
 have hc1:=h.lies.convert h.len c 31 5 9 Tryz.underlying31 Tryz.underlying5 Tryz.underlying9;have hc2:=k.lies.convert k.len d 31 5 9 Tryz.underlying31 Tryz.underlying5 Tryz.underlying9;have he:Hid ((strOfNums xs).toList=(strOfNums ys).toList ↔ xs=ys):=strOfNums_inj h.small k.small;clear h k;obtain ⟨r,hr⟩:∃ r,r=strOfNums xs:=⟨_,rfl⟩;obtain ⟨s,hs⟩:∃ s,s=strOfNums ys:=⟨_,rfl⟩
 rw [← hr] at hc1 he
 rw [← hs] at hc2 he
 clear hr hs
 go_enter Tryz.func123,Tryz.ntmps123
 go_wp2
 go_ret
 refine ⟨ret_b ?_,rfl⟩
 show (r.toList == s.toList)=decide (xs=ys)
 rw [Bool.eq_iff_iff,beq_iff_eq,decide_eq_true_eq];exact he.out
end Go.Proofs.YtlijbgapkmfnaaaGreat
namespace Go.Proofs.YtlijbgapkmfnaaaGreat
open Go.RowKit
def Grown0 (tB:Nat) (w:World) (e:Ending) (w':World):Prop:=∃ v,e=.returned v∧OwnB w' w.heap.size tB v []∧Gr w w'
set_option maxHeartbeats 400000 in
theorem grow_any (n:Nat) (w:World) (hbig:n≤140737488355328):Calls Tryz.prog 127 #[.slice none 0 0,.int .i64 n] w (Grown0 5 w):=by
 rcases Nat.eq_zero_or_pos n with rfl | hn
 ·
  go_enter Tryz.func127,Tryz.ntmps127
  go_wp2
  go_ret
  exact ⟨_,rfl,OwnB.nil _ _ _,Gr.refl _⟩
 ·
  obtain ⟨i0,hi,hz0,hz1,hz2⟩:=info_parts bt.info
  have hrz:∀ ty,(Builtin.append_ #[31,3] ty #[.slice none 0 0,.int .i64 (n:Int)]).run Tryz.prog w =
    .ok (.slice (some ⟨w.heap.size,0,none⟩) n (grownCap w n 0 5)) (w.drew.alloc (.cells (#[]++Builtin.zeroCells (Value.int .u8 0).cells n++Builtin.zeroCells (Value.int .u8 0).cells (grownCap w n 0 5 - n)) 5)):=fun ty=>by
   have h:=Lib.run_append_grow_zeros (P:=Tryz.prog) w 31 3 ty 5 i0 (.int .u8 0) .i64 .i64 Tryz.underlying31 Tryz.underlying3 hi hz0 none 0 0 [] (by rw [hz1];exact run_firstCells_none w.drew 1 0 0 0) n hn (by omega) (by omega) (by omega)
    (by rw [hz2];omega) (by rw [hz2];exact growslice_fits (by omega) (by omega))
   simpa using h
  have hGn:n≤grownCap w n 0 5:=grownCap_ge w _ _ _;have hG63:grownCap w n 0 5≤maxLen:=grownCap_le_maxLen w n 0 5 (by unfold maxLen;omega);obtain ⟨G,hG⟩:∃ G,G=grownCap w n 0 5:=⟨_,rfl⟩
  rw [← hG] at hrz hGn hG63
  clear hG hi hz0 hz1 hz2;have HG:=Lib.hid hG63
  have hG63':G≤9223372036854775807:=by unfold maxLen at hG63;omega
  clear hG63;obtain ⟨C,hC⟩:∃ C,C=#[]++Builtin.zeroCells (Value.int .u8 0).cells n++Builtin.zeroCells (Value.int .u8 0).cells (G - n):=⟨_,rfl⟩
  have hCs:Hid (C.size=G*1):=by
   show _=_
   rw [hC]
   simp only [Array.size_append,size_zeroCells,Array.size_empty,Value.cells]
   simp
   omega
  rw [← hC] at hrz
  clear hC
  go_enter Tryz.func127,Tryz.ntmps127
  go_wp2_with (at_builtin;refine Lib.wpList_append_run _ rfl _ _ _ _ rfl _ _ rfl rfl _ _ (hrz _) ?_)
  go_ret
  refine ⟨_,rfl,⟨?_,fun _ h=>by cases h⟩,?_⟩
  · exact World.ownsRow_made (w:=w.drew) C G (Nat.le_refl _) HG.out hCs.out
  · exact (Below.refl _ _).drew.alloc (Nat.le_refl _) _
set_option maxHeartbeats 800000 in
theorem concat_any (p:Option Addr) (n c:Nat) (xss:List (List Int)) (w:World) (h:Rows w p n c xss) (hbig:tot xss≤140737488355328):Calls Tryz.prog 112 #[.slice p n c] w (RetByte xss.flatten w):=by
 have HLen:=Lib.hid h.len
 have hn63:n≤9223372036854775807:=by have:=h.cap;have:=h.most;unfold maxLen at this;omega
 have HH:=Lib.hid h;have Hbig:=Lib.hid hbig;clear h hbig
 go_enter Tryz.func112,Tryz.ntmps112
 go_wp2
 go_loop [3,11] (fun t i=>∃ k:Nat,k≤n∧i=.int .i64 k∧t=.int .i64 (tot (xss.take k):Nat)) (fun _ i=>n - (intOf i).toNat)
 case atStart=>exact ⟨0,Nat.zero_le _,rfl,rfl⟩
 case round=>
  obtain ⟨k,hk,rfl,rfl⟩:=hrel;have hle:=tot_le xss k;have hb2:=Hbig.out
  by_cases hlt:k < n
  ·
   obtain ⟨b,o,rfl,hc⟩:=HH.out.lies (by omega);obtain ⟨q,m,d,hcell,hby⟩:=hc k hlt;have hle2:=tot_le xss (k+1);have hL:=tot_succ xss k m (by rw [HLen.out];exact hlt) hby.len;have HL:=Lib.hid hL
   have hSm:tot (xss.take k)+m≤140737488355328:=by omega
   clear hL hle2 hc hby hb2 hle
   go_wp2
   go_round
   case rel=>exact ⟨k+1,by omega,by go_num,congrArg (Value.int .i64) (by rw [HL.out];rfl)⟩
   case measure=>simp [intOf];omega
  ·
   obtain rfl:k=n:=by omega
   have hall:xss.take k=xss:=List.take_of_length_le (by rw [HLen.out];exact Nat.le_refl _);rw [hall];clear hall hle;go_wp2_with fail;refine (grow_any _ _ hb2).mono ?_;rintro e w1 ⟨v,rfl,own,gr⟩;have HO:=Lib.hid own;have HB:=Lib.hid gr;clear own gr hb2
   go_wp2
   go_loopw [6,27] (fun v i wr=>∃ j:Nat,j≤k∧i=.int .i64 j∧Hid (OwnB wr w.heap.size 5 v (xss.take j).flatten)∧Hid (Below w.heap.size w wr)) (fun _ i _=>k - (intOf i).toNat)
   case atStart=>exact ⟨0,Nat.zero_le _,rfl,HO,HB⟩
   case round=>
    obtain ⟨j,hj,rfl,ho,hb⟩:=hrel;have hbs:=hb.out.size
    by_cases hlt:j < k
    ·
     obtain ⟨b,o,rfl,hc⟩:=(HH.out.kept hb.out).lies (by omega);obtain ⟨q,m,d,hcell,hby⟩:=hc j hlt;have hfs:=Lib.hid (flat_succ xss j (by rw [HLen.out];exact hlt))
     have hsz:Hid ((xss.take j).flatten.length+m≤140737488355328):=by
      have h1:=tot_le xss (j+1)
      rw [tot_succ xss j m (by rw [HLen.out];exact hlt) hby.len] at h1
      exact Nat.le_trans h1 Hbig.out
     have HBY:=Lib.hid hby
     clear hby hc
     go_wp2_with (at_builtin;refine wpList_app_byt bt rfl (.tmp 31) (.tmp 32) rfl w.heap.size _ _ rfl ho.out q m d _ rfl HBY.out hsz.out hbs ?_)
     intro v' w' own grow
     have HO2:=Lib.hid (own.as hfs.out.symm);have HB2:Hid (Below w.heap.size w w'):=Below.app hb.out hbs ho.out grow;clear own grow
     go_wp2
     go_roundw
     case rel=>exact ⟨j+1,by omega,by go_num,HO2,HB2⟩
     case measure=>simp [intOf];omega
    ·
     obtain rfl:j=k:=by omega
     have hall:xss.take j=xss:=List.take_of_length_le (by rw [HLen.out];exact Nat.le_refl _);have ho2:=ho.out
     rw [hall] at ho2
     obtain ⟨q,d,hv⟩:=ho2.shape (tot xss) rfl;subst hv;have HO2:=Lib.hid ho2;clear ho2 hall
     go_wp2
     go_ret
     exact RetByte.of_own HO2.out hb.out
theorem join_any (p:Option Addr) (n c:Nat) (xss:List (List Int)) (w:World) (h:Rows w p n c xss) (hbig:tot xss≤140737488355328):Calls Tryz.prog 94 #[.slice p n c] w (RetByte xss.flatten w):=by
 go_enter Tryz.func94,Tryz.ntmps94
 go_wp2_with fail;refine (concat_any _ _ _ _ _ h hbig).mono ?_;rintro e w' ⟨q,m,d,rfl,hby,hg,hf⟩
 go_wp2
 go_ret
 exact ⟨q,m,d,rfl,hby,hg,hf⟩
end Go.Proofs.YtlijbgapkmfnaaaGreat
namespace Go.Proofs.YtlijbgapkmfnaaaGreat
open Cr
structure Rc where
 k:Int
 t:Nat
 p:Nat
 x:Nat
 g:Int
 o:Int
 b:List Int
 a:List Int
structure Rc.In (r:Rc):Prop where
 t:r.t≤18446744073709551615
 p:r.p≤18446744073709551615
 x:r.x≤18446744073709551615
 b:Wd.Small r.b
 a:Wd.Small r.a
def Rc.nil:Rc:=⟨0,0,0,0,0,0,[],[]⟩
def sameR (c d:Rc):Bool:=decide (c.k=d.k∧c.t=d.t∧c.p=d.p∧c.x=d.x∧c.g=d.g∧c.o=d.o∧c.b=d.b∧c.a=d.a)
theorem sameR_self (c:Rc):sameR c c=true:=by simp [sameR]
def fitR (g o:Int) (na:Nat):Bool:=decide (0≤g∧g < 4096∧1≤na∧0≤o∧o+na≤248)
def mayQ (k:Int) (t x:Nat) (g o:Int) (nb na:Nat):Bool:=
 decide (t≠0) && ((decide (k=1∧x=0∧nb=na) && fitR g o na) || (decide (k=2∧nb=0) && fitR g o na) || decide ((k=3∨k=4)∧x=0∧g=0∧o=0∧nb=0∧na=0))
def mayR (r:Rc):Bool:=mayQ r.k r.t r.x r.g r.o r.b.length r.a.length
theorem mayQ_iff {k:Int} {t x:Nat} {g o:Int} {nb na:Nat}:mayQ k t x g o nb na=true ↔ t≠0∧((k=1∧x=0∧nb=na∧0≤g∧g < 4096∧1≤na∧0≤o∧o+na≤248)∨(k=2∧nb=0∧0≤g∧g < 4096∧1≤na∧0≤o∧o+na≤248)∨((k=3∨k=4)∧x=0∧g=0∧o=0∧nb=0∧na=0)):=by
 simp [mayQ,fitR]
 omega
structure Rc.Fits (r:Rc):Prop where
 k0:1≤r.k
 k1:r.k≤4
 g0:0≤r.g
 g1:r.g < 4096
 o0:0≤r.o
 o1:r.o≤247
 na:r.a.length≤248
 nb:r.b.length=if r.k=1 then r.a.length else 0
theorem mayR_fits {r:Rc} (h:mayR r=true):r.Fits:=by
 have h2:=mayQ_iff.1 h;obtain ⟨h3,h4⟩:=h2;refine ⟨by omega,by omega,by omega,by omega,by omega,by omega,by omega,?_⟩
 split <;> omega
theorem Rc.Fits.nb1 {r:Rc} (h:r.Fits):r.b.length≤248:=by
 have h1:=h.nb;have h2:=h.na
 split at h1 <;> omega
def rows9 (r:Rc):List (List Int):=[Wd.enc 1 r.k.toNat,Wd.enc 8 r.t,Wd.enc 8 r.p,Wd.enc 8 r.x,Wd.enc 2 r.g.toNat,Wd.enc 1 r.o.toNat,Wd.enc 1 r.a.length,r.b,r.a]
def bodyL (r:Rc):List Int:=(rows9 r).flatten
theorem bodyL_len (r:Rc):(bodyL r).length=29+r.b.length+r.a.length:=by
 simp [bodyL,rows9,Wd.enc_length];omega
def sizeL (r:Rc):List Int:=Wd.enc 2 (29+r.b.length+r.a.length)
def sumL (r:Rc) (at':Nat):W:=sumW (Wd.enc 8 at'++(sizeL r++bodyL r))
def recL (r:Rc) (at':Nat):List Int:=sizeL r++(Wd.enc 4 (sumL r at').toNat++bodyL r)
theorem recL_len (r:Rc) (at':Nat):(recL r at').length=35+r.b.length+r.a.length:=by
 simp [recL,sizeL,Wd.enc_length,bodyL_len];omega
theorem rows9_small {r:Rc} (h:r.In):Wd.Small (bodyL r):=by
 unfold bodyL rows9
 simp only [List.flatten_cons,List.flatten_nil,List.append_nil]
 exact (Wd.enc_small _ _).app ((Wd.enc_small _ _).app ((Wd.enc_small _ _).app ((Wd.enc_small _ _).app ((Wd.enc_small _ _).app ((Wd.enc_small _ _).app ((Wd.enc_small _ _).app (h.b.app h.a)))))))
theorem recL_small {r:Rc} (h:r.In) (at':Nat):Wd.Small (recL r at'):=by
 unfold recL sizeL
 exact (Wd.enc_small _ _).app ((Wd.enc_small _ _).app (rows9_small h))
def cand (xs:List Int):Rc:=
 { k:=(atR xs 6 1:Nat),t:=atR xs 7 8,p:=atR xs 15 8,x:=atR xs 23 8,g:=(atR xs 31 2:Nat),o:=(atR xs 33 1:Nat),b:=(xs.drop 35).take (if atR xs 6 1=1 then atR xs 34 1 else 0),a:=(xs.drop (35+(if atR xs 6 1=1 then atR xs 34 1 else 0))).take (atR xs 34 1) }
def preB (xs ys:List Int):Bool:=decide (xs.take ys.length=ys)
def ofB (xs:List Int) (at':Nat):Bool:=mayR (cand xs) && preB xs (recL (cand xs) at')
def ofR (xs:List Int) (at':Nat):Rc:=if ofB xs at' then cand xs else Rc.nil
def ofN (xs:List Int) (at':Nat):Nat:=if ofB xs at' then (recL (cand xs) at').length else 0
theorem preB_iff {xs ys:List Int}:preB xs ys=true ↔ xs.take ys.length=ys:=by simp [preB]
theorem preB_app (ys zs:List Int):preB (ys++zs) ys=true:=by simp [preB]
theorem preB_split {xs ys:List Int} (h:preB xs ys=true):xs=ys++xs.drop ys.length:=by
 have h1:=preB_iff.1 h
 conv=>lhs;rw [← List.take_append_drop ys.length xs,h1]
theorem atR_mid (A B:List Int) (k n:Nat) (h1:1≤k) (h8:k≤8):atR (A++(Wd.enc k n++B)) A.length k=n % 256 ^ k:=by
 have hs:standsB (A++(Wd.enc k n++B)).length (A.length:Int) (k:Int)=true:=by
  rw [standsB_iff]
  simp [Wd.enc_length]
  omega
 unfold atR sub
 rw [hs]
 simp only [if_true,Int.toNat_natCast]
 rw [List.drop_left' rfl,List.take_left' (Wd.enc_length _ _),Wd.dec_enc]
theorem atR_mid' {xs A B:List Int} {k n:Nat} {f s:Int} (e:xs=A++(Wd.enc k n++B)) (hf:f=A.length) (hs:s=k) (h1:1≤k) (h8:k≤8):atR xs f s=n % 256 ^ k:=by
 subst e hf hs;exact atR_mid A B k n h1 h8
theorem atR_lt (xs:List Int) (hx:Wd.Small xs) (f:Int) (k:Nat) (_:k≤8):atR xs f k < 256 ^ k:=by
 unfold atR
 split
 ·
  unfold sub
  rw [Int.toNat_natCast];have h1:=Wd.dec_lt _ ((hx.drop f.toNat).take k)
  have h2:((xs.drop f.toNat).take k).length≤k:=by simp;omega
  exact Nat.lt_of_lt_of_le h1 (Nat.pow_le_pow_right (by omega) h2)
 · exact Nat.pow_pos (by omega)
theorem cand_in (xs:List Int) (hx:Wd.Small xs):(cand xs).In:=by
 have h8:∀ f,atR xs f 8 < 256 ^ 8:=fun f=>atR_lt xs hx f 8 (by omega)
 refine ⟨?_,?_,?_,(hx.drop _).take _,(hx.drop _).take _⟩
 · have:=h8 7;simp only [cand];omega
 · have:=h8 15;simp only [cand];omega
 · have:=h8 23;simp only [cand];omega
theorem cand_rec {r:Rc} (hm:mayR r=true) (hi:r.In) (at':Nat) (rest:List Int):cand (recL r at'++rest)=r:=by
 have hf:=mayR_fits hm;obtain ⟨k,t,p,x,g,o,b,a⟩:=r;have f1:=hf.k0;have f2:=hf.k1;have f3:=hf.g0;have f4:=hf.g1;have f5:=hf.o0;have f6:=hf.o1;have f7:=hf.na;have f8:=hf.nb;have f9:=hf.nb1;have i1:=hi.t;have i2:=hi.p;have i3:=hi.x
 simp only at f1 f2 f3 f4 f5 f6 f7 f8 f9 i1 i2 i3
 obtain ⟨S,hS⟩:∃ S,S=Wd.enc 2 (29+b.length+a.length):=⟨_,rfl⟩;obtain ⟨M,hM⟩:∃ M,M=Wd.enc 4 (sumL ⟨k,t,p,x,g,o,b,a⟩ at').toNat:=⟨_,rfl⟩
 have lS:S.length=2:=by rw [hS];exact Wd.enc_length _ _
 have lM:M.length=4:=by rw [hM];exact Wd.enc_length _ _
 have e:recL ⟨k,t,p,x,g,o,b,a⟩ at'++rest=S++(M++(Wd.enc 1 k.toNat++(Wd.enc 8 t++(Wd.enc 8 p++(Wd.enc 8 x++(Wd.enc 2 g.toNat++(Wd.enc 1 o.toNat++(Wd.enc 1 a.length++(b++(a++rest)))))))))):=by
  unfold recL sizeL
  rw [← hM,← hS]
  simp [bodyL,rows9]
 rw [e];clear hS hM e hm;have lE:∀ j n,(Wd.enc j n).length=j:=Wd.enc_length;obtain ⟨X,hX⟩:∃ X,X=S++(M++(Wd.enc 1 k.toNat++(Wd.enc 8 t++(Wd.enc 8 p++(Wd.enc 8 x++(Wd.enc 2 g.toNat++(Wd.enc 1 o.toNat++(Wd.enc 1 a.length++(b++(a++rest)))))))))):=⟨_,rfl⟩;rw [← hX]
 have e1:atR X 6 1=k.toNat:=by
  refine (atR_mid' (A:=S++M) (k:=1) (n:=k.toNat) (by rw [hX];simp only [List.append_assoc];rfl) (by simp [lS,lM]) rfl (by omega) (by omega)).trans ?_
  omega
 have e2:atR X 7 8=t:=by
  refine (atR_mid' (A:=S++(M++Wd.enc 1 k.toNat)) (k:=8) (n:=t) (by rw [hX];simp only [List.append_assoc];rfl) (by simp [lS,lM,lE]) rfl (by omega) (by omega)).trans ?_;exact Nat.mod_eq_of_lt (by omega)
 have e3:atR X 15 8=p:=by
  refine (atR_mid' (A:=S++(M++(Wd.enc 1 k.toNat++Wd.enc 8 t))) (k:=8) (n:=p) (by rw [hX];simp only [List.append_assoc];rfl) (by simp [lS,lM,lE]) rfl (by omega) (by omega)).trans ?_;exact Nat.mod_eq_of_lt (by omega)
 have e4:atR X 23 8=x:=by
  refine (atR_mid' (A:=S++(M++(Wd.enc 1 k.toNat++(Wd.enc 8 t++Wd.enc 8 p)))) (k:=8) (n:=x) (by rw [hX];simp only [List.append_assoc];rfl) (by simp [lS,lM,lE]) rfl (by omega) (by omega)).trans ?_;exact Nat.mod_eq_of_lt (by omega)
 have e5:atR X 31 2=g.toNat:=by
  refine (atR_mid' (A:=S++(M++(Wd.enc 1 k.toNat++(Wd.enc 8 t++(Wd.enc 8 p++Wd.enc 8 x))))) (k:=2) (n:=g.toNat) (by rw [hX];simp only [List.append_assoc];rfl) (by simp [lS,lM,lE]) rfl (by omega) (by omega)).trans ?_;exact Nat.mod_eq_of_lt (by omega)
 have e6:atR X 33 1=o.toNat:=by
  refine (atR_mid' (A:=S++(M++(Wd.enc 1 k.toNat++(Wd.enc 8 t++(Wd.enc 8 p++(Wd.enc 8 x++Wd.enc 2 g.toNat)))))) (k:=1) (n:=o.toNat) (by rw [hX];simp only [List.append_assoc];rfl) (by simp [lS,lM,lE]) rfl (by omega) (by omega)).trans ?_;exact Nat.mod_eq_of_lt (by omega)
 have e7:atR X 34 1=a.length:=by
  refine (atR_mid' (A:=S++(M++(Wd.enc 1 k.toNat++(Wd.enc 8 t++(Wd.enc 8 p++(Wd.enc 8 x++(Wd.enc 2 g.toNat++Wd.enc 1 o.toNat))))))) (k:=1) (n:=a.length) (by rw [hX];simp only [List.append_assoc];rfl) (by simp [lS,lM,lE]) rfl (by omega) (by omega)).trans ?_;exact Nat.mod_eq_of_lt (by omega)
 have e8:X.drop 35=b++(a++rest):=by
  have:X=(S++(M++(Wd.enc 1 k.toNat++(Wd.enc 8 t++(Wd.enc 8 p++(Wd.enc 8 x++(Wd.enc 2 g.toNat++(Wd.enc 1 o.toNat++Wd.enc 1 a.length))))))))++(b++(a++rest)):=by rw [hX];simp
  rw [this];exact List.drop_left' (by simp [lS,lM,lE])
 have e9:(if k.toNat=1 then a.length else 0)=b.length:=by
  rw [f8]
  by_cases hk:k=1
  · simp [hk]
  · rw [if_neg hk,if_neg (by omega)]
 unfold cand
 simp only [e1,e2,e3,e4,e5,e6,e7,e9]
 rw [← List.drop_drop,e8,List.drop_left' rfl,List.take_left' rfl,List.take_left' rfl]
 congr 1
 · omega
 · omega
 · omega
theorem ofB_rec {r:Rc} (hm:mayR r=true) (hi:r.In) (at':Nat) (rest:List Int):ofB (recL r at'++rest) at'=true:=by
 unfold ofB
 rw [cand_rec hm hi,hm,preB_app]
 rfl
theorem ofR_rec {r:Rc} (hm:mayR r=true) (hi:r.In) (at':Nat) (rest:List Int):ofR (recL r at'++rest) at'=r:=by
 unfold ofR
 rw [ofB_rec hm hi,cand_rec hm hi]
 rfl
theorem ofN_rec {r:Rc} (hm:mayR r=true) (hi:r.In) (at':Nat) (rest:List Int):ofN (recL r at'++rest) at'=(recL r at').length:=by
 unfold ofN
 rw [ofB_rec hm hi,cand_rec hm hi]
 rfl
theorem cand_pre {r:Rc} {xs:List Int} {at':Nat} (hm:mayR r=true) (hi:r.In) (hp:preB xs (recL r at')=true):cand xs=r:=by
 rw [preB_split hp]
 exact cand_rec hm hi at' _
end Go.Proofs.YtlijbgapkmfnaaaGreat
namespace Go.Proofs.YtlijbgapkmfnaaaGreat
open Go.RowKit Cr
abbrev TR:TypeId:=33
theorem Blk.c8 {w:World} {g:Nat} {t:TypeId} {a b c d e f i j:Value} (h:Blk w g t #[a,b,c,d,e,f,i,j]):w.cell? ⟨g,0,none⟩=some a∧w.cell? ⟨g,1,none⟩=some b∧w.cell? ⟨g,2,none⟩=some c∧w.cell? ⟨g,3,none⟩=some d∧w.cell? ⟨g,4,none⟩=some e∧w.cell? ⟨g,5,none⟩=some f∧w.cell? ⟨g,6,none⟩=some i∧w.cell? ⟨g,7,none⟩=some j:=
 ⟨h.cell 0,h.cell 1,h.cell 2,h.cell 3,h.cell 4,h.cell 5,h.cell 6,h.cell 7⟩
def RetV (v:Value) (w:World) (en:Ending) (w':World):Prop:=en=.returned v∧Gr w w'
def chB (k:Int):Bool:=decide (k=1) || decide (k=2)
theorem changes_any (k:Int) (w:World):Calls Tryz.prog 107 #[.int .i64 k] w fun e w'=>e=.returned (.bool (chB k))∧w=w':=by
 by_cases h1:k=1
 ·
  subst h1
  go_enter Tryz.func107,Tryz.ntmps107
  go_wp2
  go_ret
  exact ⟨rfl,rfl⟩
 ·
  by_cases h2:k=2
  ·
   subst h2
   go_enter Tryz.func107,Tryz.ntmps107
   go_wp2
   go_ret
   exact ⟨rfl,rfl⟩
  ·
   go_enter Tryz.func107,Tryz.ntmps107
   go_wp2
   go_ret
   exact ⟨ret_b (by simp [chB,h1,h2]),rfl⟩
def befR (k:Int) (n:Nat):Int:=if k=1 then n else 0
theorem befores_any (k:Int) (n:Nat) (w:World):Calls Tryz.prog 124 #[.int .i64 k,.int .i64 n] w fun e w'=>e=.returned (.int .i64 (befR k n))∧w=w':=by
 by_cases h1:k=1
 ·
  subst h1
  go_enter Tryz.func124,Tryz.ntmps124
  go_wp2
  go_ret
  exact ⟨rfl,rfl⟩
 ·
  go_enter Tryz.func124,Tryz.ntmps124
  go_wp2
  go_ret
  exact ⟨ret_i (by simp [befR,h1]),rfl⟩
def fitQ (k g o:Int) (nb na:Nat):Bool:=decide (0≤g∧g < 4096∧1≤na∧(nb:Int)=befR k na∧0≤o∧o≤248 - (na:Int))
def SlM1 (k:Int) (t:Nat) (p:Nat) (x:Nat) (g:Int) (o:Int) (pb:Option Addr) (nb:Nat) (cb:Nat) (pa:Option Addr) (na:Nat) (ca:Nat) (d:Nat) (V:Value) (_:Bool) (slot:Nat) (v:Value) (_:World):Prop:=
 match slot with
 | 3=>v=.pointer (some ⟨d,1,none⟩)
 | 4=>v=.int .u64 t
 | 5 | 6=>v=.bool true
 | 7 | 8=>v=.agg #[.int .i64 k,.int .u64 t,.int .u64 p,.int .u64 x,.int .i64 g,.int .i64 o,.slice pb nb cb,.slice pa na ca]
 | 9=>v=V
 | 10 | 11 | 12 | 21 | 2=>v=.bool false
 | 17=>v=undef
 | _=>True
def SlM2 (k:Int) (t:Nat) (p:Nat) (x:Nat) (g:Int) (o:Int) (pb:Option Addr) (nb:Nat) (cb:Nat) (pa:Option Addr) (na:Nat) (ca:Nat) (d:Nat) (V:Value) (_:Bool) (slot:Nat) (v:Value) (_:World):Prop:=
 match slot with
 | 3=>v=.pointer (some ⟨d,1,none⟩)
 | 4=>v=.int .u64 t
 | 5 | 6 | 10 | 11 | 12 | 16 | 17 | 20 | 21 | 2=>v=.bool true
 | 7 | 8=>v=.agg #[.int .i64 k,.int .u64 t,.int .u64 p,.int .u64 x,.int .i64 g,.int .i64 o,.slice pb nb cb,.slice pa na ca]
 | 9=>v=V
 | 13=>v=.pointer (some ⟨d,0,none⟩)
 | 14=>v=.int .i64 k
 | 15=>v=.bool false
 | _=>True
set_option maxRecDepth 100000 in
set_option maxHeartbeats 4000000 in
theorem fitsR_any (k:Int) (t:Nat) (p:Nat) (x:Nat) (g:Int) (o:Int) (pb:Option Addr) (nb:Nat) (cb:Nat) (pa:Option Addr) (na:Nat) (ca:Nat) (w:World) (hn:(na:Int)≤9223372036854775807):Calls Tryz.prog 108 #[.agg #[.int .i64 k,.int .u64 t,.int .u64 p,.int .u64 x,.int .i64 g,.int .i64 o,.slice pb nb cb,.slice pa na ca]] w (RetB (fitQ k g o nb na) w):=by
 have HB:=Lib.hid (Blk.new w TR #[.int .i64 k,.int .u64 t,.int .u64 p,.int .u64 x,.int .i64 g,.int .i64 o,.slice pb nb cb,.slice pa na ca]);obtain ⟨c0,c1,c2,c3,c4,c5,c6,c7⟩:=HB.out.c8;have HF:=Lib.hid (befores_any k na);have HW:Hid (IntKind.i64.wrap (248 - (na:Int))=248 - (na:Int)):=Lib.hid (by rw [IntKind.wrap_i64];omega)
 by_cases h0:0≤g
 ·
  by_cases h1:g < 4096
  ·
   by_cases h2:1≤na
   ·
    have h2':(1:Int)≤na:=by omega
    by_cases h3:(nb:Int)=befR k na
    ·
     have HQ:=Lib.hid h3;clear h3
     by_cases h4:0≤o
     ·
      by_cases h5:o≤248 - (na:Int)
      ·
       have HR:Hid (fitQ k g o nb na=true):=Lib.hid (decide_eq_true ⟨h0,h1,h2,HQ.out,h4,h5⟩)
       go_enter Tryz.func108,Tryz.ntmps108
       go_wp2_with fail;have x0:decide (0≤g)=true:=decide_eq_true (by omega);have x1:decide (g < 4096)=true:=decide_eq_true (by omega);have x2:decide (1≤(na:Int))=true:=decide_eq_true (by omega)
       have x3:((nb:Int) == befR k na)=true:=by simpa using HQ.out
       have x4:decide (0≤o)=true:=decide_eq_true (by omega);have x5:decide (o≤248 - (na:Int))=true:=decide_eq_true (by omega);have hw:=HW.out
       go_quiet (exact Calls.quiet_of ((HF.out _).mono fun _ _ h=>⟨h.1,0,h.2.symm⟩))
       go_wp2_with fail
       go_ret
       exact ⟨ret_b HR.out.symm,gr_drewN ((Gr.refl w).alloc (Nat.le_refl _) _) _⟩
      ·
       have HR:Hid (fitQ k g o nb na=false):=Lib.hid (decide_eq_false (by omega));have d5:decide (o≤248 - (na:Int))=false:=decide_eq_false h5
       go_enter Tryz.func108,Tryz.ntmps108
       go_wp2_with fail;have x0:decide (0≤g)=true:=decide_eq_true (by omega);have x1:decide (g < 4096)=true:=decide_eq_true (by omega);have x2:decide (1≤(na:Int))=true:=decide_eq_true (by omega)
       have x3:((nb:Int) == befR k na)=true:=by simpa using HQ.out
       have x4:decide (0≤o)=true:=decide_eq_true (by omega);have x5:decide (o≤248 - (na:Int))=false:=decide_eq_false (by omega);have hw:=HW.out
       go_quiet (exact Calls.quiet_of ((HF.out _).mono fun _ _ h=>⟨h.1,0,h.2.symm⟩))
       go_wp2_with fail
       go_ret
       exact ⟨ret_b HR.out.symm,gr_drewN ((Gr.refl w).alloc (Nat.le_refl _) _) _⟩
     ·
      have HR:Hid (fitQ k g o nb na=false):=Lib.hid (decide_eq_false (by omega));have d4:decide (0≤o)=false:=decide_eq_false h4
      go_enter Tryz.func108,Tryz.ntmps108
      go_wp2_with fail;have x0:decide (0≤g)=true:=decide_eq_true (by omega);have x1:decide (g < 4096)=true:=decide_eq_true (by omega);have x2:decide (1≤(na:Int))=true:=decide_eq_true (by omega)
      have x3:((nb:Int) == befR k na)=true:=by simpa using HQ.out
      have x4:decide (0≤o)=false:=decide_eq_false (by omega);have hw:=HW.out
      go_quiet (exact Calls.quiet_of ((HF.out _).mono fun _ _ h=>⟨h.1,0,h.2.symm⟩))
      go_wp2_with fail
      go_ret
      exact ⟨ret_b HR.out.symm,gr_drewN ((Gr.refl w).alloc (Nat.le_refl _) _) _⟩
    ·
     have HR:Hid (fitQ k g o nb na=false):=Lib.hid (decide_eq_false (fun h=>h3 h.2.2.2.1));have HQ:Hid (((nb:Int) == befR k na)=false):=Lib.hid (by simpa using h3);clear h3
     go_enter Tryz.func108,Tryz.ntmps108
     go_wp2_with fail;have x0:decide (0≤g)=true:=decide_eq_true (by omega);have x1:decide (g < 4096)=true:=decide_eq_true (by omega);have x2:decide (1≤(na:Int))=true:=decide_eq_true (by omega);have x3:((nb:Int) == befR k na)=false:=HQ.out
     go_quiet (exact Calls.quiet_of ((HF.out _).mono fun _ _ h=>⟨h.1,0,h.2.symm⟩))
     go_wp2_with fail
     go_ret
     exact ⟨ret_b HR.out.symm,gr_drewN ((Gr.refl w).alloc (Nat.le_refl _) _) _⟩
   ·
    obtain rfl:na=0:=by omega
    have HR:Hid (fitQ k g o nb 0=false):=Lib.hid (decide_eq_false (by omega))
    go_enter Tryz.func108,Tryz.ntmps108
    go_wp2_with fail;have x0:decide (0≤g)=true:=decide_eq_true (by omega);have x1:decide (g < 4096)=true:=decide_eq_true (by omega);have x2:decide (1≤((0:Nat):Int))=false:=decide_eq_false (by omega)
    go_quiet (exact Calls.quiet_of ((HF.out _).mono fun _ _ h=>⟨h.1,0,h.2.symm⟩))
    go_wp2_with fail
    go_ret
    exact ⟨ret_b HR.out.symm,gr_drewN ((Gr.refl w).alloc (Nat.le_refl _) _) _⟩
  ·
   have HR:Hid (fitQ k g o nb na=false):=Lib.hid (decide_eq_false (by omega));have d1:decide (g < 4096)=false:=decide_eq_false h1
   go_enter Tryz.func108,Tryz.ntmps108
   go_wp2_with fail;have x0:decide (0≤g)=true:=decide_eq_true (by omega);have x1:decide (g < 4096)=false:=decide_eq_false (by omega)
   go_quiet (exact Calls.quiet_of ((HF.out _).mono fun _ _ h=>⟨h.1,0,h.2.symm⟩))
   go_wp2_with fail
   go_ret
   exact ⟨ret_b HR.out.symm,gr_drewN ((Gr.refl w).alloc (Nat.le_refl _) _) _⟩
 ·
  have HR:Hid (fitQ k g o nb na=false):=Lib.hid (decide_eq_false (by omega));have d0:decide (0≤g)=false:=decide_eq_false h0
  go_enter Tryz.func108,Tryz.ntmps108
  go_wp2_with fail;have x0:decide (0≤g)=false:=decide_eq_false (by omega)
  go_quiet (exact Calls.quiet_of ((HF.out _).mono fun _ _ h=>⟨h.1,0,h.2.symm⟩))
  go_wp2_with fail
  go_ret
  exact ⟨ret_b HR.out.symm,gr_drewN ((Gr.refl w).alloc (Nat.le_refl _) _) _⟩
set_option maxRecDepth 100000 in
set_option maxHeartbeats 4000000 in
theorem may_core (k:Int) (t:Nat) (p:Nat) (x:Nat) (g:Int) (o:Int) (pb:Option Addr) (nb:Nat) (cb:Nat) (pa:Option Addr) (na:Nat) (ca:Nat) (V:Value) (S F:Bool) (w:World) (hN:∀ W,Calls Tryz.prog 106 #[.agg #[.int .i64 k,.int .u64 t,.int .u64 p,.int .u64 x,.int .i64 g,.int .i64 o,.slice pb nb cb,.slice pa na ca]] W (RetV V W))
  (hS:∀ W,Gr w W→Calls Tryz.prog 105 #[.agg #[.int .i64 k,.int .u64 t,.int .u64 p,.int .u64 x,.int .i64 g,.int .i64 o,.slice pb nb cb,.slice pa na ca],V] W (RetB S W)) (hF:∀ W,Calls Tryz.prog 108 #[.agg #[.int .i64 k,.int .u64 t,.int .u64 p,.int .u64 x,.int .i64 g,.int .i64 o,.slice pb nb cb,.slice pa na ca]] W (RetB F W)) :
  Calls Tryz.prog 90 #[.agg #[.int .i64 k,.int .u64 t,.int .u64 p,.int .u64 x,.int .i64 g,.int .i64 o,.slice pb nb cb,.slice pa na ca]] w (RetB (!decide (t=0) && (S && (!chB k || F))) w):=by
 have HB:=Lib.hid (Blk.new w TR #[.int .i64 k,.int .u64 t,.int .u64 p,.int .u64 x,.int .i64 g,.int .i64 o,.slice pb nb cb,.slice pa na ca]);obtain ⟨c0,c1,c2,c3,c4,c5,c6,c7⟩:=HB.out.c8;have HN:=Lib.hid hN;have HF:=Lib.hid hF;have HS:Hid (∀ W,Gr (w.alloc (.cells #[.int .i64 k,.int .u64 t,.int .u64 p,.int .u64 x,.int .i64 g,.int .i64 o,.slice pb nb cb,.slice pa na ca] TR)) W→Calls Tryz.prog 105 #[.agg #[.int .i64 k,.int .u64 t,.int .u64 p,.int .u64 x,.int .i64 g,.int .i64 o,.slice pb nb cb,.slice pa na ca],V] W (RetB S W)):=Lib.hid (fun W g=>hS W (grow1 g));clear hN hF hS
 by_cases ht:t=0
 ·
  have HT:=Lib.hid ht;clear ht
  go_enter Tryz.func90,Tryz.ntmps90
  go_wp2_with fail
  have hq:((t:Int) != 0)=false:=by simp [HT.out]
  go_quiet (fail)
  go_wp2_with fail
  go_ret
  exact ⟨ret_b (by rw [decide_eq_true HT.out];rfl),gr_drewN ((Gr.refl w).alloc (Nat.le_refl _) _) _⟩
 ·
  have HT:Hid (((t:Int) != 0)=true∧decide (t=0)=false):=Lib.hid ⟨by simp;omega,decide_eq_false ht⟩;clear ht
  cases S
  ·
   go_enter Tryz.func90,Tryz.ntmps90
   go_wp2_with fail;refine Flow.region (SlM1 k t p x g o pb nb cb pa na ca w.heap.size V F) (Gr (w.alloc (.cells #[.int .i64 k,.int .u64 t,.int .u64 p,.int .u64 x,.int .i64 g,.int .i64 o,.slice pb nb cb,.slice pa na ca] TR))) (fun _ _=>True) (by kernel_rfl) (by kernel_rfl) (fun _ _ _ _ h _=>h) ⟨rfl,rfl,rfl,Nat.le_refl _,fun _ _=>rfl⟩ ?steps ?fin
   case steps=>
    refine .cons (fun a W hfr hinv hdep K hK=>?_) ?_
    · have t1:=tAt (.pointer (some ⟨w.heap.size,0,none⟩)) (hfr.at 1 (by kernel_rfl));refine fW0 rfl ?_;clear hfr hdep;go_simp;exact hK _ _ True.intro hinv (dsT (by trivial))
    refine .cons (fun a W hfr hinv hdep K hK=>?_) ?_
    · have t3:=tAt (.pointer (some ⟨w.heap.size,1,none⟩)) (hdep 3 (by kernel_rfl));obtain ⟨c0,c1,c2,c3,c4,c5,c6,c7⟩:=(HB.out.below hinv HB.out.lt).c8;refine fW0 rfl ?_;clear hfr hdep;go_simp;exact hK _ _ True.intro hinv (dsT (by trivial))
    refine .cons (fun a W hfr hinv hdep K hK=>?_) ?_
    · have t4:=tAt (.int .u64 t) (hdep 4 (by kernel_rfl));obtain ⟨hq,hq2⟩:=HT.out;refine fW0 rfl ?_;clear hfr hdep;go_simp;exact hK _ _ True.intro hinv (dsT (by trivial))
    refine .cons (fun a W hfr hinv hdep K hK=>?_) ?_
    · have t5:=tAt (.bool true) (hdep 5 (by kernel_rfl));refine fW0 rfl ?_;clear hfr hdep;go_simp;exact hK _ _ True.intro hinv (dsT (by trivial))
    refine .cons (fun a W hfr hinv hdep K hK=>?_) ?_
    · have sg:a.tmps.getD 6 undef=.bool true:=hdep 6 (by kernel_rfl);have t1:=tAt (.pointer (some ⟨w.heap.size,0,none⟩)) (hfr.at 1 (by kernel_rfl));obtain ⟨c0,c1,c2,c3,c4,c5,c6,c7⟩:=(HB.out.below hinv HB.out.lt).c8;rw [if_pos (Flow.wanted_yes 3 true 6 rfl (by kernel_rfl) sg)];clear hfr hdep;go_simp;exact hK _ _ True.intro hinv (dsT (by trivial))
    refine .cons (fun a W hfr hinv hdep K hK=>?_) ?_
    · have sg:a.tmps.getD 6 undef=.bool true:=hdep 6 (by kernel_rfl);have t1:=tAt (.pointer (some ⟨w.heap.size,0,none⟩)) (hfr.at 1 (by kernel_rfl));obtain ⟨c0,c1,c2,c3,c4,c5,c6,c7⟩:=(HB.out.below hinv HB.out.lt).c8;rw [if_pos (Flow.wanted_yes 3 true 6 rfl (by kernel_rfl) sg)];clear hfr hdep;go_simp;exact hK _ _ True.intro hinv (dsT (by trivial))
    refine .cons (fun a W hfr hinv hdep K hK=>?_) ?_
    · have sg:a.tmps.getD 6 undef=.bool true:=hdep 6 (by kernel_rfl);have t8:=tAt (.agg #[.int .i64 k,.int .u64 t,.int .u64 p,.int .u64 x,.int .i64 g,.int .i64 o,.slice pb nb cb,.slice pa na ca]) (hdep 8 (by kernel_rfl));rw [if_pos (Flow.wanted_yes 3 true 6 rfl (by kernel_rfl) sg)];clear hfr hdep;go_simp;refine (HN.out W).mono ?_;rintro e W' ⟨rfl,g1⟩;exact hK _ _ True.intro (Gr.trans hinv g1) (dsT (by trivial))
    refine .cons (fun a W hfr hinv hdep K hK=>?_) ?_
    · have sg:a.tmps.getD 6 undef=.bool true:=hdep 6 (by kernel_rfl);have t7:=tAt (.agg #[.int .i64 k,.int .u64 t,.int .u64 p,.int .u64 x,.int .i64 g,.int .i64 o,.slice pb nb cb,.slice pa na ca]) (hdep 7 (by kernel_rfl));have t9:=tAt (V) (hdep 9 (by kernel_rfl));rw [if_pos (Flow.wanted_yes 3 true 6 rfl (by kernel_rfl) sg)];clear hfr hdep;go_simp;refine (HS.out W hinv).mono ?_;rintro e W' ⟨rfl,g1⟩;exact hK _ _ True.intro (Gr.trans hinv g1) (dsT (by trivial))
    refine .cons (fun a W hfr hinv hdep K hK=>?_) ?_
    · have t6:=tAt (.bool true) (hdep 6 (by kernel_rfl));have t10:=tAt (.bool false) (hdep 10 (by kernel_rfl));refine fW0 rfl ?_;clear hfr hdep;go_simp;exact hK _ _ True.intro hinv (dsT (by trivial))
    refine .cons (fun a W hfr hinv hdep K hK=>?_) ?_
    · have t11:=tAt (.bool false) (hdep 11 (by kernel_rfl));refine fW0 rfl ?_;clear hfr hdep;go_simp;exact hK _ _ True.intro hinv (dsT (by trivial))
    refine .cons (fun a W hfr hinv hdep K hK=>?_) ?_
    · have sg:a.tmps.getD 12 undef=.bool !true:=hdep 12 (by kernel_rfl);have t1:=tAt (.pointer (some ⟨w.heap.size,0,none⟩)) (hfr.at 1 (by kernel_rfl));rw [if_neg (Flow.wanted_no 9 true 12 rfl (by kernel_rfl) sg)];clear hfr hdep;exact hK _ _ True.intro hinv (dsT (by trivial))
    refine .cons (fun a W hfr hinv hdep K hK=>?_) ?_
    · have sg:a.tmps.getD 12 undef=.bool !true:=hdep 12 (by kernel_rfl);obtain ⟨c0,c1,c2,c3,c4,c5,c6,c7⟩:=(HB.out.below hinv HB.out.lt).c8;rw [if_neg (Flow.wanted_no 9 true 12 rfl (by kernel_rfl) sg)];clear hfr hdep;exact hK _ _ True.intro hinv (dsT (by trivial))
    refine .cons (fun a W hfr hinv hdep K hK=>?_) ?_
    · have sg:a.tmps.getD 12 undef=.bool !true:=hdep 12 (by kernel_rfl);rw [if_neg (Flow.wanted_no 9 true 12 rfl (by kernel_rfl) sg)];clear hfr hdep;exact hK _ _ True.intro hinv (dsT (by trivial))
    refine .cons (fun a W hfr hinv hdep K hK=>?_) ?_
    · have sg:a.tmps.getD 12 undef=.bool !true:=hdep 12 (by kernel_rfl);rw [if_neg (Flow.wanted_no 9 true 12 rfl (by kernel_rfl) sg)];clear hfr hdep;exact hK _ _ True.intro hinv (dsT (by trivial))
    refine .cons (fun a W hfr hinv hdep K hK=>?_) ?_
    · have sg:a.tmps.getD 12 undef=.bool !true:=hdep 12 (by kernel_rfl);rw [if_neg (Flow.wanted_no 9 true 12 rfl (by kernel_rfl) sg)];clear hfr hdep;exact hK _ _ True.intro hinv (dsT (by trivial))
    refine .cons (fun a W hfr hinv hdep K hK=>?_) ?_
    · have sg:a.tmps.getD 17 undef=undef:=hdep 17 (by kernel_rfl);have t1:=tAt (.pointer (some ⟨w.heap.size,0,none⟩)) (hfr.at 1 (by kernel_rfl));obtain ⟨c0,c1,c2,c3,c4,c5,c6,c7⟩:=(HB.out.below hinv HB.out.lt).c8;rw [if_neg (Flow.wanted_undef 14 false 17 rfl (by kernel_rfl) sg)];clear hfr hdep;exact hK _ _ True.intro hinv (dsT (by trivial))
    refine .cons (fun a W hfr hinv hdep K hK=>?_) ?_
    · have sg:a.tmps.getD 17 undef=undef:=hdep 17 (by kernel_rfl);rw [if_neg (Flow.wanted_undef 14 false 17 rfl (by kernel_rfl) sg)];clear hfr hdep;exact hK _ _ True.intro hinv (dsT (by trivial))
    refine .cons (fun a W hfr hinv hdep K hK=>?_) ?_
    · have sg:a.tmps.getD 12 undef=.bool !true:=hdep 12 (by kernel_rfl);have t17:=tAt (undef) (hdep 17 (by kernel_rfl));rw [if_neg (Flow.wanted_no 9 true 12 rfl (by kernel_rfl) sg)];clear hfr hdep;exact hK _ _ True.intro hinv (dsT (by trivial))
    refine .cons (fun a W hfr hinv hdep K hK=>?_) ?_
    · have t12:=tAt (.bool false) (hdep 12 (by kernel_rfl));refine fW0 rfl ?_;clear hfr hdep;go_simp;exact hK _ _ True.intro hinv (dsT (by trivial))
    refine .cons (fun a W hfr hinv hdep K hK=>?_) ?_
    · have t21:=tAt (.bool false) (hdep 21 (by kernel_rfl));refine fW0 rfl ?_;clear hfr hdep;go_simp;exact hK _ _ True.intro hinv (dsT (by trivial))
    exact True.intro
   case fin=>
    intro a W hfr hfin hsl
    have s2:a.tmps.getD 2 undef=.bool false:=hsl 19 _ 2 rfl rfl;have t2:=tmpAt s2;have e:=Flow.frame hfr [3,4,5,6,7,8,9,10,11,12,13,14,15,16,17,18,19,20,21,2] (List.range 22) (by kernel_rfl) (by kernel_rfl)
    simp [List.range,List.range.loop] at e
    rw [t2] at e
    rw [e];clear e hfr hsl s2 t2
    rename_i K2 hK2
    refine hK2 _ _ ?_;go_wp2_with fail
    go_ret
    exact ⟨ret_b (by rw [HT.out.2];rfl),grow1 hfin⟩
  ·
   cases hc:chB k
   ·
    have HC:=Lib.hid hc;clear hc
    go_enter Tryz.func90,Tryz.ntmps90
    go_wp2_with fail;refine Flow.region (SlM2 k t p x g o pb nb cb pa na ca w.heap.size V F) (Gr (w.alloc (.cells #[.int .i64 k,.int .u64 t,.int .u64 p,.int .u64 x,.int .i64 g,.int .i64 o,.slice pb nb cb,.slice pa na ca] TR))) (fun _ _=>True) (by kernel_rfl) (by kernel_rfl) (fun _ _ _ _ h _=>h) ⟨rfl,rfl,rfl,Nat.le_refl _,fun _ _=>rfl⟩ ?steps ?fin
    case steps=>
     refine .cons (fun a W hfr hinv hdep K hK=>?_) ?_
     · have t1:=tAt (.pointer (some ⟨w.heap.size,0,none⟩)) (hfr.at 1 (by kernel_rfl));refine fW0 rfl ?_;clear hfr hdep;go_simp;exact hK _ _ True.intro hinv (dsT (by trivial))
     refine .cons (fun a W hfr hinv hdep K hK=>?_) ?_
     · have t3:=tAt (.pointer (some ⟨w.heap.size,1,none⟩)) (hdep 3 (by kernel_rfl));obtain ⟨c0,c1,c2,c3,c4,c5,c6,c7⟩:=(HB.out.below hinv HB.out.lt).c8;refine fW0 rfl ?_;clear hfr hdep;go_simp;exact hK _ _ True.intro hinv (dsT (by trivial))
     refine .cons (fun a W hfr hinv hdep K hK=>?_) ?_
     · have t4:=tAt (.int .u64 t) (hdep 4 (by kernel_rfl));obtain ⟨hq,hq2⟩:=HT.out;refine fW0 rfl ?_;clear hfr hdep;go_simp;exact hK _ _ True.intro hinv (dsT (by trivial))
     refine .cons (fun a W hfr hinv hdep K hK=>?_) ?_
     · have t5:=tAt (.bool true) (hdep 5 (by kernel_rfl));refine fW0 rfl ?_;clear hfr hdep;go_simp;exact hK _ _ True.intro hinv (dsT (by trivial))
     refine .cons (fun a W hfr hinv hdep K hK=>?_) ?_
     · have sg:a.tmps.getD 6 undef=.bool true:=hdep 6 (by kernel_rfl);have t1:=tAt (.pointer (some ⟨w.heap.size,0,none⟩)) (hfr.at 1 (by kernel_rfl));obtain ⟨c0,c1,c2,c3,c4,c5,c6,c7⟩:=(HB.out.below hinv HB.out.lt).c8;rw [if_pos (Flow.wanted_yes 3 true 6 rfl (by kernel_rfl) sg)];clear hfr hdep;go_simp;exact hK _ _ True.intro hinv (dsT (by trivial))
     refine .cons (fun a W hfr hinv hdep K hK=>?_) ?_
     · have sg:a.tmps.getD 6 undef=.bool true:=hdep 6 (by kernel_rfl);have t1:=tAt (.pointer (some ⟨w.heap.size,0,none⟩)) (hfr.at 1 (by kernel_rfl));obtain ⟨c0,c1,c2,c3,c4,c5,c6,c7⟩:=(HB.out.below hinv HB.out.lt).c8;rw [if_pos (Flow.wanted_yes 3 true 6 rfl (by kernel_rfl) sg)];clear hfr hdep;go_simp;exact hK _ _ True.intro hinv (dsT (by trivial))
     refine .cons (fun a W hfr hinv hdep K hK=>?_) ?_
     · have sg:a.tmps.getD 6 undef=.bool true:=hdep 6 (by kernel_rfl);have t8:=tAt (.agg #[.int .i64 k,.int .u64 t,.int .u64 p,.int .u64 x,.int .i64 g,.int .i64 o,.slice pb nb cb,.slice pa na ca]) (hdep 8 (by kernel_rfl));rw [if_pos (Flow.wanted_yes 3 true 6 rfl (by kernel_rfl) sg)];clear hfr hdep;go_simp;refine (HN.out W).mono ?_;rintro e W' ⟨rfl,g1⟩;exact hK _ _ True.intro (Gr.trans hinv g1) (dsT (by trivial))
     refine .cons (fun a W hfr hinv hdep K hK=>?_) ?_
     · have sg:a.tmps.getD 6 undef=.bool true:=hdep 6 (by kernel_rfl);have t7:=tAt (.agg #[.int .i64 k,.int .u64 t,.int .u64 p,.int .u64 x,.int .i64 g,.int .i64 o,.slice pb nb cb,.slice pa na ca]) (hdep 7 (by kernel_rfl));have t9:=tAt (V) (hdep 9 (by kernel_rfl));rw [if_pos (Flow.wanted_yes 3 true 6 rfl (by kernel_rfl) sg)];clear hfr hdep;go_simp;refine (HS.out W hinv).mono ?_;rintro e W' ⟨rfl,g1⟩;exact hK _ _ True.intro (Gr.trans hinv g1) (dsT (by trivial))
     refine .cons (fun a W hfr hinv hdep K hK=>?_) ?_
     · have t6:=tAt (.bool true) (hdep 6 (by kernel_rfl));have t10:=tAt (.bool true) (hdep 10 (by kernel_rfl));refine fW0 rfl ?_;clear hfr hdep;go_simp;exact hK _ _ True.intro hinv (dsT (by trivial))
     refine .cons (fun a W hfr hinv hdep K hK=>?_) ?_
     · have t11:=tAt (.bool true) (hdep 11 (by kernel_rfl));refine fW0 rfl ?_;clear hfr hdep;go_simp;exact hK _ _ True.intro hinv (dsT (by trivial))
     refine .cons (fun a W hfr hinv hdep K hK=>?_) ?_
     · have sg:a.tmps.getD 12 undef=.bool true:=hdep 12 (by kernel_rfl);have t1:=tAt (.pointer (some ⟨w.heap.size,0,none⟩)) (hfr.at 1 (by kernel_rfl));rw [if_pos (Flow.wanted_yes 9 true 12 rfl (by kernel_rfl) sg)];clear hfr hdep;go_simp;exact hK _ _ True.intro hinv (dsT (by trivial))
     refine .cons (fun a W hfr hinv hdep K hK=>?_) ?_
     · have sg:a.tmps.getD 12 undef=.bool true:=hdep 12 (by kernel_rfl);have t13:=tAt (.pointer (some ⟨w.heap.size,0,none⟩)) (hdep 13 (by kernel_rfl));obtain ⟨c0,c1,c2,c3,c4,c5,c6,c7⟩:=(HB.out.below hinv HB.out.lt).c8;rw [if_pos (Flow.wanted_yes 9 true 12 rfl (by kernel_rfl) sg)];clear hfr hdep;go_simp;exact hK _ _ True.intro hinv (dsT (by trivial))
     refine .cons (fun a W hfr hinv hdep K hK=>?_) ?_
     · have sg:a.tmps.getD 12 undef=.bool true:=hdep 12 (by kernel_rfl);have t14:=tAt (.int .i64 k) (hdep 14 (by kernel_rfl));rw [if_pos (Flow.wanted_yes 9 true 12 rfl (by kernel_rfl) sg)];clear hfr hdep;go_simp;refine (changes_any _ W).mono ?_;rintro e W' ⟨rfl,rfl⟩;rw [HC.out];exact hK _ _ True.intro hinv (dsT (by trivial))
     refine .cons (fun a W hfr hinv hdep K hK=>?_) ?_
     · have sg:a.tmps.getD 12 undef=.bool true:=hdep 12 (by kernel_rfl);have t15:=tAt (.bool false) (hdep 15 (by kernel_rfl));rw [if_pos (Flow.wanted_yes 9 true 12 rfl (by kernel_rfl) sg)];clear hfr hdep;go_simp;exact hK _ _ True.intro hinv (dsT (by trivial))
     refine .cons (fun a W hfr hinv hdep K hK=>?_) ?_
     · have sg:a.tmps.getD 12 undef=.bool true:=hdep 12 (by kernel_rfl);have t16:=tAt (.bool true) (hdep 16 (by kernel_rfl));rw [if_pos (Flow.wanted_yes 9 true 12 rfl (by kernel_rfl) sg)];clear hfr hdep;go_simp;exact hK _ _ True.intro hinv (dsT (by trivial))
     refine .cons (fun a W hfr hinv hdep K hK=>?_) ?_
     · have sg:a.tmps.getD 17 undef=.bool !false:=hdep 17 (by kernel_rfl);have t1:=tAt (.pointer (some ⟨w.heap.size,0,none⟩)) (hfr.at 1 (by kernel_rfl));obtain ⟨c0,c1,c2,c3,c4,c5,c6,c7⟩:=(HB.out.below hinv HB.out.lt).c8;rw [if_neg (Flow.wanted_no 14 false 17 rfl (by kernel_rfl) sg)];clear hfr hdep;exact hK _ _ True.intro hinv (dsT (by trivial))
     refine .cons (fun a W hfr hinv hdep K hK=>?_) ?_
     · have sg:a.tmps.getD 17 undef=.bool !false:=hdep 17 (by kernel_rfl);rw [if_neg (Flow.wanted_no 14 false 17 rfl (by kernel_rfl) sg)];clear hfr hdep;exact hK _ _ True.intro hinv (dsT (by trivial))
     refine .cons (fun a W hfr hinv hdep K hK=>?_) ?_
     · have sg:a.tmps.getD 12 undef=.bool true:=hdep 12 (by kernel_rfl);have t17:=tAt (.bool true) (hdep 17 (by kernel_rfl));rw [if_pos (Flow.wanted_yes 9 true 12 rfl (by kernel_rfl) sg)];clear hfr hdep;go_simp;exact hK _ _ True.intro hinv (dsT (by trivial))
     refine .cons (fun a W hfr hinv hdep K hK=>?_) ?_
     · have t12:=tAt (.bool true) (hdep 12 (by kernel_rfl));have t20:=tAt (.bool true) (hdep 20 (by kernel_rfl));refine fW0 rfl ?_;clear hfr hdep;go_simp;exact hK _ _ True.intro hinv (dsT (by trivial))
     refine .cons (fun a W hfr hinv hdep K hK=>?_) ?_
     · have t21:=tAt (.bool true) (hdep 21 (by kernel_rfl));refine fW0 rfl ?_;clear hfr hdep;go_simp;exact hK _ _ True.intro hinv (dsT (by trivial))
     exact True.intro
    case fin=>
     intro a W hfr hfin hsl
     have s2:a.tmps.getD 2 undef=.bool true:=hsl 19 _ 2 rfl rfl;have t2:=tmpAt s2;have e:=Flow.frame hfr [3,4,5,6,7,8,9,10,11,12,13,14,15,16,17,18,19,20,21,2] (List.range 22) (by kernel_rfl) (by kernel_rfl)
     simp [List.range,List.range.loop] at e
     rw [t2] at e
     rw [e];clear e hfr hsl s2 t2
     rename_i K2 hK2
     refine hK2 _ _ ?_;go_wp2_with fail
     go_ret
     exact ⟨ret_b (by rw [HT.out.2];rfl),grow1 hfin⟩
   ·
    have HC:=Lib.hid hc;clear hc
    go_enter Tryz.func90,Tryz.ntmps90
    go_wp2_with fail;obtain ⟨hq,hq2⟩:=HT.out;have y:=HB.out.c8
    go_region_held3 (fun V1=>V1.cell? ⟨w.heap.size,0,none⟩=some (.int .i64 k)∧V1.cell? ⟨w.heap.size,1,none⟩=some (.int .u64 t)∧V1.cell? ⟨w.heap.size,2,none⟩=some (.int .u64 p)∧V1.cell? ⟨w.heap.size,3,none⟩=some (.int .u64 x)∧V1.cell? ⟨w.heap.size,4,none⟩=some (.int .i64 g)∧V1.cell? ⟨w.heap.size,5,none⟩=some (.int .i64 o)∧V1.cell? ⟨w.heap.size,6,none⟩=some (.slice pb nb cb)∧V1.cell? ⟨w.heap.size,7,none⟩=some (.slice pa na ca)) (first | exact y | exact y1 | exact y2 | exact y4) (first | (go_at_call 106;refine (HN.out _).mono ?_;rintro e W1 ⟨rfl,g1⟩;have h1:=Gr.trans ((Gr.refl (w.alloc (.cells #[.int .i64 k,.int .u64 t,.int .u64 p,.int .u64 x,.int .i64 g,.int .i64 o,.slice pb nb cb,.slice pa na ca] TR))).drew) g1;have H1:=Lib.hid h1;have y1:=(HB.out.below h1 HB.out.lt).c8) | (go_at_call 105;refine (HS.out W1 H1.out).mono ?_;rintro e W2 ⟨rfl,g2⟩;have h2:=Gr.trans H1.out g2;have H2:=Lib.hid h2;have y2:=(HB.out.below h2 HB.out.lt).c8) | (go_at_call 107;refine (changes_any _ W2).mono ?_;rintro e W3 ⟨rfl,rfl⟩;rw [HC.out]) | (go_at_call 108;refine (HF.out _).mono ?_;rintro e W4 ⟨rfl,g4⟩;have h4:=Gr.trans H2.out g4;have H4:=Lib.hid h4;have y4:=(HB.out.below h4 HB.out.lt).c8))
    go_wp2_with fail
    go_ret
    exact ⟨ret_b (by rw [HT.out.2];rfl),grow1 H4.out⟩
end Go.Proofs.YtlijbgapkmfnaaaGreat
namespace Go.Proofs.YtlijbgapkmfnaaaGreat
open Go.RowKit
set_option maxHeartbeats 400000 in
theorem refJoin_any (p:Option Addr) (n c:Nat) (xss:List (List Int)) (w:World) (h:Rows w p n c xss) (hbig:tot xss≤140737488355328):Calls Tryz.prog 65 #[.slice p n c] w (RetByte xss.flatten w):=by
 have HLen:=Lib.hid h.len
 have hn63:n≤9223372036854775807:=by have:=h.cap;have:=h.most;unfold maxLen at this;omega
 have HH:=Lib.hid h;have Hbig:=Lib.hid hbig;clear h hbig
 go_enter Tryz.func65,Tryz.ntmps65
 go_wp2
 have HO:Hid (OwnB (w.alloc (.cells #[] 5)) w.heap.size 5 (.slice (some ⟨w.heap.size,0,none⟩) 0 0) []):=⟨World.ownsRow_made (w:=w) #[] 0 (Nat.le_refl _) (Nat.zero_le _) rfl,fun _ h=>by cases h⟩;have HB:Hid (Below w.heap.size w (w.alloc (.cells #[] 5))):=(Below.refl _ _).alloc (Nat.le_refl _) _
 go_loopw [3,4] (fun v i wr=>∃ j:Nat,j≤n∧i=.int .i64 j∧Hid (OwnB wr w.heap.size 5 v (xss.take j).flatten)∧Hid (Below w.heap.size w wr)) (fun _ i _=>n - (intOf i).toNat)
 case atStart=>exact ⟨0,Nat.zero_le _,rfl,HO,HB⟩
 case round=>
  obtain ⟨j,hj,rfl,ho,hb⟩:=hrel;have hbs:=hb.out.size
  by_cases hlt:j < n
  ·
   obtain ⟨b,o,rfl,hc⟩:=(HH.out.kept hb.out).lies (by omega);obtain ⟨q,m,d,hcell,hby⟩:=hc j hlt;have hfs:=Lib.hid (flat_succ xss j (by rw [HLen.out];exact hlt))
   have hsz:Hid ((xss.take j).flatten.length+m≤140737488355328):=by
    have h1:=tot_le xss (j+1)
    rw [tot_succ xss j m (by rw [HLen.out];exact hlt) hby.len] at h1
    exact Nat.le_trans h1 Hbig.out
   have HBY:=Lib.hid hby
   clear hby hc
   go_wp2_with (at_builtin;refine wpList_app_byt bt rfl (.tmp 12) (.tmp 16) rfl w.heap.size _ _ rfl ho.out q m d _ rfl HBY.out hsz.out hbs ?_)
   intro v' w' own grow
   have HO2:=Lib.hid (own.as hfs.out.symm);have HB2:Hid (Below w.heap.size w w'):=Below.app hb.out hbs ho.out grow;clear own grow
   go_wp2
   go_roundw
   case rel=>exact ⟨j+1,by omega,by go_num,HO2,HB2⟩
   case measure=>simp [intOf];omega
  ·
   obtain rfl:j=n:=by omega
   have hall:xss.take j=xss:=List.take_of_length_le (by rw [HLen.out];exact Nat.le_refl _);have ho2:=ho.out
   rw [hall] at ho2
   obtain ⟨q,d,hv⟩:=ho2.shape (tot xss) rfl;subst hv;have HO2:=Lib.hid ho2;clear ho2 hall
   go_wp2
   go_ret
   exact RetByte.of_own HO2.out hb.out
end Go.Proofs.YtlijbgapkmfnaaaGreat
namespace Go.Proofs.YtlijbgapkmfnaaaGreat
open Go.RowKit Cr
set_option maxRecDepth 100000 in
theorem turned_any (s:W) (w:World):Calls Tryz.prog 84 #[.int .u32 (U s)] w fun e w'=>e=.returned (.int .u32 (U s.reverse))∧w=w':=by
 have h0:U s=((s.toNat / 2 ^ 0:Nat):Int):=by simp [U]
 have HR:=Lib.hid (trn_rev s);have HL:=Lib.hid s.isLt;rw [h0];clear h0;obtain ⟨x,hx⟩:∃ x,x=s.toNat:=⟨_,rfl⟩
 rw [← hx] at HR HL ⊢
 clear hx
 go_enter Tryz.func84,Tryz.ntmps84
 go_wp2
 go_loop [0,3,4] (fun v o i=>∃ k:Nat,k≤32∧i=.int .i64 k∧v=.int .u32 ((x / 2 ^ k:Nat):Int)∧o=.int .u32 ((trn x k:Nat):Int)) (fun _ _ i=>32 - (intOf i).toNat)
 case atStart=>exact ⟨0,Nat.zero_le _,rfl,by simp,rfl⟩
 case round=>
  obtain ⟨k,hk,rfl,rfl,rfl⟩:=hrel
  by_cases hlt:k < 32
  ·
   have hT:=trn_lt x k;have hp:2 ^ k≤2 ^ 31:=Nat.pow_le_pow_right (by omega) (by omega);have HD:Hid (x / 2 ^ k / 2=x / 2 ^ (k+1)):=Lib.hid (by rw [Nat.pow_succ,Nat.div_div_eq_div_mul]);have HT:Hid (trn x (k+1)=2*trn x k+x / 2 ^ k % 2):=Lib.hid rfl;have hm:x / 2 ^ k≤4294967295:=Nat.le_trans (Nat.div_le_self _ _) (by have:=HL.out;omega)
   have ho:trn x k≤2147483647:=by omega
   clear hT hp;obtain ⟨m,hmm⟩:∃ m,m=x / 2 ^ k:=⟨_,rfl⟩;obtain ⟨o,hoo⟩:∃ o,o=trn x k:=⟨_,rfl⟩
   rw [← hmm] at HD HT hm ⊢
   rw [← hoo] at HT ho ⊢
   clear hmm hoo
   go_wp2
   go_round
   case rel=>exact ⟨k+1,by omega,by go_num,by rw [← HD.out];go_num,by rw [HT.out];go_num⟩
   case measure=>simp [intOf];omega
  ·
   obtain rfl:k=32:=by omega
   go_wp2
   go_ret
   exact ⟨ret_i HR.out,rfl⟩
theorem U_top (l:W) (c:Nat) (hc:c < 2):(Int.ediv (U l) 2147483648+(c:Int) == 1)=((l.getLsbD 31).xor (decide (c % 2=1))):=by
 have h:(l >>> 31)=if l.getLsbD 31 then 1#32 else 0#32:=by
  apply BitVec.eq_of_getLsbD_eq
  intro i hi
  cases i with
  | zero=>cases h:l.getLsbD 31 <;> simp only [BitVec.getLsbD_ushiftRight,Nat.add_zero,h,if_true,Bool.false_eq_true,if_false] <;> rfl
  | succ j=>cases h:l.getLsbD 31 <;> simp [BitVec.getLsbD_of_ge l (31+(j+1)) (by omega)]
 have e:Int.ediv (U l) 2147483648=U (l >>> 31):=U_shr l 31;rw [e,h]
 have:c=0∨c=1:=by omega
 rcases this with rfl | rfl <;> cases l.getLsbD 31 <;> rfl
theorem U_topw (l:W) (X k:Nat):((U l / 2147483648+(X:Int) / 2 ^ k % 2) % 4294967296 == 1)=((l.getLsbD 31).xor (decide (X / 2 ^ k % 2 % 2=1))):=by
 rw [← U_top l (X / 2 ^ k % 2) (Nat.mod_lt _ (by omega))]
 have e1:(X:Int) / 2 ^ k % 2=((X / 2 ^ k % 2:Nat):Int):=by
  rw [Int.natCast_emod,Int.natCast_ediv,Int.natCast_pow];rfl
 have h1:=U_lo l;have h2:=U_hi l;rw [e1]
 show ((U l / 2147483648+((X / 2 ^ k % 2:Nat):Int)) % 4294967296 == 1)=(U l / 2147483648+((X / 2 ^ k % 2:Nat):Int) == 1)
 have h3:(U l / 2147483648+((X / 2 ^ k % 2:Nat):Int)) % 4294967296=U l / 2147483648+((X / 2 ^ k % 2:Nat):Int):=by omega
 rw [h3]
theorem U_dbl (l:W):U l*(2:Int) % (4294967296:Int)=U (l <<< 1):=by
 unfold U
 rw [BitVec.toNat_shiftLeft,Nat.shiftLeft_eq]
 omega
theorem out_yes (l:W) (c:Nat) (h:((l.getLsbD 31).xor (decide (c % 2=1)))=true):bits BinOp.xor IntKind.u32 (U l*2 % 4294967296) 517762881=U (out1 l c):=by
 rw [U_dbl,show (517762881:Int)=U divi from rfl,U_xor]
 unfold out1
 rw [h]
 rfl
theorem out_no (l:W) (c:Nat) (h:((l.getLsbD 31).xor (decide (c % 2=1)))=false):U l*2 % 4294967296=U (out1 l c):=by
 rw [U_dbl]
 unfold out1
 rw [h]
 simp
set_option maxRecDepth 100000 in
set_option maxHeartbeats 400000 in
theorem rest_any (l:W) (p:Option Addr) (n c:Nat) (xs:List Int) (w:World) (h:Byt w p n c xs):Calls Tryz.prog 85 #[.int .u32 (U l),.slice p n c] w fun e w'=>e=.returned (.int .u32 (U (rest l xs)))∧w=w':=by
 have HLen:=Lib.hid h.len
 have hn63:n≤9223372036854775807:=by have:=h.cap;have:=h.most;unfold maxLen at this;omega
 have HH:=Lib.hid h;clear h
 go_enter Tryz.func85,Tryz.ntmps85
 go_wp2
 go_loop [0,5] (fun v i=>∃ j:Nat,j≤n∧i=.int .i64 j∧v=.int .u32 (U (rest l (xs.take j)))) (fun _ i=>n - (intOf i).toNat)
 case atStart=>exact ⟨0,Nat.zero_le _,rfl,rfl⟩
 case round=>
  obtain ⟨j,hj,rfl,rfl⟩:=hrel
  by_cases hjl:j < n
  ·
   obtain ⟨b2,o2,rfl,hc2⟩:=HH.out.at (by omega)
   have hbyte:=hc2 j hjl;obtain ⟨x0,x1⟩:=HH.out.small.getD j;have HP:=Lib.hid (rest_take l xs j (by rw [HLen.out];exact hjl));clear hc2;obtain ⟨x,hx⟩:∃ x,x=xs.getD j 0:=⟨_,rfl⟩
   rw [← hx] at HP hbyte x0 x1
   clear hx;obtain ⟨X,rfl⟩:=Int.eq_ofNat_of_zero_le x0
   rw [Int.toNat_natCast] at HP
   obtain ⟨T,hT⟩:∃ T,T=rest l (xs.take j):=⟨_,rfl⟩
   rw [← hT] at HP ⊢
   clear hT x0
   go_wp2
   go_loop [0,6] (fun v i=>∃ k:Nat,k≤8∧i=.int .i64 k∧v=.int .u32 (U (outs T X k))) (fun _ i=>8 - (intOf i).toNat)
   case atStart=>exact ⟨0,Nat.zero_le _,rfl,rfl⟩
   case round=>
    obtain ⟨k,hk,rfl,rfl⟩:=hrel
    by_cases hkl:k < 8
    ·
     have HS:Hid (outs T X (k+1)=out1 (outs T X k) (X / 2 ^ k % 2)):=Lib.hid rfl;obtain ⟨R,hR⟩:∃ R,R=outs T X k:=⟨_,rfl⟩
     rw [← hR] at HS ⊢
     clear hR;have hT:=U_topw R X k
     by_cases hb:((R.getLsbD 31).xor (decide (X / 2 ^ k % 2 % 2=1)))=true
     ·
      have HV:=Lib.hid (out_yes R _ hb)
      rw [hb] at hT
      have HB:=Lib.hid hb;clear hb
      go_wp2
      go_round
      case rel=>exact ⟨k+1,by omega,by go_num,ret_v (by rw [HV.out,HS.out])⟩
      case measure=>simp [intOf];omega
     ·
      have hb:((R.getLsbD 31).xor (decide (X / 2 ^ k % 2 % 2=1)))=false:=by simpa using hb
      have HV:=Lib.hid (out_no R _ hb)
      rw [hb] at hT
      have HB:=Lib.hid hb;clear hb
      go_wp2
      go_round
      case rel=>exact ⟨k+1,by omega,by go_num,ret_v (by rw [HV.out,HS.out])⟩
      case measure=>simp [intOf];omega
    ·
     obtain rfl:k=8:=by omega
     go_wp2
     go_round
     case rel=>exact ⟨j+1,by omega,by go_num,ret_v (by rw [HP.out])⟩
     case measure=>simp [intOf];omega
  ·
   obtain rfl:j=n:=by omega
   have HE:Hid (rest l (xs.take j)=rest l xs):=Lib.hid (by rw [List.take_of_length_le (by rw [HLen.out];exact Nat.le_refl _)])
   go_wp2
   go_ret
   exact ⟨ret_i (by rw [HE.out]),rfl⟩
theorem sum_said (xs:List Int) (h:Wd.Small xs):4294967295 - U (rest ones xs).reverse=U (sumW xs):=by
 have e:ones.reverse=ones:=by
  apply BitVec.eq_of_getLsbD_eq
  intro i hi
  rw [BitVec.getLsbD_reverse,BitVec.getMsbD_eq_getLsbD]
  have:∀ j:Fin 32,ones.getLsbD j.val=true:=by decide
  rw [this ⟨i,hi⟩,this ⟨32 - 1 - i,by omega⟩]
  simp [hi]
 rw [rev_rest xs ones h,e];exact (U_not _).symm
set_option maxRecDepth 100000 in
theorem refSum_any (p:Option Addr) (n c:Nat) (xs:List Int) (w:World) (h:Byt w p n c xs):Calls Tryz.prog 67 #[.slice p n c] w fun e w'=>e=.returned (.int .u32 (U (sumW xs)))∧w=w':=by
 have HH:=Lib.hid h;have HS:=Lib.hid (sum_said xs h.small);clear h;have HO:=rest_any ones p n c xs
 rw [U_ones] at HO
 have HO2:=Lib.hid HO;clear HO
 have HX:Hid (∀ s:W,0≤U s∧U s < 4294967296):=Lib.hid fun s=>⟨U_lo s,U_hi s⟩
 go_enter Tryz.func67,Tryz.ntmps67
 go_wp2_with fail;refine (HO2.out _ HH.out).mono ?_;rintro e w' ⟨rfl,rfl⟩;go_wp2_with fail;refine (turned_any _ _).mono ?_;rintro e w' ⟨rfl,rfl⟩;obtain ⟨r,hr⟩:∃ r,r=U (rest ones xs).reverse:=⟨_,rfl⟩;obtain ⟨r0,r1⟩:=HX.out (rest ones xs).reverse
 rw [← hr] at HS r0 r1 ⊢
 clear hr
 go_wp2
 go_ret
 exact ⟨ret_i HS.out,rfl⟩
end Go.Proofs.YtlijbgapkmfnaaaGreat
