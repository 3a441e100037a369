/-
  Part 5 of what the laws of stage 6 rest on: contracts of the functions that they call, and what these rest on.
-/
import Derived.Deep.RegionHeld3
import Derived.Test.YtlijbgapkmfnaaaGreatW4
import Derived.Test.YtlijbgapkmfnaaaGreatW1
set_option linter.unusedVariables false
set_option linter.unusedSimpArgs false
namespace Go.Proofs.YtlijbgapkmfnaaaGreat
open Go.RowKit Cr
def IsB (w:World) (v:Value) (xs:List Int):Prop:=∃ p n c,v=.slice p n c∧Byt w p n c xs
def IsRows (w:World) (v:Value) (xss:List (List Int)):Prop:=∃ p n c,v=.slice p n c∧Rows w p n c xss
theorem IsB.kept {w w':World} {v:Value} {xs:List Int} (h:IsB w v xs) (g:Gr w w'):IsB w' v xs:=by
 obtain ⟨p,n,c,e,h⟩:=h;exact ⟨p,n,c,e,h.kept g⟩
theorem IsRows.kept {w w':World} {v:Value} {xss:List (List Int)} (h:IsRows w v xss) (g:Gr w w'):IsRows w' v xss:=by
 obtain ⟨p,n,c,e,h⟩:=h;exact ⟨p,n,c,e,h.kept g⟩
def OwnX (B:Nat) (w:World) (v:Value) (xs:List Int):Prop:=∃ p n c,v=.slice p n c∧Byt w p n c xs∧∀ a,p=some a→B≤a.block
theorem OwnX.kept {B:Nat} {w w':World} {v:Value} {xs:List Int} (h:OwnX B w v xs) (g:Gr w w'):OwnX B w' v xs:=by
 obtain ⟨p,n,c,e,h,f⟩:=h;exact ⟨p,n,c,e,h.kept g,f⟩
structure Sl1 where
 p:Option Addr
 n:Nat
 c:Nat
 xs:List Int
def Sl1.v (s:Sl1):Value:=.slice s.p s.n s.c
theorem Rows.build {w W:World} {t:TypeId} (ss:List Sl1) (hm:ss.length≤1000) (h:∀ s ∈ ss,Byt w s.p s.n s.c s.xs) (hW:W.heap=(w.alloc (.cells (ss.map Sl1.v).toArray t)).heap):Rows W (some ⟨w.heap.size,0,none⟩) ss.length ss.length (ss.map Sl1.xs):=by
 have hg:=(Below.refl w.heap.size w).alloc (Nat.le_refl _) (.cells (ss.map Sl1.v).toArray t);refine ⟨by simp,Nat.le_refl _,by simp only [maxLen];omega,fun _=>⟨_,0,rfl,fun i hi=>?_⟩,fun h=>by cases h⟩;refine ⟨ss[i].p,ss[i].n,ss[i].c,?_,?_⟩
 ·
  have hc:W.cell? ⟨w.heap.size,0+i,none⟩=((ss.map Sl1.v).toArray)[0+i]?:=by
   rw [← World.cell?_alloc_at (w:=w) (ss.map Sl1.v).toArray t w.heap.size (0+i) rfl];exact World.cell?_of_block (w:=w.alloc _) (by rw [hW])
  rw [hc]
  simp [hi,Sl1.v]
 ·
  have e:(ss.map Sl1.xs).getD i []=ss[i].xs:=by simp [List.getD,hi]
  rw [e];exact ((h _ (List.getElem_mem hi)).kept hg).heap hW
theorem Rows.nine {w W:World} {t:TypeId} {p1 p2 p3 p4 p5 p6 p7 p8 p9:Option Addr} {n1 n2 n3 n4 n5 n6 n7 n8 n9 c1 c2 c3 c4 c5 c6 c7 c8 c9:Nat} {x1 x2 x3 x4 x5 x6 x7 x8 x9:List Int} (h1:Byt w p1 n1 c1 x1) (h2:Byt w p2 n2 c2 x2) (h3:Byt w p3 n3 c3 x3) (h4:Byt w p4 n4 c4 x4) (h5:Byt w p5 n5 c5 x5) (h6:Byt w p6 n6 c6 x6) (h7:Byt w p7 n7 c7 x7) (h8:Byt w p8 n8 c8 x8) (h9:Byt w p9 n9 c9 x9)
  (hW:W.heap=(w.alloc (.cells #[.slice p1 n1 c1,.slice p2 n2 c2,.slice p3 n3 c3,.slice p4 n4 c4,.slice p5 n5 c5,.slice p6 n6 c6,.slice p7 n7 c7,.slice p8 n8 c8,.slice p9 n9 c9] t)).heap):Rows W (some ⟨w.heap.size,0,none⟩) 9 9 [x1,x2,x3,x4,x5,x6,x7,x8,x9]:=
 Rows.build (w:=w) (W:=W) (t:=t) [⟨p1,n1,c1,x1⟩,⟨p2,n2,c2,x2⟩,⟨p3,n3,c3,x3⟩,⟨p4,n4,c4,x4⟩,⟨p5,n5,c5,x5⟩,⟨p6,n6,c6,x6⟩,⟨p7,n7,c7,x7⟩,⟨p8,n8,c8,x8⟩,⟨p9,n9,c9,x9⟩] (by simp)
  (fun s hs=>by
   simp only [List.mem_cons,List.not_mem_nil,or_false] at hs
   rcases hs with rfl | rfl | rfl | rfl | rfl | rfl | rfl | rfl | rfl <;> assumption) hW
theorem recWord_any (n:Nat) (s:Int) (w:World):Calls Tryz.prog 92 #[.int .u64 n,.int .i64 s] w (RetByte (putR n s) w):=by
 have HP:=Lib.hid (put_any n s w)
 go_enter Tryz.func92,Tryz.ntmps92
 go_wp2_with fail;refine HP.out.mono ?_;rintro e w' ⟨p,m,c,rfl,hb,g,hf⟩;go_wp2_with fail
 go_ret
 exact ⟨p,m,c,rfl,hb,g,hf⟩
theorem word_fit (n k:Nat) (w:World) (h:fitsB n k=true):Calls Tryz.prog 92 #[.int .u64 n,.int .i64 k] w (RetByte (Wd.enc k n) w):=by
 have h1:=recWord_any n k w
 unfold putR at h1
 rw [h] at h1
 exact h1
theorem refN_any (n k:Nat) (w:World) (hn:n≤18446744073709551615) (hk:k≤8):Calls Tryz.prog 66 #[.int .u64 n,.int .i64 k] w (RetByte (Wd.enc k n) w):=by
 have HP:=Lib.hid (refPut_any n k w hn hk)
 go_enter Tryz.func66,Tryz.ntmps66
 go_wp2_with fail;refine HP.out.mono ?_;rintro e w' ⟨p,m,c,rfl,hb,g,hf⟩;go_wp2_with fail
 go_ret
 exact ⟨p,m,c,rfl,hb,g,hf⟩
theorem fitK {n k:Nat} (h1:1≤k) (h8:k≤8) (h:n < 256 ^ k):fitsB n k=true:=by
 simp only [fitsB,Bool.and_eq_true,mayB_iff,decide_eq_true_eq]
 exact ⟨by omega,by rw [Int.toNat_natCast];exact h⟩
def nine (K t p x G O:Nat) (b a:List Int):List (List Int):=[Wd.enc 1 K,Wd.enc 8 t,Wd.enc 8 p,Wd.enc 8 x,Wd.enc 2 G,Wd.enc 1 O,Wd.enc 1 a.length,b,a]
theorem nine_rec (K t p x G O:Nat) (b a:List Int):(nine K t p x G O b a).flatten=bodyL ⟨K,t,p,x,G,O,b,a⟩:=rfl
theorem nine_tot (K t p x G O:Nat) (b a:List Int):tot (nine K t p x G O b a)=29+b.length+a.length:=by
 unfold tot;rw [nine_rec,bodyL_len]
def SlBP (d:Nat) (kk:Nat) (t:Nat) (p:Nat) (x:Nat) (gg:Nat) (oo:Nat) (b:List Int) (a:List Int) (_:Option Addr) (_:Nat) (pa:Option Addr) (ca:Nat) (slot:Nat) (v:Value) (w:World):Prop:=
 match slot with
 | 3=>v=.pointer (some ⟨d,0,none⟩)
 | 4=>v=.int .i64 kk
 | 5=>v=.int .u64 (kk:Nat)
 | 7=>v=.pointer (some ⟨d,1,none⟩)
 | 8=>v=.int .u64 t
 | 10=>v=.pointer (some ⟨d,2,none⟩)
 | 11=>v=.int .u64 p
 | 13=>v=.pointer (some ⟨d,3,none⟩)
 | 14=>v=.int .u64 x
 | 16=>v=.pointer (some ⟨d,4,none⟩)
 | 17=>v=.int .i64 gg
 | 18=>v=.int .u64 (gg:Nat)
 | 20=>v=.pointer (some ⟨d,5,none⟩)
 | 21=>v=.int .i64 oo
 | 22=>v=.int .u64 (oo:Nat)
 | 24=>v=.pointer (some ⟨d,7,none⟩)
 | 25=>v=.slice pa a.length ca
 | 26=>v=.int .i64 a.length
 | 27=>v=.int .u64 (a.length:Nat)
 | 29=>v=.pointer (some ⟨d,6,none⟩)
 | 31=>v=.pointer (some ⟨d,7,none⟩)
 | 2=>OwnX d w v (nine kk t p x gg oo b a).flatten
 | 6=>IsB w v (Wd.enc 1 kk)
 | 9=>IsB w v (Wd.enc 8 t)
 | 12=>IsB w v (Wd.enc 8 p)
 | 15=>IsB w v (Wd.enc 8 x)
 | 19=>IsB w v (Wd.enc 2 gg)
 | 23=>IsB w v (Wd.enc 1 oo)
 | 28=>IsB w v (Wd.enc 1 a.length)
 | 30=>IsB w v b
 | 32=>IsB w v a
 | 33=>IsRows w v (nine kk t p x gg oo b a)
 | 34=>OwnX d w v (nine kk t p x gg oo b a).flatten
 | _=>True
theorem slBP_gr {d kk t p x gg oo:Nat} {b a:List Int} {pb:Option Addr} {cb:Nat} {pa:Option Addr} {ca:Nat} {s:Nat} {v:Value} {w w':World} (h:SlBP d kk t p x gg oo b a pb cb pa ca s v w) (g:Gr w w'):SlBP d kk t p x gg oo b a pb cb pa ca s v w':=by
 unfold SlBP at *
 split <;> simp_all
 all_goals first
  | exact IsB.kept (by assumption) g
  | exact IsRows.kept (by assumption) g
  | exact OwnX.kept (by assumption) g
def SlBR (d:Nat) (kk:Nat) (t:Nat) (p:Nat) (x:Nat) (gg:Nat) (oo:Nat) (b:List Int) (a:List Int) (_:Option Addr) (_:Nat) (pa:Option Addr) (ca:Nat) (slot:Nat) (v:Value) (w:World):Prop:=
 match slot with
 | 8=>v=.pointer (some ⟨d,0,none⟩)
 | 9=>v=.int .i64 kk
 | 10=>v=.int .u64 (kk:Nat)
 | 12=>v=.pointer (some ⟨d,1,none⟩)
 | 13=>v=.int .u64 t
 | 15=>v=.pointer (some ⟨d,2,none⟩)
 | 16=>v=.int .u64 p
 | 18=>v=.pointer (some ⟨d,3,none⟩)
 | 19=>v=.int .u64 x
 | 21=>v=.pointer (some ⟨d,4,none⟩)
 | 22=>v=.int .i64 gg
 | 23=>v=.int .u64 (gg:Nat)
 | 25=>v=.pointer (some ⟨d,5,none⟩)
 | 26=>v=.int .i64 oo
 | 27=>v=.int .u64 (oo:Nat)
 | 29=>v=.pointer (some ⟨d,7,none⟩)
 | 30=>v=.slice pa a.length ca
 | 31=>v=.int .i64 a.length
 | 32=>v=.int .u64 (a.length:Nat)
 | 34=>v=.pointer (some ⟨d,6,none⟩)
 | 36=>v=.pointer (some ⟨d,7,none⟩)
 | 5=>OwnX d w v (nine kk t p x gg oo b a).flatten
 | 11=>IsB w v (Wd.enc 1 kk)
 | 14=>IsB w v (Wd.enc 8 t)
 | 17=>IsB w v (Wd.enc 8 p)
 | 20=>IsB w v (Wd.enc 8 x)
 | 24=>IsB w v (Wd.enc 2 gg)
 | 28=>IsB w v (Wd.enc 1 oo)
 | 33=>IsB w v (Wd.enc 1 a.length)
 | 35=>IsB w v b
 | 37=>IsB w v a
 | 38=>IsRows w v (nine kk t p x gg oo b a)
 | 39=>OwnX d w v (nine kk t p x gg oo b a).flatten
 | _=>True
theorem slBR_gr {d kk t p x gg oo:Nat} {b a:List Int} {pb:Option Addr} {cb:Nat} {pa:Option Addr} {ca:Nat} {s:Nat} {v:Value} {w w':World} (h:SlBR d kk t p x gg oo b a pb cb pa ca s v w) (g:Gr w w'):SlBR d kk t p x gg oo b a pb cb pa ca s v w':=by
 unfold SlBR at *
 split <;> simp_all
 all_goals first
  | exact IsB.kept (by assumption) g
  | exact IsRows.kept (by assumption) g
  | exact OwnX.kept (by assumption) g
set_option maxRecDepth 100000 in
set_option maxHeartbeats 4000000 in
theorem body_nat (kk:Nat) (t:Nat) (p:Nat) (x:Nat) (gg:Nat) (oo:Nat) (b:List Int) (a:List Int) (pb:Option Addr) (cb:Nat) (pa:Option Addr) (ca:Nat) (w:World) (hb:Byt w pb b.length cb b) (ha:Byt w pa a.length ca a) (hK:kk≤4) (ht:t≤18446744073709551615) (hp:p≤18446744073709551615) (hx:x≤18446744073709551615) (hG:gg < 4096) (hO:oo≤247) (hlb:b.length≤248) (hla:a.length≤248) :
  Calls Tryz.prog 91 #[.agg #[.int .i64 kk,.int .u64 t,.int .u64 p,.int .u64 x,.int .i64 gg,.int .i64 oo,.slice pb b.length cb,.slice pa a.length ca]] w (RetByte (nine kk t p x gg oo b a).flatten w):=by
 have HB:=Lib.hid (Blk.new w TR #[.int .i64 kk,.int .u64 t,.int .u64 p,.int .u64 x,.int .i64 gg,.int .i64 oo,.slice pb b.length cb,.slice pa a.length ca]);have HG0:=Lib.hid ((Gr.refl w).alloc (Nat.le_refl _) (.cells #[.int .i64 kk,.int .u64 t,.int .u64 p,.int .u64 x,.int .i64 gg,.int .i64 oo,.slice pb b.length cb,.slice pa a.length ca] TR));have HY:=Lib.hid (hb.kept HG0.out);have HX:=Lib.hid (ha.kept HG0.out);have HW:Hid (IntKind.u64.wrap (kk:Int)=kk∧IntKind.u64.wrap (gg:Int)=gg∧IntKind.u64.wrap (oo:Int)=oo∧IntKind.u64.wrap (a.length:Int)=a.length):=Lib.hid (by simp only [IntKind.wrap_u64];omega);have HT:Hid (tot (nine kk t p x gg oo b a)≤140737488355328):=Lib.hid (by rw [nine_tot];omega);have HF:Hid (fitsB kk 1=true∧fitsB t 8=true∧fitsB p 8=true∧fitsB x 8=true∧fitsB gg 2=true∧fitsB oo 1=true∧fitsB a.length 1=true):=Lib.hid ⟨fitK (k:=1) (by omega) (by omega) (by omega),fitK (k:=8) (by omega) (by omega) (by omega),fitK (k:=8) (by omega) (by omega) (by omega),fitK (k:=8) (by omega) (by omega) (by omega),fitK (k:=2) (by omega) (by omega) (by omega),fitK (k:=1) (by omega) (by omega) (by omega),fitK (k:=1) (by omega) (by omega) (by omega)⟩
 go_enter Tryz.func91,Tryz.ntmps91
 go_wp2_with fail;refine Flow.region (SlBP w.heap.size kk t p x gg oo b a pb cb pa ca) (Gr (w.alloc (.cells #[.int .i64 kk,.int .u64 t,.int .u64 p,.int .u64 x,.int .i64 gg,.int .i64 oo,.slice pb b.length cb,.slice pa a.length ca] TR))) Gr (by kernel_rfl) (by kernel_rfl) (fun _ _ _ _ h g=>slBP_gr h g) ⟨rfl,rfl,rfl,Nat.le_refl _,fun _ _=>rfl⟩ ?steps ?fin
 case steps=>
  refine .cons (fun A W hfr hinv hdep K hK=>?_) ?_
  · have t1:=tAt (.pointer (some ⟨w.heap.size,0,none⟩)) (hfr.at 1 (by kernel_rfl));refine fW0 rfl ?_;clear hfr hdep;go_simp;exact hK _ _ (Gr.refl _) hinv (dsT (by trivial))
  refine .cons (fun A W hfr hinv hdep K hK=>?_) ?_
  · have t3:=tAt (.pointer (some ⟨w.heap.size,0,none⟩)) (hdep 3 (by kernel_rfl));refine fW0 rfl ?_;clear hfr hdep;obtain ⟨c0,c1,c2,c3,c4,c5,c6,c7⟩:=(HB.out.below hinv HB.out.lt).c8;go_simp;exact hK _ _ (Gr.refl _) hinv (dsT (by trivial))
  refine .cons (fun A W hfr hinv hdep K hK=>?_) ?_
  · have t4:=tAt (.int .i64 kk) (hdep 4 (by kernel_rfl));refine fW0 rfl ?_;clear hfr hdep;have hw:=HW.out;obtain ⟨w1,w2,w3,w4⟩:=hw;go_simp;exact hK _ _ (Gr.refl _) hinv (dsT (by trivial))
  refine .cons (fun A W hfr hinv hdep K hK=>?_) ?_
  · have t5:=tAt (.int .u64 (kk:Nat)) (hdep 5 (by kernel_rfl));refine fW0 rfl ?_;clear hfr hdep;go_simp;refine (word_fit kk 1 W (by first | exact HF.out.1 | exact HF.out.2.1 | exact HF.out.2.2.1 | exact HF.out.2.2.2.1 | exact HF.out.2.2.2.2.1 | exact HF.out.2.2.2.2.2.1 | exact HF.out.2.2.2.2.2.2)).mono ?_;rintro e W2 ⟨q,m,c,rfl,hy,g1,hf⟩;exact hK _ _ g1 (Gr.trans hinv g1) (fun d hd=>by cases hd;exact ⟨_,_,_,rfl,hy⟩)
  refine .cons (fun A W hfr hinv hdep K hK=>?_) ?_
  · have t1:=tAt (.pointer (some ⟨w.heap.size,0,none⟩)) (hfr.at 1 (by kernel_rfl));refine fW0 rfl ?_;clear hfr hdep;go_simp;exact hK _ _ (Gr.refl _) hinv (dsT (by trivial))
  refine .cons (fun A W hfr hinv hdep K hK=>?_) ?_
  · have t7:=tAt (.pointer (some ⟨w.heap.size,1,none⟩)) (hdep 7 (by kernel_rfl));refine fW0 rfl ?_;clear hfr hdep;obtain ⟨c0,c1,c2,c3,c4,c5,c6,c7⟩:=(HB.out.below hinv HB.out.lt).c8;go_simp;exact hK _ _ (Gr.refl _) hinv (dsT (by trivial))
  refine .cons (fun A W hfr hinv hdep K hK=>?_) ?_
  · have t8:=tAt (.int .u64 t) (hdep 8 (by kernel_rfl));refine fW0 rfl ?_;clear hfr hdep;go_simp;refine (word_fit t 8 W (by first | exact HF.out.1 | exact HF.out.2.1 | exact HF.out.2.2.1 | exact HF.out.2.2.2.1 | exact HF.out.2.2.2.2.1 | exact HF.out.2.2.2.2.2.1 | exact HF.out.2.2.2.2.2.2)).mono ?_;rintro e W2 ⟨q,m,c,rfl,hy,g1,hf⟩;exact hK _ _ g1 (Gr.trans hinv g1) (fun d hd=>by cases hd;exact ⟨_,_,_,rfl,hy⟩)
  refine .cons (fun A W hfr hinv hdep K hK=>?_) ?_
  · have t1:=tAt (.pointer (some ⟨w.heap.size,0,none⟩)) (hfr.at 1 (by kernel_rfl));refine fW0 rfl ?_;clear hfr hdep;go_simp;exact hK _ _ (Gr.refl _) hinv (dsT (by trivial))
  refine .cons (fun A W hfr hinv hdep K hK=>?_) ?_
  · have t10:=tAt (.pointer (some ⟨w.heap.size,2,none⟩)) (hdep 10 (by kernel_rfl));refine fW0 rfl ?_;clear hfr hdep;obtain ⟨c0,c1,c2,c3,c4,c5,c6,c7⟩:=(HB.out.below hinv HB.out.lt).c8;go_simp;exact hK _ _ (Gr.refl _) hinv (dsT (by trivial))
  refine .cons (fun A W hfr hinv hdep K hK=>?_) ?_
  · have t11:=tAt (.int .u64 p) (hdep 11 (by kernel_rfl));refine fW0 rfl ?_;clear hfr hdep;go_simp;refine (word_fit p 8 W (by first | exact HF.out.1 | exact HF.out.2.1 | exact HF.out.2.2.1 | exact HF.out.2.2.2.1 | exact HF.out.2.2.2.2.1 | exact HF.out.2.2.2.2.2.1 | exact HF.out.2.2.2.2.2.2)).mono ?_;rintro e W2 ⟨q,m,c,rfl,hy,g1,hf⟩;exact hK _ _ g1 (Gr.trans hinv g1) (fun d hd=>by cases hd;exact ⟨_,_,_,rfl,hy⟩)
  refine .cons (fun A W hfr hinv hdep K hK=>?_) ?_
  · have t1:=tAt (.pointer (some ⟨w.heap.size,0,none⟩)) (hfr.at 1 (by kernel_rfl));refine fW0 rfl ?_;clear hfr hdep;go_simp;exact hK _ _ (Gr.refl _) hinv (dsT (by trivial))
  refine .cons (fun A W hfr hinv hdep K hK=>?_) ?_
  · have t13:=tAt (.pointer (some ⟨w.heap.size,3,none⟩)) (hdep 13 (by kernel_rfl));refine fW0 rfl ?_;clear hfr hdep;obtain ⟨c0,c1,c2,c3,c4,c5,c6,c7⟩:=(HB.out.below hinv HB.out.lt).c8;go_simp;exact hK _ _ (Gr.refl _) hinv (dsT (by trivial))
  refine .cons (fun A W hfr hinv hdep K hK=>?_) ?_
  · have t14:=tAt (.int .u64 x) (hdep 14 (by kernel_rfl));refine fW0 rfl ?_;clear hfr hdep;go_simp;refine (word_fit x 8 W (by first | exact HF.out.1 | exact HF.out.2.1 | exact HF.out.2.2.1 | exact HF.out.2.2.2.1 | exact HF.out.2.2.2.2.1 | exact HF.out.2.2.2.2.2.1 | exact HF.out.2.2.2.2.2.2)).mono ?_;rintro e W2 ⟨q,m,c,rfl,hy,g1,hf⟩;exact hK _ _ g1 (Gr.trans hinv g1) (fun d hd=>by cases hd;exact ⟨_,_,_,rfl,hy⟩)
  refine .cons (fun A W hfr hinv hdep K hK=>?_) ?_
  · have t1:=tAt (.pointer (some ⟨w.heap.size,0,none⟩)) (hfr.at 1 (by kernel_rfl));refine fW0 rfl ?_;clear hfr hdep;go_simp;exact hK _ _ (Gr.refl _) hinv (dsT (by trivial))
  refine .cons (fun A W hfr hinv hdep K hK=>?_) ?_
  · have t16:=tAt (.pointer (some ⟨w.heap.size,4,none⟩)) (hdep 16 (by kernel_rfl));refine fW0 rfl ?_;clear hfr hdep;obtain ⟨c0,c1,c2,c3,c4,c5,c6,c7⟩:=(HB.out.below hinv HB.out.lt).c8;go_simp;exact hK _ _ (Gr.refl _) hinv (dsT (by trivial))
  refine .cons (fun A W hfr hinv hdep K hK=>?_) ?_
  · have t17:=tAt (.int .i64 gg) (hdep 17 (by kernel_rfl));refine fW0 rfl ?_;clear hfr hdep;have hw:=HW.out;obtain ⟨w1,w2,w3,w4⟩:=hw;go_simp;exact hK _ _ (Gr.refl _) hinv (dsT (by trivial))
  refine .cons (fun A W hfr hinv hdep K hK=>?_) ?_
  · have t18:=tAt (.int .u64 (gg:Nat)) (hdep 18 (by kernel_rfl));refine fW0 rfl ?_;clear hfr hdep;go_simp;refine (word_fit gg 2 W (by first | exact HF.out.1 | exact HF.out.2.1 | exact HF.out.2.2.1 | exact HF.out.2.2.2.1 | exact HF.out.2.2.2.2.1 | exact HF.out.2.2.2.2.2.1 | exact HF.out.2.2.2.2.2.2)).mono ?_;rintro e W2 ⟨q,m,c,rfl,hy,g1,hf⟩;exact hK _ _ g1 (Gr.trans hinv g1) (fun d hd=>by cases hd;exact ⟨_,_,_,rfl,hy⟩)
  refine .cons (fun A W hfr hinv hdep K hK=>?_) ?_
  · have t1:=tAt (.pointer (some ⟨w.heap.size,0,none⟩)) (hfr.at 1 (by kernel_rfl));refine fW0 rfl ?_;clear hfr hdep;go_simp;exact hK _ _ (Gr.refl _) hinv (dsT (by trivial))
  refine .cons (fun A W hfr hinv hdep K hK=>?_) ?_
  · have t20:=tAt (.pointer (some ⟨w.heap.size,5,none⟩)) (hdep 20 (by kernel_rfl));refine fW0 rfl ?_;clear hfr hdep;obtain ⟨c0,c1,c2,c3,c4,c5,c6,c7⟩:=(HB.out.below hinv HB.out.lt).c8;go_simp;exact hK _ _ (Gr.refl _) hinv (dsT (by trivial))
  refine .cons (fun A W hfr hinv hdep K hK=>?_) ?_
  · have t21:=tAt (.int .i64 oo) (hdep 21 (by kernel_rfl));refine fW0 rfl ?_;clear hfr hdep;have hw:=HW.out;obtain ⟨w1,w2,w3,w4⟩:=hw;go_simp;exact hK _ _ (Gr.refl _) hinv (dsT (by trivial))
  refine .cons (fun A W hfr hinv hdep K hK=>?_) ?_
  · have t22:=tAt (.int .u64 (oo:Nat)) (hdep 22 (by kernel_rfl));refine fW0 rfl ?_;clear hfr hdep;go_simp;refine (word_fit oo 1 W (by first | exact HF.out.1 | exact HF.out.2.1 | exact HF.out.2.2.1 | exact HF.out.2.2.2.1 | exact HF.out.2.2.2.2.1 | exact HF.out.2.2.2.2.2.1 | exact HF.out.2.2.2.2.2.2)).mono ?_;rintro e W2 ⟨q,m,c,rfl,hy,g1,hf⟩;exact hK _ _ g1 (Gr.trans hinv g1) (fun d hd=>by cases hd;exact ⟨_,_,_,rfl,hy⟩)
  refine .cons (fun A W hfr hinv hdep K hK=>?_) ?_
  · have t1:=tAt (.pointer (some ⟨w.heap.size,0,none⟩)) (hfr.at 1 (by kernel_rfl));refine fW0 rfl ?_;clear hfr hdep;go_simp;exact hK _ _ (Gr.refl _) hinv (dsT (by trivial))
  refine .cons (fun A W hfr hinv hdep K hK=>?_) ?_
  · have t24:=tAt (.pointer (some ⟨w.heap.size,7,none⟩)) (hdep 24 (by kernel_rfl));refine fW0 rfl ?_;clear hfr hdep;obtain ⟨c0,c1,c2,c3,c4,c5,c6,c7⟩:=(HB.out.below hinv HB.out.lt).c8;go_simp;exact hK _ _ (Gr.refl _) hinv (dsT (by trivial))
  refine .cons (fun A W hfr hinv hdep K hK=>?_) ?_
  · have t25:=tAt (.slice pa a.length ca) (hdep 25 (by kernel_rfl));refine fW0 rfl ?_;clear hfr hdep;go_simp;exact hK _ _ (Gr.refl _) hinv (dsT (by trivial))
  refine .cons (fun A W hfr hinv hdep K hK=>?_) ?_
  · have t26:=tAt (.int .i64 a.length) (hdep 26 (by kernel_rfl));refine fW0 rfl ?_;clear hfr hdep;have hw:=HW.out;obtain ⟨w1,w2,w3,w4⟩:=hw;go_simp;exact hK _ _ (Gr.refl _) hinv (dsT (by trivial))
  refine .cons (fun A W hfr hinv hdep K hK=>?_) ?_
  · have t27:=tAt (.int .u64 (a.length:Nat)) (hdep 27 (by kernel_rfl));refine fW0 rfl ?_;clear hfr hdep;go_simp;refine (word_fit a.length 1 W (by first | exact HF.out.1 | exact HF.out.2.1 | exact HF.out.2.2.1 | exact HF.out.2.2.2.1 | exact HF.out.2.2.2.2.1 | exact HF.out.2.2.2.2.2.1 | exact HF.out.2.2.2.2.2.2)).mono ?_;rintro e W2 ⟨q,m,c,rfl,hy,g1,hf⟩;exact hK _ _ g1 (Gr.trans hinv g1) (fun d hd=>by cases hd;exact ⟨_,_,_,rfl,hy⟩)
  refine .cons (fun A W hfr hinv hdep K hK=>?_) ?_
  · have t1:=tAt (.pointer (some ⟨w.heap.size,0,none⟩)) (hfr.at 1 (by kernel_rfl));refine fW0 rfl ?_;clear hfr hdep;go_simp;exact hK _ _ (Gr.refl _) hinv (dsT (by trivial))
  refine .cons (fun A W hfr hinv hdep K hK=>?_) ?_
  · have t29:=tAt (.pointer (some ⟨w.heap.size,6,none⟩)) (hdep 29 (by kernel_rfl));refine fW0 rfl ?_;clear hfr hdep;obtain ⟨c0,c1,c2,c3,c4,c5,c6,c7⟩:=(HB.out.below hinv HB.out.lt).c8;go_simp;exact hK _ _ (Gr.refl _) hinv (fun d hd=>by cases hd;exact ⟨_,_,_,rfl,HY.out.kept hinv⟩)
  refine .cons (fun A W hfr hinv hdep K hK=>?_) ?_
  · have t1:=tAt (.pointer (some ⟨w.heap.size,0,none⟩)) (hfr.at 1 (by kernel_rfl));refine fW0 rfl ?_;clear hfr hdep;go_simp;exact hK _ _ (Gr.refl _) hinv (dsT (by trivial))
  refine .cons (fun A W hfr hinv hdep K hK=>?_) ?_
  · have t31:=tAt (.pointer (some ⟨w.heap.size,7,none⟩)) (hdep 31 (by kernel_rfl));refine fW0 rfl ?_;clear hfr hdep;obtain ⟨c0,c1,c2,c3,c4,c5,c6,c7⟩:=(HB.out.below hinv HB.out.lt).c8;go_simp;exact hK _ _ (Gr.refl _) hinv (fun d hd=>by cases hd;exact ⟨_,_,_,rfl,HX.out.kept hinv⟩)
  refine .cons (fun A W hfr hinv hdep K hK=>?_) ?_
  · have s6:IsB W (A.tmps.getD 6 undef) (Wd.enc 1 kk):=hdep 6 (by kernel_rfl);have s9:IsB W (A.tmps.getD 9 undef) (Wd.enc 8 t):=hdep 9 (by kernel_rfl);have s12:IsB W (A.tmps.getD 12 undef) (Wd.enc 8 p):=hdep 12 (by kernel_rfl);have s15:IsB W (A.tmps.getD 15 undef) (Wd.enc 8 x):=hdep 15 (by kernel_rfl);have s19:IsB W (A.tmps.getD 19 undef) (Wd.enc 2 gg):=hdep 19 (by kernel_rfl);have s23:IsB W (A.tmps.getD 23 undef) (Wd.enc 1 oo):=hdep 23 (by kernel_rfl);have s28:IsB W (A.tmps.getD 28 undef) (Wd.enc 1 a.length):=hdep 28 (by kernel_rfl);have s30:IsB W (A.tmps.getD 30 undef) b:=hdep 30 (by kernel_rfl);have s32:IsB W (A.tmps.getD 32 undef) a:=hdep 32 (by kernel_rfl);refine fW0 rfl ?_;clear hfr hdep;obtain ⟨p0,n0,c0,s6,h0⟩:=s6;have t6:=tmpAt s6;obtain ⟨p1,n1,c1,s9,h1⟩:=s9;have t9:=tmpAt s9;obtain ⟨p2,n2,c2,s12,h2⟩:=s12;have t12:=tmpAt s12;obtain ⟨p3,n3,c3,s15,h3⟩:=s15;have t15:=tmpAt s15;obtain ⟨p4,n4,c4,s19,h4⟩:=s19;have t19:=tmpAt s19;obtain ⟨p5,n5,c5,s23,h5⟩:=s23;have t23:=tmpAt s23;obtain ⟨p6,n6,c6,s28,h6⟩:=s28;have t28:=tmpAt s28;obtain ⟨p7,n7,c7,s30,h7⟩:=s30;have t30:=tmpAt s30;obtain ⟨p8,n8,c8,s32,h8⟩:=s32;have t32:=tmpAt s32;go_simp;exact hK _ _ ((Gr.refl W).alloc (Nat.le_refl _) _) (hinv.alloc hinv.size _) (fun d hd=>by cases hd;exact ⟨_,_,_,rfl,Rows.nine h0 h1 h2 h3 h4 h5 h6 h7 h8 rfl⟩)
  refine .cons (fun A W hfr hinv hdep K hK=>?_) ?_
  · have s33:IsRows W (A.tmps.getD 33 undef) (nine kk t p x gg oo b a):=hdep 33 (by kernel_rfl);refine fW0 rfl ?_;clear hfr hdep;obtain ⟨pr,nr,cr,s33,hr⟩:=s33;have t33:=tmpAt s33;go_simp;refine (join_any _ _ _ _ W hr HT.out).mono ?_;rintro e W2 ⟨q,m,c,rfl,hy,g1,hf⟩;exact hK _ _ g1 (Gr.trans hinv g1) (fun d hd=>by cases hd;exact ⟨_,_,_,rfl,hy,fun y hy2=>Nat.le_trans (Nat.le_of_lt (Nat.lt_of_lt_of_le HB.out.lt hinv.size)) (hf y hy2)⟩)
  refine .cons (fun A W hfr hinv hdep K hK=>?_) ?_
  · have s34:OwnX w.heap.size W (A.tmps.getD 34 undef) (nine kk t p x gg oo b a).flatten:=hdep 34 (by kernel_rfl);refine fW0 rfl ?_;clear hfr hdep;obtain ⟨pr,nr,cr,s34,hr⟩:=s34;have t34:=tmpAt s34;go_simp;exact hK _ _ (Gr.refl _) hinv (fun d hd=>by cases hd;exact ⟨_,_,_,rfl,hr⟩)
  exact True.intro
 case fin=>
  intro A W hfr hfin hsl
  obtain ⟨pr,nr,cr,s2,hr,hf⟩:OwnX w.heap.size W (A.tmps.getD 2 undef) (nine kk t p x gg oo b a).flatten:=hsl 32 _ 2 rfl rfl;have t2:=tmpAt s2;have e:=Flow.frame hfr [3,4,5,6,7,8,9,10,11,12,13,14,15,16,17,18,19,20,21,22,23,24,25,26,27,28,29,30,31,32,33,34,2] (List.range 35) (by kernel_rfl) (by kernel_rfl)
  simp [List.range,List.range.loop] at e
  rw [t2] at e
  rw [e];have HG:=Lib.hid (grow1 hfin);have HR:=Lib.hid hr;have HO:=Lib.hid hf;clear e hfr hsl hfin s2 t2 hr hf
  first
  | (rename_i hB;refine hB _ _ ?_)
  | (rename_i hB y0;refine hB _ _ ?_)
  | (rename_i hB y0 y1;refine hB _ _ ?_)
  | (rename_i hB y0 y1 y2;refine hB _ _ ?_)
  | (rename_i hB y0 y1 y2 y3;refine hB _ _ ?_)
  | (rename_i hB y0 y1 y2 y3 y4;refine hB _ _ ?_)
  | (rename_i hB y0 y1 y2 y3 y4 y5;refine hB _ _ ?_)
  | (rename_i hB y0 y1 y2 y3 y4 y5 y6;refine hB _ _ ?_)
  | (rename_i hB y0 y1 y2 y3 y4 y5 y6 y7;refine hB _ _ ?_)
  | (rename_i hB y0 y1 y2 y3 y4 y5 y6 y7 y8;refine hB _ _ ?_)
  go_wp2_with fail
  go_ret
  exact ⟨_,_,_,rfl,HR.out,HG.out,HO.out⟩
set_option maxRecDepth 100000 in
set_option maxHeartbeats 4000000 in
theorem refBytes_nat (kk:Nat) (t:Nat) (p:Nat) (x:Nat) (gg:Nat) (oo:Nat) (b:List Int) (a:List Int) (pb:Option Addr) (cb:Nat) (pa:Option Addr) (ca:Nat) (at':Nat) (w:World) (hb:Byt w pb b.length cb b) (ha:Byt w pa a.length ca a) (hK:kk≤4) (ht:t≤18446744073709551615) (hp:p≤18446744073709551615) (hx:x≤18446744073709551615) (hG:gg < 4096) (hO:oo≤247) (hlb:b.length≤248) (hla:a.length≤248) (hat:at'≤18446744073709551615) :
  Calls Tryz.prog 47 #[.agg #[.int .i64 kk,.int .u64 t,.int .u64 p,.int .u64 x,.int .i64 gg,.int .i64 oo,.slice pb b.length cb,.slice pa a.length ca],.int .u64 at'] w (RetByte (recL ⟨kk,t,p,x,gg,oo,b,a⟩ at') w):=by
 have HB:=Lib.hid (Blk.new w TR #[.int .i64 kk,.int .u64 t,.int .u64 p,.int .u64 x,.int .i64 gg,.int .i64 oo,.slice pb b.length cb,.slice pa a.length ca]);have HG0:=Lib.hid ((Gr.refl w).alloc (Nat.le_refl _) (.cells #[.int .i64 kk,.int .u64 t,.int .u64 p,.int .u64 x,.int .i64 gg,.int .i64 oo,.slice pb b.length cb,.slice pa a.length ca] TR));have HY:=Lib.hid (hb.kept HG0.out);have HX:=Lib.hid (ha.kept HG0.out);have HW:Hid (IntKind.u64.wrap (kk:Int)=kk∧IntKind.u64.wrap (gg:Int)=gg∧IntKind.u64.wrap (oo:Int)=oo∧IntKind.u64.wrap (a.length:Int)=a.length):=Lib.hid (by simp only [IntKind.wrap_u64];omega);have HT:Hid (tot (nine kk t p x gg oo b a)≤140737488355328):=Lib.hid (by rw [nine_tot];omega);have HF:Hid (kk≤18446744073709551615∧t≤18446744073709551615∧p≤18446744073709551615∧x≤18446744073709551615∧gg≤18446744073709551615∧oo≤18446744073709551615∧a.length≤18446744073709551615):=Lib.hid ⟨by omega,ht,hp,hx,by omega,by omega,by omega⟩
 go_enter Tryz.func47,Tryz.ntmps47
 go_wp2_with fail;refine Flow.region (SlBR w.heap.size kk t p x gg oo b a pb cb pa ca) (Gr (w.alloc (.cells #[.int .i64 kk,.int .u64 t,.int .u64 p,.int .u64 x,.int .i64 gg,.int .i64 oo,.slice pb b.length cb,.slice pa a.length ca] TR))) Gr (by kernel_rfl) (by kernel_rfl) (fun _ _ _ _ h g=>slBR_gr h g) ⟨rfl,rfl,rfl,Nat.le_refl _,fun _ _=>rfl⟩ ?steps ?fin
 case steps=>
  refine .cons (fun A W hfr hinv hdep K hK=>?_) ?_
  · have t2:=tAt (.pointer (some ⟨w.heap.size,0,none⟩)) (hfr.at 2 (by kernel_rfl));refine fW0 rfl ?_;clear hfr hdep;go_simp;exact hK _ _ (Gr.refl _) hinv (dsT (by trivial))
  refine .cons (fun A W hfr hinv hdep K hK=>?_) ?_
  · have t8:=tAt (.pointer (some ⟨w.heap.size,0,none⟩)) (hdep 8 (by kernel_rfl));refine fW0 rfl ?_;clear hfr hdep;obtain ⟨c0,c1,c2,c3,c4,c5,c6,c7⟩:=(HB.out.below hinv HB.out.lt).c8;go_simp;exact hK _ _ (Gr.refl _) hinv (dsT (by trivial))
  refine .cons (fun A W hfr hinv hdep K hK=>?_) ?_
  · have t9:=tAt (.int .i64 kk) (hdep 9 (by kernel_rfl));refine fW0 rfl ?_;clear hfr hdep;have hw:=HW.out;obtain ⟨w1,w2,w3,w4⟩:=hw;go_simp;exact hK _ _ (Gr.refl _) hinv (dsT (by trivial))
  refine .cons (fun A W hfr hinv hdep K hK=>?_) ?_
  · have t10:=tAt (.int .u64 (kk:Nat)) (hdep 10 (by kernel_rfl));refine fW0 rfl ?_;clear hfr hdep;go_simp;refine (refN_any kk 1 W (by first | exact HF.out.1 | exact HF.out.2.1 | exact HF.out.2.2.1 | exact HF.out.2.2.2.1 | exact HF.out.2.2.2.2.1 | exact HF.out.2.2.2.2.2.1 | exact HF.out.2.2.2.2.2.2) (by omega)).mono ?_;rintro e W2 ⟨q,m,c,rfl,hy,g1,hf⟩;exact hK _ _ g1 (Gr.trans hinv g1) (fun d hd=>by cases hd;exact ⟨_,_,_,rfl,hy⟩)
  refine .cons (fun A W hfr hinv hdep K hK=>?_) ?_
  · have t2:=tAt (.pointer (some ⟨w.heap.size,0,none⟩)) (hfr.at 2 (by kernel_rfl));refine fW0 rfl ?_;clear hfr hdep;go_simp;exact hK _ _ (Gr.refl _) hinv (dsT (by trivial))
  refine .cons (fun A W hfr hinv hdep K hK=>?_) ?_
  · have t12:=tAt (.pointer (some ⟨w.heap.size,1,none⟩)) (hdep 12 (by kernel_rfl));refine fW0 rfl ?_;clear hfr hdep;obtain ⟨c0,c1,c2,c3,c4,c5,c6,c7⟩:=(HB.out.below hinv HB.out.lt).c8;go_simp;exact hK _ _ (Gr.refl _) hinv (dsT (by trivial))
  refine .cons (fun A W hfr hinv hdep K hK=>?_) ?_
  · have t13:=tAt (.int .u64 t) (hdep 13 (by kernel_rfl));refine fW0 rfl ?_;clear hfr hdep;go_simp;refine (refN_any t 8 W (by first | exact HF.out.1 | exact HF.out.2.1 | exact HF.out.2.2.1 | exact HF.out.2.2.2.1 | exact HF.out.2.2.2.2.1 | exact HF.out.2.2.2.2.2.1 | exact HF.out.2.2.2.2.2.2) (by omega)).mono ?_;rintro e W2 ⟨q,m,c,rfl,hy,g1,hf⟩;exact hK _ _ g1 (Gr.trans hinv g1) (fun d hd=>by cases hd;exact ⟨_,_,_,rfl,hy⟩)
  refine .cons (fun A W hfr hinv hdep K hK=>?_) ?_
  · have t2:=tAt (.pointer (some ⟨w.heap.size,0,none⟩)) (hfr.at 2 (by kernel_rfl));refine fW0 rfl ?_;clear hfr hdep;go_simp;exact hK _ _ (Gr.refl _) hinv (dsT (by trivial))
  refine .cons (fun A W hfr hinv hdep K hK=>?_) ?_
  · have t15:=tAt (.pointer (some ⟨w.heap.size,2,none⟩)) (hdep 15 (by kernel_rfl));refine fW0 rfl ?_;clear hfr hdep;obtain ⟨c0,c1,c2,c3,c4,c5,c6,c7⟩:=(HB.out.below hinv HB.out.lt).c8;go_simp;exact hK _ _ (Gr.refl _) hinv (dsT (by trivial))
  refine .cons (fun A W hfr hinv hdep K hK=>?_) ?_
  · have t16:=tAt (.int .u64 p) (hdep 16 (by kernel_rfl));refine fW0 rfl ?_;clear hfr hdep;go_simp;refine (refN_any p 8 W (by first | exact HF.out.1 | exact HF.out.2.1 | exact HF.out.2.2.1 | exact HF.out.2.2.2.1 | exact HF.out.2.2.2.2.1 | exact HF.out.2.2.2.2.2.1 | exact HF.out.2.2.2.2.2.2) (by omega)).mono ?_;rintro e W2 ⟨q,m,c,rfl,hy,g1,hf⟩;exact hK _ _ g1 (Gr.trans hinv g1) (fun d hd=>by cases hd;exact ⟨_,_,_,rfl,hy⟩)
  refine .cons (fun A W hfr hinv hdep K hK=>?_) ?_
  · have t2:=tAt (.pointer (some ⟨w.heap.size,0,none⟩)) (hfr.at 2 (by kernel_rfl));refine fW0 rfl ?_;clear hfr hdep;go_simp;exact hK _ _ (Gr.refl _) hinv (dsT (by trivial))
  refine .cons (fun A W hfr hinv hdep K hK=>?_) ?_
  · have t18:=tAt (.pointer (some ⟨w.heap.size,3,none⟩)) (hdep 18 (by kernel_rfl));refine fW0 rfl ?_;clear hfr hdep;obtain ⟨c0,c1,c2,c3,c4,c5,c6,c7⟩:=(HB.out.below hinv HB.out.lt).c8;go_simp;exact hK _ _ (Gr.refl _) hinv (dsT (by trivial))
  refine .cons (fun A W hfr hinv hdep K hK=>?_) ?_
  · have t19:=tAt (.int .u64 x) (hdep 19 (by kernel_rfl));refine fW0 rfl ?_;clear hfr hdep;go_simp;refine (refN_any x 8 W (by first | exact HF.out.1 | exact HF.out.2.1 | exact HF.out.2.2.1 | exact HF.out.2.2.2.1 | exact HF.out.2.2.2.2.1 | exact HF.out.2.2.2.2.2.1 | exact HF.out.2.2.2.2.2.2) (by omega)).mono ?_;rintro e W2 ⟨q,m,c,rfl,hy,g1,hf⟩;exact hK _ _ g1 (Gr.trans hinv g1) (fun d hd=>by cases hd;exact ⟨_,_,_,rfl,hy⟩)
  refine .cons (fun A W hfr hinv hdep K hK=>?_) ?_
  · have t2:=tAt (.pointer (some ⟨w.heap.size,0,none⟩)) (hfr.at 2 (by kernel_rfl));refine fW0 rfl ?_;clear hfr hdep;go_simp;exact hK _ _ (Gr.refl _) hinv (dsT (by trivial))
  refine .cons (fun A W hfr hinv hdep K hK=>?_) ?_
  · have t21:=tAt (.pointer (some ⟨w.heap.size,4,none⟩)) (hdep 21 (by kernel_rfl));refine fW0 rfl ?_;clear hfr hdep;obtain ⟨c0,c1,c2,c3,c4,c5,c6,c7⟩:=(HB.out.below hinv HB.out.lt).c8;go_simp;exact hK _ _ (Gr.refl _) hinv (dsT (by trivial))
  refine .cons (fun A W hfr hinv hdep K hK=>?_) ?_
  · have t22:=tAt (.int .i64 gg) (hdep 22 (by kernel_rfl));refine fW0 rfl ?_;clear hfr hdep;have hw:=HW.out;obtain ⟨w1,w2,w3,w4⟩:=hw;go_simp;exact hK _ _ (Gr.refl _) hinv (dsT (by trivial))
  refine .cons (fun A W hfr hinv hdep K hK=>?_) ?_
  · have t23:=tAt (.int .u64 (gg:Nat)) (hdep 23 (by kernel_rfl));refine fW0 rfl ?_;clear hfr hdep;go_simp;refine (refN_any gg 2 W (by first | exact HF.out.1 | exact HF.out.2.1 | exact HF.out.2.2.1 | exact HF.out.2.2.2.1 | exact HF.out.2.2.2.2.1 | exact HF.out.2.2.2.2.2.1 | exact HF.out.2.2.2.2.2.2) (by omega)).mono ?_;rintro e W2 ⟨q,m,c,rfl,hy,g1,hf⟩;exact hK _ _ g1 (Gr.trans hinv g1) (fun d hd=>by cases hd;exact ⟨_,_,_,rfl,hy⟩)
  refine .cons (fun A W hfr hinv hdep K hK=>?_) ?_
  · have t2:=tAt (.pointer (some ⟨w.heap.size,0,none⟩)) (hfr.at 2 (by kernel_rfl));refine fW0 rfl ?_;clear hfr hdep;go_simp;exact hK _ _ (Gr.refl _) hinv (dsT (by trivial))
  refine .cons (fun A W hfr hinv hdep K hK=>?_) ?_
  · have t25:=tAt (.pointer (some ⟨w.heap.size,5,none⟩)) (hdep 25 (by kernel_rfl));refine fW0 rfl ?_;clear hfr hdep;obtain ⟨c0,c1,c2,c3,c4,c5,c6,c7⟩:=(HB.out.below hinv HB.out.lt).c8;go_simp;exact hK _ _ (Gr.refl _) hinv (dsT (by trivial))
  refine .cons (fun A W hfr hinv hdep K hK=>?_) ?_
  · have t26:=tAt (.int .i64 oo) (hdep 26 (by kernel_rfl));refine fW0 rfl ?_;clear hfr hdep;have hw:=HW.out;obtain ⟨w1,w2,w3,w4⟩:=hw;go_simp;exact hK _ _ (Gr.refl _) hinv (dsT (by trivial))
  refine .cons (fun A W hfr hinv hdep K hK=>?_) ?_
  · have t27:=tAt (.int .u64 (oo:Nat)) (hdep 27 (by kernel_rfl));refine fW0 rfl ?_;clear hfr hdep;go_simp;refine (refN_any oo 1 W (by first | exact HF.out.1 | exact HF.out.2.1 | exact HF.out.2.2.1 | exact HF.out.2.2.2.1 | exact HF.out.2.2.2.2.1 | exact HF.out.2.2.2.2.2.1 | exact HF.out.2.2.2.2.2.2) (by omega)).mono ?_;rintro e W2 ⟨q,m,c,rfl,hy,g1,hf⟩;exact hK _ _ g1 (Gr.trans hinv g1) (fun d hd=>by cases hd;exact ⟨_,_,_,rfl,hy⟩)
  refine .cons (fun A W hfr hinv hdep K hK=>?_) ?_
  · have t2:=tAt (.pointer (some ⟨w.heap.size,0,none⟩)) (hfr.at 2 (by kernel_rfl));refine fW0 rfl ?_;clear hfr hdep;go_simp;exact hK _ _ (Gr.refl _) hinv (dsT (by trivial))
  refine .cons (fun A W hfr hinv hdep K hK=>?_) ?_
  · have t29:=tAt (.pointer (some ⟨w.heap.size,7,none⟩)) (hdep 29 (by kernel_rfl));refine fW0 rfl ?_;clear hfr hdep;obtain ⟨c0,c1,c2,c3,c4,c5,c6,c7⟩:=(HB.out.below hinv HB.out.lt).c8;go_simp;exact hK _ _ (Gr.refl _) hinv (dsT (by trivial))
  refine .cons (fun A W hfr hinv hdep K hK=>?_) ?_
  · have t30:=tAt (.slice pa a.length ca) (hdep 30 (by kernel_rfl));refine fW0 rfl ?_;clear hfr hdep;go_simp;exact hK _ _ (Gr.refl _) hinv (dsT (by trivial))
  refine .cons (fun A W hfr hinv hdep K hK=>?_) ?_
  · have t31:=tAt (.int .i64 a.length) (hdep 31 (by kernel_rfl));refine fW0 rfl ?_;clear hfr hdep;have hw:=HW.out;obtain ⟨w1,w2,w3,w4⟩:=hw;go_simp;exact hK _ _ (Gr.refl _) hinv (dsT (by trivial))
  refine .cons (fun A W hfr hinv hdep K hK=>?_) ?_
  · have t32:=tAt (.int .u64 (a.length:Nat)) (hdep 32 (by kernel_rfl));refine fW0 rfl ?_;clear hfr hdep;go_simp;refine (refN_any a.length 1 W (by first | exact HF.out.1 | exact HF.out.2.1 | exact HF.out.2.2.1 | exact HF.out.2.2.2.1 | exact HF.out.2.2.2.2.1 | exact HF.out.2.2.2.2.2.1 | exact HF.out.2.2.2.2.2.2) (by omega)).mono ?_;rintro e W2 ⟨q,m,c,rfl,hy,g1,hf⟩;exact hK _ _ g1 (Gr.trans hinv g1) (fun d hd=>by cases hd;exact ⟨_,_,_,rfl,hy⟩)
  refine .cons (fun A W hfr hinv hdep K hK=>?_) ?_
  · have t2:=tAt (.pointer (some ⟨w.heap.size,0,none⟩)) (hfr.at 2 (by kernel_rfl));refine fW0 rfl ?_;clear hfr hdep;go_simp;exact hK _ _ (Gr.refl _) hinv (dsT (by trivial))
  refine .cons (fun A W hfr hinv hdep K hK=>?_) ?_
  · have t34:=tAt (.pointer (some ⟨w.heap.size,6,none⟩)) (hdep 34 (by kernel_rfl));refine fW0 rfl ?_;clear hfr hdep;obtain ⟨c0,c1,c2,c3,c4,c5,c6,c7⟩:=(HB.out.below hinv HB.out.lt).c8;go_simp;exact hK _ _ (Gr.refl _) hinv (fun d hd=>by cases hd;exact ⟨_,_,_,rfl,HY.out.kept hinv⟩)
  refine .cons (fun A W hfr hinv hdep K hK=>?_) ?_
  · have t2:=tAt (.pointer (some ⟨w.heap.size,0,none⟩)) (hfr.at 2 (by kernel_rfl));refine fW0 rfl ?_;clear hfr hdep;go_simp;exact hK _ _ (Gr.refl _) hinv (dsT (by trivial))
  refine .cons (fun A W hfr hinv hdep K hK=>?_) ?_
  · have t36:=tAt (.pointer (some ⟨w.heap.size,7,none⟩)) (hdep 36 (by kernel_rfl));refine fW0 rfl ?_;clear hfr hdep;obtain ⟨c0,c1,c2,c3,c4,c5,c6,c7⟩:=(HB.out.below hinv HB.out.lt).c8;go_simp;exact hK _ _ (Gr.refl _) hinv (fun d hd=>by cases hd;exact ⟨_,_,_,rfl,HX.out.kept hinv⟩)
  refine .cons (fun A W hfr hinv hdep K hK=>?_) ?_
  · have s11:IsB W (A.tmps.getD 11 undef) (Wd.enc 1 kk):=hdep 11 (by kernel_rfl);have s14:IsB W (A.tmps.getD 14 undef) (Wd.enc 8 t):=hdep 14 (by kernel_rfl);have s17:IsB W (A.tmps.getD 17 undef) (Wd.enc 8 p):=hdep 17 (by kernel_rfl);have s20:IsB W (A.tmps.getD 20 undef) (Wd.enc 8 x):=hdep 20 (by kernel_rfl);have s24:IsB W (A.tmps.getD 24 undef) (Wd.enc 2 gg):=hdep 24 (by kernel_rfl);have s28:IsB W (A.tmps.getD 28 undef) (Wd.enc 1 oo):=hdep 28 (by kernel_rfl);have s33:IsB W (A.tmps.getD 33 undef) (Wd.enc 1 a.length):=hdep 33 (by kernel_rfl);have s35:IsB W (A.tmps.getD 35 undef) b:=hdep 35 (by kernel_rfl);have s37:IsB W (A.tmps.getD 37 undef) a:=hdep 37 (by kernel_rfl);refine fW0 rfl ?_;clear hfr hdep;obtain ⟨p0,n0,c0,s11,h0⟩:=s11;have t11:=tmpAt s11;obtain ⟨p1,n1,c1,s14,h1⟩:=s14;have t14:=tmpAt s14;obtain ⟨p2,n2,c2,s17,h2⟩:=s17;have t17:=tmpAt s17;obtain ⟨p3,n3,c3,s20,h3⟩:=s20;have t20:=tmpAt s20;obtain ⟨p4,n4,c4,s24,h4⟩:=s24;have t24:=tmpAt s24;obtain ⟨p5,n5,c5,s28,h5⟩:=s28;have t28:=tmpAt s28;obtain ⟨p6,n6,c6,s33,h6⟩:=s33;have t33:=tmpAt s33;obtain ⟨p7,n7,c7,s35,h7⟩:=s35;have t35:=tmpAt s35;obtain ⟨p8,n8,c8,s37,h8⟩:=s37;have t37:=tmpAt s37;go_simp;exact hK _ _ ((Gr.refl W).alloc (Nat.le_refl _) _) (hinv.alloc hinv.size _) (fun d hd=>by cases hd;exact ⟨_,_,_,rfl,Rows.nine h0 h1 h2 h3 h4 h5 h6 h7 h8 rfl⟩)
  refine .cons (fun A W hfr hinv hdep K hK=>?_) ?_
  · have s38:IsRows W (A.tmps.getD 38 undef) (nine kk t p x gg oo b a):=hdep 38 (by kernel_rfl);refine fW0 rfl ?_;clear hfr hdep;obtain ⟨pr,nr,cr,s38,hr⟩:=s38;have t38:=tmpAt s38;go_simp;refine (refJoin_any _ _ _ _ W hr HT.out).mono ?_;rintro e W2 ⟨q,m,c,rfl,hy,g1,hf⟩;exact hK _ _ g1 (Gr.trans hinv g1) (fun d hd=>by cases hd;exact ⟨_,_,_,rfl,hy,fun y hy2=>Nat.le_trans (Nat.le_of_lt (Nat.lt_of_lt_of_le HB.out.lt hinv.size)) (hf y hy2)⟩)
  refine .cons (fun A W hfr hinv hdep K hK=>?_) ?_
  · have s39:OwnX w.heap.size W (A.tmps.getD 39 undef) (nine kk t p x gg oo b a).flatten:=hdep 39 (by kernel_rfl);refine fW0 rfl ?_;clear hfr hdep;obtain ⟨pr,nr,cr,s39,hr⟩:=s39;have t39:=tmpAt s39;go_simp;exact hK _ _ (Gr.refl _) hinv (fun d hd=>by cases hd;exact ⟨_,_,_,rfl,hr⟩)
  exact True.intro
 case fin=>
  intro A W hfr hfin hsl
  obtain ⟨pr,nr,cr,s5,hr,hf⟩:OwnX w.heap.size W (A.tmps.getD 5 undef) (nine kk t p x gg oo b a).flatten:=hsl 32 _ 5 rfl rfl;have t5:=tmpAt s5;have e:=Flow.frame hfr [8,9,10,11,12,13,14,15,16,17,18,19,20,21,22,23,24,25,26,27,28,29,30,31,32,33,34,35,36,37,38,39,5] (List.range 58) (by kernel_rfl) (by kernel_rfl)
  simp [List.range,List.range.loop] at e
  rw [t5] at e
  rw [e];have HG:=Lib.hid (grow1 hfin);have HR:=Lib.hid hr;have HO:=Lib.hid hf;clear e hfr hsl hfin s5 t5 hr hf
  first
  | (rename_i hB;refine hB _ _ ?_)
  | (rename_i hB y0;refine hB _ _ ?_)
  | (rename_i hB y0 y1;refine hB _ _ ?_)
  | (rename_i hB y0 y1 y2;refine hB _ _ ?_)
  | (rename_i hB y0 y1 y2 y3;refine hB _ _ ?_)
  | (rename_i hB y0 y1 y2 y3 y4;refine hB _ _ ?_)
  | (rename_i hB y0 y1 y2 y3 y4 y5;refine hB _ _ ?_)
  | (rename_i hB y0 y1 y2 y3 y4 y5 y6;refine hB _ _ ?_)
  | (rename_i hB y0 y1 y2 y3 y4 y5 y6 y7;refine hB _ _ ?_)
  | (rename_i hB y0 y1 y2 y3 y4 y5 y6 y7 y8;refine hB _ _ ?_)
  obtain ⟨B0,hB0⟩:∃ B0,B0=(nine kk t p x gg oo b a).flatten:=⟨_,rfl⟩
  rw [← hB0] at HR
  have hl:=HR.out.len
  have hl2:B0.length=29+b.length+a.length:=by rw [hB0,nine_rec,bodyL_len]
  have hn:nr=29+b.length+a.length:=by omega
  have hn1:nr≤600:=by omega
  have HN:=Lib.hid hn;have HB0:=Lib.hid hB0;have HAT:=Lib.hid hat;have HLB:=Lib.hid hl2;clear hl hl2 hn hB0 hat HB HX HY HW HT HF hb ha HG0;go_wp2_with fail;refine (refN_any nr 2 _ (by omega) (by omega)).mono ?_;rintro e w1 ⟨q1,m1,d1,rfl,hy1,g1,_⟩;have HR1:=Lib.hid (HR.out.kept g1);have HG1:=Lib.hid (Gr.trans HG.out g1);have HY1:=Lib.hid hy1;clear hy1 g1 HR HG;go_wp2_with fail;refine (refN_any at' 8 _ HAT.out (by omega)).mono ?_;rintro e w2 ⟨q2,m2,d2,rfl,hy2,g2,_⟩;have HR2:=Lib.hid (HR1.out.kept g2);have HY2:=Lib.hid (HY1.out.kept g2);have HG2:=Lib.hid (Gr.trans HG1.out g2);have HRows:=Lib.hid (Rows.three (t:=31) hy2 HY2.out HR2.out rfl);clear hy2 g2 HR1 HY1 HG1;go_wp2_with fail;refine (refJoin_any _ _ _ _ _ HRows.out (by have:=HLB.out;unfold tot;simp only [List.flatten_cons,List.flatten_nil,List.length_append,Wd.enc_length,List.length_nil];omega)).mono ?_;rintro e w3 ⟨q3,m3,d3,rfl,hy3,g3,_⟩;have HR3:=Lib.hid (HR2.out.kept (grow1 g3));have HY3:=Lib.hid (HY2.out.kept (grow1 g3));have HG3:=Lib.hid (Gr.trans HG2.out (grow1 g3));have HJ3:=Lib.hid hy3;clear hy3 g3 HRows HR2 HY2 HG2;go_wp2_with fail;refine (refSum_any _ _ _ _ _ HJ3.out).mono ?_;rintro e w4 ⟨rfl,rfl⟩;obtain ⟨S,hS⟩:∃ S,S=sumW [Wd.enc 8 at',Wd.enc 2 nr,B0].flatten:=⟨_,rfl⟩;rw [← hS];have hU:U S=((S.toNat:Nat):Int):=rfl;obtain ⟨m,hm⟩:∃ m,m=S.toNat:=⟨_,rfl⟩
  have hm1:m≤4294967295:=by have:=S.isLt;omega
  rw [hU,← hm];have HS:=Lib.hid hS;have HM:=Lib.hid hm;clear hS hm hU HJ3;go_wp2_with fail;refine (refN_any m 4 _ (by omega) (by omega)).mono ?_;rintro e w5 ⟨q5,m5,d5,rfl,hy5,g5,_⟩;have HR5:=Lib.hid (HR3.out.kept g5);have HY5:=Lib.hid (HY3.out.kept g5);have HG5:=Lib.hid (Gr.trans HG3.out g5);have HRows:=Lib.hid (Rows.three (t:=31) HY5.out hy5 HR5.out rfl);clear hy5 g5 HR3 HY3 HG3;go_wp2_with fail;refine (refJoin_any _ _ _ _ _ HRows.out (by have:=HLB.out;unfold tot;simp only [List.flatten_cons,List.flatten_nil,List.length_append,Wd.enc_length,List.length_nil];omega)).mono ?_;rintro e w6 ⟨q6,m6,d6,rfl,hy6,g6,hf6⟩;have HG6:=Lib.hid (Gr.trans HG5.out (grow1 g6));have HJ6:=Lib.hid hy6;have HF6:=Lib.hid hf6;clear hy6 g6 hf6 HRows;go_wp2_with fail
  go_ret
  have hrec:[Wd.enc 2 nr,Wd.enc 4 m,B0].flatten=recL ⟨kk,t,p,x,gg,oo,b,a⟩ at':=by
   have e1:S=sumL ⟨kk,t,p,x,gg,oo,b,a⟩ at':=by
    rw [HS.out,HB0.out,HN.out]
    unfold sumL sizeL
    rw [nine_rec]
    simp
   rw [HM.out,e1,HB0.out,HN.out,nine_rec]
   unfold recL sizeL
   simp
  exact ⟨_,_,_,rfl,hrec ▸ HJ6.out,HG6.out,fun y hy=>Nat.le_trans (by have:=HG5.out.size;simp;omega) (HF6.out y hy)⟩
end Go.Proofs.YtlijbgapkmfnaaaGreat
namespace Go.Proofs.YtlijbgapkmfnaaaGreat
open Go.RowKit Go.Maps Cr
def manyX (xs:List Int):Nat:=atR xs 16 4
def sumX (xs:List Int):Nat:=atR xs 20 4
def numX (xs:List Int):Nat:=atR xs 0 8
def epX (xs:List Int):Nat:=atR xs 8 8
def trueX (xs:List Int):Nat:=(sumW (xs.take 20++xs.drop 24)).toNat
def okX (xs:List Int):Bool:=decide (manyX xs≤232) && decide (sumX xs=trueX xs)
def bytX (xs:List Int):List Int:=(xs.drop 24).take (manyX xs)
theorem pieceAt_any {xs:List Int} (hx:IsSec xs) (F S:Int) (B:Nat) (w:World) (hb:Blk w B TS (sec (Sx xs))):Calls Tryz.prog 119 #[.int .i64 F,.int .i64 S,.pointer (some ⟨B,0,none⟩)] w fun e w'=>e=.returned (.int .u64 (atR xs F S))∧w=w':=by
 have HA:=Lib.hid (at_any (some ⟨B,0,none⟩) 256 256 xs F S w (hb.byt hx));clear hb
 go_enter Tryz.func119,Tryz.ntmps119
 go_wp2_with fail;refine HA.out.mono ?_;rintro e w1 ⟨rfl,rfl⟩;go_wp2_with fail
 go_ret
 exact ⟨rfl,rfl⟩
abbrev TPc:TypeId:=148
def RetPiece (xs:List Int) (w:World) (e:Ending) (w':World):Prop:=
 ∃ p,e=.returned (.tuple #[.agg #[.int .u64 (numX xs),.int .u64 (epX xs),.slice p (manyX xs) (manyX xs)],.bool true])∧Byt w' p (manyX xs) (manyX xs) (bytX xs)∧Gr w w'∧∀ a,p=some a→w.heap.size≤a.block
def RetNoPiece (w:World) (e:Ending) (w':World):Prop:=e=.returned (.tuple #[.agg #[.int .u64 0,.int .u64 0,.slice none 0 0],.bool false])∧Gr w w'
def RetSum (xs:List Int) (w:World) (e:Ending) (w':World):Prop:=if sumX xs=trueX xs then RetPiece xs w e w' else RetNoPiece w e w'
theorem results_pc {fn:Func} {p q:Tmp} (h:fn.results=#[.cell p TPc,.tmp q]) (tmps:Array Value) (w:World) (g:Nat) (cs:Array Value) (x:Value) (hs:cs.size=3)
  (hp:tmps.getD p undef=.pointer (some ⟨g,0,none⟩)) (hx:tmps.getD q undef=x) (hb:Blk w g TPc cs):(results fn tmps).run Tryz.prog w=.ok (.tuple #[.agg cs,x]) w:=by
 have hp':tmps[p]?.getD undef=.pointer (some ⟨g,0,none⟩):=by simpa using hp
 have hx':tmps[q]?.getD undef=x:=by simpa using hx
 have hz:(Tryz.prog.info? TPc).map (·.size)=some 3:=by kernel_rfl
 have hl:=run_loadVar_row (P:=Tryz.prog) w g TPc TPc cs (0,0) _ hb Tryz.underlying148 rfl (by rw [hs];exact hz)
 simp [results,h,hp',hx',asAddr,hl]
theorem size_pc:(Tryz.prog.info? TPc).map (·.size)=some 3:=by kernel_rfl
theorem one_pc (x y:Int) (p:Option Addr) (n c:Nat):(#[.int .u64 x,.int .u64 y,.slice p n c]:Array Value).all (·.oneCell')=true:=by simp [Value.oneCell']
theorem wpList_store_pc {ops:Array Oper} {rest:List Oper} {op:Oper} {a:Act} {w:World} {Q:Exit→Act→World→Prop} (hgd:op.guard=none) (x y:Operand) (ho:op.op=.store TPc x y)
  {g:Nat} {old cs:Array Value} (hb:Blk w g TPc old) (hs:old.size=3) (hc:cs.size=3) (h1:cs.all (·.oneCell')=true) (hx:a.eval x=.pointer (some ⟨g,0,none⟩)) (hy:a.eval y=.agg cs)
  (h:wpList Tryz.prog ops Q rest (a.put op.dst undef) (w.setRow g cs)):wpList Tryz.prog ops Q (op :: rest) a w:=
 wpList_store_row hgd TPc x y ho g cs hx hy TPc old hb (by rw [hc];exact size_pc) (by rw [hs,hc]) h1 h
theorem wp_store_pc {op:Oper} {a:Act} {w:World} {K:Act→World→Prop} {Q:Exit→Act→World→Prop} (x y:Operand) (ho:op.op=.store TPc x y)
  {g:Nat} {old cs:Array Value} (hb:Blk w g TPc old) (hs:old.size=3) (hc:cs.size=3) (h1:cs.all (·.oneCell')=true) (hx:a.eval x=.pointer (some ⟨g,0,none⟩)) (hy:a.eval y=.agg cs)
  (h:K (a.put op.dst undef) (w.setRow g cs)):op.wp Tryz.prog a w K Q:=
 wp_store_row TPc x y ho g cs hx hy TPc old hb (by rw [hc];exact size_pc) (by rw [hs,hc]) h1 h
structure InP (w:World) (xs:List Int) (N1 N2 O M:Nat) (l:Nat→Bool) (W:World):Prop where
 gr:Gr w W
 s:Blk W w.heap.size TS (sec (Sx xs))
 p:Blk W (w.heap.size+1) TPc (cond (l 8) #[.int .u64 (N1:Int),.int .u64 (N2:Int),.slice (some ⟨w.heap.size,O,none⟩) M M] #[.int .u64 0,.int .u64 0,.slice none 0 0])
theorem InP.other {w W:World} {xs:List Int} {N1 N2 O M:Nat} {l:Nat→Bool} (h:InP w xs N1 N2 O M l W) (i:Nat) (hi:8≠i):InP w xs N1 N2 O M (Flow.upd l i) W:=
 ⟨h.gr,h.s,by rw [Flow.upd_other l hi];exact h.p⟩
theorem InP.put {w W:World} {xs:List Int} {N1 N2 O M:Nat} {l:Nat→Bool} (h:InP w xs N1 N2 O M l W):InP w xs N1 N2 O M (Flow.upd l 8) (W.setRow (w.heap.size+1) #[.int .u64 (N1:Int),.int .u64 (N2:Int),.slice (some ⟨w.heap.size,O,none⟩) M M]):=
 ⟨below_setRow h.gr (by omega) _,h.s.other (by omega),by rw [Flow.upd_same];exact h.p.row _⟩
theorem run_cut24 (g E:Nat) (h:24≤E) (h2:E≤256) (w:World):(Instr.sliceAt TS (.pointer (some ⟨g,0,none⟩)) (some (.int .i64 24)) (some (.int .i64 (E:Int))) (some (.int .i64 (E:Int)))).run Tryz.prog w=.ok (.slice (some ⟨g,if E=24 then 0 else 24,none⟩) (E - 24) (E - 24)) w:=by
 have hl:Tryz.prog.arrayLen TS=256:=by kernel_rfl
 have he:Tryz.prog.elem TS=5:=by kernel_rfl
 have hu:Tryz.prog.underlying TS=some (.array (Tryz.prog.arrayLen TS) (Tryz.prog.elem TS)):=by rw [hl,he];exact under_sec
 rw [run_sliceAt_array_lhm w TS ⟨g,0,none⟩ hu .i64 .i64 .i64 24 (E:Int) (E:Int) (by omega) (by omega) (by omega) (by rw [hl];omega),he,size_u8]
 by_cases hE:E=24
 · simp [slicedAt,Result.andThen,hE]
 · simp [slicedAt,Result.andThen,hE,Addr.add]
def SlPa (M:Nat) (slot:Nat) (v:Value) (_:World):Prop:=
 match slot with
 | 10=>v=.int .u64 (M:Int)
 | 11=>v=.bool true
 | 12=>v=.bool true
 | 21=>v=.bool true
 | _=>True
theorem slPa_gr {M:Nat} {s:Nat} {v:Value} {w w':World} (h:SlPa M s v w) (_:Gr w w'):SlPa M s v w':=h
def SlPb (b:Nat) (xs:List Int) (M:Nat) (S:Nat) (T:W) (NB:Bool) (slot:Nat) (v:Value) (w:World):Prop:=
 match slot with
 | 10=>v=.int .u64 (M:Int)
 | 11=>v=.bool false
 | 12=>v=.bool false
 | 13=>v=.func (.func 119) #[] #[.pointer (some ⟨b,0,none⟩)]
 | 14=>v=.int .u64 (S:Int)
 | 15=>v=.slice (some ⟨b,0,none⟩) 20 256
 | 16=>v=.slice (some ⟨b,24,none⟩) 232 232
 | 18=>v=.int .u32 (U T)
 | 19=>v=.int .u64 (T.toNat:Int)
 | 20=>v=.bool NB
 | 21=>v=.bool NB
 | 17=>IsRows w v [xs.take 20,xs.drop 24]
 | _=>True
theorem slPb_gr {b:Nat} {xs:List Int} {M:Nat} {S:Nat} {T:W} {NB:Bool} {s:Nat} {v:Value} {w w':World} (h:SlPb b xs M S T NB s v w) (g:Gr w w'):SlPb b xs M S T NB s v w':=by
 unfold SlPb at *
 split <;> simp only at h
 all_goals first
  | exact h
  | exact IsB.kept h g
  | exact IsRows.kept h g
def SlPc (b:Nat) (E:Nat) (O:Nat) (M:Nat) (N1:Nat) (N2:Nat) (slot:Nat) (v:Value) (_:World):Prop:=
 match slot with
 | 26=>v=.func (.func 119) #[] #[.pointer (some ⟨b,0,none⟩)]
 | 27=>v=.int .u64 (N1:Int)
 | 28=>v=.func (.func 119) #[] #[.pointer (some ⟨b,0,none⟩)]
 | 29=>v=.int .u64 (N2:Int)
 | 30=>v=.int .i64 (E:Int)
 | 31=>v=.int .i64 (E:Int)
 | 32=>v=.slice (some ⟨b,O,none⟩) M M
 | 33=>v=.agg #[.int .u64 (N1:Int),.int .u64 (N2:Int),.slice (some ⟨b,O,none⟩) M M]
 | 3=>v=.bool true
 | _=>True
set_option maxRecDepth 100000 in
set_option maxHeartbeats 1000000 in
theorem pieceOf_much {xs:List Int} (hx:IsSec xs) (w:World) (h:232 < manyX xs):Calls Tryz.prog 102 #[.agg (sec (Sx xs))] w (RetNoPiece w):=by
 obtain ⟨W1,hW1⟩:∃ W1,W1=(w.alloc (.cells (sec (Sx xs)) TS)).alloc (.cells #[.int .u64 0,.int .u64 0,.slice none 0 0] TPc):=⟨_,rfl⟩;have hB1:=Blk.new w TS (sec (Sx xs));have hB2:=Blk.new (w.alloc (.cells (sec (Sx xs)) TS)) TPc #[.int .u64 0,.int .u64 0,.slice none 0 0]
 have HB:Hid (Blk W1 w.heap.size TS (sec (Sx xs))∧Blk W1 (w.heap.size+1) TPc #[.int .u64 0,.int .u64 0,.slice none 0 0]∧Gr w W1):=Lib.hid (by
  rw [hW1]
  simp only [World.size_alloc] at hB2
  exact ⟨hB1.gr (Gr.new _ _),hB2,Gr.trans (Gr.new _ _) (Gr.new _ _)⟩)
 have HM:=Lib.hid (pieceAt_any hx 16 4 w.heap.size W1 HB.out.1);obtain ⟨M,hM⟩:∃ M,M=manyX xs:=⟨_,rfl⟩;have hMM:atR xs 16 4=M:=hM.symm
 rw [hMM] at HM
 rw [← hM] at h
 have hW1':(w.alloc (.cells (sec (Sx xs)) 46)).alloc (.cells #[.int .u64 0,.int .u64 0,.slice none 0 0] 148)=W1:=hW1.symm;have HW1:=Lib.hid hW1';have HLT:Hid (decide (232 < (M:Int))=true):=Lib.hid (decide_eq_true (by omega));clear hW1 hW1' hM hMM hB1 hB2 h
 go_enter Tryz.func102,Tryz.ntmps102
 go_wp2_with fail;rw [HW1.out];refine HM.out.mono ?_;rintro e w1 ⟨rfl,rfl⟩;go_wp2_with fail;refine Flow.region (SlPa M) (Gr W1) Gr (by kernel_rfl) (by kernel_rfl) (fun _ _ _ _ h g=>slPa_gr h g) ⟨rfl,rfl,rfl,Nat.le_refl _,fun _ _=>rfl⟩ ?steps ?fin
 case steps=>
  refine .cons (fun a W hfr hinv hdep K hK=>?_) ?_
  · have t5:=tAt (.int .u64 (M:Int)) (hfr.at 5 (by kernel_rfl));refine fW0 rfl ?_;clear hfr hdep;go_simp;exact hK _ _ (Gr.refl _) hinv (dsT (by trivial))
  refine .cons (fun a W hfr hinv hdep K hK=>?_) ?_
  · have t10:=tAt (.int .u64 (M:Int)) (hdep 10 (by kernel_rfl));have hlt:=HLT.out;refine fW0 rfl ?_;clear hfr hdep;go_simp;exact hK _ _ (Gr.refl _) hinv (dsT (by trivial))
  refine .cons (fun a W hfr hinv hdep K hK=>?_) ?_
  · have t11:=tAt (.bool true) (hdep 11 (by kernel_rfl));refine fW0 rfl ?_;clear hfr hdep;go_simp;exact hK _ _ (Gr.refl _) hinv (dsT (by trivial))
  refine .cons (fun a W hfr hinv hdep K hK=>?_) ?_
  · have sg:a.tmps.getD 12 undef=.bool !false:=hdep 12 (by kernel_rfl);have t4:=tAt (.func (.func 119) #[] #[.pointer (some ⟨w.heap.size,0,none⟩)]) (hfr.at 4 (by kernel_rfl));rw [if_neg (Flow.wanted_no 2 false 12 rfl (by kernel_rfl) sg)];clear hfr hdep;exact hK _ _ (Gr.refl _) hinv (dsT (by trivial))
  refine .cons (fun a W hfr hinv hdep K hK=>?_) ?_
  · have sg:a.tmps.getD 12 undef=.bool !false:=hdep 12 (by kernel_rfl);rw [if_neg (Flow.wanted_no 2 false 12 rfl (by kernel_rfl) sg)];clear hfr hdep;exact hK _ _ (Gr.refl _) hinv (dsT (by trivial))
  refine .cons (fun a W hfr hinv hdep K hK=>?_) ?_
  · have sg:a.tmps.getD 12 undef=.bool !false:=hdep 12 (by kernel_rfl);have t1:=tAt (.pointer (some ⟨w.heap.size,0,none⟩)) (hfr.at 1 (by kernel_rfl));rw [if_neg (Flow.wanted_no 2 false 12 rfl (by kernel_rfl) sg)];clear hfr hdep;exact hK _ _ (Gr.refl _) hinv (dsT (by trivial))
  refine .cons (fun a W hfr hinv hdep K hK=>?_) ?_
  · have sg:a.tmps.getD 12 undef=.bool !false:=hdep 12 (by kernel_rfl);have t1:=tAt (.pointer (some ⟨w.heap.size,0,none⟩)) (hfr.at 1 (by kernel_rfl));rw [if_neg (Flow.wanted_no 2 false 12 rfl (by kernel_rfl) sg)];clear hfr hdep;exact hK _ _ (Gr.refl _) hinv (dsT (by trivial))
  refine .cons (fun a W hfr hinv hdep K hK=>?_) ?_
  · have sg:a.tmps.getD 12 undef=.bool !false:=hdep 12 (by kernel_rfl);rw [if_neg (Flow.wanted_no 2 false 12 rfl (by kernel_rfl) sg)];clear hfr hdep;exact hK _ _ (Gr.refl _) hinv (dsT (by trivial))
  refine .cons (fun a W hfr hinv hdep K hK=>?_) ?_
  · have sg:a.tmps.getD 12 undef=.bool !false:=hdep 12 (by kernel_rfl);rw [if_neg (Flow.wanted_no 2 false 12 rfl (by kernel_rfl) sg)];clear hfr hdep;exact hK _ _ (Gr.refl _) hinv (dsT (by trivial))
  refine .cons (fun a W hfr hinv hdep K hK=>?_) ?_
  · have sg:a.tmps.getD 12 undef=.bool !false:=hdep 12 (by kernel_rfl);rw [if_neg (Flow.wanted_no 2 false 12 rfl (by kernel_rfl) sg)];clear hfr hdep;exact hK _ _ (Gr.refl _) hinv (dsT (by trivial))
  refine .cons (fun a W hfr hinv hdep K hK=>?_) ?_
  · have sg:a.tmps.getD 12 undef=.bool !false:=hdep 12 (by kernel_rfl);rw [if_neg (Flow.wanted_no 2 false 12 rfl (by kernel_rfl) sg)];clear hfr hdep;exact hK _ _ (Gr.refl _) hinv (dsT (by trivial))
  refine .cons (fun a W hfr hinv hdep K hK=>?_) ?_
  · have t12:=tAt (.bool true) (hdep 12 (by kernel_rfl));refine fW0 rfl ?_;clear hfr hdep;go_simp;exact hK _ _ (Gr.refl _) hinv (dsT (by trivial))
  exact True.intro
 case fin=>
  intro a W hfr hfin hsl
  have s21:a.tmps.getD 21 undef=.bool true:=hsl 11 _ 21 rfl rfl;have t21:=tmpAt s21;have e:=Flow.frame hfr [10,11,12,13,14,15,16,17,18,19,20,21] (List.range 34) (by kernel_rfl) (by kernel_rfl)
  simp [List.range,List.range.loop] at e
  rw [t21] at e
  rw [e];clear e hfr hsl s21 t21
  first
   | (rename_i hB;refine hB _ _ ?_)
   | (rename_i hB y0;refine hB _ _ ?_)
   | (rename_i hB y0 y1;refine hB _ _ ?_)
   | (rename_i hB y0 y1 y2;refine hB _ _ ?_)
   | (rename_i hB y0 y1 y2 y3;refine hB _ _ ?_)
   | (rename_i hB y0 y1 y2 y3 y4;refine hB _ _ ?_)
   | (rename_i hB y0 y1 y2 y3 y4 y5;refine hB _ _ ?_)
   | (rename_i hB y0 y1 y2 y3 y4 y5 y6;refine hB _ _ ?_)
  have HB2:=Lib.hid (HB.out.2.1.gr hfin);have HG2:=Lib.hid (Gr.trans HB.out.2.2 hfin);clear hfin
  go_wp2_with (refine wpList_store_pc rfl (.tmp 2) (.tmp 22) rfl HB2.out rfl rfl (one_pc _ _ _ _ _) rfl rfl ?_)
  exact bodyPost_ret (results_pc rfl _ _ _ _ (.bool false) rfl rfl rfl (HB2.out.row _)) rfl ⟨rfl,below_setRow HG2.out (by omega) _⟩
set_option maxRecDepth 100000 in
set_option maxHeartbeats 1000000 in
theorem pieceOf_any {xs:List Int} (hx:IsSec xs) (w:World) (h:manyX xs≤232):Calls Tryz.prog 102 #[.agg (sec (Sx xs))] w (RetSum xs w):=by
 obtain ⟨W1,hW1⟩:∃ W1,W1=(w.alloc (.cells (sec (Sx xs)) TS)).alloc (.cells #[.int .u64 0,.int .u64 0,.slice none 0 0] TPc):=⟨_,rfl⟩;have hB1:=Blk.new w TS (sec (Sx xs));have hB2:=Blk.new (w.alloc (.cells (sec (Sx xs)) TS)) TPc #[.int .u64 0,.int .u64 0,.slice none 0 0]
 have HB:Hid (Blk W1 w.heap.size TS (sec (Sx xs))∧Blk W1 (w.heap.size+1) TPc #[.int .u64 0,.int .u64 0,.slice none 0 0]∧Gr w W1):=Lib.hid (by
  rw [hW1]
  simp only [World.size_alloc] at hB2
  exact ⟨hB1.gr (Gr.new _ _),hB2,Gr.trans (Gr.new _ _) (Gr.new _ _)⟩)
 have HM:=Lib.hid (pieceAt_any hx 16 4 w.heap.size W1 HB.out.1);obtain ⟨M,hM⟩:∃ M,M=manyX xs:=⟨_,rfl⟩;obtain ⟨S,hS⟩:∃ S,S=sumX xs:=⟨_,rfl⟩;obtain ⟨T,hT⟩:∃ T,T=sumW (xs.take 20++xs.drop 24):=⟨_,rfl⟩;obtain ⟨NB,hNB⟩:∃ NB,NB = !decide (S=T.toNat):=⟨_,rfl⟩;have hMM:atR xs 16 4=M:=hM.symm
 rw [hMM] at HM
 rw [← hM] at h
 have HS:Hid (∀ W,Gr W1 W→Calls Tryz.prog 119 #[.int .i64 20,.int .i64 4,.pointer (some ⟨w.heap.size,0,none⟩)] W fun e w'=>e=.returned (.int .u64 (S:Int))∧W=w'):=Lib.hid fun W gr=>by
  have h:=pieceAt_any hx 20 4 w.heap.size W (HB.out.1.gr gr)
  rwa [show atR xs 20 4=S from hS.symm] at h
 have HN1:Hid (∀ W,Gr W1 W→Calls Tryz.prog 119 #[.int .i64 0,.int .i64 8,.pointer (some ⟨w.heap.size,0,none⟩)] W fun e w'=>e=.returned (.int .u64 (numX xs:Int))∧W=w'):=Lib.hid fun W gr=>pieceAt_any hx 0 8 w.heap.size W (HB.out.1.gr gr)
 have HN2:Hid (∀ W,Gr W1 W→Calls Tryz.prog 119 #[.int .i64 8,.int .i64 8,.pointer (some ⟨w.heap.size,0,none⟩)] W fun e w'=>e=.returned (.int .u64 (epX xs:Int))∧W=w'):=Lib.hid fun W gr=>pieceAt_any hx 8 8 w.heap.size W (HB.out.1.gr gr)
 have HY:Hid (Byt W1 (some ⟨w.heap.size,0,none⟩) 20 256 (xs.take 20)∧Byt W1 (some ⟨w.heap.size,24,none⟩) 232 232 (xs.drop 24)):=Lib.hid ⟨(HB.out.1.byt hx).pre 20 256 (by omega) (by omega) (by omega),by
  have h:=(HB.out.1.byt hx).tail 24 (by omega) (some ⟨w.heap.size,24,none⟩) (fun _=>by rw [Nat.zero_add])
  simpa using h⟩
 have HSU:Hid (∀ pr nr cr W,Rows W pr nr cr [xs.take 20,xs.drop 24]→Calls Tryz.prog 115 #[.slice pr nr cr] W fun e w'=>e=.returned (.int .u32 (U T))∧Gr W w'):=Lib.hid fun pr nr cr W hr=>by
  have h:=sum_any pr nr cr _ W hr;rw [hT]
  simpa using h
 have HW:Hid (IntKind.u64.wrap (U T)=((T.toNat:Nat):Int)):=Lib.hid (by
  have:=T.isLt
  rw [IntKind.wrap_u64];unfold U;omega)
 have HNB:Hid (((S:Int) != ((T.toNat:Nat):Int))=NB):=Lib.hid (by
  rw [hNB]
  by_cases e:S=T.toNat
  · simp [e]
  ·
   have:¬ (S:Int)=((T.toNat:Nat):Int):=by omega
   simp [e,this])
 have hW1':(w.alloc (.cells (sec (Sx xs)) 46)).alloc (.cells #[.int .u64 0,.int .u64 0,.slice none 0 0] 148)=W1:=hW1.symm;have HW1:=Lib.hid hW1';have HLT:Hid (decide (232 < (M:Int))=false):=Lib.hid (decide_eq_false (by omega));have HE:Hid (sumX xs=trueX xs ↔ NB=false):=Lib.hid (by rw [hNB,← hS,show trueX xs=T.toNat by unfold trueX;rw [hT]];simp);have HMx:=Lib.hid hM;clear hW1 hW1' hM hMM hB1 hB2 hS hT hNB
 go_enter Tryz.func102,Tryz.ntmps102
 go_wp2_with fail;rw [HW1.out];refine HM.out.mono ?_;rintro e w1 ⟨rfl,rfl⟩;go_wp2_with fail;refine Flow.region (SlPb w.heap.size xs M S T NB) (Gr W1) Gr (by kernel_rfl) (by kernel_rfl) (fun _ _ _ _ h g=>slPb_gr h g) ⟨rfl,rfl,rfl,Nat.le_refl _,fun _ _=>rfl⟩ ?steps ?fin
 case steps=>
  refine .cons (fun a W hfr hinv hdep K hK=>?_) ?_
  · have t5:=tAt (.int .u64 (M:Int)) (hfr.at 5 (by kernel_rfl));refine fW0 rfl ?_;clear hfr hdep;go_simp;exact hK _ _ (Gr.refl _) hinv (dsT (by trivial))
  refine .cons (fun a W hfr hinv hdep K hK=>?_) ?_
  · have t10:=tAt (.int .u64 (M:Int)) (hdep 10 (by kernel_rfl));have hlt:=HLT.out;refine fW0 rfl ?_;clear hfr hdep;go_simp;exact hK _ _ (Gr.refl _) hinv (dsT (by trivial))
  refine .cons (fun a W hfr hinv hdep K hK=>?_) ?_
  · have t11:=tAt (.bool false) (hdep 11 (by kernel_rfl));refine fW0 rfl ?_;clear hfr hdep;go_simp;exact hK _ _ (Gr.refl _) hinv (dsT (by trivial))
  refine .cons (fun a W hfr hinv hdep K hK=>?_) ?_
  · have sg:a.tmps.getD 12 undef=.bool false:=hdep 12 (by kernel_rfl);have t4:=tAt (.func (.func 119) #[] #[.pointer (some ⟨w.heap.size,0,none⟩)]) (hfr.at 4 (by kernel_rfl));rw [if_pos (Flow.wanted_yes 2 false 12 rfl (by kernel_rfl) sg)];clear hfr hdep;go_simp;exact hK _ _ (Gr.refl _) hinv (dsT (by trivial))
  refine .cons (fun a W hfr hinv hdep K hK=>?_) ?_
  · have sg:a.tmps.getD 12 undef=.bool false:=hdep 12 (by kernel_rfl);have t13:=tAt (.func (.func 119) #[] #[.pointer (some ⟨w.heap.size,0,none⟩)]) (hdep 13 (by kernel_rfl));rw [if_pos (Flow.wanted_yes 2 false 12 rfl (by kernel_rfl) sg)];clear hfr hdep;go_simp;refine (HS.out W hinv).mono ?_;rintro e W' ⟨rfl,rfl⟩;exact hK _ _ (Gr.refl _) hinv (dsT (by trivial))
  refine .cons (fun a W hfr hinv hdep K hK=>?_) ?_
  · have sg:a.tmps.getD 12 undef=.bool false:=hdep 12 (by kernel_rfl);have t1:=tAt (.pointer (some ⟨w.heap.size,0,none⟩)) (hfr.at 1 (by kernel_rfl));rw [if_pos (Flow.wanted_yes 2 false 12 rfl (by kernel_rfl) sg)];clear hfr hdep;go_simp;exact hK _ _ (Gr.refl _) hinv (dsT (by trivial))
  refine .cons (fun a W hfr hinv hdep K hK=>?_) ?_
  · have sg:a.tmps.getD 12 undef=.bool false:=hdep 12 (by kernel_rfl);have t1:=tAt (.pointer (some ⟨w.heap.size,0,none⟩)) (hfr.at 1 (by kernel_rfl));rw [if_pos (Flow.wanted_yes 2 false 12 rfl (by kernel_rfl) sg)];clear hfr hdep;go_simp;exact hK _ _ (Gr.refl _) hinv (dsT (by trivial))
  refine .cons (fun a W hfr hinv hdep K hK=>?_) ?_
  · have sg:a.tmps.getD 12 undef=.bool false:=hdep 12 (by kernel_rfl);have t15:=tAt (.slice (some ⟨w.heap.size,0,none⟩) 20 256) (hdep 15 (by kernel_rfl));have t16:=tAt (.slice (some ⟨w.heap.size,24,none⟩) 232 232) (hdep 16 (by kernel_rfl));rw [if_pos (Flow.wanted_yes 2 false 12 rfl (by kernel_rfl) sg)];clear hfr hdep;have h0:=HY.out.1.kept hinv;have h1:=HY.out.2.kept hinv;go_simp;exact hK _ _ ((Gr.refl W).alloc (Nat.le_refl _) _) (hinv.alloc hinv.size _) (fun d hd=>by cases hd;exact ⟨_,_,_,rfl,Rows.two h0 h1 rfl⟩)
  refine .cons (fun a W hfr hinv hdep K hK=>?_) ?_
  · have sg:a.tmps.getD 12 undef=.bool false:=hdep 12 (by kernel_rfl);have s17:IsRows W (a.tmps.getD 17 undef) [xs.take 20,xs.drop 24]:=hdep 17 (by kernel_rfl);rw [if_pos (Flow.wanted_yes 2 false 12 rfl (by kernel_rfl) sg)];clear hfr hdep;obtain ⟨pr,nr,cr,s17,hr⟩:=s17;have t17:=tmpAt s17;go_simp;refine (HSU.out pr nr cr W hr).mono ?_;rintro e W' ⟨rfl,g1⟩;exact hK _ _ g1 (Gr.trans hinv g1) (dsT (by trivial))
  refine .cons (fun a W hfr hinv hdep K hK=>?_) ?_
  · have sg:a.tmps.getD 12 undef=.bool false:=hdep 12 (by kernel_rfl);have t18:=tAt (.int .u32 (U T)) (hdep 18 (by kernel_rfl));have hw:=HW.out;rw [if_pos (Flow.wanted_yes 2 false 12 rfl (by kernel_rfl) sg)];clear hfr hdep;go_simp;exact hK _ _ (Gr.refl _) hinv (dsT (by trivial))
  refine .cons (fun a W hfr hinv hdep K hK=>?_) ?_
  · have sg:a.tmps.getD 12 undef=.bool false:=hdep 12 (by kernel_rfl);have t14:=tAt (.int .u64 (S:Int)) (hdep 14 (by kernel_rfl));have t19:=tAt (.int .u64 (T.toNat:Int)) (hdep 19 (by kernel_rfl));have hq:=HNB.out;rw [if_pos (Flow.wanted_yes 2 false 12 rfl (by kernel_rfl) sg)];clear hfr hdep;go_simp;exact hK _ _ (Gr.refl _) hinv (dsT (by trivial))
  refine .cons (fun a W hfr hinv hdep K hK=>?_) ?_
  · have t12:=tAt (.bool false) (hdep 12 (by kernel_rfl));have t20:=tAt (.bool NB) (hdep 20 (by kernel_rfl));refine fW0 rfl ?_;clear hfr hdep;go_simp;exact hK _ _ (Gr.refl _) hinv (dsT (by trivial))
  exact True.intro
 case fin=>
  intro a W hfr hfin hsl
  have s21:a.tmps.getD 21 undef=.bool NB:=hsl 11 _ 21 rfl rfl;have t21:=tmpAt s21;have e:=Flow.frame hfr [10,11,12,13,14,15,16,17,18,19,20,21] (List.range 34) (by kernel_rfl) (by kernel_rfl)
  simp [List.range,List.range.loop] at e
  rw [t21] at e
  rw [e];clear e hfr hsl s21 t21
  first
   | (rename_i hB;refine hB _ _ ?_)
   | (rename_i hB y0;refine hB _ _ ?_)
   | (rename_i hB y0 y1;refine hB _ _ ?_)
   | (rename_i hB y0 y1 y2;refine hB _ _ ?_)
   | (rename_i hB y0 y1 y2 y3;refine hB _ _ ?_)
   | (rename_i hB y0 y1 y2 y3 y4;refine hB _ _ ?_)
   | (rename_i hB y0 y1 y2 y3 y4 y5;refine hB _ _ ?_)
   | (rename_i hB y0 y1 y2 y3 y4 y5 y6;refine hB _ _ ?_)
  have HB2:=Lib.hid (HB.out.2.1.gr hfin);have HG2:=Lib.hid (Gr.trans HB.out.2.2 hfin);have HN3:=Lib.hid (HN1.out W hfin);have HN4:=Lib.hid (HN2.out W hfin);have HB3:=Lib.hid (HB.out.1.gr hfin);clear hfin
  cases NB
  ·
   obtain ⟨N1,hN1⟩:∃ N1,N1=numX xs:=⟨_,rfl⟩;obtain ⟨N2,hN2⟩:∃ N2,N2=epX xs:=⟨_,rfl⟩;obtain ⟨E,hE⟩:∃ E,E=24+M:=⟨_,rfl⟩
   obtain ⟨O,hO⟩:∃ O,O=if E=24 then 0 else 24:=⟨_,rfl⟩
   have HNN:Hid (atR xs 0 8=N1∧atR xs 8 8=N2∧sumX xs=trueX xs):=Lib.hid ⟨hN1.symm,hN2.symm,HE.out.2 rfl⟩;have hw1:IntKind.i64.wrap (M:Int)=(M:Int):=IntWalk.i64_in _ (by omega)
   have hw2:IntKind.i64.wrap (24+(M:Int))=(E:Int):=by rw [IntWalk.i64_in _ (by omega)];omega
   have hw3:24+(M:Int)=(E:Int):=by omega
   have HRC:Hid (∀ W,(Instr.sliceAt TS (.pointer (some ⟨w.heap.size,0,none⟩)) (some (.int .i64 24)) (some (.int .i64 (E:Int))) (some (.int .i64 (E:Int)))).run Tryz.prog W=.ok (.slice (some ⟨w.heap.size,O,none⟩) M M) W):=Lib.hid fun W=>by
    have h:=run_cut24 w.heap.size E (by omega) (by omega) W
    rw [← hO,show E - 24=M by omega] at h
    exact h
   have HPA:Hid (∀ F S W,Blk W w.heap.size TS (sec (Sx xs))→Calls Tryz.prog 119 #[.int .i64 F,.int .i64 S,.pointer (some ⟨w.heap.size,0,none⟩)] W fun e w'=>e=.returned (.int .u64 (atR xs F S))∧W=w'):=Lib.hid fun F S W hb=>pieceAt_any hx F S w.heap.size W hb
   have HIN:Hid (InP w xs N1 N2 O M (fun j=>(Array.replicate 10 false).getD j true) W.drew):=Lib.hid ⟨HG2.out.drew,HB3.out.heap rfl,HB2.out.heap rfl⟩;have HMO:Hid (manyX xs=M∧(0 < M→O=24)∧M≤232):=Lib.hid ⟨HMx.out.symm,fun h0=>by rw [hO,if_neg (by omega)],h⟩;clear hN1 hN2 hE hO HN1 HN2 HS HNB HE HW HSU HLT HN3 HN4 HMx;go_wp2_with fail;refine Flow.regionS [3] 20 (SlPc w.heap.size E O M N1 N2) (InP w xs N1 N2 O M) (fun _ _ _=>True) (by kernel_rfl) (by kernel_rfl) (fun _ _ _ _ _ _ h _=>h) HIN.out ?steps ?fin
   case steps=>
    refine .cons (fun l a W hfr hun hup hdn hinv hdep K hK=>?_) ?_
    · have t4:=tAt (.func (.func 119) #[] #[.pointer (some ⟨w.heap.size,0,none⟩)]) (hfr.at 4 (by kernel_rfl));refine fW0 rfl ?_;clear hfr hdep hun hup hdn;go_simp;exact hK _ _ True.intro (hinv.other 0 (by decide)) (dsT (by trivial))
    refine .cons (fun l a W hfr hun hup hdn hinv hdep K hK=>?_) ?_
    · have t26:=tAt (.func (.func 119) #[] #[.pointer (some ⟨w.heap.size,0,none⟩)]) (hdep 26 (by kernel_rfl));refine fW0 rfl ?_;clear hfr hdep hun hup hdn;go_simp;refine (HPA.out 0 8 W hinv.s).mono ?_;rintro e W' ⟨rfl,rfl⟩;rw [HNN.out.1];exact hK _ _ True.intro (hinv.other 1 (by decide)) (dsT (by trivial))
    refine .cons (fun l a W hfr hun hup hdn hinv hdep K hK=>?_) ?_
    · have t4:=tAt (.func (.func 119) #[] #[.pointer (some ⟨w.heap.size,0,none⟩)]) (hfr.at 4 (by kernel_rfl));refine fW0 rfl ?_;clear hfr hdep hun hup hdn;go_simp;exact hK _ _ True.intro (hinv.other 2 (by decide)) (dsT (by trivial))
    refine .cons (fun l a W hfr hun hup hdn hinv hdep K hK=>?_) ?_
    · have t28:=tAt (.func (.func 119) #[] #[.pointer (some ⟨w.heap.size,0,none⟩)]) (hdep 28 (by kernel_rfl));refine fW0 rfl ?_;clear hfr hdep hun hup hdn;go_simp;refine (HPA.out 8 8 W hinv.s).mono ?_;rintro e W' ⟨rfl,rfl⟩;rw [HNN.out.2.1];exact hK _ _ True.intro (hinv.other 3 (by decide)) (dsT (by trivial))
    refine .cons (fun l a W hfr hun hup hdn hinv hdep K hK=>?_) ?_
    · have t6:=tAt (.int .i64 (E:Int)) (hfr.at 6 (by kernel_rfl));refine fW0 rfl ?_;clear hfr hdep hun hup hdn;go_simp;exact hK _ _ True.intro (hinv.other 4 (by decide)) (dsT (by trivial))
    refine .cons (fun l a W hfr hun hup hdn hinv hdep K hK=>?_) ?_
    · have t6:=tAt (.int .i64 (E:Int)) (hfr.at 6 (by kernel_rfl));refine fW0 rfl ?_;clear hfr hdep hun hup hdn;go_simp;exact hK _ _ True.intro (hinv.other 5 (by decide)) (dsT (by trivial))
    refine .cons (fun l a W hfr hun hup hdn hinv hdep K hK=>?_) ?_
    · have t1:=tAt (.pointer (some ⟨w.heap.size,0,none⟩)) (hfr.at 1 (by kernel_rfl));have t30:=tAt (.int .i64 (E:Int)) (hdep 30 (by kernel_rfl));have t31:=tAt (.int .i64 (E:Int)) (hdep 31 (by kernel_rfl));refine fW0 rfl ?_;clear hfr hdep hun hup hdn;have hrc:=HRC.out W;go_simp;exact hK _ _ True.intro (hinv.other 6 (by decide)) (dsT (by trivial))
    refine .cons (fun l a W hfr hun hup hdn hinv hdep K hK=>?_) ?_
    · have t27:=tAt (.int .u64 (N1:Int)) (hdep 27 (by kernel_rfl));have t29:=tAt (.int .u64 (N2:Int)) (hdep 29 (by kernel_rfl));have t32:=tAt (.slice (some ⟨w.heap.size,O,none⟩) M M) (hdep 32 (by kernel_rfl));refine fW0 rfl ?_;clear hfr hdep hun hup hdn;go_simp;exact hK _ _ True.intro (hinv.other 7 (by decide)) (dsT (by trivial))
    refine .cons (fun l a W hfr hun hup hdn hinv hdep K hK=>?_) ?_
    ·
     have s2:a.tmps.getD 2 undef=.pointer (some ⟨w.heap.size+1,0,none⟩):=hfr.at 2 (by kernel_rfl)
     have t2:=tmpAt s2;have s33:a.tmps.getD 33 undef=.agg #[.int .u64 (N1:Int),.int .u64 (N2:Int),.slice (some ⟨w.heap.size,O,none⟩) M M]:=hdep 33 (by kernel_rfl);have t33:=tmpAt s33;refine fW0 rfl ?_;clear hfr hdep hun hup hdn;refine wp_store_pc (.tmp 2) (.tmp 33) rfl hinv.p (by cases l 8 <;> rfl) rfl (one_pc _ _ _ _ _) (by simpa [Act.eval] using s2) (by simpa [Act.eval] using s33) ?_;exact hK undef _ True.intro hinv.put (fun d hd=>by cases hd)
    refine .cons (fun l a W hfr hun hup hdn hinv hdep K hK=>?_) ?_
    · refine fW0 rfl ?_;clear hfr hdep hun hup hdn;go_simp;exact hK _ _ True.intro (hinv.other 9 (by decide)) (dsT (by trivial))
    exact True.intro
   case fin=>
    intro a W9 l hfr hall hinv hsl
    have l8:l 8=true:=hall 8 (by decide);have s3:a.tmps.getD 3 undef=.bool true:=hsl 9 _ 3 rfl rfl (by simp);have t3:=tmpAt s3;have e:=Flow.frame hfr [26,27,28,29,30,31,32,33,3] (List.range 34) (by kernel_rfl) (by kernel_rfl)
    simp [List.range,List.range.loop] at e
    rw [t3] at e
    rw [e];have hp9:=hinv.p
    rw [l8] at hp9
    have HP9:Hid (Blk W9 (w.heap.size+1) TPc #[.int .u64 (N1:Int),.int .u64 (N2:Int),.slice (some ⟨w.heap.size,O,none⟩) M M]∧Gr w W9∧Blk W9 w.heap.size TS (sec (Sx xs))):=Lib.hid ⟨hp9,hinv.gr,hinv.s⟩;clear e hfr hsl hall hinv hp9 l8 s3 t3
    first
     | (rename_i hB;refine hB _ _ ?_)
     | (rename_i hB y0;refine hB _ _ ?_)
     | (rename_i hB y0 y1;refine hB _ _ ?_)
     | (rename_i hB y0 y1 y2;refine hB _ _ ?_)
     | (rename_i hB y0 y1 y2 y3;refine hB _ _ ?_)
     | (rename_i hB y0 y1 y2 y3 y4;refine hB _ _ ?_)
     | (rename_i hB y0 y1 y2 y3 y4 y5;refine hB _ _ ?_)
     | (rename_i hB y0 y1 y2 y3 y4 y5 y6;refine hB _ _ ?_)
    have HX:Hid (Byt W9 (some ⟨w.heap.size,O,none⟩) M M (bytX xs)):=Lib.hid (by
     unfold bytX
     rw [HMO.out.1]
     by_cases h0:0 < M
     ·
      rw [HMO.out.2.1 h0];have hb:=(HP9.out.2.2.byt hx).sub (by omega) 24 M M (by have:=HMO.out.2.2;omega) (Nat.le_refl _) (by have:=HMO.out.2.2;simp only [maxLen];omega)
      rwa [Nat.zero_add] at hb
     ·
      obtain rfl:M=0:=by omega
      simpa using Byt.zero W9 (some ⟨w.heap.size,O,none⟩))
    clear hw1 hw2 hw3;go_wp2_with fail;refine bodyPost_ret (results_pc rfl _ _ _ _ (.bool true) rfl rfl rfl HP9.out.1) rfl ?_
    unfold RetSum
    rw [if_pos HNN.out.2.2];refine ⟨some ⟨w.heap.size,O,none⟩,?_,?_,HP9.out.2.1,fun a h=>by cases h;exact Nat.le_refl _⟩
    · rw [HMO.out.1,show numX xs=N1 from HNN.out.1,show epX xs=N2 from HNN.out.2.1]
    · rw [HMO.out.1];exact HX.out
  ·
   have HNE:Hid (¬ sumX xs=trueX xs):=Lib.hid (fun e=>by have:=HE.out.1 e;cases this);clear HN1 HN2 HS HNB HE HW HSU HLT HN3 HN4
   go_wp2_with (refine wpList_store_pc rfl (.tmp 2) (.tmp 22) rfl HB2.out rfl rfl (one_pc _ _ _ _ _) rfl rfl ?_)
   refine bodyPost_ret (results_pc rfl _ _ _ _ (.bool false) rfl rfl rfl (HB2.out.row _)) rfl ?_
   unfold RetSum
   rw [if_neg HNE.out];exact ⟨rfl,below_setRow HG2.out (by omega) _⟩
def RetPc (xs:List Int) (w:World) (e:Ending) (w':World):Prop:=if okX xs=true then RetPiece xs w e w' else RetNoPiece w e w'
theorem pieceOf_all {xs:List Int} (hx:IsSec xs) (w:World):Calls Tryz.prog 102 #[.agg (sec (Sx xs))] w (RetPc xs w):=by
 unfold RetPc okX
 by_cases h:manyX xs≤232
 ·
  refine (pieceOf_any hx w h).mono ?_
  intro e w' hr
  unfold RetSum at hr
  simpa [h] using hr
 ·
  refine (pieceOf_much hx w (by omega)).mono ?_
  intro e w' hr
  simpa [h] using hr
end Go.Proofs.YtlijbgapkmfnaaaGreat
namespace Go.Proofs.YtlijbgapkmfnaaaGreat
open Go.RowKit Go.Maps Cr
def headL (k ep n:Nat):List Int:=Wd.enc 8 k++Wd.enc 8 ep++Wd.enc 4 n
def secL (k ep:Nat) (b:List Int):List Int:=headL k ep b.length++Wd.enc 4 (sumW (headL k ep b.length++padTo 232 b)).toNat++padTo 232 b
theorem headL_len (k ep n:Nat):(headL k ep n).length=20:=by simp [headL,Wd.enc_length]
theorem headL_small (k ep n:Nat):Wd.Small (headL k ep n):=((Wd.enc_small _ _).app (Wd.enc_small _ _)).app (Wd.enc_small _ _)
theorem secL_len {k ep:Nat} {b:List Int} (h:b.length≤232):(secL k ep b).length=256:=by
 simp only [secL,List.length_append,headL_len,Wd.enc_length,padTo_len h]
theorem secL_sec {k ep:Nat} {b:List Int} (h:b.length≤232) (hs:Wd.Small b):IsSec (secL k ep b):=
 ⟨secL_len h,((headL_small _ _ _).app (Wd.enc_small _ _)).app (padTo_small hs)⟩
theorem lay_zero {ys:List Int} (h:ys.length=256):lay (List.replicate 256 0) 0 ys=ys:=by
 unfold lay
 rw [List.take_zero,List.nil_append,List.drop_eq_nil_of_le (by rw [List.length_replicate];omega),List.append_nil]
def nul2:List Int:=List.replicate 232 0
theorem nul2_len:nul2.length=232:=List.length_replicate ..
abbrev TB2:TypeId:=163
def bya (xs:List Int):Array Value:=(xs.map (Value.int .u8)).toArray
theorem bya_size (xs:List Int):(bya xs).size=xs.length:=by simp [bya]
theorem Blk.bya {w:World} {g:Nat} {t:TypeId} {xs:List Int} {n:Nat} (h:Blk w g t (bya xs)) (hl:xs.length=n) (hm:n≤1000) (hs:Wd.Small xs):Byt w (some ⟨g,0,none⟩) n n xs:=
 ⟨hl,Nat.le_refl _,by simp only [maxLen];omega,fun _=>⟨g,0,rfl,fun i hi=>by
  rw [Nat.zero_add,h.cell i]
  simp [Go.Proofs.YtlijbgapkmfnaaaGreat.bya,List.getD,hl,hi]⟩,(fun h=>by cases h),hs⟩
structure Only (g:Nat) (w w':World):Prop where
 os:w'.os=w.os
 tape:w'.tape=w.tape
 output:w'.output=w.output
 size:w'.heap.size=w.heap.size
 block:∀ k,k≠g→w'.heap[k]?=w.heap[k]?
theorem Only.refl (g:Nat) (w:World):Only g w w:=⟨rfl,rfl,rfl,rfl,fun _ _=>rfl⟩
theorem Only.row (g:Nat) (w:World) (cs:Array Value):Only g w (w.setRow g cs):=⟨rfl,rfl,rfl,by simp,fun k hk=>setRow_other w g k cs hk⟩
theorem Only.cell (g i:Nat) (w:World) (u:Value):Only g w (w.setCell ⟨g,i,none⟩ u):=
 have h:=(Below.refl 0 w).setCell (p:=⟨g,i,none⟩) (Nat.zero_le _) u
 ⟨h.os,h.tape,h.output,by simp,fun k hk=>heap_setCell_other w ⟨g,i,none⟩ k u hk⟩
theorem Only.trans {g:Nat} {a b c:World} (h:Only g a b) (k:Only g b c):Only g a c:=⟨k.os.trans h.os,k.tape.trans h.tape,k.output.trans h.output,k.size.trans h.size,fun i hi=>(k.block i hi).trans (h.block i hi)⟩
theorem Only.below {g B:Nat} {w0 w w':World} (h:Only g w w') (hb:Below B w0 w) (hg:B≤g):Below B w0 w':=hb.trans ⟨h.os,h.tape,h.output,Nat.le_of_eq h.size.symm,fun k hk=>h.block k (by omega)⟩
theorem step_copy_body {w:World} {ops:Array Oper} {o:Oper} {a:Act} {K:Act→World→Prop} {Q:Exit→Act→World→Prop} {E:Prop} (hgd:o.guard=none) (d s:Operand)
  (ho:o.op=.call { callee:=.builtin .copy,args:=#[d,s],argTypes:=#[31,31] }) {g:Nat} (hd:a.eval d=.slice (some ⟨g,0,none⟩) 232 232) (hb:Blk w g TB2 (bya nul2))
  {q:Option Addr} {m c:Nat} {ys:List Int} (hs:a.eval s=.slice q m c) (hy:Byt w q m c ys) (hm:m≤232)
  (h:∀ W',Blk W' g TB2 (bya (padTo 232 ys))→Only g w W'→K (a.put o.dst (goInt m)) W'):if Region.wanted o (yielded ops a.tmps)=true then Oper.wp Tryz.prog o a w K Q else E:=by
 rw [if_pos (by simp [Region.wanted,hgd])];have hl:=hy.len
 by_cases h0:m=0
 ·
  subst h0;obtain rfl:ys=[]:=List.eq_nil_of_length_eq_zero hl;have hrun:=run_copy_none (P:=Tryz.prog) w 31 31 o.type 5 (some ⟨g,0,none⟩) q 232 232 0 c bt4.us bt4_size (by simp)
  unfold Oper.wp
  simp only [execOp,ho,resolve,invoke,builtin,hd,hs]
  simp [hd,hs,hrun,Result.andThen]
  exact h w hb (Only.refl _ _)
 ·
  obtain ⟨b,of,rfl,_⟩:=hy.at (by omega)
  have hrun:=run_copy_row (P:=Tryz.prog) w 31 31 o.type 5 g 0 232 232 ⟨b,of,none⟩ m c (bya nul2) TB2 (ys.map (Value.int .u8)) bt4.us bt4_size hb (by rw [List.length_map,hl];exact (Nat.min_eq_left hm).symm) hy.news (by rw [List.length_map,hl,bya_size,nul2_len];omega) (u8s_oneCell _)
  have e:((bya nul2).toList.take 0++ys.map (Value.int .u8)++(bya nul2).toList.drop (0+(ys.map (Value.int .u8)).length)).toArray=bya (padTo 232 ys):=by
   unfold bya padTo nul2
   simp only [List.take_zero,List.nil_append,List.map_append,List.map_replicate,List.length_map,hl,Nat.zero_add,List.drop_replicate]
  rw [e,List.length_map,hl] at hrun
  unfold Oper.wp
  simp only [execOp,ho,resolve,invoke,builtin,hd,hs]
  simp [hd,hs,hrun,Result.andThen]
  exact h _ (hb.row _) (Only.row _ _ _)
def SlSa (d:Nat) (k:Nat) (ep:Nat) (q:Option Addr) (m:Nat) (c:Nat) (slot:Nat) (v:Value) (w:World):Prop:=
 match slot with
 | 11=>v=.pointer (some ⟨d,0,none⟩)
 | 12=>v=.int .u64 (k:Int)
 | 14=>v=.pointer (some ⟨d,1,none⟩)
 | 15=>v=.int .u64 (ep:Int)
 | 17=>v=.pointer (some ⟨d,2,none⟩)
 | 18=>v=.slice q m c
 | 19=>v=.int .i64 m
 | 20=>v=.int .u64 (m:Int)
 | 4=>IsB w v (headL k ep m)
 | 13=>IsB w v (Wd.enc 8 k)
 | 16=>IsB w v (Wd.enc 8 ep)
 | 21=>IsB w v (Wd.enc 4 m)
 | 22=>IsRows w v [Wd.enc 8 k,Wd.enc 8 ep,Wd.enc 4 m]
 | 23=>IsB w v (headL k ep m)
 | _=>True
theorem slSa_gr {d:Nat} {k:Nat} {ep:Nat} {q:Option Addr} {m:Nat} {c:Nat} {s:Nat} {v:Value} {w w':World} (h:SlSa d k ep q m c s v w) (g:Gr w w'):SlSa d k ep q m c s v w':=by
 unfold SlSa at *
 split <;> simp only at h
 all_goals first
  | exact h
  | exact IsB.kept h g
  | exact IsRows.kept h g
def RetSecX (xs:List Int) (w:World) (e:Ending) (w':World):Prop:=e=.returned (.agg (sec (Sx xs)))∧Gr w w'
theorem zero_b2:Tryz.zeroCells163=bya nul2:=by kernel_rfl
theorem wword_fit (n k:Nat) (w:World) (h:fitsB n k=true):Calls Tryz.prog 114 #[.int .u64 n,.int .i64 k] w (RetByte (Wd.enc k n) w):=by
 have h1:=wword_any n k w
 unfold putR at h1
 rw [h] at h1
 exact h1
set_option maxRecDepth 100000 in
set_option maxHeartbeats 2000000 in
theorem psector_any (k ep:Nat) (q:Option Addr) (m c:Nat) (b:List Int) (w:World) (hk:k≤18446744073709551615) (he:ep≤18446744073709551615) (hy:Byt w q m c b) (hm:m≤232) :
  Calls Tryz.prog 96 #[.agg #[.int .u64 (k:Int),.int .u64 (ep:Int),.slice q m c]] w (RetSecX (secL k ep b) w):=by
 obtain ⟨W1,hW1⟩:∃ W1,W1=(w.alloc (.cells #[.int .u64 (k:Int),.int .u64 (ep:Int),.slice q m c] TPc)).alloc (.cells (sec Sec.zero) TS):=⟨_,rfl⟩;obtain ⟨W2,hW2⟩:∃ W2,W2=W1.alloc (.cells (bya nul2) TB2):=⟨_,rfl⟩;have hB1:=Blk.new w TPc #[.int .u64 (k:Int),.int .u64 (ep:Int),.slice q m c];have hB2:=Blk.new (w.alloc (.cells #[.int .u64 (k:Int),.int .u64 (ep:Int),.slice q m c] TPc)) TS (sec Sec.zero);have hB3:=Blk.new W1 TB2 (bya nul2)
 have hs1:W1.heap.size=w.heap.size+1+1:=by rw [hW1];simp
 have HB:Hid (Blk W2 w.heap.size TPc #[.int .u64 (k:Int),.int .u64 (ep:Int),.slice q m c]∧Blk W2 (w.heap.size+1) TS (sec Sec.zero)∧Blk W2 (w.heap.size+1+1) TB2 (bya nul2)∧Gr w W2):=Lib.hid (by
  rw [hs1] at hB3
  rw [← hW2] at hB3
  simp only [World.size_alloc] at hB2
  rw [← hW1] at hB2
  have g1:Gr (w.alloc (.cells #[.int .u64 (k:Int),.int .u64 (ep:Int),.slice q m c] TPc)) W1:=by rw [hW1];exact Gr.new _ _
  have g2:Gr W1 W2:=by rw [hW2];exact Gr.new _ _
  exact ⟨(hB1.gr g1).gr g2,hB2.gr g2,hB3,Gr.trans (Gr.trans (Gr.new _ _) g1) g2⟩)
 have HY:=Lib.hid hy;have HM:Hid (IntKind.u64.wrap (m:Int)=(m:Int)∧m≤232∧b.length=m):=Lib.hid ⟨by rw [IntKind.wrap_u64];omega,hm,hy.len⟩;have hz:=zero_sec
 have hW:((w.alloc (.cells #[.int .u64 (k:Int),.int .u64 (ep:Int),.slice q m c] 148)).alloc (.cells (sec Sec.zero) 46)).alloc (.cells Tryz.zeroCells163 163)=W2:=by rw [zero_b2,hW2,hW1]
 have HW:=Lib.hid hW;clear hW hW1 hW2 hB1 hB2 hB3 hs1 hy
 go_enter Tryz.func96,Tryz.ntmps96
 go_wp2_with fail;rw [HW.out];have HB':=Lib.hid (show Blk W2.drew (w.heap.size+1+1) TB2 (bya nul2) from HB.out.2.2.1.heap rfl);have HY':=Lib.hid (HY.out.kept (Gr.trans HB.out.2.2.2 (Gr.refl W2).drew));have HBd:=Lib.hid (show Blk W2.drew w.heap.size TPc #[.int .u64 (k:Int),.int .u64 (ep:Int),.slice q m c] from HB.out.1.heap rfl)
 have HCC:Hid (∀ V,Only (w.heap.size+1+1) W2.drew V→V.cell? ⟨w.heap.size,2,none⟩=some (.slice q m c)):=Lib.hid fun V ho=>(HBd.out.stays (ho.block w.heap.size (by omega))).cell 2
 obtain ⟨⟨c0,c1,c2⟩,_⟩:=HB.out.1.c3;have hm2:=HM.out.2.1
 go_region_held3 (fun w'=>w'.cell? ⟨w.heap.size,2,none⟩=some (.slice q m c)) (first | exact c2 | exact hc3) ((refine step_copy_body rfl (.tmp 7) (.tmp 9) rfl rfl HB'.out rfl HY'.out hm2 ?_;intro W3 hb3 ho3;have hc3:=HCC.out W3 ho3))
 have HB3:Hid (Blk W3 w.heap.size TPc #[.int .u64 (k:Int),.int .u64 (ep:Int),.slice q m c]∧Blk W3 (w.heap.size+1) TS (sec Sec.zero)∧Blk W3 (w.heap.size+1+1) TB2 (bya (padTo 232 b))∧Gr w W3):=Lib.hid ⟨(HB.out.1.heap rfl).stays (ho3.block _ (by omega)),(HB.out.2.1.heap rfl).stays (ho3.block _ (by omega)),hb3,ho3.below HB.out.2.2.2.drew (by omega)⟩;clear hb3 ho3 HB' HBd HY' c0 c1 c2 hm2 HW;have HB:=HB3;have HWo:Hid ((∀ W,Calls Tryz.prog 114 #[.int .u64 (k:Int),.int .i64 8] W (RetByte (Wd.enc 8 k) W))∧(∀ W,Calls Tryz.prog 114 #[.int .u64 (ep:Int),.int .i64 8] W (RetByte (Wd.enc 8 ep) W))∧∀ W,Calls Tryz.prog 114 #[.int .u64 (m:Int),.int .i64 4] W (RetByte (Wd.enc 4 m) W)):=Lib.hid ⟨fun W=>wword_fit k 8 W (fitK (by omega) (by omega) (by omega)),fun W=>wword_fit ep 8 W (fitK (by omega) (by omega) (by omega)),fun W=>wword_fit m 4 W (fitK (by omega) (by omega) (by omega))⟩
 have HJ:Hid (∀ pr nr cr W,Rows W pr nr cr [Wd.enc 8 k,Wd.enc 8 ep,Wd.enc 4 m]→Calls Tryz.prog 94 #[.slice pr nr cr] W (RetByte (headL k ep m) W)):=Lib.hid fun pr nr cr W hr=>by
  have h:=join_any pr nr cr _ W hr (by simp [tot,Wd.enc_length])
  simpa [headL] using h
 have HYB:Hid (∀ W,Gr W3 W→Byt W (some ⟨w.heap.size+1+1,0,none⟩) 232 232 (padTo 232 b)):=Lib.hid fun W gr=>(HB3.out.2.2.1.gr gr).bya (padTo_len (by rw [HM.out.2.2];exact HM.out.2.1)) (by omega) (padTo_small HY.out.small)
 clear hk he hm;go_wp2_with fail;refine Flow.region (SlSa w.heap.size k ep q m c) (Gr W3) Gr (by kernel_rfl) (by kernel_rfl) (fun _ _ _ _ h g=>slSa_gr h g) ⟨rfl,rfl,rfl,Nat.le_refl _,fun _ _=>rfl⟩ ?steps ?fin
 case steps=>
  refine .cons (fun a W hfr hinv hdep K hK=>?_) ?_
  · have t1:=tAt (.pointer (some ⟨w.heap.size,0,none⟩)) (hfr.at 1 (by kernel_rfl));refine fW0 rfl ?_;clear hfr hdep;go_simp;exact hK _ _ (Gr.refl _) hinv (dsT (by trivial))
  refine .cons (fun a W hfr hinv hdep K hK=>?_) ?_
  · have t11:=tAt (.pointer (some ⟨w.heap.size,0,none⟩)) (hdep 11 (by kernel_rfl));obtain ⟨⟨c0,c1,c2⟩,_⟩:=(HB.out.1.gr hinv).c3;refine fW0 rfl ?_;clear hfr hdep;go_simp;exact hK _ _ (Gr.refl _) hinv (dsT (by trivial))
  refine .cons (fun a W hfr hinv hdep K hK=>?_) ?_
  · have t12:=tAt (.int .u64 (k:Int)) (hdep 12 (by kernel_rfl));refine fW0 rfl ?_;clear hfr hdep;go_simp;refine (HWo.out.1 W).mono ?_;rintro e W' ⟨q1,m1,c1,rfl,hy,g1,hf⟩;exact hK _ _ g1 (Gr.trans hinv g1) (fun d hd=>by cases hd;exact ⟨_,_,_,rfl,hy⟩)
  refine .cons (fun a W hfr hinv hdep K hK=>?_) ?_
  · have t1:=tAt (.pointer (some ⟨w.heap.size,0,none⟩)) (hfr.at 1 (by kernel_rfl));refine fW0 rfl ?_;clear hfr hdep;go_simp;exact hK _ _ (Gr.refl _) hinv (dsT (by trivial))
  refine .cons (fun a W hfr hinv hdep K hK=>?_) ?_
  · have t14:=tAt (.pointer (some ⟨w.heap.size,1,none⟩)) (hdep 14 (by kernel_rfl));obtain ⟨⟨c0,c1,c2⟩,_⟩:=(HB.out.1.gr hinv).c3;refine fW0 rfl ?_;clear hfr hdep;go_simp;exact hK _ _ (Gr.refl _) hinv (dsT (by trivial))
  refine .cons (fun a W hfr hinv hdep K hK=>?_) ?_
  · have t15:=tAt (.int .u64 (ep:Int)) (hdep 15 (by kernel_rfl));refine fW0 rfl ?_;clear hfr hdep;go_simp;refine (HWo.out.2.1 W).mono ?_;rintro e W' ⟨q1,m1,c1,rfl,hy,g1,hf⟩;exact hK _ _ g1 (Gr.trans hinv g1) (fun d hd=>by cases hd;exact ⟨_,_,_,rfl,hy⟩)
  refine .cons (fun a W hfr hinv hdep K hK=>?_) ?_
  · have t1:=tAt (.pointer (some ⟨w.heap.size,0,none⟩)) (hfr.at 1 (by kernel_rfl));refine fW0 rfl ?_;clear hfr hdep;go_simp;exact hK _ _ (Gr.refl _) hinv (dsT (by trivial))
  refine .cons (fun a W hfr hinv hdep K hK=>?_) ?_
  · have t17:=tAt (.pointer (some ⟨w.heap.size,2,none⟩)) (hdep 17 (by kernel_rfl));obtain ⟨⟨c0,c1,c2⟩,_⟩:=(HB.out.1.gr hinv).c3;refine fW0 rfl ?_;clear hfr hdep;go_simp;exact hK _ _ (Gr.refl _) hinv (dsT (by trivial))
  refine .cons (fun a W hfr hinv hdep K hK=>?_) ?_
  · have t18:=tAt (.slice q m c) (hdep 18 (by kernel_rfl));refine fW0 rfl ?_;clear hfr hdep;go_simp;exact hK _ _ (Gr.refl _) hinv (dsT (by trivial))
  refine .cons (fun a W hfr hinv hdep K hK=>?_) ?_
  · have t19:=tAt (.int .i64 m) (hdep 19 (by kernel_rfl));have hw:=HM.out;refine fW0 rfl ?_;clear hfr hdep;go_simp;exact hK _ _ (Gr.refl _) hinv (dsT (by trivial))
  refine .cons (fun a W hfr hinv hdep K hK=>?_) ?_
  · have t20:=tAt (.int .u64 (m:Int)) (hdep 20 (by kernel_rfl));refine fW0 rfl ?_;clear hfr hdep;go_simp;refine (HWo.out.2.2 W).mono ?_;rintro e W' ⟨q1,m1,c1,rfl,hy,g1,hf⟩;exact hK _ _ g1 (Gr.trans hinv g1) (fun d hd=>by cases hd;exact ⟨_,_,_,rfl,hy⟩)
  refine .cons (fun a W hfr hinv hdep K hK=>?_) ?_
  · have s13:IsB W (a.tmps.getD 13 undef) (Wd.enc 8 k):=hdep 13 (by kernel_rfl);have s16:IsB W (a.tmps.getD 16 undef) (Wd.enc 8 ep):=hdep 16 (by kernel_rfl);have s21:IsB W (a.tmps.getD 21 undef) (Wd.enc 4 m):=hdep 21 (by kernel_rfl);refine fW0 rfl ?_;clear hfr hdep;obtain ⟨p0,n0,c0,s13,h0⟩:=s13;have t13:=tmpAt s13;obtain ⟨p1,n1,c1,s16,h1⟩:=s16;have t16:=tmpAt s16;obtain ⟨p2,n2,c2,s21,h2⟩:=s21;have t21:=tmpAt s21;go_simp;exact hK _ _ ((Gr.refl W).alloc (Nat.le_refl _) _) (hinv.alloc hinv.size _) (fun d hd=>by cases hd;exact ⟨_,_,_,rfl,Rows.three h0 h1 h2 rfl⟩)
  refine .cons (fun a W hfr hinv hdep K hK=>?_) ?_
  · have s22:IsRows W (a.tmps.getD 22 undef) [Wd.enc 8 k,Wd.enc 8 ep,Wd.enc 4 m]:=hdep 22 (by kernel_rfl);refine fW0 rfl ?_;clear hfr hdep;obtain ⟨pr,nr,cr,s22,hr⟩:=s22;have t22:=tmpAt s22;go_simp;refine (HJ.out pr nr cr W hr).mono ?_;rintro e W' ⟨q1,m1,c1,rfl,hy,g1,hf⟩;exact hK _ _ g1 (Gr.trans hinv g1) (fun d hd=>by cases hd;exact ⟨_,_,_,rfl,hy⟩)
  refine .cons (fun a W hfr hinv hdep K hK=>?_) ?_
  · have s23:IsB W (a.tmps.getD 23 undef) (headL k ep m):=hdep 23 (by kernel_rfl);refine fW0 rfl ?_;clear hfr hdep;obtain ⟨pr,nr,cr,s23,hr⟩:=s23;have t23:=tmpAt s23;go_simp;exact hK _ _ (Gr.refl _) hinv (fun d hd=>by cases hd;exact ⟨_,_,_,rfl,hr⟩)
  exact True.intro
 case fin=>
  intro a W hfr hfin hsl
  obtain ⟨kp4,kn4,kc4,s4,kh4⟩:IsB W (a.tmps.getD 4 undef) (headL k ep m):=hsl 13 _ 4 rfl rfl;have t4:=tmpAt s4;have e:=Flow.frame hfr [11,12,13,14,15,16,17,18,19,20,21,22,23,4] (List.range 38) (by kernel_rfl) (by kernel_rfl)
  simp [List.range,List.range.loop] at e
  rw [t4] at e
  rw [e];clear e hfr hsl s4 t4
  first
   | (rename_i hB;refine hB _ _ ?_)
   | (rename_i hB y0;refine hB _ _ ?_)
   | (rename_i hB y0 y1;refine hB _ _ ?_)
   | (rename_i hB y0 y1 y2;refine hB _ _ ?_)
   | (rename_i hB y0 y1 y2 y3;refine hB _ _ ?_)
   | (rename_i hB y0 y1 y2 y3 y4;refine hB _ _ ?_)
   | (rename_i hB y0 y1 y2 y3 y4 y5;refine hB _ _ ?_)
   | (rename_i hB y0 y1 y2 y3 y4 y5 y6;refine hB _ _ ?_)
  have HB5:Hid (Blk W (w.heap.size+1) TS (sec Sec.zero)∧Gr w W∧Gr W3 W):=Lib.hid ⟨HB3.out.2.1.gr hfin,Gr.trans HB3.out.2.2.2 hfin,hfin⟩;have HH:=Lib.hid kh4;clear hfin kh4 HWo HJ HB;obtain ⟨T,hT⟩:∃ T,T=sumW (headL k ep m++padTo 232 b):=⟨_,rfl⟩
  have HSU:Hid (∀ p n c W,Rows W p n c [headL k ep m,padTo 232 b]→Calls Tryz.prog 115 #[.slice p n c] W fun e w'=>e=.returned (.int .u32 (U T))∧Gr W w'):=Lib.hid fun p n c W hr=>by
   have h:=sum_any p n c _ W hr;rw [hT]
   simpa using h
  have hw:IntKind.u64.wrap (U T)=((T.toNat:Nat):Int):=by
   have:=T.isLt;rw [IntKind.wrap_u64];unfold U;omega
  have HWf:Hid (∀ W,Calls Tryz.prog 114 #[.int .u64 ((T.toNat:Nat):Int),.int .i64 4] W (RetByte (Wd.enc 4 T.toNat) W)):=Lib.hid fun W=>wword_fit T.toNat 4 W (fitK (by omega) (by omega) (by have:=T.isLt;omega))
  have HSec:Hid (secL k ep b=headL k ep m++(Wd.enc 4 T.toNat++padTo 232 b)∧IsSec (secL k ep b)):=Lib.hid ⟨by unfold secL;rw [HM.out.2.2,hT,List.append_assoc],secL_sec (by rw [HM.out.2.2];exact HM.out.2.1) HY.out.small⟩;clear hT;go_wp2_with fail;refine (HSU.out _ _ _ _ (Rows.two HH.out (HYB.out _ HB5.out.2.2) rfl)).mono ?_;rintro e W5 ⟨rfl,g5⟩;have HG5:=Lib.hid (grow1 g5);clear g5;go_wp2_with fail;refine (HWf.out W5).mono ?_;rintro e W6 ⟨q6,n6,c6,rfl,hy6,g6,f6⟩;have HG6:=Lib.hid (Gr.trans HG5.out g6);have HY6:=Lib.hid hy6;have HZ:=Lib.hid (Blk.new W6 TS (sec Sec.zero));obtain ⟨W7,hW7⟩:∃ W7,W7=W6.alloc (.cells (sec Sec.zero) TS):=⟨_,rfl⟩;have HG7:Hid (Gr W W7∧Blk W7 W6.heap.size TS (sec Sec.zero)∧W7.heap.size=W6.heap.size+1∧Gr W6 W7):=Lib.hid (by rw [hW7];exact ⟨Gr.trans HG6.out (Gr.new _ _),Blk.new _ _ _,by simp,Gr.new _ _⟩);have hW7':W6.alloc (.cells (sec Sec.zero) 46)=W7:=hW7.symm;have HW7:=Lib.hid hW7';have HS7:Hid (W3.heap.size≤W6.heap.size∧w.heap.size+1 < W6.heap.size):=Lib.hid ⟨Nat.le_trans HB5.out.2.2.size HG6.out.size,Nat.lt_of_lt_of_le HB5.out.1.lt HG6.out.size⟩;clear hy6 g6 f6 hW7 hW7' HZ hw HWf HSU;go_wp2_with fail;rw [HW7.out]
  have HJ:Hid (∀ p n c W,Rows W p n c [headL k ep m,Wd.enc 4 T.toNat,padTo 232 b]→Calls Tryz.prog 94 #[.slice p n c] W (RetByte (secL k ep b) W)):=Lib.hid fun p n c W hr=>by
   have h:=join_any p n c _ W hr (by simp [tot,Wd.enc_length,headL_len,padTo_len (show b.length≤232 by rw [HM.out.2.2];exact HM.out.2.1)]);rw [HSec.out.1]
   simpa using h
  have HJ3:Hid (Calls Tryz.prog 94 #[.slice (some ⟨W7.heap.size,0,none⟩) 3 3] (W7.alloc (.cells #[.slice kp4 kn4 kc4,.slice q6 n6 c6,.slice (some ⟨w.heap.size+1+1,0,none⟩) 232 232] 31)).drew fun e W8=>∃ q8 c8,e=.returned (.slice q8 256 c8)∧Hid (Byt W8 q8 256 c8 (secL k ep b))∧Hid (Blk W8 W6.heap.size TS (sec (Sx (List.replicate 256 0)))∧Gr w W8∧Blk W8 (w.heap.size+1) TS (sec Sec.zero))):=Lib.hid (by
   have gV:Gr W7 (W7.alloc (.cells #[.slice kp4 kn4 kc4,.slice q6 n6 c6,.slice (some ⟨w.heap.size+1+1,0,none⟩) 232 232] 31)).drew:=(Gr.new W7 _).drew;refine (HJ.out _ _ _ _ (Rows.three (W:=(W7.alloc (.cells #[.slice kp4 kn4 kc4,.slice q6 n6 c6,.slice (some ⟨w.heap.size+1+1,0,none⟩) 232 232] 31)).drew) (HH.out.kept HG7.out.1) (HY6.out.kept HG7.out.2.2.2) (HYB.out _ (Gr.trans HB5.out.2.2 HG7.out.1)) rfl)).mono ?_;rintro e W8 ⟨q8,n8,c8,rfl,hy8,g8,f8⟩
   have hn:n8=256:=by have h1:=hy8.len;have h2:=HSec.out.2.len;omega
   subst hn;have g78:=Gr.trans gV g8
   exact ⟨q8,c8,rfl,Lib.hid hy8,Lib.hid ⟨by rw [Sx_zero];exact HG7.out.2.1.gr g78,Gr.trans (Gr.trans HB5.out.2.1 HG7.out.1) g78,HB5.out.1.gr (Gr.trans HG7.out.1 g78)⟩⟩)
  have HLAY:Hid (lay (List.replicate 256 0) 0 (secL k ep b)=secL k ep b):=Lib.hid (lay_zero HSec.out.2.len)
  have h1a:0 < 256:=by decide
  have h1b:256≤256:=Nat.le_refl _;have h1c:0+256≤256:=Nat.le_refl _;clear HJ HH HY6 HYB
  go_region_held3 (fun _=>True) (exact True.intro) (first
   | (go_at_call 94;refine HJ3.out.mono ?_;rintro e W8 ⟨q8,c8,rfl,HY8,HB8⟩)
   | (refine step_copy_sec rfl (.tmp 30) (.tmp 35) rfl rfl HB8.out.1 zeros_sec rfl HY8.out h1a h1b h1c ?_;rw [HLAY.out]))
  have HB9:Hid (Blk (W8.setRow W6.heap.size (sec (Sx (secL k ep b)))) W6.heap.size TS (sec (Sx (secL k ep b)))∧Blk (W8.setRow W6.heap.size (sec (Sx (secL k ep b)))) (w.heap.size+1) TS (sec Sec.zero)∧Gr w (W8.setRow W6.heap.size (sec (Sx (secL k ep b))))):=Lib.hid ⟨HB8.out.1.row _,HB8.out.2.2.other (by have:=HS7.out.2;omega),below_setRow HB8.out.2.1 (by have:=HS7.out.2;omega) _⟩;clear HB8
  go_wp2_with (first | (refine wpList_load_x rfl (.tmp 6) rfl HB9.out.1 rfl ?_) | (refine wpList_store_x rfl (.tmp 2) (.tmp 37) rfl HB9.out.2.1 rfl rfl ?_))
  exact bodyPost_ret (results_x rfl _ _ _ _ rfl (HB9.out.2.1.row _)) rfl ⟨rfl,below_setRow HB9.out.2.2 (by omega) _⟩
end Go.Proofs.YtlijbgapkmfnaaaGreat
namespace Go.Proofs.YtlijbgapkmfnaaaGreat
open Go.RowKit Go.Maps
theorem Blk.f10 {w:World} {b:Nat} {t:TypeId} {cs:Array Value} (h:Blk w b t cs):w.frozen? ⟨b,5,none⟩=false∧w.frozen? ⟨b,6,none⟩=false∧w.frozen? ⟨b,7,none⟩=false∧w.frozen? ⟨b,8,none⟩=false∧w.frozen? ⟨b,9,none⟩=false:=
 ⟨h.frozen 5,h.frozen 6,h.frozen 7,h.frozen 8,h.frozen 9⟩
theorem wLasts_any (d b:Nat) (p:Value) (n:Int) (l:Int) (g:Int) (ep:Nat) (tl:Nat) (la:Nat) (q:Option Addr) (m:Nat) (c:Nat) (rs:Int) (bg:Bool) (w:World) (h:Blk w b TLg #[p,.int .i64 n,.int .i64 l,.int .i64 g,.int .u64 ep,.int .u64 tl,.int .u64 la,.slice q m c,.int .i64 rs,.bool bg]) (hp:p=.pointer (some ⟨d,0,none⟩)):Calls Tryz.prog 38 #[.pointer (some ⟨b,0,none⟩)] w (RetU la w):=by
 have HM:=Lib.hid (wmissing_no d b p n l g ep tl la q m c rs bg w h hp);obtain ⟨c0,c1,c2,c3,c4,c5,c6,c7,c8,c9⟩:=h.c10;clear h c0 c1 c2 c3 c4 c5 c7 c8 c9
 go_enter Tryz.func38,Tryz.ntmps38
 go_wp2_with fail;refine HM.out.mono ?_;rintro e w1 ⟨rfl,rfl⟩;go_wp2_with fail
 go_ret
 exact ⟨rfl,Gr.refl _⟩
theorem wTail_any (d b:Nat) (p:Value) (n:Int) (l:Int) (g:Int) (ep:Nat) (tl:Nat) (la:Nat) (q:Option Addr) (m:Nat) (c:Nat) (rs:Int) (bg:Bool) (w:World) (h:Blk w b TLg #[p,.int .i64 n,.int .i64 l,.int .i64 g,.int .u64 ep,.int .u64 tl,.int .u64 la,.slice q m c,.int .i64 rs,.bool bg]) (hp:p=.pointer (some ⟨d,0,none⟩)):Calls Tryz.prog 39 #[.pointer (some ⟨b,0,none⟩)] w (RetU tl w):=by
 have HM:=Lib.hid (wmissing_no d b p n l g ep tl la q m c rs bg w h hp);obtain ⟨c0,c1,c2,c3,c4,c5,c6,c7,c8,c9⟩:=h.c10;clear h c0 c1 c2 c3 c4 c6 c7 c8 c9
 go_enter Tryz.func39,Tryz.ntmps39
 go_wp2_with fail;refine HM.out.mono ?_;rintro e w1 ⟨rfl,rfl⟩;go_wp2_with fail
 go_ret
 exact ⟨rfl,Gr.refl _⟩
def RetCell (x:Int) (b i:Nat) (v:Value) (w:World) (e:Ending) (w':World):Prop:=e=.returned (.int .i64 x)∧∃ W,Gr w W∧w'=W.setCell ⟨b,i,none⟩ v
def RetE (x:Int) (w:World) (e:Ending) (w':World):Prop:=e=.returned (.int .i64 x)∧Gr w w'
theorem wSetTail_no (d b:Nat) (p:Value) (n:Int) (l:Int) (g:Int) (ep:Nat) (tl:Nat) (la:Nat) (q:Option Addr) (m:Nat) (c:Nat) (rs:Int) (bg:Bool) (t:Nat) (w:World) (h:Blk w b TLg #[p,.int .i64 n,.int .i64 l,.int .i64 g,.int .u64 ep,.int .u64 tl,.int .u64 la,.slice q m c,.int .i64 rs,.bool bg]) (hp:p=.pointer (some ⟨d,0,none⟩)) (ht:t < tl∨la < t):Calls Tryz.prog 31 #[.pointer (some ⟨b,0,none⟩),.int .u64 (t:Int)] w (RetE 2 w):=by
 have HM:=Lib.hid (wmissing_no d b p n l g ep tl la q m c rs bg w h hp);obtain ⟨c0,c1,c2,c3,c4,c5,c6,c7,c8,c9⟩:=h.c10;clear h c0 c1 c2 c3 c4 c7 c8 c9
 by_cases h1:(t:Int) < (tl:Int)
 ·
  clear ht
  go_enter Tryz.func31,Tryz.ntmps31
  go_wp2_with fail;refine HM.out.mono ?_;rintro e w1 ⟨rfl,rfl⟩;go_wp2_with fail
  go_ret
  exact ⟨rfl,Gr.refl _⟩
 ·
  have h2:(la:Int) < (t:Int):=by omega
  clear ht
  go_enter Tryz.func31,Tryz.ntmps31
  go_wp2_with fail;refine HM.out.mono ?_;rintro e w1 ⟨rfl,rfl⟩;go_wp2_with fail
  go_ret
  exact ⟨rfl,Gr.refl _⟩
theorem wSetTail_yes (d b:Nat) (p:Value) (n:Int) (l:Int) (g:Int) (ep:Nat) (tl:Nat) (la:Nat) (q:Option Addr) (m:Nat) (c:Nat) (rs:Int) (bg:Bool) (t:Nat) (w:World) (h:Blk w b TLg #[p,.int .i64 n,.int .i64 l,.int .i64 g,.int .u64 ep,.int .u64 tl,.int .u64 la,.slice q m c,.int .i64 rs,.bool bg]) (hp:p=.pointer (some ⟨d,0,none⟩)) (h1:tl≤t) (h2:t≤la):Calls Tryz.prog 31 #[.pointer (some ⟨b,0,none⟩),.int .u64 (t:Int)] w (RetCell 0 b 5 (.int .u64 (t:Int)) w):=by
 have HM:=Lib.hid (wmissing_no d b p n l g ep tl la q m c rs bg w h hp);obtain ⟨c0,c1,c2,c3,c4,c5,c6,c7,c8,c9⟩:=h.c10;obtain ⟨f5,f6,f7,f8,f9⟩:=h.f10;clear h c0 c1 c2 c3 c4 c7 c8 c9 f6 f7 f8 f9
 have g1:¬ (t:Int) < (tl:Int):=by omega
 have g2:¬ (la:Int) < (t:Int):=by omega
 clear h1 h2
 go_enter Tryz.func31,Tryz.ntmps31
 go_wp2_with fail;refine HM.out.mono ?_;rintro e w1 ⟨rfl,rfl⟩;go_wp2_with fail
 go_ret
 exact ⟨rfl,_,Gr.refl _,rfl⟩
theorem wReserve_no (d b:Nat) (p:Value) (n:Int) (l:Int) (g:Int) (ep:Nat) (tl:Nat) (la:Nat) (q:Option Addr) (m:Nat) (c:Nat) (rs:Int) (bg:Bool) (r:Int) (w:World) (h:Blk w b TLg #[p,.int .i64 n,.int .i64 l,.int .i64 g,.int .u64 ep,.int .u64 tl,.int .u64 la,.slice q m c,.int .i64 rs,.bool bg]) (hp:p=.pointer (some ⟨d,0,none⟩)) (hr:r < 0):Calls Tryz.prog 33 #[.pointer (some ⟨b,0,none⟩),.int .i64 r] w (RetE 2 w):=by
 have HM:=Lib.hid (wmissing_no d b p n l g ep tl la q m c rs bg w h hp);clear h
 go_enter Tryz.func33,Tryz.ntmps33
 go_wp2_with fail;refine HM.out.mono ?_;rintro e w1 ⟨rfl,rfl⟩;go_wp2_with fail
 go_ret
 exact ⟨rfl,Gr.refl _⟩
theorem wReserve_full (d b:Nat) (p:Value) (n:Int) (l:Int) (g:Int) (ep:Nat) (tl:Nat) (la:Nat) (q:Option Addr) (m:Nat) (c:Nat) (rs:Int) (bg:Bool) (r F:Int) (w:World) (h:Blk w b TLg #[p,.int .i64 n,.int .i64 l,.int .i64 g,.int .u64 ep,.int .u64 tl,.int .u64 la,.slice q m c,.int .i64 rs,.bool bg]) (hp:p=.pointer (some ⟨d,0,none⟩)) (hr:0≤r) (hF:F < r) (HF:Hid (∀ W,Gr w W→Calls Tryz.prog 40 #[.pointer (some ⟨b,0,none⟩)] W fun e w'=>e=.returned (.int .i64 F)∧Gr W w')) :
  Calls Tryz.prog 33 #[.pointer (some ⟨b,0,none⟩),.int .i64 r] w (RetE 5 w):=by
 have HM:=Lib.hid (wmissing_no d b p n l g ep tl la q m c rs bg w h hp);clear h
 go_enter Tryz.func33,Tryz.ntmps33
 go_wp2_with fail;refine HM.out.mono ?_;rintro e w1 ⟨rfl,rfl⟩;go_wp2_with fail;refine (HF.out w (Gr.refl w)).mono ?_;rintro e w1 ⟨rfl,g1⟩;go_wp2_with fail
 go_ret
 exact ⟨rfl,g1⟩
theorem wReserve_yes (d b:Nat) (p:Value) (n:Int) (l:Int) (g:Int) (ep:Nat) (tl:Nat) (la:Nat) (q:Option Addr) (m:Nat) (c:Nat) (rs:Int) (bg:Bool) (r F:Int) (w:World) (h:Blk w b TLg #[p,.int .i64 n,.int .i64 l,.int .i64 g,.int .u64 ep,.int .u64 tl,.int .u64 la,.slice q m c,.int .i64 rs,.bool bg]) (hp:p=.pointer (some ⟨d,0,none⟩)) (hr:0≤r) (hF:r≤F) (hF2:F≤1000000) (h0:0≤rs) (h1:rs≤1000000) (HF:Hid (∀ W,Gr w W→Calls Tryz.prog 40 #[.pointer (some ⟨b,0,none⟩)] W fun e w'=>e=.returned (.int .i64 F)∧Gr W w')) :
  Calls Tryz.prog 33 #[.pointer (some ⟨b,0,none⟩),.int .i64 r] w (RetCell 0 b 8 (.int .i64 (rs+r)) w):=by
 have HM:=Lib.hid (wmissing_no d b p n l g ep tl la q m c rs bg w h hp);have HB:=Lib.hid h;clear h
 go_enter Tryz.func33,Tryz.ntmps33
 go_wp2_with fail;refine HM.out.mono ?_;rintro e w1 ⟨rfl,rfl⟩;go_wp2_with fail;refine (HF.out w (Gr.refl w)).mono ?_;rintro e w1 ⟨rfl,g1⟩;have c8:=(HB.out.gr g1).c10.2.2.2.2.2.2.2.2.1;have f8:=(HB.out.gr g1).f10.2.2.2.1;go_wp2_with fail
 go_ret
 exact ⟨rfl,_,g1,rfl⟩
def SlRel (b:Nat) (r rs Y Z:Int) (slot:Nat) (v:Value) (_:World):Prop:=
 match slot with
 | 10=>v=.pointer (some ⟨b,0,none⟩)
 | 11=>v=.pointer (some ⟨b,0,none⟩)
 | 12=>v=.pointer (some ⟨b,8,none⟩)
 | 13=>v=.int .i64 rs
 | 14=>v=.int .i64 r
 | 15=>v=.pointer (some ⟨b,0,none⟩)
 | 16=>v=.pointer (some ⟨b,0,none⟩)
 | 17=>v=.pointer (some ⟨b,8,none⟩)
 | 18=>v=.int .i64 rs
 | 19=>v=.int .i64 Y
 | 20=>v=.int .i64 Z
 | 21=>v=.pointer (some ⟨b,0,none⟩)
 | 22=>v=.pointer (some ⟨b,8,none⟩)
 | _=>True
def RetNone (w:World) (e:Ending) (w':World):Prop:=e=.returned (.tuple #[])∧Gr w w'
theorem wRelease_no (d b:Nat) (p:Value) (n:Int) (l:Int) (g:Int) (ep:Nat) (tl:Nat) (la:Nat) (q:Option Addr) (m:Nat) (c:Nat) (rs:Int) (bg:Bool) (r:Int) (w:World) (h:Blk w b TLg #[p,.int .i64 n,.int .i64 l,.int .i64 g,.int .u64 ep,.int .u64 tl,.int .u64 la,.slice q m c,.int .i64 rs,.bool bg]) (hp:p=.pointer (some ⟨d,0,none⟩)) (hr:r < 0):Calls Tryz.prog 35 #[.pointer (some ⟨b,0,none⟩),.int .i64 r] w (RetNone w):=by
 have HM:=Lib.hid (wmissing_no d b p n l g ep tl la q m c rs bg w h hp);clear h
 go_enter Tryz.func35,Tryz.ntmps35
 go_wp2_with fail;refine HM.out.mono ?_;rintro e w1 ⟨rfl,rfl⟩;go_wp2_with fail;exact bodyPost_ret (results_none rfl _ _ _) rfl ⟨rfl,Gr.refl _⟩
set_option maxRecDepth 100000 in
set_option maxHeartbeats 1000000 in
theorem wRelease_yes (d b:Nat) (p:Value) (n:Int) (l:Int) (g:Int) (ep:Nat) (tl:Nat) (la:Nat) (q:Option Addr) (m:Nat) (c:Nat) (rs:Int) (bg:Bool) (r:Int) (w:World) (h:Blk w b TLg #[p,.int .i64 n,.int .i64 l,.int .i64 g,.int .u64 ep,.int .u64 tl,.int .u64 la,.slice q m c,.int .i64 rs,.bool bg]) (hp:p=.pointer (some ⟨d,0,none⟩)) (hr:0≤r) (h0:0≤rs) (h1:rs≤1000000) :
  Calls Tryz.prog 35 #[.pointer (some ⟨b,0,none⟩),.int .i64 r] w fun e w'=>e=.returned (.tuple #[])∧∃ W,Gr w W∧w'=W.setCell ⟨b,8,none⟩ (.int .i64 (rs - min r rs)):=by
 have HM:=Lib.hid (wmissing_no d b p n l g ep tl la q m c rs bg w h hp);have HB:=Lib.hid h;obtain ⟨Y,hY⟩:∃ Y,Y=min r rs:=⟨_,rfl⟩;obtain ⟨Z,hZ⟩:∃ Z,Z=rs - Y:=⟨_,rfl⟩;have HYZ:Hid (min r rs=Y∧IntKind.i64.wrap (rs - Y)=Z):=Lib.hid ⟨hY.symm,by rw [IntWalk.i64_in _ (by omega)];omega⟩;rw [← hY,← hZ]
 have hr':¬ r < 0:=by omega
 clear h hY hZ
 go_enter Tryz.func35,Tryz.ntmps35
 go_wp2_with fail;refine HM.out.mono ?_;rintro e w1 ⟨rfl,rfl⟩;go_wp2_with fail;refine Flow.regionZ 13 13 (by kernel_rfl) [] 20 (SlRel b r rs Y Z) (Gr w) (fun w'=>∃ W,Gr w W∧w'=W.setCell ⟨b,8,none⟩ (.int .i64 Z)) (fun _=>True) (fun _ _ _=>True) (by kernel_rfl) (by kernel_rfl) (by kernel_rfl) (fun _ _ _ _ _ _ h _=>h) ⟨rfl,rfl,rfl,Nat.le_refl _,fun _ _=>rfl⟩ True.intro ?steps ?fin
 case steps=>
  refine .cons (fun a W hfr hinv hear hdep K hK=>?_) ?_
  · have t0:=tAt (.pointer (some ⟨b,0,none⟩)) (hfr.at 0 (by kernel_rfl));refine fW0 rfl ?_;clear hfr hdep hear;go_simp;exact hK _ _ True.intro hinv (fun _=>True.intro) (dsT (by trivial))
  refine .cons (fun a W hfr hinv hear hdep K hK=>?_) ?_
  · have t10:=tAt (.pointer (some ⟨b,0,none⟩)) (hdep 10 (by kernel_rfl));refine fW0 rfl ?_;clear hfr hdep hear;go_simp;exact hK _ _ True.intro hinv (fun _=>True.intro) (dsT (by trivial))
  refine .cons (fun a W hfr hinv hear hdep K hK=>?_) ?_
  · have t11:=tAt (.pointer (some ⟨b,0,none⟩)) (hdep 11 (by kernel_rfl));refine fW0 rfl ?_;clear hfr hdep hear;go_simp;exact hK _ _ True.intro hinv (fun _=>True.intro) (dsT (by trivial))
  refine .cons (fun a W hfr hinv hear hdep K hK=>?_) ?_
  · have t12:=tAt (.pointer (some ⟨b,8,none⟩)) (hdep 12 (by kernel_rfl));have c8:=(HB.out.gr hinv).c10.2.2.2.2.2.2.2.2.1;refine fW0 rfl ?_;clear hfr hdep hear;go_simp;exact hK _ _ True.intro hinv (fun _=>True.intro) (dsT (by trivial))
  refine .cons (fun a W hfr hinv hear hdep K hK=>?_) ?_
  · have t1:=tAt (.int .i64 r) (hfr.at 1 (by kernel_rfl));refine fW0 rfl ?_;clear hfr hdep hear;go_simp;exact hK _ _ True.intro hinv (fun _=>True.intro) (dsT (by trivial))
  refine .cons (fun a W hfr hinv hear hdep K hK=>?_) ?_
  · have t0:=tAt (.pointer (some ⟨b,0,none⟩)) (hfr.at 0 (by kernel_rfl));refine fW0 rfl ?_;clear hfr hdep hear;go_simp;exact hK _ _ True.intro hinv (fun _=>True.intro) (dsT (by trivial))
  refine .cons (fun a W hfr hinv hear hdep K hK=>?_) ?_
  · have t15:=tAt (.pointer (some ⟨b,0,none⟩)) (hdep 15 (by kernel_rfl));refine fW0 rfl ?_;clear hfr hdep hear;go_simp;exact hK _ _ True.intro hinv (fun _=>True.intro) (dsT (by trivial))
  refine .cons (fun a W hfr hinv hear hdep K hK=>?_) ?_
  · have t16:=tAt (.pointer (some ⟨b,0,none⟩)) (hdep 16 (by kernel_rfl));refine fW0 rfl ?_;clear hfr hdep hear;go_simp;exact hK _ _ True.intro hinv (fun _=>True.intro) (dsT (by trivial))
  refine .cons (fun a W hfr hinv hear hdep K hK=>?_) ?_
  · have t17:=tAt (.pointer (some ⟨b,8,none⟩)) (hdep 17 (by kernel_rfl));have c8:=(HB.out.gr hinv).c10.2.2.2.2.2.2.2.2.1;refine fW0 rfl ?_;clear hfr hdep hear;go_simp;exact hK _ _ True.intro hinv (fun _=>True.intro) (dsT (by trivial))
  refine .cons (fun a W hfr hinv hear hdep K hK=>?_) ?_
  · have t14:=tAt (.int .i64 r) (hdep 14 (by kernel_rfl));have t18:=tAt (.int .i64 rs) (hdep 18 (by kernel_rfl));have hq:=HYZ.out.1;refine fW0 rfl ?_;clear hfr hdep hear;go_simp;exact hK _ _ True.intro hinv (fun _=>True.intro) (dsT (by trivial))
  refine .cons (fun a W hfr hinv hear hdep K hK=>?_) ?_
  · have t13:=tAt (.int .i64 rs) (hdep 13 (by kernel_rfl));have t19:=tAt (.int .i64 Y) (hdep 19 (by kernel_rfl));have hq:=HYZ.out.2;refine fW0 rfl ?_;clear hfr hdep hear;go_simp;exact hK _ _ True.intro hinv (fun _=>True.intro) (dsT (by trivial))
  refine .cons (fun a W hfr hinv hear hdep K hK=>?_) ?_
  · have t10:=tAt (.pointer (some ⟨b,0,none⟩)) (hdep 10 (by kernel_rfl));refine fW0 rfl ?_;clear hfr hdep hear;go_simp;exact hK _ _ True.intro hinv (fun _=>True.intro) (dsT (by trivial))
  refine .cons (fun a W hfr hinv hear hdep K hK=>?_) ?_
  · have t21:=tAt (.pointer (some ⟨b,0,none⟩)) (hdep 21 (by kernel_rfl));refine fW0 rfl ?_;clear hfr hdep hear;go_simp;exact hK _ _ True.intro hinv (fun _=>True.intro) (dsT (by trivial))
  refine .cons (fun a W hfr hinv hear hdep K hK=>?_) ?_
  · have t22:=tAt (.pointer (some ⟨b,8,none⟩)) (hdep 22 (by kernel_rfl));have t20:=tAt (.int .i64 Z) (hdep 20 (by kernel_rfl));refine fW0 rfl ?_;clear hfr hdep;have f8:=(HB.out.gr hinv).f10.2.2.2.1;have c8:=(HB.out.gr hinv).c10.2.2.2.2.2.2.2.2.1;clear hear;go_simp;exact hK undef _ True.intro ⟨W,hinv,rfl⟩ True.intro (fun d hd=>by cases hd)
  exact True.intro
 case fin=>
  intro a W hfr hfin hsl
  clear hsl;have e:=Flow.frame hfr [10,11,12,13,14,15,16,17,18,19,20,21,22] (List.range 23) (by kernel_rfl) (by kernel_rfl)
  simp [List.range,List.range.loop] at e
  rw [e];have HFin:=Lib.hid hfin;clear e hfr hfin;exact bodyPost_end (results_none rfl _ _ _) rfl ⟨rfl,HFin.out⟩
end Go.Proofs.YtlijbgapkmfnaaaGreat
