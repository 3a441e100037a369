/-
  Texts, put together: RecBody.
-/
import Derived.Test.YtdmhemgepdknhaaGreatV1
import Derived.Test.YtdmhemgepdknhaaGreatV6
import Derived.Test.YtdmhemgepdknhaaGreatV11
set_option linter.unusedVariables false
set_option linter.unusedSimpArgs false
namespace Go.Proofs.YtdmhemgepdknhaaGreat
open Go.RowKit Cr
def IsB (w:World) (v:Value) (xs:List Int):Prop:=∃ p n c,v=.slice p n c∧Byt w p n c xs
def IsRows (w:World) (v:Value) (xss:List (List Int)):Prop:=∃ p n c,v=.slice p n c∧Rows w p n c xss
theorem IsB.kept {w w':World} {v:Value} {xs:List Int} (h:IsB w v xs) (g:Gr w w'):IsB w' v xs:=by
 obtain ⟨p,n,c,e,h⟩:=h;exact ⟨p,n,c,e,h.kept g⟩
theorem IsRows.kept {w w':World} {v:Value} {xss:List (List Int)} (h:IsRows w v xss) (g:Gr w w'):IsRows w' v xss:=by
 obtain ⟨p,n,c,e,h⟩:=h;exact ⟨p,n,c,e,h.kept g⟩
def OwnX (B:Nat) (w:World) (v:Value) (xs:List Int):Prop:=∃ p n c,v=.slice p n c∧Byt w p n c xs∧∀ a,p=some a→B≤a.block
theorem OwnX.kept {B:Nat} {w w':World} {v:Value} {xs:List Int} (h:OwnX B w v xs) (g:Gr w w'):OwnX B w' v xs:=by
 obtain ⟨p,n,c,e,h,f⟩:=h;exact ⟨p,n,c,e,h.kept g,f⟩
structure Sl1 where
 p:Option Addr
 n:Nat
 c:Nat
 xs:List Int
def Sl1.v (s:Sl1):Value:=.slice s.p s.n s.c
theorem Rows.build {w W:World} {t:TypeId} (ss:List Sl1) (hm:ss.length≤1000) (h:∀ s ∈ ss,Byt w s.p s.n s.c s.xs) (hW:W.heap=(w.alloc (.cells (ss.map Sl1.v).toArray t)).heap):Rows W (some ⟨w.heap.size,0,none⟩) ss.length ss.length (ss.map Sl1.xs):=by
 have hg:=(Below.refl w.heap.size w).alloc (Nat.le_refl _) (.cells (ss.map Sl1.v).toArray t);refine ⟨by simp,Nat.le_refl _,by simp only [maxLen];omega,fun _=>⟨_,0,rfl,fun i hi=>?_⟩,fun h=>by cases h⟩;refine ⟨ss[i].p,ss[i].n,ss[i].c,?_,?_⟩
 ·
  have hc:W.cell? ⟨w.heap.size,0+i,none⟩=((ss.map Sl1.v).toArray)[0+i]?:=by
   rw [← World.cell?_alloc_at (w:=w) (ss.map Sl1.v).toArray t w.heap.size (0+i) rfl];exact World.cell?_of_block (w:=w.alloc _) (by rw [hW])
  rw [hc]
  simp [hi,Sl1.v]
 ·
  have e:(ss.map Sl1.xs).getD i []=ss[i].xs:=by simp [List.getD,hi]
  rw [e];exact ((h _ (List.getElem_mem hi)).kept hg).heap hW
theorem Rows.nine {w W:World} {t:TypeId} {p1 p2 p3 p4 p5 p6 p7 p8 p9:Option Addr} {n1 n2 n3 n4 n5 n6 n7 n8 n9 c1 c2 c3 c4 c5 c6 c7 c8 c9:Nat} {x1 x2 x3 x4 x5 x6 x7 x8 x9:List Int} (h1:Byt w p1 n1 c1 x1) (h2:Byt w p2 n2 c2 x2) (h3:Byt w p3 n3 c3 x3) (h4:Byt w p4 n4 c4 x4) (h5:Byt w p5 n5 c5 x5) (h6:Byt w p6 n6 c6 x6) (h7:Byt w p7 n7 c7 x7) (h8:Byt w p8 n8 c8 x8) (h9:Byt w p9 n9 c9 x9)
  (hW:W.heap=(w.alloc (.cells #[.slice p1 n1 c1,.slice p2 n2 c2,.slice p3 n3 c3,.slice p4 n4 c4,.slice p5 n5 c5,.slice p6 n6 c6,.slice p7 n7 c7,.slice p8 n8 c8,.slice p9 n9 c9] t)).heap):Rows W (some ⟨w.heap.size,0,none⟩) 9 9 [x1,x2,x3,x4,x5,x6,x7,x8,x9]:=
 Rows.build (w:=w) (W:=W) (t:=t) [⟨p1,n1,c1,x1⟩,⟨p2,n2,c2,x2⟩,⟨p3,n3,c3,x3⟩,⟨p4,n4,c4,x4⟩,⟨p5,n5,c5,x5⟩,⟨p6,n6,c6,x6⟩,⟨p7,n7,c7,x7⟩,⟨p8,n8,c8,x8⟩,⟨p9,n9,c9,x9⟩] (by simp)
  (fun s hs=>by
   simp only [List.mem_cons,List.not_mem_nil,or_false] at hs
   rcases hs with rfl | rfl | rfl | rfl | rfl | rfl | rfl | rfl | rfl <;> assumption) hW
theorem recWord_any (n:Nat) (s:Int) (w:World):Calls Tryz.prog 110 #[.int .u64 n,.int .i64 s] w (RetByte (putR n s) w):=by
 have HP:=Lib.hid (put_any n s w)
 go_enter Tryz.func110,Tryz.ntmps110
 go_wp2_with fail;refine HP.out.mono ?_;rintro e w' ⟨p,m,c,rfl,hb,g,hf⟩;go_wp2_with fail
 go_ret
 exact ⟨p,m,c,rfl,hb,g,hf⟩
theorem word_fit (n k:Nat) (w:World) (h:fitsB n k=true):Calls Tryz.prog 110 #[.int .u64 n,.int .i64 k] w (RetByte (Wd.enc k n) w):=by
 have h1:=recWord_any n k w
 unfold putR at h1
 rw [h] at h1
 exact h1
theorem fitK {n k:Nat} (h1:1≤k) (h8:k≤8) (h:n < 256 ^ k):fitsB n k=true:=by
 simp only [fitsB,Bool.and_eq_true,mayB_iff,decide_eq_true_eq]
 exact ⟨by omega,by rw [Int.toNat_natCast];exact h⟩
def nine (K t p x G O:Nat) (b a:List Int):List (List Int):=[Wd.enc 1 K,Wd.enc 8 t,Wd.enc 8 p,Wd.enc 8 x,Wd.enc 2 G,Wd.enc 1 O,Wd.enc 1 a.length,b,a]
theorem nine_rec (K t p x G O:Nat) (b a:List Int):(nine K t p x G O b a).flatten=bodyL ⟨K,t,p,x,G,O,b,a⟩:=rfl
theorem nine_tot (K t p x G O:Nat) (b a:List Int):tot (nine K t p x G O b a)=29+b.length+a.length:=by
 unfold tot;rw [nine_rec,bodyL_len]
def SlBP (d:Nat) (kk:Nat) (t:Nat) (p:Nat) (x:Nat) (gg:Nat) (oo:Nat) (b:List Int) (a:List Int) (_:Option Addr) (_:Nat) (pa:Option Addr) (ca:Nat) (slot:Nat) (v:Value) (w:World):Prop:=
 match slot with
 | 3=>v=.pointer (some ⟨d,0,none⟩)
 | 4=>v=.int .i64 kk
 | 5=>v=.int .u64 (kk:Nat)
 | 7=>v=.pointer (some ⟨d,1,none⟩)
 | 8=>v=.int .u64 t
 | 10=>v=.pointer (some ⟨d,2,none⟩)
 | 11=>v=.int .u64 p
 | 13=>v=.pointer (some ⟨d,3,none⟩)
 | 14=>v=.int .u64 x
 | 16=>v=.pointer (some ⟨d,4,none⟩)
 | 17=>v=.int .i64 gg
 | 18=>v=.int .u64 (gg:Nat)
 | 20=>v=.pointer (some ⟨d,5,none⟩)
 | 21=>v=.int .i64 oo
 | 22=>v=.int .u64 (oo:Nat)
 | 24=>v=.pointer (some ⟨d,7,none⟩)
 | 25=>v=.slice pa a.length ca
 | 26=>v=.int .i64 a.length
 | 27=>v=.int .u64 (a.length:Nat)
 | 29=>v=.pointer (some ⟨d,6,none⟩)
 | 31=>v=.pointer (some ⟨d,7,none⟩)
 | 2=>OwnX d w v (nine kk t p x gg oo b a).flatten
 | 6=>IsB w v (Wd.enc 1 kk)
 | 9=>IsB w v (Wd.enc 8 t)
 | 12=>IsB w v (Wd.enc 8 p)
 | 15=>IsB w v (Wd.enc 8 x)
 | 19=>IsB w v (Wd.enc 2 gg)
 | 23=>IsB w v (Wd.enc 1 oo)
 | 28=>IsB w v (Wd.enc 1 a.length)
 | 30=>IsB w v b
 | 32=>IsB w v a
 | 33=>IsRows w v (nine kk t p x gg oo b a)
 | 34=>OwnX d w v (nine kk t p x gg oo b a).flatten
 | _=>True
theorem slBP_gr {d kk t p x gg oo:Nat} {b a:List Int} {pb:Option Addr} {cb:Nat} {pa:Option Addr} {ca:Nat} {s:Nat} {v:Value} {w w':World} (h:SlBP d kk t p x gg oo b a pb cb pa ca s v w) (g:Gr w w'):SlBP d kk t p x gg oo b a pb cb pa ca s v w':=by
 unfold SlBP at *
 split <;> simp_all
 all_goals first
  | exact IsB.kept (by assumption) g
  | exact IsRows.kept (by assumption) g
  | exact OwnX.kept (by assumption) g
set_option maxRecDepth 100000 in
set_option maxHeartbeats 4000000 in
theorem body_nat (kk:Nat) (t:Nat) (p:Nat) (x:Nat) (gg:Nat) (oo:Nat) (b:List Int) (a:List Int) (pb:Option Addr) (cb:Nat) (pa:Option Addr) (ca:Nat) (w:World) (hb:Byt w pb b.length cb b) (ha:Byt w pa a.length ca a) (hK:kk≤4) (ht:t≤18446744073709551615) (hp:p≤18446744073709551615) (hx:x≤18446744073709551615) (hG:gg < 4096) (hO:oo≤247) (hlb:b.length≤248) (hla:a.length≤248) :
  Calls Tryz.prog 109 #[.agg #[.int .i64 kk,.int .u64 t,.int .u64 p,.int .u64 x,.int .i64 gg,.int .i64 oo,.slice pb b.length cb,.slice pa a.length ca]] w (RetByte (nine kk t p x gg oo b a).flatten w):=by
 have HB:=Lib.hid (Blk.new w TR #[.int .i64 kk,.int .u64 t,.int .u64 p,.int .u64 x,.int .i64 gg,.int .i64 oo,.slice pb b.length cb,.slice pa a.length ca]);have HG0:=Lib.hid ((Gr.refl w).alloc (Nat.le_refl _) (.cells #[.int .i64 kk,.int .u64 t,.int .u64 p,.int .u64 x,.int .i64 gg,.int .i64 oo,.slice pb b.length cb,.slice pa a.length ca] TR));have HY:=Lib.hid (hb.kept HG0.out);have HX:=Lib.hid (ha.kept HG0.out);have HW:Hid (IntKind.u64.wrap (kk:Int)=kk∧IntKind.u64.wrap (gg:Int)=gg∧IntKind.u64.wrap (oo:Int)=oo∧IntKind.u64.wrap (a.length:Int)=a.length):=Lib.hid (by simp only [IntKind.wrap_u64];omega);have HT:Hid (tot (nine kk t p x gg oo b a)≤140737488355328):=Lib.hid (by rw [nine_tot];omega);have HF:Hid (fitsB kk 1=true∧fitsB t 8=true∧fitsB p 8=true∧fitsB x 8=true∧fitsB gg 2=true∧fitsB oo 1=true∧fitsB a.length 1=true):=Lib.hid ⟨fitK (k:=1) (by omega) (by omega) (by omega),fitK (k:=8) (by omega) (by omega) (by omega),fitK (k:=8) (by omega) (by omega) (by omega),fitK (k:=8) (by omega) (by omega) (by omega),fitK (k:=2) (by omega) (by omega) (by omega),fitK (k:=1) (by omega) (by omega) (by omega),fitK (k:=1) (by omega) (by omega) (by omega)⟩
 go_enter Tryz.func109,Tryz.ntmps109
 go_wp2_with fail;refine Flow.region (SlBP w.heap.size kk t p x gg oo b a pb cb pa ca) (Gr (w.alloc (.cells #[.int .i64 kk,.int .u64 t,.int .u64 p,.int .u64 x,.int .i64 gg,.int .i64 oo,.slice pb b.length cb,.slice pa a.length ca] TR))) Gr (by kernel_rfl) (by kernel_rfl) (fun _ _ _ _ h g=>slBP_gr h g) ⟨rfl,rfl,rfl,Nat.le_refl _,fun _ _=>rfl⟩ ?steps ?fin
 case steps=>
  refine .cons (fun A W hfr hinv hdep K hK=>?_) ?_
  · have t1:=tAt (.pointer (some ⟨w.heap.size,0,none⟩)) (hfr.at 1 (by kernel_rfl));refine fW0 rfl ?_;clear hfr hdep;go_simp;exact hK _ _ (Gr.refl _) hinv (dsT (by trivial))
  refine .cons (fun A W hfr hinv hdep K hK=>?_) ?_
  · have t3:=tAt (.pointer (some ⟨w.heap.size,0,none⟩)) (hdep 3 (by kernel_rfl));refine fW0 rfl ?_;clear hfr hdep;obtain ⟨c0,c1,c2,c3,c4,c5,c6,c7⟩:=(HB.out.below hinv HB.out.lt).c8;go_simp;exact hK _ _ (Gr.refl _) hinv (dsT (by trivial))
  refine .cons (fun A W hfr hinv hdep K hK=>?_) ?_
  · have t4:=tAt (.int .i64 kk) (hdep 4 (by kernel_rfl));refine fW0 rfl ?_;clear hfr hdep;have hw:=HW.out;obtain ⟨w1,w2,w3,w4⟩:=hw;go_simp;exact hK _ _ (Gr.refl _) hinv (dsT (by trivial))
  refine .cons (fun A W hfr hinv hdep K hK=>?_) ?_
  · have t5:=tAt (.int .u64 (kk:Nat)) (hdep 5 (by kernel_rfl));refine fW0 rfl ?_;clear hfr hdep;go_simp;refine (word_fit kk 1 W (by first | exact HF.out.1 | exact HF.out.2.1 | exact HF.out.2.2.1 | exact HF.out.2.2.2.1 | exact HF.out.2.2.2.2.1 | exact HF.out.2.2.2.2.2.1 | exact HF.out.2.2.2.2.2.2)).mono ?_;rintro e W2 ⟨q,m,c,rfl,hy,g1,hf⟩;exact hK _ _ g1 (Gr.trans hinv g1) (fun d hd=>by cases hd;exact ⟨_,_,_,rfl,hy⟩)
  refine .cons (fun A W hfr hinv hdep K hK=>?_) ?_
  · have t1:=tAt (.pointer (some ⟨w.heap.size,0,none⟩)) (hfr.at 1 (by kernel_rfl));refine fW0 rfl ?_;clear hfr hdep;go_simp;exact hK _ _ (Gr.refl _) hinv (dsT (by trivial))
  refine .cons (fun A W hfr hinv hdep K hK=>?_) ?_
  · have t7:=tAt (.pointer (some ⟨w.heap.size,1,none⟩)) (hdep 7 (by kernel_rfl));refine fW0 rfl ?_;clear hfr hdep;obtain ⟨c0,c1,c2,c3,c4,c5,c6,c7⟩:=(HB.out.below hinv HB.out.lt).c8;go_simp;exact hK _ _ (Gr.refl _) hinv (dsT (by trivial))
  refine .cons (fun A W hfr hinv hdep K hK=>?_) ?_
  · have t8:=tAt (.int .u64 t) (hdep 8 (by kernel_rfl));refine fW0 rfl ?_;clear hfr hdep;go_simp;refine (word_fit t 8 W (by first | exact HF.out.1 | exact HF.out.2.1 | exact HF.out.2.2.1 | exact HF.out.2.2.2.1 | exact HF.out.2.2.2.2.1 | exact HF.out.2.2.2.2.2.1 | exact HF.out.2.2.2.2.2.2)).mono ?_;rintro e W2 ⟨q,m,c,rfl,hy,g1,hf⟩;exact hK _ _ g1 (Gr.trans hinv g1) (fun d hd=>by cases hd;exact ⟨_,_,_,rfl,hy⟩)
  refine .cons (fun A W hfr hinv hdep K hK=>?_) ?_
  · have t1:=tAt (.pointer (some ⟨w.heap.size,0,none⟩)) (hfr.at 1 (by kernel_rfl));refine fW0 rfl ?_;clear hfr hdep;go_simp;exact hK _ _ (Gr.refl _) hinv (dsT (by trivial))
  refine .cons (fun A W hfr hinv hdep K hK=>?_) ?_
  · have t10:=tAt (.pointer (some ⟨w.heap.size,2,none⟩)) (hdep 10 (by kernel_rfl));refine fW0 rfl ?_;clear hfr hdep;obtain ⟨c0,c1,c2,c3,c4,c5,c6,c7⟩:=(HB.out.below hinv HB.out.lt).c8;go_simp;exact hK _ _ (Gr.refl _) hinv (dsT (by trivial))
  refine .cons (fun A W hfr hinv hdep K hK=>?_) ?_
  · have t11:=tAt (.int .u64 p) (hdep 11 (by kernel_rfl));refine fW0 rfl ?_;clear hfr hdep;go_simp;refine (word_fit p 8 W (by first | exact HF.out.1 | exact HF.out.2.1 | exact HF.out.2.2.1 | exact HF.out.2.2.2.1 | exact HF.out.2.2.2.2.1 | exact HF.out.2.2.2.2.2.1 | exact HF.out.2.2.2.2.2.2)).mono ?_;rintro e W2 ⟨q,m,c,rfl,hy,g1,hf⟩;exact hK _ _ g1 (Gr.trans hinv g1) (fun d hd=>by cases hd;exact ⟨_,_,_,rfl,hy⟩)
  refine .cons (fun A W hfr hinv hdep K hK=>?_) ?_
  · have t1:=tAt (.pointer (some ⟨w.heap.size,0,none⟩)) (hfr.at 1 (by kernel_rfl));refine fW0 rfl ?_;clear hfr hdep;go_simp;exact hK _ _ (Gr.refl _) hinv (dsT (by trivial))
  refine .cons (fun A W hfr hinv hdep K hK=>?_) ?_
  · have t13:=tAt (.pointer (some ⟨w.heap.size,3,none⟩)) (hdep 13 (by kernel_rfl));refine fW0 rfl ?_;clear hfr hdep;obtain ⟨c0,c1,c2,c3,c4,c5,c6,c7⟩:=(HB.out.below hinv HB.out.lt).c8;go_simp;exact hK _ _ (Gr.refl _) hinv (dsT (by trivial))
  refine .cons (fun A W hfr hinv hdep K hK=>?_) ?_
  · have t14:=tAt (.int .u64 x) (hdep 14 (by kernel_rfl));refine fW0 rfl ?_;clear hfr hdep;go_simp;refine (word_fit x 8 W (by first | exact HF.out.1 | exact HF.out.2.1 | exact HF.out.2.2.1 | exact HF.out.2.2.2.1 | exact HF.out.2.2.2.2.1 | exact HF.out.2.2.2.2.2.1 | exact HF.out.2.2.2.2.2.2)).mono ?_;rintro e W2 ⟨q,m,c,rfl,hy,g1,hf⟩;exact hK _ _ g1 (Gr.trans hinv g1) (fun d hd=>by cases hd;exact ⟨_,_,_,rfl,hy⟩)
  refine .cons (fun A W hfr hinv hdep K hK=>?_) ?_
  · have t1:=tAt (.pointer (some ⟨w.heap.size,0,none⟩)) (hfr.at 1 (by kernel_rfl));refine fW0 rfl ?_;clear hfr hdep;go_simp;exact hK _ _ (Gr.refl _) hinv (dsT (by trivial))
  refine .cons (fun A W hfr hinv hdep K hK=>?_) ?_
  · have t16:=tAt (.pointer (some ⟨w.heap.size,4,none⟩)) (hdep 16 (by kernel_rfl));refine fW0 rfl ?_;clear hfr hdep;obtain ⟨c0,c1,c2,c3,c4,c5,c6,c7⟩:=(HB.out.below hinv HB.out.lt).c8;go_simp;exact hK _ _ (Gr.refl _) hinv (dsT (by trivial))
  refine .cons (fun A W hfr hinv hdep K hK=>?_) ?_
  · have t17:=tAt (.int .i64 gg) (hdep 17 (by kernel_rfl));refine fW0 rfl ?_;clear hfr hdep;have hw:=HW.out;obtain ⟨w1,w2,w3,w4⟩:=hw;go_simp;exact hK _ _ (Gr.refl _) hinv (dsT (by trivial))
  refine .cons (fun A W hfr hinv hdep K hK=>?_) ?_
  · have t18:=tAt (.int .u64 (gg:Nat)) (hdep 18 (by kernel_rfl));refine fW0 rfl ?_;clear hfr hdep;go_simp;refine (word_fit gg 2 W (by first | exact HF.out.1 | exact HF.out.2.1 | exact HF.out.2.2.1 | exact HF.out.2.2.2.1 | exact HF.out.2.2.2.2.1 | exact HF.out.2.2.2.2.2.1 | exact HF.out.2.2.2.2.2.2)).mono ?_;rintro e W2 ⟨q,m,c,rfl,hy,g1,hf⟩;exact hK _ _ g1 (Gr.trans hinv g1) (fun d hd=>by cases hd;exact ⟨_,_,_,rfl,hy⟩)
  refine .cons (fun A W hfr hinv hdep K hK=>?_) ?_
  · have t1:=tAt (.pointer (some ⟨w.heap.size,0,none⟩)) (hfr.at 1 (by kernel_rfl));refine fW0 rfl ?_;clear hfr hdep;go_simp;exact hK _ _ (Gr.refl _) hinv (dsT (by trivial))
  refine .cons (fun A W hfr hinv hdep K hK=>?_) ?_
  · have t20:=tAt (.pointer (some ⟨w.heap.size,5,none⟩)) (hdep 20 (by kernel_rfl));refine fW0 rfl ?_;clear hfr hdep;obtain ⟨c0,c1,c2,c3,c4,c5,c6,c7⟩:=(HB.out.below hinv HB.out.lt).c8;go_simp;exact hK _ _ (Gr.refl _) hinv (dsT (by trivial))
  refine .cons (fun A W hfr hinv hdep K hK=>?_) ?_
  · have t21:=tAt (.int .i64 oo) (hdep 21 (by kernel_rfl));refine fW0 rfl ?_;clear hfr hdep;have hw:=HW.out;obtain ⟨w1,w2,w3,w4⟩:=hw;go_simp;exact hK _ _ (Gr.refl _) hinv (dsT (by trivial))
  refine .cons (fun A W hfr hinv hdep K hK=>?_) ?_
  · have t22:=tAt (.int .u64 (oo:Nat)) (hdep 22 (by kernel_rfl));refine fW0 rfl ?_;clear hfr hdep;go_simp;refine (word_fit oo 1 W (by first | exact HF.out.1 | exact HF.out.2.1 | exact HF.out.2.2.1 | exact HF.out.2.2.2.1 | exact HF.out.2.2.2.2.1 | exact HF.out.2.2.2.2.2.1 | exact HF.out.2.2.2.2.2.2)).mono ?_;rintro e W2 ⟨q,m,c,rfl,hy,g1,hf⟩;exact hK _ _ g1 (Gr.trans hinv g1) (fun d hd=>by cases hd;exact ⟨_,_,_,rfl,hy⟩)
  refine .cons (fun A W hfr hinv hdep K hK=>?_) ?_
  · have t1:=tAt (.pointer (some ⟨w.heap.size,0,none⟩)) (hfr.at 1 (by kernel_rfl));refine fW0 rfl ?_;clear hfr hdep;go_simp;exact hK _ _ (Gr.refl _) hinv (dsT (by trivial))
  refine .cons (fun A W hfr hinv hdep K hK=>?_) ?_
  · have t24:=tAt (.pointer (some ⟨w.heap.size,7,none⟩)) (hdep 24 (by kernel_rfl));refine fW0 rfl ?_;clear hfr hdep;obtain ⟨c0,c1,c2,c3,c4,c5,c6,c7⟩:=(HB.out.below hinv HB.out.lt).c8;go_simp;exact hK _ _ (Gr.refl _) hinv (dsT (by trivial))
  refine .cons (fun A W hfr hinv hdep K hK=>?_) ?_
  · have t25:=tAt (.slice pa a.length ca) (hdep 25 (by kernel_rfl));refine fW0 rfl ?_;clear hfr hdep;go_simp;exact hK _ _ (Gr.refl _) hinv (dsT (by trivial))
  refine .cons (fun A W hfr hinv hdep K hK=>?_) ?_
  · have t26:=tAt (.int .i64 a.length) (hdep 26 (by kernel_rfl));refine fW0 rfl ?_;clear hfr hdep;have hw:=HW.out;obtain ⟨w1,w2,w3,w4⟩:=hw;go_simp;exact hK _ _ (Gr.refl _) hinv (dsT (by trivial))
  refine .cons (fun A W hfr hinv hdep K hK=>?_) ?_
  · have t27:=tAt (.int .u64 (a.length:Nat)) (hdep 27 (by kernel_rfl));refine fW0 rfl ?_;clear hfr hdep;go_simp;refine (word_fit a.length 1 W (by first | exact HF.out.1 | exact HF.out.2.1 | exact HF.out.2.2.1 | exact HF.out.2.2.2.1 | exact HF.out.2.2.2.2.1 | exact HF.out.2.2.2.2.2.1 | exact HF.out.2.2.2.2.2.2)).mono ?_;rintro e W2 ⟨q,m,c,rfl,hy,g1,hf⟩;exact hK _ _ g1 (Gr.trans hinv g1) (fun d hd=>by cases hd;exact ⟨_,_,_,rfl,hy⟩)
  refine .cons (fun A W hfr hinv hdep K hK=>?_) ?_
  · have t1:=tAt (.pointer (some ⟨w.heap.size,0,none⟩)) (hfr.at 1 (by kernel_rfl));refine fW0 rfl ?_;clear hfr hdep;go_simp;exact hK _ _ (Gr.refl _) hinv (dsT (by trivial))
  refine .cons (fun A W hfr hinv hdep K hK=>?_) ?_
  · have t29:=tAt (.pointer (some ⟨w.heap.size,6,none⟩)) (hdep 29 (by kernel_rfl));refine fW0 rfl ?_;clear hfr hdep;obtain ⟨c0,c1,c2,c3,c4,c5,c6,c7⟩:=(HB.out.below hinv HB.out.lt).c8;go_simp;exact hK _ _ (Gr.refl _) hinv (fun d hd=>by cases hd;exact ⟨_,_,_,rfl,HY.out.kept hinv⟩)
  refine .cons (fun A W hfr hinv hdep K hK=>?_) ?_
  · have t1:=tAt (.pointer (some ⟨w.heap.size,0,none⟩)) (hfr.at 1 (by kernel_rfl));refine fW0 rfl ?_;clear hfr hdep;go_simp;exact hK _ _ (Gr.refl _) hinv (dsT (by trivial))
  refine .cons (fun A W hfr hinv hdep K hK=>?_) ?_
  · have t31:=tAt (.pointer (some ⟨w.heap.size,7,none⟩)) (hdep 31 (by kernel_rfl));refine fW0 rfl ?_;clear hfr hdep;obtain ⟨c0,c1,c2,c3,c4,c5,c6,c7⟩:=(HB.out.below hinv HB.out.lt).c8;go_simp;exact hK _ _ (Gr.refl _) hinv (fun d hd=>by cases hd;exact ⟨_,_,_,rfl,HX.out.kept hinv⟩)
  refine .cons (fun A W hfr hinv hdep K hK=>?_) ?_
  · have s6:IsB W (A.tmps.getD 6 undef) (Wd.enc 1 kk):=hdep 6 (by kernel_rfl);have s9:IsB W (A.tmps.getD 9 undef) (Wd.enc 8 t):=hdep 9 (by kernel_rfl);have s12:IsB W (A.tmps.getD 12 undef) (Wd.enc 8 p):=hdep 12 (by kernel_rfl);have s15:IsB W (A.tmps.getD 15 undef) (Wd.enc 8 x):=hdep 15 (by kernel_rfl);have s19:IsB W (A.tmps.getD 19 undef) (Wd.enc 2 gg):=hdep 19 (by kernel_rfl);have s23:IsB W (A.tmps.getD 23 undef) (Wd.enc 1 oo):=hdep 23 (by kernel_rfl);have s28:IsB W (A.tmps.getD 28 undef) (Wd.enc 1 a.length):=hdep 28 (by kernel_rfl);have s30:IsB W (A.tmps.getD 30 undef) b:=hdep 30 (by kernel_rfl);have s32:IsB W (A.tmps.getD 32 undef) a:=hdep 32 (by kernel_rfl);refine fW0 rfl ?_;clear hfr hdep;obtain ⟨p0,n0,c0,s6,h0⟩:=s6;have t6:=tmpAt s6;obtain ⟨p1,n1,c1,s9,h1⟩:=s9;have t9:=tmpAt s9;obtain ⟨p2,n2,c2,s12,h2⟩:=s12;have t12:=tmpAt s12;obtain ⟨p3,n3,c3,s15,h3⟩:=s15;have t15:=tmpAt s15;obtain ⟨p4,n4,c4,s19,h4⟩:=s19;have t19:=tmpAt s19;obtain ⟨p5,n5,c5,s23,h5⟩:=s23;have t23:=tmpAt s23;obtain ⟨p6,n6,c6,s28,h6⟩:=s28;have t28:=tmpAt s28;obtain ⟨p7,n7,c7,s30,h7⟩:=s30;have t30:=tmpAt s30;obtain ⟨p8,n8,c8,s32,h8⟩:=s32;have t32:=tmpAt s32;go_simp;exact hK _ _ ((Gr.refl W).alloc (Nat.le_refl _) _) (hinv.alloc hinv.size _) (fun d hd=>by cases hd;exact ⟨_,_,_,rfl,Rows.nine h0 h1 h2 h3 h4 h5 h6 h7 h8 rfl⟩)
  refine .cons (fun A W hfr hinv hdep K hK=>?_) ?_
  · have s33:IsRows W (A.tmps.getD 33 undef) (nine kk t p x gg oo b a):=hdep 33 (by kernel_rfl);refine fW0 rfl ?_;clear hfr hdep;obtain ⟨pr,nr,cr,s33,hr⟩:=s33;have t33:=tmpAt s33;go_simp;refine (join_any _ _ _ _ W hr HT.out).mono ?_;rintro e W2 ⟨q,m,c,rfl,hy,g1,hf⟩;exact hK _ _ g1 (Gr.trans hinv g1) (fun d hd=>by cases hd;exact ⟨_,_,_,rfl,hy,fun y hy2=>Nat.le_trans (Nat.le_of_lt (Nat.lt_of_lt_of_le HB.out.lt hinv.size)) (hf y hy2)⟩)
  refine .cons (fun A W hfr hinv hdep K hK=>?_) ?_
  · have s34:OwnX w.heap.size W (A.tmps.getD 34 undef) (nine kk t p x gg oo b a).flatten:=hdep 34 (by kernel_rfl);refine fW0 rfl ?_;clear hfr hdep;obtain ⟨pr,nr,cr,s34,hr⟩:=s34;have t34:=tmpAt s34;go_simp;exact hK _ _ (Gr.refl _) hinv (fun d hd=>by cases hd;exact ⟨_,_,_,rfl,hr⟩)
  exact True.intro
 case fin=>
  intro A W hfr hfin hsl
  obtain ⟨pr,nr,cr,s2,hr,hf⟩:OwnX w.heap.size W (A.tmps.getD 2 undef) (nine kk t p x gg oo b a).flatten:=hsl 32 _ 2 rfl rfl;have t2:=tmpAt s2;have e:=Flow.frame hfr [3,4,5,6,7,8,9,10,11,12,13,14,15,16,17,18,19,20,21,22,23,24,25,26,27,28,29,30,31,32,33,34,2] (List.range 35) (by kernel_rfl) (by kernel_rfl)
  simp [List.range,List.range.loop] at e
  rw [t2] at e
  rw [e];have HG:=Lib.hid (grow1 hfin);have HR:=Lib.hid hr;have HO:=Lib.hid hf;clear e hfr hsl hfin s2 t2 hr hf
  first
  | (rename_i hB;refine hB _ _ ?_)
  | (rename_i hB y0;refine hB _ _ ?_)
  | (rename_i hB y0 y1;refine hB _ _ ?_)
  | (rename_i hB y0 y1 y2;refine hB _ _ ?_)
  | (rename_i hB y0 y1 y2 y3;refine hB _ _ ?_)
  | (rename_i hB y0 y1 y2 y3 y4;refine hB _ _ ?_)
  | (rename_i hB y0 y1 y2 y3 y4 y5;refine hB _ _ ?_)
  | (rename_i hB y0 y1 y2 y3 y4 y5 y6;refine hB _ _ ?_)
  | (rename_i hB y0 y1 y2 y3 y4 y5 y6 y7;refine hB _ _ ?_)
  | (rename_i hB y0 y1 y2 y3 y4 y5 y6 y7 y8;refine hB _ _ ?_)
  go_wp2_with fail
  go_ret
  exact ⟨_,_,_,rfl,HR.out,HG.out,HO.out⟩
end Go.Proofs.YtdmhemgepdknhaaGreat
