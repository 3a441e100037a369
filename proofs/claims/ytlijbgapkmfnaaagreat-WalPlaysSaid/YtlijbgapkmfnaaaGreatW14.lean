/-
  Part 14 of what the laws of stage 6 rest on: contracts of the functions that they call, and what these rest on.
-/
import Derived.ProofKit
import Derived.OpenShut
import Derived.ShutString
import Derived.ChangeOld
import Derived.Deep.Slices
import Derived.Carry
import Derived.WideKeyArr2
import Derived.BigQuiet
import Derived.Test.YtlijbgapkmfnaaaGreatW1
import Derived.Test.YtlijbgapkmfnaaaGreatW2
import Derived.Test.YtlijbgapkmfnaaaGreatW4
import Derived.Test.YtlijbgapkmfnaaaGreatW6
import Derived.Test.YtlijbgapkmfnaaaGreatW7
import Derived.Test.YtlijbgapkmfnaaaGreatW9
import Derived.Test.YtlijbgapkmfnaaaGreatW12
import Derived.Test.YtlijbgapkmfnaaaGreatW13
set_option linter.unusedVariables false
set_option linter.unusedSimpArgs false
namespace Go.Proofs.YtlijbgapkmfnaaaGreat
open Go.RowKit Go.Maps
def SlKc (bp:Nat) (db:Nat) (pw:Value) (slot:Nat) (v:Value) (_:World):Prop:=
 match slot with
 | 113=>v=.pointer (some ⟨bp,0,none⟩)
 | 114=>v=.pointer (some ⟨bp,0,none⟩)
 | 115=>v=.pointer (some ⟨bp,0,none⟩)
 | 116=>v=.pointer (some ⟨bp,0,none⟩)
 | 117=>v=.pointer (some ⟨bp,0,none⟩)
 | 118=>v=.pointer (some ⟨db,0,none⟩)
 | 120=>v=.pointer (some ⟨bp,0,none⟩)
 | 121=>v=.pointer (some ⟨bp,0,none⟩)
 | 122=>v=.pointer (some ⟨bp,1,none⟩)
 | 123=>v=pw
 | 125=>v=.pointer (some ⟨bp,0,none⟩)
 | 126=>v=.pointer (some ⟨bp,0,none⟩)
 | 127=>v=.pointer (some ⟨bp,0,none⟩)
 | 128=>v=.pointer (some ⟨bp,1,none⟩)
 | _=>True
set_option maxRecDepth 100000 in
set_option maxHeartbeats 4000000 in
theorem wknown_any (w:World):Calls Tryz.prog 6 #[] w (RetB true w):=by
 obtain ⟨r1,hr1⟩:∃ r,r=noteR 1 3:=⟨_,rfl⟩
 have HNo1:Hid (∀ V,Calls Tryz.prog 18 #[.int .u64 1,.int .i64 3] V (RetNote r1 V)):=Lib.hid fun V=>by rw [hr1];exact note_any 1 3 V (by decide) (by decide)
 have HI1:Hid (r1.In∧sizeR r1=41∧mayR r1=true∧r1.b.length=3∧r1.a.length=3):=Lib.hid (by
  have hm:=noteR_may 1 3 (by decide) (by decide) (by decide);rw [hr1]
  exact ⟨noteR_in _ _ (by decide),by rw [sizeR_may hm,(noteR_b 1 3).1,(noteR_b 1 3).2],hm,(noteR_b 1 3).1,(noteR_b 1 3).2⟩)
 obtain ⟨r2,hr2⟩:∃ r,r=noteR 2 5:=⟨_,rfl⟩
 have HNo2:Hid (∀ V,Calls Tryz.prog 18 #[.int .u64 2,.int .i64 5] V (RetNote r2 V)):=Lib.hid fun V=>by rw [hr2];exact note_any 2 5 V (by decide) (by decide)
 have HI2:Hid (r2.In∧sizeR r2=45∧mayR r2=true∧r2.b.length=5∧r2.a.length=5):=Lib.hid (by
  have hm:=noteR_may 2 5 (by decide) (by decide) (by decide);rw [hr2]
  exact ⟨noteR_in _ _ (by decide),by rw [sizeR_may hm,(noteR_b 2 5).1,(noteR_b 2 5).2],hm,(noteR_b 2 5).1,(noteR_b 2 5).2⟩)
 obtain ⟨r3,hr3⟩:∃ r,r=noteR 3 1:=⟨_,rfl⟩
 have HNo3:Hid (∀ V,Calls Tryz.prog 18 #[.int .u64 3,.int .i64 1] V (RetNote r3 V)):=Lib.hid fun V=>by rw [hr3];exact note_any 3 1 V (by decide) (by decide)
 have HI3:Hid (r3.In∧sizeR r3=37∧mayR r3=true∧r3.b.length=1∧r3.a.length=1):=Lib.hid (by
  have hm:=noteR_may 3 1 (by decide) (by decide) (by decide);rw [hr3]
  exact ⟨noteR_in _ _ (by decide),by rw [sizeR_may hm,(noteR_b 3 1).1,(noteR_b 3 1).2],hm,(noteR_b 3 1).1,(noteR_b 3 1).2⟩)
 obtain ⟨L0,hL0⟩:∃ L,L=newL 64 16 1 1 0:=⟨_,rfl⟩;have HBg:Hid (∀ V,Calls Tryz.prog 7 #[] V (fun e w'=>∃ bp S T pd pw pl pm,e=.returned (.tuple #[.pointer (some ⟨bp,0,none⟩),.bool true])∧PrB V w' bp S T pd pw pl pm zeroD L0 zeroD L0 20000)):=Lib.hid (by rw [hL0];exact begin_any);obtain ⟨L1,hL1⟩:∃ L,L=layL L0 r1 L0.free:=⟨_,rfl⟩;obtain ⟨L2,hL2⟩:∃ L,L=layL L1 r2 L1.free:=⟨_,rfl⟩;obtain ⟨L3,hL3⟩:∃ L,L=flL zeroD L2 86:=⟨_,rfl⟩;obtain ⟨s3,hs3⟩:∃ s,s=flS zeroD L2 86:=⟨_,rfl⟩
 have hok0:L0.Ok:=by rw [hL0];exact newL_ok.1
 have hfin0:L0.fin=0:=by rw [hL0];rfl
 have hok1:L1.Ok:=by rw [hL1];exact append_ok hok0 r1 (by omega)
 have h2:=two_lay 1
 rw [← hr1,← hr2,← hL0,← hL1,← hL2] at h2
 have hf:=two_flush 1
 rw [← h2.2.2.2.2,← hs3,← hL3] at hf
 have hfin1:L1.fin≤8000000000000000000:=by rw [hL1,layL_fin];split <;> have:=HI1.out <;> omega
 have hok2:L2.Ok:=by rw [hL2];exact append_ok hok1 r2 hfin1
 have hfl:=flL_facts (s:=zeroD) hok2 86
 rw [← hL3] at hfl
 have hfree:L3.free=3394:=by
  unfold Lg.free
  rw [hf.2.2.2.1,hf.2.2.2.2.2.1,hf.2.2.2.2.1,hf.2.2.1]
  decide
 have hlay3:layE r3 L3.free=0:=by
  unfold layE
  rw [if_pos HI3.out.2.2.1,hfree,HI3.out.2.2.2.1,HI3.out.2.2.2.2]
  decide
 have HOk:Hid (L0.Ok∧L1.Ok∧L2.Ok∧L3.Ok):=Lib.hid ⟨hok0,hok1,hok2,hfl.1⟩;have HLay:Hid (layE r1 L0.free=0∧layA L0 r1 L0.free=0∧layE r2 L1.free=0∧layA L1 r2 L1.free=41∧layE r3 L3.free=0):=Lib.hid ⟨h2.1,h2.2.1,h2.2.2.1,h2.2.2.2.1,hlay3⟩
 have hfin2:L2.fin=86:=by rw [h2.2.2.2.2];exact twoL_fin 1
 have HFl:Hid (flE zeroD L2 86=0∧L3.fin=86∧s3.ls.length=64∧(∀ i,s3.t i=[])∧s3.writes=2∧(s3.crash []).nw 3=Sx (secL 0 1 twoB)∧L2.l=16):=Lib.hid ⟨hf.1,hf.2.2.1,hf.2.2.2.2.2.2.1,hf.2.2.2.2.2.2.2.2.1,hf.2.2.2.2.2.2.2.2.2.1,hf.2.2.2.2.2.2.2.2.2.2,by rw [h2.2.2.2.2];rfl⟩;have HD1:=Lib.hid hL1;have HD2:=Lib.hid hL2;have HD3:=Lib.hid hL3;have HS3:=Lib.hid hs3;have HLe:Hid (L0.fin≤8000000000000000000∧L1.fin≤8000000000000000000∧L2.fin≤8000000000000000000):=Lib.hid ⟨by omega,hfin1,by omega⟩;have HRn:Hid (r1=noteR 1 3∧r2=noteR 2 5):=Lib.hid ⟨hr1,hr2⟩;clear hr1 hr2 hr3 hL0 hL1 hL2 hL3 hs3 hok0 hok1 hok2 hfin0 hfin1 hfin2 h2 hf hfl hfree hlay3
 go_enter Tryz.func6,Tryz.ntmps6
 go_wp2_with fail;refine (HBg.out w).mono ?_;rintro e w1 ⟨bp,S,T,pd,pw,pl,pm,rfl,hp⟩;have HP1:=Lib.hid hp;clear hp HBg;go_wp2_with fail;refine (HNo1.out w1).mono ?_;rintro e w2 ⟨v,rfl,hv,g2⟩;obtain ⟨pb1,nb1,cb1,pa1,na1,ca1,rfl,b1,a1,lb1,la1⟩:=hv.at2 (by rw [HI1.out.2.2.2.1];decide) (by rw [HI1.out.2.2.2.2];decide);have HR1:=Lib.hid (And.intro b1 (And.intro a1 (And.intro lb1 la1)));have HG2:=Lib.hid g2;clear hv b1 a1 lb1 la1 g2 HNo1;go_wp2_with fail;refine (HNo2.out w2).mono ?_;rintro e w3 ⟨v,rfl,hv,g3⟩;obtain ⟨pb2,nb2,cb2,pa2,na2,ca2,rfl,b1,a1,lb1,la1⟩:=hv.at2 (by rw [HI2.out.2.2.2.1];decide) (by rw [HI2.out.2.2.2.2];decide);have HR2:=Lib.hid (And.intro b1 (And.intro a1 (And.intro lb1 la1)));have HG3:=Lib.hid g3;clear hv b1 a1 lb1 la1 g3 HNo2;go_wp2_with fail;refine (HNo3.out w3).mono ?_;rintro e w4 ⟨v,rfl,hv,g4⟩;obtain ⟨pb3,nb3,cb3,pa3,na3,ca3,rfl,b1,a1,lb1,la1⟩:=hv.at2 (by rw [HI3.out.2.2.2.1];decide) (by rw [HI3.out.2.2.2.2];decide);have HR3:=Lib.hid (And.intro b1 (And.intro a1 (And.intro lb1 la1)));have HG4:=Lib.hid g4;clear hv b1 a1 lb1 la1 g4 HNo3;have HTh:Hid (Blk (((w4.alloc (.cells #[.int .i64 0,.int .u64 0,.int .u64 0,.int .u64 0,.int .i64 0,.int .i64 0,.slice none 0 0,.slice none 0 0] TR)).alloc (.cells #[.int .i64 0,.int .u64 0,.int .u64 0,.int .u64 0,.int .i64 0,.int .i64 0,.slice none 0 0,.slice none 0 0] TR)).alloc (.cells #[.int .i64 0,.int .u64 0,.int .u64 0,.int .u64 0,.int .i64 0,.int .i64 0,.slice none 0 0,.slice none 0 0] TR)) w4.heap.size TR zrec∧(∀ cs,Blk ((((w4.alloc (.cells #[.int .i64 0,.int .u64 0,.int .u64 0,.int .u64 0,.int .i64 0,.int .i64 0,.slice none 0 0,.slice none 0 0] TR)).alloc (.cells #[.int .i64 0,.int .u64 0,.int .u64 0,.int .u64 0,.int .i64 0,.int .i64 0,.slice none 0 0,.slice none 0 0] TR)).alloc (.cells #[.int .i64 0,.int .u64 0,.int .u64 0,.int .u64 0,.int .i64 0,.int .i64 0,.slice none 0 0,.slice none 0 0] TR)).setRow w4.heap.size cs) (w4.heap.size+1) TR zrec)∧∀ cs cs2,Blk (((((w4.alloc (.cells #[.int .i64 0,.int .u64 0,.int .u64 0,.int .u64 0,.int .i64 0,.int .i64 0,.slice none 0 0,.slice none 0 0] TR)).alloc (.cells #[.int .i64 0,.int .u64 0,.int .u64 0,.int .u64 0,.int .i64 0,.int .i64 0,.slice none 0 0,.slice none 0 0] TR)).alloc (.cells #[.int .i64 0,.int .u64 0,.int .u64 0,.int .u64 0,.int .i64 0,.int .i64 0,.slice none 0 0,.slice none 0 0] TR)).setRow w4.heap.size cs).setRow (w4.heap.size+1) cs2) (w4.heap.size+1+1) TR zrec):=Lib.hid (threeA_blk w4);have hz:((w4.alloc (.cells #[.int .i64 0,.int .u64 0,.int .u64 0,.int .u64 0,.int .i64 0,.int .i64 0,.slice none 0 0,.slice none 0 0] TR)).alloc (.cells #[.int .i64 0,.int .u64 0,.int .u64 0,.int .u64 0,.int .i64 0,.int .i64 0,.slice none 0 0,.slice none 0 0] TR)).alloc (.cells #[.int .i64 0,.int .u64 0,.int .u64 0,.int .u64 0,.int .i64 0,.int .i64 0,.slice none 0 0,.slice none 0 0] TR)=threeA w4:=rfl
 go_wp2_with (first
  | (refine wpList_store_rc rfl (.tmp 3) (.tmp 21) rfl (g:=w4.heap.size) (r:=r1) (pb:=pb1) (nb:=nb1) (cb:=cb1) (pa:=pa1) (na:=na1) (ca:=ca1) ?hb1 ?hx1 ?hy1 ?_)
  | (refine wpList_store_rc rfl (.tmp 4) (.tmp 22) rfl (g:=w4.heap.size+1) (r:=r2) (pb:=pb2) (nb:=nb2) (cb:=cb2) (pa:=pa2) (na:=na2) (ca:=ca2) ?hb2 ?hx2 ?hy2 ?_)
  | (refine wpList_store_rc rfl (.tmp 5) (.tmp 23) rfl (g:=w4.heap.size+1+1) (r:=r3) (pb:=pb3) (nb:=nb3) (cb:=cb3) (pa:=pa3) (na:=na3) (ca:=ca3) ?hb3 ?hx3 ?hy3 ?_))
 all_goals try (first | exact HTh.out.1 | exact HTh.out.2.1 _ | exact HTh.out.2.2 _ _ | with_reducible_and_instances rfl | rfl)
 have H3:=Lib.hid (three_rows w4 (rcv r1 pb1 nb1 cb1 pa1 na1 ca1) (rcv r2 pb2 nb2 cb2 pa2 na2 ca2) (rcv r3 pb3 nb3 cb3 pa3 na3 ca3));obtain ⟨W5,hW5⟩:∃ W,W=((((threeA w4).setRow w4.heap.size (rcv r1 pb1 nb1 cb1 pa1 na1 ca1)).setRow (w4.heap.size+1) (rcv r2 pb2 nb2 cb2 pa2 na2 ca2)).setRow (w4.heap.size+1+1) (rcv r3 pb3 nb3 cb3 pa3 na3 ca3)):=⟨_,rfl⟩
 rw [← hW5] at H3 ⊢
 obtain ⟨B1,hB1⟩:∃ B,B=w4.heap.size:=⟨_,rfl⟩;obtain ⟨B2,hB2⟩:∃ B,B=w4.heap.size+1:=⟨_,rfl⟩;obtain ⟨B3,hB3⟩:∃ B,B=w4.heap.size+1+1:=⟨_,rfl⟩
 rw [← hB3,← hB2,← hB1] at H3
 rw [← hB3,← hB2,← hB1];have hgg:Gr w1 w4:=Gr.trans HG2.out (Gr.trans HG3.out HG4.out);have hs12:=HG2.out.size;have hs23:=HG3.out.size;have hs34:=HG4.out.size;have hs5:=H3.out.2.1;have HK:Hid (PrK w W5 W5 w1.heap.size bp S T pd pw pl pm zeroD L0 zeroD L0 20000):=Lib.hid (PrK.start HP1.out (Gr.trans hgg H3.out.1))
 have hra1:RcAt W5 w1.heap.size W5.heap.size B1 r1 pb1 nb1 cb1 pa1 na1 ca1:=
  ⟨H3.out.2.2.1,HR1.out.1.kept (Gr.trans HG3.out (Gr.trans HG4.out H3.out.1)),HR1.out.2.1.kept (Gr.trans HG3.out (Gr.trans HG4.out H3.out.1)),by omega,fun y hy=>by have:=HR1.out.2.2.1 y hy;omega,fun y hy=>by have:=HR1.out.2.2.2 y hy;omega⟩
 have HA1:Hid (∀ V,(∀ j,w1.heap.size≤j→j < W5.heap.size→V.heap[j]?=W5.heap[j]?)→RcAt V w1.heap.size W5.heap.size B1 r1 pb1 nb1 cb1 pa1 na1 ca1):=Lib.hid fun V h=>hra1.stays h
 have hra2:RcAt W5 w1.heap.size W5.heap.size B2 r2 pb2 nb2 cb2 pa2 na2 ca2:=
  ⟨H3.out.2.2.2.1,HR2.out.1.kept (Gr.trans HG4.out H3.out.1),HR2.out.2.1.kept (Gr.trans HG4.out H3.out.1),by omega,fun y hy=>by have:=HR2.out.2.2.1 y hy;omega,fun y hy=>by have:=HR2.out.2.2.2 y hy;omega⟩
 have HA2:Hid (∀ V,(∀ j,w1.heap.size≤j→j < W5.heap.size→V.heap[j]?=W5.heap[j]?)→RcAt V w1.heap.size W5.heap.size B2 r2 pb2 nb2 cb2 pa2 na2 ca2):=Lib.hid fun V h=>hra2.stays h
 have hra3:RcAt W5 w1.heap.size W5.heap.size B3 r3 pb3 nb3 cb3 pa3 na3 ca3:=
  ⟨H3.out.2.2.2.2,HR3.out.1.kept (H3.out.1),HR3.out.2.1.kept (H3.out.1),by omega,fun y hy=>by have:=HR3.out.2.2.1 y hy;omega,fun y hy=>by have:=HR3.out.2.2.2 y hy;omega⟩
 have HA3:Hid (∀ V,(∀ j,w1.heap.size≤j→j < W5.heap.size→V.heap[j]?=W5.heap[j]?)→RcAt V w1.heap.size W5.heap.size B3 r3 pb3 nb3 cb3 pa3 na3 ca3):=Lib.hid fun V h=>hra3.stays h
 clear hra1 hra2 hra3 hs5 hs34 hs23 hs12 hgg hB1 hB2 hB3 hW5 H3 hz HTh HR1 HR2 HR3 HP1 HG2 HG3 HG4;obtain ⟨⟨lb,rfl⟩,⟨db,rfl⟩⟩:=HK.out.pr.code.ptr
 obtain ⟨mb,rfl⟩:∃ b,pm=.pointer (some ⟨b,0,none⟩):=by
  obtain ⟨_,b,_,_,_,_,_,h,_⟩:=HK.out.pr.doc;exact ⟨b,h⟩
 have hc2:=HK.out.pr.blk.cell 2
 simp at hc2
 have hc8:=(HA1.out W5 HK.out.keep).blk.c8
 have HCa:Hid (Calls Tryz.prog 19 #[.pointer (some ⟨lb,0,none⟩),.agg #[.int .i64 r1.k,.int .u64 (r1.t:Int),.int .u64 (r1.p:Int),.int .u64 (r1.x:Int),.int .i64 r1.g,.int .i64 r1.o,.slice pb1 nb1 cb1,.slice pa1 na1 ca1]] W5.drew (RetC (.tuple #[.int .u64 0,.int .i64 0]) zeroD L1 S (.pointer (some ⟨db,0,none⟩)) (.pointer (some ⟨lb,0,none⟩)) W5.drew)):=Lib.hid (by
  have hr:=HA1.out W5 HK.out.keep;have hg:=(Gr.refl W5).drew;have h:=(HK.out.pr.up hg).code.Append HOk.out.1 r1 HI1.out.1 pb1 nb1 cb1 pa1 na1 ca1 (hr.xb.kept hg) (hr.xa.kept hg)
  rw [HLay.out.1,HLay.out.2.1,← HD1.out] at h
  exact h)
 go_wp2_with fail
 go_region_held3 (fun V=>V.cell? ⟨bp,2,none⟩=some (.pointer (some ⟨lb,0,none⟩))∧V.cell? ⟨B1,0,none⟩=some (.int .i64 r1.k)∧V.cell? ⟨B1,1,none⟩=some (.int .u64 (r1.t:Int))∧V.cell? ⟨B1,2,none⟩=some (.int .u64 (r1.p:Int))∧V.cell? ⟨B1,3,none⟩=some (.int .u64 (r1.x:Int))∧V.cell? ⟨B1,4,none⟩=some (.int .i64 r1.g)∧V.cell? ⟨B1,5,none⟩=some (.int .i64 r1.o)∧V.cell? ⟨B1,6,none⟩=some (.slice pb1 nb1 cb1)∧V.cell? ⟨B1,7,none⟩=some (.slice pa1 na1 ca1)) (first | exact ⟨hc2,hc8⟩ | exact ⟨hc2',hc8'⟩) (first | (go_at_call 19;refine HCa.out.mono ?_;rintro e W6 ⟨S6,rfl,hcc,huu⟩;have HK2:Hid (PrK w W5 W6 w1.heap.size bp S6 T (.pointer (some ⟨db,0,none⟩)) pw (.pointer (some ⟨lb,0,none⟩)) (.pointer (some ⟨mb,0,none⟩)) zeroD L1 zeroD L0 20000):=Lib.hid ((HK.out.up ((Gr.refl W5).drew)).codes hcc huu);have hc2':=HK2.out.pr.blk.cell 2;simp at hc2';have hc8':=(HA1.out W6 HK2.out.keep).blk.c8))
 clear hc2 hc8 hcc huu hc2' hc8' HCa HK;have HK:=HK2;clear HK2;have hc2:=HK.out.pr.blk.cell 2
 simp at hc2
 have hc8:=(HA2.out W6 HK.out.keep).blk.c8
 have HCa:Hid (Calls Tryz.prog 19 #[.pointer (some ⟨lb,0,none⟩),.agg #[.int .i64 r2.k,.int .u64 (r2.t:Int),.int .u64 (r2.p:Int),.int .u64 (r2.x:Int),.int .i64 r2.g,.int .i64 r2.o,.slice pb2 nb2 cb2,.slice pa2 na2 ca2]] W6.drew (RetC (.tuple #[.int .u64 41,.int .i64 0]) zeroD L2 S6 (.pointer (some ⟨db,0,none⟩)) (.pointer (some ⟨lb,0,none⟩)) W6.drew)):=Lib.hid (by
  have hr:=HA2.out W6 HK.out.keep;have hg:=(Gr.refl W6).drew;have h:=(HK.out.pr.up hg).code.Append HOk.out.2.1 r2 HI2.out.1 pb2 nb2 cb2 pa2 na2 ca2 (hr.xb.kept hg) (hr.xa.kept hg)
  rw [HLay.out.2.2.1,HLay.out.2.2.2.1,← HD2.out] at h
  exact h)
 go_wp2_with fail
 go_region_held3 (fun V=>V.cell? ⟨bp,2,none⟩=some (.pointer (some ⟨lb,0,none⟩))∧V.cell? ⟨B2,0,none⟩=some (.int .i64 r2.k)∧V.cell? ⟨B2,1,none⟩=some (.int .u64 (r2.t:Int))∧V.cell? ⟨B2,2,none⟩=some (.int .u64 (r2.p:Int))∧V.cell? ⟨B2,3,none⟩=some (.int .u64 (r2.x:Int))∧V.cell? ⟨B2,4,none⟩=some (.int .i64 r2.g)∧V.cell? ⟨B2,5,none⟩=some (.int .i64 r2.o)∧V.cell? ⟨B2,6,none⟩=some (.slice pb2 nb2 cb2)∧V.cell? ⟨B2,7,none⟩=some (.slice pa2 na2 ca2)) (first | exact ⟨hc2,hc8⟩ | exact ⟨hc2',hc8'⟩) (first | (go_at_call 19;refine HCa.out.mono ?_;rintro e W7 ⟨S7,rfl,hcc,huu⟩;have HK2:Hid (PrK w W5 W7 w1.heap.size bp S7 T (.pointer (some ⟨db,0,none⟩)) pw (.pointer (some ⟨lb,0,none⟩)) (.pointer (some ⟨mb,0,none⟩)) zeroD L2 zeroD L0 20000):=Lib.hid ((HK.out.up ((Gr.refl W6).drew)).codes hcc huu);have hc2':=HK2.out.pr.blk.cell 2;simp at hc2';have hc8':=(HA2.out W7 HK2.out.keep).blk.c8))
 clear hc2 hc8 hcc huu hc2' hc8' HCa HK;have HK:=HK2;clear HK2;have hc81:=(HA1.out W7 HK.out.keep).blk.c8;have hc82:=(HA2.out W7 HK.out.keep).blk.c8
 have HZ1:Hid (∀ V,PrK w W5 V w1.heap.size bp S7 T (.pointer (some ⟨db,0,none⟩)) pw (.pointer (some ⟨lb,0,none⟩)) (.pointer (some ⟨mb,0,none⟩)) zeroD L2 zeroD L0 20000→Calls Tryz.prog 20 #[.agg #[.int .i64 r1.k,.int .u64 (r1.t:Int),.int .u64 (r1.p:Int),.int .u64 (r1.x:Int),.int .i64 r1.g,.int .i64 r1.o,.slice pb1 nb1 cb1,.slice pa1 na1 ca1]] V (RetI 41 V)):=Lib.hid fun V h=>by
  have hr:=HA1.out V h.keep;have h:=refSize_any r1 pb1 nb1 cb1 pa1 na1 ca1 V hr.xb hr.xa
  rw [HI1.out.2.1] at h
  exact h
 have HZ2:Hid (∀ V,PrK w W5 V w1.heap.size bp S7 T (.pointer (some ⟨db,0,none⟩)) pw (.pointer (some ⟨lb,0,none⟩)) (.pointer (some ⟨mb,0,none⟩)) zeroD L2 zeroD L0 20000→Calls Tryz.prog 20 #[.agg #[.int .i64 r2.k,.int .u64 (r2.t:Int),.int .u64 (r2.p:Int),.int .u64 (r2.x:Int),.int .i64 r2.g,.int .i64 r2.o,.slice pb2 nb2 cb2,.slice pa2 na2 ca2]] V (RetI 45 V)):=Lib.hid fun V h=>by
  have hr:=HA2.out V h.keep;have h:=refSize_any r2 pb2 nb2 cb2 pa2 na2 ca2 V hr.xb hr.xa
  rw [HI2.out.2.1] at h
  exact h
 go_wp2_with fail
 go_region_held3 (fun V=>(V.cell? ⟨B1,0,none⟩=some (.int .i64 r1.k)∧V.cell? ⟨B1,1,none⟩=some (.int .u64 (r1.t:Int))∧V.cell? ⟨B1,2,none⟩=some (.int .u64 (r1.p:Int))∧V.cell? ⟨B1,3,none⟩=some (.int .u64 (r1.x:Int))∧V.cell? ⟨B1,4,none⟩=some (.int .i64 r1.g)∧V.cell? ⟨B1,5,none⟩=some (.int .i64 r1.o)∧V.cell? ⟨B1,6,none⟩=some (.slice pb1 nb1 cb1)∧V.cell? ⟨B1,7,none⟩=some (.slice pa1 na1 ca1))∧(V.cell? ⟨B2,0,none⟩=some (.int .i64 r2.k)∧V.cell? ⟨B2,1,none⟩=some (.int .u64 (r2.t:Int))∧V.cell? ⟨B2,2,none⟩=some (.int .u64 (r2.p:Int))∧V.cell? ⟨B2,3,none⟩=some (.int .u64 (r2.x:Int))∧V.cell? ⟨B2,4,none⟩=some (.int .i64 r2.g)∧V.cell? ⟨B2,5,none⟩=some (.int .i64 r2.o)∧V.cell? ⟨B2,6,none⟩=some (.slice pb2 nb2 cb2)∧V.cell? ⟨B2,7,none⟩=some (.slice pa2 na2 ca2))) (first | exact ⟨hc81,hc82⟩ | exact ⟨hx81,hx82⟩ | exact ⟨hy81,hy82⟩) (first
  | (go_at_call 20;(with_reducible refine (HZ1.out W7.drew (HK.out.up ((Gr.refl W7).drew))).mono ?_);rintro e W8 ⟨rfl,g8⟩;have HK8:=Lib.hid ((HK.out.up ((Gr.refl W7).drew)).up g8);have hx81:=(HA1.out W8 HK8.out.keep).blk.c8;have hx82:=(HA2.out W8 HK8.out.keep).blk.c8)
  | (go_at_call 20;(with_reducible refine (HZ2.out W8 HK8.out).mono ?_);rintro e W9 ⟨rfl,g9⟩;have HK9:=Lib.hid (HK8.out.up g9);have hy81:=(HA1.out W9 HK9.out.keep).blk.c8;have hy82:=(HA2.out W9 HK9.out.keep).blk.c8))
 clear hc81 hc82 g8 g9 hx81 hx82 hy81 hy82 HK HK8;have HK:=HK9;clear HK9;have hc2:=HK.out.pr.blk.cell 2
 simp at hc2
 have HFc:Hid (Calls Tryz.prog 21 #[.pointer (some ⟨lb,0,none⟩),.int .u64 86] W9 (RetC (.int .i64 0) s3 L3 S7 (.pointer (some ⟨db,0,none⟩)) (.pointer (some ⟨lb,0,none⟩)) W9)):=Lib.hid (by
  have h:=HK.out.pr.code.Flush HOk.out.2.2.1 (by rw [HFl.out.2.2.2.2.2.2];simp [zeroD,fresh]) (by simp [zeroD,fresh]) 86 (by decide)
  rw [HFl.out.1,← HD3.out,← HS3.out] at h
  exact h)
 go_wp2_with fail;refine HFc.out.mono ?_;rintro e W10 ⟨S10,rfl,hcc,huu⟩;have HK2:Hid (PrK w W5 W10 w1.heap.size bp S10 T (.pointer (some ⟨db,0,none⟩)) pw (.pointer (some ⟨lb,0,none⟩)) (.pointer (some ⟨mb,0,none⟩)) s3 L3 zeroD L0 20000):=Lib.hid (HK.out.codes hcc huu);clear hcc huu HFc HK hc2;have HK:=HK2;clear HK2;have hc8:=(HA1.out W10 HK.out.keep).blk.c8
 have HZ1:Hid (Calls Tryz.prog 20 #[.agg #[.int .i64 r1.k,.int .u64 (r1.t:Int),.int .u64 (r1.p:Int),.int .u64 (r1.x:Int),.int .i64 r1.g,.int .i64 r1.o,.slice pb1 nb1 cb1,.slice pa1 na1 ca1]] W10 (RetI 41 W10)):=Lib.hid (by
  have hr:=HA1.out W10 HK.out.keep;have h:=refSize_any r1 pb1 nb1 cb1 pa1 na1 ca1 W10 hr.xb hr.xa
  rw [HI1.out.2.1] at h
  exact h)
 go_wp2_with fail;refine HZ1.out.mono ?_;rintro e W11 ⟨rfl,g11⟩;have HK2:=Lib.hid (HK.out.up g11);clear g11 HZ1 HZ2 HK hc8;have HK:=HK2;clear HK2;have hc2:=HK.out.pr.blk.cell 2
 simp at hc2
 have HEn:Hid (Calls Tryz.prog 22 #[.pointer (some ⟨lb,0,none⟩)] W11 (RetU 86 W11)):=Lib.hid (by
  have h:=HK.out.pr.code.End HOk.out.2.2.2
  rw [HFl.out.2.1] at h
  exact h)
 go_wp2_with fail;refine HEn.out.mono ?_;rintro e W12 ⟨rfl,g12⟩;have HK2:=Lib.hid (HK.out.up g12);clear g12 HEn HK hc2;have HK:=HK2;clear HK2;have hc3:=HK.out.pr.blk.cell 3
 simp at hc3
 have hc8:=(HA1.out W12 HK.out.keep).blk.c8
 have HCa:Hid (Calls Tryz.prog 23 #[.pointer (some ⟨mb,0,none⟩),.agg #[.int .i64 r1.k,.int .u64 (r1.t:Int),.int .u64 (r1.p:Int),.int .u64 (r1.x:Int),.int .i64 r1.g,.int .i64 r1.o,.slice pb1 nb1 cb1,.slice pa1 na1 ca1],.bool false] W12.drew (RetD (.tuple #[.int .u64 0,.int .i64 0]) zeroD L1 (20000+600) T pw (.pointer (some ⟨mb,0,none⟩)) W12.drew)):=Lib.hid (by
  have hr:=HA1.out W12 HK.out.keep;have hg:=(Gr.refl W12).drew;have h:=(HK.out.pr.up hg).doc.Append HOk.out.1 r1 HI1.out.1 pb1 nb1 cb1 pa1 na1 ca1 (hr.xb.kept hg) (hr.xa.kept hg) (by decide)
  rw [HLay.out.1,HLay.out.2.1,← HD1.out] at h
  exact h)
 go_wp2_with fail
 go_region_held3 (fun V=>V.cell? ⟨bp,3,none⟩=some (.pointer (some ⟨mb,0,none⟩))∧V.cell? ⟨B1,0,none⟩=some (.int .i64 r1.k)∧V.cell? ⟨B1,1,none⟩=some (.int .u64 (r1.t:Int))∧V.cell? ⟨B1,2,none⟩=some (.int .u64 (r1.p:Int))∧V.cell? ⟨B1,3,none⟩=some (.int .u64 (r1.x:Int))∧V.cell? ⟨B1,4,none⟩=some (.int .i64 r1.g)∧V.cell? ⟨B1,5,none⟩=some (.int .i64 r1.o)∧V.cell? ⟨B1,6,none⟩=some (.slice pb1 nb1 cb1)∧V.cell? ⟨B1,7,none⟩=some (.slice pa1 na1 ca1)) (first | exact ⟨hc3,hc8⟩ | exact ⟨hc3',hc8'⟩) (first | (go_at_call 23;refine HCa.out.mono ?_;rintro e W13 ⟨T13,rfl,hcc,huu⟩;have HK2:Hid (PrK w W5 W13 w1.heap.size bp S10 T13 (.pointer (some ⟨db,0,none⟩)) pw (.pointer (some ⟨lb,0,none⟩)) (.pointer (some ⟨mb,0,none⟩)) s3 L3 zeroD L1 20600):=Lib.hid ((HK.out.up ((Gr.refl W12).drew)).docs hcc huu);have hc3':=HK2.out.pr.blk.cell 3;simp at hc3';have hc8':=(HA1.out W13 HK2.out.keep).blk.c8))
 clear hc3 hc8 hcc huu hc3' hc8' HCa HK;have HK:=HK2;clear HK2;have hc3:=HK.out.pr.blk.cell 3
 simp at hc3
 have hc8:=(HA2.out W13 HK.out.keep).blk.c8
 have HCa:Hid (Calls Tryz.prog 23 #[.pointer (some ⟨mb,0,none⟩),.agg #[.int .i64 r2.k,.int .u64 (r2.t:Int),.int .u64 (r2.p:Int),.int .u64 (r2.x:Int),.int .i64 r2.g,.int .i64 r2.o,.slice pb2 nb2 cb2,.slice pa2 na2 ca2],.bool false] W13.drew (RetD (.tuple #[.int .u64 41,.int .i64 0]) zeroD L2 (20600+600) T13 pw (.pointer (some ⟨mb,0,none⟩)) W13.drew)):=Lib.hid (by
  have hr:=HA2.out W13 HK.out.keep;have hg:=(Gr.refl W13).drew;have h:=(HK.out.pr.up hg).doc.Append HOk.out.2.1 r2 HI2.out.1 pb2 nb2 cb2 pa2 na2 ca2 (hr.xb.kept hg) (hr.xa.kept hg) (by decide)
  rw [HLay.out.2.2.1,HLay.out.2.2.2.1,← HD2.out] at h
  exact h)
 go_wp2_with fail
 go_region_held3 (fun V=>V.cell? ⟨bp,3,none⟩=some (.pointer (some ⟨mb,0,none⟩))∧V.cell? ⟨B2,0,none⟩=some (.int .i64 r2.k)∧V.cell? ⟨B2,1,none⟩=some (.int .u64 (r2.t:Int))∧V.cell? ⟨B2,2,none⟩=some (.int .u64 (r2.p:Int))∧V.cell? ⟨B2,3,none⟩=some (.int .u64 (r2.x:Int))∧V.cell? ⟨B2,4,none⟩=some (.int .i64 r2.g)∧V.cell? ⟨B2,5,none⟩=some (.int .i64 r2.o)∧V.cell? ⟨B2,6,none⟩=some (.slice pb2 nb2 cb2)∧V.cell? ⟨B2,7,none⟩=some (.slice pa2 na2 ca2)) (first | exact ⟨hc3,hc8⟩ | exact ⟨hc3',hc8'⟩) (first | (go_at_call 23;refine HCa.out.mono ?_;rintro e W14 ⟨T14,rfl,hcc,huu⟩;have HK2:Hid (PrK w W5 W14 w1.heap.size bp S10 T14 (.pointer (some ⟨db,0,none⟩)) pw (.pointer (some ⟨lb,0,none⟩)) (.pointer (some ⟨mb,0,none⟩)) s3 L3 zeroD L2 21200):=Lib.hid ((HK.out.up ((Gr.refl W13).drew)).docs hcc huu);have hc3':=HK2.out.pr.blk.cell 3;simp at hc3';have hc8':=(HA2.out W14 HK2.out.keep).blk.c8))
 clear hc3 hc8 hcc huu hc3' hc8' HCa HK;have HK:=HK2;clear HK2;have hc3:=HK.out.pr.blk.cell 3
 simp at hc3
 have HFc:Hid (Calls Tryz.prog 24 #[.pointer (some ⟨mb,0,none⟩),.int .u64 86] W14 (RetD (.int .i64 0) s3 L3 21200 T14 pw (.pointer (some ⟨mb,0,none⟩)) W14)):=Lib.hid (by
  have h:=HK.out.pr.doc.Flush HOk.out.2.2.1 (by rw [HFl.out.2.2.2.2.2.2];simp [zeroD,fresh]) (by simp [zeroD,fresh]) zeroD_less 86 (by decide)
  rw [HFl.out.1,← HD3.out,← HS3.out] at h
  exact h)
 go_wp2_with fail;refine HFc.out.mono ?_;rintro e W15 ⟨T15,rfl,hcc,huu⟩;have HK2:Hid (PrK w W5 W15 w1.heap.size bp S10 T15 (.pointer (some ⟨db,0,none⟩)) pw (.pointer (some ⟨lb,0,none⟩)) (.pointer (some ⟨mb,0,none⟩)) s3 L3 s3 L3 21200):=Lib.hid (HK.out.docs hcc huu);clear hcc huu HFc HK hc3;have HK:=HK2;clear HK2;obtain ⟨A3,hA3⟩:∃ A,A=layA L3 r3 L3.free:=⟨_,rfl⟩;obtain ⟨L4,hL4⟩:∃ L,L=layL L3 r3 L3.free:=⟨_,rfl⟩;have HD4:=Lib.hid (And.intro hA3 hL4);clear hA3 hL4;have hc2:=HK.out.pr.blk.cell 2
 simp at hc2
 have hc8:=(HA3.out W15 HK.out.keep).blk.c8
 have HCa:Hid (Calls Tryz.prog 19 #[.pointer (some ⟨lb,0,none⟩),.agg #[.int .i64 r3.k,.int .u64 (r3.t:Int),.int .u64 (r3.p:Int),.int .u64 (r3.x:Int),.int .i64 r3.g,.int .i64 r3.o,.slice pb3 nb3 cb3,.slice pa3 na3 ca3]] W15.drew (RetC (.tuple #[.int .u64 (A3:Int),.int .i64 0]) s3 L4 S10 (.pointer (some ⟨db,0,none⟩)) (.pointer (some ⟨lb,0,none⟩)) W15.drew)):=Lib.hid (by
  have hr:=HA3.out W15 HK.out.keep;have hg:=(Gr.refl W15).drew;have h:=(HK.out.pr.up hg).code.Append HOk.out.2.2.2 r3 HI3.out.1 pb3 nb3 cb3 pa3 na3 ca3 (hr.xb.kept hg) (hr.xa.kept hg)
  rw [HLay.out.2.2.2.2,← HD4.out.1,← HD4.out.2] at h
  exact h)
 go_wp2_with fail
 go_region_held3 (fun V=>V.cell? ⟨bp,2,none⟩=some (.pointer (some ⟨lb,0,none⟩))∧V.cell? ⟨B3,0,none⟩=some (.int .i64 r3.k)∧V.cell? ⟨B3,1,none⟩=some (.int .u64 (r3.t:Int))∧V.cell? ⟨B3,2,none⟩=some (.int .u64 (r3.p:Int))∧V.cell? ⟨B3,3,none⟩=some (.int .u64 (r3.x:Int))∧V.cell? ⟨B3,4,none⟩=some (.int .i64 r3.g)∧V.cell? ⟨B3,5,none⟩=some (.int .i64 r3.o)∧V.cell? ⟨B3,6,none⟩=some (.slice pb3 nb3 cb3)∧V.cell? ⟨B3,7,none⟩=some (.slice pa3 na3 ca3)) (first | exact ⟨hc2,hc8⟩ | exact ⟨hc2',hc8'⟩) (first | (go_at_call 19;refine HCa.out.mono ?_;rintro e W16 ⟨S16,rfl,hcc,huu⟩;have HK2:Hid (PrK w W5 W16 w1.heap.size bp S16 T15 (.pointer (some ⟨db,0,none⟩)) pw (.pointer (some ⟨lb,0,none⟩)) (.pointer (some ⟨mb,0,none⟩)) s3 L4 s3 L3 21200):=Lib.hid ((HK.out.up ((Gr.refl W15).drew)).codes hcc huu);have hc2':=HK2.out.pr.blk.cell 2;simp at hc2';have hc8':=(HA3.out W16 HK2.out.keep).blk.c8))
 clear hc2 hc8 hcc huu hc2' hc8' HCa HK;have HK:=HK2;clear HK2;go_wp2_with fail
 have HBW:Hid (∀ W,Gr W16 W→W.cell? ⟨bp,0,none⟩=some (.pointer (some ⟨db,0,none⟩))∧W.cell? ⟨bp,1,none⟩=some pw∧Blk W bp TPr #[(.pointer (some ⟨db,0,none⟩)),pw,(.pointer (some ⟨lb,0,none⟩)),(.pointer (some ⟨mb,0,none⟩))]):=Lib.hid fun W g=>by
  have h:=HK.out.pr.blk.gr g;exact ⟨h.cell 0,h.cell 1,h⟩
 obtain ⟨s4,hs4⟩:∃ s,s=s3.crash []:=⟨_,rfl⟩
 have HCr1:Hid (∀ W,Gr W16 W→Calls Tryz.prog 25 #[(.pointer (some ⟨db,0,none⟩)),.slice none 0 0] W fun e w'=>NewDk W w' e s4):=Lib.hid fun W g=>by
  obtain ⟨F,hd,_⟩:=(HK.out.pr.code.gr g).disk (w':=W);rw [hs4];exact Crash_any W hd (by rw [HFl.out.2.2.2.2.1];omega) none 0 0 [] (Nums.nil W)
 have HCr2:Hid (∀ W,Gr W16 W→Calls Tryz.prog 26 #[pw,.slice none 0 0] W fun e w'=>NewRf W w' e s4):=Lib.hid fun W g=>by
  obtain ⟨G,hr,_⟩:=(HK.out.pr.doc.gr g).disk (w':=W);rw [hs4];exact refCrash_any W hr (fun i=>by rw [HFl.out.2.2.2.1 i];simp) none 0 0 [] (Nums.nil W)
 have HS4:Hid (s4.ls.length=64∧s4.nw 3=Sx (secL 0 1 twoB)):=Lib.hid ⟨by rw [hs4];show ((List.range s3.ls.length).map _).length=64;rw [List.length_map,List.length_range,HFl.out.2.2.1],by rw [hs4];exact HFl.out.2.2.2.2.2.1⟩;clear hs4;refine Flow.regionF [] 24 (SlKc bp db pw) (InK 6 11 14 17 119 124 W16 (Cr1 W16 s4) (Cr2 W16 s4) (Cr3 W16 bp s4) (Cr4 W16 bp s4)) (fun _ _ _=>True) (by kernel_rfl) (by kernel_rfl) (fun _ _ _ _ _ _ h _=>h) (InK.start (by rfl) (by rfl) (by rfl) (by rfl) (Gr.refl _).drew) ?steps ?fin
 case steps=>
  refine .cons (fun l a W hfr hun hup hdn hinv hdep K hK=>?_) ?_
  · have t1:=tAt (.pointer (some ⟨bp,0,none⟩)) (hfr.at 1 (by kernel_rfl));refine fW0 rfl ?_;clear hdep;go_simp;exact hK _ _ True.intro (hinv.other 0 (by decide) (by decide) (by decide) (by decide) (by simp) (by simp) _) (dsT (by trivial))
  refine .cons (fun l a W hfr hun hup hdn hinv hdep K hK=>?_) ?_
  · have t1:=tAt (.pointer (some ⟨bp,0,none⟩)) (hfr.at 1 (by kernel_rfl));refine fW0 rfl ?_;clear hdep;go_simp;exact hK _ _ True.intro (hinv.other 1 (by decide) (by decide) (by decide) (by decide) (by simp) (by simp) _) (dsT (by trivial))
  refine .cons (fun l a W hfr hun hup hdn hinv hdep K hK=>?_) ?_
  · have t1:=tAt (.pointer (some ⟨bp,0,none⟩)) (hfr.at 1 (by kernel_rfl));refine fW0 rfl ?_;clear hdep;go_simp;exact hK _ _ True.intro (hinv.other 2 (by decide) (by decide) (by decide) (by decide) (by simp) (by simp) _) (dsT (by trivial))
  refine .cons (fun l a W hfr hun hup hdn hinv hdep K hK=>?_) ?_
  · have t115:=tAt (.pointer (some ⟨bp,0,none⟩)) (hdep 115 (by kernel_rfl));refine fW0 rfl ?_;clear hdep;go_simp;exact hK _ _ True.intro (hinv.other 3 (by decide) (by decide) (by decide) (by decide) (by simp) (by simp) _) (dsT (by trivial))
  refine .cons (fun l a W hfr hun hup hdn hinv hdep K hK=>?_) ?_
  · have t116:=tAt (.pointer (some ⟨bp,0,none⟩)) (hdep 116 (by kernel_rfl));refine fW0 rfl ?_;clear hdep;go_simp;exact hK _ _ True.intro (hinv.other 4 (by decide) (by decide) (by decide) (by decide) (by simp) (by simp) _) (dsT (by trivial))
  refine .cons (fun l a W hfr hun hup hdn hinv hdep K hK=>?_) ?_
  · have t117:=tAt (.pointer (some ⟨bp,0,none⟩)) (hdep 117 (by kernel_rfl));refine fW0 rfl ?_;clear hdep;have hg:=hinv.pre (hup 6 (by decide) (by kernel_rfl));have k0:=(HBW.out W hg).1;go_simp;exact hK _ _ True.intro (hinv.other 5 (by decide) (by decide) (by decide) (by decide) (by simp) (by simp) _) (dsT (by trivial))
  refine .cons (fun l a W hfr hun hup hdn hinv hdep K hK=>?_) ?_
  ·
   have t118:=tAt (.pointer (some ⟨db,0,none⟩)) (hdep 118 (by kernel_rfl));refine fW0 rfl ?_;clear hdep;have hg:=hinv.pre hun;go_simp
   (with_reducible refine (HCr1.out W hg).mono ?_)
   rintro e W' ⟨v,F1,rfl,hd1,g2,hF⟩;exact hK _ _ True.intro (InK.call1 (by decide) (hup 11 (by decide) (by kernel_rfl)) (hup 14 (by decide) (by kernel_rfl)) (hup 17 (by decide) (by kernel_rfl)) (by rw [hfr.size];simp) (Cr1.of hg hd1 g2 hF)) (dsT (by trivial))
  refine .cons (fun l a W hfr hun hup hdn hinv hdep K hK=>?_) ?_
  · have t1:=tAt (.pointer (some ⟨bp,0,none⟩)) (hfr.at 1 (by kernel_rfl));refine fW0 rfl ?_;clear hdep;go_simp;exact hK _ _ True.intro (hinv.other 7 (by decide) (by decide) (by decide) (by decide) (by simp) (by simp) _) (dsT (by trivial))
  refine .cons (fun l a W hfr hun hup hdn hinv hdep K hK=>?_) ?_
  · have t120:=tAt (.pointer (some ⟨bp,0,none⟩)) (hdep 120 (by kernel_rfl));refine fW0 rfl ?_;clear hdep;go_simp;exact hK _ _ True.intro (hinv.other 8 (by decide) (by decide) (by decide) (by decide) (by simp) (by simp) _) (dsT (by trivial))
  refine .cons (fun l a W hfr hun hup hdn hinv hdep K hK=>?_) ?_
  · have t121:=tAt (.pointer (some ⟨bp,0,none⟩)) (hdep 121 (by kernel_rfl));refine fW0 rfl ?_;clear hdep;go_simp;exact hK _ _ True.intro (hinv.other 9 (by decide) (by decide) (by decide) (by decide) (by simp) (by simp) _) (dsT (by trivial))
  refine .cons (fun l a W hfr hun hup hdn hinv hdep K hK=>?_) ?_
  ·
   have t122:=tAt (.pointer (some ⟨bp,1,none⟩)) (hdep 122 (by kernel_rfl));refine fW0 rfl ?_;clear hdep
   have hg:Gr W16 W:=by
    cases hc:l 6 with
    | false=>exact hinv.pre hc
    | true=>exact (hinv.got1 hc (hup 11 (by decide) (by kernel_rfl))).gr
   have k1:=(HBW.out W hg).2.1;go_simp;exact hK _ _ True.intro (hinv.other 10 (by decide) (by decide) (by decide) (by decide) (by simp) (by simp) _) (dsT (by trivial))
  refine .cons (fun l a W hfr hun hup hdn hinv hdep K hK=>?_) ?_
  ·
   have t123:=tAt (pw) (hdep 123 (by kernel_rfl));refine fW0 rfl ?_;clear hdep;have hgot:=hinv.got1 (hdn 6 (by decide) (by kernel_rfl)) hun;go_simp
   (with_reducible refine (HCr2.out W hgot.gr).mono ?_)
   rintro e W' ⟨v,G1,rfl,hr1,g2,hG⟩;exact hK _ _ True.intro (InK.call2 (by decide) (by decide) (hdn 6 (by decide) (by kernel_rfl)) (hup 14 (by decide) (by kernel_rfl)) (hup 17 (by decide) (by kernel_rfl)) (by rw [hfr.size];simp) (hgot.two hr1 g2 hG)) (dsT (by trivial))
  refine .cons (fun l a W hfr hun hup hdn hinv hdep K hK=>?_) ?_
  · have t113:=tAt (.pointer (some ⟨bp,0,none⟩)) (hdep 113 (by kernel_rfl));refine fW0 rfl ?_;clear hdep;go_simp;exact hK _ _ True.intro (hinv.other 12 (by decide) (by decide) (by decide) (by decide) (by simp) (by simp) _) (dsT (by trivial))
  refine .cons (fun l a W hfr hun hup hdn hinv hdep K hK=>?_) ?_
  · have t125:=tAt (.pointer (some ⟨bp,0,none⟩)) (hdep 125 (by kernel_rfl));refine fW0 rfl ?_;clear hdep;go_simp;exact hK _ _ True.intro (hinv.other 13 (by decide) (by decide) (by decide) (by decide) (by simp) (by simp) _) (dsT (by trivial))
  refine .cons (fun l a W hfr hun hup hdn hinv hdep K hK=>?_) ?_
  · have t126:=tAt (.pointer (some ⟨bp,0,none⟩)) (hdep 126 (by kernel_rfl));refine fW0 rfl ?_;clear hdep;have hgot:=hinv.got2 (hdn 11 (by decide) (by kernel_rfl)) hun;have hgot2:=hgot;obtain ⟨hg,D,R,F,G,e1,e2,_⟩:=hgot2;have t119:=tmpAt e1;have k0:=(HBW.out W hg).1;have f0:=(HBW.out W hg).2.2.frozen 0;go_simp;exact hK undef _ True.intro (InK.store1 (by decide) (hdn 6 (by decide) (by kernel_rfl)) (hdn 11 (by decide) (by kernel_rfl)) (hup 17 (by decide) (by kernel_rfl)) undef ⟨W,hgot,by rw [e1]⟩) (fun d hd=>by cases hd)
  refine .cons (fun l a W hfr hun hup hdn hinv hdep K hK=>?_) ?_
  · have t114:=tAt (.pointer (some ⟨bp,0,none⟩)) (hdep 114 (by kernel_rfl));refine fW0 rfl ?_;clear hdep;go_simp;exact hK _ _ True.intro (hinv.other 15 (by decide) (by decide) (by decide) (by decide) (by simp) (by simp) _) (dsT (by trivial))
  refine .cons (fun l a W hfr hun hup hdn hinv hdep K hK=>?_) ?_
  · have t127:=tAt (.pointer (some ⟨bp,0,none⟩)) (hdep 127 (by kernel_rfl));refine fW0 rfl ?_;clear hdep;go_simp;exact hK _ _ True.intro (hinv.other 16 (by decide) (by decide) (by decide) (by decide) (by simp) (by simp) _) (dsT (by trivial))
  refine .cons (fun l a W hfr hun hup hdn hinv hdep K hK=>?_) ?_
  ·
   have t128:=tAt (.pointer (some ⟨bp,1,none⟩)) (hdep 128 (by kernel_rfl));refine fW0 rfl ?_;clear hdep;obtain ⟨V,hgot,rfl⟩:=hinv.got3 (hdn 14 (by decide) (by kernel_rfl)) hun;have hgot2:=hgot;obtain ⟨hg,D,R,F,G,e1,e2,_⟩:=hgot2;have t124:=tmpAt e2;have hb:=(HBW.out V hg).2.2.set 0 (.pointer (some ⟨D,0,none⟩));have k1:(V.setCell ⟨bp,0,none⟩ (.pointer (some ⟨D,0,none⟩))).cell? ⟨bp,1,none⟩=some pw:=hb.cell 1;have f1:(V.setCell ⟨bp,0,none⟩ (.pointer (some ⟨D,0,none⟩))).frozen? ⟨bp,1,none⟩=false:=hb.frozen 1;have hk2:=hK undef ((V.setCell ⟨bp,0,none⟩ (a.tmps.getD 119 undef)).setCell ⟨bp,1,none⟩ (a.tmps.getD 124 undef)) True.intro (InK.store2 (by decide) (hdn 6 (by decide) (by kernel_rfl)) (hdn 11 (by decide) (by kernel_rfl)) (hdn 14 (by decide) (by kernel_rfl)) undef ⟨V,hgot,rfl⟩) (fun d hd=>by cases hd)
   rw [e1,e2] at hk2
   rw [e1];clear e1 e2 hK hgot hinv;go_simp;exact hk2
  exact True.intro
 case fin=>
  intro a W l hfr hall hinv hsl
  have hfin:=hinv.post (hall 17 (by decide));have e:=Flow.frame hfr [113,114,115,116,117,118,119,120,121,122,123,124,125,126,127,128] (List.range 156) (by kernel_rfl) (by kernel_rfl)
  simp [List.range,List.range.loop] at e
  rw [e];have HFin:=Lib.hid hfin;clear e hfr hsl hall hinv hfin
  first
   | (rename_i hB;refine hB _ _ ?_)
   | (rename_i hB y0;refine hB _ _ ?_)
   | (rename_i hB y0 y1;refine hB _ _ ?_)
   | (rename_i hB y0 y1 y2;refine hB _ _ ?_)
   | (rename_i hB y0 y1 y2 y3;refine hB _ _ ?_)
   | (rename_i hB y0 y1 y2 y3 y4;refine hB _ _ ?_)
   | (rename_i hB y0 y1 y2 y3 y4 y5;refine hB _ _ ?_)
   | (rename_i hB y0 y1 y2 y3 y4 y5 y6;refine hB _ _ ?_)
   | (rename_i hB y0 y1 y2 y3 y4 y5 y6 y7;refine hB _ _ ?_)
   | (rename_i hB y0 y1 y2 y3 y4 y5 y6 y7 y8;refine hB _ _ ?_)
   | (rename_i hB y0 y1 y2 y3 y4 y5 y6 y7 y8 y9;refine hB _ _ ?_)
   | (rename_i hB y0 y1 y2 y3 y4 y5 y6 y7 y8 y9 y10;refine hB _ _ ?_)
   | (rename_i hB y0 y1 y2 y3 y4 y5 y6 y7 y8 y9 y10 y11;refine hB _ _ ?_)
   | (rename_i hB y0 y1 y2 y3 y4 y5 y6 y7 y8 y9 y10 y11 y12;refine hB _ _ ?_)
   | skip
  obtain ⟨D,R,F,G,ev,eu,hpd,hkb⟩:=HFin.out.made HK.out.pr
  rw [ev,eu] at hpd
  clear ev eu HFin;have HPD:=Lib.hid hpd
  have HKp:Hid (∀ k,w1.heap.size≤k→k < W5.heap.size→W.heap[k]?=W5.heap[k]?):=Lib.hid fun k h1 h2=>(hkb.2 k (Nat.lt_of_lt_of_le h2 HK.out.sz) (fun e=>by have:=HK.out.oB;omega)).trans (HK.out.keep k h1 h2)
  have HSz:Hid (W5.heap.size≤W.heap.size∧bp < w1.heap.size):=Lib.hid ⟨Nat.le_trans HK.out.sz hkb.1,HK.out.oB⟩;clear hpd hkb HK HCr1 HCr2 HBW;go_wp2_with fail;refine (popen_any HPD.out HS4.out.1 2 0 (by decide) (by decide) (by decide)).mono ?_;rintro e W18 ⟨hk2,(⟨h,_⟩ | ⟨_,v,K,S',T',pl',pm',rfl,hv,hm,hp⟩)⟩
  ·
   rw [(two_found s4 HS4.out.2).2.2] at h
   cases h
  rw [(two_found s4 HS4.out.2).2.1] at hm
  have hlen:K.length=2:=by
   have:=congrArg List.length hm
   simpa [logT] using this
  obtain ⟨p,c,rfl,_,_,_,_⟩:=hv.shape 2 hlen;obtain ⟨g,y0,qb1,mb1,db1,qa1,ma1,da1,rfl,hy0,hrow0⟩:=hv.lgd rfl hlen 0 (by decide);obtain ⟨g2,y1,qb2,mb2,db2,qa2,ma2,da2,hp2,hy1,hrow1⟩:=hv.lgd rfl hlen 1 (by decide)
  obtain rfl:g=g2:=by simpa using hp2
  rw [hm] at hy0 hy1
  have e0:(0,41,noteR 1 3)=y0:=Option.some.inj hy0;have e1:(41,86,noteR 2 5)=y1:=Option.some.inj hy1
  rw [← HRn.out.1] at e0
  rw [← HRn.out.2] at e1
  subst e0 e1
  have hkp:∀ k,w1.heap.size≤k→k < W5.heap.size→W18.heap[k]?=W5.heap[k]?:=fun k h1 h2=>(hk2.2 k (Nat.lt_of_lt_of_le h2 HSz.out.1) (fun e=>by have:=HSz.out.2;omega)).trans (HKp.out k h1 h2)
  have hsz:W5.heap.size≤W18.heap.size:=Nat.le_trans HSz.out.1 hk2.1
  have HR1:Hid (∀ V,Gr W18 V→RcAt V w1.heap.size W5.heap.size B1 r1 pb1 nb1 cb1 pa1 na1 ca1):=Lib.hid fun V gr=>HA1.out V fun k h1 h2=>(gr.block k (Nat.lt_of_lt_of_le h2 hsz)).trans (hkp k h1 h2)
  have HR2:Hid (∀ V,Gr W18 V→RcAt V w1.heap.size W5.heap.size B2 r2 pb2 nb2 cb2 pa2 na2 ca2):=Lib.hid fun V gr=>HA2.out V fun k h1 h2=>(gr.block k (Nat.lt_of_lt_of_le h2 hsz)).trans (hkp k h1 h2)
  have HRow:Hid (∀ V,Gr W18 V→(V.cell? ⟨g,2,none⟩=some (.int .i64 r1.k)∧V.cell? ⟨g,3,none⟩=some (.int .u64 (r1.t:Int))∧V.cell? ⟨g,4,none⟩=some (.int .u64 (r1.p:Int))∧V.cell? ⟨g,5,none⟩=some (.int .u64 (r1.x:Int))∧V.cell? ⟨g,6,none⟩=some (.int .i64 r1.g)∧V.cell? ⟨g,7,none⟩=some (.int .i64 r1.o)∧V.cell? ⟨g,8,none⟩=some (.slice qb1 mb1 db1)∧V.cell? ⟨g,9,none⟩=some (.slice qa1 ma1 da1))∧(V.cell? ⟨g,12,none⟩=some (.int .i64 r2.k)∧V.cell? ⟨g,13,none⟩=some (.int .u64 (r2.t:Int))∧V.cell? ⟨g,14,none⟩=some (.int .u64 (r2.p:Int))∧V.cell? ⟨g,15,none⟩=some (.int .u64 (r2.x:Int))∧V.cell? ⟨g,16,none⟩=some (.int .i64 r2.g)∧V.cell? ⟨g,17,none⟩=some (.int .i64 r2.o)∧V.cell? ⟨g,18,none⟩=some (.slice qb2 mb2 db2)∧V.cell? ⟨g,19,none⟩=some (.slice qa2 ma2 da2))):=Lib.hid fun V gr=>by
   have h0:=(hrow0 V gr).1;have h1:=(hrow1 V gr).1;exact ⟨⟨h0.2.2.1,h0.2.2.2.1,h0.2.2.2.2.1,h0.2.2.2.2.2.1,h0.2.2.2.2.2.2.1,h0.2.2.2.2.2.2.2.1,h0.2.2.2.2.2.2.2.2.1,h0.2.2.2.2.2.2.2.2.2⟩,⟨h1.2.2.1,h1.2.2.2.1,h1.2.2.2.2.1,h1.2.2.2.2.2.1,h1.2.2.2.2.2.2.1,h1.2.2.2.2.2.2.2.1,h1.2.2.2.2.2.2.2.2.1,h1.2.2.2.2.2.2.2.2.2⟩⟩
  have HSm1:Hid (∀ V,Gr W18 V→Calls Tryz.prog 27 #[.agg #[.int .i64 r1.k,.int .u64 (r1.t:Int),.int .u64 (r1.p:Int),.int .u64 (r1.x:Int),.int .i64 r1.g,.int .i64 r1.o,.slice qb1 mb1 db1,.slice qa1 ma1 da1],.agg #[.int .i64 r1.k,.int .u64 (r1.t:Int),.int .u64 (r1.p:Int),.int .u64 (r1.x:Int),.int .i64 r1.g,.int .i64 r1.o,.slice pb1 nb1 cb1,.slice pa1 na1 ca1]] V (RetB true V)):=Lib.hid fun V gr=>by
   have hr:=HR1.out V gr;have h:=refSameRec_any r1 r1 qb1 mb1 db1 qa1 ma1 da1 pb1 nb1 cb1 pa1 na1 ca1 V (hrow0 V gr).2.1 (hrow0 V gr).2.2 hr.xb hr.xa
   rw [sameR_self] at h
   exact h
  have HSm2:Hid (∀ V,Gr W18 V→Calls Tryz.prog 27 #[.agg #[.int .i64 r2.k,.int .u64 (r2.t:Int),.int .u64 (r2.p:Int),.int .u64 (r2.x:Int),.int .i64 r2.g,.int .i64 r2.o,.slice qb2 mb2 db2,.slice qa2 ma2 da2],.agg #[.int .i64 r2.k,.int .u64 (r2.t:Int),.int .u64 (r2.p:Int),.int .u64 (r2.x:Int),.int .i64 r2.g,.int .i64 r2.o,.slice pb2 nb2 cb2,.slice pa2 na2 ca2]] V (RetB true V)):=Lib.hid fun V gr=>by
   have hr:=HR2.out V gr;have h:=refSameRec_any r2 r2 qb2 mb2 db2 qa2 ma2 da2 pb2 nb2 cb2 pa2 na2 ca2 V (hrow1 V gr).2.1 (hrow1 V gr).2.2 hr.xb hr.xa
   rw [sameR_self] at h
   exact h
  have HGf:Hid (Gr w W18):=Lib.hid hp.gr;clear hrow0 hrow1 hy0 hy1 hm hv hp hk2 hkp hsz hlen hp2 HPD HKp HSz HA1 HA2 HA3;have xa:=(HRow.out W18 (Gr.refl _)).1;have xb:=(HRow.out W18 (Gr.refl _)).2;have xc:=(HR1.out W18 (Gr.refl _)).blk.c8;have xd:=(HR2.out W18 (Gr.refl _)).blk.c8;go_wp2_with fail
  go_region_held3 (fun V=>(V.cell? ⟨g,2,none⟩=some (.int .i64 r1.k)∧V.cell? ⟨g,3,none⟩=some (.int .u64 (r1.t:Int))∧V.cell? ⟨g,4,none⟩=some (.int .u64 (r1.p:Int))∧V.cell? ⟨g,5,none⟩=some (.int .u64 (r1.x:Int))∧V.cell? ⟨g,6,none⟩=some (.int .i64 r1.g)∧V.cell? ⟨g,7,none⟩=some (.int .i64 r1.o)∧V.cell? ⟨g,8,none⟩=some (.slice qb1 mb1 db1)∧V.cell? ⟨g,9,none⟩=some (.slice qa1 ma1 da1))∧(V.cell? ⟨g,12,none⟩=some (.int .i64 r2.k)∧V.cell? ⟨g,13,none⟩=some (.int .u64 (r2.t:Int))∧V.cell? ⟨g,14,none⟩=some (.int .u64 (r2.p:Int))∧V.cell? ⟨g,15,none⟩=some (.int .u64 (r2.x:Int))∧V.cell? ⟨g,16,none⟩=some (.int .i64 r2.g)∧V.cell? ⟨g,17,none⟩=some (.int .i64 r2.o)∧V.cell? ⟨g,18,none⟩=some (.slice qb2 mb2 db2)∧V.cell? ⟨g,19,none⟩=some (.slice qa2 ma2 da2))∧(V.cell? ⟨B1,0,none⟩=some (.int .i64 r1.k)∧V.cell? ⟨B1,1,none⟩=some (.int .u64 (r1.t:Int))∧V.cell? ⟨B1,2,none⟩=some (.int .u64 (r1.p:Int))∧V.cell? ⟨B1,3,none⟩=some (.int .u64 (r1.x:Int))∧V.cell? ⟨B1,4,none⟩=some (.int .i64 r1.g)∧V.cell? ⟨B1,5,none⟩=some (.int .i64 r1.o)∧V.cell? ⟨B1,6,none⟩=some (.slice pb1 nb1 cb1)∧V.cell? ⟨B1,7,none⟩=some (.slice pa1 na1 ca1))∧(V.cell? ⟨B2,0,none⟩=some (.int .i64 r2.k)∧V.cell? ⟨B2,1,none⟩=some (.int .u64 (r2.t:Int))∧V.cell? ⟨B2,2,none⟩=some (.int .u64 (r2.p:Int))∧V.cell? ⟨B2,3,none⟩=some (.int .u64 (r2.x:Int))∧V.cell? ⟨B2,4,none⟩=some (.int .i64 r2.g)∧V.cell? ⟨B2,5,none⟩=some (.int .i64 r2.o)∧V.cell? ⟨B2,6,none⟩=some (.slice pb2 nb2 cb2)∧V.cell? ⟨B2,7,none⟩=some (.slice pa2 na2 ca2))) (first | exact ⟨xa,xb,xc,xd⟩ | exact ⟨ya,yb,yc,yd⟩ | exact ⟨za,zb,zc,zd⟩) (first
   | (go_at_call 27;(with_reducible refine (HSm1.out W18.drew ((Gr.refl W18).drew)).mono ?_);rintro e W19 ⟨rfl,g19⟩;have h19:=Gr.trans ((Gr.refl W18).drew) g19;have H19:=Lib.hid h19;have ya:=(HRow.out W19 h19).1;have yb:=(HRow.out W19 h19).2;have yc:=(HR1.out W19 h19).blk.c8;have yd:=(HR2.out W19 h19).blk.c8)
   | (go_at_call 27;(with_reducible refine (HSm2.out W19 H19.out).mono ?_);rintro e W20 ⟨rfl,g20⟩;have h20:=Gr.trans H19.out g20;have H20:=Lib.hid h20;have za:=(HRow.out W20 h20).1;have zb:=(HRow.out W20 h20).2;have zc:=(HR1.out W20 h20).blk.c8;have zd:=(HR2.out W20 h20).blk.c8))
  go_wp2_with fail
  go_ret
  exact ⟨rfl,Gr.trans HGf.out H20.out⟩
end Go.Proofs.YtlijbgapkmfnaaaGreat
namespace Go.Proofs.YtlijbgapkmfnaaaGreat
open Go.RowKit Go.Maps
theorem PrB.base {w00 w0 w:World} {bp:Nat} {S T:Nat→Prop} {pd pw pl pm:Value} {s1 s2:St} {L1 L2:Lg} {M:Nat} (h:PrB w0 w bp S T pd pw pl pm s1 L1 s2 L2 M) (g:Gr w00 w0):PrB w00 w bp S T pd pw pl pm s1 L1 s2 L2 M:=
 ⟨h.blk,h.code,h.doc,h.ap,h.nS,h.nT,Gr.trans g h.gr,Nat.le_trans g.size h.lb,fun k hk=>Nat.le_trans g.size (h.lS k hk),fun k hk=>Nat.le_trans g.size (h.lT k hk)⟩
end Go.Proofs.YtlijbgapkmfnaaaGreat
namespace Go.Proofs.YtlijbgapkmfnaaaGreat
open Go.ChangeShapes Go.WideShapes Go.ChangeAt Go.RowKit
theorem byteOf {x:Int} (h:(Lit.int .u8 x).wf=true):0≤x∧x < 256:=by
 have h1:IntKind.u8.min=0:=rfl;have h2:IntKind.u8.max=255:=rfl
 simp only [Lit.wf,Bool.and_eq_true,decide_eq_true_eq] at h
 omega
theorem u64Of {x:Int} (h:(Lit.int .u64 x).wf=true):0≤x∧x≤18446744073709551615:=by
 have h1:IntKind.u64.min=0:=rfl;have h2:IntKind.u64.max=18446744073709551615:=rfl
 simp only [Lit.wf,Bool.and_eq_true,decide_eq_true_eq] at h
 omega
theorem i64Of {x:Int} (h:(Lit.int .i64 x).wf=true) : -9223372036854775808≤x∧x≤9223372036854775807:=by
 have h1:IntKind.i64.min = -9223372036854775808:=rfl;have h2:IntKind.i64.max=9223372036854775807:=rfl
 simp only [Lit.wf,Bool.and_eq_true,decide_eq_true_eq] at h
 omega
end Go.Proofs.YtlijbgapkmfnaaaGreat
namespace Go.Proofs.YtlijbgapkmfnaaaGreat
open Go.ChangeShapes Go.WideShapes Go.ChangeAt Go.RowKit
theorem openCell {H:Type} {enc:TypeId × Value→H} {P:Program} {t e:TypeId} (ht:P.underlying t=some (.slice e)) (he:P.underlying e=some (.int .u8)) (hc:P.cellsOf e=1) {W:World} {n:Nat} {v:Value} {x:DataW H × List MemPlace}
  (h:DataW.trod enc P W 0 (fun _=>true) true n t [v]=some x):∃ a len cap xs,v=.slice a len cap∧Byt W a len cap xs:=by
 rcases open_ints ht he hc h with ⟨hcs,_⟩ | ⟨x,l,c,zs,hcs,_,hl,hm,hz,_,hcell,hwz⟩
 ·
  simp at hcs
  exact ⟨none,0,0,[],hcs,Byt.nil W⟩
 ·
  simp at hcs
  simp only [if_true] at hz
  refine ⟨some x,l,c,zs.take l,hcs,by simp;omega,hl,hm,Lib.BytesIn.of_cells (fun i hi=>?_),(fun h=>by cases h),fun y hy=>byteOf (hwz y (List.mem_of_mem_take hy))⟩;rw [hcell i (by omega)]
  simp [List.getD,hi]
end Go.Proofs.YtlijbgapkmfnaaaGreat
namespace Go.Proofs.YtlijbgapkmfnaaaGreat
open Go.ChangeShapes Go.WideShapes Go.ChangeAt Go.RowKit
set_option maxRecDepth 100000 in
theorem openRecL {H:Type} {enc:TypeId × Value→H} {W:World} {fuel:Nat} {l:List Value} {x:DataW H × List MemPlace} (hs:l.length=8)
  (hf:DataW.trod enc Tryz.prog W 0 (fun _=>true) true fuel 33 l=some x):∃ (c:Rc) (pb:Option Addr) (nb cb:Nat) (pa:Option Addr) (na ca:Nat),l=[.int .i64 c.k,.int .u64 c.t,.int .u64 c.p,.int .u64 c.x,.int .i64 c.g,.int .i64 c.o,.slice pb nb cb,.slice pa na ca]∧Byt W pb nb cb c.b∧Byt W pa na ca c.a∧c.In:=by
 have hc1:Tryz.prog.cellsOf 3=1:=by kernel_rfl
 have hc2:Tryz.prog.cellsOf 29=1:=by kernel_rfl
 have hc3:Tryz.prog.cellsOf 30=1:=by kernel_rfl
 have hc4:Tryz.prog.cellsOf 31=1:=by kernel_rfl
 obtain ⟨xs,n,_,_,hl,hlen,hff⟩:=DataW.trod_struct Tryz.underlying33 hf
 match l,hs with
 | [c0,c1,c2,c3,c4,c5,c6,c7],_=>
  match xs,hlen with
  | [y0,y1,y2,y3,y4,y5,y6,y7],_=>
   have t0:=hff 0 _ rfl;have t1:=hff 1 _ rfl;have t2:=hff 2 _ rfl;have t3:=hff 3 _ rfl;have t4:=hff 4 _ rfl;have t5:=hff 5 _ rfl;have t6:=hff 6 _ rfl;have t7:=hff 7 _ rfl
   simp [hc2] at t0
   simp [hc3] at t1
   simp [hc3] at t2
   simp [hc3] at t3
   simp [hc1] at t4
   simp [hc1] at t5
   simp [hc4] at t6
   simp [hc4] at t7
   obtain ⟨v0,e0,_,w0⟩:=DataW.trod_int Tryz.underlying29 t0;obtain ⟨v1,e1,_,w1⟩:=DataW.trod_int Tryz.underlying30 t1;obtain ⟨v2,e2,_,w2⟩:=DataW.trod_int Tryz.underlying30 t2;obtain ⟨v3,e3,_,w3⟩:=DataW.trod_int Tryz.underlying30 t3;obtain ⟨v4,e4,_,w4⟩:=DataW.trod_int Tryz.underlying3 t4;obtain ⟨v5,e5,_,w5⟩:=DataW.trod_int Tryz.underlying3 t5
   simp at e0 e1 e2 e3 e4 e5
   subst e0 e1 e2 e3 e4 e5;obtain ⟨pb,nb,cb,bs,rfl,hb⟩:=openCell (v:=c6) Tryz.underlying31 Tryz.underlying5 (by kernel_rfl) t6;obtain ⟨pa,na,ca,xa,rfl,ha⟩:=openCell (v:=c7) Tryz.underlying31 Tryz.underlying5 (by kernel_rfl) t7;have b1:=u64Of w1;have b2:=u64Of w2;have b3:=u64Of w3;obtain ⟨v1,rfl⟩:=Int.eq_ofNat_of_zero_le b1.1;obtain ⟨v2,rfl⟩:=Int.eq_ofNat_of_zero_le b2.1;obtain ⟨v3,rfl⟩:=Int.eq_ofNat_of_zero_le b3.1;exact ⟨⟨v0,v1,v2,v3,v4,v5,bs,xa⟩,pb,nb,cb,pa,na,ca,rfl,hb,ha,⟨by show v1≤_;omega,by show v2≤_;omega,by show v3≤_;omega,hb.small,ha.small⟩⟩
end Go.Proofs.YtlijbgapkmfnaaaGreat
namespace Go.Proofs.YtlijbgapkmfnaaaGreat
open Go.ChangeShapes Go.WideShapes Go.ChangeAt Go.RowKit
theorem openNums {H:Type} {enc:TypeId × Value→H} {P:Program} {t e:TypeId} (ht:P.underlying t=some (.slice e)) (he:P.underlying e=some (.int .i64)) (hc:P.cellsOf e=1) {W:World} {base:Nat} {a:Option Addr} {len cap:Nat} {d:DataW H} {p:List MemPlace}
  (h:DataW.Trod enc P W base (fun _=>true) true t (.slice a len cap) d p):∃ xs,Nums W a len cap xs:=by
 obtain ⟨fuel,hf⟩:=h
 rcases open_ints ht he hc hf with ⟨hcs,_⟩ | ⟨x,l,c,zs,hcs,_,hl,hm,hz,_,hcell,hwz⟩
 ·
  simp [Value.cells] at hcs
  obtain ⟨rfl,rfl,rfl⟩:=hcs;exact ⟨[],Nums.nil W⟩
 ·
  simp [Value.cells] at hcs
  obtain ⟨rfl,rfl,rfl⟩:=hcs
  simp only [if_true] at hz
  refine ⟨zs.take len,by simp;omega,by unfold maxLen at hm;omega,fun hn=>?_,fun y hy=>i64Of (hwz y (List.mem_of_mem_take hy))⟩;obtain ⟨b,o,sp⟩:=x;have h0:=hcell 0 (by omega)
  obtain rfl:sp=none:=by simpa [Addr.add] using World.cell?_spot h0
  refine ⟨b,o,rfl,fun i hi=>?_⟩;rw [← Go.WideShapes.add_plain,hcell i (by omega)]
  simp [List.getD,hi]
end Go.Proofs.YtlijbgapkmfnaaaGreat
namespace Go.Proofs.YtlijbgapkmfnaaaGreat
open Go.ChangeShapes Go.WideShapes Go.ChangeAt Go.RowKit Go.Maps
abbrev TAw:TypeId:=36
structure WDo where
 kind:Int
 n:Int
 z:RX
 q:Option Addr
 m:Nat
 c:Nat
 picks:List Int
 byt:Int
def WDo.cells (a:WDo):List Value:=[.int .i64 a.kind,.int .i64 a.n,.int .i64 a.z.c.k,.int .u64 a.z.c.t,.int .u64 a.z.c.p,.int .u64 a.z.c.x,.int .i64 a.z.c.g,.int .i64 a.z.c.o,.slice a.z.pb a.z.nb a.z.cb,.slice a.z.pa a.z.na a.z.ca,.slice a.q a.m a.c,.int .u8 a.byt]
structure WDo.In (w:World) (a:WDo):Prop where
 xb:Byt w a.z.pb a.z.nb a.z.cb a.z.c.b
 xa:Byt w a.z.pa a.z.na a.z.ca a.z.c.a
 ri:a.z.c.In
 pk:Nums w a.q a.m a.c a.picks
 k0 : -9223372036854775808≤a.kind
 k1:a.kind≤9223372036854775807
 n0 : -9223372036854775808≤a.n
 n1:a.n≤9223372036854775807
 b0:0≤a.byt
 b1:a.byt < 256
theorem WDo.In.gr {w w':World} {a:WDo} (h:a.In w) (g:Gr w w'):a.In w':=⟨h.xb.kept g,h.xa.kept g,h.ri,h.pk.gr g,h.k0,h.k1,h.n0,h.n1,h.b0,h.b1⟩
structure WActs (w:World) (p:Option Addr) (n c:Nat):Prop where
 cap:n≤c
 most:c≤maxLen
 lies:0 < n→∃ b o,p=some ⟨b,o,none⟩∧∀ i,i < n→∃ a:WDo,(∀ j v,a.cells[j]?=some v→w.cell? ⟨b,o+i*12+j,none⟩=some v)∧a.In w
theorem WActs.row {w:World} {p:Option Addr} {n c:Nat} (h:WActs w p n c) (k:Nat) (hk:k < n):∃ b o a,p=some ⟨b,o,none⟩∧∀ V,Gr w V→(∀ j v,(WDo.cells a)[j]?=some v→V.cell? ⟨b,o+k*12+j,none⟩=some v)∧a.In V:=by
 obtain ⟨b,o,rfl,hc⟩:=h.lies (by omega);obtain ⟨a,h1,h2⟩:=hc k hk;exact ⟨b,o,a,rfl,fun V g=>⟨fun j v hv=>by rw [g.cell (World.block_lt_of_cell? w _ (h1 j v hv))];exact h1 j v hv,h2.gr g⟩⟩
set_option maxRecDepth 100000 in
theorem openWActs {H:Type} {enc:TypeId × Value→H} {W:World} {a:Option Addr} {len cap:Nat} {d:DataW H} {p:List MemPlace}
  (h:DataW.Trod enc Tryz.prog W 0 (fun _=>true) true 22 (.slice a len cap) d p):WActs W a len cap:=by
 obtain ⟨fuel,hf⟩:=h
 have hc:Tryz.prog.cellsOf TAw=12:=by kernel_rfl
 have hc1:Tryz.prog.cellsOf 3=1:=by kernel_rfl
 have hc2:Tryz.prog.cellsOf 5=1:=by kernel_rfl
 have hc3:Tryz.prog.cellsOf 34=1:=by kernel_rfl
 have hc4:Tryz.prog.cellsOf 33=8:=by kernel_rfl
 rcases Go.Deep.open_slice Tryz.underlying22 hf with ⟨hcs,_⟩ | ⟨x,l,c,m,n,D,Pl,hcs,_,hl,hm,hmm,_,hx⟩
 ·
  simp [Value.cells] at hcs
  obtain ⟨rfl,rfl,rfl⟩:=hcs;exact ⟨Nat.le_refl _,Nat.zero_le _,fun h=>absurd h (Nat.lt_irrefl 0)⟩
 ·
  simp [Value.cells] at hcs
  obtain ⟨rfl,rfl,rfl⟩:=hcs
  simp only [if_true] at hmm
  subst hmm;have hc':Tryz.prog.cellsOf 36=12:=hc
  rw [hc'] at hx
  have each:∀ i,i < len→∃ g:WDo,(∀ j v,g.cells[j]?=some v→W.cell? ((x.add (i*12)).add j)=some v)∧g.In W:=fun i hi=>by
   obtain ⟨cs,h1,h2⟩:=hx i (by omega);obtain ⟨_,hlen,hcells⟩:=World.cells?_some h1;obtain ⟨xs,k,_,_,_,hlx,hff⟩:=DataW.trod_struct Tryz.underlying36 h2
   match xs,hlx with
   | [y0,y1,y2,y3,y4],_=>
    match cs,hlen with
    | [c0,c1,r0,r1,r2,r3,r4,r5,r6,r7,c10,c11],_=>
     have t0:=hff 0 _ rfl;have t1:=hff 1 _ rfl;have t2:=hff 2 _ rfl;have t3:=hff 3 _ rfl;have t4:=hff 4 _ rfl
     simp [hc1] at t0
     simp [hc1] at t1
     simp [hc4] at t2
     simp [hc3] at t3
     simp [hc2] at t4
     obtain ⟨K,e0,_,w0⟩:=DataW.trod_int Tryz.underlying3 t0;obtain ⟨I,e1,_,w1⟩:=DataW.trod_int Tryz.underlying3 t1;obtain ⟨Y,e4,_,w4⟩:=DataW.trod_int Tryz.underlying5 t4
     simp at e0 e1 e4
     subst e0 e1 e4;obtain ⟨rc,pb,nb,cb,pa,na,ca,hrl,hb,ha,hin⟩:=openRecL (by rfl) t2
     simp only [List.cons.injEq,and_true] at hrl
     obtain ⟨rfl,rfl,rfl,rfl,rfl,rfl,rfl,rfl⟩:=hrl
     obtain ⟨q,mm,kk,zs,e3,hz⟩:∃ q mm kk zs,c10=Value.slice q mm kk∧Nums W q mm kk zs:=by
      have tt:=t3
      rcases Go.Deep.open_slice Tryz.underlying34 t3 with ⟨h5,_⟩ | ⟨a5,l5,c5,_,_,_,_,h5,_⟩
      ·
       simp at h5
       subst h5;exact ⟨none,0,0,[],rfl,Nums.nil W⟩
      ·
       simp at h5
       subst h5;obtain ⟨zs,hz⟩:=openNums (P:=Tryz.prog) (t:=34) Tryz.underlying34 Tryz.underlying3 hc1 (W:=W) (base:=0) (a:=some a5) (len:=l5) (cap:=c5) (enc:=enc) (d:=y3.1) (p:=y3.2) ⟨_,by simpa [Value.cells] using tt⟩;exact ⟨_,_,_,zs,rfl,hz⟩
     subst e3;have b0:=i64Of w0;have b1:=i64Of w1;have b3:=byteOf w4;refine ⟨⟨K,I,⟨0,rc,pb,nb,cb,pa,na,ca⟩,q,mm,kk,zs,Y⟩,fun j v hj=>?_,hb,ha,hin,hz,b0.1,b0.2,b1.1,b1.2,b3.1,b3.2⟩
     have hlt:j < 12:=by have:=(List.getElem?_eq_some_iff.1 hj).1;simpa [WDo.cells] using this
     rw [hcells j (by omega)];exact hj
  refine ⟨hl,hm,fun hn=>?_⟩;obtain ⟨z0,hz0,_⟩:=each 0 hn;have hc0:=hz0 0 _ rfl;obtain ⟨b,o,sp⟩:=x
  obtain rfl:sp=none:=by simpa [Addr.add] using World.cell?_spot hc0
  refine ⟨b,o,rfl,fun i hi=>?_⟩;obtain ⟨z,hz,hin⟩:=each i hi;refine ⟨z,fun j v hj=>?_,hin⟩;have:=hz j v hj
  simpa only [Go.WideShapes.add_plain] using this
end Go.Proofs.YtlijbgapkmfnaaaGreat
namespace Go.Proofs.YtlijbgapkmfnaaaGreat
open Go.RowKit Go.Maps
def WRow (V:World) (b A:Nat) (a:WDo):Prop:=
 V.cell? ⟨b,A,none⟩=some (.int .i64 a.kind)∧V.cell? ⟨b,A+1,none⟩=some (.int .i64 a.n)∧(V.cell? ⟨b,A+2,none⟩=some (.int .i64 a.z.c.k)∧V.cell? ⟨b,A+2+1,none⟩=some (.int .u64 a.z.c.t)∧V.cell? ⟨b,A+2+2,none⟩=some (.int .u64 a.z.c.p)∧V.cell? ⟨b,A+2+3,none⟩=some (.int .u64 a.z.c.x)∧V.cell? ⟨b,A+2+4,none⟩=some (.int .i64 a.z.c.g)∧V.cell? ⟨b,A+2+5,none⟩=some (.int .i64 a.z.c.o)∧V.cell? ⟨b,A+2+6,none⟩=some (.slice a.z.pb a.z.nb a.z.cb)∧V.cell? ⟨b,A+2+7,none⟩=some (.slice a.z.pa a.z.na a.z.ca))∧V.cell? ⟨b,A+10,none⟩=some (.slice a.q a.m a.c)∧V.cell? ⟨b,A+11,none⟩=some (.int .u8 a.byt)
def WActsF (w:World) (p:Option Addr) (n:Nat) (f:Nat→WDo):Prop:=n≤9223372036854775807∧∀ k,k < n→∃ b o,p=some ⟨b,o,none⟩∧∀ V,Gr w V→WRow V b (o+k*12) (f k)∧(f k).In V
theorem WActs.chosen {w:World} {p:Option Addr} {n c:Nat} (h:WActs w p n c):∃ f,WActsF w p n f:=by
 have h1:∀ k,∃ a:WDo,k < n→∃ b o,p=some ⟨b,o,none⟩∧∀ V,Gr w V→WRow V b (o+k*12) a∧a.In V:=fun k=>by
  by_cases hk:k < n
  · obtain ⟨b,o,a,e,hr⟩:=h.row k hk;refine ⟨a,fun _=>⟨b,o,e,fun V g=>⟨?_,(hr V g).2⟩⟩⟩;have hc:=(hr V g).1;exact ⟨hc 0 _ rfl,hc 1 _ rfl,⟨hc 2 _ rfl,hc 3 _ rfl,hc 4 _ rfl,hc 5 _ rfl,hc 6 _ rfl,hc 7 _ rfl,hc 8 _ rfl,hc 9 _ rfl⟩,hc 10 _ rfl,hc 11 _ rfl⟩
  · exact ⟨⟨0,0,⟨0,⟨0,0,0,0,0,0,[],[]⟩,none,0,0,none,0,0⟩,none,0,0,[],0⟩,fun e=>absurd e hk⟩
 obtain ⟨f,hf⟩:=Classical.axiomOfChoice h1;refine ⟨f,?_,hf⟩;have h2:=h.cap;have h3:=h.most
 unfold maxLen at h3
 omega
def Mild (f:Nat→WDo) (n:Nat):Prop:=∀ k,k < n→muchR (f k).z.nb (f k).z.na=false∧(f k).m≤100
def RetMuch (f:Nat→WDo) (n:Nat) (w:World) (e:Ending) (w':World):Prop:=∃ B,e=.returned (.bool B)∧Gr w w'∧(B=false→n≤80∧Mild f n)
set_option maxRecDepth 100000 in
set_option maxHeartbeats 1000000 in
theorem wmuch_any (p:Option Addr) (n c:Nat) (f:Nat→WDo) (w:World) (h:WActsF w p n f):Calls Tryz.prog 5 #[.slice p n c] w (RetMuch f n w):=by
 have HA:=Lib.hid h;have hmost:=h.1;clear h
 go_enter Tryz.func5,Tryz.ntmps5
 go_wp2_with fail
 go_loopw [3] (fun iv wr=>∃ k:Nat,k≤n∧iv=.int .i64 (k:Int)∧Hid (Gr w wr∧Mild f k)) (fun iv _=>n - (intOf iv).toNat)
 case atStart=>exact ⟨0,Nat.zero_le _,rfl,Lib.hid ⟨Gr.refl _,fun k h=>absurd h (Nat.not_lt_zero k)⟩⟩
 case round=>
  obtain ⟨k,hk,rfl,HG⟩:=hrel
  by_cases hlt:k < n
  ·
   have g3:(k:Int) < (n:Int):=by omega
   obtain ⟨b,o,rfl,hrow⟩:=HA.out.2 k hlt;obtain ⟨x0,x1,⟨y0,y1,y2,y3,y4,y5,y6,y7⟩,x10,x11⟩:=(hrow wr HG.out.1).1;have HRow:=Lib.hid hrow;have HMe:Hid (k+1≤n∧n - (k+1) < n - k):=Lib.hid ⟨by omega,by omega⟩
   have hq:IntKind.i64.wrap ((k:Int)+1)=((k+1:Nat):Int):=by rw [IntWalk.i64_in _ (by omega)];omega
   obtain ⟨a,ha⟩:∃ a,a=f k:=⟨_,rfl⟩;have HFa:=Lib.hid ha
   simp only [← ha] at y0 y1 y2 y3 y4 y5 y6 y7 x10
   clear hrow hlt hk x0 x1 x11 ha;go_wp2_with fail;refine (refMuch_any a.z.c.k a.z.c.t a.z.c.p a.z.c.x a.z.c.g a.z.c.o a.z.pb a.z.nb a.z.cb a.z.pa a.z.na a.z.ca wr).mono ?_;rintro e w2 ⟨rfl,g2⟩;have HG2:=Lib.hid (Gr.trans HG.out.1 g2);have x10':=(HRow.out w2 HG2.out).1.2.2.2.1
   rw [← HFa.out] at x10'
   clear g2 y0 y1 y2 y3 y4 y5 y6 y7 x10
   cases hmu:muchR a.z.nb a.z.na with
   | true=>
    clear hmu;go_wp2_with fail
    go_ret
    exact ⟨true,rfl,HG2.out,fun h=>by cases h⟩
   | false=>
    have HMu:=Lib.hid hmu;clear hmu
    by_cases hm:100 < a.m
    ·
     have hd:decide ((100:Int) < (a.m:Int))=true:=decide_eq_true (by omega);clear hm;go_wp2_with fail
     go_ret
     exact ⟨true,rfl,HG2.out,fun h=>by cases h⟩
    ·
     have hd:decide ((100:Int) < (a.m:Int))=false:=decide_eq_false (by omega)
     have HMi:Hid (Mild f (k+1)):=Lib.hid fun j hj=>by
      by_cases e:j=k
      · subst e;rw [← HFa.out];exact ⟨HMu.out,by omega⟩
      · exact HG.out.2 j (by omega)
     clear hm;go_wp2_with fail
     go_roundw
     case rel=>exact ⟨k+1,HMe.out.1,rfl,Lib.hid ⟨HG2.out,HMi.out⟩⟩
     case measure=>exact HMe.out.2
  ·
   obtain rfl:k=n:=by omega
   have g3:¬ (k:Int) < (k:Int):=by omega
   by_cases h80:80 < k
   ·
    have hd:decide ((80:Int) < (k:Int))=true:=decide_eq_true (by omega);clear hlt hk h80;go_wp2_with fail
    go_ret
    exact ⟨true,rfl,HG.out.1,fun h=>by cases h⟩
   ·
    have hd:decide ((80:Int) < (k:Int))=false:=decide_eq_false (by omega);have HL:Hid (k≤80):=Lib.hid (by omega);clear hlt hk h80;go_wp2_with fail
    go_ret
    exact ⟨false,rfl,HG.out.1,fun _=>⟨HL.out,HG.out.2⟩⟩
end Go.Proofs.YtlijbgapkmfnaaaGreat
namespace Go.Proofs.YtlijbgapkmfnaaaGreat
open Go.RowKit Go.Maps
def backR (E:Nat) (n:Int):Nat:=((E:Int) - n).toNat
set_option maxRecDepth 100000 in
theorem wback_any (E:Nat) (n:Int) (w:World) (hE:E≤9000000000000000000) (h0 : -9223372036854775808≤n) (h1:n≤9223372036854775807) :
  Calls Tryz.prog 29 #[.int .u64 (E:Int),.int .i64 n] w (RetU (backR E n) w):=by
 obtain ⟨B,hB⟩:∃ B,B=backR E n:=⟨_,rfl⟩;have HB:=Lib.hid hB
 by_cases hn:n < 0
 ·
  obtain ⟨m,hm⟩:∃ m:Nat,(m:Int) = -(n+1):=⟨(-(n+1)).toNat,by omega⟩
  have hb:(B:Int)=E+m+1:=by rw [hB];unfold backR;omega
  have e1:IntKind.i64.wrap (n+1)=n+1:=IntWalk.i64_in _ (by omega)
  have e2:IntKind.i64.wrap (-(n+1))=(m:Int):=by rw [IntWalk.i64_in _ (by omega)];omega
  have e3:IntKind.u64.wrap (m:Int)=(m:Int):=by rw [IntKind.wrap_u64];omega
  have e4:IntKind.u64.wrap ((E:Int)+(m:Int))=(E:Int)+m:=by rw [IntKind.wrap_u64];omega
  have e5:IntKind.u64.wrap ((E:Int)+(m:Int)+1)=(B:Int):=by rw [IntKind.wrap_u64];omega
  rw [← hB];clear hB hb hm
  go_enter Tryz.func29,Tryz.ntmps29
  go_wp2_with fail
  go_ret
  exact ⟨rfl,Gr.refl _⟩
 ·
  obtain ⟨m,rfl⟩:=Int.eq_ofNat_of_zero_le (show 0≤n by omega)
  have e3:IntKind.u64.wrap (m:Int)=(m:Int):=by rw [IntKind.wrap_u64];omega
  by_cases hm:E < m
  ·
   have g:(E:Int) < (m:Int):=by omega
   have hb:B=0:=by rw [hB];unfold backR;omega
   rw [← hB,hb];clear hB hb hm
   go_enter Tryz.func29,Tryz.ntmps29
   go_wp2_with fail
   go_ret
   exact ⟨rfl,Gr.refl _⟩
  ·
   have g:¬ (E:Int) < (m:Int):=by omega
   have e4:IntKind.u64.wrap ((E:Int) - (m:Int))=(B:Int):=by rw [hB];unfold backR;rw [IntKind.wrap_u64];omega
   rw [← hB];clear hB hm
   go_enter Tryz.func29,Tryz.ntmps29
   go_wp2_with fail
   go_ret
   exact ⟨rfl,Gr.refl _⟩
end Go.Proofs.YtlijbgapkmfnaaaGreat
namespace Go.Proofs.YtlijbgapkmfnaaaGreat
open Go.RowKit Go.Maps
structure WpK (i:Nat) (s:St) (L:Lg) (M:Nat):Prop where
 ok:L.Ok
 fits:L.Fits
 l:L.l=16
 n:L.n=64
 g:L.g=1
 fin:L.fin≤5000*i
 ep:L.epoch≤i+1
 len:s.ls.length=64
 wr:s.writes≤1000*i
 less:∀ j,(s.t j).length≤s.writes
 most:M≤20000+600*i
 cnt:i≤100
section
variable {i:Nat} {s:St} {L:Lg} {M:Nat}
theorem WpK.free (h:WpK i s L M):L.fin≤8000000000000000000:=by have:=h.fin;have:=h.cnt;omega
theorem WpK.more (h:WpK i s L M) (hi:i < 100):WpK (i+1) s L M:=⟨h.ok,h.fits,h.l,h.n,h.g,by have:=h.fin;omega,by have:=h.ep;omega,h.len,by have:=h.wr;omega,h.less,by have:=h.most;omega,hi⟩
theorem layL_parts (L:Lg) (r:Rc) (room:Int):(layL L r room).l=L.l∧(layL L r room).n=L.n∧(layL L r room).g=L.g∧(layL L r room).epoch=L.epoch∧(layL L r room).tail=L.tail:=by
 unfold layL Lg.more
 split <;> exact ⟨rfl,rfl,rfl,rfl,rfl⟩
theorem relL_parts (L:Lg) (r:Int):(relL L r).l=L.l∧(relL L r).n=L.n∧(relL L r).g=L.g∧(relL L r).epoch=L.epoch:=by
 unfold relL
 split <;> exact ⟨rfl,rfl,rfl,rfl⟩
theorem lay_up (L:Lg) (r:Rc) (room:Int):(layL L r room).fin≤L.fin+600:=by
 rw [layL_fin]
 by_cases h:layE r room=0
 ·
  rw [if_pos h]
  rcases layE_cases r room with h1 | h1 | ⟨_,h2,_⟩
  · rw [h] at h1;cases h1
  · rw [h] at h1;cases h1
  ·
   have:=mayQ_iff.1 h2
   omega
 · rw [if_neg h];omega
theorem WpK.app (h:WpK i s L M) (hi:i < 100) (r:Rc):WpK (i+1) s (layL L r L.free) (M+600):=by
 obtain ⟨p1,p2,p3,p4,_⟩:=layL_parts L r L.free;exact ⟨append_ok h.ok r h.free,fits_append h.ok h.fits r,p1.trans h.l,p2.trans h.n,p3.trans h.g,by have:=lay_up L r L.free;have:=h.fin;omega,by rw [p4];have:=h.ep;omega,h.len,by have:=h.wr;omega,h.less,by have:=h.most;omega,hi⟩
theorem WpK.use (h:WpK i s L M) (hi:i < 100) (r:Rc):WpK (i+1) s (useL L r) (M+600):=by
 obtain ⟨p1,p2,p3,p4,_⟩:=layL_parts L r L.rsv;obtain ⟨q1,q2,q3,q4⟩:=relL_parts (layL L r L.rsv) (35+r.b.length+r.a.length:Nat);have hu:=use_ok h.ok h.fits r h.free;have hk:=lay_rsv_ok h.ok h.fits r h.free
 have h5:(useL L r).l=L.l∧(useL L r).n=L.n∧(useL L r).g=L.g∧(useL L r).epoch=L.epoch∧(useL L r).fin≤L.fin+600:=by
  unfold useL
  split
  · exact ⟨q1.trans p1,q2.trans p2,q3.trans p3,q4.trans p4,by rw [(relL_ok hk _).2];exact lay_up L r L.rsv⟩
  · exact ⟨rfl,rfl,rfl,rfl,by omega⟩
 exact ⟨hu.1,hu.2,h5.1.trans h.l,h5.2.1.trans h.n,h5.2.2.1.trans h.g,by have:=h5.2.2.2.2;have:=h.fin;omega,by rw [h5.2.2.2.1];have:=h.ep;omega,h.len,by have:=h.wr;omega,h.less,by have:=h.most;omega,hi⟩
theorem WpK.fl (h:WpK i s L M) (hi:i < 100) (u:Nat):WpK (i+1) (flS s L u) (flL s L u) M:=by
 have hw:=flS_stw (s:=s) h.ok h.less u;have hl:=flL_facts (s:=s) h.ok u;exact ⟨hl.1,hl.2.fits h.fits,hl.2.l.trans h.l,hl.2.n.trans h.n,hl.2.g.trans h.g,by rw [hl.2.fin];have:=h.fin;omega,by rw [hl.2.epoch];have:=h.ep;omega,by rw [hw.len];exact h.len,by have:=hw.wr;have:=h.wr;omega,hw.less,by have:=h.most;omega,hi⟩
theorem WpK.tail (h:WpK i s L M) (hi:i < 100) (t:Nat):WpK (i+1) s (tailL L t) M:=by
 have ho:=tailL_ok h.ok t;have hf:=fits_tail h.ok h.fits t
 have h5:(tailL L t).l=L.l∧(tailL L t).n=L.n∧(tailL L t).g=L.g∧(tailL L t).epoch=L.epoch:=by
  unfold tailL
  split <;> exact ⟨rfl,rfl,rfl,rfl⟩
 exact ⟨ho.1,hf,h5.1.trans h.l,h5.2.1.trans h.n,h5.2.2.1.trans h.g,by rw [ho.2];have:=h.fin;omega,by rw [h5.2.2.2];have:=h.ep;omega,h.len,by have:=h.wr;omega,h.less,by have:=h.most;omega,hi⟩
theorem WpK.rsv (h:WpK i s L M) (hi:i < 100) (r:Int):WpK (i+1) s (rsvL L r) M:=by
 have ho:=rsvL_ok h.ok r;have hf:=fits_rsv h.ok h.fits r
 have h5:(rsvL L r).l=L.l∧(rsvL L r).n=L.n∧(rsvL L r).g=L.g∧(rsvL L r).epoch=L.epoch:=by
  unfold rsvL
  split
  · exact ⟨rfl,rfl,rfl,rfl⟩
  · split <;> exact ⟨rfl,rfl,rfl,rfl⟩
 exact ⟨ho.1,hf,h5.1.trans h.l,h5.2.1.trans h.n,h5.2.2.1.trans h.g,by rw [ho.2];have:=h.fin;omega,by rw [h5.2.2.2];have:=h.ep;omega,h.len,by have:=h.wr;omega,h.less,by have:=h.most;omega,hi⟩
theorem WpK.rel (h:WpK i s L M) (hi:i < 100) (r:Int):WpK (i+1) s (relL L r) M:=by
 have ho:=relL_ok h.ok r;have hf:=fits_rel h.ok h.fits r;have h5:=relL_parts L r;exact ⟨ho.1,hf,h5.1.trans h.l,h5.2.1.trans h.n,h5.2.2.1.trans h.g,by rw [ho.2];have:=h.fin;omega,by rw [h5.2.2.2];have:=h.ep;omega,h.len,by have:=h.wr;omega,h.less,by have:=h.most;omega,hi⟩
theorem WpK.disk (h:WpK i s L M) (hi:i < 100) {s':St} (h1:s'.ls.length=s.ls.length) (h2:s'.writes≤s.writes+1) (h3:∀ j,(s'.t j).length≤s'.writes):WpK (i+1) s' L M:=
 ⟨h.ok,h.fits,h.l,h.n,h.g,by have:=h.fin;omega,by have:=h.ep;omega,by rw [h1];exact h.len,by have:=h.wr;omega,h3,by have:=h.most;omega,hi⟩
end
def RetDo (w0:World) (bp i:Nat) (e:Ending) (w':World):Prop:=∃ S T pd pw pl pm s L M,e=.returned (.bool true)∧PrB w0 w' bp S T pd pw pl pm s L s L M∧WpK (i+1) s L M
def WDo.val (a:WDo):Array Value:=#[.int .i64 a.kind,.int .i64 a.n,.int .i64 a.z.c.k,.int .u64 (a.z.c.t:Int),.int .u64 (a.z.c.p:Int),.int .u64 (a.z.c.x:Int),.int .i64 a.z.c.g,.int .i64 a.z.c.o,.slice a.z.pb a.z.nb a.z.cb,.slice a.z.pa a.z.na a.z.ca,.slice a.q a.m a.c,.int .u8 a.byt]
structure DoB (w0 w W:World) (bp:Nat) (cs:Array Value) (S T:Nat→Prop) (pd pw pl pm:Value) (s:St) (L:Lg) (s2:St) (L2:Lg) (M:Nat):Prop where
 pk:PrK w0 (w.alloc (.cells cs TAw)) W w.heap.size bp S T pd pw pl pm s L s2 L2 M
 blk:Blk W w.heap.size TAw cs
section
variable {w0 w W W':World} {bp:Nat} {cs:Array Value} {S T S' T':Nat→Prop} {pd pw pl pm:Value} {s s2 s':St} {L L2 L':Lg} {M M':Nat}
theorem DoB.start (h:PrB w0 w bp S T pd pw pl pm s L s L M) (cs:Array Value):DoB w0 w (w.alloc (.cells cs TAw)) bp cs S T pd pw pl pm s L s L M:=
 ⟨PrK.start h (Gr.new _ _),Blk.new w TAw cs⟩
theorem DoB.c12 {k0 k1 k2 k3 k4 k5 k6 k7 k8 k9 k10 k11:Value} (h:DoB w0 w W bp #[k0,k1,k2,k3,k4,k5,k6,k7,k8,k9,k10,k11] S T pd pw pl pm s L s2 L2 M) :
  W.cell? ⟨w.heap.size,0,none⟩=some k0∧W.cell? ⟨w.heap.size,1,none⟩=some k1∧W.cell? ⟨w.heap.size,2,none⟩=some k2∧W.cell? ⟨w.heap.size,3,none⟩=some k3∧W.cell? ⟨w.heap.size,4,none⟩=some k4∧W.cell? ⟨w.heap.size,5,none⟩=some k5∧W.cell? ⟨w.heap.size,6,none⟩=some k6∧W.cell? ⟨w.heap.size,7,none⟩=some k7∧W.cell? ⟨w.heap.size,8,none⟩=some k8∧W.cell? ⟨w.heap.size,9,none⟩=some k9∧W.cell? ⟨w.heap.size,10,none⟩=some k10∧W.cell? ⟨w.heap.size,11,none⟩=some k11:=
 ⟨h.blk.cell 0,h.blk.cell 1,h.blk.cell 2,h.blk.cell 3,h.blk.cell 4,h.blk.cell 5,h.blk.cell 6,h.blk.cell 7,h.blk.cell 8,h.blk.cell 9,h.blk.cell 10,h.blk.cell 11⟩
theorem DoB.pr (h:DoB w0 w W bp cs S T pd pw pl pm s L s2 L2 M):PrB w0 W bp S T pd pw pl pm s L s2 L2 M:=h.pk.pr
theorem DoB.up (h:DoB w0 w W bp cs S T pd pw pl pm s L s2 L2 M) (g:Gr W W'):DoB w0 w W' bp cs S T pd pw pl pm s L s2 L2 M:=⟨h.pk.up g,h.blk.gr g⟩
theorem DoB.codes (h:DoB w0 w W bp cs S T pd pw pl pm s L s2 L2 M) (hc:CodeAt W' S' pd pl s' L') (hu:Upd S S' W W'):DoB w0 w W' bp cs S' T pd pw pl pm s' L' s2 L2 M:=by
 have h2:=h.pk.codes hc hu;have h3:Blk (w.alloc (.cells cs TAw)) w.heap.size TAw cs:=Blk.new w TAw cs;exact ⟨h2,h3.stays (h2.keep _ (Nat.le_refl _) h3.lt)⟩
theorem DoB.docs (h:DoB w0 w W bp cs S T pd pw pl pm s L s2 L2 M) (hc:DocAt W' T' pw pm s' L' M') (hu:Upd T T' W W'):DoB w0 w W' bp cs S T' pd pw pl pm s L s' L' M':=by
 have h2:=h.pk.docs hc hu;have h3:Blk (w.alloc (.cells cs TAw)) w.heap.size TAw cs:=Blk.new w TAw cs;exact ⟨h2,h3.stays (h2.keep _ (Nat.le_refl _) h3.lt)⟩
end
end Go.Proofs.YtlijbgapkmfnaaaGreat
namespace Go.Proofs.YtlijbgapkmfnaaaGreat
open Go.RowKit Go.Maps
set_option maxRecDepth 100000 in
set_option maxHeartbeats 2000000 in
theorem do_append {w0 w:World} {bp:Nat} {S T:Nat→Prop} {pd pw pl pm:Value} {s:St} {L:Lg} {M i:Nat} (h:PrB w0 w bp S T pd pw pl pm s L s L M) (hk:WpK i s L M) (hi:i < 100) (n:Int) (z:Rc) (pb:Option Addr) (nb cb:Nat) (pa:Option Addr) (na ca:Nat) (q:Option Addr) (m c:Nat) (byt:Int) (hin:∀ V,Gr w0 V→z.In∧Byt V pb nb cb z.b∧Byt V pa na ca z.a) :
  Calls Tryz.prog 8 #[.pointer (some ⟨bp,0,none⟩),.agg #[.int .i64 1,.int .i64 n,.int .i64 z.k,.int .u64 (z.t:Int),.int .u64 (z.p:Int),.int .u64 (z.x:Int),.int .i64 z.g,.int .i64 z.o,.slice pb nb cb,.slice pa na ca,.slice q m c,.int .u8 byt]] w (RetDo w0 bp i):=by
 obtain ⟨⟨lb,rfl⟩,_⟩:=h.code.ptr;obtain ⟨mb,rfl,_⟩:=h.doc.cells;obtain ⟨W1,hW1⟩:∃ W1,W1=w.alloc (.cells #[.int .i64 1,.int .i64 n,.int .i64 z.k,.int .u64 (z.t:Int),.int .u64 (z.p:Int),.int .u64 (z.x:Int),.int .i64 z.g,.int .i64 z.o,.slice pb nb cb,.slice pa na ca,.slice q m c,.int .u8 byt] TAw):=⟨_,rfl⟩;have HB:Hid (DoB w0 w W1 bp #[.int .i64 1,.int .i64 n,.int .i64 z.k,.int .u64 (z.t:Int),.int .u64 (z.p:Int),.int .u64 (z.x:Int),.int .i64 z.g,.int .i64 z.o,.slice pb nb cb,.slice pa na ca,.slice q m c,.int .u8 byt] S T pd pw (.pointer (some ⟨lb,0,none⟩)) (.pointer (some ⟨mb,0,none⟩)) s L s L M):=Lib.hid (by rw [hW1];exact DoB.start h _);have HW1:=Lib.hid hW1.symm;have HK:=Lib.hid hk;have HI:=Lib.hid hi
 have hmf:∀ (fn:Go.Fn) (first cap:Array Value) (w:World),(Instr.makeFunc fn first cap).run Tryz.prog w=.ok (.func fn first cap) w:=fun _ _ _ _=>rfl
 clear h hk hi hW1;obtain ⟨X,hX⟩:∃ X,X=layA L z L.free:=⟨_,rfl⟩;obtain ⟨Y,hY⟩:∃ Y,Y=layE z L.free:=⟨_,rfl⟩;obtain ⟨L9,hL9⟩:∃ L9,L9=layL L z L.free:=⟨_,rfl⟩;have HM9:Hid (WpK (i+1) s L9 (M+600)):=Lib.hid (by rw [hL9];exact HK.out.app HI.out z)
 have HAp:Hid (∀ V,DoB w0 w V bp #[.int .i64 1,.int .i64 n,.int .i64 z.k,.int .u64 (z.t:Int),.int .u64 (z.p:Int),.int .u64 (z.x:Int),.int .i64 z.g,.int .i64 z.o,.slice pb nb cb,.slice pa na ca,.slice q m c,.int .u8 byt] S T pd pw (.pointer (some ⟨lb,0,none⟩)) (.pointer (some ⟨mb,0,none⟩)) s L s L M→Calls Tryz.prog 19 #[(.pointer (some ⟨lb,0,none⟩)),.agg #[.int .i64 z.k,.int .u64 (z.t:Int),.int .u64 (z.p:Int),.int .u64 (z.x:Int),.int .i64 z.g,.int .i64 z.o,.slice pb nb cb,.slice pa na ca]] V (RetC (.tuple #[.int .u64 (X:Int),.int .i64 Y]) s L9 S pd (.pointer (some ⟨lb,0,none⟩)) V)):=Lib.hid fun V h=>by
  have hr:=hin V h.pr.gr;have h2:=h.pr.code.Append HK.out.ok z hr.1 pb nb cb pa na ca hr.2.1 hr.2.2
  rw [← hX,← hY,← hL9] at h2
  exact h2
 have HLa:Hid (∀ V S,DoB w0 w V bp #[.int .i64 1,.int .i64 n,.int .i64 z.k,.int .u64 (z.t:Int),.int .u64 (z.p:Int),.int .u64 (z.x:Int),.int .i64 z.g,.int .i64 z.o,.slice pb nb cb,.slice pa na ca,.slice q m c,.int .u8 byt] S T pd pw (.pointer (some ⟨lb,0,none⟩)) (.pointer (some ⟨mb,0,none⟩)) s L9 s L M→Calls Tryz.prog 23 #[(.pointer (some ⟨mb,0,none⟩)),.agg #[.int .i64 z.k,.int .u64 (z.t:Int),.int .u64 (z.p:Int),.int .u64 (z.x:Int),.int .i64 z.g,.int .i64 z.o,.slice pb nb cb,.slice pa na ca],.bool false] V (RetD (.tuple #[.int .u64 (X:Int),.int .i64 Y]) s L9 (M+600) T pw (.pointer (some ⟨mb,0,none⟩)) V)):=Lib.hid fun V S h=>by
  have hr:=hin V h.pr.gr;have h2:=h.pr.doc.Append HK.out.ok z hr.1 pb nb cb pa na ca hr.2.1 hr.2.2 (by have:=HK.out.most;have:=HK.out.cnt;omega)
  rw [← hX,← hY,← hL9] at h2
  exact h2
 have HIn:=Lib.hid hin;clear hin hX hY hL9
 go_enter Tryz.func8,Tryz.ntmps8
 go_upto_region 1 with fail
 rw [HW1.out];have hc2:=HB.out.pr.blk.cell 2
 simp at hc2
 have x0:=HB.out.blk.cell 0
 simp at x0
 have x2:=HB.out.blk.cell 2
 simp at x2
 have x3:=HB.out.blk.cell 3
 simp at x3
 have x4:=HB.out.blk.cell 4
 simp at x4
 have x5:=HB.out.blk.cell 5
 simp at x5
 have x6:=HB.out.blk.cell 6
 simp at x6
 have x7:=HB.out.blk.cell 7
 simp at x7
 have x8:=HB.out.blk.cell 8
 simp at x8
 have x9:=HB.out.blk.cell 9
 simp at x9
 go_wp2_with fail;refine (HAp.out W1 HB.out).mono ?_;rintro e W2 ⟨S2,rfl,hcc,huu⟩;have HB2:=Lib.hid (HB.out.codes hcc huu);clear hcc huu HAp HB hc2 x0 x2 x3 x4 x5 x6 x7 x8 x9;have hc3:=HB2.out.pr.blk.cell 3
 simp at hc3
 have x0:=HB2.out.blk.cell 0
 simp at x0
 have x2:=HB2.out.blk.cell 2
 simp at x2
 have x3:=HB2.out.blk.cell 3
 simp at x3
 have x4:=HB2.out.blk.cell 4
 simp at x4
 have x5:=HB2.out.blk.cell 5
 simp at x5
 have x6:=HB2.out.blk.cell 6
 simp at x6
 have x7:=HB2.out.blk.cell 7
 simp at x7
 have x8:=HB2.out.blk.cell 8
 simp at x8
 have x9:=HB2.out.blk.cell 9
 simp at x9
 have HLd:=Lib.hid (HLa.out W2.drew S2 (HB2.out.up ((Gr.refl W2).drew)));clear HLa;go_wp2_with fail
 go_region_held3 (fun V=>V.cell? ⟨bp,3,none⟩=some (.pointer (some ⟨mb,0,none⟩))∧V.cell? ⟨w.heap.size,0,none⟩=some (.int .i64 1)∧V.cell? ⟨w.heap.size,2,none⟩=some (.int .i64 z.k)∧V.cell? ⟨w.heap.size,3,none⟩=some (.int .u64 (z.t:Int))∧V.cell? ⟨w.heap.size,4,none⟩=some (.int .u64 (z.p:Int))∧V.cell? ⟨w.heap.size,5,none⟩=some (.int .u64 (z.x:Int))∧V.cell? ⟨w.heap.size,6,none⟩=some (.int .i64 z.g)∧V.cell? ⟨w.heap.size,7,none⟩=some (.int .i64 z.o)∧V.cell? ⟨w.heap.size,8,none⟩=some (.slice pb nb cb)∧V.cell? ⟨w.heap.size,9,none⟩=some (.slice pa na ca)) (first | exact ⟨hc3,x0,x2,x3,x4,x5,x6,x7,x8,x9⟩ | exact ⟨hd3,y0,y2,y3,y4,y5,y6,y7,y8,y9⟩) (first | (go_at_call 23;refine HLd.out.mono ?_;rintro e W3 ⟨T3,rfl,hcc,huu⟩;have HB3:=Lib.hid ((HB2.out.up ((Gr.refl W2).drew)).docs hcc huu);have hd3:=HB3.out.pr.blk.cell 3;simp at hd3;obtain ⟨y0,_,y2,y3,y4,y5,y6,y7,y8,y9,_⟩:=HB3.out.c12))
 clear hc3 x0 x2 x3 x4 x5 x6 x7 x8 x9 hcc huu hd3 y0 y2 y3 y4 y5 y6 y7 y8 y9 HLd HB2;go_wp2_with fail
 go_ret
 exact ⟨_,_,_,_,_,_,_,_,_,rfl,HB3.out.pr,HM9.out⟩
set_option maxRecDepth 100000 in
set_option maxHeartbeats 2000000 in
theorem do_use {w0 w:World} {bp:Nat} {S T:Nat→Prop} {pd pw pl pm:Value} {s:St} {L:Lg} {M i:Nat} (h:PrB w0 w bp S T pd pw pl pm s L s L M) (hk:WpK i s L M) (hi:i < 100) (n:Int) (z:Rc) (pb:Option Addr) (nb cb:Nat) (pa:Option Addr) (na ca:Nat) (q:Option Addr) (m c:Nat) (byt:Int) (hin:∀ V,Gr w0 V→z.In∧Byt V pb nb cb z.b∧Byt V pa na ca z.a) :
  Calls Tryz.prog 8 #[.pointer (some ⟨bp,0,none⟩),.agg #[.int .i64 2,.int .i64 n,.int .i64 z.k,.int .u64 (z.t:Int),.int .u64 (z.p:Int),.int .u64 (z.x:Int),.int .i64 z.g,.int .i64 z.o,.slice pb nb cb,.slice pa na ca,.slice q m c,.int .u8 byt]] w (RetDo w0 bp i):=by
 obtain ⟨⟨lb,rfl⟩,_⟩:=h.code.ptr;obtain ⟨mb,rfl,_⟩:=h.doc.cells;obtain ⟨W1,hW1⟩:∃ W1,W1=w.alloc (.cells #[.int .i64 2,.int .i64 n,.int .i64 z.k,.int .u64 (z.t:Int),.int .u64 (z.p:Int),.int .u64 (z.x:Int),.int .i64 z.g,.int .i64 z.o,.slice pb nb cb,.slice pa na ca,.slice q m c,.int .u8 byt] TAw):=⟨_,rfl⟩;have HB:Hid (DoB w0 w W1 bp #[.int .i64 2,.int .i64 n,.int .i64 z.k,.int .u64 (z.t:Int),.int .u64 (z.p:Int),.int .u64 (z.x:Int),.int .i64 z.g,.int .i64 z.o,.slice pb nb cb,.slice pa na ca,.slice q m c,.int .u8 byt] S T pd pw (.pointer (some ⟨lb,0,none⟩)) (.pointer (some ⟨mb,0,none⟩)) s L s L M):=Lib.hid (by rw [hW1];exact DoB.start h _);have HW1:=Lib.hid hW1.symm;have HK:=Lib.hid hk;have HI:=Lib.hid hi
 have hmf:∀ (fn:Go.Fn) (first cap:Array Value) (w:World),(Instr.makeFunc fn first cap).run Tryz.prog w=.ok (.func fn first cap) w:=fun _ _ _ _=>rfl
 clear h hk hi hW1;obtain ⟨X,hX⟩:∃ X,X=layA L z L.rsv:=⟨_,rfl⟩;obtain ⟨Y,hY⟩:∃ Y,Y=layE z L.rsv:=⟨_,rfl⟩;obtain ⟨L9,hL9⟩:∃ L9,L9=useL L z:=⟨_,rfl⟩;have HM9:Hid (WpK (i+1) s L9 (M+600)):=Lib.hid (by rw [hL9];exact HK.out.use HI.out z)
 have HAp:Hid (∀ V,DoB w0 w V bp #[.int .i64 2,.int .i64 n,.int .i64 z.k,.int .u64 (z.t:Int),.int .u64 (z.p:Int),.int .u64 (z.x:Int),.int .i64 z.g,.int .i64 z.o,.slice pb nb cb,.slice pa na ca,.slice q m c,.int .u8 byt] S T pd pw (.pointer (some ⟨lb,0,none⟩)) (.pointer (some ⟨mb,0,none⟩)) s L s L M→Calls Tryz.prog 28 #[(.pointer (some ⟨lb,0,none⟩)),.agg #[.int .i64 z.k,.int .u64 (z.t:Int),.int .u64 (z.p:Int),.int .u64 (z.x:Int),.int .i64 z.g,.int .i64 z.o,.slice pb nb cb,.slice pa na ca]] V (RetC (.tuple #[.int .u64 (X:Int),.int .i64 Y]) s L9 S pd (.pointer (some ⟨lb,0,none⟩)) V)):=Lib.hid fun V h=>by
  have hr:=hin V h.pr.gr;have h2:=h.pr.code.Use HK.out.ok (lay_rsv_ok HK.out.ok HK.out.fits z HK.out.free) hr.1 pb nb cb pa na ca hr.2.1 hr.2.2
  rw [← hX,← hY,← hL9] at h2
  exact h2
 have HLa:Hid (∀ V S,DoB w0 w V bp #[.int .i64 2,.int .i64 n,.int .i64 z.k,.int .u64 (z.t:Int),.int .u64 (z.p:Int),.int .u64 (z.x:Int),.int .i64 z.g,.int .i64 z.o,.slice pb nb cb,.slice pa na ca,.slice q m c,.int .u8 byt] S T pd pw (.pointer (some ⟨lb,0,none⟩)) (.pointer (some ⟨mb,0,none⟩)) s L9 s L M→Calls Tryz.prog 23 #[(.pointer (some ⟨mb,0,none⟩)),.agg #[.int .i64 z.k,.int .u64 (z.t:Int),.int .u64 (z.p:Int),.int .u64 (z.x:Int),.int .i64 z.g,.int .i64 z.o,.slice pb nb cb,.slice pa na ca],.bool true] V (RetD (.tuple #[.int .u64 (X:Int),.int .i64 Y]) s L9 (M+600) T pw (.pointer (some ⟨mb,0,none⟩)) V)):=Lib.hid fun V S h=>by
  have hr:=hin V h.pr.gr;have h2:=h.pr.doc.Use HK.out.ok z hr.1 pb nb cb pa na ca hr.2.1 hr.2.2 (by have:=HK.out.most;have:=HK.out.cnt;omega) (by obtain ⟨G,hg,_⟩:=h.pr.doc.disk (w':=V);obtain ⟨D,_,_,_,e,_⟩:=hg;exact ⟨D,e⟩)
  rw [← hX,← hY,← hL9] at h2
  exact h2
 have HIn:=Lib.hid hin;clear hin hX hY hL9
 go_enter Tryz.func8,Tryz.ntmps8
 go_upto_region 1 with fail
 rw [HW1.out];have hc2:=HB.out.pr.blk.cell 2
 simp at hc2
 have x0:=HB.out.blk.cell 0
 simp at x0
 have x2:=HB.out.blk.cell 2
 simp at x2
 have x3:=HB.out.blk.cell 3
 simp at x3
 have x4:=HB.out.blk.cell 4
 simp at x4
 have x5:=HB.out.blk.cell 5
 simp at x5
 have x6:=HB.out.blk.cell 6
 simp at x6
 have x7:=HB.out.blk.cell 7
 simp at x7
 have x8:=HB.out.blk.cell 8
 simp at x8
 have x9:=HB.out.blk.cell 9
 simp at x9
 go_wp2_with fail;refine (HAp.out W1 HB.out).mono ?_;rintro e W2 ⟨S2,rfl,hcc,huu⟩;have HB2:=Lib.hid (HB.out.codes hcc huu);clear hcc huu HAp HB hc2 x0 x2 x3 x4 x5 x6 x7 x8 x9;have hc3:=HB2.out.pr.blk.cell 3
 simp at hc3
 have x0:=HB2.out.blk.cell 0
 simp at x0
 have x2:=HB2.out.blk.cell 2
 simp at x2
 have x3:=HB2.out.blk.cell 3
 simp at x3
 have x4:=HB2.out.blk.cell 4
 simp at x4
 have x5:=HB2.out.blk.cell 5
 simp at x5
 have x6:=HB2.out.blk.cell 6
 simp at x6
 have x7:=HB2.out.blk.cell 7
 simp at x7
 have x8:=HB2.out.blk.cell 8
 simp at x8
 have x9:=HB2.out.blk.cell 9
 simp at x9
 have HLd:=Lib.hid (HLa.out W2.drew S2 (HB2.out.up ((Gr.refl W2).drew)));clear HLa;go_wp2_with fail
 go_region_held3 (fun V=>V.cell? ⟨bp,3,none⟩=some (.pointer (some ⟨mb,0,none⟩))∧V.cell? ⟨w.heap.size,0,none⟩=some (.int .i64 2)∧V.cell? ⟨w.heap.size,2,none⟩=some (.int .i64 z.k)∧V.cell? ⟨w.heap.size,3,none⟩=some (.int .u64 (z.t:Int))∧V.cell? ⟨w.heap.size,4,none⟩=some (.int .u64 (z.p:Int))∧V.cell? ⟨w.heap.size,5,none⟩=some (.int .u64 (z.x:Int))∧V.cell? ⟨w.heap.size,6,none⟩=some (.int .i64 z.g)∧V.cell? ⟨w.heap.size,7,none⟩=some (.int .i64 z.o)∧V.cell? ⟨w.heap.size,8,none⟩=some (.slice pb nb cb)∧V.cell? ⟨w.heap.size,9,none⟩=some (.slice pa na ca)) (first | exact ⟨hc3,x0,x2,x3,x4,x5,x6,x7,x8,x9⟩ | exact ⟨hd3,y0,y2,y3,y4,y5,y6,y7,y8,y9⟩) (first | (go_at_call 23;refine HLd.out.mono ?_;rintro e W3 ⟨T3,rfl,hcc,huu⟩;have HB3:=Lib.hid ((HB2.out.up ((Gr.refl W2).drew)).docs hcc huu);have hd3:=HB3.out.pr.blk.cell 3;simp at hd3;obtain ⟨y0,_,y2,y3,y4,y5,y6,y7,y8,y9,_⟩:=HB3.out.c12))
 clear hc3 x0 x2 x3 x4 x5 x6 x7 x8 x9 hcc huu hd3 y0 y2 y3 y4 y5 y6 y7 y8 y9 HLd HB2;go_wp2_with fail
 go_ret
 exact ⟨_,_,_,_,_,_,_,_,_,rfl,HB3.out.pr,HM9.out⟩
end Go.Proofs.YtlijbgapkmfnaaaGreat
namespace Go.Proofs.YtlijbgapkmfnaaaGreat
open Go.RowKit Go.Maps
set_option maxRecDepth 100000 in
set_option maxHeartbeats 2000000 in
theorem do_flush {w0 w:World} {bp:Nat} {S T:Nat→Prop} {pd pw pl pm:Value} {s:St} {L:Lg} {M i:Nat} (h:PrB w0 w bp S T pd pw pl pm s L s L M) (hk:WpK i s L M) (hi:i < 100) (n:Int) (z:Rc) (pb:Option Addr) (nb cb:Nat) (pa:Option Addr) (na ca:Nat) (q:Option Addr) (m c:Nat) (byt:Int) (hn0 : -9223372036854775808≤n) (hn1:n≤9223372036854775807) :
  Calls Tryz.prog 8 #[.pointer (some ⟨bp,0,none⟩),.agg #[.int .i64 3,.int .i64 n,.int .i64 z.k,.int .u64 (z.t:Int),.int .u64 (z.p:Int),.int .u64 (z.x:Int),.int .i64 z.g,.int .i64 z.o,.slice pb nb cb,.slice pa na ca,.slice q m c,.int .u8 byt]] w (RetDo w0 bp i):=by
 obtain ⟨⟨lb,rfl⟩,_⟩:=h.code.ptr;obtain ⟨mb,rfl,_⟩:=h.doc.cells;obtain ⟨W1,hW1⟩:∃ W1,W1=w.alloc (.cells #[.int .i64 3,.int .i64 n,.int .i64 z.k,.int .u64 (z.t:Int),.int .u64 (z.p:Int),.int .u64 (z.x:Int),.int .i64 z.g,.int .i64 z.o,.slice pb nb cb,.slice pa na ca,.slice q m c,.int .u8 byt] TAw):=⟨_,rfl⟩;have HB:Hid (DoB w0 w W1 bp #[.int .i64 3,.int .i64 n,.int .i64 z.k,.int .u64 (z.t:Int),.int .u64 (z.p:Int),.int .u64 (z.x:Int),.int .i64 z.g,.int .i64 z.o,.slice pb nb cb,.slice pa na ca,.slice q m c,.int .u8 byt] S T pd pw (.pointer (some ⟨lb,0,none⟩)) (.pointer (some ⟨mb,0,none⟩)) s L s L M):=Lib.hid (by rw [hW1];exact DoB.start h _);have HW1:=Lib.hid hW1.symm;have HK:=Lib.hid hk;have HI:=Lib.hid hi
 have hmf:∀ (fn:Go.Fn) (first cap:Array Value) (w:World),(Instr.makeFunc fn first cap).run Tryz.prog w=.ok (.func fn first cap) w:=fun _ _ _ _=>rfl
 clear h hk hi hW1;obtain ⟨E0,hE0⟩:∃ E0,E0=L.fin:=⟨_,rfl⟩;obtain ⟨J,hJ⟩:∃ J,J=backR E0 n:=⟨_,rfl⟩;obtain ⟨Y,hY⟩:∃ Y,Y=(flE s L J):=⟨_,rfl⟩;obtain ⟨s9,hs9⟩:∃ s9,s9=flS s L J:=⟨_,rfl⟩;obtain ⟨L9,hL9⟩:∃ L9,L9=flL s L J:=⟨_,rfl⟩;have HM9:Hid (WpK (i+1) s9 L9 M):=Lib.hid (by rw [hs9,hL9];exact HK.out.fl HI.out J)
 have HEn:Hid (∀ V,DoB w0 w V bp #[.int .i64 3,.int .i64 n,.int .i64 z.k,.int .u64 (z.t:Int),.int .u64 (z.p:Int),.int .u64 (z.x:Int),.int .i64 z.g,.int .i64 z.o,.slice pb nb cb,.slice pa na ca,.slice q m c,.int .u8 byt] S T pd pw (.pointer (some ⟨lb,0,none⟩)) (.pointer (some ⟨mb,0,none⟩)) s L s L M→Calls Tryz.prog 30 #[(.pointer (some ⟨mb,0,none⟩))] V (RetU E0 V)):=Lib.hid fun V h=>by rw [hE0];exact h.pr.doc.End HK.out.ok
 have HBk:Hid (∀ V,Calls Tryz.prog 29 #[.int .u64 (E0:Int),.int .i64 n] V (RetU J V)):=Lib.hid fun V=>by rw [hJ];exact wback_any E0 n V (by have:=HK.out.fin;have:=HK.out.cnt;omega) hn0 hn1
 have HCo:Hid (∀ V,DoB w0 w V bp #[.int .i64 3,.int .i64 n,.int .i64 z.k,.int .u64 (z.t:Int),.int .u64 (z.p:Int),.int .u64 (z.x:Int),.int .i64 z.g,.int .i64 z.o,.slice pb nb cb,.slice pa na ca,.slice q m c,.int .u8 byt] S T pd pw (.pointer (some ⟨lb,0,none⟩)) (.pointer (some ⟨mb,0,none⟩)) s L s L M→Calls Tryz.prog 21 #[(.pointer (some ⟨lb,0,none⟩)),.int .u64 (J:Int)] V (RetC (.int .i64 Y) s9 L9 S pd (.pointer (some ⟨lb,0,none⟩)) V)):=Lib.hid fun V h=>by
  rw [hY,hs9,hL9];exact h.pr.code.Flush HK.out.ok (by rw [HK.out.l,HK.out.len];decide) (by have:=HK.out.wr;have:=HK.out.cnt;omega) J (by have h7:J=backR E0 n:=hJ;unfold backR at h7;have:=HK.out.fin;have:=HK.out.cnt;omega)
 have HDo:Hid (∀ V S,DoB w0 w V bp #[.int .i64 3,.int .i64 n,.int .i64 z.k,.int .u64 (z.t:Int),.int .u64 (z.p:Int),.int .u64 (z.x:Int),.int .i64 z.g,.int .i64 z.o,.slice pb nb cb,.slice pa na ca,.slice q m c,.int .u8 byt] S T pd pw (.pointer (some ⟨lb,0,none⟩)) (.pointer (some ⟨mb,0,none⟩)) s9 L9 s L M→Calls Tryz.prog 24 #[(.pointer (some ⟨mb,0,none⟩)),.int .u64 (J:Int)] V (RetD (.int .i64 Y) s9 L9 M T pw (.pointer (some ⟨mb,0,none⟩)) V)):=Lib.hid fun V S h=>by
  rw [hY,hs9,hL9];exact h.pr.doc.Flush HK.out.ok (by rw [HK.out.l,HK.out.len];decide) (by have:=HK.out.wr;have:=HK.out.cnt;omega) HK.out.less J (by have h7:J=backR E0 n:=hJ;unfold backR at h7;have:=HK.out.fin;have:=HK.out.cnt;omega)
 clear hE0 hJ hY hs9 hL9 hn0 hn1
 go_enter Tryz.func8,Tryz.ntmps8
 go_upto_region 1 with fail
 rw [HW1.out];have hc3:=HB.out.pr.blk.cell 3
 simp at hc3
 have x0:=HB.out.blk.cell 0
 simp at x0
 have x1:=HB.out.blk.cell 1
 simp at x1
 go_wp2_with fail
 go_region_held3 (fun V=>V.cell? ⟨bp,3,none⟩=some (.pointer (some ⟨mb,0,none⟩))∧V.cell? ⟨w.heap.size,1,none⟩=some (.int .i64 n)) (first | exact ⟨hc3,x1⟩ | exact ⟨hd3,y1⟩ | exact ⟨he3,z1⟩) (first
  | (go_at_call 30;refine (HEn.out W1.drew (HB.out.up (Gr.refl W1).drew)).mono ?_;rintro e w2 ⟨rfl,g2⟩;have HB2:=Lib.hid ((HB.out.up (Gr.refl W1).drew).up g2);have hd3:=HB2.out.pr.blk.cell 3;simp at hd3;obtain ⟨_,y1,_⟩:=HB2.out.c12)
  | (go_at_call 29;refine (HBk.out w2).mono ?_;rintro e w3 ⟨rfl,g3⟩;have HB3:=Lib.hid (HB2.out.up g3);have he3:=HB3.out.pr.blk.cell 3;simp at he3;obtain ⟨_,z1,_⟩:=HB3.out.c12))
 clear hc3 hd3 he3 x0 x1 y1 z1 g2 g3 HEn HBk HB HB2;have hc2:=HB3.out.pr.blk.cell 2;have hc3:=HB3.out.pr.blk.cell 3
 simp at hc2 hc3
 go_wp2_with fail
 go_region_held3 (fun V=>V.cell? ⟨bp,2,none⟩=some (.pointer (some ⟨lb,0,none⟩))∧V.cell? ⟨bp,3,none⟩=some (.pointer (some ⟨mb,0,none⟩))) (first | exact ⟨hc2,hc3⟩ | exact ⟨hd2,hd3⟩ | exact ⟨he2,he3⟩) (first
  | (go_at_call 21;refine (HCo.out w3.drew (HB3.out.up (Gr.refl w3).drew)).mono ?_;rintro e w4 ⟨S4,rfl,hcc,huu⟩;have HB4:=Lib.hid ((HB3.out.up (Gr.refl w3).drew).codes hcc huu);have hd2:=HB4.out.pr.blk.cell 2;have hd3:=HB4.out.pr.blk.cell 3;simp at hd2 hd3)
  | (go_at_call 24;refine (HDo.out w4 S4 HB4.out).mono ?_;rintro e w5 ⟨T5,rfl,hce,hue⟩;have HB5:=Lib.hid (HB4.out.docs hce hue);have he2:=HB5.out.pr.blk.cell 2;have he3:=HB5.out.pr.blk.cell 3;simp at he2 he3))
 clear hc2 hc3 hd2 hd3 he2 he3 hcc huu hce hue HCo HDo HB3 HB4;go_wp2_with fail
 go_ret
 exact ⟨_,_,_,_,_,_,_,_,_,rfl,HB5.out.pr,HM9.out⟩
set_option maxRecDepth 100000 in
set_option maxHeartbeats 2000000 in
theorem do_settail {w0 w:World} {bp:Nat} {S T:Nat→Prop} {pd pw pl pm:Value} {s:St} {L:Lg} {M i:Nat} (h:PrB w0 w bp S T pd pw pl pm s L s L M) (hk:WpK i s L M) (hi:i < 100) (n:Int) (z:Rc) (pb:Option Addr) (nb cb:Nat) (pa:Option Addr) (na ca:Nat) (q:Option Addr) (m c:Nat) (byt:Int) (hn0 : -9223372036854775808≤n) (hn1:n≤9223372036854775807) :
  Calls Tryz.prog 8 #[.pointer (some ⟨bp,0,none⟩),.agg #[.int .i64 4,.int .i64 n,.int .i64 z.k,.int .u64 (z.t:Int),.int .u64 (z.p:Int),.int .u64 (z.x:Int),.int .i64 z.g,.int .i64 z.o,.slice pb nb cb,.slice pa na ca,.slice q m c,.int .u8 byt]] w (RetDo w0 bp i):=by
 obtain ⟨⟨lb,rfl⟩,_⟩:=h.code.ptr;obtain ⟨mb,rfl,_⟩:=h.doc.cells;obtain ⟨W1,hW1⟩:∃ W1,W1=w.alloc (.cells #[.int .i64 4,.int .i64 n,.int .i64 z.k,.int .u64 (z.t:Int),.int .u64 (z.p:Int),.int .u64 (z.x:Int),.int .i64 z.g,.int .i64 z.o,.slice pb nb cb,.slice pa na ca,.slice q m c,.int .u8 byt] TAw):=⟨_,rfl⟩;have HB:Hid (DoB w0 w W1 bp #[.int .i64 4,.int .i64 n,.int .i64 z.k,.int .u64 (z.t:Int),.int .u64 (z.p:Int),.int .u64 (z.x:Int),.int .i64 z.g,.int .i64 z.o,.slice pb nb cb,.slice pa na ca,.slice q m c,.int .u8 byt] S T pd pw (.pointer (some ⟨lb,0,none⟩)) (.pointer (some ⟨mb,0,none⟩)) s L s L M):=Lib.hid (by rw [hW1];exact DoB.start h _);have HW1:=Lib.hid hW1.symm;have HK:=Lib.hid hk;have HI:=Lib.hid hi
 have hmf:∀ (fn:Go.Fn) (first cap:Array Value) (w:World),(Instr.makeFunc fn first cap).run Tryz.prog w=.ok (.func fn first cap) w:=fun _ _ _ _=>rfl
 clear h hk hi hW1;obtain ⟨E0,hE0⟩:∃ E0,E0=L.fin:=⟨_,rfl⟩;obtain ⟨J,hJ⟩:∃ J,J=backR E0 n:=⟨_,rfl⟩;obtain ⟨Y,hY⟩:∃ Y,Y=(tailE L J):=⟨_,rfl⟩;obtain ⟨s9,hs9⟩:∃ s9,s9=s:=⟨_,rfl⟩;obtain ⟨L9,hL9⟩:∃ L9,L9=tailL L J:=⟨_,rfl⟩;have HM9:Hid (WpK (i+1) s9 L9 M):=Lib.hid (by rw [hs9,hL9];exact HK.out.tail HI.out J)
 have HEn:Hid (∀ V,DoB w0 w V bp #[.int .i64 4,.int .i64 n,.int .i64 z.k,.int .u64 (z.t:Int),.int .u64 (z.p:Int),.int .u64 (z.x:Int),.int .i64 z.g,.int .i64 z.o,.slice pb nb cb,.slice pa na ca,.slice q m c,.int .u8 byt] S T pd pw (.pointer (some ⟨lb,0,none⟩)) (.pointer (some ⟨mb,0,none⟩)) s L s L M→Calls Tryz.prog 30 #[(.pointer (some ⟨mb,0,none⟩))] V (RetU E0 V)):=Lib.hid fun V h=>by rw [hE0];exact h.pr.doc.End HK.out.ok
 have HBk:Hid (∀ V,Calls Tryz.prog 29 #[.int .u64 (E0:Int),.int .i64 n] V (RetU J V)):=Lib.hid fun V=>by rw [hJ];exact wback_any E0 n V (by have:=HK.out.fin;have:=HK.out.cnt;omega) hn0 hn1
 have HCo:Hid (∀ V,DoB w0 w V bp #[.int .i64 4,.int .i64 n,.int .i64 z.k,.int .u64 (z.t:Int),.int .u64 (z.p:Int),.int .u64 (z.x:Int),.int .i64 z.g,.int .i64 z.o,.slice pb nb cb,.slice pa na ca,.slice q m c,.int .u8 byt] S T pd pw (.pointer (some ⟨lb,0,none⟩)) (.pointer (some ⟨mb,0,none⟩)) s L s L M→Calls Tryz.prog 31 #[(.pointer (some ⟨lb,0,none⟩)),.int .u64 (J:Int)] V (RetC (.int .i64 Y) s9 L9 S pd (.pointer (some ⟨lb,0,none⟩)) V)):=Lib.hid fun V h=>by
  rw [hY,hs9,hL9];exact h.pr.code.SetTail J
 have HDo:Hid (∀ V S,DoB w0 w V bp #[.int .i64 4,.int .i64 n,.int .i64 z.k,.int .u64 (z.t:Int),.int .u64 (z.p:Int),.int .u64 (z.x:Int),.int .i64 z.g,.int .i64 z.o,.slice pb nb cb,.slice pa na ca,.slice q m c,.int .u8 byt] S T pd pw (.pointer (some ⟨lb,0,none⟩)) (.pointer (some ⟨mb,0,none⟩)) s9 L9 s L M→Calls Tryz.prog 32 #[(.pointer (some ⟨mb,0,none⟩)),.int .u64 (J:Int)] V (RetD (.int .i64 Y) s9 L9 M T pw (.pointer (some ⟨mb,0,none⟩)) V)):=Lib.hid fun V S h=>by
  rw [hY,hs9,hL9];exact h.pr.doc.SetTail J
 clear hE0 hJ hY hs9 hL9 hn0 hn1
 go_enter Tryz.func8,Tryz.ntmps8
 go_upto_region 1 with fail
 rw [HW1.out];have hc3:=HB.out.pr.blk.cell 3
 simp at hc3
 have x0:=HB.out.blk.cell 0
 simp at x0
 have x1:=HB.out.blk.cell 1
 simp at x1
 go_wp2_with fail
 go_region_held3 (fun V=>V.cell? ⟨bp,3,none⟩=some (.pointer (some ⟨mb,0,none⟩))∧V.cell? ⟨w.heap.size,1,none⟩=some (.int .i64 n)) (first | exact ⟨hc3,x1⟩ | exact ⟨hd3,y1⟩ | exact ⟨he3,z1⟩) (first
  | (go_at_call 30;refine (HEn.out W1.drew (HB.out.up (Gr.refl W1).drew)).mono ?_;rintro e w2 ⟨rfl,g2⟩;have HB2:=Lib.hid ((HB.out.up (Gr.refl W1).drew).up g2);have hd3:=HB2.out.pr.blk.cell 3;simp at hd3;obtain ⟨_,y1,_⟩:=HB2.out.c12)
  | (go_at_call 29;refine (HBk.out w2).mono ?_;rintro e w3 ⟨rfl,g3⟩;have HB3:=Lib.hid (HB2.out.up g3);have he3:=HB3.out.pr.blk.cell 3;simp at he3;obtain ⟨_,z1,_⟩:=HB3.out.c12))
 clear hc3 hd3 he3 x0 x1 y1 z1 g2 g3 HEn HBk HB HB2;have hc2:=HB3.out.pr.blk.cell 2;have hc3:=HB3.out.pr.blk.cell 3
 simp at hc2 hc3
 go_wp2_with fail
 go_region_held3 (fun V=>V.cell? ⟨bp,2,none⟩=some (.pointer (some ⟨lb,0,none⟩))∧V.cell? ⟨bp,3,none⟩=some (.pointer (some ⟨mb,0,none⟩))) (first | exact ⟨hc2,hc3⟩ | exact ⟨hd2,hd3⟩ | exact ⟨he2,he3⟩) (first
  | (go_at_call 31;refine (HCo.out w3.drew (HB3.out.up (Gr.refl w3).drew)).mono ?_;rintro e w4 ⟨S4,rfl,hcc,huu⟩;have HB4:=Lib.hid ((HB3.out.up (Gr.refl w3).drew).codes hcc huu);have hd2:=HB4.out.pr.blk.cell 2;have hd3:=HB4.out.pr.blk.cell 3;simp at hd2 hd3)
  | (go_at_call 32;refine (HDo.out w4 S4 HB4.out).mono ?_;rintro e w5 ⟨T5,rfl,hce,hue⟩;have HB5:=Lib.hid (HB4.out.docs hce hue);have he2:=HB5.out.pr.blk.cell 2;have he3:=HB5.out.pr.blk.cell 3;simp at he2 he3))
 clear hc2 hc3 hd2 hd3 he2 he3 hcc huu hce hue HCo HDo HB3 HB4;go_wp2_with fail
 go_ret
 exact ⟨_,_,_,_,_,_,_,_,_,rfl,HB5.out.pr,HM9.out⟩
set_option maxRecDepth 100000 in
set_option maxHeartbeats 2000000 in
theorem do_reserve {w0 w:World} {bp:Nat} {S T:Nat→Prop} {pd pw pl pm:Value} {s:St} {L:Lg} {M i:Nat} (h:PrB w0 w bp S T pd pw pl pm s L s L M) (hk:WpK i s L M) (hi:i < 100) (n:Int) (z:Rc) (pb:Option Addr) (nb cb:Nat) (pa:Option Addr) (na ca:Nat) (q:Option Addr) (m c:Nat) (byt:Int) (hn0 : -9223372036854775808≤n) (hn1:n≤9223372036854775807) :
  Calls Tryz.prog 8 #[.pointer (some ⟨bp,0,none⟩),.agg #[.int .i64 5,.int .i64 n,.int .i64 z.k,.int .u64 (z.t:Int),.int .u64 (z.p:Int),.int .u64 (z.x:Int),.int .i64 z.g,.int .i64 z.o,.slice pb nb cb,.slice pa na ca,.slice q m c,.int .u8 byt]] w (RetDo w0 bp i):=by
 obtain ⟨⟨lb,rfl⟩,_⟩:=h.code.ptr;obtain ⟨mb,rfl,_⟩:=h.doc.cells;obtain ⟨W1,hW1⟩:∃ W1,W1=w.alloc (.cells #[.int .i64 5,.int .i64 n,.int .i64 z.k,.int .u64 (z.t:Int),.int .u64 (z.p:Int),.int .u64 (z.x:Int),.int .i64 z.g,.int .i64 z.o,.slice pb nb cb,.slice pa na ca,.slice q m c,.int .u8 byt] TAw):=⟨_,rfl⟩;have HB:Hid (DoB w0 w W1 bp #[.int .i64 5,.int .i64 n,.int .i64 z.k,.int .u64 (z.t:Int),.int .u64 (z.p:Int),.int .u64 (z.x:Int),.int .i64 z.g,.int .i64 z.o,.slice pb nb cb,.slice pa na ca,.slice q m c,.int .u8 byt] S T pd pw (.pointer (some ⟨lb,0,none⟩)) (.pointer (some ⟨mb,0,none⟩)) s L s L M):=Lib.hid (by rw [hW1];exact DoB.start h _);have HW1:=Lib.hid hW1.symm;have HK:=Lib.hid hk;have HI:=Lib.hid hi
 have hmf:∀ (fn:Go.Fn) (first cap:Array Value) (w:World),(Instr.makeFunc fn first cap).run Tryz.prog w=.ok (.func fn first cap) w:=fun _ _ _ _=>rfl
 clear h hk hi hW1;obtain ⟨Y,hY⟩:∃ Y,Y=rsvE L n:=⟨_,rfl⟩;obtain ⟨L9,hL9⟩:∃ L9,L9=rsvL L n:=⟨_,rfl⟩;have HM9:Hid (WpK (i+1) s L9 M):=Lib.hid (by rw [hL9];exact HK.out.rsv HI.out n)
 have HCo:Hid (∀ V,DoB w0 w V bp #[.int .i64 5,.int .i64 n,.int .i64 z.k,.int .u64 (z.t:Int),.int .u64 (z.p:Int),.int .u64 (z.x:Int),.int .i64 z.g,.int .i64 z.o,.slice pb nb cb,.slice pa na ca,.slice q m c,.int .u8 byt] S T pd pw (.pointer (some ⟨lb,0,none⟩)) (.pointer (some ⟨mb,0,none⟩)) s L s L M→Calls Tryz.prog 33 #[(.pointer (some ⟨lb,0,none⟩)),.int .i64 n] V (RetC (.int .i64 Y) s L9 S pd (.pointer (some ⟨lb,0,none⟩)) V)):=Lib.hid fun V h=>by
  rw [hY,hL9];exact h.pr.code.Reserve HK.out.ok n
 have HDo:Hid (∀ V S,DoB w0 w V bp #[.int .i64 5,.int .i64 n,.int .i64 z.k,.int .u64 (z.t:Int),.int .u64 (z.p:Int),.int .u64 (z.x:Int),.int .i64 z.g,.int .i64 z.o,.slice pb nb cb,.slice pa na ca,.slice q m c,.int .u8 byt] S T pd pw (.pointer (some ⟨lb,0,none⟩)) (.pointer (some ⟨mb,0,none⟩)) s L9 s L M→Calls Tryz.prog 34 #[(.pointer (some ⟨mb,0,none⟩)),.int .i64 n] V (RetD (.int .i64 Y) s L9 M T pw (.pointer (some ⟨mb,0,none⟩)) V)):=Lib.hid fun V S h=>by
  rw [hY,hL9];exact h.pr.doc.Reserve HK.out.ok n
 clear hY hL9 hn0 hn1
 go_enter Tryz.func8,Tryz.ntmps8
 go_upto_region 1 with fail
 rw [HW1.out];have hc2:=HB.out.pr.blk.cell 2;have hc3:=HB.out.pr.blk.cell 3
 simp at hc2 hc3
 have x0:=HB.out.blk.cell 0
 simp at x0
 have x1:=HB.out.blk.cell 1
 simp at x1
 go_wp2_with fail
 go_region_held3 (fun V=>V.cell? ⟨bp,2,none⟩=some (.pointer (some ⟨lb,0,none⟩))∧V.cell? ⟨bp,3,none⟩=some (.pointer (some ⟨mb,0,none⟩))∧V.cell? ⟨w.heap.size,1,none⟩=some (.int .i64 n)) (first | exact ⟨hc2,hc3,x1⟩ | exact ⟨hd2,hd3,y1⟩ | exact ⟨he2,he3,z1⟩) (first | (go_at_call 33;refine (HCo.out W1.drew (HB.out.up (Gr.refl W1).drew)).mono ?_;rintro e w4 ⟨S4,rfl,hcc,huu⟩;have HB4:=Lib.hid ((HB.out.up (Gr.refl W1).drew).codes hcc huu);have hd2:=HB4.out.pr.blk.cell 2;have hd3:=HB4.out.pr.blk.cell 3;simp at hd2 hd3;obtain ⟨_,y1,_⟩:=HB4.out.c12) | (go_at_call 34;refine (HDo.out w4 S4 HB4.out).mono ?_;rintro e w5 ⟨T5,rfl,hce,hue⟩;have HB5:=Lib.hid (HB4.out.docs hce hue);have he2:=HB5.out.pr.blk.cell 2;have he3:=HB5.out.pr.blk.cell 3;simp at he2 he3;obtain ⟨_,z1,_⟩:=HB5.out.c12))
 go_wp2_with fail
 go_ret
 exact ⟨_,_,_,_,_,_,_,_,_,rfl,HB5.out.pr,HM9.out⟩
set_option maxRecDepth 100000 in
set_option maxHeartbeats 2000000 in
theorem do_release {w0 w:World} {bp:Nat} {S T:Nat→Prop} {pd pw pl pm:Value} {s:St} {L:Lg} {M i:Nat} (h:PrB w0 w bp S T pd pw pl pm s L s L M) (hk:WpK i s L M) (hi:i < 100) (n:Int) (z:Rc) (pb:Option Addr) (nb cb:Nat) (pa:Option Addr) (na ca:Nat) (q:Option Addr) (m c:Nat) (byt:Int) (hn0 : -9223372036854775808≤n) (hn1:n≤9223372036854775807) :
  Calls Tryz.prog 8 #[.pointer (some ⟨bp,0,none⟩),.agg #[.int .i64 6,.int .i64 n,.int .i64 z.k,.int .u64 (z.t:Int),.int .u64 (z.p:Int),.int .u64 (z.x:Int),.int .i64 z.g,.int .i64 z.o,.slice pb nb cb,.slice pa na ca,.slice q m c,.int .u8 byt]] w (RetDo w0 bp i):=by
 obtain ⟨⟨lb,rfl⟩,_⟩:=h.code.ptr;obtain ⟨mb,rfl,_⟩:=h.doc.cells;obtain ⟨W1,hW1⟩:∃ W1,W1=w.alloc (.cells #[.int .i64 6,.int .i64 n,.int .i64 z.k,.int .u64 (z.t:Int),.int .u64 (z.p:Int),.int .u64 (z.x:Int),.int .i64 z.g,.int .i64 z.o,.slice pb nb cb,.slice pa na ca,.slice q m c,.int .u8 byt] TAw):=⟨_,rfl⟩;have HB:Hid (DoB w0 w W1 bp #[.int .i64 6,.int .i64 n,.int .i64 z.k,.int .u64 (z.t:Int),.int .u64 (z.p:Int),.int .u64 (z.x:Int),.int .i64 z.g,.int .i64 z.o,.slice pb nb cb,.slice pa na ca,.slice q m c,.int .u8 byt] S T pd pw (.pointer (some ⟨lb,0,none⟩)) (.pointer (some ⟨mb,0,none⟩)) s L s L M):=Lib.hid (by rw [hW1];exact DoB.start h _);have HW1:=Lib.hid hW1.symm;have HK:=Lib.hid hk;have HI:=Lib.hid hi
 have hmf:∀ (fn:Go.Fn) (first cap:Array Value) (w:World),(Instr.makeFunc fn first cap).run Tryz.prog w=.ok (.func fn first cap) w:=fun _ _ _ _=>rfl
 clear h hk hi hW1;obtain ⟨L9,hL9⟩:∃ L9,L9=relL L n:=⟨_,rfl⟩;have HM9:Hid (WpK (i+1) s L9 M):=Lib.hid (by rw [hL9];exact HK.out.rel HI.out n)
 have HCo:Hid (∀ V,DoB w0 w V bp #[.int .i64 6,.int .i64 n,.int .i64 z.k,.int .u64 (z.t:Int),.int .u64 (z.p:Int),.int .u64 (z.x:Int),.int .i64 z.g,.int .i64 z.o,.slice pb nb cb,.slice pa na ca,.slice q m c,.int .u8 byt] S T pd pw (.pointer (some ⟨lb,0,none⟩)) (.pointer (some ⟨mb,0,none⟩)) s L s L M→Calls Tryz.prog 35 #[(.pointer (some ⟨lb,0,none⟩)),.int .i64 n] V (RetC (.tuple #[]) s L9 S pd (.pointer (some ⟨lb,0,none⟩)) V)):=Lib.hid fun V h=>by
  rw [hL9];exact h.pr.code.Release HK.out.ok n
 have HDo:Hid (∀ V S,DoB w0 w V bp #[.int .i64 6,.int .i64 n,.int .i64 z.k,.int .u64 (z.t:Int),.int .u64 (z.p:Int),.int .u64 (z.x:Int),.int .i64 z.g,.int .i64 z.o,.slice pb nb cb,.slice pa na ca,.slice q m c,.int .u8 byt] S T pd pw (.pointer (some ⟨lb,0,none⟩)) (.pointer (some ⟨mb,0,none⟩)) s L9 s L M→Calls Tryz.prog 36 #[(.pointer (some ⟨mb,0,none⟩)),.int .i64 n] V (RetD (.tuple #[]) s L9 M T pw (.pointer (some ⟨mb,0,none⟩)) V)):=Lib.hid fun V S h=>by
  rw [hL9];exact h.pr.doc.Release HK.out.ok n hn1
 clear hL9 hn0 hn1
 go_enter Tryz.func8,Tryz.ntmps8
 go_upto_region 1 with fail
 rw [HW1.out];have hc2:=HB.out.pr.blk.cell 2;have hc3:=HB.out.pr.blk.cell 3
 simp at hc2 hc3
 have x0:=HB.out.blk.cell 0
 simp at x0
 have x1:=HB.out.blk.cell 1
 simp at x1
 go_wp2_with fail
 go_region_held3 (fun V=>V.cell? ⟨bp,2,none⟩=some (.pointer (some ⟨lb,0,none⟩))∧V.cell? ⟨bp,3,none⟩=some (.pointer (some ⟨mb,0,none⟩))∧V.cell? ⟨w.heap.size,1,none⟩=some (.int .i64 n)) (first | exact ⟨hc2,hc3,x1⟩ | exact ⟨hd2,hd3,y1⟩) (first | (go_at_call 35;refine (HCo.out W1.drew (HB.out.up (Gr.refl W1).drew)).mono ?_;rintro e w4 ⟨S4,rfl,hcc,huu⟩;have HB4:=Lib.hid ((HB.out.up (Gr.refl W1).drew).codes hcc huu);have hd2:=HB4.out.pr.blk.cell 2;have hd3:=HB4.out.pr.blk.cell 3;simp at hd2 hd3;obtain ⟨_,y1,_⟩:=HB4.out.c12))
 clear hc2 hc3 x1;go_wp2_with fail
 go_region_held3 (fun V=>V.cell? ⟨bp,2,none⟩=some (.pointer (some ⟨lb,0,none⟩))∧V.cell? ⟨bp,3,none⟩=some (.pointer (some ⟨mb,0,none⟩))∧V.cell? ⟨w.heap.size,1,none⟩=some (.int .i64 n)) (first | exact ⟨hd2,hd3,y1⟩ | exact ⟨he2,he3,z1⟩) (first | (go_at_call 36;refine (HDo.out w4.drew S4 (HB4.out.up (Gr.refl w4).drew)).mono ?_;rintro e w5 ⟨T5,rfl,hce,hue⟩;have HB5:=Lib.hid ((HB4.out.up (Gr.refl w4).drew).docs hce hue);have he2:=HB5.out.pr.blk.cell 2;have he3:=HB5.out.pr.blk.cell 3;simp at he2 he3;obtain ⟨_,z1,_⟩:=HB5.out.c12))
 go_wp2_with fail
 go_ret
 exact ⟨_,_,_,_,_,_,_,_,_,rfl,HB5.out.pr,HM9.out⟩
end Go.Proofs.YtlijbgapkmfnaaaGreat
