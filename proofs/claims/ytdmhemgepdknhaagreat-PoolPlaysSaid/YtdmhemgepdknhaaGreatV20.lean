/-
  Texts, put together: RecAll FlowIn Wal10 Held ToldK Wal11.
-/
import Derived.Shelf.Abstract
import Derived.Shelf.RegionOpen
import Derived.WalkKit
import Derived.OwnWalkIn
import Derived.TacticsInMore
import Derived.LoopNIn
import Derived.LoopIn
import Derived.OrdersIn
import Derived.RangeFuncCalls
import Derived.Test.YtdmhemgepdknhaaGreatProg
import Derived.Test.YtdmhemgepdknhaaGreatV1
import Derived.Test.YtdmhemgepdknhaaGreatV3
import Derived.Test.YtdmhemgepdknhaaGreatV18
import Derived.Test.YtdmhemgepdknhaaGreatV19
set_option linter.unusedVariables false
set_option linter.unusedSimpArgs false
namespace Go.Proofs.YtdmhemgepdknhaaGreat
open Go.RowKit Go.Shelf Cr
attribute [local go_sem] Oper.semAt_some
abbrev TU:TypeId:=36
structure AllAt (W:World) (Bb Ba:Nat) (q:Option Addr) (m d:Nat) (xs:List Int) (at':Nat):Prop where
 b:Blk W Bb TBy #[.slice q m d]
 a:Blk W Ba TU #[.int .u64 at']
 y:Byt W q m d xs
theorem AllAt.up {W W':World} {Bb Ba:Nat} {q:Option Addr} {m d:Nat} {xs:List Int} {at':Nat} (h:AllAt W Bb Ba q m d xs at') (g:Gr W W'):AllAt W' Bb Ba q m d xs at':=
 ⟨h.b.below g h.b.lt,h.a.below g h.a.lt,h.y.kept g⟩
set_option maxRecDepth 100000 in
set_option maxHeartbeats 1000000 in
theorem all_any (p:Option Addr) (n c:Nat) (xs:List Int) (at':Nat) (w:World) (hb:Byt w p n c xs) (hl:n≤20000) :
  Calls Tryz.prog 85 #[.slice p n c,.int .u64 at'] w fun e w'=>∃ q m d,e=.returned (.func (.func 102) #[] #[.pointer (some ⟨w.heap.size,0,none⟩),.pointer (some ⟨w.heap.size+1,0,none⟩)])∧AllAt w' w.heap.size (w.heap.size+1) q m d xs at'∧(∀ y,q=some y→w.heap.size+1 < y.block)∧Gr w w':=by
 have h1:=Blk.new w TBy #[.slice p n c];have h2:=Blk.new (w.alloc (.cells #[.slice p n c] TBy)) TU #[.int .u64 at'];have h3:=Blk.new ((w.alloc (.cells #[.slice p n c] TBy)).alloc (.cells #[.int .u64 at'] TU)) 31 #[.slice p n c]
 simp only [World.size_alloc] at h2 h3
 have g1:=(Gr.refl w).alloc (Nat.le_refl _) (.cells #[.slice p n c] TBy);have g2:=g1.alloc g1.size (.cells #[.int .u64 at'] TU);have HB:=Lib.hid ((h1.alloc (.cells #[.int .u64 at'] TU)).alloc (.cells #[.slice p n c] 31));have HA:=Lib.hid (h2.alloc (.cells #[.slice p n c] 31));have HG:=Lib.hid (g2.alloc g2.size (.cells #[.slice p n c] 31));have hr:=Rows.one (t:=31) (hb.kept g2) rfl
 simp only [World.size_alloc] at hr
 have HR:=Lib.hid hr;have HT:Hid (tot [xs]≤140737488355328):=Lib.hid (by have:=hb.len;unfold tot;simp;omega);have HFL:Hid ([xs].flatten=xs):=Lib.hid (by simp);have c0:(w.alloc (.cells #[.slice p n c] TBy)).cell? ⟨w.heap.size,0,none⟩=some (.slice p n c):=h1.cell 0;clear h1 h2 h3 g1 g2 hr hb
 go_enter Tryz.func85,Tryz.ntmps85
 go_wp2_with fail;refine (join_any _ _ _ _ _ HR.out HT.out).mono ?_;rintro e w1 ⟨q,m,d,rfl,hy,g1,hf⟩;have HB1:=Lib.hid (HB.out.below g1 HB.out.lt);have HA1:=Lib.hid (HA.out.below g1 HA.out.lt);have HG1:=Lib.hid (Gr.trans HG.out g1);have HY1:=Lib.hid (HFL.out ▸ hy)
 have HF1:Hid (∀ y,q=some y→w.heap.size+1 < y.block):=Lib.hid fun y h=>by
  have h2:=hf y h
  simp only [World.size_alloc] at h2
  omega
 clear hy g1 hf HB HA HG HR HT HFL c0;have c0:=HB1.out.cell 0;have f0:=HB1.out.frozen 0;go_wp2_with fail
 go_ret
 have hgr:=HG1.out.setCell (p:=⟨w.heap.size,0,none⟩) (Nat.le_refl _) (.slice q m d);exact ⟨q,m,d,rfl,⟨HB1.out.set 0 _,HA1.out.far (by show w.heap.size+1≠w.heap.size;omega) _,((Oth.refl w.heap.size _).set _).byt HY1.out (fun y h=>by have:=HF1.out y h;omega)⟩,HF1.out,hgr⟩
structure RX where
 e:Nat
 c:Rc
 pb:Option Addr
 nb:Nat
 cb:Nat
 pa:Option Addr
 na:Nat
 ca:Nat
abbrev RX.agg (x:RX):Value:=.agg #[.int .i64 x.c.k,.int .u64 x.c.t,.int .u64 x.c.p,.int .u64 x.c.x,.int .i64 x.c.g,.int .i64 x.c.o,.slice x.pb x.nb x.cb,.slice x.pa x.na x.ca]
abbrev RX.encs (x:RX):Array Value:=#[.int .u64 x.e,x.agg]
structure RX.Good (x:RX) (W:World):Prop where
 b:OwnB W 0 5 (.slice x.pb x.nb x.cb) x.c.b
 a:OwnB W 0 5 (.slice x.pa x.na x.ca) x.c.a
 e:x.e≤18446744073709551615
 i:x.c.In
def RX.two (x:RX):Nat × Rc:=(x.e,x.c)
theorem Byt.held {κ:Obj→Bool} {Ks:Nat→Prop} {W W':World} {p:Option Addr} {n c:Nat} {xs:List Int} (h:Byt W p n c xs) (hκ:∀ o:Obj,o.isCells=true→κ o=true) (g:HoldS κ Ks W W') (hk:∀ y,p=some y→Ks y.block):Byt W' p n c xs:=
 ⟨h.len,h.cap,h.most,fun hn=>by
  obtain ⟨b,o,rfl,hc⟩:=h.at hn
  refine ⟨b,o,rfl,fun i hi=>?_⟩;have hci:=hc i hi
  have hb:∃ ob,W.heap[b]?=some ob∧ob.isCells=true:=by
   unfold World.cell? at hci
   cases ho:W.heap[b]? with
   | none=>simp [ho] at hci
   | some ob=>
    refine ⟨ob,rfl,?_⟩
    cases ob <;> simp [ho] at hci <;> rfl
  obtain ⟨ob,h1,h2⟩:=hb;have h3:=g.same b ob (hk _ rfl) h1 (hκ _ h2);rw [← hci]
  unfold World.cell?
  rw [h3,h1],h.nilCap,h.small⟩
theorem Gr.gnone {W W':World} (g:Gr W W'):W.grownBy W' none:=⟨g.os,g.tape,g.output,g.size,fun k hk _=>g.block k hk⟩
theorem firm_cells (o:Obj) (h:o.isCells=true):firm o=true:=by unfold firm;rw [h];rfl
theorem Gr.hold {κ:Obj→Bool} {Ks:Nat→Prop} {W W':World} (g:Gr W W'):HoldS κ Ks W W':=⟨g.size,fun k _ _ h1 _=>(g.block k (Array.getElem?_eq_some_iff.1 h1).1).trans h1⟩
set_option maxRecDepth 100000 in
set_option maxHeartbeats 4000000 in
theorem all1_told (n:Nat) (hn:2≤n) (Bb Ba:Nat) (q:Option Addr) (m d:Nat) (xs:List Int) (at':Nat) (w:World) (h:AllAt w Bb Ba q m d xs at') (hat:at'≤18446744073709551615) (hm:m≤20000) :
  SeqTold Fence.wide n Tryz.prog 102 #[.pointer (some ⟨Bb,0,none⟩),.pointer (some ⟨Ba,0,none⟩)] RX.encs (fun pre x V=>x.Good V∧∃ zs,(pre++[x]).map RX.two++zs=allL xs at') (fun k=>∃ y,q=some y∧y.block=k) (fun ys=>ys.map RX.two=allL xs at') (fun _=>True) w:=fun l J Jx W hW hJ hJx hY h0=>by
 have hA:=Lib.hid (h.up hW)
 have h1:1≤n:=by omega
 have c0:W.cell? ⟨Bb,0,none⟩=some (.slice q m d):=hA.out.b.cell 0;have c1:W.cell? ⟨Ba,0,none⟩=some (.int .u64 at'):=hA.out.a.cell 0;have HJ:=Lib.hid hJ;have HY:=Lib.hid hY;have H0:=Lib.hid h0;clear hW hJ hJx hY h0 h;refine callsIn_of_wp Tryz.func102 rfl trivial ?_ rfl
 simp only [Tryz.ntmps102,List.size_toArray,List.length_cons,List.length_nil,Nat.reduceAdd,Nat.reduceSub,Array.replicate_succ,Array.replicate_zero,List.push_toArray,List.append_toArray,List.nil_append,List.cons_append]
 gi_wp2_with fail
 gi_region
 gi_wp2_with fail
 have gd:Gr W W.drew:=(Gr.refl W).drew
 have HE:Hid (∀ ys e,ofB ys e=true→ofE ys e=0):=Lib.hid fun ys e h=>by simp [ofE,h]
 have HE1:Hid (∀ ys e,ofB ys e=false→ofE ys e=4):=Lib.hid fun ys e h=>by simp [ofE,h]
 have HY0:=Lib.hid (hA.out.y.kept gd);have HJ0:=Lib.hid (HJ.out [] W _ none H0.out gd.gnone (fun r e=>by cases e));have HS0:=Lib.hid gd.size
 generalize W.drew=W0 at HY0 HJ0 HS0 ⊢
 clear c0 c1 hA H0 gd
 gi_loopw [4,5] (fun rest en wr=>∃ (pre:List RX) (ys:List Int) (e:Nat) (q':Option Addr) (m' d':Nat),rest=.slice q' m' d'∧en=.int .u64 e∧Hid (Byt wr q' m' d' ys)∧Hid (∀ y,q'=some y→∃ z,q=some z∧z.block=y.block)∧Hid (pre.map RX.two++allL ys e=allL xs at')∧e≤18446744073709551615∧m'≤20000∧Hid (J pre wr∧W.heap.size≤wr.heap.size)) (fun rest _ _=>match rest with | .slice _ k _=>k | _=>0)
 case atStart=>exact ⟨[],xs,at',q,m,d,rfl,rfl,HY0,Lib.hid fun y h=>⟨y,h,rfl⟩,Lib.hid rfl,hat,hm,Lib.hid ⟨HJ0.out,HS0.out⟩⟩
 case round=>
  obtain ⟨pre,ys,e,q',m',d',rfl,rfl,hy,hq,hs,he,hm',hj⟩:=hrel;clear HY0 HJ0 HS0 hat hm
  gi_wp2_with fail
  refine ⟨trivial,?_⟩;refine (callsIn_wide.2 (of_own q' m' d' ys e _ hy.out he)).mono ?_;rintro e1 V ⟨pb,nb,cb,pa,na,ca,rfl,ho1,ho2,g1⟩;have gn:=Gr.trans g1 ((Gr.refl V).alloc (Nat.le_refl _) (.cells #[.int .i64 (ofR ys e).k,.int .u64 (ofR ys e).t,.int .u64 (ofR ys e).p,.int .u64 (ofR ys e).x,.int .i64 (ofR ys e).g,.int .i64 (ofR ys e).o,.slice pb nb cb,.slice pa na ca] TR))
  cases hB:ofB ys e
  ·
   rw [HE1.out _ _ hB]
   gi_wp2_with fail
   refine bodyPost_ret (results_none rfl _ _ _) rfl ?_;exact ⟨⟨_,rfl⟩,.inl ⟨pre,by rw [← hs.out,allL_no hB,List.append_nil],HJ.out pre _ _ none hj.out.1 gn.gnone (fun r e=>by cases e)⟩⟩
  ·
   rw [HE.out _ _ hB];have hn:=ofN_yes hB;have hly:=hy.out.len;have hcy:=hy.out.cap
   obtain ⟨b,o,rfl,_⟩:=hy.out.at (by omega)
   obtain ⟨N,hN⟩:∃ N,N=ofN ys e:=⟨_,rfl⟩;obtain ⟨R,hR⟩:∃ R,R=ofR ys e:=⟨_,rfl⟩;have hN2:=ofN_small hB;have hs2:=hs.out
   rw [allL_yes hB,← hN,← hR] at hs2
   rw [← hR] at ho1 ho2 gn ⊢
   rw [← hN] at hn hN2 ⊢
   have hRI:R.In:=by rw [hR];exact ofR_in hy.out.small e
   clear hN hR hB
   have hw:IntKind.u64.wrap ((e:Int)+(N:Int))=((onW e N:Nat):Int):=by rw [IntKind.wrap_u64];unfold onW;omega
   have hqb:=hq.out _ rfl;have HX:∃ x:RX,x=⟨onW e N,R,pb,nb,cb,pa,na,ca⟩:=⟨_,rfl⟩;obtain ⟨x,hx⟩:=HX
   have hgood:x.Good (V.alloc (.cells #[.int .i64 R.k,.int .u64 R.t,.int .u64 R.p,.int .u64 R.x,.int .i64 R.g,.int .i64 R.o,.slice pb nb cb,.slice pa na ca] TR)):=by
    rw [hx];exact ⟨(ho1.base_le (Nat.zero_le _)).alloc _,(ho2.base_le (Nat.zero_le _)).alloc _,onW_le _ _,hRI⟩
   obtain ⟨fn,tmps,assign,body,hyl,hR⟩:=HY.out pre x _ (HJ.out pre _ _ none hj.out.1 gn.gnone (fun r e=>by cases e)) ⟨hgood,allL (ys.drop N) (onW e N),by rw [← hs2,hx];simp [RX.two]⟩
   rw [hx] at hyl
   dsimp only [RX.encs,RX.agg] at hyl
   have HR:=Lib.hid hR;have hyt:=Lib.hid (hy.out.kept gn);have hsz:=Lib.hid (Nat.le_trans hj.out.2 gn.size);have hss:Hid ((pre++[x]).map RX.two++allL (ys.drop N) (onW e N)=allL xs at'):=Lib.hid (by rw [← hs2,hx];simp [RX.two]);have hbr:=(Blk.new V TR #[.int .i64 R.k,.int .u64 R.t,.int .u64 R.p,.int .u64 R.x,.int .i64 R.g,.int .i64 R.o,.slice pb nb cb,.slice pa na ca]).c8;obtain ⟨r0,r1,r2,r3,r4,r5,r6,r7⟩:=hbr
   have hm2:N≤m':=by omega
   clear hgood hR hx hs2 hs hj hy hq gn g1 ho1 ho2 hRI
   by_cases hd:d'=N
   ·
    gi_wp2_with fail
    refine HR.out.mono ?_;rintro e2 V' (⟨rfl,hj2,hk⟩ | ⟨rfl,hx2⟩)
    ·
     have hy2:Hid (Byt V' (some ⟨b,o,none⟩) (m' - N) 0 (ys.drop N)):=Lib.hid ((show Byt _ (some ⟨b,o,none⟩) (m' - N) 0 (ys.drop N) from by have h:=hyt.out.tail N hm2 (some ⟨b,o,none⟩) (fun h=>absurd hd h);rw [hd,Nat.sub_self] at h;exact h).held firm_cells hk (fun y h=>by cases h;exact hqb));have hj3:=Lib.hid (show J (pre++[x]) V'∧W.heap.size≤V'.heap.size from ⟨hj2,Nat.le_trans hsz.out hk.size⟩);clear hk hj2 hyt hsz r0 r1 r2 r3 r4 r5 r6 r7 hyl HR
     gi_wp2_with fail
     go_roundw
     case rel=>exact ⟨pre++[x],ys.drop N,onW e N,(some ⟨b,o,none⟩),m' - N,0,rfl,rfl,hy2,Lib.hid (fun y h=>by cases h;exact hqb),hss,onW_le _ _,by omega,hj3⟩
     case measure=>simp;omega
    ·
     gi_wp2_with fail
     refine bodyPost_ret (results_none rfl _ _ _) rfl ?_;exact ⟨⟨_,rfl⟩,.inr ⟨pre++[x],trivial,hx2⟩⟩
   ·
    gi_wp2_with fail
    refine HR.out.mono ?_;rintro e2 V' (⟨rfl,hj2,hk⟩ | ⟨rfl,hx2⟩)
    ·
     have hy2:Hid (Byt V' (some ⟨b,o+N,none⟩) (m' - N) (d' - N) (ys.drop N)):=Lib.hid ((hyt.out.tail N hm2 (some ⟨b,o+N,none⟩) (fun _=>rfl)).held firm_cells hk (fun y h=>by cases h;exact hqb));have hj3:=Lib.hid (show J (pre++[x]) V'∧W.heap.size≤V'.heap.size from ⟨hj2,Nat.le_trans hsz.out hk.size⟩);clear hk hj2 hyt hsz r0 r1 r2 r3 r4 r5 r6 r7 hyl HR
     gi_wp2_with fail
     go_roundw
     case rel=>exact ⟨pre++[x],ys.drop N,onW e N,(some ⟨b,o+N,none⟩),m' - N,(d' - N),rfl,rfl,hy2,Lib.hid (fun y h=>by cases h;exact hqb),hss,onW_le _ _,by omega,hj3⟩
     case measure=>simp;omega
    ·
     gi_wp2_with fail
     refine bodyPost_ret (results_none rfl _ _ _) rfl ?_;exact ⟨⟨_,rfl⟩,.inr ⟨pre++[x],trivial,hx2⟩⟩
end Go.Proofs.YtdmhemgepdknhaaGreat
namespace Go.Proofs.YtdmhemgepdknhaaGreat
namespace Flow
open Go
theorem rows_in {n l:Nat} {P:Program} {row:String} {args:Array Value} {w:World} {R:Value→World→Prop} (h:Go.Rows P row args w R):RowsIn (Fence.wide.inRound l) n P row args w R:=fun c cs _=>by
 obtain ⟨v,w',r,s⟩:=h c cs;exact ⟨v,w',r,stepsIn_wide.2 s⟩
theorem oper_in {n l:Nat} {P:Program} {o:Oper} {a:Act} {w:World} {K:Act→World→Prop} {Q:Exit→Act→World→Prop} (hd:∀ c,o.op≠.defer c) (h:o.wp P a w K Q):o.wpIn (Fence.wide.inRound l) n P a w K Q:=by
 unfold Oper.wpIn
 refine ⟨fun _ _=>trivial,?_⟩;rw [Oper.semAt_plain _ _ _ hd]
 unfold Oper.wp at h
 generalize (execOp a.eval o).run P w=r at h ⊢
 cases r with
 | ok x w'=>
  cases x with
  | enter f args=>exact ⟨(fun hh=>by cases hh),(callsIn_wide.2 h).inRound l⟩
  | row row args=>exact ⟨(fun hh=>by cases hh),rows_in h⟩
  | round=>exact h.elim
  | _=>exact h
 | halt x w'=>cases x <;> exact h
section
variable {P:Program} {ops:Array Oper} {Q:Exit→Act→World→Prop} {md:Region.Mode} {l n:Nat}
variable {Sl:Nat→Value→World→Prop} {Inv:World→Prop} {G:World→World→Prop} {a0:Act}
end
end Flow
end Go.Proofs.YtdmhemgepdknhaaGreat
namespace Go.Proofs.YtdmhemgepdknhaaGreat
open Go.RowKit Go.Maps Go.Shelf
attribute [local go_sem] Oper.semAt_some
abbrev CX:Type:=Nat × Option Addr × Nat
def encC (x:CX):Array Value:=#[.slice x.2.1 x.2.2 x.2.2]
def chN (m:Nat):Nat:=(m+231) / 232
def ChG (q:Option Addr) (m c:Nat) (pre:List CX) (x:CX) (_:World):Prop:=x.1=pre.length∧232*x.1 < m∧x.2.2=min 232 (m - 232*x.1)∧CutOf q m c (232*x.1) (232*x.1+x.2.2) x.2.2 x.2.1
theorem chunk_any (q:Option Addr) (m c:Nat) (w:World):Calls Tryz.prog 105 #[.slice q m c,.int .i64 232] w fun e w'=>e=.returned (.func (.func 132) #[] #[.pointer (some ⟨w.heap.size,0,none⟩),.pointer (some ⟨w.heap.size+1,0,none⟩)])∧Blk w' w.heap.size TBs #[.slice q m c]∧Blk w' (w.heap.size+1) TI #[.int .i64 232]∧Gr w w'∧w.heap.size+1 < w'.heap.size:=by
 have h1:=Blk.new w TBs #[.slice q m c];have h2:=Blk.new (w.alloc (.cells #[.slice q m c] TBs)) TI #[.int .i64 232]
 simp only [World.size_alloc] at h2
 have H1:=Lib.hid (h1.alloc (.cells #[.int .i64 232] TI));have H2:=Lib.hid h2;have HG:=Lib.hid (Gr.trans (Gr.new w (.cells #[.slice q m c] TBs)) (Gr.new _ (.cells #[.int .i64 232] TI)));have c1:=h2.cell 0
 simp at c1
 clear h1 h2
 go_enter Tryz.func105,Tryz.ntmps105
 go_wp2_with fail
 go_ret
 exact ⟨rfl,H1.out,H2.out,HG.out,by simp⟩
set_option maxRecDepth 100000 in
set_option maxHeartbeats 2000000 in
theorem chunk1_told (n:Nat) (hn:2≤n) (Bs Bn:Nat) (q:Option Addr) (m c:Nat) (w:World) (hs:Blk w Bs TBs #[.slice q m c]) (hb:Blk w Bn TI #[.int .i64 232]) (hc:m≤c) (hm:m≤1000000) :
  SeqTold Fence.wide n Tryz.prog 132 #[.pointer (some ⟨Bs,0,none⟩),.pointer (some ⟨Bn,0,none⟩)] encC (ChG q m c) (fun k=>k=Bs∨k=Bn) (fun ys=>ys.length=chN m) (fun _=>True) w:=fun l J Jx W hW hJ hJx hY h0=>by
 have h1:1≤n:=by omega
 have HJ:=Lib.hid hJ;have HY:=Lib.hid hY;have H0:=Lib.hid h0;have HS:=Lib.hid (hs.gr hW);have HN:=Lib.hid (hb.gr hW);clear hW hJ hJx hY h0 hs hb;refine callsIn_of_wp Tryz.func132 rfl trivial ?_ rfl
 simp only [Tryz.ntmps132,List.size_toArray,List.length_cons,List.length_nil,Nat.reduceAdd,Nat.reduceSub,Array.replicate_succ,Array.replicate_zero,List.push_toArray,List.append_toArray,List.nil_append,List.cons_append]
 gi_wp2_with fail
 gi_loopw [4] (fun iv wr=>∃ (pre:List CX) (i:Nat),iv=.int .i64 (i:Int)∧i < m+232∧Hid (i=232*pre.length)∧Hid (J pre wr∧Blk wr Bs TBs #[.slice q m c]∧Blk wr Bn TI #[.int .i64 232]∧W.heap.size≤wr.heap.size)) (fun iv _=>m+232 - (intOf iv).toNat)
 case atStart=>exact ⟨[],0,rfl,by omega,Lib.hid rfl,Lib.hid ⟨H0.out,HS.out,HN.out,Nat.le_refl _⟩⟩
 case round=>
  obtain ⟨pre,i,rfl,hp,HI,hh⟩:=hrel;have c1:=hh.out.2.1.cell 0;have c2:=hh.out.2.2.1.cell 0
  simp at c1 c2
  by_cases hlt:i < m
  ·
   have hlt2:(i:Int) < (m:Int):=by omega
   obtain ⟨q1,hcut1,_⟩:=cut_l (p:=q) (n:=m) (c:=c) i (by omega) hc;obtain ⟨K,hK⟩:∃ K,K=min 232 (m - i):=⟨_,rfl⟩
   have hmin:min (232:Int) ((m - i:Nat):Int)=(K:Int):=by omega
   obtain ⟨E,hE⟩:∃ E,E=i+K:=⟨_,rfl⟩;obtain ⟨q2,hcut2,hof2⟩:=cut_lhm (p:=q) (n:=m) (c:=c) i E E (by omega) (by omega) (Nat.le_refl _) (by omega)
   have hEK:E - i=K:=by omega
   rw [hEK] at hcut2 hof2
   have hw1:IntKind.i64.wrap ((i:Int)+(K:Int))=(E:Int):=by rw [IntWalk.i64_in _ (by omega)];omega
   have hi0:(0:Int)≤(i:Int):=by omega
   have hi2:(i:Int)≤(m:Int):=by omega
   have hE2:(E:Int)≤(c:Int):=by omega
   have hiE:(i:Int)≤(E:Int):=by omega
   have hx:∃ x:CX,x=(pre.length,q2,K):=⟨_,rfl⟩;obtain ⟨x,hx⟩:=hx
   have HG:Hid (∀ V,ChG q m c pre x V):=Lib.hid fun V=>by
    rw [hx];have h3:=HI.out;refine ⟨rfl,by show 232*pre.length < m;omega,by show K=min 232 (m - 232*pre.length);rw [← h3];exact hK,?_⟩
    show CutOf q m c (232*pre.length) (232*pre.length+K) K q2
    rw [← h3,← hE];exact hof2
   have HX:=Lib.hid hx;have HK:Hid (E=i+K∧(K=232∨K=m - i)∧K≤232∧0 < K):=Lib.hid ⟨hE,by omega,by omega,by omega⟩;clear hK hE hEK hof2 hx
   gi_wp2_with fail
   refine wpIn_wide.2 ?_
   go_quiet (fail)
   have gd:Gr wr (wr.drewN nq):=below_drewN (Gr.refl wr) nq;have HV:Hid (J pre (wr.drewN nq)∧Blk (wr.drewN nq) Bs TBs #[.slice q m c]∧Blk (wr.drewN nq) Bn TI #[.int .i64 232]∧W.heap.size≤(wr.drewN nq).heap.size):=Lib.hid ⟨HJ.out pre _ _ none hh.out.1 gd.gnone (fun r e=>by cases e),hh.out.2.1.gr gd,hh.out.2.2.1.gr gd,Nat.le_trans hh.out.2.2.2 gd.size⟩;obtain ⟨V,hV⟩:∃ V,V=wr.drewN nq:=⟨_,rfl⟩
   rw [← hV] at HV ⊢
   clear hV gd hh c1 c2 hcut1 hmin;have c1:=HV.out.2.1.cell 0;have c2:=HV.out.2.2.1.cell 0
   simp at c1 c2
   obtain ⟨fn,tmps,assign,body,hyl,hR⟩:=HY.out pre x V HV.out.1 (HG.out V)
   rw [HX.out] at hyl
   dsimp only [encC] at hyl
   have HR:=Lib.hid hR;clear hR
   gi_wp2_with fail
   refine HR.out.mono ?_;rintro e2 V' (⟨rfl,hj2,hk⟩ | ⟨rfl,hx2⟩)
   ·
    have HV2:Hid (J (pre++[x]) V'∧Blk V' Bs TBs #[.slice q m c]∧Blk V' Bn TI #[.int .i64 232]∧W.heap.size≤V'.heap.size):=Lib.hid ⟨hj2,hk.same Bs _ (.inl rfl) HV.out.2.1 rfl,hk.same Bn _ (.inr rfl) HV.out.2.2.1 rfl,Nat.le_trans HV.out.2.2.2 hk.size⟩;have c1':=HV2.out.2.1.cell 0;have c2':=HV2.out.2.2.1.cell 0
    simp at c1' c2'
    have hw3:IntKind.i64.wrap ((i:Int)+232)=(i:Int)+232:=IntWalk.i64_in _ (by omega);clear hk hj2 hyl HR c1 c2
    gi_wp2_with fail
    go_roundw
    case rel=>exact ⟨pre++[x],i+232,by go_num,by omega,Lib.hid (by have:=HI.out;simp;omega),HV2⟩
    case measure=>simp [intOf];omega
   ·
    clear hyl HR
    gi_wp2_with fail
    exact bodyPost_ret (results_none rfl _ _ _) rfl ⟨⟨_,rfl⟩,.inr ⟨pre++[x],trivial,hx2⟩⟩
  ·
   have hge:¬ (i:Int) < (m:Int):=by omega
   gi_wp2_with fail
   exact bodyPost_end (results_none rfl _ _ _) rfl ⟨⟨_,rfl⟩,.inl ⟨pre,by have:=HI.out;unfold chN;omega,hh.out.1⟩⟩
end Go.Proofs.YtdmhemgepdknhaaGreat
namespace Go.Proofs.YtdmhemgepdknhaaGreat
open Go.RowKit
theorem hold_grown {W W':World} {row:Option Nat} (g:W.grownBy W' row) (hr:∀ r,row=some r→∃ o:Obj,W.heap[r]?=some o∧o.isCells=false):HoldS Obj.isCells (fun _=>True) W W':=
 ⟨g.size,fun k o _ hk hc=>(g.block k (Array.getElem?_eq_some_iff.1 hk).1 (fun e=>by
  obtain ⟨o2,h1,h2⟩:=hr k e.symm
  rw [hk] at h1
  cases h1
  rw [hc] at h2
  cases h2)).trans hk⟩
theorem Blk.held {W W':World} {g:Nat} {t:TypeId} {cs:Array Value} (h:Blk W g t cs) (k:HoldS Obj.isCells (fun _=>True) W W'):Blk W' g t cs:=k.same g _ trivial h rfl
theorem results_cell_one {fn:Func} {p:Tmp} {ty:TypeId} (h:fn.results=#[.cell p ty]) (ha:∀ w,(isAgg ty).run Tryz.prog w=.ok false w) (tmps:Array Value) (w:World) (a:Addr) (v:Value) (hp:tmps.getD p undef=.pointer (some a)) (hc:w.cell? a=some v):(results fn tmps).run Tryz.prog w=.ok v w:=by
 simp only [results,h]
 simp [-Array.getD_eq_getD_getElem?,Sem.run_bind,Result.andThen,hp,asAddr,loadVar,ha,hc]
end Go.Proofs.YtdmhemgepdknhaaGreat
namespace Go.Proofs.YtdmhemgepdknhaaGreat
open Go.RowKit
def SeqToldK {α:Type} (F:Fence) (n:Nat) (P:Program) (g:Nat) (lb:Array Value) (encs:α→Array Value) (G:List α→α→World→Prop) (Ks:Nat→Prop) (S Sp:List α→Prop) (w:World):Prop:=
 ∀ (l:Nat) (J Jx:List α→World→Prop) (W:World),Below w.heap.size w W→OwnFrom W.heap.size J→OwnFrom W.heap.size Jx →
  (∀ pre x V,J pre V→G pre x V→YieldAt F (n - 1) P l (encs x) V fun e V'=>(e=.returned (.bool true)∧J (pre++[x]) V'∧HoldS firm Ks V V'∧KeepsFrom W.heap.size V V')∨(e=.returned (.bool false)∧Jx (pre++[x]) V'∧KeepsFrom W.heap.size V V')) →
  J [] W→CallsIn F n P g (#[.func (.yield l) #[] #[]]++lb) W fun e V=>(∃ v,e=.returned v)∧((∃ xs,S xs∧J xs V)∨∃ pre,Sp pre∧Jx pre V)
theorem SeqTold.keeps {α:Type} {F:Fence} {n:Nat} {P:Program} {g:Nat} {lb:Array Value} {encs:α→Array Value} {G:List α→α→World→Prop} {Ks:Nat→Prop} {S Sp:List α→Prop} {w:World} (h:SeqTold F n P g lb encs G Ks S Sp w):SeqToldK F n P g lb encs G Ks S Sp w:=
 fun l J Jx W hW hJ hJx hY h0=>h l J Jx W hW hJ hJx (fun pre x V hj hg=>(hY pre x V hj hg).mono (fun e V' he=>by
  rcases he with ⟨h1,h2,h3,_⟩ | ⟨h1,h2,_⟩
  · exact .inl ⟨h1,h2,h3⟩
  · exact .inr ⟨h1,h2⟩)) h0
variable {F:Fence} {n:Nat} {P:Program} {w:World}
theorem wpIn_range_toldK {α:Type} {g:Operand} {ps:Array Tmp} {assign body:Code} {Q:Exit→Act→World→Prop} {a:Act}
  (hro:F.round=none) (h1:1≤n) {gf:Nat} {lb:Array Value} (hg:a.eval g=.func (.func gf) #[] lb) (hFg:F.fn gf) (eg:∀ args w,(callFunc gf args).run P w=.ok (.enter gf args) w)
  {encs:α→Array Value} {G:List α→α→World→Prop} {Ks:Nat→Prop} {S Sp:List α→Prop} {w0:World} (hseq:SeqToldK F (n - 1) P gf lb encs G Ks S Sp w0)
  (hb0:Below w0.heap.size w0 w) (hps:∀ x,(encs x).size=ps.size)
  (I Ir:List α→World→Prop) (hI:OwnFrom w.heap.size I) (hIr:OwnFrom w.heap.size Ir) (h0:I [] w) (Ax:List α→α→Act→World→Prop) (hAx:∀ pre x b,OwnFrom w.heap.size (fun (_:Unit) W=>Ax pre x b W))
  (hassign:∀ (l:Nat) (pre:List α) (x:α) (W:World) (K:Act→World→Prop),I pre W→G pre x W→(∀ b V,KeepsFrom w.heap.size W V→HoldS firm Ks W V→I pre V→Ax pre x b V→K b V) →
   assign.wpIn (F.inRound l) (n - 1 - 1) P (Exit.then K (fun _ _ _=>False)) { tmps:=(ps.zip (encs x)).foldl (fun t (p,v)=>t.setIfInBounds p v) a.tmps,defers:=[] } W)
  (hbody:∀ (l:Nat) (pre:List α) (x:α) (b:Act) (W:World),w.heap.size≤l→I pre W→Ax pre x b W→body.wpIn (F.inRound l) (n - 1 - 1) P (toldPost w.heap.size Ks I Ir (pre++[x]) W) b W)
  (hdone:∀ (D:Nat) (xs:List α) (W:World),w.heap.size≤D→S xs→I xs W→W.heap[D]?=some (.deferred (some []))→Q .normal { a with defers:={ target:=.collected D,args:=#[] } :: a.defers } W)
  (hstop:∀ (D:Nat) (pre:List α) (W:World),w.heap.size≤D→Sp pre→Ir pre W→W.heap[D]?=some (.deferred (some []))→Code.ret.wpIn F n P Q { a with defers:={ target:=.collected D,args:=#[] } :: a.defers } W) :
  (Code.rangeFunc g ps assign body).wpIn F n P Q a w:=by
 refine wpIn_rangeFunc fun fn hfn=>?_
 rw [hro];obtain ⟨B,hB⟩:∃ B,B=w.heap.size:=⟨_,rfl⟩
 obtain ⟨rec,hrec⟩:∃ rec:LoopState→Option Code→Loop,rec=fun st pe=>{ state:=st,pending:=pe,fn,tmps:=a.tmps,params:=ps,assign,body,defers:=w.heap.size }:=⟨_,rfl⟩
 obtain ⟨V,hV⟩:∃ V,V=(w.alloc (.deferred (some []))).alloc (.loop (rec .ready none)):=⟨_,rfl⟩
 let Bk:LoopState→Option Code→World→Prop:=fun st pe W=>W.heap[B+1]?=some (.loop (rec st pe))∧W.heap[B]?=some (.deferred (some []))
 have hVs:V.heap.size=B+1+1:=by rw [hV,hB];simp
 have hBk:Bk .ready none V:=⟨by rw [hV,hB];have:=World.alloc_heap_new (w.alloc (.deferred (some []))) (.loop (rec .ready none));rwa [World.size_alloc] at this,
  by rw [hV,hB];exact (Below.heap_alloc _ _ _ (by simp)).trans (World.alloc_heap_new w _)⟩
 have hIV:I [] V:=by rw [hV];exact hI.alloc _ (hI.alloc _ h0)
 have hbV:Below w0.heap.size w0 V:=by rw [hV];exact hb0.trans ((((Below.refl _ w).alloc (Nat.le_refl _) _).alloc (by simp) _).mono hb0.size)
 have keep:∀ {st pe} {X Y:World} {row:Option Nat},Bk st pe X→X.grownBy Y row→(∀ r,row=some r→V.heap.size≤r∧∃ o:Obj,X.heap[r]?=some o∧o.isCells=false)→Bk st pe Y:=fun h hg' hr=>
  ⟨(hg'.block _ (Array.getElem?_eq_some_iff.1 h.1).1 (fun e=>by have:=(hr _ e.symm).1;omega)).trans h.1,(hg'.block _ (Array.getElem?_eq_some_iff.1 h.2).1 (fun e=>by have:=(hr _ e.symm).1;omega)).trans h.2⟩
 have cells:∀ {X:World} {row:Option Nat},(∀ r,row=some r→V.heap.size≤r∧∃ o:Obj,X.heap[r]?=some o∧o.isCells=false)→∀ r,row=some r→w.heap.size≤r∧∃ o:Obj,X.heap[r]?=some o∧o.isCells=false:=fun hr r e=>by
  obtain ⟨h2,ho⟩:=hr r e;exact ⟨by omega,ho⟩
 have turn:∀ {st pe} (st':LoopState) (pe':Option Code) {X:World},Bk st pe X→Bk st' pe' (X.putObj (B+1) (.loop (rec st' pe'))):=fun st' pe' X h=>
  ⟨World.putObj_heap_same (Array.getElem?_eq_some_iff.1 h.1).1,(World.putObj_heap_other (by omega)).trans h.2⟩
 refine ⟨B+1,[{ target:=.collected B,args:=#[] }],V,{ target:=.fn (.func gf) lb,args:=#[.func (.yield (B+1)) #[] #[]] },V,gf,#[.func (.yield (B+1)) #[] #[]]++lb,V,?_,?_,?_,?_,fun _=>h1,?_⟩
 · rw [hV,hB,hrec];exact run_enterLoop_outer _ _ _ _ _
 ·
  simp only [resolve,hg]
  simp [go_sem]
 · intro f' hf';simp [Target.leads] at hf';subst hf';exact hFg
 · simp [invoke,go_sem,eg]
 refine (hseq (B+1) (fun pre W=>I pre W∧Bk .ready none W) (fun pre W=>Ir pre W∧Bk .done (some .ret) W) V hbV
  (fun s X Y row h hg' hr=>⟨hI s X Y row h.1 hg' (cells hr),keep h.2 hg' hr⟩) (fun s X Y row h hg' hr=>⟨hIr s X Y row h.1 hg' (cells hr),keep h.2 hg' hr⟩) ?round ⟨hIV,hBk⟩).mono ?after
 case round=>
  rintro pre x W ⟨hi,hk⟩ hG;have hy:=run_yield (P:=P) (args:=encs x) hk.1 (by rw [hrec];exact hps x)
  rw [hrec] at hy
  refine ⟨fn,_,assign,body,hy,roundIn_of_wpIn hfn (hassign _ pre x W _ hi hG fun b X hfx hsx hix hax=>?_)⟩;have hkx:Bk .ready none X:=⟨hfx.same _ _ (by omega) hk.1 rfl,hfx.same _ _ (by omega) hk.2 rfl⟩;refine ⟨_,run_beginRound hkx.1 (by rw [hrec]),?_⟩;have hk2:=turn .busy none hkx
  have e2:({ rec .ready none with state:=.busy }:Loop)=rec .busy none:=by rw [hrec]
  rw [e2];refine wpIn_mono (hbody _ pre x b _ (by omega) (hI.putObj _ hix (by omega) hkx.1 rfl) ((hAx pre x b).putObj (s:=()) _ hax (by omega) hkx.1 rfl)) ?_
  have fin:∀ (jump:Option Code) (Y:World),KeepsFrom w.heap.size (X.putObj (B+1) (.loop (rec .busy none))) Y→Bk .busy none Y ∧
    (Instr.endRound (B+1) jump).run P Y=.ok (.bool jump.isNone) (Y.putObj (B+1) (.loop (rec (if jump.isNone then .ready else .done) jump))):=fun jump Y hY=>by
   have h3:Bk .busy none Y:=⟨hY.same _ _ (by omega) hk2.1 rfl,hY.same _ _ (by omega) hk2.2 rfl⟩;have h4:=run_endRound (P:=P) jump h3.1
   rw [hrec] at h4 ⊢
   exact ⟨h3,h4⟩
  have put:∀ (Z:World) (o:Obj),KeepsFrom V.heap.size Z (Z.putObj (B+1) o):=fun Z o=>KeepsFrom.of_grownBy (grownBy_putObj' Z (B+1) o) (fun j e=>by cases e;omega)
  have low:∀ {Y Z:World},KeepsFrom w.heap.size Y Z→KeepsFrom V.heap.size Y Z:=fun h=>⟨h.size,fun k o hB hk ho=>h.same k o (by omega) hk ho⟩
  have kf:∀ (jump:Option Code) (Y:World),KeepsFrom w.heap.size (X.putObj (B+1) (.loop (rec .busy none))) Y→KeepsFrom V.heap.size W (Y.putObj (B+1) (.loop (rec (if jump.isNone then .ready else .done) jump))):=fun jump Y hY=>(low hfx).trans ((put _ _).trans ((low hY).trans (put _ _)))
  rintro e c Y hp
  cases e with
  | normal=>
   obtain ⟨hf,hs,hi3⟩:=hp;obtain ⟨h3,hr⟩:=fin none Y hf;exact ⟨_,_,hr,.inl ⟨rfl,⟨hI.putObj _ hi3 (by omega) h3.1 rfl,turn .ready none h3⟩,hsx.trans ((HoldS.put _ _ _ _ hkx.1 rfl).trans (hs.trans (HoldS.put _ _ _ _ h3.1 rfl))),kf none Y hf⟩⟩
  | ret=>
   obtain ⟨hf,hi3⟩:=hp;obtain ⟨h3,hr⟩:=fin (some .ret) Y hf;exact ⟨_,_,hr,.inr ⟨rfl,⟨hIr.putObj _ hi3 (by omega) h3.1 rfl,turn .done (some .ret) h3⟩,kf (some .ret) Y hf⟩⟩
  | exit id=>exact hp.elim
  | goto t=>exact hp.elim
  | panic ch=>exact hp.elim
  | outgrown=>exact hp.elim
 case after=>
  rintro e W2 ⟨⟨v,rfl⟩,⟨xs,hS,hi,hk⟩ | ⟨pre,hSp,hi,hk⟩⟩
  ·
   have he:=run_endLoop (P:=P) hk.1 (by rw [hrec];simp)
   rw [hrec] at he
   exact ⟨none,_,he,by rw [hB];exact hdone _ xs _ (Nat.le_refl _) hS (by rw [← hB];exact hI.putObj _ hi (by omega) hk.1 rfl) (by rw [← hB];exact (World.putObj_heap_other (by omega)).trans hk.2)⟩
  ·
   have he:=run_endLoop (P:=P) hk.1 (by rw [hrec];simp)
   rw [hrec] at he
   exact ⟨some .ret,_,he,by rw [hB];exact hstop _ pre _ (Nat.le_refl _) hSp (by rw [← hB];exact hIr.putObj _ hi (by omega) hk.1 rfl) (by rw [← hB];exact (World.putObj_heap_other (by omega)).trans hk.2)⟩
theorem wpIn_range_toldF {α ρ:Type} {g:Operand} {ps:Array Tmp} {assign body:Code} {Q:Exit→Act→World→Prop} {a:Act}
  (hro:F.round=none) (h1:1≤n) {gf:Nat} {lb:Array Value} (hg:a.eval g=.func (.func gf) #[] lb) (hFg:F.fn gf) (eg:∀ args w,(callFunc gf args).run P w=.ok (.enter gf args) w)
  {encs:α→Array Value} {G:List α→α→World→Prop} {Ks:Nat→Prop} {S Sp:List α→Prop} {w0:World} (hseq:SeqToldK F (n - 1) P gf lb encs G Ks S Sp w0)
  (hb0:Below w0.heap.size w0 w) (hps:∀ x,(encs x).size=ps.size)
  (I Ir:List α→World→Prop) (hI:OwnFrom w.heap.size I) (hIr:OwnFrom w.heap.size Ir) (h0:I [] w) (upd:Array Value→α→ρ→Array Value) (Bx:List α→α→ρ→World→Prop) (hBx:∀ pre x R,OwnFrom w.heap.size (fun (_:Unit) W=>Bx pre x R W))
  (hassign:∀ (l:Nat) (pre:List α) (x:α) (W:World) (K:Act→World→Prop),I pre W→G pre x W→(∀ R V,KeepsFrom w.heap.size W V→HoldS firm Ks W V→I pre V→Bx pre x R V→K { tmps:=upd a.tmps x R,defers:=[] } V) →
   assign.wpIn (F.inRound l) (n - 1 - 1) P (Exit.then K (fun _ _ _=>False)) { tmps:=(ps.zip (encs x)).foldl (fun t (p,v)=>t.setIfInBounds p v) a.tmps,defers:=[] } W)
  (hbody:∀ (l:Nat) (pre:List α) (x:α) (R:ρ) (W:World),w.heap.size≤l→I pre W→Bx pre x R W→body.wpIn (F.inRound l) (n - 1 - 1) P (toldPost w.heap.size Ks I Ir (pre++[x]) W) { tmps:=upd a.tmps x R,defers:=[] } W)
  (hdone:∀ (D:Nat) (xs:List α) (W:World),w.heap.size≤D→S xs→I xs W→W.heap[D]?=some (.deferred (some []))→Q .normal { a with defers:={ target:=.collected D,args:=#[] } :: a.defers } W)
  (hstop:∀ (D:Nat) (pre:List α) (W:World),w.heap.size≤D→Sp pre→Ir pre W→W.heap[D]?=some (.deferred (some []))→Code.ret.wpIn F n P Q { a with defers:={ target:=.collected D,args:=#[] } :: a.defers } W) :
  (Code.rangeFunc g ps assign body).wpIn F n P Q a w:=
 wpIn_range_toldK hro h1 hg hFg eg hseq hb0 hps I Ir hI hIr h0 (fun pre x b V=>∃ R,Bx pre x R V∧b={ tmps:=upd a.tmps x R,defers:=[] })
  (fun pre x b s X Y row ⟨R,h,e⟩ hg hr=>⟨R,hBx pre x R () X Y row h hg hr,e⟩)
  (fun l pre x W K hi hx hK=>hassign l pre x W K hi hx fun R V h1 h2 h3 h4=>hK _ V h1 h2 h3 ⟨R,h4,rfl⟩)
  (fun l pre x b W hl hi ⟨R,h,e⟩=>by subst e;exact hbody l pre x R W hl hi h) hdone hstop
end Go.Proofs.YtdmhemgepdknhaaGreat
namespace Go.Proofs.YtdmhemgepdknhaaGreat
open Go.RowKit Go.Maps Go.Shelf
attribute [local go_sem] Oper.semAt_some
def wrI (L:Lg) (j:Nat):Nat:=3+(L.lasts / 232+j) % L.l.toNat
def wrX (L:Lg) (j:Nat):Sec:=Sx (secL (L.lasts / 232+j) L.epoch ((L.txt.drop (232*j)).take 232))
def wrAll (L:Lg):Nat→Nat→St→St × Int
 | 0,_,s=>(BaS s,BaE s)
 | n+1,j,s=>if s.refuses then ({ s with dead:=true },8) else wrAll L n (j+1) (s.wrote (wrI L j) (wrX L j))
theorem chunk_eq {xs:List Int} {a n m:Nat} (hl:xs.length=m) (hn:n=min 232 (m - a)):(xs.take (a+n)).drop a=(xs.drop a).take 232:=by
 rw [List.drop_take,show a+n - a=n by omega]
 rcases Nat.le_total 232 (m - a) with h | h
 · rw [show n=232 by omega]
 · rw [List.take_of_length_le (by rw [List.length_drop];omega),List.take_of_length_le (by rw [List.length_drop];omega)]
abbrev TPL2:TypeId:=25
abbrev TEr:TypeId:=37
structure WaAt (w:World) (F0:Nat→Prop) (X b:Nat) (p:Value) (q:Option Addr) (m c mm:Nat) (L:Lg) (r:Int) (k:Nat) (s:St) (F:Nat→Prop) (W:World):Prop where
 dk:DkM W F p mm s
 lg:LgAt W b p q m c L
 apart:∀ k,F k→¬ lgS b q k
 box:Blk W w.heap.size TPL2 #[.pointer (some ⟨b,0,none⟩)]
 res:Blk W (w.heap.size+1) TEr #[.int .i64 r]
 num:Blk W (w.heap.size+1+1) TU #[.int .u64 (k:Int)]
 upd:Upd (wlS F0 b q) (wlS F b q) w W
 far:∀ k,F k→k < w.heap.size∨X≤k
 ml:mm < w.heap.size
 xs:w.heap.size+1+1 < X∧X≤W.heap.size
 lgl:∀ k,lgS b q k→k < w.heap.size
section
variable {w:World} {F0:Nat→Prop} {X b:Nat} {p:Value} {q:Option Addr} {m c mm:Nat} {L:Lg} {r:Int} {k:Nat} {s:St} {F:Nat→Prop} {W W':World}
theorem WaAt.wl (h:WaAt w F0 X b p q m c mm L r k s F W):Wl W F b p q m c s L:=⟨h.dk.dk,h.lg,h.apart⟩
theorem WaAt.write {F':Nat→Prop} {s':St} (h:WaAt w F0 X b p q m c mm L r k s F W) (hd:DkM W' F' p mm s') (hu:Upd F F' W W'):WaAt w F0 X b p q m c mm L r k s' F' W':=by
 obtain ⟨h1,h2⟩:=hu.other h.lg.low h.apart;have hx:=h.xs
 have hb:∀ j,w.heap.size≤j→j < X→W'.heap[j]?=W.heap[j]?:=fun j hj hj2=>hu.block j (by omega) (fun hf=>by have:=h.far j hf;omega)
 refine ⟨hd,h.lg.stays h1 hu.size,h2,h.box.stays (hb _ (by omega) (by omega)),h.res.stays (hb _ (by omega) (by omega)),h.num.stays (hb _ (by omega) (by omega)),h.upd.comp ⟨hu.os,hu.tape,hu.output,hu.size,fun j hj hn=>hu.block j hj (fun e=>hn (.inl e)),fun j hj=>hj.elim (fun e=>(hu.fresh j e).imp .inl id) (fun e=>.inl (.inr e))⟩,fun j hj=>?_,h.ml,⟨hx.1,Nat.le_trans hx.2 hu.size⟩,h.lgl⟩
 rcases hu.fresh j hj with h3 | h3
 · exact h.far j h3
 · exact .inr (by omega)
theorem WaAt.kept {F':Nat→Prop} (h:WaAt w F0 X b p q m c mm L r k s F W) (hu:Upd F F' W W'):KeepsFrom X W W'∧∀ Bs Bn,w.heap.size≤Bs→Bs < X→w.heap.size≤Bn→Bn < X→HoldS firm (fun k=>k=Bs∨k=Bn) W W':=by
 refine ⟨⟨hu.size,fun j o hj h1 h2=>?_⟩,fun Bs Bn h1 h2 h3 h4=>⟨hu.size,fun j o hj h5 _=>?_⟩⟩
 ·
  refine (hu.block j (Array.getElem?_eq_some_iff.1 h1).1 (fun hf=>?_)).trans h1
  rcases h.dk.2 j hf with e | ⟨cs,t,fr,hc⟩
  · have:=h.ml;have:=h.xs.1;omega
  ·
   rw [h1] at hc
   cases hc
   cases h2
 ·
  refine (hu.block j (Array.getElem?_eq_some_iff.1 h5).1 (fun hf=>?_)).trans h5;have:=h.far j hf
  rcases hj with rfl | rfl <;> omega
theorem WaAt.held (h:WaAt w F0 X b p q m c mm L r k s F W) {row:Option Nat} (g:W.grownBy W' row) (hr:∀ j,row=some j→X≤j∧∃ o:Obj,W.heap[j]?=some o∧o.isCells=false):WaAt w F0 X b p q m c mm L r k s F W':=by
 have hk:=hold_grown g (fun j e=>(hr j e).2);have hx:=h.xs
 have hF:∀ j,F j→W'.heap[j]?=W.heap[j]?:=fun j hj=>by
  rcases h.dk.2 j hj with e | ⟨cs,t,fr,hc⟩
  ·
   refine g.block j (h.dk.dk.low j hj) (fun e2=>?_);have:=(hr j e2.symm).1;have:=h.ml
   omega
  · exact (hk.same j _ trivial hc rfl).trans hc.symm
 have hL:∀ j,j < w.heap.size→j < W.heap.size→W'.heap[j]?=W.heap[j]?:=fun j hj hj2=>g.block j hj2 (fun e=>by have:=(hr j e.symm).1;omega)
 refine ⟨h.dk.stays hF g.size,h.lg.stays (fun j hj=>hL j (h.lgl j hj) (h.lg.low j hj)) g.size,h.apart,h.box.held hk,h.res.held hk,h.num.held hk,⟨g.os.trans h.upd.os,g.tape.trans h.upd.tape,g.output.trans h.upd.output,Nat.le_trans h.upd.size g.size,fun j hj hn=>(hL j hj (Nat.lt_of_lt_of_le hj h.upd.size)).trans (h.upd.block j hj hn),h.upd.fresh⟩,h.far,h.ml,⟨hx.1,Nat.le_trans hx.2 g.size⟩,h.lgl⟩
theorem WaAt.cell (h:WaAt w F0 X b p q m c mm L r k s F W) (i:Nat) (hi:w.heap.size≤i) (hi2:i < X) (u:Value):(∀ j,j≠i→(W.setCell ⟨i,0,none⟩ u).heap[j]?=W.heap[j]?)∧DkM (W.setCell ⟨i,0,none⟩ u) F p mm s∧LgAt (W.setCell ⟨i,0,none⟩ u) b p q m c L∧Upd (wlS F0 b q) (wlS F b q) w (W.setCell ⟨i,0,none⟩ u):=by
 have ho:=Only.cell i 0 W u;have hsz:W.heap.size≤(W.setCell ⟨i,0,none⟩ u).heap.size:=Nat.le_of_eq ho.size.symm;exact ⟨ho.block,h.dk.stays (fun j hj=>ho.block j (fun e=>by have:=h.far j hj;omega)) hsz,h.lg.stays (fun j hj=>ho.block j (fun e=>by have:=h.lgl j hj;omega)) hsz,⟨ho.os.trans h.upd.os,ho.tape.trans h.upd.tape,ho.output.trans h.upd.output,Nat.le_trans h.upd.size hsz,fun j hj hn=>(ho.block j (by omega)).trans (h.upd.block j hj hn),h.upd.fresh⟩⟩
theorem WaAt.next (h:WaAt w F0 X b p q m c mm L r k s F W) {k':Nat} (u:Int) (hu:u=(k':Int)):WaAt w F0 X b p q m c mm L r k' s F (W.setCell ⟨w.heap.size+1+1,0,none⟩ (.int .u64 u)):=by
 have hx:=h.xs;obtain ⟨h1,h2,h3,h4⟩:=h.cell (w.heap.size+1+1) (by omega) (by omega) (.int .u64 u);subst hu;exact ⟨h2,h3,h.apart,h.box.stays (h1 _ (by omega)),h.res.stays (h1 _ (by omega)),h.num.set 0 _,h4,h.far,h.ml,⟨hx.1,by simpa using hx.2⟩,h.lgl⟩
theorem WaAt.tell (h:WaAt w F0 X b p q m c mm L r k s F W) (r':Int):WaAt w F0 X b p q m c mm L r' k s F (W.setCell ⟨w.heap.size+1,0,none⟩ (.int .i64 r')):=by
 have hx:=h.xs;obtain ⟨h1,h2,h3,h4⟩:=h.cell (w.heap.size+1) (by omega) (by omega) (.int .i64 r');exact ⟨h2,h3,h.apart,h.box.stays (h1 _ (by omega)),h.res.set 0 _,h.num.stays (h1 _ (by omega)),h4,h.far,h.ml,⟨hx.1,by simpa using hx.2⟩,h.lgl⟩
end
end Go.Proofs.YtdmhemgepdknhaaGreat
