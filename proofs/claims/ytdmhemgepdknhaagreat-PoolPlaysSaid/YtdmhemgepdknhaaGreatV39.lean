/-
  Texts, put together: PoolPp2 PoolDp17 PoolPp3 PoolKe3 PoolPp4 PoolPp5 PoolPp6 PoolKe4 PoolKe5 PoolPp7.
-/
import Derived.BigQuiet
import Derived.Deep.MidRow
import Derived.Test.YtdmhemgepdknhaaGreatV1
import Derived.Test.YtdmhemgepdknhaaGreatV38
set_option linter.unusedVariables false
set_option linter.unusedSimpArgs false
namespace Go.Proofs.YtdmhemgepdknhaaGreat
open Go.RowKit Go.Maps
structure PpI (P:Pl) (s:St) (L:Lg) (ss:List Sec):Prop where
 al:AL P s L
 pf:∃ T,PF T P s L
 sm:Sm s ss
 most:1≤P.most∧P.most≤4096
section
variable {P:Pl} {s s':St} {L:Lg} {ss sq:List Sec}
theorem mr_most (P:Pl) (s:St) (L:Lg):(P.mr s L).2.1.most=P.most:=by
 unfold Pl.mr
 split
 · rfl
 ·
  split
  · rfl
  · exact (Pl.leave_rest _ _).1.trans (Pl.off_rest _ _).1
theorem us_most (P:Pl) (i:Nat) (s:St) (L:Lg):(P.us i s L).2.1.most=P.most:=by
 unfold Pl.us
 split
 · rfl
 ·
  split
  · exact mr_most P s L
  · exact mr_most P s L
theorem PpI.gt (h:PpI P s L ss) {i:Int} (hi:i < 0∨19≤i):(P.gt 64 i s L).1=(P.dgt ss i).1∧(P.gt 64 i s L).2.1=(P.dgt ss i).2.1∧PpI (P.gt 64 i s L).2.1 (P.gt 64 i s L).2.2.1 (P.gt 64 i s L).2.2.2 (P.dgt ss i).2.2:=by
 unfold Pl.dgt
 rw [h.sm.len]
 by_cases h1:i < 0∨((64:Nat):Int)≤i
 ·
  have e:askE 64 i=2:=if_pos h1
  have e2:P.gt 64 i s L=((PSec.zero,0,2),P,s,L):=by
   unfold Pl.gt
   rw [e];exact if_pos (by decide)
  rw [e2,if_pos h1];exact ⟨rfl,rfl,h⟩
 ·
  have e:askE 64 i=0:=if_neg h1;obtain ⟨k1,k2,k3,_⟩:=h.al.gt (i:=i) (by omega);obtain ⟨T,hT⟩:=h.pf;have k5:=hT.gt (i:=i) (by omega);obtain ⟨j,rfl⟩:∃ j:Nat,i=(j:Int):=⟨i.toNat,by omega⟩;obtain ⟨u1,u2⟩:=h.sm.us h.al h.most.1 (i:=j) (by omega) (by omega);obtain ⟨v1,_,_,_,f,v5⟩:=h.al.us (i:=j) (by omega) (by omega)
  have e2:P.gt 64 (j:Int) s L=((PSx f.pay,f.lsn,0),(P.us j s L).2):=by
   unfold Pl.gt
   rw [e,show ((j:Int)).toNat=j from rfl];refine (if_neg (by simp)).trans ((if_neg (fun h=>h v1)).trans ?_);rw [v5]
  rw [e2] at k2 k5 ⊢
  rw [if_neg h1,show ((j:Int)).toNat=j from rfl];have hm:=us_most P j s L
  rw [u1] at v5 hm
  rw [v5];exact ⟨rfl,u1,k2,⟨T,k5⟩,u2,by rw [show ((P.us j s L).2).1=(P.dfr ss j).1 from u1,hm];exact h.most⟩
theorem PpI.pt (h:PpI P s L ss) {i o:Int} {ys:List Int} {first lsn:Nat} (hi:i < 0∨19≤i) (hal:AL (P.pt 64 i o ys first lsn s L).2.1 (P.pt 64 i o ys first lsn s L).2.2.1 (P.pt 64 i o ys first lsn s L).2.2.2) (hy:Wd.Small ys) (hl2:lsn≤18446744073709551615) (hf2:first≤18446744073709551615) :
  (P.pt 64 i o ys first lsn s L).1=(P.dpt ss i o ys first lsn).1∧(P.pt 64 i o ys first lsn s L).2.1=(P.dpt ss i o ys first lsn).2.1∧PpI (P.pt 64 i o ys first lsn s L).2.1 (P.pt 64 i o ys first lsn s L).2.2.1 (P.pt 64 i o ys first lsn s L).2.2.2 (P.dpt ss i o ys first lsn).2.2:=by
 obtain ⟨k1,k2,k3⟩:=h.sm.pt h.al h.most.1 (o:=o) (ys:=ys) (first:=first) (lsn:=lsn) hi;obtain ⟨T,hT⟩:=h.pf
 have hp:PF T (P.pt 64 i o ys first lsn s L).2.1 (P.pt 64 i o ys first lsn s L).2.2.1 (P.pt 64 i o ys first lsn s L).2.2.2:=by
  rcases hi with hi | hi
  ·
   have e:askE 64 i=2:=if_pos (.inl hi)
   have e2:P.pt 64 i o ys first lsn s L=(2,P,s,L):=by
    unfold Pl.pt
    rw [e];exact if_pos (by decide)
   rw [e2];exact hT
  · exact hT.pt hi hy hl2 hf2
 have hm:(P.pt 64 i o ys first lsn s L).2.1.most=P.most:=by
  unfold Pl.pt
  split
  · rfl
  ·
   split
   · rfl
   ·
    split
    · exact us_most P _ s L
    ·
     split
     · exact us_most P _ s L
     · exact us_most P _ s L
 exact ⟨k1,k2,hal,⟨T,hp⟩,k3,by rw [hm];exact h.most⟩
theorem wrote_in {xs:List Nat} {i:Nat} {f:PFr} (hf:(P.wrote xs).fr i=some f):∃ f0,P.fr i=some f0∧f.pay=f0.pay∧f.lsn=f0.lsn∧f.first=f0.first∧(f.dirty=true→i ∉ xs∧f0.dirty=true)∧(f.dirty=false→i ∈ xs∨f0.dirty=false):=by
 rw [Pl.wrote_fr] at hf
 split at hf
 ·
  rename_i hn
  cases e0:P.fr i with
  | none=>rw [e0] at hf;cases hf
  | some f0=>rw [e0] at hf;cases hf;exact ⟨f0,rfl,rfl,rfl,rfl,fun e=>(by cases e),fun _=>.inl hn⟩
 ·
  rename_i hn
  exact ⟨f,hf,rfl,rfl,rfl,fun e=>⟨hn,e⟩,fun e=>.inr e⟩
theorem PpI.wt (h:PpI P s L ss) {i:Int} (hi:i < 0∨19≤i):(P.wt 64 i s L).1=(P.dwt ss i).1∧(P.wt 64 i s L).2.1=(P.dwt ss i).2.1∧PpI (P.wt 64 i s L).2.1 (P.wt 64 i s L).2.2.1 (P.wt 64 i s L).2.2.2 (P.dwt ss i).2.2:=by
 unfold Pl.dwt
 rw [h.sm.len]
 by_cases h1:i < 0∨((64:Nat):Int)≤i
 ·
  have e:askE 64 i=2:=if_pos h1
  have e2:P.wt 64 i s L=(2,P,s,L):=by
   unfold Pl.wt
   rw [e];exact if_pos (by decide)
  rw [e2,if_pos h1];exact ⟨rfl,rfl,h⟩
 ·
  have e:askE 64 i=0:=if_neg h1;obtain ⟨j,rfl⟩:∃ j:Nat,i=(j:Int):=⟨i.toNat,by omega⟩;obtain ⟨k1,k2,k3,k4⟩:=h.al.wr [j];obtain ⟨T,hT⟩:=h.pf;have k5:=hT.wr [j]
  have e2:P.wt 64 (j:Int) s L=(0,P.wrote [j],(P.wr [j] s L).2):=by
   unfold Pl.wt
   rw [e,show ((j:Int)).toNat=j from rfl];exact (if_neg (by simp)).trans (if_neg (fun h=>h k1))
  rw [e2,if_neg h1,show ((j:Int)).toNat=j from rfl];refine ⟨rfl,rfl,⟨k2,fun q hq=>h.al.rng q fun e2=>hq ((P.wrote_none _ q).2 e2),fun q f hf=>?_,fun q f hf hd=>?_,fun q f hf hd=>?_⟩,⟨T,k5,fun q hq=>h.al.rng q fun e2=>hq ((P.wrote_none _ q).2 e2),fun q f hf=>?_⟩,Sm.of (by rw [ssO_len];exact h.sm.len) fun q h19 h64=>?_,h.most⟩
  · obtain ⟨f0,h0,e1,e3,e4,_⟩:=wrote_in hf;have hin:=h.al.inn q f0 h0;exact ⟨by rw [e1];exact hin.pay,by rw [e3];exact hin.l,by rw [e4];exact hin.f⟩
  ·
   obtain ⟨f0,h0,e1,e3,e4,e5,_⟩:=wrote_in hf
   show f.lsn≤(P.wr [j] s L).2.2.fin
   rw [k3.fin,e3];exact h.al.lsn q f0 h0 (e5 hd).2
  ·
   obtain ⟨f0,h0,e1,e3,e4,_,e6⟩:=wrote_in hf;obtain ⟨h19,h64⟩:=h.al.rng q (by rw [h0];exact Option.some_ne_none _);have h5:=k4 q h19 h64
   show _=dC (P.wr [j] s L).2.1 q
   rw [h5,e1,e3]
   by_cases hq:q ∈ [j]∧P.fr q≠none
   · rw [if_pos hq,ct_some h0]
   ·
    rw [if_neg hq]
    rcases e6 hd with e7 | e7
    · exact absurd ⟨e7,by rw [h0];exact Option.some_ne_none _⟩ hq
    · exact h.al.cln q f0 h0 e7
  · obtain ⟨f0,h0,e1,e3,e4,_⟩:=wrote_in hf;have hin:=h.al.inn q f0 h0;exact ⟨by rw [e1];exact hin.pay,by rw [e3];exact hin.l,by rw [e4];exact hin.f⟩
  ·
   have h5:=dssW_at [j] (h.sm.cl h.al) q;have h6:=k4 q h19 h64
   show cS ((dssW P ss [j]).getD q Sec.zero)=dC (P.wr [j] s L).2.1 q
   rw [h5,h6]
   by_cases hq:q ∈ [j]∧P.fr q≠none
   · rw [if_pos hq,if_pos hq,ct_cP hq.2]
   · rw [if_neg hq,if_neg hq,h.sm.eq q h19 h64,dC_cS]
theorem wrote_most (P:Pl) (xs:List Nat):(P.wrote xs).most=P.most:=rfl
theorem PF.barrier {T:List Int} {Q:Pl} (h:FI T s L) (hr:∀ i,Q.fr i≠none→19≤i∧i < 64) (hn:∀ i f,Q.fr i=some f→f.In):PF T Q (BaS s) L:=⟨h.ba,hr,hn⟩
theorem PpI.wa (h:PpI P s L ss):(P.wa s L).1=0∧(P.wa s L).2.1=P.wrote P.dirty∧PpI (P.wa s L).2.1 (P.wa s L).2.2.1 (P.wa s L).2.2.2 (dssW P ss P.pages):=by
 obtain ⟨k1,k2,k3,k4,k5,k6⟩:=h.al.wa;obtain ⟨m1,m2⟩:=h.sm.wa h.al;obtain ⟨T,hT⟩:=h.pf;obtain ⟨w1,w2,_⟩:=h.al.wr P.dirty;have hb:=w2.alive.ba
 have e:P.wa s L=(0,P.wrote P.dirty,BaS (P.wr P.dirty s L).2.1,(P.wr P.dirty s L).2.2):=by
  unfold Pl.wa
  exact (if_neg (fun e=>e w1)).trans (if_neg (fun e=>e hb.2))
 have hmo:(P.wa s L).2.1.most=P.most:=by rw [m2,wrote_most]
 have hw:=hT.wr P.dirty;have hrg:=k2.rng;have hnn:=k2.inn
 have e3:(P.wa s L).2.2.1=BaS (P.wr P.dirty s L).2.1:=by rw [e]
 have e4:(P.wa s L).2.2.2=(P.wr P.dirty s L).2.2:=by rw [e]
 refine ⟨k1,m2,k2,⟨T,?_⟩,m1,by rw [hmo];exact h.most⟩;rw [e3,e4];exact PF.barrier hw hrg hnn
theorem PpI.lets (h:PpI P s L ss):PpI { P with held:=false } s L ss:=
 ⟨⟨h.al.ad,h.al.rng,h.al.inn,h.al.lsn,h.al.cln⟩,h.pf.imp fun _ k=>⟨k.fi,k.rng,k.inn⟩,h.sm,h.most⟩
theorem PpI.lasts (h:PpI P s L ss) {g:Nat} (h19:19≤g) (h64:g < 64):lsnS (ss.getD g Sec.zero)≤L.lasts:=by
 obtain ⟨T,hT⟩:=h.pf;rw [h.sm.eq g h19 h64];exact hT.fi.pg g h19 h64 _ (nw_mem s g)
end
end Go.Proofs.YtdmhemgepdknhaaGreat
namespace Go.Proofs.YtdmhemgepdknhaaGreat
open Go.RowKit Go.Maps
theorem built_rp (sv:Value) (n:Int) (x:Bool) (hd:sv.cells=#[sv]):Tryz.prog.built TRp [(0,sv),(2,.int .i64 n),(3,.bool x),(5,.int .i64 (-1))]=some #[sv,.slice none 0 0,.int .i64 n,.bool x,.int .u64 0,.int .i64 (-1)]:=by
 have hz0:(Tryz.prog.info? TRp).map (·.zero)=some (some (.agg #[.slice none 0 0,.slice none 0 0,.int .i64 0,.bool false,.int .u64 0,.int .i64 0])):=by kernel_rfl
 obtain ⟨it,hit,hz⟩:∃ it,Tryz.prog.info? TRp=some it∧it.zero=some (.agg #[.slice none 0 0,.slice none 0 0,.int .i64 0,.bool false,.int .u64 0,.int .i64 0]):=by
  cases h:Tryz.prog.info? TRp with
  | none=>rw [h] at hz0;cases hz0
  | some it=>rw [h] at hz0;exact ⟨it,rfl,Option.some.inj hz0⟩
 obtain ⟨fs,hfs,hm⟩:∃ fs:Array Field,Tryz.prog.underlying TRp=some (.struct fs)∧fs.toList.mapM (fun f=>(Tryz.prog.info? f.type).map fun i=>(f.offset,i.size))=some [(0,1),(1,1),(2,1),(3,1),(4,1),(5,1)]:=⟨_,Tryz.underlying53,by kernel_rfl⟩
 unfold Program.built
 rw [hit,hfs]
 simp only [hz]
 rw [hm]
 simp [Instr.fill,hd]
 simp [Value.cells]
theorem wpList_build_rp {ops:Array Oper} {rest:List Oper} {o:Oper} {a:Act} {w:World} {Q:Exit→Act→World→Prop} (hg:o.guard=none) (x0 x2 x3 x5:Operand) (ho:o.op=.build TRp #[(0,x0),(2,x2),(3,x3),(5,x5)])
  {sv:Value} {n:Int} {x:Bool} (hd:sv.cells=#[sv]) (h0:a.eval x0=sv) (h2:a.eval x2=.int .i64 n) (h3:a.eval x3=.bool x) (h5:a.eval x5=.int .i64 (-1))
  (h:wpList Tryz.prog ops Q rest (a.put o.dst (.agg #[sv,.slice none 0 0,.int .i64 n,.bool x,.int .u64 0,.int .i64 (-1)])) w):wpList Tryz.prog ops Q (o :: rest) a w:=by
 have hb:Tryz.prog.built TRp ((#[(0,x0),(2,x2),(3,x3),(5,x5)]:Array (Nat × Operand)).map fun (i,x)=>(i,a.eval x)).toList=some #[sv,.slice none 0 0,.int .i64 n,.bool x,.int .u64 0,.int .i64 (-1)]:=by
  simp only [List.map_toArray,List.map_cons,List.map_nil,h0,h2,h3,h5]
  exact built_rp sv n x hd
 exact wpList_build hg TRp _ ho (by rw [hb];rfl) (by rw [hb];exact h)
section
variable {w w':World} {b:Nat} {sv av av':Value} {P Q:Pl} {ss sq:List Sec} {la:Nat} {L M:List (Nat × PFr)}
set_option maxRecDepth 100000 in
set_option maxHeartbeats 1000000 in
theorem dNew_any (w:World) (n:Int) (x:Bool):Calls Tryz.prog 10 #[.int .i64 64,.int .i64 n,.bool x] w fun e w'=>∃ b sv,e=.returned (.pointer (some ⟨b,0,none⟩)) ∧
  DpAt w' b sv (.slice none 0 0) ⟨n,x,-1,fun _=>none⟩ (List.replicate 64 Sec.zero) 0 []∧(∀ q,dpS b sv (.slice none 0 0) q→w.heap.size≤q)∧Gr w w':=by
 obtain ⟨i0,hi,hz0,hz1,hz2⟩:=info_parts info_sec;have HI:=Lib.hid hi;have HZ0:=Lib.hid hz0;have HZ1:=Lib.hid hz1;have HZ2:=Lib.hid hz2;clear hi hz0 hz1 hz2
 go_enter Tryz.func10,Tryz.ntmps10
 go_wp2_with (at_make;refine wpList_make_full _ rfl _ _ TL rfl 0 TS i0 (.agg (sec Sec.zero)) 256 Tryz.underlying50 HI.out HZ0.out HZ1.out _ _ _ _ 64 rfl rfl rfl rfl ?b1 ?b2 (Nat.zero_le _) ?_)
 case b1=>rw [HZ2.out];omega
 case b2=>unfold maxLen;omega
 intro w1 hown hgrow
 have hz:=made_zero 64
 simp only [Value.cells] at hz
 rw [hz] at hown
 clear hz
 have hr:Row w1 (.slice (some ⟨w.heap.size,0,none⟩) 64 64) (List.replicate 64 Sec.zero):=by
  unfold Row
  rw [List.length_replicate];exact hown
 have HRw:=Lib.hid hr;have HG:Hid (Gr w w1):=Lib.hid (Below.grown (Gr.refl w) hgrow (Nat.le_refl _) (fun k e=>by cases e));clear hown hgrow hr
 go_wp2_with (refine wpList_build_rp rfl (.tmp 8) (.tmp 9) (.tmp 10) (.const (.int .i64 (-1))) rfl (sv:=.slice (some ⟨w.heap.size,0,none⟩) 64 64) rfl rfl rfl rfl rfl ?_)
 go_ret
 have hg2:Gr w1 (w1.alloc (.cells #[.slice (some ⟨w.heap.size,0,none⟩) 64 64,.slice none 0 0,.int .i64 n,.bool x,.int .u64 0,.int .i64 (-1)] TRp)):=Gr.new _ _;have hlt:=HRw.out.lt w.heap.size rfl;refine ⟨w1.heap.size,.slice (some ⟨w.heap.size,0,none⟩) 64 64,rfl,⟨Blk.new _ _ _,HRw.out.gr hg2,FR.nil _,⟨List.Pairwise.nil,fun i f=>⟨fun h=>(by cases h),fun h=>(by cases h)⟩⟩,fun g hg=>?_,fun g hg=>(by cases hg),Nat.zero_le _⟩,fun q hq=>?_,Gr.trans HG.out hg2⟩
 ·
  cases hg
  show w.heap.size≠w1.heap.size
  omega
 ·
  rcases hq with rfl | hq | hq
  · exact HG.out.size
  · cases hq;exact Nat.le_refl _
  · cases hq
end
end Go.Proofs.YtdmhemgepdknhaaGreat
namespace Go.Proofs.YtdmhemgepdknhaaGreat
open Go.RowKit Go.Maps
def PpM (w0 w:World) (b m b2:Nat) (pd pl:Value) (P:Pl) (s:St) (L:Lg) (Q:Pl) (ss:List Sec) (R:Nat) (Ks:List (Nat × TypeId × Array Value)):Prop:=
 ∃ S n B sv av la M,PoAt w b m n pd pl B S P s L 64 R∧DpAt w b2 sv av Q ss la M∧(∀ z,uS S b m B z→w0.heap.size≤z∧¬ dpS b2 sv av z)∧(∀ z,dpS b2 sv av z→w0.heap.size≤z)∧Gr w0 w∧∀ x,x ∈ Ks→¬ uS S b m B x.1∧¬ dpS b2 sv av x.1∧w0.heap.size≤x.1∧Blk w x.1 x.2.1 x.2.2
section
variable {w0 w w':World} {b m b2:Nat} {pd pl:Value} {P P' Q Q':Pl} {s s':St} {L L':Lg} {ss sq:List Sec} {R R':Nat} {Ks Ns:List (Nat × TypeId × Array Value)}
theorem PpM.blk (h:PpM w0 w b m b2 pd pl P s L Q ss R Ks):(∀ x,x ∈ Ks→Blk w x.1 x.2.1 x.2.2)∧Gr w0 w:=by
 obtain ⟨S,n,B,sv,av,la,M,_,_,_,_,h5,h6⟩:=h;exact ⟨fun x hx=>(h6 x hx).2.2.2,h5⟩
theorem PpM.gr (h:PpM w0 w b m b2 pd pl P s L Q ss R Ks) (g:Gr w w'):PpM w0 w' b m b2 pd pl P s L Q ss R Ks:=by
 obtain ⟨S,n,B,sv,av,la,M,h1,h2,h3,h4,h5,h6⟩:=h;exact ⟨S,n,B,sv,av,la,M,h1.gr g,h2.gr g,h3,h4,Gr.trans h5 g,fun x hx=>⟨(h6 x hx).1,(h6 x hx).2.1,(h6 x hx).2.2.1,(h6 x hx).2.2.2.gr g⟩⟩
theorem PpM.less (h:PpM w0 w b m b2 pd pl P s L Q ss R Ks) (hR:R'≤R) (hk:∀ x,x ∈ Ns→x ∈ Ks):PpM w0 w b m b2 pd pl P s L Q ss R' Ns:=by
 obtain ⟨S,n,B,sv,av,la,M,h1,h2,h3,h4,h5,h6⟩:=h;exact ⟨S,n,B,sv,av,la,M,h1.lower hR,h2,h3,h4,h5,fun x hx=>h6 x (hk x hx)⟩
theorem PpM.box (h:PpM w0 w b m b2 pd pl P s L Q ss R Ks) (cs:Array Value) (ty:TypeId):PpM w0 (w.alloc (.cells cs ty)) b m b2 pd pl P s L Q ss R ((w.heap.size,ty,cs) :: Ks):=by
 obtain ⟨S,n,B,sv,av,la,M,h1,h2,h3,h4,h5,h6⟩:=h;have g:=Gr.new w (.cells cs ty);refine ⟨S,n,B,sv,av,la,M,h1.gr g,h2.gr g,h3,h4,Gr.trans h5 g,fun x hx=>?_⟩
 rcases List.mem_cons.1 hx with rfl | hx
 · exact ⟨fun e=>by have:=h1.low _ e;omega,fun e=>by have:=h2.low _ e;omega,h5.size,Blk.new _ _ _⟩
 · exact ⟨(h6 x hx).1,(h6 x hx).2.1,(h6 x hx).2.2.1,(h6 x hx).2.2.2.gr g⟩
theorem PpM.row (h:PpM w0 w b m b2 pd pl P s L Q ss R Ks) {q:Nat} {ty:TypeId} {old:Array Value} (hq:(q,ty,old) ∈ Ks) (cs:Array Value) (hn:∀ x,x ∈ Ns→x=(q,ty,cs)∨x ∈ Ks∧x.1≠q):PpM w0 (w.setRow q cs) b m b2 pd pl P s L Q ss R Ns:=by
 obtain ⟨S,n,B,sv,av,la,M,h1,h2,h3,h4,h5,h6⟩:=h;obtain ⟨k1,k2,k3,k4⟩:=h6 _ hq;refine ⟨S,n,B,sv,av,la,M,h1.row k1 cs,h2.stays fun z hz=>setRow_other _ _ _ _ fun e=>k2 (e ▸ hz),h3,h4,below_setRow (B:=w0.heap.size) h5 k3 cs,fun x hx=>?_⟩
 rcases hn x hx with rfl | ⟨hx,hne⟩
 · exact ⟨k1,k2,k3,k4.row cs⟩
 · exact ⟨(h6 x hx).1,(h6 x hx).2.1,(h6 x hx).2.2.1,(h6 x hx).2.2.2.stays (setRow_other _ _ _ _ hne)⟩
theorem PpM.code {f:Nat} {args:Array Value} {v:Value} (h:PpM w0 w b m b2 pd pl P s L Q ss R Ks) (hc:∀ S n B,PoAt w b m n pd pl B S P s L 64 R→(∀ q,uS S b m B q→w0.heap.size≤q)→Calls Tryz.prog f args w (RetPo v P' s' L' b m pd pl B S 64 R' w)) :
  Calls Tryz.prog f args w fun e w'=>e=.returned v∧PpM w0 w' b m b2 pd pl P' s' L' Q ss R' Ks:=by
 obtain ⟨S,n,B,sv,av,la,M,h1,h2,h3,h4,h5,h6⟩:=h;refine (hc S n B h1 fun q hq=>(h3 q hq).1).mono ?_;rintro e w' ⟨rfl,S',n',B',k1,k2⟩
 have hd2:∀ z,dpS b2 sv av z→w'.heap[z]?=w.heap[z]?:=fun z hz=>k2.block z (h2.low z hz) fun e=>(h3 z e).2 hz
 refine ⟨rfl,S',n',B',sv,av,la,M,k1,h2.stays hd2,fun z hz=>⟨k2.from h5.size (fun q hq=>(h3 q hq).1) z hz,fun e=>?_⟩,h4,Below.trans h5 (k2.below h5.size fun q hq=>(h3 q hq).1),fun x hx=>?_⟩
 ·
  rcases k2.fresh _ hz with h | h
  · exact (h3 z h).2 e
  · have:=h2.low z e;omega
 ·
  obtain ⟨m1,m2,m3,m4⟩:=h6 x hx;refine ⟨fun e=>?_,m2,m3,m4.stays (k2.block _ m4.lt m1)⟩
  rcases k2.fresh _ e with h | h
  · exact m1 h
  · have:=m4.lt;omega
theorem PpM.doc {f:Nat} {args:Array Value} {v:Value} (h:PpM w0 w b m b2 pd pl P s L Q ss R Ks) (hc:∀ sv av la M,DpAt w b2 sv av Q ss la M→(∀ q,dpS b2 sv av q→w0.heap.size≤q)→Calls Tryz.prog f args w (RetDp v Q' sq b2 sv av la w)) :
  Calls Tryz.prog f args w fun e w'=>e=.returned v∧PpM w0 w' b m b2 pd pl P s L Q' sq R Ks:=by
 obtain ⟨S,n,B,sv,av,la,M,h1,h2,h3,h4,h5,h6⟩:=h;refine (hc sv av la M h2 h4).mono ?_;rintro e w' ⟨av',M',rfl,k1,k2⟩;refine ⟨rfl,S,n,B,sv,av',la,M',h1.stays (fun z hz=>k2.block z (h1.low z hz) fun e=>(h3 z hz).2 e) k2.size,k1,fun z hz=>⟨(h3 z hz).1,fun e=>?_⟩,fun z hz=>k2.from h5.size h4 z hz,Below.trans h5 (k2.below h5.size h4),fun x hx=>?_⟩
 ·
  rcases k2.fresh _ e with h | h
  · exact (h3 z hz).2 h
  · have:=h1.low z hz;omega
 ·
  obtain ⟨m1,m2,m3,m4⟩:=h6 x hx;refine ⟨m1,fun e=>?_,m3,m4.stays (k2.block _ m4.lt m2)⟩
  rcases k2.fresh _ e with h | h
  · exact m2 h
  · have:=m4.lt;omega
theorem PpM.note (h:PpM w0 w b m b2 pd pl P s L Q ss R Ks) (hf:L.fin≤8000000000000000000) (page:Nat):Calls Tryz.prog 13 #[pl,.int .i64 (page:Int)] w fun e w'=>e=.returned (.tuple #[.int .u64 (layA L (nR page) L.free:Int),.int .u64 ((L.noted page).fin:Int),.bool (layE (nR page) L.free == 0)])∧PpM w0 w' b m b2 pd pl P s (L.noted page) Q ss R Ks:=
 h.code fun S n B hp _=>(note7_any hp hf page).mono fun e w' ⟨h1,S',h2,h3⟩=>⟨h1,S',n,B,h2,h3⟩
theorem PpM.ok (h:PpM w0 w b m b2 pd pl P s L Q ss R Ks):PlOk P 64:=by
 obtain ⟨S,n,B,sv,av,la,M,h1,_⟩:=h;exact h1.ok
end
def PpS (w0 w:World) (d l b m b2:Nat) (R:Nat) (Ks:List (Nat × TypeId × Array Value)) (C:St→Lg→List Sec→Prop):Prop:=
 ∃ P s L ss,PpI P s L ss∧C s L ss∧PpM w0 w b m b2 (.pointer (some ⟨d,0,none⟩)) (.pointer (some ⟨l,0,none⟩)) P s L P ss R Ks
def PpD (w0 w:World) (d l b m b2:Nat) (R:Nat) (Ks:List (Nat × TypeId × Array Value)) (f:Nat) (args:Array Value) (v:Value):Prop:=
 ∃ P s L Q ss,PpM w0 w b m b2 (.pointer (some ⟨d,0,none⟩)) (.pointer (some ⟨l,0,none⟩)) P s L Q ss R Ks∧∀ w1 Ns,PpM w0 w1 b m b2 (.pointer (some ⟨d,0,none⟩)) (.pointer (some ⟨l,0,none⟩)) P s L Q ss R Ns→Calls Tryz.prog f args w1 fun e w'=>e=.returned v∧PpS w0 w' d l b m b2 R Ns fun _ _ _=>True
section
variable {w0 w w':World} {d l b m b2:Nat} {R:Nat} {Ks:List (Nat × TypeId × Array Value)} {C:St→Lg→List Sec→Prop}
theorem PpS.get {i:Int} (h:PpS w0 w d l b m b2 R Ks C) (hR:200≤R) (hi:i < 0∨19≤i):Calls Tryz.prog 11 #[.pointer (some ⟨b,0,none⟩),.int .i64 i] w fun e w'=>∃ x,e=.returned (gtV x)∧PpD w0 w' d l b m b2 (R - 200) Ks 12 #[.pointer (some ⟨b2,0,none⟩),.int .i64 i] (gtV x):=by
 obtain ⟨P,s,L,ss,h1,-,h3⟩:=h;obtain ⟨k1,k2,k3⟩:=h1.gt hi;have hok:=h3.ok;refine (h3.code (R':=R - 200) fun S n B hq hlo=>Get_any hq (by omega) i).mono ?_;rintro e w' ⟨rfl,hm⟩;refine ⟨_,rfl,_,_,_,P,ss,hm,fun w1 Ns hm1=>?_⟩;rw [k1];refine (hm1.doc fun sv av la M hd _=>dGet_any hd i (by rw [h1.sm.len];decide) hok.hin (h1.sm.cl h1.al) ⟨hok.h0,hok.h1⟩ h1.most).mono ?_;rintro e w2 ⟨rfl,hm2⟩
 rw [← k2] at hm2
 exact ⟨rfl,_,_,_,_,k3,trivial,hm2⟩
theorem PpS.write {i:Int} (h:PpS w0 w d l b m b2 R Ks C) (hR:200≤R) (hi:i < 0∨19≤i):Calls Tryz.prog 16 #[.pointer (some ⟨b,0,none⟩),.int .i64 i] w fun e w'=>∃ x:Int,e=.returned (.int .i64 x)∧PpD w0 w' d l b m b2 (R - 200) Ks 17 #[.pointer (some ⟨b2,0,none⟩),.int .i64 i] (.int .i64 x):=by
 obtain ⟨P,s,L,ss,h1,-,h3⟩:=h;obtain ⟨k1,k2,k3⟩:=h1.wt hi;refine (h3.code (R':=R - 200) fun S n B hq hlo=>WriteP_any hq (by omega) i).mono ?_;rintro e w' ⟨rfl,hm⟩;refine ⟨_,rfl,_,_,_,P,ss,hm,fun w1 Ns hm1=>?_⟩;rw [k1];refine (hm1.doc fun sv av la M hd _=>dWrite_any hd i (h1.sm.cl h1.al)).mono ?_;rintro e w2 ⟨rfl,hm2⟩
 rw [← k2] at hm2
 exact ⟨rfl,_,_,_,_,k3,trivial,hm2⟩
theorem PpS.writeAll (h:PpS w0 w d l b m b2 R Ks C) (hR:200≤R):Calls Tryz.prog 18 #[.pointer (some ⟨b,0,none⟩)] w fun e w'=>e=.returned (.int .i64 0)∧PpD w0 w' d l b m b2 (R - 200) Ks 19 #[.pointer (some ⟨b2,0,none⟩)] (.int .i64 0):=by
 obtain ⟨P,s,L,ss,h1,-,h3⟩:=h;obtain ⟨k1,k2,k3⟩:=h1.wa;have hok:=h3.ok;refine (h3.code (R':=R - 200) fun S n B hq hlo=>WriteAllP_any hq (by omega)).mono ?_;rintro e w' ⟨rfl,hm⟩;refine ⟨by rw [k1],_,_,_,P,ss,hm,fun w1 Ns hm1=>?_⟩;refine (hm1.doc fun sv av la M hd _=>dWriteAll_any hd hok.hin (h1.sm.cl h1.al)).mono ?_;rintro e w2 ⟨rfl,hm2⟩
 rw [← k2] at hm2
 exact ⟨rfl,_,_,_,_,k3,trivial,hm2⟩
end
end Go.Proofs.YtdmhemgepdknhaaGreat
namespace Go.Proofs.YtdmhemgepdknhaaGreat
open Go.RowKit Go.Maps

end Go.Proofs.YtdmhemgepdknhaaGreat
namespace Go.Proofs.YtdmhemgepdknhaaGreat
open Go.RowKit Go.Maps
theorem dfr_pay {P:Pl} {ss:List Sec} (h:∀ i f,P.fr i=some f→PIsSec f.pay) (j:Nat) (f:PFr) (hf:(P.dfr ss j).1.fr j=some f):PIsSec f.pay:=by
 cases e:P.fr j with
 | some f0=>
  rw [dfr_some e] at hf
  have h1:(P.use j f0).fr j=some { f0 with used:=true }:=by rw [Pl.use_fr,if_pos rfl]
  rw [h1] at hf
  cases hf
  exact h j f0 e
 | none=>
  rw [dfr_none e] at hf
  obtain ⟨Q,hQ⟩:∃ Q,Q=P.gN P.room:=⟨_,rfl⟩;obtain ⟨x,hx⟩:∃ x,x=secN ((P.gS P.room ss).getD j Sec.zero):=⟨_,rfl⟩
  have hs:IsSec x:=by rw [hx];exact secN_sec _
  rw [← hQ,← hx] at hf
  have h1:(Q.use j (frS x)).fr j=some { frS x with used:=true }:=by rw [Pl.use_fr,if_pos rfl]
  rw [h1] at hf
  cases hf
  exact (frS_in hs).pay
section
variable {P:Pl} {s:St} {L:Lg} {ss:List Sec}
theorem PpI.noted (h:PpI P s L ss) (page:Nat):PpI P s (L.noted page) ss:=by
 obtain ⟨T,hT⟩:=h.pf;obtain ⟨T',hT'⟩:=hT.noted page;exact ⟨h.al.noted page,⟨T',hT'⟩,h.sm,h.most⟩
theorem zeroD_nw (j:Nat):zeroD.nw j=Sec.zero:=by
 rw [nw_none (s:=zeroD) rfl]
 show (List.replicate 64 Sec.zero).getD j Sec.zero=Sec.zero
 rw [List.getD_eq_getElem?_getD,List.getElem?_replicate]
 split <;> rfl
theorem PpI.begin {n:Int} (x:Bool) (h1:8≤n) (h2:n≤4096):PpI (P0 n x) zeroD L0 (List.replicate 64 Sec.zero):=
 ⟨AL.begin n x,⟨[],PF.begin n x zeroD.fuse⟩,⟨List.length_replicate,fun j _ _=>by
  rw [zeroD_nw,List.getD_eq_getElem?_getD,List.getElem?_replicate]
  split <;> rfl⟩,by
   show 1≤n∧n≤4096
   omega⟩
end
section
variable {w0 w w':World} {b m b2:Nat} {pd pl:Value} {P Q:Pl} {s:St} {L:Lg} {ss:List Sec} {R:Nat} {Ks:List (Nat × TypeId × Array Value)} {sv av:Value} {la:Nat} {M:List (Nat × PFr)}
theorem DpAt.held (h:DpAt w b sv av P ss la M) (x:Bool):DpAt (w.setCell ⟨b,3,none⟩ (.bool x)) b sv av { P with held:=x } ss la M:=by
 have ho:=Onc.cell b w 3 (.bool x);exact ⟨h.blk.set 3 _,h.row.stays fun g hg=>ho.block g (h.apS g hg),h.all.on fun g hg=>ho.block g (h.apA g hg).1,⟨h.rl.up,h.rl.mem⟩,h.apS,h.apA,h.len⟩
theorem DpAt.lasts (h:DpAt w b sv av P ss la M) (n:Nat):DpAt (w.setCell ⟨b,4,none⟩ (.int .u64 (n:Int))) b sv av P ss n M:=by
 have ho:=Onc.cell b w 4 (.int .u64 (n:Int));exact ⟨h.blk.set 4 _,h.row.stays fun g hg=>ho.block g (h.apS g hg),h.all.on fun g hg=>ho.block g (h.apA g hg).1,h.rl,h.apS,h.apA,h.len⟩
theorem PpM.cell {o:Nat} {v:Value} {Q':Pl} (h:PpM w0 w b m b2 pd pl P s L Q ss R Ks) (hc:∀ sv av la M,DpAt w b2 sv av Q ss la M→∃ la',DpAt (w.setCell ⟨b2,o,none⟩ v) b2 sv av Q' ss la' M):PpM w0 (w.setCell ⟨b2,o,none⟩ v) b m b2 pd pl P s L Q' ss R Ks:=by
 obtain ⟨S,n,B,sv,av,la,M,h1,h2,h3,h4,h5,h6⟩:=h;obtain ⟨la',hd⟩:=hc sv av la M h2;have ho:=Onc.cell b2 w o v;have hb2:dpS b2 sv av b2:=.inl rfl;exact ⟨S,n,B,sv,av,la',M,h1.stays (fun z hz=>ho.block z fun e=>(h3 z hz).2 (e ▸ hb2)) (Nat.le_of_eq ho.size.symm),hd,h3,h4,Below.setCell h5 (h4 b2 hb2) _,fun x hx=>⟨(h6 x hx).1,(h6 x hx).2.1,(h6 x hx).2.2.1,(h6 x hx).2.2.2.stays (ho.block _ fun e=>(h6 x hx).2.1 (e ▸ hb2))⟩⟩
theorem KpQ.pp (h:KpQ w0 w b m pd pl P s L R []) (g:Gr w w') (hd:DpAt w' b2 sv av Q ss la M) (hl:∀ q,dpS b2 sv av q→w.heap.size≤q):PpM w0 w' b m b2 pd pl P s L Q ss R []:=by
 obtain ⟨S,n,B,h1,h2,h3,-⟩:=h;exact ⟨S,n,B,sv,av,la,M,h1.gr g,hd,fun z hz=>⟨h2 z hz,fun e=>by have:=hl z e;have:=h1.low z hz;omega⟩,fun z hz=>Nat.le_trans h3.size (hl z hz),Gr.trans h3 g,fun x hx=>by cases hx⟩
end
section
variable {w0 w w':World} {d l b m b2:Nat} {R:Nat} {Ks:List (Nat × TypeId × Array Value)} {C:St→Lg→List Sec→Prop}
theorem PpS.note (h:PpS w0 w d l b m b2 R Ks C):Calls Tryz.prog 13 #[.pointer (some ⟨l,0,none⟩),.int .i64 25] w fun e w'=>∃ (a f:Nat) (x:Bool),e=.returned (.tuple #[.int .u64 (a:Int),.int .u64 (f:Int),.bool x])∧a≤100000∧f≤100000∧PpS w0 w' d l b m b2 R Ks (fun _ L _=>f≤L.fin):=by
 obtain ⟨P,s,L,ss,h1,-,h3⟩:=h;have hs:=h1.al.ad.small;have hs2:=(h1.noted 25).al.ad.small;refine (h3.note (by omega) 25).mono ?_;rintro e w' ⟨rfl,k⟩;refine ⟨_,_,_,rfl,?_,hs2,P,s,L.noted 25,ss,h1.noted 25,Nat.le_refl _,k⟩
 unfold layA
 split <;> omega
theorem PpS.put {a f:Nat} {i o:Int} {pb:Option Addr} {nb cb:Nat} {ys:List Int} (h:PpS w0 w d l b m b2 R Ks (fun _ L _=>f≤L.fin)) (hR:200≤R) (hi:i < 0∨19≤i) (hf:f≤100000) (ha:a≤100000) (hy0:Byt w0 pb nb cb ys) (hyk:∀ w1,Gr w0 w1→Byt w1 pb nb cb ys) :
  Calls Tryz.prog 14 #[.pointer (some ⟨b,0,none⟩),.int .i64 i,.int .i64 o,.slice pb nb cb,.int .u64 (a:Int),.int .u64 (f:Int)] w fun e w'=>∃ x:Int,e=.returned (.int .i64 x)∧PpD w0 w' d l b m b2 (R - 200) Ks 15 #[.pointer (some ⟨b2,0,none⟩),.int .i64 i,.int .i64 o,.slice pb nb cb,.int .u64 (a:Int),.int .u64 (f:Int)] (.int .i64 x):=by
 obtain ⟨P,s,L,ss,h1,h2,h3⟩:=h;have hy:=hyk w h3.blk.2;have hal:=(h1.al.pt (i:=i) (o:=o) (ys:=ys) (first:=a) (lsn:=f) (by omega) hy.small h2 (by omega) (by omega)).2.1;obtain ⟨k1,k2,k3⟩:=h1.pt (o:=o) (ys:=ys) (first:=a) (lsn:=f) hi hal hy.small (by omega) (by omega);have hok:=h3.ok;refine (h3.code (R':=R - 200) fun S n B hq hlo=>Put_any hq (by omega) i o hy (fun h0 y hye e=>by have h5:=hlo _ e;have h6:=hy0.up h0 y hye;omega) (by omega) (by omega)).mono ?_;rintro e w' ⟨rfl,hm⟩;refine ⟨_,rfl,_,_,_,P,ss,hm,fun w1 Ns hm1=>?_⟩;rw [k1];refine (hm1.doc fun sv av la M hd hlo=>dPut_any hd i o (by rw [h1.sm.len];decide) hok.hin (h1.sm.cl h1.al) (fun j g hg=>dfr_pay (fun q f hq=>(h1.al.inn q f hq).pay) j g hg) ⟨hok.h0,hok.h1⟩ h1.most (hyk w1 hm1.blk.2) (fun h0 y hye e=>by have h5:=hlo _ e;have h6:=hy0.up h0 y hye;omega) (by omega) (by omega)).mono ?_;rintro e w2 ⟨rfl,hm2⟩
 rw [← k2] at hm2
 exact ⟨rfl,_,_,_,_,k3,trivial,hm2⟩
end
end Go.Proofs.YtdmhemgepdknhaaGreat
namespace Go.Proofs.YtdmhemgepdknhaaGreat
open Go.RowKit Go.Maps
section
variable {w0 w w':World} {d l b m b2:Nat} {R:Nat} {Ks:List (Nat × TypeId × Array Value)} {C:St→Lg→List Sec→Prop}
theorem PpS.blk (h:PpS w0 w d l b m b2 R Ks C):(∀ x,x ∈ Ks→Blk w x.1 x.2.1 x.2.2)∧Gr w0 w:=by
 obtain ⟨P,s,L,ss,_,_,h3⟩:=h;exact h3.blk
theorem PpS.gr (h:PpS w0 w d l b m b2 R Ks C) (g:Gr w w'):PpS w0 w' d l b m b2 R Ks C:=by
 obtain ⟨P,s,L,ss,h1,h2,h3⟩:=h;exact ⟨P,s,L,ss,h1,h2,h3.gr g⟩
theorem PpS.less {R':Nat} {Ns:List (Nat × TypeId × Array Value)} (h:PpS w0 w d l b m b2 R Ks C) (hR:R'≤R) (hk:∀ x,x ∈ Ns→x ∈ Ks):PpS w0 w d l b m b2 R' Ns fun _ _ _=>True:=by
 obtain ⟨P,s,L,ss,h1,_,h3⟩:=h;exact ⟨P,s,L,ss,h1,trivial,h3.less hR hk⟩
theorem PpS.box (h:PpS w0 w d l b m b2 R Ks C) (cs:Array Value) (ty:TypeId):PpS w0 (w.alloc (.cells cs ty)) d l b m b2 R ((w.heap.size,ty,cs) :: Ks) C:=by
 obtain ⟨P,s,L,ss,h1,h2,h3⟩:=h;exact ⟨P,s,L,ss,h1,h2,h3.box cs ty⟩
theorem PpD.blk {f:Nat} {args:Array Value} {v:Value} (h:PpD w0 w d l b m b2 R Ks f args v):(∀ x,x ∈ Ks→Blk w x.1 x.2.1 x.2.2)∧Gr w0 w:=by
 obtain ⟨P,s,L,Q,ss,h1,h2⟩:=h;exact h1.blk
theorem PpD.go {f:Nat} {args:Array Value} {v:Value} (h:PpD w0 w d l b m b2 R Ks f args v):Calls Tryz.prog f args w fun e w'=>e=.returned v∧PpS w0 w' d l b m b2 R Ks fun _ _ _=>True:=by
 obtain ⟨P,s,L,Q,ss,h1,h2⟩:=h;exact h2 w Ks h1
theorem PpS.lets (h:PpS w0 w d l b m b2 R Ks C):Calls Tryz.prog 20 #[.pointer (some ⟨b,0,none⟩)] w fun e w'=>e=.returned (.tuple #[])∧Gr w0 w'∧(∀ x,x ∈ Ks→Blk w' x.1 x.2.1 x.2.2)∧(∃ x,w'.cell? ⟨b2,3,none⟩=some (.bool x))∧w'.frozen? ⟨b2,3,none⟩=false∧PpS w0 (w'.setCell ⟨b2,3,none⟩ (.bool false)) d l b m b2 R Ks fun _ _ _=>True:=by
 obtain ⟨P,s,L,ss,h1,_,h3⟩:=h;have h0:=h3
 have hc:Calls Tryz.prog 20 #[.pointer (some ⟨b,0,none⟩)] w fun e w'=>e=.returned (.tuple #[])∧PpM w0 w' b m b2 (.pointer (some ⟨d,0,none⟩)) (.pointer (some ⟨l,0,none⟩)) { P with held:=false } s L P ss R Ks:=h3.code fun S n B hq hlo=>(Let_any hq.pl).mono fun e w' ⟨e1,e2,e3⟩=>by
  have ho:=Onc.cell b w 3 (.bool false);have hbS:plS b m B b:=.inl rfl;refine ⟨e1,S,n,B,⟨?_,e2,hq.ap,hq.bud,⟨hq.ok.lt,hq.ok.n,hq.ok.h0,hq.ok.h1,hq.ok.m0,hq.ok.m1⟩,hq.cnt⟩,?_⟩
  · rw [e3];exact hq.cd.stays (fun q hqS=>ho.block q fun e=>hq.ap q hqS (by rw [e];exact hbS)) (Nat.le_of_eq ho.size.symm)
  · rw [e3];exact ⟨ho.os,ho.tape,ho.output,Nat.le_of_eq ho.size.symm,fun q hq2 hn=>ho.block q fun e=>hn (by rw [e];exact .inr hbS),fun q hq2=>.inl hq2⟩
 refine hc.mono ?_;rintro e w1 ⟨rfl,hm⟩;have hb:=hm.blk
 have hm2:=hm.cell (o:=3) (v:=.bool false) (Q':={ P with held:=false }) fun sv av la M hd=>⟨la,hd.held false⟩
 obtain ⟨S,n,B,sv,av,la,M,_,hd,_⟩:=hm;exact ⟨rfl,hb.2,hb.1,⟨_,hd.cells.2.2.2.1⟩,hd.blk.frozen 3,_,_,_,_,h1.lets,trivial,hm2⟩
theorem PpS.la (h:PpS w0 w d l b m b2 R Ks C) (n:Nat):(∃ x:Nat,w.cell? ⟨b2,4,none⟩=some (.int .u64 (x:Int)))∧w.frozen? ⟨b2,4,none⟩=false∧PpS w0 (w.setCell ⟨b2,4,none⟩ (.int .u64 (n:Int))) d l b m b2 R Ks C:=by
 obtain ⟨P,s,L,ss,h1,h2,h3⟩:=h
 have hm2:=h3.cell (o:=4) (v:=.int .u64 (n:Int)) (Q':=P) fun sv av la M hd=>⟨n,hd.lasts n⟩
 obtain ⟨S,n,B,sv,av,la,M,_,hd,_⟩:=h3;exact ⟨⟨_,hd.cells.2.2.2.2.1⟩,hd.blk.frozen 4,_,_,_,_,h1,h2,hm2⟩
structure PpL (w:World) (d l b b2:Nat) (xs:List Nat) (N:Nat) (hd:Bool) (n:Nat) (y:Bool) (la:Nat) (sg sc:Nat) (ss:List Sec):Prop where
 dC:∀ V,Gr w V→Calls Tryz.prog 22 #[.pointer (some ⟨b,0,none⟩)] V fun e w'=>RetLoose xs V e w'
 dD:∀ V,Gr w V→Calls Tryz.prog 23 #[.pointer (some ⟨b2,0,none⟩)] V fun e w'=>RetLoose xs V e w'
 fC:∀ V,Gr w V→Calls Tryz.prog 26 #[.pointer (some ⟨b,0,none⟩)] V fun e w'=>e=.returned (.tuple #[.int .u64 (n:Int),.bool y])∧Gr V w'
 fD:∀ V,Gr w V→Calls Tryz.prog 27 #[.pointer (some ⟨b2,0,none⟩)] V fun e w'=>e=.returned (.tuple #[.int .u64 (n:Int),.bool y])∧Gr V w'
 nC:∀ V,Gr w V→Calls Tryz.prog 24 #[.pointer (some ⟨b,0,none⟩)] V fun e w'=>e=.returned (.int .i64 (N:Int))∧V=w'
 hC:∀ V,Gr w V→Calls Tryz.prog 25 #[.pointer (some ⟨b,0,none⟩)] V fun e w'=>e=.returned (.bool hd)∧V=w'
 lC:∀ V,Gr w V→Calls Tryz.prog 21 #[.pointer (some ⟨l,0,none⟩)] V (RetU la V)
 cells:∀ V,Gr w V→V.cell? ⟨b2,0,none⟩=some (.slice (some ⟨sg,0,none⟩) 64 sc)∧(∃ pA cA,V.cell? ⟨b2,1,none⟩=some (.slice pA N cA))∧V.cell? ⟨b2,3,none⟩=some (.bool hd)
 sec:∀ V,Gr w V→∀ g,19≤g→g < 64→V.rangeAt sg (g*256) (ss.getD g Sec.zero).cells
 rd:∀ V,Gr w V→∀ g:Nat,19≤g→g < 64→Calls Tryz.prog 28 #[.pointer (some ⟨d,0,none⟩),.int .i64 (g:Int)] V fun e w'=>RetRead V w' e (ss.getD g Sec.zero) 0
 last:∀ g,19≤g→g < 64→lsnS (ss.getD g Sec.zero)≤la
 len:xs.length≤64∧N≤64
theorem PpS.looks (h:PpS w0 w d l b m b2 R Ks C):∃ xs N hd n y la sg sc ss,PpL w d l b b2 xs N hd n y la sg sc ss:=by
 obtain ⟨P,s,L,ss,h1,_,S,n,B,sv,av,la,M,hp,hd,_⟩:=h;have hcl:=h1.sm.cl h1.al;obtain ⟨sg,sc,rfl,-,-,-⟩:=hd.row.full (fun e=>by have:=h1.sm.len;rw [e] at this;cases this);obtain ⟨F,hdk,_⟩:=hp.cd.disk (w':=w);refine ⟨P.dirty,P.pages.length,P.held,P.least,!P.dirty.isEmpty,L.lasts,sg,sc,ss,fun V g=>Dirty_any (hp.gr g).pl hp.ok.hin,fun V g=>dDirty_any (hd.gr g) hp.ok.hin,fun V g=>First_any (hp.gr g).pl hp.ok.hin,fun V g=>dFirst_any (hd.gr g) hp.ok.hin hcl,fun V g=>Frames_any (hp.gr g).pl,fun V g=>Held_any (hp.gr g).pl,fun V g=>(hp.gr g).cd.Lasts,fun V g=>?_,fun V g j h19 h64=>?_,fun V g j h19 h64=>?_,fun j h19 h64=>h1.lasts h19 h64,Nat.le_trans (List.length_filter_le _ _) hp.ok.pages_len,hp.ok.pages_len⟩
 · have hc:=(hd.gr g).cells;have hlen:=hd.rl.len hp.ok.hin;have h64:=h1.sm.len;refine ⟨by rw [← h64];exact hc.1,?_,hc.2.2.2.1⟩;rw [hlen];obtain ⟨pA,cA,rfl⟩:=hd.all.shape;exact ⟨pA,cA,hc.2.1⟩
 ·
  have h64':=h1.sm.len;have h2:=(hd.gr g).row.lies j (by rw [h64'];exact h64)
  have h3:ss.getD j Sec.zero=ss[j]'(by rw [h64'];exact h64):=by simp [List.getD,h64',h64]
  rw [h3];exact h2
 · rw [h1.sm.eq j h19 h64];obtain ⟨F',hdk',_⟩:=(hp.gr g).cd.disk (w':=V);exact Read_yes V hdk' j (by rw [h1.al.ad.len];exact h64)
end
end Go.Proofs.YtdmhemgepdknhaaGreat
namespace Go.Proofs.YtdmhemgepdknhaaGreat
open Go.RowKit Go.Maps
section
variable {w:World} {F:Nat→Prop} {s:St}
set_option maxRecDepth 100000 in
set_option maxHeartbeats 1000000 in
theorem NewP_no {d l:Nat} (n:Int) (x:Bool) (hF:∀ W,Gr w W→Calls Tryz.prog 67 #[.pointer (some ⟨l,0,none⟩),.int .u64 0] W fun e w'=>e=.returned (.int .i64 0)∧Gr W w')
  (hd:Dk w F (.pointer (some ⟨d,0,none⟩)) s) (hs:0 < s.ls.length) (h1:¬ (8≤n∧n≤4096)) :
  Calls Tryz.prog 38 #[.pointer (some ⟨d,0,none⟩),.pointer (some ⟨l,0,none⟩),.int .i64 n,.bool x] w fun e w'=>e=.returned (.tuple #[.pointer none,.int .i64 2])∧Gr w w':=by
 have HF:=Lib.hid hF;have HS:=Lib.hid (fun W (g:Gr w W)=>Sectors_any W (hd.gr g));have e3:((s.ls.length:Int) == 0)=false:=beq_eq_false_iff_ne.2 (by omega);obtain ⟨N,hN⟩:∃ N,N=s.ls.length:=⟨_,rfl⟩
 rw [← hN] at HS e3
 clear hF hd hs hN
 go_enter Tryz.func38,Tryz.ntmps38
 by_cases h8:n < 8
 ·
  have e1:decide (n < 8)=true:=decide_eq_true h8;go_wp2_with fail;refine (HF.out _ (Gr.refl _)).mono ?_;rintro e w1 ⟨rfl,g1⟩;have HG:=Lib.hid g1;clear g1;go_wp2_with fail;refine (HS.out _ HG.out).mono ?_;rintro e w2 ⟨rfl,rfl⟩;go_wp2_with fail
  go_ret2
  exact ⟨rfl,HG.out⟩
 ·
  have e1:decide (n < 8)=false:=decide_eq_false h8;have e2:decide ((4096:Int) < n)=true:=decide_eq_true (by omega)
  have e2b:(4096:Int) < n:=by omega
  go_wp2_with fail;refine (HF.out _ (Gr.refl _)).mono ?_;rintro e w1 ⟨rfl,g1⟩;have HG:=Lib.hid g1;clear g1;go_wp2_with fail;refine (HS.out _ HG.out).mono ?_;rintro e w2 ⟨rfl,rfl⟩;go_wp2_with fail
  go_ret2
  exact ⟨rfl,HG.out⟩
end
set_option maxRecDepth 100000 in
set_option maxHeartbeats 1000000 in
theorem begin7_no (n:Int) (x:Bool) (w:World) (h1:¬ (8≤n∧n≤4096)):Calls Tryz.prog 9 #[.int .i64 n,.bool x] w fun e w'=>∃ d l,e=.returned (.tuple #[.pointer (some ⟨d,0,none⟩),.pointer (some ⟨l,0,none⟩),.pointer none,.bool false])∧Gr w w':=by
 have H12:=Lib.hid h1;clear h1
 go_enter Tryz.func9,Tryz.ntmps9
 go_wp2_with fail;refine (New_yes 64 _ ⟨by omega,by omega⟩).mono ?_;rintro e w1 ⟨d,F,rfl,hd,hg,hfar⟩;have HD1:=Lib.hid hd;have HG1:=Lib.hid hg
 obtain ⟨D,rfl⟩:∃ D,d=.pointer (some ⟨D,0,none⟩):=by
  obtain ⟨D,_,_,_,h,_⟩:=hd;exact ⟨D,h⟩
 clear hd hg hfar;go_wp2_with fail;refine (make64 w1).mono ?_;rintro e w2 ⟨rfl,g2⟩;have HG2:=Lib.hid g2;clear g2;go_wp2_with fail
 have HO:Hid (∀ W,Gr w2 W→Calls Tryz.prog 36 #[.pointer (some ⟨D,0,none⟩),.agg #[.int .i64 64,.int .i64 16,.int .i64 1],.int .u64 0,.int .u64 1] W (RetO1 (.pointer (some ⟨D,0,none⟩)) zeroD 1 0 W)):=Lib.hid fun W g=>open1_yes W (HD1.out.gr (Gr.trans HG2.out g)) (by simp [zeroD,fresh]) (by decide) (by decide) (by decide) opOk_begin
 have HG3:Hid (Gr w2 (w2.alloc (.cells #[.int .i64 64,.int .i64 16,.int .i64 1] 71))):=Lib.hid (Gr.new _ _);refine (HO.out _ HG3.out).mono ?_;rintro e w3 ⟨l,v,K,q,m,rfl,-,-,hlg,hlow,g3⟩
 rw [opL_begin] at hlg
 have HL:=Lib.hid hlg;have HG4:=Lib.hid g3
 have HNw:Hid (∀ W,Gr w3 W→Calls Tryz.prog 38 #[.pointer (some ⟨D,0,none⟩),.pointer (some ⟨l,0,none⟩),.int .i64 n,.bool x] W fun e w'=>e=.returned (.tuple #[.pointer none,.int .i64 2])∧Gr W w'):=Lib.hid fun W g=>NewP_no n x (fun V gV=>flush0_any V (HL.out.gr (Gr.trans g gV)) newL_ok.1) (HD1.out.gr (Gr.trans HG2.out (Gr.trans HG3.out (Gr.trans HG4.out g)))) (by simp [zeroD,fresh]) H12.out
 clear hlg hlow g3 HO;go_wp2_with fail;refine (HNw.out _ (Gr.refl _)).mono ?_;rintro e w4 ⟨rfl,g4⟩;have HG5:=Lib.hid g4;clear g4 HNw;go_wp2_with fail;refine bodyPost_ret_by (P:=Tryz.prog) (v:=.tuple #[.pointer (some ⟨D,0,none⟩),.pointer (some ⟨l,0,none⟩),.pointer none,.bool false]) (by simp [results,Tryz.results9]) rfl ?_;exact ⟨D,l,rfl,Gr.trans HG1.out (Gr.trans HG2.out (Gr.trans HG3.out (Gr.trans HG4.out HG5.out)))⟩
end Go.Proofs.YtdmhemgepdknhaaGreat
namespace Go.Proofs.YtdmhemgepdknhaaGreat
open Go.RowKit Go.Maps

end Go.Proofs.YtdmhemgepdknhaaGreat
namespace Go.Proofs.YtdmhemgepdknhaaGreat
open Go.RowKit Go.Maps

end Go.Proofs.YtdmhemgepdknhaaGreat
namespace Go.Proofs.YtdmhemgepdknhaaGreat
open Go.RowKit Go.Maps
section
variable {w0 w w':World} {d l b m b2:Nat} {R:Nat} {Ks:List (Nat × TypeId × Array Value)} {C C':St→Lg→List Sec→Prop}
theorem PpS.imp (h:PpS w0 w d l b m b2 R Ks C) (hc:∀ s L ss,C s L ss→C' s L ss):PpS w0 w d l b m b2 R Ks C':=by
 obtain ⟨P,s,L,ss,h1,h2,h3⟩:=h;exact ⟨P,s,L,ss,h1,hc _ _ _ h2,h3⟩
theorem PpM.newrow {pd pl:Value} {P Q:Pl} {s:St} {L:Lg} {ss:List Sec} (h:PpM w0 w b m b2 pd pl P s L Q ss R Ks) (cs0:Array Value) (ty:TypeId) (cs:Array Value):PpM w0 ((w.alloc (.cells cs0 ty)).setRow w.heap.size cs) b m b2 pd pl P s L Q ss R ((w.heap.size,ty,cs) :: Ks):=
 (h.box cs0 ty).row List.mem_cons_self cs fun x hx=>by
  rcases List.mem_cons.1 hx with rfl | hx
  · exact .inl rfl
  ·
   refine .inr ⟨List.mem_cons_of_mem _ hx,?_⟩;have:=(h.blk.1 x hx).lt
   omega
theorem PpS.newrow (h:PpS w0 w d l b m b2 R Ks C) (cs0:Array Value) (ty:TypeId) (cs:Array Value):PpS w0 ((w.alloc (.cells cs0 ty)).setRow w.heap.size cs) d l b m b2 R ((w.heap.size,ty,cs) :: Ks) C:=by
 obtain ⟨P,s,L,ss,h1,h2,h3⟩:=h;exact ⟨P,s,L,ss,h1,h2,h3.newrow cs0 ty cs⟩
theorem PpD.newrow {f:Nat} {args:Array Value} {v:Value} (h:PpD w0 w d l b m b2 R Ks f args v) (cs0:Array Value) (ty:TypeId) (cs:Array Value):PpD w0 ((w.alloc (.cells cs0 ty)).setRow w.heap.size cs) d l b m b2 R ((w.heap.size,ty,cs) :: Ks) f args v:=by
 obtain ⟨P,s,L,Q,ss,h1,h2⟩:=h;exact ⟨P,s,L,Q,ss,h1.newrow cs0 ty cs,h2⟩
theorem PpS.get2 {i:Int} (h:PpS w0 w d l b m b2 R Ks C) (hR:200≤R) (hi:i < 0∨19≤i):Calls Tryz.prog 11 #[.pointer (some ⟨b,0,none⟩),.int .i64 i] w fun e w'=>∃ (x:PSec) (y:Nat) (z:Int),e=.returned (.tuple #[.agg (Psec x),.int .u64 (y:Int),.int .i64 z])∧PpD w0 w' d l b m b2 (R - 200) Ks 12 #[.pointer (some ⟨b2,0,none⟩),.int .i64 i] (.tuple #[.agg (Psec x),.int .u64 (y:Int),.int .i64 z]):=by
 refine (h.get hR hi).mono ?_;rintro e w' ⟨x,rfl,k⟩;exact ⟨x.1,x.2.1,x.2.2,rfl,k⟩
end
theorem Ints.rows {w:World} {base:Nat} {v:Value} {xs:List Nat} (h:Ints w base v xs):∃ p c,v=.slice p xs.length c∧∀ V,Gr w V→∀ j,j < xs.length→∃ g,p=some ⟨g,0,none⟩∧V.cell? ⟨g,j,none⟩=some (.int .i64 ((xs.getD j 0:Nat):Int)):=by
 rcases h.2 with ⟨h1,h0⟩ | ⟨g,cap,cur,h1,hb,hg,hn,hm,hsz,ht⟩
 · subst h1;have:xs=[]:=List.eq_nil_of_length_eq_zero (by simpa using h0);subst this;exact ⟨none,0,rfl,fun V _ j hj=>absurd hj (by simp)⟩
 ·
  subst h1;refine ⟨_,cap,by simp,fun V gV j hj=>⟨g,rfl,?_⟩⟩
  have h2:Ints w base (.slice (some ⟨g,0,none⟩) xs.length cap) xs:=by simpa using h
  exact (h2.gr gV).cellAt j hj
end Go.Proofs.YtdmhemgepdknhaaGreat
