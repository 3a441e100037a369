/-
  Part 11 of what the laws of stage 6 rest on: contracts of the functions that they call, and what these rest on.
-/
import Derived.StillTailTactics
import Derived.Test.YtlijbgapkmfnaaaGreatW1
import Derived.Test.YtlijbgapkmfnaaaGreatW4
import Derived.Test.YtlijbgapkmfnaaaGreatW5
import Derived.Test.YtlijbgapkmfnaaaGreatW7
import Derived.Test.YtlijbgapkmfnaaaGreatW8
import Derived.Test.YtlijbgapkmfnaaaGreatW9
import Derived.Test.YtlijbgapkmfnaaaGreatW10
set_option linter.unusedVariables false
set_option linter.unusedSimpArgs false
namespace Go.Proofs.YtlijbgapkmfnaaaGreat
open Go.RowKit Go.Maps Go.Shelf Cr
attribute [local go_sem] Oper.semAt_some
theorem OwnR.held {α:Type} {S:Shp α} {w w':World} {base:Nat} {T:TypeId} {v:Value} {L:List α} (h:OwnR S w base T v L) (g:HoldS Obj.isCells (fun _=>True) w w'):OwnR S w' base T v L:=by
 refine ⟨⟨h.row.1,?_⟩,fun x hx s hs=>⟨(h.each x hx s hs).1.held (fun _ h=>h) g (fun _ _=>trivial),(h.each x hx s hs).2⟩⟩
 rcases h.row.2 with h2 | ⟨b,cap,cur,e,h0,hg,r⟩
 · exact .inl h2
 · exact .inr ⟨b,cap,cur,e,h0,g.same b _ trivial hg rfl,r⟩
theorem OwnB.held {w w':World} {base tB:Nat} {v:Value} {xs:List Int} (h:OwnB w base tB v xs) (g:HoldS Obj.isCells (fun _=>True) w w'):OwnB w' base tB v xs:=by
 refine ⟨⟨h.row.1,?_⟩,h.small⟩
 rcases h.row.2 with h2 | ⟨b,cap,cur,e,h0,hg,r⟩
 · exact .inl h2
 · exact .inr ⟨b,cap,cur,e,h0,g.same b _ trivial hg rfl,r⟩
theorem RX.Good.held {x:RX} {W W':World} (h:x.Good W) (g:HoldS Obj.isCells (fun _=>True) W W'):x.Good W':=⟨h.b.held g,h.a.held g,h.e,h.i⟩
theorem RX.Good.gr {x:RX} {W W':World} (h:x.Good W) (g:Gr W W'):x.Good W':=⟨h.b.below' g,h.a.below' g,h.e,h.i⟩
abbrev TLd:TypeId:=76
abbrev TLds:TypeId:=58
def ShL:Shp (Nat × RX) where
 k:=10
 cs y:=[.int .u64 y.1,.int .u64 y.2.e,.int .i64 y.2.c.k,.int .u64 y.2.c.t,.int .u64 y.2.c.p,.int .u64 y.2.c.x,.int .i64 y.2.c.g,.int .i64 y.2.c.o,.slice y.2.pb y.2.nb y.2.cb,.slice y.2.pa y.2.na y.2.ca]
 sl y:=[⟨y.2.pb,y.2.nb,y.2.cb,y.2.c.b⟩,⟨y.2.pa,y.2.na,y.2.ca,y.2.c.a⟩]
 kpos:=by omega
 len _:=rfl
 one x:=by
  intro u hu
  simp only [List.mem_cons,List.not_mem_nil,or_false] at hu
  rcases hu with rfl | rfl | rfl | rfl | rfl | rfl | rfl | rfl | rfl | rfl <;> rfl
theorem info_lgd:(Tryz.prog.info? TLd).map (fun i=>(i.zero,i.size,i.bytes))=some (some (.agg #[.int .u64 0,.int .u64 0,.int .i64 0,.int .u64 0,.int .u64 0,.int .u64 0,.int .i64 0,.int .i64 0,.slice none 0 0,.slice none 0 0]),10,112):=by kernel_rfl
def logX:Nat→List RX→List (Nat × RX)
 | _,[]=>[]
 | a,x :: r=>(a,x) :: logX x.e r
def endX (a:Nat) (l:List RX):Nat:=endL a (l.map RX.two)
theorem endX_snoc (a:Nat) (l:List RX) (x:RX):endX a (l++[x])=x.e:=by
 unfold endX
 rw [List.map_append];exact endL_snoc _ _ _
theorem logX_snoc:∀ (a:Nat) (l:List RX) (x:RX),logX a (l++[x])=logX a l++[(endX a l,x)]
 | _,[],_=>rfl
 | a,y :: l,x=>by
  simp only [List.cons_append,logX]
  rw [logX_snoc y.e l x]
  rfl
def LX3 (y:Nat × RX):Nat × Nat × Rc:=(y.1,y.2.e,y.2.c)
theorem logX_T:∀ (a:Nat) (l:List RX),(logX a l).map LX3=logT a (l.map RX.two)
 | _,[]=>rfl
 | a,x :: l=>by
  simp only [logX,List.map_cons,logT]
  rw [logX_T x.e l]
  rfl
theorem logX_len:∀ (a:Nat) (l:List RX),(logX a l).length=l.length
 | _,[]=>rfl
 | a,x :: l=>by simp only [logX,List.length_cons,logX_len x.e l]
theorem rows_apart {w:World} {B B' T T' k k' n n':Nat} {v v':Value} {xs xs':List Value} (h:w.ownsRow B T k v n xs) (h':w.ownsRow B' T' k' v' n' xs') (ne:T≠T'):∀ g,v.ownBlock=some g→v'.ownBlock≠some g:=fun g e1 e2=>by
 rcases h.2 with ⟨rfl,_⟩ | ⟨b,cap,cur,rfl,_,hg,_⟩
 · simp [Value.ownBlock] at e1
 ·
  rcases h'.2 with ⟨rfl,_⟩ | ⟨b',cap',cur',rfl,_,hg',_⟩
  · simp [Value.ownBlock] at e2
  ·
   have q1:b=g:=by simpa [Value.ownBlock] using e1
   have q2:b'=g:=by simpa [Value.ownBlock] using e2
   rw [q1] at hg
   rw [q2,hg] at hg'
   simp only [Option.some.injEq,Obj.cells.injEq] at hg'
   exact ne hg'.2.1
theorem own_some {w:World} {B T k n:Nat} {p:Option Addr} {m c:Nat} {xs:List Value} (h:w.ownsRow B T k (.slice p m c) n xs):∀ y,p=some y→(Value.slice p m c).ownBlock=some y.block:=fun y hy=>by
 rcases h.2 with ⟨h0,_⟩ | ⟨b,cap,cur,h0,_⟩
 · cases h0;cases hy
 · cases h0;cases hy;rfl
theorem Byt.not_blk {w:World} {p:Option Addr} {n c:Nat} {xs:List Int} (h:Byt w p n c xs) (hn:0 < n) {b:Nat} {t:TypeId} {cs:Array Value} (hb:Blk w b t cs) (hc:∀ v ∈ cs.toList,∀ i,v≠.int .u8 i):∀ y,p=some y→y.block≠b:=by
 intro y hy e
 obtain ⟨b2,o,e2,hcell⟩:=h.at hn
 rw [hy] at e2
 cases e2
 have e3:b2=b:=e;subst e3;have h1:=hcell 0 hn
 rw [hb.cell] at h1
 exact hc _ (Array.mem_toList_iff.2 (Array.mem_of_getElem? h1)) _ rfl
theorem grown_only {w w':World} {g:Nat} (o:Only g w w'):w.grownBy w' (some g):=⟨o.os,o.tape,o.output,Nat.le_of_eq o.size.symm,fun k _ hk=>o.block k (fun e=>hk (by rw [e]))⟩
theorem OwnR.cell {α:Type} {S:Shp α} {w:World} {X:Nat} {T:TypeId} {v:Value} {L:List α} {g:Nat} {t:TypeId} {cs:Array Value} (h:OwnR S w X T v L) (hb:Blk w g t cs) (hg:g < X) (hc:∀ u ∈ cs.toList,∀ i,u≠.int .u8 i) (i:Nat) (u':Value):OwnR S (w.setCell ⟨g,i,none⟩ u') X T v L:=
 h.grown (grown_only (Only.cell g i w u')) (by
  cases e:v.ownBlock with
  | none=>exact .inl rfl
  | some j=>
   refine .inr fun e2=>?_
   have h1:=(h.row.lt j e).1;have h2:j=g:=Option.some.inj e2
   omega) (fun x hx s hs h0 y hy e=>(h.each x hx s hs).1.not_blk h0 hb hc y hy (Option.some.inj e).symm)
theorem wp_app_row {α:Type} (S:Shp α) {P:Program} {tS T:TypeId} {zero:Value} {bytes:Nat} (us:P.underlying tS=some (.slice T)) (info:(P.info? T).map (fun i=>(i.zero,i.size,i.bytes))=some (some zero,S.k,bytes)) (hz:zero.cells.size=S.k)
  {w:World} {o:Oper} {a:Act} {K:Act→World→Prop} {Q:Exit→Act→World→Prop} (s x:Operand)
  (ho:o.op=.call { callee:=.builtin .append,args:=#[s,x],argTypes:=#[tS,tS] }) (base:Nat) (v:Value) (L:List α) (hs:a.eval s=v) (hown:OwnR S w base T v L)
  (q:Nat) (hx:a.eval x=.slice (some ⟨q,0,none⟩) 1 1) (y:α) (hq:∀ j,j < S.k→w.cell? ⟨q,j,none⟩=(S.cs y)[j]?) (hy:∀ s ∈ S.sl y,s.In w v) (hlen:(L.length+1)*bytes≤140737488355328) (hl2:L.length+1≤100000000000) (hbase:base≤w.heap.size)
  (h:∀ v' w',OwnR S w' base T v' (L++[y])→w.grownBy w' v.ownBlock→(v'.ownBlock=v.ownBlock∨v'.ownBlock=some w.heap.size)→K (a.put o.dst v') w'):Oper.wp P o a w K Q:=by
 obtain ⟨i,hi,hz0,hz1,hz2⟩:=info_parts info
 have hnews:∀ j u,(S.cs y)[j]?=some u→w.cell? ((⟨q,0,none⟩:Addr).add j)=some u:=by
  intro j u hj
  have hlt:j < S.k:=by rw [← S.len y];exact (List.getElem?_eq_some_iff.1 hj).1
  rw [Addr.add_lit,Nat.zero_add,hq j hlt,hj]
 obtain ⟨v',w',hrun,h1,h2,_,h3⟩:=run_append_own_at (P:=P) w base tS o.type T i zero S.k bytes us hi hz0 hz1 hz2 hz S.kpos v L.length _ hown.row ⟨q,0,none⟩ 1 1 (S.cs y) (by rw [S.len,Nat.one_mul]) hnews (S.one y) (by unfold maxLen;omega) hlen hbase
 unfold Oper.wp execOp
 simp only [ho,resolve,invoke,builtin,Sem.run_bind,Sem.run_pure,Result.andThen_ok,List.map_toArray,List.map_cons,List.map_nil,hs,hx,hrun]
 have apart:∀ z:Sl,z.In w v→z.In w' v':=fun z hz=>⟨hz.1.grown h2 hz.2,fun h0 p hp=>by
  rcases h3 with h3 | h3
  · rw [h3];exact hz.2 h0 p hp
  ·
   rw [h3]
   obtain ⟨b,off,e,hc⟩:=hz.1.at h0
   rw [e] at hp
   cases hp
   have hlt:b < w.heap.size:=blk_lt (hc 0 h0)
   intro e2
   have e3:w.heap.size=b:=Option.some.inj e2
   omega⟩
 refine h v' w' ⟨?_,fun z hz sl hsl=>?_⟩ h2 h3
 · rw [S.flat_snoc,List.length_append];exact h1
 ·
  rcases List.mem_append.1 hz with hz | hz
  · exact apart sl (hown.each z hz sl hsl)
  · obtain rfl:=List.mem_singleton.1 hz;exact apart sl (hy sl hsl)
theorem wpListIn_app_row {α:Type} (S:Shp α) {l n:Nat} {P:Program} {tS T:TypeId} {zero:Value} {bytes:Nat} (us:P.underlying tS=some (.slice T)) (info:(P.info? T).map (fun i=>(i.zero,i.size,i.bytes))=some (some zero,S.k,bytes)) (hz:zero.cells.size=S.k)
  {w:World} {ops:Array Oper} {rest:List Oper} {o:Oper} {a:Act} {Q:Exit→Act→World→Prop} (hgd:o.guard=none) (s x:Operand)
  (ho:o.op=.call { callee:=.builtin .append,args:=#[s,x],argTypes:=#[tS,tS] }) (base:Nat) (v:Value) (L:List α) (hs:a.eval s=v) (hown:OwnR S w base T v L)
  (q:Nat) (hx:a.eval x=.slice (some ⟨q,0,none⟩) 1 1) (y:α) (hq:∀ j,j < S.k→w.cell? ⟨q,j,none⟩=(S.cs y)[j]?) (hy:∀ s ∈ S.sl y,s.In w v) (hlen:(L.length+1)*bytes≤140737488355328) (hl2:L.length+1≤100000000000) (hbase:base≤w.heap.size)
  (h:∀ v' w',OwnR S w' base T v' (L++[y])→w.grownBy w' v.ownBlock→(v'.ownBlock=v.ownBlock∨v'.ownBlock=some w.heap.size)→wpListIn (Fence.wide.inRound l) n P ops Q rest (a.put o.dst v') w'):wpListIn (Fence.wide.inRound l) n P ops Q (o :: rest) a w:=
 wpListIn_plain hgd fun K hK=>Flow.oper_in (fun c e=>by rw [ho] at e;cases e) (wp_app_row S us info hz s x ho base v L hs hown q hx y hq hy hlen hl2 hbase fun v' w' h1 h2 h3=>hK _ _ (h v' w' h1 h2 h3))
structure TkAt (w1:World) (R0 X tl:Nat) (pre:List RX) (V:World):Prop where
 gr:Gr w1 V
 rows:∃ rv,Blk V R0 TLds #[rv]∧OwnR ShL V X TLd rv (logX tl pre)
 eb:Blk V (R0+1) TU #[.int .u64 (endX tl pre:Int)]
 sz:X≤V.heap.size
theorem TkAt.held {w1:World} {R0 X tl:Nat} {pre:List RX} {V V':World} (h:TkAt w1 R0 X tl pre V) (g:Gr w1 V') (s:HoldS Obj.isCells (fun _=>True) V V'):TkAt w1 R0 X tl pre V':=by
 obtain ⟨rv,h1,h2⟩:=h.rows;exact ⟨g,⟨rv,h1.held s,h2.held s⟩,h.eb.held s,Nat.le_trans h.sz s.size⟩
theorem TkAt.up {w1:World} {R0 X tl:Nat} {pre:List RX} {V V':World} (h:TkAt w1 R0 X tl pre V) (g:Gr V V'):TkAt w1 R0 X tl pre V':=by
 obtain ⟨rv,h1,h2⟩:=h.rows;exact ⟨Gr.trans h.gr g,⟨rv,h1.gr g,h2.gr g⟩,h.eb.gr g,Nat.le_trans h.sz g.size⟩
theorem tkAt_own {w1:World} {R0 X tl B:Nat} (hB:w1.heap.size≤B):OwnFrom B (fun pre V=>TkAt w1 R0 X tl pre V):=fun s V W row hs hg hr=>
 hs.held (Below.grown hs.gr hg hs.gr.size (fun k e=>by have:=(hr k e).1;omega)) (hold_grown hg (fun r e=>(hr r e).2))
def RetTk (b:Nat) (p:Value) (s:St) (n l g:Int) (ep tl:Nat) (w:World) (e:Ending) (w':World):Prop:=
 (opOk s l.toNat ep tl=false∧e=.returned (.tuple #[.slice none 0 0,.int .i64 4])∧Gr w w') ∨
 (opOk s l.toNat ep tl=true∧∃ v L q m,e=.returned (.tuple #[v,.int .i64 0])∧OwnR ShL w' w.heap.size TLd v L∧L.map LX3=logT tl (opX s l.toNat ep tl)∧LgAt w' b p q m m (opL s n l g ep tl)∧Upd (fun k=>k=b) (lgS b q) w w')
set_option maxRecDepth 100000 in
set_option maxHeartbeats 4000000 in
theorem wread_any {F:Nat→Prop} {s:St} (D b:Nat) (p:Value) (n l g:Int) (ep tl:Nat) (w:World) (h:Blk w b TLg #[p,.int .i64 n,.int .i64 l,.int .i64 g,.int .u64 ep,.int .u64 tl,.int .u64 0,.slice none 0 0,.int .i64 0,.bool false]) (hp:p=.pointer (some ⟨D,0,none⟩)) (hd:Dk w F p s) (hm:mayL n l g=true) (hl:l≤80) (ht:tl≤4611686018427387904) (he:1≤ep) (he2:ep≤4611686018427387904) (hn:3+l≤s.ls.length) :
  Calls Tryz.prog 73 #[.pointer (some ⟨b,0,none⟩)] w (RetTk b p s n l g ep tl w):=by
 have HB:=Lib.hid h;have hin:=may_in hm;obtain ⟨xs,hxs⟩:∃ xs,xs=opB s l.toNat ep tl:=⟨_,rfl⟩;obtain ⟨A,hA⟩:∃ A,A=tl % 232:=⟨_,rfl⟩;obtain ⟨N,hN⟩:∃ N,N=xs.length:=⟨_,rfl⟩
 have hN2:N≤18560:=by rw [hN,hxs];have:=(opB_len s l.toNat ep tl).1;omega
 have HFo:Hid (Calls Tryz.prog 86 #[.pointer (some ⟨b,0,none⟩)] w (RetOwn 5 xs w)):=Lib.hid (by rw [hxs];exact wfound_any D b p n l g ep tl 0 none 0 0 0 false w h hp hd hm (by omega) he (by omega) hn)
 have HAh:Hid (∀ W,Calls Tryz.prog 60 #[.int .u64 (tl:Int)] W fun e w'=>e=.returned (.int .i64 (A:Int))∧W=w'):=Lib.hid fun W=>by rw [hA];exact ahead_any _ W (by omega)
 have HX:=Lib.hid hxs;have HAe:=Lib.hid hA;have HNe:=Lib.hid hN;have HP:=Lib.hid hp;have HOk:Hid (opOk s l.toNat ep tl=decide (A≤N)):=Lib.hid (by unfold opOk;rw [hA,hN,hxs]);have HPar:Hid (mayL n l g=true∧ep≤4611686018427387904∧tl≤4611686018427387904∧1≤ep):=Lib.hid ⟨hm,he2,ht,he⟩
 have hA2:A < 232:=by omega
 clear h hd hm hn hxs hA hN hin hp hl he he2;refine (callsIn_wide (n:=8)).1 ?_;refine callsIn_of_wp_marks Tryz.func73 rfl trivial ?_ rfl
 simp only [Tryz.ntmps73,List.size_toArray,List.length_cons,List.length_nil,Nat.reduceAdd,Nat.reduceSub,Array.replicate_succ,Array.replicate_zero,List.push_toArray,List.append_toArray,List.nil_append,List.cons_append]
 gi_wp2_with fail
 refine ⟨trivial,?_⟩;refine (callsIn_wide.2 HFo.out).mono ?_;rintro e w1 ⟨v,rfl,ho,g1⟩;obtain ⟨p1,c1,rfl⟩:=ho.shape N HNe.out.symm;have HC5:=Lib.hid (fun W (gr:Gr w1 W)=>(HB.out.gr (Gr.trans g1 gr)).c10.2.2.2.2.2.1);have c5:=HC5.out w1 (Gr.refl _);have HO:=Lib.hid ho;have HG1:=Lib.hid g1;clear ho g1 HFo
 gi_wp2_with fail
 refine ⟨trivial,?_⟩;refine (callsIn_wide.2 (HAh.out w1)).mono ?_;rintro e w2 ⟨rfl,rfl⟩
 by_cases hlt:N < A
 ·
  have hlt':(N:Int) < (A:Int):=by omega
  gi_wp2_with fail
  refine ⟨.tuple #[.slice none 0 0,.int .i64 4],by simp [results,Tryz.results73],.inl ⟨?_,rfl,HG1.out⟩⟩;rw [HOk.out];exact decide_eq_false (by omega)
 ·
  have hlt':¬ (N:Int) < (A:Int):=by omega
  have c5:=HC5.out (w1.alloc (.cells #[.slice none 0 0] 58)) (Gr.new _ _);have b2:=Blk.new w1 TLds #[.slice none 0 0];have b3:=Blk.new (w1.alloc (.cells #[.slice none 0 0] TLds)) TU #[.int .u64 (tl:Int)]
  simp only [World.size_alloc] at b3
  obtain ⟨W3,hW3⟩:∃ W3,W3=(w1.alloc (.cells #[.slice none 0 0] TLds)).alloc (.cells #[.int .u64 (tl:Int)] TU):=⟨_,rfl⟩
  have g3:Gr w1 W3:=by rw [hW3];exact Gr.trans (Gr.new _ _) (Gr.new _ _)
  have HT3:Hid (Gr w1 W3∧Blk W3 w1.heap.size TLds #[.slice none 0 0]∧Blk W3 (w1.heap.size+1) TU #[.int .u64 (tl:Int)]):=Lib.hid ⟨g3,by rw [hW3];exact b2.alloc _,by rw [hW3];exact b3⟩;have HW3:Hid ((w1.alloc (.cells #[.slice none 0 0] 58)).alloc (.cells #[.int .u64 (tl:Int)] 30)=W3):=Lib.hid hW3.symm;have HS3:Hid (W3.heap.size=w1.heap.size+1+1):=Lib.hid (by rw [hW3];simp);clear b2 b3 hW3
  gi_wp2_with fail
  rw [HW3.out];obtain ⟨q,hcut,hof⟩:=cut_l (p:=p1) (n:=N) (c:=c1) A (by omega) HO.out.byt.1.cap;obtain ⟨M,hM⟩:∃ M,M=N - A:=⟨_,rfl⟩;obtain ⟨C,hC⟩:∃ C,C=c1 - A:=⟨_,rfl⟩
  have HY:Hid (∀ W,Gr w1 W→Byt W q M C (xs.drop A)):=Lib.hid fun W g=>by
   have h:=hof.byt W xs (HO.out.byt.1.kept g)
   rwa [drop_take_all HNe.out.symm,← hM,← hC] at h
  rw [← hM,← hC] at hcut
  have hM2:M≤18560:=by omega
  have HAll:=Lib.hid (fun W (g:Gr w1 W)=>all_any q M C (xs.drop A) tl W (HY.out W g) (by omega));have HMC:Hid (M=N - A∧A≤N):=Lib.hid ⟨hM,by omega⟩;clear hof hM hC c5 hlt;have c5:W3.cell? ⟨b,5,none⟩=some (.int .u64 (tl:Int)):=HC5.out W3 HT3.out.1;refine wpIn_wide.2 ?_
  go_still_tail 7,(by kernel_rfl)
  change wpList _ _ _ _ _ W3.drew
  have gd:Gr w1 W3.drew:=HT3.out.1.drew;have HTd:Hid (Gr w1 W3.drew∧Blk W3.drew w1.heap.size TLds #[.slice none 0 0]∧Blk W3.drew (w1.heap.size+1) TU #[.int .u64 (tl:Int)]):=Lib.hid ⟨gd,HT3.out.2.1.heap rfl,HT3.out.2.2.heap rfl⟩;have HSd:Hid (W3.drew.heap.size=w1.heap.size+1+1):=Lib.hid HS3.out;have HCa:=Lib.hid (HAll.out W3.drew gd)
  generalize W3.drew=W4 at HTd HSd HCa gd ⊢
  clear HT3 HS3 HW3 HAll c5 gd hcut;go_wp2_with fail;refine HCa.out.mono ?_;rintro e W5 ⟨q5,m5,d5,rfl,hA5,hq5,g5⟩;have HT5:Hid (TkAt w1 w1.heap.size W5.heap.size tl [] W5):=Lib.hid ⟨Gr.trans HTd.out.1 g5,⟨_,HTd.out.2.1.gr g5,⟨World.ownsRow_nil _ _ _ _,fun _ h=>by cases h⟩⟩,HTd.out.2.2.gr g5,Nat.le_refl _⟩;have HAt:=Lib.hid hA5;obtain ⟨B4,hB4⟩:∃ B4,B4=W4.heap.size:=⟨_,rfl⟩;have HS5:Hid (B4=w1.heap.size+1+1∧B4+1 < W5.heap.size):=Lib.hid ⟨hB4.trans HSd.out,by rw [hB4];exact hA5.a.lt⟩
  have hm5:m5≤18560:=by have h1:=hA5.y.len;rw [List.length_drop] at h1;have h2:=HNe.out;omega
  rw [← hB4] at HAt ⊢
  have HQ5:Hid (∀ y,q5=some y→B4+1 < y.block):=Lib.hid (by rw [hB4];exact hq5);clear hA5 hq5 HTd HSd HCa g5 hB4
  have he:Sem.run Tryz.prog (binOp .eql 141 (.func (.func 103) #[] #[.pointer (some ⟨B4,0,none⟩),.pointer (some ⟨B4+1,0,none⟩)]) .nilFunc) W5=.ok (.bool false) W5:=by
   have hu:Tryz.prog.underlying 141=some (.func #[153] #[] false):=by kernel_rfl
   have h:∀ D:Nat,(Op.equalIn (D+1) 141 (.func (.func 103) #[] #[.pointer (some ⟨B4,0,none⟩),.pointer (some ⟨B4+1,0,none⟩)]) .nilFunc).run Tryz.prog W5=.ok false W5:=fun D=>by simp [Op.equalIn,run_underlying hu]
   simp [binOp,Op.equal,Op.maxDepth,h 9999]
  go_wp2_with fail
  gi_wp2_with fail
  refine wpIn_range_toldF (F:=Fence.wide) rfl (by omega) (gf:=103) (lb:=#[.pointer (some ⟨B4,0,none⟩),.pointer (some ⟨B4+1,0,none⟩)]) rfl trivial (enters_of Tryz.func103 (by kernel_rfl) rfl)
   (all1_told 7 (by omega) B4 (B4+1) q5 m5 d5 (xs.drop A) tl W5 HAt.out (by omega) (by omega)).keeps (Below.refl _ _) (fun _=>rfl)
   (fun pre V=>TkAt w1 w1.heap.size W5.heap.size tl pre V) (fun _ _=>False) (tkAt_own HT5.out.gr.size) (fun _ _ _ _ h=>h.elim) HT5.out
   (fun tm x (R:Nat)=>(((tm.setIfInBounds 33 (.int .u64 x.e)).setIfInBounds 34 x.agg).setIfInBounds 8 (.int .u64 x.e)).setIfInBounds 9 (.pointer (some ⟨R,0,none⟩)))
   (fun pre x R V=>x.Good V∧(∃ zs,(pre++[x]).map RX.two++zs=allL (xs.drop A) tl)∧Blk V R TR #[.int .i64 x.c.k,.int .u64 x.c.t,.int .u64 x.c.p,.int .u64 x.c.x,.int .i64 x.c.g,.int .i64 x.c.o,.slice x.pb x.nb x.cb,.slice x.pa x.na x.ca]) ?hBx ?assign ?body ?done ?stop
  case stop=>
   rintro D2 pre V hD2 _ h _;exact h.elim
  case hBx=>
   rintro pre x R z U V row ⟨h1,h2,h3⟩ hg hr;have hh:=hold_grown hg (fun r e=>(hr r e).2);exact ⟨h1.held hh,h2,h3.held hh⟩
  case assign=>
   rintro l2 pre x V K' hi ⟨hgood,hpre⟩ hK
   simp only [List.setIfInBounds_toArray,List.set_cons_succ,List.set_cons_zero] at hK
   dsimp only [RX.encs,RX.agg]
   gi_wp2_with fail
   have gn:=(Gr.refl V).alloc (Nat.le_refl _) (.cells #[.int .i64 x.c.k,.int .u64 x.c.t,.int .u64 x.c.p,.int .u64 x.c.x,.int .i64 x.c.g,.int .i64 x.c.o,.slice x.pb x.nb x.cb,.slice x.pa x.na x.ca] TR);exact hK V.heap.size _ ((KeepsOthers.alloc _ _).from _) (Gr.hold gn) (hi.up gn) ⟨hgood.gr gn,hpre,Blk.new V TR _⟩
  case body=>
   rintro l2 pre x R W8 hlw hi ⟨hgood,⟨zs,hz⟩,hbR⟩
   simp only [List.setIfInBounds_toArray,List.set_cons_succ,List.set_cons_zero]
   obtain ⟨rv,hb6,hown⟩:=hi.rows
   have hxl:0 < m5:=by
    rcases Nat.eq_zero_or_pos m5 with h0 | h0
    ·
     have h1:=HAt.out.y.len
     rw [h0] at h1
     rw [List.eq_nil_of_length_eq_zero h1,allL_no (ofB_short (by simp))] at hz
     simp at hz
    · exact h0
   have hpl:pre.length≤18560:=by
    have h1:=congrArg List.length hz;have h2:=allL_len _ (xs.drop A) tl (Nat.le_refl _);have h3:=HAt.out.y.len
    simp only [List.length_append,List.length_map,List.length_singleton] at h1
    omega
   obtain ⟨e9,⟨ck,ct,cp,cx,cg,co,xb,xa⟩,pb,nb,cb,pa,na,ca⟩:=x;obtain ⟨E0,hE0⟩:∃ E0,E0=endX tl pre:=⟨_,rfl⟩;have n7:=hi.eb.cell 0
   rw [← hE0] at n7
   have n6:=hb6.cell 0;obtain ⟨r0,r1,r2,r3,r4,r5,r6,r7⟩:=hbR.c8
   simp at n6 n7
   have hq0:=Blk.new W8 TLd #[.int .u64 (E0:Int),.int .u64 (e9:Int),.int .i64 ck,.int .u64 ct,.int .u64 cp,.int .u64 cx,.int .i64 cg,.int .i64 co,.slice pb nb cb,.slice pa na ca];have gq:=Gr.new W8 (.cells #[.int .u64 (E0:Int),.int .u64 (e9:Int),.int .i64 ck,.int .u64 ct,.int .u64 cp,.int .u64 cx,.int .i64 cg,.int .i64 co,.slice pb nb cb,.slice pa na ca] TLd);obtain ⟨W9,hW9⟩:∃ W9,W9=W8.alloc (.cells #[.int .u64 (E0:Int),.int .u64 (e9:Int),.int .i64 ck,.int .u64 ct,.int .u64 cp,.int .u64 cx,.int .i64 cg,.int .i64 co,.slice pb nb cb,.slice pa na ca] TLd):=⟨_,rfl⟩
   rw [← hW9] at hq0 gq
   have HW9:Hid (W8.alloc (.cells #[.int .u64 (E0:Int),.int .u64 (e9:Int),.int .i64 ck,.int .u64 ct,.int .u64 cp,.int .u64 cx,.int .i64 cg,.int .i64 co,.slice pb nb cb,.slice pa na ca] 76)=W9):=Lib.hid hW9.symm
   have hsz9:W8.heap.size < W9.heap.size:=by rw [hW9];simp
   have HO9:=Lib.hid (hown.gr gq)
   have HQ:Hid (∀ j,j < ShL.k→W9.cell? ⟨W8.heap.size,j,none⟩=(ShL.cs (E0,⟨e9,⟨ck,ct,cp,cx,cg,co,xb,xa⟩,pb,nb,cb,pa,na,ca⟩))[j]?):=Lib.hid fun j _=>by
    rw [hq0.cell j]
    simp [ShL]
   have HIn:Hid (∀ s ∈ ShL.sl (E0,⟨e9,⟨ck,ct,cp,cx,cg,co,xb,xa⟩,pb,nb,cb,pa,na,ca⟩),s.In W9 rv):=Lib.hid fun s hs=>by
    have hrow:∀ (q:Option Addr) (m d:Nat) (zs:List Int),OwnB W8 0 5 (.slice q m d) zs→(⟨q,m,d,zs⟩:Sl).In W9 rv:=fun q m d zs ho=>by
     obtain ⟨hy,rfl⟩:=ho.byt;exact ⟨hy.kept gq,fun h0 y hy2 e2=>rows_apart ho.row hown.row (by decide) y.block (own_some ho.row y hy2) e2⟩
    simp only [ShL,List.mem_cons,List.not_mem_nil,or_false] at hs
    rcases hs with rfl | rfl
    · exact hrow _ _ _ _ hgood.b
    · exact hrow _ _ _ _ hgood.a
   obtain ⟨LL,hLL⟩:∃ LL,LL=(logX tl pre).length:=⟨_,rfl⟩;have HLen:Hid ((logX tl pre).length≤18560∧(logX tl pre).length=LL∧logX tl (pre++[⟨e9,⟨ck,ct,cp,cx,cg,co,xb,xa⟩,pb,nb,cb,pa,na,ca⟩])=logX tl pre++[(E0,⟨e9,⟨ck,ct,cp,cx,cg,co,xb,xa⟩,pb,nb,cb,pa,na,ca⟩)]):=Lib.hid ⟨by rw [logX_len];exact hpl,hLL.symm,by rw [logX_snoc,hE0]⟩;have HI:=Lib.hid hi;have HB6:=Lib.hid hb6;have HX9:Hid (W5.heap.size≤W9.heap.size):=Lib.hid (Nat.le_trans hi.sz gq.size);have HG9:=Lib.hid gq;have HR0:Hid (w1.heap.size+1 < W5.heap.size):=Lib.hid (by have:=HS5.out;omega)
   have HBk:Hid (∀ {W10:World},W9.grownBy W10 rv.ownBlock→Blk W10 w1.heap.size TLds #[rv]∧Blk W10 (w1.heap.size+1) TU #[.int .u64 (E0:Int)]):=Lib.hid fun hg=>by
    have h6:=hb6.gr gq;have h7:=hi.eb.gr gq
    rw [← hE0] at h7
    exact ⟨h6.stays (hg.block _ h6.lt (fun e=>by have:=hown.base _ e.symm;have:=HR0.out;omega)),h7.stays (hg.block _ h7.lt (fun e=>by have:=hown.base _ e.symm;have:=HR0.out;omega))⟩
   have HXL:=Lib.hid hxl;clear hLL hq0 gq hW9 hown hgood hz hi hb6 hbR hE0 hpl hxl hsz9
   gi_wp2_with (first | (rw [HW9.out];refine wpListIn_app_row ShL (T:=TLd) Tryz.underlying58 info_lgd rfl rfl (.tmp 35) (.tmp 40) rfl W5.heap.size rv (logX tl pre) rfl HO9.out W8.heap.size rfl _ HQ.out HIn.out (by have:=HLen.out.1;omega) (by have:=HLen.out.1;omega) HX9.out ?_;intro v' W10 ho10 hg10 _;obtain ⟨pv,cv,hv,hvx⟩:=ho10.shape (LL+1) (by rw [List.length_append,HLen.out.2.1];rfl);clear hvx;subst hv;have HO10:=Lib.hid ho10;have HG10:=Lib.hid hg10;have HB10:Hid (Blk W10 w1.heap.size TLds #[rv]∧Blk W10 (w1.heap.size+1) TU #[.int .u64 (E0:Int)]):=Lib.hid (HBk.out hg10);have f6:=HB10.out.1.frozen 0;have k6:=HB10.out.1.cell 0;have f7:=(HB10.out.2.far (p:=⟨w1.heap.size,0,none⟩) (show w1.heap.size+1≠w1.heap.size by omega) (.slice pv (LL+1) cv)).frozen 0;have k7:=(HB10.out.2.far (p:=⟨w1.heap.size,0,none⟩) (show w1.heap.size+1≠w1.heap.size by omega) (.slice pv (LL+1) cv)).cell 0;have k8:=HB10.out.2.cell 0;have f8:=HB10.out.2.frozen 0;simp at k6 k7 k8;clear ho10 hg10))
   obtain ⟨Y,hY⟩:∃ Y,Y=(W10.setCell ⟨w1.heap.size,0,none⟩ (.slice pv (LL+1) cv)).setCell ⟨w1.heap.size+1,0,none⟩ (.int .u64 (e9:Int)):=⟨_,rfl⟩;rw [← hY]
   have hYb:∀ k,k≠w1.heap.size→k≠w1.heap.size+1→Y.heap[k]?=W10.heap[k]?:=fun k h1 h2=>by
    rw [hY];exact ((Only.cell (w1.heap.size+1) 0 _ _).block k h2).trans ((Only.cell w1.heap.size 0 _ _).block k h1)
   have hYs:Y.heap.size=W10.heap.size:=by rw [hY,(Only.cell (w1.heap.size+1) 0 _ _).size,(Only.cell w1.heap.size 0 _ _).size]
   have hcell:∀ (k:Nat) (o:Obj),o.isCells=false→W8.heap[k]?=some o→Y.heap[k]?=some o:=fun k o ho hk=>by
    have hk8:=(Array.getElem?_eq_some_iff.1 hk).1
    have n1:k≠w1.heap.size:=fun e=>by have h:=HB6.out;unfold Blk at h;rw [e,h] at hk;cases hk;cases ho
    have n2:k≠w1.heap.size+1:=fun e=>by have h:=HI.out.eb;unfold Blk at h;rw [e,h] at hk;cases hk;cases ho
    have n3:some k≠rv.ownBlock:=fun e=>by
     obtain ⟨rv2,h1,h2⟩:=HI.out.rows
     have e2:rv2=rv:=by
      have h3:=HB6.out
      unfold Blk at h1 h3
      rw [h1] at h3
      simpa using h3
     subst e2
     rcases h2.row.2 with ⟨h0,_⟩ | ⟨g,cap,cur,h0,_,hg,_⟩
     · rw [h0] at e;simp [Value.ownBlock] at e
     ·
      rw [h0] at e
      have e3:k=g:=by simpa [Value.ownBlock] using e
      rw [e3,hg] at hk
      cases hk
      cases ho
    rw [hYb k n1 n2,HG10.out.block k (Nat.lt_of_lt_of_le hk8 HG9.out.size) n3,HG9.out.block k hk8];exact hk
   have hob:=HO9.out.base;refine And.intro ⟨by rw [hYs];exact Nat.le_trans HG9.out.size HG10.out.size,fun k o _ hk ho=>hcell k o ho hk⟩ (And.intro ⟨by rw [hYs];exact Nat.le_trans HG9.out.size HG10.out.size,fun k o hk h1 _=>?_⟩ ⟨?_,⟨.slice pv (LL+1) cv,?_,?_⟩,?_,?_⟩)
   ·
    obtain ⟨y,hy,rfl⟩:=hk;have h2:=HQ5.out y hy;have h3:=HS5.out
    obtain ⟨b5,o5,e5,hc5⟩:=HAt.out.y.at HXL.out
    have h4:y.block < W5.heap.size:=by
     rw [hy] at e5
     cases e5
     exact blk_lt (hc5 0 HXL.out)
    rw [hYb _ (by omega) (by omega),HG10.out.block _ (by have:=HX9.out;omega) (fun e=>by have:=hob _ e.symm;omega),HG9.out.block _ (Array.getElem?_eq_some_iff.1 h1).1];exact h1
   · have g10:Gr w1 W10:=Below.grown (Gr.trans HI.out.gr HG9.out) HG10.out (Gr.trans HI.out.gr HG9.out).size (fun k e=>by have:=hob k e;have:=HR0.out;omega);rw [hY];exact (g10.setCell (p:=⟨w1.heap.size,0,none⟩) (Nat.le_refl _) _).setCell (p:=⟨w1.heap.size+1,0,none⟩) (Nat.le_succ _) _
   · rw [hY];exact (HB10.out.1.set 0 _).far (p:=⟨w1.heap.size+1,0,none⟩) (by show w1.heap.size≠w1.heap.size+1;omega) _
   · rw [HLen.out.2.2,hY];obtain ⟨pr,cr,hr,_⟩:=HO9.out.shape LL HLen.out.2.1;exact (HO10.out.cell HB10.out.1 (by have:=HR0.out;omega) (fun u hu i=>by simp at hu;rw [hu,hr];simp) 0 _).cell (HB10.out.2.far (p:=⟨w1.heap.size,0,none⟩) (by show w1.heap.size+1≠w1.heap.size;omega) _) HR0.out (fun u hu i=>by simp at hu;rw [hu];simp) 0 _
   · rw [hY,endX_snoc];exact (HB10.out.2.far (p:=⟨w1.heap.size,0,none⟩) (by show w1.heap.size+1≠w1.heap.size;omega) _).set 0 _
   · rw [hYs];exact Nat.le_trans HX9.out HG10.out.size
  case done=>
   rintro D2 ys V hD2 hS hi hK;obtain ⟨rv,hb6,hown⟩:=hi.rows;obtain ⟨E,hE⟩:∃ E,E=endX tl ys:=⟨_,rfl⟩
   have hE2:E=opN s l.toNat ep tl:=by rw [hE];unfold endX;rw [hS,HX.out,HAe.out];rfl
   have n7:=hi.eb.cell 0
   rw [← hE] at n7
   have n6:=hb6.cell 0
   simp at n6 n7
   have hmi:=may_in HPar.out.1;have hnn:=opN_in s l.toNat ep tl (by omega) (by omega)
   rw [← hE2,← HX.out,← HNe.out,← HAe.out] at hnn
   obtain ⟨X1,hX1⟩:∃ X1,X1=E - tl:=⟨_,rfl⟩;obtain ⟨K1,hK1⟩:∃ K1,K1=A+X1:=⟨_,rfl⟩
   have hw1:IntKind.u64.wrap ((E:Int) - (tl:Int))=(X1:Int):=by rw [IntKind.wrap_u64];omega
   have hw2:IntKind.i64.wrap (X1:Int)=(X1:Int):=IntWalk.i64_in _ (by omega)
   have hw3:IntKind.i64.wrap ((A:Int)+(X1:Int))=(K1:Int):=by rw [IntWalk.i64_in _ (by omega)];omega
   obtain ⟨q3,hcut3,hof3⟩:=cut_h (p:=p1) (n:=N) (c:=c1) K1 (by have:=HMC.out;omega) HO.out.byt.1.cap
   have hEA:E % 232≤K1:=by rw [hK1,hX1,HAe.out];omega
   have hcm:=HO.out.byt.1.most;have HLa:=Lib.hid (fun W (gr:Gr w W)=>wlast_any b p n l g ep tl 0 none 0 0 0 false q3 K1 c1 E W (HB.out.gr gr) (by omega) hEA (by have:=HO.out.byt.1.cap;have:=HMC.out;omega) (by unfold maxLen at hcm;omega));have HV1:Hid (Gr w1 V):=Lib.hid hi.gr;have HV:Hid (Gr w V):=Lib.hid (Gr.trans HG1.out hi.gr);have HNum:Hid (E=opN s l.toNat ep tl∧K1=A+(E - tl)∧E % 232≤K1∧K1≤N∧tl≤E):=Lib.hid ⟨hE2,by omega,hEA,by have:=HMC.out;omega,hnn.1⟩;have HB6:=Lib.hid hb6;have HOw:=Lib.hid hown;have HTr:Hid ((logX tl ys).map LX3=logT tl (opX s l.toNat ep tl)):=Lib.hid (by rw [logX_T,hS,HX.out,HAe.out];rfl);have HDk:=Lib.hid hK;have HD2:Hid (W5.heap.size≤D2):=Lib.hid hD2;have HVs:Hid (W5.heap.size≤V.heap.size):=Lib.hid hi.sz;have HOf3:=Lib.hid hof3;have c5v:=HC5.out V hi.gr;clear hi hS hK hD2 hE hE2 hnn hX1 hK1 hof3 hEA hcm hb6 hown hmi
   gi_wp2_with fail
   refine wpIn_wide.2 ?_
   go_still_tail 13,(by kernel_rfl)
   change wpList _ _ _ _ _ V.drew
   have hVd:Gr V V.drew:=(Gr.refl V).drew;have HVd:Hid (Gr w V.drew∧Blk V.drew w1.heap.size TLds #[rv]∧OwnR ShL V.drew W5.heap.size TLd rv (logX tl ys)∧V.drew.heap[D2]?=some (.deferred (some []))∧W5.heap.size≤V.drew.heap.size∧Byt V.drew p1 N c1 xs):=Lib.hid ⟨Gr.trans HV.out hVd,HB6.out.gr hVd,HOw.out.gr hVd,HDk.out,HVs.out,HO.out.byt.1.kept (Gr.trans HV1.out hVd)⟩
   generalize V.drew=V1 at HVd ⊢
   clear hVd HV HB6 HOw HDk HVs n6 n7 c5v;go_wp2_with fail;refine (HLa.out V1 HVd.out.1).mono ?_;rintro e V2 ⟨rfl,q2,rfl,hof⟩;have hbw:b < w.heap.size:=HB.out.lt;have HOnly:Hid (Only b V1 ((V1.setCell ⟨b,6,none⟩ (.int .u64 (E:Int))).setCell ⟨b,7,none⟩ (.slice q2 (E % 232) (E % 232)))):=Lib.hid ((Only.cell b 6 V1 _).trans (Only.cell b 7 _ _));have HBl:Hid (Blk ((V1.setCell ⟨b,6,none⟩ (.int .u64 (E:Int))).setCell ⟨b,7,none⟩ (.slice q2 (E % 232) (E % 232))) b TLg #[p,.int .i64 n,.int .i64 l,.int .i64 g,.int .u64 ep,.int .u64 tl,.int .u64 (E:Int),.slice q2 (E % 232) (E % 232),.int .i64 0,.bool false]):=Lib.hid (((HB.out.gr HVd.out.1).set 6 _).set 7 _);obtain ⟨A2,hA2'⟩:∃ A2,A2=E % 232:=⟨_,rfl⟩;obtain ⟨V3,hV3⟩:∃ V3,V3=(V1.setCell ⟨b,6,none⟩ (.int .u64 (E:Int))).setCell ⟨b,7,none⟩ (.slice q2 (E % 232) (E % 232)):=⟨_,rfl⟩
   rw [← hV3] at HOnly HBl ⊢
   have HWb:Hid (b < w1.heap.size):=Lib.hid (Nat.lt_of_lt_of_le hbw HG1.out.size);have k6:=(HVd.out.2.1.stays (HOnly.out.block w1.heap.size (Nat.ne_of_gt HWb.out))).cell 0
   simp at k6
   have HOf:=Lib.hid hof;have HA2:=Lib.hid hA2';clear hof hV3 hA2' hbw HLa;go_wp2_with fail
   gi_wp2_with fail
   have hW5:w1.heap.size < W5.heap.size:=by have:=HS5.out;omega
   have hD2b:D2≠b:=by have:=HWb.out;have:=HD2.out;omega
   have hKd:V3.heap[D2]?=some (.deferred (some [])):=(HOnly.out.block D2 hD2b).trans HVd.out.2.2.2.1;refine ⟨by simp,.inl ⟨_,_,rfl,run_takeDeferred hKd,?_⟩⟩;have hg:=grownBy_putObj' V3 D2 (.deferred none);obtain ⟨Z,hZ⟩:∃ Z,Z=V3.putObj D2 (.deferred none):=⟨_,rfl⟩
   rw [← hZ] at hg ⊢
   have hnu:∀ v ∈ (#[p,.int .i64 n,.int .i64 l,.int .i64 g,.int .u64 ep,.int .u64 tl,.int .u64 0,.slice none 0 0,.int .i64 0,.bool false]:Array Value).toList,∀ i,v≠.int .u8 i:=by
    rw [HP.out]
    intro v hv i e
    subst e
    simp at hv
   have hq2:∀ y,q2=some y→w.heap.size≤y.block∧y.block < w1.heap.size:=fun y hy=>by
    obtain ⟨z,hz,e1⟩:=HOf.out.blk y hy;obtain ⟨z2,hz2,e2⟩:=HOf3.out.blk z hz;have:=HO.out.row.lt _ (own_some HO.out.row z2 hz2)
    omega
   have hZb:∀ k,k≠b→k≠D2→k < V1.heap.size→Z.heap[k]?=V1.heap[k]?:=fun k h1 h2 h3=>(hg.block k (by rw [HOnly.out.size];exact h3) (fun e=>h2 (Option.some.inj e))).trans (HOnly.out.block k h1)
   have hZs:V1.heap.size≤Z.heap.size:=by have:=hg.size;rw [HOnly.out.size] at this;exact this
   have hw1V:w1.heap.size < V1.heap.size:=by have:=HVd.out.2.2.2.2.1;omega
   have hwV:w.heap.size≤w1.heap.size:=HG1.out.size;refine ⟨.tuple #[rv,.int .i64 0],by simp [results,Tryz.results73],.inr ⟨?_,rv,logX tl ys,q2,A2,rfl,?_,HTr.out,⟨?_,⟨?_,.inl rfl⟩,?_,?_,⟨D,HP.out⟩⟩,⟨?_,?_,?_,?_,?_,?_⟩⟩⟩
   · rw [HOk.out];exact decide_eq_true HMC.out.2
   ·
    refine (((HVd.out.2.2.1).grown (grown_only HOnly.out) ?_ (fun x hx s hs h0 y hy e=>((HVd.out.2.2.1).each x hx s hs).1.not_blk h0 (HB.out.gr HVd.out.1) hnu y hy (Option.some.inj e).symm)).held (hold_grown hg (fun r e=>by cases e;exact ⟨_,hKd,rfl⟩))).base_le (by omega)
    cases e:rv.ownBlock with
    | none=>exact .inl rfl
    | some j=>
     refine .inr fun e2=>?_
     have h1:=HVd.out.2.2.1.base j e;have h2:j=b:=Option.some.inj e2;have h3:=HWb.out
     omega
   ·
    show Blk Z b TLg #[p,.int .i64 n,.int .i64 l,.int .i64 g,.int .u64 ep,.int .u64 tl,.int .u64 (opN s l.toNat ep tl:Int),.slice q2 A2 A2,.int .i64 0,.bool false]
    rw [← HNum.out.1,HA2.out];exact HBl.out.stays (hg.block b HBl.out.lt (fun e=>hD2b (Option.some.inj e).symm))
   ·
    have h3:=HOf3.out.byt V1 xs HVd.out.2.2.2.2.2
    rw [Nat.sub_zero,List.drop_zero] at h3
    have h4:=HOf.out.byt V1 _ h3;have h5:=h4.stays (w':=Z) (fun y hy=>by have:=hq2 y hy;have:=HB.out.lt;exact hZb _ (by omega) (by have:=HD2.out;omega) (by omega))
    have e1:K1 - (K1 - E % 232)=E % 232:=by have:=HNum.out.2.2.1;omega
    rw [e1,List.take_take,Nat.min_self] at h5
    show Byt Z q2 A2 A2 ((opT s l.toNat ep tl).drop (tl % 232+(opN s l.toNat ep tl - tl) - opN s l.toNat ep tl % 232))
    unfold opT
    rw [← HNum.out.1,← HX.out,← HAe.out,← HNum.out.2.1,HA2.out];exact h5
   ·
    intro y hy e
    have:=hq2 y hy;have:=HB.out.lt
    omega
   ·
    rintro k (rfl | ⟨y,hy,rfl⟩)
    · have:=HB.out.lt;omega
    · have:=hq2 y hy;omega
   · exact hg.os.trans (HOnly.out.os.trans HVd.out.1.os)
   · exact hg.tape.trans (HOnly.out.tape.trans HVd.out.1.tape)
   · exact hg.output.trans (HOnly.out.output.trans HVd.out.1.output)
   · omega
   ·
    intro k hk hn
    rw [hZb k hn (by have:=HD2.out;omega) (by omega)];exact HVd.out.1.block k hk
   ·
    rintro k (rfl | ⟨y,hy,rfl⟩)
    · exact .inl rfl
    · exact .inr (hq2 y hy).1
end Go.Proofs.YtlijbgapkmfnaaaGreat
namespace Go.Proofs.YtlijbgapkmfnaaaGreat
open Go.RowKit Go.Maps
structure LayM (w:World) (b:Nat) (p:Value) (q q8:Option Addr) (m c c8 fr:Nat) (ys:List Int) (L:Lg) (z:Nat) (zs:List Int) (W:World):Prop where
 rl:∃ W7,RlAt W7 b p q m c fr ys L∧Gr w W7∧TxtChg q q8 W7 W
 txt:Txt W q8 (m+z) c8 (ys++zs)
 pos:0 < z
theorem LayM.blk {w:World} {b:Nat} {p:Value} {q q8:Option Addr} {m c c8 fr:Nat} {ys:List Int} {L:Lg} {z:Nat} {zs:List Int} {W:World} (h:LayM w b p q q8 m c c8 fr ys L z zs W):Blk W b TLr #[p,.int .i64 L.l,.int .u64 L.epoch,.int .u64 L.tail,.int .u64 fr,.slice q m c,.int .u64 L.lasts,.int .i64 L.rsv,.bool L.begun]:=by
 obtain ⟨W7,h1,_,h3⟩:=h.rl;exact h1.blk.stays (h3.block b h1.blk.lt (fun hk=>by obtain ⟨y,hy,e⟩:=hk;exact h1.apart y hy e))
theorem LayM.done {w:World} {b:Nat} {p:Value} {q q8:Option Addr} {m c c8 fr:Nat} {ys:List Int} {L:Lg} {z:Nat} {zs:List Int} {W:World} (h:LayM w b p q q8 m c c8 fr ys L z zs W):RlAt (W.setCell ⟨b,5,none⟩ (.slice q8 (m+z) c8)) b p q8 (m+z) c8 fr (ys++zs) (L.more zs)∧Upd (lgS b q) (lgS b q8) w (W.setCell ⟨b,5,none⟩ (.slice q8 (m+z) c8)):=by
 have hb:=h.blk;obtain ⟨W7,h1,g7,hu⟩:=h.rl;have hp:=h.pos
 have hq8:∀ y,q8=some y→y.block≠b:=fun y hy e=>by
  rcases hu.fresh y.block ⟨y,hy,rfl⟩ with ⟨z2,hz,e2⟩ | h2
  · exact h1.apart z2 hz (e2.trans e)
  · have:=h1.blk.lt;omega
 have hoc:=Only.cell b 5 W (.slice q8 (m+z) c8)
 have hlt8:∀ y,q8=some y→y.block < W.heap.size:=fun y hy=>h.txt.lt (by omega) y hy
 refine ⟨h1.more (hb.set 5 _) (h.txt.stays (fun y hy=>hoc.block _ (hq8 y hy))) hq8 (fun k hk=>?_),?_⟩
 ·
  rw [hoc.size]
  rcases hk with rfl | ⟨y,hy,rfl⟩
  · exact hb.lt
  · exact hlt8 y hy
 ·
  refine ⟨hoc.os.trans (hu.os.trans g7.os),hoc.tape.trans (hu.tape.trans g7.tape),hoc.output.trans (hu.output.trans g7.output),?_,fun k hk hn=>?_,fun k hk=>?_⟩
  · rw [hoc.size];exact Nat.le_trans g7.size hu.size
  ·
   have hkb:k≠b:=fun e=>hn (.inl e)
   exact (hoc.block k hkb).trans ((hu.block k (Nat.lt_of_lt_of_le hk g7.size) (fun h=>hn (.inr h))).trans (g7.block k hk))
  ·
   rcases hk with rfl | hk
   · exact .inl (.inl rfl)
   ·
    rcases hu.fresh k hk with h | h
    · exact .inl (.inr h)
    · exact .inr (Nat.le_trans g7.size h)
def LayMid (w:World) (b:Nat) (p:Value) (q:Option Addr) (m c fr:Nat) (ys:List Int) (L:Lg) (z:Nat) (zs:List Int) (v:Value) (W:World):Prop:=∃ q8 c8,v=.slice q8 (m+z) c8∧LayM w b p q q8 m c c8 fr ys L z zs W
def LayFin (w:World) (b:Nat) (p:Value) (q:Option Addr) (m fr:Nat) (ys:List Int) (L:Lg) (z:Nat) (zs:List Int) (W:World):Prop:=∃ q8 c8,RlAt W b p q8 (m+z) c8 fr (ys++zs) (L.more zs)∧Upd (lgS b q) (lgS b q8) w W
def InA (ic ia iz d1 d2:Nat) (zs:List Int) (Mid:Value→World→Prop) (Fin:World→Prop) (w0:World) (l:Nat→Bool) (a:Act) (W:World):Prop:=
 (l ia=false→Gr w0 W∧(l ic=true→IsB W (a.tmps.getD d1 undef) zs))∧(l ia=true→l iz=false→Mid (a.tmps.getD d2 undef) W)∧(l ia=true→l iz=true→Fin W)
section
variable {ic ia iz d1 d2:Nat} {zs:List Int} {Mid:Value→World→Prop} {Fin:World→Prop} {w0 W W':World} {l:Nat→Bool} {a:Act}
theorem InA.start (h:l ia=false) (hc:l ic=false) (g:Gr w0 W):InA ic ia iz d1 d2 zs Mid Fin w0 l a W:=⟨fun _=>⟨g,fun e=>by rw [hc] at e;cases e⟩,(fun e=>by rw [h] at e;cases e),fun e=>by rw [h] at e;cases e⟩
theorem InA.other (h:InA ic ia iz d1 d2 zs Mid Fin w0 l a W) (i:Nat) (n1:ic≠i) (n2:ia≠i) (n3:iz≠i) {x:Option Nat} (h1:x≠some d1) (h2:x≠some d2) (v:Value):InA ic ia iz d1 d2 zs Mid Fin w0 (Flow.upd l i) (a.put x v) W:=by
 unfold InA
 rw [Flow.upd_other l n1,Flow.upd_other l n2,Flow.upd_other l n3,Flow.getD_put_other h1,Flow.getD_put_other h2];exact h
theorem InA.pre (h:InA ic ia iz d1 d2 zs Mid Fin w0 l a W) (hl:l ia=false):Gr w0 W:=(h.1 hl).1
theorem InA.got (h:InA ic ia iz d1 d2 zs Mid Fin w0 l a W) (hl:l ia=false) (hc:l ic=true):IsB W (a.tmps.getD d1 undef) zs:=(h.1 hl).2 hc
theorem InA.call (h:InA ic ia iz d1 d2 zs Mid Fin w0 l a W) (n1:ia≠ic) (n2:iz≠ic) (hl:l ia=false) (hd:d1 < a.tmps.size) (g:Gr W W') {v:Value} (hv:IsB W' v zs):InA ic ia iz d1 d2 zs Mid Fin w0 (Flow.upd l ic) (a.put (some d1) v) W':=by
 unfold InA
 rw [Flow.upd_other l n1,Flow.upd_other l n2,Flow.getD_put_same hd];exact ⟨fun _=>⟨Gr.trans (h.1 hl).1 g,fun _=>hv⟩,(fun e=>by rw [hl] at e;cases e),fun e=>by rw [hl] at e;cases e⟩
theorem InA.app (_:InA ic ia iz d1 d2 zs Mid Fin w0 l a W) (n2:iz≠ia) (hz:l iz=false) (hd:d2 < a.tmps.size) {v:Value} (hv:Mid v W'):InA ic ia iz d1 d2 zs Mid Fin w0 (Flow.upd l ia) (a.put (some d2) v) W':=by
 unfold InA
 rw [Flow.upd_same,Flow.upd_other l n2,Flow.getD_put_same hd];exact ⟨(fun e=>by cases e),fun _ _=>hv,fun _ e=>by rw [hz] at e;cases e⟩
theorem InA.mid (h:InA ic ia iz d1 d2 zs Mid Fin w0 l a W) (hl:l ia=true) (hz:l iz=false):Mid (a.tmps.getD d2 undef) W:=h.2.1 hl hz
theorem InA.fin (_:InA ic ia iz d1 d2 zs Mid Fin w0 l a W) (n:ia≠iz) (hl:l ia=true) (x:Option Nat) (v:Value) (hf:Fin W'):InA ic ia iz d1 d2 zs Mid Fin w0 (Flow.upd l iz) (a.put x v) W':=by
 unfold InA
 rw [Flow.upd_same,Flow.upd_other l n,hl];exact ⟨(fun e=>by cases e),(fun _ e=>by cases e),fun _ _=>hf⟩
theorem InA.post (h:InA ic ia iz d1 d2 zs Mid Fin w0 l a W) (hl:l ia=true) (hz:l iz=true):Fin W:=h.2.2 hl hz
end
def SlLa (b:Nat) (q:Option Addr) (m:Nat) (c:Nat) (k:Int) (t:Nat) (p1:Nat) (x:Nat) (g:Int) (o:Int) (pb:Option Addr) (nb:Nat) (cb:Nat) (pa:Option Addr) (na:Nat) (ca:Nat) (E:Nat) (slot:Nat) (v:Value) (_:World):Prop:=
 match slot with
 | 46=>v=.pointer (some ⟨b,0,none⟩)
 | 47=>v=.pointer (some ⟨b,0,none⟩)
 | 48=>v=.pointer (some ⟨b,0,none⟩)
 | 49=>v=.pointer (some ⟨b,5,none⟩)
 | 50=>v=.slice q m c
 | 51=>v=.agg #[.int .i64 k,.int .u64 t,.int .u64 p1,.int .u64 x,.int .i64 g,.int .i64 o,.slice pb nb cb,.slice pa na ca]
 | 52=>v=.int .u64 (E:Int)
 | 55=>v=.pointer (some ⟨b,0,none⟩)
 | 56=>v=.pointer (some ⟨b,5,none⟩)
 | _=>True
set_option maxRecDepth 100000 in
set_option maxHeartbeats 400000 in
theorem rLay_append {b:Nat} {p:Value} {q:Option Addr} {m c fr:Nat} {ys:List Int} {L:Lg} (w:World) (h:RlAt w b p q m c fr ys L) (ok:L.Ok) (r:Rc) (hi:r.In) (pb:Option Addr) (nb cb:Nat) (pa:Option Addr) (na ca:Nat) (hb:Byt w pb nb cb r.b) (ha:Byt w pa na ca r.a) (hfit:mayR r=true) (hroom:(sizeR r:Int)≤L.free) (hml:m≤100000000000000) :
  Calls Tryz.prog 23 #[.pointer (some ⟨b,0,none⟩),.agg (rcv r pb nb cb pa na ca),.bool false] w (RetRl (.tuple #[.int .u64 (L.fin:Int),.int .i64 0]) fr (ys++recL r L.fin) (L.more (recL r L.fin)) b p q w):=by
 obtain ⟨W1,hW1⟩:∃ W1,W1=w.alloc (.cells (rcv r pb nb cb pa na ca) TR):=⟨_,rfl⟩;have HB1:Hid (Blk W1 w.heap.size TR (rcv r pb nb cb pa na ca)∧Gr w W1):=Lib.hid (by rw [hW1];exact ⟨Blk.new _ _ _,Gr.new _ _⟩);have HM:=Lib.hid (fun W (g:Gr w W)=>refMay_any r pb nb cb pa na ca W (hb.kept g) (ha.kept g));have HS:=Lib.hid (fun W (g:Gr w W)=>refSize_any r pb nb cb pa na ca W (hb.kept g) (ha.kept g));have HFr:=Lib.hid (fun W (g:Gr w W)=>(h.gr g).Free' ok);have HEn:=Lib.hid (fun W (g:Gr w W)=>(h.gr g).End ok);have HBy:=Lib.hid (fun W (g:Gr w W)=>refBytes_any r pb nb cb pa na ca L.fin W hfit hi (hb.kept g) (ha.kept g) (by have:=ok.most;omega));have HH:=Lib.hid h;have HW1:Hid (w.alloc (.cells (rcv r pb nb cb pa na ca) 33)=W1):=Lib.hid hW1.symm
 rw [hfit] at HM
 have hlr:(recL r L.fin).length=35+r.b.length+r.a.length:=recL_len _ _
 have hsz:sizeR r=35+r.b.length+r.a.length:=by unfold sizeR;rw [if_pos hfit]
 obtain ⟨zs,hzs⟩:∃ zs,zs=recL r L.fin:=⟨_,rfl⟩;obtain ⟨z,hz⟩:∃ z,z=sizeR r:=⟨_,rfl⟩;obtain ⟨F,hF⟩:∃ F,F=L.free:=⟨_,rfl⟩;obtain ⟨E,hE⟩:∃ E,E=L.fin:=⟨_,rfl⟩;have HZ:Hid (zs.length=z∧35≤z∧z≤60000):=Lib.hid ⟨by rw [hzs,hlr,hz,hsz],by omega,by have:=(free_le ok).2.1;omega⟩
 rw [← hz] at HS hroom
 rw [← hF] at HFr hroom
 rw [← hzs] at HBy ⊢
 rw [← hE] at HBy HEn ⊢
 have hr:¬ F < (z:Int):=by omega
 have HQl:Hid (∀ y,q=some y→y.block < w.heap.size):=Lib.hid fun y hy=>h.low _ (.inr ⟨y,hy,rfl⟩)
 clear h ok hb ha hW1 hfit hz hF hE hzs hlr hsz hroom
 unfold rcv at HW1 HB1 ⊢
 obtain ⟨c0,c1,c2,c3,c4,c5,c6,c7⟩:=HB1.out.1.c8
 go_enter Tryz.func23,Tryz.ntmps23
 go_wp2_with fail;rw [HW1.out];go_wp2_with fail;refine (HM.out W1 HB1.out.2).mono ?_;rintro e W2 ⟨rfl,g2⟩;have HG2:=Lib.hid (Gr.trans HB1.out.2 g2);have HC2:=Lib.hid (HB1.out.1.gr g2);clear g2 HM c0 c1 c2 c3 c4 c5 c6 c7;obtain ⟨c0,c1,c2,c3,c4,c5,c6,c7⟩:=HC2.out.c8;go_wp2_with fail;refine (HS.out W2 HG2.out).mono ?_;rintro e W3 ⟨rfl,g3⟩;have HG3:=Lib.hid (Gr.trans HG2.out g3);have HC3:=Lib.hid (HC2.out.gr g3);clear g3 HS c0 c1 c2 c3 c4 c5 c6 c7 HC2 HG2 HB1;go_wp2_with fail;refine (HFr.out W3 HG3.out).mono ?_;rintro e W4 ⟨rfl,k,rfl⟩;have HG4:=Lib.hid (gr_drewN HG3.out k);have HC4:=Lib.hid (HC3.out.gr (gr_drewN (Gr.refl W3) k));go_wp2_with fail;refine (HEn.out _ HG4.out).mono ?_;rintro e W5 ⟨rfl,g5⟩;have HG5:=Lib.hid (Gr.trans HG4.out g5);have HC5:=Lib.hid (HC4.out.gr g5);clear g5 HEn HFr HG3 HG4 HC3 HC4 hr;obtain ⟨c0,c1,c2,c3,c4,c5,c6,c7⟩:=HC5.out.c8;clear c0 c1 c2 c3 c4 c5 c6 c7;have hgd:Gr W5 W5.drew:=(Gr.refl W5).drew;obtain ⟨W6,hW6⟩:∃ W6,W6=W5.drew:=⟨_,rfl⟩;have HG6:Hid (Gr w W6):=Lib.hid (by rw [hW6];exact Gr.trans HG5.out hgd);have HH6:=Lib.hid (HH.out.gr HG6.out);have HC6:Hid (Blk W6 w.heap.size TR #[.int .i64 r.k,.int .u64 r.t,.int .u64 r.p,.int .u64 r.x,.int .i64 r.g,.int .i64 r.o,.slice pb nb cb,.slice pa na ca]):=Lib.hid (by rw [hW6];exact HC5.out.gr hgd);have HBy6:=Lib.hid (fun W (g:Gr W6 W)=>HBy.out W (Gr.trans HG6.out g));have HD6:Hid (W5.drew=W6):=Lib.hid hW6.symm;clear hgd HH hW6;go_wp2_with fail;refine Flow.regionF [] 20 (SlLa b q m c r.k r.t r.p r.x r.g r.o pb nb cb pa na ca E) (InA 7 8 11 53 54 zs (LayMid w b p q m c fr ys L z zs) (LayFin w b p q m fr ys L z zs) W6) (fun _ _ _=>True) (by kernel_rfl) (by kernel_rfl) (fun _ _ _ _ _ _ h _=>h) (InA.start (by rfl) (by rfl) (by rw [HD6.out];exact Gr.refl _)) ?steps ?fin
 case steps=>
  refine .cons (fun l a W hfr hun hup hdn hinv hdep K hK=>?_) ?_
  · have t0:=tAt (.pointer (some ⟨b,0,none⟩)) (hfr.at 0 (by kernel_rfl));refine fW0 rfl ?_;clear hdep;go_simp;exact hK _ _ True.intro (hinv.other 0 (by decide) (by decide) (by decide) (by simp) (by simp) _) (dsT (by trivial))
  refine .cons (fun l a W hfr hun hup hdn hinv hdep K hK=>?_) ?_
  · have t0:=tAt (.pointer (some ⟨b,0,none⟩)) (hfr.at 0 (by kernel_rfl));refine fW0 rfl ?_;clear hdep;go_simp;exact hK _ _ True.intro (hinv.other 1 (by decide) (by decide) (by decide) (by simp) (by simp) _) (dsT (by trivial))
  refine .cons (fun l a W hfr hun hup hdn hinv hdep K hK=>?_) ?_
  · have t47:=tAt (.pointer (some ⟨b,0,none⟩)) (hdep 47 (by kernel_rfl));refine fW0 rfl ?_;clear hdep;go_simp;exact hK _ _ True.intro (hinv.other 2 (by decide) (by decide) (by decide) (by simp) (by simp) _) (dsT (by trivial))
  refine .cons (fun l a W hfr hun hup hdn hinv hdep K hK=>?_) ?_
  · have t48:=tAt (.pointer (some ⟨b,0,none⟩)) (hdep 48 (by kernel_rfl));refine fW0 rfl ?_;clear hdep;go_simp;exact hK _ _ True.intro (hinv.other 3 (by decide) (by decide) (by decide) (by simp) (by simp) _) (dsT (by trivial))
  refine .cons (fun l a W hfr hun hup hdn hinv hdep K hK=>?_) ?_
  · have t49:=tAt (.pointer (some ⟨b,5,none⟩)) (hdep 49 (by kernel_rfl));refine fW0 rfl ?_;clear hdep;have hin:=hinv.pre (hup 8 (by decide) (by kernel_rfl));have k5:=(HH6.out.gr hin).blk.c9.2.2.2.2.2.1;go_simp;exact hK _ _ True.intro (hinv.other 4 (by decide) (by decide) (by decide) (by simp) (by simp) _) (dsT (by trivial))
  refine .cons (fun l a W hfr hun hup hdn hinv hdep K hK=>?_) ?_
  · have t4:=tAt (.pointer (some ⟨w.heap.size,0,none⟩)) (hfr.at 4 (by kernel_rfl));refine fW0 rfl ?_;clear hdep;have hin:=hinv.pre (hup 8 (by decide) (by kernel_rfl));obtain ⟨c0,c1,c2,c3,c4,c5,c6,c7⟩:=(HC6.out.gr hin).c8;go_simp;exact hK _ _ True.intro (hinv.other 5 (by decide) (by decide) (by decide) (by simp) (by simp) _) (dsT (by trivial))
  refine .cons (fun l a W hfr hun hup hdn hinv hdep K hK=>?_) ?_
  · have t9:=tAt (.int .u64 (E:Int)) (hfr.at 9 (by kernel_rfl));refine fW0 rfl ?_;clear hdep;go_simp;exact hK _ _ True.intro (hinv.other 6 (by decide) (by decide) (by decide) (by simp) (by simp) _) (dsT (by trivial))
  refine .cons (fun l a W hfr hun hup hdn hinv hdep K hK=>?_) ?_
  ·
   have t51:=tAt (.agg #[.int .i64 r.k,.int .u64 r.t,.int .u64 r.p,.int .u64 r.x,.int .i64 r.g,.int .i64 r.o,.slice pb nb cb,.slice pa na ca]) (hdep 51 (by kernel_rfl));have t52:=tAt (.int .u64 (E:Int)) (hdep 52 (by kernel_rfl));refine fW0 rfl ?_;clear hdep;have hin:=hinv.pre (hup 8 (by decide) (by kernel_rfl));go_simp
   (with_reducible refine (HBy6.out W hin).mono ?_)
   rintro e W' ⟨q7,n7,d7,rfl,hy7,g7,_⟩;exact hK _ _ True.intro (hinv.call (by decide) (by decide) (hup 8 (by decide) (by kernel_rfl)) (by rw [hfr.size];simp) g7 ⟨q7,n7,d7,rfl,hy7⟩) (dsT (by trivial))
  refine .cons (fun l a W hfr hun hup hdn hinv hdep K hK=>?_) ?_
  ·
   have t50:=tAt (.slice q m c) (hdep 50 (by kernel_rfl));refine fW0 rfl ?_;clear hdep;have hin:=hinv.pre hun;obtain ⟨q7,n7,d7,s53,hy7⟩:=hinv.got hun (hdn 7 (by decide) (by kernel_rfl));have t53:=tmpAt s53
   obtain rfl:n7=z:=by rw [← hy7.len];exact HZ.out.1
   obtain ⟨b7,o7,rfl,_⟩:=hy7.at (by have:=HZ.out;omega)
   have hh7:=HH6.out.gr hin;obtain ⟨q8,c8,W8,hrun,ht8,hu8⟩:=run_app_txt (ty:=TBs) hh7.txt hy7 (by have:=HZ.out;omega) (by have:=HZ.out;omega);have hk8:=hK (.slice q8 (m+n7) c8) W8 True.intro (hinv.app (by decide) (hup 11 (by decide) (by kernel_rfl)) (by rw [hfr.size];simp) ⟨q8,c8,rfl,⟨W,hh7,Gr.trans HG6.out hin,hu8⟩,ht8,by have:=HZ.out;omega⟩) (dsT (by trivial))
   unfold Oper.wp
   simp [execOp,resolve,invoke,builtin,Act.eval,t50,t53,hrun,Result.andThen]
   exact hk8
  refine .cons (fun l a W hfr hun hup hdn hinv hdep K hK=>?_) ?_
  · have t46:=tAt (.pointer (some ⟨b,0,none⟩)) (hdep 46 (by kernel_rfl));refine fW0 rfl ?_;clear hdep;go_simp;exact hK _ _ True.intro (hinv.other 9 (by decide) (by decide) (by decide) (by simp) (by simp) _) (dsT (by trivial))
  refine .cons (fun l a W hfr hun hup hdn hinv hdep K hK=>?_) ?_
  · have t55:=tAt (.pointer (some ⟨b,0,none⟩)) (hdep 55 (by kernel_rfl));refine fW0 rfl ?_;clear hdep;go_simp;exact hK _ _ True.intro (hinv.other 10 (by decide) (by decide) (by decide) (by simp) (by simp) _) (dsT (by trivial))
  refine .cons (fun l a W hfr hun hup hdn hinv hdep K hK=>?_) ?_
  · have t56:=tAt (.pointer (some ⟨b,5,none⟩)) (hdep 56 (by kernel_rfl));refine fW0 rfl ?_;clear hdep;obtain ⟨q8,c8,s54,hm⟩:=hinv.mid (hdn 8 (by decide) (by kernel_rfl)) hun;have t54:=tmpAt s54;have f5:=hm.blk.frozen 5;have k5:=hm.blk.c9.2.2.2.2.2.1;go_simp;exact hK undef _ True.intro (hinv.fin (by decide) (hdn 8 (by decide) (by kernel_rfl)) none undef ⟨q8,c8,hm.done⟩) (fun d hd=>by cases hd)
  exact True.intro
 case fin=>
  intro a W l hfr hall hinv hsl
  have hfin:=hinv.post (hall 8 (by decide)) (hall 11 (by decide));have e:=Flow.frame hfr [46,47,48,49,50,51,52,53,54,55,56] (List.range 58) (by kernel_rfl) (by kernel_rfl)
  simp [List.range,List.range.loop] at e
  rw [e];have HFin:=Lib.hid hfin;clear e hfr hsl hall hinv hfin
  first
   | (rename_i hB;refine hB _ _ ?_)
   | (rename_i hB y0;refine hB _ _ ?_)
   | (rename_i hB y0 y1;refine hB _ _ ?_)
   | (rename_i hB y0 y1 y2;refine hB _ _ ?_)
   | (rename_i hB y0 y1 y2 y3;refine hB _ _ ?_)
   | (rename_i hB y0 y1 y2 y3 y4;refine hB _ _ ?_)
   | (rename_i hB y0 y1 y2 y3 y4 y5;refine hB _ _ ?_)
   | (rename_i hB y0 y1 y2 y3 y4 y5 y6;refine hB _ _ ?_)
   | (rename_i hB y0 y1 y2 y3 y4 y5 y6 y7;refine hB _ _ ?_)
   | (rename_i hB y0 y1 y2 y3 y4 y5 y6 y7 y8;refine hB _ _ ?_)
   | (rename_i hB y0 y1 y2 y3 y4 y5 y6 y7 y8 y9;refine hB _ _ ?_)
   | (rename_i hB y0 y1 y2 y3 y4 y5 y6 y7 y8 y9 y10;refine hB _ _ ?_)
   | skip
  obtain ⟨q8,c8,hr8,hu8⟩:=HFin.out;have HR8:=Lib.hid (And.intro hr8 hu8);clear hr8 hu8 HFin;go_wp2_with fail;refine bodyPost_ret_by (P:=Tryz.prog) (v:=.tuple #[.int .u64 (E:Int),.int .i64 0]) (by simp [results,Tryz.results23]) rfl ?_;exact ⟨q8,m+z,c8,rfl,HR8.out.1,HR8.out.2⟩
set_option maxRecDepth 100000 in
set_option maxHeartbeats 400000 in
theorem rLay_use {b:Nat} {p:Value} {q:Option Addr} {m c fr:Nat} {ys:List Int} {L:Lg} (w:World) (h:RlAt w b p q m c fr ys L) (ok:L.Ok) (r:Rc) (hi:r.In) (pb:Option Addr) (nb cb:Nat) (pa:Option Addr) (na ca:Nat) (hb:Byt w pb nb cb r.b) (ha:Byt w pa na ca r.a) (hfit:mayR r=true) (hroom:(sizeR r:Int)≤L.rsv) (hml:m≤100000000000000) (hpp:∃ d,p=.pointer (some ⟨d,0,none⟩)) :
  Calls Tryz.prog 23 #[.pointer (some ⟨b,0,none⟩),.agg (rcv r pb nb cb pa na ca),.bool true] w (RetRl (.tuple #[.int .u64 (L.fin:Int),.int .i64 0]) fr (ys++recL r L.fin) ({ L with rsv:=L.rsv - (sizeR r:Int) }.more (recL r L.fin)) b p q w):=by
 obtain ⟨W1,hW1⟩:∃ W1,W1=w.alloc (.cells (rcv r pb nb cb pa na ca) TR):=⟨_,rfl⟩;have HB1:Hid (Blk W1 w.heap.size TR (rcv r pb nb cb pa na ca)∧Gr w W1):=Lib.hid (by rw [hW1];exact ⟨Blk.new _ _ _,Gr.new _ _⟩);have HM:=Lib.hid (fun W (g:Gr w W)=>refMay_any r pb nb cb pa na ca W (hb.kept g) (ha.kept g));have HS:=Lib.hid (fun W (g:Gr w W)=>refSize_any r pb nb cb pa na ca W (hb.kept g) (ha.kept g));have HOK:=Lib.hid ok;have HByf:=Lib.hid (fun W (hb:Byt W pb nb cb r.b) (ha:Byt W pa na ca r.a)=>refBytes_any r pb nb cb pa na ca L.fin W hfit hi hb ha (by have:=ok.most;omega));have HYr:=Lib.hid (And.intro hb ha);have HH:=Lib.hid h;have HPp:=Lib.hid hpp;have HW1:Hid (w.alloc (.cells (rcv r pb nb cb pa na ca) 33)=W1):=Lib.hid hW1.symm
 rw [hfit] at HM
 have hlr:(recL r L.fin).length=35+r.b.length+r.a.length:=recL_len _ _
 have hsz:sizeR r=35+r.b.length+r.a.length:=by unfold sizeR;rw [if_pos hfit]
 obtain ⟨zs,hzs⟩:∃ zs,zs=recL r L.fin:=⟨_,rfl⟩;obtain ⟨z,hz⟩:∃ z,z=sizeR r:=⟨_,rfl⟩;obtain ⟨F,hF⟩:∃ F,F=L.rsv:=⟨_,rfl⟩;obtain ⟨E,hE⟩:∃ E,E=L.fin:=⟨_,rfl⟩;have HZ:Hid (zs.length=z∧35≤z∧z≤60000):=Lib.hid ⟨by rw [hzs,hlr,hz,hsz],by omega,by have:=ok.r1;omega⟩
 rw [← hz] at HS hroom ⊢
 rw [← hF] at hroom
 rw [← hzs] at HByf ⊢
 rw [← hE] at HByf ⊢
 have hr:¬ F < (z:Int):=by omega
 have HQl:Hid (∀ y,q=some y→y.block < w.heap.size):=Lib.hid fun y hy=>h.low _ (.inr ⟨y,hy,rfl⟩)
 have HFE:Hid (F=L.rsv∧E=L.fin∧(z:Int)≤F):=Lib.hid ⟨hF,hE,hroom⟩
 have hwz:wrap64 (F - (z:Int))=F - (z:Int):=by have:=ok.r0;have:=ok.r1;unfold wrap64;omega
 clear hpp h ok hb ha hW1 hfit hz hF hE hzs hlr hsz hroom
 unfold rcv at HW1 HB1 ⊢
 obtain ⟨c0,c1,c2,c3,c4,c5,c6,c7⟩:=HB1.out.1.c8
 go_enter Tryz.func23,Tryz.ntmps23
 go_wp2_with fail;rw [HW1.out];go_wp2_with fail;refine (HM.out W1 HB1.out.2).mono ?_;rintro e W2 ⟨rfl,g2⟩;have HG2:=Lib.hid (Gr.trans HB1.out.2 g2);have HC2:=Lib.hid (HB1.out.1.gr g2);clear g2 HM c0 c1 c2 c3 c4 c5 c6 c7;obtain ⟨c0,c1,c2,c3,c4,c5,c6,c7⟩:=HC2.out.c8;go_wp2_with fail;refine (HS.out W2 HG2.out).mono ?_;rintro e W3 ⟨rfl,g3⟩;have HG3:=Lib.hid (Gr.trans HG2.out g3);have HC3:=Lib.hid (HC2.out.gr g3);clear g3 HS c0 c1 c2 c3 c4 c5 c6 c7 HC2 HG2 HB1;have k7:=(HH.out.blk.gr HG3.out).c9.2.2.2.2.2.2.2.1;have f7:=(HH.out.blk.gr HG3.out).frozen 7
 rw [← HFE.out.1] at k7
 obtain ⟨V3,hV3⟩:∃ V3,V3=W3.setCell ⟨b,7,none⟩ (.int .i64 (F - (z:Int))):=⟨_,rfl⟩;obtain ⟨L2,hL2⟩:∃ L2,L2={ L with rsv:=L.rsv - (z:Int) }:=⟨_,rfl⟩
 have HL2:Hid ({ L with rsv:=L.rsv - (z:Int) }=L2∧L2.Ok∧L2.fin=E):=Lib.hid (by
  rw [hL2];have ok:=HOK.out;have h3:=HFE.out
  exact ⟨rfl,⟨ok.may,ok.e0,ok.e1,ok.tl,ok.has,ok.most,ok.room,by show (0:Int)≤L.rsv - z;omega,by show L.rsv - (z:Int)≤60000;have:=ok.r1;omega⟩,h3.2.1.symm⟩)
 have HHV:Hid (RlAt V3 b p q m c fr ys L2∧Upd (lgS b q) (lgS b q) w V3∧Blk V3 w.heap.size TR #[.int .i64 r.k,.int .u64 r.t,.int .u64 r.p,.int .u64 r.x,.int .i64 r.g,.int .i64 r.o,.slice pb nb cb,.slice pa na ca]):=Lib.hid (by
  have h3:=HH.out.gr HG3.out;have hbw:=HH.out.blk.lt;rw [hV3,hL2];refine ⟨h3.set (Only.cell b 7 W3 _) { L with rsv:=L.rsv - (z:Int) } ?_ rfl rfl h3.tl,(Upd.of_gr HG3.out).comp (Upd.cell (.inl rfl) _ _),HC3.out.stays ((Only.cell b 7 W3 _).block _ (Nat.ne_of_gt hbw))⟩;rw [HFE.out.1]
  exact h3.blk.set 7 _)
 have HYV:Hid (∀ W,Gr V3 W→Byt W pb nb cb r.b∧Byt W pa na ca r.a):=Lib.hid fun W g=>by
  have hon:=Only.cell b 7 W3 (.int .i64 (F - (z:Int)))
  rw [← hV3] at hon
  have hst:∀ (pp:Option Addr) (nn cc:Nat) (xs:List Int),Byt W3 pp nn cc xs→Byt V3 pp nn cc xs:=fun pp nn cc xs hy=>by
   rcases Nat.eq_zero_or_pos nn with h0 | h0
   · exact ⟨hy.len,hy.cap,hy.most,(fun hn=>by omega),hy.nilCap,hy.small⟩
   · exact hy.stays (fun y hyy=>hon.block _ (hy.not_blk h0 (HH.out.blk.gr HG3.out) (fun u hu i e=>by subst e;have hpp:=HPp.out;rcases hpp with ⟨d,rfl⟩;simp at hu) y hyy))
  exact ⟨(hst _ _ _ _ (HYr.out.1.kept HG3.out)).kept g,(hst _ _ _ _ (HYr.out.2.kept HG3.out)).kept g⟩
 have HEn:Hid (∀ W,Gr V3 W→Calls Tryz.prog 30 #[.pointer (some ⟨b,0,none⟩)] W (RetU E W)):=Lib.hid fun W g=>by
  have h:=(HHV.out.1.gr g).End HL2.out.2.1
  rwa [HL2.out.2.2] at h
 have HBy2:=Lib.hid (fun W (g:Gr V3 W)=>HByf.out W (HYV.out W g).1 (HYV.out W g).2);have HV3:Hid (W3.setCell ⟨b,7,none⟩ (.int .i64 (F - (z:Int)))=V3):=Lib.hid hV3.symm;clear hV3 hL2
 have hr':¬ F < (z:Int):=by have:=HFE.out;omega
 go_wp2_with fail;rw [HV3.out];refine (HEn.out V3 (Gr.refl _)).mono ?_;rintro e W5 ⟨rfl,g5⟩;have HG5:=Lib.hid g5;have HC5:=Lib.hid (HHV.out.2.2.gr g5);clear g5 HEn HG3 HC3 hr hr' k7 f7;obtain ⟨c0,c1,c2,c3,c4,c5,c6,c7⟩:=HC5.out.c8;clear c0 c1 c2 c3 c4 c5 c6 c7;have hgd:Gr W5 W5.drew:=(Gr.refl W5).drew;obtain ⟨W6,hW6⟩:∃ W6,W6=W5.drew:=⟨_,rfl⟩;have HG6:Hid (Gr V3 W6):=Lib.hid (by rw [hW6];exact Gr.trans HG5.out hgd);have HH6:=Lib.hid (HHV.out.1.gr HG6.out);have HC6:Hid (Blk W6 w.heap.size TR #[.int .i64 r.k,.int .u64 r.t,.int .u64 r.p,.int .u64 r.x,.int .i64 r.g,.int .i64 r.o,.slice pb nb cb,.slice pa na ca]):=Lib.hid (by rw [hW6];exact HC5.out.gr hgd);have HBy6:=Lib.hid (fun W (g:Gr W6 W)=>HBy2.out W (Gr.trans HG6.out g));have HD6:Hid (W5.drew=W6):=Lib.hid hW6.symm;clear hgd HH hW6;go_wp2_with fail;refine Flow.regionF [] 20 (SlLa b q m c r.k r.t r.p r.x r.g r.o pb nb cb pa na ca E) (InA 7 8 11 53 54 zs (LayMid V3 b p q m c fr ys L2 z zs) (LayFin V3 b p q m fr ys L2 z zs) W6) (fun _ _ _=>True) (by kernel_rfl) (by kernel_rfl) (fun _ _ _ _ _ _ h _=>h) (InA.start (by rfl) (by rfl) (by rw [HD6.out];exact Gr.refl _)) ?steps ?fin
 case steps=>
  refine .cons (fun l a W hfr hun hup hdn hinv hdep K hK=>?_) ?_
  · have t0:=tAt (.pointer (some ⟨b,0,none⟩)) (hfr.at 0 (by kernel_rfl));refine fW0 rfl ?_;clear hdep;go_simp;exact hK _ _ True.intro (hinv.other 0 (by decide) (by decide) (by decide) (by simp) (by simp) _) (dsT (by trivial))
  refine .cons (fun l a W hfr hun hup hdn hinv hdep K hK=>?_) ?_
  · have t0:=tAt (.pointer (some ⟨b,0,none⟩)) (hfr.at 0 (by kernel_rfl));refine fW0 rfl ?_;clear hdep;go_simp;exact hK _ _ True.intro (hinv.other 1 (by decide) (by decide) (by decide) (by simp) (by simp) _) (dsT (by trivial))
  refine .cons (fun l a W hfr hun hup hdn hinv hdep K hK=>?_) ?_
  · have t47:=tAt (.pointer (some ⟨b,0,none⟩)) (hdep 47 (by kernel_rfl));refine fW0 rfl ?_;clear hdep;go_simp;exact hK _ _ True.intro (hinv.other 2 (by decide) (by decide) (by decide) (by simp) (by simp) _) (dsT (by trivial))
  refine .cons (fun l a W hfr hun hup hdn hinv hdep K hK=>?_) ?_
  · have t48:=tAt (.pointer (some ⟨b,0,none⟩)) (hdep 48 (by kernel_rfl));refine fW0 rfl ?_;clear hdep;go_simp;exact hK _ _ True.intro (hinv.other 3 (by decide) (by decide) (by decide) (by simp) (by simp) _) (dsT (by trivial))
  refine .cons (fun l a W hfr hun hup hdn hinv hdep K hK=>?_) ?_
  · have t49:=tAt (.pointer (some ⟨b,5,none⟩)) (hdep 49 (by kernel_rfl));refine fW0 rfl ?_;clear hdep;have hin:=hinv.pre (hup 8 (by decide) (by kernel_rfl));have k5:=(HH6.out.gr hin).blk.c9.2.2.2.2.2.1;go_simp;exact hK _ _ True.intro (hinv.other 4 (by decide) (by decide) (by decide) (by simp) (by simp) _) (dsT (by trivial))
  refine .cons (fun l a W hfr hun hup hdn hinv hdep K hK=>?_) ?_
  · have t4:=tAt (.pointer (some ⟨w.heap.size,0,none⟩)) (hfr.at 4 (by kernel_rfl));refine fW0 rfl ?_;clear hdep;have hin:=hinv.pre (hup 8 (by decide) (by kernel_rfl));obtain ⟨c0,c1,c2,c3,c4,c5,c6,c7⟩:=(HC6.out.gr hin).c8;go_simp;exact hK _ _ True.intro (hinv.other 5 (by decide) (by decide) (by decide) (by simp) (by simp) _) (dsT (by trivial))
  refine .cons (fun l a W hfr hun hup hdn hinv hdep K hK=>?_) ?_
  · have t9:=tAt (.int .u64 (E:Int)) (hfr.at 9 (by kernel_rfl));refine fW0 rfl ?_;clear hdep;go_simp;exact hK _ _ True.intro (hinv.other 6 (by decide) (by decide) (by decide) (by simp) (by simp) _) (dsT (by trivial))
  refine .cons (fun l a W hfr hun hup hdn hinv hdep K hK=>?_) ?_
  ·
   have t51:=tAt (.agg #[.int .i64 r.k,.int .u64 r.t,.int .u64 r.p,.int .u64 r.x,.int .i64 r.g,.int .i64 r.o,.slice pb nb cb,.slice pa na ca]) (hdep 51 (by kernel_rfl));have t52:=tAt (.int .u64 (E:Int)) (hdep 52 (by kernel_rfl));refine fW0 rfl ?_;clear hdep;have hin:=hinv.pre (hup 8 (by decide) (by kernel_rfl));go_simp
   (with_reducible refine (HBy6.out W hin).mono ?_)
   rintro e W' ⟨q7,n7,d7,rfl,hy7,g7,_⟩;exact hK _ _ True.intro (hinv.call (by decide) (by decide) (hup 8 (by decide) (by kernel_rfl)) (by rw [hfr.size];simp) g7 ⟨q7,n7,d7,rfl,hy7⟩) (dsT (by trivial))
  refine .cons (fun l a W hfr hun hup hdn hinv hdep K hK=>?_) ?_
  ·
   have t50:=tAt (.slice q m c) (hdep 50 (by kernel_rfl));refine fW0 rfl ?_;clear hdep;have hin:=hinv.pre hun;obtain ⟨q7,n7,d7,s53,hy7⟩:=hinv.got hun (hdn 7 (by decide) (by kernel_rfl));have t53:=tmpAt s53
   obtain rfl:n7=z:=by rw [← hy7.len];exact HZ.out.1
   obtain ⟨b7,o7,rfl,_⟩:=hy7.at (by have:=HZ.out;omega)
   have hh7:=HH6.out.gr hin;obtain ⟨q8,c8,W8,hrun,ht8,hu8⟩:=run_app_txt (ty:=TBs) hh7.txt hy7 (by have:=HZ.out;omega) (by have:=HZ.out;omega);have hk8:=hK (.slice q8 (m+n7) c8) W8 True.intro (hinv.app (by decide) (hup 11 (by decide) (by kernel_rfl)) (by rw [hfr.size];simp) ⟨q8,c8,rfl,⟨W,hh7,Gr.trans HG6.out hin,hu8⟩,ht8,by have:=HZ.out;omega⟩) (dsT (by trivial))
   unfold Oper.wp
   simp [execOp,resolve,invoke,builtin,Act.eval,t50,t53,hrun,Result.andThen]
   exact hk8
  refine .cons (fun l a W hfr hun hup hdn hinv hdep K hK=>?_) ?_
  · have t46:=tAt (.pointer (some ⟨b,0,none⟩)) (hdep 46 (by kernel_rfl));refine fW0 rfl ?_;clear hdep;go_simp;exact hK _ _ True.intro (hinv.other 9 (by decide) (by decide) (by decide) (by simp) (by simp) _) (dsT (by trivial))
  refine .cons (fun l a W hfr hun hup hdn hinv hdep K hK=>?_) ?_
  · have t55:=tAt (.pointer (some ⟨b,0,none⟩)) (hdep 55 (by kernel_rfl));refine fW0 rfl ?_;clear hdep;go_simp;exact hK _ _ True.intro (hinv.other 10 (by decide) (by decide) (by decide) (by simp) (by simp) _) (dsT (by trivial))
  refine .cons (fun l a W hfr hun hup hdn hinv hdep K hK=>?_) ?_
  · have t56:=tAt (.pointer (some ⟨b,5,none⟩)) (hdep 56 (by kernel_rfl));refine fW0 rfl ?_;clear hdep;obtain ⟨q8,c8,s54,hm⟩:=hinv.mid (hdn 8 (by decide) (by kernel_rfl)) hun;have t54:=tmpAt s54;have f5:=hm.blk.frozen 5;have k5:=hm.blk.c9.2.2.2.2.2.1;go_simp;exact hK undef _ True.intro (hinv.fin (by decide) (hdn 8 (by decide) (by kernel_rfl)) none undef ⟨q8,c8,hm.done⟩) (fun d hd=>by cases hd)
  exact True.intro
 case fin=>
  intro a W l hfr hall hinv hsl
  have hfin:=hinv.post (hall 8 (by decide)) (hall 11 (by decide));have e:=Flow.frame hfr [46,47,48,49,50,51,52,53,54,55,56] (List.range 58) (by kernel_rfl) (by kernel_rfl)
  simp [List.range,List.range.loop] at e
  rw [e];have HFin:=Lib.hid hfin;clear e hfr hsl hall hinv hfin
  first
   | (rename_i hB;refine hB _ _ ?_)
   | (rename_i hB y0;refine hB _ _ ?_)
   | (rename_i hB y0 y1;refine hB _ _ ?_)
   | (rename_i hB y0 y1 y2;refine hB _ _ ?_)
   | (rename_i hB y0 y1 y2 y3;refine hB _ _ ?_)
   | (rename_i hB y0 y1 y2 y3 y4;refine hB _ _ ?_)
   | (rename_i hB y0 y1 y2 y3 y4 y5;refine hB _ _ ?_)
   | (rename_i hB y0 y1 y2 y3 y4 y5 y6;refine hB _ _ ?_)
   | (rename_i hB y0 y1 y2 y3 y4 y5 y6 y7;refine hB _ _ ?_)
   | (rename_i hB y0 y1 y2 y3 y4 y5 y6 y7 y8;refine hB _ _ ?_)
   | (rename_i hB y0 y1 y2 y3 y4 y5 y6 y7 y8 y9;refine hB _ _ ?_)
   | (rename_i hB y0 y1 y2 y3 y4 y5 y6 y7 y8 y9 y10;refine hB _ _ ?_)
   | skip
  obtain ⟨q8,c8,hr8,hu8⟩:=HFin.out;have HR8:=Lib.hid (And.intro hr8 hu8);clear hr8 hu8 HFin;go_wp2_with fail;refine bodyPost_ret_by (P:=Tryz.prog) (v:=.tuple #[.int .u64 (E:Int),.int .i64 0]) (by simp [results,Tryz.results23]) rfl ?_;rw [HL2.out.1];exact ⟨q8,m+z,c8,rfl,HR8.out.1,HHV.out.2.1.comp HR8.out.2⟩
end Go.Proofs.YtlijbgapkmfnaaaGreat
namespace Go.Proofs.YtlijbgapkmfnaaaGreat
open Go.RowKit Cr
theorem atR_sub {xs:List Int} (hx:IsSec xs) (f k:Nat) (h:f+k≤256) (h1:1≤k) (h8:k≤8):Wd.dec ((xs.drop f).take k)=atR xs f k:=by
 unfold atR
 have hs:standsB xs.length (f:Int) (k:Int)=true:=by
  rw [hx.len]
  unfold standsB mayB
  simp
  omega
 rw [hs,if_pos rfl]
 unfold sub
 rw [Int.toNat_natCast,Int.toNat_natCast]
theorem run_cut24o (g E:Nat) (h1:24≤E) (h2:E≤256) (W:World):(Instr.sliceAt TS (.pointer (some ⟨g,0,none⟩)) (some (.int .i64 24)) (some (.int .i64 (E:Int))) none).run Tryz.prog W=.ok (.slice (some ⟨g,24,none⟩) (E - 24) 232) W:=by
 have hl:Tryz.prog.arrayLen TS=256:=by kernel_rfl
 have he:Tryz.prog.elem TS=5:=by kernel_rfl
 have hs:=run_sliceAt_array_lh (P:=Tryz.prog) W TS ⟨g,0,none⟩ (by kernel_rfl) .i64 .i64 24 (E:Int) (by omega) (by omega) (by rw [hl];omega);rw [hs,he,size_u8,hl]
 simp [slicedAt,Addr.add]
def RetUn (xs:List Int) (k:Nat) (w:World) (e:Ending) (w':World):Prop:=
 (¬ (numX xs=k∧manyX xs≤232)∧e=.returned (.tuple #[.slice none 0 0,.int .u64 0,.bool false])∧Gr w w') ∨
 (numX xs=k∧manyX xs≤232∧∃ v,e=.returned (.tuple #[v,.int .u64 (epX xs:Int),.bool (okX xs)])∧OwnB w' w.heap.size 5 v (bytX xs)∧Gr w w')
set_option maxRecDepth 100000 in
set_option maxHeartbeats 1000000 in
theorem runsector_any {xs:List Int} (hx:IsSec xs) (k:Nat) (w:World) (hk:k≤18446744073709551615):Calls Tryz.prog 74 #[.agg (sec (Sx xs)),.int .u64 (k:Int)] w (RetUn xs k w):=by
 obtain ⟨W1,hW1⟩:∃ W1,W1=w.alloc (.cells (sec (Sx xs)) TS):=⟨_,rfl⟩;have HB:Hid (Blk W1 w.heap.size TS (sec (Sx xs))∧Gr w W1):=Lib.hid (by rw [hW1];exact ⟨Blk.new _ _ _,Gr.new _ _⟩);have HW1:Hid (w.alloc (.cells (sec (Sx xs)) 46)=W1):=Lib.hid hW1.symm
 have HY:Hid (∀ W,Gr W1 W→Byt W (some ⟨w.heap.size,0,none⟩) 256 256 xs):=Lib.hid fun W g=>(HB.out.1.gr g).byt hx
 have HSub:Hid (∀ W,Gr W1 W→∀ f s m,f+s≤256→s≤m→m≤256→Byt W (some ⟨w.heap.size,f,none⟩) s m ((xs.drop f).take s)):=Lib.hid fun W g f s m h1 h2 h3=>by
  have h:=(HY.out W g).sub (by omega) f s m h1 h2 (by unfold maxLen;omega)
  rwa [Nat.zero_add] at h
 have HOf:Hid (∀ W,Gr W1 W→∀ f s m,f+s≤256→s≤m→m≤256→1≤s→s≤8→Calls Tryz.prog 88 #[.slice (some ⟨w.heap.size,f,none⟩) s m] W fun e w'=>e=.returned (.int .u64 (atR xs f s:Int))∧W=w'):=Lib.hid fun W g f s m h1 h2 h3 h4 h5=>by
  have h:=rof_any _ s m _ W (HSub.out W g f s m h1 h2 h3) h5
  rwa [atR_sub hx f s h1 h4 h5] at h
 have hlt:∀ f s:Nat,f+s≤256→1≤s→s≤8→atR xs f s < 256 ^ s:=fun f s h1 h2 h3=>by
  rw [← atR_sub hx f s h1 h2 h3];have h:=Wd.dec_lt _ ((hx.small.drop f).take s)
  have hl:((xs.drop f).take s).length=s:=by have:=hx.len;simp;omega
  rwa [hl] at h
 have hM4:=hlt 16 4 (by omega) (by omega) (by omega);obtain ⟨M,hM⟩:∃ M,M=manyX xs:=⟨_,rfl⟩;obtain ⟨K0,hK0⟩:∃ K0,K0=numX xs:=⟨_,rfl⟩;obtain ⟨E0,hE0⟩:∃ E0,E0=epX xs:=⟨_,rfl⟩;obtain ⟨S0,hS0⟩:∃ S0,S0=sumX xs:=⟨_,rfl⟩;obtain ⟨T0,hT0⟩:∃ T0,T0=trueX xs:=⟨_,rfl⟩;have HO16:Hid (Calls Tryz.prog 88 #[.slice (some ⟨w.heap.size,16,none⟩) 4 240] W1 fun e w'=>e=.returned (.int .u64 (M:Int))∧W1=w'):=Lib.hid (by rw [hM];exact HOf.out W1 (Gr.refl _) 16 4 240 (by omega) (by omega) (by omega) (by omega) (by omega));have HO0:Hid (Calls Tryz.prog 88 #[.slice (some ⟨w.heap.size,0,none⟩) 8 256] W1 fun e w'=>e=.returned (.int .u64 (K0:Int))∧W1=w'):=Lib.hid (by rw [hK0];exact HOf.out W1 (Gr.refl _) 0 8 256 (by omega) (by omega) (by omega) (by omega) (by omega));have HO8:Hid (∀ W,Gr W1 W→Calls Tryz.prog 88 #[.slice (some ⟨w.heap.size,8,none⟩) 8 248] W fun e w'=>e=.returned (.int .u64 (E0:Int))∧W=w'):=Lib.hid (by rw [hE0];exact fun W g=>HOf.out W g 8 8 248 (by omega) (by omega) (by omega) (by omega) (by omega));have HO20:Hid (∀ W,Gr W1 W→Calls Tryz.prog 88 #[.slice (some ⟨w.heap.size,20,none⟩) 4 236] W fun e w'=>e=.returned (.int .u64 (S0:Int))∧W=w'):=Lib.hid (by rw [hS0];exact fun W g=>HOf.out W g 20 4 236 (by omega) (by omega) (by omega) (by omega) (by omega))
 have hM5:M < 4294967296:=by rw [hM];have h:manyX xs < 256 ^ 4:=hM4;omega
 have HX:=Lib.hid hx;have HE:Hid (M=manyX xs∧K0=numX xs∧E0=epX xs∧S0=sumX xs∧T0=trueX xs):=Lib.hid ⟨hM,hK0,hE0,hS0,hT0⟩;clear hW1 hlt hM4 hM hK0 hE0 hS0 hT0 HOf hx
 by_cases h1:K0=k
 ·
  have t1:((K0:Int) != (k:Int))=false:=by simp [h1]
  by_cases h2:M≤232
  ·
   have t2:¬ (232:Int) < (M:Int):=by omega
   have HK:Hid (K0=k∧M≤232):=Lib.hid ⟨h1,h2⟩;clear h1 hk
   go_enter Tryz.func74,Tryz.ntmps74
   go_wp2_with fail;rw [HW1.out];refine HO16.out.mono ?_;rintro e w1 ⟨rfl,rfl⟩;go_wp2_with fail;refine HO0.out.mono ?_;rintro e w1 ⟨rfl,rfl⟩;have hgd:Gr W1 W1.drew:=(Gr.refl W1).drew;have HYa:=Lib.hid (fun f s m (h1:f+s≤256) (h2:s≤m) (h3:m≤256)=>HSub.out W1.drew hgd f s m h1 h2 h3);have HGa:=Lib.hid hgd;have HSz:Hid (W1.heap.size≤W1.drew.heap.size):=Lib.hid hgd.size;have HL20:Hid ((xs.take 20).length=20∧(xs.drop 24).length=232∧xs.length=256):=Lib.hid ⟨by rw [List.length_take,HX.out.len];rfl,by rw [List.length_drop,HX.out.len],HX.out.len⟩;clear hgd;go_wp2_with fail
   go_region_held3 (fun _=>True) (exact True.intro) (first
    | (refine step_app_byt bt rfl (.tmp 20) (.tmp 21) rfl W1.heap.size v20 (xs.take 20) rfl HO20a.out _ 232 232 (xs.drop 24) rfl HY24.out (by rw [HL20.out.1];omega) HS20.out ?_;intro v22 Wb ho22 hg22;obtain ⟨p22,c22,hv22⟩:=ho22.shape 252 (by rw [List.length_append,HL20.out.1,HL20.out.2.1]);subst hv22;have HO22:=Lib.hid ho22;have HGb:=Lib.hid (Below.grown HG20.out hg22 HG20.out.size (fun k e=>HO20a.out.base k e));clear ho22 hg22)
    | (refine step_app_byt bt rfl (.const (.slice none 0 0)) (.tmp 19) rfl W1.heap.size (.slice none 0 0) [] rfl (OwnB.nil _ _ _) _ 20 256 (xs.take 20) rfl (HYa.out 0 20 256 (by omega) (by omega) (by omega)) (by simp) HSz.out ?_;intro v20 Wa ho20 hg20;have ho20':OwnB Wa W1.heap.size 5 v20 (xs.take 20):=ho20;have HO20a:=Lib.hid ho20';have HG20:=Lib.hid (Below.grown HGa.out hg20 HGa.out.size (fun k e=>by simp [Value.ownBlock] at e));have HS20:Hid (W1.heap.size≤Wa.heap.size):=Lib.hid HG20.out.size;have HY24:Hid (Byt Wa (some ⟨w.heap.size,24,none⟩) 232 232 (xs.drop 24)):=Lib.hid (by have h:=HSub.out Wa HG20.out 24 232 232 (by omega) (by omega) (by omega);rwa [List.take_of_length_le (by rw [HL20.out.2.1];exact Nat.le_refl _)] at h);clear ho20 ho20' hg20))
   obtain ⟨J,hJ⟩:∃ J,J=24+M:=⟨_,rfl⟩;have hw1:IntKind.i64.wrap (M:Int)=(M:Int):=IntWalk.i64_in _ (by omega)
   have hw2:IntKind.i64.wrap (24+(M:Int))=(J:Int):=by rw [IntWalk.i64_in _ (by omega)];omega
   have hw3:24+(M:Int)=(J:Int):=by omega
   have hw4:IntKind.i64.wrap (J:Int)=(J:Int):=IntWalk.i64_in _ (by omega)
   have hrc:∀ W,(Instr.sliceAt TS (.pointer (some ⟨w.heap.size,0,none⟩)) (some (.int .i64 24)) (some (.int .i64 (J:Int))) none).run Tryz.prog W=.ok (.slice (some ⟨w.heap.size,24,none⟩) M 232) W:=fun W=>by
    have h:=run_cut24o w.heap.size J (by omega) (by omega) W
    rwa [show J - 24=M by omega] at h
   have HM:=Lib.hid h2;have HT:Hid (U (sumW (xs.take 20++xs.drop 24))=(T0:Int)∧T0 < 4294967296):=Lib.hid ⟨by rw [HE.out.2.2.2.2];rfl,by rw [HE.out.2.2.2.2];exact (sumW (xs.take 20++xs.drop 24)).isLt⟩
   have HSum:Hid (∀ W,Byt W p22 252 c22 (xs.take 20++xs.drop 24)→Calls Tryz.prog 67 #[.slice p22 252 c22] W fun e w'=>e=.returned (.int .u32 (T0:Int))∧W=w'):=Lib.hid fun W h=>by
    have h2:=refSum_any _ _ _ _ W h
    rwa [HT.out.1] at h2
   have hw64:IntKind.u64.wrap (T0:Int)=(T0:Int):=by have:=HT.out.2;rw [IntKind.wrap_u64];omega
   have HBt:Hid (∀ W,Gr W1 W→Byt W (some ⟨w.heap.size,24,none⟩) M 232 (bytX xs)):=Lib.hid fun W g=>by
    have h:=HSub.out W g 24 M 232 (by omega) (by omega) (by omega)
    unfold bytX
    rwa [← HE.out.1]
   clear hJ h2 t1 t2 HO20a HS20 HY24 HG20 HGa HYa HSz HO0 HO16;go_wp2_with fail
   go_region_held3 (fun _=>True) (exact True.intro) (first
    | (go_at_call 67;with_reducible refine (HSum.out _ HO22b.out.byt.1).mono ?_;rintro e w3 ⟨rfl,rfl⟩)
    | (go_at_call 88;first | (with_reducible refine (HO8.out _ HGc.out).mono ?_;rintro e w3 ⟨rfl,rfl⟩) | (with_reducible refine (HO20.out _ HGc.out).mono ?_;rintro e w3 ⟨rfl,rfl⟩))
    | (refine step_app_byt bt rfl (.const (.slice none 0 0)) (.tmp 26) rfl Wb.heap.size (.slice none 0 0) [] rfl (OwnB.nil _ _ _) _ M 232 (bytX xs) rfl (HBt.out _ (HGb.out.drew)) (by simp;omega) (Nat.le_refl _) ?_;intro v27 Wc ho27 hg27;have ho27':OwnB Wc Wb.heap.size 5 v27 (bytX xs):=ho27;have HO27:=Lib.hid ho27';have HGc:=Lib.hid (Below.grown HGb.out.drew hg27 HGb.out.size (fun k e=>by simp [Value.ownBlock] at e));have HO22b:=Lib.hid ((HO22.out.below' ((Gr.refl Wb).drew)).grown hg27 (fun k e=>by simp [Value.ownBlock] at e));clear ho27 ho27' hg27))
   have HOkX:Hid (((T0:Int) == (S0:Int))=okX xs):=Lib.hid (by
    unfold okX
    rw [← HE.out.1,← HE.out.2.2.2.1,← HE.out.2.2.2.2];have h2:decide (M≤232)=true:=decide_eq_true HM.out;rw [h2,Bool.true_and]
    by_cases h:T0=S0
    · subst h;simp
    ·
     have h3:¬ (T0:Int)=(S0:Int):=by omega
     have h4:¬ S0=T0:=fun e=>h e.symm
     rw [decide_eq_false h4]
     simpa using h3)
   have HLo:Hid (w.heap.size≤Wb.heap.size):=Lib.hid (Nat.le_trans HB.out.2.size HGb.out.size);rw [HOkX.out];clear hw1 hw2 hw3 hw4 hrc hw64;go_wp2_with fail;refine bodyPost_ret_by (P:=Tryz.prog) (v:=.tuple #[v27,.int .u64 (E0:Int),.bool (okX xs)]) (by simp [results,Tryz.results74]) rfl ?_;refine .inr ⟨by rw [← HE.out.2.1];exact HK.out.1,by rw [← HE.out.1];exact HM.out,v27,by rw [HE.out.2.2.1],?_,Gr.trans HB.out.2 HGc.out⟩;exact HO27.out.base_le HLo.out
  ·
   have t2:(232:Int) < (M:Int):=by omega
   have HN:Hid (¬ (numX xs=k∧manyX xs≤232)):=Lib.hid (by rw [← HE.out.1];exact fun h=>h2 h.2);clear h1 hk h2
   go_enter Tryz.func74,Tryz.ntmps74
   go_wp2_with fail;rw [HW1.out];refine HO16.out.mono ?_;rintro e w1 ⟨rfl,rfl⟩;go_wp2_with fail;refine HO0.out.mono ?_;rintro e w1 ⟨rfl,rfl⟩;go_wp2_with fail;refine bodyPost_ret_by (P:=Tryz.prog) (v:=.tuple #[.slice none 0 0,.int .u64 0,.bool false]) (by simp [results,Tryz.results74]) rfl ?_;exact .inl ⟨HN.out,rfl,HB.out.2⟩
 ·
  have t1:((K0:Int) != (k:Int))=true:=by
   have:¬ (K0:Int)=(k:Int):=by omega
   simpa using this
  have HN:Hid (¬ (numX xs=k∧manyX xs≤232)):=Lib.hid (by rw [← HE.out.2.1];exact fun h=>h1 h.1);clear h1 hk
  go_enter Tryz.func74,Tryz.ntmps74
  go_wp2_with fail;rw [HW1.out];refine HO16.out.mono ?_;rintro e w1 ⟨rfl,rfl⟩;go_wp2_with fail;refine HO0.out.mono ?_;rintro e w1 ⟨rfl,rfl⟩;go_wp2_with fail;refine bodyPost_ret_by (P:=Tryz.prog) (v:=.tuple #[.slice none 0 0,.int .u64 0,.bool false]) (by simp [results,Tryz.results74]) rfl ?_;exact .inl ⟨HN.out,rfl,HB.out.2⟩
end Go.Proofs.YtlijbgapkmfnaaaGreat
namespace Go.Proofs.YtlijbgapkmfnaaaGreat
open Go.RowKit Go.Maps
def SlOpE (b:Nat) (p:Value) (n:Int) (l:Int) (g:Int) (ep:Nat) (tl:Nat) (N:Nat) (slot:Nat) (v:Value) (_:World):Prop:=
 match slot with
 | 14=>v=.agg #[.int .i64 n,.int .i64 l,.int .i64 g]
 | 15=>v=.bool true
 | 16=>v=.bool false
 | 17=>v=.bool false
 | 18=>v=p
 | 19=>v=.int .i64 (N:Int)
 | 20=>v=.pointer (some ⟨b,0,none⟩)
 | 21=>v=.int .i64 n
 | 22=>v=.bool false
 | 23=>v=.bool false
 | 24=>v=.bool false
 | 25=>v=.int .u64 (ep:Int)
 | 26=>v=.bool false
 | 27=>v=.bool false
 | 28=>v=.bool false
 | 29=>v=.int .u64 (ep:Int)
 | 30=>v=.bool false
 | 31=>v=.bool false
 | 32=>v=.bool false
 | 33=>v=.int .u64 (tl:Int)
 | 34=>v=.bool false
 | 35=>v=.bool false
 | _=>True
theorem slOpE_gr {b:Nat} {p:Value} {n:Int} {l:Int} {g:Int} {ep:Nat} {tl:Nat} {N:Nat} {s:Nat} {v:Value} {w w':World} (h:SlOpE b p n l g ep tl N s v w) (_:Gr w w'):SlOpE b p n l g ep tl N s v w':=h
def RetOpE (x:Int) (w:World) (e:Ending) (w':World):Prop:=e=.returned (.tuple #[.pointer none,.slice none 0 0,.int .i64 x])∧Gr w w'
def RetOp (p:Value) (s:St) (n l g:Int) (ep tl:Nat) (w:World) (e:Ending) (w':World):Prop:=
 (opOk s l.toNat ep tl=false∧RetOpE 4 w e w') ∨
 (opOk s l.toNat ep tl=true∧∃ b v L q m,e=.returned (.tuple #[.pointer (some ⟨b,0,none⟩),v,.int .i64 0])∧OwnR ShL w' w.heap.size TLd v L∧L.map LX3=logT tl (opX s l.toNat ep tl)∧LgAt w' b p q m m (opL s n l g ep tl)∧(∀ k,lgS b q k→w.heap.size≤k)∧Gr w w')
set_option maxRecDepth 100000 in
set_option maxHeartbeats 1000000 in
theorem wOpen_any {F:Nat→Prop} {s:St} (D:Nat) (p:Value) (n l g:Int) (ep tl:Nat) (w:World) (hp:p=.pointer (some ⟨D,0,none⟩)) (hd:Dk w F p s) (hm:mayL n l g=true) (hl:l≤80) (ht:tl≤4611686018427387904) (he:1≤ep) (he2:ep≤4611686018427387904) (hn:n≤s.ls.length) (hn2:3+l≤s.ls.length) :
  Calls Tryz.prog 52 #[p,.agg #[.int .i64 n,.int .i64 l,.int .i64 g],.int .u64 (tl:Int),.int .u64 (ep:Int)] w (RetOp p s n l g ep tl w):=by
 obtain ⟨W1,hW1⟩:∃ W1,W1=w.alloc (.cells #[.int .i64 n,.int .i64 l,.int .i64 g] 97):=⟨_,rfl⟩;have HB:Hid (Blk W1 w.heap.size 97 #[.int .i64 n,.int .i64 l,.int .i64 g]):=Lib.hid (by rw [hW1];exact Blk.new _ _ _);have HG1:Hid (Gr w W1):=Lib.hid (by rw [hW1];exact Gr.new _ _);have HW1:=Lib.hid hW1.symm;have HMay:=Lib.hid (fun W=>mayS_any n l g W)
 rw [hm] at HMay
 obtain ⟨N,hN⟩:∃ N,N=s.ls.length:=⟨_,rfl⟩;have HSec:=Lib.hid (fun W (gr:Gr W1 W)=>Sectors_any W (hd.gr (Gr.trans HG1.out gr)))
 rw [← hN] at HSec hn
 have HQ1:Hid (¬ (N:Int) < n):=Lib.hid (by omega);have HQ2:Hid (((ep:Int) == 0)=false):=Lib.hid (by simp;omega);have HQ3:Hid (¬ 4611686018427387904 < (ep:Int)):=Lib.hid (by omega);have HQ4:Hid (¬ 4611686018427387904 < (tl:Int)):=Lib.hid (by omega);have HRd:=Lib.hid (fun b W (gr:Gr w W) (hb:Blk W b TLg #[p,.int .i64 n,.int .i64 l,.int .i64 g,.int .u64 ep,.int .u64 tl,.int .u64 0,.slice none 0 0,.int .i64 0,.bool false])=>wread_any D b p n l g ep tl W hb hp (hd.gr gr) hm hl ht he he2 hn2);have HP:=Lib.hid hp;clear hW1 hm hN hn hn2 hl he he2 ht hp hd
 go_enter Tryz.func52,Tryz.ntmps52
 go_wp2_with fail;rw [HW1.out];refine Flow.region (SlOpE w.heap.size p n l g ep tl N) (Gr W1) Gr (by kernel_rfl) (by kernel_rfl) (fun _ _ _ _ h g=>slOpE_gr h g) ⟨rfl,rfl,rfl,Nat.le_refl _,fun _ _=>rfl⟩ ?steps ?fin
 case steps=>
  refine .cons (fun a W hfr hinv hdep K hK=>?_) ?_
  · have t5:=tAt (.pointer (some ⟨w.heap.size,0,none⟩)) (hfr.at 5 (by kernel_rfl));obtain ⟨⟨c0,c1,c2⟩,_⟩:=(HB.out.gr hinv).c3;refine fW0 rfl ?_;clear hfr hdep;go_simp;exact hK _ _ (Gr.refl _) hinv (dsT (by trivial))
  refine .cons (fun a W hfr hinv hdep K hK=>?_) ?_
  · have t14:=tAt (.agg #[.int .i64 n,.int .i64 l,.int .i64 g]) (hdep 14 (by kernel_rfl));refine fW0 rfl ?_;clear hfr hdep;go_simp;refine (HMay.out W).mono ?_;rintro e W' ⟨rfl,g1⟩;exact hK _ _ g1 (Gr.trans hinv g1) (dsT (by trivial))
  refine .cons (fun a W hfr hinv hdep K hK=>?_) ?_
  · have t15:=tAt (.bool true) (hdep 15 (by kernel_rfl));refine fW0 rfl ?_;clear hfr hdep;go_simp;exact hK _ _ (Gr.refl _) hinv (dsT (by trivial))
  refine .cons (fun a W hfr hinv hdep K hK=>?_) ?_
  · have t16:=tAt (.bool false) (hdep 16 (by kernel_rfl));refine fW0 rfl ?_;clear hfr hdep;go_simp;exact hK _ _ (Gr.refl _) hinv (dsT (by trivial))
  refine .cons (fun a W hfr hinv hdep K hK=>?_) ?_
  · have sg:a.tmps.getD 17 undef=.bool false:=hdep 17 (by kernel_rfl);have t0:=tAt (p) (hfr.at 0 (by kernel_rfl));rw [if_pos (Flow.wanted_yes 3 false 17 rfl (by kernel_rfl) sg)];clear hfr hdep;go_simp;exact hK _ _ (Gr.refl _) hinv (dsT (by trivial))
  refine .cons (fun a W hfr hinv hdep K hK=>?_) ?_
  · have sg:a.tmps.getD 17 undef=.bool false:=hdep 17 (by kernel_rfl);have t18:=tAt (p) (hdep 18 (by kernel_rfl));rw [if_pos (Flow.wanted_yes 3 false 17 rfl (by kernel_rfl) sg)];clear hfr hdep;go_simp;refine (HSec.out W hinv).mono ?_;rintro e W' ⟨rfl,rfl⟩;exact hK _ _ (Gr.refl _) hinv (dsT (by trivial))
  refine .cons (fun a W hfr hinv hdep K hK=>?_) ?_
  · have sg:a.tmps.getD 17 undef=.bool false:=hdep 17 (by kernel_rfl);have t5:=tAt (.pointer (some ⟨w.heap.size,0,none⟩)) (hfr.at 5 (by kernel_rfl));rw [if_pos (Flow.wanted_yes 3 false 17 rfl (by kernel_rfl) sg)];clear hfr hdep;go_simp;exact hK _ _ (Gr.refl _) hinv (dsT (by trivial))
  refine .cons (fun a W hfr hinv hdep K hK=>?_) ?_
  · have sg:a.tmps.getD 17 undef=.bool false:=hdep 17 (by kernel_rfl);have t20:=tAt (.pointer (some ⟨w.heap.size,0,none⟩)) (hdep 20 (by kernel_rfl));obtain ⟨⟨c0,c1,c2⟩,_⟩:=(HB.out.gr hinv).c3;rw [if_pos (Flow.wanted_yes 3 false 17 rfl (by kernel_rfl) sg)];clear hfr hdep;go_simp;exact hK _ _ (Gr.refl _) hinv (dsT (by trivial))
  refine .cons (fun a W hfr hinv hdep K hK=>?_) ?_
  ·
   have sg:a.tmps.getD 17 undef=.bool false:=hdep 17 (by kernel_rfl);have t19:=tAt (.int .i64 (N:Int)) (hdep 19 (by kernel_rfl));have t21:=tAt (.int .i64 n) (hdep 21 (by kernel_rfl))
   have hq:¬ (N:Int) < n:=by have:=HQ1.out;omega
   rw [if_pos (Flow.wanted_yes 3 false 17 rfl (by kernel_rfl) sg)];clear hfr hdep;go_simp;exact hK _ _ (Gr.refl _) hinv (dsT (by trivial))
  refine .cons (fun a W hfr hinv hdep K hK=>?_) ?_
  · have t17:=tAt (.bool false) (hdep 17 (by kernel_rfl));have t22:=tAt (.bool false) (hdep 22 (by kernel_rfl));refine fW0 rfl ?_;clear hfr hdep;go_simp;exact hK _ _ (Gr.refl _) hinv (dsT (by trivial))
  refine .cons (fun a W hfr hinv hdep K hK=>?_) ?_
  · have t23:=tAt (.bool false) (hdep 23 (by kernel_rfl));refine fW0 rfl ?_;clear hfr hdep;go_simp;exact hK _ _ (Gr.refl _) hinv (dsT (by trivial))
  refine .cons (fun a W hfr hinv hdep K hK=>?_) ?_
  · have sg:a.tmps.getD 24 undef=.bool false:=hdep 24 (by kernel_rfl);have t3:=tAt (.int .u64 (ep:Int)) (hfr.at 3 (by kernel_rfl));rw [if_pos (Flow.wanted_yes 10 false 24 rfl (by kernel_rfl) sg)];clear hfr hdep;go_simp;exact hK _ _ (Gr.refl _) hinv (dsT (by trivial))
  refine .cons (fun a W hfr hinv hdep K hK=>?_) ?_
  · have sg:a.tmps.getD 24 undef=.bool false:=hdep 24 (by kernel_rfl);have t25:=tAt (.int .u64 (ep:Int)) (hdep 25 (by kernel_rfl));have hq:=HQ2.out;rw [if_pos (Flow.wanted_yes 10 false 24 rfl (by kernel_rfl) sg)];clear hfr hdep;go_simp;exact hK _ _ (Gr.refl _) hinv (dsT (by trivial))
  refine .cons (fun a W hfr hinv hdep K hK=>?_) ?_
  · have t24:=tAt (.bool false) (hdep 24 (by kernel_rfl));have t26:=tAt (.bool false) (hdep 26 (by kernel_rfl));refine fW0 rfl ?_;clear hfr hdep;go_simp;exact hK _ _ (Gr.refl _) hinv (dsT (by trivial))
  refine .cons (fun a W hfr hinv hdep K hK=>?_) ?_
  · have t27:=tAt (.bool false) (hdep 27 (by kernel_rfl));refine fW0 rfl ?_;clear hfr hdep;go_simp;exact hK _ _ (Gr.refl _) hinv (dsT (by trivial))
  refine .cons (fun a W hfr hinv hdep K hK=>?_) ?_
  · have sg:a.tmps.getD 28 undef=.bool false:=hdep 28 (by kernel_rfl);have t3:=tAt (.int .u64 (ep:Int)) (hfr.at 3 (by kernel_rfl));rw [if_pos (Flow.wanted_yes 14 false 28 rfl (by kernel_rfl) sg)];clear hfr hdep;go_simp;exact hK _ _ (Gr.refl _) hinv (dsT (by trivial))
  refine .cons (fun a W hfr hinv hdep K hK=>?_) ?_
  ·
   have sg:a.tmps.getD 28 undef=.bool false:=hdep 28 (by kernel_rfl);have t29:=tAt (.int .u64 (ep:Int)) (hdep 29 (by kernel_rfl))
   have hq:¬ 4611686018427387904 < (ep:Int):=by have:=HQ3.out;omega
   rw [if_pos (Flow.wanted_yes 14 false 28 rfl (by kernel_rfl) sg)];clear hfr hdep;go_simp;exact hK _ _ (Gr.refl _) hinv (dsT (by trivial))
  refine .cons (fun a W hfr hinv hdep K hK=>?_) ?_
  · have t28:=tAt (.bool false) (hdep 28 (by kernel_rfl));have t30:=tAt (.bool false) (hdep 30 (by kernel_rfl));refine fW0 rfl ?_;clear hfr hdep;go_simp;exact hK _ _ (Gr.refl _) hinv (dsT (by trivial))
  refine .cons (fun a W hfr hinv hdep K hK=>?_) ?_
  · have t31:=tAt (.bool false) (hdep 31 (by kernel_rfl));refine fW0 rfl ?_;clear hfr hdep;go_simp;exact hK _ _ (Gr.refl _) hinv (dsT (by trivial))
  refine .cons (fun a W hfr hinv hdep K hK=>?_) ?_
  · have sg:a.tmps.getD 32 undef=.bool false:=hdep 32 (by kernel_rfl);have t2:=tAt (.int .u64 (tl:Int)) (hfr.at 2 (by kernel_rfl));rw [if_pos (Flow.wanted_yes 18 false 32 rfl (by kernel_rfl) sg)];clear hfr hdep;go_simp;exact hK _ _ (Gr.refl _) hinv (dsT (by trivial))
  refine .cons (fun a W hfr hinv hdep K hK=>?_) ?_
  ·
   have sg:a.tmps.getD 32 undef=.bool false:=hdep 32 (by kernel_rfl);have t33:=tAt (.int .u64 (tl:Int)) (hdep 33 (by kernel_rfl))
   have hq:¬ 4611686018427387904 < (tl:Int):=by have:=HQ4.out;omega
   rw [if_pos (Flow.wanted_yes 18 false 32 rfl (by kernel_rfl) sg)];clear hfr hdep;go_simp;exact hK _ _ (Gr.refl _) hinv (dsT (by trivial))
  refine .cons (fun a W hfr hinv hdep K hK=>?_) ?_
  · have t32:=tAt (.bool false) (hdep 32 (by kernel_rfl));have t34:=tAt (.bool false) (hdep 34 (by kernel_rfl));refine fW0 rfl ?_;clear hfr hdep;go_simp;exact hK _ _ (Gr.refl _) hinv (dsT (by trivial))
  exact True.intro
 case fin=>
  intro a W hfr hfin hsl
  have s35:a.tmps.getD 35 undef=.bool false:=hsl 21 _ 35 rfl rfl;have t35:=tmpAt s35;have e:=Flow.frame hfr [14,15,16,17,18,19,20,21,22,23,24,25,26,27,28,29,30,31,32,33,34,35] (List.range 52) (by kernel_rfl) (by kernel_rfl)
  simp [List.range,List.range.loop] at e
  rw [t35] at e
  rw [e];clear e hfr hsl s35 t35
  first
   | (rename_i hB;refine hB _ _ ?_)
   | (rename_i hB y0;refine hB _ _ ?_)
   | (rename_i hB y0 y1;refine hB _ _ ?_)
   | (rename_i hB y0 y1 y2;refine hB _ _ ?_)
   | (rename_i hB y0 y1 y2 y3;refine hB _ _ ?_)
   | (rename_i hB y0 y1 y2 y3 y4;refine hB _ _ ?_)
   | (rename_i hB y0 y1 y2 y3 y4 y5;refine hB _ _ ?_)
   | (rename_i hB y0 y1 y2 y3 y4 y5 y6;refine hB _ _ ?_)
  have HFin:=Lib.hid hfin;clear hfin;have hp:=HP.out;subst hp;obtain ⟨⟨c0,c1,c2⟩,_⟩:=(HB.out.gr HFin.out).c3;have HGW:Hid (Gr w W):=Lib.hid (Gr.trans HG1.out HFin.out);obtain ⟨W2,hW2⟩:∃ W2,W2=W.alloc (.cells #[.pointer (some ⟨D,0,none⟩),.int .i64 n,.int .i64 l,.int .i64 g,.int .u64 ep,.int .u64 tl,.int .u64 0,.slice none 0 0,.int .i64 0,.bool false] TLg):=⟨_,rfl⟩;have HB2:Hid (Blk W2 W.heap.size TLg #[.pointer (some ⟨D,0,none⟩),.int .i64 n,.int .i64 l,.int .i64 g,.int .u64 ep,.int .u64 tl,.int .u64 0,.slice none 0 0,.int .i64 0,.bool false]):=Lib.hid (by rw [hW2];exact Blk.new _ _ _);have HG2:Hid (Gr w W2∧Gr W W2):=Lib.hid (by rw [hW2];exact ⟨Gr.trans HGW.out (Gr.new _ _),Gr.new _ _⟩);have HW2:Hid (W.alloc (.cells #[.pointer (some ⟨D,0,none⟩),.int .i64 n,.int .i64 l,.int .i64 g,.int .u64 ep,.int .u64 tl,.int .u64 0,.slice none 0 0,.int .i64 0,.bool false] 107)=W2):=Lib.hid hW2.symm;have HR2:=Lib.hid (HRd.out W.heap.size W2 HG2.out.1 HB2.out);clear hW2;go_wp2_with fail;rw [HW2.out];refine HR2.out.mono ?_;rintro e W3 (⟨ho,rfl,g3⟩ | ⟨ho,v,L,q,m,rfl,hown,hL,hlg,hu⟩)
  · have HO:=Lib.hid ho;have HG3:=Lib.hid (Gr.trans HG2.out.1 g3);clear ho g3 c0 c1 c2;go_wp2_with fail;refine bodyPost_ret_by (P:=Tryz.prog) (v:=.tuple #[.pointer none,.slice none 0 0,.int .i64 4]) (by simp [results,Tryz.results52]) rfl ?_;exact .inl ⟨HO.out,rfl,HG3.out⟩
  ·
   have hWs:=HGW.out.size;have hW2s:W.heap.size < W2.heap.size:=HB2.out.lt
   have hlow:∀ k,lgS W.heap.size q k→w.heap.size≤k:=fun k hk=>by
    rcases hu.fresh k hk with h | h
    · omega
    · omega
   have hG:Gr w W3:=Below.trans HG2.out.1 ((hu.below (B:=w.heap.size) (by omega) (fun k hk=>by omega)));have HR:Hid (RetOp (.pointer (some ⟨D,0,none⟩)) s n l g ep tl w (.returned (.tuple #[.pointer (some ⟨W.heap.size,0,none⟩),v,.int .i64 0])) W3):=Lib.hid (.inr ⟨ho,W.heap.size,v,L,q,m,rfl,hown.base_le (by omega),hL,hlg,hlow,hG⟩);clear ho hown hL hlg hu hlow hG hWs hW2s c0 c1 c2;go_wp2_with fail;refine bodyPost_ret_by (P:=Tryz.prog) (v:=.tuple #[.pointer (some ⟨W.heap.size,0,none⟩),v,.int .i64 0]) (by simp [results,Tryz.results52]) rfl ?_;exact HR.out
end Go.Proofs.YtlijbgapkmfnaaaGreat
namespace Go.Proofs.YtlijbgapkmfnaaaGreat
open Cr
theorem rec_na {r:Rc} (hm:mayR r=true) (at':Nat) (rest:List Int):atR (recL r at'++rest) 34 1=r.a.length:=by
 have f7:=(mayR_fits hm).na;obtain ⟨k,t,p,x,g,o,b,a⟩:=r
 simp only at f7
 obtain ⟨S,hS⟩:∃ S,S=Wd.enc 2 (29+b.length+a.length):=⟨_,rfl⟩;obtain ⟨M,hM⟩:∃ M,M=Wd.enc 4 (sumL ⟨k,t,p,x,g,o,b,a⟩ at').toNat:=⟨_,rfl⟩
 have lS:S.length=2:=by rw [hS];exact Wd.enc_length _ _
 have lM:M.length=4:=by rw [hM];exact Wd.enc_length _ _
 have lE:∀ j n,(Wd.enc j n).length=j:=Wd.enc_length
 have e:recL ⟨k,t,p,x,g,o,b,a⟩ at'++rest=(S++(M++(Wd.enc 1 k.toNat++(Wd.enc 8 t++(Wd.enc 8 p++(Wd.enc 8 x++(Wd.enc 2 g.toNat++Wd.enc 1 o.toNat)))))))++(Wd.enc 1 a.length++(b++(a++rest))):=by
  unfold recL sizeL
  rw [← hM,← hS]
  simp [bodyL,rows9]
 refine (atR_mid' (xs:=recL ⟨k,t,p,x,g,o,b,a⟩ at'++rest) (f:=34) (s:=1) (k:=1) (n:=a.length) e (by simp [lS,lM,lE]) rfl (by omega) (by omega)).trans ?_;exact Nat.mod_eq_of_lt (by omega)
def szR (xs:List Int):Nat:=Wd.dec (xs.take 2)
def cand2 (xs:List Int) (m:Nat):Rc:=
 { k:=(atR xs 6 1:Nat),t:=atR xs 7 8,p:=atR xs 15 8,x:=atR xs 23 8,g:=(atR xs 31 2:Nat),o:=(atR xs 33 1:Nat),b:=(xs.drop 35).take m,a:=(xs.drop (35+m)).take (atR xs 34 1) }
theorem cand2_in (xs:List Int) (hx:Wd.Small xs) (m:Nat):(cand2 xs m).In:=by
 have h:=cand_in xs hx;exact ⟨h.t,h.p,h.x,(hx.drop _).take _,(hx.drop _).take _⟩
theorem ref_yes {xs:List Int} {at' m:Nat} (hx:Wd.Small xs) (h1:szR xs+6≤xs.length) (hm:mayR (cand2 xs m)=true) (he:recL (cand2 xs m) at'=xs.take (6+szR xs)):ofB xs at'=true∧cand xs=cand2 xs m∧(recL (cand xs) at').length=6+szR xs:=by
 have hl:(recL (cand2 xs m) at').length=6+szR xs:=by rw [he,List.length_take];omega
 have hp:preB xs (recL (cand2 xs m) at')=true:=by rw [preB_iff,hl,he]
 have hc:=cand_pre hm (cand2_in xs hx m) hp;refine ⟨?_,hc,by rw [hc,hl]⟩
 unfold ofB
 rw [hc,hm,hp]
 rfl
theorem ref_of {xs:List Int} {at':Nat} (h:ofB xs at'=true):35≤xs.length∧29≤szR xs∧szR xs+6≤xs.length∧atR xs 34 1+29≤szR xs∧mayR (cand2 xs (szR xs - 29 - atR xs 34 1))=true∧cand2 xs (szR xs - 29 - atR xs 34 1)=cand xs∧recL (cand2 xs (szR xs - 29 - atR xs 34 1)) at'=xs.take (6+szR xs):=by
 unfold ofB at h
 rw [Bool.and_eq_true] at h
 obtain ⟨hm,hp⟩:=h;have hf:=mayR_fits hm;have f7:=hf.na;have f8:=hf.nb;have f9:=hf.nb1;have hs:=preB_split hp;have hk:(cand xs).k=((atR xs 6 1:Nat):Int):=rfl
 have hself:∀ m,m=(if atR xs 6 1=1 then atR xs 34 1 else 0)→cand2 xs m=cand xs:=fun m h=>by subst h;rfl
 obtain ⟨r,hr⟩:∃ r,r=cand xs:=⟨_,rfl⟩
 rw [← hr] at hm hp f7 f8 f9 hs hk hself ⊢
 obtain ⟨T,hT⟩:∃ T,T=xs.drop (recL r at').length:=⟨_,rfl⟩
 rw [← hT] at hs
 have hna:=rec_na hm at' T
 rw [← hs] at hna
 have hlen:xs.length=35+r.b.length+r.a.length+T.length:=by
  have:=congrArg List.length hs
  rw [List.length_append,recL_len] at this
  exact this
 have hsz:szR xs=29+r.b.length+r.a.length:=by
  have e:xs.take 2=sizeL r:=by
   rw [hs]
   unfold recL
   rw [List.append_assoc];exact List.take_left' (show (sizeL r).length=2 by unfold sizeL;exact Wd.enc_length _ _)
  unfold szR
  rw [e]
  unfold sizeL
  rw [Wd.dec_enc];exact Nat.mod_eq_of_lt (by omega)
 have hb:szR xs - 29 - atR xs 34 1=r.b.length:=by rw [hsz,hna];omega
 have hif:(if atR xs 6 1=1 then atR xs 34 1 else 0)=r.b.length:=by
  rw [f8,hna,hk]
  split <;> split <;> omega
 have hc:cand2 xs (szR xs - 29 - atR xs 34 1)=r:=by
  rw [hb];exact hself _ hif.symm
 refine ⟨by omega,by omega,by omega,by omega,by rw [hc];exact hm,hc,?_⟩;rw [hc]
 have hl:(recL r at').length=6+szR xs:=by rw [recL_len];omega
 rw [← hl];exact (preB_iff.1 hp).symm
end Go.Proofs.YtlijbgapkmfnaaaGreat
