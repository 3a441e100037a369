/-
  Texts, put together: Wal21 RefWal10 RefWal8.
-/
import Derived.StillTailTactics
import Derived.Test.YtdmhemgepdknhaaGreatV1
import Derived.Test.YtdmhemgepdknhaaGreatV13
import Derived.Test.YtdmhemgepdknhaaGreatV20
import Derived.Test.YtdmhemgepdknhaaGreatV22
import Derived.Test.YtdmhemgepdknhaaGreatV25
set_option linter.unusedVariables false
set_option linter.unusedSimpArgs false
namespace Go.Proofs.YtdmhemgepdknhaaGreat
open Go.RowKit Go.Maps Go.Shelf Cr
attribute [local go_sem] Oper.semAt_some
theorem OwnR.held {α:Type} {S:Shp α} {w w':World} {base:Nat} {T:TypeId} {v:Value} {L:List α} (h:OwnR S w base T v L) (g:HoldS Obj.isCells (fun _=>True) w w'):OwnR S w' base T v L:=by
 refine ⟨⟨h.row.1,?_⟩,fun x hx s hs=>⟨(h.each x hx s hs).1.held (fun _ h=>h) g (fun _ _=>trivial),(h.each x hx s hs).2⟩⟩
 rcases h.row.2 with h2 | ⟨b,cap,cur,e,h0,hg,r⟩
 · exact .inl h2
 · exact .inr ⟨b,cap,cur,e,h0,g.same b _ trivial hg rfl,r⟩
theorem OwnB.held {w w':World} {base tB:Nat} {v:Value} {xs:List Int} (h:OwnB w base tB v xs) (g:HoldS Obj.isCells (fun _=>True) w w'):OwnB w' base tB v xs:=by
 refine ⟨⟨h.row.1,?_⟩,h.small⟩
 rcases h.row.2 with h2 | ⟨b,cap,cur,e,h0,hg,r⟩
 · exact .inl h2
 · exact .inr ⟨b,cap,cur,e,h0,g.same b _ trivial hg rfl,r⟩
theorem RX.Good.held {x:RX} {W W':World} (h:x.Good W) (g:HoldS Obj.isCells (fun _=>True) W W'):x.Good W':=⟨h.b.held g,h.a.held g,h.e,h.i⟩
theorem RX.Good.gr {x:RX} {W W':World} (h:x.Good W) (g:Gr W W'):x.Good W':=⟨h.b.below' g,h.a.below' g,h.e,h.i⟩
abbrev TLd:TypeId:=139
abbrev TLds:TypeId:=74
def ShL:Shp (Nat × RX) where
 k:=10
 cs y:=[.int .u64 y.1,.int .u64 y.2.e,.int .i64 y.2.c.k,.int .u64 y.2.c.t,.int .u64 y.2.c.p,.int .u64 y.2.c.x,.int .i64 y.2.c.g,.int .i64 y.2.c.o,.slice y.2.pb y.2.nb y.2.cb,.slice y.2.pa y.2.na y.2.ca]
 sl y:=[⟨y.2.pb,y.2.nb,y.2.cb,y.2.c.b⟩,⟨y.2.pa,y.2.na,y.2.ca,y.2.c.a⟩]
 kpos:=by omega
 len _:=rfl
 one x:=by
  intro u hu
  simp only [List.mem_cons,List.not_mem_nil,or_false] at hu
  rcases hu with rfl | rfl | rfl | rfl | rfl | rfl | rfl | rfl | rfl | rfl <;> rfl
theorem info_lgd:(Tryz.prog.info? TLd).map (fun i=>(i.zero,i.size,i.bytes))=some (some (.agg #[.int .u64 0,.int .u64 0,.int .i64 0,.int .u64 0,.int .u64 0,.int .u64 0,.int .i64 0,.int .i64 0,.slice none 0 0,.slice none 0 0]),10,112):=by kernel_rfl
def logX:Nat→List RX→List (Nat × RX)
 | _,[]=>[]
 | a,x :: r=>(a,x) :: logX x.e r
def endX (a:Nat) (l:List RX):Nat:=endL a (l.map RX.two)
theorem endX_snoc (a:Nat) (l:List RX) (x:RX):endX a (l++[x])=x.e:=by
 unfold endX
 rw [List.map_append];exact endL_snoc _ _ _
theorem logX_snoc:∀ (a:Nat) (l:List RX) (x:RX),logX a (l++[x])=logX a l++[(endX a l,x)]
 | _,[],_=>rfl
 | a,y :: l,x=>by
  simp only [List.cons_append,logX]
  rw [logX_snoc y.e l x]
  rfl
def LX3 (y:Nat × RX):Nat × Nat × Rc:=(y.1,y.2.e,y.2.c)
theorem logX_T:∀ (a:Nat) (l:List RX),(logX a l).map LX3=logT a (l.map RX.two)
 | _,[]=>rfl
 | a,x :: l=>by
  simp only [logX,List.map_cons,logT]
  rw [logX_T x.e l]
  rfl
theorem logX_len:∀ (a:Nat) (l:List RX),(logX a l).length=l.length
 | _,[]=>rfl
 | a,x :: l=>by simp only [logX,List.length_cons,logX_len x.e l]
theorem rows_apart {w:World} {B B' T T' k k' n n':Nat} {v v':Value} {xs xs':List Value} (h:w.ownsRow B T k v n xs) (h':w.ownsRow B' T' k' v' n' xs') (ne:T≠T'):∀ g,v.ownBlock=some g→v'.ownBlock≠some g:=fun g e1 e2=>by
 rcases h.2 with ⟨rfl,_⟩ | ⟨b,cap,cur,rfl,_,hg,_⟩
 · simp [Value.ownBlock] at e1
 ·
  rcases h'.2 with ⟨rfl,_⟩ | ⟨b',cap',cur',rfl,_,hg',_⟩
  · simp [Value.ownBlock] at e2
  ·
   have q1:b=g:=by simpa [Value.ownBlock] using e1
   have q2:b'=g:=by simpa [Value.ownBlock] using e2
   rw [q1] at hg
   rw [q2,hg] at hg'
   simp only [Option.some.injEq,Obj.cells.injEq] at hg'
   exact ne hg'.2.1
theorem own_some {w:World} {B T k n:Nat} {p:Option Addr} {m c:Nat} {xs:List Value} (h:w.ownsRow B T k (.slice p m c) n xs):∀ y,p=some y→(Value.slice p m c).ownBlock=some y.block:=fun y hy=>by
 rcases h.2 with ⟨h0,_⟩ | ⟨b,cap,cur,h0,_⟩
 · cases h0;cases hy
 · cases h0;cases hy;rfl
theorem Byt.not_blk {w:World} {p:Option Addr} {n c:Nat} {xs:List Int} (h:Byt w p n c xs) (hn:0 < n) {b:Nat} {t:TypeId} {cs:Array Value} (hb:Blk w b t cs) (hc:∀ v ∈ cs.toList,∀ i,v≠.int .u8 i):∀ y,p=some y→y.block≠b:=by
 intro y hy e
 obtain ⟨b2,o,e2,hcell⟩:=h.at hn
 rw [hy] at e2
 cases e2
 have e3:b2=b:=e;subst e3;have h1:=hcell 0 hn
 rw [hb.cell] at h1
 exact hc _ (Array.mem_toList_iff.2 (Array.mem_of_getElem? h1)) _ rfl
theorem grown_only {w w':World} {g:Nat} (o:Only g w w'):w.grownBy w' (some g):=⟨o.os,o.tape,o.output,Nat.le_of_eq o.size.symm,fun k _ hk=>o.block k (fun e=>hk (by rw [e]))⟩
theorem OwnR.cell {α:Type} {S:Shp α} {w:World} {X:Nat} {T:TypeId} {v:Value} {L:List α} {g:Nat} {t:TypeId} {cs:Array Value} (h:OwnR S w X T v L) (hb:Blk w g t cs) (hg:g < X) (hc:∀ u ∈ cs.toList,∀ i,u≠.int .u8 i) (i:Nat) (u':Value):OwnR S (w.setCell ⟨g,i,none⟩ u') X T v L:=
 h.grown (grown_only (Only.cell g i w u')) (by
  cases e:v.ownBlock with
  | none=>exact .inl rfl
  | some j=>
   refine .inr fun e2=>?_
   have h1:=(h.row.lt j e).1;have h2:j=g:=Option.some.inj e2
   omega) (fun x hx s hs h0 y hy e=>(h.each x hx s hs).1.not_blk h0 hb hc y hy (Option.some.inj e).symm)
theorem wp_app_row {α:Type} (S:Shp α) {P:Program} {tS T:TypeId} {zero:Value} {bytes:Nat} (us:P.underlying tS=some (.slice T)) (info:(P.info? T).map (fun i=>(i.zero,i.size,i.bytes))=some (some zero,S.k,bytes)) (hz:zero.cells.size=S.k)
  {w:World} {o:Oper} {a:Act} {K:Act→World→Prop} {Q:Exit→Act→World→Prop} (s x:Operand)
  (ho:o.op=.call { callee:=.builtin .append,args:=#[s,x],argTypes:=#[tS,tS] }) (base:Nat) (v:Value) (L:List α) (hs:a.eval s=v) (hown:OwnR S w base T v L)
  (q:Nat) (hx:a.eval x=.slice (some ⟨q,0,none⟩) 1 1) (y:α) (hq:∀ j,j < S.k→w.cell? ⟨q,j,none⟩=(S.cs y)[j]?) (hy:∀ s ∈ S.sl y,s.In w v) (hlen:(L.length+1)*bytes≤140737488355328) (hl2:L.length+1≤100000000000) (hbase:base≤w.heap.size)
  (h:∀ v' w',OwnR S w' base T v' (L++[y])→w.grownBy w' v.ownBlock→(v'.ownBlock=v.ownBlock∨v'.ownBlock=some w.heap.size)→K (a.put o.dst v') w'):Oper.wp P o a w K Q:=by
 obtain ⟨i,hi,hz0,hz1,hz2⟩:=info_parts info
 have hnews:∀ j u,(S.cs y)[j]?=some u→w.cell? ((⟨q,0,none⟩:Addr).add j)=some u:=by
  intro j u hj
  have hlt:j < S.k:=by rw [← S.len y];exact (List.getElem?_eq_some_iff.1 hj).1
  rw [Addr.add_lit,Nat.zero_add,hq j hlt,hj]
 obtain ⟨v',w',hrun,h1,h2,_,h3⟩:=run_append_own_at (P:=P) w base tS o.type T i zero S.k bytes us hi hz0 hz1 hz2 hz S.kpos v L.length _ hown.row ⟨q,0,none⟩ 1 1 (S.cs y) (by rw [S.len,Nat.one_mul]) hnews (S.one y) (by unfold maxLen;omega) hlen hbase
 unfold Oper.wp execOp
 simp only [ho,resolve,invoke,builtin,Sem.run_bind,Sem.run_pure,Result.andThen_ok,List.map_toArray,List.map_cons,List.map_nil,hs,hx,hrun]
 have apart:∀ z:Sl,z.In w v→z.In w' v':=fun z hz=>⟨hz.1.grown h2 hz.2,fun h0 p hp=>by
  rcases h3 with h3 | h3
  · rw [h3];exact hz.2 h0 p hp
  ·
   rw [h3]
   obtain ⟨b,off,e,hc⟩:=hz.1.at h0
   rw [e] at hp
   cases hp
   have hlt:b < w.heap.size:=blk_lt (hc 0 h0)
   intro e2
   have e3:w.heap.size=b:=Option.some.inj e2
   omega⟩
 refine h v' w' ⟨?_,fun z hz sl hsl=>?_⟩ h2 h3
 · rw [S.flat_snoc,List.length_append];exact h1
 ·
  rcases List.mem_append.1 hz with hz | hz
  · exact apart sl (hown.each z hz sl hsl)
  · obtain rfl:=List.mem_singleton.1 hz;exact apart sl (hy sl hsl)
theorem wpListIn_app_row {α:Type} (S:Shp α) {l n:Nat} {P:Program} {tS T:TypeId} {zero:Value} {bytes:Nat} (us:P.underlying tS=some (.slice T)) (info:(P.info? T).map (fun i=>(i.zero,i.size,i.bytes))=some (some zero,S.k,bytes)) (hz:zero.cells.size=S.k)
  {w:World} {ops:Array Oper} {rest:List Oper} {o:Oper} {a:Act} {Q:Exit→Act→World→Prop} (hgd:o.guard=none) (s x:Operand)
  (ho:o.op=.call { callee:=.builtin .append,args:=#[s,x],argTypes:=#[tS,tS] }) (base:Nat) (v:Value) (L:List α) (hs:a.eval s=v) (hown:OwnR S w base T v L)
  (q:Nat) (hx:a.eval x=.slice (some ⟨q,0,none⟩) 1 1) (y:α) (hq:∀ j,j < S.k→w.cell? ⟨q,j,none⟩=(S.cs y)[j]?) (hy:∀ s ∈ S.sl y,s.In w v) (hlen:(L.length+1)*bytes≤140737488355328) (hl2:L.length+1≤100000000000) (hbase:base≤w.heap.size)
  (h:∀ v' w',OwnR S w' base T v' (L++[y])→w.grownBy w' v.ownBlock→(v'.ownBlock=v.ownBlock∨v'.ownBlock=some w.heap.size)→wpListIn (Fence.wide.inRound l) n P ops Q rest (a.put o.dst v') w'):wpListIn (Fence.wide.inRound l) n P ops Q (o :: rest) a w:=
 wpListIn_plain hgd fun K hK=>Flow.oper_in (fun c e=>by rw [ho] at e;cases e) (wp_app_row S us info hz s x ho base v L hs hown q hx y hq hy hlen hl2 hbase fun v' w' h1 h2 h3=>hK _ _ (h v' w' h1 h2 h3))
structure TkAt (w1:World) (R0 X tl:Nat) (pre:List RX) (V:World):Prop where
 gr:Gr w1 V
 rows:∃ rv,Blk V R0 TLds #[rv]∧OwnR ShL V X TLd rv (logX tl pre)
 eb:Blk V (R0+1) TU #[.int .u64 (endX tl pre:Int)]
 sz:X≤V.heap.size
theorem TkAt.held {w1:World} {R0 X tl:Nat} {pre:List RX} {V V':World} (h:TkAt w1 R0 X tl pre V) (g:Gr w1 V') (s:HoldS Obj.isCells (fun _=>True) V V'):TkAt w1 R0 X tl pre V':=by
 obtain ⟨rv,h1,h2⟩:=h.rows;exact ⟨g,⟨rv,h1.held s,h2.held s⟩,h.eb.held s,Nat.le_trans h.sz s.size⟩
theorem TkAt.up {w1:World} {R0 X tl:Nat} {pre:List RX} {V V':World} (h:TkAt w1 R0 X tl pre V) (g:Gr V V'):TkAt w1 R0 X tl pre V':=by
 obtain ⟨rv,h1,h2⟩:=h.rows;exact ⟨Gr.trans h.gr g,⟨rv,h1.gr g,h2.gr g⟩,h.eb.gr g,Nat.le_trans h.sz g.size⟩
theorem tkAt_own {w1:World} {R0 X tl B:Nat} (hB:w1.heap.size≤B):OwnFrom B (fun pre V=>TkAt w1 R0 X tl pre V):=fun s V W row hs hg hr=>
 hs.held (Below.grown hs.gr hg hs.gr.size (fun k e=>by have:=(hr k e).1;omega)) (hold_grown hg (fun r e=>(hr r e).2))
def RetTk (b:Nat) (p:Value) (s:St) (n l g:Int) (ep tl:Nat) (w:World) (e:Ending) (w':World):Prop:=
 (opOk s l.toNat ep tl=false∧e=.returned (.tuple #[.slice none 0 0,.int .i64 4])∧Gr w w') ∨
 (opOk s l.toNat ep tl=true∧∃ v L q m,e=.returned (.tuple #[v,.int .i64 0])∧OwnR ShL w' w.heap.size TLd v L∧L.map LX3=logT tl (opX s l.toNat ep tl)∧LgAt w' b p q m m (opL s n l g ep tl)∧Upd (fun k=>k=b) (lgS b q) w w')
set_option maxRecDepth 100000 in
set_option maxHeartbeats 4000000 in
theorem wread_any {F:Nat→Prop} {s:St} (D b:Nat) (p:Value) (n l g:Int) (ep tl:Nat) (w:World) (h:Blk w b TLg #[p,.int .i64 n,.int .i64 l,.int .i64 g,.int .u64 ep,.int .u64 tl,.int .u64 0,.slice none 0 0,.int .i64 0,.bool false]) (hp:p=.pointer (some ⟨D,0,none⟩)) (hd:Dk w F p s) (hm:mayL n l g=true) (hl:l≤80) (ht:tl≤4611686018427387904) (he:1≤ep) (he2:ep≤4611686018427387904) (hn:3+l≤s.ls.length) :
  Calls Tryz.prog 65 #[.pointer (some ⟨b,0,none⟩)] w (RetTk b p s n l g ep tl w):=by
 have HB:=Lib.hid h;have hin:=may_in hm;obtain ⟨xs,hxs⟩:∃ xs,xs=opB s l.toNat ep tl:=⟨_,rfl⟩;obtain ⟨A,hA⟩:∃ A,A=tl % 232:=⟨_,rfl⟩;obtain ⟨N,hN⟩:∃ N,N=xs.length:=⟨_,rfl⟩
 have hN2:N≤18560:=by rw [hN,hxs];have:=(opB_len s l.toNat ep tl).1;omega
 have HFo:Hid (Calls Tryz.prog 84 #[.pointer (some ⟨b,0,none⟩)] w (RetOwn 5 xs w)):=Lib.hid (by rw [hxs];exact wfound_any D b p n l g ep tl 0 none 0 0 0 false w h hp hd hm (by omega) he (by omega) hn)
 have HAh:Hid (∀ W,Calls Tryz.prog 66 #[.int .u64 (tl:Int)] W fun e w'=>e=.returned (.int .i64 (A:Int))∧W=w'):=Lib.hid fun W=>by rw [hA];exact ahead_any _ W (by omega)
 have HX:=Lib.hid hxs;have HAe:=Lib.hid hA;have HNe:=Lib.hid hN;have HP:=Lib.hid hp;have HOk:Hid (opOk s l.toNat ep tl=decide (A≤N)):=Lib.hid (by unfold opOk;rw [hA,hN,hxs]);have HPar:Hid (mayL n l g=true∧ep≤4611686018427387904∧tl≤4611686018427387904∧1≤ep):=Lib.hid ⟨hm,he2,ht,he⟩
 have hA2:A < 232:=by omega
 clear h hd hm hn hxs hA hN hin hp hl he he2;refine (callsIn_wide (n:=8)).1 ?_;refine callsIn_of_wp_marks Tryz.func65 rfl trivial ?_ rfl
 simp only [Tryz.ntmps65,List.size_toArray,List.length_cons,List.length_nil,Nat.reduceAdd,Nat.reduceSub,Array.replicate_succ,Array.replicate_zero,List.push_toArray,List.append_toArray,List.nil_append,List.cons_append]
 gi_wp2_with fail
 refine ⟨trivial,?_⟩;refine (callsIn_wide.2 HFo.out).mono ?_;rintro e w1 ⟨v,rfl,ho,g1⟩;obtain ⟨p1,c1,rfl⟩:=ho.shape N HNe.out.symm;have HC5:=Lib.hid (fun W (gr:Gr w1 W)=>(HB.out.gr (Gr.trans g1 gr)).c10.2.2.2.2.2.1);have c5:=HC5.out w1 (Gr.refl _);have HO:=Lib.hid ho;have HG1:=Lib.hid g1;clear ho g1 HFo
 gi_wp2_with fail
 refine ⟨trivial,?_⟩;refine (callsIn_wide.2 (HAh.out w1)).mono ?_;rintro e w2 ⟨rfl,rfl⟩
 by_cases hlt:N < A
 ·
  have hlt':(N:Int) < (A:Int):=by omega
  gi_wp2_with fail
  refine ⟨.tuple #[.slice none 0 0,.int .i64 4],by simp [results,Tryz.results65],.inl ⟨?_,rfl,HG1.out⟩⟩;rw [HOk.out];exact decide_eq_false (by omega)
 ·
  have hlt':¬ (N:Int) < (A:Int):=by omega
  have c5:=HC5.out (w1.alloc (.cells #[.slice none 0 0] 74)) (Gr.new _ _);have b2:=Blk.new w1 TLds #[.slice none 0 0];have b3:=Blk.new (w1.alloc (.cells #[.slice none 0 0] TLds)) TU #[.int .u64 (tl:Int)]
  simp only [World.size_alloc] at b3
  obtain ⟨W3,hW3⟩:∃ W3,W3=(w1.alloc (.cells #[.slice none 0 0] TLds)).alloc (.cells #[.int .u64 (tl:Int)] TU):=⟨_,rfl⟩
  have g3:Gr w1 W3:=by rw [hW3];exact Gr.trans (Gr.new _ _) (Gr.new _ _)
  have HT3:Hid (Gr w1 W3∧Blk W3 w1.heap.size TLds #[.slice none 0 0]∧Blk W3 (w1.heap.size+1) TU #[.int .u64 (tl:Int)]):=Lib.hid ⟨g3,by rw [hW3];exact b2.alloc _,by rw [hW3];exact b3⟩;have HW3:Hid ((w1.alloc (.cells #[.slice none 0 0] 74)).alloc (.cells #[.int .u64 (tl:Int)] 36)=W3):=Lib.hid hW3.symm;have HS3:Hid (W3.heap.size=w1.heap.size+1+1):=Lib.hid (by rw [hW3];simp);clear b2 b3 hW3
  gi_wp2_with fail
  rw [HW3.out];obtain ⟨q,hcut,hof⟩:=cut_l (p:=p1) (n:=N) (c:=c1) A (by omega) HO.out.byt.1.cap;obtain ⟨M,hM⟩:∃ M,M=N - A:=⟨_,rfl⟩;obtain ⟨C,hC⟩:∃ C,C=c1 - A:=⟨_,rfl⟩
  have HY:Hid (∀ W,Gr w1 W→Byt W q M C (xs.drop A)):=Lib.hid fun W g=>by
   have h:=hof.byt W xs (HO.out.byt.1.kept g)
   rwa [drop_take_all HNe.out.symm,← hM,← hC] at h
  rw [← hM,← hC] at hcut
  have hM2:M≤18560:=by omega
  have HAll:=Lib.hid (fun W (g:Gr w1 W)=>all_any q M C (xs.drop A) tl W (HY.out W g) (by omega));have HMC:Hid (M=N - A∧A≤N):=Lib.hid ⟨hM,by omega⟩;clear hof hM hC c5 hlt;have c5:W3.cell? ⟨b,5,none⟩=some (.int .u64 (tl:Int)):=HC5.out W3 HT3.out.1;refine wpIn_wide.2 ?_
  go_still_tail 7,(by kernel_rfl)
  change wpList _ _ _ _ _ W3.drew
  have gd:Gr w1 W3.drew:=HT3.out.1.drew;have HTd:Hid (Gr w1 W3.drew∧Blk W3.drew w1.heap.size TLds #[.slice none 0 0]∧Blk W3.drew (w1.heap.size+1) TU #[.int .u64 (tl:Int)]):=Lib.hid ⟨gd,HT3.out.2.1.heap rfl,HT3.out.2.2.heap rfl⟩;have HSd:Hid (W3.drew.heap.size=w1.heap.size+1+1):=Lib.hid HS3.out;have HCa:=Lib.hid (HAll.out W3.drew gd)
  generalize W3.drew=W4 at HTd HSd HCa gd ⊢
  clear HT3 HS3 HW3 HAll c5 gd hcut;go_wp2_with fail;refine HCa.out.mono ?_;rintro e W5 ⟨q5,m5,d5,rfl,hA5,hq5,g5⟩;have HT5:Hid (TkAt w1 w1.heap.size W5.heap.size tl [] W5):=Lib.hid ⟨Gr.trans HTd.out.1 g5,⟨_,HTd.out.2.1.gr g5,⟨World.ownsRow_nil _ _ _ _,fun _ h=>by cases h⟩⟩,HTd.out.2.2.gr g5,Nat.le_refl _⟩;have HAt:=Lib.hid hA5;obtain ⟨B4,hB4⟩:∃ B4,B4=W4.heap.size:=⟨_,rfl⟩;have HS5:Hid (B4=w1.heap.size+1+1∧B4+1 < W5.heap.size):=Lib.hid ⟨hB4.trans HSd.out,by rw [hB4];exact hA5.a.lt⟩
  have hm5:m5≤18560:=by have h1:=hA5.y.len;rw [List.length_drop] at h1;have h2:=HNe.out;omega
  rw [← hB4] at HAt ⊢
  have HQ5:Hid (∀ y,q5=some y→B4+1 < y.block):=Lib.hid (by rw [hB4];exact hq5);clear hA5 hq5 HTd HSd HCa g5 hB4
  have he:Sem.run Tryz.prog (binOp .eql 136 (.func (.func 102) #[] #[.pointer (some ⟨B4,0,none⟩),.pointer (some ⟨B4+1,0,none⟩)]) .nilFunc) W5=.ok (.bool false) W5:=by
   have hu:Tryz.prog.underlying 136=some (.func #[156] #[] false):=by kernel_rfl
   have h:∀ D:Nat,(Op.equalIn (D+1) 136 (.func (.func 102) #[] #[.pointer (some ⟨B4,0,none⟩),.pointer (some ⟨B4+1,0,none⟩)]) .nilFunc).run Tryz.prog W5=.ok false W5:=fun D=>by simp [Op.equalIn,run_underlying hu]
   simp [binOp,Op.equal,Op.maxDepth,h 9999]
  go_wp2_with fail
  gi_wp2_with fail
  refine wpIn_range_toldF (F:=Fence.wide) rfl (by omega) (gf:=102) (lb:=#[.pointer (some ⟨B4,0,none⟩),.pointer (some ⟨B4+1,0,none⟩)]) rfl trivial (enters_of Tryz.func102 (by kernel_rfl) rfl)
   (all1_told 7 (by omega) B4 (B4+1) q5 m5 d5 (xs.drop A) tl W5 HAt.out (by omega) (by omega)).keeps (Below.refl _ _) (fun _=>rfl)
   (fun pre V=>TkAt w1 w1.heap.size W5.heap.size tl pre V) (fun _ _=>False) (tkAt_own HT5.out.gr.size) (fun _ _ _ _ h=>h.elim) HT5.out
   (fun tm x (R:Nat)=>(((tm.setIfInBounds 33 (.int .u64 x.e)).setIfInBounds 34 x.agg).setIfInBounds 8 (.int .u64 x.e)).setIfInBounds 9 (.pointer (some ⟨R,0,none⟩)))
   (fun pre x R V=>x.Good V∧(∃ zs,(pre++[x]).map RX.two++zs=allL (xs.drop A) tl)∧Blk V R TR #[.int .i64 x.c.k,.int .u64 x.c.t,.int .u64 x.c.p,.int .u64 x.c.x,.int .i64 x.c.g,.int .i64 x.c.o,.slice x.pb x.nb x.cb,.slice x.pa x.na x.ca]) ?hBx ?assign ?body ?done ?stop
  case stop=>
   rintro D2 pre V hD2 _ h _;exact h.elim
  case hBx=>
   rintro pre x R z U V row ⟨h1,h2,h3⟩ hg hr;have hh:=hold_grown hg (fun r e=>(hr r e).2);exact ⟨h1.held hh,h2,h3.held hh⟩
  case assign=>
   rintro l2 pre x V K' hi ⟨hgood,hpre⟩ hK
   simp only [List.setIfInBounds_toArray,List.set_cons_succ,List.set_cons_zero] at hK
   dsimp only [RX.encs,RX.agg]
   gi_wp2_with fail
   have gn:=(Gr.refl V).alloc (Nat.le_refl _) (.cells #[.int .i64 x.c.k,.int .u64 x.c.t,.int .u64 x.c.p,.int .u64 x.c.x,.int .i64 x.c.g,.int .i64 x.c.o,.slice x.pb x.nb x.cb,.slice x.pa x.na x.ca] TR);exact hK V.heap.size _ ((KeepsOthers.alloc _ _).from _) (Gr.hold gn) (hi.up gn) ⟨hgood.gr gn,hpre,Blk.new V TR _⟩
  case body=>
   rintro l2 pre x R W8 hlw hi ⟨hgood,⟨zs,hz⟩,hbR⟩
   simp only [List.setIfInBounds_toArray,List.set_cons_succ,List.set_cons_zero]
   obtain ⟨rv,hb6,hown⟩:=hi.rows
   have hxl:0 < m5:=by
    rcases Nat.eq_zero_or_pos m5 with h0 | h0
    ·
     have h1:=HAt.out.y.len
     rw [h0] at h1
     rw [List.eq_nil_of_length_eq_zero h1,allL_no (ofB_short (by simp))] at hz
     simp at hz
    · exact h0
   have hpl:pre.length≤18560:=by
    have h1:=congrArg List.length hz;have h2:=allL_len _ (xs.drop A) tl (Nat.le_refl _);have h3:=HAt.out.y.len
    simp only [List.length_append,List.length_map,List.length_singleton] at h1
    omega
   obtain ⟨e9,⟨ck,ct,cp,cx,cg,co,xb,xa⟩,pb,nb,cb,pa,na,ca⟩:=x;obtain ⟨E0,hE0⟩:∃ E0,E0=endX tl pre:=⟨_,rfl⟩;have n7:=hi.eb.cell 0
   rw [← hE0] at n7
   have n6:=hb6.cell 0;obtain ⟨r0,r1,r2,r3,r4,r5,r6,r7⟩:=hbR.c8
   simp at n6 n7
   have hq0:=Blk.new W8 TLd #[.int .u64 (E0:Int),.int .u64 (e9:Int),.int .i64 ck,.int .u64 ct,.int .u64 cp,.int .u64 cx,.int .i64 cg,.int .i64 co,.slice pb nb cb,.slice pa na ca];have gq:=Gr.new W8 (.cells #[.int .u64 (E0:Int),.int .u64 (e9:Int),.int .i64 ck,.int .u64 ct,.int .u64 cp,.int .u64 cx,.int .i64 cg,.int .i64 co,.slice pb nb cb,.slice pa na ca] TLd);obtain ⟨W9,hW9⟩:∃ W9,W9=W8.alloc (.cells #[.int .u64 (E0:Int),.int .u64 (e9:Int),.int .i64 ck,.int .u64 ct,.int .u64 cp,.int .u64 cx,.int .i64 cg,.int .i64 co,.slice pb nb cb,.slice pa na ca] TLd):=⟨_,rfl⟩
   rw [← hW9] at hq0 gq
   have HW9:Hid (W8.alloc (.cells #[.int .u64 (E0:Int),.int .u64 (e9:Int),.int .i64 ck,.int .u64 ct,.int .u64 cp,.int .u64 cx,.int .i64 cg,.int .i64 co,.slice pb nb cb,.slice pa na ca] 139)=W9):=Lib.hid hW9.symm
   have hsz9:W8.heap.size < W9.heap.size:=by rw [hW9];simp
   have HO9:=Lib.hid (hown.gr gq)
   have HQ:Hid (∀ j,j < ShL.k→W9.cell? ⟨W8.heap.size,j,none⟩=(ShL.cs (E0,⟨e9,⟨ck,ct,cp,cx,cg,co,xb,xa⟩,pb,nb,cb,pa,na,ca⟩))[j]?):=Lib.hid fun j _=>by
    rw [hq0.cell j]
    simp [ShL]
   have HIn:Hid (∀ s ∈ ShL.sl (E0,⟨e9,⟨ck,ct,cp,cx,cg,co,xb,xa⟩,pb,nb,cb,pa,na,ca⟩),s.In W9 rv):=Lib.hid fun s hs=>by
    have hrow:∀ (q:Option Addr) (m d:Nat) (zs:List Int),OwnB W8 0 5 (.slice q m d) zs→(⟨q,m,d,zs⟩:Sl).In W9 rv:=fun q m d zs ho=>by
     obtain ⟨hy,rfl⟩:=ho.byt;exact ⟨hy.kept gq,fun h0 y hy2 e2=>rows_apart ho.row hown.row (by decide) y.block (own_some ho.row y hy2) e2⟩
    simp only [ShL,List.mem_cons,List.not_mem_nil,or_false] at hs
    rcases hs with rfl | rfl
    · exact hrow _ _ _ _ hgood.b
    · exact hrow _ _ _ _ hgood.a
   obtain ⟨LL,hLL⟩:∃ LL,LL=(logX tl pre).length:=⟨_,rfl⟩;have HLen:Hid ((logX tl pre).length≤18560∧(logX tl pre).length=LL∧logX tl (pre++[⟨e9,⟨ck,ct,cp,cx,cg,co,xb,xa⟩,pb,nb,cb,pa,na,ca⟩])=logX tl pre++[(E0,⟨e9,⟨ck,ct,cp,cx,cg,co,xb,xa⟩,pb,nb,cb,pa,na,ca⟩)]):=Lib.hid ⟨by rw [logX_len];exact hpl,hLL.symm,by rw [logX_snoc,hE0]⟩;have HI:=Lib.hid hi;have HB6:=Lib.hid hb6;have HX9:Hid (W5.heap.size≤W9.heap.size):=Lib.hid (Nat.le_trans hi.sz gq.size);have HG9:=Lib.hid gq;have HR0:Hid (w1.heap.size+1 < W5.heap.size):=Lib.hid (by have:=HS5.out;omega)
   have HBk:Hid (∀ {W10:World},W9.grownBy W10 rv.ownBlock→Blk W10 w1.heap.size TLds #[rv]∧Blk W10 (w1.heap.size+1) TU #[.int .u64 (E0:Int)]):=Lib.hid fun hg=>by
    have h6:=hb6.gr gq;have h7:=hi.eb.gr gq
    rw [← hE0] at h7
    exact ⟨h6.stays (hg.block _ h6.lt (fun e=>by have:=hown.base _ e.symm;have:=HR0.out;omega)),h7.stays (hg.block _ h7.lt (fun e=>by have:=hown.base _ e.symm;have:=HR0.out;omega))⟩
   have HXL:=Lib.hid hxl;clear hLL hq0 gq hW9 hown hgood hz hi hb6 hbR hE0 hpl hxl hsz9
   gi_wp2_with (first | (rw [HW9.out];refine wpListIn_app_row ShL (T:=TLd) Tryz.underlying74 info_lgd rfl rfl (.tmp 35) (.tmp 40) rfl W5.heap.size rv (logX tl pre) rfl HO9.out W8.heap.size rfl _ HQ.out HIn.out (by have:=HLen.out.1;omega) (by have:=HLen.out.1;omega) HX9.out ?_;intro v' W10 ho10 hg10 _;obtain ⟨pv,cv,hv,hvx⟩:=ho10.shape (LL+1) (by rw [List.length_append,HLen.out.2.1];rfl);clear hvx;subst hv;have HO10:=Lib.hid ho10;have HG10:=Lib.hid hg10;have HB10:Hid (Blk W10 w1.heap.size TLds #[rv]∧Blk W10 (w1.heap.size+1) TU #[.int .u64 (E0:Int)]):=Lib.hid (HBk.out hg10);have f6:=HB10.out.1.frozen 0;have k6:=HB10.out.1.cell 0;have f7:=(HB10.out.2.far (p:=⟨w1.heap.size,0,none⟩) (show w1.heap.size+1≠w1.heap.size by omega) (.slice pv (LL+1) cv)).frozen 0;have k7:=(HB10.out.2.far (p:=⟨w1.heap.size,0,none⟩) (show w1.heap.size+1≠w1.heap.size by omega) (.slice pv (LL+1) cv)).cell 0;have k8:=HB10.out.2.cell 0;have f8:=HB10.out.2.frozen 0;simp at k6 k7 k8;clear ho10 hg10))
   obtain ⟨Y,hY⟩:∃ Y,Y=(W10.setCell ⟨w1.heap.size,0,none⟩ (.slice pv (LL+1) cv)).setCell ⟨w1.heap.size+1,0,none⟩ (.int .u64 (e9:Int)):=⟨_,rfl⟩;rw [← hY]
   have hYb:∀ k,k≠w1.heap.size→k≠w1.heap.size+1→Y.heap[k]?=W10.heap[k]?:=fun k h1 h2=>by
    rw [hY];exact ((Only.cell (w1.heap.size+1) 0 _ _).block k h2).trans ((Only.cell w1.heap.size 0 _ _).block k h1)
   have hYs:Y.heap.size=W10.heap.size:=by rw [hY,(Only.cell (w1.heap.size+1) 0 _ _).size,(Only.cell w1.heap.size 0 _ _).size]
   have hcell:∀ (k:Nat) (o:Obj),o.isCells=false→W8.heap[k]?=some o→Y.heap[k]?=some o:=fun k o ho hk=>by
    have hk8:=(Array.getElem?_eq_some_iff.1 hk).1
    have n1:k≠w1.heap.size:=fun e=>by have h:=HB6.out;unfold Blk at h;rw [e,h] at hk;cases hk;cases ho
    have n2:k≠w1.heap.size+1:=fun e=>by have h:=HI.out.eb;unfold Blk at h;rw [e,h] at hk;cases hk;cases ho
    have n3:some k≠rv.ownBlock:=fun e=>by
     obtain ⟨rv2,h1,h2⟩:=HI.out.rows
     have e2:rv2=rv:=by
      have h3:=HB6.out
      unfold Blk at h1 h3
      rw [h1] at h3
      simpa using h3
     subst e2
     rcases h2.row.2 with ⟨h0,_⟩ | ⟨g,cap,cur,h0,_,hg,_⟩
     · rw [h0] at e;simp [Value.ownBlock] at e
     ·
      rw [h0] at e
      have e3:k=g:=by simpa [Value.ownBlock] using e
      rw [e3,hg] at hk
      cases hk
      cases ho
    rw [hYb k n1 n2,HG10.out.block k (Nat.lt_of_lt_of_le hk8 HG9.out.size) n3,HG9.out.block k hk8];exact hk
   have hob:=HO9.out.base;refine And.intro ⟨by rw [hYs];exact Nat.le_trans HG9.out.size HG10.out.size,fun k o _ hk ho=>hcell k o ho hk⟩ (And.intro ⟨by rw [hYs];exact Nat.le_trans HG9.out.size HG10.out.size,fun k o hk h1 _=>?_⟩ ⟨?_,⟨.slice pv (LL+1) cv,?_,?_⟩,?_,?_⟩)
   ·
    obtain ⟨y,hy,rfl⟩:=hk;have h2:=HQ5.out y hy;have h3:=HS5.out
    obtain ⟨b5,o5,e5,hc5⟩:=HAt.out.y.at HXL.out
    have h4:y.block < W5.heap.size:=by
     rw [hy] at e5
     cases e5
     exact blk_lt (hc5 0 HXL.out)
    rw [hYb _ (by omega) (by omega),HG10.out.block _ (by have:=HX9.out;omega) (fun e=>by have:=hob _ e.symm;omega),HG9.out.block _ (Array.getElem?_eq_some_iff.1 h1).1];exact h1
   · have g10:Gr w1 W10:=Below.grown (Gr.trans HI.out.gr HG9.out) HG10.out (Gr.trans HI.out.gr HG9.out).size (fun k e=>by have:=hob k e;have:=HR0.out;omega);rw [hY];exact (g10.setCell (p:=⟨w1.heap.size,0,none⟩) (Nat.le_refl _) _).setCell (p:=⟨w1.heap.size+1,0,none⟩) (Nat.le_succ _) _
   · rw [hY];exact (HB10.out.1.set 0 _).far (p:=⟨w1.heap.size+1,0,none⟩) (by show w1.heap.size≠w1.heap.size+1;omega) _
   · rw [HLen.out.2.2,hY];obtain ⟨pr,cr,hr,_⟩:=HO9.out.shape LL HLen.out.2.1;exact (HO10.out.cell HB10.out.1 (by have:=HR0.out;omega) (fun u hu i=>by simp at hu;rw [hu,hr];simp) 0 _).cell (HB10.out.2.far (p:=⟨w1.heap.size,0,none⟩) (by show w1.heap.size+1≠w1.heap.size;omega) _) HR0.out (fun u hu i=>by simp at hu;rw [hu];simp) 0 _
   · rw [hY,endX_snoc];exact (HB10.out.2.far (p:=⟨w1.heap.size,0,none⟩) (by show w1.heap.size+1≠w1.heap.size;omega) _).set 0 _
   · rw [hYs];exact Nat.le_trans HX9.out HG10.out.size
  case done=>
   rintro D2 ys V hD2 hS hi hK;obtain ⟨rv,hb6,hown⟩:=hi.rows;obtain ⟨E,hE⟩:∃ E,E=endX tl ys:=⟨_,rfl⟩
   have hE2:E=opN s l.toNat ep tl:=by rw [hE];unfold endX;rw [hS,HX.out,HAe.out];rfl
   have n7:=hi.eb.cell 0
   rw [← hE] at n7
   have n6:=hb6.cell 0
   simp at n6 n7
   have hmi:=may_in HPar.out.1;have hnn:=opN_in s l.toNat ep tl (by omega) (by omega)
   rw [← hE2,← HX.out,← HNe.out,← HAe.out] at hnn
   obtain ⟨X1,hX1⟩:∃ X1,X1=E - tl:=⟨_,rfl⟩;obtain ⟨K1,hK1⟩:∃ K1,K1=A+X1:=⟨_,rfl⟩
   have hw1:IntKind.u64.wrap ((E:Int) - (tl:Int))=(X1:Int):=by rw [IntKind.wrap_u64];omega
   have hw2:IntKind.i64.wrap (X1:Int)=(X1:Int):=IntWalk.i64_in _ (by omega)
   have hw3:IntKind.i64.wrap ((A:Int)+(X1:Int))=(K1:Int):=by rw [IntWalk.i64_in _ (by omega)];omega
   obtain ⟨q3,hcut3,hof3⟩:=cut_h (p:=p1) (n:=N) (c:=c1) K1 (by have:=HMC.out;omega) HO.out.byt.1.cap
   have hEA:E % 232≤K1:=by rw [hK1,hX1,HAe.out];omega
   have hcm:=HO.out.byt.1.most;have HLa:=Lib.hid (fun W (gr:Gr w W)=>wlast_any b p n l g ep tl 0 none 0 0 0 false q3 K1 c1 E W (HB.out.gr gr) (by omega) hEA (by have:=HO.out.byt.1.cap;have:=HMC.out;omega) (by unfold maxLen at hcm;omega));have HV1:Hid (Gr w1 V):=Lib.hid hi.gr;have HV:Hid (Gr w V):=Lib.hid (Gr.trans HG1.out hi.gr);have HNum:Hid (E=opN s l.toNat ep tl∧K1=A+(E - tl)∧E % 232≤K1∧K1≤N∧tl≤E):=Lib.hid ⟨hE2,by omega,hEA,by have:=HMC.out;omega,hnn.1⟩;have HB6:=Lib.hid hb6;have HOw:=Lib.hid hown;have HTr:Hid ((logX tl ys).map LX3=logT tl (opX s l.toNat ep tl)):=Lib.hid (by rw [logX_T,hS,HX.out,HAe.out];rfl);have HDk:=Lib.hid hK;have HD2:Hid (W5.heap.size≤D2):=Lib.hid hD2;have HVs:Hid (W5.heap.size≤V.heap.size):=Lib.hid hi.sz;have HOf3:=Lib.hid hof3;have c5v:=HC5.out V hi.gr;clear hi hS hK hD2 hE hE2 hnn hX1 hK1 hof3 hEA hcm hb6 hown hmi
   gi_wp2_with fail
   refine wpIn_wide.2 ?_
   go_still_tail 13,(by kernel_rfl)
   change wpList _ _ _ _ _ V.drew
   have hVd:Gr V V.drew:=(Gr.refl V).drew;have HVd:Hid (Gr w V.drew∧Blk V.drew w1.heap.size TLds #[rv]∧OwnR ShL V.drew W5.heap.size TLd rv (logX tl ys)∧V.drew.heap[D2]?=some (.deferred (some []))∧W5.heap.size≤V.drew.heap.size∧Byt V.drew p1 N c1 xs):=Lib.hid ⟨Gr.trans HV.out hVd,HB6.out.gr hVd,HOw.out.gr hVd,HDk.out,HVs.out,HO.out.byt.1.kept (Gr.trans HV1.out hVd)⟩
   generalize V.drew=V1 at HVd ⊢
   clear hVd HV HB6 HOw HDk HVs n6 n7 c5v;go_wp2_with fail;refine (HLa.out V1 HVd.out.1).mono ?_;rintro e V2 ⟨rfl,q2,rfl,hof⟩;have hbw:b < w.heap.size:=HB.out.lt;have HOnly:Hid (Only b V1 ((V1.setCell ⟨b,6,none⟩ (.int .u64 (E:Int))).setCell ⟨b,7,none⟩ (.slice q2 (E % 232) (E % 232)))):=Lib.hid ((Only.cell b 6 V1 _).trans (Only.cell b 7 _ _));have HBl:Hid (Blk ((V1.setCell ⟨b,6,none⟩ (.int .u64 (E:Int))).setCell ⟨b,7,none⟩ (.slice q2 (E % 232) (E % 232))) b TLg #[p,.int .i64 n,.int .i64 l,.int .i64 g,.int .u64 ep,.int .u64 tl,.int .u64 (E:Int),.slice q2 (E % 232) (E % 232),.int .i64 0,.bool false]):=Lib.hid (((HB.out.gr HVd.out.1).set 6 _).set 7 _);obtain ⟨A2,hA2'⟩:∃ A2,A2=E % 232:=⟨_,rfl⟩;obtain ⟨V3,hV3⟩:∃ V3,V3=(V1.setCell ⟨b,6,none⟩ (.int .u64 (E:Int))).setCell ⟨b,7,none⟩ (.slice q2 (E % 232) (E % 232)):=⟨_,rfl⟩
   rw [← hV3] at HOnly HBl ⊢
   have HWb:Hid (b < w1.heap.size):=Lib.hid (Nat.lt_of_lt_of_le hbw HG1.out.size);have k6:=(HVd.out.2.1.stays (HOnly.out.block w1.heap.size (Nat.ne_of_gt HWb.out))).cell 0
   simp at k6
   have HOf:=Lib.hid hof;have HA2:=Lib.hid hA2';clear hof hV3 hA2' hbw HLa;go_wp2_with fail
   gi_wp2_with fail
   have hW5:w1.heap.size < W5.heap.size:=by have:=HS5.out;omega
   have hD2b:D2≠b:=by have:=HWb.out;have:=HD2.out;omega
   have hKd:V3.heap[D2]?=some (.deferred (some [])):=(HOnly.out.block D2 hD2b).trans HVd.out.2.2.2.1;refine ⟨by simp,.inl ⟨_,_,rfl,run_takeDeferred hKd,?_⟩⟩;have hg:=grownBy_putObj' V3 D2 (.deferred none);obtain ⟨Z,hZ⟩:∃ Z,Z=V3.putObj D2 (.deferred none):=⟨_,rfl⟩
   rw [← hZ] at hg ⊢
   have hnu:∀ v ∈ (#[p,.int .i64 n,.int .i64 l,.int .i64 g,.int .u64 ep,.int .u64 tl,.int .u64 0,.slice none 0 0,.int .i64 0,.bool false]:Array Value).toList,∀ i,v≠.int .u8 i:=by
    rw [HP.out]
    intro v hv i e
    subst e
    simp at hv
   have hq2:∀ y,q2=some y→w.heap.size≤y.block∧y.block < w1.heap.size:=fun y hy=>by
    obtain ⟨z,hz,e1⟩:=HOf.out.blk y hy;obtain ⟨z2,hz2,e2⟩:=HOf3.out.blk z hz;have:=HO.out.row.lt _ (own_some HO.out.row z2 hz2)
    omega
   have hZb:∀ k,k≠b→k≠D2→k < V1.heap.size→Z.heap[k]?=V1.heap[k]?:=fun k h1 h2 h3=>(hg.block k (by rw [HOnly.out.size];exact h3) (fun e=>h2 (Option.some.inj e))).trans (HOnly.out.block k h1)
   have hZs:V1.heap.size≤Z.heap.size:=by have:=hg.size;rw [HOnly.out.size] at this;exact this
   have hw1V:w1.heap.size < V1.heap.size:=by have:=HVd.out.2.2.2.2.1;omega
   have hwV:w.heap.size≤w1.heap.size:=HG1.out.size;refine ⟨.tuple #[rv,.int .i64 0],by simp [results,Tryz.results65],.inr ⟨?_,rv,logX tl ys,q2,A2,rfl,?_,HTr.out,⟨?_,⟨?_,.inl rfl⟩,?_,?_,⟨D,HP.out⟩⟩,⟨?_,?_,?_,?_,?_,?_⟩⟩⟩
   · rw [HOk.out];exact decide_eq_true HMC.out.2
   ·
    refine (((HVd.out.2.2.1).grown (grown_only HOnly.out) ?_ (fun x hx s hs h0 y hy e=>((HVd.out.2.2.1).each x hx s hs).1.not_blk h0 (HB.out.gr HVd.out.1) hnu y hy (Option.some.inj e).symm)).held (hold_grown hg (fun r e=>by cases e;exact ⟨_,hKd,rfl⟩))).base_le (by omega)
    cases e:rv.ownBlock with
    | none=>exact .inl rfl
    | some j=>
     refine .inr fun e2=>?_
     have h1:=HVd.out.2.2.1.base j e;have h2:j=b:=Option.some.inj e2;have h3:=HWb.out
     omega
   ·
    show Blk Z b TLg #[p,.int .i64 n,.int .i64 l,.int .i64 g,.int .u64 ep,.int .u64 tl,.int .u64 (opN s l.toNat ep tl:Int),.slice q2 A2 A2,.int .i64 0,.bool false]
    rw [← HNum.out.1,HA2.out];exact HBl.out.stays (hg.block b HBl.out.lt (fun e=>hD2b (Option.some.inj e).symm))
   ·
    have h3:=HOf3.out.byt V1 xs HVd.out.2.2.2.2.2
    rw [Nat.sub_zero,List.drop_zero] at h3
    have h4:=HOf.out.byt V1 _ h3;have h5:=h4.stays (w':=Z) (fun y hy=>by have:=hq2 y hy;have:=HB.out.lt;exact hZb _ (by omega) (by have:=HD2.out;omega) (by omega))
    have e1:K1 - (K1 - E % 232)=E % 232:=by have:=HNum.out.2.2.1;omega
    rw [e1,List.take_take,Nat.min_self] at h5
    show Byt Z q2 A2 A2 ((opT s l.toNat ep tl).drop (tl % 232+(opN s l.toNat ep tl - tl) - opN s l.toNat ep tl % 232))
    unfold opT
    rw [← HNum.out.1,← HX.out,← HAe.out,← HNum.out.2.1,HA2.out];exact h5
   ·
    intro y hy e
    have:=hq2 y hy;have:=HB.out.lt
    omega
   ·
    rintro k (rfl | ⟨y,hy,rfl⟩)
    · have:=HB.out.lt;omega
    · have:=hq2 y hy;omega
   · exact hg.os.trans (HOnly.out.os.trans HVd.out.1.os)
   · exact hg.tape.trans (HOnly.out.tape.trans HVd.out.1.tape)
   · exact hg.output.trans (HOnly.out.output.trans HVd.out.1.output)
   · omega
   ·
    intro k hk hn
    rw [hZb k hn (by have:=HD2.out;omega) (by omega)];exact HVd.out.1.block k hk
   ·
    rintro k (rfl | ⟨y,hy,rfl⟩)
    · exact .inl rfl
    · exact .inr (hq2 y hy).1
end Go.Proofs.YtdmhemgepdknhaaGreat
namespace Go.Proofs.YtdmhemgepdknhaaGreat
open Go.RowKit Go.Maps

end Go.Proofs.YtdmhemgepdknhaaGreat
namespace Go.Proofs.YtdmhemgepdknhaaGreat
open Go.RowKit Cr

end Go.Proofs.YtdmhemgepdknhaaGreat
