/-
  Texts, put together: Disk5 SortLay Loose Rets.
-/
import Derived.Shelf.SlIterI.Nil
import Derived.Shelf.SortM.Plain
import Derived.Shelf.SortM.SortNone
import Derived.Test.YtdmhemgepdknhaaGreatProg
import Derived.Test.YtdmhemgepdknhaaGreatV1
import Derived.Test.YtdmhemgepdknhaaGreatV4
set_option linter.unusedVariables false
set_option linter.unusedSimpArgs false
namespace Go.Proofs.YtdmhemgepdknhaaGreat
open Go.RowKit Go.Maps
theorem wp_load_sec {op:Oper} {a:Act} {w:World} {K:Act→World→Prop} {Q:Exit→Act→World→Prop} (x:Operand) (ho:op.op=.load TS x) {b o:Nat} {s:Sec} (hc:w.rangeAt b o s.cells) (hx:a.eval x=.pointer (some ⟨b,o,none⟩))
  (h:K (a.put op.dst (.agg (sec s))) w):op.wp Tryz.prog a w K Q:=
 wp_load_mid TS x ho b o hx s.cells _ hc under_sec rfl (by rw [s.cells_len];exact size_sec) h
theorem Gr.new (w:World) (o:Obj):Gr w (w.alloc o):=(Gr.refl w).alloc (Nat.le_refl _) o
theorem DkAt.neM {w:World} {F:Nat→Prop} {b:Nat} {lv:Value} {m:Nat} {L:Nat→Value} {s:St} (h:DkAt w F b lv m L s):b≠m:=fun e=>by
 subst e;obtain ⟨D,n,⟨es,c,h1,_⟩,_⟩:=h.map;have h2:=h.blk
 unfold Blk at h2
 rw [h1] at h2
 cases h2
theorem row_ne {w:World} {g b m:Nat} {v:Value} {ss:List Sec} {cs:Array Value} {n:Nat} {D:DataW Value} (h:Row w v ss) (hg:v.ownBlock=some g) (hb:Blk w b TD cs) (hm:w.ownsMap Tryz.prog TI eltR m n D):g≠b∧g≠m:=by
 obtain ⟨cur,hk⟩:=h.kind hg
 constructor
 ·
  intro e
  subst e
  unfold Blk at hb
  rw [hk] at hb
  simp only [Option.some.injEq,Obj.cells.injEq] at hb
  exact absurd hb.2.1 (by decide)
 ·
  intro e
  subst e;obtain ⟨es,c,h1,_⟩:=hm
  rw [hk] at h1
  cases h1
def Gw (u:Value) (i:Nat) (w w':World):Prop:=cond (i == 13) (w.grownBy w' u.ownBlock) (cond (i == 14) True (Gr w w'))
def Sw (W0:World) (b m i bx:Nat) (x:Sec) (u:Value) (ss:List Sec) (d:Nat) (v:Value) (w:World):Prop:=
 match d with
 | 38 | 39 | 43 | 44=>v=.pointer (some ⟨b,0,none⟩)
 | 40 | 45=>v=.pointer (some ⟨b,1,none⟩)
 | 41 | 46=>v=.map (some m)
 | 42 | 47=>v=.int .i64 (i:Int)
 | 48=>v=u∧Row w u ss
 | 49=>v=.agg (sec x)
 | 50=>∃ q,v=.slice (some ⟨q,0,none⟩) 1 1∧Row w (.slice (some ⟨q,0,none⟩) 1 1) [x]
 | 51=>Row w v (ss++[x])∧(v.ownBlock=u.ownBlock∨∃ g,v.ownBlock=some g∧W0.heap.size≤g)
 | _=>True
theorem Sw.kept {W0:World} {b m i bx:Nat} {x:Sec} {u:Value} {ss:List Sec} (d:Nat) (v:Value) (w w':World) (h:Sw W0 b m i bx x u ss d v w) (g:Gr w w'):Sw W0 b m i bx x u ss d v w':=by
 unfold Sw at h ⊢
 split <;> simp only at h
 all_goals first
  | exact h
  | exact ⟨h.1,Row.gr h.2 g⟩
  | exact (let ⟨q,h1,h2⟩:=h;⟨q,h1,Row.gr h2 g⟩)
  | exact ⟨Row.gr h.1 g,h.2⟩
theorem Sw.any {W0:World} {b m i bx:Nat} {x:Sec} {u:Value} {ss:List Sec} (d:Nat) (hd:d ∈ [38,39,40,41,42]) (v:Value) (w w':World) (h:Sw W0 b m i bx x u ss d v w):Sw W0 b m i bx x u ss d v w':=by
 simp only [List.mem_cons,List.not_mem_nil,or_false] at hd
 rcases hd with rfl | rfl | rfl | rfl | rfl <;> exact h
def Fw (W0:World) (m i:Nat) (x:Sec) (u:Value) (ss:List Sec) (n:Nat) (D:DataW Value) (w:World):Prop:=
 ∃ v w1,Row w1 v (ss++[x])∧W0.grownBy w1 u.ownBlock∧(v.ownBlock=u.ownBlock∨∃ g,v.ownBlock=some g∧W0.heap.size≤g)∧w.ownsMap Tryz.prog TI eltR m (n+1) (D.put (key i) (.held v))∧w1.grownBy w (some m)
theorem key_lit (i:Nat):WideAt.IsKeyLit (key i):=True.intro
theorem key_inj {i j:Nat} (h:key i=key j):i=j:=by
 unfold key at h
 simp only [Lit.int.injEq,true_and] at h
 omega
set_option maxHeartbeats 1000000 in
theorem DkAt.wrote {w0 w:World} {F:Nat→Prop} {b:Nat} {lv:Value} {m:Nat} {L:Nat→Value} {s:St} (h:DkAt w0 F b lv m L s) (i:Nat) (hi:i < s.ls.length) (x:Sec) {n:Nat} {D:DataW Value} (ho:w0.ownsMap Tryz.prog TI eltR m n D) (hn:n≤65536+s.writes)
  (hat:∀ i,i < s.ls.length→D.atKey (key i) (.held nilS)=.held (L i)) (hhas:∀ i,i < s.ls.length→(has D (key i)=true ↔ s.t i≠[])) (hkeys:∀ k,has D k=true→∃ i,i < s.ls.length∧k=key i) (hf:Fw w0 m i x (L i) (s.t i) n D w) :
  ∃ F' L',DkAt (w.setCell ⟨b,4,none⟩ (.int .i64 ((s.writes+1:Nat):Int))) F' b lv m L' { s with t:=fun j=>if j=i then s.t i++[x] else s.t j,writes:=s.writes+1 }∧Upd F F' w0 (w.setCell ⟨b,4,none⟩ (.int .i64 ((s.writes+1:Nat):Int))) ∧
   w.cell? ⟨b,4,none⟩=some (.int .i64 (s.writes:Int))∧w.frozen? ⟨b,4,none⟩=false:=by
 obtain ⟨v,w1,r1,g1,l1,ho2,g2⟩:=hf;have hbm:=h.neM;have hmL:=h.low m h.ownM;have hbL:=h.low b h.ownB
 have e1:∀ k,F k→(L i).ownBlock≠some k→w1.heap[k]?=w0.heap[k]?:=fun k hk hne=>g1.block k (h.low k hk) (fun e=>hne e.symm)
 have e2:∀ k,F k→(L i).ownBlock≠some k→k≠m→w.heap[k]?=w0.heap[k]?:=fun k hk hne hm=>(g2.block k (Nat.lt_of_lt_of_le (h.low k hk) g1.size) (fun e=>hm (by cases e;rfl))).trans (e1 k hk hne)
 have hbi:(L i).ownBlock≠some b:=fun e=>(row_ne (h.rows i) e h.blk ho).1 rfl
 have hmi:(L i).ownBlock≠some m:=fun e=>(row_ne (h.rows i) e h.blk ho).2 rfl
 have hblk:Blk w b TD #[lv,.map (some m),.int .i64 s.fuse,.bool s.dead,.int .i64 (s.writes:Int)]:=h.blk.stays (e2 b h.ownB hbi hbm)
 have hvm:∀ g,v.ownBlock=some g→g≠m∧g≠b:=fun g hg=>by
  have hb1:Blk w1 b TD #[lv,.map (some m),.int .i64 s.fuse,.bool s.dead,.int .i64 (s.writes:Int)]:=h.blk.stays (e1 b h.ownB hbi);have:=row_ne r1 hg hb1 (ownsMap_stays ho (e1 m h.ownM hmi));exact ⟨this.2,this.1⟩
 have hrow:Row w v (s.t i++[x]):=r1.stays fun g hg=>g2.block g (r1.lt g hg) (fun e=>(hvm g hg).1 (by cases e;rfl))
 have hsz:w0.heap.size≤w.heap.size:=Nat.le_trans g1.size g2.size
 have hset:∀ k,k≠b→(w.setCell ⟨b,4,none⟩ (.int .i64 ((s.writes+1:Nat):Int))).heap[k]?=w.heap[k]?:=fun k hk=>Below.heap_setCell w _ _ k hk
 have hss:(w.setCell ⟨b,4,none⟩ (.int .i64 ((s.writes+1:Nat):Int))).heap.size=w.heap.size:=by simp [World.setCell]
 have hlvne:∀ g,lv.ownBlock=some g→(L i).ownBlock≠some g:=fun g hg e=>h.apart0 i g e hg
 have hlvb:∀ g,lv.ownBlock=some g→g≠b∧g≠m:=fun g hg=>row_ne h.ls hg h.blk ho
 have hnew:∀ g,v.ownBlock=some g→¬ (∃ j,j≠i∧(L j).ownBlock=some g)∧lv.ownBlock≠some g:=fun g hg=>by
  rcases l1 with e | ⟨g',e,hge⟩
  ·
   rw [hg] at e
   exact ⟨fun ⟨j,hj,e2⟩=>hj (h.apart j i g e2 e.symm),fun e2=>h.apart0 i g e.symm e2⟩
  ·
   rw [hg] at e
   cases e
   refine ⟨fun ⟨j,hj,e2⟩=>?_,fun e2=>?_⟩
   · have:=(h.rows j).lt _ e2;omega
   · have:=h.ls.lt _ e2;omega
 refine ⟨fun k=>F k∨v.ownBlock=some k,fun j=>if j=i then v else L j,⟨?_,?_,?_,?_,?_,?_,?_,.inl h.ownB,.inl h.ownM,fun g hg=>.inl (h.ownL g hg),?_,?_⟩,?_,?_,?_⟩
 ·
  refine ⟨h.ok.pos,h.ok.most,fun j hj=>?_,fun j=>?_,h.ok.lo,h.ok.hi⟩
  ·
   show (if j=i then _ else _)=_
   rw [if_neg (by have:s.ls.length≤j:=hj;omega)];exact h.ok.out j hj
  ·
   show (if j=i then _ else _:List Sec).length≤s.writes+1
   have:=h.ok.less j;have:=h.ok.less i
   split
   · simp;omega
   · omega
 ·
  have:=hblk.set 4 (.int .i64 ((s.writes+1:Nat):Int))
  simpa using this
 · exact h.ls.stays fun g hg=>(hset g (hlvb g hg).1).trans (e2 g (h.ownL g hg) (hlvne g hg) (hlvb g hg).2)
 ·
  refine ⟨D.put (key i) (.held v),n+1,ownsMap_stays ho2 (hset m (fun e=>hbm e.symm)),by show n+1≤65536+(s.writes+1);omega,fun j hj=>?_,fun j hj=>?_,fun k hk=>?_⟩
  ·
   by_cases hji:j=i
   ·
    subst hji
    show _=DataW.held (if j=j then v else L j)
    rw [if_pos rfl];exact atKey_put_same ho.isMap (key_lit j) _ _
   ·
    show _=DataW.held (if j=i then v else L j)
    rw [if_neg hji,atKey_put_other (fun e=>hji (key_inj e))];exact hat j hj
  ·
   by_cases hji:j=i
   ·
    subst hji;refine ⟨fun _=>?_,fun _=>has_put_same ho.isMap (key_lit j) _⟩
    simp
   ·
    rw [has_put_other (fun e=>hji (key_inj e))]
    simp only [if_neg hji]
    exact hhas j hj
  ·
   by_cases hki:k=key i
   · exact ⟨i,hi,hki⟩
   ·
    rw [has_put_other hki] at hk
    exact hkeys k hk
 ·
  intro j
  by_cases hji:j=i
  ·
   subst hji
   simp only [if_pos]
   exact hrow.stays fun g hg=>hset g (hvm g hg).2
  ·
   simp only [if_neg hji]
   refine (h.rows j).stays fun g hg=>?_
   have:=row_ne (h.rows j) hg h.blk ho;exact (hset g this.1).trans (e2 g (h.ownR j g hg) (fun e=>hji (h.apart j i g hg e)) this.2)
 ·
  intro j k g hj hk
  by_cases hji:j=i <;> by_cases hki:k=i
  · rw [hji,hki]
  ·
   simp only [if_pos hji,if_neg hki] at hj hk
   exact absurd ⟨k,hki,hk⟩ (hnew g hj).1
  ·
   simp only [if_neg hji,if_pos hki] at hj hk
   exact absurd ⟨j,hji,hj⟩ (hnew g hk).1
  ·
   simp only [if_neg hji,if_neg hki] at hj hk
   exact h.apart j k g hj hk
 ·
  intro j g hj
  by_cases hji:j=i
  ·
   simp only [if_pos hji] at hj
   exact (hnew g hj).2
  ·
   simp only [if_neg hji] at hj
   exact h.apart0 j g hj
 ·
  intro j g hj
  by_cases hji:j=i
  ·
   simp only [if_pos hji] at hj
   exact .inr hj
  ·
   simp only [if_neg hji] at hj
   exact .inl (h.ownR j g hj)
 ·
  rintro k (hk | hk)
  · rw [hss];exact Nat.lt_of_lt_of_le (h.low k hk) hsz
  · rw [hss];exact hrow.lt k hk
 ·
  refine ⟨g2.os.trans g1.os,g2.tape.trans g1.tape,g2.output.trans g1.output,by rw [hss];exact hsz,fun k hk hF=>?_,fun k hk=>?_⟩
  ·
   have hkb:k≠b:=fun e=>hF (by rw [e];exact h.ownB)
   have hkm:k≠m:=fun e=>hF (by rw [e];exact h.ownM)
   have hki:(L i).ownBlock≠some k:=fun e=>hF (h.ownR i k e)
   exact (hset k hkb).trans ((g2.block k (Nat.lt_of_lt_of_le hk g1.size) (fun e=>hkm (by cases e;rfl))).trans (g1.block k hk (fun e=>hki e.symm)))
  ·
   rcases hk with hk | hk
   · exact .inl hk
   ·
    rcases l1 with e | ⟨g',e,hge⟩
    · exact .inl (h.ownR i k (e ▸ hk))
    · rw [hk] at e;cases e;exact .inr hge
 · exact hblk.cell 4
 · exact hblk.frozen 4
def Chg (F:Nat→Prop) (p:Value) (s:St) (v:Value) (w:World) (e:Ending) (w':World):Prop:=∃ F',e=.returned v∧Dk w' F' p s∧Upd F F' w w'
def Mw (w wx:World) (F:Nat→Prop) (b:Nat) (lv:Value) (m:Nat) (L:Nat→Value) (s:St) (x:Sec):Prop:=
 DkAt wx F b lv m L { s with fuse:=if 0 < s.fuse then s.fuse - 1 else s.fuse }∧Blk wx w.heap.size TS (sec x)∧Upd F F w wx∧w.heap.size < wx.heap.size
def ChgM (F:Nat→Prop) (b:Nat) (lv:Value) (m:Nat) (s:St) (v:Value) (w:World) (e:Ending) (w':World):Prop:=∃ F' L',e=.returned v∧DkAt w' F' b lv m L' s∧Upd F F' w w'
set_option maxRecDepth 100000 in
set_option maxHeartbeats 4000000 in
theorem Write_yesM {F:Nat→Prop} {b:Nat} {lv:Value} {m:Nat} {L:Nat→Value} {s:St} (w:World) (h:DkAt w F b lv m L s) (i:Nat) (hi:i < s.ls.length) (x:Sec) (hr:¬ s.refuses) (hw:s.writes≤1000000000):Calls Tryz.prog 77 #[.pointer (some ⟨b,0,none⟩),.int .i64 (i:Int),.agg (sec x)] w fun e w'=>ChgM F b lv m (s.wrote i x) (.int .i64 0) w e w':=by
 have hz:s.fuse≠0:=fun e=>hr (.inl e)
 have hd:s.dead=false:=by
  cases hq:s.dead with
  | false=>rfl
  | true=>exact absurd (.inr hq) hr
 have hg:Gr w (w.alloc (.cells (sec x) TS)):=(Gr.refl w).alloc (Nat.le_refl _) _;have h':=h.gr hg;have ha:=asked_any _ h' (i:Int)
 have he:askE s.ls.length (i:Int)=0:=by unfold askE;rw [if_neg (by omega)]
 rw [he] at ha
 have HA:=Lib.hid ha;obtain ⟨h0,h1,h2,h3,h4⟩:=h'.cells;have hf:=h'.blk.frozen 2
 rw [hd] at h3
 have hz2:(s.fuse == 0)=false:=by simpa using hz
 have hlo:=h.ok.lo;have hhi:=h.ok.hi;have HX0:=Lib.hid (Blk.new w TS (sec x));have HLow:Hid (¬ F w.heap.size):=Lib.hid (fun e=>by have:=h.low _ e;omega);have HU0:=Lib.hid (Upd.of_gr (F:=F) hg);have HD:Hid (DkAt (w.alloc (.cells (sec x) TS)) F b lv m L s):=Lib.hid h';have HWr:Hid (s.writes≤1000000000):=Lib.hid hw;have HIl:Hid (i < s.ls.length):=Lib.hid hi;have HB:=Lib.hid (h'.blk.set 2 (.int .i64 (s.fuse - 1)))
 have HD2:Hid (0 < s.fuse→DkAt ((w.alloc (.cells (sec x) TS)).setCell ⟨b,2,none⟩ (.int .i64 (s.fuse - 1))) F b lv m L { s with fuse:=s.fuse - 1 }):=Lib.hid fun hp=>
  h'.block (s':={ s with fuse:=s.fuse - 1 }) ⟨h.ok.pos,h.ok.most,h.ok.out,h.ok.less,by show -9223372036854775808≤s.fuse - 1;omega,by show s.fuse - 1≤9223372036854775807;omega⟩ rfl rfl (Nat.le_refl _) (by simpa using HB.out) (fun k _ hk=>Below.heap_setCell _ _ _ k hk) (by simp [World.setCell])
 have HU2:=Lib.hid (Upd.trans (Upd.of_gr (F:=F) hg) (upd_cell (w:=w.alloc (.cells (sec x) TS)) (i:=2) h.ownB (.int .i64 (s.fuse - 1))))
 have hnb:w.heap.size≠b:=fun e=>HLow.out (by rw [e];exact h.ownB)
 have HX2:Hid (Blk ((w.alloc (.cells (sec x) TS)).setCell ⟨b,2,none⟩ (.int .i64 (s.fuse - 1))) w.heap.size TS (sec x)):=Lib.hid (HX0.out.far (by simpa using hnb) _);have HBx:Hid (w.heap.size < (w.alloc (.cells (sec x) TS)).heap.size):=Lib.hid (by simp);clear h h' ha he hi hr h0 h1 h4 hd hw HB hz hg hnb
 go_enter Tryz.func77,Tryz.ntmps77
 go_wp2_with fail;refine HA.out.mono ?_;rintro e w1 ⟨rfl,rfl⟩
 go_upto_if 30 with fail
 go_cut [31] (fun s31 wx=>Mw w wx F b lv m L s x)
 case first=>
  by_cases hp:0 < s.fuse
  ·
   go_wp2
   go_meet
   exact ⟨by rw [if_pos hp];exact HD2.out hp,HX2.out,HU2.out,by simp [World.setCell]⟩
  ·
   go_wp2
   go_meet
   exact ⟨by rw [if_neg (by omega)];exact HD.out,HX0.out,HU0.out,HBx.out⟩
 case rest=>
  obtain ⟨w0,hw0⟩:∃ w0,w0=w:=⟨_,rfl⟩;subst hw0;clear HA HX0 HU0 HD HU2 HX2 HBx HD2 h2 h3 hf hz2 hlo hhi;obtain ⟨hd,hx,hu,hlt⟩:=hcut;obtain ⟨f',hff⟩:∃ f',f'=(if 0 < s.fuse then s.fuse - 1 else s.fuse):=⟨_,rfl⟩
  have hfin:s.wrote i x={ ls:=s.ls,t:=(fun j=>if j=i then s.t i++[x] else s.t j),fuse:=f',dead:=s.dead,writes:=s.writes+1 }:=by unfold St.wrote;rw [hff]
  have HFin:=Lib.hid hfin
  rw [← hff] at hd
  clear hfin hff;have HDk:=Lib.hid hd;have HU:=Lib.hid hu;obtain ⟨D,n,ho,hn,hat,hhas,hkeys⟩:=hd.map;have HMap:=Lib.hid (And.intro ho (And.intro hn (And.intro hat (And.intro hhas hkeys))));obtain ⟨u,hu1⟩:∃ u,u=L i:=⟨_,rfl⟩;obtain ⟨ss,hss⟩:∃ ss,ss=s.t i:=⟨_,rfl⟩
  have hrow:Row wc u ss:=by rw [hu1,hss];exact hd.rows i
  have hub:∀ g,u.ownBlock=some g→g≠b∧g≠m:=fun g hg=>row_ne hrow hg hd.blk ho
  have hux:u.ownBlock≠some w0.heap.size:=fun e=>HLow.out (hd.ownR i _ (by rw [← hu1];exact e))
  have hmlt:=hd.low m hd.ownM;have hblt:=hd.low b hd.ownB;have hmost:=hd.ok.most;have hless:=hd.ok.less i
  have HC:Hid (∀ W,wc.grownBy W u.ownBlock→W.cell? ⟨b,1,none⟩=some (.map (some m))):=Lib.hid fun W h=>(World.cell?_of_block (h.block b hblt fun e=>(hub b e.symm).1 rfl)).trans (hd.blk.cell 1)
  have HO:Hid (∀ W,wc.grownBy W u.ownBlock→W.ownsMap Tryz.prog TI eltR m n D):=Lib.hid fun W h=>ownsMap_stays ho (h.block m hmlt fun e=>(hub m e.symm).2 rfl)
  have HK:Hid (∀ W,wc.grownBy W u.ownBlock→(Instr.lookup TM (.map (some m)) (.int .i64 (i:Int)) false).run Tryz.prog W=.ok u W):=Lib.hid fun W h=>by
   rw [hu1];exact Loose.look (q:=65536+s.writes) (t:=s.t) ⟨D,n,HO.out W h,hn,hat,hhas,hkeys⟩ i HIl.out hmost
  have HR:Hid (∀ W,Gr wc W→Row W u ss):=Lib.hid fun W h=>hrow.gr h
  have HX:Hid (∀ W,wc.grownBy W u.ownBlock→W.rangeAt w0.heap.size 0 x.cells):=Lib.hid fun W h=>(hx.stays (h.block _ hlt fun e=>hux e.symm)).one
  have HL:Hid (ss.length+1≤500000000000):=Lib.hid (by rw [hss];have:=HWr.out;show _≤_;have h2:(s.t i).length≤s.writes:=hless;omega);have HI:Hid (i < 65536):=Lib.hid (by have:=HIl.out;have h2:s.ls.length≤65536:=hmost;omega);have HN:Hid (n < maxLen):=Lib.hid (by have:=HWr.out;have h2:n≤65536+s.writes:=hn;unfold maxLen;omega);have HUss:=Lib.hid (And.intro hu1 hss);have hwr:s.writes≤1000000000:=HWr.out;clear hd hx hu hlt ho hn hat hhas hkeys hrow hub hux hmlt hblt hmost hless hu1 hss;go_wp2_with fail;refine Flow.regionZ 14 13 (by kernel_rfl) [] 16 (Sw wc b m i w0.heap.size x u ss) (fun W=>wc.grownBy W u.ownBlock) (Fw wc m i x u ss n D) (Gr wc) (Gw u) (by kernel_rfl) (by kernel_rfl) (by kernel_rfl) ?mono ⟨rfl,rfl,rfl,Nat.le_refl _,fun _ _ _=>rfl⟩ ⟨rfl,rfl,rfl,Nat.le_refl _,fun _ _=>rfl⟩ ?steps ?fin
  case mono=>
   intro i d v w w' hb hs hg
   by_cases h13:i=13
   · subst h13;exact Sw.any d (Flow.bears2_only [38,39,40,41,42] (by kernel_rfl) hb) v w w' hs
   ·
    by_cases h14:i=14
    ·
     subst h14;have:=Flow.bears2_only [] (by kernel_rfl) hb
     cases this
    ·
     have e1:(i == 13)=false:=by simpa using h13
     have e2:(i == 14)=false:=by simpa using h14
     unfold Gw at hg
     rw [e1,e2] at hg
     exact Sw.kept d v w w' hs hg
  case fin=>
   intro a W hfr hfin hsl
   clear hsl;have e:=Flow.frame hfr [38,39,40,41,42,43,44,45,46,47,48,49,50,51] (List.range 59) (by kernel_rfl) (by kernel_rfl)
   simp [List.range,List.range.loop] at e
   rw [e];clear e hfr;have hdk:=HDk.out;obtain ⟨h1,h2,h3,h4,h5⟩:=HMap.out
   rw [HUss.out.1,HUss.out.2] at hfin
   obtain ⟨F',L',hD,hUp,hc4,hf4⟩:=hdk.wrote i HIl.out x h1 h2 h3 h4 h5 hfin;have HD:=Lib.hid hD;have HUp:=Lib.hid hUp
   simp only at hc4
   clear HMap HUss HDk HC HO HK HR HX HL HI HN hfin hdk h1 h2 h3 h4 h5 hD hUp
   rename_i K hK
   refine hK _ _ ?_
   have hw9:(s.writes:Int)≤1000000000:=by omega
   go_wp2
   go_ret
   exact ⟨F',L',rfl,by rw [HFin.out];exact HD.out,HU.out.trans HUp.out⟩
  case steps=>
   refine .cons (fun a W hfr hinv hear hdep K hK=>?_) ?_
   · have t0:=tAt (.pointer (some ⟨b,0,none⟩)) (hfr.at 0 (by kernel_rfl));refine fW0 rfl ?_;clear hfr hdep hear;go_simp;exact hK _ _ (show Gr W W from Gr.refl W) hinv (fun h=>h) (dsT rfl)
   refine .cons (fun a W hfr hinv hear hdep K hK=>?_) ?_
   · have t38:=tAt (.pointer (some ⟨b,0,none⟩)) (hdep 38 (by kernel_rfl));refine fW0 rfl ?_;clear hfr hdep hear;go_simp;exact hK _ _ (show Gr W W from Gr.refl W) hinv (fun h=>h) (dsT rfl)
   refine .cons (fun a W hfr hinv hear hdep K hK=>?_) ?_
   · have t39:=tAt (.pointer (some ⟨b,0,none⟩)) (hdep 39 (by kernel_rfl));refine fW0 rfl ?_;clear hfr hdep hear;go_simp;exact hK _ _ (show Gr W W from Gr.refl W) hinv (fun h=>h) (dsT rfl)
   refine .cons (fun a W hfr hinv hear hdep K hK=>?_) ?_
   · have t40:=tAt (.pointer (some ⟨b,1,none⟩)) (hdep 40 (by kernel_rfl));have hc:=HC.out W hinv;refine fW0 rfl ?_;clear hfr hdep hear;go_simp;exact hK _ _ (show Gr W W from Gr.refl W) hinv (fun h=>h) (dsT rfl)
   refine .cons (fun a W hfr hinv hear hdep K hK=>?_) ?_
   · have t1:=tAt (.int .i64 (i:Int)) (hfr.at 1 (by kernel_rfl));refine fW0 rfl ?_;clear hfr hdep hear;go_simp;exact hK _ _ (show Gr W W from Gr.refl W) hinv (fun h=>h) (dsT rfl)
   refine .cons (fun a W hfr hinv hear hdep K hK=>?_) ?_
   · have t0:=tAt (.pointer (some ⟨b,0,none⟩)) (hfr.at 0 (by kernel_rfl));refine fW0 rfl ?_;clear hfr hdep hear;go_simp;exact hK _ _ (show Gr W W from Gr.refl W) hinv (fun h=>h) (dsT rfl)
   refine .cons (fun a W hfr hinv hear hdep K hK=>?_) ?_
   · have t43:=tAt (.pointer (some ⟨b,0,none⟩)) (hdep 43 (by kernel_rfl));refine fW0 rfl ?_;clear hfr hdep hear;go_simp;exact hK _ _ (show Gr W W from Gr.refl W) hinv (fun h=>h) (dsT rfl)
   refine .cons (fun a W hfr hinv hear hdep K hK=>?_) ?_
   · have t44:=tAt (.pointer (some ⟨b,0,none⟩)) (hdep 44 (by kernel_rfl));refine fW0 rfl ?_;clear hfr hdep hear;go_simp;exact hK _ _ (show Gr W W from Gr.refl W) hinv (fun h=>h) (dsT rfl)
   refine .cons (fun a W hfr hinv hear hdep K hK=>?_) ?_
   · have t45:=tAt (.pointer (some ⟨b,1,none⟩)) (hdep 45 (by kernel_rfl));have hc:=HC.out W hinv;refine fW0 rfl ?_;clear hfr hdep hear;go_simp;exact hK _ _ (show Gr W W from Gr.refl W) hinv (fun h=>h) (dsT rfl)
   refine .cons (fun a W hfr hinv hear hdep K hK=>?_) ?_
   · have t1:=tAt (.int .i64 (i:Int)) (hfr.at 1 (by kernel_rfl));refine fW0 rfl ?_;clear hfr hdep hear;go_simp;exact hK _ _ (show Gr W W from Gr.refl W) hinv (fun h=>h) (dsT rfl)
   refine .cons (fun a W hfr hinv hear hdep K hK=>?_) ?_
   · have t46:=tAt (.map (some m)) (hdep 46 (by kernel_rfl));have t47:=tAt (.int .i64 (i:Int)) (hdep 47 (by kernel_rfl));refine fW0 rfl ?_;clear hfr hdep;have hk:=HK.out W hinv;have hr:=HR.out W (Flow.early hear (by kernel_rfl));clear hear;go_simp;exact hK _ _ (show Gr W W from Gr.refl W) hinv (fun h=>h) (fun d hd=>by cases hd;exact ⟨rfl,hr⟩)
   refine .cons (fun a W hfr hinv hear hdep K hK=>?_) ?_
   ·
    have s5:a.tmps.getD 5 undef=.pointer (some ⟨w0.heap.size,0,none⟩):=hfr.at 5 (by kernel_rfl)
    have t5:=tmpAt s5;refine fW0 rfl ?_;clear hfr hdep;refine wp_load_sec (.tmp 5) rfl (HX.out W hinv) (by simpa [Act.eval] using s5) ?_;exact hK _ _ (show Gr W W from Gr.refl W) hinv (fun h=>h) (dsT rfl)
   refine .cons (fun a W hfr hinv hear hdep K hK=>?_) ?_
   · have t49:=tAt (.agg (sec x)) (hdep 49 (by kernel_rfl));refine fW0 rfl ?_;clear hfr hdep;refine wp_buildSecs 1 #[(0,.tmp 49)] rfl [x] rfl (by omega) (by omega) (by simp [Act.eval,t49,partsOf,partsL,sec]) ?_;exact hK _ _ (show Gr W (W.alloc _) from Gr.new W _) (hinv.trans (World.grownBy_alloc W _ _)) (fun h=>Gr.trans h (Gr.new W _)) (fun d hd=>by cases hd;exact ⟨_,rfl,Row.lit W [x] 1 rfl (by omega)⟩)
   refine .cons (fun a W hfr hinv hear hdep K hK=>?_) ?_
   ·
    have s48:((a.tmps.getD 48 undef)=u∧Row W u ss):=hdep 48 (by kernel_rfl);have s50:(∃ q,(a.tmps.getD 50 undef)=.slice (some ⟨q,0,none⟩) 1 1∧Row W (.slice (some ⟨q,0,none⟩) 1 1) [x]):=hdep 50 (by kernel_rfl);refine fW0 rfl ?_;clear hfr hdep;obtain ⟨e48,r48⟩:=s48;obtain ⟨q,e50,r50⟩:=s50;refine app_sec (.tmp 48) (.tmp 50) rfl (by simpa [Act.eval] using e48) r48 (by simpa [Act.eval] using e50) r50 rfl HL.out ?_
    intro v' w' h1 h2 h3
    exact hK _ _ (show W.grownBy w' u.ownBlock from h2) (hinv.trans h2) True.intro (fun d hd=>by cases hd;exact ⟨h1,h3.imp id fun h=>⟨_,h,hinv.size⟩⟩)
   refine .cons (fun a W hfr hinv hear hdep K hK=>?_) ?_
   ·
    have s41:a.tmps.getD 41 undef=.map (some m):=hdep 41 (by kernel_rfl);have t41:=tmpAt s41;have s42:a.tmps.getD 42 undef=.int .i64 (i:Int):=hdep 42 (by kernel_rfl);have t42:=tmpAt s42;have s51:(Row W (a.tmps.getD 51 undef) (ss++[x])∧((a.tmps.getD 51 undef).ownBlock=u.ownBlock∨∃ g,(a.tmps.getD 51 undef).ownBlock=some g∧wc.heap.size≤g)):=hdep 51 (by kernel_rfl);refine fW0 rfl ?_;clear hfr hdep;obtain ⟨r51,l51⟩:=s51;refine upd_loose (.tmp 41) (.tmp 42) (.tmp 51) rfl (by simpa [Act.eval] using s41) i HI.out (by simpa [Act.eval] using s42) _ rfl (HO.out W hinv) HN.out ?_
    intro w' h1 h2
    exact hK _ _ True.intro ⟨_,W,r51,hinv,l51,h1,h2⟩ True.intro (fun d hd=>by cases hd)
   exact True.intro
theorem Write_yes {F:Nat→Prop} {p:Value} {s:St} (w:World) (h:Dk w F p s) (i:Nat) (hi:i < s.ls.length) (x:Sec) (hr:¬ s.refuses) (hw:s.writes≤1000000000):Calls Tryz.prog 77 #[p,.int .i64 (i:Int),.agg (sec x)] w fun e w'=>Chg F p (s.wrote i x) (.int .i64 0) w e w':=by
 obtain ⟨b,lv,m,L,rfl,h⟩:=h;refine (Write_yesM w h i hi x hr hw).mono ?_;rintro e w' ⟨F',L',rfl,hd,hu⟩;exact ⟨F',rfl,⟨_,_,_,_,rfl,hd⟩,hu⟩
end Go.Proofs.YtdmhemgepdknhaaGreat
namespace Go.Proofs.YtdmhemgepdknhaaGreat
open Go.Shelf
def Shl.keysA_ren:Go.Shelf.Ren:=⟨fun | 7=>58 | 10=>83 | n=>n,fun | 23=>110 | 26=>3 | 3=>50 | 28=>115 | 0=>0 | 27=>114 | 33=>107 | 4=>4 | n=>n,fun | n=>n⟩
theorem Shl.keysA:Go.Proofs.SlLaysZI.n7 Tryz.prog Shl.keysA_ren:={
 mixed:=by kernel_rfl
 f7:=⟨Tryz.f58.name,by decide,Tryz.func58.trans (congrArg some (by kernel_rfl))⟩
 f10:=⟨Tryz.f83.name,by decide,Tryz.func83.trans (congrArg some (by kernel_rfl))⟩
 t0:=Tryz.underlying0
 a0:=Tryz.isAgg0
 z0:=Tryz.sizeOf0
 v0:=Tryz.zeroValue0
 t4:=Tryz.underlying4
 a4:=Tryz.isAgg4
 z4:=Tryz.sizeOf4
 v4:=Tryz.zeroValue4
 t23:=Tryz.underlying110
 a23:=Tryz.isAgg110
 z23:=Tryz.sizeOf110
 v23:=Tryz.zeroValue110
 t26:=Tryz.underlying3
 a26:=Tryz.isAgg3
 z26:=Tryz.sizeOf3
 v26:=Tryz.zeroValue3
 t27:=Tryz.underlying114
 a27:=Tryz.isAgg114
 z27:=Tryz.sizeOf114
 v27:=Tryz.zeroValue114
 t28:=Tryz.underlying115
 a28:=Tryz.isAgg115
 z28:=Tryz.sizeOf115
 v28:=Tryz.zeroValue115
 t33:=Tryz.underlying107
 a33:=Tryz.isAgg107
 z33:=Tryz.sizeOf107
 v33:=Tryz.zeroValue107 }
def Shl.sortedA_ren:Go.Shelf.Ren:=⟨fun | 6=>57 | 8=>81 | 9=>82 | 11=>95 | 13=>97 | 12=>96 | 23=>123 | 24=>124 | 14=>114 | 15=>115 | 16=>116 | 17=>117 | 18=>118 | 19=>119 | 20=>120 | 21=>121 | 22=>122 | 25=>143 | 26=>144 | 27=>145 | 28=>146 | 29=>147 | 30=>148 | 31=>161 | n=>n,fun | 26=>3 | 28=>115 | 24=>55 | 0=>0 | 3=>3 | 37=>109 | 48=>167 | 50=>36 | 4=>4 | 40=>173 | 39=>172 | 45=>178 | 5=>5 | 9=>9 | 51=>197 | 55=>200 | 57=>218 | 58=>219 | 33=>107 | n=>n,fun | n=>n⟩
theorem Shl.sortedA:Go.Proofs.SlLaysZI.n6 Tryz.prog Shl.sortedA_ren:={
 mixed:=by kernel_rfl
 f6:=⟨Tryz.f57.name,by decide,Tryz.func57.trans (congrArg some (by kernel_rfl))⟩
 f8:=⟨Tryz.f81.name,by decide,Tryz.func81.trans (congrArg some (by kernel_rfl))⟩
 f11:=⟨Tryz.f95.name,by decide,Tryz.func95.trans (congrArg some (by kernel_rfl))⟩
 t0:=Tryz.underlying0
 a0:=Tryz.isAgg0
 z0:=Tryz.sizeOf0
 v0:=Tryz.zeroValue0
 t24:=Tryz.underlying55
 a24:=Tryz.isAgg55
 z24:=Tryz.sizeOf55
 v24:=Tryz.zeroValue55
 t26:=Tryz.underlying3
 a26:=Tryz.isAgg3
 z26:=Tryz.sizeOf3
 v26:=Tryz.zeroValue3
 t28:=Tryz.underlying115
 a28:=Tryz.isAgg115
 z28:=Tryz.sizeOf115
 v28:=Tryz.zeroValue115
 i26:=by kernel_rfl }
def Shl.sortA_ren:Go.Shelf.Ren:=⟨fun | 5=>82 | 8=>97 | 7=>96 | 19=>123 | 20=>124 | 10=>114 | 11=>115 | 12=>116 | 13=>117 | 14=>118 | 15=>119 | 16=>120 | 17=>121 | 18=>122 | 30=>143 | 31=>144 | 32=>145 | 33=>146 | 34=>147 | 35=>148 | 40=>161 | n=>n,fun | 23=>55 | 25=>3 | 3=>3 | 32=>109 | 22=>55 | 0=>0 | 44=>167 | 46=>36 | 4=>4 | 36=>173 | 35=>172 | 41=>178 | 5=>5 | 9=>9 | 53=>197 | 57=>200 | 63=>218 | 64=>219 | n=>n,fun | n=>n⟩
theorem Shl.sortA:Go.Proofs.SlLaysM.n5 Tryz.prog Shl.sortA_ren:={
 mixed:=by kernel_rfl
 f5:=⟨Tryz.f82.name,by decide,Tryz.func82.trans (congrArg some (by kernel_rfl))⟩
 f7:=⟨Tryz.f96.name,by decide,Tryz.func96.trans (congrArg some (by kernel_rfl))⟩
 f8:=Tryz.func97.trans (congrArg some (by kernel_rfl))
 f10:=⟨Tryz.f114.name,by decide,Tryz.func114.trans (congrArg some (by kernel_rfl))⟩
 f11:=⟨Tryz.f115.name,by decide,Tryz.func115.trans (congrArg some (by kernel_rfl))⟩
 f12:=⟨Tryz.f116.name,by decide,Tryz.func116.trans (congrArg some (by kernel_rfl))⟩
 f13:=⟨Tryz.f117.name,by decide,Tryz.func117.trans (congrArg some (by kernel_rfl))⟩
 f14:=⟨Tryz.f118.name,by decide,Tryz.func118.trans (congrArg some (by kernel_rfl))⟩
 f15:=⟨Tryz.f119.name,by decide,Tryz.func119.trans (congrArg some (by kernel_rfl))⟩
 f16:=⟨Tryz.f120.name,by decide,Tryz.func120.trans (congrArg some (by kernel_rfl))⟩
 f17:=⟨Tryz.f121.name,by decide,Tryz.func121.trans (congrArg some (by kernel_rfl))⟩
 f18:=⟨Tryz.f122.name,by decide,Tryz.func122.trans (congrArg some (by kernel_rfl))⟩
 f19:=Tryz.func123.trans (congrArg some (by kernel_rfl))
 f20:=Tryz.func124.trans (congrArg some (by kernel_rfl))
 f30:=⟨Tryz.f143.name,by decide,Tryz.func143.trans (congrArg some (by kernel_rfl))⟩
 f31:=Tryz.func144.trans (congrArg some (by kernel_rfl))
 f32:=Tryz.func145.trans (congrArg some (by kernel_rfl))
 f33:=⟨Tryz.f146.name,by decide,Tryz.func146.trans (congrArg some (by kernel_rfl))⟩
 f34:=⟨Tryz.f147.name,by decide,Tryz.func147.trans (congrArg some (by kernel_rfl))⟩
 f35:=⟨Tryz.f148.name,by decide,Tryz.func148.trans (congrArg some (by kernel_rfl))⟩
 f40:=⟨Tryz.f161.name,by decide,Tryz.func161.trans (congrArg some (by kernel_rfl))⟩
 t0:=Tryz.underlying0
 a0:=Tryz.isAgg0
 z0:=Tryz.sizeOf0
 v0:=Tryz.zeroValue0
 t3:=Tryz.underlying3
 a3:=Tryz.isAgg3
 z3:=Tryz.sizeOf3
 v3:=Tryz.zeroValue3
 t4:=Tryz.underlying4
 a4:=Tryz.isAgg4
 z4:=Tryz.sizeOf4
 v4:=Tryz.zeroValue4
 t5:=Tryz.underlying5
 a5:=Tryz.isAgg5
 z5:=Tryz.sizeOf5
 v5:=Tryz.zeroValue5
 t9:=Tryz.underlying9
 a9:=Tryz.isAgg9
 z9:=Tryz.sizeOf9
 v9:=Tryz.zeroValue9
 t22:=Tryz.underlying55
 a22:=Tryz.isAgg55
 z22:=Tryz.sizeOf55
 v22:=Tryz.zeroValue55
 t23:=Tryz.underlying55
 a23:=Tryz.isAgg55
 z23:=Tryz.sizeOf55
 v23:=Tryz.zeroValue55
 t25:=Tryz.underlying3
 a25:=Tryz.isAgg3
 z25:=Tryz.sizeOf3
 v25:=Tryz.zeroValue3
 t32:=Tryz.underlying109
 a32:=Tryz.isAgg109
 z32:=Tryz.sizeOf109
 v32:=Tryz.zeroValue109
 t35:=Tryz.underlying172
 a35:=Tryz.isAgg172
 z35:=Tryz.sizeOf172
 v35:=Tryz.zeroValue172
 t36:=Tryz.underlying173
 a36:=Tryz.isAgg173
 z36:=Tryz.sizeOf173
 v36:=Tryz.zeroValue173
 t41:=Tryz.underlying178
 a41:=Tryz.isAgg178
 z41:=Tryz.sizeOf178
 v41:=Tryz.zeroValue178
 t44:=Tryz.underlying167
 a44:=Tryz.isAgg167
 z44:=Tryz.sizeOf167
 v44:=Tryz.zeroValue167
 t46:=Tryz.underlying36
 a46:=Tryz.isAgg36
 z46:=Tryz.sizeOf36
 v46:=Tryz.zeroValue36
 t53:=Tryz.underlying197
 a53:=Tryz.isAgg197
 z53:=Tryz.sizeOf197
 v53:=Tryz.zeroValue197
 t57:=Tryz.underlying200
 a57:=Tryz.isAgg200
 z57:=Tryz.sizeOf200
 v57:=Tryz.zeroValue200
 t63:=Tryz.underlying218
 a63:=Tryz.isAgg218
 z63:=Tryz.sizeOf218
 v63:=Tryz.zeroValue218
 t64:=Tryz.underlying219
 a64:=Tryz.isAgg219
 z64:=Tryz.sizeOf219
 v64:=Tryz.zeroValue219 }
end Go.Proofs.YtdmhemgepdknhaaGreat
namespace Go.Proofs.YtdmhemgepdknhaaGreat
open Go.RowKit Go.Maps Go.Sort Go.Shelf

/-- The sectors that lie loose. -/
def St.loose (s:St):List Nat:=(List.range s.ls.length).filter fun i => !(s.t i).isEmpty
theorem St.mem_loose {s:St} {i:Nat}:i ∈ s.loose ↔ i < s.ls.length∧s.t i≠[]:=by
  unfold St.loose
  rw [List.mem_filter,List.mem_range]
  cases s.t i <;> simp

/-- A slice of numbers of the call's own. -/
def Ints (w:World) (base:Nat) (v:Value) (xs:List Nat):Prop:=w.ownsRow base TI 1 v xs.length (xs.map fun (x:Nat)=>Value.int .i64 (x:Int))

theorem keys_any (mb:Option Nat) (w:World):Calls Tryz.prog 58 #[.map mb] w fun e w'=>e=.returned (.func (.func 83) #[] #[.pointer (some ⟨w.heap.size,0,none⟩)])∧w.alloc (.cells #[.map mb] TM)=w':=by
  have h:=(callsIn_wide (n:=5)).1 (AnyZI.keys_in Shl.keysA Fence.wide 5 trivial rfl mb w)
  exact Calls.mono (P:=Tryz.prog) h fun e w' ⟨h1,h2⟩=>⟨h1,h2.symm⟩

theorem sortsA (m:Nat):AnyZI.SortsIn Tryz.prog Shl.sortedA_ren Fence.wide m:=
  ⟨fun blk off cap ss W hH hblk hsz=>callsIn_wide.2 (AnyM.slices_Sort_int Shl.sortA blk off cap ss W hH hblk hsz),
   fun p cap W=>callsIn_wide.2 (AnyM.slices_Sort_int_none Shl.sortA p cap W)⟩

/-- Numbers in their order. -/
theorem sorted_nats {xs:List Nat} (hp:xs.Pairwise (· < ·)) {D:DataW Value} {w:World} {b n:Nat} (hown:w.ownsMap Tryz.prog TI eltR b n D) (hm:∀ x:Nat,x ∈ xs ↔ has D (key x)=true) (hk:∀ k,has D k=true→∃ x:Nat,k=key x) {ss:List Int} (hs:ss.Perm (intKeys D)) :
    (ss.mergeSort fun x y=>decide (x≤y))=xs.map fun (x:Nat)=>(x:Int):=by
  obtain ⟨es,hD,hpw,hlit⟩:=hown.entries (int_keyed Tryz.underlying3)
  subst hD
  have hk2:∀ p ∈ es,∃ x,p.1=.int .i64 x:=fun p hp=>by
    obtain ⟨x,hx⟩:=hk p.1 (by rw [has_eq,List.any_eq_true];exact ⟨p,hp,WideAt.sameKey_self (hlit p hp)⟩)
    exact ⟨_,hx⟩
  have hnd:(xs.map fun (x:Nat)=>(x:Int)).Nodup:=List.pairwise_map.2 (hp.imp fun h e=>by omega)
  have hper:(xs.map fun (x:Nat)=>(x:Int)).Perm (intKeys (.map es)):=perm_intKeys hpw hk2 hnd fun x=>by
    rw [List.mem_map]
    constructor
    · rintro ⟨y,hy,rfl⟩
      exact (hm y).1 hy
    · intro h
      obtain ⟨y,hy⟩:=hk _ h
      unfold key at hy
      simp only [Lit.int.injEq,true_and] at hy
      subst hy
      exact ⟨y,(hm y).2 h,rfl⟩
  have e1:(ss.mergeSort fun x y=>decide (x≤y))=((xs.map fun (x:Nat)=>(x:Int)).mergeSort fun x y=>decide (x≤y)):=mergeSort_of_perm_i (hs.trans hper.symm)
  rw [e1]
  refine List.mergeSort_of_pairwise (List.pairwise_map.2 (hp.imp fun h=>?_))
  simp only [decide_eq_true_eq]
  omega

set_option maxHeartbeats 1000000 in
theorem sorted_any (B b nn:Nat) (D:DataW Value) (w:World) (hB:B < w.heap.size) (hm:w.cell? ⟨B,0,none⟩=some (.map (some b))) (hown:w.ownsMap Tryz.prog TI eltR b nn D) (hn:nn≤10000000000) :
    Calls Tryz.prog 57 #[.func (.func 83) #[] #[.pointer (some ⟨B,0,none⟩)]] w fun e w'=>∃ (v:Value) (ss:List Int),e=.returned v∧ss.Perm (intKeys D) ∧
      w'.ownsRow w.heap.size TI 1 v ss.length ((ss.mergeSort (fun x y=>decide (x≤y))).map encZ)∧(v=.slice none 0 0 ↔ ss=[])∧Below w.heap.size w w':=by
  refine (callsIn_wide (n:=6)).1 ?_
  have hsz:=hown.size_le
  have hseq:SeqGives Fence.wide 3 Tryz.prog 83 #[.pointer (some ⟨B,0,none⟩)] encZ (fun ss=>ss.Perm (intKeys D)) (Maps.size D) w:=
    AnyZI.keys_gives (ρ:=Shl.keysA_ren) { Shl.keysA with } Fence.wide _ trivial rfl (by omega) B b nn D w hB hm hown
  exact AnyZI.sorted_in Shl.sortedA Fence.wide 6 trivial trivial trivial trivial rfl (by omega) (sortsA _) (enters_of Tryz.func82 (by kernel_rfl) rfl) 83 #[.pointer (some ⟨B,0,none⟩)] trivial (enters_of Tryz.func83 (by kernel_rfl) rfl) _ (Maps.size D) (by unfold maxLen;omega) (by omega) w hseq

/-- Answers of Loose. -/
def RetLoose (xs:List Nat) (w:World) (e:Ending) (w':World):Prop:=∃ v,e=.returned v∧Ints w' w.heap.size v xs∧Gr w w'

set_option maxRecDepth 100000 in
set_option maxHeartbeats 1000000 in
theorem Loose_any {F:Nat→Prop} {p:Value} {s:St} (w:World) (h:Dk w F p s) (hw:s.writes≤1000000000):Calls Tryz.prog 31 #[p] w fun e w'=>RetLoose s.loose w e w':=by
  obtain ⟨b,lv,m,L,rfl,h⟩:=h
  have HM:=Lib.hid (missing_no w h)
  obtain ⟨h0,h1,h2,h3,h4⟩:=h.cells
  obtain ⟨D,n,ho,hn,hat,hhas,hkeys⟩:=h.map
  have hk:Gr w (w.alloc (.cells #[.map (some m)] TM)):=(Gr.refl w).alloc (Nat.le_refl _) _
  have HS:=Lib.hid (sorted_any w.heap.size m n D (w.alloc (.cells #[.map (some m)] TM)) (by simp) ((Blk.new w TM #[.map (some m)]).cell 0) (ho.alloc _) (by omega))
  have HO:Hid (∀ ss:List Int,ss.Perm (intKeys D)→(ss.mergeSort fun x y=>decide (x≤y))=s.loose.map fun (x:Nat)=>(x:Int)):=Lib.hid fun ss hs=>
    sorted_nats (by unfold St.loose;exact List.Pairwise.filter _ List.pairwise_lt_range) ho (fun x=>by
      rw [St.mem_loose]
      constructor
      · intro ⟨hx,ht⟩
        exact (hhas x hx).2 ht
      · intro hx
        obtain ⟨i,hi,e⟩:=hkeys _ hx
        rw [key_inj e]
        rw [key_inj e] at hx
        exact ⟨hi,(hhas i hi).1 hx⟩) (fun k hk=>let ⟨i,_,e⟩:=hkeys k hk;⟨i,e⟩) hs
  have HG:=Lib.hid hk
  clear h h0 h2 h3 h4 ho hn hat hhas hkeys hk hw
  go_enter Tryz.func31,Tryz.ntmps31
  go_wp2_with fail
  refine HM.out.mono ?_
  rintro e w1 ⟨rfl,rfl⟩
  go_wp2_with fail
  refine (keys_any _ _).mono ?_
  rintro e w1 ⟨rfl,rfl⟩
  go_wp2_with fail
  refine HS.out.mono ?_
  rintro e w1 ⟨v,ss,rfl,hss,hrow,_,hb⟩
  have HRow:=Lib.hid hrow
  have HB:=Lib.hid (Gr.trans HG.out hb)
  have HE:=Lib.hid (HO.out ss hss)
  have HLen:Hid (ss.length=s.loose.length):=Lib.hid (by have:=congrArg List.length (HO.out ss hss);rw [List.length_mergeSort,List.length_map] at this;exact this)
  clear hrow hb hss HS HO HG
  go_wp2_with fail
  go_ret
  refine ⟨_,rfl,?_,HB.out⟩
  have hr:=HRow.out
  rw [HE.out,HLen.out,List.map_map] at hr
  unfold Ints
  obtain ⟨hr1,hr2⟩:=hr
  refine ⟨hr1,hr2.imp id ?_⟩
  rintro ⟨g,cap,cur,h1,h2,h3⟩
  exact ⟨g,cap,cur,h1,by simp at h2;omega,h3⟩

end Go.Proofs.YtdmhemgepdknhaaGreat
namespace Go.Proofs.YtdmhemgepdknhaaGreat
open Go.RowKit
def RetB (b:Bool) (w:World) (en:Ending) (w':World):Prop:=en=.returned (.bool b)∧Gr w w'
def RetI (i:Int) (w:World) (en:Ending) (w':World):Prop:=en=.returned (.int .i64 i)∧Gr w w'
theorem grow2 {w w1:World} {o o':Obj} (g:Gr ((w.alloc o).alloc o') w1):Gr w w1:=Gr.trans (((Gr.refl w).alloc (Nat.le_refl _) _).alloc (by simp) _) g
theorem grow1 {w w1:World} {o:Obj} (g:Gr (w.alloc o) w1):Gr w w1:=Gr.trans ((Gr.refl w).alloc (Nat.le_refl _) _) g
theorem lt_of_new {w w1:World} {o:Obj} (g:Gr (w.alloc o) w1):w.heap.size < w1.heap.size:=by have:=g.size;simp at this;omega
end Go.Proofs.YtdmhemgepdknhaaGreat
