/-
  Texts, put together: Disk2 Disk3 Flow FlowBy Disk4.
-/
import Derived.Orders
import Derived.RegionTactic
import Derived.Deep.DeepCutAuto
import Derived.Deep.CutBlock
import Derived.Outline
import Derived.Test.YtdmhemgepdknhaaGreatV1
import Derived.Test.YtdmhemgepdknhaaGreatV2
set_option linter.unusedVariables false
set_option linter.unusedSimpArgs false
namespace Go.Proofs.YtdmhemgepdknhaaGreat
open Go.RowKit Go.Maps
/-! ### sectors that are noughts -/
theorem zero_cells:Sec.zero.cells=List.replicate 256 (.int .u8 0):=by
 unfold Sec.cells Sec.zero
 rw [List.map_replicate]
 rfl
theorem cellsOf_zero (n:Nat):cellsOf (List.replicate n Sec.zero)=List.replicate (n*256) (.int .u8 0):=by
 induction n with
 | zero=>rfl
 | succ n ih=>
  rw [List.replicate_succ,← List.singleton_append,cellsOf_app,cellsOf_one,ih,zero_cells,List.replicate_append_replicate]
  congr 1;omega
theorem made_const (c:Value) (K m:Nat) (h:0 < K):(madeCells (List.replicate K c).toArray m).toList=List.replicate m c:=by
 apply List.ext_getElem?
 intro j
 by_cases hj:j < m
 · simp [madeCells,hj,List.getElem?_replicate,Nat.mod_lt _ h]
 · simp [madeCells,hj,List.getElem?_replicate]
theorem made_zero (n:Nat):(madeCells (Value.agg (sec Sec.zero)).cells (n*256)).toList=cellsOf (List.replicate n Sec.zero):=by
 have h:(Value.agg (sec Sec.zero)).cells=(List.replicate 256 (Value.int .u8 0)).toArray:=by
  show (sec Sec.zero)=_
  unfold sec
  rw [zero_cells]
 rw [cellsOf_zero,h,made_const _ _ _ (by omega)]
def Small (n:Int):Prop:=1≤n∧n≤65536
set_option maxRecDepth 100000 in
theorem may_yes (n:Int) (w:World) (h:Small n):Calls Tryz.prog 68 #[.int .i64 n] w fun e w'=>e=.returned (.bool true)∧w=w':=by
 obtain ⟨h1,h2⟩:=h
 go_enter Tryz.func68,Tryz.ntmps68
 go_wp2
 go_ret
 exact ⟨rfl,rfl⟩
def fresh (l:List Sec):St:=⟨l,fun _=>[],-1,false,0⟩
theorem fresh_ok {l:List Sec} (h1:0 < l.length) (h2:l.length≤65536):(fresh l).Ok:=⟨h1,h2,fun _ _=>rfl,fun _=>Nat.zero_le _,by show (-9223372036854775808:Int) ≤ -1;omega,by show (-1:Int)≤9223372036854775807;omega⟩
theorem Loose.made {w:World} {most N:Nat}:Loose (w.alloc (.map #[] 0)) w.heap.size most N (fun _=>nilS) (fun _=>[]):=
 ⟨.map [],0,World.ownsMap_made _ _ _ _,Nat.zero_le _,fun i _=>rfl,fun i _=>⟨(fun h=>by cases h),fun h=>absurd rfl h⟩,fun k h=>by cases h⟩
theorem lasting_at (w:World) (v:Value) (l:List Sec) (h:Row w v l) (h1:0 < l.length) (h2:l.length≤65536) :
  DkAt ((w.alloc (.map #[] 0)).alloc (.cells #[v,.map (some w.heap.size),.int .i64 (-1),.bool false,.int .i64 0] TD)) (fun k=>v.ownBlock=some k∨w.heap.size≤k∧k < w.heap.size+2) (w.heap.size+1) v w.heap.size (fun _=>nilS) (fresh l):=by
 have e1:(w.alloc (.map #[] 0)).heap.size=w.heap.size+1:=by simp
 have hg:Gr w ((w.alloc (.map #[] 0)).alloc (.cells #[v,.map (some w.heap.size),.int .i64 (-1),.bool false,.int .i64 0] TD)):=((Gr.refl w).alloc (Nat.le_refl _) _).alloc (by simp) _;refine ⟨fresh_ok h1 h2,?_,h.gr hg,?_,fun i=>Row.empty _,(fun i j g h=>by cases h),(fun i g h=>by cases h),.inr ⟨by omega,by omega⟩,.inr ⟨by omega,by omega⟩,fun g hg=>.inl hg,(fun i g h=>by cases h),?_⟩
 ·
  have:=Blk.new (w.alloc (.map #[] 0)) TD #[v,.map (some w.heap.size),.int .i64 (-1),.bool false,.int .i64 0]
  rwa [e1] at this
 · exact Loose.made.stays (Below.heap_alloc (w.alloc (.map #[] 0)) _ w.heap.size (by rw [e1];omega))
 ·
  rintro k (hk | ⟨_,hk⟩)
  ·
   have:=h.lt k hk;have:=hg.size
   simp;omega
  · simp;omega
set_option maxRecDepth 100000 in
theorem lasting_any (w:World) (v:Value) (l:List Sec) (h:Row w v l) (h1:0 < l.length) (h2:l.length≤65536):Calls Tryz.prog 60 #[v] w fun e w'=>∃ p,e=.returned p∧Dk w' (fun k=>v.ownBlock=some k∨w.heap.size≤k∧k < w.heap.size+2) p (fresh l)∧Gr w w':=by
 have hg:Gr w ((w.alloc (.map #[] 0)).alloc (.cells #[v,.map (some w.heap.size),.int .i64 (-1),.bool false,.int .i64 0] TD)):=((Gr.refl w).alloc (Nat.le_refl _) _).alloc (by simp) _;have HA:=Lib.hid (lasting_at w v l h h1 h2);obtain ⟨g,c,rfl,_⟩:=h.full (fun e=>by rw [e] at h1;simp at h1);obtain ⟨n,hn⟩:∃ n,n=l.length:=⟨_,rfl⟩
 rw [← hn] at HA hg ⊢
 have hmm:=@run_makeMap Tryz.prog;clear h h1 h2 hn
 go_enter Tryz.func60,Tryz.ntmps60
 go_wp2
 go_ret
 exact ⟨_,rfl,⟨_,_,_,_,rfl,HA.out⟩,hg⟩
def RetNew (w w':World) (e:Ending) (s:St):Prop:=∃ p F,e=.returned (.tuple #[p,.int .i64 0])∧Dk w' F p s∧Gr w w'∧∀ k,F k→w.heap.size≤k
set_option maxRecDepth 100000 in
theorem New_yes (n:Nat) (w:World) (h:Small n):Calls Tryz.prog 39 #[.int .i64 (n:Int)] w fun e w'=>RetNew w w' e (fresh (List.replicate n Sec.zero)):=by
 have HM:=Lib.hid (may_yes n w h);obtain ⟨h1,h2⟩:=h;obtain ⟨i0,hi,hz0,hz1,hz2⟩:=info_parts info_sec;have HI:=Lib.hid hi;have HZ0:=Lib.hid hz0;have HZ1:=Lib.hid hz1;have HZ2:=Lib.hid hz2;clear hi hz0 hz1 hz2
 go_enter Tryz.func39,Tryz.ntmps39
 go_wp2_with fail;refine HM.out.mono ?_;rintro e w' ⟨rfl,rfl⟩
 go_wp2_with (at_make;refine wpList_make_full _ rfl _ _ TL rfl 0 TS i0 (.agg (sec Sec.zero)) 256 Tryz.underlying50 HI.out HZ0.out HZ1.out _ _ _ _ n rfl rfl rfl rfl ?b1 ?b2 (Nat.zero_le _) ?_)
 case b1=>rw [HZ2.out];omega
 case b2=>unfold maxLen;omega
 intro w1 hown hgrow
 have hz:=made_zero n
 simp only [Value.cells] at hz
 rw [hz] at hown
 clear hz
 have hr:Row w1 (.slice (some ⟨w.heap.size,0,none⟩) n n) (List.replicate n Sec.zero):=by
  unfold Row
  rw [List.length_replicate];exact hown
 have HG:Hid (Gr w w1):=Lib.hid (Below.grown (Gr.refl w) hgrow (Nat.le_refl _) (fun k e=>by cases e));have HC:=Lib.hid (lasting_any w1 _ _ hr (by rw [List.length_replicate];omega) (by rw [List.length_replicate];omega));clear hown hgrow hr;go_wp2_with fail;refine HC.out.mono ?_;rintro e w2 ⟨p,rfl,hd,hg⟩;have HD:=Lib.hid hd;have HG2:=Lib.hid (Gr.trans HG.out hg);have hs:=HG.out.size;clear hd hg;go_wp2_with fail
 go_ret2
 refine ⟨_,_,rfl,HD.out,HG2.out,?_⟩;rintro k (hk | ⟨hk,_⟩)
 · cases hk;exact Nat.le_refl _
 · omega
end Go.Proofs.YtdmhemgepdknhaaGreat
namespace Go.Proofs.YtdmhemgepdknhaaGreat
open Go.RowKit Go.Maps
theorem results_sec2 {fn:Func} {p q:Tmp} (h:fn.results=#[.cell p TS,.tmp q]) (tmps:Array Value) (w:World) (g:Nat) (s:Sec)
  (hp:tmps.getD p undef=.pointer (some ⟨g,0,none⟩)) (hb:Blk w g TS (sec s)):(results fn tmps).run Tryz.prog w=.ok (.tuple #[.agg (sec s),tmps.getD q undef]) w:=by
 have hp':tmps[p]?.getD undef=.pointer (some ⟨g,0,none⟩):=by simpa using hp
 have hl:=run_loadVar_row (P:=Tryz.prog) w g TS TS (sec s) (0,0) _ hb under_sec rfl (by rw [sec_size];exact size_sec)
 simp [results,h,hp',asAddr,hl]
def RetRead (w w':World) (e:Ending) (s:Sec) (x:Int):Prop:=e=.returned (.tuple #[.agg (sec s),.int .i64 x])∧Gr w w'
set_option maxRecDepth 100000 in
set_option maxHeartbeats 1000000 in
theorem Read_yes {F:Nat→Prop} {p:Value} {s:St} (w:World) (h:Dk w F p s) (i:Nat) (hi:i < s.ls.length):Calls Tryz.prog 28 #[p,.int .i64 (i:Int)] w fun e w'=>RetRead w w' e (s.nw i) 0:=by
 obtain ⟨b,lv,m,L,rfl,h⟩:=h;have hg:Gr w (w.alloc (.cells (sec Sec.zero) TS)):=(Gr.refl w).alloc (Nat.le_refl _) _;have h':=h.gr hg;have ha:=asked_any _ h' (i:Int)
 have he:askE s.ls.length (i:Int)=0:=by unfold askE;rw [if_neg (by omega)]
 rw [he] at ha
 have HA:=Lib.hid ha;have HB:=Lib.hid (newest_any _ h' i hi);have HG:=Lib.hid hg;have HN:=Lib.hid (Blk.new w TS (sec Sec.zero));have hz:=zero_sec;clear he ha h h' hi hg
 go_enter Tryz.func28,Tryz.ntmps28
 go_wp2_with fail;refine HA.out.mono ?_;rintro e w1 ⟨rfl,rfl⟩;clear hz;go_wp2_with fail;refine HB.out.mono ?_;rintro e w1 ⟨rfl,g1⟩;have HN1:=Lib.hid (HN.out.gr g1);have HG1:=Lib.hid (Gr.trans HG.out g1);have HS:Hid (w.heap.size≤w1.heap.size):=Lib.hid HG1.out.size;clear g1 HG HN
 go_wp2_with (refine wpList_store_sec rfl _ _ rfl HN1.out rfl rfl ?_)
 exact bodyPost_ret (results_sec2 rfl _ _ _ _ rfl (HN1.out.row _)) rfl ⟨rfl,below_setRow HG1.out (Nat.le_refl _) _⟩
set_option maxRecDepth 100000 in
theorem Sectors_any {F:Nat→Prop} {p:Value} {s:St} (w:World) (h:Dk w F p s):Calls Tryz.prog 64 #[p] w fun e w'=>e=.returned (.int .i64 (s.ls.length:Int))∧w=w':=by
 obtain ⟨b,lv,m,L,rfl,h⟩:=h;have HM:=Lib.hid (missing_no w h);obtain ⟨h0,h1,h2,h3,h4⟩:=h.cells;obtain ⟨g,c,rfl⟩:=h.lv;obtain ⟨N,hN⟩:∃ N,N=s.ls.length:=⟨_,rfl⟩
 rw [← hN] at h0 ⊢
 clear h hN h1 h2 h3 h4
 go_enter Tryz.func64,Tryz.ntmps64
 go_wp2_with fail;refine HM.out.mono ?_;rintro e w' ⟨rfl,rfl⟩
 go_wp2
 go_ret
 exact ⟨rfl,rfl⟩
theorem upd_cell {F:Nat→Prop} {w:World} {b i:Nat} (hb:F b) (v:Value):Upd F F w (w.setCell ⟨b,i,none⟩ v):=
 ⟨rfl,rfl,rfl,by simp [World.setCell],fun k _ hk=>Below.heap_setCell w _ v k (fun e=>hk (by rw [e];exact hb)),fun k hk=>.inl hk⟩
theorem Upd.trans {F F1 F2:Nat→Prop} {w w1 w2:World} (h:Upd F F1 w w1) (k:Upd F1 F2 w1 w2):Upd F F2 w w2:=
 ⟨k.os.trans h.os,k.tape.trans h.tape,k.output.trans h.output,Nat.le_trans h.size k.size,fun j hj hf=>by
  rw [k.block j (by have:=h.size;omega) (fun h1=>by
   rcases h.fresh j h1 with h2 | h2
   · exact hf h2
   · omega),h.block j hj hf],fun j hj=>by
  rcases k.fresh j hj with h1 | h1
  · exact h.fresh j h1
  · exact .inr (by have:=h.size;omega)⟩
theorem DkAt.block {w w':World} {F:Nat→Prop} {b:Nat} {lv:Value} {m:Nat} {L:Nat→Value} {s s':St} (h:DkAt w F b lv m L s) (ok:s'.Ok) (hls:s'.ls=s.ls) (ht:s'.t=s.t) (hw:s.writes≤s'.writes)
  (hb:Blk w' b TD #[lv,.map (some m),.int .i64 s'.fuse,.bool s'.dead,.int .i64 (s'.writes:Int)]) (e:∀ k,F k→k≠b→w'.heap[k]?=w.heap[k]?) (hs:w.heap.size≤w'.heap.size):DkAt w' F b lv m L s':=by
 have hkind:∀ {g:Nat} {cs:Array Value},w.heap[g]?=some (.cells cs TS (0,0))→g≠b:=fun {g cs} hg e=>by
  subst e;have h1:=h.blk
  unfold Blk at h1
  rw [hg] at h1
  simp only [Option.some.injEq,Obj.cells.injEq] at h1
  exact absurd h1.2.1 (by decide)
 have hm:m≠b:=fun e=>by
  subst e;obtain ⟨D,n,⟨es,c,h1,_⟩,_⟩:=h.map;have h2:=h.blk
  unfold Blk at h2
  rw [h1] at h2
  cases h2
 have e1:Row w' lv s.ls:=h.ls.stays fun g hg=>by
  obtain ⟨cs,hk⟩:=h.ls.kind hg;exact e g (h.ownL g hg) (hkind hk)
 have e2:∀ i,Row w' (L i) (s.t i):=fun i=>(h.rows i).stays fun g hg=>by
  obtain ⟨cs,hk⟩:=(h.rows i).kind hg;exact e g (h.ownR i g hg) (hkind hk)
 refine ⟨ok,hb,by rw [hls];exact e1,?_,fun i=>by rw [ht];exact e2 i,h.apart,h.apart0,h.ownB,h.ownM,h.ownL,h.ownR,fun k hk=>Nat.lt_of_lt_of_le (h.low k hk) hs⟩;rw [hls,ht];obtain ⟨D,n,ho,hn,r⟩:=h.map.stays (e m h.ownM hm);exact ⟨D,n,ho,by omega,r⟩
end Go.Proofs.YtdmhemgepdknhaaGreat
namespace Go.Proofs.YtdmhemgepdknhaaGreat
namespace Flow
open Go

section
variable {P:Program} {ops:Array Oper} {Q:Exit→Act→World→Prop} {md:Region.Mode}

/-- How many operations have not come up. -/
def left (listed:Array Bool):Nat→Nat
  | 0=>0
  | n+1=>left listed n+(if listed.getD n true=true then 0 else 1)

theorem left_zero {listed:Array Bool}:∀ {n:Nat},left listed n=0→∀ i,i < n→listed.getD i true=true
  | 0,_,_,h=>absurd h (Nat.not_lt_zero _)
  | n+1,h,i,hi=>by
    simp only [left] at h
    by_cases hn:listed.getD n true=true
    · rw [if_pos hn] at h
      by_cases e:i=n
      · subst e;exact hn
      · exact left_zero (n:=n) (by omega) i (by omega)
    · rw [if_neg hn] at h;omega
theorem left_same {listed:Array Bool} {i:Nat}:∀ {n:Nat},n≤i→left (listed.setIfInBounds i true) n=left listed n
  | 0,_=>rfl
  | n+1,h=>by
    simp only [left]
    rw [left_same (n:=n) (by omega),getD_set_ne true (by omega)]
theorem left_less {listed:Array Bool} {i:Nat} (hi:listed.getD i true=false):∀ {n:Nat},i < n→left (listed.setIfInBounds i true) n+1=left listed n
  | 0,h=>absurd h (Nat.not_lt_zero _)
  | n+1,h=>by
    simp only [left]
    by_cases e:i=n
    · subst e
      have hs:i < listed.size:=by
        rcases Nat.lt_or_ge i listed.size with h' | h'
        · exact h'
        · simp [Array.getElem?_eq_none h'] at hi
      rw [left_same (Nat.le_refl _),hi]
      have:(listed.setIfInBounds i true).getD i true=true:=by simp [hs]
      rw [if_pos this,if_neg (by simp)]
    · rw [getD_set_ne true e,← left_less hi (n:=n) (by omega)]
      omega

/-- Which slots an operation waits for. -/
def needs (md:Region.Mode) (ops:Array Oper) (o:Oper):List Nat:=(o.after.toList.filter fun e=>Region.binds md e).filterMap fun e=>(ops[e.on]?).bind (·.dst)

/-- The frame,but for the region's own slots,is as it was. -/
structure Same (ops:Array Oper) (a0 a:Act):Prop where
  defers:a.defers=a0.defers
  size:a.tmps.size=a0.tmps.size
  old:∀ d,(∀ (i:Nat) (o:Oper),ops[i]?=some o→o.dst≠some d)→a.tmps.getD d undef=a0.tmps.getD d undef

theorem Same.at {a0 a:Act} (h:Same ops a0 a) (d:Nat) (hd:(ops.all fun o=>o.dst != some d)=true) {v:Value} (hv:a0.tmps.getD d undef=v:=by rfl):a.tmps.getD d undef=v:=by
  rw [h.old d fun i o ho=>by
    have:=Array.all_eq_true_iff_forall_mem.1 hd o (Array.mem_of_getElem? ho)
    simpa using this]
  exact hv

/-- One operation: what its slot holds behind it,wherever it comes up. -/
def Step (P:Program) (md:Region.Mode) (ops:Array Oper) (Q:Exit→Act→World→Prop) (Sl:Nat→Value→World→Prop) (Inv:World→Prop) (G:World→World→Prop) (a0:Act) (o:Oper):Prop:=
  ∀ a w,Same ops a0 a→Inv w→(∀ d,(needs md ops o).contains d=true→Sl d (a.tmps.getD d undef) w) →
    ∀ K:Act→World→Prop,(∀ v w',G w w'→Inv w'→(∀ d,o.dst=some d→Sl d v w')→K (a.put o.dst v) w') →
      if Region.wanted o (yielded ops a.tmps)=true then o.wp P a w K Q else K (a.put o.dst undef) w

/-- Each of them. -/
def Steps (P:Program) (md:Region.Mode) (ops:Array Oper) (Q:Exit→Act→World→Prop) (Sl:Nat→Value→World→Prop) (Inv:World→Prop) (G:World→World→Prop) (a0:Act):List Oper→Prop
  | []=>True
  | o :: r=>Step P md ops Q Sl Inv G a0 o∧Steps P md ops Q Sl Inv G a0 r
theorem Steps.cons {Sl:Nat→Value→World→Prop} {Inv:World→Prop} {G:World→World→Prop} {a0:Act} {o:Oper} {r:List Oper} (h:Step P md ops Q Sl Inv G a0 o) (k:Steps P md ops Q Sl Inv G a0 r):Steps P md ops Q Sl Inv G a0 (o :: r):=⟨h,k⟩
theorem Steps.at {Sl:Nat→Value→World→Prop} {Inv:World→Prop} {G:World→World→Prop} {a0:Act}:∀ {l:List Oper},Steps P md ops Q Sl Inv G a0 l→∀ o ∈ l,Step P md ops Q Sl Inv G a0 o
  | [],_,_,h=>by cases h
  | x :: r,h,o,ho=>by
    rcases List.mem_cons.1 ho with rfl | ho
    · exact h.1
    · exact Steps.at h.2 o ho

/-- The side conditions,for the kernel: each edge goes back;no two operations have one slot;each slot is in the frame. -/
def fine (n:Nat) (ops:Array Oper):Bool:=
  ((List.range ops.size).all fun i=>match ops[i]? with
    | some o=>o.after.all (fun e=>decide (e.on < i)) && (match o.dst with
      | some d=>decide (d < n) && (List.range i).all fun j=>match ops[j]? with
        | some o'=>o'.dst != some d
        | none=>true
      | none=>true)
    | none=>true)

theorem fine_down {n:Nat} (h:fine n ops=true) {i:Nat} {o:Oper} (ho:ops[i]?=some o):∀ e ∈ o.after,e.on < i:=by
  have hi:i < ops.size:=(Array.getElem?_eq_some_iff.1 ho).1
  have:=List.all_eq_true.1 h i (List.mem_range.2 hi)
  simp only [ho,Bool.and_eq_true] at this
  intro e he
  exact of_decide_eq_true (Array.all_eq_true_iff_forall_mem.1 this.1 e he)
theorem fine_slot {n:Nat} (h:fine n ops=true) {i:Nat} {o:Oper} (ho:ops[i]?=some o) {d:Nat} (hd:o.dst=some d):d < n∧∀ j o',j < i→ops[j]?=some o'→o'.dst≠some d:=by
  have hi:i < ops.size:=(Array.getElem?_eq_some_iff.1 ho).1
  have:=List.all_eq_true.1 h i (List.mem_range.2 hi)
  simp only [ho,hd,Bool.and_eq_true,decide_eq_true_eq] at this
  refine ⟨this.2.1,fun j o' hj ho'=>?_⟩
  have h2:=List.all_eq_true.1 this.2.2 j (List.mem_range.2 hj)
  simp only [ho'] at h2
  simpa using h2
theorem fine_one {n:Nat} (h:fine n ops=true) {i j:Nat} {o o':Oper} (ho:ops[i]?=some o) (ho':ops[j]?=some o') {d:Nat} (hd:o.dst=some d) (hd':o'.dst=some d):i=j:=by
  rcases Nat.lt_trichotomy i j with hlt | heq | hgt
  · exact absurd hd ((fine_slot h ho' hd').2 i o hlt ho)
  · exact heq
  · exact absurd hd' ((fine_slot h ho hd).2 j o' hgt ho')

/-- The same,of the edges that bind alone. -/
def fineB (md:Region.Mode) (n:Nat) (ops:Array Oper):Bool:=
  ((List.range ops.size).all fun i=>match ops[i]? with
    | some o=>o.after.all (fun e => !Region.binds md e || decide (e.on < i)) && (match o.dst with
      | some d=>decide (d < n) && (List.range i).all fun j=>match ops[j]? with
        | some o'=>o'.dst != some d
        | none=>true
      | none=>true)
    | none=>true)
theorem fineB_down {n:Nat} (h:fineB md n ops=true) {i:Nat} {o:Oper} (ho:ops[i]?=some o):∀ e ∈ o.after,Region.binds md e=true→e.on < i:=by
  have hi:i < ops.size:=(Array.getElem?_eq_some_iff.1 ho).1
  have:=List.all_eq_true.1 h i (List.mem_range.2 hi)
  simp only [ho,Bool.and_eq_true] at this
  intro e he hb
  have h2:=Array.all_eq_true_iff_forall_mem.1 this.1 e he
  rw [hb] at h2
  exact of_decide_eq_true (by simpa using h2)
theorem fineB_slot {n:Nat} (h:fineB md n ops=true) {i:Nat} {o:Oper} (ho:ops[i]?=some o) {d:Nat} (hd:o.dst=some d):d < n∧∀ j o',j < i→ops[j]?=some o'→o'.dst≠some d:=by
  have hi:i < ops.size:=(Array.getElem?_eq_some_iff.1 ho).1
  have:=List.all_eq_true.1 h i (List.mem_range.2 hi)
  simp only [ho,hd,Bool.and_eq_true,decide_eq_true_eq] at this
  refine ⟨this.2.1,fun j o' hj ho'=>?_⟩
  have h2:=List.all_eq_true.1 this.2.2 j (List.mem_range.2 hj)
  simp only [ho'] at h2
  simpa using h2
theorem fineB_one {n:Nat} (h:fineB md n ops=true) {i j:Nat} {o o':Oper} (ho:ops[i]?=some o) (ho':ops[j]?=some o') {d:Nat} (hd:o.dst=some d) (hd':o'.dst=some d):i=j:=by
  rcases Nat.lt_trichotomy i j with hlt | heq | hgt
  · exact absurd hd ((fineB_slot h ho' hd').2 i o hlt ho)
  · exact heq
  · exact absurd hd' ((fineB_slot h ho hd).2 j o' hgt ho')

theorem getD_put_same {a:Act} {d:Nat} {v:Value} (h:d < a.tmps.size):(a.put (some d) v).tmps.getD d undef=v:=by
  simp [Act.put,h]
theorem getD_put_other {a:Act} {x:Option Nat} {d:Nat} {v:Value} (h:x≠some d):(a.put x v).tmps.getD d undef=a.tmps.getD d undef:=by
  cases x with
  | none=>rfl
  | some e=>
    have hne:e≠d:=fun he=>h (by rw [he])
    simp [Act.put,Array.getElem?_setIfInBounds_ne hne]
theorem put_defers (a:Act) (x:Option Nat) (v:Value):(a.put x v).defers=a.defers:=by cases x <;> rfl
theorem put_size (a:Act) (x:Option Nat) (v:Value):(a.put x v).tmps.size=a.tmps.size:=by cases x <;> simp [Act.put]

variable {Sl:Nat→Value→World→Prop} {Inv:World→Prop} {G:World→World→Prop} {a0:Act}

theorem walk (hmono:∀ d v w w',Sl d v w→G w w'→Sl d v w') (hf:fine a0.tmps.size ops=true) (hs:∀ (i:Nat) (o:Oper),ops[i]?=some o→Step P md ops Q Sl Inv G a0 o)
    (hfin:∀ a w,Same ops a0 a→Inv w→(∀ (i:Nat) (o:Oper) d,ops[i]?=some o→o.dst=some d→Sl d (a.tmps.getD d undef) w)→Q .normal a w) :
    ∀ (fuel:Nat) (listed:Array Bool) (a:Act) (w:World),left listed ops.size≤fuel→listed.size=ops.size→Same ops a0 a→Inv w →
      (∀ (i:Nat) (o:Oper) d,ops[i]?=some o→listed.getD i true=true→o.dst=some d→Sl d (a.tmps.getD d undef) w)→wpAny P md ops Q fuel listed a w:=by
  have ends:∀ (listed:Array Bool) (a:Act) (w:World),(∀ i,i < ops.size→listed.getD i true=true)→Same ops a0 a→Inv w →
      (∀ (i:Nat) (o:Oper) d,ops[i]?=some o→listed.getD i true=true→o.dst=some d→Sl d (a.tmps.getD d undef) w)→Q .normal a w:=fun listed a w hl hsame hinv hsl=>
    hfin a w hsame hinv fun i o d ho hd=>hsl i o d ho (hl i (Array.getElem?_eq_some_iff.1 ho).1) hd
  have alls:∀ listed:Array Bool,listed.size=ops.size→Region.ready md ops listed=[]→∀ i,i < ops.size→listed.getD i true=true:=by
    intro listed hsz hr i
    induction i using Nat.strongRecOn with
    | _ i ih=>
      intro hi
      cases hg:listed.getD i true with
      | true=>rfl
      | false=>
        exfalso
        have:i ∈ Region.ready md ops listed:=mem_ready.2 ⟨hg,ops[i],Array.getElem?_eq_getElem hi,fun e he _=>by
          have hlt:=fine_down hf (Array.getElem?_eq_getElem hi) e he
          have h1:=ih e.on hlt (by omega)
          have h2:e.on < listed.size:=by omega
          simp only [Array.getD_eq_getD_getElem?,Array.getElem?_eq_getElem h2,Option.getD_some] at h1 ⊢
          exact h1⟩
        rw [hr] at this
        cases this
  intro fuel
  induction fuel with
  | zero=>
    intro listed a w hl hsz hsame hinv hsl
    have hall:=left_zero (listed:=listed) (n:=ops.size) (by omega)
    refine ⟨?_,ends listed a w hall hsame hinv hsl⟩
    cases hr:Region.ready md ops listed with
    | nil=>rfl
    | cons j r=>
      have hj:j ∈ Region.ready md ops listed:=by rw [hr];exact List.mem_cons_self ..
      obtain ⟨hun,o,ho,_⟩:=mem_ready.1 hj
      rw [hall j (Array.getElem?_eq_some_iff.1 ho).1] at hun
      cases hun
  | succ fuel ih=>
    intro listed a w hl hsz hsame hinv hsl
    refine ⟨fun hr=>ends listed a w (alls listed hsz hr) hsame hinv hsl,fun i hi=>?_⟩
    obtain ⟨hun,o,ho,hdep⟩:=mem_ready.1 hi
    have hib:i < ops.size:=(Array.getElem?_eq_some_iff.1 ho).1
    refine wpOp_step ho fun K hK=>hs i o ho a w hsame hinv ?_ K ?_
    · intro d hd
      have hd':d ∈ needs md ops o:=by simpa using hd
      obtain ⟨e,he,hed⟩:=List.mem_filterMap.1 hd'
      obtain ⟨he1,he2⟩:=List.mem_filter.1 he
      cases hoe:ops[e.on]? with
      | none=>rw [hoe] at hed;cases hed
      | some oe=>
        rw [hoe] at hed
        have hl1:=hdep e (by simpa using he1) he2
        refine hsl e.on oe d hoe ?_ hed
        have h2:e.on < listed.size:=by have:=(Array.getElem?_eq_some_iff.1 hoe).1;omega
        simp only [Array.getD_eq_getD_getElem?,Array.getElem?_eq_getElem h2,Option.getD_some] at hl1 ⊢
        exact hl1
    · intro v w' hg hinv' hv
      refine hK _ _ (ih (listed.setIfInBounds i true) (a.put o.dst v) w' ?_ (by simpa using hsz) ⟨(put_defers ..).trans hsame.defers,(put_size ..).trans hsame.size,fun d hd=>?_⟩ hinv' ?_)
      · have:=left_less hun hib;omega
      · rw [getD_put_other (hd i o ho)];exact hsame.old d hd
      · intro j oj d hoj hlj hdj
        by_cases hji:j=i
        · subst hji
          rw [ho] at hoj
          cases hoj
          have hds:=(fine_slot hf ho hdj).1
          rw [hdj,getD_put_same (by rw [hsame.size];exact hds)]
          exact hv d hdj
        · rw [getD_put_other (fun e=>hji (fine_one hf hoj ho hdj e))]
          rw [getD_set_ne true (Ne.symm hji)] at hlj
          exact hmono _ _ _ _ (hsl j oj d hoj hlj hdj) hg

/-- **The law**: a region that draws its order. -/
theorem region {id:Nat} {w:World} (Sl:Nat→Value→World→Prop) (Inv:World→Prop) (G:World→World→Prop) (hm:P.follows .mixedOrders=true) (hf:fine a0.tmps.size ops=true)
    (hmono:∀ d v w w',Sl d v w→G w w'→Sl d v w') (h0:Inv w.drew) (hs:Steps P .any ops Q Sl Inv G a0 ops.toList)
    (hfin:∀ a w,Same ops a0 a→Inv w→(∀ (i:Nat) (o:Oper) d,ops[i]?=some o→o.dst=some d→Sl d (a.tmps.getD d undef) w)→Q .normal a w) :
    (Code.region id ops true).wp P Q a0 w:=by
  refine wp_region_any hm ?_
  refine walk hmono hf (fun i o ho=>hs.at o (by simpa using Array.mem_of_getElem? ho)) hfin _ _ a0 w.drew ?_ (by simp) ⟨rfl,rfl,fun _ _=>rfl⟩ h0 ?_
  · have:∀ n,left (Array.replicate ops.size false) n≤n:=by
      intro n
      induction n with
      | zero=>exact Nat.le_refl _
      | succ n ih=>simp only [left];split <;> omega
    exact this _
  · intro i o d ho hl _
    have hi:i < ops.size:=(Array.getElem?_eq_some_iff.1 ho).1
    simp [hi] at hl

/-- A guard that is met. -/
theorem wanted_yes {o:Oper} {tmps:Array Value} (g:Nat) (want:Bool) (d:Nat) (hg:o.guard=some (g,want)) (hd:(ops[g]?).bind (·.dst)=some d) (hv:tmps.getD d undef=.bool want):Region.wanted o (yielded ops tmps)=true:=by
  unfold Region.wanted
  rw [hg]
  cases ho:ops[g]? with
  | none=>rw [ho] at hd;cases hd
  | some og=>
    rw [ho] at hd
    have hd':og.dst=some d:=hd
    have hv':tmps[d]?.getD undef=.bool want:=by simpa using hv
    have hy:yielded ops tmps g=some want:=by
      unfold yielded
      rw [ho]
      simp only [Option.bind_some,hd']
      cases ht:tmps[d]? with
      | none=>rw [ht] at hv';cases want <;> cases hv'
      | some x=>rw [ht] at hv';simp only [Option.getD_some] at hv';rw [hv']
    simp [hy]
/-- A guard that is not met. -/
theorem wanted_no {o:Oper} {tmps:Array Value} (g:Nat) (want:Bool) (d:Nat) (hg:o.guard=some (g,want)) (hd:(ops[g]?).bind (·.dst)=some d) (hv:tmps.getD d undef=.bool !want):¬ Region.wanted o (yielded ops tmps)=true:=by
  unfold Region.wanted
  rw [hg]
  cases ho:ops[g]? with
  | none=>rw [ho] at hd;cases hd
  | some og=>
    rw [ho] at hd
    have hd':og.dst=some d:=hd
    have hv':tmps[d]?.getD undef=.bool !want:=by simpa using hv
    have hy:yielded ops tmps g=some !want:=by
      unfold yielded
      rw [ho]
      simp only [Option.bind_some,hd']
      cases ht:tmps[d]? with
      | none=>rw [ht] at hv';cases want <;> cases hv'
      | some x=>rw [ht] at hv';simp only [Option.getD_some] at hv';rw [hv']
    cases want <;> simp [hy]
/-- A guard that itself has not come to anything. -/
theorem wanted_undef {o:Oper} {tmps:Array Value} (g:Nat) (want:Bool) (d:Nat) (hg:o.guard=some (g,want)) (hd:(ops[g]?).bind (·.dst)=some d) (hv:tmps.getD d undef=undef):¬ Region.wanted o (yielded ops tmps)=true:=by
  unfold Region.wanted
  rw [hg]
  cases ho:ops[g]? with
  | none=>rw [ho] at hd;cases hd
  | some og=>
    rw [ho] at hd
    have hd':og.dst=some d:=hd
    have hv':tmps[d]?.getD undef=undef:=by simpa using hv
    have hy:yielded ops tmps g=none:=by
      unfold yielded
      rw [ho]
      simp only [Option.bind_some,hd']
      cases ht:tmps[d]? with
      | none=>rfl
      | some x=>rw [ht] at hv';simp only [Option.getD_some] at hv';rw [hv'];rfl
    cases want <;> simp [hy]
theorem wanted_none {o:Oper} {tmps:Array Value} (hg:o.guard=none):Region.wanted o (yielded ops tmps)=true:=by
  unfold Region.wanted
  rw [hg]

end
end Flow
end Go.Proofs.YtdmhemgepdknhaaGreat
namespace Go.Proofs.YtdmhemgepdknhaaGreat
open Go Go.RowKit
theorem fW0 {o:Oper} {ops:Array Oper} {tm:Array Value} {A B:Prop} (h:o.guard=none) (k:A):if Region.wanted o (yielded ops tm)=true then A else B:=by
 rw [if_pos (Flow.wanted_none h)];exact k
end Go.Proofs.YtdmhemgepdknhaaGreat
namespace Go.Proofs.YtdmhemgepdknhaaGreat
namespace Flow
open Go
section
variable {P:Program} {ops:Array Oper} {Q:Exit→Act→World→Prop} {md:Region.Mode}
def waits (md:Region.Mode) (ops:Array Oper) (i:Nat):Nat→Nat→Bool
 | 0,j=>i == j
 | f+1,j=>i == j || match ops[j]? with
  | some o=>o.after.any fun e=>Region.binds md e && waits md ops i f e.on
  | none=>false
def Closed (md:Region.Mode) (ops:Array Oper) (listed:Array Bool):Prop:=∀ (j:Nat) (o:Oper),ops[j]?=some o→listed.getD j true=true→∀ e ∈ o.after,Region.binds md e=true→listed.getD e.on true=true
theorem waits_listed {listed:Array Bool} {i:Nat} (hc:Closed md ops listed):∀ (f j:Nat),waits md ops i f j=true→listed.getD j true=true→listed.getD i true=true
 | 0,j,h,hl=>by
           have:i=j:=by simpa [waits] using h
           rw [this];exact hl
 | f+1,j,h,hl=>by
  simp only [waits,Bool.or_eq_true] at h
  rcases h with h | h
  ·
   have:i=j:=by simpa using h
   rw [this];exact hl
  ·
   cases ho:ops[j]? with
   | none=>rw [ho] at h;cases h
   | some o=>
    rw [ho] at h
    obtain ⟨k,hk,h2⟩:=Array.any_eq_true.1 h
    simp only [Bool.and_eq_true] at h2
    exact waits_listed hc f _ h2.2 (hc j o ho hl _ (Array.getElem_mem hk) h2.1)
variable {Sl:Nat→Value→World→Prop} {Inv:World→Prop} {G:Nat→World→World→Prop} {a0:Act}
theorem frame {a0 a:Act} (h:Same ops a0 a) (ds:List Nat) (l:List Nat) (hl:l=List.range a0.tmps.size) (hd:(l.all fun i=>ds.contains i || ops.all fun o=>o.dst != some i)=true) :
  a={ tmps:=(l.map fun i=>if ds.contains i then a.tmps.getD i undef else a0.tmps.getD i undef).toArray,defers:=a0.defers }:=by
 obtain ⟨t,df⟩:=a;have h1:df=a0.defers:=h.defers;have h2:t.size=a0.tmps.size:=h.size;subst h1
 congr 1
 apply Array.ext
 · simp [hl,h2]
 ·
  intro i h3 h4
  have hi:i < a0.tmps.size:=by omega
  have hm:=List.all_eq_true.1 hd i (by rw [hl];exact List.mem_range.2 hi)
  have e1:t.getD i undef=t[i]:=by simp [h3]
  simp only [hl,List.getElem_toArray,List.getElem_map,List.getElem_range]
  by_cases hc:ds.contains i=true
  · rw [if_pos hc,e1]
  ·
   rw [if_neg hc,← e1]
   have:ds.contains i=false:=by simpa using hc
   rw [this,Bool.false_or] at hm
   exact h.at i hm
end
end Flow
end Go.Proofs.YtdmhemgepdknhaaGreat
namespace Go.Proofs.YtdmhemgepdknhaaGreat
open Go.RowKit Go.Maps
def St.wrote (s:St) (i:Nat) (x:Sec):St:={ s with fuse:=if 0 < s.fuse then s.fuse - 1 else s.fuse,t:=fun j=>if j=i then s.t i++[x] else s.t j,writes:=s.writes+1 }
def St.refuses (s:St):Prop:=s.fuse=0∨s.dead=true
instance (s:St):Decidable s.refuses:=inferInstanceAs (Decidable (_∨_))
set_option maxRecDepth 100000 in
set_option maxHeartbeats 1000000 in
theorem Write_deadM {F:Nat→Prop} {b:Nat} {lv:Value} {m:Nat} {L:Nat→Value} {s:St} (w:World) (h:DkAt w F b lv m L s) (i:Nat) (hi:i < s.ls.length) (x:Sec) (hr:s.refuses):Calls Tryz.prog 77 #[.pointer (some ⟨b,0,none⟩),.int .i64 (i:Int),.agg (sec x)] w fun e w'=>e=.returned (.int .i64 8)∧DkAt w' F b lv m L { s with dead:=true }∧Upd F F w w':=by
 have hg:Gr w (w.alloc (.cells (sec x) TS)):=(Gr.refl w).alloc (Nat.le_refl _) _;have h':=h.gr hg;have ha:=asked_any _ h' (i:Int)
 have he:askE s.ls.length (i:Int)=0:=by unfold askE;rw [if_neg (by omega)]
 rw [he] at ha
 have HA:=Lib.hid ha;obtain ⟨h0,h1,h2,h3,h4⟩:=h'.cells;have hf:=h'.blk.frozen 3;have HB:=Lib.hid (h'.blk.set 3 (.bool true));have HU:=Lib.hid (Upd.trans (Upd.of_gr (F:=F) hg) (upd_cell (w:=w.alloc (.cells (sec x) TS)) (i:=3) h.ownB (.bool true)));have HU0:=Lib.hid (Upd.of_gr (F:=F) hg);have HD:Hid (DkAt ((w.alloc (.cells (sec x) TS)).setCell ⟨b,3,none⟩ (.bool true)) F b lv m L { s with dead:=true }):=Lib.hid (h'.block (s':={ s with dead:=true }) ⟨h.ok.pos,h.ok.most,h.ok.out,h.ok.less,h.ok.lo,h.ok.hi⟩ rfl rfl (Nat.le_refl _) (by simpa using HB.out) (fun k _ hk=>Below.heap_setCell _ _ _ k hk) (by simp [World.setCell]))
 by_cases hz:s.fuse=0
 ·
  rw [hz] at h2
  clear h h' ha he hi HB hr h0 h1 h4 HU0 hz
  go_enter Tryz.func77,Tryz.ntmps77
  go_wp2_with fail;refine HA.out.mono ?_;rintro e w1 ⟨rfl,rfl⟩
  go_wp2
  go_ret
  exact ⟨rfl,HD.out,HU.out⟩
 ·
  have hd:s.dead=true:=by
                 rcases hr with h | h
                 · exact absurd h hz
                 · exact h
  have hs:{ s with dead:=true }=s:=by cases s;simp at hd;simp [hd]
  have HD0:Hid (DkAt (w.alloc (.cells (sec x) TS)) F b lv m L { s with dead:=true }):=Lib.hid (by rw [hs];exact h')
  rw [hd] at h3
  have hz2:(s.fuse == 0)=false:=by simpa using hz
  obtain ⟨f,hff⟩:∃ f,f=s.fuse:=⟨_,rfl⟩
  rw [← hff] at h2 hz2
  clear h h' ha he hi HB hr h0 h1 h4 HU hz hs HD hd hff
  go_enter Tryz.func77,Tryz.ntmps77
  go_wp2_with fail;refine HA.out.mono ?_;rintro e w1 ⟨rfl,rfl⟩
  go_wp2
  go_ret
  exact ⟨rfl,HD0.out,HU0.out⟩
theorem Write_dead {F:Nat→Prop} {p:Value} {s:St} (w:World) (h:Dk w F p s) (i:Nat) (hi:i < s.ls.length) (x:Sec) (hr:s.refuses):Calls Tryz.prog 77 #[p,.int .i64 (i:Int),.agg (sec x)] w fun e w'=>e=.returned (.int .i64 8)∧Dk w' F p { s with dead:=true }∧Upd F F w w':=by
 obtain ⟨b,lv,m,L,rfl,h⟩:=h;refine (Write_deadM w h i hi x hr).mono ?_;rintro e w' ⟨rfl,hd,hu⟩;exact ⟨rfl,⟨_,_,_,_,rfl,hd⟩,hu⟩
end Go.Proofs.YtdmhemgepdknhaaGreat
