/-
  Texts, put together: RecOf RecOfO RecAllMath Told.
-/
import Derived.RangeFuncNested
import Derived.RangeFuncBound
import Derived.RangeFuncCalls
import Derived.RangeFuncLeaves
import Derived.Lib.Hide
import Derived.Test.YtdmhemgepdknhaaGreatV1
import Derived.Test.YtdmhemgepdknhaaGreatV10
import Derived.Test.YtdmhemgepdknhaaGreatV17
set_option linter.unusedVariables false
set_option linter.unusedSimpArgs false
namespace Go.Proofs.YtdmhemgepdknhaaGreat
open Go.RowKit Cr
theorem equal_any (p q:Option Addr) (n c m d:Nat) (xs ys:List Int) (w:World) (h:Byt w p n c xs) (k:Byt w q m d ys):Calls Tryz.prog 155 #[.slice p n c,.slice q m d] w fun e w'=>e=.returned (.bool (decide (xs=ys)))∧w=w':=by
 have hc1:=h.lies.convert h.len c 31 5 9 Tryz.underlying31 Tryz.underlying5 Tryz.underlying9;have hc2:=k.lies.convert k.len d 31 5 9 Tryz.underlying31 Tryz.underlying5 Tryz.underlying9;have he:=Lib.hid (strEq h.small k.small);clear h k;obtain ⟨r,hr⟩:∃ r,r=strOfNums xs:=⟨_,rfl⟩;obtain ⟨s,hs⟩:∃ s,s=strOfNums ys:=⟨_,rfl⟩
 rw [← hr] at hc1 he
 rw [← hs] at hc2 he
 clear hr hs
 go_enter Tryz.func155,Tryz.ntmps155
 go_wp2
 go_ret
 exact ⟨ret_b he.out,rfl⟩
theorem hasPrefix_any (p q:Option Addr) (n c m d:Nat) (xs ys:List Int) (w:World) (h:Byt w p n c xs) (k:Byt w q m d ys):Calls Tryz.prog 130 #[.slice p n c,.slice q m d] w fun e w'=>e=.returned (.bool (preB xs ys))∧w=w':=by
 have lx:=h.len;have ly:=k.len;have hcap:=h.cap
 by_cases hl:m≤n
 ·
  have hp:=h.pre m c hl (by omega) (Nat.le_refl _);have HE:=Lib.hid (equal_any p q m c m d (xs.take m) ys w hp k);have HR:Hid (preB xs ys=decide (xs.take m=ys)):=Lib.hid (by unfold preB;rw [ly])
  have hl':(m:Int)≤n:=by omega
  have hmc:m≤c:=by omega
  have hnil:=h.nilCap;clear h k lx ly hp
  cases p with
  | none=>
   have h0:=hnil rfl;subst h0
   obtain rfl:n=0:=by omega
   obtain rfl:m=0:=by omega
   clear hnil
   go_enter Tryz.func130,Tryz.ntmps130
   go_wp2_with fail;refine HE.out.mono ?_;rintro e w' ⟨rfl,rfl⟩;go_wp2_with fail
   go_ret
   exact ⟨ret_b (by rw [HR.out];simp only [List.take_zero];exact decide_eq_decide.2 eq_comm),rfl⟩
  | some ad=>
   clear hnil
   go_enter Tryz.func130,Tryz.ntmps130
   go_wp2_with fail;refine HE.out.mono ?_;rintro e w' ⟨rfl,rfl⟩;go_wp2_with fail
   go_ret
   exact ⟨ret_b HR.out.symm,rfl⟩
 ·
  have HR:Hid (preB xs ys=false):=Lib.hid (by
   unfold preB
   apply decide_eq_false
   intro e
   have:=congrArg List.length e
   simp at this
   omega)
  have hl':¬ (m:Int)≤n:=by omega
  clear h k lx ly
  go_enter Tryz.func130,Tryz.ntmps130
  go_wp2_with fail
  go_ret
  exact ⟨ret_b HR.out.symm,rfl⟩
structure Oth (f:Nat) (W W':World):Prop where
 size:W.heap.size≤W'.heap.size
 block:∀ g,g < W.heap.size→g≠f→W'.heap[g]?=W.heap[g]?
theorem Oth.refl (f:Nat) (W:World):Oth f W W:=⟨Nat.le_refl _,fun _ _ _=>rfl⟩
theorem Oth.set {f:Nat} {W W':World} (h:Oth f W W') (v:Value):Oth f W (W'.setCell ⟨f,0,none⟩ v):=
 ⟨by have:=h.size;simp;exact this,fun g h1 h2=>(heap_setCell_other W' ⟨f,0,none⟩ g v h2).trans (h.block g h1 h2)⟩
theorem Oth.seti {f:Nat} {W W':World} (h:Oth f W W') (i:Nat) (v:Value):Oth f W (W'.setCell ⟨f,i,none⟩ v):=
 ⟨by have:=h.size;simp;exact this,fun g h1 h2=>(heap_setCell_other W' ⟨f,i,none⟩ g v h2).trans (h.block g h1 h2)⟩
theorem Oth.set8 {f:Nat} (W:World) (a b c d e g i j:Value):Oth f W ((((((((W.setCell ⟨f,0,none⟩ a).setCell ⟨f,1,none⟩ b).setCell ⟨f,2,none⟩ c).setCell ⟨f,3,none⟩ d).setCell ⟨f,4,none⟩ e).setCell ⟨f,5,none⟩ g).setCell ⟨f,6,none⟩ i).setCell ⟨f,7,none⟩ j):=
 ((((((((Oth.refl f W).seti 0 a).seti 1 b).seti 2 c).seti 3 d).seti 4 e).seti 5 g).seti 6 i).seti 7 j
theorem Oth.gr {f:Nat} {W W' W'':World} (h:Oth f W W') (g:Gr W' W''):Oth f W W'':=
 ⟨Nat.le_trans h.size g.size,fun k h1 h2=>(g.block k (Nat.lt_of_lt_of_le h1 h.size)).trans (h.block k h1 h2)⟩
theorem Oth.blk {f g:Nat} {W W':World} {t:TypeId} {cs:Array Value} (h:Oth f W W') (hb:Blk W g t cs) (hg:g≠f):Blk W' g t cs:=(h.block g hb.lt hg).trans hb
theorem Oth.byt {f:Nat} {W W':World} {p:Option Addr} {n c:Nat} {xs:List Int} (h:Oth f W W') (hb:Byt W p n c xs) (hf:∀ a,p=some a→f < a.block):Byt W' p n c xs:=
 ⟨hb.len,hb.cap,hb.most,fun hn=>by
  obtain ⟨b,o,rfl,hc⟩:=hb.lies.at hn
  refine ⟨b,o,rfl,fun i hi=>?_⟩;have hfb:f < b:=hf _ rfl;rw [← hc i hi]
  unfold World.cell?
  rw [h.block b (blk_lt (hc i hi)) (by omega)],hb.nilCap,hb.small⟩
abbrev TBy:TypeId:=31
structure RdAt (w0:World) (p:Option Addr) (n c:Nat) (F:Int) (W:World):Prop where
 gr:Gr w0 W
 b:Blk W w0.heap.size TBy #[.slice p n c]
 z:Blk W (w0.heap.size+1) TR #[.int .i64 0,.int .u64 0,.int .u64 0,.int .u64 0,.int .i64 0,.int .i64 0,.slice none 0 0,.slice none 0 0]
 f:Blk W (w0.heap.size+1+1) TI #[.int .i64 F]
theorem RdAt.set {w0 W:World} {p:Option Addr} {n c:Nat} {F:Int} (h:RdAt w0 p n c F W) (F':Int):RdAt w0 p n c F' (W.setCell ⟨w0.heap.size+1+1,0,none⟩ (.int .i64 F')):=
 ⟨h.gr.setCell (by show w0.heap.size≤w0.heap.size+1+1;omega) _,h.b.far (by show w0.heap.size≠w0.heap.size+1+1;omega) _,h.z.far (by show w0.heap.size+1≠w0.heap.size+1+1;omega) _,h.f.set 0 _⟩
theorem RdAt.up {w0 W W':World} {p:Option Addr} {n c:Nat} {F:Int} (h:RdAt w0 p n c F W) (g:Gr W W'):RdAt w0 p n c F W':=
 ⟨Gr.trans h.gr g,h.b.below g h.b.lt,h.z.below g h.z.lt,h.f.below g h.f.lt⟩
theorem RdAt.put {w0 W:World} {p:Option Addr} {n c:Nat} {F:Int} (h:RdAt w0 p n c F W) (g i:Nat) (v:Value) (hg:w0.heap.size+1+1 < g):RdAt w0 p n c F (W.setCell ⟨g,i,none⟩ v):=
 ⟨h.gr.setCell (by show w0.heap.size≤g;omega) _,h.b.far (by show w0.heap.size≠g;omega) _,h.z.far (by show w0.heap.size+1≠g;omega) _,h.f.far (by show w0.heap.size+1+1≠g;omega) _⟩
theorem sz_set (w:World) (a:Addr) (v:Value):(w.setCell a v).heap.size=w.heap.size:=by simp [World.setCell]
set_option maxRecDepth 100000 in
theorem next_any {w0:World} {p:Option Addr} {n c:Nat} {xs:List Int} (hb:Byt w0 p n c xs) (F s F':Int) (W:World) (h:RdAt w0 p n c F W) (hF:F+s=F') (h0:0≤F) (h1:F≤1000) (h2:0≤s) (h3:s≤8) :
  Calls Tryz.prog 152 #[.int .i64 s,.pointer (some ⟨w0.heap.size,0,none⟩),.pointer (some ⟨w0.heap.size+1+1,0,none⟩)] W fun e w'=>e=.returned (.int .u64 (atR xs F s))∧W.setCell ⟨w0.heap.size+1+1,0,none⟩ (.int .i64 F')=w':=by
 subst hF;have HA:=Lib.hid (at_any p n c xs F s W (hb.kept h.gr));have c0:W.cell? ⟨w0.heap.size,0,none⟩=some (.slice p n c):=h.b.cell 0;have c1:W.cell? ⟨w0.heap.size+1+1,0,none⟩=some (.int .i64 F):=h.f.cell 0;have f1:=h.f.frozen 0;clear hb h
 go_enter Tryz.func152,Tryz.ntmps152
 go_wp2_with fail;refine HA.out.mono ?_;rintro e w1 ⟨rfl,rfl⟩;go_wp2_with fail
 go_ret
 exact ⟨rfl,rfl⟩
theorem drop_take_min (xs:List Int) (F M A E:Nat) (hA:A=min F xs.length) (hE:E=min (A+M) xs.length):(xs.drop A).take (E - A)=(xs.drop F).take M:=by
 subst hA hE
 by_cases h:F≤xs.length
 ·
  rw [Nat.min_eq_left h]
  by_cases h2:F+M≤xs.length
  · rw [Nat.min_eq_left h2];congr 1;omega
  · rw [Nat.min_eq_right (by omega),List.take_of_length_le (by simp),List.take_of_length_le (by simp;omega)]
 ·
  have e1:min F xs.length=xs.length:=by omega
  rw [e1,List.drop_of_length_le (Nat.le_refl _),List.drop_of_length_le (by omega)]
  simp
theorem results_rec3 {fn:Func} {p q r:Tmp} (h:fn.results=#[.cell p TR,.tmp q,.tmp r]) (tmps:Array Value) (w:World) (g:Nat) (cs:Array Value) (x y:Value) (hs:cs.size=8)
  (hp:tmps.getD p undef=.pointer (some ⟨g,0,none⟩)) (hx:tmps.getD q undef=x) (hy:tmps.getD r undef=y) (hb:Blk w g TR cs):(results fn tmps).run Tryz.prog w=.ok (.tuple #[.agg cs,x,y]) w:=by
 have hp':tmps[p]?.getD undef=.pointer (some ⟨g,0,none⟩):=by simpa using hp
 have hx':tmps[q]?.getD undef=x:=by simpa using hx
 have hy':tmps[r]?.getD undef=y:=by simpa using hy
 have hl:=run_loadVar_row (P:=Tryz.prog) w g TR TR cs (0,0) _ hb Tryz.underlying100 rfl (by rw [hs];exact rec_size)
 simp [results,h,hp',hx',hy',asAddr,hl]
def ofE (xs:List Int) (at':Nat):Int:=if ofB xs at' then 0 else 4
theorem zeros_rec (w:World):Blk (w.alloc (.cells #[.int .i64 0,.int .u64 0,.int .u64 0,.int .u64 0,.int .i64 0,.int .i64 0,.slice none 0 0,.slice none 0 0] TR)) w.heap.size TR #[.int .i64 0,.int .u64 0,.int .u64 0,.int .u64 0,.int .i64 0,.int .i64 0,.slice none 0 0,.slice none 0 0]:=Blk.new _ _ _
end Go.Proofs.YtdmhemgepdknhaaGreat
namespace Go.Proofs.YtdmhemgepdknhaaGreat
open Go.RowKit Cr
theorem OwnB.oth {W W':World} {f base tB n c:Nat} {p:Option Addr} {xs:List Int} (h:OwnB W base tB (.slice p n c) xs) (g:Oth f W W') (hf:∀ a,p=some a→a.block≠f):OwnB W' base tB (.slice p n c) xs:=by
 refine ⟨⟨h.row.1,?_⟩,h.small⟩
 rcases h.row.2 with h2 | ⟨b,cap,cur,e,h0,hg,r⟩
 · exact .inl h2
 ·
  have hlt:b < W.heap.size:=(Array.getElem?_eq_some_iff.1 hg).1
  have hne:b≠f:=by
   simp only [Value.slice.injEq] at e
   exact hf _ e.1
  exact .inr ⟨b,cap,cur,e,h0,(g.block b hlt hne).trans hg,r⟩
set_option maxRecDepth 100000 in
set_option maxHeartbeats 1000000 in
theorem list_own {w0:World} {p:Option Addr} {n c:Nat} {xs:List Int} (hb:Byt w0 p n c xs) (F M A E:Nat) (W:World) (h:RdAt w0 p n c F W) (hA:A=min F n) (hE:E=min (A+M) n) (h1:F≤1000) (h2:M≤1000) :
  Calls Tryz.prog 153 #[.int .i64 M,.pointer (some ⟨w0.heap.size+1+1,0,none⟩),.pointer (some ⟨w0.heap.size,0,none⟩)] W fun e w'=>∃ q m d,e=.returned (.slice q m d)∧OwnB w' W.heap.size 5 (.slice q m d) ((xs.drop F).take M)∧RdAt w0 p n c E w'∧Oth (w0.heap.size+1+1) W w':=by
 have lx:=hb.len;have hcap:=hb.cap;have hX:=Lib.hid (drop_take_min xs F M A E (by rw [lx];exact hA) (by rw [lx];exact hE));have c0:W.cell? ⟨w0.heap.size,0,none⟩=some (.slice p n c):=h.b.cell 0;have c1:W.cell? ⟨w0.heap.size+1+1,0,none⟩=some (.int .i64 F):=h.f.cell 0;have f1:=h.f.frozen 0
 have a1:A≤E:=by omega
 have a2:E≤n:=by omega
 have a3:E≤c:=by omega
 have a4:A≤1000:=by omega
 have n63:n≤9223372036854775807:=by have:=hb.most;unfold maxLen at this;omega
 have m1:min (F:Int) (n:Int)=(A:Int):=by omega
 have m2:min ((A:Int)+M) (n:Int)=(E:Int):=by omega
 have HS:=Lib.hid (h.set E);have hby:=hb.kept HS.out.gr;have HO:Hid (Oth (w0.heap.size+1+1) W (W.setCell ⟨w0.heap.size+1+1,0,none⟩ (.int .i64 E))):=Lib.hid ((Oth.refl _ _).set _)
 have hsub:∃ q,(A < E→∃ b o,p=some ⟨b,o,none⟩∧q=some ⟨b,o+A,none⟩)∧Byt (W.setCell ⟨w0.heap.size+1+1,0,none⟩ (.int .i64 E)) q (E - A) (E - A) ((xs.drop F).take M):=by
  rw [← hX.out]
  by_cases hlt:A < E
  ·
   obtain ⟨b,o,rfl,_⟩:=hby.at (by omega)
   exact ⟨_,fun _=>⟨b,o,rfl,rfl⟩,hby.sub (by omega) A (E - A) (E - A) (by omega) (Nat.le_refl _) (by simp only [maxLen];omega)⟩
  ·
   have e0:E - A=0:=by omega
   rw [e0];exact ⟨none,fun h=>absurd h hlt,Byt.zero _ _⟩
 have hz:Hid (∀ (p:Option Addr) (w:World),E=A→Byt w p 0 0 ((xs.drop F).take M)):=Lib.hid fun p w e=>by
  rw [← hX.out,e]
  simp
  exact Byt.zero w p
 have HT:Hid (tot [(xs.drop F).take M]≤140737488355328):=Lib.hid (by unfold tot;simp;omega);have HFL:Hid ([(xs.drop F).take M].flatten=(xs.drop F).take M):=Lib.hid (by simp)
 by_cases hlt:A < E
 ·
  obtain ⟨q,hq,hy⟩:=hsub;obtain ⟨b,o,rfl,rfl⟩:=hq hlt;have hr:=Rows.one (t:=31) hy rfl
  rw [sz_set] at hr
  have HR:=Lib.hid hr;clear hr hy hq hz hby h hb hA hE lx
  go_enter Tryz.func153,Tryz.ntmps153
  go_wp2_with fail;refine (join_own _ _ _ _ _ HR.out HT.out).mono ?_;rintro e w1 ⟨v,rfl,ho,g1⟩;obtain ⟨m,hm⟩:∃ m,m=((xs.drop F).take M).length:=⟨_,rfl⟩;obtain ⟨q,d,hv⟩:=(ho.as HFL.out).shape m hm.symm;subst hv;have HY:=Lib.hid ((ho.as HFL.out).base_le (B':=W.heap.size) (by rw [World.size_alloc,sz_set];exact Nat.le_succ _));have HG:=Lib.hid (grow1 g1);clear hm;clear ho g1;go_wp2_with fail
  go_ret
  exact ⟨q,m,d,rfl,HY.out,HS.out.up HG.out,HO.out.gr HG.out⟩
 ·
  clear hA hE
  obtain rfl:E=A:=by omega
  have HZ:Hid (∀ q,Rows ((W.setCell ⟨w0.heap.size+1+1,0,none⟩ (.int .i64 E)).alloc (.cells #[.slice q 0 0] 31)) (some ⟨W.heap.size,0,none⟩) 1 1 [(xs.drop F).take M]):=Lib.hid fun q=>by
   have h1:=Rows.one (w:=W.setCell ⟨w0.heap.size+1+1,0,none⟩ (.int .i64 E)) (t:=31) (hz.out q _ rfl) rfl
   rw [sz_set] at h1
   exact h1
  clear hsub hz hby h hlt hb hX
  cases p with
  | none=>
   go_enter Tryz.func153,Tryz.ntmps153
   go_wp2_with fail;refine (join_own _ _ _ [(xs.drop F).take M] _ (HZ.out _) HT.out).mono ?_;rintro e w1 ⟨v,rfl,ho,g1⟩;obtain ⟨m,hm⟩:∃ m,m=((xs.drop F).take M).length:=⟨_,rfl⟩;obtain ⟨q,d,hv⟩:=(ho.as HFL.out).shape m hm.symm;subst hv;have HY:=Lib.hid ((ho.as HFL.out).base_le (B':=W.heap.size) (by rw [World.size_alloc,sz_set];exact Nat.le_succ _));have HG:=Lib.hid (grow1 g1);clear hm;clear ho g1;go_wp2_with fail
   go_ret
   exact ⟨q,m,d,rfl,HY.out,HS.out.up HG.out,HO.out.gr HG.out⟩
  | some ad=>
   go_enter Tryz.func153,Tryz.ntmps153
   go_wp2_with fail;refine (join_own _ _ _ [(xs.drop F).take M] _ (HZ.out _) HT.out).mono ?_;rintro e w1 ⟨v,rfl,ho,g1⟩;obtain ⟨m,hm⟩:∃ m,m=((xs.drop F).take M).length:=⟨_,rfl⟩;obtain ⟨q,d,hv⟩:=(ho.as HFL.out).shape m hm.symm;subst hv;have HY:=Lib.hid ((ho.as HFL.out).base_le (B':=W.heap.size) (by rw [World.size_alloc,sz_set];exact Nat.le_succ _));have HG:=Lib.hid (grow1 g1);clear hm;clear ho g1;go_wp2_with fail
   go_ret
   exact ⟨q,m,d,rfl,HY.out,HS.out.up HG.out,HO.out.gr HG.out⟩
def RetCandO (c:Rc) (w:World) (e:Ending) (w':World):Prop:=
 ∃ pb nb cb pa na ca,e=.returned (.agg #[.int .i64 c.k,.int .u64 c.t,.int .u64 c.p,.int .u64 c.x,.int .i64 c.g,.int .i64 c.o,.slice pb nb cb,.slice pa na ca])∧OwnB w' w.heap.size 5 (.slice pb nb cb) c.b∧OwnB w' w.heap.size 5 (.slice pa na ca) c.a∧Gr w w'
set_option maxRecDepth 100000 in
set_option maxHeartbeats 4000000 in
theorem read_own (p:Option Addr) (n c:Nat) (xs:List Int) (w:World) (hb:Byt w p n c xs):Calls Tryz.prog 129 #[.slice p n c] w (RetCandO (cand xs) w):=by
 have hs:=hb.small;have lx:=Lib.hid hb.len;have HX:=Lib.hid (fun (F:Nat) s F' W h hF h1 h2 h3=>next_any (w0:=w) hb F s F' W h hF (by omega) h1 h2 h3);have HL:=Lib.hid (fun F M A E W h hA hE h1 h2=>list_own (w0:=w) hb F M A E W h hA hE h1 h2)
 have H0:Hid (RdAt w p n c 6 (((w.alloc (.cells #[.slice p n c] TBy)).alloc (.cells #[.int .i64 0,.int .u64 0,.int .u64 0,.int .u64 0,.int .i64 0,.int .i64 0,.slice none 0 0,.slice none 0 0] TR)).alloc (.cells #[.int .i64 6] TI))):=Lib.hid (by
  have h1:=Blk.new w TBy #[.slice p n c];have h2:=Blk.new (w.alloc (.cells #[.slice p n c] TBy)) TR #[.int .i64 0,.int .u64 0,.int .u64 0,.int .u64 0,.int .i64 0,.int .i64 0,.slice none 0 0,.slice none 0 0];have h3:=Blk.new ((w.alloc (.cells #[.slice p n c] TBy)).alloc (.cells #[.int .i64 0,.int .u64 0,.int .u64 0,.int .u64 0,.int .i64 0,.int .i64 0,.slice none 0 0,.slice none 0 0] TR)) TI #[.int .i64 6]
  simp only [World.size_alloc] at h2 h3
  have g1:=(Gr.refl w).alloc (Nat.le_refl _) (.cells #[.slice p n c] TBy);have g2:=g1.alloc g1.size (.cells #[.int .i64 0,.int .u64 0,.int .u64 0,.int .u64 0,.int .i64 0,.int .i64 0,.slice none 0 0,.slice none 0 0] TR)
  exact ⟨g2.alloc g2.size _,(h1.alloc _).alloc _,h2.alloc _,h3⟩)
 have S0:Hid ((((w.alloc (.cells #[.slice p n c] TBy)).alloc (.cells #[.int .i64 0,.int .u64 0,.int .u64 0,.int .u64 0,.int .i64 0,.int .i64 0,.slice none 0 0,.slice none 0 0] TR)).alloc (.cells #[.int .i64 6] TI)).heap.size=w.heap.size+1+1+1):=Lib.hid (by simp);have b1:atR xs 6 1 < 256:=atR_lt xs hs 6 1 (by omega);have b5:atR xs 31 2 < 65536:=atR_lt xs hs 31 2 (by omega);have b6:atR xs 33 1 < 256:=atR_lt xs hs 33 1 (by omega);have b7:atR xs 34 1 < 256:=atR_lt xs hs 34 1 (by omega);have HC:Hid (cand xs=⟨(atR xs 6 1:Nat),atR xs 7 8,atR xs 15 8,atR xs 23 8,(atR xs 31 2:Nat),(atR xs 33 1:Nat),(xs.drop 35).take (if atR xs 6 1=1 then atR xs 34 1 else 0),(xs.drop (35+(if atR xs 6 1=1 then atR xs 34 1 else 0))).take (atR xs 34 1)⟩):=Lib.hid rfl;rw [HC.out];clear HC hb hs;obtain ⟨v1,e1⟩:∃ v,v=atR xs 6 1:=⟨_,rfl⟩;obtain ⟨v2,e2⟩:∃ v,v=atR xs 7 8:=⟨_,rfl⟩;obtain ⟨v3,e3⟩:∃ v,v=atR xs 15 8:=⟨_,rfl⟩;obtain ⟨v4,e4⟩:∃ v,v=atR xs 23 8:=⟨_,rfl⟩;obtain ⟨v5,e5⟩:∃ v,v=atR xs 31 2:=⟨_,rfl⟩;obtain ⟨v6,e6⟩:∃ v,v=atR xs 33 1:=⟨_,rfl⟩;obtain ⟨v7,e7⟩:∃ v,v=atR xs 34 1:=⟨_,rfl⟩;rw [← e1,← e2,← e3,← e4,← e5,← e6,← e7]
 rw [← e1] at b1
 rw [← e5] at b5
 rw [← e6] at b6
 rw [← e7] at b7
 have E1:=Lib.hid e1;have E2:=Lib.hid e2;have E3:=Lib.hid e3;have E4:=Lib.hid e4;have E5:=Lib.hid e5;have E6:=Lib.hid e6;have E7:=Lib.hid e7;clear e1 e2 e3 e4 e5 e6 e7;obtain ⟨nbf,hnbf⟩:∃ m:Nat,(m:Int)=befR v1 v7∧m=(if v1=1 then v7 else 0):=⟨if v1=1 then v7 else 0,by unfold befR;split <;> split <;> omega,rfl⟩;rw [← hnbf.2];have HNB:=Lib.hid hnbf.1
 have bn:nbf≤255:=by have:=hnbf.2;split at this <;> omega
 clear hnbf
 go_enter Tryz.func129,Tryz.ntmps129
 go_wp2_with fail
 generalize (((w.alloc (.cells #[.slice p n c] TBy)).alloc (.cells #[.int .i64 0,.int .u64 0,.int .u64 0,.int .u64 0,.int .i64 0,.int .i64 0,.slice none 0 0,.slice none 0 0] TR)).alloc (.cells #[.int .i64 6] TI))=W0 at H0 S0 ⊢
 refine (HX.out 6 1 7 _ H0.out (by omega) (by omega) (by omega) (by omega)).mono ?_;rintro e y0 ⟨rfl,rfl⟩;have H1:=Lib.hid (H0.out.set 7);have S1:=Lib.hid ((sz_set W0 ⟨w.heap.size+1+1,0,none⟩ (.int .i64 7)).trans S0.out);rw [show atR xs ((6:Nat):Int) 1=v1 from E1.out.symm]
 generalize W0.setCell ⟨w.heap.size+1+1,0,none⟩ (.int .i64 7)=W1 at H1 S1 ⊢
 clear H0 S0;go_wp2_with fail;refine (HX.out 7 8 15 _ H1.out (by omega) (by omega) (by omega) (by omega)).mono ?_;rintro e y1 ⟨rfl,rfl⟩;have H2:=Lib.hid (H1.out.set 15);have S2:=Lib.hid ((sz_set W1 ⟨w.heap.size+1+1,0,none⟩ (.int .i64 15)).trans S1.out);rw [show atR xs ((7:Nat):Int) 8=v2 from E2.out.symm]
 generalize W1.setCell ⟨w.heap.size+1+1,0,none⟩ (.int .i64 15)=W2 at H2 S2 ⊢
 clear H1 S1;go_wp2_with fail;refine (HX.out 15 8 23 _ H2.out (by omega) (by omega) (by omega) (by omega)).mono ?_;rintro e y2 ⟨rfl,rfl⟩;have H3:=Lib.hid (H2.out.set 23);have S3:=Lib.hid ((sz_set W2 ⟨w.heap.size+1+1,0,none⟩ (.int .i64 23)).trans S2.out);rw [show atR xs ((15:Nat):Int) 8=v3 from E3.out.symm]
 generalize W2.setCell ⟨w.heap.size+1+1,0,none⟩ (.int .i64 23)=W3 at H3 S3 ⊢
 clear H2 S2;go_wp2_with fail;refine (HX.out 23 8 31 _ H3.out (by omega) (by omega) (by omega) (by omega)).mono ?_;rintro e y3 ⟨rfl,rfl⟩;have H4:=Lib.hid (H3.out.set 31);have S4:=Lib.hid ((sz_set W3 ⟨w.heap.size+1+1,0,none⟩ (.int .i64 31)).trans S3.out);rw [show atR xs ((23:Nat):Int) 8=v4 from E4.out.symm]
 generalize W3.setCell ⟨w.heap.size+1+1,0,none⟩ (.int .i64 31)=W4 at H4 S4 ⊢
 clear H3 S3;go_wp2_with fail;refine (HX.out 31 2 33 _ H4.out (by omega) (by omega) (by omega) (by omega)).mono ?_;rintro e y4 ⟨rfl,rfl⟩;have H5:=Lib.hid (H4.out.set 33);have S5:=Lib.hid ((sz_set W4 ⟨w.heap.size+1+1,0,none⟩ (.int .i64 33)).trans S4.out);rw [show atR xs ((31:Nat):Int) 2=v5 from E5.out.symm]
 generalize W4.setCell ⟨w.heap.size+1+1,0,none⟩ (.int .i64 33)=W5 at H5 S5 ⊢
 clear H4 S4;go_wp2_with fail;refine (HX.out 33 1 34 _ H5.out (by omega) (by omega) (by omega) (by omega)).mono ?_;rintro e y5 ⟨rfl,rfl⟩;have H6:=Lib.hid (H5.out.set 34);have S6:=Lib.hid ((sz_set W5 ⟨w.heap.size+1+1,0,none⟩ (.int .i64 34)).trans S5.out);rw [show atR xs ((33:Nat):Int) 1=v6 from E6.out.symm]
 generalize W5.setCell ⟨w.heap.size+1+1,0,none⟩ (.int .i64 34)=W6 at H6 S6 ⊢
 clear H5 S5;go_wp2_with fail;have HR6:=Lib.hid (Blk.new W6 TR #[.int .i64 v1,.int .u64 v2,.int .u64 v3,.int .u64 v4,.int .i64 v5,.int .i64 v6,.slice none 0 0,.slice none 0 0]);have H6a:=Lib.hid (H6.out.up ((Gr.refl W6).alloc (Nat.le_refl _) (.cells #[.int .i64 v1,.int .u64 v2,.int .u64 v3,.int .u64 v4,.int .i64 v5,.int .i64 v6,.slice none 0 0,.slice none 0 0] TR)));clear H6;refine (HX.out 34 1 35 _ H6a.out (by omega) (by omega) (by omega) (by omega)).mono ?_;rintro e y7 ⟨rfl,rfl⟩;rw [show atR xs ((34:Nat):Int) 1=v7 from E7.out.symm];have HR7:=Lib.hid (HR6.out.far (p:=⟨w.heap.size+1+1,0,none⟩) (by show W6.heap.size≠w.heap.size+1+1;have:=S6.out;omega) (.int .i64 35));have H7:=Lib.hid (H6a.out.set 35);clear HR6 H6a
 generalize (W6.alloc (.cells #[.int .i64 v1,.int .u64 v2,.int .u64 v3,.int .u64 v4,.int .i64 v5,.int .i64 v6,.slice none 0 0,.slice none 0 0] TR)).setCell ⟨w.heap.size+1+1,0,none⟩ (.int .i64 35)=W7 at HR7 H7 ⊢
 have HWW:Hid (w.heap.size≤W7.heap.size):=Lib.hid H7.out.gr.size;obtain ⟨R,hR⟩:∃ R,R=W6.heap.size:=⟨_,rfl⟩;have SR:Hid (w.heap.size+1+1 < R):=Lib.hid (by have:=S6.out;omega)
 rw [← hR] at HR7 ⊢
 clear hR S6;obtain ⟨c0,c1,c2,c3,c4,c5,c6,c7⟩:=HR7.out.c8;go_wp2_with fail;refine (befores_any _ _ _).mono ?_;rintro e y8 ⟨rfl,rfl⟩;rw [← HNB.out];clear c0 c1 c2 c3 c4 c5 c6 c7;go_wp2_with fail;refine (HL.out 35 nbf (min 35 n) (min (min 35 n+nbf) n) _ H7.out rfl rfl (by omega) (by omega)).mono ?_;rintro e W8 ⟨q,m,d,rfl,hy8,h8,ho⟩;have hf:=hy8.far;have hy:=hy8;clear hy8;have HY8:=Lib.hid hy;have H8:=Lib.hid h8;have HR8:=Lib.hid (ho.blk HR7.out (by have:=SR.out;omega));have HF8:=Lib.hid (fun y hy2=>Nat.lt_of_lt_of_le HR7.out.lt (hf y hy2));clear hy h8 ho hf HR7 H7;obtain ⟨c0,c1,c2,c3,c4,c5,c6,c7⟩:=HR8.out.c8;obtain ⟨q0,q1,q2,q3,q4,q5,q6,q7⟩:=HR8.out.f8;go_wp2_with fail;have HR9:=Lib.hid (HR8.out.set 6 (.slice q m d));have H9:=Lib.hid (H8.out.put R 6 (.slice q m d) SR.out);have HY9:Hid (OwnB (W8.setCell ⟨R,6,none⟩ (.slice q m d)) W7.heap.size 5 (.slice q m d) ((xs.drop 35).take nbf)):=Lib.hid (HY8.out.oth (f:=R) ⟨Nat.le_of_eq (sz_set _ _ _).symm,fun g h1 h2=>heap_setCell_other W8 ⟨R,6,none⟩ g _ h2⟩ (fun y hy=>Nat.ne_of_gt (HF8.out y hy)));have HW7:Hid (w.heap.size≤W7.heap.size):=Lib.hid HWW.out;clear c0 c1 c2 c3 c4 c5 c6 c7 q0 q1 q2 q3 q4 q5 q6 q7 HR8 H8 HY8
 generalize W8.setCell ⟨R,6,none⟩ (.slice q m d)=W9 at HR9 H9 HY9 ⊢
 obtain ⟨E,hE⟩:∃ E,E=min (min 35 n+nbf) n:=⟨_,rfl⟩
 rw [← hE] at H9
 have hE1:E≤1000:=by omega
 have HEE:Hid (xs.drop E=xs.drop (35+nbf)):=Lib.hid (by
  have l:=lx.out
  by_cases h:35+nbf≤n
  · rw [hE];congr 1;omega
  · rw [List.drop_of_length_le (by omega),List.drop_of_length_le (by omega)])
 clear hE;have hl2:=HL.out E v7 (min E n) (min (min E n+v7) n) _ H9.out rfl rfl hE1 (by omega)
 rw [HEE.out] at hl2
 have HL2:=Lib.hid hl2;clear hl2;refine HL2.out.mono ?_;rintro e W10 ⟨q2,m2,d2,rfl,hy,h10,ho⟩;have hf:=hy.far;have HY10:=Lib.hid hy;have H10:=Lib.hid h10;have HR10:=Lib.hid (ho.blk HR9.out (by have:=SR.out;omega));have HX10:=Lib.hid (HY9.out.oth ho (fun y hy2=>Nat.ne_of_gt (Nat.lt_trans SR.out (HF8.out y hy2))));have HF10:=Lib.hid (fun y hy2=>Nat.lt_of_lt_of_le HR9.out.lt (hf y hy2));have HW9:Hid (w.heap.size≤W9.heap.size):=Lib.hid (by have:=SR.out;have:=HR9.out.lt;omega);clear hy h10 ho hf HR9 H9 HY9 HL2;obtain ⟨c0,c1,c2,c3,c4,c5,c6,c7⟩:=HR10.out.c8;obtain ⟨q0,q1,q2',q3,q4,q5,q6,q7⟩:=HR10.out.f8;have hz:=H10.out.z.c8;obtain ⟨z0,z1,z2,z3,z4,z5,z6,z7⟩:=hz;obtain ⟨f0,f1,f2,f3,f4,f5,f6,f7⟩:=H10.out.z.f8
 have hne:w.heap.size+1≠R:=by have:=SR.out;omega
 have hne2:R≠w.heap.size+1:=by have:=SR.out;omega
 go_wp2_with fail;have hW9:=HW9.out
 have hR0:w.heap.size≤R:=by have:=SR.out;omega
 have F8:=HF8.out;have F10:=HF10.out
 have bR:∀ y,q=some y→w.heap.size+1 < y.block:=fun y hy=>Nat.lt_trans (by have:=SR.out;omega) (F8 y hy)
 have bR2:∀ y,q2=some y→w.heap.size+1 < y.block:=fun y hy=>Nat.lt_trans (by have:=SR.out;omega) (F10 y hy)
 exact bodyPost_ret (results_rec rfl _ _ (w.heap.size+1) #[.int .i64 v1,.int .u64 v2,.int .u64 v3,.int .u64 v4,.int .i64 v5,.int .i64 v6,.slice q m d,.slice q2 m2 d2] rfl rfl (((((((((H10.out.z.far hne _).set 0 _).set 1 _).set 2 _).set 3 _).set 4 _).set 5 _).set 6 _).set 7 _)) rfl
  ⟨q,m,d,q2,m2,d2,rfl,(HX10.out.base_le (B':=w.heap.size) HW7.out).oth ((Oth.refl R _).seti 7 _) (fun y hy=>Nat.ne_of_gt (F8 y hy)) |>.oth (Oth.set8 _ _ _ _ _ _ _ _ _) (fun y hy=>Nat.ne_of_gt (bR y hy)),(HY10.out.base_le (B':=w.heap.size) hW9).oth ((Oth.refl R _).seti 7 _) (fun y hy=>Nat.ne_of_gt (F10 y hy)) |>.oth (Oth.set8 _ _ _ _ _ _ _ _ _) (fun y hy=>Nat.ne_of_gt (bR2 y hy)),below_set8 (H10.out.gr.setCell hR0 _) (by omega)⟩
def RetOfO (c:Rc) (n:Nat) (er:Value) (w:World) (e:Ending) (w':World):Prop:=
 ∃ pb nb cb pa na ca,e=.returned (.tuple #[.agg #[.int .i64 c.k,.int .u64 c.t,.int .u64 c.p,.int .u64 c.x,.int .i64 c.g,.int .i64 c.o,.slice pb nb cb,.slice pa na ca],.int .i64 n,er])∧OwnB w' w.heap.size 5 (.slice pb nb cb) c.b∧OwnB w' w.heap.size 5 (.slice pa na ca) c.a∧Gr w w'
set_option maxRecDepth 100000 in
set_option maxHeartbeats 4000000 in
theorem of_own (p:Option Addr) (n c:Nat) (xs:List Int) (at':Nat) (w:World) (hb:Byt w p n c xs) (hat:at'≤18446744073709551615):Calls Tryz.prog 103 #[.slice p n c,.int .u64 at'] w (RetOfO (ofR xs at') (ofN xs at') (.int .i64 (ofE xs at')) w):=by
 have HZ:=Lib.hid (zeros_rec w);have HG:=Lib.hid ((Gr.refl w).alloc (Nat.le_refl _) (.cells #[.int .i64 0,.int .u64 0,.int .u64 0,.int .u64 0,.int .i64 0,.int .i64 0,.slice none 0 0,.slice none 0 0] TR));have HRD:=Lib.hid (read_own p n c xs _ (hb.kept HG.out));have HIN:=Lib.hid (cand_in xs hb.small);have HBY:=Lib.hid (hb.kept HG.out)
 have HN0:Hid (ofB xs at'=false→ofR xs at'=Rc.nil∧ofN xs at'=0∧ofE xs at'=4):=Lib.hid fun h=>by simp [ofR,ofN,ofE,h]
 have HY0:Hid (ofB xs at'=true→ofR xs at'=cand xs∧ofN xs at'=(recL (cand xs) at').length∧ofE xs at'=0):=Lib.hid fun h=>by simp [ofR,ofN,ofE,h]
 have HOB:Hid (ofB xs at'=(mayR (cand xs) && preB xs (recL (cand xs) at'))):=Lib.hid rfl;have HBB:=Lib.hid (fun pb nb cb pa na ca W h1 h2=>bytes_any (cand xs) pb nb cb pa na ca at' W HIN.out h1 h2 hat);obtain ⟨C,hC⟩:∃ C,C=cand xs:=⟨_,rfl⟩
 rw [← hC] at HRD HIN HY0 HOB HBB
 clear hC hb hat;obtain ⟨k,t,pp,x,g,o,b,a⟩:=C
 simp only at HRD HBB
 go_enter Tryz.func103,Tryz.ntmps103
 go_wp2_with fail;refine HRD.out.mono ?_;rintro e w1 ⟨pb,nb,cb,pa,na,ca,rfl,ho1,ho2,g1⟩;have y1:=ho1.byt.1;have f1:=ho1.far;have HO1:=Lib.hid (ho1.alloc (.cells #[.int .i64 k,.int .u64 t,.int .u64 pp,.int .u64 x,.int .i64 g,.int .i64 o,.slice pb nb cb,.slice pa na ca] TR));have y2:=ho2.byt.1;have f2:=ho2.far;have HO2:=Lib.hid (ho2.alloc (.cells #[.int .i64 k,.int .u64 t,.int .u64 pp,.int .u64 x,.int .i64 g,.int .i64 o,.slice pb nb cb,.slice pa na ca] TR));clear ho1 ho2;have HB1:=Lib.hid (Blk.new w1 TR #[.int .i64 k,.int .u64 t,.int .u64 pp,.int .u64 x,.int .i64 g,.int .i64 o,.slice pb nb cb,.slice pa na ca]);have HA1:=Lib.hid ((Gr.refl w1).alloc (Nat.le_refl _) (.cells #[.int .i64 k,.int .u64 t,.int .u64 pp,.int .u64 x,.int .i64 g,.int .i64 o,.slice pb nb cb,.slice pa na ca] TR));have HG1:=Lib.hid (Below.trans HG.out (g1.mono HG.out.size));have HZ1:=Lib.hid (HZ.out.below g1 HZ.out.lt);have HBY1:=Lib.hid ((HBY.out.kept g1).kept HA1.out);have HY1:=Lib.hid (y1.kept HA1.out);have HY2:=Lib.hid (y2.kept HA1.out)
 have HF2:Hid (∀ y,pa=some y→w.heap.size < y.block):=Lib.hid fun y h=>by have:=f2 y h;rw [World.size_alloc] at this;omega
 have HF1:Hid (∀ y,pb=some y→w.heap.size < y.block):=Lib.hid fun y h=>by have:=f1 y h;rw [World.size_alloc] at this;omega
 have HS1:=Lib.hid (lt_of_new g1);clear y1 y2 g1 f1 f2 HRD HG HZ HBY;obtain ⟨c0,c1,c2,c3,c4,c5,c6,c7⟩:=HB1.out.c8;go_wp2_with fail;refine (HBB.out pb nb cb pa na ca _ HY1.out HY2.out).mono ?_;rintro e w2 ⟨q,m,d,rfl,hy,g2,_⟩;have HB2:=Lib.hid (HB1.out.below g2 HB1.out.lt);have HG2:Hid (Gr w w2):=Lib.hid (Below.trans HG1.out ((Below.trans HA1.out (g2.mono HA1.out.size)).mono HG1.out.size));have HZ2:=Lib.hid ((HZ1.out.below HA1.out HZ1.out.lt).below g2 (HZ1.out.alloc _).lt);have HBY2:=Lib.hid (HBY1.out.kept g2);have HX1:=Lib.hid ((HO1.out.below' g2).base_le (B':=w.heap.size) (by rw [World.size_alloc];exact Nat.le_succ _));have HX2:=Lib.hid ((HO2.out.below' g2).base_le (B':=w.heap.size) (by rw [World.size_alloc];exact Nat.le_succ _));have HYB:=Lib.hid hy;clear hy g2 HBY1 HY1 HY2 HB1 HZ1 HA1 HG1 c0 c1 c2 c3 c4 c5 c6 c7 HBB;obtain ⟨c0,c1,c2,c3,c4,c5,c6,c7⟩:=HB2.out.c8;obtain ⟨z0,z1,z2,z3,z4,z5,z6,z7⟩:=HZ2.out.c8;obtain ⟨f0,f1,f2,f3,f4,f5,f6,f7⟩:=HZ2.out.f8
 cases hm:mayR ⟨k,t,pp,x,g,o,b,a⟩
 · have HE:Hid (bytesE ⟨k,t,pp,x,g,o,b,a⟩=2):=Lib.hid (by simp [bytesE,hm]);have HOK:Hid (ofB xs at'=false):=Lib.hid (by rw [HOB.out,hm];rfl);have hn:=HN0.out HOK.out;have HNO:Hid (∀ e w',RetOfO Rc.nil 0 (.int .i64 4) w e w'→RetOfO (ofR xs at') (ofN xs at') (.int .i64 (ofE xs at')) w e w'):=Lib.hid (fun e w' h=>by rw [hn.1,hn.2.1,hn.2.2];exact h);rw [HE.out];clear hm hn HE HOK HN0 HY0 HOB;go_wp2_with fail;exact bodyPost_ret (results_rec3 rfl _ _ w.heap.size #[.int .i64 0,.int .u64 0,.int .u64 0,.int .u64 0,.int .i64 0,.int .i64 0,.slice none 0 0,.slice none 0 0] _ _ rfl rfl rfl rfl ((((((((HZ2.out.set 0 _).set 1 _).set 2 _).set 3 _).set 4 _).set 5 _).set 6 _).set 7 _)) rfl (HNO.out _ _ ⟨none,0,0,none,0,0,rfl,OwnB.nil _ _ _,OwnB.nil _ _ _,below_set8 HG2.out (Nat.le_refl _)⟩)
 ·
  have HE:Hid (bytesE ⟨k,t,pp,x,g,o,b,a⟩=0∧bytesL ⟨k,t,pp,x,g,o,b,a⟩ at'=recL ⟨k,t,pp,x,g,o,b,a⟩ at'):=Lib.hid (by simp [bytesE,bytesL,hm])
  rw [HE.out.2] at HYB
  rw [HE.out.1];have HP:=Lib.hid (hasPrefix_any _ _ _ _ _ _ _ _ w2 HBY2.out HYB.out)
  cases hp:preB xs (recL ⟨k,t,pp,x,g,o,b,a⟩ at')
  ·
   rw [hp] at HP
   have HOK:Hid (ofB xs at'=false):=Lib.hid (by rw [HOB.out,hp,Bool.and_false]);have hn:=HN0.out HOK.out;have HNO:Hid (∀ e w',RetOfO Rc.nil 0 (.int .i64 4) w e w'→RetOfO (ofR xs at') (ofN xs at') (.int .i64 (ofE xs at')) w e w'):=Lib.hid (fun e w' h=>by rw [hn.1,hn.2.1,hn.2.2];exact h);clear hm hp hn HE HOK HN0 HY0 HOB;go_wp2_with fail;refine HP.out.mono ?_;rintro e w' ⟨rfl,rfl⟩;go_wp2_with fail;exact bodyPost_ret (results_rec3 rfl _ _ w.heap.size #[.int .i64 0,.int .u64 0,.int .u64 0,.int .u64 0,.int .i64 0,.int .i64 0,.slice none 0 0,.slice none 0 0] _ _ rfl rfl rfl rfl ((((((((HZ2.out.set 0 _).set 1 _).set 2 _).set 3 _).set 4 _).set 5 _).set 6 _).set 7 _)) rfl (HNO.out _ _ ⟨none,0,0,none,0,0,rfl,OwnB.nil _ _ _,OwnB.nil _ _ _,below_set8 HG2.out (Nat.le_refl _)⟩)
  ·
   rw [hp] at HP
   have HOK:Hid (ofB xs at'=true):=Lib.hid (by rw [HOB.out,hp,hm];rfl);have hn:=HY0.out HOK.out;have hln:=HYB.out.len;have HYES:Hid (∀ e w',RetOfO ⟨k,t,pp,x,g,o,b,a⟩ m (.int .i64 0) w e w'→RetOfO (ofR xs at') (ofN xs at') (.int .i64 (ofE xs at')) w e w'):=Lib.hid (fun e w' h=>by rw [hn.1,hn.2.1,hn.2.2,hln];exact h);clear hm hp hn HE HOK HN0 HY0 HOB hln;go_wp2_with fail;refine HP.out.mono ?_;rintro e w' ⟨rfl,rfl⟩;go_wp2_with fail;exact bodyPost_ret (results_rec3 rfl _ _ w.heap.size #[.int .i64 k,.int .u64 t,.int .u64 pp,.int .u64 x,.int .i64 g,.int .i64 o,.slice pb nb cb,.slice pa na ca] _ _ rfl rfl rfl rfl ((((((((HZ2.out.set 0 _).set 1 _).set 2 _).set 3 _).set 4 _).set 5 _).set 6 _).set 7 _)) rfl (HYES.out _ _ ⟨pb,nb,cb,pa,na,ca,rfl,HX1.out.oth (Oth.set8 _ _ _ _ _ _ _ _ _) (fun y hy=>Nat.ne_of_gt (HF1.out y hy)),HX2.out.oth (Oth.set8 _ _ _ _ _ _ _ _ _) (fun y hy=>Nat.ne_of_gt (HF2.out y hy)),below_set8 HG2.out (Nat.le_refl _)⟩)
end Go.Proofs.YtdmhemgepdknhaaGreat
namespace Go.Proofs.YtdmhemgepdknhaaGreat
open Cr
def onW (a n:Nat):Nat:=(a+n) % 18446744073709551616
theorem onW_le (a n:Nat):onW a n≤18446744073709551615:=by unfold onW;omega
theorem onW_of {a n:Nat} (h:a+n≤18446744073709551615):onW a n=a+n:=by unfold onW;omega
def allF:Nat→List Int→Nat→List (Nat × Rc)
 | 0,_,_=>[]
 | k+1,xs,a=>if ofB xs a then (onW a (ofN xs a),ofR xs a) :: allF k (xs.drop (ofN xs a)) (onW a (ofN xs a)) else []
def allL (xs:List Int) (a:Nat):List (Nat × Rc):=allF xs.length xs a
theorem ofN_yes {xs:List Int} {a:Nat} (h:ofB xs a=true):35≤ofN xs a∧ofN xs a≤xs.length:=by
 have h1:ofN xs a=(recL (cand xs) a).length:=by simp [ofN,h]
 unfold ofB at h
 rw [Bool.and_eq_true] at h
 have h2:=congrArg List.length (preB_iff.1 h.2)
 rw [List.length_take] at h2
 have h3:=recL_len (cand xs) a
 omega
theorem ofB_short {xs:List Int} {a:Nat} (h:xs.length < 35):ofB xs a=false:=by
 cases h2:ofB xs a
 · rfl
 ·
  have:=ofN_yes h2
  omega
theorem ofN_small {xs:List Int} {a:Nat} (h:ofB xs a=true):ofN xs a≤531:=by
 have h1:ofN xs a=(recL (cand xs) a).length:=by simp [ofN,h]
 unfold ofB at h
 rw [Bool.and_eq_true] at h
 have f:=mayR_fits h.1;have f1:=f.na;have f2:=f.nb1;rw [h1,recL_len]
 omega
theorem allF_nil {k:Nat} {xs:List Int} {a:Nat} (h:ofB xs a=false):allF k xs a=[]:=by cases k <;> simp [allF,h]
theorem allF_more:∀ (k j:Nat) (xs:List Int) (a:Nat),xs.length≤k→xs.length≤j→allF k xs a=allF j xs a
 | 0,j,xs,a,h,_=>by
  have h0:ofB xs a=false:=ofB_short (by omega);rw [allF_nil h0,allF_nil h0]
 | k+1,0,xs,a,_,h=>by
  have h0:ofB xs a=false:=ofB_short (by omega);rw [allF_nil h0,allF_nil h0]
 | k+1,j+1,xs,a,h,h'=>by
  cases hb:ofB xs a
  · rw [allF_nil hb,allF_nil hb]
  ·
   have hn:=ofN_yes hb
   simp only [allF,hb,if_true]
   rw [allF_more k j _ _ (by rw [List.length_drop];omega) (by rw [List.length_drop];omega)]
theorem allL_no {xs:List Int} {a:Nat} (h:ofB xs a=false):allL xs a=[]:=allF_nil h
theorem allL_yes {xs:List Int} {a:Nat} (h:ofB xs a=true):allL xs a=(onW a (ofN xs a),ofR xs a) :: allL (xs.drop (ofN xs a)) (onW a (ofN xs a)):=by
 have hn:=ofN_yes h;have h1:allL xs a=allF (xs.length+1) xs a:=allF_more _ _ _ _ (Nat.le_refl _) (by omega);rw [h1]
 simp only [allF,h,if_true]
 rw [allL]
 congr 1
 exact allF_more _ _ _ _ (by rw [List.length_drop];omega) (Nat.le_refl _)
theorem allL_len:∀ (k:Nat) (xs:List Int) (a:Nat),xs.length≤k→35*(allL xs a).length≤xs.length
 | 0,xs,a,h=>by rw [allL_no (ofB_short (by omega))];simp
 | k+1,xs,a,h=>by
  cases hb:ofB xs a
  · rw [allL_no hb];simp
  ·
   have hn:=ofN_yes hb;rw [allL_yes hb,List.length_cons];have:=allL_len k (xs.drop (ofN xs a)) (onW a (ofN xs a)) (by rw [List.length_drop];omega)
   rw [List.length_drop] at this
   omega
theorem ofR_in {xs:List Int} (hx:Wd.Small xs) (a:Nat):(ofR xs a).In:=by
 unfold ofR
 split
 · exact cand_in xs hx
 · exact ⟨by decide,by decide,by decide,(fun _ h=>by cases h),fun _ h=>by cases h⟩
end Go.Proofs.YtdmhemgepdknhaaGreat
namespace Go.Proofs.YtdmhemgepdknhaaGreat
open Go.RowKit
def firm (o:Obj):Bool:=o.isCells || o.isWalk
structure HoldS (κ:Obj→Bool) (Ks:Nat→Prop) (W W':World):Prop where
 size:W.heap.size≤W'.heap.size
 same:∀ k o,Ks k→W.heap[k]?=some o→κ o=true→W'.heap[k]?=some o
theorem HoldS.refl (κ:Obj→Bool) (Ks:Nat→Prop) (W:World):HoldS κ Ks W W:=⟨Nat.le_refl _,fun _ _ _ h _=>h⟩
theorem HoldS.trans {κ:Obj→Bool} {Ks:Nat→Prop} {X Y Z:World} (h:HoldS κ Ks X Y) (k:HoldS κ Ks Y Z):HoldS κ Ks X Z:=⟨Nat.le_trans h.size k.size,fun i o hi h1 hc=>k.same i o hi (h.same i o hi h1 hc) hc⟩
theorem HoldS.put {κ:Obj→Bool} {Ks:Nat→Prop} (W:World) (l:Nat) (o o':Obj) (h:W.heap[l]?=some o) (hc:κ o=false):HoldS κ Ks W (W.putObj l o'):=⟨by simp,fun k u _ hk hu=>by
 by_cases e:k=l
 · subst e;rw [h] at hk;cases hk;rw [hc] at hu;cases hu
 · exact (World.putObj_heap_other e).trans hk⟩
def SeqTold {α:Type} (F:Fence) (n:Nat) (P:Program) (g:Nat) (lb:Array Value) (encs:α→Array Value) (G:List α→α→World→Prop) (Ks:Nat→Prop) (S Sp:List α→Prop) (w:World):Prop:=
 ∀ (l:Nat) (J Jx:List α→World→Prop) (W:World),Below w.heap.size w W→OwnFrom W.heap.size J→OwnFrom W.heap.size Jx →
  (∀ pre x V,J pre V→G pre x V→YieldAt F (n - 1) P l (encs x) V fun e V'=>(e=.returned (.bool true)∧J (pre++[x]) V'∧HoldS firm Ks V V')∨(e=.returned (.bool false)∧Jx (pre++[x]) V')) →
  J [] W→CallsIn F n P g (#[.func (.yield l) #[] #[]]++lb) W fun e V=>(∃ v,e=.returned v)∧((∃ xs,S xs∧J xs V)∨∃ pre,Sp pre∧Jx pre V)
def toldPost {α:Type} (B:Nat) (Ks:Nat→Prop) (I Ir:List α→World→Prop) (xs:List α) (W:World):Exit→Act→World→Prop
 | .normal,_,V=>KeepsFrom B W V∧HoldS firm Ks W V∧I xs V
 | .ret,_,V=>KeepsFrom B W V∧Ir xs V
 | _,_,_=>False
variable {F:Fence} {n:Nat} {P:Program} {w:World}
end Go.Proofs.YtdmhemgepdknhaaGreat
