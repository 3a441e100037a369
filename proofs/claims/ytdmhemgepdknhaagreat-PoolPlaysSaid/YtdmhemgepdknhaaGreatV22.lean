/-
  Texts, put together: Pool13 Pool14 FlowF InV.
-/
import Derived.Test.YtdmhemgepdknhaaGreatV1
import Derived.Test.YtdmhemgepdknhaaGreatV8
import Derived.Test.YtdmhemgepdknhaaGreatV15
import Derived.Test.YtdmhemgepdknhaaGreatV21
set_option linter.unusedVariables false
set_option linter.unusedSimpArgs false
namespace Go.Proofs.YtdmhemgepdknhaaGreat
open Go.RowKit Go.Maps
theorem built_pl (pd pl:Value) (n:Int) (x:Bool) (m:Nat) (hd:pd.cells=#[pd]) (hl:pl.cells=#[pl]):Tryz.prog.built TPl [(0,pd),(1,pl),(2,.int .i64 n),(3,.bool x),(4,.map (some m)),(5,.int .i64 (-1))]=some #[pd,pl,.int .i64 n,.bool x,.map (some m),.int .i64 (-1)]:=by
 have hz0:(Tryz.prog.info? TPl).map (·.zero)=some (some (.agg #[.pointer none,.pointer none,.int .i64 0,.bool false,.map none,.int .i64 0])):=by kernel_rfl
 obtain ⟨it,hit,hz⟩:∃ it,Tryz.prog.info? TPl=some it∧it.zero=some (.agg #[.pointer none,.pointer none,.int .i64 0,.bool false,.map none,.int .i64 0]):=by
  cases h:Tryz.prog.info? TPl with
  | none=>rw [h] at hz0;cases hz0
  | some it=>rw [h] at hz0;exact ⟨it,rfl,Option.some.inj hz0⟩
 obtain ⟨fs,hfs,hm⟩:∃ fs:Array Field,Tryz.prog.underlying TPl=some (.struct fs)∧fs.toList.mapM (fun f=>(Tryz.prog.info? f.type).map fun i=>(f.offset,i.size))=some [(0,1),(1,1),(2,1),(3,1),(4,1),(5,1)]:=⟨_,Tryz.underlying80,by kernel_rfl⟩
 unfold Program.built
 rw [hit,hfs]
 simp only [hz]
 rw [hm]
 simp [Instr.fill,hd,hl]
 simp [Value.cells]
theorem wpList_build_pl {ops:Array Oper} {rest:List Oper} {o:Oper} {a:Act} {w:World} {Q:Exit→Act→World→Prop} (hg:o.guard=none) (x0 x1 x2 x3 x4 x5:Operand) (ho:o.op=.build TPl #[(0,x0),(1,x1),(2,x2),(3,x3),(4,x4),(5,x5)])
  {pd pl:Value} {n:Int} {x:Bool} {m:Nat} (hd:pd.cells=#[pd]) (hl:pl.cells=#[pl]) (h0:a.eval x0=pd) (h1:a.eval x1=pl) (h2:a.eval x2=.int .i64 n) (h3:a.eval x3=.bool x) (h4:a.eval x4=.map (some m)) (h5:a.eval x5=.int .i64 (-1))
  (h:wpList Tryz.prog ops Q rest (a.put o.dst (.agg #[pd,pl,.int .i64 n,.bool x,.map (some m),.int .i64 (-1)])) w):wpList Tryz.prog ops Q (o :: rest) a w:=by
 have hb:Tryz.prog.built TPl ((#[(0,x0),(1,x1),(2,x2),(3,x3),(4,x4),(5,x5)]:Array (Nat × Operand)).map fun (i,x)=>(i,a.eval x)).toList=some #[pd,pl,.int .i64 n,.bool x,.map (some m),.int .i64 (-1)]:=by
  simp only [List.map_toArray,List.map_cons,List.map_nil,h0,h1,h2,h3,h4,h5]
  exact built_pl pd pl n x m hd hl
 exact wpList_build hg TPl _ ho (by rw [hb];rfl) (by rw [hb];exact h)
theorem Fm.made (w w':World) (h:w'.heap[w.heap.size]?=(w.alloc (.map #[] 0)).heap[w.heap.size]?):Fm w' w.heap.size 0 (fun _=>none):=by
 have h1:=World.ownsMap_made w Tryz.prog TI eltR;exact ⟨.map [],ownsMap_stays h1 h,fun i _=>rfl,fun i _=>⟨(fun h=>by cases h),fun h=>absurd rfl h⟩,fun k h=>by cases h⟩
section
variable {w:World} {F:Nat→Prop} {s:St}
set_option maxRecDepth 100000 in
set_option maxHeartbeats 1000000 in
theorem NewP_any {d l:Nat} (n:Int) (x:Bool) (hF:∀ W,Gr w W→Calls Tryz.prog 67 #[.pointer (some ⟨l,0,none⟩),.int .u64 0] W fun e w'=>e=.returned (.int .i64 0)∧Gr W w')
  (hd:Dk w F (.pointer (some ⟨d,0,none⟩)) s) (hs:0 < s.ls.length) (h1:8≤n) (h2:n≤4096) :
  Calls Tryz.prog 38 #[.pointer (some ⟨d,0,none⟩),.pointer (some ⟨l,0,none⟩),.int .i64 n,.bool x] w fun e w'=>∃ b m,e=.returned (.tuple #[.pointer (some ⟨b,0,none⟩),.int .i64 0]) ∧
   PlAt w' b (.pointer (some ⟨d,0,none⟩)) (.pointer (some ⟨l,0,none⟩)) m 0 (fun _=>none) ⟨n,x,-1,fun _=>none⟩∧w.heap.size≤b∧w.heap.size≤m∧Gr w w':=by
 have HF:=Lib.hid hF;have HS:=Lib.hid (fun W (g:Gr w W)=>Sectors_any W (hd.gr g));have e1:decide (n < 8)=false:=decide_eq_false (by omega);have e2:decide ((4096:Int) < n)=false:=decide_eq_false (by omega);have e3:((s.ls.length:Int) == 0)=false:=beq_eq_false_iff_ne.2 (by omega);obtain ⟨N,hN⟩:∃ N,N=s.ls.length:=⟨_,rfl⟩
 rw [← hN] at HS e3
 have hbl:=fun m=>built_pl (.pointer (some ⟨d,0,none⟩)) (.pointer (some ⟨l,0,none⟩)) n x m rfl rfl
 have hmm:=@run_makeMap Tryz.prog;clear hF hd hs hN
 go_enter Tryz.func38,Tryz.ntmps38
 go_wp2_with fail;refine (HF.out _ (Gr.refl _)).mono ?_;rintro e w1 ⟨rfl,g1⟩;have HG:=Lib.hid g1;clear g1;go_wp2_with fail;refine (HS.out _ HG.out).mono ?_;rintro e w2 ⟨rfl,rfl⟩
 go_wp2_with (refine wpList_build_pl rfl (.tmp 28) (.tmp 29) (.tmp 30) (.tmp 31) (.tmp 32) (.const (.int .i64 (-1))) rfl (pd:=.pointer (some ⟨d,0,none⟩)) (pl:=.pointer (some ⟨l,0,none⟩)) rfl rfl rfl rfl rfl rfl rfl rfl ?_)
 go_ret2
 have hb:=Blk.new (w1.alloc (.map #[] 0)) TPl #[.pointer (some ⟨d,0,none⟩),.pointer (some ⟨l,0,none⟩),.int .i64 n,.bool x,.map (some w1.heap.size),.int .i64 (-1)]
 rw [World.size_alloc] at hb
 have g1:Gr w1 (w1.alloc (.map #[] 0)):=Gr.new _ _;have g2:=Gr.new (w1.alloc (.map #[] 0)) (.cells #[.pointer (some ⟨d,0,none⟩),.pointer (some ⟨l,0,none⟩),.int .i64 n,.bool x,.map (some w1.heap.size),.int .i64 (-1)] TPl);have g0:=HG.out.size;refine ⟨w1.heap.size+1,w1.heap.size,rfl,⟨hb,Fm.made w1 _ (g2.block _ (by rw [World.size_alloc];omega)),Nat.zero_le _,fun i=>⟨fun _=>rfl,fun _=>rfl⟩,fun i c h=>by (cases h),fun i j c h=>by (cases h),⟨d,rfl⟩,⟨l,rfl⟩⟩,by omega,by omega,Gr.trans HG.out (Gr.trans g1 g2)⟩
end
end Go.Proofs.YtdmhemgepdknhaaGreat
namespace Go.Proofs.YtdmhemgepdknhaaGreat
open Go.RowKit Go.Maps
theorem Fm.store {w:World} {m n:Nat} {B:Nat→Option Nat} (h:Fm w m n B) (hn:n < maxLen) (i:Nat) (hi:i < 65536) (c:Nat) :
  ∃ w',(Instr.mapUpdate TPm (.map (some m)) (.int .i64 (i:Int)) (.pointer (some ⟨c,0,none⟩))).run Tryz.prog w=.ok () w'∧Fm w' m (n+1) (fun j=>if j=i then some c else B j)∧w.grownBy w' (some m):=by
 obtain ⟨D,ho,hat,hhas,hkeys⟩:=h
 obtain ⟨w',hrun,ho2,ht⟩:=ho.store (t:=TPm) (e:=87) (int_keyed Tryz.underlying3) Tryz.underlying78 hn (key:=.int .i64 (i:Int)) (val:=.pointer (some ⟨c,0,none⟩)) (kl:=key i)
  (keyOf_int_mk Tryz.underlying3 (WalkArith.wf_i64 (by omega))) (d:=.held (.pointer (some ⟨c,0,none⟩))) (ps:=[]) rfl
 refine ⟨w',hrun,⟨_,ho2,fun j hj=>?_,fun j hj=>?_,fun k hk=>?_⟩,ht.grown⟩
 ·
  by_cases hji:j=i
  ·
   subst hji
   show _=DataW.held (ptrB (if j=j then some c else B j))
   rw [if_pos rfl];exact atKey_put_same ho.isMap (key_lit j) _ _
  ·
   show _=DataW.held (ptrB (if j=i then some c else B j))
   rw [if_neg hji,atKey_put_other (fun e=>hji (key_inj e))];exact hat j hj
 ·
  by_cases hji:j=i
  ·
   subst hji;refine ⟨fun _=>?_,fun _=>has_put_same ho.isMap (key_lit j) _⟩
   simp
  ·
   rw [has_put_other (fun e=>hji (key_inj e))]
   show _ ↔ (if j=i then some c else B j)≠none
   rw [if_neg hji];exact hhas j hj
 ·
  by_cases hki:k=key i
  · exact ⟨i,hi,hki⟩
  ·
   rw [has_put_other hki] at hk
   exact hkeys k hk
theorem Fm.drop {w:World} {m n:Nat} {B:Nat→Option Nat} (h:Fm w m n B) (i:Nat) (hi:i < 65536) (ty:TypeId) :
  ∃ w',(Builtin.delete_ #[TPm,TI] ty #[.map (some m),.int .i64 (i:Int)]).run Tryz.prog w=.ok (.tuple #[]) w'∧Fm w' m n (fun j=>if j=i then none else B j)∧w.grownBy w' (some m):=by
 obtain ⟨D,ho,hat,hhas,hkeys⟩:=h
 obtain ⟨w',hrun,ho2,ht⟩:=ho.drop (t:=TPm) (e:=87) (int_keyed Tryz.underlying3) Tryz.underlying78 (key:=.int .i64 (i:Int)) (kl:=key i)
  (keyOf_int_mk Tryz.underlying3 (WalkArith.wf_i64 (by omega))) ty
 refine ⟨w',hrun,⟨_,ho2,fun j hj=>?_,fun j hj=>?_,fun k hk=>?_⟩,ht.grown⟩
 ·
  by_cases hji:j=i
  ·
   subst hji
   show _=DataW.held (ptrB (if j=j then none else B j))
   rw [if_pos rfl];exact atKey_del_same _
  ·
   show _=DataW.held (ptrB (if j=i then none else B j))
   rw [if_neg hji,atKey_del_other (fun e=>hji (key_inj e))];exact hat j hj
 ·
  by_cases hji:j=i
  ·
   subst hji;rw [has_del_same]
   simp
  ·
   rw [has_del_other (fun e=>hji (key_inj e))]
   show _ ↔ (if j=i then none else B j)≠none
   rw [if_neg hji];exact hhas j hj
 ·
  by_cases hki:k=key i
  · exact ⟨i,hi,hki⟩
  ·
   rw [has_del_other hki] at hk
   exact hkeys k hk
def Pl.gone (P:Pl) (i:Nat):Pl:={ P with fr:=fun j=>if j=i then none else P.fr j }
section
variable {w w':World} {b m n:Nat} {pd pl:Value} {B:Nat→Option Nat} {P:Pl}
theorem PlAt.ne (h:PlAt w b pd pl m n B P):b≠m:=fun e=>by
 obtain ⟨D,⟨es,ck,h1,_⟩,_⟩:=h.map;have h2:=h.blk
 unfold Blk at h2
 rw [e,h1] at h2
 cases h2
theorem PlAt.add (h:PlAt w b pd pl m n B P) (hn:n < 1000000000) {i c:Nat} {f:PFr} (hb:Blk w c TFr f.cells) (hf:f.In) (hc:¬ plS b m B c) (hm:Fm w' m (n+1) (fun j=>if j=i then some c else B j)) (hg:w.grownBy w' (some m)) :
  PlAt w' b pd pl m (n+1) (fun j=>if j=i then some c else B j) (P.put i f):=by
 have ho:∀ k,k < w.heap.size→k≠m→w'.heap[k]?=w.heap[k]?:=fun k hk hkm=>hg.block k hk fun e=>hkm (by cases e;rfl)
 have hcm:c≠m:=fun e=>hc (.inr (.inl e))
 refine ⟨h.blk.stays (ho b h.blk.lt h.ne),hm,by omega,fun j=>?_,fun j d hj=>?_,fun j k d hj hk=>?_,h.dsk,h.lg⟩
 ·
  show (if j=i then some c else B j)=none ↔ (if j=i then some f else P.fr j)=none
  by_cases hj:j=i
  · simp [hj]
  · rw [if_neg hj,if_neg hj];exact h.has j
 ·
  have hj':(if j=i then some c else B j)=some d:=hj
  show ∃ g,(if j=i then some f else P.fr j)=some g∧_
  by_cases hji:j=i
  ·
   rw [if_pos hji] at hj' ⊢
   cases hj'
   exact ⟨f,rfl,hb.stays (ho c hb.lt hcm),hf⟩
  ·
   rw [if_neg hji] at hj' ⊢
   obtain ⟨g,k1,k2,k3⟩:=h.frs j d hj';exact ⟨g,k1,k2.stays (ho d k2.lt (h.apart hj').2),k3⟩
 ·
  have hj':(if j=i then some c else B j)=some d:=hj;have hk':(if k=i then some c else B k)=some d:=hk
  by_cases hji:j=i
  ·
   by_cases hki:k=i
   · rw [hji,hki]
   ·
    rw [if_pos hji] at hj'
    rw [if_neg hki] at hk'
    cases hj'
    exact absurd (.inr (.inr ⟨k,hk'⟩)) hc
  ·
   by_cases hki:k=i
   ·
    rw [if_neg hji] at hj'
    rw [if_pos hki] at hk'
    cases hk'
    exact absurd (.inr (.inr ⟨j,hj'⟩)) hc
   ·
    rw [if_neg hji] at hj'
    rw [if_neg hki] at hk'
    exact h.inj j k d hj' hk'
theorem PlAt.drop (h:PlAt w b pd pl m n B P) {i:Nat} (hm:Fm w' m n (fun j=>if j=i then none else B j)) (hg:w.grownBy w' (some m)) :
  PlAt w' b pd pl m n (fun j=>if j=i then none else B j) (P.gone i):=by
 have ho:∀ k,k < w.heap.size→k≠m→w'.heap[k]?=w.heap[k]?:=fun k hk hkm=>hg.block k hk fun e=>hkm (by cases e;rfl)
 refine ⟨h.blk.stays (ho b h.blk.lt h.ne),hm,h.most,fun j=>?_,fun j d hj=>?_,fun j k d hj hk=>?_,h.dsk,h.lg⟩
 ·
  show (if j=i then none else B j)=none ↔ (if j=i then none else P.fr j)=none
  by_cases hj:j=i
  · simp [hj]
  · rw [if_neg hj,if_neg hj];exact h.has j
 ·
  have hj':(if j=i then none else B j)=some d:=hj
  show ∃ g,(if j=i then none else P.fr j)=some g∧_
  by_cases hji:j=i
  ·
   rw [if_pos hji] at hj'
   cases hj'
  ·
   rw [if_neg hji] at hj' ⊢
   obtain ⟨g,k1,k2,k3⟩:=h.frs j d hj';exact ⟨g,k1,k2.stays (ho d k2.lt (h.apart hj').2),k3⟩
 ·
  have hj':(if j=i then none else B j)=some d:=hj;have hk':(if k=i then none else B k)=some d:=hk
  by_cases hji:j=i
  ·
   rw [if_pos hji] at hj'
   cases hj'
  ·
   by_cases hki:k=i
   ·
    rw [if_pos hki] at hk'
    cases hk'
   ·
    rw [if_neg hji] at hj'
    rw [if_neg hki] at hk'
    exact h.inj j k d hj' hk'
def Pl.use (P:Pl) (i:Nat) (f:PFr):Pl:=P.put i { f with used:=true }
set_option maxRecDepth 100000 in
set_option maxHeartbeats 1000000 in
theorem use_in (h:PlAt w b pd pl m n B P) {i c:Nat} {f:PFr} (hi:i < 65536) (hB:B i=some c) (hf:P.fr i=some f):Calls Tryz.prog 41 #[.pointer (some ⟨b,0,none⟩),.int .i64 (i:Int)] w fun e w'=>e=.returned (.tuple #[.pointer (some ⟨c,0,none⟩),.int .i64 0]) ∧
  PlAt w' b pd pl m n B (P.use i f)∧FrOnly B w w':=by
 have c4:=h.c6.2.2.2.2.1;have hl:=h.map.look i hi
 rw [hB] at hl
 have hl2:(Instr.lookup TPm (.map (some m)) (.int .i64 (i:Int)) false).run Tryz.prog w=.ok (.pointer (some ⟨c,0,none⟩)) w:=hl;obtain ⟨g,h1,h2,h3⟩:=h.frs i c hB
 rw [hf] at h1
 cases h1
 have k4:=(PFr.c4 h2).2.2.2;have f4:=h2.frozen 251
 have HT:Hid (PlAt (w.setCell ⟨c,251,none⟩ (.bool true)) b pd pl m n B (P.use i f)∧FrOnly B w (w.setCell ⟨c,251,none⟩ (.bool true))):=Lib.hid
  ⟨h.turn hB (h3.use true) (by rw [← PFr.setUsed];exact h2.set 251 (.bool true)) (fun j hj=>Below.heap_setCell w _ _ j hj),FrOnly.cell hB w _ _⟩
 clear h hl hB hf h2 h3
 go_enter Tryz.func41,Tryz.ntmps41
 go_wp2
 go_ret2
 exact ⟨rfl,HT.out.1,HT.out.2⟩
end
end Go.Proofs.YtdmhemgepdknhaaGreat
namespace Go.Proofs.YtdmhemgepdknhaaGreat
namespace Flow
open Go
section
variable {P:Program} {ops:Array Oper} {Q:Exit→Act→World→Prop} {md:Region.Mode}
def StepF (P:Program) (md:Region.Mode) (ops:Array Oper) (Q:Exit→Act→World→Prop) (Sl:Nat→Value→World→Prop) (Inv:(Nat→Bool)→Act→World→Prop) (G:World→World→Prop) (a0:Act) (fl i:Nat) (o:Oper):Prop:=
 ∀ (ℓ:Nat→Bool) a w,Same ops a0 a→ℓ i=false→(∀ j,j≠i→waits md ops i fl j=true→ℓ j=false)→(∀ j,j≠i→waits md ops j fl i=true→ℓ j=true)→Inv ℓ a w→(∀ d,(reads md ops o).contains d=true→Sl d (a.tmps.getD d undef) w) →
  ∀ K:Act→World→Prop,(∀ v w',G w w'→Inv (upd ℓ i) (a.put o.dst v) w'→(∀ d,o.dst=some d→Sl d v w')→K (a.put o.dst v) w') →
   if Region.wanted o (yielded ops a.tmps)=true then o.wp P a w K Q else K (a.put o.dst undef) w
def StepsF (P:Program) (md:Region.Mode) (ops:Array Oper) (Q:Exit→Act→World→Prop) (Sl:Nat→Value→World→Prop) (Inv:(Nat→Bool)→Act→World→Prop) (G:Nat→World→World→Prop) (a0:Act) (fl:Nat):Nat→List Oper→Prop
 | _,[]=>True
 | i,o :: r=>StepF P md ops Q Sl Inv (G i) a0 fl i o∧StepsF P md ops Q Sl Inv G a0 fl (i+1) r
theorem StepsF.cons {Sl:Nat→Value→World→Prop} {Inv:(Nat→Bool)→Act→World→Prop} {G:Nat→World→World→Prop} {a0:Act} {fl i:Nat} {o:Oper} {r:List Oper} (h:StepF P md ops Q Sl Inv (G i) a0 fl i o) (k:StepsF P md ops Q Sl Inv G a0 fl (i+1) r):StepsF P md ops Q Sl Inv G a0 fl i (o :: r):=⟨h,k⟩
theorem StepsF.at {Sl:Nat→Value→World→Prop} {Inv:(Nat→Bool)→Act→World→Prop} {G:Nat→World→World→Prop} {a0:Act} {fl:Nat}:∀ {l:List Oper} {i:Nat},StepsF P md ops Q Sl Inv G a0 fl i l→∀ (j:Nat) (o:Oper),l[j]?=some o→StepF P md ops Q Sl Inv (G (i+j)) a0 fl (i+j) o
 | [],_,_,_,_,h=>by simp at h
 | x :: r,i,h,0,o,ho=>by
  simp only [List.getElem?_cons_zero,Option.some.injEq] at ho
  subst ho;exact h.1
 | x :: r,i,h,j+1,o,ho=>by
  simp only [List.getElem?_cons_succ] at ho
  have:=StepsF.at h.2 j o ho
  rwa [show i+1+j=i+(j+1) by omega] at this
variable {Sl:Nat→Value→World→Prop} {Inv:(Nat→Bool)→Act→World→Prop} {G:Nat→World→World→Prop} {a0:Act}
theorem walkF (keep:List Nat) (fl:Nat) (hmono:∀ i d v w w',bears2 md ops keep fl i d=true→Sl d v w→G i w w'→Sl d v w') (hf:fineB md a0.tmps.size ops=true) (hs:∀ (i:Nat) (o:Oper),ops[i]?=some o→StepF P md ops Q Sl Inv (G i) a0 fl i o)
  (hfin:∀ a w ℓ,Same ops a0 a→(∀ i,i < ops.size→ℓ i=true)→Inv ℓ a w→(∀ (i:Nat) (o:Oper) d,ops[i]?=some o→o.dst=some d→d ∈ keep→Sl d (a.tmps.getD d undef) w)→Q .normal a w) :
  ∀ (fuel:Nat) (listed:Array Bool) (a:Act) (w:World),left listed ops.size≤fuel→listed.size=ops.size→Closed md ops listed→Same ops a0 a→Inv (fun j=>listed.getD j true) a w →
   (∀ (i:Nat) (o:Oper) d,ops[i]?=some o→listed.getD i true=true→o.dst=some d→(d ∈ keep∨∃ (j:Nat) (oj:Oper),ops[j]?=some oj∧listed.getD j true=false∧d ∈ reads md ops oj)→Sl d (a.tmps.getD d undef) w)→wpAny P md ops Q fuel listed a w:=by
 have ends:∀ (listed:Array Bool) (a:Act) (w:World),(∀ i,i < ops.size→listed.getD i true=true)→Same ops a0 a→Inv (fun j=>listed.getD j true) a w →
   (∀ (i:Nat) (o:Oper) d,ops[i]?=some o→listed.getD i true=true→o.dst=some d→(d ∈ keep∨∃ (j:Nat) (oj:Oper),ops[j]?=some oj∧listed.getD j true=false∧d ∈ reads md ops oj)→Sl d (a.tmps.getD d undef) w)→Q .normal a w:=fun listed a w hl hsame hinv hsl=>
  hfin a w _ hsame hl hinv fun i o d ho hd hk=>hsl i o d ho (hl i (Array.getElem?_eq_some_iff.1 ho).1) hd (.inl hk)
 have alls:∀ listed:Array Bool,listed.size=ops.size→Region.ready md ops listed=[]→∀ i,i < ops.size→listed.getD i true=true:=by
  intro listed hsz hr i
  induction i using Nat.strongRecOn with
  | _ i ih=>
   intro hi
   cases hg:listed.getD i true with
   | true=>rfl
   | false=>
    exfalso
    have:i ∈ Region.ready md ops listed:=mem_ready.2 ⟨hg,ops[i],Array.getElem?_eq_getElem hi,fun e he hbd=>by
     have hlt:=fineB_down hf (Array.getElem?_eq_getElem hi) e he hbd;have h1:=ih e.on hlt (by omega)
     have h2:e.on < listed.size:=by omega
     simp only [Array.getD_eq_getD_getElem?,Array.getElem?_eq_getElem h2,Option.getD_some] at h1 ⊢
     exact h1⟩
    rw [hr] at this
    cases this
 intro fuel
 induction fuel with
 | zero=>
  intro listed a w hl hsz hcl hsame hinv hsl
  have hall2:=left_zero (listed:=listed) (n:=ops.size) (by omega);refine ⟨?_,ends listed a w hall2 hsame hinv hsl⟩
  cases hr:Region.ready md ops listed with
  | nil=>rfl
  | cons j r=>
   have hj:j ∈ Region.ready md ops listed:=by rw [hr];exact List.mem_cons_self ..
   obtain ⟨hun,o,ho,_⟩:=mem_ready.1 hj
   rw [hall2 j (Array.getElem?_eq_some_iff.1 ho).1] at hun
   cases hun
 | succ fuel ih=>
  intro listed a w hl hsz hcl hsame hinv hsl
  refine ⟨fun hr=>ends listed a w (alls listed hsz hr) hsame hinv hsl,fun i hi=>?_⟩;obtain ⟨hun,o,ho,hdep⟩:=mem_ready.1 hi;have hib:i < ops.size:=(Array.getElem?_eq_some_iff.1 ho).1
  have flip:∀ j,j < ops.size→listed.getD j false=true→listed.getD j true=true:=fun j hj h=>by
   have h2:j < listed.size:=by omega
   simp only [Array.getD_eq_getD_getElem?,Array.getElem?_eq_getElem h2,Option.getD_some] at h ⊢
   exact h
  have anc:∀ j,waits md ops j fl i=true→j≠i→listed.getD j true=true:=fun j hw hne=>by
   cases fl with
   | zero=>exact absurd (by simpa [waits] using hw) hne
   | succ f=>
    simp only [waits,Bool.or_eq_true] at hw
    rcases hw with hw | hw
    · exact absurd (by simpa using hw) hne
    ·
     rw [ho] at hw
     obtain ⟨k,hk,h2⟩:=Array.any_eq_true.1 hw
     simp only [Bool.and_eq_true] at h2
     have hmem:=Array.getElem_mem hk;have hei:=fineB_down hf ho _ hmem h2.1;exact waits_listed hcl f _ h2.2 (flip _ (by omega) (hdep _ hmem h2.1))
  refine wpOp_step ho fun K hK=>hs i o ho (fun j=>listed.getD j true) a w hsame hun (fun j hne hw=>?_) (fun j hne hw=>anc j hw hne) hinv ?_ K ?_
  ·
   cases hlj:listed.getD j true with
   | false=>rfl
   | true=>rw [waits_listed hcl fl j hw hlj] at hun;cases hun
  ·
   intro d hd
   have hd':d ∈ reads md ops o:=by simpa using hd
   obtain ⟨e,he,hed⟩:=List.mem_filterMap.1 hd';obtain ⟨he1,he3⟩:=List.mem_filter.1 he
   have he2:Region.binds md e=true:=by simp only [Bool.and_eq_true] at he3;exact he3.1
   cases hoe:ops[e.on]? with
   | none=>rw [hoe] at hed;cases hed
   | some oe=>
    rw [hoe] at hed
    have hl1:=hdep e (by simpa using he1) he2;exact hsl e.on oe d hoe (flip _ (Array.getElem?_eq_some_iff.1 hoe).1 hl1) hed (.inr ⟨i,o,ho,hun,hd'⟩)
  ·
   intro v w' hg hinv' hv
   have hset:∀ j,listed.getD j true=true→(listed.setIfInBounds i true).getD j true=true:=fun j h=>by
    by_cases hji:i=j
    ·
     subst hji
     have:i < listed.size:=by omega
     simp [this]
    · rw [getD_set_ne true hji];exact h
   refine hK _ _ (ih (listed.setIfInBounds i true) (a.put o.dst v) w' ?_ (by simpa using hsz) ?_ ⟨(put_defers ..).trans hsame.defers,(put_size ..).trans hsame.size,fun d hd=>?_⟩ ?_ ?_)
   · have:=left_less hun hib;omega
   ·
    intro j oj hoj hlj e he hb
    by_cases hji:i=j
    ·
     subst hji
     rw [ho] at hoj
     cases hoj
     have hei:e.on < ops.size:=by have:=fineB_down hf ho e he hb;omega
     exact hset _ (flip _ hei (hdep e he hb))
    ·
     rw [getD_set_ne true hji] at hlj
     exact hset _ (hcl j oj hoj hlj e he hb)
   · rw [getD_put_other (hd i o ho)];exact hsame.old d hd
   ·
    have e:(fun j=>(listed.setIfInBounds i true).getD j true)=upd (fun j=>listed.getD j true) i:=by
     funext j
     unfold upd
     by_cases hji:j=i
     ·
      subst hji
      have:j < listed.size:=by omega
      simp [this]
     · rw [if_neg hji,getD_set_ne true (Ne.symm hji)]
    rw [e];exact hinv'
   ·
    intro j oj d hoj hlj hdj hlive
    by_cases hji:j=i
    ·
     subst hji
     rw [ho] at hoj
     cases hoj
     have hds:=(fineB_slot hf ho hdj).1;rw [hdj,getD_put_same (by rw [hsame.size];exact hds)];exact hv d hdj
    ·
     rw [getD_put_other (fun e=>hji (fineB_one hf hoj ho hdj e))]
     rw [getD_set_ne true (Ne.symm hji)] at hlj
     have hjb:j < ops.size:=(Array.getElem?_eq_some_iff.1 hoj).1;refine hmono i d _ _ _ ?_ (hsl j oj d hoj hlj hdj ?_) hg
     ·
      unfold bears2
      rw [Bool.and_eq_true]
      constructor
      ·
       refine List.any_eq_true.2 ⟨j,List.mem_range.2 hjb,?_⟩;rw [hoj]
       have hnw:waits md ops i fl j=false:=by
        cases hw:waits md ops i fl j with
        | false=>rfl
        | true=>rw [waits_listed hcl fl j hw hlj] at hun;cases hun
       simp [hdj,hnw]
      ·
       rw [Bool.or_eq_true]
       rcases hlive with hk | ⟨j',oj',hoj',hl',hn'⟩
       · exact .inl (by simpa using hk)
       ·
        right
        have hne:j'≠i:=by
         rintro rfl
         have:j' < listed.size:=by omega
         simp [this] at hl'
        have hnw2:waits md ops j' fl i=false:=by
         cases hw:waits md ops j' fl i with
         | false=>rfl
         | true=>
          exfalso
          have hl3:=anc j' hw hne
          have hlj:listed.getD j' true=false:=by
           cases hlj':listed.getD j' true with
           | false=>rfl
           | true=>rw [hset j' hlj'] at hl';cases hl'
          rw [hl3] at hlj
          cases hlj
        refine List.any_eq_true.2 ⟨j',List.mem_range.2 (Array.getElem?_eq_some_iff.1 hoj').1,?_⟩;rw [hoj']
        simp [hne,hn',hnw2]
     ·
      rcases hlive with hk | ⟨j',oj',hoj',hl',hn'⟩
      · exact .inl hk
      ·
       refine .inr ⟨j',oj',hoj',?_,hn'⟩
       cases hlj':listed.getD j' true with
       | false=>rfl
       | true=>rw [hset j' hlj'] at hl';cases hl'
theorem regionF {id:Nat} {w:World} (keep:List Nat) (fl:Nat) (Sl:Nat→Value→World→Prop) (Inv:(Nat→Bool)→Act→World→Prop) (G:Nat→World→World→Prop) (hm:P.follows .mixedOrders=true) (hf:fineB .any a0.tmps.size ops=true)
  (hmono:∀ i d v w w',bears2 .any ops keep fl i d=true→Sl d v w→G i w w'→Sl d v w') (h0:Inv (fun j=>(Array.replicate ops.size false).getD j true) a0 w.drew) (hs:StepsF P .any ops Q Sl Inv G a0 fl 0 ops.toList)
  (hfin:∀ a w ℓ,Same ops a0 a→(∀ i,i < ops.size→ℓ i=true)→Inv ℓ a w→(∀ (i:Nat) (o:Oper) d,ops[i]?=some o→o.dst=some d→d ∈ keep→Sl d (a.tmps.getD d undef) w)→Q .normal a w) :
  (Code.region id ops true).wp P Q a0 w:=by
 refine wp_region_any hm ?_
 have hun:∀ (i:Nat) (o:Oper),ops[i]?=some o→(Array.replicate ops.size false).getD i true=true→False:=fun i o ho hl=>by
  have hi:i < ops.size:=(Array.getElem?_eq_some_iff.1 ho).1
  simp [hi] at hl
 refine walkF keep fl hmono hf (fun i o ho=>?_) hfin _ _ a0 w.drew ?_ (by simp) (fun j o ho hl=>(hun j o ho hl).elim) ⟨rfl,rfl,fun _ _=>rfl⟩ h0 (fun i o d ho hl _ _=>(hun i o ho hl).elim)
 ·
  have:=hs.at i o (by simpa using ho)
  rwa [Nat.zero_add] at this
 ·
  have:∀ n,left (Array.replicate ops.size false) n≤n:=by
   intro n
   induction n with
   | zero=>exact Nat.le_refl _
   | succ n ih=>simp only [left];split <;> omega
  exact this _
end
end Flow
end Go.Proofs.YtdmhemgepdknhaaGreat
namespace Go.Proofs.YtdmhemgepdknhaaGreat
open Go.RowKit
def InV (y z d:Nat) (T:TypeId) (ZS CS:Array Value) (w0:World) (l:Nat→Bool) (a:Act) (W:World):Prop:=
 Gr w0 W∧(l y=true→∃ k,a.tmps.getD d undef=.pointer (some ⟨k,0,none⟩)∧w0.heap.size≤k∧Blk W k T (cond (l z) CS ZS))
section
variable {y z d:Nat} {T:TypeId} {ZS CS:Array Value} {w0 W W':World} {l:Nat→Bool} {a:Act}
theorem InV.start (h:l y=false) (g:Gr w0 W):InV y z d T ZS CS w0 l a W:=⟨g,fun e=>by rw [h] at e;cases e⟩
theorem InV.other (h:InV y z d T ZS CS w0 l a W) (i:Nat) (h1:y≠i) (h2:z≠i) {x:Option Nat} (hx:x≠some d) (v:Value) (g:Gr W W'):InV y z d T ZS CS w0 (Flow.upd l i) (a.put x v) W':=by
 unfold InV
 rw [Flow.upd_other l h1,Flow.upd_other l h2,Flow.getD_put_other hx];refine ⟨Gr.trans h.1 g,fun e=>?_⟩;obtain ⟨k,hk1,hk2,hk3⟩:=h.2 e;exact ⟨k,hk1,hk2,hk3.gr g⟩
theorem InV.alloc (h:InV y z d T ZS CS w0 l a W) (hyz:z≠y) (hz:l z=false) (hd:d < a.tmps.size):InV y z d T ZS CS w0 (Flow.upd l y) (a.put (some d) (.pointer (some ⟨W.heap.size,0,none⟩))) (W.alloc (.cells ZS T)):=by
 unfold InV
 rw [Flow.upd_other l hyz,hz,Flow.getD_put_same hd];exact ⟨Gr.trans h.1 ((Gr.refl W).alloc (Nat.le_refl _) _),fun _=>⟨W.heap.size,rfl,h.1.size,Blk.new _ _ _⟩⟩
theorem InV.store (h:InV y z d T ZS CS w0 l a W) (hyz:y≠z) {k:Nat} (hk:a.tmps.getD d undef=.pointer (some ⟨k,0,none⟩)) (hw:w0.heap.size≤k) {x:Option Nat} (hx:x≠some d) (v:Value) (hb:Blk W' k T CS) (hg:Below w0.heap.size w0 W'):InV y z d T ZS CS w0 (Flow.upd l z) (a.put x v) W':=by
 unfold InV
 rw [Flow.upd_other l hyz,Flow.upd_same,Flow.getD_put_other hx];exact ⟨hg,fun _=>⟨k,hk,hw,hb⟩⟩
theorem InV.post (h:InV y z d T ZS CS w0 l a W) (hy:l y=true) (hz:l z=true):Gr w0 W∧∃ k,a.tmps.getD d undef=.pointer (some ⟨k,0,none⟩)∧w0.heap.size≤k∧Blk W k T CS:=by
 obtain ⟨k,h1,h2,h3⟩:=h.2 hy
 rw [hz] at h3
 exact ⟨h.1,k,h1,h2,h3⟩
end
end Go.Proofs.YtdmhemgepdknhaaGreat
