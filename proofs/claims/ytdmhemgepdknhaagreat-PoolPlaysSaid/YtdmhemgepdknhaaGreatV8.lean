/-
  Texts, put together: FlowS Sector Rf RefRead RefBarrier RefWrite RefNew RefLoose FlowU RefCrash Both FlowL.
-/
import Derived.Deep.QuietTactic
import Derived.BigQuiet
import Derived.Test.YtdmhemgepdknhaaGreatV1
import Derived.Test.YtdmhemgepdknhaaGreatV3
import Derived.Test.YtdmhemgepdknhaaGreatV4
import Derived.Test.YtdmhemgepdknhaaGreatV7
set_option linter.unusedVariables false
set_option linter.unusedSimpArgs false
namespace Go.Proofs.YtdmhemgepdknhaaGreat
namespace Flow
open Go
section
variable {P:Program} {ops:Array Oper} {Q:Exit→Act→World→Prop} {md:Region.Mode}
def upd (ℓ:Nat→Bool) (i:Nat):Nat→Bool:=fun j=>if j=i then true else ℓ j
theorem upd_same (ℓ:Nat→Bool) (i:Nat):upd ℓ i i=true:=if_pos rfl
theorem upd_other (ℓ:Nat→Bool) {i j:Nat} (h:j≠i):upd ℓ i j=ℓ j:=if_neg h
def StepS (P:Program) (md:Region.Mode) (ops:Array Oper) (Q:Exit→Act→World→Prop) (Sl:Nat→Value→World→Prop) (Inv:(Nat→Bool)→World→Prop) (G:World→World→Prop) (a0:Act) (fl i:Nat) (o:Oper):Prop:=
 ∀ (ℓ:Nat→Bool) a w,Same ops a0 a→ℓ i=false→(∀ j,j≠i→waits md ops i fl j=true→ℓ j=false)→(∀ j,j≠i→waits md ops j fl i=true→ℓ j=true)→Inv ℓ w→(∀ d,(reads md ops o).contains d=true→Sl d (a.tmps.getD d undef) w) →
  ∀ K:Act→World→Prop,(∀ v w',G w w'→Inv (upd ℓ i) w'→(∀ d,o.dst=some d→Sl d v w')→K (a.put o.dst v) w') →
   if Region.wanted o (yielded ops a.tmps)=true then o.wp P a w K Q else K (a.put o.dst undef) w
def StepsS (P:Program) (md:Region.Mode) (ops:Array Oper) (Q:Exit→Act→World→Prop) (Sl:Nat→Value→World→Prop) (Inv:(Nat→Bool)→World→Prop) (G:Nat→World→World→Prop) (a0:Act) (fl:Nat):Nat→List Oper→Prop
 | _,[]=>True
 | i,o :: r=>StepS P md ops Q Sl Inv (G i) a0 fl i o∧StepsS P md ops Q Sl Inv G a0 fl (i+1) r
theorem StepsS.cons {Sl:Nat→Value→World→Prop} {Inv:(Nat→Bool)→World→Prop} {G:Nat→World→World→Prop} {a0:Act} {fl i:Nat} {o:Oper} {r:List Oper} (h:StepS P md ops Q Sl Inv (G i) a0 fl i o) (k:StepsS P md ops Q Sl Inv G a0 fl (i+1) r):StepsS P md ops Q Sl Inv G a0 fl i (o :: r):=⟨h,k⟩
theorem StepsS.at {Sl:Nat→Value→World→Prop} {Inv:(Nat→Bool)→World→Prop} {G:Nat→World→World→Prop} {a0:Act} {fl:Nat}:∀ {l:List Oper} {i:Nat},StepsS P md ops Q Sl Inv G a0 fl i l→∀ (j:Nat) (o:Oper),l[j]?=some o→StepS P md ops Q Sl Inv (G (i+j)) a0 fl (i+j) o
 | [],_,_,_,_,h=>by simp at h
 | x :: r,i,h,0,o,ho=>by
  simp only [List.getElem?_cons_zero,Option.some.injEq] at ho
  subst ho;exact h.1
 | x :: r,i,h,j+1,o,ho=>by
  simp only [List.getElem?_cons_succ] at ho
  have:=StepsS.at h.2 j o ho
  rwa [show i+1+j=i+(j+1) by omega] at this
variable {Sl:Nat→Value→World→Prop} {Inv:(Nat→Bool)→World→Prop} {G:Nat→World→World→Prop} {a0:Act}
theorem walkS (keep:List Nat) (fl:Nat) (hmono:∀ i d v w w',bears2 md ops keep fl i d=true→Sl d v w→G i w w'→Sl d v w') (hf:fineB md a0.tmps.size ops=true) (hs:∀ (i:Nat) (o:Oper),ops[i]?=some o→StepS P md ops Q Sl Inv (G i) a0 fl i o)
  (hfin:∀ a w ℓ,Same ops a0 a→(∀ i,i < ops.size→ℓ i=true)→Inv ℓ w→(∀ (i:Nat) (o:Oper) d,ops[i]?=some o→o.dst=some d→d ∈ keep→Sl d (a.tmps.getD d undef) w)→Q .normal a w) :
  ∀ (fuel:Nat) (listed:Array Bool) (a:Act) (w:World),left listed ops.size≤fuel→listed.size=ops.size→Closed md ops listed→Same ops a0 a→Inv (fun j=>listed.getD j true) w →
   (∀ (i:Nat) (o:Oper) d,ops[i]?=some o→listed.getD i true=true→o.dst=some d→(d ∈ keep∨∃ (j:Nat) (oj:Oper),ops[j]?=some oj∧listed.getD j true=false∧d ∈ reads md ops oj)→Sl d (a.tmps.getD d undef) w)→wpAny P md ops Q fuel listed a w:=by
 have ends:∀ (listed:Array Bool) (a:Act) (w:World),(∀ i,i < ops.size→listed.getD i true=true)→Same ops a0 a→Inv (fun j=>listed.getD j true) w →
   (∀ (i:Nat) (o:Oper) d,ops[i]?=some o→listed.getD i true=true→o.dst=some d→(d ∈ keep∨∃ (j:Nat) (oj:Oper),ops[j]?=some oj∧listed.getD j true=false∧d ∈ reads md ops oj)→Sl d (a.tmps.getD d undef) w)→Q .normal a w:=fun listed a w hl hsame hinv hsl=>
  hfin a w _ hsame hl hinv fun i o d ho hd hk=>hsl i o d ho (hl i (Array.getElem?_eq_some_iff.1 ho).1) hd (.inl hk)
 have alls:∀ listed:Array Bool,listed.size=ops.size→Region.ready md ops listed=[]→∀ i,i < ops.size→listed.getD i true=true:=by
  intro listed hsz hr i
  induction i using Nat.strongRecOn with
  | _ i ih=>
   intro hi
   cases hg:listed.getD i true with
   | true=>rfl
   | false=>
    exfalso
    have:i ∈ Region.ready md ops listed:=mem_ready.2 ⟨hg,ops[i],Array.getElem?_eq_getElem hi,fun e he hbd=>by
     have hlt:=fineB_down hf (Array.getElem?_eq_getElem hi) e he hbd;have h1:=ih e.on hlt (by omega)
     have h2:e.on < listed.size:=by omega
     simp only [Array.getD_eq_getD_getElem?,Array.getElem?_eq_getElem h2,Option.getD_some] at h1 ⊢
     exact h1⟩
    rw [hr] at this
    cases this
 intro fuel
 induction fuel with
 | zero=>
  intro listed a w hl hsz hcl hsame hinv hsl
  have hall2:=left_zero (listed:=listed) (n:=ops.size) (by omega);refine ⟨?_,ends listed a w hall2 hsame hinv hsl⟩
  cases hr:Region.ready md ops listed with
  | nil=>rfl
  | cons j r=>
   have hj:j ∈ Region.ready md ops listed:=by rw [hr];exact List.mem_cons_self ..
   obtain ⟨hun,o,ho,_⟩:=mem_ready.1 hj
   rw [hall2 j (Array.getElem?_eq_some_iff.1 ho).1] at hun
   cases hun
 | succ fuel ih=>
  intro listed a w hl hsz hcl hsame hinv hsl
  refine ⟨fun hr=>ends listed a w (alls listed hsz hr) hsame hinv hsl,fun i hi=>?_⟩;obtain ⟨hun,o,ho,hdep⟩:=mem_ready.1 hi;have hib:i < ops.size:=(Array.getElem?_eq_some_iff.1 ho).1
  have flip:∀ j,j < ops.size→listed.getD j false=true→listed.getD j true=true:=fun j hj h=>by
   have h2:j < listed.size:=by omega
   simp only [Array.getD_eq_getD_getElem?,Array.getElem?_eq_getElem h2,Option.getD_some] at h ⊢
   exact h
  have anc:∀ j,waits md ops j fl i=true→j≠i→listed.getD j true=true:=fun j hw hne=>by
   cases fl with
   | zero=>exact absurd (by simpa [waits] using hw) hne
   | succ f=>
    simp only [waits,Bool.or_eq_true] at hw
    rcases hw with hw | hw
    · exact absurd (by simpa using hw) hne
    ·
     rw [ho] at hw
     obtain ⟨k,hk,h2⟩:=Array.any_eq_true.1 hw
     simp only [Bool.and_eq_true] at h2
     have hmem:=Array.getElem_mem hk;have hei:=fineB_down hf ho _ hmem h2.1;exact waits_listed hcl f _ h2.2 (flip _ (by omega) (hdep _ hmem h2.1))
  refine wpOp_step ho fun K hK=>hs i o ho (fun j=>listed.getD j true) a w hsame hun (fun j hne hw=>?_) (fun j hne hw=>anc j hw hne) hinv ?_ K ?_
  ·
   cases hlj:listed.getD j true with
   | false=>rfl
   | true=>rw [waits_listed hcl fl j hw hlj] at hun;cases hun
  ·
   intro d hd
   have hd':d ∈ reads md ops o:=by simpa using hd
   obtain ⟨e,he,hed⟩:=List.mem_filterMap.1 hd';obtain ⟨he1,he3⟩:=List.mem_filter.1 he
   have he2:Region.binds md e=true:=by simp only [Bool.and_eq_true] at he3;exact he3.1
   cases hoe:ops[e.on]? with
   | none=>rw [hoe] at hed;cases hed
   | some oe=>
    rw [hoe] at hed
    have hl1:=hdep e (by simpa using he1) he2;exact hsl e.on oe d hoe (flip _ (Array.getElem?_eq_some_iff.1 hoe).1 hl1) hed (.inr ⟨i,o,ho,hun,hd'⟩)
  ·
   intro v w' hg hinv' hv
   have hset:∀ j,listed.getD j true=true→(listed.setIfInBounds i true).getD j true=true:=fun j h=>by
    by_cases hji:i=j
    ·
     subst hji
     have:i < listed.size:=by omega
     simp [this]
    · rw [getD_set_ne true hji];exact h
   refine hK _ _ (ih (listed.setIfInBounds i true) (a.put o.dst v) w' ?_ (by simpa using hsz) ?_ ⟨(put_defers ..).trans hsame.defers,(put_size ..).trans hsame.size,fun d hd=>?_⟩ ?_ ?_)
   · have:=left_less hun hib;omega
   ·
    intro j oj hoj hlj e he hb
    by_cases hji:i=j
    ·
     subst hji
     rw [ho] at hoj
     cases hoj
     have hei:e.on < ops.size:=by have:=fineB_down hf ho e he hb;omega
     exact hset _ (flip _ hei (hdep e he hb))
    ·
     rw [getD_set_ne true hji] at hlj
     exact hset _ (hcl j oj hoj hlj e he hb)
   · rw [getD_put_other (hd i o ho)];exact hsame.old d hd
   ·
    have e:(fun j=>(listed.setIfInBounds i true).getD j true)=upd (fun j=>listed.getD j true) i:=by
     funext j
     unfold upd
     by_cases hji:j=i
     ·
      subst hji
      have:j < listed.size:=by omega
      simp [this]
     · rw [if_neg hji,getD_set_ne true (Ne.symm hji)]
    rw [e];exact hinv'
   ·
    intro j oj d hoj hlj hdj hlive
    by_cases hji:j=i
    ·
     subst hji
     rw [ho] at hoj
     cases hoj
     have hds:=(fineB_slot hf ho hdj).1;rw [hdj,getD_put_same (by rw [hsame.size];exact hds)];exact hv d hdj
    ·
     rw [getD_put_other (fun e=>hji (fineB_one hf hoj ho hdj e))]
     rw [getD_set_ne true (Ne.symm hji)] at hlj
     have hjb:j < ops.size:=(Array.getElem?_eq_some_iff.1 hoj).1;refine hmono i d _ _ _ ?_ (hsl j oj d hoj hlj hdj ?_) hg
     ·
      unfold bears2
      rw [Bool.and_eq_true]
      constructor
      ·
       refine List.any_eq_true.2 ⟨j,List.mem_range.2 hjb,?_⟩;rw [hoj]
       have hnw:waits md ops i fl j=false:=by
        cases hw:waits md ops i fl j with
        | false=>rfl
        | true=>rw [waits_listed hcl fl j hw hlj] at hun;cases hun
       simp [hdj,hnw]
      ·
       rw [Bool.or_eq_true]
       rcases hlive with hk | ⟨j',oj',hoj',hl',hn'⟩
       · exact .inl (by simpa using hk)
       ·
        right
        have hne:j'≠i:=by
         rintro rfl
         have:j' < listed.size:=by omega
         simp [this] at hl'
        have hnw2:waits md ops j' fl i=false:=by
         cases hw:waits md ops j' fl i with
         | false=>rfl
         | true=>
          exfalso
          have hl3:=anc j' hw hne
          have hlj:listed.getD j' true=false:=by
           cases hlj':listed.getD j' true with
           | false=>rfl
           | true=>rw [hset j' hlj'] at hl';cases hl'
          rw [hl3] at hlj
          cases hlj
        refine List.any_eq_true.2 ⟨j',List.mem_range.2 (Array.getElem?_eq_some_iff.1 hoj').1,?_⟩;rw [hoj']
        simp [hne,hn',hnw2]
     ·
      rcases hlive with hk | ⟨j',oj',hoj',hl',hn'⟩
      · exact .inl hk
      ·
       refine .inr ⟨j',oj',hoj',?_,hn'⟩
       cases hlj':listed.getD j' true with
       | false=>rfl
       | true=>rw [hset j' hlj'] at hl';cases hl'
theorem regionS {id:Nat} {w:World} (keep:List Nat) (fl:Nat) (Sl:Nat→Value→World→Prop) (Inv:(Nat→Bool)→World→Prop) (G:Nat→World→World→Prop) (hm:P.follows .mixedOrders=true) (hf:fineB .any a0.tmps.size ops=true)
  (hmono:∀ i d v w w',bears2 .any ops keep fl i d=true→Sl d v w→G i w w'→Sl d v w') (h0:Inv (fun j=>(Array.replicate ops.size false).getD j true) w.drew) (hs:StepsS P .any ops Q Sl Inv G a0 fl 0 ops.toList)
  (hfin:∀ a w ℓ,Same ops a0 a→(∀ i,i < ops.size→ℓ i=true)→Inv ℓ w→(∀ (i:Nat) (o:Oper) d,ops[i]?=some o→o.dst=some d→d ∈ keep→Sl d (a.tmps.getD d undef) w)→Q .normal a w) :
  (Code.region id ops true).wp P Q a0 w:=by
 refine wp_region_any hm ?_
 have hun:∀ (i:Nat) (o:Oper),ops[i]?=some o→(Array.replicate ops.size false).getD i true=true→False:=fun i o ho hl=>by
  have hi:i < ops.size:=(Array.getElem?_eq_some_iff.1 ho).1
  simp [hi] at hl
 refine walkS keep fl hmono hf (fun i o ho=>?_) hfin _ _ a0 w.drew ?_ (by simp) (fun j o ho hl=>(hun j o ho hl).elim) ⟨rfl,rfl,fun _ _=>rfl⟩ h0 (fun i o d ho hl _ _=>(hun i o ho hl).elim)
 ·
  have:=hs.at i o (by simpa using ho)
  rwa [Nat.zero_add] at this
 ·
  have:∀ n,left (Array.replicate ops.size false) n≤n:=by
   intro n
   induction n with
   | zero=>exact Nat.le_refl _
   | succ n ih=>simp only [left];split <;> omega
  exact this _
end
end Flow
end Go.Proofs.YtdmhemgepdknhaaGreat
namespace Go.Proofs.YtdmhemgepdknhaaGreat
open Go.RowKit Go.Maps

end Go.Proofs.YtdmhemgepdknhaaGreat
namespace Go.Proofs.YtdmhemgepdknhaaGreat
open Go.RowKit Go.Maps
def St.at (s:St) (i:Nat):List Sec:=s.ls.getD i Sec.zero :: s.t i
end Go.Proofs.YtdmhemgepdknhaaGreat
namespace Go.Proofs.YtdmhemgepdknhaaGreat
open Go.RowKit Go.Maps

end Go.Proofs.YtdmhemgepdknhaaGreat
namespace Go.Proofs.YtdmhemgepdknhaaGreat
open Go.RowKit Go.Maps

end Go.Proofs.YtdmhemgepdknhaaGreat
namespace Go.Proofs.YtdmhemgepdknhaaGreat
open Go.RowKit Go.Maps

end Go.Proofs.YtdmhemgepdknhaaGreat
namespace Go.Proofs.YtdmhemgepdknhaaGreat
open Go.RowKit Go.Maps

end Go.Proofs.YtdmhemgepdknhaaGreat
namespace Go.Proofs.YtdmhemgepdknhaaGreat
open Go.RowKit Go.Maps
abbrev TNI:TypeId:=55
theorem info_int:(Tryz.prog.info? TI).map (fun i=>(i.zero,i.size,i.bytes))=some (some (.int .i64 0),1,8):=by kernel_rfl
end Go.Proofs.YtdmhemgepdknhaaGreat
namespace Go.Proofs.YtdmhemgepdknhaaGreat
namespace Flow
open Go

section
variable {P : Program} {ops : Array Oper} {Q : Exit → Act → World → Prop} {md : Region.Mode}

variable {Sl : Nat → Value → World → Prop} {Inv Fin Ear : World → Prop} {G : Nat → World → World → Prop} {a0 : Act}

end
end Flow
end Go.Proofs.YtdmhemgepdknhaaGreat
namespace Go.Proofs.YtdmhemgepdknhaaGreat
open Go.RowKit Go.Maps

end Go.Proofs.YtdmhemgepdknhaaGreat
namespace Go.Proofs.YtdmhemgepdknhaaGreat
open Go.RowKit Go.Maps
theorem Upd.same {F:Nat→Prop} (w:World):Upd F F w w:=Upd.of_gr (Gr.refl w)
theorem Upd.pre {F F':Nat→Prop} {w w1 w2:World} (g:Gr w w1) (u:Upd F F' w1 w2):Upd F F' w w2:=(Upd.of_gr g).trans u
end Go.Proofs.YtdmhemgepdknhaaGreat
namespace Go.Proofs.YtdmhemgepdknhaaGreat
namespace Flow
open Go
section
variable {P:Program} {ops:Array Oper} {Q:Exit→Act→World→Prop} {md:Region.Mode}
variable {Sl:Nat→Value→World→Prop} {Inv:World→Prop} {G:World→World→Prop} {a0:Act}
theorem walkL (hmono:∀ d v w w',Sl d v w→G w w'→Sl d v w') (hf:fineB md a0.tmps.size ops=true) (hs:∀ (i:Nat) (o:Oper),ops[i]?=some o→Step P md ops Q Sl Inv G a0 o)
  (hfin:∀ a w,Same ops a0 a→Inv w→(∀ (i:Nat) (o:Oper) d,ops[i]?=some o→o.dst=some d→Sl d (a.tmps.getD d undef) w)→Q .normal a w) :
  ∀ (fuel:Nat) (listed:Array Bool) (a:Act) (w:World),left listed ops.size≤fuel→listed.size=ops.size→Same ops a0 a→Inv w →
   (∀ (i:Nat) (o:Oper) d,ops[i]?=some o→listed.getD i true=true→o.dst=some d→Sl d (a.tmps.getD d undef) w)→wpAny P md ops Q fuel listed a w:=by
 have ends:∀ (listed:Array Bool) (a:Act) (w:World),(∀ i,i < ops.size→listed.getD i true=true)→Same ops a0 a→Inv w →
   (∀ (i:Nat) (o:Oper) d,ops[i]?=some o→listed.getD i true=true→o.dst=some d→Sl d (a.tmps.getD d undef) w)→Q .normal a w:=fun listed a w hl hsame hinv hsl=>
  hfin a w hsame hinv fun i o d ho hd=>hsl i o d ho (hl i (Array.getElem?_eq_some_iff.1 ho).1) hd
 have alls:∀ listed:Array Bool,listed.size=ops.size→Region.ready md ops listed=[]→∀ i,i < ops.size→listed.getD i true=true:=by
  intro listed hsz hr i
  induction i using Nat.strongRecOn with
  | _ i ih=>
   intro hi
   cases hg:listed.getD i true with
   | true=>rfl
   | false=>
    exfalso
    have:i ∈ Region.ready md ops listed:=mem_ready.2 ⟨hg,ops[i],Array.getElem?_eq_getElem hi,fun e he hbd=>by
     have hlt:=fineB_down hf (Array.getElem?_eq_getElem hi) e he hbd;have h1:=ih e.on hlt (by omega)
     have h2:e.on < listed.size:=by omega
     simp only [Array.getD_eq_getD_getElem?,Array.getElem?_eq_getElem h2,Option.getD_some] at h1 ⊢
     exact h1⟩
    rw [hr] at this
    cases this
 intro fuel
 induction fuel with
 | zero=>
  intro listed a w hl hsz hsame hinv hsl
  have hall:=left_zero (listed:=listed) (n:=ops.size) (by omega);refine ⟨?_,ends listed a w hall hsame hinv hsl⟩
  cases hr:Region.ready md ops listed with
  | nil=>rfl
  | cons j r=>
   have hj:j ∈ Region.ready md ops listed:=by rw [hr];exact List.mem_cons_self ..
   obtain ⟨hun,o,ho,_⟩:=mem_ready.1 hj
   rw [hall j (Array.getElem?_eq_some_iff.1 ho).1] at hun
   cases hun
 | succ fuel ih=>
  intro listed a w hl hsz hsame hinv hsl
  refine ⟨fun hr=>ends listed a w (alls listed hsz hr) hsame hinv hsl,fun i hi=>?_⟩;obtain ⟨hun,o,ho,hdep⟩:=mem_ready.1 hi;have hib:i < ops.size:=(Array.getElem?_eq_some_iff.1 ho).1
  refine wpOp_step ho fun K hK=>hs i o ho a w hsame hinv ?_ K ?_
  ·
   intro d hd
   have hd':d ∈ needs md ops o:=by simpa using hd
   obtain ⟨e,he,hed⟩:=List.mem_filterMap.1 hd';obtain ⟨he1,he2⟩:=List.mem_filter.1 he
   cases hoe:ops[e.on]? with
   | none=>rw [hoe] at hed;cases hed
   | some oe=>
    rw [hoe] at hed
    have hl1:=hdep e (by simpa using he1) he2;refine hsl e.on oe d hoe ?_ hed
    have h2:e.on < listed.size:=by have:=(Array.getElem?_eq_some_iff.1 hoe).1;omega
    simp only [Array.getD_eq_getD_getElem?,Array.getElem?_eq_getElem h2,Option.getD_some] at hl1 ⊢
    exact hl1
  ·
   intro v w' hg hinv' hv
   refine hK _ _ (ih (listed.setIfInBounds i true) (a.put o.dst v) w' ?_ (by simpa using hsz) ⟨(put_defers ..).trans hsame.defers,(put_size ..).trans hsame.size,fun d hd=>?_⟩ hinv' ?_)
   · have:=left_less hun hib;omega
   · rw [getD_put_other (hd i o ho)];exact hsame.old d hd
   ·
    intro j oj d hoj hlj hdj
    by_cases hji:j=i
    ·
     subst hji
     rw [ho] at hoj
     cases hoj
     have hds:=(fineB_slot hf ho hdj).1;rw [hdj,getD_put_same (by rw [hsame.size];exact hds)];exact hv d hdj
    ·
     rw [getD_put_other (fun e=>hji (fineB_one hf hoj ho hdj e))]
     rw [getD_set_ne true (Ne.symm hji)] at hlj
     exact hmono _ _ _ _ (hsl j oj d hoj hlj hdj) hg
theorem regionL {id:Nat} {w:World} (Sl:Nat→Value→World→Prop) (Inv:World→Prop) (G:World→World→Prop) (hm:P.follows .mixedOrders=true) (hf:fineB .any a0.tmps.size ops=true)
  (hmono:∀ d v w w',Sl d v w→G w w'→Sl d v w') (h0:Inv w.drew) (hs:Steps P .any ops Q Sl Inv G a0 ops.toList)
  (hfin:∀ a w,Same ops a0 a→Inv w→(∀ (i:Nat) (o:Oper) d,ops[i]?=some o→o.dst=some d→Sl d (a.tmps.getD d undef) w)→Q .normal a w) :
  (Code.region id ops true).wp P Q a0 w:=by
 refine wp_region_any hm ?_;refine walkL hmono hf (fun i o ho=>hs.at o (by simpa using Array.mem_of_getElem? ho)) hfin _ _ a0 w.drew ?_ (by simp) ⟨rfl,rfl,fun _ _=>rfl⟩ h0 ?_
 ·
  have:∀ n,left (Array.replicate ops.size false) n≤n:=by
   intro n
   induction n with
   | zero=>exact Nat.le_refl _
   | succ n ih=>simp only [left];split <;> omega
  exact this _
 ·
  intro i o d ho hl _
  have hi:i < ops.size:=(Array.getElem?_eq_some_iff.1 ho).1
  simp [hi] at hl
end
end Flow
end Go.Proofs.YtdmhemgepdknhaaGreat
