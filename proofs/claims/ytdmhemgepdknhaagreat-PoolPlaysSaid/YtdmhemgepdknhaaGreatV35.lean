/-
  Texts, put together: FlowY.
-/
import Derived.Test.YtdmhemgepdknhaaGreatV1
import Derived.Test.YtdmhemgepdknhaaGreatV4
set_option linter.unusedVariables false
set_option linter.unusedSimpArgs false
namespace Go.Proofs.YtdmhemgepdknhaaGreat
namespace Flow
open Go
section
variable {P:Program} {ops:Array Oper} {Q:Exit→Act→World→Prop} {md:Region.Mode}
def StepVY (P:Program) (md:Region.Mode) (ops:Array Oper) (Q:Exit→Act→World→Prop) (Sl:Nat→Value→World→Prop) (I J:World→Prop) (E:Act→World→Prop) (early here:Bool) (G:World→World→Prop) (a0:Act) (o:Oper):Prop:=
 ∀ a w,Same ops a0 a→I w→cond early (E a w) True→(∀ d,(reads md ops o).contains d=true→Sl d (a.tmps.getD d undef) w) →
  ∀ K:Act→World→Prop,(∀ v w',G w w'→J w'→cond here True (E a w→E (a.put o.dst v) w')→(∀ d,o.dst=some d→Sl d v w')→K (a.put o.dst v) w') →
   if Region.wanted o (yielded ops a.tmps)=true then o.wp P a w K Q else K (a.put o.dst undef) w
def StepsY (P:Program) (md:Region.Mode) (ops:Array Oper) (Q:Exit→Act→World→Prop) (Sl:Nat→Value→World→Prop) (Inv Fin:World→Prop) (Ear:Act→World→Prop) (G:Nat→World→World→Prop) (a0:Act) (z y fl:Nat):Nat→List Oper→Prop
 | _,[]=>True
 | i,o :: r=>StepVY P md ops Q Sl Inv (cond (i == z) Fin Inv) Ear (waits md ops i fl y) (i == y || i == z) (G i) a0 o∧StepsY P md ops Q Sl Inv Fin Ear G a0 z y fl (i+1) r
theorem StepsY.cons {Sl:Nat→Value→World→Prop} {Inv Fin:World→Prop} {Ear:Act→World→Prop} {G:Nat→World→World→Prop} {a0:Act} {z y fl i:Nat} {o:Oper} {r:List Oper} (h:StepVY P md ops Q Sl Inv (cond (i == z) Fin Inv) Ear (waits md ops i fl y) (i == y || i == z) (G i) a0 o) (k:StepsY P md ops Q Sl Inv Fin Ear G a0 z y fl (i+1) r):StepsY P md ops Q Sl Inv Fin Ear G a0 z y fl i (o :: r):=⟨h,k⟩
theorem StepsY.at {Sl:Nat→Value→World→Prop} {Inv Fin:World→Prop} {Ear:Act→World→Prop} {G:Nat→World→World→Prop} {a0:Act} {z y fl:Nat}:∀ {l:List Oper} {i:Nat},StepsY P md ops Q Sl Inv Fin Ear G a0 z y fl i l→∀ (j:Nat) (o:Oper),l[j]?=some o→StepVY P md ops Q Sl Inv (cond (i+j == z) Fin Inv) Ear (waits md ops (i+j) fl y) (i+j == y || i+j == z) (G (i+j)) a0 o
 | [],_,_,_,_,h=>by simp at h
 | x :: r,i,h,0,o,ho=>by
  simp only [List.getElem?_cons_zero,Option.some.injEq] at ho
  subst ho;exact h.1
 | x :: r,i,h,j+1,o,ho=>by
  simp only [List.getElem?_cons_succ] at ho
  have:=StepsY.at h.2 j o ho
  rwa [show i+1+j=i+(j+1) by omega] at this
variable {Sl:Nat→Value→World→Prop} {Inv Fin:World→Prop} {Ear:Act→World→Prop} {G:Nat→World→World→Prop} {a0:Act}
theorem walkY (z y:Nat) (oz:Oper) (hoz:ops[z]?=some oz) (keep:List Nat) (fl:Nat) (hall:∀ j,j < ops.size→waits md ops j fl z=true) (hmono:∀ i d v w w',bears2 md ops keep fl i d=true→Sl d v w→G i w w'→Sl d v w') (hf:fine a0.tmps.size ops=true) (hs:∀ (i:Nat) (o:Oper),ops[i]?=some o→StepVY P md ops Q Sl Inv (cond (i == z) Fin Inv) Ear (waits md ops i fl y) (i == y || i == z) (G i) a0 o)
  (hfin:∀ a w,Same ops a0 a→Fin w→(∀ (i:Nat) (o:Oper) d,ops[i]?=some o→o.dst=some d→d ∈ keep→Sl d (a.tmps.getD d undef) w)→Q .normal a w) :
  ∀ (fuel:Nat) (listed:Array Bool) (a:Act) (w:World),left listed ops.size≤fuel→listed.size=ops.size→Closed md ops listed→Same ops a0 a→(listed.getD z true=false→Inv w)→(listed.getD z true=true→Fin w)→(listed.getD y true=false→Ear a w) →
   (∀ (i:Nat) (o:Oper) d,ops[i]?=some o→listed.getD i true=true→o.dst=some d→(d ∈ keep∨∃ (j:Nat) (oj:Oper),ops[j]?=some oj∧listed.getD j true=false∧d ∈ reads md ops oj)→Sl d (a.tmps.getD d undef) w)→wpAny P md ops Q fuel listed a w:=by
 have hzb:z < ops.size:=(Array.getElem?_eq_some_iff.1 hoz).1
 have ends:∀ (listed:Array Bool) (a:Act) (w:World),(∀ i,i < ops.size→listed.getD i true=true)→Same ops a0 a→(listed.getD z true=true→Fin w) →
   (∀ (i:Nat) (o:Oper) d,ops[i]?=some o→listed.getD i true=true→o.dst=some d→(d ∈ keep∨∃ (j:Nat) (oj:Oper),ops[j]?=some oj∧listed.getD j true=false∧d ∈ reads md ops oj)→Sl d (a.tmps.getD d undef) w)→Q .normal a w:=fun listed a w hl hsame hinv hsl=>
  hfin a w hsame (hinv (hl z hzb)) fun i o d ho hd hk=>hsl i o d ho (hl i (Array.getElem?_eq_some_iff.1 ho).1) hd (.inl hk)
 have alls:∀ listed:Array Bool,listed.size=ops.size→Region.ready md ops listed=[]→∀ i,i < ops.size→listed.getD i true=true:=by
  intro listed hsz hr i
  induction i using Nat.strongRecOn with
  | _ i ih=>
   intro hi
   cases hg:listed.getD i true with
   | true=>rfl
   | false=>
    exfalso
    have:i ∈ Region.ready md ops listed:=mem_ready.2 ⟨hg,ops[i],Array.getElem?_eq_getElem hi,fun e he _=>by
     have hlt:=fine_down hf (Array.getElem?_eq_getElem hi) e he;have h1:=ih e.on hlt (by omega)
     have h2:e.on < listed.size:=by omega
     simp only [Array.getD_eq_getD_getElem?,Array.getElem?_eq_getElem h2,Option.getD_some] at h1 ⊢
     exact h1⟩
    rw [hr] at this
    cases this
 intro fuel
 induction fuel with
 | zero=>
  intro listed a w hl hsz hcl hsame hinv hfz hear hsl
  have hall2:=left_zero (listed:=listed) (n:=ops.size) (by omega);refine ⟨?_,ends listed a w hall2 hsame hfz hsl⟩
  cases hr:Region.ready md ops listed with
  | nil=>rfl
  | cons j r=>
   have hj:j ∈ Region.ready md ops listed:=by rw [hr];exact List.mem_cons_self ..
   obtain ⟨hun,o,ho,_⟩:=mem_ready.1 hj
   rw [hall2 j (Array.getElem?_eq_some_iff.1 ho).1] at hun
   cases hun
 | succ fuel ih=>
  intro listed a w hl hsz hcl hsame hinv hfz hear hsl
  refine ⟨fun hr=>ends listed a w (alls listed hsz hr) hsame hfz hsl,fun i hi=>?_⟩;obtain ⟨hun,o,ho,hdep⟩:=mem_ready.1 hi;have hib:i < ops.size:=(Array.getElem?_eq_some_iff.1 ho).1
  have flip:∀ j,j < ops.size→listed.getD j false=true→listed.getD j true=true:=fun j hj h=>by
   have h2:j < listed.size:=by omega
   simp only [Array.getD_eq_getD_getElem?,Array.getElem?_eq_getElem h2,Option.getD_some] at h ⊢
   exact h
  have anc:∀ j,waits md ops j fl i=true→j≠i→listed.getD j true=true:=fun j hw hne=>by
   cases fl with
   | zero=>exact absurd (by simpa [waits] using hw) hne
   | succ f=>
    simp only [waits,Bool.or_eq_true] at hw
    rcases hw with hw | hw
    · exact absurd (by simpa using hw) hne
    ·
     rw [ho] at hw
     obtain ⟨k,hk,h2⟩:=Array.any_eq_true.1 hw
     simp only [Bool.and_eq_true] at h2
     have hmem:=Array.getElem_mem hk;have hei:=fine_down hf ho _ hmem;exact waits_listed hcl f _ h2.2 (flip _ (by omega) (hdep _ hmem h2.1))
  have hzn:listed.getD z true=false:=by
   cases hzl:listed.getD z true with
   | false=>rfl
   | true=>rw [waits_listed hcl fl z (hall i hib) hzl] at hun;cases hun
  have hyn:cond (waits md ops i fl y) (Ear a w) True:=by
   cases hw:waits md ops i fl y with
   | false=>exact True.intro
   | true=>
    refine hear ?_
    cases hyl:listed.getD y true with
    | false=>rfl
    | true=>rw [waits_listed hcl fl y hw hyl] at hun;cases hun
  refine wpOp_step ho fun K hK=>hs i o ho a w hsame (hinv hzn) hyn ?_ K ?_
  ·
   intro d hd
   have hd':d ∈ reads md ops o:=by simpa using hd
   obtain ⟨e,he,hed⟩:=List.mem_filterMap.1 hd';obtain ⟨he1,he3⟩:=List.mem_filter.1 he
   have he2:Region.binds md e=true:=by simp only [Bool.and_eq_true] at he3;exact he3.1
   cases hoe:ops[e.on]? with
   | none=>rw [hoe] at hed;cases hed
   | some oe=>
    rw [hoe] at hed
    have hl1:=hdep e (by simpa using he1) he2;exact hsl e.on oe d hoe (flip _ (Array.getElem?_eq_some_iff.1 hoe).1 hl1) hed (.inr ⟨i,o,ho,hun,hd'⟩)
  ·
   intro v w' hg hinv' hear' hv
   have hset:∀ j,listed.getD j true=true→(listed.setIfInBounds i true).getD j true=true:=fun j h=>by
    by_cases hji:i=j
    ·
     subst hji
     have:i < listed.size:=by omega
     simp [this]
    · rw [getD_set_ne true hji];exact h
   refine hK _ _ (ih (listed.setIfInBounds i true) (a.put o.dst v) w' ?_ (by simpa using hsz) ?_ ⟨(put_defers ..).trans hsame.defers,(put_size ..).trans hsame.size,fun d hd=>?_⟩ ?_ ?_ ?_ ?_)
   · have:=left_less hun hib;omega
   ·
    intro j oj hoj hlj e he hb
    by_cases hji:i=j
    ·
     subst hji
     rw [ho] at hoj
     cases hoj
     have hei:e.on < ops.size:=by have:=fine_down hf ho e he;omega
     exact hset _ (flip _ hei (hdep e he hb))
    ·
     rw [getD_set_ne true hji] at hlj
     exact hset _ (hcl j oj hoj hlj e he hb)
   · rw [getD_put_other (hd i o ho)];exact hsame.old d hd
   ·
    intro h
    by_cases hiz:i=z
    ·
     subst hiz
     have:i < listed.size:=by omega
     simp [this] at h
    ·
     have e:(i == z)=false:=by simpa using hiz
     rw [e] at hinv'
     exact hinv'
   ·
    intro h
    by_cases hiz:i=z
    ·
     have e:(i == z)=true:=by simpa using hiz
     rw [e] at hinv'
     exact hinv'
    ·
     rw [getD_set_ne true hiz,hzn] at h
     cases h
   ·
    intro h
    by_cases hiy:i=y
    ·
     subst hiy
     have:i < listed.size:=by omega
     simp [this] at h
    ·
     rw [getD_set_ne true hiy] at h
     by_cases hiz:i=z
     ·
      subst hiz
      have hyb:y < ops.size:=by
       rcases Nat.lt_or_ge y ops.size with h' | h'
       · exact h'
       · simp [Array.getElem?_eq_none (show listed.size≤y by omega)] at h
      have:=anc y (hall y hyb) (fun e=>hiy e.symm)
      rw [this] at h
      cases h
     ·
      have e:(i == y || i == z)=false:=by simp [hiy,hiz]
      rw [e] at hear'
      exact hear' (hear h)
   ·
    intro j oj d hoj hlj hdj hlive
    by_cases hji:j=i
    ·
     subst hji
     rw [ho] at hoj
     cases hoj
     have hds:=(fine_slot hf ho hdj).1;rw [hdj,getD_put_same (by rw [hsame.size];exact hds)];exact hv d hdj
    ·
     rw [getD_put_other (fun e=>hji (fine_one hf hoj ho hdj e))]
     rw [getD_set_ne true (Ne.symm hji)] at hlj
     have hjb:j < ops.size:=(Array.getElem?_eq_some_iff.1 hoj).1;refine hmono i d _ _ _ ?_ (hsl j oj d hoj hlj hdj ?_) hg
     ·
      unfold bears2
      rw [Bool.and_eq_true]
      constructor
      ·
       refine List.any_eq_true.2 ⟨j,List.mem_range.2 hjb,?_⟩;rw [hoj]
       have hnw:waits md ops i fl j=false:=by
        cases hw:waits md ops i fl j with
        | false=>rfl
        | true=>rw [waits_listed hcl fl j hw hlj] at hun;cases hun
       simp [hdj,hnw]
      ·
       rw [Bool.or_eq_true]
       rcases hlive with hk | ⟨j',oj',hoj',hl',hn'⟩
       · exact .inl (by simpa using hk)
       ·
        right
        have hne:j'≠i:=by
         rintro rfl
         have:j' < listed.size:=by omega
         simp [this] at hl'
        have hnw2:waits md ops j' fl i=false:=by
         cases hw:waits md ops j' fl i with
         | false=>rfl
         | true=>
          exfalso
          have hl3:=anc j' hw hne
          have hlj:listed.getD j' true=false:=by
           cases hlj':listed.getD j' true with
           | false=>rfl
           | true=>rw [hset j' hlj'] at hl';cases hl'
          rw [hl3] at hlj
          cases hlj
        refine List.any_eq_true.2 ⟨j',List.mem_range.2 (Array.getElem?_eq_some_iff.1 hoj').1,?_⟩;rw [hoj']
        simp [hne,hn',hnw2]
     ·
      rcases hlive with hk | ⟨j',oj',hoj',hl',hn'⟩
      · exact .inl hk
      ·
       refine .inr ⟨j',oj',hoj',?_,hn'⟩
       cases hlj':listed.getD j' true with
       | false=>rfl
       | true=>rw [hset j' hlj'] at hl';cases hl'
theorem regionY {id:Nat} {w:World} (z y:Nat) (hzz:(ops[z]?).isSome=true) (keep:List Nat) (fl:Nat) (Sl:Nat→Value→World→Prop) (Inv Fin:World→Prop) (Ear:Act→World→Prop) (G:Nat→World→World→Prop) (hm:P.follows .mixedOrders=true) (hall:((List.range ops.size).all fun j=>waits .any ops j fl z)=true) (hf:fine a0.tmps.size ops=true)
  (hmono:∀ i d v w w',bears2 .any ops keep fl i d=true→Sl d v w→G i w w'→Sl d v w') (h0:Inv w.drew) (h1:Ear a0 w.drew) (hs:StepsY P .any ops Q Sl Inv Fin Ear G a0 z y fl 0 ops.toList)
  (hfin:∀ a w,Same ops a0 a→Fin w→(∀ (i:Nat) (o:Oper) d,ops[i]?=some o→o.dst=some d→d ∈ keep→Sl d (a.tmps.getD d undef) w)→Q .normal a w) :
  (Code.region id ops true).wp P Q a0 w:=by
 obtain ⟨oz,hoz⟩:=Option.isSome_iff_exists.1 hzz;refine wp_region_any hm ?_
 have hun:∀ (i:Nat) (o:Oper),ops[i]?=some o→(Array.replicate ops.size false).getD i true=true→False:=fun i o ho hl=>by
  have hi:i < ops.size:=(Array.getElem?_eq_some_iff.1 ho).1
  simp [hi] at hl
 refine walkY z y oz hoz keep fl (fun j hj=>List.all_eq_true.1 hall j (List.mem_range.2 hj)) hmono hf (fun i o ho=>?_) hfin _ _ a0 w.drew ?_ (by simp) (fun j o ho hl=>(hun j o ho hl).elim) ⟨rfl,rfl,fun _ _=>rfl⟩ (fun _=>h0) (fun h=>(hun z oz hoz h).elim) (fun _=>h1) (fun i o d ho hl _ _=>(hun i o ho hl).elim)
 ·
  have:=hs.at i o (by simpa using ho)
  rwa [Nat.zero_add] at this
 ·
  have:∀ n,left (Array.replicate ops.size false) n≤n:=by
   intro n
   induction n with
   | zero=>exact Nat.le_refl _
   | succ n ih=>simp only [left];split <;> omega
  exact this _
end
end Flow
end Go.Proofs.YtdmhemgepdknhaaGreat
