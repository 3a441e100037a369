/-
  Texts, put together: FlowZ SecOps.
-/
import Derived.Great.BuildSlice
import Derived.Maps.AppendAt
import Derived.Test.YtdmhemgepdknhaaGreatV1
import Derived.Test.YtdmhemgepdknhaaGreatV3
set_option linter.unusedVariables false
set_option linter.unusedSimpArgs false
namespace Go.Proofs.YtdmhemgepdknhaaGreat
namespace Flow
open Go

section
variable {P:Program} {ops:Array Oper} {Q:Exit→Act→World→Prop} {md:Region.Mode}

/-- Which slots an operation reads. -/
def reads (md:Region.Mode) (ops:Array Oper) (o:Oper):List Nat:=(o.after.toList.filter fun e=>Region.binds md e && (match e.ground with
  | .data=>true
  | _=>false)).filterMap fun e=>(ops[e.on]?).bind (·.dst)
theorem early {b:Bool} {p:Prop} (h:cond b p True) (e:b=true):p:=by subst e;exact h

/-- May slot d be filled,and still be looked at by an operation that i does not wait for,as operation i comes up? -/
def bears2 (md:Region.Mode) (ops:Array Oper) (keep:List Nat) (fuel:Nat) (i d:Nat):Bool:=
  ((List.range ops.size).any fun j=>match ops[j]? with
    | some o=>o.dst == some d && !waits md ops i fuel j
    | none=>false) &&
  (keep.contains d || (List.range ops.size).any fun j=>j != i && !waits md ops j fuel i && match ops[j]? with
    | some o=>(reads md ops o).contains d
    | none=>false)
/-- Which slots must bear an operation: asked of the kernel. -/
theorem bears2_only {keep:List Nat} {fl i d:Nat} (l:List Nat) (h:(ops.toList.all fun o=>match o.dst with
    | some e => !(bears2 md ops keep fl i e) || l.contains e
    | none=>true)=true) (hb:bears2 md ops keep fl i d=true):d ∈ l:=by
  have h1:=hb
  unfold bears2 at h1
  rw [Bool.and_eq_true] at h1
  obtain ⟨j,_,hj⟩:=List.any_eq_true.1 h1.1
  cases ho:ops[j]? with
  | none=>rw [ho] at hj;cases hj
  | some o=>
    rw [ho] at hj
    simp only [Bool.and_eq_true,beq_iff_eq] at hj
    have h2:=List.all_eq_true.1 h o (by simpa using Array.mem_of_getElem? ho)
    rw [hj.1] at h2
    simp only [hb,Bool.not_true,Bool.false_or] at h2
    simpa using h2

/-- One operation: what holds of the world ahead of it,and behind it. -/
def StepV (P:Program) (md:Region.Mode) (ops:Array Oper) (Q:Exit→Act→World→Prop) (Sl:Nat→Value→World→Prop) (I J E:World→Prop) (early here:Bool) (G:World→World→Prop) (a0:Act) (o:Oper):Prop:=
  ∀ a w,Same ops a0 a→I w→cond early (E w) True→(∀ d,(reads md ops o).contains d=true→Sl d (a.tmps.getD d undef) w) →
    ∀ K:Act→World→Prop,(∀ v w',G w w'→J w'→cond here True (E w→E w')→(∀ d,o.dst=some d→Sl d v w')→K (a.put o.dst v) w') →
      if Region.wanted o (yielded ops a.tmps)=true then o.wp P a w K Q else K (a.put o.dst undef) w
/-- Each of them,with its number;z is the last one. -/
def StepsZ (P:Program) (md:Region.Mode) (ops:Array Oper) (Q:Exit→Act→World→Prop) (Sl:Nat→Value→World→Prop) (Inv Fin Ear:World→Prop) (G:Nat→World→World→Prop) (a0:Act) (z y fl:Nat):Nat→List Oper→Prop
  | _,[]=>True
  | i,o :: r=>StepV P md ops Q Sl Inv (cond (i == z) Fin Inv) Ear (waits md ops i fl y) (i == y || i == z) (G i) a0 o∧StepsZ P md ops Q Sl Inv Fin Ear G a0 z y fl (i+1) r
theorem StepsZ.cons {Sl:Nat→Value→World→Prop} {Inv Fin Ear:World→Prop} {G:Nat→World→World→Prop} {a0:Act} {z y fl i:Nat} {o:Oper} {r:List Oper} (h:StepV P md ops Q Sl Inv (cond (i == z) Fin Inv) Ear (waits md ops i fl y) (i == y || i == z) (G i) a0 o) (k:StepsZ P md ops Q Sl Inv Fin Ear G a0 z y fl (i+1) r):StepsZ P md ops Q Sl Inv Fin Ear G a0 z y fl i (o :: r):=⟨h,k⟩
theorem StepsZ.at {Sl:Nat→Value→World→Prop} {Inv Fin Ear:World→Prop} {G:Nat→World→World→Prop} {a0:Act} {z y fl:Nat}:∀ {l:List Oper} {i:Nat},StepsZ P md ops Q Sl Inv Fin Ear G a0 z y fl i l→∀ (j:Nat) (o:Oper),l[j]?=some o→StepV P md ops Q Sl Inv (cond (i+j == z) Fin Inv) Ear (waits md ops (i+j) fl y) (i+j == y || i+j == z) (G (i+j)) a0 o
  | [],_,_,_,_,h=>by simp at h
  | x :: r,i,h,0,o,ho=>by
    simp only [List.getElem?_cons_zero,Option.some.injEq] at ho
    subst ho
    exact h.1
  | x :: r,i,h,j+1,o,ho=>by
    simp only [List.getElem?_cons_succ] at ho
    have:=StepsZ.at h.2 j o ho
    rwa [show i+1+j=i+(j+1) by omega] at this

variable {Sl:Nat→Value→World→Prop} {Inv Fin Ear:World→Prop} {G:Nat→World→World→Prop} {a0:Act}

theorem walkZ (z y:Nat) (oz:Oper) (hoz:ops[z]?=some oz) (keep:List Nat) (fl:Nat) (hall:∀ j,j < ops.size→waits md ops j fl z=true) (hmono:∀ i d v w w',bears2 md ops keep fl i d=true→Sl d v w→G i w w'→Sl d v w') (hf:fine a0.tmps.size ops=true) (hs:∀ (i:Nat) (o:Oper),ops[i]?=some o→StepV P md ops Q Sl Inv (cond (i == z) Fin Inv) Ear (waits md ops i fl y) (i == y || i == z) (G i) a0 o)
    (hfin:∀ a w,Same ops a0 a→Fin w→(∀ (i:Nat) (o:Oper) d,ops[i]?=some o→o.dst=some d→d ∈ keep→Sl d (a.tmps.getD d undef) w)→Q .normal a w) :
    ∀ (fuel:Nat) (listed:Array Bool) (a:Act) (w:World),left listed ops.size≤fuel→listed.size=ops.size→Closed md ops listed→Same ops a0 a→(listed.getD z true=false→Inv w)→(listed.getD z true=true→Fin w)→(listed.getD y true=false→Ear w) →
      (∀ (i:Nat) (o:Oper) d,ops[i]?=some o→listed.getD i true=true→o.dst=some d→(d ∈ keep∨∃ (j:Nat) (oj:Oper),ops[j]?=some oj∧listed.getD j true=false∧d ∈ reads md ops oj)→Sl d (a.tmps.getD d undef) w)→wpAny P md ops Q fuel listed a w:=by
  have hzb:z < ops.size:=(Array.getElem?_eq_some_iff.1 hoz).1
  have ends:∀ (listed:Array Bool) (a:Act) (w:World),(∀ i,i < ops.size→listed.getD i true=true)→Same ops a0 a→(listed.getD z true=true→Fin w) →
      (∀ (i:Nat) (o:Oper) d,ops[i]?=some o→listed.getD i true=true→o.dst=some d→(d ∈ keep∨∃ (j:Nat) (oj:Oper),ops[j]?=some oj∧listed.getD j true=false∧d ∈ reads md ops oj)→Sl d (a.tmps.getD d undef) w)→Q .normal a w:=fun listed a w hl hsame hinv hsl=>
    hfin a w hsame (hinv (hl z hzb)) fun i o d ho hd hk=>hsl i o d ho (hl i (Array.getElem?_eq_some_iff.1 ho).1) hd (.inl hk)
  have alls:∀ listed:Array Bool,listed.size=ops.size→Region.ready md ops listed=[]→∀ i,i < ops.size→listed.getD i true=true:=by
    intro listed hsz hr i
    induction i using Nat.strongRecOn with
    | _ i ih=>
      intro hi
      cases hg:listed.getD i true with
      | true=>rfl
      | false=>
        exfalso
        have:i ∈ Region.ready md ops listed:=mem_ready.2 ⟨hg,ops[i],Array.getElem?_eq_getElem hi,fun e he _=>by
          have hlt:=fine_down hf (Array.getElem?_eq_getElem hi) e he
          have h1:=ih e.on hlt (by omega)
          have h2:e.on < listed.size:=by omega
          simp only [Array.getD_eq_getD_getElem?,Array.getElem?_eq_getElem h2,Option.getD_some] at h1 ⊢
          exact h1⟩
        rw [hr] at this
        cases this
  intro fuel
  induction fuel with
  | zero=>
    intro listed a w hl hsz hcl hsame hinv hfz hear hsl
    have hall2:=left_zero (listed:=listed) (n:=ops.size) (by omega)
    refine ⟨?_,ends listed a w hall2 hsame hfz hsl⟩
    cases hr:Region.ready md ops listed with
    | nil=>rfl
    | cons j r=>
      have hj:j ∈ Region.ready md ops listed:=by rw [hr];exact List.mem_cons_self ..
      obtain ⟨hun,o,ho,_⟩:=mem_ready.1 hj
      rw [hall2 j (Array.getElem?_eq_some_iff.1 ho).1] at hun
      cases hun
  | succ fuel ih=>
    intro listed a w hl hsz hcl hsame hinv hfz hear hsl
    refine ⟨fun hr=>ends listed a w (alls listed hsz hr) hsame hfz hsl,fun i hi=>?_⟩
    obtain ⟨hun,o,ho,hdep⟩:=mem_ready.1 hi
    have hib:i < ops.size:=(Array.getElem?_eq_some_iff.1 ho).1
    have flip:∀ j,j < ops.size→listed.getD j false=true→listed.getD j true=true:=fun j hj h=>by
      have h2:j < listed.size:=by omega
      simp only [Array.getD_eq_getD_getElem?,Array.getElem?_eq_getElem h2,Option.getD_some] at h ⊢
      exact h
    have anc:∀ j,waits md ops j fl i=true→j≠i→listed.getD j true=true:=fun j hw hne=>by
      cases fl with
      | zero=>exact absurd (by simpa [waits] using hw) hne
      | succ f=>
        simp only [waits,Bool.or_eq_true] at hw
        rcases hw with hw | hw
        · exact absurd (by simpa using hw) hne
        · rw [ho] at hw
          obtain ⟨k,hk,h2⟩:=Array.any_eq_true.1 hw
          simp only [Bool.and_eq_true] at h2
          have hmem:=Array.getElem_mem hk
          have hei:=fine_down hf ho _ hmem
          exact waits_listed hcl f _ h2.2 (flip _ (by omega) (hdep _ hmem h2.1))
    have hzn:listed.getD z true=false:=by
      cases hzl:listed.getD z true with
      | false=>rfl
      | true=>rw [waits_listed hcl fl z (hall i hib) hzl] at hun;cases hun
    have hyn:cond (waits md ops i fl y) (Ear w) True:=by
      cases hw:waits md ops i fl y with
      | false=>exact True.intro
      | true=>
        refine hear ?_
        cases hyl:listed.getD y true with
        | false=>rfl
        | true=>rw [waits_listed hcl fl y hw hyl] at hun;cases hun
    refine wpOp_step ho fun K hK=>hs i o ho a w hsame (hinv hzn) hyn ?_ K ?_
    · intro d hd
      have hd':d ∈ reads md ops o:=by simpa using hd
      obtain ⟨e,he,hed⟩:=List.mem_filterMap.1 hd'
      obtain ⟨he1,he3⟩:=List.mem_filter.1 he
      have he2:Region.binds md e=true:=by simp only [Bool.and_eq_true] at he3;exact he3.1
      cases hoe:ops[e.on]? with
      | none=>rw [hoe] at hed;cases hed
      | some oe=>
        rw [hoe] at hed
        have hl1:=hdep e (by simpa using he1) he2
        exact hsl e.on oe d hoe (flip _ (Array.getElem?_eq_some_iff.1 hoe).1 hl1) hed (.inr ⟨i,o,ho,hun,hd'⟩)
    · intro v w' hg hinv' hear' hv
      have hset:∀ j,listed.getD j true=true→(listed.setIfInBounds i true).getD j true=true:=fun j h=>by
        by_cases hji:i=j
        · subst hji
          have:i < listed.size:=by omega
          simp [this]
        · rw [getD_set_ne true hji];exact h
      refine hK _ _ (ih (listed.setIfInBounds i true) (a.put o.dst v) w' ?_ (by simpa using hsz) ?_ ⟨(put_defers ..).trans hsame.defers,(put_size ..).trans hsame.size,fun d hd=>?_⟩ ?_ ?_ ?_ ?_)
      · have:=left_less hun hib;omega
      · intro j oj hoj hlj e he hb
        by_cases hji:i=j
        · subst hji
          rw [ho] at hoj
          cases hoj
          have hei:e.on < ops.size:=by have:=fine_down hf ho e he;omega
          exact hset _ (flip _ hei (hdep e he hb))
        · rw [getD_set_ne true hji] at hlj
          exact hset _ (hcl j oj hoj hlj e he hb)
      · rw [getD_put_other (hd i o ho)];exact hsame.old d hd
      · intro h
        by_cases hiz:i=z
        · subst hiz
          have:i < listed.size:=by omega
          simp [this] at h
        · have e:(i == z)=false:=by simpa using hiz
          rw [e] at hinv'
          exact hinv'
      · intro h
        by_cases hiz:i=z
        · have e:(i == z)=true:=by simpa using hiz
          rw [e] at hinv'
          exact hinv'
        · rw [getD_set_ne true hiz,hzn] at h
          cases h
      · intro h
        by_cases hiy:i=y
        · subst hiy
          have:i < listed.size:=by omega
          simp [this] at h
        · rw [getD_set_ne true hiy] at h
          by_cases hiz:i=z
          · subst hiz
            have hyb:y < ops.size:=by
              rcases Nat.lt_or_ge y ops.size with h' | h'
              · exact h'
              · simp [Array.getElem?_eq_none (show listed.size≤y by omega)] at h
            have:=anc y (hall y hyb) (fun e=>hiy e.symm)
            rw [this] at h
            cases h
          · have e:(i == y || i == z)=false:=by simp [hiy,hiz]
            rw [e] at hear'
            exact hear' (hear h)
      · intro j oj d hoj hlj hdj hlive
        by_cases hji:j=i
        · subst hji
          rw [ho] at hoj
          cases hoj
          have hds:=(fine_slot hf ho hdj).1
          rw [hdj,getD_put_same (by rw [hsame.size];exact hds)]
          exact hv d hdj
        · rw [getD_put_other (fun e=>hji (fine_one hf hoj ho hdj e))]
          rw [getD_set_ne true (Ne.symm hji)] at hlj
          have hjb:j < ops.size:=(Array.getElem?_eq_some_iff.1 hoj).1
          refine hmono i d _ _ _ ?_ (hsl j oj d hoj hlj hdj ?_) hg
          · unfold bears2
            rw [Bool.and_eq_true]
            constructor
            · refine List.any_eq_true.2 ⟨j,List.mem_range.2 hjb,?_⟩
              rw [hoj]
              have hnw:waits md ops i fl j=false:=by
                cases hw:waits md ops i fl j with
                | false=>rfl
                | true=>rw [waits_listed hcl fl j hw hlj] at hun;cases hun
              simp [hdj,hnw]
            · rw [Bool.or_eq_true]
              rcases hlive with hk | ⟨j',oj',hoj',hl',hn'⟩
              · exact .inl (by simpa using hk)
              · right
                have hne:j'≠i:=by
                  rintro rfl
                  have:j' < listed.size:=by omega
                  simp [this] at hl'
                have hnw2:waits md ops j' fl i=false:=by
                  cases hw:waits md ops j' fl i with
                  | false=>rfl
                  | true=>
                    exfalso
                    have hl3:=anc j' hw hne
                    have hlj:listed.getD j' true=false:=by
                      cases hlj':listed.getD j' true with
                      | false=>rfl
                      | true=>rw [hset j' hlj'] at hl';cases hl'
                    rw [hl3] at hlj
                    cases hlj
                refine List.any_eq_true.2 ⟨j',List.mem_range.2 (Array.getElem?_eq_some_iff.1 hoj').1,?_⟩
                rw [hoj']
                simp [hne,hn',hnw2]
          · rcases hlive with hk | ⟨j',oj',hoj',hl',hn'⟩
            · exact .inl hk
            · refine .inr ⟨j',oj',hoj',?_,hn'⟩
              cases hlj':listed.getD j' true with
              | false=>rfl
              | true=>rw [hset j' hlj'] at hl';cases hl'

/-- **The law**,operation by operation. -/
theorem regionZ {id:Nat} {w:World} (z y:Nat) (hzz:(ops[z]?).isSome=true) (keep:List Nat) (fl:Nat) (Sl:Nat→Value→World→Prop) (Inv Fin Ear:World→Prop) (G:Nat→World→World→Prop) (hm:P.follows .mixedOrders=true) (hall:((List.range ops.size).all fun j=>waits .any ops j fl z)=true) (hf:fine a0.tmps.size ops=true)
    (hmono:∀ i d v w w',bears2 .any ops keep fl i d=true→Sl d v w→G i w w'→Sl d v w') (h0:Inv w.drew) (h1:Ear w.drew) (hs:StepsZ P .any ops Q Sl Inv Fin Ear G a0 z y fl 0 ops.toList)
    (hfin:∀ a w,Same ops a0 a→Fin w→(∀ (i:Nat) (o:Oper) d,ops[i]?=some o→o.dst=some d→d ∈ keep→Sl d (a.tmps.getD d undef) w)→Q .normal a w) :
    (Code.region id ops true).wp P Q a0 w:=by
  obtain ⟨oz,hoz⟩:=Option.isSome_iff_exists.1 hzz
  refine wp_region_any hm ?_
  have hun:∀ (i:Nat) (o:Oper),ops[i]?=some o→(Array.replicate ops.size false).getD i true=true→False:=fun i o ho hl=>by
    have hi:i < ops.size:=(Array.getElem?_eq_some_iff.1 ho).1
    simp [hi] at hl
  refine walkZ z y oz hoz keep fl (fun j hj=>List.all_eq_true.1 hall j (List.mem_range.2 hj)) hmono hf (fun i o ho=>?_) hfin _ _ a0 w.drew ?_ (by simp) (fun j o ho hl=>(hun j o ho hl).elim) ⟨rfl,rfl,fun _ _=>rfl⟩ (fun _=>h0) (fun h=>(hun z oz hoz h).elim) (fun _=>h1) (fun i o d ho hl _ _=>(hun i o ho hl).elim)
  · have:=hs.at i o (by simpa using ho)
    rwa [Nat.zero_add] at this
  · have:∀ n,left (Array.replicate ops.size false) n≤n:=by
      intro n
      induction n with
      | zero=>exact Nat.le_refl _
      | succ n ih=>simp only [left];split <;> omega
    exact this _


end
end Flow
end Go.Proofs.YtdmhemgepdknhaaGreat
namespace Go.Proofs.YtdmhemgepdknhaaGreat
open Go.RowKit Go.Maps
theorem set_all (off:Nat):∀ (l:List Value) (k:Nat) (cs:Array Value),off+k+l.length≤cs.size →
  ((l.zipIdx k).foldl (fun cs (p:Value × Nat)=>cs.setIfInBounds (off+p.2) p.1) cs)=(cs.toList.take (off+k)++l++cs.toList.drop (off+k+l.length)).toArray
 | [],k,cs,_=>by simp
 | v :: r,k,cs,h=>by
  have hl:off+k < cs.size:=by simp at h;omega
  rw [List.zipIdx_cons,List.foldl_cons,set_all off r (k+1) _ (by simp at h ⊢;omega)]
  apply congrArg List.toArray
  have e1:(cs.setIfInBounds (off+k) v).toList=cs.toList.set (off+k) v:=by simp
  show List.take (off+(k+1)) (cs.setIfInBounds (off+k) v).toList++r++_=_
  rw [e1,List.set_eq_take_append_cons_drop,if_pos (by simpa using hl)]
  have ht:(cs.toList.take (off+k)).length=off+k:=by simp;omega
  generalize cs.toList.take (off+k)=A at ht ⊢
  have h2:List.take (off+(k+1)) (A++v :: List.drop (off+k+1) cs.toList)=A++[v]:=by
   rw [List.take_append,ht,List.take_of_length_le (by omega),show off+(k+1) - (off+k)=1 by omega];rfl
  have h3:List.drop (off+(k+1)+r.length) (A++v :: List.drop (off+k+1) cs.toList)=List.drop (off+k+(v :: r).length) cs.toList:=by
   rw [List.drop_append,ht,List.drop_of_length_le (by omega),List.nil_append,show off+(k+1)+r.length - (off+k)=r.length+1 by omega,List.drop_succ_cons,List.drop_drop]
   congr 1
   simp;omega
  rw [h2,h3]
  simp
def partsL:Nat→List (List Value)→List (Nat × Value)
 | _,[]=>[]
 | k,l :: r=>(k,.agg l.toArray) :: partsL (k+1) r
theorem fill_many (K:Nat):∀ (ls:List (List Value)) (k:Nat) (cs:Array Value),(∀ l ∈ ls,l.length=K)→(k+ls.length)*K≤cs.size →
  Instr.fill (fun i=>some (i*K,K)) cs (partsL k ls)=some ((cs.toList.take (k*K)++ls.flatten++cs.toList.drop ((k+ls.length)*K)).toArray)
 | [],k,cs,_,_=>by
  rw [List.flatten_nil,List.append_nil,List.length_nil,Nat.add_zero,List.take_append_drop]
  rfl
 | l :: r,k,cs,hl,h=>by
  have hll:l.length=K:=hl l (by simp)
  have h2:(k+1+r.length)*K≤cs.size:=by rw [List.length_cons] at h;rwa [show k+1+r.length=k+(r.length+1) by omega]
  have hk:k*K+K≤cs.size:=by
   have:=Nat.mul_le_mul_right K (show k+1≤k+1+r.length by omega)
   rw [Nat.add_mul k 1 K,Nat.one_mul] at this
   omega
  have e1:(l.toArray.zipIdx.foldl (fun cs (p:Value × Nat)=>cs.setIfInBounds (k*K+p.2) p.1) cs)=(cs.toList.take (k*K)++l++cs.toList.drop (k*K+K)).toArray:=by
   have:=set_all (k*K) l 0 cs (by rw [hll];exact hk)
   rw [hll,Nat.add_zero] at this
   rw [← this,← Array.foldl_toList,Array.toList_zipIdx]
  have hsz:(cs.toList.take (k*K)++l++cs.toList.drop (k*K+K)).toArray.size=cs.size:=by
   simp only [List.size_toArray,List.length_append,List.length_take,List.length_drop,hll,Array.length_toList]
   omega
  show Instr.fill _ cs ((k,.agg l.toArray) :: partsL (k+1) r)=_
  unfold Instr.fill
  have e0:(Value.agg l.toArray).cells=l.toArray:=rfl
  simp only [e0,List.size_toArray,hll]
  rw [if_neg (by simp;omega)]
  show Instr.fill _ (l.toArray.zipIdx.foldl (fun cs (p:Value × Nat)=>cs.setIfInBounds (k*K+p.2) p.1) cs) (partsL (k+1) r)=_
  rw [e1,fill_many K r (k+1) _ (fun x hx=>hl x (by simp [hx])) (by rw [hsz];exact h2)]
  congr 1
  apply congrArg List.toArray
  have hA:(cs.toList.take (k*K)).length=k*K:=by simp;omega
  have hA2:(cs.toList.take (k*K)++l).length=(k+1)*K:=by rw [List.length_append,hA,hll,Nat.add_mul,Nat.one_mul]
  show List.take ((k+1)*K) (cs.toList.take (k*K)++l++cs.toList.drop (k*K+K))++r.flatten++List.drop ((k+1+r.length)*K) (cs.toList.take (k*K)++l++cs.toList.drop (k*K+K))=_
  rw [List.take_append_of_le_length (by rw [hA2];omega),List.take_of_length_le (by rw [hA2];omega),List.drop_append,hA2,List.drop_of_length_le (by rw [hA2];exact Nat.mul_le_mul_right K (by omega)),List.nil_append,List.drop_drop,List.flatten_cons,List.length_cons];rw [List.append_assoc,List.append_assoc,List.append_assoc,List.append_assoc]
  congr 4
  have h5:(k+1)*K≤(k+1+r.length)*K:=Nat.mul_le_mul_right K (by omega)
  have e5:(k+(r.length+1))*K=(k+1+r.length)*K:=by rw [show k+(r.length+1)=k+1+r.length by omega]
  rw [e5]
  have e6:(k+1)*K=k*K+K:=by rw [Nat.add_mul,Nat.one_mul]
  omega
def partsOf (k:Nat) (ss:List Sec):List (Nat × Value):=partsL k (ss.map Sec.cells)
theorem cellsOf_flat (ss:List Sec):(ss.map Sec.cells).flatten=cellsOf ss:=by unfold cellsOf;rw [List.flatMap_def]
theorem fill_secs (ss:List Sec) (cs:Array Value) (h:ss.length*256=cs.size):Instr.fill (fun i=>some (i*256,256)) cs (partsOf 0 ss)=some (cellsOf ss).toArray:=by
 have hf:=fill_many 256 (ss.map Sec.cells) 0 cs (fun l hl=>by obtain ⟨s,_,rfl⟩:=List.mem_map.1 hl;exact s.cells_len) (by rw [List.length_map,Nat.zero_add,h];exact Nat.le_refl _)
 unfold partsOf
 rw [hf,cellsOf_flat,List.length_map,Nat.zero_mul,List.take_zero,List.nil_append,Nat.zero_add,List.drop_of_length_le (by rw [Array.length_toList,h];exact Nat.le_refl _),List.append_nil]
theorem run_buildSecs (w:World) (ss:List Sec) (parts:Array (Nat × Value)) (n:Nat) (hn:n=ss.length) (h0:0 < n) (h1:n≤1000) (hp:parts.toList=partsOf 0 ss) :
  (Instr.buildSlice TL n parts).run Tryz.prog w=.ok (.slice (some ⟨w.heap.size,0,none⟩) n n) (w.alloc (.cells (cellsOf ss).toArray TS)):=by
 obtain ⟨i,hi,hz,hs,_⟩:=info_parts info_sec;have hsz:i.size=256:=hs;have hf:=fill_secs ss ((Array.range (n*256)).map ((Value.agg (sec Sec.zero)).cells[· % (Value.agg (sec Sec.zero)).cells.size]!)) (by rw [Array.size_map,Array.size_range,hn]);refine run_buildSlice w TL TS n parts _ i (.agg (sec Sec.zero)) Tryz.underlying50 hi hz ?_ ?_ ?_
 · rw [hsz];omega
 · rw [hsz];omega
 · rw [hsz,hp,hf]
theorem wp_buildSecs {o:Oper} {a:Act} {w:World} {K:Act→World→Prop} {Q:Exit→Act→World→Prop} (n:Nat) (parts:Array (Nat × Operand)) (ho:o.op=.buildSlice TL n parts) (ss:List Sec) (hn:n=ss.length) (h0:0 < n) (h1:n≤1000)
  (hp:(parts.map fun (i,x)=>(i,a.eval x)).toList=partsOf 0 ss) (h:K (a.put o.dst (.slice (some ⟨w.heap.size,0,none⟩) n n)) (w.alloc (.cells (cellsOf ss).toArray TS))):o.wp Tryz.prog a w K Q:=by
 unfold Oper.wp execOp
 simp only [ho,Sem.run_bind,run_buildSecs w ss _ n hn h0 h1 hp,Result.andThen_ok]
 exact h
theorem Row.lit (w:World) (ss:List Sec) (n:Nat) (hn:n=ss.length) (h1:n≤1000):Row (w.alloc (.cells (cellsOf ss).toArray TS)) (.slice (some ⟨w.heap.size,0,none⟩) n n) ss:=by
 subst hn;refine ⟨cellsOf_len ss,.inr ⟨_,_,_,rfl,Nat.zero_le _,heap_alloc_new w _,Nat.le_refl _,by unfold maxLen;omega,by rw [List.size_toArray,cellsOf_len],?_⟩⟩;rw [← cellsOf_len];exact List.take_length
theorem app_sec {w:World} {v:Value} {ss ts:List Sec} {o:Oper} {a:Act} {K:Act→World→Prop} {Q:Exit→Act→World→Prop} (s x:Operand) (ho:o.op=.call { callee:=.builtin .append,args:=#[s,x],argTypes:=#[TL,TL] })
  (hs:a.eval s=v) (hr:Row w v ss) {q m c:Nat} (hx:a.eval x=.slice (some ⟨q,0,none⟩) m c) (hy:Row w (.slice (some ⟨q,0,none⟩) m c) ts) (hm:m=ts.length) (hl:ss.length+m≤500000000000)
  (h:∀ v' w',Row w' v' (ss++ts)→w.grownBy w' v.ownBlock→(v'.ownBlock=v.ownBlock∨v'.ownBlock=some w.heap.size)→K (a.put o.dst v') w'):o.wp Tryz.prog a w K Q:=by
 obtain ⟨i,hi,hz,hsz,hb⟩:=info_parts info_sec
 have hnews:∀ j u,(cellsOf ts)[j]?=some u→w.cell? ((⟨q,0,none⟩:Addr).add j)=some u:=by
  intro j u hj
  have hlt:j < ts.length*256:=by rw [← cellsOf_len];exact (List.getElem?_eq_some_iff.1 hj).1
  have hq:j / 256 < ts.length:=by omega
  have e:j / 256*256+j % 256=j:=Nat.div_add_mod' j 256;have hl:=hy.lies (j / 256) hq (j % 256) u (by rw [← cellsOf_at ts (j / 256) hq (j % 256) (Nat.mod_lt _ (by omega)),e,hj]);rw [Addr.add_mid,Nat.zero_add]
  rwa [e] at hl
 obtain ⟨v',w',hrun,h1,h2,_,h3⟩:=run_append_own_at (P:=Tryz.prog) w 0 TL o.type TS i (.agg (sec Sec.zero)) 256 256 Tryz.underlying50 hi hz hsz hb (sec_size _) (by omega) v ss.length (cellsOf ss) hr ⟨q,0,none⟩ m c (cellsOf ts) (by rw [cellsOf_len,hm]) hnews (cellsOf_each ts) (by unfold maxLen;omega) (by omega) (Nat.zero_le _)
 unfold Oper.wp execOp
 simp only [ho,resolve,invoke,builtin,Sem.run_bind,Sem.run_pure,Result.andThen_ok,List.map_toArray,List.map_cons,List.map_nil,hs,hx,hrun]
 refine h v' w' ?_ h2 h3
 unfold Row
 rw [cellsOf_app,List.length_append,← hm];exact h1
theorem upd_loose {w:World} {b n:Nat} {D:DataW Value} {o:Oper} {a:Act} {K:Act→World→Prop} {Q:Exit→Act→World→Prop} (m x v:Operand) (ho:o.op=.mapUpdate TM m x v) (hm:a.eval m=.map (some b)) (i:Nat) (hi:i < 65536) (hx:a.eval x=.int .i64 (i:Int)) (u:Value) (hv:a.eval v=u)
  (hown:w.ownsMap Tryz.prog TI eltR b n D) (hn:n < maxLen)
  (h:∀ w',w'.ownsMap Tryz.prog TI eltR b (n+1) (D.put (key i) (.held u))→w.grownBy w' (some b)→K (a.put o.dst undef) w'):o.wp Tryz.prog a w K Q:=by
 obtain ⟨w',hrun,r1,r2⟩:=hown.update (t:=TM) (e:=TL) (int_keyed Tryz.underlying3) Tryz.underlying110 hn (key:=.int .i64 (i:Int)) (val:=u) (kl:=key i) (d:=.held u) (ps:=[]) (keyOf_int_mk Tryz.underlying3 (WalkArith.wf_i64 (by omega))) rfl
 unfold Oper.wp
 simp [execOp,ho,hm,hx,hv,hrun,Result.andThen]
 exact h _ r1 r2
end Go.Proofs.YtdmhemgepdknhaaGreat
