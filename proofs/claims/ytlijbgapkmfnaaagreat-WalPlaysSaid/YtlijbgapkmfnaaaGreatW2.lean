/-
  Part 2 of what the laws of stage 6 rest on: contracts of the functions that they call, and what these rest on.
-/
import Derived.Deep.DeepCutAuto
import Derived.Deep.CutBlock
import Derived.Outline
import Derived.Great.BuildSlice
import Derived.Maps.AppendAt
import Derived.Shelf.SlIterI.Nil
import Derived.Shelf.SortM.Plain
import Derived.Shelf.SortM.SortNone
import Derived.Test.YtlijbgapkmfnaaaGreatProg
import Derived.Test.YtlijbgapkmfnaaaGreatW1
set_option linter.unusedVariables false
set_option linter.unusedSimpArgs false
namespace Go.Proofs.YtlijbgapkmfnaaaGreat
open Go.RowKit Go.Maps
def St.wrote (s:St) (i:Nat) (x:Sec):St:={ s with fuse:=if 0 < s.fuse then s.fuse - 1 else s.fuse,t:=fun j=>if j=i then s.t i++[x] else s.t j,writes:=s.writes+1 }
def St.refuses (s:St):Prop:=s.fuse=0∨s.dead=true
instance (s:St):Decidable s.refuses:=inferInstanceAs (Decidable (_∨_))
set_option maxRecDepth 100000 in
set_option maxHeartbeats 1000000 in
theorem Write_deadM {F:Nat→Prop} {b:Nat} {lv:Value} {m:Nat} {L:Nat→Value} {s:St} (w:World) (h:DkAt w F b lv m L s) (i:Nat) (hi:i < s.ls.length) (x:Sec) (hr:s.refuses):Calls Tryz.prog 13 #[.pointer (some ⟨b,0,none⟩),.int .i64 (i:Int),.agg (sec x)] w fun e w'=>e=.returned (.int .i64 8)∧DkAt w' F b lv m L { s with dead:=true }∧Upd F F w w':=by
 have hg:Gr w (w.alloc (.cells (sec x) TS)):=(Gr.refl w).alloc (Nat.le_refl _) _;have h':=h.gr hg;have ha:=asked_any _ h' (i:Int)
 have he:askE s.ls.length (i:Int)=0:=by unfold askE;rw [if_neg (by omega)]
 rw [he] at ha
 have HA:=Lib.hid ha;obtain ⟨h0,h1,h2,h3,h4⟩:=h'.cells;have hf:=h'.blk.frozen 3;have HB:=Lib.hid (h'.blk.set 3 (.bool true));have HU:=Lib.hid (Upd.trans (Upd.of_gr (F:=F) hg) (upd_cell (w:=w.alloc (.cells (sec x) TS)) (i:=3) h.ownB (.bool true)));have HU0:=Lib.hid (Upd.of_gr (F:=F) hg);have HD:Hid (DkAt ((w.alloc (.cells (sec x) TS)).setCell ⟨b,3,none⟩ (.bool true)) F b lv m L { s with dead:=true }):=Lib.hid (h'.block (s':={ s with dead:=true }) ⟨h.ok.pos,h.ok.most,h.ok.out,h.ok.less,h.ok.lo,h.ok.hi⟩ rfl rfl (Nat.le_refl _) (by simpa using HB.out) (fun k _ hk=>Below.heap_setCell _ _ _ k hk) (by simp [World.setCell]))
 by_cases hz:s.fuse=0
 ·
  rw [hz] at h2
  clear h h' ha he hi HB hr h0 h1 h4 HU0 hz
  go_enter Tryz.func13,Tryz.ntmps13
  go_wp2_with fail;refine HA.out.mono ?_;rintro e w1 ⟨rfl,rfl⟩
  go_wp2
  go_ret
  exact ⟨rfl,HD.out,HU.out⟩
 ·
  have hd:s.dead=true:=by
                 rcases hr with h | h
                 · exact absurd h hz
                 · exact h
  have hs:{ s with dead:=true }=s:=by cases s;simp at hd;simp [hd]
  have HD0:Hid (DkAt (w.alloc (.cells (sec x) TS)) F b lv m L { s with dead:=true }):=Lib.hid (by rw [hs];exact h')
  rw [hd] at h3
  have hz2:(s.fuse == 0)=false:=by simpa using hz
  obtain ⟨f,hff⟩:∃ f,f=s.fuse:=⟨_,rfl⟩
  rw [← hff] at h2 hz2
  clear h h' ha he hi HB hr h0 h1 h4 HU hz hs HD hd hff
  go_enter Tryz.func13,Tryz.ntmps13
  go_wp2_with fail;refine HA.out.mono ?_;rintro e w1 ⟨rfl,rfl⟩
  go_wp2
  go_ret
  exact ⟨rfl,HD0.out,HU0.out⟩
theorem Write_dead {F:Nat→Prop} {p:Value} {s:St} (w:World) (h:Dk w F p s) (i:Nat) (hi:i < s.ls.length) (x:Sec) (hr:s.refuses):Calls Tryz.prog 13 #[p,.int .i64 (i:Int),.agg (sec x)] w fun e w'=>e=.returned (.int .i64 8)∧Dk w' F p { s with dead:=true }∧Upd F F w w':=by
 obtain ⟨b,lv,m,L,rfl,h⟩:=h;refine (Write_deadM w h i hi x hr).mono ?_;rintro e w' ⟨rfl,hd,hu⟩;exact ⟨rfl,⟨_,_,_,_,rfl,hd⟩,hu⟩
end Go.Proofs.YtlijbgapkmfnaaaGreat
namespace Go.Proofs.YtlijbgapkmfnaaaGreat
namespace Flow
open Go
section
variable {P:Program} {ops:Array Oper} {Q:Exit→Act→World→Prop} {md:Region.Mode}
def reads (md:Region.Mode) (ops:Array Oper) (o:Oper):List Nat:=(o.after.toList.filter fun e=>Region.binds md e && (match e.ground with
 | .data=>true
 | _=>false)).filterMap fun e=>(ops[e.on]?).bind (·.dst)
theorem early {b:Bool} {p:Prop} (h:cond b p True) (e:b=true):p:=by subst e;exact h
def bears2 (md:Region.Mode) (ops:Array Oper) (keep:List Nat) (fuel:Nat) (i d:Nat):Bool:=
 ((List.range ops.size).any fun j=>match ops[j]? with
  | some o=>o.dst == some d && !waits md ops i fuel j
  | none=>false) &&
 (keep.contains d || (List.range ops.size).any fun j=>j != i && !waits md ops j fuel i && match ops[j]? with
  | some o=>(reads md ops o).contains d
  | none=>false)
theorem bears2_only {keep:List Nat} {fl i d:Nat} (l:List Nat) (h:(ops.toList.all fun o=>match o.dst with
  | some e=>!(bears2 md ops keep fl i e) || l.contains e
  | none=>true)=true) (hb:bears2 md ops keep fl i d=true):d ∈ l:=by
 have h1:=hb
 unfold bears2 at h1
 rw [Bool.and_eq_true] at h1
 obtain ⟨j,_,hj⟩:=List.any_eq_true.1 h1.1
 cases ho:ops[j]? with
 | none=>rw [ho] at hj;cases hj
 | some o=>
  rw [ho] at hj
  simp only [Bool.and_eq_true,beq_iff_eq] at hj
  have h2:=List.all_eq_true.1 h o (by simpa using Array.mem_of_getElem? ho)
  rw [hj.1] at h2
  simp only [hb,Bool.not_true,Bool.false_or] at h2
  simpa using h2
def StepV (P:Program) (md:Region.Mode) (ops:Array Oper) (Q:Exit→Act→World→Prop) (Sl:Nat→Value→World→Prop) (I J E:World→Prop) (early here:Bool) (G:World→World→Prop) (a0:Act) (o:Oper):Prop:=
 ∀ a w,Same ops a0 a→I w→cond early (E w) True→(∀ d,(reads md ops o).contains d=true→Sl d (a.tmps.getD d undef) w) →
  ∀ K:Act→World→Prop,(∀ v w',G w w'→J w'→cond here True (E w→E w')→(∀ d,o.dst=some d→Sl d v w')→K (a.put o.dst v) w') →
   if Region.wanted o (yielded ops a.tmps)=true then o.wp P a w K Q else K (a.put o.dst undef) w
def StepsZ (P:Program) (md:Region.Mode) (ops:Array Oper) (Q:Exit→Act→World→Prop) (Sl:Nat→Value→World→Prop) (Inv Fin Ear:World→Prop) (G:Nat→World→World→Prop) (a0:Act) (z y fl:Nat):Nat→List Oper→Prop
 | _,[]=>True
 | i,o :: r=>StepV P md ops Q Sl Inv (cond (i == z) Fin Inv) Ear (waits md ops i fl y) (i == y || i == z) (G i) a0 o∧StepsZ P md ops Q Sl Inv Fin Ear G a0 z y fl (i+1) r
theorem StepsZ.cons {Sl:Nat→Value→World→Prop} {Inv Fin Ear:World→Prop} {G:Nat→World→World→Prop} {a0:Act} {z y fl i:Nat} {o:Oper} {r:List Oper} (h:StepV P md ops Q Sl Inv (cond (i == z) Fin Inv) Ear (waits md ops i fl y) (i == y || i == z) (G i) a0 o) (k:StepsZ P md ops Q Sl Inv Fin Ear G a0 z y fl (i+1) r):StepsZ P md ops Q Sl Inv Fin Ear G a0 z y fl i (o :: r):=⟨h,k⟩
theorem StepsZ.at {Sl:Nat→Value→World→Prop} {Inv Fin Ear:World→Prop} {G:Nat→World→World→Prop} {a0:Act} {z y fl:Nat}:∀ {l:List Oper} {i:Nat},StepsZ P md ops Q Sl Inv Fin Ear G a0 z y fl i l→∀ (j:Nat) (o:Oper),l[j]?=some o→StepV P md ops Q Sl Inv (cond (i+j == z) Fin Inv) Ear (waits md ops (i+j) fl y) (i+j == y || i+j == z) (G (i+j)) a0 o
 | [],_,_,_,_,h=>by simp at h
 | x :: r,i,h,0,o,ho=>by
  simp only [List.getElem?_cons_zero,Option.some.injEq] at ho
  subst ho;exact h.1
 | x :: r,i,h,j+1,o,ho=>by
  simp only [List.getElem?_cons_succ] at ho
  have:=StepsZ.at h.2 j o ho
  rwa [show i+1+j=i+(j+1) by omega] at this
variable {Sl:Nat→Value→World→Prop} {Inv Fin Ear:World→Prop} {G:Nat→World→World→Prop} {a0:Act}
theorem walkZ (z y:Nat) (oz:Oper) (hoz:ops[z]?=some oz) (keep:List Nat) (fl:Nat) (hall:∀ j,j < ops.size→waits md ops j fl z=true) (hmono:∀ i d v w w',bears2 md ops keep fl i d=true→Sl d v w→G i w w'→Sl d v w') (hf:fine a0.tmps.size ops=true) (hs:∀ (i:Nat) (o:Oper),ops[i]?=some o→StepV P md ops Q Sl Inv (cond (i == z) Fin Inv) Ear (waits md ops i fl y) (i == y || i == z) (G i) a0 o)
  (hfin:∀ a w,Same ops a0 a→Fin w→(∀ (i:Nat) (o:Oper) d,ops[i]?=some o→o.dst=some d→d ∈ keep→Sl d (a.tmps.getD d undef) w)→Q .normal a w) :
  ∀ (fuel:Nat) (listed:Array Bool) (a:Act) (w:World),left listed ops.size≤fuel→listed.size=ops.size→Closed md ops listed→Same ops a0 a→(listed.getD z true=false→Inv w)→(listed.getD z true=true→Fin w)→(listed.getD y true=false→Ear w) →
   (∀ (i:Nat) (o:Oper) d,ops[i]?=some o→listed.getD i true=true→o.dst=some d→(d ∈ keep∨∃ (j:Nat) (oj:Oper),ops[j]?=some oj∧listed.getD j true=false∧d ∈ reads md ops oj)→Sl d (a.tmps.getD d undef) w)→wpAny P md ops Q fuel listed a w:=by
 have hzb:z < ops.size:=(Array.getElem?_eq_some_iff.1 hoz).1
 have ends:∀ (listed:Array Bool) (a:Act) (w:World),(∀ i,i < ops.size→listed.getD i true=true)→Same ops a0 a→(listed.getD z true=true→Fin w) →
   (∀ (i:Nat) (o:Oper) d,ops[i]?=some o→listed.getD i true=true→o.dst=some d→(d ∈ keep∨∃ (j:Nat) (oj:Oper),ops[j]?=some oj∧listed.getD j true=false∧d ∈ reads md ops oj)→Sl d (a.tmps.getD d undef) w)→Q .normal a w:=fun listed a w hl hsame hinv hsl=>
  hfin a w hsame (hinv (hl z hzb)) fun i o d ho hd hk=>hsl i o d ho (hl i (Array.getElem?_eq_some_iff.1 ho).1) hd (.inl hk)
 have alls:∀ listed:Array Bool,listed.size=ops.size→Region.ready md ops listed=[]→∀ i,i < ops.size→listed.getD i true=true:=by
  intro listed hsz hr i
  induction i using Nat.strongRecOn with
  | _ i ih=>
   intro hi
   cases hg:listed.getD i true with
   | true=>rfl
   | false=>
    exfalso
    have:i ∈ Region.ready md ops listed:=mem_ready.2 ⟨hg,ops[i],Array.getElem?_eq_getElem hi,fun e he _=>by
     have hlt:=fine_down hf (Array.getElem?_eq_getElem hi) e he;have h1:=ih e.on hlt (by omega)
     have h2:e.on < listed.size:=by omega
     simp only [Array.getD_eq_getD_getElem?,Array.getElem?_eq_getElem h2,Option.getD_some] at h1 ⊢
     exact h1⟩
    rw [hr] at this
    cases this
 intro fuel
 induction fuel with
 | zero=>
  intro listed a w hl hsz hcl hsame hinv hfz hear hsl
  have hall2:=left_zero (listed:=listed) (n:=ops.size) (by omega);refine ⟨?_,ends listed a w hall2 hsame hfz hsl⟩
  cases hr:Region.ready md ops listed with
  | nil=>rfl
  | cons j r=>
   have hj:j ∈ Region.ready md ops listed:=by rw [hr];exact List.mem_cons_self ..
   obtain ⟨hun,o,ho,_⟩:=mem_ready.1 hj
   rw [hall2 j (Array.getElem?_eq_some_iff.1 ho).1] at hun
   cases hun
 | succ fuel ih=>
  intro listed a w hl hsz hcl hsame hinv hfz hear hsl
  refine ⟨fun hr=>ends listed a w (alls listed hsz hr) hsame hfz hsl,fun i hi=>?_⟩;obtain ⟨hun,o,ho,hdep⟩:=mem_ready.1 hi;have hib:i < ops.size:=(Array.getElem?_eq_some_iff.1 ho).1
  have flip:∀ j,j < ops.size→listed.getD j false=true→listed.getD j true=true:=fun j hj h=>by
   have h2:j < listed.size:=by omega
   simp only [Array.getD_eq_getD_getElem?,Array.getElem?_eq_getElem h2,Option.getD_some] at h ⊢
   exact h
  have anc:∀ j,waits md ops j fl i=true→j≠i→listed.getD j true=true:=fun j hw hne=>by
   cases fl with
   | zero=>exact absurd (by simpa [waits] using hw) hne
   | succ f=>
    simp only [waits,Bool.or_eq_true] at hw
    rcases hw with hw | hw
    · exact absurd (by simpa using hw) hne
    ·
     rw [ho] at hw
     obtain ⟨k,hk,h2⟩:=Array.any_eq_true.1 hw
     simp only [Bool.and_eq_true] at h2
     have hmem:=Array.getElem_mem hk;have hei:=fine_down hf ho _ hmem;exact waits_listed hcl f _ h2.2 (flip _ (by omega) (hdep _ hmem h2.1))
  have hzn:listed.getD z true=false:=by
   cases hzl:listed.getD z true with
   | false=>rfl
   | true=>rw [waits_listed hcl fl z (hall i hib) hzl] at hun;cases hun
  have hyn:cond (waits md ops i fl y) (Ear w) True:=by
   cases hw:waits md ops i fl y with
   | false=>exact True.intro
   | true=>
    refine hear ?_
    cases hyl:listed.getD y true with
    | false=>rfl
    | true=>rw [waits_listed hcl fl y hw hyl] at hun;cases hun
  refine wpOp_step ho fun K hK=>hs i o ho a w hsame (hinv hzn) hyn ?_ K ?_
  ·
   intro d hd
   have hd':d ∈ reads md ops o:=by simpa using hd
   obtain ⟨e,he,hed⟩:=List.mem_filterMap.1 hd';obtain ⟨he1,he3⟩:=List.mem_filter.1 he
   have he2:Region.binds md e=true:=by simp only [Bool.and_eq_true] at he3;exact he3.1
   cases hoe:ops[e.on]? with
   | none=>rw [hoe] at hed;cases hed
   | some oe=>
    rw [hoe] at hed
    have hl1:=hdep e (by simpa using he1) he2;exact hsl e.on oe d hoe (flip _ (Array.getElem?_eq_some_iff.1 hoe).1 hl1) hed (.inr ⟨i,o,ho,hun,hd'⟩)
  ·
   intro v w' hg hinv' hear' hv
   have hset:∀ j,listed.getD j true=true→(listed.setIfInBounds i true).getD j true=true:=fun j h=>by
    by_cases hji:i=j
    ·
     subst hji
     have:i < listed.size:=by omega
     simp [this]
    · rw [getD_set_ne true hji];exact h
   refine hK _ _ (ih (listed.setIfInBounds i true) (a.put o.dst v) w' ?_ (by simpa using hsz) ?_ ⟨(put_defers ..).trans hsame.defers,(put_size ..).trans hsame.size,fun d hd=>?_⟩ ?_ ?_ ?_ ?_)
   · have:=left_less hun hib;omega
   ·
    intro j oj hoj hlj e he hb
    by_cases hji:i=j
    ·
     subst hji
     rw [ho] at hoj
     cases hoj
     have hei:e.on < ops.size:=by have:=fine_down hf ho e he;omega
     exact hset _ (flip _ hei (hdep e he hb))
    ·
     rw [getD_set_ne true hji] at hlj
     exact hset _ (hcl j oj hoj hlj e he hb)
   · rw [getD_put_other (hd i o ho)];exact hsame.old d hd
   ·
    intro h
    by_cases hiz:i=z
    ·
     subst hiz
     have:i < listed.size:=by omega
     simp [this] at h
    ·
     have e:(i == z)=false:=by simpa using hiz
     rw [e] at hinv'
     exact hinv'
   ·
    intro h
    by_cases hiz:i=z
    ·
     have e:(i == z)=true:=by simpa using hiz
     rw [e] at hinv'
     exact hinv'
    ·
     rw [getD_set_ne true hiz,hzn] at h
     cases h
   ·
    intro h
    by_cases hiy:i=y
    ·
     subst hiy
     have:i < listed.size:=by omega
     simp [this] at h
    ·
     rw [getD_set_ne true hiy] at h
     by_cases hiz:i=z
     ·
      subst hiz
      have hyb:y < ops.size:=by
       rcases Nat.lt_or_ge y ops.size with h' | h'
       · exact h'
       · simp [Array.getElem?_eq_none (show listed.size≤y by omega)] at h
      have:=anc y (hall y hyb) (fun e=>hiy e.symm)
      rw [this] at h
      cases h
     ·
      have e:(i == y || i == z)=false:=by simp [hiy,hiz]
      rw [e] at hear'
      exact hear' (hear h)
   ·
    intro j oj d hoj hlj hdj hlive
    by_cases hji:j=i
    ·
     subst hji
     rw [ho] at hoj
     cases hoj
     have hds:=(fine_slot hf ho hdj).1;rw [hdj,getD_put_same (by rw [hsame.size];exact hds)];exact hv d hdj
    ·
     rw [getD_put_other (fun e=>hji (fine_one hf hoj ho hdj e))]
     rw [getD_set_ne true (Ne.symm hji)] at hlj
     have hjb:j < ops.size:=(Array.getElem?_eq_some_iff.1 hoj).1;refine hmono i d _ _ _ ?_ (hsl j oj d hoj hlj hdj ?_) hg
     ·
      unfold bears2
      rw [Bool.and_eq_true]
      constructor
      ·
       refine List.any_eq_true.2 ⟨j,List.mem_range.2 hjb,?_⟩;rw [hoj]
       have hnw:waits md ops i fl j=false:=by
        cases hw:waits md ops i fl j with
        | false=>rfl
        | true=>rw [waits_listed hcl fl j hw hlj] at hun;cases hun
       simp [hdj,hnw]
      ·
       rw [Bool.or_eq_true]
       rcases hlive with hk | ⟨j',oj',hoj',hl',hn'⟩
       · exact .inl (by simpa using hk)
       ·
        right
        have hne:j'≠i:=by
         rintro rfl
         have:j' < listed.size:=by omega
         simp [this] at hl'
        have hnw2:waits md ops j' fl i=false:=by
         cases hw:waits md ops j' fl i with
         | false=>rfl
         | true=>
          exfalso
          have hl3:=anc j' hw hne
          have hlj:listed.getD j' true=false:=by
           cases hlj':listed.getD j' true with
           | false=>rfl
           | true=>rw [hset j' hlj'] at hl';cases hl'
          rw [hl3] at hlj
          cases hlj
        refine List.any_eq_true.2 ⟨j',List.mem_range.2 (Array.getElem?_eq_some_iff.1 hoj').1,?_⟩;rw [hoj']
        simp [hne,hn',hnw2]
     ·
      rcases hlive with hk | ⟨j',oj',hoj',hl',hn'⟩
      · exact .inl hk
      ·
       refine .inr ⟨j',oj',hoj',?_,hn'⟩
       cases hlj':listed.getD j' true with
       | false=>rfl
       | true=>rw [hset j' hlj'] at hl';cases hl'
theorem regionZ {id:Nat} {w:World} (z y:Nat) (hzz:(ops[z]?).isSome=true) (keep:List Nat) (fl:Nat) (Sl:Nat→Value→World→Prop) (Inv Fin Ear:World→Prop) (G:Nat→World→World→Prop) (hm:P.follows .mixedOrders=true) (hall:((List.range ops.size).all fun j=>waits .any ops j fl z)=true) (hf:fine a0.tmps.size ops=true)
  (hmono:∀ i d v w w',bears2 .any ops keep fl i d=true→Sl d v w→G i w w'→Sl d v w') (h0:Inv w.drew) (h1:Ear w.drew) (hs:StepsZ P .any ops Q Sl Inv Fin Ear G a0 z y fl 0 ops.toList)
  (hfin:∀ a w,Same ops a0 a→Fin w→(∀ (i:Nat) (o:Oper) d,ops[i]?=some o→o.dst=some d→d ∈ keep→Sl d (a.tmps.getD d undef) w)→Q .normal a w) :
  (Code.region id ops true).wp P Q a0 w:=by
 obtain ⟨oz,hoz⟩:=Option.isSome_iff_exists.1 hzz;refine wp_region_any hm ?_
 have hun:∀ (i:Nat) (o:Oper),ops[i]?=some o→(Array.replicate ops.size false).getD i true=true→False:=fun i o ho hl=>by
  have hi:i < ops.size:=(Array.getElem?_eq_some_iff.1 ho).1
  simp [hi] at hl
 refine walkZ z y oz hoz keep fl (fun j hj=>List.all_eq_true.1 hall j (List.mem_range.2 hj)) hmono hf (fun i o ho=>?_) hfin _ _ a0 w.drew ?_ (by simp) (fun j o ho hl=>(hun j o ho hl).elim) ⟨rfl,rfl,fun _ _=>rfl⟩ (fun _=>h0) (fun h=>(hun z oz hoz h).elim) (fun _=>h1) (fun i o d ho hl _ _=>(hun i o ho hl).elim)
 ·
  have:=hs.at i o (by simpa using ho)
  rwa [Nat.zero_add] at this
 ·
  have:∀ n,left (Array.replicate ops.size false) n≤n:=by
   intro n
   induction n with
   | zero=>exact Nat.le_refl _
   | succ n ih=>simp only [left];split <;> omega
  exact this _
end
end Flow
end Go.Proofs.YtlijbgapkmfnaaaGreat
namespace Go.Proofs.YtlijbgapkmfnaaaGreat
open Go.RowKit Go.Maps
theorem set_all (off:Nat):∀ (l:List Value) (k:Nat) (cs:Array Value),off+k+l.length≤cs.size →
  ((l.zipIdx k).foldl (fun cs (p:Value × Nat)=>cs.setIfInBounds (off+p.2) p.1) cs)=(cs.toList.take (off+k)++l++cs.toList.drop (off+k+l.length)).toArray
 | [],k,cs,_=>by simp
 | v :: r,k,cs,h=>by
  have hl:off+k < cs.size:=by simp at h;omega
  rw [List.zipIdx_cons,List.foldl_cons,set_all off r (k+1) _ (by simp at h ⊢;omega)]
  apply congrArg List.toArray
  have e1:(cs.setIfInBounds (off+k) v).toList=cs.toList.set (off+k) v:=by simp
  show List.take (off+(k+1)) (cs.setIfInBounds (off+k) v).toList++r++_=_
  rw [e1,List.set_eq_take_append_cons_drop,if_pos (by simpa using hl)]
  have ht:(cs.toList.take (off+k)).length=off+k:=by simp;omega
  generalize cs.toList.take (off+k)=A at ht ⊢
  have h2:List.take (off+(k+1)) (A++v :: List.drop (off+k+1) cs.toList)=A++[v]:=by
   rw [List.take_append,ht,List.take_of_length_le (by omega),show off+(k+1) - (off+k)=1 by omega];rfl
  have h3:List.drop (off+(k+1)+r.length) (A++v :: List.drop (off+k+1) cs.toList)=List.drop (off+k+(v :: r).length) cs.toList:=by
   rw [List.drop_append,ht,List.drop_of_length_le (by omega),List.nil_append,show off+(k+1)+r.length - (off+k)=r.length+1 by omega,List.drop_succ_cons,List.drop_drop]
   congr 1
   simp;omega
  rw [h2,h3]
  simp
def partsL:Nat→List (List Value)→List (Nat × Value)
 | _,[]=>[]
 | k,l :: r=>(k,.agg l.toArray) :: partsL (k+1) r
theorem fill_many (K:Nat):∀ (ls:List (List Value)) (k:Nat) (cs:Array Value),(∀ l ∈ ls,l.length=K)→(k+ls.length)*K≤cs.size →
  Instr.fill (fun i=>some (i*K,K)) cs (partsL k ls)=some ((cs.toList.take (k*K)++ls.flatten++cs.toList.drop ((k+ls.length)*K)).toArray)
 | [],k,cs,_,_=>by
  rw [List.flatten_nil,List.append_nil,List.length_nil,Nat.add_zero,List.take_append_drop]
  rfl
 | l :: r,k,cs,hl,h=>by
  have hll:l.length=K:=hl l (by simp)
  have h2:(k+1+r.length)*K≤cs.size:=by rw [List.length_cons] at h;rwa [show k+1+r.length=k+(r.length+1) by omega]
  have hk:k*K+K≤cs.size:=by
   have:=Nat.mul_le_mul_right K (show k+1≤k+1+r.length by omega)
   rw [Nat.add_mul k 1 K,Nat.one_mul] at this
   omega
  have e1:(l.toArray.zipIdx.foldl (fun cs (p:Value × Nat)=>cs.setIfInBounds (k*K+p.2) p.1) cs)=(cs.toList.take (k*K)++l++cs.toList.drop (k*K+K)).toArray:=by
   have:=set_all (k*K) l 0 cs (by rw [hll];exact hk)
   rw [hll,Nat.add_zero] at this
   rw [← this,← Array.foldl_toList,Array.toList_zipIdx]
  have hsz:(cs.toList.take (k*K)++l++cs.toList.drop (k*K+K)).toArray.size=cs.size:=by
   simp only [List.size_toArray,List.length_append,List.length_take,List.length_drop,hll,Array.length_toList]
   omega
  show Instr.fill _ cs ((k,.agg l.toArray) :: partsL (k+1) r)=_
  unfold Instr.fill
  have e0:(Value.agg l.toArray).cells=l.toArray:=rfl
  simp only [e0,List.size_toArray,hll]
  rw [if_neg (by simp;omega)]
  show Instr.fill _ (l.toArray.zipIdx.foldl (fun cs (p:Value × Nat)=>cs.setIfInBounds (k*K+p.2) p.1) cs) (partsL (k+1) r)=_
  rw [e1,fill_many K r (k+1) _ (fun x hx=>hl x (by simp [hx])) (by rw [hsz];exact h2)]
  congr 1
  apply congrArg List.toArray
  have hA:(cs.toList.take (k*K)).length=k*K:=by simp;omega
  have hA2:(cs.toList.take (k*K)++l).length=(k+1)*K:=by rw [List.length_append,hA,hll,Nat.add_mul,Nat.one_mul]
  show List.take ((k+1)*K) (cs.toList.take (k*K)++l++cs.toList.drop (k*K+K))++r.flatten++List.drop ((k+1+r.length)*K) (cs.toList.take (k*K)++l++cs.toList.drop (k*K+K))=_
  rw [List.take_append_of_le_length (by rw [hA2];omega),List.take_of_length_le (by rw [hA2];omega),List.drop_append,hA2,List.drop_of_length_le (by rw [hA2];exact Nat.mul_le_mul_right K (by omega)),List.nil_append,List.drop_drop,List.flatten_cons,List.length_cons];rw [List.append_assoc,List.append_assoc,List.append_assoc,List.append_assoc]
  congr 4
  have h5:(k+1)*K≤(k+1+r.length)*K:=Nat.mul_le_mul_right K (by omega)
  have e5:(k+(r.length+1))*K=(k+1+r.length)*K:=by rw [show k+(r.length+1)=k+1+r.length by omega]
  rw [e5]
  have e6:(k+1)*K=k*K+K:=by rw [Nat.add_mul,Nat.one_mul]
  omega
def partsOf (k:Nat) (ss:List Sec):List (Nat × Value):=partsL k (ss.map Sec.cells)
theorem cellsOf_flat (ss:List Sec):(ss.map Sec.cells).flatten=cellsOf ss:=by unfold cellsOf;rw [List.flatMap_def]
theorem fill_secs (ss:List Sec) (cs:Array Value) (h:ss.length*256=cs.size):Instr.fill (fun i=>some (i*256,256)) cs (partsOf 0 ss)=some (cellsOf ss).toArray:=by
 have hf:=fill_many 256 (ss.map Sec.cells) 0 cs (fun l hl=>by obtain ⟨s,_,rfl⟩:=List.mem_map.1 hl;exact s.cells_len) (by rw [List.length_map,Nat.zero_add,h];exact Nat.le_refl _)
 unfold partsOf
 rw [hf,cellsOf_flat,List.length_map,Nat.zero_mul,List.take_zero,List.nil_append,Nat.zero_add,List.drop_of_length_le (by rw [Array.length_toList,h];exact Nat.le_refl _),List.append_nil]
theorem run_buildSecs (w:World) (ss:List Sec) (parts:Array (Nat × Value)) (n:Nat) (hn:n=ss.length) (h0:0 < n) (h1:n≤1000) (hp:parts.toList=partsOf 0 ss) :
  (Instr.buildSlice TL n parts).run Tryz.prog w=.ok (.slice (some ⟨w.heap.size,0,none⟩) n n) (w.alloc (.cells (cellsOf ss).toArray TS)):=by
 obtain ⟨i,hi,hz,hs,_⟩:=info_parts info_sec;have hsz:i.size=256:=hs;have hf:=fill_secs ss ((Array.range (n*256)).map ((Value.agg (sec Sec.zero)).cells[· % (Value.agg (sec Sec.zero)).cells.size]!)) (by rw [Array.size_map,Array.size_range,hn]);refine run_buildSlice w TL TS n parts _ i (.agg (sec Sec.zero)) Tryz.underlying44 hi hz ?_ ?_ ?_
 · rw [hsz];omega
 · rw [hsz];omega
 · rw [hsz,hp,hf]
theorem wp_buildSecs {o:Oper} {a:Act} {w:World} {K:Act→World→Prop} {Q:Exit→Act→World→Prop} (n:Nat) (parts:Array (Nat × Operand)) (ho:o.op=.buildSlice TL n parts) (ss:List Sec) (hn:n=ss.length) (h0:0 < n) (h1:n≤1000)
  (hp:(parts.map fun (i,x)=>(i,a.eval x)).toList=partsOf 0 ss) (h:K (a.put o.dst (.slice (some ⟨w.heap.size,0,none⟩) n n)) (w.alloc (.cells (cellsOf ss).toArray TS))):o.wp Tryz.prog a w K Q:=by
 unfold Oper.wp execOp
 simp only [ho,Sem.run_bind,run_buildSecs w ss _ n hn h0 h1 hp,Result.andThen_ok]
 exact h
theorem Row.lit (w:World) (ss:List Sec) (n:Nat) (hn:n=ss.length) (h1:n≤1000):Row (w.alloc (.cells (cellsOf ss).toArray TS)) (.slice (some ⟨w.heap.size,0,none⟩) n n) ss:=by
 subst hn;refine ⟨cellsOf_len ss,.inr ⟨_,_,_,rfl,Nat.zero_le _,heap_alloc_new w _,Nat.le_refl _,by unfold maxLen;omega,by rw [List.size_toArray,cellsOf_len],?_⟩⟩;rw [← cellsOf_len];exact List.take_length
theorem app_sec {w:World} {v:Value} {ss ts:List Sec} {o:Oper} {a:Act} {K:Act→World→Prop} {Q:Exit→Act→World→Prop} (s x:Operand) (ho:o.op=.call { callee:=.builtin .append,args:=#[s,x],argTypes:=#[TL,TL] })
  (hs:a.eval s=v) (hr:Row w v ss) {q m c:Nat} (hx:a.eval x=.slice (some ⟨q,0,none⟩) m c) (hy:Row w (.slice (some ⟨q,0,none⟩) m c) ts) (hm:m=ts.length) (hl:ss.length+m≤500000000000)
  (h:∀ v' w',Row w' v' (ss++ts)→w.grownBy w' v.ownBlock→(v'.ownBlock=v.ownBlock∨v'.ownBlock=some w.heap.size)→K (a.put o.dst v') w'):o.wp Tryz.prog a w K Q:=by
 obtain ⟨i,hi,hz,hsz,hb⟩:=info_parts info_sec
 have hnews:∀ j u,(cellsOf ts)[j]?=some u→w.cell? ((⟨q,0,none⟩:Addr).add j)=some u:=by
  intro j u hj
  have hlt:j < ts.length*256:=by rw [← cellsOf_len];exact (List.getElem?_eq_some_iff.1 hj).1
  have hq:j / 256 < ts.length:=by omega
  have e:j / 256*256+j % 256=j:=Nat.div_add_mod' j 256;have hl:=hy.lies (j / 256) hq (j % 256) u (by rw [← cellsOf_at ts (j / 256) hq (j % 256) (Nat.mod_lt _ (by omega)),e,hj]);rw [Addr.add_mid,Nat.zero_add]
  rwa [e] at hl
 obtain ⟨v',w',hrun,h1,h2,_,h3⟩:=run_append_own_at (P:=Tryz.prog) w 0 TL o.type TS i (.agg (sec Sec.zero)) 256 256 Tryz.underlying44 hi hz hsz hb (sec_size _) (by omega) v ss.length (cellsOf ss) hr ⟨q,0,none⟩ m c (cellsOf ts) (by rw [cellsOf_len,hm]) hnews (cellsOf_each ts) (by unfold maxLen;omega) (by omega) (Nat.zero_le _)
 unfold Oper.wp execOp
 simp only [ho,resolve,invoke,builtin,Sem.run_bind,Sem.run_pure,Result.andThen_ok,List.map_toArray,List.map_cons,List.map_nil,hs,hx,hrun]
 refine h v' w' ?_ h2 h3
 unfold Row
 rw [cellsOf_app,List.length_append,← hm];exact h1
theorem upd_loose {w:World} {b n:Nat} {D:DataW Value} {o:Oper} {a:Act} {K:Act→World→Prop} {Q:Exit→Act→World→Prop} (m x v:Operand) (ho:o.op=.mapUpdate TM m x v) (hm:a.eval m=.map (some b)) (i:Nat) (hi:i < 65536) (hx:a.eval x=.int .i64 (i:Int)) (u:Value) (hv:a.eval v=u)
  (hown:w.ownsMap Tryz.prog TI eltR b n D) (hn:n < maxLen)
  (h:∀ w',w'.ownsMap Tryz.prog TI eltR b (n+1) (D.put (key i) (.held u))→w.grownBy w' (some b)→K (a.put o.dst undef) w'):o.wp Tryz.prog a w K Q:=by
 obtain ⟨w',hrun,r1,r2⟩:=hown.update (t:=TM) (e:=TL) (int_keyed Tryz.underlying3) Tryz.underlying93 hn (key:=.int .i64 (i:Int)) (val:=u) (kl:=key i) (d:=.held u) (ps:=[]) (keyOf_int_mk Tryz.underlying3 (WalkArith.wf_i64 (by omega))) rfl
 unfold Oper.wp
 simp [execOp,ho,hm,hx,hv,hrun,Result.andThen]
 exact h _ r1 r2
end Go.Proofs.YtlijbgapkmfnaaaGreat
namespace Go.Proofs.YtlijbgapkmfnaaaGreat
open Go.RowKit Go.Maps
theorem wp_load_sec {op:Oper} {a:Act} {w:World} {K:Act→World→Prop} {Q:Exit→Act→World→Prop} (x:Operand) (ho:op.op=.load TS x) {b o:Nat} {s:Sec} (hc:w.rangeAt b o s.cells) (hx:a.eval x=.pointer (some ⟨b,o,none⟩))
  (h:K (a.put op.dst (.agg (sec s))) w):op.wp Tryz.prog a w K Q:=
 wp_load_mid TS x ho b o hx s.cells _ hc under_sec rfl (by rw [s.cells_len];exact size_sec) h
theorem Gr.new (w:World) (o:Obj):Gr w (w.alloc o):=(Gr.refl w).alloc (Nat.le_refl _) o
theorem DkAt.neM {w:World} {F:Nat→Prop} {b:Nat} {lv:Value} {m:Nat} {L:Nat→Value} {s:St} (h:DkAt w F b lv m L s):b≠m:=fun e=>by
 subst e;obtain ⟨D,n,⟨es,c,h1,_⟩,_⟩:=h.map;have h2:=h.blk
 unfold Blk at h2
 rw [h1] at h2
 cases h2
theorem row_ne {w:World} {g b m:Nat} {v:Value} {ss:List Sec} {cs:Array Value} {n:Nat} {D:DataW Value} (h:Row w v ss) (hg:v.ownBlock=some g) (hb:Blk w b TD cs) (hm:w.ownsMap Tryz.prog TI eltR m n D):g≠b∧g≠m:=by
 obtain ⟨cur,hk⟩:=h.kind hg
 constructor
 ·
  intro e
  subst e
  unfold Blk at hb
  rw [hk] at hb
  simp only [Option.some.injEq,Obj.cells.injEq] at hb
  exact absurd hb.2.1 (by decide)
 ·
  intro e
  subst e;obtain ⟨es,c,h1,_⟩:=hm
  rw [hk] at h1
  cases h1
def Gw (u:Value) (i:Nat) (w w':World):Prop:=cond (i == 13) (w.grownBy w' u.ownBlock) (cond (i == 14) True (Gr w w'))
def Sw (W0:World) (b m i bx:Nat) (x:Sec) (u:Value) (ss:List Sec) (d:Nat) (v:Value) (w:World):Prop:=
 match d with
 | 38 | 39 | 43 | 44=>v=.pointer (some ⟨b,0,none⟩)
 | 40 | 45=>v=.pointer (some ⟨b,1,none⟩)
 | 41 | 46=>v=.map (some m)
 | 42 | 47=>v=.int .i64 (i:Int)
 | 48=>v=u∧Row w u ss
 | 49=>v=.agg (sec x)
 | 50=>∃ q,v=.slice (some ⟨q,0,none⟩) 1 1∧Row w (.slice (some ⟨q,0,none⟩) 1 1) [x]
 | 51=>Row w v (ss++[x])∧(v.ownBlock=u.ownBlock∨∃ g,v.ownBlock=some g∧W0.heap.size≤g)
 | _=>True
theorem Sw.kept {W0:World} {b m i bx:Nat} {x:Sec} {u:Value} {ss:List Sec} (d:Nat) (v:Value) (w w':World) (h:Sw W0 b m i bx x u ss d v w) (g:Gr w w'):Sw W0 b m i bx x u ss d v w':=by
 unfold Sw at h ⊢
 split <;> simp only at h
 all_goals first
  | exact h
  | exact ⟨h.1,Row.gr h.2 g⟩
  | exact (let ⟨q,h1,h2⟩:=h;⟨q,h1,Row.gr h2 g⟩)
  | exact ⟨Row.gr h.1 g,h.2⟩
theorem Sw.any {W0:World} {b m i bx:Nat} {x:Sec} {u:Value} {ss:List Sec} (d:Nat) (hd:d ∈ [38,39,40,41,42]) (v:Value) (w w':World) (h:Sw W0 b m i bx x u ss d v w):Sw W0 b m i bx x u ss d v w':=by
 simp only [List.mem_cons,List.not_mem_nil,or_false] at hd
 rcases hd with rfl | rfl | rfl | rfl | rfl <;> exact h
def Fw (W0:World) (m i:Nat) (x:Sec) (u:Value) (ss:List Sec) (n:Nat) (D:DataW Value) (w:World):Prop:=
 ∃ v w1,Row w1 v (ss++[x])∧W0.grownBy w1 u.ownBlock∧(v.ownBlock=u.ownBlock∨∃ g,v.ownBlock=some g∧W0.heap.size≤g)∧w.ownsMap Tryz.prog TI eltR m (n+1) (D.put (key i) (.held v))∧w1.grownBy w (some m)
theorem key_lit (i:Nat):WideAt.IsKeyLit (key i):=True.intro
theorem key_inj {i j:Nat} (h:key i=key j):i=j:=by
 unfold key at h
 simp only [Lit.int.injEq,true_and] at h
 omega
set_option maxHeartbeats 1000000 in
theorem DkAt.wrote {w0 w:World} {F:Nat→Prop} {b:Nat} {lv:Value} {m:Nat} {L:Nat→Value} {s:St} (h:DkAt w0 F b lv m L s) (i:Nat) (hi:i < s.ls.length) (x:Sec) {n:Nat} {D:DataW Value} (ho:w0.ownsMap Tryz.prog TI eltR m n D) (hn:n≤65536+s.writes)
  (hat:∀ i,i < s.ls.length→D.atKey (key i) (.held nilS)=.held (L i)) (hhas:∀ i,i < s.ls.length→(has D (key i)=true ↔ s.t i≠[])) (hkeys:∀ k,has D k=true→∃ i,i < s.ls.length∧k=key i) (hf:Fw w0 m i x (L i) (s.t i) n D w) :
  ∃ F' L',DkAt (w.setCell ⟨b,4,none⟩ (.int .i64 ((s.writes+1:Nat):Int))) F' b lv m L' { s with t:=fun j=>if j=i then s.t i++[x] else s.t j,writes:=s.writes+1 }∧Upd F F' w0 (w.setCell ⟨b,4,none⟩ (.int .i64 ((s.writes+1:Nat):Int))) ∧
   w.cell? ⟨b,4,none⟩=some (.int .i64 (s.writes:Int))∧w.frozen? ⟨b,4,none⟩=false:=by
 obtain ⟨v,w1,r1,g1,l1,ho2,g2⟩:=hf;have hbm:=h.neM;have hmL:=h.low m h.ownM;have hbL:=h.low b h.ownB
 have e1:∀ k,F k→(L i).ownBlock≠some k→w1.heap[k]?=w0.heap[k]?:=fun k hk hne=>g1.block k (h.low k hk) (fun e=>hne e.symm)
 have e2:∀ k,F k→(L i).ownBlock≠some k→k≠m→w.heap[k]?=w0.heap[k]?:=fun k hk hne hm=>(g2.block k (Nat.lt_of_lt_of_le (h.low k hk) g1.size) (fun e=>hm (by cases e;rfl))).trans (e1 k hk hne)
 have hbi:(L i).ownBlock≠some b:=fun e=>(row_ne (h.rows i) e h.blk ho).1 rfl
 have hmi:(L i).ownBlock≠some m:=fun e=>(row_ne (h.rows i) e h.blk ho).2 rfl
 have hblk:Blk w b TD #[lv,.map (some m),.int .i64 s.fuse,.bool s.dead,.int .i64 (s.writes:Int)]:=h.blk.stays (e2 b h.ownB hbi hbm)
 have hvm:∀ g,v.ownBlock=some g→g≠m∧g≠b:=fun g hg=>by
  have hb1:Blk w1 b TD #[lv,.map (some m),.int .i64 s.fuse,.bool s.dead,.int .i64 (s.writes:Int)]:=h.blk.stays (e1 b h.ownB hbi);have:=row_ne r1 hg hb1 (ownsMap_stays ho (e1 m h.ownM hmi));exact ⟨this.2,this.1⟩
 have hrow:Row w v (s.t i++[x]):=r1.stays fun g hg=>g2.block g (r1.lt g hg) (fun e=>(hvm g hg).1 (by cases e;rfl))
 have hsz:w0.heap.size≤w.heap.size:=Nat.le_trans g1.size g2.size
 have hset:∀ k,k≠b→(w.setCell ⟨b,4,none⟩ (.int .i64 ((s.writes+1:Nat):Int))).heap[k]?=w.heap[k]?:=fun k hk=>Below.heap_setCell w _ _ k hk
 have hss:(w.setCell ⟨b,4,none⟩ (.int .i64 ((s.writes+1:Nat):Int))).heap.size=w.heap.size:=by simp [World.setCell]
 have hlvne:∀ g,lv.ownBlock=some g→(L i).ownBlock≠some g:=fun g hg e=>h.apart0 i g e hg
 have hlvb:∀ g,lv.ownBlock=some g→g≠b∧g≠m:=fun g hg=>row_ne h.ls hg h.blk ho
 have hnew:∀ g,v.ownBlock=some g→¬ (∃ j,j≠i∧(L j).ownBlock=some g)∧lv.ownBlock≠some g:=fun g hg=>by
  rcases l1 with e | ⟨g',e,hge⟩
  ·
   rw [hg] at e
   exact ⟨fun ⟨j,hj,e2⟩=>hj (h.apart j i g e2 e.symm),fun e2=>h.apart0 i g e.symm e2⟩
  ·
   rw [hg] at e
   cases e
   refine ⟨fun ⟨j,hj,e2⟩=>?_,fun e2=>?_⟩
   · have:=(h.rows j).lt _ e2;omega
   · have:=h.ls.lt _ e2;omega
 refine ⟨fun k=>F k∨v.ownBlock=some k,fun j=>if j=i then v else L j,⟨?_,?_,?_,?_,?_,?_,?_,.inl h.ownB,.inl h.ownM,fun g hg=>.inl (h.ownL g hg),?_,?_⟩,?_,?_,?_⟩
 ·
  refine ⟨h.ok.pos,h.ok.most,fun j hj=>?_,fun j=>?_,h.ok.lo,h.ok.hi⟩
  ·
   show (if j=i then _ else _)=_
   rw [if_neg (by have:s.ls.length≤j:=hj;omega)];exact h.ok.out j hj
  ·
   show (if j=i then _ else _:List Sec).length≤s.writes+1
   have:=h.ok.less j;have:=h.ok.less i
   split
   · simp;omega
   · omega
 ·
  have:=hblk.set 4 (.int .i64 ((s.writes+1:Nat):Int))
  simpa using this
 · exact h.ls.stays fun g hg=>(hset g (hlvb g hg).1).trans (e2 g (h.ownL g hg) (hlvne g hg) (hlvb g hg).2)
 ·
  refine ⟨D.put (key i) (.held v),n+1,ownsMap_stays ho2 (hset m (fun e=>hbm e.symm)),by show n+1≤65536+(s.writes+1);omega,fun j hj=>?_,fun j hj=>?_,fun k hk=>?_⟩
  ·
   by_cases hji:j=i
   ·
    subst hji
    show _=DataW.held (if j=j then v else L j)
    rw [if_pos rfl];exact atKey_put_same ho.isMap (key_lit j) _ _
   ·
    show _=DataW.held (if j=i then v else L j)
    rw [if_neg hji,atKey_put_other (fun e=>hji (key_inj e))];exact hat j hj
  ·
   by_cases hji:j=i
   ·
    subst hji;refine ⟨fun _=>?_,fun _=>has_put_same ho.isMap (key_lit j) _⟩
    simp
   ·
    rw [has_put_other (fun e=>hji (key_inj e))]
    simp only [if_neg hji]
    exact hhas j hj
  ·
   by_cases hki:k=key i
   · exact ⟨i,hi,hki⟩
   ·
    rw [has_put_other hki] at hk
    exact hkeys k hk
 ·
  intro j
  by_cases hji:j=i
  ·
   subst hji
   simp only [if_pos]
   exact hrow.stays fun g hg=>hset g (hvm g hg).2
  ·
   simp only [if_neg hji]
   refine (h.rows j).stays fun g hg=>?_
   have:=row_ne (h.rows j) hg h.blk ho;exact (hset g this.1).trans (e2 g (h.ownR j g hg) (fun e=>hji (h.apart j i g hg e)) this.2)
 ·
  intro j k g hj hk
  by_cases hji:j=i <;> by_cases hki:k=i
  · rw [hji,hki]
  ·
   simp only [if_pos hji,if_neg hki] at hj hk
   exact absurd ⟨k,hki,hk⟩ (hnew g hj).1
  ·
   simp only [if_neg hji,if_pos hki] at hj hk
   exact absurd ⟨j,hji,hj⟩ (hnew g hk).1
  ·
   simp only [if_neg hji,if_neg hki] at hj hk
   exact h.apart j k g hj hk
 ·
  intro j g hj
  by_cases hji:j=i
  ·
   simp only [if_pos hji] at hj
   exact (hnew g hj).2
  ·
   simp only [if_neg hji] at hj
   exact h.apart0 j g hj
 ·
  intro j g hj
  by_cases hji:j=i
  ·
   simp only [if_pos hji] at hj
   exact .inr hj
  ·
   simp only [if_neg hji] at hj
   exact .inl (h.ownR j g hj)
 ·
  rintro k (hk | hk)
  · rw [hss];exact Nat.lt_of_lt_of_le (h.low k hk) hsz
  · rw [hss];exact hrow.lt k hk
 ·
  refine ⟨g2.os.trans g1.os,g2.tape.trans g1.tape,g2.output.trans g1.output,by rw [hss];exact hsz,fun k hk hF=>?_,fun k hk=>?_⟩
  ·
   have hkb:k≠b:=fun e=>hF (by rw [e];exact h.ownB)
   have hkm:k≠m:=fun e=>hF (by rw [e];exact h.ownM)
   have hki:(L i).ownBlock≠some k:=fun e=>hF (h.ownR i k e)
   exact (hset k hkb).trans ((g2.block k (Nat.lt_of_lt_of_le hk g1.size) (fun e=>hkm (by cases e;rfl))).trans (g1.block k hk (fun e=>hki e.symm)))
  ·
   rcases hk with hk | hk
   · exact .inl hk
   ·
    rcases l1 with e | ⟨g',e,hge⟩
    · exact .inl (h.ownR i k (e ▸ hk))
    · rw [hk] at e;cases e;exact .inr hge
 · exact hblk.cell 4
 · exact hblk.frozen 4
def Chg (F:Nat→Prop) (p:Value) (s:St) (v:Value) (w:World) (e:Ending) (w':World):Prop:=∃ F',e=.returned v∧Dk w' F' p s∧Upd F F' w w'
def Mw (w wx:World) (F:Nat→Prop) (b:Nat) (lv:Value) (m:Nat) (L:Nat→Value) (s:St) (x:Sec):Prop:=
 DkAt wx F b lv m L { s with fuse:=if 0 < s.fuse then s.fuse - 1 else s.fuse }∧Blk wx w.heap.size TS (sec x)∧Upd F F w wx∧w.heap.size < wx.heap.size
def ChgM (F:Nat→Prop) (b:Nat) (lv:Value) (m:Nat) (s:St) (v:Value) (w:World) (e:Ending) (w':World):Prop:=∃ F' L',e=.returned v∧DkAt w' F' b lv m L' s∧Upd F F' w w'
set_option maxRecDepth 100000 in
set_option maxHeartbeats 4000000 in
theorem Write_yesM {F:Nat→Prop} {b:Nat} {lv:Value} {m:Nat} {L:Nat→Value} {s:St} (w:World) (h:DkAt w F b lv m L s) (i:Nat) (hi:i < s.ls.length) (x:Sec) (hr:¬ s.refuses) (hw:s.writes≤1000000000):Calls Tryz.prog 13 #[.pointer (some ⟨b,0,none⟩),.int .i64 (i:Int),.agg (sec x)] w fun e w'=>ChgM F b lv m (s.wrote i x) (.int .i64 0) w e w':=by
 have hz:s.fuse≠0:=fun e=>hr (.inl e)
 have hd:s.dead=false:=by
  cases hq:s.dead with
  | false=>rfl
  | true=>exact absurd (.inr hq) hr
 have hg:Gr w (w.alloc (.cells (sec x) TS)):=(Gr.refl w).alloc (Nat.le_refl _) _;have h':=h.gr hg;have ha:=asked_any _ h' (i:Int)
 have he:askE s.ls.length (i:Int)=0:=by unfold askE;rw [if_neg (by omega)]
 rw [he] at ha
 have HA:=Lib.hid ha;obtain ⟨h0,h1,h2,h3,h4⟩:=h'.cells;have hf:=h'.blk.frozen 2
 rw [hd] at h3
 have hz2:(s.fuse == 0)=false:=by simpa using hz
 have hlo:=h.ok.lo;have hhi:=h.ok.hi;have HX0:=Lib.hid (Blk.new w TS (sec x));have HLow:Hid (¬ F w.heap.size):=Lib.hid (fun e=>by have:=h.low _ e;omega);have HU0:=Lib.hid (Upd.of_gr (F:=F) hg);have HD:Hid (DkAt (w.alloc (.cells (sec x) TS)) F b lv m L s):=Lib.hid h';have HWr:Hid (s.writes≤1000000000):=Lib.hid hw;have HIl:Hid (i < s.ls.length):=Lib.hid hi;have HB:=Lib.hid (h'.blk.set 2 (.int .i64 (s.fuse - 1)))
 have HD2:Hid (0 < s.fuse→DkAt ((w.alloc (.cells (sec x) TS)).setCell ⟨b,2,none⟩ (.int .i64 (s.fuse - 1))) F b lv m L { s with fuse:=s.fuse - 1 }):=Lib.hid fun hp=>
  h'.block (s':={ s with fuse:=s.fuse - 1 }) ⟨h.ok.pos,h.ok.most,h.ok.out,h.ok.less,by show -9223372036854775808≤s.fuse - 1;omega,by show s.fuse - 1≤9223372036854775807;omega⟩ rfl rfl (Nat.le_refl _) (by simpa using HB.out) (fun k _ hk=>Below.heap_setCell _ _ _ k hk) (by simp [World.setCell])
 have HU2:=Lib.hid (Upd.trans (Upd.of_gr (F:=F) hg) (upd_cell (w:=w.alloc (.cells (sec x) TS)) (i:=2) h.ownB (.int .i64 (s.fuse - 1))))
 have hnb:w.heap.size≠b:=fun e=>HLow.out (by rw [e];exact h.ownB)
 have HX2:Hid (Blk ((w.alloc (.cells (sec x) TS)).setCell ⟨b,2,none⟩ (.int .i64 (s.fuse - 1))) w.heap.size TS (sec x)):=Lib.hid (HX0.out.far (by simpa using hnb) _);have HBx:Hid (w.heap.size < (w.alloc (.cells (sec x) TS)).heap.size):=Lib.hid (by simp);clear h h' ha he hi hr h0 h1 h4 hd hw HB hz hg hnb
 go_enter Tryz.func13,Tryz.ntmps13
 go_wp2_with fail;refine HA.out.mono ?_;rintro e w1 ⟨rfl,rfl⟩
 go_upto_if 30 with fail
 go_cut [31] (fun s31 wx=>Mw w wx F b lv m L s x)
 case first=>
  by_cases hp:0 < s.fuse
  ·
   go_wp2
   go_meet
   exact ⟨by rw [if_pos hp];exact HD2.out hp,HX2.out,HU2.out,by simp [World.setCell]⟩
  ·
   go_wp2
   go_meet
   exact ⟨by rw [if_neg (by omega)];exact HD.out,HX0.out,HU0.out,HBx.out⟩
 case rest=>
  obtain ⟨w0,hw0⟩:∃ w0,w0=w:=⟨_,rfl⟩;subst hw0;clear HA HX0 HU0 HD HU2 HX2 HBx HD2 h2 h3 hf hz2 hlo hhi;obtain ⟨hd,hx,hu,hlt⟩:=hcut;obtain ⟨f',hff⟩:∃ f',f'=(if 0 < s.fuse then s.fuse - 1 else s.fuse):=⟨_,rfl⟩
  have hfin:s.wrote i x={ ls:=s.ls,t:=(fun j=>if j=i then s.t i++[x] else s.t j),fuse:=f',dead:=s.dead,writes:=s.writes+1 }:=by unfold St.wrote;rw [hff]
  have HFin:=Lib.hid hfin
  rw [← hff] at hd
  clear hfin hff;have HDk:=Lib.hid hd;have HU:=Lib.hid hu;obtain ⟨D,n,ho,hn,hat,hhas,hkeys⟩:=hd.map;have HMap:=Lib.hid (And.intro ho (And.intro hn (And.intro hat (And.intro hhas hkeys))));obtain ⟨u,hu1⟩:∃ u,u=L i:=⟨_,rfl⟩;obtain ⟨ss,hss⟩:∃ ss,ss=s.t i:=⟨_,rfl⟩
  have hrow:Row wc u ss:=by rw [hu1,hss];exact hd.rows i
  have hub:∀ g,u.ownBlock=some g→g≠b∧g≠m:=fun g hg=>row_ne hrow hg hd.blk ho
  have hux:u.ownBlock≠some w0.heap.size:=fun e=>HLow.out (hd.ownR i _ (by rw [← hu1];exact e))
  have hmlt:=hd.low m hd.ownM;have hblt:=hd.low b hd.ownB;have hmost:=hd.ok.most;have hless:=hd.ok.less i
  have HC:Hid (∀ W,wc.grownBy W u.ownBlock→W.cell? ⟨b,1,none⟩=some (.map (some m))):=Lib.hid fun W h=>(World.cell?_of_block (h.block b hblt fun e=>(hub b e.symm).1 rfl)).trans (hd.blk.cell 1)
  have HO:Hid (∀ W,wc.grownBy W u.ownBlock→W.ownsMap Tryz.prog TI eltR m n D):=Lib.hid fun W h=>ownsMap_stays ho (h.block m hmlt fun e=>(hub m e.symm).2 rfl)
  have HK:Hid (∀ W,wc.grownBy W u.ownBlock→(Instr.lookup TM (.map (some m)) (.int .i64 (i:Int)) false).run Tryz.prog W=.ok u W):=Lib.hid fun W h=>by
   rw [hu1];exact Loose.look (q:=65536+s.writes) (t:=s.t) ⟨D,n,HO.out W h,hn,hat,hhas,hkeys⟩ i HIl.out hmost
  have HR:Hid (∀ W,Gr wc W→Row W u ss):=Lib.hid fun W h=>hrow.gr h
  have HX:Hid (∀ W,wc.grownBy W u.ownBlock→W.rangeAt w0.heap.size 0 x.cells):=Lib.hid fun W h=>(hx.stays (h.block _ hlt fun e=>hux e.symm)).one
  have HL:Hid (ss.length+1≤500000000000):=Lib.hid (by rw [hss];have:=HWr.out;show _≤_;have h2:(s.t i).length≤s.writes:=hless;omega);have HI:Hid (i < 65536):=Lib.hid (by have:=HIl.out;have h2:s.ls.length≤65536:=hmost;omega);have HN:Hid (n < maxLen):=Lib.hid (by have:=HWr.out;have h2:n≤65536+s.writes:=hn;unfold maxLen;omega);have HUss:=Lib.hid (And.intro hu1 hss);have hwr:s.writes≤1000000000:=HWr.out;clear hd hx hu hlt ho hn hat hhas hkeys hrow hub hux hmlt hblt hmost hless hu1 hss;go_wp2_with fail;refine Flow.regionZ 14 13 (by kernel_rfl) [] 16 (Sw wc b m i w0.heap.size x u ss) (fun W=>wc.grownBy W u.ownBlock) (Fw wc m i x u ss n D) (Gr wc) (Gw u) (by kernel_rfl) (by kernel_rfl) (by kernel_rfl) ?mono ⟨rfl,rfl,rfl,Nat.le_refl _,fun _ _ _=>rfl⟩ ⟨rfl,rfl,rfl,Nat.le_refl _,fun _ _=>rfl⟩ ?steps ?fin
  case mono=>
   intro i d v w w' hb hs hg
   by_cases h13:i=13
   · subst h13;exact Sw.any d (Flow.bears2_only [38,39,40,41,42] (by kernel_rfl) hb) v w w' hs
   ·
    by_cases h14:i=14
    ·
     subst h14;have:=Flow.bears2_only [] (by kernel_rfl) hb
     cases this
    ·
     have e1:(i == 13)=false:=by simpa using h13
     have e2:(i == 14)=false:=by simpa using h14
     unfold Gw at hg
     rw [e1,e2] at hg
     exact Sw.kept d v w w' hs hg
  case fin=>
   intro a W hfr hfin hsl
   clear hsl;have e:=Flow.frame hfr [38,39,40,41,42,43,44,45,46,47,48,49,50,51] (List.range 59) (by kernel_rfl) (by kernel_rfl)
   simp [List.range,List.range.loop] at e
   rw [e];clear e hfr;have hdk:=HDk.out;obtain ⟨h1,h2,h3,h4,h5⟩:=HMap.out
   rw [HUss.out.1,HUss.out.2] at hfin
   obtain ⟨F',L',hD,hUp,hc4,hf4⟩:=hdk.wrote i HIl.out x h1 h2 h3 h4 h5 hfin;have HD:=Lib.hid hD;have HUp:=Lib.hid hUp
   simp only at hc4
   clear HMap HUss HDk HC HO HK HR HX HL HI HN hfin hdk h1 h2 h3 h4 h5 hD hUp
   rename_i K hK
   refine hK _ _ ?_
   have hw9:(s.writes:Int)≤1000000000:=by omega
   go_wp2
   go_ret
   exact ⟨F',L',rfl,by rw [HFin.out];exact HD.out,HU.out.trans HUp.out⟩
  case steps=>
   refine .cons (fun a W hfr hinv hear hdep K hK=>?_) ?_
   · have t0:=tAt (.pointer (some ⟨b,0,none⟩)) (hfr.at 0 (by kernel_rfl));refine fW0 rfl ?_;clear hfr hdep hear;go_simp;exact hK _ _ (show Gr W W from Gr.refl W) hinv (fun h=>h) (dsT rfl)
   refine .cons (fun a W hfr hinv hear hdep K hK=>?_) ?_
   · have t38:=tAt (.pointer (some ⟨b,0,none⟩)) (hdep 38 (by kernel_rfl));refine fW0 rfl ?_;clear hfr hdep hear;go_simp;exact hK _ _ (show Gr W W from Gr.refl W) hinv (fun h=>h) (dsT rfl)
   refine .cons (fun a W hfr hinv hear hdep K hK=>?_) ?_
   · have t39:=tAt (.pointer (some ⟨b,0,none⟩)) (hdep 39 (by kernel_rfl));refine fW0 rfl ?_;clear hfr hdep hear;go_simp;exact hK _ _ (show Gr W W from Gr.refl W) hinv (fun h=>h) (dsT rfl)
   refine .cons (fun a W hfr hinv hear hdep K hK=>?_) ?_
   · have t40:=tAt (.pointer (some ⟨b,1,none⟩)) (hdep 40 (by kernel_rfl));have hc:=HC.out W hinv;refine fW0 rfl ?_;clear hfr hdep hear;go_simp;exact hK _ _ (show Gr W W from Gr.refl W) hinv (fun h=>h) (dsT rfl)
   refine .cons (fun a W hfr hinv hear hdep K hK=>?_) ?_
   · have t1:=tAt (.int .i64 (i:Int)) (hfr.at 1 (by kernel_rfl));refine fW0 rfl ?_;clear hfr hdep hear;go_simp;exact hK _ _ (show Gr W W from Gr.refl W) hinv (fun h=>h) (dsT rfl)
   refine .cons (fun a W hfr hinv hear hdep K hK=>?_) ?_
   · have t0:=tAt (.pointer (some ⟨b,0,none⟩)) (hfr.at 0 (by kernel_rfl));refine fW0 rfl ?_;clear hfr hdep hear;go_simp;exact hK _ _ (show Gr W W from Gr.refl W) hinv (fun h=>h) (dsT rfl)
   refine .cons (fun a W hfr hinv hear hdep K hK=>?_) ?_
   · have t43:=tAt (.pointer (some ⟨b,0,none⟩)) (hdep 43 (by kernel_rfl));refine fW0 rfl ?_;clear hfr hdep hear;go_simp;exact hK _ _ (show Gr W W from Gr.refl W) hinv (fun h=>h) (dsT rfl)
   refine .cons (fun a W hfr hinv hear hdep K hK=>?_) ?_
   · have t44:=tAt (.pointer (some ⟨b,0,none⟩)) (hdep 44 (by kernel_rfl));refine fW0 rfl ?_;clear hfr hdep hear;go_simp;exact hK _ _ (show Gr W W from Gr.refl W) hinv (fun h=>h) (dsT rfl)
   refine .cons (fun a W hfr hinv hear hdep K hK=>?_) ?_
   · have t45:=tAt (.pointer (some ⟨b,1,none⟩)) (hdep 45 (by kernel_rfl));have hc:=HC.out W hinv;refine fW0 rfl ?_;clear hfr hdep hear;go_simp;exact hK _ _ (show Gr W W from Gr.refl W) hinv (fun h=>h) (dsT rfl)
   refine .cons (fun a W hfr hinv hear hdep K hK=>?_) ?_
   · have t1:=tAt (.int .i64 (i:Int)) (hfr.at 1 (by kernel_rfl));refine fW0 rfl ?_;clear hfr hdep hear;go_simp;exact hK _ _ (show Gr W W from Gr.refl W) hinv (fun h=>h) (dsT rfl)
   refine .cons (fun a W hfr hinv hear hdep K hK=>?_) ?_
   · have t46:=tAt (.map (some m)) (hdep 46 (by kernel_rfl));have t47:=tAt (.int .i64 (i:Int)) (hdep 47 (by kernel_rfl));refine fW0 rfl ?_;clear hfr hdep;have hk:=HK.out W hinv;have hr:=HR.out W (Flow.early hear (by kernel_rfl));clear hear;go_simp;exact hK _ _ (show Gr W W from Gr.refl W) hinv (fun h=>h) (fun d hd=>by cases hd;exact ⟨rfl,hr⟩)
   refine .cons (fun a W hfr hinv hear hdep K hK=>?_) ?_
   ·
    have s5:a.tmps.getD 5 undef=.pointer (some ⟨w0.heap.size,0,none⟩):=hfr.at 5 (by kernel_rfl)
    have t5:=tmpAt s5;refine fW0 rfl ?_;clear hfr hdep;refine wp_load_sec (.tmp 5) rfl (HX.out W hinv) (by simpa [Act.eval] using s5) ?_;exact hK _ _ (show Gr W W from Gr.refl W) hinv (fun h=>h) (dsT rfl)
   refine .cons (fun a W hfr hinv hear hdep K hK=>?_) ?_
   · have t49:=tAt (.agg (sec x)) (hdep 49 (by kernel_rfl));refine fW0 rfl ?_;clear hfr hdep;refine wp_buildSecs 1 #[(0,.tmp 49)] rfl [x] rfl (by omega) (by omega) (by simp [Act.eval,t49,partsOf,partsL,sec]) ?_;exact hK _ _ (show Gr W (W.alloc _) from Gr.new W _) (hinv.trans (World.grownBy_alloc W _ _)) (fun h=>Gr.trans h (Gr.new W _)) (fun d hd=>by cases hd;exact ⟨_,rfl,Row.lit W [x] 1 rfl (by omega)⟩)
   refine .cons (fun a W hfr hinv hear hdep K hK=>?_) ?_
   ·
    have s48:((a.tmps.getD 48 undef)=u∧Row W u ss):=hdep 48 (by kernel_rfl);have s50:(∃ q,(a.tmps.getD 50 undef)=.slice (some ⟨q,0,none⟩) 1 1∧Row W (.slice (some ⟨q,0,none⟩) 1 1) [x]):=hdep 50 (by kernel_rfl);refine fW0 rfl ?_;clear hfr hdep;obtain ⟨e48,r48⟩:=s48;obtain ⟨q,e50,r50⟩:=s50;refine app_sec (.tmp 48) (.tmp 50) rfl (by simpa [Act.eval] using e48) r48 (by simpa [Act.eval] using e50) r50 rfl HL.out ?_
    intro v' w' h1 h2 h3
    exact hK _ _ (show W.grownBy w' u.ownBlock from h2) (hinv.trans h2) True.intro (fun d hd=>by cases hd;exact ⟨h1,h3.imp id fun h=>⟨_,h,hinv.size⟩⟩)
   refine .cons (fun a W hfr hinv hear hdep K hK=>?_) ?_
   ·
    have s41:a.tmps.getD 41 undef=.map (some m):=hdep 41 (by kernel_rfl);have t41:=tmpAt s41;have s42:a.tmps.getD 42 undef=.int .i64 (i:Int):=hdep 42 (by kernel_rfl);have t42:=tmpAt s42;have s51:(Row W (a.tmps.getD 51 undef) (ss++[x])∧((a.tmps.getD 51 undef).ownBlock=u.ownBlock∨∃ g,(a.tmps.getD 51 undef).ownBlock=some g∧wc.heap.size≤g)):=hdep 51 (by kernel_rfl);refine fW0 rfl ?_;clear hfr hdep;obtain ⟨r51,l51⟩:=s51;refine upd_loose (.tmp 41) (.tmp 42) (.tmp 51) rfl (by simpa [Act.eval] using s41) i HI.out (by simpa [Act.eval] using s42) _ rfl (HO.out W hinv) HN.out ?_
    intro w' h1 h2
    exact hK _ _ True.intro ⟨_,W,r51,hinv,l51,h1,h2⟩ True.intro (fun d hd=>by cases hd)
   exact True.intro
theorem Write_yes {F:Nat→Prop} {p:Value} {s:St} (w:World) (h:Dk w F p s) (i:Nat) (hi:i < s.ls.length) (x:Sec) (hr:¬ s.refuses) (hw:s.writes≤1000000000):Calls Tryz.prog 13 #[p,.int .i64 (i:Int),.agg (sec x)] w fun e w'=>Chg F p (s.wrote i x) (.int .i64 0) w e w':=by
 obtain ⟨b,lv,m,L,rfl,h⟩:=h;refine (Write_yesM w h i hi x hr hw).mono ?_;rintro e w' ⟨F',L',rfl,hd,hu⟩;exact ⟨F',rfl,⟨_,_,_,_,rfl,hd⟩,hu⟩
end Go.Proofs.YtlijbgapkmfnaaaGreat
namespace Go.Proofs.YtlijbgapkmfnaaaGreat
open Go.Shelf
def Shl.keysA_ren:Go.Shelf.Ren:=⟨fun | 7=>82 | 10=>100 | n=>n,fun | 23=>93 | 26=>3 | 3=>44 | 28=>135 | 0=>0 | 27=>134 | 33=>89 | 4=>4 | n=>n,fun | n=>n⟩
theorem Shl.keysA:Go.Proofs.SlLaysZI.n7 Tryz.prog Shl.keysA_ren:={
 mixed:=by kernel_rfl
 f7:=⟨Tryz.f82.name,by decide,Tryz.func82.trans (congrArg some (by kernel_rfl))⟩
 f10:=⟨Tryz.f100.name,by decide,Tryz.func100.trans (congrArg some (by kernel_rfl))⟩
 t0:=Tryz.underlying0
 a0:=Tryz.isAgg0
 z0:=Tryz.sizeOf0
 v0:=Tryz.zeroValue0
 t4:=Tryz.underlying4
 a4:=Tryz.isAgg4
 z4:=Tryz.sizeOf4
 v4:=Tryz.zeroValue4
 t23:=Tryz.underlying93
 a23:=Tryz.isAgg93
 z23:=Tryz.sizeOf93
 v23:=Tryz.zeroValue93
 t26:=Tryz.underlying3
 a26:=Tryz.isAgg3
 z26:=Tryz.sizeOf3
 v26:=Tryz.zeroValue3
 t27:=Tryz.underlying134
 a27:=Tryz.isAgg134
 z27:=Tryz.sizeOf134
 v27:=Tryz.zeroValue134
 t28:=Tryz.underlying135
 a28:=Tryz.isAgg135
 z28:=Tryz.sizeOf135
 v28:=Tryz.zeroValue135
 t33:=Tryz.underlying89
 a33:=Tryz.isAgg89
 z33:=Tryz.sizeOf89
 v33:=Tryz.zeroValue89 }
def Shl.sortedA_ren:Go.Shelf.Ren:=⟨fun | 6=>81 | 8=>98 | 9=>99 | 11=>116 | 13=>118 | 12=>117 | 23=>139 | 24=>140 | 14=>130 | 15=>131 | 16=>132 | 17=>133 | 18=>134 | 19=>135 | 20=>136 | 21=>137 | 22=>138 | 25=>149 | 26=>150 | 27=>151 | 28=>152 | 29=>153 | 30=>154 | 31=>155 | n=>n,fun | 26=>3 | 28=>135 | 24=>34 | 0=>0 | 3=>3 | 37=>112 | 48=>116 | 50=>30 | 4=>4 | 40=>186 | 39=>185 | 45=>191 | 5=>5 | 9=>9 | 51=>198 | 55=>201 | 57=>203 | 58=>204 | 33=>89 | n=>n,fun | n=>n⟩
theorem Shl.sortedA:Go.Proofs.SlLaysZI.n6 Tryz.prog Shl.sortedA_ren:={
 mixed:=by kernel_rfl
 f6:=⟨Tryz.f81.name,by decide,Tryz.func81.trans (congrArg some (by kernel_rfl))⟩
 f8:=⟨Tryz.f98.name,by decide,Tryz.func98.trans (congrArg some (by kernel_rfl))⟩
 f11:=⟨Tryz.f116.name,by decide,Tryz.func116.trans (congrArg some (by kernel_rfl))⟩
 t0:=Tryz.underlying0
 a0:=Tryz.isAgg0
 z0:=Tryz.sizeOf0
 v0:=Tryz.zeroValue0
 t24:=Tryz.underlying34
 a24:=Tryz.isAgg34
 z24:=Tryz.sizeOf34
 v24:=Tryz.zeroValue34
 t26:=Tryz.underlying3
 a26:=Tryz.isAgg3
 z26:=Tryz.sizeOf3
 v26:=Tryz.zeroValue3
 t28:=Tryz.underlying135
 a28:=Tryz.isAgg135
 z28:=Tryz.sizeOf135
 v28:=Tryz.zeroValue135
 i26:=by kernel_rfl }
def Shl.sortA_ren:Go.Shelf.Ren:=⟨fun | 5=>99 | 8=>118 | 7=>117 | 19=>139 | 20=>140 | 10=>130 | 11=>131 | 12=>132 | 13=>133 | 14=>134 | 15=>135 | 16=>136 | 17=>137 | 18=>138 | 30=>149 | 31=>150 | 32=>151 | 33=>152 | 34=>153 | 35=>154 | 40=>155 | n=>n,fun | 23=>34 | 25=>3 | 3=>3 | 32=>112 | 22=>34 | 0=>0 | 44=>116 | 46=>30 | 4=>4 | 36=>186 | 35=>185 | 41=>191 | 5=>5 | 9=>9 | 53=>198 | 57=>201 | 63=>203 | 64=>204 | n=>n,fun | n=>n⟩
theorem Shl.sortA:Go.Proofs.SlLaysM.n5 Tryz.prog Shl.sortA_ren:={
 mixed:=by kernel_rfl
 f5:=⟨Tryz.f99.name,by decide,Tryz.func99.trans (congrArg some (by kernel_rfl))⟩
 f7:=⟨Tryz.f117.name,by decide,Tryz.func117.trans (congrArg some (by kernel_rfl))⟩
 f8:=Tryz.func118.trans (congrArg some (by kernel_rfl))
 f10:=⟨Tryz.f130.name,by decide,Tryz.func130.trans (congrArg some (by kernel_rfl))⟩
 f11:=⟨Tryz.f131.name,by decide,Tryz.func131.trans (congrArg some (by kernel_rfl))⟩
 f12:=⟨Tryz.f132.name,by decide,Tryz.func132.trans (congrArg some (by kernel_rfl))⟩
 f13:=⟨Tryz.f133.name,by decide,Tryz.func133.trans (congrArg some (by kernel_rfl))⟩
 f14:=⟨Tryz.f134.name,by decide,Tryz.func134.trans (congrArg some (by kernel_rfl))⟩
 f15:=⟨Tryz.f135.name,by decide,Tryz.func135.trans (congrArg some (by kernel_rfl))⟩
 f16:=⟨Tryz.f136.name,by decide,Tryz.func136.trans (congrArg some (by kernel_rfl))⟩
 f17:=⟨Tryz.f137.name,by decide,Tryz.func137.trans (congrArg some (by kernel_rfl))⟩
 f18:=⟨Tryz.f138.name,by decide,Tryz.func138.trans (congrArg some (by kernel_rfl))⟩
 f19:=Tryz.func139.trans (congrArg some (by kernel_rfl))
 f20:=Tryz.func140.trans (congrArg some (by kernel_rfl))
 f30:=⟨Tryz.f149.name,by decide,Tryz.func149.trans (congrArg some (by kernel_rfl))⟩
 f31:=Tryz.func150.trans (congrArg some (by kernel_rfl))
 f32:=Tryz.func151.trans (congrArg some (by kernel_rfl))
 f33:=⟨Tryz.f152.name,by decide,Tryz.func152.trans (congrArg some (by kernel_rfl))⟩
 f34:=⟨Tryz.f153.name,by decide,Tryz.func153.trans (congrArg some (by kernel_rfl))⟩
 f35:=⟨Tryz.f154.name,by decide,Tryz.func154.trans (congrArg some (by kernel_rfl))⟩
 f40:=⟨Tryz.f155.name,by decide,Tryz.func155.trans (congrArg some (by kernel_rfl))⟩
 t0:=Tryz.underlying0
 a0:=Tryz.isAgg0
 z0:=Tryz.sizeOf0
 v0:=Tryz.zeroValue0
 t3:=Tryz.underlying3
 a3:=Tryz.isAgg3
 z3:=Tryz.sizeOf3
 v3:=Tryz.zeroValue3
 t4:=Tryz.underlying4
 a4:=Tryz.isAgg4
 z4:=Tryz.sizeOf4
 v4:=Tryz.zeroValue4
 t5:=Tryz.underlying5
 a5:=Tryz.isAgg5
 z5:=Tryz.sizeOf5
 v5:=Tryz.zeroValue5
 t9:=Tryz.underlying9
 a9:=Tryz.isAgg9
 z9:=Tryz.sizeOf9
 v9:=Tryz.zeroValue9
 t22:=Tryz.underlying34
 a22:=Tryz.isAgg34
 z22:=Tryz.sizeOf34
 v22:=Tryz.zeroValue34
 t23:=Tryz.underlying34
 a23:=Tryz.isAgg34
 z23:=Tryz.sizeOf34
 v23:=Tryz.zeroValue34
 t25:=Tryz.underlying3
 a25:=Tryz.isAgg3
 z25:=Tryz.sizeOf3
 v25:=Tryz.zeroValue3
 t32:=Tryz.underlying112
 a32:=Tryz.isAgg112
 z32:=Tryz.sizeOf112
 v32:=Tryz.zeroValue112
 t35:=Tryz.underlying185
 a35:=Tryz.isAgg185
 z35:=Tryz.sizeOf185
 v35:=Tryz.zeroValue185
 t36:=Tryz.underlying186
 a36:=Tryz.isAgg186
 z36:=Tryz.sizeOf186
 v36:=Tryz.zeroValue186
 t41:=Tryz.underlying191
 a41:=Tryz.isAgg191
 z41:=Tryz.sizeOf191
 v41:=Tryz.zeroValue191
 t44:=Tryz.underlying116
 a44:=Tryz.isAgg116
 z44:=Tryz.sizeOf116
 v44:=Tryz.zeroValue116
 t46:=Tryz.underlying30
 a46:=Tryz.isAgg30
 z46:=Tryz.sizeOf30
 v46:=Tryz.zeroValue30
 t53:=Tryz.underlying198
 a53:=Tryz.isAgg198
 z53:=Tryz.sizeOf198
 v53:=Tryz.zeroValue198
 t57:=Tryz.underlying201
 a57:=Tryz.isAgg201
 z57:=Tryz.sizeOf201
 v57:=Tryz.zeroValue201
 t63:=Tryz.underlying203
 a63:=Tryz.isAgg203
 z63:=Tryz.sizeOf203
 v63:=Tryz.zeroValue203
 t64:=Tryz.underlying204
 a64:=Tryz.isAgg204
 z64:=Tryz.sizeOf204
 v64:=Tryz.zeroValue204 }
end Go.Proofs.YtlijbgapkmfnaaaGreat
namespace Go.Proofs.YtlijbgapkmfnaaaGreat
open Go.RowKit Go.Maps Go.Sort Go.Shelf
def St.loose (s:St):List Nat:=(List.range s.ls.length).filter fun i=>!(s.t i).isEmpty
theorem St.mem_loose {s:St} {i:Nat}:i ∈ s.loose ↔ i < s.ls.length∧s.t i≠[]:=by
 unfold St.loose
 rw [List.mem_filter,List.mem_range]
 cases s.t i <;> simp
def Ints (w:World) (base:Nat) (v:Value) (xs:List Nat):Prop:=w.ownsRow base TI 1 v xs.length (xs.map fun (x:Nat)=>Value.int .i64 (x:Int))
theorem keys_any (mb:Option Nat) (w:World):Calls Tryz.prog 82 #[.map mb] w fun e w'=>e=.returned (.func (.func 100) #[] #[.pointer (some ⟨w.heap.size,0,none⟩)])∧w.alloc (.cells #[.map mb] TM)=w':=by
 have h:=(callsIn_wide (n:=5)).1 (AnyZI.keys_in Shl.keysA Fence.wide 5 trivial rfl mb w)
 exact Calls.mono (P:=Tryz.prog) h fun e w' ⟨h1,h2⟩=>⟨h1,h2.symm⟩
theorem sortsA (m:Nat):AnyZI.SortsIn Tryz.prog Shl.sortedA_ren Fence.wide m:=
 ⟨fun blk off cap ss W hH hblk hsz=>callsIn_wide.2 (AnyM.slices_Sort_int Shl.sortA blk off cap ss W hH hblk hsz),
  fun p cap W=>callsIn_wide.2 (AnyM.slices_Sort_int_none Shl.sortA p cap W)⟩
theorem sorted_nats {xs:List Nat} (hp:xs.Pairwise (· < ·)) {D:DataW Value} {w:World} {b n:Nat} (hown:w.ownsMap Tryz.prog TI eltR b n D) (hm:∀ x:Nat,x ∈ xs ↔ has D (key x)=true) (hk:∀ k,has D k=true→∃ x:Nat,k=key x) {ss:List Int} (hs:ss.Perm (intKeys D)) :
  (ss.mergeSort fun x y=>decide (x≤y))=xs.map fun (x:Nat)=>(x:Int):=by
 obtain ⟨es,hD,hpw,hlit⟩:=hown.entries (int_keyed Tryz.underlying3);subst hD
 have hk2:∀ p ∈ es,∃ x,p.1=.int .i64 x:=fun p hp=>by
  obtain ⟨x,hx⟩:=hk p.1 (by rw [has_eq,List.any_eq_true];exact ⟨p,hp,WideAt.sameKey_self (hlit p hp)⟩);exact ⟨_,hx⟩
 have hnd:(xs.map fun (x:Nat)=>(x:Int)).Nodup:=List.pairwise_map.2 (hp.imp fun h e=>by omega)
 have hper:(xs.map fun (x:Nat)=>(x:Int)).Perm (intKeys (.map es)):=perm_intKeys hpw hk2 hnd fun x=>by
  rw [List.mem_map]
  constructor
  · rintro ⟨y,hy,rfl⟩;exact (hm y).1 hy
  ·
   intro h
   obtain ⟨y,hy⟩:=hk _ h
   unfold key at hy
   simp only [Lit.int.injEq,true_and] at hy
   subst hy;exact ⟨y,(hm y).2 h,rfl⟩
 have e1:(ss.mergeSort fun x y=>decide (x≤y))=((xs.map fun (x:Nat)=>(x:Int)).mergeSort fun x y=>decide (x≤y)):=mergeSort_of_perm_i (hs.trans hper.symm);rw [e1];refine List.mergeSort_of_pairwise (List.pairwise_map.2 (hp.imp fun h=>?_))
 simp only [decide_eq_true_eq]
 omega
set_option maxHeartbeats 1000000 in
theorem sorted_any (B b nn:Nat) (D:DataW Value) (w:World) (hB:B < w.heap.size) (hm:w.cell? ⟨B,0,none⟩=some (.map (some b))) (hown:w.ownsMap Tryz.prog TI eltR b nn D) (hn:nn≤10000000000) :
  Calls Tryz.prog 81 #[.func (.func 100) #[] #[.pointer (some ⟨B,0,none⟩)]] w fun e w'=>∃ (v:Value) (ss:List Int),e=.returned v∧ss.Perm (intKeys D) ∧
   w'.ownsRow w.heap.size TI 1 v ss.length ((ss.mergeSort (fun x y=>decide (x≤y))).map encZ)∧(v=.slice none 0 0 ↔ ss=[])∧Below w.heap.size w w':=by
 refine (callsIn_wide (n:=6)).1 ?_;have hsz:=hown.size_le
 have hseq:SeqGives Fence.wide 3 Tryz.prog 100 #[.pointer (some ⟨B,0,none⟩)] encZ (fun ss=>ss.Perm (intKeys D)) (Maps.size D) w:=
  AnyZI.keys_gives (ρ:=Shl.keysA_ren) { Shl.keysA with } Fence.wide _ trivial rfl (by omega) B b nn D w hB hm hown
 exact AnyZI.sorted_in Shl.sortedA Fence.wide 6 trivial trivial trivial trivial rfl (by omega) (sortsA _) (enters_of Tryz.func99 (by kernel_rfl) rfl) 100 #[.pointer (some ⟨B,0,none⟩)] trivial (enters_of Tryz.func100 (by kernel_rfl) rfl) _ (Maps.size D) (by unfold maxLen;omega) (by omega) w hseq
def RetLoose (xs:List Nat) (w:World) (e:Ending) (w':World):Prop:=∃ v,e=.returned v∧Ints w' w.heap.size v xs∧Gr w w'
set_option maxRecDepth 100000 in
set_option maxHeartbeats 1000000 in
theorem Loose_any {F:Nat→Prop} {p:Value} {s:St} (w:World) (h:Dk w F p s) (hw:s.writes≤1000000000):Calls Tryz.prog 63 #[p] w fun e w'=>RetLoose s.loose w e w':=by
 obtain ⟨b,lv,m,L,rfl,h⟩:=h;have HM:=Lib.hid (missing_no w h);obtain ⟨h0,h1,h2,h3,h4⟩:=h.cells;obtain ⟨D,n,ho,hn,hat,hhas,hkeys⟩:=h.map;have hk:Gr w (w.alloc (.cells #[.map (some m)] TM)):=(Gr.refl w).alloc (Nat.le_refl _) _;have HS:=Lib.hid (sorted_any w.heap.size m n D (w.alloc (.cells #[.map (some m)] TM)) (by simp) ((Blk.new w TM #[.map (some m)]).cell 0) (ho.alloc _) (by omega))
 have HO:Hid (∀ ss:List Int,ss.Perm (intKeys D)→(ss.mergeSort fun x y=>decide (x≤y))=s.loose.map fun (x:Nat)=>(x:Int)):=Lib.hid fun ss hs=>
  sorted_nats (by unfold St.loose;exact List.Pairwise.filter _ List.pairwise_lt_range) ho (fun x=>by
   rw [St.mem_loose]
   constructor
   ·
    intro ⟨hx,ht⟩
    exact (hhas x hx).2 ht
   ·
    intro hx
    obtain ⟨i,hi,e⟩:=hkeys _ hx;rw [key_inj e]
    rw [key_inj e] at hx
    exact ⟨hi,(hhas i hi).1 hx⟩) (fun k hk=>let ⟨i,_,e⟩:=hkeys k hk;⟨i,e⟩) hs
 have HG:=Lib.hid hk;clear h h0 h2 h3 h4 ho hn hat hhas hkeys hk hw
 go_enter Tryz.func63,Tryz.ntmps63
 go_wp2_with fail;refine HM.out.mono ?_;rintro e w1 ⟨rfl,rfl⟩;go_wp2_with fail;refine (keys_any _ _).mono ?_;rintro e w1 ⟨rfl,rfl⟩;go_wp2_with fail;refine HS.out.mono ?_;rintro e w1 ⟨v,ss,rfl,hss,hrow,_,hb⟩;have HRow:=Lib.hid hrow;have HB:=Lib.hid (Gr.trans HG.out hb);have HE:=Lib.hid (HO.out ss hss);have HLen:Hid (ss.length=s.loose.length):=Lib.hid (by have:=congrArg List.length (HO.out ss hss);rw [List.length_mergeSort,List.length_map] at this;exact this);clear hrow hb hss HS HO HG;go_wp2_with fail
 go_ret
 refine ⟨_,rfl,?_,HB.out⟩;have hr:=HRow.out
 rw [HE.out,HLen.out,List.map_map] at hr
 unfold Ints
 obtain ⟨hr1,hr2⟩:=hr;refine ⟨hr1,hr2.imp id ?_⟩;rintro ⟨g,cap,cur,h1,h2,h3⟩;exact ⟨g,cap,cur,h1,by simp at h2;omega,h3⟩
end Go.Proofs.YtlijbgapkmfnaaaGreat
namespace Go.Proofs.YtlijbgapkmfnaaaGreat
open Go.RowKit Go.Maps
theorem app_secL {w:World} {ops:Array Oper} {rest:List Oper} {o:Oper} {a:Act} {Q:Exit→Act→World→Prop} {v:Value} {ss ts:List Sec} (hg:o.guard=none) (s x:Operand) (ho:o.op=.call { callee:=.builtin .append,args:=#[s,x],argTypes:=#[TL,TL] })
  (hs:a.eval s=v) (hr:Row w v ss) {q m c:Nat} (hx:a.eval x=.slice (some ⟨q,0,none⟩) m c) (hy:Row w (.slice (some ⟨q,0,none⟩) m c) ts) (hm:m=ts.length) (hl:ss.length+m≤500000000000)
  (h:∀ v' w',Row w' v' (ss++ts)→w.grownBy w' v.ownBlock→(v'.ownBlock=v.ownBlock∨v'.ownBlock=some w.heap.size)→wpList Tryz.prog ops Q rest (a.put o.dst v') w'):wpList Tryz.prog ops Q (o :: rest) a w:=
 wpList_plain hg fun _ hK=>app_sec s x ho hs hr hx hy hm hl fun v' w' h1 h2 h3=>hK _ _ (h v' w' h1 h2 h3)
def RetRow (ss:List Sec) (w:World) (e:Ending) (w':World):Prop:=∃ v,e=.returned v∧Row w' v ss∧(∀ g,v.ownBlock=some g→w.heap.size≤g)∧Gr w w'
set_option maxRecDepth 100000 in
set_option maxHeartbeats 1000000 in
theorem Clone_any (w:World) (v:Value) (ss:List Sec) (h:Row w v ss) (hne:ss≠[]) (hl:ss.length≤400000000000):Calls Tryz.prog 62 #[v] w fun e w'=>RetRow ss w e w':=by
 obtain ⟨g,c,rfl,hg,_⟩:=h.full hne;obtain ⟨n,hn⟩:∃ n,n=ss.length:=⟨_,rfl⟩
 rw [← hn] at h
 have hw:Gr w (w.alloc (.cells #[] TS)):=(Gr.refl w).alloc (Nat.le_refl _) _;have HR:=Lib.hid (h.gr hw);have HE:Hid (Row (w.alloc (.cells #[] TS)) (.slice (some ⟨w.heap.size,0,none⟩) 0 0) []):=Lib.hid ⟨rfl,.inr ⟨_,_,_,rfl,Nat.zero_le _,heap_alloc_new w _,Nat.le_refl _,Nat.zero_le _,by simp,by simp;rfl⟩⟩;have HN:=Lib.hid hn;have HG:=Lib.hid hw;have HL:=Lib.hid (show ([]:List Sec).length+n≤500000000000 by rw [hn];simp;omega)
 have hq:=fun w=>Lib.run_eql_slice_nil (P:=Tryz.prog) w TL TS (some ⟨g,0,none⟩) n c 0 0 Tryz.underlying44
 rw [← hn];clear h hne hw hn hl hg
 go_enter Tryz.func62,Tryz.ntmps62
 go_wp2_with (at_builtin;refine app_secL rfl _ _ rfl rfl HE.out rfl HR.out HN.out HL.out ?_)
 intro v' w' h1 h2 h3
 have HRow:Hid (Row w' v' ss):=Lib.hid (by simpa using h1);have HB:Hid (Gr w w'):=Lib.hid (HG.out.grown h2 HG.out.size (fun k e=>by cases e;exact Nat.le_refl _))
 have HF:Hid (∀ g,v'.ownBlock=some g→w.heap.size≤g):=Lib.hid fun g hg=>by
  rcases h3 with h3 | h3
  · rw [hg] at h3;simp [Value.ownBlock] at h3;omega
  · rw [hg] at h3;simp at h3;omega
 clear h1 h2 h3 hq
 go_wp2
 go_ret
 exact ⟨_,rfl,HRow.out,HF.out,HB.out⟩
end Go.Proofs.YtlijbgapkmfnaaaGreat
namespace Go.Proofs.YtlijbgapkmfnaaaGreat
open Go.RowKit Go.Maps
/-! ### which is chosen -/
theorem filter_at (p:Nat→Bool):∀ (N k i:Nat),((List.range N).filter p)[k]?=some i→((List.range i).filter p).length=k∧i < N∧p i=true
 | 0,k,i,h=>by simp at h
 | N+1,k,i,h=>by
  rw [List.range_succ,List.filter_append] at h
  by_cases hk:k < ((List.range N).filter p).length
  ·
   rw [List.getElem?_append_left hk] at h
   obtain ⟨h1,h2,h3⟩:=filter_at p N k i h;exact ⟨h1,by omega,h3⟩
  ·
   rw [List.getElem?_append_right (by omega)] at h
   cases hp:p N with
   | false=>simp [hp] at h
   | true=>
    simp only [hp,List.filter_cons,List.filter_nil,if_true] at h
    have hk0:k - ((List.range N).filter p).length=0:=by
     cases hq:k - ((List.range N).filter p).length with
     | zero=>rfl
     | succ m=>rw [hq] at h;simp at h
    rw [hk0] at h
    simp at h
    subst h;exact ⟨by omega,by omega,hp⟩
def St.rank (s:St) (i:Nat):Nat:=((List.range i).filter fun j=>!(s.t j).isEmpty).length
theorem St.loose_at {s:St} {k i:Nat} (h:s.loose[k]?=some i):s.rank i=k∧i < s.ls.length∧s.t i≠[]:=by
 obtain ⟨h1,h2,h3⟩:=filter_at _ _ _ _ h
 exact ⟨h1,h2,by cases ht:s.t i with
  | nil=>rw [ht] at h3;cases h3
  | cons x r=>simp⟩
def pickAt (picks:List Int) (k:Nat):Nat:=if k < picks.length then (picks.getD k 0 % 18446744073709551616).toNat else 0
theorem pickAt_lt (picks:List Int) (k:Nat):pickAt picks k < 18446744073709551616:=by
 unfold pickAt
 split <;> omega
def St.chosen (s:St) (picks:List Int) (i:Nat):Sec:=(s.ls.getD i Sec.zero :: s.t i).getD (pickAt picks (s.rank i) % ((s.t i).length+1)) Sec.zero
def St.crash (s:St) (picks:List Int):St:=fresh ((List.range s.ls.length).map (s.chosen picks))
def St.upto (s:St) (picks:List Int) (k:Nat):List Sec:=(s.loose.take k).foldl (fun l i=>l.set i (s.chosen picks i)) s.ls
theorem fold_set (f:Nat→Sec):∀ (is:List Nat) (l:List Sec),(is.foldl (fun l i=>l.set i (f i)) l).length=l.length∧∀ j,j < l.length→(is.foldl (fun l i=>l.set i (f i)) l).getD j Sec.zero=if j ∈ is then f j else l.getD j Sec.zero
 | [],l=>⟨rfl,fun j _=>by simp⟩
 | i :: r,l=>by
  obtain ⟨h1,h2⟩:=fold_set f r (l.set i (f i))
  rw [List.length_set] at h1
  refine ⟨h1,fun j hj=>?_⟩;rw [List.foldl_cons,h2 j (by rw [List.length_set];exact hj)]
  by_cases hr:j ∈ r
  · simp [hr]
  ·
   rw [if_neg hr]
   by_cases hji:j=i
   ·
    subst hji
    simp [List.getD,hj]
   · simp [hji,hr,List.getD,List.getElem?_set,Ne.symm hji]
theorem St.upto_len (s:St) (picks:List Int) (k:Nat):(s.upto picks k).length=s.ls.length:=(fold_set _ _ _).1
theorem St.upto_succ {s:St} {picks:List Int} {k i:Nat} (h:s.loose[k]?=some i):s.upto picks (k+1)=(s.upto picks k).set i (s.chosen picks i):=by
 unfold St.upto
 obtain ⟨hk,e⟩:=List.getElem?_eq_some_iff.1 h;rw [List.take_succ_eq_append_getElem hk,List.foldl_append,e]
 rfl
theorem chosen_none {s:St} {picks:List Int} {i:Nat} (h:s.t i=[]):s.chosen picks i=s.ls.getD i Sec.zero:=by
 unfold St.chosen
 rw [h]
 simp [Nat.mod_one]
theorem St.upto_all (s:St) (picks:List Int):s.upto picks s.loose.length=(List.range s.ls.length).map (s.chosen picks):=by
 apply List.ext_getElem?
 intro j
 by_cases hj:j < s.ls.length
 ·
  have h1:j < (s.upto picks s.loose.length).length:=by rw [s.upto_len];exact hj
  have h2:=(fold_set (s.chosen picks) (s.loose.take s.loose.length) s.ls).2 j hj
  rw [List.take_length] at h2
  have h3:(s.upto picks s.loose.length).getD j Sec.zero=s.chosen picks j:=by
   unfold St.upto
   rw [List.take_length,h2]
   split
   · rfl
   ·
    rename_i hn
    have:s.t j=[]:=by
     cases ht:s.t j with
     | nil=>rfl
     | cons x r=>exact absurd (St.mem_loose.2 ⟨hj,by rw [ht];simp⟩) hn
    rw [chosen_none this]
  rw [List.getElem?_eq_getElem h1]
  simp only [List.getD,List.getElem?_eq_getElem h1,Option.getD_some] at h3
  rw [h3]
  simp [hj]
 · rw [List.getElem?_eq_none (by rw [s.upto_len];omega),List.getElem?_eq_none (by simp;omega)]
theorem St.upto_same {s:St} {picks:List Int} {k i:Nat} (h:s.loose[k]?=some i) (hq:pickAt picks k % ((s.t i).length+1)=0):s.upto picks (k+1)=s.upto picks k:=by
 obtain ⟨h1,h2,h3⟩:=St.loose_at h
 have hc:s.chosen picks i=s.ls.getD i Sec.zero:=by unfold St.chosen;rw [h1,hq];rfl
 rw [St.upto_succ h,hc]
 apply List.ext_getElem?
 intro j
 rw [List.getElem?_set]
 split
 ·
  rename_i e
  subst e;have hlen:=s.upto_len picks k;have hg:=(fold_set (s.chosen picks) (s.loose.take k) s.ls).2 i h2
  have hnot:i ∉ s.loose.take k:=fun hm=>by
   obtain ⟨k',hk',e'⟩:=List.mem_iff_getElem.1 hm
   have hk2:k' < k:=by rw [List.length_take] at hk';omega
   rw [List.getElem_take] at e'
   have:=(St.loose_at (List.getElem?_eq_some_iff.2 ⟨by rw [List.length_take] at hk';omega,e'⟩)).1
   omega
  rw [if_neg hnot] at hg
  have hi':i < (s.upto picks k).length:=by rw [hlen];exact h2
  rw [if_pos hi']
  show _=(s.upto picks k)[i]?
  rw [List.getElem?_eq_getElem hi'];have:(s.upto picks k).getD i Sec.zero=s.ls.getD i Sec.zero:=hg
  simp only [List.getD,List.getElem?_eq_getElem hi',Option.getD_some] at this
  rw [this]
  rfl
 · rfl
theorem St.chosen_some {s:St} {picks:List Int} {k i q:Nat} (h:s.loose[k]?=some i) (hq:pickAt picks k % ((s.t i).length+1)=q+1) (hl:q < (s.t i).length):(s.t i)[q]=s.chosen picks i:=by
 obtain ⟨h1,h2,h3⟩:=St.loose_at h
 unfold St.chosen
 rw [h1,hq]
 simp [List.getD,hl]
/-! ### slices of numbers -/
structure Nums (w:World) (p:Option Addr) (n c:Nat) (zs:List Int):Prop where
 len:zs.length=n
 most:n≤9223372036854775807
 lies:0 < n→∃ b o,p=some ⟨b,o,none⟩∧∀ i,i < n→w.cell? ⟨b,o+i,none⟩=some (.int .i64 (zs.getD i 0))
 ok:∀ z ∈ zs,-9223372036854775808≤z∧z≤9223372036854775807
theorem Nums.gr {w w':World} {p:Option Addr} {n c:Nat} {zs:List Int} (h:Nums w p n c zs) (g:Gr w w'):Nums w' p n c zs:=
 ⟨h.len,h.most,fun hn=>by
  obtain ⟨b,o,e,hc⟩:=h.lies hn
  exact ⟨b,o,e,fun i hi=>by rw [g.cell (World.block_lt_of_cell? w _ (hc i hi))];exact hc i hi⟩,h.ok⟩
theorem Nums.nil (w:World):Nums w none 0 0 []:=⟨rfl,by omega,fun h=>absurd h (Nat.lt_irrefl 0),fun _ h=>by cases h⟩
theorem Ints.nums {w:World} {base:Nat} {v:Value} {xs:List Nat} (h:Ints w base v xs) (hs:∀ x ∈ xs,x < 65536):∃ p c,v=.slice p xs.length c∧(∀ g,v.ownBlock=some g→base≤g∧g < w.heap.size)∧Nums w p xs.length c (xs.map fun (x:Nat)=>(x:Int)):=by
 have hlt:=World.ownsRow.lt h
 rcases h.2 with ⟨rfl,h0⟩ | ⟨g,cap,cur,rfl,hb,hg,hn,hm,hsz,ht⟩
 · have:xs=[]:=List.eq_nil_of_length_eq_zero h0;subst this;exact ⟨none,0,rfl,(fun g hg=>by cases hg),Nums.nil w⟩
 ·
  refine ⟨_,cap,rfl,hlt,by simp,by unfold maxLen at hm;omega,fun _=>⟨g,0,rfl,fun i hi=>?_⟩,fun z hz=>?_⟩
  ·
   rw [Nat.zero_add,cell_of_row w g i cur TI (0,0) hg]
   have h2:cur.toList[i]?=(xs.map fun (x:Nat)=>Value.int .i64 (x:Int))[i]?:=by
    rw [← ht,List.getElem?_take,if_pos (by omega)]
   rw [← Array.getElem?_toList,h2]
   simp [List.getD,hi]
  ·
   obtain ⟨x,hx,rfl⟩:=List.mem_map.1 hz;have:=hs x hx
   omega
end Go.Proofs.YtlijbgapkmfnaaaGreat
namespace Go.Proofs.YtlijbgapkmfnaaaGreat
open Go.RowKit Go.Maps
theorem St.loose_small {s:St} (h:s.Ok):∀ x ∈ s.loose,x < 65536:=fun x hx=>by
 have:=(St.mem_loose.1 hx).1;have:=h.most
 omega
theorem St.loose_len (s:St):s.loose.length≤s.ls.length:=by
 unfold St.loose
 have:=List.length_filter_le (fun i=>!(s.t i).isEmpty) (List.range s.ls.length)
 rwa [List.length_range] at this
theorem Nums.stays {w w':World} {p:Option Addr} {n c:Nat} {zs:List Int} (h:Nums w p n c zs) (g:∀ a,p=some a→0 < n→w'.heap[a.block]?=w.heap[a.block]?):Nums w' p n c zs:=
 ⟨h.len,h.most,fun hn=>by
  obtain ⟨b,o,e,hc⟩:=h.lies hn
  exact ⟨b,o,e,fun i hi=>(World.cell?_of_block (a:=⟨b,o+i,none⟩) (show w'.heap[b]?=w.heap[b]? from g _ e hn)).trans (hc i hi)⟩,h.ok⟩
theorem Nums.lt {w:World} {p:Option Addr} {n c:Nat} {zs:List Int} (h:Nums w p n c zs) {a:Addr} (e:p=some a) (hn:0 < n):a.block < w.heap.size:=by
 obtain ⟨b,o,e2,hc⟩:=h.lies hn
 rw [e] at e2
 cases e2
 exact World.block_lt_of_cell? w _ (hc 0 hn)
theorem wpList_store_at {ops:Array Oper} {rest:List Oper} {op:Oper} {a:Act} {w:World} {Q:Exit→Act→World→Prop} (hgd:op.guard=none) (x y:Operand) (ho:op.op=.store TS x y)
  {b o:Nat} {s:Sec} (ht:w.there b o 256) (hx:a.eval x=.pointer (some ⟨b,o,none⟩)) (hy:a.eval y=.agg (sec s))
  (h:wpList Tryz.prog ops Q rest (a.put op.dst undef) (w.setCells b o s.cells)):wpList Tryz.prog ops Q (op :: rest) a w:=
 wpList_store_mid hgd TS x y ho b o (sec s) hx hy (by rw [sec_size];exact ht) (by rw [sec_size];exact size_sec) (sec_one s) h
theorem u64_wrap_nat (z:Int):IntKind.u64.wrap z=((z % 18446744073709551616).toNat:Int):=by
 rw [IntKind.wrap_u64]
 omega
theorem grown_setCells (w:World) (g o:Nat) (vs:List Value):w.grownBy (w.setCells g o vs) (some g):=by
 obtain ⟨h1,h2,h3,h4⟩:=setCells_os g vs o w;exact ⟨h1,h2,h3,by rw [h4];exact Nat.le_refl _,fun k _ hk=>heap_setCells_other g vs o w k (fun e=>hk (by rw [e]))⟩
set_option maxRecDepth 100000 in
set_option maxHeartbeats 4000000 in
theorem Crash_any {F:Nat→Prop} {p:Value} {s:St} (w:World) (h:Dk w F p s) (hw:s.writes≤1000000000) (q:Option Addr) (n c:Nat) (zs:List Int) (hz:Nums w q n c zs):Calls Tryz.prog 25 #[p,.slice q n c] w fun e w'=>NewDk w w' e (s.crash zs):=by
 obtain ⟨b,lv,m,L,rfl,h⟩:=h;have HM:=Lib.hid (missing_no w h);have HD:=Lib.hid h;obtain ⟨h0,h1,h2,h3,h4⟩:=h.cells
 have hne:s.ls≠[]:=fun e=>by have:=h.ok.pos;rw [e] at this;simp at this
 have HC:=Lib.hid (Clone_any w lv s.ls h.ls hne (by have:=h.ok.most;omega));have HZ:=Lib.hid hz;have HW:=Lib.hid (show s.writes≤1000000000 from hw);have hn63:=hz.most;have HLow:Hid (∀ k,F k→k < w.heap.size):=Lib.hid h.low;clear h h1 h2 h3 h4 hne hz hw
 go_enter Tryz.func25,Tryz.ntmps25
 go_wp2_with fail;refine HM.out.mono ?_;rintro e w1 ⟨rfl,rfl⟩;go_wp2_with fail;refine HC.out.mono ?_;rintro e w1 ⟨v,rfl,hr,hf,hg⟩;have HD1:=Lib.hid (HD.out.gr hg);have HR:=Lib.hid hr;have HF:=Lib.hid hf;have HG:=Lib.hid hg;clear hr hf hg h0 HC;go_wp2_with fail;refine (Loose_any w1 ⟨_,_,_,_,rfl,HD1.out⟩ HW.out).mono ?_;rintro e w2 ⟨lo,rfl,hi,hg⟩;obtain ⟨p2,c2,rfl,hfar,hnums⟩:=Ints.nums hi (St.loose_small HD1.out.ok);have HD2:=Lib.hid (HD1.out.gr hg);have HR2:=Lib.hid (HR.out.gr hg);have HG2:=Lib.hid (Gr.trans HG.out hg);have HI:=Lib.hid hnums;have HZ2:=Lib.hid ((HZ.out.gr HG.out).gr hg);obtain ⟨K,hK⟩:∃ K,K=s.loose.length:=⟨_,rfl⟩
 have hKs:K≤65536:=by rw [hK];have:=s.loose_len;have:=HD1.out.ok.most;omega
 rw [← hK] at HI
 have HK:=Lib.hid hK;obtain ⟨gv,cv,hv,hgv,_⟩:=HR.out.full (fun e=>by have:=HD1.out.ok.pos;rw [e] at this;simp at this);have hgb:w.heap.size≤gv:=HF.out gv (by rw [hv];rfl)
 have HFar:Hid (∀ a,p2=some a→a.block≠gv):=Lib.hid fun a ha e=>by
  subst ha;have:=(hfar a.block rfl).1;have:=HR.out.lt gv (by rw [hv];rfl)
  omega
 have HQ:Hid (∀ a,q=some a→0 < n→a.block≠gv):=Lib.hid fun a ha hn e=>by
  have:=HZ.out.lt ha hn
  omega
 have hgl:gv < w2.heap.size:=by have:=hg.size;omega
 rw [← hK];obtain ⟨N,hN⟩:∃ N,N=s.ls.length:=⟨_,rfl⟩
 rw [← hN] at hv
 have HN:=Lib.hid hN;subst hv;clear hi hfar hnums hg hK hN HD1 HR HG HZ HD HM hgv HF;go_wp2_with fail
 go_loopw [21] (fun i wr=>∃ k:Nat,k≤K∧i=.int .i64 k∧Hid (Row wr (.slice (some ⟨gv,0,none⟩) N cv) (s.upto zs k))∧Hid (w2.grownBy wr (some gv))) (fun i _=>K - (intOf i).toNat)
 case atStart=>exact ⟨0,Nat.zero_le _,rfl,HR2.out,World.grownBy.refl _ _⟩
 case round=>
  obtain ⟨k,hk,rfl,hrow,hgr⟩:=hrel
  by_cases hlt:k < K
  ·
   have hDr:=HD2.out.stays (fun j hj=>hgr.out.block j (HD2.out.low j hj) (fun e=>by cases e;have:=HLow.out gv hj;omega)) hgr.out.size;obtain ⟨b2,o2,rfl,hc2⟩:=(HI.out.stays (w':=wr) (fun a ha hn=>hgr.out.block _ (HI.out.lt ha hn) (fun e=>HFar.out a ha (by cases e;rfl)))).lies (by omega)
   have hkk:k < s.loose.length:=by rw [← HK.out];exact hlt
   obtain ⟨i,hi⟩:∃ i,s.loose[k]?=some i:=⟨_,List.getElem?_eq_getElem hkk⟩;have hci:=hc2 k hlt
   have ei:(s.loose.map fun (x:Nat)=>(x:Int)).getD k 0=(i:Int):=by simp [List.getD,hi]
   rw [ei] at hci
   obtain ⟨hrank,hiN,hti⟩:=St.loose_at hi
   have hi6:i < 65536:=by have:=hDr.ok.most;omega
   have hlk:=hDr.map.look i hiN hDr.ok.most;obtain ⟨gi,ci,eL,_⟩:=(hDr.rows i).full hti;have hri:=hDr.rows i;obtain ⟨M,hM⟩:∃ M,M=(s.t i).length:=⟨_,rfl⟩
   have hM2:M≤1000000000:=by have:=hDr.ok.less i;have:=HW.out;omega
   rw [eL,← hM] at hri hlk
   obtain ⟨_,hb1,_⟩:=hDr.cells;have HRi:=Lib.hid hri;have HII:=Lib.hid hi;clear hi;have HMM:=Lib.hid hM;have HRow:=hrow;have HGr:=hgr;clear hDr hc2 ei hrank hti eL hri hM hrow hgr hkk;have HLk:=Lib.hid hlk;have HB1:=Lib.hid hb1;have HI6:=Lib.hid hi6;obtain ⟨P,hP⟩:∃ P,P=pickAt zs k:=⟨_,rfl⟩;have HP:=Lib.hid hP
   have hPlt:(P:Int) < 18446744073709551616:=by have:=pickAt_lt zs k;omega
   have HPlt:=Lib.hid hPlt;clear hlk hb1 hPlt
   go_upto_if 29 with fail
   go_cut [8] (fun s8 wc=>s8=.int .u64 (P:Int)∧wr=wc)
   case first=>
    by_cases hp:k < n
    ·
     obtain ⟨b3,o3,rfl,hc3⟩:=(HZ2.out.stays (w':=wr) (fun a ha hn=>HGr.out.block _ (HZ2.out.lt ha hn) (fun e=>HQ.out a ha hn (by cases e;rfl)))).lies (by omega);have hcz:=hc3 k hp;have hlz:=HZ2.out.len
     have HV:Hid (IntKind.u64.wrap (zs[k]?.getD 0)=(P:Int)):=Lib.hid (by
      rw [hP,u64_wrap_nat]
      unfold pickAt
      rw [if_pos (by omega)]
      rfl)
     clear hc3 hP hlz;have hv:=HV.out;clear HV;rw [show decide (k < n)=true from decide_eq_true hp]
     go_wp2
     go_meet
     exact ⟨rfl,rfl⟩
    ·
     have hP0:P=0:=by
      rw [hP]
      unfold pickAt
      rw [if_neg (by have:=HZ2.out.len;omega)]
     have HP0:=Lib.hid hP0;clear hP hP0;rw [show decide (k < n)=false from decide_eq_false hp];clear hp
     go_wp2
     go_meet
     exact ⟨by rw [HP0.out];rfl,rfl⟩
   case rest=>
    obtain ⟨rfl,rfl⟩:=hcut;have hlk:=HLk.out;have hb1:=HB1.out;have hPlt:=HPlt.out;obtain ⟨Q,hQ⟩:∃ Q,P % (M+1)=Q:=⟨_,rfl⟩
    have hQi:(P:Int) % ((M:Int)+1)=(Q:Int):=by rw [← hQ];rfl
    have hQM:Q < M+1:=by rw [← hQ];exact Nat.mod_lt _ (by omega)
    have HQm:=Lib.hid hQ;clear hP hQ HLk HB1
    cases Q with
    | zero=>
     have HU:Hid (s.upto zs (k+1)=s.upto zs k):=Lib.hid (St.upto_same HII.out (by rw [← HP.out,← HMM.out];exact HQm.out));have hQ0:(P:Int) % ((M:Int)+1)=0:=hQi;clear hQi hQM
     go_wp2
     go_roundw
     case rel=>exact ⟨k+1,by omega,by go_num,by rw [HU.out];exact HRow,HGr⟩
     case measure=>simp [intOf];omega
    | succ r=>
     have hrM:r < (s.t i).length:=by rw [← HMM.out];omega
     have HL:=Lib.hid (HRi.out.lies r hrM);have HE:Hid ((s.t i)[r]=s.chosen zs i):=Lib.hid (St.chosen_some HII.out (by rw [← HP.out,← HMM.out];exact HQm.out) hrM)
     rw [HE.out] at HL
     have hiL:i < (s.upto zs k).length:=by rw [s.upto_len];exact hiN
     have HT:=Lib.hid (HRow.out.there i hiL);have HU:Hid (s.upto zs (k+1)=(s.upto zs k).set i (s.chosen zs i)):=Lib.hid (St.upto_succ HII.out);have HNew:=Lib.hid (HRow.out.put i hiL (s.chosen zs i));have HGr2:Hid (w2.grownBy (wr.setCells gv (i*256) (s.chosen zs i).cells) (some gv)):=Lib.hid (HGr.out.trans (grown_setCells _ _ _ _))
     have hiN2:i < N:=by rw [HN.out];exact hiN
     have hrM2:r < M:=by omega
     clear hiN hiL hrM HE
     go_wp2_with (first | (refine wpList_load_sec rfl _ rfl HL.out rfl ?_) | (refine wpList_store_at rfl _ _ rfl HT.out rfl rfl ?_))
     go_roundw
     case rel=>exact ⟨k+1,by omega,by go_num,by rw [HU.out];exact HNew.out,HGr2.out⟩
     case measure=>simp [intOf];omega
  ·
   obtain rfl:k=K:=by omega
   rw [HK.out,s.upto_all] at hrow
   have hlen:((List.range s.ls.length).map (s.chosen zs)).length=s.ls.length:=by simp
   have HC:=Lib.hid (lasting_any wr _ _ hrow.out (by rw [hlen];exact HD2.out.ok.pos) (by rw [hlen];exact HD2.out.ok.most));have HB:Hid (Gr w wr):=Lib.hid (HG2.out.grown hgr.out HG2.out.size (fun j e=>by cases e;exact hgb));clear hrow hlen hgr;go_wp2_with fail;refine HC.out.mono ?_;rintro e w3 ⟨p,rfl,hd,hg⟩;have HD3:=Lib.hid hd;have HG3:=Lib.hid (Gr.trans HB.out hg);have hsz:=HB.out.size;clear hd hg;go_wp2_with fail
   go_ret
   refine ⟨_,_,rfl,HD3.out,HG3.out,?_⟩;rintro j (hj | ⟨hj,_⟩)
   · cases hj;exact hgb
   · omega
end Go.Proofs.YtlijbgapkmfnaaaGreat
namespace Go.Proofs.YtlijbgapkmfnaaaGreat
open Go.RowKit Go.Maps
def St.part (s:St) (k:Nat):List Sec:=(s.loose.take k).foldl (fun l i=>l.set i (s.nw i)) s.ls
def St.barrier (s:St):St:={ s with ls:=(List.range s.ls.length).map s.nw,t:=fun _=>[] }
theorem St.part_len (s:St) (k:Nat):(s.part k).length=s.ls.length:=(fold_set _ _ _).1
theorem St.part_succ {s:St} {k i:Nat} (h:s.loose[k]?=some i):s.part (k+1)=(s.part k).set i (s.nw i):=by
 unfold St.part
 obtain ⟨hk,e⟩:=List.getElem?_eq_some_iff.1 h;rw [List.take_succ_eq_append_getElem hk,List.foldl_append,e]
 rfl
theorem St.part_all (s:St):s.part s.loose.length=(List.range s.ls.length).map s.nw:=by
 apply List.ext_getElem?
 intro j
 by_cases hj:j < s.ls.length
 ·
  have h1:j < (s.part s.loose.length).length:=by rw [s.part_len];exact hj
  have h2:=(fold_set s.nw (s.loose.take s.loose.length) s.ls).2 j hj
  rw [List.take_length] at h2
  have h3:(s.part s.loose.length).getD j Sec.zero=s.nw j:=by
   unfold St.part
   rw [List.take_length,h2]
   split
   · rfl
   ·
    rename_i hn
    have:s.t j=[]:=by
     cases ht:s.t j with
     | nil=>rfl
     | cons x r=>exact absurd (St.mem_loose.2 ⟨hj,by rw [ht];simp⟩) hn
    rw [nw_none this]
  rw [List.getElem?_eq_getElem h1]
  simp only [List.getD,List.getElem?_eq_getElem h1,Option.getD_some] at h3
  rw [h3]
  simp [hj]
 · rw [List.getElem?_eq_none (by rw [s.part_len];omega),List.getElem?_eq_none (by simp;omega)]
theorem nw_other {s:St} {i:Nat} (h:s.t i≠[]) (l:List Sec):({ s with ls:=l }:St).nw i=s.nw i:=by
 unfold St.nw
 cases ht:s.t i with
 | nil=>exact absurd ht h
 | cons x r=>rw [List.getLastD_cons,List.getLastD_cons]
theorem DkAt.putL {w:World} {F:Nat→Prop} {b gl c:Nat} {m:Nat} {L:Nat→Value} {s:St} {n:Nat} (h:DkAt w F b (.slice (some ⟨gl,0,none⟩) n c) m L s) (i:Nat) (hi:i < s.ls.length) (x:Sec) :
  DkAt (w.setCells gl (i*256) x.cells) F b (.slice (some ⟨gl,0,none⟩) n c) m L { s with ls:=s.ls.set i x }∧Upd F F w (w.setCells gl (i*256) x.cells):=by
 obtain ⟨D,k,ho,r⟩:=h.map;have hFl:F gl:=h.ownL gl rfl;have hg:=grown_setCells w gl (i*256) x.cells;have hne:=row_ne h.ls (g:=gl) rfl h.blk ho
 have e:∀ j,F j→j≠gl→(w.setCells gl (i*256) x.cells).heap[j]?=w.heap[j]?:=fun j hj hn=>hg.block j (h.low j hj) (fun e=>hn (by cases e;rfl))
 have hl:(s.ls.set i x).length=s.ls.length:=List.length_set;refine ⟨⟨⟨by show 0 < (s.ls.set i x).length;rw [hl];exact h.ok.pos,by show (s.ls.set i x).length≤_;rw [hl];exact h.ok.most,fun j hj=>h.ok.out j (by have:(s.ls.set i x).length≤j:=hj;omega),h.ok.less,h.ok.lo,h.ok.hi⟩,h.blk.stays (e b h.ownB (fun e=>hne.1 e.symm)),h.ls.put i hi x,?_,fun j=>(h.rows j).stays fun g hg=>e g (h.ownR j g hg) (fun e=>h.apart0 j g hg (by rw [e];rfl)),h.apart,h.apart0,h.ownB,h.ownM,h.ownL,h.ownR,fun j hj=>Nat.lt_of_lt_of_le (h.low j hj) hg.size⟩,?_⟩
 ·
  show Loose _ m _ (s.ls.set i x).length L s.t
  rw [hl];exact h.map.stays (e m h.ownM (fun e=>hne.2 e.symm))
 · exact ⟨hg.os,hg.tape,hg.output,hg.size,fun j hj hF=>hg.block j hj (fun e=>hF (by cases e;exact hFl)),fun j hj=>.inl hj⟩
def Sb (b gl i:Nat) (lv:Value) (x:Sec) (d:Nat) (v:Value) (_:World):Prop:=
 match d with
 | 18 | 19 | 23=>v=.pointer (some ⟨b,0,none⟩)
 | 20=>v=.pointer (some ⟨b,0,none⟩)
 | 21=>v=lv
 | 22 | 24=>v=.int .i64 (i:Int)
 | 25=>v=.agg (sec x)
 | 26=>v=.pointer (some ⟨gl,i*256,none⟩)
 | _=>True
def Fb (W0:World) (gl i:Nat) (x:Sec) (w:World):Prop:=∃ w1,Gr W0 w1∧w=w1.setCells gl (i*256) x.cells
theorem wp_store_at {op:Oper} {a:Act} {w:World} {K:Act→World→Prop} {Q:Exit→Act→World→Prop} (x y:Operand) (ho:op.op=.store TS x y) {b o:Nat} {s:Sec} (ht:w.there b o 256) (hx:a.eval x=.pointer (some ⟨b,o,none⟩)) (hy:a.eval y=.agg (sec s))
  (h:K (a.put op.dst undef) (w.setCells b o s.cells)):op.wp Tryz.prog a w K Q:=
 wp_store_mid TS x y ho b o (sec s) hx hy (by rw [sec_size];exact ht) (by rw [sec_size];exact size_sec) (sec_one s) h
set_option maxRecDepth 100000 in
theorem Barrier_dead {F:Nat→Prop} {p:Value} {s:St} (w:World) (h:Dk w F p s) (hd:s.dead=true):Calls Tryz.prog 79 #[p] w fun e w'=>e=.returned (.int .i64 8)∧w=w':=by
 obtain ⟨b,lv,m,L,rfl,h⟩:=h;have HM:=Lib.hid (missing_no w h);obtain ⟨h0,h1,h2,h3,h4⟩:=h.cells
 rw [hd] at h3
 clear h h0 h1 h2 h4 hd
 go_enter Tryz.func79,Tryz.ntmps79
 go_wp2_with fail;refine HM.out.mono ?_;rintro e w1 ⟨rfl,rfl⟩
 go_wp2
 go_ret
 exact ⟨rfl,rfl⟩
set_option maxRecDepth 100000 in
set_option maxHeartbeats 4000000 in
theorem Barrier_yes {F:Nat→Prop} {p:Value} {s:St} (w:World) (h:Dk w F p s) (hw:s.writes≤1000000000) (hd:s.dead=false):Calls Tryz.prog 79 #[p] w fun e w'=>Chg F p s.barrier (.int .i64 0) w e w':=by
 obtain ⟨b,lv,m,L,rfl,h⟩:=h;have HM:=Lib.hid (missing_no w h);have HD:=Lib.hid h;have HLo:=Lib.hid (Loose_any w ⟨_,_,_,_,rfl,h⟩ hw);obtain ⟨h0,h1,h2,h3,h4⟩:=h.cells
 rw [hd] at h3
 have HDd:=Lib.hid hd;clear h h0 h1 h2 h4 hd
 go_enter Tryz.func79,Tryz.ntmps79
 go_wp2_with fail;refine HM.out.mono ?_;rintro e w1 ⟨rfl,rfl⟩;go_wp2_with fail;refine HLo.out.mono ?_;rintro e w2 ⟨lo,rfl,hi,hg⟩;obtain ⟨p2,c2,rfl,hfar,hnums⟩:=Ints.nums hi (St.loose_small HD.out.ok);have HD2:=Lib.hid (HD.out.gr hg);have HU2:=Lib.hid (Upd.of_gr (F:=F) hg);have HI:=Lib.hid hnums
 have HFar:Hid (∀ a,p2=some a→¬ F a.block):=Lib.hid fun a ha hF=>by
  subst ha;have:=(hfar a.block rfl).1;have:=HD.out.low _ hF
  omega
 obtain ⟨K,hK⟩:∃ K,K=s.loose.length:=⟨_,rfl⟩
 have hKs:K≤65536:=by rw [hK];have:=s.loose_len;have:=HD2.out.ok.most;omega
 rw [← hK] at HI
 have HK:=Lib.hid hK;obtain ⟨gl,cl,hv⟩:=HD2.out.lv;rw [← hK];obtain ⟨N,hN⟩:∃ N,N=s.ls.length:=⟨_,rfl⟩
 rw [← hN] at hv
 have HN:=Lib.hid hN;subst hv;clear hi hfar hnums hg hK hN HM h3 HLo;go_wp2_with fail
 go_loopw [14] (fun i wr=>∃ k:Nat,k≤K∧i=.int .i64 k∧Hid (DkAt wr F b (.slice (some ⟨gl,0,none⟩) N cl) m L { s with ls:=s.part k })∧Hid (Upd F F w2 wr)) (fun i _=>K - (intOf i).toNat)
 case atStart=>exact ⟨0,Nat.zero_le _,rfl,HD2.out,Upd.of_gr (Gr.refl _)⟩
 case round=>
  obtain ⟨k,hk,rfl,hd,hu⟩:=hrel
  by_cases hlt:k < K
  ·
   obtain ⟨b2,o2,rfl,hc2⟩:=(HI.out.stays (w':=wr) (fun a ha hn=>hu.out.block _ (HI.out.lt ha hn) (fun e=>HFar.out a ha e))).lies (by omega)
   have hkk:k < s.loose.length:=by rw [← HK.out];exact hlt
   obtain ⟨i,hi⟩:∃ i,s.loose[k]?=some i:=⟨_,List.getElem?_eq_getElem hkk⟩;have hci:=hc2 k hlt
   have ei:(s.loose.map fun (x:Nat)=>(x:Int)).getD k 0=(i:Int):=by simp [List.getD,hi]
   rw [ei] at hci
   obtain ⟨hrank,hiN,hti⟩:=St.loose_at hi
   have hiP:i < (s.part k).length:=by rw [s.part_len];exact hiN
   have HX:Hid (({ s with ls:=s.part k }:St).nw i=s.nw i):=Lib.hid (nw_other hti _);have HS:=Lib.hid (St.part_succ hi);have HIP:Hid (i < (s.part k).length):=Lib.hid hiP
   have hiN2:i < N:=by rw [HN.out];exact hiN
   have HDr:=hd;have HUr:=hu;clear hc2 ei hrank hti hkk hi hiN hiP hd hu;go_wp2_with fail
   have HCell:Hid (∀ W,Gr wr W→W.cell? ⟨b,0,none⟩=some (.slice (some ⟨gl,0,none⟩) N cl)):=Lib.hid fun W h=>(HDr.out.gr h).cells.1
   have HNw:Hid (∀ W,Gr wr W→Calls Tryz.prog 64 #[.pointer (some ⟨b,0,none⟩),.int .i64 (i:Int)] W fun e w'=>e=.returned (.agg (sec (s.nw i)))∧Gr W w'):=Lib.hid fun W h=>by
    have:=newest_any W (HDr.out.gr h) i HIP.out
    rw [HX.out] at this
    exact this
   have HTh:Hid (∀ W,Gr wr W→W.there gl (i*256) 256):=Lib.hid fun W h=>(HDr.out.gr h).ls.there i HIP.out
   refine Flow.regionZ 9 9 (by kernel_rfl) [] 12 (Sb b gl i (.slice (some ⟨gl,0,none⟩) N cl) (s.nw i)) (Gr wr) (Fb wr gl i (s.nw i)) (fun _=>True) (fun _ _ _=>True) (by kernel_rfl) (by kernel_rfl) (by kernel_rfl) (fun _ _ _ _ _ _ h _=>h) ⟨rfl,rfl,rfl,Nat.le_refl _,fun _ _=>rfl⟩ True.intro ?steps ?fin
   case fin=>
    intro a W hfr hfin hsl
    clear hsl;have e:=Flow.frame hfr [18,19,20,21,22,23,24,25,26] (List.range 32) (by kernel_rfl) (by kernel_rfl)
    simp [List.range,List.range.loop] at e
    rw [e];clear e hfr;obtain ⟨w1,hg1,rfl⟩:=hfin;obtain ⟨hd1,hu1⟩:=(HDr.out.gr hg1).putL i HIP.out (s.nw i);have HD3:=Lib.hid hd1;have HU3:=Lib.hid (HUr.out.trans ((Upd.of_gr hg1).trans hu1));clear hg1 hd1 hu1 HCell HNw HTh
    rename_i K2 hK2
    refine hK2 _ _ ?_
    go_wp2
    go_roundw
    case rel=>exact ⟨k+1,by omega,by go_num,by rw [HS.out];exact HD3.out,HU3.out⟩
    case measure=>simp [intOf];omega
   case steps=>
    refine .cons (fun a W hfr hinv hear hdep K hK=>?_) ?_
    · have t0:=tAt (.pointer (some ⟨b,0,none⟩)) (hfr.at 0 (by kernel_rfl));refine fW0 rfl ?_;clear hfr hdep hear;go_simp;exact hK _ _ True.intro hinv (fun _=>True.intro) (dsT rfl)
    refine .cons (fun a W hfr hinv hear hdep K hK=>?_) ?_
    · have t18:=tAt (.pointer (some ⟨b,0,none⟩)) (hdep 18 (by kernel_rfl));refine fW0 rfl ?_;clear hfr hdep hear;go_simp;exact hK _ _ True.intro hinv (fun _=>True.intro) (dsT rfl)
    refine .cons (fun a W hfr hinv hear hdep K hK=>?_) ?_
    · have t19:=tAt (.pointer (some ⟨b,0,none⟩)) (hdep 19 (by kernel_rfl));refine fW0 rfl ?_;clear hfr hdep hear;go_simp;exact hK _ _ True.intro hinv (fun _=>True.intro) (dsT rfl)
    refine .cons (fun a W hfr hinv hear hdep K hK=>?_) ?_
    · have t20:=tAt (.pointer (some ⟨b,0,none⟩)) (hdep 20 (by kernel_rfl));have hc:=HCell.out W hinv;refine fW0 rfl ?_;clear hfr hdep hear;go_simp;exact hK _ _ True.intro hinv (fun _=>True.intro) (dsT rfl)
    refine .cons (fun a W hfr hinv hear hdep K hK=>?_) ?_
    · have t4:=tAt (.int .i64 (i:Int)) (hfr.at 4 (by kernel_rfl));refine fW0 rfl ?_;clear hfr hdep hear;go_simp;exact hK _ _ True.intro hinv (fun _=>True.intro) (dsT rfl)
    refine .cons (fun a W hfr hinv hear hdep K hK=>?_) ?_
    · have t0:=tAt (.pointer (some ⟨b,0,none⟩)) (hfr.at 0 (by kernel_rfl));refine fW0 rfl ?_;clear hfr hdep hear;go_simp;exact hK _ _ True.intro hinv (fun _=>True.intro) (dsT rfl)
    refine .cons (fun a W hfr hinv hear hdep K hK=>?_) ?_
    · have t4:=tAt (.int .i64 (i:Int)) (hfr.at 4 (by kernel_rfl));refine fW0 rfl ?_;clear hfr hdep hear;go_simp;exact hK _ _ True.intro hinv (fun _=>True.intro) (dsT rfl)
    refine .cons (fun a W hfr hinv hear hdep K hK=>?_) ?_
    · have t23:=tAt (.pointer (some ⟨b,0,none⟩)) (hdep 23 (by kernel_rfl));have t24:=tAt (.int .i64 (i:Int)) (hdep 24 (by kernel_rfl));refine fW0 rfl ?_;clear hfr hdep;go_simp;refine (HNw.out W hinv).mono ?_;rintro e W' ⟨rfl,g1⟩;exact hK _ _ True.intro (Gr.trans hinv g1) (fun _=>True.intro) (dsT rfl)
    refine .cons (fun a W hfr hinv hear hdep K hK=>?_) ?_
    · have t21:=tAt (.slice (some ⟨gl,0,none⟩) N cl) (hdep 21 (by kernel_rfl));have t22:=tAt (.int .i64 (i:Int)) (hdep 22 (by kernel_rfl));refine fW0 rfl ?_;clear hfr hdep hear;go_simp;exact hK _ _ True.intro hinv (fun _=>True.intro) (dsT rfl)
    refine .cons (fun a W hfr hinv hear hdep K hK=>?_) ?_
    · have s26:a.tmps.getD 26 undef=.pointer (some ⟨gl,i*256,none⟩):=hdep 26 (by kernel_rfl);have t26:=tmpAt s26;have s25:a.tmps.getD 25 undef=.agg (sec (s.nw i)):=hdep 25 (by kernel_rfl);have t25:=tmpAt s25;refine fW0 rfl ?_;clear hfr hdep;refine wp_store_at (.tmp 26) (.tmp 25) rfl (HTh.out W hinv) (by simpa [Act.eval] using s26) (by simpa [Act.eval] using s25) ?_;exact hK _ _ True.intro ⟨W,hinv,rfl⟩ True.intro (fun d hd=>by cases hd)
    exact True.intro
  ·
   obtain rfl:k=K:=by omega
   rw [HK.out,s.part_all] at hd
   have hmm:=@run_makeMap Tryz.prog;have ha:Gr wr (wr.alloc (.map #[] 0)):=(Gr.refl wr).alloc (Nat.le_refl _) _;have hdA:=hd.out.gr ha;have hc1:=hdA.blk.cell 1;have hf1:=hdA.blk.frozen 1
   simp at hc1
   have hne:=hd.out.neM;have HB:=Lib.hid (hdA.blk.set 1 (.map (some wr.heap.size)));have hblt:=hd.out.low b hd.out.ownB
   have hsz:((wr.alloc (.map #[] 0)).setCell ⟨b,1,none⟩ (.map (some wr.heap.size))).heap.size=wr.heap.size+1:=by simp [World.setCell]
   have hst:∀ j,j≠b→((wr.alloc (.map #[] 0)).setCell ⟨b,1,none⟩ (.map (some wr.heap.size))).heap[j]?=(wr.alloc (.map #[] 0)).heap[j]?:=fun j hj=>Below.heap_setCell _ _ _ j hj
   have HF:Hid (DkAt ((wr.alloc (.map #[] 0)).setCell ⟨b,1,none⟩ (.map (some wr.heap.size))) (fun j=>F j∨j=wr.heap.size) b (.slice (some ⟨gl,0,none⟩) N cl) wr.heap.size (fun _=>nilS) s.barrier):=Lib.hid (by
    have hl:s.barrier.ls.length=s.ls.length:=by simp [St.barrier]
    obtain ⟨D,n,ho,_⟩:=hdA.map;refine ⟨⟨by rw [hl];exact HD2.out.ok.pos,by rw [hl];exact HD2.out.ok.most,fun _ _=>rfl,fun _=>Nat.zero_le _,HD2.out.ok.lo,HD2.out.ok.hi⟩,?_,hdA.ls.stays fun g hg=>hst g (row_ne hdA.ls hg hdA.blk ho).1,?_,fun _=>Row.empty _,(fun i j g h=>by cases h),(fun i g h=>by cases h),.inl hd.out.ownB,.inr rfl,fun g hg=>.inl (hd.out.ownL g hg),(fun i g h=>by cases h),?_⟩
    ·
     have:=HB.out
     simpa [St.barrier] using this
    · exact Loose.made.stays (hst _ (by omega))
    ·
     rintro j (hj | rfl)
     · rw [hsz];have:=hd.out.low j hj;omega
     · rw [hsz];omega)
   have HUf:Hid (Upd F (fun j=>F j∨j=wr.heap.size) w2 ((wr.alloc (.map #[] 0)).setCell ⟨b,1,none⟩ (.map (some wr.heap.size)))):=Lib.hid (by
    have h1:=(hu.out.trans (Upd.of_gr ha)).trans (upd_cell (i:=1) hd.out.ownB (.map (some wr.heap.size)));refine ⟨h1.os,h1.tape,h1.output,h1.size,h1.block,fun j hj=>?_⟩
    rcases hj with hj | rfl
    · exact .inl hj
    · exact .inr hu.out.size)
   have HU:=Lib.hid (HU2.out.trans HUf.out);clear hd ha hdA hne HB hblt hsz hst hu HUf
   go_wp2
   go_ret
   exact ⟨_,rfl,⟨_,_,_,_,rfl,HF.out⟩,HU.out⟩
end Go.Proofs.YtlijbgapkmfnaaaGreat
namespace Go.Proofs.YtlijbgapkmfnaaaGreat
namespace Flow
open Go
section
variable {P:Program} {ops:Array Oper} {Q:Exit→Act→World→Prop} {md:Region.Mode}
def upd (ℓ:Nat→Bool) (i:Nat):Nat→Bool:=fun j=>if j=i then true else ℓ j
theorem upd_same (ℓ:Nat→Bool) (i:Nat):upd ℓ i i=true:=if_pos rfl
theorem upd_other (ℓ:Nat→Bool) {i j:Nat} (h:j≠i):upd ℓ i j=ℓ j:=if_neg h
def StepS (P:Program) (md:Region.Mode) (ops:Array Oper) (Q:Exit→Act→World→Prop) (Sl:Nat→Value→World→Prop) (Inv:(Nat→Bool)→World→Prop) (G:World→World→Prop) (a0:Act) (fl i:Nat) (o:Oper):Prop:=
 ∀ (ℓ:Nat→Bool) a w,Same ops a0 a→ℓ i=false→(∀ j,j≠i→waits md ops i fl j=true→ℓ j=false)→(∀ j,j≠i→waits md ops j fl i=true→ℓ j=true)→Inv ℓ w→(∀ d,(reads md ops o).contains d=true→Sl d (a.tmps.getD d undef) w) →
  ∀ K:Act→World→Prop,(∀ v w',G w w'→Inv (upd ℓ i) w'→(∀ d,o.dst=some d→Sl d v w')→K (a.put o.dst v) w') →
   if Region.wanted o (yielded ops a.tmps)=true then o.wp P a w K Q else K (a.put o.dst undef) w
def StepsS (P:Program) (md:Region.Mode) (ops:Array Oper) (Q:Exit→Act→World→Prop) (Sl:Nat→Value→World→Prop) (Inv:(Nat→Bool)→World→Prop) (G:Nat→World→World→Prop) (a0:Act) (fl:Nat):Nat→List Oper→Prop
 | _,[]=>True
 | i,o :: r=>StepS P md ops Q Sl Inv (G i) a0 fl i o∧StepsS P md ops Q Sl Inv G a0 fl (i+1) r
theorem StepsS.cons {Sl:Nat→Value→World→Prop} {Inv:(Nat→Bool)→World→Prop} {G:Nat→World→World→Prop} {a0:Act} {fl i:Nat} {o:Oper} {r:List Oper} (h:StepS P md ops Q Sl Inv (G i) a0 fl i o) (k:StepsS P md ops Q Sl Inv G a0 fl (i+1) r):StepsS P md ops Q Sl Inv G a0 fl i (o :: r):=⟨h,k⟩
theorem StepsS.at {Sl:Nat→Value→World→Prop} {Inv:(Nat→Bool)→World→Prop} {G:Nat→World→World→Prop} {a0:Act} {fl:Nat}:∀ {l:List Oper} {i:Nat},StepsS P md ops Q Sl Inv G a0 fl i l→∀ (j:Nat) (o:Oper),l[j]?=some o→StepS P md ops Q Sl Inv (G (i+j)) a0 fl (i+j) o
 | [],_,_,_,_,h=>by simp at h
 | x :: r,i,h,0,o,ho=>by
  simp only [List.getElem?_cons_zero,Option.some.injEq] at ho
  subst ho;exact h.1
 | x :: r,i,h,j+1,o,ho=>by
  simp only [List.getElem?_cons_succ] at ho
  have:=StepsS.at h.2 j o ho
  rwa [show i+1+j=i+(j+1) by omega] at this
variable {Sl:Nat→Value→World→Prop} {Inv:(Nat→Bool)→World→Prop} {G:Nat→World→World→Prop} {a0:Act}
theorem walkS (keep:List Nat) (fl:Nat) (hmono:∀ i d v w w',bears2 md ops keep fl i d=true→Sl d v w→G i w w'→Sl d v w') (hf:fineB md a0.tmps.size ops=true) (hs:∀ (i:Nat) (o:Oper),ops[i]?=some o→StepS P md ops Q Sl Inv (G i) a0 fl i o)
  (hfin:∀ a w ℓ,Same ops a0 a→(∀ i,i < ops.size→ℓ i=true)→Inv ℓ w→(∀ (i:Nat) (o:Oper) d,ops[i]?=some o→o.dst=some d→d ∈ keep→Sl d (a.tmps.getD d undef) w)→Q .normal a w) :
  ∀ (fuel:Nat) (listed:Array Bool) (a:Act) (w:World),left listed ops.size≤fuel→listed.size=ops.size→Closed md ops listed→Same ops a0 a→Inv (fun j=>listed.getD j true) w →
   (∀ (i:Nat) (o:Oper) d,ops[i]?=some o→listed.getD i true=true→o.dst=some d→(d ∈ keep∨∃ (j:Nat) (oj:Oper),ops[j]?=some oj∧listed.getD j true=false∧d ∈ reads md ops oj)→Sl d (a.tmps.getD d undef) w)→wpAny P md ops Q fuel listed a w:=by
 have ends:∀ (listed:Array Bool) (a:Act) (w:World),(∀ i,i < ops.size→listed.getD i true=true)→Same ops a0 a→Inv (fun j=>listed.getD j true) w →
   (∀ (i:Nat) (o:Oper) d,ops[i]?=some o→listed.getD i true=true→o.dst=some d→(d ∈ keep∨∃ (j:Nat) (oj:Oper),ops[j]?=some oj∧listed.getD j true=false∧d ∈ reads md ops oj)→Sl d (a.tmps.getD d undef) w)→Q .normal a w:=fun listed a w hl hsame hinv hsl=>
  hfin a w _ hsame hl hinv fun i o d ho hd hk=>hsl i o d ho (hl i (Array.getElem?_eq_some_iff.1 ho).1) hd (.inl hk)
 have alls:∀ listed:Array Bool,listed.size=ops.size→Region.ready md ops listed=[]→∀ i,i < ops.size→listed.getD i true=true:=by
  intro listed hsz hr i
  induction i using Nat.strongRecOn with
  | _ i ih=>
   intro hi
   cases hg:listed.getD i true with
   | true=>rfl
   | false=>
    exfalso
    have:i ∈ Region.ready md ops listed:=mem_ready.2 ⟨hg,ops[i],Array.getElem?_eq_getElem hi,fun e he hbd=>by
     have hlt:=fineB_down hf (Array.getElem?_eq_getElem hi) e he hbd;have h1:=ih e.on hlt (by omega)
     have h2:e.on < listed.size:=by omega
     simp only [Array.getD_eq_getD_getElem?,Array.getElem?_eq_getElem h2,Option.getD_some] at h1 ⊢
     exact h1⟩
    rw [hr] at this
    cases this
 intro fuel
 induction fuel with
 | zero=>
  intro listed a w hl hsz hcl hsame hinv hsl
  have hall2:=left_zero (listed:=listed) (n:=ops.size) (by omega);refine ⟨?_,ends listed a w hall2 hsame hinv hsl⟩
  cases hr:Region.ready md ops listed with
  | nil=>rfl
  | cons j r=>
   have hj:j ∈ Region.ready md ops listed:=by rw [hr];exact List.mem_cons_self ..
   obtain ⟨hun,o,ho,_⟩:=mem_ready.1 hj
   rw [hall2 j (Array.getElem?_eq_some_iff.1 ho).1] at hun
   cases hun
 | succ fuel ih=>
  intro listed a w hl hsz hcl hsame hinv hsl
  refine ⟨fun hr=>ends listed a w (alls listed hsz hr) hsame hinv hsl,fun i hi=>?_⟩;obtain ⟨hun,o,ho,hdep⟩:=mem_ready.1 hi;have hib:i < ops.size:=(Array.getElem?_eq_some_iff.1 ho).1
  have flip:∀ j,j < ops.size→listed.getD j false=true→listed.getD j true=true:=fun j hj h=>by
   have h2:j < listed.size:=by omega
   simp only [Array.getD_eq_getD_getElem?,Array.getElem?_eq_getElem h2,Option.getD_some] at h ⊢
   exact h
  have anc:∀ j,waits md ops j fl i=true→j≠i→listed.getD j true=true:=fun j hw hne=>by
   cases fl with
   | zero=>exact absurd (by simpa [waits] using hw) hne
   | succ f=>
    simp only [waits,Bool.or_eq_true] at hw
    rcases hw with hw | hw
    · exact absurd (by simpa using hw) hne
    ·
     rw [ho] at hw
     obtain ⟨k,hk,h2⟩:=Array.any_eq_true.1 hw
     simp only [Bool.and_eq_true] at h2
     have hmem:=Array.getElem_mem hk;have hei:=fineB_down hf ho _ hmem h2.1;exact waits_listed hcl f _ h2.2 (flip _ (by omega) (hdep _ hmem h2.1))
  refine wpOp_step ho fun K hK=>hs i o ho (fun j=>listed.getD j true) a w hsame hun (fun j hne hw=>?_) (fun j hne hw=>anc j hw hne) hinv ?_ K ?_
  ·
   cases hlj:listed.getD j true with
   | false=>rfl
   | true=>rw [waits_listed hcl fl j hw hlj] at hun;cases hun
  ·
   intro d hd
   have hd':d ∈ reads md ops o:=by simpa using hd
   obtain ⟨e,he,hed⟩:=List.mem_filterMap.1 hd';obtain ⟨he1,he3⟩:=List.mem_filter.1 he
   have he2:Region.binds md e=true:=by simp only [Bool.and_eq_true] at he3;exact he3.1
   cases hoe:ops[e.on]? with
   | none=>rw [hoe] at hed;cases hed
   | some oe=>
    rw [hoe] at hed
    have hl1:=hdep e (by simpa using he1) he2;exact hsl e.on oe d hoe (flip _ (Array.getElem?_eq_some_iff.1 hoe).1 hl1) hed (.inr ⟨i,o,ho,hun,hd'⟩)
  ·
   intro v w' hg hinv' hv
   have hset:∀ j,listed.getD j true=true→(listed.setIfInBounds i true).getD j true=true:=fun j h=>by
    by_cases hji:i=j
    ·
     subst hji
     have:i < listed.size:=by omega
     simp [this]
    · rw [getD_set_ne true hji];exact h
   refine hK _ _ (ih (listed.setIfInBounds i true) (a.put o.dst v) w' ?_ (by simpa using hsz) ?_ ⟨(put_defers ..).trans hsame.defers,(put_size ..).trans hsame.size,fun d hd=>?_⟩ ?_ ?_)
   · have:=left_less hun hib;omega
   ·
    intro j oj hoj hlj e he hb
    by_cases hji:i=j
    ·
     subst hji
     rw [ho] at hoj
     cases hoj
     have hei:e.on < ops.size:=by have:=fineB_down hf ho e he hb;omega
     exact hset _ (flip _ hei (hdep e he hb))
    ·
     rw [getD_set_ne true hji] at hlj
     exact hset _ (hcl j oj hoj hlj e he hb)
   · rw [getD_put_other (hd i o ho)];exact hsame.old d hd
   ·
    have e:(fun j=>(listed.setIfInBounds i true).getD j true)=upd (fun j=>listed.getD j true) i:=by
     funext j
     unfold upd
     by_cases hji:j=i
     ·
      subst hji
      have:j < listed.size:=by omega
      simp [this]
     · rw [if_neg hji,getD_set_ne true (Ne.symm hji)]
    rw [e];exact hinv'
   ·
    intro j oj d hoj hlj hdj hlive
    by_cases hji:j=i
    ·
     subst hji
     rw [ho] at hoj
     cases hoj
     have hds:=(fineB_slot hf ho hdj).1;rw [hdj,getD_put_same (by rw [hsame.size];exact hds)];exact hv d hdj
    ·
     rw [getD_put_other (fun e=>hji (fineB_one hf hoj ho hdj e))]
     rw [getD_set_ne true (Ne.symm hji)] at hlj
     have hjb:j < ops.size:=(Array.getElem?_eq_some_iff.1 hoj).1;refine hmono i d _ _ _ ?_ (hsl j oj d hoj hlj hdj ?_) hg
     ·
      unfold bears2
      rw [Bool.and_eq_true]
      constructor
      ·
       refine List.any_eq_true.2 ⟨j,List.mem_range.2 hjb,?_⟩;rw [hoj]
       have hnw:waits md ops i fl j=false:=by
        cases hw:waits md ops i fl j with
        | false=>rfl
        | true=>rw [waits_listed hcl fl j hw hlj] at hun;cases hun
       simp [hdj,hnw]
      ·
       rw [Bool.or_eq_true]
       rcases hlive with hk | ⟨j',oj',hoj',hl',hn'⟩
       · exact .inl (by simpa using hk)
       ·
        right
        have hne:j'≠i:=by
         rintro rfl
         have:j' < listed.size:=by omega
         simp [this] at hl'
        have hnw2:waits md ops j' fl i=false:=by
         cases hw:waits md ops j' fl i with
         | false=>rfl
         | true=>
          exfalso
          have hl3:=anc j' hw hne
          have hlj:listed.getD j' true=false:=by
           cases hlj':listed.getD j' true with
           | false=>rfl
           | true=>rw [hset j' hlj'] at hl';cases hl'
          rw [hl3] at hlj
          cases hlj
        refine List.any_eq_true.2 ⟨j',List.mem_range.2 (Array.getElem?_eq_some_iff.1 hoj').1,?_⟩;rw [hoj']
        simp [hne,hn',hnw2]
     ·
      rcases hlive with hk | ⟨j',oj',hoj',hl',hn'⟩
      · exact .inl hk
      ·
       refine .inr ⟨j',oj',hoj',?_,hn'⟩
       cases hlj':listed.getD j' true with
       | false=>rfl
       | true=>rw [hset j' hlj'] at hl';cases hl'
theorem regionS {id:Nat} {w:World} (keep:List Nat) (fl:Nat) (Sl:Nat→Value→World→Prop) (Inv:(Nat→Bool)→World→Prop) (G:Nat→World→World→Prop) (hm:P.follows .mixedOrders=true) (hf:fineB .any a0.tmps.size ops=true)
  (hmono:∀ i d v w w',bears2 .any ops keep fl i d=true→Sl d v w→G i w w'→Sl d v w') (h0:Inv (fun j=>(Array.replicate ops.size false).getD j true) w.drew) (hs:StepsS P .any ops Q Sl Inv G a0 fl 0 ops.toList)
  (hfin:∀ a w ℓ,Same ops a0 a→(∀ i,i < ops.size→ℓ i=true)→Inv ℓ w→(∀ (i:Nat) (o:Oper) d,ops[i]?=some o→o.dst=some d→d ∈ keep→Sl d (a.tmps.getD d undef) w)→Q .normal a w) :
  (Code.region id ops true).wp P Q a0 w:=by
 refine wp_region_any hm ?_
 have hun:∀ (i:Nat) (o:Oper),ops[i]?=some o→(Array.replicate ops.size false).getD i true=true→False:=fun i o ho hl=>by
  have hi:i < ops.size:=(Array.getElem?_eq_some_iff.1 ho).1
  simp [hi] at hl
 refine walkS keep fl hmono hf (fun i o ho=>?_) hfin _ _ a0 w.drew ?_ (by simp) (fun j o ho hl=>(hun j o ho hl).elim) ⟨rfl,rfl,fun _ _=>rfl⟩ h0 (fun i o d ho hl _ _=>(hun i o ho hl).elim)
 ·
  have:=hs.at i o (by simpa using ho)
  rwa [Nat.zero_add] at this
 ·
  have:∀ n,left (Array.replicate ops.size false) n≤n:=by
   intro n
   induction n with
   | zero=>exact Nat.le_refl _
   | succ n ih=>simp only [left];split <;> omega
  exact this _
end
end Flow
end Go.Proofs.YtlijbgapkmfnaaaGreat
namespace Go.Proofs.YtlijbgapkmfnaaaGreat
open Go.RowKit Go.Maps
def B8 (x:UInt8):Int:=(x.toNat:Int)
theorem B8_of (n:Int) (h0:0≤n) (h1:n < 256):B8 (UInt8.ofNat n.toNat)=n:=by
 unfold B8
 rw [UInt8.toNat_ofNat']
 omega
end Go.Proofs.YtlijbgapkmfnaaaGreat
