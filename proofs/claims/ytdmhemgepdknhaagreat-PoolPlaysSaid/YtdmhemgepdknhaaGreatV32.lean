/-
  Texts, put together: PoolDp2 PoolKe1 PoolDp3 PoolDp4 PoolDp5.
-/
import Derived.Test.YtdmhemgepdknhaaGreatV1
import Derived.Test.YtdmhemgepdknhaaGreatV4
import Derived.Test.YtdmhemgepdknhaaGreatV29
import Derived.Test.YtdmhemgepdknhaaGreatV31
set_option linter.unusedVariables false
set_option linter.unusedSimpArgs false
namespace Go.Proofs.YtdmhemgepdknhaaGreat
open Go.RowKit Go.Maps
structure Rl (P:Pl) (L:List (Nat × PFr)):Prop where
 up:L.Pairwise fun x y=>x.1 < y.1
 mem:∀ i f,(i,f) ∈ L ↔ P.fr i=some f
section
variable {P:Pl} {L:List (Nat × PFr)}
theorem Rl.at (h:Rl P L) {k:Nat} {x:Nat × PFr} (hk:L[k]?=some x):P.fr x.1=some x.2:=(h.mem _ _).1 (List.mem_of_getElem? hk)
theorem Rl.pages (h:Rl P L) (hin:∀ i,65536≤i→P.fr i=none):P.pages=L.map (·.1):=by
 refine P.pages_is (List.pairwise_map.2 h.up) fun i=>?_
 constructor
 ·
  intro hi
  obtain ⟨x,hx,rfl⟩:=List.mem_map.1 hi;have h1:=(h.mem x.1 x.2).1 hx;refine ⟨?_,by rw [h1];exact Option.some_ne_none _⟩
  rcases Nat.lt_or_ge x.1 65536 with h2 | h2
  · exact h2
  · rw [hin _ h2] at h1;cases h1
 ·
  rintro ⟨_,h2⟩
  cases e:P.fr i with
  | none=>exact absurd e h2
  | some f=>exact List.mem_map.2 ⟨(i,f),(h.mem i f).2 e,rfl⟩
theorem Rl.lt (h:Rl P L) {j k:Nat} {x y:Nat × PFr} (hj:L[j]?=some x) (hk:L[k]?=some y) (hjk:j < k):x.1 < y.1:=by
 obtain ⟨h1,rfl⟩:=List.getElem?_eq_some_iff.1 hj;obtain ⟨h2,rfl⟩:=List.getElem?_eq_some_iff.1 hk;exact List.pairwise_iff_getElem.1 h.up j k h1 h2 hjk
theorem Rl.one (h:Rl P L) {j k:Nat} {x y:Nat × PFr} (hj:L[j]?=some x) (hk:L[k]?=some y) (e:x.1=y.1):j=k:=by
 rcases Nat.lt_trichotomy j k with h1 | h1 | h1
 · have:=h.lt hj hk h1;omega
 · exact h1
 · have:=h.lt hk hj h1;omega
theorem Rl.set (h:Rl P L) {k i:Nat} {f:PFr} (hk:L[k]?=some (i,f)) (g:PFr):Rl (P.put i g) (L.set k (i,g)):=by
 have hkl:=(List.getElem?_eq_some_iff.1 hk).1;refine ⟨?_,fun j e=>?_⟩
 ·
  have e:(L.set k (i,g)).map (·.1)=L.map (·.1):=by
   refine List.ext_getElem? fun j=>?_
   rw [List.getElem?_map,List.getElem?_map,List.getElem?_set]
   by_cases e:k=j
   ·
    subst e;rw [if_pos rfl,if_pos hkl,hk]
    rfl
   · rw [if_neg e]
  have h1:=List.pairwise_map.2 h.up
  have h2:((L.set k (i,g)).map (·.1)).Pairwise (· < ·):=by rw [e];exact h1
  exact List.pairwise_map.1 h2
 ·
  show _ ↔ (if j=i then some g else P.fr j)=some e
  constructor
  ·
   intro hm
   obtain ⟨q,hq⟩:=List.mem_iff_getElem?.1 hm
   rw [List.getElem?_set] at hq
   by_cases eq:k=q
   ·
    subst eq
    rw [if_pos rfl,if_pos hkl] at hq
    cases hq
    rw [if_pos rfl]
   ·
    rw [if_neg eq] at hq
    have hne:j≠i:=fun e2=>eq (h.one hk hq e2.symm)
    rw [if_neg hne]
    exact h.at hq
  ·
   intro hf
   by_cases e2:j=i
   ·
    rw [if_pos e2] at hf
    cases hf
    rw [e2];exact List.mem_iff_getElem?.2 ⟨k,by rw [List.getElem?_set,if_pos rfl,if_pos hkl]⟩
   ·
    rw [if_neg e2] at hf
    obtain ⟨q,hq⟩:=List.mem_iff_getElem?.1 ((h.mem j e).2 hf);refine List.mem_iff_getElem?.2 ⟨q,?_⟩;rw [List.getElem?_set,if_neg fun e3=>?_]
    · exact hq
    ·
     subst e3
     rw [hk] at hq
     cases hq
     exact e2 rfl
theorem Rl.erase (h:Rl P L) {k i:Nat} {f:PFr} (hk:L[k]?=some (i,f)):Rl (P.gone i) (L.take k++L.drop (k+1)):=by
 obtain ⟨hkl,hke⟩:=List.getElem?_eq_some_iff.1 hk
 have hs:L=L.take k++(i,f) :: L.drop (k+1):=by
  have h1:=List.drop_eq_getElem_cons hkl
  rw [hke] at h1
  rw [← h1,List.take_append_drop]
 have hu:=h.up
 rw [hs,List.pairwise_append,List.pairwise_cons] at hu
 obtain ⟨u1,⟨u2,u3⟩,u4⟩:=hu;refine ⟨List.pairwise_append.2 ⟨u1,u3,fun a ha b hb=>u4 a ha b (List.mem_cons_of_mem _ hb)⟩,fun j e=>?_⟩
 show _ ↔ (if j=i then none else P.fr j)=some e
 have hm:=h.mem j e
 rw [hs,List.mem_append,List.mem_cons] at hm
 rw [List.mem_append]
 by_cases ej:j=i
 ·
  rw [if_pos ej]
  constructor
  ·
   rintro (h1 | h1)
   · have:=u4 _ h1 _ List.mem_cons_self;dsimp only at this;omega
   · have:=u2 _ h1;dsimp only at this;omega
  · intro h1;cases h1
 ·
  rw [if_neg ej]
  constructor
  ·
   intro h1
   exact hm.1 (h1.imp id .inr)
  ·
   intro h1
   rcases hm.2 h1 with h2 | h2 | h2
   · exact .inl h2
   · cases h2;exact absurd rfl ej
   · exact .inr h2
theorem Rl.ins (h:Rl P L) {k i:Nat} {g:PFr} (hno:P.fr i=none) (h1:∀ x,x ∈ L.take k→x.1 < i) (h2:∀ x,x ∈ L.drop k→i < x.1):Rl (P.put i g) (L.take k++(i,g) :: L.drop k):=by
 have hu:=h.up
 rw [← List.take_append_drop k L,List.pairwise_append] at hu
 obtain ⟨u1,u2,u3⟩:=hu;refine ⟨List.pairwise_append.2 ⟨u1,List.pairwise_cons.2 ⟨h2,u2⟩,fun a ha b hb=>?_⟩,fun j e=>?_⟩
 ·
  rcases List.mem_cons.1 hb with rfl | hb
  · exact h1 a ha
  · exact u3 a ha b hb
 ·
  show _ ↔ (if j=i then some g else P.fr j)=some e
  have hm:=h.mem j e
  rw [← List.take_append_drop k L,List.mem_append] at hm
  rw [List.mem_append,List.mem_cons]
  by_cases ej:j=i
  ·
   rw [if_pos ej]
   constructor
   ·
    rintro (h3 | h3 | h3)
    · have:=h1 _ h3;dsimp only at this;omega
    · cases h3;rfl
    · have:=h2 _ h3;dsimp only at this;omega
   ·
    intro h3
    cases h3
    exact .inr (.inl (by rw [ej]))
  ·
   rw [if_neg ej]
   constructor
   ·
    rintro (h3 | h3 | h3)
    · exact hm.1 (.inl h3)
    · cases h3;exact absurd rfl ej
    · exact hm.1 (.inr h3)
   ·
    intro h3
    exact (hm.2 h3).imp id .inr
end
theorem turn_at {xs:List Nat} {b t:Nat} (hb:b≤xs.length) (ht:t < xs.length):(xs.drop b++xs.take b).getD t 0=xs.getD (if b+t < xs.length then b+t else b+t - xs.length) 0:=by
 have key:(xs.drop b++xs.take b)[t]?=xs[if b+t < xs.length then b+t else b+t - xs.length]?:=by
  by_cases h:b+t < xs.length
  · rw [if_pos h,List.getElem?_append_left (by rw [List.length_drop];omega),List.getElem?_drop]
  · rw [if_neg h,List.getElem?_append_right (by rw [List.length_drop];omega),List.length_drop,List.getElem?_take,if_pos (by omega),show t - (xs.length - b)=b+t - xs.length by omega]
 rw [List.getD_eq_getElem?_getD,List.getD_eq_getElem?_getD,key]
theorem Pl.round_at (P:Pl) {t:Nat} (ht:t < P.pages.length):P.round.getD t 0=P.pages.getD (if P.behind+t < P.pages.length then P.behind+t else P.behind+t - P.pages.length) 0:=turn_at P.behind_le ht
def cS (x:Sec):List Int × Nat:=((frS (secN x)).pay,(frS (secN x)).lsn)
theorem dC_cS (s:St) (i:Nat):dC s i=cS (s.nw i):=rfl
theorem cS_inj {x y:Sec} (h:cS x=cS y):x=y:=by
 have key:∀ z:Sec,secN z=Wd.enc 8 (cS z).2++(cS z).1:=fun z=>by
  have hs:=secN_sec z
  have hl:((secN z).take 8).length=8:=by rw [List.length_take,hs.len];rfl
  have h1:=Wd.enc_dec ((secN z).take 8) (hs.small.take 8)
  rw [hl] at h1
  show _=Wd.enc 8 (Wd.dec ((secN z).take 8))++(secN z).drop 8
  rw [h1,List.take_append_drop]
 rw [← Sx_secN x,← Sx_secN y,key x,key y,h]
theorem cS_sec {f:PFr} (h:f.In):cS (Sx f.sec)=(f.pay,f.lsn):=Prod.ext (frS_sec h).1 (frS_sec h).2
def ssO (P:Pl) (ss:List Sec) (g:Nat):List Sec:=match P.fr g with
 | some f=>if f.dirty then ss.set g (Sx f.sec) else ss
 | none=>ss
def Pl.gS:Nat→Pl→List Sec→List Sec
 | 0,_,ss=>ss
 | n+1,P,ss=>Pl.gS n P.g1 (match goingL P.usd P.round 1 with | [g]=>ssO P ss g | _=>ss)
structure Cl (P:Pl) (ss:List Sec):Prop where
 inn:∀ i f,P.fr i=some f→f.In∧i < ss.length
 cln:∀ i f,P.fr i=some f→f.dirty=false→(f.pay,f.lsn)=cS (ss.getD i Sec.zero)
theorem ssO_len (P:Pl) (ss:List Sec) (g:Nat):(ssO P ss g).length=ss.length:=by
 unfold ssO
 split
 ·
  split
  · rw [List.length_set]
  · rfl
 · rfl
def Pl.cP (P:Pl) (j:Nat):List Int × Nat:=match P.fr j with
 | some f=>(f.pay,f.lsn)
 | none=>([],0)
theorem ssO_at {P:Pl} {ss:List Sec} (h:Cl P ss) {g:Nat} {f:PFr} (hg:P.fr g=some f) (j:Nat):cS ((ssO P ss g).getD j Sec.zero)=if j=g then (f.pay,f.lsn) else cS (ss.getD j Sec.zero):=by
 obtain ⟨h1,h2⟩:=h.inn g f hg
 unfold ssO
 rw [hg]
 dsimp only
 cases hd:f.dirty with
 | true=>
  rw [if_pos rfl,List.getD_eq_getElem?_getD,List.getElem?_set]
  by_cases e:g=j
  · subst e;rw [if_pos rfl,if_pos h2,if_pos rfl];exact cS_sec h1
  · rw [if_neg e,if_neg fun e2=>e e2.symm,← List.getD_eq_getElem?_getD]
 | false=>
  rw [if_neg (by simp)]
  by_cases e:j=g
  · rw [if_pos e,e];exact (h.cln g f hg hd).symm
  · rw [if_neg e]
theorem Pl.g1_fr (P:Pl) {g:Nat} (h:goingL P.usd P.round 1=[g]) (i:Nat):(P.g1.fr i=none∧(i=g∨P.fr i=none))∨∃ f f0,P.g1.fr i=some f∧P.fr i=some f0∧i≠g∧f.pay=f0.pay∧f.lsn=f0.lsn∧f.dirty=f0.dirty∧f.first=f0.first:=by
 have e:P.g1.fr i=if i ∈ [g] then none else (P.off (sparedL P.usd P.round 1)).fr i:=by
  show ((P.off _).leave _).fr i=_
  rw [h,Pl.leave_fr]
 rw [e,Pl.off_fr]
 by_cases h1:i=g
 · rw [if_pos (by simp [h1])];exact .inl ⟨rfl,.inl h1⟩
 ·
  rw [if_neg (by simp [h1])]
  cases h2:P.fr i with
  | none=>exact .inl ⟨by split <;> rfl,.inr rfl⟩
  | some f0=>
   refine .inr ?_
   by_cases h3:i ∈ sparedL P.usd P.round 1
   · rw [if_pos h3];exact ⟨_,f0,rfl,rfl,h1,rfl,rfl,rfl,rfl⟩
   · rw [if_neg h3];exact ⟨f0,f0,rfl,rfl,h1,rfl,rfl,rfl,rfl⟩
theorem Cl.g1 {P:Pl} {ss:List Sec} (h:Cl P ss) {g:Nat} (hg:goingL P.usd P.round 1=[g]):Cl P.g1 (ssO P ss g):=by
 have hne:P.fr g≠none:=(P.round_mem (goingL_mem (by rw [hg];exact List.mem_cons_self))).2
 cases hf:P.fr g with
 | none=>exact absurd hf hne
 | some fg=>
  refine ⟨fun i f hi=>?_,fun i f hi hd=>?_⟩
  ·
   rcases P.g1_fr hg i with ⟨h1,_⟩ | ⟨f1,f0,h1,h2,_,h4,h5,h6,h7⟩
   · rw [h1] at hi;cases hi
   ·
    rw [h1] at hi
    cases hi
    obtain ⟨k1,k2⟩:=h.inn i f0 h2;exact ⟨⟨by rw [h4];exact k1.pay,by rw [h5];exact k1.l,by rw [h7];exact k1.f⟩,by rw [ssO_len];exact k2⟩
  ·
   rcases P.g1_fr hg i with ⟨h1,_⟩ | ⟨f1,f0,h1,h2,h3,h4,h5,h6,h7⟩
   · rw [h1] at hi;cases hi
   ·
    rw [h1] at hi
    cases hi
    rw [ssO_at h hf,if_neg h3,h4,h5];exact h.cln i f0 h2 (by rw [← h6];exact hd)
theorem Pl.gS_len:∀ (n:Nat) (P:Pl) (ss:List Sec),(P.gS n ss).length=ss.length
 | 0,_,_=>rfl
 | n+1,P,ss=>by
  show (Pl.gS n P.g1 _).length=_
  rw [Pl.gS_len n]
  split
  · exact ssO_len _ _ _
  · rfl
theorem Pl.gS_at:∀ (n:Nat) (P:Pl) (ss:List Sec),n≤P.round.length→Cl P ss→(∀ j,cS ((P.gS n ss).getD j Sec.zero)=if j ∈ goingL P.usd P.round n then P.cP j else cS (ss.getD j Sec.zero))∧Cl (P.gN n) (P.gS n ss)
 | 0,P,ss,_,h=>⟨fun j=>by rw [goingL_zero,if_neg (by simp)];rfl,h⟩
 | n+1,P,ss,hn,h=>by
  obtain ⟨g,h1,h2,h3,h4⟩:=P.g1_more hn;have hne:P.fr g≠none:=(P.round_mem (goingL_mem (by rw [h1];exact List.mem_cons_self))).2
  cases hf:P.fr g with
  | none=>exact absurd hf hne
  | some fg=>
   have hl:n≤P.g1.round.length:=by
    have e1:(goingL P.usd P.round (n+1)).length=n+1:=by
     unfold goingL
     rw [List.length_take,List.length_append];have:=two_filters P.usd P.round
     omega
    rw [h2,List.length_cons] at e1
    have:=goingL_len P.g1.usd P.g1.round n
    omega
   obtain ⟨k1,k2⟩:=Pl.gS_at n P.g1 (ssO P ss g) hl (h.g1 h1)
   have e:P.gS (n+1) ss=P.g1.gS n (ssO P ss g):=by
    show Pl.gS n P.g1 (match goingL P.usd P.round 1 with | [g]=>ssO P ss g | _=>ss)=_
    rw [h1]
   rw [e];refine ⟨fun j=>?_,k2⟩;rw [k1 j,h2]
   by_cases hj:j ∈ goingL P.g1.usd P.g1.round n
   ·
    rw [if_pos hj,if_pos (List.mem_cons_of_mem _ hj)];have hm:=P.g1.round_mem (goingL_mem hj)
    rcases P.g1_fr h1 j with ⟨e1,_⟩ | ⟨f1,f0,e1,e2,_,e4,e5,_⟩
    · exact absurd e1 hm.2
    ·
     unfold Pl.cP
     rw [e1,e2]
     dsimp only
     rw [e4,e5]
   ·
    rw [if_neg hj,ssO_at h hf]
    by_cases e2:j=g
    ·
     rw [if_pos e2,if_pos (by simp [e2]),e2]
     unfold Pl.cP
     rw [hf]
    · rw [if_neg e2,if_neg (by simp [e2,hj])]
end Go.Proofs.YtdmhemgepdknhaaGreat
namespace Go.Proofs.YtdmhemgepdknhaaGreat
open Go.RowKit Go.Maps
theorem splice_at {α:Type} (L zs:List α) (off k:Nat) (h:off+zs.length≤L.length):(L.take off++(zs++L.drop (off+zs.length)))[k]?=if off≤k∧k < off+zs.length then zs[k - off]? else L[k]?:=by
 have hl:(L.take off).length=off:=by rw [List.length_take];omega
 by_cases h1:k < off
 ·
  rw [if_neg (by omega),List.getElem?_append_left (by omega),List.getElem?_take]
  simp [h1]
 ·
  rw [List.getElem?_append_right (by omega),hl]
  by_cases h2:k < off+zs.length
  · rw [if_pos ⟨by omega,h2⟩,List.getElem?_append_left (by omega)]
  ·
   rw [if_neg (by omega),List.getElem?_append_right (by omega),List.getElem?_drop]
   congr 1
   omega
end Go.Proofs.YtdmhemgepdknhaaGreat
namespace Go.Proofs.YtdmhemgepdknhaaGreat
open Go.RowKit Go.Maps
abbrev TRp:TypeId:=53
abbrev TFd:TypeId:=95
abbrev TFs:TypeId:=51
def fdC (x:Nat × PFr):List Value:=.int .i64 (x.1:Int) :: ((PSx x.2.pay).cells++x.2.rest)
theorem fdC_len (x:Nat × PFr):(fdC x).length=253:=by simp [fdC,PFr.rest,PSec.cells_len]
theorem fdC_one (x:Nat × PFr):∀ u ∈ fdC x,u.oneCell'=true:=fun u hu=>by
 rcases List.mem_cons.1 hu with rfl | hu
 · rfl
 ·
  rcases List.mem_append.1 hu with hu | hu
  · exact (PSx x.2.pay).one u hu
  ·
   simp only [PFr.rest,List.mem_cons,List.mem_nil_iff,or_false] at hu
   rcases hu with rfl | rfl | rfl | rfl <;> rfl
theorem fdC_page (x:Nat × PFr):(fdC x)[0]?=some (.int .i64 (x.1:Int)):=rfl
theorem fdC_pay (x:Nat × PFr) {j:Nat} (hj:j < 248):(fdC x)[1+j]?=(PSx x.2.pay).cells[j]?:=by
 unfold fdC
 rw [show 1+j=j+1 by omega,List.getElem?_cons_succ,List.getElem?_append_left (by rw [PSec.cells_len];exact hj)]
theorem fdC_at (x:Nat × PFr) (j:Nat):(fdC x)[249+j]?=x.2.rest[j]?:=by
 unfold fdC
 rw [show 249+j=(248+j)+1 by omega,List.getElem?_cons_succ,List.getElem?_append_right (by rw [PSec.cells_len];omega),PSec.cells_len,Nat.add_sub_cancel_left]
theorem fdC_put (x:Nat × PFr) (j:Nat) (v:Value):(fdC x).set (249+j) v=.int .i64 (x.1:Int) :: ((PSx x.2.pay).cells++x.2.rest.set j v):=by
 unfold fdC
 rw [show 249+j=(248+j)+1 by omega,List.set_cons_succ,List.set_append_right _ _ (by rw [PSec.cells_len];omega),PSec.cells_len,Nat.add_sub_cancel_left]
theorem fdC_lsn (p:Nat) (f:PFr) (n:Nat):fdC (p,{ f with lsn:=n })=(fdC (p,f)).set 249 (.int .u64 (n:Int)):=((fdC_put (p,f) 0 _).trans rfl).symm
theorem fdC_first (p:Nat) (f:PFr) (n:Nat):fdC (p,{ f with first:=n })=(fdC (p,f)).set 250 (.int .u64 (n:Int)):=((fdC_put (p,f) 1 _).trans rfl).symm
theorem fdC_dirty (p:Nat) (f:PFr) (x:Bool):fdC (p,{ f with dirty:=x })=(fdC (p,f)).set 251 (.bool x):=((fdC_put (p,f) 2 _).trans rfl).symm
theorem fdC_used (p:Nat) (f:PFr) (x:Bool):fdC (p,{ f with used:=x })=(fdC (p,f)).set 252 (.bool x):=((fdC_put (p,f) 3 _).trans rfl).symm
def fdF (L:List (Nat × PFr)):List Value:=(L.map fdC).flatten
theorem fdF_len:∀ L:List (Nat × PFr),(fdF L).length=L.length*253
 | []=>rfl
 | x :: L=>by
  have:=fdF_len L
  unfold fdF at *
  rw [List.map_cons,List.flatten_cons,List.length_append,this,fdC_len,List.length_cons]
  omega
theorem fdF_at:∀ (L:List (Nat × PFr)) (i:Nat) (x:Nat × PFr),L[i]?=some x→∀ j,j < 253→(fdF L)[i*253+j]?=(fdC x)[j]?
 | [],_,_,h,_,_=>by simp at h
 | y :: L,0,x,h,j,hj=>by
  obtain rfl:y=x:=by simpa using h
  unfold fdF
  rw [List.map_cons,List.flatten_cons,Nat.zero_mul,Nat.zero_add,List.getElem?_append_left (by rw [fdC_len];exact hj)]
 | y :: L,i+1,x,h,j,hj=>by
  have h2:=fdF_at L i x (by simpa using h) j hj
  unfold fdF at *
  rw [List.map_cons,List.flatten_cons,List.getElem?_append_right (by rw [fdC_len];omega),fdC_len,show (i+1)*253+j - 253=i*253+j by omega,h2]
theorem fdF_app (L M:List (Nat × PFr)):fdF (L++M)=fdF L++fdF M:=by simp [fdF]
structure FRk (w:World) (g cap:Nat) (L:List (Nat × PFr)):Prop where
 le:L.length≤cap
 most:cap≤maxLen
 cur:∃ cur,Blk w g TFd cur∧cur.size=cap*253∧∀ i x,L[i]?=some x→∀ j,j < 253→cur[i*253+j]?=(fdC x)[j]?
def FR (w:World) (v:Value) (L:List (Nat × PFr)):Prop:=w.ownsRow 0 TFd 253 v L.length (fdF L)
theorem FRk.fr {w:World} {g cap:Nat} {L:List (Nat × PFr)} (h:FRk w g cap L):FR w (.slice (some ⟨g,0,none⟩) L.length cap) L:=by
 obtain ⟨cur,h1,h2,h3⟩:=h.cur;refine ⟨fdF_len L,.inr ⟨g,cap,cur,rfl,Nat.zero_le _,h1,h.le,h.most,h2,List.ext_getElem? fun q=>?_⟩⟩;have hl:=h.le;rw [List.getElem?_take]
 by_cases hq:q < L.length*253
 ·
  rw [if_pos hq]
  have hi:q / 253 < L.length:=by omega
  have h4:=h3 (q / 253) L[q / 253] (List.getElem?_eq_getElem hi) (q % 253) (Nat.mod_lt _ (by omega));have h5:=fdF_at L (q / 253) L[q / 253] (List.getElem?_eq_getElem hi) (q % 253) (Nat.mod_lt _ (by omega))
  rw [show q / 253*253+q % 253=q by omega] at h4 h5
  rw [Array.getElem?_toList,h4,h5]
 · rw [if_neg hq,List.getElem?_eq_none (by rw [fdF_len];omega)]
theorem FR.look {w:World} {v:Value} {L:List (Nat × PFr)} (h:FR w v L):(v=.slice none 0 0∧L=[])∨∃ g cap,v=.slice (some ⟨g,0,none⟩) L.length cap∧FRk w g cap L:=by
 rcases h.2 with ⟨h1,h2⟩ | ⟨g,cap,cur,rfl,_,h1,h2,h3,h4,h5⟩
 · exact .inl ⟨h1,List.eq_nil_of_length_eq_zero h2⟩
 ·
  refine .inr ⟨g,cap,rfl,h2,h3,cur,h1,h4,fun i x hx j hj=>?_⟩;have h6:=fdF_at L i x hx j hj;have hi:=(List.getElem?_eq_some_iff.1 hx).1
  rw [← h5,List.getElem?_take,if_pos (by omega),Array.getElem?_toList] at h6
  exact h6
theorem FR.nil (w:World):FR w (.slice none 0 0) []:=⟨rfl,.inl ⟨rfl,rfl⟩⟩
theorem FR.shape {w:World} {v:Value} {L:List (Nat × PFr)} (h:FR w v L):∃ p c,v=.slice p L.length c:=by
 rcases h.look with ⟨rfl,rfl⟩ | ⟨g,cap,rfl,_⟩
 · exact ⟨none,0,rfl⟩
 · exact ⟨_,_,rfl⟩
theorem FRk.on {w w':World} {g cap:Nat} {L:List (Nat × PFr)} (h:FRk w g cap L) (e:w'.heap[g]?=w.heap[g]?):FRk w' g cap L:=by
 obtain ⟨cur,h1,h2,h3⟩:=h.cur;exact ⟨h.le,h.most,cur,h1.stays e,h2,h3⟩
theorem FR.on {w w':World} {v:Value} {L:List (Nat × PFr)} (h:FR w v L) (e:∀ g,v.ownBlock=some g→w'.heap[g]?=w.heap[g]?):FR w' v L:=by
 refine ⟨h.1,?_⟩
 rcases h.2 with h1 | ⟨g,cap,cur,rfl,h2,h3,r⟩
 · exact .inl h1
 · exact .inr ⟨g,cap,cur,rfl,h2,(e g rfl).trans h3,r⟩
theorem FRk.lt {w:World} {g cap:Nat} {L:List (Nat × PFr)} (h:FRk w g cap L):g < w.heap.size:=by
 obtain ⟨cur,h1,_⟩:=h.cur;exact h1.lt
theorem FR.lt {w:World} {v:Value} {L:List (Nat × PFr)} (h:FR w v L):∀ g,v.ownBlock=some g→g < w.heap.size:=fun g hg=>by
 rcases h.look with ⟨rfl,_⟩ | ⟨g',cap,rfl,k⟩
 · cases hg
 · cases hg;exact k.lt
theorem FRk.c {w:World} {g cap:Nat} {L:List (Nat × PFr)} (h:FRk w g cap L) {i:Nat} {x:Nat × PFr} (hx:L[i]?=some x) {j:Nat} (hj:j < 253):w.cell? ⟨g,i*253+j,none⟩=(fdC x)[j]?:=by
 obtain ⟨cur,h1,_,h3⟩:=h.cur;rw [h1.cell,h3 i x hx j hj]
theorem FRk.cells {w:World} {g cap:Nat} {L:List (Nat × PFr)} (h:FRk w g cap L) {i p:Nat} {f:PFr} (hx:L[i]?=some (p,f)) :
  w.cell? ⟨g,i*253,none⟩=some (.int .i64 (p:Int))∧w.cell? ⟨g,i*253+249,none⟩=some (.int .u64 (f.lsn:Int))∧w.cell? ⟨g,i*253+250,none⟩=some (.int .u64 (f.first:Int))∧w.cell? ⟨g,i*253+251,none⟩=some (.bool f.dirty)∧w.cell? ⟨g,i*253+252,none⟩=some (.bool f.used):=by
 have e:∀ j,j < 4→w.cell? ⟨g,i*253+(249+j),none⟩=f.rest[j]?:=fun j hj=>(h.c hx (by omega)).trans (fdC_at (p,f) j)
 have e0:w.cell? ⟨g,i*253+0,none⟩=some (.int .i64 (p:Int)):=(h.c hx (by omega)).trans (fdC_page (p,f))
 rw [Nat.add_zero] at e0
 exact ⟨e0,e 0 (by omega),e 1 (by omega),e 2 (by omega),e 3 (by omega)⟩
theorem FRk.range {w:World} {g cap:Nat} {L:List (Nat × PFr)} (h:FRk w g cap L) {i:Nat} {x:Nat × PFr} (hx:L[i]?=some x):w.rangeAt g (i*253) (fdC x):=fun j v hv=>by
 have hj:j < 253:=by
  have:=(List.getElem?_eq_some_iff.1 hv).1
  rwa [fdC_len] at this
 rw [h.c hx hj,hv]
theorem FRk.pay {w:World} {g cap:Nat} {L:List (Nat × PFr)} (h:FRk w g cap L) {i:Nat} {x:Nat × PFr} (hx:L[i]?=some x):w.rangeAt g (i*253+1) (PSx x.2.pay).cells:=fun j v hv=>by
 have hj:j < 248:=by
  have:=(List.getElem?_eq_some_iff.1 hv).1
  rwa [PSec.cells_len] at this
 rw [Nat.add_assoc,h.c hx (j:=1+j) (by omega),fdC_pay x hj,hv]
theorem FRk.set {w:World} {g cap:Nat} {L:List (Nat × PFr)} (h:FRk w g cap L) {i:Nat} {x y:Nat × PFr} {c:Nat} {u:Value} (hx:L[i]?=some x) (hc:c < 253) (hy:fdC y=(fdC x).set c u):FRk (w.setCell ⟨g,i*253+c,none⟩ u) g cap (L.set i y):=by
 obtain ⟨cur,h1,h2,h3⟩:=h.cur;have hi:=(List.getElem?_eq_some_iff.1 hx).1;have hle:=h.le;refine ⟨by rw [List.length_set];exact h.le,h.most,_,h1.set _ u,by rw [Array.size_setIfInBounds];exact h2,fun k z hz j hj=>?_⟩
 rw [List.getElem?_set] at hz
 rw [Array.getElem?_setIfInBounds]
 by_cases e:i=k
 ·
  subst e
  rw [if_pos rfl,if_pos hi] at hz
  cases hz
  rw [hy,List.getElem?_set,fdC_len]
  by_cases ec:c=j
  · subst ec;rw [if_pos rfl,if_pos (by rw [h2];omega),if_pos rfl,if_pos hc]
  · rw [if_neg (by omega),if_neg ec];exact h3 i x hx j hj
 ·
  rw [if_neg e] at hz
  rw [if_neg (by omega)];exact h3 k z hz j hj
theorem FRk.frozen {w:World} {g cap:Nat} {L:List (Nat × PFr)} (h:FRk w g cap L) (i:Nat):w.frozen? ⟨g,i,none⟩=false:=by
 obtain ⟨cur,h1,_⟩:=h.cur;exact h1.frozen i
theorem fdC_laid (p:Nat) (f:PFr) (hf:PIsSec f.pay) {F:Nat} {ys:List Int} (k:Wd.Small ys) (h:F+ys.length≤248) (j:Nat):(fdC (p,{ f with pay:=Play f.pay F ys }))[j]?=if 1+F≤j∧j < 1+F+ys.length then (ys.map (Value.int .u8))[j - (1+F)]? else (fdC (p,f))[j]?:=by
 by_cases h0:j=0
 ·
  subst h0;rw [if_neg (by omega)]
  rfl
 ·
  by_cases h1:j < 249
  ·
   obtain ⟨q,rfl⟩:∃ q,j=1+q:=⟨j - 1,by omega⟩;rw [fdC_pay _ (by omega),fdC_pay _ (by omega),PSx_cells (Play_sec hf k h),PSx_cells hf]
   unfold Play
   rw [List.getElem?_map,splice_at f.pay ys F q (by rw [hf.len];exact h),List.getElem?_map]
   by_cases hc:F≤q∧q < F+ys.length
   · rw [if_pos hc,if_pos (by omega),show 1+q - (1+F)=q - F by omega]
   · rw [if_neg hc,if_neg (by omega),List.getElem?_map]
  ·
   obtain ⟨q,rfl⟩:∃ q,j=249+q:=⟨j - 249,by omega⟩;rw [fdC_at,fdC_at,if_neg (by omega)]
   rfl
theorem wpList_copy_fd {w:World} {ops:Array Oper} {rest:List Oper} {o:Oper} {a:Act} {Q:Exit→Act→World→Prop} (hgd:o.guard=none) (d s:Operand)
  (ho:o.op=.call { callee:=.builtin .copy,args:=#[d,s],argTypes:=#[31,31] }) {g cap i F A p:Nat} {f:PFr} {L:List (Nat × PFr)} (hA:A=i*253+1+(if 248=F then 0 else F)) (hd:a.eval d=.slice (some ⟨g,A,none⟩) (248 - F) (248 - F)) (hk:FRk w g cap L) (hx:L[i]?=some (p,f)) (hf:PIsSec f.pay)
  {q:Option Addr} {m cc:Nat} {ys:List Int} (hs:a.eval s=.slice q m cc) (hy:Byt w q m cc ys) (hm:F+m≤248)
  (h:∀ w',FRk w' g cap (L.set i (p,{ f with pay:=Play f.pay F ys }))→Onc g w w'→wpList Tryz.prog ops Q rest (a.put o.dst (goInt m)) w'):wpList Tryz.prog ops Q (o :: rest) a w:=by
 have hl:=hy.len;have hi:=(List.getElem?_eq_some_iff.1 hx).1
 by_cases h0:m=0
 ·
  subst h0;obtain rfl:ys=[]:=List.eq_nil_of_length_eq_zero hl;refine wpList_copy_nothing hgd d s _ _ ho 5 Pbt4.us Pbt4_size _ _ _ _ _ _ hd hs (by simp) (h w ?_ (Onc.refl g w));rw [Play_nil]
  have e:L.set i (p,f)=L:=List.ext_getElem? fun k=>by
   rw [List.getElem?_set]
   by_cases e:i=k
   · subst e;rw [if_pos rfl,if_pos hi,hx]
   · rw [if_neg e]
  rw [e];exact hk
 ·
  obtain ⟨b,of,rfl,_⟩:=hy.at (by omega)
  have hAF:A=i*253+1+F:=by rw [hA,if_neg (by omega)]
  subst hAF;obtain ⟨cur,h1,h2,h3⟩:=hk.cur;have hle:=hk.le;refine wpList_copy_own hgd d s _ _ ho 5 Pbt4.us Pbt4_size g (i*253+1+F) (248 - F) (248 - F) ⟨b,of,none⟩ m cc hd hs cur TFd h1 (ys.map (Value.int .u8)) (by rw [List.length_map,hl];exact (Nat.min_eq_left (by omega)).symm) hy.news (by rw [List.length_map,hl,h2];omega) (u8s_oneCell _) ?_;rw [List.length_map,hl]
  have hcl:cur.toList.length=cap*253:=by rw [Array.length_toList];exact h2
  have hsp:=fun q=>splice_at cur.toList (ys.map (Value.int .u8)) (i*253+1+F) q (by rw [List.length_map,hl,hcl];omega)
  rw [List.length_map,hl] at hsp
  refine h _ ⟨by rw [List.length_set];exact hk.le,hk.most,_,h1.row _,?_,fun k z hz j hj=>?_⟩ (Onc.row g w _)
  ·
   rw [List.size_toArray,List.length_append,List.length_append,List.length_take,List.length_drop,List.length_map,hcl,hl]
   omega
  ·
   rw [List.getElem?_toArray,hsp]
   rw [List.getElem?_set] at hz
   by_cases e:i=k
   ·
    subst e
    rw [if_pos rfl,if_pos hi] at hz
    cases hz
    rw [fdC_laid p f hf hy.small (by rw [hl];exact hm),hl]
    by_cases hc:1+F≤j∧j < 1+F+m
    · rw [if_pos hc,if_pos (by omega),show i*253+j - (i*253+1+F)=j - (1+F) by omega]
    · rw [if_neg hc,if_neg (by omega),Array.getElem?_toList];exact h3 i _ hx j hj
   ·
    rw [if_neg e] at hz
    rw [if_neg (by omega),Array.getElem?_toList];exact h3 k z hz j hj
end Go.Proofs.YtdmhemgepdknhaaGreat
namespace Go.Proofs.YtdmhemgepdknhaaGreat
open Go.RowKit Go.Maps
theorem info_fd:∃ i b z,Tryz.prog.info? TFd=some i∧i.zero=some z∧i.size=253∧i.bytes=b∧b≤1000∧z.cells.size=253:=by
 have h:(Tryz.prog.info? TFd).map (fun i=>(i.zero.map (fun z=>z.cells.size),i.size,decide (i.bytes≤1000)))=some (some 253,253,true):=by kernel_rfl
 cases e:Tryz.prog.info? TFd with
 | none=>rw [e] at h;cases h
 | some i=>
  rw [e] at h
  simp only [Option.map_some,Option.some.injEq,Prod.mk.injEq,decide_eq_true_eq] at h
  obtain ⟨h1,h2,h3⟩:=h
  cases e2:i.zero with
  | none=>rw [e2] at h1;cases h1
  | some z=>
   rw [e2] at h1
   simp only [Option.map_some,Option.some.injEq] at h1
   exact ⟨i,i.bytes,z,rfl,e2,h2,rfl,h3,h1⟩
def Seg (w:World) (v:Value) (ts:List (Nat × PFr)):Prop:=
 (v=.slice none 0 0∧ts=[])∨∃ q o c,v=.slice (some ⟨q,o,none⟩) ts.length c∧∀ i y,ts[i]?=some y→∀ j,j < 253→w.cell? ⟨q,o+(i*253+j),none⟩=(fdC y)[j]?
theorem Seg.gr {w w':World} {v:Value} {ts:List (Nat × PFr)} (h:Seg w v ts) (g:Gr w w'):Seg w' v ts:=by
 rcases h with h | ⟨q,o,c,h1,h2⟩
 · exact .inl h
 ·
  refine .inr ⟨q,o,c,h1,fun i y hy j hj=>?_⟩;have h3:=h2 i y hy j hj;have hs:∃ u,(fdC y)[j]?=some u:=⟨(fdC y)[j]'(by rw [fdC_len];exact hj),List.getElem?_eq_getElem _⟩;obtain ⟨u,hu⟩:=hs
  rw [hu] at h3 ⊢
  rw [g.cell (World.block_lt_of_cell? w _ h3)];exact h3
theorem run_app_fd {w:World} {v x:Value} {L ts:List (Nat × PFr)} (ty:TypeId) (hr:FR w v L) (hx:Seg w x ts) (hl:L.length+ts.length≤200000) :
  ∃ v' w',(Builtin.append_ #[TFs,TFs] ty #[v,x]).run Tryz.prog w=.ok v' w'∧FR w' v' (L++ts)∧w.grownBy w' v.ownBlock∧(v'.ownBlock=v.ownBlock∨v'.ownBlock=some w.heap.size):=by
 obtain ⟨i,b,z,hi,hz,hs,hb,hb2,hzs⟩:=info_fd
 rcases hx with ⟨rfl,rfl⟩ | ⟨q,o,c,rfl,hc⟩
 · refine ⟨v,w,run_append_owned_none (P:=Tryz.prog) (w:=w) 0 TFs ty TFd i 253 Tryz.underlying51 hi v L.length _ hr,?_,World.grownBy.refl _ _,.inl rfl⟩;rw [List.append_nil];exact hr
 ·
  have hnews:∀ j u,(fdF ts)[j]?=some u→w.cell? ((⟨q,o,none⟩:Addr).add j)=some u:=by
   intro j u hj
   have hlt:j < ts.length*253:=by rw [← fdF_len];exact (List.getElem?_eq_some_iff.1 hj).1
   have hq:j / 253 < ts.length:=by omega
   have h1:=hc (j / 253) ts[j / 253] (List.getElem?_eq_getElem hq) (j % 253) (Nat.mod_lt _ (by omega));have h2:=fdF_at ts (j / 253) ts[j / 253] (List.getElem?_eq_getElem hq) (j % 253) (Nat.mod_lt _ (by omega))
   rw [show j / 253*253+j % 253=j by omega] at h1 h2
   rw [Addr.add_mid,h1,← h2,hj]
  have hone:∀ u ∈ fdF ts,u.oneCell'=true:=fun u hu=>by
   obtain ⟨l,hl1,hl2⟩:=List.mem_flatten.1 hu;obtain ⟨y,_,rfl⟩:=List.mem_map.1 hl1;exact fdC_one y u hl2
  have hbb:(L.length+ts.length)*b≤140737488355328:=Nat.le_trans (Nat.mul_le_mul hl hb2) (by decide);obtain ⟨v',w',hrun,h1,h2,_,h3⟩:=run_append_own_at (P:=Tryz.prog) w 0 TFs ty TFd i z 253 b Tryz.underlying51 hi hz hs hb hzs (by omega) v L.length (fdF L) hr ⟨q,o,none⟩ ts.length c (fdF ts) (fdF_len ts) hnews hone (by unfold maxLen;omega) hbb (Nat.zero_le _);refine ⟨v',w',hrun,?_,h2,h3⟩
  unfold FR
  rw [fdF_app,List.length_append];exact h1
theorem wp_app_fd {w:World} {v x:Value} {L ts:List (Nat × PFr)} {o:Oper} {a:Act} {K:Act→World→Prop} {Q:Exit→Act→World→Prop} (s y:Operand) (ho:o.op=.call { callee:=.builtin .append,args:=#[s,y],argTypes:=#[TFs,TFs] })
  (hs:a.eval s=v) (hr:FR w v L) (hy:a.eval y=x) (hx:Seg w x ts) (hl:L.length+ts.length≤200000)
  (h:∀ v' w',FR w' v' (L++ts)→w.grownBy w' v.ownBlock→(v'.ownBlock=v.ownBlock∨v'.ownBlock=some w.heap.size)→K (a.put o.dst v') w'):o.wp Tryz.prog a w K Q:=by
 obtain ⟨v',w',hrun,h1,h2,h3⟩:=run_app_fd o.type hr hx hl
 unfold Oper.wp execOp
 simp only [ho,resolve,invoke,builtin,Sem.run_bind,Sem.run_pure,Result.andThen_ok,List.map_toArray,List.map_cons,List.map_nil,hs,hy,hrun]
 exact h v' w' h1 h2 h3
theorem wpList_app_fd {w:World} {v x:Value} {L ts:List (Nat × PFr)} {ops:Array Oper} {rest:List Oper} {o:Oper} {a:Act} {Q:Exit→Act→World→Prop} (hg:o.guard=none) (s y:Operand) (ho:o.op=.call { callee:=.builtin .append,args:=#[s,y],argTypes:=#[TFs,TFs] })
  (hs:a.eval s=v) (hr:FR w v L) (hy:a.eval y=x) (hx:Seg w x ts) (hl:L.length+ts.length≤200000)
  (h:∀ v' w',FR w' v' (L++ts)→w.grownBy w' v.ownBlock→(v'.ownBlock=v.ownBlock∨v'.ownBlock=some w.heap.size)→wpList Tryz.prog ops Q rest (a.put o.dst v') w'):wpList Tryz.prog ops Q (o :: rest) a w:=
 wpList_plain hg fun _ hK=>wp_app_fd s y ho hs hr hy hx hl fun v' w' h1 h2 h3=>hK _ _ (h v' w' h1 h2 h3)
theorem FRk.seg {w:World} {g cap:Nat} {L:List (Nat × PFr)} (h:FRk w g cap L) {k m c:Nat} (hm:k+m≤L.length):Seg w (.slice (some ⟨g,k*253,none⟩) m c) ((L.drop k).take m):=by
 have hl:((L.drop k).take m).length=m:=by rw [List.length_take,List.length_drop];omega
 refine .inr ⟨g,k*253,c,by rw [hl],fun i y hy j hj=>?_⟩
 have hi:i < m:=by have:=(List.getElem?_eq_some_iff.1 hy).1;omega
 rw [List.getElem?_take,if_pos hi,List.getElem?_drop] at hy
 have:=h.c hy hj;rw [show k*253+(i*253+j)=(k+i)*253+j by omega];exact this
theorem Seg.none (w:World) (q o c:Nat):Seg w (.slice (some ⟨q,o,Option.none⟩) 0 c) []:=.inr ⟨q,o,c,rfl,fun i y hy=>by simp at hy⟩
theorem run_buildFd (w:World) (y:Nat × PFr):(Instr.buildSlice TFs 1 #[(0,.agg (fdC y).toArray)]).run Tryz.prog w=.ok (.slice (some ⟨w.heap.size,0,none⟩) 1 1) (w.alloc (.cells (fdC y).toArray TFd)):=by
 obtain ⟨i,b,z,hi,hz,hs,hb,hb2,hzs⟩:=info_fd;have hf:=fill_many 253 [fdC y] 0 ((Array.range (1*253)).map (z.cells[· % z.cells.size]!)) (fun l hl=>by rw [List.mem_singleton.1 hl];exact fdC_len y) (by simp);refine run_buildSlice w TFs TFd 1 _ _ i z Tryz.underlying51 hi hz (by rw [hs];decide) (by rw [hs];decide) ?_;rw [hs];have e:partsL 0 [fdC y]=[(0,.agg (fdC y).toArray)]:=rfl
 rw [e] at hf
 refine hf.trans ?_
 simp
theorem Seg.lit (w:World) (y:Nat × PFr):Seg (w.alloc (.cells (fdC y).toArray TFd)) (.slice (some ⟨w.heap.size,0,Option.none⟩) 1 1) [y]:=by
 refine .inr ⟨w.heap.size,0,1,rfl,fun i x hx j hj=>?_⟩
 have hi:i=0:=by have:=(List.getElem?_eq_some_iff.1 hx).1;simp at this;exact this
 subst hi
 obtain rfl:y=x:=by simpa using hx
 rw [(Blk.new w TFd (fdC y).toArray).cell,Nat.zero_mul,Nat.zero_add,Nat.zero_add,List.getElem?_toArray]
theorem wp_buildFd {o:Oper} {a:Act} {w:World} {K:Act→World→Prop} {Q:Exit→Act→World→Prop} (x:Operand) (ho:o.op=.buildSlice TFs 1 #[(0,x)]) {y:Nat × PFr} (hx:a.eval x=.agg (fdC y).toArray)
  (h:K (a.put o.dst (.slice (some ⟨w.heap.size,0,none⟩) 1 1)) (w.alloc (.cells (fdC y).toArray TFd))):o.wp Tryz.prog a w K Q:=by
 have hp:((#[(0,x)]:Array (Nat × Operand)).map fun (i,x)=>(i,a.eval x))=#[(0,.agg (fdC y).toArray)]:=by simp [hx]
 unfold Oper.wp execOp
 simp only [ho,hp,Sem.run_bind,run_buildFd w y,Result.andThen_ok]
 exact h
theorem wpList_buildFd {ops:Array Oper} {rest:List Oper} {o:Oper} {a:Act} {w:World} {Q:Exit→Act→World→Prop} (hg:o.guard=none) (x:Operand) (ho:o.op=.buildSlice TFs 1 #[(0,x)]) {y:Nat × PFr} (hx:a.eval x=.agg (fdC y).toArray)
  (h:wpList Tryz.prog ops Q rest (a.put o.dst (.slice (some ⟨w.heap.size,0,none⟩) 1 1)) (w.alloc (.cells (fdC y).toArray TFd))):wpList Tryz.prog ops Q (o :: rest) a w:=
 wpList_plain hg fun _ hK=>wp_buildFd x ho hx (hK _ _ h)
theorem built_fd (p:Nat) (x:List Int) (n:Nat):Tryz.prog.built TFd [(0,.int .i64 (p:Int)),(1,.agg (PSx x).cells.toArray),(2,.int .u64 (n:Int))]=some (fdC (p,⟨x,n,0,false,false⟩)).toArray:=by
 have hz0:(Tryz.prog.info? TFd).map (·.zero)=some (some (.agg ((Value.int .i64 0 :: (frZ++[Value.int .u64 0,Value.int .u64 0,Value.bool false,Value.bool false])).toArray))):=by kernel_rfl
 obtain ⟨it,hit,hz⟩:∃ it,Tryz.prog.info? TFd=some it∧it.zero=some (.agg ((Value.int .i64 0 :: (frZ++[Value.int .u64 0,Value.int .u64 0,Value.bool false,Value.bool false])).toArray)):=by
  cases h:Tryz.prog.info? TFd with
  | none=>rw [h] at hz0;cases hz0
  | some it=>rw [h] at hz0;exact ⟨it,rfl,Option.some.inj hz0⟩
 obtain ⟨fs,hfs,hm⟩:∃ fs:Array Field,Tryz.prog.underlying TFd=some (.struct fs)∧fs.toList.mapM (fun f=>(Tryz.prog.info? f.type).map fun i=>(f.offset,i.size))=some [(0,1),(1,248),(249,1),(250,1),(251,1),(252,1)]:=⟨_,Tryz.underlying95,by kernel_rfl⟩
 unfold Program.built
 rw [hit,hfs]
 simp only [hz]
 rw [hm];have hx:=(PSx x).cells_len;obtain ⟨T,hT⟩:∃ T,T=[Value.int .u64 0,Value.int .u64 0,Value.bool false,Value.bool false]:=⟨_,rfl⟩;rw [← hT]
 have hTl:T.length=4:=by rw [hT];rfl
 have hset0:(Value.int .i64 0 :: (frZ++T)).toArray.setIfInBounds 0 (.int .i64 (p:Int))=(Value.int .i64 (p:Int) :: (frZ++T)).toArray:=by simp
 have hf:=fill_part (PSx x).cells 1 (Value.int .i64 (p:Int) :: (frZ++T)).toArray (by rw [hx,List.size_toArray,List.length_cons,List.length_append,frZ_len];omega)
 have hd:(Value.int .i64 (p:Int) :: (frZ++T)).drop (1+(PSx x).cells.length)=T:=by
  rw [hx,show 1+248=248+1 from rfl,List.drop_succ_cons];exact List.drop_left' frZ_len
 have hset2:(Value.int .i64 (p:Int) :: ((PSx x).cells++T)).toArray.setIfInBounds 249 (.int .u64 (n:Int))=(fdC (p,⟨x,n,0,false,false⟩)).toArray:=by
  rw [List.setIfInBounds_toArray,show 249=248+1 from rfl,List.set_cons_succ,List.set_append_right _ _ (by rw [hx];exact Nat.le_refl _),hx,hT]
  rfl
 have hf2:List.foldl (fun (cs:Array Value) (p:Value × Nat)=>cs.setIfInBounds (1+p.2) p.1) (Value.int .i64 (p:Int) :: (frZ++T)).toArray (PSx x).cells.zipIdx=(Value.int .i64 (p:Int) :: ((PSx x).cells++T)).toArray:=by
  have h1:=hf
  simp only [List.toList_toArray] at h1
  rw [hd] at h1
  simpa using h1
 simp [Instr.fill,Value.cells,hx,frZ_len,hTl]
 rw [hf2];refine ⟨?_,hset2⟩;rw [List.size_toArray,List.length_cons,List.length_append,hx,hTl]
 decide
theorem wp_build_fd {op:Oper} {a:Act} {w:World} {K:Act→World→Prop} {Q:Exit→Act→World→Prop} (x y z:Operand) (ho:op.op=.build TFd #[(0,x),(1,y),(2,z)]) {p:Nat} {xs:List Int} {n:Nat}
  (hx:a.eval x=.int .i64 (p:Int)) (hy:a.eval y=.agg (PSx xs).cells.toArray) (hz:a.eval z=.int .u64 (n:Int)) (h:K (a.put op.dst (.agg (fdC (p,⟨xs,n,0,false,false⟩)).toArray)) w):op.wp Tryz.prog a w K Q:=by
 have hb:Tryz.prog.built TFd ((#[(0,x),(1,y),(2,z)]:Array (Nat × Operand)).map fun (i,x)=>(i,a.eval x)).toList=some (fdC (p,⟨xs,n,0,false,false⟩)).toArray:=by
  simp only [List.map_toArray,List.map_cons,List.map_nil,hx,hy,hz]
  exact built_fd p xs n
 exact wp_build TFd _ ho (by rw [hb];rfl) (by rw [hb];exact h)
end Go.Proofs.YtdmhemgepdknhaaGreat
namespace Go.Proofs.YtdmhemgepdknhaaGreat
open Go.RowKit Go.Maps
structure DpAt (w:World) (b:Nat) (sv av:Value) (P:Pl) (ss:List Sec) (la:Nat) (L:List (Nat × PFr)):Prop where
 blk:Blk w b TRp #[sv,av,.int .i64 P.most,.bool P.held,.int .u64 (la:Int),.int .i64 P.hand]
 row:Row w sv ss
 all:FR w av L
 rl:Rl P L
 apS:∀ g,sv.ownBlock=some g→g≠b
 apA:∀ g,av.ownBlock=some g→g≠b∧sv.ownBlock≠some g
 len:L.length≤65536
def dpS (b:Nat) (sv av:Value) (q:Nat):Prop:=q=b∨sv.ownBlock=some q∨av.ownBlock=some q
section
variable {w w':World} {b:Nat} {sv av:Value} {P:Pl} {ss:List Sec} {la:Nat} {L:List (Nat × PFr)}
theorem DpAt.cells (h:DpAt w b sv av P ss la L):w.cell? ⟨b,0,none⟩=some sv∧w.cell? ⟨b,1,none⟩=some av∧w.cell? ⟨b,2,none⟩=some (.int .i64 P.most)∧w.cell? ⟨b,3,none⟩=some (.bool P.held)∧w.cell? ⟨b,4,none⟩=some (.int .u64 (la:Int))∧w.cell? ⟨b,5,none⟩=some (.int .i64 P.hand):=
 ⟨h.blk.cell 0,h.blk.cell 1,h.blk.cell 2,h.blk.cell 3,h.blk.cell 4,h.blk.cell 5⟩
theorem DpAt.stays (h:DpAt w b sv av P ss la L) (e:∀ q,dpS b sv av q→w'.heap[q]?=w.heap[q]?):DpAt w' b sv av P ss la L:=
 ⟨h.blk.stays (e b (.inl rfl)),h.row.stays fun g hg=>e g (.inr (.inl hg)),h.all.on fun g hg=>e g (.inr (.inr hg)),h.rl,h.apS,h.apA,h.len⟩
theorem DpAt.low (h:DpAt w b sv av P ss la L):∀ q,dpS b sv av q→q < w.heap.size:=fun q hq=>by
 rcases hq with rfl | hq | hq
 · exact h.blk.lt
 · exact h.row.lt q hq
 · exact h.all.lt q hq
theorem DpAt.gr (h:DpAt w b sv av P ss la L) (g:Gr w w'):DpAt w' b sv av P ss la L:=h.stays fun q hq=>g.block q (h.low q hq)
def RetAt (L:List (Nat × PFr)) (p:Int) (w:World) (e:Ending) (w':World):Prop:=
 w=w'∧((∃ (k:Nat) (x:Nat × PFr),L[k]?=some x∧(x.1:Int)=p∧e=.returned (.int .i64 (k:Int)))∨((∀ (k:Nat) (x:Nat × PFr),L[k]?=some x→(x.1:Int)≠p)∧e=.returned (.int .i64 (-1))))
set_option maxRecDepth 100000 in
set_option maxHeartbeats 1000000 in
theorem dat_any (h:DpAt w b sv av P ss la L) (p:Int):Calls Tryz.prog 46 #[.pointer (some ⟨b,0,none⟩),.int .i64 p] w (RetAt L p w):=by
 obtain ⟨-,c1,-⟩:=h.cells
 rcases h.all.look with ⟨rfl,rfl⟩ | ⟨g,cap,rfl,hk⟩
 ·
  clear h
  go_enter Tryz.func46,Tryz.ntmps46
  go_wp2_with fail
  go_loop [5] (fun iv=>iv=.int .i64 0) (fun _=>0)
  case atStart=>rfl
  case round=>
   obtain rfl:=hrel;go_wp2_with fail
   go_ret
   exact ⟨rfl,.inr ⟨fun k x hx=>by simp at hx,rfl⟩⟩
 ·
  have HK:=Lib.hid hk;have hN:=h.len;obtain ⟨N,hNe⟩:∃ N,N=L.length:=⟨_,rfl⟩;have HN:=Lib.hid hNe
  rw [← hNe] at c1 hN
  clear h hk hNe
  go_enter Tryz.func46,Tryz.ntmps46
  go_wp2_with fail
  go_loop [5] (fun iv=>∃ k:Nat,k≤N∧iv=.int .i64 (k:Int)∧Hid (∀ (j:Nat) (x:Nat × PFr),j < k→L[j]?=some x→(x.1:Int)≠p)) (fun iv=>N - (intOf iv).toNat)
  case atStart=>exact ⟨0,Nat.zero_le _,rfl,Lib.hid fun j x hj=>by omega⟩
  case round=>
   obtain ⟨k,hk,rfl,HJ⟩:=hrel
   by_cases hlt:k < N
   ·
    have g3:(k:Int) < (N:Int):=by omega
    have hw:IntKind.i64.wrap ((k:Int)+1)=((k+1:Nat):Int):=by rw [IntWalk.i64_in _ (by omega)];omega
    obtain ⟨x,hx⟩:∃ x,L[k]?=some x:=⟨L[k]'(by rw [← HN.out];exact hlt),List.getElem?_eq_getElem _⟩;have HX:=Lib.hid hx;have c2:=(HK.out.cells (p:=x.1) (f:=x.2) hx).1;obtain ⟨q,hq⟩:∃ q,q=x.1:=⟨_,rfl⟩
    rw [← hq] at c2
    have HQ:=Lib.hid hq;clear hx hq
    by_cases he:(q:Int)=p
    ·
     have he2:((q:Int) == p)=true:=by simpa using he
     go_wp2_with fail
     go_ret
     exact ⟨rfl,.inl ⟨k,x,HX.out,by rw [← HQ.out];exact he,rfl⟩⟩
    ·
     have he2:((q:Int) == p)=false:=by simpa using he
     go_wp2_with fail;refine ⟨⟨k+1,by omega,by go_num,Lib.hid fun j y hj hy=>?_⟩,by simp [intOf];omega⟩
     rcases Nat.lt_or_ge j k with h1 | h1
     · exact HJ.out j y h1 hy
     ·
      obtain rfl:j=k:=by omega
      rw [HX.out] at hy
      cases hy
      rw [← HQ.out];exact he
   ·
    have g3:¬ (k:Int) < (N:Int):=by omega
    go_wp2_with fail
    go_ret
    exact ⟨rfl,.inr ⟨fun j y hy=>HJ.out j y (by have:=(List.getElem?_eq_some_iff.1 hy).1;have:=HN.out;omega) hy,rfl⟩⟩
end
end Go.Proofs.YtdmhemgepdknhaaGreat
