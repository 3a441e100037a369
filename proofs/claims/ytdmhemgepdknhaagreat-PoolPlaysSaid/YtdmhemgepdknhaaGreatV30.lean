/-
  Texts, put together: Pool27 Pool28 Pool29 Pool30 PoolAl1.
-/
import Derived.Test.YtdmhemgepdknhaaGreatV1
import Derived.Test.YtdmhemgepdknhaaGreatV29
set_option linter.unusedVariables false
set_option linter.unusedSimpArgs false
namespace Go.Proofs.YtdmhemgepdknhaaGreat
open Go.RowKit Go.Maps
theorem rise_eq:∀ (l m:List Nat),l.Pairwise (· < ·)→m.Pairwise (· < ·)→(∀ i,i ∈ l ↔ i ∈ m)→l=m
 | [],[],_,_,_=>rfl
 | [],b :: m,_,_,h=>by have:=(h b).2 (by simp);simp at this
 | a :: l,[],_,_,h=>by have:=(h a).1 (by simp);simp at this
 | a :: l,b :: m,hl,hm,h=>by
  rw [List.pairwise_cons] at hl hm
  have e:a=b:=by
   rcases List.mem_cons.1 ((h a).1 (by simp)) with h1 | h1
   · exact h1
   ·
    rcases List.mem_cons.1 ((h b).2 (by simp)) with h2 | h2
    · exact h2.symm
    · have:=hl.1 b h2;have:=hm.1 a h1;omega
  subst e;rw [rise_eq l m hl.2 hm.2 fun i=>?_]
  constructor
  ·
   intro hi
   rcases List.mem_cons.1 ((h i).1 (List.mem_cons_of_mem _ hi)) with h1 | h1
   · have:=hl.1 i hi;omega
   · exact h1
  ·
   intro hi
   rcases List.mem_cons.1 ((h i).2 (List.mem_cons_of_mem _ hi)) with h1 | h1
   · have:=hm.1 i hi;omega
   · exact h1
theorem Pl.pages_rise (P:Pl):P.pages.Pairwise (· < ·):=List.Pairwise.filter _ List.pairwise_lt_range
theorem Pl.pages_is (P:Pl) {l:List Nat} (hl:l.Pairwise (· < ·)) (h:∀ i,i ∈ l ↔ i < 65536∧P.fr i≠none):P.pages=l:=
 rise_eq _ _ P.pages_rise hl fun i=>(P.mem_pages i).trans (h i).symm
theorem cnt_add {p p':Nat→Bool} {i:Nat} (hp:p i=false) (h:∀ j,p' j=(p j || decide (j=i))):∀ l:List Nat,l.Nodup→i ∈ l→(l.filter p').length=(l.filter p).length+1
 | [],_,hi=>by simp at hi
 | a :: l,hn,hi=>by
  rw [List.nodup_cons] at hn
  by_cases e:a=i
  ·
   subst e
   have h1:l.filter p'=l.filter p:=List.filter_congr fun j hj=>by
    rw [h j]
    have:j≠a:=fun e=>hn.1 (e ▸ hj)
    simp [this]
   rw [List.filter_cons,List.filter_cons,h a,hp,h1]
   simp
  ·
   have hi':i ∈ l:=(List.mem_cons.1 hi).resolve_left fun e2=>e e2.symm
   have ih:=cnt_add hp h l hn.2 hi';rw [List.filter_cons,List.filter_cons,h a]
   simp only [e,decide_false,Bool.or_false]
   split
   · simp only [List.length_cons,ih]
   · exact ih
theorem Pl.put_len (P:Pl) {i:Nat} (hi:i < 65536) (h:P.fr i=none) (f:PFr):(P.put i f).pages.length=P.pages.length+1:=by
 unfold Pl.pages
 refine cnt_add (by rw [h];rfl) (fun j=>?_) _ List.nodup_range (List.mem_range.2 hi)
 show (if j=i then some f else P.fr j).isSome=_
 by_cases e:j=i
 · simp [e]
 · simp [e]
theorem Pl.put_len2 (P:Pl) {i:Nat} {g:PFr} (h:P.fr i=some g) (f:PFr):(P.put i f).pages.length=P.pages.length:=by
 have e:(P.put i f).pages=P.pages:=List.filter_congr fun j _=>by
  show (if j=i then some f else P.fr j).isSome=_
  by_cases e:j=i
  · simp [e,h]
  · simp [e]
 rw [e]
theorem Pl.off_pages (P:Pl) (xs:List Nat):(P.off xs).pages=P.pages:=List.filter_congr fun j _=>by
 have h:=P.off_none xs j
 cases h1:P.fr j with
 | none=>rw [h.2 h1]
 | some f=>
  cases h2:(P.off xs).fr j with
  | none=>rw [h.1 h2] at h1;cases h1
  | some g=>rfl
theorem Pl.leave_len (P:Pl) {i:Nat} (hi:i < 65536) (h:P.fr i≠none):(P.leave [i]).pages.length+1=P.pages.length:=by
 unfold Pl.pages
 refine (cnt_add (p:=fun j=>((P.leave [i]).fr j).isSome) (i:=i) ?_ (fun j=>?_) _ List.nodup_range (List.mem_range.2 hi)).symm
 ·
  show (if i ∈ [i] then none else P.fr i).isSome=false
  simp
 ·
  show _=((if j ∈ [i] then none else P.fr j).isSome || _)
  by_cases e:j=i
  ·
   subst e
   cases h1:P.fr j with
   | none=>exact absurd h1 h
   | some f=>simp
  · simp [e]
theorem Pl.use_fr (P:Pl) (i:Nat) (f:PFr) (j:Nat):(P.use i f).fr j=if j=i then some { f with used:=true } else P.fr j:=rfl
theorem Pl.leave_fr (P:Pl) (xs:List Nat) (j:Nat):(P.leave xs).fr j=if j ∈ xs then none else P.fr j:=rfl
theorem Pl.off_fr (P:Pl) (xs:List Nat) (j:Nat):(P.off xs).fr j=if j ∈ xs then (P.fr j).map fun f=>{ f with used:=false } else P.fr j:=rfl
theorem Pl.leave_rest (P:Pl) (xs:List Nat):(P.leave xs).most=P.most∧(P.leave xs).held=P.held:=⟨rfl,rfl⟩
theorem Pl.off_rest (P:Pl) (xs:List Nat):(P.off xs).most=P.most∧(P.off xs).held=P.held:=⟨rfl,rfl⟩
structure KnB (P:Pl):Prop where
 most:P.most=8
 held:P.held=false
 len:P.pages.length=8
 cl:∀ i g,P.fr i=some g→g.dirty=false
theorem Pl.wr_clean (P:Pl) (h:∀ i g,P.fr i=some g→g.dirty=false) (xs:List Nat) (s:St) (L:Lg):P.wr xs s L=(0,s,L):=by
 have e:xs.filter (fun i => !P.clean i)=[]:=List.filter_eq_nil_iff.2 fun i _ hc=>by
  unfold Pl.clean at hc
  cases hf:P.fr i with
  | none=>rw [hf] at hc;simp at hc
  | some g=>rw [hf] at hc;simp [h i g hf] at hc
 unfold Pl.wr
 rw [e]
 rfl
theorem goingL_one {u:Nat→Bool} {xs:List Nat} (h:xs≠[]):∃ g,goingL u xs 1=[g]∧g ∈ xs:=by
 have hl:(goingL u xs 1).length=1:=by
  unfold goingL
  rw [List.length_take,List.length_append,filt_len]
  have:xs.length≠0:=fun e=>h (List.eq_nil_of_length_eq_zero e)
  omega
 obtain ⟨g,hg⟩:=List.length_eq_one_iff.1 hl;exact ⟨g,hg,goingL_mem (by rw [hg];simp)⟩
theorem Pl.many_one (P:Pl) (h1:P.most=8) (h2:P.pages.length=8):P.many=1:=by
 unfold Pl.many;rw [h1,h2];rfl
theorem KnB.of {P:Pl} {xs ys:List Nat} {i:Nat} {f:PFr} (h1:P.most=8) (h2:P.held=false) (h3:(((P.off xs).leave ys).put i { f with used:=true }).pages.length=8) (h4:∀ j g,(((P.off xs).leave ys).use i f).fr j=some g→g.dirty=false):KnB (((P.off xs).leave ys).use i f):=
 KnB.mk h1 h2 h3 h4
theorem KnB.us {P:Pl} (h:KnB P) {i:Nat} (hi:i < 65536) (s:St) (L:Lg):(P.us i s L).1=0∧(P.us i s L).2.2=(s,L)∧KnB (P.us i s L).2.1:=by
 unfold Pl.us
 cases hf:P.fr i with
 | some f=>
  refine ⟨rfl,rfl,h.most,h.held,(P.put_len2 hf _).trans h.len,fun j g hj=>?_⟩;have h1:(if j=i then some ({ f with used:=true }:PFr) else P.fr j)=some g:=hj
  split at h1
  · cases h1;exact h.cl i f hf
  · exact h.cl j g h1
 | none=>
  obtain ⟨g,hg,hgm⟩:=goingL_one (u:=P.usd) (xs:=P.round) (fun e=>by have:=P.round_len;rw [e,h.len] at this;cases this)
  have hmr:P.mr s L=(0,(P.off (sparedL P.usd P.round P.many)).leave [g],s,L):=by
   unfold Pl.mr
   rw [if_neg (by rw [h.held,h.len,h.most];decide),P.wr_clean h.cl,if_neg (by simp),P.many_one h.most h.len,hg]
  obtain ⟨hg6,hgn⟩:=P.round_mem hgm;have hno:=P.mr_fr s L hf
  rw [hmr] at hno
  have hq:(if (P.mr s L).1≠0 then P.mr s L else (0,(P.mr s L).2.1.use i (frS (secN ((P.mr s L).2.2.1.nw i))),(P.mr s L).2.2))=(0,((P.off (sparedL P.usd P.round P.many)).leave [g]).use i (frS (secN (s.nw i))),s,L):=by
   rw [hmr];exact if_neg (by simp)
  show (if (P.mr s L).1≠0 then P.mr s L else (0,(P.mr s L).2.1.use i (frS (secN ((P.mr s L).2.2.1.nw i))),(P.mr s L).2.2)).1=0∧(if (P.mr s L).1≠0 then P.mr s L else (0,(P.mr s L).2.1.use i (frS (secN ((P.mr s L).2.2.1.nw i))),(P.mr s L).2.2)).2.2=(s,L)∧KnB (if (P.mr s L).1≠0 then P.mr s L else (0,(P.mr s L).2.1.use i (frS (secN ((P.mr s L).2.2.1.nw i))),(P.mr s L).2.2)).2.1
  rw [hq];refine ⟨rfl,rfl,KnB.of h.most h.held ?_ fun j z hj=>?_⟩
  ·
   have h1:=Pl.leave_len (P.off (sparedL P.usd P.round P.many)) hg6 (fun e=>hgn ((P.off_none _ g).1 e))
   rw [P.off_pages,h.len] at h1
   have h2:=Pl.put_len ((P.off (sparedL P.usd P.round P.many)).leave [g]) hi hno { frS (secN (s.nw i)) with used:=true }
   rw [h1] at h2
   exact h2
  ·
   have h1:=hj
   rw [Pl.use_fr,Pl.leave_fr,Pl.off_fr] at h1
   split at h1
   · cases h1;rfl
   ·
    split at h1
    · cases h1
    ·
     split at h1
     ·
      cases hp:P.fr j with
      | none=>rw [hp] at h1;cases h1
      | some f=>rw [hp] at h1;cases h1;exact h.cl j f hp
     · exact h.cl j z h1
structure KnA (P:Pl) (k:Nat) (f:PFr):Prop where
 most:P.most=8
 held:P.held=false
 hand:P.hand = -1
 has:∀ i,P.fr i≠none ↔ i=25∨30≤i∧i < 30+k
 at_:P.fr 25=some f
 used:∀ i g,P.fr i=some g→g.used=true
 cl:∀ i g,i≠25→P.fr i=some g→g.dirty=false
theorem KnA.pages {P:Pl} {k:Nat} {f:PFr} (h:KnA P k f) (hk:k≤8):P.pages=25 :: (List.range k).map (30 + ·):=by
 refine P.pages_is ?_ fun i=>?_
 ·
  rw [List.pairwise_cons];refine ⟨fun j hj=>?_,?_⟩
  ·
   obtain ⟨z,-,rfl⟩:=List.mem_map.1 hj
   omega
  ·
   rw [List.pairwise_map]
   exact List.pairwise_lt_range.imp fun h=>by omega
 ·
  rw [h.has i,List.mem_cons,List.mem_map]
  constructor
  ·
   rintro (rfl | ⟨z,hz,rfl⟩)
   · exact ⟨by omega,.inl rfl⟩
   · have:=List.mem_range.1 hz;exact ⟨by omega,.inr ⟨by omega,by omega⟩⟩
  ·
   rintro ⟨_,h1 | h1⟩
   · exact .inl h1
   · exact .inr ⟨i - 30,List.mem_range.2 (by omega),by omega⟩
theorem KnA.step {P:Pl} {k:Nat} {f:PFr} (h:KnA P k f) (hk:k < 7) (s:St) (L:Lg):(P.us (30+k) s L).1=0∧(P.us (30+k) s L).2.2=(s,L)∧KnA (P.us (30+k) s L).2.1 (k+1) f:=by
 have hno:P.fr (30+k)=none:=by
  cases e:P.fr (30+k) with
  | none=>rfl
  | some g=>
   have:=(h.has (30+k)).1 (by rw [e];exact Option.some_ne_none _)
   omega
 have hmr:P.mr s L=(0,P,s,L):=by
  unfold Pl.mr
  rw [if_pos (.inr (by rw [h.pages (by omega),h.most];simp;omega))]
 unfold Pl.us
 rw [hno,hmr];refine ⟨rfl,rfl,h.most,h.held,h.hand,fun i=>?_,?_,fun i g hi=>?_,fun i g hne hi=>?_⟩
 ·
  show (if i=30+k then some ({ frS (secN (s.nw (30+k))) with used:=true }:PFr) else P.fr i)≠none ↔ _
  by_cases e:i=30+k
  · rw [if_pos e];exact ⟨fun _=>by omega,fun _=>Option.some_ne_none _⟩
  ·
   rw [if_neg e,h.has i]
   omega
 ·
  show (if 25=30+k then some ({ frS (secN (s.nw (30+k))) with used:=true }:PFr) else P.fr 25)=some f
  rw [if_neg (by omega)];exact h.at_
 ·
  have h1:(if i=30+k then some ({ frS (secN (s.nw (30+k))) with used:=true }:PFr) else P.fr i)=some g:=hi
  split at h1
  · cases h1;rfl
  · exact h.used i g h1
 ·
  have h1:(if i=30+k then some ({ frS (secN (s.nw (30+k))) with used:=true }:PFr) else P.fr i)=some g:=hi
  split at h1
  · cases h1;rfl
  · exact h.cl i g hne h1
theorem KnA.dirty {P:Pl} {k:Nat} {f:PFr} (h:KnA P k f) (hk:k≤8) (hf:f.dirty=true):P.dirty=[25]:=by
 unfold Pl.dirty
 rw [h.pages hk,List.filter_cons,if_pos (by unfold Pl.clean;rw [h.at_];simp [hf]),List.filter_eq_nil_iff.2 fun i hi hc=>?_];obtain ⟨z,-,rfl⟩:=List.mem_map.1 hi
 unfold Pl.clean at hc
 cases e:P.fr (30+z) with
 | none=>rw [e] at hc;simp at hc
 | some g=>rw [e] at hc;simp [h.cl _ g (by omega) e] at hc
theorem KnA.last {P:Pl} {f:PFr} (h:KnA P 7 f) (hf:f.dirty=true) {s:St} {L:Lg} (hl:f.lsn=L.fin) (ha:s.Alive) (ok:L.Ok):(P.us 37 s L).1=0∧(P.us 37 s L).2.2=((flS s L L.fin).wrote 25 (Sx f.sec),flL s L L.fin)∧KnB (P.us 37 s L).2.1:=by
 have hpg:=h.pages (k:=7) (by omega)
 have hlen:P.pages.length=8:=by rw [hpg];simp
 have hno:P.fr 37=none:=by
  cases e:P.fr 37 with
  | none=>rfl
  | some g=>
   have:=(h.has 37).1 (by rw [e];exact Option.some_ne_none _)
   omega
 have hrd:P.round=P.pages:=by
  have hb:P.behind=0:=by
   unfold Pl.behind
   rw [h.hand];rw [List.countP_eq_zero]
   intro a ha
   obtain ⟨z,-,rfl⟩:=List.mem_map.1 ha
   simp
  unfold Pl.round
  rw [hb]
  simp
 have hus:∀ i,i ∈ P.pages→P.usd i=true:=fun i hi=>by
  obtain ⟨_,h2⟩:=(P.mem_pages i).1 hi
  unfold Pl.usd
  cases e:P.fr i with
  | none=>exact absurd e h2
  | some g=>exact h.used i g e
 have hgo:goingL P.usd P.round P.many=[25]:=by
  rw [P.many_one h.most hlen,hrd]
  unfold goingL
  rw [List.filter_eq_nil_iff.2 fun i hi hc=>by rw [hus i hi] at hc;simp at hc,List.filter_eq_self.2 hus,hpg]
  rfl
 obtain ⟨f1,f2,f3⟩:=fl_alive ha ok
 have hwr:P.wr [25] s L=(0,(flS s L L.fin).wrote 25 (Sx f.sec),flL s L L.fin):=by
  have e:[25].filter (fun i => !P.clean i)=[25]:=by
   rw [List.filter_cons,if_pos (by unfold Pl.clean;rw [h.at_];simp [hf])]
   rfl
  unfold Pl.wr
  rw [e,if_neg (by unfold Pl.unk;simp [h.at_,hl]),P.wrGo_cons h.at_,hl,if_neg (by rw [f2];simp),if_neg f1.no]
  rfl
 have hmr:P.mr s L=(0,(P.off (sparedL P.usd P.round P.many)).leave [25],(flS s L L.fin).wrote 25 (Sx f.sec),flL s L L.fin):=by
  unfold Pl.mr
  rw [if_neg (by rw [h.held,hlen,h.most];decide),hgo,hwr,if_neg (by simp)]
 have hno2:=P.mr_fr s L hno
 rw [hmr] at hno2
 have hq:P.us 37 s L=(0,((P.off (sparedL P.usd P.round P.many)).leave [25]).use 37 (frS (secN (((flS s L L.fin).wrote 25 (Sx f.sec)).nw 37))),(flS s L L.fin).wrote 25 (Sx f.sec),flL s L L.fin):=by
  unfold Pl.us
  rw [hno,hmr];exact if_neg (by simp)
 rw [hq];refine ⟨rfl,rfl,KnB.of h.most h.held ?_ fun j z hj=>?_⟩
 ·
  have h1:=Pl.leave_len (P.off (sparedL P.usd P.round P.many)) (i:=25) (by omega) (fun e=>by have h3:=h.at_;rw [(P.off_none _ 25).1 e] at h3;cases h3)
  rw [P.off_pages,hlen] at h1
  have h2:=Pl.put_len ((P.off (sparedL P.usd P.round P.many)).leave [25]) (i:=37) (by omega) hno2 { frS (secN (((flS s L L.fin).wrote 25 (Sx f.sec)).nw 37)) with used:=true }
  rw [h1] at h2
  exact h2
 ·
  have h1:=hj
  rw [Pl.use_fr,Pl.leave_fr,Pl.off_fr] at h1
  split at h1
  · cases h1;rfl
  ·
   split at h1
   · cases h1
   ·
    rename_i hne
    have hne':j≠25:=fun e=>hne (by simp [e])
    split at h1
    ·
     cases hp:P.fr j with
     | none=>rw [hp] at h1;cases h1
     | some g=>rw [hp] at h1;cases h1;exact h.cl j g hne' hp
    · exact h.cl j z hne' h1
end Go.Proofs.YtdmhemgepdknhaaGreat
namespace Go.Proofs.YtdmhemgepdknhaaGreat
open Go.RowKit Go.Maps
def L1:Lg:=L0.noted 25
theorem nR_lay:layE (nR 25) L0.free=0:=by decide
theorem L1_fin:L1.fin=37:=by
 have h:=layL_free newL_ok.1 (nR 25) nR_lay
 show (layL L0 (nR 25) L0.free).fin=37
 rw [show (layL L0 (nR 25) L0.free).fin=L0.fin+sizeR (nR 25) from h.2]
 decide
theorem L1_ok:L1.Ok:=append_ok newL_ok.1 (nR 25) (by decide)
theorem nR_at:layA L0 (nR 25) L0.free=0:=by unfold layA;rw [if_pos nR_lay];decide
def fK:PFr:=⟨Play ((secN (zeroD.nw 25)).drop 8) 0 [7],37,0,true,true⟩
theorem known_put:(P0 8 false).pt 64 25 0 [7] 0 37 zeroD L1=(0,((P0 8 false).use 25 (frS (secN (zeroD.nw 25)))).put 25 fK,zeroD,L1):=by
 have hmr:(P0 8 false).mr zeroD L1=(0,P0 8 false,zeroD,L1):=by
  have hp:(P0 8 false).pages=[]:=Pl.pages_is _ List.Pairwise.nil fun i=>by simp [P0]
  unfold Pl.mr
  rw [if_pos (.inr (by rw [hp];decide))]
 have hus:(P0 8 false).us 25 zeroD L1=(0,(P0 8 false).use 25 (frS (secN (zeroD.nw 25))),zeroD,L1):=by
  unfold Pl.us
  rw [show (P0 8 false).fr 25=none from rfl,hmr];exact if_neg (by simp)
 unfold Pl.pt
 rw [if_neg (by decide),if_neg (by decide),show ((25:Int)).toNat=25 from rfl,hus,if_neg (by simp)]
 rfl
theorem known_A:KnA (((P0 8 false).use 25 (frS (secN (zeroD.nw 25)))).put 25 fK) 0 fK:=by
 have hfr:∀ i,((((P0 8 false).use 25 (frS (secN (zeroD.nw 25)))).put 25 fK)).fr i=if i=25 then some fK else none:=fun i=>by
  show (if i=25 then some fK else if i=25 then _ else none)=_
  by_cases h:i=25
  · rw [if_pos h,if_pos h]
  · rw [if_neg h,if_neg h,if_neg h]
 refine ⟨rfl,rfl,rfl,fun i=>?_,by rw [hfr];rfl,fun i g hi=>?_,fun i g hne hi=>?_⟩
 ·
  rw [hfr]
  by_cases h:i=25
  · simp [h]
  · rw [if_neg h];simp;omega
 ·
  rw [hfr] at hi
  split at hi
  · cases hi;rfl
  · cases hi
 ·
  rw [hfr,if_neg hne] at hi
  cases hi
theorem known_sec (s:St):((s.wrote 25 (Sx fK.sec)).nw 25)=Sx fK.sec:=by
 simp [St.nw,St.wrote]
theorem fK_in:fK.In:=⟨Play_sec (frS_in (secN_sec (zeroD.nw 25))).pay (fun x hx=>by simp at hx;omega) (by simp),by decide,by decide⟩
theorem known_byte:(sec (Sx fK.sec))[8]?=some (.int .u8 7):=by
 have h1:fK.sec[8]?=some 7:=by
  unfold PFr.sec
  rw [List.getElem?_append_right (by rw [Wd.enc_length];omega),Wd.enc_length]
  show (Play ((secN (zeroD.nw 25)).drop 8) 0 [7])[0]?=some 7
  unfold Play
  simp
 unfold sec
 rw [Sx_cells fK_in.sec,List.getElem?_toArray,List.getElem?_map,h1]
 rfl
theorem known_least {P:Pl} (h:KnA P 0 fK):P.least=0∧P.dirty=[25]:=by
 have hd:=h.dirty (by omega) rfl;refine ⟨?_,hd⟩
 unfold Pl.least
 rw [hd,if_neg (by simp)]
 unfold Pl.leastTo Pl.fst
 simp [h.at_,fK]
end Go.Proofs.YtdmhemgepdknhaaGreat
namespace Go.Proofs.YtdmhemgepdknhaaGreat
open Go.RowKit Go.Maps
def sK:St:=(flS zeroD L1 L1.fin).wrote 25 (Sx fK.sec)
def LK:Lg:=flL zeroD L1 L1.fin
def KI (k:Nat) (P:Pl) (s:St) (L:Lg):Prop:=(k≤7∧KnA P k fK∧s=zeroD∧L=L1)∨(8≤k∧KnB P∧s=sK∧L=LK)
theorem KI.step {k:Nat} {P:Pl} {s:St} {L:Lg} (h:KI k P s L) (hk:k < 17):(P.us (30+k) s L).1=0∧KI (k+1) (P.us (30+k) s L).2.1 (P.us (30+k) s L).2.2.1 (P.us (30+k) s L).2.2.2:=by
 rcases h with ⟨h1,h2,rfl,rfl⟩ | ⟨h1,h2,rfl,rfl⟩
 ·
  by_cases h7:k=7
  · subst h7;obtain ⟨k1,k2,k3⟩:=h2.last rfl (s:=zeroD) (L:=L1) (by rw [L1_fin];rfl) zeroD_alive L1_ok;exact ⟨k1,.inr ⟨by omega,k3,by rw [show (30+7)=37 from rfl,k2];rfl,by rw [show (30+7)=37 from rfl,k2];rfl⟩⟩
  · obtain ⟨k1,k2,k3⟩:=h2.step (by omega) zeroD L1;exact ⟨k1,.inl ⟨by omega,k3,by rw [k2],by rw [k2]⟩⟩
 · obtain ⟨k1,k2,k3⟩:=h2.us (i:=30+k) (by omega) sK LK;exact ⟨k1,.inr ⟨by omega,k3,by rw [k2],by rw [k2]⟩⟩
theorem KI.get {k:Nat} {P:Pl} {s:St} {L:Lg} (h:KI k P s L) (hk:k < 17):∃ x y,P.gt 64 ((30+k:Nat):Int) s L=((x,y,0),(P.us (30+k) s L).2):=by
 have ha:askE 64 ((30+k:Nat):Int)=0:=by unfold askE;rw [if_neg (by omega)]
 unfold Pl.gt
 rw [if_neg (by rw [ha];simp),show (((30+k:Nat):Int)).toNat=30+k from rfl,if_neg (by rw [(h.step hk).1];simp)]
 cases (P.us (30+k) s L).2.1.fr (30+k) with
 | none=>exact ⟨_,_,rfl⟩
 | some f=>exact ⟨_,_,rfl⟩
def KAt (w0 w:World) (b m:Nat) (pd pl:Value) (P:Pl) (s:St) (L:Lg) (R:Nat):Prop:=
 ∃ S n B,PoAt w b m n pd pl B S P s L 64 R∧(∀ q,uS S b m B q→w0.heap.size≤q)∧Gr w0 w
section
variable {w0 w w':World} {b m:Nat} {pd pl:Value} {P:Pl} {s:St} {L:Lg} {R k:Nat}
theorem KAt.gr (h:KAt w0 w b m pd pl P s L R) (g:Gr w w'):KAt w0 w' b m pd pl P s L R:=by
 obtain ⟨S,n,B,h1,h2,h3⟩:=h;exact ⟨S,n,B,h1.gr g,h2,Gr.trans h3 g⟩
theorem KAt.next {P':Pl} {s':St} {L':Lg} {S S':Nat→Prop} {B B':Nat→Option Nat} {n':Nat} (h2:∀ q,uS S b m B q→w0.heap.size≤q) (h3:Gr w0 w) (k1:PoAt w' b m n' pd pl B' S' P' s' L' 64 R) (k2:Upd (uS S b m B) (uS S' b m B') w w'):KAt w0 w' b m pd pl P' s' L' R:=
 ⟨S',n',B',k1,fun q hq=>k2.from h3.size h2 q hq,Below.trans h3 (k2.below h3.size h2)⟩
theorem KAt.newrow (h:KAt w0 w b m pd pl P s L R) (o:Obj) (cs:Array Value):KAt w0 ((w.alloc o).setRow w.heap.size cs) b m pd pl P s L R:=by
 obtain ⟨S,n,B,h1,h2,h3⟩:=h;have g:=Gr.new w o;refine ⟨S,n,B,(h1.gr g).row (fun e=>by have:=h1.low _ e;omega) cs,h2,Below.trans h3 (below_setRow (B:=w0.heap.size) (Below.mono g h3.size) h3.size cs)⟩
end
end Go.Proofs.YtdmhemgepdknhaaGreat
namespace Go.Proofs.YtdmhemgepdknhaaGreat
open Go.RowKit Go.Maps
def PK:Pl:=((P0 8 false).use 25 (frS (secN (zeroD.nw 25)))).put 25 fK
theorem LK_lasts:LK.lasts=37:=by
 unfold LK
 rw [(fl_alive zeroD_alive L1_ok).2.2,L1_fin]
theorem sK_sec:sK.nw 25=Sx fK.sec:=known_sec _
theorem KnB.dirty {P:Pl} (h:KnB P):P.dirty=[]:=by
 unfold Pl.dirty
 rw [List.filter_eq_nil_iff]
 intro i _ hc
 unfold Pl.clean at hc
 cases e:P.fr i with
 | none=>rw [e] at hc;simp at hc
 | some g=>rw [e] at hc;simp [h.cl i g e] at hc
set_option maxRecDepth 100000 in
set_option maxHeartbeats 2000000 in
theorem known07_any (w:World):Calls Tryz.prog 8 #[] w fun e w'=>e=.returned (.bool true)∧Gr w w':=by
 go_enter Tryz.func8,Tryz.ntmps8
 go_wp2_with fail;refine (begin7_any 8 false w (by omega) (by omega)).mono ?_;rintro e w1 ⟨d,l,b,m,S,rfl,h1,h2,g1⟩
 have HNo:Hid (Calls Tryz.prog 13 #[.pointer (some ⟨l,0,none⟩),.int .i64 25] w1 fun e w'=>e=.returned (.tuple #[.int .u64 0,.int .u64 37,.bool true])∧KAt w w' b m (.pointer (some ⟨d,0,none⟩)) (.pointer (some ⟨l,0,none⟩)) (P0 8 false) zeroD L1 1000000):=Lib.hid (by
  refine (note7_any h1 (by decide) 25).mono ?_;rintro e w' ⟨rfl,S',k1,k2⟩;refine ⟨?_,KAt.next h2 g1 k1 k2⟩;rw [nR_at,nR_lay,show (L0.noted 25).fin=37 from L1_fin]
  rfl)
 clear h1 h2 g1;go_wp2_with fail;refine HNo.out.mono ?_;rintro e w2 ⟨rfl,hk⟩
 have HPut:Hid (Calls Tryz.prog 14 #[.pointer (some ⟨b,0,none⟩),.int .i64 25,.int .i64 0,.slice (some ⟨w2.heap.size,0,none⟩) 1 1,.int .u64 0,.int .u64 37] (w2.alloc (.cells #[.int .u8 7] 5)) fun e w'=>e=.returned (.int .i64 0)∧KAt w w' b m (.pointer (some ⟨d,0,none⟩)) (.pointer (some ⟨l,0,none⟩)) PK zeroD L1 900000):=Lib.hid (by
  obtain ⟨S,n,B,h1,h2,h3⟩:=hk;have g:=Gr.new w2 (.cells #[.int .u8 7] 5)
  have hc:=Put_any (h1.gr g) (R:=900000) (by omega) 25 0 (Byt.one w2 7 5 (by omega)) (fun _ y hy e=>by
   cases hy
   have:=h1.low _ e
   exact absurd this (Nat.lt_irrefl _)) (first:=0) (lsn:=37) (by omega) (by omega)
  rw [known_put] at hc
  refine hc.mono ?_;rintro e w' ⟨rfl,S',n',B',k1,k2⟩
  exact ⟨rfl,KAt.next h2 (Gr.trans h3 g) k1 k2⟩)
 clear hk HNo;go_wp2_with fail;refine HPut.out.mono ?_;rintro e w3 ⟨rfl,hk⟩;have HK3:=Lib.hid hk;obtain ⟨hle,hdi⟩:=known_least known_A
 have HFi:Hid (Calls Tryz.prog 26 #[.pointer (some ⟨b,0,none⟩)] w3 fun e w'=>e=.returned (.tuple #[.int .u64 0,.bool true])∧Gr w3 w'):=Lib.hid (by
  obtain ⟨S,n,B,h1,h2,h3⟩:=hk;have h:=First_any h1.pl h1.ok.hin
  rw [show PK.least=0 from hle,show PK.dirty=[25] from hdi] at h
  exact h)
 have HDi:Hid (∀ W,Gr w3 W→Calls Tryz.prog 22 #[.pointer (some ⟨b,0,none⟩)] W fun e w'=>∃ q c,e=.returned (.slice (some ⟨q,0,none⟩) 1 c)∧w'.cell? ⟨q,0,none⟩=some (.int .i64 25)∧Gr W w'):=Lib.hid fun W g=>by
  obtain ⟨S,n,B,h1,h2,h3⟩:=hk;refine (Dirty_any (h1.gr g).pl h1.ok.hin).mono ?_;rw [show PK.dirty=[25] from hdi];rintro e w' ⟨v,rfl,hv,g2⟩;obtain ⟨q,c,rfl⟩:=hv.full (by simp);exact ⟨q,c,rfl,hv.cellAt 0 (by simp),g2⟩
 clear hk hle hdi HPut;go_wp2_with fail;refine HFi.out.mono ?_;rintro e w4 ⟨rfl,g4⟩;have HG4:=Lib.hid g4;clear g4;go_wp2_with fail;refine (HDi.out _ HG4.out).mono ?_;rintro e w5 ⟨q,c,rfl,c0,g5⟩;have HK5:Hid (KAt w w5 b m (.pointer (some ⟨d,0,none⟩)) (.pointer (some ⟨l,0,none⟩)) PK zeroD L1 900000):=Lib.hid (HK3.out.gr (Gr.trans HG4.out g5));clear g5 HDi HFi HK3;go_wp2_with fail
 go_loopw [10] (fun kv wr=>∃ k:Nat,k≤17∧kv=.int .i64 (k:Int)∧Hid (∃ P s L,KI k P s L∧KAt w wr b m (.pointer (some ⟨d,0,none⟩)) (.pointer (some ⟨l,0,none⟩)) P s L (900000 - 200*k))) (fun kv _=>17 - (intOf kv).toNat)
 case atStart=>exact ⟨0,Nat.zero_le _,rfl,Lib.hid ⟨PK,zeroD,L1,.inl ⟨by omega,known_A,rfl,rfl⟩,HK5.out⟩⟩
 case round=>
  obtain ⟨k,hk,rfl,HI⟩:=hrel
  by_cases hlt:k < 17
  ·
   have g3:(k:Int) < 17:=by omega
   have hw30:IntKind.i64.wrap (30+(k:Int))=30+(k:Int):=IntWalk.i64_in _ (by omega)
   have hw:IntKind.i64.wrap ((k:Int)+1)=((k+1:Nat):Int):=by rw [IntWalk.i64_in _ (by omega)];omega
   have HGet:Hid (Calls Tryz.prog 11 #[.pointer (some ⟨b,0,none⟩),.int .i64 (30+(k:Int))] wr fun e w'=>∃ x y,e=.returned (.tuple #[.agg (Psec x),.int .u64 (y:Int),.int .i64 0])∧∃ P s L,KI (k+1) P s L∧KAt w w' b m (.pointer (some ⟨d,0,none⟩)) (.pointer (some ⟨l,0,none⟩)) P s L (900000 - 200*(k+1))):=Lib.hid (by
    obtain ⟨P,s,L,hi,S,n,B,h1,h2,h3⟩:=HI.out;obtain ⟨x,y,hg⟩:=hi.get hlt;have hc:=Get_any h1 (R:=900000 - 200*(k+1)) (by omega) ((30+k:Nat):Int)
    rw [hg] at hc
    rw [show (30:Int)+(k:Int)=((30+k:Nat):Int) by omega];refine hc.mono ?_;rintro e w' ⟨rfl,S',n',B',k1,k2⟩
    exact ⟨x,y,rfl,_,_,_,(hi.step hlt).2,KAt.next h2 h3 k1 k2⟩)
   clear HI;go_wp2_with fail;refine HGet.out.mono ?_;rintro e w6 ⟨x,y,rfl,hkk⟩;have HKK:=Lib.hid hkk;have hz:=Pzero_sec;have HB:Hid (Blk (w6.alloc (.cells (Psec PSec.zero) PTS)) w6.heap.size PTS (Psec PSec.zero)):=Lib.hid (Blk.new _ _ _);clear hkk HGet
   go_wp2_with (refine PwpList_store_x rfl (.tmp 11) (.tmp 74) rfl HB.out rfl rfl ?_)
   go_roundw
   case rel=>
    obtain ⟨P,s,L,hi,hka⟩:=HKK.out;exact ⟨k+1,by omega,by go_num,Lib.hid ⟨P,s,L,hi,hka.newrow _ _⟩⟩
   case measure=>simp [intOf];omega
  ·
   obtain rfl:k=17:=by omega
   have HF:Hid (∃ P,KnB P∧KAt w wr b m (.pointer (some ⟨d,0,none⟩)) (.pointer (some ⟨l,0,none⟩)) P sK LK 890000):=Lib.hid (by
    obtain ⟨P,s,L,hi,S,n,B,h1,h2,h3⟩:=HI.out
    rcases hi with ⟨h,_⟩ | ⟨_,hb,rfl,rfl⟩
    · omega
    · exact ⟨P,hb,S,n,B,h1.lower (by omega),h2,h3⟩)
   obtain ⟨P,hkb,hka⟩:=HF.out;have HKB:=Lib.hid hkb;have HKA:=Lib.hid hka
   have HRd:Hid (Calls Tryz.prog 28 #[.pointer (some ⟨d,0,none⟩),.int .i64 25] wr fun e w'=>e=.returned (.tuple #[.agg (sec (Sx fK.sec)),.int .i64 0])∧Gr wr w'):=Lib.hid (by
    obtain ⟨S,n,B,h1,h2,h3⟩:=hka;obtain ⟨F,hd,-⟩:=h1.cd.disk (w':=wr);have h:=Read_yes wr hd 25 (by rw [h1.bud.len];omega)
    rw [sK_sec] at h
    exact h)
   clear HI HF hkb hka c0;go_wp2_with fail;refine HRd.out.mono ?_;rintro e w7 ⟨rfl,g7⟩;have hz:=zero_sec;have HB:Hid (Blk (w7.alloc (.cells (sec Sec.zero) TS)) w7.heap.size TS (sec Sec.zero)):=Lib.hid (Blk.new _ _ _);have HK7:=Lib.hid ((HKA.out.gr g7).newrow (.cells (sec Sec.zero) TS) (sec (Sx fK.sec)));have hc8:((w7.alloc (.cells (sec Sec.zero) TS)).setRow w7.heap.size (sec (Sx fK.sec))).cell? ⟨w7.heap.size,8,none⟩=some (.int .u8 7):=((HB.out.row _).cell 8).trans known_byte;obtain ⟨W8,hW8⟩:∃ W8,W8=(w7.alloc (.cells (sec Sec.zero) TS)).setRow w7.heap.size (sec (Sx fK.sec)):=⟨_,rfl⟩;have HW8:=Lib.hid hW8.symm
   rw [← hW8] at HK7 hc8
   have HLa:Hid (Calls Tryz.prog 21 #[.pointer (some ⟨l,0,none⟩)] W8 fun e w'=>e=.returned (.int .u64 37)∧Gr W8 w'):=Lib.hid (by
    obtain ⟨S,n,B,h1,h2,h3⟩:=HK7.out;have h:=h1.cd.Lasts
    rw [LK_lasts] at h
    exact h)
   have HDi:Hid (∀ W,Gr W8 W→Calls Tryz.prog 22 #[.pointer (some ⟨b,0,none⟩)] W fun e w'=>∃ p c,e=.returned (.slice p 0 c)∧Gr W w'):=Lib.hid fun W g=>by
    obtain ⟨S,n,B,h1,h2,h3⟩:=HK7.out;refine (Dirty_any (h1.gr g).pl h1.ok.hin).mono ?_;rw [HKB.out.dirty];rintro e w' ⟨v,rfl,hv,g2⟩;obtain ⟨q,c,rfl⟩:=hv.shape;exact ⟨q,c,rfl,g2⟩
   have HFr:Hid (∀ W,Gr W8 W→Calls Tryz.prog 24 #[.pointer (some ⟨b,0,none⟩)] W fun e w'=>e=.returned (.int .i64 8)∧W=w'):=Lib.hid fun W g=>by
    obtain ⟨S,n,B,h1,h2,h3⟩:=HK7.out;have h:=Frames_any (h1.gr g).pl
    rw [HKB.out.len] at h
    exact h
   have HG8:Hid (Gr w W8):=Lib.hid (by
    obtain ⟨S,n,B,h1,h2,h3⟩:=HK7.out
    exact h3)
   clear g7 HRd HKA hW8 HK5 HK7
   go_wp2_with (refine wpList_store_x rfl (.tmp 14) (.tmp 82) rfl HB.out rfl rfl ?_;rw [HW8.out])
   refine HLa.out.mono ?_;rintro e w8 ⟨rfl,g8⟩;have HGa:=Lib.hid g8;clear g8;go_wp2_with fail;refine (HDi.out _ HGa.out).mono ?_;rintro e w9 ⟨p9,c9,rfl,g9⟩;have HGb:=Lib.hid (Gr.trans HGa.out g9);clear g9;go_wp2_with fail;refine (HFr.out _ HGb.out).mono ?_;rintro e w10 ⟨rfl,rfl⟩;go_wp2_with fail
   go_ret
   exact ⟨rfl,Gr.trans HG8.out HGb.out⟩
end Go.Proofs.YtdmhemgepdknhaaGreat
namespace Go.Proofs.YtdmhemgepdknhaaGreat
open Go.RowKit Go.Maps
theorem nw_wrote2 (s:St) (J j:Nat) (x:Sec):(s.wrote J x).nw j=if j=J then x else s.nw j:=by
 unfold St.nw St.wrote
 by_cases h:j=J
 · subst h;simp
 · simp [h]
theorem nw_ba {s:St} {i:Nat} (hi:i < s.ls.length):(BaS s).nw i=s.nw i:=by
 unfold BaS
 split
 · rfl
 ·
  unfold St.barrier St.nw
  simp [List.getD,hi]
theorem ba_len (s:St):(BaS s).ls.length=s.ls.length:=by
 unfold BaS
 split
 · rfl
 · unfold St.barrier;simp
theorem nw_wrAll {L:Lg} (hl:L.l=16) {i:Nat} (h19:19≤i):∀ (n j:Nat) (s:St),i < s.ls.length→(wrAll L n j s).1.nw i=s.nw i
 | 0,_,s,hi=>nw_ba hi
 | n+1,j,s,hi=>by
  unfold wrAll
  split
  · rfl
  ·
   refine (nw_wrAll hl h19 n (j+1) (s.wrote (wrI L j) (wrX L j)) hi).trans ?_;rw [nw_wrote2,if_neg]
   have h1:wrI L j < 19:=by
    unfold wrI
    rw [hl];have:(L.lasts / 232+j) % (16:Int).toNat < 16:=Nat.mod_lt _ (by decide)
    omega
   omega
theorem begI_lt {L:Lg} (hl:L.l=16):begI L < 19:=by
 unfold begI
 rw [hl];have:L.lasts / 232 % (16:Int).toNat < 16:=Nat.mod_lt _ (by decide)
 omega
theorem putD_nw (s:St) {i j:Nat} (x:Sec) (h:i≠j):(putD s i x).nw j=s.nw j∧(putD s i x).ls.length=s.ls.length:=by
 unfold putD
 split
 · exact ⟨rfl,rfl⟩
 · exact ⟨by rw [nw_wrote2,if_neg (Ne.symm h)],rfl⟩
theorem nw_beg {s:St} {L:Lg} (hl:L.l=16) {i:Nat} (h19:19≤i) (hi:i < s.ls.length):(begS s L).nw i=s.nw i∧(begS s L).ls.length=s.ls.length:=by
 have hb:=begI_lt hl;obtain ⟨h1,h2⟩:=putD_nw s (i:=begI L) (j:=i) (begX L) (by omega)
 unfold begS
 split
 · exact ⟨rfl,rfl⟩
 ·
  split
  · exact ⟨h1,h2⟩
  · exact ⟨(nw_ba (by rw [h2];exact hi)).trans h1,(ba_len _).trans h2⟩
theorem begL_l (s:St) (L:Lg):(begL s L).l=L.l:=by
 rcases begL_cases s L with h | h <;> rw [h]
theorem nw_fl {s:St} {L:Lg} (hl:L.l=16) (u:Nat) {i:Nat} (h19:19≤i) (hi:i < s.ls.length):(flS s L u).nw i=s.nw i:=by
 obtain ⟨h1,h2⟩:=nw_beg (s:=s) hl h19 hi
 unfold flS
 split
 · rfl
 ·
  split
  · rfl
  ·
   split
   · exact h1
   · exact (nw_wrAll (by rw [begL_l];exact hl) h19 _ _ _ (by rw [h2];exact hi)).trans h1
theorem wrAll_len {L:Lg}:∀ (n j:Nat) (s:St),(wrAll L n j s).1.ls.length=s.ls.length
 | 0,_,s=>ba_len s
 | n+1,j,s=>by
  unfold wrAll
  split
  · rfl
  · exact wrAll_len n (j+1) (s.wrote (wrI L j) (wrX L j))
theorem nw_fl_len {s:St} {L:Lg} (u:Nat):(flS s L u).ls.length=s.ls.length:=by
 have hb:(begS s L).ls.length=s.ls.length:=by
  have hp:∀ x,(putD s (begI L) x).ls.length=s.ls.length:=fun x=>by unfold putD;split <;> rfl
  unfold begS
  split
  · rfl
  ·
   split
   · exact hp _
   · exact (ba_len _).trans (hp _)
 unfold flS
 split
 · rfl
 ·
  split
  · rfl
  ·
   split
   · exact hb
   · exact (wrAll_len _ _ _).trans hb
theorem fl_alive2 {s:St} {L:Lg} (h:s.Alive) (ok:L.Ok) {u:Nat} (hu:u≤L.fin):(flS s L u).Alive∧flE s L u=0:=by
 obtain ⟨h1,h2,_⟩:=fl_alive h ok
 have hn:¬ L.fin < u:=by omega
 by_cases hl:u≤L.lasts
 ·
  unfold flS flE
  rw [if_neg hn,if_neg hn,if_pos hl,if_pos hl];exact ⟨h,rfl⟩
 ·
  have hl2:¬ L.fin≤L.lasts:=by omega
  have e1:flS s L u=flS s L L.fin:=by
   unfold flS
   rw [if_neg hn,if_neg hl,if_neg (Nat.lt_irrefl _),if_neg hl2]
  have e2:flE s L u=flE s L L.fin:=by
   unfold flE
   rw [if_neg hn,if_neg hl,if_neg (Nat.lt_irrefl _),if_neg hl2]
  rw [e1,e2];exact ⟨h1,h2⟩
def dC (s:St) (i:Nat):List Int × Nat:=((frS (secN (s.nw i))).pay,(frS (secN (s.nw i))).lsn)
def Pl.ct (P:Pl) (s:St) (i:Nat):List Int × Nat:=match P.fr i with
 | some f=>(f.pay,f.lsn)
 | none=>dC s i
theorem frS_sec {f:PFr} (h:f.In):(frS (secN (Sx f.sec))).pay=f.pay∧(frS (secN (Sx f.sec))).lsn=f.lsn:=by
 rw [secN_Sx h.sec]
 unfold frS PFr.sec
 have he:(Wd.enc 8 f.lsn).length=8:=Wd.enc_length _ _;refine ⟨?_,?_⟩
 ·
  show (Wd.enc 8 f.lsn++f.pay).drop 8=f.pay
  rw [List.drop_left' he]
 ·
  show Wd.dec ((Wd.enc 8 f.lsn++f.pay).take 8)=f.lsn
  rw [List.take_left' he,Wd.dec_enc];exact Nat.mod_eq_of_lt (Nat.lt_of_le_of_lt h.l (by decide))
theorem dC_wrote (s:St) (i j:Nat) {f:PFr} (h:f.In):dC (s.wrote i (Sx f.sec)) j=if j=i then (f.pay,f.lsn) else dC s j:=by
 unfold dC
 rw [nw_wrote2]
 by_cases e:j=i
 · rw [if_pos e,if_pos e,(frS_sec h).1,(frS_sec h).2]
 · rw [if_neg e,if_neg e]
theorem Lg.Like.refl (L:Lg):L.Like L:=⟨rfl,rfl,rfl,rfl,rfl,rfl,rfl⟩
theorem Lg.Like.trans {L1 L2 L3:Lg} (h:L1.Like L2) (k:L2.Like L3):L1.Like L3:=⟨k.n.trans h.n,k.l.trans h.l,k.g.trans h.g,k.epoch.trans h.epoch,k.tail.trans h.tail,k.rsv.trans h.rsv,k.fin.trans h.fin⟩
structure AD (s:St) (L:Lg):Prop where
 alive:s.Alive
 ok:L.Ok
 l16:L.l=16
 len:s.ls.length=64
 tl:L.tail=0
theorem AD.fl {s:St} {L:Lg} (h:AD s L) {u:Nat} (hu:u≤L.fin):flE s L u=0∧AD (flS s L u) (flL s L u)∧L.Like (flL s L u)∧∀ j,19≤j→j < 64→dC (flS s L u) j=dC s j:=by
 obtain ⟨h1,h2⟩:=fl_alive2 h.alive h.ok hu;obtain ⟨h3,h4⟩:=flL_facts (s:=s) h.ok u;refine ⟨h2,⟨h1,h3,h4.l.trans h.l16,?_,h4.tail.trans h.tl⟩,h4,fun j h19 h64=>?_⟩
 · have hl:=(nw_fl_len (s:=s) (L:=L) u).trans h.len;exact hl
 ·
  unfold dC
  rw [nw_fl h.l16 u h19 (by rw [h.len];exact h64)]
theorem AD.put {s:St} {L:Lg} (h:AD s L) (i:Nat) (x:Sec):AD (s.wrote i x) L:=⟨h.alive.wrote i x,h.ok,h.l16,h.len,h.tl⟩
theorem wrGo_al (P:Pl):∀ (xs:List Nat) (s:St) (L:Lg),AD s L→(∀ i,i ∈ xs→∃ f,P.fr i=some f∧f.In∧f.lsn≤L.fin) →
  (P.wrGo xs s L).1=0∧AD (P.wrGo xs s L).2.1 (P.wrGo xs s L).2.2∧L.Like (P.wrGo xs s L).2.2∧∀ j,19≤j→j < 64→dC (P.wrGo xs s L).2.1 j=if j ∈ xs then P.ct s j else dC s j
 | [],s,L,h,_=>⟨rfl,h,Lg.Like.refl L,fun j _ _=>by simp [Pl.wrGo]⟩
 | i :: xs,s,L,h,hx=>by
  obtain ⟨f,hf,hin,hl⟩:=hx i (by simp);obtain ⟨h1,h2,h3,h4⟩:=h.fl hl
  obtain ⟨k1,k2,k3,k4⟩:=wrGo_al P xs ((flS s L f.lsn).wrote i (Sx f.sec)) (flL s L f.lsn) (h2.put _ _) fun j hj=>by
   obtain ⟨g,n1,n2,n3⟩:=hx j (List.mem_cons_of_mem _ hj);exact ⟨g,n1,n2,by rw [h3.fin];exact n3⟩
  rw [P.wrGo_cons hf,if_neg (by rw [h1];simp),if_neg h2.alive.no];refine ⟨k1,k2,h3.trans k3,fun j h19 h64=>?_⟩;rw [k4 j h19 h64,dC_wrote _ _ _ hin,h4 j h19 h64]
  by_cases hj:j ∈ xs
  ·
   rw [if_pos hj,if_pos (List.mem_cons_of_mem _ hj)];obtain ⟨g,n1,_⟩:=hx j (List.mem_cons_of_mem _ hj)
   unfold Pl.ct
   rw [n1]
  ·
   rw [if_neg hj]
   by_cases e:j=i
   ·
    subst e;rw [if_pos rfl,if_pos (by simp)]
    unfold Pl.ct
    rw [hf]
   · rw [if_neg e,if_neg (by simp [e,hj])]
end Go.Proofs.YtdmhemgepdknhaaGreat
