/-
  Texts, put together: PoolAl2 PoolAl3 PoolAl5 PoolDp1.
-/
import Derived.Test.YtdmhemgepdknhaaGreatV1
import Derived.Test.YtdmhemgepdknhaaGreatV30
set_option linter.unusedVariables false
set_option linter.unusedSimpArgs false
namespace Go.Proofs.YtdmhemgepdknhaaGreat
open Go.RowKit Go.Maps
structure AL (P:Pl) (s:St) (L:Lg):Prop where
 ad:AD s L
 rng:∀ i,P.fr i≠none→19≤i∧i < 64
 inn:∀ i f,P.fr i=some f→f.In
 lsn:∀ i f,P.fr i=some f→f.dirty=true→f.lsn≤L.fin
 cln:∀ i f,P.fr i=some f→f.dirty=false→(f.pay,f.lsn)=dC s i
section
variable {P:Pl} {s:St} {L:Lg}
theorem ct_some {i:Nat} {f:PFr} (h:P.fr i=some f):P.ct s i=(f.pay,f.lsn):=by unfold Pl.ct;rw [h]
theorem ct_none {i:Nat} (h:P.fr i=none):P.ct s i=dC s i:=by unfold Pl.ct;rw [h]
theorem AL.wr (h:AL P s L) (xs:List Nat):(P.wr xs s L).1=0∧AD (P.wr xs s L).2.1 (P.wr xs s L).2.2∧L.Like (P.wr xs s L).2.2∧∀ j,19≤j→j < 64→dC (P.wr xs s L).2.1 j=if j ∈ xs∧P.fr j≠none then P.ct s j else dC s j:=by
 have hx:∀ i,i ∈ xs.filter (fun i => !P.clean i)→∃ f,P.fr i=some f∧f.dirty=true:=fun i hi=>by
  have hc:=(List.mem_filter.1 hi).2
  unfold Pl.clean at hc
  cases e:P.fr i with
  | none=>rw [e] at hc;simp at hc
  | some f=>rw [e] at hc;exact ⟨f,rfl,by simpa using hc⟩
 have hu:(xs.filter fun i => !P.clean i).any (P.unk L.fin)=false:=by
  rw [List.any_eq_false]
  intro i hi hc
  obtain ⟨f,hf,hd⟩:=hx i hi;have:=h.lsn i f hf hd
  unfold Pl.unk at hc
  rw [hf] at hc
  simp at hc
  omega
 obtain ⟨k1,k2,k3,k4⟩:=wrGo_al P (xs.filter fun i => !P.clean i) s L h.ad fun i hi=>by
  obtain ⟨f,hf,hd⟩:=hx i hi;exact ⟨f,hf,h.inn i f hf,h.lsn i f hf hd⟩
 unfold Pl.wr
 rw [hu];refine ⟨k1,k2,k3,fun j h19 h64=>(k4 j h19 h64).trans ?_⟩
 by_cases hj:j ∈ xs.filter fun i => !P.clean i
 · obtain ⟨f,hf,_⟩:=hx j hj;rw [if_pos hj,if_pos ⟨(List.mem_filter.1 hj).1,by rw [hf];exact Option.some_ne_none _⟩]
 ·
  rw [if_neg hj]
  by_cases hj2:j ∈ xs∧P.fr j≠none
  ·
   rw [if_pos hj2]
   cases e:P.fr j with
   | none=>exact absurd e hj2.2
   | some f=>
    have hd:f.dirty=false:=by
     cases hd:f.dirty with
     | false=>rfl
     | true=>exact absurd (List.mem_filter.2 ⟨hj2.1,by unfold Pl.clean;rw [e];simp [hd]⟩) hj
    rw [ct_some e,h.cln j f e hd]
  · rw [if_neg hj2]
theorem AL.mr (h:AL P s L):(P.mr s L).1=0∧AL (P.mr s L).2.1 (P.mr s L).2.2.1 (P.mr s L).2.2.2∧L.Like (P.mr s L).2.2.2∧∀ j,19≤j→j < 64→(P.mr s L).2.1.ct (P.mr s L).2.2.1 j=P.ct s j:=by
 unfold Pl.mr
 split
 · exact ⟨rfl,h,Lg.Like.refl L,fun _ _ _=>rfl⟩
 ·
  obtain ⟨g,hg⟩:∃ g,g=goingL P.usd P.round P.many:=⟨_,rfl⟩;obtain ⟨sp,hsp⟩:∃ sp,sp=sparedL P.usd P.round P.many:=⟨_,rfl⟩
  have hgm:∀ i,i ∈ g→P.fr i≠none:=fun i hi=>(P.round_mem (goingL_mem (hg ▸ hi))).2
  rw [← hg,← hsp];obtain ⟨k1,k2,k3,k4⟩:=h.wr g;rw [if_neg (by rw [k1];simp)]
  have hfr:∀ i f,((P.off sp).leave g).fr i=some f→i ∉ g∧∃ f0,P.fr i=some f0∧f.pay=f0.pay∧f.lsn=f0.lsn∧f.dirty=f0.dirty∧f.first=f0.first:=fun i f hf=>by
   rw [Pl.leave_fr,Pl.off_fr] at hf
   split at hf
   · cases hf
   ·
    rename_i hn
    refine ⟨hn,?_⟩
    split at hf
    ·
     cases e:P.fr i with
     | none=>rw [e] at hf;cases hf
     | some f0=>rw [e] at hf;cases hf;exact ⟨f0,rfl,rfl,rfl,rfl,rfl⟩
    · exact ⟨f,hf,rfl,rfl,rfl,rfl⟩
  refine ⟨rfl,⟨k2,fun i hi=>?_,fun i f hf=>?_,fun i f hf hd=>?_,fun i f hf hd=>?_⟩,k3,fun j h19 h64=>?_⟩
  ·
   cases e:((P.off sp).leave g).fr i with
   | none=>exact absurd e hi
   | some f=>
    obtain ⟨_,f0,h0,_⟩:=hfr i f e;exact h.rng i (by rw [h0];exact Option.some_ne_none _)
  · obtain ⟨_,f0,h0,e1,e2,e3,e4⟩:=hfr i f hf;have hin:=h.inn i f0 h0;exact ⟨by rw [e1];exact hin.pay,by rw [e2];exact hin.l,by rw [e4];exact hin.f⟩
  ·
   obtain ⟨_,f0,h0,e1,e2,e3,e4⟩:=hfr i f hf;have h1:=h.lsn i f0 h0 (by rw [← e3];exact hd)
   show f.lsn≤(P.wr g s L).2.2.fin
   rw [k3.fin,e2];exact h1
  ·
   obtain ⟨hn,f0,h0,e1,e2,e3,e4⟩:=hfr i f hf;obtain ⟨h19,h64⟩:=h.rng i (by rw [h0];exact Option.some_ne_none _);have h1:=k4 i h19 h64
   rw [if_neg (fun e=>hn e.1)] at h1
   rw [e1,e2];exact (h.cln i f0 h0 (by rw [← e3];exact hd)).trans h1.symm
  ·
   have h1:=k4 j h19 h64
   cases e:((P.off sp).leave g).fr j with
   | some f=>
    obtain ⟨_,f0,h0,e1,e2,_⟩:=hfr j f e;rw [ct_some e,ct_some h0,e1,e2]
   | none=>
    refine (ct_none e).trans (h1.trans ?_)
    by_cases hj:j ∈ g∧P.fr j≠none
    · rw [if_pos hj]
    ·
     rw [if_neg hj]
     have hno:P.fr j=none:=by
      cases e2:P.fr j with
      | none=>rfl
      | some f0=>
       have hjg:j ∉ g:=fun h5=>hj ⟨h5,by rw [e2];exact Option.some_ne_none _⟩
       rw [Pl.leave_fr,if_neg hjg] at e
       rw [(P.off_none sp j).1 e] at e2
       cases e2
     rw [ct_none hno]
theorem AL.us (h:AL P s L) {i:Nat} (hi:19≤i) (hi2:i < 64):(P.us i s L).1=0∧AL (P.us i s L).2.1 (P.us i s L).2.2.1 (P.us i s L).2.2.2∧L.Like (P.us i s L).2.2.2∧(∀ j,19≤j→j < 64→(P.us i s L).2.1.ct (P.us i s L).2.2.1 j=P.ct s j)∧∃ f,(P.us i s L).2.1.fr i=some f:=by
 have key:∀ (Q:Pl) (s:St) (L:Lg) (f:PFr),AL Q s L→f.In→(f.dirty=true→f.lsn≤L.fin)→(f.dirty=false→(f.pay,f.lsn)=dC s i)→(f.pay,f.lsn)=Q.ct s i→AL (Q.use i f) s L∧∀ j,(Q.use i f).ct s j=Q.ct s j:=fun Q s L f hq hin hl hc hct=>by
  refine ⟨⟨hq.ad,fun j hj=>?_,fun j g hj=>?_,fun j g hj hd=>?_,fun j g hj hd=>?_⟩,fun j=>?_⟩
  ·
   rw [Pl.use_fr] at hj
   by_cases e:j=i
   · omega
   · rw [if_neg e] at hj;exact hq.rng j hj
  ·
   rw [Pl.use_fr] at hj
   split at hj
   · cases hj;exact ⟨hin.pay,hin.l,hin.f⟩
   · exact hq.inn j g hj
  ·
   rw [Pl.use_fr] at hj
   split at hj
   · cases hj;exact hl hd
   · exact hq.lsn j g hj hd
  ·
   rw [Pl.use_fr] at hj
   split at hj
   ·
    rename_i e
    cases hj;rw [e];exact hc hd
   · exact hq.cln j g hj hd
  ·
   by_cases e:j=i
   ·
    have h1:(Q.use i f).fr j=some { f with used:=true }:=by rw [Pl.use_fr,if_pos e]
    rw [ct_some h1,e];exact hct
   ·
    have h1:(Q.use i f).fr j=Q.fr j:=by rw [Pl.use_fr,if_neg e]
    unfold Pl.ct
    rw [h1]
 cases hf:P.fr i with
 | some f=>
  have hus:P.us i s L=(0,P.use i f,s,L):=by unfold Pl.us;rw [hf]
  rw [hus];obtain ⟨k1,k2⟩:=key P s L f h (h.inn i f hf) (h.lsn i f hf) (h.cln i f hf) (ct_some hf).symm;exact ⟨rfl,k1,Lg.Like.refl L,fun j _ _=>k2 j,_,by show (P.use i f).fr i=_;rw [Pl.use_fr,if_pos rfl]⟩
 | none=>
  obtain ⟨k1,k2,k3,k4⟩:=h.mr;have hno:=P.mr_fr s L hf
  have hus:P.us i s L=(0,(P.mr s L).2.1.use i (frS (secN ((P.mr s L).2.2.1.nw i))),(P.mr s L).2.2):=by unfold Pl.us;rw [hf];exact if_neg (by rw [k1];simp)
  rw [hus];obtain ⟨m1,m2⟩:=key _ _ _ (frS (secN ((P.mr s L).2.2.1.nw i))) k2 (frS_in (secN_sec _)) (fun e=>by cases e) (fun _=>rfl) (ct_none hno).symm;exact ⟨rfl,m1,k3,fun j h19 h64=>(m2 j).trans (k4 j h19 h64),_,by show ((P.mr s L).2.1.use i _).fr i=_;rw [Pl.use_fr,if_pos rfl]⟩
def gA (c:Nat→List Int × Nat) (i:Int):PSec × Nat × Int:=if askE 64 i≠0 then (PSec.zero,0,askE 64 i) else (PSx (c i.toNat).1,(c i.toNat).2,0)
theorem AL.gt (h:AL P s L) {i:Int} (hi:¬ (0≤i∧i < 19)):(P.gt 64 i s L).1=gA (P.ct s) i∧AL (P.gt 64 i s L).2.1 (P.gt 64 i s L).2.2.1 (P.gt 64 i s L).2.2.2∧L.Like (P.gt 64 i s L).2.2.2∧∀ j,19≤j→j < 64→(P.gt 64 i s L).2.1.ct (P.gt 64 i s L).2.2.1 j=P.ct s j:=by
 unfold Pl.gt gA
 by_cases ha:askE 64 i=0
 ·
  obtain ⟨h0,h1⟩:=askE_no ha;obtain ⟨k1,k2,k3,k4,f,hf⟩:=h.us (i:=i.toNat) (by omega) (by omega);rw [if_neg (by rw [ha];simp),if_neg (by rw [k1];simp),if_neg (by rw [ha];simp)];refine ⟨?_,k2,k3,k4⟩;have hc:=k4 i.toNat (by omega) (by omega)
  rw [ct_some hf] at hc
  rw [hf,← hc]
 · rw [if_pos ha,if_pos ha];exact ⟨rfl,h,Lg.Like.refl L,fun _ _ _=>rfl⟩
def pA (i o:Int) (nb lsn:Nat):Int:=if askE 64 i≠0 then askE 64 i else if o < 0∨248 - (nb:Int) < o∨lsn=0 then 2 else 0
def pC (c:Nat→List Int × Nat) (i o:Int) (ys:List Int) (lsn:Nat) (j:Nat):List Int × Nat:=if pA i o ys.length lsn=0∧j=i.toNat then (Play (c j).1 o.toNat ys,lsn) else c j
theorem AL.pt (h:AL P s L) {i o:Int} {ys:List Int} {first lsn:Nat} (hi:¬ (0≤i∧i < 19)) (hy:Wd.Small ys) (hl:lsn≤L.fin) (hl2:lsn≤18446744073709551615) (hf2:first≤18446744073709551615) :
  (P.pt 64 i o ys first lsn s L).1=pA i o ys.length lsn∧AL (P.pt 64 i o ys first lsn s L).2.1 (P.pt 64 i o ys first lsn s L).2.2.1 (P.pt 64 i o ys first lsn s L).2.2.2∧L.Like (P.pt 64 i o ys first lsn s L).2.2.2∧∀ j,19≤j→j < 64→(P.pt 64 i o ys first lsn s L).2.1.ct (P.pt 64 i o ys first lsn s L).2.2.1 j=pC (P.ct s) i o ys lsn j:=by
 unfold pC
 by_cases ha:askE 64 i=0
 ·
  obtain ⟨h0,h1⟩:=askE_no ha
  have hna:¬ askE 64 i≠0:=fun e=>e ha
  by_cases hb:o < 0∨248 - (ys.length:Int) < o∨lsn=0
  ·
   have e1:P.pt 64 i o ys first lsn s L=(2,P,s,L):=by unfold Pl.pt;exact (if_neg hna).trans (if_pos hb)
   have e2:pA i o ys.length lsn=2:=by unfold pA;exact (if_neg hna).trans (if_pos hb)
   rw [e1,e2];refine ⟨rfl,h,Lg.Like.refl L,fun j _ _=>?_⟩;rw [if_neg (by simp)]
  ·
   obtain ⟨k1,k2,k3,k4,f,hf⟩:=h.us (i:=i.toNat) (by omega) (by omega)
   have e1:P.pt 64 i o ys first lsn s L=(0,(P.us i.toNat s L).2.1.put i.toNat { f with pay:=Play f.pay o.toNat ys,lsn:=lsn,first:=if f.dirty then f.first else first,dirty:=true },(P.us i.toNat s L).2.2):=by
    unfold Pl.pt
    refine (if_neg hna).trans ((if_neg hb).trans ((if_neg (fun e=>e k1)).trans ?_));rw [hf]
   have e2:pA i o ys.length lsn=0:=by unfold pA;exact (if_neg hna).trans (if_neg hb)
   rw [e1,e2];have hin:=k2.inn _ f hf
   have hfit:o.toNat+ys.length≤248:=by have:=not_or.1 hb;have:=not_or.1 this.2;omega
   refine ⟨rfl,⟨k2.ad,fun j hj=>?_,fun j g hj=>?_,fun j g hj hd=>?_,fun j g hj hd=>?_⟩,k3,fun j h19 h64=>?_⟩
   ·
    have h5:(if j=i.toNat then some _ else (P.us i.toNat s L).2.1.fr j)≠none:=hj
    by_cases e:j=i.toNat
    · omega
    · rw [if_neg e] at h5;exact k2.rng j h5
   ·
    have h5:(if j=i.toNat then some _ else (P.us i.toNat s L).2.1.fr j)=some g:=hj
    split at h5
    ·
     cases h5
     refine ⟨Play_sec hin.pay hy hfit,hl2,?_⟩
     show (if f.dirty then f.first else first)≤_
     split
     · exact hin.f
     · exact hf2
    · exact k2.inn j g h5
   ·
    have h5:(if j=i.toNat then some _ else (P.us i.toNat s L).2.1.fr j)=some g:=hj
    split at h5
    ·
     cases h5
     show lsn≤(P.us i.toNat s L).2.2.2.fin
     rw [k3.fin];exact hl
    · exact k2.lsn j g h5 hd
   ·
    have h5:(if j=i.toNat then some _ else (P.us i.toNat s L).2.1.fr j)=some g:=hj
    split at h5
    · cases h5;cases hd
    · exact k2.cln j g h5 hd
   ·
    have h4:=k4 j h19 h64;obtain ⟨F,hF⟩:∃ F:PFr,F={ f with pay:=Play f.pay o.toNat ys,lsn:=lsn,first:=if f.dirty then f.first else first,dirty:=true }:=⟨_,rfl⟩;rw [← hF]
    show ((P.us i.toNat s L).2.1.put i.toNat F).ct (P.us i.toNat s L).2.2.1 j=if (0:Int)=0∧j=i.toNat then (Play (P.ct s j).1 o.toNat ys,lsn) else P.ct s j
    by_cases e:j=i.toNat
    ·
     have h6:((P.us i.toNat s L).2.1.put i.toNat F).fr j=some F:=if_pos e
     have h7:(P.us i.toNat s L).2.1.ct (P.us i.toNat s L).2.2.1 j=(f.pay,f.lsn):=by rw [e];exact ct_some hf
     have h8:((0:Int)=0∧j=i.toNat):=⟨rfl,e⟩;rw [if_pos h8,← h4,h7,ct_some h6,hF]
    ·
     have h6:((P.us i.toNat s L).2.1.put i.toNat F).fr j=(P.us i.toNat s L).2.1.fr j:=if_neg e
     have h8:¬ ((0:Int)=0∧j=i.toNat):=fun h9=>e h9.2
     rw [if_neg h8,← h4]
     unfold Pl.ct
     rw [h6]
 ·
  have e1:P.pt 64 i o ys first lsn s L=(askE 64 i,P,s,L):=by unfold Pl.pt;exact if_pos ha
  have e2:pA i o ys.length lsn=askE 64 i:=by unfold pA;exact if_pos ha
  rw [e1,e2];refine ⟨rfl,h,Lg.Like.refl L,fun j _ _=>?_⟩;rw [if_neg (fun e=>ha e.1)]
end
end Go.Proofs.YtdmhemgepdknhaaGreat
namespace Go.Proofs.YtdmhemgepdknhaaGreat
open Go.RowKit Go.Maps
section
variable {P P1 P2:Pl} {s s1 s2:St} {L L1 L2:Lg}
theorem AD.small (h:AD s L):L.fin≤100000:=by
 have h1:=h.ok.near;have h2:=h.tl
 omega
theorem AL.noted (h:AL P s L) (page:Nat):AL P s (L.noted page):=by
 have hp:=layL_parts L (nR page) L.free;refine ⟨⟨h.ad.alive,append_ok h.ad.ok _ (by have:=h.ad.small;omega),hp.1.trans h.ad.l16,h.ad.len,hp.2.2.2.2.trans h.ad.tl⟩,h.rng,h.inn,fun i f hf hd=>?_,h.cln⟩;have h1:=h.lsn i f hf hd;have h2:=layL_fin L (nR page) L.free
 show f.lsn≤(layL L (nR page) L.free).fin
 rw [h2]
 split <;> omega
theorem AL.begin (n:Int) (x:Bool):AL (P0 n x) zeroD L0:=
 ⟨⟨zeroD_alive,newL_ok.1,rfl,by simp [zeroD,fresh],rfl⟩,fun i hi=>absurd rfl hi,fun i f hf=>by (cases hf),fun i f hf=>by (cases hf),fun i f hf=>by (cases hf)⟩
end
end Go.Proofs.YtdmhemgepdknhaaGreat
namespace Go.Proofs.YtdmhemgepdknhaaGreat
open Go.RowKit Go.Maps
section
variable {P:Pl} {s:St} {L:Lg}
theorem Pl.wrote_fr (P:Pl) (xs:List Nat) (j:Nat):(P.wrote xs).fr j=if j ∈ xs then (P.fr j).map fun f=>{ f with dirty:=false } else P.fr j:=rfl
theorem AL.dirty_mem (h:AL P s L) {j:Nat} {f:PFr} (hf:P.fr j=some f):j ∈ P.dirty ↔ f.dirty=true:=by
 have hr:=h.rng j (by rw [hf];exact Option.some_ne_none _)
 unfold Pl.dirty
 rw [List.mem_filter,P.mem_pages]
 unfold Pl.clean
 rw [hf]
 constructor
 ·
  rintro ⟨_,h2⟩
  simpa using h2
 ·
  intro h2
  exact ⟨⟨by omega,by simp⟩,by simp [h2]⟩
theorem AL.wa (h:AL P s L):(P.wa s L).1=0∧AL (P.wa s L).2.1 (P.wa s L).2.2.1 (P.wa s L).2.2.2∧L.Like (P.wa s L).2.2.2∧(P.wa s L).2.1.dirty=[]∧(∀ j,19≤j→j < 64→dC (P.wa s L).2.2.1 j=P.ct s j)∧∀ i,(P.wa s L).2.2.1.t i=[]:=by
 obtain ⟨k1,k2,k3,k4⟩:=h.wr P.dirty;have hb:=k2.alive.ba
 have e:P.wa s L=(0,P.wrote P.dirty,BaS (P.wr P.dirty s L).2.1,(P.wr P.dirty s L).2.2):=by
  unfold Pl.wa
  exact (if_neg (fun e=>e k1)).trans (if_neg (fun e=>e hb.2))
 have hC:∀ j,19≤j→j < 64→dC (BaS (P.wr P.dirty s L).2.1) j=P.ct s j:=fun j h19 h64=>by
  have e1:dC (BaS (P.wr P.dirty s L).2.1) j=dC (P.wr P.dirty s L).2.1 j:=by
   unfold dC
   rw [nw_ba (by rw [k2.len];exact h64)]
  rw [e1,k4 j h19 h64]
  by_cases hj:j ∈ P.dirty∧P.fr j≠none
  · rw [if_pos hj]
  ·
   rw [if_neg hj]
   cases hf:P.fr j with
   | none=>rw [ct_none hf]
   | some f=>
    have hd:f.dirty=false:=by
     cases hd:f.dirty with
     | false=>rfl
     | true=>exact absurd ⟨(h.dirty_mem hf).2 hd,by rw [hf];exact Option.some_ne_none _⟩ hj
    rw [ct_some hf,h.cln j f hf hd]
 have hfr:∀ i f,(P.wrote P.dirty).fr i=some f→f.dirty=false∧∃ f0,P.fr i=some f0∧f.pay=f0.pay∧f.lsn=f0.lsn∧f.first=f0.first:=fun i f hf=>by
  rw [Pl.wrote_fr] at hf
  split at hf
  ·
   cases e0:P.fr i with
   | none=>rw [e0] at hf;cases hf
   | some f0=>rw [e0] at hf;cases hf;exact ⟨rfl,f0,rfl,rfl,rfl,rfl⟩
  ·
   rename_i hn
   refine ⟨?_,f,hf,rfl,rfl,rfl⟩
   cases hd:f.dirty with
   | false=>rfl
   | true=>exact absurd ((h.dirty_mem hf).2 hd) hn
 have hal:AL (P.wrote P.dirty) (BaS (P.wr P.dirty s L).2.1) (P.wr P.dirty s L).2.2:=by
  refine ⟨⟨hb.1,k2.ok,k2.l16,(ba_len _).trans k2.len,k2.tl⟩,fun i hi=>h.rng i fun e2=>hi ((P.wrote_none _ i).2 e2),fun i f hf=>?_,fun i f hf hd=>?_,fun i f hf hd=>?_⟩
  · obtain ⟨_,f0,h0,e1,e2,e3⟩:=hfr i f hf;have hin:=h.inn i f0 h0;exact ⟨by rw [e1];exact hin.pay,by rw [e2];exact hin.l,by rw [e3];exact hin.f⟩
  · rw [(hfr i f hf).1] at hd;cases hd
  · obtain ⟨_,f0,h0,e1,e2,_⟩:=hfr i f hf;obtain ⟨h19,h64⟩:=h.rng i (by rw [h0];exact Option.some_ne_none _);rw [hC i h19 h64,ct_some h0,e1,e2]
 have hdi:(P.wrote P.dirty).dirty=[]:=by
  rw [Pl.dirty,List.filter_eq_nil_iff]
  intro i _ hc
  unfold Pl.clean at hc
  cases e0:(P.wrote P.dirty).fr i with
  | none=>rw [e0] at hc;simp at hc
  | some f=>rw [e0] at hc;simp [(hfr i f e0).1] at hc
 have ht:∀ i,(BaS (P.wr P.dirty s L).2.1).t i=[]:=fun i=>by
  unfold BaS
  rw [k2.alive.1]
  rfl
 generalize P.wrote P.dirty=PW at *
 generalize BaS (P.wr P.dirty s L).2.1=SW at *
 generalize (P.wr P.dirty s L).2.2=LW at *
 rw [e];exact ⟨rfl,hal,k3,hdi,hC,ht⟩
end
end Go.Proofs.YtdmhemgepdknhaaGreat
namespace Go.Proofs.YtdmhemgepdknhaaGreat
open Go.RowKit Go.Maps
theorem first_goes (u:Nat→Bool):∀ (R:List Nat),R≠[]→∃ X g Y,R=X++g :: Y∧goingL u R 1=[g]∧((u g=false∧(∀ i,i ∈ X→u i=true)∧sparedL u R 1=X)∨(X=[]∧(∀ i,i ∈ R→u i=true)∧sparedL u R 1=R))
 | [],h=>absurd rfl h
 | i :: R,_=>by
  cases hu:u i with
  | false=>
   refine ⟨[],i,R,rfl,?_,.inl ⟨hu,(fun _ h=>by cases h),?_⟩⟩
   · simp [goingL,hu]
   ·
    simp only [sparedL,hu]
    cases R <;> simp [sparedL]
  | true=>
   by_cases hR:R=[]
   · subst hR;exact ⟨[],i,[],rfl,by simp [goingL,hu],.inr ⟨rfl,(fun j hj=>by rw [List.mem_singleton.1 hj];exact hu),by simp [sparedL,hu]⟩⟩
   ·
    obtain ⟨X,g,Y,h1,h2,h3⟩:=first_goes u R hR
    rcases h3 with ⟨h4,h5,h6⟩ | ⟨h4,h5,h6⟩
    ·
     refine ⟨i :: X,g,Y,by rw [h1];rfl,?_,.inl ⟨h4,fun j hj=>?_,?_⟩⟩
     ·
      have hf:R.filter (fun j => !u j)≠[]:=by
       rw [h1,List.filter_append,List.filter_cons]
       simp [h4]
      unfold goingL at h2 ⊢
      rw [List.filter_cons,if_neg (by simp [hu])]
      cases e:R.filter (fun j => !u j) with
      | nil=>exact absurd e hf
      | cons z zs=>
       rw [e] at h2
       simpa using h2
     ·
      rcases List.mem_cons.1 hj with rfl | hj
      · exact hu
      · exact h5 j hj
     ·
      simp only [sparedL,hu,h6]
      simp
    ·
     refine ⟨[],i,R,rfl,?_,.inr ⟨rfl,fun j hj=>?_,?_⟩⟩
     ·
      have hf:R.filter (fun j => !u j)=[]:=List.filter_eq_nil_iff.2 fun j hj=>by simp [h5 j hj]
      unfold goingL
      rw [List.filter_cons,if_neg (by simp [hu]),hf,List.filter_cons,if_pos hu]
      simp
     ·
      rcases List.mem_cons.1 hj with rfl | hj
      · exact hu
      · exact h5 j hj
     ·
      simp only [sparedL,hu,h6]
      simp
theorem spared_all {u:Nat→Bool}:∀ {R:List Nat} {n:Nat},0 < n→(∀ i,i ∈ R→u i=true)→sparedL u R n=R
 | [],_,_,_=>rfl
 | i :: R,n,hn,h=>by
  have h1:=spared_all (R:=R) hn fun j hj=>h j (List.mem_cons_of_mem _ hj)
  simp only [sparedL,h i List.mem_cons_self,h1]
  rw [if_neg (by omega)]
  simp
theorem spared_none {u:Nat→Bool}:∀ {R:List Nat} {n:Nat},(∀ i,i ∈ R→u i=false)→sparedL u R n=[]
 | [],_,_=>rfl
 | i :: R,n,h=>by
  have h1:=fun m=>spared_none (R:=R) (n:=m) fun j hj=>h j (List.mem_cons_of_mem _ hj)
  simp only [sparedL,h i List.mem_cons_self,h1]
  split <;> simp
theorem spared_app {u:Nat→Bool}:∀ {X Y:List Nat} {n:Nat},(∀ i,i ∈ Y→u i=false)→sparedL u (X++Y) n=sparedL u X n
 | [],Y,n,h=>spared_none h
 | i :: X,Y,n,h=>by
  have h1:=fun m=>spared_app (X:=X) (Y:=Y) (n:=m) h
  simp only [List.cons_append,sparedL,h1]
theorem spared_pre {u:Nat→Bool}:∀ {X:List Nat} {g:Nat} {Y:List Nat} {n:Nat},(∀ i,i ∈ X→u i=true)→u g=false→sparedL u (X++g :: Y) (n+1)=X++sparedL u Y n
 | [],g,Y,n,_,hg=>by simp [sparedL,hg]
 | i :: X,g,Y,n,h,hg=>by
  have h1:=spared_pre (X:=X) (g:=g) (Y:=Y) (n:=n) (fun j hj=>h j (List.mem_cons_of_mem _ hj)) hg
  simp only [List.cons_append,sparedL,h i List.mem_cons_self,h1]
  simp
theorem spared_congr {u v:Nat→Bool}:∀ {X:List Nat} {n:Nat},(∀ i,i ∈ X→u i=v i)→sparedL u X n=sparedL v X n
 | [],_,_=>rfl
 | i :: X,n,h=>by
  have h1:=fun m=>spared_congr (X:=X) (n:=m) fun j hj=>h j (List.mem_cons_of_mem _ hj)
  simp only [sparedL,h i List.mem_cons_self,h1]
def Pl.g1 (P:Pl):Pl:=(P.off (sparedL P.usd P.round 1)).leave (goingL P.usd P.round 1)
def Pl.gN:Nat→Pl→Pl
 | 0,P=>P
 | n+1,P=>Pl.gN n P.g1
theorem Pl.round_nodup (P:Pl):P.round.Nodup:=by
 have h1:P.pages.Nodup:=P.pages_rise.imp fun h=>by omega
 unfold Pl.round
 rw [List.nodup_append];have h2:=h1
 rw [← List.take_append_drop P.behind P.pages,List.nodup_append] at h2
 exact ⟨h2.2.1,h2.1,fun a ha b hb e=>h2.2.2 b hb a ha e.symm⟩
theorem round_gone {P Q:Pl} {X Y:List Nat} {g:Nat} (h:P.round=X++g :: Y) (hh:Q.hand=(g:Int)) (hf:∀ i,Q.fr i=none ↔ (i=g∨P.fr i=none)):Q.round=Y++X:=by
 have key:∀ A B,P.pages=A++g :: B→Q.round=B++A:=fun A B hp=>by
  have hs:=P.pages_rise
  rw [hp,List.pairwise_append,List.pairwise_cons] at hs
  obtain ⟨s1,⟨s2,s3⟩,s4⟩:=hs
  have hq:Q.pages=A++B:=by
   refine Q.pages_is ?_ fun i=>?_
   · rw [List.pairwise_append];exact ⟨s1,s3,fun a ha b hb=>s4 a ha b (List.mem_cons_of_mem _ hb)⟩
   ·
    have hm:=P.mem_pages i
    rw [hp] at hm
    have hfi:=hf i
    have hA:i=g→i ∉ A∧i ∉ B:=fun e=>⟨fun ha=>by have:=s4 i ha g List.mem_cons_self;omega,fun hb=>by have:=s2 i hb;omega⟩
    simp only [List.mem_append,List.mem_cons] at hm ⊢
    constructor
    ·
     intro hi
     have h1:=hm.1 (hi.imp id .inr);refine ⟨h1.1,fun e=>?_⟩
     rcases hfi.1 e with e2 | e2
     ·
      rcases hi with hi | hi
      · exact (hA e2).1 hi
      · exact (hA e2).2 hi
     · exact h1.2 e2
    ·
     rintro ⟨h1,h2⟩
     have hne:i≠g:=fun e=>h2 (hfi.2 (.inl e))
     rcases hm.2 ⟨h1,fun e=>h2 (hfi.2 (.inr e))⟩ with h3 | h3 | h3
     · exact .inl h3
     · exact absurd h3 hne
     · exact .inr h3
  have hb:Q.behind=A.length:=by
   unfold Pl.behind
   rw [hq,hh,List.map_append,List.countP_append,List.countP_eq_length.2,List.countP_eq_zero.2,List.length_map]
   · rfl
   ·
    intro x hx
    obtain ⟨y,hy,rfl⟩:=List.mem_map.1 hx;have:=s2 y hy
    simp
    omega
   ·
    intro x hx
    obtain ⟨y,hy,rfl⟩:=List.mem_map.1 hx;have:=s4 y hy g List.mem_cons_self
    simp
    omega
  unfold Pl.round
  rw [hb,hq,List.drop_left,List.take_left]
 have h1:P.pages.drop P.behind++P.pages.take P.behind=X++g :: Y:=h
 rcases List.append_eq_append_iff.1 h1 with ⟨a,h2,h3⟩ | ⟨c,h2,h3⟩
 · have:=key a (Y++P.pages.drop P.behind) ((List.take_append_drop P.behind P.pages).symm.trans (by rw [h3];simp));rw [this,h2,List.append_assoc]
 ·
  cases c with
  | nil=>
   have h4:P.pages.take P.behind=g :: Y:=by simpa using h3.symm
   have:=key [] (Y++P.pages.drop P.behind) ((List.take_append_drop P.behind P.pages).symm.trans (by rw [h4];rfl));rw [this,h2]
   simp
  | cons z c=>
   obtain ⟨rfl,h4⟩:g=z∧Y=c++P.pages.take P.behind:=by simpa using h3
   have:=key (P.pages.take P.behind++X) c ((List.take_append_drop P.behind P.pages).symm.trans (by rw [h2];simp));rw [this,h4]
   simp
theorem goingL_zero (u:Nat→Bool) (R:List Nat):goingL u R 0=[]:=by unfold goingL;rw [List.take_zero]
theorem Pl.off_usd (P:Pl) (xs:List Nat) (i:Nat):(P.off xs).usd i=(P.usd i && !decide (i ∈ xs)):=by
 unfold Pl.usd
 rw [Pl.off_fr]
 by_cases h:i ∈ xs
 ·
  rw [if_pos h]
  cases P.fr i <;> simp [h]
 ·
  rw [if_neg h]
  cases P.fr i <;> simp [h]
theorem Pl.leave_usd (P:Pl) (xs:List Nat) {i:Nat} (h:i ∉ xs):(P.leave xs).usd i=P.usd i:=by
 unfold Pl.usd
 rw [Pl.leave_fr,if_neg h]
theorem Pl.leave_hand (P:Pl) {xs:List Nat} {g:Nat} (h:xs.getLast?=some g):(P.leave xs).hand=(g:Int):=by
 unfold Pl.leave
 dsimp only
 rw [h]
theorem Pl.off_hand (P:Pl) (xs:List Nat):(P.off xs).hand=P.hand:=rfl
theorem Pl.g1_rest (P:Pl):P.g1.most=P.most∧P.g1.held=P.held:=⟨(Pl.leave_rest _ _).1.trans (Pl.off_rest _ _).1,(Pl.leave_rest _ _).2.trans (Pl.off_rest _ _).2⟩
theorem Pl.same {A B:Pl} (h1:A.most=B.most) (h2:A.held=B.held) (h3:A.hand=B.hand) (h4:A.fr=B.fr):A=B:=by
 cases A
 cases B
 simp_all
theorem two_filters (u:Nat→Bool):∀ R:List Nat,(R.filter fun i => !u i).length+(R.filter u).length=R.length
 | []=>rfl
 | i :: R=>by
  have:=two_filters u R
  cases h:u i <;> simp [List.filter_cons,h] <;> omega
theorem Pl.g1_more (P:Pl) {n:Nat} (h:n+1≤P.round.length) :
  ∃ g,goingL P.usd P.round 1=[g]∧goingL P.usd P.round (n+1)=g :: goingL P.g1.usd P.g1.round n∧g ∉ P.g1.round ∧
   (P.g1.off (sparedL P.g1.usd P.g1.round n)).leave (goingL P.g1.usd P.g1.round n)=(P.off (sparedL P.usd P.round (n+1))).leave (goingL P.usd P.round (n+1)):=by
 have hne:P.round≠[]:=fun e=>by rw [e] at h;simp at h
 obtain ⟨X,g,Y,h1,h2,h3⟩:=first_goes P.usd P.round hne;have hnd:=P.round_nodup
 rw [h1,List.nodup_append,List.nodup_cons] at hnd
 obtain ⟨n1,⟨n2,n3⟩,n4⟩:=hnd
 have hX:∀ i,i ∈ X→i≠g∧i ∉ Y:=fun i hi=>⟨n4 i hi g List.mem_cons_self,fun hy=>n4 i hi i (List.mem_cons_of_mem _ hy) rfl⟩
 have hr:P.g1.round=Y++X:=by
  refine round_gone h1 ?_ fun i=>?_
  · exact Pl.leave_hand _ (by rw [h2];rfl)
  ·
   show ((P.off _).leave _).fr i=none ↔ _
   rw [h2,Pl.leave_fr]
   by_cases e:i=g
   · simp [e]
   ·
    rw [if_neg (by simpa using e),P.off_none]
    simp [e]
 have hgY:g ∉ Y++X:=fun hm=>(List.mem_append.1 hm).elim n2 fun hx=>(hX g hx).1 rfl
 have hu:∀ i,i≠g→P.g1.usd i=(P.usd i && !decide (i ∈ sparedL P.usd P.round 1)):=fun i hi=>by
  show ((P.off _).leave _).usd i=_
  rw [Pl.leave_usd _ _ (by rw [h2];simpa using hi),Pl.off_usd]
 have key:∀ (S1 S2 G:List Nat),(∀ j,j ∈ G→j≠g)→(∀ j,j≠g→(j ∈ sparedL P.usd P.round 1∨j ∈ S1 ↔ j ∈ S2))→(P.g1.off S1).leave G=(P.off S2).leave (g :: G):=fun S1 S2 G hG hS=>by
  have e0:P.g1.hand=(g:Int):=Pl.leave_hand _ (by rw [h2];rfl)
  have e1:((P.g1.off S1).leave G).hand=((P.off S2).leave (g :: G)).hand:=by
   cases hgl:G.getLast? with
   | none=>
    have hG0:G=[]:=by simpa using hgl
    rw [hG0,Pl.leave_nil,Pl.leave_hand _ (show [g].getLast?=some g from rfl)];rw [Pl.off_hand];exact e0
   | some z=>rw [Pl.leave_hand _ hgl,Pl.leave_hand _ (show (g :: G).getLast?=some z by rw [List.getLast?_cons,hgl];rfl)]
  have e3:∀ j,P.g1.fr j=if j=g then none else if j ∈ sparedL P.usd P.round 1 then (P.fr j).map fun f=>{ f with used:=false } else P.fr j:=fun j=>by
   show ((P.off _).leave _).fr j=_
   rw [h2,Pl.leave_fr,Pl.off_fr]
   simp only [List.mem_singleton]
  have e2:((P.g1.off S1).leave G).fr=((P.off S2).leave (g :: G)).fr:=funext fun j=>by
   rw [Pl.leave_fr,Pl.leave_fr]
   by_cases ej:j=g
   ·
    rw [if_neg (show ¬ j ∈ G from fun hm=>hG _ hm ej),if_pos (show j ∈ g :: G by rw [ej];exact List.mem_cons_self),Pl.off_fr,e3 j,if_pos ej]
    split <;> rfl
   ·
    have hs:=hS j ej
    by_cases hj:j ∈ G
    · rw [if_pos hj,if_pos (show j ∈ g :: G from List.mem_cons_of_mem _ hj)]
    ·
     rw [if_neg hj,if_neg (show ¬ j ∈ g :: G by simp [ej,hj]),Pl.off_fr,Pl.off_fr,e3 j,if_neg ej]
     by_cases hs2:j ∈ S2
     ·
      rw [if_pos hs2]
      by_cases ha:j ∈ sparedL P.usd P.round 1
      ·
       rw [if_pos ha]
       split
       · cases P.fr j <;> rfl
       · rfl
      · rw [if_neg ha,if_pos ((hs.2 hs2).resolve_left ha)]
     · rw [if_neg hs2,if_neg (show ¬ j ∈ S1 from fun ha=>hs2 (hs.1 (.inr ha))),if_neg (show ¬ j ∈ sparedL P.usd P.round 1 from fun ha=>hs2 (hs.1 (.inl ha)))]
  exact Pl.same ((Pl.leave_rest _ _).1.trans ((Pl.off_rest _ _).1.trans (P.g1_rest.1.trans ((Pl.leave_rest _ _).1.trans (Pl.off_rest _ _).1).symm))) ((Pl.leave_rest _ _).2.trans ((Pl.off_rest _ _).2.trans (P.g1_rest.2.trans ((Pl.leave_rest _ _).2.trans (Pl.off_rest _ _).2).symm))) e1 e2
 have hGm:∀ j,j ∈ goingL P.g1.usd P.g1.round n→j≠g:=fun j hj e=>by
  have:=goingL_mem hj
  rw [hr,e] at this
  exact hgY this
 rcases h3 with ⟨h4,h5,h6⟩ | ⟨h4,h5,h6⟩
 ·
  have uX:∀ i,i ∈ X→P.g1.usd i=false:=fun i hi=>by rw [hu i (hX i hi).1,h6];simp [hi]
  have uY:∀ i,i ∈ Y→P.g1.usd i=P.usd i:=fun i hi=>by
   rw [hu i (fun e=>n2 (e ▸ hi)),h6]
   have:i ∉ X:=fun hx=>(hX i hx).2 hi
   simp [this]
  have hg2:goingL P.usd P.round (n+1)=g :: goingL P.g1.usd P.g1.round n:=by
   rw [hr]
   unfold goingL
   rw [h1]
   simp only [List.filter_append,List.filter_cons,h4,Bool.not_false,if_true]
   have f1:X.filter (fun i => !P.usd i)=[]:=List.filter_eq_nil_iff.2 fun i hi=>by simp [h5 i hi]
   have f2:X.filter P.usd=X:=List.filter_eq_self.2 h5
   have f3:X.filter (fun i => !P.g1.usd i)=X:=List.filter_eq_self.2 fun i hi=>by simp [uX i hi]
   have f4:X.filter P.g1.usd=[]:=List.filter_eq_nil_iff.2 fun i hi=>by simp [uX i hi]
   have f5:Y.filter (fun i => !P.g1.usd i)=Y.filter fun i => !P.usd i:=List.filter_congr fun i hi=>by rw [uY i hi]
   have f6:Y.filter P.g1.usd=Y.filter P.usd:=List.filter_congr fun i hi=>by rw [uY i hi]
   rw [f1,f2,f3,f4,f5,f6]
   simp [List.append_assoc]
  refine ⟨g,h2,hg2,by rw [hr];exact hgY,?_⟩;rw [hg2]
  refine key _ _ _ hGm fun j hj=>?_
  rw [h6,hr,spared_app uX,spared_congr uY,h1,spared_pre h5 h4,List.mem_append]
 ·
  subst h4
  have uY:∀ i,i ∈ Y→P.g1.usd i=false:=fun i hi=>by
   rw [hu i (fun e=>n2 (e ▸ hi)),h6,h1]
   simp [hi]
  have hg2:goingL P.usd P.round (n+1)=g :: goingL P.g1.usd P.g1.round n:=by
   rw [hr]
   unfold goingL
   have f1:P.round.filter (fun i => !P.usd i)=[]:=List.filter_eq_nil_iff.2 fun i hi=>by simp [h5 i hi]
   have f2:P.round.filter P.usd=P.round:=List.filter_eq_self.2 h5
   have f3:(Y++[]).filter (fun i => !P.g1.usd i)=Y:=by rw [List.append_nil];exact List.filter_eq_self.2 fun i hi=>by simp [uY i hi]
   have f4:(Y++[]).filter P.g1.usd=[]:=by rw [List.append_nil];exact List.filter_eq_nil_iff.2 fun i hi=>by simp [uY i hi]
   rw [f1,f2,f3,f4,h1]
   simp
  refine ⟨g,h2,hg2,by rw [hr];exact hgY,?_⟩;rw [hg2]
  refine key _ _ _ hGm fun j hj=>?_
  rw [h6,hr,List.append_nil,spared_none uY,spared_all (by omega) h5]
  simp
theorem Pl.gN_eq:∀ (n:Nat) (P:Pl),n≤P.round.length→P.gN n=(P.off (sparedL P.usd P.round n)).leave (goingL P.usd P.round n)
 | 0,P,_=>by
  rw [goingL_zero,show sparedL P.usd P.round 0=[] by cases P.round <;> simp [sparedL],Pl.off_nil,Pl.leave_nil]
  rfl
 | n+1,P,h=>by
  obtain ⟨g,h1,h2,h3,h4⟩:=P.g1_more h
  have hl:n≤P.g1.round.length:=by
   have e1:(goingL P.usd P.round (n+1)).length=n+1:=by
    unfold goingL
    rw [List.length_take,List.length_append];have:=two_filters P.usd P.round
    omega
   rw [h2,List.length_cons] at e1
   have:=goingL_len P.g1.usd P.g1.round n
   omega
  show Pl.gN n P.g1=_
  rw [Pl.gN_eq n P.g1 hl,h4]
end Go.Proofs.YtdmhemgepdknhaaGreat
