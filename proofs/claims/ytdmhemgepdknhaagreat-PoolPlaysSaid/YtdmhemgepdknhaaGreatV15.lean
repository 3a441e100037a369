/-
  Texts, put together: Pool7 Pool8 Pool9 Pool10 Pool11 Pool12 Wal4.
-/
import Derived.Shelf.Slices.SearchI
import Derived.Shelf.Slices.Empties
import Derived.Test.YtdmhemgepdknhaaGreatV1
import Derived.Test.YtdmhemgepdknhaaGreatV8
import Derived.Test.YtdmhemgepdknhaaGreatV14
set_option linter.unusedVariables false
set_option linter.unusedSimpArgs false
namespace Go.Proofs.YtdmhemgepdknhaaGreat
open Go.RowKit Go.Maps
def Pl.dirty (P:Pl):List Nat:=P.pages.filter fun i => !P.clean i
theorem Pl.pages_lt (P:Pl) (j:Nat) (hj:j < P.pages.length):P.pages.getD j 0 < 65536:=by
 have h:P.pages.getD j 0 ∈ P.pages:=by simp [List.getD,hj]
 exact ((P.mem_pages _).1 h).1
section
variable {w w':World} {b m n:Nat} {pd pl:Value} {B:Nat→Option Nat} {P:Pl}
set_option maxRecDepth 100000 in
set_option maxHeartbeats 1000000 in
theorem pdelete_nil (v:Value) (w:World):Calls Tryz.prog 51 #[.slice none 0 0,v] w fun e w'=>e=.returned (.slice none 0 0)∧Gr w w':=by
 have HI:Hid (∀ w,Calls Tryz.prog 79 #[.slice none 0 0,v] w fun e w'=>e=.returned (.int .i64 (-1))∧Gr w w'):=Lib.hid fun w=>by
  go_enter Tryz.func79,Tryz.ntmps79
  go_wp2
  go_loopw [8] (fun kv wr=>kv=.int .i64 0∧Gr w wr) (fun _ _=>0)
  case atStart=>exact ⟨rfl,Gr.refl _⟩
  case round=>
   obtain ⟨rfl,HG⟩:=hrel
   go_wp2
   go_ret
   exact ⟨rfl,HG⟩
 go_enter Tryz.func51,Tryz.ntmps51
 go_wp2_with fail;refine (HI.out _).mono ?_;rintro e w1 ⟨rfl,g1⟩;have HG:=Lib.hid g1;clear g1;go_wp2_with fail
 go_ret
 exact ⟨rfl,HG.out⟩
theorem pdeleteR_any {base:Nat} {v:Value} {xs:List Nat} (h:PlAt w b pd pl m n B P) (hr:Ints w base v xs) (hx:∀ j,j < xs.length→xs.getD j 0 < 65536) (hg:∀ k,plS b m B k→k < base) :
  Calls Tryz.prog 51 #[v,fnClean b] w fun e w'=>∃ v',e=.returned v'∧Ints w' base v' (xs.filter fun i => !P.clean i)∧w.grownBy w' v.ownBlock∧∀ k,k < base→w'.heap[k]?=w.heap[k]?∨w.heap.size≤k:=by
 have hr0:=hr
 rcases hr.2 with ⟨rfl,h0⟩ | ⟨g,cap,cur,rfl,hb,_⟩
 ·
  obtain rfl:xs=[]:=List.eq_nil_of_length_eq_zero h0;refine (pdelete_nil _ w).mono ?_;rintro e w1 ⟨rfl,g1⟩
  exact ⟨_,rfl,World.ownsRow_nil _ _ _ _,⟨g1.os,g1.tape,g1.output,g1.size,fun j hj _=>g1.block j hj⟩,fun k hk=>by
   rcases Nat.lt_or_ge k w.heap.size with h | h
   · exact .inl (g1.block k h)
   · exact .inr h⟩
 ·
  refine (pdelete_any h hr0 hx (fun hp=>by have:=hg g hp;omega)).mono ?_;rintro e w1 ⟨rfl,h1,h2⟩
  exact ⟨_,rfl,h1,h2,fun k hk=>by
   rcases Nat.lt_or_ge k w.heap.size with h | h
   · exact .inl (h2.block k h fun e=>by cases e;omega)
   · exact .inr h⟩
set_option maxRecDepth 100000 in
set_option maxHeartbeats 1000000 in
theorem Dirty_any (h:PlAt w b pd pl m n B P) (hin:∀ i,65536≤i→P.fr i=none):Calls Tryz.prog 22 #[.pointer (some ⟨b,0,none⟩)] w fun e w'=>RetLoose P.dirty w e w':=by
 have HM:=Lib.hid (pmissing_no h)
 have HPg:Hid (∀ W,Gr w W→Calls Tryz.prog 52 #[.pointer (some ⟨b,0,none⟩)] W fun e w'=>RetLoose P.pages W e w'):=Lib.hid fun W g=>ppages_any (h.gr g) hin
 have HD:Hid (∀ W v,Gr w W→Ints W w.heap.size v P.pages→Calls Tryz.prog 51 #[v,fnClean b] W fun e w'=>∃ v',e=.returned v'∧Ints w' w.heap.size v' P.dirty∧Gr w w'):=Lib.hid fun W v g hv=>by
  refine (pdeleteR_any (h.gr g) hv P.pages_lt h.low).mono ?_;rintro e w' ⟨v',rfl,h1,h2,h3⟩
  exact ⟨v',rfl,h1,⟨h2.os.trans g.os,h2.tape.trans g.tape,h2.output.trans g.output,Nat.le_trans g.size h2.size,fun k hk=>by
   rcases h3 k hk with h4 | h4
   · exact h4.trans (g.block k hk)
   · have:=g.size;omega⟩⟩
 clear h hin
 go_enter Tryz.func22,Tryz.ntmps22
 go_wp2_with fail;refine HM.out.mono ?_;rintro e w1 ⟨rfl,rfl⟩;go_wp2_with fail;refine (HPg.out w (Gr.refl w)).mono ?_;rintro e w1 ⟨v,rfl,hv,g1⟩;have HD2:=Lib.hid (HD.out w1 v g1 hv);clear hv g1;go_wp2_with fail;refine HD2.out.mono ?_;rintro e w2 ⟨v',rfl,hv,g1⟩;have HV:=Lib.hid hv;have HG:=Lib.hid g1;clear hv g1;go_wp2_with fail
 go_ret
 exact ⟨_,rfl,HV.out,HG.out⟩
theorem Fm.size {w:World} {m n:Nat} {B:Nat→Option Nat} (h:Fm w m n B) (hB:∀ i,B i=none ↔ P.fr i=none):∃ D:DataW Value,w.ownsMap Tryz.prog TI eltR m n D∧Maps.size D=P.pages.length:=by
 obtain ⟨D,ho,hat,hhas,hkeys⟩:=h
 have hBn:∀ i,B i≠none ↔ P.fr i≠none:=fun i=>not_congr (hB i)
 have hs:=sorted_nats (xs:=P.pages) (by unfold Pl.pages;exact List.Pairwise.filter _ List.pairwise_lt_range) ho (fun x=>by
  rw [P.mem_pages]
  constructor
  ·
   intro ⟨hx,ht⟩
   exact (hhas x hx).2 ((hBn x).2 ht)
  ·
   intro hx
   obtain ⟨i,hi,e⟩:=hkeys _ hx;rw [key_inj e]
   rw [key_inj e] at hx
   exact ⟨hi,(hBn i).1 ((hhas i hi).1 hx)⟩) (fun k hk=>let ⟨i,_,e⟩:=hkeys k hk;⟨i,e⟩) (List.Perm.refl (intKeys D))
 refine ⟨D,ho,?_⟩;have h1:=congrArg List.length hs
 rw [List.length_mergeSort,List.length_map] at h1
 rw [← h1]
 cases D <;> simp [Maps.size,intKeys]
set_option maxRecDepth 100000 in
theorem Frames_any (h:PlAt w b pd pl m n B P):Calls Tryz.prog 24 #[.pointer (some ⟨b,0,none⟩)] w fun e w'=>e=.returned (.int .i64 (P.pages.length:Int))∧w=w':=by
 have HM:=Lib.hid (pmissing_no h);have c4:=h.c6.2.2.2.2.1;obtain ⟨D,ho,hs⟩:=h.map.size h.has;rw [← hs]
 have hl:=fun ty=>ho.len Tryz.underlying78 ty
 clear h hs ho
 go_enter Tryz.func24,Tryz.ntmps24
 go_wp2_with fail;refine HM.out.mono ?_;rintro e w1 ⟨rfl,rfl⟩;go_wp2_with fail
 go_ret
 exact ⟨rfl,rfl⟩
end
end Go.Proofs.YtdmhemgepdknhaaGreat
namespace Go.Proofs.YtdmhemgepdknhaaGreat
open Go.RowKit Go.Maps
def Pl.fst (P:Pl) (i:Nat):Nat:=match P.fr i with
 | some f=>f.first
 | none=>0
def Pl.leastTo (P:Pl) (xs:List Nat) (k:Nat):Nat:=(xs.take k).foldl (fun a i=>min a (P.fst i)) (P.fst (xs.getD 0 0))
def Pl.least (P:Pl):Nat:=if P.dirty=[] then 0 else P.leastTo P.dirty P.dirty.length
theorem Pl.leastTo_succ (P:Pl) {xs:List Nat} {k:Nat} (h:k < xs.length):P.leastTo xs (k+1)=min (P.leastTo xs k) (P.fst (xs.getD k 0)):=by
 unfold Pl.leastTo
 rw [take_succ_getD h,List.foldl_append]
 rfl
theorem Pl.dirty_at (P:Pl) {k:Nat} (h:k < P.dirty.length):P.dirty.getD k 0 < 65536∧P.clean (P.dirty.getD k 0)=false:=by
 have h1:P.dirty.getD k 0 ∈ P.dirty:=by simp [List.getD,h]
 have h2:=List.mem_filter.1 h1;exact ⟨((P.mem_pages _).1 h2.1).1,by simpa using h2.2⟩
section
variable {w w':World} {b m n:Nat} {pd pl:Value} {B:Nat→Option Nat} {P:Pl}
theorem PlAt.dirtyAt (h:PlAt w b pd pl m n B P) {i:Nat} (hi:i < 65536) (hd:P.clean i=false):∃ c f,B i=some c∧P.fr i=some f∧f.dirty=true∧Blk w c TFr f.cells∧f.In∧∀ q,(Instr.lookup TPm (.map (some m)) (.int .i64 (i:Int)) false).run Tryz.prog (w.drewN q)=.ok (.pointer (some ⟨c,0,none⟩)) (w.drewN q):=by
 have hl:=fun q=>(h.map.stays (w':=w.drewN q) rfl).look i hi
 cases hB:B i with
 | none=>
  unfold Pl.clean at hd
  rw [(h.has i).1 hB] at hd
  cases hd
 | some c=>
  obtain ⟨f,h1,h2,h3⟩:=h.frs i c hB
  rw [hB] at hl
  unfold Pl.clean at hd
  rw [h1] at hd
  exact ⟨c,f,rfl,h1,by simpa using hd,h2,h3,hl⟩
set_option maxRecDepth 100000 in
set_option maxHeartbeats 1000000 in
theorem First_any (h:PlAt w b pd pl m n B P) (hin:∀ i,65536≤i→P.fr i=none):Calls Tryz.prog 26 #[.pointer (some ⟨b,0,none⟩)] w fun e w'=>e=.returned (.tuple #[.int .u64 (P.least:Int),.bool (!P.dirty.isEmpty)])∧Gr w w':=by
 have HD:=Lib.hid (Dirty_any h hin);have HP:=Lib.hid h;obtain ⟨L,hL⟩:∃ L,L=P.least:=⟨_,rfl⟩;obtain ⟨Y,hY⟩:∃ Y,Y = !P.dirty.isEmpty:=⟨_,rfl⟩;rw [← hL,← hY];have HLY:Hid (L=P.least∧Y = !P.dirty.isEmpty):=Lib.hid ⟨hL,hY⟩;clear h hin hL hY
 go_enter Tryz.func26,Tryz.ntmps26
 go_wp2_with fail;refine HD.out.mono ?_;rintro e w1 ⟨v,rfl,hv,g1⟩;have HG:=Lib.hid g1;clear g1
 rcases hv.2 with ⟨rfl,h0⟩ | ⟨g,cap,cur,rfl,hb,_⟩
 ·
  have h1:P.dirty=[]:=List.eq_nil_of_length_eq_zero h0
  have h2:P.least=0:=by unfold Pl.least;rw [if_pos h1]
  obtain ⟨rfl,rfl⟩:=HLY.out;clear hv h0 HLY;go_wp2_with fail
  go_ret2
  refine ⟨?_,HG.out⟩;rw [h2,h1]
  rfl
 ·
  have HV:Hid (Ints w1 w.heap.size (.slice (some ⟨g,0,none⟩) P.dirty.length cap) P.dirty):=Lib.hid hv;obtain ⟨N,hN⟩:∃ N,N=P.dirty.length:=⟨_,rfl⟩;have HN:Hid (N=P.dirty.length∧N≤9223372036854775807):=Lib.hid ⟨hN,by have:=hv.most;unfold maxLen at this;omega⟩;rw [← hN]
  by_cases hN0:N=0
  ·
   subst hN0;have h1:P.dirty=[]:=List.eq_nil_of_length_eq_zero hN.symm
   have h2:P.least=0:=by unfold Pl.least;rw [if_pos h1]
   obtain ⟨rfl,rfl⟩:=HLY.out;clear hv hN HLY;go_wp2_with fail
   go_ret2
   refine ⟨?_,HG.out⟩;rw [h2,h1]
   rfl
  ·
   have HL:Hid (P.least=P.leastTo P.dirty N∧P.dirty.isEmpty=false):=Lib.hid (by
    have h1:P.dirty≠[]:=fun e=>hN0 (by rw [hN,e];rfl)
    exact ⟨by unfold Pl.least;rw [if_neg h1,hN],by simpa using h1⟩)
   obtain ⟨x0,hx0⟩:∃ x,x=P.dirty.getD 0 0:=⟨_,rfl⟩;have HX0:=Lib.hid hx0;have c0:=hv.cellAt 0 (by omega);obtain ⟨c,f,hB,hf,_,hbk,hIn,hlk⟩:=(HP.out.gr HG.out).dirtyAt (P.dirty_at (k:=0) (by omega)).1 (P.dirty_at (k:=0) (by omega)).2
   rw [← hx0] at c0 hlk
   have k2:=(PFr.c4 hbk).2.1;have HF:Hid (P.fst x0=f.first):=Lib.hid (by unfold Pl.fst;rw [hx0,hf])
   obtain ⟨y,hy⟩:∃ y,y=f.first:=⟨_,rfl⟩
   rw [← hy] at k2
   have HY:Hid (y=P.fst x0):=Lib.hid (by rw [HF.out,hy])
   have hn0:(0:Int) < (N:Int):=by omega
   have hn0n:0 < N:=by omega
   have hne:((N:Int) == 0)=false:=beq_eq_false_iff_ne.2 (by omega);have cm:=(HP.out.gr HG.out).c6.2.2.2.2.1;clear hv hN hB hf hbk hIn hx0 hy HF;go_wp2_with fail
   go_quiet (fail)
   clear hlk k2 cm c0 hne
   go_wp2
   go_loopw [5,7,26] (fun s5 _ kv wr=>∃ k:Nat,k≤N∧kv=.int .i64 (k:Int)∧s5=.int .u64 (P.leastTo P.dirty k:Int)∧Hid (Gr w1 wr)) (fun _ _ kv _=>N - (intOf kv).toNat)
   case atStart=>exact ⟨0,Nat.zero_le _,rfl,by rw [HY.out,HX0.out];rfl,Lib.hid ⟨rfl,rfl,rfl,Nat.le_refl _,fun _ _=>rfl⟩⟩
   case round=>
    obtain ⟨k,hk,rfl,rfl,HW⟩:=hrel
    by_cases hlt:k < N
    ·
     have g3:(k:Int) < (N:Int):=by omega
     have hkd:k < P.dirty.length:=by have:=HN.out.1;omega
     have ck:=(HV.out.gr HW.out).cellAt k hkd;obtain ⟨c,f,hB,hf,_,hbk,hIn,hlk⟩:=((HP.out.gr HG.out).gr HW.out).dirtyAt (P.dirty_at hkd).1 (P.dirty_at hkd).2;obtain ⟨x,hx⟩:∃ x,x=P.dirty.getD k 0:=⟨_,rfl⟩
     rw [← hx] at ck hlk
     have k2:=(PFr.c4 hbk).2.1
     obtain ⟨z,hz⟩:∃ z,z=f.first:=⟨_,rfl⟩
     rw [← hz] at k2
     have HZ:Hid (P.leastTo P.dirty (k+1)=min (P.leastTo P.dirty k) z):=Lib.hid (by
      rw [P.leastTo_succ hkd,← hx,hz]
      congr 1
      unfold Pl.fst
      rw [hx,hf])
     have cm:=((HP.out.gr HG.out).gr HW.out).c6.2.2.2.2.1
     have hw:IntKind.i64.wrap ((k:Int)+1)=((k+1:Nat):Int):=by rw [IntWalk.i64_in _ (by have:=HN.out.2;omega)];omega
     obtain ⟨T,hT⟩:∃ T,T=P.leastTo P.dirty k:=⟨_,rfl⟩;have HT:=Lib.hid hT;rw [← hT];have hl0:(Instr.lookup TPm (.map (some m)) (.int .i64 (x:Int)) false).run Tryz.prog wr=.ok (.pointer (some ⟨c,0,none⟩)) wr:=hlk 0;clear hB hf hbk hIn hx hz hkd hT hlk;go_wp2_with fail;exact ⟨⟨k+1,by omega,by go_num,by rw [HZ.out,← HT.out];congr 1;omega,HW⟩,by simp [intOf];omega⟩
    ·
     obtain rfl:k=N:=by omega
     go_wp2_with fail
     go_ret2
     refine ⟨?_,Gr.trans HG.out HW.out⟩;rw [HLY.out.1,HLY.out.2,HL.out.1,HL.out.2]
     rfl
end
end Go.Proofs.YtdmhemgepdknhaaGreat
namespace Go.Proofs.YtdmhemgepdknhaaGreat
open Go.RowKit Go.Maps
def Pl.put (P:Pl) (i:Nat) (f:PFr):Pl:={ P with fr:=fun j=>if j=i then some f else P.fr j }
def Pl.wrote (P:Pl) (xs:List Nat):Pl:={ P with fr:=fun j=>if j ∈ xs then (P.fr j).map fun f=>{ f with dirty:=false } else P.fr j }
theorem Pl.wrote_nil (P:Pl):P.wrote []=P:=by unfold Pl.wrote;simp
theorem PFr.In.undirty {f:PFr} (h:f.In) (x:Bool):({ f with dirty:=x }:PFr).In:=⟨h.pay,h.l,h.f⟩
theorem PFr.In.use {f:PFr} (h:f.In) (x:Bool):({ f with used:=x }:PFr).In:=⟨h.pay,h.l,h.f⟩
theorem Pl.wrote_snoc (P:Pl) (S:List Nat) (x:Nat):P.wrote (S++[x])=(match (P.wrote S).fr x with
  | some f=>(P.wrote S).put x { f with dirty:=false }
  | none=>P.wrote S):=by
 unfold Pl.wrote Pl.put
 cases hf:P.fr x with
 | none=>
  by_cases hm:x ∈ S
  ·
   simp only [hm,if_true,hf,Option.map_none,List.mem_append,List.mem_singleton]
   congr 1
   funext j
   by_cases hj:j=x
   · subst hj;simp [hm,hf]
   · simp [hj]
  ·
   simp only [hm,if_false,hf,List.mem_append,List.mem_singleton]
   congr 1
   funext j
   by_cases hj:j=x
   · subst hj;simp [hm,hf]
   · simp [hj]
 | some f=>
  by_cases hm:x ∈ S
  ·
   simp only [hm,if_true,hf,Option.map_some,List.mem_append,List.mem_singleton]
   congr 1
   funext j
   by_cases hj:j=x
   · subst hj;simp [hm,hf]
   · simp [hj]
  ·
   simp only [hm,if_false,hf,List.mem_append,List.mem_singleton]
   congr 1
   funext j
   by_cases hj:j=x
   · subst hj;simp [hm,hf]
   · simp [hj]
theorem Pl.wrote_step (P:Pl) {xs:List Nat} {k:Nat} (hk:k < xs.length):P.wrote (xs.take (k+1))=(match (P.wrote (xs.take k)).fr (xs.getD k 0) with
  | some f=>(P.wrote (xs.take k)).put (xs.getD k 0) { f with dirty:=false }
  | none=>P.wrote (xs.take k)):=by
 rw [take_succ_getD hk,Pl.wrote_snoc]
section
variable {w w':World} {b m n:Nat} {pd pl:Value} {B:Nat→Option Nat} {P:Pl}
theorem PlAt.apart (h:PlAt w b pd pl m n B P) {i c:Nat} (hB:B i=some c):c≠b∧c≠m:=by
 obtain ⟨f,_,h2,_⟩:=h.frs i c hB
 constructor
 ·
  intro e
  have h3:=h.blk
  unfold Blk at h2 h3
  rw [e,h3] at h2
  simp only [Option.some.injEq,Obj.cells.injEq] at h2
  exact absurd h2.2.1 (by decide)
 ·
  intro e
  obtain ⟨D,⟨es,ck,h1,_⟩,_⟩:=h.map
  unfold Blk at h2
  rw [e,h1] at h2
  cases h2
theorem PlAt.turn (h:PlAt w b pd pl m n B P) {i c:Nat} {f:PFr} (hB:B i=some c) (hf:f.In) (hb:Blk w' c TFr f.cells) (ho:∀ k,k≠c→w'.heap[k]?=w.heap[k]?):PlAt w' b pd pl m n B (P.put i f):=by
 obtain ⟨h1,h2⟩:=h.apart hB;refine ⟨h.blk.stays (ho b (Ne.symm h1)),h.map.stays (ho m (Ne.symm h2)),h.most,fun j=>?_,fun j d hj=>?_,h.inj,h.dsk,h.lg⟩
 ·
  show _ ↔ (if j=i then some f else P.fr j)=none
  by_cases hj:j=i
  · subst hj;simp [hB]
  · rw [if_neg hj];exact h.has j
 ·
  show ∃ g,(if j=i then some f else P.fr j)=some g∧_
  by_cases hji:j=i
  ·
   subst hji
   rw [hB] at hj
   cases hj
   exact ⟨f,by simp,hb,hf⟩
  · obtain ⟨g,k1,k2,k3⟩:=h.frs j d hj;exact ⟨g,by rw [if_neg hji];exact k1,k2.stays (ho d fun e=>by subst e;exact hji (h.inj _ _ _ hj hB)),k3⟩
structure FrOnly (B:Nat→Option Nat) (w w':World):Prop where
 os:w'.os=w.os
 tape:w'.tape=w.tape
 output:w'.output=w.output
 size:w.heap.size≤w'.heap.size
 block:∀ k,k < w.heap.size→(∀ i,B i≠some k)→w'.heap[k]?=w.heap[k]?
theorem FrOnly.refl (B:Nat→Option Nat) (w:World):FrOnly B w w:=⟨rfl,rfl,rfl,Nat.le_refl _,fun _ _ _=>rfl⟩
theorem FrOnly.trans {B:Nat→Option Nat} {a b c:World} (h:FrOnly B a b) (k:FrOnly B b c):FrOnly B a c:=
 ⟨k.os.trans h.os,k.tape.trans h.tape,k.output.trans h.output,Nat.le_trans h.size k.size,fun i hi hb=>(k.block i (Nat.lt_of_lt_of_le hi h.size) hb).trans (h.block i hi hb)⟩
theorem FrOnly.cell {B:Nat→Option Nat} {i c:Nat} (h:B i=some c) (w:World) (o:Nat) (u:Value):FrOnly B w (w.setCell ⟨c,o,none⟩ u):=
 have hb:=(Below.refl 0 w).setCell (p:=⟨c,o,none⟩) (Nat.zero_le _) u
 ⟨hb.os,hb.tape,hb.output,hb.size,fun k _ hk=>Below.heap_setCell w _ _ k fun e=>hk i (by rw [h,e])⟩
theorem Ints.frOnly {base:Nat} {v:Value} {xs:List Nat} {w w':World} {B:Nat→Option Nat} (h:Ints w base v xs) (f:FrOnly B w w') (hv:∀ g,v.ownBlock=some g→∀ i,B i≠some g):Ints w' base v xs:=by
 rcases h.2 with ⟨rfl,h0⟩ | ⟨g,cap,cur,rfl,hb,hg,h1⟩
 · exact ⟨h.1,.inl ⟨rfl,h0⟩⟩
 · exact ⟨h.1,.inr ⟨g,cap,cur,rfl,hb,(f.block g (Array.getElem?_eq_some_iff.1 hg).1 (hv g rfl)).trans hg,h1⟩⟩
set_option maxRecDepth 100000 in
set_option maxHeartbeats 1000000 in
theorem written_any {base:Nat} {v:Value} {xs:List Nat} (h:PlAt w b pd pl m n B P) (hr:Ints w base v xs) (hx:∀ j,j < xs.length→xs.getD j 0 < 65536) (hv:∀ g,v.ownBlock=some g→¬ plS b m B g) :
  Calls Tryz.prog 45 #[.pointer (some ⟨b,0,none⟩),v] w fun e w'=>e=.returned (.tuple #[])∧PlAt w' b pd pl m n B (P.wrote xs)∧FrOnly B w w':=by
 rcases hr.2 with ⟨rfl,h0⟩ | ⟨g,cap,cur,rfl,hb,_⟩
 ·
  obtain rfl:xs=[]:=List.eq_nil_of_length_eq_zero h0;rw [Pl.wrote_nil];have HP:=Lib.hid h;clear h hr h0
  go_enter Tryz.func45,Tryz.ntmps45
  go_wp2
  go_loopw [5,6,9] (fun _ _ kv wr=>kv=.int .i64 0∧wr=w) (fun _ _ _ _=>0)
  case atStart=>exact ⟨rfl,rfl⟩
  case round=>
   obtain ⟨rfl,rfl⟩:=hrel
   go_wp2
   go_end0
   exact ⟨rfl,HP.out,FrOnly.refl _ _⟩
 ·
  have HR:Hid (Ints w base (.slice (some ⟨g,0,none⟩) xs.length cap) xs):=Lib.hid hr;have HP:=Lib.hid h;have HX:=Lib.hid hx
  have HV:Hid (∀ i,B i≠some g):=Lib.hid fun i hi=>hv g rfl (.inr (.inr ⟨i,hi⟩))
  obtain ⟨N,hN⟩:∃ N,N=xs.length:=⟨_,rfl⟩;have HN:Hid (N=xs.length∧N≤9223372036854775807):=Lib.hid ⟨hN,by have:=hr.most;unfold maxLen at this;omega⟩;rw [← hN];clear h hr hx hv hN hb
  go_enter Tryz.func45,Tryz.ntmps45
  go_wp2
  go_loopw [5,6,9] (fun _ _ kv wr=>∃ k:Nat,k≤N∧kv=.int .i64 (k:Int)∧Hid (PlAt wr b pd pl m n B (P.wrote (xs.take k))∧FrOnly B w wr)) (fun _ _ kv _=>N - (intOf kv).toNat)
  case atStart=>exact ⟨0,Nat.zero_le _,rfl,Lib.hid ⟨by rw [List.take_zero,Pl.wrote_nil];exact HP.out,FrOnly.refl _ _⟩⟩
  case round=>
   obtain ⟨k,hk,rfl,HW⟩:=hrel
   by_cases hlt:k < N
   ·
    have g3:(k:Int) < (N:Int):=by omega
    have hkd:k < xs.length:=by have:=HN.out.1;omega
    have ck:=(HR.out.frOnly HW.out.2 (fun g' hg'=>by cases hg';exact HV.out)).cellAt k hkd;have cm:=HW.out.1.c6.2.2.2.2.1;have hst:=P.wrote_step hkd;obtain ⟨x,hx⟩:∃ x,x=xs.getD k 0:=⟨_,rfl⟩
    have hx6:x < 65536:=by rw [hx];exact HX.out k hkd
    have hl0:=HW.out.1.map.look x hx6
    have hw:IntKind.i64.wrap ((k:Int)+1)=((k+1:Nat):Int):=by rw [IntWalk.i64_in _ (by have:=HN.out.2;omega)];omega
    rw [← hx] at ck hst
    cases hB:B x with
    | none=>
     have h1:=(HW.out.1.has x).1 hB
     rw [h1] at hst
     have HS:Hid (P.wrote (xs.take (k+1))=P.wrote (xs.take k)):=Lib.hid hst
     rw [hB] at hl0
     have hl2:(Instr.lookup TPm (.map (some m)) (.int .i64 (x:Int)) false).run Tryz.prog wr=.ok (.pointer none) wr:=hl0;clear hst h1 hl0 hB hkd hx
     go_wp2
     exact ⟨⟨k+1,by omega,by go_num,Lib.hid ⟨by rw [HS.out];exact HW.out.1,HW.out.2⟩⟩,by simp [intOf];omega⟩
    | some c=>
     obtain ⟨f,h1,h2,h3⟩:=HW.out.1.frs x c hB
     rw [h1] at hst
     have HS:Hid (P.wrote (xs.take (k+1))=(P.wrote (xs.take k)).put x { f with dirty:=false }):=Lib.hid hst
     rw [hB] at hl0
     have hl2:(Instr.lookup TPm (.map (some m)) (.int .i64 (x:Int)) false).run Tryz.prog wr=.ok (.pointer (some ⟨c,0,none⟩)) wr:=hl0;have k3:=(PFr.c4 h2).2.2.1;have f3:=h2.frozen 250
     have HT:Hid (PlAt (wr.setCell ⟨c,250,none⟩ (.bool false)) b pd pl m n B ((P.wrote (xs.take k)).put x { f with dirty:=false })∧FrOnly B w (wr.setCell ⟨c,250,none⟩ (.bool false))):=Lib.hid
      ⟨HW.out.1.turn hB (h3.undirty false) (by rw [← PFr.setDirty];exact h2.set 250 (.bool false)) (fun j hj=>Below.heap_setCell wr _ _ j hj),HW.out.2.trans (FrOnly.cell hB wr _ _)⟩
     clear hst h1 hl0 hB hkd hx h2 h3
     go_wp2
     exact ⟨⟨k+1,by omega,by go_num,Lib.hid ⟨by rw [HS.out];exact HT.out.1,HT.out.2⟩⟩,by simp [intOf];omega⟩
   ·
    obtain rfl:k=N:=by omega
    have e:xs.take k=xs:=List.take_of_length_le (by rw [← HN.out.1];exact Nat.le_refl _)
    go_wp2
    go_end0
    refine ⟨rfl,?_,HW.out.2⟩;have h5:=HW.out.1
    rw [e] at h5
    exact h5
end
end Go.Proofs.YtdmhemgepdknhaaGreat
namespace Go.Proofs.YtdmhemgepdknhaaGreat
open Go.RowKit Go.Maps
def ISl (w:World) (v:Value) (xs:List Nat):Prop:=
 (v=.slice none 0 0∧xs=[])∨∃ g o c,v=.slice (some ⟨g,o,none⟩) xs.length c∧xs.length≤c∧c≤maxLen∧∀ j,j < xs.length→w.cell? ⟨g,o+j,none⟩=some (.int .i64 ((xs.getD j 0:Nat):Int))
theorem ISl.gr {w w':World} {v:Value} {xs:List Nat} (h:ISl w v xs) (g:Gr w w'):ISl w' v xs:=by
 rcases h with h | ⟨b,o,c,h1,h2,h3,h4⟩
 · exact .inl h
 · exact .inr ⟨b,o,c,h1,h2,h3,fun j hj=>by rw [g.cell (blk_lt (h4 j hj))];exact h4 j hj⟩
theorem Ints.isl {w:World} {base:Nat} {v:Value} {xs:List Nat} (h:Ints w base v xs):ISl w v xs:=by
 rcases h.2 with ⟨rfl,h0⟩ | ⟨g,cap,cur,rfl,hb,hg,h1,h2,_⟩
 · exact .inl ⟨rfl,List.eq_nil_of_length_eq_zero h0⟩
 · exact .inr ⟨g,0,cap,rfl,h1,h2,fun j hj=>by rw [Nat.zero_add];exact Ints.cellAt h j hj⟩
theorem ISl.upto {w:World} {g o c:Nat} {xs:List Nat} (h:ISl w (.slice (some ⟨g,o,none⟩) xs.length c) xs) (k:Nat) (hk:k≤xs.length):ISl w (.slice (some ⟨g,o,none⟩) k c) (xs.take k):=by
 rcases h with ⟨h,_⟩ | ⟨b,o',c',h1,h2,h3,h4⟩
 · simp at h
 ·
  simp only [Value.slice.injEq,Option.some.injEq,Addr.mk.injEq,and_true,true_and] at h1
  obtain ⟨⟨rfl,rfl⟩,rfl⟩:=h1
  have hl:(xs.take k).length=k:=by rw [List.length_take];omega
  refine .inr ⟨g,o,c,by rw [hl],by omega,h3,fun j hj=>?_⟩
  rw [hl] at hj
  rw [h4 j (by omega)]
  simp [List.getD,List.getElem?_take,hj]
theorem ISl.from {w:World} {g o c:Nat} {xs:List Nat} (h:ISl w (.slice (some ⟨g,o,none⟩) xs.length c) xs) (k:Nat) (hk:k≤xs.length) (g' o':Nat) (he:k < c→g'=g∧o'=o+k):ISl w (.slice (some ⟨g',o',none⟩) (xs.length - k) (c - k)) (xs.drop k):=by
 rcases h with ⟨h,_⟩ | ⟨b,o2,c',h1,h2,h3,h4⟩
 · simp at h
 ·
  simp only [Value.slice.injEq,Option.some.injEq,Addr.mk.injEq,and_true,true_and] at h1
  obtain ⟨⟨rfl,rfl⟩,rfl⟩:=h1;have hl:(xs.drop k).length=xs.length - k:=List.length_drop ..;refine .inr ⟨g',o',c - k,by rw [hl],by omega,by omega,fun j hj=>?_⟩
  rw [hl] at hj
  obtain ⟨rfl,rfl⟩:=he (by omega);rw [show o+k+j=o+(k+j) by omega,h4 (k+j) (by omega)]
  simp [List.getD,List.getElem?_drop]
theorem wpList_app_isl {ops:Array Oper} {rest:List Oper} {o:Oper} {a:Act} {w:World} {Q:Exit→Act→World→Prop} (hg:o.guard=none) (s x:Operand) (ho:o.op=.call { callee:=.builtin .append,args:=#[s,x],argTypes:=#[TNI,TNI] })
  {v:Value} {base:Nat} {xs:List Nat} (hs:a.eval s=v) (hr:Ints w base v xs) {vx:Value} {ys:List Nat} (hx:a.eval x=vx) (hy:ISl w vx ys) (hk:xs.length+ys.length≤1000000) (hb:base≤w.heap.size)
  (h:∀ v' w',Ints w' base v' (xs++ys)→w.grownBy w' v.ownBlock→wpList Tryz.prog ops Q rest (a.put o.dst v') w'):wpList Tryz.prog ops Q (o :: rest) a w:=by
 obtain ⟨i,hi,hz,hsz,hbb⟩:=info_parts info_int
 rcases hy with ⟨rfl,rfl⟩ | ⟨g,q,c,rfl,h2,h3,h4⟩
 · refine wpList_append_own_none hg s x TNI ho base TI i 1 Tryz.underlying55 hi v xs.length _ hs hr hx ?_;exact h v w (by simpa using hr) (World.grownBy.refl _ _)
 ·
  refine wpList_append_own w hg s x TNI ho base TI i (.int .i64 0) 1 8 Tryz.underlying55 hi hz hsz hbb rfl (by decide) v xs.length _ hs hr ⟨g,q,none⟩ ys.length c (ys.map fun (x:Nat)=>Value.int .i64 (x:Int)) hx
   (by simp) (fun j u hj=>?_) (fun u hu=>?_) (by simp only [maxLen];omega) (by omega) hb ?_
  ·
   have hlt:j < ys.length:=by simpa using (List.getElem?_eq_some_iff.1 hj).1
   have h5:=h4 j hlt
   have e:((⟨g,q,none⟩:Addr).add j)=⟨g,q+j,none⟩:=by
    rcases Nat.eq_zero_or_pos j with rfl | h0
    · simp [Addr.add]
    ·
     have hn:j≠0:=by omega
     simp [Addr.add,hn]
   rw [e,h5,← hj,List.getElem?_map]
   simp [List.getD,hlt]
  ·
   obtain ⟨x,_,rfl⟩:=List.mem_map.1 hu
   rfl
  ·
   intro v' w' k1 k2 _
   refine h v' w' ?_ k2
   unfold Ints
   rw [List.map_append,List.length_append];exact k1
def GrownI (w:World) (e:Ending) (w':World):Prop:=∃ v,e=.returned v∧Ints w' w.heap.size v []∧Gr w w'
set_option maxHeartbeats 1000000 in
theorem growI_any (n:Nat) (w:World) (hbig:n≤1000000):Calls Tryz.prog 158 #[.slice none 0 0,.int .i64 n] w (GrownI w):=by
 rcases Nat.eq_zero_or_pos n with rfl | hn
 ·
  go_enter Tryz.func158,Tryz.ntmps158
  go_wp2
  go_ret
  exact ⟨_,rfl,World.ownsRow_nil _ _ _ _,Gr.refl _⟩
 ·
  obtain ⟨i0,hi,hz0,hz1,hz2⟩:=info_parts info_int
  have hrz:∀ ty,(Builtin.append_ #[55,3] ty #[.slice none 0 0,.int .i64 (n:Int)]).run Tryz.prog w =
    .ok (.slice (some ⟨w.heap.size,0,none⟩) n (grownCap w n 0 TI)) (w.drew.alloc (.cells (#[]++Builtin.zeroCells (Value.int .i64 0).cells n++Builtin.zeroCells (Value.int .i64 0).cells (grownCap w n 0 TI - n)) TI)):=fun ty=>by
   have h:=Lib.run_append_grow_zeros (P:=Tryz.prog) w 55 3 ty TI i0 (.int .i64 0) .i64 .i64 Tryz.underlying55 Tryz.underlying3 hi hz0 none 0 0 [] (by rw [hz1];exact run_firstCells_none w.drew 1 0 0 0) n hn (by omega) (by omega) (by omega)
    (by rw [hz2];omega) (by rw [hz2];exact growslice_fits (by omega) (by omega))
   simpa using h
  have hGn:n≤grownCap w n 0 TI:=grownCap_ge w _ _ _;have hG63:grownCap w n 0 TI≤maxLen:=grownCap_le_maxLen w n 0 TI (by unfold maxLen;omega);obtain ⟨G,hG⟩:∃ G,G=grownCap w n 0 TI:=⟨_,rfl⟩
  rw [← hG] at hrz hGn hG63
  clear hG hi hz0 hz1 hz2;have HG:=Lib.hid hG63
  have hG63':G≤9223372036854775807:=by unfold maxLen at hG63;omega
  clear hG63;obtain ⟨C,hC⟩:∃ C,C=#[]++Builtin.zeroCells (Value.int .i64 0).cells n++Builtin.zeroCells (Value.int .i64 0).cells (G - n):=⟨_,rfl⟩
  have hCs:Hid (C.size=G*1):=by
   show _=_
   rw [hC]
   simp only [Array.size_append,size_zeroCells,Array.size_empty,Value.cells]
   simp
   omega
  rw [← hC] at hrz
  clear hC
  go_enter Tryz.func158,Tryz.ntmps158
  go_wp2_with (at_builtin;refine Lib.wpList_append_run _ rfl _ _ _ _ rfl _ _ rfl rfl _ _ (hrz _) ?_)
  go_ret
  refine ⟨_,rfl,?_,?_⟩
  · exact World.ownsRow_made (w:=w.drew) C G (Nat.le_refl _) HG.out hCs.out
  · exact (Below.refl _ _).drew.alloc (Nat.le_refl _) _
def flatI (X:Nat→List Nat):Nat→List Nat
 | 0=>[]
 | k+1=>flatI X k++X k
theorem flatI_mono (X:Nat→List Nat) {j k:Nat} (h:j≤k):(flatI X j).length≤(flatI X k).length:=by
 induction k with
 | zero=>
      obtain rfl:j=0:=by omega
      exact Nat.le_refl _
 | succ k ih=>
  rcases Nat.lt_or_ge j (k+1) with h1 | h1
  ·
   have:=ih (by omega)
   simp only [flatI,List.length_append]
   omega
  ·
   obtain rfl:j=k+1:=by omega
   exact Nat.le_refl _
set_option maxHeartbeats 1000000 in
theorem concatI_any (q n c:Nat) (V:Nat→Value) (X:Nat→List Nat) (w:World) (hn:n≤1000) (h:∀ k,k < n→w.cell? ⟨q,k,none⟩=some (V k)∧ISl w (V k) (X k)) (hbig:(flatI X n).length≤1000000) :
  Calls Tryz.prog 134 #[.slice (some ⟨q,0,none⟩) n c] w fun e w'=>∃ v,e=.returned v∧Ints w' w.heap.size v (flatI X n)∧Gr w w':=by
 have HH:=Lib.hid h;have Hbig:=Lib.hid hbig
 have hn63:n≤9223372036854775807:=by omega
 have HN:=Lib.hid hn;clear h hbig hn
 go_enter Tryz.func134,Tryz.ntmps134
 go_wp2
 go_loop [3,11] (fun t i=>∃ k:Nat,k≤n∧i=.int .i64 k∧t=.int .i64 ((flatI X k).length:Nat)) (fun _ i=>n - (intOf i).toNat)
 case atStart=>exact ⟨0,Nat.zero_le _,rfl,rfl⟩
 case round=>
  obtain ⟨k,hk,rfl,rfl⟩:=hrel;have hle:=flatI_mono X hk;have hb2:=Hbig.out
  by_cases hlt:k < n
  ·
   obtain ⟨hcell,hs⟩:=HH.out k hlt;have hle2:=flatI_mono X (show k+1≤n by omega)
   have hL:(flatI X (k+1)).length=(flatI X k).length+(X k).length:=by simp only [flatI,List.length_append]
   obtain ⟨p,c2,hv⟩:∃ p c2,V k=.slice p (X k).length c2:=by
    rcases hs with ⟨h1,h2⟩ | ⟨g,o,c2,h1,_⟩
    · exact ⟨none,0,by rw [h1,h2];rfl⟩
    · exact ⟨_,_,h1⟩
   rw [hv] at hcell
   obtain ⟨m,hm⟩:∃ m,m=(X k).length:=⟨_,rfl⟩
   rw [← hm] at hcell hL
   have HL:=Lib.hid hL
   have hSm:(flatI X k).length+m≤1000000:=by omega
   clear hL hle2 hs hb2 hle hv hm
   go_wp2
   go_round
   case rel=>exact ⟨k+1,by omega,by go_num,congrArg (Value.int .i64) (by rw [HL.out];rfl)⟩
   case measure=>simp [intOf];omega
  ·
   obtain rfl:k=n:=by omega
   clear hle;go_wp2_with fail;refine (growI_any _ _ hb2).mono ?_;rintro e w1 ⟨v,rfl,own,gr⟩;have HO:=Lib.hid own;have HB:=Lib.hid gr;clear own gr hb2
   go_wp2
   go_loopw [6,27] (fun v i wr=>∃ j:Nat,j≤k∧i=.int .i64 j∧Hid (Ints wr w.heap.size v (flatI X j))∧Hid (Gr w wr)) (fun _ i _=>k - (intOf i).toNat)
   case atStart=>exact ⟨0,Nat.zero_le _,rfl,HO,HB⟩
   case round=>
    obtain ⟨j,hj,rfl,ho,hb⟩:=hrel;have hbs:=hb.out.size
    by_cases hlt:j < k
    ·
     obtain ⟨hcell0,hs0⟩:=HH.out j hlt;have hcell:=(hb.out.cell (blk_lt hcell0)).trans hcell0;have HS:=Lib.hid (hs0.gr hb.out)
     have hsz:Hid ((flatI X j).length+(X j).length≤1000000):=by
      have h1:=flatI_mono X (show j+1≤k by omega)
      simp only [flatI,List.length_append] at h1
      exact Nat.le_trans h1 Hbig.out
     obtain ⟨u,hu⟩:∃ u,u=V j:=⟨_,rfl⟩
     rw [← hu] at hcell HS
     clear hcell0 hs0 hu
     go_wp2_with (at_builtin;refine wpList_app_isl rfl (.tmp 31) (.tmp 32) rfl rfl ho.out rfl HS.out hsz.out hbs ?_)
     intro v' w' own grow
     have HO2:Hid (Ints w' w.heap.size v' (flatI X (j+1))):=Lib.hid own;have HB2:Hid (Gr w w'):=hb.out.grown grow hbs (fun k hk=>(World.ownsRow.lt ho.out k hk).1);clear own grow
     go_wp2
     go_roundw
     case rel=>exact ⟨j+1,by omega,by go_num,HO2,HB2⟩
     case measure=>simp [intOf];omega
    ·
     obtain rfl:j=k:=by omega
     go_wp2
     go_ret
     exact ⟨_,rfl,ho.out,hb.out⟩
end Go.Proofs.YtdmhemgepdknhaaGreat
namespace Go.Proofs.YtdmhemgepdknhaaGreat
open Go.RowKit Go.Maps Go.Shelf
def Shl.bsI_ren:Go.Shelf.Ren:=⟨fun | 25=>133 | 31=>120 | 32=>157 | 37=>148 | n=>n,fun | 0=>0 | 3=>3 | 4=>4 | 22=>55 | 40=>109 | n=>n,fun | n=>n⟩
theorem Shl.bsI:Lays2.n25 Tryz.prog Shl.bsI_ren:={
 mixed:=by kernel_rfl
 f25:=Tryz.func133.trans (congrArg some (by kernel_rfl))
 f31:=Tryz.func120.trans (congrArg some (by kernel_rfl))
 f32:=Tryz.func157.trans (congrArg some (by kernel_rfl))
 f37:=Tryz.func148.trans (congrArg some (by kernel_rfl))
 t0:=Tryz.underlying0
 a0:=Tryz.isAgg0
 z0:=Tryz.sizeOf0
 v0:=Tryz.zeroValue0
 t3:=Tryz.underlying3
 a3:=Tryz.isAgg3
 z3:=Tryz.sizeOf3
 v3:=Tryz.zeroValue3
 t4:=Tryz.underlying4
 a4:=Tryz.isAgg4
 z4:=Tryz.sizeOf4
 v4:=Tryz.zeroValue4
 t22:=Tryz.underlying55
 a22:=Tryz.isAgg55
 z22:=Tryz.sizeOf55
 v22:=Tryz.zeroValue55
 t40:=Tryz.underlying109
 a40:=Tryz.isAgg109
 z40:=Tryz.sizeOf109
 v40:=Tryz.zeroValue109 }
def Pl.behind (P:Pl):Nat:=(P.pages.map fun (x:Nat)=>(x:Int)).countP (· < P.hand+1)
def Pl.round (P:Pl):List Nat:=P.pages.drop P.behind++P.pages.take P.behind
theorem Pl.behind_le (P:Pl):P.behind≤P.pages.length:=by
 have h:=List.countP_le_length (p:=fun (x:Int)=>decide (x < P.hand+1)) (l:=P.pages.map fun (x:Nat)=>(x:Int))
 rw [List.length_map] at h
 exact h
theorem Pl.pages_sorted (P:Pl):(P.pages.map fun (x:Nat)=>(x:Int)).Pairwise (· ≤ ·):=by
 refine List.Pairwise.map _ (fun a b (h:a < b)=>?_) (show P.pages.Pairwise (· < ·) from ?_)
 · omega
 ·
  unfold Pl.pages
  exact List.Pairwise.filter _ List.pairwise_lt_range
theorem Ints.low {w:World} {base base':Nat} {v:Value} {xs:List Nat} (h:Ints w base v xs) (hb:base'≤base):Ints w base' v xs:=
 ⟨h.1,h.2.imp id fun ⟨g,cap,cur,e,h1,r⟩=>⟨g,cap,cur,e,Nat.le_trans hb h1,r⟩⟩
theorem concat2I_any {w:World} {v1 v2:Value} {xs ys:List Nat} (h1:ISl w v1 xs) (h2:ISl w v2 ys) (hl:xs.length+ys.length≤1000000) :
  Calls Tryz.prog 134 #[.slice (some ⟨w.heap.size,0,none⟩) 2 2] (w.alloc (.cells #[v1,v2] TNI)).drew fun e w'=>∃ v,e=.returned v∧Ints w' w.heap.size v (xs++ys)∧Gr w w':=by
 have hg:Gr w (w.alloc (.cells #[v1,v2] TNI)).drew:=(Gr.new _ _).drew
 have hb:Blk (w.alloc (.cells #[v1,v2] TNI)).drew w.heap.size TNI #[v1,v2]:=show Blk (w.alloc (.cells #[v1,v2] TNI)) _ _ _ from Blk.new _ _ _
 have h:=concatI_any w.heap.size 2 2 (fun k=>if k=0 then v1 else v2) (fun k=>if k=0 then xs else ys) (w.alloc (.cells #[v1,v2] TNI)).drew (by decide) (fun k hk=>by
  rcases (show k=0∨k=1 by omega) with rfl | rfl
  · exact ⟨hb.cell 0,h1.gr hg⟩
  · exact ⟨hb.cell 1,h2.gr hg⟩) (by simpa [flatI] using hl)
 refine h.mono fun e w' hp=>?_
 obtain ⟨v,rfl,hv,g⟩:=hp;refine ⟨v,rfl,?_,Gr.trans hg g⟩
 have e0:flatI (fun k=>if k=0 then xs else ys) 2=xs++ys:=by simp [flatI]
 rw [e0] at hv
 exact Ints.low hv hg.size
section
variable {w w':World} {b m n:Nat} {pd pl:Value} {B:Nat→Option Nat} {P:Pl}
set_option maxRecDepth 100000 in
set_option maxHeartbeats 2000000 in
theorem round_any (h:PlAt w b pd pl m n B P) (hin:∀ i,65536≤i→P.fr i=none) (hh : -1≤P.hand∧P.hand < 65536):Calls Tryz.prog 106 #[.pointer (some ⟨b,0,none⟩)] w fun e w'=>RetLoose P.round w e w':=by
 have HPg:=Lib.hid (ppages_any h hin);have HP:=Lib.hid h;have hw1:IntKind.i64.wrap (P.hand+1)=P.hand+1:=IntWalk.i64_in _ (by omega);have HH:=Lib.hid hh
 have HL:Hid (P.pages.length≤65536):=Lib.hid (by
  unfold Pl.pages
  have h:=List.length_filter_le (fun i=>(P.fr i).isSome) (List.range 65536)
  rwa [List.length_range] at h)
 obtain ⟨H,hH⟩:∃ H,H=P.hand:=⟨_,rfl⟩
 rw [← hH] at hw1
 have HHd:=Lib.hid hH;clear h hin hh
 go_enter Tryz.func106,Tryz.ntmps106
 go_wp2_with fail;refine HPg.out.mono ?_;rintro e w1 ⟨v,rfl,hv,g1⟩;have HG:=Lib.hid g1
 have c5:w1.cell? ⟨b,5,none⟩=some (.int .i64 H):=by rw [hH];exact (HP.out.gr g1).c6.2.2.2.2.2
 clear g1 hH
 rcases hv.2 with ⟨rfl,h0⟩ | ⟨g,cap,cur,rfl,hb,_⟩
 ·
  have HPN:Hid (P.pages=[]):=Lib.hid (List.eq_nil_of_length_eq_zero h0);have HB:=Lib.hid (fun W=>Any.slices_BinarySearch_int_empty Shl.bsI none 0 (H+1) W);clear hv h0;go_wp2_with fail;refine (HB.out _).mono ?_;rintro e w2 ⟨rfl,rfl⟩;go_wp2_with fail;have hc2:=Lib.hid (concat2I_any (w:=w2) (v1:=.slice none 0 0) (v2:=.slice none 0 0) (xs:=[]) (ys:=[]) (.inl ⟨rfl,rfl⟩) (.inl ⟨rfl,rfl⟩) (by simp))
  go_region_held3 (fun _=>True) (exact True.intro) (first | (go_at_call 134;refine hc2.out.mono ?_;rintro e w3 ⟨v,rfl,hv,g3⟩))
  have HV:=Lib.hid hv;have HG3:=Lib.hid g3;clear hv g3;go_wp2_with fail
  go_ret
  refine ⟨_,rfl,?_,Gr.trans HG.out HG3.out⟩
  have e0:P.round=[]:=by unfold Pl.round;rw [HPN.out];simp
  rw [e0];exact Ints.low HV.out HG.out.size
 ·
  have HV:Hid (Ints w1 w.heap.size (.slice (some ⟨g,0,none⟩) P.pages.length cap) P.pages):=Lib.hid hv;obtain ⟨N,hN⟩:∃ N,N=P.pages.length:=⟨_,rfl⟩;have HN:Hid (N=P.pages.length∧N≤cap∧N≤65536∧P.behind≤N):=Lib.hid ⟨hN,by have:=hv.most;omega,by rw [hN];exact HL.out,by rw [hN];exact P.behind_le⟩
  have HB:Hid (Calls Tryz.prog 133 #[.slice (some ⟨g,0,none⟩) N cap,.int .i64 (H+1)] w1 fun e w'=>∃ y,e=.returned (.tuple #[.int .i64 (P.behind:Int),.bool y])∧∃ q,w'=w1.drewN q):=Lib.hid (by
   have hz:=Any.slices_BinarySearch_int Shl.bsI g 0 N cap (P.pages.map fun (x:Nat)=>(x:Int)) (H+1) w1 (by rw [List.length_map,hN];exact Nat.le_refl _) (by have:=HL.out;omega) (fun j hj=>by
    rw [List.length_map] at hj
    rw [Nat.zero_add,hv.cellAt j hj]
    simp [List.getD,hj]) (by
    rw [List.take_of_length_le (by rw [List.length_map,hN];exact Nat.le_refl _)]
    exact P.pages_sorted)
   rw [List.take_of_length_le (by rw [List.length_map,hN];exact Nat.le_refl _)] at hz
   refine Calls.mono (P:=Tryz.prog) hz fun e w' hp=>?_
   obtain ⟨h1,h2⟩:=hp
   rw [HHd.out] at h1
   exact ⟨_,h1,h2⟩)
  rw [← hN];clear hv hb hN;go_wp2_with fail;refine HB.out.mono ?_;rintro e w2 ⟨y,rfl,q,rfl⟩;obtain ⟨K,hK⟩:∃ K,K=P.behind:=⟨_,rfl⟩;rw [← hK];have HK:=Lib.hid hK
  have hk0:(0:Int)≤(K:Int):=by omega
  have hk1:(K:Int)≤(N:Int):=by have:=HN.out.2.2.2;omega
  have hk2:(K:Int)≤(cap:Int):=by have:=HN.out.2.2.2;have:=HN.out.2.1;omega
  clear HB hK;go_wp2_with fail;have HQ:Hid (Gr w1 (w1.drewN q)):=Lib.hid ⟨rfl,rfl,rfl,Nat.le_refl _,fun _ _=>rfl⟩;have hI:ISl (w1.drewN q) (.slice (some ⟨g,0,none⟩) P.pages.length cap) P.pages:=(Ints.isl HV.out).gr HQ.out
  have hK2:K≤P.pages.length:=by rw [HK.out];exact P.behind_le
  have i2:=hI.upto K hK2
  have hll:(P.pages.drop K).length+(P.pages.take K).length≤1000000:=by
   rw [List.length_drop,List.length_take];have:=HL.out
   omega
  by_cases hck:cap=K
  ·
   have i1:=hI.from K hK2 g 0 (fun h=>by omega)
   rw [← HN.out.1,hck,Nat.sub_self] at i1
   rw [hck] at i2
   have HC2:=Lib.hid (concat2I_any i1 i2 hll);clear i1 i2 hI hK2 hll
   go_region_held3 (fun _=>True) (exact True.intro) (first | (go_at_call 134;refine HC2.out.mono ?_;rintro e w3 ⟨v3,rfl,hv3,g3⟩))
   have HV3:=Lib.hid hv3;have HG3:=Lib.hid g3;clear hv3 g3;go_wp2_with fail
   go_ret
   refine ⟨_,rfl,?_,Gr.trans HG.out (Gr.trans HQ.out HG3.out)⟩
   have e0:P.round=P.pages.drop K++P.pages.take K:=by unfold Pl.round;rw [HK.out]
   rw [e0];exact Ints.low HV3.out HG.out.size
  ·
   have i1:=hI.from K hK2 g K (fun h=>⟨rfl,by omega⟩)
   rw [← HN.out.1] at i1
   have HC2:=Lib.hid (concat2I_any i1 i2 hll);clear i1 i2 hI hK2 hll
   go_region_held3 (fun _=>True) (exact True.intro) (first | (go_at_call 134;refine HC2.out.mono ?_;rintro e w3 ⟨v3,rfl,hv3,g3⟩))
   have HV3:=Lib.hid hv3;have HG3:=Lib.hid g3;clear hv3 g3;go_wp2_with fail
   go_ret
   refine ⟨_,rfl,?_,Gr.trans HG.out (Gr.trans HQ.out HG3.out)⟩
   have e0:P.round=P.pages.drop K++P.pages.take K:=by unfold Pl.round;rw [HK.out]
   rw [e0];exact Ints.low HV3.out HG.out.size
end
end Go.Proofs.YtdmhemgepdknhaaGreat
namespace Go.Proofs.YtdmhemgepdknhaaGreat
open Go.RowKit Go.Maps
theorem Presults_x3 {fn:Func} {p q r:Tmp} (h:fn.results=#[.cell p PTS,.tmp q,.tmp r]) (tmps:Array Value) (w:World) (g:Nat) (s:PSec)
  (hp:tmps.getD p undef=.pointer (some ⟨g,0,none⟩)) (hb:Blk w g PTS (Psec s)):(results fn tmps).run Tryz.prog w=.ok (.tuple #[.agg (Psec s),tmps.getD q undef,tmps.getD r undef]) w:=by
 have hp':tmps[p]?.getD undef=.pointer (some ⟨g,0,none⟩):=by simpa using hp
 have hl:=run_loadVar_row (P:=Tryz.prog) w g PTS PTS (Psec s) (0,0) _ hb Punder_sec rfl (by rw [Psec_size];exact Psize_sec)
 simp [results,h,hp',asAddr,hl]
end Go.Proofs.YtdmhemgepdknhaaGreat
namespace Go.Proofs.YtdmhemgepdknhaaGreat
open Go.RowKit Go.Maps
theorem wLasts_any (d b:Nat) (p:Value) (n:Int) (l:Int) (g:Int) (ep:Nat) (tl:Nat) (la:Nat) (q:Option Addr) (m:Nat) (c:Nat) (rs:Int) (bg:Bool) (w:World) (h:Blk w b TLg #[p,.int .i64 n,.int .i64 l,.int .i64 g,.int .u64 ep,.int .u64 tl,.int .u64 la,.slice q m c,.int .i64 rs,.bool bg]) (hp:p=.pointer (some ⟨d,0,none⟩)):Calls Tryz.prog 21 #[.pointer (some ⟨b,0,none⟩)] w (RetU la w):=by
 have HM:=Lib.hid (wmissing_no d b p n l g ep tl la q m c rs bg w h hp);obtain ⟨c0,c1,c2,c3,c4,c5,c6,c7,c8,c9⟩:=h.c10;clear h c0 c1 c2 c3 c4 c5 c7 c8 c9
 go_enter Tryz.func21,Tryz.ntmps21
 go_wp2_with fail;refine HM.out.mono ?_;rintro e w1 ⟨rfl,rfl⟩;go_wp2_with fail
 go_ret
 exact ⟨rfl,Gr.refl _⟩
end Go.Proofs.YtdmhemgepdknhaaGreat
