/-
  Part 3 of what the laws of stage 6 rest on: contracts of the functions that they call, and what these rest on.
-/
import Derived.Deep.QuietTactic
import Derived.BigQuiet
import Derived.Test.YtlijbgapkmfnaaaGreatW1
import Derived.Test.YtlijbgapkmfnaaaGreatW2
set_option linter.unusedVariables false
set_option linter.unusedSimpArgs false
namespace Go.Proofs.YtlijbgapkmfnaaaGreat
open Go.RowKit Go.Maps
abbrev TRf:TypeId:=85
def nrm (z:Int):Int:=if z < 0 then -1 else z
def St.at (s:St) (i:Nat):List Sec:=s.ls.getD i Sec.zero :: s.t i
def Outer (w:World) (gs cs N:Nat) (V:Nat→Value):Prop:=w.ownsRow 0 TL 1 (.slice (some ⟨gs,0,none⟩) N cs) N ((List.range N).map V)
theorem Outer.stays {w w':World} {gs cs N:Nat} {V:Nat→Value} (h:Outer w gs cs N V) (e:w'.heap[gs]?=w.heap[gs]?):Outer w' gs cs N V:=by
 refine ⟨h.1,?_⟩
 rcases h.2 with ⟨h2,_⟩ | ⟨g,cap,cur,h0,h1,hg,r⟩
 · cases h2
 ·
  cases h0
  exact .inr ⟨gs,cs,cur,rfl,h1,e.trans hg,r⟩
theorem Outer.cell {w:World} {gs cs N:Nat} {V:Nat→Value} (h:Outer w gs cs N V) (i:Nat) (hi:i < N):w.cell? ⟨gs,i,none⟩=some (V i):=by
 rw [World.ownsRow.cellAt h i (by omega)]
 simp [hi]
theorem Outer.frozen {w:World} {gs cs N:Nat} {V:Nat→Value} (h:Outer w gs cs N V) (i:Nat):w.frozen? ⟨gs,i,none⟩=false:=World.ownsRow.frozenAt h i
theorem Outer.block {w:World} {gs cs N:Nat} {V:Nat→Value} (h:Outer w gs cs N V):∃ cur,w.heap[gs]?=some (.cells cur TL (0,0)):=by
 rcases h.2 with ⟨h2,_⟩ | ⟨g,cap,cur,h0,h1,hg,r⟩
 · cases h2
 · cases h0;exact ⟨cur,hg⟩
theorem Outer.set {w:World} {gs cs N:Nat} {V:Nat→Value} (h:Outer w gs cs N V) (i:Nat) (hi:i < N) (u:Value):Outer (w.setCell ⟨gs,i,none⟩ u) gs cs N (fun j=>if j=i then u else V j):=by
 have h2:=World.ownsRow.stored h i u
 unfold Outer
 have e:((List.range N).map V).set i u=(List.range N).map (fun j=>if j=i then u else V j):=by
  apply List.ext_getElem?
  intro j
  rw [List.getElem?_set]
  by_cases hj:j < N
  ·
   by_cases hji:i=j
   · subst hji;simp [hj]
   · simp [hj,hji,Ne.symm hji]
  ·
   have:¬ i=j:=by omega
   simp [hj,this]
 rw [← e];exact h2.1
structure RfAt (w:World) (G:Nat→Prop) (b gs cs:Nat) (V:Nat→Value) (s:St):Prop where
 pos:0 < s.ls.length
 most:s.ls.length≤65536
 lo:-9223372036854775808≤s.fuse
 hi:s.fuse≤9223372036854775807
 blk:Blk w b TRf #[.slice (some ⟨gs,0,none⟩) s.ls.length cs,.int .i64 (nrm s.fuse),.bool s.dead,.int .i64 (s.writes:Int)]
 outer:Outer w gs cs s.ls.length V
 rows:∀ i,i < s.ls.length→Row w (V i) (s.at i)
 ownB:G b
 ownS:G gs
 ownR:∀ i g,i < s.ls.length→(V i).ownBlock=some g→G g
 low:∀ k,G k→k < w.heap.size
def Rf (w:World) (G:Nat→Prop) (r:Value) (s:St):Prop:=∃ b gs cs V,r=.pointer (some ⟨b,0,none⟩)∧RfAt w G b gs cs V s
theorem RfAt.stays {w w':World} {G:Nat→Prop} {b gs cs:Nat} {V:Nat→Value} {s:St} (h:RfAt w G b gs cs V s) (e:∀ k,G k→w'.heap[k]?=w.heap[k]?) (hs:w.heap.size≤w'.heap.size):RfAt w' G b gs cs V s:=
 ⟨h.pos,h.most,h.lo,h.hi,h.blk.stays (e b h.ownB),h.outer.stays (e gs h.ownS),fun i hi=>(h.rows i hi).stays fun g hg=>e g (h.ownR i g hi hg),h.ownB,h.ownS,h.ownR,fun k hk=>Nat.lt_of_lt_of_le (h.low k hk) hs⟩
theorem RfAt.gr {w w':World} {G:Nat→Prop} {b gs cs:Nat} {V:Nat→Value} {s:St} (h:RfAt w G b gs cs V s) (e:Gr w w'):RfAt w' G b gs cs V s:=h.stays (fun k hk=>e.block k (h.low k hk)) e.size
theorem Rf.stays {w w':World} {G:Nat→Prop} {r:Value} {s:St} (h:Rf w G r s) (e:∀ k,G k→w'.heap[k]?=w.heap[k]?) (hs:w.heap.size≤w'.heap.size):Rf w' G r s:=by
 obtain ⟨b,gs,cs,V,hp,h⟩:=h;exact ⟨b,gs,cs,V,hp,h.stays e hs⟩
theorem Rf.gr {w w':World} {G:Nat→Prop} {r:Value} {s:St} (h:Rf w G r s) (e:Gr w w'):Rf w' G r s:=by
 obtain ⟨b,gs,cs,V,hp,h⟩:=h;exact ⟨b,gs,cs,V,hp,h.gr e⟩
theorem Rf.low {w:World} {G:Nat→Prop} {r:Value} {s:St} (h:Rf w G r s):∀ k,G k→k < w.heap.size:=by
 obtain ⟨b,gs,cs,V,hp,h⟩:=h;exact h.low
theorem RfAt.cells {w:World} {G:Nat→Prop} {b gs cs:Nat} {V:Nat→Value} {s:St} (h:RfAt w G b gs cs V s) :
  w.cell? ⟨b,0,none⟩=some (.slice (some ⟨gs,0,none⟩) s.ls.length cs)∧w.cell? ⟨b,1,none⟩=some (.int .i64 (nrm s.fuse))∧w.cell? ⟨b,2,none⟩=some (.bool s.dead)∧w.cell? ⟨b,3,none⟩=some (.int .i64 (s.writes:Int)):=
 ⟨h.blk.cell 0,h.blk.cell 1,h.blk.cell 2,h.blk.cell 3⟩
theorem RfAt.apart {w:World} {G:Nat→Prop} {b gs cs:Nat} {V:Nat→Value} {s:St} (h:RfAt w G b gs cs V s):b≠gs∧(∀ i g,i < s.ls.length→(V i).ownBlock=some g→g≠b∧g≠gs):=by
 obtain ⟨cur,hg⟩:=h.outer.block;have hb:=h.blk
 unfold Blk at hb
 refine ⟨fun e=>?_,fun i g hi hv=>⟨fun e=>?_,fun e=>?_⟩⟩
 ·
  subst e
  rw [hg] at hb
  simp only [Option.some.injEq,Obj.cells.injEq] at hb
  exact absurd hb.2.1 (by decide)
 ·
  subst e;obtain ⟨cs2,hk⟩:=(h.rows i hi).kind hv
  rw [hk] at hb
  simp only [Option.some.injEq,Obj.cells.injEq] at hb
  exact absurd hb.2.1 (by decide)
 ·
  subst e;obtain ⟨cs2,hk⟩:=(h.rows i hi).kind hv
  rw [hk] at hg
  simp only [Option.some.injEq,Obj.cells.injEq] at hg
  exact absurd hg.2.1 (by decide)
theorem at_ne (s:St) (i:Nat):s.at i≠[]:=by unfold St.at;simp
theorem at_len (s:St) (i:Nat):(s.at i).length=(s.t i).length+1:=rfl
theorem at_last (s:St) (i:Nat) (h:(s.t i).length < (s.at i).length):(s.at i)[(s.t i).length]=s.nw i:=by
 have h1:(s.at i).length - 1 < (s.at i).length:=by omega
 have:=last_at Sec.zero (s.at i) h1;have e:(s.at i).length - 1=(s.t i).length:=rfl;rw [show (s.at i)[(s.t i).length]=(s.at i)[(s.at i).length - 1] from rfl,this]
 unfold St.at St.nw
 rw [List.getLastD_cons]
theorem RfAt.block {w w':World} {G:Nat→Prop} {b gs cs:Nat} {V:Nat→Value} {s s':St} (h:RfAt w G b gs cs V s) (hls:s'.ls=s.ls) (ht:s'.t=s.t) (lo:-9223372036854775808≤s'.fuse) (hi:s'.fuse≤9223372036854775807)
  (hb:Blk w' b TRf #[.slice (some ⟨gs,0,none⟩) s.ls.length cs,.int .i64 (nrm s'.fuse),.bool s'.dead,.int .i64 (s'.writes:Int)]) (e:∀ k,G k→k≠b→w'.heap[k]?=w.heap[k]?) (hs:w.heap.size≤w'.heap.size):RfAt w' G b gs cs V s':=by
 obtain ⟨a1,a2⟩:=h.apart;refine ⟨by rw [hls];exact h.pos,by rw [hls];exact h.most,lo,hi,by rw [hls];exact hb,by rw [hls];exact h.outer.stays (e gs h.ownS (fun e=>a1 e.symm)),fun i hl=>?_,h.ownB,h.ownS,fun i g hl hg=>h.ownR i g (by rw [hls] at hl;exact hl) hg,fun k hk=>Nat.lt_of_lt_of_le (h.low k hk) hs⟩
 rw [hls] at hl
 have:=(h.rows i hl).stays (w':=w') fun g hg=>e g (h.ownR i g hl hg) (a2 i g hl hg).1
 unfold St.at at this ⊢
 rw [hls,ht];exact this
theorem RfAt.ext {w:World} {G:Nat→Prop} {b gs cs:Nat} {V:Nat→Value} {s s':St} (h:RfAt w G b gs cs V s) (hlen:s'.ls.length=s.ls.length) (hat:∀ j,j < s.ls.length→s'.at j=s.at j) (hf:s'.fuse=s.fuse) (hd:s'.dead=s.dead) (hw:s'.writes=s.writes):RfAt w G b gs cs V s':=by
 refine ⟨by rw [hlen];exact h.pos,by rw [hlen];exact h.most,by rw [hf];exact h.lo,by rw [hf];exact h.hi,by rw [hlen,hf,hd,hw];exact h.blk,by rw [hlen];exact h.outer,fun i hi=>?_,h.ownB,h.ownS,fun i g hi hg=>h.ownR i g (by rw [hlen] at hi;exact hi) hg,h.low⟩
 rw [hlen] at hi
 rw [hat i hi];exact h.rows i hi
theorem RfAt.put {w:World} {G:Nat→Prop} {b gs cs:Nat} {V:Nat→Value} {s s':St} (h:RfAt w G b gs cs V s) (i:Nat) (hi:i < s.ls.length) {v:Value} (hr:Row w v (s'.at i)) (hlen:s'.ls.length=s.ls.length) (hat:∀ j,j < s.ls.length→j≠i→s'.at j=s.at j) (hf:s'.fuse=s.fuse) (hd:s'.dead=s.dead) (hw:s'.writes=s.writes) :
  RfAt (w.setCell ⟨gs,i,none⟩ v) (fun k=>G k∨v.ownBlock=some k) b gs cs (fun j=>if j=i then v else V j) s':=by
 obtain ⟨a1,a2⟩:=h.apart
 have hset:∀ k,k≠gs→(w.setCell ⟨gs,i,none⟩ v).heap[k]?=w.heap[k]?:=fun k hk=>Below.heap_setCell w _ v k hk
 have hsz:(w.setCell ⟨gs,i,none⟩ v).heap.size=w.heap.size:=by simp [World.setCell]
 have hvk:∀ g,v.ownBlock=some g→g≠gs:=fun g hg e=>by
  subst e;obtain ⟨cur,hk⟩:=h.outer.block;obtain ⟨cs2,hk2⟩:=hr.kind hg
  rw [hk2] at hk
  simp only [Option.some.injEq,Obj.cells.injEq] at hk
  exact absurd hk.2.1 (by decide)
 refine ⟨by rw [hlen];exact h.pos,by rw [hlen];exact h.most,by rw [hf];exact h.lo,by rw [hf];exact h.hi,by rw [hlen,hf,hd,hw];exact h.blk.stays (hset b a1),by rw [hlen];exact h.outer.set i hi v,fun j hj=>?_,.inl h.ownB,.inl h.ownS,fun j g hj hg=>?_,?_⟩
 ·
  rw [hlen] at hj
  by_cases hji:j=i
  ·
   subst hji
   simp only [if_pos]
   exact hr.stays fun g hg=>hset g (hvk g hg)
  ·
   simp only [if_neg hji]
   rw [hat j hj hji]
   exact (h.rows j hj).stays fun g hg=>hset g (a2 j g hj hg).2
 ·
  rw [hlen] at hj
  by_cases hji:j=i
  ·
   simp only [if_pos hji] at hg
   exact .inr hg
  ·
   simp only [if_neg hji] at hg
   exact .inl (h.ownR j g hj hg)
 ·
  rintro k (hk | hk)
  · rw [hsz];exact h.low k hk
  · rw [hsz];exact hr.lt k hk
theorem upd_put {w0 w:World} {G:Nat→Prop} (hg:Gr w0 w) {gs i:Nat} (hG:G gs) {v:Value} (hv:∀ g,v.ownBlock=some g→w0.heap.size≤g):Upd G (fun k=>G k∨v.ownBlock=some k) w0 (w.setCell ⟨gs,i,none⟩ v):=
 ⟨hg.os,hg.tape,hg.output,by simpa [World.setCell] using hg.size,fun k hk hG2=>(Below.heap_setCell w _ v k (fun e=>hG2 (by rw [e];exact hG))).trans (hg.block k hk),fun k hk=>hk.imp id fun h=>hv k h⟩
def ChgR (G:Nat→Prop) (r:Value) (s:St) (v:Value) (w:World) (e:Ending) (w':World):Prop:=∃ G',e=.returned v∧Rf w' G' r s∧Upd G G' w w'
end Go.Proofs.YtlijbgapkmfnaaaGreat
namespace Go.Proofs.YtlijbgapkmfnaaaGreat
open Go.RowKit Go.Maps
def Sr (b gs cs N g n c i h k:Nat) (x:Sec) (d:Nat) (v:Value) (_:World):Prop:=
 match d with
 | 5 | 6 | 7 | 12 | 13 | 14=>v=.pointer (some ⟨b,0,none⟩)
 | 8 | 15=>v=.slice (some ⟨gs,0,none⟩) N cs
 | 9 | 16=>v=.int .i64 (i:Int)
 | 10 | 17=>v=.pointer (some ⟨gs,i,none⟩)
 | 11 | 18=>v=.slice (some ⟨g,0,none⟩) (k+1) c
 | 19=>v=.int .i64 ((k+1:Nat):Int)
 | 20=>v=.int .i64 (k:Int)
 | 21=>v=.pointer (some ⟨g,k*256,none⟩)
 | 22=>v=.agg (sec x)
 | _=>True
def Fr (W0:World) (h:Nat) (x:Sec) (w:World):Prop:=∃ w1,Gr W0 w1∧w=w1.setRow h (sec x)
set_option maxRecDepth 100000 in
set_option maxHeartbeats 2000000 in
theorem refRead_any {G:Nat→Prop} {r:Value} {s:St} (w:World) (h:Rf w G r s) (i:Nat) (hi:i < s.ls.length):Calls Tryz.prog 43 #[r,.int .i64 (i:Int)] w fun e w'=>e=.returned (.agg (sec (s.nw i)))∧Gr w w':=by
 obtain ⟨b,gs,cs,V,rfl,h⟩:=h
 have hi2:(i:Int) < 65536:=by have:=h.most;omega
 obtain ⟨wc,hwc⟩:∃ wc,wc=w.alloc (.cells (sec Sec.zero) TS):=⟨_,rfl⟩
 have hg:Gr w wc:=by rw [hwc];exact (Gr.refl w).alloc (Nat.le_refl _) _
 have h':=h.gr hg;have HN:Hid (Blk wc w.heap.size TS (sec Sec.zero)):=Lib.hid (by rw [hwc];exact Blk.new w TS (sec Sec.zero));have HZ:=Lib.hid zero_sec;obtain ⟨g,c,hv,_,hc1,hc2⟩:=(h'.rows i hi).full (at_ne s i)
 rw [at_len] at hv hc1
 obtain ⟨k,hk⟩:∃ k,k=(s.t i).length:=⟨_,rfl⟩
 rw [← hk] at hv hc1
 obtain ⟨x,hx⟩:∃ x,x=s.nw i:=⟨_,rfl⟩
 have hrow:Row wc (.slice (some ⟨g,0,none⟩) (k+1) c) (s.at i):=by rw [← hv];exact h'.rows i hi
 have hkl:k < (s.at i).length:=by rw [at_len,← hk];omega
 have hxx:(s.at i)[k]=x:=by
  subst hk;rw [hx];exact at_last s i hkl
 obtain ⟨N,hN⟩:∃ N,N=s.ls.length:=⟨_,rfl⟩
 have HA:Hid (∀ W,Gr wc W→W.cell? ⟨b,0,none⟩=some (.slice (some ⟨gs,0,none⟩) N cs)):=Lib.hid fun W e=>by rw [hN];exact (h'.gr e).cells.1
 have HB:Hid (∀ W,Gr wc W→W.cell? ⟨gs,i,none⟩=some (.slice (some ⟨g,0,none⟩) (k+1) c)):=Lib.hid fun W e=>by rw [← hv];exact (h'.gr e).outer.cell i hi
 have HL:Hid (∀ W,Gr wc W→W.rangeAt g (k*256) x.cells):=Lib.hid fun W e=>by rw [← hxx];exact (hrow.gr e).lies k hkl
 have HC:Hid (k+1≤9223372036854775807):=Lib.hid (by unfold maxLen at hc2;omega)
 have hiN:i < N:=by rw [hN];exact hi
 have HG:=Lib.hid hg
 have hlt:w.heap.size < wc.heap.size:=by rw [hwc];simp
 rw [← hx];clear h h' hv hc1 hc2 hk hrow hkl hxx hN hx hi hg
 go_enter Tryz.func43,Tryz.ntmps43
 have hz:=HZ.out;clear HZ;go_wp2_with fail;rw [← hwc];clear hwc hz;refine Flow.regionZ 18 18 (by kernel_rfl) [] 20 (Sr b gs cs N g (k+1) c i w.heap.size k x) (Gr wc) (Fr wc w.heap.size x) (fun _=>True) (fun _ _ _=>True) (by kernel_rfl) (by kernel_rfl) (by kernel_rfl) (fun _ _ _ _ _ _ h _=>h) ⟨rfl,rfl,rfl,Nat.le_refl _,fun _ _=>rfl⟩ True.intro ?steps ?fin
 case fin=>
  intro a W hfr hfin hsl
  clear hsl;have e:=Flow.frame hfr [5,6,7,8,9,10,11,12,13,14,15,16,17,18,19,20,21,22] (List.range 23) (by kernel_rfl) (by kernel_rfl)
  simp [List.range,List.range.loop] at e
  rw [e];clear e hfr;obtain ⟨w1,hg1,rfl⟩:=hfin
  rename_i K hK
  refine hK _ _ ?_;go_wp2_with fail;exact bodyPost_ret (results_sec rfl _ _ _ _ rfl ((HN.out.gr hg1).row _)) rfl ⟨rfl,below_setRow (Gr.trans HG.out hg1) (Nat.le_refl _) _⟩
 case steps=>
  refine .cons (fun a W hfr hinv hear hdep K hK=>?_) ?_
  · have t0:=tAt (.pointer (some ⟨b,0,none⟩)) (hfr.at 0 (by kernel_rfl));refine fW0 rfl ?_;clear hfr hdep hear;go_simp;exact hK _ _ True.intro hinv (fun _=>True.intro) (dsT rfl)
  refine .cons (fun a W hfr hinv hear hdep K hK=>?_) ?_
  · have t5:=tAt (.pointer (some ⟨b,0,none⟩)) (hdep 5 (by kernel_rfl));refine fW0 rfl ?_;clear hfr hdep hear;go_simp;exact hK _ _ True.intro hinv (fun _=>True.intro) (dsT rfl)
  refine .cons (fun a W hfr hinv hear hdep K hK=>?_) ?_
  · have t6:=tAt (.pointer (some ⟨b,0,none⟩)) (hdep 6 (by kernel_rfl));refine fW0 rfl ?_;clear hfr hdep hear;go_simp;exact hK _ _ True.intro hinv (fun _=>True.intro) (dsT rfl)
  refine .cons (fun a W hfr hinv hear hdep K hK=>?_) ?_
  · have t7:=tAt (.pointer (some ⟨b,0,none⟩)) (hdep 7 (by kernel_rfl));have hc:=HA.out W hinv;refine fW0 rfl ?_;clear hfr hdep hear;go_simp;exact hK _ _ True.intro hinv (fun _=>True.intro) (dsT rfl)
  refine .cons (fun a W hfr hinv hear hdep K hK=>?_) ?_
  · have t1:=tAt (.int .i64 (i:Int)) (hfr.at 1 (by kernel_rfl));refine fW0 rfl ?_;clear hfr hdep hear;go_simp;exact hK _ _ True.intro hinv (fun _=>True.intro) (dsT rfl)
  refine .cons (fun a W hfr hinv hear hdep K hK=>?_) ?_
  · have t8:=tAt (.slice (some ⟨gs,0,none⟩) N cs) (hdep 8 (by kernel_rfl));have t9:=tAt (.int .i64 (i:Int)) (hdep 9 (by kernel_rfl));refine fW0 rfl ?_;clear hfr hdep hear;go_simp;exact hK _ _ True.intro hinv (fun _=>True.intro) (dsT rfl)
  refine .cons (fun a W hfr hinv hear hdep K hK=>?_) ?_
  · have t10:=tAt (.pointer (some ⟨gs,i,none⟩)) (hdep 10 (by kernel_rfl));have hc:=HB.out W hinv;refine fW0 rfl ?_;clear hfr hdep hear;go_simp;exact hK _ _ True.intro hinv (fun _=>True.intro) (dsT rfl)
  refine .cons (fun a W hfr hinv hear hdep K hK=>?_) ?_
  · have t0:=tAt (.pointer (some ⟨b,0,none⟩)) (hfr.at 0 (by kernel_rfl));refine fW0 rfl ?_;clear hfr hdep hear;go_simp;exact hK _ _ True.intro hinv (fun _=>True.intro) (dsT rfl)
  refine .cons (fun a W hfr hinv hear hdep K hK=>?_) ?_
  · have t12:=tAt (.pointer (some ⟨b,0,none⟩)) (hdep 12 (by kernel_rfl));refine fW0 rfl ?_;clear hfr hdep hear;go_simp;exact hK _ _ True.intro hinv (fun _=>True.intro) (dsT rfl)
  refine .cons (fun a W hfr hinv hear hdep K hK=>?_) ?_
  · have t13:=tAt (.pointer (some ⟨b,0,none⟩)) (hdep 13 (by kernel_rfl));refine fW0 rfl ?_;clear hfr hdep hear;go_simp;exact hK _ _ True.intro hinv (fun _=>True.intro) (dsT rfl)
  refine .cons (fun a W hfr hinv hear hdep K hK=>?_) ?_
  · have t14:=tAt (.pointer (some ⟨b,0,none⟩)) (hdep 14 (by kernel_rfl));have hc:=HA.out W hinv;refine fW0 rfl ?_;clear hfr hdep hear;go_simp;exact hK _ _ True.intro hinv (fun _=>True.intro) (dsT rfl)
  refine .cons (fun a W hfr hinv hear hdep K hK=>?_) ?_
  · have t1:=tAt (.int .i64 (i:Int)) (hfr.at 1 (by kernel_rfl));refine fW0 rfl ?_;clear hfr hdep hear;go_simp;exact hK _ _ True.intro hinv (fun _=>True.intro) (dsT rfl)
  refine .cons (fun a W hfr hinv hear hdep K hK=>?_) ?_
  · have t15:=tAt (.slice (some ⟨gs,0,none⟩) N cs) (hdep 15 (by kernel_rfl));have t16:=tAt (.int .i64 (i:Int)) (hdep 16 (by kernel_rfl));refine fW0 rfl ?_;clear hfr hdep hear;go_simp;exact hK _ _ True.intro hinv (fun _=>True.intro) (dsT rfl)
  refine .cons (fun a W hfr hinv hear hdep K hK=>?_) ?_
  · have t17:=tAt (.pointer (some ⟨gs,i,none⟩)) (hdep 17 (by kernel_rfl));have hc:=HB.out W hinv;refine fW0 rfl ?_;clear hfr hdep hear;go_simp;exact hK _ _ True.intro hinv (fun _=>True.intro) (dsT rfl)
  refine .cons (fun a W hfr hinv hear hdep K hK=>?_) ?_
  · have t18:=tAt (.slice (some ⟨g,0,none⟩) (k+1) c) (hdep 18 (by kernel_rfl));refine fW0 rfl ?_;clear hfr hdep hear;go_simp;exact hK _ _ True.intro hinv (fun _=>True.intro) (dsT rfl)
  refine .cons (fun a W hfr hinv hear hdep K hK=>?_) ?_
  ·
   have t19:=tAt (.int .i64 ((k+1:Nat):Int)) (hdep 19 (by kernel_rfl))
   have hwr:IntKind.i64.wrap (k:Int)=(k:Int):=by have:=HC.out;rw [IntKind.wrap_i64];omega
   refine fW0 rfl ?_;clear hfr hdep hear;go_simp;exact hK _ _ True.intro hinv (fun _=>True.intro) (dsT rfl)
  refine .cons (fun a W hfr hinv hear hdep K hK=>?_) ?_
  ·
   have t11:=tAt (.slice (some ⟨g,0,none⟩) (k+1) c) (hdep 11 (by kernel_rfl));have t20:=tAt (.int .i64 (k:Int)) (hdep 20 (by kernel_rfl))
   have hkk:(k:Int) < (k:Int)+1:=by omega
   refine fW0 rfl ?_;clear hfr hdep hear;go_simp;exact hK _ _ True.intro hinv (fun _=>True.intro) (dsT rfl)
  refine .cons (fun a W hfr hinv hear hdep K hK=>?_) ?_
  · have s21:a.tmps.getD 21 undef=.pointer (some ⟨g,k*256,none⟩):=hdep 21 (by kernel_rfl);have t21:=tmpAt s21;refine fW0 rfl ?_;clear hfr hdep;refine wp_load_sec (.tmp 21) rfl (HL.out W hinv) (by simpa [Act.eval] using s21) ?_;exact hK _ _ True.intro hinv (fun _=>True.intro) (dsT rfl)
  refine .cons (fun a W hfr hinv hear hdep K hK=>?_) ?_
  ·
   have s4:a.tmps.getD 4 undef=.pointer (some ⟨w.heap.size,0,none⟩):=hfr.at 4 (by kernel_rfl)
   have t4:=tmpAt s4;have s22:a.tmps.getD 22 undef=.agg (sec x):=hdep 22 (by kernel_rfl);have t22:=tmpAt s22;refine fW0 rfl ?_;clear hfr hdep;refine wp_store_row TS (.tmp 4) (.tmp 22) rfl w.heap.size (sec x) (by simpa [Act.eval] using s4) (by simpa [Act.eval] using s22) TS (sec Sec.zero) (HN.out.gr hinv) (by rw [sec_size];exact size_sec) (by rw [sec_size,sec_size]) (sec_one x) ?_;exact hK _ _ True.intro ⟨W,hinv,rfl⟩ True.intro (fun d hd=>by cases hd)
  exact True.intro
end Go.Proofs.YtlijbgapkmfnaaaGreat
namespace Go.Proofs.YtlijbgapkmfnaaaGreat
open Go.RowKit Go.Maps
def St.half (s:St) (k:Nat):St:={ s with ls:=(List.range s.ls.length).map fun j=>if j < k then s.nw j else s.ls.getD j Sec.zero,t:=fun j=>if j < k then [] else s.t j }
theorem half_len (s:St) (k:Nat):(s.half k).ls.length=s.ls.length:=by simp [St.half]
theorem half_ls {s:St} {k j:Nat} (hj:j < s.ls.length):(s.half k).ls.getD j Sec.zero=if j < k then s.nw j else s.ls.getD j Sec.zero:=by
 have:j < (s.half k).ls.length:=by rw [half_len];exact hj
 simp only [List.getD,List.getElem?_eq_getElem this,Option.getD_some]
 simp [St.half,List.getD]
theorem half_at {s:St} {k j:Nat} (hj:j < s.ls.length):(s.half k).at j=if j < k then [s.nw j] else s.at j:=by
 unfold St.at
 rw [half_ls hj]
 show _ :: (if j < k then [] else s.t j)=_
 by_cases h:j < k
 · simp [h]
 · simp [h]
theorem half_nw {s:St} {k:Nat} (hk:k < s.ls.length):(s.half k).nw k=s.nw k:=by
 unfold St.nw
 rw [half_ls hk]
 show (if k < k then [] else s.t k).getLastD _=_
 simp
theorem half_succ {s:St} {k j:Nat} (hj:j < s.ls.length) (h:j≠k):(s.half (k+1)).at j=(s.half k).at j:=by
 rw [half_at hj,half_at hj]
 by_cases h1:j < k
 · rw [if_pos h1,if_pos (by omega)]
 · rw [if_neg h1,if_neg (by omega)]
theorem half_end {s:St} {j:Nat} (hj:j < s.ls.length):s.barrier.at j=(s.half s.ls.length).at j:=by
 rw [half_at hj,if_pos hj]
 unfold St.at St.barrier
 simp [List.getD,hj]
theorem half_zero {s:St} {j:Nat} (hj:j < s.ls.length):(s.half 0).at j=s.at j:=by rw [half_at hj,if_neg (by omega)]
def Sqb (n0 b gs cs N i:Nat) (x:Sec) (d:Nat) (v:Value) (w:World):Prop:=
 match d with
 | 17 | 18 | 19 | 22=>v=.pointer (some ⟨b,0,none⟩)
 | 20=>v=.slice (some ⟨gs,0,none⟩) N cs
 | 21 | 23=>v=.int .i64 (i:Int)
 | 24=>v=.agg (sec x)
 | 25=>∃ q,v=.slice (some ⟨q,0,none⟩) 1 1∧Row w (.slice (some ⟨q,0,none⟩) 1 1) [x]∧n0≤q
 | 26=>v=.pointer (some ⟨gs,i,none⟩)
 | _=>True
def Gqb (z i:Nat) (w w':World):Prop:=cond (i == z) True (Gr w w')
theorem Sqb.kept {n0 b gs cs N i:Nat} {x:Sec} (d:Nat) (v:Value) (w w':World) (h:Sqb n0 b gs cs N i x d v w) (g:Gr w w'):Sqb n0 b gs cs N i x d v w':=by
 unfold Sqb at h ⊢
 split <;> simp only at h
 all_goals first
  | exact h
  | exact (let ⟨q,h1,h2,h3⟩:=h;⟨q,h1,Row.gr h2 g,h3⟩)
def Fqb (W0:World) (gs i:Nat) (x:Sec) (w:World):Prop:=∃ w1 q,Gr W0 w1∧Row w1 (.slice (some ⟨q,0,none⟩) 1 1) [x]∧W0.heap.size≤q∧w=w1.setCell ⟨gs,i,none⟩ (.slice (some ⟨q,0,none⟩) 1 1)
set_option maxRecDepth 100000 in
theorem refBarrier_dead {G:Nat→Prop} {r:Value} {s:St} (w:World) (h:Rf w G r s) (hd:s.dead=true):Calls Tryz.prog 61 #[r] w fun e w'=>e=.returned (.bool false)∧w=w':=by
 obtain ⟨b,gs,cs,V,rfl,h⟩:=h;obtain ⟨h0,h1,h2,h3⟩:=h.cells
 rw [hd] at h2
 clear h h0 h1 h3 hd
 go_enter Tryz.func61,Tryz.ntmps61
 go_wp2_with fail
 go_ret
 exact ⟨rfl,rfl⟩
set_option maxRecDepth 100000 in
set_option maxHeartbeats 4000000 in
theorem refBarrier_yes {G:Nat→Prop} {r:Value} {s:St} (w:World) (h:Rf w G r s) (hd:s.dead=false):Calls Tryz.prog 61 #[r] w fun e w'=>ChgR G r s.barrier (.bool true) w e w':=by
 obtain ⟨b,gs,cs,V,rfl,h⟩:=h;obtain ⟨h0,h1,h2,h3⟩:=h.cells
 rw [hd] at h2
 obtain ⟨N,hN⟩:∃ N,N=s.ls.length:=⟨_,rfl⟩
 have hN2:N≤65536:=by rw [hN];exact h.most
 have HN:=Lib.hid hN;have HH:Hid (RfAt w G b gs cs V (s.half 0)):=Lib.hid (h.ext (half_len s 0) (fun j hj=>half_zero hj) rfl rfl rfl);clear h h0 h1 h3 hd hN
 go_enter Tryz.func61,Tryz.ntmps61
 go_wp2_with fail
 go_loopw [3] (fun i wr=>∃ (k:Nat) (V':Nat→Value) (G':Nat→Prop),k≤N∧i=.int .i64 k∧Hid (RfAt wr G' b gs cs V' (s.half k))∧Hid (Upd G G' w wr)) (fun i _=>N - (intOf i).toNat)
 case atStart=>exact ⟨0,V,G,Nat.zero_le _,rfl,HH.out,Lib.hid (Upd.of_gr (Gr.refl _))⟩
 case round=>
  obtain ⟨k,V',G',hk,rfl,hd,hu⟩:=hrel
  have hl:(s.half k).ls.length=N:=by rw [half_len,HN.out]
  have hc:=hd.out.cells.1
  rw [hl] at hc
  by_cases hlt:k < N
  ·
   have hk65:(k:Int) < 65536:=by omega
   have HDr:=hd;have HUr:=hu;have HX:Hid ((s.half k).nw k=s.nw k):=Lib.hid (half_nw (by rw [← HN.out];exact hlt));have HLk:Hid (k < (s.half k).ls.length):=Lib.hid (by rw [hl];exact hlt);have HLn:=Lib.hid hl;clear hl hd hu;go_wp2_with fail;clear hc
   have HCell:Hid (∀ W,Gr wr W→W.cell? ⟨b,0,none⟩=some (.slice (some ⟨gs,0,none⟩) N cs)):=Lib.hid fun W h=>by
    have:=(HDr.out.gr h).cells.1
    rwa [HLn.out] at this
   have HRd:Hid (∀ W,Gr wr W→Calls Tryz.prog 43 #[.pointer (some ⟨b,0,none⟩),.int .i64 (k:Int)] W fun e w'=>e=.returned (.agg (sec (s.nw k)))∧Gr W w'):=Lib.hid fun W h=>by
    have:=refRead_any W ⟨_,_,_,_,rfl,HDr.out.gr h⟩ k HLk.out
    rwa [HX.out] at this
   have HOc:Hid (∀ W,Gr wr W→W.cell? ⟨gs,k,none⟩=some (V' k)∧W.frozen? ⟨gs,k,none⟩=false):=Lib.hid fun W h=>⟨(HDr.out.gr h).outer.cell k HLk.out,(HDr.out.gr h).outer.frozen k⟩
   obtain ⟨x,hx⟩:∃ x,x=s.nw k:=⟨_,rfl⟩
   rw [← hx] at HRd
   have HXx:=Lib.hid hx;clear hx;refine Flow.regionZ 10 10 (by kernel_rfl) [] 12 (Sqb wr.heap.size b gs cs N k x) (Gr wr) (Fqb wr gs k x) (fun _=>True) (Gqb 10) (by kernel_rfl) (by kernel_rfl) (by kernel_rfl) ?mono ⟨rfl,rfl,rfl,Nat.le_refl _,fun _ _=>rfl⟩ True.intro ?steps ?fin
   case mono=>
    intro i d v w w' hb hs hg
    by_cases h10:i=10
    ·
     subst h10;have:=Flow.bears2_only [] (by kernel_rfl) hb
     cases this
    ·
     have e1:(i == 10)=false:=by simpa using h10
     unfold Gqb at hg
     rw [e1] at hg
     exact Sqb.kept d v w w' hs hg
   case fin=>
    intro a W hfr hfin hsl
    clear hsl;have e:=Flow.frame hfr [17,18,19,20,21,22,23,24,25,26] (List.range 27) (by kernel_rfl) (by kernel_rfl)
    simp [List.range,List.range.loop] at e
    rw [e];clear e hfr;obtain ⟨w1,q,hg1,hr1,hq,rfl⟩:=hfin
    have hlk:k < s.ls.length:=by rw [← HN.out];exact hlt
    have HD3:=Lib.hid ((HDr.out.gr hg1).put (s':=s.half (k+1)) k HLk.out (by rw [half_at hlk,if_pos (by omega),← HXx.out];exact hr1) (by rw [half_len,half_len]) (fun j hj hne=>half_succ (by rw [half_len] at hj;exact hj) hne) rfl rfl rfl);have HU3:=Lib.hid (HUr.out.trans (upd_put hg1 (i:=k) HDr.out.ownS (v:=.slice (some ⟨q,0,none⟩) 1 1) (fun g hg=>by cases hg;exact hq)));clear hg1 hr1 hq HCell HRd HOc HXx HX HLk HLn HDr HUr hlk
    rename_i K2 hK2
    refine hK2 _ _ ?_
    go_wp2
    go_roundw
    case rel=>exact ⟨k+1,_,_,by omega,by go_num,HD3,HU3⟩
    case measure=>simp [intOf];omega
   case steps=>
    refine .cons (fun a W hfr hinv hear hdep K hK=>?_) ?_
    · have t0:=tAt (.pointer (some ⟨b,0,none⟩)) (hfr.at 0 (by kernel_rfl));refine fW0 rfl ?_;clear hfr hdep hear;go_simp;exact hK _ _ (show Gr W W from Gr.refl W) hinv (fun _=>True.intro) (dsT rfl)
    refine .cons (fun a W hfr hinv hear hdep K hK=>?_) ?_
    · have t17:=tAt (.pointer (some ⟨b,0,none⟩)) (hdep 17 (by kernel_rfl));refine fW0 rfl ?_;clear hfr hdep hear;go_simp;exact hK _ _ (show Gr W W from Gr.refl W) hinv (fun _=>True.intro) (dsT rfl)
    refine .cons (fun a W hfr hinv hear hdep K hK=>?_) ?_
    · have t18:=tAt (.pointer (some ⟨b,0,none⟩)) (hdep 18 (by kernel_rfl));refine fW0 rfl ?_;clear hfr hdep hear;go_simp;exact hK _ _ (show Gr W W from Gr.refl W) hinv (fun _=>True.intro) (dsT rfl)
    refine .cons (fun a W hfr hinv hear hdep K hK=>?_) ?_
    · have t19:=tAt (.pointer (some ⟨b,0,none⟩)) (hdep 19 (by kernel_rfl));have hc:=HCell.out W hinv;refine fW0 rfl ?_;clear hfr hdep hear;go_simp;exact hK _ _ (show Gr W W from Gr.refl W) hinv (fun _=>True.intro) (dsT rfl)
    refine .cons (fun a W hfr hinv hear hdep K hK=>?_) ?_
    · have t3:=tAt (.int .i64 (k:Int)) (hfr.at 3 (by kernel_rfl));refine fW0 rfl ?_;clear hfr hdep hear;go_simp;exact hK _ _ (show Gr W W from Gr.refl W) hinv (fun _=>True.intro) (dsT rfl)
    refine .cons (fun a W hfr hinv hear hdep K hK=>?_) ?_
    · have t0:=tAt (.pointer (some ⟨b,0,none⟩)) (hfr.at 0 (by kernel_rfl));refine fW0 rfl ?_;clear hfr hdep hear;go_simp;exact hK _ _ (show Gr W W from Gr.refl W) hinv (fun _=>True.intro) (dsT rfl)
    refine .cons (fun a W hfr hinv hear hdep K hK=>?_) ?_
    · have t3:=tAt (.int .i64 (k:Int)) (hfr.at 3 (by kernel_rfl));refine fW0 rfl ?_;clear hfr hdep hear;go_simp;exact hK _ _ (show Gr W W from Gr.refl W) hinv (fun _=>True.intro) (dsT rfl)
    refine .cons (fun a W hfr hinv hear hdep K hK=>?_) ?_
    · have t22:=tAt (.pointer (some ⟨b,0,none⟩)) (hdep 22 (by kernel_rfl));have t23:=tAt (.int .i64 (k:Int)) (hdep 23 (by kernel_rfl));refine fW0 rfl ?_;clear hfr hdep;go_simp;refine (HRd.out W hinv).mono ?_;rintro e W' ⟨rfl,g1⟩;exact hK _ _ g1 (Gr.trans hinv g1) (fun _=>True.intro) (dsT rfl)
    refine .cons (fun a W hfr hinv hear hdep K hK=>?_) ?_
    · have t24:=tAt (.agg (sec x)) (hdep 24 (by kernel_rfl));refine fW0 rfl ?_;clear hfr hdep;refine wp_buildSecs 1 #[(0,.tmp 24)] rfl [x] rfl (by omega) (by omega) (by simp [Act.eval,t24,partsOf,partsL,sec]) ?_;exact hK _ _ (show Gr W (W.alloc _) from Gr.new W _) (Gr.trans hinv (Gr.new W _)) (fun _=>True.intro) (fun d hd=>by cases hd;exact ⟨_,rfl,Row.lit W [x] 1 rfl (by omega),hinv.size⟩)
    refine .cons (fun a W hfr hinv hear hdep K hK=>?_) ?_
    · have t20:=tAt (.slice (some ⟨gs,0,none⟩) N cs) (hdep 20 (by kernel_rfl));have t21:=tAt (.int .i64 (k:Int)) (hdep 21 (by kernel_rfl));refine fW0 rfl ?_;clear hfr hdep hear;go_simp;exact hK _ _ (show Gr W W from Gr.refl W) hinv (fun _=>True.intro) (dsT rfl)
    refine .cons (fun a W hfr hinv hear hdep K hK=>?_) ?_
    · have t26:=tAt (.pointer (some ⟨gs,k,none⟩)) (hdep 26 (by kernel_rfl));have s25:(∃ q,(a.tmps.getD 25 undef)=.slice (some ⟨q,0,none⟩) 1 1∧Row W (.slice (some ⟨q,0,none⟩) 1 1) [x]∧wr.heap.size≤q):=hdep 25 (by kernel_rfl);refine fW0 rfl ?_;clear hfr hdep;obtain ⟨q,e25,r25,l25⟩:=s25;have t25:=tmpAt e25;obtain ⟨hoc,hof⟩:=HOc.out W hinv;go_simp;exact hK undef _ True.intro ⟨W,q,hinv,r25,l25,rfl⟩ True.intro (fun d hd=>by cases hd)
    exact True.intro
  ·
   obtain rfl:k=N:=by omega
   have HF:Hid (RfAt wr G' b gs cs V' s.barrier):=Lib.hid (hd.out.ext (by simp [St.barrier,half_len]) (fun j hj=>by rw [half_len] at hj;rw [HN.out];exact half_end hj) rfl rfl rfl);have HU:=hu;clear hd hl hu
   go_wp2
   go_ret
   exact ⟨_,rfl,⟨_,_,_,_,rfl,HF.out⟩,HU.out⟩
end Go.Proofs.YtlijbgapkmfnaaaGreat
namespace Go.Proofs.YtlijbgapkmfnaaaGreat
open Go.RowKit Go.Maps
theorem Gr.own {a b c:World} (h:Gr a b) {r:Option Nat} (g:b.grownBy c r) (hq:∀ q,r=some q→a.heap.size≤q):Gr a c:=
 ⟨g.os.trans h.os,g.tape.trans h.tape,g.output.trans h.output,Nat.le_trans h.size g.size,fun k hk=>(g.block k (Nat.lt_of_lt_of_le hk h.size) (fun e=>by have:=hq k e.symm;omega)).trans (h.block k hk)⟩
theorem nrm_zero {z:Int}:(nrm z == 0)=(z == 0):=by
 unfold nrm
 by_cases h:z < 0
 ·
  rw [if_pos h]
  have:¬ z=0:=by omega
  simp [this]
 · rw [if_neg h]
theorem nrm_pos {z:Int} (h:0 < z):nrm z=z:=by unfold nrm;rw [if_neg (by omega)]
theorem nrm_le {z:Int} (h:¬ 0 < z):¬ 0 < nrm z:=by unfold nrm;split <;> omega
def Sv (n0 b gs cs N i gu cu:Nat) (x:Sec) (ss:List Sec) (d:Nat) (v:Value) (w:World):Prop:=
 match d with
 | 38 | 39 | 40 | 43 | 44 | 45=>v=.pointer (some ⟨b,0,none⟩)
 | 41 | 46=>v=.slice (some ⟨gs,0,none⟩) N cs
 | 42 | 47=>v=.int .i64 (i:Int)
 | 48 | 54=>v=.pointer (some ⟨gs,i,none⟩)
 | 49=>v=.slice (some ⟨gu,0,none⟩) ss.length cu
 | 50=>Row w v ss∧∀ q,v.ownBlock=some q→n0≤q
 | 51=>v=.agg (sec x)
 | 52=>∃ q,v=.slice (some ⟨q,0,none⟩) 1 1∧Row w (.slice (some ⟨q,0,none⟩) 1 1) [x]
 | 53=>Row w v (ss++[x])∧∀ q,v.ownBlock=some q→n0≤q
 | _=>True
def Gv (i:Nat) (w w':World):Prop:=cond (i == 15 || i == 17) True (Gr w w')
theorem Sv.kept {n0 b gs cs N i gu cu:Nat} {x:Sec} {ss:List Sec} (d:Nat) (v:Value) (w w':World) (h:Sv n0 b gs cs N i gu cu x ss d v w) (g:Gr w w'):Sv n0 b gs cs N i gu cu x ss d v w':=by
 unfold Sv at h ⊢
 split <;> simp only at h
 all_goals first
  | exact h
  | exact ⟨Row.gr h.1 g,h.2⟩
  | exact (let ⟨q,h1,h2⟩:=h;⟨q,h1,Row.gr h2 g⟩)
theorem Sv.any {n0 b gs cs N i gu cu:Nat} {x:Sec} {ss:List Sec} (d:Nat) (hd:d ∈ [38,39,40,41,42,54]) (v:Value) (w w':World) (h:Sv n0 b gs cs N i gu cu x ss d v w):Sv n0 b gs cs N i gu cu x ss d v w':=by
 simp only [List.mem_cons,List.not_mem_nil,or_false] at hd
 rcases hd with rfl | rfl | rfl | rfl | rfl | rfl <;> exact h
def Fv (W0:World) (gs i:Nat) (ts:List Sec) (w:World):Prop:=∃ w1 q n c,Gr W0 w1∧Row w1 (.slice (some ⟨q,0,none⟩) n c) ts∧W0.heap.size≤q∧w=w1.setCell ⟨gs,i,none⟩ (.slice (some ⟨q,0,none⟩) n c)
set_option maxRecDepth 100000 in
set_option maxHeartbeats 1000000 in
theorem refWrite_dead {G:Nat→Prop} {r:Value} {s:St} (w:World) (h:Rf w G r s) (i:Nat) (x:Sec) (hr:s.refuses):Calls Tryz.prog 14 #[r,.int .i64 (i:Int),.agg (sec x)] w fun e w'=>ChgR G r { s with dead:=true } (.bool false) w e w':=by
 obtain ⟨b,gs,cs,V,rfl,h⟩:=h;have hg:Gr w (w.alloc (.cells (sec x) TS)):=(Gr.refl w).alloc (Nat.le_refl _) _;have h':=h.gr hg;obtain ⟨h0,h1,h2,h3⟩:=h'.cells;have hf:=h'.blk.frozen 2;have HB:=Lib.hid (h'.blk.set 2 (.bool true));have HU:=Lib.hid (Upd.trans (Upd.of_gr (F:=G) hg) (upd_cell (w:=w.alloc (.cells (sec x) TS)) (i:=2) h.ownB (.bool true)));have HU0:=Lib.hid (Upd.of_gr (F:=G) hg);have HD:Hid (RfAt ((w.alloc (.cells (sec x) TS)).setCell ⟨b,2,none⟩ (.bool true)) G b gs cs V { s with dead:=true }):=Lib.hid (h'.block (s':={ s with dead:=true }) rfl rfl h.lo h.hi (by simpa using HB.out) (fun k _ hk=>Below.heap_setCell _ _ _ k hk) (by simp [World.setCell]))
 by_cases hz:s.fuse=0
 ·
  have hz2:(nrm s.fuse == 0)=true:=by rw [nrm_zero,hz];rfl
  obtain ⟨f,hff⟩:∃ f,f=nrm s.fuse:=⟨_,rfl⟩
  rw [← hff] at h1 hz2
  have hf0:f=0:=by simpa using hz2
  subst hf0;clear h h' HB hr h0 h3 HU0 hz hff hz2
  go_enter Tryz.func14,Tryz.ntmps14
  go_wp2_with fail
  go_ret
  exact ⟨_,rfl,⟨_,_,_,_,rfl,HD.out⟩,HU.out⟩
 ·
  have hd:s.dead=true:=by
                 rcases hr with h | h
                 · exact absurd h hz
                 · exact h
  have hs:{ s with dead:=true }=s:=by cases s;simp at hd;simp [hd]
  have HD0:Hid (RfAt (w.alloc (.cells (sec x) TS)) G b gs cs V { s with dead:=true }):=Lib.hid (by rw [hs];exact h')
  rw [hd] at h2
  have hz2:(nrm s.fuse == 0)=false:=by rw [nrm_zero];simpa using hz
  obtain ⟨f,hff⟩:∃ f,f=nrm s.fuse:=⟨_,rfl⟩
  rw [← hff] at h1 hz2
  clear h h' HB hr h0 h3 HU hz hs HD hd hff
  go_enter Tryz.func14,Tryz.ntmps14
  go_wp2_with fail
  go_ret
  exact ⟨_,rfl,⟨_,_,_,_,rfl,HD0.out⟩,HU0.out⟩
def Mr (w wx:World) (G:Nat→Prop) (b gs cs:Nat) (V:Nat→Value) (s:St) (x:Sec):Prop:=
 RfAt wx G b gs cs V { s with fuse:=if 0 < s.fuse then s.fuse - 1 else s.fuse }∧Blk wx w.heap.size TS (sec x)∧Upd G G w wx∧w.heap.size < wx.heap.size
set_option maxRecDepth 100000 in
set_option maxHeartbeats 4000000 in
theorem refWrite_yes {G:Nat→Prop} {r:Value} {s:St} (w:World) (h:Rf w G r s) (i:Nat) (hi:i < s.ls.length) (x:Sec) (hr:¬ s.refuses) (hw:s.writes≤1000000000) (hl:(s.t i).length≤1000000000):Calls Tryz.prog 14 #[r,.int .i64 (i:Int),.agg (sec x)] w fun e w'=>ChgR G r (s.wrote i x) (.bool true) w e w':=by
 obtain ⟨b,gs,cs,V,rfl,h⟩:=h
 have hz:s.fuse≠0:=fun e=>hr (.inl e)
 have hd:s.dead=false:=by
  cases hq:s.dead with
  | false=>rfl
  | true=>exact absurd (.inr hq) hr
 have hg:Gr w (w.alloc (.cells (sec x) TS)):=(Gr.refl w).alloc (Nat.le_refl _) _;have h':=h.gr hg;obtain ⟨h0,h1,h2,h3⟩:=h'.cells;have hf:=h'.blk.frozen 1
 rw [hd] at h2
 have hz2:(nrm s.fuse == 0)=false:=by rw [nrm_zero];simpa using hz
 have HX0:=Lib.hid (Blk.new w TS (sec x));have HLow:Hid (¬ G w.heap.size):=Lib.hid (fun e=>by have:=h.low _ e;omega);have HU0:=Lib.hid (Upd.of_gr (F:=G) hg);have HD:Hid (RfAt (w.alloc (.cells (sec x) TS)) G b gs cs V s):=Lib.hid h';have HWr:Hid (s.writes≤1000000000):=Lib.hid hw;have HIl:Hid (i < s.ls.length):=Lib.hid hi;have HTl:Hid ((s.t i).length≤1000000000):=Lib.hid hl;have HB:=Lib.hid (h'.blk.set 1 (.int .i64 (s.fuse - 1)));have hlo:=h.lo;have hhi:=h.hi
 have HD2:Hid (0 < s.fuse→RfAt ((w.alloc (.cells (sec x) TS)).setCell ⟨b,1,none⟩ (.int .i64 (s.fuse - 1))) G b gs cs V { s with fuse:=s.fuse - 1 }):=Lib.hid fun hp=>
  h'.block (s':={ s with fuse:=s.fuse - 1 }) rfl rfl (by show -9223372036854775808≤s.fuse - 1;omega) (by show s.fuse - 1≤9223372036854775807;omega) (by
   have e:nrm (s.fuse - 1)=s.fuse - 1:=by unfold nrm;rw [if_neg (by omega)]
   show Blk _ b TRf #[_,.int .i64 (nrm (s.fuse - 1)),_,_]
   rw [e]
   simpa using HB.out) (fun k _ hk=>Below.heap_setCell _ _ _ k hk) (by simp [World.setCell])
 have HU2:=Lib.hid (Upd.trans (Upd.of_gr (F:=G) hg) (upd_cell (w:=w.alloc (.cells (sec x) TS)) (i:=1) h.ownB (.int .i64 (s.fuse - 1))))
 have hnb:w.heap.size≠b:=fun e=>HLow.out (by rw [e];exact h.ownB)
 have HX2:Hid (Blk ((w.alloc (.cells (sec x) TS)).setCell ⟨b,1,none⟩ (.int .i64 (s.fuse - 1))) w.heap.size TS (sec x)):=Lib.hid (HX0.out.far (by simpa using hnb) _);have HBx:Hid (w.heap.size < (w.alloc (.cells (sec x) TS)).heap.size):=Lib.hid (by simp);clear h h' hi hr h0 h3 hd hw HB hz hg hnb hl
 go_enter Tryz.func14,Tryz.ntmps14
 go_upto_if 23 with fail
 go_cut [24] (fun s24 wx=>Mr w wx G b gs cs V s x)
 case first=>
  by_cases hp:0 < s.fuse
  ·
   rw [nrm_pos hp] at h1
   rw [nrm_pos hp]
   go_wp2
   go_meet
   exact ⟨by rw [if_pos hp];exact HD2.out hp,HX2.out,HU2.out,by simp [World.setCell]⟩
  ·
   have hp2:=nrm_le hp
   go_wp2
   go_meet
   exact ⟨by rw [if_neg (by omega)];exact HD.out,HX0.out,HU0.out,HBx.out⟩
 case rest=>
  obtain ⟨w0,hw0⟩:∃ w0,w0=w:=⟨_,rfl⟩;subst hw0;clear HX0 HU0 HD HU2 HX2 HBx HD2 h1 h2 hf hz2 hlo hhi;obtain ⟨hd,hx,hu,hlt⟩:=hcut;obtain ⟨f',hff⟩:∃ f',f'=(if 0 < s.fuse then s.fuse - 1 else s.fuse):=⟨_,rfl⟩;have HFin:Hid (s.wrote i x={ ls:=s.ls,t:=(fun j=>if j=i then s.t i++[x] else s.t j),fuse:=f',dead:=s.dead,writes:=s.writes+1 }):=Lib.hid (by unfold St.wrote;rw [hff])
  rw [← hff] at hd
  clear hff;have hc3:=hd.cells.2.2.2;have hf3:=hd.blk.frozen 3;have HB3:=Lib.hid (hd.blk.set 3 (.int .i64 ((s.writes+1:Nat):Int)));obtain ⟨wd,hwd⟩:∃ wd,wd=wc.setCell ⟨b,3,none⟩ (.int .i64 ((s.writes+1:Nat):Int)):=⟨_,rfl⟩
  have hd2:RfAt wd G b gs cs V { ls:=s.ls,t:=s.t,fuse:=f',dead:=s.dead,writes:=s.writes+1 }:=by
   rw [hwd];exact hd.block (s':={ ls:=s.ls,t:=s.t,fuse:=f',dead:=s.dead,writes:=s.writes+1 }) rfl rfl hd.lo hd.hi (by simpa using HB3.out) (fun k _ hk=>Below.heap_setCell _ _ _ k hk) (by simp [World.setCell])
  have HU3:Hid (Upd G G w0 wd):=Lib.hid (by rw [hwd];exact hu.trans (upd_cell (i:=3) hd.ownB _))
  have hnb:w0.heap.size≠b:=fun e=>HLow.out (by rw [e];exact hd.ownB)
  have hxd:Blk wd w0.heap.size TS (sec x):=by rw [hwd];exact hx.far (by simpa using hnb) _
  have HDd:=Lib.hid hd2;obtain ⟨gu,cu,hv,_,hc1,hc2⟩:=(hd2.rows i HIl.out).full (at_ne _ i)
  obtain ⟨ss,hss⟩:∃ ss,ss=s.at i:=⟨_,rfl⟩
  have hse:(St.at { ls:=s.ls,t:=s.t,fuse:=f',dead:=s.dead,writes:=s.writes+1 } i)=ss:=hss.symm
  rw [hse] at hv
  have hrow:Row wd (.slice (some ⟨gu,0,none⟩) ss.length cu) ss:=by
   have:=hd2.rows i HIl.out
   rwa [hse,hv] at this
  obtain ⟨N,hN⟩:∃ N,N=s.ls.length:=⟨_,rfl⟩
  have hiN:i < N:=by rw [hN];exact HIl.out
  have hi65:(i:Int) < 65536:=by have:=hd2.most;have h2:s.ls.length≤65536:=this;omega
  have HA:Hid (∀ W,Gr wd W→W.cell? ⟨b,0,none⟩=some (.slice (some ⟨gs,0,none⟩) N cs)):=Lib.hid fun W e=>by rw [hN];exact (hd2.gr e).cells.1
  have HV:Hid (∀ W,Gr wd W→W.cell? ⟨gs,i,none⟩=some (.slice (some ⟨gu,0,none⟩) ss.length cu)):=Lib.hid fun W e=>by rw [← hv];exact (hd2.gr e).outer.cell i HIl.out
  have HFz:Hid (∀ W,Gr wd W→W.frozen? ⟨gs,i,none⟩=false):=Lib.hid fun W e=>(hd2.gr e).outer.frozen i
  have HR:Hid (∀ W,Gr wd W→Row W (.slice (some ⟨gu,0,none⟩) ss.length cu) ss):=Lib.hid fun W e=>hrow.gr e
  have HX:Hid (∀ W,Gr wd W→W.rangeAt w0.heap.size 0 x.cells):=Lib.hid fun W e=>(hxd.gr e).one
  have HL:Hid (ss.length+1≤500000000000):=Lib.hid (by rw [hss,at_len];have:=HTl.out;omega)
  have hwr:(s.writes:Int)≤1000000000:=by have:=HWr.out;omega
  have hssl:0 < ss.length:=by rw [hss,at_len];omega
  have HSs:=Lib.hid hss;clear hd hx hu hlt hd2 hnb hxd hv hc1 hc2 hss hse hrow hN HB3 HWr HTl;go_wp2_with fail;rw [show (((s.writes:Nat):Int)+1)=((s.writes+1:Nat):Int) by omega,← hwd];clear hwd hc3 hf3 hwr;refine Flow.regionZ 17 17 (by kernel_rfl) [] 20 (Sv wd.heap.size b gs cs N i gu cu x ss) (Gr wd) (Fv wd gs i (ss++[x])) (fun _=>True) Gv (by kernel_rfl) (by kernel_rfl) (by kernel_rfl) ?mono ⟨rfl,rfl,rfl,Nat.le_refl _,fun _ _=>rfl⟩ True.intro ?steps ?fin
  case mono=>
   intro i d v w w' hb hs hg
   by_cases h15:i=15
   · subst h15;exact Sv.any d (Flow.bears2_only [38,39,40,41,42,54] (by kernel_rfl) hb) v w w' hs
   ·
    by_cases h17:i=17
    ·
     subst h17;have:=Flow.bears2_only [] (by kernel_rfl) hb
     cases this
    ·
     have e1:(i == 15 || i == 17)=false:=by simp [h15,h17]
     unfold Gv at hg
     rw [e1] at hg
     exact Sv.kept d v w w' hs hg
  case fin=>
   intro a W hfr hfin hsl
   clear hsl;have e:=Flow.frame hfr [38,39,40,41,42,43,44,45,46,47,48,49,50,51,52,53,54] (List.range 55) (by kernel_rfl) (by kernel_rfl)
   simp [List.range,List.range.loop] at e
   rw [e];clear e hfr;obtain ⟨w1,q,n,c,hg1,hr1,hq,rfl⟩:=hfin;have hil:=HIl.out
   have HD3:Hid (RfAt _ _ b gs cs _ (s.wrote i x)):=Lib.hid (((HDd.out.gr hg1).put (s':=s.wrote i x) i hil (by
    have:(s.wrote i x).at i=ss++[x]:=by rw [HSs.out];unfold St.at St.wrote;simp
    rw [this];exact hr1) rfl (fun j hj hne=>by unfold St.at St.wrote;simp [hne]) (by rw [HFin.out]) (by rw [HFin.out]) (by rw [HFin.out])))
   have HU4:=Lib.hid (HU3.out.trans (upd_put hg1 (i:=i) HDd.out.ownS (v:=.slice (some ⟨q,0,none⟩) n c) (fun g hg=>by cases hg;exact hq)));clear hg1 hr1 hq HA HV HFz HR HX HL HSs HDd HU3 HFin hil
   rename_i K hK
   refine hK _ _ ?_
   go_wp2
   go_ret
   exact ⟨_,rfl,⟨_,_,_,_,rfl,HD3.out⟩,HU4.out⟩
  case steps=>
   refine .cons (fun a W hfr hinv hear hdep K hK=>?_) ?_
   · have t0:=tAt (.pointer (some ⟨b,0,none⟩)) (hfr.at 0 (by kernel_rfl));refine fW0 rfl ?_;clear hfr hdep hear;go_simp;exact hK _ _ (show Gr W W from Gr.refl W) hinv (fun _=>True.intro) (dsT rfl)
   refine .cons (fun a W hfr hinv hear hdep K hK=>?_) ?_
   · have t38:=tAt (.pointer (some ⟨b,0,none⟩)) (hdep 38 (by kernel_rfl));refine fW0 rfl ?_;clear hfr hdep hear;go_simp;exact hK _ _ (show Gr W W from Gr.refl W) hinv (fun _=>True.intro) (dsT rfl)
   refine .cons (fun a W hfr hinv hear hdep K hK=>?_) ?_
   · have t39:=tAt (.pointer (some ⟨b,0,none⟩)) (hdep 39 (by kernel_rfl));refine fW0 rfl ?_;clear hfr hdep hear;go_simp;exact hK _ _ (show Gr W W from Gr.refl W) hinv (fun _=>True.intro) (dsT rfl)
   refine .cons (fun a W hfr hinv hear hdep K hK=>?_) ?_
   · have t40:=tAt (.pointer (some ⟨b,0,none⟩)) (hdep 40 (by kernel_rfl));have hc:=HA.out W hinv;refine fW0 rfl ?_;clear hfr hdep hear;go_simp;exact hK _ _ (show Gr W W from Gr.refl W) hinv (fun _=>True.intro) (dsT rfl)
   refine .cons (fun a W hfr hinv hear hdep K hK=>?_) ?_
   · have t1:=tAt (.int .i64 (i:Int)) (hfr.at 1 (by kernel_rfl));refine fW0 rfl ?_;clear hfr hdep hear;go_simp;exact hK _ _ (show Gr W W from Gr.refl W) hinv (fun _=>True.intro) (dsT rfl)
   refine .cons (fun a W hfr hinv hear hdep K hK=>?_) ?_
   · have t0:=tAt (.pointer (some ⟨b,0,none⟩)) (hfr.at 0 (by kernel_rfl));refine fW0 rfl ?_;clear hfr hdep hear;go_simp;exact hK _ _ (show Gr W W from Gr.refl W) hinv (fun _=>True.intro) (dsT rfl)
   refine .cons (fun a W hfr hinv hear hdep K hK=>?_) ?_
   · have t43:=tAt (.pointer (some ⟨b,0,none⟩)) (hdep 43 (by kernel_rfl));refine fW0 rfl ?_;clear hfr hdep hear;go_simp;exact hK _ _ (show Gr W W from Gr.refl W) hinv (fun _=>True.intro) (dsT rfl)
   refine .cons (fun a W hfr hinv hear hdep K hK=>?_) ?_
   · have t44:=tAt (.pointer (some ⟨b,0,none⟩)) (hdep 44 (by kernel_rfl));refine fW0 rfl ?_;clear hfr hdep hear;go_simp;exact hK _ _ (show Gr W W from Gr.refl W) hinv (fun _=>True.intro) (dsT rfl)
   refine .cons (fun a W hfr hinv hear hdep K hK=>?_) ?_
   · have t45:=tAt (.pointer (some ⟨b,0,none⟩)) (hdep 45 (by kernel_rfl));have hc:=HA.out W hinv;refine fW0 rfl ?_;clear hfr hdep hear;go_simp;exact hK _ _ (show Gr W W from Gr.refl W) hinv (fun _=>True.intro) (dsT rfl)
   refine .cons (fun a W hfr hinv hear hdep K hK=>?_) ?_
   · have t1:=tAt (.int .i64 (i:Int)) (hfr.at 1 (by kernel_rfl));refine fW0 rfl ?_;clear hfr hdep hear;go_simp;exact hK _ _ (show Gr W W from Gr.refl W) hinv (fun _=>True.intro) (dsT rfl)
   refine .cons (fun a W hfr hinv hear hdep K hK=>?_) ?_
   · have t46:=tAt (.slice (some ⟨gs,0,none⟩) N cs) (hdep 46 (by kernel_rfl));have t47:=tAt (.int .i64 (i:Int)) (hdep 47 (by kernel_rfl));refine fW0 rfl ?_;clear hfr hdep hear;go_simp;exact hK _ _ (show Gr W W from Gr.refl W) hinv (fun _=>True.intro) (dsT rfl)
   refine .cons (fun a W hfr hinv hear hdep K hK=>?_) ?_
   · have t48:=tAt (.pointer (some ⟨gs,i,none⟩)) (hdep 48 (by kernel_rfl));have hc:=HV.out W hinv;refine fW0 rfl ?_;clear hfr hdep hear;go_simp;exact hK _ _ (show Gr W W from Gr.refl W) hinv (fun _=>True.intro) (dsT rfl)
   refine .cons (fun a W hfr hinv hear hdep K hK=>?_) ?_
   ·
    have s49:a.tmps.getD 49 undef=.slice (some ⟨gu,0,none⟩) ss.length cu:=hdep 49 (by kernel_rfl);have t49:=tmpAt s49;refine fW0 rfl ?_;clear hfr hdep;refine app_sec (.const (.slice none 0 0)) (.tmp 49) rfl rfl (Row.empty W) (by simpa [Act.eval] using s49) (HR.out W hinv) rfl (by have:=HL.out;simp;omega) ?_
    intro v' w' h1 h2 h3
    have hg2:Gr W w':=(Gr.refl W).own h2 (fun q e=>by cases e)
    have hq2:∀ q,v'.ownBlock=some q→wd.heap.size≤q:=fun q hq=>h3.elim (fun h=>by rw [hq] at h;cases h) (fun h=>by rw [hq] at h;cases h;exact hinv.size)
    exact hK _ _ (show Gr W w' from hg2) (Gr.trans hinv hg2) (fun _=>True.intro) (fun d hd=>by cases hd;exact ⟨h1,hq2⟩)
   refine .cons (fun a W hfr hinv hear hdep K hK=>?_) ?_
   ·
    have s5:a.tmps.getD 5 undef=.pointer (some ⟨w0.heap.size,0,none⟩):=hfr.at 5 (by kernel_rfl)
    have t5:=tmpAt s5;refine fW0 rfl ?_;clear hfr hdep;refine wp_load_sec (.tmp 5) rfl (HX.out W hinv) (by simpa [Act.eval] using s5) ?_;exact hK _ _ (show Gr W W from Gr.refl W) hinv (fun _=>True.intro) (dsT rfl)
   refine .cons (fun a W hfr hinv hear hdep K hK=>?_) ?_
   · have t51:=tAt (.agg (sec x)) (hdep 51 (by kernel_rfl));refine fW0 rfl ?_;clear hfr hdep;refine wp_buildSecs 1 #[(0,.tmp 51)] rfl [x] rfl (by omega) (by omega) (by simp [Act.eval,t51,partsOf,partsL,sec]) ?_;exact hK _ _ (show Gr W (W.alloc _) from Gr.new W _) (Gr.trans hinv (Gr.new W _)) (fun _=>True.intro) (fun d hd=>by cases hd;exact ⟨_,rfl,Row.lit W [x] 1 rfl (by omega)⟩)
   refine .cons (fun a W hfr hinv hear hdep K hK=>?_) ?_
   ·
    have s50:(Row W (a.tmps.getD 50 undef) ss∧∀ q,(a.tmps.getD 50 undef).ownBlock=some q→wd.heap.size≤q):=hdep 50 (by kernel_rfl);have s52:(∃ q,(a.tmps.getD 52 undef)=.slice (some ⟨q,0,none⟩) 1 1∧Row W (.slice (some ⟨q,0,none⟩) 1 1) [x]):=hdep 52 (by kernel_rfl);refine fW0 rfl ?_;clear hfr hdep;obtain ⟨r50,l50⟩:=s50;obtain ⟨q,e52,r52⟩:=s52;refine app_sec (.tmp 50) (.tmp 52) rfl (by simp [Act.eval]) r50 (by simpa [Act.eval] using e52) r52 rfl HL.out ?_
    intro v' w' h1 h2 h3
    have hq2:∀ q,v'.ownBlock=some q→wd.heap.size≤q:=fun q hq=>h3.elim (fun h=>l50 q (h.symm.trans hq)) (fun h=>by rw [hq] at h;cases h;exact hinv.size)
    exact hK _ _ True.intro (hinv.own h2 l50) (fun _=>True.intro) (fun d hd=>by cases hd;exact ⟨h1,hq2⟩)
   refine .cons (fun a W hfr hinv hear hdep K hK=>?_) ?_
   · have t41:=tAt (.slice (some ⟨gs,0,none⟩) N cs) (hdep 41 (by kernel_rfl));have t42:=tAt (.int .i64 (i:Int)) (hdep 42 (by kernel_rfl));refine fW0 rfl ?_;clear hfr hdep hear;go_simp;exact hK _ _ (show Gr W W from Gr.refl W) hinv (fun _=>True.intro) (dsT rfl)
   refine .cons (fun a W hfr hinv hear hdep K hK=>?_) ?_
   ·
    have t54:=tAt (.pointer (some ⟨gs,i,none⟩)) (hdep 54 (by kernel_rfl));have s53:(Row W (a.tmps.getD 53 undef) (ss++[x])∧∀ q,(a.tmps.getD 53 undef).ownBlock=some q→wd.heap.size≤q):=hdep 53 (by kernel_rfl);refine fW0 rfl ?_;clear hfr hdep;obtain ⟨r53,l53⟩:=s53;obtain ⟨g,c,e53,hgl,hcl,hcm⟩:=r53.full (by simp)
    rw [e53] at r53 l53
    have t53:=tmpAt e53;have hoc:=HV.out W hinv;have hof:=HFz.out W hinv;obtain ⟨n,hn⟩:∃ n,n=(ss++[x]).length:=⟨_,rfl⟩
    rw [← hn] at r53 l53 t53
    clear hn e53 hcl;go_simp;exact hK undef _ True.intro ⟨W,g,n,c,hinv,r53,l53 g rfl,rfl⟩ True.intro (fun d hd=>by cases hd)
   exact True.intro
end Go.Proofs.YtlijbgapkmfnaaaGreat
namespace Go.Proofs.YtlijbgapkmfnaaaGreat
open Go.RowKit Go.Maps
abbrev TLL:TypeId:=83
theorem info_row:(Tryz.prog.info? TL).map (fun i=>(i.zero,i.size,i.bytes))=some (some (.slice none 0 0),1,24):=by kernel_rfl
theorem app_row {w:World} {v:Value} {k:Nat} {xs:List Value} {o:Oper} {a:Act} {K:Act→World→Prop} {Q:Exit→Act→World→Prop} (s x:Operand) (ho:o.op=.call { callee:=.builtin .append,args:=#[s,x],argTypes:=#[TLL,TLL] })
  (hs:a.eval s=v) (hr:w.ownsRow 0 TL 1 v k xs) {q:Nat} (hx:a.eval x=.slice (some ⟨q,0,none⟩) 1 1) {u:Value} (hc:w.cell? ⟨q,0,none⟩=some u) (hu:u.oneCell'=true) (hk:k≤1000000)
  (h:∀ v' w',w'.ownsRow 0 TL 1 v' (k+1) (xs++[u])→w.grownBy w' v.ownBlock→(v'.ownBlock=v.ownBlock∨v'.ownBlock=some w.heap.size)→K (a.put o.dst v') w'):o.wp Tryz.prog a w K Q:=by
 obtain ⟨i,hi,hz,hsz,hb⟩:=info_parts info_row
 obtain ⟨v',w',hrun,h1,h2,_,h3⟩:=run_append_own_at (P:=Tryz.prog) w 0 TLL o.type TL i (.slice none 0 0) 1 24 Tryz.underlying83 hi hz hsz hb (by rfl) (by omega) v k xs hr ⟨q,0,none⟩ 1 1 [u] (by simp) (fun j x hj=>by
  cases j with
  | zero=>simp at hj;subst hj;exact hc
  | succ j=>simp at hj) (fun x hx=>by simp at hx;subst hx;exact hu) (by unfold maxLen;omega) (by omega) (Nat.zero_le _)
 unfold Oper.wp execOp
 simp only [ho,resolve,invoke,builtin,Sem.run_bind,Sem.run_pure,Result.andThen_ok,List.map_toArray,List.map_cons,List.map_nil,hs,hx,hrun]
 exact h v' w' h1 h2 h3
theorem set_one:∀ {cs:Array Value},cs.size=1→∀ v,cs.setIfInBounds 0 v=#[v]
 | ⟨[x]⟩,_,v=>rfl
 | ⟨[]⟩,h,_=>by simp at h
 | ⟨_ :: _ :: _⟩,h,_=>by simp at h
theorem wp_buildRow {o:Oper} {a:Act} {w:World} {K:Act→World→Prop} {Q:Exit→Act→World→Prop} (x:Operand) (ho:o.op=.buildSlice TLL 1 #[(0,x)]) {q n c:Nat} (hx:a.eval x=.slice (some ⟨q,0,none⟩) n c)
  (h:K (a.put o.dst (.slice (some ⟨w.heap.size,0,none⟩) 1 1)) (w.alloc (.cells #[.slice (some ⟨q,0,none⟩) n c] TL))):o.wp Tryz.prog a w K Q:=by
 obtain ⟨i,hi,hz,hsz,hb⟩:=info_parts info_row;refine wp_buildSlice TLL TL 1 #[(0,x)] ho #[.slice (some ⟨q,0,none⟩) n c] i (.slice none 0 0) Tryz.underlying83 hi hz (by rw [hsz];decide) (by rw [hsz];decide) ?_ h;rw [hsz]
 simp only [List.map_toArray,List.map_cons,List.map_nil,hx]
 simp [Instr.fill,Value.cells]
 exact set_one (by simp) _
structure NwAt (w0 w:World) (b k:Nat) (ls:List Sec) (sv:Value) (V:Nat→Value):Prop where
 blk:Blk w b TRf #[sv,.int .i64 (-1),.bool false,.int .i64 0]
 row:w.ownsRow 0 TL 1 sv k ((List.range k).map V)
 rows:∀ i,i < k→Row w (V i) [ls.getD i Sec.zero]
 gr:Gr w0 w
 lob:w0.heap.size≤b
 los:∀ g,sv.ownBlock=some g→w0.heap.size≤g
 lor:∀ i g,i < k→(V i).ownBlock=some g→w0.heap.size≤g
theorem outer_kind {w:World} {v:Value} {k:Nat} {xs:List Value} (h:w.ownsRow 0 TL 1 v k xs) {g:Nat} (hg:v.ownBlock=some g):∃ cur,w.heap[g]?=some (.cells cur TL (0,0)):=by
 rcases h.2 with ⟨rfl,_⟩ | ⟨g',cap,cur,rfl,_,h2,_⟩
 · cases hg
 · cases hg;exact ⟨_,h2⟩
theorem outer_form {w:World} {v:Value} {k:Nat} {xs:List Value} (h:w.ownsRow 0 TL 1 v k xs) (hk:0 < k):∃ g c,v=.slice (some ⟨g,0,none⟩) k c:=by
 rcases h.2 with ⟨rfl,h0⟩ | ⟨g',cap,cur,rfl,_,h2,_⟩
 · omega
 · exact ⟨_,_,rfl⟩
theorem outer_stays {w w':World} {v:Value} {k:Nat} {xs:List Value} (h:w.ownsRow 0 TL 1 v k xs) (e:∀ g,v.ownBlock=some g→w'.heap[g]?=w.heap[g]?):w'.ownsRow 0 TL 1 v k xs:=by
 refine ⟨h.1,?_⟩
 rcases h.2 with h2 | ⟨g',cap,cur,rfl,h0,h2,r⟩
 · exact .inl h2
 · exact .inr ⟨g',cap,cur,rfl,h0,(e g' rfl).trans h2,r⟩
theorem outer_lt {w:World} {v:Value} {k:Nat} {xs:List Value} (h:w.ownsRow 0 TL 1 v k xs) {g:Nat} (hg:v.ownBlock=some g):g < w.heap.size:=by
 obtain ⟨cur,e⟩:=outer_kind h hg;exact (Array.getElem?_eq_some_iff.1 e).1
theorem NwAt.neb {w0 w:World} {b k:Nat} {ls:List Sec} {sv:Value} {V:Nat→Value} (h:NwAt w0 w b k ls sv V):sv.ownBlock≠some b:=fun e=>by
 obtain ⟨cur,hk⟩:=outer_kind h.row e;have hb:=h.blk
 unfold Blk at hb
 rw [hk] at hb
 simp only [Option.some.injEq,Obj.cells.injEq] at hb
 exact absurd hb.2.1 (by decide)
theorem NwAt.step {w0 w w1:World} {b k:Nat} {ls:List Sec} {sv:Value} {V:Nat→Value} (h:NwAt w0 w b k ls sv V) {q g c:Nat} (hg:w.grownBy w1 sv.ownBlock) (hr:w1.ownsRow 0 TL 1 (.slice (some ⟨g,0,none⟩) (k+1) c) (k+1) ((List.range k).map V++[.slice (some ⟨q,0,none⟩) 1 1]))
  (hq:Row w1 (.slice (some ⟨q,0,none⟩) 1 1) [ls.getD k Sec.zero]) (hql:w.heap.size≤q) (hgl:sv.ownBlock=some g∨w.heap.size≤g) :
  NwAt w0 (w1.setCell ⟨b,0,none⟩ (.slice (some ⟨g,0,none⟩) (k+1) c)) b (k+1) ls (.slice (some ⟨g,0,none⟩) (k+1) c) (fun j=>if j=k then .slice (some ⟨q,0,none⟩) 1 1 else V j):=by
 have hblt:=h.blk.lt;have hb1:Blk w1 b TRf #[sv,.int .i64 (-1),.bool false,.int .i64 0]:=h.blk.stays (hg.block b hblt (fun e=>h.neb e.symm))
 have hset:∀ j,j≠b→(w1.setCell ⟨b,0,none⟩ (.slice (some ⟨g,0,none⟩) (k+1) c)).heap[j]?=w1.heap[j]?:=fun j hj=>Below.heap_setCell w1 _ _ j hj
 have hneT:∀ {w':World} {j:Nat} {cs cs2:Array Value} {t t2:TypeId},w'.heap[j]?=some (.cells cs t (0,0))→w'.heap[j]?=some (.cells cs2 t2 (0,0))→t=t2:=fun h1 h2=>by
  rw [h1] at h2
  simp only [Option.some.injEq,Obj.cells.injEq] at h2
  exact h2.2.1
 have hrb:∀ {v:Value} {ss:List Sec},Row w1 v ss→∀ j,v.ownBlock=some j→j≠b:=fun hv j hj e=>by
  subst e;obtain ⟨cs2,hk⟩:=hv.kind hj;exact absurd (hneT hk hb1) (by decide)
 refine ⟨?_,?_,fun i hi=>?_,?_,h.lob,fun g' e=>?_,fun i g' hi e=>?_⟩
 ·
  have:=hb1.set 0 (.slice (some ⟨g,0,none⟩) (k+1) c)
  simpa using this
 ·
  have e:(List.range (k+1)).map (fun j=>if j=k then Value.slice (some ⟨q,0,none⟩) 1 1 else V j)=(List.range k).map V++[.slice (some ⟨q,0,none⟩) 1 1]:=by
   rw [List.range_succ,List.map_append]
   congr 1
   ·
    apply List.map_congr_left
    intro j hj
    rw [if_neg (by have:=List.mem_range.1 hj;omega)]
   · simp
  rw [e]
  refine outer_stays hr fun g' hg'=>hset g' fun e=>?_
  subst e;obtain ⟨cur,hk⟩:=outer_kind hr hg';exact absurd (hneT hk hb1) (by decide)
 ·
  by_cases hik:i=k
  ·
   subst hik
   simp only [if_pos]
   exact hq.stays fun j hj=>hset j (hrb hq j hj)
  ·
   simp only [if_neg hik]
   have hik2:i < k:=by omega
   have h1:Row w1 (V i) [ls.getD i Sec.zero]:=(h.rows i hik2).stays fun j hj=>hg.block j ((h.rows i hik2).lt j hj) fun e=>by
    obtain ⟨cs,hk⟩:=(h.rows i hik2).kind hj;obtain ⟨cs2,hk2⟩:=outer_kind h.row e.symm;exact absurd (hneT hk hk2) (by decide)
   exact h1.stays fun j hj=>hset j (hrb h1 j hj)
 · have h1:Gr w0 w1:=h.gr.own hg h.los;exact ⟨h1.os,h1.tape,h1.output,by simpa [World.setCell] using h1.size,fun j hj=>(hset j (by have:=h.lob;omega)).trans (h1.block j hj)⟩
 ·
  cases e
  rcases hgl with e | e
  · exact h.los _ e
  · exact Nat.le_trans h.gr.size e
 ·
  by_cases hik:i=k
  ·
   simp only [if_pos hik] at e
   cases e
   exact Nat.le_trans h.gr.size hql
  ·
   simp only [if_neg hik] at e
   exact h.lor i g' (by omega) e
def NewRf (w w':World) (e:Ending) (s:St):Prop:=∃ p G,e=.returned p∧Rf w' G p s∧Gr w w'∧∀ k,G k→w.heap.size≤k
theorem NwAt.done {w0 w:World} {b:Nat} {ls:List Sec} {sv:Value} {V:Nat→Value} (h:NwAt w0 w b ls.length ls sv V) (h1:0 < ls.length) (h2:ls.length≤65536):NewRf w0 w (.returned (.pointer (some ⟨b,0,none⟩))) (fresh ls):=by
 obtain ⟨g,c,rfl⟩:=outer_form h.row h1;refine ⟨_,fun k=>w0.heap.size≤k∧k < w.heap.size,rfl,⟨b,g,c,V,rfl,h1,h2,by show (-9223372036854775808:Int)≤-1;omega,by show (-1:Int)≤9223372036854775807;omega,h.blk,h.row,fun i hi=>?_,⟨h.lob,h.blk.lt⟩,⟨h.los g rfl,outer_lt h.row rfl⟩,fun i g' hi hg=>⟨h.lor i g' hi hg,(h.rows i hi).lt g' hg⟩,fun k hk=>hk.2⟩,h.gr,fun k hk=>hk.1⟩;exact h.rows i hi
def Sn (n0 b k gl cl M:Nat) (sv:Value) (x:Sec) (xs:List Value) (d:Nat) (v:Value) (w:World):Prop:=
 match d with
 | 13 | 14 | 15 | 16 | 25 | 26=>v=.pointer (some ⟨b,0,none⟩)
 | 17=>v=sv
 | 18=>v=.slice (some ⟨gl,0,none⟩) M cl
 | 19=>v=.int .i64 (k:Int)
 | 20=>v=.pointer (some ⟨gl,k*256,none⟩)
 | 21=>v=.agg (sec x)
 | 22=>∃ q,v=.slice (some ⟨q,0,none⟩) 1 1∧Row w (.slice (some ⟨q,0,none⟩) 1 1) [x]∧n0≤q
 | 23=>∃ q2 q,v=.slice (some ⟨q2,0,none⟩) 1 1∧Blk w q2 TL #[.slice (some ⟨q,0,none⟩) 1 1]∧Row w (.slice (some ⟨q,0,none⟩) 1 1) [x]∧n0≤q
 | 24=>∃ g c q,v=.slice (some ⟨g,0,none⟩) (k+1) c∧w.ownsRow 0 TL 1 v (k+1) (xs++[.slice (some ⟨q,0,none⟩) 1 1])∧Row w (.slice (some ⟨q,0,none⟩) 1 1) [x]∧n0≤q∧(sv.ownBlock=some g∨n0≤g)
 | _=>True
def Gn (u:Value) (i:Nat) (w w':World):Prop:=cond (i == 11) (w.grownBy w' u.ownBlock) (cond (i == 14) True (Gr w w'))
theorem Sn.kept {n0 b k gl cl M:Nat} {sv:Value} {x:Sec} {xs:List Value} (d:Nat) (v:Value) (w w':World) (h:Sn n0 b k gl cl M sv x xs d v w) (g:Gr w w'):Sn n0 b k gl cl M sv x xs d v w':=by
 unfold Sn at h ⊢
 split <;> simp only at h
 all_goals first
  | exact h
  | exact (let ⟨q,h1,h2,h3⟩:=h;⟨q,h1,Row.gr h2 g,h3⟩)
  | exact (let ⟨q2,q,h1,h2,h3,h4⟩:=h;⟨q2,q,h1,h2.gr g,Row.gr h3 g,h4⟩)
  | exact (let ⟨g1,c,q,h1,h2,h3,h4⟩:=h;⟨g1,c,q,h1,outer_stays h2 (fun j hj=>g.block j (outer_lt h2 hj)),Row.gr h3 g,h4⟩)
theorem Sn.any {n0 b k gl cl M:Nat} {sv:Value} {x:Sec} {xs:List Value} (d:Nat) (hd:d ∈ [13,14,15,16,25,26]) (v:Value) (w w':World) (h:Sn n0 b k gl cl M sv x xs d v w):Sn n0 b k gl cl M sv x xs d v w':=by
 simp only [List.mem_cons,List.not_mem_nil,or_false] at hd
 rcases hd with rfl | rfl | rfl | rfl | rfl | rfl <;> exact h
def Fn (W0:World) (b k:Nat) (sv:Value) (x:Sec) (xs:List Value) (w:World):Prop:=∃ w1 g c q,W0.grownBy w1 sv.ownBlock∧w1.ownsRow 0 TL 1 (.slice (some ⟨g,0,none⟩) (k+1) c) (k+1) (xs++[.slice (some ⟨q,0,none⟩) 1 1])∧Row w1 (.slice (some ⟨q,0,none⟩) 1 1) [x]∧W0.heap.size≤q∧(sv.ownBlock=some g∨W0.heap.size≤g) ∧
 w=w1.setCell ⟨b,0,none⟩ (.slice (some ⟨g,0,none⟩) (k+1) c)
set_option maxRecDepth 100000 in
set_option maxHeartbeats 4000000 in
theorem refNew_any (w:World) (v:Value) (ls:List Sec) (h:Row w v ls) (h1:0 < ls.length) (h2:ls.length≤65536):Calls Tryz.prog 11 #[v] w fun e w'=>NewRf w w' e (fresh ls):=by
 obtain ⟨gl,cl,hv,_,hc1,hc2⟩:=h.full (fun e=>by rw [e] at h1;simp at h1);obtain ⟨M,hM⟩:∃ M,M=ls.length:=⟨_,rfl⟩
 rw [← hM] at hv
 subst hv;have HRow:=Lib.hid h;have HM:=Lib.hid hM
 have hM2:M≤65536:=by omega
 have HP:Hid (0 < ls.length∧ls.length≤65536):=Lib.hid ⟨h1,h2⟩;obtain ⟨wb,hwb⟩:∃ wb,wb=w.alloc (.cells #[.slice none 0 0,.int .i64 (-1),.bool false,.int .i64 0] TRf):=⟨_,rfl⟩
 have hb:Blk wb w.heap.size TRf #[.slice none 0 0,.int .i64 (-1),.bool false,.int .i64 0]:=by rw [hwb];exact Blk.new _ _ _
 have HS:Hid (NwAt w wb w.heap.size 0 ls (.slice none 0 0) (fun _=>.slice none 0 0)):=Lib.hid ⟨hb,World.ownsRow_nil _ _ _ _,(fun i hi=>by omega),by rw [hwb];exact Gr.new w _,Nat.le_refl _,(fun g e=>by cases e),(fun i g hi=>by omega)⟩;clear h h1 h2 hc1 hc2 hM hb
 go_enter Tryz.func11,Tryz.ntmps11
 go_wp2_with fail;rw [← hwb];clear hwb;obtain ⟨b,hbb⟩:∃ b,b=w.heap.size:=⟨_,rfl⟩
 rw [← hbb] at HS ⊢
 clear hbb
 go_loopw [4] (fun i wr=>∃ (k:Nat) (sv:Value) (V:Nat→Value),k≤M∧i=.int .i64 k∧Hid (NwAt w wr b k ls sv V)) (fun i _=>M - (intOf i).toNat)
 case atStart=>exact ⟨0,_,_,Nat.zero_le _,rfl,HS⟩
 case round=>
  obtain ⟨k,sv,V,hk,rfl,hd⟩:=hrel
  by_cases hlt:k < M
  ·
   have hk65:(k:Int) < 65536:=by omega
   have HD:=hd;obtain ⟨x,hx⟩:∃ x,x=ls.getD k Sec.zero:=⟨_,rfl⟩
   have hkl:k < ls.length:=by rw [← HM.out];exact hlt
   have HA:Hid (∀ W,Gr wr W→W.cell? ⟨b,0,none⟩=some sv):=Lib.hid fun W e=>(hd.out.blk.gr e).cell 0
   have HL:Hid (∀ W,Gr wr W→W.rangeAt gl (k*256) x.cells):=Lib.hid fun W e=>by
    have h1:=((HRow.out.gr hd.out.gr).gr e).lies k hkl
    have e2:ls[k]=x:=by rw [hx];simp [List.getD,hkl]
    rwa [e2] at h1
   have HB:Hid (∀ W,wr.grownBy W sv.ownBlock→W.cell? ⟨b,0,none⟩=some sv∧W.frozen? ⟨b,0,none⟩=false):=Lib.hid fun W e=>by
    have h1:Blk W b TRf #[sv,.int .i64 (-1),.bool false,.int .i64 0]:=hd.out.blk.stays (e.block b hd.out.blk.lt (fun e=>hd.out.neb e.symm));exact ⟨h1.cell 0,h1.frozen 0⟩
   have HO:Hid (∀ W,Gr wr W→W.ownsRow 0 TL 1 sv k ((List.range k).map V)):=Lib.hid fun W e=>outer_stays hd.out.row (fun j hj=>e.block j (outer_lt hd.out.row hj))
   obtain ⟨xs,hxs⟩:∃ xs,xs=(List.range k).map V:=⟨_,rfl⟩
   rw [← hxs] at HO
   have HXs:=Lib.hid (And.intro hx hxs);clear hd hx hkl hxs;go_wp2_with fail;refine Flow.regionZ 14 11 (by kernel_rfl) [] 16 (Sn wr.heap.size b k gl cl M sv x xs) (fun W=>wr.grownBy W sv.ownBlock) (Fn wr b k sv x xs) (Gr wr) (Gn sv) (by kernel_rfl) (by kernel_rfl) (by kernel_rfl) ?mono ⟨rfl,rfl,rfl,Nat.le_refl _,fun _ _ _=>rfl⟩ ⟨rfl,rfl,rfl,Nat.le_refl _,fun _ _=>rfl⟩ ?steps ?fin
   case mono=>
    intro i d v w w' hb hs hg
    by_cases h11:i=11
    · subst h11;exact Sn.any d (Flow.bears2_only [13,14,15,16,25,26] (by kernel_rfl) hb) v w w' hs
    ·
     by_cases h14:i=14
     ·
      subst h14;have:=Flow.bears2_only [] (by kernel_rfl) hb
      cases this
     ·
      have e1:(i == 11)=false:=by simpa using h11
      have e2:(i == 14)=false:=by simpa using h14
      unfold Gn at hg
      rw [e1,e2] at hg
      exact Sn.kept d v w w' hs hg
   case fin=>
    intro a W hfr hfin hsl
    clear hsl;have e:=Flow.frame hfr [13,14,15,16,17,18,19,20,21,22,23,24,25,26] (List.range 28) (by kernel_rfl) (by kernel_rfl)
    simp [List.range,List.range.loop] at e
    rw [e];clear e hfr;obtain ⟨w1,g,c,q,hg1,hr1,hq1,hq2,hq3,rfl⟩:=hfin
    rw [HXs.out.1] at hq1
    rw [HXs.out.2] at hr1
    have HD3:=Lib.hid (HD.out.step hg1 hr1 hq1 hq2 hq3);clear hg1 hr1 hq1 hq2 hq3 HA HL HB HO HXs HD
    rename_i K hK
    refine hK _ _ ?_
    go_wp2
    go_roundw
    case rel=>exact ⟨k+1,_,_,by omega,by go_num,HD3⟩
    case measure=>simp [intOf];omega
   case steps=>
    refine .cons (fun a W hfr hinv hear hdep K hK=>?_) ?_
    · have t3:=tAt (.pointer (some ⟨b,0,none⟩)) (hfr.at 3 (by kernel_rfl));refine fW0 rfl ?_;clear hfr hdep hear;go_simp;exact hK _ _ (show Gr W W from Gr.refl W) hinv (fun h=>h) (dsT rfl)
    refine .cons (fun a W hfr hinv hear hdep K hK=>?_) ?_
    · have t3:=tAt (.pointer (some ⟨b,0,none⟩)) (hfr.at 3 (by kernel_rfl));refine fW0 rfl ?_;clear hfr hdep hear;go_simp;exact hK _ _ (show Gr W W from Gr.refl W) hinv (fun h=>h) (dsT rfl)
    refine .cons (fun a W hfr hinv hear hdep K hK=>?_) ?_
    · have t14:=tAt (.pointer (some ⟨b,0,none⟩)) (hdep 14 (by kernel_rfl));refine fW0 rfl ?_;clear hfr hdep hear;go_simp;exact hK _ _ (show Gr W W from Gr.refl W) hinv (fun h=>h) (dsT rfl)
    refine .cons (fun a W hfr hinv hear hdep K hK=>?_) ?_
    · have t15:=tAt (.pointer (some ⟨b,0,none⟩)) (hdep 15 (by kernel_rfl));refine fW0 rfl ?_;clear hfr hdep hear;go_simp;exact hK _ _ (show Gr W W from Gr.refl W) hinv (fun h=>h) (dsT rfl)
    refine .cons (fun a W hfr hinv hear hdep K hK=>?_) ?_
    · have t16:=tAt (.pointer (some ⟨b,0,none⟩)) (hdep 16 (by kernel_rfl));refine fW0 rfl ?_;clear hfr hdep;have he:Gr wr W:=Flow.early hear (by kernel_rfl);clear hear;have hc:=HA.out W he;go_simp;exact hK _ _ (show Gr W W from Gr.refl W) hinv (fun h=>h) (dsT rfl)
    refine .cons (fun a W hfr hinv hear hdep K hK=>?_) ?_
    · have t0:=tAt (.slice (some ⟨gl,0,none⟩) M cl) (hfr.at 0 (by kernel_rfl));refine fW0 rfl ?_;clear hfr hdep hear;go_simp;exact hK _ _ (show Gr W W from Gr.refl W) hinv (fun h=>h) (dsT rfl)
    refine .cons (fun a W hfr hinv hear hdep K hK=>?_) ?_
    · have t4:=tAt (.int .i64 (k:Int)) (hfr.at 4 (by kernel_rfl));refine fW0 rfl ?_;clear hfr hdep hear;go_simp;exact hK _ _ (show Gr W W from Gr.refl W) hinv (fun h=>h) (dsT rfl)
    refine .cons (fun a W hfr hinv hear hdep K hK=>?_) ?_
    · have t18:=tAt (.slice (some ⟨gl,0,none⟩) M cl) (hdep 18 (by kernel_rfl));have t19:=tAt (.int .i64 (k:Int)) (hdep 19 (by kernel_rfl));refine fW0 rfl ?_;clear hfr hdep hear;go_simp;exact hK _ _ (show Gr W W from Gr.refl W) hinv (fun h=>h) (dsT rfl)
    refine .cons (fun a W hfr hinv hear hdep K hK=>?_) ?_
    · have s20:a.tmps.getD 20 undef=.pointer (some ⟨gl,k*256,none⟩):=hdep 20 (by kernel_rfl);have t20:=tmpAt s20;refine fW0 rfl ?_;clear hfr hdep;have he:Gr wr W:=Flow.early hear (by kernel_rfl);refine wp_load_sec (.tmp 20) rfl (HL.out W he) (by simpa [Act.eval] using s20) ?_;exact hK _ _ (show Gr W W from Gr.refl W) hinv (fun h=>h) (dsT rfl)
    refine .cons (fun a W hfr hinv hear hdep K hK=>?_) ?_
    · have t21:=tAt (.agg (sec x)) (hdep 21 (by kernel_rfl));refine fW0 rfl ?_;clear hfr hdep;refine wp_buildSecs 1 #[(0,.tmp 21)] rfl [x] rfl (by omega) (by omega) (by simp [Act.eval,t21,partsOf,partsL,sec]) ?_;exact hK _ _ (show Gr W (W.alloc _) from Gr.new W _) (hinv.trans (World.grownBy_alloc W _ _)) (fun h=>Gr.trans h (Gr.new W _)) (fun d hd=>by cases hd;exact ⟨_,rfl,Row.lit W [x] 1 rfl (by omega),hinv.size⟩)
    refine .cons (fun a W hfr hinv hear hdep K hK=>?_) ?_
    · have s22:(∃ q,(a.tmps.getD 22 undef)=.slice (some ⟨q,0,none⟩) 1 1∧Row W (.slice (some ⟨q,0,none⟩) 1 1) [x]∧wr.heap.size≤q):=hdep 22 (by kernel_rfl);refine fW0 rfl ?_;clear hfr hdep;obtain ⟨q,e22,r22,l22⟩:=s22;refine wp_buildRow (.tmp 22) rfl (by simpa [Act.eval] using e22) ?_;exact hK _ _ (show Gr W (W.alloc _) from Gr.new W _) (hinv.trans (World.grownBy_alloc W _ _)) (fun h=>Gr.trans h (Gr.new W _)) (fun d hd=>by cases hd;exact ⟨_,q,rfl,Blk.new W _ _,r22.gr (Gr.new W _),l22⟩)
    refine .cons (fun a W hfr hinv hear hdep K hK=>?_) ?_
    ·
     have s17:a.tmps.getD 17 undef=sv:=hdep 17 (by kernel_rfl);have t17:=tmpAt s17;have s23:(∃ q2 q,(a.tmps.getD 23 undef)=.slice (some ⟨q2,0,none⟩) 1 1∧Blk W q2 TL #[.slice (some ⟨q,0,none⟩) 1 1]∧Row W (.slice (some ⟨q,0,none⟩) 1 1) [x]∧wr.heap.size≤q):=hdep 23 (by kernel_rfl);refine fW0 rfl ?_;clear hfr hdep;have he:Gr wr W:=Flow.early hear (by kernel_rfl);obtain ⟨q2,q,e23,b23,r23,l23⟩:=s23;have hro:=HO.out W he;refine app_row (.tmp 17) (.tmp 23) rfl (by simpa [Act.eval] using s17) hro (by simpa [Act.eval] using e23) (b23.cell 0) rfl (by omega) ?_
     intro v' w' h1 h2 h3
     obtain ⟨g',c',rfl⟩:=outer_form h1 (by omega)
     have hr2:Row w' (.slice (some ⟨q,0,none⟩) 1 1) [x]:=r23.stays fun j hj=>h2.block j (r23.lt j hj) fun e=>absurd (outer_lt HD.out.row e.symm) (by have hjq:q=j:=(by simpa [Value.ownBlock] using hj);omega)
     have hl2:sv.ownBlock=some g'∨wr.heap.size≤g':=h3.imp (fun h=>h.symm) (fun h=>by cases h;exact hinv.size);exact hK _ _ (show W.grownBy w' sv.ownBlock from h2) (hinv.trans h2) True.intro (fun d hd=>by cases hd;exact ⟨g',c',q,rfl,h1,hr2,l23,hl2⟩)
    refine .cons (fun a W hfr hinv hear hdep K hK=>?_) ?_
    · have t13:=tAt (.pointer (some ⟨b,0,none⟩)) (hdep 13 (by kernel_rfl));refine fW0 rfl ?_;clear hfr hdep hear;go_simp;exact hK _ _ (show Gr W W from Gr.refl W) hinv (fun h=>h) (dsT rfl)
    refine .cons (fun a W hfr hinv hear hdep K hK=>?_) ?_
    · have t25:=tAt (.pointer (some ⟨b,0,none⟩)) (hdep 25 (by kernel_rfl));refine fW0 rfl ?_;clear hfr hdep hear;go_simp;exact hK _ _ (show Gr W W from Gr.refl W) hinv (fun h=>h) (dsT rfl)
    refine .cons (fun a W hfr hinv hear hdep K hK=>?_) ?_
    ·
     have t26:=tAt (.pointer (some ⟨b,0,none⟩)) (hdep 26 (by kernel_rfl));have s24:(∃ g c q,(a.tmps.getD 24 undef)=.slice (some ⟨g,0,none⟩) (k+1) c∧W.ownsRow 0 TL 1 (a.tmps.getD 24 undef) (k+1) (xs++[.slice (some ⟨q,0,none⟩) 1 1])∧Row W (.slice (some ⟨q,0,none⟩) 1 1) [x]∧wr.heap.size≤q∧(sv.ownBlock=some g∨wr.heap.size≤g)):=hdep 24 (by kernel_rfl);refine fW0 rfl ?_;clear hfr hdep;obtain ⟨g,c,q,e24,o24,r24,l24,k24⟩:=s24
     rw [e24] at o24
     have t24:=tmpAt e24;obtain ⟨hoc,hof⟩:=HB.out W hinv;clear e24;go_simp;exact hK undef _ True.intro ⟨W,g,c,q,hinv,o24,r24,l24,k24,rfl⟩ True.intro (fun d hd=>by cases hd)
    exact True.intro
  ·
   obtain rfl:k=M:=by omega
   have HF:Hid (NewRf w wr (.returned (.pointer (some ⟨b,0,none⟩))) (fresh ls)):=Lib.hid (by
    have h1:=hd.out
    rw [HM.out] at h1
    exact h1.done HP.out.1 HP.out.2)
   clear hd
   go_wp2
   go_ret
   exact HF.out
end Go.Proofs.YtlijbgapkmfnaaaGreat
namespace Go.Proofs.YtlijbgapkmfnaaaGreat
namespace Flow
open Go
section
variable {P:Program} {ops:Array Oper} {Q:Exit→Act→World→Prop} {md:Region.Mode}
structure SameZ (ops:Array Oper) (z:Nat) (a0 a:Act):Prop where
 defers:a.defers=a0.defers
 size:a.tmps.size=a0.tmps.size
 old:∀ d,(∀ (i:Nat) (o:Oper),ops[i]?=some o→i≠z→o.dst≠some d)→a.tmps.getD d undef=a0.tmps.getD d undef
theorem SameZ.at {z:Nat} {a0 a:Act} (h:SameZ ops z a0 a) (d:Nat) (hd:((List.range ops.size).all fun i=>i == z || match ops[i]? with
  | some o=>o.dst != some d
  | none=>true)=true) {v:Value} (hv:a0.tmps.getD d undef=v:=by rfl):a.tmps.getD d undef=v:=by
 rw [h.old d fun i o ho hz=>by
  have:=List.all_eq_true.1 hd i (List.mem_range.2 (Array.getElem?_eq_some_iff.1 ho).1)
  rw [ho] at this
  simpa [hz] using this]
 exact hv
def StepU (P:Program) (md:Region.Mode) (ops:Array Oper) (Q:Exit→Act→World→Prop) (Sl:Nat→Value→World→Prop) (I J E:World→Prop) (early here:Bool) (G:World→World→Prop) (a0:Act) (z:Nat) (o:Oper):Prop:=
 ∀ a w,SameZ ops z a0 a→I w→cond early (E w) True→(∀ d,(reads md ops o).contains d=true→Sl d (a.tmps.getD d undef) w) →
  ∀ K:Act→World→Prop,(∀ v w',G w w'→J w'→cond here True (E w→E w')→(∀ d,o.dst=some d→Sl d v w')→K (a.put o.dst v) w') →
   if Region.wanted o (yielded ops a.tmps)=true then o.wp P a w K Q else K (a.put o.dst undef) w
def StepsU (P:Program) (md:Region.Mode) (ops:Array Oper) (Q:Exit→Act→World→Prop) (Sl:Nat→Value→World→Prop) (Inv Fin Ear:World→Prop) (G:Nat→World→World→Prop) (a0:Act) (z y fl:Nat):Nat→List Oper→Prop
 | _,[]=>True
 | i,o :: r=>StepU P md ops Q Sl Inv (cond (i == z) Fin Inv) Ear (waits md ops i fl y) (i == y || i == z) (G i) a0 z o∧StepsU P md ops Q Sl Inv Fin Ear G a0 z y fl (i+1) r
theorem StepsU.cons {Sl:Nat→Value→World→Prop} {Inv Fin Ear:World→Prop} {G:Nat→World→World→Prop} {a0:Act} {z y fl i:Nat} {o:Oper} {r:List Oper} (h:StepU P md ops Q Sl Inv (cond (i == z) Fin Inv) Ear (waits md ops i fl y) (i == y || i == z) (G i) a0 z o) (k:StepsU P md ops Q Sl Inv Fin Ear G a0 z y fl (i+1) r):StepsU P md ops Q Sl Inv Fin Ear G a0 z y fl i (o :: r):=⟨h,k⟩
theorem StepsU.at {Sl:Nat→Value→World→Prop} {Inv Fin Ear:World→Prop} {G:Nat→World→World→Prop} {a0:Act} {z y fl:Nat}:∀ {l:List Oper} {i:Nat},StepsU P md ops Q Sl Inv Fin Ear G a0 z y fl i l→∀ (j:Nat) (o:Oper),l[j]?=some o→StepU P md ops Q Sl Inv (cond (i+j == z) Fin Inv) Ear (waits md ops (i+j) fl y) (i+j == y || i+j == z) (G (i+j)) a0 z o
 | [],_,_,_,_,h=>by simp at h
 | x :: r,i,h,0,o,ho=>by
  simp only [List.getElem?_cons_zero,Option.some.injEq] at ho
  subst ho;exact h.1
 | x :: r,i,h,j+1,o,ho=>by
  simp only [List.getElem?_cons_succ] at ho
  have:=StepsU.at h.2 j o ho
  rwa [show i+1+j=i+(j+1) by omega] at this
variable {Sl:Nat→Value→World→Prop} {Inv Fin Ear:World→Prop} {G:Nat→World→World→Prop} {a0:Act}
theorem walkU (z y:Nat) (oz:Oper) (hoz:ops[z]?=some oz) (keep:List Nat) (fl:Nat) (hall:∀ j,j < ops.size→waits md ops j fl z=true) (hmono:∀ i d v w w',bears2 md ops keep fl i d=true→Sl d v w→G i w w'→Sl d v w') (hf:fine a0.tmps.size ops=true) (hs:∀ (i:Nat) (o:Oper),ops[i]?=some o→StepU P md ops Q Sl Inv (cond (i == z) Fin Inv) Ear (waits md ops i fl y) (i == y || i == z) (G i) a0 z o)
  (hfin:∀ a w,Same ops a0 a→Fin w→(∀ (i:Nat) (o:Oper) d,ops[i]?=some o→o.dst=some d→d ∈ keep→Sl d (a.tmps.getD d undef) w)→Q .normal a w) :
  ∀ (fuel:Nat) (listed:Array Bool) (a:Act) (w:World),left listed ops.size≤fuel→listed.size=ops.size→Closed md ops listed→Same ops a0 a→(listed.getD z true=false→SameZ ops z a0 a)→(listed.getD z true=false→Inv w)→(listed.getD z true=true→Fin w)→(listed.getD y true=false→Ear w) →
   (∀ (i:Nat) (o:Oper) d,ops[i]?=some o→listed.getD i true=true→o.dst=some d→(d ∈ keep∨∃ (j:Nat) (oj:Oper),ops[j]?=some oj∧listed.getD j true=false∧d ∈ reads md ops oj)→Sl d (a.tmps.getD d undef) w)→wpAny P md ops Q fuel listed a w:=by
 have hzb:z < ops.size:=(Array.getElem?_eq_some_iff.1 hoz).1
 have ends:∀ (listed:Array Bool) (a:Act) (w:World),(∀ i,i < ops.size→listed.getD i true=true)→Same ops a0 a→(listed.getD z true=true→Fin w) →
   (∀ (i:Nat) (o:Oper) d,ops[i]?=some o→listed.getD i true=true→o.dst=some d→(d ∈ keep∨∃ (j:Nat) (oj:Oper),ops[j]?=some oj∧listed.getD j true=false∧d ∈ reads md ops oj)→Sl d (a.tmps.getD d undef) w)→Q .normal a w:=fun listed a w hl hsame hinv hsl=>
  hfin a w hsame (hinv (hl z hzb)) fun i o d ho hd hk=>hsl i o d ho (hl i (Array.getElem?_eq_some_iff.1 ho).1) hd (.inl hk)
 have alls:∀ listed:Array Bool,listed.size=ops.size→Region.ready md ops listed=[]→∀ i,i < ops.size→listed.getD i true=true:=by
  intro listed hsz hr i
  induction i using Nat.strongRecOn with
  | _ i ih=>
   intro hi
   cases hg:listed.getD i true with
   | true=>rfl
   | false=>
    exfalso
    have:i ∈ Region.ready md ops listed:=mem_ready.2 ⟨hg,ops[i],Array.getElem?_eq_getElem hi,fun e he _=>by
     have hlt:=fine_down hf (Array.getElem?_eq_getElem hi) e he;have h1:=ih e.on hlt (by omega)
     have h2:e.on < listed.size:=by omega
     simp only [Array.getD_eq_getD_getElem?,Array.getElem?_eq_getElem h2,Option.getD_some] at h1 ⊢
     exact h1⟩
    rw [hr] at this
    cases this
 intro fuel
 induction fuel with
 | zero=>
  intro listed a w hl hsz hcl hsame hsam2 hinv hfz hear hsl
  have hall2:=left_zero (listed:=listed) (n:=ops.size) (by omega);refine ⟨?_,ends listed a w hall2 hsame hfz hsl⟩
  cases hr:Region.ready md ops listed with
  | nil=>rfl
  | cons j r=>
   have hj:j ∈ Region.ready md ops listed:=by rw [hr];exact List.mem_cons_self ..
   obtain ⟨hun,o,ho,_⟩:=mem_ready.1 hj
   rw [hall2 j (Array.getElem?_eq_some_iff.1 ho).1] at hun
   cases hun
 | succ fuel ih=>
  intro listed a w hl hsz hcl hsame hsam2 hinv hfz hear hsl
  refine ⟨fun hr=>ends listed a w (alls listed hsz hr) hsame hfz hsl,fun i hi=>?_⟩;obtain ⟨hun,o,ho,hdep⟩:=mem_ready.1 hi;have hib:i < ops.size:=(Array.getElem?_eq_some_iff.1 ho).1
  have flip:∀ j,j < ops.size→listed.getD j false=true→listed.getD j true=true:=fun j hj h=>by
   have h2:j < listed.size:=by omega
   simp only [Array.getD_eq_getD_getElem?,Array.getElem?_eq_getElem h2,Option.getD_some] at h ⊢
   exact h
  have anc:∀ j,waits md ops j fl i=true→j≠i→listed.getD j true=true:=fun j hw hne=>by
   cases fl with
   | zero=>exact absurd (by simpa [waits] using hw) hne
   | succ f=>
    simp only [waits,Bool.or_eq_true] at hw
    rcases hw with hw | hw
    · exact absurd (by simpa using hw) hne
    ·
     rw [ho] at hw
     obtain ⟨k,hk,h2⟩:=Array.any_eq_true.1 hw
     simp only [Bool.and_eq_true] at h2
     have hmem:=Array.getElem_mem hk;have hei:=fine_down hf ho _ hmem;exact waits_listed hcl f _ h2.2 (flip _ (by omega) (hdep _ hmem h2.1))
  have hzn:listed.getD z true=false:=by
   cases hzl:listed.getD z true with
   | false=>rfl
   | true=>rw [waits_listed hcl fl z (hall i hib) hzl] at hun;cases hun
  have hyn:cond (waits md ops i fl y) (Ear w) True:=by
   cases hw:waits md ops i fl y with
   | false=>exact True.intro
   | true=>
    refine hear ?_
    cases hyl:listed.getD y true with
    | false=>rfl
    | true=>rw [waits_listed hcl fl y hw hyl] at hun;cases hun
  refine wpOp_step ho fun K hK=>hs i o ho a w (hsam2 hzn) (hinv hzn) hyn ?_ K ?_
  ·
   intro d hd
   have hd':d ∈ reads md ops o:=by simpa using hd
   obtain ⟨e,he,hed⟩:=List.mem_filterMap.1 hd';obtain ⟨he1,he3⟩:=List.mem_filter.1 he
   have he2:Region.binds md e=true:=by simp only [Bool.and_eq_true] at he3;exact he3.1
   cases hoe:ops[e.on]? with
   | none=>rw [hoe] at hed;cases hed
   | some oe=>
    rw [hoe] at hed
    have hl1:=hdep e (by simpa using he1) he2;exact hsl e.on oe d hoe (flip _ (Array.getElem?_eq_some_iff.1 hoe).1 hl1) hed (.inr ⟨i,o,ho,hun,hd'⟩)
  ·
   intro v w' hg hinv' hear' hv
   have hset:∀ j,listed.getD j true=true→(listed.setIfInBounds i true).getD j true=true:=fun j h=>by
    by_cases hji:i=j
    ·
     subst hji
     have:i < listed.size:=by omega
     simp [this]
    · rw [getD_set_ne true hji];exact h
   refine hK _ _ (ih (listed.setIfInBounds i true) (a.put o.dst v) w' ?_ (by simpa using hsz) ?_ ⟨(put_defers ..).trans hsame.defers,(put_size ..).trans hsame.size,fun d hd=>?_⟩ ?_ ?_ ?_ ?_ ?_)
   · have:=left_less hun hib;omega
   ·
    intro j oj hoj hlj e he hb
    by_cases hji:i=j
    ·
     subst hji
     rw [ho] at hoj
     cases hoj
     have hei:e.on < ops.size:=by have:=fine_down hf ho e he;omega
     exact hset _ (flip _ hei (hdep e he hb))
    ·
     rw [getD_set_ne true hji] at hlj
     exact hset _ (hcl j oj hoj hlj e he hb)
   · rw [getD_put_other (hd i o ho)];exact hsame.old d hd
   ·
    intro h
    have hiz:i≠z:=by
     rintro rfl
     have:i < listed.size:=by omega
     simp [this] at h
    exact ⟨(put_defers ..).trans hsame.defers,(put_size ..).trans hsame.size,fun d hd=>by rw [getD_put_other (hd i o ho hiz)];exact (hsam2 hzn).old d hd⟩
   ·
    intro h
    by_cases hiz:i=z
    ·
     subst hiz
     have:i < listed.size:=by omega
     simp [this] at h
    ·
     have e:(i == z)=false:=by simpa using hiz
     rw [e] at hinv'
     exact hinv'
   ·
    intro h
    by_cases hiz:i=z
    ·
     have e:(i == z)=true:=by simpa using hiz
     rw [e] at hinv'
     exact hinv'
    ·
     rw [getD_set_ne true hiz,hzn] at h
     cases h
   ·
    intro h
    by_cases hiy:i=y
    ·
     subst hiy
     have:i < listed.size:=by omega
     simp [this] at h
    ·
     rw [getD_set_ne true hiy] at h
     by_cases hiz:i=z
     ·
      subst hiz
      have hyb:y < ops.size:=by
       rcases Nat.lt_or_ge y ops.size with h' | h'
       · exact h'
       · simp [Array.getElem?_eq_none (show listed.size≤y by omega)] at h
      have:=anc y (hall y hyb) (fun e=>hiy e.symm)
      rw [this] at h
      cases h
     ·
      have e:(i == y || i == z)=false:=by simp [hiy,hiz]
      rw [e] at hear'
      exact hear' (hear h)
   ·
    intro j oj d hoj hlj hdj hlive
    by_cases hji:j=i
    ·
     subst hji
     rw [ho] at hoj
     cases hoj
     have hds:=(fine_slot hf ho hdj).1;rw [hdj,getD_put_same (by rw [hsame.size];exact hds)];exact hv d hdj
    ·
     rw [getD_put_other (fun e=>hji (fine_one hf hoj ho hdj e))]
     rw [getD_set_ne true (Ne.symm hji)] at hlj
     have hjb:j < ops.size:=(Array.getElem?_eq_some_iff.1 hoj).1;refine hmono i d _ _ _ ?_ (hsl j oj d hoj hlj hdj ?_) hg
     ·
      unfold bears2
      rw [Bool.and_eq_true]
      constructor
      ·
       refine List.any_eq_true.2 ⟨j,List.mem_range.2 hjb,?_⟩;rw [hoj]
       have hnw:waits md ops i fl j=false:=by
        cases hw:waits md ops i fl j with
        | false=>rfl
        | true=>rw [waits_listed hcl fl j hw hlj] at hun;cases hun
       simp [hdj,hnw]
      ·
       rw [Bool.or_eq_true]
       rcases hlive with hk | ⟨j',oj',hoj',hl',hn'⟩
       · exact .inl (by simpa using hk)
       ·
        right
        have hne:j'≠i:=by
         rintro rfl
         have:j' < listed.size:=by omega
         simp [this] at hl'
        have hnw2:waits md ops j' fl i=false:=by
         cases hw:waits md ops j' fl i with
         | false=>rfl
         | true=>
          exfalso
          have hl3:=anc j' hw hne
          have hlj:listed.getD j' true=false:=by
           cases hlj':listed.getD j' true with
           | false=>rfl
           | true=>rw [hset j' hlj'] at hl';cases hl'
          rw [hl3] at hlj
          cases hlj
        refine List.any_eq_true.2 ⟨j',List.mem_range.2 (Array.getElem?_eq_some_iff.1 hoj').1,?_⟩;rw [hoj']
        simp [hne,hn',hnw2]
     ·
      rcases hlive with hk | ⟨j',oj',hoj',hl',hn'⟩
      · exact .inl hk
      ·
       refine .inr ⟨j',oj',hoj',?_,hn'⟩
       cases hlj':listed.getD j' true with
       | false=>rfl
       | true=>rw [hset j' hlj'] at hl';cases hl'
theorem regionU {id:Nat} {w:World} (z y:Nat) (hzz:(ops[z]?).isSome=true) (keep:List Nat) (fl:Nat) (Sl:Nat→Value→World→Prop) (Inv Fin Ear:World→Prop) (G:Nat→World→World→Prop) (hm:P.follows .mixedOrders=true) (hall:((List.range ops.size).all fun j=>waits .any ops j fl z)=true) (hf:fine a0.tmps.size ops=true)
  (hmono:∀ i d v w w',bears2 .any ops keep fl i d=true→Sl d v w→G i w w'→Sl d v w') (h0:Inv w.drew) (h1:Ear w.drew) (hs:StepsU P .any ops Q Sl Inv Fin Ear G a0 z y fl 0 ops.toList)
  (hfin:∀ a w,Same ops a0 a→Fin w→(∀ (i:Nat) (o:Oper) d,ops[i]?=some o→o.dst=some d→d ∈ keep→Sl d (a.tmps.getD d undef) w)→Q .normal a w) :
  (Code.region id ops true).wp P Q a0 w:=by
 obtain ⟨oz,hoz⟩:=Option.isSome_iff_exists.1 hzz;refine wp_region_any hm ?_
 have hun:∀ (i:Nat) (o:Oper),ops[i]?=some o→(Array.replicate ops.size false).getD i true=true→False:=fun i o ho hl=>by
  have hi:i < ops.size:=(Array.getElem?_eq_some_iff.1 ho).1
  simp [hi] at hl
 refine walkU z y oz hoz keep fl (fun j hj=>List.all_eq_true.1 hall j (List.mem_range.2 hj)) hmono hf (fun i o ho=>?_) hfin _ _ a0 w.drew ?_ (by simp) (fun j o ho hl=>(hun j o ho hl).elim) ⟨rfl,rfl,fun _ _=>rfl⟩ (fun _=>⟨rfl,rfl,fun _ _=>rfl⟩) (fun _=>h0) (fun h=>(hun z oz hoz h).elim) (fun _=>h1) (fun i o d ho hl _ _=>(hun i o ho hl).elim)
 ·
  have:=hs.at i o (by simpa using ho)
  rwa [Nat.zero_add] at this
 ·
  have:∀ n,left (Array.replicate ops.size false) n≤n:=by
   intro n
   induction n with
   | zero=>exact Nat.le_refl _
   | succ n ih=>simp only [left];split <;> omega
  exact this _
end
end Flow
end Go.Proofs.YtlijbgapkmfnaaaGreat
namespace Go.Proofs.YtlijbgapkmfnaaaGreat
open Go.RowKit Go.Maps
theorem rank_succ (s:St) (i:Nat):s.rank (i+1)=s.rank i+(if s.t i=[] then 0 else 1):=by
 unfold St.rank
 rw [List.range_succ,List.filter_append,List.length_append]
 congr 1
 by_cases h:s.t i=[]
 · rw [if_pos h];simp [h]
 · rw [if_neg h];simp [h]
theorem rank_le (s:St) (i:Nat):s.rank i≤i:=by
 unfold St.rank
 have:=List.length_filter_le (fun j=>!(s.t j).isEmpty) (List.range i)
 rwa [List.length_range] at this
def St.pickOf (s:St) (zs:List Int) (i:Nat):Nat:=if s.t i=[] then 0 else pickAt zs (s.rank i)
theorem chosen_at (s:St) (zs:List Int) (i:Nat):s.chosen zs i=(s.at i).getD (s.pickOf zs i % ((s.t i).length+1)) Sec.zero:=by
 unfold St.chosen St.pickOf St.at
 by_cases h:s.t i=[]
 · rw [if_pos h,h];simp [Nat.mod_one]
 · rw [if_neg h]
def Su (n0 b gs N cs i gu cu m P Q:Nat) (x:Sec) (lv:Value) (ys:List Sec) (d:Nat) (v:Value) (w:World):Prop:=
 match d with
 | 38=>v=lv
 | 39 | 40 | 41 | 47 | 48 | 49=>v=.pointer (some ⟨b,0,none⟩)
 | 42 | 50=>v=.slice (some ⟨gs,0,none⟩) N cs
 | 43 | 51=>v=.int .i64 (i:Int)
 | 44 | 52=>v=.pointer (some ⟨gs,i,none⟩)
 | 45 | 53=>v=.slice (some ⟨gu,0,none⟩) m cu
 | 46=>v=.int .u64 (P:Int)
 | 54=>v=.int .i64 (m:Int)
 | 55=>v=.int .u64 (m:Int)
 | 56=>v=.int .u64 (Q:Int)
 | 57=>v=.pointer (some ⟨gu,Q*256,none⟩)
 | 58=>v=.agg (sec x)
 | 59=>∃ q,v=.slice (some ⟨q,0,none⟩) 1 1∧Row w (.slice (some ⟨q,0,none⟩) 1 1) [x]
 | 60=>Row w v (ys++[x])∧∀ g,v.ownBlock=some g→n0≤g
 | 5=>Row w v (ys++[x])∧∀ g,v.ownBlock=some g→n0≤g
 | _=>True
def Gu (u:Value) (i:Nat) (w w':World):Prop:=cond (i == 22) (w.grownBy w' u.ownBlock) (Gr w w')
theorem Su.kept {n0 b gs N cs i gu cu m P Q:Nat} {x:Sec} {lv:Value} {ys:List Sec} (d:Nat) (v:Value) (w w':World) (h:Su n0 b gs N cs i gu cu m P Q x lv ys d v w) (g:Gr w w'):Su n0 b gs N cs i gu cu m P Q x lv ys d v w':=by
 unfold Su at h ⊢
 split <;> simp only at h
 all_goals first
  | exact h
  | exact ⟨Row.gr h.1 g,h.2⟩
  | exact (let ⟨q,h1,h2⟩:=h;⟨q,h1,Row.gr h2 g⟩)
set_option maxRecDepth 100000 in
set_option maxHeartbeats 4000000 in
theorem refCrash_any {G:Nat→Prop} {r:Value} {s:St} (w:World) (h:Rf w G r s) (hls:∀ i,(s.t i).length≤1000000000) (q:Option Addr) (n c:Nat) (zs:List Int) (hz:Nums w q n c zs):Calls Tryz.prog 26 #[r,.slice q n c] w fun e w'=>NewRf w w' e (s.crash zs):=by
 obtain ⟨b,gs,cs,V,rfl,h⟩:=h;obtain ⟨N,hN⟩:∃ N,N=s.ls.length:=⟨_,rfl⟩
 have hN2:N≤65536:=by rw [hN];exact h.most
 have HN:=Lib.hid hN;have HD:=Lib.hid h;have HZ:=Lib.hid hz;have HT:=Lib.hid hls;have hn:=hz.most;have HR0:Hid (Row w (.slice none 0 0) ((List.range 0).map (s.chosen zs))):=Lib.hid (Row.empty w);clear h hN hz hls
 go_enter Tryz.func26,Tryz.ntmps26
 go_wp2_with fail
 go_loopw [5,6,7] (fun l0 k0 i0 wr=>∃ (i:Nat) (lv:Value),i≤N∧k0=.int .i64 (s.rank i:Nat)∧i0=.int .i64 i∧lv=l0∧Hid (Row wr lv ((List.range i).map (s.chosen zs)))∧Hid (∀ g,lv.ownBlock=some g→w.heap.size≤g)∧Hid (Gr w wr)) (fun _ _ i _=>N - (intOf i).toNat)
 case atStart=>exact ⟨0,_,Nat.zero_le _,rfl,rfl,rfl,HR0,Lib.hid (fun g e=>by cases e),Lib.hid (Gr.refl _)⟩
 case round=>
  obtain ⟨i,lv,hi,rfl,rfl,rfl,hrow,hfr,hg⟩:=hrel;have hc:=(HD.out.gr hg.out).cells.1
  rw [← HN.out] at hc
  by_cases hlt:i < N
  ·
   have hi65:(i:Int) < 65536:=by omega
   have hil:i < s.ls.length:=by rw [← HN.out];exact hlt
   have hoc:=(HD.out.gr hg.out).outer.cell i hil;obtain ⟨gu,cu,hv,_,hc1,hc2⟩:=(HD.out.rows i hil).full (at_ne s i)
   rw [at_len] at hv hc1
   obtain ⟨m,hm⟩:∃ m,m=(s.t i).length+1:=⟨_,rfl⟩
   rw [← hm] at hv hc1
   have hm0:0 < m:=by omega
   have hm9:m≤1000000001:=by rw [hm];have:=HT.out i;omega
   rw [hv] at hoc
   have hrow2:Row w (.slice (some ⟨gu,0,none⟩) m cu) (s.at i):=by rw [← hv];exact HD.out.rows i hil
   obtain ⟨P,hP⟩:∃ P,P=s.pickOf zs i:=⟨_,rfl⟩;obtain ⟨Q,hQ⟩:∃ Q,Q=P % m:=⟨_,rfl⟩;obtain ⟨x,hx⟩:∃ x,x=s.chosen zs i:=⟨_,rfl⟩
   have hQm:Q < m:=by rw [hQ];exact Nat.mod_lt _ hm0
   have hQl:Q < (s.at i).length:=by rw [at_len,← hm];exact hQm
   have hPlt:(P:Int) < 18446744073709551616:=by
    rw [hP];unfold St.pickOf;split
    · omega
    · have:=pickAt_lt zs (s.rank i);omega
   have hxq:(s.at i)[Q]=x:=by
    rw [hx,chosen_at,← hm,← hP,← hQ]
    simp [List.getD,hQl]
   have HL:Hid (∀ W,Gr wr W→W.rangeAt gu (Q*256) x.cells):=Lib.hid fun W e=>by rw [← hxq];exact (hrow2.gr (Gr.trans hg.out e)).lies Q hQl
   have HA:Hid (∀ W,Gr wr W→W.cell? ⟨b,0,none⟩=some (.slice (some ⟨gs,0,none⟩) N cs)):=Lib.hid fun W e=>by rw [HN.out];exact (HD.out.gr (Gr.trans hg.out e)).cells.1
   have HV:Hid (∀ W,Gr wr W→W.cell? ⟨gs,i,none⟩=some (.slice (some ⟨gu,0,none⟩) m cu)):=Lib.hid fun W e=>by rw [← hv];exact (HD.out.gr (Gr.trans hg.out e)).outer.cell i hil
   have HQ:Hid ((P:Int) % (m:Int)=(Q:Int)):=Lib.hid (by rw [hQ];rfl);have HX:=Lib.hid hx;have HRk:=Lib.hid (rank_succ s i);have hrk1:=rank_le s i;obtain ⟨rk,hrk⟩:∃ rk,rk=s.rank i:=⟨_,rfl⟩
   rw [← hrk] at hrk1 HRk ⊢
   obtain ⟨rk1,hrk2⟩:∃ rk1,rk1=s.rank (i+1):=⟨_,rfl⟩
   rw [← hrk2] at HRk
   have HRk1:=Lib.hid hrk2;have HPk:Hid (P=if s.t i=[] then 0 else pickAt zs rk):=Lib.hid (by rw [hP,hrk];rfl);have HRow:=hrow;have HF:=hfr;have HG:=hg
   have hm1:s.t i=[]→m=1:=fun e=>by rw [hm,e];rfl
   have hm2:s.t i≠[]→1 < m:=fun e=>by have:=List.length_pos_iff.2 e;omega
   have HM1:=Lib.hid hm1;have HM2:=Lib.hid hm2;clear hrow hfr hg hc1 hc2 hv hrow2 hQl hxq hQ hx hP hrk hrk2 hil hm hm1 hm2
   go_upto_if 26 with fail
   go_cut [6,8] (fun s6 s8 wc=>s6=.int .i64 (rk1:Nat)∧s8=.int .u64 (P:Int)∧wr=wc)
   case first=>
    by_cases ht:s.t i=[]
    ·
     have e1:decide ((1:Int) < (m:Int))=false:=decide_eq_false (by have:=HM1.out ht;omega);rw [e1];have HP0:Hid (P=0):=Lib.hid (by rw [HPk.out,if_pos ht]);have HR1:Hid (rk1=rk):=Lib.hid (by rw [HRk.out,if_pos ht];rfl);clear e1 ht
     go_wp2
     go_meet
     exact ⟨by rw [HR1.out],by rw [HP0.out];rfl,rfl⟩
    ·
     have e1:decide ((1:Int) < (m:Int))=true:=decide_eq_true (by have:=HM2.out ht;omega);rw [e1];have HR1:Hid (rk1=rk+1):=Lib.hid (by rw [HRk.out,if_neg ht]);have HP0:Hid (P=pickAt zs rk):=Lib.hid (by rw [HPk.out,if_neg ht]);clear e1 ht
     go_upto_if 30 with fail
     by_cases hp:rk < n
     ·
      have hz2:=HZ.out.gr HG.out;obtain ⟨b3,o3,rfl,hc3⟩:=hz2.lies (by omega);have hcz:=hc3 rk hp
      have hv2:IntKind.u64.wrap (zs[rk]?.getD 0)=(P:Int):=by
       rw [HP0.out,u64_wrap_nat]
       unfold pickAt
       rw [if_pos (by have:=hz2.len;omega)]
       rfl
      clear hc3 hz2;have e2:decide ((rk:Int) < (n:Int))=true:=decide_eq_true (by omega);have e3:decide (rk < n)=true:=decide_eq_true hp
      first | rw [e2] | rw [e3]
      clear e2 e3
      go_wp2
      go_meet
      exact ⟨by rw [HR1.out];go_num,rfl,rfl⟩
     ·
      have HP1:Hid (P=0):=Lib.hid (by
       rw [HP0.out]
       unfold pickAt
       rw [if_neg (by have:=HZ.out.len;omega)])
      have e2:decide ((rk:Int) < (n:Int))=false:=decide_eq_false (by omega);have e3:decide (rk < n)=false:=decide_eq_false hp
      first | rw [e2] | rw [e3]
      clear e2 e3 hp
      go_wp2
      go_meet
      exact ⟨by rw [HR1.out];go_num,by rw [HP1.out];rfl,rfl⟩
   case rest=>
    obtain ⟨rfl,rfl,rfl⟩:=hcut;clear hc hoc hrk1;obtain ⟨ys,hys⟩:∃ ys,ys=(List.range i).map (s.chosen zs):=⟨_,rfl⟩
    rw [← hys] at HRow
    have HYs:=Lib.hid hys;have HYl:Hid (ys.length+1≤500000000000):=Lib.hid (by rw [hys];simp;omega);clear hys;go_wp2_with fail;refine Flow.regionU 23 22 (by kernel_rfl) [5] 24 (Su w.heap.size b gs N cs i gu cu m P Q x lv ys) (fun W=>wr.grownBy W lv.ownBlock) (fun W=>wr.grownBy W lv.ownBlock) (Gr wr) (Gu lv) (by kernel_rfl) (by kernel_rfl) (by kernel_rfl) ?mono ⟨rfl,rfl,rfl,Nat.le_refl _,fun _ _ _=>rfl⟩ ⟨rfl,rfl,rfl,Nat.le_refl _,fun _ _=>rfl⟩ ?steps ?fin
    case mono=>
     intro i d v w w' hb hs hg
     by_cases h22:i=22
     ·
      subst h22;have:=Flow.bears2_only [] (by kernel_rfl) hb
      cases this
     ·
      have e1:(i == 22)=false:=by simpa using h22
      unfold Gu at hg
      rw [e1] at hg
      exact Su.kept d v w w' hs hg
    case fin=>
     intro a W hfr hfin hsl
     have h5:Row W (a.tmps.getD 5 undef) (ys++[x])∧∀ g,(a.tmps.getD 5 undef).ownBlock=some g→w.heap.size≤g:=hsl 23 _ 5 rfl rfl (by simp);clear hsl;have e:=Flow.frame hfr [5,38,39,40,41,42,43,44,45,46,47,48,49,50,51,52,53,54,55,56,57,58,59,60] (List.range 63) (by kernel_rfl) (by kernel_rfl)
     have e5:a.tmps[5]?.getD undef=a.tmps.getD 5 undef:=by simp
     simp [List.range,List.range.loop] at e
     rw [e];clear e hfr;rw [e5];clear e5;obtain ⟨lv2,hl2⟩:∃ y,y=a.tmps.getD 5 undef:=⟨_,rfl⟩
     rw [← hl2] at h5 ⊢
     clear hl2
     have HR3:Hid (Row W lv2 ((List.range (i+1)).map (s.chosen zs))):=Lib.hid (by
      rw [List.range_succ,List.map_append,← HYs.out];have:=h5.1
      rw [HX.out] at this
      exact this)
     have HF3:=Lib.hid h5.2;have HG3:Hid (Gr w W):=Lib.hid (HG.out.own hfin HF.out);have HK:Hid (rk1=s.rank (i+1)):=HRk1;clear hfin h5 HL HA HV HQ HX HRow HF HG HYs HYl HRk HPk
     rename_i K hK
     refine hK _ _ ?_
     go_wp2
     go_roundw
     case rel=>exact ⟨i+1,_,by omega,by rw [HK.out],by go_num,rfl,HR3,HF3,HG3⟩
     case measure=>simp [intOf];omega
    case steps=>
     refine .cons (fun a W hfr hinv hear hdep K hK=>?_) ?_
     · have t5:=tAt (lv) (hfr.at 5 (by kernel_rfl));refine fW0 rfl ?_;clear hfr hdep hear;go_simp;exact hK _ _ (show Gr W W from Gr.refl W) hinv (fun h=>h) (dsT rfl)
     refine .cons (fun a W hfr hinv hear hdep K hK=>?_) ?_
     · have t0:=tAt (.pointer (some ⟨b,0,none⟩)) (hfr.at 0 (by kernel_rfl));refine fW0 rfl ?_;clear hfr hdep hear;go_simp;exact hK _ _ (show Gr W W from Gr.refl W) hinv (fun h=>h) (dsT rfl)
     refine .cons (fun a W hfr hinv hear hdep K hK=>?_) ?_
     · have t39:=tAt (.pointer (some ⟨b,0,none⟩)) (hdep 39 (by kernel_rfl));refine fW0 rfl ?_;clear hfr hdep hear;go_simp;exact hK _ _ (show Gr W W from Gr.refl W) hinv (fun h=>h) (dsT rfl)
     refine .cons (fun a W hfr hinv hear hdep K hK=>?_) ?_
     · have t40:=tAt (.pointer (some ⟨b,0,none⟩)) (hdep 40 (by kernel_rfl));refine fW0 rfl ?_;clear hfr hdep hear;go_simp;exact hK _ _ (show Gr W W from Gr.refl W) hinv (fun h=>h) (dsT rfl)
     refine .cons (fun a W hfr hinv hear hdep K hK=>?_) ?_
     · have t41:=tAt (.pointer (some ⟨b,0,none⟩)) (hdep 41 (by kernel_rfl));refine fW0 rfl ?_;clear hfr hdep;have he:Gr wr W:=Flow.early hear (by kernel_rfl);clear hear;have hc:=HA.out W he;go_simp;exact hK _ _ (show Gr W W from Gr.refl W) hinv (fun h=>h) (dsT rfl)
     refine .cons (fun a W hfr hinv hear hdep K hK=>?_) ?_
     · have t7:=tAt (.int .i64 (i:Int)) (hfr.at 7 (by kernel_rfl));refine fW0 rfl ?_;clear hfr hdep hear;go_simp;exact hK _ _ (show Gr W W from Gr.refl W) hinv (fun h=>h) (dsT rfl)
     refine .cons (fun a W hfr hinv hear hdep K hK=>?_) ?_
     · have t42:=tAt (.slice (some ⟨gs,0,none⟩) N cs) (hdep 42 (by kernel_rfl));have t43:=tAt (.int .i64 (i:Int)) (hdep 43 (by kernel_rfl));refine fW0 rfl ?_;clear hfr hdep hear;go_simp;exact hK _ _ (show Gr W W from Gr.refl W) hinv (fun h=>h) (dsT rfl)
     refine .cons (fun a W hfr hinv hear hdep K hK=>?_) ?_
     · have t44:=tAt (.pointer (some ⟨gs,i,none⟩)) (hdep 44 (by kernel_rfl));refine fW0 rfl ?_;clear hfr hdep;have he:Gr wr W:=Flow.early hear (by kernel_rfl);clear hear;have hc:=HV.out W he;go_simp;exact hK _ _ (show Gr W W from Gr.refl W) hinv (fun h=>h) (dsT rfl)
     refine .cons (fun a W hfr hinv hear hdep K hK=>?_) ?_
     · have t8:=tAt (.int .u64 (P:Int)) (hfr.at 8 (by kernel_rfl));refine fW0 rfl ?_;clear hfr hdep hear;go_simp;exact hK _ _ (show Gr W W from Gr.refl W) hinv (fun h=>h) (dsT rfl)
     refine .cons (fun a W hfr hinv hear hdep K hK=>?_) ?_
     · have t0:=tAt (.pointer (some ⟨b,0,none⟩)) (hfr.at 0 (by kernel_rfl));refine fW0 rfl ?_;clear hfr hdep hear;go_simp;exact hK _ _ (show Gr W W from Gr.refl W) hinv (fun h=>h) (dsT rfl)
     refine .cons (fun a W hfr hinv hear hdep K hK=>?_) ?_
     · have t47:=tAt (.pointer (some ⟨b,0,none⟩)) (hdep 47 (by kernel_rfl));refine fW0 rfl ?_;clear hfr hdep hear;go_simp;exact hK _ _ (show Gr W W from Gr.refl W) hinv (fun h=>h) (dsT rfl)
     refine .cons (fun a W hfr hinv hear hdep K hK=>?_) ?_
     · have t48:=tAt (.pointer (some ⟨b,0,none⟩)) (hdep 48 (by kernel_rfl));refine fW0 rfl ?_;clear hfr hdep hear;go_simp;exact hK _ _ (show Gr W W from Gr.refl W) hinv (fun h=>h) (dsT rfl)
     refine .cons (fun a W hfr hinv hear hdep K hK=>?_) ?_
     · have t49:=tAt (.pointer (some ⟨b,0,none⟩)) (hdep 49 (by kernel_rfl));refine fW0 rfl ?_;clear hfr hdep;have he:Gr wr W:=Flow.early hear (by kernel_rfl);clear hear;have hc:=HA.out W he;go_simp;exact hK _ _ (show Gr W W from Gr.refl W) hinv (fun h=>h) (dsT rfl)
     refine .cons (fun a W hfr hinv hear hdep K hK=>?_) ?_
     · have t7:=tAt (.int .i64 (i:Int)) (hfr.at 7 (by kernel_rfl));refine fW0 rfl ?_;clear hfr hdep hear;go_simp;exact hK _ _ (show Gr W W from Gr.refl W) hinv (fun h=>h) (dsT rfl)
     refine .cons (fun a W hfr hinv hear hdep K hK=>?_) ?_
     · have t50:=tAt (.slice (some ⟨gs,0,none⟩) N cs) (hdep 50 (by kernel_rfl));have t51:=tAt (.int .i64 (i:Int)) (hdep 51 (by kernel_rfl));refine fW0 rfl ?_;clear hfr hdep hear;go_simp;exact hK _ _ (show Gr W W from Gr.refl W) hinv (fun h=>h) (dsT rfl)
     refine .cons (fun a W hfr hinv hear hdep K hK=>?_) ?_
     · have t52:=tAt (.pointer (some ⟨gs,i,none⟩)) (hdep 52 (by kernel_rfl));refine fW0 rfl ?_;clear hfr hdep;have he:Gr wr W:=Flow.early hear (by kernel_rfl);clear hear;have hc:=HV.out W he;go_simp;exact hK _ _ (show Gr W W from Gr.refl W) hinv (fun h=>h) (dsT rfl)
     refine .cons (fun a W hfr hinv hear hdep K hK=>?_) ?_
     · have t53:=tAt (.slice (some ⟨gu,0,none⟩) m cu) (hdep 53 (by kernel_rfl));refine fW0 rfl ?_;clear hfr hdep hear;go_simp;exact hK _ _ (show Gr W W from Gr.refl W) hinv (fun h=>h) (dsT rfl)
     refine .cons (fun a W hfr hinv hear hdep K hK=>?_) ?_
     ·
      have t54:=tAt (.int .i64 (m:Int)) (hdep 54 (by kernel_rfl));refine fW0 rfl ?_;clear hfr hdep
      have hwr:IntKind.u64.wrap (m:Int)=(m:Int):=by rw [IntKind.wrap_u64];omega
      clear hear;go_simp;exact hK _ _ (show Gr W W from Gr.refl W) hinv (fun h=>h) (dsT rfl)
     refine .cons (fun a W hfr hinv hear hdep K hK=>?_) ?_
     ·
      have t46:=tAt (.int .u64 (P:Int)) (hdep 46 (by kernel_rfl));have t55:=tAt (.int .u64 (m:Int)) (hdep 55 (by kernel_rfl));refine fW0 rfl ?_;clear hfr hdep
      have hq:(P:Int).tmod (m:Int)=(Q:Int):=by rw [Int.tmod_eq_emod_of_nonneg (by omega)];exact HQ.out
      have hm3:¬ m=0:=by omega
      clear hear;go_simp;exact hK _ _ (show Gr W W from Gr.refl W) hinv (fun h=>h) (dsT rfl)
     refine .cons (fun a W hfr hinv hear hdep K hK=>?_) ?_
     · have t45:=tAt (.slice (some ⟨gu,0,none⟩) m cu) (hdep 45 (by kernel_rfl));have t56:=tAt (.int .u64 (Q:Int)) (hdep 56 (by kernel_rfl));refine fW0 rfl ?_;clear hfr hdep hear;go_simp;exact hK _ _ (show Gr W W from Gr.refl W) hinv (fun h=>h) (dsT rfl)
     refine .cons (fun a W hfr hinv hear hdep K hK=>?_) ?_
     · have s57:a.tmps.getD 57 undef=.pointer (some ⟨gu,Q*256,none⟩):=hdep 57 (by kernel_rfl);have t57:=tmpAt s57;refine fW0 rfl ?_;clear hfr hdep;have he:Gr wr W:=Flow.early hear (by kernel_rfl);refine wp_load_sec (.tmp 57) rfl (HL.out W he) (by simpa [Act.eval] using s57) ?_;exact hK _ _ (show Gr W W from Gr.refl W) hinv (fun h=>h) (dsT rfl)
     refine .cons (fun a W hfr hinv hear hdep K hK=>?_) ?_
     · have t58:=tAt (.agg (sec x)) (hdep 58 (by kernel_rfl));refine fW0 rfl ?_;clear hfr hdep;refine wp_buildSecs 1 #[(0,.tmp 58)] rfl [x] rfl (by omega) (by omega) (by simp [Act.eval,t58,partsOf,partsL,sec]) ?_;exact hK _ _ (show Gr W (W.alloc _) from Gr.new W _) (hinv.trans (World.grownBy_alloc W _ _)) (fun h=>Gr.trans h (Gr.new W _)) (fun d hd=>by cases hd;exact ⟨_,rfl,Row.lit W [x] 1 rfl (by omega)⟩)
     refine .cons (fun a W hfr hinv hear hdep K hK=>?_) ?_
     ·
      have s38:a.tmps.getD 38 undef=lv:=hdep 38 (by kernel_rfl);have t38:=tmpAt s38;have s59:(∃ q,(a.tmps.getD 59 undef)=.slice (some ⟨q,0,none⟩) 1 1∧Row W (.slice (some ⟨q,0,none⟩) 1 1) [x]):=hdep 59 (by kernel_rfl);refine fW0 rfl ?_;clear hfr hdep;have he:Gr wr W:=Flow.early hear (by kernel_rfl);obtain ⟨q2,e59,r59⟩:=s59;have hro:Row W lv ys:=HRow.out.gr he;refine app_sec (.tmp 38) (.tmp 59) rfl (by simpa [Act.eval] using s38) hro (by simpa [Act.eval] using e59) r59 rfl HYl.out ?_
      intro v' w' h1 h2 h3
      have hl2:∀ g,v'.ownBlock=some g→w.heap.size≤g:=fun g hg2=>h3.elim (fun h=>HF.out g (h.symm.trans hg2)) (fun h=>by rw [hg2] at h;cases h;exact Nat.le_trans HG.out.size hinv.size)
      exact hK _ _ (show W.grownBy w' lv.ownBlock from h2) (hinv.trans h2) True.intro (fun d hd=>by cases hd;exact ⟨h1,hl2⟩)
     refine .cons (fun a W hfr hinv hear hdep K hK=>?_) ?_
     ·
      have s60:(Row W (a.tmps.getD 60 undef) (ys++[x])∧∀ g,(a.tmps.getD 60 undef).ownBlock=some g→w.heap.size≤g):=hdep 60 (by kernel_rfl);refine fW0 rfl ?_;clear hfr hdep;clear hear
      have e60:a.tmps.getD 60 undef=a.tmps[60]?.getD undef:=by simp
      rw [e60] at s60
      go_simp;exact hK _ _ (show Gr W W from Gr.refl W) hinv True.intro (fun d hd=>by cases hd;exact s60)
     exact True.intro
  ·
   obtain rfl:i=N:=by omega
   have HC:Hid (Calls Tryz.prog 11 #[lv] wr fun e w'=>NewRf wr w' e (s.crash zs)):=Lib.hid (by
    have h1:=refNew_any wr lv _ hrow.out (by simp;rw [HN.out];exact HD.out.pos) (by simp;exact hN2)
    have e:s.crash zs=fresh ((List.range i).map (s.chosen zs)):=by unfold St.crash;rw [HN.out]
    rw [e];exact h1)
   have HG:=hg;clear hrow hfr hg;go_wp2_with fail;refine HC.out.mono ?_;rintro e w2 ⟨p,G2,rfl,h1,h2,h3⟩;have HF:Hid (NewRf w w2 (.returned p) (s.crash zs)):=Lib.hid ⟨p,G2,rfl,h1,Gr.trans HG.out h2,fun k hk=>Nat.le_trans HG.out.size (h3 k hk)⟩;clear h1 h2 h3
   go_wp2
   go_ret
   exact HF.out
end Go.Proofs.YtlijbgapkmfnaaaGreat
namespace Go.Proofs.YtlijbgapkmfnaaaGreat
open Go.RowKit Go.Maps
theorem Upd.same {F:Nat→Prop} (w:World):Upd F F w w:=Upd.of_gr (Gr.refl w)
theorem Upd.pre {F F':Nat→Prop} {w w1 w2:World} (g:Gr w w1) (u:Upd F F' w1 w2):Upd F F' w w2:=(Upd.of_gr g).trans u
end Go.Proofs.YtlijbgapkmfnaaaGreat
namespace Go.Proofs.YtlijbgapkmfnaaaGreat
namespace Flow
open Go
section
variable {P:Program} {ops:Array Oper} {Q:Exit→Act→World→Prop} {md:Region.Mode}
variable {Sl:Nat→Value→World→Prop} {Inv:World→Prop} {G:World→World→Prop} {a0:Act}
theorem walkL (hmono:∀ d v w w',Sl d v w→G w w'→Sl d v w') (hf:fineB md a0.tmps.size ops=true) (hs:∀ (i:Nat) (o:Oper),ops[i]?=some o→Step P md ops Q Sl Inv G a0 o)
  (hfin:∀ a w,Same ops a0 a→Inv w→(∀ (i:Nat) (o:Oper) d,ops[i]?=some o→o.dst=some d→Sl d (a.tmps.getD d undef) w)→Q .normal a w) :
  ∀ (fuel:Nat) (listed:Array Bool) (a:Act) (w:World),left listed ops.size≤fuel→listed.size=ops.size→Same ops a0 a→Inv w →
   (∀ (i:Nat) (o:Oper) d,ops[i]?=some o→listed.getD i true=true→o.dst=some d→Sl d (a.tmps.getD d undef) w)→wpAny P md ops Q fuel listed a w:=by
 have ends:∀ (listed:Array Bool) (a:Act) (w:World),(∀ i,i < ops.size→listed.getD i true=true)→Same ops a0 a→Inv w →
   (∀ (i:Nat) (o:Oper) d,ops[i]?=some o→listed.getD i true=true→o.dst=some d→Sl d (a.tmps.getD d undef) w)→Q .normal a w:=fun listed a w hl hsame hinv hsl=>
  hfin a w hsame hinv fun i o d ho hd=>hsl i o d ho (hl i (Array.getElem?_eq_some_iff.1 ho).1) hd
 have alls:∀ listed:Array Bool,listed.size=ops.size→Region.ready md ops listed=[]→∀ i,i < ops.size→listed.getD i true=true:=by
  intro listed hsz hr i
  induction i using Nat.strongRecOn with
  | _ i ih=>
   intro hi
   cases hg:listed.getD i true with
   | true=>rfl
   | false=>
    exfalso
    have:i ∈ Region.ready md ops listed:=mem_ready.2 ⟨hg,ops[i],Array.getElem?_eq_getElem hi,fun e he hbd=>by
     have hlt:=fineB_down hf (Array.getElem?_eq_getElem hi) e he hbd;have h1:=ih e.on hlt (by omega)
     have h2:e.on < listed.size:=by omega
     simp only [Array.getD_eq_getD_getElem?,Array.getElem?_eq_getElem h2,Option.getD_some] at h1 ⊢
     exact h1⟩
    rw [hr] at this
    cases this
 intro fuel
 induction fuel with
 | zero=>
  intro listed a w hl hsz hsame hinv hsl
  have hall:=left_zero (listed:=listed) (n:=ops.size) (by omega);refine ⟨?_,ends listed a w hall hsame hinv hsl⟩
  cases hr:Region.ready md ops listed with
  | nil=>rfl
  | cons j r=>
   have hj:j ∈ Region.ready md ops listed:=by rw [hr];exact List.mem_cons_self ..
   obtain ⟨hun,o,ho,_⟩:=mem_ready.1 hj
   rw [hall j (Array.getElem?_eq_some_iff.1 ho).1] at hun
   cases hun
 | succ fuel ih=>
  intro listed a w hl hsz hsame hinv hsl
  refine ⟨fun hr=>ends listed a w (alls listed hsz hr) hsame hinv hsl,fun i hi=>?_⟩;obtain ⟨hun,o,ho,hdep⟩:=mem_ready.1 hi;have hib:i < ops.size:=(Array.getElem?_eq_some_iff.1 ho).1
  refine wpOp_step ho fun K hK=>hs i o ho a w hsame hinv ?_ K ?_
  ·
   intro d hd
   have hd':d ∈ needs md ops o:=by simpa using hd
   obtain ⟨e,he,hed⟩:=List.mem_filterMap.1 hd';obtain ⟨he1,he2⟩:=List.mem_filter.1 he
   cases hoe:ops[e.on]? with
   | none=>rw [hoe] at hed;cases hed
   | some oe=>
    rw [hoe] at hed
    have hl1:=hdep e (by simpa using he1) he2;refine hsl e.on oe d hoe ?_ hed
    have h2:e.on < listed.size:=by have:=(Array.getElem?_eq_some_iff.1 hoe).1;omega
    simp only [Array.getD_eq_getD_getElem?,Array.getElem?_eq_getElem h2,Option.getD_some] at hl1 ⊢
    exact hl1
  ·
   intro v w' hg hinv' hv
   refine hK _ _ (ih (listed.setIfInBounds i true) (a.put o.dst v) w' ?_ (by simpa using hsz) ⟨(put_defers ..).trans hsame.defers,(put_size ..).trans hsame.size,fun d hd=>?_⟩ hinv' ?_)
   · have:=left_less hun hib;omega
   · rw [getD_put_other (hd i o ho)];exact hsame.old d hd
   ·
    intro j oj d hoj hlj hdj
    by_cases hji:j=i
    ·
     subst hji
     rw [ho] at hoj
     cases hoj
     have hds:=(fineB_slot hf ho hdj).1;rw [hdj,getD_put_same (by rw [hsame.size];exact hds)];exact hv d hdj
    ·
     rw [getD_put_other (fun e=>hji (fineB_one hf hoj ho hdj e))]
     rw [getD_set_ne true (Ne.symm hji)] at hlj
     exact hmono _ _ _ _ (hsl j oj d hoj hlj hdj) hg
theorem regionL {id:Nat} {w:World} (Sl:Nat→Value→World→Prop) (Inv:World→Prop) (G:World→World→Prop) (hm:P.follows .mixedOrders=true) (hf:fineB .any a0.tmps.size ops=true)
  (hmono:∀ d v w w',Sl d v w→G w w'→Sl d v w') (h0:Inv w.drew) (hs:Steps P .any ops Q Sl Inv G a0 ops.toList)
  (hfin:∀ a w,Same ops a0 a→Inv w→(∀ (i:Nat) (o:Oper) d,ops[i]?=some o→o.dst=some d→Sl d (a.tmps.getD d undef) w)→Q .normal a w) :
  (Code.region id ops true).wp P Q a0 w:=by
 refine wp_region_any hm ?_;refine walkL hmono hf (fun i o ho=>hs.at o (by simpa using Array.mem_of_getElem? ho)) hfin _ _ a0 w.drew ?_ (by simp) ⟨rfl,rfl,fun _ _=>rfl⟩ h0 ?_
 ·
  have:∀ n,left (Array.replicate ops.size false) n≤n:=by
   intro n
   induction n with
   | zero=>exact Nat.le_refl _
   | succ n ih=>simp only [left];split <;> omega
  exact this _
 ·
  intro i o d ho hl _
  have hi:i < ops.size:=(Array.getElem?_eq_some_iff.1 ho).1
  simp [hi] at hl
end
end Flow
end Go.Proofs.YtlijbgapkmfnaaaGreat
