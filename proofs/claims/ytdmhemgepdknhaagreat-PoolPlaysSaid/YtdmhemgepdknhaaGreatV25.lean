/-
  Texts, put together: Pool18 Wal16 Wal17 RefWal1 AppZ RefWal7 Wal18 RefWal2 RefWal3 RefWal4 RecRefMay RefWal5 RefWal6 Wal19 FlowG FlowSG RefWal11 WalLaw1 OwnR.
-/
import Derived.Lib.AppendZeros
import Derived.Maps.AppendAt
import Derived.Deep.RegionHeld3
import Derived.BigQuiet
import Derived.Deep.QuietTactic
import Derived.Deep.DeepCutAuto
import Derived.Deep.CutBlock
import Derived.Test.YtdmhemgepdknhaaGreatV1
import Derived.Test.YtdmhemgepdknhaaGreatV6
import Derived.Test.YtdmhemgepdknhaaGreatV8
import Derived.Test.YtdmhemgepdknhaaGreatV11
import Derived.Test.YtdmhemgepdknhaaGreatV14
import Derived.Test.YtdmhemgepdknhaaGreatV15
import Derived.Test.YtdmhemgepdknhaaGreatV17
import Derived.Test.YtdmhemgepdknhaaGreatV19
import Derived.Test.YtdmhemgepdknhaaGreatV21
import Derived.Test.YtdmhemgepdknhaaGreatV23
import Derived.Test.YtdmhemgepdknhaaGreatV24
set_option linter.unusedVariables false
set_option linter.unusedSimpArgs false
namespace Go.Proofs.YtdmhemgepdknhaaGreat
open Go.RowKit Go.Maps
def Pl.wrGo (P:Pl):List Nat→St→Lg→Int × St × Lg
 | [],s,L=>(0,s,L)
 | i :: r,s,L=>match P.fr i with
  | none=>P.wrGo r s L
  | some f=>if flE s L f.lsn≠0 then (flE s L f.lsn,flS s L f.lsn,flL s L f.lsn) else
   if (flS s L f.lsn).refuses then (8,{ flS s L f.lsn with dead:=true },flL s L f.lsn) else P.wrGo r ((flS s L f.lsn).wrote i (Sx f.sec)) (flL s L f.lsn)
theorem Pl.wrGo_cons (P:Pl) {i:Nat} {r:List Nat} {f:PFr} (hf:P.fr i=some f) (s:St) (L:Lg):P.wrGo (i :: r) s L=if flE s L f.lsn≠0 then (flE s L f.lsn,flS s L f.lsn,flL s L f.lsn) else
   if (flS s L f.lsn).refuses then (8,{ flS s L f.lsn with dead:=true },flL s L f.lsn) else P.wrGo r ((flS s L f.lsn).wrote i (Sx f.sec)) (flL s L f.lsn):=by
 rw [Pl.wrGo,hf]
structure Env (w:World) (b m n:Nat) (pd pl:Value) (B:Nat→Option Nat) (P:Pl) (K:Nat→Prop) (Q:Nat→World→St→Lg→Prop):Prop where
 at_:∀ k W s L,Q k W s L→PlAt W b pd pl m n B P
 gr:∀ k W W' s L,Q k W s L→Gr W W'→Q k W' s L
 less:∀ j k W s L,Q k W s L→j≤k→Q j W s L
 flush:∀ k W s L (u:Nat),Q (k+1) W s L→u≤18446744073709551615→Calls Tryz.prog 67 #[pl,.int .u64 (u:Int)] W fun e w'=>e=.returned (.int .i64 (flE s L u))∧Q k w' (flS s L u) (flL s L u)∧W.heap.size≤w'.heap.size∧∀ k,K k→w'.heap[k]?=W.heap[k]?
 write:∀ k W s L (i:Nat) (S:Sec),Q (k+1) W s L→P.fr i≠none→Calls Tryz.prog 77 #[pd,.int .i64 (i:Int),.agg (sec S)] W fun e w'=>e=.returned (.int .i64 (if s.refuses then 8 else 0))∧Q k w' (if s.refuses then { s with dead:=true } else s.wrote i S) L∧W.heap.size≤w'.heap.size∧∀ k,K k→w'.heap[k]?=W.heap[k]?
theorem lt_of_same {w w':World} {k:Nat} (hk:k < w.heap.size) (h:w'.heap[k]?=w.heap[k]?):k < w'.heap.size:=by
 rcases Nat.lt_or_ge k w'.heap.size with h1 | h1
 · exact h1
 ·
  rw [Array.getElem?_eq_none h1,Array.getElem?_eq_getElem hk] at h
  cases h
theorem Ints.stays {w w':World} {base:Nat} {v:Value} {xs:List Nat} (h:Ints w base v xs) (hg:∀ g,v.ownBlock=some g→w'.heap[g]?=w.heap[g]?):Ints w' base v xs:=by
 rcases h.2 with h0 | ⟨g,cap,cur,rfl,hb,hh,h1⟩
 · exact ⟨h.1,.inl h0⟩
 · exact ⟨h.1,.inr ⟨g,cap,cur,rfl,hb,(hg g rfl).trans hh,h1⟩⟩
section
variable {w w':World} {b m n:Nat} {pd pl:Value} {B:Nat→Option Nat} {P:Pl}
set_option maxRecDepth 100000 in
set_option maxHeartbeats 2000000 in
theorem write_any {s:St} {L:Lg} {E:Nat} {v:Value} {xs:List Nat} (R:Nat) (Z:World→St→Lg→Prop) (K0:Nat→Prop) (hK0:∀ k,K0 k→k < w.heap.size) (h:PlAt w b pd pl m n B P) (hs:ISl w v xs) (hl:xs.length≤900000) (hx:∀ j,j < xs.length→xs.getD j 0 < 65536)
  (hE:∀ W,Gr w W→Calls Tryz.prog 37 #[pl] W fun e w'=>e=.returned (.int .u64 (E:Int))∧Gr W w')
  (hEnv:∀ K:Nat→Prop,(∀ k,K k→K0 k∨w.heap.size≤k)→∃ Q,Env w b m n pd pl B P K Q∧(∀ W,Gr w W→(∀ k,K k→k < W.heap.size)→Q (R+2*xs.length) W s L)∧∀ W s L,Q R W s L→Z W s L) :
  Calls Tryz.prog 44 #[.pointer (some ⟨b,0,none⟩),v] w fun e w'=>
   if (xs.filter fun i => !P.clean i).any (P.unk E) then e=.returned (.int .i64 2)∧Gr w w' else
    e=.returned (.int .i64 (P.wrGo (xs.filter fun i => !P.clean i) s L).1)∧(∀ k,K0 k→w'.heap[k]?=w.heap[k]?)∧Z w' (P.wrGo (xs.filter fun i => !P.clean i) s L).2.1 (P.wrGo (xs.filter fun i => !P.clean i) s L).2.2:=by
 have g0:Gr w (w.alloc (.cells #[.pointer (some ⟨b,0,none⟩)] 26)):=Gr.new _ _;have hbx:=Blk.new w 26 #[.pointer (some ⟨b,0,none⟩)];obtain ⟨W1,hW1⟩:∃ W1,W1=w.alloc (.cells #[.pointer (some ⟨b,0,none⟩)] 26):=⟨_,rfl⟩
 rw [← hW1] at g0 hbx
 have HW1:Hid (w.alloc (.cells #[.pointer (some ⟨b,0,none⟩)] 26)=W1):=Lib.hid hW1.symm;have HB:Hid (Blk W1 w.heap.size 26 #[.pointer (some ⟨b,0,none⟩)]∧Gr w W1):=Lib.hid ⟨hbx,g0⟩;have HP:=Lib.hid h;have HS:=Lib.hid hs;have HLn:=Lib.hid hl;have HX:=Lib.hid hx;have HE:=Lib.hid hE;have HEnv:=Lib.hid hEnv;have HK0:=Lib.hid hK0
 obtain ⟨ds,hds⟩:∃ ds,ds=xs.filter fun i => !P.clean i:=⟨_,rfl⟩
 have hdl:ds.length≤xs.length:=by rw [hds];exact List.length_filter_le _ _
 have HD:Hid (∀ j,j < ds.length→ds.getD j 0 < 65536∧∃ f,P.fr (ds.getD j 0)=some f):=Lib.hid fun j hj=>by
  have h1:ds.getD j 0 ∈ ds:=by simp [List.getD,hj]
  generalize ds.getD j 0=z at h1
  rw [hds] at h1
  obtain ⟨h2,h3⟩:=List.mem_filter.1 h1;obtain ⟨i,hi,rfl⟩:=List.getElem_of_mem h2;have h4:=hx i hi;refine ⟨by simpa [List.getD,hi] using h4,?_⟩
  cases hf:P.fr xs[i] with
  | none=>unfold Pl.clean at h3;rw [hf] at h3;simp at h3
  | some f=>exact ⟨f,rfl⟩
 have HDx:Hid (ds.length≤xs.length):=Lib.hid hdl;have HDl:Hid (ds.length≤900000):=Lib.hid (by omega)
 have HCl:Hid (∀ W,Gr W1 W→Calls Tryz.prog 74 #[v] W fun e w'=>RetLoose xs W e w'):=Lib.hid fun W g=>cloneI_any (hs.gr (Gr.trans g0 g)) hl
 have HDel:Hid (∀ W v2,Gr W1 W→Ints W W1.heap.size v2 xs→Calls Tryz.prog 51 #[v2,fnClean b] W fun e w'=>∃ v',e=.returned v'∧Ints w' W1.heap.size v' ds∧Gr W1 w'):=Lib.hid fun W v2 g hv=>by
  refine (pdeleteR_any ((h.gr g0).gr g) hv hx fun k hk=>Nat.lt_of_lt_of_le (h.low k hk) g0.size).mono ?_;rintro e w' ⟨v',rfl,k1,k2,k3⟩;rw [hds]
  exact ⟨v',rfl,k1,⟨k2.os.trans g.os,k2.tape.trans g.tape,k2.output.trans g.output,Nat.le_trans g.size k2.size,fun k hk=>by
   rcases k3 k hk with h4 | h4
   · exact h4.trans (g.block k hk)
   · have:=g.size;omega⟩⟩
 have HCo:Hid (∀ W v',Gr W1 W→Ints W W1.heap.size v' ds→Calls Tryz.prog 76 #[v',fnUnk w.heap.size] W fun e w'=>e=.returned (.bool (ds.any (P.unk E)))∧Gr W w'):=Lib.hid fun W v' g hv=>containsU_any hv.isl (by have:=HDl.out;omega) fun W' j g' hj=>by
  obtain ⟨k1,f,k2⟩:=HD.out j hj;have g3:=Gr.trans g0 (Gr.trans g g')
  exact unk_any (h.gr g3) (by rw [(Gr.trans g g').cell (blk_lt (hbx.cell 0))];exact hbx.cell 0) k1 k2 fun W2 g2=>hE W2 (Gr.trans g3 g2)
 have c0:W1.drew.cell? ⟨w.heap.size,0,none⟩=some (.pointer (some ⟨b,0,none⟩)):=hbx.cell 0
 have HCc:Hid (∀ W,Gr W1 W→W.cell? ⟨w.heap.size,0,none⟩=some (.pointer (some ⟨b,0,none⟩))):=Lib.hid fun W g=>(hbx.gr g).cell 0
 have HG0:Hid (Gr W1 W1.drew):=Lib.hid ⟨rfl,rfl,rfl,Nat.le_refl _,fun _ _=>rfl⟩;obtain ⟨Y,hY⟩:∃ Y,Y=ds.any (P.unk E):=⟨_,rfl⟩;rw [← hds,← hY]
 rw [← hY] at HCo
 clear h hs hl hx hE hEnv hW1 g0 hbx hds hdl hY hK0
 go_enter Tryz.func44,Tryz.ntmps44
 go_wp2_with fail;rw [HW1.out]
 go_region_held3 (fun V=>V.cell? ⟨w.heap.size,0,none⟩=some (.pointer (some ⟨b,0,none⟩))) (first | exact c0 | exact hc2 | exact hc3) (first
  | (go_at_call 74;refine (HCl.out _ HG0.out).mono ?_;rintro e w2 ⟨v2,rfl,hv2,g2⟩;have HV2:=Lib.hid hv2;have HG2:=Lib.hid (Gr.trans HG0.out g2);have hc2:=HCc.out w2 HG2.out;clear hv2 g2)
  | (go_at_call 51;refine (HDel.out _ _ HG2.out HV2.out).mono ?_;rintro e w3 ⟨v3,rfl,hv3,g3⟩;have HV3:=Lib.hid hv3;have HG3:=Lib.hid g3;have hc3:=HCc.out w3 HG3.out;clear hv3 g3))
 all_goals
  go_wp2_with fail;refine (HCo.out _ _ HG3.out HV3.out).mono ?_;rintro e w4 ⟨rfl,g4⟩;have HG4:=Lib.hid (Gr.trans HG3.out g4);have HV4:=Lib.hid (HV3.out.gr g4);clear g4
  cases Y with
  | true=>
   go_wp2_with fail
   go_ret
   exact ⟨rfl,Gr.trans HB.out.2 HG4.out⟩
  | false=>
   obtain ⟨p3,d3,e3⟩:=HV4.out.shape;subst e3;obtain ⟨N,hN⟩:∃ N,N=ds.length:=⟨_,rfl⟩;have HN:Hid (N=ds.length∧N≤900000):=Lib.hid ⟨hN,by have:=HDl.out;omega⟩
   rw [← hN] at HV4 HV3 ⊢
   obtain ⟨Q,hEv,hQ0,hZ⟩:=HEnv.out (fun k=>K0 k∨k=w.heap.size∨(Value.slice p3 N d3).ownBlock=some k) (fun k hk=>by
    rcases hk with hk | rfl | hk
    · exact .inl hk
    · exact .inr (Nat.le_refl _)
    · exact .inr (Nat.le_trans HB.out.2.size (World.ownsRow.lt HV4.out k hk).1))
   have HEv:=Lib.hid hEv;have HZ:=Lib.hid hZ
   have HQ0:=Lib.hid (hEv.less (R+2*(N - 0)) _ _ _ _ (hQ0 w4 (Gr.trans HB.out.2 HG4.out) (fun k hk=>by
    rcases hk with hk | rfl | hk
    · exact Nat.lt_of_lt_of_le (HK0.out k hk) (Gr.trans HB.out.2 HG4.out).size
    · exact Nat.lt_of_lt_of_le HB.out.1.lt HG4.out.size
    · exact (World.ownsRow.lt HV4.out k hk).2)) (by have:=HDx.out;omega))
   clear hEv hQ0 hN hZ;go_wp2_with fail
   go_loopw [8,9,10,11,23] (fun _ _ _ _ kv wr=>∃ (k:Nat) (s':St) (L':Lg),k≤N∧kv=.int .i64 (k:Int)∧Hid (Q (R+2*(N - k)) wr s' L'∧P.wrGo ds s L=P.wrGo (ds.drop k) s' L'∧Ints wr W1.heap.size (.slice p3 N d3) ds∧wr.cell? ⟨w.heap.size,0,none⟩=some (.pointer (some ⟨b,0,none⟩))∧∀ k,K0 k→wr.heap[k]?=w.heap[k]?)) (fun _ _ _ _ kv _=>N - (intOf kv).toNat)
   case atStart=>exact ⟨0,s,L,Nat.zero_le _,rfl,Lib.hid ⟨HQ0.out,rfl,HV4.out,HCc.out w4 HG4.out,fun k hk=>(Gr.trans HB.out.2 HG4.out).block k (HK0.out k hk)⟩⟩
   case round=>
    obtain ⟨k,s',L',hk,rfl,HI⟩:=hrel
    by_cases hlt:k < N
    ·
     have g3:(k:Int) < (N:Int):=by omega
     have hkd:k < ds.length:=by have:=HN.out.1;omega
     have hI3:=HI.out.2.2.1
     rw [HN.out.1] at hI3
     obtain ⟨q3,d4,e4⟩:=hI3.full (by omega)
     simp only [Value.slice.injEq] at e4
     obtain ⟨rfl,_,rfl⟩:=e4;have ck:=hI3.cellAt k hkd;obtain ⟨h65,f,hf⟩:=HD.out k hkd;obtain ⟨x,hx⟩:∃ x,x=ds.getD k 0:=⟨_,rfl⟩
     rw [← hx] at ck h65 hf
     have hp:=HEv.out.at_ _ _ _ _ HI.out.1;have cx:=HI.out.2.2.2.1;have cm:=hp.c6.2.2.2.2.1;have cl:=hp.c6.2.1;have cd:=hp.c6.1
     obtain ⟨c,hB⟩:∃ c,B x=some c:=by
      cases hB:B x with
      | none=>rw [(hp.has x).1 hB] at hf;cases hf
      | some c=>exact ⟨c,rfl⟩
     obtain ⟨f2,h1,h2,h3⟩:=hp.frs x c hB
     rw [hf] at h1
     cases h1
     have hl0:=hp.map.look x h65
     rw [hB] at hl0
     have hl2:(Instr.lookup TPm (.map (some m)) (.int .i64 (x:Int)) false).run Tryz.prog wr=.ok (.pointer (some ⟨c,0,none⟩)) wr:=hl0;have k0:=(PFr.c4 h2).1;have HIn:=Lib.hid h3;have HFr:=Lib.hid hf;have HXe:Hid (ds.drop k=x :: ds.drop (k+1)):=Lib.hid (by rw [hx];exact drop_getD hkd);have HKN:Hid (R+2*(N - k)=R+2*(N - (k+1))+1+1):=Lib.hid (by omega)
     have HPx:Hid (∀ j W s2 L2,Q j W s2 L2→∃ cf,Blk W c TFr cf∧cf=f.cells∧W.cell? ⟨b,1,none⟩=some pl∧W.cell? ⟨b,0,none⟩=some pd):=Lib.hid fun j W s2 L2 hq=>by
      have hp2:=HEv.out.at_ _ _ _ _ hq;obtain ⟨f2,h1,h2,_⟩:=hp2.frs x c hB
      rw [hf] at h1
      cases h1
      exact ⟨_,h2,rfl,hp2.c6.2.1,hp2.c6.1⟩
     have HFl:Hid (∀ W,Gr wr W→Calls Tryz.prog 67 #[pl,.int .u64 (f.lsn:Int)] W fun e w'=>∃ e1 s1 L1,e=.returned (.int .i64 e1)∧e1=flE s' L' f.lsn∧s1=flS s' L' f.lsn∧L1=flL s' L' f.lsn∧Q (R+2*(N - (k+1))+1) w' s1 L1∧Ints w' W1.heap.size (.slice (some ⟨q3,0,none⟩) ds.length d3) ds∧(w'.cell? ⟨w.heap.size,0,none⟩=some (.pointer (some ⟨b,0,none⟩))∧w'.cell? ⟨b,1,none⟩=some pl∧w'.cell? ⟨c,248,none⟩=some (.int .u64 (f.lsn:Int)))∧∀ k,K0 k→w'.heap[k]?=w.heap[k]?):=Lib.hid fun W g=>by
      refine (HEv.out.flush (R+2*(N - (k+1))+1) W s' L' f.lsn (HEv.out.gr _ _ _ _ _ (HKN.out ▸ HI.out.1) g) h3.l).mono ?_;rintro e w' ⟨rfl,k1,k2,k3⟩;have hI4:=Ints.gr (hI3:Ints wr W1.heap.size (.slice (some ⟨q3,0,none⟩) ds.length d3) ds) g;refine ⟨_,_,_,rfl,rfl,rfl,rfl,k1,hI4.stays fun g' hg'=>k3 g' (.inr (.inr (by rw [HN.out.1];exact hg'))),?_,fun k hk=>(k3 k (.inl hk)).trans ((g.block k (lt_of_same (HK0.out k hk) (HI.out.2.2.2.2 k hk))).trans (HI.out.2.2.2.2 k hk))⟩
      have h5:W.cell? ⟨w.heap.size,0,none⟩=some (.pointer (some ⟨b,0,none⟩)):=by rw [g.cell (blk_lt HI.out.2.2.2.1)];exact HI.out.2.2.2.1
      obtain ⟨cf,n1,n2,n3,n4⟩:=HPx.out _ _ _ _ k1
      rw [n2] at n1
      exact ⟨(World.cell?_of_block (k3 w.heap.size (.inr (.inl rfl)))).trans h5,n3,(PFr.c4 n1).1⟩
     have cx0:wr.drew.cell? ⟨w.heap.size,0,none⟩=some (.pointer (some ⟨b,0,none⟩)):=cx;have cl0:wr.drew.cell? ⟨b,1,none⟩=some pl:=cl;have k00:wr.drew.cell? ⟨c,248,none⟩=some (.int .u64 (f.lsn:Int)):=k0;have HG5:Hid (Gr wr wr.drew):=Lib.hid ⟨rfl,rfl,rfl,Nat.le_refl _,fun _ _=>rfl⟩;clear hI3 hx hkd hp hB hf h2 h3 h65 hl0;go_wp2_with fail;clear cx cl k0 cm cd hl2 ck
     go_region_held3 (fun V=>V.cell? ⟨w.heap.size,0,none⟩=some (.pointer (some ⟨b,0,none⟩))∧V.cell? ⟨b,1,none⟩=some pl∧V.cell? ⟨c,248,none⟩=some (.int .u64 (f.lsn:Int))) (first | exact ⟨cx0,cl0,k00⟩ | exact hS2) (first
      | (go_at_call 67;refine (HFl.out _ HG5.out).mono ?_;rintro e w5 ⟨e1,s1,L1,rfl,he1,hs1,hL1,hq1,hi1,hc1,hk1⟩;have HKA:=Lib.hid hk1;have HQ5:=Lib.hid hq1;have HI5:=Lib.hid hi1;have HC5:=Lib.hid hc1;have HEq:=Lib.hid (show e1=flE s' L' f.lsn∧s1=flS s' L' f.lsn∧L1=flL s' L' f.lsn from ⟨he1,hs1,hL1⟩);have hS2:=HC5.out;clear he1 hs1 hL1 hq1 hi1 hc1 hk1))
     by_cases he0:e1=0
     ·
      subst he0
      have HWr:Hid (∀ W,Gr w5 W→Calls Tryz.prog 77 #[pd,.int .i64 (x:Int),.agg (sec (Sx f.sec))] W fun e w'=>∃ e2 s2,e=.returned (.int .i64 e2)∧e2=(if s1.refuses then 8 else 0)∧s2=(if s1.refuses then { s1 with dead:=true } else s1.wrote x (Sx f.sec))∧Q (R+2*(N - (k+1))) w' s2 L1∧Ints w' W1.heap.size (.slice (some ⟨q3,0,none⟩) ds.length d3) ds∧w'.cell? ⟨w.heap.size,0,none⟩=some (.pointer (some ⟨b,0,none⟩))∧w'.cell? ⟨b,0,none⟩=some pd∧∀ k,K0 k→w'.heap[k]?=w.heap[k]?):=Lib.hid fun W g=>by
       refine (HEv.out.write (R+2*(N - (k+1))) W s1 L1 x (Sx f.sec) (HEv.out.gr _ _ _ _ _ HQ5.out g) (by rw [HFr.out];exact Option.some_ne_none _)).mono ?_;rintro e w' ⟨rfl,k1,k2,k3⟩;have hI4:=Ints.gr HI5.out g
       have h5:W.cell? ⟨w.heap.size,0,none⟩=some (.pointer (some ⟨b,0,none⟩)):=by rw [g.cell (blk_lt HC5.out.1)];exact HC5.out.1
       obtain ⟨cf,n1,n2,n3,n4⟩:=HPx.out _ _ _ _ k1;exact ⟨_,_,rfl,rfl,rfl,k1,hI4.stays fun g' hg'=>k3 g' (.inr (.inr (by rw [HN.out.1];exact hg'))),(World.cell?_of_block (k3 w.heap.size (.inr (.inl rfl)))).trans h5,n4,fun k hk=>(k3 k (.inl hk)).trans ((g.block k (lt_of_same (HK0.out k hk) (HKA.out k hk))).trans (HKA.out k hk))⟩
      obtain ⟨cf,n1,n2,n3,n4⟩:=HPx.out _ _ _ _ HQ5.out;subst n2
      have HSe:Hid (∀ W,Gr w5 W→Calls Tryz.prog 78 #[.pointer (some ⟨c,0,none⟩)] W (RetSecX f.sec W)):=Lib.hid fun W g=>fsector_any (n1.gr g) HIn.out
      have HG6:Hid (Gr w5 w5.drew):=Lib.hid ⟨rfl,rfl,rfl,Nat.le_refl _,fun _ _=>rfl⟩
      have HP0:Hid (∀ W,Gr w5 W→W.cell? ⟨w.heap.size,0,none⟩=some (.pointer (some ⟨b,0,none⟩))∧W.cell? ⟨b,0,none⟩=some pd):=Lib.hid fun W g=>⟨by rw [g.cell (blk_lt HC5.out.1)];exact HC5.out.1,by rw [g.cell (blk_lt n4)];exact n4⟩
      have hS3:=HP0.out w5.drew HG6.out;clear n1 n3 n4 hS2 cx0 cl0 k00;go_wp2_with fail
      go_region_held3 (fun V=>V.cell? ⟨w.heap.size,0,none⟩=some (.pointer (some ⟨b,0,none⟩))∧V.cell? ⟨b,0,none⟩=some pd) (first | exact hS3 | exact hS4 | exact hS5) (first
       | (go_at_call 78;refine (HSe.out _ HG6.out).mono ?_;rintro e w6 ⟨rfl,g6⟩;have HG7:=Lib.hid (Gr.trans HG6.out g6);have hS4:=HP0.out w6 HG7.out;clear g6)
       | (go_at_call 77;refine (HWr.out _ HG7.out).mono ?_;rintro e w7 ⟨e2,s2,rfl,he2,hs2,hq2,hi2,hc2,hd2,hk2⟩;have HKB:=Lib.hid hk2;have HQ7:=Lib.hid hq2;have HI7:=Lib.hid hi2;have HC7:=Lib.hid hc2;have HEq2:=Lib.hid (And.intro he2 hs2);have hS5:=And.intro hc2 hd2;clear he2 hs2 hq2 hi2 hc2 hd2 hk2))
      clear hS3
      by_cases hr:s1.refuses
      ·
       obtain rfl:e2=8:=by rw [HEq2.out.1,if_pos hr]
       have HW:Hid (P.wrGo ds s L=(8,s2,L1)):=Lib.hid (by
        rw [HI.out.2.1,HXe.out,P.wrGo_cons HFr.out,if_neg (by rw [← HEq.out.1];simp),← HEq.out.2.1,← HEq.out.2.2,if_pos hr,HEq2.out.2,if_pos hr])
       clear hr;go_wp2_with fail
       go_ret
       rw [HW.out];exact ⟨rfl,HKB.out,HZ.out _ _ _ (HEv.out.less _ _ _ _ _ HQ7.out (by omega))⟩
      ·
       obtain rfl:e2=0:=by rw [HEq2.out.1,if_neg hr]
       have HW:Hid (P.wrGo ds s L=P.wrGo (ds.drop (k+1)) s2 L1):=Lib.hid (by
        rw [HI.out.2.1,HXe.out,P.wrGo_cons HFr.out,if_neg (by rw [← HEq.out.1];simp),← HEq.out.2.1,← HEq.out.2.2,if_neg hr,HEq2.out.2,if_neg hr])
       have hw:IntKind.i64.wrap ((k:Int)+1)=((k+1:Nat):Int):=by rw [IntWalk.i64_in _ (by have:=HN.out.2;omega)];omega
       have hI8:=HI7.out
       rw [← HN.out.1] at hI8
       have HI8:=Lib.hid hI8;clear hr hI8;go_wp2_with fail
       go_roundw
       case rel=>exact ⟨k+1,s2,L1,by omega,by go_num,Lib.hid ⟨HQ7.out,HW.out,HI8.out,HC7.out,HKB.out⟩⟩
       case measure=>simp [intOf];omega
     ·
      have hne:(e1 == 0)=false:=beq_eq_false_iff_ne.2 he0;go_wp2_with fail
      go_ret
      have hw:P.wrGo ds s L=(e1,s1,L1):=by
       rw [HI.out.2.1,HXe.out,P.wrGo_cons HFr.out,if_pos (by rw [← HEq.out.1];exact he0),← HEq.out.1,← HEq.out.2.1,← HEq.out.2.2]
      rw [hw];exact ⟨rfl,HKA.out,HZ.out _ _ _ (HEv.out.less _ _ _ _ _ HQ5.out (by omega))⟩
    ·
     obtain rfl:k=N:=by omega
     have hw:P.wrGo ds s L=(0,s',L'):=by
      rw [HI.out.2.1,List.drop_of_length_le (by rw [← HN.out.1];exact Nat.le_refl _)]
      rfl
     have HW:=Lib.hid hw;clear hw;go_wp2_with fail
     go_ret
     rw [HW.out];exact ⟨rfl,HI.out.2.2.2.2,HZ.out _ _ _ (HEv.out.less _ _ _ _ _ HI.out.1 (by omega))⟩
end
end Go.Proofs.YtdmhemgepdknhaaGreat
namespace Go.Proofs.YtdmhemgepdknhaaGreat
open Go.RowKit Go.Maps
def RetLg (v:Value) (L':Lg) (b:Nat) (p:Value) (q:Option Addr) (w:World) (e:Ending) (w':World):Prop:=
 ∃ q' m' c',e=.returned v∧LgAt w' b p q' m' c' L'∧Upd (lgS b q) (lgS b q') w w'
section
variable {w w':World} {b:Nat} {p:Value} {q:Option Addr} {m c:Nat} {L:Lg}
theorem LgAt.miss (h:LgAt w b p q m c L):Calls Tryz.prog 50 #[.pointer (some ⟨b,0,none⟩)] w fun e w'=>e=.returned (.bool false)∧w=w':=by
 obtain ⟨d,hd⟩:=h.dsk;exact wmissing_no d b p L.n L.l L.g L.epoch L.tail L.lasts q m c L.rsv L.begun w h.blk hd
theorem LgAt.same (h:LgAt w b p q m c L) {v:Value} {e:Ending} (he:e=.returned v) (g:Gr w w'):RetLg v L b p q w e w':=⟨q,m,c,he,h.gr g,Upd.of_gr g⟩
def Lg.free (L:Lg):Int:=freeR L.l L.rsv L.tail L.fin
theorem free_le (ok:L.Ok):0≤L.free∧L.free≤60000∧(0 < L.free→L.free+L.rsv≤60000∧L.free+L.rsv+(L.fin:Int)≤(L.tail - L.tail % 232:Nat)+232*(L.l - 1)):=by
 have h1:=ok.l1;have h2:=ok.r0;have h3:=ok.near
 unfold Lg.free freeR
 omega
end
def layE (r:Rc) (room:Int):Int:=if mayR r then (if room < (35+r.b.length+r.a.length:Int) then 5 else 0) else 2
def layA (L:Lg) (r:Rc) (room:Int):Nat:=if layE r room=0 then L.fin else 0
def layL (L:Lg) (r:Rc) (room:Int):Lg:=if layE r room=0 then L.more (recL r L.fin) else L
set_option maxRecDepth 100000 in
theorem LgAt.lay {b:Nat} {p:Value} {q:Option Addr} {m c:Nat} {L:Lg} (w:World) (h:LgAt w b p q m c L) (ok:L.Ok) (r:Rc) (hi:r.In) (pb:Option Addr) (nb cb:Nat) (pa:Option Addr) (na ca:Nat) (hb:Byt w pb nb cb r.b) (ha:Byt w pa na ca r.a) (room:Int) :
  Calls Tryz.prog 72 #[.pointer (some ⟨b,0,none⟩),.agg (rcv r pb nb cb pa na ca),.int .i64 room] w (RetLg (.tuple #[.int .u64 (layA L r room:Int),.int .i64 (layE r room)]) (layL L r room) b p q w):=by
 by_cases hf:mayR r=true
 ·
  by_cases hr:room < (35+r.b.length+r.a.length:Int)
  ·
   have hE:layE r room=5:=by unfold layE;rw [if_pos hf,if_pos hr]
   unfold layA layL
   rw [hE];refine (wlay_full w h ok r hi pb nb cb pa na ca hb ha room hf hr).mono ?_;rintro e w1 ⟨rfl,g1⟩;exact h.same rfl g1
  ·
   have hE:layE r room=0:=by unfold layE;rw [if_pos hf,if_neg hr]
   unfold layA layL
   rw [hE];refine (wlay_any w h ok r hi pb nb cb pa na ca hb ha room hf (by omega)).mono ?_;rintro e w1 ⟨q',m',c',rfl,h1,h2⟩;exact ⟨q',m',c',rfl,h1,h2⟩
 ·
  have hE:layE r room=2:=by unfold layE;rw [if_neg hf]
  unfold layA layL
  rw [hE];refine (wlay_no w h ok r hi pb nb cb pa na ca hb ha room (by simpa using hf)).mono ?_;rintro e w1 ⟨rfl,g1⟩;exact h.same rfl g1
set_option maxRecDepth 100000 in
theorem LgAt.Append {b:Nat} {p:Value} {q:Option Addr} {m c:Nat} {L:Lg} (w:World) (h:LgAt w b p q m c L) (ok:L.Ok) (r:Rc) (hi:r.In) (pb:Option Addr) (nb cb:Nat) (pa:Option Addr) (na ca:Nat) (hb:Byt w pb nb cb r.b) (ha:Byt w pa na ca r.a) :
  Calls Tryz.prog 43 #[.pointer (some ⟨b,0,none⟩),.agg (rcv r pb nb cb pa na ca)] w (RetLg (.tuple #[.int .u64 (layA L r L.free:Int),.int .i64 (layE r L.free)]) (layL L r L.free) b p q w):=by
 refine (append_core b 0 r.k r.t r.p r.x r.g r.o pb nb cb pa na ca (layA L r L.free) (layE r L.free) L.free (fun w'=>∃ q' m' c',LgAt w' b p q' m' c' (layL L r L.free)∧Upd (lgS b q) (lgS b q') w w') w (Lib.hid fun W g=>(h.gr g).miss) (Lib.hid fun W g=>LgAt.Free (h.gr g) ok) (Lib.hid fun W g=>?_)).mono ?_
 · refine (LgAt.lay W (h.gr g) ok r hi pb nb cb pa na ca (hb.kept g) (ha.kept g) L.free).mono ?_;rintro e w1 ⟨q',m',c',rfl,h1,h2⟩;exact ⟨rfl,q',m',c',h1,(Upd.of_gr g).comp h2⟩
 · rintro e w1 ⟨rfl,q',m',c',h1,h2⟩;exact ⟨q',m',c',rfl,h1,h2⟩
theorem layL_ok {L:Lg} (ok:L.Ok) (r:Rc) (room:Int) (h:room≤L.free∨room≤L.rsv) (hs:L.fin+room≤(L.tail - L.tail % 232:Nat)+232*L.l) (h1:(L.fin:Int)+room≤9000000000000000000):(layL L r room).Ok:=by
 unfold layL
 split
 ·
  rename_i hE
  unfold layE at hE
  split at hE
  ·
   split at hE
   · cases hE
   ·
    rename_i h2 h3
    have h4:(recL r L.fin).length=35+r.b.length+r.a.length:=recL_len _ _
    have h5:(L.more (recL r L.fin)).fin=L.fin+(35+r.b.length+r.a.length):=by
     show L.lasts - L.lasts % 232+(L.txt++recL r L.fin).length=_
     rw [List.length_append,h4]
     unfold Lg.fin
     omega
    have h6:=ok.l1;refine ⟨ok.may,ok.e0,ok.e1,ok.tl,?_,?_,?_,ok.r0,ok.r1⟩
    ·
     show L.lasts % 232≤(L.txt++recL r L.fin).length
     rw [List.length_append];have:=ok.has
     omega
    · rw [h5];omega
    ·
     rw [h5]
     show _≤L.tail - L.tail % 232+232*L.l.toNat
     omega
  · cases hE
 · exact ok
end Go.Proofs.YtdmhemgepdknhaaGreat
namespace Go.Proofs.YtdmhemgepdknhaaGreat
open Go.RowKit Go.Maps
def Lg.Fits (L:Lg):Prop:=L.rsv=0∨(L.fin:Int)+L.rsv≤(L.tail - L.tail % 232:Nat)+232*(L.l - 1)
theorem more_fin (L:Lg) (r:Rc):(L.more (recL r L.fin)).fin=L.fin+(35+r.b.length+r.a.length):=by
 have h4:(recL r L.fin).length=35+r.b.length+r.a.length:=recL_len _ _
 show L.lasts - L.lasts % 232+(L.txt++recL r L.fin).length=_
 rw [List.length_append,h4]
 unfold Lg.fin
 omega
theorem layE_cases (r:Rc) (room:Int):layE r room=2∨layE r room=5∨(layE r room=0∧mayR r=true∧(35+r.b.length+r.a.length:Int)≤room):=by
 unfold layE
 split
 ·
  rename_i h
  split
  · exact .inr (.inl rfl)
  · exact .inr (.inr ⟨rfl,h,by omega⟩)
 · exact .inl rfl
theorem layL_fin (L:Lg) (r:Rc) (room:Int):(layL L r room).fin=if layE r room=0 then L.fin+(35+r.b.length+r.a.length) else L.fin:=by
 unfold layL
 split
 · exact more_fin L r
 · rfl
theorem append_ok {L:Lg} (ok:L.Ok) (r:Rc) (hm:L.fin≤8000000000000000000):(layL L r L.free).Ok:=by
 have h5:=free_le ok
 rcases layE_cases r L.free with h1 | h1 | ⟨h1,h2,h3⟩
 · unfold layL;rw [h1];exact ok
 · unfold layL;rw [h1];exact ok
 · have h6:=h5.2.2 (by omega);exact layL_ok ok r L.free (.inl (Int.le_refl _)) (by have:=ok.r0;omega) (by omega)
end Go.Proofs.YtdmhemgepdknhaaGreat
namespace Go.Proofs.YtdmhemgepdknhaaGreat
open Go.RowKit

end Go.Proofs.YtdmhemgepdknhaaGreat
namespace Go.Proofs.YtdmhemgepdknhaaGreat
open Go.RowKit

end Go.Proofs.YtdmhemgepdknhaaGreat
namespace Go.Proofs.YtdmhemgepdknhaaGreat
open Go.RowKit Cr

end Go.Proofs.YtdmhemgepdknhaaGreat
namespace Go.Proofs.YtdmhemgepdknhaaGreat
open Go.RowKit Go.Maps Cr
def endL:Nat→List (Nat × Rc)→Nat
 | a,[]=>a
 | _,x :: r=>endL x.1 r
def logT:Nat→List (Nat × Rc)→List (Nat × Nat × Rc)
 | _,[]=>[]
 | a,x :: r=>(a,x.1,x.2) :: logT x.1 r
theorem endL_app:∀ (a:Nat) (l k:List (Nat × Rc)),endL a (l++k)=endL (endL a l) k
 | _,[],_=>rfl
 | a,x :: r,k=>by simp only [List.cons_append,endL];exact endL_app x.1 r k
theorem endL_snoc (a:Nat) (l:List (Nat × Rc)) (x:Nat × Rc):endL a (l++[x])=x.1:=by rw [endL_app];rfl
theorem allL_end:∀ (k:Nat) (xs:List Int) (a:Nat),xs.length≤k→a+xs.length≤18446744073709551615→a≤endL a (allL xs a)∧endL a (allL xs a)≤a+xs.length
 | 0,xs,a,h,_=>by rw [allL_no (ofB_short (by omega))];exact ⟨Nat.le_refl _,Nat.le_add_right _ _⟩
 | k+1,xs,a,h,h2=>by
  cases hb:ofB xs a
  · rw [allL_no hb];exact ⟨Nat.le_refl _,Nat.le_add_right _ _⟩
  ·
   have hn:=ofN_yes hb;rw [allL_yes hb];have e:onW a (ofN xs a)=a+ofN xs a:=onW_of (by omega);rw [e];have:=allL_end k (xs.drop (ofN xs a)) (a+ofN xs a) (by rw [List.length_drop];omega) (by rw [List.length_drop];omega)
   rw [List.length_drop] at this
   show a≤endL (a+ofN xs a) _∧endL (a+ofN xs a) _≤_
   omega
theorem foundL_len (rd:Nat→List Int) (l ep:Nat) (hrd:∀ i,IsSec (rd i)):∀ (f k ls:Nat),(foundL rd l ep f k ls).length≤232*f∧Wd.Small (foundL rd l ep f k ls)
 | 0,_,_=>⟨Nat.le_refl _,fun _ h=>by cases h⟩
 | f+1,k,ls=>by
  unfold foundL
  split
  ·
   rename_i h
   have hm:manyX (rd (3+k % l))≤232:=by
    have:=h.1
    unfold okX at this
    simp at this
    exact this.1
   have hs:Wd.Small (bytX (rd (3+k % l))):=((hrd _).small.drop _).take _
   have hl:(bytX (rd (3+k % l))).length≤232:=by unfold bytX;rw [List.length_take];omega
   rw [List.length_append]
   split
   · exact ⟨by simp;omega,by rw [List.append_nil];exact hs⟩
   · have ih:=foundL_len rd l ep hrd f (k+1) (epX (rd (3+k % l)));exact ⟨by omega,hs.app ih.2⟩
  · exact ⟨by simp,fun _ h=>by cases h⟩
def opB (s:St) (l ep tl:Nat):List Int:=foundL (fun i=>secN (s.nw i)) l ep l (tl / 232) (if 0 < tl % 232 then 0 else ep - 1)
def opX (s:St) (l ep tl:Nat):List (Nat × Rc):=allL ((opB s l ep tl).drop (tl % 232)) tl
def opN (s:St) (l ep tl:Nat):Nat:=endL tl (opX s l ep tl)
def opOk (s:St) (l ep tl:Nat):Bool:=decide (tl % 232≤(opB s l ep tl).length)
def opT (s:St) (l ep tl:Nat):List Int:=(opB s l ep tl).take (tl % 232+(opN s l ep tl - tl))
def opL (s:St) (n l g:Int) (ep tl:Nat):Lg:=
 { n,l,g,epoch:=ep,tail:=tl,lasts:=opN s l.toNat ep tl,txt:=(opT s l.toNat ep tl).drop (tl % 232+(opN s l.toNat ep tl - tl) - opN s l.toNat ep tl % 232),rsv:=0,begun:=false }
theorem opB_len (s:St) (l ep tl:Nat):(opB s l ep tl).length≤232*l∧Wd.Small (opB s l ep tl):=foundL_len _ _ _ (fun i=>secN_sec _) _ _ _
theorem opN_in (s:St) (l ep tl:Nat) (hl:l≤256) (ht:tl≤9000000000000000000):tl≤opN s l ep tl∧opN s l ep tl≤tl+((opB s l ep tl).length - tl % 232):=by
 have h:=(opB_len s l ep tl).1;have:=allL_end _ ((opB s l ep tl).drop (tl % 232)) tl (Nat.le_refl _) (by rw [List.length_drop];omega)
 rw [List.length_drop] at this
 exact this
theorem opL_ok (s:St) (n l g:Int) (ep tl:Nat) (hm:mayL n l g=true) (he:1≤ep) (he2:ep≤4611686018427387904) (ht:tl≤4611686018427387904) (ho:opOk s l.toNat ep tl=true) :
  (opL s n l g ep tl).Ok∧(opL s n l g ep tl).fin=(opL s n l g ep tl).lasts∧(opL s n l g ep tl).Fits∧(opL s n l g ep tl).txt.length=(opL s n l g ep tl).lasts % 232∧(opT s l.toNat ep tl).length=tl % 232+(opN s l.toNat ep tl - tl)∧opN s l.toNat ep tl % 232≤tl % 232+(opN s l.toNat ep tl - tl):=by
 have hin:=may_in hm;have hl:=(opB_len s l.toNat ep tl).1;have hn:=opN_in s l.toNat ep tl (by omega) (by omega)
 have ho2:tl % 232≤(opB s l.toNat ep tl).length:=by simpa [opOk] using ho
 have htl:(opT s l.toNat ep tl).length=tl % 232+(opN s l.toNat ep tl - tl):=by unfold opT;rw [List.length_take];omega
 have hmod:opN s l.toNat ep tl % 232≤tl % 232+(opN s l.toNat ep tl - tl):=by omega
 have hx:(opL s n l g ep tl).txt.length=(opL s n l g ep tl).lasts % 232:=by
  show ((opT s l.toNat ep tl).drop _).length=opN s l.toNat ep tl % 232
  rw [List.length_drop,htl]
  omega
 have hf:(opL s n l g ep tl).fin=(opL s n l g ep tl).lasts:=by unfold Lg.fin;rw [hx];omega
 refine ⟨⟨hm,he,he2,hn.1,Nat.le_of_eq hx.symm,?_,?_,Int.le_refl _,(by show (0:Int)≤60000;decide)⟩,hf,.inl rfl,hx,htl,hmod⟩
 · rw [hf];show opN s l.toNat ep tl≤_;omega
 · rw [hf];show opN s l.toNat ep tl≤tl - tl % 232+232*l.toNat;omega
end Go.Proofs.YtdmhemgepdknhaaGreat
namespace Go.Proofs.YtdmhemgepdknhaaGreat
open Go.RowKit Go.Maps

end Go.Proofs.YtdmhemgepdknhaaGreat
namespace Go.Proofs.YtdmhemgepdknhaaGreat
open Go.RowKit Go.Maps

end Go.Proofs.YtdmhemgepdknhaaGreat
namespace Go.Proofs.YtdmhemgepdknhaaGreat
open Go.RowKit Go.Maps

end Go.Proofs.YtdmhemgepdknhaaGreat
namespace Go.Proofs.YtdmhemgepdknhaaGreat
open Go.RowKit Cr

end Go.Proofs.YtdmhemgepdknhaaGreat
namespace Go.Proofs.YtdmhemgepdknhaaGreat
open Go.RowKit Go.Maps

end Go.Proofs.YtdmhemgepdknhaaGreat
namespace Go.Proofs.YtdmhemgepdknhaaGreat
open Go.RowKit Go.Maps

end Go.Proofs.YtdmhemgepdknhaaGreat
namespace Go.Proofs.YtdmhemgepdknhaaGreat
open Go.RowKit Go.Maps Cr

end Go.Proofs.YtdmhemgepdknhaaGreat
namespace Go.Proofs.YtdmhemgepdknhaaGreat
namespace Flow
open Go

section
variable {P : Program} {ops : Array Oper} {Q : Exit → Act → World → Prop} {md : Region.Mode}

variable {Sl : Nat → Value → World → Prop} {Inv Fin Ear : World → Prop} {G : Nat → World → World → Prop} {a0 : Act}

end
end Flow
end Go.Proofs.YtdmhemgepdknhaaGreat
namespace Go.Proofs.YtdmhemgepdknhaaGreat
namespace Flow
open Go

section
variable {P : Program} {ops : Array Oper} {Q : Exit → Act → World → Prop} {md : Region.Mode}

variable {Sl : Nat → Value → World → Prop} {Inv : (Nat → Bool) → World → Prop} {G : Nat → World → World → Prop} {a0 : Act}

end
end Flow
end Go.Proofs.YtdmhemgepdknhaaGreat
namespace Go.Proofs.YtdmhemgepdknhaaGreat
open Go.RowKit Go.Maps
structure StW (s0:St) (k:Nat) (s:St):Prop where
 len:s.ls.length=s0.ls.length
 less:∀ i,(s.t i).length≤s.writes
 wr:s.writes≤s0.writes+k
theorem StW.wrote {s0 s:St} {k:Nat} (h:StW s0 k s) (i:Nat) (x:Sec):StW s0 (k+1) (s.wrote i x):=by
 refine ⟨h.len,fun j=>?_,by have:=h.wr;show s.writes+1≤_;omega⟩
 show (if j=i then s.t i++[x] else s.t j).length≤s.writes+1
 split
 · have:=h.less i;rw [List.length_append];simp;omega
 · have:=h.less j;omega
theorem StW.barrier {s0 s:St} {k:Nat} (h:StW s0 k s):StW s0 k s.barrier:=
 ⟨by rw [← h.len];simp [St.barrier],fun _=>Nat.zero_le _,h.wr⟩
theorem beg_facts (s:St) (L:Lg):(L.begun=true→begE s L=0∧begS s L=s∧begL s L=L)∧(L.begun=false→s.refuses→begE s L=8∧begS s L={ s with dead:=true }∧begL s L=L) ∧
  (L.begun=false→¬ s.refuses→begE s L=0∧begS s L=(s.wrote (begI L) (begX L)).barrier∧begL s L={ L with begun:=true }):=by
 refine ⟨fun h=>?_,fun h hr=>?_,fun h hr=>?_⟩
 · unfold begE begS begL;simp [h]
 · unfold begE begS begL putDE putD;simp [h,hr]
 ·
  have hd:=putD_alive (i:=begI L) (x:=begX L) hr
  have e1:putD s (begI L) (begX L)=s.wrote (begI L) (begX L):=by unfold putD;rw [if_neg hr]
  rw [e1] at hd
  refine ⟨by unfold begE putDE;rw [h,if_neg (by simp),if_neg hr],?_,by unfold begL;rw [h,if_neg (by simp),if_neg hr]⟩
  unfold begS
  rw [h,if_neg (by simp),if_neg hr,e1]
  unfold BaS
  rw [hd.1]
  rfl
end Go.Proofs.YtdmhemgepdknhaaGreat
namespace Go.Proofs.YtdmhemgepdknhaaGreat
open Go.RowKit Go.Maps
def CodeAt (w:World) (S:Nat→Prop) (pd pl:Value) (s:St) (L:Lg):Prop:=
 ∃ F b q m c,pl=.pointer (some ⟨b,0,none⟩)∧Wl w F b pd q m c s L∧S=wlS F b q
def RetC (v:Value) (s':St) (L':Lg) (S:Nat→Prop) (pd pl:Value) (w:World) (e:Ending) (w':World):Prop:=∃ S',e=.returned v∧CodeAt w' S' pd pl s' L'∧Upd S S' w w'
section
variable {w w':World} {S T:Nat→Prop} {pd pl pw pm:Value} {s:St} {L:Lg} {M:Nat}
theorem CodeAt.low (h:CodeAt w S pd pl s L):∀ k,S k→k < w.heap.size:=by
 obtain ⟨F,b,q,m,c,_,h,rfl⟩:=h;rintro k (hk | hk)
 · exact h.dk.low k hk
 · exact h.lg.low k hk
theorem CodeAt.stays (h:CodeAt w S pd pl s L) (e:∀ k,S k→w'.heap[k]?=w.heap[k]?) (hs:w.heap.size≤w'.heap.size):CodeAt w' S pd pl s L:=by
 obtain ⟨F,b,q,m,c,hp,h,rfl⟩:=h;exact ⟨F,b,q,m,c,hp,⟨h.dk.stays (fun k hk=>e k (.inl hk)) hs,h.lg.stays (fun k hk=>e k (.inr hk)) hs,h.apart⟩,rfl⟩
theorem CodeAt.gr (h:CodeAt w S pd pl s L) (g:Gr w w'):CodeAt w' S pd pl s L:=h.stays (fun k hk=>g.block k (h.low k hk)) g.size
theorem RetC.of_wl {v:Value} {s':St} {L':Lg} {F:Nat→Prop} {b:Nat} {q:Option Addr} {e:Ending} (h:RetWl v s' L' F b pd q w e w'):RetC v s' L' (wlS F b q) pd (.pointer (some ⟨b,0,none⟩)) w e w':=by
 obtain ⟨F',q',m',c',he,h1,h2⟩:=h;exact ⟨_,he,⟨F',b,q',m',c',rfl,h1,rfl⟩,h2⟩
theorem RetC.of_lg {v:Value} {L':Lg} {F:Nat→Prop} {b:Nat} {q:Option Addr} {m c:Nat} {e:Ending} (h0:Wl w F b pd q m c s L) (h:RetLg v L' b pd q w e w'):RetC v s L' (wlS F b q) pd (.pointer (some ⟨b,0,none⟩)) w e w':=by
 obtain ⟨q',m',c',he,h1,hu⟩:=h;obtain ⟨h2,h3⟩:=hu.other h0.dk.low (fun k hl hf=>h0.apart k hf hl);exact ⟨_,he,⟨F,b,q',m',c',rfl,⟨h0.dk.stays h2 hu.size,h1,fun k hf hl=>h3 k hl hf⟩,rfl⟩,⟨hu.os,hu.tape,hu.output,hu.size,fun k hk hn=>hu.block k hk (fun e=>hn (.inr e)),fun k hk=>hk.elim (fun e=>.inl (.inl e)) (fun e=>(hu.fresh k e).imp .inr id)⟩⟩
theorem CodeAt.End (h:CodeAt w S pd pl s L) (ok:L.Ok):Calls Tryz.prog 37 #[pl] w (RetU L.fin w):=by
 obtain ⟨F,b,q,m,c,rfl,h,rfl⟩:=h;exact h.lg.End ok
theorem CodeAt.Lasts (h:CodeAt w S pd pl s L):Calls Tryz.prog 21 #[pl] w (RetU L.lasts w):=by
 obtain ⟨F,b,q,m,c,rfl,h,rfl⟩:=h;obtain ⟨d,hd⟩:=h.lg.dsk;exact wLasts_any d b _ _ _ _ _ _ _ _ _ _ _ _ w h.lg.blk hd
theorem CodeAt.Append (h:CodeAt w S pd pl s L) (ok:L.Ok) (r:Rc) (hi:r.In) (pb:Option Addr) (nb cb:Nat) (pa:Option Addr) (na ca:Nat) (hb:Byt w pb nb cb r.b) (ha:Byt w pa na ca r.a) :
  Calls Tryz.prog 43 #[pl,.agg (rcv r pb nb cb pa na ca)] w (RetC (.tuple #[.int .u64 (layA L r L.free:Int),.int .i64 (layE r L.free)]) s (layL L r L.free) S pd pl w):=by
 obtain ⟨F,b,q,m,c,rfl,h,rfl⟩:=h
 exact (LgAt.Append w h.lg ok r hi pb nb cb pa na ca hb ha).mono fun _ _ hr=>RetC.of_lg h hr
theorem CodeAt.Flush (h:CodeAt w S pd pl s L) (ok:L.Ok) (hn:3+L.l≤s.ls.length) (hw:s.writes≤800000000) (u:Nat) (hu:u≤18446744073709551615):Calls Tryz.prog 67 #[pl,.int .u64 (u:Int)] w (RetC (.int .i64 (flE s L u)) (flS s L u) (flL s L u) S pd pl w):=by
 obtain ⟨F,b,q,m,c,rfl,h,rfl⟩:=h
 exact (wFlush_any w h ok hn hw u hu).mono fun _ _ hr=>RetC.of_wl hr
theorem CodeAt.disk (h:CodeAt w S pd pl s L):∃ F,Dk w F pd s∧(∀ k,F k→S k)∧∀ s' F',Dk w' F' pd s'→Upd F F' w w'→∃ S',CodeAt w' S' pd pl s' L∧Upd S S' w w':=by
 obtain ⟨F,b,q,m,c,rfl,h,rfl⟩:=h;refine ⟨F,h.dk,fun k hk=>.inl hk,fun s' F' hd hu=>?_⟩;obtain ⟨F2,h1,h2⟩:=h.disk ⟨F',hd,hu⟩;exact ⟨_,⟨F2,b,q,m,c,rfl,h1,rfl⟩,h2⟩
end
end Go.Proofs.YtdmhemgepdknhaaGreat
namespace Go.Proofs.YtdmhemgepdknhaaGreat
open Go.RowKit
structure Sl where
 p:Option Addr
 n:Nat
 c:Nat
 xs:List Int
structure Shp (α:Type) where
 k:Nat
 cs:α→List Value
 sl:α→List Sl
 kpos:0 < k
 len:∀ x,(cs x).length=k
 one:∀ x,∀ u ∈ cs x,u.oneCell'=true
theorem Byt.grown {w w':World} {p:Option Addr} {n c:Nat} {xs:List Int} {row:Option Nat} (h:Byt w p n c xs) (g:w.grownBy w' row) (hr:0 < n→∀ y,p=some y→row≠some y.block):Byt w' p n c xs:=
 ⟨h.len,h.cap,h.most,fun hn=>by
  obtain ⟨b,o,rfl,hc⟩:=h.at hn
  refine ⟨b,o,rfl,fun i hi=>?_⟩;rw [← hc i hi]
  exact World.cell?_of_block (g.block b (blk_lt (hc i hi)) (fun e=>hr hn _ rfl e.symm)),h.nilCap,h.small⟩
def Shp.flat {α:Type} (S:Shp α) (L:List α):List Value:=(L.map S.cs).flatten
theorem Shp.flat_snoc {α:Type} (S:Shp α) (L:List α) (x:α):S.flat (L++[x])=S.flat L++S.cs x:=by simp [Shp.flat]
def Sl.In (s:Sl) (w:World) (v:Value):Prop:=Byt w s.p s.n s.c s.xs∧(0 < s.n→∀ y,s.p=some y→v.ownBlock≠some y.block)
structure OwnR {α:Type} (S:Shp α) (w:World) (base:Nat) (T:TypeId) (v:Value) (L:List α):Prop where
 row:w.ownsRow base T S.k v L.length (S.flat L)
 each:∀ x ∈ L,∀ s ∈ S.sl x,s.In w v
theorem OwnR.gr {α:Type} {S:Shp α} {w w':World} {base:Nat} {T:TypeId} {v:Value} {L:List α} (h:OwnR S w base T v L) (g:Gr w w'):OwnR S w' base T v L:=by
 refine ⟨⟨h.row.1,?_⟩,fun x hx s hs=>⟨(h.each x hx s hs).1.kept g,(h.each x hx s hs).2⟩⟩
 rcases h.row.2 with h2 | ⟨b,cap,cur,e,h0,hg,r⟩
 · exact .inl h2
 · exact .inr ⟨b,cap,cur,e,h0,(g.block b (Array.getElem?_eq_some_iff.1 hg).1).trans hg,r⟩
theorem OwnR.grown {α:Type} {S:Shp α} {w w':World} {base:Nat} {T:TypeId} {v:Value} {L:List α} {row:Option Nat} (h:OwnR S w base T v L) (g:w.grownBy w' row) (h1:v.ownBlock=none∨v.ownBlock≠row) (h2:∀ x ∈ L,∀ s ∈ S.sl x,0 < s.n→∀ y,s.p=some y→row≠some y.block):OwnR S w' base T v L:=
 ⟨h.row.kept g h1,fun x hx s hs=>⟨(h.each x hx s hs).1.grown g (h2 x hx s hs),(h.each x hx s hs).2⟩⟩
theorem OwnR.shape {α:Type} {S:Shp α} {w:World} {base:Nat} {T:TypeId} {v:Value} {L:List α} (h:OwnR S w base T v L) (m:Nat) (hm:L.length=m):∃ p c,v=.slice p m c∧m≤c∧c≤maxLen∧(∀ a,p=some a→base≤a.block)∧(p=none→c=0):=by
 rcases h.row.2 with ⟨rfl,hn⟩ | ⟨g,cap,cur,rfl,hb,_,h1,h2,_⟩
 · exact ⟨none,0,by rw [← hm,hn],by omega,Nat.zero_le _,(fun _ h=>by cases h),fun _=>rfl⟩
 · exact ⟨_,cap,by rw [hm],by omega,h2,(fun a h=>by cases h;exact hb),fun h=>by cases h⟩
theorem OwnR.base_le {α:Type} {S:Shp α} {w:World} {B B':Nat} {T:TypeId} {v:Value} {L:List α} (h:OwnR S w B T v L) (hb:B'≤B):OwnR S w B' T v L:=by
 refine ⟨⟨h.row.1,?_⟩,h.each⟩
 rcases h.row.2 with h2 | ⟨b,cap,cur,e,h0,r⟩
 · exact .inl h2
 · exact .inr ⟨b,cap,cur,e,Nat.le_trans hb h0,r⟩
theorem OwnR.base {α:Type} {S:Shp α} {w:World} {B:Nat} {T:TypeId} {v:Value} {L:List α} (h:OwnR S w B T v L):∀ k,v.ownBlock=some k→B≤k∧k < w.heap.size:=h.row.lt
end Go.Proofs.YtdmhemgepdknhaaGreat
