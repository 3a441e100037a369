/-
  Texts, put together: Pool21 Pool22 Pool23.
-/
import Derived.Test.YtdmhemgepdknhaaGreatV1
import Derived.Test.YtdmhemgepdknhaaGreatV27
set_option linter.unusedVariables false
set_option linter.unusedSimpArgs false
namespace Go.Proofs.YtdmhemgepdknhaaGreat
open Go.RowKit Go.Maps
theorem Ints.by_ {w w':World} {base:Nat} {v:Value} {xs:List Nat} {F F':Nat→Prop} (h:Ints w base v xs) (u:Upd F F' w w') (hF:∀ k,F k→k < base):Ints w' base v xs:=
 h.stays fun g hg=>u.block g (World.ownsRow.lt h g hg).2 fun e=>by have:=hF g e;have:=(World.ownsRow.lt h g hg).1;omega
section
variable {w w':World} {b m n:Nat} {pd pl:Value} {B:Nat→Option Nat} {P:Pl} {S:Nat→Prop} {s:St} {L:Lg} {N k R:Nat}
set_option maxRecDepth 100000 in
set_option maxHeartbeats 2000000 in
theorem makeRoom_any (h:PoAt w b m n pd pl B S P s L N k) (hR:R+2*N≤k):Calls Tryz.prog 69 #[.pointer (some ⟨b,0,none⟩)] w fun e w'=>e=.returned (.int .i64 (P.mr s L).1)∧∃ S' B',PoAt w' b m n pd pl B' S' (P.mr s L).2.1 (P.mr s L).2.2.1 (P.mr s L).2.2.2 N R∧Upd (uS S b m B) (uS S' b m B') w w':=by
 by_cases hr:P.held=true∨(P.pages.length:Int) < P.most
 ·
  unfold Pl.mr
  rw [if_pos hr];refine (makeRoom_none h.pl hr ⟨by have:=h.ok.m0;omega,by have:=h.ok.m1;omega⟩).mono ?_;rintro e w' ⟨h1,h2⟩;exact ⟨h1,S,B,(h.gr h2).lower (by omega),Upd.of_gr h2⟩
 have hpl:=h.pl;have hok:=h.ok;obtain ⟨D,ho,hs⟩:=hpl.map.size hpl.has
 have hl:=fun ty q=>(ownsMap_stays ho (show (w.drewN q).heap[m]?=w.heap[m]? from rfl)).len Tryz.underlying78 ty
 obtain ⟨_,_,c2,c3,c4,_⟩:=hpl.c6;have hPN:=hok.pages_len;have hN6:=hok.n;have hmo:=hok.m0;have hm4:=hok.m1
 have hheld:P.held=false:=by cases e:P.held with | false=>rfl | true=>exact absurd (.inl e) hr
 have hge:P.most≤(P.pages.length:Int):=by have:=not_or.1 hr;omega
 rw [hheld] at c3
 obtain ⟨Q,hQ⟩:∃ Q,Q=P.pages.length:=⟨_,rfl⟩;obtain ⟨M,hM⟩:∃ M,M=P.most:=⟨_,rfl⟩;obtain ⟨Y,hY⟩:∃ Y,Y=P.many:=⟨_,rfl⟩
 have hYv:(Y:Int)=(P.pages.length:Int) - P.most+1:=by rw [hY];unfold Pl.many;omega
 obtain ⟨g,hg⟩:∃ g,g=goingL P.usd P.round P.many:=⟨_,rfl⟩;obtain ⟨sp,hsp⟩:∃ sp,sp=sparedL P.usd P.round P.many:=⟨_,rfl⟩;obtain ⟨X,hX⟩:∃ X,X=P.wr g s L:=⟨_,rfl⟩
 have HMr:Hid (P.mr s L=if X.1≠0 then (8,P,X.2) else (0,(P.off sp).leave g,X.2)):=Lib.hid (by
  unfold Pl.mr;rw [if_neg hr,← hg,← hsp,← hX])
 have HG:Hid (∀ j,j < g.length→g.getD j 0 < 65536∧P.fr (g.getD j 0)≠none):=Lib.hid fun j hj=>P.round_mem (goingL_mem (by rw [← hg];exact getD_mem hj))
 have HSp:Hid (∀ j,j < sp.length→sp.getD j 0 < 65536∧P.fr (sp.getD j 0)≠none):=Lib.hid fun j hj=>P.round_mem (sparedL_mem (by rw [← hsp];exact getD_mem hj))
 have hgl:g.length≤N:=by rw [hg];refine Nat.le_trans (goingL_len _ _ _) ?_;rw [P.round_len];exact hPN
 have hsl:sp.length≤N:=by rw [hsp];refine Nat.le_trans sparedL_len ?_;rw [P.round_len];exact hPN
 have HLn:Hid (g.length≤N∧sp.length≤N∧N≤65536):=Lib.hid ⟨hgl,hsl,hN6⟩
 have HCh:Hid (∀ W,Gr w W→Calls Tryz.prog 89 #[.pointer (some ⟨b,0,none⟩),.int .i64 ((Q:Int) - M+1)] W fun e w'=>∃ v1 v2,e=.returned (.tuple #[v1,v2])∧Ints w' w.heap.size v1 g∧Ints w' w.heap.size v2 sp∧Gr w w'):=Lib.hid fun W gW=>by
  rw [show (Q:Int) - M+1=(Y:Int) by rw [hQ,hM];exact hYv.symm];refine (choose_any (hpl.gr gW) hok.hin ⟨hok.h0,hok.h1⟩ Y (by omega) (by omega)).mono ?_;rintro e w' ⟨v1,v2,rfl,k1,k2,k3⟩
  rw [hY,← hg] at k1
  rw [hY,← hsp] at k2
  exact ⟨v1,v2,rfl,Ints.low k1 gW.size,Ints.low k2 gW.size,Gr.trans gW k3⟩
 have HWr:Hid (∀ W v1 v2,Gr w W→Ints W w.heap.size v1 g→Ints W w.heap.size v2 sp→Calls Tryz.prog 44 #[.pointer (some ⟨b,0,none⟩),v1] W fun e w'=>∃ er S',e=.returned (.int .i64 er)∧er=X.1∧PoAt w' b m n pd pl B S' P X.2.1 X.2.2 N R∧Upd S S' w w'∧Ints w' w.heap.size v1 g∧Ints w' w.heap.size v2 sp):=Lib.hid fun W v1 v2 gW k1 k2=>by
  refine (write_po (K0:=fun q=>v1.ownBlock=some q∨v2.ownBlock=some q) (fun q hq=>?_) (h.gr gW) k1.isl (by omega) (fun j hj=>(HG.out j hj).1) (R:=R) (by omega)).mono ?_
  · have h1:w.heap.size≤q∧q < W.heap.size:=hq.elim (fun e=>World.ownsRow.lt k1 q e) (fun e=>World.ownsRow.lt k2 q e);exact ⟨fun e=>by have:=h.cd.low q e;omega,h1.2⟩
  ·
   rintro e w' ⟨rfl,h2,S',h3,h4⟩
   rw [← hX] at h3 ⊢
   exact ⟨_,S',rfl,rfl,h3,Upd.pre gW h4,k1.stays fun q hq=>h2 q (.inl hq),k2.stays fun q hq=>h2 q (.inr hq)⟩
 have HLow:Hid (∀ q,plS b m B q→q < w.heap.size):=Lib.hid hpl.low
 rw [hs] at hl
 rw [← hQ] at hl hge hPN hYv
 rw [← hM] at c2 hge hmo hm4 hYv
 have hw1:IntKind.i64.wrap ((Q:Int) - M)=(Q:Int) - M:=IntWalk.i64_in _ (by omega);have hw2:IntKind.i64.wrap ((Q:Int) - M+1)=(Q:Int) - M+1:=IntWalk.i64_in _ (by omega);have hd:decide ((Q:Int) - M+1≤0)=false:=decide_eq_false (by omega);have HOk:=Lib.hid hok;clear h ho hs hQ hM hY hg hsp hX hr hpl hok hheld hgl hsl hR
 go_enter Tryz.func69,Tryz.ntmps69
 go_wp2_with fail
 go_quiet (fail)
 go_wp2_with fail;refine (HCh.out (w.drewN _) ⟨rfl,rfl,rfl,Nat.le_refl _,fun _ _=>rfl⟩).mono ?_;rintro e w1 ⟨v1,v2,rfl,k1,k2,g1⟩;have HI1:=Lib.hid k1;have HI2:=Lib.hid k2;have HG1:=Lib.hid g1;clear k1 k2 g1 c2 c3 c4 hl hw1 hw2 hd HCh;go_wp2_with fail;refine (HWr.out _ _ _ HG1.out HI1.out HI2.out).mono ?_;rintro e w4 ⟨er,S',rfl,her,hpo,hu,k1,k2⟩;have HPo:=Lib.hid hpo;have HU:=Lib.hid hu;have HV1:=Lib.hid k1;have HV2:=Lib.hid k2;clear hpo hu k1 k2 HI1 HI2 HG1 HWr
 by_cases he:er=0
 ·
  have HE:Hid (P.mr s L=(0,(P.off sp).leave g,X.2)):=Lib.hid (by rw [HMr.out,if_neg (by rw [← her,he];simp)]);subst he;clear her HMr;obtain ⟨p2,d2,e2⟩:=HV2.out.shape;subst e2;obtain ⟨p1,d1,e1⟩:=HV1.out.shape;subst e1;obtain ⟨A,hA⟩:∃ A,A=sp.length:=⟨_,rfl⟩;obtain ⟨C,hC⟩:∃ C,C=g.length:=⟨_,rfl⟩;have HA:Hid (A=sp.length∧A≤65536∧C=g.length∧C≤65536):=Lib.hid ⟨hA,by have:=HLn.out;omega,hC,by have:=HLn.out;omega⟩
  have HV:Hid (∀ W,Upd (plS b m B) (plS b m B) w4 W→Ints W w.heap.size (.slice p2 A d2) sp∧Ints W w.heap.size (.slice p1 C d1) g):=Lib.hid fun W u=>by
   rw [hA,hC];exact ⟨HV2.out.by_ u HLow.out,HV1.out.by_ u HLow.out⟩
  rw [← hA,← hC];clear HV1 HV2 hA hC;go_wp2_with fail
  go_loopw [41] (fun kv wr=>∃ k:Nat,k≤A∧kv=.int .i64 (k:Int)∧Hid (PlAt wr b pd pl m n B (P.off (sp.take k))∧Upd (plS b m B) (plS b m B) w4 wr)) (fun kv _=>A - (intOf kv).toNat)
  case atStart=>exact ⟨0,Nat.zero_le _,rfl,Lib.hid ⟨by rw [List.take_zero,Pl.off_nil];exact HPo.out.pl,Upd.same _⟩⟩
  case round=>
   obtain ⟨k,hk,rfl,HW⟩:=hrel
   by_cases hlt:k < A
   ·
    have g3:(k:Int) < (A:Int):=by omega
    have hkd:k < sp.length:=by have:=HA.out.1;omega
    have hv:=(HV.out _ HW.out.2).1
    rw [HA.out.1] at hv
    obtain ⟨q2,d3,e2⟩:=hv.full (by omega)
    simp only [Value.slice.injEq] at e2
    obtain ⟨rfl,_,rfl⟩:=e2;have ck:=hv.cellAt k hkd;have cm:=HW.out.1.c6.2.2.2.2.1;obtain ⟨hx6,hxn⟩:=HSp.out k hkd
    have hst:=fun f=>P.off_step hkd (f:=f)
    obtain ⟨x,hx⟩:∃ x,x=sp.getD k 0:=⟨_,rfl⟩
    rw [← hx] at ck hst hx6 hxn
    have hl0:=HW.out.1.map.look x hx6
    have hw:IntKind.i64.wrap ((k:Int)+1)=((k+1:Nat):Int):=by rw [IntWalk.i64_in _ (by have:=HA.out.2;omega)];omega
    cases hB:B x with
    | none=>exact absurd ((P.off_none _ x).1 ((HW.out.1.has x).1 hB)) hxn
    | some c=>
     obtain ⟨f,h1,h2,h3⟩:=HW.out.1.frs x c hB;have HS:Hid (P.off (sp.take (k+1))=(P.off (sp.take k)).put x { f with used:=false }):=Lib.hid (hst f h1)
     rw [hB] at hl0
     have hl2:(Instr.lookup TPm (.map (some m)) (.int .i64 (x:Int)) false).run Tryz.prog wr=.ok (.pointer (some ⟨c,0,none⟩)) wr:=hl0;have k4:=(PFr.c4 h2).2.2.2;have f4:=h2.frozen 251
     have HT:Hid (PlAt (wr.setCell ⟨c,251,none⟩ (.bool false)) b pd pl m n B ((P.off (sp.take k)).put x { f with used:=false })∧Upd (plS b m B) (plS b m B) w4 (wr.setCell ⟨c,251,none⟩ (.bool false))):=Lib.hid
      ⟨HW.out.1.turn hB (h3.use false) (by rw [← PFr.setUsed];exact h2.set 251 (.bool false)) (fun j hj=>Below.heap_setCell wr _ _ j hj),HW.out.2.trans (Upd.frOnly (FrOnly.cell hB wr _ _))⟩
     clear hst h1 hl0 hB hkd hx h2 h3 hx6 hxn hv;go_wp2_with fail
     go_roundw
     case rel=>exact ⟨k+1,by omega,by go_num,Lib.hid ⟨by rw [HS.out];exact HT.out.1,HT.out.2⟩⟩
     case measure=>simp [intOf];omega
   ·
    obtain rfl:k=A:=by omega
    have e:sp.take k=sp:=List.take_of_length_le (by rw [← HA.out.1];exact Nat.le_refl _);have h5:=HW.out
    rw [e] at h5
    obtain ⟨w5,hw5⟩:∃ w5,w5=wr:=⟨_,rfl⟩
    rw [← hw5] at h5
    have H5:=Lib.hid h5;have HW5:=Lib.hid hw5;clear e h5 hw5;go_wp2_with fail
    go_loopw [56] (fun kv wr=>∃ k:Nat,k≤C∧kv=.int .i64 (k:Int)∧Hid (PlAt wr b pd pl m n (bLeave B (g.take k)) ((P.off sp).leave (g.take k))∧Upd (plS b m B) (plS b m B) w4 wr)) (fun kv _=>C - (intOf kv).toNat)
    case atStart=>exact ⟨0,Nat.zero_le _,rfl,Lib.hid ⟨by rw [List.take_zero,Pl.leave_nil,bLeave_nil,← HW5.out];exact H5.out.1,by rw [← HW5.out];exact H5.out.2⟩⟩
    case round=>
     obtain ⟨j,hj,rfl,HZ⟩:=hrel
     by_cases hlj:j < C
     ·
      have g3:(j:Int) < (C:Int):=by omega
      have hjd:j < g.length:=by have:=HA.out.2.2.1;omega
      have hv:=(HV.out _ HZ.out.2).2
      rw [HA.out.2.2.1] at hv
      obtain ⟨q2,d3,e2⟩:=hv.full (by omega)
      simp only [Value.slice.injEq] at e2
      obtain ⟨rfl,_,rfl⟩:=e2;have ck:=hv.cellAt j hjd;have cm:=HZ.out.1.c6.2.2.2.2.1;obtain ⟨hx6,hxn⟩:=HG.out j hjd;have hst:=(P.off sp).leave_step hjd;have hsb:=bLeave_step B hjd;obtain ⟨x,hx⟩:∃ x,x=g.getD j 0:=⟨_,rfl⟩
      rw [← hx] at ck hst hx6 hxn hsb
      have hw:IntKind.i64.wrap ((j:Int)+1)=((j+1:Nat):Int):=by rw [IntWalk.i64_in _ (by have:=HA.out.2;omega)];omega
      obtain ⟨w6,hdel,hfm,hgb⟩:=HZ.out.1.map.drop x hx6 0;have hp6:=HZ.out.1.drop hfm hgb
      have HT:Hid (PlAt (w6.setCell ⟨b,5,none⟩ (.int .i64 (x:Int))) b pd pl m n (bLeave B (g.take (j+1))) ((P.off sp).leave (g.take (j+1)))∧Upd (plS b m B) (plS b m B) w4 (w6.setCell ⟨b,5,none⟩ (.int .i64 (x:Int)))):=Lib.hid
       ⟨by rw [hst,hsb];exact hp6.setHand (x:Int),(HZ.out.2.trans (Upd.byMap hgb)).trans (Upd.setB w6 _ _)⟩
      have k5:=hp6.c6.2.2.2.2.2;have f5:=hp6.blk.frozen 5;clear hst hsb hjd hx hx6 hxn hv hfm hgb hp6;go_wp2_with fail
      go_roundw
      case rel=>exact ⟨j+1,by omega,by go_num,HT⟩
      case measure=>simp [intOf];omega
     ·
      obtain rfl:j=C:=by omega
      have e:g.take j=g:=List.take_of_length_le (by rw [← HA.out.2.2.1];exact Nat.le_refl _);have h6:=HZ.out
      rw [e] at h6
      have H6:=Lib.hid h6;clear e h6;go_wp2_with fail
      go_ret
      rw [HE.out];have hpo:=HPo.out;refine ⟨rfl,S',bLeave B g,⟨hpo.cd.stays (fun q hq=>H6.out.2.block q (hpo.cd.low q hq) (hpo.ap q hq)) H6.out.2.size,H6.out.1,fun q hq e=>hpo.ap q hq (bLeave_sub e),hpo.bud,(HOk.out.off sp).leave fun i hi=>?_,hpo.cnt⟩,HU.out.both H6.out.2 HLow.out hpo.ap fun q hq=>bLeave_sub hq⟩;obtain ⟨z,hz,rfl⟩:=List.getElem_of_mem hi;have:=(HG.out z hz).1
      simpa [List.getD,hz] using this
 ·
  have hne:(er == 0)=false:=beq_eq_false_iff_ne.2 he;have HE:Hid (P.mr s L=(8,P,X.2)):=Lib.hid (by rw [HMr.out,if_pos (by rw [← her];exact he)]);clear her HMr;go_wp2_with fail
  go_ret
  rw [HE.out];exact ⟨rfl,S',B,HPo.out,HU.out.both (Upd.same _) HLow.out HPo.out.ap fun q hq=>hq⟩
end
end Go.Proofs.YtdmhemgepdknhaaGreat
namespace Go.Proofs.YtdmhemgepdknhaaGreat
open Go.RowKit Go.Maps
def Pl.us (P:Pl) (i:Nat) (s:St) (L:Lg):Int × Pl × St × Lg:=match P.fr i with
 | some f=>(0,P.use i f,s,L)
 | none=>if (P.mr s L).1≠0 then P.mr s L else (0,(P.mr s L).2.1.use i (frS (secN ((P.mr s L).2.2.1.nw i))),(P.mr s L).2.2)
theorem PlOk.use {P:Pl} {N i:Nat} (h:PlOk P N) (hi:i < N) (f:PFr):PlOk (P.use i f) N:=⟨fun j hj=>by
  by_cases e:j=i
  · omega
  ·
   refine h.lt j ?_;have h1:(if j=i then some ({ f with used:=true }:PFr) else P.fr j)≠none:=hj
   rwa [if_neg e] at h1,h.n,h.h0,h.h1,h.m0,h.m1⟩
section
variable {w w':World} {b m n:Nat} {pd pl:Value} {B:Nat→Option Nat} {P:Pl} {S:Nat→Prop} {s:St} {L:Lg} {N k R:Nat}
set_option maxRecDepth 100000 in
set_option maxHeartbeats 1000000 in
theorem use_refused {i:Nat} (hi:i < 65536) (Z:World→Prop) {er:Int} (her:er≠0) (h:PlAt w b pd pl m n B P) (hno:P.fr i=none)
  (hMR:Calls Tryz.prog 69 #[.pointer (some ⟨b,0,none⟩)] w fun e w'=>e=.returned (.int .i64 er)∧Z w') :
  Calls Tryz.prog 41 #[.pointer (some ⟨b,0,none⟩),.int .i64 (i:Int)] w fun e w'=>e=.returned (.tuple #[.pointer none,.int .i64 er])∧Z w':=by
 have c4:=h.c6.2.2.2.2.1;have hl:=h.map.look i hi
 rw [(h.has i).2 hno] at hl
 have hl2:(Instr.lookup TPm (.map (some m)) (.int .i64 (i:Int)) false).run Tryz.prog w=.ok (.pointer none) w:=hl;have HM:=Lib.hid hMR;have hne:(er == 0)=false:=beq_eq_false_iff_ne.2 her;clear h hl hMR hno her
 go_enter Tryz.func41,Tryz.ntmps41
 go_wp2_with fail;refine HM.out.mono ?_;rintro e w1 ⟨rfl,hZ⟩;have HZ:=Lib.hid hZ;clear hZ;go_wp2_with fail
 go_ret2
 exact ⟨rfl,HZ.out⟩
def RetUs (P:Pl) (i:Nat) (s:St) (L:Lg) (b m n:Nat) (pd pl:Value) (B:Nat→Option Nat) (S:Nat→Prop) (N R:Nat) (w:World) (e:Ending) (w':World):Prop:=
 ∃ S' n' B',PoAt w' b m n' pd pl B' S' (P.us i s L).2.1 (P.us i s L).2.2.1 (P.us i s L).2.2.2 N R∧Upd (uS S b m B) (uS S' b m B') w w' ∧
  (((P.us i s L).1≠0∧e=.returned (.tuple #[.pointer none,.int .i64 (P.us i s L).1]))∨((P.us i s L).1=0∧∃ c f,e=.returned (.tuple #[.pointer (some ⟨c,0,none⟩),.int .i64 0])∧B' i=some c∧(P.us i s L).2.1.fr i=some f))
theorem use_any {i:Nat} (h:PoAt w b m n pd pl B S P s L N k) (hi:i < N) (hR:R+2*N+1≤k):Calls Tryz.prog 41 #[.pointer (some ⟨b,0,none⟩),.int .i64 (i:Int)] w (RetUs P i s L b m n pd pl B S N R w):=by
 have hi6:i < 65536:=by have:=h.ok.n;omega
 cases hf:P.fr i with
 | some f=>
  obtain ⟨c,hB⟩:∃ c,B i=some c:=by
   cases hB:B i with
   | none=>rw [(h.pl.has i).1 hB] at hf;cases hf
   | some c=>exact ⟨c,rfl⟩
  refine (use_in h.pl hi6 hB hf).mono ?_;rintro e w' ⟨rfl,h1,h2⟩
  have hus:P.us i s L=(0,P.use i f,s,L):=by unfold Pl.us;rw [hf]
  have hu:=Upd.frOnly (b:=b) (m:=m) h2
  unfold RetUs
  rw [hus]
  exact ⟨S,n,B,⟨h.cd.stays (fun q hq=>hu.block q (h.cd.low q hq) (h.ap q hq)) hu.size,h1,h.ap,h.bud.lower (by omega),h.ok.use hi f,by have:=h.cnt;omega⟩,(Upd.same (F:=S) w).both hu h.pl.low h.ap fun _ e=>e,
   .inr ⟨rfl,c,{ f with used:=true },rfl,hB,if_pos rfl⟩⟩
 | none=>
  by_cases he:(P.mr s L).1=0
  ·
   have hus:P.us i s L=(0,(P.mr s L).2.1.use i (frS (secN ((P.mr s L).2.2.1.nw i))),(P.mr s L).2.2):=by unfold Pl.us;rw [hf];exact if_neg (by rw [he];simp)
   unfold RetUs
   rw [hus];have hno:=P.mr_fr s L hf;have hm:=makeRoom_any h (R:=R+1) (by omega)
   rw [he] at hm
   obtain ⟨P1,hP1⟩:∃ P1,P1=(P.mr s L).2.1:=⟨_,rfl⟩;obtain ⟨s1,hs1⟩:∃ s1,s1=(P.mr s L).2.2.1:=⟨_,rfl⟩;obtain ⟨L1,hL1⟩:∃ L1,L1=(P.mr s L).2.2.2:=⟨_,rfl⟩
   rw [← hP1,← hs1,← hL1] at hm
   have e2:(P.mr s L).2.2=(s1,L1):=by rw [hs1,hL1]
   rw [← hP1] at hno
   rw [e2,← hP1];refine (use_miss hi6 (fun W n1 B1 P' s'=>P'=P1∧s'=s1∧∃ S1,n1=n∧PoAt W b m n pd pl B1 S1 P1 s1 L1 N (R+1)∧Upd (uS S b m B) (uS S1 b m B1) w W) h.pl hf (hm.mono ?_)).mono ?_
   · rintro e W ⟨rfl,S1,B1,h1,h2⟩;obtain ⟨F,hd,-⟩:=h1.cd.disk (w':=W);exact ⟨rfl,n,B1,P1,F,s1,h1.pl,hd,by rw [h1.bud.len];exact hi,hno,by have:=h.cnt;omega,rfl,rfl,S1,rfl,h1,h2⟩
   ·
    rintro e w' ⟨n1,B1,P',s',c,wM,⟨rfl,rfl,S1,rfl,h1,h2⟩,rfl,h3,h4,h5⟩
    have hcS:∀ q,S1 q→q≠c:=fun q hq e=>by have:=h1.cd.low q hq;omega
    have hst:∀ q,S1 q→w'.heap[q]?=wM.heap[q]?:=fun q hq=>h4.block q (h1.cd.low q hq) fun e=>h1.ap q hq (.inr (.inl (by cases e;rfl)))
    refine ⟨S1,n1+1,_,⟨h1.cd.stays hst h4.size,h3,fun q hq hp=>?_,h1.bud.lower (by omega),h1.ok.use hi _,by have:=h.cnt;omega⟩,⟨h4.os.trans h2.os,h4.tape.trans h2.tape,h4.output.trans h2.output,Nat.le_trans h2.size h4.size,fun q hq hn=>?_,fun q hq=>?_⟩,.inr ⟨rfl,c,_,rfl,if_pos rfl,if_pos rfl⟩⟩
    ·
     rcases hp with hp | hp | ⟨j,hp⟩
     · exact h1.ap q hq (.inl hp)
     · exact h1.ap q hq (.inr (.inl hp))
     ·
      dsimp only at hp
      split at hp
      · cases hp;exact hcS _ hq rfl
      · exact h1.ap q hq (.inr (.inr ⟨j,hp⟩))
    · exact (h4.block q (Nat.lt_of_lt_of_le hq h2.size) fun e=>hn (.inr (.inr (.inl (by cases e;rfl))))).trans (h2.block q hq hn)
    ·
     rcases hq with hq | hq | hq | ⟨j,hq⟩
     · exact h2.fresh q (.inl hq)
     · exact .inl (.inr (.inl hq))
     · exact .inl (.inr (.inr (.inl hq)))
     ·
      dsimp only at hq
      split at hq
      · cases hq;exact .inr (Nat.le_trans h2.size h5)
      · exact h2.fresh q (.inr (.inr (.inr ⟨j,hq⟩)))
  ·
   have hus:P.us i s L=P.mr s L:=by unfold Pl.us;rw [hf];exact if_pos he
   unfold RetUs
   rw [hus];refine (use_refused hi6 (fun W=>∃ S' B',PoAt W b m n pd pl B' S' (P.mr s L).2.1 (P.mr s L).2.2.1 (P.mr s L).2.2.2 N R∧Upd (uS S b m B) (uS S' b m B') w W) he h.pl hf (makeRoom_any h (by omega))).mono ?_;rintro e w' ⟨rfl,S',B',h1,h2⟩;exact ⟨S',n,B',h1,h2,.inl ⟨he,rfl⟩⟩
end
end Go.Proofs.YtdmhemgepdknhaaGreat
namespace Go.Proofs.YtdmhemgepdknhaaGreat
open Go.RowKit Go.Maps
theorem setCells_blk {g:Nat} {t:TypeId}:∀ (vs:List Value) (o:Nat) {w:World} {cs:Array Value},Blk w g t cs→∃ cs',Blk (w.setCells g o vs) g t cs'∧cs'.size=cs.size∧(∀ (j:Nat) (v:Value),vs[j]?=some v→o+j < cs.size→cs'[o+j]?=some v)∧∀ k,k < o→cs'[k]?=cs[k]?
 | [],o,w,cs,h=>⟨cs,h,rfl,fun j v hj=>by simp at hj,fun _ _=>rfl⟩
 | v :: vs,o,w,cs,h=>by
  obtain ⟨cs',h1,h2,h3,h4⟩:=setCells_blk vs (o+1) (h.set o v);refine ⟨cs',h1,by rw [h2];simp,fun j u hj hlt=>?_,fun k hk=>?_⟩
  ·
   cases j with
   | zero=>
    simp only [List.getElem?_cons_zero,Option.some.injEq] at hj
    subst hj
    rw [Nat.add_zero] at hlt ⊢
    rw [h4 o (by omega),Array.getElem?_setIfInBounds]
    simp [hlt]
   | succ j=>
    have h5:=h3 j u (by simpa using hj) (by simp;omega)
    rwa [show o+1+j=o+(j+1) by omega] at h5
  · rw [h4 k (by omega),Array.getElem?_setIfInBounds];rw [if_neg (by omega)]
theorem Blk.whole {w:World} {g:Nat} {t:TypeId} {cs:Array Value} (h:Blk w g t cs) (vs:List Value) (hl:vs.length=cs.size):Blk (w.setCells g 0 vs) g t vs.toArray:=by
 obtain ⟨cs',h1,h2,h3,-⟩:=setCells_blk vs 0 h
 have e:cs'=vs.toArray:=by
  refine Array.ext_getElem? fun j=>?_
  by_cases hj:j < vs.length
  ·
   have h4:=h3 j vs[j] (List.getElem?_eq_getElem hj) (by omega)
   rw [Nat.zero_add] at h4
   rw [h4];simp [hj]
  · rw [Array.getElem?_eq_none (by omega),Array.getElem?_eq_none (by simp;omega)]
 rw [← e];exact h1
theorem setCells_size (g:Nat):∀ (vs:List Value) (o:Nat) (w:World),(w.setCells g o vs).heap.size=w.heap.size
 | [],_,_=>rfl
 | v :: vs,o,w=>by
  have h:=setCells_size g vs (o+1) (w.setCell ⟨g,o,none⟩ v);rw [World.setCells,h]
  simp
theorem setCells_other {g k:Nat} (hk:k≠g):∀ (vs:List Value) (o:Nat) (w:World),(w.setCells g o vs).heap[k]?=w.heap[k]?
 | [],_,_=>rfl
 | v :: vs,o,w=>(setCells_other hk vs (o+1) (w.setCell ⟨g,o,none⟩ v)).trans (Below.heap_setCell w ⟨g,o,none⟩ v k hk)
theorem setCells_rest (g:Nat):∀ (vs:List Value) (o:Nat) (w:World),(w.setCells g o vs).os=w.os∧(w.setCells g o vs).tape=w.tape∧(w.setCells g o vs).output=w.output
 | [],_,_=>⟨rfl,rfl,rfl⟩
 | v :: vs,o,w=>by
  have hb:=(Below.refl 0 w).setCell (p:=⟨g,o,none⟩) (Nat.zero_le _) v;obtain ⟨h1,h2,h3⟩:=setCells_rest g vs (o+1) (w.setCell ⟨g,o,none⟩ v);exact ⟨h1.trans hb.os,h2.trans hb.tape,h3.trans hb.output⟩
def Pl.gt (P:Pl) (N:Nat) (i:Int) (s:St) (L:Lg):(PSec × Nat × Int) × Pl × St × Lg:=
 if askE N i≠0 then ((PSec.zero,0,askE N i),P,s,L) else
  if (P.us i.toNat s L).1≠0 then ((PSec.zero,0,(P.us i.toNat s L).1),(P.us i.toNat s L).2) else
   (match (P.us i.toNat s L).2.1.fr i.toNat with | some f=>(PSx f.pay,f.lsn,0) | none=>(PSec.zero,0,0),(P.us i.toNat s L).2)
section
variable {w w' w1:World} {b m n:Nat} {pd pl:Value} {B:Nat→Option Nat} {P:Pl} {S:Nat→Prop} {s:St} {L:Lg} {N k R:Nat}
theorem PoAt.stays (h:PoAt w b m n pd pl B S P s L N k) (e:∀ q,uS S b m B q→w'.heap[q]?=w.heap[q]?) (hs:w.heap.size≤w'.heap.size):PoAt w' b m n pd pl B S P s L N k:=
 ⟨h.cd.stays (fun q hq=>e q (.inl hq)) hs,h.pl.stays fun q hq=>e q (.inr hq),h.ap,h.bud,h.ok,h.cnt⟩
theorem PoAt.row (h:PoAt w b m n pd pl B S P s L N k) {q:Nat} (hq:¬ uS S b m B q) (cs:Array Value):PoAt (w.setRow q cs) b m n pd pl B S P s L N k:=
 h.stays (fun k hk=>setRow_other w q k cs fun e=>hq (e ▸ hk)) (by simp)
theorem Upd.row {F F':Nat→Prop} (h:Upd F F' w w') {q:Nat} (hq:w.heap.size≤q) (cs:Array Value):Upd F F' w (w'.setRow q cs):=
 ⟨h.os,h.tape,h.output,by simpa using h.size,fun k hk hn=>(setRow_other w' q k cs (by omega)).trans (h.block k hk hn),h.fresh⟩
theorem PoAt.cells (h:PoAt w b m n pd pl B S P s L N k) {q:Nat} (hq:¬ uS S b m B q) (vs:List Value):PoAt (w.setCells q 0 vs) b m n pd pl B S P s L N k:=
 h.stays (fun k hk=>setCells_other (fun e=>hq (by rw [← e];exact hk)) vs 0 w) (Nat.le_of_eq (setCells_size q vs 0 w).symm)
theorem Upd.cells {F F':Nat→Prop} (h:Upd F F' w w') {q:Nat} (hq:w.heap.size≤q) (vs:List Value):Upd F F' w (w'.setCells q 0 vs):=
 have hk:=setCells_rest q vs 0 w'
 ⟨hk.1.trans h.os,hk.2.1.trans h.tape,hk.2.2.trans h.output,Nat.le_trans h.size (Nat.le_of_eq (setCells_size q vs 0 w').symm),fun k hk hn=>(setCells_other (by omega) vs 0 w').trans (h.block k hk hn),h.fresh⟩
theorem askE_no {N:Nat} {i:Int} (h:askE N i=0):0≤i∧i < (N:Int):=by
 unfold askE at h
 split at h
 · cases h
 · omega
def RetPo (v:Value) (P:Pl) (s:St) (L:Lg) (b m:Nat) (pd pl:Value) (B:Nat→Option Nat) (S:Nat→Prop) (N R:Nat) (w:World) (e:Ending) (w':World):Prop:=
 e=.returned v∧∃ S' n' B',PoAt w' b m n' pd pl B' S' P s L N R∧Upd (uS S b m B) (uS S' b m B') w w'
def gtV (x:PSec × Nat × Int):Value:=.tuple #[.agg (Psec x.1),.int .u64 (x.2.1:Int),.int .i64 x.2.2]
set_option maxRecDepth 100000 in
set_option maxHeartbeats 2000000 in
theorem Get_any (h:PoAt w b m n pd pl B S P s L N k) (hR:R+2*N+1≤k) (i:Int):Calls Tryz.prog 11 #[.pointer (some ⟨b,0,none⟩),.int .i64 i] w (RetPo (gtV (P.gt N i s L).1) (P.gt N i s L).2.1 (P.gt N i s L).2.2.1 (P.gt N i s L).2.2.2 b m pd pl B S N R w):=by
 have g0:Gr w (w.alloc (.cells (Psec PSec.zero) PTS)):=Gr.new _ _;have HB:Hid (Blk (w.alloc (.cells (Psec PSec.zero) PTS)) w.heap.size PTS (Psec PSec.zero)):=Lib.hid (Blk.new _ _ _);obtain ⟨W1,hW1⟩:∃ W1,W1=w.alloc (.cells (Psec PSec.zero) PTS):=⟨_,rfl⟩
 rw [← hW1] at g0 HB
 have HW1:Hid (w.alloc (.cells (Psec PSec.zero) PTS)=W1):=Lib.hid hW1.symm;have h1:=h.gr g0;obtain ⟨F,hd,-⟩:=h1.cd.disk (w':=W1);have HA:=pasked_any h1.pl hd i
 rw [h1.bud.len] at HA
 have HAk:=Lib.hid HA;have hz:=Pzero_sec;have HPo:=Lib.hid h;have HG:=Lib.hid g0;have HLow:=Lib.hid h.low;have hlo:w.heap.size < W1.heap.size:=HB.out.lt
 have HU:Hid (askE N i=0→Calls Tryz.prog 41 #[.pointer (some ⟨b,0,none⟩),.int .i64 i] W1 fun e w'=>∃ er S' n' B',er=(P.us i.toNat s L).1∧PoAt w' b m n' pd pl B' S' (P.us i.toNat s L).2.1 (P.us i.toNat s L).2.2.1 (P.us i.toNat s L).2.2.2 N R∧Upd (uS S b m B) (uS S' b m B') w w'∧¬ uS S' b m B' w.heap.size∧Blk w' w.heap.size PTS (Psec PSec.zero) ∧
   ((er≠0∧e=.returned (.tuple #[.pointer none,.int .i64 er]))∨(er=0∧∃ c f,e=.returned (.tuple #[.pointer (some ⟨c,0,none⟩),.int .i64 0])∧c≠w.heap.size∧Blk w' c TFr f.cells∧(P.us i.toNat s L).2.1.fr i.toNat=some f))):=Lib.hid fun ha=>by
  obtain ⟨ha0,ha1⟩:=askE_no ha;obtain ⟨j,rfl⟩:∃ j:Nat,i=(j:Int):=⟨i.toNat,by omega⟩;refine (use_any h1 (i:=j) (by omega) hR).mono ?_;rintro e w' ⟨S',n',B',k1,k2,k3⟩
  have hn:¬ uS S' b m B' w.heap.size:=fun e=>by
   rcases k2.fresh _ e with h4 | h4
   · have:=HLow.out _ h4;omega
   · omega
  refine ⟨_,S',n',B',rfl,k1,Upd.pre g0 k2,hn,HB.out.stays (k2.block _ hlo fun e=>by have:=HLow.out _ e;omega),?_⟩
  rcases k3 with k3 | ⟨k3,c,f,k4,k5,k6⟩
  · exact .inl k3
  ·
   obtain ⟨f2,n1,n2,n3⟩:=k1.pl.frs j c k5
   rw [show ((j:Int).toNat)=j from rfl] at *
   rw [k6] at n1
   cases n1
   exact .inr ⟨k3,c,f,k4,fun e=>hn (.inr (.inr (.inr ⟨j,by rw [k5,e]⟩))),n2,k6⟩
 have HKR:Hid (R≤k):=Lib.hid (by omega);clear h h1 hd g0 HA hW1 hR
 go_enter Tryz.func11,Tryz.ntmps11
 go_wp2_with fail;rw [HW1.out];refine HAk.out.mono ?_;rintro e w1 ⟨rfl,rfl⟩;obtain ⟨ae,hae⟩:∃ ae,ae=askE N i:=⟨_,rfl⟩;have HAe:=Lib.hid hae;rw [← hae];clear hae HAk HW1
 by_cases ha:ae=0
 ·
  subst ha;have HUs:=Lib.hid (HU.out HAe.out.symm)
  have HGt:Hid (P.gt N i s L=if (P.us i.toNat s L).1≠0 then ((PSec.zero,0,(P.us i.toNat s L).1),(P.us i.toNat s L).2) else
   (match (P.us i.toNat s L).2.1.fr i.toNat with | some f=>(PSx f.pay,f.lsn,0) | none=>(PSec.zero,0,0),(P.us i.toNat s L).2)):=Lib.hid (by
    unfold Pl.gt;rw [← HAe.out];exact if_neg (by simp))
  clear HU HAe;go_wp2_with fail;refine HUs.out.mono ?_;rintro e w2 ⟨er,S',n',B',her,hpo,hu,hn,hb,h3⟩;have HE:=Lib.hid her;have HP2:=Lib.hid hpo;have HU2:=Lib.hid hu;have HN:=Lib.hid hn;have HB2:=Lib.hid hb;clear her hpo hu hn hb HUs
  rcases h3 with ⟨h3,rfl⟩ | ⟨rfl,c,f,rfl,hcq,hbc,hf⟩
  ·
   have hne:(er == 0)=false:=beq_eq_false_iff_ne.2 h3;have HR:Hid (P.gt N i s L=((PSec.zero,0,er),(P.us i.toNat s L).2)):=Lib.hid (by rw [HGt.out,if_pos (by rw [← HE.out];exact h3),← HE.out]);clear h3 HGt HE
   go_wp2_with (refine PwpList_store_x rfl (.tmp 4) (.tmp 25) rfl HB2.out rfl rfl ?_)
   rw [HR.out];exact bodyPost_ret (Presults_x3 rfl _ _ _ _ rfl (HB2.out.row _)) rfl ⟨rfl,S',n',B',HP2.out.row HN.out _,HU2.out.row (Nat.le_refl _) _⟩
  ·
   have HR:Hid (P.gt N i s L=((PSx f.pay,f.lsn,0),(P.us i.toNat s L).2)):=Lib.hid (by rw [HGt.out,if_neg (by rw [← HE.out];simp),hf])
   have HBq:Hid (∀ W,Gr w2 W→Blk W w.heap.size PTS (Psec PSec.zero)∧W.rangeAt c 0 (PSx f.pay).cells∧W.cell? ⟨c,248,none⟩=some (.int .u64 (f.lsn:Int))):=Lib.hid fun W g=>⟨HB2.out.gr g,PFr.range (hbc.gr g),(PFr.c4 (hbc.gr g)).1⟩
   have hbq:=(HBq.out _ (Gr.refl w2).drew).1;have hS0:w2.drew.rangeAt c 0 (PSx f.pay).cells∧w2.drew.cell? ⟨c,248,none⟩=some (.int .u64 (f.lsn:Int))∧w2.drew.there w.heap.size 0 248:=⟨(HBq.out _ (Gr.refl w2).drew).2.1,(HBq.out _ (Gr.refl w2).drew).2.2,fun j hj=>⟨by rw [hbq.cell];simp [Psec_size,hj],hbq.frozen _⟩⟩
   have hS3:(w2.drew.setCells w.heap.size 0 (PSx f.pay).cells).rangeAt c 0 (PSx f.pay).cells∧(w2.drew.setCells w.heap.size 0 (PSx f.pay).cells).cell? ⟨c,248,none⟩=some (.int .u64 (f.lsn:Int))∧(w2.drew.setCells w.heap.size 0 (PSx f.pay).cells).there w.heap.size 0 248:=by
    have h5:Blk (w2.drew.setCells w.heap.size 0 (PSx f.pay).cells) c TFr f.cells:=(hbc.gr (Gr.refl w2).drew).stays (setCells_other hcq _ _ _);exact ⟨PFr.range h5,(PFr.c4 h5).1,World.there_setCells hS0.2.2 _ _ _⟩
   have hus:=Punder_sec
   have hsz:(Tryz.prog.info? PTS).map (·.size)=some (PSx f.pay).cells.length:=by rw [PSec.cells_len];exact Psize_sec
   have hcl:=(PSx f.pay).cells_len;have hco:=(PSx f.pay).one;clear hf HGt HE hcq hbc;go_wp2_with fail
   go_region_held3 (fun V=>V.rangeAt c 0 (PSx f.pay).cells∧V.cell? ⟨c,248,none⟩=some (.int .u64 (f.lsn:Int))∧V.there w.heap.size 0 248) (first | exact hS0 | exact hS3) (fail)
   all_goals
    go_wp2_with fail;rw [HR.out];have hd2:PoAt w2.drew b m n' pd pl B' S' (P.us i.toNat s L).2.1 (P.us i.toNat s L).2.2.1 (P.us i.toNat s L).2.2.2 N R:=HP2.out.gr (Gr.refl w2).drew;exact bodyPost_ret (Presults_x3 rfl _ _ _ _ rfl (hbq.whole (PSx f.pay).cells (by rw [hcl,Psec_size]))) rfl ⟨rfl,S',n',B',hd2.cells HN.out _,(HU2.out.more (Gr.refl w2).drew).cells (Nat.le_refl _) _⟩
 ·
  have hne:(ae == 0)=false:=beq_eq_false_iff_ne.2 ha;have HR:Hid (P.gt N i s L=((PSec.zero,0,ae),P,s,L)):=Lib.hid (by unfold Pl.gt;rw [← HAe.out];exact if_pos ha);have HK:Hid (R≤k∧¬ uS S b m B w.heap.size):=Lib.hid ⟨HKR.out,fun e=>by have:=HLow.out _ e;omega⟩;clear HU HAe ha
  go_wp2_with (refine PwpList_store_x rfl (.tmp 4) (.tmp 15) rfl HB.out rfl rfl ?_)
  rw [HR.out];exact bodyPost_ret (Presults_x3 rfl _ _ _ _ rfl (HB.out.row _)) rfl ⟨rfl,S,n,B,((HPo.out.gr HG.out).lower HK.out.1).row HK.out.2 _,(Upd.of_gr HG.out).row (Nat.le_refl _) _⟩
end
end Go.Proofs.YtdmhemgepdknhaaGreat
