/-
  Texts, put together: Wal22 RecRefMath RecRefOf RefWal9 WalLaw2 WalLaw3 WalLaw5 Wal20 WalLaw6 WalLaw4a WalLaw4 WalLaw7 Wal23 Open OpenRec OpenRecs KnownA Known3 DiskFuseWalk DiskNewestWalk Open3 WalActs WalMuch WalBack WalDoK WalDoD Pool19 Pool20.
-/
import Derived.Deep.DeepCutAuto
import Derived.Deep.CutBlock
import Derived.Deep.RegionHeld3
import Derived.BigQuiet
import Derived.ProofKit
import Derived.OpenShut
import Derived.ShutString
import Derived.ChangeOld
import Derived.Deep.Slices
import Derived.Carry
import Derived.WideKeyArr2
import Derived.Test.YtdmhemgepdknhaaGreatV1
import Derived.Test.YtdmhemgepdknhaaGreatV5
import Derived.Test.YtdmhemgepdknhaaGreatV6
import Derived.Test.YtdmhemgepdknhaaGreatV7
import Derived.Test.YtdmhemgepdknhaaGreatV8
import Derived.Test.YtdmhemgepdknhaaGreatV9
import Derived.Test.YtdmhemgepdknhaaGreatV10
import Derived.Test.YtdmhemgepdknhaaGreatV12
import Derived.Test.YtdmhemgepdknhaaGreatV16
import Derived.Test.YtdmhemgepdknhaaGreatV17
import Derived.Test.YtdmhemgepdknhaaGreatV19
import Derived.Test.YtdmhemgepdknhaaGreatV20
import Derived.Test.YtdmhemgepdknhaaGreatV22
import Derived.Test.YtdmhemgepdknhaaGreatV25
import Derived.Test.YtdmhemgepdknhaaGreatV26
set_option linter.unusedVariables false
set_option linter.unusedSimpArgs false
namespace Go.Proofs.YtdmhemgepdknhaaGreat
open Go.RowKit Go.Maps
def SlOpE (b:Nat) (p:Value) (n:Int) (l:Int) (g:Int) (ep:Nat) (tl:Nat) (N:Nat) (slot:Nat) (v:Value) (_:World):Prop:=
 match slot with
 | 14=>v=.agg #[.int .i64 n,.int .i64 l,.int .i64 g]
 | 15=>v=.bool true
 | 16=>v=.bool false
 | 17=>v=.bool false
 | 18=>v=p
 | 19=>v=.int .i64 (N:Int)
 | 20=>v=.pointer (some ⟨b,0,none⟩)
 | 21=>v=.int .i64 n
 | 22=>v=.bool false
 | 23=>v=.bool false
 | 24=>v=.bool false
 | 25=>v=.int .u64 (ep:Int)
 | 26=>v=.bool false
 | 27=>v=.bool false
 | 28=>v=.bool false
 | 29=>v=.int .u64 (ep:Int)
 | 30=>v=.bool false
 | 31=>v=.bool false
 | 32=>v=.bool false
 | 33=>v=.int .u64 (tl:Int)
 | 34=>v=.bool false
 | 35=>v=.bool false
 | _=>True
theorem slOpE_gr {b:Nat} {p:Value} {n:Int} {l:Int} {g:Int} {ep:Nat} {tl:Nat} {N:Nat} {s:Nat} {v:Value} {w w':World} (h:SlOpE b p n l g ep tl N s v w) (_:Gr w w'):SlOpE b p n l g ep tl N s v w':=h
def RetOpE (x:Int) (w:World) (e:Ending) (w':World):Prop:=e=.returned (.tuple #[.pointer none,.slice none 0 0,.int .i64 x])∧Gr w w'
def RetOp (p:Value) (s:St) (n l g:Int) (ep tl:Nat) (w:World) (e:Ending) (w':World):Prop:=
 (opOk s l.toNat ep tl=false∧RetOpE 4 w e w') ∨
 (opOk s l.toNat ep tl=true∧∃ b v L q m,e=.returned (.tuple #[.pointer (some ⟨b,0,none⟩),v,.int .i64 0])∧OwnR ShL w' w.heap.size TLd v L∧L.map LX3=logT tl (opX s l.toNat ep tl)∧LgAt w' b p q m m (opL s n l g ep tl)∧(∀ k,lgS b q k→w.heap.size≤k)∧Gr w w')
set_option maxRecDepth 100000 in
set_option maxHeartbeats 1000000 in
theorem wOpen_any {F:Nat→Prop} {s:St} (D:Nat) (p:Value) (n l g:Int) (ep tl:Nat) (w:World) (hp:p=.pointer (some ⟨D,0,none⟩)) (hd:Dk w F p s) (hm:mayL n l g=true) (hl:l≤80) (ht:tl≤4611686018427387904) (he:1≤ep) (he2:ep≤4611686018427387904) (hn:n≤s.ls.length) (hn2:3+l≤s.ls.length) :
  Calls Tryz.prog 36 #[p,.agg #[.int .i64 n,.int .i64 l,.int .i64 g],.int .u64 (tl:Int),.int .u64 (ep:Int)] w (RetOp p s n l g ep tl w):=by
 obtain ⟨W1,hW1⟩:∃ W1,W1=w.alloc (.cells #[.int .i64 n,.int .i64 l,.int .i64 g] 71):=⟨_,rfl⟩;have HB:Hid (Blk W1 w.heap.size 71 #[.int .i64 n,.int .i64 l,.int .i64 g]):=Lib.hid (by rw [hW1];exact Blk.new _ _ _);have HG1:Hid (Gr w W1):=Lib.hid (by rw [hW1];exact Gr.new _ _);have HW1:=Lib.hid hW1.symm;have HMay:=Lib.hid (fun W=>mayS_any n l g W)
 rw [hm] at HMay
 obtain ⟨N,hN⟩:∃ N,N=s.ls.length:=⟨_,rfl⟩;have HSec:=Lib.hid (fun W (gr:Gr W1 W)=>Sectors_any W (hd.gr (Gr.trans HG1.out gr)))
 rw [← hN] at HSec hn
 have HQ1:Hid (¬ (N:Int) < n):=Lib.hid (by omega);have HQ2:Hid (((ep:Int) == 0)=false):=Lib.hid (by simp;omega);have HQ3:Hid (¬ 4611686018427387904 < (ep:Int)):=Lib.hid (by omega);have HQ4:Hid (¬ 4611686018427387904 < (tl:Int)):=Lib.hid (by omega);have HRd:=Lib.hid (fun b W (gr:Gr w W) (hb:Blk W b TLg #[p,.int .i64 n,.int .i64 l,.int .i64 g,.int .u64 ep,.int .u64 tl,.int .u64 0,.slice none 0 0,.int .i64 0,.bool false])=>wread_any D b p n l g ep tl W hb hp (hd.gr gr) hm hl ht he he2 hn2);have HP:=Lib.hid hp;clear hW1 hm hN hn hn2 hl he he2 ht hp hd
 go_enter Tryz.func36,Tryz.ntmps36
 go_wp2_with fail;rw [HW1.out];refine Flow.region (SlOpE w.heap.size p n l g ep tl N) (Gr W1) Gr (by kernel_rfl) (by kernel_rfl) (fun _ _ _ _ h g=>slOpE_gr h g) ⟨rfl,rfl,rfl,Nat.le_refl _,fun _ _=>rfl⟩ ?steps ?fin
 case steps=>
  refine .cons (fun a W hfr hinv hdep K hK=>?_) ?_
  · have t5:=tAt (.pointer (some ⟨w.heap.size,0,none⟩)) (hfr.at 5 (by kernel_rfl));obtain ⟨⟨c0,c1,c2⟩,_⟩:=(HB.out.gr hinv).c3;refine fW0 rfl ?_;clear hfr hdep;go_simp;exact hK _ _ (Gr.refl _) hinv (dsT (by trivial))
  refine .cons (fun a W hfr hinv hdep K hK=>?_) ?_
  · have t14:=tAt (.agg #[.int .i64 n,.int .i64 l,.int .i64 g]) (hdep 14 (by kernel_rfl));refine fW0 rfl ?_;clear hfr hdep;go_simp;refine (HMay.out W).mono ?_;rintro e W' ⟨rfl,g1⟩;exact hK _ _ g1 (Gr.trans hinv g1) (dsT (by trivial))
  refine .cons (fun a W hfr hinv hdep K hK=>?_) ?_
  · have t15:=tAt (.bool true) (hdep 15 (by kernel_rfl));refine fW0 rfl ?_;clear hfr hdep;go_simp;exact hK _ _ (Gr.refl _) hinv (dsT (by trivial))
  refine .cons (fun a W hfr hinv hdep K hK=>?_) ?_
  · have t16:=tAt (.bool false) (hdep 16 (by kernel_rfl));refine fW0 rfl ?_;clear hfr hdep;go_simp;exact hK _ _ (Gr.refl _) hinv (dsT (by trivial))
  refine .cons (fun a W hfr hinv hdep K hK=>?_) ?_
  · have sg:a.tmps.getD 17 undef=.bool false:=hdep 17 (by kernel_rfl);have t0:=tAt (p) (hfr.at 0 (by kernel_rfl));rw [if_pos (Flow.wanted_yes 3 false 17 rfl (by kernel_rfl) sg)];clear hfr hdep;go_simp;exact hK _ _ (Gr.refl _) hinv (dsT (by trivial))
  refine .cons (fun a W hfr hinv hdep K hK=>?_) ?_
  · have sg:a.tmps.getD 17 undef=.bool false:=hdep 17 (by kernel_rfl);have t18:=tAt (p) (hdep 18 (by kernel_rfl));rw [if_pos (Flow.wanted_yes 3 false 17 rfl (by kernel_rfl) sg)];clear hfr hdep;go_simp;refine (HSec.out W hinv).mono ?_;rintro e W' ⟨rfl,rfl⟩;exact hK _ _ (Gr.refl _) hinv (dsT (by trivial))
  refine .cons (fun a W hfr hinv hdep K hK=>?_) ?_
  · have sg:a.tmps.getD 17 undef=.bool false:=hdep 17 (by kernel_rfl);have t5:=tAt (.pointer (some ⟨w.heap.size,0,none⟩)) (hfr.at 5 (by kernel_rfl));rw [if_pos (Flow.wanted_yes 3 false 17 rfl (by kernel_rfl) sg)];clear hfr hdep;go_simp;exact hK _ _ (Gr.refl _) hinv (dsT (by trivial))
  refine .cons (fun a W hfr hinv hdep K hK=>?_) ?_
  · have sg:a.tmps.getD 17 undef=.bool false:=hdep 17 (by kernel_rfl);have t20:=tAt (.pointer (some ⟨w.heap.size,0,none⟩)) (hdep 20 (by kernel_rfl));obtain ⟨⟨c0,c1,c2⟩,_⟩:=(HB.out.gr hinv).c3;rw [if_pos (Flow.wanted_yes 3 false 17 rfl (by kernel_rfl) sg)];clear hfr hdep;go_simp;exact hK _ _ (Gr.refl _) hinv (dsT (by trivial))
  refine .cons (fun a W hfr hinv hdep K hK=>?_) ?_
  ·
   have sg:a.tmps.getD 17 undef=.bool false:=hdep 17 (by kernel_rfl);have t19:=tAt (.int .i64 (N:Int)) (hdep 19 (by kernel_rfl));have t21:=tAt (.int .i64 n) (hdep 21 (by kernel_rfl))
   have hq:¬ (N:Int) < n:=by have:=HQ1.out;omega
   rw [if_pos (Flow.wanted_yes 3 false 17 rfl (by kernel_rfl) sg)];clear hfr hdep;go_simp;exact hK _ _ (Gr.refl _) hinv (dsT (by trivial))
  refine .cons (fun a W hfr hinv hdep K hK=>?_) ?_
  · have t17:=tAt (.bool false) (hdep 17 (by kernel_rfl));have t22:=tAt (.bool false) (hdep 22 (by kernel_rfl));refine fW0 rfl ?_;clear hfr hdep;go_simp;exact hK _ _ (Gr.refl _) hinv (dsT (by trivial))
  refine .cons (fun a W hfr hinv hdep K hK=>?_) ?_
  · have t23:=tAt (.bool false) (hdep 23 (by kernel_rfl));refine fW0 rfl ?_;clear hfr hdep;go_simp;exact hK _ _ (Gr.refl _) hinv (dsT (by trivial))
  refine .cons (fun a W hfr hinv hdep K hK=>?_) ?_
  · have sg:a.tmps.getD 24 undef=.bool false:=hdep 24 (by kernel_rfl);have t3:=tAt (.int .u64 (ep:Int)) (hfr.at 3 (by kernel_rfl));rw [if_pos (Flow.wanted_yes 10 false 24 rfl (by kernel_rfl) sg)];clear hfr hdep;go_simp;exact hK _ _ (Gr.refl _) hinv (dsT (by trivial))
  refine .cons (fun a W hfr hinv hdep K hK=>?_) ?_
  · have sg:a.tmps.getD 24 undef=.bool false:=hdep 24 (by kernel_rfl);have t25:=tAt (.int .u64 (ep:Int)) (hdep 25 (by kernel_rfl));have hq:=HQ2.out;rw [if_pos (Flow.wanted_yes 10 false 24 rfl (by kernel_rfl) sg)];clear hfr hdep;go_simp;exact hK _ _ (Gr.refl _) hinv (dsT (by trivial))
  refine .cons (fun a W hfr hinv hdep K hK=>?_) ?_
  · have t24:=tAt (.bool false) (hdep 24 (by kernel_rfl));have t26:=tAt (.bool false) (hdep 26 (by kernel_rfl));refine fW0 rfl ?_;clear hfr hdep;go_simp;exact hK _ _ (Gr.refl _) hinv (dsT (by trivial))
  refine .cons (fun a W hfr hinv hdep K hK=>?_) ?_
  · have t27:=tAt (.bool false) (hdep 27 (by kernel_rfl));refine fW0 rfl ?_;clear hfr hdep;go_simp;exact hK _ _ (Gr.refl _) hinv (dsT (by trivial))
  refine .cons (fun a W hfr hinv hdep K hK=>?_) ?_
  · have sg:a.tmps.getD 28 undef=.bool false:=hdep 28 (by kernel_rfl);have t3:=tAt (.int .u64 (ep:Int)) (hfr.at 3 (by kernel_rfl));rw [if_pos (Flow.wanted_yes 14 false 28 rfl (by kernel_rfl) sg)];clear hfr hdep;go_simp;exact hK _ _ (Gr.refl _) hinv (dsT (by trivial))
  refine .cons (fun a W hfr hinv hdep K hK=>?_) ?_
  ·
   have sg:a.tmps.getD 28 undef=.bool false:=hdep 28 (by kernel_rfl);have t29:=tAt (.int .u64 (ep:Int)) (hdep 29 (by kernel_rfl))
   have hq:¬ 4611686018427387904 < (ep:Int):=by have:=HQ3.out;omega
   rw [if_pos (Flow.wanted_yes 14 false 28 rfl (by kernel_rfl) sg)];clear hfr hdep;go_simp;exact hK _ _ (Gr.refl _) hinv (dsT (by trivial))
  refine .cons (fun a W hfr hinv hdep K hK=>?_) ?_
  · have t28:=tAt (.bool false) (hdep 28 (by kernel_rfl));have t30:=tAt (.bool false) (hdep 30 (by kernel_rfl));refine fW0 rfl ?_;clear hfr hdep;go_simp;exact hK _ _ (Gr.refl _) hinv (dsT (by trivial))
  refine .cons (fun a W hfr hinv hdep K hK=>?_) ?_
  · have t31:=tAt (.bool false) (hdep 31 (by kernel_rfl));refine fW0 rfl ?_;clear hfr hdep;go_simp;exact hK _ _ (Gr.refl _) hinv (dsT (by trivial))
  refine .cons (fun a W hfr hinv hdep K hK=>?_) ?_
  · have sg:a.tmps.getD 32 undef=.bool false:=hdep 32 (by kernel_rfl);have t2:=tAt (.int .u64 (tl:Int)) (hfr.at 2 (by kernel_rfl));rw [if_pos (Flow.wanted_yes 18 false 32 rfl (by kernel_rfl) sg)];clear hfr hdep;go_simp;exact hK _ _ (Gr.refl _) hinv (dsT (by trivial))
  refine .cons (fun a W hfr hinv hdep K hK=>?_) ?_
  ·
   have sg:a.tmps.getD 32 undef=.bool false:=hdep 32 (by kernel_rfl);have t33:=tAt (.int .u64 (tl:Int)) (hdep 33 (by kernel_rfl))
   have hq:¬ 4611686018427387904 < (tl:Int):=by have:=HQ4.out;omega
   rw [if_pos (Flow.wanted_yes 18 false 32 rfl (by kernel_rfl) sg)];clear hfr hdep;go_simp;exact hK _ _ (Gr.refl _) hinv (dsT (by trivial))
  refine .cons (fun a W hfr hinv hdep K hK=>?_) ?_
  · have t32:=tAt (.bool false) (hdep 32 (by kernel_rfl));have t34:=tAt (.bool false) (hdep 34 (by kernel_rfl));refine fW0 rfl ?_;clear hfr hdep;go_simp;exact hK _ _ (Gr.refl _) hinv (dsT (by trivial))
  exact True.intro
 case fin=>
  intro a W hfr hfin hsl
  have s35:a.tmps.getD 35 undef=.bool false:=hsl 21 _ 35 rfl rfl;have t35:=tmpAt s35;have e:=Flow.frame hfr [14,15,16,17,18,19,20,21,22,23,24,25,26,27,28,29,30,31,32,33,34,35] (List.range 52) (by kernel_rfl) (by kernel_rfl)
  simp [List.range,List.range.loop] at e
  rw [t35] at e
  rw [e];clear e hfr hsl s35 t35
  first
   | (rename_i hB;refine hB _ _ ?_)
   | (rename_i hB y0;refine hB _ _ ?_)
   | (rename_i hB y0 y1;refine hB _ _ ?_)
   | (rename_i hB y0 y1 y2;refine hB _ _ ?_)
   | (rename_i hB y0 y1 y2 y3;refine hB _ _ ?_)
   | (rename_i hB y0 y1 y2 y3 y4;refine hB _ _ ?_)
   | (rename_i hB y0 y1 y2 y3 y4 y5;refine hB _ _ ?_)
   | (rename_i hB y0 y1 y2 y3 y4 y5 y6;refine hB _ _ ?_)
  have HFin:=Lib.hid hfin;clear hfin;have hp:=HP.out;subst hp;obtain ⟨⟨c0,c1,c2⟩,_⟩:=(HB.out.gr HFin.out).c3;have HGW:Hid (Gr w W):=Lib.hid (Gr.trans HG1.out HFin.out);obtain ⟨W2,hW2⟩:∃ W2,W2=W.alloc (.cells #[.pointer (some ⟨D,0,none⟩),.int .i64 n,.int .i64 l,.int .i64 g,.int .u64 ep,.int .u64 tl,.int .u64 0,.slice none 0 0,.int .i64 0,.bool false] TLg):=⟨_,rfl⟩;have HB2:Hid (Blk W2 W.heap.size TLg #[.pointer (some ⟨D,0,none⟩),.int .i64 n,.int .i64 l,.int .i64 g,.int .u64 ep,.int .u64 tl,.int .u64 0,.slice none 0 0,.int .i64 0,.bool false]):=Lib.hid (by rw [hW2];exact Blk.new _ _ _);have HG2:Hid (Gr w W2∧Gr W W2):=Lib.hid (by rw [hW2];exact ⟨Gr.trans HGW.out (Gr.new _ _),Gr.new _ _⟩);have HW2:Hid (W.alloc (.cells #[.pointer (some ⟨D,0,none⟩),.int .i64 n,.int .i64 l,.int .i64 g,.int .u64 ep,.int .u64 tl,.int .u64 0,.slice none 0 0,.int .i64 0,.bool false] 105)=W2):=Lib.hid hW2.symm;have HR2:=Lib.hid (HRd.out W.heap.size W2 HG2.out.1 HB2.out);clear hW2;go_wp2_with fail;rw [HW2.out];refine HR2.out.mono ?_;rintro e W3 (⟨ho,rfl,g3⟩ | ⟨ho,v,L,q,m,rfl,hown,hL,hlg,hu⟩)
  · have HO:=Lib.hid ho;have HG3:=Lib.hid (Gr.trans HG2.out.1 g3);clear ho g3 c0 c1 c2;go_wp2_with fail;refine bodyPost_ret_by (P:=Tryz.prog) (v:=.tuple #[.pointer none,.slice none 0 0,.int .i64 4]) (by simp [results,Tryz.results36]) rfl ?_;exact .inl ⟨HO.out,rfl,HG3.out⟩
  ·
   have hWs:=HGW.out.size;have hW2s:W.heap.size < W2.heap.size:=HB2.out.lt
   have hlow:∀ k,lgS W.heap.size q k→w.heap.size≤k:=fun k hk=>by
    rcases hu.fresh k hk with h | h
    · omega
    · omega
   have hG:Gr w W3:=Below.trans HG2.out.1 ((hu.below (B:=w.heap.size) (by omega) (fun k hk=>by omega)));have HR:Hid (RetOp (.pointer (some ⟨D,0,none⟩)) s n l g ep tl w (.returned (.tuple #[.pointer (some ⟨W.heap.size,0,none⟩),v,.int .i64 0])) W3):=Lib.hid (.inr ⟨ho,W.heap.size,v,L,q,m,rfl,hown.base_le (by omega),hL,hlg,hlow,hG⟩);clear ho hown hL hlg hu hlow hG hWs hW2s c0 c1 c2;go_wp2_with fail;refine bodyPost_ret_by (P:=Tryz.prog) (v:=.tuple #[.pointer (some ⟨W.heap.size,0,none⟩),v,.int .i64 0]) (by simp [results,Tryz.results36]) rfl ?_;exact HR.out
end Go.Proofs.YtdmhemgepdknhaaGreat
namespace Go.Proofs.YtdmhemgepdknhaaGreat
open Cr

end Go.Proofs.YtdmhemgepdknhaaGreat
namespace Go.Proofs.YtdmhemgepdknhaaGreat
open Go.RowKit Cr

end Go.Proofs.YtdmhemgepdknhaaGreat
namespace Go.Proofs.YtdmhemgepdknhaaGreat
open Go.RowKit Go.Maps Cr
end Go.Proofs.YtdmhemgepdknhaaGreat
namespace Go.Proofs.YtdmhemgepdknhaaGreat
open Go.RowKit Go.Maps
theorem sizeR_may {r:Rc} (h:mayR r=true):sizeR r=35+r.b.length+r.a.length:=by unfold sizeR;rw [if_pos h]
end Go.Proofs.YtdmhemgepdknhaaGreat
namespace Go.Proofs.YtdmhemgepdknhaaGreat
open Go.RowKit Go.Maps

end Go.Proofs.YtdmhemgepdknhaaGreat
namespace Go.Proofs.YtdmhemgepdknhaaGreat
open Go.RowKit Go.Maps
def RetO1 (p:Value) (s:St) (ep tl:Nat) (w:World) (e:Ending) (w':World):Prop:=
 ∃ b v L q m,e=.returned (.tuple #[.pointer (some ⟨b,0,none⟩),v,.int .i64 0])∧OwnR ShL w' w.heap.size TLd v L∧L.map LX3=logT tl (opX s 16 ep tl)∧LgAt w' b p q m m (opL s 64 16 1 ep tl)∧(∀ k,lgS b q k→w.heap.size≤k)∧Gr w w'
theorem may64:mayL 64 16 1=true:=by decide
theorem make64 (w:World):Calls Tryz.prog 35 #[.int .i64 64] w (RetLy 64 16 1 0 w):=by
 have hM:=make_any 64 w
 rwa [show mkN 64=64 by decide,show mkL 64=16 by decide,show mkG 64=1 by decide,show mkE 64=0 by decide] at hM
theorem open1_yes {F:Nat→Prop} {p:Value} {s:St} {ep tl:Nat} (w:World) (hd:Dk w F p s) (hn:s.ls.length=64) (ht:tl≤4611686018427387904) (he:1≤ep) (he2:ep≤4611686018427387904) (ho:opOk s 16 ep tl=true) :
  Calls Tryz.prog 36 #[p,.agg #[.int .i64 64,.int .i64 16,.int .i64 1],.int .u64 (tl:Int),.int .u64 (ep:Int)] w (RetO1 p s ep tl w):=by
 obtain ⟨D,_,_,_,hp,_⟩:=id hd;refine (wOpen_any D p 64 16 1 ep tl w hp hd may64 (by decide) ht he he2 (by omega) (by omega)).mono ?_;rintro e w' (⟨h,_⟩ | ⟨_,h⟩)
 ·
  rw [show ((16:Int).toNat)=16 from rfl,ho] at h
  cases h
 · exact h
end Go.Proofs.YtdmhemgepdknhaaGreat
namespace Go.Proofs.YtdmhemgepdknhaaGreat
open Go.RowKit Go.Maps Cr
theorem secN_Sx {xs:List Int} (h:IsSec xs):secN (Sx xs)=xs:=(Sx_inj (secN_sec _) h).1 (Sx_secN _)
def zeroD:St:=fresh (List.replicate 64 Sec.zero)
def newL (n l g:Int) (ep tl:Nat):Lg:={ n,l,g,epoch:=ep,tail:=tl,lasts:=tl,txt:=[],rsv:=0,begun:=false }
theorem manyX_zero:manyX (List.replicate 256 0)=0:=by
 have h:sub (List.replicate 256 (0:Int)) 16 4=List.replicate 4 0:=by
  unfold sub
  rw [List.drop_replicate,List.take_replicate]
  rfl
 unfold manyX atR
 rw [h]
 split <;> rfl
theorem bytX_zero:bytX (List.replicate 256 0)=[]:=by unfold bytX;rw [manyX_zero];rfl
theorem nw_fresh (ls:List Sec) (i:Nat):(fresh ls).nw i=ls.getD i Sec.zero:=rfl
theorem foundL_stop {rd:Nat→List Int} {l ep f k ls:Nat} (h1:manyX (rd (3+k % l)) < 232) (h2:bytX (rd (3+k % l))=[]):foundL rd l ep (f+1) k ls=[]:=by
 unfold foundL
 rw [if_pos h1,h2]
 split <;> rfl
theorem opB_zero (l ep:Nat):opB zeroD (l+1) ep 0=[]:=by
 unfold opB
 have h:∀ i,secN (zeroD.nw i)=List.replicate 256 0:=fun i=>by
  have h1:zeroD.nw i=Sec.zero:=by
   unfold zeroD
   rw [nw_fresh]
   unfold List.getD
   by_cases hi:i < 64
   · rw [List.getElem?_replicate,if_pos hi];rfl
   · rw [List.getElem?_replicate,if_neg hi];rfl
  rw [h1,← Sx_zero];exact secN_Sx zeros_sec
 exact foundL_stop (by rw [h,manyX_zero];decide) (by rw [h,bytX_zero])
theorem opX_zero (l ep:Nat):opX zeroD (l+1) ep 0=[]:=by unfold opX;rw [opB_zero];rfl
theorem opL_zero (n g:Int) (ep l:Nat):opL zeroD n ((l+1:Nat):Int) g ep 0=newL n ((l+1:Nat):Int) g ep 0:=by
 unfold opL opN opT
 rw [Int.toNat_natCast,opX_zero,opB_zero]
 simp [newL,endL]
theorem opOk_zero (l ep:Nat):opOk zeroD (l+1) ep 0=true:=by unfold opOk;simp
end Go.Proofs.YtdmhemgepdknhaaGreat
namespace Go.Proofs.YtdmhemgepdknhaaGreat
open Go.RowKit Go.Maps
theorem opL_begin:opL zeroD 64 16 1 1 0=newL 64 16 1 1 0:=opL_zero 64 1 1 15
theorem opOk_begin:opOk zeroD 16 1 0=true:=opOk_zero 15 1
end Go.Proofs.YtdmhemgepdknhaaGreat
namespace Go.Proofs.YtdmhemgepdknhaaGreat
open Go.RowKit Go.Maps

end Go.Proofs.YtdmhemgepdknhaaGreat
namespace Go.Proofs.YtdmhemgepdknhaaGreat
open Go.RowKit Go.Maps
end Go.Proofs.YtdmhemgepdknhaaGreat
namespace Go.Proofs.YtdmhemgepdknhaaGreat
open Go.RowKit Go.Maps
theorem Byt.up {w:World} {p:Option Addr} {n c:Nat} {xs:List Int} (h:Byt w p n c xs) (hn:0 < n):∀ y,p=some y→y.block < w.heap.size:=fun y hy=>by
 obtain ⟨b,o,e,hc⟩:=h.at hn
 rw [hy] at e
 cases e
 exact blk_lt (hc 0 hn)
end Go.Proofs.YtdmhemgepdknhaaGreat
namespace Go.Proofs.YtdmhemgepdknhaaGreat
open Go.RowKit Go.Maps
structure Lg.Like (L L':Lg):Prop where
 n:L'.n=L.n
 l:L'.l=L.l
 g:L'.g=L.g
 epoch:L'.epoch=L.epoch
 tail:L'.tail=L.tail
 rsv:L'.rsv=L.rsv
 fin:L'.fin=L.fin
theorem flL_facts {s:St} {L:Lg} (ok:L.Ok) (u:Nat):(flL s L u).Ok∧L.Like (flL s L u):=by
 have h0:L.Like L:=⟨rfl,rfl,rfl,rfl,rfl,rfl,rfl⟩
 have hb:(begL s L).Ok∧L.Like (begL s L):=by
  refine ⟨(begL_ok ok).1,?_⟩
  rcases begL_cases s L with h | h
  · rw [h];exact h0
  · rw [h];exact ⟨rfl,rfl,rfl,rfl,rfl,rfl,rfl⟩
 unfold flL
 split
 · exact ⟨ok,h0⟩
 ·
  split
  · exact ⟨ok,h0⟩
  ·
   split
   · exact hb
   ·
    split
    · exact hb
    · have hd:=hb.1.done;exact ⟨hd.1,hb.2.n,hb.2.l,hb.2.g,hb.2.epoch,hb.2.tail,hb.2.rsv,hd.2.1.trans hb.2.fin⟩
theorem StW.dead {s0 s:St} {k:Nat} (h:StW s0 k s):StW s0 k { s with dead:=true }:=⟨h.len,h.less,h.wr⟩
theorem StW.more {s0 s:St} {k k':Nat} (h:StW s0 k s) (hk:k≤k'):StW s0 k' s:=⟨h.len,h.less,by have:=h.wr;omega⟩
theorem StW.ba {s0 s:St} {k:Nat} (h:StW s0 k s):StW s0 k (BaS s):=by
 unfold BaS
 split
 · exact h
 · exact h.barrier
theorem StW.put {s0 s:St} {k:Nat} (h:StW s0 k s) (i:Nat) (x:Sec):StW s0 (k+1) (putD s i x):=by
 unfold putD
 split
 · exact h.dead.more (by omega)
 · exact h.wrote i x
theorem StW.all {s0:St} {L:Lg}:∀ (n j k:Nat) (s:St),StW s0 k s→StW s0 (k+n) (wrAll L n j s).1
 | 0,j,k,s,h=>h.ba
 | n+1,j,k,s,h=>by
  unfold wrAll
  split
  · exact h.dead.more (by omega)
  · exact (StW.all n (j+1) (k+1) _ (h.wrote _ _)).more (by omega)
theorem flS_stw {s:St} {L:Lg} (ok:L.Ok) (h:∀ i,(s.t i).length≤s.writes) (u:Nat):StW s 500 (flS s L u):=by
 have h0:StW s 0 s:=⟨rfl,h,Nat.le_refl _⟩
 have hb:StW s 1 (begS s L):=by
  unfold begS
  split
  · exact h0.more (by omega)
  ·
   split
   · exact (h0.put _ _)
   · exact (h0.put _ _).ba
 have hl:=ok.len
 unfold flS
 split
 · exact h0.more (by omega)
 ·
  split
  · exact h0.more (by omega)
  ·
   split
   · exact hb.more (by omega)
   ·
    refine (StW.all (chN L.txt.length) 0 1 _ hb).more ?_
    unfold chN
    omega
theorem newL_ok:(newL 64 16 1 1 0).Ok∧(newL 64 16 1 1 0).Fits:=by
 have h:=opL_ok zeroD 64 16 1 1 0 (by decide) (by decide) (by decide) (by decide) (opOk_zero 15 1)
 rw [show opL zeroD 64 16 1 1 0=newL 64 16 1 1 0 from opL_zero 64 1 1 15] at h
 exact ⟨h.1,h.2.2.1⟩
theorem zeroD_less:∀ i,(zeroD.t i).length≤zeroD.writes:=fun i=>by simp [zeroD,fresh]
end Go.Proofs.YtdmhemgepdknhaaGreat
namespace Go.Proofs.YtdmhemgepdknhaaGreat
open Go.ChangeShapes Go.WideShapes Go.ChangeAt Go.RowKit
theorem byteOf {x:Int} (h:(Lit.int .u8 x).wf=true):0≤x∧x < 256:=by
 have h1:IntKind.u8.min=0:=rfl;have h2:IntKind.u8.max=255:=rfl
 simp only [Lit.wf,Bool.and_eq_true,decide_eq_true_eq] at h
 omega
theorem i64Of {x:Int} (h:(Lit.int .i64 x).wf=true) : -9223372036854775808≤x∧x≤9223372036854775807:=by
 have h1:IntKind.i64.min = -9223372036854775808:=rfl;have h2:IntKind.i64.max=9223372036854775807:=rfl
 simp only [Lit.wf,Bool.and_eq_true,decide_eq_true_eq] at h
 omega
theorem openBytes {H:Type} {enc:TypeId × Value→H} {P:Program} {t e:TypeId} (ht:P.underlying t=some (.slice e)) (he:P.underlying e=some (.int .u8)) (hc:P.cellsOf e=1) {W:World} {a:Option Addr} {len cap:Nat} {d:DataW H} {p:List MemPlace}
  (h:DataW.Trod enc P W 0 (fun _=>true) true t (.slice a len cap) d p):∃ xs,Byt W a len cap xs:=by
 obtain ⟨fuel,hf⟩:=h
 rcases open_ints ht he hc hf with ⟨hcs,_⟩ | ⟨x,l,c,zs,hcs,_,hl,hm,hz,_,hcell,hwz⟩
 ·
  simp [Value.cells] at hcs
  obtain ⟨rfl,rfl,rfl⟩:=hcs;exact ⟨[],Byt.nil W⟩
 ·
  simp [Value.cells] at hcs
  obtain ⟨rfl,rfl,rfl⟩:=hcs
  simp only [if_true] at hz
  refine ⟨zs.take len,by simp;omega,hl,hm,Lib.BytesIn.of_cells (fun i hi=>?_),(fun h=>by cases h),fun y hy=>byteOf (hwz y (List.mem_of_mem_take hy))⟩;rw [hcell i (by omega)]
  simp [List.getD,hi]
end Go.Proofs.YtdmhemgepdknhaaGreat
namespace Go.Proofs.YtdmhemgepdknhaaGreat
open Go.ChangeShapes Go.WideShapes Go.ChangeAt Go.RowKit

end Go.Proofs.YtdmhemgepdknhaaGreat
namespace Go.Proofs.YtdmhemgepdknhaaGreat
open Go.ChangeShapes Go.WideShapes Go.ChangeAt Go.RowKit

end Go.Proofs.YtdmhemgepdknhaaGreat
namespace Go.Proofs.YtdmhemgepdknhaaGreat
open Go.RowKit Go.Maps

/-! ### the chapter's rows, as states -/
end Go.Proofs.YtdmhemgepdknhaaGreat
namespace Go.Proofs.YtdmhemgepdknhaaGreat
open Go.RowKit Go.Maps
theorem run_build_zero (w:World):(Instr.build TS #[]).run Tryz.prog w=.ok (.agg (sec Sec.zero)) w:=run_build w TS #[] _ built_zero
end Go.Proofs.YtdmhemgepdknhaaGreat
namespace Go.Proofs.YtdmhemgepdknhaaGreat
open Go.RowKit Go.Maps

end Go.Proofs.YtdmhemgepdknhaaGreat
namespace Go.Proofs.YtdmhemgepdknhaaGreat
open Go.RowKit Go.Maps

end Go.Proofs.YtdmhemgepdknhaaGreat
namespace Go.Proofs.YtdmhemgepdknhaaGreat
open Go.ChangeShapes Go.WideShapes Go.ChangeAt Go.RowKit

end Go.Proofs.YtdmhemgepdknhaaGreat
namespace Go.Proofs.YtdmhemgepdknhaaGreat
open Go.ChangeShapes Go.WideShapes Go.ChangeAt Go.RowKit Go.Maps

end Go.Proofs.YtdmhemgepdknhaaGreat
namespace Go.Proofs.YtdmhemgepdknhaaGreat
open Go.RowKit Go.Maps

end Go.Proofs.YtdmhemgepdknhaaGreat
namespace Go.Proofs.YtdmhemgepdknhaaGreat
open Go.RowKit Go.Maps

end Go.Proofs.YtdmhemgepdknhaaGreat
namespace Go.Proofs.YtdmhemgepdknhaaGreat
open Go.RowKit Go.Maps
section
variable {i:Nat} {s:St} {L:Lg} {M:Nat}
theorem layL_parts (L:Lg) (r:Rc) (room:Int):(layL L r room).l=L.l∧(layL L r room).n=L.n∧(layL L r room).g=L.g∧(layL L r room).epoch=L.epoch∧(layL L r room).tail=L.tail:=by
 unfold layL Lg.more
 split <;> exact ⟨rfl,rfl,rfl,rfl,rfl⟩
end
end Go.Proofs.YtdmhemgepdknhaaGreat
namespace Go.Proofs.YtdmhemgepdknhaaGreat
open Go.RowKit Go.Maps
section
variable {w w':World} {S T:Nat→Prop} {pd pl pw pm:Value} {s:St} {L:Lg} {M:Nat}
theorem CodeAt.Write (h:CodeAt w S pd pl s L) (i:Nat) (hi:i < s.ls.length) (x:Sec) (hw:s.writes≤1000000000):Calls Tryz.prog 77 #[pd,.int .i64 (i:Int),.agg (sec x)] w (RetC (.int .i64 (putDE s)) (putD s i x) L S pd pl w):=by
 obtain ⟨F,b,q,m,c,rfl,h,rfl⟩:=h
 unfold putDE putD
 by_cases hr:s.refuses
 · rw [if_pos hr,if_pos hr];refine (Write_dead w h.dk i hi x hr).mono ?_;rintro e w' ⟨he,hd,hu⟩;obtain ⟨F2,h1,h2⟩:=h.disk ⟨_,hd,hu⟩;exact ⟨_,he,⟨F2,b,q,m,c,rfl,h1,rfl⟩,h2⟩
 · rw [if_neg hr,if_neg hr];refine (Write_yes w h.dk i hi x hr hw).mono ?_;rintro e w' ⟨F',he,hd,hu⟩;obtain ⟨F2,h1,h2⟩:=h.disk ⟨_,hd,hu⟩;exact ⟨_,he,⟨F2,b,q,m,c,rfl,h1,rfl⟩,h2⟩
end
end Go.Proofs.YtdmhemgepdknhaaGreat
namespace Go.Proofs.YtdmhemgepdknhaaGreat
open Go.RowKit Go.Maps
structure Bud (N k:Nat) (s:St) (L:Lg):Prop where
 ok:L.Ok
 len:s.ls.length=N
 fit:3+L.l≤(N:Int)
 wr:s.writes+501*k≤700000000
 less:∀ i,(s.t i).length≤s.writes
theorem Bud.lower {N j k:Nat} {s:St} {L:Lg} (h:Bud N k s L) (hj:j≤k):Bud N j s L:=⟨h.ok,h.len,h.fit,by have:=h.wr;omega,h.less⟩
theorem Bud.flush {N k:Nat} {s:St} {L:Lg} (h:Bud N (k+1) s L) (u:Nat):Bud N k (flS s L u) (flL s L u):=by
 obtain ⟨h1,h2⟩:=flL_facts (s:=s) h.ok u;have h3:=flS_stw h.ok h.less u;refine ⟨h1,h3.len.trans h.len,?_,by have:=h.wr;have:=h3.wr;omega,h3.less⟩;rw [h2.l];exact h.fit
theorem Bud.put {N k:Nat} {s:St} {L:Lg} (h:Bud N (k+1) s L) (i:Nat) (x:Sec):Bud N k (putD s i x) L:=by
 have h3:=(StW.put (s0:=s) (k:=0) ⟨rfl,h.less,Nat.le_refl _⟩ i x);exact ⟨h.ok,h3.len.trans h.len,h.fit,by have:=h.wr;have:=h3.wr;omega,h3.less⟩
def PQ (b m n:Nat) (pd pl:Value) (B:Nat→Option Nat) (P:Pl) (K:Nat→Prop) (N:Nat) (w0:World) (S0:Nat→Prop) (k:Nat) (W:World) (s:St) (L:Lg):Prop:=
 ∃ S:Nat→Prop,CodeAt W S pd pl s L∧PlAt W b pd pl m n B P∧(∀ q,S q→¬ plS b m B q)∧(∀ q,K q→¬ S q∧q < W.heap.size)∧Bud N k s L∧Upd S0 S w0 W
section
variable {w w' w0:World} {b m n:Nat} {pd pl:Value} {B:Nat→Option Nat} {P:Pl} {K S S0:Nat→Prop} {N k:Nat} {s s':St} {L L':Lg}
theorem pq_next {S':Nat→Prop} (hp:PlAt w b pd pl m n B P) (ha:∀ q,S q→¬ plS b m B q) (hK:∀ q,K q→¬ S q∧q < w.heap.size) (hc':CodeAt w' S' pd pl s' L') (hu:Upd S S' w w') {j:Nat} (hb:Bud N j s' L') (h0:Upd S0 S w0 w) :
  PQ b m n pd pl B P K N w0 S0 j w' s' L'∧w.heap.size≤w'.heap.size∧∀ q,K q→w'.heap[q]?=w.heap[q]?:=by
 refine ⟨⟨S',hc',hp.stays fun q hq=>hu.block q (hp.low q hq) fun e=>ha q e hq,fun q hq e=>?_,fun q hq=>⟨fun e=>?_,Nat.lt_of_lt_of_le (hK q hq).2 hu.size⟩,hb,h0.trans hu⟩,hu.size,fun q hq=>hu.block q (hK q hq).2 (hK q hq).1⟩
 ·
  rcases hu.fresh q hq with h1 | h1
  · exact ha q h1 e
  · have:=hp.low q e;omega
 ·
  rcases hu.fresh q e with h1 | h1
  · exact (hK q hq).1 h1
  · have:=(hK q hq).2;omega
theorem env_pq (w:World) (hN:∀ i,P.fr i≠none→i < N):Env w b m n pd pl B P K (PQ b m n pd pl B P K N w0 S0) where
 at_:=fun k W s L ⟨S,_,h,_⟩=>h
 gr:=fun k W W' s L ⟨S,h1,h2,h3,h4,h5,h6⟩ g=>⟨S,h1.gr g,h2.gr g,h3,fun q hq=>⟨(h4 q hq).1,Nat.lt_of_lt_of_le (h4 q hq).2 g.size⟩,h5,h6.trans (Upd.of_gr g)⟩
 less:=fun j k W s L ⟨S,h1,h2,h3,h4,h5,h6⟩ hj=>⟨S,h1,h2,h3,h4,h5.lower hj,h6⟩
 flush:=fun k W s L u h hu=>by
  obtain ⟨S,h1,h2,h3,h4,h5,h6⟩:=h;refine (h1.Flush h5.ok (by rw [h5.len];exact h5.fit) (by have:=h5.wr;omega) u hu).mono ?_;rintro e w' ⟨S',rfl,hc,hup⟩;exact ⟨rfl,pq_next h2 h3 h4 hc hup (h5.flush u) h6⟩
 write:=fun k W s L i x h hi=>by
  obtain ⟨S,h1,h2,h3,h4,h5,h6⟩:=h;have e1:(if s.refuses then (8:Int) else 0)=putDE s:=rfl;have e2:(if s.refuses then { s with dead:=true } else s.wrote i x)=putD s i x:=rfl;rw [e1,e2];refine (h1.Write i (by rw [h5.len];exact hN i hi) x (by have:=h5.wr;omega)).mono ?_;rintro e w' ⟨S',rfl,hc,hup⟩;exact ⟨rfl,pq_next h2 h3 h4 hc hup (h5.put i x) h6⟩
structure PlOk (P:Pl) (N:Nat):Prop where
 lt:∀ i,P.fr i≠none→i < N
 n:N≤65536
 h0 : -1≤P.hand
 h1:P.hand < 65536
 m0:8≤P.most
 m1:P.most≤4096
theorem PlOk.hin (h:PlOk P N):∀ i,65536≤i→P.fr i=none:=fun i hi=>by
 cases e:P.fr i with
 | none=>rfl
 | some f=>
  have:=h.lt i (by rw [e];exact Option.some_ne_none _);have:=h.n
  omega
structure PoAt (w:World) (b m n:Nat) (pd pl:Value) (B:Nat→Option Nat) (S:Nat→Prop) (P:Pl) (s:St) (L:Lg) (N k:Nat):Prop where
 cd:CodeAt w S pd pl s L
 pl:PlAt w b pd pl m n B P
 ap:∀ q,S q→¬ plS b m B q
 bud:Bud N k s L
 ok:PlOk P N
 cnt:n+k≤900000000
def uS (S:Nat→Prop) (b m:Nat) (B:Nat→Option Nat) (q:Nat):Prop:=S q∨plS b m B q
theorem PoAt.gr (h:PoAt w b m n pd pl B S P s L N k) (g:Gr w w'):PoAt w' b m n pd pl B S P s L N k:=⟨h.cd.gr g,h.pl.gr g,h.ap,h.bud,h.ok,h.cnt⟩
theorem PoAt.lower (h:PoAt w b m n pd pl B S P s L N k) {j:Nat} (hj:j≤k):PoAt w b m n pd pl B S P s L N j:=⟨h.cd,h.pl,h.ap,h.bud.lower hj,h.ok,by have:=h.cnt;omega⟩
theorem PoAt.low (h:PoAt w b m n pd pl B S P s L N k):∀ q,uS S b m B q→q < w.heap.size:=fun q hq=>hq.elim (h.cd.low q) (h.pl.low q)
def Pl.wr (P:Pl) (xs:List Nat) (s:St) (L:Lg):Int × St × Lg:=if (xs.filter fun i => !P.clean i).any (P.unk L.fin) then (2,s,L) else P.wrGo (xs.filter fun i => !P.clean i) s L
theorem write_po {K0:Nat→Prop} (hK0:∀ q,K0 q→¬ S q∧q < w.heap.size) (h:PoAt w b m n pd pl B S P s L N k) {v:Value} {xs:List Nat} (hs:ISl w v xs) (hl:xs.length≤900000) (hx:∀ j,j < xs.length→xs.getD j 0 < 65536) {R:Nat} (hR:R+2*xs.length≤k) :
  Calls Tryz.prog 44 #[.pointer (some ⟨b,0,none⟩),v] w fun e w'=>e=.returned (.int .i64 (P.wr xs s L).1)∧(∀ q,K0 q→w'.heap[q]?=w.heap[q]?)∧∃ S',PoAt w' b m n pd pl B S' P (P.wr xs s L).2.1 (P.wr xs s L).2.2 N R∧Upd S S' w w':=by
 refine (write_any (s:=s) (L:=L) (E:=L.fin) R (fun W s' L'=>PQ b m n pd pl B P (fun _=>False) N w S R W s' L') K0 (fun q hq=>(hK0 q hq).2) h.pl hs hl hx (fun W g=>(h.cd.gr g).End h.bud.ok) fun K hK=>?_).mono ?_
 ·
  refine ⟨PQ b m n pd pl B P K N w S,env_pq w h.ok.lt,fun W g hKl=>⟨S,h.cd.gr g,h.pl.gr g,h.ap,fun q hq=>⟨fun e=>?_,hKl q hq⟩,h.bud.lower hR,Upd.of_gr g⟩,fun W s' L' ⟨S',h1,h2,h3,h4,h5,h6⟩=>⟨S',h1,h2,h3,fun _ e=>e.elim,h5,h6⟩⟩;have:=h.cd.low q e
  rcases hK q hq with h1 | h1
  · exact (hK0 q h1).1 e
  · omega
 ·
  intro e w' hr
  unfold Pl.wr
  split at hr
  ·
   rename_i hc
   rw [if_pos hc];exact ⟨hr.1,fun q hq=>hr.2.block q (hK0 q hq).2,S,(h.gr hr.2).lower (by omega),Upd.of_gr hr.2⟩
  ·
   rename_i hc
   rw [if_neg hc];obtain ⟨h1,h2,S',k1,k2,k3,-,k5,k6⟩:=hr;exact ⟨h1,h2,S',⟨k1,k2,k3,k5,h.ok,by have:=h.cnt;omega⟩,k6⟩
end
end Go.Proofs.YtdmhemgepdknhaaGreat
namespace Go.Proofs.YtdmhemgepdknhaaGreat
open Go.RowKit Go.Maps
def Pl.off (P:Pl) (xs:List Nat):Pl:={ P with fr:=fun j=>if j ∈ xs then (P.fr j).map fun f=>{ f with used:=false } else P.fr j }
theorem Pl.off_nil (P:Pl):P.off []=P:=by unfold Pl.off;simp
theorem Pl.off_snoc (P:Pl) (S:List Nat) (x:Nat) {f:PFr} (hf:(P.off S).fr x=some f):P.off (S++[x])=(P.off S).put x { f with used:=false }:=by
 have hf':(if x ∈ S then (P.fr x).map fun f=>({ f with used:=false }:PFr) else P.fr x)=some f:=hf
 unfold Pl.off Pl.put
 simp only [List.mem_append,List.mem_singleton]
 congr 1
 funext j
 by_cases hj:j=x
 ·
  subst hj
  by_cases hm:j ∈ S
  ·
   rw [if_pos hm] at hf'
   cases hp:P.fr j with
   | none=>rw [hp] at hf';cases hf'
   | some g=>
    rw [hp] at hf'
    simp only [Option.map_some,Option.some.injEq] at hf'
    subst hf'
    simp
  ·
   rw [if_neg hm] at hf'
   simp [hf']
 · simp [hj]
theorem Pl.off_step (P:Pl) {xs:List Nat} {k:Nat} (hk:k < xs.length) {f:PFr} (hf:(P.off (xs.take k)).fr (xs.getD k 0)=some f):P.off (xs.take (k+1))=(P.off (xs.take k)).put (xs.getD k 0) { f with used:=false }:=by
 rw [take_succ_getD hk,Pl.off_snoc P _ _ hf]
theorem Pl.off_none (P:Pl) (xs:List Nat) (i:Nat):(P.off xs).fr i=none ↔ P.fr i=none:=by
 show (if i ∈ xs then (P.fr i).map fun f=>({ f with used:=false }:PFr) else P.fr i)=none ↔ _
 by_cases h:i ∈ xs
 · rw [if_pos h];simp
 · rw [if_neg h]
def Pl.leave (P:Pl) (xs:List Nat):Pl:={ P with fr:=fun j=>if j ∈ xs then none else P.fr j,hand:=match xs.getLast? with | some i=>(i:Int) | none=>P.hand }
theorem Pl.leave_nil (P:Pl):P.leave []=P:=by unfold Pl.leave;simp
theorem Pl.leave_snoc (P:Pl) (S:List Nat) (x:Nat):P.leave (S++[x])={ (P.leave S).gone x with hand:=(x:Int) }:=by
 unfold Pl.leave Pl.gone
 simp only [List.mem_append,List.mem_singleton,List.getLast?_append,List.getLast?_singleton,Option.some_or]
 congr 1
 funext j
 by_cases hj:j=x
 · simp [hj]
 · simp [hj]
theorem Pl.leave_step (P:Pl) {xs:List Nat} {k:Nat} (hk:k < xs.length):P.leave (xs.take (k+1))={ (P.leave (xs.take k)).gone (xs.getD k 0) with hand:=((xs.getD k 0:Nat):Int) }:=by
 rw [take_succ_getD hk,Pl.leave_snoc]
def bLeave (B:Nat→Option Nat) (xs:List Nat):Nat→Option Nat:=fun j=>if j ∈ xs then none else B j
theorem bLeave_nil (B:Nat→Option Nat):bLeave B []=B:=by unfold bLeave;simp
theorem bLeave_step (B:Nat→Option Nat) {xs:List Nat} {k:Nat} (hk:k < xs.length):bLeave B (xs.take (k+1))=fun j=>if j=xs.getD k 0 then none else bLeave B (xs.take k) j:=by
 rw [take_succ_getD hk]
 unfold bLeave
 funext j
 by_cases hj:j=xs.getD k 0
 · rw [if_pos (by rw [hj];simp),if_pos hj]
 ·
  rw [if_neg hj]
  simp only [List.mem_append,List.mem_singleton,hj,or_false]
theorem bLeave_sub {B:Nat→Option Nat} {xs:List Nat} {b m q:Nat} (h:plS b m (bLeave B xs) q):plS b m B q:=by
 rcases h with h | h | ⟨i,h⟩
 · exact .inl h
 · exact .inr (.inl h)
 ·
  refine .inr (.inr ⟨i,?_⟩)
  unfold bLeave at h
  split at h
  · cases h
  · exact h
theorem goingL_mem {u:Nat→Bool} {xs:List Nat} {k i:Nat} (h:i ∈ goingL u xs k):i ∈ xs:=by
 unfold goingL at h
 rcases List.mem_append.1 (List.mem_of_mem_take h) with h | h <;> exact (List.mem_filter.1 h).1
theorem goingL_len (u:Nat→Bool) (xs:List Nat) (k:Nat):(goingL u xs k).length≤xs.length:=by
 unfold goingL
 rw [List.length_take,List.length_append,filt_len]
 omega
theorem sparedL_mem {u:Nat→Bool} {i:Nat}:∀ {xs:List Nat} {k:Nat},i ∈ sparedL u xs k→i ∈ xs
 | [],k,h=>by simp [sparedL] at h
 | a :: r,k,h=>by
  unfold sparedL at h
  split at h
  · simp at h
  ·
   split at h
   ·
    rcases List.mem_cons.1 h with h | h
    · exact List.mem_cons.2 (.inl h)
    · exact List.mem_cons_of_mem _ (sparedL_mem h)
   · exact List.mem_cons_of_mem _ (sparedL_mem h)
theorem sparedL_len {u:Nat→Bool}:∀ {xs:List Nat} {k:Nat},(sparedL u xs k).length≤xs.length
 | [],k=>by simp [sparedL]
 | a :: r,k=>by
  unfold sparedL
  split
  · simp
  ·
   split
   · have:=sparedL_len (u:=u) (xs:=r) (k:=k);simp only [List.length_cons];omega
   · have:=sparedL_len (u:=u) (xs:=r) (k:=k - 1);simp only [List.length_cons];omega
theorem Pl.round_mem (P:Pl) {i:Nat} (h:i ∈ P.round):i < 65536∧P.fr i≠none:=by
 unfold Pl.round at h
 refine (P.mem_pages i).1 ?_
 rcases List.mem_append.1 h with h | h
 · exact List.mem_of_mem_drop h
 · exact List.mem_of_mem_take h
theorem Pl.round_len (P:Pl):P.round.length=P.pages.length:=by
 unfold Pl.round
 rw [List.length_append,List.length_drop,List.length_take];have:=P.behind_le
 omega
theorem PlOk.pages_len {P:Pl} {N:Nat} (h:PlOk P N):P.pages.length≤N:=by
 obtain ⟨d,hd⟩:∃ d,N+d=65536:=⟨65536 - N,by have:=h.n;omega⟩
 unfold Pl.pages
 rw [← hd,List.range_add,List.filter_append,List.length_append];have h1:=List.length_filter_le (fun i=>(P.fr i).isSome) (List.range N)
 rw [List.length_range] at h1
 have h2:((List.range d).map (N + ·)).filter (fun i=>(P.fr i).isSome)=[]:=by
  rw [List.filter_eq_nil_iff]
  intro a ha hs
  obtain ⟨x,-,rfl⟩:=List.mem_map.1 ha;have:=h.lt (N+x) (by intro e;rw [e] at hs;simp at hs)
  omega
 rw [h2]
 simpa using h1
theorem getD_mem {xs:List Nat} {j:Nat} (h:j < xs.length):xs.getD j 0 ∈ xs:=by simp [List.getD,h]
theorem PlOk.off {P:Pl} {N:Nat} (h:PlOk P N) (xs:List Nat):PlOk (P.off xs) N:=⟨fun i hi=>h.lt i fun e=>hi ((P.off_none xs i).2 e),h.n,h.h0,h.h1,h.m0,h.m1⟩
theorem PlOk.leave {P:Pl} {N:Nat} (h:PlOk P N) {xs:List Nat} (hx:∀ i,i ∈ xs→i < 65536):PlOk (P.leave xs) N:=by
 have hh : -1≤(P.leave xs).hand∧(P.leave xs).hand < 65536:=by
  show -1≤(match xs.getLast? with | some i=>(i:Int) | none=>P.hand)∧(match xs.getLast? with | some i=>(i:Int) | none=>P.hand) < 65536
  cases e:xs.getLast? with
  | none=>exact ⟨h.h0,h.h1⟩
  | some i=>
   have:=hx i (List.mem_of_getLast? e)
   show -1≤(i:Int)∧(i:Int) < 65536
   omega
 refine ⟨fun i hi=>h.lt i fun e=>hi ?_,h.n,hh.1,hh.2,h.m0,h.m1⟩
 show (if i ∈ xs then none else P.fr i)=none
 rw [e];simp
def Pl.many (P:Pl):Nat:=((P.pages.length:Int) - P.most+1).toNat
def Pl.mr (P:Pl) (s:St) (L:Lg):Int × Pl × St × Lg:=
 if P.held=true∨(P.pages.length:Int) < P.most then (0,P,s,L) else
  if (P.wr (goingL P.usd P.round P.many) s L).1≠0 then (8,P,(P.wr (goingL P.usd P.round P.many) s L).2) else (0,(P.off (sparedL P.usd P.round P.many)).leave (goingL P.usd P.round P.many),(P.wr (goingL P.usd P.round P.many) s L).2)
theorem Pl.mr_fr (P:Pl) (s:St) (L:Lg) {i:Nat} (h:P.fr i=none):(P.mr s L).2.1.fr i=none:=by
 unfold Pl.mr
 split
 · exact h
 ·
  split
  · exact h
  ·
   show (if i ∈ goingL P.usd P.round P.many then none else (P.off (sparedL P.usd P.round P.many)).fr i)=none
   rw [(P.off_none _ i).2 h]
   simp
section
variable {w w' w'':World} {b m n:Nat} {pd pl:Value} {B:Nat→Option Nat} {P:Pl} {S S':Nat→Prop}
theorem PlAt.setHand (h:PlAt w b pd pl m n B P) (x:Int):PlAt (w.setCell ⟨b,5,none⟩ (.int .i64 x)) b pd pl m n B { P with hand:=x }:=by
 have ho:∀ k,k≠b→(w.setCell ⟨b,5,none⟩ (.int .i64 x)).heap[k]?=w.heap[k]?:=fun k hk=>Below.heap_setCell w _ _ k hk
 exact ⟨h.blk.set 5 (.int .i64 x),h.map.stays (ho m (Ne.symm h.ne)),h.most,h.has,fun i c hc=>by
  obtain ⟨f,h1,h2,h3⟩:=h.frs i c hc
  exact ⟨f,h1,h2.stays (ho c (h.apart hc).1),h3⟩,h.inj,h.dsk,h.lg⟩
theorem Upd.frOnly (h:FrOnly B w w'):Upd (plS b m B) (plS b m B) w w':=
 ⟨h.os,h.tape,h.output,h.size,fun k hk hn=>h.block k hk fun i hi=>hn (.inr (.inr ⟨i,hi⟩)),fun k hk=>.inl hk⟩
theorem Upd.byMap (h:w.grownBy w' (some m)):Upd (plS b m B) (plS b m B) w w':=
 ⟨h.os,h.tape,h.output,h.size,fun k hk hn=>h.block k hk fun e=>hn (.inr (.inl (by cases e;rfl))),fun k hk=>.inl hk⟩
theorem Upd.setB (w:World) (o:Nat) (u:Value):Upd (plS b m B) (plS b m B) w (w.setCell ⟨b,o,none⟩ u):=by
 have hb:=(Below.refl 0 w).setCell (p:=⟨b,o,none⟩) (Nat.zero_le _) u;exact ⟨hb.os,hb.tape,hb.output,hb.size,fun k _ hk=>Below.heap_setCell w _ _ k fun e=>hk (.inl e),fun k hk=>.inl hk⟩
theorem Upd.both {B':Nat→Option Nat} (h:Upd S S' w w') (k:Upd (plS b m B) (plS b m B) w' w'') (hl:∀ q,plS b m B q→q < w.heap.size) (ha:∀ q,S' q→¬ plS b m B q) (hB:∀ q,plS b m B' q→plS b m B q):Upd (uS S b m B) (uS S' b m B') w w'':=by
 refine ⟨k.os.trans h.os,k.tape.trans h.tape,k.output.trans h.output,Nat.le_trans h.size k.size,fun q hq hn=>?_,fun q hq=>?_⟩
 · exact (k.block q (Nat.lt_of_lt_of_le hq h.size) fun e=>hn (.inr e)).trans (h.block q hq fun e=>hn (.inl e))
 ·
  rcases hq with hq | hq
  ·
   rcases h.fresh q hq with h1 | h1
   · exact .inl (.inl h1)
   · exact .inr h1
  · exact .inl (.inr (hB q hq))
end
end Go.Proofs.YtdmhemgepdknhaaGreat
