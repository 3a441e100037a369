/-
  Texts, put together: Pool2 Ref1 Ref2 Hex1 Hex2 Hex3 Hex4 Lists Join Arr FillS Pool3 Pool4.
-/
import Derived.Laws.CopyOwn
import Derived.Test.YtdmhemgepdknhaaGreatProg
import Derived.Laws.Tables
import Derived.RowKit
import Derived.Deep.RegionHeld3
import Derived.Test.YtdmhemgepdknhaaGreatV1
import Derived.Test.YtdmhemgepdknhaaGreatV2
import Derived.Test.YtdmhemgepdknhaaGreatV3
import Derived.Test.YtdmhemgepdknhaaGreatV5
set_option linter.unusedVariables false
set_option linter.unusedSimpArgs false
namespace Go.Proofs.YtdmhemgepdknhaaGreat
open Go.RowKit Go.Maps Go.Shelf
def Shl.keysP_ren:Go.Shelf.Ren:=⟨fun | 7=>80 | 10=>94 | n=>n,fun | 23=>78 | 26=>3 | 3=>87 | 28=>115 | 0=>0 | 27=>114 | 33=>107 | 4=>4 | n=>n,fun | n=>n⟩
theorem Shl.keysP:Go.Proofs.SlLaysZI.n7 Tryz.prog Shl.keysP_ren:={
 mixed:=by kernel_rfl
 f7:=⟨Tryz.f80.name,by decide,Tryz.func80.trans (congrArg some (by kernel_rfl))⟩
 f10:=⟨Tryz.f94.name,by decide,Tryz.func94.trans (congrArg some (by kernel_rfl))⟩
 t0:=Tryz.underlying0
 a0:=Tryz.isAgg0
 z0:=Tryz.sizeOf0
 v0:=Tryz.zeroValue0
 t4:=Tryz.underlying4
 a4:=Tryz.isAgg4
 z4:=Tryz.sizeOf4
 v4:=Tryz.zeroValue4
 t23:=Tryz.underlying78
 a23:=Tryz.isAgg78
 z23:=Tryz.sizeOf78
 v23:=Tryz.zeroValue78
 t26:=Tryz.underlying3
 a26:=Tryz.isAgg3
 z26:=Tryz.sizeOf3
 v26:=Tryz.zeroValue3
 t27:=Tryz.underlying114
 a27:=Tryz.isAgg114
 z27:=Tryz.sizeOf114
 v27:=Tryz.zeroValue114
 t28:=Tryz.underlying115
 a28:=Tryz.isAgg115
 z28:=Tryz.sizeOf115
 v28:=Tryz.zeroValue115
 t33:=Tryz.underlying107
 a33:=Tryz.isAgg107
 z33:=Tryz.sizeOf107
 v33:=Tryz.zeroValue107 }
theorem pkeys_any (mb:Option Nat) (w:World):Calls Tryz.prog 80 #[.map mb] w fun e w'=>e=.returned (.func (.func 94) #[] #[.pointer (some ⟨w.heap.size,0,none⟩)])∧w.alloc (.cells #[.map mb] TPm)=w':=by
 have h:=(callsIn_wide (n:=5)).1 (AnyZI.keys_in Shl.keysP Fence.wide 5 trivial rfl mb w)
 exact Calls.mono (P:=Tryz.prog) h fun e w' ⟨h1,h2⟩=>⟨h1,h2.symm⟩
set_option maxHeartbeats 1000000 in
theorem psorted_any (B b nn:Nat) (D:DataW Value) (w:World) (hB:B < w.heap.size) (hm:w.cell? ⟨B,0,none⟩=some (.map (some b))) (hown:w.ownsMap Tryz.prog TI eltR b nn D) (hn:nn≤10000000000) :
  Calls Tryz.prog 57 #[.func (.func 94) #[] #[.pointer (some ⟨B,0,none⟩)]] w fun e w'=>∃ (v:Value) (ss:List Int),e=.returned v∧ss.Perm (intKeys D) ∧
   w'.ownsRow w.heap.size TI 1 v ss.length ((ss.mergeSort (fun x y=>decide (x≤y))).map encZ)∧(v=.slice none 0 0 ↔ ss=[])∧Below w.heap.size w w':=by
 refine (callsIn_wide (n:=6)).1 ?_;have hsz:=hown.size_le
 have hseq:SeqGives Fence.wide 3 Tryz.prog 94 #[.pointer (some ⟨B,0,none⟩)] encZ (fun ss=>ss.Perm (intKeys D)) (Maps.size D) w:=
  AnyZI.keys_gives (ρ:=Shl.keysP_ren) { Shl.keysP with } Fence.wide _ trivial rfl (by omega) B b nn D w hB hm hown
 exact AnyZI.sorted_in Shl.sortedA Fence.wide 6 trivial trivial trivial trivial rfl (by omega) (sortsA _) (enters_of Tryz.func82 (by kernel_rfl) rfl) 94 #[.pointer (some ⟨B,0,none⟩)] trivial (enters_of Tryz.func94 (by kernel_rfl) rfl) _ (Maps.size D) (by unfold maxLen;omega) (by omega) w hseq
structure Pl where
 most:Int
 held:Bool
 hand:Int
 fr:Nat→Option PFr
def Pl.pages (P:Pl):List Nat:=(List.range 65536).filter fun i=>(P.fr i).isSome
def Pl.clean (P:Pl) (i:Nat):Bool:=match P.fr i with | none=>true | some f => !f.dirty
structure PlAt (w:World) (b:Nat) (pd pl:Value) (m n:Nat) (B:Nat→Option Nat) (P:Pl):Prop where
 blk:Blk w b TPl #[pd,pl,.int .i64 P.most,.bool P.held,.map (some m),.int .i64 P.hand]
 map:Fm w m n B
 most:n≤1000000000
 has:∀ i,B i=none ↔ P.fr i=none
 frs:∀ i c,B i=some c→∃ f,P.fr i=some f∧Blk w c TFr f.cells∧f.In
 inj:∀ i j c,B i=some c→B j=some c→i=j
 dsk:∃ d,pd=.pointer (some ⟨d,0,none⟩)
 lg:∃ l,pl=.pointer (some ⟨l,0,none⟩)
def plS (b m:Nat) (B:Nat→Option Nat) (k:Nat):Prop:=k=b∨k=m∨∃ i,B i=some k
section
variable {w w':World} {b m n:Nat} {pd pl:Value} {B:Nat→Option Nat} {P:Pl}
theorem PlAt.low (h:PlAt w b pd pl m n B P):∀ k,plS b m B k→k < w.heap.size:=by
 rintro k (rfl | rfl | ⟨i,hi⟩)
 · exact h.blk.lt
 · exact h.map.lt
 · obtain ⟨f,_,h2,_⟩:=h.frs i k hi;exact h2.lt
theorem PlAt.stays (h:PlAt w b pd pl m n B P) (e:∀ k,plS b m B k→w'.heap[k]?=w.heap[k]?):PlAt w' b pd pl m n B P:=
 ⟨h.blk.stays (e b (.inl rfl)),h.map.stays (e m (.inr (.inl rfl))),h.most,h.has,fun i c hc=>by
  obtain ⟨f,h1,h2,h3⟩:=h.frs i c hc
  exact ⟨f,h1,h2.stays (e c (.inr (.inr ⟨i,hc⟩))),h3⟩,h.inj,h.dsk,h.lg⟩
theorem PlAt.gr (h:PlAt w b pd pl m n B P) (g:Gr w w'):PlAt w' b pd pl m n B P:=h.stays fun k hk=>g.block k (h.low k hk)
theorem PlAt.c6 (h:PlAt w b pd pl m n B P):w.cell? ⟨b,0,none⟩=some pd∧w.cell? ⟨b,1,none⟩=some pl∧w.cell? ⟨b,2,none⟩=some (.int .i64 P.most)∧w.cell? ⟨b,3,none⟩=some (.bool P.held)∧w.cell? ⟨b,4,none⟩=some (.map (some m))∧w.cell? ⟨b,5,none⟩=some (.int .i64 P.hand):=
 ⟨h.blk.cell 0,h.blk.cell 1,h.blk.cell 2,h.blk.cell 3,h.blk.cell 4,h.blk.cell 5⟩
theorem Pl.mem_pages (P:Pl) (i:Nat):i ∈ P.pages ↔ i < 65536∧P.fr i≠none:=by
 unfold Pl.pages
 rw [List.mem_filter,List.mem_range,Option.isSome_iff_ne_none]
set_option maxRecDepth 100000 in
theorem pmissing_no (h:PlAt w b pd pl m n B P):Calls Tryz.prog 48 #[.pointer (some ⟨b,0,none⟩)] w fun e w'=>e=.returned (.bool false)∧w=w':=by
 obtain ⟨d,rfl⟩:=h.dsk;have c0:=h.c6.1;clear h
 go_enter Tryz.func48,Tryz.ntmps48
 go_wp2_with fail
 go_ret
 exact ⟨rfl,rfl⟩
set_option maxRecDepth 100000 in
theorem Held_any (h:PlAt w b pd pl m n B P):Calls Tryz.prog 25 #[.pointer (some ⟨b,0,none⟩)] w fun e w'=>e=.returned (.bool P.held)∧w=w':=by
 have HM:=Lib.hid (pmissing_no h);have c3:=h.c6.2.2.2.1;obtain ⟨x,hx⟩:∃ x,x=P.held:=⟨_,rfl⟩
 rw [← hx] at c3 ⊢
 clear h hx
 go_enter Tryz.func25,Tryz.ntmps25
 go_wp2_with fail;refine HM.out.mono ?_;rintro e w1 ⟨rfl,rfl⟩;go_wp2_with fail
 go_ret
 exact ⟨rfl,rfl⟩
set_option maxRecDepth 100000 in
theorem pclean_any (h:PlAt w b pd pl m n B P) (i:Nat) (hi:i < 65536):Calls Tryz.prog 53 #[.pointer (some ⟨b,0,none⟩),.int .i64 (i:Int)] w fun e w'=>e=.returned (.bool (P.clean i))∧w=w':=by
 have c4:=h.c6.2.2.2.2.1;have hl:=h.map.look i hi
 cases hB:B i with
 | none=>
  have hc:P.clean i=true:=by unfold Pl.clean;rw [(h.has i).1 hB]
  rw [hc]
  rw [hB] at hl
  have hl2:(Instr.lookup TPm (.map (some m)) (.int .i64 (i:Int)) false).run Tryz.prog w=.ok (.pointer none) w:=hl;clear h hc hB hl
  go_enter Tryz.func53,Tryz.ntmps53
  go_wp2_with fail
  go_ret
  exact ⟨rfl,rfl⟩
 | some c=>
  obtain ⟨f,h1,h2,_⟩:=h.frs i c hB
  have hc:P.clean i = !f.dirty:=by unfold Pl.clean;rw [h1]
  obtain ⟨x,hx⟩:∃ x,x=f.dirty:=⟨_,rfl⟩;rw [hc,← hx]
  rw [hB] at hl
  have hl2:(Instr.lookup TPm (.map (some m)) (.int .i64 (i:Int)) false).run Tryz.prog w=.ok (.pointer (some ⟨c,0,none⟩)) w:=hl;have k3:=(PFr.c4 h2).2.2.1
  rw [← hx] at k3
  clear h hc hB hl h1 h2 hx
  go_enter Tryz.func53,Tryz.ntmps53
  go_wp2_with fail
  go_ret
  exact ⟨rfl,rfl⟩
set_option maxRecDepth 100000 in
set_option maxHeartbeats 1000000 in
theorem ppages_any (h:PlAt w b pd pl m n B P) (hin:∀ i,65536≤i→P.fr i=none):Calls Tryz.prog 52 #[.pointer (some ⟨b,0,none⟩)] w fun e w'=>RetLoose P.pages w e w':=by
 have c4:=h.c6.2.2.2.2.1;obtain ⟨D,ho,hat,hhas,hkeys⟩:=h.map;have hk:Gr w (w.alloc (.cells #[.map (some m)] TPm)):=(Gr.refl w).alloc (Nat.le_refl _) _;have HS:=Lib.hid (psorted_any w.heap.size m n D (w.alloc (.cells #[.map (some m)] TPm)) (by simp) ((Blk.new w TPm #[.map (some m)]).cell 0) (ho.alloc _) (by have:=h.most;omega))
 have hB:∀ i,B i≠none ↔ P.fr i≠none:=fun i=>not_congr (h.has i)
 have HO:Hid (∀ ss:List Int,ss.Perm (intKeys D)→(ss.mergeSort fun x y=>decide (x≤y))=P.pages.map fun (x:Nat)=>(x:Int)):=Lib.hid fun ss hs=>
  sorted_nats (by unfold Pl.pages;exact List.Pairwise.filter _ List.pairwise_lt_range) ho (fun x=>by
   rw [P.mem_pages]
   constructor
   ·
    intro ⟨hx,ht⟩
    exact (hhas x hx).2 ((hB x).2 ht)
   ·
    intro hx
    obtain ⟨i,hi,e⟩:=hkeys _ hx;rw [key_inj e]
    rw [key_inj e] at hx
    exact ⟨hi,(hB i).1 ((hhas i hi).1 hx)⟩) (fun k hk=>let ⟨i,_,e⟩:=hkeys k hk;⟨i,e⟩) hs
 have HG:=Lib.hid hk;clear h ho hat hhas hkeys hk hB hin
 go_enter Tryz.func52,Tryz.ntmps52
 go_wp2_with fail;refine (pkeys_any _ _).mono ?_;rintro e w1 ⟨rfl,rfl⟩;go_wp2_with fail;refine HS.out.mono ?_;rintro e w1 ⟨v,ss,rfl,hss,hrow,_,hb⟩;have HRow:=Lib.hid hrow;have HB:=Lib.hid (Gr.trans HG.out hb);have HE:=Lib.hid (HO.out ss hss);have HLen:Hid (ss.length=P.pages.length):=Lib.hid (by have:=congrArg List.length (HO.out ss hss);rw [List.length_mergeSort,List.length_map] at this;exact this);clear hrow hb hss HS HO HG;go_wp2_with fail
 go_ret
 refine ⟨_,rfl,?_,HB.out⟩;have hr:=HRow.out
 rw [HE.out,HLen.out,List.map_map] at hr
 unfold Ints
 obtain ⟨hr1,hr2⟩:=hr;refine ⟨hr1,hr2.imp id ?_⟩;rintro ⟨g,cap,cur,h1,h2,h3⟩;exact ⟨g,cap,cur,h1,by simp at h2;omega,h3⟩
end
end Go.Proofs.YtdmhemgepdknhaaGreat
namespace Go.Proofs.YtdmhemgepdknhaaGreat
open Go.RowKit

end Go.Proofs.YtdmhemgepdknhaaGreat
namespace Go.Proofs.YtdmhemgepdknhaaGreat
open Go.RowKit

end Go.Proofs.YtdmhemgepdknhaaGreat
namespace Go.Proofs.YtdmhemgepdknhaaGreat
open Go.RowKit

end Go.Proofs.YtdmhemgepdknhaaGreat
namespace Go.Proofs.YtdmhemgepdknhaaGreat
open Go.RowKit
theorem map_u8_inj:∀ (a b:List Int),Wd.Small a→Wd.Small b→(a.map fun n=>UInt8.ofNat n.toNat)=(b.map fun n=>UInt8.ofNat n.toNat)→a=b
 | [],[],_,_,_=>rfl
 | [],_ :: _,_,_,h=>by simp at h
 | _ :: _,[],_,_,h=>by simp at h
 | x :: r,y :: s,hx,hy,h=>by
  simp only [List.map_cons,List.cons.injEq] at h
  have h1:=hx.head;have h2:=hy.head;have e:=congrArg UInt8.toNat h.1
  simp only [UInt8.toNat_ofNat'] at e
  rw [map_u8_inj r s hx.tail hy.tail h.2]
  congr 1
  omega
theorem strOfNums_inj {a b:List Int} (ha:Wd.Small a) (hb:Wd.Small b):(strOfNums a).toList=(strOfNums b).toList ↔ a=b:=by
 constructor
 ·
  intro h
  rw [Lib.strOfNums_toList,Lib.strOfNums_toList] at h
  exact map_u8_inj a b ha hb h
 ·
  rintro rfl
  rfl
theorem wireSame_any (p q:Option Addr) (n c m d:Nat) (xs ys:List Int) (w:World) (h:Byt w p n c xs) (k:Byt w q m d ys):Calls Tryz.prog 159 #[.slice p n c,.slice q m d] w fun e w'=>e=.returned (.bool (decide (xs=ys)))∧w=w':=by
 have hc1:=h.lies.convert h.len c 31 5 9 Tryz.underlying31 Tryz.underlying5 Tryz.underlying9;have hc2:=k.lies.convert k.len d 31 5 9 Tryz.underlying31 Tryz.underlying5 Tryz.underlying9;have he:Hid ((strOfNums xs).toList=(strOfNums ys).toList ↔ xs=ys):=strOfNums_inj h.small k.small;clear h k;obtain ⟨r,hr⟩:∃ r,r=strOfNums xs:=⟨_,rfl⟩;obtain ⟨s,hs⟩:∃ s,s=strOfNums ys:=⟨_,rfl⟩
 rw [← hr] at hc1 he
 rw [← hs] at hc2 he
 clear hr hs
 go_enter Tryz.func159,Tryz.ntmps159
 go_wp2
 go_ret
 refine ⟨ret_b ?_,rfl⟩
 show (r.toList == s.toList)=decide (xs=ys)
 rw [Bool.eq_iff_iff,beq_iff_eq,decide_eq_true_eq];exact he.out
end Go.Proofs.YtdmhemgepdknhaaGreat
namespace Go.Proofs.YtdmhemgepdknhaaGreat
open Go.RowKit

end Go.Proofs.YtdmhemgepdknhaaGreat
namespace Go.Proofs.YtdmhemgepdknhaaGreat
open Go.RowKit

end Go.Proofs.YtdmhemgepdknhaaGreat
namespace Go.Proofs.YtdmhemgepdknhaaGreat
def tot (xss:List (List Int)):Nat:=xss.flatten.length
theorem flat_succ (xss:List (List Int)) (k:Nat) (h:k < xss.length):(xss.take (k+1)).flatten=(xss.take k).flatten++xss.getD k []:=by
 rw [List.take_succ_eq_append_getElem h,List.flatten_append]
 simp [List.getD,h]
theorem tot_le (xss:List (List Int)) (k:Nat):tot (xss.take k)≤tot xss:=by
 have h:xss.flatten=(xss.take k).flatten++(xss.drop k).flatten:=by rw [← List.flatten_append,List.take_append_drop]
 unfold tot
 rw [h,List.length_append];exact Nat.le_add_right _ _
theorem tot_succ (xss:List (List Int)) (k m:Nat) (h:k < xss.length) (hm:(xss.getD k []).length=m):tot (xss.take (k+1))=tot (xss.take k)+m:=by
 unfold tot
 rw [flat_succ xss k h,List.length_append,hm]
end Go.Proofs.YtdmhemgepdknhaaGreat
namespace Go.Proofs.YtdmhemgepdknhaaGreat
open Go.RowKit
def Grown0 (tB:Nat) (w:World) (e:Ending) (w':World):Prop:=∃ v,e=.returned v∧OwnB w' w.heap.size tB v []∧Gr w w'
set_option maxHeartbeats 400000 in
theorem grow_any (n:Nat) (w:World) (hbig:n≤140737488355328):Calls Tryz.prog 142 #[.slice none 0 0,.int .i64 n] w (Grown0 5 w):=by
 rcases Nat.eq_zero_or_pos n with rfl | hn
 ·
  go_enter Tryz.func142,Tryz.ntmps142
  go_wp2
  go_ret
  exact ⟨_,rfl,OwnB.nil _ _ _,Gr.refl _⟩
 ·
  obtain ⟨i0,hi,hz0,hz1,hz2⟩:=info_parts bt.info
  have hrz:∀ ty,(Builtin.append_ #[31,3] ty #[.slice none 0 0,.int .i64 (n:Int)]).run Tryz.prog w =
    .ok (.slice (some ⟨w.heap.size,0,none⟩) n (grownCap w n 0 5)) (w.drew.alloc (.cells (#[]++Builtin.zeroCells (Value.int .u8 0).cells n++Builtin.zeroCells (Value.int .u8 0).cells (grownCap w n 0 5 - n)) 5)):=fun ty=>by
   have h:=Lib.run_append_grow_zeros (P:=Tryz.prog) w 31 3 ty 5 i0 (.int .u8 0) .i64 .i64 Tryz.underlying31 Tryz.underlying3 hi hz0 none 0 0 [] (by rw [hz1];exact run_firstCells_none w.drew 1 0 0 0) n hn (by omega) (by omega) (by omega)
    (by rw [hz2];omega) (by rw [hz2];exact growslice_fits (by omega) (by omega))
   simpa using h
  have hGn:n≤grownCap w n 0 5:=grownCap_ge w _ _ _;have hG63:grownCap w n 0 5≤maxLen:=grownCap_le_maxLen w n 0 5 (by unfold maxLen;omega);obtain ⟨G,hG⟩:∃ G,G=grownCap w n 0 5:=⟨_,rfl⟩
  rw [← hG] at hrz hGn hG63
  clear hG hi hz0 hz1 hz2;have HG:=Lib.hid hG63
  have hG63':G≤9223372036854775807:=by unfold maxLen at hG63;omega
  clear hG63;obtain ⟨C,hC⟩:∃ C,C=#[]++Builtin.zeroCells (Value.int .u8 0).cells n++Builtin.zeroCells (Value.int .u8 0).cells (G - n):=⟨_,rfl⟩
  have hCs:Hid (C.size=G*1):=by
   show _=_
   rw [hC]
   simp only [Array.size_append,size_zeroCells,Array.size_empty,Value.cells]
   simp
   omega
  rw [← hC] at hrz
  clear hC
  go_enter Tryz.func142,Tryz.ntmps142
  go_wp2_with (at_builtin;refine Lib.wpList_append_run _ rfl _ _ _ _ rfl _ _ rfl rfl _ _ (hrz _) ?_)
  go_ret
  refine ⟨_,rfl,⟨?_,fun _ h=>by cases h⟩,?_⟩
  · exact World.ownsRow_made (w:=w.drew) C G (Nat.le_refl _) HG.out hCs.out
  · exact (Below.refl _ _).drew.alloc (Nat.le_refl _) _
set_option maxHeartbeats 800000 in
theorem concat_any (p:Option Addr) (n c:Nat) (xss:List (List Int)) (w:World) (h:Rows w p n c xss) (hbig:tot xss≤140737488355328):Calls Tryz.prog 113 #[.slice p n c] w (RetByte xss.flatten w):=by
 have HLen:=Lib.hid h.len
 have hn63:n≤9223372036854775807:=by have:=h.cap;have:=h.most;unfold maxLen at this;omega
 have HH:=Lib.hid h;have Hbig:=Lib.hid hbig;clear h hbig
 go_enter Tryz.func113,Tryz.ntmps113
 go_wp2
 go_loop [3,11] (fun t i=>∃ k:Nat,k≤n∧i=.int .i64 k∧t=.int .i64 (tot (xss.take k):Nat)) (fun _ i=>n - (intOf i).toNat)
 case atStart=>exact ⟨0,Nat.zero_le _,rfl,rfl⟩
 case round=>
  obtain ⟨k,hk,rfl,rfl⟩:=hrel;have hle:=tot_le xss k;have hb2:=Hbig.out
  by_cases hlt:k < n
  ·
   obtain ⟨b,o,rfl,hc⟩:=HH.out.lies (by omega);obtain ⟨q,m,d,hcell,hby⟩:=hc k hlt;have hle2:=tot_le xss (k+1);have hL:=tot_succ xss k m (by rw [HLen.out];exact hlt) hby.len;have HL:=Lib.hid hL
   have hSm:tot (xss.take k)+m≤140737488355328:=by omega
   clear hL hle2 hc hby hb2 hle
   go_wp2
   go_round
   case rel=>exact ⟨k+1,by omega,by go_num,congrArg (Value.int .i64) (by rw [HL.out];rfl)⟩
   case measure=>simp [intOf];omega
  ·
   obtain rfl:k=n:=by omega
   have hall:xss.take k=xss:=List.take_of_length_le (by rw [HLen.out];exact Nat.le_refl _);rw [hall];clear hall hle;go_wp2_with fail;refine (grow_any _ _ hb2).mono ?_;rintro e w1 ⟨v,rfl,own,gr⟩;have HO:=Lib.hid own;have HB:=Lib.hid gr;clear own gr hb2
   go_wp2
   go_loopw [6,27] (fun v i wr=>∃ j:Nat,j≤k∧i=.int .i64 j∧Hid (OwnB wr w.heap.size 5 v (xss.take j).flatten)∧Hid (Below w.heap.size w wr)) (fun _ i _=>k - (intOf i).toNat)
   case atStart=>exact ⟨0,Nat.zero_le _,rfl,HO,HB⟩
   case round=>
    obtain ⟨j,hj,rfl,ho,hb⟩:=hrel;have hbs:=hb.out.size
    by_cases hlt:j < k
    ·
     obtain ⟨b,o,rfl,hc⟩:=(HH.out.kept hb.out).lies (by omega);obtain ⟨q,m,d,hcell,hby⟩:=hc j hlt;have hfs:=Lib.hid (flat_succ xss j (by rw [HLen.out];exact hlt))
     have hsz:Hid ((xss.take j).flatten.length+m≤140737488355328):=by
      have h1:=tot_le xss (j+1)
      rw [tot_succ xss j m (by rw [HLen.out];exact hlt) hby.len] at h1
      exact Nat.le_trans h1 Hbig.out
     have HBY:=Lib.hid hby
     clear hby hc
     go_wp2_with (at_builtin;refine wpList_app_byt bt rfl (.tmp 31) (.tmp 32) rfl w.heap.size _ _ rfl ho.out q m d _ rfl HBY.out hsz.out hbs ?_)
     intro v' w' own grow
     have HO2:=Lib.hid (own.as hfs.out.symm);have HB2:Hid (Below w.heap.size w w'):=Below.app hb.out hbs ho.out grow;clear own grow
     go_wp2
     go_roundw
     case rel=>exact ⟨j+1,by omega,by go_num,HO2,HB2⟩
     case measure=>simp [intOf];omega
    ·
     obtain rfl:j=k:=by omega
     have hall:xss.take j=xss:=List.take_of_length_le (by rw [HLen.out];exact Nat.le_refl _);have ho2:=ho.out
     rw [hall] at ho2
     obtain ⟨q,d,hv⟩:=ho2.shape (tot xss) rfl;subst hv;have HO2:=Lib.hid ho2;clear ho2 hall
     go_wp2
     go_ret
     exact RetByte.of_own HO2.out hb.out
theorem join_any (p:Option Addr) (n c:Nat) (xss:List (List Int)) (w:World) (h:Rows w p n c xss) (hbig:tot xss≤140737488355328):Calls Tryz.prog 93 #[.slice p n c] w (RetByte xss.flatten w):=by
 go_enter Tryz.func93,Tryz.ntmps93
 go_wp2_with fail;refine (concat_any _ _ _ _ _ h hbig).mono ?_;rintro e w' ⟨q,m,d,rfl,hby,hg,hf⟩
 go_wp2
 go_ret
 exact ⟨q,m,d,rfl,hby,hg,hf⟩
end Go.Proofs.YtdmhemgepdknhaaGreat
namespace Go.Proofs.YtdmhemgepdknhaaGreat
open Go.RowKit
open Extern.Stop (cell)
def Sx (xs:List Int):Sec:=if h:xs.length=256 then ⟨xs.map fun x=>UInt8.ofNat x.toNat,by rw [List.length_map,h]⟩ else Sec.zero
structure IsSec (xs:List Int):Prop where
 len:xs.length=256
 small:Wd.Small xs
theorem cell_of {x:Int} (h:0≤x∧x < 256):cell (UInt8.ofNat x.toNat)=.int .u8 x:=by
 obtain ⟨y,rfl⟩:=Int.eq_ofNat_of_zero_le h.1
 have:y % 256=y:=by omega
 simp [cell,UInt8.toNat_ofNat',this]
theorem Sx_bytes {xs:List Int} (h:xs.length=256):(Sx xs).bytes=xs.map fun x=>UInt8.ofNat x.toNat:=by simp [Sx,h]
theorem Sx_cells {xs:List Int} (h:IsSec xs):(Sx xs).cells=xs.map (Value.int .u8):=by
 unfold Sec.cells
 rw [Sx_bytes h.len,List.map_map]
 apply List.map_congr_left
 intro x hx
 exact cell_of (h.small x hx)
theorem Sx_inj {xs ys:List Int} (h:IsSec xs) (k:IsSec ys):Sx xs=Sx ys ↔ xs=ys:=by
 constructor
 ·
  intro e
  have e1:xs.map (Value.int .u8)=ys.map (Value.int .u8):=by rw [← Sx_cells h,← Sx_cells k,e]
  have e2:=congrArg (List.map fun v:Value=>match v with | .int _ x=>x | _=>0) e1
  simpa [List.map_map,Function.comp_def] using e2
 · intro e;rw [e]
theorem Sx_zero:Sx (List.replicate 256 0)=Sec.zero:=by
 have h:(List.replicate 256 (0:Int)).length=256:=List.length_replicate ..
 apply Sec.ext
 rw [Sx_bytes h,List.map_replicate]
 rfl
theorem zeros_sec:IsSec (List.replicate 256 0):=⟨List.length_replicate ..,fun x h=>by rw [List.mem_replicate] at h;omega⟩
theorem Blk.byt {w:World} {g:Nat} {xs:List Int} (h:Blk w g TS (sec (Sx xs))) (k:IsSec xs):Byt w (some ⟨g,0,none⟩) 256 256 xs:=
 ⟨k.len,Nat.le_refl _,by simp only [maxLen];omega,fun _=>⟨g,0,rfl,fun i hi=>by
  rw [Nat.zero_add,h.cell i]
  unfold sec
  rw [Sx_cells k]
  simp [List.getD,k.len,hi]⟩,(fun h=>by cases h),k.small⟩
def lay (xs:List Int) (F:Nat) (ys:List Int):List Int:=xs.take F++(ys++xs.drop (F+ys.length))
theorem lay_sec {xs ys:List Int} {F:Nat} (h:IsSec xs) (k:Wd.Small ys) (hf:F+ys.length≤256):IsSec (lay xs F ys):=
 ⟨by have:=h.len;simp [lay];omega,(h.small.take F).app (k.app (h.small.drop _))⟩
theorem lay_cells {xs ys:List Int} {F:Nat} (h:IsSec xs) (k:Wd.Small ys) (hf:F+ys.length≤256) :
  ((sec (Sx xs)).toList.take F++(ys.map (Value.int .u8)++(sec (Sx xs)).toList.drop (F+(ys.map (Value.int .u8)).length))).toArray=sec (Sx (lay xs F ys)):=by
 rw [sec_list,Sx_cells h]
 unfold sec
 rw [Sx_cells (lay_sec h k hf)]
 simp [lay]
theorem bt4:BT Tryz.prog 31 5:=⟨Tryz.underlying31,by kernel_rfl⟩
theorem bt4_size:(Tryz.prog.info? 5).map (·.size)=some 1:=by kernel_rfl
theorem wpList_copy_sec {w:World} {ops:Array Oper} {rest:List Oper} {o:Oper} {a:Act} {Q:Exit→Act→World→Prop} (hgd:o.guard=none) (d s:Operand)
  (ho:o.op=.call { callee:=.builtin .copy,args:=#[d,s],argTypes:=#[31,31] }) {g F L C:Nat} {xs:List Int} (hd:a.eval d=.slice (some ⟨g,F,none⟩) L C) (hb:Blk w g TS (sec (Sx xs))) (hx:IsSec xs)
  {q:Option Addr} {m c:Nat} {ys:List Int} (hs:a.eval s=.slice q m c) (hy:Byt w q m c ys) (hm:0 < m) (hL:m≤L) (hf:F+m≤256)
  (h:wpList Tryz.prog ops Q rest (a.put o.dst (goInt m)) (w.setRow g (sec (Sx (lay xs F ys))))):wpList Tryz.prog ops Q (o :: rest) a w:=by
 obtain ⟨b,of,rfl,_⟩:=hy.at hm
 have hl:=hy.len;refine wpList_copy_own hgd d s _ _ ho 5 bt4.us bt4_size g F L C ⟨b,of,none⟩ m c hd hs (sec (Sx xs)) TS hb (ys.map (Value.int .u8)) (by rw [List.length_map,hl];exact (Nat.min_eq_left hL).symm) hy.news (by rw [List.length_map,hl,sec_size];exact hf) (u8s_oneCell _) ?_;rw [lay_cells hx hy.small (by rw [hl];exact hf)]
 simpa [hl] using h
theorem step_copy_sec {w:World} {ops:Array Oper} {o:Oper} {a:Act} {K:Act→World→Prop} {Q:Exit→Act→World→Prop} {E:Prop} (hgd:o.guard=none) (d s:Operand)
  (ho:o.op=.call { callee:=.builtin .copy,args:=#[d,s],argTypes:=#[31,31] }) {g F L C:Nat} {xs:List Int} (hd:a.eval d=.slice (some ⟨g,F,none⟩) L C) (hb:Blk w g TS (sec (Sx xs))) (hx:IsSec xs)
  {q:Option Addr} {m c:Nat} {ys:List Int} (hs:a.eval s=.slice q m c) (hy:Byt w q m c ys) (hm:0 < m) (hL:m≤L) (hf:F+m≤256)
  (h:K (a.put o.dst (goInt m)) (w.setRow g (sec (Sx (lay xs F ys))))):if Region.wanted o (yielded ops a.tmps)=true then Oper.wp Tryz.prog o a w K Q else E:=by
 have hw:Region.wanted o (yielded ops a.tmps)=true:=by simp [Region.wanted,hgd]
 rw [if_pos hw]
 obtain ⟨b,of,rfl,_⟩:=hy.at hm
 have hl:=hy.len;have hrun:=run_copy_row (P:=Tryz.prog) w 31 31 o.type 5 g F L C ⟨b,of,none⟩ m c (sec (Sx xs)) TS (ys.map (Value.int .u8)) bt4.us bt4_size hb (by rw [List.length_map,hl];exact (Nat.min_eq_left hL).symm) hy.news (by rw [List.length_map,hl,sec_size];exact hf) (u8s_oneCell _)
 rw [List.append_assoc,lay_cells hx hy.small (by rw [hl];exact hf),List.length_map,hl] at hrun
 unfold Oper.wp
 simp only [execOp,ho,resolve,invoke,builtin,hd,hs]
 simp [hd,hs,hrun,Result.andThen]
 exact h
theorem wpList_load_x {ops:Array Oper} {rest:List Oper} {op:Oper} {a:Act} {w:World} {Q:Exit→Act→World→Prop} (hgd:op.guard=none) (x:Operand) (ho:op.op=.load TS x)
  {g:Nat} {s:Sec} (hb:Blk w g TS (sec s)) (hx:a.eval x=.pointer (some ⟨g,0,none⟩))
  (h:wpList Tryz.prog ops Q rest (a.put op.dst (.agg (sec s))) w):wpList Tryz.prog ops Q (op :: rest) a w:=
 wpList_load_row hgd TS x ho g hx TS (sec s) (0,0) _ hb under_sec rfl (by rw [sec_size];exact size_sec) h
theorem wp_load_x {op:Oper} {a:Act} {w:World} {K:Act→World→Prop} {Q:Exit→Act→World→Prop} (x:Operand) (ho:op.op=.load TS x)
  {g:Nat} {s:Sec} (hb:Blk w g TS (sec s)) (hx:a.eval x=.pointer (some ⟨g,0,none⟩)) (h:K (a.put op.dst (.agg (sec s))) w):op.wp Tryz.prog a w K Q:=
 wp_load_row TS x ho g hx TS (sec s) (0,0) _ hb under_sec rfl (by rw [sec_size];exact size_sec) h
theorem wpList_store_x {ops:Array Oper} {rest:List Oper} {op:Oper} {a:Act} {w:World} {Q:Exit→Act→World→Prop} (hgd:op.guard=none) (x y:Operand) (ho:op.op=.store TS x y)
  {g:Nat} {old s:Sec} (hb:Blk w g TS (sec old)) (hx:a.eval x=.pointer (some ⟨g,0,none⟩)) (hy:a.eval y=.agg (sec s))
  (h:wpList Tryz.prog ops Q rest (a.put op.dst undef) (w.setRow g (sec s))):wpList Tryz.prog ops Q (op :: rest) a w:=
 wpList_store_row hgd TS x y ho g (sec s) hx hy TS (sec old) hb (by rw [sec_size];exact size_sec) (by rw [sec_size,sec_size]) (sec_one s) h
theorem results_x {fn:Func} {p:Tmp} (h:fn.results=#[.cell p TS]) (tmps:Array Value) (w:World) (g:Nat) (s:Sec)
  (hp:tmps.getD p undef=.pointer (some ⟨g,0,none⟩)) (hb:Blk w g TS (sec s)):(results fn tmps).run Tryz.prog w=.ok (.agg (sec s)) w:=
 results_cell_row h tmps w g TS (sec s) (0,0) _ hp hb under_sec rfl (by rw [sec_size];exact size_sec)
end Go.Proofs.YtdmhemgepdknhaaGreat
namespace Go.Proofs.YtdmhemgepdknhaaGreat
open Go.RowKit
theorem fold_list:∀ (vs:List Value) (k off:Nat) (cs:Array Value),off+k+vs.length≤cs.size →
  ((vs.zipIdx k).foldl (fun (cs:Array Value) (p:Value × Nat)=>cs.setIfInBounds (off+p.2) p.1) cs).toList=cs.toList.take (off+k)++vs++cs.toList.drop (off+k+vs.length)
 | [],k,off,cs,_=>by simp
 | v :: r,k,off,cs,h=>by
  have hs:off+k < cs.toList.length:=by simp at h ⊢;omega
  rw [List.zipIdx_cons,List.foldl_cons];have ih:=fold_list r (k+1) off (cs.setIfInBounds (off+k) v) (by simp at h ⊢;omega);rw [ih,Array.toList_setIfInBounds]
  have e1:(cs.toList.set (off+k) v).take (off+(k+1))=cs.toList.take (off+k)++[v]:=by
   have hs2:off+k < (cs.toList.set (off+k) v).length:=by rw [List.length_set];exact hs
   rw [show off+(k+1)=off+k+1 from rfl,List.take_succ_eq_append_getElem hs2,List.take_set_of_le (Nat.le_refl _),List.getElem_set_self]
  have e2:(cs.toList.set (off+k) v).drop (off+(k+1)+r.length)=cs.toList.drop (off+k+(v :: r).length):=by
   rw [List.drop_set_of_lt (by omega)]
   congr 1
   simp
   omega
  rw [e1,e2]
  simp
theorem fill_part (vs:List Value) (off:Nat) (cs:Array Value) (h:off+vs.length≤cs.size) :
  vs.toArray.zipIdx.foldl (fun (cs:Array Value) (x:Value × Nat)=>match x with | (c,j)=>cs.setIfInBounds (off+j) c) cs=(cs.toList.take off++vs++cs.toList.drop (off+vs.length)).toArray:=by
 have h1:=fold_list vs 0 off cs (by omega);rw [← Array.toList_inj]
 rw [show off+0=off from rfl] at h1
 rw [← h1,← Array.foldl_toList,Array.toList_zipIdx]
end Go.Proofs.YtdmhemgepdknhaaGreat
namespace Go.Proofs.YtdmhemgepdknhaaGreat
open Go.RowKit Go.Maps
section
variable {w w':World} {b m n:Nat} {pd pl:Value} {B:Nat→Option Nat} {P:Pl}
set_option maxRecDepth 100000 in
theorem pasked_any {F:Nat→Prop} {s:St} (h:PlAt w b pd pl m n B P) (hd:Dk w F pd s) (i:Int):Calls Tryz.prog 40 #[.pointer (some ⟨b,0,none⟩),.int .i64 i] w fun e w'=>e=.returned (.int .i64 (askE s.ls.length i))∧w=w':=by
 have HM:=Lib.hid (pmissing_no h);have HS:=Lib.hid (Sectors_any w hd);have c0:=h.c6.1;obtain ⟨d,rfl⟩:=h.dsk;obtain ⟨N,hN⟩:∃ N,N=s.ls.length:=⟨_,rfl⟩
 rw [← hN] at HS ⊢
 clear h hd hN
 unfold askE
 by_cases h0:i < 0
 ·
  rw [if_pos (Or.inl h0)];have d0:decide (i < 0)=true:=decide_eq_true h0;clear h0
  go_enter Tryz.func40,Tryz.ntmps40
  go_wp2_with fail;refine HM.out.mono ?_;rintro e w1 ⟨rfl,rfl⟩;go_wp2_with fail
  go_ret
  exact ⟨rfl,rfl⟩
 ·
  have d0:decide (i < 0)=false:=decide_eq_false h0
  by_cases h1:(N:Int)≤i
  ·
   rw [if_pos (Or.inr h1)];have d1:decide ((N:Int)≤i)=true:=decide_eq_true h1;clear h0 h1
   go_enter Tryz.func40,Tryz.ntmps40
   go_wp2_with fail;refine HM.out.mono ?_;rintro e w1 ⟨rfl,rfl⟩;go_wp2_with fail;refine HS.out.mono ?_;rintro e w1 ⟨rfl,rfl⟩;go_wp2_with fail
   go_ret
   exact ⟨rfl,rfl⟩
  ·
   rw [if_neg (by omega)];have d1:decide ((N:Int)≤i)=false:=decide_eq_false h1;clear h0 h1
   go_enter Tryz.func40,Tryz.ntmps40
   go_wp2_with fail;refine HM.out.mono ?_;rintro e w1 ⟨rfl,rfl⟩;go_wp2_with fail;refine HS.out.mono ?_;rintro e w1 ⟨rfl,rfl⟩;go_wp2_with fail
   go_ret
   exact ⟨rfl,rfl⟩
theorem PlAt.held (h:PlAt w b pd pl m n B P) (x:Bool):PlAt (w.setCell ⟨b,3,none⟩ (.bool x)) b pd pl m n B { P with held:=x }:=by
 have ho:∀ k,k≠b→(w.setCell ⟨b,3,none⟩ (.bool x)).heap[k]?=w.heap[k]?:=fun k hk=>Below.heap_setCell w _ _ k hk
 have hbm:m≠b:=fun e=>by
  obtain ⟨D,⟨es,ck,h1,_⟩,_⟩:=h.map;have h2:=h.blk
  unfold Blk at h2
  rw [e,h2] at h1
  cases h1
 have hbf:∀ i c,B i=some c→c≠b:=fun i c hc e=>by
  obtain ⟨f,_,h1,_⟩:=h.frs i c hc;have h2:=h.blk
  unfold Blk at h1 h2
  rw [e,h2] at h1
  simp only [Option.some.injEq,Obj.cells.injEq] at h1
  exact absurd h1.2.1 (by decide)
 exact ⟨h.blk.set 3 (.bool x),h.map.stays (ho m hbm),h.most,h.has,fun i c hc=>by
  obtain ⟨f,h1,h2,h3⟩:=h.frs i c hc
  exact ⟨f,h1,h2.stays (ho c (hbf i c hc)),h3⟩,h.inj,h.dsk,h.lg⟩
set_option maxRecDepth 100000 in
theorem Let_any (h:PlAt w b pd pl m n B P):Calls Tryz.prog 20 #[.pointer (some ⟨b,0,none⟩)] w fun e w'=>e=.returned (.tuple #[])∧PlAt w' b pd pl m n B { P with held:=false }∧w'=w.setCell ⟨b,3,none⟩ (.bool false):=by
 have HM:=Lib.hid (pmissing_no h);have HF:=Lib.hid (h.held false);have c3:=h.c6.2.2.2.1;have f3:=h.blk.frozen 3;clear h
 go_enter Tryz.func20,Tryz.ntmps20
 go_wp2_with fail;refine HM.out.mono ?_;rintro e w1 ⟨rfl,rfl⟩
 go_wp2
 go_end0
 exact ⟨rfl,HF.out,rfl⟩
end
theorem run_arrayAt {P:Program} (arr n e:Nat) (hu:P.underlying arr=some (.array n e)) (a:Option Addr) (len cap:Nat) (h:n≤len) (w:World):(Instr.arrayAt arr (.slice a len cap)).run P w=.ok (.pointer a) w:=by
 have h2:¬ len < n:=by omega
 simp [Instr.arrayAt,run_underlying hu,h2]
def frZ:List Value:=List.replicate 248 (Value.int .u8 0)
theorem frZ_len:frZ.length=248:=List.length_replicate
theorem built_fr (x:PSec) (n:Int):Tryz.prog.built TFr [(0,.agg x.cells.toArray),(1,.int .u64 n)]=some (x.cells++[Value.int .u64 n,Value.int .u64 0,Value.bool false,Value.bool false]).toArray:=by
 have hz0:(Tryz.prog.info? TFr).map (·.zero)=some (some (.agg ((frZ++[Value.int .u64 0,Value.int .u64 0,Value.bool false,Value.bool false]).toArray))):=by kernel_rfl
 obtain ⟨it,hit,hz⟩:∃ it,Tryz.prog.info? TFr=some it∧it.zero=some (.agg ((frZ++[Value.int .u64 0,Value.int .u64 0,Value.bool false,Value.bool false]).toArray)):=by
  cases h:Tryz.prog.info? TFr with
  | none=>rw [h] at hz0;cases hz0
  | some it=>rw [h] at hz0;exact ⟨it,rfl,Option.some.inj hz0⟩
 obtain ⟨fs,hfs,hm⟩:∃ fs:Array Field,Tryz.prog.underlying TFr=some (.struct fs)∧fs.toList.mapM (fun f=>(Tryz.prog.info? f.type).map fun i=>(f.offset,i.size))=some [(0,248),(248,1),(249,1),(250,1),(251,1)]:=⟨_,Tryz.underlying91,by kernel_rfl⟩
 unfold Program.built
 rw [hit,hfs]
 simp only [hz]
 rw [hm];have hx:=x.cells_len;have hf:=fill_part x.cells 0 (frZ++[Value.int .u64 0,Value.int .u64 0,Value.bool false,Value.bool false]).toArray (by rw [hx,List.size_toArray,List.length_append,frZ_len];exact Nat.le_add_right _ _);have hs:(Value.agg x.cells.toArray).cells=x.cells.toArray:=rfl
 have hd:(frZ++[Value.int .u64 0,Value.int .u64 0,Value.bool false,Value.bool false]).drop (0+x.cells.length)=[Value.int .u64 0,Value.int .u64 0,Value.bool false,Value.bool false]:=by
  rw [hx,Nat.zero_add];exact List.drop_left' frZ_len
 rw [hd] at hf
 have hf2:List.foldl (fun (cs:Array Value) (p:Value × Nat)=>cs.setIfInBounds p.2 p.1) (frZ++[Value.int .u64 0,Value.int .u64 0,Value.bool false,Value.bool false]).toArray x.cells.zipIdx=(x.cells++[Value.int .u64 0,Value.int .u64 0,Value.bool false,Value.bool false]).toArray:=by
  simpa using hf
 have hb:¬ (248+1 > (x.cells++[Value.int .u64 0,Value.int .u64 0,Value.bool false,Value.bool false]).toArray.size):=by rw [List.size_toArray,List.length_append,hx];decide
 have hset:(x.cells++[Value.int .u64 0,Value.int .u64 0,Value.bool false,Value.bool false]).toArray.setIfInBounds 248 (.int .u64 n)=(x.cells++[Value.int .u64 n,Value.int .u64 0,Value.bool false,Value.bool false]).toArray:=by
  rw [List.setIfInBounds_toArray,List.set_append_right _ _ (by rw [hx];exact Nat.le_refl _),hx]
  rfl
 simp [Instr.fill,Value.cells,hx,frZ_len]
 rw [hf2];exact ⟨by rw [List.size_toArray,List.length_append,hx];decide,hset⟩
def frS (xs:List Int):PFr:=⟨xs.drop 8,Wd.dec (xs.take 8),0,false,false⟩
theorem frS_in {xs:List Int} (h:IsSec xs):(frS xs).In:=by
 refine ⟨⟨by show (xs.drop 8).length=248;rw [List.length_drop,h.len],h.small.drop 8⟩,?_,by show (0:Nat)≤_;omega⟩;have h1:=Wd.dec_lt _ (h.small.take 8)
 have h2:(xs.take 8).length=8:=by rw [List.length_take,h.len];rfl
 rw [h2] at h1
 show Wd.dec (xs.take 8)≤_
 omega
def RetFr (f:PFr) (w:World) (e:Ending) (w':World):Prop:=∃ c,e=.returned (.pointer (some ⟨c,0,none⟩))∧Blk w' c TFr f.cells∧w.heap.size≤c∧Gr w w'
end Go.Proofs.YtdmhemgepdknhaaGreat
namespace Go.Proofs.YtdmhemgepdknhaaGreat
open Go.RowKit Go.Maps
theorem wordR_take8 (xs:List Int):wordR (xs.take 8) 0=Wd.dec (xs.take 8):=by
 unfold wordR
 rw [if_neg (by decide)]
 show Wd.dec (((xs.take 8).drop 0).take 8)=_
 rw [List.drop_zero,List.take_take]
 rfl
theorem frS_cells (xs:List Int):((PSx (xs.drop 8)).cells++[Value.int .u64 ((Wd.dec (xs.take 8):Nat):Int),Value.int .u64 0,Value.bool false,Value.bool false]).toArray=(frS xs).cells:=rfl
theorem wp_build_fr {op:Oper} {a:Act} {w:World} {K:Act→World→Prop} {Q:Exit→Act→World→Prop} (x y:Operand) (ho:op.op=.build TFr #[(0,x),(1,y)]) {p:PSec} {n:Int}
  (hx:a.eval x=.agg p.cells.toArray) (hy:a.eval y=.int .u64 n) (h:K (a.put op.dst (.agg (p.cells++[Value.int .u64 n,Value.int .u64 0,Value.bool false,Value.bool false]).toArray)) w):op.wp Tryz.prog a w K Q:=by
 have hb:Tryz.prog.built TFr ((#[(0,x),(1,y)]:Array (Nat × Operand)).map fun (i,x)=>(i,a.eval x)).toList=some (p.cells++[Value.int .u64 n,Value.int .u64 0,Value.bool false,Value.bool false]).toArray:=by
  simp only [List.map_toArray,List.map_cons,List.map_nil,hx,hy]
  exact built_fr p n
 exact wp_build TFr _ ho (by rw [hb];rfl) (by rw [hb];exact h)
def SlPfo (U:Nat) (xs:List Int) (slot:Nat) (v:Value) (w:World):Prop:=
 match slot with
 | 3=>v=.slice (some ⟨U,8,none⟩) 248 248
 | 4=>v=.pointer (some ⟨U,8,none⟩)
 | 5=>v=.agg (PSx (xs.drop 8)).cells.toArray
 | 6=>v=.slice (some ⟨U,0,none⟩) 8 256
 | 7=>v=.int .u64 ((Wd.dec (xs.take 8):Nat):Int)
 | 8=>v=.agg (frS xs).cells
 | 9 | 2=>∃ c,v=.pointer (some ⟨c,0,none⟩)∧Blk w c TFr (frS xs).cells∧U < c
 | _=>True
theorem slPfo_gr {U:Nat} {xs:List Int} {s:Nat} {v:Value} {w w':World} (h:SlPfo U xs s v w) (g:Gr w w'):SlPfo U xs s v w':=by
 unfold SlPfo at *
 split <;> simp only at h
 all_goals first
  | exact h
  | (obtain ⟨c,h1,h2,h3⟩:=h;exact ⟨c,h1,h2.gr g,h3⟩)
set_option maxRecDepth 100000 in
set_option maxHeartbeats 1000000 in
theorem frameOf_any {xs:List Int} (hx:IsSec xs) (w:World):Calls Tryz.prog 70 #[.agg (sec (Sx xs))] w (RetFr (frS xs) w):=by
 obtain ⟨W1,hW1⟩:∃ W1,W1=w.alloc (.cells (sec (Sx xs)) TS):=⟨_,rfl⟩;have HB:Hid (Blk W1.drew w.heap.size TS (sec (Sx xs))∧Gr w W1.drew∧w.heap.size < W1.drew.heap.size):=Lib.hid (by rw [hW1];exact ⟨show Blk (w.alloc (.cells (sec (Sx xs)) TS)) _ _ _ from Blk.new _ _ _,(Gr.new _ _).drew,by show _ < (w.alloc _).heap.size;rw [World.size_alloc];omega⟩);have HW1:Hid (w.alloc (.cells (sec (Sx xs)) 60)=W1):=Lib.hid hW1.symm
 have HR:Hid (∀ V,Gr W1.drew V→V.rangeAt w.heap.size 8 (PSx (xs.drop 8)).cells):=Lib.hid fun V g j v hv=>by
  have hl:j < 248:=by have:=(List.getElem?_eq_some_iff.1 hv).1;rwa [PSec.cells_len] at this
  rw [(HB.out.1.gr g).cell (8+j)]
  rw [show (PSx (xs.drop 8)).cells=(xs.drop 8).map (Value.int .u8) from PSx_cells (frS_in hx).pay] at hv
  have e:(sec (Sx xs))[8+j]?=(xs.map (Value.int .u8))[8+j]?:=by
   show ((Sx xs).cells.toArray)[8+j]?=_
   rw [List.getElem?_toArray,Sx_cells hx]
  rw [e]
  show (xs.map (Value.int .u8))[8+j]?=some v
  rw [← hv]
  show _=((xs.drop 8).map (Value.int .u8))[j]?
  rw [List.getElem?_map,List.getElem?_map,List.getElem?_drop]
 have hpu:=Punder_sec
 have har:=fun V=>run_arrayAt (P:=Tryz.prog) 35 248 _ Punder_sec (some ⟨w.heap.size,8,none⟩) 248 248 (Nat.le_refl _) V
 have HWd:Hid (∀ V,Gr W1.drew V→Calls Tryz.prog 90 #[.slice (some ⟨w.heap.size,0,none⟩) 8 256,.int .i64 0] V fun e w'=>e=.returned (.int .u64 ((Wd.dec (xs.take 8):Nat):Int))∧V=w'):=Lib.hid fun V g=>by
  have h:=word_any (some ⟨w.heap.size,0,none⟩) 8 256 (xs.take 8) 0 V (((HB.out.1.gr g).byt hx).pre 8 256 (by omega) (by omega) (Nat.le_refl _)) (by decide)
  rw [wordR_take8] at h
  exact h
 clear hW1
 go_enter Tryz.func70,Tryz.ntmps70
 go_wp2_with fail;rw [HW1.out];refine Flow.region (SlPfo w.heap.size xs) (Gr W1.drew) Gr (by kernel_rfl) (by kernel_rfl) (fun _ _ _ _ h g=>slPfo_gr h g) ⟨rfl,rfl,rfl,Nat.le_refl _,fun _ _=>rfl⟩ ?steps ?fin
 case steps=>
  refine .cons (fun a W hfr hinv hdep K hK=>?_) ?_
  · have t1:=tAt (.pointer (some ⟨w.heap.size,0,none⟩)) (hfr.at 1 (by kernel_rfl));refine fW0 rfl ?_;clear hfr hdep;go_simp;exact hK _ _ (Gr.refl _) hinv (dsT (by trivial))
  refine .cons (fun a W hfr hinv hdep K hK=>?_) ?_
  · have t3:=tAt (.slice (some ⟨w.heap.size,8,none⟩) 248 248) (hdep 3 (by kernel_rfl));refine fW0 rfl ?_;clear hfr hdep;go_simp;exact hK _ _ (Gr.refl _) hinv (dsT (by trivial))
  refine .cons (fun a W hfr hinv hdep K hK=>?_) ?_
  · have s4:a.tmps.getD 4 undef=.pointer (some ⟨w.heap.size,8,none⟩):=hdep 4 (by kernel_rfl);have t4:=tmpAt s4;refine fW0 rfl ?_;clear hfr hdep;refine wp_load_mid 35 (.tmp 4) rfl w.heap.size 8 s4 (PSx (xs.drop 8)).cells _ (HR.out W hinv) hpu rfl (by rw [PSec.cells_len];exact Psize_sec) ?_;exact hK _ _ (Gr.refl _) hinv (dsT (by trivial))
  refine .cons (fun a W hfr hinv hdep K hK=>?_) ?_
  · have t1:=tAt (.pointer (some ⟨w.heap.size,0,none⟩)) (hfr.at 1 (by kernel_rfl));refine fW0 rfl ?_;clear hfr hdep;go_simp;exact hK _ _ (Gr.refl _) hinv (dsT (by trivial))
  refine .cons (fun a W hfr hinv hdep K hK=>?_) ?_
  · have t6:=tAt (.slice (some ⟨w.heap.size,0,none⟩) 8 256) (hdep 6 (by kernel_rfl));refine fW0 rfl ?_;clear hfr hdep;go_simp;refine (HWd.out W hinv).mono ?_;rintro e W' ⟨rfl,rfl⟩;exact hK _ _ (Gr.refl _) hinv (dsT (by trivial))
  refine .cons (fun a W hfr hinv hdep K hK=>?_) ?_
  · have s5:a.tmps.getD 5 undef=.agg (PSx (xs.drop 8)).cells.toArray:=hdep 5 (by kernel_rfl);have t5:=tmpAt s5;have s7:a.tmps.getD 7 undef=.int .u64 ((Wd.dec (xs.take 8):Nat):Int):=hdep 7 (by kernel_rfl);have t7:=tmpAt s7;refine fW0 rfl ?_;clear hfr hdep;refine wp_build_fr (.tmp 5) (.tmp 7) rfl (p:=PSx (xs.drop 8)) (n:=((Wd.dec (xs.take 8):Nat):Int)) s5 s7 ?_;rw [frS_cells];exact hK _ _ (Gr.refl _) hinv (dsT (by trivial))
  refine .cons (fun a W hfr hinv hdep K hK=>?_) ?_
  · have t8:=tAt (.agg (frS xs).cells) (hdep 8 (by kernel_rfl));refine fW0 rfl ?_;clear hfr hdep;go_simp;exact hK _ _ (Gr.new _ _) (Gr.trans hinv (Gr.new _ _)) (fun d hd=>by cases hd;exact ⟨_,rfl,Blk.new _ _ _,Nat.lt_of_lt_of_le HB.out.2.2 hinv.size⟩)
  refine .cons (fun a W hfr hinv hdep K hK=>?_) ?_
  · have s9:∃ c,(a.tmps.getD 9 undef)=.pointer (some ⟨c,0,none⟩)∧Blk W c TFr (frS xs).cells∧w.heap.size < c:=hdep 9 (by kernel_rfl);refine fW0 rfl ?_;clear hfr hdep;obtain ⟨c,s9,h1,h2⟩:=s9;have t9:=tmpAt s9;go_simp;exact hK _ _ (Gr.refl _) hinv (fun d hd=>by cases hd;exact ⟨_,rfl,h1,h2⟩)
  exact True.intro
 case fin=>
  intro a W hfr hfin hsl
  obtain ⟨c,s2,hb,hc⟩:∃ c,a.tmps.getD 2 undef=.pointer (some ⟨c,0,none⟩)∧Blk W c TFr (frS xs).cells∧w.heap.size < c:=hsl 7 _ 2 rfl rfl;have t2:=tmpAt s2;have e:=Flow.frame hfr [3,4,5,6,7,8,9,2] (List.range 10) (by kernel_rfl) (by kernel_rfl)
  simp [List.range,List.range.loop] at e
  rw [t2] at e
  rw [e];clear e hfr hsl s2 t2;go_wp2_with fail
  go_ret
  exact ⟨c,rfl,hb,by omega,HB.out.2.1.trans hfin⟩
end Go.Proofs.YtdmhemgepdknhaaGreat
