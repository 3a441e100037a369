/-
  Texts, put together: PoolRef1 PoolDp6 PoolDp7.
-/
import Derived.StillTailTactics
import Derived.Test.YtdmhemgepdknhaaGreatV1
import Derived.Test.YtdmhemgepdknhaaGreatV6
import Derived.Test.YtdmhemgepdknhaaGreatV14
import Derived.Test.YtdmhemgepdknhaaGreatV32
set_option linter.unusedVariables false
set_option linter.unusedSimpArgs false
namespace Go.Proofs.YtdmhemgepdknhaaGreat
open Go.RowKit Go.Maps
theorem dec_cons (x:Int) (r:List Int):Wd.dec (x :: r)=x.toNat+256*Wd.dec r:=rfl
theorem dec_lt:∀ (l:List Int),Wd.Small l→Wd.dec l < 256 ^ l.length
 | [],_=>by decide
 | x :: r,h=>by
  have h1:=h.head;have h2:=dec_lt r h.tail;rw [dec_cons,List.length_cons,Nat.pow_succ]
  omega
theorem dec_drop {l:List Int} {j:Nat} (h:j < l.length):Wd.dec (l.drop j)=(l.getD j 0).toNat+256*Wd.dec (l.drop (j+1)):=by
 have e:l.drop j=l.getD j 0 :: l.drop (j+1):=by
  rw [List.drop_eq_getElem_cons h]
  simp [List.getD,h]
 rw [e,dec_cons]
set_option maxRecDepth 100000 in
set_option maxHeartbeats 1000000 in
theorem LSN_any {xs:List Int} (hx:IsSec xs) (w:World):Calls Tryz.prog 29 #[.agg (sec (Sx xs))] w fun e w'=>e=.returned (.int .u64 (Wd.dec (xs.take 8):Int))∧Gr w w':=by
 obtain ⟨W1,hW1⟩:∃ W1,W1=w.alloc (.cells (sec (Sx xs)) TS):=⟨_,rfl⟩;have HW1:=Lib.hid hW1.symm;have HB:Hid (Blk W1 w.heap.size TS (sec (Sx xs))∧Gr w W1):=Lib.hid (by rw [hW1];exact ⟨Blk.new _ _ _,Gr.new _ _⟩)
 have HC:Hid (∀ j:Nat,j < 8→W1.cell? ⟨w.heap.size,j,none⟩=some (.int .u8 (xs.getD j 0))∧0≤xs.getD j 0∧xs.getD j 0 < 256∧Wd.dec ((xs.take 8).drop j)=(xs.getD j 0).toNat+256*Wd.dec ((xs.take 8).drop (j+1))∧Wd.dec ((xs.take 8).drop (j+1)) < 72057594037927936):=Lib.hid fun j hj=>by
  have hl:=hx.len;have hs:=hx.small.getD j;refine ⟨?_,hs.1,hs.2,?_,?_⟩
  ·
   rw [HB.out.1.cell]
   unfold sec
   rw [Sx_cells hx,List.getElem?_toArray,List.getElem?_map]
   simp [List.getD,show j < xs.length by omega]
  ·
   have h1:=dec_drop (l:=xs.take 8) (j:=j) (by rw [List.length_take];omega)
   have h2:(xs.take 8).getD j 0=xs.getD j 0:=by simp [List.getD,hj]
   rw [h2] at h1
   exact h1
  ·
   have h1:=dec_lt ((xs.take 8).drop (j+1)) ((hx.small.take 8).drop (j+1))
   have h2:((xs.take 8).drop (j+1)).length≤7:=by rw [List.length_drop,List.length_take];omega
   exact Nat.lt_of_lt_of_le h1 (Nat.le_trans (Nat.pow_le_pow_right (by decide) h2) (by decide))
 have HE:Hid (Wd.dec ((xs.take 8).drop 8)=0∧Wd.dec ((xs.take 8).drop 0)=Wd.dec (xs.take 8)):=Lib.hid (by
  refine ⟨?_,by rw [List.drop_zero]⟩;rw [List.drop_of_length_le (by rw [List.length_take];omega)]
  rfl)
 clear hW1
 go_enter Tryz.func29,Tryz.ntmps29
 go_wp2_with fail;rw [HW1.out]
 go_loop [3,4] (fun nv iv=>∃ j:Nat,j≤8∧iv=.int .i64 ((j:Int) - 1)∧nv=.int .u64 ((Wd.dec ((xs.take 8).drop j):Nat):Int)) (fun _ iv=>(intOf iv+1).toNat)
 case atStart=>exact ⟨8,Nat.le_refl _,rfl,by rw [HE.out.1];rfl⟩
 case round=>
  obtain ⟨j,hj,rfl,rfl⟩:=hrel
  cases j with
  | zero=>
   rw [HE.out.2];go_wp2_with fail
   go_ret
   exact ⟨rfl,HB.out.2⟩
  | succ j=>
   obtain ⟨c0,x0,x1,hd,hlt⟩:=HC.out j (by omega);obtain ⟨X,hX⟩:∃ X,X=xs.getD j 0:=⟨_,rfl⟩;obtain ⟨D,hD⟩:∃ D,D=Wd.dec ((xs.take 8).drop (j+1)):=⟨_,rfl⟩
   rw [← hX] at c0 x0 x1 hd
   rw [← hD] at hd hlt ⊢
   rw [show (((j+1:Nat):Int) - 1)=(j:Int) by omega];have hw:IntKind.i64.wrap ((j:Int) - 1)=(j:Int) - 1:=IntWalk.i64_in _ (by omega);have e1:IntKind.u64.wrap X=X:=IntWalk.u64_in _ (by omega);have e2:IntKind.u64.wrap ((D:Int)*256+X)=(D:Int)*256+X:=IntWalk.u64_in _ (by omega);go_wp2_with fail;refine ⟨⟨j,by omega,rfl,?_⟩,by simp [intOf]⟩;have hX2:xs[j]?.getD 0=X:=hX.symm;rw [hX2,← hD,e1,e2]
   congr 1
   have hd2:Wd.dec ((xs.take 8).drop j)=X.toNat+256*D:=hd;rw [hd2]
   omega
theorem run_cutP (q:Nat) (w:World):(Instr.sliceAt PTS (.pointer (some ⟨q,0,none⟩)) none none none).run Tryz.prog w=.ok (.slice (some ⟨q,0,none⟩) 248 248) w:=by
 have hl:Tryz.prog.arrayLen PTS=248:=by kernel_rfl
 have he:Tryz.prog.elem PTS=5:=by kernel_rfl
 have hu:Tryz.prog.underlying PTS=some (.array (Tryz.prog.arrayLen PTS) (Tryz.prog.elem PTS)):=by rw [hl,he];exact Punder_sec
 rw [run_sliceAt_array_all w PTS ⟨q,0,none⟩ hu,he,Psize_u8]
 simp [slicedAt,Result.andThen,hl,Addr.add]
theorem run_cut8 (q:Nat) (w:World):(Instr.sliceAt TS (.pointer (some ⟨q,0,none⟩)) (some (.int .i64 8)) none none).run Tryz.prog w=.ok (.slice (some ⟨q,8,none⟩) 248 248) w:=by
 have hl:Tryz.prog.arrayLen TS=256:=by kernel_rfl
 have he:Tryz.prog.elem TS=5:=by kernel_rfl
 have hu:Tryz.prog.underlying TS=some (.array (Tryz.prog.arrayLen TS) (Tryz.prog.elem TS)):=by rw [hl,he];exact under_sec
 rw [run_sliceAt_array_l w TS ⟨q,0,none⟩ hu .i64 8 (by omega) (by rw [hl];omega),he,Psize_u8]
 simp [slicedAt,Result.andThen,hl,Addr.add]
theorem Play_all {xs ys:List Int} (h:xs.length=ys.length):Play xs 0 ys=ys:=by
 unfold Play
 rw [List.take_zero,List.drop_of_length_le (by omega)]
 simp
set_option maxRecDepth 100000 in
set_option maxHeartbeats 1000000 in
theorem Payload_any {xs:List Int} (hx:IsSec xs) (w:World):Calls Tryz.prog 32 #[.agg (sec (Sx xs))] w fun e w'=>e=.returned (.agg (Psec (PSx (xs.drop 8))))∧Gr w w':=by
 obtain ⟨W1,hW1⟩:∃ W1,W1=w.alloc (.cells (sec (Sx xs)) TS):=⟨_,rfl⟩;obtain ⟨W2,hW2⟩:∃ W2,W2=W1.alloc (.cells (Psec PSec.zero) PTS):=⟨_,rfl⟩;obtain ⟨W3,hW3⟩:∃ W3,W3=W2.alloc (.cells (Psec PSec.zero) PTS):=⟨_,rfl⟩
 have s1:W1.heap.size=w.heap.size+1:=by rw [hW1,World.size_alloc]
 have s2:W2.heap.size=w.heap.size+1+1:=by rw [hW2,World.size_alloc,s1]
 have g1:Gr w W1:=by rw [hW1];exact Gr.new _ _
 have g2:Gr W1 W2:=by rw [hW2];exact Gr.new _ _
 have g3:Gr W2 W3:=by rw [hW3];exact Gr.new _ _
 have hb1:Blk W3 w.heap.size TS (sec (Sx xs)):=by
  have h:Blk W1 w.heap.size TS (sec (Sx xs)):=by rw [hW1];exact Blk.new _ _ _
  exact (h.gr g2).gr g3
 have hb2:Blk W3 (w.heap.size+1) PTS (Psec (PSx (List.replicate 248 0))):=by
  have h:Blk W2 W1.heap.size PTS (Psec PSec.zero):=by rw [hW2];exact Blk.new _ _ _
  rw [PSx_zero,← s1];exact h.gr g3
 have hb3:Blk W3 (w.heap.size+1+1) PTS (Psec (PSx (List.replicate 248 0))):=by
  have h:Blk W3 W2.heap.size PTS (Psec PSec.zero):=by rw [hW3];exact Blk.new _ _ _
  rw [PSx_zero,← s2];exact h
 have hy:Byt W3 (some ⟨w.heap.size,8,none⟩) 248 248 (xs.drop 8):=(Blk.byt hb1 hx).tail 8 (by omega) (some ⟨w.heap.size,8,none⟩) (fun _=>by simp);have HW:Hid (w.alloc (.cells (sec (Sx xs)) TS)=W1∧W1.alloc (.cells (Psec PSec.zero) PTS)=W2∧W2.alloc (.cells (Psec PSec.zero) PTS)=W3):=Lib.hid ⟨hW1.symm,hW2.symm,hW3.symm⟩;have HB:=Lib.hid (And.intro hb2 (And.intro (hb3.gr (Gr.refl W3).drew) (And.intro (hy.kept (Gr.refl W3).drew) (Gr.trans g1 (Gr.trans g2 g3)))));have hsec:PIsSec (List.replicate 248 (0:Int)):=⟨List.length_replicate,fun x hx=>by rw [List.eq_of_mem_replicate hx];omega⟩;have HP:Hid (PIsSec (List.replicate 248 (0:Int))∧Play (List.replicate 248 (0:Int)) 0 (xs.drop 8)=xs.drop 8):=Lib.hid ⟨hsec,Play_all (by rw [List.length_replicate,List.length_drop,hx.len])⟩;have k1:=run_cutP (w.heap.size+1+1);have k2:=run_cut8 w.heap.size;have hz:=Pzero_sec;clear hW1 hW2 hW3 s1 s2 g1 g2 g3 hb1 hb2 hb3 hy hsec;obtain ⟨zs,hzs⟩:∃ zs,zs=List.replicate 248 (0:Int):=⟨_,rfl⟩;obtain ⟨ys,hys⟩:∃ ys,ys=xs.drop 8:=⟨_,rfl⟩
 rw [← hzs,← hys] at HB HP
 rw [← hys];clear hzs hys
 go_enter Tryz.func32,Tryz.ntmps32
 go_wp2_with fail;rw [HW.out.1,HW.out.2.1,HW.out.2.2]
 go_region_law (refine Pstep_copy_sec rfl (.tmp 4) (.tmp 5) rfl rfl HB.out.2.1 HP.out.1 rfl HB.out.2.2.1 (by omega) (by omega) (by omega) ?_)
 rw [HP.out.2];obtain ⟨W4,hW4⟩:∃ W4,W4=W3.drew.setRow (w.heap.size+1+1) (Psec (PSx ys)):=⟨_,rfl⟩;rw [← hW4]
 have HX:Hid (Blk W4 (w.heap.size+1+1) PTS (Psec (PSx ys))∧Blk W4 (w.heap.size+1) PTS (Psec (PSx zs))∧Gr w W4):=Lib.hid (by
  rw [hW4]
  exact ⟨HB.out.2.1.row _,(HB.out.1.gr (Gr.refl W3).drew).stays (setRow_other _ _ _ _ (by omega)),below_setRow (HB.out.2.2.2.drew) (by omega) _⟩)
 clear hW4 k1 k2
 go_wp2_with (first | (refine PwpList_load_x rfl (.tmp 3) rfl HX.out.1 rfl ?_) | (refine PwpList_store_x rfl (.tmp 2) (.tmp 7) rfl HX.out.2.1 rfl rfl ?_))
 exact bodyPost_ret (Presults_x rfl _ _ _ _ rfl (HX.out.2.1.row _)) rfl ⟨rfl,below_setRow HX.out.2.2 (by omega) _⟩
end Go.Proofs.YtdmhemgepdknhaaGreat
namespace Go.Proofs.YtdmhemgepdknhaaGreat
open Go.RowKit Go.Maps
section
variable {w w':World} {b:Nat} {sv av:Value} {P:Pl} {ss:List Sec} {la:Nat} {L:List (Nat × PFr)}
theorem zeroD_row:Sec.zero=Sx (List.replicate 256 0):=by
 have h2:secN Sec.zero=List.replicate 256 0:=by
  unfold secN Sec.zero
  rw [List.map_replicate]
  rfl
 rw [← h2,Sx_secN]
theorem Onc.cells (c:Nat) (w:World) (o:Nat) (vs:List Value):Onc c w (w.setCells c o vs):=
 have h:=setCells_rest c vs o w
 ⟨h.1,h.2.1,h.2.2,setCells_size c vs o w,fun k hk=>setCells_other hk vs o w⟩
theorem run_cutQ (q A:Nat) (w:World):(Instr.sliceAt PTS (.pointer (some ⟨q,A,none⟩)) none none none).run Tryz.prog w=.ok (.slice (some ⟨q,A,none⟩) 248 248) w:=by
 have hl:Tryz.prog.arrayLen PTS=248:=by kernel_rfl
 have he:Tryz.prog.elem PTS=5:=by kernel_rfl
 have hu:Tryz.prog.underlying PTS=some (.array (Tryz.prog.arrayLen PTS) (Tryz.prog.elem PTS)):=by rw [hl,he];exact Punder_sec
 rw [run_sliceAt_array_all w PTS ⟨q,A,none⟩ hu,he,Psize_u8]
 simp [slicedAt,Result.andThen,hl,Addr.add]
theorem FRk.byt {w:World} {g cap:Nat} {L:List (Nat × PFr)} (h:FRk w g cap L) {i p:Nat} {f:PFr} (hx:L[i]?=some (p,f)) (hf:PIsSec f.pay):Byt w (some ⟨g,i*253+1,none⟩) 248 248 f.pay:=
 ⟨hf.len,Nat.le_refl _,by simp only [maxLen];omega,fun _=>⟨g,i*253+1,rfl,fun j hj=>by
  have h1:=h.pay hx j (.int .u8 (f.pay.getD j 0)) (by
   show (PSx f.pay).cells[j]?=_
   rw [PSx_cells hf,List.getElem?_map]
   simp [List.getD,hf.len,hj])
  exact h1⟩,(fun h=>by cases h),hf.small⟩
def enK (n k:Nat):List Int:=(Wd.enc 8 n).take k++List.replicate (256 - k) 0
theorem enK_sec (n k:Nat) (hk:k≤8):IsSec (enK n k):=by
 have hl:(Wd.enc 8 n).length=8:=Wd.enc_length _ _;refine ⟨by unfold enK;rw [List.length_append,List.length_take,List.length_replicate,hl];omega,?_⟩
 exact ((Wd.enc_small 8 n).take k).app fun x hx=>by rw [List.eq_of_mem_replicate hx];omega
theorem enK_zero (n:Nat):Sx (enK n 0)=Sec.zero:=by
 rw [zeroD_row]
 rfl
theorem enc_at:∀ (m n k:Nat),k < m→(Wd.enc m n)[k]?=some ((n / 256 ^ k % 256:Nat):Int)
 | 0,_,_,h=>by omega
 | m+1,n,0,_=>by
  show (((n % 256:Nat):Int) :: Wd.enc m (n / 256))[0]?=_
  simp
 | m+1,n,k+1,h=>by
  show (((n % 256:Nat):Int) :: Wd.enc m (n / 256))[k+1]?=_
  rw [List.getElem?_cons_succ,enc_at m (n / 256) k (by omega),Nat.div_div_eq_div_mul,Nat.pow_succ,Nat.mul_comm]
theorem enK_at (n j:Nat) {m:Nat} (hm:m≤8):(enK n m)[j]?=if j < m then some ((n / 256 ^ j % 256:Nat):Int) else if j < 256 then some 0 else none:=by
 have hl:(Wd.enc 8 n).length=8:=Wd.enc_length _ _
 unfold enK
 by_cases h:j < m
 · rw [if_pos h,List.getElem?_append_left (by rw [List.length_take];omega),List.getElem?_take,if_pos h,enc_at 8 n j (by omega)]
 ·
  rw [if_neg h,List.getElem?_append_right (by rw [List.length_take];omega),List.length_take,hl,List.getElem?_replicate]
  by_cases h2:j < 256
  · rw [if_pos h2,if_pos (by omega)]
  · rw [if_neg h2,if_neg (by omega)]
theorem enK_set (n k:Nat) (hk:k < 8):(sec (Sx (enK n k))).setIfInBounds k (.int .u8 ((n / 256 ^ k % 256:Nat):Int))=sec (Sx (enK n (k+1))):=by
 have hl:(Wd.enc 8 n).length=8:=Wd.enc_length _ _
 unfold sec
 rw [Sx_cells (enK_sec n k (by omega)),Sx_cells (enK_sec n (k+1) (by omega)),List.setIfInBounds_toArray]
 congr 1
 refine List.ext_getElem? fun j=>?_
 rw [List.getElem?_set,List.length_map,(enK_sec n k (by omega)).len]
 have hj:∀ m,m≤8→(enK n m)[j]?=if j < m then some ((n / 256 ^ j % 256:Nat):Int) else if j < 256 then some 0 else none:=fun m hm=>enK_at n j hm
 by_cases e:k=j
 ·
  subst e;rw [if_pos rfl,if_pos (by omega),List.getElem?_map,hj (k+1) (by omega),if_pos (by omega)]
  rfl
 ·
  rw [if_neg e,List.getElem?_map,List.getElem?_map,hj k (by omega),hj (k+1) (by omega)]
  by_cases h:j < k
  · rw [if_pos h,if_pos (by omega)]
  · rw [if_neg h,if_neg (show ¬ j < k+1 by omega)]
set_option maxRecDepth 100000 in
set_option maxHeartbeats 1000000 in
theorem dout_yes {g cap i p:Nat} {f:PFr} (h:DpAt w b sv (.slice (some ⟨g,0,none⟩) L.length cap) P ss la L) (hx:L[i]?=some (p,f)) (hf:f.In) (hp:p < ss.length) (hd:f.dirty=true) :
  Calls Tryz.prog 47 #[.pointer (some ⟨b,0,none⟩),.pointer (some ⟨g,i*253,none⟩)] w fun e w'=>e=.returned (.tuple #[])∧DpAt w' b sv (.slice (some ⟨g,0,none⟩) L.length cap) (P.put p { f with dirty:=false }) (ss.set p (Sx f.sec)) la (L.set i (p,{ f with dirty:=false }))∧Upd (dpS b sv (.slice (some ⟨g,0,none⟩) L.length cap)) (dpS b sv (.slice (some ⟨g,0,none⟩) L.length cap)) w w':=by
 have hk:FRk w g cap L:=by
  rcases h.all.look with ⟨h1,_⟩ | ⟨g',c',h1,h2⟩
  · cases h1
  · cases h1;exact h2
 obtain ⟨sg,sc,rfl,hsg,-,-⟩:=h.row.full (fun e=>by rw [e] at hp;simp at hp);obtain ⟨M,hM⟩:∃ M,M=ss.length:=⟨_,rfl⟩;obtain ⟨N,hN⟩:∃ N,N=L.length:=⟨_,rfl⟩
 rw [← hM,← hN] at h
 rw [← hM,← hN];have HMN:=Lib.hid (And.intro hM hN)
 have hpM:(p:Int) < (M:Int):=by omega
 have hp0:(0:Int)≤(p:Int):=by omega
 have hap:=h.apA g rfl;have hap1:=h.apS sg rfl
 have hap2:sg≠g:=fun e=>hap.2 (by rw [e];rfl)
 have HAp:Hid (g≠b∧sg≠b∧sg≠g∧b < w.heap.size∧sg < w.heap.size∧g < w.heap.size):=Lib.hid ⟨hap.1,hap1,hap2,h.blk.lt,hsg,hk.lt⟩;obtain ⟨z0,-⟩:=h.cells;clear hap hap1 hap2 hM hN hsg;obtain ⟨c0,c1,c2,c3,c4⟩:=hk.cells hx
 rw [hd] at c3
 obtain ⟨q,hq⟩:∃ q,q=i*253:=⟨_,rfl⟩
 rw [← hq] at c0 c1 c2 c3 c4 ⊢
 obtain ⟨n,hn⟩:∃ n,n=f.lsn:=⟨_,rfl⟩
 rw [← hn] at c1
 have hn0:n < 18446744073709551616:=by have:=hf.l;omega
 have hz:=zero_sec;have HK:=Lib.hid hk;have HH:=Lib.hid h;have HQ:=Lib.hid hq;have HNn:=Lib.hid hn;have HX:=Lib.hid hx;have HF:=Lib.hid hf;have HP:=Lib.hid hp;have HD:=Lib.hid hd;clear h hk hq hn hx hf hp hd
 go_enter Tryz.func47,Tryz.ntmps47
 go_wp2_with fail;obtain ⟨W1,hW1⟩:∃ W1,W1=w.alloc (.cells (sec Sec.zero) TS):=⟨_,rfl⟩
 have HI:Hid (Blk W1 w.heap.size TS (sec (Sx (enK n 0)))∧Gr w W1∧W1.heap.size=w.heap.size+1):=Lib.hid (by
  rw [hW1,enK_zero]
  exact ⟨Blk.new _ _ _,Gr.new _ _,World.size_alloc _ _⟩)
 have HC2:Hid (∀ V,Gr w V→V.cell? ⟨b,0,none⟩=some (.slice (some ⟨sg,0,none⟩) M sc)∧V.cell? ⟨g,q,none⟩=some (.int .i64 (p:Int))):=Lib.hid fun V gv=>⟨by rw [gv.cell (blk_lt z0)];exact z0,by rw [gv.cell (blk_lt c0)];exact c0⟩
 have HC:Hid (∀ V,Gr w V→V.cell? ⟨g,q+249,none⟩=some (.int .u64 (n:Int))):=Lib.hid fun V gv=>by rw [gv.cell (blk_lt c1)];exact c1
 rw [← hW1];clear hW1 c0 c1 c2 c3 c4 z0
 go_loopw [5] (fun iv wr=>∃ k:Nat,k≤8∧iv=.int .i64 (k:Int)∧Hid (Blk wr w.heap.size TS (sec (Sx (enK n k)))∧Gr w wr∧wr.heap.size=w.heap.size+1)) (fun iv _=>8 - (intOf iv).toNat)
 case atStart=>exact ⟨0,Nat.zero_le _,rfl,HI⟩
 case round=>
  obtain ⟨k,hk,rfl,HJ⟩:=hrel
  by_cases hlt:k < 8
  ·
   have g3:(k:Int) < 8:=by omega
   have hw:IntKind.i64.wrap ((k:Int)+1)=((k+1:Nat):Int):=by rw [IntWalk.i64_in _ (by omega)];omega
   have c1:=HC.out wr HJ.out.2.1;have hs:=enK_set n k hlt;have hb:=HJ.out.1.set k (.int .u8 ((n / 256 ^ k % 256:Nat):Int))
   rw [hs] at hb
   have HB:Hid (∀ v:Int,v=((n / 256 ^ k % 256:Nat):Int)→Hid (Blk (wr.setCell ⟨w.heap.size,k,none⟩ (.int .u8 v)) w.heap.size TS (sec (Sx (enK n (k+1))))∧Gr w (wr.setCell ⟨w.heap.size,k,none⟩ (.int .u8 v))∧(wr.setCell ⟨w.heap.size,k,none⟩ (.int .u8 v)).heap.size=w.heap.size+1)):=Lib.hid fun v hv=>Lib.hid (by
    rw [hv];refine ⟨hb,?_,?_⟩
    · exact Below.setCell HJ.out.2.1 (Nat.le_refl _) _
    · rw [World.size_setCell];exact HJ.out.2.2)
   have e1:(sec (Sx (enK n k)))[k]?=some (.int .u8 0):=by
    unfold sec
    rw [Sx_cells (enK_sec n k (by omega)),List.getElem?_toArray,List.getElem?_map,enK_at n k (by omega),if_neg (by omega),if_pos (by omega)]
    rfl
   have c2:wr.cell? ⟨w.heap.size,k,none⟩=some (.int .u8 0):=by rw [HJ.out.1.cell];exact e1
   have f2:=HJ.out.1.frozen k;clear hs hb e1
   rcases (show k=0∨k=1∨k=2∨k=3∨k=4∨k=5∨k=6∨k=7 by omega) with rfl | rfl | rfl | rfl | rfl | rfl | rfl | rfl
   · go_wp2_with fail;exact ⟨⟨1,by omega,rfl,HB.out _ (by omega)⟩,by simp [intOf]⟩
   · go_wp2_with fail;exact ⟨⟨2,by omega,rfl,HB.out _ (by omega)⟩,by simp [intOf]⟩
   · go_wp2_with fail;exact ⟨⟨3,by omega,rfl,HB.out _ (by omega)⟩,by simp [intOf]⟩
   · go_wp2_with fail;exact ⟨⟨4,by omega,rfl,HB.out _ (by omega)⟩,by simp [intOf]⟩
   · go_wp2_with fail;exact ⟨⟨5,by omega,rfl,HB.out _ (by omega)⟩,by simp [intOf]⟩
   · go_wp2_with fail;exact ⟨⟨6,by omega,rfl,HB.out _ (by omega)⟩,by simp [intOf]⟩
   · go_wp2_with fail;exact ⟨⟨7,by omega,rfl,HB.out _ (by omega)⟩,by simp [intOf]⟩
   · go_wp2_with fail;exact ⟨⟨8,by omega,rfl,HB.out _ (by omega)⟩,by simp [intOf]⟩
  ·
   obtain rfl:k=8:=by omega
   obtain ⟨pay,hpay⟩:∃ pay,pay=f.pay:=⟨_,rfl⟩
   have HY:Hid (Byt wr.drew (some ⟨g,q+1,none⟩) 248 248 pay):=Lib.hid (by
    rw [hpay,HQ.out]
    exact FRk.byt (HK.out.on (HJ.out.2.1.drew.block g HAp.out.2.2.2.2.2)) HX.out HF.out.pay)
   have HB8:Hid (Blk wr.drew w.heap.size TS (sec (Sx (enK n 8)))∧Gr w wr.drew∧wr.drew.heap.size=w.heap.size+1):=Lib.hid ⟨HJ.out.1.gr (Gr.refl wr).drew,HJ.out.2.1.drew,HJ.out.2.2⟩;have HE:=Lib.hid (enK_sec n 8 (Nat.le_refl _))
   have HLay:Hid (lay (enK n 8) 8 pay=f.sec):=Lib.hid (by
    have hl:(Wd.enc 8 n).length=8:=Wd.enc_length _ _
    have e1:(enK n 8).take 8=Wd.enc 8 n:=by
     unfold enK
     rw [List.take_append_of_le_length (by rw [List.length_take];omega),List.take_take];exact List.take_of_length_le (by omega)
    unfold lay
    rw [e1,List.drop_of_length_le (by rw [HE.out.len,hpay,HF.out.pay.len];omega),List.append_nil,hpay,HNn.out]
    rfl)
   have k1:=run_cut8 w.heap.size;have k2:=run_cutQ g (q+1);clear hpay hk hlt;go_wp2_with fail
   go_still_tail 5,(by kernel_rfl)
   change wpList _ _ _ _ _ wr.drew
   generalize wr.drew=wd at HY HB8 ⊢
   clear k1 k2 HJ;obtain ⟨W5,hW5⟩:∃ W5,W5=wd.setRow w.heap.size (sec (Sx f.sec)):=⟨_,rfl⟩
   have HB5:Hid (Blk W5 w.heap.size TS (sec (Sx f.sec))∧Gr w W5):=Lib.hid (by
    rw [hW5]
    exact ⟨HB8.out.1.row _,below_setRow HB8.out.2.1 (Nat.le_refl _) _⟩)
   have HW5:=Lib.hid hW5.symm;clear hW5
   go_wp2_with (refine wpList_copy_sec rfl (.tmp 26) (.tmp 30) rfl rfl HB8.out.1 HE.out rfl HY.out (by omega) (by omega) (by omega) ?_;rw [HLay.out,HW5.out])
   have HRow:Hid (∀ V,Gr w V→Row V (.slice (some ⟨sg,0,none⟩) M sc) ss):=Lib.hid fun V gv=>HH.out.row.gr gv
   have HS:Hid (∀ V,Gr w V→V.heap[w.heap.size]?=W5.heap[w.heap.size]?→V.cell? ⟨b,0,none⟩=some (.slice (some ⟨sg,0,none⟩) M sc)∧V.cell? ⟨g,q,none⟩=some (.int .i64 (p:Int))∧V.rangeAt w.heap.size 0 (Sx f.sec).cells∧V.there sg (p*256) 256):=Lib.hid fun V gv e=>
    ⟨(HC2.out V gv).1,(HC2.out V gv).2,(HB5.out.1.stays e).one,(HRow.out V gv).there p (by have:=HP.out;exact this)⟩
   have hS0:=HS.out W5.drew HB5.out.2.drew rfl
   have hS3:(W5.drew.setCells sg (p*256) (Sx f.sec).cells).cell? ⟨b,0,none⟩=some (.slice (some ⟨sg,0,none⟩) M sc)∧(W5.drew.setCells sg (p*256) (Sx f.sec).cells).cell? ⟨g,q,none⟩=some (.int .i64 (p:Int))∧(W5.drew.setCells sg (p*256) (Sx f.sec).cells).rangeAt w.heap.size 0 (Sx f.sec).cells∧(W5.drew.setCells sg (p*256) (Sx f.sec).cells).there sg (p*256) 256:=by
    have ho:=Onc.cells sg W5.drew (p*256) (Sx f.sec).cells
    have h1:∀ k o,k≠sg→(W5.drew.setCells sg (p*256) (Sx f.sec).cells).cell? ⟨k,o,none⟩=W5.drew.cell? ⟨k,o,none⟩:=fun k o hk=>World.cell?_of_block (ho.block k hk)
    have hx:=HAp.out;refine ⟨(h1 b 0 (fun e=>hx.2.1 e.symm)).trans hS0.1,(h1 g q (fun e=>hx.2.2.1 e.symm)).trans hS0.2.1,fun j v hv=>(h1 _ _ (by omega)).trans (hS0.2.2.1 j v hv),World.there_setCells hS0.2.2.2 _ _ _⟩
   have hus:=under_sec
   have hsz:(Tryz.prog.info? TS).map (·.size)=some (Sx f.sec).cells.length:=by rw [Sec.cells_len];exact size_sec
   have hcl:=(Sx f.sec).cells_len;have hco:=(Sx f.sec).one
   go_region_held3 (fun V=>V.cell? ⟨b,0,none⟩=some (.slice (some ⟨sg,0,none⟩) M sc)∧V.cell? ⟨g,q,none⟩=some (.int .i64 (p:Int))∧V.rangeAt w.heap.size 0 (Sx f.sec).cells∧V.there sg (p*256) 256) (first | exact hS0 | exact hS3) (fail)
   all_goals
    have HRw6:=Lib.hid ((HRow.out W5.drew HB5.out.2.drew).put p HP.out (Sx f.sec));have hO6:=Onc.cells sg W5.drew (p*256) (Sx f.sec).cells;have HG5:=Lib.hid HB5.out.2.drew
    generalize W5.drew.setCells sg (p*256) (Sx f.sec).cells=W6 at hS3 HRw6 hO6 ⊢
    generalize W5.drew=W5d at hO6 HG5
    have HO6:=Lib.hid hO6;have HK6:=Lib.hid (HK.out.on ((hO6.block g (fun e=>HAp.out.2.2.1 e.symm)).trans (HG5.out.block g HAp.out.2.2.2.2.2)));have c9:=(HK6.out.cells HX.out).2.2.2.1;have f9:=HK6.out.frozen (i*253+251)
    rw [HD.out] at c9
    rw [← HQ.out] at c9 f9
    clear hO6 hS3 hS0 hus hsz hcl hco;go_wp2_with fail;have hset:=HK6.out.set (y:=(p,{ f with dirty:=false })) HX.out (c:=251) (by omega) (fdC_dirty p f false)
    rw [← HQ.out] at hset
    have hO7:=Onc.cell g W6 (q+251) (.bool false);obtain ⟨x1,x2,x3,x4,x5,x6⟩:=HAp.out
    have hbk:∀ k,k≠sg→k≠g→k < w.heap.size→(W6.setCell ⟨g,q+251,none⟩ (.bool false)).heap[k]?=w.heap[k]?:=fun k h1 h2 h3=>(hO7.block k h2).trans ((HO6.out.block k h1).trans (HG5.out.block k h3))
    have hsize:w.heap.size≤(W6.setCell ⟨g,q+251,none⟩ (.bool false)).heap.size:=by rw [hO7.size,HO6.out.size];exact HG5.out.size
    refine bodyPost_end (results_none rfl _ _ _) rfl ⟨rfl,⟨HH.out.blk.stays (hbk b (fun e=>x2 e.symm) (fun e=>x1 e.symm) x4),HRw6.out.stays (fun k hk=>hO7.block k fun e=>?_),?_,HH.out.rl.set HX.out _,HH.out.apS,HH.out.apA,by rw [List.length_set];exact HH.out.len⟩,⟨hO7.os.trans (HO6.out.os.trans HG5.out.os),hO7.tape.trans (HO6.out.tape.trans HG5.out.tape),hO7.output.trans (HO6.out.output.trans HG5.out.output),hsize,fun k hk hn=>hbk k (fun e=>hn (.inr (.inl (by rw [e];rfl)))) (fun e=>hn (.inr (.inr (by rw [e];rfl)))) hk,fun k hk=>.inl hk⟩⟩
    ·
     cases hk
     exact x3 e
    ·
     have h9:=hset.fr
     rw [List.length_set,← HMN.out.2] at h9
     exact h9
end
end Go.Proofs.YtdmhemgepdknhaaGreat
namespace Go.Proofs.YtdmhemgepdknhaaGreat
open Go.RowKit Go.Maps
theorem Pl.put_same {P:Pl} {p:Nat} {f:PFr} (h:P.fr p=some f):P.put p f=P:=
 Pl.same rfl rfl rfl (funext fun j=>by
  show (if j=p then some f else P.fr j)=P.fr j
  by_cases e:j=p
  · rw [if_pos e,e,h]
  · rw [if_neg e])
theorem set_same {α:Type} {L:List α} {i:Nat} {x:α} (h:L[i]?=some x):L.set i x=L:=List.ext_getElem? fun k=>by
 rw [List.getElem?_set]
 by_cases e:i=k
 · subst e;rw [if_pos rfl,if_pos (List.getElem?_eq_some_iff.1 h).1,h]
 · rw [if_neg e]
section
variable {w w':World} {b:Nat} {sv av:Value} {P:Pl} {ss:List Sec} {la:Nat} {L:List (Nat × PFr)}
theorem DpAt.frk {g n cap:Nat} (h:DpAt w b sv (.slice (some ⟨g,0,none⟩) n cap) P ss la L):n=L.length∧FRk w g cap L:=by
 rcases h.all.look with ⟨h1,_⟩ | ⟨g',c',h1,h2⟩
 · cases h1
 · cases h1;exact ⟨rfl,h2⟩
set_option maxRecDepth 100000 in
set_option maxHeartbeats 1000000 in
theorem dout_any {g cap i p:Nat} {f:PFr} (h:DpAt w b sv (.slice (some ⟨g,0,none⟩) L.length cap) P ss la L) (hx:L[i]?=some (p,f)) (hf:f.In) (hp:p < ss.length) :
  Calls Tryz.prog 47 #[.pointer (some ⟨b,0,none⟩),.pointer (some ⟨g,i*253,none⟩)] w fun e w'=>e=.returned (.tuple #[])∧DpAt w' b sv (.slice (some ⟨g,0,none⟩) L.length cap) (P.put p { f with dirty:=false }) (ssO P ss p) la (L.set i (p,{ f with dirty:=false }))∧Upd (dpS b sv (.slice (some ⟨g,0,none⟩) L.length cap)) (dpS b sv (.slice (some ⟨g,0,none⟩) L.length cap)) w w':=by
 have hfr:P.fr p=some f:=h.rl.at hx
 cases hd:f.dirty with
 | true=>
  have e:ssO P ss p=ss.set p (Sx f.sec):=by unfold ssO;rw [hfr];dsimp only;rw [hd];rfl
  rw [e];exact dout_yes h hx hf hp hd
 | false=>
  have e:ssO P ss p=ss:=by unfold ssO;rw [hfr];dsimp only;rw [hd];rfl
  have e2:({ f with dirty:=false }:PFr)=f:=by cases f;simp at hd;simp [hd]
  rw [e,e2,Pl.put_same hfr,set_same hx];have c3:=(h.frk.2.cells hx).2.2.2.1
  rw [hd] at c3
  obtain ⟨q,hq⟩:∃ q,q=i*253:=⟨_,rfl⟩
  rw [← hq] at c3 ⊢
  have HH:=Lib.hid h;clear h hq hx hf hp hd hfr e e2
  go_enter Tryz.func47,Tryz.ntmps47
  go_wp2_with fail;exact bodyPost_ret (results_none rfl _ _ _) rfl ⟨rfl,HH.out,Upd.same _⟩
end
theorem first_lt {u:Nat→Bool} {R:List Nat} {t:Nat} (ht:t < R.length) (h:∀ s,s < t→u (R.getD s 0)=true) (hn:u (R.getD t 0)=false):goingL u R 1=[R.getD t 0]∧sparedL u R 1=R.take t:=by
 have hs:R=R.take t++R.getD t 0 :: R.drop (t+1):=by
  have h1:=List.drop_eq_getElem_cons ht
  have h2:R.getD t 0=R[t]:=by simp [List.getD,ht]
  rw [h2,← h1,List.take_append_drop]
 have hX:∀ i,i ∈ R.take t→u i=true:=fun i hi=>by
  obtain ⟨s,hs2⟩:=List.mem_iff_getElem?.1 hi
  rw [List.getElem?_take] at hs2
  split at hs2
  ·
   rename_i h3
   have h4:=h s h3
   rw [List.getD_eq_getElem?_getD,hs2] at h4
   exact h4
  · cases hs2
 refine ⟨?_,?_⟩
 ·
  have h9:goingL u (R.take t++R.getD t 0 :: R.drop (t+1)) 1=[R.getD t 0]:=by
   have f1:(R.take t).filter (fun i => !u i)=[]:=List.filter_eq_nil_iff.2 fun i hi=>by simp [hX i hi]
   clear hs
   generalize R.take t=A at f1 ⊢
   generalize R.drop (t+1)=B
   generalize R.getD t 0=z at hn ⊢
   unfold goingL
   simp [List.filter_append,List.filter_cons,f1,hn]
  rw [← hs] at h9
  exact h9
 ·
  have h5:=spared_pre (Y:=R.drop (t+1)) (n:=0) hX hn
  rw [← hs] at h5
  rw [h5]
  cases R.drop (t+1) <;> simp [sparedL]
theorem first_all {u:Nat→Bool} {R:List Nat} (hR:R≠[]) (h:∀ s,s < R.length→u (R.getD s 0)=true):goingL u R 1=[R.getD 0 0]∧sparedL u R 1=R:=by
 have hX:∀ i,i ∈ R→u i=true:=fun i hi=>by
  obtain ⟨s,hs2⟩:=List.mem_iff_getElem?.1 hi;have h4:=h s (List.getElem?_eq_some_iff.1 hs2).1
  rw [List.getD_eq_getElem?_getD,hs2] at h4
  exact h4
 refine ⟨?_,spared_all (by omega) hX⟩
 unfold goingL
 have f1:R.filter (fun i => !u i)=[]:=List.filter_eq_nil_iff.2 fun i hi=>by simp [hX i hi]
 have f2:R.filter u=R:=List.filter_eq_self.2 hX;rw [f1,f2]
 cases R with
 | nil=>exact absurd rfl hR
 | cons a r=>rfl
theorem behind_is {P:Pl} {k:Nat} (hk:k≤P.pages.length) (h1:∀ j,j < k→((P.pages.getD j 0:Nat):Int)≤P.hand) (h2:k < P.pages.length→P.hand < ((P.pages.getD k 0:Nat):Int)):P.behind=k:=by
 have hs:=P.pages_rise
 unfold Pl.behind
 generalize P.pages=xs at *
 rw [← List.take_append_drop k xs,List.map_append,List.countP_append,List.countP_eq_length.2,List.countP_eq_zero.2,List.length_map,List.length_take]
 · omega
 ·
  intro x hx
  obtain ⟨y,hy,rfl⟩:=List.mem_map.1 hx;obtain ⟨q,hq⟩:=List.mem_iff_getElem?.1 hy
  rw [List.getElem?_drop] at hq
  obtain ⟨hlt,hqe⟩:=List.getElem?_eq_some_iff.1 hq;have h3:=h2 (by omega)
  have h4:xs.getD k 0≤y:=by
   rw [← hqe]
   have h5:xs.getD k 0=xs[k]'(by omega):=by simp [List.getD,show k < xs.length by omega]
   rw [h5]
   by_cases e:q=0
   · subst e;exact Nat.le_refl _
   · exact Nat.le_of_lt (List.pairwise_iff_getElem.1 hs k (k+q) (by omega) hlt (by omega))
  simp
  omega
 ·
  intro x hx
  obtain ⟨y,hy,rfl⟩:=List.mem_map.1 hx;obtain ⟨q,hq⟩:=List.mem_iff_getElem?.1 hy
  rw [List.getElem?_take] at hq
  split at hq
  ·
   rename_i hqk
   have h3:=h1 q hqk
   rw [List.getD_eq_getElem?_getD,hq] at h3
   simp at h3
   simp
   omega
  · cases hq
end Go.Proofs.YtdmhemgepdknhaaGreat
