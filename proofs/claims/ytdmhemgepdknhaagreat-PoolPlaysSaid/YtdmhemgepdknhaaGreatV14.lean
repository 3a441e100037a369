/-
  Texts, put together: Wal3 Pool5 Pool6.
-/
import Derived.Test.YtdmhemgepdknhaaGreatV1
import Derived.Test.YtdmhemgepdknhaaGreatV6
import Derived.Test.YtdmhemgepdknhaaGreatV13
set_option linter.unusedVariables false
set_option linter.unusedSimpArgs false
namespace Go.Proofs.YtdmhemgepdknhaaGreat
open Go.RowKit Go.Maps Cr
def headL (k ep n:Nat):List Int:=Wd.enc 8 k++Wd.enc 8 ep++Wd.enc 4 n
def secL (k ep:Nat) (b:List Int):List Int:=headL k ep b.length++Wd.enc 4 (sumW (headL k ep b.length++padTo 232 b)).toNat++padTo 232 b
theorem headL_len (k ep n:Nat):(headL k ep n).length=20:=by simp [headL,Wd.enc_length]
theorem headL_small (k ep n:Nat):Wd.Small (headL k ep n):=((Wd.enc_small _ _).app (Wd.enc_small _ _)).app (Wd.enc_small _ _)
theorem secL_len {k ep:Nat} {b:List Int} (h:b.length≤232):(secL k ep b).length=256:=by
 simp only [secL,List.length_append,headL_len,Wd.enc_length,padTo_len h]
theorem secL_sec {k ep:Nat} {b:List Int} (h:b.length≤232) (hs:Wd.Small b):IsSec (secL k ep b):=
 ⟨secL_len h,((headL_small _ _ _).app (Wd.enc_small _ _)).app (padTo_small hs)⟩
theorem lay_zero {ys:List Int} (h:ys.length=256):lay (List.replicate 256 0) 0 ys=ys:=by
 unfold lay
 rw [List.take_zero,List.nil_append,List.drop_eq_nil_of_le (by rw [List.length_replicate];omega),List.append_nil]
def nul2:List Int:=List.replicate 232 0
theorem nul2_len:nul2.length=232:=List.length_replicate ..
abbrev TB2:TypeId:=211
def bya (xs:List Int):Array Value:=(xs.map (Value.int .u8)).toArray
theorem bya_size (xs:List Int):(bya xs).size=xs.length:=by simp [bya]
theorem Blk.bya {w:World} {g:Nat} {t:TypeId} {xs:List Int} {n:Nat} (h:Blk w g t (bya xs)) (hl:xs.length=n) (hm:n≤1000) (hs:Wd.Small xs):Byt w (some ⟨g,0,none⟩) n n xs:=
 ⟨hl,Nat.le_refl _,by simp only [maxLen];omega,fun _=>⟨g,0,rfl,fun i hi=>by
  rw [Nat.zero_add,h.cell i]
  simp [Go.Proofs.YtdmhemgepdknhaaGreat.bya,List.getD,hl,hi]⟩,(fun h=>by cases h),hs⟩
structure Only (g:Nat) (w w':World):Prop where
 os:w'.os=w.os
 tape:w'.tape=w.tape
 output:w'.output=w.output
 size:w'.heap.size=w.heap.size
 block:∀ k,k≠g→w'.heap[k]?=w.heap[k]?
theorem Only.refl (g:Nat) (w:World):Only g w w:=⟨rfl,rfl,rfl,rfl,fun _ _=>rfl⟩
theorem Only.row (g:Nat) (w:World) (cs:Array Value):Only g w (w.setRow g cs):=⟨rfl,rfl,rfl,by simp,fun k hk=>setRow_other w g k cs hk⟩
theorem Only.cell (g i:Nat) (w:World) (u:Value):Only g w (w.setCell ⟨g,i,none⟩ u):=
 have h:=(Below.refl 0 w).setCell (p:=⟨g,i,none⟩) (Nat.zero_le _) u
 ⟨h.os,h.tape,h.output,by simp,fun k hk=>heap_setCell_other w ⟨g,i,none⟩ k u hk⟩
theorem Only.trans {g:Nat} {a b c:World} (h:Only g a b) (k:Only g b c):Only g a c:=⟨k.os.trans h.os,k.tape.trans h.tape,k.output.trans h.output,k.size.trans h.size,fun i hi=>(k.block i hi).trans (h.block i hi)⟩
theorem Only.below {g B:Nat} {w0 w w':World} (h:Only g w w') (hb:Below B w0 w) (hg:B≤g):Below B w0 w':=hb.trans ⟨h.os,h.tape,h.output,Nat.le_of_eq h.size.symm,fun k hk=>h.block k (by omega)⟩
theorem step_copy_body {w:World} {ops:Array Oper} {o:Oper} {a:Act} {K:Act→World→Prop} {Q:Exit→Act→World→Prop} {E:Prop} (hgd:o.guard=none) (d s:Operand)
  (ho:o.op=.call { callee:=.builtin .copy,args:=#[d,s],argTypes:=#[31,31] }) {g:Nat} (hd:a.eval d=.slice (some ⟨g,0,none⟩) 232 232) (hb:Blk w g TB2 (bya nul2))
  {q:Option Addr} {m c:Nat} {ys:List Int} (hs:a.eval s=.slice q m c) (hy:Byt w q m c ys) (hm:m≤232)
  (h:∀ W',Blk W' g TB2 (bya (padTo 232 ys))→Only g w W'→K (a.put o.dst (goInt m)) W'):if Region.wanted o (yielded ops a.tmps)=true then Oper.wp Tryz.prog o a w K Q else E:=by
 rw [if_pos (by simp [Region.wanted,hgd])];have hl:=hy.len
 by_cases h0:m=0
 ·
  subst h0;obtain rfl:ys=[]:=List.eq_nil_of_length_eq_zero hl;have hrun:=run_copy_none (P:=Tryz.prog) w 31 31 o.type 5 (some ⟨g,0,none⟩) q 232 232 0 c bt4.us bt4_size (by simp)
  unfold Oper.wp
  simp only [execOp,ho,resolve,invoke,builtin,hd,hs]
  simp [hd,hs,hrun,Result.andThen]
  exact h w hb (Only.refl _ _)
 ·
  obtain ⟨b,of,rfl,_⟩:=hy.at (by omega)
  have hrun:=run_copy_row (P:=Tryz.prog) w 31 31 o.type 5 g 0 232 232 ⟨b,of,none⟩ m c (bya nul2) TB2 (ys.map (Value.int .u8)) bt4.us bt4_size hb (by rw [List.length_map,hl];exact (Nat.min_eq_left hm).symm) hy.news (by rw [List.length_map,hl,bya_size,nul2_len];omega) (u8s_oneCell _)
  have e:((bya nul2).toList.take 0++ys.map (Value.int .u8)++(bya nul2).toList.drop (0+(ys.map (Value.int .u8)).length)).toArray=bya (padTo 232 ys):=by
   unfold bya padTo nul2
   simp only [List.take_zero,List.nil_append,List.map_append,List.map_replicate,List.length_map,hl,Nat.zero_add,List.drop_replicate]
  rw [e,List.length_map,hl] at hrun
  unfold Oper.wp
  simp only [execOp,ho,resolve,invoke,builtin,hd,hs]
  simp [hd,hs,hrun,Result.andThen]
  exact h _ (hb.row _) (Only.row _ _ _)
def SlSa (d:Nat) (k:Nat) (ep:Nat) (q:Option Addr) (m:Nat) (c:Nat) (slot:Nat) (v:Value) (w:World):Prop:=
 match slot with
 | 11=>v=.pointer (some ⟨d,0,none⟩)
 | 12=>v=.int .u64 (k:Int)
 | 14=>v=.pointer (some ⟨d,1,none⟩)
 | 15=>v=.int .u64 (ep:Int)
 | 17=>v=.pointer (some ⟨d,2,none⟩)
 | 18=>v=.slice q m c
 | 19=>v=.int .i64 m
 | 20=>v=.int .u64 (m:Int)
 | 4=>IsB w v (headL k ep m)
 | 13=>IsB w v (Wd.enc 8 k)
 | 16=>IsB w v (Wd.enc 8 ep)
 | 21=>IsB w v (Wd.enc 4 m)
 | 22=>IsRows w v [Wd.enc 8 k,Wd.enc 8 ep,Wd.enc 4 m]
 | 23=>IsB w v (headL k ep m)
 | _=>True
theorem slSa_gr {d:Nat} {k:Nat} {ep:Nat} {q:Option Addr} {m:Nat} {c:Nat} {s:Nat} {v:Value} {w w':World} (h:SlSa d k ep q m c s v w) (g:Gr w w'):SlSa d k ep q m c s v w':=by
 unfold SlSa at *
 split <;> simp only at h
 all_goals first
  | exact h
  | exact IsB.kept h g
  | exact IsRows.kept h g
def RetSecX (xs:List Int) (w:World) (e:Ending) (w':World):Prop:=e=.returned (.agg (sec (Sx xs)))∧Gr w w'
theorem zero_b2:Tryz.zeroCells211=bya nul2:=by kernel_rfl
theorem wword_fit (n k:Nat) (w:World) (h:fitsB n k=true):Calls Tryz.prog 156 #[.int .u64 n,.int .i64 k] w (RetByte (Wd.enc k n) w):=by
 have h1:=wword_any n k w
 unfold putR at h1
 rw [h] at h1
 exact h1
set_option maxRecDepth 100000 in
set_option maxHeartbeats 2000000 in
theorem psector_any (k ep:Nat) (q:Option Addr) (m c:Nat) (b:List Int) (w:World) (hk:k≤18446744073709551615) (he:ep≤18446744073709551615) (hy:Byt w q m c b) (hm:m≤232) :
  Calls Tryz.prog 131 #[.agg #[.int .u64 (k:Int),.int .u64 (ep:Int),.slice q m c]] w (RetSecX (secL k ep b) w):=by
 obtain ⟨W1,hW1⟩:∃ W1,W1=(w.alloc (.cells #[.int .u64 (k:Int),.int .u64 (ep:Int),.slice q m c] TPc)).alloc (.cells (sec Sec.zero) TS):=⟨_,rfl⟩;obtain ⟨W2,hW2⟩:∃ W2,W2=W1.alloc (.cells (bya nul2) TB2):=⟨_,rfl⟩;have hB1:=Blk.new w TPc #[.int .u64 (k:Int),.int .u64 (ep:Int),.slice q m c];have hB2:=Blk.new (w.alloc (.cells #[.int .u64 (k:Int),.int .u64 (ep:Int),.slice q m c] TPc)) TS (sec Sec.zero);have hB3:=Blk.new W1 TB2 (bya nul2)
 have hs1:W1.heap.size=w.heap.size+1+1:=by rw [hW1];simp
 have HB:Hid (Blk W2 w.heap.size TPc #[.int .u64 (k:Int),.int .u64 (ep:Int),.slice q m c]∧Blk W2 (w.heap.size+1) TS (sec Sec.zero)∧Blk W2 (w.heap.size+1+1) TB2 (bya nul2)∧Gr w W2):=Lib.hid (by
  rw [hs1] at hB3
  rw [← hW2] at hB3
  simp only [World.size_alloc] at hB2
  rw [← hW1] at hB2
  have g1:Gr (w.alloc (.cells #[.int .u64 (k:Int),.int .u64 (ep:Int),.slice q m c] TPc)) W1:=by rw [hW1];exact Gr.new _ _
  have g2:Gr W1 W2:=by rw [hW2];exact Gr.new _ _
  exact ⟨(hB1.gr g1).gr g2,hB2.gr g2,hB3,Gr.trans (Gr.trans (Gr.new _ _) g1) g2⟩)
 have HY:=Lib.hid hy;have HM:Hid (IntKind.u64.wrap (m:Int)=(m:Int)∧m≤232∧b.length=m):=Lib.hid ⟨by rw [IntKind.wrap_u64];omega,hm,hy.len⟩;have hz:=zero_sec
 have hW:((w.alloc (.cells #[.int .u64 (k:Int),.int .u64 (ep:Int),.slice q m c] 153)).alloc (.cells (sec Sec.zero) 60)).alloc (.cells Tryz.zeroCells211 211)=W2:=by rw [zero_b2,hW2,hW1]
 have HW:=Lib.hid hW;clear hW hW1 hW2 hB1 hB2 hB3 hs1 hy
 go_enter Tryz.func131,Tryz.ntmps131
 go_wp2_with fail;rw [HW.out];have HB':=Lib.hid (show Blk W2.drew (w.heap.size+1+1) TB2 (bya nul2) from HB.out.2.2.1.heap rfl);have HY':=Lib.hid (HY.out.kept (Gr.trans HB.out.2.2.2 (Gr.refl W2).drew));have HBd:=Lib.hid (show Blk W2.drew w.heap.size TPc #[.int .u64 (k:Int),.int .u64 (ep:Int),.slice q m c] from HB.out.1.heap rfl)
 have HCC:Hid (∀ V,Only (w.heap.size+1+1) W2.drew V→V.cell? ⟨w.heap.size,2,none⟩=some (.slice q m c)):=Lib.hid fun V ho=>(HBd.out.stays (ho.block w.heap.size (by omega))).cell 2
 obtain ⟨⟨c0,c1,c2⟩,_⟩:=HB.out.1.c3;have hm2:=HM.out.2.1
 go_region_held3 (fun w'=>w'.cell? ⟨w.heap.size,2,none⟩=some (.slice q m c)) (first | exact c2 | exact hc3) ((refine step_copy_body rfl (.tmp 7) (.tmp 9) rfl rfl HB'.out rfl HY'.out hm2 ?_;intro W3 hb3 ho3;have hc3:=HCC.out W3 ho3))
 have HB3:Hid (Blk W3 w.heap.size TPc #[.int .u64 (k:Int),.int .u64 (ep:Int),.slice q m c]∧Blk W3 (w.heap.size+1) TS (sec Sec.zero)∧Blk W3 (w.heap.size+1+1) TB2 (bya (padTo 232 b))∧Gr w W3):=Lib.hid ⟨(HB.out.1.heap rfl).stays (ho3.block _ (by omega)),(HB.out.2.1.heap rfl).stays (ho3.block _ (by omega)),hb3,ho3.below HB.out.2.2.2.drew (by omega)⟩;clear hb3 ho3 HB' HBd HY' c0 c1 c2 hm2 HW;have HB:=HB3;have HWo:Hid ((∀ W,Calls Tryz.prog 156 #[.int .u64 (k:Int),.int .i64 8] W (RetByte (Wd.enc 8 k) W))∧(∀ W,Calls Tryz.prog 156 #[.int .u64 (ep:Int),.int .i64 8] W (RetByte (Wd.enc 8 ep) W))∧∀ W,Calls Tryz.prog 156 #[.int .u64 (m:Int),.int .i64 4] W (RetByte (Wd.enc 4 m) W)):=Lib.hid ⟨fun W=>wword_fit k 8 W (fitK (by omega) (by omega) (by omega)),fun W=>wword_fit ep 8 W (fitK (by omega) (by omega) (by omega)),fun W=>wword_fit m 4 W (fitK (by omega) (by omega) (by omega))⟩
 have HJ:Hid (∀ pr nr cr W,Rows W pr nr cr [Wd.enc 8 k,Wd.enc 8 ep,Wd.enc 4 m]→Calls Tryz.prog 93 #[.slice pr nr cr] W (RetByte (headL k ep m) W)):=Lib.hid fun pr nr cr W hr=>by
  have h:=join_any pr nr cr _ W hr (by simp [tot,Wd.enc_length])
  simpa [headL] using h
 have HYB:Hid (∀ W,Gr W3 W→Byt W (some ⟨w.heap.size+1+1,0,none⟩) 232 232 (padTo 232 b)):=Lib.hid fun W gr=>(HB3.out.2.2.1.gr gr).bya (padTo_len (by rw [HM.out.2.2];exact HM.out.2.1)) (by omega) (padTo_small HY.out.small)
 clear hk he hm;go_wp2_with fail;refine Flow.region (SlSa w.heap.size k ep q m c) (Gr W3) Gr (by kernel_rfl) (by kernel_rfl) (fun _ _ _ _ h g=>slSa_gr h g) ⟨rfl,rfl,rfl,Nat.le_refl _,fun _ _=>rfl⟩ ?steps ?fin
 case steps=>
  refine .cons (fun a W hfr hinv hdep K hK=>?_) ?_
  · have t1:=tAt (.pointer (some ⟨w.heap.size,0,none⟩)) (hfr.at 1 (by kernel_rfl));refine fW0 rfl ?_;clear hfr hdep;go_simp;exact hK _ _ (Gr.refl _) hinv (dsT (by trivial))
  refine .cons (fun a W hfr hinv hdep K hK=>?_) ?_
  · have t11:=tAt (.pointer (some ⟨w.heap.size,0,none⟩)) (hdep 11 (by kernel_rfl));obtain ⟨⟨c0,c1,c2⟩,_⟩:=(HB.out.1.gr hinv).c3;refine fW0 rfl ?_;clear hfr hdep;go_simp;exact hK _ _ (Gr.refl _) hinv (dsT (by trivial))
  refine .cons (fun a W hfr hinv hdep K hK=>?_) ?_
  · have t12:=tAt (.int .u64 (k:Int)) (hdep 12 (by kernel_rfl));refine fW0 rfl ?_;clear hfr hdep;go_simp;refine (HWo.out.1 W).mono ?_;rintro e W' ⟨q1,m1,c1,rfl,hy,g1,hf⟩;exact hK _ _ g1 (Gr.trans hinv g1) (fun d hd=>by cases hd;exact ⟨_,_,_,rfl,hy⟩)
  refine .cons (fun a W hfr hinv hdep K hK=>?_) ?_
  · have t1:=tAt (.pointer (some ⟨w.heap.size,0,none⟩)) (hfr.at 1 (by kernel_rfl));refine fW0 rfl ?_;clear hfr hdep;go_simp;exact hK _ _ (Gr.refl _) hinv (dsT (by trivial))
  refine .cons (fun a W hfr hinv hdep K hK=>?_) ?_
  · have t14:=tAt (.pointer (some ⟨w.heap.size,1,none⟩)) (hdep 14 (by kernel_rfl));obtain ⟨⟨c0,c1,c2⟩,_⟩:=(HB.out.1.gr hinv).c3;refine fW0 rfl ?_;clear hfr hdep;go_simp;exact hK _ _ (Gr.refl _) hinv (dsT (by trivial))
  refine .cons (fun a W hfr hinv hdep K hK=>?_) ?_
  · have t15:=tAt (.int .u64 (ep:Int)) (hdep 15 (by kernel_rfl));refine fW0 rfl ?_;clear hfr hdep;go_simp;refine (HWo.out.2.1 W).mono ?_;rintro e W' ⟨q1,m1,c1,rfl,hy,g1,hf⟩;exact hK _ _ g1 (Gr.trans hinv g1) (fun d hd=>by cases hd;exact ⟨_,_,_,rfl,hy⟩)
  refine .cons (fun a W hfr hinv hdep K hK=>?_) ?_
  · have t1:=tAt (.pointer (some ⟨w.heap.size,0,none⟩)) (hfr.at 1 (by kernel_rfl));refine fW0 rfl ?_;clear hfr hdep;go_simp;exact hK _ _ (Gr.refl _) hinv (dsT (by trivial))
  refine .cons (fun a W hfr hinv hdep K hK=>?_) ?_
  · have t17:=tAt (.pointer (some ⟨w.heap.size,2,none⟩)) (hdep 17 (by kernel_rfl));obtain ⟨⟨c0,c1,c2⟩,_⟩:=(HB.out.1.gr hinv).c3;refine fW0 rfl ?_;clear hfr hdep;go_simp;exact hK _ _ (Gr.refl _) hinv (dsT (by trivial))
  refine .cons (fun a W hfr hinv hdep K hK=>?_) ?_
  · have t18:=tAt (.slice q m c) (hdep 18 (by kernel_rfl));refine fW0 rfl ?_;clear hfr hdep;go_simp;exact hK _ _ (Gr.refl _) hinv (dsT (by trivial))
  refine .cons (fun a W hfr hinv hdep K hK=>?_) ?_
  · have t19:=tAt (.int .i64 m) (hdep 19 (by kernel_rfl));have hw:=HM.out;refine fW0 rfl ?_;clear hfr hdep;go_simp;exact hK _ _ (Gr.refl _) hinv (dsT (by trivial))
  refine .cons (fun a W hfr hinv hdep K hK=>?_) ?_
  · have t20:=tAt (.int .u64 (m:Int)) (hdep 20 (by kernel_rfl));refine fW0 rfl ?_;clear hfr hdep;go_simp;refine (HWo.out.2.2 W).mono ?_;rintro e W' ⟨q1,m1,c1,rfl,hy,g1,hf⟩;exact hK _ _ g1 (Gr.trans hinv g1) (fun d hd=>by cases hd;exact ⟨_,_,_,rfl,hy⟩)
  refine .cons (fun a W hfr hinv hdep K hK=>?_) ?_
  · have s13:IsB W (a.tmps.getD 13 undef) (Wd.enc 8 k):=hdep 13 (by kernel_rfl);have s16:IsB W (a.tmps.getD 16 undef) (Wd.enc 8 ep):=hdep 16 (by kernel_rfl);have s21:IsB W (a.tmps.getD 21 undef) (Wd.enc 4 m):=hdep 21 (by kernel_rfl);refine fW0 rfl ?_;clear hfr hdep;obtain ⟨p0,n0,c0,s13,h0⟩:=s13;have t13:=tmpAt s13;obtain ⟨p1,n1,c1,s16,h1⟩:=s16;have t16:=tmpAt s16;obtain ⟨p2,n2,c2,s21,h2⟩:=s21;have t21:=tmpAt s21;go_simp;exact hK _ _ ((Gr.refl W).alloc (Nat.le_refl _) _) (hinv.alloc hinv.size _) (fun d hd=>by cases hd;exact ⟨_,_,_,rfl,Rows.three h0 h1 h2 rfl⟩)
  refine .cons (fun a W hfr hinv hdep K hK=>?_) ?_
  · have s22:IsRows W (a.tmps.getD 22 undef) [Wd.enc 8 k,Wd.enc 8 ep,Wd.enc 4 m]:=hdep 22 (by kernel_rfl);refine fW0 rfl ?_;clear hfr hdep;obtain ⟨pr,nr,cr,s22,hr⟩:=s22;have t22:=tmpAt s22;go_simp;refine (HJ.out pr nr cr W hr).mono ?_;rintro e W' ⟨q1,m1,c1,rfl,hy,g1,hf⟩;exact hK _ _ g1 (Gr.trans hinv g1) (fun d hd=>by cases hd;exact ⟨_,_,_,rfl,hy⟩)
  refine .cons (fun a W hfr hinv hdep K hK=>?_) ?_
  · have s23:IsB W (a.tmps.getD 23 undef) (headL k ep m):=hdep 23 (by kernel_rfl);refine fW0 rfl ?_;clear hfr hdep;obtain ⟨pr,nr,cr,s23,hr⟩:=s23;have t23:=tmpAt s23;go_simp;exact hK _ _ (Gr.refl _) hinv (fun d hd=>by cases hd;exact ⟨_,_,_,rfl,hr⟩)
  exact True.intro
 case fin=>
  intro a W hfr hfin hsl
  obtain ⟨kp4,kn4,kc4,s4,kh4⟩:IsB W (a.tmps.getD 4 undef) (headL k ep m):=hsl 13 _ 4 rfl rfl;have t4:=tmpAt s4;have e:=Flow.frame hfr [11,12,13,14,15,16,17,18,19,20,21,22,23,4] (List.range 38) (by kernel_rfl) (by kernel_rfl)
  simp [List.range,List.range.loop] at e
  rw [t4] at e
  rw [e];clear e hfr hsl s4 t4
  first
   | (rename_i hB;refine hB _ _ ?_)
   | (rename_i hB y0;refine hB _ _ ?_)
   | (rename_i hB y0 y1;refine hB _ _ ?_)
   | (rename_i hB y0 y1 y2;refine hB _ _ ?_)
   | (rename_i hB y0 y1 y2 y3;refine hB _ _ ?_)
   | (rename_i hB y0 y1 y2 y3 y4;refine hB _ _ ?_)
   | (rename_i hB y0 y1 y2 y3 y4 y5;refine hB _ _ ?_)
   | (rename_i hB y0 y1 y2 y3 y4 y5 y6;refine hB _ _ ?_)
  have HB5:Hid (Blk W (w.heap.size+1) TS (sec Sec.zero)∧Gr w W∧Gr W3 W):=Lib.hid ⟨HB3.out.2.1.gr hfin,Gr.trans HB3.out.2.2.2 hfin,hfin⟩;have HH:=Lib.hid kh4;clear hfin kh4 HWo HJ HB;obtain ⟨T,hT⟩:∃ T,T=sumW (headL k ep m++padTo 232 b):=⟨_,rfl⟩
  have HSU:Hid (∀ p n c W,Rows W p n c [headL k ep m,padTo 232 b]→Calls Tryz.prog 128 #[.slice p n c] W fun e w'=>e=.returned (.int .u32 (U T))∧Gr W w'):=Lib.hid fun p n c W hr=>by
   have h:=sum_any p n c _ W hr;rw [hT]
   simpa using h
  have hw:IntKind.u64.wrap (U T)=((T.toNat:Nat):Int):=by
   have:=T.isLt;rw [IntKind.wrap_u64];unfold U;omega
  have HWf:Hid (∀ W,Calls Tryz.prog 156 #[.int .u64 ((T.toNat:Nat):Int),.int .i64 4] W (RetByte (Wd.enc 4 T.toNat) W)):=Lib.hid fun W=>wword_fit T.toNat 4 W (fitK (by omega) (by omega) (by have:=T.isLt;omega))
  have HSec:Hid (secL k ep b=headL k ep m++(Wd.enc 4 T.toNat++padTo 232 b)∧IsSec (secL k ep b)):=Lib.hid ⟨by unfold secL;rw [HM.out.2.2,hT,List.append_assoc],secL_sec (by rw [HM.out.2.2];exact HM.out.2.1) HY.out.small⟩;clear hT;go_wp2_with fail;refine (HSU.out _ _ _ _ (Rows.two HH.out (HYB.out _ HB5.out.2.2) rfl)).mono ?_;rintro e W5 ⟨rfl,g5⟩;have HG5:=Lib.hid (grow1 g5);clear g5;go_wp2_with fail;refine (HWf.out W5).mono ?_;rintro e W6 ⟨q6,n6,c6,rfl,hy6,g6,f6⟩;have HG6:=Lib.hid (Gr.trans HG5.out g6);have HY6:=Lib.hid hy6;have HZ:=Lib.hid (Blk.new W6 TS (sec Sec.zero));obtain ⟨W7,hW7⟩:∃ W7,W7=W6.alloc (.cells (sec Sec.zero) TS):=⟨_,rfl⟩;have HG7:Hid (Gr W W7∧Blk W7 W6.heap.size TS (sec Sec.zero)∧W7.heap.size=W6.heap.size+1∧Gr W6 W7):=Lib.hid (by rw [hW7];exact ⟨Gr.trans HG6.out (Gr.new _ _),Blk.new _ _ _,by simp,Gr.new _ _⟩);have hW7':W6.alloc (.cells (sec Sec.zero) 60)=W7:=hW7.symm;have HW7:=Lib.hid hW7';have HS7:Hid (W3.heap.size≤W6.heap.size∧w.heap.size+1 < W6.heap.size):=Lib.hid ⟨Nat.le_trans HB5.out.2.2.size HG6.out.size,Nat.lt_of_lt_of_le HB5.out.1.lt HG6.out.size⟩;clear hy6 g6 f6 hW7 hW7' HZ hw HWf HSU;go_wp2_with fail;rw [HW7.out]
  have HJ:Hid (∀ p n c W,Rows W p n c [headL k ep m,Wd.enc 4 T.toNat,padTo 232 b]→Calls Tryz.prog 93 #[.slice p n c] W (RetByte (secL k ep b) W)):=Lib.hid fun p n c W hr=>by
   have h:=join_any p n c _ W hr (by simp [tot,Wd.enc_length,headL_len,padTo_len (show b.length≤232 by rw [HM.out.2.2];exact HM.out.2.1)]);rw [HSec.out.1]
   simpa using h
  have HJ3:Hid (Calls Tryz.prog 93 #[.slice (some ⟨W7.heap.size,0,none⟩) 3 3] (W7.alloc (.cells #[.slice kp4 kn4 kc4,.slice q6 n6 c6,.slice (some ⟨w.heap.size+1+1,0,none⟩) 232 232] 31)).drew fun e W8=>∃ q8 c8,e=.returned (.slice q8 256 c8)∧Hid (Byt W8 q8 256 c8 (secL k ep b))∧Hid (Blk W8 W6.heap.size TS (sec (Sx (List.replicate 256 0)))∧Gr w W8∧Blk W8 (w.heap.size+1) TS (sec Sec.zero))):=Lib.hid (by
   have gV:Gr W7 (W7.alloc (.cells #[.slice kp4 kn4 kc4,.slice q6 n6 c6,.slice (some ⟨w.heap.size+1+1,0,none⟩) 232 232] 31)).drew:=(Gr.new W7 _).drew;refine (HJ.out _ _ _ _ (Rows.three (W:=(W7.alloc (.cells #[.slice kp4 kn4 kc4,.slice q6 n6 c6,.slice (some ⟨w.heap.size+1+1,0,none⟩) 232 232] 31)).drew) (HH.out.kept HG7.out.1) (HY6.out.kept HG7.out.2.2.2) (HYB.out _ (Gr.trans HB5.out.2.2 HG7.out.1)) rfl)).mono ?_;rintro e W8 ⟨q8,n8,c8,rfl,hy8,g8,f8⟩
   have hn:n8=256:=by have h1:=hy8.len;have h2:=HSec.out.2.len;omega
   subst hn;have g78:=Gr.trans gV g8
   exact ⟨q8,c8,rfl,Lib.hid hy8,Lib.hid ⟨by rw [Sx_zero];exact HG7.out.2.1.gr g78,Gr.trans (Gr.trans HB5.out.2.1 HG7.out.1) g78,HB5.out.1.gr (Gr.trans HG7.out.1 g78)⟩⟩)
  have HLAY:Hid (lay (List.replicate 256 0) 0 (secL k ep b)=secL k ep b):=Lib.hid (lay_zero HSec.out.2.len)
  have h1a:0 < 256:=by decide
  have h1b:256≤256:=Nat.le_refl _;have h1c:0+256≤256:=Nat.le_refl _;clear HJ HH HY6 HYB
  go_region_held3 (fun _=>True) (exact True.intro) (first
   | (go_at_call 93;refine HJ3.out.mono ?_;rintro e W8 ⟨q8,c8,rfl,HY8,HB8⟩)
   | (refine step_copy_sec rfl (.tmp 30) (.tmp 35) rfl rfl HB8.out.1 zeros_sec rfl HY8.out h1a h1b h1c ?_;rw [HLAY.out]))
  have HB9:Hid (Blk (W8.setRow W6.heap.size (sec (Sx (secL k ep b)))) W6.heap.size TS (sec (Sx (secL k ep b)))∧Blk (W8.setRow W6.heap.size (sec (Sx (secL k ep b)))) (w.heap.size+1) TS (sec Sec.zero)∧Gr w (W8.setRow W6.heap.size (sec (Sx (secL k ep b))))):=Lib.hid ⟨HB8.out.1.row _,HB8.out.2.2.other (by have:=HS7.out.2;omega),below_setRow HB8.out.2.1 (by have:=HS7.out.2;omega) _⟩;clear HB8
  go_wp2_with (first | (refine wpList_load_x rfl (.tmp 6) rfl HB9.out.1 rfl ?_) | (refine wpList_store_x rfl (.tmp 2) (.tmp 37) rfl HB9.out.2.1 rfl rfl ?_))
  exact bodyPost_ret (results_x rfl _ _ _ _ rfl (HB9.out.2.1.row _)) rfl ⟨rfl,below_setRow HB9.out.2.2 (by omega) _⟩
end Go.Proofs.YtdmhemgepdknhaaGreat
namespace Go.Proofs.YtdmhemgepdknhaaGreat
open Go.RowKit Go.Maps
def PFr.sec (f:PFr):List Int:=Wd.enc 8 f.lsn++f.pay
theorem PFr.In.sec {f:PFr} (h:f.In):IsSec f.sec:=⟨by unfold PFr.sec;rw [List.length_append,Wd.enc_length,h.pay.len],(Wd.enc_small _ _).app h.pay.small⟩
theorem PFr.byt {w:World} {c:Nat} {f:PFr} (h:Blk w c TFr f.cells) (hf:f.In):Byt w (some ⟨c,0,none⟩) 248 248 f.pay:=
 ⟨hf.pay.len,Nat.le_refl _,by simp only [maxLen];omega,fun _=>⟨c,0,rfl,fun i hi=>by
  have h1:=PFr.range h i (.int .u8 (f.pay.getD i 0)) (by
   rw [PSx_cells hf.pay,List.getElem?_map]
   simp [List.getD,hf.pay.len,hi])
  exact h1⟩,(fun h=>by cases h),hf.pay.small⟩
theorem Byt.secRange {w:World} {b o n c:Nat} {xs:List Int} (hx:IsSec xs) (h:Byt w (some ⟨b,o,none⟩) n c xs):w.rangeAt b o (Sx xs).cells:=fun j v hv=>by
 rw [Sx_cells hx] at hv
 have h1:=h.news j v hv
 rcases Nat.eq_zero_or_pos j with rfl | hj
 · simpa [Addr.add] using h1
 ·
  have hn:j≠0:=by omega
  simpa [Addr.add,hn] using h1
set_option maxRecDepth 100000 in
set_option maxHeartbeats 1000000 in
theorem fsector_any {w:World} {c:Nat} {f:PFr} (h:Blk w c TFr f.cells) (hf:f.In):Calls Tryz.prog 78 #[.pointer (some ⟨c,0,none⟩)] w (RetSecX f.sec w):=by
 obtain ⟨W1,hW1⟩:∃ W1,W1=w.alloc (.cells (Go.Proofs.YtdmhemgepdknhaaGreat.sec Sec.zero) TS):=⟨_,rfl⟩;have HW1:Hid (w.alloc (.cells (Go.Proofs.YtdmhemgepdknhaaGreat.sec Sec.zero) 60)=W1):=Lib.hid hW1.symm
 have HB:Hid (Blk W1 c TFr f.cells∧Blk W1 w.heap.size TS (Go.Proofs.YtdmhemgepdknhaaGreat.sec Sec.zero)∧Gr w W1∧c < w.heap.size):=Lib.hid (by
  rw [hW1]
  exact ⟨h.gr (Gr.new _ _),Blk.new _ _ _,Gr.new _ _,h.lt⟩)
 have HF:=Lib.hid hf
 have HPut:Hid (∀ V,Calls Tryz.prog 92 #[.int .u64 (f.lsn:Int),.int .i64 8] V (RetBytes 0 (Wd.enc 8 f.lsn) V)):=Lib.hid fun V=>put_yes f.lsn 8 V (fitK (by omega) (by omega) (by have:=hf.l;omega))
 have HJ:Hid (∀ p n k V,Rows V p n k [Wd.enc 8 f.lsn,f.pay]→Calls Tryz.prog 93 #[.slice p n k] V (RetByte f.sec V)):=Lib.hid fun p n k V hr=>by
  have h:=join_any p n k _ V hr (by simp [tot,Wd.enc_length,hf.pay.len])
  simpa [PFr.sec] using h
 have hz:=zero_sec;have c4:(w.alloc (.cells (Go.Proofs.YtdmhemgepdknhaaGreat.sec Sec.zero) 60)).cell? ⟨c,248,none⟩=some (.int .u64 (f.lsn:Int)):=(PFr.c4 (show Blk (w.alloc (.cells (Go.Proofs.YtdmhemgepdknhaaGreat.sec Sec.zero) 60)) c TFr f.cells by rw [HW1.out];exact HB.out.1)).1;clear hW1 h hf
 go_enter Tryz.func78,Tryz.ntmps78
 go_wp2_with fail;rw [HW1.out];refine (HPut.out _).mono ?_;rintro e w2 ⟨q,n,k,rfl,hy,hg,hfr2⟩;go_wp2_with fail;have HY:Hid (Byt w2 q n k (Wd.enc 8 f.lsn)∧Gr W1 w2):=Lib.hid ⟨hy,hg⟩;clear hy hg hfr2 c4 HPut;refine (HJ.out _ _ _ _ (Rows.two (HY.out.1) (PFr.byt (HB.out.1.gr HY.out.2) HF.out) rfl)).mono ?_;rintro e W' ⟨q1,m1,c1,rfl,hy,g1,hf1⟩
 have hm:m1=256:=by rw [← hy.len];exact HF.out.sec.len
 subst hm
 obtain ⟨b1,o1,rfl,_⟩:=hy.at (by omega)
 have har:=fun V=>run_arrayAt (P:=Tryz.prog) 60 256 _ under_sec (some ⟨b1,o1,none⟩) 256 c1 (Nat.le_refl _) V
 have HG:Hid (Gr W1 W'):=Lib.hid (Gr.trans HY.out.2 (Gr.trans (Gr.new w2 _) g1));have HR:Hid (W'.rangeAt b1 o1 (Sx f.sec).cells):=Lib.hid (Byt.secRange HF.out.sec hy);have HZ:Hid (Blk W' w.heap.size TS (Go.Proofs.YtdmhemgepdknhaaGreat.sec Sec.zero)):=Lib.hid (HB.out.2.1.gr HG.out);have HE:Hid (Gr w (W'.setRow w.heap.size (Go.Proofs.YtdmhemgepdknhaaGreat.sec (Sx f.sec)))):=Lib.hid (below_setRow (Gr.trans HB.out.2.2.1 HG.out) (Nat.le_refl _) _);clear hy g1 hf1 HJ HY
 go_wp2_with (first | (refine wpList_load_mid rfl TS (.tmp 20) rfl b1 o1 rfl (Sx f.sec).cells _ HR.out under_sec rfl (by rw [Sec.cells_len];exact size_sec) ?_) | (refine wpList_store_x rfl (.tmp 2) (.tmp 21) rfl HZ.out rfl rfl ?_))
 exact bodyPost_ret (results_x rfl _ _ _ _ rfl (HZ.out.row _)) rfl ⟨rfl,HE.out⟩
end Go.Proofs.YtdmhemgepdknhaaGreat
namespace Go.Proofs.YtdmhemgepdknhaaGreat
open Go.RowKit Go.Maps
abbrev fnClean (b:Nat):Value:=.func (.func 53) #[.pointer (some ⟨b,0,none⟩)] #[]
theorem Ints.cellAt {w:World} {base g c:Nat} {xs:List Nat} (h:Ints w base (.slice (some ⟨g,0,none⟩) xs.length c) xs) (j:Nat) (hj:j < xs.length):w.cell? ⟨g,j,none⟩=some (.int .i64 ((xs.getD j 0:Nat):Int)):=by
 have h1:=World.ownsRow.cellAt h j (by omega);rw [h1,List.getElem?_map]
 simp [List.getD,hj]
theorem Ints.gr {w w':World} {base:Nat} {v:Value} {xs:List Nat} (h:Ints w base v xs) (g:Gr w w'):Ints w' base v xs:=
 World.ownsRow.kept h (row:=none) ⟨g.os,g.tape,g.output,g.size,fun j hj _=>g.block j hj⟩ (by cases hv:v.ownBlock <;> simp)
theorem Ints.most {w:World} {base g c:Nat} {xs:List Nat} (h:Ints w base (.slice (some ⟨g,0,none⟩) xs.length c) xs):xs.length≤c∧c≤maxLen∧g < w.heap.size:=by
 have hl:=World.ownsRow.lt h g rfl
 rcases h.2 with ⟨h',_⟩ | ⟨g',cap',cur,h',_,hg,h1,h2,_⟩
 · simp at h'
 ·
  simp only [Value.slice.injEq,Option.some.injEq,Addr.mk.injEq,and_true,true_and] at h'
  obtain ⟨rfl,rfl⟩:=h';exact ⟨h1,h2,hl.2⟩
section
variable {w w':World} {b m n:Nat} {pd pl:Value} {B:Nat→Option Nat} {P:Pl}
set_option maxRecDepth 100000 in
set_option maxHeartbeats 1000000 in
theorem pindex_any {base g c:Nat} {xs:List Nat} (h:PlAt w b pd pl m n B P) (hr:Ints w base (.slice (some ⟨g,0,none⟩) xs.length c) xs) (hx:∀ j,j < xs.length→xs.getD j 0 < 65536) :
  Calls Tryz.prog 79 #[.slice (some ⟨g,0,none⟩) xs.length c,fnClean b] w fun e w'=>Gr w w' ∧
   ((e=.returned (.int .i64 (-1))∧∀ j,j < xs.length→P.clean (xs.getD j 0)=false)∨∃ k:Nat,e=.returned (.int .i64 (k:Int))∧k < xs.length∧P.clean (xs.getD k 0)=true∧∀ j,j < k→P.clean (xs.getD j 0)=false):=by
 have eg:∀ args w,(callFunc 53 args).run Tryz.prog w=.ok (.enter 53 args) w:=enters_of Tryz.func53 (by kernel_rfl) rfl;have HP:=Lib.hid h;have HR:=Lib.hid hr;have HX:=Lib.hid hx;obtain ⟨N,hN⟩:∃ N,N=xs.length:=⟨_,rfl⟩;have HN:Hid (N=xs.length∧N≤9223372036854775807):=Lib.hid ⟨hN,by have:=hr.most;unfold maxLen at this;omega⟩;rw [← hN]
 have h0:(0:Int)≤(N:Int):=by omega
 clear h hr hx hN
 go_enter Tryz.func79,Tryz.ntmps79
 go_wp2
 go_loopw [8] (fun kv wr=>∃ k:Nat,k≤N∧kv=.int .i64 (k:Int)∧Hid (Gr w wr∧∀ j,j < k→P.clean (xs.getD j 0)=false)) (fun kv _=>N - (intOf kv).toNat)
 case atStart=>exact ⟨0,Nat.zero_le _,rfl,Lib.hid ⟨Gr.refl _,fun j hj=>by omega⟩⟩
 case round=>
  obtain ⟨k,hk,rfl,HG⟩:=hrel
  by_cases hlt:k < N
  ·
   have g3:(k:Int) < (N:Int):=by omega
   have hk2:k < xs.length:=by have:=HN.out.1;omega
   have ck:=(HR.out.gr HG.out.1).cellAt k hk2;have hcall:=pclean_any (HP.out.gr HG.out.1) (xs.getD k 0) (HX.out k hk2);obtain ⟨x,hxx⟩:∃ x,x=xs.getD k 0:=⟨_,rfl⟩;have HXX:=Lib.hid hxx
   rw [← hxx] at ck hcall
   obtain ⟨y,hy⟩:∃ y,y=P.clean x:=⟨_,rfl⟩;have HY:=Lib.hid hy
   rw [← hy] at hcall
   have HC:=Lib.hid hcall
   have hw:IntKind.i64.wrap ((k:Int)+1)=((k+1:Nat):Int):=by rw [IntWalk.i64_in _ (by have:=HN.out.2;omega)];omega
   clear hcall hxx hy hk2
   cases y with
   | true=>
    go_wp2_with (go_at_fn 53;refine HC.out.mono ?_;rintro e w' ⟨rfl,rfl⟩)
    go_ret
    exact ⟨HG.out.1,.inr ⟨k,rfl,hlt,by rw [← HXX.out];exact HY.out.symm,HG.out.2⟩⟩
   | false=>
    go_wp2_with (go_at_fn 53;refine HC.out.mono ?_;rintro e w' ⟨rfl,rfl⟩)
    refine ⟨⟨k+1,by omega,by go_num,Lib.hid ⟨HG.out.1,fun j hj=>?_⟩⟩,by simp [intOf];omega⟩
    rcases Nat.lt_succ_iff_lt_or_eq.1 hj with h | rfl
    · exact HG.out.2 j h
    · rw [← HXX.out];exact HY.out.symm
  ·
   obtain rfl:k=N:=by omega
   go_wp2
   go_ret
   exact ⟨HG.out.1,.inl ⟨rfl,by have:=HN.out.1;exact fun j hj=>HG.out.2 j (by omega)⟩⟩
structure Kept (q:Nat→Bool) (xs zs:List Nat) (i j:Nat):Prop where
 len:zs.length=xs.length
 lt:i < j
 head:zs.take i=(xs.take j).filter q
 tail:∀ k,j≤k→zs.getD k 0=xs.getD k 0
theorem take_succ_getD {xs:List Nat} {j:Nat} (h:j < xs.length):xs.take (j+1)=xs.take j++[xs.getD j 0]:=by
 rw [List.take_succ_eq_append_getElem h]
 simp [List.getD,h]
theorem Kept.step {q:Nat→Bool} {xs zs:List Nat} {i j:Nat} (h:Kept q xs zs i j) (hj:j < xs.length) (hq:q (xs.getD j 0)=true):Kept q xs (zs.set i (xs.getD j 0)) (i+1) (j+1):=by
 refine ⟨by rw [List.length_set];exact h.len,by have:=h.lt;omega,?_,fun k hk=>?_⟩
 ·
  have hi:i < (zs.set i (xs.getD j 0)).length:=by rw [List.length_set,h.len];have:=h.lt;omega
  rw [take_succ_getD hi,take_succ_getD hj,List.filter_append,← h.head,List.take_set_of_le (Nat.le_refl _)]
  congr 1
  have hi2:i < zs.length:=by rw [h.len];have:=h.lt;omega
  simp [List.getD,hi2,List.filter_cons] at hq ⊢
  simp [hq]
 ·
  have:i≠k:=by have:=h.lt;omega
  rw [← h.tail k (by omega)]
  simp only [List.getD_eq_getElem?_getD,List.getElem?_set_ne this]
theorem Kept.skip {q:Nat→Bool} {xs zs:List Nat} {i j:Nat} (h:Kept q xs zs i j) (hj:j < xs.length) (hq:q (xs.getD j 0)=false):Kept q xs zs i (j+1):=by
 refine ⟨h.len,by have:=h.lt;omega,?_,fun k hk=>h.tail k (by omega)⟩;rw [take_succ_getD hj,List.filter_append,← h.head]
 simp [List.filter_cons,hq] at hq ⊢
 exact hq
theorem Kept.start {q:Nat→Bool} {xs:List Nat} {k:Nat} (hk:k < xs.length) (h:∀ j,j < k→q (xs.getD j 0)=true) (h2:q (xs.getD k 0)=false):Kept q xs xs k (k+1):=by
 refine ⟨rfl,by omega,?_,fun _ _=>rfl⟩;rw [take_succ_getD hk,List.filter_append]
 have e:(xs.take k).filter q=xs.take k:=List.filter_eq_self.2 fun a ha=>by
  obtain ⟨j,hj,rfl⟩:=List.getElem_of_mem ha
  rw [List.length_take] at hj
  have:=h j (by omega);rw [List.getElem_take]
  simpa [List.getD,show j < xs.length by omega] using this
 rw [e]
 simp [List.filter_cons,h2] at h2 ⊢
 exact h2
theorem filter_all {q:Nat→Bool} {xs:List Nat} (h:∀ j,j < xs.length→q (xs.getD j 0)=true):xs.filter q=xs:=List.filter_eq_self.2 fun a ha=>by
 obtain ⟨j,hj,rfl⟩:=List.getElem_of_mem ha;have:=h j hj
 simpa [List.getD,hj] using this
theorem PlAt.by {w w':World} {g:Nat} (h:PlAt w b pd pl m n B P) (hb:w.grownBy w' (some g)) (hg:¬ plS b m B g):PlAt w' b pd pl m n B P:=
 h.stays fun k hk=>hb.block k (h.low k hk) fun e=>hg (by cases e;exact hk)
theorem Ints.cleared {w:World} {base g c:Nat} {zs:List Nat} (h:Ints w base (.slice (some ⟨g,0,none⟩) zs.length c) zs) (i:Nat) (hi:i≤zs.length) :
  Ints (w.setCells g i (List.replicate (zs.length - i) (.int .i64 0))) base (.slice (some ⟨g,0,none⟩) i c) (zs.take i)∧w.grownBy (w.setCells g i (List.replicate (zs.length - i) (.int .i64 0))) (some g):=by
 rcases h.2 with ⟨h',_⟩ | ⟨g',cap',cur,h',hb,hg,h1,h2,h3,h4⟩
 · simp at h'
 ·
  simp only [Value.slice.injEq,Option.some.injEq,Addr.mk.injEq,and_true,true_and] at h'
  obtain ⟨rfl,rfl⟩:=h';have hs:=Pheap_setCells_same g TI (List.replicate (zs.length - i) (.int .i64 0)) i w cur hg (by rw [List.length_replicate];omega);obtain ⟨o1,o2,o3,o4⟩:=PsetCells_os g (List.replicate (zs.length - i) (.int .i64 0)) i w
  have hl:(zs.take i).length=i:=by rw [List.length_take];omega
  refine ⟨⟨by rw [List.length_map];omega,.inr ⟨g,c,_,by rw [hl],hb,hs,by omega,h2,?_,?_⟩⟩,⟨o1,o2,o3,Nat.le_of_eq o4.symm,fun k _ hk=>Pheap_setCells_other g _ i w k fun e=>hk (by rw [e])⟩⟩
  · simp;omega
  ·
   rw [hl,Nat.mul_one,List.append_assoc,List.take_left' (by simp;omega),List.map_take,← h4,List.take_take]
   congr 1
   omega
theorem Ints.stored {w:World} {base g c:Nat} {zs:List Nat} (h:Ints w base (.slice (some ⟨g,0,none⟩) zs.length c) zs) (i x:Nat) :
  Ints (w.setCell ⟨g,i,none⟩ (.int .i64 (x:Int))) base (.slice (some ⟨g,0,none⟩) (zs.set i x).length c) (zs.set i x)∧w.grownBy (w.setCell ⟨g,i,none⟩ (.int .i64 (x:Int))) (some g):=by
 obtain ⟨h1,h2⟩:=World.ownsRow.stored h i (.int .i64 (x:Int));refine ⟨?_,h2⟩
 unfold Ints
 rw [List.length_set,List.map_set];exact h1
set_option maxRecDepth 100000 in
set_option maxHeartbeats 2000000 in
theorem pdelete_any {base g c:Nat} {xs:List Nat} (h:PlAt w b pd pl m n B P) (hr:Ints w base (.slice (some ⟨g,0,none⟩) xs.length c) xs) (hx:∀ j,j < xs.length→xs.getD j 0 < 65536) (hg:¬ plS b m B g) :
  Calls Tryz.prog 51 #[.slice (some ⟨g,0,none⟩) xs.length c,fnClean b] w fun e w'=>e=.returned (.slice (some ⟨g,0,none⟩) (xs.filter fun i => !P.clean i).length c) ∧
   Ints w' base (.slice (some ⟨g,0,none⟩) (xs.filter fun i => !P.clean i).length c) (xs.filter fun i => !P.clean i)∧w.grownBy w' (some g):=by
 have eg:∀ args w,(callFunc 53 args).run Tryz.prog w=.ok (.enter 53 args) w:=enters_of Tryz.func53 (by kernel_rfl) rfl;have HP:=Lib.hid h;have HR:=Lib.hid hr;have HX:=Lib.hid hx;have HGP:=Lib.hid hg;have hcc:=hr.most;obtain ⟨N,hN⟩:∃ N,N=xs.length:=⟨_,rfl⟩;have HN:Hid (N=xs.length∧N≤9223372036854775807∧N≤c):=Lib.hid ⟨hN,by have:=hr.most;unfold maxLen at this;omega,by omega⟩;have HI:=Lib.hid (pindex_any h hr hx)
 rw [← hN] at HI ⊢
 have h0:(0:Int)≤(N:Int):=by omega
 obtain ⟨ys,hys⟩:∃ ys,ys=xs.filter fun i => !P.clean i:=⟨_,rfl⟩
 have HYS:=Lib.hid hys;rw [← hys];clear h hr hx hN hg hys hcc
 go_enter Tryz.func51,Tryz.ntmps51
 go_wp2_with fail;refine HI.out.mono ?_;rintro e w1 ⟨g1,⟨rfl,hall⟩ | ⟨k,rfl,hk,ht,hall⟩⟩
 ·
  have e0:ys=xs:=by rw [HYS.out];exact filter_all fun j hj=>by rw [hall j (by have:=HN.out.1;omega)];rfl
  have e1:ys.length=N:=by rw [e0];exact HN.out.1.symm
  have HG:=Lib.hid g1;have HA:=Lib.hid hall;clear g1 hall;go_wp2_with fail
  go_ret
  refine ⟨by rw [e1];rfl,?_,⟨HG.out.os,HG.out.tape,HG.out.output,HG.out.size,fun j hj _=>HG.out.block j hj⟩⟩;rw [e0];exact HR.out.gr HG.out
 ·
  have HG:=Lib.hid g1;have HA:Hid (Kept (fun i => !P.clean i) xs xs k (k+1)):=Lib.hid (Kept.start (by have:=HN.out.1;omega) (fun j hj=>by rw [hall j hj];rfl) (by rw [ht];rfl))
  have hw:IntKind.i64.wrap ((k:Int)+1)=((k+1:Nat):Int):=by rw [IntWalk.i64_in _ (by have:=HN.out.2;omega)];omega
  have hne:((k:Int) == -1)=false:=beq_eq_false_iff_ne.2 (by omega);clear g1 hall ht;go_wp2_with fail
  go_loopw [5,6,7] (fun s5 s6 _ wr=>∃ (i j:Nat) (zs:List Nat),s5=.int .i64 (i:Int)∧s6=.int .i64 (j:Int)∧j≤N∧Hid (Kept (fun i => !P.clean i) xs zs i j∧Ints wr base (.slice (some ⟨g,0,none⟩) zs.length c) zs∧w.grownBy wr (some g))) (fun _ s6 _ _=>N - (intOf s6).toNat)
  case atStart=>exact ⟨k,k+1,xs,rfl,by go_num,by omega,Lib.hid ⟨HA.out,HR.out.gr HG.out,⟨HG.out.os,HG.out.tape,HG.out.output,HG.out.size,fun j hj _=>HG.out.block j hj⟩⟩⟩
  case round=>
   clear HA hne hw hk HG HI;obtain ⟨i,j,zs,rfl,rfl,hjn,HK⟩:=hrel;have hij:=HK.out.1.lt;have hln:zs.length=N:=HK.out.1.len.trans HN.out.1.symm
   by_cases hlt:j < N
   ·
    have g3:(j:Int) < (N:Int):=by omega
    have hjx:j < xs.length:=by have:=HN.out.1;omega
    have cj:=HK.out.2.1.cellAt j (by omega)
    rw [HK.out.1.tail j (Nat.le_refl _)] at cj
    have ci:=HK.out.2.1.cellAt i (by omega);have fi:=World.ownsRow.frozenAt HK.out.2.1 i
    have hi3:(i:Int) < (N:Int):=by omega
    have hcall:=pclean_any (HP.out.by HK.out.2.2 HGP.out) (xs.getD j 0) (HX.out j hjx);obtain ⟨x,hxx⟩:∃ x,x=xs.getD j 0:=⟨_,rfl⟩;have HXX:=Lib.hid hxx
    rw [← hxx] at cj hcall
    obtain ⟨o,ho⟩:∃ o,o=zs.getD i 0:=⟨_,rfl⟩
    rw [← ho] at ci
    obtain ⟨y,hy⟩:∃ y,y=P.clean x:=⟨_,rfl⟩;have HY:=Lib.hid hy
    rw [← hy] at hcall
    have HC:=Lib.hid hcall
    have hwi:IntKind.i64.wrap ((i:Int)+1)=((i+1:Nat):Int):=by rw [IntWalk.i64_in _ (by have:=HN.out.2;omega)];omega
    have hwj:IntKind.i64.wrap ((j:Int)+1)=((j+1:Nat):Int):=by rw [IntWalk.i64_in _ (by have:=HN.out.2;omega)];omega
    clear hcall hxx hy ho
    cases y with
    | true=>
     go_wp2_with (go_at_fn 53;refine HC.out.mono ?_;rintro e w' ⟨rfl,rfl⟩)
     refine ⟨⟨i,j+1,zs,rfl,by go_num,by omega,Lib.hid ⟨HK.out.1.skip hjx ?_,HK.out.2.1,HK.out.2.2⟩⟩,by simp [intOf];omega⟩;rw [← HXX.out,← HY.out]
     rfl
    | false=>
     go_wp2_with (go_at_fn 53;refine HC.out.mono ?_;rintro e w' ⟨rfl,rfl⟩)
     have hst:=HK.out.2.1.stored i x;refine ⟨⟨i+1,j+1,zs.set i x,by go_num,by go_num,by omega,Lib.hid ⟨?_,hst.1,HK.out.2.2.trans hst.2⟩⟩,by simp [intOf];omega⟩;rw [HXX.out];refine HK.out.1.step hjx ?_;rw [← HXX.out,← HY.out]
     rfl
   ·
    obtain rfl:j=N:=by omega
    have hltz:¬ (j:Int) < (j:Int):=by omega
    have hij2:(i:Int)≤(j:Int):=by omega
    have hi0:(0:Int)≤(i:Int):=by omega
    have hic:(i:Int)≤(c:Int):=by have:=HN.out.2.2;omega
    have hcl:∀ ty,(Builtin.clear_ #[55] ty #[.slice (some ⟨g,i,none⟩) (j - i) (c - i)]).run Tryz.prog wr=.ok (.tuple #[]) (wr.setCells g i (List.replicate (j - i) (.int .i64 0))):=
     fun ty=>Lib.run_clear_slice wr 55 TI ty (.int .i64 0) Tryz.underlying55 (fun w=>Tryz.zeroValue3 w) rfl rfl g i _ _ (by omega) (fun t ht=>by rw [HK.out.2.1.cellAt (i+t) (by omega)];rfl) (fun t ht=>World.ownsRow.frozenAt HK.out.2.1 (i+t))
    have hcd:=HK.out.2.1.cleared i (by omega)
    rw [hln] at hcd
    have hyy:ys=zs.take i:=by rw [HYS.out,HK.out.1.head,List.take_of_length_le (by rw [← HN.out.1];exact Nat.le_refl _)]
    have hyl:ys.length=i:=by rw [hyy,List.length_take];omega
    have HCD:=Lib.hid hcd;have HYY:=Lib.hid hyy
    have hne2:¬ (c=i):=by have:=HN.out.2.2;omega
    clear hcd hyy;go_wp2_with fail
    go_ret
    refine ⟨by first | rfl | (rw [hyl];rfl),?_,HK.out.2.2.trans HCD.out.2⟩;have h5:=HCD.out.1
    rw [← HYY.out] at h5
    first | exact h5 | (rw [hyl];exact h5)
end
end Go.Proofs.YtdmhemgepdknhaaGreat
