/-
  Texts, put together: Crc3 Crc4 Seal Sealed Rec.
-/
import Derived.Deep.DeepMust
import Derived.Test.YtdmhemgepdknhaaGreatV1
import Derived.Test.YtdmhemgepdknhaaGreatV6
import Derived.Test.YtdmhemgepdknhaaGreatV9
set_option linter.unusedVariables false
set_option linter.unusedSimpArgs false
namespace Go.Proofs.YtdmhemgepdknhaaGreat
open Go.RowKit Cr
theorem words16_zero:words 16 (fun _=>0#32)=#[.int .u32 0,.int .u32 0,.int .u32 0,.int .u32 0,.int .u32 0,.int .u32 0,.int .u32 0,.int .u32 0,.int .u32 0,.int .u32 0,.int .u32 0,.int .u32 0,.int .u32 0,.int .u32 0,.int .u32 0,.int .u32 0]:=rfl
theorem tab_join (b i:Nat) (hb:b=8∨b=4∨b=2∨b=1) (hi:i < 16) (hm:i % (2*b)=0):tab i ^^^ tab b=tab (i+b):=by
 unfold tab
 rw [← its_xor,← ofNat_xor]
 have:i ^^^ b=i+b:=by
  have h:∀ (i:Fin 16),(i.val % 16=0→i.val ^^^ 8=i.val+8)∧(i.val % 8=0→i.val ^^^ 4=i.val+4)∧(i.val % 4=0→i.val ^^^ 2=i.val+2)∧(i.val % 2=0→i.val ^^^ 1=i.val+1):=by decide
  have:=h ⟨i,hi⟩
  rcases hb with rfl | rfl | rfl | rfl
  · exact this.1 hm
  · exact this.2.1 hm
  · exact this.2.2.1 hm
  · exact this.2.2.2 hm
 rw [this]
theorem tab_half (b:Nat) (hb:b=8∨b=4∨b=2):nought (tab b)=tab (b / 2):=by
 unfold tab
 rw [show nought (its 4 (BitVec.ofNat 32 b))=its 4 (nought (BitVec.ofNat 32 b)) from its_comm 1 4 _]
 rcases hb with rfl | rfl | rfl <;> rfl
set_option maxRecDepth 100000 in
theorem halves_any (w:World):Calls Tryz.prog 160 #[] w fun e w'=>e=.returned (.agg (words 16 tab))∧Gr w w':=by
 have hg0:=((Gr.refl w).alloc (Nat.le_refl _) (.cells (words 16 fun _=>0#32) 215)).alloc (by simp) (.cells (words 16 fun _=>0#32) 215);have ha0:Blk ((w.alloc (.cells (words 16 fun _=>0#32) 215)).alloc (.cells (words 16 fun _=>0#32) 215)) w.heap.size 215 (words 16 fun _=>0#32):=(Blk.new w 215 (words 16 fun _=>0#32)).alloc _
 have hb0:Blk ((w.alloc (.cells (words 16 fun _=>0#32) 215)).alloc (.cells (words 16 fun _=>0#32) 215)) (w.heap.size+1) 215 (words 16 fun _=>0#32):=by
  have:=Blk.new (w.alloc (.cells (words 16 fun _=>0#32) 215)) 215 (words 16 fun _=>0#32)
  simpa using this
 have HA0:=Lib.hid ha0;have HB0:=Lib.hid hb0;have HG0:=Lib.hid hg0;clear ha0 hb0 hg0
 have HS:Hid (∀ f,(Tryz.prog.info? 215).map (·.size)=some (words 16 f).size):=Lib.hid fun f=>by rw [words_size];exact sz_table
 go_enter Tryz.func160,Tryz.ntmps160
 go_wp2
 rw [← words16_zero];have hb:=HB0.out;have ha:=HA0.out;have hg:=HG0.out;clear HB0 HA0 HG0
 generalize ((w.alloc (.cells (words 16 fun _=>0#32) 215)).alloc (.cells (words 16 fun _=>0#32) 215))=w0 at *
 have HA0:=Lib.hid ha;have HB0:=Lib.hid hb;have HG0:=Lib.hid hg;clear ha hb hg;have HP:(2197175160:Int)=U (tab 8):=rfl;rw [HP];clear HP
 go_loopw [2,3] (fun v m wr=>∃ (b:Nat) (s:W) (f:Nat→W),(b=8∨b=4∨b=2∨b=1∨b=0)∧m=.int .i64 b∧v=.int .u32 (U s)∧Blk wr (w.heap.size+1) 215 (words 16 f)∧Blk wr w.heap.size 215 (words 16 fun _=>0#32)∧Gr w wr∧(b≠0→s=tab b)∧(∀ j,j < 16→(b=0∨j % (2*b)=0)→f j=tab j)) (fun _ m _=>(intOf m).toNat)
 case atStart=>
  refine ⟨8,tab 8,_,.inl rfl,rfl,rfl,HB0.out,HA0.out,HG0.out,fun _=>rfl,fun j hj h=>?_⟩
  obtain rfl:j=0:=by omega
  rfl
 case round=>
  clear HA0 HB0 HG0;obtain ⟨b,s,f,hbs,rfl,rfl,hb,ha,hg,hs,hf⟩:=hrel
  by_cases h0:b=0
  ·
   subst h0;have HE:=Lib.hid (words_congr (n:=16) (fun j hj=>hf j hj (.inl rfl)));have HB:=Lib.hid hb;have HA:=Lib.hid ha;have HG:=Lib.hid hg;clear hb ha hg hs hf hbs
   go_wp2_with (first | (refine wpList_load_row rfl 215 _ rfl _ rfl _ _ _ _ HB.out Tryz.underlying215 rfl (HS.out _) ?_) | (refine wpList_store_row rfl 215 _ _ rfl _ _ rfl rfl _ _ HA.out (HS.out _) (by rw [words_size,words_size]) (words_one _ _) ?_))
   exact bodyPost_ret (v:=.agg (words 16 f)) (results_cell_row rfl _ _ _ _ _ _ _ rfl (HA.out.row (words 16 f)) Tryz.underlying215 rfl (HS.out _)) rfl ⟨by rw [HE.out],below_setRow HG.out (Nat.le_refl _) _⟩
  ·
   have hbs':b=8∨b=4∨b=2∨b=1:=by omega
   have hpos:0 < b:=by omega
   have hb8:b≤8:=by omega
   obtain rfl:=hs h0;have HB:=Lib.hid hb;have HA:=Lib.hid ha;have HG:=Lib.hid hg;have HF:=Lib.hid hf;have HBS:=Lib.hid hbs';clear hb ha hg hs hf hbs hbs' h0
   go_wp2
   obtain ⟨wo,rfl⟩:∃ wo:World,wo=wr:=⟨_,rfl⟩
   go_loopw [4] (fun i wr=>∃ (k:Nat) (f:Nat→W),k≤16∧k % (2*b)=0∧i=.int .i64 k∧Blk wr (w.heap.size+1) 215 (words 16 f)∧Blk wr w.heap.size 215 (words 16 fun _=>0#32)∧Gr w wr∧(∀ j,j < 16→j % (2*b)=0→f j=tab j)∧(∀ j,j < k→j % b=0→f j=tab j)) (fun i _=>16 - (intOf i).toNat)
   case atStart=>exact ⟨0,f,by omega,Nat.zero_mod _,rfl,HB.out,HA.out,HG.out,fun j hj h=>HF.out j hj (.inr h),fun j h=>by omega⟩
   case round=>
    clear HB HA HG HF;obtain ⟨k,f,hk,hkm,rfl,hb,ha,hg,hf,hf2⟩:=hrel;have HB:=Lib.hid hb;have HA:=Lib.hid ha;have HG:=Lib.hid hg;have HF:=Lib.hid hf;have HF2:=Lib.hid hf2;clear hb ha hg hf hf2
    by_cases hlt:k < 16
    ·
     have hkb:k+2*b≤16∧(k+2*b) % (2*b)=0:=by rcases HBS.out with rfl | rfl | rfl | rfl <;> omega
     obtain ⟨hk1,hk2⟩:=hkb;have HJ:=Lib.hid (tab_join b k HBS.out hlt hkm);have HK:Hid (f k=tab k):=Lib.hid (HF.out k hlt hkm);have hc1:=(HB.out.cell k).trans (words_get f hlt);have hc2:=(HB.out.cell (k+b)).trans (words_get f (by omega));have hfr:=HB.out.frozen (k+b);have HM:=Lib.hid hkm;have HM2:=Lib.hid hk2;clear hkm hk2;have HV:=Lib.hid (U_xor (f k) (tab b))
     go_wp2
     go_roundw
     case rel=>
      refine ⟨k+2*b,put f (k+b) (tab (k+b)),hk1,HM2.out,by go_num,?_,HA.out.far (by simp) _,HG.out.setCell (by simp) _,?_,?_⟩
      · rw [← words_put,← HJ.out,← HK.out,← HV.out];exact HB.out.set _ _
      ·
       intro j hj hm
       unfold put
       split
       · rename_i e;rw [e]
       · exact HF.out j hj hm
      ·
       intro j hj hm
       unfold put
       split
       · rename_i e;rw [e]
       ·
        rename_i e
        by_cases hjk:j < k
        · exact HF2.out j hjk hm
        ·
         have hjm:j % (2*b)=0:=by
          have h1:=HM.out
          rcases HBS.out with rfl | rfl | rfl | rfl <;> omega
         exact HF.out j (by omega) hjm
     case measure=>simp [intOf];omega
    ·
     obtain rfl:k=16:=by omega
     have HM:=Lib.hid hkm;clear hkm;go_wp2_with fail;refine (nought_any _ _).mono ?_;rintro e w' ⟨rfl,rfl⟩
     by_cases h1:b=1
     ·
      subst h1
      go_wp2
      go_roundw
      case rel=>exact ⟨0,nought (tab 1),f,by omega,rfl,rfl,HB.out,HA.out,HG.out,fun h=>absurd rfl h,fun j hj _=>HF2.out j hj (Nat.mod_one j)⟩
      case measure=>simp [intOf]
     ·
      have HT:=Lib.hid (tab_half b (by have:=HBS.out;omega))
      have hb2:b / 2=4∨b / 2=2∨b / 2=1:=by have:=HBS.out;omega
      have hb22:2*(b / 2)=b:=by have:=HBS.out;omega
      have HB2:=Lib.hid hb2;have HB22:=Lib.hid hb22;clear hb2 hb22
      go_wp2
      go_roundw
      case rel=>
       refine ⟨b / 2,nought (tab b),f,by have:=HB2.out;omega,by go_num,rfl,HB.out,HA.out,HG.out,fun _=>HT.out,fun j hj h=>HF2.out j hj ?_⟩;have h2:=HB22.out;have h3:=HB2.out
       rcases h with h | h
       · omega
       · rw [h2] at h;exact h
      case measure=>simp [intOf];omega
theorem enc_div (n k:Nat):n / 256 ^ k / 256=n / 256 ^ (k+1):=by rw [Nat.pow_succ,Nat.div_div_eq_div_mul]
def overs (s:W) (xss:List (List Int)):W:=xss.foldl over s
theorem overs_flat:∀ (xss:List (List Int)) (s:W),overs s xss=over s xss.flatten
 | [],_=>rfl
 | x :: r,s=>by rw [List.flatten_cons,over_app,← overs_flat r];rfl
theorem overs_take (s:W) (xss:List (List Int)) (k:Nat) (h:k < xss.length):overs s (xss.take (k+1))=over (overs s (xss.take k)) (xss.getD k []):=by
 rw [List.take_succ_eq_append_getElem h]
 unfold overs
 rw [List.foldl_append]
 simp [List.getD,h]
theorem and15w (s:W):bits BinOp.and IntKind.u32 (U s) 15=((s.toNat % 16:Nat):Int):=by
 have h:=u32_and_nat s.toNat 15 s.isLt (by omega);have e:s.toNat &&& 15=s.toNat % 16:=Nat.and_two_pow_sub_one_eq_mod s.toNat 4
 rw [e] at h
 exact h
theorem half_spell (s:W):bits BinOp.xor IntKind.u32 (U s / 16) (U (tab (s.toNat % 16)))=U (its 4 s):=by
 show bits BinOp.xor IntKind.u32 (Int.ediv (U s) 16) _=_
 rw [U_half4,U_xor,half]
theorem byte_spell (s:W) (x:Int) (h0:0≤x) (h1:x < 4294967296):bits BinOp.xor IntKind.u32 (U s) x=U (s ^^^ BitVec.ofNat 32 x.toNat):=by
 rw [← U_xor,U_of x h0 h1]
set_option maxRecDepth 100000 in
set_option maxHeartbeats 400000 in
theorem over_any (s:W) (p:Option Addr) (n c:Nat) (xss:List (List Int)) (w:World) (h:Rows w p n c xss):Calls Tryz.prog 139 #[.int .u32 (U s),.slice p n c] w fun e w'=>e=.returned (.int .u32 (U (overs s xss)))∧Gr w w':=by
 have HLen:=Lib.hid h.len
 have hn63:n≤9223372036854775807:=by have:=h.cap;have:=h.most;unfold maxLen at this;omega
 have HH:=Lib.hid h;clear h
 have HS:Hid (∀ f,(Tryz.prog.info? 215).map (·.size)=some (words 16 f).size):=Lib.hid fun f=>by rw [words_size];exact sz_table
 go_enter Tryz.func139,Tryz.ntmps139
 go_wp2_with fail;refine (halves_any _).mono ?_;rintro e w1 ⟨rfl,g1⟩;have ha:=Blk.new w1 215 (words 16 fun _=>0#32);have hg:=g1.alloc g1.size (.cells (words 16 fun _=>0#32) 215);have hg2:=below_setRow hg (show w.heap.size≤w1.heap.size from g1.size) (words 16 tab);have hb:=ha.row (words 16 tab);have HC:=Lib.hid (show (words 16 fun _=>0#32).size=(words 16 tab).size by rw [words_size,words_size]);have hl:=ha
 rw [words16_zero] at hl hg2 hb HC
 have HA:=Lib.hid hl;have HB:=Lib.hid hb;have HG:=Lib.hid hg2;clear ha hg hl hg2 hb g1
 go_wp2_with (refine wpList_store_row rfl 215 _ _ rfl _ _ rfl rfl _ _ HA.out (HS.out _) HC.out (words_one _ _) ?_)
 have hb:=HB.out;have hg:=HG.out;clear HA HB HG HC
 rw [← words16_zero] at *
 obtain ⟨b,hbz⟩:∃ b,b=w1.heap.size:=⟨_,rfl⟩
 generalize (w1.alloc (.cells (words 16 fun _=>0#32) 215)).setRow w1.heap.size (words 16 tab)=w0 at *
 rw [← hbz] at hb ⊢
 have HB:=Lib.hid hb;have HG:=Lib.hid hg;have HH0:=Lib.hid (HH.out.kept hg);clear hb hg hbz HH
 go_loop [0,14] (fun v i=>∃ k:Nat,k≤n∧i=.int .i64 k∧v=.int .u32 (U (overs s (xss.take k)))) (fun _ i=>n - (intOf i).toNat)
 case atStart=>exact ⟨0,Nat.zero_le _,rfl,rfl⟩
 case round=>
  obtain ⟨k,hk,rfl,rfl⟩:=hrel
  by_cases hlt:k < n
  ·
   obtain ⟨bl,o,rfl,hc⟩:=HH0.out.lies (by omega);obtain ⟨q,m,d,hcell,hby⟩:=hc k hlt
   have hm63:m≤9223372036854775807:=by have:=hby.cap;have:=hby.most;unfold maxLen at this;omega
   have HO:=Lib.hid (overs_take s xss k (by rw [HLen.out];exact hlt))
   have HY:=Lib.hid hby
   clear hc hby
   obtain ⟨ys,hys⟩:∃ ys,ys=xss.getD k []:=⟨_,rfl⟩
   rw [← hys] at HO HY
   clear hys;obtain ⟨S,hS⟩:∃ S,S=overs s (xss.take k):=⟨_,rfl⟩
   rw [← hS] at HO ⊢
   clear hS
   go_wp2
   go_loop [0,20] (fun v i=>∃ j:Nat,j≤m∧i=.int .i64 j∧v=.int .u32 (U (over S (ys.take j)))) (fun _ i=>m - (intOf i).toNat)
   case atStart=>exact ⟨0,Nat.zero_le _,rfl,rfl⟩
   case round=>
    obtain ⟨j,hj,rfl,rfl⟩:=hrel
    by_cases hjl:j < m
    ·
     obtain ⟨b2,o2,rfl,hc2⟩:=HY.out.at (by omega)
     have hbyte:=hc2 j hjl;obtain ⟨x0,x1⟩:=HY.out.small.getD j;have HP:=Lib.hid (over_take S ys j (by rw [HY.out.len];exact hjl));clear hc2;obtain ⟨x,hx⟩:∃ x,x=ys.getD j 0:=⟨_,rfl⟩
     rw [← hx] at HP hbyte x0 x1
     clear hx;obtain ⟨T,hT⟩:∃ T,T=over S (ys.take j):=⟨_,rfl⟩
     rw [← hT] at HP ⊢
     clear hT;have HX:=Lib.hid (byte_spell T x x0 (by omega))
     go_wp2
     rw [HX.out]
     go_loop [0,28] (fun v i=>∃ r:Nat,r≤2∧i=.int .i64 r∧v=.int .u32 (U (its (4*r) (T ^^^ BitVec.ofNat 32 x.toNat)))) (fun _ i=>2 - (intOf i).toNat)
     case atStart=>exact ⟨0,Nat.zero_le _,rfl,rfl⟩
     case round=>
      obtain ⟨r,hr,rfl,rfl⟩:=hrel;obtain ⟨R,hR⟩:∃ R,R=its (4*r) (T ^^^ BitVec.ofNat 32 x.toNat):=⟨_,rfl⟩
      by_cases hrl:r < 2
      ·
       have HR:Hid (its 4 R=its (4*(r+1)) (T ^^^ BitVec.ofNat 32 x.toNat)):=Lib.hid (by rw [hR,← its_add];congr 1);rw [← hR];clear hR;have hand:=and15w R;have HV:=Lib.hid (half_spell R);have hcl:=(HB.out.cell (R.toNat % 16)).trans (words_get tab (by omega))
       have hql:R.toNat % 16 < 16:=by omega
       obtain ⟨h,hh⟩:∃ h,h=R.toNat % 16:=⟨_,rfl⟩
       rw [← hh] at hand HV hcl hql
       clear hh
       go_wp2
       go_round
       case rel=>exact ⟨r+1,by omega,by go_num,ret_v (by rw [HV.out,HR.out])⟩
       case measure=>simp [intOf];omega
      ·
       obtain rfl:r=2:=by omega
       have HE:Hid (over S (ys.take (j+1))=R):=Lib.hid (by rw [HP.out,byte_half,← its_add];exact hR.symm);rw [← hR];clear hR
       go_wp2
       go_round
       case rel=>exact ⟨j+1,by omega,by go_num,ret_v (by rw [HE.out])⟩
       case measure=>simp [intOf];omega
    ·
     obtain rfl:j=m:=by omega
     have HE:Hid (overs s (xss.take (k+1))=over S (ys.take j)):=Lib.hid (by rw [HO.out,List.take_of_length_le (by rw [HY.out.len];exact Nat.le_refl _)])
     go_wp2
     go_round
     case rel=>exact ⟨k+1,by omega,by go_num,ret_v (by rw [HE.out])⟩
     case measure=>simp [intOf];omega
  ·
   obtain rfl:k=n:=by omega
   have HE:Hid (overs s (xss.take k)=overs s xss):=Lib.hid (by rw [List.take_of_length_le (by rw [HLen.out];exact Nat.le_refl _)])
   go_wp2
   go_ret
   exact ⟨ret_i (by rw [HE.out]),HG.out⟩
theorem enc_put (n k:Nat) (h:k < 8):((Wd.enc k n++List.replicate (8 - k) 0).map (Value.int .u8)).toArray.setIfInBounds k (.int .u8 ((n / 256 ^ k % 256:Nat):Int))=((Wd.enc (k+1) n++List.replicate (8 - (k+1)) 0).map (Value.int .u8)).toArray:=by
 rw [List.setIfInBounds_toArray,Wd.enc_snoc,show 8 - k=(8 - (k+1))+1 by omega,List.replicate_succ]
 congr 1
 have hl:=Wd.enc_length k n
 simp only [List.map_append,List.map_cons,List.append_assoc,List.cons_append,List.nil_append]
 rw [List.set_append_right _ _ (by simp [hl])]
 simp [hl]
set_option maxRecDepth 100000 in
theorem eight_any (n:Nat) (w:World) (hn:n≤18446744073709551615):Calls Tryz.prog 140 #[.int .u64 n] w (RetByte (Wd.enc 8 n) w):=by
 have hb0:Blk (w.alloc (.cells #[.int .u8 0,.int .u8 0,.int .u8 0,.int .u8 0,.int .u8 0,.int .u8 0,.int .u8 0,.int .u8 0] 217)) w.heap.size 217 ((Wd.enc 0 n++List.replicate 8 0).map (Value.int .u8)).toArray:=Blk.new _ _ _;have hg0:=(Gr.refl w).alloc (Nat.le_refl _) (.cells #[.int .u8 0,.int .u8 0,.int .u8 0,.int .u8 0,.int .u8 0,.int .u8 0,.int .u8 0,.int .u8 0] 217);have HB0:=Lib.hid hb0;have HG0:=Lib.hid hg0;clear hb0 hg0
 go_enter Tryz.func140,Tryz.ntmps140
 go_wp2
 go_loopw [0,5] (fun v i wr=>∃ k:Nat,k≤8∧i=.int .i64 k∧v=.int .u64 ((n / 256 ^ k:Nat):Int)∧Blk wr w.heap.size 217 ((Wd.enc k n++List.replicate (8 - k) 0).map (Value.int .u8)).toArray∧Gr w wr) (fun _ i _=>8 - (intOf i).toNat)
 case atStart=>exact ⟨0,Nat.zero_le _,rfl,by simp,HB0.out,HG0.out⟩
 case round=>
  clear HB0 HG0;obtain ⟨k,hk,rfl,rfl,hb,hg⟩:=hrel;have HB:=Lib.hid hb;have HG:=Lib.hid hg;clear hb hg
  by_cases hlt:k < 8
  ·
   have HD:=Lib.hid (enc_div n k);have HU:=Lib.hid (enc_put n k hlt);have hl:Hid ((((Wd.enc k n++List.replicate (8 - k) 0).map (Value.int .u8)).toArray).size=8):=Lib.hid (by simp [Wd.enc_length];omega);obtain ⟨u,hu⟩:∃ u,((Wd.enc k n++List.replicate (8 - k) 0).map (Value.int .u8)).toArray[k]?=some u:=⟨_,Array.getElem?_eq_getElem (by rw [hl.out];exact hlt)⟩;have hcell:=(HB.out.cell k).trans hu;have hfr:=HB.out.frozen k;clear hu;have hmx:n / 256 ^ k≤18446744073709551615:=Nat.le_trans (Nat.div_le_self _ _) hn;obtain ⟨m,hm⟩:∃ m,m=n / 256 ^ k:=⟨_,rfl⟩
   rw [← hm] at HD HU hmx ⊢
   clear hm
   go_wp2
   go_roundw
   case rel=>exact ⟨k+1,by omega,by go_num,by rw [← HD.out];rfl,by rw [← HU.out];exact HB.out.set _ _,HG.out.setCell (by simp) _⟩
   case measure=>simp [intOf];omega
  ·
   obtain rfl:k=8:=by omega
   go_wp2
   go_ret
   refine ⟨_,_,_,rfl,?_,HG.out,fun a h=>by cases h;exact Nat.le_refl _⟩;refine ⟨Wd.enc_length 8 n,Nat.le_refl _,by simp only [maxLen];omega,fun _=>⟨_,0,rfl,fun i hi=>?_⟩,(fun h=>by cases h),Wd.enc_small 8 n⟩;rw [Nat.zero_add,HB.out.cell i];have hl:=Wd.enc_length 8 n
   simp [List.getD,hl,hi]
end Go.Proofs.YtdmhemgepdknhaaGreat
namespace Go.Proofs.YtdmhemgepdknhaaGreat
open Go.RowKit Cr
def ones:W:=4294967295#32
theorem U_ones:U ones=4294967295:=rfl
def sumW (l:List Int):W := ~~~(over ones l)
theorem not_spell (s:W):bits BinOp.xor IntKind.u32 IntKind.u32.max (U s)=U (~~~s):=by
 rw [show IntKind.u32.max=U ones from rfl,U_xor,show ones=BitVec.allOnes 32 from rfl,BitVec.allOnes_xor]
theorem Rows.one {w W':World} {t:TypeId} {p:Option Addr} {n c:Nat} {x:List Int} (h:Byt w p n c x) (hW:W'.heap=(w.alloc (.cells #[.slice p n c] t)).heap):Rows W' (some ⟨w.heap.size,0,none⟩) 1 1 [x]:=by
 have hg:=(Below.refl w.heap.size w).alloc (Nat.le_refl _) (.cells #[.slice p n c] t);have g1:=(h.kept hg).heap hW
 have hc:∀ i,W'.cell? ⟨w.heap.size,i,none⟩=(#[.slice p n c]:Array Value)[i]?:=fun i=>by
  rw [← World.cell?_alloc_at (w:=w) #[.slice p n c] t w.heap.size i rfl];exact World.cell?_of_block (w:=w.alloc _) (by rw [hW])
 refine ⟨rfl,Nat.le_refl _,by simp only [maxLen];omega,fun _=>⟨_,0,rfl,fun i hi=>?_⟩,fun h=>by cases h⟩
 obtain rfl:i=0:=by omega
 exact ⟨p,n,c,hc 0,g1⟩
theorem Rows.two {w W':World} {t:TypeId} {p1 p2:Option Addr} {n1 n2 c1 c2:Nat} {x1 x2:List Int} (h1:Byt w p1 n1 c1 x1) (h2:Byt w p2 n2 c2 x2) (hW:W'.heap=(w.alloc (.cells #[.slice p1 n1 c1,.slice p2 n2 c2] t)).heap):Rows W' (some ⟨w.heap.size,0,none⟩) 2 2 [x1,x2]:=by
 have hg:=(Below.refl w.heap.size w).alloc (Nat.le_refl _) (.cells #[.slice p1 n1 c1,.slice p2 n2 c2] t);have g1:=(h1.kept hg).heap hW;have g2:=(h2.kept hg).heap hW
 have hc:∀ i,W'.cell? ⟨w.heap.size,i,none⟩=(#[.slice p1 n1 c1,.slice p2 n2 c2]:Array Value)[i]?:=fun i=>by
  rw [← World.cell?_alloc_at (w:=w) #[.slice p1 n1 c1,.slice p2 n2 c2] t w.heap.size i rfl];exact World.cell?_of_block (w:=w.alloc _) (by rw [hW])
 refine ⟨rfl,Nat.le_refl _,by simp only [maxLen];omega,fun _=>⟨_,0,rfl,fun i hi=>?_⟩,fun h=>by cases h⟩
 have:i=0∨i=1:=by omega
 rcases this with rfl | rfl
 · exact ⟨p1,n1,c1,hc 0,g1⟩
 · exact ⟨p2,n2,c2,hc 1,g2⟩
set_option maxRecDepth 100000 in
theorem sum_any (p:Option Addr) (n c:Nat) (xss:List (List Int)) (w:World) (h:Rows w p n c xss):Calls Tryz.prog 128 #[.slice p n c] w fun e w'=>e=.returned (.int .u32 (U (sumW xss.flatten)))∧Gr w w':=by
 have HH:=Lib.hid h;clear h;have hf:overs ones xss=over ones xss.flatten:=overs_flat xss ones;have HF:=Lib.hid hf;clear hf;have HO:=over_any ones p n c xss
 rw [U_ones] at HO
 have HO:=Lib.hid HO
 go_enter Tryz.func128,Tryz.ntmps128
 go_wp2_with fail;refine (HO.out _ HH.out).mono ?_;rintro e w1 ⟨rfl,g1⟩;have HG:=Lib.hid g1;clear g1 HO
 go_wp2
 go_ret
 exact ⟨ret_i (by rw [HF.out];exact not_spell _),HG.out⟩
set_option maxRecDepth 100000 in
theorem at_crc (m:Nat) (p:Option Addr) (n c:Nat) (xss:List (List Int)) (w:World) (hm:m≤18446744073709551615) (h:Rows w p n c xss):Calls Tryz.prog 111 #[.int .u64 m,.slice p n c] w fun e w'=>e=.returned (.int .u32 (U (sumW (Wd.enc 8 m++xss.flatten))))∧Gr w w':=by
 have HH:=Lib.hid h;clear h
 have hf:overs (over ones (Wd.enc 8 m)) xss=over ones (Wd.enc 8 m++xss.flatten):=by rw [overs_flat,over_app]
 have HF:=Lib.hid hf;clear hf
 have HO:=fun q k d ys=>over_any ones q k d ys
 rw [U_ones] at HO
 have HO:=Lib.hid HO
 go_enter Tryz.func111,Tryz.ntmps111
 go_wp2_with fail;refine (eight_any _ _ hm).mono ?_;rintro e w1 ⟨p1,n1,c1,rfl,hb1,g1,_⟩;have HR:=Lib.hid (Rows.one (t:=31) hb1 rfl);have HG:=Lib.hid (g1.alloc g1.size (.cells #[.slice p1 n1 c1] 31));clear hb1 g1;go_wp2_with fail;refine (HO.out _ _ _ _ _ HR.out).mono ?_;rintro e w2 ⟨rfl,g2⟩;have HG2:=Lib.hid (Gr.trans HG.out g2);have HH2:=Lib.hid (HH.out.kept HG2.out);clear g2 HG HR HO HH;go_wp2_with fail;refine (over_any _ _ _ _ _ _ HH2.out).mono ?_;rintro e w3 ⟨rfl,g3⟩;have HG3:=Lib.hid (HG2.out.trans g3);clear g3 HG2 HH2
 go_wp2
 go_ret
 exact ⟨ret_i (by have e:overs ones [Wd.enc 8 m]=over ones (Wd.enc 8 m):=rfl;rw [e,HF.out];exact not_spell _),HG3.out⟩
end Go.Proofs.YtdmhemgepdknhaaGreat
namespace Go.Proofs.YtdmhemgepdknhaaGreat
open Go.RowKit Cr

end Go.Proofs.YtdmhemgepdknhaaGreat
namespace Go.Proofs.YtdmhemgepdknhaaGreat
open Go.RowKit Cr
def padTo (n:Nat) (ys:List Int):List Int:=ys++List.replicate (n - ys.length) 0
theorem padTo_len {n:Nat} {ys:List Int} (h:ys.length≤n):(padTo n ys).length=n:=by simp [padTo];omega
theorem padTo_small {n:Nat} {ys:List Int} (h:Wd.Small ys):Wd.Small (padTo n ys):=h.app fun x hx=>by rw [List.mem_replicate] at hx;omega
theorem Blk.other {w:World} {g r:Nat} {t:TypeId} {cs cs':Array Value} (h:Blk w g t cs) (hne:g≠r):Blk (w.setRow r cs') g t cs:=(setRow_other w r g cs' hne).trans h
end Go.Proofs.YtdmhemgepdknhaaGreat
namespace Go.Proofs.YtdmhemgepdknhaaGreat
open Cr
structure Rc where
 k:Int
 t:Nat
 p:Nat
 x:Nat
 g:Int
 o:Int
 b:List Int
 a:List Int
structure Rc.In (r:Rc):Prop where
 t:r.t≤18446744073709551615
 p:r.p≤18446744073709551615
 x:r.x≤18446744073709551615
 b:Wd.Small r.b
 a:Wd.Small r.a
def Rc.nil:Rc:=⟨0,0,0,0,0,0,[],[]⟩
def sameR (c d:Rc):Bool:=decide (c.k=d.k∧c.t=d.t∧c.p=d.p∧c.x=d.x∧c.g=d.g∧c.o=d.o∧c.b=d.b∧c.a=d.a)
def fitR (g o:Int) (na:Nat):Bool:=decide (0≤g∧g < 4096∧1≤na∧0≤o∧o+na≤248)
def mayQ (k:Int) (t x:Nat) (g o:Int) (nb na:Nat):Bool:=
 decide (t≠0) && ((decide (k=1∧x=0∧nb=na) && fitR g o na) || (decide (k=2∧nb=0) && fitR g o na) || decide ((k=3∨k=4)∧x=0∧g=0∧o=0∧nb=0∧na=0))
def mayR (r:Rc):Bool:=mayQ r.k r.t r.x r.g r.o r.b.length r.a.length
theorem mayQ_iff {k:Int} {t x:Nat} {g o:Int} {nb na:Nat}:mayQ k t x g o nb na=true ↔ t≠0∧((k=1∧x=0∧nb=na∧0≤g∧g < 4096∧1≤na∧0≤o∧o+na≤248)∨(k=2∧nb=0∧0≤g∧g < 4096∧1≤na∧0≤o∧o+na≤248)∨((k=3∨k=4)∧x=0∧g=0∧o=0∧nb=0∧na=0)):=by
 simp [mayQ,fitR]
 omega
structure Rc.Fits (r:Rc):Prop where
 k0:1≤r.k
 k1:r.k≤4
 g0:0≤r.g
 g1:r.g < 4096
 o0:0≤r.o
 o1:r.o≤247
 na:r.a.length≤248
 nb:r.b.length=if r.k=1 then r.a.length else 0
theorem mayR_fits {r:Rc} (h:mayR r=true):r.Fits:=by
 have h2:=mayQ_iff.1 h;obtain ⟨h3,h4⟩:=h2;refine ⟨by omega,by omega,by omega,by omega,by omega,by omega,by omega,?_⟩
 split <;> omega
theorem Rc.Fits.nb1 {r:Rc} (h:r.Fits):r.b.length≤248:=by
 have h1:=h.nb;have h2:=h.na
 split at h1 <;> omega
def rows9 (r:Rc):List (List Int):=[Wd.enc 1 r.k.toNat,Wd.enc 8 r.t,Wd.enc 8 r.p,Wd.enc 8 r.x,Wd.enc 2 r.g.toNat,Wd.enc 1 r.o.toNat,Wd.enc 1 r.a.length,r.b,r.a]
def bodyL (r:Rc):List Int:=(rows9 r).flatten
theorem bodyL_len (r:Rc):(bodyL r).length=29+r.b.length+r.a.length:=by
 simp [bodyL,rows9,Wd.enc_length];omega
def sizeL (r:Rc):List Int:=Wd.enc 2 (29+r.b.length+r.a.length)
def sumL (r:Rc) (at':Nat):W:=sumW (Wd.enc 8 at'++(sizeL r++bodyL r))
def recL (r:Rc) (at':Nat):List Int:=sizeL r++(Wd.enc 4 (sumL r at').toNat++bodyL r)
theorem recL_len (r:Rc) (at':Nat):(recL r at').length=35+r.b.length+r.a.length:=by
 simp [recL,sizeL,Wd.enc_length,bodyL_len];omega
theorem rows9_small {r:Rc} (h:r.In):Wd.Small (bodyL r):=by
 unfold bodyL rows9
 simp only [List.flatten_cons,List.flatten_nil,List.append_nil]
 exact (Wd.enc_small _ _).app ((Wd.enc_small _ _).app ((Wd.enc_small _ _).app ((Wd.enc_small _ _).app ((Wd.enc_small _ _).app ((Wd.enc_small _ _).app ((Wd.enc_small _ _).app (h.b.app h.a)))))))
theorem recL_small {r:Rc} (h:r.In) (at':Nat):Wd.Small (recL r at'):=by
 unfold recL sizeL
 exact (Wd.enc_small _ _).app ((Wd.enc_small _ _).app (rows9_small h))
def cand (xs:List Int):Rc:=
 { k:=(atR xs 6 1:Nat),t:=atR xs 7 8,p:=atR xs 15 8,x:=atR xs 23 8,g:=(atR xs 31 2:Nat),o:=(atR xs 33 1:Nat),b:=(xs.drop 35).take (if atR xs 6 1=1 then atR xs 34 1 else 0),a:=(xs.drop (35+(if atR xs 6 1=1 then atR xs 34 1 else 0))).take (atR xs 34 1) }
def preB (xs ys:List Int):Bool:=decide (xs.take ys.length=ys)
def ofB (xs:List Int) (at':Nat):Bool:=mayR (cand xs) && preB xs (recL (cand xs) at')
def ofR (xs:List Int) (at':Nat):Rc:=if ofB xs at' then cand xs else Rc.nil
def ofN (xs:List Int) (at':Nat):Nat:=if ofB xs at' then (recL (cand xs) at').length else 0
theorem preB_iff {xs ys:List Int}:preB xs ys=true ↔ xs.take ys.length=ys:=by simp [preB]
theorem preB_app (ys zs:List Int):preB (ys++zs) ys=true:=by simp [preB]
theorem atR_mid (A B:List Int) (k n:Nat) (h1:1≤k) (h8:k≤8):atR (A++(Wd.enc k n++B)) A.length k=n % 256 ^ k:=by
 have hs:standsB (A++(Wd.enc k n++B)).length (A.length:Int) (k:Int)=true:=by
  rw [standsB_iff]
  simp [Wd.enc_length]
  omega
 unfold atR sub
 rw [hs]
 simp only [if_true,Int.toNat_natCast]
 rw [List.drop_left' rfl,List.take_left' (Wd.enc_length _ _),Wd.dec_enc]
theorem atR_mid' {xs A B:List Int} {k n:Nat} {f s:Int} (e:xs=A++(Wd.enc k n++B)) (hf:f=A.length) (hs:s=k) (h1:1≤k) (h8:k≤8):atR xs f s=n % 256 ^ k:=by
 subst e hf hs;exact atR_mid A B k n h1 h8
theorem atR_lt (xs:List Int) (hx:Wd.Small xs) (f:Int) (k:Nat) (_:k≤8):atR xs f k < 256 ^ k:=by
 unfold atR
 split
 ·
  unfold sub
  rw [Int.toNat_natCast];have h1:=Wd.dec_lt _ ((hx.drop f.toNat).take k)
  have h2:((xs.drop f.toNat).take k).length≤k:=by simp;omega
  exact Nat.lt_of_lt_of_le h1 (Nat.pow_le_pow_right (by omega) h2)
 · exact Nat.pow_pos (by omega)
theorem cand_in (xs:List Int) (hx:Wd.Small xs):(cand xs).In:=by
 have h8:∀ f,atR xs f 8 < 256 ^ 8:=fun f=>atR_lt xs hx f 8 (by omega)
 refine ⟨?_,?_,?_,(hx.drop _).take _,(hx.drop _).take _⟩
 · have:=h8 7;simp only [cand];omega
 · have:=h8 15;simp only [cand];omega
 · have:=h8 23;simp only [cand];omega
theorem cand_rec {r:Rc} (hm:mayR r=true) (hi:r.In) (at':Nat) (rest:List Int):cand (recL r at'++rest)=r:=by
 have hf:=mayR_fits hm;obtain ⟨k,t,p,x,g,o,b,a⟩:=r;have f1:=hf.k0;have f2:=hf.k1;have f3:=hf.g0;have f4:=hf.g1;have f5:=hf.o0;have f6:=hf.o1;have f7:=hf.na;have f8:=hf.nb;have f9:=hf.nb1;have i1:=hi.t;have i2:=hi.p;have i3:=hi.x
 simp only at f1 f2 f3 f4 f5 f6 f7 f8 f9 i1 i2 i3
 obtain ⟨S,hS⟩:∃ S,S=Wd.enc 2 (29+b.length+a.length):=⟨_,rfl⟩;obtain ⟨M,hM⟩:∃ M,M=Wd.enc 4 (sumL ⟨k,t,p,x,g,o,b,a⟩ at').toNat:=⟨_,rfl⟩
 have lS:S.length=2:=by rw [hS];exact Wd.enc_length _ _
 have lM:M.length=4:=by rw [hM];exact Wd.enc_length _ _
 have e:recL ⟨k,t,p,x,g,o,b,a⟩ at'++rest=S++(M++(Wd.enc 1 k.toNat++(Wd.enc 8 t++(Wd.enc 8 p++(Wd.enc 8 x++(Wd.enc 2 g.toNat++(Wd.enc 1 o.toNat++(Wd.enc 1 a.length++(b++(a++rest)))))))))):=by
  unfold recL sizeL
  rw [← hM,← hS]
  simp [bodyL,rows9]
 rw [e];clear hS hM e hm;have lE:∀ j n,(Wd.enc j n).length=j:=Wd.enc_length;obtain ⟨X,hX⟩:∃ X,X=S++(M++(Wd.enc 1 k.toNat++(Wd.enc 8 t++(Wd.enc 8 p++(Wd.enc 8 x++(Wd.enc 2 g.toNat++(Wd.enc 1 o.toNat++(Wd.enc 1 a.length++(b++(a++rest)))))))))):=⟨_,rfl⟩;rw [← hX]
 have e1:atR X 6 1=k.toNat:=by
  refine (atR_mid' (A:=S++M) (k:=1) (n:=k.toNat) (by rw [hX];simp only [List.append_assoc];rfl) (by simp [lS,lM]) rfl (by omega) (by omega)).trans ?_
  omega
 have e2:atR X 7 8=t:=by
  refine (atR_mid' (A:=S++(M++Wd.enc 1 k.toNat)) (k:=8) (n:=t) (by rw [hX];simp only [List.append_assoc];rfl) (by simp [lS,lM,lE]) rfl (by omega) (by omega)).trans ?_;exact Nat.mod_eq_of_lt (by omega)
 have e3:atR X 15 8=p:=by
  refine (atR_mid' (A:=S++(M++(Wd.enc 1 k.toNat++Wd.enc 8 t))) (k:=8) (n:=p) (by rw [hX];simp only [List.append_assoc];rfl) (by simp [lS,lM,lE]) rfl (by omega) (by omega)).trans ?_;exact Nat.mod_eq_of_lt (by omega)
 have e4:atR X 23 8=x:=by
  refine (atR_mid' (A:=S++(M++(Wd.enc 1 k.toNat++(Wd.enc 8 t++Wd.enc 8 p)))) (k:=8) (n:=x) (by rw [hX];simp only [List.append_assoc];rfl) (by simp [lS,lM,lE]) rfl (by omega) (by omega)).trans ?_;exact Nat.mod_eq_of_lt (by omega)
 have e5:atR X 31 2=g.toNat:=by
  refine (atR_mid' (A:=S++(M++(Wd.enc 1 k.toNat++(Wd.enc 8 t++(Wd.enc 8 p++Wd.enc 8 x))))) (k:=2) (n:=g.toNat) (by rw [hX];simp only [List.append_assoc];rfl) (by simp [lS,lM,lE]) rfl (by omega) (by omega)).trans ?_;exact Nat.mod_eq_of_lt (by omega)
 have e6:atR X 33 1=o.toNat:=by
  refine (atR_mid' (A:=S++(M++(Wd.enc 1 k.toNat++(Wd.enc 8 t++(Wd.enc 8 p++(Wd.enc 8 x++Wd.enc 2 g.toNat)))))) (k:=1) (n:=o.toNat) (by rw [hX];simp only [List.append_assoc];rfl) (by simp [lS,lM,lE]) rfl (by omega) (by omega)).trans ?_;exact Nat.mod_eq_of_lt (by omega)
 have e7:atR X 34 1=a.length:=by
  refine (atR_mid' (A:=S++(M++(Wd.enc 1 k.toNat++(Wd.enc 8 t++(Wd.enc 8 p++(Wd.enc 8 x++(Wd.enc 2 g.toNat++Wd.enc 1 o.toNat))))))) (k:=1) (n:=a.length) (by rw [hX];simp only [List.append_assoc];rfl) (by simp [lS,lM,lE]) rfl (by omega) (by omega)).trans ?_;exact Nat.mod_eq_of_lt (by omega)
 have e8:X.drop 35=b++(a++rest):=by
  have:X=(S++(M++(Wd.enc 1 k.toNat++(Wd.enc 8 t++(Wd.enc 8 p++(Wd.enc 8 x++(Wd.enc 2 g.toNat++(Wd.enc 1 o.toNat++Wd.enc 1 a.length))))))))++(b++(a++rest)):=by rw [hX];simp
  rw [this];exact List.drop_left' (by simp [lS,lM,lE])
 have e9:(if k.toNat=1 then a.length else 0)=b.length:=by
  rw [f8]
  by_cases hk:k=1
  · simp [hk]
  · rw [if_neg hk,if_neg (by omega)]
 unfold cand
 simp only [e1,e2,e3,e4,e5,e6,e7,e9]
 rw [← List.drop_drop,e8,List.drop_left' rfl,List.take_left' rfl,List.take_left' rfl]
 congr 1
 · omega
 · omega
 · omega
theorem ofB_rec {r:Rc} (hm:mayR r=true) (hi:r.In) (at':Nat) (rest:List Int):ofB (recL r at'++rest) at'=true:=by
 unfold ofB
 rw [cand_rec hm hi,hm,preB_app]
 rfl
theorem ofN_rec {r:Rc} (hm:mayR r=true) (hi:r.In) (at':Nat) (rest:List Int):ofN (recL r at'++rest) at'=(recL r at').length:=by
 unfold ofN
 rw [ofB_rec hm hi,cand_rec hm hi]
 rfl
end Go.Proofs.YtdmhemgepdknhaaGreat
