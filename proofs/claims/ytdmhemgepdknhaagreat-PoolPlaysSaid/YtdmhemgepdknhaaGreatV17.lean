/-
  Texts, put together: RecSame RecBytes Wal5 RecOwn Wal6.
-/
import Derived.Maps.AppendAt
import Derived.Test.YtdmhemgepdknhaaGreatV1
import Derived.Test.YtdmhemgepdknhaaGreatV12
import Derived.Test.YtdmhemgepdknhaaGreatV15
import Derived.Test.YtdmhemgepdknhaaGreatV16
set_option linter.unusedVariables false
set_option linter.unusedSimpArgs false
namespace Go.Proofs.YtdmhemgepdknhaaGreat
open Go.RowKit Cr
theorem strEq {xs ys:List Int} (h:Wd.Small xs) (k:Wd.Small ys):((strOfNums xs).toList == (strOfNums ys).toList)=decide (xs=ys):=by
 rw [Bool.eq_iff_iff,beq_iff_eq,decide_eq_true_eq];exact strOfNums_inj h k
set_option maxRecDepth 100000 in
set_option maxHeartbeats 4000000 in
theorem sameRec_any (c d:Rc) (pb:Option Addr) (nb cb:Nat) (pa:Option Addr) (na ca:Nat) (pb':Option Addr) (nb' cb':Nat) (pa':Option Addr) (na' ca':Nat) (w:World) (hb:Byt w pb nb cb c.b) (ha:Byt w pa na ca c.a) (hb':Byt w pb' nb' cb' d.b) (ha':Byt w pa' na' ca' d.a) :
  Calls Tryz.prog 135 #[.agg #[.int .i64 c.k,.int .u64 c.t,.int .u64 c.p,.int .u64 c.x,.int .i64 c.g,.int .i64 c.o,.slice pb nb cb,.slice pa na ca],.agg #[.int .i64 d.k,.int .u64 d.t,.int .u64 d.p,.int .u64 d.x,.int .i64 d.g,.int .i64 d.o,.slice pb' nb' cb',.slice pa' na' ca']] w (RetB (sameR c d) w):=by
 obtain ⟨k,t,p,x,g,o,b,a⟩:=c;obtain ⟨k',t',p',x',g',o',b',a'⟩:=d
 simp only at hb ha hb' ha'
 simp only
 have HG:=Lib.hid (((Gr.refl w).alloc (Nat.le_refl _) (.cells #[.int .i64 k,.int .u64 t,.int .u64 p,.int .u64 x,.int .i64 g,.int .i64 o,.slice pb nb cb,.slice pa na ca] TR)).alloc (by simp) (.cells #[.int .i64 k',.int .u64 t',.int .u64 p',.int .u64 x',.int .i64 g',.int .i64 o',.slice pb' nb' cb',.slice pa' na' ca'] TR));have HB:=Lib.hid (hb.kept HG.out);have HA:=Lib.hid (ha.kept HG.out);have HB2:=Lib.hid (hb'.kept HG.out);have HA2:=Lib.hid (ha'.kept HG.out);clear hb ha hb' ha'
 by_cases ek:k=k'
 ·
  subst ek
  by_cases et:t=t'
  ·
   subst et
   by_cases ep:p=p'
   ·
    subst ep
    by_cases ex:x=x'
    ·
     subst ex
     by_cases eg:g=g'
     ·
      subst eg
      by_cases eo:o=o'
      ·
       subst eo;have HR:Hid (sameR ⟨k,t,p,x,g,o,b,a⟩ ⟨k,t,p,x,g,o,b',a'⟩=(decide (b=b') && decide (a=a'))):=Lib.hid (by simp [sameR])
       cases eb:decide (b=b')
       ·
        rw [eb] at HR
        have EB:=Lib.hid eb;clear eb
        go_enter Tryz.func135,Tryz.ntmps135
        go_wp2_with fail;refine (wireSame_any _ _ _ _ _ _ _ _ _ HB.out HB2.out).mono ?_;rintro e w1 ⟨rfl,rfl⟩;rw [EB.out];go_wp2_with fail
        go_ret
        exact ⟨ret_b (by rw [HR.out];rfl),HG.out⟩
       ·
        rw [eb] at HR
        have EB:=Lib.hid eb;clear eb
        go_enter Tryz.func135,Tryz.ntmps135
        go_wp2_with fail;refine (wireSame_any _ _ _ _ _ _ _ _ _ HB.out HB2.out).mono ?_;rintro e w1 ⟨rfl,rfl⟩;rw [EB.out];go_wp2_with fail;refine (wireSame_any _ _ _ _ _ _ _ _ _ HA.out HA2.out).mono ?_;rintro e w1 ⟨rfl,rfl⟩;go_wp2_with fail
        go_ret
        exact ⟨ret_b (by rw [HR.out];rfl),HG.out⟩
      ·
       have HR:Hid (sameR ⟨k,t,p,x,g,o,b,a⟩ ⟨k,t,p,x,g,o',b',a'⟩=false):=Lib.hid (by simp [sameR,eo])
       go_enter Tryz.func135,Tryz.ntmps135
       go_wp2_with fail
       go_ret
       exact ⟨ret_b HR.out.symm,HG.out⟩
     ·
      have HR:Hid (sameR ⟨k,t,p,x,g,o,b,a⟩ ⟨k,t,p,x,g',o',b',a'⟩=false):=Lib.hid (by simp [sameR,eg])
      go_enter Tryz.func135,Tryz.ntmps135
      go_wp2_with fail
      go_ret
      exact ⟨ret_b HR.out.symm,HG.out⟩
    ·
     have HR:Hid (sameR ⟨k,t,p,x,g,o,b,a⟩ ⟨k,t,p,x',g',o',b',a'⟩=false):=Lib.hid (by simp [sameR,ex])
     have ex2:¬ (x:Int)=x':=by omega
     go_enter Tryz.func135,Tryz.ntmps135
     go_wp2_with fail
     go_ret
     exact ⟨ret_b HR.out.symm,HG.out⟩
   ·
    have HR:Hid (sameR ⟨k,t,p,x,g,o,b,a⟩ ⟨k,t,p',x',g',o',b',a'⟩=false):=Lib.hid (by simp [sameR,ep])
    have ep2:¬ (p:Int)=p':=by omega
    go_enter Tryz.func135,Tryz.ntmps135
    go_wp2_with fail
    go_ret
    exact ⟨ret_b HR.out.symm,HG.out⟩
  ·
   have HR:Hid (sameR ⟨k,t,p,x,g,o,b,a⟩ ⟨k,t',p',x',g',o',b',a'⟩=false):=Lib.hid (by simp [sameR,et])
   have et2:¬ (t:Int)=t':=by omega
   go_enter Tryz.func135,Tryz.ntmps135
   go_wp2_with fail
   go_ret
   exact ⟨ret_b HR.out.symm,HG.out⟩
 ·
  have HR:Hid (sameR ⟨k,t,p,x,g,o,b,a⟩ ⟨k',t',p',x',g',o',b',a'⟩=false):=Lib.hid (by simp [sameR,ek])
  go_enter Tryz.func135,Tryz.ntmps135
  go_wp2_with fail
  go_ret
  exact ⟨ret_b HR.out.symm,HG.out⟩
end Go.Proofs.YtdmhemgepdknhaaGreat
namespace Go.Proofs.YtdmhemgepdknhaaGreat
open Go.RowKit Cr
theorem len_nil' {l:List Int}:(l=[]) ↔ l.length=0:=List.length_eq_zero_iff.symm
set_option maxHeartbeats 1000000 in
theorem mayR_any (c:Rc) (pb:Option Addr) (nb cb:Nat) (pa:Option Addr) (na ca:Nat) (w:World) (hb:Byt w pb nb cb c.b) (ha:Byt w pa na ca c.a) :
  Calls Tryz.prog 108 #[.agg #[.int .i64 c.k,.int .u64 c.t,.int .u64 c.p,.int .u64 c.x,.int .i64 c.g,.int .i64 c.o,.slice pb nb cb,.slice pa na ca]] w (RetB (mayR c) w):=by
 obtain ⟨k,t,p,x,g,o,b,a⟩:=c
 simp only at hb ha
 simp only
 have lb:=hb.len;have la:=ha.len
 have hmost:(na:Int)≤9223372036854775807:=by have h1:=ha.most;have h2:=ha.cap;unfold maxLen at h1;omega
 have hF:=fun W=>fitsR_any k t p x g o pb nb cb pa na ca W hmost
 have fin:∀ (V:Value) (S:Bool),(∀ W,Calls Tryz.prog 136 #[.agg #[.int .i64 k,.int .u64 t,.int .u64 p,.int .u64 x,.int .i64 g,.int .i64 o,.slice pb nb cb,.slice pa na ca]] W (RetV V W)) →
   (∀ W,Gr w W→Calls Tryz.prog 135 #[.agg #[.int .i64 k,.int .u64 t,.int .u64 p,.int .u64 x,.int .i64 g,.int .i64 o,.slice pb nb cb,.slice pa na ca],V] W (RetB S W)) →
   (!decide (t=0) && (S && (!chB k || fitQ k g o nb na)))=mayR ⟨k,t,p,x,g,o,b,a⟩→Calls Tryz.prog 108 #[.agg #[.int .i64 k,.int .u64 t,.int .u64 p,.int .u64 x,.int .i64 g,.int .i64 o,.slice pb nb cb,.slice pa na ca]] w (RetB (mayR ⟨k,t,p,x,g,o,b,a⟩) w):=fun V S h1 h2 h3=>by
  rw [← h3];exact may_core k t p x g o pb nb cb pa na ca V S _ w h1 h2 hF
 by_cases h1:k=1
 ·
  subst h1;refine fin _ _ (fun W=>named1 t p x g o pb nb cb pa na ca W) (fun W gr=>sameRec_any ⟨1,t,p,x,g,o,b,a⟩ ⟨1,t,p,0,g,o,b,a⟩ pb nb cb pa na ca pb nb cb pa na ca W (hb.kept gr) (ha.kept gr) (hb.kept gr) (ha.kept gr)) ?_;rw [Bool.eq_iff_iff]
  simp [sameR,mayR,mayQ,fitR,fitQ,chB,befR,lb,la]
  omega
 by_cases h2:k=2
 ·
  subst h2;refine fin _ _ (fun W=>named2 t p x g o pb nb cb pa na ca W) (fun W gr=>sameRec_any ⟨2,t,p,x,g,o,b,a⟩ ⟨2,t,p,x,g,o,[],a⟩ pb nb cb pa na ca none 0 0 pa na ca W (hb.kept gr) (ha.kept gr) (Byt.nil W) (ha.kept gr)) ?_;rw [Bool.eq_iff_iff]
  simp [sameR,mayR,mayQ,fitR,fitQ,chB,befR,lb,la,len_nil']
  omega
 by_cases h3:k=3
 ·
  subst h3;refine fin _ _ (fun W=>named3 t p x g o pb nb cb pa na ca W) (fun W gr=>sameRec_any ⟨3,t,p,x,g,o,b,a⟩ ⟨3,t,p,0,0,0,[],[]⟩ pb nb cb pa na ca none 0 0 none 0 0 W (hb.kept gr) (ha.kept gr) (Byt.nil W) (Byt.nil W)) ?_;rw [Bool.eq_iff_iff]
  simp [sameR,mayR,mayQ,fitR,fitQ,chB,befR,lb,la,len_nil']
 by_cases h4:k=4
 ·
  subst h4;refine fin _ _ (fun W=>named4 t p x g o pb nb cb pa na ca W) (fun W gr=>sameRec_any ⟨4,t,p,x,g,o,b,a⟩ ⟨4,t,p,0,0,0,[],[]⟩ pb nb cb pa na ca none 0 0 none 0 0 W (hb.kept gr) (ha.kept gr) (Byt.nil W) (Byt.nil W)) ?_;rw [Bool.eq_iff_iff]
  simp [sameR,mayR,mayQ,fitR,fitQ,chB,befR,lb,la,len_nil']
 ·
  refine fin _ _ (fun W=>named0 k t p x g o pb nb cb pa na ca W h1 h2 h3 h4) (fun W gr=>sameRec_any ⟨k,t,p,x,g,o,b,a⟩ Rc.nil pb nb cb pa na ca none 0 0 none 0 0 W (hb.kept gr) (ha.kept gr) (Byt.nil W) (Byt.nil W)) ?_;rw [Bool.eq_iff_iff]
  simp [sameR,mayR,mayQ,fitR,fitQ,chB,befR,lb,la,Rc.nil,h1,h2,h3,h4]
  intro q1
  exact decide_eq_false fun h=>q1 h.2.1
def sizeR (c:Rc):Nat:=if mayR c then 35+c.b.length+c.a.length else 0
theorem body_any (c:Rc) (pb:Option Addr) (nb cb:Nat) (pa:Option Addr) (na ca:Nat) (w:World) (hm:mayR c=true) (hi:c.In) (hb:Byt w pb nb cb c.b) (ha:Byt w pa na ca c.a) :
  Calls Tryz.prog 109 #[.agg #[.int .i64 c.k,.int .u64 c.t,.int .u64 c.p,.int .u64 c.x,.int .i64 c.g,.int .i64 c.o,.slice pb nb cb,.slice pa na ca]] w (RetByte (bodyL c) w):=by
 have hf:=mayR_fits hm;have f1:=hf.k0;have f2:=hf.k1;have f3:=hf.g0;have f4:=hf.g1;have f5:=hf.o0;have f6:=hf.o1;have f7:=hf.na;have f9:=hf.nb1;have i1:=hi.t;have i2:=hi.p;have i3:=hi.x;obtain ⟨k,t,p,x,g,o,b,a⟩:=c
 simp only at f1 f2 f3 f4 f5 f6 f7 f9 i1 i2 i3 hb ha
 simp only
 obtain ⟨k,rfl⟩:=Int.eq_ofNat_of_zero_le (show 0≤k by omega);obtain ⟨g,rfl⟩:=Int.eq_ofNat_of_zero_le f3;obtain ⟨o,rfl⟩:=Int.eq_ofNat_of_zero_le f5;have lb:=hb.len;have la:=ha.len;subst lb la;have h:=body_nat k t p x g o b a pb cb pa ca w hb ha (by omega) i1 i2 i3 (by omega) (by omega) (by omega) (by omega)
 rw [nine_rec] at h
 exact h
def bytesL (c:Rc) (at':Nat):List Int:=if mayR c then recL c at' else []
def bytesE (c:Rc):Int:=if mayR c then 0 else 2
set_option maxRecDepth 100000 in
set_option maxHeartbeats 2000000 in
theorem bytes_may (c:Rc) (pb:Option Addr) (nb cb:Nat) (pa:Option Addr) (na ca:Nat) (at':Nat) (w:World) (hm:mayR c=true) (hi:c.In) (hb:Byt w pb nb cb c.b) (ha:Byt w pa na ca c.a) (hat:at'≤18446744073709551615) :
  Calls Tryz.prog 91 #[.agg #[.int .i64 c.k,.int .u64 c.t,.int .u64 c.p,.int .u64 c.x,.int .i64 c.g,.int .i64 c.o,.slice pb nb cb,.slice pa na ca],.int .u64 at'] w (RetBytes 0 (recL c at') w):=by
 have HG0:=Lib.hid ((Gr.refl w).alloc (Nat.le_refl _) (.cells #[.int .i64 c.k,.int .u64 c.t,.int .u64 c.p,.int .u64 c.x,.int .i64 c.g,.int .i64 c.o,.slice pb nb cb,.slice pa na ca] TR));have HMa:=mayR_any c pb nb cb pa na ca (w.alloc (.cells #[.int .i64 c.k,.int .u64 c.t,.int .u64 c.p,.int .u64 c.x,.int .i64 c.g,.int .i64 c.o,.slice pb nb cb,.slice pa na ca] TR)) (hb.kept HG0.out) (ha.kept HG0.out)
 rw [hm] at HMa
 have HM:=Lib.hid HMa;have HBO:=Lib.hid (fun W (gr:Gr (w.alloc (.cells #[.int .i64 c.k,.int .u64 c.t,.int .u64 c.p,.int .u64 c.x,.int .i64 c.g,.int .i64 c.o,.slice pb nb cb,.slice pa na ca] TR)) W)=>body_any c pb nb cb pa na ca W hm hi ((hb.kept HG0.out).kept gr) ((ha.kept HG0.out).kept gr));have HB:=Lib.hid (Blk.new w TR #[.int .i64 c.k,.int .u64 c.t,.int .u64 c.p,.int .u64 c.x,.int .i64 c.g,.int .i64 c.o,.slice pb nb cb,.slice pa na ca]);have hf:=mayR_fits hm;have f7:=hf.na;have f9:=hf.nb1;have hlen:=bodyL_len c
 have HREC:Hid (∀ B0 n m,B0=bodyL c→n=29+c.b.length+c.a.length→m=(sumW (Wd.enc 8 at'++[Wd.enc 2 n,B0].flatten)).toNat→[Wd.enc 2 n,Wd.enc 4 m,B0].flatten=recL c at'):=Lib.hid (fun B0 n m h1 h2 h3=>by
  subst h1 h2 h3
  unfold recL sumL sizeL
  simp)
 obtain ⟨B0,hB0⟩:∃ B0,B0=bodyL c:=⟨_,rfl⟩
 rw [← hB0] at hlen HBO
 have HB0:=Lib.hid hB0;obtain ⟨N,hN⟩:∃ N,N=29+c.b.length+c.a.length:=⟨_,rfl⟩
 rw [← hN] at hlen
 have hn1:N≤600:=by omega
 have HN:=Lib.hid hN;have HAT:=Lib.hid hat;have HLB:=Lib.hid hlen
 obtain ⟨R0,hR0⟩:∃ R0,R0=recL c at':=⟨_,rfl⟩
 have HREC2:Hid (∀ m,m=(sumW (Wd.enc 8 at'++[Wd.enc 2 N,B0].flatten)).toNat→[Wd.enc 2 N,Wd.enc 4 m,B0].flatten=R0):=Lib.hid fun m h=>by rw [hR0];exact HREC.out B0 N m HB0.out HN.out h
 rw [← hR0];clear hR0 HREC;have hfit:fitsB N (2:Nat)=true:=fitK (k:=2) (by omega) (by omega) (by omega);have HFI:=Lib.hid (fun W=>word_fit N 2 W hfit);have HFM:=Lib.hid (fun m (h:m≤4294967295) W=>word_fit m 4 W (fitK (k:=4) (by omega) (by omega) (by omega)));obtain ⟨k,t,p,x,g,o,b,a⟩:=c
 simp only at HM HB HG0 HBO
 obtain ⟨c0,c1,c2,c3,c4,c5,c6,c7⟩:=HB.out.c8;clear hm hb ha hf f7 f9 hi hB0 hN hlen HMa hat hfit HN HB0
 go_enter Tryz.func91,Tryz.ntmps91
 go_wp2_with fail;refine HM.out.mono ?_;rintro e w1 ⟨rfl,g1⟩;have HB1:=HB.out.below g1 HB.out.lt;have HBO1:=Lib.hid (HBO.out w1 g1);have HG1:=Lib.hid (Below.trans HG0.out (g1.mono HG0.out.size));clear g1 HM c0 c1 c2 c3 c4 c5 c6 c7 HBO;obtain ⟨c0,c1,c2,c3,c4,c5,c6,c7⟩:=HB1.c8;clear HB1;go_wp2_with fail;refine HBO1.out.mono ?_;rintro e w2 ⟨q,nr,cr,rfl,hy,g2,_⟩;have hl:=hy.len
 rw [HLB.out] at hl
 subst hl;have HR2:=Lib.hid hy;have HG2:=Lib.hid (Below.trans HG1.out (g2.mono HG1.out.size));clear g2 hy HBO1 c0 c1 c2 c3 c4 c5 c6 c7;go_wp2_with fail;refine (HFI.out _).mono ?_;rintro e w3 ⟨q3,m3,d3,rfl,hy3,g3,_⟩;have HR3:=Lib.hid (HR2.out.kept g3);have HY3:=Lib.hid hy3;have HG3:=Lib.hid (Below.trans HG2.out (g3.mono HG2.out.size));have HRows:=Lib.hid (Rows.two (t:=31) hy3 HR3.out rfl);clear g3 hy3 HR2 HFI;go_wp2_with fail;refine (at_crc _ _ _ _ _ _ HAT.out HRows.out).mono ?_;rintro e w4 ⟨rfl,g4⟩;have HR4:=Lib.hid (HR3.out.kept (grow1 g4));have HY4:=Lib.hid (HY3.out.kept (grow1 g4));have HG4:=Lib.hid (Below.trans HG3.out ((grow1 g4).mono HG3.out.size));clear g4 HR3 HY3 HRows;obtain ⟨S,hS⟩:∃ S,S=sumW (Wd.enc 8 at'++[Wd.enc 2 N,B0].flatten):=⟨_,rfl⟩;rw [← hS];have hU:U S=((S.toNat:Nat):Int):=rfl;obtain ⟨m,hm⟩:∃ m,m=S.toNat:=⟨_,rfl⟩
 have hm1:m≤4294967295:=by have:=S.isLt;omega
 rw [hU,← hm];have HS:=Lib.hid hS;have HM:=Lib.hid hm;clear hS hm hU;go_wp2_with fail;refine (HFM.out m hm1 _).mono ?_;rintro e w5 ⟨q5,m5,d5,rfl,hy5,g5,_⟩;have HR5:=Lib.hid (HR4.out.kept g5);have HY5:=Lib.hid (HY4.out.kept g5);have HG5:=Lib.hid (Below.trans HG4.out (g5.mono HG4.out.size));have HRows:=Lib.hid (Rows.three (t:=31) HY5.out hy5 HR5.out rfl);clear hy5 g5 HR4 HY4;go_wp2_with fail;refine (join_any _ _ _ _ _ HRows.out (by have:=HLB.out;unfold tot;simp only [List.flatten_cons,List.flatten_nil,List.length_append,Wd.enc_length,List.length_nil];omega)).mono ?_;rintro e w6 ⟨q6,m6,d6,rfl,hy6,g6,hf6⟩;have HG6:=Lib.hid (Below.trans HG5.out ((grow1 g6).mono HG5.out.size));have HJ6:=Lib.hid hy6;have HF6:=Lib.hid hf6;clear hy6 g6 hf6 HRows;go_wp2_with fail
 go_ret2
 exact ⟨_,_,_,rfl,HREC2.out m (by rw [HM.out,HS.out]) ▸ HJ6.out,HG6.out,fun y hy=>Nat.le_trans (by have:=HG5.out.size;simp;omega) (HF6.out y hy)⟩
theorem bytes_no (c:Rc) (pb:Option Addr) (nb cb:Nat) (pa:Option Addr) (na ca:Nat) (at':Nat) (w:World) (hm:mayR c=false) (hb:Byt w pb nb cb c.b) (ha:Byt w pa na ca c.a) :
  Calls Tryz.prog 91 #[.agg #[.int .i64 c.k,.int .u64 c.t,.int .u64 c.p,.int .u64 c.x,.int .i64 c.g,.int .i64 c.o,.slice pb nb cb,.slice pa na ca],.int .u64 at'] w (RetBytes 2 [] w):=by
 have HMa:=mayR_any c pb nb cb pa na ca (w.alloc (.cells #[.int .i64 c.k,.int .u64 c.t,.int .u64 c.p,.int .u64 c.x,.int .i64 c.g,.int .i64 c.o,.slice pb nb cb,.slice pa na ca] TR)) (hb.kept ((Gr.refl w).alloc (Nat.le_refl _) _)) (ha.kept ((Gr.refl w).alloc (Nat.le_refl _) _))
 rw [hm] at HMa
 have HM:=Lib.hid HMa;have HB:=Lib.hid (Blk.new w TR #[.int .i64 c.k,.int .u64 c.t,.int .u64 c.p,.int .u64 c.x,.int .i64 c.g,.int .i64 c.o,.slice pb nb cb,.slice pa na ca]);obtain ⟨k,t,p,x,g,o,b,a⟩:=c
 simp only at HM HB
 obtain ⟨c0,c1,c2,c3,c4,c5,c6,c7⟩:=HB.out.c8;clear hm hb ha HMa
 go_enter Tryz.func91,Tryz.ntmps91
 go_wp2_with fail;refine HM.out.mono ?_;rintro e w1 ⟨rfl,g1⟩;have HG:=Lib.hid (grow1 g1);clear g1 HM c0 c1 c2 c3 c4 c5 c6 c7;go_wp2_with fail
 go_ret2
 exact ⟨none,0,0,rfl,Byt.nil _,HG.out,fun _ h=>by cases h⟩
theorem bytes_any (c:Rc) (pb:Option Addr) (nb cb:Nat) (pa:Option Addr) (na ca:Nat) (at':Nat) (w:World) (hi:c.In) (hb:Byt w pb nb cb c.b) (ha:Byt w pa na ca c.a) (hat:at'≤18446744073709551615) :
  Calls Tryz.prog 91 #[.agg #[.int .i64 c.k,.int .u64 c.t,.int .u64 c.p,.int .u64 c.x,.int .i64 c.g,.int .i64 c.o,.slice pb nb cb,.slice pa na ca],.int .u64 at'] w (RetBytes (bytesE c) (bytesL c at') w):=by
 unfold bytesE bytesL
 by_cases hm:mayR c=true
 · rw [hm];exact bytes_may c pb nb cb pa na ca at' w hm hi hb ha hat
 ·
  have hm:mayR c=false:=by simpa using hm
  rw [hm];exact bytes_no c pb nb cb pa na ca at' w hm hb ha
end Go.Proofs.YtdmhemgepdknhaaGreat
namespace Go.Proofs.YtdmhemgepdknhaaGreat
open Go.RowKit Go.Maps
abbrev TBs:TypeId:=31
theorem Byt.cut {W:World} {p:Option Addr} {n c:Nat} {xs:List Int} (h:Byt W p n c xs) (l k m:Nat) (h1:l≤k) (h2:k≤n) (h3:k≤m) (h4:m≤c):Byt W (if m=l then p else p.map (·.add (l*1))) (k - l) (m - l) ((xs.take k).drop l):=by
 have hl:=h.len;have hc:=h.cap;have hm:=h.most;refine ⟨by simp;omega,by omega,by omega,fun h0=>?_,fun e=>?_,(h.small.take k).drop l⟩
 ·
  obtain ⟨b,o,rfl,hcell⟩:=h.at (by omega)
  have hc0:¬ m=l:=by omega
  refine ⟨b,o+l,by simp [hc0,Addr.add],fun i hi=>?_⟩;rw [Nat.add_assoc,hcell (l+i) (by omega)]
  have:l+i < k:=by omega
  simp [List.getD,this]
 ·
  by_cases hc0:m=l
  · omega
  ·
   rw [if_neg hc0] at e
   have hp:p=none:=by simpa using e
   have:=h.nilCap hp
   omega
theorem elem_bs:Tryz.prog.elem TBs=5:=by kernel_rfl
theorem under_bs:Tryz.prog.underlying TBs=some (.slice (Tryz.prog.elem TBs)):=by rw [elem_bs];exact Tryz.underlying31
theorem size_bs (w:World):(sizeOf (Tryz.prog.elem TBs)).run Tryz.prog w=.ok 1 w:=by rw [elem_bs];exact size_u8 w
theorem blk_cut {p:Option Addr} {m l:Nat}:∀ y,(if m=l then p else p.map (·.add (l*1)))=some y→∃ z,p=some z∧z.block=y.block:=by
 intro y hy
 by_cases h:m=l
 · rw [if_pos h] at hy;exact ⟨y,hy,rfl⟩
 ·
  rw [if_neg h] at hy
  cases p with
  | none=>cases hy
  | some z=>cases hy;exact ⟨z,rfl,by cases z;simp only [Addr.add];split <;> rfl⟩
structure CutOf (p:Option Addr) (n c l k d:Nat) (q:Option Addr):Prop where
 byt:∀ W xs,Byt W p n c xs→Byt W q (k - l) d ((xs.take k).drop l)
 blk:∀ y,q=some y→∃ z,p=some z∧z.block=y.block
theorem cut_lhm {p:Option Addr} {n c:Nat} (l k m:Nat) (h1:l≤k) (h2:k≤n) (h3:k≤m) (h4:m≤c):∃ q,(∀ w,(Instr.slice TBs (.slice p n c) (some (.int .i64 (l:Int))) (some (.int .i64 (k:Int))) (some (.int .i64 (m:Int)))).run Tryz.prog w=.ok (.slice q (k - l) (m - l)) w)∧CutOf p n c l k (m - l) q:=
 ⟨_,fun w=>by
  rw [run_slice_lhm w TBs p n c under_bs .i64 .i64 .i64 (l:Int) (k:Int) (m:Int) (by omega) (by omega) (by omega) (by omega),size_bs]
  rfl,⟨fun W xs h=>h.cut l k m h1 h2 h3 h4,blk_cut⟩⟩
theorem cut_h {p:Option Addr} {n c:Nat} (k:Nat) (h2:k≤n) (hc:n≤c):∃ q,(∀ w,(Instr.slice TBs (.slice p n c) none (some (.int .i64 (k:Int))) none).run Tryz.prog w=.ok (.slice q k c) w)∧CutOf p n c 0 k c q:=
 ⟨_,fun w=>by
  rw [run_slice_h w TBs p n c under_bs .i64 (k:Int) (by omega) (by omega),size_bs]
  rfl,⟨fun W xs h=>h.cut 0 k c (Nat.zero_le _) h2 (by omega) (Nat.le_refl _),blk_cut⟩⟩
theorem cut_l {p:Option Addr} {n c:Nat} (l:Nat) (h1:l≤n) (hc:n≤c):∃ q,(∀ w,(Instr.slice TBs (.slice p n c) (some (.int .i64 (l:Int))) none none).run Tryz.prog w=.ok (.slice q (n - l) (c - l)) w)∧CutOf p n c l n (c - l) q:=
 ⟨_,fun w=>by
  rw [run_slice_l w TBs p n c under_bs .i64 (l:Int) (by omega) (by omega),size_bs]
  rfl,⟨fun W xs h=>h.cut l n c h1 (Nat.le_refl _) hc (Nat.le_refl _),blk_cut⟩⟩
theorem drop_take_all {xs:List Int} {n l:Nat} (h:xs.length=n):(xs.take n).drop l=xs.drop l:=by rw [List.take_of_length_le (by omega)]
/-! ### What is appended -/
def Txt (w:World) (q:Option Addr) (m c:Nat) (xs:List Int):Prop:=Byt w q m c xs∧(m=c∨OwnB w 0 5 (.slice q m c) xs)
def TxtChg (q q':Option Addr) (w w':World):Prop:=Upd (fun k=>∃ y,q=some y∧y.block=k) (fun k=>∃ y,q'=some y∧y.block=k) w w'
theorem run_app_txt {w:World} {ty:TypeId} {q:Option Addr} {m c:Nat} {xs:List Int} (h:Txt w q m c xs) {ad:Addr} {k d:Nat} {ys:List Int} (hy:Byt w (some ad) k d ys) (hk:0 < k) (hb:m+k≤140737488355328) :
  ∃ q' c' w',(Builtin.append_ #[TBs,TBs] ty #[.slice q m c,.slice (some ad) k d]).run Tryz.prog w=.ok (.slice q' (m+k) c') w'∧Txt w' q' (m+k) c' (xs++ys)∧TxtChg q q' w w':=by
 obtain ⟨hx,ho⟩:=h;obtain ⟨i,hi,hz0,hz1,hz2⟩:=info_parts bt.info;have hlx:=hx.len;have hly:=hy.len
 rcases ho with rfl | ho
 ·
  -- full
  cases q with
  | none=>
   have hm0:=hx.nilCap rfl;subst hm0;obtain rfl:xs=[]:=List.eq_nil_of_length_eq_zero hlx;obtain ⟨v',w',hr,hown,hg,_,hat⟩:=run_append_own_at w 0 TBs ty 5 i (.int .u8 0) 1 1 bt.us hi hz0 hz1 hz2 rfl (by decide) (.slice none 0 0) 0 [] (World.ownsRow_nil _ _ _ _) ad k d (ys.map (Value.int .u8)) (by simp [hly]) hy.news (u8s_oneCell _) (by simp only [maxLen];omega) (by omega) (Nat.zero_le _);have hO:OwnB w' 0 5 v' ys:=⟨by simpa [hly] using hown,hy.small⟩;obtain ⟨p',c',hv,_⟩:=hO.form
   rw [hly] at hv
   subst hv;refine ⟨p',c',w',by simpa using hr,⟨by simpa using hO.byt.1,.inr (by simpa using hO)⟩,⟨hg.os,hg.tape,hg.output,hg.size,fun j hj hn=>hg.block j hj (by simp [Value.ownBlock]),fun j hj=>?_⟩⟩;obtain ⟨y,rfl,hyb⟩:=hj
   rcases hat with h | h
   · simp [Value.ownBlock] at h
   · simp [Value.ownBlock] at h;exact .inr (by omega)
  | some a0=>
   have hr:=run_append_grow (P:=Tryz.prog) w TBs ty 5 i (.int .u8 0) bt.us hi hz0 a0 m m (xs.map (Value.int .u8)) (by rw [List.length_map,hlx,hz1,Nat.mul_one]) hx.news ad k d (ys.map (Value.int .u8)) (by rw [List.length_map,hly,hz1,Nat.mul_one]) hy.news (by omega) (by omega) (growslice_fits (by omega) (by rw [hz2];omega));have hge:=grownCap_ge w (m+k) m 5;have hcm:grownCap w (m+k) m 5≤maxLen:=grownCap_le_maxLen w (m+k) m 5 (by simp only [maxLen];omega)
   have hO:OwnB (w.drew.alloc (.cells ((xs.map (Value.int .u8)).toArray++(ys.map (Value.int .u8)).toArray++Builtin.zeroCells (Value.int .u8 0).cells (grownCap w (m+k) m 5 - (m+k))) 5)) 0 5 (.slice (some ⟨w.heap.size,0,none⟩) (m+k) (grownCap w (m+k) m 5)) (xs++ys):=by
    refine ⟨⟨by simp [hlx,hly],.inr ⟨w.heap.size,_,_,by simp [hlx,hly],Nat.zero_le _,heap_alloc_new w.drew _,by simp [hlx,hly];omega,hcm,?_,?_⟩⟩,hx.small.app hy.small⟩
    ·
     simp only [Array.size_append,List.size_toArray,size_zeroCells,List.length_map,hlx,hly]
     simp [Value.cells]
     omega
    ·
     simp only [Array.toList_append,List.map_append]
     rw [show (xs++ys).length*1=((xs.map (Value.int .u8))++(ys.map (Value.int .u8))).length by simp];exact List.take_left
   refine ⟨_,_,_,hr,⟨hO.byt.1,.inr hO⟩,⟨rfl,rfl,rfl,by simp,fun j hj hn=>heap_alloc_old w.drew _ hj,fun j hj=>?_⟩⟩;obtain ⟨y,hy1,hyb⟩:=hj
   cases hy1
   exact .inr (by simp at hyb;omega)
 ·
  obtain ⟨v',w',hr,hown,hg,_,hat⟩:=run_append_own_at w 0 TBs ty 5 i (.int .u8 0) 1 1 bt.us hi hz0 hz1 hz2 rfl (by decide) (.slice q m c) m (xs.map (Value.int .u8)) (by have:=ho.row;rwa [hlx] at this) ad k d (ys.map (Value.int .u8)) (by simp [hly]) hy.news (u8s_oneCell _) (by simp only [maxLen];omega) (by omega) (Nat.zero_le _);have hO:OwnB w' 0 5 v' (xs++ys):=⟨by simpa [hly,hlx] using hown,hx.small.app hy.small⟩;obtain ⟨p',c',hv,_⟩:=hO.form
  rw [List.length_append,hly,hlx] at hv
  subst hv
  have hown0:∀ y,q=some y→(Value.slice q m c).ownBlock=some y.block:=fun y hy=>by
   rcases ho.row.2 with ⟨h0,_⟩ | ⟨g,cap,cur,h0,_⟩
   · cases h0;cases hy
   · cases h0;cases hy;rfl
  refine ⟨p',c',w',hr,⟨hO.byt.1,.inr hO⟩,⟨hg.os,hg.tape,hg.output,hg.size,fun j hj hn=>hg.block j hj (fun e=>?_),fun j hj=>?_⟩⟩
  ·
   cases q with
   | none=>simp [Value.ownBlock] at e
   | some y=>
    rw [hown0 y rfl] at e
    cases e
    exact hn ⟨y,rfl,rfl⟩
  ·
   obtain ⟨y,rfl,hyb⟩:=hj
   have hy2:(Value.slice (some y) (m+k) c').ownBlock=some y.block:=by
    rcases hO.row.2 with ⟨h0,_⟩ | ⟨g,cap,cur,h0,_⟩
    · cases h0
    ·
     simp only [Value.slice.injEq] at h0
     obtain ⟨h0,_⟩:=h0
     cases h0
     rfl
   rw [hy2] at hat
   rcases hat with h | h
   ·
    cases q with
    | none=>simp [Value.ownBlock] at h
    | some z=>
     rw [hown0 z rfl] at h
     exact .inl ⟨z,rfl,by rw [← hyb];exact (Option.some.inj h).symm⟩
   · exact .inr (by have:=Option.some.inj h;omega)
end Go.Proofs.YtdmhemgepdknhaaGreat
namespace Go.Proofs.YtdmhemgepdknhaaGreat
open Go.RowKit Cr
theorem OwnB.below' {w w':World} {base tB:Nat} {v:Value} {xs:List Int} (h:OwnB w base tB v xs) (g:Below w.heap.size w w'):OwnB w' base tB v xs:=by
 refine ⟨⟨h.row.1,?_⟩,h.small⟩
 rcases h.row.2 with h2 | ⟨b,cap,cur,e,h0,hg,r⟩
 · exact .inl h2
 · have hlt:b < w.heap.size:=(Array.getElem?_eq_some_iff.1 hg).1;exact .inr ⟨b,cap,cur,e,h0,(g.block b hlt).trans hg,r⟩
def RetOwn (tB:Nat) (xs:List Int) (w:World) (e:Ending) (w':World):Prop:=∃ v,e=.returned v∧OwnB w' w.heap.size tB v xs∧Gr w w'
theorem OwnB.base_le {w:World} {B B' tB:Nat} {v:Value} {xs:List Int} (h:OwnB w B tB v xs) (hb:B'≤B):OwnB w B' tB v xs:=by
 refine ⟨⟨h.row.1,?_⟩,h.small⟩
 rcases h.row.2 with h2 | ⟨g,cap,cur,e,h0,r⟩
 · exact .inl h2
 · exact .inr ⟨g,cap,cur,e,Nat.le_trans hb h0,r⟩
set_option maxHeartbeats 800000 in
theorem concat_own (p:Option Addr) (n c:Nat) (xss:List (List Int)) (w:World) (h:Rows w p n c xss) (hbig:tot xss≤140737488355328):Calls Tryz.prog 113 #[.slice p n c] w (RetOwn 5 xss.flatten w):=by
 have HLen:=Lib.hid h.len
 have hn63:n≤9223372036854775807:=by have:=h.cap;have:=h.most;unfold maxLen at this;omega
 have HH:=Lib.hid h;have Hbig:=Lib.hid hbig;clear h hbig
 go_enter Tryz.func113,Tryz.ntmps113
 go_wp2
 go_loop [3,11] (fun t i=>∃ k:Nat,k≤n∧i=.int .i64 k∧t=.int .i64 (tot (xss.take k):Nat)) (fun _ i=>n - (intOf i).toNat)
 case atStart=>exact ⟨0,Nat.zero_le _,rfl,rfl⟩
 case round=>
  obtain ⟨k,hk,rfl,rfl⟩:=hrel;have hle:=tot_le xss k;have hb2:=Hbig.out
  by_cases hlt:k < n
  ·
   obtain ⟨b,o,rfl,hc⟩:=HH.out.lies (by omega);obtain ⟨q,m,d,hcell,hby⟩:=hc k hlt;have hle2:=tot_le xss (k+1);have hL:=tot_succ xss k m (by rw [HLen.out];exact hlt) hby.len;have HL:=Lib.hid hL
   have hSm:tot (xss.take k)+m≤140737488355328:=by omega
   clear hL hle2 hc hby hb2 hle
   go_wp2
   go_round
   case rel=>exact ⟨k+1,by omega,by go_num,congrArg (Value.int .i64) (by rw [HL.out];rfl)⟩
   case measure=>simp [intOf];omega
  ·
   obtain rfl:k=n:=by omega
   have hall:xss.take k=xss:=List.take_of_length_le (by rw [HLen.out];exact Nat.le_refl _);rw [hall];clear hall hle;go_wp2_with fail;refine (grow_any _ _ hb2).mono ?_;rintro e w1 ⟨v,rfl,own,gr⟩;have HO:=Lib.hid own;have HB:=Lib.hid gr;clear own gr hb2
   go_wp2
   go_loopw [6,27] (fun v i wr=>∃ j:Nat,j≤k∧i=.int .i64 j∧Hid (OwnB wr w.heap.size 5 v (xss.take j).flatten)∧Hid (Below w.heap.size w wr)) (fun _ i _=>k - (intOf i).toNat)
   case atStart=>exact ⟨0,Nat.zero_le _,rfl,HO,HB⟩
   case round=>
    obtain ⟨j,hj,rfl,ho,hb⟩:=hrel;have hbs:=hb.out.size
    by_cases hlt:j < k
    ·
     obtain ⟨b,o,rfl,hc⟩:=(HH.out.kept hb.out).lies (by omega);obtain ⟨q,m,d,hcell,hby⟩:=hc j hlt;have hfs:=Lib.hid (flat_succ xss j (by rw [HLen.out];exact hlt))
     have hsz:Hid ((xss.take j).flatten.length+m≤140737488355328):=by
      have h1:=tot_le xss (j+1)
      rw [tot_succ xss j m (by rw [HLen.out];exact hlt) hby.len] at h1
      exact Nat.le_trans h1 Hbig.out
     have HBY:=Lib.hid hby
     clear hby hc
     go_wp2_with (at_builtin;refine wpList_app_byt bt rfl (.tmp 31) (.tmp 32) rfl w.heap.size _ _ rfl ho.out q m d _ rfl HBY.out hsz.out hbs ?_)
     intro v' w' own grow
     have HO2:=Lib.hid (own.as hfs.out.symm);have HB2:Hid (Below w.heap.size w w'):=Below.app hb.out hbs ho.out grow;clear own grow
     go_wp2
     go_roundw
     case rel=>exact ⟨j+1,by omega,by go_num,HO2,HB2⟩
     case measure=>simp [intOf];omega
    ·
     obtain rfl:j=k:=by omega
     have hall:xss.take j=xss:=List.take_of_length_le (by rw [HLen.out];exact Nat.le_refl _);have ho2:=ho.out
     rw [hall] at ho2
     obtain ⟨q,d,hv⟩:=ho2.shape (tot xss) rfl;subst hv;have HO2:=Lib.hid ho2;clear ho2 hall
     go_wp2
     go_ret
     exact ⟨_,rfl,HO2.out,hb.out⟩
theorem join_own (p:Option Addr) (n c:Nat) (xss:List (List Int)) (w:World) (h:Rows w p n c xss) (hbig:tot xss≤140737488355328):Calls Tryz.prog 93 #[.slice p n c] w (RetOwn 5 xss.flatten w):=by
 go_enter Tryz.func93,Tryz.ntmps93
 go_wp2_with fail;refine (concat_own _ _ _ _ _ h hbig).mono ?_;rintro e w' ⟨v,rfl,ho,hg⟩
 go_wp2
 go_ret
 exact ⟨v,rfl,ho,hg⟩
end Go.Proofs.YtdmhemgepdknhaaGreat
namespace Go.Proofs.YtdmhemgepdknhaaGreat
open Go.RowKit Go.Maps
theorem wpList_app_txt {w:World} {ops:Array Oper} {rest:List Oper} {o:Oper} {a:Act} {Q:Exit→Act→World→Prop} (hgd:o.guard=none) (s x:Operand)
  (ho:o.op=.call { callee:=.builtin .append,args:=#[s,x],argTypes:=#[TBs,TBs] }) {q:Option Addr} {m c:Nat} {xs:List Int} (hs:a.eval s=.slice q m c) (h:Txt w q m c xs)
  {ad:Addr} {k d:Nat} {ys:List Int} (hx:a.eval x=.slice (some ad) k d) (hy:Byt w (some ad) k d ys) (hk:0 < k) (hb:m+k≤140737488355328)
  (hQ:∀ q' c' w',Txt w' q' (m+k) c' (xs++ys)→TxtChg q q' w w'→wpList Tryz.prog ops Q rest (a.put o.dst (.slice q' (m+k) c')) w'):wpList Tryz.prog ops Q (o :: rest) a w:=by
 obtain ⟨q',c',w',hrun,h1,h2⟩:=run_app_txt (ty:=o.type) h hy hk hb
 refine wpList_plain hgd fun K hK=>?_
 unfold Oper.wp
 simp [execOp,ho,resolve,invoke,builtin,hs,hx,hrun,Result.andThen]
 exact hK _ _ (hQ q' c' w' h1 h2)
theorem Txt.gr {w w':World} {q:Option Addr} {m c:Nat} {xs:List Int} (h:Txt w q m c xs) (g:Gr w w'):Txt w' q m c xs:=⟨h.1.kept g,h.2.imp id (fun ho=>ho.below' g)⟩
theorem Byt.stays {w w':World} {p:Option Addr} {n c:Nat} {xs:List Int} (h:Byt w p n c xs) (e:∀ y,p=some y→w'.heap[y.block]?=w.heap[y.block]?):Byt w' p n c xs:=
 ⟨h.len,h.cap,h.most,fun hn=>by
  obtain ⟨b,o,rfl,hc⟩:=h.lies.at hn
  refine ⟨b,o,rfl,fun i hi=>?_⟩;rw [← hc i hi]
  unfold World.cell?
  rw [e _ rfl],h.nilCap,h.small⟩
theorem OwnB.stays {w w':World} {base tB:Nat} {p:Option Addr} {n c:Nat} {xs:List Int} (h:OwnB w base tB (.slice p n c) xs) (e:∀ y,p=some y→w'.heap[y.block]?=w.heap[y.block]?):OwnB w' base tB (.slice p n c) xs:=by
 refine ⟨⟨h.row.1,?_⟩,h.small⟩
 rcases h.row.2 with h2 | ⟨g,cap,cur,h0,hb,hg,r⟩
 · exact .inl h2
 ·
  refine .inr ⟨g,cap,cur,h0,hb,?_,r⟩
  simp only [Value.slice.injEq] at h0
  obtain ⟨rfl,_⟩:=h0;exact (e _ rfl).trans hg
theorem Txt.stays {w w':World} {q:Option Addr} {m c:Nat} {xs:List Int} (h:Txt w q m c xs) (e:∀ y,q=some y→w'.heap[y.block]?=w.heap[y.block]?):Txt w' q m c xs:=⟨h.1.stays e,h.2.imp id (fun ho=>ho.stays e)⟩
theorem Txt.lt {w:World} {q:Option Addr} {m c:Nat} {xs:List Int} (h:Txt w q m c xs) (hm:0 < m):∀ y,q=some y→y.block < w.heap.size:=fun y hy=>by
 obtain ⟨b,o,e,hc⟩:=h.1.at hm
 rw [hy] at e
 cases e
 exact blk_lt (hc 0 hm)
structure Lg where
 n:Int
 l:Int
 g:Int
 epoch:Nat
 tail:Nat
 lasts:Nat
 txt:List Int
 rsv:Int
 begun:Bool
def Lg.fin (L:Lg):Nat:=L.lasts - L.lasts % 232+L.txt.length
structure Lg.Ok (L:Lg):Prop where
 may:mayL L.n L.l L.g=true
 e0:1≤L.epoch
 e1:L.epoch≤4611686018427387904
 tl:L.tail≤L.lasts
 has:L.lasts % 232≤L.txt.length
 most:L.fin≤9000000000000000000
 room:L.fin≤L.tail - L.tail % 232+232*L.l.toNat
 r0:0≤L.rsv
 r1:L.rsv≤60000
theorem Lg.Ok.l1 {L:Lg} (h:L.Ok):16≤L.l∧L.l≤256:=by have:=may_in h.may;omega
theorem Lg.Ok.near {L:Lg} (h:L.Ok):L.tail≤L.fin∧L.fin≤L.tail+100000∧L.lasts≤L.fin:=by
 have h1:=h.tl;have h2:=h.has;have h3:=h.room;have h4:=h.l1
 unfold Lg.fin at *
 omega
theorem Lg.Ok.len {L:Lg} (h:L.Ok):L.lasts+L.txt.length≤9100000000000000000∧L.txt.length≤100300:=by
 have h1:=h.most;have h3:=h.near;have h4:=h.tl
 unfold Lg.fin at *
 omega
def lgS (b:Nat) (q:Option Addr) (k:Nat):Prop:=k=b∨∃ y,q=some y∧y.block=k
structure LgAt (w:World) (b:Nat) (p:Value) (q:Option Addr) (m c:Nat) (L:Lg):Prop where
 blk:Blk w b TLg #[p,.int .i64 L.n,.int .i64 L.l,.int .i64 L.g,.int .u64 L.epoch,.int .u64 L.tail,.int .u64 L.lasts,.slice q m c,.int .i64 L.rsv,.bool L.begun]
 txt:Txt w q m c L.txt
 apart:∀ y,q=some y→y.block≠b
 low:∀ k,lgS b q k→k < w.heap.size
 dsk:∃ d,p=.pointer (some ⟨d,0,none⟩)
section
variable {w w':World} {b:Nat} {p:Value} {q:Option Addr} {m c:Nat} {L:Lg}
theorem LgAt.gr (h:LgAt w b p q m c L) (g:Gr w w'):LgAt w' b p q m c L:=⟨h.blk.gr g,h.txt.gr g,h.apart,fun k hk=>Nat.lt_of_lt_of_le (h.low k hk) g.size,h.dsk⟩
theorem LgAt.mlen (h:LgAt w b p q m c L):m=L.txt.length:=h.txt.1.len.symm
theorem LgAt.fin (h:LgAt w b p q m c L):L.lasts - L.lasts % 232+m=L.fin:=by rw [h.mlen];rfl
theorem LgAt.End (h:LgAt w b p q m c L) (ok:L.Ok):Calls Tryz.prog 37 #[.pointer (some ⟨b,0,none⟩)] w (RetU L.fin w):=by
 obtain ⟨d,rfl⟩:=h.dsk;have h1:=wEnd_any d b _ _ _ _ _ _ _ _ _ _ _ _ w h.blk rfl (by have:=ok.len;have:=h.mlen;omega)
 rwa [h.fin] at h1
theorem LgAt.Free (h:LgAt w b p q m c L) (ok:L.Ok):Calls Tryz.prog 73 #[.pointer (some ⟨b,0,none⟩)] w (RetI (freeR L.l L.rsv L.tail L.fin) w):=by
 obtain ⟨d,rfl⟩:=h.dsk;have hn:=ok.near;have hf:=h.fin;have h1:=wFree_any d b _ _ _ _ _ _ _ _ _ _ _ _ w h.blk rfl (by have:=ok.len;have:=h.mlen;omega) (by have:=ok.l1;omega) ⟨ok.r0,by have:=ok.r1;omega⟩ (by rw [hf];exact hn.1) (by rw [hf];exact hn.2.1)
 rwa [hf] at h1
end
def rcv (r:Rc) (pb:Option Addr) (nb cb:Nat) (pa:Option Addr) (na ca:Nat):Array Value:=#[.int .i64 r.k,.int .u64 r.t,.int .u64 r.p,.int .u64 r.x,.int .i64 r.g,.int .i64 r.o,.slice pb nb cb,.slice pa na ca]
def RetLayE (x:Int) (w:World) (e:Ending) (w':World):Prop:=e=.returned (.tuple #[.int .u64 0,.int .i64 x])∧Gr w w'
def Lg.more (L:Lg) (ys:List Int):Lg:={ L with txt:=L.txt++ys }
def RetLay (b:Nat) (p:Value) (q:Option Addr) (L:Lg) (ys:List Int) (w:World) (e:Ending) (w':World):Prop:=
 ∃ q' m' c',e=.returned (.tuple #[.int .u64 (L.fin:Int),.int .i64 0])∧LgAt w' b p q' m' c' (L.more ys)∧Upd (lgS b q) (lgS b q') w w'
set_option maxRecDepth 100000 in
set_option maxHeartbeats 1000000 in
theorem wlay_any {b:Nat} {p:Value} {q:Option Addr} {m c:Nat} {L:Lg} (w:World) (h:LgAt w b p q m c L) (ok:L.Ok) (r:Rc) (hi:r.In) (pb:Option Addr) (nb cb:Nat) (pa:Option Addr) (na ca:Nat) (hb:Byt w pb nb cb r.b) (ha:Byt w pa na ca r.a) (room:Int) (hfit:mayR r=true) (hroom:(35+r.b.length+r.a.length:Int)≤room) :
  Calls Tryz.prog 72 #[.pointer (some ⟨b,0,none⟩),.agg (rcv r pb nb cb pa na ca),.int .i64 room] w (RetLay b p q L (recL r L.fin) w):=by
 obtain ⟨W1,hW1⟩:∃ W1,W1=w.alloc (.cells (rcv r pb nb cb pa na ca) TR):=⟨_,rfl⟩;have HB1:Hid (Blk W1 w.heap.size TR (rcv r pb nb cb pa na ca)∧Gr w W1):=Lib.hid (by rw [hW1];exact ⟨Blk.new _ _ _,Gr.new _ _⟩);have HE:=Lib.hid (LgAt.End (h.gr HB1.out.2) ok);have HH:=Lib.hid h;have HBy:=Lib.hid (fun W (g:Gr w W)=>bytes_any r pb nb cb pa na ca L.fin W hi (hb.kept g) (ha.kept g) (by have:=ok.most;omega));have HW1:Hid (w.alloc (.cells (rcv r pb nb cb pa na ca) 100)=W1):=Lib.hid hW1.symm;obtain ⟨F,hF⟩:∃ F,F=L.fin:=⟨_,rfl⟩;have HF:=Lib.hid hF
 rw [← hF] at HE HBy
 clear h hb ha hW1 hF
 unfold rcv at HW1 HB1 ⊢
 go_enter Tryz.func72,Tryz.ntmps72
 go_wp2_with fail;rw [HW1.out];refine HE.out.mono ?_;rintro e W2 ⟨rfl,g2⟩;obtain ⟨c0,c1,c2,c3,c4,c5,c6,c7⟩:=(HB1.out.1.gr g2).c8;have HG2:=Lib.hid (Gr.trans HB1.out.2 g2);clear g2;go_wp2_with fail;refine (HBy.out W2 HG2.out).mono ?_;rintro e W3 ⟨q3,n3,d3,rfl,hy3,g3,f3⟩;obtain ⟨n,hn⟩:∃ n,n=35+r.b.length+r.a.length:=⟨_,rfl⟩
 have hy4:Byt W3 q3 n3 d3 (recL r F):=by have h:=hy3;unfold bytesL at h;rw [if_pos hfit] at h;exact h
 have hn3:n3=n:=by rw [← hy4.len,recL_len,hn]
 subst hn3
 have hE0:bytesE r=0:=by unfold bytesE;rw [if_pos hfit]
 rw [hE0]
 have hr2:¬ room < (n3:Int):=by omega
 have hr3:(n3:Int)≤9223372036854775807:=by have:=hy4.cap;have:=hy4.most;unfold maxLen at *;omega
 have hn0:35≤n3:=by omega
 have HG3:=Lib.hid (Gr.trans HG2.out g3)
 obtain ⟨b3,o3,rfl,_⟩:=hy4.at (by omega)
 have HY:=Lib.hid hy4;have HL:=Lib.hid (HH.out.gr HG3.out);have c7:=HL.out.blk.c10.2.2.2.2.2.2.2.1
 have hml:m+n3≤140737488355328:=by
  have h1:=ok.len.2;have h2:=HH.out.mlen;have h3:=(mayR_fits hfit).nb1;have h4:=(mayR_fits hfit).na
  omega
 clear hy3 hy4 hE0 hn hroom HBy HE g3 f3 HB1 HW1 HH
 go_wp2_with (at_builtin;refine wpList_app_txt rfl _ _ rfl rfl HL.out.txt rfl HY.out (by omega) hml ?_;intro q4 d4 W4 ht4 hu4;have HB4:=Lib.hid (HL.out.blk.stays (hu4.block b HL.out.blk.lt (fun hk=>by obtain ⟨y,hy,e⟩:=hk;exact HL.out.apart y hy e)));have f7:=HB4.out.frozen 7;have k7:=HB4.out.c10.2.2.2.2.2.2.2.1)
 have HT4:=Lib.hid ht4;have HU4:=Lib.hid hu4;clear ht4 hu4 f7 k7 c0 c1 c2 c3 c4 c5 c6 c7;refine bodyPost_ret_by (P:=Tryz.prog) (v:=.tuple #[.int .u64 (F:Int),.int .i64 0]) (by simp [results,Tryz.results72]) rfl ?_;rw [HF.out]
 have hq4:∀ y,q4=some y→y.block≠b:=fun y hy e=>by
  rcases HU4.out.fresh y.block ⟨y,hy,rfl⟩ with ⟨z,hz,e2⟩ | h2
  · exact HL.out.apart z hz (e2.trans e)
  · have:=HL.out.blk.lt;omega
 have hoc:=Only.cell b 7 W4 (.slice q4 (m+n3) d4)
 have hlt4:∀ y,q4=some y→y.block < W4.heap.size:=fun y hy=>HT4.out.lt (by omega) y hy
 refine ⟨q4,m+n3,d4,rfl,⟨HB4.out.set 7 _,?_,hq4,fun k hk=>?_,HL.out.dsk⟩,⟨?_,?_,?_,?_,fun k hk hn=>?_,fun k hk=>?_⟩⟩
 ·
  have h1:Txt (W4.setCell ⟨b,7,none⟩ (.slice q4 (m+n3) d4)) q4 (m+n3) d4 (L.txt++recL r F):=HT4.out.stays (fun y hy=>hoc.block _ (hq4 y hy))
  rw [HF.out] at h1
  exact h1
 ·
  rw [hoc.size]
  rcases hk with rfl | ⟨y,hy,rfl⟩
  · exact HB4.out.lt
  · exact hlt4 y hy
 · exact hoc.os.trans (HU4.out.os.trans HG3.out.os)
 · exact hoc.tape.trans (HU4.out.tape.trans HG3.out.tape)
 · exact hoc.output.trans (HU4.out.output.trans HG3.out.output)
 · rw [hoc.size];exact Nat.le_trans HG3.out.size HU4.out.size
 ·
  have hkb:k≠b:=fun e=>hn (.inl e)
  exact (hoc.block k hkb).trans ((HU4.out.block k (Nat.lt_of_lt_of_le hk HG3.out.size) (fun h=>hn (.inr h))).trans (HG3.out.block k hk))
 ·
  rcases hk with rfl | hk
  · exact .inl (.inl rfl)
  ·
   rcases HU4.out.fresh k hk with h | h
   · exact .inl (.inr h)
   · exact .inr (Nat.le_trans HG3.out.size h)
end Go.Proofs.YtdmhemgepdknhaaGreat
