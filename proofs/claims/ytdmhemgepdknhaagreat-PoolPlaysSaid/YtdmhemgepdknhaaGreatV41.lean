/-
  Texts, put together: PoolPlaysWalk.
-/
import Derived.Test.YtdmhemgepdknhaaGreatV1
import Derived.Test.YtdmhemgepdknhaaGreatV39
import Derived.Test.YtdmhemgepdknhaaGreatV40
set_option linter.unusedVariables false
set_option linter.unusedSimpArgs false
namespace Go.Proofs.YtdmhemgepdknhaaGreat
open Go.RowKit Go.Maps
def SlPl58Z (x:Sec) (_:Nat) (_:Nat) (j:Nat) (_:World) (b2:Nat) (_:Nat) (sG:Nat) (sC:Nat) (slot:Nat) (v:Value) (_:World):Prop:=
 match slot with
 | 265=>v=.int .i64 0
 | 266 | 267 | 276 | 277 | 278 | 288 | 289 | 281 | 282=>v=.bool false
 | 268 | 275 | 279=>v=.agg x.cells.toArray
 | 269 | 270 | 271=>v=.pointer (some ⟨b2,0,none⟩)
 | 272=>v=.slice (some ⟨sG,0,none⟩) 64 sC
 | 273=>v=.int .i64 (j:Int)
 | 274=>v=.pointer (some ⟨sG,j*256,none⟩)
 | 280=>v=.agg Sec.zero.cells.toArray
 | _=>True
def SlPl58N (x:Sec) (Y:Nat) (lb:Nat) (j:Nat) (_:World) (b2:Nat) (l:Nat) (sG:Nat) (sC:Nat) (slot:Nat) (v:Value) (_:World):Prop:=
 match slot with
 | 265=>v=.int .i64 0
 | 266 | 267 | 276 | 277 | 278 | 288 | 289 | 287=>v=.bool false
 | 268 | 275 | 279 | 283=>v=.agg x.cells.toArray
 | 269 | 270 | 271=>v=.pointer (some ⟨b2,0,none⟩)
 | 272=>v=.slice (some ⟨sG,0,none⟩) 64 sC
 | 273=>v=.int .i64 (j:Int)
 | 274=>v=.pointer (some ⟨sG,j*256,none⟩)
 | 280=>v=.agg Sec.zero.cells.toArray
 | 281 | 282=>v=.bool true
 | 284=>v=.int .u64 (Y:Int)
 | 285=>v=.pointer (some ⟨l,0,none⟩)
 | 286=>v=.int .u64 (lb:Int)
 | _=>True
set_option maxRecDepth 100000 in
set_option maxHeartbeats 8000000 in
theorem poolPlays_walk (fr:Int) (hd:Bool) (p:Option Addr) (n c:Nat) (w:World) (hb:PActs w p n c) :
  Calls Tryz.prog 3 #[.int .i64 fr,.bool hd,.slice p n c] w fun e w'=>e=.returned (.bool true)∧Below w.heap.size w w':=by
 have HK:Hid (∀ W,Calls Tryz.prog 8 #[] W fun e w'=>e=.returned (.bool true)∧Gr W w'):=Lib.hid fun W=>known07_any W
 have HB:=Lib.hid hb;clear hb
 go_enter Tryz.func3,Tryz.ntmps3
 by_cases g1:(80:Int) < (n:Int)
 ·
  go_wp2_with fail;refine (HK.out w).mono ?_;rintro e wk ⟨rfl,g⟩;have HG:=Lib.hid g;clear g;go_wp2_with fail
  go_ret
  exact ⟨rfl,HG.out⟩
 by_cases g2:8≤fr∧fr≤4096
 ·
  have HBe:Hid (∀ W,Calls Tryz.prog 9 #[.int .i64 fr,.bool hd] W (RetBeg7 fr hd W)):=Lib.hid fun W=>begin7_any fr hd W g2.1 g2.2
  have HNw:Hid (∀ W,Calls Tryz.prog 10 #[.int .i64 64,.int .i64 fr,.bool hd] W fun e w'=>∃ b sv,e=.returned (.pointer (some ⟨b,0,none⟩))∧DpAt w' b sv (.slice none 0 0) ⟨fr,hd,-1,fun _=>none⟩ (List.replicate 64 Sec.zero) 0 []∧(∀ q,dpS b sv (.slice none 0 0) q→W.heap.size≤q)∧Gr W w'):=Lib.hid fun W=>dNew_any W fr hd
  have HI0:=Lib.hid (PpI.begin hd g2.1 g2.2);have HN:Hid (n≤80):=Lib.hid (by omega);have f1:decide (fr < 8)=false:=decide_eq_false (by omega);have f2:decide ((4096:Int) < fr)=false:=decide_eq_false (by omega)
  have f1b:¬ fr < 8:=by omega
  have f2b:¬ (4096:Int) < fr:=by omega
  go_wp2_with fail;refine (HBe.out w).mono ?_;rintro e w1 ⟨d,l,b,m,S,rfl,h1,h2,h3⟩;have HP:=Lib.hid (And.intro h1 (And.intro h2 h3));clear h1 h2 h3 HBe g1 g2;go_wp2_with fail;refine (HNw.out _).mono ?_;rintro e w2 ⟨b2,sv,rfl,k1,k2,k3⟩;have HI:Hid (PpS w w2 d l b m b2 1000000 [] fun _ _ _=>True):=Lib.hid ⟨P0 fr hd,zeroD,L0,List.replicate 64 Sec.zero,HI0.out,trivial,KpQ.pp ⟨S,_,_,HP.out.1,HP.out.2.1,HP.out.2.2,fun x hx=>by cases hx⟩ k3 k1 k2⟩;clear k1 k2 k3 HP HI0 HNw f1 f2 f1b f2b;go_wp2_with fail
  go_loopw [12] (fun kv wr=>∃ k:Nat,k≤n∧kv=.int .i64 (k:Int)∧Hid (PpS w wr d l b m b2 (1000000 - 500*k) [] fun _ _ _=>True)) (fun kv _=>n - (intOf kv).toNat)
  case atStart=>exact ⟨0,Nat.zero_le _,rfl,HI⟩
  case round=>
   obtain ⟨k,hk,rfl,HJ⟩:=hrel
   by_cases hlt:k < n
   ·
    have g3:(k:Int) < (n:Int):=by omega
    have hw:IntKind.i64.wrap ((k:Int)+1)=((k+1:Nat):Int):=by rw [IntWalk.i64_in _ (by have:=HN.out;omega)];omega
    obtain ⟨pb0,o,a,rfl,hrow⟩:=HB.out.row k hlt;obtain ⟨hc,hin⟩:=hrow wr HJ.out.blk.2;have c0:wr.cell? ⟨pb0,o+k*5,none⟩=some (.int .i64 a.kind):=hc 0 _ rfl;have c1:wr.cell? ⟨pb0,o+k*5+1,none⟩=some (.int .i64 a.page):=hc 1 _ rfl;have c2:wr.cell? ⟨pb0,o+k*5+2,none⟩=some (.int .i64 a.off):=hc 2 _ rfl;have c3:wr.cell? ⟨pb0,o+k*5+3,none⟩=some (.int .i64 a.n):=hc 3 _ rfl;have c4:wr.cell? ⟨pb0,o+k*5+4,none⟩=some (.slice a.pb a.nb a.cb):=hc 4 _ rfl
    have HRow:Hid (∀ V,Gr w V→a.In V):=Lib.hid fun V g=>(hrow V g).2
    obtain ⟨kind,page,off,num,pb,nb,cb,ys⟩:=a
    dsimp only at c0 c1 c2 c3 c4
    clear hc hin hrow;obtain ⟨W4,hW4⟩:∃ W4,W4=wr.alloc (.cells #[.int .i64 kind,.int .i64 page,.int .i64 off,.int .i64 num,.slice pb nb cb] TPa):=⟨_,rfl⟩;have HW4:=Lib.hid hW4.symm
    have HQ:Hid (PpS w W4 d l b m b2 (1000000 - 500*k) [(wr.heap.size,TPa,#[.int .i64 kind,.int .i64 page,.int .i64 off,.int .i64 num,.slice pb nb cb])] fun _ _ _=>True):=Lib.hid (by
     rw [hW4]
     exact HJ.out.box _ _)
    have HSk:Hid (Hid (PpS w W4 d l b m b2 (1000000 - 500*(k+1)) [] fun _ _ _=>True)):=Lib.hid (Lib.hid (HQ.out.less (by omega) (fun x hx=>by cases hx)));have HM:Hid (200≤1000000 - 500*k∧1000000 - 500*(k+1)≤1000000 - 500*k - 200):=Lib.hid (by have:=HN.out;omega);have HKn:Hid (k < n):=Lib.hid hlt;clear hW4 hlt hk
    go_upto_region 13 with fail
    rw [HW4.out];clear c0 c1 c2 c3 c4 g3;have hA:=HQ.out.blk.1 _ (List.mem_singleton.2 rfl);have a1:W4.cell? ⟨wr.heap.size,1,none⟩=some (.int .i64 page):=hA.cell 1;have a4:W4.cell? ⟨wr.heap.size,4,none⟩=some (.slice pb nb cb):=hA.cell 4;clear hA
    go_cut [88] (fun v wc=>∃ B:Bool,v=.bool B∧W4=wc∧Hid (B=false→page < 0∨19≤page))
    case first=>as_aux_lemma=>
     by_cases p1:0≤page∧page < 19
     ·
      have q1:decide (0≤page)=true:=decide_eq_true p1.1;have q2:decide (page < 19)=true:=decide_eq_true p1.2;go_wp2_with fail
      go_meet
      exact ⟨true,rfl,rfl,Lib.hid fun h=>by cases h⟩
     have HPg:Hid (page < 0∨19≤page):=Lib.hid (by omega);obtain ⟨B,hB⟩:∃ B,B=decide ((300:Int) < (nb:Int)):=⟨_,rfl⟩;have q3:decide ((300:Int) < (nb:Int))=B:=hB.symm;clear hB
     by_cases p3:0≤page
     ·
      have q1:decide (0≤page)=true:=decide_eq_true p3;have q2:decide (page < 19)=false:=decide_eq_false (by omega);clear p1;go_wp2_with fail
      go_meet
      exact ⟨B,rfl,rfl,Lib.hid fun _=>HPg.out⟩
     ·
      have q1:decide (0≤page)=false:=decide_eq_false p3;clear p1;go_wp2_with fail
      go_meet
      exact ⟨B,rfl,rfl,Lib.hid fun _=>HPg.out⟩
    case rest=>as_aux_lemma=>
     obtain ⟨B,rfl,rfl,HPB⟩:=hcut;clear a1 a4
     cases B with
     | true=>
      clear HPB HQ HRow;go_wp2_with fail
      go_roundw
      case rel=>exact ⟨k+1,by have:=HKn.out;omega,by go_num,HSk.out⟩
      case measure=>have:=HKn.out;simp [intOf];omega
     | false=>
      have HPg:Hid (page < 0∨19≤page):=Lib.hid (HPB.out rfl);clear HPB HSk;have a0:W4.cell? ⟨wr.heap.size,0,none⟩=some (.int .i64 kind):=(HQ.out.blk.1 _ (List.mem_singleton.2 rfl)).cell 0
      go_upto_block 2 with fail
      go_cut [] (fun wc=>Hid (PpS w wc d l b m b2 (1000000 - 500*k - 200) [] fun _ _ _=>True))
      case first=>as_aux_lemma=>
       have HPgs:Hid (∀ V,Blk V wr.heap.size TPa #[.int .i64 kind,.int .i64 page,.int .i64 off,.int .i64 num,.slice pb nb cb]→V.cell? ⟨wr.heap.size,0,none⟩=some (.int .i64 kind)∧V.cell? ⟨wr.heap.size,1,none⟩=some (.int .i64 page)∧V.cell? ⟨wr.heap.size,2,none⟩=some (.int .i64 off)∧V.cell? ⟨wr.heap.size,3,none⟩=some (.int .i64 num)∧V.cell? ⟨wr.heap.size,4,none⟩=some (.slice pb nb cb)):=Lib.hid fun V h=>⟨h.cell 0,h.cell 1,h.cell 2,h.cell 3,h.cell 4⟩
       by_cases k1:kind=1
       ·
        subst k1;have a1:=(HPgs.out W4 (HQ.out.blk.1 _ (List.mem_singleton.2 rfl))).2.1;go_wp2_with fail;refine (HQ.out.get2 HM.out.1 HPg.out).mono ?_;rintro e w5 ⟨x,y,z,rfl,hd5⟩;have hz:=Pzero_sec;have HB5:Hid (Blk (w5.alloc (.cells (Psec PSec.zero) PTS)) w5.heap.size PTS (Psec PSec.zero)):=Lib.hid (Blk.new _ _ _);obtain ⟨W6,hW6⟩:∃ W6,W6=(w5.alloc (.cells (Psec PSec.zero) PTS)).setRow w5.heap.size (Psec x):=⟨_,rfl⟩;have HW6:=Lib.hid hW6.symm;have HD6:=Lib.hid (hd5.newrow (Psec PSec.zero) PTS (Psec x))
        rw [← hW6] at HD6
        have b1:=(HPgs.out W6 (HD6.out.blk.1 _ (List.mem_cons_of_mem _ (List.mem_singleton.2 rfl)))).2.1;clear hd5 hW6 a0 a1
        go_wp2_with (refine PwpList_store_x rfl (.tmp 14) (.tmp 98) rfl HB5.out rfl rfl ?_;rw [HW6.out])
        refine HD6.out.go.mono ?_;rintro e w7 ⟨rfl,hq7⟩;have HB7:Hid (Blk (w7.alloc (.cells (Psec PSec.zero) PTS)) w7.heap.size PTS (Psec PSec.zero)):=Lib.hid (Blk.new _ _ _);obtain ⟨W8,hW8⟩:∃ W8,W8=(w7.alloc (.cells (Psec PSec.zero) PTS)).setRow w7.heap.size (Psec x):=⟨_,rfl⟩;have HW8:=Lib.hid hW8.symm;have HQ8:=Lib.hid (hq7.newrow (Psec PSec.zero) PTS (Psec x))
        rw [← hW8] at HQ8
        have HX8:Hid (Blk W8 w7.heap.size PTS (Psec x)∧Blk W8 w5.heap.size PTS (Psec x)):=Lib.hid ⟨HQ8.out.blk.1 _ (List.mem_cons.2 (.inl rfl)),HQ8.out.blk.1 _ (List.mem_cons_of_mem _ (List.mem_cons.2 (.inl rfl)))⟩;have hne:=Pneq_sec x x
        rw [decide_eq_true (rfl:x=x)] at hne
        have HE:Hid (Hid (PpS w W8 d l b m b2 (1000000 - 500*k - 200) [] fun _ _ _=>True)):=Lib.hid (Lib.hid (HQ8.out.less (Nat.le_refl _) (fun x hx=>by cases hx)));clear hq7 hW8 b1
        go_wp2_with (first | (refine PwpList_store_x rfl (.tmp 17) (.tmp 106) rfl HB7.out rfl rfl ?_;rw [HW8.out]) | (refine PwpList_load_x rfl (.tmp 14) rfl HX8.out.2 rfl ?_) | (refine PwpList_load_x rfl (.tmp 17) rfl HX8.out.1 rfl ?_))
        go_meet
        exact HE.out
       have e1:(kind == 1)=false:=beq_eq_false_iff_ne.2 k1
       by_cases k2:kind=2
       ·
        subst k2;go_wp2_with fail;refine HQ.out.note.mono ?_;rintro e w3 ⟨av,fv,xv,rfl,hna,hnf,hq3⟩;have HQ3:=Lib.hid hq3;have HNV:=Lib.hid (And.intro hna hnf);clear hna hnf hq3 a0
        cases xv with
        | false=>
         go_wp2_with fail;refine (HK.out w3).mono ?_;rintro e w4 ⟨rfl,g⟩;have HG:=Lib.hid (Gr.trans HQ3.out.blk.2 g);clear g;go_wp2_with fail
         go_ret
         exact ⟨rfl,HG.out⟩
        | true=>
         have hy0:=(HRow.out w (Gr.refl w)).b
         dsimp only at hy0
         have HY0:=Lib.hid hy0
         have HS:Hid (∀ V,Gr w3 V→V.cell? ⟨wr.heap.size,1,none⟩=some (.int .i64 page)∧V.cell? ⟨wr.heap.size,2,none⟩=some (.int .i64 off)∧V.cell? ⟨wr.heap.size,4,none⟩=some (.slice pb nb cb)):=Lib.hid fun V g=>by
          have h:=(HQ3.out.blk.1 _ (List.mem_singleton.2 rfl)).gr g;exact ⟨h.cell 1,h.cell 2,h.cell 4⟩
         have HPA:Hid (∀ V,Gr w3 V→Calls Tryz.prog 14 #[.pointer (some ⟨b,0,none⟩),.int .i64 page,.int .i64 off,.slice pb nb cb,.int .u64 (av:Int),.int .u64 (fv:Int)] V fun e w'=>∃ x:Int,e=.returned (.int .i64 x)∧PpD w w' d l b m b2 (1000000 - 500*k - 200) [(wr.heap.size,TPa,#[.int .i64 2,.int .i64 page,.int .i64 off,.int .i64 num,.slice pb nb cb])] 15 #[.pointer (some ⟨b2,0,none⟩),.int .i64 page,.int .i64 off,.slice pb nb cb,.int .u64 (av:Int),.int .u64 (fv:Int)] (.int .i64 x)):=Lib.hid fun V g=>PpS.put (f:=fv) ((HQ3.out.gr g).imp fun s L ss h=>by omega) HM.out.1 HPg.out (by have:=HNV.out;omega) HNV.out.1 HY0.out (fun w1 g1=>(HRow.out w1 g1).b)
         have a0:=(HQ3.out.blk.1 _ (List.mem_singleton.2 rfl)).cell 0;have hS0:=HS.out w3 (Gr.refl _);have hS1:=HS.out w3.drew (Gr.refl _).drew;clear hy0
         go_upto_region 27 with fail
         clear a0
         go_region_held3 (fun V=>V.cell? ⟨wr.heap.size,1,none⟩=some (.int .i64 page)∧V.cell? ⟨wr.heap.size,2,none⟩=some (.int .i64 off)∧V.cell? ⟨wr.heap.size,4,none⟩=some (.slice pb nb cb)) (first | exact hS0 | exact hS1 | exact hS2 | exact hS3) (first
          | (go_at_call 15;refine HM9.out.go.mono ?_;rintro e w10 ⟨rfl,hq10⟩;have HV:=Lib.hid hq10;have hS3:w10.cell? ⟨wr.heap.size,1,none⟩=some (.int .i64 page)∧w10.cell? ⟨wr.heap.size,2,none⟩=some (.int .i64 off)∧w10.cell? ⟨wr.heap.size,4,none⟩=some (.slice pb nb cb):=⟨(HV.out.blk.1 _ (List.mem_singleton.2 rfl)).cell 1,(HV.out.blk.1 _ (List.mem_singleton.2 rfl)).cell 2,(HV.out.blk.1 _ (List.mem_singleton.2 rfl)).cell 4⟩;clear hq10)
          | (go_at_call 14;refine (HPA.out _ (Gr.refl w3).drew).mono ?_;rintro e w9 ⟨xr,rfl,hq9⟩;have HM9:=Lib.hid hq9;have hS2:w9.cell? ⟨wr.heap.size,1,none⟩=some (.int .i64 page)∧w9.cell? ⟨wr.heap.size,2,none⟩=some (.int .i64 off)∧w9.cell? ⟨wr.heap.size,4,none⟩=some (.slice pb nb cb):=⟨(HM9.out.blk.1 _ (List.mem_singleton.2 rfl)).cell 1,(HM9.out.blk.1 _ (List.mem_singleton.2 rfl)).cell 2,(HM9.out.blk.1 _ (List.mem_singleton.2 rfl)).cell 4⟩;clear hq9))
         have HE:Hid (Hid (PpS w w10 d l b m b2 (1000000 - 500*k - 200) [] fun _ _ _=>True)):=Lib.hid (Lib.hid (HV.out.less (Nat.le_refl _) (fun x hx=>by cases hx)));clear hS0 hS1 hS2 hS3;go_wp2_with fail
         go_meet
         exact HE.out
       have e2:(kind == 2)=false:=beq_eq_false_iff_ne.2 k2
       by_cases k7:kind=7
       ·
        subst k7;go_wp2_with fail;refine HQ.out.note.mono ?_;rintro e w3 ⟨av,fv,xv,rfl,hna,hnf,hq3⟩;have HQ3:=Lib.hid hq3;have HNV:=Lib.hid (And.intro hna hnf);clear hna hnf hq3 a0
        cases xv with
        | false=>
         go_wp2_with fail;refine (HK.out w3).mono ?_;rintro e w4 ⟨rfl,g⟩;have HG:=Lib.hid (Gr.trans HQ3.out.blk.2 g);clear g;go_wp2_with fail
         go_ret
         exact ⟨rfl,HG.out⟩
        | true=>
         have hy0:=(HRow.out w (Gr.refl w)).b
         dsimp only at hy0
         have HY0:=Lib.hid hy0
         have HS:Hid (∀ V,Gr w3 V→V.cell? ⟨wr.heap.size,1,none⟩=some (.int .i64 page)∧V.cell? ⟨wr.heap.size,2,none⟩=some (.int .i64 off)∧V.cell? ⟨wr.heap.size,4,none⟩=some (.slice pb nb cb)):=Lib.hid fun V g=>by
          have h:=(HQ3.out.blk.1 _ (List.mem_singleton.2 rfl)).gr g;exact ⟨h.cell 1,h.cell 2,h.cell 4⟩
         have HPA:Hid (∀ V,Gr w3 V→Calls Tryz.prog 14 #[.pointer (some ⟨b,0,none⟩),.int .i64 page,.int .i64 off,.slice pb nb cb,.int .u64 (av:Int),.int .u64 0] V fun e w'=>∃ x:Int,e=.returned (.int .i64 x)∧PpD w w' d l b m b2 (1000000 - 500*k - 200) [(wr.heap.size,TPa,#[.int .i64 7,.int .i64 page,.int .i64 off,.int .i64 num,.slice pb nb cb])] 15 #[.pointer (some ⟨b2,0,none⟩),.int .i64 page,.int .i64 off,.slice pb nb cb,.int .u64 (av:Int),.int .u64 0] (.int .i64 x)):=Lib.hid fun V g=>PpS.put (f:=0) ((HQ3.out.gr g).imp fun s L ss h=>by omega) HM.out.1 HPg.out (by have:=HNV.out;omega) HNV.out.1 HY0.out (fun w1 g1=>(HRow.out w1 g1).b)
         have a0:=(HQ3.out.blk.1 _ (List.mem_singleton.2 rfl)).cell 0;have hS0:=HS.out w3 (Gr.refl _);have hS1:=HS.out w3.drew (Gr.refl _).drew;clear hy0
         go_upto_region 27 with fail
         clear a0
         go_region_held3 (fun V=>V.cell? ⟨wr.heap.size,1,none⟩=some (.int .i64 page)∧V.cell? ⟨wr.heap.size,2,none⟩=some (.int .i64 off)∧V.cell? ⟨wr.heap.size,4,none⟩=some (.slice pb nb cb)) (first | exact hS0 | exact hS1 | exact hS2 | exact hS3) (first
          | (go_at_call 15;refine HM9.out.go.mono ?_;rintro e w10 ⟨rfl,hq10⟩;have HV:=Lib.hid hq10;have hS3:w10.cell? ⟨wr.heap.size,1,none⟩=some (.int .i64 page)∧w10.cell? ⟨wr.heap.size,2,none⟩=some (.int .i64 off)∧w10.cell? ⟨wr.heap.size,4,none⟩=some (.slice pb nb cb):=⟨(HV.out.blk.1 _ (List.mem_singleton.2 rfl)).cell 1,(HV.out.blk.1 _ (List.mem_singleton.2 rfl)).cell 2,(HV.out.blk.1 _ (List.mem_singleton.2 rfl)).cell 4⟩;clear hq10)
          | (go_at_call 14;refine (HPA.out _ (Gr.refl w3).drew).mono ?_;rintro e w9 ⟨xr,rfl,hq9⟩;have HM9:=Lib.hid hq9;have hS2:w9.cell? ⟨wr.heap.size,1,none⟩=some (.int .i64 page)∧w9.cell? ⟨wr.heap.size,2,none⟩=some (.int .i64 off)∧w9.cell? ⟨wr.heap.size,4,none⟩=some (.slice pb nb cb):=⟨(HM9.out.blk.1 _ (List.mem_singleton.2 rfl)).cell 1,(HM9.out.blk.1 _ (List.mem_singleton.2 rfl)).cell 2,(HM9.out.blk.1 _ (List.mem_singleton.2 rfl)).cell 4⟩;clear hq9))
         have HE:Hid (Hid (PpS w w10 d l b m b2 (1000000 - 500*k - 200) [] fun _ _ _=>True)):=Lib.hid (Lib.hid (HV.out.less (Nat.le_refl _) (fun x hx=>by cases hx)));clear hS0 hS1 hS2 hS3;go_wp2_with fail
         go_meet
         exact HE.out
       have e7:(kind == 7)=false:=beq_eq_false_iff_ne.2 k7
       by_cases k3:kind=3
       ·
        subst k3
        have HPA:Hid (∀ V,Gr W4 V→Calls Tryz.prog 16 #[.pointer (some ⟨b,0,none⟩),.int .i64 page] V fun e w'=>∃ x:Int,e=.returned (.int .i64 x)∧PpD w w' d l b m b2 (1000000 - 500*k - 200) [(wr.heap.size,TPa,#[.int .i64 3,.int .i64 page,.int .i64 off,.int .i64 num,.slice pb nb cb])] 17 #[.pointer (some ⟨b2,0,none⟩),.int .i64 page] (.int .i64 x)):=Lib.hid fun V g=>(HQ.out.gr g).write HM.out.1 HPg.out
        have hS0:W4.cell? ⟨wr.heap.size,1,none⟩=some (.int .i64 page):=(HPgs.out W4 (HQ.out.blk.1 _ (List.mem_singleton.2 rfl))).2.1;have hS1:W4.drew.cell? ⟨wr.heap.size,1,none⟩=some (.int .i64 page):=(HPgs.out W4.drew ((HQ.out.gr (Gr.refl W4).drew).blk.1 _ (List.mem_singleton.2 rfl))).2.1
        go_upto_region 30 with fail
        clear a0
        go_region_held3 (fun V=>V.cell? ⟨wr.heap.size,1,none⟩=some (.int .i64 page)) (first | exact hS0 | exact hS1 | exact hS2 | exact hS3) (first
         | (go_at_call 17;refine HM9.out.go.mono ?_;rintro e w10 ⟨rfl,hq10⟩;have HV:=Lib.hid hq10;have hS3:w10.cell? ⟨wr.heap.size,1,none⟩=some (.int .i64 page):=(HV.out.blk.1 _ (List.mem_singleton.2 rfl)).cell 1;clear hq10)
         | (go_at_call 16;refine (HPA.out _ (Gr.refl W4).drew).mono ?_;rintro e w9 ⟨xr,rfl,hq9⟩;have HM9:=Lib.hid hq9;have hS2:w9.cell? ⟨wr.heap.size,1,none⟩=some (.int .i64 page):=(HM9.out.blk.1 _ (List.mem_singleton.2 rfl)).cell 1;clear hq9))
        have HE:Hid (Hid (PpS w w10 d l b m b2 (1000000 - 500*k - 200) [] fun _ _ _=>True)):=Lib.hid (Lib.hid (HV.out.less (Nat.le_refl _) (fun x hx=>by cases hx)));clear hS0 hS1 hS2 hS3;go_wp2_with fail
        go_meet
        exact HE.out
       have e3:(kind == 3)=false:=beq_eq_false_iff_ne.2 k3
       by_cases k4:kind=4
       ·
        subst k4;go_wp2_with fail;refine (HQ.out.writeAll HM.out.1).mono ?_;rintro e w5 ⟨rfl,hd5⟩;have HD5:=Lib.hid hd5;clear hd5 a0;go_wp2_with fail;refine HD5.out.go.mono ?_;rintro e w6 ⟨rfl,hq6⟩;have HE:Hid (Hid (PpS w w6 d l b m b2 (1000000 - 500*k - 200) [] fun _ _ _=>True)):=Lib.hid (Lib.hid (hq6.less (Nat.le_refl _) (fun x hx=>by cases hx)));clear hq6;go_wp2_with fail
        go_meet
        exact HE.out
       have e4:(kind == 4)=false:=beq_eq_false_iff_ne.2 k4
       by_cases k5:kind=5
       ·
        subst k5;go_wp2_with fail;refine HQ.out.lets.mono ?_;rintro e w5 ⟨rfl,g5,hb5,⟨x5,hx5⟩,hf5,hq5⟩;have HE:Hid (Hid (PpS w (w5.setCell ⟨b2,3,none⟩ (.bool false)) d l b m b2 (1000000 - 500*k - 200) [] fun _ _ _=>True)):=Lib.hid (Lib.hid (hq5.less (by omega) (fun x hx=>by cases hx)));clear hq5 hb5 g5 a0;go_wp2_with fail
        go_meet
        exact HE.out
       have e5:(kind == 5)=false:=beq_eq_false_iff_ne.2 k5;have HE:Hid (Hid (PpS w W4 d l b m b2 (1000000 - 500*k - 200) [] fun _ _ _=>True)):=Lib.hid (Lib.hid (HQ.out.less (by omega) (fun x hx=>by cases hx)))
       by_cases k6:kind=6
       ·
        subst k6;have a3:=(HPgs.out W4 (HQ.out.blk.1 _ (List.mem_singleton.2 rfl))).2.2.2.1
        by_cases n0:0≤num
        ·
         have n1:decide (0≤num)=true:=decide_eq_true n0;go_wp2_with fail;refine (HK.out W4).mono ?_;rintro e wk ⟨rfl,g⟩;have HG:=Lib.hid (Gr.trans HQ.out.blk.2 g);clear g;go_wp2_with fail
         go_ret
         exact ⟨rfl,HG.out⟩
        ·
         have n1:decide (0≤num)=false:=decide_eq_false n0;go_wp2_with fail
         go_meet
         exact HE.out
       have e6:(kind == 6)=false:=beq_eq_false_iff_ne.2 k6;go_wp2_with fail
       go_meet
       exact HE.out
      case rest=>as_aux_lemma=>
       clear HQ HRow HPg HW4 HJ a0;obtain ⟨xs0,N0,hd0,nf0,y0,la,sg0,sc0,ss0,hL0⟩:=hcut.out.looks;have HLa:=Lib.hid hL0.lC;clear hL0;go_wp2_with fail;refine (HLa.out wc (Gr.refl _)).mono ?_;rintro e w5 ⟨rfl,g5⟩;obtain ⟨⟨x4,hx4⟩,hf4,hq5⟩:=(hcut.out.gr g5).la la;obtain ⟨W6,hW6⟩:∃ W6,W6=w5.setCell ⟨b2,4,none⟩ (.int .u64 (la:Int)):=⟨_,rfl⟩;have HW6:=Lib.hid hW6.symm
       rw [← hW6] at hq5
       have HQ6:=Lib.hid hq5;clear g5 hq5 hW6 HLa;obtain ⟨xs,N,hd,nf,y,lb,sG,sC,ss,hL⟩:=HQ6.out.looks;have HL:=Lib.hid hL;clear hL
       go_upto_region 42 with fail
       rw [HW6.out];clear hx4 hf4;go_wp2_with fail;refine (HL.out.dC W6 (Gr.refl _)).mono ?_;rintro e w7 ⟨v7,rfl,hi7,g7⟩;obtain ⟨p7,c7,rfl,hr7⟩:=hi7.rows;have HR7:=Lib.hid hr7;have HG7:=Lib.hid g7;clear hi7 hr7 g7;go_wp2_with fail;refine (HL.out.dD w7 HG7.out).mono ?_;rintro e w8 ⟨v8,rfl,hi8,g8⟩;obtain ⟨p8,c8,rfl,hr8⟩:=hi8.rows
       have HR8:Hid (∀ V,Gr w8 V→∀ j,j < xs.length→(∃ g,p7=some ⟨g,0,none⟩∧V.cell? ⟨g,j,none⟩=some (.int .i64 ((xs.getD j 0:Nat):Int)))∧(∃ g,p8=some ⟨g,0,none⟩∧V.cell? ⟨g,j,none⟩=some (.int .i64 ((xs.getD j 0:Nat):Int)))):=Lib.hid fun V g j hj=>⟨HR7.out V (Gr.trans g8 g) j hj,hr8 V g j hj⟩
       have HG8:=Lib.hid (Gr.trans HG7.out g8);obtain ⟨X,hX⟩:∃ X,X=xs.length:=⟨_,rfl⟩;have HXb:Hid (X≤64):=Lib.hid (by rw [hX];exact HL.out.len.1)
       rw [← hX] at HR8 ⊢
       clear hi8 hr8 g8 HR7 HG7 hX
       have hxx:((X:Int) != (X:Int))=false:=by simp
       have hnn:((N:Int) != (N:Int))=false:=by simp
       have hhh:(hd != hd)=false:=by simp
       have hN64:(N:Int)≤64:=by have:=HL.out.len;omega
       obtain ⟨t1,⟨pA,cA,t2⟩,t3⟩:=HL.out.cells w8 HG8.out
       have HnC:=Lib.hid fun nq:Nat=>HL.out.nC (w8.drewN nq) (Gr.trans HG8.out ⟨rfl,rfl,rfl,Nat.le_refl _,fun _ _=>rfl⟩)
       have HhC:=Lib.hid fun nq:Nat=>HL.out.hC (w8.drewN nq) (Gr.trans HG8.out ⟨rfl,rfl,rfl,Nat.le_refl _,fun _ _=>rfl⟩)
       go_upto_region 43 with fail
       go_quiet (first | exact Calls.quiet_of ((HnC.out _).mono fun _ _ h=>⟨h.1,0,h.2.symm⟩) | exact Calls.quiet_of ((HhC.out _).mono fun _ _ h=>⟨h.1,0,h.2.symm⟩))
       obtain ⟨W9,hW9⟩:∃ W9,W9=w8.drewN nq:=⟨_,rfl⟩;rw [← hW9];have HG9:Hid (Gr w8 W9):=Lib.hid (by rw [hW9];exact ⟨rfl,rfl,rfl,Nat.le_refl _,fun _ _=>rfl⟩);clear hW9 t1 t2 t3 HnC HhC hnn hhh hN64 hxx;go_wp2_with fail
       go_loopw [25] (fun jv wr=>∃ j:Nat,j≤X∧jv=.int .i64 (j:Int)∧Hid (Gr W9 wr)) (fun jv _=>X - (intOf jv).toNat)
       case atStart=>exact ⟨0,Nat.zero_le _,rfl,Lib.hid (Gr.refl _)⟩
       case round=>
        as_aux_lemma=>
         obtain ⟨j,hj,rfl,HG⟩:=hrel;have HX:=HXb
         by_cases hlt:j < X
         ·
          have g3:(j:Int) < (X:Int):=by omega
          have hq:IntKind.i64.wrap ((j:Int)+1)=((j+1:Nat):Int):=by rw [IntWalk.i64_in _ (by have:=HX.out;omega)];omega
          obtain ⟨⟨ga,rfl,r1⟩,⟨gb,rfl,r2⟩⟩:=HR8.out wr (Gr.trans HG9.out HG.out) j hlt;obtain ⟨Y,hY⟩:∃ Y:Nat,Y=xs.getD j 0:=⟨_,rfl⟩
          rw [← hY] at r1 r2
          clear hY
          have hyy:((Y:Int) != (Y:Int))=false:=by simp
          have hX2:(X:Int)≤1000000000:=by have:=HX.out;omega
          go_wp2_with fail
          go_quiet (fail)
          obtain ⟨Wa,hWa⟩:∃ Wa,Wa=wr.drewN nq:=⟨_,rfl⟩;rw [← hWa];have HGa:Hid (Gr W9 Wa):=Lib.hid (by rw [hWa];exact Gr.trans HG.out ⟨rfl,rfl,rfl,Nat.le_refl _,fun _ _=>rfl⟩);clear hWa r1 r2;go_wp2_with fail
          go_roundw
          case rel=>exact ⟨j+1,by omega,by go_num,HGa⟩
          case measure=>simp [intOf];omega
         ·
          obtain rfl:j=X:=by omega
          clear HR8 HXb HX;go_wp2_with fail;refine (HL.out.fC wr (Gr.trans HG8.out (Gr.trans HG9.out HG.out))).mono ?_;rintro e wa ⟨rfl,ga⟩;have HGa:=Lib.hid (Gr.trans (Gr.trans HG8.out (Gr.trans HG9.out HG.out)) ga);clear ga;go_wp2_with fail;refine (HL.out.fD wa HGa.out).mono ?_;rintro e wb ⟨rfl,gb⟩;have HGb:=Lib.hid (Gr.trans HGa.out gb);clear gb HGa HG HG9 HG8
          have hff:((nf:Int) != (nf:Int))=false:=by simp
          have hyb:(y != y)=false:=by simp
          go_wp2_with fail
          go_loopw [30] (fun gv wr=>∃ j:Nat,19≤j∧j≤64∧gv=.int .i64 (j:Int)∧Hid (Gr W6 wr)) (fun gv _=>64 - (intOf gv).toNat)
          case atStart=>exact ⟨19,by omega,by omega,rfl,HGb⟩
          case round=>
           as_aux_lemma=>
            obtain ⟨j,hj19,hj,rfl,HG⟩:=hrel
            by_cases hlt:j < 64
            ·
             have g3:(j:Int) < 64:=by omega
             have hq:IntKind.i64.wrap ((j:Int)+1)=((j+1:Nat):Int):=by rw [IntWalk.i64_in _ (by omega)];omega
             have HR:=Lib.hid (HL.out.rd wr HG.out j hj19 hlt)
             have HSe:=Lib.hid fun V (g:Gr W6 V)=>HL.out.sec V g j hj19 hlt
             have HLst:=Lib.hid (HL.out.last j hj19 hlt);obtain ⟨x,hx⟩:∃ x,x=ss.getD j Sec.zero:=⟨_,rfl⟩
             rw [← hx] at HR HSe HLst
             have HJ6:Hid (19≤j∧j < 64):=Lib.hid ⟨hj19,hlt⟩;have hz:=zero_sec;clear hx hlt hj19;go_wp2_with fail;refine HR.out.mono ?_;rintro e w6 ⟨rfl,g6⟩;have HN6:Hid (Blk (w6.alloc (.cells (sec Sec.zero) TS)) w6.heap.size TS (sec Sec.zero)):=Lib.hid (Blk.new _ _ _);obtain ⟨W7,hW7⟩:∃ W7,W7=(w6.alloc (.cells (sec Sec.zero) TS)).setRow w6.heap.size (sec x):=⟨_,rfl⟩;have HW7:=Lib.hid hW7.symm
             have HB7:Hid (Blk W7 w6.heap.size TS (sec x)∧Gr W6 W7):=Lib.hid (by
              rw [hW7]
              exact ⟨HN6.out.row _,below_setRow (Gr.trans HG.out (Gr.trans g6 (Gr.new _ _))) (Nat.le_trans HG.out.size g6.size) _⟩)
             have HS:Hid (∀ V,Gr W7 V→V.rangeAt w6.heap.size 0 x.cells∧V.cell? ⟨b2,0,none⟩=some (.slice (some ⟨sG,0,none⟩) 64 sC)∧V.rangeAt sG (j*256) x.cells):=Lib.hid fun V g=>
              ⟨(HB7.out.1.gr g).one,(HL.out.cells V (Gr.trans HB7.out.2 g)).1,HSe.out V (Gr.trans HB7.out.2 g)⟩
             obtain ⟨Y,hY⟩:∃ Y,Y=lsnS x:=⟨_,rfl⟩
             have HLs:Hid (∀ V,Calls Tryz.prog 29 #[.agg x.cells.toArray] V fun e w'=>e=.returned (.int .u64 (Y:Int))∧Gr V w'):=Lib.hid fun V=>by
              have h:=LSN_any (secN_sec x) V
              rw [Sx_secN] at h
              rw [hY];exact h
             have HLa:Hid (∀ V,Gr W7 V→Calls Tryz.prog 21 #[.pointer (some ⟨l,0,none⟩)] V fun e w'=>e=.returned (.int .u64 (lb:Int))∧Gr V w'):=Lib.hid fun V g=>HL.out.lC V (Gr.trans HB7.out.2 g)
             have hYl:decide (lb < Y)=false:=decide_eq_false (by have:=HLst.out;omega);clear g6 hW7 HR hY
             go_wp2_with (refine wpList_store_x rfl (.tmp 31) (.tmp 263) rfl HN6.out rfl rfl ?_;rw [HW7.out])
             have hqq:∀ V,(binOp .neq TS (.agg x.cells.toArray) (.agg x.cells.toArray)).run Tryz.prog V=.ok (.bool false) V:=fun V=>by
              have h:=neq_sec x x V
              rw [decide_eq_true (rfl:x=x)] at h
              exact h
             have hI0:(0:Int)≤(j:Int):=by omega
             have hI1:(j:Int) < 64:=by have:=HJ6.out.2;omega
             by_cases hxz:x=Sec.zero
             ·
              have hqz:∀ V,(binOp .neq TS (.agg x.cells.toArray) (.agg Sec.zero.cells.toArray)).run Tryz.prog V=.ok (.bool false) V:=fun V=>by
               have h:=neq_sec x Sec.zero V
               rw [decide_eq_true hxz] at h
               exact h
              clear hxz;refine Flow.region (SlPl58Z x Y lb j w6 b2 l sG sC) (Gr W7) (fun _ _=>True) (by kernel_rfl) (by kernel_rfl) (fun _ _ _ _ h _=>h) ⟨rfl,rfl,rfl,Nat.le_refl _,fun _ _=>rfl⟩ ?steps ?fin
              case steps=>
               refine .cons (fun a W hfr hinv hdep K hK=>?_) ?_
               · have t32:=tAt (.int .i64 0) (hfr.at 32 (by kernel_rfl));refine fW0 rfl ?_;clear hfr hdep;go_simp;exact hK _ _ True.intro hinv (dsT (by trivial))
               refine .cons (fun a W hfr hinv hdep K hK=>?_) ?_
               · have t265:=tAt (.int .i64 0) (hdep 265 (by kernel_rfl));refine fW0 rfl ?_;clear hfr hdep;go_simp;exact hK _ _ True.intro hinv (dsT (by trivial))
               refine .cons (fun a W hfr hinv hdep K hK=>?_) ?_
               · have t266:=tAt (.bool false) (hdep 266 (by kernel_rfl));refine fW0 rfl ?_;clear hfr hdep;go_simp;exact hK _ _ True.intro hinv (dsT (by trivial))
               refine .cons (fun a W hfr hinv hdep K hK=>?_) ?_
               ·
                have sg:a.tmps.getD 267 undef=.bool false:=hdep 267 (by kernel_rfl)
                have s31:a.tmps.getD 31 undef=.pointer (some ⟨w6.heap.size,0,none⟩):=hfr.at 31 (by kernel_rfl)
                have t31:=tmpAt s31;rw [if_pos (Flow.wanted_yes 2 false 267 rfl (by kernel_rfl) sg)];clear hfr hdep;exact wp_load_mid TS (.tmp 31) rfl _ _ s31 x.cells _ (HS.out W hinv).1 under_sec rfl (by rw [Sec.cells_len];exact size_sec) (hK _ _ True.intro hinv (dsT rfl))
               refine .cons (fun a W hfr hinv hdep K hK=>?_) ?_
               · have sg:a.tmps.getD 267 undef=.bool false:=hdep 267 (by kernel_rfl);have t11:=tAt (.pointer (some ⟨b2,0,none⟩)) (hfr.at 11 (by kernel_rfl));rw [if_pos (Flow.wanted_yes 2 false 267 rfl (by kernel_rfl) sg)];clear hfr hdep;go_simp;exact hK _ _ True.intro hinv (dsT (by trivial))
               refine .cons (fun a W hfr hinv hdep K hK=>?_) ?_
               · have sg:a.tmps.getD 267 undef=.bool false:=hdep 267 (by kernel_rfl);have t269:=tAt (.pointer (some ⟨b2,0,none⟩)) (hdep 269 (by kernel_rfl));rw [if_pos (Flow.wanted_yes 2 false 267 rfl (by kernel_rfl) sg)];clear hfr hdep;go_simp;exact hK _ _ True.intro hinv (dsT (by trivial))
               refine .cons (fun a W hfr hinv hdep K hK=>?_) ?_
               · have sg:a.tmps.getD 267 undef=.bool false:=hdep 267 (by kernel_rfl);have t270:=tAt (.pointer (some ⟨b2,0,none⟩)) (hdep 270 (by kernel_rfl));rw [if_pos (Flow.wanted_yes 2 false 267 rfl (by kernel_rfl) sg)];clear hfr hdep;go_simp;exact hK _ _ True.intro hinv (dsT (by trivial))
               refine .cons (fun a W hfr hinv hdep K hK=>?_) ?_
               · have sg:a.tmps.getD 267 undef=.bool false:=hdep 267 (by kernel_rfl);have t271:=tAt (.pointer (some ⟨b2,0,none⟩)) (hdep 271 (by kernel_rfl));obtain ⟨-,e2,-⟩:=HS.out W hinv;rw [if_pos (Flow.wanted_yes 2 false 267 rfl (by kernel_rfl) sg)];clear hfr hdep;go_simp;exact hK _ _ True.intro hinv (dsT (by trivial))
               refine .cons (fun a W hfr hinv hdep K hK=>?_) ?_
               · have sg:a.tmps.getD 267 undef=.bool false:=hdep 267 (by kernel_rfl);have t30:=tAt (.int .i64 (j:Int)) (hfr.at 30 (by kernel_rfl));rw [if_pos (Flow.wanted_yes 2 false 267 rfl (by kernel_rfl) sg)];clear hfr hdep;go_simp;exact hK _ _ True.intro hinv (dsT (by trivial))
               refine .cons (fun a W hfr hinv hdep K hK=>?_) ?_
               · have sg:a.tmps.getD 267 undef=.bool false:=hdep 267 (by kernel_rfl);have t272:=tAt (.slice (some ⟨sG,0,none⟩) 64 sC) (hdep 272 (by kernel_rfl));have t273:=tAt (.int .i64 (j:Int)) (hdep 273 (by kernel_rfl));rw [if_pos (Flow.wanted_yes 2 false 267 rfl (by kernel_rfl) sg)];clear hfr hdep;go_simp;exact hK _ _ True.intro hinv (dsT (by trivial))
               refine .cons (fun a W hfr hinv hdep K hK=>?_) ?_
               · have sg:a.tmps.getD 267 undef=.bool false:=hdep 267 (by kernel_rfl);have s274:a.tmps.getD 274 undef=.pointer (some ⟨sG,j*256,none⟩):=hdep 274 (by kernel_rfl);have t274:=tmpAt s274;rw [if_pos (Flow.wanted_yes 2 false 267 rfl (by kernel_rfl) sg)];clear hfr hdep;exact wp_load_mid TS (.tmp 274) rfl _ _ s274 x.cells _ (HS.out W hinv).2.2 under_sec rfl (by rw [Sec.cells_len];exact size_sec) (hK _ _ True.intro hinv (dsT rfl))
               refine .cons (fun a W hfr hinv hdep K hK=>?_) ?_
               · have sg:a.tmps.getD 267 undef=.bool false:=hdep 267 (by kernel_rfl);have t268:=tAt (.agg x.cells.toArray) (hdep 268 (by kernel_rfl));have t275:=tAt (.agg x.cells.toArray) (hdep 275 (by kernel_rfl));have hxx:=hqq W;rw [if_pos (Flow.wanted_yes 2 false 267 rfl (by kernel_rfl) sg)];clear hfr hdep;go_simp;exact hK _ _ True.intro hinv (dsT (by trivial))
               refine .cons (fun a W hfr hinv hdep K hK=>?_) ?_
               · have t267:=tAt (.bool false) (hdep 267 (by kernel_rfl));have t276:=tAt (.bool false) (hdep 276 (by kernel_rfl));refine fW0 rfl ?_;clear hfr hdep;go_simp;exact hK _ _ True.intro hinv (dsT (by trivial))
               refine .cons (fun a W hfr hinv hdep K hK=>?_) ?_
               · have t277:=tAt (.bool false) (hdep 277 (by kernel_rfl));refine fW0 rfl ?_;clear hfr hdep;go_simp;exact hK _ _ True.intro hinv (dsT (by trivial))
               refine .cons (fun a W hfr hinv hdep K hK=>?_) ?_
               ·
                have sg:a.tmps.getD 278 undef=.bool false:=hdep 278 (by kernel_rfl)
                have s31:a.tmps.getD 31 undef=.pointer (some ⟨w6.heap.size,0,none⟩):=hfr.at 31 (by kernel_rfl)
                have t31:=tmpAt s31;rw [if_pos (Flow.wanted_yes 13 false 278 rfl (by kernel_rfl) sg)];clear hfr hdep;exact wp_load_mid TS (.tmp 31) rfl _ _ s31 x.cells _ (HS.out W hinv).1 under_sec rfl (by rw [Sec.cells_len];exact size_sec) (hK _ _ True.intro hinv (dsT rfl))
               refine .cons (fun a W hfr hinv hdep K hK=>?_) ?_
               · have sg:a.tmps.getD 278 undef=.bool false:=hdep 278 (by kernel_rfl);rw [if_pos (Flow.wanted_yes 13 false 278 rfl (by kernel_rfl) sg)];clear hfr hdep;have hbz:=run_build_zero W;go_simp;exact hK _ _ True.intro hinv (dsT rfl)
               refine .cons (fun a W hfr hinv hdep K hK=>?_) ?_
               · have sg:a.tmps.getD 278 undef=.bool false:=hdep 278 (by kernel_rfl);have t279:=tAt (.agg x.cells.toArray) (hdep 279 (by kernel_rfl));have t280:=tAt (.agg Sec.zero.cells.toArray) (hdep 280 (by kernel_rfl));have hxz:=hqz W;rw [if_pos (Flow.wanted_yes 13 false 278 rfl (by kernel_rfl) sg)];clear hfr hdep;go_simp;exact hK _ _ True.intro hinv (dsT (by trivial))
               refine .cons (fun a W hfr hinv hdep K hK=>?_) ?_
               · have sg:a.tmps.getD 278 undef=.bool false:=hdep 278 (by kernel_rfl);have t281:=tAt (.bool false) (hdep 281 (by kernel_rfl));rw [if_pos (Flow.wanted_yes 13 false 278 rfl (by kernel_rfl) sg)];clear hfr hdep;go_simp;exact hK _ _ True.intro hinv (dsT (by trivial))
               refine .cons (fun a W hfr hinv hdep K hK=>?_) ?_
               · have sg:a.tmps.getD 282 undef=.bool !true:=hdep 282 (by kernel_rfl);have t31:=tAt (.pointer (some ⟨w6.heap.size,0,none⟩)) (hfr.at 31 (by kernel_rfl));obtain ⟨-,e2,-⟩:=HS.out W hinv;rw [if_neg (Flow.wanted_no 17 true 282 rfl (by kernel_rfl) sg)];clear hfr hdep;exact hK _ _ True.intro hinv (dsT (by trivial))
               refine .cons (fun a W hfr hinv hdep K hK=>?_) ?_
               · have sg:a.tmps.getD 282 undef=.bool !true:=hdep 282 (by kernel_rfl);rw [if_neg (Flow.wanted_no 17 true 282 rfl (by kernel_rfl) sg)];clear hfr hdep;exact hK _ _ True.intro hinv (dsT (by trivial))
               refine .cons (fun a W hfr hinv hdep K hK=>?_) ?_
               · have sg:a.tmps.getD 282 undef=.bool !true:=hdep 282 (by kernel_rfl);have t8:=tAt (.pointer (some ⟨l,0,none⟩)) (hfr.at 8 (by kernel_rfl));rw [if_neg (Flow.wanted_no 17 true 282 rfl (by kernel_rfl) sg)];clear hfr hdep;exact hK _ _ True.intro hinv (dsT (by trivial))
               refine .cons (fun a W hfr hinv hdep K hK=>?_) ?_
               · have sg:a.tmps.getD 282 undef=.bool !true:=hdep 282 (by kernel_rfl);rw [if_neg (Flow.wanted_no 17 true 282 rfl (by kernel_rfl) sg)];clear hfr hdep;exact hK _ _ True.intro hinv (dsT (by trivial))
               refine .cons (fun a W hfr hinv hdep K hK=>?_) ?_
               · have sg:a.tmps.getD 282 undef=.bool !true:=hdep 282 (by kernel_rfl);rw [if_neg (Flow.wanted_no 17 true 282 rfl (by kernel_rfl) sg)];clear hfr hdep;exact hK _ _ True.intro hinv (dsT (by trivial))
               refine .cons (fun a W hfr hinv hdep K hK=>?_) ?_
               · have sg:a.tmps.getD 278 undef=.bool false:=hdep 278 (by kernel_rfl);have t282:=tAt (.bool false) (hdep 282 (by kernel_rfl));rw [if_pos (Flow.wanted_yes 13 false 278 rfl (by kernel_rfl) sg)];clear hfr hdep;go_simp;exact hK _ _ True.intro hinv (dsT (by trivial))
               refine .cons (fun a W hfr hinv hdep K hK=>?_) ?_
               · have t278:=tAt (.bool false) (hdep 278 (by kernel_rfl));have t288:=tAt (.bool false) (hdep 288 (by kernel_rfl));refine fW0 rfl ?_;clear hfr hdep;go_simp;exact hK _ _ True.intro hinv (dsT (by trivial))
               exact True.intro
              case fin=>
               intro a W hfr hfin hsl
               have s289:a.tmps.getD 289 undef=.bool false:=hsl 24 _ 289 rfl rfl;have t289:=tmpAt s289;have e:=Flow.frame hfr [265,266,267,268,269,270,271,272,273,274,275,276,277,278,279,280,281,282,283,284,285,286,287,288,289] (List.range 291) (by kernel_rfl) (by kernel_rfl)
               simp (maxSteps:=4000000) [List.range,List.range.loop] at e
               rw [t289] at e
               rw [e];clear e hfr hsl s289 t289
               rename_i K2 hK2
               refine hK2 _ _ ?_;have HG7:=Lib.hid (Gr.trans HB7.out.2 hfin);clear hfin hqq hqz;go_wp2_with fail
               go_roundw
               case rel=>exact ⟨j+1,by have:=HJ6.out;omega,by have:=HJ6.out;omega,by go_num,HG7⟩
               case measure=>have:=HJ6.out;simp [intOf];omega
             ·
              have hqz:∀ V,(binOp .neq TS (.agg x.cells.toArray) (.agg Sec.zero.cells.toArray)).run Tryz.prog V=.ok (.bool true) V:=fun V=>by
               have h:=neq_sec x Sec.zero V
               rw [decide_eq_false hxz] at h
               exact h
              clear hxz;refine Flow.region (SlPl58N x Y lb j w6 b2 l sG sC) (Gr W7) (fun _ _=>True) (by kernel_rfl) (by kernel_rfl) (fun _ _ _ _ h _=>h) ⟨rfl,rfl,rfl,Nat.le_refl _,fun _ _=>rfl⟩ ?steps ?fin
              case steps=>
               refine .cons (fun a W hfr hinv hdep K hK=>?_) ?_
               · have t32:=tAt (.int .i64 0) (hfr.at 32 (by kernel_rfl));refine fW0 rfl ?_;clear hfr hdep;go_simp;exact hK _ _ True.intro hinv (dsT (by trivial))
               refine .cons (fun a W hfr hinv hdep K hK=>?_) ?_
               · have t265:=tAt (.int .i64 0) (hdep 265 (by kernel_rfl));refine fW0 rfl ?_;clear hfr hdep;go_simp;exact hK _ _ True.intro hinv (dsT (by trivial))
               refine .cons (fun a W hfr hinv hdep K hK=>?_) ?_
               · have t266:=tAt (.bool false) (hdep 266 (by kernel_rfl));refine fW0 rfl ?_;clear hfr hdep;go_simp;exact hK _ _ True.intro hinv (dsT (by trivial))
               refine .cons (fun a W hfr hinv hdep K hK=>?_) ?_
               ·
                have sg:a.tmps.getD 267 undef=.bool false:=hdep 267 (by kernel_rfl)
                have s31:a.tmps.getD 31 undef=.pointer (some ⟨w6.heap.size,0,none⟩):=hfr.at 31 (by kernel_rfl)
                have t31:=tmpAt s31;rw [if_pos (Flow.wanted_yes 2 false 267 rfl (by kernel_rfl) sg)];clear hfr hdep;exact wp_load_mid TS (.tmp 31) rfl _ _ s31 x.cells _ (HS.out W hinv).1 under_sec rfl (by rw [Sec.cells_len];exact size_sec) (hK _ _ True.intro hinv (dsT rfl))
               refine .cons (fun a W hfr hinv hdep K hK=>?_) ?_
               · have sg:a.tmps.getD 267 undef=.bool false:=hdep 267 (by kernel_rfl);have t11:=tAt (.pointer (some ⟨b2,0,none⟩)) (hfr.at 11 (by kernel_rfl));rw [if_pos (Flow.wanted_yes 2 false 267 rfl (by kernel_rfl) sg)];clear hfr hdep;go_simp;exact hK _ _ True.intro hinv (dsT (by trivial))
               refine .cons (fun a W hfr hinv hdep K hK=>?_) ?_
               · have sg:a.tmps.getD 267 undef=.bool false:=hdep 267 (by kernel_rfl);have t269:=tAt (.pointer (some ⟨b2,0,none⟩)) (hdep 269 (by kernel_rfl));rw [if_pos (Flow.wanted_yes 2 false 267 rfl (by kernel_rfl) sg)];clear hfr hdep;go_simp;exact hK _ _ True.intro hinv (dsT (by trivial))
               refine .cons (fun a W hfr hinv hdep K hK=>?_) ?_
               · have sg:a.tmps.getD 267 undef=.bool false:=hdep 267 (by kernel_rfl);have t270:=tAt (.pointer (some ⟨b2,0,none⟩)) (hdep 270 (by kernel_rfl));rw [if_pos (Flow.wanted_yes 2 false 267 rfl (by kernel_rfl) sg)];clear hfr hdep;go_simp;exact hK _ _ True.intro hinv (dsT (by trivial))
               refine .cons (fun a W hfr hinv hdep K hK=>?_) ?_
               · have sg:a.tmps.getD 267 undef=.bool false:=hdep 267 (by kernel_rfl);have t271:=tAt (.pointer (some ⟨b2,0,none⟩)) (hdep 271 (by kernel_rfl));obtain ⟨-,e2,-⟩:=HS.out W hinv;rw [if_pos (Flow.wanted_yes 2 false 267 rfl (by kernel_rfl) sg)];clear hfr hdep;go_simp;exact hK _ _ True.intro hinv (dsT (by trivial))
               refine .cons (fun a W hfr hinv hdep K hK=>?_) ?_
               · have sg:a.tmps.getD 267 undef=.bool false:=hdep 267 (by kernel_rfl);have t30:=tAt (.int .i64 (j:Int)) (hfr.at 30 (by kernel_rfl));rw [if_pos (Flow.wanted_yes 2 false 267 rfl (by kernel_rfl) sg)];clear hfr hdep;go_simp;exact hK _ _ True.intro hinv (dsT (by trivial))
               refine .cons (fun a W hfr hinv hdep K hK=>?_) ?_
               · have sg:a.tmps.getD 267 undef=.bool false:=hdep 267 (by kernel_rfl);have t272:=tAt (.slice (some ⟨sG,0,none⟩) 64 sC) (hdep 272 (by kernel_rfl));have t273:=tAt (.int .i64 (j:Int)) (hdep 273 (by kernel_rfl));rw [if_pos (Flow.wanted_yes 2 false 267 rfl (by kernel_rfl) sg)];clear hfr hdep;go_simp;exact hK _ _ True.intro hinv (dsT (by trivial))
               refine .cons (fun a W hfr hinv hdep K hK=>?_) ?_
               · have sg:a.tmps.getD 267 undef=.bool false:=hdep 267 (by kernel_rfl);have s274:a.tmps.getD 274 undef=.pointer (some ⟨sG,j*256,none⟩):=hdep 274 (by kernel_rfl);have t274:=tmpAt s274;rw [if_pos (Flow.wanted_yes 2 false 267 rfl (by kernel_rfl) sg)];clear hfr hdep;exact wp_load_mid TS (.tmp 274) rfl _ _ s274 x.cells _ (HS.out W hinv).2.2 under_sec rfl (by rw [Sec.cells_len];exact size_sec) (hK _ _ True.intro hinv (dsT rfl))
               refine .cons (fun a W hfr hinv hdep K hK=>?_) ?_
               · have sg:a.tmps.getD 267 undef=.bool false:=hdep 267 (by kernel_rfl);have t268:=tAt (.agg x.cells.toArray) (hdep 268 (by kernel_rfl));have t275:=tAt (.agg x.cells.toArray) (hdep 275 (by kernel_rfl));have hxx:=hqq W;rw [if_pos (Flow.wanted_yes 2 false 267 rfl (by kernel_rfl) sg)];clear hfr hdep;go_simp;exact hK _ _ True.intro hinv (dsT (by trivial))
               refine .cons (fun a W hfr hinv hdep K hK=>?_) ?_
               · have t267:=tAt (.bool false) (hdep 267 (by kernel_rfl));have t276:=tAt (.bool false) (hdep 276 (by kernel_rfl));refine fW0 rfl ?_;clear hfr hdep;go_simp;exact hK _ _ True.intro hinv (dsT (by trivial))
               refine .cons (fun a W hfr hinv hdep K hK=>?_) ?_
               · have t277:=tAt (.bool false) (hdep 277 (by kernel_rfl));refine fW0 rfl ?_;clear hfr hdep;go_simp;exact hK _ _ True.intro hinv (dsT (by trivial))
               refine .cons (fun a W hfr hinv hdep K hK=>?_) ?_
               ·
                have sg:a.tmps.getD 278 undef=.bool false:=hdep 278 (by kernel_rfl)
                have s31:a.tmps.getD 31 undef=.pointer (some ⟨w6.heap.size,0,none⟩):=hfr.at 31 (by kernel_rfl)
                have t31:=tmpAt s31;rw [if_pos (Flow.wanted_yes 13 false 278 rfl (by kernel_rfl) sg)];clear hfr hdep;exact wp_load_mid TS (.tmp 31) rfl _ _ s31 x.cells _ (HS.out W hinv).1 under_sec rfl (by rw [Sec.cells_len];exact size_sec) (hK _ _ True.intro hinv (dsT rfl))
               refine .cons (fun a W hfr hinv hdep K hK=>?_) ?_
               · have sg:a.tmps.getD 278 undef=.bool false:=hdep 278 (by kernel_rfl);rw [if_pos (Flow.wanted_yes 13 false 278 rfl (by kernel_rfl) sg)];clear hfr hdep;have hbz:=run_build_zero W;go_simp;exact hK _ _ True.intro hinv (dsT rfl)
               refine .cons (fun a W hfr hinv hdep K hK=>?_) ?_
               · have sg:a.tmps.getD 278 undef=.bool false:=hdep 278 (by kernel_rfl);have t279:=tAt (.agg x.cells.toArray) (hdep 279 (by kernel_rfl));have t280:=tAt (.agg Sec.zero.cells.toArray) (hdep 280 (by kernel_rfl));have hxz:=hqz W;rw [if_pos (Flow.wanted_yes 13 false 278 rfl (by kernel_rfl) sg)];clear hfr hdep;go_simp;exact hK _ _ True.intro hinv (dsT (by trivial))
               refine .cons (fun a W hfr hinv hdep K hK=>?_) ?_
               · have sg:a.tmps.getD 278 undef=.bool false:=hdep 278 (by kernel_rfl);have t281:=tAt (.bool true) (hdep 281 (by kernel_rfl));rw [if_pos (Flow.wanted_yes 13 false 278 rfl (by kernel_rfl) sg)];clear hfr hdep;go_simp;exact hK _ _ True.intro hinv (dsT (by trivial))
               refine .cons (fun a W hfr hinv hdep K hK=>?_) ?_
               ·
                have sg:a.tmps.getD 282 undef=.bool true:=hdep 282 (by kernel_rfl)
                have s31:a.tmps.getD 31 undef=.pointer (some ⟨w6.heap.size,0,none⟩):=hfr.at 31 (by kernel_rfl)
                have t31:=tmpAt s31;rw [if_pos (Flow.wanted_yes 17 true 282 rfl (by kernel_rfl) sg)];clear hfr hdep;exact wp_load_mid TS (.tmp 31) rfl _ _ s31 x.cells _ (HS.out W hinv).1 under_sec rfl (by rw [Sec.cells_len];exact size_sec) (hK _ _ True.intro hinv (dsT rfl))
               refine .cons (fun a W hfr hinv hdep K hK=>?_) ?_
               · have sg:a.tmps.getD 282 undef=.bool true:=hdep 282 (by kernel_rfl);have t283:=tAt (.agg x.cells.toArray) (hdep 283 (by kernel_rfl));rw [if_pos (Flow.wanted_yes 17 true 282 rfl (by kernel_rfl) sg)];clear hfr hdep;go_simp;refine (HLs.out W).mono ?_;rintro e W' ⟨rfl,g1⟩;exact hK _ _ True.intro (Gr.trans hinv g1) (dsT (by trivial))
               refine .cons (fun a W hfr hinv hdep K hK=>?_) ?_
               · have sg:a.tmps.getD 282 undef=.bool true:=hdep 282 (by kernel_rfl);have t8:=tAt (.pointer (some ⟨l,0,none⟩)) (hfr.at 8 (by kernel_rfl));rw [if_pos (Flow.wanted_yes 17 true 282 rfl (by kernel_rfl) sg)];clear hfr hdep;go_simp;exact hK _ _ True.intro hinv (dsT (by trivial))
               refine .cons (fun a W hfr hinv hdep K hK=>?_) ?_
               · have sg:a.tmps.getD 282 undef=.bool true:=hdep 282 (by kernel_rfl);have t285:=tAt (.pointer (some ⟨l,0,none⟩)) (hdep 285 (by kernel_rfl));rw [if_pos (Flow.wanted_yes 17 true 282 rfl (by kernel_rfl) sg)];clear hfr hdep;go_simp;refine (HLa.out W hinv).mono ?_;rintro e W' ⟨rfl,g1⟩;exact hK _ _ True.intro (Gr.trans hinv g1) (dsT (by trivial))
               refine .cons (fun a W hfr hinv hdep K hK=>?_) ?_
               · have sg:a.tmps.getD 282 undef=.bool true:=hdep 282 (by kernel_rfl);have t284:=tAt (.int .u64 (Y:Int)) (hdep 284 (by kernel_rfl));have t286:=tAt (.int .u64 (lb:Int)) (hdep 286 (by kernel_rfl));rw [if_pos (Flow.wanted_yes 17 true 282 rfl (by kernel_rfl) sg)];clear hfr hdep;go_simp;exact hK _ _ True.intro hinv (dsT (by trivial))
               refine .cons (fun a W hfr hinv hdep K hK=>?_) ?_
               · have sg:a.tmps.getD 278 undef=.bool false:=hdep 278 (by kernel_rfl);have t282:=tAt (.bool true) (hdep 282 (by kernel_rfl));have t287:=tAt (.bool false) (hdep 287 (by kernel_rfl));rw [if_pos (Flow.wanted_yes 13 false 278 rfl (by kernel_rfl) sg)];clear hfr hdep;go_simp;exact hK _ _ True.intro hinv (dsT (by trivial))
               refine .cons (fun a W hfr hinv hdep K hK=>?_) ?_
               · have t278:=tAt (.bool false) (hdep 278 (by kernel_rfl));have t288:=tAt (.bool false) (hdep 288 (by kernel_rfl));refine fW0 rfl ?_;clear hfr hdep;go_simp;exact hK _ _ True.intro hinv (dsT (by trivial))
               exact True.intro
              case fin=>
               intro a W hfr hfin hsl
               have s289:a.tmps.getD 289 undef=.bool false:=hsl 24 _ 289 rfl rfl;have t289:=tmpAt s289;have e:=Flow.frame hfr [265,266,267,268,269,270,271,272,273,274,275,276,277,278,279,280,281,282,283,284,285,286,287,288,289] (List.range 291) (by kernel_rfl) (by kernel_rfl)
               simp (maxSteps:=4000000) [List.range,List.range.loop] at e
               rw [t289] at e
               rw [e];clear e hfr hsl s289 t289
               rename_i K2 hK2
               refine hK2 _ _ ?_;have HG7:=Lib.hid (Gr.trans HB7.out.2 hfin);clear hfin hqq hqz;go_wp2_with fail
               go_roundw
               case rel=>exact ⟨j+1,by have:=HJ6.out;omega,by have:=HJ6.out;omega,by go_num,HG7⟩
               case measure=>have:=HJ6.out;simp [intOf];omega
            ·
             obtain rfl:j=64:=by omega
             have HE:Hid (Hid (PpS w wr d l b m b2 (1000000 - 500*(k+1)) [] fun _ _ _=>True)):=Lib.hid (Lib.hid ((HQ6.out.gr HG.out).less HM.out.2 (fun x hx=>by cases hx)));clear hj hj19 hlt;go_wp2_with fail
             go_roundw
             case rel=>exact ⟨k+1,by have:=HKn.out;omega,by go_num,HE.out⟩
             case measure=>have:=HKn.out;simp [intOf];omega
   ·
    have g3:¬ ((k:Int) < (n:Int)):=by omega
    go_wp2_with fail;refine (HK.out wr).mono ?_;rintro e wk ⟨rfl,g⟩;have HG:=Lib.hid (Gr.trans HJ.out.blk.2 g);clear g;go_wp2_with fail
    go_ret
    exact ⟨rfl,HG.out⟩
 ·
  have HBe:Hid (∀ W,Calls Tryz.prog 9 #[.int .i64 fr,.bool hd] W fun e w'=>∃ d l,e=.returned (.tuple #[.pointer (some ⟨d,0,none⟩),.pointer (some ⟨l,0,none⟩),.pointer none,.bool false])∧Gr W w'):=Lib.hid fun W=>begin7_no fr hd W g2
  have HFr:=Lib.hid g2;clear g2;go_wp2_with fail;refine (HBe.out w).mono ?_;rintro e w1 ⟨d,l,rfl,h1⟩;have HG1:=Lib.hid h1;clear h1 HBe g1
  by_cases h8:fr < 8
  ·
   have e1:decide (fr < 8)=true:=decide_eq_true h8;go_wp2_with fail;refine (HK.out _).mono ?_;rintro e wk ⟨rfl,g⟩;have HG:=Lib.hid (Gr.trans HG1.out g);clear g;go_wp2_with fail
   go_ret
   exact ⟨rfl,HG.out⟩
  ·
   have e1:decide (fr < 8)=false:=decide_eq_false h8
   have e2b:(4096:Int) < fr:=by have:=HFr.out;omega
   have e2:decide ((4096:Int) < fr)=true:=decide_eq_true e2b;go_wp2_with fail;refine (HK.out _).mono ?_;rintro e wk ⟨rfl,g⟩;have HG:=Lib.hid (Gr.trans HG1.out g);clear g;go_wp2_with fail
   go_ret
   exact ⟨rfl,HG.out⟩
end Go.Proofs.YtdmhemgepdknhaaGreat
