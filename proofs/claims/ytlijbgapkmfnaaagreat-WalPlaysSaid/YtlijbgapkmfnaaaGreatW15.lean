/-
  Part 15 of what the laws of stage 6 rest on: contracts of the functions that they call, and what these rest on.
-/
import Derived.Test.YtlijbgapkmfnaaaGreatW2
import Derived.Test.YtlijbgapkmfnaaaGreatW3
import Derived.Test.YtlijbgapkmfnaaaGreatW4
import Derived.Test.YtlijbgapkmfnaaaGreatW13
import Derived.Test.YtlijbgapkmfnaaaGreatW14
import Derived.Test.YtlijbgapkmfnaaaGreatW1
set_option linter.unusedVariables false
set_option linter.unusedSimpArgs false
namespace Go.Proofs.YtlijbgapkmfnaaaGreat
open Go.RowKit Go.Maps
def SlDc (bp:Nat) (U:Nat) (db:Nat) (pw:Value) (q:Option Addr) (m:Nat) (c:Nat) (slot:Nat) (v:Value) (_:World):Prop:=
 match slot with
 | 145=>v=.pointer (some ⟨bp,0,none⟩)
 | 146=>v=.pointer (some ⟨bp,0,none⟩)
 | 147=>v=.pointer (some ⟨bp,0,none⟩)
 | 148=>v=.pointer (some ⟨bp,0,none⟩)
 | 149=>v=.pointer (some ⟨bp,0,none⟩)
 | 150=>v=.pointer (some ⟨db,0,none⟩)
 | 151=>v=.pointer (some ⟨U,10,none⟩)
 | 152=>v=.slice q m c
 | 154=>v=.pointer (some ⟨bp,0,none⟩)
 | 155=>v=.pointer (some ⟨bp,0,none⟩)
 | 156=>v=.pointer (some ⟨bp,1,none⟩)
 | 157=>v=pw
 | 158=>v=.pointer (some ⟨U,10,none⟩)
 | 159=>v=.slice q m c
 | 161=>v=.pointer (some ⟨bp,0,none⟩)
 | 162=>v=.pointer (some ⟨bp,0,none⟩)
 | 163=>v=.pointer (some ⟨bp,0,none⟩)
 | 164=>v=.pointer (some ⟨bp,1,none⟩)
 | _=>True
set_option maxRecDepth 100000 in
set_option maxHeartbeats 2000000 in
theorem do_crash6 {w0 w:World} {bp:Nat} {S T:Nat→Prop} {pd pw pl pm:Value} {s:St} {L:Lg} {M i:Nat} (h:PrB w0 w bp S T pd pw pl pm s L s L M) (hk:WpK i s L M) (hi:i < 100) (n:Int) (z:Rc) (pb:Option Addr) (nb cb:Nat) (pa:Option Addr) (na ca:Nat) (q:Option Addr) (m c:Nat) (byt:Int) (zs:List Int) (hz:∀ W,Gr w0 W→Nums W q m c zs) :
  Calls Tryz.prog 8 #[.pointer (some ⟨bp,0,none⟩),.agg #[.int .i64 7,.int .i64 n,.int .i64 z.k,.int .u64 (z.t:Int),.int .u64 (z.p:Int),.int .u64 (z.x:Int),.int .i64 z.g,.int .i64 z.o,.slice pb nb cb,.slice pa na ca,.slice q m c,.int .u8 byt]] w (RetDo w0 bp i):=by
 obtain ⟨⟨lb,rfl⟩,db,rfl⟩:=h.code.ptr;obtain ⟨mb,rfl,_⟩:=h.doc.cells;obtain ⟨W1,hW1⟩:∃ W1,W1=w.alloc (.cells #[.int .i64 7,.int .i64 n,.int .i64 z.k,.int .u64 (z.t:Int),.int .u64 (z.p:Int),.int .u64 (z.x:Int),.int .i64 z.g,.int .i64 z.o,.slice pb nb cb,.slice pa na ca,.slice q m c,.int .u8 byt] TAw):=⟨_,rfl⟩;have HB:Hid (DoB w0 w W1 bp #[.int .i64 7,.int .i64 n,.int .i64 z.k,.int .u64 (z.t:Int),.int .u64 (z.p:Int),.int .u64 (z.x:Int),.int .i64 z.g,.int .i64 z.o,.slice pb nb cb,.slice pa na ca,.slice q m c,.int .u8 byt] S T (.pointer (some ⟨db,0,none⟩)) pw (.pointer (some ⟨lb,0,none⟩)) (.pointer (some ⟨mb,0,none⟩)) s L s L M):=Lib.hid (by rw [hW1];exact DoB.start h _);have HW1:=Lib.hid hW1.symm;have HK:=Lib.hid hk;have HI:=Lib.hid hi;obtain ⟨U,hU⟩:∃ U,U=w.heap.size:=⟨_,rfl⟩;have HU:=Lib.hid hU.symm;obtain ⟨s4,hs4⟩:∃ s4,s4=s.crash zs:=⟨_,rfl⟩;have HS4:Hid (s4.ls.length=64∧s4.writes=0∧∀ i,(s4.t i).length=0):=Lib.hid ⟨by rw [hs4];show ((List.range s.ls.length).map _).length=64;rw [List.length_map,List.length_range,hk.len],by rw [hs4];rfl,fun i=>by rw [hs4];rfl⟩;have HNz:Hid (∀ W,Gr w0 W→Nums W q m c zs):=Lib.hid hz
 have HBW:Hid (∀ W,Gr W1 W→W.cell? ⟨bp,0,none⟩=some (.pointer (some ⟨db,0,none⟩))∧W.cell? ⟨bp,1,none⟩=some pw∧Blk W bp TPr #[(.pointer (some ⟨db,0,none⟩)),pw,(.pointer (some ⟨lb,0,none⟩)),(.pointer (some ⟨mb,0,none⟩))]):=Lib.hid fun W g=>by
  have h:=HB.out.pr.blk.gr g;exact ⟨h.cell 0,h.cell 1,h⟩
 have HAc:Hid (∀ W,Gr W1 W→W.cell? ⟨U,10,none⟩=some (.slice q m c)):=Lib.hid fun W g=>by
  rw [hU];exact (HB.out.blk.gr g).cell 10
 have HCr1:Hid (∀ W,Gr W1 W→Calls Tryz.prog 25 #[(.pointer (some ⟨db,0,none⟩)),.slice q m c] W fun e w'=>NewDk W w' e s4):=Lib.hid fun W g=>by
  obtain ⟨F,hd,_⟩:=(HB.out.pr.code.gr g).disk (w':=W);rw [hs4];exact Crash_any W hd (by have:=HK.out.wr;have:=HK.out.cnt;omega) q m c zs (HNz.out W (Gr.trans HB.out.pr.gr g))
 have HCr2:Hid (∀ W,Gr W1 W→Calls Tryz.prog 26 #[pw,.slice q m c] W fun e w'=>NewRf W w' e s4):=Lib.hid fun W g=>by
  obtain ⟨G,hr,_⟩:=(HB.out.pr.doc.gr g).disk (w':=W);rw [hs4];exact refCrash_any W hr (fun i=>by have:=HK.out.less i;have:=HK.out.wr;have:=HK.out.cnt;omega) q m c zs (HNz.out W (Gr.trans HB.out.pr.gr g))
 have HMb:Hid (∀ W,KeepB bp W1 W→W.cell? ⟨mb,2,none⟩=some (.int .u64 L.epoch)∧W.cell? ⟨mb,3,none⟩=some (.int .u64 L.tail)):=Lib.hid fun W hkb=>by
  obtain ⟨G,b,q,m,c,fr,ys,hp,hr,hl,ha,hT,hM⟩:=HB.out.pr.doc
  cases hp
  have hl2:=hl.blk.stays (hkb.2 mb hl.blk.lt (fun e=>HB.out.pr.nT (by rw [hT,← e];exact .inr (.inl rfl))));obtain ⟨_,_,c2,c3,_⟩:=hl2.c9;exact ⟨c2,c3⟩
 obtain ⟨TL,hTL⟩:∃ TL,TL=L.tail:=⟨_,rfl⟩;obtain ⟨E0,hE0⟩:∃ E0,E0=L.epoch:=⟨_,rfl⟩;have HNu:Hid (TL≤5000*i∧i < 100∧E0≤i+1):=Lib.hid ⟨by rw [hTL];have:=HK.out.ok.near;have:=HK.out.fin;omega,HI.out,by rw [hE0];exact HK.out.ep⟩
 have q1:IntKind.u64.wrap ((E0:Int)+1)=((E0+1:Nat):Int):=by have:=HNu.out;rw [IntKind.wrap_u64];omega
 rw [← hE0,← hTL] at HMb
 clear h hk hi hW1 hU hs4 hz hTL hE0
 go_enter Tryz.func8,Tryz.ntmps8
 go_upto_region 1 with fail
 rw [HW1.out,HU.out];have x0:=HB.out.blk.cell 0
 rw [HU.out] at x0
 simp at x0
 go_wp2_with fail;refine Flow.regionF [] 24 (SlDc bp U db pw q m c) (InK 8 15 18 21 153 160 W1 (Cr1 W1 s4) (Cr2 W1 s4) (Cr3 W1 bp s4) (Cr4 W1 bp s4)) (fun _ _ _=>True) (by kernel_rfl) (by kernel_rfl) (fun _ _ _ _ _ _ h _=>h) (InK.start (by rfl) (by rfl) (by rfl) (by rfl) (Gr.refl _).drew) ?steps ?fin
 case steps=>
  refine .cons (fun l a W hfr hun hup hdn hinv hdep K hK=>?_) ?_
  · have t0:=tAt (.pointer (some ⟨bp,0,none⟩)) (hfr.at 0 (by kernel_rfl));refine fW0 rfl ?_;clear hdep;go_simp;exact hK _ _ True.intro (hinv.other 0 (by decide) (by decide) (by decide) (by decide) (by simp) (by simp) _) (dsT (by trivial))
  refine .cons (fun l a W hfr hun hup hdn hinv hdep K hK=>?_) ?_
  · have t0:=tAt (.pointer (some ⟨bp,0,none⟩)) (hfr.at 0 (by kernel_rfl));refine fW0 rfl ?_;clear hdep;go_simp;exact hK _ _ True.intro (hinv.other 1 (by decide) (by decide) (by decide) (by decide) (by simp) (by simp) _) (dsT (by trivial))
  refine .cons (fun l a W hfr hun hup hdn hinv hdep K hK=>?_) ?_
  · have t0:=tAt (.pointer (some ⟨bp,0,none⟩)) (hfr.at 0 (by kernel_rfl));refine fW0 rfl ?_;clear hdep;go_simp;exact hK _ _ True.intro (hinv.other 2 (by decide) (by decide) (by decide) (by decide) (by simp) (by simp) _) (dsT (by trivial))
  refine .cons (fun l a W hfr hun hup hdn hinv hdep K hK=>?_) ?_
  · have t147:=tAt (.pointer (some ⟨bp,0,none⟩)) (hdep 147 (by kernel_rfl));refine fW0 rfl ?_;clear hdep;go_simp;exact hK _ _ True.intro (hinv.other 3 (by decide) (by decide) (by decide) (by decide) (by simp) (by simp) _) (dsT (by trivial))
  refine .cons (fun l a W hfr hun hup hdn hinv hdep K hK=>?_) ?_
  · have t148:=tAt (.pointer (some ⟨bp,0,none⟩)) (hdep 148 (by kernel_rfl));refine fW0 rfl ?_;clear hdep;go_simp;exact hK _ _ True.intro (hinv.other 4 (by decide) (by decide) (by decide) (by decide) (by simp) (by simp) _) (dsT (by trivial))
  refine .cons (fun l a W hfr hun hup hdn hinv hdep K hK=>?_) ?_
  · have t149:=tAt (.pointer (some ⟨bp,0,none⟩)) (hdep 149 (by kernel_rfl));refine fW0 rfl ?_;clear hdep;have hg:=hinv.pre (hup 8 (by decide) (by kernel_rfl));have k0:=(HBW.out W hg).1;go_simp;exact hK _ _ True.intro (hinv.other 5 (by decide) (by decide) (by decide) (by decide) (by simp) (by simp) _) (dsT (by trivial))
  refine .cons (fun l a W hfr hun hup hdn hinv hdep K hK=>?_) ?_
  · have t3:=tAt (.pointer (some ⟨U,0,none⟩)) (hfr.at 3 (by kernel_rfl));refine fW0 rfl ?_;clear hdep;go_simp;exact hK _ _ True.intro (hinv.other 6 (by decide) (by decide) (by decide) (by decide) (by simp) (by simp) _) (dsT (by trivial))
  refine .cons (fun l a W hfr hun hup hdn hinv hdep K hK=>?_) ?_
  ·
   have t151:=tAt (.pointer (some ⟨U,10,none⟩)) (hdep 151 (by kernel_rfl));refine fW0 rfl ?_;clear hdep
   have hg:Gr W1 W:=by
    cases hc:l 8 with
    | false=>exact hinv.pre hc
    | true=>exact (hinv.got1 hc (hup 15 (by decide) (by kernel_rfl))).gr
   have kx:=HAc.out W hg;go_simp;exact hK _ _ True.intro (hinv.other 7 (by decide) (by decide) (by decide) (by decide) (by simp) (by simp) _) (dsT (by trivial))
  refine .cons (fun l a W hfr hun hup hdn hinv hdep K hK=>?_) ?_
  ·
   have t150:=tAt (.pointer (some ⟨db,0,none⟩)) (hdep 150 (by kernel_rfl));have t152:=tAt (.slice q m c) (hdep 152 (by kernel_rfl));refine fW0 rfl ?_;clear hdep;have hg:=hinv.pre hun;go_simp
   (with_reducible refine (HCr1.out W hg).mono ?_)
   rintro e W' ⟨v,F1,rfl,hd1,g2,hF⟩;exact hK _ _ True.intro (InK.call1 (by decide) (hup 15 (by decide) (by kernel_rfl)) (hup 18 (by decide) (by kernel_rfl)) (hup 21 (by decide) (by kernel_rfl)) (by rw [hfr.size];simp) (Cr1.of hg hd1 g2 hF)) (dsT (by trivial))
  refine .cons (fun l a W hfr hun hup hdn hinv hdep K hK=>?_) ?_
  · have t0:=tAt (.pointer (some ⟨bp,0,none⟩)) (hfr.at 0 (by kernel_rfl));refine fW0 rfl ?_;clear hdep;go_simp;exact hK _ _ True.intro (hinv.other 9 (by decide) (by decide) (by decide) (by decide) (by simp) (by simp) _) (dsT (by trivial))
  refine .cons (fun l a W hfr hun hup hdn hinv hdep K hK=>?_) ?_
  · have t154:=tAt (.pointer (some ⟨bp,0,none⟩)) (hdep 154 (by kernel_rfl));refine fW0 rfl ?_;clear hdep;go_simp;exact hK _ _ True.intro (hinv.other 10 (by decide) (by decide) (by decide) (by decide) (by simp) (by simp) _) (dsT (by trivial))
  refine .cons (fun l a W hfr hun hup hdn hinv hdep K hK=>?_) ?_
  · have t155:=tAt (.pointer (some ⟨bp,0,none⟩)) (hdep 155 (by kernel_rfl));refine fW0 rfl ?_;clear hdep;go_simp;exact hK _ _ True.intro (hinv.other 11 (by decide) (by decide) (by decide) (by decide) (by simp) (by simp) _) (dsT (by trivial))
  refine .cons (fun l a W hfr hun hup hdn hinv hdep K hK=>?_) ?_
  ·
   have t156:=tAt (.pointer (some ⟨bp,1,none⟩)) (hdep 156 (by kernel_rfl));refine fW0 rfl ?_;clear hdep
   have hg:Gr W1 W:=by
    cases hc:l 8 with
    | false=>exact hinv.pre hc
    | true=>exact (hinv.got1 hc (hup 15 (by decide) (by kernel_rfl))).gr
   have k1:=(HBW.out W hg).2.1;go_simp;exact hK _ _ True.intro (hinv.other 12 (by decide) (by decide) (by decide) (by decide) (by simp) (by simp) _) (dsT (by trivial))
  refine .cons (fun l a W hfr hun hup hdn hinv hdep K hK=>?_) ?_
  · have t3:=tAt (.pointer (some ⟨U,0,none⟩)) (hfr.at 3 (by kernel_rfl));refine fW0 rfl ?_;clear hdep;go_simp;exact hK _ _ True.intro (hinv.other 13 (by decide) (by decide) (by decide) (by decide) (by simp) (by simp) _) (dsT (by trivial))
  refine .cons (fun l a W hfr hun hup hdn hinv hdep K hK=>?_) ?_
  ·
   have t158:=tAt (.pointer (some ⟨U,10,none⟩)) (hdep 158 (by kernel_rfl));refine fW0 rfl ?_;clear hdep
   have hg:Gr W1 W:=by
    cases hc:l 8 with
    | false=>exact hinv.pre hc
    | true=>exact (hinv.got1 hc (hup 15 (by decide) (by kernel_rfl))).gr
   have kx:=HAc.out W hg;go_simp;exact hK _ _ True.intro (hinv.other 14 (by decide) (by decide) (by decide) (by decide) (by simp) (by simp) _) (dsT (by trivial))
  refine .cons (fun l a W hfr hun hup hdn hinv hdep K hK=>?_) ?_
  ·
   have t157:=tAt (pw) (hdep 157 (by kernel_rfl));have t159:=tAt (.slice q m c) (hdep 159 (by kernel_rfl));refine fW0 rfl ?_;clear hdep;have hgot:=hinv.got1 (hdn 8 (by decide) (by kernel_rfl)) hun;go_simp
   (with_reducible refine (HCr2.out W hgot.gr).mono ?_)
   rintro e W' ⟨v,G1,rfl,hr1,g2,hG⟩;exact hK _ _ True.intro (InK.call2 (by decide) (by decide) (hdn 8 (by decide) (by kernel_rfl)) (hup 18 (by decide) (by kernel_rfl)) (hup 21 (by decide) (by kernel_rfl)) (by rw [hfr.size];simp) (hgot.two hr1 g2 hG)) (dsT (by trivial))
  refine .cons (fun l a W hfr hun hup hdn hinv hdep K hK=>?_) ?_
  · have t145:=tAt (.pointer (some ⟨bp,0,none⟩)) (hdep 145 (by kernel_rfl));refine fW0 rfl ?_;clear hdep;go_simp;exact hK _ _ True.intro (hinv.other 16 (by decide) (by decide) (by decide) (by decide) (by simp) (by simp) _) (dsT (by trivial))
  refine .cons (fun l a W hfr hun hup hdn hinv hdep K hK=>?_) ?_
  · have t161:=tAt (.pointer (some ⟨bp,0,none⟩)) (hdep 161 (by kernel_rfl));refine fW0 rfl ?_;clear hdep;go_simp;exact hK _ _ True.intro (hinv.other 17 (by decide) (by decide) (by decide) (by decide) (by simp) (by simp) _) (dsT (by trivial))
  refine .cons (fun l a W hfr hun hup hdn hinv hdep K hK=>?_) ?_
  · have t162:=tAt (.pointer (some ⟨bp,0,none⟩)) (hdep 162 (by kernel_rfl));refine fW0 rfl ?_;clear hdep;have hgot:=hinv.got2 (hdn 15 (by decide) (by kernel_rfl)) hun;have hgot2:=hgot;obtain ⟨hg,D,R,F,G,e1,e2,_⟩:=hgot2;have t153:=tmpAt e1;have k0:=(HBW.out W hg).1;have f0:=(HBW.out W hg).2.2.frozen 0;go_simp;exact hK undef _ True.intro (InK.store1 (by decide) (hdn 8 (by decide) (by kernel_rfl)) (hdn 15 (by decide) (by kernel_rfl)) (hup 21 (by decide) (by kernel_rfl)) undef ⟨W,hgot,by rw [e1]⟩) (fun d hd=>by cases hd)
  refine .cons (fun l a W hfr hun hup hdn hinv hdep K hK=>?_) ?_
  · have t146:=tAt (.pointer (some ⟨bp,0,none⟩)) (hdep 146 (by kernel_rfl));refine fW0 rfl ?_;clear hdep;go_simp;exact hK _ _ True.intro (hinv.other 19 (by decide) (by decide) (by decide) (by decide) (by simp) (by simp) _) (dsT (by trivial))
  refine .cons (fun l a W hfr hun hup hdn hinv hdep K hK=>?_) ?_
  · have t163:=tAt (.pointer (some ⟨bp,0,none⟩)) (hdep 163 (by kernel_rfl));refine fW0 rfl ?_;clear hdep;go_simp;exact hK _ _ True.intro (hinv.other 20 (by decide) (by decide) (by decide) (by decide) (by simp) (by simp) _) (dsT (by trivial))
  refine .cons (fun l a W hfr hun hup hdn hinv hdep K hK=>?_) ?_
  ·
   have t164:=tAt (.pointer (some ⟨bp,1,none⟩)) (hdep 164 (by kernel_rfl));refine fW0 rfl ?_;clear hdep;obtain ⟨V,hgot,rfl⟩:=hinv.got3 (hdn 18 (by decide) (by kernel_rfl)) hun;have hgot2:=hgot;obtain ⟨hg,D,R,F,G,e1,e2,_⟩:=hgot2;have t160:=tmpAt e2;have hb:=(HBW.out V hg).2.2.set 0 (.pointer (some ⟨D,0,none⟩));have k1:(V.setCell ⟨bp,0,none⟩ (.pointer (some ⟨D,0,none⟩))).cell? ⟨bp,1,none⟩=some pw:=hb.cell 1;have f1:(V.setCell ⟨bp,0,none⟩ (.pointer (some ⟨D,0,none⟩))).frozen? ⟨bp,1,none⟩=false:=hb.frozen 1;have hk2:=hK undef ((V.setCell ⟨bp,0,none⟩ (a.tmps.getD 153 undef)).setCell ⟨bp,1,none⟩ (a.tmps.getD 160 undef)) True.intro (InK.store2 (by decide) (hdn 8 (by decide) (by kernel_rfl)) (hdn 15 (by decide) (by kernel_rfl)) (hdn 18 (by decide) (by kernel_rfl)) undef ⟨V,hgot,rfl⟩) (fun d hd=>by cases hd)
   rw [e1,e2] at hk2
   rw [e1];clear e1 e2 hK hgot hinv;go_simp;exact hk2
  exact True.intro
 case fin=>
  intro a W l hfr hall hinv hsl
  have hfin:=hinv.post (hall 21 (by decide));have e:=Flow.frame hfr [145,146,147,148,149,150,151,152,153,154,155,156,157,158,159,160,161,162,163,164] (List.range 274) (by kernel_rfl) (by kernel_rfl)
  simp (maxSteps:=4000000) [List.range,List.range.loop] at e
  rw [e];have HFin:=Lib.hid hfin;clear e hfr hsl hall hinv hfin
  first
   | (rename_i hB;refine hB _ _ ?_)
   | (rename_i hB y0;refine hB _ _ ?_)
   | (rename_i hB y0 y1;refine hB _ _ ?_)
   | (rename_i hB y0 y1 y2;refine hB _ _ ?_)
   | (rename_i hB y0 y1 y2 y3;refine hB _ _ ?_)
   | (rename_i hB y0 y1 y2 y3 y4;refine hB _ _ ?_)
   | (rename_i hB y0 y1 y2 y3 y4 y5;refine hB _ _ ?_)
   | (rename_i hB y0 y1 y2 y3 y4 y5 y6;refine hB _ _ ?_)
   | (rename_i hB y0 y1 y2 y3 y4 y5 y6 y7;refine hB _ _ ?_)
   | (rename_i hB y0 y1 y2 y3 y4 y5 y6 y7 y8;refine hB _ _ ?_)
   | (rename_i hB y0 y1 y2 y3 y4 y5 y6 y7 y8 y9;refine hB _ _ ?_)
   | (rename_i hB y0 y1 y2 y3 y4 y5 y6 y7 y8 y9 y10;refine hB _ _ ?_)
   | (rename_i hB y0 y1 y2 y3 y4 y5 y6 y7 y8 y9 y10 y11;refine hB _ _ ?_)
   | (rename_i hB y0 y1 y2 y3 y4 y5 y6 y7 y8 y9 y10 y11 y12;refine hB _ _ ?_)
   | skip
  obtain ⟨D,R,F,G,ev,eu,hpd,hkb⟩:=HFin.out.made HB.out.pr
  rw [ev,eu] at hpd
  clear ev eu HFin x0;have HPD:=Lib.hid hpd;obtain ⟨m2,m3⟩:=HMb.out W hkb;have k3:=hpd.blk.cell 3
  simp at k3
  clear hpd hkb HB HCr1 HCr2 HBW HMb HAc HNz HK HI;go_wp2_with fail
  go_quiet (fail)
  go_wp2_with fail
  have HNx:Hid (∀ S T pl pm e w' tl,opOk s4 16 (E0+1) tl=true→tl≤5000*i→PrB w0 w' bp S T (.pointer (some ⟨D,0,none⟩)) (.pointer (some ⟨R,0,none⟩)) pl pm s4 (opL s4 64 16 1 (E0+1) tl) s4 (opL s4 64 16 1 (E0+1) tl) 20000→e=.returned (.bool true)→RetDo w0 bp i e w'):=Lib.hid fun S T pl pm e w' tl ho ht hp he=>by
   have h1:=HNu.out;have h2:=opL_ok s4 64 16 1 (E0+1) tl may64 (by omega) (by omega) (by omega) ho;have h3:=opN_in s4 16 (E0+1) tl (by omega) (by omega);have h4:=(opB_len s4 16 (E0+1) tl).1;refine ⟨S,T,_,_,pl,pm,s4,_,20000,he,hp,⟨h2.1,h2.2.2.1,rfl,rfl,rfl,?_,?_,HS4.out.1,by rw [HS4.out.2.1];omega,fun j=>by rw [HS4.out.2.2 j];omega,by omega,by omega⟩⟩
   ·
    rw [h2.2.1]
    show opN s4 16 (E0+1) tl≤_
    omega
   ·
    show E0+1≤_
    omega
  refine (popen_any (HPD.out.up (gr_drewN (Gr.refl _) _)) HS4.out.1 (E0+1) TL (by have:=HNu.out;omega) (by omega) (by have:=HNu.out;omega)).mono ?_;rintro e w5 ⟨_,(⟨_,rfl,hd⟩ | ⟨ho,v,K,S',T',pl',pm',rfl,_,_,hp⟩)⟩
  ·
   have HPD2:=Lib.hid hd;have k3':=hd.blk.cell 3
   simp at k3'
   clear hd m2 m3 k3 HPD;have HO2:Hid (opOk s4 16 (E0+1) 0=true):=Lib.hid (by unfold opOk;simp);have HOp:=Lib.hid (popen_any HPD2.out HS4.out.1 (E0+1) 0 (by omega) (by omega) (by have:=HNu.out;omega));go_wp2_with fail;refine HOp.out.mono ?_;rintro e w6 ⟨_,(⟨h,_⟩ | ⟨_,v,K,S',T',pl',pm',rfl,_,_,hp⟩)⟩
   ·
    rw [HO2.out] at h
    cases h
   ·
    obtain ⟨_,nb2,_,_,_,_,_,hpm,_⟩:=id hp.doc;have k4:=hp.blk.cell 3;have HPB:=Lib.hid hp
    rw [hpm] at k4 HPB
    simp at k4
    clear hp hpm k3';go_wp2_with fail
    go_ret
    exact HNx.out _ _ _ _ _ _ 0 HO2.out (Nat.zero_le _) HPB.out rfl
  ·
   obtain ⟨_,nb2,_,_,_,_,_,hpm,_⟩:=id hp.doc;have k4:=hp.blk.cell 3;have HPB:=Lib.hid hp;have HO:=Lib.hid ho
   rw [hpm] at k4 HPB
   simp at k4
   clear hp hpm ho m2 m3 k3;go_wp2_with fail
   go_ret
   exact HNx.out _ _ _ _ _ _ TL HO.out HNu.out.1 HPB.out rfl
end Go.Proofs.YtlijbgapkmfnaaaGreat
namespace Go.Proofs.YtlijbgapkmfnaaaGreat
open Go.RowKit Go.Maps
section
variable {w w':World} {S T:Nat→Prop} {pd pl pw pm:Value} {s:St} {L:Lg} {M:Nat}
theorem CodeAt.Write (h:CodeAt w S pd pl s L) (i:Nat) (hi:i < s.ls.length) (x:Sec) (hw:s.writes≤1000000000):Calls Tryz.prog 13 #[pd,.int .i64 (i:Int),.agg (sec x)] w (RetC (.int .i64 (putDE s)) (putD s i x) L S pd pl w):=by
 obtain ⟨F,b,q,m,c,rfl,h,rfl⟩:=h
 unfold putDE putD
 by_cases hr:s.refuses
 · rw [if_pos hr,if_pos hr];refine (Write_dead w h.dk i hi x hr).mono ?_;rintro e w' ⟨he,hd,hu⟩;obtain ⟨F2,h1,h2⟩:=h.disk ⟨_,hd,hu⟩;exact ⟨_,he,⟨F2,b,q,m,c,rfl,h1,rfl⟩,h2⟩
 · rw [if_neg hr,if_neg hr];refine (Write_yes w h.dk i hi x hr hw).mono ?_;rintro e w' ⟨F',he,hd,hu⟩;obtain ⟨F2,h1,h2⟩:=h.disk ⟨_,hd,hu⟩;exact ⟨_,he,⟨F2,b,q,m,c,rfl,h1,rfl⟩,h2⟩
theorem CodeAt.Fuse (h:CodeAt w S pd pl s L) (n:Int) (h0 : -9223372036854775808≤n) (h1:n≤9223372036854775807):Calls Tryz.prog 37 #[pd,.int .i64 n] w (RetC (.tuple #[]) { s with fuse:=n } L S pd pl w):=by
 obtain ⟨F,b,q,m,c,rfl,h,rfl⟩:=h;refine (Fuse_any w h.dk n h0 h1).mono ?_;rintro e w' ⟨he,hd,hu⟩;obtain ⟨F2,h1,h2⟩:=h.disk ⟨_,hd,hu⟩;exact ⟨_,he,⟨F2,b,q,m,c,rfl,h1,rfl⟩,h2⟩
theorem doc_of_disk {s':St} {G G':Nat→Prop} {b:Nat} {q:Option Addr} {m c fr:Nat} {ys:List Int} (hl:RlAt w b pw q m c fr ys L) (ha:∀ k,G k→¬ lgS b q k) (hM:ys.length≤M) (hd:Rf w' G' pw s') (hu:Upd G G' w w'):∃ T',DocAt w' T' pw (.pointer (some ⟨b,0,none⟩)) s' L M∧Upd (wlS G b q) T' w w':=by
 obtain ⟨h1,h2⟩:=hu.other hl.low ha;exact ⟨_,⟨G',b,q,m,c,fr,ys,rfl,hd,hl.stays h1 hu.size,h2,rfl,hM⟩,⟨hu.os,hu.tape,hu.output,hu.size,fun k hk hn=>hu.block k hk (fun e=>hn (.inl e)),fun k hk=>hk.elim (fun e=>(hu.fresh k e).imp .inl id) (fun e=>.inl (.inr e))⟩⟩
theorem DocAt.Write (h:DocAt w T pw pm s L M) (i:Nat) (hi:i < s.ls.length) (x:Sec) (hw:s.writes≤1000000000) (hl:(s.t i).length≤1000000000):Calls Tryz.prog 14 #[pw,.int .i64 (i:Int),.agg (sec x)] w (RetD (.bool (putDE s == 0)) (putD s i x) L M T pw pm w):=by
 obtain ⟨G,b,q,m,c,fr,ys,rfl,hr,hla,ha,rfl,hM⟩:=h
 unfold putDE putD
 by_cases hrf:s.refuses
 · rw [if_pos hrf,if_pos hrf];refine (refWrite_dead w hr i x hrf).mono ?_;rintro e w' ⟨G',he,hd,hu⟩;obtain ⟨T',h1,h2⟩:=doc_of_disk (M:=M) hla ha hM hd hu;exact ⟨T',he,h1,h2⟩
 · rw [if_neg hrf,if_neg hrf];refine (refWrite_yes w hr i hi x hrf hw hl).mono ?_;rintro e w' ⟨G',he,hd,hu⟩;obtain ⟨T',h1,h2⟩:=doc_of_disk (M:=M) hla ha hM hd hu;exact ⟨T',he,h1,h2⟩
theorem DocAt.fuse (h:DocAt w T pw pm s L M) (n:Int) (h0 : -9223372036854775808≤n) (h1:n≤9223372036854775807) :
  ∃ rb x0 x2 x3,pw=.pointer (some ⟨rb,0,none⟩)∧T rb∧Blk w rb TRf #[x0,.int .i64 (nrm s.fuse),x2,x3]∧∀ w',Only rb w w'→Blk w' rb TRf #[x0,.int .i64 (nrm n),x2,x3]→∃ T',DocAt w' T' pw pm { s with fuse:=n } L M∧Upd T T' w w':=by
 obtain ⟨G,b,q,m,c,fr,ys,rfl,hr,hla,ha,rfl,hM⟩:=h;obtain ⟨rb,gs,cs,V,rfl,hrf⟩:=hr;refine ⟨rb,_,_,_,rfl,.inl hrf.ownB,hrf.blk,fun w' ho hb=>?_⟩;have hs:w.heap.size≤w'.heap.size:=Nat.le_of_eq ho.size.symm;refine doc_of_disk hla ha hM (G':=G) ⟨rb,gs,cs,V,rfl,hrf.block (s':={ s with fuse:=n }) rfl rfl h0 h1 hb (fun k _ hk=>ho.block k hk) hs⟩ ?_;exact ⟨ho.os,ho.tape,ho.output,hs,fun k _ hn=>ho.block k (fun e=>hn (e ▸ hrf.ownB)),fun k hk=>.inl hk⟩
end
theorem putD_parts {s:St} (h:∀ j,(s.t j).length≤s.writes) (i:Nat) (x:Sec):(putD s i x).ls.length=s.ls.length∧(putD s i x).writes≤s.writes+1∧∀ j,((putD s i x).t j).length≤(putD s i x).writes:=by
 unfold putD
 split
 · exact ⟨rfl,Nat.le_succ _,h⟩
 ·
  refine ⟨rfl,Nat.le_refl _,fun k=>?_⟩;have:=h k;have h2:=h i
  show ((if k=i then s.t i++[x] else s.t k)).length≤s.writes+1
  split
  · simp;omega
  · omega
def Sec.by3 (x:UInt8):Sec:=⟨(((List.replicate 256 (0:UInt8)).set 0 x).set 8 x).set 30 x,by rw [List.length_set,List.length_set,List.length_set];exact List.length_replicate ..⟩
theorem built_by3 (x:UInt8):Tryz.prog.built TS [(0,.int .u8 (B8 x)),(8,.int .u8 (B8 x)),(30,.int .u8 (B8 x))]=some (sec (Sec.by3 x)):=by kernel_rfl
theorem wpList_build_by3 {ops:Array Oper} {rest:List Oper} {o:Oper} {a:Act} {w:World} {Q:Exit→Act→World→Prop} (hg:o.guard=none) (x y z:Operand) (ho:o.op=.build TS #[(0,x),(8,y),(30,z)]) {v:UInt8}
  (hx:a.eval x=.int .u8 (B8 v)) (hy:a.eval y=.int .u8 (B8 v)) (hz:a.eval z=.int .u8 (B8 v))
  (h:wpList Tryz.prog ops Q rest (a.put o.dst (.agg (sec (Sec.by3 v)))) w):wpList Tryz.prog ops Q (o :: rest) a w:=
 wpList_build_sec hg _ ho (by simp only [List.map_toArray,List.map_cons,List.map_nil,hx,hy,hz];exact built_by3 v) h
end Go.Proofs.YtlijbgapkmfnaaaGreat
namespace Go.Proofs.YtlijbgapkmfnaaaGreat
open Go.RowKit Go.Maps
set_option maxRecDepth 100000 in
set_option maxHeartbeats 2000000 in
theorem do_fuse6 {w0 w:World} {bp:Nat} {S T:Nat→Prop} {pd pw pl pm:Value} {s:St} {L:Lg} {M i:Nat} (h:PrB w0 w bp S T pd pw pl pm s L s L M) (hk:WpK i s L M) (hi:i < 100) (n:Int) (z:Rc) (pb:Option Addr) (nb cb:Nat) (pa:Option Addr) (na ca:Nat) (q:Option Addr) (m c:Nat) (byt:Int) (hn0 : -9223372036854775808≤n) (hn1:n≤9223372036854775807) :
  Calls Tryz.prog 8 #[.pointer (some ⟨bp,0,none⟩),.agg #[.int .i64 8,.int .i64 n,.int .i64 z.k,.int .u64 (z.t:Int),.int .u64 (z.p:Int),.int .u64 (z.x:Int),.int .i64 z.g,.int .i64 z.o,.slice pb nb cb,.slice pa na ca,.slice q m c,.int .u8 byt]] w (RetDo w0 bp i):=by
 obtain ⟨⟨lb,rfl⟩,db,rfl⟩:=h.code.ptr;obtain ⟨mb,rfl,_⟩:=h.doc.cells;obtain ⟨W1,hW1⟩:∃ W1,W1=w.alloc (.cells #[.int .i64 8,.int .i64 n,.int .i64 z.k,.int .u64 (z.t:Int),.int .u64 (z.p:Int),.int .u64 (z.x:Int),.int .i64 z.g,.int .i64 z.o,.slice pb nb cb,.slice pa na ca,.slice q m c,.int .u8 byt] TAw):=⟨_,rfl⟩;have HB:Hid (DoB w0 w W1 bp #[.int .i64 8,.int .i64 n,.int .i64 z.k,.int .u64 (z.t:Int),.int .u64 (z.p:Int),.int .u64 (z.x:Int),.int .i64 z.g,.int .i64 z.o,.slice pb nb cb,.slice pa na ca,.slice q m c,.int .u8 byt] S T (.pointer (some ⟨db,0,none⟩)) pw (.pointer (some ⟨lb,0,none⟩)) (.pointer (some ⟨mb,0,none⟩)) s L s L M):=Lib.hid (by rw [hW1];exact DoB.start h _);have HW1:=Lib.hid hW1.symm;have HK:=Lib.hid hk;have HI:=Lib.hid hi;have HU:Hid (w.heap.size < W1.heap.size):=Lib.hid (by rw [hW1];simp);clear h hk hi hW1
 have HFu:Hid (∀ V,DoB w0 w V bp #[.int .i64 8,.int .i64 n,.int .i64 z.k,.int .u64 (z.t:Int),.int .u64 (z.p:Int),.int .u64 (z.x:Int),.int .i64 z.g,.int .i64 z.o,.slice pb nb cb,.slice pa na ca,.slice q m c,.int .u8 byt] S T (.pointer (some ⟨db,0,none⟩)) pw (.pointer (some ⟨lb,0,none⟩)) (.pointer (some ⟨mb,0,none⟩)) s L s L M→Calls Tryz.prog 37 #[(.pointer (some ⟨db,0,none⟩)),.int .i64 n] V (RetC (.tuple #[]) { s with fuse:=n } L S (.pointer (some ⟨db,0,none⟩)) (.pointer (some ⟨lb,0,none⟩)) V)):=Lib.hid fun V h=>h.pr.code.Fuse n hn0 hn1
 have HM9:Hid (WpK (i+1) { s with fuse:=n } L M):=Lib.hid (HK.out.disk HI.out rfl (Nat.le_succ _) HK.out.less);have HN:=Lib.hid (And.intro hn0 hn1);clear hn0 hn1
 go_enter Tryz.func8,Tryz.ntmps8
 go_upto_region 1 with fail
 rw [HW1.out];have hc0:=HB.out.pr.blk.cell 0
 simp at hc0
 have x0:=HB.out.blk.cell 0
 simp at x0
 have x1:=HB.out.blk.cell 1
 simp at x1
 go_wp2_with fail
 go_region_held3 (fun V=>V.cell? ⟨bp,0,none⟩=some (.pointer (some ⟨db,0,none⟩))∧V.cell? ⟨w.heap.size,1,none⟩=some (.int .i64 n)) (first | exact ⟨hc0,x1⟩ | exact ⟨hd0,y1⟩) (first | (go_at_call 37;refine (HFu.out W1.drew (HB.out.up (Gr.refl W1).drew)).mono ?_;rintro e W2 ⟨S2,rfl,hcc,huu⟩;have HB2:=Lib.hid ((HB.out.up (Gr.refl W1).drew).codes hcc huu);have hd0:=HB2.out.pr.blk.cell 0;simp at hd0;obtain ⟨_,y1,_⟩:=HB2.out.c12))
 clear hc0 hd0 x0 x1 y1 hcc huu HFu HB;have HB3:=Lib.hid (HB2.out.up (Gr.refl W2).drew);obtain ⟨rb,z0,z2,z3,rfl,hTr,hbr,hre⟩:=HB3.out.pr.doc.fuse (w:=W2.drew) n HN.out.1 HN.out.2;have HRe:=Lib.hid hre;have HBr:Hid (Blk W2.drew rb TRf #[z0,.int .i64 (nrm s.fuse),z2,z3]∧T rb):=Lib.hid ⟨hbr,hTr⟩;have HNe:Hid (rb≠bp∧rb≠w.heap.size):=Lib.hid ⟨fun e=>HB3.out.pr.nT (e ▸ hTr),fun e=>HB3.out.pk.oT rb hTr ⟨by omega,by rw [HW1.out];have:=HU.out;omega⟩⟩;clear hre hbr hTr;obtain ⟨X,hX⟩:∃ X,X=(W2.setCell ⟨rb,1,none⟩ (.int .i64 n)).drew:=⟨_,rfl⟩;have HX:=Lib.hid hX.symm;have HBx:Hid (Blk X rb TRf #[z0,.int .i64 n,z2,z3]∧Only rb W2.drew X):=Lib.hid ⟨by rw [hX];exact (show Blk (W2.drew.setCell ⟨rb,1,none⟩ (.int .i64 n)) rb TRf _ from HBr.out.1.set 1 _),by rw [hX];exact (show Only rb W2.drew (W2.drew.setCell ⟨rb,1,none⟩ (.int .i64 n)) from Only.cell _ _ _ _)⟩;clear hX;have k1:=HB3.out.pr.blk.cell 1;have a1:=HB3.out.blk.cell 1
 simp at k1 a1
 have k2:=(HB2.out.pr.blk).cell 1;have a2:=(HB2.out.blk).cell 1
 simp at k2 a2
 have r1:=HBr.out.1.cell 1;have f1:=HBr.out.1.frozen 1
 simp at r1
 have k3:X.cell? ⟨bp,1,none⟩=some (.pointer (some ⟨rb,0,none⟩)):=by
  have h:=(HB3.out.pr.blk.stays (HBx.out.2.block bp (fun e=>HNe.out.1 e.symm))).cell 1
  simpa using h
 have a3:X.cell? ⟨w.heap.size,1,none⟩=some (.int .i64 n):=by
  have h:=(HB3.out.blk.stays (HBx.out.2.block w.heap.size (fun e=>HNe.out.2 e.symm))).cell 1
  simpa using h
 rw [← HX.out] at k3 a3
 go_wp2_with fail
 go_region_held3 (fun V=>V.cell? ⟨bp,1,none⟩=some (.pointer (some ⟨rb,0,none⟩))∧V.cell? ⟨w.heap.size,1,none⟩=some (.int .i64 n)) (first | exact ⟨k2,a2⟩ | exact ⟨k1,a1⟩ | exact ⟨k3,a3⟩) (fail)
 rw [HX.out] at k3 a3
 rw [HX.out];clear k1 a1 k2 a2 r1 f1;have r1:=HBx.out.1.cell 1;have f1:=HBx.out.1.frozen 1
 simp at r1
 have HF1:Hid (∀ X9,Only rb W2.drew X9→Blk X9 rb TRf #[z0,.int .i64 (nrm n),z2,z3]→RetDo w0 bp i (.returned (.bool true)) X9):=Lib.hid fun X9 ho hb=>by
  obtain ⟨T9,hd,hu⟩:=HRe.out X9 ho hb;exact ⟨_,_,_,_,_,_,_,_,_,rfl,(HB3.out.docs hd hu).pr,HM9.out⟩
 by_cases hn:n < 0
 ·
  have gN:decide (n < 0)=true:=decide_eq_true hn
  have HF2:=Lib.hid (HF1.out (X.setCell ⟨rb,1,none⟩ (.int .i64 (-1))) (HBx.out.2.trans (Only.cell _ _ _ _)) (by
   have e:nrm n = -1:=by unfold nrm;rw [if_pos hn]
   rw [e]
   exact HBx.out.1.set 1 _))
  clear hn HB2 HB3 HRe HF1;go_wp2_with fail
  go_ret
  exact HF2.out
 ·
  have gN:decide (n < 0)=false:=decide_eq_false hn
  have HF2:=Lib.hid (HF1.out X HBx.out.2 (by
   have e:nrm n=n:=by unfold nrm;rw [if_neg hn]
   rw [e]
   exact HBx.out.1))
  clear hn HB2 HB3 HRe HF1;go_wp2_with fail
  go_ret
  exact HF2.out
set_option maxRecDepth 100000 in
set_option maxHeartbeats 2000000 in
theorem do_sector6 {w0 w:World} {bp:Nat} {S T:Nat→Prop} {pd pw pl pm:Value} {s:St} {L:Lg} {M i:Nat} (h:PrB w0 w bp S T pd pw pl pm s L s L M) (hk:WpK i s L M) (hi:i < 100) (j:Nat) (z:Rc) (pb:Option Addr) (nb cb:Nat) (pa:Option Addr) (na ca:Nat) (q:Option Addr) (m c:Nat) (byt:UInt8) (hj:j < 16) :
  Calls Tryz.prog 8 #[.pointer (some ⟨bp,0,none⟩),.agg #[.int .i64 9,.int .i64 (j:Int),.int .i64 z.k,.int .u64 (z.t:Int),.int .u64 (z.p:Int),.int .u64 (z.x:Int),.int .i64 z.g,.int .i64 z.o,.slice pb nb cb,.slice pa na ca,.slice q m c,.int .u8 (B8 byt)]] w (RetDo w0 bp i):=by
 obtain ⟨⟨lb,rfl⟩,db,rfl⟩:=h.code.ptr;obtain ⟨mb,rfl,_⟩:=h.doc.cells;obtain ⟨W1,hW1⟩:∃ W1,W1=w.alloc (.cells #[.int .i64 9,.int .i64 (j:Int),.int .i64 z.k,.int .u64 (z.t:Int),.int .u64 (z.p:Int),.int .u64 (z.x:Int),.int .i64 z.g,.int .i64 z.o,.slice pb nb cb,.slice pa na ca,.slice q m c,.int .u8 (B8 byt)] TAw):=⟨_,rfl⟩;have HB:Hid (DoB w0 w W1 bp #[.int .i64 9,.int .i64 (j:Int),.int .i64 z.k,.int .u64 (z.t:Int),.int .u64 (z.p:Int),.int .u64 (z.x:Int),.int .i64 z.g,.int .i64 z.o,.slice pb nb cb,.slice pa na ca,.slice q m c,.int .u8 (B8 byt)] S T (.pointer (some ⟨db,0,none⟩)) pw (.pointer (some ⟨lb,0,none⟩)) (.pointer (some ⟨mb,0,none⟩)) s L s L M):=Lib.hid (by rw [hW1];exact DoB.start h _);have HW1:=Lib.hid hW1.symm;have HK:=Lib.hid hk;have HI:=Lib.hid hi;have HU:Hid (w.heap.size < W1.heap.size):=Lib.hid (by rw [hW1];simp);clear h hk hi hW1;obtain ⟨x,hx⟩:∃ x,x=Sec.by3 byt:=⟨_,rfl⟩;obtain ⟨J,hJ⟩:∃ J,J=3+j:=⟨_,rfl⟩
 have q1:IntKind.i64.wrap (3+(j:Int))=(J:Int):=by rw [IntWalk.i64_in _ (by omega)];omega
 have HJ:Hid (J < 64):=Lib.hid (by omega);obtain ⟨Y,hY⟩:∃ Y,Y=putDE s:=⟨_,rfl⟩;obtain ⟨s9,hs9⟩:∃ s9,s9=putD s J x:=⟨_,rfl⟩
 have HM9:Hid (WpK (i+1) s9 L M):=Lib.hid (by
  have h:=putD_parts HK.out.less J x;rw [hs9]
  exact HK.out.disk HI.out h.1 h.2.1 h.2.2)
 have HCo:Hid (∀ V,DoB w0 w V bp #[.int .i64 9,.int .i64 (j:Int),.int .i64 z.k,.int .u64 (z.t:Int),.int .u64 (z.p:Int),.int .u64 (z.x:Int),.int .i64 z.g,.int .i64 z.o,.slice pb nb cb,.slice pa na ca,.slice q m c,.int .u8 (B8 byt)] S T (.pointer (some ⟨db,0,none⟩)) pw (.pointer (some ⟨lb,0,none⟩)) (.pointer (some ⟨mb,0,none⟩)) s L s L M→Calls Tryz.prog 13 #[(.pointer (some ⟨db,0,none⟩)),.int .i64 (J:Int),.agg (sec x)] V (RetC (.int .i64 Y) s9 L S (.pointer (some ⟨db,0,none⟩)) (.pointer (some ⟨lb,0,none⟩)) V)):=Lib.hid fun V h=>by
  rw [hY,hs9];exact h.pr.code.Write J (by rw [HK.out.len];exact HJ.out) x (by have:=HK.out.wr;have:=HK.out.cnt;omega)
 have HDo:Hid (∀ V S,DoB w0 w V bp #[.int .i64 9,.int .i64 (j:Int),.int .i64 z.k,.int .u64 (z.t:Int),.int .u64 (z.p:Int),.int .u64 (z.x:Int),.int .i64 z.g,.int .i64 z.o,.slice pb nb cb,.slice pa na ca,.slice q m c,.int .u8 (B8 byt)] S T (.pointer (some ⟨db,0,none⟩)) pw (.pointer (some ⟨lb,0,none⟩)) (.pointer (some ⟨mb,0,none⟩)) s9 L s L M→Calls Tryz.prog 14 #[pw,.int .i64 (J:Int),.agg (sec x)] V (RetD (.bool (Y == 0)) s9 L M T pw (.pointer (some ⟨mb,0,none⟩)) V)):=Lib.hid fun V S h=>by
  rw [hY,hs9];exact h.pr.doc.Write J (by rw [HK.out.len];exact HJ.out) x (by have:=HK.out.wr;have:=HK.out.cnt;omega) (by have:=HK.out.less J;have:=HK.out.wr;have:=HK.out.cnt;omega)
 have HBu:=Lib.hid hx;have g1:decide (0≤(j:Int))=true:=decide_eq_true (by omega);have g2:decide ((j:Int) < 16)=true:=decide_eq_true (by omega);clear hj hJ hY hs9 hx
 go_enter Tryz.func8,Tryz.ntmps8
 go_upto_region 1 with fail
 rw [HW1.out];have x0:=HB.out.blk.cell 0
 simp at x0
 have x1:=HB.out.blk.cell 1
 simp at x1
 have x11:=HB.out.blk.cell 11
 simp at x11
 have hz:=zero_sec
 go_wp2_with (first | (refine wpList_build_by3 rfl (.tmp 247) (.tmp 249) (.tmp 251) rfl (v:=byt) rfl rfl rfl ?_;rw [← HBu.out]) | (refine wpList_store_x rfl (.tmp 16) (.tmp 252) rfl (Blk.new W1 TS (sec Sec.zero)) rfl rfl ?_))
 obtain ⟨W2,hW2⟩:∃ W2,W2=(W1.alloc (.cells (sec Sec.zero) TS)).setRow W1.heap.size (sec x):=⟨_,rfl⟩;have hW2':(W1.alloc (.cells (sec Sec.zero) TS)).setRow W1.heap.size (sec x)=W2:=hW2.symm;rw [hW2']
 have HV2:Hid (Blk W2.drew W1.heap.size TS (sec x)∧Gr W1 W2):=Lib.hid (by
  rw [hW2]
  exact ⟨show Blk ((W1.alloc (.cells (sec Sec.zero) TS)).setRow W1.heap.size (sec x)) W1.heap.size TS (sec x) from (Blk.new _ _ _).row _,below_setRow (Gr.new _ _) (Nat.le_refl _) _⟩)
 have HB2:=Lib.hid (HB.out.up HV2.out.2);have HSl:Hid (∀ k,S k→k < W1.heap.size):=Lib.hid HB.out.pr.code.low;have HTl:Hid (∀ k,T k→k < W1.heap.size):=Lib.hid HB.out.pr.doc.low;have hus:=under_sec
 have hss:(Tryz.prog.info? TS).map (·.size)=some x.cells.length:=by rw [x.cells_len];exact size_sec
 clear hW2 hW2' hz x0 x1 x11;have v1:=(show Blk W2 W1.heap.size TS (sec x) from HV2.out.1).one;have hc0:=HB2.out.pr.blk.cell 0
 simp at hc0
 obtain ⟨_,x1,_⟩:=HB2.out.c12
 go_region_held3 (fun V=>V.cell? ⟨bp,0,none⟩=some (.pointer (some ⟨db,0,none⟩))∧V.cell? ⟨w.heap.size,1,none⟩=some (.int .i64 (j:Int))∧V.rangeAt W1.heap.size 0 x.cells) (first | exact ⟨hc0,x1,v1⟩ | exact ⟨hd0,y1,v2⟩) (first | (go_at_call 13;refine (HCo.out W2.drew (HB2.out.up (Gr.refl W2).drew)).mono ?_;rintro e W3 ⟨S3,rfl,hcc,huu⟩;have HB3:=Lib.hid ((HB2.out.up (Gr.refl W2).drew).codes hcc huu);have HV3:Hid (Blk W3.drew W1.heap.size TS (sec x)):=Lib.hid (show Blk W3 W1.heap.size TS (sec x) from HV2.out.1.stays (huu.block _ HV2.out.1.lt (fun e=>Nat.lt_irrefl _ (HSl.out _ e))));have v2:=(show Blk W3 W1.heap.size TS (sec x) from HV3.out).one;have hd0:=HB3.out.pr.blk.cell 0;simp at hd0;obtain ⟨_,y1,_⟩:=HB3.out.c12))
 clear hc0 x1 v1 v2 hd0 y1 hcc huu HCo HB2 HV2 HB HSl;have v1:=(show Blk W3 W1.heap.size TS (sec x) from HV3.out).one;have hc1:=HB3.out.pr.blk.cell 1
 simp at hc1
 obtain ⟨_,x1,_⟩:=HB3.out.c12
 obtain ⟨rb,hrb⟩:∃ rb,pw=.pointer (some ⟨rb,0,none⟩):=by
  obtain ⟨G,hg,_⟩:=HB3.out.pr.doc.disk (w':=W3);obtain ⟨D,_,_,_,e,_⟩:=hg;exact ⟨D,e⟩
 subst hrb;go_wp2_with fail
 go_region_held3 (fun V=>V.cell? ⟨bp,1,none⟩=some (.pointer (some ⟨rb,0,none⟩))∧V.cell? ⟨w.heap.size,1,none⟩=some (.int .i64 (j:Int))∧V.rangeAt W1.heap.size 0 x.cells) (first | exact ⟨hc1,x1,v1⟩ | exact ⟨hd1,y1,v2⟩) (first | (go_at_call 14;refine (HDo.out W3.drew S3 (HB3.out.up (Gr.refl W3).drew)).mono ?_;rintro e W4 ⟨T4,rfl,hcc,huu⟩;have HB4:=Lib.hid ((HB3.out.up (Gr.refl W3).drew).docs hcc huu);have v2:=(show Blk W4 W1.heap.size TS (sec x) from HV3.out.stays (huu.block _ HV3.out.lt (fun e=>Nat.lt_irrefl _ (HTl.out _ e)))).one;have hd1:=HB4.out.pr.blk.cell 1;simp at hd1;obtain ⟨_,y1,_⟩:=HB4.out.c12))
 clear hc1 x1 v1 v2 hd1 y1 hcc huu HDo HB3 HV3 HTl;go_wp2_with fail
 go_ret
 exact ⟨_,_,_,_,_,_,_,_,_,rfl,HB4.out.pr,HM9.out⟩
set_option maxRecDepth 100000 in
set_option maxHeartbeats 2000000 in
theorem do_below6 {w0 w:World} {bp:Nat} {S T:Nat→Prop} {pd pw pl pm:Value} {s:St} {L:Lg} {M i:Nat} (h:PrB w0 w bp S T pd pw pl pm s L s L M) (hk:WpK i s L M) (hi:i < 100) (n:Int) (z:Rc) (pb:Option Addr) (nb cb:Nat) (pa:Option Addr) (na ca:Nat) (q:Option Addr) (m c:Nat) (byt:Int) (h9:n < 0) :
  Calls Tryz.prog 8 #[.pointer (some ⟨bp,0,none⟩),.agg #[.int .i64 9,.int .i64 n,.int .i64 z.k,.int .u64 (z.t:Int),.int .u64 (z.p:Int),.int .u64 (z.x:Int),.int .i64 z.g,.int .i64 z.o,.slice pb nb cb,.slice pa na ca,.slice q m c,.int .u8 byt]] w (RetDo w0 bp i):=by
 obtain ⟨⟨lb,rfl⟩,db,rfl⟩:=h.code.ptr;obtain ⟨mb,rfl,_⟩:=h.doc.cells;obtain ⟨W1,hW1⟩:∃ W1,W1=w.alloc (.cells #[.int .i64 9,.int .i64 n,.int .i64 z.k,.int .u64 (z.t:Int),.int .u64 (z.p:Int),.int .u64 (z.x:Int),.int .i64 z.g,.int .i64 z.o,.slice pb nb cb,.slice pa na ca,.slice q m c,.int .u8 byt] TAw):=⟨_,rfl⟩;have HB:Hid (DoB w0 w W1 bp #[.int .i64 9,.int .i64 n,.int .i64 z.k,.int .u64 (z.t:Int),.int .u64 (z.p:Int),.int .u64 (z.x:Int),.int .i64 z.g,.int .i64 z.o,.slice pb nb cb,.slice pa na ca,.slice q m c,.int .u8 byt] S T (.pointer (some ⟨db,0,none⟩)) pw (.pointer (some ⟨lb,0,none⟩)) (.pointer (some ⟨mb,0,none⟩)) s L s L M):=Lib.hid (by rw [hW1];exact DoB.start h _);have HW1:=Lib.hid hW1.symm;have HK:=Lib.hid hk;have HI:=Lib.hid hi;have HU:Hid (w.heap.size < W1.heap.size):=Lib.hid (by rw [hW1];simp);clear h hk hi hW1;have HM9:=Lib.hid (HK.out.more HI.out);have g1:decide (0≤n)=false:=decide_eq_false (by omega);clear h9
 go_enter Tryz.func8,Tryz.ntmps8
 go_upto_region 1 with fail
 rw [HW1.out];have x0:=HB.out.blk.cell 0
 simp at x0
 have x1:=HB.out.blk.cell 1
 simp at x1
 go_wp2_with fail
 go_ret
 exact ⟨_,_,_,_,_,_,_,_,_,rfl,HB.out.pr,HM9.out⟩
set_option maxRecDepth 100000 in
set_option maxHeartbeats 2000000 in
theorem do_above6 {w0 w:World} {bp:Nat} {S T:Nat→Prop} {pd pw pl pm:Value} {s:St} {L:Lg} {M i:Nat} (h:PrB w0 w bp S T pd pw pl pm s L s L M) (hk:WpK i s L M) (hi:i < 100) (n:Int) (z:Rc) (pb:Option Addr) (nb cb:Nat) (pa:Option Addr) (na ca:Nat) (q:Option Addr) (m c:Nat) (byt:Int) (h9:0≤n) (h8:¬ n < 16) :
  Calls Tryz.prog 8 #[.pointer (some ⟨bp,0,none⟩),.agg #[.int .i64 9,.int .i64 n,.int .i64 z.k,.int .u64 (z.t:Int),.int .u64 (z.p:Int),.int .u64 (z.x:Int),.int .i64 z.g,.int .i64 z.o,.slice pb nb cb,.slice pa na ca,.slice q m c,.int .u8 byt]] w (RetDo w0 bp i):=by
 obtain ⟨⟨lb,rfl⟩,db,rfl⟩:=h.code.ptr;obtain ⟨mb,rfl,_⟩:=h.doc.cells;obtain ⟨W1,hW1⟩:∃ W1,W1=w.alloc (.cells #[.int .i64 9,.int .i64 n,.int .i64 z.k,.int .u64 (z.t:Int),.int .u64 (z.p:Int),.int .u64 (z.x:Int),.int .i64 z.g,.int .i64 z.o,.slice pb nb cb,.slice pa na ca,.slice q m c,.int .u8 byt] TAw):=⟨_,rfl⟩;have HB:Hid (DoB w0 w W1 bp #[.int .i64 9,.int .i64 n,.int .i64 z.k,.int .u64 (z.t:Int),.int .u64 (z.p:Int),.int .u64 (z.x:Int),.int .i64 z.g,.int .i64 z.o,.slice pb nb cb,.slice pa na ca,.slice q m c,.int .u8 byt] S T (.pointer (some ⟨db,0,none⟩)) pw (.pointer (some ⟨lb,0,none⟩)) (.pointer (some ⟨mb,0,none⟩)) s L s L M):=Lib.hid (by rw [hW1];exact DoB.start h _);have HW1:=Lib.hid hW1.symm;have HK:=Lib.hid hk;have HI:=Lib.hid hi;have HU:Hid (w.heap.size < W1.heap.size):=Lib.hid (by rw [hW1];simp);clear h hk hi hW1;have HM9:=Lib.hid (HK.out.more HI.out);have g1:decide (0≤n)=true:=decide_eq_true h9;have g2:decide (n < 16)=false:=decide_eq_false h8;clear h9 h8
 go_enter Tryz.func8,Tryz.ntmps8
 go_upto_region 1 with fail
 rw [HW1.out];have x0:=HB.out.blk.cell 0
 simp at x0
 have x1:=HB.out.blk.cell 1
 simp at x1
 go_wp2_with fail
 go_ret
 exact ⟨_,_,_,_,_,_,_,_,_,rfl,HB.out.pr,HM9.out⟩
set_option maxRecDepth 100000 in
set_option maxHeartbeats 2000000 in
theorem do_none6 {w0 w:World} {bp:Nat} {S T:Nat→Prop} {pd pw pl pm:Value} {s:St} {L:Lg} {M i:Nat} (h:PrB w0 w bp S T pd pw pl pm s L s L M) (hk:WpK i s L M) (hi:i < 100) (n:Int) (z:Rc) (pb:Option Addr) (nb cb:Nat) (pa:Option Addr) (na ca:Nat) (q:Option Addr) (m c:Nat) (byt:Int) (kd:Int) (hkd:∀ x:Nat,1≤x→x≤9→kd≠(x:Int)) :
  Calls Tryz.prog 8 #[.pointer (some ⟨bp,0,none⟩),.agg #[.int .i64 kd,.int .i64 n,.int .i64 z.k,.int .u64 (z.t:Int),.int .u64 (z.p:Int),.int .u64 (z.x:Int),.int .i64 z.g,.int .i64 z.o,.slice pb nb cb,.slice pa na ca,.slice q m c,.int .u8 byt]] w (RetDo w0 bp i):=by
 obtain ⟨⟨lb,rfl⟩,db,rfl⟩:=h.code.ptr;obtain ⟨mb,rfl,_⟩:=h.doc.cells;obtain ⟨W1,hW1⟩:∃ W1,W1=w.alloc (.cells #[.int .i64 kd,.int .i64 n,.int .i64 z.k,.int .u64 (z.t:Int),.int .u64 (z.p:Int),.int .u64 (z.x:Int),.int .i64 z.g,.int .i64 z.o,.slice pb nb cb,.slice pa na ca,.slice q m c,.int .u8 byt] TAw):=⟨_,rfl⟩;have HB:Hid (DoB w0 w W1 bp #[.int .i64 kd,.int .i64 n,.int .i64 z.k,.int .u64 (z.t:Int),.int .u64 (z.p:Int),.int .u64 (z.x:Int),.int .i64 z.g,.int .i64 z.o,.slice pb nb cb,.slice pa na ca,.slice q m c,.int .u8 byt] S T (.pointer (some ⟨db,0,none⟩)) pw (.pointer (some ⟨lb,0,none⟩)) (.pointer (some ⟨mb,0,none⟩)) s L s L M):=Lib.hid (by rw [hW1];exact DoB.start h _);have HW1:=Lib.hid hW1.symm;have HK:=Lib.hid hk;have HI:=Lib.hid hi;have HU:Hid (w.heap.size < W1.heap.size):=Lib.hid (by rw [hW1];simp);clear h hk hi hW1;have HM9:=Lib.hid (HK.out.more HI.out);have e1:(kd == 1)=false:=beq_eq_false_iff_ne.2 (hkd 1 (by decide) (by decide));have e2:(kd == 2)=false:=beq_eq_false_iff_ne.2 (hkd 2 (by decide) (by decide));have e3:(kd == 3)=false:=beq_eq_false_iff_ne.2 (hkd 3 (by decide) (by decide));have e4:(kd == 4)=false:=beq_eq_false_iff_ne.2 (hkd 4 (by decide) (by decide));have e5:(kd == 5)=false:=beq_eq_false_iff_ne.2 (hkd 5 (by decide) (by decide));have e6:(kd == 6)=false:=beq_eq_false_iff_ne.2 (hkd 6 (by decide) (by decide));have e7:(kd == 7)=false:=beq_eq_false_iff_ne.2 (hkd 7 (by decide) (by decide));have e8:(kd == 8)=false:=beq_eq_false_iff_ne.2 (hkd 8 (by decide) (by decide));have e9:(kd == 9)=false:=beq_eq_false_iff_ne.2 (hkd 9 (by decide) (by decide));clear hkd
 go_enter Tryz.func8,Tryz.ntmps8
 go_upto_region 1 with fail
 rw [HW1.out];have x0:=HB.out.blk.cell 0
 simp at x0
 have x1:=HB.out.blk.cell 1
 simp at x1
 go_wp2_with fail
 go_ret
 exact ⟨_,_,_,_,_,_,_,_,_,rfl,HB.out.pr,HM9.out⟩
end Go.Proofs.YtlijbgapkmfnaaaGreat
namespace Go.Proofs.YtlijbgapkmfnaaaGreat
open Go.RowKit Go.Maps
theorem do6_any {w0 w:World} {bp:Nat} {S T:Nat→Prop} {pd pw pl pm:Value} {s:St} {L:Lg} {M i:Nat} (h:PrB w0 w bp S T pd pw pl pm s L s L M) (hk:WpK i s L M) (hi:i < 100) (a:WDo) (hin:∀ V,Gr w0 V→a.In V) :
  Calls Tryz.prog 8 #[.pointer (some ⟨bp,0,none⟩),.agg a.val] w (RetDo w0 bp i):=by
 have h0:=hin w h.gr;obtain ⟨kd,n,⟨z0,z,pb,nb,cb,pa,na,ca⟩,q,m,c,zs,byt⟩:=a;have hn0:=h0.n0;have hn1:=h0.n1
 have hr:∀ V,Gr w0 V→z.In∧Byt V pb nb cb z.b∧Byt V pa na ca z.a:=fun V g=>⟨(hin V g).ri,(hin V g).xb,(hin V g).xa⟩
 have hz:∀ V,Gr w0 V→Nums V q m c zs:=fun V g=>(hin V g).pk
 simp only at hn0 hn1
 unfold WDo.val
 simp only
 by_cases h1:kd=1
 · subst h1;exact do_append h hk hi n z pb nb cb pa na ca q m c byt hr
 by_cases h2:kd=2
 · subst h2;exact do_use h hk hi n z pb nb cb pa na ca q m c byt hr
 by_cases h3:kd=3
 · subst h3;exact do_flush h hk hi n z pb nb cb pa na ca q m c byt hn0 hn1
 by_cases h4:kd=4
 · subst h4;exact do_settail h hk hi n z pb nb cb pa na ca q m c byt hn0 hn1
 by_cases h5:kd=5
 · subst h5;exact do_reserve h hk hi n z pb nb cb pa na ca q m c byt hn0 hn1
 by_cases h6:kd=6
 · subst h6;exact do_release h hk hi n z pb nb cb pa na ca q m c byt hn0 hn1
 by_cases h7:kd=7
 · subst h7;exact do_crash6 h hk hi n z pb nb cb pa na ca q m c byt zs hz
 by_cases h8:kd=8
 · subst h8;exact do_fuse6 h hk hi n z pb nb cb pa na ca q m c byt hn0 hn1
 by_cases h9:kd=9
 ·
  subst h9
  by_cases g1:n < 0
  · exact do_below6 h hk hi n z pb nb cb pa na ca q m c byt g1
  ·
   by_cases g2:n < 16
   · obtain ⟨j,rfl⟩:=Int.eq_ofNat_of_zero_le (show 0≤n by omega);have hb:=B8_of byt h0.b0 h0.b1;rw [← hb];exact do_sector6 h hk hi j z pb nb cb pa na ca q m c _ (by omega)
   · exact do_above6 h hk hi n z pb nb cb pa na ca q m c byt (by omega) g2
 ·
  refine do_none6 h hk hi n z pb nb cb pa na ca q m c byt kd fun x x1 x9 e=>?_
  have hx:x=1∨x=2∨x=3∨x=4∨x=5∨x=6∨x=7∨x=8∨x=9:=by omega
  rcases hx with rfl | rfl | rfl | rfl | rfl | rfl | rfl | rfl | rfl
  · exact h1 e
  · exact h2 e
  · exact h3 e
  · exact h4 e
  · exact h5 e
  · exact h6 e
  · exact h7 e
  · exact h8 e
  · exact h9 e
end Go.Proofs.YtlijbgapkmfnaaaGreat
namespace Go.Proofs.YtlijbgapkmfnaaaGreat
open Go.RowKit Go.Maps
set_option maxRecDepth 100000 in
set_option maxHeartbeats 2000000 in
theorem wsame_any {w0 w:World} {bp:Nat} {S T:Nat→Prop} {pd pw pl pm:Value} {s:St} {L:Lg} {M:Nat} (h:PrB w0 w bp S T pd pw pl pm s L s L M) (ok:L.Ok) (hn:s.ls.length=64) :
  Calls Tryz.prog 9 #[.pointer (some ⟨bp,0,none⟩)] w (RetB true w):=by
 obtain ⟨⟨lb,rfl⟩,db,rfl⟩:=h.code.ptr;obtain ⟨mb,rfl,_,_,m3,m6⟩:=h.doc.cells
 obtain ⟨rb,hrb⟩:∃ rb,pw=.pointer (some ⟨rb,0,none⟩):=by
  obtain ⟨G,hg,_⟩:=h.doc.disk (w':=w);obtain ⟨D,_,_,_,e,_⟩:=hg;exact ⟨D,e⟩
 subst hrb;obtain ⟨E0,hE0⟩:∃ E0,E0=L.fin:=⟨_,rfl⟩;obtain ⟨F0,hF0⟩:∃ F0,F0=L.free:=⟨_,rfl⟩;obtain ⟨A0,hA0⟩:∃ A0,A0=L.lasts:=⟨_,rfl⟩;obtain ⟨T0,hT0⟩:∃ T0,T0=L.tail:=⟨_,rfl⟩
 have HC:Hid (∀ V,Gr w V→V.cell? ⟨bp,2,none⟩=some (.pointer (some ⟨lb,0,none⟩))∧V.cell? ⟨bp,3,none⟩=some (.pointer (some ⟨mb,0,none⟩))∧V.cell? ⟨mb,3,none⟩=some (.int .u64 (T0:Int))∧V.cell? ⟨mb,6,none⟩=some (.int .u64 (A0:Int))):=Lib.hid fun V g=>by
  have hb:=h.blk.gr g;rw [hA0,hT0];exact ⟨hb.cell 2,hb.cell 3,(Below.cell g (p:=⟨mb,3,none⟩) (blk_lt m3)).trans m3,(Below.cell g (p:=⟨mb,6,none⟩) (blk_lt m6)).trans m6⟩
 have HD:Hid (∀ V,Gr w V→V.cell? ⟨bp,0,none⟩=some (.pointer (some ⟨db,0,none⟩))∧V.cell? ⟨bp,1,none⟩=some (.pointer (some ⟨rb,0,none⟩))):=Lib.hid fun V g=>by
  have hb:=h.blk.gr g;exact ⟨hb.cell 0,hb.cell 1⟩
 have H1:Hid (∀ V,Gr w V→Calls Tryz.prog 22 #[.pointer (some ⟨lb,0,none⟩)] V (RetU E0 V)):=Lib.hid fun V g=>by rw [hE0];exact (h.up g).code.End ok
 have H2:Hid (∀ V,Gr w V→Calls Tryz.prog 30 #[.pointer (some ⟨mb,0,none⟩)] V (RetU E0 V)):=Lib.hid fun V g=>by rw [hE0];exact (h.up g).doc.End ok
 have H3:Hid (∀ V,Gr w V→Calls Tryz.prog 38 #[.pointer (some ⟨lb,0,none⟩)] V (RetU A0 V)):=Lib.hid fun V g=>by rw [hA0];exact (h.up g).code.Lasts
 have H4:Hid (∀ V,Gr w V→Calls Tryz.prog 39 #[.pointer (some ⟨lb,0,none⟩)] V (RetU T0 V)):=Lib.hid fun V g=>by rw [hT0];exact (h.up g).code.Tail
 have H5:Hid (∀ V,Gr w V→Calls Tryz.prog 40 #[.pointer (some ⟨lb,0,none⟩)] V (RetI F0 V)):=Lib.hid fun V g=>by rw [hF0];exact (h.up g).code.Free ok
 have H6:Hid (∀ V,Gr w V→Calls Tryz.prog 41 #[.pointer (some ⟨mb,0,none⟩)] V (RetI F0 V)):=Lib.hid fun V g=>by rw [hF0];exact (h.up g).doc.Free ok
 have HRd:Hid (∀ V (i:Nat),Gr w V→i < 64→Calls Tryz.prog 42 #[.pointer (some ⟨db,0,none⟩),.int .i64 (i:Int)] V fun e w'=>RetRead V w' e (s.nw i) 0):=Lib.hid fun V i g hi=>by
  obtain ⟨F,hd,_⟩:=(h.up g).code.disk (w':=V);exact Read_yes V hd i (by omega)
 have HRr:Hid (∀ V (i:Nat),Gr w V→i < 64→Calls Tryz.prog 43 #[.pointer (some ⟨rb,0,none⟩),.int .i64 (i:Int)] V fun e w'=>e=.returned (.agg (sec (s.nw i)))∧Gr V w'):=Lib.hid fun V i g hi=>by
  obtain ⟨G,hd,_⟩:=(h.up g).doc.disk (w':=V);exact refRead_any V hd i (by omega)
 have q1:((E0:Int) != (E0:Int))=false:=by simp
 have q2:((A0:Int) != (A0:Int))=false:=by simp
 have q3:((T0:Int) != (T0:Int))=false:=by simp
 have q4:(F0 != F0)=false:=by simp
 clear h ok hn hE0 hF0 hA0 hT0 m3 m6;have c0:=HC.out w (Gr.refl _)
 go_enter Tryz.func9,Tryz.ntmps9
 go_wp2_with fail
 go_region_held3 (fun V=>V.cell? ⟨bp,2,none⟩=some (.pointer (some ⟨lb,0,none⟩))∧V.cell? ⟨bp,3,none⟩=some (.pointer (some ⟨mb,0,none⟩))∧V.cell? ⟨mb,3,none⟩=some (.int .u64 (T0:Int))∧V.cell? ⟨mb,6,none⟩=some (.int .u64 (A0:Int))) (first | exact c0 | exact c1 | exact c2 | exact c3 | exact c4 | exact c5 | exact c6) (first
  | (go_at_call 22;refine (H1.out w.drew (Gr.refl w).drew).mono ?_;rintro e w1 ⟨rfl,g1'⟩;have g1:=Gr.trans (Gr.refl w).drew g1';have c1:=HC.out w1 g1)
  | (go_at_call 30;refine (H2.out w1 g1).mono ?_;rintro e w2 ⟨rfl,g2'⟩;have g2:=Gr.trans g1 g2';have c2:=HC.out w2 g2)
  | (go_at_call 38;refine (H3.out w2 g2).mono ?_;rintro e w3 ⟨rfl,g3'⟩;have g3:=Gr.trans g2 g3';have c3:=HC.out w3 g3)
  | (go_at_call 39;refine (H4.out w3 g3).mono ?_;rintro e w4 ⟨rfl,g4'⟩;have g4:=Gr.trans g3 g4';have c4:=HC.out w4 g4)
  | (go_at_call 40;refine (H5.out w4 g4).mono ?_;rintro e w5 ⟨rfl,g5'⟩;have g5:=Gr.trans g4 g5';have c5:=HC.out w5 g5)
  | (go_at_call 41;refine (H6.out w5 g5).mono ?_;rintro e w6 ⟨rfl,g6'⟩;have g6:=Gr.trans g5 g6';have c6:=HC.out w6 g6))
 have HG6:=Lib.hid g6;clear c0 c1 c2 c3 c4 c5 c6 g1 g2 g3 g4 g5 g6 g1' g2' g3' g4' g5' g6' H1 H2 H3 H4 H5 H6 HC q1 q2 q3 q4;go_wp2_with fail
 go_loopw [3] (fun iv wr=>∃ j:Nat,j≤64∧iv=.int .i64 (j:Int)∧Hid (Gr w wr)) (fun iv _=>64 - (intOf iv).toNat)
 case atStart=>exact ⟨0,Nat.zero_le _,rfl,HG6⟩
 case round=>
  obtain ⟨j,hj,rfl,HG⟩:=hrel
  by_cases hlt:j < 64
  ·
   have g3:(j:Int) < 64:=by omega
   have HMe:Hid (j+1≤64∧64 - (j+1) < 64 - j∧j < 64):=Lib.hid ⟨by omega,by omega,hlt⟩
   have hq:IntKind.i64.wrap ((j:Int)+1)=((j+1:Nat):Int):=by rw [IntWalk.i64_in _ (by omega)];omega
   obtain ⟨x,hx⟩:∃ x,x=s.nw j:=⟨_,rfl⟩;have HR1:=Lib.hid (HRd.out wr j HG.out hlt)
   have HR2:Hid (∀ V,Gr w V→Calls Tryz.prog 43 #[.pointer (some ⟨rb,0,none⟩),.int .i64 (j:Int)] V fun e w'=>e=.returned (.agg (sec x))∧Gr V w'):=Lib.hid fun V g=>by rw [hx];exact HRr.out V j g hlt
   rw [← hx] at HR1
   have d0:=(HD.out wr HG.out).1;have hz:=zero_sec;clear hlt hj hx;go_wp2_with fail;refine HR1.out.mono ?_;rintro e w4 ⟨rfl,g4⟩;have HN4:Hid (Blk (w4.alloc (.cells (sec Sec.zero) TS)) w4.heap.size TS (sec Sec.zero)):=Lib.hid (Blk.new _ _ _);obtain ⟨W5,hW5⟩:∃ W5,W5=(w4.alloc (.cells (sec Sec.zero) TS)).setRow w4.heap.size (sec x):=⟨_,rfl⟩;have HW5:=Lib.hid hW5.symm;have HV5:Hid (Blk W5 w4.heap.size TS (sec x)∧Gr w W5):=Lib.hid (by rw [hW5];exact ⟨HN4.out.row _,below_setRow (Gr.trans HG.out (Gr.trans g4 (Gr.new _ _))) (Nat.le_trans HG.out.size g4.size) _⟩);clear g4 hW5 d0 HR1
   go_wp2_with (refine wpList_store_x rfl (.tmp 4) (.tmp 71) rfl HN4.out rfl rfl ?_;rw [HW5.out])
   have d1:=(HD.out W5 HV5.out.2).2;have v1:=HV5.out.1.one;have hus:=under_sec
   have hss:(Tryz.prog.info? TS).map (·.size)=some x.cells.length:=by rw [x.cells_len];exact size_sec
   have hqq:∀ V,(Op.equalIn 10000 46 (.agg x.cells.toArray) (.agg (sec x))).run Tryz.prog V=.ok true V:=fun V=>by
    have h:=eqi_sec x x V
    rw [decide_eq_true rfl] at h
    exact h
   have t2:((0:Int) != 0)=false:=rfl;clear hz
   go_region_held3 (fun V=>V.cell? ⟨bp,1,none⟩=some (.pointer (some ⟨rb,0,none⟩))∧V.rangeAt w4.heap.size 0 x.cells) (first | exact ⟨d1,v1⟩ | exact ⟨d2,v2⟩) (first | (go_at_call 43;refine (HR2.out W5.drew (HV5.out.2.drew)).mono ?_;rintro e w6 ⟨rfl,g6'⟩;have g6:=Gr.trans (Gr.refl W5).drew g6';have d2:=(HD.out w6 (Gr.trans HV5.out.2 g6)).2;have v2:=(HV5.out.1.gr g6).one))
   have HG7:=Lib.hid (Gr.trans HV5.out.2 g6);clear d1 v1 d2 v2 g6 g6';go_wp2_with fail
   go_roundw
   case rel=>exact ⟨j+1,HMe.out.1,rfl,HG7⟩
   case measure=>exact HMe.out.2.1
  ·
   obtain rfl:j=64:=by omega
   have g3:¬ ((64:Nat):Int) < 64:=by omega
   clear hlt hj;go_wp2_with fail
   go_ret
   exact ⟨rfl,HG.out⟩
end Go.Proofs.YtlijbgapkmfnaaaGreat
namespace Go.Proofs.YtlijbgapkmfnaaaGreat
open Go.RowKit Go.Maps
set_option maxRecDepth 100000 in
set_option maxHeartbeats 2000000 in
theorem walPlays_walk (p:Option Addr) (n c:Nat) (w:World) (hA:WActs w p n c):Calls Tryz.prog 3 #[.slice p n c] w (RetB true w):=by
 obtain ⟨f,hf⟩:=hA.chosen;have HA:=Lib.hid hf;have HMu:=Lib.hid (wmuch_any p n c f w hf);clear hA hf;obtain ⟨L2,hL2⟩:∃ L,L=newL 64 16 1 1 0:=⟨_,rfl⟩;have HBg:Hid (∀ V,Calls Tryz.prog 7 #[] V (fun e w'=>∃ bp S T pd pw pl pm,e=.returned (.tuple #[.pointer (some ⟨bp,0,none⟩),.bool true])∧PrB V w' bp S T pd pw pl pm zeroD L2 zeroD L2 20000)):=Lib.hid (by rw [hL2];exact begin_any)
 have HK0:Hid (WpK 0 zeroD L2 20000):=Lib.hid (by
  rw [hL2]
  exact ⟨newL_ok.1,newL_ok.2,rfl,rfl,rfl,Nat.le_refl _,Nat.le_refl _,by simp [zeroD,fresh],by simp [zeroD,fresh],zeroD_less,Nat.le_refl _,by decide⟩)
 clear hL2
 go_enter Tryz.func3,Tryz.ntmps3
 go_wp2_with fail;refine HMu.out.mono ?_;rintro e wa ⟨B,rfl,ga,hB⟩;have HGa:=Lib.hid ga;clear ga
 cases B
 rotate_left
 ·
  clear hB;go_wp2_with fail;refine (wknown_any wa).mono ?_;rintro e w7 ⟨rfl,g7⟩;go_wp2_with fail
  go_ret
  exact ⟨rfl,Gr.trans HGa.out g7⟩
 have HN:Hid (n≤80):=Lib.hid (hB rfl).1;clear hB;go_wp2_with fail;refine (HBg.out wa).mono ?_;rintro e w1 ⟨bp,S,T,pd,pw,pl,pm,rfl,hp⟩;have HP1:=Lib.hid (PrB.base hp HGa.out);clear hp HBg;go_wp2_with fail
 go_loopw [5] (fun iv wr=>∃ (i:Nat) (S T:Nat→Prop) (pd pw pl pm:Value) (s:St) (L:Lg) (M:Nat),i≤n∧iv=.int .i64 (i:Int)∧Hid (PrB w wr bp S T pd pw pl pm s L s L M)∧Hid (WpK i s L M)) (fun iv _=>n - (intOf iv).toNat)
 case atStart=>exact ⟨0,S,T,pd,pw,pl,pm,zeroD,L2,20000,Nat.zero_le _,rfl,HP1,HK0⟩
 case round=>
  clear HP1 HK0;obtain ⟨i,S,T,pd,pw,pl,pm,s,L,M,hi,rfl,HP,HK⟩:=hrel
  by_cases hlt:i < n
  ·
   have g3:(i:Int) < (n:Int):=by omega
   obtain ⟨b,o,rfl,hrow⟩:=HA.out.2 i hlt;have HMe:Hid (i+1≤n∧n - (i+1) < n - i):=Lib.hid ⟨by omega,by omega⟩
   have hq:IntKind.i64.wrap ((i:Int)+1)=((i+1:Nat):Int):=by have:=HN.out;rw [IntWalk.i64_in _ (by omega)];omega
   have HDo:=Lib.hid (do6_any HP.out HK.out (by have:=HN.out;omega) (f i) (fun V g=>(hrow V g).2));obtain ⟨A,hA⟩:∃ A,A=o+i*12:=⟨_,rfl⟩
   rw [← hA] at hrow
   have hA':o+i*12=A:=hA.symm;obtain ⟨a,ha⟩:∃ a,a=f i:=⟨_,rfl⟩
   rw [← ha] at HDo hrow
   obtain ⟨x0,x1,⟨y0,y1,y2,y3,y4,y5,y6,y7⟩,x10,x11⟩:=(hrow wr HP.out.gr).1;clear hrow hlt hi hA ha;go_wp2_with fail;refine HDo.out.mono ?_;rintro e w4 ⟨S4,T4,pd4,pw4,pl4,pm4,s4,L4,M4,rfl,hp4,hk4⟩;have HP4:=Lib.hid hp4;have HK4:=Lib.hid hk4;have HSm:=Lib.hid (wsame_any hp4 hk4.ok hk4.len);clear hp4 hk4 HDo x0 x1 y0 y1 y2 y3 y4 y5 y6 y7 x10 x11 HP HK;go_wp2_with fail;refine HSm.out.mono ?_;rintro e w5 ⟨rfl,g5⟩;have HP5:=Lib.hid (HP4.out.up g5);clear g5 HSm HP4;go_wp2_with fail
   go_roundw
   case rel=>exact ⟨i+1,S4,T4,pd4,pw4,pl4,pm4,s4,L4,M4,HMe.out.1,rfl,HP5,HK4⟩
   case measure=>exact HMe.out.2
  ·
   obtain rfl:i=n:=by omega
   have g3:¬ (i:Int) < (i:Int):=by omega
   clear hlt hi;go_wp2_with fail;refine (wknown_any wr).mono ?_;rintro e w7 ⟨rfl,g7⟩;go_wp2_with fail
   go_ret
   exact ⟨rfl,Gr.trans HP.out.gr g7⟩
end Go.Proofs.YtlijbgapkmfnaaaGreat
