/-
  Part 9 of what the laws of stage 6 rest on: contracts of the functions that they call, and what these rest on.
-/
import Derived.BigQuiet
import Derived.Deep.QuietTactic
import Derived.Test.YtlijbgapkmfnaaaGreatW2
import Derived.Test.YtlijbgapkmfnaaaGreatW3
import Derived.Test.YtlijbgapkmfnaaaGreatW5
import Derived.Test.YtlijbgapkmfnaaaGreatW6
import Derived.Test.YtlijbgapkmfnaaaGreatW7
import Derived.Test.YtlijbgapkmfnaaaGreatW8
import Derived.Test.YtlijbgapkmfnaaaGreatW1
set_option linter.unusedVariables false
set_option linter.unusedSimpArgs false
namespace Go.Proofs.YtlijbgapkmfnaaaGreat
open Go.RowKit Go.Maps
def secN (S:Sec):List Int:=S.bytes.map fun x=>(x.toNat:Int)
theorem secN_sec (S:Sec):IsSec (secN S):=⟨by simp [secN,S.len],fun x hx=>by
 obtain ⟨y,_,rfl⟩:=List.mem_map.1 hx;have:=y.toNat_lt
 omega⟩
theorem Sx_secN (S:Sec):Sx (secN S)=S:=by
 apply Sec.ext
 rw [Sx_bytes (by simp [secN,S.len])]
 unfold secN
 rw [List.map_map]
 conv=>rhs;rw [← List.map_id S.bytes]
 apply List.map_congr_left
 intro x _
 simp
theorem wleast_any (b:Nat) (p:Value) (n:Int) (l:Int) (g:Int) (ep:Nat) (tl:Nat) (la:Nat) (q:Option Addr) (m:Nat) (c:Nat) (rs:Int) (bg:Bool) (w:World) (h:Blk w b TLg #[p,.int .i64 n,.int .i64 l,.int .i64 g,.int .u64 ep,.int .u64 tl,.int .u64 la,.slice q m c,.int .i64 rs,.bool bg]) (ht:tl≤18446744073709551615) (he:1≤ep) (he2:ep≤18446744073709551615):Calls Tryz.prog 101 #[.pointer (some ⟨b,0,none⟩)] w (RetU (if 0 < tl % 232 then 0 else ep - 1) w):=by
 obtain ⟨c0,c1,c2,c3,c4,c5,c6,c7,c8,c9⟩:=h.c10;obtain ⟨A,hA⟩:∃ A,A=tl % 232:=⟨_,rfl⟩
 have HA:Hid (∀ W,Calls Tryz.prog 60 #[.int .u64 (tl:Int)] W fun e w'=>e=.returned (.int .i64 (A:Int))∧W=w'):=Lib.hid fun W=>by rw [hA];exact ahead_any _ W ht
 rw [← hA];clear h c0 c1 c2 c3 c6 c7 c8 c9 hA
 by_cases h0:0 < A
 ·
  have g0:(0:Int) < (A:Int):=by omega
  rw [if_pos h0];clear h0 he
  go_enter Tryz.func101,Tryz.ntmps101
  go_wp2_with fail;refine (HA.out w).mono ?_;rintro e w1 ⟨rfl,rfl⟩;go_wp2_with fail
  go_ret
  exact ⟨rfl,Gr.refl _⟩
 ·
  have g0:¬ (0:Int) < (A:Int):=by omega
  obtain ⟨E,hE⟩:∃ E,E=ep - 1:=⟨_,rfl⟩
  have hw:IntKind.u64.wrap ((ep:Int) - 1)=(E:Int):=by rw [IntKind.wrap_u64];omega
  rw [if_neg h0,← hE];clear h0 he he2 hE
  go_enter Tryz.func101,Tryz.ntmps101
  go_wp2_with fail;refine (HA.out w).mono ?_;rintro e w1 ⟨rfl,rfl⟩;go_wp2_with fail
  go_ret
  exact ⟨rfl,Gr.refl _⟩
theorem epX_le {xs:List Int} (h:IsSec xs):epX xs≤18446744073709551615:=by
 unfold epX atR
 split
 ·
  have hs:Wd.Small (sub xs 8 8):=(h.small.drop _).take _;have h2:=Wd.dec_lt _ hs
  have hl:(sub xs 8 8).length=8:=by unfold sub;have:=h.len;simp;omega
  rw [hl] at h2
  omega
 · omega
def foundL (rd:Nat→List Int) (l ep:Nat):Nat→Nat→Nat→List Int
 | 0,_,_=>[]
 | f+1,k,ls=>if okX (rd (3+k % l))=true∧numX (rd (3+k % l))=k∧epX (rd (3+k % l))≤ep∧ls≤epX (rd (3+k % l)) then
   bytX (rd (3+k % l))++(if manyX (rd (3+k % l)) < 232 then [] else foundL rd l ep f (k+1) (epX (rd (3+k % l)))) else []
def SlFo (b:Nat) (p:Value) (k:Nat) (I:Nat) (S:Sec) (slot:Nat) (v:Value) (_:World):Prop:=
 match slot with
 | 7=>v=.int .i64 0
 | 24=>v=.tuple #[.agg (sec S),.int .i64 0]
 | 25=>v=.pointer (some ⟨b,0,none⟩)
 | 26=>v=.pointer (some ⟨b,0,none⟩)
 | 27=>v=.pointer (some ⟨b,0,none⟩)
 | 28=>v=p
 | 29=>v=.pointer (some ⟨b,0,none⟩)
 | 30=>v=.int .u64 (k:Int)
 | 31=>v=.int .i64 (I:Int)
 | 32=>v=.tuple #[.agg (sec S),.int .i64 0]
 | 33=>v=.agg (sec S)
 | 34=>v=.int .i64 0
 | _=>True
theorem found_nums {N i k K L:Nat} (hns:3+N≤L∧0 < N∧N≤256∧K≤100000000000000000) (hi:i < N) (hk:k≤K+i):i+1≤N∧k+1≤K+(i+1)∧wrap64 ((i:Int)+1)=((i+1:Nat):Int)∧IntKind.u64.wrap ((k:Int)+1)=((k+1:Nat):Int):=
 ⟨by omega,by omega,by unfold wrap64;omega,by rw [IntKind.wrap_u64];omega⟩
theorem found_less {N i:Nat} (hi:i < N):N - (i+1) < N - i:=by omega
set_option maxRecDepth 100000 in
set_option maxHeartbeats 1000000 in
theorem wfound_any {F:Nat→Prop} {s:St} (D b:Nat) (p:Value) (n:Int) (l:Int) (g:Int) (ep:Nat) (tl:Nat) (la:Nat) (q:Option Addr) (m:Nat) (c:Nat) (rs:Int) (bg:Bool) (w:World) (h:Blk w b TLg #[p,.int .i64 n,.int .i64 l,.int .i64 g,.int .u64 ep,.int .u64 tl,.int .u64 la,.slice q m c,.int .i64 rs,.bool bg]) (hp:p=.pointer (some ⟨D,0,none⟩)) (hd:Dk w F p s) (hm:mayL n l g=true) (ht:tl≤9000000000000000000) (he:1≤ep) (he2:ep≤18446744073709551615) (hn:3+l≤s.ls.length) :
  Calls Tryz.prog 86 #[.pointer (some ⟨b,0,none⟩)] w (RetOwn 5 (foundL (fun i=>secN (s.nw i)) l.toNat ep l.toNat (tl / 232) (if 0 < tl % 232 then 0 else ep - 1)) w):=by
 have HB:=Lib.hid h;obtain ⟨c0,c1,c2,c3,c4,c5,c6,c7,c8,c9⟩:=h.c10;obtain ⟨K,hK⟩:∃ K,K=tl / 232:=⟨_,rfl⟩
 obtain ⟨LS,hLS⟩:∃ LS,LS=if 0 < tl % 232 then 0 else ep - 1:=⟨_,rfl⟩
 have HKs:Hid (∀ W,Calls Tryz.prog 78 #[.int .u64 (tl:Int)] W fun e w'=>e=.returned (.int .u64 (K:Int))∧W=w'):=Lib.hid fun W=>by rw [hK];exact sectorOf_any _ W (by omega)
 have HLe:Hid (Calls Tryz.prog 101 #[.pointer (some ⟨b,0,none⟩)] w (RetU LS w)):=Lib.hid (by rw [hLS];exact wleast_any b p n l g ep tl la q m c rs bg w h (by omega) he he2);rw [← hK,← hLS];have hin:=may_in hm;obtain ⟨N,hN⟩:∃ N,N=l.toNat:=⟨_,rfl⟩
 have hlN:l=(N:Int):=by omega
 rw [← hN];have HD:=Lib.hid hd;have HP:=Lib.hid (fun k (hk:k≤18446744073709551615) W (gr:Gr w W)=>wplace_any b p n l g ep tl la q m c rs bg k W (h.gr gr) hm hk)
 rw [← hN] at HP
 obtain ⟨rd,hrd⟩:∃ rd:Nat→List Int,rd=fun i=>secN (s.nw i):=⟨_,rfl⟩
 rw [← hrd]
 have HRD:Hid (∀ i,rd i=secN (s.nw i)):=Lib.hid fun i=>by rw [hrd]
 have HNs:Hid (3+N≤s.ls.length∧0 < N∧N≤256∧K≤100000000000000000):=Lib.hid ⟨by omega,by omega,by omega,by omega⟩;have HlN:=Lib.hid hlN;clear h hd hLS hrd hin hlN hN hm hn hK ht hp
 go_enter Tryz.func86,Tryz.ntmps86
 go_wp2_with fail
 go_step3
 go_wp2_with fail;refine (HKs.out w).mono ?_;rintro e w1 ⟨rfl,rfl⟩;go_wp2_with fail;refine HLe.out.mono ?_;rintro e w1 ⟨rfl,g1⟩;have HG1:=Lib.hid g1;have c2:=(HB.out.gr g1).cell 2
 simp at c2
 rw [HlN.out] at c2
 clear g1 c0 c1 c3 c4 c5 c6 c7 c8 c9 HLe;have HG:=Lib.hid (show Gr w w1 from HG1.out);have hb4:=HB.out.c10.2.2.2.2.1
 have HB0:Hid (∀ W,Gr w W→W.cell? ⟨b,0,none⟩=some p∧W.cell? ⟨b,4,none⟩=some (.int .u64 (ep:Int))):=Lib.hid fun W gr=>⟨(HB.out.gr gr).cell 0,(HB.out.gr gr).c10.2.2.2.2.1⟩
 clear hb4 HG1;go_wp2_with fail
 go_step3
 go_wp2_with fail
 go_loopw [3,4,5,22] (fun bv kv lv iv wr=>∃ (i k ls:Nat) (xs:List Int),i≤N∧iv=.int .i64 (i:Int)∧kv=.int .u64 (k:Int)∧lv=.int .u64 (ls:Int)∧k≤K+i∧Hid (OwnB wr w.heap.size 5 bv xs∧xs.length=232*i)∧Hid (foundL rd N ep N K LS=xs++foundL rd N ep (N - i) k ls)∧Hid (Gr w wr)) (fun _ _ _ iv _=>N - (intOf iv).toNat)
 case atStart=>exact ⟨0,K,LS,[],Nat.zero_le _,rfl,rfl,rfl,Nat.le_refl _,Lib.hid ⟨OwnB.nil _ _ _,rfl⟩,Lib.hid rfl,HG⟩
 case round=>
  obtain ⟨i,k,ls,xs,hi,rfl,rfl,rfl,hk,ho,hf,hg⟩:=hrel
  by_cases hlt:i < N
  ·
   obtain ⟨I,hI⟩:∃ I,I=3+k % N:=⟨_,rfl⟩;obtain ⟨S,hS⟩:∃ S,S=s.nw I:=⟨_,rfl⟩
   have hIl:I < s.ls.length:=by
    have h1:=HNs.out;have:k % N < N:=Nat.mod_lt _ h1.2.1
    omega
   have HPl:Hid (∀ W,Gr wr W→Calls Tryz.prog 95 #[.pointer (some ⟨b,0,none⟩),.int .u64 (k:Int)] W fun e w'=>e=.returned (.int .i64 (I:Int))∧Gr W w'):=Lib.hid fun W gr=>by
    rw [hI];exact HP.out k (by have:=HNs.out;omega) W (Gr.trans hg.out gr)
   have HRd:Hid (∀ W,Gr wr W→Calls Tryz.prog 42 #[p,.int .i64 (I:Int)] W fun e w'=>e=.returned (.tuple #[.agg (sec S),.int .i64 0])∧Gr W w'):=Lib.hid fun W gr=>by
    rw [hS];exact Read_yes W ((HD.out.gr hg.out).gr gr) I hIl
   have HIS:Hid (rd (3+k % N)=secN S∧S=Sx (secN S)):=Lib.hid ⟨by rw [HRD.out,← hI,hS],(Sx_secN S).symm⟩;clear hI hS hIl;go_wp2_with fail;refine Flow.regionF [7] 20 (SlFo b p k I S) (InV 11 12 6 TS (sec Sec.zero) (sec S) wr) (fun _ _ _=>True) (by kernel_rfl) (by kernel_rfl) (fun _ _ _ _ _ _ h _=>h) (InV.start (by rfl) (Gr.refl _).drew) ?steps ?fin
   case steps=>
    refine .cons (fun l a W hfr hun hup hdn hinv hdep K hK=>?_) ?_
    · have t0:=tAt (.pointer (some ⟨b,0,none⟩)) (hfr.at 0 (by kernel_rfl));refine fW0 rfl ?_;clear hdep;have hin:=hinv.1;go_simp;exact hK _ _ True.intro (hinv.other 0 (by decide) (by decide) (by simp) _ (Gr.refl _)) (dsT (by trivial))
    refine .cons (fun l a W hfr hun hup hdn hinv hdep K hK=>?_) ?_
    · have t25:=tAt (.pointer (some ⟨b,0,none⟩)) (hdep 25 (by kernel_rfl));refine fW0 rfl ?_;clear hdep;have hin:=hinv.1;go_simp;exact hK _ _ True.intro (hinv.other 1 (by decide) (by decide) (by simp) _ (Gr.refl _)) (dsT (by trivial))
    refine .cons (fun l a W hfr hun hup hdn hinv hdep K hK=>?_) ?_
    · have t26:=tAt (.pointer (some ⟨b,0,none⟩)) (hdep 26 (by kernel_rfl));refine fW0 rfl ?_;clear hdep;have hin:=hinv.1;go_simp;exact hK _ _ True.intro (hinv.other 2 (by decide) (by decide) (by simp) _ (Gr.refl _)) (dsT (by trivial))
    refine .cons (fun l a W hfr hun hup hdn hinv hdep K hK=>?_) ?_
    · have t27:=tAt (.pointer (some ⟨b,0,none⟩)) (hdep 27 (by kernel_rfl));refine fW0 rfl ?_;clear hdep;have hin:=hinv.1;have c0:=(HB0.out W (Gr.trans hg.out hin)).1;go_simp;exact hK _ _ True.intro (hinv.other 3 (by decide) (by decide) (by simp) _ (Gr.refl _)) (dsT (by trivial))
    refine .cons (fun l a W hfr hun hup hdn hinv hdep K hK=>?_) ?_
    · have t0:=tAt (.pointer (some ⟨b,0,none⟩)) (hfr.at 0 (by kernel_rfl));refine fW0 rfl ?_;clear hdep;have hin:=hinv.1;go_simp;exact hK _ _ True.intro (hinv.other 4 (by decide) (by decide) (by simp) _ (Gr.refl _)) (dsT (by trivial))
    refine .cons (fun l a W hfr hun hup hdn hinv hdep K hK=>?_) ?_
    · have t4:=tAt (.int .u64 (k:Int)) (hfr.at 4 (by kernel_rfl));refine fW0 rfl ?_;clear hdep;have hin:=hinv.1;go_simp;exact hK _ _ True.intro (hinv.other 5 (by decide) (by decide) (by simp) _ (Gr.refl _)) (dsT (by trivial))
    refine .cons (fun l a W hfr hun hup hdn hinv hdep K hK=>?_) ?_
    · have t29:=tAt (.pointer (some ⟨b,0,none⟩)) (hdep 29 (by kernel_rfl));have t30:=tAt (.int .u64 (k:Int)) (hdep 30 (by kernel_rfl));refine fW0 rfl ?_;clear hdep;have hin:=hinv.1;go_simp;refine (HPl.out W hin).mono ?_;rintro e W' ⟨rfl,g1⟩;exact hK _ _ True.intro (hinv.other 6 (by decide) (by decide) (by simp) _ g1) (dsT (by trivial))
    refine .cons (fun l a W hfr hun hup hdn hinv hdep K hK=>?_) ?_
    · have t28:=tAt (p) (hdep 28 (by kernel_rfl));have t31:=tAt (.int .i64 (I:Int)) (hdep 31 (by kernel_rfl));refine fW0 rfl ?_;clear hdep;have hin:=hinv.1;go_simp;refine (HRd.out W hin).mono ?_;rintro e W' ⟨rfl,g1⟩;exact hK _ _ True.intro (hinv.other 7 (by decide) (by decide) (by simp) _ g1) (dsT (by trivial))
    refine .cons (fun l a W hfr hun hup hdn hinv hdep K hK=>?_) ?_
    · have t32:=tAt (.tuple #[.agg (sec S),.int .i64 0]) (hdep 32 (by kernel_rfl));refine fW0 rfl ?_;clear hdep;have hin:=hinv.1;go_simp;exact hK _ _ True.intro (hinv.other 8 (by decide) (by decide) (by simp) _ (Gr.refl _)) (dsT (by trivial))
    refine .cons (fun l a W hfr hun hup hdn hinv hdep K hK=>?_) ?_
    · have t24:=tAt (.tuple #[.agg (sec S),.int .i64 0]) (hdep 24 (by kernel_rfl));refine fW0 rfl ?_;clear hdep;have hin:=hinv.1;go_simp;exact hK _ _ True.intro (hinv.other 9 (by decide) (by decide) (by simp) _ (Gr.refl _)) (dsT (by trivial))
    refine .cons (fun l a W hfr hun hup hdn hinv hdep K hK=>?_) ?_
    · have t24:=tAt (.tuple #[.agg (sec S),.int .i64 0]) (hdep 24 (by kernel_rfl));refine fW0 rfl ?_;clear hdep;have hin:=hinv.1;go_simp;exact hK _ _ True.intro (hinv.other 10 (by decide) (by decide) (by simp) _ (Gr.refl _)) (dsT (by trivial))
    refine .cons (fun l a W hfr hun hup hdn hinv hdep K hK=>?_) ?_
    · refine fW0 rfl ?_;clear hdep;have hz0:=zero_sec;go_simp;exact hK _ _ True.intro (hinv.alloc (by decide) (hup 12 (by decide) (by kernel_rfl)) (by rw [hfr.size];simp)) (dsT (by trivial))
    refine .cons (fun l a W hfr hun hup hdn hinv hdep K hK=>?_) ?_
    ·
     have s33:a.tmps.getD 33 undef=.agg (sec S):=hdep 33 (by kernel_rfl);have t33:=tmpAt s33;refine fW0 rfl ?_;clear hdep;obtain ⟨k6,s6,hk6,hb6⟩:=hinv.2 (hdn 11 (by decide) (by kernel_rfl))
     rw [hun] at hb6
     refine wp_store_row TS (.tmp 6) (.tmp 33) rfl k6 (sec S) (by simpa [Act.eval] using s6) (by simpa [Act.eval] using s33) TS (sec Sec.zero) hb6 (by rw [sec_size];exact size_sec) (by rw [sec_size,sec_size]) (sec_one S) ?_;exact hK undef _ True.intro (hinv.store (by decide) s6 hk6 (by simp) _ (hb6.row _) (below_setRow hinv.1 hk6 _)) (fun d hd=>by cases hd)
    refine .cons (fun l a W hfr hun hup hdn hinv hdep K hK=>?_) ?_
    · have t34:=tAt (.int .i64 0) (hdep 34 (by kernel_rfl));refine fW0 rfl ?_;clear hdep;have hin:=hinv.1;go_simp;exact hK _ _ True.intro (hinv.other 13 (by decide) (by decide) (by simp) _ (Gr.refl _)) (dsT (by trivial))
    exact True.intro
   case fin=>
    intro a W l hfr hall hinv hsl
    have s7:a.tmps.getD 7 undef=.int .i64 0:=hsl 13 _ 7 rfl rfl (by simp);have t7:=tmpAt s7;obtain ⟨hgv,kv,sv,hkv,hbv⟩:=hinv.post (hall 11 (by decide)) (hall 12 (by decide))
    have tv:a.tmps[6]?.getD undef=.pointer (some ⟨kv,0,none⟩):=by simpa using sv
    have e:=Flow.frame hfr [25,26,27,28,29,30,31,32,24,33,34,6,7] (List.range 72) (by kernel_rfl) (by kernel_rfl)
    simp [List.range,List.range.loop] at e
    rw [tv,t7] at e
    rw [e];have HV:=Lib.hid (show Gr wr W∧wr.heap.size≤kv∧Blk W kv TS (sec S) from ⟨hgv,hkv,hbv⟩);clear e hfr hsl hall hinv hgv hkv hbv sv tv s7 t7
    first
     | (rename_i hB;refine hB _ _ ?_)
     | (rename_i hB y0;refine hB _ _ ?_)
     | (rename_i hB y0 y1;refine hB _ _ ?_)
     | (rename_i hB y0 y1 y2;refine hB _ _ ?_)
     | (rename_i hB y0 y1 y2 y3;refine hB _ _ ?_)
     | (rename_i hB y0 y1 y2 y3 y4;refine hB _ _ ?_)
     | (rename_i hB y0 y1 y2 y3 y4 y5;refine hB _ _ ?_)
     | (rename_i hB y0 y1 y2 y3 y4 y5 y6;refine hB _ _ ?_)
     | (rename_i hB y0 y1 y2 y3 y4 y5 y6 y7;refine hB _ _ ?_)
     | (rename_i hB y0 y1 y2 y3 y4 y5 y6 y7 y8;refine hB _ _ ?_)
     | (rename_i hB y0 y1 y2 y3 y4 y5 y6 y7 y8 y9;refine hB _ _ ?_)
     | (rename_i hB y0 y1 y2 y3 y4 y5 y6 y7 y8 y9 y10;refine hB _ _ ?_)
     | skip
    have HPc:Hid (Calls Tryz.prog 102 #[.agg (sec S)] W (RetPc (secN S) W)):=Lib.hid (by
     have h:=pieceOf_all (secN_sec S) W
     rwa [Sx_secN] at h)
    obtain ⟨X,hX⟩:∃ X,X=secN S:=⟨_,rfl⟩;have HX:Hid (rd (3+k % N)=X∧IsSec X):=Lib.hid ⟨by rw [hX];exact HIS.out.1,by rw [hX];exact secN_sec S⟩
    rw [← hX] at HPc
    have HG2:=Lib.hid (Gr.trans hg.out HV.out.1);have HO2:Hid (OwnB W w.heap.size 5 u3 xs∧xs.length=232*i):=Lib.hid ⟨ho.out.1.below' HV.out.1,ho.out.2⟩
    have HB4:Hid (∀ V,Gr W V→V.cell? ⟨b,4,none⟩=some (.int .u64 (ep:Int))):=Lib.hid fun V gr=>(HB0.out V (Gr.trans HG2.out gr)).2
    have HFd:Hid (foundL rd N ep N K LS=xs++foundL rd N ep (N - i - 1+1) k ls):=Lib.hid (by rw [hf.out,show N - i - 1+1=N - i by omega]);clear hX ho hg hf HPl HRd HIS
    go_wp2_with (refine wpList_load_x rfl (.tmp 6) rfl HV.out.2.2 rfl ?_)
    refine HPc.out.mono ?_
    intro e W2 hr
    unfold RetPc at hr
    by_cases hok:okX X=true
    ·
     rw [if_pos hok] at hr
     obtain ⟨p0,rfl,hby,g2,hfar⟩:=hr;obtain ⟨N1,hN1⟩:∃ N1,N1=numX X:=⟨_,rfl⟩;obtain ⟨E1,hE1⟩:∃ E1,E1=epX X:=⟨_,rfl⟩;obtain ⟨M1,hM1⟩:∃ M1,M1=manyX X:=⟨_,rfl⟩
     rw [← hM1] at hby
     rw [← hN1,← hE1,← hM1]
     have hM232:M1≤232:=by
      rw [hM1]
      unfold okX at hok
      simp at hok
      exact hok.1
     have HFo:Hid (foundL rd N ep N K LS=xs++(if N1=k∧E1≤ep∧ls≤E1 then bytX X++(if M1 < 232 then [] else foundL rd N ep (N - i - 1) (k+1) E1) else [])):=Lib.hid (by
      rw [HFd.out]
      congr 1
      show (if okX (rd (3+k % N))=true∧numX (rd (3+k % N))=k∧epX (rd (3+k % N))≤ep∧ls≤epX (rd (3+k % N)) then bytX (rd (3+k % N))++(if manyX (rd (3+k % N)) < 232 then [] else foundL rd N ep (N - i - 1) (k+1) (epX (rd (3+k % N)))) else [])=_
      rw [HX.out.1,hN1,hE1,hM1]
      by_cases hc:numX X=k∧epX X≤ep∧ls≤epX X
      · rw [if_pos ⟨hok,hc⟩,if_pos hc]
      · rw [if_neg (fun h=>hc h.2),if_neg hc])
     have gW:Gr W (W2.alloc (.cells #[.int .u64 (N1:Int),.int .u64 (E1:Int),.slice p0 M1 M1] TPc)):=Gr.trans g2 (Gr.new _ _);have hbp:=Blk.new W2 TPc #[.int .u64 (N1:Int),.int .u64 (E1:Int),.slice p0 M1 M1];have HY2:=Lib.hid (hby.kept (Gr.new W2 (.cells #[.int .u64 (N1:Int),.int .u64 (E1:Int),.slice p0 M1 M1] TPc)));have HBp:=Lib.hid hbp;have HGW:=Lib.hid gW;obtain ⟨⟨d0,d1,d2⟩,_⟩:=hbp.c3;have e4:=HB4.out _ gW;have HEP:Hid (E1≤18446744073709551615):=Lib.hid (by rw [hE1];exact epX_le HX.out.2);have HW2s:Hid (W.heap.size≤W2.heap.size):=Lib.hid g2.size;clear hN1 hE1 hM1 hok hby g2 hfar hbp gW HPc
     by_cases h1:N1=k
     ·
      have t1:((N1:Int) != (k:Int))=false:=by simp [h1]
      by_cases h2:E1≤ep
      ·
       have t2:¬ (ep:Int) < (E1:Int):=by omega
       by_cases h3:ls≤E1
       ·
        have t3:¬ (E1:Int) < (ls:Int):=by omega
        have HFo2:Hid (foundL rd N ep N K LS=xs++(bytX X++(if M1 < 232 then [] else foundL rd N ep (N - i - 1) (k+1) E1))):=Lib.hid (by rw [HFo.out,if_pos ⟨h1,h2,h3⟩]);have HLs:Hid (E1≤18446744073709551615∧(bytX X).length=M1):=Lib.hid ⟨by have:=HEP.out;omega,HY2.out.len⟩;clear HFo HFd h1 h2 h3;go_wp2_with fail
        go_quiet (fail)
        obtain ⟨Wq,hWq⟩:∃ Wq,Wq=(W2.alloc (.cells #[.int .u64 (N1:Int),.int .u64 (E1:Int),.slice p0 M1 M1] TPc)).drewN nq:=⟨_,rfl⟩
        have gq:Gr (W2.alloc (.cells #[.int .u64 (N1:Int),.int .u64 (E1:Int),.slice p0 M1 M1] TPc)) Wq:=by rw [hWq];exact gr_drewN (Gr.refl _) nq
        have HYq:=Lib.hid (HY2.out.kept gq);have HOq:=Lib.hid ((HO2.out.1.below' HGW.out).below' gq);have HBq:=Lib.hid (HBp.out.gr gq);have HGq:=Lib.hid (Gr.trans (Gr.trans HG2.out HGW.out) gq)
        have HOlt:Hid (∀ j,Value.ownBlock u3=some j→j≠W2.heap.size):=Lib.hid fun j hj=>by
         have h5:=(HO2.out.1.row.lt j hj).2;have h6:=HW2s.out
         omega
        obtain ⟨⟨e0,e1,e2⟩,_⟩:=HBq.out.c3;rw [← hWq];clear hWq gq d0 d1 d2 e4
        by_cases h4:M1 < 232
        ·
         have t4:(M1:Int) < 232:=by omega
         have HR:Hid (foundL rd N ep N K LS=xs++bytX X):=Lib.hid (by rw [HFo2.out,if_pos h4,List.append_nil]);clear h4 HFo2
         go_wp2_with (at_builtin;refine wpList_app_byt bt rfl _ _ rfl w.heap.size _ xs rfl HOq.out p0 M1 M1 (bytX X) rfl HYq.out (by have:=HO2.out.2;have:=HNs.out;omega) HGq.out.size ?_;intro v9 W9 ho9 hg9;have HO9:=Lib.hid ho9;have HG9:=Lib.hid (Below.grown HGq.out hg9 HGq.out.size HOq.out.base);have HB9:=Lib.hid (HBq.out.stays (hg9.block _ HBq.out.lt (fun e=>HOlt.out _ e.symm rfl)));have e2':=HB9.out.c3.1.2.2;clear ho9 hg9)
         try rw [Exit.noGoto_ret]
         go_ret
         exact ⟨_,rfl,by rw [HR.out];exact HO9.out,HG9.out⟩
        ·
         have t4:¬ (M1:Int) < 232:=by omega
         have HM9:Hid (M1=232):=Lib.hid (by omega);have HA:=Lib.hid (found_nums HNs.out hlt hk);have HA2:Hid (N - (i+1) < N - i):=Lib.hid (found_less hlt);have HR:Hid (foundL rd N ep N K LS=(xs++bytX X)++foundL rd N ep (N - (i+1)) (k+1) E1):=Lib.hid (by rw [HFo2.out,if_neg h4,List.append_assoc,show N - i - 1=N - (i+1) by omega]);clear h4 HFo2
         go_wp2_with (at_builtin;refine wpList_app_byt bt rfl _ _ rfl w.heap.size _ xs rfl HOq.out p0 M1 M1 (bytX X) rfl HYq.out (by have:=HO2.out.2;have:=HNs.out;omega) HGq.out.size ?_;intro v9 W9 ho9 hg9;have HO9:Hid (OwnB W9 w.heap.size 5 v9 (xs++bytX X)∧(xs++bytX X).length=232*(i+1)):=Lib.hid ⟨ho9,by rw [List.length_append,HLs.out.2,HO2.out.2,HM9.out];omega⟩;have HG9:=Lib.hid (Below.grown HGq.out hg9 HGq.out.size HOq.out.base);have HB9:=Lib.hid (HBq.out.stays (hg9.block _ HBq.out.lt (fun e=>HOlt.out _ e.symm rfl)));have e2':=HB9.out.c3.1.2.2;have e1':=HB9.out.c3.1.2.1;clear ho9 hg9)
         go_quiet (fail)
         have HO10:Hid (OwnB (W9.drewN nq) w.heap.size 5 v9 (xs++bytX X)∧(xs++bytX X).length=232*(i+1)):=Lib.hid ⟨HO9.out.1.heap rfl,HO9.out.2⟩;have HG10:=Lib.hid (gr_drewN HG9.out nq);go_wp2_with fail
         go_roundw
         case rel=>exact ⟨i+1,k+1,E1,xs++bytX X,HA.out.1,by rw [HA.out.2.2.1],by rw [HA.out.2.2.2],rfl,HA.out.2.1,HO10,HR,HG10⟩
         case measure=>
          have hwi:=HA.out.2.2.1;rw [hwi];exact HA2.out
       ·
        have t3:(E1:Int) < (ls:Int):=by omega
        have HR:Hid (foundL rd N ep N K LS=xs):=Lib.hid (by rw [HFo.out,if_neg (fun h=>h3 h.2.2),List.append_nil]);clear h1 h2 h3 HFo;go_wp2_with fail
        go_quiet (fail)
        go_wp2_with fail
        try rw [Exit.noGoto_ret]
        go_ret
        exact ⟨_,rfl,by rw [HR.out];exact (HO2.out.1.below' HGW.out).heap rfl,gr_drewN (Gr.trans HG2.out HGW.out) nq⟩
      ·
       have t2:(ep:Int) < (E1:Int):=by omega
       have HR:Hid (foundL rd N ep N K LS=xs):=Lib.hid (by rw [HFo.out,if_neg (fun h=>h2 h.2.1),List.append_nil]);clear h1 h2 HFo;go_wp2_with fail
       go_quiet (fail)
       go_wp2_with fail
       try rw [Exit.noGoto_ret]
       go_ret
       exact ⟨_,rfl,by rw [HR.out];exact (HO2.out.1.below' HGW.out).heap rfl,gr_drewN (Gr.trans HG2.out HGW.out) nq⟩
     ·
      have t1:((N1:Int) != (k:Int))=true:=by
       have:¬ (N1:Int)=(k:Int):=by omega
       simpa using this
      have HR:Hid (foundL rd N ep N K LS=xs):=Lib.hid (by rw [HFo.out,if_neg (fun h=>h1 h.1),List.append_nil]);clear h1;go_wp2_with fail
      try rw [Exit.noGoto_ret]
      go_ret
      exact ⟨_,rfl,by rw [HR.out];exact HO2.out.1.below' HGW.out,Gr.trans HG2.out HGW.out⟩
    ·
     rw [if_neg hok] at hr
     obtain ⟨rfl,g2⟩:=hr
     have HR:Hid (foundL rd N ep N K LS=xs):=Lib.hid (by
      rw [HFd.out]
      show xs++(if okX (rd (3+k % N))=true∧_ then _ else _)=xs
      rw [HX.out.1,if_neg (fun h=>hok h.1),List.append_nil])
     have HG3:=Lib.hid g2;clear hok g2 HPc;go_wp2_with fail
     try rw [Exit.noGoto_ret]
     go_ret
     exact ⟨_,rfl,by rw [HR.out];exact (HO2.out.1.below' HG3.out).alloc _,Gr.trans HG2.out (Gr.trans HG3.out (Gr.new _ _))⟩
  ·
   obtain rfl:i=N:=by omega
   have HF:Hid (foundL rd i ep i K LS=xs):=Lib.hid (by rw [hf.out,Nat.sub_self];simp [foundL]);clear hf;go_wp2_with fail
   try rw [Exit.noGoto_ret]
   go_ret
   exact ⟨_,rfl,by rw [HF.out];exact ho.out.1,hg.out⟩
end Go.Proofs.YtlijbgapkmfnaaaGreat
namespace Go.Proofs.YtlijbgapkmfnaaaGreat
open Go.RowKit Go.Maps Cr
def endL:Nat→List (Nat × Rc)→Nat
 | a,[]=>a
 | _,x :: r=>endL x.1 r
def logT:Nat→List (Nat × Rc)→List (Nat × Nat × Rc)
 | _,[]=>[]
 | a,x :: r=>(a,x.1,x.2) :: logT x.1 r
theorem endL_app:∀ (a:Nat) (l k:List (Nat × Rc)),endL a (l++k)=endL (endL a l) k
 | _,[],_=>rfl
 | a,x :: r,k=>by simp only [List.cons_append,endL];exact endL_app x.1 r k
theorem endL_snoc (a:Nat) (l:List (Nat × Rc)) (x:Nat × Rc):endL a (l++[x])=x.1:=by rw [endL_app];rfl
theorem logT_len:∀ (a:Nat) (l:List (Nat × Rc)),(logT a l).length=l.length
 | _,[]=>rfl
 | _,x :: r=>by simp only [logT,List.length_cons,logT_len x.1 r]
theorem allL_end:∀ (k:Nat) (xs:List Int) (a:Nat),xs.length≤k→a+xs.length≤18446744073709551615→a≤endL a (allL xs a)∧endL a (allL xs a)≤a+xs.length
 | 0,xs,a,h,_=>by rw [allL_no (ofB_short (by omega))];exact ⟨Nat.le_refl _,Nat.le_add_right _ _⟩
 | k+1,xs,a,h,h2=>by
  cases hb:ofB xs a
  · rw [allL_no hb];exact ⟨Nat.le_refl _,Nat.le_add_right _ _⟩
  ·
   have hn:=ofN_yes hb;rw [allL_yes hb];have e:onW a (ofN xs a)=a+ofN xs a:=onW_of (by omega);rw [e];have:=allL_end k (xs.drop (ofN xs a)) (a+ofN xs a) (by rw [List.length_drop];omega) (by rw [List.length_drop];omega)
   rw [List.length_drop] at this
   show a≤endL (a+ofN xs a) _∧endL (a+ofN xs a) _≤_
   omega
theorem foundL_len (rd:Nat→List Int) (l ep:Nat) (hrd:∀ i,IsSec (rd i)):∀ (f k ls:Nat),(foundL rd l ep f k ls).length≤232*f∧Wd.Small (foundL rd l ep f k ls)
 | 0,_,_=>⟨Nat.le_refl _,fun _ h=>by cases h⟩
 | f+1,k,ls=>by
  unfold foundL
  split
  ·
   rename_i h
   have hm:manyX (rd (3+k % l))≤232:=by
    have:=h.1
    unfold okX at this
    simp at this
    exact this.1
   have hs:Wd.Small (bytX (rd (3+k % l))):=((hrd _).small.drop _).take _
   have hl:(bytX (rd (3+k % l))).length≤232:=by unfold bytX;rw [List.length_take];omega
   rw [List.length_append]
   split
   · exact ⟨by simp;omega,by rw [List.append_nil];exact hs⟩
   · have ih:=foundL_len rd l ep hrd f (k+1) (epX (rd (3+k % l)));exact ⟨by omega,hs.app ih.2⟩
  · exact ⟨by simp,fun _ h=>by cases h⟩
def opB (s:St) (l ep tl:Nat):List Int:=foundL (fun i=>secN (s.nw i)) l ep l (tl / 232) (if 0 < tl % 232 then 0 else ep - 1)
def opX (s:St) (l ep tl:Nat):List (Nat × Rc):=allL ((opB s l ep tl).drop (tl % 232)) tl
def opN (s:St) (l ep tl:Nat):Nat:=endL tl (opX s l ep tl)
def opOk (s:St) (l ep tl:Nat):Bool:=decide (tl % 232≤(opB s l ep tl).length)
def opT (s:St) (l ep tl:Nat):List Int:=(opB s l ep tl).take (tl % 232+(opN s l ep tl - tl))
def opL (s:St) (n l g:Int) (ep tl:Nat):Lg:=
 { n,l,g,epoch:=ep,tail:=tl,lasts:=opN s l.toNat ep tl,txt:=(opT s l.toNat ep tl).drop (tl % 232+(opN s l.toNat ep tl - tl) - opN s l.toNat ep tl % 232),rsv:=0,begun:=false }
theorem opB_len (s:St) (l ep tl:Nat):(opB s l ep tl).length≤232*l∧Wd.Small (opB s l ep tl):=foundL_len _ _ _ (fun i=>secN_sec _) _ _ _
theorem opN_in (s:St) (l ep tl:Nat) (hl:l≤256) (ht:tl≤9000000000000000000):tl≤opN s l ep tl∧opN s l ep tl≤tl+((opB s l ep tl).length - tl % 232):=by
 have h:=(opB_len s l ep tl).1;have:=allL_end _ ((opB s l ep tl).drop (tl % 232)) tl (Nat.le_refl _) (by rw [List.length_drop];omega)
 rw [List.length_drop] at this
 exact this
theorem opL_ok (s:St) (n l g:Int) (ep tl:Nat) (hm:mayL n l g=true) (he:1≤ep) (he2:ep≤4611686018427387904) (ht:tl≤4611686018427387904) (ho:opOk s l.toNat ep tl=true) :
  (opL s n l g ep tl).Ok∧(opL s n l g ep tl).fin=(opL s n l g ep tl).lasts∧(opL s n l g ep tl).Fits∧(opL s n l g ep tl).txt.length=(opL s n l g ep tl).lasts % 232∧(opT s l.toNat ep tl).length=tl % 232+(opN s l.toNat ep tl - tl)∧opN s l.toNat ep tl % 232≤tl % 232+(opN s l.toNat ep tl - tl):=by
 have hin:=may_in hm;have hl:=(opB_len s l.toNat ep tl).1;have hn:=opN_in s l.toNat ep tl (by omega) (by omega)
 have ho2:tl % 232≤(opB s l.toNat ep tl).length:=by simpa [opOk] using ho
 have htl:(opT s l.toNat ep tl).length=tl % 232+(opN s l.toNat ep tl - tl):=by unfold opT;rw [List.length_take];omega
 have hmod:opN s l.toNat ep tl % 232≤tl % 232+(opN s l.toNat ep tl - tl):=by omega
 have hx:(opL s n l g ep tl).txt.length=(opL s n l g ep tl).lasts % 232:=by
  show ((opT s l.toNat ep tl).drop _).length=opN s l.toNat ep tl % 232
  rw [List.length_drop,htl]
  omega
 have hf:(opL s n l g ep tl).fin=(opL s n l g ep tl).lasts:=by unfold Lg.fin;rw [hx];omega
 refine ⟨⟨hm,he,he2,hn.1,Nat.le_of_eq hx.symm,?_,?_,Int.le_refl _,(by show (0:Int)≤60000;decide)⟩,hf,.inl rfl,hx,htl,hmod⟩
 · rw [hf];show opN s l.toNat ep tl≤_;omega
 · rw [hf];show opN s l.toNat ep tl≤tl - tl % 232+232*l.toNat;omega
end Go.Proofs.YtlijbgapkmfnaaaGreat
namespace Go.Proofs.YtlijbgapkmfnaaaGreat
open Go.RowKit Go.Maps
abbrev TLr:TypeId:=82
theorem Blk.c9 {w:World} {b:Nat} {t:TypeId} {x0 x1 x2 x3 x4 x5 x6 x7 x8:Value} (h:Blk w b t #[x0,x1,x2,x3,x4,x5,x6,x7,x8]) :
  w.cell? ⟨b,0,none⟩=some x0∧w.cell? ⟨b,1,none⟩=some x1∧w.cell? ⟨b,2,none⟩=some x2∧w.cell? ⟨b,3,none⟩=some x3∧w.cell? ⟨b,4,none⟩=some x4∧w.cell? ⟨b,5,none⟩=some x5∧w.cell? ⟨b,6,none⟩=some x6∧w.cell? ⟨b,7,none⟩=some x7∧w.cell? ⟨b,8,none⟩=some x8:=
 ⟨h.cell 0,h.cell 1,h.cell 2,h.cell 3,h.cell 4,h.cell 5,h.cell 6,h.cell 7,h.cell 8⟩
theorem rEnd_any (b:Nat) (p:Value) (n:Int) (ep tl fr:Nat) (q:Option Addr) (m c la:Nat) (rs:Int) (ct:Bool) (w:World) (h:Blk w b TLr #[p,.int .i64 n,.int .u64 ep,.int .u64 tl,.int .u64 fr,.slice q m c,.int .u64 la,.int .i64 rs,.bool ct]) (hE:fr+m≤9223372036854775807) :
  Calls Tryz.prog 30 #[.pointer (some ⟨b,0,none⟩)] w fun e w'=>e=.returned (.int .u64 ((fr+m:Nat):Int))∧∃ k,w'=w.drewN k:=by
 obtain ⟨c0,c1,c2,c3,c4,c5,c6,c7,c8⟩:=h.c9;obtain ⟨E,hE2⟩:∃ E,E=fr+m:=⟨_,rfl⟩
 have hw1:IntKind.u64.wrap (m:Int)=(m:Int):=by rw [IntKind.wrap_u64];omega
 have hw2:IntKind.u64.wrap ((fr:Int)+(m:Int))=(E:Int):=by rw [IntKind.wrap_u64];omega
 rw [← hE2];clear h c0 c1 c2 c3 c6 c7 c8 hE hE2
 go_enter Tryz.func30,Tryz.ntmps30
 go_wp2_with fail
 go_quiet (fail)
 go_wp2_with fail
 go_ret
 exact ⟨rfl,_,rfl⟩
theorem rSetTail_no (b:Nat) (p:Value) (n:Int) (ep tl fr:Nat) (q:Option Addr) (m c la:Nat) (rs:Int) (ct:Bool) (t:Nat) (w:World) (h:Blk w b TLr #[p,.int .i64 n,.int .u64 ep,.int .u64 tl,.int .u64 fr,.slice q m c,.int .u64 la,.int .i64 rs,.bool ct]) (ht:t < tl∨la < t) :
  Calls Tryz.prog 32 #[.pointer (some ⟨b,0,none⟩),.int .u64 (t:Int)] w (RetE 2 w):=by
 obtain ⟨c0,c1,c2,c3,c4,c5,c6,c7,c8⟩:=h.c9;clear h c0 c1 c2 c4 c5 c7 c8
 by_cases h1:(t:Int) < (tl:Int)
 ·
  clear ht
  go_enter Tryz.func32,Tryz.ntmps32
  go_wp2_with fail
  go_ret
  exact ⟨rfl,Gr.refl _⟩
 ·
  have h2:(la:Int) < (t:Int):=by omega
  clear ht
  go_enter Tryz.func32,Tryz.ntmps32
  go_wp2_with fail
  go_ret
  exact ⟨rfl,Gr.refl _⟩
theorem rSetTail_yes (b:Nat) (p:Value) (n:Int) (ep tl fr:Nat) (q:Option Addr) (m c la:Nat) (rs:Int) (ct:Bool) (t:Nat) (w:World) (h:Blk w b TLr #[p,.int .i64 n,.int .u64 ep,.int .u64 tl,.int .u64 fr,.slice q m c,.int .u64 la,.int .i64 rs,.bool ct]) (h1:tl≤t) (h2:t≤la) :
  Calls Tryz.prog 32 #[.pointer (some ⟨b,0,none⟩),.int .u64 (t:Int)] w (RetCell 0 b 3 (.int .u64 (t:Int)) w):=by
 obtain ⟨c0,c1,c2,c3,c4,c5,c6,c7,c8⟩:=h.c9;have f3:=h.frozen 3;clear h c0 c1 c2 c4 c5 c7 c8
 have g1:¬ (t:Int) < (tl:Int):=by omega
 have g2:¬ (la:Int) < (t:Int):=by omega
 clear h1 h2
 go_enter Tryz.func32,Tryz.ntmps32
 go_wp2_with fail
 go_ret
 exact ⟨rfl,_,Gr.refl _,rfl⟩
def rfreeR (n rs:Int) (tl E:Nat):Int:=max (232*(n - 1) - ((E - tl / 232*232:Nat):Int) - rs) 0
theorem rFree_any (b:Nat) (p:Value) (n:Int) (ep tl fr:Nat) (q:Option Addr) (m c la:Nat) (rs:Int) (ct:Bool) (w:World) (h:Blk w b TLr #[p,.int .i64 n,.int .u64 ep,.int .u64 tl,.int .u64 fr,.slice q m c,.int .u64 la,.int .i64 rs,.bool ct]) (hE:fr+m≤9223372036854775807) (hn:0≤n∧n≤300) (hr:0≤rs∧rs≤1000000) (ht:tl≤fr+m) (hs:fr+m≤tl+100000) :
  Calls Tryz.prog 41 #[.pointer (some ⟨b,0,none⟩)] w fun e w'=>e=.returned (.int .i64 (rfreeR n rs tl (fr+m)))∧∃ k,w'=w.drewN k:=by
 obtain ⟨c0,c1,c2,c3,c4,c5,c6,c7,c8⟩:=h.c9;have HEn:=Lib.hid (fun k=>rEnd_any b p n ep tl fr q m c la rs ct (w.drewN k) (h.gr (gr_drewN (Gr.refl w) k)) hE);obtain ⟨E,hE2⟩:∃ E,E=fr+m:=⟨_,rfl⟩;obtain ⟨T,hT⟩:∃ T,T=tl / 232:=⟨_,rfl⟩;obtain ⟨X,hX⟩:∃ X,X=E - T*232:=⟨_,rfl⟩;obtain ⟨Y,hY⟩:∃ Y:Int,Y=232*(n - 1):=⟨_,rfl⟩
 rw [← hE2] at HEn
 have hw1:IntKind.u64.wrap ((T:Int)*232)=((T*232:Nat):Int):=by rw [IntKind.wrap_u64];omega
 have hw2:IntKind.u64.wrap ((E:Int) - ((T*232:Nat):Int))=(X:Int):=by rw [IntKind.wrap_u64];omega
 have hw3:(tl:Int) / 232=(T:Int):=by omega
 have HR:Hid (rfreeR n rs tl (fr+m)=max (Y - X - rs) 0):=Lib.hid (by unfold rfreeR;rw [← hE2,← hT,← hX,← hY]);rw [HR.out]
 have hw0:IntKind.u64.wrap (T:Int)=(T:Int):=by rw [IntKind.wrap_u64];omega
 have HQ:Hid (wrap64 (wrap64 (232*(n - 1) - wrap64 (IntKind.u64.wrap ((E:Int) - IntKind.u64.wrap (IntKind.u64.wrap (T:Int)*232)))) - rs)=Y - X - rs):=Lib.hid (by rw [hw0,hw1,hw2];unfold wrap64;omega)
 have hb:0≤(X:Int)∧(X:Int)≤101000 ∧ -300≤Y∧Y≤100000:=by omega
 clear h c0 c2 c4 c5 c6 c8 hE hE2 hT hX ht hs HR hw1 hw2 hw0 hb
 go_enter Tryz.func41,Tryz.ntmps41
 go_wp2_with fail
 go_quiet (exact Calls.quiet_of (HEn.out _))
 go_wp2_with fail
 all_goals
  rename_i hge
  rw [HQ.out] at hge ⊢
  go_ret
  refine ⟨ret_i ?_,_,rfl⟩
  omega
set_option maxRecDepth 100000 in
theorem rReserve_no (b:Nat) (r:Int) (w:World) (hr:r < 0) :
  Calls Tryz.prog 34 #[.pointer (some ⟨b,0,none⟩),.int .i64 r] w (RetE 2 w):=by
 go_enter Tryz.func34,Tryz.ntmps34
 go_wp2_with fail
 go_ret
 exact ⟨rfl,Gr.refl _⟩
theorem rReserve_full (b:Nat) (r F:Int) (w:World) (hr:0≤r) (hF:F < r) (HF:Hid (∀ W,Gr w W→Calls Tryz.prog 41 #[.pointer (some ⟨b,0,none⟩)] W fun e w'=>e=.returned (.int .i64 F)∧∃ k,w'=W.drewN k)) :
  Calls Tryz.prog 34 #[.pointer (some ⟨b,0,none⟩),.int .i64 r] w (RetE 5 w):=by
 have hr':¬ r < 0:=by omega
 go_enter Tryz.func34,Tryz.ntmps34
 go_wp2_with fail;refine (HF.out w (Gr.refl w)).mono ?_;rintro e w1 ⟨rfl,k,rfl⟩;go_wp2_with fail
 go_ret
 exact ⟨rfl,gr_drewN (Gr.refl _) _⟩
theorem rReserve_yes (b:Nat) (p:Value) (n:Int) (ep tl fr:Nat) (q:Option Addr) (m c la:Nat) (rs:Int) (ct:Bool) (r F:Int) (w:World) (h:Blk w b TLr #[p,.int .i64 n,.int .u64 ep,.int .u64 tl,.int .u64 fr,.slice q m c,.int .u64 la,.int .i64 rs,.bool ct]) (hr:0≤r) (hF:r≤F) (hF2:F≤1000000) (h0:0≤rs) (h1:rs≤1000000) (HF:Hid (∀ W,Gr w W→Calls Tryz.prog 41 #[.pointer (some ⟨b,0,none⟩)] W fun e w'=>e=.returned (.int .i64 F)∧∃ k,w'=W.drewN k)) :
  Calls Tryz.prog 34 #[.pointer (some ⟨b,0,none⟩),.int .i64 r] w (RetCell 0 b 7 (.int .i64 (rs+r)) w):=by
 have HB:=Lib.hid h
 have hr':¬ r < 0:=by omega
 have hr2:¬ F < r:=by omega
 clear h
 go_enter Tryz.func34,Tryz.ntmps34
 go_wp2_with fail;refine (HF.out w (Gr.refl w)).mono ?_;rintro e w1 ⟨rfl,k,rfl⟩;have c7:=(HB.out.gr (gr_drewN (Gr.refl w) k)).cell 7;have f7:=(HB.out.gr (gr_drewN (Gr.refl w) k)).frozen 7
 simp at c7
 go_wp2_with fail
 go_ret
 exact ⟨rfl,_,gr_drewN (Gr.refl _) _,rfl⟩
end Go.Proofs.YtlijbgapkmfnaaaGreat
namespace Go.Proofs.YtlijbgapkmfnaaaGreat
open Go.RowKit Go.Maps
set_option maxRecDepth 100000 in
theorem rRelease_any (b:Nat) (p:Value) (n:Int) (ep tl fr:Nat) (q:Option Addr) (m c la:Nat) (rs:Int) (ct:Bool) (r:Int) (w:World) (h:Blk w b TLr #[p,.int .i64 n,.int .u64 ep,.int .u64 tl,.int .u64 fr,.slice q m c,.int .u64 la,.int .i64 rs,.bool ct]) (h0:0≤rs) (h1:rs≤1000000) (hr:r≤9223372036854775807) :
  Calls Tryz.prog 36 #[.pointer (some ⟨b,0,none⟩),.int .i64 r] w fun e w'=>e=.returned (.tuple #[])∧Blk w' b TLr #[p,.int .i64 n,.int .u64 ep,.int .u64 tl,.int .u64 fr,.slice q m c,.int .u64 la,.int .i64 (max (rs - max r 0) 0),.bool ct]∧Only b w w':=by
 have HB:=Lib.hid h;have c7:=h.cell 7;have f7:=h.frozen 7
 simp at c7
 by_cases hr0:0 < r
 ·
  obtain ⟨Y,hY⟩:∃ Y,Y=rs - r:=⟨_,rfl⟩
  have hw:wrap64 (rs - r)=Y:=by unfold wrap64;omega
  have HB1:=Lib.hid (h.set 7 (.int .i64 Y));have c7':=HB1.out.cell 7;have f7':=HB1.out.frozen 7
  simp at c7'
  by_cases hy:Y < 0
  ·
   have HR:Hid (max (rs - max r 0) 0=0):=Lib.hid (by omega);rw [HR.out];clear h h0 h1 hr hY HR
   go_enter Tryz.func36,Tryz.ntmps36
   go_wp2_with fail;exact bodyPost_end (results_none rfl _ _ _) rfl ⟨rfl,HB1.out.set 7 (.int .i64 0),(Only.cell _ _ _ _).trans (Only.cell _ _ _ _)⟩
  ·
   have HR:Hid (max (rs - max r 0) 0=Y):=Lib.hid (by omega);rw [HR.out];clear h h0 h1 hr hY HR
   go_enter Tryz.func36,Tryz.ntmps36
   go_wp2_with fail;exact bodyPost_end (results_none rfl _ _ _) rfl ⟨rfl,HB1.out,Only.cell _ _ _ _⟩
 ·
  have hr2:¬ rs < 0:=by omega
  have HR:Hid (max (rs - max r 0) 0=rs):=Lib.hid (by omega);rw [HR.out];clear h h0 h1 hr HR
  go_enter Tryz.func36,Tryz.ntmps36
  go_wp2_with fail;exact bodyPost_end (results_none rfl _ _ _) rfl ⟨rfl,HB.out,Only.refl _ _⟩
end Go.Proofs.YtlijbgapkmfnaaaGreat
namespace Go.Proofs.YtlijbgapkmfnaaaGreat
open Go.RowKit Go.Maps
structure RlAt (w:World) (b:Nat) (p:Value) (q:Option Addr) (m c fr:Nat) (ys:List Int) (L:Lg):Prop where
 blk:Blk w b TLr #[p,.int .i64 L.l,.int .u64 L.epoch,.int .u64 L.tail,.int .u64 fr,.slice q m c,.int .u64 L.lasts,.int .i64 L.rsv,.bool L.begun]
 txt:Txt w q m c ys
 apart:∀ y,q=some y→y.block≠b
 low:∀ k,lgS b q k→k < w.heap.size
 nought:fr % 232=0
 le:fr≤L.lasts - L.lasts % 232
 tl:fr≤L.tail
 ends : ys.drop (L.lasts - L.lasts % 232 - fr) = L.txt
 len:fr+ys.length=L.fin
def RetRl (v:Value) (fr:Nat) (ys:List Int) (L':Lg) (b:Nat) (p:Value) (q:Option Addr) (w:World) (e:Ending) (w':World):Prop:=
 ∃ q' m' c',e=.returned v∧RlAt w' b p q' m' c' fr ys L'∧Upd (lgS b q) (lgS b q') w w'
theorem rfree_same {l rs:Int} {tl E:Nat} (h:tl≤E):rfreeR l rs tl E=freeR l rs tl E:=by
 unfold rfreeR freeR
 have:E - tl / 232*232=tl % 232+(E - tl):=by omega
 rw [this]
section
variable {w w':World} {b:Nat} {p:Value} {q:Option Addr} {m c fr:Nat} {ys:List Int} {L:Lg}
theorem RlAt.gr (h:RlAt w b p q m c fr ys L) (g:Gr w w'):RlAt w' b p q m c fr ys L:=⟨h.blk.gr g,h.txt.gr g,h.apart,fun k hk=>Nat.lt_of_lt_of_le (h.low k hk) g.size,h.nought,h.le,h.tl,h.ends,h.len⟩
theorem RlAt.mlen (h:RlAt w b p q m c fr ys L):fr+m=L.fin:=by rw [← h.len,h.txt.1.len]
theorem RlAt.same (h:RlAt w b p q m c fr ys L) {v:Value} {e:Ending} (he:e=.returned v) (g:Gr w w'):RetRl v fr ys L b p q w e w':=⟨q,m,c,he,h.gr g,Upd.of_gr g⟩
theorem RlAt.End (h:RlAt w b p q m c fr ys L) (ok:L.Ok):Calls Tryz.prog 30 #[.pointer (some ⟨b,0,none⟩)] w (RetU L.fin w):=by
 have hm:=h.mlen;have h1:=rEnd_any b _ _ _ _ _ _ _ _ _ _ _ w h.blk (by have:=ok.most;omega)
 rw [hm] at h1
 refine h1.mono ?_;rintro e w1 ⟨rfl,k,rfl⟩;exact ⟨rfl,gr_drewN (Gr.refl _) _⟩
theorem RlAt.Free' (h:RlAt w b p q m c fr ys L) (ok:L.Ok):Calls Tryz.prog 41 #[.pointer (some ⟨b,0,none⟩)] w fun e w'=>e=.returned (.int .i64 L.free)∧∃ k,w'=w.drewN k:=by
 have hm:=h.mlen;have hn:=ok.near;have h1:=rFree_any b _ _ _ _ _ _ _ _ _ _ _ w h.blk (by have:=ok.most;omega) (by have:=ok.l1;omega) ⟨ok.r0,by have:=ok.r1;omega⟩ (by omega) (by omega)
 rw [hm,rfree_same hn.1] at h1
 exact h1
theorem RlAt.Free (h:RlAt w b p q m c fr ys L) (ok:L.Ok):Calls Tryz.prog 41 #[.pointer (some ⟨b,0,none⟩)] w (RetI L.free w):=by
 refine (h.Free' ok).mono ?_;rintro e w1 ⟨rfl,k,rfl⟩;exact ⟨rfl,gr_drewN (Gr.refl _) _⟩
theorem RlAt.set (h:RlAt w b p q m c fr ys L) (o:Only b w w') (L':Lg) (hb:Blk w' b TLr #[p,.int .i64 L'.l,.int .u64 L'.epoch,.int .u64 L'.tail,.int .u64 fr,.slice q m c,.int .u64 L'.lasts,.int .i64 L'.rsv,.bool L'.begun]) (e1:L'.lasts=L.lasts) (e2:L'.txt=L.txt) (e3:fr≤L'.tail):RlAt w' b p q m c fr ys L':=
 ⟨hb,h.txt.stays (fun y hy=>o.block _ (h.apart y hy)),h.apart,fun k hk=>by rw [o.size];exact h.low k hk,h.nought,by rw [e1];exact h.le,e3,by rw [e1,e2];exact h.ends,by have:=h.len;unfold Lg.fin at *;rw [e1,e2];exact this⟩
theorem Upd.only {S:Nat→Prop} (hb:S b) (o:Only b w w'):Upd S S w w':=⟨o.os,o.tape,o.output,Nat.le_of_eq o.size.symm,fun k _ hn=>o.block k (fun e=>hn (e ▸ hb)),fun k hk=>.inl hk⟩
set_option maxRecDepth 100000 in
theorem RlAt.SetTail (h:RlAt w b p q m c fr ys L) (t:Nat):Calls Tryz.prog 32 #[.pointer (some ⟨b,0,none⟩),.int .u64 (t:Int)] w (RetRl (.int .i64 (tailE L t)) fr ys (tailL L t) b p q w):=by
 unfold tailE tailL
 by_cases ht:t < L.tail∨L.lasts < t
 · rw [if_pos ht,if_pos ht];refine (rSetTail_no b _ _ _ _ _ _ _ _ _ _ _ t w h.blk ht).mono ?_;rintro e w1 ⟨rfl,g1⟩;exact h.same rfl g1
 · rw [if_neg ht,if_neg ht];refine (rSetTail_yes b _ _ _ _ _ _ _ _ _ _ _ t w h.blk (by omega) (by omega)).mono ?_;rintro e w1 ⟨rfl,W,g1,rfl⟩;have h2:=h.gr g1;exact ⟨q,m,c,rfl,h2.set (Only.cell b 3 W _) { L with tail:=t } (h2.blk.set 3 _) rfl rfl (by have:=h.tl;show fr≤t;omega),(Upd.of_gr g1).comp (Upd.cell (.inl rfl) _ _)⟩
set_option maxRecDepth 100000 in
theorem RlAt.Reserve (h:RlAt w b p q m c fr ys L) (ok:L.Ok) (r:Int):Calls Tryz.prog 34 #[.pointer (some ⟨b,0,none⟩),.int .i64 r] w (RetRl (.int .i64 (rsvE L r)) fr ys (rsvL L r) b p q w):=by
 have HF:Hid (∀ W,Gr w W→Calls Tryz.prog 41 #[.pointer (some ⟨b,0,none⟩)] W fun e w'=>e=.returned (.int .i64 L.free)∧∃ k,w'=W.drewN k):=Lib.hid fun W g=>(h.gr g).Free' ok
 unfold rsvE rsvL
 by_cases hr:r < 0
 · rw [if_pos hr,if_pos hr];refine (rReserve_no b r w hr).mono ?_;rintro e w1 ⟨rfl,g1⟩;exact h.same rfl g1
 ·
  rw [if_neg hr,if_neg hr]
  by_cases hf:L.free < r
  · rw [if_pos hf,if_pos hf];refine (rReserve_full b r L.free w (by omega) hf HF).mono ?_;rintro e w1 ⟨rfl,g1⟩;exact h.same rfl g1
  · rw [if_neg hf,if_neg hf];refine (rReserve_yes b _ _ _ _ _ _ _ _ _ _ _ r L.free w h.blk (by omega) (by omega) (by have:=(free_le ok).2.1;omega) ok.r0 (by have:=ok.r1;omega) HF).mono ?_;rintro e w1 ⟨rfl,W,g1,rfl⟩;have h2:=h.gr g1;exact ⟨q,m,c,rfl,h2.set (Only.cell b 7 W _) { L with rsv:=L.rsv+r } (h2.blk.set 7 _) rfl rfl h.tl,(Upd.of_gr g1).comp (Upd.cell (.inl rfl) _ _)⟩
set_option maxRecDepth 100000 in
theorem RlAt.Release (h:RlAt w b p q m c fr ys L) (ok:L.Ok) (r:Int) (hr:r≤9223372036854775807):Calls Tryz.prog 36 #[.pointer (some ⟨b,0,none⟩),.int .i64 r] w (RetRl (.tuple #[]) fr ys (relL L r) b p q w):=by
 refine (rRelease_any b _ _ _ _ _ _ _ _ _ _ _ r w h.blk ok.r0 (by have:=ok.r1;omega) hr).mono ?_;rintro e w1 ⟨rfl,hb,ho⟩;have h0:=ok.r0;refine ⟨q,m,c,rfl,?_,Upd.only (.inl rfl) ho⟩
 unfold relL
 by_cases hr0:r < 0
 ·
  rw [if_pos hr0]
  rw [show max (L.rsv - max r 0) 0=L.rsv by omega] at hb
  exact h.set ho L hb rfl rfl h.tl
 ·
  rw [if_neg hr0]
  rw [show max (L.rsv - max r 0) 0=L.rsv - min r L.rsv by omega] at hb
  exact h.set ho { L with rsv:=L.rsv - min r L.rsv } hb rfl rfl h.tl
end
end Go.Proofs.YtlijbgapkmfnaaaGreat
namespace Go.Proofs.YtlijbgapkmfnaaaGreat
open Go.RowKit Cr
theorem mayQ_no {k:Int} {t x:Nat} {g o:Int} {nb na:Nat} (h:¬ (t≠0∧((k=1∧x=0∧nb=na∧0≤g∧g < 4096∧1≤na∧0≤o∧o+na≤248)∨(k=2∧nb=0∧0≤g∧g < 4096∧1≤na∧0≤o∧o+na≤248)∨((k=3∨k=4)∧x=0∧g=0∧o=0∧nb=0∧na=0)))):mayQ k t x g o nb na=false:=by
 cases hm:mayQ k t x g o nb na
 · rfl
 · exact absurd (mayQ_iff.1 hm) h
set_option maxRecDepth 100000 in
set_option maxHeartbeats 4000000 in
theorem refMay_any (c:Rc) (pb:Option Addr) (nb cb:Nat) (pa:Option Addr) (na ca:Nat) (w:World) (hb:Byt w pb nb cb c.b) (ha:Byt w pa na ca c.a) :
  Calls Tryz.prog 46 #[.agg #[.int .i64 c.k,.int .u64 c.t,.int .u64 c.p,.int .u64 c.x,.int .i64 c.g,.int .i64 c.o,.slice pb nb cb,.slice pa na ca]] w (RetB (mayR c) w):=by
 obtain ⟨k,t,p,x,g,o,b,a⟩:=c
 simp only at hb ha
 simp only
 have lb:=hb.len;have la:=ha.len
 have na63:(na:Int)≤9223372036854775807:=by have h1:=ha.most;have h2:=ha.cap;unfold maxLen at h1;omega
 have nb63:(nb:Int)≤9223372036854775807:=by have h1:=hb.most;have h2:=hb.cap;unfold maxLen at h1;omega
 have HM:Hid (mayR ⟨k,t,p,x,g,o,b,a⟩=mayQ k t x g o nb na):=Lib.hid (by unfold mayR;rw [← lb,← la]);rw [HM.out];have HG:=Lib.hid ((Gr.refl w).alloc (Nat.le_refl _) (.cells #[.int .i64 k,.int .u64 t,.int .u64 p,.int .u64 x,.int .i64 g,.int .i64 o,.slice pb nb cb,.slice pa na ca] TR));have HS:=Lib.hid (fun j=>refSameRec_any ⟨k,t,p,x,g,o,b,a⟩ ⟨j,t,p,0,0,0,[],[]⟩ pb nb cb pa na ca none 0 0 none 0 0 _ (hb.kept HG.out) (ha.kept HG.out) (Byt.nil _) (Byt.nil _));have HE:=Lib.hid (show (b=[] ↔ nb=0)∧(a=[] ↔ na=0) from ⟨by rw [len_nil',lb],by rw [len_nil',la]⟩)
 simp only at HS
 clear lb la hb ha HM
 by_cases hk1:k=1
 ·
  subst hk1
  by_cases ht:t=0
  ·
   subst ht;have HR:Hid (mayQ 1 0 x g o nb na=false):=Lib.hid (mayQ_no (by omega))
   go_enter Tryz.func46,Tryz.ntmps46
   go_wp2_with fail
   go_ret
   exact ⟨ret_b HR.out.symm,HG.out⟩
  ·
   have ht2:¬ (t:Int)=0:=by omega
   by_cases h1:g < 0
   ·
    skip
    have HR:Hid (mayQ 1 t x g o nb na=false):=Lib.hid (mayQ_no (by omega))
    go_enter Tryz.func46,Tryz.ntmps46
    go_wp2_with fail
    go_ret
    exact ⟨ret_b HR.out.symm,HG.out⟩
   ·
    skip
    by_cases h2:4096≤g
    ·
     skip
     have HR:Hid (mayQ 1 t x g o nb na=false):=Lib.hid (mayQ_no (by omega))
     go_enter Tryz.func46,Tryz.ntmps46
     go_wp2_with fail
     go_ret
     exact ⟨ret_b HR.out.symm,HG.out⟩
    ·
     skip
     by_cases h3:o < 0
     ·
      skip
      have HR:Hid (mayQ 1 t x g o nb na=false):=Lib.hid (mayQ_no (by omega))
      go_enter Tryz.func46,Tryz.ntmps46
      go_wp2_with fail
      go_ret
      exact ⟨ret_b HR.out.symm,HG.out⟩
     ·
      skip
      by_cases h4:248≤o
      ·
       skip
       have HR:Hid (mayQ 1 t x g o nb na=false):=Lib.hid (mayQ_no (by omega))
       go_enter Tryz.func46,Tryz.ntmps46
       go_wp2_with fail
       go_ret
       exact ⟨ret_b HR.out.symm,HG.out⟩
      ·
       skip
       by_cases h5:na < 1
       ·
        skip
        have HR:Hid (mayQ 1 t x g o nb na=false):=Lib.hid (mayQ_no (by omega))
        have h5b:(na:Int) < 1:=by omega
        go_enter Tryz.func46,Tryz.ntmps46
        go_wp2_with fail
        go_ret
        exact ⟨ret_b HR.out.symm,HG.out⟩
       ·
        have h5b:¬ (na:Int) < 1:=by omega
        by_cases h6:248 - o < (na:Int)
        ·
         skip
         have HR:Hid (mayQ 1 t x g o nb na=false):=Lib.hid (mayQ_no (by omega))
         go_enter Tryz.func46,Tryz.ntmps46
         go_wp2_with fail
         go_ret
         exact ⟨ret_b HR.out.symm,HG.out⟩
        ·
         skip
         by_cases hx:x=0
         ·
          subst hx
          by_cases hl:nb=na
          ·
           subst hl;have HR:Hid (mayQ 1 t 0 g o nb nb=true):=Lib.hid (mayQ_iff.2 (by omega))
           go_enter Tryz.func46,Tryz.ntmps46
           go_wp2_with fail
           go_ret
           exact ⟨ret_b HR.out.symm,HG.out⟩
          ·
           have hl2:¬ (nb:Int)=na:=by omega
           have HR:Hid (mayQ 1 t 0 g o nb na=false):=Lib.hid (mayQ_no (by omega))
           go_enter Tryz.func46,Tryz.ntmps46
           go_wp2_with fail
           go_ret
           exact ⟨ret_b (by rw [HR.out];exact beq_eq_false_iff_ne.2 hl2),HG.out⟩
         ·
          have hx2:¬ (x:Int)=0:=by omega
          have HR:Hid (mayQ 1 t x g o nb na=false):=Lib.hid (mayQ_no (by omega))
          go_enter Tryz.func46,Tryz.ntmps46
          go_wp2_with fail
          go_ret
          exact ⟨ret_b HR.out.symm,HG.out⟩
 ·
  skip
  by_cases hk2:k=2
  ·
   subst hk2
   by_cases ht:t=0
   ·
    subst ht;have HR:Hid (mayQ 2 0 x g o nb na=false):=Lib.hid (mayQ_no (by omega))
    go_enter Tryz.func46,Tryz.ntmps46
    go_wp2_with fail
    go_ret
    exact ⟨ret_b HR.out.symm,HG.out⟩
   ·
    have ht2:¬ (t:Int)=0:=by omega
    by_cases h1:g < 0
    ·
     skip
     have HR:Hid (mayQ 2 t x g o nb na=false):=Lib.hid (mayQ_no (by omega))
     go_enter Tryz.func46,Tryz.ntmps46
     go_wp2_with fail
     go_ret
     exact ⟨ret_b HR.out.symm,HG.out⟩
    ·
     skip
     by_cases h2:4096≤g
     ·
      skip
      have HR:Hid (mayQ 2 t x g o nb na=false):=Lib.hid (mayQ_no (by omega))
      go_enter Tryz.func46,Tryz.ntmps46
      go_wp2_with fail
      go_ret
      exact ⟨ret_b HR.out.symm,HG.out⟩
     ·
      skip
      by_cases h3:o < 0
      ·
       skip
       have HR:Hid (mayQ 2 t x g o nb na=false):=Lib.hid (mayQ_no (by omega))
       go_enter Tryz.func46,Tryz.ntmps46
       go_wp2_with fail
       go_ret
       exact ⟨ret_b HR.out.symm,HG.out⟩
      ·
       skip
       by_cases h4:248≤o
       ·
        skip
        have HR:Hid (mayQ 2 t x g o nb na=false):=Lib.hid (mayQ_no (by omega))
        go_enter Tryz.func46,Tryz.ntmps46
        go_wp2_with fail
        go_ret
        exact ⟨ret_b HR.out.symm,HG.out⟩
       ·
        skip
        by_cases h5:na < 1
        ·
         skip
         have HR:Hid (mayQ 2 t x g o nb na=false):=Lib.hid (mayQ_no (by omega))
         have h5b:(na:Int) < 1:=by omega
         go_enter Tryz.func46,Tryz.ntmps46
         go_wp2_with fail
         go_ret
         exact ⟨ret_b HR.out.symm,HG.out⟩
        ·
         have h5b:¬ (na:Int) < 1:=by omega
         by_cases h6:248 - o < (na:Int)
         ·
          skip
          have HR:Hid (mayQ 2 t x g o nb na=false):=Lib.hid (mayQ_no (by omega))
          go_enter Tryz.func46,Tryz.ntmps46
          go_wp2_with fail
          go_ret
          exact ⟨ret_b HR.out.symm,HG.out⟩
         ·
          skip
          by_cases hl:nb=0
          ·
           subst hl;have HR:Hid (mayQ 2 t x g o 0 na=true):=Lib.hid (mayQ_iff.2 (by omega))
           go_enter Tryz.func46,Tryz.ntmps46
           go_wp2_with fail
           go_ret
           exact ⟨ret_b HR.out.symm,HG.out⟩
          ·
           have hl2:¬ (nb:Int)=0:=by omega
           have HR:Hid (mayQ 2 t x g o nb na=false):=Lib.hid (mayQ_no (by omega))
           go_enter Tryz.func46,Tryz.ntmps46
           go_wp2_with fail
           go_ret
           exact ⟨ret_b (by rw [HR.out];exact beq_eq_false_iff_ne.2 hl2),HG.out⟩
  ·
   skip
   by_cases hk3:k=3
   ·
    subst hk3
    by_cases ht:t=0
    ·
     subst ht;have HR:Hid (mayQ 3 0 x g o nb na=false):=Lib.hid (mayQ_no (by omega))
     go_enter Tryz.func46,Tryz.ntmps46
     go_wp2_with fail
     go_ret
     exact ⟨ret_b HR.out.symm,HG.out⟩
    ·
     have ht2:¬ (t:Int)=0:=by omega
     have HR:Hid (sameR ⟨3,t,p,x,g,o,b,a⟩ ⟨3,t,p,0,0,0,[],[]⟩=mayQ 3 t x g o nb na):=Lib.hid (by rw [Bool.eq_iff_iff,mayQ_iff];simp [sameR,HE.out.1,HE.out.2,ht])
     go_enter Tryz.func46,Tryz.ntmps46
     go_wp2_with fail;refine (HS.out 3).mono ?_;rintro e w1 ⟨rfl,g1⟩;have HG1:=Lib.hid (Gr.trans HG.out g1);clear g1;go_wp2_with fail
     go_ret
     exact ⟨ret_b HR.out,HG1.out⟩
   ·
    skip
    by_cases hk4:k=4
    ·
     subst hk4
     by_cases ht:t=0
     ·
      subst ht;have HR:Hid (mayQ 4 0 x g o nb na=false):=Lib.hid (mayQ_no (by omega))
      go_enter Tryz.func46,Tryz.ntmps46
      go_wp2_with fail
      go_ret
      exact ⟨ret_b HR.out.symm,HG.out⟩
     ·
      have ht2:¬ (t:Int)=0:=by omega
      have HR:Hid (sameR ⟨4,t,p,x,g,o,b,a⟩ ⟨4,t,p,0,0,0,[],[]⟩=mayQ 4 t x g o nb na):=Lib.hid (by rw [Bool.eq_iff_iff,mayQ_iff];simp [sameR,HE.out.1,HE.out.2,ht])
      go_enter Tryz.func46,Tryz.ntmps46
      go_wp2_with fail;refine (HS.out 4).mono ?_;rintro e w1 ⟨rfl,g1⟩;have HG1:=Lib.hid (Gr.trans HG.out g1);clear g1;go_wp2_with fail
      go_ret
      exact ⟨ret_b HR.out,HG1.out⟩
    ·
     skip
     have HR:Hid (mayQ k t x g o nb na=false):=Lib.hid (mayQ_no (by omega))
     go_enter Tryz.func46,Tryz.ntmps46
     go_wp2_with fail
     go_ret
     exact ⟨ret_b HR.out.symm,HG.out⟩
theorem refSize_any (c:Rc) (pb:Option Addr) (nb cb:Nat) (pa:Option Addr) (na ca:Nat) (w:World) (hb:Byt w pb nb cb c.b) (ha:Byt w pa na ca c.a) :
  Calls Tryz.prog 20 #[.agg #[.int .i64 c.k,.int .u64 c.t,.int .u64 c.p,.int .u64 c.x,.int .i64 c.g,.int .i64 c.o,.slice pb nb cb,.slice pa na ca]] w (RetI (sizeR c) w):=by
 have HM:=Lib.hid (refMay_any c pb nb cb pa na ca (w.alloc (.cells #[.int .i64 c.k,.int .u64 c.t,.int .u64 c.p,.int .u64 c.x,.int .i64 c.g,.int .i64 c.o,.slice pb nb cb,.slice pa na ca] TR)) (hb.kept ((Gr.refl w).alloc (Nat.le_refl _) _)) (ha.kept ((Gr.refl w).alloc (Nat.le_refl _) _)));have HB:=Lib.hid (Blk.new w TR #[.int .i64 c.k,.int .u64 c.t,.int .u64 c.p,.int .u64 c.x,.int .i64 c.g,.int .i64 c.o,.slice pb nb cb,.slice pa na ca]);have lb:=hb.len;have la:=ha.len
 cases hm:mayR c
 ·
  rw [hm] at HM
  have HR:Hid (sizeR c=0):=Lib.hid (by simp [sizeR,hm]);obtain ⟨k,t,p,x,g,o,b,a⟩:=c
  simp only at HM HB
  obtain ⟨c0,c1,c2,c3,c4,c5,c6,c7⟩:=HB.out.c8;clear hm hb ha lb la
  go_enter Tryz.func20,Tryz.ntmps20
  go_wp2_with fail;refine HM.out.mono ?_;rintro e w1 ⟨rfl,g1⟩;have HG:=Lib.hid (grow1 g1);clear g1 HM c0 c1 c2 c3 c4 c5 c6 c7;go_wp2_with fail
  go_ret
  exact ⟨ret_i (by first | (rw [HR.out];done) | (rw [HR.out];rfl)),HG.out⟩
 ·
  rw [hm] at HM
  have hf:=mayR_fits hm;have h1:=hf.na;have h2:=hf.nb1;have HR:Hid ((sizeR c:Int)=35+nb+na):=Lib.hid (by simp [sizeR,hm];omega)
  have n1:nb≤248:=by omega
  have n2:na≤248:=by omega
  obtain ⟨k,t,p,x,g,o,b,a⟩:=c
  simp only at HM HB
  obtain ⟨c0,c1,c2,c3,c4,c5,c6,c7⟩:=HB.out.c8;clear hm hb ha lb la hf h1 h2
  go_enter Tryz.func20,Tryz.ntmps20
  go_wp2_with fail;refine HM.out.mono ?_;rintro e w1 ⟨rfl,g1⟩;have HB1:=HB.out.below g1 HB.out.lt;have HG:=Lib.hid (grow1 g1);clear g1 HM c0 c1 c2 c3 c4 c5 c6 c7;obtain ⟨c0,c1,c2,c3,c4,c5,c6,c7⟩:=HB1.c8;clear HB1;go_wp2_with fail
  go_ret
  exact ⟨ret_i (by first | (rw [HR.out];done) | (rw [HR.out];rfl)),HG.out⟩
def muchR (nb na:Nat):Bool:=decide (600 < nb) || decide (600 < na)
theorem refMuch_any (k:Int) (t:Nat) (p:Nat) (x:Nat) (g:Int) (o:Int) (pb:Option Addr) (nb:Nat) (cb:Nat) (pa:Option Addr) (na:Nat) (ca:Nat) (w:World):Calls Tryz.prog 17 #[.agg #[.int .i64 k,.int .u64 t,.int .u64 p,.int .u64 x,.int .i64 g,.int .i64 o,.slice pb nb cb,.slice pa na ca]] w (RetB (muchR nb na) w):=by
 have HG:=Lib.hid ((Gr.refl w).alloc (Nat.le_refl _) (.cells #[.int .i64 k,.int .u64 t,.int .u64 p,.int .u64 x,.int .i64 g,.int .i64 o,.slice pb nb cb,.slice pa na ca] TR))
 by_cases h1:600 < nb
 ·
  have h1':(600:Int) < nb:=by omega
  have HR:Hid (muchR nb na=true):=Lib.hid (by simp [muchR,h1])
  go_enter Tryz.func17,Tryz.ntmps17
  go_wp2_with fail
  go_ret
  exact ⟨ret_b HR.out.symm,HG.out⟩
 ·
  have h1':¬ (600:Int) < nb:=by omega
  by_cases h2:600 < na
  ·
   have h2':(600:Int) < na:=by omega
   have HR:Hid (muchR nb na=true):=Lib.hid (by simp [muchR,h2])
   go_enter Tryz.func17,Tryz.ntmps17
   go_wp2_with fail
   go_ret
   exact ⟨ret_b HR.out.symm,HG.out⟩
  ·
   have h2':¬ (600:Int) < na:=by omega
   have HR:Hid (muchR nb na=false):=Lib.hid (by simp [muchR,h1,h2])
   go_enter Tryz.func17,Tryz.ntmps17
   go_wp2_with fail
   go_ret
   exact ⟨ret_b HR.out.symm,HG.out⟩
end Go.Proofs.YtlijbgapkmfnaaaGreat
namespace Go.Proofs.YtlijbgapkmfnaaaGreat
open Go.RowKit Go.Maps
set_option maxRecDepth 100000 in
theorem rLay_no {b:Nat} {p:Value} {q:Option Addr} {m c fr:Nat} {ys:List Int} {L:Lg} (w:World) (h:RlAt w b p q m c fr ys L) (ok:L.Ok) (r:Rc) (pb:Option Addr) (nb cb:Nat) (pa:Option Addr) (na ca:Nat) (hb:Byt w pb nb cb r.b) (ha:Byt w pa na ca r.a) (use:Bool) (hfit:mayR r=false) :
  Calls Tryz.prog 23 #[.pointer (some ⟨b,0,none⟩),.agg (rcv r pb nb cb pa na ca),.bool use] w (RetLayE 2 w):=by
 obtain ⟨W1,hW1⟩:∃ W1,W1=w.alloc (.cells (rcv r pb nb cb pa na ca) TR):=⟨_,rfl⟩;have HB1:Hid (Blk W1 w.heap.size TR (rcv r pb nb cb pa na ca)∧Gr w W1):=Lib.hid (by rw [hW1];exact ⟨Blk.new _ _ _,Gr.new _ _⟩);have HM:=Lib.hid (fun W (g:Gr w W)=>refMay_any r pb nb cb pa na ca W (hb.kept g) (ha.kept g));have HW1:Hid (w.alloc (.cells (rcv r pb nb cb pa na ca) 33)=W1):=Lib.hid hW1.symm
 rw [hfit] at HM
 clear h ok hb ha hW1 hfit
 unfold rcv at HW1 HB1 ⊢
 obtain ⟨c0,c1,c2,c3,c4,c5,c6,c7⟩:=HB1.out.1.c8
 go_enter Tryz.func23,Tryz.ntmps23
 go_wp2_with fail;rw [HW1.out];go_wp2_with fail;refine (HM.out W1 HB1.out.2).mono ?_;rintro e W2 ⟨rfl,g2⟩;have HG2:=Lib.hid (Gr.trans HB1.out.2 g2);clear g2 HM c0 c1 c2 c3 c4 c5 c6 c7;go_wp2_with fail;refine bodyPost_ret_by (P:=Tryz.prog) (v:=.tuple #[.int .u64 0,.int .i64 2]) (by simp [results,Tryz.results23]) rfl ?_;exact ⟨rfl,HG2.out⟩
set_option maxRecDepth 100000 in
set_option maxHeartbeats 1000000 in
theorem rLay_full {b:Nat} {p:Value} {q:Option Addr} {m c fr:Nat} {ys:List Int} {L:Lg} (w:World) (h:RlAt w b p q m c fr ys L) (ok:L.Ok) (r:Rc) (pb:Option Addr) (nb cb:Nat) (pa:Option Addr) (na ca:Nat) (hb:Byt w pb nb cb r.b) (ha:Byt w pa na ca r.a) (use:Bool) (hfit:mayR r=true) (hroom:(if use then L.rsv else L.free) < sizeR r) :
  Calls Tryz.prog 23 #[.pointer (some ⟨b,0,none⟩),.agg (rcv r pb nb cb pa na ca),.bool use] w (RetLayE 5 w):=by
 obtain ⟨W1,hW1⟩:∃ W1,W1=w.alloc (.cells (rcv r pb nb cb pa na ca) TR):=⟨_,rfl⟩;have HB1:Hid (Blk W1 w.heap.size TR (rcv r pb nb cb pa na ca)∧Gr w W1):=Lib.hid (by rw [hW1];exact ⟨Blk.new _ _ _,Gr.new _ _⟩);have HM:=Lib.hid (fun W (g:Gr w W)=>refMay_any r pb nb cb pa na ca W (hb.kept g) (ha.kept g));have HS:=Lib.hid (fun W (g:Gr w W)=>refSize_any r pb nb cb pa na ca W (hb.kept g) (ha.kept g));have HFr:=Lib.hid (fun W (g:Gr w W)=>(h.gr g).Free' ok);have HBk:=Lib.hid (fun W (g:Gr w W)=>(h.blk.gr g).cell 7);have HW1:Hid (w.alloc (.cells (rcv r pb nb cb pa na ca) 33)=W1):=Lib.hid hW1.symm
 rw [hfit] at HM
 obtain ⟨z,hz⟩:∃ z,z=sizeR r:=⟨_,rfl⟩;obtain ⟨F,hF⟩:∃ F,F=L.free:=⟨_,rfl⟩;obtain ⟨R,hR⟩:∃ R,R=L.rsv:=⟨_,rfl⟩
 rw [← hz] at HS hroom
 rw [← hF] at HFr hroom
 rw [← hR] at HBk hroom
 clear h ok hb ha hW1 hfit hz hF hR
 unfold rcv at HW1 HB1 ⊢
 obtain ⟨c0,c1,c2,c3,c4,c5,c6,c7⟩:=HB1.out.1.c8
 go_enter Tryz.func23,Tryz.ntmps23
 go_wp2_with fail;rw [HW1.out];go_wp2_with fail;refine (HM.out W1 HB1.out.2).mono ?_;rintro e W2 ⟨rfl,g2⟩;have HG2:=Lib.hid (Gr.trans HB1.out.2 g2);have HC2:=Lib.hid (HB1.out.1.gr g2);clear g2 HM c0 c1 c2 c3 c4 c5 c6 c7;obtain ⟨c0,c1,c2,c3,c4,c5,c6,c7⟩:=HC2.out.c8;go_wp2_with fail;refine (HS.out W2 HG2.out).mono ?_;rintro e W3 ⟨rfl,g3⟩;have HG3:=Lib.hid (Gr.trans HG2.out g3);have k7:=HBk.out W3 HG3.out
 simp at k7
 clear g3 HS c0 c1 c2 c3 c4 c5 c6 c7
 cases use
 ·
  have hr:F < z:=by simpa using hroom
  clear hroom;go_wp2_with fail;refine (HFr.out W3 HG3.out).mono ?_;rintro e W4 ⟨rfl,k,rfl⟩;go_wp2_with fail;refine bodyPost_ret_by (P:=Tryz.prog) (v:=.tuple #[.int .u64 0,.int .i64 5]) (by simp [results,Tryz.results23]) rfl ?_;exact ⟨rfl,gr_drewN HG3.out _⟩
 ·
  have hr:R < z:=by simpa using hroom
  clear hroom;go_wp2_with fail;refine bodyPost_ret_by (P:=Tryz.prog) (v:=.tuple #[.int .u64 0,.int .i64 5]) (by simp [results,Tryz.results23]) rfl ?_;exact ⟨rfl,HG3.out⟩
end Go.Proofs.YtlijbgapkmfnaaaGreat
namespace Go.Proofs.YtlijbgapkmfnaaaGreat
open Go.RowKit Go.Maps
theorem RlAt.more {w w':World} {b:Nat} {p:Value} {q q':Option Addr} {m c fr k c':Nat} {ys zs:List Int} {L:Lg} (h:RlAt w b p q m c fr ys L) (hb:Blk w' b TLr #[p,.int .i64 L.l,.int .u64 L.epoch,.int .u64 L.tail,.int .u64 fr,.slice q' (m+k) c',.int .u64 L.lasts,.int .i64 L.rsv,.bool L.begun]) (ht:Txt w' q' (m+k) c' (ys++zs)) (ha:∀ y,q'=some y→y.block≠b) (hl:∀ k,lgS b q' k→k < w'.heap.size):RlAt w' b p q' (m+k) c' fr (ys++zs) (L.more zs):=by
 have hlen:=h.len;have hle:=h.le
 unfold Lg.fin at hlen
 refine ⟨hb,ht,ha,hl,h.nought,h.le,h.tl,?_,?_⟩
 ·
  show (ys++zs).drop (L.lasts - L.lasts % 232 - fr)=L.txt++zs
  rw [List.drop_append_of_le_length (by omega),h.ends]
 ·
  show fr+(ys++zs).length=L.lasts - L.lasts % 232+(L.txt++zs).length
  rw [List.length_append,List.length_append]
  omega
end Go.Proofs.YtlijbgapkmfnaaaGreat
namespace Go.Proofs.YtlijbgapkmfnaaaGreat
open Go.RowKit Go.Maps Cr
theorem sub_at {xs A B C:List Int} {f k:Nat} (h:xs=A++(B++C)) (hA:A.length=f) (hB:B.length=k):sub xs (f:Int) (k:Int)=B:=by
 subst h
 unfold sub
 rw [Int.toNat_natCast,Int.toNat_natCast,List.drop_left' hA,List.take_left' hB]
theorem atR_at {xs A B C:List Int} {f k:Nat} (h:xs=A++(B++C)) (hA:A.length=f) (hB:B.length=k) (h8:1≤k∧k≤8) (hx:xs.length=256):atR xs (f:Int) (k:Int)=Wd.dec B:=by
 have hl:f+k≤256:=by
  have:=congrArg List.length h
  rw [List.length_append,List.length_append] at this
  omega
 unfold atR
 have hs:standsB xs.length (f:Int) (k:Int)=true:=by
  unfold standsB mayB
  simp
  omega
 rw [hs,if_pos rfl,sub_at h hA hB]
theorem secL_says {k ep:Nat} {b:List Int} (hk:k < 18446744073709551616) (he:ep < 18446744073709551616) (hb:b.length≤232) :
  okX (secL k ep b)=true∧numX (secL k ep b)=k∧epX (secL k ep b)=ep∧manyX (secL k ep b)=b.length∧bytX (secL k ep b)=b:=by
 have hl:=secL_len (k:=k) (ep:=ep) hb
 have e8:(256:Nat) ^ 8=18446744073709551616:=by decide
 have e4:(256:Nat) ^ 4=4294967296:=by decide
 have h1:numX (secL k ep b)=k:=by
  have h:=atR_at (xs:=secL k ep b) (A:=[]) (B:=Wd.enc 8 k) (C:=Wd.enc 8 ep++(Wd.enc 4 b.length++(Wd.enc 4 (sumW (headL k ep b.length++padTo 232 b)).toNat++padTo 232 b))) (f:=0) (k:=8) (by simp [secL,headL,List.append_assoc]) rfl (Wd.enc_length _ _) (by omega) hl
  unfold numX
  rw [show ((0:Nat):Int)=0 from rfl,show ((8:Nat):Int)=8 from rfl] at h
  rw [h,Wd.dec_enc,e8,Nat.mod_eq_of_lt hk]
 have h2:epX (secL k ep b)=ep:=by
  have h:=atR_at (xs:=secL k ep b) (A:=Wd.enc 8 k) (B:=Wd.enc 8 ep) (C:=Wd.enc 4 b.length++(Wd.enc 4 (sumW (headL k ep b.length++padTo 232 b)).toNat++padTo 232 b)) (f:=8) (k:=8) (by simp [secL,headL,List.append_assoc]) (Wd.enc_length _ _) (Wd.enc_length _ _) (by omega) hl
  unfold epX
  rw [show ((8:Nat):Int)=8 from rfl] at h
  rw [h,Wd.dec_enc,e8,Nat.mod_eq_of_lt he]
 have h3:manyX (secL k ep b)=b.length:=by
  have h:=atR_at (xs:=secL k ep b) (A:=Wd.enc 8 k++Wd.enc 8 ep) (B:=Wd.enc 4 b.length) (C:=Wd.enc 4 (sumW (headL k ep b.length++padTo 232 b)).toNat++padTo 232 b) (f:=16) (k:=4) (by simp [secL,headL,List.append_assoc]) (by simp [Wd.enc_length]) (Wd.enc_length _ _) (by omega) hl
  unfold manyX
  rw [show ((16:Nat):Int)=16 from rfl,show ((4:Nat):Int)=4 from rfl] at h
  rw [h,Wd.dec_enc,e4,Nat.mod_eq_of_lt (by omega)]
 have h4:sumX (secL k ep b)=(sumW (headL k ep b.length++padTo 232 b)).toNat:=by
  have h:=atR_at (xs:=secL k ep b) (A:=headL k ep b.length) (B:=Wd.enc 4 (sumW (headL k ep b.length++padTo 232 b)).toNat) (C:=padTo 232 b) (f:=20) (k:=4) (by simp [secL,List.append_assoc]) (headL_len _ _ _) (Wd.enc_length _ _) (by omega) hl
  unfold sumX
  rw [show ((20:Nat):Int)=20 from rfl,show ((4:Nat):Int)=4 from rfl] at h
  have hlt:(sumW (headL k ep b.length++padTo 232 b)).toNat < 4294967296:=(sumW (headL k ep b.length++padTo 232 b)).isLt;rw [h,Wd.dec_enc,e4,Nat.mod_eq_of_lt hlt]
 have h5:(secL k ep b).take 20=headL k ep b.length:=by
  unfold secL
  rw [List.append_assoc,List.take_left' (headL_len _ _ _)]
 have h6:(secL k ep b).drop 24=padTo 232 b:=by
  unfold secL
  rw [List.drop_left' (by rw [List.length_append,headL_len,Wd.enc_length])]
 refine ⟨?_,h1,h2,h3,?_⟩
 ·
  unfold okX trueX
  rw [h3,h4,h5,h6]
  simp
  omega
 ·
  unfold bytX
  rw [h3,h6]
  unfold padTo
  exact List.take_left' rfl
def InC2 (z1 z2:Nat) (w0:World) (Mid Fin:World→Prop) (l:Nat→Bool) (W:World):Prop:=(l z1=false→l z2=false→Gr w0 W)∧(l z1=true→l z2=false→Mid W)∧(l z1=true→l z2=true→Fin W)
section
variable {z1 z2:Nat} {w0 W W':World} {Mid Fin:World→Prop} {l:Nat→Bool}
theorem InC2.start (h1:l z1=false) (g:Gr w0 W):InC2 z1 z2 w0 Mid Fin l W:=⟨fun _ _=>g,(fun e=>by rw [h1] at e;cases e),fun e=>by rw [h1] at e;cases e⟩
theorem InC2.pre (h:InC2 z1 z2 w0 Mid Fin l W) (h1:l z1=false) (h2:l z2=false):Gr w0 W:=h.1 h1 h2
theorem InC2.mid (h:InC2 z1 z2 w0 Mid Fin l W) (h1:l z1=true) (h2:l z2=false):Mid W:=h.2.1 h1 h2
theorem InC2.post (h:InC2 z1 z2 w0 Mid Fin l W) (h1:l z1=true) (h2:l z2=true):Fin W:=h.2.2 h1 h2
theorem InC2.other (h:InC2 z1 z2 w0 Mid Fin l W) (i:Nat) (h1:z1≠i) (h2:z2≠i):InC2 z1 z2 w0 Mid Fin (Flow.upd l i) W:=by
 unfold InC2;rw [Flow.upd_other l h1,Flow.upd_other l h2];exact h
theorem InC2.one (h2:l z2=false) (hm:Mid W') (hne:z2≠z1):InC2 z1 z2 w0 Mid Fin (Flow.upd l z1) W':=by
 unfold InC2;rw [Flow.upd_same,Flow.upd_other l hne]
 exact ⟨(fun e=>by cases e),fun _ _=>hm,fun _ e=>by rw [h2] at e;cases e⟩
theorem InC2.two (h1:l z1=true) (hm:Fin W') (hne:z1≠z2):InC2 z1 z2 w0 Mid Fin (Flow.upd l z2) W':=by
 unfold InC2;rw [Flow.upd_same,Flow.upd_other l hne]
 exact ⟨(fun e=>by rw [h1] at e;cases e),(fun _ e=>by cases e),fun _ _=>hm⟩
theorem InC2.grow0 (h:InC2 z1 z2 w0 Mid Fin l W) (h1:l z1=false) (h2:l z2=false) (g:Gr W W') (i:Nat) (n1:z1≠i) (n2:z2≠i):InC2 z1 z2 w0 Mid Fin (Flow.upd l i) W':=by
 unfold InC2;rw [Flow.upd_other l n1,Flow.upd_other l n2]
 exact ⟨fun _ _=>Gr.trans (h.1 h1 h2) g,(fun e=>by rw [h1] at e;cases e),fun e=>by rw [h1] at e;cases e⟩
end
end Go.Proofs.YtlijbgapkmfnaaaGreat
namespace Go.Proofs.YtlijbgapkmfnaaaGreat
namespace Flow
open Go
section
variable {P:Program} {ops:Array Oper} {Q:Exit→Act→World→Prop} {md:Region.Mode}
def readsG (md:Region.Mode) (ops:Array Oper) (o:Oper):List Nat:=(o.after.toList.filter fun e=>Region.binds md e && (match e.ground with
 | .data=>true
 | .guard=>true
 | _=>false)).filterMap fun e=>(ops[e.on]?).bind (·.dst)
def bearsG (md:Region.Mode) (ops:Array Oper) (keep:List Nat) (fuel:Nat) (i d:Nat):Bool:=
 ((List.range ops.size).any fun j=>match ops[j]? with
  | some o=>o.dst == some d && !waits md ops i fuel j
  | none=>false) &&
 (keep.contains d || (List.range ops.size).any fun j=>j != i && !waits md ops j fuel i && match ops[j]? with
  | some o=>(readsG md ops o).contains d
  | none=>false)
variable {Sl:Nat→Value→World→Prop} {Inv Fin Ear:World→Prop} {G:Nat→World→World→Prop} {a0:Act}
end
end Flow
end Go.Proofs.YtlijbgapkmfnaaaGreat
namespace Go.Proofs.YtlijbgapkmfnaaaGreat
namespace Flow
open Go
section
variable {P:Program} {ops:Array Oper} {Q:Exit→Act→World→Prop} {md:Region.Mode}
def StepSG (P:Program) (md:Region.Mode) (ops:Array Oper) (Q:Exit→Act→World→Prop) (Sl:Nat→Value→World→Prop) (Inv:(Nat→Bool)→World→Prop) (G:World→World→Prop) (a0:Act) (fl i:Nat) (o:Oper):Prop:=
 ∀ (ℓ:Nat→Bool) a w,Same ops a0 a→ℓ i=false→(∀ j,j≠i→waits md ops i fl j=true→ℓ j=false)→(∀ j,j≠i→waits md ops j fl i=true→ℓ j=true)→Inv ℓ w→(∀ d,(readsG md ops o).contains d=true→Sl d (a.tmps.getD d undef) w) →
  ∀ K:Act→World→Prop,(∀ v w',G w w'→Inv (upd ℓ i) w'→(∀ d,o.dst=some d→Sl d v w')→K (a.put o.dst v) w') →
   if Region.wanted o (yielded ops a.tmps)=true then o.wp P a w K Q else K (a.put o.dst undef) w
def StepsSG (P:Program) (md:Region.Mode) (ops:Array Oper) (Q:Exit→Act→World→Prop) (Sl:Nat→Value→World→Prop) (Inv:(Nat→Bool)→World→Prop) (G:Nat→World→World→Prop) (a0:Act) (fl:Nat):Nat→List Oper→Prop
 | _,[]=>True
 | i,o :: r=>StepSG P md ops Q Sl Inv (G i) a0 fl i o∧StepsSG P md ops Q Sl Inv G a0 fl (i+1) r
theorem StepsSG.cons {Sl:Nat→Value→World→Prop} {Inv:(Nat→Bool)→World→Prop} {G:Nat→World→World→Prop} {a0:Act} {fl i:Nat} {o:Oper} {r:List Oper} (h:StepSG P md ops Q Sl Inv (G i) a0 fl i o) (k:StepsSG P md ops Q Sl Inv G a0 fl (i+1) r):StepsSG P md ops Q Sl Inv G a0 fl i (o :: r):=⟨h,k⟩
theorem StepsSG.at {Sl:Nat→Value→World→Prop} {Inv:(Nat→Bool)→World→Prop} {G:Nat→World→World→Prop} {a0:Act} {fl:Nat}:∀ {l:List Oper} {i:Nat},StepsSG P md ops Q Sl Inv G a0 fl i l→∀ (j:Nat) (o:Oper),l[j]?=some o→StepSG P md ops Q Sl Inv (G (i+j)) a0 fl (i+j) o
 | [],_,_,_,_,h=>by simp at h
 | x :: r,i,h,0,o,ho=>by
  simp only [List.getElem?_cons_zero,Option.some.injEq] at ho
  subst ho;exact h.1
 | x :: r,i,h,j+1,o,ho=>by
  simp only [List.getElem?_cons_succ] at ho
  have:=StepsSG.at h.2 j o ho
  rwa [show i+1+j=i+(j+1) by omega] at this
variable {Sl:Nat→Value→World→Prop} {Inv:(Nat→Bool)→World→Prop} {G:Nat→World→World→Prop} {a0:Act}
theorem walkSG (keep:List Nat) (fl:Nat) (hmono:∀ i d v w w',bearsG md ops keep fl i d=true→Sl d v w→G i w w'→Sl d v w') (hf:fineB md a0.tmps.size ops=true) (hs:∀ (i:Nat) (o:Oper),ops[i]?=some o→StepSG P md ops Q Sl Inv (G i) a0 fl i o)
  (hfin:∀ a w ℓ,Same ops a0 a→(∀ i,i < ops.size→ℓ i=true)→Inv ℓ w→(∀ (i:Nat) (o:Oper) d,ops[i]?=some o→o.dst=some d→d ∈ keep→Sl d (a.tmps.getD d undef) w)→Q .normal a w) :
  ∀ (fuel:Nat) (listed:Array Bool) (a:Act) (w:World),left listed ops.size≤fuel→listed.size=ops.size→Closed md ops listed→Same ops a0 a→Inv (fun j=>listed.getD j true) w →
   (∀ (i:Nat) (o:Oper) d,ops[i]?=some o→listed.getD i true=true→o.dst=some d→(d ∈ keep∨∃ (j:Nat) (oj:Oper),ops[j]?=some oj∧listed.getD j true=false∧d ∈ readsG md ops oj)→Sl d (a.tmps.getD d undef) w)→wpAny P md ops Q fuel listed a w:=by
 have ends:∀ (listed:Array Bool) (a:Act) (w:World),(∀ i,i < ops.size→listed.getD i true=true)→Same ops a0 a→Inv (fun j=>listed.getD j true) w →
   (∀ (i:Nat) (o:Oper) d,ops[i]?=some o→listed.getD i true=true→o.dst=some d→(d ∈ keep∨∃ (j:Nat) (oj:Oper),ops[j]?=some oj∧listed.getD j true=false∧d ∈ readsG md ops oj)→Sl d (a.tmps.getD d undef) w)→Q .normal a w:=fun listed a w hl hsame hinv hsl=>
  hfin a w _ hsame hl hinv fun i o d ho hd hk=>hsl i o d ho (hl i (Array.getElem?_eq_some_iff.1 ho).1) hd (.inl hk)
 have alls:∀ listed:Array Bool,listed.size=ops.size→Region.ready md ops listed=[]→∀ i,i < ops.size→listed.getD i true=true:=by
  intro listed hsz hr i
  induction i using Nat.strongRecOn with
  | _ i ih=>
   intro hi
   cases hg:listed.getD i true with
   | true=>rfl
   | false=>
    exfalso
    have:i ∈ Region.ready md ops listed:=mem_ready.2 ⟨hg,ops[i],Array.getElem?_eq_getElem hi,fun e he hbd=>by
     have hlt:=fineB_down hf (Array.getElem?_eq_getElem hi) e he hbd;have h1:=ih e.on hlt (by omega)
     have h2:e.on < listed.size:=by omega
     simp only [Array.getD_eq_getD_getElem?,Array.getElem?_eq_getElem h2,Option.getD_some] at h1 ⊢
     exact h1⟩
    rw [hr] at this
    cases this
 intro fuel
 induction fuel with
 | zero=>
  intro listed a w hl hsz hcl hsame hinv hsl
  have hall2:=left_zero (listed:=listed) (n:=ops.size) (by omega);refine ⟨?_,ends listed a w hall2 hsame hinv hsl⟩
  cases hr:Region.ready md ops listed with
  | nil=>rfl
  | cons j r=>
   have hj:j ∈ Region.ready md ops listed:=by rw [hr];exact List.mem_cons_self ..
   obtain ⟨hun,o,ho,_⟩:=mem_ready.1 hj
   rw [hall2 j (Array.getElem?_eq_some_iff.1 ho).1] at hun
   cases hun
 | succ fuel ih=>
  intro listed a w hl hsz hcl hsame hinv hsl
  refine ⟨fun hr=>ends listed a w (alls listed hsz hr) hsame hinv hsl,fun i hi=>?_⟩;obtain ⟨hun,o,ho,hdep⟩:=mem_ready.1 hi;have hib:i < ops.size:=(Array.getElem?_eq_some_iff.1 ho).1
  have flip:∀ j,j < ops.size→listed.getD j false=true→listed.getD j true=true:=fun j hj h=>by
   have h2:j < listed.size:=by omega
   simp only [Array.getD_eq_getD_getElem?,Array.getElem?_eq_getElem h2,Option.getD_some] at h ⊢
   exact h
  have anc:∀ j,waits md ops j fl i=true→j≠i→listed.getD j true=true:=fun j hw hne=>by
   cases fl with
   | zero=>exact absurd (by simpa [waits] using hw) hne
   | succ f=>
    simp only [waits,Bool.or_eq_true] at hw
    rcases hw with hw | hw
    · exact absurd (by simpa using hw) hne
    ·
     rw [ho] at hw
     obtain ⟨k,hk,h2⟩:=Array.any_eq_true.1 hw
     simp only [Bool.and_eq_true] at h2
     have hmem:=Array.getElem_mem hk;have hei:=fineB_down hf ho _ hmem h2.1;exact waits_listed hcl f _ h2.2 (flip _ (by omega) (hdep _ hmem h2.1))
  refine wpOp_step ho fun K hK=>hs i o ho (fun j=>listed.getD j true) a w hsame hun (fun j hne hw=>?_) (fun j hne hw=>anc j hw hne) hinv ?_ K ?_
  ·
   cases hlj:listed.getD j true with
   | false=>rfl
   | true=>rw [waits_listed hcl fl j hw hlj] at hun;cases hun
  ·
   intro d hd
   have hd':d ∈ readsG md ops o:=by simpa using hd
   obtain ⟨e,he,hed⟩:=List.mem_filterMap.1 hd';obtain ⟨he1,he3⟩:=List.mem_filter.1 he
   have he2:Region.binds md e=true:=by simp only [Bool.and_eq_true] at he3;exact he3.1
   cases hoe:ops[e.on]? with
   | none=>rw [hoe] at hed;cases hed
   | some oe=>
    rw [hoe] at hed
    have hl1:=hdep e (by simpa using he1) he2;exact hsl e.on oe d hoe (flip _ (Array.getElem?_eq_some_iff.1 hoe).1 hl1) hed (.inr ⟨i,o,ho,hun,hd'⟩)
  ·
   intro v w' hg hinv' hv
   have hset:∀ j,listed.getD j true=true→(listed.setIfInBounds i true).getD j true=true:=fun j h=>by
    by_cases hji:i=j
    ·
     subst hji
     have:i < listed.size:=by omega
     simp [this]
    · rw [getD_set_ne true hji];exact h
   refine hK _ _ (ih (listed.setIfInBounds i true) (a.put o.dst v) w' ?_ (by simpa using hsz) ?_ ⟨(put_defers ..).trans hsame.defers,(put_size ..).trans hsame.size,fun d hd=>?_⟩ ?_ ?_)
   · have:=left_less hun hib;omega
   ·
    intro j oj hoj hlj e he hb
    by_cases hji:i=j
    ·
     subst hji
     rw [ho] at hoj
     cases hoj
     have hei:e.on < ops.size:=by have:=fineB_down hf ho e he hb;omega
     exact hset _ (flip _ hei (hdep e he hb))
    ·
     rw [getD_set_ne true hji] at hlj
     exact hset _ (hcl j oj hoj hlj e he hb)
   · rw [getD_put_other (hd i o ho)];exact hsame.old d hd
   ·
    have e:(fun j=>(listed.setIfInBounds i true).getD j true)=upd (fun j=>listed.getD j true) i:=by
     funext j
     unfold upd
     by_cases hji:j=i
     ·
      subst hji
      have:j < listed.size:=by omega
      simp [this]
     · rw [if_neg hji,getD_set_ne true (Ne.symm hji)]
    rw [e];exact hinv'
   ·
    intro j oj d hoj hlj hdj hlive
    by_cases hji:j=i
    ·
     subst hji
     rw [ho] at hoj
     cases hoj
     have hds:=(fineB_slot hf ho hdj).1;rw [hdj,getD_put_same (by rw [hsame.size];exact hds)];exact hv d hdj
    ·
     rw [getD_put_other (fun e=>hji (fineB_one hf hoj ho hdj e))]
     rw [getD_set_ne true (Ne.symm hji)] at hlj
     have hjb:j < ops.size:=(Array.getElem?_eq_some_iff.1 hoj).1;refine hmono i d _ _ _ ?_ (hsl j oj d hoj hlj hdj ?_) hg
     ·
      unfold bearsG
      rw [Bool.and_eq_true]
      constructor
      ·
       refine List.any_eq_true.2 ⟨j,List.mem_range.2 hjb,?_⟩;rw [hoj]
       have hnw:waits md ops i fl j=false:=by
        cases hw:waits md ops i fl j with
        | false=>rfl
        | true=>rw [waits_listed hcl fl j hw hlj] at hun;cases hun
       simp [hdj,hnw]
      ·
       rw [Bool.or_eq_true]
       rcases hlive with hk | ⟨j',oj',hoj',hl',hn'⟩
       · exact .inl (by simpa using hk)
       ·
        right
        have hne:j'≠i:=by
         rintro rfl
         have:j' < listed.size:=by omega
         simp [this] at hl'
        have hnw2:waits md ops j' fl i=false:=by
         cases hw:waits md ops j' fl i with
         | false=>rfl
         | true=>
          exfalso
          have hl3:=anc j' hw hne
          have hlj:listed.getD j' true=false:=by
           cases hlj':listed.getD j' true with
           | false=>rfl
           | true=>rw [hset j' hlj'] at hl';cases hl'
          rw [hl3] at hlj
          cases hlj
        refine List.any_eq_true.2 ⟨j',List.mem_range.2 (Array.getElem?_eq_some_iff.1 hoj').1,?_⟩;rw [hoj']
        simp [hne,hn',hnw2]
     ·
      rcases hlive with hk | ⟨j',oj',hoj',hl',hn'⟩
      · exact .inl hk
      ·
       refine .inr ⟨j',oj',hoj',?_,hn'⟩
       cases hlj':listed.getD j' true with
       | false=>rfl
       | true=>rw [hset j' hlj'] at hl';cases hl'
theorem regionSG {id:Nat} {w:World} (keep:List Nat) (fl:Nat) (Sl:Nat→Value→World→Prop) (Inv:(Nat→Bool)→World→Prop) (G:Nat→World→World→Prop) (hm:P.follows .mixedOrders=true) (hf:fineB .any a0.tmps.size ops=true)
  (hmono:∀ i d v w w',bearsG .any ops keep fl i d=true→Sl d v w→G i w w'→Sl d v w') (h0:Inv (fun j=>(Array.replicate ops.size false).getD j true) w.drew) (hs:StepsSG P .any ops Q Sl Inv G a0 fl 0 ops.toList)
  (hfin:∀ a w ℓ,Same ops a0 a→(∀ i,i < ops.size→ℓ i=true)→Inv ℓ w→(∀ (i:Nat) (o:Oper) d,ops[i]?=some o→o.dst=some d→d ∈ keep→Sl d (a.tmps.getD d undef) w)→Q .normal a w) :
  (Code.region id ops true).wp P Q a0 w:=by
 refine wp_region_any hm ?_
 have hun:∀ (i:Nat) (o:Oper),ops[i]?=some o→(Array.replicate ops.size false).getD i true=true→False:=fun i o ho hl=>by
  have hi:i < ops.size:=(Array.getElem?_eq_some_iff.1 ho).1
  simp [hi] at hl
 refine walkSG keep fl hmono hf (fun i o ho=>?_) hfin _ _ a0 w.drew ?_ (by simp) (fun j o ho hl=>(hun j o ho hl).elim) ⟨rfl,rfl,fun _ _=>rfl⟩ h0 (fun i o d ho hl _ _=>(hun i o ho hl).elim)
 ·
  have:=hs.at i o (by simpa using ho)
  rwa [Nat.zero_add] at this
 ·
  have:∀ n,left (Array.replicate ops.size false) n≤n:=by
   intro n
   induction n with
   | zero=>exact Nat.le_refl _
   | succ n ih=>simp only [left];split <;> omega
  exact this _
end
end Flow
end Go.Proofs.YtlijbgapkmfnaaaGreat
