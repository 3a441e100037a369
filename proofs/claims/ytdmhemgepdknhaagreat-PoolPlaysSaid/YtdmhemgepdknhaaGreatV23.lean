/-
  Texts, put together: Wal14 Pool15.
-/
import Derived.Test.YtdmhemgepdknhaaGreatV1
import Derived.Test.YtdmhemgepdknhaaGreatV21
import Derived.Test.YtdmhemgepdknhaaGreatV22
set_option linter.unusedVariables false
set_option linter.unusedSimpArgs false
namespace Go.Proofs.YtdmhemgepdknhaaGreat
open Go.RowKit Go.Maps
def secN (S:Sec):List Int:=S.bytes.map fun x=>(x.toNat:Int)
theorem secN_sec (S:Sec):IsSec (secN S):=⟨by simp [secN,S.len],fun x hx=>by
 obtain ⟨y,_,rfl⟩:=List.mem_map.1 hx;have:=y.toNat_lt
 omega⟩
theorem Sx_secN (S:Sec):Sx (secN S)=S:=by
 apply Sec.ext
 rw [Sx_bytes (by simp [secN,S.len])]
 unfold secN
 rw [List.map_map]
 conv=>rhs;rw [← List.map_id S.bytes]
 apply List.map_congr_left
 intro x _
 simp
theorem wleast_any (b:Nat) (p:Value) (n:Int) (l:Int) (g:Int) (ep:Nat) (tl:Nat) (la:Nat) (q:Option Addr) (m:Nat) (c:Nat) (rs:Int) (bg:Bool) (w:World) (h:Blk w b TLg #[p,.int .i64 n,.int .i64 l,.int .i64 g,.int .u64 ep,.int .u64 tl,.int .u64 la,.slice q m c,.int .i64 rs,.bool bg]) (ht:tl≤18446744073709551615) (he:1≤ep) (he2:ep≤18446744073709551615):Calls Tryz.prog 99 #[.pointer (some ⟨b,0,none⟩)] w (RetU (if 0 < tl % 232 then 0 else ep - 1) w):=by
 obtain ⟨c0,c1,c2,c3,c4,c5,c6,c7,c8,c9⟩:=h.c10;obtain ⟨A,hA⟩:∃ A,A=tl % 232:=⟨_,rfl⟩
 have HA:Hid (∀ W,Calls Tryz.prog 66 #[.int .u64 (tl:Int)] W fun e w'=>e=.returned (.int .i64 (A:Int))∧W=w'):=Lib.hid fun W=>by rw [hA];exact ahead_any _ W ht
 rw [← hA];clear h c0 c1 c2 c3 c6 c7 c8 c9 hA
 by_cases h0:0 < A
 ·
  have g0:(0:Int) < (A:Int):=by omega
  rw [if_pos h0];clear h0 he
  go_enter Tryz.func99,Tryz.ntmps99
  go_wp2_with fail;refine (HA.out w).mono ?_;rintro e w1 ⟨rfl,rfl⟩;go_wp2_with fail
  go_ret
  exact ⟨rfl,Gr.refl _⟩
 ·
  have g0:¬ (0:Int) < (A:Int):=by omega
  obtain ⟨E,hE⟩:∃ E,E=ep - 1:=⟨_,rfl⟩
  have hw:IntKind.u64.wrap ((ep:Int) - 1)=(E:Int):=by rw [IntKind.wrap_u64];omega
  rw [if_neg h0,← hE];clear h0 he he2 hE
  go_enter Tryz.func99,Tryz.ntmps99
  go_wp2_with fail;refine (HA.out w).mono ?_;rintro e w1 ⟨rfl,rfl⟩;go_wp2_with fail
  go_ret
  exact ⟨rfl,Gr.refl _⟩
theorem epX_le {xs:List Int} (h:IsSec xs):epX xs≤18446744073709551615:=by
 unfold epX atR
 split
 ·
  have hs:Wd.Small (sub xs 8 8):=(h.small.drop _).take _;have h2:=Wd.dec_lt _ hs
  have hl:(sub xs 8 8).length=8:=by unfold sub;have:=h.len;simp;omega
  rw [hl] at h2
  omega
 · omega
def foundL (rd:Nat→List Int) (l ep:Nat):Nat→Nat→Nat→List Int
 | 0,_,_=>[]
 | f+1,k,ls=>if okX (rd (3+k % l))=true∧numX (rd (3+k % l))=k∧epX (rd (3+k % l))≤ep∧ls≤epX (rd (3+k % l)) then
   bytX (rd (3+k % l))++(if manyX (rd (3+k % l)) < 232 then [] else foundL rd l ep f (k+1) (epX (rd (3+k % l)))) else []
def SlFo (b:Nat) (p:Value) (k:Nat) (I:Nat) (S:Sec) (slot:Nat) (v:Value) (_:World):Prop:=
 match slot with
 | 7=>v=.int .i64 0
 | 24=>v=.tuple #[.agg (sec S),.int .i64 0]
 | 25=>v=.pointer (some ⟨b,0,none⟩)
 | 26=>v=.pointer (some ⟨b,0,none⟩)
 | 27=>v=.pointer (some ⟨b,0,none⟩)
 | 28=>v=p
 | 29=>v=.pointer (some ⟨b,0,none⟩)
 | 30=>v=.int .u64 (k:Int)
 | 31=>v=.int .i64 (I:Int)
 | 32=>v=.tuple #[.agg (sec S),.int .i64 0]
 | 33=>v=.agg (sec S)
 | 34=>v=.int .i64 0
 | _=>True
theorem found_nums {N i k K L:Nat} (hns:3+N≤L∧0 < N∧N≤256∧K≤100000000000000000) (hi:i < N) (hk:k≤K+i):i+1≤N∧k+1≤K+(i+1)∧wrap64 ((i:Int)+1)=((i+1:Nat):Int)∧IntKind.u64.wrap ((k:Int)+1)=((k+1:Nat):Int):=
 ⟨by omega,by omega,by unfold wrap64;omega,by rw [IntKind.wrap_u64];omega⟩
theorem found_less {N i:Nat} (hi:i < N):N - (i+1) < N - i:=by omega
set_option maxRecDepth 100000 in
set_option maxHeartbeats 1000000 in
theorem wfound_any {F:Nat→Prop} {s:St} (D b:Nat) (p:Value) (n:Int) (l:Int) (g:Int) (ep:Nat) (tl:Nat) (la:Nat) (q:Option Addr) (m:Nat) (c:Nat) (rs:Int) (bg:Bool) (w:World) (h:Blk w b TLg #[p,.int .i64 n,.int .i64 l,.int .i64 g,.int .u64 ep,.int .u64 tl,.int .u64 la,.slice q m c,.int .i64 rs,.bool bg]) (hp:p=.pointer (some ⟨D,0,none⟩)) (hd:Dk w F p s) (hm:mayL n l g=true) (ht:tl≤9000000000000000000) (he:1≤ep) (he2:ep≤18446744073709551615) (hn:3+l≤s.ls.length) :
  Calls Tryz.prog 84 #[.pointer (some ⟨b,0,none⟩)] w (RetOwn 5 (foundL (fun i=>secN (s.nw i)) l.toNat ep l.toNat (tl / 232) (if 0 < tl % 232 then 0 else ep - 1)) w):=by
 have HB:=Lib.hid h;obtain ⟨c0,c1,c2,c3,c4,c5,c6,c7,c8,c9⟩:=h.c10;obtain ⟨K,hK⟩:∃ K,K=tl / 232:=⟨_,rfl⟩
 obtain ⟨LS,hLS⟩:∃ LS,LS=if 0 < tl % 232 then 0 else ep - 1:=⟨_,rfl⟩
 have HKs:Hid (∀ W,Calls Tryz.prog 98 #[.int .u64 (tl:Int)] W fun e w'=>e=.returned (.int .u64 (K:Int))∧W=w'):=Lib.hid fun W=>by rw [hK];exact sectorOf_any _ W (by omega)
 have HLe:Hid (Calls Tryz.prog 99 #[.pointer (some ⟨b,0,none⟩)] w (RetU LS w)):=Lib.hid (by rw [hLS];exact wleast_any b p n l g ep tl la q m c rs bg w h (by omega) he he2);rw [← hK,← hLS];have hin:=may_in hm;obtain ⟨N,hN⟩:∃ N,N=l.toNat:=⟨_,rfl⟩
 have hlN:l=(N:Int):=by omega
 rw [← hN];have HD:=Lib.hid hd;have HP:=Lib.hid (fun k (hk:k≤18446744073709551615) W (gr:Gr w W)=>wplace_any b p n l g ep tl la q m c rs bg k W (h.gr gr) hm hk)
 rw [← hN] at HP
 obtain ⟨rd,hrd⟩:∃ rd:Nat→List Int,rd=fun i=>secN (s.nw i):=⟨_,rfl⟩
 rw [← hrd]
 have HRD:Hid (∀ i,rd i=secN (s.nw i)):=Lib.hid fun i=>by rw [hrd]
 have HNs:Hid (3+N≤s.ls.length∧0 < N∧N≤256∧K≤100000000000000000):=Lib.hid ⟨by omega,by omega,by omega,by omega⟩;have HlN:=Lib.hid hlN;clear h hd hLS hrd hin hlN hN hm hn hK ht hp
 go_enter Tryz.func84,Tryz.ntmps84
 go_wp2_with fail
 go_step3
 go_wp2_with fail;refine (HKs.out w).mono ?_;rintro e w1 ⟨rfl,rfl⟩;go_wp2_with fail;refine HLe.out.mono ?_;rintro e w1 ⟨rfl,g1⟩;have HG1:=Lib.hid g1;have c2:=(HB.out.gr g1).cell 2
 simp at c2
 rw [HlN.out] at c2
 clear g1 c0 c1 c3 c4 c5 c6 c7 c8 c9 HLe;have HG:=Lib.hid (show Gr w w1 from HG1.out);have hb4:=HB.out.c10.2.2.2.2.1
 have HB0:Hid (∀ W,Gr w W→W.cell? ⟨b,0,none⟩=some p∧W.cell? ⟨b,4,none⟩=some (.int .u64 (ep:Int))):=Lib.hid fun W gr=>⟨(HB.out.gr gr).cell 0,(HB.out.gr gr).c10.2.2.2.2.1⟩
 clear hb4 HG1;go_wp2_with fail
 go_step3
 go_wp2_with fail
 go_loopw [3,4,5,22] (fun bv kv lv iv wr=>∃ (i k ls:Nat) (xs:List Int),i≤N∧iv=.int .i64 (i:Int)∧kv=.int .u64 (k:Int)∧lv=.int .u64 (ls:Int)∧k≤K+i∧Hid (OwnB wr w.heap.size 5 bv xs∧xs.length=232*i)∧Hid (foundL rd N ep N K LS=xs++foundL rd N ep (N - i) k ls)∧Hid (Gr w wr)) (fun _ _ _ iv _=>N - (intOf iv).toNat)
 case atStart=>exact ⟨0,K,LS,[],Nat.zero_le _,rfl,rfl,rfl,Nat.le_refl _,Lib.hid ⟨OwnB.nil _ _ _,rfl⟩,Lib.hid rfl,HG⟩
 case round=>
  obtain ⟨i,k,ls,xs,hi,rfl,rfl,rfl,hk,ho,hf,hg⟩:=hrel
  by_cases hlt:i < N
  ·
   obtain ⟨I,hI⟩:∃ I,I=3+k % N:=⟨_,rfl⟩;obtain ⟨S,hS⟩:∃ S,S=s.nw I:=⟨_,rfl⟩
   have hIl:I < s.ls.length:=by
    have h1:=HNs.out;have:k % N < N:=Nat.mod_lt _ h1.2.1
    omega
   have HPl:Hid (∀ W,Gr wr W→Calls Tryz.prog 100 #[.pointer (some ⟨b,0,none⟩),.int .u64 (k:Int)] W fun e w'=>e=.returned (.int .i64 (I:Int))∧Gr W w'):=Lib.hid fun W gr=>by
    rw [hI];exact HP.out k (by have:=HNs.out;omega) W (Gr.trans hg.out gr)
   have HRd:Hid (∀ W,Gr wr W→Calls Tryz.prog 28 #[p,.int .i64 (I:Int)] W fun e w'=>e=.returned (.tuple #[.agg (sec S),.int .i64 0])∧Gr W w'):=Lib.hid fun W gr=>by
    rw [hS];exact Read_yes W ((HD.out.gr hg.out).gr gr) I hIl
   have HIS:Hid (rd (3+k % N)=secN S∧S=Sx (secN S)):=Lib.hid ⟨by rw [HRD.out,← hI,hS],(Sx_secN S).symm⟩;clear hI hS hIl;go_wp2_with fail;refine Flow.regionF [7] 20 (SlFo b p k I S) (InV 11 12 6 TS (sec Sec.zero) (sec S) wr) (fun _ _ _=>True) (by kernel_rfl) (by kernel_rfl) (fun _ _ _ _ _ _ h _=>h) (InV.start (by rfl) (Gr.refl _).drew) ?steps ?fin
   case steps=>
    refine .cons (fun l a W hfr hun hup hdn hinv hdep K hK=>?_) ?_
    · have t0:=tAt (.pointer (some ⟨b,0,none⟩)) (hfr.at 0 (by kernel_rfl));refine fW0 rfl ?_;clear hdep;have hin:=hinv.1;go_simp;exact hK _ _ True.intro (hinv.other 0 (by decide) (by decide) (by simp) _ (Gr.refl _)) (dsT (by trivial))
    refine .cons (fun l a W hfr hun hup hdn hinv hdep K hK=>?_) ?_
    · have t25:=tAt (.pointer (some ⟨b,0,none⟩)) (hdep 25 (by kernel_rfl));refine fW0 rfl ?_;clear hdep;have hin:=hinv.1;go_simp;exact hK _ _ True.intro (hinv.other 1 (by decide) (by decide) (by simp) _ (Gr.refl _)) (dsT (by trivial))
    refine .cons (fun l a W hfr hun hup hdn hinv hdep K hK=>?_) ?_
    · have t26:=tAt (.pointer (some ⟨b,0,none⟩)) (hdep 26 (by kernel_rfl));refine fW0 rfl ?_;clear hdep;have hin:=hinv.1;go_simp;exact hK _ _ True.intro (hinv.other 2 (by decide) (by decide) (by simp) _ (Gr.refl _)) (dsT (by trivial))
    refine .cons (fun l a W hfr hun hup hdn hinv hdep K hK=>?_) ?_
    · have t27:=tAt (.pointer (some ⟨b,0,none⟩)) (hdep 27 (by kernel_rfl));refine fW0 rfl ?_;clear hdep;have hin:=hinv.1;have c0:=(HB0.out W (Gr.trans hg.out hin)).1;go_simp;exact hK _ _ True.intro (hinv.other 3 (by decide) (by decide) (by simp) _ (Gr.refl _)) (dsT (by trivial))
    refine .cons (fun l a W hfr hun hup hdn hinv hdep K hK=>?_) ?_
    · have t0:=tAt (.pointer (some ⟨b,0,none⟩)) (hfr.at 0 (by kernel_rfl));refine fW0 rfl ?_;clear hdep;have hin:=hinv.1;go_simp;exact hK _ _ True.intro (hinv.other 4 (by decide) (by decide) (by simp) _ (Gr.refl _)) (dsT (by trivial))
    refine .cons (fun l a W hfr hun hup hdn hinv hdep K hK=>?_) ?_
    · have t4:=tAt (.int .u64 (k:Int)) (hfr.at 4 (by kernel_rfl));refine fW0 rfl ?_;clear hdep;have hin:=hinv.1;go_simp;exact hK _ _ True.intro (hinv.other 5 (by decide) (by decide) (by simp) _ (Gr.refl _)) (dsT (by trivial))
    refine .cons (fun l a W hfr hun hup hdn hinv hdep K hK=>?_) ?_
    · have t29:=tAt (.pointer (some ⟨b,0,none⟩)) (hdep 29 (by kernel_rfl));have t30:=tAt (.int .u64 (k:Int)) (hdep 30 (by kernel_rfl));refine fW0 rfl ?_;clear hdep;have hin:=hinv.1;go_simp;refine (HPl.out W hin).mono ?_;rintro e W' ⟨rfl,g1⟩;exact hK _ _ True.intro (hinv.other 6 (by decide) (by decide) (by simp) _ g1) (dsT (by trivial))
    refine .cons (fun l a W hfr hun hup hdn hinv hdep K hK=>?_) ?_
    · have t28:=tAt (p) (hdep 28 (by kernel_rfl));have t31:=tAt (.int .i64 (I:Int)) (hdep 31 (by kernel_rfl));refine fW0 rfl ?_;clear hdep;have hin:=hinv.1;go_simp;refine (HRd.out W hin).mono ?_;rintro e W' ⟨rfl,g1⟩;exact hK _ _ True.intro (hinv.other 7 (by decide) (by decide) (by simp) _ g1) (dsT (by trivial))
    refine .cons (fun l a W hfr hun hup hdn hinv hdep K hK=>?_) ?_
    · have t32:=tAt (.tuple #[.agg (sec S),.int .i64 0]) (hdep 32 (by kernel_rfl));refine fW0 rfl ?_;clear hdep;have hin:=hinv.1;go_simp;exact hK _ _ True.intro (hinv.other 8 (by decide) (by decide) (by simp) _ (Gr.refl _)) (dsT (by trivial))
    refine .cons (fun l a W hfr hun hup hdn hinv hdep K hK=>?_) ?_
    · have t24:=tAt (.tuple #[.agg (sec S),.int .i64 0]) (hdep 24 (by kernel_rfl));refine fW0 rfl ?_;clear hdep;have hin:=hinv.1;go_simp;exact hK _ _ True.intro (hinv.other 9 (by decide) (by decide) (by simp) _ (Gr.refl _)) (dsT (by trivial))
    refine .cons (fun l a W hfr hun hup hdn hinv hdep K hK=>?_) ?_
    · have t24:=tAt (.tuple #[.agg (sec S),.int .i64 0]) (hdep 24 (by kernel_rfl));refine fW0 rfl ?_;clear hdep;have hin:=hinv.1;go_simp;exact hK _ _ True.intro (hinv.other 10 (by decide) (by decide) (by simp) _ (Gr.refl _)) (dsT (by trivial))
    refine .cons (fun l a W hfr hun hup hdn hinv hdep K hK=>?_) ?_
    · refine fW0 rfl ?_;clear hdep;have hz0:=zero_sec;go_simp;exact hK _ _ True.intro (hinv.alloc (by decide) (hup 12 (by decide) (by kernel_rfl)) (by rw [hfr.size];simp)) (dsT (by trivial))
    refine .cons (fun l a W hfr hun hup hdn hinv hdep K hK=>?_) ?_
    ·
     have s33:a.tmps.getD 33 undef=.agg (sec S):=hdep 33 (by kernel_rfl);have t33:=tmpAt s33;refine fW0 rfl ?_;clear hdep;obtain ⟨k6,s6,hk6,hb6⟩:=hinv.2 (hdn 11 (by decide) (by kernel_rfl))
     rw [hun] at hb6
     refine wp_store_row TS (.tmp 6) (.tmp 33) rfl k6 (sec S) (by simpa [Act.eval] using s6) (by simpa [Act.eval] using s33) TS (sec Sec.zero) hb6 (by rw [sec_size];exact size_sec) (by rw [sec_size,sec_size]) (sec_one S) ?_;exact hK undef _ True.intro (hinv.store (by decide) s6 hk6 (by simp) _ (hb6.row _) (below_setRow hinv.1 hk6 _)) (fun d hd=>by cases hd)
    refine .cons (fun l a W hfr hun hup hdn hinv hdep K hK=>?_) ?_
    · have t34:=tAt (.int .i64 0) (hdep 34 (by kernel_rfl));refine fW0 rfl ?_;clear hdep;have hin:=hinv.1;go_simp;exact hK _ _ True.intro (hinv.other 13 (by decide) (by decide) (by simp) _ (Gr.refl _)) (dsT (by trivial))
    exact True.intro
   case fin=>
    intro a W l hfr hall hinv hsl
    have s7:a.tmps.getD 7 undef=.int .i64 0:=hsl 13 _ 7 rfl rfl (by simp);have t7:=tmpAt s7;obtain ⟨hgv,kv,sv,hkv,hbv⟩:=hinv.post (hall 11 (by decide)) (hall 12 (by decide))
    have tv:a.tmps[6]?.getD undef=.pointer (some ⟨kv,0,none⟩):=by simpa using sv
    have e:=Flow.frame hfr [25,26,27,28,29,30,31,32,24,33,34,6,7] (List.range 72) (by kernel_rfl) (by kernel_rfl)
    simp [List.range,List.range.loop] at e
    rw [tv,t7] at e
    rw [e];have HV:=Lib.hid (show Gr wr W∧wr.heap.size≤kv∧Blk W kv TS (sec S) from ⟨hgv,hkv,hbv⟩);clear e hfr hsl hall hinv hgv hkv hbv sv tv s7 t7
    first
     | (rename_i hB;refine hB _ _ ?_)
     | (rename_i hB y0;refine hB _ _ ?_)
     | (rename_i hB y0 y1;refine hB _ _ ?_)
     | (rename_i hB y0 y1 y2;refine hB _ _ ?_)
     | (rename_i hB y0 y1 y2 y3;refine hB _ _ ?_)
     | (rename_i hB y0 y1 y2 y3 y4;refine hB _ _ ?_)
     | (rename_i hB y0 y1 y2 y3 y4 y5;refine hB _ _ ?_)
     | (rename_i hB y0 y1 y2 y3 y4 y5 y6;refine hB _ _ ?_)
     | (rename_i hB y0 y1 y2 y3 y4 y5 y6 y7;refine hB _ _ ?_)
     | (rename_i hB y0 y1 y2 y3 y4 y5 y6 y7 y8;refine hB _ _ ?_)
     | (rename_i hB y0 y1 y2 y3 y4 y5 y6 y7 y8 y9;refine hB _ _ ?_)
     | (rename_i hB y0 y1 y2 y3 y4 y5 y6 y7 y8 y9 y10;refine hB _ _ ?_)
     | skip
    have HPc:Hid (Calls Tryz.prog 101 #[.agg (sec S)] W (RetPc (secN S) W)):=Lib.hid (by
     have h:=pieceOf_all (secN_sec S) W
     rwa [Sx_secN] at h)
    obtain ⟨X,hX⟩:∃ X,X=secN S:=⟨_,rfl⟩;have HX:Hid (rd (3+k % N)=X∧IsSec X):=Lib.hid ⟨by rw [hX];exact HIS.out.1,by rw [hX];exact secN_sec S⟩
    rw [← hX] at HPc
    have HG2:=Lib.hid (Gr.trans hg.out HV.out.1);have HO2:Hid (OwnB W w.heap.size 5 u3 xs∧xs.length=232*i):=Lib.hid ⟨ho.out.1.below' HV.out.1,ho.out.2⟩
    have HB4:Hid (∀ V,Gr W V→V.cell? ⟨b,4,none⟩=some (.int .u64 (ep:Int))):=Lib.hid fun V gr=>(HB0.out V (Gr.trans HG2.out gr)).2
    have HFd:Hid (foundL rd N ep N K LS=xs++foundL rd N ep (N - i - 1+1) k ls):=Lib.hid (by rw [hf.out,show N - i - 1+1=N - i by omega]);clear hX ho hg hf HPl HRd HIS
    go_wp2_with (refine wpList_load_x rfl (.tmp 6) rfl HV.out.2.2 rfl ?_)
    refine HPc.out.mono ?_
    intro e W2 hr
    unfold RetPc at hr
    by_cases hok:okX X=true
    ·
     rw [if_pos hok] at hr
     obtain ⟨p0,rfl,hby,g2,hfar⟩:=hr;obtain ⟨N1,hN1⟩:∃ N1,N1=numX X:=⟨_,rfl⟩;obtain ⟨E1,hE1⟩:∃ E1,E1=epX X:=⟨_,rfl⟩;obtain ⟨M1,hM1⟩:∃ M1,M1=manyX X:=⟨_,rfl⟩
     rw [← hM1] at hby
     rw [← hN1,← hE1,← hM1]
     have hM232:M1≤232:=by
      rw [hM1]
      unfold okX at hok
      simp at hok
      exact hok.1
     have HFo:Hid (foundL rd N ep N K LS=xs++(if N1=k∧E1≤ep∧ls≤E1 then bytX X++(if M1 < 232 then [] else foundL rd N ep (N - i - 1) (k+1) E1) else [])):=Lib.hid (by
      rw [HFd.out]
      congr 1
      show (if okX (rd (3+k % N))=true∧numX (rd (3+k % N))=k∧epX (rd (3+k % N))≤ep∧ls≤epX (rd (3+k % N)) then bytX (rd (3+k % N))++(if manyX (rd (3+k % N)) < 232 then [] else foundL rd N ep (N - i - 1) (k+1) (epX (rd (3+k % N)))) else [])=_
      rw [HX.out.1,hN1,hE1,hM1]
      by_cases hc:numX X=k∧epX X≤ep∧ls≤epX X
      · rw [if_pos ⟨hok,hc⟩,if_pos hc]
      · rw [if_neg (fun h=>hc h.2),if_neg hc])
     have gW:Gr W (W2.alloc (.cells #[.int .u64 (N1:Int),.int .u64 (E1:Int),.slice p0 M1 M1] TPc)):=Gr.trans g2 (Gr.new _ _);have hbp:=Blk.new W2 TPc #[.int .u64 (N1:Int),.int .u64 (E1:Int),.slice p0 M1 M1];have HY2:=Lib.hid (hby.kept (Gr.new W2 (.cells #[.int .u64 (N1:Int),.int .u64 (E1:Int),.slice p0 M1 M1] TPc)));have HBp:=Lib.hid hbp;have HGW:=Lib.hid gW;obtain ⟨⟨d0,d1,d2⟩,_⟩:=hbp.c3;have e4:=HB4.out _ gW;have HEP:Hid (E1≤18446744073709551615):=Lib.hid (by rw [hE1];exact epX_le HX.out.2);have HW2s:Hid (W.heap.size≤W2.heap.size):=Lib.hid g2.size;clear hN1 hE1 hM1 hok hby g2 hfar hbp gW HPc
     by_cases h1:N1=k
     ·
      have t1:((N1:Int) != (k:Int))=false:=by simp [h1]
      by_cases h2:E1≤ep
      ·
       have t2:¬ (ep:Int) < (E1:Int):=by omega
       by_cases h3:ls≤E1
       ·
        have t3:¬ (E1:Int) < (ls:Int):=by omega
        have HFo2:Hid (foundL rd N ep N K LS=xs++(bytX X++(if M1 < 232 then [] else foundL rd N ep (N - i - 1) (k+1) E1))):=Lib.hid (by rw [HFo.out,if_pos ⟨h1,h2,h3⟩]);have HLs:Hid (E1≤18446744073709551615∧(bytX X).length=M1):=Lib.hid ⟨by have:=HEP.out;omega,HY2.out.len⟩;clear HFo HFd h1 h2 h3;go_wp2_with fail
        go_quiet (fail)
        obtain ⟨Wq,hWq⟩:∃ Wq,Wq=(W2.alloc (.cells #[.int .u64 (N1:Int),.int .u64 (E1:Int),.slice p0 M1 M1] TPc)).drewN nq:=⟨_,rfl⟩
        have gq:Gr (W2.alloc (.cells #[.int .u64 (N1:Int),.int .u64 (E1:Int),.slice p0 M1 M1] TPc)) Wq:=by rw [hWq];exact gr_drewN (Gr.refl _) nq
        have HYq:=Lib.hid (HY2.out.kept gq);have HOq:=Lib.hid ((HO2.out.1.below' HGW.out).below' gq);have HBq:=Lib.hid (HBp.out.gr gq);have HGq:=Lib.hid (Gr.trans (Gr.trans HG2.out HGW.out) gq)
        have HOlt:Hid (∀ j,Value.ownBlock u3=some j→j≠W2.heap.size):=Lib.hid fun j hj=>by
         have h5:=(HO2.out.1.row.lt j hj).2;have h6:=HW2s.out
         omega
        obtain ⟨⟨e0,e1,e2⟩,_⟩:=HBq.out.c3;rw [← hWq];clear hWq gq d0 d1 d2 e4
        by_cases h4:M1 < 232
        ·
         have t4:(M1:Int) < 232:=by omega
         have HR:Hid (foundL rd N ep N K LS=xs++bytX X):=Lib.hid (by rw [HFo2.out,if_pos h4,List.append_nil]);clear h4 HFo2
         go_wp2_with (at_builtin;refine wpList_app_byt bt rfl _ _ rfl w.heap.size _ xs rfl HOq.out p0 M1 M1 (bytX X) rfl HYq.out (by have:=HO2.out.2;have:=HNs.out;omega) HGq.out.size ?_;intro v9 W9 ho9 hg9;have HO9:=Lib.hid ho9;have HG9:=Lib.hid (Below.grown HGq.out hg9 HGq.out.size HOq.out.base);have HB9:=Lib.hid (HBq.out.stays (hg9.block _ HBq.out.lt (fun e=>HOlt.out _ e.symm rfl)));have e2':=HB9.out.c3.1.2.2;clear ho9 hg9)
         try rw [Exit.noGoto_ret]
         go_ret
         exact ⟨_,rfl,by rw [HR.out];exact HO9.out,HG9.out⟩
        ·
         have t4:¬ (M1:Int) < 232:=by omega
         have HM9:Hid (M1=232):=Lib.hid (by omega);have HA:=Lib.hid (found_nums HNs.out hlt hk);have HA2:Hid (N - (i+1) < N - i):=Lib.hid (found_less hlt);have HR:Hid (foundL rd N ep N K LS=(xs++bytX X)++foundL rd N ep (N - (i+1)) (k+1) E1):=Lib.hid (by rw [HFo2.out,if_neg h4,List.append_assoc,show N - i - 1=N - (i+1) by omega]);clear h4 HFo2
         go_wp2_with (at_builtin;refine wpList_app_byt bt rfl _ _ rfl w.heap.size _ xs rfl HOq.out p0 M1 M1 (bytX X) rfl HYq.out (by have:=HO2.out.2;have:=HNs.out;omega) HGq.out.size ?_;intro v9 W9 ho9 hg9;have HO9:Hid (OwnB W9 w.heap.size 5 v9 (xs++bytX X)∧(xs++bytX X).length=232*(i+1)):=Lib.hid ⟨ho9,by rw [List.length_append,HLs.out.2,HO2.out.2,HM9.out];omega⟩;have HG9:=Lib.hid (Below.grown HGq.out hg9 HGq.out.size HOq.out.base);have HB9:=Lib.hid (HBq.out.stays (hg9.block _ HBq.out.lt (fun e=>HOlt.out _ e.symm rfl)));have e2':=HB9.out.c3.1.2.2;have e1':=HB9.out.c3.1.2.1;clear ho9 hg9)
         go_quiet (fail)
         have HO10:Hid (OwnB (W9.drewN nq) w.heap.size 5 v9 (xs++bytX X)∧(xs++bytX X).length=232*(i+1)):=Lib.hid ⟨HO9.out.1.heap rfl,HO9.out.2⟩;have HG10:=Lib.hid (gr_drewN HG9.out nq);go_wp2_with fail
         go_roundw
         case rel=>exact ⟨i+1,k+1,E1,xs++bytX X,HA.out.1,by rw [HA.out.2.2.1],by rw [HA.out.2.2.2],rfl,HA.out.2.1,HO10,HR,HG10⟩
         case measure=>
          have hwi:=HA.out.2.2.1;rw [hwi];exact HA2.out
       ·
        have t3:(E1:Int) < (ls:Int):=by omega
        have HR:Hid (foundL rd N ep N K LS=xs):=Lib.hid (by rw [HFo.out,if_neg (fun h=>h3 h.2.2),List.append_nil]);clear h1 h2 h3 HFo;go_wp2_with fail
        go_quiet (fail)
        go_wp2_with fail
        try rw [Exit.noGoto_ret]
        go_ret
        exact ⟨_,rfl,by rw [HR.out];exact (HO2.out.1.below' HGW.out).heap rfl,gr_drewN (Gr.trans HG2.out HGW.out) nq⟩
      ·
       have t2:(ep:Int) < (E1:Int):=by omega
       have HR:Hid (foundL rd N ep N K LS=xs):=Lib.hid (by rw [HFo.out,if_neg (fun h=>h2 h.2.1),List.append_nil]);clear h1 h2 HFo;go_wp2_with fail
       go_quiet (fail)
       go_wp2_with fail
       try rw [Exit.noGoto_ret]
       go_ret
       exact ⟨_,rfl,by rw [HR.out];exact (HO2.out.1.below' HGW.out).heap rfl,gr_drewN (Gr.trans HG2.out HGW.out) nq⟩
     ·
      have t1:((N1:Int) != (k:Int))=true:=by
       have:¬ (N1:Int)=(k:Int):=by omega
       simpa using this
      have HR:Hid (foundL rd N ep N K LS=xs):=Lib.hid (by rw [HFo.out,if_neg (fun h=>h1 h.1),List.append_nil]);clear h1;go_wp2_with fail
      try rw [Exit.noGoto_ret]
      go_ret
      exact ⟨_,rfl,by rw [HR.out];exact HO2.out.1.below' HGW.out,Gr.trans HG2.out HGW.out⟩
    ·
     rw [if_neg hok] at hr
     obtain ⟨rfl,g2⟩:=hr
     have HR:Hid (foundL rd N ep N K LS=xs):=Lib.hid (by
      rw [HFd.out]
      show xs++(if okX (rd (3+k % N))=true∧_ then _ else _)=xs
      rw [HX.out.1,if_neg (fun h=>hok h.1),List.append_nil])
     have HG3:=Lib.hid g2;clear hok g2 HPc;go_wp2_with fail
     try rw [Exit.noGoto_ret]
     go_ret
     exact ⟨_,rfl,by rw [HR.out];exact (HO2.out.1.below' HG3.out).alloc _,Gr.trans HG2.out (Gr.trans HG3.out (Gr.new _ _))⟩
  ·
   obtain rfl:i=N:=by omega
   have HF:Hid (foundL rd i ep i K LS=xs):=Lib.hid (by rw [hf.out,Nat.sub_self];simp [foundL]);clear hf;go_wp2_with fail
   try rw [Exit.noGoto_ret]
   go_ret
   exact ⟨_,rfl,by rw [HF.out];exact ho.out.1,hg.out⟩
end Go.Proofs.YtdmhemgepdknhaaGreat
namespace Go.Proofs.YtdmhemgepdknhaaGreat
open Go.RowKit Go.Maps
theorem Pl.put_put (P:Pl) (i:Nat) (f g:PFr):(P.put i f).put i g=P.put i g:=by
 unfold Pl.put
 congr 1
 funext j
 by_cases h:j=i <;> simp [h]
section
variable {w w':World} {b m n:Nat} {pd pl:Value} {B:Nat→Option Nat} {P:Pl} {F:Nat→Prop} {s:St}
set_option maxRecDepth 100000 in
set_option maxHeartbeats 1000000 in
theorem makeRoom_none (h:PlAt w b pd pl m n B P) (hr:P.held=true∨(P.pages.length:Int) < P.most) (hm : -1000000≤P.most∧P.most≤1000000):Calls Tryz.prog 69 #[.pointer (some ⟨b,0,none⟩)] w fun e w'=>e=.returned (.int .i64 0)∧Gr w w':=by
 obtain ⟨D,ho,hs⟩:=h.map.size h.has
 have hl:=fun ty q=>(ownsMap_stays ho (show (w.drewN q).heap[m]?=w.heap[m]? from rfl)).len Tryz.underlying78 ty
 obtain ⟨_,_,c2,c3,c4,_⟩:=h.c6
 have hN:P.pages.length≤65536:=by
  unfold Pl.pages
  have h:=List.length_filter_le (fun i=>(P.fr i).isSome) (List.range 65536)
  rwa [List.length_range] at h
 obtain ⟨N,hNe⟩:∃ N,N=P.pages.length:=⟨_,rfl⟩;obtain ⟨M,hM⟩:∃ M,M=P.most:=⟨_,rfl⟩;obtain ⟨x,hx⟩:∃ x,x=P.held:=⟨_,rfl⟩
 rw [← hM] at c2 hr hm
 rw [← hx] at c3 hr
 rw [hs] at hl
 rw [← hNe] at hl hr hN
 have hw1:IntKind.i64.wrap ((N:Int) - M)=(N:Int) - M:=IntWalk.i64_in _ (by omega);have hw2:IntKind.i64.wrap ((N:Int) - M+1)=(N:Int) - M+1:=IntWalk.i64_in _ (by omega)
 cases x with
 | true=>
  clear h ho hs hNe hM hx hr
  go_enter Tryz.func69,Tryz.ntmps69
  go_wp2_with fail
  go_quiet (fail)
  go_wp2_with fail
  go_ret
  exact ⟨rfl,rfl,rfl,rfl,Nat.le_refl _,fun _ _=>rfl⟩
 | false=>
  have hd:decide ((N:Int) - M+1≤0)=true:=decide_eq_true (by have:=hr.resolve_left (by decide);omega);clear h ho hs hNe hM hx hr
  go_enter Tryz.func69,Tryz.ntmps69
  go_wp2_with fail
  go_quiet (fail)
  go_wp2_with fail
  go_ret
  exact ⟨rfl,rfl,rfl,rfl,Nat.le_refl _,fun _ _=>rfl⟩
set_option maxRecDepth 100000 in
set_option maxHeartbeats 2000000 in
theorem use_miss {i:Nat} (hi:i < 65536) (R:World→Nat→(Nat→Option Nat)→Pl→St→Prop) (h:PlAt w b pd pl m n B P) (hno:P.fr i=none)
  (hMR:Calls Tryz.prog 69 #[.pointer (some ⟨b,0,none⟩)] w fun e w'=>e=.returned (.int .i64 0)∧∃ n1 B1 P1 F1 s1,PlAt w' b pd pl m n1 B1 P1∧Dk w' F1 pd s1∧i < s1.ls.length∧P1.fr i=none∧n1 < 1000000000∧R w' n1 B1 P1 s1) :
  Calls Tryz.prog 41 #[.pointer (some ⟨b,0,none⟩),.int .i64 (i:Int)] w fun e w'=>∃ n1 B1 P1 s1 c wM,R wM n1 B1 P1 s1∧e=.returned (.tuple #[.pointer (some ⟨c,0,none⟩),.int .i64 0]) ∧
   PlAt w' b pd pl m (n1+1) (fun j=>if j=i then some c else B1 j) (P1.use i (frS (secN (s1.nw i))))∧wM.grownBy w' (some m)∧wM.heap.size≤c:=by
 have c4:=h.c6.2.2.2.2.1;have hl:=h.map.look i hi
 rw [(h.has i).2 hno] at hl
 have hl2:(Instr.lookup TPm (.map (some m)) (.int .i64 (i:Int)) false).run Tryz.prog w=.ok (.pointer none) w:=hl;have HM:=Lib.hid hMR;clear h hl hMR hno
 go_enter Tryz.func41,Tryz.ntmps41
 go_wp2_with fail;refine HM.out.mono ?_;rintro e w1 ⟨rfl,n1,B1,P1,F1,s1,hp,hd,hi1,hno,hn1,hR⟩;have HP:=Lib.hid hp;have HR:=Lib.hid hR;have HRd:=Lib.hid (Read_yes w1 hd i hi1);have HN1:=Lib.hid hn1;have HNo:=Lib.hid hno;obtain ⟨d,rfl⟩:=hp.dsk;have d0:=hp.c6.1;clear hp hd hi1 hno hn1 hR c4 hl2;go_wp2_with fail;refine HRd.out.mono ?_;rintro e w2 ⟨rfl,g2⟩;obtain ⟨S,hS⟩:∃ S,S=s1.nw i:=⟨_,rfl⟩;have HS:=Lib.hid hS;rw [← hS];have HB:Hid (Blk (w2.alloc (.cells (sec Sec.zero) 60)) w2.heap.size TS (sec Sec.zero)∧Gr w1 (w2.alloc (.cells (sec Sec.zero) 60))∧w1.heap.size≤w2.heap.size):=Lib.hid ⟨Blk.new _ _ _,Gr.trans g2 (Gr.new _ _),g2.size⟩
 have HFo:Hid (∀ W,Calls Tryz.prog 70 #[.agg (sec S)] W (RetFr (frS (secN S)) W)):=Lib.hid fun W=>by
  have h:=frameOf_any (secN_sec S) W
  rwa [Sx_secN] at h
 have hz:=zero_sec;have HI:=Lib.hid hi;clear hS g2 HRd d0 HM hi
 go_wp2_with (refine wpList_store_x rfl (.tmp 8) (.tmp 30) rfl HB.out.1 rfl rfl ?_)
 obtain ⟨W3,hW3⟩:∃ W3,W3=(w2.alloc (.cells (sec Sec.zero) 60)).setRow w2.heap.size (sec S):=⟨_,rfl⟩
 have HB3:Hid (Blk W3 w2.heap.size TS (sec S)∧Gr w1 W3):=Lib.hid (by
  rw [hW3]
  exact ⟨HB.out.1.row _,below_setRow HB.out.2.1 HB.out.2.2 _⟩)
 rw [← hW3];clear hW3 HB hz;refine wp_load_x (.tmp 8) rfl HB3.out.1 rfl ?_;go_wp2_with fail;refine (HFo.out W3).mono ?_;rintro e w4 ⟨c,rfl,hc,hcl,g4⟩;have HP4:Hid (PlAt w4 b (.pointer (some ⟨d,0,none⟩)) pl m n1 B1 P1):=Lib.hid (HP.out.gr (Gr.trans HB3.out.2 g4));obtain ⟨w5,hmu,hfm,hgb⟩:=HP4.out.map.store (by have:=HN1.out;unfold maxLen;omega) i HI.out c;have c4:=HP4.out.c6.2.2.2.2.1
 have hnp:¬ plS b m B1 c:=fun hp=>by
  have h1:=HP.out.low c hp;have h2:=HB3.out.2.size
  omega
 have HP5:Hid (PlAt w5 b (.pointer (some ⟨d,0,none⟩)) pl m (n1+1) (fun j=>if j=i then some c else B1 j) (P1.put i (frS (secN S)))∧w1.grownBy w5 (some m)∧w1.heap.size≤c∧Blk w5 c TFr (frS (secN S)).cells):=Lib.hid (by
  have hcm:c≠m:=fun e=>hnp (.inr (.inl e))
  have g14:=Gr.trans HB3.out.2 g4;refine ⟨HP4.out.add HN1.out hc (frS_in (secN_sec S)) hnp hfm hgb,?_,Nat.le_trans HB3.out.2.size hcl,hc.stays (hgb.block c hc.lt fun e=>hcm (by cases e;rfl))⟩
  exact World.grownBy.trans ⟨g14.os,g14.tape,g14.output,g14.size,fun k hk _=>g14.block k hk⟩ hgb)
 have k4:=(PFr.c4 HP5.out.2.2.2).2.2.2;have f4:=HP5.out.2.2.2.frozen 251;clear hc hcl g4 hfm hgb hnp HFo HP4 HB3;go_wp2_with fail
 go_ret2
 have ht:=HP5.out.1.turn (w':=w5.setCell ⟨c,251,none⟩ (.bool true)) (i:=i) (c:=c) (f:={ frS (secN S) with used:=true }) (if_pos rfl) ((frS_in (secN_sec S)).use true) (by rw [← PFr.setUsed];exact HP5.out.2.2.2.set 251 (.bool true)) (fun j hj=>Below.heap_setCell w5 _ _ j hj)
 rw [Pl.put_put] at ht
 have hg:=HP5.out.2.1;have hb5:=(Below.refl 0 w5).setCell (p:=⟨c,251,none⟩) (Nat.zero_le _) (.bool true);refine ⟨n1,B1,P1,s1,c,w1,HR.out,rfl,by rw [← HS.out];exact ht,⟨hb5.os.trans hg.os,hb5.tape.trans hg.tape,hb5.output.trans hg.output,Nat.le_trans hg.size hb5.size,fun k hk hkm=>?_⟩,HP5.out.2.2.1⟩;exact (Below.heap_setCell w5 ⟨c,251,none⟩ _ k (by have:=HP5.out.2.2.1;show k≠c;omega)).trans (hg.block k hk hkm)
end
end Go.Proofs.YtdmhemgepdknhaaGreat
