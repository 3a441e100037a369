/-
  Texts, put together: PoolDp16 PoolPp1 PoolFi1 PoolKe2 PoolFi2.
-/
import Derived.Test.YtdmhemgepdknhaaGreatV1
import Derived.Test.YtdmhemgepdknhaaGreatV7
import Derived.Test.YtdmhemgepdknhaaGreatV25
import Derived.Test.YtdmhemgepdknhaaGreatV27
import Derived.Test.YtdmhemgepdknhaaGreatV29
import Derived.Test.YtdmhemgepdknhaaGreatV31
import Derived.Test.YtdmhemgepdknhaaGreatV32
import Derived.Test.YtdmhemgepdknhaaGreatV33
import Derived.Test.YtdmhemgepdknhaaGreatV37
set_option linter.unusedVariables false
set_option linter.unusedSimpArgs false
namespace Go.Proofs.YtdmhemgepdknhaaGreat
open Go.RowKit Go.Maps

/-- A frame that is changed. -/
def putF (f:PFr) (o:Nat) (ys:List Int) (first lsn:Nat):PFr:={ f with pay:=Play f.pay o ys,lsn:=lsn,first:=if f.dirty then f.first else first,dirty:=true }
/-- What the document's Put answers and leaves. -/
def Pl.dpt (P:Pl) (ss:List Sec) (i o:Int) (ys:List Int) (first lsn:Nat):Int × Pl × List Sec:=
  if (i < 0∨(ss.length:Int)≤i)∨o < 0∨248 - (ys.length:Int) < o∨lsn=0 then (2,P,ss) else
    (0,match (P.dfr ss i.toNat).1.fr i.toNat with
      | some f=>(P.dfr ss i.toNat).1.put i.toNat (putF f o.toNat ys first lsn)
      | none=>(P.dfr ss i.toNat).1,(P.dfr ss i.toNat).2)
theorem run_cutFA (g q F:Nat) (h:F≤248) (w:World):(Instr.sliceAt PTS (.pointer (some ⟨g,q,none⟩)) (some (.int .i64 (F:Int))) none none).run Tryz.prog w=.ok (.slice (some ⟨g,q+(if 248=F then 0 else F),none⟩) (248 - F) (248 - F)) w:=by
  have hl:Tryz.prog.arrayLen PTS=248:=by kernel_rfl
  have he:Tryz.prog.elem PTS=5:=by kernel_rfl
  have hu:Tryz.prog.underlying PTS=some (.array (Tryz.prog.arrayLen PTS) (Tryz.prog.elem PTS)):=by rw [hl,he];exact Punder_sec
  rw [run_sliceAt_array_l w PTS ⟨g,q,none⟩ hu .i64 (F:Int) (by omega) (by rw [hl];omega),he,Psize_u8]
  by_cases hE:248=F
  · subst hE;simp [slicedAt,Result.andThen,hl]
  · have h1:¬ F=248:=fun e=>hE e.symm
    simp [slicedAt,Result.andThen,hl,hE,Addr.add,h1]
    try (intro e;exact absurd e.symm hE)
section
variable {w w':World} {b:Nat} {sv av av':Value} {P Q:Pl} {ss sq:List Sec} {la:Nat} {L M:List (Nat × PFr)}
theorem DpAt.turnK {g cap k p:Nat} {f f3:PFr} (h:DpAt w b sv (.slice (some ⟨g,0,none⟩) L.length cap) P ss la L) (ho:Onc g w w') (hk:FRk w' g cap (L.set k (p,f3))) (hx:L[k]?=some (p,f)):DpAt w' b sv (.slice (some ⟨g,0,none⟩) L.length cap) (P.put p f3) ss la (L.set k (p,f3))∧Upd (dpS b sv (.slice (some ⟨g,0,none⟩) L.length cap)) (dpS b sv (.slice (some ⟨g,0,none⟩) L.length cap)) w w':=by
  have hA:=h.apA g rfl
  have h9:=hk.fr
  rw [List.length_set] at h9
  exact ⟨⟨h.blk.stays (ho.block b fun e=>hA.1 e.symm),h.row.stays fun q hq=>ho.block q fun e=>hA.2 (e ▸ hq),h9,h.rl.set hx _,h.apS,h.apA,by rw [List.length_set];exact h.len⟩,⟨ho.os,ho.tape,ho.output,Nat.le_of_eq ho.size.symm,fun q hq hn=>ho.block q fun e=>hn (e ▸ .inr (.inr rfl)),fun q hq=>.inl hq⟩⟩
set_option maxRecDepth 100000 in
set_option maxHeartbeats 2000000 in
theorem dPut_any (h:DpAt w b sv av P ss la L) (i o:Int) (hs:ss.length≤65536) (hin:∀ i,65536≤i→P.fr i=none) (hcl:Cl P ss) (hpay:∀ (j:Nat) (f:PFr),(P.dfr ss j).1.fr j=some f→PIsSec f.pay) (hh : -1≤P.hand∧P.hand < 65536) (hm:1≤P.most∧P.most≤4096)
    {pb:Option Addr} {nb cb:Nat} {ys:List Int} (hy:Byt w pb nb cb ys) (hya:0 < nb→∀ y,pb=some y→¬ dpS b sv av y.block) {first lsn:Nat} (hfi:first≤18446744073709551615) (hls:lsn≤18446744073709551615) :
    Calls Tryz.prog 15 #[.pointer (some ⟨b,0,none⟩),.int .i64 i,.int .i64 o,.slice pb nb cb,.int .u64 (first:Int),.int .u64 (lsn:Int)] w (RetDp (.int .i64 (P.dpt ss i o ys first lsn).1) (P.dpt ss i o ys first lsn).2.1 (P.dpt ss i o ys first lsn).2.2 b sv av la w):=by
  have HH:=Lib.hid h
  obtain ⟨pS,sc,rfl⟩:=h.row.sl
  have c0:=h.cells.1
  obtain ⟨Z,hZ⟩:∃ Z,Z=ss.length:=⟨_,rfl⟩
  rw [← hZ] at c0
  have hnb:nb≤9223372036854775807:=by have h1:=hy.cap;have h2:=hy.most;unfold maxLen at h2;omega
  have hyl:=hy.len
  have HFr:Hid (∀ j:Nat,j < Z→i=(j:Int)→Calls Tryz.prog 42 #[.pointer (some ⟨b,0,none⟩),.int .i64 (j:Int)] w fun e w'=>∃ (g cap:Nat) (L':List (Nat × PFr)) (k:Nat) (f:PFr),e=.returned (.pointer (some ⟨g,k*253,none⟩))∧DpAt w' b (.slice pS ss.length sc) (.slice (some ⟨g,0,none⟩) L'.length cap) (P.dfr ss j).1 (P.dfr ss j).2 la L'∧L'[k]?=some (j,f)∧Upd (dpS b (.slice pS ss.length sc) av) (dpS b (.slice pS ss.length sc) (.slice (some ⟨g,0,none⟩) L'.length cap)) w w'):=Lib.hid fun j hj _=>dframe_any h (by rw [← hZ];exact hj) hs hin hcl hh hm
  have HY:=Lib.hid (And.intro hy (And.intro hya hpay))
  have HB:Hid (first≤18446744073709551615∧lsn≤18446744073709551615∧nb≤9223372036854775807∧ys.length=nb∧Wd.Small ys):=Lib.hid ⟨hfi,hls,hnb,hyl,hy.small⟩
  have HBad:Hid ((P.dpt ss i o ys first lsn=(2,P,ss))→RetDp (.int .i64 (P.dpt ss i o ys first lsn).1) (P.dpt ss i o ys first lsn).2.1 (P.dpt ss i o ys first lsn).2.2 b (.slice pS ss.length sc) av la w (.returned (.int .i64 2)) w):=Lib.hid fun e=>by
    rw [e]
    exact ⟨av,L,rfl,HH.out,Upd.of_gr (Gr.refl _)⟩
  have HDp:Hid (((i < 0∨(Z:Int)≤i)∨o < 0∨248 - (nb:Int) < o∨lsn=0)→P.dpt ss i o ys first lsn=(2,P,ss)):=Lib.hid fun hb=>by
    unfold Pl.dpt
    rw [← hZ,hyl]
    exact if_pos hb
  have HDn:Hid (¬ ((i < 0∨(Z:Int)≤i)∨o < 0∨248 - (nb:Int) < o∨lsn=0)→P.dpt ss i o ys first lsn=(0,match (P.dfr ss i.toNat).1.fr i.toNat with
      | some f=>(P.dfr ss i.toNat).1.put i.toNat (putF f o.toNat ys first lsn)
      | none=>(P.dfr ss i.toNat).1,(P.dfr ss i.toNat).2)):=Lib.hid fun hb=>by
    unfold Pl.dpt
    rw [← hZ,hyl]
    exact if_neg hb
  clear h hs hin hcl hpay hh hm hy hya hfi hls hyl hZ
  go_enter Tryz.func15,Tryz.ntmps15
  by_cases h1:i < 0
  · have g1:decide (i < 0)=true:=decide_eq_true h1
    have HE:=Lib.hid (HBad.out (HDp.out (.inl (.inl h1))))
    clear HFr HDn
    go_wp2_with fail
    go_ret
    exact HE.out
  have g1:decide (i < 0)=false:=decide_eq_false h1
  by_cases h2:(Z:Int)≤i
  · have g2:decide ((Z:Int)≤i)=true:=decide_eq_true h2
    have HE:=Lib.hid (HBad.out (HDp.out (.inl (.inr h2))))
    clear HFr HDn
    go_wp2_with fail
    go_ret
    exact HE.out
  have g2:decide ((Z:Int)≤i)=false:=decide_eq_false h2
  by_cases h3:o < 0
  · have g3:decide (o < 0)=true:=decide_eq_true h3
    have HE:=Lib.hid (HBad.out (HDp.out (.inr (.inl h3))))
    clear HFr HDn
    go_wp2_with fail
    go_ret
    exact HE.out
  have g3:decide (o < 0)=false:=decide_eq_false h3
  by_cases h4:248 < o
  · have g4:decide (248 < o)=true:=decide_eq_true h4
    have HE:=Lib.hid (HBad.out (HDp.out (.inr (.inr (.inl (by omega))))))
    clear HFr HDn
    go_wp2_with fail
    go_ret
    exact HE.out
  have g4:decide (248 < o)=false:=decide_eq_false h4
  have hws:IntKind.i64.wrap (248 - o)=248 - o:=IntWalk.i64_in _ (by omega)
  by_cases h5:248 - o < (nb:Int)
  · have g5:decide (248 - o < (nb:Int))=true:=decide_eq_true h5
    have HE:=Lib.hid (HBad.out (HDp.out (.inr (.inr (.inl (by omega))))))
    clear HFr HDn
    go_wp2_with fail
    go_ret
    exact HE.out
  have g5:decide (248 - o < (nb:Int))=false:=decide_eq_false h5
  by_cases h6:lsn=0
  · have g6:((lsn:Int) == 0)=true:=by rw [h6];rfl
    have HE:=Lib.hid (HBad.out (HDp.out (.inr (.inr (.inr h6)))))
    clear HFr HDn h6
    go_wp2_with fail
    go_ret
    exact HE.out
  have g6:((lsn:Int) == 0)=false:=beq_eq_false_iff_ne.2 (by omega)
  have HDk:=Lib.hid (HDn.out (by omega))
  obtain ⟨j,rfl⟩:∃ j:Nat,i=(j:Int):=⟨i.toNat,by omega⟩
  obtain ⟨Fo,rfl⟩:∃ Fo:Nat,o=(Fo:Int):=⟨o.toNat,by omega⟩
  rw [show ((j:Int)).toNat=j from rfl,show ((Fo:Int)).toNat=Fo from rfl] at HDk
  have HFo:Hid (Fo+nb≤248):=Lib.hid (by omega)
  have HC:=Lib.hid (HFr.out j (by omega) rfl)
  clear HFr HDn HDp HBad
  go_wp2_with fail
  refine HC.out.mono ?_
  rintro e w2 ⟨g,cap,L',k,f,rfl,hd,hk,hu⟩
  have hff:=hd.rl.at hk
  have hp:=HY.out.2.2 j f hff
  have HE:Hid (P.dpt ss j Fo ys first lsn=(0,(P.dfr ss j).1.put j (putF f Fo ys first lsn),(P.dfr ss j).2)):=Lib.hid (by
    rw [HDk.out]
    rw [show (P.dfr ss j).1.fr j=some f from hff])
  have HY2:=Lib.hid (HY.out.1.upd hu HY.out.2.1)
  have hkl:=(List.getElem?_eq_some_iff.1 hk).1
  have HD:=Lib.hid (And.intro hd (And.intro hk (And.intro hu (And.intro hp hkl))))
  have hcut:=run_cutFA g (k*253+1) Fo (by have:=HFo.out;omega)
  obtain ⟨A,hA⟩:∃ A,A=k*253+1+(if 248=Fo then 0 else Fo):=⟨_,rfl⟩
  rw [← hA] at hcut
  have HAa:=Lib.hid hA
  obtain ⟨q,hq⟩:∃ q,q=k*253:=⟨_,rfl⟩
  rw [← hq] at hcut
  have HQ:=Lib.hid hq
  rw [← hq]
  have HEnd:Hid (∀ W f3,f3=putF f Fo ys first lsn→Onc g w2 W→FRk W g cap (L'.set k (j,f3))→RetDp (.int .i64 (P.dpt ss j Fo ys first lsn).1) (P.dpt ss j Fo ys first lsn).2.1 (P.dpt ss j Fo ys first lsn).2.2 b (.slice pS ss.length sc) av la w (.returned (.int .i64 0)) W):=Lib.hid fun W f3 e3 ho hk3=>by
    rw [HE.out,← e3]
    obtain ⟨k1,k2⟩:=HD.out.1.turnK ho hk3 HD.out.2.1
    exact ⟨_,_,rfl,k1,HD.out.2.2.1.comp k2⟩
  obtain ⟨dy,hdy⟩:∃ dy,dy=f.dirty:=⟨_,rfl⟩
  have HDy:=Lib.hid hdy
  clear hd hk hu hff hp hkl hA hq hdy HE HDk
  cases dy with
  | true=>
    go_wp2_with (refine wpList_copy_fd rfl (.tmp 51) (.tmp 52) rfl HAa.out rfl HD.out.1.frk.2 HD.out.2.1 HD.out.2.2.2.1 rfl HY2.out HFo.out ?_
                 intro W4 hk4 ho4
                 have hx4:(L'.set k (j,{ f with pay:=Play f.pay Fo ys }))[k]?=some (j,{ f with pay:=Play f.pay Fo ys }):=by rw [List.getElem?_set,if_pos rfl,if_pos HD.out.2.2.2.2]
                 have HK4:=Lib.hid (And.intro hk4 (And.intro ho4 hx4))
                 obtain ⟨-,m1,m2,m3,-⟩:=hk4.cells hx4
                 have z1:=hk4.frozen (k*253+249)
                 have z2:=hk4.frozen (k*253+250)
                 have z3:=hk4.frozen (k*253+251)
                 rw [← HQ.out] at m1 m2 m3 z1 z2 z3
                 have m3b:W4.cell? ⟨g,q+251,none⟩=some (.bool true):=by rw [HDy.out];exact m3
                 clear m3 hk4 ho4 hx4)
    go_ret
    have hd:=HDy.out
    have hs1:=HK4.out.1.set (y:=(j,{ f with pay:=Play f.pay Fo ys,lsn:=lsn })) HK4.out.2.2 (c:=249) (by omega) (fdC_lsn j { f with pay:=Play f.pay Fo ys } lsn)
    rw [List.set_set,← HQ.out] at hs1
    refine HEnd.out _ _ ?_ (HK4.out.2.1.trans (Onc.cell g W4 (q+249) _)) hs1
    unfold putF
    obtain ⟨a1,a2,a3,a4,a5⟩:=f
    cases (show true=a4 from hd)
    rfl
  | false=>
    go_wp2_with (refine wpList_copy_fd rfl (.tmp 51) (.tmp 52) rfl HAa.out rfl HD.out.1.frk.2 HD.out.2.1 HD.out.2.2.2.1 rfl HY2.out HFo.out ?_
                 intro W4 hk4 ho4
                 have hx4:(L'.set k (j,{ f with pay:=Play f.pay Fo ys }))[k]?=some (j,{ f with pay:=Play f.pay Fo ys }):=by rw [List.getElem?_set,if_pos rfl,if_pos HD.out.2.2.2.2]
                 have HK4:=Lib.hid (And.intro hk4 (And.intro ho4 hx4))
                 obtain ⟨-,m1,m2,m3,-⟩:=hk4.cells hx4
                 have z1:=hk4.frozen (k*253+249)
                 have z2:=hk4.frozen (k*253+250)
                 have z3:=hk4.frozen (k*253+251)
                 rw [← HQ.out] at m1 m2 m3 z1 z2 z3
                 have m3b:W4.cell? ⟨g,q+251,none⟩=some (.bool false):=by rw [HDy.out];exact m3
                 clear m3 hk4 ho4 hx4)
    go_ret
    have hd:=HDy.out
    have hs1:=HK4.out.1.set (y:=(j,{ f with pay:=Play f.pay Fo ys,lsn:=lsn })) HK4.out.2.2 (c:=249) (by omega) (fdC_lsn j { f with pay:=Play f.pay Fo ys } lsn)
    rw [List.set_set] at hs1
    have hx5:∀ z:Nat × PFr,(L'.set k z)[k]?=some z:=fun z=>by rw [List.getElem?_set,if_pos rfl,if_pos HD.out.2.2.2.2]
    have hs2:=hs1.set (y:=(j,{ f with pay:=Play f.pay Fo ys,lsn:=lsn,dirty:=true })) (hx5 _) (c:=251) (by omega) (fdC_dirty j { f with pay:=Play f.pay Fo ys,lsn:=lsn } true)
    rw [List.set_set] at hs2
    have hs3:=hs2.set (y:=(j,{ f with pay:=Play f.pay Fo ys,lsn:=lsn,dirty:=true,first:=first })) (hx5 _) (c:=250) (by omega) (fdC_first j { f with pay:=Play f.pay Fo ys,lsn:=lsn,dirty:=true } first)
    rw [List.set_set,← HQ.out] at hs3
    refine HEnd.out _ _ ?_ (((HK4.out.2.1.trans (Onc.cell g W4 (q+249) _)).trans (Onc.cell g _ (q+251) _)).trans (Onc.cell g _ (q+250) _)) hs3
    unfold putF
    rw [← hd]
    rfl
end
end Go.Proofs.YtdmhemgepdknhaaGreat
namespace Go.Proofs.YtdmhemgepdknhaaGreat
open Go.RowKit Go.Maps
structure Sm (s:St) (ss:List Sec):Prop where
 len:ss.length=64
 eq:∀ j,19≤j→j < 64→ss.getD j Sec.zero=s.nw j
section
variable {P:Pl} {s s':St} {L:Lg} {ss sq:List Sec}
theorem Sm.cl (h:Sm s ss) (ha:AL P s L):Cl P ss:=by
 refine ⟨fun i f hf=>?_,fun i f hf hd=>?_⟩
 · have hr:=ha.rng i (by rw [hf];exact Option.some_ne_none _);exact ⟨ha.inn i f hf,by rw [h.len];exact hr.2⟩
 · have hr:=ha.rng i (by rw [hf];exact Option.some_ne_none _);rw [h.eq i hr.1 hr.2,← dC_cS];exact ha.cln i f hf hd
theorem Sm.of (hl:sq.length=64) (h:∀ j,19≤j→j < 64→cS (sq.getD j Sec.zero)=dC s' j):Sm s' sq:=⟨hl,fun j h1 h2=>cS_inj ((h j h1 h2).trans (dC_cS s' j))⟩
theorem ct_cP {j:Nat} (h:P.fr j≠none):P.ct s j=P.cP j:=by
 cases e:P.fr j with
 | none=>exact absurd e h
 | some f=>
  rw [ct_some e]
  unfold Pl.cP
  rw [e]
theorem Sm.room (h:Sm s ss) (ha:AL P s L) (hm:1≤P.most):(P.mr s L).2.1=P.gN P.room∧Sm (P.mr s L).2.2.1 (P.gS P.room ss):=by
 by_cases hc:P.held=true∨(P.pages.length:Int) < P.most
 ·
  have e:P.mr s L=(0,P,s,L):=by
   unfold Pl.mr
   exact if_pos hc
  rw [Pl.room_none hc,e];exact ⟨rfl,h⟩
 ·
  have hheld:P.held=false:=by
   cases hb:P.held with
   | false=>rfl
   | true=>exact absurd (.inl hb) hc
  have hrm:P.room=P.many:=by
   unfold Pl.room
   rw [hheld]
   rfl
  have hmany:P.many≤P.round.length:=by
   rw [P.round_len]
   unfold Pl.many
   omega
  obtain ⟨k1,k2,k3,k4⟩:=ha.wr (goingL P.usd P.round P.many)
  have e:P.mr s L=(0,(P.off (sparedL P.usd P.round P.many)).leave (goingL P.usd P.round P.many),(P.wr (goingL P.usd P.round P.many) s L).2):=by
   unfold Pl.mr
   exact (if_neg hc).trans (if_neg (fun h=>h k1))
  rw [e,hrm];refine ⟨(Pl.gN_eq P.many P hmany).symm,Sm.of (by rw [Pl.gS_len];exact h.len) fun j h19 h64=>?_⟩;have h5:=(Pl.gS_at P.many P ss hmany (h.cl ha)).1 j;have h6:=k4 j h19 h64;rw [h5]
  show _=dC (P.wr (goingL P.usd P.round P.many) s L).2.1 j
  rw [h6]
  by_cases hj:j ∈ goingL P.usd P.round P.many
  · have hne:=(P.round_mem (goingL_mem hj)).2;rw [if_pos hj,if_pos ⟨hj,hne⟩,ct_cP hne]
  · rw [if_neg hj,if_neg (fun h=>hj h.1),h.eq j h19 h64,dC_cS]
theorem Sm.us (h:Sm s ss) (ha:AL P s L) (hm:1≤P.most) {i:Nat} (hi:19≤i) (hi2:i < 64):(P.us i s L).2.1=(P.dfr ss i).1∧Sm (P.us i s L).2.2.1 (P.dfr ss i).2:=by
 cases hf:P.fr i with
 | some f=>
  rw [dfr_some hf]
  unfold Pl.us
  rw [hf];exact ⟨rfl,h⟩
 | none=>
  obtain ⟨k1,k2⟩:=h.room ha hm;rw [dfr_none hf];have e0:=ha.mr.1
  have e:P.us i s L=(0,(P.mr s L).2.1.use i (frS (secN ((P.mr s L).2.2.1.nw i))),(P.mr s L).2.2):=by
   unfold Pl.us
   rw [hf];exact if_neg (fun h=>h e0)
  rw [e];refine ⟨?_,k2⟩
  show (P.mr s L).2.1.use i (frS (secN ((P.mr s L).2.2.1.nw i)))=_
  rw [k1,k2.eq i hi hi2]
theorem Sm.pt (h:Sm s ss) (ha:AL P s L) (hm:1≤P.most) {i o:Int} {ys:List Int} {first lsn:Nat} (hi:i < 0∨19≤i):(P.pt 64 i o ys first lsn s L).1=(P.dpt ss i o ys first lsn).1∧(P.pt 64 i o ys first lsn s L).2.1=(P.dpt ss i o ys first lsn).2.1∧Sm (P.pt 64 i o ys first lsn s L).2.2.1 (P.dpt ss i o ys first lsn).2.2:=by
 unfold Pl.dpt
 rw [h.len]
 by_cases h1:i < 0∨(64:Int)≤i
 ·
  have e:askE 64 i=2:=if_pos h1
  have e2:P.pt 64 i o ys first lsn s L=(2,P,s,L):=by
   unfold Pl.pt
   rw [e];exact if_pos (by decide)
  rw [e2,if_pos (.inl h1)];exact ⟨rfl,rfl,h⟩
 ·
  have e:askE 64 i=0:=if_neg h1
  by_cases h2:o < 0∨248 - (ys.length:Int) < o∨lsn=0
  ·
   have e2:P.pt 64 i o ys first lsn s L=(2,P,s,L):=by
    unfold Pl.pt
    rw [e];exact (if_neg (by simp)).trans (if_pos h2)
   rw [e2,if_pos (.inr h2)];exact ⟨rfl,rfl,h⟩
  ·
   obtain ⟨j,rfl⟩:∃ j:Nat,i=(j:Int):=⟨i.toNat,by omega⟩;rw [if_neg (fun h=>h.elim h1 h2),show ((j:Int)).toNat=j from rfl];obtain ⟨k1,k2⟩:=h.us ha hm (i:=j) (by omega) (by omega);obtain ⟨u1,_,_,_,f,u5⟩:=ha.us (i:=j) (by omega) (by omega)
   have e2:P.pt 64 (j:Int) o ys first lsn s L=(0,(P.us j s L).2.1.put j (putF f o.toNat ys first lsn),(P.us j s L).2.2):=by
    unfold Pl.pt
    rw [e,show ((j:Int)).toNat=j from rfl];refine (if_neg (by simp)).trans ((if_neg h2).trans ((if_neg (fun h=>h u1)).trans ?_));rw [u5]
    rfl
   rw [e2]
   rw [k1] at u5 ⊢
   rw [u5];exact ⟨rfl,rfl,k2⟩
theorem Cl.ssO (h:Cl P ss) (g:Nat):Cl P (Go.Proofs.YtdmhemgepdknhaaGreat.ssO P ss g):=by
 refine ⟨fun i f hf=>?_,fun i f hf hd=>?_⟩
 · have:=h.inn i f hf;exact ⟨this.1,by rw [ssO_len];exact this.2⟩
 ·
  cases hg:P.fr g with
  | none=>
   have e:Go.Proofs.YtdmhemgepdknhaaGreat.ssO P ss g=ss:=by unfold Go.Proofs.YtdmhemgepdknhaaGreat.ssO;rw [hg]
   rw [e];exact h.cln i f hf hd
  | some fg=>
   rw [ssO_at h hg]
   by_cases e:i=g
   ·
    subst e;rw [if_pos rfl]
    rw [hf] at hg
    cases hg
    rfl
   · rw [if_neg e];exact h.cln i f hf hd
theorem dssW_at:∀ (xs:List Nat) {ss:List Sec},Cl P ss→∀ j,cS ((dssW P ss xs).getD j Sec.zero)=if j ∈ xs∧P.fr j≠none then P.cP j else cS (ss.getD j Sec.zero)
 | [],ss,_,j=>by
  rw [if_neg (by simp)]
  rfl
 | g :: xs,ss,h,j=>by
  show cS ((dssW P (ssO P ss g) xs).getD j Sec.zero)=_
  rw [dssW_at xs (h.ssO g) j]
  by_cases hx:j ∈ xs∧P.fr j≠none
  · rw [if_pos hx,if_pos ⟨List.mem_cons_of_mem _ hx.1,hx.2⟩]
  ·
   rw [if_neg hx]
   cases hg:P.fr g with
   | none=>
    have e:ssO P ss g=ss:=by unfold ssO;rw [hg]
    rw [e,if_neg];rintro ⟨h1,h2⟩
    rcases List.mem_cons.1 h1 with rfl | h1
    · exact h2 hg
    · exact hx ⟨h1,h2⟩
   | some fg=>
    rw [ssO_at h hg]
    by_cases e:j=g
    ·
     subst e;rw [if_pos rfl,if_pos ⟨List.mem_cons_self,by rw [hg];exact Option.some_ne_none _⟩]
     unfold Pl.cP
     rw [hg]
    ·
     rw [if_neg e,if_neg];rintro ⟨h1,h2⟩
     rcases List.mem_cons.1 h1 with h1 | h1
     · exact e h1
     · exact hx ⟨h1,h2⟩
theorem Sm.wa (h:Sm s ss) (ha:AL P s L):Sm (P.wa s L).2.2.1 (dssW P ss P.pages)∧(P.wa s L).2.1=P.wrote P.dirty:=by
 obtain ⟨k1,k2,k3,k4⟩:=ha.wr P.dirty;obtain ⟨_,_,_,_,k5,_⟩:=ha.wa;have hb:=k2.alive.ba
 have e:P.wa s L=(0,P.wrote P.dirty,BaS (P.wr P.dirty s L).2.1,(P.wr P.dirty s L).2.2):=by
  unfold Pl.wa
  exact (if_neg (fun e=>e k1)).trans (if_neg (fun e=>e hb.2))
 refine ⟨Sm.of (by rw [dssW_len];exact h.len) fun j h19 h64=>?_,by rw [e]⟩;rw [k5 j h19 h64,dssW_at P.pages (h.cl ha) j]
 cases hf:P.fr j with
 | none=>rw [if_neg (fun e=>e.2 rfl),ct_none hf,h.eq j h19 h64,dC_cS]
 | some f=>
  have hne:P.fr j≠none:=by rw [hf];exact Option.some_ne_none _
  rw [if_pos ⟨(P.mem_pages j).2 ⟨by omega,hne⟩,by simp⟩,ct_cP hne]
end
end Go.Proofs.YtdmhemgepdknhaaGreat
namespace Go.Proofs.YtdmhemgepdknhaaGreat
open Go.RowKit Go.Maps Cr
def Wh (T:List Int):Prop:=∀ rest:List Int,T.length+rest.length≤1000000→endL 0 (allL (T++rest) 0)=endL T.length (allL rest T.length)
theorem Wh.nil:Wh []:=fun _ _=>rfl
theorem Wh.rec {T:List Int} (h:Wh T) {r:Rc} (hm:mayR r=true) (hi:r.In):Wh (T++recL r T.length):=fun rest hl=>by
 rw [List.length_append] at hl
 rw [List.append_assoc,h _ (by rw [List.length_append];omega),allL_yes (ofB_rec hm hi T.length rest),ofN_rec hm hi,List.drop_left,onW_of (by omega),List.length_append]
 rfl
def Gd (T:List Int) (m k:Nat) (x:Sec):Prop:=∃ n,x=Sx (secL k 1 ((T.drop (232*k)).take n))∧n≤232∧232*k+n≤T.length∧(n=232∨m≤232*k+n)
theorem Gd.more {T:List Int} {m k:Nat} {x:Sec} (h:Gd T m k x) (ys:List Int):Gd (T++ys) m k x:=by
 obtain ⟨n,h1,h2,h3,h4⟩:=h;refine ⟨n,?_,h2,by rw [List.length_append];omega,h4⟩;rw [h1,List.drop_append_of_le_length (by omega),List.take_append_of_le_length (by rw [List.length_drop];omega)]
theorem Gd.full {T:List Int} {m k:Nat} {x:Sec} (h:Gd T m k x) (hk:232*(k+1)≤m) (m':Nat):Gd T m' k x:=by
 obtain ⟨n,h1,h2,h3,h4⟩:=h;exact ⟨n,h1,h2,h3,.inl (by omega)⟩
theorem nw_mem (s:St) (i:Nat):s.nw i ∈ s.at i:=by
 unfold St.nw St.at
 cases h:s.t i with
 | nil=>simp
 | cons x r=>
  have e:(x :: r).getLastD (s.ls.getD i Sec.zero)=(x :: r).getLast (by simp):=by simp [List.getLastD_eq_getLast?,List.getLast?_eq_some_getLast]
  rw [e];exact List.mem_cons_of_mem _ (List.getLast_mem _)
theorem at_wrote {s:St} {i j:Nat} {x y:Sec} (h:y ∈ (s.wrote i x).at j):y ∈ s.at j∨(j=i∧y=x):=by
 unfold St.at St.wrote at h
 dsimp only at h
 by_cases e:j=i
 ·
  rw [if_pos e] at h
  subst e
  rcases List.mem_cons.1 h with h | h
  · exact .inl (by rw [h];exact List.mem_cons_self)
  ·
   rcases List.mem_append.1 h with h | h
   · exact .inl (List.mem_cons_of_mem _ h)
   · exact .inr ⟨rfl,by simpa using h⟩
 ·
  rw [if_neg e] at h
  exact .inl h
theorem at_putD {s:St} {i j:Nat} {x y:Sec} (h:y ∈ (putD s i x).at j):y ∈ s.at j∨(j=i∧y=x):=by
 unfold putD at h
 split at h
 · exact .inl h
 · exact at_wrote h
theorem at_ba {s:St} {j:Nat} {y:Sec} (hj:j < s.ls.length) (h:y ∈ (BaS s).at j):y ∈ s.at j:=by
 unfold BaS at h
 split at h
 · exact h
 ·
  have e:y=s.nw j:=by
   unfold St.at St.barrier at h
   simpa [List.getD,hj] using h
  rw [e];exact nw_mem s j
def lsnS (x:Sec):Nat:=Wd.dec ((secN x).take 8)
theorem lsnS_sec {f:PFr} (h:f.In):lsnS (Sx f.sec)=f.lsn:=(frS_sec h).2
theorem lsnS_zero:lsnS Sec.zero=0:=by
 have h2:secN Sec.zero=List.replicate 256 0:=by
  unfold secN Sec.zero
  rw [List.map_replicate]
  rfl
 unfold lsnS
 rw [h2,List.take_replicate]
 decide
structure FI (T:List Int) (s:St) (L:Lg):Prop where
 ok:L.Ok
 l16:L.l=16
 ep:L.epoch=1
 tl:L.tail=0
 rs:L.rsv=0
 n64:s.ls.length=64
 wh:Wh T
 whl:Wh (T.take L.lasts)
 len:T.length=L.fin
 txt:L.txt=T.drop (L.lasts - L.lasts % 232)
 room:L.fin≤3480
 beg:L.begun=false→L.lasts=0
 small:Wd.Small T
 sec:∀ k,232*k < L.lasts→∀ x,x ∈ s.at (3+k)→Gd T L.lasts k x
 pg:∀ i,19≤i→i < 64→∀ x,x ∈ s.at i→lsnS x≤L.lasts
section
variable {T:List Int} {s s':St} {L:Lg}
theorem FI.near (h:FI T s L):L.lasts≤L.fin:=h.ok.near.2.2
theorem FI.st (h:FI T s L) (hl:s'.ls.length=64) (hs:∀ j x,j < 64→x ∈ s'.at j→x ∈ s.at j∨(j < 19∧(232*(j - 3) < L.lasts→Gd T L.lasts (j - 3) x))∨(19≤j∧lsnS x≤L.lasts)):FI T s' L:=
 ⟨h.ok,h.l16,h.ep,h.tl,h.rs,hl,h.wh,h.whl,h.len,h.txt,h.room,h.beg,h.small,fun k hk x hx=>by
  have h1:=h.near;have h2:=h.room
  rcases hs (3+k) x (by omega) hx with h3 | h3 | h3
  · exact h.sec k hk x h3
  ·
   have h4:=h3.2
   rw [show 3+k - 3=k by omega] at h4
   exact h4 hk
  · omega,fun i h19 h64 x hx=>by
  rcases hs i x h64 hx with h3 | h3 | h3
  · exact h.pg i h19 h64 x h3
  · omega
  · exact h3.2⟩
theorem FI.dead (h:FI T s L):FI T { s with dead:=true } L:=h.st h.n64 fun _ _ _ hx=>.inl hx
theorem FI.ba (h:FI T s L):FI T (BaS s) L:=h.st ((ba_len _).trans h.n64) fun _ _ hj hx=>.inl (at_ba (by rw [h.n64];exact hj) hx)
theorem FI.page (h:FI T s L) {i:Nat} (h19:19≤i) {x:Sec} (hx:lsnS x≤L.lasts):FI T (s.wrote i x) L:=h.st h.n64 fun j y _ hy=>by
 rcases at_wrote hy with h1 | ⟨rfl,rfl⟩
 · exact .inl h1
 · exact .inr (.inr ⟨h19,hx⟩)
theorem FI.begun (h:FI T s L):FI T s { L with begun:=true }:=
 ⟨⟨h.ok.may,h.ok.e0,h.ok.e1,h.ok.tl,h.ok.has,h.ok.most,h.ok.room,h.ok.r0,h.ok.r1⟩,h.l16,h.ep,h.tl,h.rs,h.n64,h.wh,h.whl,h.len,h.txt,h.room,(fun e=>by cases e),h.small,h.sec,h.pg⟩
theorem FI.beg0 (h:FI T s L):FI T (begS s L) (begL s L):=by
 have hb:=begI_lt (L:=L) h.l16
 have key:L.begun=false→∀ x,FI T (putD s (begI L) x) L:=fun e x=>by
  have h0:=h.beg e
  refine h.st (by unfold putD;split;exact h.n64;exact h.n64) fun j y _ hy=>?_
  rcases at_putD hy with h1 | ⟨rfl,rfl⟩
  · exact .inl h1
  · exact .inr (.inl ⟨hb,fun h2=>by omega⟩)
 unfold begS begL
 by_cases e:L.begun=true
 · rw [if_pos e,if_pos e];exact h
 ·
  have e2:L.begun=false:=by simpa using e
  rw [if_neg e,if_neg e]
  by_cases hr:s.refuses
  · rw [if_pos hr,if_pos hr];exact key e2 _
  · rw [if_neg hr,if_neg hr];exact (key e2 _).ba.begun
theorem FI.wr_gd (h:FI T s L) {j m:Nat} (hj:232*(L.lasts / 232+j) < L.fin) (hm:m≤L.fin):wrI L j=3+(L.lasts / 232+j)∧Gd T m (L.lasts / 232+j) (wrX L j):=by
 have hr:=h.room;refine ⟨?_,?_⟩
 ·
  unfold wrI
  rw [h.l16]
  show 3+(L.lasts / 232+j) % 16=_
  rw [Nat.mod_eq_of_lt (by omega)]
 ·
  have e1:L.txt.drop (232*j)=T.drop (232*(L.lasts / 232+j)):=by
   rw [h.txt,List.drop_drop]
   congr 1
   omega
  refine ⟨min 232 (L.fin - 232*(L.lasts / 232+j)),?_,by omega,by rw [h.len];omega,by omega⟩
  unfold wrX
  rw [e1,h.ep]
  congr 2
  rw [List.take_eq_take_iff,List.length_drop,h.len]
  omega
theorem FI.wrAll:∀ (n j:Nat) (s:St),FI T s L→(∀ i,i < j+n→232*(L.lasts / 232+i) < L.fin)→(∀ i,i < j→s.nw (3+(L.lasts / 232+i))=wrX L i) →
  FI T (wrAll L n j s).1 L∧((wrAll L n j s).2=0→(∀ i,(wrAll L n j s).1.t i=[])∧∀ i,i < j+n→(wrAll L n j s).1.nw (3+(L.lasts / 232+i))=wrX L i)
 | 0,j,s,h,hj,hn=>by
  refine ⟨h.ba,fun he=>?_⟩
  have hd:s.dead=false:=by
   cases hd:s.dead with
   | false=>rfl
   | true=>exact absurd he (by show ¬ BaE s=0;unfold BaE;rw [hd];simp)
  refine ⟨fun i=>?_,fun i hi=>?_⟩
  ·
   show (BaS s).t i=[]
   unfold BaS
   rw [hd]
   rfl
  ·
   have h1:=hj i hi;have h2:=h.room
   show (BaS s).nw _=_
   rw [nw_ba (by rw [h.n64];omega)];exact hn i (by omega)
 | n+1,j,s,h,hj,hn=>by
  unfold Go.Proofs.YtdmhemgepdknhaaGreat.wrAll
  split
  · exact ⟨h.dead,fun e=>by cases e⟩
  ·
   obtain ⟨h1,h2⟩:=h.wr_gd (hj j (by omega)) h.near
   have h3:FI T (s.wrote (wrI L j) (wrX L j)) L:=h.st h.n64 fun i y _ hy=>by
    rcases at_wrote hy with h4 | ⟨rfl,rfl⟩
    · exact .inl h4
    · have h5:=hj j (by omega);have h6:=h.room;refine .inr (.inl ⟨by omega,fun _=>?_⟩);rw [h1,show 3+(L.lasts / 232+j) - 3=L.lasts / 232+j by omega];exact h2
   have h4:=FI.wrAll n (j+1) _ h3 (fun i hi=>hj i (by omega)) fun i hi=>by
    rw [nw_wrote2,h1]
    by_cases e:i=j
    · rw [e,if_pos rfl]
    · rw [if_neg (by omega)];exact hn i (by omega)
   rw [show j+1+n=j+(n+1) by omega] at h4
   exact h4
theorem FI.done (h:FI T s L) (hb:L.begun=true) (ht:∀ i,s.t i=[]) (hn:∀ i,i < chN L.txt.length→s.nw (3+(L.lasts / 232+i))=wrX L i):FI T s L.done:=by
 obtain ⟨k1,k2,k3⟩:=h.ok.done;have hnr:=h.near;have hfin:L.fin=L.lasts - L.lasts % 232+L.txt.length:=rfl
 have hat:∀ i x,x ∈ s.at i→x=s.nw i:=fun i x hx=>by
  unfold St.at at hx
  rw [ht i] at hx
  rw [nw_none (ht i)]
  simpa using hx
 refine ⟨k1,h.l16,h.ep,h.tl,h.rs,h.n64,h.wh,?_,h.len.trans k2.symm,?_,by rw [k2];exact h.room,fun e=>?_,h.small,fun k hk x hx=>?_,fun i h19 h64 x hx=>Nat.le_trans (h.pg i h19 h64 x hx) hnr⟩
 ·
  show Wh (T.take L.fin)
  rw [← h.len,List.take_length];exact h.wh
 ·
  show L.txt.drop (L.txt.length - L.fin % 232)=T.drop (L.fin - L.fin % 232)
  rw [h.txt,List.drop_drop]
  rw [h.txt] at k3 hfin
  congr 1
  omega
 ·
  have e2:L.begun=false:=e
  rw [hb] at e2
  cases e2
 ·
  have hk2:232*k < L.fin:=hk
  show Gd T L.fin k x
  by_cases hq:k < L.lasts / 232
  · exact (h.sec k (by omega) x hx).full (by omega) _
  · obtain ⟨j,rfl⟩:∃ j,k=L.lasts / 232+j:=⟨k - L.lasts / 232,by omega⟩;rw [hat _ x hx,hn j (by unfold chN;omega)];exact (h.wr_gd hk2 (Nat.le_refl _)).2
theorem FI.fl (h:FI T s L) (u:Nat):FI T (flS s L u) (flL s L u)∧(flE s L u=0→u≤(flL s L u).lasts):=by
 unfold flS flL flE
 by_cases h1:L.fin < u
 · rw [if_pos h1,if_pos h1,if_pos h1];exact ⟨h,fun e=>by cases e⟩
 ·
  rw [if_neg h1,if_neg h1,if_neg h1]
  by_cases h2:u≤L.lasts
  · rw [if_pos h2,if_pos h2,if_pos h2];exact ⟨h,fun _=>h2⟩
  ·
   rw [if_neg h2,if_neg h2,if_neg h2];have hB:=h.beg0
   by_cases h3:begE s L≠0
   · rw [if_pos h3,if_pos h3,if_pos h3];exact ⟨hB,fun e=>absurd e h3⟩
   ·
    rw [if_neg h3,if_neg h3,if_neg h3];have h3':begE s L=0:=Decidable.of_not_not h3;obtain ⟨b1,b2,b3,b4⟩:=begL_ok (s:=s) h.ok
    have hbl:(begL s L).lasts=L.lasts:=by rcases begL_cases s L with e | e <;> rw [e]
    have hbb:(begL s L).begun=true:=by
     unfold begE putDE at h3'
     unfold begL
     split
     · assumption
     ·
      rename_i e1
      rw [if_neg e1] at h3'
      split
      ·
       rename_i e2
       rw [if_pos e2] at h3'
       cases h3'
      · rfl
    have hfin:L.fin=L.lasts - L.lasts % 232+L.txt.length:=rfl;obtain ⟨k1,k2⟩:=FI.wrAll (L:=begL s L) (chN L.txt.length) 0 (begS s L) hB (fun i hi=>by rw [hbl,b2];unfold chN at hi;omega) (fun i hi=>by omega)
    by_cases h4:(Go.Proofs.YtdmhemgepdknhaaGreat.wrAll (begL s L) (chN L.txt.length) 0 (begS s L)).2≠0
    · rw [if_pos h4];exact ⟨k1,fun e=>absurd e h4⟩
    ·
     rw [if_neg h4];obtain ⟨k3,k4⟩:=k2 (Decidable.of_not_not h4);refine ⟨k1.done hbb k3 fun i hi=>k4 i (by rw [b3] at hi;omega),fun _=>?_⟩
     show u≤(begL s L).fin
     rw [b2]
     omega
theorem FI.noted (h:FI T s L) (page:Nat):∃ T',FI T' s (L.noted page):=by
 unfold Lg.noted
 by_cases he:layE (nR page) L.free=0
 ·
  have hm:mayR (nR page)=true:=by
   by_cases hm:mayR (nR page)=true
   · exact hm
   ·
    unfold layE at he
    rw [if_neg hm] at he
    omega
  have hp:=layL_parts L (nR page) L.free;have hf:=layL_fin L (nR page) L.free;have hok:=append_ok h.ok (nR page) (by have:=h.room;omega)
  have hsz:(35+(nR page).b.length+(nR page).a.length:Int)≤L.free:=by
   unfold layE at he
   rw [if_pos hm] at he
   split at he <;> omega
  have hfree:L.free≤3480 - L.fin:=by
   unfold Lg.free freeR
   rw [h.l16,h.rs,h.tl];have:=h.room
   omega
  rw [if_pos he] at hf
  have e:layL L (nR page) L.free=L.more (recL (nR page) L.fin):=by unfold layL;rw [if_pos he]
  rw [e] at hf hp hok ⊢
  have hn:=h.near;refine ⟨T++recL (nR page) L.fin,hok,hp.1.trans h.l16,hp.2.2.2.1.trans h.ep,hp.2.2.2.2.trans h.tl,h.rs,h.n64,?_,?_,?_,?_,?_,h.beg,h.small.app (recL_small (nR_in page) _),fun k hk x hx=>(h.sec k hk x hx).more _,h.pg⟩
  ·
   have h1:=h.wh.rec hm (nR_in page)
   rw [h.len] at h1
   exact h1
  ·
   show Wh ((T++recL (nR page) L.fin).take L.lasts)
   rw [List.take_append_of_le_length (by rw [h.len];exact hn)];exact h.whl
  · rw [hf,List.length_append,h.len,recL_len]
  ·
   show L.txt++_=(T++_).drop (L.lasts - L.lasts % 232)
   rw [List.drop_append_of_le_length (by rw [h.len];omega),h.txt]
  ·
   rw [hf]
   omega
 · exact ⟨T,by rw [layL_same he];exact h⟩
theorem FI.begin (z:Int):FI [] { zeroD with fuse:=z } L0:=by
 refine ⟨newL_ok.1,rfl,rfl,rfl,rfl,by simp [zeroD,fresh],Wh.nil,Wh.nil,rfl,rfl,by decide,fun _=>rfl,(fun x hx=>by cases hx),fun k hk=>absurd hk (Nat.not_lt_zero _),fun i _ h64 x hx=>?_⟩
 have e:x=Sec.zero:=by
  rcases List.mem_cons.1 hx with h | h
  ·
   rw [h]
   show (List.replicate 64 Sec.zero).getD i Sec.zero=_
   rw [List.getD_eq_getElem?_getD,List.getElem?_replicate]
   split <;> rfl
  · cases h
 rw [e,lsnS_zero];exact Nat.zero_le _
end
end Go.Proofs.YtdmhemgepdknhaaGreat
namespace Go.Proofs.YtdmhemgepdknhaaGreat
open Go.RowKit Go.Maps
def KpQ (w0 w:World) (b m:Nat) (pd pl:Value) (P:Pl) (s:St) (L:Lg) (R:Nat) (Ks:List (Nat × TypeId × Array Value)):Prop:=
 ∃ S n B,PoAt w b m n pd pl B S P s L 64 R∧(∀ z,uS S b m B z→w0.heap.size≤z)∧Gr w0 w∧∀ x,x ∈ Ks→¬ uS S b m B x.1∧w0.heap.size≤x.1∧Blk w x.1 x.2.1 x.2.2
end Go.Proofs.YtdmhemgepdknhaaGreat
namespace Go.Proofs.YtdmhemgepdknhaaGreat
open Go.RowKit Go.Maps
structure PF (T:List Int) (P:Pl) (s:St) (L:Lg):Prop where
 fi:FI T s L
 rng:∀ i,P.fr i≠none→19≤i∧i < 64
 inn:∀ i f,P.fr i=some f→f.In
section
variable {T:List Int} {P:Pl} {s:St} {L:Lg}
theorem wrGo_fi (P:Pl):∀ (xs:List Nat) (s:St) (L:Lg),FI T s L→(∀ i,i ∈ xs→∃ f,P.fr i=some f∧f.In∧19≤i)→FI T (P.wrGo xs s L).2.1 (P.wrGo xs s L).2.2
 | [],_,_,h,_=>h
 | i :: xs,s,L,h,hx=>by
  obtain ⟨f,hf,hin,h19⟩:=hx i (by simp);obtain ⟨h1,h2⟩:=h.fl f.lsn;rw [P.wrGo_cons hf]
  by_cases he:flE s L f.lsn≠0
  · rw [if_pos he];exact h1
  ·
   rw [if_neg he]
   by_cases hr:(flS s L f.lsn).refuses
   · rw [if_pos hr];exact h1.dead
   ·
    rw [if_neg hr]
    exact wrGo_fi P xs _ _ (h1.page h19 (by rw [lsnS_sec hin];exact h2 (Decidable.of_not_not he))) fun j hj=>hx j (List.mem_cons_of_mem _ hj)
theorem PF.wr (h:PF T P s L) (xs:List Nat):FI T (P.wr xs s L).2.1 (P.wr xs s L).2.2:=by
 unfold Pl.wr
 split
 · exact h.fi
 ·
  refine wrGo_fi P _ s L h.fi fun i hi=>?_
  have hc:=(List.mem_filter.1 hi).2
  unfold Pl.clean at hc
  cases e:P.fr i with
  | none=>rw [e] at hc;simp at hc
  | some f=>exact ⟨f,rfl,h.inn i f e,(h.rng i (by rw [e];exact Option.some_ne_none _)).1⟩
theorem PF.mr (h:PF T P s L):PF T (P.mr s L).2.1 (P.mr s L).2.2.1 (P.mr s L).2.2.2:=by
 unfold Pl.mr
 split
 · exact h
 ·
  obtain ⟨g,hg⟩:∃ g,g=goingL P.usd P.round P.many:=⟨_,rfl⟩;obtain ⟨sp,hsp⟩:∃ sp,sp=sparedL P.usd P.round P.many:=⟨_,rfl⟩;rw [← hg,← hsp];have k:=h.wr g
  split
  · exact ⟨k,h.rng,h.inn⟩
  ·
   have hfr:∀ i f,((P.off sp).leave g).fr i=some f→∃ f0,P.fr i=some f0∧f.pay=f0.pay∧f.lsn=f0.lsn∧f.first=f0.first:=fun i f hf=>by
    rw [Pl.leave_fr,Pl.off_fr] at hf
    split at hf
    · cases hf
    ·
     split at hf
     ·
      cases e:P.fr i with
      | none=>rw [e] at hf;cases hf
      | some f0=>rw [e] at hf;cases hf;exact ⟨f0,rfl,rfl,rfl,rfl⟩
     · exact ⟨f,hf,rfl,rfl,rfl⟩
   refine ⟨k,fun i hi=>?_,fun i f hf=>?_⟩
   ·
    cases e:((P.off sp).leave g).fr i with
    | none=>exact absurd e hi
    | some f=>
     obtain ⟨f0,h0,_⟩:=hfr i f e;exact h.rng i (by rw [h0];exact Option.some_ne_none _)
   · obtain ⟨f0,h0,e1,e2,e3⟩:=hfr i f hf;have hin:=h.inn i f0 h0;exact ⟨by rw [e1];exact hin.pay,by rw [e2];exact hin.l,by rw [e3];exact hin.f⟩
theorem PF.use (h:PF T P s L) {i:Nat} (hi:19≤i) (hi2:i < 64) {f:PFr} (hf:f.In):PF T (P.use i f) s L:=by
 refine ⟨h.fi,fun j hj=>?_,fun j g hj=>?_⟩
 ·
  rw [Pl.use_fr] at hj
  by_cases e:j=i
  · omega
  · rw [if_neg e] at hj;exact h.rng j hj
 ·
  rw [Pl.use_fr] at hj
  split at hj
  · cases hj;exact ⟨hf.pay,hf.l,hf.f⟩
  · exact h.inn j g hj
theorem PF.us (h:PF T P s L) {i:Nat} (hi:19≤i) (hi2:i < 64):PF T (P.us i s L).2.1 (P.us i s L).2.2.1 (P.us i s L).2.2.2:=by
 have hm:=h.mr
 unfold Pl.us
 split
 ·
  rename_i f hf
  exact h.use hi hi2 (h.inn i f hf)
 ·
  split
  · exact hm
  · exact hm.use hi hi2 (frS_in (secN_sec _))
theorem PF.gt (h:PF T P s L) {i:Int} (hi:19≤i):PF T (P.gt 64 i s L).2.1 (P.gt 64 i s L).2.2.1 (P.gt 64 i s L).2.2.2:=by
 unfold Pl.gt
 by_cases ha:askE 64 i≠0
 · rw [if_pos ha];exact h
 ·
  rw [if_neg ha];obtain ⟨h0,h1⟩:=askE_no (Decidable.of_not_not ha);have k:=h.us (i:=i.toNat) (by omega) (by omega)
  split <;> exact k
theorem PF.pt (h:PF T P s L) {i o:Int} {ys:List Int} {first lsn:Nat} (hi:19≤i) (hy:Wd.Small ys) (hl2:lsn≤18446744073709551615) (hf2:first≤18446744073709551615):PF T (P.pt 64 i o ys first lsn s L).2.1 (P.pt 64 i o ys first lsn s L).2.2.1 (P.pt 64 i o ys first lsn s L).2.2.2:=by
 unfold Pl.pt
 by_cases ha:askE 64 i≠0
 · rw [if_pos ha];exact h
 ·
  rw [if_neg ha];obtain ⟨h0,h1⟩:=askE_no (Decidable.of_not_not ha);have k:=h.us (i:=i.toNat) (by omega) (by omega)
  by_cases hb:o < 0∨248 - (ys.length:Int) < o∨lsn=0
  · rw [if_pos hb];exact h
  ·
   rw [if_neg hb]
   split
   · exact k
   ·
    cases hf:(P.us i.toNat s L).2.1.fr i.toNat with
    | none=>exact k
    | some f=>
     have hin:=k.inn _ f hf;refine ⟨k.fi,fun j hj=>?_,fun j g hj=>?_⟩
     ·
      by_cases e:j=i.toNat
      · omega
      ·
       have h2:(if j=i.toNat then some ({ f with pay:=Play f.pay o.toNat ys,lsn:=lsn,first:=if f.dirty then f.first else first,dirty:=true }:PFr) else (P.us i.toNat s L).2.1.fr j)≠none:=hj
       rw [if_neg e] at h2
       exact k.rng j h2
     ·
      have h2:(if j=i.toNat then some ({ f with pay:=Play f.pay o.toNat ys,lsn:=lsn,first:=if f.dirty then f.first else first,dirty:=true }:PFr) else (P.us i.toNat s L).2.1.fr j)=some g:=hj
      split at h2
      ·
       cases h2
       refine ⟨Play_sec hin.pay hy (by omega),hl2,?_⟩
       show (if f.dirty then f.first else first)≤_
       split
       · exact hin.f
       · exact hf2
      · exact k.inn j g h2
theorem PF.noted (h:PF T P s L) (page:Nat):∃ T',PF T' P s (L.noted page):=by
 obtain ⟨T',k⟩:=h.fi.noted page;exact ⟨T',k,h.rng,h.inn⟩
theorem PF.begin (n:Int) (x:Bool) (z:Int):PF [] (P0 n x) { zeroD with fuse:=z } L0:=⟨FI.begin z,fun i hi=>absurd rfl hi,fun i f hf=>by cases hf⟩
end
end Go.Proofs.YtdmhemgepdknhaaGreat
