/-
  Texts, put together: PoolDp11 PoolDp12 PoolDp13 PoolDp14 PoolDp15.
-/
import Derived.Test.YtdmhemgepdknhaaGreatV1
import Derived.Test.YtdmhemgepdknhaaGreatV15
import Derived.Test.YtdmhemgepdknhaaGreatV24
import Derived.Test.YtdmhemgepdknhaaGreatV28
import Derived.Test.YtdmhemgepdknhaaGreatV29
import Derived.Test.YtdmhemgepdknhaaGreatV36
set_option linter.unusedVariables false
set_option linter.unusedSimpArgs false
namespace Go.Proofs.YtdmhemgepdknhaaGreat
open Go.RowKit Go.Maps
def Pl.dgt (P:Pl) (ss:List Sec) (i:Int):(PSec × Nat × Int) × Pl × List Sec:=
 if i < 0∨(ss.length:Int)≤i then ((PSec.zero,0,2),P,ss) else
  (match (P.dfr ss i.toNat).1.fr i.toNat with | some f=>(PSx f.pay,f.lsn,0) | none=>(PSec.zero,0,0),P.dfr ss i.toNat)
def RetDp (v:Value) (P:Pl) (ss:List Sec) (b:Nat) (sv av:Value) (la:Nat) (w:World) (e:Ending) (w':World):Prop:=
 ∃ av' L',e=.returned v∧DpAt w' b sv av' P ss la L'∧Upd (dpS b sv av) (dpS b sv av') w w'
section
variable {w w':World} {b:Nat} {sv av av':Value} {P Q:Pl} {ss sq:List Sec} {la:Nat} {L M:List (Nat × PFr)}
theorem Row.sl {v:Value} {ss:List Sec} (h:Row w v ss):∃ p c,v=.slice p ss.length c:=by
 rcases h.form with ⟨rfl,rfl⟩ | ⟨g,c,rfl,_⟩
 · exact ⟨_,_,rfl⟩
 · exact ⟨_,_,rfl⟩
set_option maxRecDepth 100000 in
set_option maxHeartbeats 2000000 in
theorem dGet_any (h:DpAt w b sv av P ss la L) (i:Int) (hs:ss.length≤65536) (hin:∀ i,65536≤i→P.fr i=none) (hcl:Cl P ss) (hh : -1≤P.hand∧P.hand < 65536) (hm:1≤P.most∧P.most≤4096) :
  Calls Tryz.prog 12 #[.pointer (some ⟨b,0,none⟩),.int .i64 i] w (RetDp (gtV (P.dgt ss i).1) (P.dgt ss i).2.1 (P.dgt ss i).2.2 b sv av la w):=by
 obtain ⟨W1,hW1⟩:∃ W1,W1=w.alloc (.cells (Psec PSec.zero) PTS):=⟨_,rfl⟩;have HB:Hid (Blk W1 w.heap.size PTS (Psec PSec.zero)∧Gr w W1):=Lib.hid (by rw [hW1];exact ⟨Blk.new _ _ _,Gr.new _ _⟩);have HW1:=Lib.hid hW1.symm;have HH:=Lib.hid h;have H1:=Lib.hid (h.gr HB.out.2);have HLow:=Lib.hid h.low;obtain ⟨pS,sc,rfl⟩:=h.row.sl;have c0:=H1.out.cells.1;obtain ⟨Z,hZ⟩:∃ Z,Z=ss.length:=⟨_,rfl⟩
 rw [← hZ] at c0
 have HZ:=Lib.hid hZ;have hz:=Pzero_sec
 have HFr:Hid (∀ j:Nat,j < Z→i=(j:Int)→Calls Tryz.prog 42 #[.pointer (some ⟨b,0,none⟩),.int .i64 (j:Int)] W1 fun e w'=>∃ (g cap:Nat) (L':List (Nat × PFr)) (k:Nat) (f:PFr),e=.returned (.pointer (some ⟨g,k*253,none⟩))∧DpAt w' b (.slice pS ss.length sc) (.slice (some ⟨g,0,none⟩) L'.length cap) (P.dfr ss j).1 (P.dfr ss j).2 la L'∧L'[k]?=some (j,f)∧Upd (dpS b (.slice pS ss.length sc) av) (dpS b (.slice pS ss.length sc) (.slice (some ⟨g,0,none⟩) L'.length cap)) W1 w'):=Lib.hid fun j hj _=>dframe_any H1.out (by rw [← hZ];exact hj) hs hin hcl hh hm
 clear h hW1 hs hin hcl hh hm hZ
 go_enter Tryz.func12,Tryz.ntmps12
 go_upto_region 1 with fail
 rw [HW1.out]
 by_cases hbad:i < 0∨(Z:Int)≤i
 ·
  have HR:Hid (P.dgt ss i=((PSec.zero,0,2),P,ss)):=Lib.hid (by unfold Pl.dgt;rw [← HZ.out];exact if_pos hbad)
  have fin:Hid (∀ x:PSec,DpAt (W1.setRow w.heap.size (Psec x)) b (.slice pS ss.length sc) av P ss la L∧Upd (dpS b (.slice pS ss.length sc) av) (dpS b (.slice pS ss.length sc) av) w (W1.setRow w.heap.size (Psec x))):=Lib.hid fun x=>by
   have hg:Gr w (W1.setRow w.heap.size (Psec x)):=below_setRow HB.out.2 (Nat.le_refl _) _;exact ⟨HH.out.gr hg,Upd.of_gr hg⟩
  by_cases hn:i < 0
  ·
   have g1:decide (i < 0)=true:=decide_eq_true hn
   go_wp2_with (refine PwpList_store_x rfl (.tmp 4) (.tmp 19) rfl HB.out.1 rfl rfl ?_)
   rw [HR.out];exact bodyPost_ret (Presults_x3 rfl _ _ _ _ rfl (HB.out.1.row _)) rfl ⟨av,L,rfl,(fin.out _).1,(fin.out _).2⟩
  ·
   have g1:decide (i < 0)=false:=decide_eq_false hn;have g2:(Z:Int)≤i:=hbad.resolve_left hn;have g3:decide ((Z:Int)≤i)=true:=decide_eq_true g2
   go_wp2_with (refine PwpList_store_x rfl (.tmp 4) (.tmp 19) rfl HB.out.1 rfl rfl ?_)
   rw [HR.out];exact bodyPost_ret (Presults_x3 rfl _ _ _ _ rfl (HB.out.1.row _)) rfl ⟨av,L,rfl,(fin.out _).1,(fin.out _).2⟩
 ·
  have HR:Hid (P.dgt ss i=(match (P.dfr ss i.toNat).1.fr i.toNat with | some f=>(PSx f.pay,f.lsn,0) | none=>(PSec.zero,0,0),P.dfr ss i.toNat)):=Lib.hid (by unfold Pl.dgt;rw [← HZ.out];exact if_neg hbad)
  have hn:¬ i < 0:=fun e=>hbad (.inl e)
  have g2:¬ (Z:Int)≤i:=fun e=>hbad (.inr e)
  obtain ⟨j,hj⟩:∃ j:Nat,i=(j:Int):=⟨i.toNat,by omega⟩;have HC:=Lib.hid (HFr.out j (by omega) hj);have HJ:=Lib.hid hj;have g1:decide (i < 0)=false:=decide_eq_false hn;have g3:decide ((Z:Int)≤i)=false:=decide_eq_false g2;clear hbad HFr hj;go_wp2_with fail;rw [HJ.out];refine HC.out.mono ?_;rintro e w2 ⟨g,cap,L',k,f,rfl,hd,hk,hu⟩
  have hff:=hd.rl.at hk
  have HR2:Hid (P.dgt ss i=((PSx f.pay,f.lsn,0),P.dfr ss j)):=Lib.hid (by
   rw [HR.out,HJ.out,show ((j:Int)).toNat=j from rfl]
   rw [show (P.dfr ss j).1.fr j=some f from hff])
  have hW1s:W1.heap.size=w.heap.size+1:=by rw [← HW1.out,World.size_alloc]
  have hnd:∀ q,dpS b (.slice pS ss.length sc) (.slice (some ⟨g,0,none⟩) L'.length cap) q→q≠w.heap.size:=fun q hq e=>by
   rcases hu.fresh q hq with h4 | h4
   · have:=HLow.out q h4;omega
   · omega
  have HNd:=Lib.hid hnd;have hgq:g≠w.heap.size:=hnd g (.inr (.inr rfl));have hb2:Blk w2 w.heap.size PTS (Psec PSec.zero):=HB.out.1.stays (hu.block _ (by omega) fun e=>by have:=HLow.out _ e;omega)
  have HBq:Hid (∀ W,Gr w2 W→Blk W w.heap.size PTS (Psec PSec.zero)∧W.rangeAt g (k*253+1) (PSx f.pay).cells∧W.cell? ⟨g,k*253+249,none⟩=some (.int .u64 (f.lsn:Int))):=Lib.hid fun W gw=>
   ⟨hb2.gr gw,(hd.gr gw).frk.2.pay hk,((hd.gr gw).frk.2.cells hk).2.1⟩
  have hbq:=(HBq.out _ (Gr.refl w2).drew).1;have hS0:w2.drew.rangeAt g (k*253+1) (PSx f.pay).cells∧w2.drew.cell? ⟨g,k*253+249,none⟩=some (.int .u64 (f.lsn:Int))∧w2.drew.there w.heap.size 0 248:=⟨(HBq.out _ (Gr.refl w2).drew).2.1,(HBq.out _ (Gr.refl w2).drew).2.2,fun j hj=>⟨by rw [hbq.cell];simp [Psec_size,hj],hbq.frozen _⟩⟩
  have hS3:(w2.drew.setCells w.heap.size 0 (PSx f.pay).cells).rangeAt g (k*253+1) (PSx f.pay).cells∧(w2.drew.setCells w.heap.size 0 (PSx f.pay).cells).cell? ⟨g,k*253+249,none⟩=some (.int .u64 (f.lsn:Int))∧(w2.drew.setCells w.heap.size 0 (PSx f.pay).cells).there w.heap.size 0 248:=by
   have h1:∀ o,(w2.drew.setCells w.heap.size 0 (PSx f.pay).cells).cell? ⟨g,o,none⟩=w2.drew.cell? ⟨g,o,none⟩:=fun o=>World.cell?_of_block (setCells_other hgq _ _ _)
   exact ⟨fun j v hv=>(h1 _).trans (hS0.1 j v hv),(h1 _).trans hS0.2.1,World.there_setCells hS0.2.2 _ _ _⟩
  have hus:=Punder_sec
  have hsz:(Tryz.prog.info? PTS).map (·.size)=some (PSx f.pay).cells.length:=by rw [PSec.cells_len];exact Psize_sec
  have hcl:=(PSx f.pay).cells_len;have hco:=(PSx f.pay).one;have HD:=Lib.hid hd;have HU:=Lib.hid hu;clear hd hu hk hff hW1s hnd hgq hb2;go_wp2_with fail
  go_region_held3 (fun V=>V.rangeAt g (k*253+1) (PSx f.pay).cells∧V.cell? ⟨g,k*253+249,none⟩=some (.int .u64 (f.lsn:Int))∧V.there w.heap.size 0 248) (first | exact hS0 | exact hS3) (fail)
  all_goals
   go_wp2_with fail;rw [HR2.out];have ho:=Onc.cells w.heap.size w2.drew 0 (PSx f.pay).cells;refine bodyPost_ret (Presults_x3 rfl _ _ _ _ rfl (hbq.whole (PSx f.pay).cells (by rw [hcl,Psec_size]))) rfl ⟨_,L',rfl,(HD.out.gr (Gr.refl w2).drew).stays fun q hq=>ho.block q (HNd.out q hq),?_⟩;exact (((Upd.of_gr HB.out.2).comp HU.out).more (Gr.refl w2).drew).cells (Nat.le_refl _) _
end
end Go.Proofs.YtdmhemgepdknhaaGreat
namespace Go.Proofs.YtdmhemgepdknhaaGreat
open Go.RowKit Go.Maps
def dssW (P:Pl) (ss:List Sec) (xs:List Nat):List Sec:=xs.foldl (fun s g=>ssO P s g) ss
theorem dssW_snoc (P:Pl) (ss:List Sec) (xs:List Nat) (g:Nat):dssW P ss (xs++[g])=ssO P (dssW P ss xs) g:=by
 unfold dssW
 rw [List.foldl_append]
 rfl
theorem dssW_len (P:Pl):∀ (xs:List Nat) (ss:List Sec),(dssW P ss xs).length=ss.length
 | [],_=>rfl
 | g :: xs,ss=>(dssW_len P xs (ssO P ss g)).trans (ssO_len P ss g)
def Pl.dwt (P:Pl) (ss:List Sec) (i:Int):Int × Pl × List Sec:=
 if i < 0∨(ss.length:Int)≤i then (2,P,ss) else (0,P.wrote [i.toNat],ssO P ss i.toNat)
section
variable {w w':World} {b:Nat} {sv av av':Value} {P Q:Pl} {ss sq:List Sec} {la:Nat} {L M:List (Nat × PFr)}
theorem wrote_one_none {p:Nat} (h:P.fr p=none):P.wrote [p]=P∧ssO P ss p=ss:=by
 have h1:=P.wrote_snoc [] p
 rw [Pl.wrote_nil,h,List.nil_append] at h1
 exact ⟨h1,by unfold ssO;rw [h]⟩
theorem wrote_one_some {p:Nat} {f:PFr} (h:P.fr p=some f):P.put p { f with dirty:=false }=P.wrote [p]:=by
 have h1:=P.wrote_snoc [] p
 rw [Pl.wrote_nil,h,List.nil_append] at h1
 exact h1.symm
theorem dat_no (h:DpAt w b sv av P ss la L) {p:Nat} (hf:P.fr p=none):Calls Tryz.prog 46 #[.pointer (some ⟨b,0,none⟩),.int .i64 (p:Int)] w fun e w'=>e=.returned (.int .i64 (-1))∧w'=w:=by
 refine (dat_any h (p:Int)).mono ?_;rintro e w' ⟨rfl,⟨k2,x,hx,he,rfl⟩ | ⟨hn,rfl⟩⟩
 ·
  have h3:=h.rl.at hx
  rw [show x.1=p by omega,hf] at h3
  cases h3
 · exact ⟨rfl,rfl⟩
theorem wrote_dirty (P:Pl):P.wrote P.pages=P.wrote P.dirty:=by
 have hd:∀ j,j ∈ P.dirty ↔ j ∈ P.pages∧P.clean j=false:=fun j=>by
  unfold Pl.dirty
  rw [List.mem_filter]
  simp
 generalize P.dirty=ds at hd ⊢
 generalize P.pages=ps at hd ⊢
 refine Pl.same rfl rfl rfl (funext fun j=>?_)
 show (if j ∈ ps then (P.fr j).map fun f=>{ f with dirty:=false } else P.fr j)=(if j ∈ ds then (P.fr j).map fun f=>{ f with dirty:=false } else P.fr j)
 by_cases h1:j ∈ ps
 ·
  rw [if_pos h1]
  by_cases h2:P.clean j=false
  · rw [if_pos ((hd j).2 ⟨h1,h2⟩)]
  ·
   rw [if_neg fun h=>h2 ((hd j).1 h).2]
   unfold Pl.clean at h2
   cases e:P.fr j with
   | none=>rfl
   | some f=>
    rw [e] at h2
    cases f
    simp only [Bool.not_eq_false] at h2
    simp_all
 · rw [if_neg h1,if_neg fun h=>h1 ((hd j).1 h).1]
set_option maxRecDepth 100000 in
set_option maxHeartbeats 2000000 in
theorem dWrite_any (h:DpAt w b sv av P ss la L) (i:Int) (hcl:Cl P ss) :
  Calls Tryz.prog 17 #[.pointer (some ⟨b,0,none⟩),.int .i64 i] w (RetDp (.int .i64 (P.dwt ss i).1) (P.dwt ss i).2.1 (P.dwt ss i).2.2 b sv av la w):=by
 have HH:=Lib.hid h;have HCl:=Lib.hid hcl;obtain ⟨pS,sc,rfl⟩:=h.row.sl;have c0:=h.cells.1;have c1:=h.cells.2.1;obtain ⟨Z,hZ⟩:∃ Z,Z=ss.length:=⟨_,rfl⟩
 rw [← hZ] at c0
 have HZ:=Lib.hid hZ;clear h hcl hZ
 go_enter Tryz.func17,Tryz.ntmps17
 by_cases hbad:i < 0∨(Z:Int)≤i
 ·
  have HR:Hid (P.dwt ss i=(2,P,ss)):=Lib.hid (by unfold Pl.dwt;rw [← HZ.out];exact if_pos hbad)
  by_cases hn:i < 0
  ·
   have g1:decide (i < 0)=true:=decide_eq_true hn;go_wp2_with fail
   go_ret
   rw [HR.out];exact ⟨av,L,rfl,HH.out,Upd.of_gr (Gr.refl _)⟩
  ·
   have g1:decide (i < 0)=false:=decide_eq_false hn;have g2:(Z:Int)≤i:=hbad.resolve_left hn;have g3:decide ((Z:Int)≤i)=true:=decide_eq_true g2;go_wp2_with fail
   go_ret
   rw [HR.out];exact ⟨av,L,rfl,HH.out,Upd.of_gr (Gr.refl _)⟩
 ·
  have HR:Hid (P.dwt ss i=(0,P.wrote [i.toNat],ssO P ss i.toNat)):=Lib.hid (by unfold Pl.dwt;rw [← HZ.out];exact if_neg hbad)
  have hn:¬ i < 0:=fun e=>hbad (.inl e)
  have g2:¬ (Z:Int)≤i:=fun e=>hbad (.inr e)
  obtain ⟨j,rfl⟩:∃ j:Nat,i=(j:Int):=⟨i.toNat,by omega⟩
  have hjZ:j < Z:=by omega
  have g1:decide ((j:Int) < 0)=false:=decide_eq_false hn;have g3:decide ((Z:Int)≤(j:Int))=false:=decide_eq_false g2
  rw [show ((j:Int)).toNat=j from rfl] at HR
  clear hbad
  cases hf:P.fr j with
  | none=>
   have HA:=Lib.hid (dat_no HH.out hf);have HE:=Lib.hid (wrote_one_none (ss:=ss) hf);clear hf;go_wp2_with fail;refine HA.out.mono ?_;rintro e w1 ⟨rfl,rfl⟩;go_wp2_with fail
   go_ret
   rw [HR.out];refine ⟨av,L,rfl,?_,Upd.of_gr (Gr.refl _)⟩
   show DpAt _ b _ av (P.wrote [j]) (ssO P ss j) la L
   rw [HE.out.1,HE.out.2];exact HH.out
  | some f=>
   obtain ⟨k,hk⟩:=HH.out.stands hf
   obtain ⟨g,cap,hav,hfr⟩:∃ g cap,av=.slice (some ⟨g,0,none⟩) L.length cap∧FRk w g cap L:=by
    rcases HH.out.all.look with ⟨_,h2⟩ | h2
    · rw [h2] at hk;simp at hk
    · exact h2
   subst hav;have HA:=Lib.hid (dat_yes HH.out hk);obtain ⟨k1,k2⟩:=HCl.out.inn j f hf;have HO:=Lib.hid (dout_any HH.out hk k1 k2);have HE:=Lib.hid (wrote_one_some hf);have hkl:=(List.getElem?_eq_some_iff.1 hk).1;obtain ⟨N,hN⟩:∃ N,N=L.length:=⟨_,rfl⟩
   rw [← hN] at c1 hkl
   have hkN:(k:Int) < (N:Int):=by omega
   have hk0:(0:Int)≤(k:Int):=by omega
   clear hf hk hfr k1 k2 hN;go_wp2_with fail;refine HA.out.mono ?_;rintro e w1 ⟨rfl,rfl⟩;go_wp2_with fail;refine HO.out.mono ?_;rintro e w2 ⟨rfl,hd,hu⟩;have HD:=Lib.hid hd;have HU:=Lib.hid hu;clear hd hu;go_wp2_with fail
   go_ret
   rw [HR.out];refine ⟨.slice (some ⟨g,0,none⟩) L.length cap,L.set k (j,{ f with dirty:=false }),rfl,?_,HU.out⟩
   show DpAt _ b _ _ (P.wrote [j]) (ssO P ss j) la _
   rw [← HE.out];exact HD.out
end
end Go.Proofs.YtdmhemgepdknhaaGreat
namespace Go.Proofs.YtdmhemgepdknhaaGreat
open Go.RowKit Go.Maps
section
variable {w w':World} {b:Nat} {sv av av':Value} {P Q:Pl} {ss sq:List Sec} {la:Nat} {L M:List (Nat × PFr)}
theorem wrote_pages (P:Pl) (xs:List Nat):(P.wrote xs).pages=P.pages:=Pl.pages_is _ P.pages_rise fun i=>by
 rw [P.mem_pages,Ne,Ne,P.wrote_none xs i]
theorem DpAt.wroteNext {g cap N k:Nat} (h:DpAt w b sv (.slice (some ⟨g,0,none⟩) N cap) (P.wrote (P.pages.take k)) (dssW P ss (P.pages.take k)) la L) (hl:L.length=N) (hk:k < N) (hin:∀ i,65536≤i→P.fr i=none) (hcl:Cl P ss) :
  Calls Tryz.prog 47 #[.pointer (some ⟨b,0,none⟩),.pointer (some ⟨g,k*253,none⟩)] w fun e w'=>e=.returned (.tuple #[])∧(∃ L',DpAt w' b sv (.slice (some ⟨g,0,none⟩) N cap) (P.wrote (P.pages.take (k+1))) (dssW P ss (P.pages.take (k+1))) la L'∧L'.length=N)∧Upd (dpS b sv (.slice (some ⟨g,0,none⟩) N cap)) (dpS b sv (.slice (some ⟨g,0,none⟩) N cap)) w w':=by
 obtain ⟨x,hx⟩:∃ x,L[k]?=some x:=⟨L[k]'(by omega),List.getElem?_eq_getElem _⟩
 have hin':∀ i,65536≤i→(P.wrote (P.pages.take k)).fr i=none:=fun i hi=>(P.wrote_none _ i).2 (hin i hi)
 have hpg:P.pages.getD k 0=x.1:=by
  have h1:=h.rl.page hin' hx
  rwa [wrote_pages] at h1
 have hpl:P.pages.length=N:=by
  have h1:=h.rl.len hin'
  rw [wrote_pages] at h1
  omega
 have hfr:=h.rl.at hx
 have hnd:P.pages.Nodup:=P.pages_rise.imp fun h=>by omega
 have hnot:x.1 ∉ P.pages.take k:=fun hm=>by
  obtain ⟨q,hq⟩:=List.mem_iff_getElem?.1 hm
  rw [List.getElem?_take] at hq
  split at hq
  ·
   rename_i hqk
   obtain ⟨h5,h6⟩:=List.getElem?_eq_some_iff.1 hq
   have h7:P.pages.getD k 0=P.pages[k]'(by omega):=by simp [List.getD,show k < P.pages.length by omega]
   have h8:=(List.getElem_inj hnd (h₀:=h5) (h₁:=(by omega:k < P.pages.length))).1 (by rw [h6,← hpg,h7])
   omega
  · cases hq
 have hP:P.fr x.1=some x.2:=by
  have h1:(P.wrote (P.pages.take k)).fr x.1=if x.1 ∈ P.pages.take k then (P.fr x.1).map fun f=>{ f with dirty:=false } else P.fr x.1:=rfl
  rw [if_neg hnot,hfr] at h1
  exact h1.symm
 obtain ⟨k1,k2⟩:=hcl.inn x.1 x.2 hP
 have e1:P.pages.take (k+1)=P.pages.take k++[x.1]:=by rw [take_succ_getD (by omega),hpg]
 have e2:P.wrote (P.pages.take (k+1))=(P.wrote (P.pages.take k)).put x.1 { x.2 with dirty:=false }:=by
  rw [e1,P.wrote_snoc,hfr]
 have e3:dssW P ss (P.pages.take (k+1))=ssO (P.wrote (P.pages.take k)) (dssW P ss (P.pages.take k)) x.1:=by
  rw [e1,dssW_snoc]
  unfold ssO
  rw [hfr,hP]
 rw [e2,e3,← hl]
 rw [← hl] at h
 refine (dout_any h hx k1 (by rw [dssW_len];exact k2)).mono ?_;rintro e w' ⟨rfl,h1,h2⟩;exact ⟨rfl,⟨_,h1,by rw [List.length_set]⟩,h2⟩
set_option maxRecDepth 100000 in
set_option maxHeartbeats 2000000 in
theorem dWriteAll_any (h:DpAt w b sv av P ss la L) (hin:∀ i,65536≤i→P.fr i=none) (hcl:Cl P ss) :
  Calls Tryz.prog 19 #[.pointer (some ⟨b,0,none⟩)] w (RetDp (.int .i64 0) (P.wrote P.dirty) (dssW P ss P.pages) b sv av la w):=by
 have hpl:=h.rl.len hin;obtain ⟨pA,cA,rfl⟩:=h.all.shape;obtain ⟨N,hN⟩:∃ N,N=L.length:=⟨_,rfl⟩;have hN6:=h.len
 rw [← hN] at h hpl hN6
 have HPl:Hid (P.pages.length=N):=Lib.hid hpl;have H0:Hid (∃ L',DpAt w b sv (.slice pA N cA) (P.wrote (P.pages.take 0)) (dssW P ss (P.pages.take 0)) la L'∧L'.length=N∧Upd (dpS b sv (.slice pA N cA)) (dpS b sv (.slice pA N cA)) w w):=Lib.hid ⟨L,by rw [List.take_zero,Pl.wrote_nil];exact h,hN.symm,Upd.of_gr (Gr.refl _)⟩;have HIn:=Lib.hid hin;have HCl:=Lib.hid hcl;clear h hpl hin hcl;rw [← hN];clear hN
 go_enter Tryz.func19,Tryz.ntmps19
 go_wp2_with fail
 go_loopw [3] (fun iv wr=>∃ k:Nat,k≤N∧iv=.int .i64 (k:Int)∧Hid (∃ L',DpAt wr b sv (.slice pA N cA) (P.wrote (P.pages.take k)) (dssW P ss (P.pages.take k)) la L'∧L'.length=N∧Upd (dpS b sv (.slice pA N cA)) (dpS b sv (.slice pA N cA)) w wr)) (fun iv _=>N - (intOf iv).toNat)
 case atStart=>exact ⟨0,Nat.zero_le _,rfl,H0⟩
 case round=>
  obtain ⟨k,hk,rfl,HJ⟩:=hrel;obtain ⟨L',hd,hl,hu⟩:=HJ.out;have c1:=hd.cells.2.1;have HU:=Lib.hid hu
  by_cases hlt:k < N
  ·
   obtain ⟨g,cap,hav⟩:∃ g cap,(Value.slice pA N cA)=.slice (some ⟨g,0,none⟩) N cap:=by
    rcases hd.all.look with ⟨_,h2⟩ | ⟨g,cap,h2,_⟩
    · rw [h2] at hl;simp at hl;omega
    · exact ⟨g,cap,by rw [h2,hl]⟩
   cases hav
   have HO:=Lib.hid (hd.wroteNext hl hlt HIn.out HCl.out)
   have g3:(k:Int) < (N:Int):=by omega
   have hk0:(0:Int)≤(k:Int):=by omega
   have hw:IntKind.i64.wrap ((k:Int)+1)=((k+1:Nat):Int):=by rw [IntWalk.i64_in _ (by omega)];omega
   clear hd hl hu;go_wp2_with fail;refine HO.out.mono ?_;rintro e w2 ⟨rfl,⟨L2,h1,h2⟩,h3⟩;have HN:=Lib.hid (And.intro h1 (And.intro h2 (HU.out.comp h3)));clear h1 h2 h3;go_wp2_with fail;exact ⟨⟨k+1,by omega,by go_num,Lib.hid ⟨L2,HN.out⟩⟩,by simp [intOf];omega⟩
  ·
   have g3:¬ (k:Int) < (N:Int):=by omega
   obtain rfl:k=N:=by omega
   have e1:P.pages.take k=P.pages:=by rw [← HPl.out,List.take_length]
   have HD:=Lib.hid hd
   rw [e1,wrote_dirty] at HD
   clear hd hl hu;go_wp2_with fail
   go_ret
   exact ⟨.slice pA k cA,L',rfl,HD.out,HU.out⟩
end
end Go.Proofs.YtdmhemgepdknhaaGreat
namespace Go.Proofs.YtdmhemgepdknhaaGreat
open Go.RowKit Go.Maps
section
variable {w w':World} {b:Nat} {sv av av':Value} {P Q:Pl} {ss sq:List Sec} {la:Nat} {L M:List (Nat × PFr)}
def Pl.dk (P:Pl) (k:Nat):List Nat:=(P.pages.take k).filter fun i => !P.clean i
theorem Pl.dk_succ (P:Pl) {k:Nat} (h:k < P.pages.length) {f:PFr} (hf:P.fr (P.pages.getD k 0)=some f):P.dk (k+1)=if f.dirty then P.dk k++[P.pages.getD k 0] else P.dk k:=by
 unfold Pl.dk
 rw [take_succ_getD h,List.filter_append]
 have hc:P.clean (P.pages.getD k 0) = !f.dirty:=by unfold Pl.clean;rw [hf]
 generalize P.pages.getD k 0=y at hc ⊢
 cases hd:f.dirty with
 | true=>rw [hd] at hc;simp [hc]
 | false=>rw [hd] at hc;simp [hc]
theorem Pl.dk_all (P:Pl) {k:Nat} (h:P.pages.length=k):P.dk k=P.dirty:=by
 unfold Pl.dk Pl.dirty
 rw [← h,List.take_length]
set_option maxRecDepth 100000 in
set_option maxHeartbeats 2000000 in
theorem dDirty_any (h:DpAt w b sv av P ss la L) (hin:∀ i,65536≤i→P.fr i=none) :
  Calls Tryz.prog 23 #[.pointer (some ⟨b,0,none⟩)] w fun e w'=>RetLoose P.dirty w e w':=by
 have hpl:=h.rl.len hin;obtain ⟨pA,cA,rfl⟩:=h.all.shape;obtain ⟨N,hN⟩:∃ N,N=L.length:=⟨_,rfl⟩;have hN6:=h.len
 have HC:Hid (∀ V,Gr w V→V.cell? ⟨b,1,none⟩=some (.slice pA N cA)):=Lib.hid fun V gv=>by
  rw [hN];exact (h.gr gv).cells.2.1
 have HPg:Hid (∀ k,k < N→∃ (g:Nat) (f:PFr),pA=some ⟨g,0,none⟩∧P.fr (P.pages.getD k 0)=some f∧∀ V,Gr w V→V.cell? ⟨g,k*253,none⟩=some (.int .i64 ((P.pages.getD k 0:Nat):Int))∧V.cell? ⟨g,k*253+251,none⟩=some (.bool f.dirty)):=Lib.hid fun k hk=>by
  obtain ⟨x,hx⟩:∃ x,L[k]?=some x:=⟨L[k]'(by omega),List.getElem?_eq_getElem _⟩
  rcases h.all.look with ⟨_,h2⟩ | ⟨g,cap,h2,h3⟩
  · rw [h2] at hx;simp at hx
  ·
   cases h2
   refine ⟨g,x.2,rfl,by rw [h.rl.page hin hx];exact h.rl.at hx,fun V gv=>?_⟩;have h4:=(h3.on (gv.block g h3.lt)).cells (p:=x.1) (f:=x.2) hx;rw [h.rl.page hin hx];exact ⟨h4.1,h4.2.2.2.1⟩
 rw [← hN] at hpl hN6
 have HPl:=Lib.hid hpl;have HI:Hid (Gr w w∧Ints w w.heap.size (.slice none 0 0) (P.dk 0)):=Lib.hid ⟨Gr.refl _,World.ownsRow_nil _ _ _ _⟩;clear h hin hpl hN
 go_enter Tryz.func23,Tryz.ntmps23
 go_wp2_with fail
 go_loopw [3,4] (fun l iv wr=>∃ (k:Nat) (pl:Option Addr) (ml cl:Nat),k≤N∧iv=.int .i64 (k:Int)∧l=.slice pl ml cl∧Hid (Gr w wr∧Ints wr w.heap.size (.slice pl ml cl) (P.dk k))) (fun _ iv _=>N - (intOf iv).toNat)
 case atStart=>exact ⟨0,none,0,0,Nat.zero_le _,rfl,rfl,HI⟩
 case round=>
  obtain ⟨k,pl,ml,cl,hk,rfl,rfl,HJ⟩:=hrel;have c1:=HC.out wr HJ.out.1
  by_cases hlt:k < N
  ·
   obtain ⟨g,f,rfl,hf,hg⟩:=HPg.out k hlt;obtain ⟨c2,c3⟩:=hg wr HJ.out.1;have hs:=P.dk_succ (by rw [HPl.out];exact hlt) hf;obtain ⟨q,hq⟩:∃ q,q=P.pages.getD k 0:=⟨_,rfl⟩
   rw [← hq] at c2 hs
   have HS:=Lib.hid hs
   have g3:(k:Int) < (N:Int):=by omega
   have hk0:(0:Int)≤(k:Int):=by omega
   have hw:IntKind.i64.wrap ((k:Int)+1)=((k+1:Nat):Int):=by rw [IntWalk.i64_in _ (by omega)];omega
   have HLen:Hid ((P.dk k).length≤1000000):=Lib.hid (by
    unfold Pl.dk
    have h1:=List.length_filter_le (fun i => !P.clean i) (P.pages.take k)
    rw [List.length_take] at h1
    omega)
   clear hf hg hs hq
   cases hd:f.dirty with
   | true=>
    rw [hd] at c3
    rw [hd] at HS
    have HTw:Hid (Gr w (wr.alloc (.cells #[.int .i64 (q:Int)] TI))∧Ints (wr.alloc (.cells #[.int .i64 (q:Int)] TI)) w.heap.size (.slice pl ml cl) (P.dk k)∧(wr.alloc (.cells #[.int .i64 (q:Int)] TI)).cell? ⟨wr.heap.size,0,none⟩=some (.int .i64 (q:Int))∧w.heap.size≤(wr.alloc (.cells #[.int .i64 (q:Int)] TI)).heap.size):=Lib.hid
     ⟨Gr.trans HJ.out.1 (Gr.new _ _),HJ.out.2.gr (Gr.new _ _),(Blk.new wr TI #[.int .i64 (q:Int)]).cell 0,(Gr.trans HJ.out.1 (Gr.new _ _)).size⟩
    go_wp2_with (at_builtin;refine wpList_app_int2 rfl (.tmp 22) (.tmp 31) rfl rfl HTw.out.2.1 rfl HTw.out.2.2.1 HLen.out HTw.out.2.2.2 ?_;intro v' w' k1 k2 k3;obtain ⟨p2,cc2,rfl⟩:=Ints.shape k1)
    refine ⟨⟨k+1,_,_,_,by omega,by go_num,rfl,Lib.hid ⟨?_,?_⟩⟩,by simp [intOf];omega⟩
    · have h2:=HTw.out.1;have hlt2:=World.ownsRow.lt HTw.out.2.1;exact ⟨k2.os.trans h2.os,k2.tape.trans h2.tape,k2.output.trans h2.output,Nat.le_trans h2.size k2.size,fun q hq=>(k2.block q (Nat.lt_of_lt_of_le hq h2.size) (fun e=>by have:=(hlt2 q e.symm).1;omega)).trans (h2.block q hq)⟩
    ·
     rw [HS.out,if_pos rfl];have k9:=k1
     rw [List.length_append] at k9
     exact k9
   | false=>
    rw [hd] at c3
    rw [hd] at HS
    go_wp2_with fail;refine ⟨⟨k+1,_,_,_,by omega,by go_num,rfl,Lib.hid ⟨HJ.out.1,?_⟩⟩,by simp [intOf];omega⟩;rw [HS.out,if_neg (by simp)];exact HJ.out.2
  ·
   have g3:¬ (k:Int) < (N:Int):=by omega
   obtain rfl:k=N:=by omega
   have HE:Hid (P.dk k=P.dirty):=Lib.hid (P.dk_all HPl.out)
   rw [HE.out] at HJ
   go_wp2_with fail
   go_ret
   exact ⟨_,rfl,HJ.out.2,HJ.out.1⟩
end
end Go.Proofs.YtdmhemgepdknhaaGreat
namespace Go.Proofs.YtdmhemgepdknhaaGreat
open Go.RowKit Go.Maps

section
variable {w w':World} {b:Nat} {sv av av':Value} {P Q:Pl} {ss sq:List Sec} {la:Nat} {L M:List (Nat × PFr)}
/-- The least first change of these. -/
def Pl.lst (P:Pl) (xs:List Nat):Nat:=if xs=[] then 0 else P.leastTo xs xs.length
theorem Pl.lst_snoc (P:Pl) (xs:List Nat) (q:Nat):P.lst (xs++[q])=if xs=[] then P.fst q else min (P.lst xs) (P.fst q):=by
  unfold Pl.lst
  rw [if_neg (by simp)]
  by_cases h:xs=[]
  · subst h
    rw [if_pos rfl]
    unfold Pl.leastTo
    simp
  · rw [if_neg h,if_neg h]
    unfold Pl.leastTo
    rw [List.take_length,List.take_length,List.foldl_append]
    cases xs with
    | nil=>exact absurd rfl h
    | cons a r=>rfl
def fdZ:List Value:=Value.int .i64 0 :: (frZ++[Value.int .u64 0,Value.int .u64 0,Value.bool false,Value.bool false])
theorem fdZ_len:fdZ.length=253:=by simp [fdZ,frZ_len]
theorem zero_fd (w:World):(zeroValue TFd).run Tryz.prog w=.ok (.agg fdZ.toArray) w:=
  (zero_of_info (n:=253) (show (Tryz.prog.info? TFd).map (fun i=>(i.zero,i.size))=some (some (.agg fdZ.toArray),253) by kernel_rfl)).1 w
set_option maxRecDepth 100000 in
set_option maxHeartbeats 2000000 in
theorem dFirst_any (h:DpAt w b sv av P ss la L) (hin:∀ i,65536≤i→P.fr i=none) (hcl:Cl P ss) :
    Calls Tryz.prog 27 #[.pointer (some ⟨b,0,none⟩)] w fun e w'=>e=.returned (.tuple #[.int .u64 (P.least:Int),.bool (!P.dirty.isEmpty)])∧Gr w w':=by
  have hpl:=h.rl.len hin
  obtain ⟨pA,cA,rfl⟩:=h.all.shape
  obtain ⟨N,hN⟩:∃ N,N=L.length:=⟨_,rfl⟩
  have hN6:=h.len
  have HC:Hid (∀ V,Gr w V→V.cell? ⟨b,1,none⟩=some (.slice pA N cA)):=Lib.hid fun V gv=>by
    rw [hN]
    exact (h.gr gv).cells.2.1
  have HPg:Hid (∀ k,k < N→∃ (g:Nat) (x:Nat × PFr),pA=some ⟨g,0,none⟩∧x.1=P.pages.getD k 0∧P.fr (P.pages.getD k 0)=some x.2∧x.2.first < 18446744073709551616∧∀ V,Gr w V→V.rangeAt g (k*253) (fdC x)):=Lib.hid fun k hk=>by
    obtain ⟨x,hx⟩:∃ x,L[k]?=some x:=⟨L[k]'(by omega),List.getElem?_eq_getElem _⟩
    rcases h.all.look with ⟨_,h2⟩ | ⟨g,cap,h2,h3⟩
    · rw [h2] at hx;simp at hx
    · cases h2
      have hf:=h.rl.at hx
      have:=(hcl.inn _ _ hf).1.f
      exact ⟨g,x,rfl,(h.rl.page hin hx).symm,by rw [h.rl.page hin hx];exact hf,by omega,fun V gv=>(h3.on (gv.block g h3.lt)).range hx⟩
  rw [← hN] at hpl hN6
  have HPl:=Lib.hid hpl
  have hz:=zero_fd
  have HG0:Hid (Gr w w):=Lib.hid (Gr.refl _)
  clear h hin hpl hN hcl
  go_enter Tryz.func27,Tryz.ntmps27
  go_wp2_with fail
  go_loopw [4,5,6] (fun nv sv2 iv wr=>∃ (k n:Nat) (y:Bool),k≤N∧nv=.int .u64 (n:Int)∧sv2=.bool y∧iv=.int .i64 (k:Int)∧Hid (n=P.lst (P.dk k)∧y = !(P.dk k).isEmpty)∧Hid (Gr w wr)) (fun _ _ iv _=>N - (intOf iv).toNat)
  case atStart=>exact ⟨0,0,false,Nat.zero_le _,rfl,rfl,rfl,Lib.hid ⟨rfl,rfl⟩,HG0⟩
  case round=>
    obtain ⟨k,n,y,hk,rfl,rfl,rfl,HJ,HG⟩:=hrel
    have c1:=HC.out wr HG.out
    by_cases hlt:k < N
    · obtain ⟨g,x,rfl,hx1,hf,hx3,hg⟩:=HPg.out k hlt
      have HRg:=Lib.hid (hg wr HG.out)
      have hs:=P.dk_succ (by rw [HPl.out];exact hlt) hf
      have hfs:P.fst x.1=x.2.first:=by unfold Pl.fst;rw [hx1,hf]
      rw [← hx1] at hs
      have HS:=Lib.hid (And.intro hs hfs)
      have g3:(k:Int) < (N:Int):=by omega
      have hk0:(0:Int)≤(k:Int):=by omega
      have hw:IntKind.i64.wrap ((k:Int)+1)=((k+1:Nat):Int):=by rw [IntWalk.i64_in _ (by omega)];omega
      obtain ⟨W2,hW2⟩:∃ W2,W2=(wr.alloc (.cells fdZ.toArray TFd)).setRow wr.heap.size (fdC x).toArray:=⟨_,rfl⟩
      have HW2:=Lib.hid hW2.symm
      have HB0:Hid (Blk (wr.alloc (.cells fdZ.toArray TFd)) wr.heap.size TFd fdZ.toArray):=Lib.hid (Blk.new _ _ _)
      have hb2:Blk W2 wr.heap.size TFd (fdC x).toArray:=by rw [hW2];exact HB0.out.row _
      have HG2:Hid (Gr w W2):=Lib.hid (by
        rw [hW2]
        exact below_setRow (Gr.trans HG.out (Gr.new _ _)) HG.out.size _)
      have c3:W2.cell? ⟨wr.heap.size,251,none⟩=some (.bool x.2.dirty):=by
        rw [hb2.cell,List.getElem?_toArray]
        exact fdC_at x 2
      have c4:W2.cell? ⟨wr.heap.size,250,none⟩=some (.int .u64 (x.2.first:Int)):=by
        rw [hb2.cell,List.getElem?_toArray]
        exact fdC_at x 1
      obtain ⟨fi,hfi⟩:∃ fi,fi=x.2.first:=⟨_,rfl⟩
      rw [← hfi] at c4
      have HFi:=Lib.hid hfi
      clear hx1 hf hg hs hfs hW2 hb2 hx3 hfi
      have HSz:Hid ((Tryz.prog.info? TFd).map (·.size)=some (fdC x).toArray.size∧fdZ.toArray.size=(fdC x).toArray.size∧(fdC x).toArray.all (·.oneCell')=true):=Lib.hid ⟨by rw [List.size_toArray];exact fd_size x,by rw [List.size_toArray,List.size_toArray,fdC_len,fdZ_len],all_oneCell_toArray (fdC_one x)⟩
      obtain ⟨d,hd⟩:∃ d,d=x.2.dirty:=⟨_,rfl⟩
      rw [← hd] at c3 HS
      clear hd
      cases d with
      | false=>
        have HN:Hid (n=P.lst (P.dk (k+1))∧y = !(P.dk (k+1)).isEmpty):=Lib.hid (by rw [HS.out.1,if_neg (by simp)];exact HJ.out)
        go_wp2_with (first
          | (refine wpList_load_mid rfl TFd (.tmp 22) rfl g (k*253) rfl (fdC x) _ HRg.out Tryz.underlying95 rfl (fd_size x) ?_)
          | (refine wpList_store_row rfl TFd (.tmp 7) (.tmp 23) rfl wr.heap.size (fdC x).toArray rfl rfl TFd fdZ.toArray HB0.out HSz.out.1 HSz.out.2.1 HSz.out.2.2 ?_
             rw [HW2.out]))
        exact ⟨⟨k+1,n,y,by omega,rfl,rfl,by go_num,HN,HG2⟩,by simp [intOf];omega⟩
      | true=>
        have HN1:Hid (P.dk (k+1)=P.dk k++[x.1]):=Lib.hid (by rw [HS.out.1,if_pos rfl])
        cases y with
        | false=>
          have HN:Hid (fi=P.lst (P.dk (k+1))∧true = !(P.dk (k+1)).isEmpty):=Lib.hid (by
            have h1:=HJ.out.2
            have h2:P.dk k=[]:=by simpa using h1.symm
            rw [HN1.out,P.lst_snoc,if_pos h2,HS.out.2,HFi.out]
            exact ⟨rfl,by simp⟩)
          go_wp2_with (first
            | (refine wpList_load_mid rfl TFd (.tmp 22) rfl g (k*253) rfl (fdC x) _ HRg.out Tryz.underlying95 rfl (fd_size x) ?_)
            | (refine wpList_store_row rfl TFd (.tmp 7) (.tmp 23) rfl wr.heap.size (fdC x).toArray rfl rfl TFd fdZ.toArray HB0.out HSz.out.1 HSz.out.2.1 HSz.out.2.2 ?_
               rw [HW2.out]))
          exact ⟨⟨k+1,fi,true,by omega,rfl,rfl,by go_num,HN,HG2⟩,by simp [intOf];omega⟩
        | true=>
          have HN:Hid ((if fi < n then fi else n)=P.lst (P.dk (k+1))∧true = !(P.dk (k+1)).isEmpty):=Lib.hid (by
            have h1:=HJ.out.2
            have h2:P.dk k≠[]:=by simpa using h1.symm
            rw [HN1.out,P.lst_snoc,if_neg h2,HS.out.2,← HFi.out,← HJ.out.1]
            refine ⟨?_,by simp⟩
            rw [Nat.min_def]
            split <;> split <;> omega)
          by_cases hlt2:fi < n
          · have g5:(fi:Int) < (n:Int):=by omega
            have g6:decide ((fi:Int) < (n:Int))=true:=decide_eq_true g5
            rw [if_pos hlt2] at HN
            clear hlt2
            go_wp2_with (first
              | (refine wpList_load_mid rfl TFd (.tmp 22) rfl g (k*253) rfl (fdC x) _ HRg.out Tryz.underlying95 rfl (fd_size x) ?_)
              | (refine wpList_store_row rfl TFd (.tmp 7) (.tmp 23) rfl wr.heap.size (fdC x).toArray rfl rfl TFd fdZ.toArray HB0.out HSz.out.1 HSz.out.2.1 HSz.out.2.2 ?_
                 rw [HW2.out]))
            exact ⟨⟨k+1,fi,true,by omega,rfl,rfl,by go_num,HN,HG2⟩,by simp [intOf];omega⟩
          · have g5:¬ (fi:Int) < (n:Int):=by omega
            have g6:decide ((fi:Int) < (n:Int))=false:=decide_eq_false g5
            rw [if_neg hlt2] at HN
            clear hlt2
            go_wp2_with (first
              | (refine wpList_load_mid rfl TFd (.tmp 22) rfl g (k*253) rfl (fdC x) _ HRg.out Tryz.underlying95 rfl (fd_size x) ?_)
              | (refine wpList_store_row rfl TFd (.tmp 7) (.tmp 23) rfl wr.heap.size (fdC x).toArray rfl rfl TFd fdZ.toArray HB0.out HSz.out.1 HSz.out.2.1 HSz.out.2.2 ?_
                 rw [HW2.out]))
            exact ⟨⟨k+1,n,true,by omega,rfl,rfl,by go_num,HN,HG2⟩,by simp [intOf];omega⟩
    · have g3:¬ (k:Int) < (N:Int):=by omega
      obtain rfl:k=N:=by omega
      have HE:Hid (P.dk k=P.dirty):=Lib.hid (P.dk_all HPl.out)
      rw [HE.out] at HJ
      go_wp2_with fail
      go_ret2
      rw [HJ.out.1,HJ.out.2]
      exact ⟨rfl,HG.out⟩
end
end Go.Proofs.YtdmhemgepdknhaaGreat
