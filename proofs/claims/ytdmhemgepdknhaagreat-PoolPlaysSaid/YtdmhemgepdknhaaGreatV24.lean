/-
  Texts, put together: Pool16 Pool17.
-/
import Derived.WalkMore
import Derived.Deep.LoopGhost
import Derived.Test.YtdmhemgepdknhaaGreatV1
import Derived.Test.YtdmhemgepdknhaaGreatV23
set_option linter.unusedVariables false
set_option linter.unusedSimpArgs false
namespace Go.Proofs.YtdmhemgepdknhaaGreat
open Go.RowKit Go.Maps
def Pl.usd (P:Pl) (i:Nat):Bool:=match P.fr i with
 | some f=>f.used
 | none=>false
def sparedL (u:Nat→Bool):List Nat→Nat→List Nat
 | [],_=>[]
 | i :: r,k=>if k=0 then [] else if u i then i :: sparedL u r k else sparedL u r (k - 1)
def goingL (u:Nat→Bool) (xs:List Nat) (k:Nat):List Nat:=(xs.filter (fun i => !u i)++xs.filter u).take k
theorem wpList_app_int2 {ops:Array Oper} {rest:List Oper} {o:Oper} {a:Act} {w:World} {Q:Exit→Act→World→Prop} (hg:o.guard=none) (s x:Operand) (ho:o.op=.call { callee:=.builtin .append,args:=#[s,x],argTypes:=#[TNI,TNI] })
  {v:Value} {base:Nat} {xs:List Nat} (hs:a.eval s=v) (hr:Ints w base v xs) {q:Nat} (hx:a.eval x=.slice (some ⟨q,0,none⟩) 1 1) {z:Nat} (hc:w.cell? ⟨q,0,none⟩=some (.int .i64 (z:Int))) (hk:xs.length≤1000000) (hb:base≤w.heap.size)
  (h:∀ v' w',Ints w' base v' (xs++[z])→w.grownBy w' v.ownBlock→(v'.ownBlock=v.ownBlock∨v'.ownBlock=some w.heap.size)→wpList Tryz.prog ops Q rest (a.put o.dst v') w'):wpList Tryz.prog ops Q (o :: rest) a w:=by
 refine wpList_plain hg fun K hK=>?_
 obtain ⟨i,hi,hz,hsz,hbb⟩:=info_parts info_int
 obtain ⟨v',w',hrun,h1,h2,_,h3⟩:=run_append_own_at (P:=Tryz.prog) w base TNI o.type TI i (.int .i64 0) 1 8 Tryz.underlying55 hi hz hsz hbb (by rfl) (by omega) v xs.length _ hr ⟨q,0,none⟩ 1 1 [.int .i64 (z:Int)] (by simp) (fun j x hj=>by
  cases j with
  | zero=>simp at hj;subst hj;exact hc
  | succ j=>simp at hj) (fun x hx=>by simp at hx;subst hx;rfl) (by unfold maxLen;omega) (by omega) hb
 unfold Oper.wp execOp
 simp only [ho,resolve,invoke,builtin,Sem.run_bind,Sem.run_pure,Result.andThen_ok,List.map_toArray,List.map_cons,List.map_nil,hs,hx,hrun]
 refine hK _ _ (h v' w' ?_ h2 h3)
 unfold Ints
 rw [List.map_append,List.length_append];exact h1
structure Two (w0 w:World) (v4 v5:Value) (g s:List Nat):Prop where
 a:Ints w w0.heap.size v4 g
 b:Ints w w0.heap.size v5 s
 ne:∀ k,v4.ownBlock=some k→v5.ownBlock≠some k
 gr:Gr w0 w
theorem Two.nil (w0 w:World) (g:Gr w0 w):Two w0 w (.slice none 0 0) (.slice none 0 0) [] []:=
 ⟨World.ownsRow_nil _ _ _ _,World.ownsRow_nil _ _ _ _,(fun k h=>by cases h),g⟩
theorem Two.alloc {w0 w:World} {v4 v5:Value} {g s:List Nat} (h:Two w0 w v4 v5 g s) (o:Obj):Two w0 (w.alloc o) v4 v5 g s:=
 ⟨h.a.gr (Gr.new _ _),h.b.gr (Gr.new _ _),h.ne,Gr.trans h.gr (Gr.new _ _)⟩
theorem Two.app {w0 w w':World} {v4 v5 v':Value} {g s g':List Nat} (h:Two w0 w v4 v5 g s) (h1:Ints w' w0.heap.size v' g') (h2:w.grownBy w' v4.ownBlock) (h3:v'.ownBlock=v4.ownBlock∨v'.ownBlock=some w.heap.size):Two w0 w' v' v5 g' s:=by
 refine ⟨h1,World.ownsRow.kept h.b h2 ?_,fun k hk hk5=>?_,h.gr.grown h2 h.gr.size fun k hk=>(World.ownsRow.lt h.a k hk).1⟩
 ·
  cases hv:v5.ownBlock with
  | none=>exact .inl rfl
  | some k=>exact .inr fun e=>h.ne k e.symm hv
 ·
  rcases h3 with e | e
  · exact h.ne k (e.symm.trans hk) hk5
  ·
   rw [hk] at e
   cases e
   have:=(World.ownsRow.lt h.b _ hk5).2
   omega
theorem Two.swap {w0 w:World} {v4 v5:Value} {g s:List Nat} (h:Two w0 w v4 v5 g s):Two w0 w v5 v4 s g:=⟨h.b,h.a,fun k h5 h4=>h.ne k h4 h5,h.gr⟩
theorem Ints.shape {w:World} {base:Nat} {v:Value} {xs:List Nat} (h:Ints w base v xs):∃ p c,v=.slice p xs.length c:=by
 rcases h.2 with ⟨rfl,h0⟩ | ⟨g,cap,cur,rfl,_⟩
 · exact ⟨none,0,by rw [h0]⟩
 · exact ⟨_,_,rfl⟩
theorem Ints.full {w:World} {base:Nat} {v:Value} {xs:List Nat} (h:Ints w base v xs) (hne:xs.length≠0):∃ q c,v=.slice (some ⟨q,0,none⟩) xs.length c:=by
 rcases h.2 with ⟨_,h0⟩ | ⟨g,cap,cur,e,_⟩
 · exact absurd h0 hne
 · exact ⟨g,cap,e⟩
theorem drop_getD {xs:List Nat} {k:Nat} (h:k < xs.length):xs.drop k=xs.getD k 0 :: xs.drop (k+1):=by
 rw [List.drop_eq_getElem_cons h]
 simp [List.getD,h]
theorem goingL_stop {u:Nat→Bool} {R:List Nat} {k many:Nat} (h:((R.take k).filter fun i => !u i).length=many):goingL u R many=(R.take k).filter fun i => !u i:=by
 unfold goingL
 have e:(R.filter fun i => !u i)=((R.take k).filter fun i => !u i)++((R.drop k).filter fun i => !u i):=by rw [← List.filter_append,List.take_append_drop]
 rw [e,List.append_assoc,List.take_left' h]
theorem goingL_two {u:Nat→Bool} {R:List Nat} {k many:Nat} (hk:k≤(R.filter u).length) (h:(R.filter fun i => !u i).length+k=many):goingL u R many=(R.filter fun i => !u i)++(R.filter u).take k:=by
 unfold goingL
 rw [List.take_append,List.take_of_length_le (by omega)]
 congr 2
 omega
structure Ch (u:Nat→Bool) (R:List Nat) (many k:Nat):Prop where
 le:((R.take k).filter fun i => !u i).length≤many
 sp:sparedL u R many=(R.take k).filter u++sparedL u (R.drop k) (many - ((R.take k).filter fun i => !u i).length)
theorem Ch.zero (u:Nat→Bool) (R:List Nat) (many:Nat):Ch u R many 0:=⟨by simp,by simp⟩
theorem Ch.step {u:Nat→Bool} {R:List Nat} {many k:Nat} (h:Ch u R many k) (hk:k < R.length) (hne:((R.take k).filter fun i => !u i).length≠many):Ch u R many (k+1):=by
 have hle:=h.le
 have h0:many - ((R.take k).filter fun i => !u i).length≠0:=by omega
 have hs:=h.sp
 rw [drop_getD hk] at hs
 have ht:R.take (k+1)=R.take k++[R.getD k 0]:=take_succ_getD hk
 generalize R.getD k 0=x at hs ht
 generalize hM:many - ((R.take k).filter fun i => !u i).length=M at hs h0
 cases hu:u x with
 | true=>
  have e1:[x].filter (fun i => !u i)=[]:=by simp [hu]
  have e2:[x].filter u=[x]:=by simp [hu]
  have e3:sparedL u (x :: R.drop (k+1)) M=x :: sparedL u (R.drop (k+1)) M:=by simp [sparedL,h0,hu]
  refine ⟨by rw [ht,List.filter_append,e1,List.append_nil];exact hle,?_⟩;rw [ht,List.filter_append,List.filter_append,e1,e2,List.append_nil,hs,hM,e3,List.append_assoc]
  rfl
 | false=>
  have e1:[x].filter (fun i => !u i)=[x]:=by simp [hu]
  have e2:[x].filter u=[]:=by simp [hu]
  have e3:sparedL u (x :: R.drop (k+1)) M=sparedL u (R.drop (k+1)) (M - 1):=by simp [sparedL,h0,hu]
  have e4:many - (((R.take k).filter fun i => !u i).length+1)=M - 1:=by omega
  refine ⟨by rw [ht,List.filter_append,e1,List.length_append];simp only [List.length_singleton];omega,?_⟩;rw [ht,List.filter_append,List.filter_append,e1,e2,List.append_nil,hs,List.length_append,List.length_singleton,e4,e3]
theorem filt_len (u:Nat→Bool):∀ R:List Nat,(R.filter fun i => !u i).length+(R.filter u).length=R.length
 | []=>rfl
 | x :: r=>by
  have h:=filt_len u r
  cases hu:u x <;> simp [List.filter_cons,hu] <;> omega
theorem Ch.stop {u:Nat→Bool} {R:List Nat} {many k:Nat} (h:Ch u R many k) (he:((R.take k).filter fun i => !u i).length=many):sparedL u R many=(R.take k).filter u:=by
 have hs:=h.sp
 rw [he,Nat.sub_self] at hs
 rw [hs]
 cases hd:R.drop k with
 | nil=>simp [sparedL]
 | cons a r=>simp [sparedL]
section
variable {w w':World} {b m n:Nat} {pd pl:Value} {B:Nat→Option Nat} {P:Pl}
set_option maxRecDepth 100000 in
set_option maxHeartbeats 2000000 in
theorem choose_any (h:PlAt w b pd pl m n B P) (hin:∀ i,65536≤i→P.fr i=none) (hh : -1≤P.hand∧P.hand < 65536) (many:Nat) (hm:many < P.pages.length) (hm0:0 < many) :
  Calls Tryz.prog 89 #[.pointer (some ⟨b,0,none⟩),.int .i64 (many:Int)] w fun e w'=>∃ v1 v2,e=.returned (.tuple #[v1,v2])∧Ints w' w.heap.size v1 (goingL P.usd P.round many)∧Ints w' w.heap.size v2 (sparedL P.usd P.round many)∧Gr w w':=by
 have HRo:=Lib.hid (round_any h hin hh);have HP:=Lib.hid h;clear h hin hh
 go_enter Tryz.func89,Tryz.ntmps89
 go_wp2_with fail
 go_step3
 go_wp2_with fail;refine HRo.out.mono ?_;rintro e w1 ⟨v,rfl,hv,g1⟩;have HG:=Lib.hid g1;clear g1;obtain ⟨R,hR⟩:∃ R,R=P.round:=⟨_,rfl⟩;obtain ⟨u,hu⟩:∃ u,u=P.usd:=⟨_,rfl⟩
 rw [← hR] at hv
 have HRd:=Lib.hid hR
 have hl:R.length=P.pages.length:=by rw [hR];unfold Pl.round;rw [List.length_append,List.length_drop,List.length_take];have:=P.behind_le;omega
 have HM:Hid (many < R.length∧0 < many∧R.length≤65536):=Lib.hid ⟨by omega,hm0,by
  rw [hl]
  unfold Pl.pages
  have h:=List.length_filter_le (fun i=>(P.fr i).isSome) (List.range 65536)
  rwa [List.length_range] at h⟩
 have HU:Hid (∀ j,j < R.length→∃ c f,R.getD j 0 < 65536∧B (R.getD j 0)=some c∧P.fr (R.getD j 0)=some f∧u (R.getD j 0)=f.used):=Lib.hid fun j hj=>by
  have h1:R.getD j 0 ∈ P.round:=by rw [← hR];simp [List.getD,hj]
  have h2:R.getD j 0 ∈ P.pages:=by
   unfold Pl.round at h1
   rcases List.mem_append.1 h1 with h | h
   · exact List.mem_of_mem_drop h
   · exact List.mem_of_mem_take h
  obtain ⟨h3,h4⟩:=(P.mem_pages _).1 h2
  cases hB:B (R.getD j 0) with
  | none=>exact absurd ((HP.out.has _).1 hB) h4
  | some c=>
   obtain ⟨f,k1,_⟩:=HP.out.frs _ c hB;exact ⟨c,f,h3,rfl,k1,by rw [hu];unfold Pl.usd;rw [k1]⟩
 obtain ⟨q,c6,hv6⟩:∃ q c6,v=.slice (some ⟨q,0,none⟩) R.length c6:=by
  rcases hv.2 with ⟨_,h0⟩ | ⟨g,cap,cur,e,_⟩
  · have:=HM.out;omega
  · exact ⟨g,cap,e⟩
 subst hv6;have HV:=Lib.hid hv;have HG1:=Lib.hid (show w.heap.size≤w1.heap.size from HG.out.size);obtain ⟨N,hN⟩:∃ N,N=R.length:=⟨_,rfl⟩;have HN:=Lib.hid hN;obtain ⟨X1,hX1⟩:∃ X1,X1=goingL P.usd P.round many:=⟨_,rfl⟩;obtain ⟨X2,hX2⟩:∃ X2,X2=sparedL P.usd P.round many:=⟨_,rfl⟩;have HX:Hid (X1=goingL u R many∧X2=sparedL u R many):=Lib.hid ⟨by rw [hX1,hu,hR],by rw [hX2,hu,hR]⟩;rw [← hN];clear hv hm hm0 hl hR hu hN;go_wp2_with fail
 go_step3
 go_wp2_with fail
 go_loopg [4,5,6,7] 2 (fun gg s4 s5 s6 s7 wr=>∃ g s:List Nat,Hid (Two w1 wr s4 s5 g s)∧((gg=2∧s7=.bool true∧s6=.slice (some ⟨q,0,none⟩) N c6∧g=[]∧s=[])∨(gg=1∧s7=.bool false∧s6=s5∧g=(R.filter fun i => !u i)∧s=R.filter u∧Hid (Ch u R many R.length))))
 case atStart=>exact ⟨[],[],Lib.hid (Two.nil w1 w1 (Gr.refl _)),.inl ⟨rfl,rfl,rfl,rfl,rfl⟩⟩
 case round=>
  obtain ⟨g,s,HT,⟨rfl,rfl,rfl,rfl,rfl⟩ | ⟨rfl,rfl,rfl,rfl,rfl,HC⟩⟩:=hrel
  ·
   go_wp2_with fail
   go_loopg [4,5,14] N (fun g2 s4 s5 s14 wy=>∃ k:Nat,k+g2=N∧s14=.int .i64 (k:Int)∧Hid (Two w1 wy s4 s5 ((R.take k).filter fun i => !u i) ((R.take k).filter u)∧Ch u R many k))
   case atStart=>exact ⟨0,by omega,rfl,Lib.hid ⟨by simpa using HT.out,Ch.zero _ _ _⟩⟩
   case round=>
    obtain ⟨k,hkg,rfl,HI⟩:=hrel;obtain ⟨p4,d4,e4⟩:=HI.out.1.a.shape;subst e4;obtain ⟨L,hL⟩:∃ L,L=((R.take k).filter fun i => !u i).length:=⟨_,rfl⟩;have HL:=Lib.hid hL
    rw [← hL] at HI ⊢
    clear hL
    by_cases hlt:k < N
    ·
     have g3:(k:Int) < (N:Int):=by omega
     have hkR:k < R.length:=by have:=HN.out;omega
     obtain ⟨c,f,hx6,hB,hf,huf⟩:=HU.out k hkR;have hgr:=HI.out.1.gr;have ck:=((HV.out.gr hgr)).cellAt k hkR;obtain ⟨x,hx⟩:∃ x,x=R.getD k 0:=⟨_,rfl⟩
     rw [← hx] at hx6 hB hf huf ck
     have HXk:=Lib.hid hx
     by_cases hst:L=many
     ·
      have hst2:((L:Int) == (many:Int))=true:=by rw [hst];simp
      clear hx hgr hB hf huf hx6;go_wp2_with fail;rw [Exit.noGoto_ret]
      go_ret2
      have hLm:((R.take k).filter fun i => !u i).length=many:=HL.out.symm.trans hst;refine ⟨_,_,rfl,?_,?_,Gr.trans HG.out HI.out.1.gr⟩
      · rw [← hX1,HX.out.1,goingL_stop hLm];exact Ints.low HI.out.1.a HG1.out
      · rw [← hX2,HX.out.2,HI.out.2.stop hLm];exact Ints.low HI.out.1.b HG1.out
     ·
      have hst2:((L:Int) == (many:Int))=false:=beq_eq_false_iff_ne.2 (by omega)
      have HS2:Hid (Ch u R many (k+1)∧(R.take (k+1))=R.take k++[x]∧L≤N∧((R.take k).filter u).length≤N):=Lib.hid ⟨HI.out.2.step hkR (by rw [← HL.out];exact hst),by rw [HXk.out];exact take_succ_getD hkR,by
       rw [HL.out];have h1:=List.length_filter_le (fun i => !u i) (R.take k)
       rw [List.length_take] at h1
       omega,by
       have h1:=List.length_filter_le u (R.take k)
       rw [List.length_take] at h1
       omega⟩
      have hp:=(HP.out.gr (Gr.trans HG.out hgr));have cm:=hp.c6.2.2.2.2.1;have hl0:=hp.map.look x hx6
      rw [hB] at hl0
      have hl2:(Instr.lookup TPm (.map (some m)) (.int .i64 (x:Int)) false).run Tryz.prog wr=.ok (.pointer (some ⟨c,0,none⟩)) wr:=hl0;obtain ⟨f2,hf2,hbk,_⟩:=hp.frs x c hB
      rw [hf] at hf2
      cases hf2
      have k4:=(PFr.c4 hbk).2.2.2;obtain ⟨y,hy⟩:∃ y,y=f.used:=⟨_,rfl⟩
      rw [← hy] at k4 huf
      have HUF:=Lib.hid huf;have HTw:Hid (Two w1 (wr.alloc (.cells #[.int .i64 (x:Int)] TI)) (.slice p4 L d4) u5 ((R.take k).filter fun i => !u i) ((R.take k).filter u)∧(wr.alloc (.cells #[.int .i64 (x:Int)] TI)).cell? ⟨wr.heap.size,0,none⟩=some (.int .i64 (x:Int))∧w1.heap.size≤(wr.alloc (.cells #[.int .i64 (x:Int)] TI)).heap.size):=Lib.hid ⟨HI.out.1.alloc _,(Blk.new wr TI #[.int .i64 (x:Int)]).cell 0,(HI.out.1.alloc _).gr.size⟩
      have hw:IntKind.i64.wrap ((k:Int)+1)=((k+1:Nat):Int):=by rw [IntWalk.i64_in _ (by have:=HM.out;have:=HN.out;omega)];omega
      have HN6:Hid (N≤65536):=Lib.hid (by have:=HM.out;have:=HN.out;omega);clear hx hgr hB hf huf hx6 hp hl0 hbk hy
      cases y with
      | true=>
       go_wp2_with (at_builtin;refine wpList_app_int2 rfl (.tmp 40) (.tmp 42) rfl rfl HTw.out.1.b rfl HTw.out.2.1 (by have:=HS2.out.2.2.2;have:=HN6.out;omega) HTw.out.2.2 ?_;intro v' w' k1 k2 k3)
       have k2':(wr.alloc (.cells #[.int .i64 (x:Int)] TI)).grownBy w' u5.ownBlock:=k2;have k3':v'.ownBlock=u5.ownBlock∨v'.ownBlock=some (wr.alloc (.cells #[.int .i64 (x:Int)] TI)).heap.size:=k3
       have HE:Hid (Two w1 w' (.slice p4 L d4) v' ((R.take (k+1)).filter fun i => !u i) ((R.take (k+1)).filter u)):=Lib.hid (by
        have h1:=(HTw.out.1.swap.app k1 k2' k3').swap;rw [HS2.out.2.1,List.filter_append,List.filter_append]
        have e1:[x].filter (fun i => !u i)=[]:=by simp [HUF.out]
        have e2:[x].filter u=[x]:=by simp [HUF.out]
        rw [e1,e2,List.append_nil]
        exact h1)
       clear k1 k2 k3 k2' k3'
       go_roundg (N - (k+1))
       case measure=>omega
       case rel=>exact ⟨k+1,by omega,by go_num,Lib.hid ⟨HE.out,HS2.out.1⟩⟩
      | false=>
       go_wp2_with (at_builtin;refine wpList_app_int2 rfl (.tmp 18) (.tmp 20) rfl rfl HTw.out.1.a rfl HTw.out.2.1 (by have:=HS2.out.2.2.1;have:=HN6.out;have:=HL.out;omega) HTw.out.2.2 ?_;intro v' w' k1 k2 k3)
       have k2':(wr.alloc (.cells #[.int .i64 (x:Int)] TI)).grownBy w' (Value.slice p4 L d4).ownBlock:=k2;have k3':v'.ownBlock=(Value.slice p4 L d4).ownBlock∨v'.ownBlock=some (wr.alloc (.cells #[.int .i64 (x:Int)] TI)).heap.size:=k3
       have HE:Hid (Two w1 w' v' u5 ((R.take (k+1)).filter fun i => !u i) ((R.take (k+1)).filter u)):=Lib.hid (by
        have h1:=HTw.out.1.app k1 k2' k3';rw [HS2.out.2.1,List.filter_append,List.filter_append]
        have e1:[x].filter (fun i => !u i)=[x]:=by simp [HUF.out]
        have e2:[x].filter u=[]:=by simp [HUF.out]
        rw [e1,e2,List.append_nil]
        exact h1)
       clear k1 k2 k3 k2' k3'
       go_roundg (N - (k+1))
       case measure=>omega
       case rel=>exact ⟨k+1,by omega,by go_num,Lib.hid ⟨HE.out,HS2.out.1⟩⟩
    ·
     obtain rfl:k=N:=by omega
     have eR:R.take k=R:=List.take_of_length_le (by rw [← HN.out];exact Nat.le_refl _);go_wp2_with fail;have hi:=HI.out
     rw [eR] at hi
     have hkR:=HN.out
     go_roundg 1
     case measure=>omega
     case rel=>exact ⟨_,_,Lib.hid hi.1,.inr ⟨rfl,rfl,rfl,rfl,rfl,Lib.hid (hkR ▸ hi.2)⟩⟩
  ·
   have hFS:=filt_len u R
   have hFm:(R.filter fun i => !u i).length≤many:=by
    have h:=HC.out.le
    rwa [List.take_of_length_le (Nat.le_refl _)] at h
   obtain ⟨q5,d5,e5⟩:=HT.out.b.full (by have:=HM.out;omega);subst e5;obtain ⟨M,hM⟩:∃ M,M=(R.filter u).length:=⟨_,rfl⟩;have HMl:Hid (M=(R.filter u).length∧(R.filter fun i => !u i).length+M=R.length∧(R.filter fun i => !u i).length≤many):=Lib.hid ⟨hM,by omega,hFm⟩
   have HSp:Hid (sparedL u R many=R.filter u):=Lib.hid (by
    have h:=HC.out.sp
    rw [List.take_of_length_le (Nat.le_refl _),List.drop_of_length_le (Nat.le_refl _)] at h
    rw [h]
    simp [sparedL])
   rw [← hM] at HT ⊢
   clear hM hFS hFm;go_wp2_with fail
   go_loopg [4,5,14] M (fun g2 s4 s5 s14 wy=>∃ k:Nat,k+g2=M∧s5=.slice (some ⟨q5,0,none⟩) M d5∧s14=.int .i64 (k:Int)∧(R.filter fun i => !u i).length+k≤many∧Hid (Two w1 wy s4 (.slice (some ⟨q5,0,none⟩) M d5) ((R.filter fun i => !u i)++(R.filter u).take k) (R.filter u)))
   case atStart=>exact ⟨0,by omega,rfl,rfl,HMl.out.2.2,Lib.hid (by simpa using HT.out)⟩
   case round=>
    obtain ⟨k,hkg,rfl,rfl,hkm,HI⟩:=hrel;obtain ⟨p4,d4,e4⟩:=HI.out.a.shape;subst e4
    have hlt:k < M:=by have:=HM.out;have:=HMl.out.2.1;omega
    have hlk:((R.filter fun i => !u i)++(R.filter u).take k).length=(R.filter fun i => !u i).length+k:=by rw [List.length_append,List.length_take];have:=HMl.out.1;omega
    obtain ⟨L,hL⟩:∃ L,L=((R.filter fun i => !u i)++(R.filter u).take k).length:=⟨_,rfl⟩;have HL:Hid (L=((R.filter fun i => !u i)++(R.filter u).take k).length∧L=(R.filter fun i => !u i).length+k∧k≤(R.filter u).length):=Lib.hid ⟨hL,hL.trans hlk,by have:=HMl.out.1;omega⟩
    rw [← hL] at HI ⊢
    clear hL hlk
    have g3:(k:Int) < (M:Int):=by omega
    have hkS:k < (R.filter u).length:=by have:=HMl.out.1;omega
    have hb5:=HI.out.b
    rw [HMl.out.1] at hb5
    have ck:=Ints.cellAt hb5 k hkS;obtain ⟨x,hx⟩:∃ x,x=(R.filter u).getD k 0:=⟨_,rfl⟩
    rw [← hx] at ck
    have HXk:Hid ((R.filter u).take (k+1)=(R.filter u).take k++[x]):=Lib.hid (by rw [hx];exact take_succ_getD hkS);clear hb5 hx hkS
    by_cases hst:L=many
    ·
     have hst2:((L:Int) == (many:Int))=true:=by rw [hst];simp
     go_wp2_with fail;rw [Exit.noGoto_ret]
     go_ret2
     have hE:=goingL_two (u:=u) (R:=R) (k:=k) (many:=many) HL.out.2.2 (HL.out.2.1.symm.trans hst);refine ⟨_,_,rfl,?_,?_,Gr.trans HG.out HI.out.gr⟩
     · rw [← hX1,HX.out.1,hE];exact Ints.low HI.out.a HG1.out
     · rw [← hX2,HX.out.2,HSp.out];exact Ints.low HI.out.b HG1.out
    ·
     have hst2:((L:Int) == (many:Int))=false:=beq_eq_false_iff_ne.2 (by omega);have HTw:Hid (Two w1 (wr.alloc (.cells #[.int .i64 (x:Int)] TI)) (.slice p4 L d4) (.slice (some ⟨q5,0,none⟩) M d5) ((R.filter fun i => !u i)++(R.filter u).take k) (R.filter u)∧(wr.alloc (.cells #[.int .i64 (x:Int)] TI)).cell? ⟨wr.heap.size,0,none⟩=some (.int .i64 (x:Int))∧w1.heap.size≤(wr.alloc (.cells #[.int .i64 (x:Int)] TI)).heap.size):=Lib.hid ⟨HI.out.alloc _,(Blk.new wr TI #[.int .i64 (x:Int)]).cell 0,(HI.out.alloc _).gr.size⟩
     have hw:IntKind.i64.wrap ((k:Int)+1)=((k+1:Nat):Int):=by rw [IntWalk.i64_in _ (by have:=HM.out;have:=HMl.out.2.1;omega)];omega
     have HN6:Hid (L≤65536):=Lib.hid (by have:=HM.out;have:=HL.out.2.1;omega)
     go_wp2_with (at_builtin;refine wpList_app_int2 rfl (.tmp 18) (.tmp 20) rfl rfl HTw.out.1.a rfl HTw.out.2.1 (by have:=HN6.out;have:=HL.out.1;omega) HTw.out.2.2 ?_;intro v' w' k1 k2 k3)
     have k2':(wr.alloc (.cells #[.int .i64 (x:Int)] TI)).grownBy w' (Value.slice p4 L d4).ownBlock:=k2;have k3':v'.ownBlock=(Value.slice p4 L d4).ownBlock∨v'.ownBlock=some (wr.alloc (.cells #[.int .i64 (x:Int)] TI)).heap.size:=k3
     have HE:Hid (Two w1 w' v' (.slice (some ⟨q5,0,none⟩) M d5) ((R.filter fun i => !u i)++(R.filter u).take (k+1)) (R.filter u)):=Lib.hid (by
      have h1:=HTw.out.1.app k1 k2' k3';rw [HXk.out,← List.append_assoc]
      exact h1)
     clear k1 k2 k3 k2' k3'
     go_roundg (M - (k+1))
     case measure=>omega
     case rel=>exact ⟨k+1,by omega,rfl,by go_num,by have:=HL.out.2.1;omega,HE⟩
end
end Go.Proofs.YtdmhemgepdknhaaGreat
namespace Go.Proofs.YtdmhemgepdknhaaGreat
open Go.RowKit Go.Maps
set_option maxRecDepth 100000 in
set_option maxHeartbeats 1000000 in
theorem cloneI_any {w:World} {v:Value} {xs:List Nat} (h:ISl w v xs) (hl:xs.length≤900000):Calls Tryz.prog 74 #[v] w fun e w'=>RetLoose xs w e w':=by
 have hw:Gr w (w.alloc (.cells #[] TI)):=Gr.new _ _;have HE:Hid (Ints (w.alloc (.cells #[] TI)) w.heap.size (.slice (some ⟨w.heap.size,0,none⟩) 0 0) []):=Lib.hid ⟨rfl,.inr ⟨_,_,_,rfl,Nat.le_refl _,heap_alloc_new w _,Nat.le_refl _,Nat.zero_le _,by simp,by simp⟩⟩;have HG:=Lib.hid hw;have HL:=Lib.hid (show ([]:List Nat).length+xs.length≤1000000 by simp;omega);have HS:=Lib.hid (h.gr hw);have hsz:w.heap.size≤(w.alloc (.cells #[] TI)).heap.size:=hw.size
 rcases h with ⟨rfl,rfl⟩ | ⟨g,o,c,rfl,_,_,_⟩
 ·
  have hq:=fun w=>Lib.run_eql_slice_nil (P:=Tryz.prog) w TNI TI none 0 0 0 0 Tryz.underlying55
  clear hw hsz HE HL HS
  go_enter Tryz.func74,Tryz.ntmps74
  go_wp2_with fail
  go_ret
  exact ⟨_,rfl,World.ownsRow_nil _ _ _ _,Gr.refl _⟩
 ·
  have hq:=fun w=>Lib.run_eql_slice_nil (P:=Tryz.prog) w TNI TI (some ⟨g,o,none⟩) xs.length c 0 0 Tryz.underlying55
  have HZ:=Lib.hid hsz;clear hw hsz
  go_enter Tryz.func74,Tryz.ntmps74
  go_wp2_with (at_builtin;refine wpList_app_isl rfl _ _ rfl rfl HE.out rfl HS.out HL.out HZ.out ?_;intro v' w' h1 h2)
  go_ret
  refine ⟨_,rfl,by simpa using h1,HG.out.grown h2 HZ.out fun k e=>?_⟩
  cases e
  exact Nat.le_refl _
abbrev fnUnk (x:Nat):Value:=.func (.func 75) #[] #[.pointer (some ⟨x,0,none⟩)]
def Pl.unk (P:Pl) (e:Nat) (i:Nat):Bool:=match P.fr i with
 | some f=>decide (e < f.lsn)
 | none=>false
section
variable {w w':World} {b m n:Nat} {pd pl:Value} {B:Nat→Option Nat} {P:Pl}
set_option maxRecDepth 100000 in
set_option maxHeartbeats 1000000 in
theorem unk_any {x i E:Nat} {f:PFr} (h:PlAt w b pd pl m n B P) (hx:w.cell? ⟨x,0,none⟩=some (.pointer (some ⟨b,0,none⟩))) (hi:i < 65536) (hf:P.fr i=some f) (hE:∀ W,Gr w W→Calls Tryz.prog 37 #[pl] W fun e w'=>e=.returned (.int .u64 (E:Int))∧Gr W w') :
  Calls Tryz.prog 75 #[.int .i64 (i:Int),.pointer (some ⟨x,0,none⟩)] w fun e w'=>e=.returned (.bool (P.unk E i))∧Gr w w':=by
 obtain ⟨c,hB⟩:∃ c,B i=some c:=by
  cases hB:B i with
  | none=>rw [(h.has i).1 hB] at hf;cases hf
  | some c=>exact ⟨c,rfl⟩
 obtain ⟨g,h1,h2,h3⟩:=h.frs i c hB
 rw [hf] at h1
 cases h1
 obtain ⟨y,hy⟩:∃ y,y=f.lsn:=⟨_,rfl⟩
 have HS:Hid (∀ V,Gr w V→V.cell? ⟨x,0,none⟩=some (.pointer (some ⟨b,0,none⟩))∧V.cell? ⟨b,4,none⟩=some (.map (some m))∧V.cell? ⟨b,1,none⟩=some pl∧V.cell? ⟨c,248,none⟩=some (.int .u64 (y:Int))∧(Instr.lookup TPm (.map (some m)) (.int .i64 (i:Int)) false).run Tryz.prog V=.ok (.pointer (some ⟨c,0,none⟩)) V):=Lib.hid fun V gV=>by
  have hl:=(h.gr gV).map.look i hi
  rw [hB] at hl
  have k0:=(PFr.c4 (h2.gr gV)).1
  rw [← hy] at k0
  exact ⟨(gV.cell (World.block_lt_of_cell? _ _ hx)).trans hx,(h.gr gV).c6.2.2.2.2.1,(h.gr gV).c6.2.1,k0,hl⟩
 obtain ⟨l,rfl⟩:=h.lg;have HE:=Lib.hid hE;have HU:Hid (P.unk E i=decide (E < y)):=Lib.hid (by unfold Pl.unk;rw [hf,hy]);obtain ⟨p0,p1,p2,p3,p4⟩:=HS.out w (Gr.refl _);obtain ⟨q0,q1,q2,q3,q4⟩:=HS.out w.drew (Gr.refl _).drew;clear h hB hf h2 h3 hE hy hx
 go_enter Tryz.func75,Tryz.ntmps75
 go_wp2_with fail
 go_region_held3 (fun V=>V.cell? ⟨x,0,none⟩=some (.pointer (some ⟨b,0,none⟩))∧V.cell? ⟨b,4,none⟩=some (.map (some m))∧V.cell? ⟨b,1,none⟩=some (.pointer (some ⟨l,0,none⟩))∧V.cell? ⟨c,248,none⟩=some (.int .u64 (y:Int))∧(Instr.lookup TPm (.map (some m)) (.int .i64 (i:Int)) false).run Tryz.prog V=.ok (.pointer (some ⟨c,0,none⟩)) V) (first | exact ⟨p0,p1,p2,p3,p4⟩ | exact ⟨q0,q1,q2,q3,q4⟩ | exact HS.out _ G5.out) (first
  | (go_at_call 37;refine (HE.out _ (Gr.refl w).drew).mono ?_;rintro e w5 ⟨rfl,g5⟩;have G5:=Lib.hid (Gr.trans (Gr.refl w).drew g5);clear g5))
 all_goals (try go_wp2_with fail)
 all_goals
  go_ret
  exact ⟨by rw [HU.out];rfl,G5.out⟩
set_option maxRecDepth 100000 in
set_option maxHeartbeats 1000000 in
theorem indexU_any {x:Nat} {v:Value} {xs:List Nat} {u:Nat→Bool} (hs:ISl w v xs) (hl:xs.length≤1000000)
  (hC:∀ W j,Gr w W→j < xs.length→Calls Tryz.prog 75 #[.int .i64 ((xs.getD j 0:Nat):Int),.pointer (some ⟨x,0,none⟩)] W fun e w'=>e=.returned (.bool (u (xs.getD j 0)))∧Gr W w') :
  Calls Tryz.prog 79 #[v,fnUnk x] w fun e w'=>Gr w w' ∧
   ((e=.returned (.int .i64 (-1))∧∀ j,j < xs.length→u (xs.getD j 0)=false)∨∃ k:Nat,e=.returned (.int .i64 (k:Int))∧k < xs.length∧u (xs.getD k 0)=true):=by
 have eg:∀ args w,(callFunc 75 args).run Tryz.prog w=.ok (.enter 75 args) w:=enters_of Tryz.func75 (by kernel_rfl) rfl;have HCC:=Lib.hid hC;have HS:=Lib.hid hs;obtain ⟨N,hN⟩:∃ N,N=xs.length:=⟨_,rfl⟩;have HN:Hid (N=xs.length∧N≤1000000):=Lib.hid ⟨hN,by omega⟩
 obtain ⟨p,c,rfl⟩:∃ p c,v=.slice p N c:=by
  rcases hs with ⟨h1,h2⟩ | ⟨g,o,c2,h1,_⟩
  · exact ⟨none,0,by rw [h1,hN,h2];rfl⟩
  · exact ⟨_,_,by rw [h1,hN]⟩
 rw [← hN]
 have h0:(0:Int)≤(N:Int):=by omega
 clear hC hs hl hN
 go_enter Tryz.func79,Tryz.ntmps79
 go_wp2
 go_loopw [8] (fun kv wr=>∃ k:Nat,k≤N∧kv=.int .i64 (k:Int)∧Hid (Gr w wr∧∀ j,j < k→u (xs.getD j 0)=false)) (fun kv _=>N - (intOf kv).toNat)
 case atStart=>exact ⟨0,Nat.zero_le _,rfl,Lib.hid ⟨Gr.refl _,fun j hj=>by omega⟩⟩
 case round=>
  obtain ⟨k,hk,rfl,HG⟩:=hrel
  by_cases hlt:k < N
  ·
   have g3:(k:Int) < (N:Int):=by omega
   have hk2:k < xs.length:=by have:=HN.out.1;omega
   obtain ⟨g,o,rfl,ck⟩:∃ g o,p=some ⟨g,o,none⟩∧wr.cell? ⟨g,o+k,none⟩=some (.int .i64 ((xs.getD k 0:Nat):Int)):=by
    rcases HS.out.gr HG.out.1 with ⟨h1,h2⟩ | ⟨g,o,c2,h1,_,_,h4⟩
    · rw [h2] at hk2;exact absurd hk2 (by simp)
    ·
     simp only [Value.slice.injEq] at h1
     exact ⟨g,o,h1.1,h4 k hk2⟩
   have hcall:=HCC.out wr k HG.out.1 hk2;obtain ⟨z,hz⟩:∃ z,z=xs.getD k 0:=⟨_,rfl⟩;have HZ:=Lib.hid hz
   rw [← hz] at ck hcall
   obtain ⟨y,hy⟩:∃ y,y=u z:=⟨_,rfl⟩;have HY:=Lib.hid hy
   rw [← hy] at hcall
   have HC:=Lib.hid hcall
   have hw:IntKind.i64.wrap ((k:Int)+1)=((k+1:Nat):Int):=by rw [IntWalk.i64_in _ (by have:=HN.out.2;omega)];omega
   clear hcall hz hy hk2
   cases y with
   | true=>
    go_wp2_with (go_at_fn 75;refine HC.out.mono ?_;rintro e w' ⟨rfl,g5⟩;have HG5:=Lib.hid g5;clear g5)
    go_ret
    exact ⟨Gr.trans HG.out.1 HG5.out,.inr ⟨k,rfl,hlt,by rw [← HZ.out];exact HY.out.symm⟩⟩
   | false=>
    go_wp2_with (go_at_fn 75;refine HC.out.mono ?_;rintro e w' ⟨rfl,g5⟩;have HG5:=Lib.hid g5;clear g5)
    refine ⟨⟨k+1,by omega,by go_num,Lib.hid ⟨Gr.trans HG.out.1 HG5.out,fun j hj=>?_⟩⟩,by simp [intOf];omega⟩
    rcases Nat.lt_succ_iff_lt_or_eq.1 hj with h | rfl
    · exact HG.out.2 j h
    · rw [← HZ.out];exact HY.out.symm
  ·
   obtain rfl:k=N:=by omega
   go_wp2
   go_ret
   exact ⟨HG.out.1,.inl ⟨rfl,fun j hj=>HG.out.2 j hj⟩⟩
set_option maxRecDepth 100000 in
theorem containsU_any {x:Nat} {v:Value} {xs:List Nat} {u:Nat→Bool} (hs:ISl w v xs) (hl:xs.length≤1000000)
  (hC:∀ W j,Gr w W→j < xs.length→Calls Tryz.prog 75 #[.int .i64 ((xs.getD j 0:Nat):Int),.pointer (some ⟨x,0,none⟩)] W fun e w'=>e=.returned (.bool (u (xs.getD j 0)))∧Gr W w') :
  Calls Tryz.prog 76 #[v,fnUnk x] w fun e w'=>e=.returned (.bool (xs.any u))∧Gr w w':=by
 have HI:=Lib.hid (indexU_any hs hl hC)
 have HA:Hid ((∀ j,j < xs.length→u (xs.getD j 0)=false)→xs.any u=false):=Lib.hid fun h=>by
  rw [List.any_eq_false]
  intro a ha
  obtain ⟨j,hj,rfl⟩:=List.getElem_of_mem ha;have:=h j hj
  simp [List.getD,hj] at this
  simp [this]
 have HB:Hid (∀ k,k < xs.length→u (xs.getD k 0)=true→xs.any u=true):=Lib.hid fun k hk h=>by
  rw [List.any_eq_true];exact ⟨xs.getD k 0,by simp [List.getD,hk],h⟩
 clear hs hl hC
 go_enter Tryz.func76,Tryz.ntmps76
 go_wp2_with fail;refine HI.out.mono ?_;rintro e w1 ⟨g1,⟨rfl,h⟩ | ⟨k,rfl,hk,h⟩⟩
 ·
  have e1:=HA.out h;have HG:=Lib.hid g1;clear h g1;go_wp2_with fail
  go_ret
  exact ⟨by rw [e1];rfl,HG.out⟩
 ·
  have e1:=HB.out k hk h;have HG:=Lib.hid g1
  have hk0:(0:Int)≤(k:Int):=by omega
  clear h g1 hk;go_wp2_with fail
  go_ret
  exact ⟨by rw [e1];rfl,HG.out⟩
end
end Go.Proofs.YtdmhemgepdknhaaGreat
