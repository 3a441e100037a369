/-
  Texts, put together: Ly Places Block Outer Clone Crash CrashWalk Barrier.
-/
import Derived.Test.YtdmhemgepdknhaaGreatProg
import Derived.BigQuiet
import Derived.Deep.DeepCutAuto
import Derived.Test.YtdmhemgepdknhaaGreatV1
import Derived.Test.YtdmhemgepdknhaaGreatV3
import Derived.Test.YtdmhemgepdknhaaGreatV5
set_option linter.unusedVariables false
set_option linter.unusedSimpArgs false
namespace Go.Proofs.YtdmhemgepdknhaaGreat
open Go.RowKit
def okN (n:Int):Bool:=decide (64≤n∧n≤4096)
def logOf (n:Int):Int:=min (max (n / 8) 16) 256
def grpOf (n:Int):Int:=(n - (3+logOf n)+56) / 64
def mkN (n:Int):Int:=if okN n then n else 0
def mkL (n:Int):Int:=if okN n then logOf n else 0
def mkG (n:Int):Int:=if okN n then grpOf n else 0
def mkE (n:Int):Int:=if okN n then 0 else 2
def mayL (n l g:Int):Bool:=okN n && decide (l=logOf n∧g=grpOf n)
theorem okN_iff {n:Int}:okN n=true ↔ 64≤n∧n≤4096:=by simp [okN]
theorem log_lo {n:Int} (_:64≤n) (_:n≤4096):16≤logOf n∧logOf n≤256:=by unfold logOf;omega
theorem grp_lo {n:Int} (h0:64≤n) (h1:n≤4096):1≤grpOf n∧grpOf n≤60∧3+logOf n+64*grpOf n≤n+56∧n < 3+logOf n+64*grpOf n+8:=by unfold grpOf logOf;omega
def startW (l g:Int):Int:=wrap64 (wrap64 (3+l)+wrap64 (g*64))
theorem start_any (n l g i:Int) (w:World):Calls Tryz.prog 62 #[.agg #[.int .i64 n,.int .i64 l,.int .i64 g],.int .i64 i] w fun e w'=>e=.returned (.int .i64 (startW l i))∧Gr w w':=by
 have hg:=(Gr.refl w).alloc (Nat.le_refl _) (.cells #[.int .i64 n,.int .i64 l,.int .i64 g] 71)
 go_enter Tryz.func62,Tryz.ntmps62
 go_wp2
 go_ret
 exact ⟨rfl,hg⟩
theorem groups_any (n G:Int) (w:World) (h0:0≤n) (h1:n≤5000) (hG:(n+56) / 64=G):Calls Tryz.prog 61 #[.int .i64 n] w fun e w'=>e=.returned (.int .i64 G)∧w=w':=by
 have HG:=Lib.hid hG;clear hG
 go_enter Tryz.func61,Tryz.ntmps61
 go_wp2
 go_ret
 exact ⟨ret_i (by rw [← HG.out];omega),rfl⟩
theorem Blk.c3 {w:World} {g:Nat} {t:TypeId} {a b c:Value} (h:Blk w g t #[a,b,c]):(w.cell? ⟨g,0,none⟩=some a∧w.cell? ⟨g,1,none⟩=some b∧w.cell? ⟨g,2,none⟩=some c)∧(w.frozen? ⟨g,0,none⟩=false∧w.frozen? ⟨g,1,none⟩=false∧w.frozen? ⟨g,2,none⟩=false):=
 ⟨⟨h.cell 0,h.cell 1,h.cell 2⟩,h.frozen 0,h.frozen 1,h.frozen 2⟩
def RetLy (n l g e:Int) (w:World) (en:Ending) (w':World):Prop:=en=.returned (.tuple #[.agg #[.int .i64 n,.int .i64 l,.int .i64 g],.int .i64 e])∧Gr w w'
theorem make_no (n:Int) (w:World) (h:¬ (64≤n∧n≤4096)):Calls Tryz.prog 35 #[.int .i64 n] w (RetLy 0 0 0 2 w):=by
 have hg:=(Gr.refl w).alloc (Nat.le_refl _) (.cells #[.int .i64 0,.int .i64 0,.int .i64 0] 71)
 by_cases h1:n < 64
 all_goals
  go_enter Tryz.func35,Tryz.ntmps35
  go_wp2
  go_returns
  exact ⟨rfl,hg⟩
theorem startW_in {l g:Int} (h0:0≤l) (h1:l≤5000) (h2:0≤g) (h3:g≤5000):startW l g=3+l+g*64:=by
 unfold startW wrap64;omega
theorem results_ly {fn:Func} {p q:Tmp} (h:fn.results=#[.cell p 71,.tmp q]) (tmps:Array Value) (w:World) (g:Nat) (cs:Array Value) (x:Value) (hs:cs.size=3)
  (hp:tmps.getD p undef=.pointer (some ⟨g,0,none⟩)) (hx:tmps.getD q undef=x) (hb:Blk w g 71 cs):(results fn tmps).run Tryz.prog w=.ok (.tuple #[.agg cs,x]) w:=by
 have hp':tmps[p]?.getD undef=.pointer (some ⟨g,0,none⟩):=by simpa using hp
 have hx':tmps[q]?.getD undef=x:=by simpa using hx
 have hz:(Tryz.prog.info? 71).map (·.size)=some 3:=by kernel_rfl
 have hl:=run_loadVar_row (P:=Tryz.prog) w g 71 71 cs (0,0) _ hb Tryz.underlying71 rfl (by rw [hs];exact hz)
 simp [results,h,hp',hx',asAddr,hl]
theorem below_set3 {B g:Nat} {w w1:World} {a b c:Value} {i j k:Nat} (h:Below B w w1) (hg:B≤g):Below B w (((w1.setCell ⟨g,i,none⟩ a).setCell ⟨g,j,none⟩ b).setCell ⟨g,k,none⟩ c):=((h.setCell hg _).setCell hg _).setCell hg _
set_option maxRecDepth 100000 in
theorem make_yes (n:Int) (w:World) (h0:64≤n) (h1:n≤4096):Calls Tryz.prog 35 #[.int .i64 n] w (RetLy n (logOf n) (grpOf n) 0 w):=by
 have hl:=log_lo h0 h1;have hL:min (max (n / 8) 16) 256=logOf n:=rfl;obtain ⟨L,hL2⟩:∃ L,L=logOf n:=⟨_,rfl⟩;have hG:Hid ((n - (3+L)+56) / 64=grpOf n):=Lib.hid (by rw [hL2];rfl)
 have hs:startW L 0=3+L:=by rw [startW_in (by omega) (by omega) (by omega) (by omega)];omega
 rw [← hL2] at hL hl
 rw [← hL2]
 have l2:3+L≤n:=by omega
 have HL:=Lib.hid hL;have HS:=Lib.hid hs;clear hL2 hL hs;obtain ⟨l0,l1⟩:=hl
 go_enter Tryz.func35,Tryz.ntmps35
 go_wp2_with fail;rw [HL.out];refine (start_any _ _ _ _ _).mono ?_;rintro e w1 ⟨rfl,g1⟩;have G1:=Lib.hid (grow2 g1);have B1:=Lib.hid (((Blk.new w 71 #[.int .i64 0,.int .i64 0,.int .i64 0]).alloc _).below g1 (by go_size));obtain ⟨⟨c0,c1,c2⟩,f0,f1,f2⟩:=B1.out.c3;obtain ⟨⟨d0,d1,d2⟩,q0,q1,q2⟩:=((Blk.new (w.alloc (.cells #[.int .i64 0,.int .i64 0,.int .i64 0] 71)) 71 _).below g1 (by go_size)).c3
 simp only [World.size_alloc] at d0 d1 d2 q0 q1 q2
 rw [HS.out];clear g1;go_wp2_with fail;refine (groups_any _ (grpOf n) _ (by omega) (by omega) (by have:=hG.out;omega)).mono ?_;rintro e w2 ⟨rfl,rfl⟩;go_wp2_with fail;exact bodyPost_ret (results_ly rfl _ _ w.heap.size #[.int .i64 n,.int .i64 L,.int .i64 (grpOf n)] _ rfl rfl rfl ((((B1.out.far (by simp) _).set 0 _).set 1 _).set 2 _)) rfl ⟨rfl,below_set3 (G1.out.setCell (by simp) _) (Nat.le_refl _)⟩
theorem make_any (n:Int) (w:World):Calls Tryz.prog 35 #[.int .i64 n] w (RetLy (mkN n) (mkL n) (mkG n) (mkE n) w):=by
 by_cases h:64≤n∧n≤4096
 ·
  have e:okN n=true:=okN_iff.2 h
  simp only [mkN,mkL,mkG,mkE,e,if_true]
  exact make_yes n w h.1 h.2
 ·
  have e:okN n=false:=by simpa [okN] using h
  simp only [mkN,mkL,mkG,mkE,e,Bool.false_eq_true,if_false]
  exact make_no n w h
def Ret3 (a b e:Int) (w:World) (en:Ending) (w':World):Prop:=en=.returned (.tuple #[.int .i64 a,.int .i64 b,.int .i64 e])∧Gr w w'
def Ret2 (a e:Int) (w:World) (en:Ending) (w':World):Prop:=en=.returned (.tuple #[.int .i64 a,.int .i64 e])∧Gr w w'
set_option maxRecDepth 100000 in
theorem mayS_any (n l g:Int) (w:World):Calls Tryz.prog 63 #[.agg #[.int .i64 n,.int .i64 l,.int .i64 g]] w (RetB (mayL n l g) w):=by
 have HM:=Lib.hid (make_any n)
 by_cases h:okN n=true
 ·
  have e1:mkN n=n∧mkL n=logOf n∧mkG n=grpOf n∧mkE n=0:=by simp [mkN,mkL,mkG,mkE,h]
  have HR:Hid (mayL n l g=decide (l=logOf n∧g=grpOf n)):=Lib.hid (by simp [mayL,h]);obtain ⟨e1,e2,e3,e4⟩:=e1
  rw [e1,e2,e3,e4] at HM
  clear e1 e2 e3 e4 h
  go_enter Tryz.func63,Tryz.ntmps63
  go_wp2_with fail;refine (HM.out _).mono ?_;rintro e w1 ⟨rfl,g1⟩;have G1:=Lib.hid (grow1 g1);have s1:=lt_of_new g1;obtain ⟨⟨c0,c1,c2⟩,f0,f1,f2⟩:=((Blk.new w 71 _).below g1 (by go_size)).c3;clear g1 HM;go_wp2_with fail
  all_goals
   go_ret
   exact ⟨ret_b (by rw [HR.out];first | (exact (decide_eq_true (by omega)).symm) | (exact (decide_eq_false (by omega)).symm)),G1.out.alloc G1.out.size _⟩
 ·
  have e1:mkN n=0∧mkL n=0∧mkG n=0∧mkE n=2:=by simp [mkN,mkL,mkG,mkE,h]
  have HR:Hid (mayL n l g=false):=Lib.hid (by simp [mayL,h]);obtain ⟨e1,e2,e3,e4⟩:=e1
  rw [e1,e2,e3,e4] at HM
  clear e1 e2 e3 e4 h
  go_enter Tryz.func63,Tryz.ntmps63
  go_wp2_with fail;refine (HM.out _).mono ?_;rintro e w1 ⟨rfl,g1⟩;have G1:=Lib.hid (grow1 g1);have s1:=lt_of_new g1;clear g1 HM;go_wp2_with fail
  go_ret
  exact ⟨ret_b HR.out.symm,G1.out.alloc G1.out.size _⟩
end Go.Proofs.YtdmhemgepdknhaaGreat
namespace Go.Proofs.YtdmhemgepdknhaaGreat
open Go.RowKit
abbrev TY:TypeId:=71
abbrev TF:TypeId:=206
def RetT (a b:Int) (ok:Bool) (w:World) (e:Ending) (w':World):Prop:=∃ x y,e=.returned (.tuple #[.int .i64 x,.int .i64 y,.bool ok])∧(ok=true→x=a∧y=b)∧Gr w w'
def only (b:Bool) (a:Int):Int:=if b then a else 0
def err (b:Bool):Int:=if b then 0 else 2
theorem may_in {n l g:Int} (h:mayL n l g=true):64≤n∧n≤4096∧16≤l∧l≤256∧1≤g∧g≤60∧3+l+64*g≤n+56∧n < 3+l+64*g+8:=by
 simp only [mayL,okN,Bool.and_eq_true,decide_eq_true_eq] at h
 obtain ⟨⟨h0,h1⟩,rfl,rfl⟩:=h;have:=log_lo h0 h1;have:=grp_lo h0 h1
 omega
set_option maxRecDepth 100000 in
theorem asking_log (n l g i x y:Int) (ok:Bool) (b c d:Nat) (w:World) (hb:Blk w b TY #[.int .i64 n,.int .i64 l,.int .i64 g]) (hc:Blk w c TF #[.func (.func 150) #[] #[.pointer (some ⟨d,0,none⟩)]])
  (hF:mayL n l g=true→∀ W,Gr w W→Calls Tryz.prog 150 #[.int .i64 i,.pointer (some ⟨d,0,none⟩)] W (RetT x y ok W)) :
  Calls Tryz.prog 162 #[.int .i64 i,.pointer (some ⟨b,0,none⟩),.pointer (some ⟨c,0,none⟩)] w (Ret3 (only (mayL n l g && ok) x) (only (mayL n l g && ok) y) (err (mayL n l g && ok)) w):=by
 obtain ⟨⟨c0,c1,c2⟩,f0,f1,f2⟩:=hb.c3;have HC:=Lib.hid hc;have HM:=Lib.hid (mayS_any n l g);clear hb hc
 by_cases hm:mayL n l g=true
 ·
  have HF:=Lib.hid (hF hm)
  rw [hm] at HM
  rw [hm];clear hF hm
  go_enter Tryz.func162,Tryz.ntmps162
  go_wp2_with fail;refine (HM.out _).mono ?_;rintro e w1 ⟨rfl,g1⟩;have q:=(HC.out.below g1 HC.out.lt).cell 0;have G1:=Lib.hid g1;clear g1 HM;go_wp2_with fail;refine (HF.out _ G1.out).mono ?_;rintro e w2 ⟨x',y',rfl,hx,g2⟩;have HX:=Lib.hid hx;have G2:=Lib.hid (Gr.trans G1.out g2);clear g2 hx q
  cases ok
  ·
   go_wp2
   go_returns
   exact ⟨rfl,G2.out⟩
  ·
   go_wp2
   go_returns
   obtain ⟨rfl,rfl⟩:=HX.out (by simp);exact ⟨rfl,G2.out⟩
 ·
  have hm:mayL n l g=false:=by simpa using hm
  rw [hm] at HM
  rw [hm];clear hF hm
  go_enter Tryz.func162,Tryz.ntmps162
  go_wp2_with fail;refine (HM.out _).mono ?_;rintro e w1 ⟨rfl,g1⟩;have G1:=Lib.hid g1;clear g1 HM
  go_wp2
  go_returns
  exact ⟨rfl,G1.out⟩
theorem gr_drewN {w w':World} (h:Gr w w') (n:Nat):Gr w (w'.drewN n):=below_drewN h n
set_option maxRecDepth 100000 in
theorem log1_any (n l g i:Int) (d:Nat) (w:World) (hb:Blk w d TY #[.int .i64 n,.int .i64 l,.int .i64 g]) (hm:mayL n l g=true) :
  Calls Tryz.prog 150 #[.int .i64 i,.pointer (some ⟨d,0,none⟩)] w (RetT (3+i) 0 (decide (0≤i) && decide (i < l)) w):=by
 obtain ⟨⟨c0,c1,c2⟩,f0,f1,f2⟩:=hb.c3;have HI:=Lib.hid (may_in hm);clear hb hm
 by_cases h0:0≤i
 ·
  have hd:decide (0≤i)=true:=by simpa using h0
  have hj:Hid ((decide (0≤i) && decide (i < l))=decide (i < l)):=Lib.hid (by rw [hd];rfl)
  go_enter Tryz.func150,Tryz.ntmps150
  go_wp2_with fail
  go_quiet (fail)
  go_wp2
  go_returns
  rw [hj.out];refine ⟨_,_,rfl,fun h=>?_,gr_drewN (Gr.refl _) _⟩
  have h1:i < l:=by simpa using h
  have:=HI.out;exact ⟨by unfold wrap64;omega,rfl⟩
 ·
  have hd:decide (0≤i)=false:=by simpa using h0
  have hj:Hid ((decide (0≤i) && decide (i < l))=false):=Lib.hid (by rw [hd];rfl)
  go_enter Tryz.func150,Tryz.ntmps150
  go_wp2_with fail
  go_quiet (fail)
  go_wp2
  go_returns
  rw [hj.out];exact ⟨_,_,rfl,fun h=>(by cases h),gr_drewN (Gr.refl _) _⟩
end Go.Proofs.YtdmhemgepdknhaaGreat
namespace Go.Proofs.YtdmhemgepdknhaaGreat
open Go.RowKit
theorem asking_mk (n l g:Int) (F d:Nat) (w:World) :
  Calls Tryz.prog 149 #[.agg #[.int .i64 n,.int .i64 l,.int .i64 g],.func (.func F) #[] #[.pointer (some ⟨d,0,none⟩)]] w fun e w'=>e=.returned (.func (.func 162) #[] #[.pointer (some ⟨w.heap.size,0,none⟩),.pointer (some ⟨w.heap.size+1,0,none⟩)])∧Blk w' w.heap.size TY #[.int .i64 n,.int .i64 l,.int .i64 g]∧Blk w' (w.heap.size+1) TF #[.func (.func F) #[] #[.pointer (some ⟨d,0,none⟩)]]∧Gr w w':=by
 have HG:=Lib.hid (((Gr.refl w).alloc (Nat.le_refl _) (.cells #[.int .i64 n,.int .i64 l,.int .i64 g] TY)).alloc (by simp) (.cells #[.func (.func F) #[] #[.pointer (some ⟨d,0,none⟩)]] TF));have HB:=Lib.hid ((Blk.new w TY #[.int .i64 n,.int .i64 l,.int .i64 g]).alloc (.cells #[.func (.func F) #[] #[.pointer (some ⟨d,0,none⟩)]] TF));have HC:=Lib.hid (Blk.new (w.alloc (.cells #[.int .i64 n,.int .i64 l,.int .i64 g] TY)) TF #[.func (.func F) #[] #[.pointer (some ⟨d,0,none⟩)]])
 go_enter Tryz.func149,Tryz.ntmps149
 go_wp2_with fail
 go_ret
 exact ⟨rfl,HB.out,by simpa using HC.out,HG.out⟩
end Go.Proofs.YtdmhemgepdknhaaGreat
namespace Go.Proofs.YtdmhemgepdknhaaGreat
open Go.RowKit
set_option maxRecDepth 100000 in
theorem logAt_any (n l g i:Int) (w:World):Calls Tryz.prog 125 #[.agg #[.int .i64 n,.int .i64 l,.int .i64 g],.int .i64 i] w (Ret2 (only (mayL n l g && (decide (0≤i) && decide (i < l))) (3+i)) (err (mayL n l g && (decide (0≤i) && decide (i < l)))) w):=by
 have B0:=Lib.hid (Blk.new w TY #[.int .i64 n,.int .i64 l,.int .i64 g])
 go_enter Tryz.func125,Tryz.ntmps125
 go_wp2_with fail;refine (asking_mk _ _ _ _ _ _).mono ?_;rintro e w1 ⟨rfl,hb,hc,g1⟩
 simp only [World.size_alloc] at hb hc
 have B1:=Lib.hid (B0.out.below g1 B0.out.lt);have HA:=Lib.hid (asking_log n l g i _ _ _ _ _ _ w1 hb hc fun hm W gW=>log1_any n l g i w.heap.size W (B1.out.below gW B1.out.lt) hm);have G1:=Lib.hid (grow1 g1);clear hb hc g1;go_wp2_with fail;refine HA.out.mono ?_;rintro e w2 ⟨rfl,g2⟩;have G2:=Lib.hid (Gr.trans G1.out g2);clear g2;go_wp2_with fail
 go_returns
 exact ⟨rfl,G2.out⟩
end Go.Proofs.YtdmhemgepdknhaaGreat
namespace Go.Proofs.YtdmhemgepdknhaaGreat
open Go.RowKit Go.Maps

end Go.Proofs.YtdmhemgepdknhaaGreat
namespace Go.Proofs.YtdmhemgepdknhaaGreat
open Go.RowKit Go.Maps
/-! ### which is chosen -/
theorem filter_at (p:Nat→Bool):∀ (N k i:Nat),((List.range N).filter p)[k]?=some i→((List.range i).filter p).length=k∧i < N∧p i=true
 | 0,k,i,h=>by simp at h
 | N+1,k,i,h=>by
  rw [List.range_succ,List.filter_append] at h
  by_cases hk:k < ((List.range N).filter p).length
  ·
   rw [List.getElem?_append_left hk] at h
   obtain ⟨h1,h2,h3⟩:=filter_at p N k i h;exact ⟨h1,by omega,h3⟩
  ·
   rw [List.getElem?_append_right (by omega)] at h
   cases hp:p N with
   | false=>simp [hp] at h
   | true=>
    simp only [hp,List.filter_cons,List.filter_nil,if_true] at h
    have hk0:k - ((List.range N).filter p).length=0:=by
     cases hq:k - ((List.range N).filter p).length with
     | zero=>rfl
     | succ m=>rw [hq] at h;simp at h
    rw [hk0] at h
    simp at h
    subst h;exact ⟨by omega,by omega,hp⟩
def St.rank (s:St) (i:Nat):Nat:=((List.range i).filter fun j => !(s.t j).isEmpty).length
theorem St.loose_at {s:St} {k i:Nat} (h:s.loose[k]?=some i):s.rank i=k∧i < s.ls.length∧s.t i≠[]:=by
 obtain ⟨h1,h2,h3⟩:=filter_at _ _ _ _ h
 exact ⟨h1,h2,by cases ht:s.t i with
  | nil=>rw [ht] at h3;cases h3
  | cons x r=>simp⟩
theorem fold_set (f:Nat→Sec):∀ (is:List Nat) (l:List Sec),(is.foldl (fun l i=>l.set i (f i)) l).length=l.length∧∀ j,j < l.length→(is.foldl (fun l i=>l.set i (f i)) l).getD j Sec.zero=if j ∈ is then f j else l.getD j Sec.zero
 | [],l=>⟨rfl,fun j _=>by simp⟩
 | i :: r,l=>by
  obtain ⟨h1,h2⟩:=fold_set f r (l.set i (f i))
  rw [List.length_set] at h1
  refine ⟨h1,fun j hj=>?_⟩;rw [List.foldl_cons,h2 j (by rw [List.length_set];exact hj)]
  by_cases hr:j ∈ r
  · simp [hr]
  ·
   rw [if_neg hr]
   by_cases hji:j=i
   ·
    subst hji
    simp [List.getD,hj]
   · simp [hji,hr,List.getD,List.getElem?_set,Ne.symm hji]
structure Nums (w:World) (p:Option Addr) (n c:Nat) (zs:List Int):Prop where
 len:zs.length=n
 most:n≤9223372036854775807
 lies:0 < n→∃ b o,p=some ⟨b,o,none⟩∧∀ i,i < n→w.cell? ⟨b,o+i,none⟩=some (.int .i64 (zs.getD i 0))
 ok:∀ z ∈ zs,-9223372036854775808≤z∧z≤9223372036854775807
theorem Nums.nil (w:World):Nums w none 0 0 []:=⟨rfl,by omega,fun h=>absurd h (Nat.lt_irrefl 0),fun _ h=>by cases h⟩
theorem Ints.nums {w:World} {base:Nat} {v:Value} {xs:List Nat} (h:Ints w base v xs) (hs:∀ x ∈ xs,x < 65536):∃ p c,v=.slice p xs.length c∧(∀ g,v.ownBlock=some g→base≤g∧g < w.heap.size)∧Nums w p xs.length c (xs.map fun (x:Nat)=>(x:Int)):=by
 have hlt:=World.ownsRow.lt h
 rcases h.2 with ⟨rfl,h0⟩ | ⟨g,cap,cur,rfl,hb,hg,hn,hm,hsz,ht⟩
 · have:xs=[]:=List.eq_nil_of_length_eq_zero h0;subst this;exact ⟨none,0,rfl,(fun g hg=>by cases hg),Nums.nil w⟩
 ·
  refine ⟨_,cap,rfl,hlt,by simp,by unfold maxLen at hm;omega,fun _=>⟨g,0,rfl,fun i hi=>?_⟩,fun z hz=>?_⟩
  ·
   rw [Nat.zero_add,cell_of_row w g i cur TI (0,0) hg]
   have h2:cur.toList[i]?=(xs.map fun (x:Nat)=>Value.int .i64 (x:Int))[i]?:=by
    rw [← ht,List.getElem?_take,if_pos (by omega)]
   rw [← Array.getElem?_toList,h2]
   simp [List.getD,hi]
  ·
   obtain ⟨x,hx,rfl⟩:=List.mem_map.1 hz;have:=hs x hx
   omega
end Go.Proofs.YtdmhemgepdknhaaGreat
namespace Go.Proofs.YtdmhemgepdknhaaGreat
open Go.RowKit Go.Maps
theorem St.loose_small {s:St} (h:s.Ok):∀ x ∈ s.loose,x < 65536:=fun x hx=>by
 have:=(St.mem_loose.1 hx).1;have:=h.most
 omega
theorem St.loose_len (s:St):s.loose.length≤s.ls.length:=by
 unfold St.loose
 have:=List.length_filter_le (fun i => !(s.t i).isEmpty) (List.range s.ls.length)
 rwa [List.length_range] at this
theorem Nums.stays {w w':World} {p:Option Addr} {n c:Nat} {zs:List Int} (h:Nums w p n c zs) (g:∀ a,p=some a→0 < n→w'.heap[a.block]?=w.heap[a.block]?):Nums w' p n c zs:=
 ⟨h.len,h.most,fun hn=>by
  obtain ⟨b,o,e,hc⟩:=h.lies hn
  exact ⟨b,o,e,fun i hi=>(World.cell?_of_block (a:=⟨b,o+i,none⟩) (show w'.heap[b]?=w.heap[b]? from g _ e hn)).trans (hc i hi)⟩,h.ok⟩
theorem Nums.lt {w:World} {p:Option Addr} {n c:Nat} {zs:List Int} (h:Nums w p n c zs) {a:Addr} (e:p=some a) (hn:0 < n):a.block < w.heap.size:=by
 obtain ⟨b,o,e2,hc⟩:=h.lies hn
 rw [e] at e2
 cases e2
 exact World.block_lt_of_cell? w _ (hc 0 hn)
theorem grown_setCells (w:World) (g o:Nat) (vs:List Value):w.grownBy (w.setCells g o vs) (some g):=by
 obtain ⟨h1,h2,h3,h4⟩:=setCells_os g vs o w;exact ⟨h1,h2,h3,by rw [h4];exact Nat.le_refl _,fun k _ hk=>heap_setCells_other g vs o w k (fun e=>hk (by rw [e]))⟩
end Go.Proofs.YtdmhemgepdknhaaGreat
namespace Go.Proofs.YtdmhemgepdknhaaGreat
open Go.RowKit Go.Maps
def St.part (s:St) (k:Nat):List Sec:=(s.loose.take k).foldl (fun l i=>l.set i (s.nw i)) s.ls
def St.barrier (s:St):St:={ s with ls:=(List.range s.ls.length).map s.nw,t:=fun _=>[] }
theorem St.part_len (s:St) (k:Nat):(s.part k).length=s.ls.length:=(fold_set _ _ _).1
theorem St.part_succ {s:St} {k i:Nat} (h:s.loose[k]?=some i):s.part (k+1)=(s.part k).set i (s.nw i):=by
 unfold St.part
 obtain ⟨hk,e⟩:=List.getElem?_eq_some_iff.1 h;rw [List.take_succ_eq_append_getElem hk,List.foldl_append,e]
 rfl
theorem St.part_all (s:St):s.part s.loose.length=(List.range s.ls.length).map s.nw:=by
 apply List.ext_getElem?
 intro j
 by_cases hj:j < s.ls.length
 ·
  have h1:j < (s.part s.loose.length).length:=by rw [s.part_len];exact hj
  have h2:=(fold_set s.nw (s.loose.take s.loose.length) s.ls).2 j hj
  rw [List.take_length] at h2
  have h3:(s.part s.loose.length).getD j Sec.zero=s.nw j:=by
   unfold St.part
   rw [List.take_length,h2]
   split
   · rfl
   ·
    rename_i hn
    have:s.t j=[]:=by
     cases ht:s.t j with
     | nil=>rfl
     | cons x r=>exact absurd (St.mem_loose.2 ⟨hj,by rw [ht];simp⟩) hn
    rw [nw_none this]
  rw [List.getElem?_eq_getElem h1]
  simp only [List.getD,List.getElem?_eq_getElem h1,Option.getD_some] at h3
  rw [h3]
  simp [hj]
 · rw [List.getElem?_eq_none (by rw [s.part_len];omega),List.getElem?_eq_none (by simp;omega)]
theorem nw_other {s:St} {i:Nat} (h:s.t i≠[]) (l:List Sec):({ s with ls:=l }:St).nw i=s.nw i:=by
 unfold St.nw
 cases ht:s.t i with
 | nil=>exact absurd ht h
 | cons x r=>rw [List.getLastD_cons,List.getLastD_cons]
theorem DkAt.putL {w:World} {F:Nat→Prop} {b gl c:Nat} {m:Nat} {L:Nat→Value} {s:St} {n:Nat} (h:DkAt w F b (.slice (some ⟨gl,0,none⟩) n c) m L s) (i:Nat) (hi:i < s.ls.length) (x:Sec) :
  DkAt (w.setCells gl (i*256) x.cells) F b (.slice (some ⟨gl,0,none⟩) n c) m L { s with ls:=s.ls.set i x }∧Upd F F w (w.setCells gl (i*256) x.cells):=by
 obtain ⟨D,k,ho,r⟩:=h.map;have hFl:F gl:=h.ownL gl rfl;have hg:=grown_setCells w gl (i*256) x.cells;have hne:=row_ne h.ls (g:=gl) rfl h.blk ho
 have e:∀ j,F j→j≠gl→(w.setCells gl (i*256) x.cells).heap[j]?=w.heap[j]?:=fun j hj hn=>hg.block j (h.low j hj) (fun e=>hn (by cases e;rfl))
 have hl:(s.ls.set i x).length=s.ls.length:=List.length_set;refine ⟨⟨⟨by show 0 < (s.ls.set i x).length;rw [hl];exact h.ok.pos,by show (s.ls.set i x).length≤_;rw [hl];exact h.ok.most,fun j hj=>h.ok.out j (by have:(s.ls.set i x).length≤j:=hj;omega),h.ok.less,h.ok.lo,h.ok.hi⟩,h.blk.stays (e b h.ownB (fun e=>hne.1 e.symm)),h.ls.put i hi x,?_,fun j=>(h.rows j).stays fun g hg=>e g (h.ownR j g hg) (fun e=>h.apart0 j g hg (by rw [e];rfl)),h.apart,h.apart0,h.ownB,h.ownM,h.ownL,h.ownR,fun j hj=>Nat.lt_of_lt_of_le (h.low j hj) hg.size⟩,?_⟩
 ·
  show Loose _ m _ (s.ls.set i x).length L s.t
  rw [hl];exact h.map.stays (e m h.ownM (fun e=>hne.2 e.symm))
 · exact ⟨hg.os,hg.tape,hg.output,hg.size,fun j hj hF=>hg.block j hj (fun e=>hF (by cases e;exact hFl)),fun j hj=>.inl hj⟩
def Sb (b gl i:Nat) (lv:Value) (x:Sec) (d:Nat) (v:Value) (_:World):Prop:=
 match d with
 | 18 | 19 | 23=>v=.pointer (some ⟨b,0,none⟩)
 | 20=>v=.pointer (some ⟨b,0,none⟩)
 | 21=>v=lv
 | 22 | 24=>v=.int .i64 (i:Int)
 | 25=>v=.agg (sec x)
 | 26=>v=.pointer (some ⟨gl,i*256,none⟩)
 | _=>True
def Fb (W0:World) (gl i:Nat) (x:Sec) (w:World):Prop:=∃ w1,Gr W0 w1∧w=w1.setCells gl (i*256) x.cells
theorem wp_store_at {op:Oper} {a:Act} {w:World} {K:Act→World→Prop} {Q:Exit→Act→World→Prop} (x y:Operand) (ho:op.op=.store TS x y) {b o:Nat} {s:Sec} (ht:w.there b o 256) (hx:a.eval x=.pointer (some ⟨b,o,none⟩)) (hy:a.eval y=.agg (sec s))
  (h:K (a.put op.dst undef) (w.setCells b o s.cells)):op.wp Tryz.prog a w K Q:=
 wp_store_mid TS x y ho b o (sec s) hx hy (by rw [sec_size];exact ht) (by rw [sec_size];exact size_sec) (sec_one s) h
set_option maxRecDepth 100000 in
theorem Barrier_dead {F:Nat→Prop} {p:Value} {s:St} (w:World) (h:Dk w F p s) (hd:s.dead=true):Calls Tryz.prog 49 #[p] w fun e w'=>e=.returned (.int .i64 8)∧w=w':=by
 obtain ⟨b,lv,m,L,rfl,h⟩:=h;have HM:=Lib.hid (missing_no w h);obtain ⟨h0,h1,h2,h3,h4⟩:=h.cells
 rw [hd] at h3
 clear h h0 h1 h2 h4 hd
 go_enter Tryz.func49,Tryz.ntmps49
 go_wp2_with fail;refine HM.out.mono ?_;rintro e w1 ⟨rfl,rfl⟩
 go_wp2
 go_ret
 exact ⟨rfl,rfl⟩
set_option maxRecDepth 100000 in
set_option maxHeartbeats 4000000 in
theorem Barrier_yes {F:Nat→Prop} {p:Value} {s:St} (w:World) (h:Dk w F p s) (hw:s.writes≤1000000000) (hd:s.dead=false):Calls Tryz.prog 49 #[p] w fun e w'=>Chg F p s.barrier (.int .i64 0) w e w':=by
 obtain ⟨b,lv,m,L,rfl,h⟩:=h;have HM:=Lib.hid (missing_no w h);have HD:=Lib.hid h;have HLo:=Lib.hid (Loose_any w ⟨_,_,_,_,rfl,h⟩ hw);obtain ⟨h0,h1,h2,h3,h4⟩:=h.cells
 rw [hd] at h3
 have HDd:=Lib.hid hd;clear h h0 h1 h2 h4 hd
 go_enter Tryz.func49,Tryz.ntmps49
 go_wp2_with fail;refine HM.out.mono ?_;rintro e w1 ⟨rfl,rfl⟩;go_wp2_with fail;refine HLo.out.mono ?_;rintro e w2 ⟨lo,rfl,hi,hg⟩;obtain ⟨p2,c2,rfl,hfar,hnums⟩:=Ints.nums hi (St.loose_small HD.out.ok);have HD2:=Lib.hid (HD.out.gr hg);have HU2:=Lib.hid (Upd.of_gr (F:=F) hg);have HI:=Lib.hid hnums
 have HFar:Hid (∀ a,p2=some a→¬ F a.block):=Lib.hid fun a ha hF=>by
  subst ha;have:=(hfar a.block rfl).1;have:=HD.out.low _ hF
  omega
 obtain ⟨K,hK⟩:∃ K,K=s.loose.length:=⟨_,rfl⟩
 have hKs:K≤65536:=by rw [hK];have:=s.loose_len;have:=HD2.out.ok.most;omega
 rw [← hK] at HI
 have HK:=Lib.hid hK;obtain ⟨gl,cl,hv⟩:=HD2.out.lv;rw [← hK];obtain ⟨N,hN⟩:∃ N,N=s.ls.length:=⟨_,rfl⟩
 rw [← hN] at hv
 have HN:=Lib.hid hN;subst hv;clear hi hfar hnums hg hK hN HM h3 HLo;go_wp2_with fail
 go_loopw [14] (fun i wr=>∃ k:Nat,k≤K∧i=.int .i64 k∧Hid (DkAt wr F b (.slice (some ⟨gl,0,none⟩) N cl) m L { s with ls:=s.part k })∧Hid (Upd F F w2 wr)) (fun i _=>K - (intOf i).toNat)
 case atStart=>exact ⟨0,Nat.zero_le _,rfl,HD2.out,Upd.of_gr (Gr.refl _)⟩
 case round=>
  obtain ⟨k,hk,rfl,hd,hu⟩:=hrel
  by_cases hlt:k < K
  ·
   obtain ⟨b2,o2,rfl,hc2⟩:=(HI.out.stays (w':=wr) (fun a ha hn=>hu.out.block _ (HI.out.lt ha hn) (fun e=>HFar.out a ha e))).lies (by omega)
   have hkk:k < s.loose.length:=by rw [← HK.out];exact hlt
   obtain ⟨i,hi⟩:∃ i,s.loose[k]?=some i:=⟨_,List.getElem?_eq_getElem hkk⟩;have hci:=hc2 k hlt
   have ei:(s.loose.map fun (x:Nat)=>(x:Int)).getD k 0=(i:Int):=by simp [List.getD,hi]
   rw [ei] at hci
   obtain ⟨hrank,hiN,hti⟩:=St.loose_at hi
   have hiP:i < (s.part k).length:=by rw [s.part_len];exact hiN
   have HX:Hid (({ s with ls:=s.part k }:St).nw i=s.nw i):=Lib.hid (nw_other hti _);have HS:=Lib.hid (St.part_succ hi);have HIP:Hid (i < (s.part k).length):=Lib.hid hiP
   have hiN2:i < N:=by rw [HN.out];exact hiN
   have HDr:=hd;have HUr:=hu;clear hc2 ei hrank hti hkk hi hiN hiP hd hu;go_wp2_with fail
   have HCell:Hid (∀ W,Gr wr W→W.cell? ⟨b,0,none⟩=some (.slice (some ⟨gl,0,none⟩) N cl)):=Lib.hid fun W h=>(HDr.out.gr h).cells.1
   have HNw:Hid (∀ W,Gr wr W→Calls Tryz.prog 55 #[.pointer (some ⟨b,0,none⟩),.int .i64 (i:Int)] W fun e w'=>e=.returned (.agg (sec (s.nw i)))∧Gr W w'):=Lib.hid fun W h=>by
    have:=newest_any W (HDr.out.gr h) i HIP.out
    rw [HX.out] at this
    exact this
   have HTh:Hid (∀ W,Gr wr W→W.there gl (i*256) 256):=Lib.hid fun W h=>(HDr.out.gr h).ls.there i HIP.out
   refine Flow.regionZ 9 9 (by kernel_rfl) [] 12 (Sb b gl i (.slice (some ⟨gl,0,none⟩) N cl) (s.nw i)) (Gr wr) (Fb wr gl i (s.nw i)) (fun _=>True) (fun _ _ _=>True) (by kernel_rfl) (by kernel_rfl) (by kernel_rfl) (fun _ _ _ _ _ _ h _=>h) ⟨rfl,rfl,rfl,Nat.le_refl _,fun _ _=>rfl⟩ True.intro ?steps ?fin
   case fin=>
    intro a W hfr hfin hsl
    clear hsl;have e:=Flow.frame hfr [18,19,20,21,22,23,24,25,26] (List.range 32) (by kernel_rfl) (by kernel_rfl)
    simp [List.range,List.range.loop] at e
    rw [e];clear e hfr;obtain ⟨w1,hg1,rfl⟩:=hfin;obtain ⟨hd1,hu1⟩:=(HDr.out.gr hg1).putL i HIP.out (s.nw i);have HD3:=Lib.hid hd1;have HU3:=Lib.hid (HUr.out.trans ((Upd.of_gr hg1).trans hu1));clear hg1 hd1 hu1 HCell HNw HTh
    rename_i K2 hK2
    refine hK2 _ _ ?_
    go_wp2
    go_roundw
    case rel=>exact ⟨k+1,by omega,by go_num,by rw [HS.out];exact HD3.out,HU3.out⟩
    case measure=>simp [intOf];omega
   case steps=>
    refine .cons (fun a W hfr hinv hear hdep K hK=>?_) ?_
    · have t0:=tAt (.pointer (some ⟨b,0,none⟩)) (hfr.at 0 (by kernel_rfl));refine fW0 rfl ?_;clear hfr hdep hear;go_simp;exact hK _ _ True.intro hinv (fun _=>True.intro) (dsT rfl)
    refine .cons (fun a W hfr hinv hear hdep K hK=>?_) ?_
    · have t18:=tAt (.pointer (some ⟨b,0,none⟩)) (hdep 18 (by kernel_rfl));refine fW0 rfl ?_;clear hfr hdep hear;go_simp;exact hK _ _ True.intro hinv (fun _=>True.intro) (dsT rfl)
    refine .cons (fun a W hfr hinv hear hdep K hK=>?_) ?_
    · have t19:=tAt (.pointer (some ⟨b,0,none⟩)) (hdep 19 (by kernel_rfl));refine fW0 rfl ?_;clear hfr hdep hear;go_simp;exact hK _ _ True.intro hinv (fun _=>True.intro) (dsT rfl)
    refine .cons (fun a W hfr hinv hear hdep K hK=>?_) ?_
    · have t20:=tAt (.pointer (some ⟨b,0,none⟩)) (hdep 20 (by kernel_rfl));have hc:=HCell.out W hinv;refine fW0 rfl ?_;clear hfr hdep hear;go_simp;exact hK _ _ True.intro hinv (fun _=>True.intro) (dsT rfl)
    refine .cons (fun a W hfr hinv hear hdep K hK=>?_) ?_
    · have t4:=tAt (.int .i64 (i:Int)) (hfr.at 4 (by kernel_rfl));refine fW0 rfl ?_;clear hfr hdep hear;go_simp;exact hK _ _ True.intro hinv (fun _=>True.intro) (dsT rfl)
    refine .cons (fun a W hfr hinv hear hdep K hK=>?_) ?_
    · have t0:=tAt (.pointer (some ⟨b,0,none⟩)) (hfr.at 0 (by kernel_rfl));refine fW0 rfl ?_;clear hfr hdep hear;go_simp;exact hK _ _ True.intro hinv (fun _=>True.intro) (dsT rfl)
    refine .cons (fun a W hfr hinv hear hdep K hK=>?_) ?_
    · have t4:=tAt (.int .i64 (i:Int)) (hfr.at 4 (by kernel_rfl));refine fW0 rfl ?_;clear hfr hdep hear;go_simp;exact hK _ _ True.intro hinv (fun _=>True.intro) (dsT rfl)
    refine .cons (fun a W hfr hinv hear hdep K hK=>?_) ?_
    · have t23:=tAt (.pointer (some ⟨b,0,none⟩)) (hdep 23 (by kernel_rfl));have t24:=tAt (.int .i64 (i:Int)) (hdep 24 (by kernel_rfl));refine fW0 rfl ?_;clear hfr hdep;go_simp;refine (HNw.out W hinv).mono ?_;rintro e W' ⟨rfl,g1⟩;exact hK _ _ True.intro (Gr.trans hinv g1) (fun _=>True.intro) (dsT rfl)
    refine .cons (fun a W hfr hinv hear hdep K hK=>?_) ?_
    · have t21:=tAt (.slice (some ⟨gl,0,none⟩) N cl) (hdep 21 (by kernel_rfl));have t22:=tAt (.int .i64 (i:Int)) (hdep 22 (by kernel_rfl));refine fW0 rfl ?_;clear hfr hdep hear;go_simp;exact hK _ _ True.intro hinv (fun _=>True.intro) (dsT rfl)
    refine .cons (fun a W hfr hinv hear hdep K hK=>?_) ?_
    · have s26:a.tmps.getD 26 undef=.pointer (some ⟨gl,i*256,none⟩):=hdep 26 (by kernel_rfl);have t26:=tmpAt s26;have s25:a.tmps.getD 25 undef=.agg (sec (s.nw i)):=hdep 25 (by kernel_rfl);have t25:=tmpAt s25;refine fW0 rfl ?_;clear hfr hdep;refine wp_store_at (.tmp 26) (.tmp 25) rfl (HTh.out W hinv) (by simpa [Act.eval] using s26) (by simpa [Act.eval] using s25) ?_;exact hK _ _ True.intro ⟨W,hinv,rfl⟩ True.intro (fun d hd=>by cases hd)
    exact True.intro
  ·
   obtain rfl:k=K:=by omega
   rw [HK.out,s.part_all] at hd
   have hmm:=@run_makeMap Tryz.prog;have ha:Gr wr (wr.alloc (.map #[] 0)):=(Gr.refl wr).alloc (Nat.le_refl _) _;have hdA:=hd.out.gr ha;have hc1:=hdA.blk.cell 1;have hf1:=hdA.blk.frozen 1
   simp at hc1
   have hne:=hd.out.neM;have HB:=Lib.hid (hdA.blk.set 1 (.map (some wr.heap.size)));have hblt:=hd.out.low b hd.out.ownB
   have hsz:((wr.alloc (.map #[] 0)).setCell ⟨b,1,none⟩ (.map (some wr.heap.size))).heap.size=wr.heap.size+1:=by simp [World.setCell]
   have hst:∀ j,j≠b→((wr.alloc (.map #[] 0)).setCell ⟨b,1,none⟩ (.map (some wr.heap.size))).heap[j]?=(wr.alloc (.map #[] 0)).heap[j]?:=fun j hj=>Below.heap_setCell _ _ _ j hj
   have HF:Hid (DkAt ((wr.alloc (.map #[] 0)).setCell ⟨b,1,none⟩ (.map (some wr.heap.size))) (fun j=>F j∨j=wr.heap.size) b (.slice (some ⟨gl,0,none⟩) N cl) wr.heap.size (fun _=>nilS) s.barrier):=Lib.hid (by
    have hl:s.barrier.ls.length=s.ls.length:=by simp [St.barrier]
    obtain ⟨D,n,ho,_⟩:=hdA.map;refine ⟨⟨by rw [hl];exact HD2.out.ok.pos,by rw [hl];exact HD2.out.ok.most,fun _ _=>rfl,fun _=>Nat.zero_le _,HD2.out.ok.lo,HD2.out.ok.hi⟩,?_,hdA.ls.stays fun g hg=>hst g (row_ne hdA.ls hg hdA.blk ho).1,?_,fun _=>Row.empty _,(fun i j g h=>by cases h),(fun i g h=>by cases h),.inl hd.out.ownB,.inr rfl,fun g hg=>.inl (hd.out.ownL g hg),(fun i g h=>by cases h),?_⟩
    ·
     have:=HB.out
     simpa [St.barrier] using this
    · exact Loose.made.stays (hst _ (by omega))
    ·
     rintro j (hj | rfl)
     · rw [hsz];have:=hd.out.low j hj;omega
     · rw [hsz];omega)
   have HUf:Hid (Upd F (fun j=>F j∨j=wr.heap.size) w2 ((wr.alloc (.map #[] 0)).setCell ⟨b,1,none⟩ (.map (some wr.heap.size)))):=Lib.hid (by
    have h1:=(hu.out.trans (Upd.of_gr ha)).trans (upd_cell (i:=1) hd.out.ownB (.map (some wr.heap.size)));refine ⟨h1.os,h1.tape,h1.output,h1.size,h1.block,fun j hj=>?_⟩
    rcases hj with hj | rfl
    · exact .inl hj
    · exact .inr hu.out.size)
   have HU:=Lib.hid (HU2.out.trans HUf.out);clear hd ha hdA hne HB hblt hsz hst hu HUf
   go_wp2
   go_ret
   exact ⟨_,rfl,⟨_,_,_,_,rfl,HF.out⟩,HU.out⟩
end Go.Proofs.YtdmhemgepdknhaaGreat
