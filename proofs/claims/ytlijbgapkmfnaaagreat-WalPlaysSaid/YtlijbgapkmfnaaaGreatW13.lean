/-
  Part 13 of what the laws of stage 6 rest on: contracts of the functions that they call, and what these rest on.
-/
import Derived.Deep.RegionHeld3
import Derived.BigQuiet
import Derived.Test.YtlijbgapkmfnaaaGreatW1
import Derived.Test.YtlijbgapkmfnaaaGreatW3
import Derived.Test.YtlijbgapkmfnaaaGreatW6
import Derived.Test.YtlijbgapkmfnaaaGreatW8
import Derived.Test.YtlijbgapkmfnaaaGreatW9
import Derived.Test.YtlijbgapkmfnaaaGreatW10
import Derived.Test.YtlijbgapkmfnaaaGreatW11
import Derived.Test.YtlijbgapkmfnaaaGreatW12
set_option linter.unusedVariables false
set_option linter.unusedSimpArgs false
namespace Go.Proofs.YtlijbgapkmfnaaaGreat
open Go.RowKit Go.Maps
def LgRow (U:World) (g k l e:Nat) (c:Rc) (pb:Option Addr) (nb cb:Nat) (pa:Option Addr) (na ca:Nat):Prop:=
 U.cell? ⟨g,k*10,none⟩=some (.int .u64 l)∧U.cell? ⟨g,k*10+1,none⟩=some (.int .u64 e)∧U.cell? ⟨g,k*10+2,none⟩=some (.int .i64 c.k)∧U.cell? ⟨g,k*10+2+1,none⟩=some (.int .u64 c.t)∧U.cell? ⟨g,k*10+2+2,none⟩=some (.int .u64 c.p)∧U.cell? ⟨g,k*10+2+3,none⟩=some (.int .u64 c.x) ∧
  U.cell? ⟨g,k*10+2+4,none⟩=some (.int .i64 c.g)∧U.cell? ⟨g,k*10+2+5,none⟩=some (.int .i64 c.o)∧U.cell? ⟨g,k*10+2+6,none⟩=some (.slice pb nb cb)∧U.cell? ⟨g,k*10+2+7,none⟩=some (.slice pa na ca)
theorem OwnR.lgd {w:World} {X:Nat} {v:Value} {L:List (Nat × RX)} {n:Nat} {p:Option Addr} {c:Nat} (h:OwnR ShL w X TLd v L) (hv:v=.slice p n c) (hn:L.length=n) (k:Nat) (hk:k < n) :
  ∃ g y pb nb cb pa na ca,p=some ⟨g,0,none⟩∧(L.map LX3)[k]?=some y∧∀ U,Gr w U→LgRow U g k y.1 y.2.1 y.2.2 pb nb cb pa na ca∧Byt U pb nb cb y.2.2.b∧Byt U pa na ca y.2.2.a:=by
 subst hn
 obtain ⟨g,cap,hv2,_,hg,hc⟩:=h.at (by omega)
 rw [hv] at hv2
 simp only [Value.slice.injEq] at hv2
 have hcs:=fun j hj=>hc k hk j hj
 have hea:=h.each _ (List.getElem_mem hk);refine ⟨g,LX3 L[k],L[k].2.pb,L[k].2.nb,L[k].2.cb,L[k].2.pa,L[k].2.na,L[k].2.ca,hv2.1,by simp [hk],fun U gr=>?_⟩
 have hgu:∀ j,j < 10→U.cell? ⟨g,k*10+j,none⟩=(ShL.cs L[k])[j]?:=fun j hj=>((Below.cell gr (p:=⟨g,k*10+j,none⟩) hg).trans (hcs j hj))
 exact ⟨⟨hgu 0 (by omega),hgu 1 (by omega),hgu 2 (by omega),hgu 3 (by omega),hgu 4 (by omega),hgu 5 (by omega),hgu 6 (by omega),hgu 7 (by omega),hgu 8 (by omega),hgu 9 (by omega)⟩,
  ((hea ⟨L[k].2.pb,L[k].2.nb,L[k].2.cb,L[k].2.c.b⟩ (by simp [ShL])).1).kept gr,((hea ⟨L[k].2.pa,L[k].2.na,L[k].2.ca,L[k].2.c.a⟩ (by simp [ShL])).1).kept gr⟩
def SlSm (g:Nat) (g2:Nat) (k:Nat) (l:Nat) (e:Nat) (n:Nat) (c:Nat) (c2:Nat) (ck:Int) (ct:Nat) (cp:Nat) (cx:Nat) (cg:Int) (co:Int) (pb:Option Addr) (nb:Nat) (cb:Nat) (pa:Option Addr) (na:Nat) (ca:Nat) (qb:Option Addr) (mb:Nat) (db:Nat) (qa:Option Addr) (ma:Nat) (da:Nat) (slot:Nat) (v:Value) (_:World):Prop:=
 match slot with
 | 17 | 29 | 42=>v=.slice (some ⟨g,0,none⟩) n c
 | 18 | 23 | 30 | 35 | 43 | 48=>v=.int .i64 (k:Int)
 | 19 | 20 | 31 | 44=>v=.pointer (some ⟨g,k*10,none⟩)
 | 21 | 26=>v=.int .u64 l
 | 22 | 34 | 47=>v=.slice (some ⟨g2,0,none⟩) n c2
 | 24 | 25 | 36 | 49=>v=.pointer (some ⟨g2,k*10,none⟩)
 | 27 | 28 | 39 | 40 | 41 | 53 | 54=>v=.bool false
 | 32=>v=.pointer (some ⟨g,k*10+1,none⟩)
 | 33 | 38=>v=.int .u64 e
 | 37=>v=.pointer (some ⟨g2,k*10+1,none⟩)
 | 45=>v=.pointer (some ⟨g,k*10+2,none⟩)
 | 46=>v=.agg #[.int .i64 ck,.int .u64 ct,.int .u64 cp,.int .u64 cx,.int .i64 cg,.int .i64 co,.slice pb nb cb,.slice pa na ca]
 | 50=>v=.pointer (some ⟨g2,k*10+2,none⟩)
 | 51=>v=.agg #[.int .i64 ck,.int .u64 ct,.int .u64 cp,.int .u64 cx,.int .i64 cg,.int .i64 co,.slice qb mb db,.slice qa ma da]
 | 52=>v=.bool true
 | _=>True
set_option maxRecDepth 100000 in
set_option maxHeartbeats 1000000 in
theorem sameLg_any {X Y:Nat} (va vb:Value) (A B:List (Nat × RX)) (w:World) (hA:OwnR ShL w X TLd va A) (hB:OwnR ShL w Y TLd vb B) (he:A.map LX3=B.map LX3) (hl:A.length≤1000000):Calls Tryz.prog 54 #[va,vb] w (RetB true w):=by
 have hlen:B.length=A.length:=by
  have:=congrArg List.length he
  simp only [List.length_map] at this
  omega
 obtain ⟨n,hn⟩:∃ n,n=A.length:=⟨_,rfl⟩;obtain ⟨p,c,rfl,_,_,_,_⟩:=hA.shape n hn.symm;obtain ⟨p2,c2,rfl,_,_,_,_⟩:=hB.shape n (by omega)
 have HR:Hid (∀ k,k < n→∃ (g g2:Nat) (y:Nat × Nat × Rc) (pb:Option Addr) (nb cb:Nat) (pa:Option Addr) (na ca:Nat) (qb:Option Addr) (mb db:Nat) (qa:Option Addr) (ma da:Nat),p=some ⟨g,0,none⟩∧p2=some ⟨g2,0,none⟩∧∀ U,Gr w U→(LgRow U g k y.1 y.2.1 y.2.2 pb nb cb pa na ca∧LgRow U g2 k y.1 y.2.1 y.2.2 qb mb db qa ma da)∧Byt U pb nb cb y.2.2.b∧Byt U pa na ca y.2.2.a∧Byt U qb mb db y.2.2.b∧Byt U qa ma da y.2.2.a):=Lib.hid fun k hk=>by
  obtain ⟨g,y,pb,nb,cb,pa,na,ca,h1,h2,h3⟩:=hA.lgd rfl hn.symm k hk;obtain ⟨g2,y2,qb,mb,db,qa,ma,da,h4,h5,h6⟩:=hB.lgd rfl (by omega) k hk
  obtain rfl:y=y2:=by rw [he,h5] at h2;exact (Option.some.inj h2).symm
  exact ⟨g,g2,y,pb,nb,cb,pa,na,ca,qb,mb,db,qa,ma,da,h1,h4,fun U gr=>⟨⟨(h3 U gr).1,(h6 U gr).1⟩,(h3 U gr).2.1,(h3 U gr).2.2,(h6 U gr).2.1,(h6 U gr).2.2⟩⟩
 have hn2:n≤1000000:=by omega
 clear hA hB he hl hlen hn
 go_enter Tryz.func54,Tryz.ntmps54
 go_wp2_with fail
 go_loopw [5] (fun kv wr=>∃ k:Nat,k≤n∧kv=.int .i64 (k:Int)∧Hid (Gr w wr)) (fun kv _=>n - (intOf kv).toNat)
 case atStart=>exact ⟨0,Nat.zero_le _,rfl,Lib.hid (Gr.refl _)⟩
 case round=>
  obtain ⟨k,hk,rfl,HG⟩:=hrel
  by_cases hlt:k < n
  ·
   have g3:(k:Int) < (n:Int):=by omega
   obtain ⟨g,g2,⟨l,e,ck,ct,cp,cx,cg,co,xb,xa⟩,pb,nb,cb,pa,na,ca,qb,mb,db,qa,ma,da,rfl,rfl,hrow⟩:=HR.out k hlt
   have HFA:Hid (∀ W,Gr wr W→LgRow W g k l e ⟨ck,ct,cp,cx,cg,co,xb,xa⟩ pb nb cb pa na ca∧LgRow W g2 k l e ⟨ck,ct,cp,cx,cg,co,xb,xa⟩ qb mb db qa ma da):=Lib.hid fun W gr=>(hrow W (Gr.trans HG.out gr)).1
   have HSM:Hid (∀ W,Gr wr W→Calls Tryz.prog 27 #[.agg #[.int .i64 ck,.int .u64 ct,.int .u64 cp,.int .u64 cx,.int .i64 cg,.int .i64 co,.slice pb nb cb,.slice pa na ca],.agg #[.int .i64 ck,.int .u64 ct,.int .u64 cp,.int .u64 cx,.int .i64 cg,.int .i64 co,.slice qb mb db,.slice qa ma da]] W (RetB true W)):=Lib.hid fun W gr=>by
    obtain ⟨_,h1,h2,h3,h4⟩:=hrow W (Gr.trans HG.out gr);have h:=refSameRec_any ⟨ck,ct,cp,cx,cg,co,xb,xa⟩ ⟨ck,ct,cp,cx,cg,co,xb,xa⟩ pb nb cb pa na ca qb mb db qa ma da W h1 h2 h3 h4
    rw [sameR_self] at h
    exact h
   have HKL:Hid ((k:Int) < (n:Int)∧k < n∧decide (n≤k)=false):=Lib.hid ⟨by omega,hlt,decide_eq_false (by omega)⟩;obtain ⟨k2,hk2⟩:∃ k2,k2=k+1:=⟨_,rfl⟩
   have hq:IntKind.i64.wrap ((k:Int)+1)=(k2:Int):=by rw [IntWalk.i64_in _ (by omega)];omega
   have HK2:Hid (k2≤n∧n - k2 < n - k):=Lib.hid ⟨by omega,by omega⟩;clear hrow hk2 hlt hk;go_wp2_with fail;refine Flow.region (SlSm g g2 k l e n c c2 ck ct cp cx cg co pb nb cb pa na ca qb mb db qa ma da) (Gr wr) (fun _ _=>True) (by kernel_rfl) (by kernel_rfl) (fun _ _ _ _ h _=>h) ⟨rfl,rfl,rfl,Nat.le_refl _,fun _ _=>rfl⟩ ?steps ?fin
   case steps=>
    refine .cons (fun a W hfr hinv hdep K hK=>?_) ?_
    · have t0:=tAt (.slice (some ⟨g,0,none⟩) n c) (hfr.at 0 (by kernel_rfl));refine fW0 rfl ?_;clear hfr hdep;go_simp;exact hK _ _ True.intro hinv (dsT (by trivial))
    refine .cons (fun a W hfr hinv hdep K hK=>?_) ?_
    · have t5:=tAt (.int .i64 (k:Int)) (hfr.at 5 (by kernel_rfl));refine fW0 rfl ?_;clear hfr hdep;go_simp;exact hK _ _ True.intro hinv (dsT (by trivial))
    refine .cons (fun a W hfr hinv hdep K hK=>?_) ?_
    · have t17:=tAt (.slice (some ⟨g,0,none⟩) n c) (hdep 17 (by kernel_rfl));have t18:=tAt (.int .i64 (k:Int)) (hdep 18 (by kernel_rfl));have hkl:=HKL.out;refine fW0 rfl ?_;clear hfr hdep;go_simp;exact hK _ _ True.intro hinv (dsT (by trivial))
    refine .cons (fun a W hfr hinv hdep K hK=>?_) ?_
    · have t19:=tAt (.pointer (some ⟨g,k*10,none⟩)) (hdep 19 (by kernel_rfl));refine fW0 rfl ?_;clear hfr hdep;go_simp;exact hK _ _ True.intro hinv (dsT (by trivial))
    refine .cons (fun a W hfr hinv hdep K hK=>?_) ?_
    · have t20:=tAt (.pointer (some ⟨g,k*10,none⟩)) (hdep 20 (by kernel_rfl));obtain ⟨⟨x0,x1,x2,x3,x4,x5,x6,x7,x8,x9⟩,y0,y1,y2,y3,y4,y5,y6,y7,y8,y9⟩:=HFA.out W hinv;refine fW0 rfl ?_;clear hfr hdep;go_simp;exact hK _ _ True.intro hinv (dsT (by trivial))
    refine .cons (fun a W hfr hinv hdep K hK=>?_) ?_
    · have t1:=tAt (.slice (some ⟨g2,0,none⟩) n c2) (hfr.at 1 (by kernel_rfl));refine fW0 rfl ?_;clear hfr hdep;go_simp;exact hK _ _ True.intro hinv (dsT (by trivial))
    refine .cons (fun a W hfr hinv hdep K hK=>?_) ?_
    · have t5:=tAt (.int .i64 (k:Int)) (hfr.at 5 (by kernel_rfl));refine fW0 rfl ?_;clear hfr hdep;go_simp;exact hK _ _ True.intro hinv (dsT (by trivial))
    refine .cons (fun a W hfr hinv hdep K hK=>?_) ?_
    · have t22:=tAt (.slice (some ⟨g2,0,none⟩) n c2) (hdep 22 (by kernel_rfl));have t23:=tAt (.int .i64 (k:Int)) (hdep 23 (by kernel_rfl));have hkl:=HKL.out;refine fW0 rfl ?_;clear hfr hdep;go_simp;exact hK _ _ True.intro hinv (dsT (by trivial))
    refine .cons (fun a W hfr hinv hdep K hK=>?_) ?_
    · have t24:=tAt (.pointer (some ⟨g2,k*10,none⟩)) (hdep 24 (by kernel_rfl));refine fW0 rfl ?_;clear hfr hdep;go_simp;exact hK _ _ True.intro hinv (dsT (by trivial))
    refine .cons (fun a W hfr hinv hdep K hK=>?_) ?_
    · have t25:=tAt (.pointer (some ⟨g2,k*10,none⟩)) (hdep 25 (by kernel_rfl));obtain ⟨⟨x0,x1,x2,x3,x4,x5,x6,x7,x8,x9⟩,y0,y1,y2,y3,y4,y5,y6,y7,y8,y9⟩:=HFA.out W hinv;refine fW0 rfl ?_;clear hfr hdep;go_simp;exact hK _ _ True.intro hinv (dsT (by trivial))
    refine .cons (fun a W hfr hinv hdep K hK=>?_) ?_
    · have t21:=tAt (.int .u64 l) (hdep 21 (by kernel_rfl));have t26:=tAt (.int .u64 l) (hdep 26 (by kernel_rfl));refine fW0 rfl ?_;clear hfr hdep;go_simp;exact hK _ _ True.intro hinv (dsT (by trivial))
    refine .cons (fun a W hfr hinv hdep K hK=>?_) ?_
    · have t27:=tAt (.bool false) (hdep 27 (by kernel_rfl));refine fW0 rfl ?_;clear hfr hdep;go_simp;exact hK _ _ True.intro hinv (dsT (by trivial))
    refine .cons (fun a W hfr hinv hdep K hK=>?_) ?_
    · have sg:a.tmps.getD 28 undef=.bool false:=hdep 28 (by kernel_rfl);have t0:=tAt (.slice (some ⟨g,0,none⟩) n c) (hfr.at 0 (by kernel_rfl));rw [if_pos (Flow.wanted_yes 11 false 28 rfl (by kernel_rfl) sg)];clear hfr hdep;go_simp;exact hK _ _ True.intro hinv (dsT (by trivial))
    refine .cons (fun a W hfr hinv hdep K hK=>?_) ?_
    · have sg:a.tmps.getD 28 undef=.bool false:=hdep 28 (by kernel_rfl);have t5:=tAt (.int .i64 (k:Int)) (hfr.at 5 (by kernel_rfl));rw [if_pos (Flow.wanted_yes 11 false 28 rfl (by kernel_rfl) sg)];clear hfr hdep;go_simp;exact hK _ _ True.intro hinv (dsT (by trivial))
    refine .cons (fun a W hfr hinv hdep K hK=>?_) ?_
    · have sg:a.tmps.getD 28 undef=.bool false:=hdep 28 (by kernel_rfl);have t29:=tAt (.slice (some ⟨g,0,none⟩) n c) (hdep 29 (by kernel_rfl));have t30:=tAt (.int .i64 (k:Int)) (hdep 30 (by kernel_rfl));have hkl:=HKL.out;rw [if_pos (Flow.wanted_yes 11 false 28 rfl (by kernel_rfl) sg)];clear hfr hdep;go_simp;exact hK _ _ True.intro hinv (dsT (by trivial))
    refine .cons (fun a W hfr hinv hdep K hK=>?_) ?_
    · have sg:a.tmps.getD 28 undef=.bool false:=hdep 28 (by kernel_rfl);have t31:=tAt (.pointer (some ⟨g,k*10,none⟩)) (hdep 31 (by kernel_rfl));rw [if_pos (Flow.wanted_yes 11 false 28 rfl (by kernel_rfl) sg)];clear hfr hdep;go_simp;exact hK _ _ True.intro hinv (dsT (by trivial))
    refine .cons (fun a W hfr hinv hdep K hK=>?_) ?_
    · have sg:a.tmps.getD 28 undef=.bool false:=hdep 28 (by kernel_rfl);have t32:=tAt (.pointer (some ⟨g,k*10+1,none⟩)) (hdep 32 (by kernel_rfl));obtain ⟨⟨x0,x1,x2,x3,x4,x5,x6,x7,x8,x9⟩,y0,y1,y2,y3,y4,y5,y6,y7,y8,y9⟩:=HFA.out W hinv;rw [if_pos (Flow.wanted_yes 11 false 28 rfl (by kernel_rfl) sg)];clear hfr hdep;go_simp;exact hK _ _ True.intro hinv (dsT (by trivial))
    refine .cons (fun a W hfr hinv hdep K hK=>?_) ?_
    · have sg:a.tmps.getD 28 undef=.bool false:=hdep 28 (by kernel_rfl);have t1:=tAt (.slice (some ⟨g2,0,none⟩) n c2) (hfr.at 1 (by kernel_rfl));rw [if_pos (Flow.wanted_yes 11 false 28 rfl (by kernel_rfl) sg)];clear hfr hdep;go_simp;exact hK _ _ True.intro hinv (dsT (by trivial))
    refine .cons (fun a W hfr hinv hdep K hK=>?_) ?_
    · have sg:a.tmps.getD 28 undef=.bool false:=hdep 28 (by kernel_rfl);have t5:=tAt (.int .i64 (k:Int)) (hfr.at 5 (by kernel_rfl));rw [if_pos (Flow.wanted_yes 11 false 28 rfl (by kernel_rfl) sg)];clear hfr hdep;go_simp;exact hK _ _ True.intro hinv (dsT (by trivial))
    refine .cons (fun a W hfr hinv hdep K hK=>?_) ?_
    · have sg:a.tmps.getD 28 undef=.bool false:=hdep 28 (by kernel_rfl);have t34:=tAt (.slice (some ⟨g2,0,none⟩) n c2) (hdep 34 (by kernel_rfl));have t35:=tAt (.int .i64 (k:Int)) (hdep 35 (by kernel_rfl));have hkl:=HKL.out;rw [if_pos (Flow.wanted_yes 11 false 28 rfl (by kernel_rfl) sg)];clear hfr hdep;go_simp;exact hK _ _ True.intro hinv (dsT (by trivial))
    refine .cons (fun a W hfr hinv hdep K hK=>?_) ?_
    · have sg:a.tmps.getD 28 undef=.bool false:=hdep 28 (by kernel_rfl);have t36:=tAt (.pointer (some ⟨g2,k*10,none⟩)) (hdep 36 (by kernel_rfl));rw [if_pos (Flow.wanted_yes 11 false 28 rfl (by kernel_rfl) sg)];clear hfr hdep;go_simp;exact hK _ _ True.intro hinv (dsT (by trivial))
    refine .cons (fun a W hfr hinv hdep K hK=>?_) ?_
    · have sg:a.tmps.getD 28 undef=.bool false:=hdep 28 (by kernel_rfl);have t37:=tAt (.pointer (some ⟨g2,k*10+1,none⟩)) (hdep 37 (by kernel_rfl));obtain ⟨⟨x0,x1,x2,x3,x4,x5,x6,x7,x8,x9⟩,y0,y1,y2,y3,y4,y5,y6,y7,y8,y9⟩:=HFA.out W hinv;rw [if_pos (Flow.wanted_yes 11 false 28 rfl (by kernel_rfl) sg)];clear hfr hdep;go_simp;exact hK _ _ True.intro hinv (dsT (by trivial))
    refine .cons (fun a W hfr hinv hdep K hK=>?_) ?_
    · have sg:a.tmps.getD 28 undef=.bool false:=hdep 28 (by kernel_rfl);have t33:=tAt (.int .u64 e) (hdep 33 (by kernel_rfl));have t38:=tAt (.int .u64 e) (hdep 38 (by kernel_rfl));rw [if_pos (Flow.wanted_yes 11 false 28 rfl (by kernel_rfl) sg)];clear hfr hdep;go_simp;exact hK _ _ True.intro hinv (dsT (by trivial))
    refine .cons (fun a W hfr hinv hdep K hK=>?_) ?_
    · have t28:=tAt (.bool false) (hdep 28 (by kernel_rfl));have t39:=tAt (.bool false) (hdep 39 (by kernel_rfl));refine fW0 rfl ?_;clear hfr hdep;go_simp;exact hK _ _ True.intro hinv (dsT (by trivial))
    refine .cons (fun a W hfr hinv hdep K hK=>?_) ?_
    · have t40:=tAt (.bool false) (hdep 40 (by kernel_rfl));refine fW0 rfl ?_;clear hfr hdep;go_simp;exact hK _ _ True.intro hinv (dsT (by trivial))
    refine .cons (fun a W hfr hinv hdep K hK=>?_) ?_
    · have sg:a.tmps.getD 41 undef=.bool false:=hdep 41 (by kernel_rfl);have t0:=tAt (.slice (some ⟨g,0,none⟩) n c) (hfr.at 0 (by kernel_rfl));rw [if_pos (Flow.wanted_yes 24 false 41 rfl (by kernel_rfl) sg)];clear hfr hdep;go_simp;exact hK _ _ True.intro hinv (dsT (by trivial))
    refine .cons (fun a W hfr hinv hdep K hK=>?_) ?_
    · have sg:a.tmps.getD 41 undef=.bool false:=hdep 41 (by kernel_rfl);have t5:=tAt (.int .i64 (k:Int)) (hfr.at 5 (by kernel_rfl));rw [if_pos (Flow.wanted_yes 24 false 41 rfl (by kernel_rfl) sg)];clear hfr hdep;go_simp;exact hK _ _ True.intro hinv (dsT (by trivial))
    refine .cons (fun a W hfr hinv hdep K hK=>?_) ?_
    · have sg:a.tmps.getD 41 undef=.bool false:=hdep 41 (by kernel_rfl);have t42:=tAt (.slice (some ⟨g,0,none⟩) n c) (hdep 42 (by kernel_rfl));have t43:=tAt (.int .i64 (k:Int)) (hdep 43 (by kernel_rfl));have hkl:=HKL.out;rw [if_pos (Flow.wanted_yes 24 false 41 rfl (by kernel_rfl) sg)];clear hfr hdep;go_simp;exact hK _ _ True.intro hinv (dsT (by trivial))
    refine .cons (fun a W hfr hinv hdep K hK=>?_) ?_
    · have sg:a.tmps.getD 41 undef=.bool false:=hdep 41 (by kernel_rfl);have t44:=tAt (.pointer (some ⟨g,k*10,none⟩)) (hdep 44 (by kernel_rfl));rw [if_pos (Flow.wanted_yes 24 false 41 rfl (by kernel_rfl) sg)];clear hfr hdep;go_simp;exact hK _ _ True.intro hinv (dsT (by trivial))
    refine .cons (fun a W hfr hinv hdep K hK=>?_) ?_
    · have sg:a.tmps.getD 41 undef=.bool false:=hdep 41 (by kernel_rfl);have t45:=tAt (.pointer (some ⟨g,k*10+2,none⟩)) (hdep 45 (by kernel_rfl));obtain ⟨⟨x0,x1,x2,x3,x4,x5,x6,x7,x8,x9⟩,y0,y1,y2,y3,y4,y5,y6,y7,y8,y9⟩:=HFA.out W hinv;rw [if_pos (Flow.wanted_yes 24 false 41 rfl (by kernel_rfl) sg)];clear hfr hdep;go_simp;exact hK _ _ True.intro hinv (dsT (by trivial))
    refine .cons (fun a W hfr hinv hdep K hK=>?_) ?_
    · have sg:a.tmps.getD 41 undef=.bool false:=hdep 41 (by kernel_rfl);have t1:=tAt (.slice (some ⟨g2,0,none⟩) n c2) (hfr.at 1 (by kernel_rfl));rw [if_pos (Flow.wanted_yes 24 false 41 rfl (by kernel_rfl) sg)];clear hfr hdep;go_simp;exact hK _ _ True.intro hinv (dsT (by trivial))
    refine .cons (fun a W hfr hinv hdep K hK=>?_) ?_
    · have sg:a.tmps.getD 41 undef=.bool false:=hdep 41 (by kernel_rfl);have t5:=tAt (.int .i64 (k:Int)) (hfr.at 5 (by kernel_rfl));rw [if_pos (Flow.wanted_yes 24 false 41 rfl (by kernel_rfl) sg)];clear hfr hdep;go_simp;exact hK _ _ True.intro hinv (dsT (by trivial))
    refine .cons (fun a W hfr hinv hdep K hK=>?_) ?_
    · have sg:a.tmps.getD 41 undef=.bool false:=hdep 41 (by kernel_rfl);have t47:=tAt (.slice (some ⟨g2,0,none⟩) n c2) (hdep 47 (by kernel_rfl));have t48:=tAt (.int .i64 (k:Int)) (hdep 48 (by kernel_rfl));have hkl:=HKL.out;rw [if_pos (Flow.wanted_yes 24 false 41 rfl (by kernel_rfl) sg)];clear hfr hdep;go_simp;exact hK _ _ True.intro hinv (dsT (by trivial))
    refine .cons (fun a W hfr hinv hdep K hK=>?_) ?_
    · have sg:a.tmps.getD 41 undef=.bool false:=hdep 41 (by kernel_rfl);have t49:=tAt (.pointer (some ⟨g2,k*10,none⟩)) (hdep 49 (by kernel_rfl));rw [if_pos (Flow.wanted_yes 24 false 41 rfl (by kernel_rfl) sg)];clear hfr hdep;go_simp;exact hK _ _ True.intro hinv (dsT (by trivial))
    refine .cons (fun a W hfr hinv hdep K hK=>?_) ?_
    · have sg:a.tmps.getD 41 undef=.bool false:=hdep 41 (by kernel_rfl);have t50:=tAt (.pointer (some ⟨g2,k*10+2,none⟩)) (hdep 50 (by kernel_rfl));obtain ⟨⟨x0,x1,x2,x3,x4,x5,x6,x7,x8,x9⟩,y0,y1,y2,y3,y4,y5,y6,y7,y8,y9⟩:=HFA.out W hinv;rw [if_pos (Flow.wanted_yes 24 false 41 rfl (by kernel_rfl) sg)];clear hfr hdep;go_simp;exact hK _ _ True.intro hinv (dsT (by trivial))
    refine .cons (fun a W hfr hinv hdep K hK=>?_) ?_
    · have sg:a.tmps.getD 41 undef=.bool false:=hdep 41 (by kernel_rfl);have t46:=tAt (.agg #[.int .i64 ck,.int .u64 ct,.int .u64 cp,.int .u64 cx,.int .i64 cg,.int .i64 co,.slice pb nb cb,.slice pa na ca]) (hdep 46 (by kernel_rfl));have t51:=tAt (.agg #[.int .i64 ck,.int .u64 ct,.int .u64 cp,.int .u64 cx,.int .i64 cg,.int .i64 co,.slice qb mb db,.slice qa ma da]) (hdep 51 (by kernel_rfl));rw [if_pos (Flow.wanted_yes 24 false 41 rfl (by kernel_rfl) sg)];clear hfr hdep;go_simp;refine (HSM.out W hinv).mono ?_;rintro e W' ⟨rfl,g1⟩;exact hK _ _ True.intro (Gr.trans hinv g1) (dsT (by trivial))
    refine .cons (fun a W hfr hinv hdep K hK=>?_) ?_
    · have sg:a.tmps.getD 41 undef=.bool false:=hdep 41 (by kernel_rfl);have t52:=tAt (.bool true) (hdep 52 (by kernel_rfl));rw [if_pos (Flow.wanted_yes 24 false 41 rfl (by kernel_rfl) sg)];clear hfr hdep;go_simp;exact hK _ _ True.intro hinv (dsT (by trivial))
    refine .cons (fun a W hfr hinv hdep K hK=>?_) ?_
    · have t41:=tAt (.bool false) (hdep 41 (by kernel_rfl));have t53:=tAt (.bool false) (hdep 53 (by kernel_rfl));refine fW0 rfl ?_;clear hfr hdep;go_simp;exact hK _ _ True.intro hinv (dsT (by trivial))
    exact True.intro
   case fin=>
    intro a W hfr hfin hsl
    have s54:a.tmps.getD 54 undef=.bool false:=hsl 37 _ 54 rfl rfl;have t54:=tmpAt s54;have e:=Flow.frame hfr [17,18,19,20,21,22,23,24,25,26,27,28,29,30,31,32,33,34,35,36,37,38,39,40,41,42,43,44,45,46,47,48,49,50,51,52,53,54] (List.range 55) (by kernel_rfl) (by kernel_rfl)
    simp [List.range,List.range.loop] at e
    rw [t54] at e
    rw [e];clear e hfr hsl s54 t54
    rename_i K2 hK2
    refine hK2 _ _ ?_;go_wp2_with fail
    go_roundw
    case rel=>exact ⟨k2,HK2.out.1,rfl,Lib.hid (Gr.trans HG.out hfin)⟩
    case measure=>exact HK2.out.2
  ·
   have g3:¬ (k:Int) < (n:Int):=by omega
   go_wp2_with fail
   go_ret
   exact ⟨rfl,HG.out⟩
end Go.Proofs.YtlijbgapkmfnaaaGreat
namespace Go.Proofs.YtlijbgapkmfnaaaGreat
open Go.RowKit Go.Maps
abbrev TSu:TypeId:=97
structure PrD (w0 w:World) (bp:Nat) (F G:Nat→Prop) (pd pw pl pm:Value) (s:St):Prop where
 blk:Blk w bp TPr #[pd,pw,pl,pm]
 dk:Dk w F pd s
 rf:Rf w G pw s
 ap:∀ k,F k→¬ G k
 nF:¬ F bp
 nG:¬ G bp
 gr:Gr w0 w
 lb:w0.heap.size≤bp
 lF:∀ k,F k→w0.heap.size≤k
 lG:∀ k,G k→w0.heap.size≤k
 pl:∃ a,pl=.pointer a
 pm:∃ a,pm=.pointer a
section
variable {w0 w w':World} {bp:Nat} {F G:Nat→Prop} {pd pw pl pm:Value} {s:St}
theorem PrD.up (h:PrD w0 w bp F G pd pw pl pm s) (g:Gr w w'):PrD w0 w' bp F G pd pw pl pm s:=
 ⟨h.blk.gr g,h.dk.gr g,h.rf.gr g,h.ap,h.nF,h.nG,Gr.trans h.gr g,h.lb,h.lF,h.lG,h.pl,h.pm⟩
theorem PrD.ptrs (h:PrD w0 w bp F G pd pw pl pm s):(∃ D,pd=.pointer (some ⟨D,0,none⟩))∧∃ R,pw=.pointer (some ⟨R,0,none⟩):=by
 obtain ⟨D,_,_,_,h1,_⟩:=h.dk;obtain ⟨R,_,_,_,h2,_⟩:=h.rf;exact ⟨⟨D,h1⟩,⟨R,h2⟩⟩
theorem PrD.u8 (h:PrD w0 w bp F G pd pw pl pm s):∀ u ∈ (#[pd,pw,pl,pm]:Array Value).toList,∀ i,u≠.int .u8 i:=by
 obtain ⟨⟨D,rfl⟩,R,rfl⟩:=h.ptrs;obtain ⟨a,rfl⟩:=h.pl;obtain ⟨b,rfl⟩:=h.pm
 intro u hu i e
 subst e
 simp at hu
theorem PrD.cell2 (h:PrD w0 w bp F G pd pw pl pm s) (a:Option Addr):PrD w0 (w.setCell ⟨bp,2,none⟩ (.pointer a)) bp F G pd pw (.pointer a) pm s:=by
 have ho:=Only.cell bp 2 w (.pointer a);have hs:w.heap.size≤(w.setCell ⟨bp,2,none⟩ (.pointer a)).heap.size:=Nat.le_of_eq ho.size.symm;exact ⟨h.blk.set 2 _,h.dk.stays (fun k hk=>ho.block k (fun e=>h.nF (e ▸ hk))) hs,h.rf.stays (fun k hk=>ho.block k (fun e=>h.nG (e ▸ hk))) hs,h.ap,h.nF,h.nG,Below.setCell h.gr h.lb _,h.lb,h.lF,h.lG,⟨a,rfl⟩,h.pm⟩
theorem PrD.cell3 (h:PrD w0 w bp F G pd pw pl pm s) (a:Option Addr):PrD w0 (w.setCell ⟨bp,3,none⟩ (.pointer a)) bp F G pd pw pl (.pointer a) s:=by
 have ho:=Only.cell bp 3 w (.pointer a);have hs:w.heap.size≤(w.setCell ⟨bp,3,none⟩ (.pointer a)).heap.size:=Nat.le_of_eq ho.size.symm;exact ⟨h.blk.set 3 _,h.dk.stays (fun k hk=>ho.block k (fun e=>h.nF (e ▸ hk))) hs,h.rf.stays (fun k hk=>ho.block k (fun e=>h.nG (e ▸ hk))) hs,h.ap,h.nF,h.nG,Below.setCell h.gr h.lb _,h.lb,h.lF,h.lG,h.pl,⟨a,rfl⟩⟩
end
def KeepB (b:Nat) (w w':World):Prop:=w.heap.size≤w'.heap.size∧∀ k,k < w.heap.size→k≠b→w'.heap[k]?=w.heap[k]?
theorem KeepB.trans {b:Nat} {w w1 w2:World} (h:KeepB b w w1) (k:KeepB b w1 w2):KeepB b w w2:=⟨Nat.le_trans h.1 k.1,fun j hj n=>(k.2 j (Nat.lt_of_lt_of_le hj h.1) n).trans (h.2 j hj n)⟩
theorem KeepB.gr {b:Nat} {w w':World} (g:Gr w w'):KeepB b w w':=⟨g.size,fun k hk _=>g.block k hk⟩
theorem KeepB.cell {b:Nat} (i:Nat) (w:World) (u:Value):KeepB b w (w.setCell ⟨b,i,none⟩ u):=⟨Nat.le_of_eq (Only.cell b i w u).size.symm,fun k _ n=>(Only.cell b i w u).block k n⟩
def RetOpn (w0 w:World) (bp:Nat) (F G:Nat→Prop) (pd pw:Value) (s:St) (ep tl:Nat) (e:Ending) (w':World):Prop:=
 KeepB bp w w'∧((opOk s 16 ep tl=false∧e=.returned (.tuple #[.slice none 0 0,.bool true])∧PrD w0 w' bp F G pd pw (.pointer none) (.pointer none) s) ∨
 (opOk s 16 ep tl=true∧∃ v K S T pl pm,e=.returned (.tuple #[v,.bool true])∧OwnR ShL w' w.heap.size TLd v K∧K.map LX3=logT tl (opX s 16 ep tl)∧PrB w0 w' bp S T pd pw pl pm s (opL s 64 16 1 ep tl) s (opL s 64 16 1 ep tl) 20000))
def RetO1 (p:Value) (s:St) (ep tl:Nat) (w:World) (e:Ending) (w':World):Prop:=
 ∃ b v L q m,e=.returned (.tuple #[.pointer (some ⟨b,0,none⟩),v,.int .i64 0])∧OwnR ShL w' w.heap.size TLd v L∧L.map LX3=logT tl (opX s 16 ep tl)∧LgAt w' b p q m m (opL s 64 16 1 ep tl)∧(∀ k,lgS b q k→w.heap.size≤k)∧Gr w w'
def RetO2 (r:Value) (s:St) (ep tl:Nat) (w:World) (e:Ending) (w':World):Prop:=
 ∃ b v L q m c fr ys,e=.returned (.tuple #[.pointer (some ⟨b,0,none⟩),v,.int .i64 0])∧OwnR ShL w' w.heap.size TLd v L∧L.map LX3=logT tl (opX s 16 ep tl)∧RlAt w' b r q m c fr ys (opL s 64 16 1 ep tl)∧(∀ k,lgS b q k→w.heap.size≤k)∧Gr w w'∧ys.length≤20000
theorem opX_len (s:St) (l ep tl:Nat):35*(opX s l ep tl).length≤232*l:=by
 have h1:=allL_len _ ((opB s l ep tl).drop (tl % 232)) tl (Nat.le_refl _);have h2:=(opB_len s l ep tl).1
 rw [List.length_drop] at h1
 unfold opX
 omega
theorem may64:mayL 64 16 1=true:=by decide
theorem make64 (w:World):Calls Tryz.prog 51 #[.int .i64 64] w (RetLy 64 16 1 0 w):=by
 have hM:=make_any 64 w
 rwa [show mkN 64=64 by decide,show mkL 64=16 by decide,show mkG 64=1 by decide,show mkE 64=0 by decide] at hM
theorem open1_yes {F:Nat→Prop} {p:Value} {s:St} {ep tl:Nat} (w:World) (hd:Dk w F p s) (hn:s.ls.length=64) (ht:tl≤4611686018427387904) (he:1≤ep) (he2:ep≤4611686018427387904) (ho:opOk s 16 ep tl=true) :
  Calls Tryz.prog 52 #[p,.agg #[.int .i64 64,.int .i64 16,.int .i64 1],.int .u64 (tl:Int),.int .u64 (ep:Int)] w (RetO1 p s ep tl w):=by
 obtain ⟨D,_,_,_,hp,_⟩:=id hd;refine (wOpen_any D p 64 16 1 ep tl w hp hd may64 (by decide) ht he he2 (by omega) (by omega)).mono ?_;rintro e w' (⟨h,_⟩ | ⟨_,h⟩)
 ·
  rw [show ((16:Int).toNat)=16 from rfl,ho] at h
  cases h
 · exact h
theorem open2_yes {G:Nat→Prop} {r:Value} {s:St} {ep tl:Nat} (w:World) (hd:Rf w G r s) (hn:s.ls.length=64) (ht:tl≤4611686018427387904) (he:1≤ep) (he2:ep≤4611686018427387904) (ho:opOk s 16 ep tl=true) :
  Calls Tryz.prog 53 #[r,.int .i64 16,.int .u64 (tl:Int),.int .u64 (ep:Int)] w (RetO2 r s ep tl w):=by
 obtain ⟨D,_,_,_,hp,_⟩:=id hd;refine (rOpen_any D r 64 1 16 ep tl w hp hd may64 (by decide) ht he he2 (by omega)).mono ?_;rintro e w' (⟨h,_⟩ | ⟨_,h⟩)
 ·
  rw [ho] at h
  cases h
 · exact h
theorem open1_no {F:Nat→Prop} {p:Value} {s:St} {ep tl:Nat} (w:World) (hd:Dk w F p s) (hn:s.ls.length=64) (ht:tl≤4611686018427387904) (he:1≤ep) (he2:ep≤4611686018427387904) (ho:opOk s 16 ep tl=false) :
  Calls Tryz.prog 52 #[p,.agg #[.int .i64 64,.int .i64 16,.int .i64 1],.int .u64 (tl:Int),.int .u64 (ep:Int)] w (RetOpE 4 w):=by
 obtain ⟨D,_,_,_,hp,_⟩:=id hd;refine (wOpen_any D p 64 16 1 ep tl w hp hd may64 (by decide) ht he he2 (by omega) (by omega)).mono ?_;rintro e w' (⟨_,h⟩ | ⟨h,_⟩)
 · exact h
 ·
  rw [show ((16:Int).toNat)=16 from rfl,ho] at h
  cases h
theorem open2_no {G:Nat→Prop} {r:Value} {s:St} {ep tl:Nat} (w:World) (hd:Rf w G r s) (hn:s.ls.length=64) (ht:tl≤4611686018427387904) (he:1≤ep) (he2:ep≤4611686018427387904) (ho:opOk s 16 ep tl=false) :
  Calls Tryz.prog 53 #[r,.int .i64 16,.int .u64 (tl:Int),.int .u64 (ep:Int)] w (RetOpE 4 w):=by
 obtain ⟨D,_,_,_,hp,_⟩:=id hd;refine (rOpen_any D r 64 1 16 ep tl w hp hd may64 (by decide) ht he he2 (by omega)).mono ?_;rintro e w' (⟨_,h,g⟩ | ⟨h,_⟩)
 · exact ⟨h,g⟩
 ·
  rw [ho] at h
  cases h
theorem prB_made {w0 W2 V X Y w:World} {bp:Nat} {F G:Nat→Prop} {pd pw pl pm:Value} {s:St} {L:Lg} {b1 b2:Nat} {q1 q2:Option Addr} {m1 m2 c2 fr:Nat} {ys:List Int} (h5:PrD w0 Y bp F G pd pw pl pm s)
  (h2:PrD w0 W2 bp F G pd pw pl pm s) (g2:Gr w W2) (h3:PrD w0 V bp F G pd pw pl pm s) (g3:Gr W2 V) (h4:PrD w0 X bp F G pd pw pl pm s)
  (l1:LgAt V b1 pd q1 m1 m1 L) (o1:∀ k,lgS b1 q1 k→W2.heap.size≤k) (l1x:LgAt X b1 pd q1 m1 m1 L) (l2:RlAt X b2 pw q2 m2 c2 fr ys L) (o2:∀ k,lgS b2 q2 k→V.heap.size≤k) (hy:ys.length≤20000) (g:Gr X Y) :
  PrB w0 ((Y.setCell ⟨bp,2,none⟩ (.pointer (some ⟨b1,0,none⟩))).setCell ⟨bp,3,none⟩ (.pointer (some ⟨b2,0,none⟩))) bp (wlS F b1 q1) (wlS G b2 q2) pd pw (.pointer (some ⟨b1,0,none⟩)) (.pointer (some ⟨b2,0,none⟩)) s L s L 20000:=by
 have hf:=(h5.cell2 (some ⟨b1,0,none⟩)).cell3 (some ⟨b2,0,none⟩);have i1:=Only.cell bp 2 Y (.pointer (some ⟨b1,0,none⟩));have i2:=Only.cell bp 3 (Y.setCell ⟨bp,2,none⟩ (.pointer (some ⟨b1,0,none⟩))) (.pointer (some ⟨b2,0,none⟩))
 have hk:∀ k,k≠bp→((Y.setCell ⟨bp,2,none⟩ (.pointer (some ⟨b1,0,none⟩))).setCell ⟨bp,3,none⟩ (.pointer (some ⟨b2,0,none⟩))).heap[k]?=Y.heap[k]?:=fun k hk=>(i2.block k hk).trans (i1.block k hk)
 have hs:Y.heap.size≤((Y.setCell ⟨bp,2,none⟩ (.pointer (some ⟨b1,0,none⟩))).setCell ⟨bp,3,none⟩ (.pointer (some ⟨b2,0,none⟩))).heap.size:=Nat.le_of_eq (i2.size.trans i1.size).symm;have b2l:=h2.blk.lt;have b3l:=h3.blk.lt;have s3:=g3.size;have s2:=h2.gr.size;refine ⟨hf.blk,⟨F,b1,q1,m1,m1,rfl,⟨hf.dk,(l1x.gr g).stays (fun k e=>hk k (fun h=>by have:=o1 k e;omega)) hs,fun k hF e=>?_⟩,rfl⟩,⟨G,b2,q2,m2,c2,fr,ys,rfl,hf.rf,(l2.gr g).stays (fun k e=>hk k (fun h=>by have:=o2 k e;omega)) hs,fun k hG e=>?_,rfl,hy⟩,?_,?_,?_,hf.gr,hf.lb,?_,?_⟩
 · have:=h2.dk.low k hF;have:=o1 k e;omega
 · have:=h3.rf.low k hG;have:=o2 k e;omega
 ·
  rintro k (hF | e1) (hG | e2)
  · exact h2.ap k hF hG
  · have:=h2.dk.low k hF;have:=o2 k e2;omega
  · have:=h2.rf.low k hG;have:=o1 k e1;omega
  · have:=l1.low k e1;have:=o2 k e2;omega
 ·
  rintro (hF | e1)
  · exact h2.nF hF
  · have:=o1 _ e1;omega
 ·
  rintro (hG | e2)
  · exact h2.nG hG
  · have:=o2 _ e2;omega
 ·
  rintro k (hF | e1)
  · exact h2.lF k hF
  · have:=o1 k e1;omega
 ·
  rintro k (hG | e2)
  · exact h2.lG k hG
  · have:=o2 k e2;omega
set_option maxRecDepth 100000 in
set_option maxHeartbeats 1000000 in
theorem popen_yes {w0 w:World} {bp:Nat} {F G:Nat→Prop} {pd pw pl pm:Value} {s:St} (h:PrD w0 w bp F G pd pw pl pm s) (hn:s.ls.length=64) (ep tl:Nat) (ht:tl≤4611686018427387904) (he:1≤ep) (he2:ep≤4611686018427387904) (ho:opOk s 16 ep tl=true) :
  Calls Tryz.prog 16 #[.pointer (some ⟨bp,0,none⟩),.int .u64 (tl:Int),.int .u64 (ep:Int)] w (RetOpn w0 w bp F G pd pw s ep tl):=by
 have HP:=Lib.hid h;have HM:=Lib.hid (make64 w);have HN:=Lib.hid hn;have HO:=Lib.hid ho;have HBP:=Lib.hid h.blk.lt;have g3:((ep:Int) == 0)=false:=beq_eq_false_iff_ne.2 (by omega);have g4:decide (4611686018427387904 < (ep:Int))=false:=decide_eq_false (by omega);have g5:decide (4611686018427387904 < (tl:Int))=false:=decide_eq_false (by omega)
 have HO1:Hid (∀ V,Dk V F pd s→Calls Tryz.prog 52 #[pd,.agg #[.int .i64 64,.int .i64 16,.int .i64 1],.int .u64 (tl:Int),.int .u64 (ep:Int)] V (RetO1 pd s ep tl V)):=Lib.hid fun V h=>open1_yes V h hn ht he he2 ho
 have HO2:Hid (∀ V,Rf V G pw s→Calls Tryz.prog 53 #[pw,.int .i64 16,.int .u64 (tl:Int),.int .u64 (ep:Int)] V (RetO2 pw s ep tl V)):=Lib.hid fun V h=>open2_yes V h hn ht he he2 ho
 clear h hn ho ht he he2
 go_enter Tryz.func16,Tryz.ntmps16
 go_wp2_with fail;refine HM.out.mono ?_;rintro e W1 ⟨rfl,g1⟩;have HG1:=Lib.hid g1;clear g1 HM;go_wp2_with fail;obtain ⟨W2,hW2⟩:∃ W2,W2=W1.alloc (.cells #[.int .i64 64,.int .i64 16,.int .i64 1] TSu):=⟨_,rfl⟩;obtain ⟨U,hU⟩:∃ U,U=W1.heap.size:=⟨_,rfl⟩
 have HP2:Hid (PrD w0 W2 bp F G pd pw pl pm s∧Gr w W2):=Lib.hid (by
  have g:=Gr.trans HG1.out (Gr.new W1 (.cells #[.int .i64 64,.int .i64 16,.int .i64 1] TSu));rw [hW2]
  exact ⟨HP.out.up g,g⟩)
 have HB2:Hid (∀ V,Gr W2 V→Blk V U TSu #[.int .i64 64,.int .i64 16,.int .i64 1]):=Lib.hid fun V g=>by
  have h:=Blk.new W1 TSu #[.int .i64 64,.int .i64 16,.int .i64 1]
  rw [← hW2,← hU] at h
  exact h.gr g
 rw [← hW2,← hU];clear hW2 hU HG1 HP;have d0:=HP2.out.1.blk.cell 0;obtain ⟨e0,e1,e2⟩:=(HB2.out W2 (Gr.refl _)).c3.1
 simp at d0
 have HO1d:=Lib.hid (HO1.out W2.drew (HP2.out.1.up ((Gr.refl W2).drew)).dk)
 go_region_held3 (fun V=>V.cell? ⟨bp,0,none⟩=some pd∧V.cell? ⟨U,0,none⟩=some (.int .i64 64)∧V.cell? ⟨U,1,none⟩=some (.int .i64 16)∧V.cell? ⟨U,2,none⟩=some (.int .i64 1)) (first | exact ⟨d0,e0,e1,e2⟩ | exact ⟨d1,f0,f1,f2⟩) (first | (go_at_call 52;refine HO1d.out.mono ?_;rintro e V ⟨b1,v1,K1,q1,m1,rfl,hr1,hm1,hl1,hs1,gV⟩;have hG2:=Gr.trans ((Gr.refl W2).drew) gV;have HP3:Hid (PrD w0 V bp F G pd pw pl pm s∧Gr w V):=Lib.hid ⟨HP2.out.1.up hG2,Gr.trans HP2.out.2 hG2⟩;have d1:=HP3.out.1.blk.cell 0;simp at d1;obtain ⟨f0,f1,f2⟩:=(HB2.out V hG2).c3.1;have HR1:Hid (OwnR ShL V w.heap.size TLd v1 K1∧K1.map LX3=logT tl (opX s 16 ep tl)):=Lib.hid ⟨hr1.base_le HP2.out.2.size,hm1⟩;have HL1:Hid (LgAt V b1 pd q1 m1 m1 (opL s 64 16 1 ep tl)∧∀ k,lgS b1 q1 k→W2.heap.size≤k):=Lib.hid ⟨hl1,hs1⟩;have HBV:Hid (Gr W2 V):=Lib.hid hG2))
 clear d0 e0 e1 e2 hr1 hm1 hl1 hs1 gV hG2 f0 f2 d1 HO1d HO1;have d1:=HP3.out.1.blk.cell 1
 simp at d1
 have HO2d:=Lib.hid (HO2.out V.drew (HP3.out.1.up ((Gr.refl V).drew)).rf);go_wp2_with fail
 go_region_held3 (fun V=>V.cell? ⟨bp,1,none⟩=some pw∧V.cell? ⟨U,1,none⟩=some (.int .i64 16)) (first | exact ⟨d1,f1⟩ | exact ⟨d3,f3⟩) (first | (go_at_call 53;refine HO2d.out.mono ?_;rintro e X ⟨b2,v2,K2,q2,m2,c2,fr,ys,rfl,hr2,hm2,hl2,hs2,gX,hys⟩;have hG3:=Gr.trans ((Gr.refl V).drew) gX;have HP4:Hid (PrD w0 X bp F G pd pw pl pm s∧Gr w X):=Lib.hid ⟨HP3.out.1.up hG3,Gr.trans HP3.out.2 hG3⟩;have d3:=HP4.out.1.blk.cell 1;simp at d3;have f3:=(HB2.out X (Gr.trans HBV.out hG3)).c3.1.2.1;have HR2:Hid (OwnR ShL X w.heap.size TLd v2 K2∧K2.map LX3=logT tl (opX s 16 ep tl)∧OwnR ShL X w.heap.size TLd v1 K1):=Lib.hid ⟨hr2.base_le HP3.out.2.size,hm2,HR1.out.1.gr hG3⟩;have HL2:Hid (RlAt X b2 pw q2 m2 c2 fr ys (opL s 64 16 1 ep tl)∧(∀ k,lgS b2 q2 k→V.heap.size≤k)∧LgAt X b1 pd q1 m1 m1 (opL s 64 16 1 ep tl)∧ys.length≤20000):=Lib.hid ⟨hl2,hs2,HL1.out.1.gr hG3,hys⟩;have HS:=Lib.hid (sameLg_any v1 v2 K1 K2 X HR2.out.2.2 HR2.out.1 (by rw [HR1.out.2,HR2.out.2.1]) (by have h1:=congrArg List.length HR1.out.2;rw [List.length_map,logT_len] at h1;have h2:=opX_len s 16 ep tl;omega))))
 clear hr2 hm2 hl2 hs2 gX hG3 d1 d3 f1 f3 HO2d HO2 hys;go_wp2_with fail;refine HS.out.mono ?_;rintro e Y ⟨rfl,gY⟩;have HP5:Hid (PrD w0 Y bp F G pd pw pl pm s):=Lib.hid (HP4.out.1.up gY)
 have HF:Hid (RetOpn w0 w bp F G pd pw s ep tl (.returned (.tuple #[v1,.bool true])) ((Y.setCell ⟨bp,2,none⟩ (.pointer (some ⟨b1,0,none⟩))).setCell ⟨bp,3,none⟩ (.pointer (some ⟨b2,0,none⟩)))):=
  Lib.hid ⟨((KeepB.gr (Gr.trans HP4.out.2 gY)).trans (KeepB.cell 2 _ _)).trans (KeepB.cell 3 _ _),.inr ⟨HO.out,v1,K1,_,_,_,_,rfl,(((HR2.out.2.2.gr gY).cell HP5.out.blk HBP.out HP5.out.u8 2 _).cell (HP5.out.cell2 _).blk HBP.out (HP5.out.cell2 _).u8 3 _),HR1.out.2,prB_made (HP5.out) HP2.out.1 HP2.out.2 HP3.out.1 HBV.out HP4.out.1 HL1.out.1 HL1.out.2 HL2.out.2.2.1 HL2.out.1 HL2.out.2.1 HL2.out.2.2.2 gY⟩⟩
 have c2:=HP5.out.blk.cell 2;have c3:=HP5.out.blk.cell 3
 simp at c2 c3
 have f2:=HP5.out.blk.frozen 2;have f3:=HP5.out.blk.frozen 3;clear gY HS;go_wp2_with fail
 go_ret2
 exact HF.out
set_option maxRecDepth 100000 in
set_option maxHeartbeats 1000000 in
theorem popen_no {w0 w:World} {bp:Nat} {F G:Nat→Prop} {pd pw pl pm:Value} {s:St} (h:PrD w0 w bp F G pd pw pl pm s) (hn:s.ls.length=64) (ep tl:Nat) (ht:tl≤4611686018427387904) (he:1≤ep) (he2:ep≤4611686018427387904) (ho:opOk s 16 ep tl=false) :
  Calls Tryz.prog 16 #[.pointer (some ⟨bp,0,none⟩),.int .u64 (tl:Int),.int .u64 (ep:Int)] w (RetOpn w0 w bp F G pd pw s ep tl):=by
 have HP:=Lib.hid h;have HM:=Lib.hid (make64 w);have HN:=Lib.hid hn;have HO:=Lib.hid ho;have HBP:=Lib.hid h.blk.lt;have g3:((ep:Int) == 0)=false:=beq_eq_false_iff_ne.2 (by omega);have g4:decide (4611686018427387904 < (ep:Int))=false:=decide_eq_false (by omega);have g5:decide (4611686018427387904 < (tl:Int))=false:=decide_eq_false (by omega)
 have HO1:Hid (∀ V,Dk V F pd s→Calls Tryz.prog 52 #[pd,.agg #[.int .i64 64,.int .i64 16,.int .i64 1],.int .u64 (tl:Int),.int .u64 (ep:Int)] V (RetOpE 4 V)):=Lib.hid fun V h=>open1_no V h hn ht he he2 ho
 have HO2:Hid (∀ V,Rf V G pw s→Calls Tryz.prog 53 #[pw,.int .i64 16,.int .u64 (tl:Int),.int .u64 (ep:Int)] V (RetOpE 4 V)):=Lib.hid fun V h=>open2_no V h hn ht he he2 ho
 clear h hn ho ht he he2
 go_enter Tryz.func16,Tryz.ntmps16
 go_wp2_with fail;refine HM.out.mono ?_;rintro e W1 ⟨rfl,g1⟩;have HG1:=Lib.hid g1;clear g1 HM;go_wp2_with fail;obtain ⟨W2,hW2⟩:∃ W2,W2=W1.alloc (.cells #[.int .i64 64,.int .i64 16,.int .i64 1] TSu):=⟨_,rfl⟩;obtain ⟨U,hU⟩:∃ U,U=W1.heap.size:=⟨_,rfl⟩
 have HP2:Hid (PrD w0 W2 bp F G pd pw pl pm s∧Gr w W2):=Lib.hid (by
  have g:=Gr.trans HG1.out (Gr.new W1 (.cells #[.int .i64 64,.int .i64 16,.int .i64 1] TSu));rw [hW2]
  exact ⟨HP.out.up g,g⟩)
 have HB2:Hid (∀ V,Gr W2 V→Blk V U TSu #[.int .i64 64,.int .i64 16,.int .i64 1]):=Lib.hid fun V g=>by
  have h:=Blk.new W1 TSu #[.int .i64 64,.int .i64 16,.int .i64 1]
  rw [← hW2,← hU] at h
  exact h.gr g
 rw [← hW2,← hU];clear hW2 hU HG1 HP;have d0:=HP2.out.1.blk.cell 0;obtain ⟨e0,e1,e2⟩:=(HB2.out W2 (Gr.refl _)).c3.1
 simp at d0
 have HO1d:=Lib.hid (HO1.out W2.drew (HP2.out.1.up ((Gr.refl W2).drew)).dk)
 go_region_held3 (fun V=>V.cell? ⟨bp,0,none⟩=some pd∧V.cell? ⟨U,0,none⟩=some (.int .i64 64)∧V.cell? ⟨U,1,none⟩=some (.int .i64 16)∧V.cell? ⟨U,2,none⟩=some (.int .i64 1)) (first | exact ⟨d0,e0,e1,e2⟩ | exact ⟨d1,f0,f1,f2⟩) (first | (go_at_call 52;refine HO1d.out.mono ?_;rintro e V ⟨rfl,gV⟩;have hG2:=Gr.trans ((Gr.refl W2).drew) gV;have HP3:Hid (PrD w0 V bp F G pd pw pl pm s∧Gr w V):=Lib.hid ⟨HP2.out.1.up hG2,Gr.trans HP2.out.2 hG2⟩;have d1:=HP3.out.1.blk.cell 0;simp at d1;obtain ⟨f0,f1,f2⟩:=(HB2.out V hG2).c3.1;have HBV:Hid (Gr W2 V):=Lib.hid hG2))
 clear d0 e0 e1 e2 gV hG2 f0 f2 d1 HO1d HO1;have d1:=HP3.out.1.blk.cell 1
 simp at d1
 have HO2d:=Lib.hid (HO2.out V.drew (HP3.out.1.up ((Gr.refl V).drew)).rf);go_wp2_with fail
 go_region_held3 (fun V=>V.cell? ⟨bp,1,none⟩=some pw∧V.cell? ⟨U,1,none⟩=some (.int .i64 16)) (first | exact ⟨d1,f1⟩ | exact ⟨d3,f3⟩) (first | (go_at_call 53;refine HO2d.out.mono ?_;rintro e X ⟨rfl,gX⟩;have hG3:=Gr.trans ((Gr.refl V).drew) gX;have HP4:Hid (PrD w0 X bp F G pd pw pl pm s∧Gr w X):=Lib.hid ⟨HP3.out.1.up hG3,Gr.trans HP3.out.2 hG3⟩;have d3:=HP4.out.1.blk.cell 1;simp at d3;have f3:=(HB2.out X (Gr.trans HBV.out hG3)).c3.1.2.1;have HS:=Lib.hid (sameLg_any (.slice none 0 0) (.slice none 0 0) [] [] X (OwnR.nil _ _ X.heap.size _) (OwnR.nil _ _ X.heap.size _) rfl (by decide))))
 clear gX hG3 d1 d3 f1 f3 HO2d HO2;go_wp2_with fail;refine HS.out.mono ?_;rintro e Y ⟨rfl,gY⟩;have HP5:Hid (PrD w0 Y bp F G pd pw pl pm s):=Lib.hid (HP4.out.1.up gY)
 have HF:Hid (RetOpn w0 w bp F G pd pw s ep tl (.returned (.tuple #[.slice none 0 0,.bool true])) ((Y.setCell ⟨bp,2,none⟩ (.pointer none)).setCell ⟨bp,3,none⟩ (.pointer none))):=
  Lib.hid ⟨((KeepB.gr (Gr.trans HP4.out.2 gY)).trans (KeepB.cell 2 _ _)).trans (KeepB.cell 3 _ _),.inl ⟨HO.out,rfl,(HP5.out.cell2 none).cell3 none⟩⟩
 have c2:=HP5.out.blk.cell 2;have c3:=HP5.out.blk.cell 3
 simp at c2 c3
 have f2:=HP5.out.blk.frozen 2;have f3:=HP5.out.blk.frozen 3;clear gY HS;go_wp2_with fail
 go_ret2
 exact HF.out
theorem popen_any {w0 w:World} {bp:Nat} {F G:Nat→Prop} {pd pw pl pm:Value} {s:St} (h:PrD w0 w bp F G pd pw pl pm s) (hn:s.ls.length=64) (ep tl:Nat) (ht:tl≤4611686018427387904) (he:1≤ep) (he2:ep≤4611686018427387904) :
  Calls Tryz.prog 16 #[.pointer (some ⟨bp,0,none⟩),.int .u64 (tl:Int),.int .u64 (ep:Int)] w (RetOpn w0 w bp F G pd pw s ep tl):=by
 cases ho:opOk s 16 ep tl with
 | false=>exact popen_no h hn ep tl ht he he2 ho
 | true=>exact popen_yes h hn ep tl ht he he2 ho
end Go.Proofs.YtlijbgapkmfnaaaGreat
namespace Go.Proofs.YtlijbgapkmfnaaaGreat
open Go.RowKit Go.Maps Cr
theorem secN_Sx {xs:List Int} (h:IsSec xs):secN (Sx xs)=xs:=(Sx_inj (secN_sec _) h).1 (Sx_secN _)
def zeroD:St:=fresh (List.replicate 64 Sec.zero)
def newL (n l g:Int) (ep tl:Nat):Lg:={ n,l,g,epoch:=ep,tail:=tl,lasts:=tl,txt:=[],rsv:=0,begun:=false }
theorem manyX_zero:manyX (List.replicate 256 0)=0:=by
 have h:sub (List.replicate 256 (0:Int)) 16 4=List.replicate 4 0:=by
  unfold sub
  rw [List.drop_replicate,List.take_replicate]
  rfl
 unfold manyX atR
 rw [h]
 split <;> rfl
theorem bytX_zero:bytX (List.replicate 256 0)=[]:=by unfold bytX;rw [manyX_zero];rfl
theorem nw_fresh (ls:List Sec) (i:Nat):(fresh ls).nw i=ls.getD i Sec.zero:=rfl
theorem foundL_stop {rd:Nat→List Int} {l ep f k ls:Nat} (h1:manyX (rd (3+k % l)) < 232) (h2:bytX (rd (3+k % l))=[]):foundL rd l ep (f+1) k ls=[]:=by
 unfold foundL
 rw [if_pos h1,h2]
 split <;> rfl
theorem opB_zero (l ep:Nat):opB zeroD (l+1) ep 0=[]:=by
 unfold opB
 have h:∀ i,secN (zeroD.nw i)=List.replicate 256 0:=fun i=>by
  have h1:zeroD.nw i=Sec.zero:=by
   unfold zeroD
   rw [nw_fresh]
   unfold List.getD
   by_cases hi:i < 64
   · rw [List.getElem?_replicate,if_pos hi];rfl
   · rw [List.getElem?_replicate,if_neg hi];rfl
  rw [h1,← Sx_zero];exact secN_Sx zeros_sec
 exact foundL_stop (by rw [h,manyX_zero];decide) (by rw [h,bytX_zero])
theorem opX_zero (l ep:Nat):opX zeroD (l+1) ep 0=[]:=by unfold opX;rw [opB_zero];rfl
theorem opL_zero (n g:Int) (ep l:Nat):opL zeroD n ((l+1:Nat):Int) g ep 0=newL n ((l+1:Nat):Int) g ep 0:=by
 unfold opL opN opT
 rw [Int.toNat_natCast,opX_zero,opB_zero]
 simp [newL,endL]
theorem opOk_zero (l ep:Nat):opOk zeroD (l+1) ep 0=true:=by unfold opOk;simp
def noteR (t n:Nat):Rc:=⟨1,t,0,0,40,0,List.replicate n 0,List.replicate n 0⟩
theorem noteR_in (t n:Nat) (ht:t≤18446744073709551615):(noteR t n).In:=⟨ht,by simp [noteR],by simp [noteR],(fun x hx=>by simp [noteR] at hx;omega),fun x hx=>by simp [noteR] at hx;omega⟩
theorem noteR_may (t n:Nat) (ht:0 < t) (hn:1≤n) (hn2:n≤248):mayR (noteR t n)=true:=by
 unfold mayR
 rw [mayQ_iff];refine ⟨by show t≠0;omega,.inl ⟨rfl,rfl,by simp [noteR],by show (0:Int)≤40;omega,by show (40:Int) < 4096;omega,by simp [noteR];omega,by show (0:Int)≤0;omega,by simp [noteR];omega⟩⟩
theorem noteR_len (t n a:Nat):(recL (noteR t n) a).length=35+n+n:=by rw [recL_len];simp [noteR]
def twoB:List Int:=recL (noteR 1 3) 0++recL (noteR 2 5) 41
theorem twoB_len:twoB.length=86:=by unfold twoB;rw [List.length_append,noteR_len,noteR_len]
theorem twoB_small:Wd.Small twoB:=(recL_small (noteR_in _ _ (by decide)) _).app (recL_small (noteR_in _ _ (by decide)) _)
def twoL (g:Int):Lg:={ newL 64 16 g 1 0 with txt:=twoB }
theorem newL_fin (n l g:Int) (ep:Nat):(newL n l g ep 0).fin=0:=rfl
theorem newL_more (n l g:Int) (ep:Nat) (xs ys:List Int):({ newL n l g ep 0 with txt:=xs }:Lg).more ys={ newL n l g ep 0 with txt:=xs++ys }:=rfl
theorem newL_nil (n l g:Int) (ep:Nat):newL n l g ep 0={ newL n l g ep 0 with txt:=[] }:=rfl
theorem newL_with_fin (n l g:Int) (ep:Nat) (xs:List Int):({ newL n l g ep 0 with txt:=xs }:Lg).fin=xs.length:=by
 show 0 - 0 % 232+xs.length=xs.length
 omega
theorem newL_with_free (g:Int) (ep:Nat) (xs:List Int):({ newL 64 16 g ep 0 with txt:=xs }:Lg).free=freeR 16 0 0 xs.length:=by
 unfold Lg.free
 rw [newL_with_fin]
 rfl
theorem two_lay (g:Int):layE (noteR 1 3) (newL 64 16 g 1 0).free=0∧layA (newL 64 16 g 1 0) (noteR 1 3) (newL 64 16 g 1 0).free=0 ∧
  layE (noteR 2 5) (layL (newL 64 16 g 1 0) (noteR 1 3) (newL 64 16 g 1 0).free).free=0∧layA (layL (newL 64 16 g 1 0) (noteR 1 3) (newL 64 16 g 1 0).free) (noteR 2 5) (layL (newL 64 16 g 1 0) (noteR 1 3) (newL 64 16 g 1 0).free).free=41 ∧
  layL (layL (newL 64 16 g 1 0) (noteR 1 3) (newL 64 16 g 1 0).free) (noteR 2 5) (layL (newL 64 16 g 1 0) (noteR 1 3) (newL 64 16 g 1 0).free).free=twoL g:=by
 have f0:(newL 64 16 g 1 0).free=3480:=by
  rw [newL_nil,newL_with_free]
  decide
 have e0:layE (noteR 1 3) 3480=0:=by unfold layE;rw [if_pos (noteR_may 1 3 (by decide) (by decide) (by decide)),if_neg (by simp [noteR])]
 have l0:layL (newL 64 16 g 1 0) (noteR 1 3) 3480={ newL 64 16 g 1 0 with txt:=recL (noteR 1 3) 0 }:=by
  unfold layL
  rw [if_pos e0,newL_fin];exact newL_more 64 16 g 1 [] _
 have fin1:({ newL 64 16 g 1 0 with txt:=recL (noteR 1 3) 0 }:Lg).fin=41:=by rw [newL_with_fin,noteR_len]
 have f1:({ newL 64 16 g 1 0 with txt:=recL (noteR 1 3) 0 }:Lg).free=3439:=by
  rw [newL_with_free,noteR_len]
  decide
 have e1:layE (noteR 2 5) 3439=0:=by unfold layE;rw [if_pos (noteR_may 2 5 (by decide) (by decide) (by decide)),if_neg (by simp [noteR])]
 rw [f0,l0,f1];refine ⟨e0,?_,e1,?_,?_⟩
 · unfold layA;rw [if_pos e0,newL_fin]
 · unfold layA;rw [if_pos e1,fin1]
 ·
  unfold layL
  rw [if_pos e1,fin1,newL_more]
  unfold twoL twoB
  exact Eq.refl _
theorem twoL_fin (g:Int):(twoL g).fin=86:=by
 unfold twoL
 rw [newL_with_fin,twoB_len]
theorem two_flush (g:Int):flE zeroD (twoL g) 86=0∧(flL zeroD (twoL g) 86).lasts=86∧(flL zeroD (twoL g) 86).fin=86∧(flL zeroD (twoL g) 86).l=16∧(flL zeroD (twoL g) 86).tail=0∧(flL zeroD (twoL g) 86).rsv=0 ∧
  (flS zeroD (twoL g) 86).ls.length=64∧(flS zeroD (twoL g) 86).nw 3=Sx (secL 0 1 twoB)∧(∀ i,(flS zeroD (twoL g) 86).t i=[])∧(flS zeroD (twoL g) 86).writes=2∧((flS zeroD (twoL g) 86).crash []).nw 3=Sx (secL 0 1 twoB):=by
 have hf:=twoL_fin g
 have h1:¬ (twoL g).fin < 86:=by omega
 have h2:¬ 86≤(twoL g).lasts:=by show ¬ 86≤0;omega
 have hr0:¬ zeroD.refuses:=by unfold zeroD fresh St.refuses;simp
 have hbE:begE zeroD (twoL g)=0:=by
  unfold begE putDE
  rw [if_neg hr0]
  rfl
 have hbL:begL zeroD (twoL g)={ twoL g with begun:=true }:=by
  unfold begL
  rw [if_neg hr0]
  rfl
 obtain ⟨s1,hs1⟩:∃ s1,s1=begS zeroD (twoL g):=⟨_,rfl⟩
 have hbS:s1=((zeroD.wrote 3 (begX (twoL g))).barrier):=by
  have hbI:begI (twoL g)=3:=by
   show 3+0 / 232 % (16:Int).toNat=3
   decide
  have hdd:(zeroD.wrote 3 (begX (twoL g))).dead=false:=rfl;rw [hs1]
  unfold begS putD BaS
  rw [if_neg (show ¬ (twoL g).begun=true from fun e=>Bool.noConfusion e),if_neg hr0,if_neg hr0,hbI,hdd];exact if_neg (fun e=>Bool.noConfusion e)
 have hr1:¬ s1.refuses:=by
  rw [hbS]
  unfold St.refuses St.barrier St.wrote zeroD fresh
  simp
 have hl1:s1.ls.length=64:=by rw [hbS];simp [St.barrier,St.wrote,zeroD,fresh]
 have ht1:∀ i,s1.t i=[]:=fun i=>by rw [hbS];rfl
 have hw1:s1.writes=1:=by rw [hbS];rfl
 have hd1:s1.dead=false:=by rw [hbS];rfl
 have hch:chN (twoL g).txt.length=1:=by
  show chN twoB.length=1
  rw [twoB_len]
  rfl
 have hwX:wrX { twoL g with begun:=true } 0=Sx (secL 0 1 twoB):=by
  unfold wrX
  show Sx (secL (0 / 232+0) 1 ((twoB.drop (232*0)).take 232))=_
  rw [Nat.mul_zero,List.drop_zero,List.take_of_length_le (by rw [twoB_len];omega)]
 have hwA:wrAll { twoL g with begun:=true } 1 0 s1=((s1.wrote 3 (Sx (secL 0 1 twoB))).barrier,0):=by
  unfold wrAll
  rw [if_neg hr1,hwX]
  unfold wrAll BaS BaE
  have hd:(s1.wrote (wrI { twoL g with begun:=true } 0) (Sx (secL 0 1 twoB))).dead=false:=hd1
  have hwI:wrI { twoL g with begun:=true } 0=3:=by
   show 3+(0 / 232+0) % (16:Int).toNat=3
   decide
  rw [hd,hwI,if_neg (fun e=>Bool.noConfusion e),if_neg (fun e=>Bool.noConfusion e)]
 have hS:flS zeroD (twoL g) 86=(s1.wrote 3 (Sx (secL 0 1 twoB))).barrier:=by
  unfold flS
  rw [if_neg h1,if_neg h2,if_neg (fun e=>e hbE),← hs1,hbL,hch,hwA]
 have hE:flE zeroD (twoL g) 86=0:=by
  unfold flE
  rw [if_neg h1,if_neg h2,if_neg (fun e=>e hbE),← hs1,hbL,hch,hwA]
 have hL:flL zeroD (twoL g) 86=({ twoL g with begun:=true }:Lg).done:=by
  unfold flL
  rw [if_neg h1,if_neg h2,if_neg (fun e=>e hbE),← hs1,hbL,hch,hwA];rw [if_neg (fun e=>e rfl)]
 have hnw:((s1.wrote 3 (Sx (secL 0 1 twoB))).barrier).nw 3=Sx (secL 0 1 twoB):=by
  have hlen:(s1.wrote 3 (Sx (secL 0 1 twoB))).ls.length=64:=hl1
  unfold St.barrier St.nw
  rw [hlen]
  show (((List.range 64).map fun i=>((s1.wrote 3 (Sx (secL 0 1 twoB))).t i).getLastD ((s1.wrote 3 (Sx (secL 0 1 twoB))).ls.getD i Sec.zero)).getD 3 Sec.zero)=_
  rw [List.getD_eq_getElem?_getD,List.getElem?_map,List.getElem?_range (by omega)]
  simp only [Option.map_some,Option.getD_some]
  unfold St.wrote
  simp
 have hfd:({ twoL g with begun:=true }:Lg).done.fin=86:=by
  show ({ twoL g with begun:=true }:Lg).fin - ({ twoL g with begun:=true }:Lg).fin % 232+(twoB.drop (twoB.length - ({ twoL g with begun:=true }:Lg).fin % 232)).length=86
  have:({ twoL g with begun:=true }:Lg).fin=86:=hf;rw [this,List.length_drop,twoB_len]
 rw [hE,hL,hS];refine ⟨rfl,hf,hfd,rfl,rfl,rfl,by simp [St.barrier,St.wrote,hl1],hnw,fun i=>rfl,by show s1.writes+1=2;rw [hw1],?_⟩
 have hlb:((s1.wrote 3 (Sx (secL 0 1 twoB))).barrier).ls.length=64:=by simp [St.barrier,St.wrote,hl1]
 unfold St.crash
 rw [nw_fresh,hlb,List.getD_eq_getElem?_getD,List.getElem?_map,List.getElem?_range (by omega)]
 simp only [Option.map_some,Option.getD_some]
 unfold St.chosen
 have ht:((s1.wrote 3 (Sx (secL 0 1 twoB))).barrier).t 3=[]:=rfl;rw [ht]
 simp only [List.length_nil,Nat.zero_add,Nat.mod_one]
 exact hnw
theorem two_found (s:St) (h:s.nw 3=Sx (secL 0 1 twoB)):opB s 16 2 0=twoB∧opX s 16 2 0=[(41,noteR 1 3),(86,noteR 2 5)]∧opOk s 16 2 0=true:=by
 have hsec:IsSec (secL 0 1 twoB):=secL_sec (by rw [twoB_len];omega) twoB_small;obtain ⟨h1,h2,h3,h4,h5⟩:=secL_says (k:=0) (ep:=1) (b:=twoB) (by decide) (by decide) (by rw [twoB_len];omega)
 have hB:opB s 16 2 0=twoB:=by
  unfold opB
  show foundL (fun i=>secN (s.nw i)) 16 2 16 0 1=twoB
  unfold foundL
  show (if okX (secN (s.nw 3))=true∧numX (secN (s.nw 3))=0∧epX (secN (s.nw 3))≤2∧1≤epX (secN (s.nw 3)) then bytX (secN (s.nw 3))++(if manyX (secN (s.nw 3)) < 232 then [] else _) else [])=twoB
  rw [h,secN_Sx hsec,h3,h4,h5,if_pos ⟨h1,h2,by decide,by decide⟩,if_pos (by rw [twoB_len];omega),List.append_nil]
 refine ⟨hB,?_,by unfold opOk;simp⟩
 unfold opX
 rw [hB]
 show allL (twoB.drop 0) 0=_
 rw [List.drop_zero]
 have e1:onW 0 (recL (noteR 1 3) 0).length=41:=by rw [noteR_len];rfl
 have e2:onW 41 (recL (noteR 2 5) 41).length=86:=by rw [noteR_len];rfl
 have e3:strL [noteR 1 3,noteR 2 5] 0=twoB:=by
  show recL (noteR 1 3) 0++(recL (noteR 2 5) (onW 0 (recL (noteR 1 3) 0).length)++[])=twoB
  rw [e1,List.append_nil]
  rfl
 have h6:=allL_str [noteR 1 3,noteR 2 5] 0 [] (fun r hr=>by
  rcases List.mem_cons.1 hr with rfl | hr
  · exact ⟨noteR_may 1 3 (by decide) (by decide) (by decide),noteR_in _ _ (by decide)⟩
  ·
   rcases List.mem_cons.1 hr with rfl | hr
   · exact ⟨noteR_may 2 5 (by decide) (by decide) (by decide),noteR_in _ _ (by decide)⟩
   · cases hr) (by decide)
 rw [List.append_nil,e3] at h6
 rw [h6]
 show [(onW 0 (recL (noteR 1 3) 0).length,noteR 1 3),(onW (onW 0 (recL (noteR 1 3) 0).length) (recL (noteR 2 5) (onW 0 (recL (noteR 1 3) 0).length)).length,noteR 2 5)]=_
 rw [e1,e2]
end Go.Proofs.YtlijbgapkmfnaaaGreat
namespace Go.Proofs.YtlijbgapkmfnaaaGreat
open Go.RowKit Go.Maps
theorem opL_begin:opL zeroD 64 16 1 1 0=newL 64 16 1 1 0:=opL_zero 64 1 1 15
theorem opOk_begin:opOk zeroD 16 1 0=true:=opOk_zero 15 1
def RetBeg (w:World) (e:Ending) (w':World):Prop:=
 ∃ bp S T pd pw pl pm,e=.returned (.tuple #[.pointer (some ⟨bp,0,none⟩),.bool true])∧PrB w w' bp S T pd pw pl pm zeroD (newL 64 16 1 1 0) zeroD (newL 64 16 1 1 0) 20000
set_option maxRecDepth 100000 in
set_option maxHeartbeats 1000000 in
theorem begin_any (w:World):Calls Tryz.prog 7 #[] w (RetBeg w):=by
 obtain ⟨i0,hi,hz0,hz1,hz2⟩:=info_parts info_sec;have HI:=Lib.hid hi;have HZ0:=Lib.hid hz0;have HZ1:=Lib.hid hz1;have HZ2:=Lib.hid hz2;clear hi hz0 hz1 hz2
 go_enter Tryz.func7,Tryz.ntmps7
 go_wp2_with fail;refine (New_yes 64 _ ⟨by omega,by omega⟩).mono ?_;rintro e w1 ⟨d,F,rfl,hd,hg,hfar⟩;have HD1:=Lib.hid hd;have HG1:=Lib.hid hg;have HF1:=Lib.hid hfar;clear hd hg hfar
 go_wp2_with (at_make;refine wpList_make_full _ rfl _ _ TL rfl 0 TS i0 (.agg (sec Sec.zero)) 256 Tryz.underlying44 HI.out HZ0.out HZ1.out _ _ _ _ 64 rfl rfl rfl rfl ?b1 ?b2 (Nat.zero_le _) ?_)
 case b1=>rw [HZ2.out];omega
 case b2=>unfold maxLen;omega
 intro w2 hown hgrow
 have hz:=made_zero 64
 simp only [Value.cells] at hz
 rw [hz] at hown
 clear hz
 have hr:Row w2 (.slice (some ⟨w1.heap.size,0,none⟩) 64 64) (List.replicate 64 Sec.zero):=by
  unfold Row
  rw [List.length_replicate];exact hown
 have HG2:Hid (Gr w1 w2):=Lib.hid (Below.grown (Gr.refl w1) hgrow (Nat.le_refl _) (fun k e=>by cases e));have HC:=Lib.hid (refNew_any w2 _ _ hr (by rw [List.length_replicate];omega) (by rw [List.length_replicate];omega));clear hown hgrow hr;go_wp2_with fail;refine HC.out.mono ?_;rintro e w3 ⟨p,G,rfl,hr,hg3,hG3⟩
 obtain ⟨D,hD⟩:∃ D,d=.pointer (some ⟨D,0,none⟩):=by
  obtain ⟨D,_,_,_,h,_⟩:=HD1.out;exact ⟨D,h⟩
 obtain ⟨R,hR⟩:∃ R,p=.pointer (some ⟨R,0,none⟩):=by
  obtain ⟨R,_,_,_,h,_⟩:=hr;exact ⟨R,h⟩
 have HP:Hid (PrD w (w3.alloc (.cells #[d,p,.pointer none,.pointer none] TPr)) w3.heap.size F G d p (.pointer none) (.pointer none) zeroD):=Lib.hid (by
  have gn:=Gr.new w3 (.cells #[d,p,.pointer none,.pointer none] TPr);have s1:=HG1.out.size;have s2:=HG2.out.size;have s3:=hg3.size;refine ⟨Blk.new w3 TPr _,(HD1.out.gr HG2.out).gr (Gr.trans hg3 gn),hr.gr gn,fun k hF hG=>?_,fun hF=>?_,fun hG=>?_,Gr.trans HG1.out (Gr.trans HG2.out (Gr.trans hg3 gn)),by omega,HF1.out,fun k hG=>?_,⟨_,rfl⟩,⟨_,rfl⟩⟩
  · have:=HD1.out.low k hF;have:=hG3 k hG;omega
  · have:=HD1.out.low _ hF;omega
  · have:=hr.low _ hG;omega
  · have:=hG3 k hG;omega)
 subst hD hR;clear hr hg3 hG3 HC HG2 HD1 HG1 HF1 HI HZ0 HZ1 HZ2;go_wp2_with fail;refine (popen_any HP.out (by simp [zeroD,fresh]) 1 0 (by decide) (by decide) (by decide)).mono ?_;rintro e w4 ⟨_,(⟨h,_⟩ | ⟨_,v,K,S,T,pl,pm,rfl,_,_,hp⟩)⟩
 ·
  rw [opOk_begin] at h
  cases h
 rw [opL_begin] at hp
 have HPB:=Lib.hid hp;obtain ⟨⟨b,rfl⟩,_⟩:=hp.code.ptr;have c2:=hp.blk.cell 2
 simp at c2
 clear hp;go_wp2_with fail
 go_quiet (fail)
 go_wp2_with fail
 go_ret2
 exact ⟨w3.heap.size,S,T,_,_,_,_,rfl,HPB.out.up (gr_drewN (Gr.refl _) _)⟩
end Go.Proofs.YtlijbgapkmfnaaaGreat
namespace Go.Proofs.YtlijbgapkmfnaaaGreat
open Go.RowKit Go.Maps
def KB (w w':World):Prop:=∀ p n c xs,Byt w p n c xs→Byt w' p n c xs
theorem KB.refl (w:World):KB w w:=fun _ _ _ _ h=>h
theorem KB.gr {w w':World} (g:Gr w w'):KB w w':=fun _ _ _ _ h=>h.kept g
theorem KB.only {w w':World} {k:Nat} {t:TypeId} {cs:Array Value} (hb:Blk w k t cs) (hc:∀ v ∈ cs.toList,∀ i,v≠.int .u8 i) (ho:Only k w w'):KB w w':=fun _ _ _ _ h=>
 h.grown (grown_only ho) fun hn y hy e=>h.not_blk hn hb hc y hy (Option.some.inj e).symm
def IsBf (w:World) (v:Value) (b:Nat) (xs:List Int):Prop:=∃ p n c,v=.slice p n c∧Byt w p n c xs∧∀ y,p=some y→b≤y.block
def IsRf (w:World) (v:Value) (b:Nat) (r:Rc):Prop:=∃ pb nb cb pa na ca,v=.agg (rcv r pb nb cb pa na ca)∧Byt w pb nb cb r.b∧Byt w pa na ca r.a∧(∀ y,pb=some y→b≤y.block)∧∀ y,pa=some y→b≤y.block
theorem IsBf.kb {w w':World} {v:Value} {b:Nat} {xs:List Int} (h:IsBf w v b xs) (k:KB w w'):IsBf w' v b xs:=by
 obtain ⟨p,n,c,e,h,l⟩:=h;exact ⟨p,n,c,e,k _ _ _ _ h,l⟩
theorem IsRf.kb {w w':World} {v:Value} {b:Nat} {r:Rc} (h:IsRf w v b r) (k:KB w w'):IsRf w' v b r:=by
 obtain ⟨pb,nb,cb,pa,na,ca,e,h1,h2,l⟩:=h;exact ⟨pb,nb,cb,pa,na,ca,e,k _ _ _ _ h1,k _ _ _ _ h2,l⟩
theorem zrec_u8:∀ v ∈ zrec.toList,∀ i,v≠.int .u8 i:=by
 intro v hv i e
 subst e
 simp [zrec] at hv
theorem rcv_size (r:Rc) (pb:Option Addr) (nb cb:Nat) (pa:Option Addr) (na ca:Nat):(rcv r pb nb cb pa na ca).size=8:=rfl
theorem rcv_one (r:Rc) (pb:Option Addr) (nb cb:Nat) (pa:Option Addr) (na ca:Nat):(rcv r pb nb cb pa na ca).all (·.oneCell')=true:=by simp [rcv,Value.oneCell']
theorem make_zeros {base:Nat} (n:Nat) (w:World) (hn:n≤100000) (hb:base≤w.heap.size) :
  ∃ w',(Instr.makeSlice TBs (.int .i64 (n:Int)) (.int .i64 (n:Int))).run Tryz.prog w=.ok (.slice (some ⟨w.heap.size,0,none⟩) n n) w'∧OwnB w' base 5 (.slice (some ⟨w.heap.size,0,none⟩) n n) (List.replicate n 0)∧Gr w w':=by
 obtain ⟨i,hi,hz0,hz1,hz2⟩:=info_parts btc.info;obtain ⟨w',h1,h2,h3⟩:=run_makeSlice_full (P:=Tryz.prog) (w:=w) base TBs 5 i (.int .u8 0) 1 btc.us hi hz0 hz1 .i64 .i64 n (by omega) (by rw [hz2];omega) (by unfold maxLen;omega) hb
 simp only [Value.cells,Nat.mul_one] at h2
 rw [toList_madeCells_one] at h2
 refine ⟨w',h1,⟨?_,small_zeros n⟩,Below.grown (Gr.refl w) h3 (Nat.le_refl _) (fun k e=>by cases e)⟩;rw [List.length_replicate,List.map_replicate];exact h2
end Go.Proofs.YtlijbgapkmfnaaaGreat
namespace Go.Proofs.YtlijbgapkmfnaaaGreat
open Go.RowKit Go.Maps
def SlNo (b:Nat) (t:Nat) (n:Nat) (slot:Nat) (v:Value) (w:World):Prop:=
 match slot with
 | 5=>v=.int .u64 (t:Int)
 | 6=>v=.int .i64 (n:Int)
 | 8=>v=.int .i64 (n:Int)
 | 7=>IsBf w v b (List.replicate n 0)
 | 9=>IsBf w v b (List.replicate n 0)
 | 10=>IsRf w v b (noteR t n)
 | _=>True
theorem slNo_kb {b:Nat} {t:Nat} {n:Nat} {s:Nat} {v:Value} {w w':World} (h:SlNo b t n s v w) (g:KB w w'):SlNo b t n s v w':=by
 unfold SlNo at *
 split <;> simp only at h
 all_goals first
  | exact h
  | exact IsB.kb h g
  | exact IsRc.kb h g
  | exact IsBf.kb h g
  | exact IsRf.kb h g
def RetNote (r:Rc) (w:World) (e:Ending) (w':World):Prop:=∃ v,e=.returned v∧IsRf w' v w.heap.size r∧Gr w w'
set_option maxRecDepth 100000 in
set_option maxHeartbeats 1000000 in
theorem note_any (t n:Nat) (w:World) (ht:t≤18446744073709551615) (hn:n≤600):Calls Tryz.prog 18 #[.int .u64 (t:Int),.int .i64 (n:Int)] w (RetNote (noteR t n) w):=by
 have HN:Hid (n≤100000):=Lib.hid (by omega)
 go_enter Tryz.func18,Tryz.ntmps18
 go_wp2_with fail;obtain ⟨W0,hW0⟩:∃ W0,W0=w.alloc (.cells zrec TR):=⟨_,rfl⟩;have hW0':w.alloc (.cells #[.int .i64 0,.int .u64 0,.int .u64 0,.int .u64 0,.int .i64 0,.int .i64 0,.slice none 0 0,.slice none 0 0] TR)=W0:=hW0.symm;rw [hW0']
 have HB4:Hid (∀ W,Gr W0 W→Blk W w.heap.size TR zrec∧Gr w W):=Lib.hid fun W g=>by
  have h:=Blk.new w TR zrec
  rw [← hW0] at h
  exact ⟨h.gr g,Gr.trans (by rw [hW0];exact Gr.new _ _) g⟩
 obtain ⟨b,hb0⟩:∃ b,b=w.heap.size:=⟨_,rfl⟩;have HB0:=Lib.hid hb0;clear hW0 hW0' hb0;refine Flow.regionSG [] 22 (SlNo b t n) (InC 6 W0 (fun W=>∃ pb nb cb pa na ca,Blk W w.heap.size TR (rcv (noteR t n) pb nb cb pa na ca)∧Byt W pb nb cb (noteR t n).b∧Byt W pa na ca (noteR t n).a∧(∀ y,pb=some y→b≤y.block)∧(∀ y,pa=some y→b≤y.block)∧Gr w W)) (fun _=>KB) (by kernel_rfl) (by kernel_rfl) (fun _ _ _ _ _ _ h g=>slNo_kb h g) (InC.start (by rfl) (Gr.refl _).drew) ?steps ?fin
 case steps=>
  refine .cons (fun l a W hfr hun hup hdn hinv hdep K hK=>?_) ?_
  · have t0:=tAt (.int .u64 (t:Int)) (hfr.at 0 (by kernel_rfl));refine fW0 rfl ?_;clear hfr hdep;have hl1:l 6=false:=hup 6 (by decide) (by kernel_rfl);have hin:=hinv.pre hl1;go_simp;exact hK _ _ (KB.refl _) (hinv.other 0 (by decide)) (dsT (by trivial))
  refine .cons (fun l a W hfr hun hup hdn hinv hdep K hK=>?_) ?_
  · have t1:=tAt (.int .i64 (n:Int)) (hfr.at 1 (by kernel_rfl));refine fW0 rfl ?_;clear hfr hdep;have hl1:l 6=false:=hup 6 (by decide) (by kernel_rfl);have hin:=hinv.pre hl1;go_simp;exact hK _ _ (KB.refl _) (hinv.other 1 (by decide)) (dsT (by trivial))
  refine .cons (fun l a W hfr hun hup hdn hinv hdep K hK=>?_) ?_
  ·
   have t6:=tAt (.int .i64 (n:Int)) (hdep 6 (by kernel_rfl));refine fW0 rfl ?_;clear hfr hdep;have hl1:l 6=false:=hup 6 (by decide) (by kernel_rfl);have hin:=hinv.pre hl1;obtain ⟨W',hmk,hob,g1⟩:=make_zeros n W HN.out (Nat.zero_le W.heap.size)
   have hlow:b≤W.heap.size:=by have:=(HB4.out W hin).2.size;have:=HB0.out;omega
   go_simp;exact hK _ _ (KB.gr g1) (hinv.grow hl1 g1 2 (by decide)) (fun d hd=>by cases hd;exact ⟨_,_,_,rfl,hob.byt.1,fun y hy=>by cases hy;exact hlow⟩)
  refine .cons (fun l a W hfr hun hup hdn hinv hdep K hK=>?_) ?_
  · have t1:=tAt (.int .i64 (n:Int)) (hfr.at 1 (by kernel_rfl));refine fW0 rfl ?_;clear hfr hdep;have hl1:l 6=false:=hup 6 (by decide) (by kernel_rfl);have hin:=hinv.pre hl1;go_simp;exact hK _ _ (KB.refl _) (hinv.other 3 (by decide)) (dsT (by trivial))
  refine .cons (fun l a W hfr hun hup hdn hinv hdep K hK=>?_) ?_
  ·
   have t8:=tAt (.int .i64 (n:Int)) (hdep 8 (by kernel_rfl));refine fW0 rfl ?_;clear hfr hdep;have hl1:l 6=false:=hup 6 (by decide) (by kernel_rfl);have hin:=hinv.pre hl1;obtain ⟨W',hmk,hob,g1⟩:=make_zeros n W HN.out (Nat.zero_le W.heap.size)
   have hlow:b≤W.heap.size:=by have:=(HB4.out W hin).2.size;have:=HB0.out;omega
   go_simp;exact hK _ _ (KB.gr g1) (hinv.grow hl1 g1 4 (by decide)) (fun d hd=>by cases hd;exact ⟨_,_,_,rfl,hob.byt.1,fun y hy=>by cases hy;exact hlow⟩)
  refine .cons (fun l a W hfr hun hup hdn hinv hdep K hK=>?_) ?_
  · have t5:=tAt (.int .u64 (t:Int)) (hdep 5 (by kernel_rfl));have s7:IsBf W (a.tmps.getD 7 undef) b (List.replicate n 0):=hdep 7 (by kernel_rfl);have s9:IsBf W (a.tmps.getD 9 undef) b (List.replicate n 0):=hdep 9 (by kernel_rfl);refine fW0 rfl ?_;clear hfr hdep;have hl1:l 6=false:=hup 6 (by decide) (by kernel_rfl);have hin:=hinv.pre hl1;obtain ⟨p7,n7,c7,e7,h7,l7⟩:=s7;have t7:=tmpAt e7;obtain ⟨p9,n9,c9,e9,h9,l9⟩:=s9;have t9:=tmpAt e9;go_simp;exact hK _ _ (KB.refl _) (hinv.other 5 (by decide)) (fun d hd=>by cases hd;exact ⟨_,_,_,_,_,_,rfl,h7,h9,l7,l9⟩)
  refine .cons (fun l a W hfr hun hup hdn hinv hdep K hK=>?_) ?_
  ·
   have s4:a.tmps.getD 4 undef=.pointer (some ⟨w.heap.size,0,none⟩):=hfr.at 4 (by kernel_rfl)
   have t4:=tmpAt s4;have s10:IsRf W (a.tmps.getD 10 undef) b (noteR t n):=hdep 10 (by kernel_rfl);refine fW0 rfl ?_;clear hfr hdep;have hin:=hinv.pre hun;obtain ⟨pb,nb,cb,pa,na,ca,hv,h1,h2,l1,l2⟩:=s10;obtain ⟨hb6,g6⟩:=HB4.out W hin;refine wp_store_row TR (.tmp 4) (.tmp 10) rfl w.heap.size (rcv (noteR t n) pb nb cb pa na ca) (by simpa [Act.eval] using s4) (by simpa [Act.eval] using hv) TR zrec hb6 (by rw [rcv_size];exact size_rec) (by rw [rcv_size];rfl) (rcv_one _ _ _ _ _ _ _) ?_;have kb:=KB.only hb6 zrec_u8 (Only.row w.heap.size W (rcv (noteR t n) pb nb cb pa na ca));exact hK undef _ kb (InC.fin ⟨pb,nb,cb,pa,na,ca,hb6.row _,kb _ _ _ _ h1,kb _ _ _ _ h2,l1,l2,below_setRow g6 (Nat.le_refl _) _⟩) (fun d hd=>by cases hd)
  exact True.intro
 case fin=>
  intro a W l hfr hall hinv hsl
  have hfin:=hinv.post (hall 6 (by decide));have e:=Flow.frame hfr [5,6,7,8,9,10] (List.range 11) (by kernel_rfl) (by kernel_rfl)
  simp [List.range,List.range.loop] at e
  rw [e];have HFin:=Lib.hid hfin;clear e hfr hsl hall hinv hfin
  first
   | (rename_i hB;refine hB _ _ ?_)
   | (rename_i hB y0;refine hB _ _ ?_)
   | (rename_i hB y0 y1;refine hB _ _ ?_)
   | (rename_i hB y0 y1 y2;refine hB _ _ ?_)
   | (rename_i hB y0 y1 y2 y3;refine hB _ _ ?_)
   | (rename_i hB y0 y1 y2 y3 y4;refine hB _ _ ?_)
   | (rename_i hB y0 y1 y2 y3 y4 y5;refine hB _ _ ?_)
   | (rename_i hB y0 y1 y2 y3 y4 y5 y6;refine hB _ _ ?_)
   | (rename_i hB y0 y1 y2 y3 y4 y5 y6 y7;refine hB _ _ ?_)
   | (rename_i hB y0 y1 y2 y3 y4 y5 y6 y7 y8;refine hB _ _ ?_)
   | (rename_i hB y0 y1 y2 y3 y4 y5 y6 y7 y8 y9;refine hB _ _ ?_)
   | (rename_i hB y0 y1 y2 y3 y4 y5 y6 y7 y8 y9 y10;refine hB _ _ ?_)
   | skip
  obtain ⟨pb,nb,cb,pa,na,ca,hb,h1,h2,l1,l2,hg⟩:=HFin.out
  rw [HB0.out] at l1 l2
  go_wp2
  exact bodyPost_ret (results_rec rfl _ _ _ _ rfl rfl hb) rfl ⟨_,rfl,⟨pb,nb,cb,pa,na,ca,rfl,h1,h2,l1,l2⟩,hg⟩
end Go.Proofs.YtlijbgapkmfnaaaGreat
namespace Go.Proofs.YtlijbgapkmfnaaaGreat
open Go.RowKit Go.Maps
structure PrK (w0 W5 W:World) (lo:Nat) (bp:Nat) (S T:Nat→Prop) (pd pw pl pm:Value) (s1:St) (L1:Lg) (s2:St) (L2:Lg) (M:Nat):Prop where
 pr:PrB w0 W bp S T pd pw pl pm s1 L1 s2 L2 M
 keep:∀ k,lo≤k→k < W5.heap.size→W.heap[k]?=W5.heap[k]?
 oS:∀ k,S k→¬ (lo≤k∧k < W5.heap.size)
 oT:∀ k,T k→¬ (lo≤k∧k < W5.heap.size)
 oB:bp < lo
 sz:W5.heap.size≤W.heap.size
section
variable {w0 W5 W W':World} {lo bp:Nat} {S T S' T':Nat→Prop} {pd pw pl pm:Value} {s1 s2 s':St} {L1 L2 L':Lg} {M M':Nat}
theorem PrK.start (h:PrB w0 W bp S T pd pw pl pm s1 L1 s2 L2 M) (g:Gr W W5):PrK w0 W5 W5 W.heap.size bp S T pd pw pl pm s1 L1 s2 L2 M:=
 ⟨h.up g,fun _ _ _=>rfl,fun k hk e=>by have:=h.code.low k hk;omega,fun k hk e=>by have:=h.doc.low k hk;omega,h.blk.lt,Nat.le_refl _⟩
theorem PrK.up (h:PrK w0 W5 W lo bp S T pd pw pl pm s1 L1 s2 L2 M) (g:Gr W W'):PrK w0 W5 W' lo bp S T pd pw pl pm s1 L1 s2 L2 M:=
 ⟨h.pr.up g,fun k h1 h2=>(g.block k (Nat.lt_of_lt_of_le h2 h.sz)).trans (h.keep k h1 h2),h.oS,h.oT,h.oB,Nat.le_trans h.sz g.size⟩
theorem PrK.codes (h:PrK w0 W5 W lo bp S T pd pw pl pm s1 L1 s2 L2 M) (hc:CodeAt W' S' pd pl s' L') (hu:Upd S S' W W'):PrK w0 W5 W' lo bp S' T pd pw pl pm s' L' s2 L2 M:=by
 obtain ⟨h1,h2⟩:=hu.other (G:=fun k=>lo≤k∧k < W5.heap.size) (fun k hk=>Nat.lt_of_lt_of_le hk.2 h.sz) h.oS;exact ⟨h.pr.codes hc hu,fun k e1 e2=>(h1 k ⟨e1,e2⟩).trans (h.keep k e1 e2),h2,h.oT,h.oB,Nat.le_trans h.sz hu.size⟩
theorem PrK.docs (h:PrK w0 W5 W lo bp S T pd pw pl pm s1 L1 s2 L2 M) (hc:DocAt W' T' pw pm s' L' M') (hu:Upd T T' W W'):PrK w0 W5 W' lo bp S T' pd pw pl pm s1 L1 s' L' M':=by
 obtain ⟨h1,h2⟩:=hu.other (G:=fun k=>lo≤k∧k < W5.heap.size) (fun k hk=>Nat.lt_of_lt_of_le hk.2 h.sz) h.oT;exact ⟨h.pr.docs hc hu,fun k e1 e2=>(h1 k ⟨e1,e2⟩).trans (h.keep k e1 e2),h.oS,h2,h.oB,Nat.le_trans h.sz hu.size⟩
end
structure RcAt (W:World) (lo hi b:Nat) (r:Rc) (pb:Option Addr) (nb cb:Nat) (pa:Option Addr) (na ca:Nat):Prop where
 blk:Blk W b TR (rcv r pb nb cb pa na ca)
 xb:Byt W pb nb cb r.b
 xa:Byt W pa na ca r.a
 lb:lo≤b∧b < hi
 lpb:∀ y,pb=some y→lo≤y.block∧y.block < hi
 lpa:∀ y,pa=some y→lo≤y.block∧y.block < hi
theorem RcAt.stays {W W':World} {lo hi b:Nat} {r:Rc} {pb:Option Addr} {nb cb:Nat} {pa:Option Addr} {na ca:Nat} (h:RcAt W lo hi b r pb nb cb pa na ca) (k:∀ k,lo≤k→k < hi→W'.heap[k]?=W.heap[k]?):RcAt W' lo hi b r pb nb cb pa na ca:=
 ⟨h.blk.stays (k b h.lb.1 h.lb.2),h.xb.stays (fun y hy=>k _ (h.lpb y hy).1 (h.lpb y hy).2),h.xa.stays (fun y hy=>k _ (h.lpa y hy).1 (h.lpa y hy).2),h.lb,h.lpb,h.lpa⟩
theorem Byt.up {w:World} {p:Option Addr} {n c:Nat} {xs:List Int} (h:Byt w p n c xs) (hn:0 < n):∀ y,p=some y→y.block < w.heap.size:=fun y hy=>by
 obtain ⟨b,o,e,hc⟩:=h.at hn
 rw [hy] at e
 cases e
 exact blk_lt (hc 0 hn)
theorem noteR_b (t n:Nat):(noteR t n).b.length=n∧(noteR t n).a.length=n:=by simp [noteR]
theorem IsRf.at2 {w:World} {v:Value} {b:Nat} {r:Rc} (h:IsRf w v b r) (hb:0 < r.b.length) (ha:0 < r.a.length):∃ pb nb cb pa na ca,v=.agg (rcv r pb nb cb pa na ca)∧Byt w pb nb cb r.b∧Byt w pa na ca r.a∧(∀ y,pb=some y→b≤y.block∧y.block < w.heap.size)∧∀ y,pa=some y→b≤y.block∧y.block < w.heap.size:=by
 obtain ⟨pb,nb,cb,pa,na,ca,e,h1,h2,l1,l2⟩:=h;have e1:=h1.len;have e2:=h2.len;exact ⟨pb,nb,cb,pa,na,ca,e,h1,h2,fun y hy=>⟨l1 y hy,h1.up (by omega) y hy⟩,fun y hy=>⟨l2 y hy,h2.up (by omega) y hy⟩⟩
def threeA (w:World):World:=((w.alloc (.cells zrec TR)).alloc (.cells zrec TR)).alloc (.cells zrec TR)
theorem threeA_size (w:World):(threeA w).heap.size=w.heap.size+3:=by unfold threeA;simp
theorem threeA_gr (w:World):Gr w (threeA w):=Gr.trans (Gr.new _ _) (Gr.trans (Gr.new _ _) (Gr.new _ _))
theorem threeA_blk (w:World):Blk (threeA w) w.heap.size TR zrec∧(∀ cs,Blk ((threeA w).setRow w.heap.size cs) (w.heap.size+1) TR zrec)∧∀ cs cs2,Blk (((threeA w).setRow w.heap.size cs).setRow (w.heap.size+1) cs2) (w.heap.size+1+1) TR zrec:=by
 have h2:Blk (threeA w) (w.heap.size+1) TR zrec:=by
  have h:=Blk.new (w.alloc (.cells zrec TR)) TR zrec
  rw [show (w.alloc (.cells zrec TR)).heap.size=w.heap.size+1 by simp] at h
  exact h.gr (Gr.new _ _)
 have h3:Blk (threeA w) (w.heap.size+1+1) TR zrec:=by
  have h:=Blk.new ((w.alloc (.cells zrec TR)).alloc (.cells zrec TR)) TR zrec
  rwa [show ((w.alloc (.cells zrec TR)).alloc (.cells zrec TR)).heap.size=w.heap.size+1+1 by simp] at h
 exact ⟨((Blk.new w TR zrec).gr (Gr.new _ _)).gr (Gr.new _ _),fun cs=>h2.other (by omega),fun cs cs2=>(h3.other (by omega)).other (by omega)⟩
theorem three_rows (w:World) (c1 c2 c3:Array Value):Gr w ((((threeA w).setRow w.heap.size c1).setRow (w.heap.size+1) c2).setRow (w.heap.size+1+1) c3)∧((((threeA w).setRow w.heap.size c1).setRow (w.heap.size+1) c2).setRow (w.heap.size+1+1) c3).heap.size=w.heap.size+3 ∧
  Blk ((((threeA w).setRow w.heap.size c1).setRow (w.heap.size+1) c2).setRow (w.heap.size+1+1) c3) w.heap.size TR c1∧Blk ((((threeA w).setRow w.heap.size c1).setRow (w.heap.size+1) c2).setRow (w.heap.size+1+1) c3) (w.heap.size+1) TR c2∧Blk ((((threeA w).setRow w.heap.size c1).setRow (w.heap.size+1) c2).setRow (w.heap.size+1+1) c3) (w.heap.size+1+1) TR c3:=by
 obtain ⟨h1,h2,h3⟩:=threeA_blk w;refine ⟨below_setRow (below_setRow (below_setRow (threeA_gr w) (Nat.le_refl _) _) (by omega) _) (by omega) _,?_,((h1.row c1).other (by omega)).other (by omega),((h2 c1).row c2).other (by omega),(h3 c1 c2).row c3⟩;rw [(Only.row _ _ _).size,(Only.row _ _ _).size,(Only.row _ _ _).size,threeA_size]
theorem wpList_store_rc {ops:Array Oper} {rest:List Oper} {op:Oper} {a:Act} {w:World} {Q:Exit→Act→World→Prop} (hgd:op.guard=none) (x y:Operand) (ho:op.op=.store TR x y) {g:Nat} {r:Rc} {pb:Option Addr} {nb cb:Nat} {pa:Option Addr} {na ca:Nat} (hb:Blk w g TR zrec)
  (hx:a.eval x=.pointer (some ⟨g,0,none⟩)) (hy:a.eval y=.agg (rcv r pb nb cb pa na ca)) (h:wpList Tryz.prog ops Q rest (a.put op.dst undef) (w.setRow g (rcv r pb nb cb pa na ca))):wpList Tryz.prog ops Q (op :: rest) a w:=
 wpList_store_row hgd TR x y ho g _ hx hy TR zrec hb (by rw [rcv_size];exact size_rec) (by rw [rcv_size];rfl) (rcv_one _ _ _ _ _ _ _) h
end Go.Proofs.YtlijbgapkmfnaaaGreat
namespace Go.Proofs.YtlijbgapkmfnaaaGreat
open Go.RowKit
def InK (c1 c2 z1 z2 d1 d2:Nat) (w0:World) (A1:Value→World→Prop) (A2 A3 A4:Value→Value→World→Prop) (l:Nat→Bool) (a:Act) (W:World):Prop:=
 (l c1=false→Gr w0 W)∧(l c1=true→l c2=false→A1 (a.tmps.getD d1 undef) W)∧(l c2=true→l z1=false→A2 (a.tmps.getD d1 undef) (a.tmps.getD d2 undef) W) ∧
  (l z1=true→l z2=false→A3 (a.tmps.getD d1 undef) (a.tmps.getD d2 undef) W)∧(l z2=true→A4 (a.tmps.getD d1 undef) (a.tmps.getD d2 undef) W)
section
variable {c1 c2 z1 z2 d1 d2:Nat} {w0 W W':World} {A1:Value→World→Prop} {A2 A3 A4:Value→Value→World→Prop} {l:Nat→Bool} {a:Act}
theorem InK.start (h1:l c1=false) (h2:l c2=false) (h3:l z1=false) (h4:l z2=false) (g:Gr w0 W):InK c1 c2 z1 z2 d1 d2 w0 A1 A2 A3 A4 l a W:=
 ⟨fun _=>g,(fun e=>by rw [h1] at e;cases e),(fun e=>by rw [h2] at e;cases e),(fun e=>by rw [h3] at e;cases e),fun e=>by rw [h4] at e;cases e⟩
theorem InK.other (h:InK c1 c2 z1 z2 d1 d2 w0 A1 A2 A3 A4 l a W) (i:Nat) (n1:c1≠i) (n2:c2≠i) (n3:z1≠i) (n4:z2≠i) {x:Option Nat} (x1:x≠some d1) (x2:x≠some d2) (v:Value):InK c1 c2 z1 z2 d1 d2 w0 A1 A2 A3 A4 (Flow.upd l i) (a.put x v) W:=by
 unfold InK
 rw [Flow.upd_other l n1,Flow.upd_other l n2,Flow.upd_other l n3,Flow.upd_other l n4,Flow.getD_put_other x1,Flow.getD_put_other x2];exact h
theorem InK.pre (h:InK c1 c2 z1 z2 d1 d2 w0 A1 A2 A3 A4 l a W) (h1:l c1=false):Gr w0 W:=h.1 h1
theorem InK.got1 (h:InK c1 c2 z1 z2 d1 d2 w0 A1 A2 A3 A4 l a W) (h1:l c1=true) (h2:l c2=false):A1 (a.tmps.getD d1 undef) W:=h.2.1 h1 h2
theorem InK.got2 (h:InK c1 c2 z1 z2 d1 d2 w0 A1 A2 A3 A4 l a W) (h1:l c2=true) (h2:l z1=false):A2 (a.tmps.getD d1 undef) (a.tmps.getD d2 undef) W:=h.2.2.1 h1 h2
theorem InK.got3 (h:InK c1 c2 z1 z2 d1 d2 w0 A1 A2 A3 A4 l a W) (h1:l z1=true) (h2:l z2=false):A3 (a.tmps.getD d1 undef) (a.tmps.getD d2 undef) W:=h.2.2.2.1 h1 h2
theorem InK.post (h:InK c1 c2 z1 z2 d1 d2 w0 A1 A2 A3 A4 l a W) (h1:l z2=true):A4 (a.tmps.getD d1 undef) (a.tmps.getD d2 undef) W:=h.2.2.2.2 h1
theorem InK.call1 (n:c1≠c2∧c1≠z1∧c1≠z2) (h2:l c2=false) (h3:l z1=false) (h4:l z2=false) (hd:d1 < a.tmps.size) {v:Value} (hv:A1 v W'):InK c1 c2 z1 z2 d1 d2 w0 A1 A2 A3 A4 (Flow.upd l c1) (a.put (some d1) v) W':=by
 unfold InK
 rw [Flow.upd_same,Flow.upd_other l (Ne.symm n.1),Flow.upd_other l (Ne.symm n.2.1),Flow.upd_other l (Ne.symm n.2.2),Flow.getD_put_same hd,h2,h3,h4];exact ⟨(fun e=>by cases e),fun _ _=>hv,(fun e=>by cases e),(fun e=>by cases e),fun e=>by cases e⟩
theorem InK.call2 (n:c2≠c1∧c2≠z1∧c2≠z2) (hne:d2≠d1) (h1:l c1=true) (h3:l z1=false) (h4:l z2=false) (hd:d2 < a.tmps.size) {v:Value} (hv:A2 (a.tmps.getD d1 undef) v W'):InK c1 c2 z1 z2 d1 d2 w0 A1 A2 A3 A4 (Flow.upd l c2) (a.put (some d2) v) W':=by
 unfold InK
 rw [Flow.upd_same,Flow.upd_other l (Ne.symm n.1),Flow.upd_other l (Ne.symm n.2.1),Flow.upd_other l (Ne.symm n.2.2),Flow.getD_put_same hd,Flow.getD_put_other (fun e=>hne (Option.some.inj e)),h1,h3,h4];exact ⟨(fun e=>by cases e),(fun _ e=>by cases e),fun _ _=>hv,(fun e=>by cases e),fun e=>by cases e⟩
theorem InK.store1 (n:z1≠c1∧z1≠c2∧z1≠z2) (h1:l c1=true) (h2:l c2=true) (h4:l z2=false) (v:Value) (hv:A3 (a.tmps.getD d1 undef) (a.tmps.getD d2 undef) W'):InK c1 c2 z1 z2 d1 d2 w0 A1 A2 A3 A4 (Flow.upd l z1) (a.put none v) W':=by
 unfold InK
 rw [Flow.upd_same,Flow.upd_other l (Ne.symm n.1),Flow.upd_other l (Ne.symm n.2.1),Flow.upd_other l (Ne.symm n.2.2),Flow.getD_put_other (by simp),Flow.getD_put_other (by simp),h1,h2,h4];exact ⟨(fun e=>by cases e),(fun _ e=>by cases e),(fun _ e=>by cases e),fun _ _=>hv,fun e=>by cases e⟩
theorem InK.store2 (n:z2≠c1∧z2≠c2∧z2≠z1) (h1:l c1=true) (h2:l c2=true) (h3:l z1=true) (v:Value) (hv:A4 (a.tmps.getD d1 undef) (a.tmps.getD d2 undef) W'):InK c1 c2 z1 z2 d1 d2 w0 A1 A2 A3 A4 (Flow.upd l z2) (a.put none v) W':=by
 unfold InK
 rw [Flow.upd_same,Flow.upd_other l (Ne.symm n.1),Flow.upd_other l (Ne.symm n.2.1),Flow.upd_other l (Ne.symm n.2.2),Flow.getD_put_other (by simp),Flow.getD_put_other (by simp),h1,h2,h3];exact ⟨(fun e=>by cases e),(fun _ e=>by cases e),(fun _ e=>by cases e),(fun _ e=>by cases e),fun _=>hv⟩
end
end Go.Proofs.YtlijbgapkmfnaaaGreat
namespace Go.Proofs.YtlijbgapkmfnaaaGreat
open Go.RowKit Go.Maps
def Cr1 (w0:World) (s:St) (v:Value) (W:World):Prop:=Gr w0 W∧∃ D F,v=.pointer (some ⟨D,0,none⟩)∧Dk W F v s∧∀ k,F k→w0.heap.size≤k
def Cr2 (w0:World) (s:St) (v u:Value) (W:World):Prop:=
 Gr w0 W∧∃ D R F G,v=.pointer (some ⟨D,0,none⟩)∧u=.pointer (some ⟨R,0,none⟩)∧Dk W F v s∧Rf W G u s∧(∀ k,F k→w0.heap.size≤k)∧(∀ k,G k→w0.heap.size≤k)∧∀ k,F k→¬ G k
def Cr3 (w0:World) (bp:Nat) (s:St) (v u:Value) (W:World):Prop:=∃ V,Cr2 w0 s v u V∧W=V.setCell ⟨bp,0,none⟩ v
def Cr4 (w0:World) (bp:Nat) (s:St) (v u:Value) (W:World):Prop:=∃ V,Cr2 w0 s v u V∧W=(V.setCell ⟨bp,0,none⟩ v).setCell ⟨bp,1,none⟩ u
theorem Cr1.gr {w0 W:World} {s:St} {v:Value} (h:Cr1 w0 s v W):Gr w0 W:=h.1
theorem Cr1.of {w0 W W':World} {s:St} {v:Value} {F:Nat→Prop} (g:Gr w0 W) (hd:Dk W' F v s) (g2:Gr W W') (hF:∀ k,F k→W.heap.size≤k):Cr1 w0 s v W':=by
 obtain ⟨D,_,_,_,h,_⟩:=id hd;exact ⟨Gr.trans g g2,D,F,h,hd,fun k hk=>Nat.le_trans g.size (hF k hk)⟩
theorem Cr1.two {w0 W W':World} {s:St} {v u:Value} (h:Cr1 w0 s v W) {G:Nat→Prop} (hr:Rf W' G u s) (g2:Gr W W') (hG:∀ k,G k→W.heap.size≤k):Cr2 w0 s v u W':=by
 obtain ⟨g,D,F,e,hd,hF⟩:=h;obtain ⟨R,_,_,_,h,_⟩:=id hr;exact ⟨Gr.trans g g2,D,R,F,G,e,h,hd.gr g2,hr,hF,fun k hk=>Nat.le_trans g.size (hG k hk),fun k h1 h2=>by have:=hd.low k h1;have:=hG k h2;omega⟩
theorem Cr4.made {w00 w W:World} {bp:Nat} {S T:Nat→Prop} {pd pw pl pm v u:Value} {s1 s2 s:St} {L1 L2:Lg} {M:Nat} (hp:PrB w00 w bp S T pd pw pl pm s1 L1 s2 L2 M) (h:Cr4 w bp s v u W) :
  ∃ D R F G,v=.pointer (some ⟨D,0,none⟩)∧u=.pointer (some ⟨R,0,none⟩)∧PrD w00 W bp F G v u pl pm s∧KeepB bp w W:=by
 obtain ⟨V,⟨g,D,R,F,G,ev,eu,hd,hr,hF,hG,ha⟩,rfl⟩:=h;have hl:=hp.blk.lt;have hg0:=hp.gr.size;have k:KeepB bp V ((V.setCell ⟨bp,0,none⟩ v).setCell ⟨bp,1,none⟩ u):=(KeepB.cell 0 _ _).trans (KeepB.cell 1 _ _)
 have nF:¬ F bp:=fun e=>by have:=hF _ e;omega
 have nG:¬ G bp:=fun e=>by have:=hG _ e;omega
 have gg:Gr w00 V:=Gr.trans hp.gr g;refine ⟨D,R,F,G,ev,eu,⟨?_,hd.stays (fun j hj=>k.2 j (hd.low j hj) (fun e=>nF (e ▸ hj))) k.1,hr.stays (fun j hj=>k.2 j (hr.low j hj) (fun e=>nG (e ▸ hj))) k.1,ha,nF,nG,Below.setCell (Below.setCell gg hp.lb _) hp.lb _,hp.lb,fun j hj=>Nat.le_trans hg0 (hF j hj),fun j hj=>Nat.le_trans hg0 (hG j hj),?_,?_⟩,(KeepB.gr g).trans k⟩
 · exact ((hp.blk.gr g).set 0 v).set 1 u
 · obtain ⟨⟨b,e⟩,_⟩:=hp.code.ptr;exact ⟨_,e⟩
 · obtain ⟨_,b,_,_,_,_,_,e,_⟩:=hp.doc;exact ⟨_,e⟩
end Go.Proofs.YtlijbgapkmfnaaaGreat
namespace Go.Proofs.YtlijbgapkmfnaaaGreat
open Go.RowKit Go.Maps
structure Lg.Like (L L':Lg):Prop where
 n:L'.n=L.n
 l:L'.l=L.l
 g:L'.g=L.g
 epoch:L'.epoch=L.epoch
 tail:L'.tail=L.tail
 rsv:L'.rsv=L.rsv
 fin:L'.fin=L.fin
theorem Lg.Like.fits {L L':Lg} (h:L.Like L') (hf:L.Fits):L'.Fits:=by
 unfold Lg.Fits at *
 rw [h.rsv,h.fin,h.tail,h.l];exact hf
theorem flL_facts {s:St} {L:Lg} (ok:L.Ok) (u:Nat):(flL s L u).Ok∧L.Like (flL s L u):=by
 have h0:L.Like L:=⟨rfl,rfl,rfl,rfl,rfl,rfl,rfl⟩
 have hb:(begL s L).Ok∧L.Like (begL s L):=by
  refine ⟨(begL_ok ok).1,?_⟩
  rcases begL_cases s L with h | h
  · rw [h];exact h0
  · rw [h];exact ⟨rfl,rfl,rfl,rfl,rfl,rfl,rfl⟩
 unfold flL
 split
 · exact ⟨ok,h0⟩
 ·
  split
  · exact ⟨ok,h0⟩
  ·
   split
   · exact hb
   ·
    split
    · exact hb
    · have hd:=hb.1.done;exact ⟨hd.1,hb.2.n,hb.2.l,hb.2.g,hb.2.epoch,hb.2.tail,hb.2.rsv,hd.2.1.trans hb.2.fin⟩
theorem StW.dead {s0 s:St} {k:Nat} (h:StW s0 k s):StW s0 k { s with dead:=true }:=⟨h.len,h.less,h.wr⟩
theorem StW.more {s0 s:St} {k k':Nat} (h:StW s0 k s) (hk:k≤k'):StW s0 k' s:=⟨h.len,h.less,by have:=h.wr;omega⟩
theorem StW.ba {s0 s:St} {k:Nat} (h:StW s0 k s):StW s0 k (BaS s):=by
 unfold BaS
 split
 · exact h
 · exact h.barrier
theorem StW.put {s0 s:St} {k:Nat} (h:StW s0 k s) (i:Nat) (x:Sec):StW s0 (k+1) (putD s i x):=by
 unfold putD
 split
 · exact h.dead.more (by omega)
 · exact h.wrote i x
theorem StW.all {s0:St} {L:Lg}:∀ (n j k:Nat) (s:St),StW s0 k s→StW s0 (k+n) (wrAll L n j s).1
 | 0,j,k,s,h=>h.ba
 | n+1,j,k,s,h=>by
  unfold wrAll
  split
  · exact h.dead.more (by omega)
  · exact (StW.all n (j+1) (k+1) _ (h.wrote _ _)).more (by omega)
theorem flS_stw {s:St} {L:Lg} (ok:L.Ok) (h:∀ i,(s.t i).length≤s.writes) (u:Nat):StW s 500 (flS s L u):=by
 have h0:StW s 0 s:=⟨rfl,h,Nat.le_refl _⟩
 have hb:StW s 1 (begS s L):=by
  unfold begS
  split
  · exact h0.more (by omega)
  ·
   split
   · exact (h0.put _ _)
   · exact (h0.put _ _).ba
 have hl:=ok.len
 unfold flS
 split
 · exact h0.more (by omega)
 ·
  split
  · exact h0.more (by omega)
  ·
   split
   · exact hb.more (by omega)
   ·
    refine (StW.all (chN L.txt.length) 0 1 _ hb).more ?_
    unfold chN
    omega
theorem newL_ok:(newL 64 16 1 1 0).Ok∧(newL 64 16 1 1 0).Fits:=by
 have h:=opL_ok zeroD 64 16 1 1 0 (by decide) (by decide) (by decide) (by decide) (opOk_zero 15 1)
 rw [show opL zeroD 64 16 1 1 0=newL 64 16 1 1 0 from opL_zero 64 1 1 15] at h
 exact ⟨h.1,h.2.2.1⟩
theorem zeroD_less:∀ i,(zeroD.t i).length≤zeroD.writes:=fun i=>by simp [zeroD,fresh]
end Go.Proofs.YtlijbgapkmfnaaaGreat
