/-
  Texts, put together: PoolOpen.
-/
import Derived.Test.YtdmhemgepdknhaaGreatV1
import Derived.Test.YtdmhemgepdknhaaGreatV7
import Derived.Test.YtdmhemgepdknhaaGreatV27
set_option linter.unusedVariables false
set_option linter.unusedSimpArgs false
namespace Go.Proofs.YtdmhemgepdknhaaGreat
open Go.ChangeShapes Go.WideShapes Go.ChangeAt Go.RowKit Go.Maps
abbrev TPa:TypeId:=33
structure PDo where
 kind:Int
 page:Int
 off:Int
 n:Int
 pb:Option Addr
 nb:Nat
 cb:Nat
 ys:List Int
def PDo.cells (a:PDo):List Value:=[.int .i64 a.kind,.int .i64 a.page,.int .i64 a.off,.int .i64 a.n,.slice a.pb a.nb a.cb]
def I64 (x:Int):Prop := -9223372036854775808≤x∧x≤9223372036854775807
structure PDo.In (w:World) (a:PDo):Prop where
 b:Byt w a.pb a.nb a.cb a.ys
 k:I64 a.kind
 g:I64 a.page
 o:I64 a.off
 n:I64 a.n
theorem PDo.In.gr {w w':World} {a:PDo} (h:a.In w) (g:Gr w w'):a.In w':=⟨h.b.kept g,h.k,h.g,h.o,h.n⟩
structure PActs (w:World) (p:Option Addr) (n c:Nat):Prop where
 cap:n≤c
 most:c≤maxLen
 lies:0 < n→∃ b o,p=some ⟨b,o,none⟩∧∀ i,i < n→∃ a:PDo,(∀ j v,a.cells[j]?=some v→w.cell? ⟨b,o+i*5+j,none⟩=some v)∧a.In w
theorem PActs.row {w:World} {p:Option Addr} {n c:Nat} (h:PActs w p n c) (k:Nat) (hk:k < n):∃ b o a,p=some ⟨b,o,none⟩∧∀ V,Gr w V→(∀ j v,(PDo.cells a)[j]?=some v→V.cell? ⟨b,o+k*5+j,none⟩=some v)∧a.In V:=by
 obtain ⟨b,o,rfl,hc⟩:=h.lies (by omega);obtain ⟨a,h1,h2⟩:=hc k hk;exact ⟨b,o,a,rfl,fun V g=>⟨fun j v hv=>by rw [g.cell (World.block_lt_of_cell? w _ (h1 j v hv))];exact h1 j v hv,h2.gr g⟩⟩
set_option maxRecDepth 100000 in
theorem openPActs {H:Type} {enc:TypeId × Value→H} {W:World} {a:Option Addr} {len cap:Nat} {d:DataW H} {p:List MemPlace}
  (h:DataW.Trod enc Tryz.prog W 0 (fun _=>true) true 22 (.slice a len cap) d p):PActs W a len cap:=by
 obtain ⟨fuel,hf⟩:=h
 have hc:Tryz.prog.cellsOf TPa=5:=by kernel_rfl
 have hc1:Tryz.prog.cellsOf 3=1:=by kernel_rfl
 have hc2:Tryz.prog.cellsOf 5=1:=by kernel_rfl
 have hc3:Tryz.prog.cellsOf 31=1:=by kernel_rfl
 rcases Go.Deep.open_slice Tryz.underlying22 hf with ⟨hcs,_⟩ | ⟨x,l,c,m,n,D,Pl,hcs,_,hl,hm,hmm,_,hx⟩
 ·
  simp [Value.cells] at hcs
  obtain ⟨rfl,rfl,rfl⟩:=hcs;exact ⟨Nat.le_refl _,Nat.zero_le _,fun h=>absurd h (Nat.lt_irrefl 0)⟩
 ·
  simp [Value.cells] at hcs
  obtain ⟨rfl,rfl,rfl⟩:=hcs
  simp only [if_true] at hmm
  subst hmm;have hc':Tryz.prog.cellsOf 33=5:=hc
  rw [hc'] at hx
  have each:∀ i,i < len→∃ g:PDo,(∀ j v,g.cells[j]?=some v→W.cell? ((x.add (i*5)).add j)=some v)∧g.In W:=fun i hi=>by
   obtain ⟨cs,h1,h2⟩:=hx i (by omega);obtain ⟨_,hlen,hcells⟩:=World.cells?_some h1;obtain ⟨xs,k,_,_,_,hlx,hff⟩:=DataW.trod_struct Tryz.underlying33 h2
   match xs,hlx with
   | [y0,y1,y2,y3,y4],_=>
    match cs,hlen with
    | [c0,c1,c2,c3,c4],_=>
     have t0:=hff 0 _ rfl;have t1:=hff 1 _ rfl;have t2:=hff 2 _ rfl;have t3:=hff 3 _ rfl;have t4:=hff 4 _ rfl
     simp [hc1] at t0
     simp [hc1] at t1
     simp [hc1] at t2
     simp [hc1] at t3
     simp [hc3] at t4
     obtain ⟨K,e0,_,w0⟩:=DataW.trod_int Tryz.underlying3 t0;obtain ⟨I,e1,_,w1⟩:=DataW.trod_int Tryz.underlying3 t1;obtain ⟨J,e2,_,w2⟩:=DataW.trod_int Tryz.underlying3 t2;obtain ⟨M,e3,_,w3⟩:=DataW.trod_int Tryz.underlying3 t3
     simp at e0 e1 e2 e3
     subst e0 e1 e2 e3
     obtain ⟨q,mm,kk,zs,e4,hz⟩:∃ q mm kk zs,c4=Value.slice q mm kk∧Byt W q mm kk zs:=by
      have tt:=t4
      rcases Go.Deep.open_slice Tryz.underlying31 t4 with ⟨h5,_⟩ | ⟨a5,l5,c5,_,_,_,_,h5,_⟩
      ·
       simp at h5
       subst h5;exact ⟨none,0,0,[],rfl,Byt.nil W⟩
      ·
       simp at h5
       subst h5;obtain ⟨zs,hz⟩:=openBytes Tryz.underlying31 Tryz.underlying5 hc2 (W:=W) (a:=some a5) (len:=l5) (cap:=c5) (enc:=enc) (d:=y4.1) (p:=y4.2) ⟨_,by simpa [Value.cells] using tt⟩;exact ⟨_,_,_,zs,rfl,hz⟩
     subst e4;refine ⟨⟨K,I,J,M,q,mm,kk,zs⟩,fun j v hj=>?_,hz,i64Of w0,i64Of w1,i64Of w2,i64Of w3⟩
     have hlt:j < 5:=by have:=(List.getElem?_eq_some_iff.1 hj).1;simpa [PDo.cells] using this
     rw [hcells j (by omega)];exact hj
  refine ⟨hl,hm,fun hn=>?_⟩;obtain ⟨z0,hz0,_⟩:=each 0 hn;have hc0:=hz0 0 _ rfl;obtain ⟨b,o,sp⟩:=x
  obtain rfl:sp=none:=by simpa [Addr.add] using World.cell?_spot hc0
  refine ⟨b,o,rfl,fun i hi=>?_⟩;obtain ⟨z,hz,hin⟩:=each i hi;refine ⟨z,fun j v hj=>?_,hin⟩;have:=hz j v hj
  simpa only [Go.WideShapes.add_plain] using this
end Go.Proofs.YtdmhemgepdknhaaGreat
