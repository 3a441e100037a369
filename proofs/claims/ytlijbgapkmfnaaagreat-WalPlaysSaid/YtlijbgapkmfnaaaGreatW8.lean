/-
  Part 8 of what the laws of stage 6 rest on: contracts of the functions that they call, and what these rest on.
-/
import Derived.Lib.AppendZeros
import Derived.Maps.AppendAt
import Derived.Deep.RegionHeld3
import Derived.Test.YtlijbgapkmfnaaaGreatW1
import Derived.Test.YtlijbgapkmfnaaaGreatW2
import Derived.Test.YtlijbgapkmfnaaaGreatW4
import Derived.Test.YtlijbgapkmfnaaaGreatW5
import Derived.Test.YtlijbgapkmfnaaaGreatW6
import Derived.Test.YtlijbgapkmfnaaaGreatW7
set_option linter.unusedVariables false
set_option linter.unusedSimpArgs false
namespace Go.Proofs.YtlijbgapkmfnaaaGreat
open Go.RowKit
def SeqToldK {α:Type} (F:Fence) (n:Nat) (P:Program) (g:Nat) (lb:Array Value) (encs:α→Array Value) (G:List α→α→World→Prop) (Ks:Nat→Prop) (S Sp:List α→Prop) (w:World):Prop:=
 ∀ (l:Nat) (J Jx:List α→World→Prop) (W:World),Below w.heap.size w W→OwnFrom W.heap.size J→OwnFrom W.heap.size Jx →
  (∀ pre x V,J pre V→G pre x V→YieldAt F (n - 1) P l (encs x) V fun e V'=>(e=.returned (.bool true)∧J (pre++[x]) V'∧HoldS firm Ks V V'∧KeepsFrom W.heap.size V V')∨(e=.returned (.bool false)∧Jx (pre++[x]) V'∧KeepsFrom W.heap.size V V')) →
  J [] W→CallsIn F n P g (#[.func (.yield l) #[] #[]]++lb) W fun e V=>(∃ v,e=.returned v)∧((∃ xs,S xs∧J xs V)∨∃ pre,Sp pre∧Jx pre V)
theorem SeqTold.keeps {α:Type} {F:Fence} {n:Nat} {P:Program} {g:Nat} {lb:Array Value} {encs:α→Array Value} {G:List α→α→World→Prop} {Ks:Nat→Prop} {S Sp:List α→Prop} {w:World} (h:SeqTold F n P g lb encs G Ks S Sp w):SeqToldK F n P g lb encs G Ks S Sp w:=
 fun l J Jx W hW hJ hJx hY h0=>h l J Jx W hW hJ hJx (fun pre x V hj hg=>(hY pre x V hj hg).mono (fun e V' he=>by
  rcases he with ⟨h1,h2,h3,_⟩ | ⟨h1,h2,_⟩
  · exact .inl ⟨h1,h2,h3⟩
  · exact .inr ⟨h1,h2⟩)) h0
variable {F:Fence} {n:Nat} {P:Program} {w:World}
theorem wpIn_range_toldK {α:Type} {g:Operand} {ps:Array Tmp} {assign body:Code} {Q:Exit→Act→World→Prop} {a:Act}
  (hro:F.round=none) (h1:1≤n) {gf:Nat} {lb:Array Value} (hg:a.eval g=.func (.func gf) #[] lb) (hFg:F.fn gf) (eg:∀ args w,(callFunc gf args).run P w=.ok (.enter gf args) w)
  {encs:α→Array Value} {G:List α→α→World→Prop} {Ks:Nat→Prop} {S Sp:List α→Prop} {w0:World} (hseq:SeqToldK F (n - 1) P gf lb encs G Ks S Sp w0)
  (hb0:Below w0.heap.size w0 w) (hps:∀ x,(encs x).size=ps.size)
  (I Ir:List α→World→Prop) (hI:OwnFrom w.heap.size I) (hIr:OwnFrom w.heap.size Ir) (h0:I [] w) (Ax:List α→α→Act→World→Prop) (hAx:∀ pre x b,OwnFrom w.heap.size (fun (_:Unit) W=>Ax pre x b W))
  (hassign:∀ (l:Nat) (pre:List α) (x:α) (W:World) (K:Act→World→Prop),I pre W→G pre x W→(∀ b V,KeepsFrom w.heap.size W V→HoldS firm Ks W V→I pre V→Ax pre x b V→K b V) →
   assign.wpIn (F.inRound l) (n - 1 - 1) P (Exit.then K (fun _ _ _=>False)) { tmps:=(ps.zip (encs x)).foldl (fun t (p,v)=>t.setIfInBounds p v) a.tmps,defers:=[] } W)
  (hbody:∀ (l:Nat) (pre:List α) (x:α) (b:Act) (W:World),w.heap.size≤l→I pre W→Ax pre x b W→body.wpIn (F.inRound l) (n - 1 - 1) P (toldPost w.heap.size Ks I Ir (pre++[x]) W) b W)
  (hdone:∀ (D:Nat) (xs:List α) (W:World),w.heap.size≤D→S xs→I xs W→W.heap[D]?=some (.deferred (some []))→Q .normal { a with defers:={ target:=.collected D,args:=#[] } :: a.defers } W)
  (hstop:∀ (D:Nat) (pre:List α) (W:World),w.heap.size≤D→Sp pre→Ir pre W→W.heap[D]?=some (.deferred (some []))→Code.ret.wpIn F n P Q { a with defers:={ target:=.collected D,args:=#[] } :: a.defers } W) :
  (Code.rangeFunc g ps assign body).wpIn F n P Q a w:=by
 refine wpIn_rangeFunc fun fn hfn=>?_
 rw [hro];obtain ⟨B,hB⟩:∃ B,B=w.heap.size:=⟨_,rfl⟩
 obtain ⟨rec,hrec⟩:∃ rec:LoopState→Option Code→Loop,rec=fun st pe=>{ state:=st,pending:=pe,fn,tmps:=a.tmps,params:=ps,assign,body,defers:=w.heap.size }:=⟨_,rfl⟩
 obtain ⟨V,hV⟩:∃ V,V=(w.alloc (.deferred (some []))).alloc (.loop (rec .ready none)):=⟨_,rfl⟩
 let Bk:LoopState→Option Code→World→Prop:=fun st pe W=>W.heap[B+1]?=some (.loop (rec st pe))∧W.heap[B]?=some (.deferred (some []))
 have hVs:V.heap.size=B+1+1:=by rw [hV,hB];simp
 have hBk:Bk .ready none V:=⟨by rw [hV,hB];have:=World.alloc_heap_new (w.alloc (.deferred (some []))) (.loop (rec .ready none));rwa [World.size_alloc] at this,
  by rw [hV,hB];exact (Below.heap_alloc _ _ _ (by simp)).trans (World.alloc_heap_new w _)⟩
 have hIV:I [] V:=by rw [hV];exact hI.alloc _ (hI.alloc _ h0)
 have hbV:Below w0.heap.size w0 V:=by rw [hV];exact hb0.trans ((((Below.refl _ w).alloc (Nat.le_refl _) _).alloc (by simp) _).mono hb0.size)
 have keep:∀ {st pe} {X Y:World} {row:Option Nat},Bk st pe X→X.grownBy Y row→(∀ r,row=some r→V.heap.size≤r∧∃ o:Obj,X.heap[r]?=some o∧o.isCells=false)→Bk st pe Y:=fun h hg' hr=>
  ⟨(hg'.block _ (Array.getElem?_eq_some_iff.1 h.1).1 (fun e=>by have:=(hr _ e.symm).1;omega)).trans h.1,(hg'.block _ (Array.getElem?_eq_some_iff.1 h.2).1 (fun e=>by have:=(hr _ e.symm).1;omega)).trans h.2⟩
 have cells:∀ {X:World} {row:Option Nat},(∀ r,row=some r→V.heap.size≤r∧∃ o:Obj,X.heap[r]?=some o∧o.isCells=false)→∀ r,row=some r→w.heap.size≤r∧∃ o:Obj,X.heap[r]?=some o∧o.isCells=false:=fun hr r e=>by
  obtain ⟨h2,ho⟩:=hr r e;exact ⟨by omega,ho⟩
 have turn:∀ {st pe} (st':LoopState) (pe':Option Code) {X:World},Bk st pe X→Bk st' pe' (X.putObj (B+1) (.loop (rec st' pe'))):=fun st' pe' X h=>
  ⟨World.putObj_heap_same (Array.getElem?_eq_some_iff.1 h.1).1,(World.putObj_heap_other (by omega)).trans h.2⟩
 refine ⟨B+1,[{ target:=.collected B,args:=#[] }],V,{ target:=.fn (.func gf) lb,args:=#[.func (.yield (B+1)) #[] #[]] },V,gf,#[.func (.yield (B+1)) #[] #[]]++lb,V,?_,?_,?_,?_,fun _=>h1,?_⟩
 · rw [hV,hB,hrec];exact run_enterLoop_outer _ _ _ _ _
 ·
  simp only [resolve,hg]
  simp [go_sem]
 · intro f' hf';simp [Target.leads] at hf';subst hf';exact hFg
 · simp [invoke,go_sem,eg]
 refine (hseq (B+1) (fun pre W=>I pre W∧Bk .ready none W) (fun pre W=>Ir pre W∧Bk .done (some .ret) W) V hbV
  (fun s X Y row h hg' hr=>⟨hI s X Y row h.1 hg' (cells hr),keep h.2 hg' hr⟩) (fun s X Y row h hg' hr=>⟨hIr s X Y row h.1 hg' (cells hr),keep h.2 hg' hr⟩) ?round ⟨hIV,hBk⟩).mono ?after
 case round=>
  rintro pre x W ⟨hi,hk⟩ hG;have hy:=run_yield (P:=P) (args:=encs x) hk.1 (by rw [hrec];exact hps x)
  rw [hrec] at hy
  refine ⟨fn,_,assign,body,hy,roundIn_of_wpIn hfn (hassign _ pre x W _ hi hG fun b X hfx hsx hix hax=>?_)⟩;have hkx:Bk .ready none X:=⟨hfx.same _ _ (by omega) hk.1 rfl,hfx.same _ _ (by omega) hk.2 rfl⟩;refine ⟨_,run_beginRound hkx.1 (by rw [hrec]),?_⟩;have hk2:=turn .busy none hkx
  have e2:({ rec .ready none with state:=.busy }:Loop)=rec .busy none:=by rw [hrec]
  rw [e2];refine wpIn_mono (hbody _ pre x b _ (by omega) (hI.putObj _ hix (by omega) hkx.1 rfl) ((hAx pre x b).putObj (s:=()) _ hax (by omega) hkx.1 rfl)) ?_
  have fin:∀ (jump:Option Code) (Y:World),KeepsFrom w.heap.size (X.putObj (B+1) (.loop (rec .busy none))) Y→Bk .busy none Y ∧
    (Instr.endRound (B+1) jump).run P Y=.ok (.bool jump.isNone) (Y.putObj (B+1) (.loop (rec (if jump.isNone then .ready else .done) jump))):=fun jump Y hY=>by
   have h3:Bk .busy none Y:=⟨hY.same _ _ (by omega) hk2.1 rfl,hY.same _ _ (by omega) hk2.2 rfl⟩;have h4:=run_endRound (P:=P) jump h3.1
   rw [hrec] at h4 ⊢
   exact ⟨h3,h4⟩
  have put:∀ (Z:World) (o:Obj),KeepsFrom V.heap.size Z (Z.putObj (B+1) o):=fun Z o=>KeepsFrom.of_grownBy (grownBy_putObj' Z (B+1) o) (fun j e=>by cases e;omega)
  have low:∀ {Y Z:World},KeepsFrom w.heap.size Y Z→KeepsFrom V.heap.size Y Z:=fun h=>⟨h.size,fun k o hB hk ho=>h.same k o (by omega) hk ho⟩
  have kf:∀ (jump:Option Code) (Y:World),KeepsFrom w.heap.size (X.putObj (B+1) (.loop (rec .busy none))) Y→KeepsFrom V.heap.size W (Y.putObj (B+1) (.loop (rec (if jump.isNone then .ready else .done) jump))):=fun jump Y hY=>(low hfx).trans ((put _ _).trans ((low hY).trans (put _ _)))
  rintro e c Y hp
  cases e with
  | normal=>
   obtain ⟨hf,hs,hi3⟩:=hp;obtain ⟨h3,hr⟩:=fin none Y hf;exact ⟨_,_,hr,.inl ⟨rfl,⟨hI.putObj _ hi3 (by omega) h3.1 rfl,turn .ready none h3⟩,hsx.trans ((HoldS.put _ _ _ _ hkx.1 rfl).trans (hs.trans (HoldS.put _ _ _ _ h3.1 rfl))),kf none Y hf⟩⟩
  | ret=>
   obtain ⟨hf,hi3⟩:=hp;obtain ⟨h3,hr⟩:=fin (some .ret) Y hf;exact ⟨_,_,hr,.inr ⟨rfl,⟨hIr.putObj _ hi3 (by omega) h3.1 rfl,turn .done (some .ret) h3⟩,kf (some .ret) Y hf⟩⟩
  | exit id=>exact hp.elim
  | goto t=>exact hp.elim
  | panic ch=>exact hp.elim
  | outgrown=>exact hp.elim
 case after=>
  rintro e W2 ⟨⟨v,rfl⟩,⟨xs,hS,hi,hk⟩ | ⟨pre,hSp,hi,hk⟩⟩
  ·
   have he:=run_endLoop (P:=P) hk.1 (by rw [hrec];simp)
   rw [hrec] at he
   exact ⟨none,_,he,by rw [hB];exact hdone _ xs _ (Nat.le_refl _) hS (by rw [← hB];exact hI.putObj _ hi (by omega) hk.1 rfl) (by rw [← hB];exact (World.putObj_heap_other (by omega)).trans hk.2)⟩
  ·
   have he:=run_endLoop (P:=P) hk.1 (by rw [hrec];simp)
   rw [hrec] at he
   exact ⟨some .ret,_,he,by rw [hB];exact hstop _ pre _ (Nat.le_refl _) hSp (by rw [← hB];exact hIr.putObj _ hi (by omega) hk.1 rfl) (by rw [← hB];exact (World.putObj_heap_other (by omega)).trans hk.2)⟩
theorem wpIn_range_toldF {α ρ:Type} {g:Operand} {ps:Array Tmp} {assign body:Code} {Q:Exit→Act→World→Prop} {a:Act}
  (hro:F.round=none) (h1:1≤n) {gf:Nat} {lb:Array Value} (hg:a.eval g=.func (.func gf) #[] lb) (hFg:F.fn gf) (eg:∀ args w,(callFunc gf args).run P w=.ok (.enter gf args) w)
  {encs:α→Array Value} {G:List α→α→World→Prop} {Ks:Nat→Prop} {S Sp:List α→Prop} {w0:World} (hseq:SeqToldK F (n - 1) P gf lb encs G Ks S Sp w0)
  (hb0:Below w0.heap.size w0 w) (hps:∀ x,(encs x).size=ps.size)
  (I Ir:List α→World→Prop) (hI:OwnFrom w.heap.size I) (hIr:OwnFrom w.heap.size Ir) (h0:I [] w) (upd:Array Value→α→ρ→Array Value) (Bx:List α→α→ρ→World→Prop) (hBx:∀ pre x R,OwnFrom w.heap.size (fun (_:Unit) W=>Bx pre x R W))
  (hassign:∀ (l:Nat) (pre:List α) (x:α) (W:World) (K:Act→World→Prop),I pre W→G pre x W→(∀ R V,KeepsFrom w.heap.size W V→HoldS firm Ks W V→I pre V→Bx pre x R V→K { tmps:=upd a.tmps x R,defers:=[] } V) →
   assign.wpIn (F.inRound l) (n - 1 - 1) P (Exit.then K (fun _ _ _=>False)) { tmps:=(ps.zip (encs x)).foldl (fun t (p,v)=>t.setIfInBounds p v) a.tmps,defers:=[] } W)
  (hbody:∀ (l:Nat) (pre:List α) (x:α) (R:ρ) (W:World),w.heap.size≤l→I pre W→Bx pre x R W→body.wpIn (F.inRound l) (n - 1 - 1) P (toldPost w.heap.size Ks I Ir (pre++[x]) W) { tmps:=upd a.tmps x R,defers:=[] } W)
  (hdone:∀ (D:Nat) (xs:List α) (W:World),w.heap.size≤D→S xs→I xs W→W.heap[D]?=some (.deferred (some []))→Q .normal { a with defers:={ target:=.collected D,args:=#[] } :: a.defers } W)
  (hstop:∀ (D:Nat) (pre:List α) (W:World),w.heap.size≤D→Sp pre→Ir pre W→W.heap[D]?=some (.deferred (some []))→Code.ret.wpIn F n P Q { a with defers:={ target:=.collected D,args:=#[] } :: a.defers } W) :
  (Code.rangeFunc g ps assign body).wpIn F n P Q a w:=
 wpIn_range_toldK hro h1 hg hFg eg hseq hb0 hps I Ir hI hIr h0 (fun pre x b V=>∃ R,Bx pre x R V∧b={ tmps:=upd a.tmps x R,defers:=[] })
  (fun pre x b s X Y row ⟨R,h,e⟩ hg hr=>⟨R,hBx pre x R () X Y row h hg hr,e⟩)
  (fun l pre x W K hi hx hK=>hassign l pre x W K hi hx fun R V h1 h2 h3 h4=>hK _ V h1 h2 h3 ⟨R,h4,rfl⟩)
  (fun l pre x b W hl hi ⟨R,h,e⟩=>by subst e;exact hbody l pre x R W hl hi h) hdone hstop
end Go.Proofs.YtlijbgapkmfnaaaGreat
namespace Go.Proofs.YtlijbgapkmfnaaaGreat
open Go.RowKit Go.Maps Go.Shelf
attribute [local go_sem] Oper.semAt_some
def wrI (L:Lg) (j:Nat):Nat:=3+(L.lasts / 232+j) % L.l.toNat
def wrX (L:Lg) (j:Nat):Sec:=Sx (secL (L.lasts / 232+j) L.epoch ((L.txt.drop (232*j)).take 232))
def wrAll (L:Lg):Nat→Nat→St→St × Int
 | 0,_,s=>(BaS s,BaE s)
 | n+1,j,s=>if s.refuses then ({ s with dead:=true },8) else wrAll L n (j+1) (s.wrote (wrI L j) (wrX L j))
theorem chunk_eq {xs:List Int} {a n m:Nat} (hl:xs.length=m) (hn:n=min 232 (m - a)):(xs.take (a+n)).drop a=(xs.drop a).take 232:=by
 rw [List.drop_take,show a+n - a=n by omega]
 rcases Nat.le_total 232 (m - a) with h | h
 · rw [show n=232 by omega]
 · rw [List.take_of_length_le (by rw [List.length_drop];omega),List.take_of_length_le (by rw [List.length_drop];omega)]
abbrev TPL2:TypeId:=54
abbrev TEr:TypeId:=39
structure WaAt (w:World) (F0:Nat→Prop) (X b:Nat) (p:Value) (q:Option Addr) (m c mm:Nat) (L:Lg) (r:Int) (k:Nat) (s:St) (F:Nat→Prop) (W:World):Prop where
 dk:DkM W F p mm s
 lg:LgAt W b p q m c L
 apart:∀ k,F k→¬ lgS b q k
 box:Blk W w.heap.size TPL2 #[.pointer (some ⟨b,0,none⟩)]
 res:Blk W (w.heap.size+1) TEr #[.int .i64 r]
 num:Blk W (w.heap.size+1+1) TU #[.int .u64 (k:Int)]
 upd:Upd (wlS F0 b q) (wlS F b q) w W
 far:∀ k,F k→k < w.heap.size∨X≤k
 ml:mm < w.heap.size
 xs:w.heap.size+1+1 < X∧X≤W.heap.size
 lgl:∀ k,lgS b q k→k < w.heap.size
section
variable {w:World} {F0:Nat→Prop} {X b:Nat} {p:Value} {q:Option Addr} {m c mm:Nat} {L:Lg} {r:Int} {k:Nat} {s:St} {F:Nat→Prop} {W W':World}
theorem WaAt.wl (h:WaAt w F0 X b p q m c mm L r k s F W):Wl W F b p q m c s L:=⟨h.dk.dk,h.lg,h.apart⟩
theorem WaAt.write {F':Nat→Prop} {s':St} (h:WaAt w F0 X b p q m c mm L r k s F W) (hd:DkM W' F' p mm s') (hu:Upd F F' W W'):WaAt w F0 X b p q m c mm L r k s' F' W':=by
 obtain ⟨h1,h2⟩:=hu.other h.lg.low h.apart;have hx:=h.xs
 have hb:∀ j,w.heap.size≤j→j < X→W'.heap[j]?=W.heap[j]?:=fun j hj hj2=>hu.block j (by omega) (fun hf=>by have:=h.far j hf;omega)
 refine ⟨hd,h.lg.stays h1 hu.size,h2,h.box.stays (hb _ (by omega) (by omega)),h.res.stays (hb _ (by omega) (by omega)),h.num.stays (hb _ (by omega) (by omega)),h.upd.comp ⟨hu.os,hu.tape,hu.output,hu.size,fun j hj hn=>hu.block j hj (fun e=>hn (.inl e)),fun j hj=>hj.elim (fun e=>(hu.fresh j e).imp .inl id) (fun e=>.inl (.inr e))⟩,fun j hj=>?_,h.ml,⟨hx.1,Nat.le_trans hx.2 hu.size⟩,h.lgl⟩
 rcases hu.fresh j hj with h3 | h3
 · exact h.far j h3
 · exact .inr (by omega)
theorem WaAt.kept {F':Nat→Prop} (h:WaAt w F0 X b p q m c mm L r k s F W) (hu:Upd F F' W W'):KeepsFrom X W W'∧∀ Bs Bn,w.heap.size≤Bs→Bs < X→w.heap.size≤Bn→Bn < X→HoldS firm (fun k=>k=Bs∨k=Bn) W W':=by
 refine ⟨⟨hu.size,fun j o hj h1 h2=>?_⟩,fun Bs Bn h1 h2 h3 h4=>⟨hu.size,fun j o hj h5 _=>?_⟩⟩
 ·
  refine (hu.block j (Array.getElem?_eq_some_iff.1 h1).1 (fun hf=>?_)).trans h1
  rcases h.dk.2 j hf with e | ⟨cs,t,fr,hc⟩
  · have:=h.ml;have:=h.xs.1;omega
  ·
   rw [h1] at hc
   cases hc
   cases h2
 ·
  refine (hu.block j (Array.getElem?_eq_some_iff.1 h5).1 (fun hf=>?_)).trans h5;have:=h.far j hf
  rcases hj with rfl | rfl <;> omega
theorem WaAt.held (h:WaAt w F0 X b p q m c mm L r k s F W) {row:Option Nat} (g:W.grownBy W' row) (hr:∀ j,row=some j→X≤j∧∃ o:Obj,W.heap[j]?=some o∧o.isCells=false):WaAt w F0 X b p q m c mm L r k s F W':=by
 have hk:=hold_grown g (fun j e=>(hr j e).2);have hx:=h.xs
 have hF:∀ j,F j→W'.heap[j]?=W.heap[j]?:=fun j hj=>by
  rcases h.dk.2 j hj with e | ⟨cs,t,fr,hc⟩
  ·
   refine g.block j (h.dk.dk.low j hj) (fun e2=>?_);have:=(hr j e2.symm).1;have:=h.ml
   omega
  · exact (hk.same j _ trivial hc rfl).trans hc.symm
 have hL:∀ j,j < w.heap.size→j < W.heap.size→W'.heap[j]?=W.heap[j]?:=fun j hj hj2=>g.block j hj2 (fun e=>by have:=(hr j e.symm).1;omega)
 refine ⟨h.dk.stays hF g.size,h.lg.stays (fun j hj=>hL j (h.lgl j hj) (h.lg.low j hj)) g.size,h.apart,h.box.held hk,h.res.held hk,h.num.held hk,⟨g.os.trans h.upd.os,g.tape.trans h.upd.tape,g.output.trans h.upd.output,Nat.le_trans h.upd.size g.size,fun j hj hn=>(hL j hj (Nat.lt_of_lt_of_le hj h.upd.size)).trans (h.upd.block j hj hn),h.upd.fresh⟩,h.far,h.ml,⟨hx.1,Nat.le_trans hx.2 g.size⟩,h.lgl⟩
theorem WaAt.cell (h:WaAt w F0 X b p q m c mm L r k s F W) (i:Nat) (hi:w.heap.size≤i) (hi2:i < X) (u:Value):(∀ j,j≠i→(W.setCell ⟨i,0,none⟩ u).heap[j]?=W.heap[j]?)∧DkM (W.setCell ⟨i,0,none⟩ u) F p mm s∧LgAt (W.setCell ⟨i,0,none⟩ u) b p q m c L∧Upd (wlS F0 b q) (wlS F b q) w (W.setCell ⟨i,0,none⟩ u):=by
 have ho:=Only.cell i 0 W u;have hsz:W.heap.size≤(W.setCell ⟨i,0,none⟩ u).heap.size:=Nat.le_of_eq ho.size.symm;exact ⟨ho.block,h.dk.stays (fun j hj=>ho.block j (fun e=>by have:=h.far j hj;omega)) hsz,h.lg.stays (fun j hj=>ho.block j (fun e=>by have:=h.lgl j hj;omega)) hsz,⟨ho.os.trans h.upd.os,ho.tape.trans h.upd.tape,ho.output.trans h.upd.output,Nat.le_trans h.upd.size hsz,fun j hj hn=>(ho.block j (by omega)).trans (h.upd.block j hj hn),h.upd.fresh⟩⟩
theorem WaAt.next (h:WaAt w F0 X b p q m c mm L r k s F W) {k':Nat} (u:Int) (hu:u=(k':Int)):WaAt w F0 X b p q m c mm L r k' s F (W.setCell ⟨w.heap.size+1+1,0,none⟩ (.int .u64 u)):=by
 have hx:=h.xs;obtain ⟨h1,h2,h3,h4⟩:=h.cell (w.heap.size+1+1) (by omega) (by omega) (.int .u64 u);subst hu;exact ⟨h2,h3,h.apart,h.box.stays (h1 _ (by omega)),h.res.stays (h1 _ (by omega)),h.num.set 0 _,h4,h.far,h.ml,⟨hx.1,by simpa using hx.2⟩,h.lgl⟩
theorem WaAt.tell (h:WaAt w F0 X b p q m c mm L r k s F W) (r':Int):WaAt w F0 X b p q m c mm L r' k s F (W.setCell ⟨w.heap.size+1,0,none⟩ (.int .i64 r')):=by
 have hx:=h.xs;obtain ⟨h1,h2,h3,h4⟩:=h.cell (w.heap.size+1) (by omega) (by omega) (.int .i64 r');exact ⟨h2,h3,h.apart,h.box.stays (h1 _ (by omega)),h.res.set 0 _,h.num.stays (h1 _ (by omega)),h4,h.far,h.ml,⟨hx.1,by simpa using hx.2⟩,h.lgl⟩
end
end Go.Proofs.YtlijbgapkmfnaaaGreat
namespace Go.Proofs.YtlijbgapkmfnaaaGreat
open Go.RowKit Go.Maps Go.Shelf
attribute [local go_sem] Oper.semAt_some
set_option maxRecDepth 100000 in
set_option maxHeartbeats 4000000 in
theorem wwriteAll_any {F:Nat→Prop} {b:Nat} {p:Value} {q:Option Addr} {m c:Nat} {s:St} {L:Lg} (w:World) (h:Wl w F b p q m c s L) (ok:L.Ok) (hn:3+L.l≤s.ls.length) (hw:s.writes≤900000000) :
  Calls Tryz.prog 58 #[.pointer (some ⟨b,0,none⟩)] w (RetWl (.int .i64 (wrAll L (chN m) 0 s).2) (wrAll L (chN m) 0 s).1 L F b p q w):=by
 obtain ⟨F1,mm,hF1,hdm⟩:=h.dk.tight;obtain ⟨D,hD⟩:=h.lg.dsk;have hml:=h.lg.mlen
 have hm1:m≤1000000:=by have:=ok.len.2;omega
 have hcap:=h.lg.txt.1.cap
 have hlb:L.lasts≤9100000000000000000:=by have:=ok.len.1;omega
 have HOK:=Lib.hid ok;have HN:=Lib.hid (show 3+L.l≤s.ls.length∧s.writes≤900000000 from ⟨hn,hw⟩);obtain ⟨K,hK⟩:∃ K,K=L.lasts / 232:=⟨_,rfl⟩;have HK:=Lib.hid hK
 have HKs:Hid (∀ W,Calls Tryz.prog 78 #[.int .u64 (L.lasts:Int)] W fun e w'=>e=.returned (.int .u64 (K:Int))∧W=w'):=Lib.hid fun W=>by rw [hK];exact sectorOf_any _ W (by omega)
 obtain ⟨W1,hW1⟩:∃ W1,W1=(w.alloc (.cells #[.pointer (some ⟨b,0,none⟩)] TPL2)).alloc (.cells #[.int .i64 0] TEr):=⟨_,rfl⟩;have hb1:=Blk.new w TPL2 #[.pointer (some ⟨b,0,none⟩)];have hb2:=Blk.new (w.alloc (.cells #[.pointer (some ⟨b,0,none⟩)] TPL2)) TEr #[.int .i64 0]
 have hs1:W1.heap.size=w.heap.size+1+1:=by rw [hW1];simp
 have H1:Hid (Blk W1 w.heap.size TPL2 #[.pointer (some ⟨b,0,none⟩)]∧Blk W1 (w.heap.size+1) TEr #[.int .i64 0]∧Gr w W1):=Lib.hid (by
  simp only [World.size_alloc] at hb2
  rw [← hW1] at hb2
  refine ⟨by rw [hW1];exact hb1.gr (Gr.new _ _),hb2,by rw [hW1];exact Gr.trans (Gr.new _ _) (Gr.new _ _)⟩)
 have hW1':(w.alloc (.cells #[.pointer (some ⟨b,0,none⟩)] 54)).alloc (.cells #[.int .i64 0] 39)=W1:=hW1.symm;have HW1:=Lib.hid hW1';obtain ⟨W2,hW2⟩:∃ W2,W2=W1.alloc (.cells #[.int .u64 (K:Int)] TU):=⟨_,rfl⟩;have hb4:=Blk.new W1 TU #[.int .u64 (K:Int)]
 rw [← hW2,hs1] at hb4
 have g12:Gr W1 W2:=by rw [hW2];exact Gr.new W1 _
 have hs2:W2.heap.size=w.heap.size+1+1+1:=by rw [hW2];simp [hs1]
 have H2:Hid (Blk W2 (w.heap.size+1+1) TU #[.int .u64 (K:Int)]∧Gr w W2∧Gr W1 W2∧W2.heap.size=w.heap.size+1+1+1):=Lib.hid ⟨hb4,Gr.trans H1.out.2.2 g12,g12,hs2⟩;have hW2':W1.alloc (.cells #[.int .u64 (K:Int)] 30)=W2:=hW2.symm;have HW2:=Lib.hid hW2';have HH:=Lib.hid h;have HF1:=Lib.hid hF1;have HDM:=Lib.hid hdm;have HDD:=Lib.hid hD;have HS1:=Lib.hid hs1
 have c0:((w.alloc (.cells #[.pointer (some ⟨b,0,none⟩)] 54)).alloc (.cells #[.int .i64 0] 39)).cell? ⟨w.heap.size,0,none⟩=some (.pointer (some ⟨b,0,none⟩)):=by rw [hW1'];exact H1.out.1.cell 0
 have c6:((w.alloc (.cells #[.pointer (some ⟨b,0,none⟩)] 54)).alloc (.cells #[.int .i64 0] 39)).cell? ⟨b,6,none⟩=some (.int .u64 (L.lasts:Int)):=by rw [hW1'];exact (h.lg.gr H1.out.2.2).blk.c10.2.2.2.2.2.2.1
 have d0:(W1.alloc (.cells #[.int .u64 (K:Int)] 30)).cell? ⟨w.heap.size,0,none⟩=some (.pointer (some ⟨b,0,none⟩)):=by rw [hW2'];exact (H1.out.1.gr H2.out.2.2.1).cell 0
 have d7:(W1.alloc (.cells #[.int .u64 (K:Int)] 30)).cell? ⟨b,7,none⟩=some (.slice q m c):=by rw [hW2'];exact (h.lg.gr H2.out.2.1).blk.c10.2.2.2.2.2.2.2.1
 clear hW1 hW1' hW2 hW2' hb1 hb2 hb4 g12 hs1 hs2 h hdm hF1 hn hw ok hK hD hml;refine (callsIn_wide (n:=12)).1 ?_;refine callsIn_of_wp_marks Tryz.func58 rfl trivial ?_ rfl
 simp only [Tryz.ntmps58,List.size_toArray,List.length_cons,List.length_nil,Nat.reduceAdd,Nat.reduceSub,Array.replicate_succ,Array.replicate_zero,List.push_toArray,List.append_toArray,List.nil_append,List.cons_append]
 gi_wp2_with fail
 rw [HW1.out];refine ⟨trivial,?_⟩;refine (callsIn_wide.2 (HKs.out W1)).mono ?_;rintro e w1 ⟨rfl,rfl⟩
 gi_wp2_with fail
 rw [HW2.out,HS1.out];refine ⟨trivial,?_⟩;refine (callsIn_wide.2 (chunk_any q m c W2)).mono ?_;rintro e W3 ⟨rfl,hbs,hbn,g3,hs3⟩
 rw [H2.out.2.2.2] at hbs hbn hs3 ⊢
 obtain ⟨X,hX⟩:∃ X,X=W3.heap.size:=⟨_,rfl⟩;have HX:=Lib.hid hX;have HBs:=Lib.hid hbs;have HBn:=Lib.hid hbn
 have HW3:Hid (WaAt w F X b p q m c mm L 0 (K+0) s F1 W3):=Lib.hid (by
  have g:=Gr.trans H2.out.2.1 g3;have hh:=HH.out.gr g;refine ⟨HDM.out.gr g,hh.lg,fun k hk=>HH.out.apart k (HF1.out k hk),H1.out.1.gr (Gr.trans H2.out.2.2.1 g3),H1.out.2.1.gr (Gr.trans H2.out.2.2.1 g3),H2.out.1.gr g3,⟨g.os,g.tape,g.output,g.size,fun k hk _=>g.block k hk,fun k hk=>.inl (hk.imp (HF1.out k) id)⟩,fun k hk=>.inl (HH.out.dk.low k (HF1.out k hk)),?_,⟨by omega,by omega⟩,HH.out.lg.low⟩;obtain ⟨⟨b0,lv0,L0,_,hd0⟩,_⟩:=HDM.out
  exact hd0.map.lt)
 have HXs:Hid (w.heap.size+1+1+1+1 < X):=Lib.hid (by omega);clear hbs hbn g3 hs3 c0 c6 d0 d7 H1 H2 HW1 HW2 HKs
 gi_wp2_with fail
 refine wpIn_range_toldF (F:=Fence.wide) rfl (by omega) (gf:=97) (lb:=#[.pointer (some ⟨w.heap.size+1+1+1,0,none⟩),.pointer (some ⟨w.heap.size+1+1+1+1,0,none⟩)]) rfl trivial (enters_of Tryz.func97 (by kernel_rfl) rfl)
  (chunk1_told 11 (by omega) _ _ q m c W3 HBs.out HBn.out hcap hm1).keeps (Below.refl _ _) (fun _=>rfl)
  (fun pre V=>∃ s' F',WaAt w F X b p q m c mm L 0 (K+pre.length) s' F' V∧wrAll L (chN m) 0 s=wrAll L (chN m - pre.length) pre.length s'∧(s'.ls.length=s.ls.length∧s'.writes≤s.writes+pre.length∧pre.length≤chN m))
  (fun pre V=>∃ s' F' k',WaAt w F X b p q m c mm L 8 k' s' F' V∧wrAll L (chN m) 0 s=(s',8)) ?hI ?hIr ⟨s,F1,HW3.out,rfl,rfl,Nat.le_refl _,Nat.zero_le _⟩
  (fun tm x (_:Unit)=>(tm.setIfInBounds 16 (.slice x.2.1 x.2.2 x.2.2)).setIfInBounds 4 (.slice x.2.1 x.2.2 x.2.2)) (fun pre x _ V=>ChG q m c pre x V) ?hBx ?assign ?body ?done ?stop
 case hI=>
  rintro pre U V row ⟨s',F',h1,h2⟩ hg hr;exact ⟨s',F',h1.held hg (fun j e=>by have:=hr j e;rw [← HX.out] at this;exact this),h2⟩
 case hIr=>
  rintro pre U V row ⟨s',F',k',h1,h2⟩ hg hr;exact ⟨s',F',k',h1.held hg (fun j e=>by have:=hr j e;rw [← HX.out] at this;exact this),h2⟩
 case hBx=>
  rintro pre x R z U V row h hg hr;exact h
 case assign=>
  rintro l pre x V K' hi hx hK
  simp only [List.setIfInBounds_toArray,List.set_cons_succ,List.set_cons_zero] at hK
  dsimp only [encC]
  gi_wp2_with fail
  exact hK () _ (KeepsFrom.refl _ _) (HoldS.refl _ _ _) hi hx
 case body=>
  rintro l pre x R W8 hlw ⟨s',F',hi,hall,hls,hwr,hpre⟩ hx;obtain ⟨j,qj,nj⟩:=x;obtain ⟨hx1,hx2,hx3,hx4⟩:=hx
  simp only at hx1 hx2 hx3 hx4 ⊢
  subst hx1
  simp only [List.setIfInBounds_toArray,List.set_cons_succ,List.set_cons_zero]
  obtain ⟨J,hJ⟩:∃ J,J=K+pre.length:=⟨_,rfl⟩
  rw [← hJ] at hi
  have hlt:pre.length < chN m:=by unfold chN;omega
  have hlen:=HH.out.lg.mlen;have hyc:=hx4.byt W8 _ hi.lg.txt.1
  rw [show 232*pre.length+nj - 232*pre.length=nj by omega,chunk_eq (m:=m) hlen.symm hx3] at hyc
  have HWr:Hid (Calls Tryz.prog 77 #[.pointer (some ⟨b,0,none⟩),.int .u64 (J:Int),.slice qj nj nj] W8 fun e w'=>e=.returned (.int .i64 (putDE s'))∧∃ F2,DkM w' F2 p mm (putD s' (wrI L pre.length) (wrX L pre.length))∧Upd F' F2 W8 w'):=Lib.hid (by
   have h:=wwrite_m D b _ _ _ _ _ _ _ _ _ _ _ _ mm J qj nj nj _ W8 hi.lg.blk HDD.out hi.dk HOK.out.may (by have:=HK.out;omega) (by have:=HOK.out.e1;omega) hyc (by omega) (by rw [hls];exact HN.out.1) (by have:=HN.out.2;have:=hlen;unfold chN at hpre;omega)
   have e1:3+J % L.l.toNat=wrI L pre.length:=by unfold wrI;rw [hJ,HK.out]
   have e2:Sx (secL J L.epoch ((L.txt.drop (232*pre.length)).take 232))=wrX L pre.length:=by unfold wrX;rw [hJ,HK.out]
   rw [e1,e2] at h
   exact h)
  have HI:=Lib.hid hi;have HA:Hid (wrAll L (chN m) 0 s=wrAll L (chN m - pre.length - 1+1) pre.length s'):=Lib.hid (by rw [hall,show chN m - pre.length - 1+1=chN m - pre.length by omega]);have HL2:Hid (s'.ls.length=s.ls.length∧s'.writes≤s.writes+pre.length∧pre.length < chN m):=Lib.hid ⟨hls,hwr,hlt⟩;have HJ:=Lib.hid hJ;have HLW:=Lib.hid hlw;have n1:=hi.box.cell 0;have n3:=hi.num.cell 0
  simp at n1 n3
  obtain ⟨E,hE⟩:∃ E,E=putDE s':=⟨_,rfl⟩
  rw [← hE] at HWr
  have HE:=Lib.hid hE;clear hi hall hls hwr hpre hx2 hx3 hx4 hyc hJ hlt hlen hlw hE
  gi_wp2_with fail
  refine ⟨trivial,?_⟩;refine ((callsIn_wide.2 HWr.out).inRound l).mono ?_;rintro e W9 ⟨rfl,F2,hd2,hu2⟩;have hk9:=HI.out.kept hu2;have HI9:=Lib.hid (HI.out.write hd2 hu2);have HK9:Hid (KeepsFrom W3.heap.size W8 W9):=Lib.hid (by rw [← HX.out];exact hk9.1);have HH9:Hid (HoldS firm (fun k=>k=w.heap.size+1+1+1∨k=w.heap.size+1+1+1+1) W8 W9):=Lib.hid (hk9.2 _ _ (by omega) (by have:=HXs.out;omega) (by omega) HXs.out);clear hd2 hu2 hk9 n1 n3 HWr
  by_cases hr:s'.refuses
  ·
   have hE8:E=8:=by rw [HE.out];unfold putDE;rw [if_pos hr]
   have HR9:Hid (wrAll L (chN m) 0 s=(putD s' (wrI L pre.length) (wrX L pre.length),8)):=Lib.hid (by rw [HA.out];unfold wrAll putD;rw [if_pos hr,if_pos hr]);subst hE8;have f2:=HI9.out.res.frozen 0;have n2:=HI9.out.res.cell 0
   simp at n2
   clear hr HA HE
   gi_wp2_with fail
   exact And.intro (HK9.out.trans ((KeepsOthers.setCell _ _ _).from _)) ⟨_,F2,J,HI9.out.tell 8,HR9.out⟩
  ·
   have hE0:E=0:=by rw [HE.out];unfold putDE;rw [if_neg hr]
   have HR9:Hid (wrAll L (chN m) 0 s=wrAll L (chN m - (pre++[(pre.length,qj,nj)]).length) (pre++[(pre.length,qj,nj)]).length (putD s' (wrI L pre.length) (wrX L pre.length))∧((putD s' (wrI L pre.length) (wrX L pre.length)).ls.length=s.ls.length∧(putD s' (wrI L pre.length) (wrX L pre.length)).writes≤s.writes+(pre++[(pre.length,qj,nj)]).length∧(pre++[(pre.length,qj,nj)]).length≤chN m)):=Lib.hid (by
    have h4:=HL2.out;have hp:=putD_alive (i:=wrI L pre.length) (x:=wrX L pre.length) hr;refine ⟨?_,by rw [hp.2.2];exact h4.1,by rw [hp.2.1];simp;omega,by simp;omega⟩;rw [HA.out,List.length_append,List.length_singleton]
    unfold putD
    rw [if_neg hr,show chN m - (pre.length+1)=chN m - pre.length - 1 by omega]
    show (if s'.refuses then _ else _)=_
    rw [if_neg hr])
   subst hE0;have f3:=HI9.out.num.frozen 0;have n3:=HI9.out.num.cell 0
   simp at n3
   have hw3:IntKind.u64.wrap ((J:Int)+1)=(J:Int)+1:=by rw [IntKind.wrap_u64];have:=HJ.out;have:=HK.out;have:=HL2.out.2.2;unfold chN at this;omega
   clear hr HA HE
   gi_wp2_with fail
   exact And.intro (HK9.out.trans ((KeepsOthers.setCell _ _ _).from _)) (And.intro (HH9.out.trans ⟨by simp,fun j o hj h1 _=>(heap_setCell_other W9 ⟨w.heap.size+1+1,0,none⟩ j _ (by rcases hj with rfl | rfl <;> (show _≠w.heap.size+1+1;omega))).trans h1⟩) ⟨_,F2,HI9.out.next _ (by have:=HJ.out;simp;omega),HR9.out⟩)
 case done=>
  rintro D2 ys V hD2 hS ⟨s',F',hi,hall,hls,hwr,hpre⟩ hK
  rw [hS,Nat.sub_self] at hall
  have n1:=hi.box.cell 0;have c0:=hi.lg.blk.cell 0
  simp at n1 c0
  have HI:=Lib.hid hi;have HA:=Lib.hid hall;have HDk:=Lib.hid hK;have HLW:Hid (X≤D2):=Lib.hid (by rw [HX.out];exact hD2)
  have HBa:Hid (Calls Tryz.prog 79 #[p] V fun e w'=>e=.returned (.int .i64 (BaE s'))∧DkFin F' p (BaS s') V w'):=Lib.hid (by
   refine (Barrier_all V hi.dk.dk (by have:=HN.out.2;rw [hS] at hwr;unfold chN at hwr;omega)).mono ?_;rintro e w' ⟨F2,rfl,hd,hu⟩
   exact ⟨rfl,F2,hd,hu⟩)
  obtain ⟨E,hE⟩:∃ E,E=BaE s':=⟨_,rfl⟩
  rw [← hE] at HBa
  have HE:=Lib.hid hE;have hR:Hid (wrAll L (chN m) 0 s=(BaS s',E)):=Lib.hid (by rw [hE];exact hall);have f2:=hi.res.frozen 0
  have HNF:Hid (¬ F' D2∧¬ F' (w.heap.size+1)):=Lib.hid (by
   refine ⟨fun hf=>?_,fun hf=>?_⟩
   ·
    rcases hi.dk.2 D2 hf with e | ⟨cs,t,fr,hc⟩
    · have:=hi.ml;have:=hi.xs.1;have:=HLW.out;omega
    ·
     rw [hK] at hc
     cases hc
   ·
    have:=hi.far _ hf;have:=hi.xs.1
    omega)
  clear hi hall hls hwr hpre hK hD2 hE f2
  gi_wp2_with fail
  refine ⟨trivial,?_⟩;refine (callsIn_wide.2 HBa.out).mono ?_;rintro e V2 ⟨rfl,hf⟩;have hf2:=hf;obtain ⟨F3,hd3,hu3⟩:=hf2;have HK2:Hid (V2.heap[D2]?=some (.deferred (some []))):=Lib.hid ((hu3.block D2 (Array.getElem?_eq_some_iff.1 HDk.out).1 HNF.out.1).trans HDk.out);have HRs:Hid (Blk V2 (w.heap.size+1) TEr #[.int .i64 0]):=Lib.hid (HI.out.res.stays (hu3.block _ HI.out.res.lt HNF.out.2));obtain ⟨F2,hw2,hup2⟩:=HI.out.wl.disk hf;have HW2:Hid (Wl V2 F2 b p q m c (BaS s') L∧Upd (wlS F b q) (wlS F2 b q) w V2):=Lib.hid ⟨hw2,HI.out.upd.comp hup2⟩
  have HF2:Hid (¬ F2 (w.heap.size+1)∧¬ F2 D2):=Lib.hid (by
   have h1:=HI.out.res.lt;have h2:=(Array.getElem?_eq_some_iff.1 HDk.out).1;refine ⟨fun hf=>?_,fun hf=>?_⟩
   ·
    rcases hup2.fresh _ (.inl hf) with (h | h) | h
    · exact HNF.out.2 h
    · have:=HI.out.lgl _ h;omega
    · omega
   ·
    rcases hup2.fresh _ (.inl hf) with (h | h) | h
    · exact HNF.out.1 h
    · have:=HI.out.lgl _ h;have:=HI.out.xs.1;have:=HLW.out;omega
    · omega)
  have f2:=HRs.out.frozen 0;have n2:=HRs.out.cell 0
  simp at n2
  clear hd3 hu3 hf hw2 hup2 n1 c0 HBa
  gi_wp2_with fail
  have hoc:=Only.cell (w.heap.size+1) 0 V2 (.int .i64 E)
  have hD4:D2≠w.heap.size+1:=by have:=HI.out.xs.1;have:=HLW.out;omega
  have hKd:(V2.setCell ⟨w.heap.size+1,0,none⟩ (.int .i64 E)).heap[D2]?=some (.deferred (some [])):=(hoc.block D2 hD4).trans HK2.out;refine ⟨by simp,.inl ⟨_,_,rfl,run_takeDeferred hKd,?_⟩⟩;have hg:=grownBy_putObj' (V2.setCell ⟨w.heap.size+1,0,none⟩ (.int .i64 E)) D2 (.deferred none)
  have hb2:∀ k,k≠w.heap.size+1→k≠D2→k < V2.heap.size→((V2.setCell ⟨w.heap.size+1,0,none⟩ (.int .i64 E)).putObj D2 (.deferred none)).heap[k]?=V2.heap[k]?:=fun k h1 h2 h3=>(hg.block k (by rw [hoc.size];exact h3) (fun e=>h2 (Option.some.inj e))).trans (hoc.block k h1)
  have hr2:Blk ((V2.setCell ⟨w.heap.size+1,0,none⟩ (.int .i64 E)).putObj D2 (.deferred none)) (w.heap.size+1) TEr #[.int .i64 E]:=Blk.stays (HRs.out.set 0 (.int .i64 E)) (hg.block _ (by rw [hoc.size];exact HRs.out.lt) (fun e=>hD4 (Option.some.inj e).symm))
  have hsz:V2.heap.size≤((V2.setCell ⟨w.heap.size+1,0,none⟩ (.int .i64 E)).putObj D2 (.deferred none)).heap.size:=by have:=hg.size;rw [hoc.size] at this;exact this
  refine ⟨_,results_cell_one rfl Tryz.isAgg39 _ _ ⟨w.heap.size+1,0,none⟩ (.int .i64 E) rfl (hr2.cell 0),?_⟩;rw [hR.out]
  have hl1:∀ k,lgS b q k→k≠w.heap.size+1∧k≠D2:=fun k hk=>by have:=HI.out.lgl k hk;have:=HI.out.xs.1;have:=HLW.out;omega
  refine ⟨F2,q,m,c,rfl,⟨HW2.out.1.dk.stays (fun k hk=>hb2 k (fun e=>HF2.out.1 (e ▸ hk)) (fun e=>HF2.out.2 (e ▸ hk)) (HW2.out.1.dk.low k hk)) hsz,HW2.out.1.lg.stays (fun k hk=>hb2 k (hl1 k hk).1 (hl1 k hk).2 (HW2.out.1.lg.low k hk)) hsz,HW2.out.1.apart⟩,⟨hg.os.trans (hoc.os.trans HW2.out.2.os),hg.tape.trans (hoc.tape.trans HW2.out.2.tape),hg.output.trans (hoc.output.trans HW2.out.2.output),Nat.le_trans HW2.out.2.size hsz,fun k hk hn=>(hb2 k (by omega) (by have:=HI.out.xs.1;have:=HLW.out;omega) (Nat.lt_of_lt_of_le hk HW2.out.2.size)).trans (HW2.out.2.block k hk hn),HW2.out.2.fresh⟩⟩
 case stop=>
  rintro D2 pre V hD2 _ ⟨s',F',k',hi,hall⟩ hK
  have hD3:X≤D2:=by rw [HX.out];exact hD2
  have hK3:=hi.held (grownBy_putObj' V D2 (.deferred none)) (fun r e=>by cases e;exact ⟨hD3,_,hK,rfl⟩);have HI:=Lib.hid hK3;have HA:=Lib.hid hall;clear hi hall hD2
  gi_wp2_with fail
  refine ⟨by simp,.inl ⟨_,_,rfl,run_takeDeferred hK,?_⟩⟩;refine ⟨_,results_cell_one rfl Tryz.isAgg39 _ _ ⟨w.heap.size+1,0,none⟩ (.int .i64 8) rfl (HI.out.res.cell 0),?_⟩;rw [HA.out];exact ⟨F',q,m,c,rfl,HI.out.wl,HI.out.upd⟩
end Go.Proofs.YtlijbgapkmfnaaaGreat
namespace Go.Proofs.YtlijbgapkmfnaaaGreat
open Go.RowKit Go.Maps
set_option maxRecDepth 100000 in
theorem wlast_any (b:Nat) (p:Value) (n:Int) (l:Int) (g:Int) (ep:Nat) (tl:Nat) (la:Nat) (q:Option Addr) (m:Nat) (c:Nat) (rs:Int) (bg:Bool) (q1:Option Addr) (m1 c1:Nat) (E:Nat) (w:World) (h:Blk w b TLg #[p,.int .i64 n,.int .i64 l,.int .i64 g,.int .u64 ep,.int .u64 tl,.int .u64 la,.slice q m c,.int .i64 rs,.bool bg]) (hE:E≤18446744073709551615) (hA:E % 232≤m1) (hc:m1≤c1) (hb:c1≤9223372036854775807) :
  Calls Tryz.prog 59 #[.pointer (some ⟨b,0,none⟩),.slice q1 m1 c1,.int .u64 (E:Int)] w fun e w'=>e=.returned (.tuple #[])∧∃ q2,w'=(w.setCell ⟨b,6,none⟩ (.int .u64 (E:Int))).setCell ⟨b,7,none⟩ (.slice q2 (E % 232) (E % 232))∧CutOf q1 m1 c1 (m1 - E % 232) m1 (E % 232) q2:=by
 obtain ⟨A,hA2⟩:∃ A,A=E % 232:=⟨_,rfl⟩
 rw [← hA2] at hA ⊢
 obtain ⟨q2,hcut,hof⟩:=cut_lhm (p:=q1) (n:=m1) (c:=c1) (m1 - A) m1 m1 (by omega) (Nat.le_refl _) (Nat.le_refl _) hc
 rw [show m1 - (m1 - A)=A by omega] at hcut hof
 have HA:Hid (∀ W,Calls Tryz.prog 60 #[.int .u64 (E:Int)] W fun e w'=>e=.returned (.int .i64 (A:Int))∧W=w'):=Lib.hid fun W=>by rw [hA2];exact ahead_any _ W hE
 have HOf:=Lib.hid hof;have HC:=Lib.hid hcut;obtain ⟨I,hI⟩:∃ I,I=m1 - A:=⟨_,rfl⟩
 have hw:IntKind.i64.wrap ((m1:Int) - (A:Int))=(I:Int):=by rw [IntWalk.i64_in _ (by omega)];omega
 rw [← hI] at HC
 have hcut2:=fun w=>HC.out w
 have f6:=h.frozen 6;have f7:=h.frozen 7;have c6:=h.c10.2.2.2.2.2.2.1;have c7:=h.c10.2.2.2.2.2.2.2.1;clear h hof hcut hA2 hI hE
 go_enter Tryz.func59,Tryz.ntmps59
 go_wp2_with fail;refine (HA.out _).mono ?_;rintro e w1 ⟨rfl,rfl⟩;go_wp2_with fail;exact bodyPost_end (results_none rfl _ _ _) rfl ⟨rfl,q2,rfl,HOf.out⟩
def Lg.done (L:Lg):Lg:={ L with lasts:=L.fin,txt:=L.txt.drop (L.txt.length - L.fin % 232) }
theorem Lg.Ok.done {L:Lg} (ok:L.Ok):L.done.Ok∧L.done.fin=L.fin∧L.fin % 232≤L.txt.length:=by
 have hn:=ok.near;have hh:=ok.has;have e0:L.fin=L.lasts - L.lasts % 232+L.txt.length:=rfl
 have h1:L.fin % 232≤L.txt.length:=by omega
 have hl:(L.txt.drop (L.txt.length - L.fin % 232)).length=L.fin % 232:=by rw [List.length_drop];omega
 have hf:L.done.fin=L.fin:=by
  show L.fin - L.fin % 232+(L.txt.drop (L.txt.length - L.fin % 232)).length=L.fin
  rw [hl];omega
 refine ⟨⟨ok.may,ok.e0,ok.e1,hn.1,?_,by rw [hf];exact ok.most,by rw [hf];exact ok.room,ok.r0,ok.r1⟩,hf,h1⟩
 show L.fin % 232≤(L.txt.drop (L.txt.length - L.fin % 232)).length
 rw [hl];exact Nat.le_refl _
theorem Wl.last {w:World} {F:Nat→Prop} {b:Nat} {p:Value} {q:Option Addr} {m c:Nat} {s:St} {L:Lg} (h:Wl w F b p q m c s L) (ok:L.Ok) :
  Calls Tryz.prog 59 #[.pointer (some ⟨b,0,none⟩),.slice q m c,.int .u64 (L.fin:Int)] w (RetWl (.tuple #[]) s L.done F b p q w):=by
 have hml:=h.lg.mlen;have hd:=ok.done;have hcap:=h.lg.txt.1.cap;have hmost:=h.lg.txt.1.most;refine (wlast_any b _ _ _ _ _ _ _ _ _ _ _ _ q m c L.fin w h.lg.blk (by have:=ok.most;omega) (by rw [hml];exact hd.2.2) hcap (by unfold maxLen at hmost;omega)).mono ?_;rintro e w' ⟨rfl,q2,rfl,hof⟩;have h1:=Only.cell b 6 w (.int .u64 (L.fin:Int));have h2:=Only.cell b 7 (w.setCell ⟨b,6,none⟩ (.int .u64 (L.fin:Int))) (.slice q2 (L.fin % 232) (L.fin % 232));have ho:=h1.trans h2
 have hb:∀ y,q2=some y→y.block≠b:=fun y hy=>by
  obtain ⟨z,hz,e⟩:=hof.blk y hy;rw [← e];exact h.lg.apart z hz
 have hsub:∀ k,lgS b q2 k→lgS b q k:=fun k hk=>hk.imp id fun ⟨y,hy,e⟩=>by
  obtain ⟨z,hz,e2⟩:=hof.blk y hy;exact ⟨z,hz,e2.trans e⟩
 have hy:=hof.byt w _ h.lg.txt.1
 rw [show m - (m - L.fin % 232)=L.fin % 232 by have:=hd.2.2;omega,drop_take_all h.lg.txt.1.len] at hy
 have hy2:=hy.stays (w':=(w.setCell ⟨b,6,none⟩ (.int .u64 (L.fin:Int))).setCell ⟨b,7,none⟩ (.slice q2 (L.fin % 232) (L.fin % 232))) (fun y hyy=>ho.block _ (hb y hyy))
 refine ⟨F,q2,_,_,rfl,⟨h.dk.stays (fun k hk=>ho.block k (fun e=>h.apart k hk (.inl e))) (Nat.le_of_eq ho.size.symm),⟨(h.lg.blk.set 6 _).set 7 _,⟨?_,.inl rfl⟩,hb,fun k hk=>by rw [ho.size];exact h.lg.low k (hsub k hk),h.lg.dsk⟩,fun k hk hl=>h.apart k hk (hsub k hl)⟩,
  ⟨ho.os,ho.tape,ho.output,Nat.le_of_eq ho.size.symm,fun k _ hn=>ho.block k (fun e=>hn (.inr (.inl e))),fun k hk=>.inl (hk.imp id (hsub k))⟩⟩
 show Byt _ q2 _ _ (L.txt.drop (L.txt.length - L.fin % 232))
 rw [hml] at hy2
 exact hy2
def flS (s:St) (L:Lg) (u:Nat):St:=if L.fin < u then s else if u≤L.lasts then s else if begE s L≠0 then begS s L else (wrAll (begL s L) (chN L.txt.length) 0 (begS s L)).1
def flE (s:St) (L:Lg) (u:Nat):Int:=if L.fin < u then 2 else if u≤L.lasts then 0 else if begE s L≠0 then begE s L else (wrAll (begL s L) (chN L.txt.length) 0 (begS s L)).2
def flL (s:St) (L:Lg) (u:Nat):Lg:=if L.fin < u then L else if u≤L.lasts then L else if begE s L≠0 then begL s L else if (wrAll (begL s L) (chN L.txt.length) 0 (begS s L)).2≠0 then begL s L else (begL s L).done
theorem begL_cases (s:St) (L:Lg):begL s L=L∨begL s L={ L with begun:=true }:=by
 unfold begL
 split
 · exact .inl rfl
 ·
  split
  · exact .inl rfl
  · exact .inr rfl
theorem begL_ok {s:St} {L:Lg} (ok:L.Ok):(begL s L).Ok∧(begL s L).fin=L.fin∧(begL s L).txt=L.txt∧(begL s L).l=L.l:=by
 rcases begL_cases s L with h | h
 · rw [h];exact ⟨ok,rfl,rfl,rfl⟩
 · rw [h];exact ⟨⟨ok.may,ok.e0,ok.e1,ok.tl,ok.has,ok.most,ok.room,ok.r0,ok.r1⟩,rfl,rfl,rfl⟩
theorem begS_bounds {s:St} {L:Lg}:(begS s L).ls.length=s.ls.length∧(begS s L).writes≤s.writes+1:=by
 unfold begS putD BaS
 split
 · exact ⟨rfl,Nat.le_succ _⟩
 ·
  split
  · exact ⟨rfl,Nat.le_succ _⟩
  ·
   split
   · exact ⟨rfl,Nat.le_refl _⟩
   · exact ⟨by simp [St.barrier,St.wrote],Nat.le_refl _⟩
def SlFl (b:Nat) (q3:Option Addr) (m3:Nat) (c3:Nat) (F1n:Nat) (slot:Nat) (v:Value) (_:World):Prop:=
 match slot with
 | 32=>v=.pointer (some ⟨b,0,none⟩)
 | 33=>v=.pointer (some ⟨b,0,none⟩)
 | 34=>v=.pointer (some ⟨b,0,none⟩)
 | 35=>v=.pointer (some ⟨b,7,none⟩)
 | 36=>v=.slice q3 m3 c3
 | 37=>v=.pointer (some ⟨b,0,none⟩)
 | 38=>v=.int .u64 (F1n:Int)
 | 39=>v=.tuple #[]
 | _=>True
set_option maxRecDepth 100000 in
set_option maxHeartbeats 1000000 in
theorem wFlush_any {F:Nat→Prop} {b:Nat} {p:Value} {q:Option Addr} {m c:Nat} {s:St} {L:Lg} (w:World) (h:Wl w F b p q m c s L) (ok:L.Ok) (hn:3+L.l≤s.ls.length) (hw:s.writes≤800000000) (u:Nat) (hu:u≤18446744073709551615) :
  Calls Tryz.prog 21 #[.pointer (some ⟨b,0,none⟩),.int .u64 (u:Int)] w (RetWl (.int .i64 (flE s L u)) (flS s L u) (flL s L u) F b p q w):=by
 obtain ⟨D,hD⟩:=h.lg.dsk;have HM:=Lib.hid (wmissing_no D b _ _ _ _ _ _ _ _ _ _ _ _ w h.lg.blk hD);have HE:=Lib.hid (h.lg.End ok);have HH:=Lib.hid h;have HOK:=Lib.hid ok;have c6:=h.lg.blk.c10.2.2.2.2.2.2.1;obtain ⟨Fn,hF⟩:∃ Fn,Fn=L.fin:=⟨_,rfl⟩;obtain ⟨La,hLa⟩:∃ La,La=L.lasts:=⟨_,rfl⟩
 rw [← hF] at HE
 rw [← hLa] at c6
 have HFL:Hid (Fn=L.fin∧La=L.lasts):=Lib.hid ⟨hF,hLa⟩
 by_cases h1:Fn < u
 ·
  have g1:(Fn:Int) < (u:Int):=by omega
  have HZ:Hid (flE s L u=2∧flS s L u=s∧flL s L u=L):=Lib.hid (by
   have h1':L.fin < u:=by omega
   unfold flE flS flL;simp [h1'])
  clear h hF hLa c6 h1
  go_enter Tryz.func21,Tryz.ntmps21
  go_wp2_with fail;refine HM.out.mono ?_;rintro e w1 ⟨rfl,rfl⟩;go_wp2_with fail;refine HE.out.mono ?_;rintro e w1 ⟨rfl,g⟩;have HG:=Lib.hid g;clear g;go_wp2_with fail
  go_ret
  rw [HZ.out.1,HZ.out.2.1,HZ.out.2.2];exact ⟨F,q,m,c,rfl,HH.out.gr HG.out,Upd.of_gr HG.out⟩
 ·
  have g1:¬ (Fn:Int) < (u:Int):=by omega
  by_cases h2:u≤La
  ·
   have g2:(u:Int)≤(La:Int):=by omega
   have HZ:Hid (flE s L u=0∧flS s L u=s∧flL s L u=L):=Lib.hid (by
    have h1':¬ L.fin < u:=by omega
    have h2':u≤L.lasts:=by omega
    unfold flE flS flL;simp [h1',h2'])
   have HC6:=Lib.hid (fun W (g:Gr w W)=>(h.lg.gr g).blk.c10.2.2.2.2.2.2.1);clear h hF hLa c6 h1 h2
   go_enter Tryz.func21,Tryz.ntmps21
   go_wp2_with fail;refine HM.out.mono ?_;rintro e w1 ⟨rfl,rfl⟩;go_wp2_with fail;refine HE.out.mono ?_;rintro e w1 ⟨rfl,g⟩;have HG:=Lib.hid g;have c6:=HC6.out w1 g
   rw [← HFL.out.2] at c6
   clear g HC6;go_wp2_with fail
   go_ret
   rw [HZ.out.1,HZ.out.2.1,HZ.out.2.2];exact ⟨F,q,m,c,rfl,HH.out.gr HG.out,Upd.of_gr HG.out⟩
  ·
   have g2:¬ (u:Int)≤(La:Int):=by omega
   obtain ⟨E1,hE1⟩:∃ E1,E1=begE s L:=⟨_,rfl⟩;obtain ⟨r2,hr2⟩:∃ r2,r2=wrAll (begL s L) (chN L.txt.length) 0 (begS s L):=⟨_,rfl⟩
   have h1':¬ L.fin < u:=by omega
   have h2':¬ u≤L.lasts:=by omega
   have HZ:Hid (E1≠0→flE s L u=E1∧flS s L u=begS s L∧flL s L u=begL s L):=Lib.hid fun he=>by
    rw [hE1] at he ⊢
    unfold flE flS flL
    rw [if_neg h1',if_neg h2',if_pos he,if_neg h1',if_neg h2',if_pos he,if_neg h1',if_neg h2',if_pos he];exact ⟨rfl,rfl,rfl⟩
   have HZ2:Hid (E1=0→flE s L u=r2.2∧flS s L u=r2.1∧flL s L u=if r2.2≠0 then begL s L else (begL s L).done):=Lib.hid fun he=>by
    rw [hE1] at he
    unfold flE flS flL
    rw [if_neg h1',if_neg h2',if_neg (fun e=>e he),if_neg h1',if_neg h2',if_neg (fun e=>e he),if_neg h1',if_neg h2',if_neg (fun e=>e he),hr2];exact ⟨rfl,rfl,rfl⟩
   have HB1:=Lib.hid (fun W (g:Gr w W)=>wbegin_any W (h.gr g) ok hn (by omega))
   rw [← hE1] at HB1
   have HBL:=Lib.hid (begL_ok (s:=s) ok);have HBS:=Lib.hid (begS_bounds (s:=s) (L:=L));have HNN:=Lib.hid (show 3+L.l≤s.ls.length∧s.writes≤800000000 from ⟨hn,hw⟩);have HC6:=Lib.hid (fun W (g:Gr w W)=>(h.lg.gr g).blk.c10.2.2.2.2.2.2.1);have HR2:=Lib.hid hr2;obtain ⟨s1,hs1⟩:∃ s1,s1=begS s L:=⟨_,rfl⟩;obtain ⟨L1,hL1⟩:∃ L1,L1=begL s L:=⟨_,rfl⟩
   rw [← hs1,← hL1] at HZ HB1 HR2
   rw [← hL1] at HZ2 HBL
   rw [← hs1] at HBS
   clear h hF hLa c6 h1 h2 hE1 hr2 h1' h2' hn hw hs1 hL1 ok hD
   go_enter Tryz.func21,Tryz.ntmps21
   go_wp2_with fail;refine HM.out.mono ?_;rintro e w1 ⟨rfl,rfl⟩;go_wp2_with fail;refine HE.out.mono ?_;rintro e w1 ⟨rfl,g⟩;have HG:=Lib.hid g;have c6:=HC6.out w1 g
   rw [← HFL.out.2] at c6
   clear g HC6;go_wp2_with fail;refine (HB1.out w1 HG.out).mono ?_;rintro e w2 ⟨F2,q2,m2,c2,rfl,hw2,hu2⟩;have HW2:=Lib.hid hw2;have HU2:=Lib.hid ((Upd.of_gr HG.out).comp hu2);clear hw2 hu2 c6 HB1
   by_cases hE0:E1=0
   ·
    subst hE0;have HZ3:=Lib.hid (HZ2.out rfl)
    have hm2:m2=L.txt.length:=by rw [HW2.out.lg.mlen,HBL.out.2.2.1]
    have HWA:Hid (Calls Tryz.prog 58 #[.pointer (some ⟨b,0,none⟩)] w2 (RetWl (.int .i64 r2.2) r2.1 L1 F2 b p q2 w2)):=Lib.hid (by
     have h:=wwriteAll_any w2 HW2.out HBL.out.1 (by rw [HBL.out.2.2.2,HBS.out.1];exact HNN.out.1) (by have:=HBS.out.2;have:=HNN.out.2;omega)
     rw [hm2,← HR2.out] at h
     exact h)
    obtain ⟨E2,hE2⟩:∃ E2,E2=r2.2:=⟨_,rfl⟩
    rw [← hE2] at HWA HZ3
    clear hm2 hE2 HZ HZ2;go_wp2_with fail;refine HWA.out.mono ?_;rintro e w3 ⟨F3,q3,m3,c3,rfl,hw3,hu3⟩;have HW3:=Lib.hid hw3;have HU3:=Lib.hid (HU2.out.comp hu3);clear hw3 hu3 HWA
    by_cases hE20:E2=0
    ·
     subst hE20;have HZ4:Hid (flE s L u=0∧flS s L u=r2.1∧flL s L u=L1.done):=Lib.hid ⟨HZ3.out.1,HZ3.out.2.1,by rw [HZ3.out.2.2,if_neg (fun e=>e rfl)]⟩
     obtain ⟨Fin,hFin⟩:∃ Fin:World→Prop,Fin=fun W=>∃ F' q' m' c',Wl W F' b p q' m' c' r2.1 L1.done∧Upd (wlS F3 b q3) (wlS F' b q') w3 W:=⟨_,rfl⟩
     have HEn:Hid (∀ W,Gr w3 W→Calls Tryz.prog 22 #[.pointer (some ⟨b,0,none⟩)] W (RetU L1.fin W)):=Lib.hid fun W g=>(HW3.out.gr g).lg.End HBL.out.1
     have HLa:Hid (∀ W,Gr w3 W→Calls Tryz.prog 59 #[.pointer (some ⟨b,0,none⟩),.slice q3 m3 c3,.int .u64 (L1.fin:Int)] W fun e w'=>e=.returned (.tuple #[])∧Fin w'):=Lib.hid fun W g=>by
      refine ((HW3.out.gr g).last HBL.out.1).mono ?_;rintro e w' ⟨F',q',m',c',rfl,hw',hu'⟩;rw [hFin];exact ⟨rfl,F',q',m',c',hw',(Upd.of_gr g).comp hu'⟩
     have HB:=Lib.hid HW3.out.lg.blk;have HFn:=Lib.hid hFin;obtain ⟨F1n,hF1n⟩:∃ F1n,F1n=L1.fin:=⟨_,rfl⟩
     rw [← hF1n] at HEn HLa
     clear hFin hF1n HZ3;go_wp2_with fail;refine Flow.regionS [] 20 (SlFl b q3 m3 c3 F1n) (InC 7 w3 (Fin)) (fun _ _ _=>True) (by kernel_rfl) (by kernel_rfl) (fun _ _ _ _ _ _ h _=>h) (InC.start (by rfl) (Gr.refl _).drew) ?steps ?fin
     case steps=>
      refine .cons (fun l a W hfr hun hup hdn hinv hdep K hK=>?_) ?_
      · have t0:=tAt (.pointer (some ⟨b,0,none⟩)) (hfr.at 0 (by kernel_rfl));refine fW0 rfl ?_;clear hfr hdep hdn;go_simp;exact hK _ _ True.intro (hinv.other 0 (by decide)) (dsT (by trivial))
      refine .cons (fun l a W hfr hun hup hdn hinv hdep K hK=>?_) ?_
      · have t0:=tAt (.pointer (some ⟨b,0,none⟩)) (hfr.at 0 (by kernel_rfl));refine fW0 rfl ?_;clear hfr hdep hdn;go_simp;exact hK _ _ True.intro (hinv.other 1 (by decide)) (dsT (by trivial))
      refine .cons (fun l a W hfr hun hup hdn hinv hdep K hK=>?_) ?_
      · have t33:=tAt (.pointer (some ⟨b,0,none⟩)) (hdep 33 (by kernel_rfl));refine fW0 rfl ?_;clear hfr hdep hdn;go_simp;exact hK _ _ True.intro (hinv.other 2 (by decide)) (dsT (by trivial))
      refine .cons (fun l a W hfr hun hup hdn hinv hdep K hK=>?_) ?_
      · have t34:=tAt (.pointer (some ⟨b,0,none⟩)) (hdep 34 (by kernel_rfl));refine fW0 rfl ?_;clear hfr hdep hdn;go_simp;exact hK _ _ True.intro (hinv.other 3 (by decide)) (dsT (by trivial))
      refine .cons (fun l a W hfr hun hup hdn hinv hdep K hK=>?_) ?_
      · have t35:=tAt (.pointer (some ⟨b,7,none⟩)) (hdep 35 (by kernel_rfl));refine fW0 rfl ?_;clear hfr hdep hdn;have hlz:l 7=false:=hup 7 (by decide) (by kernel_rfl);have hin:=hinv.pre hlz;have c7:=(HB.out.gr hin).c10.2.2.2.2.2.2.2.1;go_simp;exact hK _ _ True.intro (hinv.other 4 (by decide)) (dsT (by trivial))
      refine .cons (fun l a W hfr hun hup hdn hinv hdep K hK=>?_) ?_
      · have t0:=tAt (.pointer (some ⟨b,0,none⟩)) (hfr.at 0 (by kernel_rfl));refine fW0 rfl ?_;clear hfr hdep hdn;go_simp;exact hK _ _ True.intro (hinv.other 5 (by decide)) (dsT (by trivial))
      refine .cons (fun l a W hfr hun hup hdn hinv hdep K hK=>?_) ?_
      · have t37:=tAt (.pointer (some ⟨b,0,none⟩)) (hdep 37 (by kernel_rfl));refine fW0 rfl ?_;clear hfr hdep hdn;have hlz:l 7=false:=hup 7 (by decide) (by kernel_rfl);have hin:=hinv.pre hlz;go_simp;refine (HEn.out W hin).mono ?_;rintro e W' ⟨rfl,g1⟩;exact hK _ _ True.intro (hinv.grow hlz g1 6 (by decide)) (dsT (by trivial))
      refine .cons (fun l a W hfr hun hup hdn hinv hdep K hK=>?_) ?_
      · have t32:=tAt (.pointer (some ⟨b,0,none⟩)) (hdep 32 (by kernel_rfl));have t36:=tAt (.slice q3 m3 c3) (hdep 36 (by kernel_rfl));have t38:=tAt (.int .u64 (F1n:Int)) (hdep 38 (by kernel_rfl));refine fW0 rfl ?_;clear hfr hdep hdn;have hin:=hinv.pre hun;go_simp;refine (HLa.out W hin).mono ?_;rintro e W' ⟨rfl,h1⟩;exact hK _ _ True.intro (InC.fin h1) (dsT (by trivial))
      exact True.intro
     case fin=>
      intro a W l hfr hall hinv hsl
      have hfin:=hinv.post (hall 7 (by decide));have e:=Flow.frame hfr [32,33,34,35,36,37,38,39] (List.range 40) (by kernel_rfl) (by kernel_rfl)
      simp [List.range,List.range.loop] at e
      rw [e];have HFin:=Lib.hid hfin;clear e hfr hsl hall hinv hfin
      first
       | (rename_i hB;refine hB _ _ ?_)
       | (rename_i hB y0;refine hB _ _ ?_)
       | (rename_i hB y0 y1;refine hB _ _ ?_)
       | (rename_i hB y0 y1 y2;refine hB _ _ ?_)
       | (rename_i hB y0 y1 y2 y3;refine hB _ _ ?_)
       | (rename_i hB y0 y1 y2 y3 y4;refine hB _ _ ?_)
       | (rename_i hB y0 y1 y2 y3 y4 y5;refine hB _ _ ?_)
       | (rename_i hB y0 y1 y2 y3 y4 y5 y6;refine hB _ _ ?_)
       | (rename_i hB y0 y1 y2 y3 y4 y5 y6 y7;refine hB _ _ ?_)
       | (rename_i hB y0 y1 y2 y3 y4 y5 y6 y7 y8;refine hB _ _ ?_)
       | skip
      have hF:=HFin.out
      rw [HFn.out] at hF
      obtain ⟨F4,q4,m4,c4,hw4,hu4⟩:=hF;have HW4:=Lib.hid hw4;have HU4:=Lib.hid (HU3.out.comp hu4);clear hw4 hu4 HFin;go_wp2_with fail
      go_ret
      rw [HZ4.out.1,HZ4.out.2.1,HZ4.out.2.2];exact ⟨F4,q4,m4,c4,rfl,HW4.out,HU4.out⟩
    ·
     have hE2b:(E2 != 0)=true:=by simpa using hE20
     have HZ4:Hid (flE s L u=E2∧flS s L u=r2.1∧flL s L u=L1):=Lib.hid ⟨HZ3.out.1,HZ3.out.2.1,by rw [HZ3.out.2.2,if_pos hE20]⟩;clear hE20 HZ3;go_wp2_with fail
     go_ret
     rw [HZ4.out.1,HZ4.out.2.1,HZ4.out.2.2];exact ⟨F3,q3,m3,c3,rfl,HW3.out,HU3.out⟩
   ·
    have hE1b:(E1 != 0)=true:=by simpa using hE0
    have HZ4:=Lib.hid (HZ.out hE0);clear hE0 HZ HZ2;go_wp2_with fail
    go_ret
    rw [HZ4.out.1,HZ4.out.2.1,HZ4.out.2.2];exact ⟨F2,q2,m2,c2,rfl,HW2.out,HU2.out⟩
end Go.Proofs.YtlijbgapkmfnaaaGreat
namespace Go.Proofs.YtlijbgapkmfnaaaGreat
open Go.RowKit Go.Maps
set_option maxRecDepth 100000 in
set_option maxHeartbeats 1000000 in
theorem wlay_no {b:Nat} {p:Value} {q:Option Addr} {m c:Nat} {L:Lg} (w:World) (h:LgAt w b p q m c L) (ok:L.Ok) (r:Rc) (hi:r.In) (pb:Option Addr) (nb cb:Nat) (pa:Option Addr) (na ca:Nat) (hb:Byt w pb nb cb r.b) (ha:Byt w pa na ca r.a) (room:Int) (hfit:mayR r=false) :
  Calls Tryz.prog 56 #[.pointer (some ⟨b,0,none⟩),.agg (rcv r pb nb cb pa na ca),.int .i64 room] w (RetLayE 2 w):=by
 obtain ⟨W1,hW1⟩:∃ W1,W1=w.alloc (.cells (rcv r pb nb cb pa na ca) TR):=⟨_,rfl⟩;have HB1:Hid (Blk W1 w.heap.size TR (rcv r pb nb cb pa na ca)∧Gr w W1):=Lib.hid (by rw [hW1];exact ⟨Blk.new _ _ _,Gr.new _ _⟩);have HE:=Lib.hid (LgAt.End (h.gr HB1.out.2) ok);have HBy:=Lib.hid (fun W (g:Gr w W)=>bytes_any r pb nb cb pa na ca L.fin W hi (hb.kept g) (ha.kept g) (by have:=ok.most;omega));have HW1:Hid (w.alloc (.cells (rcv r pb nb cb pa na ca) 33)=W1):=Lib.hid hW1.symm;obtain ⟨F,hF⟩:∃ F,F=L.fin:=⟨_,rfl⟩
 rw [← hF] at HE HBy
 clear h hb ha hW1 hF
 unfold rcv at HW1 HB1 ⊢
 go_enter Tryz.func56,Tryz.ntmps56
 go_wp2_with fail;rw [HW1.out];refine HE.out.mono ?_;rintro e W2 ⟨rfl,g2⟩;obtain ⟨c0,c1,c2,c3,c4,c5,c6,c7⟩:=(HB1.out.1.gr g2).c8;have HG2:=Lib.hid (Gr.trans HB1.out.2 g2);clear g2;go_wp2_with fail;refine (HBy.out W2 HG2.out).mono ?_;rintro e W3 ⟨q3,n3,d3,rfl,hy3,g3,f3⟩;have HG3:=Lib.hid (Gr.trans HG2.out g3)
 have hE0:bytesE r=2:=by unfold bytesE;rw [if_neg (by rw [hfit];decide)]
 rw [hE0];clear hE0 HBy HE g3 f3 hy3 HB1 HW1;go_wp2_with fail;refine bodyPost_ret_by (P:=Tryz.prog) (v:=.tuple #[.int .u64 0,.int .i64 2]) (by simp [results,Tryz.results56]) rfl ?_;exact ⟨rfl,HG3.out⟩
set_option maxRecDepth 100000 in
set_option maxHeartbeats 1000000 in
theorem wlay_full {b:Nat} {p:Value} {q:Option Addr} {m c:Nat} {L:Lg} (w:World) (h:LgAt w b p q m c L) (ok:L.Ok) (r:Rc) (hi:r.In) (pb:Option Addr) (nb cb:Nat) (pa:Option Addr) (na ca:Nat) (hb:Byt w pb nb cb r.b) (ha:Byt w pa na ca r.a) (room:Int) (hfit:mayR r=true) (hroom:room < (35+r.b.length+r.a.length:Int)) :
  Calls Tryz.prog 56 #[.pointer (some ⟨b,0,none⟩),.agg (rcv r pb nb cb pa na ca),.int .i64 room] w (RetLayE 5 w):=by
 obtain ⟨W1,hW1⟩:∃ W1,W1=w.alloc (.cells (rcv r pb nb cb pa na ca) TR):=⟨_,rfl⟩;have HB1:Hid (Blk W1 w.heap.size TR (rcv r pb nb cb pa na ca)∧Gr w W1):=Lib.hid (by rw [hW1];exact ⟨Blk.new _ _ _,Gr.new _ _⟩);have HE:=Lib.hid (LgAt.End (h.gr HB1.out.2) ok);have HBy:=Lib.hid (fun W (g:Gr w W)=>bytes_any r pb nb cb pa na ca L.fin W hi (hb.kept g) (ha.kept g) (by have:=ok.most;omega));have HW1:Hid (w.alloc (.cells (rcv r pb nb cb pa na ca) 33)=W1):=Lib.hid hW1.symm;obtain ⟨F,hF⟩:∃ F,F=L.fin:=⟨_,rfl⟩
 rw [← hF] at HE HBy
 clear h hb ha hW1 hF
 unfold rcv at HW1 HB1 ⊢
 go_enter Tryz.func56,Tryz.ntmps56
 go_wp2_with fail;rw [HW1.out];refine HE.out.mono ?_;rintro e W2 ⟨rfl,g2⟩;obtain ⟨c0,c1,c2,c3,c4,c5,c6,c7⟩:=(HB1.out.1.gr g2).c8;have HG2:=Lib.hid (Gr.trans HB1.out.2 g2);clear g2;go_wp2_with fail;refine (HBy.out W2 HG2.out).mono ?_;rintro e W3 ⟨q3,n3,d3,rfl,hy3,g3,f3⟩;have HG3:=Lib.hid (Gr.trans HG2.out g3);obtain ⟨n,hn⟩:∃ n,n=35+r.b.length+r.a.length:=⟨_,rfl⟩
 have hy4:Byt W3 q3 n3 d3 (recL r F):=by have h:=hy3;unfold bytesL at h;rw [if_pos hfit] at h;exact h
 have hn3:n3=n:=by rw [← hy4.len,recL_len,hn]
 subst hn3
 have hE0:bytesE r=0:=by unfold bytesE;rw [if_pos hfit]
 rw [hE0]
 have hr2:room < (n3:Int):=by omega
 have hr3:(n3:Int)≤9223372036854775807:=by have:=hy4.cap;have:=hy4.most;unfold maxLen at *;omega
 clear hE0 HBy HE g3 f3 hy3 hy4 hn hroom HB1 HW1;go_wp2_with fail;refine bodyPost_ret_by (P:=Tryz.prog) (v:=.tuple #[.int .u64 0,.int .i64 5]) (by simp [results,Tryz.results56]) rfl ?_;exact ⟨rfl,HG3.out⟩
end Go.Proofs.YtlijbgapkmfnaaaGreat
namespace Go.Proofs.YtlijbgapkmfnaaaGreat
open Go.RowKit Go.Maps
def RetLg (v:Value) (L':Lg) (b:Nat) (p:Value) (q:Option Addr) (w:World) (e:Ending) (w':World):Prop:=
 ∃ q' m' c',e=.returned v∧LgAt w' b p q' m' c' L'∧Upd (lgS b q) (lgS b q') w w'
section
variable {w w':World} {b:Nat} {p:Value} {q:Option Addr} {m c:Nat} {L:Lg}
theorem LgAt.miss (h:LgAt w b p q m c L):Calls Tryz.prog 55 #[.pointer (some ⟨b,0,none⟩)] w fun e w'=>e=.returned (.bool false)∧w=w':=by
 obtain ⟨d,hd⟩:=h.dsk;exact wmissing_no d b p L.n L.l L.g L.epoch L.tail L.lasts q m c L.rsv L.begun w h.blk hd
theorem LgAt.five (h:LgAt w b p q m c L) (t:Nat):LgAt (w.setCell ⟨b,5,none⟩ (.int .u64 (t:Int))) b p q m c { L with tail:=t }:=by
 have ho:=Only.cell b 5 w (.int .u64 (t:Int));exact ⟨h.blk.set 5 _,h.txt.stays (fun y hy=>ho.block _ (h.apart y hy)),h.apart,fun k hk=>by rw [ho.size];exact h.low k hk,h.dsk⟩
theorem LgAt.eight (h:LgAt w b p q m c L) (t:Int):LgAt (w.setCell ⟨b,8,none⟩ (.int .i64 t)) b p q m c { L with rsv:=t }:=by
 have ho:=Only.cell b 8 w (.int .i64 t);exact ⟨h.blk.set 8 _,h.txt.stays (fun y hy=>ho.block _ (h.apart y hy)),h.apart,fun k hk=>by rw [ho.size];exact h.low k hk,h.dsk⟩
theorem LgAt.same (h:LgAt w b p q m c L) {v:Value} {e:Ending} (he:e=.returned v) (g:Gr w w'):RetLg v L b p q w e w':=⟨q,m,c,he,h.gr g,Upd.of_gr g⟩
def tailE (L:Lg) (t:Nat):Int:=if t < L.tail∨L.lasts < t then 2 else 0
def tailL (L:Lg) (t:Nat):Lg:=if t < L.tail∨L.lasts < t then L else { L with tail:=t }
set_option maxRecDepth 100000 in
theorem LgAt.SetTail (h:LgAt w b p q m c L) (t:Nat):Calls Tryz.prog 31 #[.pointer (some ⟨b,0,none⟩),.int .u64 (t:Int)] w (RetLg (.int .i64 (tailE L t)) (tailL L t) b p q w):=by
 obtain ⟨d,hd⟩:=h.dsk
 unfold tailE tailL
 by_cases ht:t < L.tail∨L.lasts < t
 · rw [if_pos ht,if_pos ht];refine (wSetTail_no d b _ _ _ _ _ _ _ _ _ _ _ _ t w h.blk hd ht).mono ?_;rintro e w1 ⟨rfl,g1⟩;exact h.same rfl g1
 · rw [if_neg ht,if_neg ht];refine (wSetTail_yes d b _ _ _ _ _ _ _ _ _ _ _ _ t w h.blk hd (by omega) (by omega)).mono ?_;rintro e w1 ⟨rfl,W,g1,rfl⟩;exact ⟨q,m,c,rfl,(h.gr g1).five t,(Upd.of_gr g1).comp (Upd.cell (.inl rfl) _ _)⟩
theorem tailL_ok (ok:L.Ok) (t:Nat):(tailL L t).Ok∧(tailL L t).fin=L.fin:=by
 unfold tailL
 split
 · exact ⟨ok,rfl⟩
 ·
  rename_i ht
  refine ⟨⟨ok.may,ok.e0,ok.e1,by show t≤L.lasts;omega,ok.has,ok.most,?_,ok.r0,ok.r1⟩,rfl⟩;have:=ok.room
  show L.fin≤t - t % 232+232*L.l.toNat
  omega
def Lg.free (L:Lg):Int:=freeR L.l L.rsv L.tail L.fin
theorem free_le (ok:L.Ok):0≤L.free∧L.free≤60000∧(0 < L.free→L.free+L.rsv≤60000∧L.free+L.rsv+(L.fin:Int)≤(L.tail - L.tail % 232:Nat)+232*(L.l - 1)):=by
 have h1:=ok.l1;have h2:=ok.r0;have h3:=ok.near
 unfold Lg.free freeR
 omega
def rsvE (L:Lg) (r:Int):Int:=if r < 0 then 2 else if L.free < r then 5 else 0
def rsvL (L:Lg) (r:Int):Lg:=if r < 0 then L else if L.free < r then L else { L with rsv:=L.rsv+r }
set_option maxRecDepth 100000 in
theorem LgAt.Reserve (h:LgAt w b p q m c L) (ok:L.Ok) (r:Int):Calls Tryz.prog 33 #[.pointer (some ⟨b,0,none⟩),.int .i64 r] w (RetLg (.int .i64 (rsvE L r)) (rsvL L r) b p q w):=by
 obtain ⟨d,hd⟩:=h.dsk
 have HF:Hid (∀ W,Gr w W→Calls Tryz.prog 40 #[.pointer (some ⟨b,0,none⟩)] W fun e w'=>e=.returned (.int .i64 L.free)∧Gr W w'):=Lib.hid fun W g=>LgAt.Free (h.gr g) ok
 unfold rsvE rsvL
 by_cases hr:r < 0
 · rw [if_pos hr,if_pos hr];refine (wReserve_no d b _ _ _ _ _ _ _ _ _ _ _ _ r w h.blk hd hr).mono ?_;rintro e w1 ⟨rfl,g1⟩;exact h.same rfl g1
 ·
  rw [if_neg hr,if_neg hr]
  by_cases hf:L.free < r
  · rw [if_pos hf,if_pos hf];refine (wReserve_full d b _ _ _ _ _ _ _ _ _ _ _ _ r L.free w h.blk hd (by omega) hf HF).mono ?_;rintro e w1 ⟨rfl,g1⟩;exact h.same rfl g1
  · rw [if_neg hf,if_neg hf];refine (wReserve_yes d b _ _ _ _ _ _ _ _ _ _ _ _ r L.free w h.blk hd (by omega) (by omega) (by have:=(free_le ok).2.1;omega) ok.r0 (by have:=ok.r1;omega) HF).mono ?_;rintro e w1 ⟨rfl,W,g1,rfl⟩;exact ⟨q,m,c,rfl,(h.gr g1).eight _,(Upd.of_gr g1).comp (Upd.cell (.inl rfl) _ _)⟩
theorem rsvL_ok (ok:L.Ok) (r:Int):(rsvL L r).Ok∧(rsvL L r).fin=L.fin:=by
 unfold rsvL
 split
 · exact ⟨ok,rfl⟩
 ·
  split
  · exact ⟨ok,rfl⟩
  ·
   rename_i h1 h2
   have h3:=ok.r0;have h4:=ok.r1;have h5:=free_le ok;refine ⟨⟨ok.may,ok.e0,ok.e1,ok.tl,ok.has,ok.most,ok.room,?_,?_⟩,rfl⟩
   ·
    show 0≤L.rsv+r
    omega
   ·
    show L.rsv+r≤60000
    by_cases h6:0 < L.free
    ·
     have:=(h5.2.2 h6).1
     omega
    · omega
def relL (L:Lg) (r:Int):Lg:=if r < 0 then L else { L with rsv:=L.rsv - min r L.rsv }
set_option maxRecDepth 100000 in
theorem LgAt.Release (h:LgAt w b p q m c L) (ok:L.Ok) (r:Int):Calls Tryz.prog 35 #[.pointer (some ⟨b,0,none⟩),.int .i64 r] w (RetLg (.tuple #[]) (relL L r) b p q w):=by
 obtain ⟨d,hd⟩:=h.dsk
 unfold relL
 by_cases hr:r < 0
 · rw [if_pos hr];refine (wRelease_no d b _ _ _ _ _ _ _ _ _ _ _ _ r w h.blk hd hr).mono ?_;rintro e w1 ⟨rfl,g1⟩;exact h.same rfl g1
 · rw [if_neg hr];refine (wRelease_yes d b _ _ _ _ _ _ _ _ _ _ _ _ r w h.blk hd (by omega) ok.r0 (by have:=ok.r1;omega)).mono ?_;rintro e w1 ⟨rfl,W,g1,rfl⟩;exact ⟨q,m,c,rfl,(h.gr g1).eight _,(Upd.of_gr g1).comp (Upd.cell (.inl rfl) _ _)⟩
theorem relL_ok (ok:L.Ok) (r:Int):(relL L r).Ok∧(relL L r).fin=L.fin:=by
 unfold relL
 split
 · exact ⟨ok,rfl⟩
 ·
  have h3:=ok.r0;have h4:=ok.r1;refine ⟨⟨ok.may,ok.e0,ok.e1,ok.tl,ok.has,ok.most,ok.room,?_,?_⟩,rfl⟩
  ·
   show 0≤L.rsv - min r L.rsv
   omega
  ·
   show L.rsv - min r L.rsv≤60000
   omega
end
def layE (r:Rc) (room:Int):Int:=if mayR r then (if room < (35+r.b.length+r.a.length:Int) then 5 else 0) else 2
def layA (L:Lg) (r:Rc) (room:Int):Nat:=if layE r room=0 then L.fin else 0
def layL (L:Lg) (r:Rc) (room:Int):Lg:=if layE r room=0 then L.more (recL r L.fin) else L
set_option maxRecDepth 100000 in
theorem LgAt.lay {b:Nat} {p:Value} {q:Option Addr} {m c:Nat} {L:Lg} (w:World) (h:LgAt w b p q m c L) (ok:L.Ok) (r:Rc) (hi:r.In) (pb:Option Addr) (nb cb:Nat) (pa:Option Addr) (na ca:Nat) (hb:Byt w pb nb cb r.b) (ha:Byt w pa na ca r.a) (room:Int) :
  Calls Tryz.prog 56 #[.pointer (some ⟨b,0,none⟩),.agg (rcv r pb nb cb pa na ca),.int .i64 room] w (RetLg (.tuple #[.int .u64 (layA L r room:Int),.int .i64 (layE r room)]) (layL L r room) b p q w):=by
 by_cases hf:mayR r=true
 ·
  by_cases hr:room < (35+r.b.length+r.a.length:Int)
  ·
   have hE:layE r room=5:=by unfold layE;rw [if_pos hf,if_pos hr]
   unfold layA layL
   rw [hE];refine (wlay_full w h ok r hi pb nb cb pa na ca hb ha room hf hr).mono ?_;rintro e w1 ⟨rfl,g1⟩;exact h.same rfl g1
  ·
   have hE:layE r room=0:=by unfold layE;rw [if_pos hf,if_neg hr]
   unfold layA layL
   rw [hE];refine (wlay_any w h ok r hi pb nb cb pa na ca hb ha room hf (by omega)).mono ?_;rintro e w1 ⟨q',m',c',rfl,h1,h2⟩;exact ⟨q',m',c',rfl,h1,h2⟩
 ·
  have hE:layE r room=2:=by unfold layE;rw [if_neg hf]
  unfold layA layL
  rw [hE];refine (wlay_no w h ok r hi pb nb cb pa na ca hb ha room (by simpa using hf)).mono ?_;rintro e w1 ⟨rfl,g1⟩;exact h.same rfl g1
set_option maxRecDepth 100000 in
theorem LgAt.Append {b:Nat} {p:Value} {q:Option Addr} {m c:Nat} {L:Lg} (w:World) (h:LgAt w b p q m c L) (ok:L.Ok) (r:Rc) (hi:r.In) (pb:Option Addr) (nb cb:Nat) (pa:Option Addr) (na ca:Nat) (hb:Byt w pb nb cb r.b) (ha:Byt w pa na ca r.a) :
  Calls Tryz.prog 19 #[.pointer (some ⟨b,0,none⟩),.agg (rcv r pb nb cb pa na ca)] w (RetLg (.tuple #[.int .u64 (layA L r L.free:Int),.int .i64 (layE r L.free)]) (layL L r L.free) b p q w):=by
 refine (append_core b 0 r.k r.t r.p r.x r.g r.o pb nb cb pa na ca (layA L r L.free) (layE r L.free) L.free (fun w'=>∃ q' m' c',LgAt w' b p q' m' c' (layL L r L.free)∧Upd (lgS b q) (lgS b q') w w') w (Lib.hid fun W g=>(h.gr g).miss) (Lib.hid fun W g=>LgAt.Free (h.gr g) ok) (Lib.hid fun W g=>?_)).mono ?_
 · refine (LgAt.lay W (h.gr g) ok r hi pb nb cb pa na ca (hb.kept g) (ha.kept g) L.free).mono ?_;rintro e w1 ⟨q',m',c',rfl,h1,h2⟩;exact ⟨rfl,q',m',c',h1,(Upd.of_gr g).comp h2⟩
 · rintro e w1 ⟨rfl,q',m',c',h1,h2⟩;exact ⟨q',m',c',rfl,h1,h2⟩
theorem layL_ok {L:Lg} (ok:L.Ok) (r:Rc) (room:Int) (h:room≤L.free∨room≤L.rsv) (hs:L.fin+room≤(L.tail - L.tail % 232:Nat)+232*L.l) (h1:(L.fin:Int)+room≤9000000000000000000):(layL L r room).Ok:=by
 unfold layL
 split
 ·
  rename_i hE
  unfold layE at hE
  split at hE
  ·
   split at hE
   · cases hE
   ·
    rename_i h2 h3
    have h4:(recL r L.fin).length=35+r.b.length+r.a.length:=recL_len _ _
    have h5:(L.more (recL r L.fin)).fin=L.fin+(35+r.b.length+r.a.length):=by
     show L.lasts - L.lasts % 232+(L.txt++recL r L.fin).length=_
     rw [List.length_append,h4]
     unfold Lg.fin
     omega
    have h6:=ok.l1;refine ⟨ok.may,ok.e0,ok.e1,ok.tl,?_,?_,?_,ok.r0,ok.r1⟩
    ·
     show L.lasts % 232≤(L.txt++recL r L.fin).length
     rw [List.length_append];have:=ok.has
     omega
    · rw [h5];omega
    ·
     rw [h5]
     show _≤L.tail - L.tail % 232+232*L.l.toNat
     omega
  · cases hE
 · exact ok
end Go.Proofs.YtlijbgapkmfnaaaGreat
namespace Go.Proofs.YtlijbgapkmfnaaaGreat
open Go.RowKit Go.Maps
def Lg.Fits (L:Lg):Prop:=L.rsv=0∨(L.fin:Int)+L.rsv≤(L.tail - L.tail % 232:Nat)+232*(L.l - 1)
theorem more_fin (L:Lg) (r:Rc):(L.more (recL r L.fin)).fin=L.fin+(35+r.b.length+r.a.length):=by
 have h4:(recL r L.fin).length=35+r.b.length+r.a.length:=recL_len _ _
 show L.lasts - L.lasts % 232+(L.txt++recL r L.fin).length=_
 rw [List.length_append,h4]
 unfold Lg.fin
 omega
theorem layE_cases (r:Rc) (room:Int):layE r room=2∨layE r room=5∨(layE r room=0∧mayR r=true∧(35+r.b.length+r.a.length:Int)≤room):=by
 unfold layE
 split
 ·
  rename_i h
  split
  · exact .inr (.inl rfl)
  · exact .inr (.inr ⟨rfl,h,by omega⟩)
 · exact .inl rfl
theorem layL_fin (L:Lg) (r:Rc) (room:Int):(layL L r room).fin=if layE r room=0 then L.fin+(35+r.b.length+r.a.length) else L.fin:=by
 unfold layL
 split
 · exact more_fin L r
 · rfl
def useL (L:Lg) (r:Rc):Lg:=if layE r L.rsv=0 then relL (layL L r L.rsv) (35+r.b.length+r.a.length:Nat) else L
set_option maxRecDepth 100000 in
theorem LgAt.Use {b:Nat} {r:Rc} {p:Value} {q:Option Addr} {m c:Nat} {L:Lg} (w:World) (h:LgAt w b p q m c L) (ok:L.Ok) (ok2:(layL L r L.rsv).Ok) (hi:Rc.In r) (pb:Option Addr) (nb cb:Nat) (pa:Option Addr) (na ca:Nat) (hb:Byt w pb nb cb r.b) (ha:Byt w pa na ca r.a) :
  Calls Tryz.prog 28 #[.pointer (some ⟨b,0,none⟩),.agg (rcv r pb nb cb pa na ca)] w (RetLg (.tuple #[.int .u64 (layA L r L.rsv:Int),.int .i64 (layE r L.rsv)]) (useL L r) b p q w):=by
 obtain ⟨n,hn⟩:∃ n,n=35+r.b.length+r.a.length:=⟨_,rfl⟩;obtain ⟨E,hE⟩:∃ E,E=layE r L.rsv:=⟨_,rfl⟩;obtain ⟨A,hA⟩:∃ A,A=layA L r L.rsv:=⟨_,rfl⟩
 obtain ⟨A2,hA2⟩:∃ A2,A2=if E=0 then L.fin+n else 0:=⟨_,rfl⟩
 have hAE:A=if E=0 then L.fin else 0:=by rw [hA,hE];rfl
 have hc:E≠0∨(E=0∧(n:Int)≤L.rsv):=by
  rcases layE_cases r L.rsv with h1 | h1 | ⟨h1,h2,h3⟩
  · exact .inl (by rw [hE,h1];decide)
  · exact .inl (by rw [hE,h1];decide)
  · exact .inr ⟨by rw [hE,h1],by omega⟩
 have hfin:E=0→(layL L r L.rsv).fin=A2:=fun e=>by
  rw [layL_fin,← hE,if_pos e,hA2,if_pos e,hn]
 have hd:E=0→A2 - A=n:=fun e=>by rw [hA2,hAE,if_pos e,if_pos e];omega
 refine (use_core b 0 r.k r.t r.p r.x r.g r.o pb nb cb pa na ca A A2 E L.rsv (fun w'=>∃ q' m' c',LgAt w' b p q' m' c' (layL L r L.rsv)∧Upd (lgS b q) (lgS b q') w w') (fun w'=>∃ q' m' c',LgAt w' b p q' m' c' (relL (layL L r L.rsv) (n:Int))∧Upd (lgS b q) (lgS b q') w w') #[] w (Lib.hid fun W g=>(h.gr g).miss) (Lib.hid ⟨_,_,_,_,_,_,_,_,_,h.blk⟩) (Lib.hid fun W g=>?_) (Lib.hid fun e W hW=>?_) ?_ ?_ (Lib.hid fun e W W' hW g=>?_)).mono ?_
 · refine (LgAt.lay W (h.gr g) ok r hi pb nb cb pa na ca (hb.kept g) (ha.kept g) L.rsv).mono ?_;rintro e w1 ⟨q',m',c',rfl,h1,h2⟩;exact ⟨by rw [hA,hE],q',m',c',h1,(Upd.of_gr g).comp h2⟩
 · obtain ⟨q',m',c',h1,h2⟩:=hW;rw [← hfin e];exact LgAt.End h1 ok2
 ·
  rw [hA2,hAE]
  split <;> omega
 ·
  have:=ok.r1;rw [hA2,hAE]
  split
  ·
   rename_i e
   rcases hc with h1 | h1
   · exact absurd e h1
   · omega
  · omega
 · obtain ⟨q',m',c',h1,h2⟩:=hW;rw [hd e];refine (LgAt.Release (h1.gr g) ok2 (n:Int)).mono ?_;rintro e w1 ⟨q2,m2,c2,rfl,h3,h4⟩;exact ⟨rfl,q2,m2,c2,h3,h2.comp ((Upd.of_gr g).comp h4)⟩
 ·
  unfold useL
  rw [← hE,← hn,← hA];rintro e w1 (⟨h0,rfl,q',m',c',h1,h2⟩ | ⟨h0,rfl,q',m',c',h1,h2⟩)
  ·
   rw [if_neg h0]
   have hl:layL L r L.rsv=L:=by unfold layL;rw [← hE,if_neg h0]
   rw [hl] at h1
   have hA0:A=0:=by rw [hAE,if_neg h0]
   exact ⟨q',m',c',by rw [hA0];rfl,h1,h2⟩
  · rw [if_pos h0];exact ⟨q',m',c',by rw [h0],h1,h2⟩
theorem fits_tail {L:Lg} (ok:L.Ok) (h:L.Fits) (t:Nat):(tailL L t).Fits:=by
 unfold tailL
 split
 · exact h
 ·
  rename_i ht
  unfold Lg.Fits at *
  rcases h with h | h
  · exact .inl h
  ·
   refine .inr ?_
   show (L.fin:Int)+L.rsv≤(t - t % 232:Nat)+232*(L.l - 1)
   omega
theorem fits_rsv {L:Lg} (ok:L.Ok) (h:L.Fits) (r:Int):(rsvL L r).Fits:=by
 unfold rsvL
 split
 · exact h
 ·
  split
  · exact h
  ·
   rename_i h1 h2
   have h5:=free_le ok
   by_cases h6:0 < L.free
   ·
    refine .inr ?_;have:=(h5.2.2 h6).2
    show (L.fin:Int)+(L.rsv+r)≤(L.tail - L.tail % 232:Nat)+232*(L.l - 1)
    omega
   ·
    have h7:r=0:=by omega
    subst h7
    unfold Lg.Fits at *
    rcases h with h | h
    · exact .inl (by show L.rsv+0=0;omega)
    · exact .inr (by show (L.fin:Int)+(L.rsv+0)≤(L.tail - L.tail % 232:Nat)+232*(L.l - 1);omega)
theorem fits_rel {L:Lg} (ok:L.Ok) (h:L.Fits) (r:Int):(relL L r).Fits:=by
 unfold relL
 split
 · exact h
 ·
  have h3:=ok.r0
  unfold Lg.Fits at *
  rcases h with h | h
  · exact .inl (by show L.rsv - min r L.rsv=0;omega)
  · exact .inr (by show (L.fin:Int)+(L.rsv - min r L.rsv)≤(L.tail - L.tail % 232:Nat)+232*(L.l - 1);omega)
theorem fits_append {L:Lg} (ok:L.Ok) (h:L.Fits) (r:Rc):(layL L r L.free).Fits:=by
 rcases layE_cases r L.free with h1 | h1 | ⟨h1,h2,h3⟩
 · unfold layL;rw [h1];exact h
 · unfold layL;rw [h1];exact h
 ·
  have h5:=free_le ok;have h6:=h5.2.2 (by omega);have hf:=layL_fin L r L.free
  rw [if_pos h1] at hf
  refine .inr ?_
  have hl:(layL L r L.free).rsv=L.rsv∧(layL L r L.free).tail=L.tail∧(layL L r L.free).l=L.l:=by unfold layL;rw [h1];exact ⟨rfl,rfl,rfl⟩
  rw [hf,hl.1,hl.2.1,hl.2.2]
  omega
theorem append_ok {L:Lg} (ok:L.Ok) (r:Rc) (hm:L.fin≤8000000000000000000):(layL L r L.free).Ok:=by
 have h5:=free_le ok
 rcases layE_cases r L.free with h1 | h1 | ⟨h1,h2,h3⟩
 · unfold layL;rw [h1];exact ok
 · unfold layL;rw [h1];exact ok
 · have h6:=h5.2.2 (by omega);exact layL_ok ok r L.free (.inl (Int.le_refl _)) (by have:=ok.r0;omega) (by omega)
theorem lay_rsv_ok {L:Lg} (ok:L.Ok) (h:L.Fits) (r:Rc) (hm:L.fin≤8000000000000000000):(layL L r L.rsv).Ok:=by
 have hr:=ok.r1
 rcases layE_cases r L.rsv with h1 | h1 | ⟨h1,h2,h3⟩
 · unfold layL;rw [h1];exact ok
 · unfold layL;rw [h1];exact ok
 ·
  rcases h with h | h
  · exfalso;omega
  · exact layL_ok ok r L.rsv (.inr (Int.le_refl _)) (by omega) (by omega)
theorem use_ok {L:Lg} (ok:L.Ok) (h:L.Fits) (r:Rc) (hm:L.fin≤8000000000000000000):(useL L r).Ok∧(useL L r).Fits:=by
 unfold useL
 split
 ·
  rename_i h1
  have ok2:=lay_rsv_ok ok h r hm;refine ⟨(relL_ok ok2 _).1,?_⟩
  rcases layE_cases r L.rsv with h2 | h2 | ⟨_,h2,h3⟩
  · rw [h1] at h2;cases h2
  · rw [h1] at h2;cases h2
  ·
   rcases h with h | h
   · exfalso;omega
   ·
    have hf:=layL_fin L r L.rsv
    rw [if_pos h1] at hf
    have hl:(layL L r L.rsv).rsv=L.rsv∧(layL L r L.rsv).tail=L.tail∧(layL L r L.rsv).l=L.l:=by unfold layL;rw [h1];exact ⟨rfl,rfl,rfl⟩
    unfold relL
    rw [if_neg (by omega)];refine .inr ?_
    show ((layL L r L.rsv).fin:Int)+((layL L r L.rsv).rsv - min ((35+r.b.length+r.a.length:Nat):Int) (layL L r L.rsv).rsv)≤((layL L r L.rsv).tail - (layL L r L.rsv).tail % 232:Nat)+232*((layL L r L.rsv).l - 1)
    rw [hf,hl.1,hl.2.1,hl.2.2]
    omega
 · exact ⟨ok,h⟩
end Go.Proofs.YtlijbgapkmfnaaaGreat
namespace Go.Proofs.YtlijbgapkmfnaaaGreat
open Go.RowKit
theorem rof_any (p:Option Addr) (n c:Nat) (xs:List Int) (w:World) (h:Byt w p n c xs) (h8:n≤8):Calls Tryz.prog 88 #[.slice p n c] w fun e w'=>e=.returned (.int .u64 (Wd.dec xs))∧w=w':=by
 have hlen:=h.len;have hsm:=Lib.hid h.small
 rcases Nat.eq_zero_or_pos n with rfl | hn
 ·
  obtain rfl:xs=[]:=List.eq_nil_of_length_eq_zero hlen
  go_enter Tryz.func88,Tryz.ntmps88
  go_wp2
  go_rounds 1
  go_ret
  exact ⟨rfl,rfl⟩
 ·
  obtain ⟨b,o,rfl,hc⟩:=h.at hn
  have Hlen:=Lib.hid hlen;have Hc:=Lib.hid hc;clear hc hlen h
  go_enter Tryz.func88,Tryz.ntmps88
  go_wp2
  go_loop [3,4] (fun t i=>∃ k:Nat,k≤n∧i=.int .i64 ((k:Int) - 1)∧t=.int .u64 (Wd.dec (xs.drop k))) (fun _ i=>(intOf i+1).toNat)
  case atStart=>exact ⟨n,Nat.le_refl _,by go_num,by rw [List.drop_eq_nil_of_le (by rw [Hlen.out];exact Nat.le_refl _)];rfl⟩
  case round=>
   obtain ⟨k,hk,rfl,rfl⟩:=hrel
   by_cases hlt:0 < k
   ·
    obtain ⟨j,rfl⟩:∃ j,k=j+1:=⟨k - 1,by omega⟩;rw [show ((j+1:Nat):Int) - 1=(j:Int) by omega];have hcell:w.cell? ⟨b,o+j,none⟩=some (.int .u8 (xs.getD j 0)):=Hc.out j (by omega);have hs:=hsm.out.getD j;have hst:=Wd.dec_drop xs j (by rw [Hlen.out];omega)
    have hlt2:Wd.dec (xs.drop (j+1)) < 72057594037927936:=by
     have h1:=Wd.dec_lt _ (hsm.out.drop (j+1))
     have h2:(xs.drop (j+1)).length≤7:=by rw [List.length_drop,Hlen.out];omega
     have h3:=Wd.pow_lt _ h2
     omega
    generalize hx:xs.getD j 0=x at *
    generalize hy:Wd.dec (xs.drop (j+1))=y at *
    have Hst:=Lib.hid hst;clear hst hx hy;obtain ⟨X,rfl⟩:=Int.eq_ofNat_of_zero_le hs.1;have hs2:(X:Int) < 256:=hs.2;clear hs
    go_wp2
    go_round
    case rel=>exact ⟨j,by omega,by go_num,congrArg (Value.int .u64) (by rw [Hst.out];simp;omega)⟩
    case measure=>simp [intOf]
   ·
    obtain rfl:k=0:=by omega
    go_wp2
    go_ret
    exact ⟨rfl,rfl⟩
end Go.Proofs.YtlijbgapkmfnaaaGreat
namespace Go.Proofs.YtlijbgapkmfnaaaGreat
open Go.RowKit
theorem zeroCells_u8 (k:Nat):Builtin.zeroCells (Value.int .u8 0).cells k=((List.replicate k (0:Int)).map (Value.int .u8)).toArray:=by
 unfold Builtin.zeroCells
 apply Array.ext
 · simp [Value.cells]
 ·
  intro i h1 h2
  simp [Value.cells,Nat.mod_one]
theorem small_zeros (k:Nat):Wd.Small (List.replicate k (0:Int)):=fun x h=>by
 rw [List.mem_replicate] at h
 omega
theorem run_app_zeros {P:Program} {tS tB tn:TypeId} (T:BT P tS tB) (htn:P.underlying tn=some (.int .i64)) {w:World} {ty:TypeId} {base:Nat} {v:Value} {xs:List Int} (h:OwnB w base tB v xs) (k:Nat) (hb:xs.length+k≤140737488355328) (hbase:base≤w.heap.size) :
  ∃ v' w',(Builtin.append_ #[tS,tn] ty #[v,.int .i64 (k:Int)]).run P w=.ok v' w'∧OwnB w' base tB v' (xs++List.replicate k 0)∧w.grownBy w' v.ownBlock∧(v'.ownBlock=v.ownBlock∨v'.ownBlock=some w.heap.size):=by
 obtain ⟨i,hi,hz0,hz1,hz2⟩:=info_parts T.info
 have hw:IntKind.i64.wrap (k:Int)=k:=by rw [IntKind.wrap_i64];omega
 have hneg:¬ ((k:Int) < 0):=by omega
 have h48:¬ (281474976710656 < (k:Int)):=by omega
 by_cases hk:k=0
 ·
  subst hk
  have hw0:IntKind.i64.wrap 0=0:=by decide
  rcases h.row.2 with ⟨rfl,hn⟩ | ⟨g,cap,cur,rfl,hbg,hg,hnc,hcm,hcs,htake⟩
  ·
   refine ⟨_,w,?_,by simpa using h,⟨rfl,rfl,rfl,Nat.le_refl _,fun _ _ _=>rfl⟩,.inl rfl⟩
   simp [Builtin.append_,run_underlying T.us,run_underlying htn,sizeOf,typeInfo,hi,hz1,hz2,asInt,asIntOf,hw0]
  ·
   refine ⟨_,w,?_,by simpa using h,⟨rfl,rfl,rfl,Nat.le_refl _,fun _ _ _=>rfl⟩,.inl rfl⟩
   simp [Builtin.append_,run_underlying T.us,run_underlying htn,sizeOf,typeInfo,hi,hz1,hz2,asInt,asIntOf,hw0,hnc,storeCells]
 ·
  have hs:=h.small.app (small_zeros k)
  have hlen:((xs++List.replicate k (0:Int)).map (Value.int .u8)).length=(xs++List.replicate k (0:Int)).length*1:=by simp
  have grown:∀ (old:Nat) (row:Option Nat),old < xs.length+k →
    OwnB (w.drew.alloc (.cells ((xs.map (Value.int .u8)).toArray++Builtin.zeroCells (Value.int .u8 0).cells k++Builtin.zeroCells (Value.int .u8 0).cells (grownCap w (xs.length+k) old tB - (xs.length+k))) tB)) base tB
     (.slice (some ⟨w.heap.size,0,none⟩) (xs.length+k) (grownCap w (xs.length+k) old tB)) (xs++List.replicate k 0) ∧
    w.grownBy (w.drew.alloc (.cells ((xs.map (Value.int .u8)).toArray++Builtin.zeroCells (Value.int .u8 0).cells k++Builtin.zeroCells (Value.int .u8 0).cells (grownCap w (xs.length+k) old tB - (xs.length+k))) tB)) row:=fun old row ho=>by
   have hge:=grownCap_ge w (xs.length+k) old tB;have hcm:grownCap w (xs.length+k) old tB≤maxLen:=grownCap_le_maxLen w (xs.length+k) old tB (by unfold maxLen;omega);refine ⟨⟨⟨hlen,.inr ⟨w.heap.size,grownCap w (xs.length+k) old tB,_,by simp,hbase,heap_alloc_new w.drew _,by simpa using hge,hcm,?_,?_⟩⟩,hs⟩,⟨rfl,rfl,rfl,by simp,fun j hj _=>heap_alloc_old w.drew _ hj⟩⟩
   ·
    simp only [Array.size_append,List.size_toArray,size_zeroCells,List.length_map]
    simp [Value.cells]
    omega
   ·
    rw [zeroCells_u8]
    simp only [Array.toList_append,List.append_assoc]
    rw [← List.append_assoc,← List.map_append,← hlen];exact List.take_left
  rcases h.row.2 with ⟨rfl,hn⟩ | ⟨g,cap,cur,rfl,hbg,hg,hnc,hcm,hcs,htake⟩
  ·
   obtain rfl:xs=[]:=List.eq_nil_of_length_eq_zero hn;have hr:=Lib.run_append_nil_zeros (P:=P) w tS tn ty tB i (.int .u8 0) .i64 .i64 T.us htn hi hz0 k (by omega) (by omega) (by omega) (by rw [hz2];omega);have hg:=grown 0 (Value.ownBlock (.slice none 0 0)) (by simp;omega)
   simp only [List.length_nil,Nat.zero_add,List.map_nil,List.nil_append] at hg ⊢
   exact ⟨_,_,hr,by simpa using hg.1,by simpa using hg.2,.inr rfl⟩
  ·
   by_cases hroom:xs.length+k≤cap
   ·
    have hst:=run_storeCells_at P g (xs.length*1) tB ((List.replicate k (0:Int)).map (Value.int .u8)) 0 cur w hg (by simp;omega) (u8s_oneCell _)
    simp only [Nat.add_zero] at hst
    have hr:(Builtin.append_ #[tS,tn] ty #[.slice (some ⟨g,0,none⟩) xs.length cap,.int .i64 (k:Int)]).run P w=.ok (.slice (some ⟨g,0,none⟩) (xs.length+k) cap) (w.setRow g (cur.toList.take (xs.length*1)++(List.replicate k (0:Int)).map (Value.int .u8)++cur.toList.drop (xs.length*1+((List.replicate k (0:Int)).map (Value.int .u8)).length)).toArray):=by
     have hzc:=zeroCells_u8 k
     simp only [Nat.mul_one] at hst ⊢
     simp [Builtin.append_,run_underlying T.us,run_underlying htn,sizeOf,typeInfo,zeroValue,hi,hz0,hz1,hz2,asInt,asIntOf,hw,hneg,h48,hroom,hk,Addr.add_lit,hzc] at hst ⊢
     rw [hst]
     rfl
    refine ⟨_,_,hr,⟨⟨hlen,.inr ⟨g,cap,_,by simp,hbg,setRow_heap w g cur _ tB _ hg,by simpa using hroom,hcm,?_,?_⟩⟩,hs⟩,⟨rfl,rfl,rfl,by simp,fun j _ hj=>setRow_other w g j _ (fun e=>hj (by simp [Value.ownBlock,e]))⟩,.inl rfl⟩
    ·
     simp only [List.size_toArray,List.length_append,List.length_take,List.length_drop,Array.length_toList,List.length_map,List.length_replicate]
     omega
    ·
     simp only [Nat.mul_one] at htake ⊢
     rw [htake,← List.map_append];rw [show (xs++List.replicate k (0:Int)).length=((xs++List.replicate k (0:Int)).map (Value.int .u8)).length by simp];exact List.take_left
   · have holds:∀ j u,(xs.map (Value.int .u8))[j]?=some u→w.drew.cell? ((⟨g,0,none⟩:Addr).add j)=some u:=h.row.cells (g:=g) rfl;have hfc:=run_firstCells_some (P:=P) w.drew i.size xs.length ⟨g,0,none⟩ xs.length cap (xs.map (Value.int .u8)) (by rw [List.length_map,hz1,Nat.mul_one]) holds;have hr:=Lib.run_append_grow_zeros (P:=P) w tS tn ty tB i (.int .u8 0) .i64 .i64 T.us htn hi hz0 (some ⟨g,0,none⟩) xs.length cap (xs.map (Value.int .u8)) hfc k (by omega) (by omega) (by omega) (by omega) (by rw [hz2];omega) (growslice_fits (by omega) (by rw [hz2];omega));have hgr:=grown cap (Value.ownBlock (.slice (some ⟨g,0,none⟩) xs.length cap)) (by omega);exact ⟨_,_,hr,hgr.1,hgr.2,.inr rfl⟩
theorem wpList_app_zeros {P:Program} {tS tB tn:TypeId} (T:BT P tS tB) (htn:P.underlying tn=some (.int .i64)) {w:World} {ops:Array Oper} {rest:List Oper} {o:Oper} {a:Act} {Q:Exit→Act→World→Prop} (hgd:o.guard=none) (s x:Operand)
  (ho:o.op=.call { callee:=.builtin .append,args:=#[s,x],argTypes:=#[tS,tn] }) (base:Nat) (v:Value) (xs:List Int) (hs:a.eval s=v) (h:OwnB w base tB v xs) (k:Nat) (hx:a.eval x=.int .i64 (k:Int)) (hb:xs.length+k≤140737488355328) (hbase:base≤w.heap.size)
  (hQ:∀ v' w',OwnB w' base tB v' (xs++List.replicate k 0)→w.grownBy w' v.ownBlock→(v'.ownBlock=v.ownBlock∨v'.ownBlock=some w.heap.size)→wpList P ops Q rest (a.put o.dst v') w'):wpList P ops Q (o :: rest) a w:=by
 obtain ⟨v',w',hr,h1,h2,h3⟩:=run_app_zeros T htn (ty:=o.type) h k hb hbase;exact Lib.wpList_append_run w hgd s x tS tn ho v _ hs hx v' w' hr (hQ v' w' h1 h2 h3)
end Go.Proofs.YtlijbgapkmfnaaaGreat
namespace Go.Proofs.YtlijbgapkmfnaaaGreat
open Go.RowKit Cr
theorem rle_own (n k:Nat) (w:World) (hn:n≤18446744073709551615) (hk:k≤8):Calls Tryz.prog 68 #[.int .u64 n,.int .i64 k] w (RetOwn 5 (Wd.enc k n) w):=by
 go_enter Tryz.func68,Tryz.ntmps68
 go_wp2
 go_loopw [5,6] (fun v i wr=>∃ (j:Nat) (p:Option Addr) (c:Nat),j≤k∧i=.int .i64 j∧v=.slice p j c∧Hid (OwnB wr w.heap.size 5 (.slice p j c) (Wd.enc j n))∧Hid (Below w.heap.size w wr))
  (fun _ i _=>k - (intOf i).toNat)
 case atStart=>exact ⟨0,none,0,Nat.zero_le _,rfl,rfl,OwnB.nil _ _ _,Below.refl _ _⟩
 case round=>
  obtain ⟨j,p,c,hj,rfl,rfl,ho,hb⟩:=hrel;have hsn:=Lib.hid (Wd.enc_snoc j n);have hl:=Lib.hid (Wd.enc_length j n);have hbs:=hb.out.size;have hby:=Lib.hid (byte_shr n j)
  by_cases hlt:j < k
  ·
   go_wp2_with (at_builtin;refine wpList_app_byt bt rfl (.tmp 12) (.tmp 19) rfl w.heap.size _ _ rfl (ho.out.alloc _) (some ⟨wr.heap.size,0,none⟩) 1 1 [((n / 256 ^ j % 256:Nat):Int)] rfl ?h1 ?h2 ?h3 ?_)
   case h1=>rw [← hby.out];simpa using Byt.one wr (((n:Int) / 2 ^ (8*j)) % 256) 5 (by omega)
   case h2=>rw [hl.out];omega
   case h3=>simp;omega
   intro v' w' own grow
   have HO:=Lib.hid (own.as (ys:=Wd.enc (j+1) n) (by rw [hsn.out];simp));have HB:Hid (Below w.heap.size w w'):=Below.app (hb.out.alloc hbs _) (by simp;omega) (ho.out.alloc _) grow;obtain ⟨p',c',hv⟩:=HO.out.shape (j+1) (Wd.enc_length _ _);subst hv
   clear own grow hby
   go_wp2
   go_roundw
   case rel=>exact ⟨j+1,p',c',by omega,by go_num,rfl,HO,HB⟩
   case measure=>simp [intOf];omega
  ·
   obtain rfl:j=k:=by omega
   go_wp2
   go_ret
   exact ⟨_,rfl,ho.out,hb.out⟩
structure Sc (w:World) (B:Nat) (Z:List Int) (W:World):Prop where
 gr:Gr w W
 s:Blk W w.heap.size TS (sec (Sx Z))
 sz:B≤W.heap.size
 lt:w.heap.size < B
theorem Sc.up {w:World} {B:Nat} {Z:List Int} {W W':World} (h:Sc w B Z W) (g:Gr W W'):Sc w B Z W':=⟨Gr.trans h.gr g,h.s.gr g,Nat.le_trans h.sz g.size,h.lt⟩
theorem Sc.app {w:World} {B:Nat} {Z:List Int} {W W':World} (h:Sc w B Z W) {row:Option Nat} (g:W.grownBy W' row) (hr:∀ k,row=some k→B≤k):Sc w B Z W':=
 ⟨Below.grown h.gr g h.gr.size (fun k e=>by have:=hr k e;have:=h.lt;omega),h.s.stays (g.block _ h.s.lt (fun e=>by have:=hr _ e.symm;have:=h.lt;omega)),Nat.le_trans h.sz g.size,h.lt⟩
theorem own_not_blk {w:World} {B T k n g:Nat} {v:Value} {xs:List Value} {t:TypeId} {cs:Array Value} (h:w.ownsRow B T k v n xs) (hb:Blk w g t cs) (ne:T≠t):v.ownBlock≠some g:=fun e1=>by
 rcases h.2 with ⟨rfl,_⟩ | ⟨b,cap,cur,rfl,_,hg,_⟩
 · simp [Value.ownBlock] at e1
 ·
  have q1:b=g:=by simpa [Value.ownBlock] using e1
  unfold Blk at hb
  rw [q1,hb] at hg
  simp only [Option.some.injEq,Obj.cells.injEq] at hg
  exact ne hg.2.1.symm
theorem OwnB.grown {w w':World} {B tB:Nat} {v:Value} {xs:List Int} {row:Option Nat} (h:OwnB w B tB v xs) (g:w.grownBy w' row) (hr:∀ k,row=some k→w.heap.size≤k∨v.ownBlock≠some k):OwnB w' B tB v xs:=by
 refine ⟨h.row.kept g ?_,h.small⟩
 cases e:v.ownBlock with
 | none=>exact .inl rfl
 | some j=>
  refine .inr fun e2=>?_
  rcases hr j e2.symm with h1 | h1
  ·
   have:=(h.row.lt j e).2
   omega
  · exact h1 e
set_option maxRecDepth 100000 in
set_option maxHeartbeats 2000000 in
theorem rSector_any (k ep:Nat) (p:Option Addr) (m c:Nat) (b:List Int) (w:World) (hk:k≤18446744073709551615) (he:ep≤18446744073709551615) (hy:Byt w p m c b) (hm:m≤232) :
  Calls Tryz.prog 48 #[.int .u64 (k:Int),.int .u64 (ep:Int),.slice p m c] w (RetSecX (secL k ep b) w):=by
 have hl:=hy.len;have hz:=zero_sec
 rw [← Sx_zero] at hz
 obtain ⟨Z,hZ⟩:∃ Z,Z=List.replicate 256 (0:Int):=⟨_,rfl⟩
 rw [← hZ] at hz
 obtain ⟨W0,hW0⟩:∃ W0,W0=w.alloc (.cells (sec (Sx Z)) TS):=⟨_,rfl⟩;have H0:Hid (Blk W0 w.heap.size TS (sec (Sx Z))∧Gr w W0∧w.heap.size < W0.heap.size):=Lib.hid (by rw [hW0];exact ⟨Blk.new _ _ _,Gr.new _ _,by simp⟩);have HW0:Hid (w.alloc (.cells (sec (Sx Z)) 46)=W0):=Lib.hid hW0.symm;have HY:=Lib.hid (fun W (g:Gr w W)=>hy.kept g);have HHe:Hid (secL k ep b=headL k ep m++Wd.enc 4 (sumW (headL k ep m++padTo 232 b)).toNat++padTo 232 b):=Lib.hid (by unfold secL;rw [hl]);have HLb:Hid (b.length=m):=Lib.hid hl;have HPad:Hid (padTo 232 b=b++List.replicate (232 - m) 0∧(padTo 232 b).length=232):=Lib.hid ⟨by unfold padTo;rw [hl],by unfold padTo;rw [List.length_append,List.length_replicate];omega⟩;have HL1:=Lib.hid (fun W=>rle_own k 8 W hk (by omega));have HL2:=Lib.hid (fun W=>rle_own ep 8 W he (by omega));have HL3:=Lib.hid (fun W=>rle_own m 4 W (by omega) (by omega))
 have hw1:IntKind.u64.wrap (m:Int)=(m:Int):=by rw [IntKind.wrap_u64];omega
 have HZz:=Lib.hid hz;have HZ:Hid (Z=List.replicate 256 (0:Int)):=Lib.hid hZ;have HKe:=Lib.hid (show k≤18446744073709551615∧ep≤18446744073709551615 from ⟨hk,he⟩);clear hy hl hW0 hZ hk he;obtain ⟨d,hd⟩:∃ d,d=232 - m:=⟨_,rfl⟩
 have hw2:IntKind.i64.wrap (232 - (m:Int))=(d:Int):=by rw [IntKind.wrap_i64];omega
 have hwd:(232:Int) - (m:Int)=(d:Int):=by omega
 rw [← hd] at HPad
 have HD:=Lib.hid (show d+m=232 by omega);have HSc:Hid (Sc w W0.heap.size Z W0):=Lib.hid ⟨H0.out.2.1,H0.out.1,Nat.le_refl _,H0.out.2.2⟩;clear H0 hd
 go_enter Tryz.func48,Tryz.ntmps48
 go_wp2_with fail;rw [HW0.out];refine (HL1.out W0).mono ?_;rintro e W1 ⟨v1,rfl,ho1,g1⟩;have HO1:=Lib.hid ho1;have HS1:=Lib.hid (HSc.out.up g1);clear ho1 g1 hz HSc HL1;go_wp2_with fail;refine (HL2.out W1).mono ?_;rintro e W2 ⟨v2,rfl,ho2,g2⟩;obtain ⟨p2,c2,rfl⟩:=ho2.shape 8 (Wd.enc_length _ _);have HO2:=Lib.hid ho2;have HO12:=Lib.hid (HO1.out.below' g2);have HS2:=Lib.hid (HS1.out.up g2);clear ho2 g2 HO1 HS1 HL2
 go_wp2_with (at_builtin;refine wpList_app_byt bt rfl (.tmp 12) (.tmp 14) rfl W0.heap.size v1 (Wd.enc 8 k) rfl HO12.out p2 8 c2 (Wd.enc 8 ep) rfl HO2.out.byt.1 (by rw [Wd.enc_length];omega) HS2.out.sz ?_;intro v3 W3 ho3 hg3;have HO3:=Lib.hid ho3;have HS3:=Lib.hid (HS2.out.app hg3 (fun k e=>HO12.out.base k e));clear ho3 hg3)
 refine (HL3.out W3).mono ?_;rintro e W4 ⟨v4,rfl,ho4,g4⟩;obtain ⟨p4,c4,rfl⟩:=ho4.shape 4 (Wd.enc_length _ _);have HO4:=Lib.hid ho4;have HO34:=Lib.hid (HO3.out.below' g4);have HS4:=Lib.hid (HS3.out.up g4);clear ho4 g4 HO3 HS3 HL3 HO12 HS2 HO2
 go_wp2_with (at_builtin;first
  | (refine wpList_app_byt bt rfl (.tmp 15) (.tmp 19) rfl W0.heap.size v3 (Wd.enc 8 k++Wd.enc 8 ep) rfl HO34.out p4 4 c4 (Wd.enc 4 m) rfl HO4.out.byt.1 (by rw [List.length_append,Wd.enc_length,Wd.enc_length];omega) HS4.out.sz ?_;intro v5 W5 ho5 hg5;have ho5':OwnB W5 W0.heap.size 5 v5 (headL k ep m):=ho5;obtain ⟨p5,c5,hv5⟩:=ho5'.shape 20 (headL_len _ _ _);subst hv5;have HO5:=Lib.hid ho5';have HS5:=Lib.hid (HS4.out.app hg5 (fun k e=>HO34.out.base k e));have HB5:Hid (W0.heap.size≤W5.heap.size):=Lib.hid HS5.out.sz;have HO5s:Hid (∀ k,(Value.slice p5 20 c5).ownBlock=some k→k < W5.heap.size):=Lib.hid (fun k e=>(HO5.out.row.lt k e).2);clear ho5 ho5' hg5 HO34 HO4 HS4)
  | (refine wpList_app_byt bt rfl (.const (.slice none 0 0)) (.tmp 21) rfl W5.heap.size (.slice none 0 0) [] rfl (OwnB.nil _ _ _) p m c b rfl (HY.out W5 HS5.out.gr) (by simp;omega) (Nat.le_refl _) ?_;intro v6 W6 ho6 hg6;have ho6':OwnB W6 W5.heap.size 5 v6 b:=ho6;have HO6:=Lib.hid ho6';have HS6:=Lib.hid (HS5.out.app hg6 (fun k e=>by simp [Value.ownBlock] at e));have HO56:=Lib.hid (HO5.out.grown hg6 (fun k e=>by simp [Value.ownBlock] at e));have HZ6:=Lib.hid hg6.size;clear ho6 ho6' hg6 HO5 HS5)
  | (refine wpList_app_zeros bt (by kernel_rfl) rfl (.tmp 22) (.tmp 25) rfl W5.heap.size v6 b rfl HO6.out d rfl (by have:=HD.out;have:=HLb.out;omega) HZ6.out ?_;intro v8 W8 ho8 hg8 _;have ho8':OwnB W8 W5.heap.size 5 v8 (padTo 232 b):=HPad.out.1 ▸ ho8;obtain ⟨p8,c8,hv8⟩:=ho8'.shape 232 HPad.out.2;subst hv8;have HO8:=Lib.hid ho8';have HO8s:Hid (∀ k,(Value.slice p8 232 c8).ownBlock=some k→k < W8.heap.size):=Lib.hid (fun k e=>(HO8.out.row.lt k e).2);have HB58:Hid (W5.heap.size≤W8.heap.size):=Lib.hid (Nat.le_trans HZ6.out hg8.size);have HB8:Hid (W0.heap.size≤W8.heap.size):=Lib.hid (Nat.le_trans HB5.out HB58.out);have HS8:=Lib.hid (HS6.out.app hg8 (fun k e=>Nat.le_trans HB5.out (HO6.out.base k e)));have HO58:=Lib.hid (HO56.out.grown hg8 (fun k e=>.inr fun e2=>by have h1:=(HO5s.out _ e2);have h2:=HO6.out.base k e;omega));clear ho8 ho8' hg8 HO6 HS6 HO56)
  | (refine wpList_app_byt bt rfl (.const (.slice none 0 0)) (.tmp 27) rfl W8.heap.size (.slice none 0 0) [] rfl (OwnB.nil _ _ _) p5 20 c5 (headL k ep m) rfl HO58.out.byt.1 (by simp) (Nat.le_refl _) ?_;intro v9 W9 ho9 hg9;have ho9':OwnB W9 W8.heap.size 5 v9 (headL k ep m):=ho9;have HO9:=Lib.hid ho9';have HS9:=Lib.hid (HS8.out.app hg9 (fun k e=>by simp [Value.ownBlock] at e));have HO59:=Lib.hid (HO58.out.grown hg9 (fun k e=>by simp [Value.ownBlock] at e));have HO89:=Lib.hid (HO8.out.grown hg9 (fun k e=>by simp [Value.ownBlock] at e));have HZ9:=Lib.hid hg9.size;clear ho9 ho9' hg9 HO58 HO8 HS8)
  | (refine wpList_app_byt bt rfl (.tmp 28) (.tmp 29) rfl W8.heap.size v9 (headL k ep m) rfl HO9.out p8 232 c8 (padTo 232 b) rfl HO89.out.byt.1 (by rw [headL_len];omega) HZ9.out ?_;intro v10 W10 ho10 hg10;obtain ⟨p10,c10,hv10⟩:=ho10.shape 252 (by rw [List.length_append,headL_len,HPad.out.2]);subst hv10;have HLo:Hid (W8.heap.size≤W10.heap.size):=Lib.hid (Nat.le_trans HZ9.out hg10.size);have HO10:=Lib.hid ho10;have HS10:=Lib.hid (HS9.out.app hg10 (fun k e=>Nat.le_trans HB8.out (HO9.out.base k e)));have HO5t:=Lib.hid (HO59.out.grown hg10 (fun k e=>.inr fun e2=>by have h1:=HO5s.out _ e2;have h2:=HO9.out.base k e;have h3:=HB58.out;omega));have HO8t:=Lib.hid (HO89.out.grown hg10 (fun k e=>.inr fun e2=>by have h1:=HO8s.out _ e2;have h2:=HO9.out.base k e;omega));clear ho10 hg10 HO59 HO89 HO9 HS9))
 refine (refSum_any _ _ _ _ _ HO10.out.byt.1).mono ?_;rintro e w2 ⟨rfl,rfl⟩;obtain ⟨s,hS⟩:∃ s,s=(sumW (headL k ep m++padTo 232 b)).toNat:=⟨_,rfl⟩
 have s1:s < 4294967296:=by rw [hS];exact (sumW (headL k ep m++padTo 232 b)).isLt
 rw [show U (sumW (headL k ep m++padTo 232 b))=(s:Int) by rw [hS];rfl];have HSE:Hid (secL k ep b=headL k ep m++Wd.enc 4 s++padTo 232 b∧(headL k ep m++Wd.enc 4 s++padTo 232 b).length=256):=Lib.hid ⟨by rw [HHe.out,hS],by rw [List.length_append,List.length_append,headL_len,Wd.enc_length,HPad.out.2]⟩;have HW64:Hid (IntKind.u64.wrap (s:Int)=(s:Int)):=Lib.hid (by rw [IntKind.wrap_u64];omega);have HZs:Hid (IsSec Z):=Lib.hid (by rw [HZ.out];exact zeros_sec)
 obtain ⟨b8,o8,rfl,_⟩:=HO8t.out.byt.1.at (by omega)
 obtain ⟨W11,hW11⟩:∃ W11,W11=W10.alloc (.cells (sec (Sx Z)) TS):=⟨_,rfl⟩;have HW11:Hid (W10.alloc (.cells (sec (Sx Z)) 46)=W11):=Lib.hid hW11.symm
 have g11:Gr W10 W11.drew:=by rw [hW11];exact (Gr.new W10 _).drew
 have HS11:=Lib.hid (HS10.out.up g11);have HW10:Hid (w.heap.size < W10.heap.size):=Lib.hid (Nat.lt_of_lt_of_le HS10.out.lt HS10.out.sz);have HO511:=Lib.hid (HO5t.out.below' g11);have HO811:=Lib.hid (HO8t.out.below' g11);have HB11:Hid (Blk W11.drew W10.heap.size TS (sec (Sx Z))∧W10.heap.size < W11.drew.heap.size):=Lib.hid (by rw [hW11];exact ⟨(Blk.new W10 TS (sec (Sx Z))).heap rfl,by simp⟩);have HLE:=Lib.hid (rle_own s 4 W11.drew (by omega) (by omega));clear hS hW11 g11 HS10 HO5t HO8t HO10 HHe;have hz:=HZz.out;go_wp2_with fail;rw [HW11.out];clear hz
 go_region_held3 (fun _=>True) (exact True.intro) (first
  | (refine step_copy_sec rfl (.tmp 32) (.tmp 39) rfl rfl HBd.out HZs.out rfl HOd.out.byt.1 (by omega) (by omega) (by omega) ?_;rw [HLay.out])
  | (refine step_app_byt bt rfl (.tmp 37) (.tmp 38) rfl W0.heap.size v37 (headL k ep m++Wd.enc 4 s) rfl HO37.out _ 232 c8 (padTo 232 b) rfl HO8b.out.byt.1 (by rw [List.length_append,headL_len,Wd.enc_length];omega) HSb.out.sz ?_;intro v39 Wz ho39 hg39;obtain ⟨p39,c39,hv39⟩:=ho39.shape 256 HSE.out.2;subst hv39;have HOd:=Lib.hid ho39;have HSd:=Lib.hid (HSb.out.app hg39 (fun k e=>HO37.out.base k e));have HBd:=Lib.hid (HBb.out.stays (hg39.block _ HBb.out.lt (fun e=>own_not_blk HO37.out.row HBb.out (by decide) e.symm)));have HLay:Hid (lay Z 0 (headL k ep m++Wd.enc 4 s++padTo 232 b)=secL k ep b):=Lib.hid (by rw [HZ.out,lay_zero HSE.out.2,HSE.out.1]);clear ho39 hg39)
  | (refine step_app_byt bt rfl (.tmp 33) (.tmp 36) rfl W0.heap.size _ (headL k ep m) rfl HO5a.out _ 4 c36 (Wd.enc 4 s) rfl HO36.out.byt.1 (by rw [headL_len];omega) HSa.out.sz ?_;intro v37 Wb ho37 hg37;have HO37:=Lib.hid ho37;have HSb:=Lib.hid (HSa.out.app hg37 (fun k e=>HO5a.out.base k e));have HO8b:=Lib.hid (HO8a.out.grown hg37 (fun k e=>.inr fun e2=>by have h1:=HO5s.out _ e;have h2:=HO8a.out.base k e2;omega));have HBb:=Lib.hid (HBa.out.stays (hg37.block _ HBa.out.lt (fun e=>own_not_blk HO5a.out.row HBa.out (by decide) e.symm)));clear ho37 hg37)
  | (go_at_call 68;rw [HW64.out];refine HLE.out.mono ?_;rintro e Wa ⟨v36,rfl,ho36,g36⟩;obtain ⟨p36,c36,rfl⟩:=ho36.shape 4 (Wd.enc_length _ _);obtain ⟨b36,o36,rfl,_⟩:=ho36.byt.1.at (by omega);have HO36:=Lib.hid ho36;have HSa:=Lib.hid (HS11.out.up g36);have HO5a:=Lib.hid (HO511.out.below' g36);have HO8a:=Lib.hid (HO811.out.below' g36);have HBa:=Lib.hid (HB11.out.1.gr g36);clear ho36 g36))
 have HBe:=Lib.hid (HBd.out.row (sec (Sx (secL k ep b))));have HSe:=Lib.hid (HSd.out.s.other (cs':=sec (Sx (secL k ep b))) (Nat.ne_of_lt HW10.out));have HGe:=Lib.hid (below_setRow HSd.out.gr (Nat.le_of_lt HW10.out) (sec (Sx (secL k ep b))))
 go_wp2_with (first | (refine wpList_load_x rfl _ rfl HBe.out rfl ?_) | (refine wpList_store_x rfl _ _ rfl HSe.out rfl rfl ?_))
 exact bodyPost_ret (results_x rfl _ _ _ _ rfl (HSe.out.row _)) rfl ⟨rfl,below_setRow HGe.out (Nat.le_refl _) _⟩
end Go.Proofs.YtlijbgapkmfnaaaGreat
namespace Go.Proofs.YtlijbgapkmfnaaaGreat
namespace Flow
open Go
section
variable {P:Program} {ops:Array Oper} {Q:Exit→Act→World→Prop} {md:Region.Mode}
def StepF (P:Program) (md:Region.Mode) (ops:Array Oper) (Q:Exit→Act→World→Prop) (Sl:Nat→Value→World→Prop) (Inv:(Nat→Bool)→Act→World→Prop) (G:World→World→Prop) (a0:Act) (fl i:Nat) (o:Oper):Prop:=
 ∀ (ℓ:Nat→Bool) a w,Same ops a0 a→ℓ i=false→(∀ j,j≠i→waits md ops i fl j=true→ℓ j=false)→(∀ j,j≠i→waits md ops j fl i=true→ℓ j=true)→Inv ℓ a w→(∀ d,(reads md ops o).contains d=true→Sl d (a.tmps.getD d undef) w) →
  ∀ K:Act→World→Prop,(∀ v w',G w w'→Inv (upd ℓ i) (a.put o.dst v) w'→(∀ d,o.dst=some d→Sl d v w')→K (a.put o.dst v) w') →
   if Region.wanted o (yielded ops a.tmps)=true then o.wp P a w K Q else K (a.put o.dst undef) w
def StepsF (P:Program) (md:Region.Mode) (ops:Array Oper) (Q:Exit→Act→World→Prop) (Sl:Nat→Value→World→Prop) (Inv:(Nat→Bool)→Act→World→Prop) (G:Nat→World→World→Prop) (a0:Act) (fl:Nat):Nat→List Oper→Prop
 | _,[]=>True
 | i,o :: r=>StepF P md ops Q Sl Inv (G i) a0 fl i o∧StepsF P md ops Q Sl Inv G a0 fl (i+1) r
theorem StepsF.cons {Sl:Nat→Value→World→Prop} {Inv:(Nat→Bool)→Act→World→Prop} {G:Nat→World→World→Prop} {a0:Act} {fl i:Nat} {o:Oper} {r:List Oper} (h:StepF P md ops Q Sl Inv (G i) a0 fl i o) (k:StepsF P md ops Q Sl Inv G a0 fl (i+1) r):StepsF P md ops Q Sl Inv G a0 fl i (o :: r):=⟨h,k⟩
theorem StepsF.at {Sl:Nat→Value→World→Prop} {Inv:(Nat→Bool)→Act→World→Prop} {G:Nat→World→World→Prop} {a0:Act} {fl:Nat}:∀ {l:List Oper} {i:Nat},StepsF P md ops Q Sl Inv G a0 fl i l→∀ (j:Nat) (o:Oper),l[j]?=some o→StepF P md ops Q Sl Inv (G (i+j)) a0 fl (i+j) o
 | [],_,_,_,_,h=>by simp at h
 | x :: r,i,h,0,o,ho=>by
  simp only [List.getElem?_cons_zero,Option.some.injEq] at ho
  subst ho;exact h.1
 | x :: r,i,h,j+1,o,ho=>by
  simp only [List.getElem?_cons_succ] at ho
  have:=StepsF.at h.2 j o ho
  rwa [show i+1+j=i+(j+1) by omega] at this
variable {Sl:Nat→Value→World→Prop} {Inv:(Nat→Bool)→Act→World→Prop} {G:Nat→World→World→Prop} {a0:Act}
theorem walkF (keep:List Nat) (fl:Nat) (hmono:∀ i d v w w',bears2 md ops keep fl i d=true→Sl d v w→G i w w'→Sl d v w') (hf:fineB md a0.tmps.size ops=true) (hs:∀ (i:Nat) (o:Oper),ops[i]?=some o→StepF P md ops Q Sl Inv (G i) a0 fl i o)
  (hfin:∀ a w ℓ,Same ops a0 a→(∀ i,i < ops.size→ℓ i=true)→Inv ℓ a w→(∀ (i:Nat) (o:Oper) d,ops[i]?=some o→o.dst=some d→d ∈ keep→Sl d (a.tmps.getD d undef) w)→Q .normal a w) :
  ∀ (fuel:Nat) (listed:Array Bool) (a:Act) (w:World),left listed ops.size≤fuel→listed.size=ops.size→Closed md ops listed→Same ops a0 a→Inv (fun j=>listed.getD j true) a w →
   (∀ (i:Nat) (o:Oper) d,ops[i]?=some o→listed.getD i true=true→o.dst=some d→(d ∈ keep∨∃ (j:Nat) (oj:Oper),ops[j]?=some oj∧listed.getD j true=false∧d ∈ reads md ops oj)→Sl d (a.tmps.getD d undef) w)→wpAny P md ops Q fuel listed a w:=by
 have ends:∀ (listed:Array Bool) (a:Act) (w:World),(∀ i,i < ops.size→listed.getD i true=true)→Same ops a0 a→Inv (fun j=>listed.getD j true) a w →
   (∀ (i:Nat) (o:Oper) d,ops[i]?=some o→listed.getD i true=true→o.dst=some d→(d ∈ keep∨∃ (j:Nat) (oj:Oper),ops[j]?=some oj∧listed.getD j true=false∧d ∈ reads md ops oj)→Sl d (a.tmps.getD d undef) w)→Q .normal a w:=fun listed a w hl hsame hinv hsl=>
  hfin a w _ hsame hl hinv fun i o d ho hd hk=>hsl i o d ho (hl i (Array.getElem?_eq_some_iff.1 ho).1) hd (.inl hk)
 have alls:∀ listed:Array Bool,listed.size=ops.size→Region.ready md ops listed=[]→∀ i,i < ops.size→listed.getD i true=true:=by
  intro listed hsz hr i
  induction i using Nat.strongRecOn with
  | _ i ih=>
   intro hi
   cases hg:listed.getD i true with
   | true=>rfl
   | false=>
    exfalso
    have:i ∈ Region.ready md ops listed:=mem_ready.2 ⟨hg,ops[i],Array.getElem?_eq_getElem hi,fun e he hbd=>by
     have hlt:=fineB_down hf (Array.getElem?_eq_getElem hi) e he hbd;have h1:=ih e.on hlt (by omega)
     have h2:e.on < listed.size:=by omega
     simp only [Array.getD_eq_getD_getElem?,Array.getElem?_eq_getElem h2,Option.getD_some] at h1 ⊢
     exact h1⟩
    rw [hr] at this
    cases this
 intro fuel
 induction fuel with
 | zero=>
  intro listed a w hl hsz hcl hsame hinv hsl
  have hall2:=left_zero (listed:=listed) (n:=ops.size) (by omega);refine ⟨?_,ends listed a w hall2 hsame hinv hsl⟩
  cases hr:Region.ready md ops listed with
  | nil=>rfl
  | cons j r=>
   have hj:j ∈ Region.ready md ops listed:=by rw [hr];exact List.mem_cons_self ..
   obtain ⟨hun,o,ho,_⟩:=mem_ready.1 hj
   rw [hall2 j (Array.getElem?_eq_some_iff.1 ho).1] at hun
   cases hun
 | succ fuel ih=>
  intro listed a w hl hsz hcl hsame hinv hsl
  refine ⟨fun hr=>ends listed a w (alls listed hsz hr) hsame hinv hsl,fun i hi=>?_⟩;obtain ⟨hun,o,ho,hdep⟩:=mem_ready.1 hi;have hib:i < ops.size:=(Array.getElem?_eq_some_iff.1 ho).1
  have flip:∀ j,j < ops.size→listed.getD j false=true→listed.getD j true=true:=fun j hj h=>by
   have h2:j < listed.size:=by omega
   simp only [Array.getD_eq_getD_getElem?,Array.getElem?_eq_getElem h2,Option.getD_some] at h ⊢
   exact h
  have anc:∀ j,waits md ops j fl i=true→j≠i→listed.getD j true=true:=fun j hw hne=>by
   cases fl with
   | zero=>exact absurd (by simpa [waits] using hw) hne
   | succ f=>
    simp only [waits,Bool.or_eq_true] at hw
    rcases hw with hw | hw
    · exact absurd (by simpa using hw) hne
    ·
     rw [ho] at hw
     obtain ⟨k,hk,h2⟩:=Array.any_eq_true.1 hw
     simp only [Bool.and_eq_true] at h2
     have hmem:=Array.getElem_mem hk;have hei:=fineB_down hf ho _ hmem h2.1;exact waits_listed hcl f _ h2.2 (flip _ (by omega) (hdep _ hmem h2.1))
  refine wpOp_step ho fun K hK=>hs i o ho (fun j=>listed.getD j true) a w hsame hun (fun j hne hw=>?_) (fun j hne hw=>anc j hw hne) hinv ?_ K ?_
  ·
   cases hlj:listed.getD j true with
   | false=>rfl
   | true=>rw [waits_listed hcl fl j hw hlj] at hun;cases hun
  ·
   intro d hd
   have hd':d ∈ reads md ops o:=by simpa using hd
   obtain ⟨e,he,hed⟩:=List.mem_filterMap.1 hd';obtain ⟨he1,he3⟩:=List.mem_filter.1 he
   have he2:Region.binds md e=true:=by simp only [Bool.and_eq_true] at he3;exact he3.1
   cases hoe:ops[e.on]? with
   | none=>rw [hoe] at hed;cases hed
   | some oe=>
    rw [hoe] at hed
    have hl1:=hdep e (by simpa using he1) he2;exact hsl e.on oe d hoe (flip _ (Array.getElem?_eq_some_iff.1 hoe).1 hl1) hed (.inr ⟨i,o,ho,hun,hd'⟩)
  ·
   intro v w' hg hinv' hv
   have hset:∀ j,listed.getD j true=true→(listed.setIfInBounds i true).getD j true=true:=fun j h=>by
    by_cases hji:i=j
    ·
     subst hji
     have:i < listed.size:=by omega
     simp [this]
    · rw [getD_set_ne true hji];exact h
   refine hK _ _ (ih (listed.setIfInBounds i true) (a.put o.dst v) w' ?_ (by simpa using hsz) ?_ ⟨(put_defers ..).trans hsame.defers,(put_size ..).trans hsame.size,fun d hd=>?_⟩ ?_ ?_)
   · have:=left_less hun hib;omega
   ·
    intro j oj hoj hlj e he hb
    by_cases hji:i=j
    ·
     subst hji
     rw [ho] at hoj
     cases hoj
     have hei:e.on < ops.size:=by have:=fineB_down hf ho e he hb;omega
     exact hset _ (flip _ hei (hdep e he hb))
    ·
     rw [getD_set_ne true hji] at hlj
     exact hset _ (hcl j oj hoj hlj e he hb)
   · rw [getD_put_other (hd i o ho)];exact hsame.old d hd
   ·
    have e:(fun j=>(listed.setIfInBounds i true).getD j true)=upd (fun j=>listed.getD j true) i:=by
     funext j
     unfold upd
     by_cases hji:j=i
     ·
      subst hji
      have:j < listed.size:=by omega
      simp [this]
     · rw [if_neg hji,getD_set_ne true (Ne.symm hji)]
    rw [e];exact hinv'
   ·
    intro j oj d hoj hlj hdj hlive
    by_cases hji:j=i
    ·
     subst hji
     rw [ho] at hoj
     cases hoj
     have hds:=(fineB_slot hf ho hdj).1;rw [hdj,getD_put_same (by rw [hsame.size];exact hds)];exact hv d hdj
    ·
     rw [getD_put_other (fun e=>hji (fineB_one hf hoj ho hdj e))]
     rw [getD_set_ne true (Ne.symm hji)] at hlj
     have hjb:j < ops.size:=(Array.getElem?_eq_some_iff.1 hoj).1;refine hmono i d _ _ _ ?_ (hsl j oj d hoj hlj hdj ?_) hg
     ·
      unfold bears2
      rw [Bool.and_eq_true]
      constructor
      ·
       refine List.any_eq_true.2 ⟨j,List.mem_range.2 hjb,?_⟩;rw [hoj]
       have hnw:waits md ops i fl j=false:=by
        cases hw:waits md ops i fl j with
        | false=>rfl
        | true=>rw [waits_listed hcl fl j hw hlj] at hun;cases hun
       simp [hdj,hnw]
      ·
       rw [Bool.or_eq_true]
       rcases hlive with hk | ⟨j',oj',hoj',hl',hn'⟩
       · exact .inl (by simpa using hk)
       ·
        right
        have hne:j'≠i:=by
         rintro rfl
         have:j' < listed.size:=by omega
         simp [this] at hl'
        have hnw2:waits md ops j' fl i=false:=by
         cases hw:waits md ops j' fl i with
         | false=>rfl
         | true=>
          exfalso
          have hl3:=anc j' hw hne
          have hlj:listed.getD j' true=false:=by
           cases hlj':listed.getD j' true with
           | false=>rfl
           | true=>rw [hset j' hlj'] at hl';cases hl'
          rw [hl3] at hlj
          cases hlj
        refine List.any_eq_true.2 ⟨j',List.mem_range.2 (Array.getElem?_eq_some_iff.1 hoj').1,?_⟩;rw [hoj']
        simp [hne,hn',hnw2]
     ·
      rcases hlive with hk | ⟨j',oj',hoj',hl',hn'⟩
      · exact .inl hk
      ·
       refine .inr ⟨j',oj',hoj',?_,hn'⟩
       cases hlj':listed.getD j' true with
       | false=>rfl
       | true=>rw [hset j' hlj'] at hl';cases hl'
theorem regionF {id:Nat} {w:World} (keep:List Nat) (fl:Nat) (Sl:Nat→Value→World→Prop) (Inv:(Nat→Bool)→Act→World→Prop) (G:Nat→World→World→Prop) (hm:P.follows .mixedOrders=true) (hf:fineB .any a0.tmps.size ops=true)
  (hmono:∀ i d v w w',bears2 .any ops keep fl i d=true→Sl d v w→G i w w'→Sl d v w') (h0:Inv (fun j=>(Array.replicate ops.size false).getD j true) a0 w.drew) (hs:StepsF P .any ops Q Sl Inv G a0 fl 0 ops.toList)
  (hfin:∀ a w ℓ,Same ops a0 a→(∀ i,i < ops.size→ℓ i=true)→Inv ℓ a w→(∀ (i:Nat) (o:Oper) d,ops[i]?=some o→o.dst=some d→d ∈ keep→Sl d (a.tmps.getD d undef) w)→Q .normal a w) :
  (Code.region id ops true).wp P Q a0 w:=by
 refine wp_region_any hm ?_
 have hun:∀ (i:Nat) (o:Oper),ops[i]?=some o→(Array.replicate ops.size false).getD i true=true→False:=fun i o ho hl=>by
  have hi:i < ops.size:=(Array.getElem?_eq_some_iff.1 ho).1
  simp [hi] at hl
 refine walkF keep fl hmono hf (fun i o ho=>?_) hfin _ _ a0 w.drew ?_ (by simp) (fun j o ho hl=>(hun j o ho hl).elim) ⟨rfl,rfl,fun _ _=>rfl⟩ h0 (fun i o d ho hl _ _=>(hun i o ho hl).elim)
 ·
  have:=hs.at i o (by simpa using ho)
  rwa [Nat.zero_add] at this
 ·
  have:∀ n,left (Array.replicate ops.size false) n≤n:=by
   intro n
   induction n with
   | zero=>exact Nat.le_refl _
   | succ n ih=>simp only [left];split <;> omega
  exact this _
end
end Flow
end Go.Proofs.YtlijbgapkmfnaaaGreat
namespace Go.Proofs.YtlijbgapkmfnaaaGreat
open Go.RowKit
def InV (y z d:Nat) (T:TypeId) (ZS CS:Array Value) (w0:World) (l:Nat→Bool) (a:Act) (W:World):Prop:=
 Gr w0 W∧(l y=true→∃ k,a.tmps.getD d undef=.pointer (some ⟨k,0,none⟩)∧w0.heap.size≤k∧Blk W k T (cond (l z) CS ZS))
section
variable {y z d:Nat} {T:TypeId} {ZS CS:Array Value} {w0 W W':World} {l:Nat→Bool} {a:Act}
theorem InV.start (h:l y=false) (g:Gr w0 W):InV y z d T ZS CS w0 l a W:=⟨g,fun e=>by rw [h] at e;cases e⟩
theorem InV.other (h:InV y z d T ZS CS w0 l a W) (i:Nat) (h1:y≠i) (h2:z≠i) {x:Option Nat} (hx:x≠some d) (v:Value) (g:Gr W W'):InV y z d T ZS CS w0 (Flow.upd l i) (a.put x v) W':=by
 unfold InV
 rw [Flow.upd_other l h1,Flow.upd_other l h2,Flow.getD_put_other hx];refine ⟨Gr.trans h.1 g,fun e=>?_⟩;obtain ⟨k,hk1,hk2,hk3⟩:=h.2 e;exact ⟨k,hk1,hk2,hk3.gr g⟩
theorem InV.alloc (h:InV y z d T ZS CS w0 l a W) (hyz:z≠y) (hz:l z=false) (hd:d < a.tmps.size):InV y z d T ZS CS w0 (Flow.upd l y) (a.put (some d) (.pointer (some ⟨W.heap.size,0,none⟩))) (W.alloc (.cells ZS T)):=by
 unfold InV
 rw [Flow.upd_other l hyz,hz,Flow.getD_put_same hd];exact ⟨Gr.trans h.1 ((Gr.refl W).alloc (Nat.le_refl _) _),fun _=>⟨W.heap.size,rfl,h.1.size,Blk.new _ _ _⟩⟩
theorem InV.store (h:InV y z d T ZS CS w0 l a W) (hyz:y≠z) {k:Nat} (hk:a.tmps.getD d undef=.pointer (some ⟨k,0,none⟩)) (hw:w0.heap.size≤k) {x:Option Nat} (hx:x≠some d) (v:Value) (hb:Blk W' k T CS) (hg:Below w0.heap.size w0 W'):InV y z d T ZS CS w0 (Flow.upd l z) (a.put x v) W':=by
 unfold InV
 rw [Flow.upd_other l hyz,Flow.upd_same,Flow.getD_put_other hx];exact ⟨hg,fun _=>⟨k,hk,hw,hb⟩⟩
theorem InV.post (h:InV y z d T ZS CS w0 l a W) (hy:l y=true) (hz:l z=true):Gr w0 W∧∃ k,a.tmps.getD d undef=.pointer (some ⟨k,0,none⟩)∧w0.heap.size≤k∧Blk W k T CS:=by
 obtain ⟨k,h1,h2,h3⟩:=h.2 hy
 rw [hz] at h3
 exact ⟨h.1,k,h1,h2,h3⟩
end
end Go.Proofs.YtlijbgapkmfnaaaGreat
