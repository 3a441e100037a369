/-
  Part 10 of what the laws of stage 6 rest on: contracts of the functions that they call, and what these rest on.
-/
import Derived.Deep.DeepCutAuto
import Derived.Deep.CutBlock
import Derived.Maps.AppendAt
import Derived.Test.YtlijbgapkmfnaaaGreatW1
import Derived.Test.YtlijbgapkmfnaaaGreatW3
import Derived.Test.YtlijbgapkmfnaaaGreatW8
import Derived.Test.YtlijbgapkmfnaaaGreatW9
set_option linter.unusedVariables false
set_option linter.unusedSimpArgs false
namespace Go.Proofs.YtlijbgapkmfnaaaGreat
open Go.RowKit Go.Maps
theorem cut_lh {p:Option Addr} {n c:Nat} (l k:Nat) (h1:l≤k) (h2:k≤n) (hc:n≤c):∃ q,(∀ w,(Instr.slice TBs (.slice p n c) (some (.int .i64 (l:Int))) (some (.int .i64 (k:Int))) none).run Tryz.prog w=.ok (.slice q (k - l) (c - l)) w)∧CutOf p n c l k (c - l) q:=
 ⟨_,fun w=>by
  rw [run_slice_lh w TBs p n c under_bs .i64 .i64 (l:Int) (k:Int) (by omega) (by omega) (by omega),size_bs]
  rfl,⟨fun W xs h=>h.cut l k c h1 h2 (by omega) (Nat.le_refl _),blk_cut⟩⟩
structure FlD (w:World) (G0:Nat→Prop) (b:Nat) (p:Value) (q:Option Addr) (m c fr:Nat) (ys:List Int) (L:Lg) (s:St) (G:Nat→Prop) (W:World):Prop where
 rf:Rf W G p s
 rl:RlAt W b p q m c fr ys L
 ap:∀ k,G k→¬ lgS b q k
 upd:Upd (wlS G0 b q) (wlS G b q) w W
section
variable {w:World} {G0 G G':Nat→Prop} {b:Nat} {p:Value} {q:Option Addr} {m c fr:Nat} {ys:List Int} {L L':Lg} {s s':St} {W W':World}
theorem FlD.gr (h:FlD w G0 b p q m c fr ys L s G W) (g:Gr W W'):FlD w G0 b p q m c fr ys L s G W':=⟨h.rf.gr g,h.rl.gr g,h.ap,h.upd.comp (Upd.of_gr g)⟩
theorem RlAt.stays (h:RlAt W b p q m c fr ys L) (e:∀ k,lgS b q k→W'.heap[k]?=W.heap[k]?) (hs:W.heap.size≤W'.heap.size):RlAt W' b p q m c fr ys L:=
 ⟨h.blk.stays (e b (.inl rfl)),h.txt.stays (fun y hy=>e _ (.inr ⟨y,hy,rfl⟩)),h.apart,fun k hk=>Nat.lt_of_lt_of_le (h.low k hk) hs,h.nought,h.le,h.tl,h.ends,h.len⟩
theorem FlD.write (h:FlD w G0 b p q m c fr ys L s G W) (hd:Rf W' G' p s') (hu:Upd G G' W W'):FlD w G0 b p q m c fr ys L s' G' W':=by
 obtain ⟨h1,h2⟩:=hu.other h.rl.low h.ap;exact ⟨hd,h.rl.stays h1 hu.size,h2,h.upd.comp ⟨hu.os,hu.tape,hu.output,hu.size,fun k hk hn=>hu.block k hk (fun e=>hn (.inl e)),fun k hk=>hk.elim (fun e=>(hu.fresh k e).imp .inl id) (fun e=>.inl (.inr e))⟩⟩
theorem FlD.cell (h:FlD w G0 b p q m c fr ys L s G W) (i:Nat) (u:Value) (hr:RlAt (W.setCell ⟨b,i,none⟩ u) b p q m c fr ys L'):FlD w G0 b p q m c fr ys L' s G (W.setCell ⟨b,i,none⟩ u):=by
 have ho:=Only.cell b i W u;exact ⟨h.rf.stays (fun k hk=>ho.block k (fun e=>h.ap k hk (.inl e))) (Nat.le_of_eq ho.size.symm),hr,h.ap,h.upd.comp (Upd.cell (.inr (.inl rfl)) W u)⟩
theorem FlD.begun (h:FlD w G0 b p q m c fr ys L s G W):FlD w G0 b p q m c fr ys { L with begun:=true } s G (W.setCell ⟨b,8,none⟩ (.bool true)):=
 h.cell 8 _ (h.rl.set (Only.cell b 8 W _) { L with begun:=true } (h.rl.blk.set 8 _) rfl rfl h.rl.tl)
theorem FlD.done (h:FlD w G0 b p q m c fr ys L s G W) (ok:L.Ok):FlD w G0 b p q m c fr ys L.done s G (W.setCell ⟨b,6,none⟩ (.int .u64 (L.fin:Int))):=by
 refine h.cell 6 _ ?_;have ho:=Only.cell b 6 W (.int .u64 (L.fin:Int));have hd:=ok.done;have hn:=ok.near;have hle:=h.rl.le;have e0:L.fin=L.lasts - L.lasts % 232+L.txt.length:=rfl;refine ⟨h.rl.blk.set 6 _,h.rl.txt.stays (fun y hy=>ho.block _ (h.rl.apart y hy)),h.rl.apart,fun k hk=>by rw [ho.size];exact h.rl.low k hk,h.rl.nought,?_,h.rl.tl,?_,by rw [hd.2.1];exact h.rl.len⟩
 ·
  show fr≤L.fin - L.fin % 232
  omega
 ·
  show ys.drop (L.fin - L.fin % 232 - fr)=L.txt.drop (L.txt.length - L.fin % 232)
  have h1:=h.rl.ends
  have h2:L.txt.drop (L.txt.length - L.fin % 232)=(ys.drop (L.lasts - L.lasts % 232 - fr)).drop (L.txt.length - L.fin % 232):=by rw [h1]
  rw [h2,List.drop_drop]
  congr 1
  have:=hd.2.2
  omega
end
theorem rl_chunk {ys txt:List Int} {f la fr a t:Nat} (he:ys.drop (la - la % 232 - fr)=txt) (hf:f=la - la % 232 - fr+a) (ht:t=min (f+232) ys.length):(ys.take t).drop f=(txt.drop a).take 232:=by
 subst he;rw [List.drop_drop,← hf,List.drop_take]
 rcases Nat.le_total (f+232) ys.length with h | h
 · rw [show t - f=232 by omega]
 · rw [List.take_of_length_le (by rw [List.length_drop];omega),List.take_of_length_le (by rw [List.length_drop];omega)]
theorem rl_first {ys txt:List Int} {f la fr t:Nat} (he:ys.drop (la - la % 232 - fr)=txt) (hf:f=la - la % 232 - fr) (ht:t=la - fr) (hle:fr≤la - la % 232):(ys.take t).drop f=txt.take (la % 232):=by
 subst he;rw [← hf,List.drop_take]
 congr 1
 omega
def RetWr (v:Value) (s':St) (fr:Nat) (ys:List Int) (L':Lg) (G:Nat→Prop) (b:Nat) (p:Value) (q:Option Addr) (m c:Nat) (w:World) (e:Ending) (w':World):Prop:=
 e=.returned v∧∃ G',FlD w G b p q m c fr ys L' s' G' w'
structure StW (s0:St) (k:Nat) (s:St):Prop where
 len:s.ls.length=s0.ls.length
 less:∀ i,(s.t i).length≤s.writes
 wr:s.writes≤s0.writes+k
theorem StW.wrote {s0 s:St} {k:Nat} (h:StW s0 k s) (i:Nat) (x:Sec):StW s0 (k+1) (s.wrote i x):=by
 refine ⟨h.len,fun j=>?_,by have:=h.wr;show s.writes+1≤_;omega⟩
 show (if j=i then s.t i++[x] else s.t j).length≤s.writes+1
 split
 · have:=h.less i;rw [List.length_append];simp;omega
 · have:=h.less j;omega
theorem StW.barrier {s0 s:St} {k:Nat} (h:StW s0 k s):StW s0 k s.barrier:=
 ⟨by rw [← h.len];simp [St.barrier],fun _=>Nat.zero_le _,h.wr⟩
theorem beg_facts (s:St) (L:Lg):(L.begun=true→begE s L=0∧begS s L=s∧begL s L=L)∧(L.begun=false→s.refuses→begE s L=8∧begS s L={ s with dead:=true }∧begL s L=L) ∧
  (L.begun=false→¬ s.refuses→begE s L=0∧begS s L=(s.wrote (begI L) (begX L)).barrier∧begL s L={ L with begun:=true }):=by
 refine ⟨fun h=>?_,fun h hr=>?_,fun h hr=>?_⟩
 · unfold begE begS begL;simp [h]
 · unfold begE begS begL putDE putD;simp [h,hr]
 ·
  have hd:=putD_alive (i:=begI L) (x:=begX L) hr
  have e1:putD s (begI L) (begX L)=s.wrote (begI L) (begX L):=by unfold putD;rw [if_neg hr]
  rw [e1] at hd
  refine ⟨by unfold begE putDE;rw [h,if_neg (by simp),if_neg hr],?_,by unfold begL;rw [h,if_neg (by simp),if_neg hr]⟩
  unfold begS
  rw [h,if_neg (by simp),if_neg hr,e1]
  unfold BaS
  rw [hd.1]
  rfl
theorem refPut_all {G:Nat→Prop} {p:Value} {s:St} (w:World) (h:Rf w G p s) (i:Nat) (hi:i < s.ls.length) (x:Sec) (hw:s.writes≤1000000000) (hl:(s.t i).length≤1000000000):Calls Tryz.prog 14 #[p,.int .i64 (i:Int),.agg (sec x)] w fun e w'=>ChgR G p (putD s i x) (.bool (!decide s.refuses)) w e w':=by
 unfold putD
 by_cases hr:s.refuses
 · rw [if_pos hr,decide_eq_true hr];exact refWrite_dead w h i x hr
 · rw [if_neg hr,decide_eq_false hr];exact refWrite_yes w h i hi x hr hw hl
def SlFa (b:Nat) (p:Value) (N:Nat) (ep:Nat) (fr:Nat) (q:Option Addr) (m:Nat) (c:Nat) (La:Nat) (J:Nat) (M:Nat) (I:Nat) (KB:Nat) (F1:Nat) (T1:Nat) (q2:Option Addr) (m2:Nat) (c2:Nat) (S:Sec) (slot:Nat) (v:Value) (_:World):Prop:=
 match slot with
 | 29=>v=.pointer (some ⟨b,0,none⟩)
 | 30=>v=.pointer (some ⟨b,0,none⟩)
 | 31=>v=.pointer (some ⟨b,0,none⟩)
 | 32=>v=p
 | 33=>v=.int .u64 (J:Int)
 | 34=>v=.pointer (some ⟨b,0,none⟩)
 | 35=>v=.pointer (some ⟨b,0,none⟩)
 | 36=>v=.pointer (some ⟨b,1,none⟩)
 | 37=>v=.int .i64 (N:Int)
 | 38=>v=.int .u64 (N:Int)
 | 39=>v=.int .u64 (M:Int)
 | 40=>v=.int .i64 (M:Int)
 | 41=>v=.int .i64 (I:Int)
 | 42=>v=.int .u64 (J:Int)
 | 43=>v=.pointer (some ⟨b,0,none⟩)
 | 44=>v=.pointer (some ⟨b,0,none⟩)
 | 45=>v=.pointer (some ⟨b,2,none⟩)
 | 46=>v=.int .u64 (ep:Int)
 | 47=>v=.pointer (some ⟨b,0,none⟩)
 | 48=>v=.pointer (some ⟨b,0,none⟩)
 | 49=>v=.pointer (some ⟨b,5,none⟩)
 | 50=>v=.slice q m c
 | 51=>v=.int .u64 (J:Int)
 | 52=>v=.int .u64 (KB:Int)
 | 53=>v=.pointer (some ⟨b,0,none⟩)
 | 54=>v=.pointer (some ⟨b,0,none⟩)
 | 55=>v=.pointer (some ⟨b,4,none⟩)
 | 56=>v=.int .u64 (fr:Int)
 | 57=>v=.int .u64 (F1:Int)
 | 58=>v=.int .i64 (F1:Int)
 | 59=>v=.pointer (some ⟨b,0,none⟩)
 | 60=>v=.pointer (some ⟨b,0,none⟩)
 | 61=>v=.pointer (some ⟨b,6,none⟩)
 | 62=>v=.int .u64 (La:Int)
 | 63=>v=.pointer (some ⟨b,0,none⟩)
 | 64=>v=.pointer (some ⟨b,0,none⟩)
 | 65=>v=.pointer (some ⟨b,4,none⟩)
 | 66=>v=.int .u64 (fr:Int)
 | 67=>v=.int .u64 (T1:Int)
 | 68=>v=.int .i64 (T1:Int)
 | 69=>v=.slice q2 m2 c2
 | 70=>v=.agg (sec S)
 | 71=>v=.bool false
 | 72=>v=.bool true
 | 73=>v=.bool true
 | 80=>v=.bool true
 | _=>True
def SlFb (b:Nat) (p:Value) (N:Nat) (ep:Nat) (fr:Nat) (q:Option Addr) (m:Nat) (c:Nat) (La:Nat) (J:Nat) (M:Nat) (I:Nat) (KB:Nat) (F1:Nat) (T1:Nat) (q2:Option Addr) (m2:Nat) (c2:Nat) (S:Sec) (slot:Nat) (v:Value) (_:World):Prop:=
 match slot with
 | 29=>v=.pointer (some ⟨b,0,none⟩)
 | 30=>v=.pointer (some ⟨b,0,none⟩)
 | 31=>v=.pointer (some ⟨b,0,none⟩)
 | 32=>v=p
 | 33=>v=.int .u64 (J:Int)
 | 34=>v=.pointer (some ⟨b,0,none⟩)
 | 35=>v=.pointer (some ⟨b,0,none⟩)
 | 36=>v=.pointer (some ⟨b,1,none⟩)
 | 37=>v=.int .i64 (N:Int)
 | 38=>v=.int .u64 (N:Int)
 | 39=>v=.int .u64 (M:Int)
 | 40=>v=.int .i64 (M:Int)
 | 41=>v=.int .i64 (I:Int)
 | 42=>v=.int .u64 (J:Int)
 | 43=>v=.pointer (some ⟨b,0,none⟩)
 | 44=>v=.pointer (some ⟨b,0,none⟩)
 | 45=>v=.pointer (some ⟨b,2,none⟩)
 | 46=>v=.int .u64 (ep:Int)
 | 47=>v=.pointer (some ⟨b,0,none⟩)
 | 48=>v=.pointer (some ⟨b,0,none⟩)
 | 49=>v=.pointer (some ⟨b,5,none⟩)
 | 50=>v=.slice q m c
 | 51=>v=.int .u64 (J:Int)
 | 52=>v=.int .u64 (KB:Int)
 | 53=>v=.pointer (some ⟨b,0,none⟩)
 | 54=>v=.pointer (some ⟨b,0,none⟩)
 | 55=>v=.pointer (some ⟨b,4,none⟩)
 | 56=>v=.int .u64 (fr:Int)
 | 57=>v=.int .u64 (F1:Int)
 | 58=>v=.int .i64 (F1:Int)
 | 59=>v=.pointer (some ⟨b,0,none⟩)
 | 60=>v=.pointer (some ⟨b,0,none⟩)
 | 61=>v=.pointer (some ⟨b,6,none⟩)
 | 62=>v=.int .u64 (La:Int)
 | 63=>v=.pointer (some ⟨b,0,none⟩)
 | 64=>v=.pointer (some ⟨b,0,none⟩)
 | 65=>v=.pointer (some ⟨b,4,none⟩)
 | 66=>v=.int .u64 (fr:Int)
 | 67=>v=.int .u64 (T1:Int)
 | 68=>v=.int .i64 (T1:Int)
 | 69=>v=.slice q2 m2 c2
 | 70=>v=.agg (sec S)
 | 71=>v=.bool true
 | 72=>v=.bool false
 | 73=>v=.bool false
 | 74=>v=.pointer (some ⟨b,0,none⟩)
 | 75=>v=.pointer (some ⟨b,0,none⟩)
 | 76=>v=.pointer (some ⟨b,0,none⟩)
 | 77=>v=p
 | 78=>v=.bool true
 | 79=>v=.bool false
 | 80=>v=.bool false
 | _=>True
def SlFc (b:Nat) (p:Value) (N:Nat) (ep:Nat) (q:Option Addr) (m:Nat) (c:Nat) (J:Nat) (M:Nat) (I:Nat) (F1:Nat) (T1:Nat) (q2:Option Addr) (m2:Nat) (c2:Nat) (S:Sec) (B1:Bool) (slot:Nat) (v:Value) (_:World):Prop:=
 match slot with
 | 118=>v=.pointer (some ⟨b,0,none⟩)
 | 119=>v=.pointer (some ⟨b,0,none⟩)
 | 120=>v=.pointer (some ⟨b,0,none⟩)
 | 121=>v=p
 | 122=>v=.int .u64 (J:Int)
 | 123=>v=.pointer (some ⟨b,0,none⟩)
 | 124=>v=.pointer (some ⟨b,0,none⟩)
 | 125=>v=.pointer (some ⟨b,1,none⟩)
 | 126=>v=.int .i64 (N:Int)
 | 127=>v=.int .u64 (N:Int)
 | 128=>v=.int .u64 (M:Int)
 | 129=>v=.int .i64 (M:Int)
 | 130=>v=.int .i64 (I:Int)
 | 131=>v=.int .u64 (J:Int)
 | 132=>v=.pointer (some ⟨b,0,none⟩)
 | 133=>v=.pointer (some ⟨b,0,none⟩)
 | 134=>v=.pointer (some ⟨b,2,none⟩)
 | 135=>v=.int .u64 (ep:Int)
 | 136=>v=.pointer (some ⟨b,0,none⟩)
 | 137=>v=.pointer (some ⟨b,0,none⟩)
 | 138=>v=.pointer (some ⟨b,5,none⟩)
 | 139=>v=.slice q m c
 | 140=>v=.int .i64 (F1:Int)
 | 141=>v=.int .i64 (T1:Int)
 | 142=>v=.slice q2 m2 c2
 | 143=>v=.agg (sec S)
 | 144=>v=.bool B1
 | 145=>v=.bool (!B1)
 | _=>True
set_option maxRecDepth 100000 in
set_option maxHeartbeats 1000000 in
theorem rFlush_any {G:Nat→Prop} {b:Nat} {p:Value} {q:Option Addr} {m c fr:Nat} {ys:List Int} {s:St} {L:Lg} (w:World) (hf:Rf w G p s) (h:RlAt w b p q m c fr ys L) (hap:∀ k,G k→¬ lgS b q k) (ok:L.Ok) (hn:3+L.l≤s.ls.length) (hw:s.writes≤800000000) (hless:∀ i,(s.t i).length≤s.writes) (u:Nat) (hu:u≤18446744073709551615) :
  Calls Tryz.prog 24 #[.pointer (some ⟨b,0,none⟩),.int .u64 (u:Int)] w (RetWr (.int .i64 (flE s L u)) (flS s L u) fr ys (flL s L u) G b p q m c w):=by
 have HD:Hid (FlD w G b p q m c fr ys L s G w):=Lib.hid ⟨hf,h,hap,Upd.of_gr (Gr.refl w)⟩;have HE:=Lib.hid (h.End ok);obtain ⟨Fn,hF⟩:∃ Fn,Fn=L.fin:=⟨_,rfl⟩;obtain ⟨La,hLa⟩:∃ La,La=L.lasts:=⟨_,rfl⟩
 rw [← hF] at HE
 by_cases h1:Fn < u
 ·
  have g1:(Fn:Int) < (u:Int):=by omega
  have HZ:Hid (flE s L u=2∧flS s L u=s∧flL s L u=L):=Lib.hid (by
   have h1':L.fin < u:=by omega
   unfold flE flS flL;simp [h1'])
  clear h hF hLa h1 hf hap ok hless hn hw hu
  go_enter Tryz.func24,Tryz.ntmps24
  go_wp2_with fail;refine HE.out.mono ?_;rintro e w1 ⟨rfl,g⟩;have HG:=Lib.hid g;clear g HE;go_wp2_with fail
  go_ret
  rw [HZ.out.1,HZ.out.2.1,HZ.out.2.2];exact ⟨rfl,G,HD.out.gr HG.out⟩
 ·
  have g1:¬ (Fn:Int) < (u:Int):=by omega
  by_cases h2:u≤La
  ·
   have g2:(u:Int)≤(La:Int):=by omega
   have HZ:Hid (flE s L u=0∧flS s L u=s∧flL s L u=L):=Lib.hid (by
    have h1':¬ L.fin < u:=by omega
    have h2':u≤L.lasts:=by omega
    unfold flE flS flL;simp [h1',h2'])
   have HLa:=Lib.hid hLa;clear h hF hLa h1 h2 hf hap ok hless hn hw hu
   go_enter Tryz.func24,Tryz.ntmps24
   go_wp2_with fail;refine HE.out.mono ?_;rintro e w1 ⟨rfl,g⟩;have HG:=Lib.hid g;have c6:=(HD.out.gr g).rl.blk.c9.2.2.2.2.2.2.1
   rw [← HLa.out] at c6
   clear g HE;go_wp2_with fail
   go_ret
   rw [HZ.out.1,HZ.out.2.1,HZ.out.2.2];exact ⟨rfl,G,HD.out.gr HG.out⟩
  ·
   have g2:¬ (u:Int)≤(La:Int):=by omega
   have h1':¬ L.fin < u:=by omega
   have h2':¬ u≤L.lasts:=by omega
   have HZ:Hid (begE s L≠0→flE s L u=begE s L∧flS s L u=begS s L∧flL s L u=begL s L):=Lib.hid fun he=>by
    unfold flE flS flL
    rw [if_neg h1',if_neg h2',if_pos he,if_neg h1',if_neg h2',if_pos he,if_neg h1',if_neg h2',if_pos he];exact ⟨rfl,rfl,rfl⟩
   have HZ2:Hid (begE s L=0→flE s L u=(wrAll (begL s L) (chN L.txt.length) 0 (begS s L)).2∧flS s L u=(wrAll (begL s L) (chN L.txt.length) 0 (begS s L)).1∧flL s L u=if (wrAll (begL s L) (chN L.txt.length) 0 (begS s L)).2≠0 then begL s L else (begL s L).done):=Lib.hid fun he=>by
    unfold flE flS flL
    rw [if_neg h1',if_neg h2',if_neg (fun e=>e he),if_neg h1',if_neg h2',if_neg (fun e=>e he),if_neg h1',if_neg h2',if_neg (fun e=>e he)];exact ⟨rfl,rfl,rfl⟩
   have HBF:=Lib.hid (beg_facts s L);have HBL:=Lib.hid (begL_ok (s:=s) ok);have HW0:Hid (StW s 0 s):=Lib.hid ⟨rfl,hless,Nat.le_refl _⟩;obtain ⟨N,hN⟩:∃ N:Nat,N=L.l.toNat:=⟨_,rfl⟩;obtain ⟨ep,hep⟩:∃ ep,ep=L.epoch:=⟨_,rfl⟩;obtain ⟨tl,htl⟩:∃ tl,tl=L.tail:=⟨_,rfl⟩;obtain ⟨rs,hrs⟩:∃ rs,rs=L.rsv:=⟨_,rfl⟩;obtain ⟨K0,hK0⟩:∃ K0,K0=La / 232:=⟨_,rfl⟩;have hl1:=ok.l1
   have hNl:(N:Int)=L.l:=by omega
   have hmost:=ok.most;have hnear:=ok.near;have hlen:=ok.len;have hml:=h.mlen;have hle:=h.le;have hlen2:=h.len;have hmm:=h.txt.1.len;have hcap:=h.txt.1.cap;have hcm:=h.txt.1.most
   have HNum:Hid (16≤N∧N≤256∧ep≤4611686018427387904∧Fn≤9000000000000000000∧La≤Fn∧fr≤232*K0∧fr+m=Fn∧K0=La / 232∧Fn=232*K0+L.txt.length∧ys.length=m∧m≤c∧3+N≤s.ls.length∧s.writes≤800000000∧L.txt.length≤100300):=Lib.hid (by
    have e1:=ok.e1;have e0:L.fin=L.lasts - L.lasts % 232+L.txt.length:=rfl
    have e5:L.lasts - L.lasts % 232=232*K0:=by omega
    exact ⟨by omega,by omega,by omega,by omega,by omega,by omega,by omega,hK0,by omega,by omega,hcap,by omega,hw,by omega⟩)
   have HL:Hid (Fn=L.fin∧La=L.lasts∧N=L.l.toNat∧ep=L.epoch∧(N:Int)=L.l):=Lib.hid ⟨hF,hLa,hN,hep,hNl⟩;have HOK:=Lib.hid ok
   have hqd:(La:Int) / 232=(K0:Int):=by omega
   have HCells:Hid (∀ W bg (L2:Lg),L2.l=L.l→L2.epoch=L.epoch→L2.tail=L.tail→L2.lasts=L.lasts→L2.rsv=L.rsv→L2.begun=bg→RlAt W b p q m c fr ys L2→Blk W b TLr #[p,.int .i64 (N:Int),.int .u64 (ep:Int),.int .u64 (tl:Int),.int .u64 (fr:Int),.slice q m c,.int .u64 (La:Int),.int .i64 rs,.bool bg]):=Lib.hid fun W bg L2 e1 e2 e3 e4 e5 e6 hr=>by
    have:=hr.blk
    rw [e1,e2,e3,e4,e5,e6,← hNl,← hep,← htl,← hLa,← hrs] at this
    exact this
   clear h hF hLa h1 h2 h1' h2' hf hap ok hless hn hw hu hN hep htl hrs hK0 hl1 hNl hmost hnear hlen hml hle hlen2 hmm hcap hcm
   go_enter Tryz.func24,Tryz.ntmps24
   go_wp2_with fail;refine HE.out.mono ?_;rintro e W0 ⟨rfl,g⟩;have HD0:=Lib.hid (HD.out.gr g);clear g HE HD;obtain ⟨bg,hbg⟩:∃ bg,bg=L.begun:=⟨_,rfl⟩;have HBg:=Lib.hid hbg
   have HBk:Hid (∀ W,Gr W0 W→Blk W b TLr #[p,.int .i64 (N:Int),.int .u64 (ep:Int),.int .u64 (tl:Int),.int .u64 (fr:Int),.slice q m c,.int .u64 (La:Int),.int .i64 rs,.bool bg]):=Lib.hid fun W g=>HCells.out W bg L rfl rfl rfl rfl rfl hbg.symm (HD0.out.gr g).rl
   clear hbg;obtain ⟨c0,c1,c2,c3,c4,c5,c6,c7,c8⟩:=(HBk.out W0 (Gr.refl _)).c9;clear c0 c1 c2 c3 c4 c5 c7
   go_upto_if 23 with fail
   go_cut [5] from 24 to 83 (fun s5 wc=>Hid (begE s L=0∧(∃ G1,FlD w G b p q m c fr ys (begL s L) (begS s L) G1 wc)∧StW s 1 (begS s L)∧begL s L={ L with begun:=true }))
   case first=>
    cases bg with
    | true=>
     go_wp2_with fail
     go_meet
     refine Lib.hid ?_;have hb:=HBF.out.1 HBg.out.symm;rw [hb.1,hb.2.1,hb.2.2];refine ⟨rfl,⟨G,HD0.out⟩,⟨rfl,HW0.out.less,Nat.le_succ _⟩,?_⟩;have:=HBg.out
     cases L
     simp at this ⊢
     exact this
    | false=>
     obtain ⟨J,hK⟩:∃ J,J=K0:=⟨_,rfl⟩
     have hqd2:(La:Int) / 232=(J:Int):=by rw [hK];exact hqd
     have hqw:IntKind.u64.wrap (J:Int)=(J:Int):=by have:=HNum.out;rw [IntKind.wrap_u64];omega
     clear hqd;obtain ⟨M,hM⟩:∃ M,M=J % N:=⟨_,rfl⟩;obtain ⟨I,hI⟩:∃ I,I=3+M:=⟨_,rfl⟩;obtain ⟨KB,hKB⟩:∃ KB,KB=J*232:=⟨_,rfl⟩;obtain ⟨F1,hF1⟩:∃ F1,F1=KB - fr:=⟨_,rfl⟩;obtain ⟨T1,hT1⟩:∃ T1,T1=La - fr:=⟨_,rfl⟩;obtain ⟨m2,hm2⟩:∃ m2,m2=T1 - F1:=⟨_,rfl⟩;obtain ⟨c2,hc2⟩:∃ c2,c2=c - F1:=⟨_,rfl⟩;have hnum:=HNum.out
     have hMn:M < N:=by rw [hM];exact Nat.mod_lt _ (by omega)
     obtain ⟨q2,hcut,hof⟩:=cut_lh (p:=q) (n:=m) (c:=c) F1 T1 (by omega) (by omega) (by omega)
     rw [← hm2,← hc2] at hcut
     rw [← hc2] at hof
     have HCut:=Lib.hid hcut
     have HQ:Hid (IntKind.u64.wrap (N:Int)=(N:Int)∧¬ N=0∧(J:Int).tmod (N:Int)=(M:Int)∧IntKind.i64.wrap (M:Int)=(M:Int)∧IntKind.i64.wrap (3+(M:Int))=(I:Int)∧IntKind.u64.wrap ((J:Int)*232)=(KB:Int)∧IntKind.u64.wrap ((KB:Int) - (fr:Int))=(F1:Int)∧IntKind.i64.wrap (F1:Int)=(F1:Int)∧IntKind.u64.wrap ((La:Int) - (fr:Int))=(T1:Int)∧IntKind.i64.wrap (T1:Int)=(T1:Int)):=Lib.hid (by
      refine ⟨by rw [IntKind.wrap_u64];omega,by omega,by rw [hM,Int.tmod_eq_emod_of_nonneg (by omega)];exact (Int.natCast_emod _ _).symm,IntWalk.i64_in _ (by omega),by rw [IntWalk.i64_in _ (by omega)];omega,by rw [IntKind.wrap_u64];omega,by rw [IntKind.wrap_u64];omega,IntWalk.i64_in _ (by omega),by rw [IntKind.wrap_u64];omega,IntWalk.i64_in _ (by omega)⟩)
     have HQM:Hid (IntKind.u64.wrap (M:Int)=(M:Int)):=Lib.hid (by rw [IntKind.wrap_u64];omega);obtain ⟨S,hS⟩:∃ S,S=begX L:=⟨_,rfl⟩;have hl:=HL.out
     have hSe:S=Sx (secL J ep (L.txt.take (La % 232))):=by rw [hS];unfold begX;rw [← hl.2.1,← hl.2.2.2.1,hK,hnum.2.2.2.2.2.2.2.1]
     have hIb:begI L=I:=by unfold begI;rw [← hl.2.1,← hl.2.2.1,hI,hM,hK,hnum.2.2.2.2.2.2.2.1]
     have HSe:Hid (∀ W,Gr W0 W→Calls Tryz.prog 48 #[.int .u64 (J:Int),.int .u64 (ep:Int),.slice q2 m2 c2] W fun e w'=>e=.returned (.agg (sec S))∧Gr W w'):=Lib.hid fun W g=>by
      have hr:=(HD0.out.gr g).rl;have hy:=hof.byt W ys hr.txt.1
      rw [rl_first (la:=La) (fr:=fr) (txt:=L.txt) (by rw [hl.2.1];exact hr.ends) (by omega) hT1 (by omega),← hm2] at hy
      rw [hSe];exact rSector_any J ep q2 m2 c2 _ W (by omega) (by omega) hy (by omega)
     obtain ⟨i1,hi1⟩:∃ i1,i1=I:=⟨_,rfl⟩
     by_cases hr:s.refuses
     ·
      have hb:=HBF.out.2.1 HBg.out.symm hr
      obtain ⟨Fin,hFin⟩:∃ Fin:World→Prop,Fin=fun W=>∃ G1,FlD w G b p q m c fr ys L { s with dead:=true } G1 W:=⟨_,rfl⟩
      have HWr:Hid (∀ W,Gr W0 W→Calls Tryz.prog 14 #[p,.int .i64 (I:Int),.agg (sec S)] W fun e w'=>e=.returned (.bool false)∧Fin w'):=Lib.hid fun W g=>by
       refine (refWrite_dead W (HD0.out.gr g).rf I S hr).mono ?_;rintro e w' ⟨G1,rfl,h1,h2⟩;rw [hFin];exact ⟨rfl,G1,(HD0.out.gr g).write h1 h2⟩
      have HFn:=Lib.hid hFin;have HZ3:=Lib.hid (HZ.out (by rw [hb.1];decide))
      rw [hb.1,hb.2.1,hb.2.2] at HZ3
      clear hnum hMn hcut hof hl hSe hS hIb hi1 hr hb hFin hK hM hI hKB hF1 hT1 hm2 hc2;go_wp2_with fail;refine Flow.regionSG [80] 22 (SlFa b p N ep fr q m c La J M I KB F1 T1 q2 m2 c2 S) (InC 42 W0 (Fin)) (fun _ _ _=>True) (by kernel_rfl) (by kernel_rfl) (fun _ _ _ _ _ _ h _=>h) (InC.start (by rfl) (Gr.refl _).drew) ?steps ?fin
      case steps=>
       refine .cons (fun l a W hfr hun hup hdn hinv hdep K hK=>?_) ?_
       · have t0:=tAt (.pointer (some ⟨b,0,none⟩)) (hfr.at 0 (by kernel_rfl));refine fW0 rfl ?_;clear hfr hdep;go_simp;exact hK _ _ True.intro (hinv.other 0 (by decide)) (dsT (by trivial))
       refine .cons (fun l a W hfr hun hup hdn hinv hdep K hK=>?_) ?_
       · have t29:=tAt (.pointer (some ⟨b,0,none⟩)) (hdep 29 (by kernel_rfl));refine fW0 rfl ?_;clear hfr hdep;go_simp;exact hK _ _ True.intro (hinv.other 1 (by decide)) (dsT (by trivial))
       refine .cons (fun l a W hfr hun hup hdn hinv hdep K hK=>?_) ?_
       · have t30:=tAt (.pointer (some ⟨b,0,none⟩)) (hdep 30 (by kernel_rfl));refine fW0 rfl ?_;clear hfr hdep;go_simp;exact hK _ _ True.intro (hinv.other 2 (by decide)) (dsT (by trivial))
       refine .cons (fun l a W hfr hun hup hdn hinv hdep K hK=>?_) ?_
       · have t31:=tAt (.pointer (some ⟨b,0,none⟩)) (hdep 31 (by kernel_rfl));refine fW0 rfl ?_;clear hfr hdep;have hl1:l 42=false:=hup 42 (by decide) (by kernel_rfl);have hin:=hinv.pre hl1;obtain ⟨d0,d1,d2,d3,d4,d5,d6,d7,d8⟩:=(HBk.out W hin).c9;go_simp;exact hK _ _ True.intro (hinv.other 3 (by decide)) (dsT (by trivial))
       refine .cons (fun l a W hfr hun hup hdn hinv hdep K hK=>?_) ?_
       · have t5:=tAt (.int .u64 (J:Int)) (hfr.at 5 (by kernel_rfl));refine fW0 rfl ?_;clear hfr hdep;go_simp;exact hK _ _ True.intro (hinv.other 4 (by decide)) (dsT (by trivial))
       refine .cons (fun l a W hfr hun hup hdn hinv hdep K hK=>?_) ?_
       · have t0:=tAt (.pointer (some ⟨b,0,none⟩)) (hfr.at 0 (by kernel_rfl));refine fW0 rfl ?_;clear hfr hdep;go_simp;exact hK _ _ True.intro (hinv.other 5 (by decide)) (dsT (by trivial))
       refine .cons (fun l a W hfr hun hup hdn hinv hdep K hK=>?_) ?_
       · have t34:=tAt (.pointer (some ⟨b,0,none⟩)) (hdep 34 (by kernel_rfl));refine fW0 rfl ?_;clear hfr hdep;go_simp;exact hK _ _ True.intro (hinv.other 6 (by decide)) (dsT (by trivial))
       refine .cons (fun l a W hfr hun hup hdn hinv hdep K hK=>?_) ?_
       · have t35:=tAt (.pointer (some ⟨b,0,none⟩)) (hdep 35 (by kernel_rfl));refine fW0 rfl ?_;clear hfr hdep;go_simp;exact hK _ _ True.intro (hinv.other 7 (by decide)) (dsT (by trivial))
       refine .cons (fun l a W hfr hun hup hdn hinv hdep K hK=>?_) ?_
       · have t36:=tAt (.pointer (some ⟨b,1,none⟩)) (hdep 36 (by kernel_rfl));refine fW0 rfl ?_;clear hfr hdep;have hl1:l 42=false:=hup 42 (by decide) (by kernel_rfl);have hin:=hinv.pre hl1;obtain ⟨d0,d1,d2,d3,d4,d5,d6,d7,d8⟩:=(HBk.out W hin).c9;go_simp;exact hK _ _ True.intro (hinv.other 8 (by decide)) (dsT (by trivial))
       refine .cons (fun l a W hfr hun hup hdn hinv hdep K hK=>?_) ?_
       · have t37:=tAt (.int .i64 (N:Int)) (hdep 37 (by kernel_rfl));have hq:=HQ.out.1;refine fW0 rfl ?_;clear hfr hdep;go_simp;exact hK _ _ True.intro (hinv.other 9 (by decide)) (dsT (by trivial))
       refine .cons (fun l a W hfr hun hup hdn hinv hdep K hK=>?_) ?_
       · have t33:=tAt (.int .u64 (J:Int)) (hdep 33 (by kernel_rfl));have t38:=tAt (.int .u64 (N:Int)) (hdep 38 (by kernel_rfl));have hq:=HQ.out.2.1;have hq2:=HQ.out.2.2.1;have hq3:=HQM.out;refine fW0 rfl ?_;clear hfr hdep;go_simp;exact hK _ _ True.intro (hinv.other 10 (by decide)) (dsT (by trivial))
       refine .cons (fun l a W hfr hun hup hdn hinv hdep K hK=>?_) ?_
       · have t39:=tAt (.int .u64 (M:Int)) (hdep 39 (by kernel_rfl));have hq:=HQ.out.2.2.2.1;refine fW0 rfl ?_;clear hfr hdep;go_simp;exact hK _ _ True.intro (hinv.other 11 (by decide)) (dsT (by trivial))
       refine .cons (fun l a W hfr hun hup hdn hinv hdep K hK=>?_) ?_
       · have t40:=tAt (.int .i64 (M:Int)) (hdep 40 (by kernel_rfl));have hq:=HQ.out.2.2.2.2.1;refine fW0 rfl ?_;clear hfr hdep;go_simp;exact hK _ _ True.intro (hinv.other 12 (by decide)) (dsT (by trivial))
       refine .cons (fun l a W hfr hun hup hdn hinv hdep K hK=>?_) ?_
       · have t5:=tAt (.int .u64 (J:Int)) (hfr.at 5 (by kernel_rfl));refine fW0 rfl ?_;clear hfr hdep;go_simp;exact hK _ _ True.intro (hinv.other 13 (by decide)) (dsT (by trivial))
       refine .cons (fun l a W hfr hun hup hdn hinv hdep K hK=>?_) ?_
       · have t0:=tAt (.pointer (some ⟨b,0,none⟩)) (hfr.at 0 (by kernel_rfl));refine fW0 rfl ?_;clear hfr hdep;go_simp;exact hK _ _ True.intro (hinv.other 14 (by decide)) (dsT (by trivial))
       refine .cons (fun l a W hfr hun hup hdn hinv hdep K hK=>?_) ?_
       · have t43:=tAt (.pointer (some ⟨b,0,none⟩)) (hdep 43 (by kernel_rfl));refine fW0 rfl ?_;clear hfr hdep;go_simp;exact hK _ _ True.intro (hinv.other 15 (by decide)) (dsT (by trivial))
       refine .cons (fun l a W hfr hun hup hdn hinv hdep K hK=>?_) ?_
       · have t44:=tAt (.pointer (some ⟨b,0,none⟩)) (hdep 44 (by kernel_rfl));refine fW0 rfl ?_;clear hfr hdep;go_simp;exact hK _ _ True.intro (hinv.other 16 (by decide)) (dsT (by trivial))
       refine .cons (fun l a W hfr hun hup hdn hinv hdep K hK=>?_) ?_
       · have t45:=tAt (.pointer (some ⟨b,2,none⟩)) (hdep 45 (by kernel_rfl));refine fW0 rfl ?_;clear hfr hdep;have hl1:l 42=false:=hup 42 (by decide) (by kernel_rfl);have hin:=hinv.pre hl1;obtain ⟨d0,d1,d2,d3,d4,d5,d6,d7,d8⟩:=(HBk.out W hin).c9;go_simp;exact hK _ _ True.intro (hinv.other 17 (by decide)) (dsT (by trivial))
       refine .cons (fun l a W hfr hun hup hdn hinv hdep K hK=>?_) ?_
       · have t0:=tAt (.pointer (some ⟨b,0,none⟩)) (hfr.at 0 (by kernel_rfl));refine fW0 rfl ?_;clear hfr hdep;go_simp;exact hK _ _ True.intro (hinv.other 18 (by decide)) (dsT (by trivial))
       refine .cons (fun l a W hfr hun hup hdn hinv hdep K hK=>?_) ?_
       · have t47:=tAt (.pointer (some ⟨b,0,none⟩)) (hdep 47 (by kernel_rfl));refine fW0 rfl ?_;clear hfr hdep;go_simp;exact hK _ _ True.intro (hinv.other 19 (by decide)) (dsT (by trivial))
       refine .cons (fun l a W hfr hun hup hdn hinv hdep K hK=>?_) ?_
       · have t48:=tAt (.pointer (some ⟨b,0,none⟩)) (hdep 48 (by kernel_rfl));refine fW0 rfl ?_;clear hfr hdep;go_simp;exact hK _ _ True.intro (hinv.other 20 (by decide)) (dsT (by trivial))
       refine .cons (fun l a W hfr hun hup hdn hinv hdep K hK=>?_) ?_
       · have t49:=tAt (.pointer (some ⟨b,5,none⟩)) (hdep 49 (by kernel_rfl));refine fW0 rfl ?_;clear hfr hdep;have hl1:l 42=false:=hup 42 (by decide) (by kernel_rfl);have hin:=hinv.pre hl1;obtain ⟨d0,d1,d2,d3,d4,d5,d6,d7,d8⟩:=(HBk.out W hin).c9;go_simp;exact hK _ _ True.intro (hinv.other 21 (by decide)) (dsT (by trivial))
       refine .cons (fun l a W hfr hun hup hdn hinv hdep K hK=>?_) ?_
       · have t5:=tAt (.int .u64 (J:Int)) (hfr.at 5 (by kernel_rfl));refine fW0 rfl ?_;clear hfr hdep;go_simp;exact hK _ _ True.intro (hinv.other 22 (by decide)) (dsT (by trivial))
       refine .cons (fun l a W hfr hun hup hdn hinv hdep K hK=>?_) ?_
       · have t51:=tAt (.int .u64 (J:Int)) (hdep 51 (by kernel_rfl));have hq:=HQ.out.2.2.2.2.2.1;refine fW0 rfl ?_;clear hfr hdep;go_simp;exact hK _ _ True.intro (hinv.other 23 (by decide)) (dsT (by trivial))
       refine .cons (fun l a W hfr hun hup hdn hinv hdep K hK=>?_) ?_
       · have t0:=tAt (.pointer (some ⟨b,0,none⟩)) (hfr.at 0 (by kernel_rfl));refine fW0 rfl ?_;clear hfr hdep;go_simp;exact hK _ _ True.intro (hinv.other 24 (by decide)) (dsT (by trivial))
       refine .cons (fun l a W hfr hun hup hdn hinv hdep K hK=>?_) ?_
       · have t53:=tAt (.pointer (some ⟨b,0,none⟩)) (hdep 53 (by kernel_rfl));refine fW0 rfl ?_;clear hfr hdep;go_simp;exact hK _ _ True.intro (hinv.other 25 (by decide)) (dsT (by trivial))
       refine .cons (fun l a W hfr hun hup hdn hinv hdep K hK=>?_) ?_
       · have t54:=tAt (.pointer (some ⟨b,0,none⟩)) (hdep 54 (by kernel_rfl));refine fW0 rfl ?_;clear hfr hdep;go_simp;exact hK _ _ True.intro (hinv.other 26 (by decide)) (dsT (by trivial))
       refine .cons (fun l a W hfr hun hup hdn hinv hdep K hK=>?_) ?_
       · have t55:=tAt (.pointer (some ⟨b,4,none⟩)) (hdep 55 (by kernel_rfl));refine fW0 rfl ?_;clear hfr hdep;have hl1:l 42=false:=hup 42 (by decide) (by kernel_rfl);have hin:=hinv.pre hl1;obtain ⟨d0,d1,d2,d3,d4,d5,d6,d7,d8⟩:=(HBk.out W hin).c9;go_simp;exact hK _ _ True.intro (hinv.other 27 (by decide)) (dsT (by trivial))
       refine .cons (fun l a W hfr hun hup hdn hinv hdep K hK=>?_) ?_
       · have t52:=tAt (.int .u64 (KB:Int)) (hdep 52 (by kernel_rfl));have t56:=tAt (.int .u64 (fr:Int)) (hdep 56 (by kernel_rfl));have hq:=HQ.out.2.2.2.2.2.2.1;refine fW0 rfl ?_;clear hfr hdep;go_simp;exact hK _ _ True.intro (hinv.other 28 (by decide)) (dsT (by trivial))
       refine .cons (fun l a W hfr hun hup hdn hinv hdep K hK=>?_) ?_
       · have t57:=tAt (.int .u64 (F1:Int)) (hdep 57 (by kernel_rfl));have hq:=HQ.out.2.2.2.2.2.2.2.1;refine fW0 rfl ?_;clear hfr hdep;go_simp;exact hK _ _ True.intro (hinv.other 29 (by decide)) (dsT (by trivial))
       refine .cons (fun l a W hfr hun hup hdn hinv hdep K hK=>?_) ?_
       · have t0:=tAt (.pointer (some ⟨b,0,none⟩)) (hfr.at 0 (by kernel_rfl));refine fW0 rfl ?_;clear hfr hdep;go_simp;exact hK _ _ True.intro (hinv.other 30 (by decide)) (dsT (by trivial))
       refine .cons (fun l a W hfr hun hup hdn hinv hdep K hK=>?_) ?_
       · have t59:=tAt (.pointer (some ⟨b,0,none⟩)) (hdep 59 (by kernel_rfl));refine fW0 rfl ?_;clear hfr hdep;go_simp;exact hK _ _ True.intro (hinv.other 31 (by decide)) (dsT (by trivial))
       refine .cons (fun l a W hfr hun hup hdn hinv hdep K hK=>?_) ?_
       · have t60:=tAt (.pointer (some ⟨b,0,none⟩)) (hdep 60 (by kernel_rfl));refine fW0 rfl ?_;clear hfr hdep;go_simp;exact hK _ _ True.intro (hinv.other 32 (by decide)) (dsT (by trivial))
       refine .cons (fun l a W hfr hun hup hdn hinv hdep K hK=>?_) ?_
       · have t61:=tAt (.pointer (some ⟨b,6,none⟩)) (hdep 61 (by kernel_rfl));refine fW0 rfl ?_;clear hfr hdep;have hl1:l 42=false:=hup 42 (by decide) (by kernel_rfl);have hin:=hinv.pre hl1;obtain ⟨d0,d1,d2,d3,d4,d5,d6,d7,d8⟩:=(HBk.out W hin).c9;go_simp;exact hK _ _ True.intro (hinv.other 33 (by decide)) (dsT (by trivial))
       refine .cons (fun l a W hfr hun hup hdn hinv hdep K hK=>?_) ?_
       · have t0:=tAt (.pointer (some ⟨b,0,none⟩)) (hfr.at 0 (by kernel_rfl));refine fW0 rfl ?_;clear hfr hdep;go_simp;exact hK _ _ True.intro (hinv.other 34 (by decide)) (dsT (by trivial))
       refine .cons (fun l a W hfr hun hup hdn hinv hdep K hK=>?_) ?_
       · have t63:=tAt (.pointer (some ⟨b,0,none⟩)) (hdep 63 (by kernel_rfl));refine fW0 rfl ?_;clear hfr hdep;go_simp;exact hK _ _ True.intro (hinv.other 35 (by decide)) (dsT (by trivial))
       refine .cons (fun l a W hfr hun hup hdn hinv hdep K hK=>?_) ?_
       · have t64:=tAt (.pointer (some ⟨b,0,none⟩)) (hdep 64 (by kernel_rfl));refine fW0 rfl ?_;clear hfr hdep;go_simp;exact hK _ _ True.intro (hinv.other 36 (by decide)) (dsT (by trivial))
       refine .cons (fun l a W hfr hun hup hdn hinv hdep K hK=>?_) ?_
       · have t65:=tAt (.pointer (some ⟨b,4,none⟩)) (hdep 65 (by kernel_rfl));refine fW0 rfl ?_;clear hfr hdep;have hl1:l 42=false:=hup 42 (by decide) (by kernel_rfl);have hin:=hinv.pre hl1;obtain ⟨d0,d1,d2,d3,d4,d5,d6,d7,d8⟩:=(HBk.out W hin).c9;go_simp;exact hK _ _ True.intro (hinv.other 37 (by decide)) (dsT (by trivial))
       refine .cons (fun l a W hfr hun hup hdn hinv hdep K hK=>?_) ?_
       · have t62:=tAt (.int .u64 (La:Int)) (hdep 62 (by kernel_rfl));have t66:=tAt (.int .u64 (fr:Int)) (hdep 66 (by kernel_rfl));have hq:=HQ.out.2.2.2.2.2.2.2.2.1;refine fW0 rfl ?_;clear hfr hdep;go_simp;exact hK _ _ True.intro (hinv.other 38 (by decide)) (dsT (by trivial))
       refine .cons (fun l a W hfr hun hup hdn hinv hdep K hK=>?_) ?_
       · have t67:=tAt (.int .u64 (T1:Int)) (hdep 67 (by kernel_rfl));have hq:=HQ.out.2.2.2.2.2.2.2.2.2;refine fW0 rfl ?_;clear hfr hdep;go_simp;exact hK _ _ True.intro (hinv.other 39 (by decide)) (dsT (by trivial))
       refine .cons (fun l a W hfr hun hup hdn hinv hdep K hK=>?_) ?_
       · have t50:=tAt (.slice q m c) (hdep 50 (by kernel_rfl));have t58:=tAt (.int .i64 (F1:Int)) (hdep 58 (by kernel_rfl));have t68:=tAt (.int .i64 (T1:Int)) (hdep 68 (by kernel_rfl));have hcut:=HCut.out W;refine fW0 rfl ?_;clear hfr hdep;go_simp;exact hK _ _ True.intro (hinv.other 40 (by decide)) (dsT (by trivial))
       refine .cons (fun l a W hfr hun hup hdn hinv hdep K hK=>?_) ?_
       · have t42:=tAt (.int .u64 (J:Int)) (hdep 42 (by kernel_rfl));have t46:=tAt (.int .u64 (ep:Int)) (hdep 46 (by kernel_rfl));have t69:=tAt (.slice q2 m2 c2) (hdep 69 (by kernel_rfl));refine fW0 rfl ?_;clear hfr hdep;have hl1:l 42=false:=hup 42 (by decide) (by kernel_rfl);have hin:=hinv.pre hl1;go_simp;refine (HSe.out W hin).mono ?_;rintro e W' ⟨rfl,g1⟩;exact hK _ _ True.intro (hinv.grow hl1 g1 41 (by decide)) (dsT (by trivial))
       refine .cons (fun l a W hfr hun hup hdn hinv hdep K hK=>?_) ?_
       · have t32:=tAt (p) (hdep 32 (by kernel_rfl));have t41:=tAt (.int .i64 (I:Int)) (hdep 41 (by kernel_rfl));have t70:=tAt (.agg (sec S)) (hdep 70 (by kernel_rfl));refine fW0 rfl ?_;clear hfr hdep;have hin:=hinv.pre hun;go_simp;refine (HWr.out W hin).mono ?_;rintro e W' ⟨rfl,h1⟩;exact hK _ _ True.intro (InC.fin h1) (dsT (by trivial))
       refine .cons (fun l a W hfr hun hup hdn hinv hdep K hK=>?_) ?_
       · have t71:=tAt (.bool false) (hdep 71 (by kernel_rfl));refine fW0 rfl ?_;clear hfr hdep;go_simp;exact hK _ _ True.intro (hinv.other 43 (by decide)) (dsT (by trivial))
       refine .cons (fun l a W hfr hun hup hdn hinv hdep K hK=>?_) ?_
       · have t72:=tAt (.bool true) (hdep 72 (by kernel_rfl));refine fW0 rfl ?_;clear hfr hdep;go_simp;exact hK _ _ True.intro (hinv.other 44 (by decide)) (dsT (by trivial))
       refine .cons (fun l a W hfr hun hup hdn hinv hdep K hK=>?_) ?_
       · have sg:a.tmps.getD 73 undef=.bool !false:=hdep 73 (by kernel_rfl);have t0:=tAt (.pointer (some ⟨b,0,none⟩)) (hfr.at 0 (by kernel_rfl));rw [if_neg (Flow.wanted_no 44 false 73 rfl (by kernel_rfl) sg)];clear hfr hdep;exact hK _ _ True.intro (hinv.other 45 (by decide)) (dsT (by trivial))
       refine .cons (fun l a W hfr hun hup hdn hinv hdep K hK=>?_) ?_
       · have sg:a.tmps.getD 73 undef=.bool !false:=hdep 73 (by kernel_rfl);rw [if_neg (Flow.wanted_no 44 false 73 rfl (by kernel_rfl) sg)];clear hfr hdep;exact hK _ _ True.intro (hinv.other 46 (by decide)) (dsT (by trivial))
       refine .cons (fun l a W hfr hun hup hdn hinv hdep K hK=>?_) ?_
       · have sg:a.tmps.getD 73 undef=.bool !false:=hdep 73 (by kernel_rfl);rw [if_neg (Flow.wanted_no 44 false 73 rfl (by kernel_rfl) sg)];clear hfr hdep;exact hK _ _ True.intro (hinv.other 47 (by decide)) (dsT (by trivial))
       refine .cons (fun l a W hfr hun hup hdn hinv hdep K hK=>?_) ?_
       · have sg:a.tmps.getD 73 undef=.bool !false:=hdep 73 (by kernel_rfl);rw [if_neg (Flow.wanted_no 44 false 73 rfl (by kernel_rfl) sg)];clear hfr hdep;exact hK _ _ True.intro (hinv.other 48 (by decide)) (dsT (by trivial))
       refine .cons (fun l a W hfr hun hup hdn hinv hdep K hK=>?_) ?_
       · have sg:a.tmps.getD 73 undef=.bool !false:=hdep 73 (by kernel_rfl);rw [if_neg (Flow.wanted_no 44 false 73 rfl (by kernel_rfl) sg)];clear hfr hdep;exact hK _ _ True.intro (hinv.other 49 (by decide)) (dsT (by trivial))
       refine .cons (fun l a W hfr hun hup hdn hinv hdep K hK=>?_) ?_
       · have sg:a.tmps.getD 73 undef=.bool !false:=hdep 73 (by kernel_rfl);rw [if_neg (Flow.wanted_no 44 false 73 rfl (by kernel_rfl) sg)];clear hfr hdep;exact hK _ _ True.intro (hinv.other 50 (by decide)) (dsT (by trivial))
       refine .cons (fun l a W hfr hun hup hdn hinv hdep K hK=>?_) ?_
       · have t73:=tAt (.bool true) (hdep 73 (by kernel_rfl));refine fW0 rfl ?_;clear hfr hdep;go_simp;exact hK _ _ True.intro (hinv.other 51 (by decide)) (dsT (by trivial))
       exact True.intro
      case fin=>
       intro a W l hfr hall hinv hsl
       have s80:a.tmps.getD 80 undef=.bool true:=hsl 51 _ 80 rfl rfl (by simp);have t80:=tmpAt s80;have hfin:=hinv.post (hall 42 (by decide));have e:=Flow.frame hfr [29,30,31,32,33,34,35,36,37,38,39,40,41,42,43,44,45,46,47,48,49,50,51,52,53,54,55,56,57,58,59,60,61,62,63,64,65,66,67,68,69,70,71,72,73,74,75,76,77,78,79,80] (List.range 157) (by kernel_rfl) (by kernel_rfl)
       simp [List.range,List.range.loop] at e
       rw [t80] at e
       rw [e];have HFin:=Lib.hid hfin;clear e hfr hsl hall hinv hfin s80 t80
       first
        | (rename_i hB;refine hB _ _ ?_)
        | (rename_i hB y0;refine hB _ _ ?_)
        | (rename_i hB y0 y1;refine hB _ _ ?_)
        | (rename_i hB y0 y1 y2;refine hB _ _ ?_)
        | (rename_i hB y0 y1 y2 y3;refine hB _ _ ?_)
        | (rename_i hB y0 y1 y2 y3 y4;refine hB _ _ ?_)
        | (rename_i hB y0 y1 y2 y3 y4 y5;refine hB _ _ ?_)
        | (rename_i hB y0 y1 y2 y3 y4 y5 y6;refine hB _ _ ?_)
        | (rename_i hB y0 y1 y2 y3 y4 y5 y6 y7;refine hB _ _ ?_)
        | (rename_i hB y0 y1 y2 y3 y4 y5 y6 y7 y8;refine hB _ _ ?_)
        | (rename_i hB y0 y1 y2 y3 y4 y5 y6 y7 y8 y9;refine hB _ _ ?_)
        | (rename_i hB y0 y1 y2 y3 y4 y5 y6 y7 y8 y9 y10;refine hB _ _ ?_)
        | skip
       have hF:=HFin.out
       rw [HFn.out] at hF
       obtain ⟨G1,hd⟩:=hF;have HD1:=Lib.hid hd;clear hd HFin;go_wp2_with fail
       go_ret
       rw [HZ3.out.1,HZ3.out.2.1,HZ3.out.2.2];exact ⟨rfl,G1,HD1.out⟩
     ·
      have hb:=HBF.out.2.2 HBg.out.symm hr;have hst:=(HW0.out.wrote (begI L) (begX L))
      obtain ⟨Mid,hMid⟩:∃ Mid:World→Prop,Mid=fun W=>∃ G1,FlD w G b p q m c fr ys L (s.wrote (begI L) (begX L)) G1 W:=⟨_,rfl⟩
      obtain ⟨Fin,hFin⟩:∃ Fin:World→Prop,Fin=fun W=>∃ G1,FlD w G b p q m c fr ys L (s.wrote (begI L) (begX L)).barrier G1 W:=⟨_,rfl⟩
      have HWr:Hid (∀ W,Gr W0 W→Calls Tryz.prog 14 #[p,.int .i64 (I:Int),.agg (sec S)] W fun e w'=>e=.returned (.bool true)∧Mid w'):=Lib.hid fun W g=>by
       refine (refWrite_yes W (HD0.out.gr g).rf I (by omega) S hr (by omega) (by have:=HW0.out.less I;omega)).mono ?_;rintro e w' ⟨G1,rfl,h1,h2⟩;rw [hMid,hIb,← hS];exact ⟨rfl,G1,(HD0.out.gr g).write h1 h2⟩
      have HBa:Hid (∀ W,Mid W→Calls Tryz.prog 61 #[p] W fun e w'=>e=.returned (.bool true)∧Fin w'):=Lib.hid fun W hm=>by
       rw [hMid] at hm
       obtain ⟨G1,hd⟩:=hm;have hal:=putD_alive (i:=begI L) (x:=begX L) hr
       have e1:putD s (begI L) (begX L)=s.wrote (begI L) (begX L):=by unfold putD;rw [if_neg hr]
       rw [e1] at hal
       refine (refBarrier_yes W hd.rf hal.1).mono ?_;rintro e w' ⟨G2,rfl,h1,h2⟩;rw [hFin];exact ⟨rfl,G2,hd.write h1 h2⟩
      have HBk2:Hid (∀ W,Mid W→Blk W b TLr #[p,.int .i64 (N:Int),.int .u64 (ep:Int),.int .u64 (tl:Int),.int .u64 (fr:Int),.slice q m c,.int .u64 (La:Int),.int .i64 rs,.bool false]):=Lib.hid fun W hm=>by
       rw [hMid] at hm
       obtain ⟨G1,hd⟩:=hm;exact HCells.out W false L rfl rfl rfl rfl rfl HBg.out.symm hd.rl
      have HFn:=Lib.hid hFin;have HB3:=Lib.hid hb;have HSt:=Lib.hid hst;clear hnum hMn hcut hof hl hSe hS hIb hi1 hr hb hFin hK hM hI hKB hF1 hT1 hm2 hc2 hMid hst;go_wp2_with fail;refine Flow.regionSG [80] 22 (SlFb b p N ep fr q m c La J M I KB F1 T1 q2 m2 c2 S) (InC2 42 49 W0 (Mid) (Fin)) (fun _ _ _=>True) (by kernel_rfl) (by kernel_rfl) (fun _ _ _ _ _ _ h _=>h) (InC2.start (by rfl) (Gr.refl _).drew) ?steps ?fin
      case steps=>
       refine .cons (fun l a W hfr hun hup hdn hinv hdep K hK=>?_) ?_
       · have t0:=tAt (.pointer (some ⟨b,0,none⟩)) (hfr.at 0 (by kernel_rfl));refine fW0 rfl ?_;clear hfr hdep;go_simp;exact hK _ _ True.intro (hinv.other 0 (by decide) (by decide)) (dsT (by trivial))
       refine .cons (fun l a W hfr hun hup hdn hinv hdep K hK=>?_) ?_
       · have t29:=tAt (.pointer (some ⟨b,0,none⟩)) (hdep 29 (by kernel_rfl));refine fW0 rfl ?_;clear hfr hdep;go_simp;exact hK _ _ True.intro (hinv.other 1 (by decide) (by decide)) (dsT (by trivial))
       refine .cons (fun l a W hfr hun hup hdn hinv hdep K hK=>?_) ?_
       · have t30:=tAt (.pointer (some ⟨b,0,none⟩)) (hdep 30 (by kernel_rfl));refine fW0 rfl ?_;clear hfr hdep;go_simp;exact hK _ _ True.intro (hinv.other 2 (by decide) (by decide)) (dsT (by trivial))
       refine .cons (fun l a W hfr hun hup hdn hinv hdep K hK=>?_) ?_
       · have t31:=tAt (.pointer (some ⟨b,0,none⟩)) (hdep 31 (by kernel_rfl));refine fW0 rfl ?_;clear hfr hdep;have hl1:l 42=false:=hup 42 (by decide) (by kernel_rfl);have hl2:l 49=false:=hup 49 (by decide) (by kernel_rfl);have hin:=hinv.pre hl1 hl2;obtain ⟨d0,d1,d2,d3,d4,d5,d6,d7,d8⟩:=(HBk.out W hin).c9;go_simp;exact hK _ _ True.intro (hinv.other 3 (by decide) (by decide)) (dsT (by trivial))
       refine .cons (fun l a W hfr hun hup hdn hinv hdep K hK=>?_) ?_
       · have t5:=tAt (.int .u64 (J:Int)) (hfr.at 5 (by kernel_rfl));refine fW0 rfl ?_;clear hfr hdep;go_simp;exact hK _ _ True.intro (hinv.other 4 (by decide) (by decide)) (dsT (by trivial))
       refine .cons (fun l a W hfr hun hup hdn hinv hdep K hK=>?_) ?_
       · have t0:=tAt (.pointer (some ⟨b,0,none⟩)) (hfr.at 0 (by kernel_rfl));refine fW0 rfl ?_;clear hfr hdep;go_simp;exact hK _ _ True.intro (hinv.other 5 (by decide) (by decide)) (dsT (by trivial))
       refine .cons (fun l a W hfr hun hup hdn hinv hdep K hK=>?_) ?_
       · have t34:=tAt (.pointer (some ⟨b,0,none⟩)) (hdep 34 (by kernel_rfl));refine fW0 rfl ?_;clear hfr hdep;go_simp;exact hK _ _ True.intro (hinv.other 6 (by decide) (by decide)) (dsT (by trivial))
       refine .cons (fun l a W hfr hun hup hdn hinv hdep K hK=>?_) ?_
       · have t35:=tAt (.pointer (some ⟨b,0,none⟩)) (hdep 35 (by kernel_rfl));refine fW0 rfl ?_;clear hfr hdep;go_simp;exact hK _ _ True.intro (hinv.other 7 (by decide) (by decide)) (dsT (by trivial))
       refine .cons (fun l a W hfr hun hup hdn hinv hdep K hK=>?_) ?_
       · have t36:=tAt (.pointer (some ⟨b,1,none⟩)) (hdep 36 (by kernel_rfl));refine fW0 rfl ?_;clear hfr hdep;have hl1:l 42=false:=hup 42 (by decide) (by kernel_rfl);have hl2:l 49=false:=hup 49 (by decide) (by kernel_rfl);have hin:=hinv.pre hl1 hl2;obtain ⟨d0,d1,d2,d3,d4,d5,d6,d7,d8⟩:=(HBk.out W hin).c9;go_simp;exact hK _ _ True.intro (hinv.other 8 (by decide) (by decide)) (dsT (by trivial))
       refine .cons (fun l a W hfr hun hup hdn hinv hdep K hK=>?_) ?_
       · have t37:=tAt (.int .i64 (N:Int)) (hdep 37 (by kernel_rfl));have hq:=HQ.out.1;refine fW0 rfl ?_;clear hfr hdep;go_simp;exact hK _ _ True.intro (hinv.other 9 (by decide) (by decide)) (dsT (by trivial))
       refine .cons (fun l a W hfr hun hup hdn hinv hdep K hK=>?_) ?_
       · have t33:=tAt (.int .u64 (J:Int)) (hdep 33 (by kernel_rfl));have t38:=tAt (.int .u64 (N:Int)) (hdep 38 (by kernel_rfl));have hq:=HQ.out.2.1;have hq2:=HQ.out.2.2.1;have hq3:=HQM.out;refine fW0 rfl ?_;clear hfr hdep;go_simp;exact hK _ _ True.intro (hinv.other 10 (by decide) (by decide)) (dsT (by trivial))
       refine .cons (fun l a W hfr hun hup hdn hinv hdep K hK=>?_) ?_
       · have t39:=tAt (.int .u64 (M:Int)) (hdep 39 (by kernel_rfl));have hq:=HQ.out.2.2.2.1;refine fW0 rfl ?_;clear hfr hdep;go_simp;exact hK _ _ True.intro (hinv.other 11 (by decide) (by decide)) (dsT (by trivial))
       refine .cons (fun l a W hfr hun hup hdn hinv hdep K hK=>?_) ?_
       · have t40:=tAt (.int .i64 (M:Int)) (hdep 40 (by kernel_rfl));have hq:=HQ.out.2.2.2.2.1;refine fW0 rfl ?_;clear hfr hdep;go_simp;exact hK _ _ True.intro (hinv.other 12 (by decide) (by decide)) (dsT (by trivial))
       refine .cons (fun l a W hfr hun hup hdn hinv hdep K hK=>?_) ?_
       · have t5:=tAt (.int .u64 (J:Int)) (hfr.at 5 (by kernel_rfl));refine fW0 rfl ?_;clear hfr hdep;go_simp;exact hK _ _ True.intro (hinv.other 13 (by decide) (by decide)) (dsT (by trivial))
       refine .cons (fun l a W hfr hun hup hdn hinv hdep K hK=>?_) ?_
       · have t0:=tAt (.pointer (some ⟨b,0,none⟩)) (hfr.at 0 (by kernel_rfl));refine fW0 rfl ?_;clear hfr hdep;go_simp;exact hK _ _ True.intro (hinv.other 14 (by decide) (by decide)) (dsT (by trivial))
       refine .cons (fun l a W hfr hun hup hdn hinv hdep K hK=>?_) ?_
       · have t43:=tAt (.pointer (some ⟨b,0,none⟩)) (hdep 43 (by kernel_rfl));refine fW0 rfl ?_;clear hfr hdep;go_simp;exact hK _ _ True.intro (hinv.other 15 (by decide) (by decide)) (dsT (by trivial))
       refine .cons (fun l a W hfr hun hup hdn hinv hdep K hK=>?_) ?_
       · have t44:=tAt (.pointer (some ⟨b,0,none⟩)) (hdep 44 (by kernel_rfl));refine fW0 rfl ?_;clear hfr hdep;go_simp;exact hK _ _ True.intro (hinv.other 16 (by decide) (by decide)) (dsT (by trivial))
       refine .cons (fun l a W hfr hun hup hdn hinv hdep K hK=>?_) ?_
       · have t45:=tAt (.pointer (some ⟨b,2,none⟩)) (hdep 45 (by kernel_rfl));refine fW0 rfl ?_;clear hfr hdep;have hl1:l 42=false:=hup 42 (by decide) (by kernel_rfl);have hl2:l 49=false:=hup 49 (by decide) (by kernel_rfl);have hin:=hinv.pre hl1 hl2;obtain ⟨d0,d1,d2,d3,d4,d5,d6,d7,d8⟩:=(HBk.out W hin).c9;go_simp;exact hK _ _ True.intro (hinv.other 17 (by decide) (by decide)) (dsT (by trivial))
       refine .cons (fun l a W hfr hun hup hdn hinv hdep K hK=>?_) ?_
       · have t0:=tAt (.pointer (some ⟨b,0,none⟩)) (hfr.at 0 (by kernel_rfl));refine fW0 rfl ?_;clear hfr hdep;go_simp;exact hK _ _ True.intro (hinv.other 18 (by decide) (by decide)) (dsT (by trivial))
       refine .cons (fun l a W hfr hun hup hdn hinv hdep K hK=>?_) ?_
       · have t47:=tAt (.pointer (some ⟨b,0,none⟩)) (hdep 47 (by kernel_rfl));refine fW0 rfl ?_;clear hfr hdep;go_simp;exact hK _ _ True.intro (hinv.other 19 (by decide) (by decide)) (dsT (by trivial))
       refine .cons (fun l a W hfr hun hup hdn hinv hdep K hK=>?_) ?_
       · have t48:=tAt (.pointer (some ⟨b,0,none⟩)) (hdep 48 (by kernel_rfl));refine fW0 rfl ?_;clear hfr hdep;go_simp;exact hK _ _ True.intro (hinv.other 20 (by decide) (by decide)) (dsT (by trivial))
       refine .cons (fun l a W hfr hun hup hdn hinv hdep K hK=>?_) ?_
       · have t49:=tAt (.pointer (some ⟨b,5,none⟩)) (hdep 49 (by kernel_rfl));refine fW0 rfl ?_;clear hfr hdep;have hl1:l 42=false:=hup 42 (by decide) (by kernel_rfl);have hl2:l 49=false:=hup 49 (by decide) (by kernel_rfl);have hin:=hinv.pre hl1 hl2;obtain ⟨d0,d1,d2,d3,d4,d5,d6,d7,d8⟩:=(HBk.out W hin).c9;go_simp;exact hK _ _ True.intro (hinv.other 21 (by decide) (by decide)) (dsT (by trivial))
       refine .cons (fun l a W hfr hun hup hdn hinv hdep K hK=>?_) ?_
       · have t5:=tAt (.int .u64 (J:Int)) (hfr.at 5 (by kernel_rfl));refine fW0 rfl ?_;clear hfr hdep;go_simp;exact hK _ _ True.intro (hinv.other 22 (by decide) (by decide)) (dsT (by trivial))
       refine .cons (fun l a W hfr hun hup hdn hinv hdep K hK=>?_) ?_
       · have t51:=tAt (.int .u64 (J:Int)) (hdep 51 (by kernel_rfl));have hq:=HQ.out.2.2.2.2.2.1;refine fW0 rfl ?_;clear hfr hdep;go_simp;exact hK _ _ True.intro (hinv.other 23 (by decide) (by decide)) (dsT (by trivial))
       refine .cons (fun l a W hfr hun hup hdn hinv hdep K hK=>?_) ?_
       · have t0:=tAt (.pointer (some ⟨b,0,none⟩)) (hfr.at 0 (by kernel_rfl));refine fW0 rfl ?_;clear hfr hdep;go_simp;exact hK _ _ True.intro (hinv.other 24 (by decide) (by decide)) (dsT (by trivial))
       refine .cons (fun l a W hfr hun hup hdn hinv hdep K hK=>?_) ?_
       · have t53:=tAt (.pointer (some ⟨b,0,none⟩)) (hdep 53 (by kernel_rfl));refine fW0 rfl ?_;clear hfr hdep;go_simp;exact hK _ _ True.intro (hinv.other 25 (by decide) (by decide)) (dsT (by trivial))
       refine .cons (fun l a W hfr hun hup hdn hinv hdep K hK=>?_) ?_
       · have t54:=tAt (.pointer (some ⟨b,0,none⟩)) (hdep 54 (by kernel_rfl));refine fW0 rfl ?_;clear hfr hdep;go_simp;exact hK _ _ True.intro (hinv.other 26 (by decide) (by decide)) (dsT (by trivial))
       refine .cons (fun l a W hfr hun hup hdn hinv hdep K hK=>?_) ?_
       · have t55:=tAt (.pointer (some ⟨b,4,none⟩)) (hdep 55 (by kernel_rfl));refine fW0 rfl ?_;clear hfr hdep;have hl1:l 42=false:=hup 42 (by decide) (by kernel_rfl);have hl2:l 49=false:=hup 49 (by decide) (by kernel_rfl);have hin:=hinv.pre hl1 hl2;obtain ⟨d0,d1,d2,d3,d4,d5,d6,d7,d8⟩:=(HBk.out W hin).c9;go_simp;exact hK _ _ True.intro (hinv.other 27 (by decide) (by decide)) (dsT (by trivial))
       refine .cons (fun l a W hfr hun hup hdn hinv hdep K hK=>?_) ?_
       · have t52:=tAt (.int .u64 (KB:Int)) (hdep 52 (by kernel_rfl));have t56:=tAt (.int .u64 (fr:Int)) (hdep 56 (by kernel_rfl));have hq:=HQ.out.2.2.2.2.2.2.1;refine fW0 rfl ?_;clear hfr hdep;go_simp;exact hK _ _ True.intro (hinv.other 28 (by decide) (by decide)) (dsT (by trivial))
       refine .cons (fun l a W hfr hun hup hdn hinv hdep K hK=>?_) ?_
       · have t57:=tAt (.int .u64 (F1:Int)) (hdep 57 (by kernel_rfl));have hq:=HQ.out.2.2.2.2.2.2.2.1;refine fW0 rfl ?_;clear hfr hdep;go_simp;exact hK _ _ True.intro (hinv.other 29 (by decide) (by decide)) (dsT (by trivial))
       refine .cons (fun l a W hfr hun hup hdn hinv hdep K hK=>?_) ?_
       · have t0:=tAt (.pointer (some ⟨b,0,none⟩)) (hfr.at 0 (by kernel_rfl));refine fW0 rfl ?_;clear hfr hdep;go_simp;exact hK _ _ True.intro (hinv.other 30 (by decide) (by decide)) (dsT (by trivial))
       refine .cons (fun l a W hfr hun hup hdn hinv hdep K hK=>?_) ?_
       · have t59:=tAt (.pointer (some ⟨b,0,none⟩)) (hdep 59 (by kernel_rfl));refine fW0 rfl ?_;clear hfr hdep;go_simp;exact hK _ _ True.intro (hinv.other 31 (by decide) (by decide)) (dsT (by trivial))
       refine .cons (fun l a W hfr hun hup hdn hinv hdep K hK=>?_) ?_
       · have t60:=tAt (.pointer (some ⟨b,0,none⟩)) (hdep 60 (by kernel_rfl));refine fW0 rfl ?_;clear hfr hdep;go_simp;exact hK _ _ True.intro (hinv.other 32 (by decide) (by decide)) (dsT (by trivial))
       refine .cons (fun l a W hfr hun hup hdn hinv hdep K hK=>?_) ?_
       · have t61:=tAt (.pointer (some ⟨b,6,none⟩)) (hdep 61 (by kernel_rfl));refine fW0 rfl ?_;clear hfr hdep;have hl1:l 42=false:=hup 42 (by decide) (by kernel_rfl);have hl2:l 49=false:=hup 49 (by decide) (by kernel_rfl);have hin:=hinv.pre hl1 hl2;obtain ⟨d0,d1,d2,d3,d4,d5,d6,d7,d8⟩:=(HBk.out W hin).c9;go_simp;exact hK _ _ True.intro (hinv.other 33 (by decide) (by decide)) (dsT (by trivial))
       refine .cons (fun l a W hfr hun hup hdn hinv hdep K hK=>?_) ?_
       · have t0:=tAt (.pointer (some ⟨b,0,none⟩)) (hfr.at 0 (by kernel_rfl));refine fW0 rfl ?_;clear hfr hdep;go_simp;exact hK _ _ True.intro (hinv.other 34 (by decide) (by decide)) (dsT (by trivial))
       refine .cons (fun l a W hfr hun hup hdn hinv hdep K hK=>?_) ?_
       · have t63:=tAt (.pointer (some ⟨b,0,none⟩)) (hdep 63 (by kernel_rfl));refine fW0 rfl ?_;clear hfr hdep;go_simp;exact hK _ _ True.intro (hinv.other 35 (by decide) (by decide)) (dsT (by trivial))
       refine .cons (fun l a W hfr hun hup hdn hinv hdep K hK=>?_) ?_
       · have t64:=tAt (.pointer (some ⟨b,0,none⟩)) (hdep 64 (by kernel_rfl));refine fW0 rfl ?_;clear hfr hdep;go_simp;exact hK _ _ True.intro (hinv.other 36 (by decide) (by decide)) (dsT (by trivial))
       refine .cons (fun l a W hfr hun hup hdn hinv hdep K hK=>?_) ?_
       · have t65:=tAt (.pointer (some ⟨b,4,none⟩)) (hdep 65 (by kernel_rfl));refine fW0 rfl ?_;clear hfr hdep;have hl1:l 42=false:=hup 42 (by decide) (by kernel_rfl);have hl2:l 49=false:=hup 49 (by decide) (by kernel_rfl);have hin:=hinv.pre hl1 hl2;obtain ⟨d0,d1,d2,d3,d4,d5,d6,d7,d8⟩:=(HBk.out W hin).c9;go_simp;exact hK _ _ True.intro (hinv.other 37 (by decide) (by decide)) (dsT (by trivial))
       refine .cons (fun l a W hfr hun hup hdn hinv hdep K hK=>?_) ?_
       · have t62:=tAt (.int .u64 (La:Int)) (hdep 62 (by kernel_rfl));have t66:=tAt (.int .u64 (fr:Int)) (hdep 66 (by kernel_rfl));have hq:=HQ.out.2.2.2.2.2.2.2.2.1;refine fW0 rfl ?_;clear hfr hdep;go_simp;exact hK _ _ True.intro (hinv.other 38 (by decide) (by decide)) (dsT (by trivial))
       refine .cons (fun l a W hfr hun hup hdn hinv hdep K hK=>?_) ?_
       · have t67:=tAt (.int .u64 (T1:Int)) (hdep 67 (by kernel_rfl));have hq:=HQ.out.2.2.2.2.2.2.2.2.2;refine fW0 rfl ?_;clear hfr hdep;go_simp;exact hK _ _ True.intro (hinv.other 39 (by decide) (by decide)) (dsT (by trivial))
       refine .cons (fun l a W hfr hun hup hdn hinv hdep K hK=>?_) ?_
       · have t50:=tAt (.slice q m c) (hdep 50 (by kernel_rfl));have t58:=tAt (.int .i64 (F1:Int)) (hdep 58 (by kernel_rfl));have t68:=tAt (.int .i64 (T1:Int)) (hdep 68 (by kernel_rfl));have hcut:=HCut.out W;refine fW0 rfl ?_;clear hfr hdep;go_simp;exact hK _ _ True.intro (hinv.other 40 (by decide) (by decide)) (dsT (by trivial))
       refine .cons (fun l a W hfr hun hup hdn hinv hdep K hK=>?_) ?_
       · have t42:=tAt (.int .u64 (J:Int)) (hdep 42 (by kernel_rfl));have t46:=tAt (.int .u64 (ep:Int)) (hdep 46 (by kernel_rfl));have t69:=tAt (.slice q2 m2 c2) (hdep 69 (by kernel_rfl));refine fW0 rfl ?_;clear hfr hdep;have hl1:l 42=false:=hup 42 (by decide) (by kernel_rfl);have hl2:l 49=false:=hup 49 (by decide) (by kernel_rfl);have hin:=hinv.pre hl1 hl2;go_simp;refine (HSe.out W hin).mono ?_;rintro e W' ⟨rfl,g1⟩;exact hK _ _ True.intro (hinv.grow0 hl1 hl2 g1 41 (by decide) (by decide)) (dsT (by trivial))
       refine .cons (fun l a W hfr hun hup hdn hinv hdep K hK=>?_) ?_
       · have t32:=tAt (p) (hdep 32 (by kernel_rfl));have t41:=tAt (.int .i64 (I:Int)) (hdep 41 (by kernel_rfl));have t70:=tAt (.agg (sec S)) (hdep 70 (by kernel_rfl));refine fW0 rfl ?_;clear hfr hdep;have hl2:l 49=false:=hup 49 (by decide) (by kernel_rfl);have hin:=hinv.pre hun hl2;go_simp;refine (HWr.out W hin).mono ?_;rintro e W' ⟨rfl,h1⟩;exact hK _ _ True.intro (InC2.one hl2 h1 (by decide)) (dsT (by trivial))
       refine .cons (fun l a W hfr hun hup hdn hinv hdep K hK=>?_) ?_
       · have t71:=tAt (.bool true) (hdep 71 (by kernel_rfl));refine fW0 rfl ?_;clear hfr hdep;go_simp;exact hK _ _ True.intro (hinv.other 43 (by decide) (by decide)) (dsT (by trivial))
       refine .cons (fun l a W hfr hun hup hdn hinv hdep K hK=>?_) ?_
       · have t72:=tAt (.bool false) (hdep 72 (by kernel_rfl));refine fW0 rfl ?_;clear hfr hdep;go_simp;exact hK _ _ True.intro (hinv.other 44 (by decide) (by decide)) (dsT (by trivial))
       refine .cons (fun l a W hfr hun hup hdn hinv hdep K hK=>?_) ?_
       · have sg:a.tmps.getD 73 undef=.bool false:=hdep 73 (by kernel_rfl);have t0:=tAt (.pointer (some ⟨b,0,none⟩)) (hfr.at 0 (by kernel_rfl));rw [if_pos (Flow.wanted_yes 44 false 73 rfl (by kernel_rfl) sg)];clear hfr hdep;go_simp;exact hK _ _ True.intro (hinv.other 45 (by decide) (by decide)) (dsT (by trivial))
       refine .cons (fun l a W hfr hun hup hdn hinv hdep K hK=>?_) ?_
       · have sg:a.tmps.getD 73 undef=.bool false:=hdep 73 (by kernel_rfl);have t74:=tAt (.pointer (some ⟨b,0,none⟩)) (hdep 74 (by kernel_rfl));rw [if_pos (Flow.wanted_yes 44 false 73 rfl (by kernel_rfl) sg)];clear hfr hdep;go_simp;exact hK _ _ True.intro (hinv.other 46 (by decide) (by decide)) (dsT (by trivial))
       refine .cons (fun l a W hfr hun hup hdn hinv hdep K hK=>?_) ?_
       · have sg:a.tmps.getD 73 undef=.bool false:=hdep 73 (by kernel_rfl);have t75:=tAt (.pointer (some ⟨b,0,none⟩)) (hdep 75 (by kernel_rfl));rw [if_pos (Flow.wanted_yes 44 false 73 rfl (by kernel_rfl) sg)];clear hfr hdep;go_simp;exact hK _ _ True.intro (hinv.other 47 (by decide) (by decide)) (dsT (by trivial))
       refine .cons (fun l a W hfr hun hup hdn hinv hdep K hK=>?_) ?_
       · have sg:a.tmps.getD 73 undef=.bool false:=hdep 73 (by kernel_rfl);have t76:=tAt (.pointer (some ⟨b,0,none⟩)) (hdep 76 (by kernel_rfl));rw [if_pos (Flow.wanted_yes 44 false 73 rfl (by kernel_rfl) sg)];clear hfr hdep;have hd1:l 42=true:=hdn 42 (by decide) (by kernel_rfl);have hl2:l 49=false:=hup 49 (by decide) (by kernel_rfl);have hin:=hinv.mid hd1 hl2;obtain ⟨d0,d1,d2,d3,d4,d5,d6,d7,d8⟩:=(HBk2.out W hin).c9;go_simp;exact hK _ _ True.intro (hinv.other 48 (by decide) (by decide)) (dsT (by trivial))
       refine .cons (fun l a W hfr hun hup hdn hinv hdep K hK=>?_) ?_
       · have sg:a.tmps.getD 73 undef=.bool false:=hdep 73 (by kernel_rfl);have t77:=tAt (p) (hdep 77 (by kernel_rfl));rw [if_pos (Flow.wanted_yes 44 false 73 rfl (by kernel_rfl) sg)];clear hfr hdep;have hd1:l 42=true:=hdn 42 (by decide) (by kernel_rfl);have hin:=hinv.mid hd1 hun;go_simp;refine (HBa.out W hin).mono ?_;rintro e W' ⟨rfl,h1⟩;exact hK _ _ True.intro (InC2.two hd1 h1 (by decide)) (dsT (by trivial))
       refine .cons (fun l a W hfr hun hup hdn hinv hdep K hK=>?_) ?_
       · have sg:a.tmps.getD 73 undef=.bool false:=hdep 73 (by kernel_rfl);have t78:=tAt (.bool true) (hdep 78 (by kernel_rfl));rw [if_pos (Flow.wanted_yes 44 false 73 rfl (by kernel_rfl) sg)];clear hfr hdep;go_simp;exact hK _ _ True.intro (hinv.other 50 (by decide) (by decide)) (dsT (by trivial))
       refine .cons (fun l a W hfr hun hup hdn hinv hdep K hK=>?_) ?_
       · have t73:=tAt (.bool false) (hdep 73 (by kernel_rfl));have t79:=tAt (.bool false) (hdep 79 (by kernel_rfl));refine fW0 rfl ?_;clear hfr hdep;go_simp;exact hK _ _ True.intro (hinv.other 51 (by decide) (by decide)) (dsT (by trivial))
       exact True.intro
      case fin=>
       intro a W l hfr hall hinv hsl
       have s80:a.tmps.getD 80 undef=.bool false:=hsl 51 _ 80 rfl rfl (by simp);have t80:=tmpAt s80;have hfin:=hinv.post (hall 42 (by decide)) (hall 49 (by decide));have e:=Flow.frame hfr [29,30,31,32,33,34,35,36,37,38,39,40,41,42,43,44,45,46,47,48,49,50,51,52,53,54,55,56,57,58,59,60,61,62,63,64,65,66,67,68,69,70,71,72,73,74,75,76,77,78,79,80] (List.range 157) (by kernel_rfl) (by kernel_rfl)
       simp [List.range,List.range.loop] at e
       rw [t80] at e
       rw [e];have HFin:=Lib.hid hfin;clear e hfr hsl hall hinv hfin s80 t80
       first
        | (rename_i hB;refine hB _ _ ?_)
        | (rename_i hB y0;refine hB _ _ ?_)
        | (rename_i hB y0 y1;refine hB _ _ ?_)
        | (rename_i hB y0 y1 y2;refine hB _ _ ?_)
        | (rename_i hB y0 y1 y2 y3;refine hB _ _ ?_)
        | (rename_i hB y0 y1 y2 y3 y4;refine hB _ _ ?_)
        | (rename_i hB y0 y1 y2 y3 y4 y5;refine hB _ _ ?_)
        | (rename_i hB y0 y1 y2 y3 y4 y5 y6;refine hB _ _ ?_)
        | (rename_i hB y0 y1 y2 y3 y4 y5 y6 y7;refine hB _ _ ?_)
        | (rename_i hB y0 y1 y2 y3 y4 y5 y6 y7 y8;refine hB _ _ ?_)
        | (rename_i hB y0 y1 y2 y3 y4 y5 y6 y7 y8 y9;refine hB _ _ ?_)
        | (rename_i hB y0 y1 y2 y3 y4 y5 y6 y7 y8 y9 y10;refine hB _ _ ?_)
        | skip
       have hF:=HFin.out
       rw [HFn.out] at hF
       obtain ⟨G1,hd⟩:=hF;have HD1:=Lib.hid hd;have f8:=hd.rl.blk.frozen 8;have b8:=(HCells.out _ false L rfl rfl rfl rfl rfl HBg.out.symm hd.rl).c9.2.2.2.2.2.2.2.2;clear hd HFin;go_wp2_with fail
       go_meet
       refine Lib.hid ?_;rw [HB3.out.1,HB3.out.2.1,HB3.out.2.2];exact ⟨rfl,⟨G1,HD1.out.begun⟩,HSt.out.barrier,rfl⟩
   case rest=>
    obtain ⟨hb0,⟨G1,hd1⟩,hst1,hbl⟩:=hcut.out;have HZ3:=Lib.hid (HZ2.out hb0);obtain ⟨L1,hL1⟩:∃ L1,L1=begL s L:=⟨_,rfl⟩;obtain ⟨s1,hs1⟩:∃ s1,s1=begS s L:=⟨_,rfl⟩;obtain ⟨cn,hcn⟩:∃ cn,cn=chN L.txt.length:=⟨_,rfl⟩
    rw [← hL1,← hs1,← hcn] at HZ3
    rw [← hL1,← hs1] at hd1
    rw [← hs1] at hst1
    rw [← hL1] at HBL hbl
    have HD1:=Lib.hid hd1;have HS1:=Lib.hid hst1;have HCn:Hid (cn=(L.txt.length+231) / 232):=Lib.hid hcn
    have HL2:Hid (L1.lasts=La∧L1.epoch=ep∧L1.l=L.l∧L1.fin=Fn∧L1.txt=L.txt∧L1.Ok∧L1.tail=L.tail∧L1.rsv=L.rsv∧L1.begun=true):=Lib.hid (by
     have h1:=HL.out;have h2:=HBL.out
     exact ⟨by rw [hbl];exact h1.2.1.symm,by rw [hbl];exact h1.2.2.2.1.symm,h2.2.2.2,by rw [h2.2.1];exact h1.1.symm,h2.2.2.1,h2.1,by rw [hbl],by rw [hbl],by rw [hbl]⟩)
    have HC2:Hid (∀ W,RlAt W b p q m c fr ys L1→Blk W b TLr #[p,.int .i64 (N:Int),.int .u64 (ep:Int),.int .u64 (tl:Int),.int .u64 (fr:Int),.slice q m c,.int .u64 (La:Int),.int .i64 rs,.bool true]):=Lib.hid fun W hr=>by
     have h2:=HL2.out;exact HCells.out W true L1 h2.2.2.1 (by rw [hbl]) h2.2.2.2.2.2.2.1 (by rw [hbl]) h2.2.2.2.2.2.2.2.1 h2.2.2.2.2.2.2.2.2 hr
    have c6:=(HC2.out wc hd1.rl).c9.2.2.2.2.2.2.1
    have hqw:IntKind.u64.wrap (K0:Int)=(K0:Int):=by have:=HNum.out;rw [IntKind.wrap_u64];omega
    clear hcn hL1 hs1 hd1 hst1 hbl hb0 hcut HZ HZ2 HBF HBL HBg HBk c8 HD0 HCells HW0;go_wp2_with fail;have hdd1:decide (Fn < u)=false:=decide_eq_false (by omega);have hdd2:decide (u≤La)=false:=decide_eq_false (by omega)
    simp only [hdd1,hdd2]
    clear hdd1 hdd2
    go_loopw [6] (fun kv wr=>∃ (j J:Nat) (s2:St) (G2:Nat→Prop),j≤cn∧kv=.int .u64 (J:Int)∧Hid (J=K0+j)∧Hid (FlD w G b p q m c fr ys L1 s2 G2 wr∧wrAll L1 cn 0 s1=wrAll L1 (cn - j) j s2∧StW s (1+j) s2)) (fun kv _=>cn+K0 - (intOf kv).toNat)
    case atStart=>exact ⟨0,K0,s1,G1,Nat.zero_le _,rfl,Lib.hid rfl,Lib.hid ⟨HD1.out,rfl,HS1.out⟩⟩
    case round=>
     obtain ⟨j,J,s2,G2,hj,rfl,HJ,ho⟩:=hrel;have HO:=ho
     have HEn:Hid (Calls Tryz.prog 30 #[.pointer (some ⟨b,0,none⟩)] wr (RetU Fn wr)):=Lib.hid (by
      have h:=ho.out.1.rl.End HL2.out.2.2.2.2.2.1
      rwa [HL2.out.2.2.2.1] at h)
     obtain ⟨KB,hKB⟩:∃ KB,KB=J*232:=⟨_,rfl⟩
     have hq0:IntKind.u64.wrap ((J:Int)*232)=(KB:Int):=by have:=HNum.out;have:=HCn.out;have:=HJ.out;rw [IntKind.wrap_u64];omega
     by_cases hlt:j < cn
     ·
      have g3:(KB:Int) < (Fn:Int):=by have:=HNum.out;have:=HCn.out;have:=HJ.out;omega
      obtain ⟨M,hM⟩:∃ M,M=J % N:=⟨_,rfl⟩;obtain ⟨I,hI⟩:∃ I,I=3+M:=⟨_,rfl⟩;obtain ⟨F1,hF1⟩:∃ F1,F1=KB - fr:=⟨_,rfl⟩;obtain ⟨T0,hT0⟩:∃ T0,T0=F1+232:=⟨_,rfl⟩;obtain ⟨T1,hT1⟩:∃ T1,T1=min T0 m:=⟨_,rfl⟩;obtain ⟨m2,hm2⟩:∃ m2,m2=T1 - F1:=⟨_,rfl⟩;obtain ⟨c2,hc2⟩:∃ c2,c2=c - F1:=⟨_,rfl⟩;have hnum:=HNum.out;have hJj:=HJ.out
      have hMn:M < N:=by rw [hM];exact Nat.mod_lt _ (by omega)
      have hFm:F1 < m:=by have:=HCn.out;omega
      obtain ⟨q2,hcut,hof⟩:=cut_lh (p:=q) (n:=m) (c:=c) F1 T1 (by omega) (by omega) (by omega)
      rw [← hm2,← hc2] at hcut
      rw [← hc2] at hof
      have HCut:=Lib.hid hcut
      have hq1:IntKind.u64.wrap ((KB:Int) - (fr:Int))=(F1:Int):=by rw [IntKind.wrap_u64];omega
      have hq2:IntKind.i64.wrap (F1:Int)=(F1:Int):=IntWalk.i64_in _ (by omega)
      have hq3:IntKind.i64.wrap ((F1:Int)+232)=(T0:Int):=by rw [IntWalk.i64_in _ (by omega)];omega
      have HQ:Hid (IntKind.u64.wrap (N:Int)=(N:Int)∧¬ N=0∧(J:Int).tmod (N:Int)=(M:Int)∧IntKind.i64.wrap (M:Int)=(M:Int)∧IntKind.i64.wrap (3+(M:Int))=(I:Int)):=Lib.hid ⟨by rw [IntKind.wrap_u64];omega,by omega,by rw [hM,Int.tmod_eq_emod_of_nonneg (by omega)];exact (Int.natCast_emod _ _).symm,IntWalk.i64_in _ (by omega),by rw [IntWalk.i64_in _ (by omega)];omega⟩;have HQM:Hid (IntKind.u64.wrap (M:Int)=(M:Int)):=Lib.hid (by rw [IntKind.wrap_u64];omega);have hl2:=HL2.out;obtain ⟨S,hS⟩:∃ S,S=wrX L1 j:=⟨_,rfl⟩
      have hSe:S=Sx (secL J ep ((L.txt.drop (232*j)).take 232)):=by rw [hS];unfold wrX;rw [hl2.1,hl2.2.1,hl2.2.2.2.2.1,← hnum.2.2.2.2.2.2.2.1,← hJj]
      have hIb:wrI L1 j=I:=by unfold wrI;rw [hl2.1,hl2.2.2.1,← HL.out.2.2.1,← hnum.2.2.2.2.2.2.2.1,← hJj,← hM,hI]
      have HSe:Hid (∀ W,Gr wr W→Calls Tryz.prog 48 #[.int .u64 (J:Int),.int .u64 (ep:Int),.slice q2 m2 c2] W fun e w'=>e=.returned (.agg (sec S))∧Gr W w'):=Lib.hid fun W g=>by
       have hr:=(ho.out.1.gr g).rl;have hy:=hof.byt W ys hr.txt.1
       rw [rl_chunk (la:=La) (fr:=fr) (txt:=L.txt) (a:=232*j) (by rw [← hl2.1,← hl2.2.2.2.2.1];exact hr.ends) (by omega) (by rw [hT1,hT0];omega),← hm2] at hy
       rw [hSe];exact rSector_any J ep q2 m2 c2 _ W (by omega) (by omega) hy (by omega)
      obtain ⟨B1,hB1⟩:∃ B1,B1 = !decide s2.refuses:=⟨_,rfl⟩
      obtain ⟨Fin,hFin⟩:∃ Fin:World→Prop,Fin=fun W=>∃ G3,FlD w G b p q m c fr ys L1 (putD s2 (wrI L1 j) (wrX L1 j)) G3 W:=⟨_,rfl⟩
      have HWr:Hid (∀ W,Gr wr W→Calls Tryz.prog 14 #[p,.int .i64 (I:Int),.agg (sec S)] W fun e w'=>e=.returned (.bool B1)∧Fin w'):=Lib.hid fun W g=>by
       have hst:=ho.out.2.2;refine (refPut_all W (ho.out.1.gr g).rf I (by rw [hst.len];omega) S (by have:=hst.wr;have:=HCn.out;omega) (by have:=hst.less I;have:=hst.wr;have:=HCn.out;omega)).mono ?_;rintro e w' ⟨G3,rfl,h1,h2⟩;rw [hFin,hIb,← hS,hB1];exact ⟨rfl,G3,(ho.out.1.gr g).write h1 h2⟩
      have HFn:=Lib.hid hFin;have HB1:=Lib.hid hB1;have HTm:Hid (T1=min T0 m):=Lib.hid hT1
      have HBkr:Hid (∀ W,Gr wr W→Blk W b TLr #[p,.int .i64 (N:Int),.int .u64 (ep:Int),.int .u64 (tl:Int),.int .u64 (fr:Int),.slice q m c,.int .u64 (La:Int),.int .i64 rs,.bool true]):=Lib.hid fun W g=>HC2.out W (ho.out.1.gr g).rl
      obtain ⟨J2,hJ2⟩:∃ J2,J2=J+1:=⟨_,rfl⟩
      have hqj:IntKind.u64.wrap ((J:Int)+1)=(J2:Int):=by rw [IntKind.wrap_u64];omega
      have HJ2:Hid (J2=K0+(j+1)∧cn+K0 - J2 < cn+K0 - J):=Lib.hid ⟨by omega,by omega⟩;have HLt:=Lib.hid hlt;clear hnum hJj hMn hcut hof hl2 hSe hS hIb hFin hM hI hKB hF1 hT0 hT1 hm2 hc2 hFm hB1 hJ2 hj hlt c6;go_wp2_with fail;refine HEn.out.mono ?_;rintro e W0 ⟨rfl,g⟩
      have HBk:Hid (∀ W,Gr W0 W→Blk W b TLr #[p,.int .i64 (N:Int),.int .u64 (ep:Int),.int .u64 (tl:Int),.int .u64 (fr:Int),.slice q m c,.int .u64 (La:Int),.int .i64 rs,.bool true]):=Lib.hid fun W g2=>HBkr.out W (Gr.trans g g2)
      have HSe0:=Lib.hid (fun W (g2:Gr W0 W)=>HSe.out W (Gr.trans g g2));have HWr0:=Lib.hid (fun W (g2:Gr W0 W)=>HWr.out W (Gr.trans g g2));clear g HSe HWr HEn;have HSe:=HSe0;have HWr:=HWr0;clear HSe0 HWr0;obtain ⟨d0,d1,d2,d3,d4,d5,d6,d7,d8⟩:=(HBk.out W0 (Gr.refl _)).c9;clear d0 d1 d2 d3 d6 d7 d8
      go_upto_if 112 with fail
      go_cut [8] from 112 to 117 (fun s8 wc=>s8=.int .i64 (T1:Int)∧W0=wc)
      case first=>
       by_cases ht:m < T0
       ·
        have g4:(m:Int) < (T0:Int):=by omega
        have HT:Hid (T1=m):=Lib.hid (by have:=HTm.out;omega);clear ht;go_wp2_with fail
        go_meet
        exact ⟨by rw [HT.out],rfl⟩
       ·
        have g4:¬ (m:Int) < (T0:Int):=by omega
        have HT:Hid (T1=T0):=Lib.hid (by have:=HTm.out;omega);clear ht;go_wp2_with fail
        go_meet
        exact ⟨by rw [HT.out],rfl⟩
      case rest=>
       obtain ⟨rfl,rfl⟩:=hcut;clear d4 d5;go_wp2_with fail;refine Flow.regionSG [145] 22 (SlFc b p N ep q m c J M I F1 T1 q2 m2 c2 S B1) (InC 26 W0 (Fin)) (fun _ _ _=>True) (by kernel_rfl) (by kernel_rfl) (fun _ _ _ _ _ _ h _=>h) (InC.start (by rfl) (Gr.refl _).drew) ?steps ?fin
       case steps=>
        refine .cons (fun l a W hfr hun hup hdn hinv hdep K hK=>?_) ?_
        · have t0:=tAt (.pointer (some ⟨b,0,none⟩)) (hfr.at 0 (by kernel_rfl));refine fW0 rfl ?_;clear hfr hdep;go_simp;exact hK _ _ True.intro (hinv.other 0 (by decide)) (dsT (by trivial))
        refine .cons (fun l a W hfr hun hup hdn hinv hdep K hK=>?_) ?_
        · have t118:=tAt (.pointer (some ⟨b,0,none⟩)) (hdep 118 (by kernel_rfl));refine fW0 rfl ?_;clear hfr hdep;go_simp;exact hK _ _ True.intro (hinv.other 1 (by decide)) (dsT (by trivial))
        refine .cons (fun l a W hfr hun hup hdn hinv hdep K hK=>?_) ?_
        · have t119:=tAt (.pointer (some ⟨b,0,none⟩)) (hdep 119 (by kernel_rfl));refine fW0 rfl ?_;clear hfr hdep;go_simp;exact hK _ _ True.intro (hinv.other 2 (by decide)) (dsT (by trivial))
        refine .cons (fun l a W hfr hun hup hdn hinv hdep K hK=>?_) ?_
        · have t120:=tAt (.pointer (some ⟨b,0,none⟩)) (hdep 120 (by kernel_rfl));refine fW0 rfl ?_;clear hfr hdep;have hl1:l 26=false:=hup 26 (by decide) (by kernel_rfl);have hin:=hinv.pre hl1;obtain ⟨d0,d1,d2,d3,d4,d5,d6,d7,d8⟩:=(HBk.out W hin).c9;go_simp;exact hK _ _ True.intro (hinv.other 3 (by decide)) (dsT (by trivial))
        refine .cons (fun l a W hfr hun hup hdn hinv hdep K hK=>?_) ?_
        · have t6:=tAt (.int .u64 (J:Int)) (hfr.at 6 (by kernel_rfl));refine fW0 rfl ?_;clear hfr hdep;go_simp;exact hK _ _ True.intro (hinv.other 4 (by decide)) (dsT (by trivial))
        refine .cons (fun l a W hfr hun hup hdn hinv hdep K hK=>?_) ?_
        · have t0:=tAt (.pointer (some ⟨b,0,none⟩)) (hfr.at 0 (by kernel_rfl));refine fW0 rfl ?_;clear hfr hdep;go_simp;exact hK _ _ True.intro (hinv.other 5 (by decide)) (dsT (by trivial))
        refine .cons (fun l a W hfr hun hup hdn hinv hdep K hK=>?_) ?_
        · have t123:=tAt (.pointer (some ⟨b,0,none⟩)) (hdep 123 (by kernel_rfl));refine fW0 rfl ?_;clear hfr hdep;go_simp;exact hK _ _ True.intro (hinv.other 6 (by decide)) (dsT (by trivial))
        refine .cons (fun l a W hfr hun hup hdn hinv hdep K hK=>?_) ?_
        · have t124:=tAt (.pointer (some ⟨b,0,none⟩)) (hdep 124 (by kernel_rfl));refine fW0 rfl ?_;clear hfr hdep;go_simp;exact hK _ _ True.intro (hinv.other 7 (by decide)) (dsT (by trivial))
        refine .cons (fun l a W hfr hun hup hdn hinv hdep K hK=>?_) ?_
        · have t125:=tAt (.pointer (some ⟨b,1,none⟩)) (hdep 125 (by kernel_rfl));refine fW0 rfl ?_;clear hfr hdep;have hl1:l 26=false:=hup 26 (by decide) (by kernel_rfl);have hin:=hinv.pre hl1;obtain ⟨d0,d1,d2,d3,d4,d5,d6,d7,d8⟩:=(HBk.out W hin).c9;go_simp;exact hK _ _ True.intro (hinv.other 8 (by decide)) (dsT (by trivial))
        refine .cons (fun l a W hfr hun hup hdn hinv hdep K hK=>?_) ?_
        · have t126:=tAt (.int .i64 (N:Int)) (hdep 126 (by kernel_rfl));have hq:=HQ.out.1;refine fW0 rfl ?_;clear hfr hdep;go_simp;exact hK _ _ True.intro (hinv.other 9 (by decide)) (dsT (by trivial))
        refine .cons (fun l a W hfr hun hup hdn hinv hdep K hK=>?_) ?_
        · have t122:=tAt (.int .u64 (J:Int)) (hdep 122 (by kernel_rfl));have t127:=tAt (.int .u64 (N:Int)) (hdep 127 (by kernel_rfl));have hq:=HQ.out.2.1;have hq2:=HQ.out.2.2.1;have hq3:=HQM.out;refine fW0 rfl ?_;clear hfr hdep;go_simp;exact hK _ _ True.intro (hinv.other 10 (by decide)) (dsT (by trivial))
        refine .cons (fun l a W hfr hun hup hdn hinv hdep K hK=>?_) ?_
        · have t128:=tAt (.int .u64 (M:Int)) (hdep 128 (by kernel_rfl));have hq:=HQ.out.2.2.2.1;refine fW0 rfl ?_;clear hfr hdep;go_simp;exact hK _ _ True.intro (hinv.other 11 (by decide)) (dsT (by trivial))
        refine .cons (fun l a W hfr hun hup hdn hinv hdep K hK=>?_) ?_
        · have t129:=tAt (.int .i64 (M:Int)) (hdep 129 (by kernel_rfl));have hq:=HQ.out.2.2.2.2;refine fW0 rfl ?_;clear hfr hdep;go_simp;exact hK _ _ True.intro (hinv.other 12 (by decide)) (dsT (by trivial))
        refine .cons (fun l a W hfr hun hup hdn hinv hdep K hK=>?_) ?_
        · have t6:=tAt (.int .u64 (J:Int)) (hfr.at 6 (by kernel_rfl));refine fW0 rfl ?_;clear hfr hdep;go_simp;exact hK _ _ True.intro (hinv.other 13 (by decide)) (dsT (by trivial))
        refine .cons (fun l a W hfr hun hup hdn hinv hdep K hK=>?_) ?_
        · have t0:=tAt (.pointer (some ⟨b,0,none⟩)) (hfr.at 0 (by kernel_rfl));refine fW0 rfl ?_;clear hfr hdep;go_simp;exact hK _ _ True.intro (hinv.other 14 (by decide)) (dsT (by trivial))
        refine .cons (fun l a W hfr hun hup hdn hinv hdep K hK=>?_) ?_
        · have t132:=tAt (.pointer (some ⟨b,0,none⟩)) (hdep 132 (by kernel_rfl));refine fW0 rfl ?_;clear hfr hdep;go_simp;exact hK _ _ True.intro (hinv.other 15 (by decide)) (dsT (by trivial))
        refine .cons (fun l a W hfr hun hup hdn hinv hdep K hK=>?_) ?_
        · have t133:=tAt (.pointer (some ⟨b,0,none⟩)) (hdep 133 (by kernel_rfl));refine fW0 rfl ?_;clear hfr hdep;go_simp;exact hK _ _ True.intro (hinv.other 16 (by decide)) (dsT (by trivial))
        refine .cons (fun l a W hfr hun hup hdn hinv hdep K hK=>?_) ?_
        · have t134:=tAt (.pointer (some ⟨b,2,none⟩)) (hdep 134 (by kernel_rfl));refine fW0 rfl ?_;clear hfr hdep;have hl1:l 26=false:=hup 26 (by decide) (by kernel_rfl);have hin:=hinv.pre hl1;obtain ⟨d0,d1,d2,d3,d4,d5,d6,d7,d8⟩:=(HBk.out W hin).c9;go_simp;exact hK _ _ True.intro (hinv.other 17 (by decide)) (dsT (by trivial))
        refine .cons (fun l a W hfr hun hup hdn hinv hdep K hK=>?_) ?_
        · have t0:=tAt (.pointer (some ⟨b,0,none⟩)) (hfr.at 0 (by kernel_rfl));refine fW0 rfl ?_;clear hfr hdep;go_simp;exact hK _ _ True.intro (hinv.other 18 (by decide)) (dsT (by trivial))
        refine .cons (fun l a W hfr hun hup hdn hinv hdep K hK=>?_) ?_
        · have t136:=tAt (.pointer (some ⟨b,0,none⟩)) (hdep 136 (by kernel_rfl));refine fW0 rfl ?_;clear hfr hdep;go_simp;exact hK _ _ True.intro (hinv.other 19 (by decide)) (dsT (by trivial))
        refine .cons (fun l a W hfr hun hup hdn hinv hdep K hK=>?_) ?_
        · have t137:=tAt (.pointer (some ⟨b,0,none⟩)) (hdep 137 (by kernel_rfl));refine fW0 rfl ?_;clear hfr hdep;go_simp;exact hK _ _ True.intro (hinv.other 20 (by decide)) (dsT (by trivial))
        refine .cons (fun l a W hfr hun hup hdn hinv hdep K hK=>?_) ?_
        · have t138:=tAt (.pointer (some ⟨b,5,none⟩)) (hdep 138 (by kernel_rfl));refine fW0 rfl ?_;clear hfr hdep;have hl1:l 26=false:=hup 26 (by decide) (by kernel_rfl);have hin:=hinv.pre hl1;obtain ⟨d0,d1,d2,d3,d4,d5,d6,d7,d8⟩:=(HBk.out W hin).c9;go_simp;exact hK _ _ True.intro (hinv.other 21 (by decide)) (dsT (by trivial))
        refine .cons (fun l a W hfr hun hup hdn hinv hdep K hK=>?_) ?_
        · have t7:=tAt (.int .i64 (F1:Int)) (hfr.at 7 (by kernel_rfl));refine fW0 rfl ?_;clear hfr hdep;go_simp;exact hK _ _ True.intro (hinv.other 22 (by decide)) (dsT (by trivial))
        refine .cons (fun l a W hfr hun hup hdn hinv hdep K hK=>?_) ?_
        · have t8:=tAt (.int .i64 (T1:Int)) (hfr.at 8 (by kernel_rfl));refine fW0 rfl ?_;clear hfr hdep;go_simp;exact hK _ _ True.intro (hinv.other 23 (by decide)) (dsT (by trivial))
        refine .cons (fun l a W hfr hun hup hdn hinv hdep K hK=>?_) ?_
        · have t139:=tAt (.slice q m c) (hdep 139 (by kernel_rfl));have t140:=tAt (.int .i64 (F1:Int)) (hdep 140 (by kernel_rfl));have t141:=tAt (.int .i64 (T1:Int)) (hdep 141 (by kernel_rfl));have hcut:=HCut.out W;refine fW0 rfl ?_;clear hfr hdep;go_simp;exact hK _ _ True.intro (hinv.other 24 (by decide)) (dsT (by trivial))
        refine .cons (fun l a W hfr hun hup hdn hinv hdep K hK=>?_) ?_
        · have t131:=tAt (.int .u64 (J:Int)) (hdep 131 (by kernel_rfl));have t135:=tAt (.int .u64 (ep:Int)) (hdep 135 (by kernel_rfl));have t142:=tAt (.slice q2 m2 c2) (hdep 142 (by kernel_rfl));refine fW0 rfl ?_;clear hfr hdep;have hl1:l 26=false:=hup 26 (by decide) (by kernel_rfl);have hin:=hinv.pre hl1;go_simp;refine (HSe.out W hin).mono ?_;rintro e W' ⟨rfl,g1⟩;exact hK _ _ True.intro (hinv.grow hl1 g1 25 (by decide)) (dsT (by trivial))
        refine .cons (fun l a W hfr hun hup hdn hinv hdep K hK=>?_) ?_
        · have t121:=tAt (p) (hdep 121 (by kernel_rfl));have t130:=tAt (.int .i64 (I:Int)) (hdep 130 (by kernel_rfl));have t143:=tAt (.agg (sec S)) (hdep 143 (by kernel_rfl));refine fW0 rfl ?_;clear hfr hdep;have hin:=hinv.pre hun;go_simp;refine (HWr.out W hin).mono ?_;rintro e W' ⟨rfl,h1⟩;exact hK _ _ True.intro (InC.fin h1) (dsT (by trivial))
        refine .cons (fun l a W hfr hun hup hdn hinv hdep K hK=>?_) ?_
        · have t144:=tAt (.bool B1) (hdep 144 (by kernel_rfl));refine fW0 rfl ?_;clear hfr hdep;go_simp;exact hK _ _ True.intro (hinv.other 27 (by decide)) (dsT (by trivial))
        exact True.intro
       case fin=>
        intro a W l hfr hall hinv hsl
        have s145:a.tmps.getD 145 undef=.bool (!B1):=hsl 27 _ 145 rfl rfl (by simp);have t145:=tmpAt s145;have hfin:=hinv.post (hall 26 (by decide));have e:=Flow.frame hfr [118,119,120,121,122,123,124,125,126,127,128,129,130,131,132,133,134,135,136,137,138,139,140,141,142,143,144,145] (List.range 157) (by kernel_rfl) (by kernel_rfl)
        simp [List.range,List.range.loop] at e
        rw [t145] at e
        rw [e];have HFin:=Lib.hid hfin;clear e hfr hsl hall hinv hfin s145 t145
        first
         | (rename_i hB;refine hB _ _ ?_)
         | (rename_i hB y0;refine hB _ _ ?_)
         | (rename_i hB y0 y1;refine hB _ _ ?_)
         | (rename_i hB y0 y1 y2;refine hB _ _ ?_)
         | (rename_i hB y0 y1 y2 y3;refine hB _ _ ?_)
         | (rename_i hB y0 y1 y2 y3 y4;refine hB _ _ ?_)
         | (rename_i hB y0 y1 y2 y3 y4 y5;refine hB _ _ ?_)
         | (rename_i hB y0 y1 y2 y3 y4 y5 y6;refine hB _ _ ?_)
         | (rename_i hB y0 y1 y2 y3 y4 y5 y6 y7;refine hB _ _ ?_)
         | (rename_i hB y0 y1 y2 y3 y4 y5 y6 y7 y8;refine hB _ _ ?_)
         | (rename_i hB y0 y1 y2 y3 y4 y5 y6 y7 y8 y9;refine hB _ _ ?_)
         | (rename_i hB y0 y1 y2 y3 y4 y5 y6 y7 y8 y9 y10;refine hB _ _ ?_)
         | skip
        have hF:=HFin.out
        rw [HFn.out] at hF
        obtain ⟨G3,hd⟩:=hF;have HD3:=Lib.hid hd;clear hd HFin
        cases B1 with
        | false=>
         have HX:Hid (wrAll L1 cn 0 s1=(putD s2 (wrI L1 j) (wrX L1 j),8)):=Lib.hid (by
          have hr:s2.refuses:=by simpa using HB1.out
          have hlt:=HLt.out;rw [HO.out.2.1,show cn - j=(cn - j - 1)+1 by omega]
          unfold putD
          rw [if_pos hr]
          show (if s2.refuses then _ else _)=_
          rw [if_pos hr])
         go_wp2_with fail
         go_ret
         rw [HZ3.out.1,HZ3.out.2.1,HZ3.out.2.2,HX.out,if_pos (show (8:Int)≠0 by decide)];exact ⟨rfl,G3,HD3.out⟩
        | true=>
         have HX:Hid (wrAll L1 cn 0 s1=wrAll L1 (cn - (j+1)) (j+1) (putD s2 (wrI L1 j) (wrX L1 j))∧StW s (1+(j+1)) (putD s2 (wrI L1 j) (wrX L1 j))):=Lib.hid (by
          have hr:¬ s2.refuses:=by simpa using HB1.out
          have hlt:=HLt.out
          have e1:putD s2 (wrI L1 j) (wrX L1 j)=s2.wrote (wrI L1 j) (wrX L1 j):=by unfold putD;rw [if_neg hr]
          rw [e1];refine ⟨?_,HO.out.2.2.wrote _ _⟩;rw [HO.out.2.1,show cn - j=(cn - (j+1))+1 by omega]
          show (if s2.refuses then _ else _)=_
          rw [if_neg hr])
         go_wp2_with fail
         go_roundw
         case rel=>
          exact ⟨j+1,J2,_,G3,HLt.out,rfl,Lib.hid HJ2.out.1,Lib.hid ⟨HD3.out,HX.out.1,HX.out.2⟩⟩
         case measure=>exact HJ2.out.2
     ·
      have g3:¬ (KB:Int) < (Fn:Int):=by have:=HNum.out;have:=HCn.out;have:=HJ.out;omega
      obtain rfl:j=cn:=by omega
      have HX:Hid (wrAll L1 j 0 s1=(BaS s2,BaE s2)):=Lib.hid (by rw [ho.out.2.1,Nat.sub_self];rfl);clear hKB hj hlt c6 ho;go_wp2_with fail;refine HEn.out.mono ?_;rintro e W0 ⟨rfl,g⟩;have HD4:=Lib.hid (HO.out.1.gr g);have d0:=(HC2.out W0 HD4.out.rl).c9.1;clear g HEn
      cases hdd:s2.dead with
      | true=>
       have HBa:=Lib.hid (refBarrier_dead W0 HD4.out.rf hdd);have HY:Hid (BaS s2=s2∧BaE s2=8):=Lib.hid (by unfold BaS BaE;rw [hdd];exact ⟨rfl,rfl⟩);clear hdd;go_wp2_with fail;refine HBa.out.mono ?_;rintro e W1 ⟨rfl,rfl⟩;go_wp2_with fail
       go_ret
       rw [HZ3.out.1,HZ3.out.2.1,HZ3.out.2.2,HX.out,HY.out.1,HY.out.2,if_pos (show (8:Int)≠0 by decide)];exact ⟨rfl,G2,HD4.out⟩
      | false=>
       have HBa:=Lib.hid (refBarrier_yes W0 HD4.out.rf hdd);have HY:Hid (BaS s2=s2.barrier∧BaE s2=0):=Lib.hid (by unfold BaS BaE;rw [hdd];exact ⟨rfl,rfl⟩);clear hdd;go_wp2_with fail;refine HBa.out.mono ?_;rintro e W1 ⟨G4,rfl,h1,h2⟩;have HD5:=Lib.hid (HD4.out.write h1 h2);clear h1 h2 d0
       have HEn:Hid (Calls Tryz.prog 30 #[.pointer (some ⟨b,0,none⟩)] W1 (RetU Fn W1)):=Lib.hid (by
        have h:=HD5.out.rl.End HL2.out.2.2.2.2.2.1
        rwa [HL2.out.2.2.2.1] at h)
       go_wp2_with fail;refine HEn.out.mono ?_;rintro e W2 ⟨rfl,g⟩;have HD6:=Lib.hid (HD5.out.gr g);have f6:=HD6.out.rl.blk.frozen 6;have b6:=(HC2.out W2 HD6.out.rl).c9.2.2.2.2.2.2.1;clear g HEn;go_wp2_with fail
       go_ret
       rw [HZ3.out.1,HZ3.out.2.1,HZ3.out.2.2,HX.out,HY.out.1,HY.out.2,if_neg (fun e=>e rfl)];have h:=HD6.out.done HL2.out.2.2.2.2.2.1
       rw [HL2.out.2.2.2.1] at h
       exact ⟨rfl,G4,h⟩
end Go.Proofs.YtlijbgapkmfnaaaGreat
namespace Go.Proofs.YtlijbgapkmfnaaaGreat
open Go.RowKit Go.Maps
abbrev TPr:TypeId:=57
def CodeAt (w:World) (S:Nat→Prop) (pd pl:Value) (s:St) (L:Lg):Prop:=
 ∃ F b q m c,pl=.pointer (some ⟨b,0,none⟩)∧Wl w F b pd q m c s L∧S=wlS F b q
def RetC (v:Value) (s':St) (L':Lg) (S:Nat→Prop) (pd pl:Value) (w:World) (e:Ending) (w':World):Prop:=∃ S',e=.returned v∧CodeAt w' S' pd pl s' L'∧Upd S S' w w'
def DocAt (w:World) (T:Nat→Prop) (pw pm:Value) (s:St) (L:Lg) (M:Nat):Prop:=
 ∃ G b q m c fr ys,pm=.pointer (some ⟨b,0,none⟩)∧Rf w G pw s∧RlAt w b pw q m c fr ys L∧(∀ k,G k→¬ lgS b q k)∧T=wlS G b q∧ys.length≤M
def RetD (v:Value) (s':St) (L':Lg) (M:Nat) (T:Nat→Prop) (pw pm:Value) (w:World) (e:Ending) (w':World):Prop:=∃ T',e=.returned v∧DocAt w' T' pw pm s' L' M∧Upd T T' w w'
section
variable {w w':World} {S T:Nat→Prop} {pd pl pw pm:Value} {s:St} {L:Lg} {M:Nat}
theorem CodeAt.low (h:CodeAt w S pd pl s L):∀ k,S k→k < w.heap.size:=by
 obtain ⟨F,b,q,m,c,_,h,rfl⟩:=h;rintro k (hk | hk)
 · exact h.dk.low k hk
 · exact h.lg.low k hk
theorem CodeAt.stays (h:CodeAt w S pd pl s L) (e:∀ k,S k→w'.heap[k]?=w.heap[k]?) (hs:w.heap.size≤w'.heap.size):CodeAt w' S pd pl s L:=by
 obtain ⟨F,b,q,m,c,hp,h,rfl⟩:=h;exact ⟨F,b,q,m,c,hp,⟨h.dk.stays (fun k hk=>e k (.inl hk)) hs,h.lg.stays (fun k hk=>e k (.inr hk)) hs,h.apart⟩,rfl⟩
theorem CodeAt.gr (h:CodeAt w S pd pl s L) (g:Gr w w'):CodeAt w' S pd pl s L:=h.stays (fun k hk=>g.block k (h.low k hk)) g.size
theorem CodeAt.ptr (h:CodeAt w S pd pl s L):(∃ b,pl=.pointer (some ⟨b,0,none⟩))∧∃ d,pd=.pointer (some ⟨d,0,none⟩):=by
 obtain ⟨F,b,q,m,c,hp,h,rfl⟩:=h;exact ⟨⟨b,hp⟩,h.lg.dsk⟩
theorem RetC.of_wl {v:Value} {s':St} {L':Lg} {F:Nat→Prop} {b:Nat} {q:Option Addr} {e:Ending} (h:RetWl v s' L' F b pd q w e w'):RetC v s' L' (wlS F b q) pd (.pointer (some ⟨b,0,none⟩)) w e w':=by
 obtain ⟨F',q',m',c',he,h1,h2⟩:=h;exact ⟨_,he,⟨F',b,q',m',c',rfl,h1,rfl⟩,h2⟩
theorem RetC.of_lg {v:Value} {L':Lg} {F:Nat→Prop} {b:Nat} {q:Option Addr} {m c:Nat} {e:Ending} (h0:Wl w F b pd q m c s L) (h:RetLg v L' b pd q w e w'):RetC v s L' (wlS F b q) pd (.pointer (some ⟨b,0,none⟩)) w e w':=by
 obtain ⟨q',m',c',he,h1,hu⟩:=h;obtain ⟨h2,h3⟩:=hu.other h0.dk.low (fun k hl hf=>h0.apart k hf hl);exact ⟨_,he,⟨F,b,q',m',c',rfl,⟨h0.dk.stays h2 hu.size,h1,fun k hf hl=>h3 k hl hf⟩,rfl⟩,⟨hu.os,hu.tape,hu.output,hu.size,fun k hk hn=>hu.block k hk (fun e=>hn (.inr e)),fun k hk=>hk.elim (fun e=>.inl (.inl e)) (fun e=>(hu.fresh k e).imp .inr id)⟩⟩
theorem CodeAt.End (h:CodeAt w S pd pl s L) (ok:L.Ok):Calls Tryz.prog 22 #[pl] w (RetU L.fin w):=by
 obtain ⟨F,b,q,m,c,rfl,h,rfl⟩:=h;exact h.lg.End ok
theorem CodeAt.Free (h:CodeAt w S pd pl s L) (ok:L.Ok):Calls Tryz.prog 40 #[pl] w (RetI L.free w):=by
 obtain ⟨F,b,q,m,c,rfl,h,rfl⟩:=h;exact h.lg.Free ok
theorem CodeAt.Lasts (h:CodeAt w S pd pl s L):Calls Tryz.prog 38 #[pl] w (RetU L.lasts w):=by
 obtain ⟨F,b,q,m,c,rfl,h,rfl⟩:=h;obtain ⟨d,hd⟩:=h.lg.dsk;exact wLasts_any d b _ _ _ _ _ _ _ _ _ _ _ _ w h.lg.blk hd
theorem CodeAt.Tail (h:CodeAt w S pd pl s L):Calls Tryz.prog 39 #[pl] w (RetU L.tail w):=by
 obtain ⟨F,b,q,m,c,rfl,h,rfl⟩:=h;obtain ⟨d,hd⟩:=h.lg.dsk;exact wTail_any d b _ _ _ _ _ _ _ _ _ _ _ _ w h.lg.blk hd
theorem CodeAt.Append (h:CodeAt w S pd pl s L) (ok:L.Ok) (r:Rc) (hi:r.In) (pb:Option Addr) (nb cb:Nat) (pa:Option Addr) (na ca:Nat) (hb:Byt w pb nb cb r.b) (ha:Byt w pa na ca r.a) :
  Calls Tryz.prog 19 #[pl,.agg (rcv r pb nb cb pa na ca)] w (RetC (.tuple #[.int .u64 (layA L r L.free:Int),.int .i64 (layE r L.free)]) s (layL L r L.free) S pd pl w):=by
 obtain ⟨F,b,q,m,c,rfl,h,rfl⟩:=h
 exact (LgAt.Append w h.lg ok r hi pb nb cb pa na ca hb ha).mono fun _ _ hr=>RetC.of_lg h hr
theorem CodeAt.Use {r:Rc} (h:CodeAt w S pd pl s L) (ok:L.Ok) (ok2:(layL L r L.rsv).Ok) (hi:r.In) (pb:Option Addr) (nb cb:Nat) (pa:Option Addr) (na ca:Nat) (hb:Byt w pb nb cb r.b) (ha:Byt w pa na ca r.a) :
  Calls Tryz.prog 28 #[pl,.agg (rcv r pb nb cb pa na ca)] w (RetC (.tuple #[.int .u64 (layA L r L.rsv:Int),.int .i64 (layE r L.rsv)]) s (useL L r) S pd pl w):=by
 obtain ⟨F,b,q,m,c,rfl,h,rfl⟩:=h
 exact (LgAt.Use w h.lg ok ok2 hi pb nb cb pa na ca hb ha).mono fun _ _ hr=>RetC.of_lg h hr
theorem CodeAt.SetTail (h:CodeAt w S pd pl s L) (t:Nat):Calls Tryz.prog 31 #[pl,.int .u64 (t:Int)] w (RetC (.int .i64 (tailE L t)) s (tailL L t) S pd pl w):=by
 obtain ⟨F,b,q,m,c,rfl,h,rfl⟩:=h
 exact (LgAt.SetTail h.lg t).mono fun _ _ hr=>RetC.of_lg h hr
theorem CodeAt.Reserve (h:CodeAt w S pd pl s L) (ok:L.Ok) (r:Int):Calls Tryz.prog 33 #[pl,.int .i64 r] w (RetC (.int .i64 (rsvE L r)) s (rsvL L r) S pd pl w):=by
 obtain ⟨F,b,q,m,c,rfl,h,rfl⟩:=h
 exact (LgAt.Reserve h.lg ok r).mono fun _ _ hr=>RetC.of_lg h hr
theorem CodeAt.Release (h:CodeAt w S pd pl s L) (ok:L.Ok) (r:Int):Calls Tryz.prog 35 #[pl,.int .i64 r] w (RetC (.tuple #[]) s (relL L r) S pd pl w):=by
 obtain ⟨F,b,q,m,c,rfl,h,rfl⟩:=h
 exact (LgAt.Release h.lg ok r).mono fun _ _ hr=>RetC.of_lg h hr
theorem CodeAt.Flush (h:CodeAt w S pd pl s L) (ok:L.Ok) (hn:3+L.l≤s.ls.length) (hw:s.writes≤800000000) (u:Nat) (hu:u≤18446744073709551615):Calls Tryz.prog 21 #[pl,.int .u64 (u:Int)] w (RetC (.int .i64 (flE s L u)) (flS s L u) (flL s L u) S pd pl w):=by
 obtain ⟨F,b,q,m,c,rfl,h,rfl⟩:=h
 exact (wFlush_any w h ok hn hw u hu).mono fun _ _ hr=>RetC.of_wl hr
theorem CodeAt.disk (h:CodeAt w S pd pl s L):∃ F,Dk w F pd s∧(∀ k,F k→S k)∧∀ s' F',Dk w' F' pd s'→Upd F F' w w'→∃ S',CodeAt w' S' pd pl s' L∧Upd S S' w w':=by
 obtain ⟨F,b,q,m,c,rfl,h,rfl⟩:=h;refine ⟨F,h.dk,fun k hk=>.inl hk,fun s' F' hd hu=>?_⟩;obtain ⟨F2,h1,h2⟩:=h.disk ⟨F',hd,hu⟩;exact ⟨_,⟨F2,b,q,m,c,rfl,h1,rfl⟩,h2⟩
theorem DocAt.low (h:DocAt w T pw pm s L M):∀ k,T k→k < w.heap.size:=by
 obtain ⟨G,b,q,m,c,fr,ys,_,hr,hl,_,rfl,_⟩:=h;rintro k (hk | hk)
 · exact hr.low k hk
 · exact hl.low k hk
theorem DocAt.stays (h:DocAt w T pw pm s L M) (e:∀ k,T k→w'.heap[k]?=w.heap[k]?) (hs:w.heap.size≤w'.heap.size):DocAt w' T pw pm s L M:=by
 obtain ⟨G,b,q,m,c,fr,ys,hp,hr,hl,ha,rfl,hM⟩:=h;exact ⟨G,b,q,m,c,fr,ys,hp,hr.stays (fun k hk=>e k (.inl hk)) hs,hl.stays (fun k hk=>e k (.inr hk)) hs,ha,rfl,hM⟩
theorem DocAt.gr (h:DocAt w T pw pm s L M) (g:Gr w w'):DocAt w' T pw pm s L M:=h.stays (fun k hk=>g.block k (h.low k hk)) g.size
theorem DocAt.more (h:DocAt w T pw pm s L M) {M':Nat} (hm:M≤M'):DocAt w T pw pm s L M':=by
 obtain ⟨G,b,q,m,c,fr,ys,hp,hr,hl,ha,ht,hM⟩:=h;exact ⟨G,b,q,m,c,fr,ys,hp,hr,hl,ha,ht,Nat.le_trans hM hm⟩
theorem RetD.of_rl {v:Value} {L':Lg} {G:Nat→Prop} {b:Nat} {q:Option Addr} {m c fr M':Nat} {ys ys':List Int} {e:Ending} (hr0:Rf w G pw s) (hl0:RlAt w b pw q m c fr ys L) (ha:∀ k,G k→¬ lgS b q k) (hM:ys'.length≤M') (h:RetRl v fr ys' L' b pw q w e w'):RetD v s L' M' (wlS G b q) pw (.pointer (some ⟨b,0,none⟩)) w e w':=by
 obtain ⟨q',m',c',he,h1,hu⟩:=h;obtain ⟨h2,h3⟩:=hu.other hr0.low (fun k hl hf=>ha k hf hl);exact ⟨_,he,⟨G,b,q',m',c',fr,ys',rfl,hr0.stays h2 hu.size,h1,fun k hf hl=>h3 k hl hf,rfl,hM⟩,⟨hu.os,hu.tape,hu.output,hu.size,fun k hk hn=>hu.block k hk (fun e=>hn (.inr e)),fun k hk=>hk.elim (fun e=>.inl (.inl e)) (fun e=>(hu.fresh k e).imp .inr id)⟩⟩
theorem DocAt.End (h:DocAt w T pw pm s L M) (ok:L.Ok):Calls Tryz.prog 30 #[pm] w (RetU L.fin w):=by
 obtain ⟨G,b,q,m,c,fr,ys,rfl,hr,hl,ha,rfl,hM⟩:=h;exact hl.End ok
theorem DocAt.Free (h:DocAt w T pw pm s L M) (ok:L.Ok):Calls Tryz.prog 41 #[pm] w (RetI L.free w):=by
 obtain ⟨G,b,q,m,c,fr,ys,rfl,hr,hl,ha,rfl,hM⟩:=h;exact hl.Free ok
theorem DocAt.SetTail (h:DocAt w T pw pm s L M) (t:Nat):Calls Tryz.prog 32 #[pm,.int .u64 (t:Int)] w (RetD (.int .i64 (tailE L t)) s (tailL L t) M T pw pm w):=by
 obtain ⟨G,b,q,m,c,fr,ys,rfl,hr,hl,ha,rfl,hM⟩:=h
 exact (hl.SetTail t).mono fun _ _ h2=>RetD.of_rl hr hl ha hM h2
theorem DocAt.Reserve (h:DocAt w T pw pm s L M) (ok:L.Ok) (r:Int):Calls Tryz.prog 34 #[pm,.int .i64 r] w (RetD (.int .i64 (rsvE L r)) s (rsvL L r) M T pw pm w):=by
 obtain ⟨G,b,q,m,c,fr,ys,rfl,hr,hl,ha,rfl,hM⟩:=h
 exact (hl.Reserve ok r).mono fun _ _ h2=>RetD.of_rl hr hl ha hM h2
theorem DocAt.Release (h:DocAt w T pw pm s L M) (ok:L.Ok) (r:Int) (hr9:r≤9223372036854775807):Calls Tryz.prog 36 #[pm,.int .i64 r] w (RetD (.tuple #[]) s (relL L r) M T pw pm w):=by
 obtain ⟨G,b,q,m,c,fr,ys,rfl,hr,hl,ha,rfl,hM⟩:=h
 exact (hl.Release ok r hr9).mono fun _ _ h2=>RetD.of_rl hr hl ha hM h2
theorem DocAt.cells (h:DocAt w T pw pm s L M):∃ b,pm=.pointer (some ⟨b,0,none⟩)∧T b∧w.cell? ⟨b,2,none⟩=some (.int .u64 L.epoch)∧w.cell? ⟨b,3,none⟩=some (.int .u64 L.tail)∧w.cell? ⟨b,6,none⟩=some (.int .u64 L.lasts):=by
 obtain ⟨G,b,q,m,c,fr,ys,rfl,hr,hl,ha,rfl,hM⟩:=h;obtain ⟨_,_,c2,c3,_,_,c6,_⟩:=hl.blk.c9;exact ⟨b,rfl,.inr (.inl rfl),c2,c3,c6⟩
theorem DocAt.disk (h:DocAt w T pw pm s L M):∃ G,Rf w G pw s∧(∀ k,G k→T k)∧∀ s' G',Rf w' G' pw s'→Upd G G' w w'→∃ T',DocAt w' T' pw pm s' L M∧Upd T T' w w':=by
 obtain ⟨G,b,q,m,c,fr,ys,rfl,hr,hl,ha,rfl,hM⟩:=h;refine ⟨G,hr,fun k hk=>.inl hk,fun s' G' hd hu=>?_⟩;obtain ⟨h1,h2⟩:=hu.other hl.low ha;exact ⟨_,⟨G',b,q,m,c,fr,ys,rfl,hd,hl.stays h1 hu.size,h2,rfl,hM⟩,⟨hu.os,hu.tape,hu.output,hu.size,fun k hk hn=>hu.block k hk (fun e=>hn (.inl e)),fun k hk=>hk.elim (fun e=>(hu.fresh k e).imp .inl id) (fun e=>.inl (.inr e))⟩⟩
end
structure PrB (w0 w:World) (bp:Nat) (S T:Nat→Prop) (pd pw pl pm:Value) (s1:St) (L1:Lg) (s2:St) (L2:Lg) (M:Nat):Prop where
 blk:Blk w bp TPr #[pd,pw,pl,pm]
 code:CodeAt w S pd pl s1 L1
 doc:DocAt w T pw pm s2 L2 M
 ap:∀ k,S k→¬ T k
 nS:¬ S bp
 nT:¬ T bp
 gr:Gr w0 w
 lb:w0.heap.size≤bp
 lS:∀ k,S k→w0.heap.size≤k
 lT:∀ k,T k→w0.heap.size≤k
section
variable {w0 w w':World} {bp:Nat} {S T S' T':Nat→Prop} {pd pw pl pm:Value} {s1 s2 s':St} {L1 L2 L':Lg} {M M':Nat}
theorem PrB.up (h:PrB w0 w bp S T pd pw pl pm s1 L1 s2 L2 M) (g:Gr w w'):PrB w0 w' bp S T pd pw pl pm s1 L1 s2 L2 M:=
 ⟨h.blk.gr g,h.code.gr g,h.doc.gr g,h.ap,h.nS,h.nT,Gr.trans h.gr g,h.lb,h.lS,h.lT⟩
theorem PrB.codes (h:PrB w0 w bp S T pd pw pl pm s1 L1 s2 L2 M) (hc:CodeAt w' S' pd pl s' L') (hu:Upd S S' w w'):PrB w0 w' bp S' T pd pw pl pm s' L' s2 L2 M:=by
 obtain ⟨h1,h2⟩:=hu.other h.doc.low h.ap;obtain ⟨h3,h4⟩:=hu.other (G:=fun k=>k=bp) (fun k hk=>by rw [hk];exact h.blk.lt) (fun k hk e=>h.nS (e ▸ hk));exact ⟨h.blk.stays (h3 bp rfl),hc,h.doc.stays h1 hu.size,h2,fun hk=>h4 bp hk rfl,h.nT,Below.trans h.gr (hu.below h.gr.size h.lS),h.lb,hu.from h.gr.size h.lS,h.lT⟩
theorem PrB.docs (h:PrB w0 w bp S T pd pw pl pm s1 L1 s2 L2 M) (hc:DocAt w' T' pw pm s' L' M') (hu:Upd T T' w w'):PrB w0 w' bp S T' pd pw pl pm s1 L1 s' L' M':=by
 obtain ⟨h1,h2⟩:=hu.other h.code.low (fun k ht hs=>h.ap k hs ht);obtain ⟨h3,h4⟩:=hu.other (G:=fun k=>k=bp) (fun k hk=>by rw [hk];exact h.blk.lt) (fun k hk e=>h.nT (e ▸ hk));exact ⟨h.blk.stays (h3 bp rfl),h.code.stays h1 hu.size,hc,fun k hs ht=>h2 k ht hs,h.nS,fun hk=>h4 bp hk rfl,Below.trans h.gr (hu.below h.gr.size h.lT),h.lb,h.lS,hu.from h.gr.size h.lT⟩
end
end Go.Proofs.YtlijbgapkmfnaaaGreat
namespace Go.Proofs.YtlijbgapkmfnaaaGreat
open Go.RowKit
structure Sl where
 p:Option Addr
 n:Nat
 c:Nat
 xs:List Int
structure Shp (α:Type) where
 k:Nat
 cs:α→List Value
 sl:α→List Sl
 kpos:0 < k
 len:∀ x,(cs x).length=k
 one:∀ x,∀ u ∈ cs x,u.oneCell'=true
theorem Byt.grown {w w':World} {p:Option Addr} {n c:Nat} {xs:List Int} {row:Option Nat} (h:Byt w p n c xs) (g:w.grownBy w' row) (hr:0 < n→∀ y,p=some y→row≠some y.block):Byt w' p n c xs:=
 ⟨h.len,h.cap,h.most,fun hn=>by
  obtain ⟨b,o,rfl,hc⟩:=h.at hn
  refine ⟨b,o,rfl,fun i hi=>?_⟩;rw [← hc i hi]
  exact World.cell?_of_block (g.block b (blk_lt (hc i hi)) (fun e=>hr hn _ rfl e.symm)),h.nilCap,h.small⟩
def Shp.flat {α:Type} (S:Shp α) (L:List α):List Value:=(L.map S.cs).flatten
theorem Shp.flat_snoc {α:Type} (S:Shp α) (L:List α) (x:α):S.flat (L++[x])=S.flat L++S.cs x:=by simp [Shp.flat]
theorem Shp.flat_at {α:Type} (S:Shp α):∀ (L:List α) (i:Nat) (h:i < L.length) (j:Nat),j < S.k→(S.flat L)[i*S.k+j]?=(S.cs L[i])[j]?
 | [],i,h,_,_=>by simp at h
 | x :: L,0,_,j,hj=>by
  unfold Shp.flat
  rw [List.map_cons,List.flatten_cons,Nat.zero_mul,Nat.zero_add,List.getElem?_append_left (by rw [S.len];exact hj)]
  rfl
 | x :: L,i+1,h,j,hj=>by
  have h2:=S.flat_at L i (by simpa using h) j hj
  unfold Shp.flat at *
  rw [List.map_cons,List.flatten_cons,List.getElem?_append_right (by rw [S.len,Nat.add_mul];omega),S.len];rw [show (i+1)*S.k+j - S.k=i*S.k+j by rw [Nat.add_mul];omega,h2]
  rfl
def Sl.In (s:Sl) (w:World) (v:Value):Prop:=Byt w s.p s.n s.c s.xs∧(0 < s.n→∀ y,s.p=some y→v.ownBlock≠some y.block)
structure OwnR {α:Type} (S:Shp α) (w:World) (base:Nat) (T:TypeId) (v:Value) (L:List α):Prop where
 row:w.ownsRow base T S.k v L.length (S.flat L)
 each:∀ x ∈ L,∀ s ∈ S.sl x,s.In w v
theorem OwnR.nil {α:Type} (S:Shp α) (w:World) (base:Nat) (T:TypeId):OwnR S w base T (.slice none 0 0) []:=⟨World.ownsRow_nil _ _ _ _,fun _ h=>by cases h⟩
theorem OwnR.gr {α:Type} {S:Shp α} {w w':World} {base:Nat} {T:TypeId} {v:Value} {L:List α} (h:OwnR S w base T v L) (g:Gr w w'):OwnR S w' base T v L:=by
 refine ⟨⟨h.row.1,?_⟩,fun x hx s hs=>⟨(h.each x hx s hs).1.kept g,(h.each x hx s hs).2⟩⟩
 rcases h.row.2 with h2 | ⟨b,cap,cur,e,h0,hg,r⟩
 · exact .inl h2
 · exact .inr ⟨b,cap,cur,e,h0,(g.block b (Array.getElem?_eq_some_iff.1 hg).1).trans hg,r⟩
theorem OwnR.grown {α:Type} {S:Shp α} {w w':World} {base:Nat} {T:TypeId} {v:Value} {L:List α} {row:Option Nat} (h:OwnR S w base T v L) (g:w.grownBy w' row) (h1:v.ownBlock=none∨v.ownBlock≠row) (h2:∀ x ∈ L,∀ s ∈ S.sl x,0 < s.n→∀ y,s.p=some y→row≠some y.block):OwnR S w' base T v L:=
 ⟨h.row.kept g h1,fun x hx s hs=>⟨(h.each x hx s hs).1.grown g (h2 x hx s hs),(h.each x hx s hs).2⟩⟩
theorem OwnR.shape {α:Type} {S:Shp α} {w:World} {base:Nat} {T:TypeId} {v:Value} {L:List α} (h:OwnR S w base T v L) (m:Nat) (hm:L.length=m):∃ p c,v=.slice p m c∧m≤c∧c≤maxLen∧(∀ a,p=some a→base≤a.block)∧(p=none→c=0):=by
 rcases h.row.2 with ⟨rfl,hn⟩ | ⟨g,cap,cur,rfl,hb,_,h1,h2,_⟩
 · exact ⟨none,0,by rw [← hm,hn],by omega,Nat.zero_le _,(fun _ h=>by cases h),fun _=>rfl⟩
 · exact ⟨_,cap,by rw [hm],by omega,h2,(fun a h=>by cases h;exact hb),fun h=>by cases h⟩
theorem OwnR.base_le {α:Type} {S:Shp α} {w:World} {B B':Nat} {T:TypeId} {v:Value} {L:List α} (h:OwnR S w B T v L) (hb:B'≤B):OwnR S w B' T v L:=by
 refine ⟨⟨h.row.1,?_⟩,h.each⟩
 rcases h.row.2 with h2 | ⟨b,cap,cur,e,h0,r⟩
 · exact .inl h2
 · exact .inr ⟨b,cap,cur,e,Nat.le_trans hb h0,r⟩
theorem OwnR.base {α:Type} {S:Shp α} {w:World} {B:Nat} {T:TypeId} {v:Value} {L:List α} (h:OwnR S w B T v L):∀ k,v.ownBlock=some k→B≤k∧k < w.heap.size:=h.row.lt
theorem OwnR.at {α:Type} {S:Shp α} {w:World} {base:Nat} {T:TypeId} {v:Value} {L:List α} (h:OwnR S w base T v L) (h0:0 < L.length):∃ g cap,v=.slice (some ⟨g,0,none⟩) L.length cap∧base≤g∧g < w.heap.size∧∀ i (hi:i < L.length) j,j < S.k→w.cell? ⟨g,i*S.k+j,none⟩=(S.cs L[i])[j]?:=by
 rcases h.row.2 with ⟨_,hn⟩ | ⟨g,cap,cur,rfl,hb,hg,h1,h2,h3,h4⟩
 · omega
 ·
  refine ⟨g,cap,rfl,hb,(Array.getElem?_eq_some_iff.1 hg).1,fun i hi j hj=>?_⟩
  rw [cell_of_row w g _ cur T (0,0) hg,← S.flat_at L i hi j hj,← h4,List.getElem?_take,if_pos (by
   have:(i+1)*S.k≤L.length*S.k:=Nat.mul_le_mul_right _ (by omega)
   rw [Nat.add_mul] at this
   omega)]
  simp
theorem wpList_app_row {α:Type} (S:Shp α) {P:Program} {tS T:TypeId} {zero:Value} {bytes:Nat} (us:P.underlying tS=some (.slice T)) (info:(P.info? T).map (fun i=>(i.zero,i.size,i.bytes))=some (some zero,S.k,bytes)) (hz:zero.cells.size=S.k)
  {w:World} {ops:Array Oper} {rest:List Oper} {o:Oper} {a:Act} {Q:Exit→Act→World→Prop} (hgd:o.guard=none) (s x:Operand)
  (ho:o.op=.call { callee:=.builtin .append,args:=#[s,x],argTypes:=#[tS,tS] }) (base:Nat) (v:Value) (L:List α) (hs:a.eval s=v) (hown:OwnR S w base T v L)
  (q:Nat) (hx:a.eval x=.slice (some ⟨q,0,none⟩) 1 1) (y:α) (hq:∀ j,j < S.k→w.cell? ⟨q,j,none⟩=(S.cs y)[j]?) (hy:∀ s ∈ S.sl y,s.In w v) (hlen:(L.length+1)*bytes≤140737488355328) (hl2:L.length+1≤100000000000) (hbase:base≤w.heap.size)
  (h:∀ v' w',OwnR S w' base T v' (L++[y])→w.grownBy w' v.ownBlock→(v'.ownBlock=v.ownBlock∨v'.ownBlock=some w.heap.size)→wpList P ops Q rest (a.put o.dst v') w'):wpList P ops Q (o :: rest) a w:=by
 obtain ⟨i,hi,hz0,hz1,hz2⟩:=info_parts info
 refine wpList_plain hgd fun K hK=>?_
 have hnews:∀ j u,(S.cs y)[j]?=some u→w.cell? ((⟨q,0,none⟩:Addr).add j)=some u:=by
  intro j u hj
  have hlt:j < S.k:=by rw [← S.len y];exact (List.getElem?_eq_some_iff.1 hj).1
  rw [Addr.add_lit,Nat.zero_add,hq j hlt,hj]
 obtain ⟨v',w',hrun,h1,h2,_,h3⟩:=run_append_own_at (P:=P) w base tS o.type T i zero S.k bytes us hi hz0 hz1 hz2 hz S.kpos v L.length _ hown.row ⟨q,0,none⟩ 1 1 (S.cs y) (by rw [S.len,Nat.one_mul]) hnews (S.one y) (by unfold maxLen;omega) hlen hbase
 unfold Oper.wp execOp
 simp only [ho,resolve,invoke,builtin,Sem.run_bind,Sem.run_pure,Result.andThen_ok,List.map_toArray,List.map_cons,List.map_nil,hs,hx,hrun]
 have apart:∀ z:Sl,z.In w v→z.In w' v':=fun z hz=>⟨hz.1.grown h2 hz.2,fun h0 p hp=>by
  rcases h3 with h3 | h3
  · rw [h3];exact hz.2 h0 p hp
  ·
   rw [h3]
   obtain ⟨b,off,e,hc⟩:=hz.1.at h0
   rw [e] at hp
   cases hp
   have hlt:b < w.heap.size:=blk_lt (hc 0 h0)
   intro e2
   have e3:w.heap.size=b:=Option.some.inj e2
   omega⟩
 refine hK _ _ (h v' w' ⟨?_,fun z hz sl hsl=>?_⟩ h2 h3)
 · rw [S.flat_snoc,List.length_append];exact h1
 ·
  rcases List.mem_append.1 hz with hz | hz
  · exact apart sl (hown.each z hz sl hsl)
  · obtain rfl:=List.mem_singleton.1 hz;exact apart sl (hy sl hsl)
end Go.Proofs.YtlijbgapkmfnaaaGreat
