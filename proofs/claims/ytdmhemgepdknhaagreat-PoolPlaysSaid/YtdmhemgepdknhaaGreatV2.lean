/-
  Texts, put together: Pag Sec Disk Pool1 Disk1.
-/
import Derived.Test.YtdmhemgepdknhaaGreatProg
import Derived.WalkKit
import Derived.WalkSpells
import Derived.WalkLawsBesides
import Derived.Handy
import Derived.Laws.AppendOwnNone
import Derived.Deep.MidRow
import Derived.Deep.WholeRow
import Derived.Deep.RegionLaw
import Derived.ProofKit
import Derived.Lib.Hide
import Derived.Stop.BytesEq
import Derived.Carry
import Derived.Laws.CopyOwn
import Derived.Maps.Own
import Derived.Maps.OwnOps
import Derived.Maps.OwnSet
import Derived.Maps.Views
import Derived.Test.YtdmhemgepdknhaaGreatV1
set_option linter.unusedVariables false
set_option linter.unusedSimpArgs false
namespace Go.Proofs.YtdmhemgepdknhaaGreat
open Go.RowKit
open Extern.Stop (cell)
abbrev PTS:TypeId:=35
structure PSec where
 bytes:List UInt8
 len:bytes.length=248
theorem PSec.ext {s t:PSec} (h:s.bytes=t.bytes):s=t:=by
 cases s;cases t;cases h;rfl
instance:DecidableEq PSec:=fun s t=>if h:s.bytes=t.bytes then isTrue (PSec.ext h) else isFalse (fun e=>h (by rw [e]))
def PSec.cells (s:PSec):List Value:=s.bytes.map cell
def Psec (s:PSec):Array Value:=s.cells.toArray
theorem PSec.cells_len (s:PSec):s.cells.length=248:=by unfold PSec.cells;rw [List.length_map,s.len]
theorem Psec_size (s:PSec):(Psec s).size=248:=by unfold Psec;simp [PSec.cells_len]
theorem Psec_list (s:PSec):(Psec s).toList=s.cells:=rfl
theorem PSec.one (s:PSec):∀ v ∈ s.cells,v.oneCell'=true:=by
 intro v hv
 obtain ⟨x,_,rfl⟩:=List.mem_map.1 hv
 rfl
theorem Psec_one (s:PSec):(Psec s).all (·.oneCell')=true:=all_oneCell_toArray s.one
def PSec.zero:PSec:=⟨List.replicate 248 0,List.length_replicate ..⟩
theorem Psize_sec:(Tryz.prog.info? PTS).map (·.size)=some 248:=by kernel_rfl
theorem Pzero_sec (w:World):(zeroValue PTS).run Tryz.prog w=.ok (.agg (Psec PSec.zero)) w:=
 (zero_of_info (n:=248) (show (Tryz.prog.info? PTS).map (fun i=>(i.zero,i.size))=some (some (.agg (Psec PSec.zero)),248) by kernel_rfl)).1 w
theorem Punder_sec:Tryz.prog.underlying PTS=some (.array 248 5):=Tryz.underlying35
theorem Psize_u8 (w:World):(sizeOf 5).run Tryz.prog w=.ok 1 w:=by
 have h:(Tryz.prog.info? 5).map (·.size)=some 1:=by kernel_rfl
 cases hq:Tryz.prog.info? 5 with
 | none=>rw [hq] at h;cases h
 | some i=>rw [hq] at h;simp at h;simp [sizeOf,typeInfo,hq,h]
theorem Peqi_sec (s t:PSec) (w:World):(Op.equalIn 10000 PTS (.agg (Psec s)) (.agg (Psec t))).run Tryz.prog w=.ok (decide (s=t)) w:=by
 have h:=run_equalIn_bytes (P:=Tryz.prog) w 9998 PTS 5 248 Punder_sec Tryz.underlying5 Psize_u8 s.bytes t.bytes s.len t.len
 have e:(s.bytes == t.bytes)=decide (s=t):=by
  by_cases h:s=t
  · subst h;simp
  ·
   have:¬ s.bytes=t.bytes:=fun e=>h (PSec.ext e)
   simp [h,this]
 rw [← e];exact h
theorem Pneq_sec (s t:PSec) (w:World):(binOp .neq PTS (.agg (Psec s)) (.agg (Psec t))).run Tryz.prog w=.ok (.bool (!decide (s=t))) w:=by
 rw [run_neq_struct,Peqi_sec];rfl
theorem Pheap_setCells_other (b:Nat):∀ (vs:List Value) (o:Nat) (w:World) (k:Nat),k≠b→(w.setCells b o vs).heap[k]?=w.heap[k]?
 | [],_,_,_,_=>rfl
 | v :: r,o,w,k,h=>by
  rw [World.setCells,Pheap_setCells_other b r (o+1) _ k h];exact Below.heap_setCell w ⟨b,o,none⟩ v k h
theorem Pheap_setCells_same (b:Nat) (t:TypeId):∀ (vs:List Value) (o:Nat) (w:World) (cur:Array Value),w.heap[b]?=some (.cells cur t (0,0))→o+vs.length≤cur.size →
  (w.setCells b o vs).heap[b]?=some (.cells (cur.toList.take o++vs++cur.toList.drop (o+vs.length)).toArray t (0,0))
 | [],o,w,cur,h,_=>by simpa [World.setCells] using h
 | v :: r,o,w,cur,h,hl=>by
  have hl':o < cur.size:=by simp at hl;omega
  have h1:=heap_setCell_same w b o cur t v h;rw [World.setCells,Pheap_setCells_same b t r (o+1) _ _ h1 (by simp at hl ⊢;omega)]
  congr 2
  apply congrArg List.toArray
  have e1:(cur.setIfInBounds o v).toList=cur.toList.set o v:=by simp
  rw [e1,List.set_eq_take_append_cons_drop,if_pos (by simpa using hl')]
  have ht:(cur.toList.take o).length=o:=by simp;omega
  generalize cur.toList.take o=A at ht ⊢
  have h2:List.take (o+1) (A++v :: List.drop (o+1) cur.toList)=A++[v]:=by
   rw [List.take_append,ht,List.take_of_length_le (by omega),show o+1 - o=1 by omega];rfl
  have h3:List.drop (o+1+r.length) (A++v :: List.drop (o+1) cur.toList)=List.drop (o+(v :: r).length) cur.toList:=by
   rw [List.drop_append,ht,List.drop_of_length_le (by omega),List.nil_append,show o+1+r.length - o=r.length+1 by omega,List.drop_succ_cons,List.drop_drop]
   congr 1
   simp;omega
  rw [h2,h3]
  simp
theorem PsetCells_os (b:Nat):∀ (vs:List Value) (o:Nat) (w:World),(w.setCells b o vs).os=w.os∧(w.setCells b o vs).tape=w.tape∧(w.setCells b o vs).output=w.output∧(w.setCells b o vs).heap.size=w.heap.size
 | [],_,_=>⟨rfl,rfl,rfl,rfl⟩
 | v :: r,o,w=>by
  obtain ⟨h1,h2,h3,h4⟩:=PsetCells_os b r (o+1) (w.setCell ⟨b,o,none⟩ v);exact ⟨h1,h2,h3,by rw [World.setCells,h4];simp [World.setCell]⟩
end Go.Proofs.YtdmhemgepdknhaaGreat
namespace Go.Proofs.YtdmhemgepdknhaaGreat
open Go.RowKit
open Extern.Stop (cell)
def PSx (xs:List Int):PSec:=if h:xs.length=248 then ⟨xs.map fun x=>UInt8.ofNat x.toNat,by rw [List.length_map,h]⟩ else PSec.zero
structure PIsSec (xs:List Int):Prop where
 len:xs.length=248
 small:Wd.Small xs
theorem Pcell_of {x:Int} (h:0≤x∧x < 256):cell (UInt8.ofNat x.toNat)=.int .u8 x:=by
 obtain ⟨y,rfl⟩:=Int.eq_ofNat_of_zero_le h.1
 have:y % 256=y:=by omega
 simp [cell,UInt8.toNat_ofNat',this]
theorem PSx_bytes {xs:List Int} (h:xs.length=248):(PSx xs).bytes=xs.map fun x=>UInt8.ofNat x.toNat:=by simp [PSx,h]
theorem PSx_cells {xs:List Int} (h:PIsSec xs):(PSx xs).cells=xs.map (Value.int .u8):=by
 unfold PSec.cells
 rw [PSx_bytes h.len,List.map_map]
 apply List.map_congr_left
 intro x hx
 exact Pcell_of (h.small x hx)
theorem PSx_zero:PSx (List.replicate 248 0)=PSec.zero:=by
 have h:(List.replicate 248 (0:Int)).length=248:=List.length_replicate ..
 apply PSec.ext
 rw [PSx_bytes h,List.map_replicate]
 rfl
def Play (xs:List Int) (F:Nat) (ys:List Int):List Int:=xs.take F++(ys++xs.drop (F+ys.length))
theorem Play_sec {xs ys:List Int} {F:Nat} (h:PIsSec xs) (k:Wd.Small ys) (hf:F+ys.length≤248):PIsSec (Play xs F ys):=
 ⟨by have:=h.len;simp [Play];omega,(h.small.take F).app (k.app (h.small.drop _))⟩
theorem Play_cells {xs ys:List Int} {F:Nat} (h:PIsSec xs) (k:Wd.Small ys) (hf:F+ys.length≤248) :
  ((Psec (PSx xs)).toList.take F++(ys.map (Value.int .u8)++(Psec (PSx xs)).toList.drop (F+(ys.map (Value.int .u8)).length))).toArray=Psec (PSx (Play xs F ys)):=by
 rw [Psec_list,PSx_cells h]
 unfold Psec
 rw [PSx_cells (Play_sec h k hf)]
 simp [Play]
theorem Pbt4:BT Tryz.prog 31 5:=⟨Tryz.underlying31,by kernel_rfl⟩
theorem Pbt4_size:(Tryz.prog.info? 5).map (·.size)=some 1:=by kernel_rfl
theorem Pstep_copy_sec {w:World} {ops:Array Oper} {o:Oper} {a:Act} {K:Act→World→Prop} {Q:Exit→Act→World→Prop} {E:Prop} (hgd:o.guard=none) (d s:Operand)
  (ho:o.op=.call { callee:=.builtin .copy,args:=#[d,s],argTypes:=#[31,31] }) {g F L C:Nat} {xs:List Int} (hd:a.eval d=.slice (some ⟨g,F,none⟩) L C) (hb:Blk w g PTS (Psec (PSx xs))) (hx:PIsSec xs)
  {q:Option Addr} {m c:Nat} {ys:List Int} (hs:a.eval s=.slice q m c) (hy:Byt w q m c ys) (hm:0 < m) (hL:m≤L) (hf:F+m≤248)
  (h:K (a.put o.dst (goInt m)) (w.setRow g (Psec (PSx (Play xs F ys))))):if Region.wanted o (yielded ops a.tmps)=true then Oper.wp Tryz.prog o a w K Q else E:=by
 have hw:Region.wanted o (yielded ops a.tmps)=true:=by simp [Region.wanted,hgd]
 rw [if_pos hw]
 obtain ⟨b,of,rfl,_⟩:=hy.at hm
 have hl:=hy.len;have hrun:=run_copy_row (P:=Tryz.prog) w 31 31 o.type 5 g F L C ⟨b,of,none⟩ m c (Psec (PSx xs)) PTS (ys.map (Value.int .u8)) Pbt4.us Pbt4_size hb (by rw [List.length_map,hl];exact (Nat.min_eq_left hL).symm) hy.news (by rw [List.length_map,hl,Psec_size];exact hf) (u8s_oneCell _)
 rw [List.append_assoc,Play_cells hx hy.small (by rw [hl];exact hf),List.length_map,hl] at hrun
 unfold Oper.wp
 simp only [execOp,ho,resolve,invoke,builtin]
 simp [hd,hs,hrun,Result.andThen]
 exact h
theorem PwpList_load_x {ops:Array Oper} {rest:List Oper} {op:Oper} {a:Act} {w:World} {Q:Exit→Act→World→Prop} (hgd:op.guard=none) (x:Operand) (ho:op.op=.load PTS x)
  {g:Nat} {s:PSec} (hb:Blk w g PTS (Psec s)) (hx:a.eval x=.pointer (some ⟨g,0,none⟩))
  (h:wpList Tryz.prog ops Q rest (a.put op.dst (.agg (Psec s))) w):wpList Tryz.prog ops Q (op :: rest) a w:=
 wpList_load_row hgd PTS x ho g hx PTS (Psec s) (0,0) _ hb Punder_sec rfl (by rw [Psec_size];exact Psize_sec) h
theorem PwpList_store_x {ops:Array Oper} {rest:List Oper} {op:Oper} {a:Act} {w:World} {Q:Exit→Act→World→Prop} (hgd:op.guard=none) (x y:Operand) (ho:op.op=.store PTS x y)
  {g:Nat} {old s:PSec} (hb:Blk w g PTS (Psec old)) (hx:a.eval x=.pointer (some ⟨g,0,none⟩)) (hy:a.eval y=.agg (Psec s))
  (h:wpList Tryz.prog ops Q rest (a.put op.dst undef) (w.setRow g (Psec s))):wpList Tryz.prog ops Q (op :: rest) a w:=
 wpList_store_row hgd PTS x y ho g (Psec s) hx hy PTS (Psec old) hb (by rw [Psec_size];exact Psize_sec) (by rw [Psec_size,Psec_size]) (Psec_one s) h
theorem Presults_x {fn:Func} {p:Tmp} (h:fn.results=#[.cell p PTS]) (tmps:Array Value) (w:World) (g:Nat) (s:PSec)
  (hp:tmps.getD p undef=.pointer (some ⟨g,0,none⟩)) (hb:Blk w g PTS (Psec s)):(results fn tmps).run Tryz.prog w=.ok (.agg (Psec s)) w:=
 results_cell_row h tmps w g PTS (Psec s) (0,0) _ hp hb Punder_sec rfl (by rw [Psec_size];exact Psize_sec)
end Go.Proofs.YtdmhemgepdknhaaGreat
namespace Go.Proofs.YtdmhemgepdknhaaGreat
open Go.RowKit
open Extern.Stop (cell)
abbrev TS:TypeId:=60
structure Sec where
 bytes:List UInt8
 len:bytes.length=256
theorem Sec.ext {s t:Sec} (h:s.bytes=t.bytes):s=t:=by
 cases s;cases t;cases h;rfl
instance:DecidableEq Sec:=fun s t=>if h:s.bytes=t.bytes then isTrue (Sec.ext h) else isFalse (fun e=>h (by rw [e]))
def Sec.cells (s:Sec):List Value:=s.bytes.map cell
def sec (s:Sec):Array Value:=s.cells.toArray
theorem Sec.cells_len (s:Sec):s.cells.length=256:=by unfold Sec.cells;rw [List.length_map,s.len]
theorem sec_size (s:Sec):(sec s).size=256:=by unfold sec;simp [Sec.cells_len]
theorem sec_list (s:Sec):(sec s).toList=s.cells:=rfl
theorem Sec.one (s:Sec):∀ v ∈ s.cells,v.oneCell'=true:=by
 intro v hv
 obtain ⟨x,_,rfl⟩:=List.mem_map.1 hv
 rfl
theorem sec_one (s:Sec):(sec s).all (·.oneCell')=true:=all_oneCell_toArray s.one
def Sec.zero:Sec:=⟨List.replicate 256 0,List.length_replicate ..⟩
theorem info_sec:(Tryz.prog.info? TS).map (fun i=>(i.zero,i.size,i.bytes))=some (some (.agg (sec Sec.zero)),256,256):=by kernel_rfl
theorem size_sec:(Tryz.prog.info? TS).map (·.size)=some 256:=by kernel_rfl
theorem zero_sec (w:World):(zeroValue TS).run Tryz.prog w=.ok (.agg (sec Sec.zero)) w:=
 (zero_of_info (n:=256) (show (Tryz.prog.info? TS).map (fun i=>(i.zero,i.size))=some (some (.agg (sec Sec.zero)),256) by kernel_rfl)).1 w
theorem under_sec:Tryz.prog.underlying TS=some (.array 256 5):=Tryz.underlying60
theorem size_u8 (w:World):(sizeOf 5).run Tryz.prog w=.ok 1 w:=by
 have h:(Tryz.prog.info? 5).map (·.size)=some 1:=by kernel_rfl
 cases hq:Tryz.prog.info? 5 with
 | none=>rw [hq] at h;cases h
 | some i=>rw [hq] at h;simp at h;simp [sizeOf,typeInfo,hq,h]
theorem eqi_sec (s t:Sec) (w:World):(Op.equalIn 10000 TS (.agg (sec s)) (.agg (sec t))).run Tryz.prog w=.ok (decide (s=t)) w:=by
 have h:=run_equalIn_bytes (P:=Tryz.prog) w 9998 TS 5 256 under_sec Tryz.underlying5 size_u8 s.bytes t.bytes s.len t.len
 have e:(s.bytes == t.bytes)=decide (s=t):=by
  by_cases h:s=t
  · subst h;simp
  ·
   have:¬ s.bytes=t.bytes:=fun e=>h (Sec.ext e)
   simp [h,this]
 rw [← e];exact h
theorem neq_sec (s t:Sec) (w:World):(binOp .neq TS (.agg (sec s)) (.agg (sec t))).run Tryz.prog w=.ok (.bool (!decide (s=t))) w:=by
 rw [run_neq_struct,eqi_sec];rfl
theorem built_zero:Tryz.prog.built TS []=some (sec Sec.zero):=by kernel_rfl
def cellsOf (ss:List Sec):List Value:=ss.flatMap Sec.cells
theorem cellsOf_len (ss:List Sec):(cellsOf ss).length=ss.length*256:=by
 induction ss with
 | nil=>rfl
 | cons s r ih=>unfold cellsOf at *;rw [List.flatMap_cons,List.length_append,ih,s.cells_len,List.length_cons];omega
theorem cellsOf_app (ss ts:List Sec):cellsOf (ss++ts)=cellsOf ss++cellsOf ts:=by unfold cellsOf;exact List.flatMap_append
theorem cellsOf_one (s:Sec):cellsOf [s]=s.cells:=by unfold cellsOf;simp
theorem cellsOf_each (ss:List Sec):∀ v ∈ cellsOf ss,v.oneCell'=true:=by
 intro v hv
 obtain ⟨s,_,h⟩:=List.mem_flatMap.1 hv;exact s.one v h
theorem cellsOf_at:∀ (ss:List Sec) (i:Nat) (h:i < ss.length) (j:Nat),j < 256→(cellsOf ss)[i*256+j]?=(ss[i]).cells[j]?
 | s :: r,0,_,j,hj=>by
  unfold cellsOf
  rw [List.flatMap_cons,List.getElem?_append_left (by rw [s.cells_len];omega)]
  simp
 | s :: r,i+1,h,j,hj=>by
  have ih:=cellsOf_at r i (by simpa using h) j hj
  unfold cellsOf at *
  rw [List.flatMap_cons,List.getElem?_append_right (by rw [s.cells_len];omega),s.cells_len,show (i+1)*256+j - 256=i*256+j by omega,ih]
  simp
theorem cellsOf_split (ss:List Sec) (i:Nat):cellsOf ss=cellsOf (ss.take i)++cellsOf (ss.drop i):=by rw [← cellsOf_app,List.take_append_drop]
theorem cellsOf_take (ss:List Sec) (i:Nat) (h:i≤ss.length):(cellsOf ss).take (i*256)=cellsOf (ss.take i):=by
 rw [cellsOf_split ss i,List.take_left' (by rw [cellsOf_len,List.length_take,Nat.min_eq_left h])]
theorem cellsOf_drop (ss:List Sec) (i:Nat) (h:i≤ss.length):(cellsOf ss).drop (i*256)=cellsOf (ss.drop i):=by
 rw [cellsOf_split ss i,List.drop_left' (by rw [cellsOf_len,List.length_take,Nat.min_eq_left h])]
theorem cellsOf_set (ss:List Sec) (i:Nat) (h:i < ss.length) (s:Sec):cellsOf (ss.set i s)=(cellsOf ss).take (i*256)++s.cells++(cellsOf ss).drop (i*256+256):=by
 rw [cellsOf_take ss i (by omega),show i*256+256=(i+1)*256 by omega,cellsOf_drop ss (i+1) (by omega)];rw [List.set_eq_take_append_cons_drop,if_pos h,cellsOf_app,← List.singleton_append,cellsOf_app,cellsOf_one,List.append_assoc]
def Row (w:World) (v:Value) (ss:List Sec):Prop:=w.ownsRow 0 TS 256 v ss.length (cellsOf ss)
theorem Row.empty (w:World):Row w (.slice none 0 0) []:=World.ownsRow_nil _ _ _ _
theorem Row.form {w:World} {v:Value} {ss:List Sec} (h:Row w v ss):(v=.slice none 0 0∧ss=[])∨∃ g c,v=.slice (some ⟨g,0,none⟩) ss.length c∧g < w.heap.size∧ss.length≤c∧c≤maxLen:=by
 rcases h.2 with ⟨rfl,h0⟩ | ⟨g,cap,cur,rfl,_,hg,hn,hm,_⟩
 · exact .inl ⟨rfl,List.eq_nil_of_length_eq_zero h0⟩
 · exact .inr ⟨g,cap,rfl,(Array.getElem?_eq_some_iff.1 hg).1,hn,hm⟩
theorem Row.full {w:World} {v:Value} {ss:List Sec} (h:Row w v ss) (hn:ss≠[]):∃ g c,v=.slice (some ⟨g,0,none⟩) ss.length c∧g < w.heap.size∧ss.length≤c∧c≤maxLen:=by
 rcases h.form with ⟨_,h0⟩ | h
 · exact absurd h0 hn
 · exact h
theorem Row.stays {w w':World} {v:Value} {ss:List Sec} (h:Row w v ss) (hb:∀ g,v.ownBlock=some g→w'.heap[g]?=w.heap[g]?):Row w' v ss:=by
 refine ⟨h.1,?_⟩
 rcases h.2 with h2 | ⟨g,cap,cur,rfl,h0,hg,r⟩
 · exact .inl h2
 · exact .inr ⟨g,cap,cur,rfl,h0,(hb g rfl).trans hg,r⟩
theorem Row.lt {w:World} {v:Value} {ss:List Sec} (h:Row w v ss):∀ g,v.ownBlock=some g→g < w.heap.size:=fun g hg=>(World.ownsRow.lt h g hg).2
theorem Row.kept {w w':World} {B:Nat} {v:Value} {ss:List Sec} (h:Row w v ss) (hb:Below B w w') (hB:∀ g,v.ownBlock=some g→g < B):Row w' v ss:=h.stays fun g hg=>hb.block g (hB g hg)
theorem Row.gr {w w':World} {v:Value} {ss:List Sec} (h:Row w v ss) (hb:Below w.heap.size w w'):Row w' v ss:=h.kept hb h.lt
theorem Row.kind {w:World} {v:Value} {ss:List Sec} (h:Row w v ss) {g:Nat} (hg:v.ownBlock=some g):∃ cs,w.heap[g]?=some (.cells cs TS (0,0)):=by
 rcases h.2 with ⟨rfl,_⟩ | ⟨g',cap,cur,rfl,_,h2,_⟩
 · cases hg
 · cases hg;exact ⟨_,h2⟩
theorem Row.lies {w:World} {g n c:Nat} {ss:List Sec} (h:Row w (.slice (some ⟨g,0,none⟩) n c) ss) (i:Nat) (hi:i < ss.length):w.rangeAt g (i*256) (ss[i]).cells:=by
 rcases h.2 with ⟨h0,_⟩ | ⟨g',cap,cur,h0,_,hg,hn,hm,hs,ht⟩
 · cases h0
 ·
  cases h0
  intro j v hv
  have hj:j < 256:=by have:=(List.getElem?_eq_some_iff.1 hv).1;rwa [Sec.cells_len] at this
  rw [← hv,← cellsOf_at ss i hi j hj,cell_of_row w g _ cur TS (0,0) hg,← ht,List.getElem?_take,if_pos (by omega)]
  simp
theorem Row.there {w:World} {g n c:Nat} {ss:List Sec} (h:Row w (.slice (some ⟨g,0,none⟩) n c) ss) (i:Nat) (hi:i < ss.length):w.there g (i*256) 256:=by
 intro j hj
 have hl:=h.lies i hi
 rcases h.2 with ⟨h0,_⟩ | ⟨g',cap,cur,h0,_,hg,hn,hm,hs,ht⟩
 · cases h0
 ·
  cases h0
  refine ⟨?_,frozen_of_row w g _ cur TS hg⟩
  have hjl:j < (ss[i]).cells.length:=by rw [Sec.cells_len];exact hj
  rw [hl j _ (List.getElem?_eq_getElem hjl)]
  rfl
theorem heap_setCells_other (b:Nat):∀ (vs:List Value) (o:Nat) (w:World) (k:Nat),k≠b→(w.setCells b o vs).heap[k]?=w.heap[k]?
 | [],_,_,_,_=>rfl
 | v :: r,o,w,k,h=>by
  rw [World.setCells,heap_setCells_other b r (o+1) _ k h];exact Below.heap_setCell w ⟨b,o,none⟩ v k h
theorem heap_setCells_same (b:Nat) (t:TypeId):∀ (vs:List Value) (o:Nat) (w:World) (cur:Array Value),w.heap[b]?=some (.cells cur t (0,0))→o+vs.length≤cur.size →
  (w.setCells b o vs).heap[b]?=some (.cells (cur.toList.take o++vs++cur.toList.drop (o+vs.length)).toArray t (0,0))
 | [],o,w,cur,h,_=>by simpa [World.setCells] using h
 | v :: r,o,w,cur,h,hl=>by
  have hl':o < cur.size:=by simp at hl;omega
  have h1:=heap_setCell_same w b o cur t v h;rw [World.setCells,heap_setCells_same b t r (o+1) _ _ h1 (by simp at hl ⊢;omega)]
  congr 2
  apply congrArg List.toArray
  have e1:(cur.setIfInBounds o v).toList=cur.toList.set o v:=by simp
  rw [e1,List.set_eq_take_append_cons_drop,if_pos (by simpa using hl')]
  have ht:(cur.toList.take o).length=o:=by simp;omega
  generalize cur.toList.take o=A at ht ⊢
  have h2:List.take (o+1) (A++v :: List.drop (o+1) cur.toList)=A++[v]:=by
   rw [List.take_append,ht,List.take_of_length_le (by omega),show o+1 - o=1 by omega];rfl
  have h3:List.drop (o+1+r.length) (A++v :: List.drop (o+1) cur.toList)=List.drop (o+(v :: r).length) cur.toList:=by
   rw [List.drop_append,ht,List.drop_of_length_le (by omega),List.nil_append,show o+1+r.length - o=r.length+1 by omega,List.drop_succ_cons,List.drop_drop]
   congr 1
   simp;omega
  rw [h2,h3]
  simp
theorem setCells_os (b:Nat):∀ (vs:List Value) (o:Nat) (w:World),(w.setCells b o vs).os=w.os∧(w.setCells b o vs).tape=w.tape∧(w.setCells b o vs).output=w.output∧(w.setCells b o vs).heap.size=w.heap.size
 | [],_,_=>⟨rfl,rfl,rfl,rfl⟩
 | v :: r,o,w=>by
  obtain ⟨h1,h2,h3,h4⟩:=setCells_os b r (o+1) (w.setCell ⟨b,o,none⟩ v);exact ⟨h1,h2,h3,by rw [World.setCells,h4];simp [World.setCell]⟩
theorem put_list (l x:List Value) (o L K:Nat) (hx:x.length=K) (h:o+K≤L) (hL:L≤l.length) :
  (l.take o++x++l.drop (o+x.length)).take L=(l.take L).take o++x++(l.take L).drop (o+K):=by
 have ho:(l.take o).length=o:=by simp;omega
 rw [hx,List.take_append,List.take_append,List.length_append,ho,hx,List.take_of_length_le (l:=l.take o) (by omega),List.take_of_length_le (l:=x) (by omega),List.take_take,Nat.min_eq_left (by omega),List.drop_take]
theorem Row.put {w:World} {g n c:Nat} {ss:List Sec} (h:Row w (.slice (some ⟨g,0,none⟩) n c) ss) (i:Nat) (hi:i < ss.length) (s:Sec):Row (w.setCells g (i*256) s.cells) (.slice (some ⟨g,0,none⟩) n c) (ss.set i s):=by
 have hl:=h.1
 rcases h.2 with ⟨h0,_⟩ | ⟨g',cap,cur,h0,_,hg,hn,hm,hs,ht⟩
 · cases h0
 ·
  cases h0
  have hfit:i*256+s.cells.length≤cur.size:=by
   rw [s.cells_len,hs];have:(i+1)*256≤c*256:=Nat.mul_le_mul_right _ (show i+1≤c by omega)
   omega
  refine ⟨by rw [cellsOf_len],.inr ⟨g,c,_,by rw [List.length_set],Nat.zero_le _,heap_setCells_same g TS s.cells (i*256) w cur hg hfit,by rw [List.length_set];exact hn,hm,?_,?_⟩⟩
  ·
   have h1:(List.take (i*256) cur.toList).length=i*256:=by simp;omega
   have h2:(List.drop (i*256+s.cells.length) cur.toList).length=cur.size - (i*256+s.cells.length):=by simp
   simp only [List.size_toArray,List.length_append,h1,h2]
   omega
  ·
   rw [List.length_set,cellsOf_set ss i hi s,← ht]
   have hL:ss.length*256≤cur.toList.length:=by
    have h5:=Nat.mul_le_mul_right 256 hn
    have h6:cur.toList.length=c*256:=by rw [← hs];exact Array.length_toList
    rw [h6];exact h5
   have hi2:i*256+256≤ss.length*256:=by
    have h5:=Nat.mul_le_mul_right 256 (show i+1≤ss.length from hi)
    rwa [Nat.add_mul,Nat.one_mul] at h5
   exact put_list _ _ _ _ _ s.cells_len hi2 hL
end Go.Proofs.YtdmhemgepdknhaaGreat
namespace Go.Proofs.YtdmhemgepdknhaaGreat
open Go.RowKit Go.Maps
theorem Blk.one {w:World} {g:Nat} {s:Sec} (h:Blk w g TS (sec s)):w.rangeAt g 0 s.cells:=fun j v hv=>by
 rw [Nat.zero_add,h.cell j,← hv];simp [sec]
theorem below_setRow {B:Nat} {a w:World} (h:Below B a w) {g:Nat} (hg:B≤g) (cs:Array Value):Below B a (w.setRow g cs):=
 h.trans ⟨rfl,rfl,rfl,by simp,fun k hk=>setRow_other w g k cs (by omega)⟩
theorem wpList_load_sec {ops:Array Oper} {rest:List Oper} {op:Oper} {a:Act} {w:World} {Q:Exit→Act→World→Prop} (hgd:op.guard=none) (x:Operand) (ho:op.op=.load TS x)
  {b o:Nat} {s:Sec} (hc:w.rangeAt b o s.cells) (hx:a.eval x=.pointer (some ⟨b,o,none⟩))
  (h:wpList Tryz.prog ops Q rest (a.put op.dst (.agg (sec s))) w):wpList Tryz.prog ops Q (op :: rest) a w:=
 wpList_load_mid hgd TS x ho b o hx s.cells _ hc under_sec rfl (by rw [s.cells_len];exact size_sec) h
theorem wpList_store_sec {ops:Array Oper} {rest:List Oper} {op:Oper} {a:Act} {w:World} {Q:Exit→Act→World→Prop} (hgd:op.guard=none) (x y:Operand) (ho:op.op=.store TS x y)
  {g:Nat} {old s:Sec} (hb:Blk w g TS (sec old)) (hx:a.eval x=.pointer (some ⟨g,0,none⟩)) (hy:a.eval y=.agg (sec s))
  (h:wpList Tryz.prog ops Q rest (a.put op.dst undef) (w.setRow g (sec s))):wpList Tryz.prog ops Q (op :: rest) a w:=
 wpList_store_row hgd TS x y ho g (sec s) hx hy TS (sec old) hb (by rw [sec_size];exact size_sec) (by rw [sec_size,sec_size]) (sec_one s) h
theorem results_sec {fn:Func} {p:Tmp} (h:fn.results=#[.cell p TS]) (tmps:Array Value) (w:World) (g:Nat) (s:Sec)
  (hp:tmps.getD p undef=.pointer (some ⟨g,0,none⟩)) (hb:Blk w g TS (sec s)):(results fn tmps).run Tryz.prog w=.ok (.agg (sec s)) w:=
 results_cell_row h tmps w g TS (sec s) (0,0) _ hp hb under_sec rfl (by rw [sec_size];exact size_sec)
/-! ### What a disk is -/
structure St where
 ls:List Sec
 t:Nat→List Sec
 fuse:Int
 dead:Bool
 writes:Nat
structure St.Ok (s:St):Prop where
 pos:0 < s.ls.length
 most:s.ls.length≤65536
 out:∀ i,s.ls.length≤i→s.t i=[]
 less:∀ i,(s.t i).length≤s.writes
 lo : -9223372036854775808≤s.fuse
 hi:s.fuse≤9223372036854775807
def St.nw (s:St) (i:Nat):Sec:=(s.t i).getLastD (s.ls.getD i Sec.zero)
abbrev nilS:Value:=.slice none 0 0
def key (i:Nat):Lit:=.int .i64 (i:Int)
def eltR (v:Value):Option (DataW Value × List MemPlace):=some (.held v,[])
abbrev TM:TypeId:=110
abbrev TL:TypeId:=50
abbrev TD:TypeId:=112
def Loose (w:World) (m most:Nat) (N:Nat) (L:Nat→Value) (t:Nat→List Sec):Prop:=
 ∃ (D:DataW Value) (n:Nat),w.ownsMap Tryz.prog TI eltR m n D∧n≤most∧(∀ i,i < N→D.atKey (key i) (.held nilS)=.held (L i))∧(∀ i,i < N→(has D (key i)=true ↔ t i≠[]))∧(∀ k,has D k=true→∃ i,i < N∧k=key i)
structure DkAt (w:World) (F:Nat→Prop) (b:Nat) (lv:Value) (m:Nat) (L:Nat→Value) (s:St):Prop where
 ok:s.Ok
 blk:Blk w b TD #[lv,.map (some m),.int .i64 s.fuse,.bool s.dead,.int .i64 (s.writes:Int)]
 ls:Row w lv s.ls
 map:Loose w m (65536+s.writes) s.ls.length L s.t
 rows:∀ i,Row w (L i) (s.t i)
 apart:∀ i j g,(L i).ownBlock=some g→(L j).ownBlock=some g→i=j
 apart0:∀ i g,(L i).ownBlock=some g→lv.ownBlock≠some g
 ownB:F b
 ownM:F m
 ownL:∀ g,lv.ownBlock=some g→F g
 ownR:∀ i g,(L i).ownBlock=some g→F g
 low:∀ k,F k→k < w.heap.size
def Dk (w:World) (F:Nat→Prop) (p:Value) (s:St):Prop:=∃ b lv m L,p=.pointer (some ⟨b,0,none⟩)∧DkAt w F b lv m L s
theorem ownsMap_stays {w w':World} {P:Program} {k:TypeId} {R:Value→Option (DataW Value × List MemPlace)} {b n:Nat} {D:DataW Value} (h:w.ownsMap P k R b n D) (e:w'.heap[b]?=w.heap[b]?):w'.ownsMap P k R b n D:=by
 obtain ⟨es,clock,hb,r⟩:=h;exact ⟨es,clock,e.trans hb,r⟩
theorem Loose.stays {w w':World} {m q N:Nat} {L:Nat→Value} {t:Nat→List Sec} (h:Loose w m q N L t) (e:w'.heap[m]?=w.heap[m]?):Loose w' m q N L t:=by
 obtain ⟨D,n,ho,r⟩:=h;exact ⟨D,n,ownsMap_stays ho e,r⟩
theorem Loose.lt {w:World} {m q N:Nat} {L:Nat→Value} {t:Nat→List Sec} (h:Loose w m q N L t):m < w.heap.size:=by
 obtain ⟨D,n,ho,r⟩:=h;exact ho.lt
theorem DkAt.stays {w w':World} {F:Nat→Prop} {b:Nat} {lv:Value} {m:Nat} {L:Nat→Value} {s:St} (h:DkAt w F b lv m L s) (e:∀ k,F k→w'.heap[k]?=w.heap[k]?) (hs:w.heap.size≤w'.heap.size):DkAt w' F b lv m L s:=
 ⟨h.ok,h.blk.stays (e b h.ownB),h.ls.stays fun g hg=>e g (h.ownL g hg),h.map.stays (e m h.ownM),fun i=>(h.rows i).stays fun g hg=>e g (h.ownR i g hg),h.apart,h.apart0,h.ownB,h.ownM,h.ownL,h.ownR,fun k hk=>Nat.lt_of_lt_of_le (h.low k hk) hs⟩
theorem DkAt.gr {w w':World} {F:Nat→Prop} {b:Nat} {lv:Value} {m:Nat} {L:Nat→Value} {s:St} (h:DkAt w F b lv m L s) (e:Gr w w'):DkAt w' F b lv m L s:=h.stays (fun k hk=>e.block k (h.low k hk)) e.size
theorem Dk.stays {w w':World} {F:Nat→Prop} {p:Value} {s:St} (h:Dk w F p s) (e:∀ k,F k→w'.heap[k]?=w.heap[k]?) (hs:w.heap.size≤w'.heap.size):Dk w' F p s:=by
 obtain ⟨b,lv,m,L,hp,h⟩:=h;exact ⟨b,lv,m,L,hp,h.stays e hs⟩
theorem Dk.gr {w w':World} {F:Nat→Prop} {p:Value} {s:St} (h:Dk w F p s) (e:Gr w w'):Dk w' F p s:=by
 obtain ⟨b,lv,m,L,hp,h⟩:=h;exact ⟨b,lv,m,L,hp,h.gr e⟩
theorem Dk.low {w:World} {F:Nat→Prop} {p:Value} {s:St} (h:Dk w F p s):∀ k,F k→k < w.heap.size:=by
 obtain ⟨b,lv,m,L,hp,h⟩:=h;exact h.low
structure Upd (F F':Nat→Prop) (w w':World):Prop where
 os:w'.os=w.os
 tape:w'.tape=w.tape
 output:w'.output=w.output
 size:w.heap.size≤w'.heap.size
 block:∀ k,k < w.heap.size→¬ F k→w'.heap[k]?=w.heap[k]?
 fresh:∀ k,F' k→F k∨w.heap.size≤k
theorem Upd.below {F F':Nat→Prop} {w w':World} (h:Upd F F' w w') {B:Nat} (hB:B≤w.heap.size) (hF:∀ k,F k→B≤k):Below B w w':=
 ⟨h.os,h.tape,h.output,h.size,fun k hk=>h.block k (by omega) fun hf=>by have:=hF k hf;omega⟩
theorem Upd.from {F F':Nat→Prop} {w w':World} (h:Upd F F' w w') {B:Nat} (hB:B≤w.heap.size) (hF:∀ k,F k→B≤k):∀ k,F' k→B≤k:=fun k hk=>by
 rcases h.fresh k hk with h | h
 · exact hF k h
 · omega
theorem Upd.other {F F' G:Nat→Prop} {w w':World} (h:Upd F F' w w') (hG:∀ k,G k→k < w.heap.size) (ha:∀ k,F k→¬ G k):(∀ k,G k→w'.heap[k]?=w.heap[k]?)∧∀ k,F' k→¬ G k:=
 ⟨fun k hk=>h.block k (hG k hk) fun hf=>ha k hf hk,fun k hk hg=>by
  rcases h.fresh k hk with h1 | h1
  · exact ha k h1 hg
  · have:=hG k hg;omega⟩
theorem Upd.of_gr {F:Nat→Prop} {w w':World} (h:Gr w w'):Upd F F w w':=⟨h.os,h.tape,h.output,h.size,fun k hk _=>h.block k hk,fun k hk=>.inl hk⟩
theorem Loose.look {w:World} {m q N:Nat} {L:Nat→Value} {t:Nat→List Sec} (h:Loose w m q N L t) (i:Nat) (hi:i < N) (hN:N≤65536) :
  (Instr.lookup TM (.map (some m)) (.int .i64 (i:Int)) false).run Tryz.prog w=.ok (L i) w:=by
 obtain ⟨D,n,ho,hn,ha,_,_⟩:=h
 obtain ⟨v,ps,hr,hv⟩:=ho.lookup (t:=TM) (e:=TL) (int_keyed Tryz.underlying3) Tryz.underlying110 (z:=nilS) (show (zeroValue TL).run Tryz.prog w=.ok nilS w from Tryz.zeroValue50 w) (zd:=.held nilS) (zp:=[]) rfl (key:=.int .i64 (i:Int)) (kl:=key i)
  (keyOf_int_mk Tryz.underlying3 (WalkArith.wf_i64 (by omega)))
 rw [ha i hi] at hv
 simp only [eltR,Option.some.injEq,Prod.mk.injEq,DataW.held.injEq] at hv
 rw [hr,hv.1]
end Go.Proofs.YtdmhemgepdknhaaGreat
namespace Go.Proofs.YtdmhemgepdknhaaGreat
open Go.RowKit Go.Maps
abbrev TPl:TypeId:=80
abbrev TFr:TypeId:=91
abbrev TPm:TypeId:=78
structure PFr where
 pay:List Int
 lsn:Nat
 first:Nat
 dirty:Bool
 used:Bool
structure PFr.In (f:PFr):Prop where
 pay:PIsSec f.pay
 l:f.lsn≤18446744073709551615
 f:f.first≤18446744073709551615
def PFr.rest (f:PFr):List Value:=[.int .u64 (f.lsn:Int),.int .u64 (f.first:Int),.bool f.dirty,.bool f.used]
def PFr.cells (f:PFr):Array Value:=((PSx f.pay).cells++f.rest).toArray
theorem PFr.size (f:PFr):f.cells.size=252:=by simp [PFr.cells,PFr.rest,PSec.cells_len]
theorem PFr.at (f:PFr) (i:Nat):f.cells[248+i]?=f.rest[i]?:=by
 unfold PFr.cells
 rw [List.getElem?_toArray,List.getElem?_append_right (by rw [PSec.cells_len];omega),PSec.cells_len,Nat.add_sub_cancel_left]
theorem PFr.c4 {w:World} {b:Nat} {f:PFr} (h:Blk w b TFr f.cells):w.cell? ⟨b,248,none⟩=some (.int .u64 (f.lsn:Int))∧w.cell? ⟨b,249,none⟩=some (.int .u64 (f.first:Int))∧w.cell? ⟨b,250,none⟩=some (.bool f.dirty)∧w.cell? ⟨b,251,none⟩=some (.bool f.used):=
 ⟨(h.cell 248).trans (f.at 0),(h.cell 249).trans (f.at 1),(h.cell 250).trans (f.at 2),(h.cell 251).trans (f.at 3)⟩
theorem PFr.range {w:World} {b:Nat} {f:PFr} (h:Blk w b TFr f.cells):w.rangeAt b 0 (PSx f.pay).cells:=fun j v hv=>by
 rw [Nat.zero_add,h.cell j]
 unfold PFr.cells
 rw [List.getElem?_toArray,List.getElem?_append_left (List.getElem?_eq_some_iff.1 hv).1];exact hv
theorem PFr.put (f:PFr) (i:Nat) (hi:i < 4) (v:Value):f.cells.setIfInBounds (248+i) v=((PSx f.pay).cells++f.rest.set i v).toArray:=by
 unfold PFr.cells
 rw [List.setIfInBounds_toArray,List.set_append_right _ _ (by rw [PSec.cells_len];omega),PSec.cells_len,Nat.add_sub_cancel_left]
theorem PFr.setLsn (f:PFr) (n:Nat):f.cells.setIfInBounds 248 (.int .u64 (n:Int))=({ f with lsn:=n }:PFr).cells:=f.put 0 (by decide) _
theorem PFr.setFirst (f:PFr) (n:Nat):f.cells.setIfInBounds 249 (.int .u64 (n:Int))=({ f with first:=n }:PFr).cells:=f.put 1 (by decide) _
theorem PFr.setDirty (f:PFr) (x:Bool):f.cells.setIfInBounds 250 (.bool x)=({ f with dirty:=x }:PFr).cells:=f.put 2 (by decide) _
theorem PFr.setUsed (f:PFr) (x:Bool):f.cells.setIfInBounds 251 (.bool x)=({ f with used:=x }:PFr).cells:=f.put 3 (by decide) _
theorem PFr.laid (f:PFr) (hf:PIsSec f.pay) (F:Nat) (ys:List Int) (k:Wd.Small ys) (h:F+ys.length≤248) :
  (f.cells.toList.take F++ys.map (Value.int .u8)++f.cells.toList.drop (F+(ys.map (Value.int .u8)).length)).toArray=({ f with pay:=Play f.pay F ys }:PFr).cells:=by
 have hl:=Play_cells hf k h;have e:f.cells.toList=(PSx f.pay).cells++f.rest:=rfl
 have hc:((PSx f.pay).cells.take F++(ys.map (Value.int .u8)++(PSx f.pay).cells.drop (F+(ys.map (Value.int .u8)).length)))=(PSx (Play f.pay F ys)).cells:=by
  have:=congrArg Array.toList hl
  simpa [Psec] using this
 rw [e,List.take_append_of_le_length (by rw [PSec.cells_len];omega),List.drop_append_of_le_length (by rw [PSec.cells_len,List.length_map];omega)]
 show (_:List Value).toArray=((PSx (Play f.pay F ys)).cells++f.rest).toArray
 rw [← hc]
 simp [List.append_assoc]
def ptrB (o:Option Nat):Value:=.pointer (o.map fun b=>⟨b,0,none⟩)
def Fm (w:World) (m n:Nat) (B:Nat→Option Nat):Prop:=
 ∃ D:DataW Value,w.ownsMap Tryz.prog TI eltR m n D∧(∀ i,i < 65536→D.atKey (key i) (.held (.pointer none))=.held (ptrB (B i)))∧(∀ i,i < 65536→(has D (key i)=true ↔ B i≠none))∧(∀ k,has D k=true→∃ i,i < 65536∧k=key i)
theorem Fm.stays {w w':World} {m n:Nat} {B:Nat→Option Nat} (h:Fm w m n B) (e:w'.heap[m]?=w.heap[m]?):Fm w' m n B:=by
 obtain ⟨D,h1,h2⟩:=h;exact ⟨D,ownsMap_stays h1 e,h2⟩
theorem Fm.lt {w:World} {m n:Nat} {B:Nat→Option Nat} (h:Fm w m n B):m < w.heap.size:=by
 obtain ⟨D,h1,_⟩:=h;exact h1.lt
theorem Fm.look {w:World} {m n:Nat} {B:Nat→Option Nat} (h:Fm w m n B) (i:Nat) (hi:i < 65536) :
  (Instr.lookup TPm (.map (some m)) (.int .i64 (i:Int)) false).run Tryz.prog w=.ok (ptrB (B i)) w:=by
 obtain ⟨D,ho,ha,_,_⟩:=h
 obtain ⟨v,ps,hr,hv⟩:=ho.lookup (t:=TPm) (e:=87) (int_keyed Tryz.underlying3) Tryz.underlying78 (z:=.pointer none) (show (zeroValue 87).run Tryz.prog w=.ok (.pointer none) w from Tryz.zeroValue87 w) (zd:=.held (.pointer none)) (zp:=[]) rfl (key:=.int .i64 (i:Int)) (kl:=key i)
  (keyOf_int_mk Tryz.underlying3 (WalkArith.wf_i64 (by omega)))
 rw [ha i hi] at hv
 simp only [eltR,Option.some.injEq,Prod.mk.injEq,DataW.held.injEq] at hv
 rw [hr,hv.1]
end Go.Proofs.YtdmhemgepdknhaaGreat
namespace Go.Proofs.YtdmhemgepdknhaaGreat
open Go.RowKit Go.Maps
theorem DkAt.cells {w:World} {F:Nat→Prop} {b:Nat} {lv:Value} {m:Nat} {L:Nat→Value} {s:St} (h:DkAt w F b lv m L s) :
  w.cell? ⟨b,0,none⟩=some lv∧w.cell? ⟨b,1,none⟩=some (.map (some m))∧w.cell? ⟨b,2,none⟩=some (.int .i64 s.fuse)∧w.cell? ⟨b,3,none⟩=some (.bool s.dead)∧w.cell? ⟨b,4,none⟩=some (.int .i64 (s.writes:Int)):=
 ⟨h.blk.cell 0,h.blk.cell 1,h.blk.cell 2,h.blk.cell 3,h.blk.cell 4⟩
theorem DkAt.lv {w:World} {F:Nat→Prop} {b:Nat} {lv:Value} {m:Nat} {L:Nat→Value} {s:St} (h:DkAt w F b lv m L s):∃ g c,lv=.slice (some ⟨g,0,none⟩) s.ls.length c:=
 let ⟨g,c,e,_⟩:=h.ls.full (fun e=>by have:=h.ok.pos;rw [e] at this;simp at this)
 ⟨g,c,e⟩
set_option maxRecDepth 100000 in
theorem missing_no {F:Nat→Prop} {b:Nat} {lv:Value} {m:Nat} {L:Nat→Value} {s:St} (w:World) (h:DkAt w F b lv m L s):Calls Tryz.prog 56 #[.pointer (some ⟨b,0,none⟩)] w fun e w'=>e=.returned (.bool false)∧w=w':=by
 obtain ⟨h0,h1,h2,h3,h4⟩:=h.cells;obtain ⟨g,c,rfl⟩:=h.lv;obtain ⟨N,hN⟩:∃ N,N=s.ls.length:=⟨_,rfl⟩;have hp:=h.ok.pos
 rw [← hN] at h0 hp
 have hz:((N:Int) == 0)=false:=by simp;omega
 clear h hN h1 h2 h3 h4
 go_enter Tryz.func56,Tryz.ntmps56
 go_wp2
 go_ret
 exact ⟨rfl,rfl⟩
def askE (n:Nat) (i:Int):Int:=if i < 0∨(n:Int)≤i then 2 else 0
set_option maxRecDepth 100000 in
theorem asked_any {F:Nat→Prop} {b:Nat} {lv:Value} {m:Nat} {L:Nat→Value} {s:St} (w:World) (h:DkAt w F b lv m L s) (i:Int):Calls Tryz.prog 54 #[.pointer (some ⟨b,0,none⟩),.int .i64 i] w fun e w'=>e=.returned (.int .i64 (askE s.ls.length i))∧w=w':=by
 have HM:=Lib.hid (missing_no w h);obtain ⟨h0,h1,h2,h3,h4⟩:=h.cells;obtain ⟨g,c,rfl⟩:=h.lv;obtain ⟨N,hN⟩:∃ N,N=s.ls.length:=⟨_,rfl⟩
 rw [← hN] at h0 ⊢
 clear h hN h1 h2 h3 h4
 by_cases hi:i < 0
 ·
  have HE:Hid (askE N i=2):=Lib.hid (by unfold askE;rw [if_pos (.inl hi)])
  go_enter Tryz.func54,Tryz.ntmps54
  go_wp2_with fail;refine HM.out.mono ?_;rintro e w' ⟨rfl,rfl⟩
  go_wp2
  go_ret
  exact ⟨ret_i HE.out.symm,rfl⟩
 ·
  by_cases hj:(N:Int)≤i
  ·
   have HE:Hid (askE N i=2):=Lib.hid (by unfold askE;rw [if_pos (.inr hj)])
   go_enter Tryz.func54,Tryz.ntmps54
   go_wp2_with fail;refine HM.out.mono ?_;rintro e w' ⟨rfl,rfl⟩
   go_wp2
   go_ret
   exact ⟨ret_i HE.out.symm,rfl⟩
  ·
   have HE:Hid (askE N i=0):=Lib.hid (by unfold askE;rw [if_neg (by omega)])
   go_enter Tryz.func54,Tryz.ntmps54
   go_wp2_with fail;refine HM.out.mono ?_;rintro e w' ⟨rfl,rfl⟩
   go_wp2
   go_ret
   exact ⟨ret_i HE.out.symm,rfl⟩
theorem nw_none {s:St} {i:Nat} (h:s.t i=[]):s.nw i=s.ls.getD i Sec.zero:=by unfold St.nw;rw [h];rfl
theorem last_at {α:Type} (d:α):∀ (l:List α) (h:l.length - 1 < l.length),l[l.length - 1]=l.getLastD d
 | [],h=>by simp at h
 | x :: r,h=>by rw [← List.getLast_eq_getElem (by simp),List.getLast_eq_getLastD,List.getLastD_cons]
theorem nw_some {s:St} {i:Nat} (h:(s.t i).length - 1 < (s.t i).length):(s.t i)[(s.t i).length - 1]=s.nw i:=last_at _ _ h
set_option maxRecDepth 100000 in
set_option maxHeartbeats 1000000 in
theorem newest_any {F:Nat→Prop} {b:Nat} {lv:Value} {m:Nat} {L:Nat→Value} {s:St} (w:World) (h:DkAt w F b lv m L s) (i:Nat) (hi:i < s.ls.length):Calls Tryz.prog 55 #[.pointer (some ⟨b,0,none⟩),.int .i64 (i:Int)] w fun e w'=>e=.returned (.agg (sec (s.nw i)))∧Gr w w':=by
 have hi2:(i:Int) < 65536:=by have:=h.ok.most;omega
 have hg:Gr w (w.alloc (.cells (sec Sec.zero) TS)):=(Gr.refl w).alloc (Nat.le_refl _) _;have h':=h.gr hg;obtain ⟨h0,h1,h2,h3,h4⟩:=h'.cells;obtain ⟨g,c,rfl⟩:=h.lv;have HK:=Lib.hid (h'.map.look i hi h.ok.most);have HZ:=Lib.hid zero_sec;have HN:=Lib.hid (Blk.new w TS (sec Sec.zero))
 have hN:(i:Int) < (s.ls.length:Int):=by omega
 clear h2 h3 h4
 by_cases ht:s.t i=[]
 ·
  have HW:=Lib.hid (nw_none ht)
  have hL:L i=nilS:=by
   obtain ⟨D,n,ho,hn,ha,hh,_⟩:=h'.map
   have:has D (key i)=false:=by
    cases hc:has D (key i) with
    | false=>rfl
    | true=>exact absurd ht ((hh i hi).1 hc)
   have e:=ha i hi
   rw [atKey_of_not_has this] at e
   simpa using e.symm
  have hk:=HK.out
  rw [hL] at hk
  have HL:=Lib.hid (h'.ls.lies i hi);have HS:Hid (s.ls[i]=s.nw i):=Lib.hid (by rw [HW.out];simp [List.getD,hi]);obtain ⟨N,hN⟩:∃ N,N=s.ls.length:=⟨_,rfl⟩;obtain ⟨x,hx⟩:∃ x,x=s.ls[i]:=⟨_,rfl⟩
  rw [← hx] at HL HS
  rw [← hN] at h0 hi
  clear h h' HK ht hL HW hN hx
  go_enter Tryz.func55,Tryz.ntmps55
  have hz:=HZ.out;clear HZ
  go_wp2_with (first | (refine wpList_load_sec rfl _ rfl HL.out rfl ?_) | (refine wpList_store_sec rfl _ _ rfl HN.out rfl rfl ?_))
  exact bodyPost_ret (results_sec rfl _ _ _ _ rfl (HN.out.row _)) rfl ⟨by rw [HS.out],below_setRow hg (Nat.le_refl _) _⟩
 ·
  have hl:(s.t i).length - 1 < (s.t i).length:=by have:=List.length_pos_iff.2 ht;omega
  have hlen:(s.t i).length≤9223372036854775807:=by
   obtain ⟨g',c',_,_,h5,h6⟩:=(h.rows i).full ht
   unfold maxLen at h6;omega
  have hr:=h'.rows i;obtain ⟨g',c',e,_⟩:=hr.full ht;have hk:=HK.out
  rw [e] at hk hr
  have HL:=Lib.hid (hr.lies _ hl);have HS:=Lib.hid (nw_some hl)
  rw [HS.out] at HL
  obtain ⟨k,hM⟩:∃ k,(s.t i).length=k+1:=⟨(s.t i).length - 1,by omega⟩
  have hk1:(s.t i).length - 1=k:=by omega
  rw [hk1] at HL
  rw [hM] at hk hlen
  have hpos:(0:Int) < ((k+1:Nat):Int):=by omega
  clear h h' HK hr e hM h0 ht HS hi hi2 hN hl hk1
  go_enter Tryz.func55,Tryz.ntmps55
  have hz:=HZ.out;clear HZ
  go_wp2_with (first | (refine wpList_load_sec rfl _ rfl HL.out rfl ?_) | (refine wpList_store_sec rfl _ _ rfl HN.out rfl rfl ?_))
  exact bodyPost_ret (results_sec rfl _ _ _ _ rfl (HN.out.row _)) rfl ⟨rfl,below_setRow hg (Nat.le_refl _) _⟩
end Go.Proofs.YtdmhemgepdknhaaGreat
