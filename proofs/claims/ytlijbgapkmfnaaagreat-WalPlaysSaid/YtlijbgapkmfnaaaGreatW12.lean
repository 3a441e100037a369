/-
  Part 12 of what the laws of stage 6 rest on: contracts of the functions that they call, and what these rest on.
-/
import Derived.Deep.DeepCutAuto
import Derived.Deep.CutBlock
import Derived.Test.YtlijbgapkmfnaaaGreatW2
import Derived.Test.YtlijbgapkmfnaaaGreatW3
import Derived.Test.YtlijbgapkmfnaaaGreatW5
import Derived.Test.YtlijbgapkmfnaaaGreatW7
import Derived.Test.YtlijbgapkmfnaaaGreatW8
import Derived.Test.YtlijbgapkmfnaaaGreatW9
import Derived.Test.YtlijbgapkmfnaaaGreatW10
import Derived.Test.YtlijbgapkmfnaaaGreatW11
import Derived.Test.YtlijbgapkmfnaaaGreatW1
set_option linter.unusedVariables false
set_option linter.unusedSimpArgs false
namespace Go.Proofs.YtlijbgapkmfnaaaGreat
open Go.RowKit Cr
def RetRef (c:Rc) (n:Nat) (er:Value) (K:World→Prop) (w:World) (e:Ending) (w':World):Prop:=
 ∃ pb nb cb pa na ca,e=.returned (.tuple #[.agg #[.int .i64 c.k,.int .u64 c.t,.int .u64 c.p,.int .u64 c.x,.int .i64 c.g,.int .i64 c.o,.slice pb nb cb,.slice pa na ca],.int .i64 n,er])∧Byt w' pb nb cb c.b∧Byt w' pa na ca c.a∧Gr w w'∧∀ U,K U→Byt U pb nb cb c.b∧Byt U pa na ca c.a
def InR (W1:World) (C:Array Value) (l:Nat→Bool) (W:World):Prop:=cond (l 23) (Blk W W1.heap.size TR C∧Gr W1 W) (cond (l 22) (W=W1.drew.alloc (.cells #[.int .i64 0,.int .u64 0,.int .u64 0,.int .u64 0,.int .i64 0,.int .i64 0,.slice none 0 0,.slice none 0 0] TR)) (W=W1.drew))
theorem InR.at0 {W1 W:World} {C:Array Value} {l:Nat→Bool} (h:InR W1 C l W) (h22:l 22=false) (h23:l 23=false):W=W1.drew:=by unfold InR at h;rw [h23,h22] at h;exact h
theorem InR.eq1 {W1 W:World} {C:Array Value} {l:Nat→Bool} (h:InR W1 C l W) (h22:l 22=true) (h23:l 23=false):W=W1.drew.alloc (.cells #[.int .i64 0,.int .u64 0,.int .u64 0,.int .u64 0,.int .i64 0,.int .i64 0,.slice none 0 0,.slice none 0 0] TR):=by unfold InR at h;rw [h23,h22] at h;exact h
theorem InR.at1 {W1 W:World} {C:Array Value} {l:Nat→Bool} (h:InR W1 C l W) (h22:l 22=true) (h23:l 23=false):Blk W W1.heap.size TR #[.int .i64 0,.int .u64 0,.int .u64 0,.int .u64 0,.int .i64 0,.int .i64 0,.slice none 0 0,.slice none 0 0]:=by
 rw [h.eq1 h22 h23];exact Blk.new W1.drew TR _
theorem InR.ahead {W1 W:World} {C:Array Value} {l:Nat→Bool} (h:InR W1 C l W) (h23:l 23=false):Gr W1 W:=by
 cases h22:l 22
 · rw [h.at0 h22 h23];exact (Gr.refl W1).drew
 · rw [h.eq1 h22 h23];exact (Gr.refl W1).drew.alloc (Nat.le_refl _) _
theorem InR.keep {W1 W:World} {C:Array Value} {l:Nat→Bool} (h:InR W1 C l W) (i:Nat) (h1:22≠i) (h2:23≠i):InR W1 C (Flow.upd l i) W:=by
 unfold InR
 rw [Flow.upd_other l h1,Flow.upd_other l h2];exact h
theorem InR.s22 {W1:World} {C:Array Value} {l:Nat→Bool} (h23:l 23=false):InR W1 C (Flow.upd l 22) (W1.drew.alloc (.cells #[.int .i64 0,.int .u64 0,.int .u64 0,.int .u64 0,.int .i64 0,.int .i64 0,.slice none 0 0,.slice none 0 0] TR)):=by
 unfold InR
 rw [Flow.upd_other l (by decide:23≠22),h23,Flow.upd_same]
 rfl
theorem InR.s23 {W1 W:World} {C:Array Value} {l:Nat→Bool} (hb:Blk W W1.heap.size TR C) (hg:Gr W1 W):InR W1 C (Flow.upd l 23) W:=by
 unfold InR
 rw [Flow.upd_same];exact ⟨hb,hg⟩
theorem InR.fin {W1 W:World} {C:Array Value} {l:Nat→Bool} (h:InR W1 C l W) (h23:l 23=true):Blk W W1.heap.size TR C∧Gr W1 W:=by unfold InR at h;rw [h23] at h;exact h
theorem at_there {xs:List Int} (f s:Nat) (h:f+s≤xs.length) (h1:1≤s) (h8:s≤8):Wd.dec ((xs.drop f).take s)=atR xs f s:=by
 unfold atR sub
 rw [standsB_iff.2 ⟨by omega,by omega,by omega,by omega⟩]
 rfl
theorem at_byte {xs:List Int} (f:Nat) (h:f+1≤xs.length) (hx:Wd.Small xs):xs.getD f 0=((atR xs f 1:Nat):Int):=by
 have h1:atR xs (f:Int) (1:Int)=Wd.dec ((xs.drop f).take 1):=(at_there f 1 h (by omega) (by omega)).symm
 have h2:(xs.drop f).take 1=[xs.getD f 0]:=by
  rw [List.drop_eq_getElem_cons (by omega)]
  have hf:f < xs.length:=by omega
  simp only [List.take_succ_cons,List.take_zero,List.getD,List.getElem?_eq_getElem hf,Option.getD_some]
 rw [h1,h2];have h3:=hx.getD f
 simp only [Wd.dec]
 omega
theorem Byt.any0 (w:World) (q:Addr) (cc:Nat) (h:cc≤maxLen):Byt w (some q) 0 cc []:=⟨rfl,Nat.zero_le _,h,Lib.BytesIn.nil _ _ _,fun h=>(by cases h),fun _ h=>by cases h⟩
theorem byt_at {w:World} {B O n c:Nat} {xs:List Int} (h:Byt w (some ⟨B,O,none⟩) n c xs) (f s:Nat) (hs:6+f+s≤n) (hc:s≤c - 6 - f):Byt w (if c - 6=f then some ⟨B,O+6,none⟩ else some ⟨B,O+6+f,none⟩) s (c - 6 - f) ((xs.drop (6+f)).take s):=by
 have hm:=h.most
 rcases Nat.eq_zero_or_pos s with rfl | h0
 ·
  rw [List.take_zero]
  split
  · exact Byt.any0 _ _ _ (by omega)
  · exact Byt.any0 _ _ _ (by omega)
 ·
  rw [if_neg (by omega)];have h1:=h.sub (by omega) (6+f) s (c - 6 - f) (by omega) hc (by omega)
  rw [← Nat.add_assoc] at h1
  exact h1
def SlRo (B:Nat) (O:Nat) (sz:Nat) (c:Nat) (r:Nat) (v1:Nat) (v2:Nat) (v3:Nat) (v4:Nat) (v5:Nat) (v6:Nat) (slot:Nat) (v:Value) (_:World):Prop:=
 match slot with
 | 9=>v=.pointer (some ⟨r,0,none⟩)
 | 34=>v=.slice (some ⟨B,O+6,none⟩) sz (c - 6)
 | 35=>v=.pointer (some ⟨B,O+6,none⟩)
 | 36=>v=.int .u8 v1
 | 37=>v=.int .i64 v1
 | 38=>v=.slice (some ⟨B,O+6,none⟩) sz (c - 6)
 | 39=>v=.slice (some ⟨B,O+6+1,none⟩) 8 (c - 6 - 1)
 | 40=>v=.int .u64 v2
 | 41=>v=.slice (some ⟨B,O+6,none⟩) sz (c - 6)
 | 42=>v=.slice (some ⟨B,O+6+9,none⟩) 8 (c - 6 - 9)
 | 43=>v=.int .u64 v3
 | 44=>v=.slice (some ⟨B,O+6,none⟩) sz (c - 6)
 | 45=>v=.slice (some ⟨B,O+6+17,none⟩) 8 (c - 6 - 17)
 | 46=>v=.int .u64 v4
 | 47=>v=.slice (some ⟨B,O+6,none⟩) sz (c - 6)
 | 48=>v=.slice (some ⟨B,O+6+25,none⟩) 2 (c - 6 - 25)
 | 49=>v=.int .u64 v5
 | 50=>v=.int .i64 v5
 | 51=>v=.slice (some ⟨B,O+6,none⟩) sz (c - 6)
 | 52=>v=.pointer (some ⟨B,O+6+27,none⟩)
 | 53=>v=.int .u8 v6
 | 54=>v=.int .i64 v6
 | 55=>v=.agg #[.int .i64 v1,.int .u64 v2,.int .u64 v3,.int .u64 v4,.int .i64 v5,.int .i64 v6,.slice none 0 0,.slice none 0 0]
 | _=>True
def SlRq1 (v1:Nat) (v2:Nat) (v3:Nat) (v4:Nat) (v5:Nat) (v6:Nat) (v7:Nat) (qb:Option Addr) (m:Nat) (cb:Nat) (qa:Option Addr) (ca:Nat) (_:Nat) (_:Nat) (_:Nat) (_:Nat) (_:Nat) (_:Nat) (_:ByteArray) (_:ByteArray) (_:List Int) (slot:Nat) (v:Value) (_:World):Prop:=
 match slot with
 | 77=>v=.agg #[.int .i64 v1,.int .u64 v2,.int .u64 v3,.int .u64 v4,.int .i64 v5,.int .i64 v6,.slice qb m cb,.slice qa v7 ca]
 | 78=>v=.bool false
 | 79=>v=.bool true
 | 80=>v=.bool true
 | 91=>v=.bool true
 | _=>True
theorem slRq1_gr {v1 v2 v3 v4 v5 v6 v7:Nat} {qb:Option Addr} {m cb:Nat} {qa:Option Addr} {ca at' B O n c sz:Nat} {ST SU:ByteArray} {L:List Int} {s:Nat} {v:Value} {w w':World} (h:SlRq1 v1 v2 v3 v4 v5 v6 v7 qb m cb qa ca at' B O n c sz ST SU L s v w) (_:Gr w w'):SlRq1 v1 v2 v3 v4 v5 v6 v7 qb m cb qa ca at' B O n c sz ST SU L s v w':=by
 unfold SlRq1 at *
 split <;> simp_all
def SlRq2 (v1:Nat) (v2:Nat) (v3:Nat) (v4:Nat) (v5:Nat) (v6:Nat) (v7:Nat) (qb:Option Addr) (m:Nat) (cb:Nat) (qa:Option Addr) (ca:Nat) (at':Nat) (B:Nat) (O:Nat) (n:Nat) (c:Nat) (sz:Nat) (ST:ByteArray) (SU:ByteArray) (L:List Int) (slot:Nat) (v:Value) (w:World):Prop:=
 match slot with
 | 77=>v=.agg #[.int .i64 v1,.int .u64 v2,.int .u64 v3,.int .u64 v4,.int .i64 v5,.int .i64 v6,.slice qb m cb,.slice qa v7 ca]
 | 78=>v=.bool true
 | 79=>v=.bool false
 | 80=>v=.bool false
 | 81=>v=.agg #[.int .i64 v1,.int .u64 v2,.int .u64 v3,.int .u64 v4,.int .i64 v5,.int .i64 v6,.slice qb m cb,.slice qa v7 ca]
 | 82=>v=.int .u64 at'
 | 84=>v=.string ST
 | 85=>v=.slice (some ⟨B,O,none⟩) n c
 | 86=>v=.int .i64 sz
 | 87=>v=.int .i64 (6+(sz:Int))
 | 88=>v=.slice (some ⟨B,O,none⟩) (6+sz) c
 | 89=>v=.string SU
 | 90=>v=.bool true
 | 91=>v=.bool true
 | 83=>IsB w v L
 | _=>True
theorem slRq2_gr {v1 v2 v3 v4 v5 v6 v7:Nat} {qb:Option Addr} {m cb:Nat} {qa:Option Addr} {ca at' B O n c sz:Nat} {ST SU:ByteArray} {L:List Int} {s:Nat} {v:Value} {w w':World} (h:SlRq2 v1 v2 v3 v4 v5 v6 v7 qb m cb qa ca at' B O n c sz ST SU L s v w) (gr:Gr w w'):SlRq2 v1 v2 v3 v4 v5 v6 v7 qb m cb qa ca at' B O n c sz ST SU L s v w':=by
 unfold SlRq2 at *
 split <;> simp_all
 exact IsB.kept (by assumption) gr
def SlRq3 (v1:Nat) (v2:Nat) (v3:Nat) (v4:Nat) (v5:Nat) (v6:Nat) (v7:Nat) (qb:Option Addr) (m:Nat) (cb:Nat) (qa:Option Addr) (ca:Nat) (at':Nat) (B:Nat) (O:Nat) (n:Nat) (c:Nat) (sz:Nat) (ST:ByteArray) (SU:ByteArray) (L:List Int) (slot:Nat) (v:Value) (w:World):Prop:=
 match slot with
 | 77=>v=.agg #[.int .i64 v1,.int .u64 v2,.int .u64 v3,.int .u64 v4,.int .i64 v5,.int .i64 v6,.slice qb m cb,.slice qa v7 ca]
 | 78=>v=.bool true
 | 79=>v=.bool false
 | 80=>v=.bool false
 | 81=>v=.agg #[.int .i64 v1,.int .u64 v2,.int .u64 v3,.int .u64 v4,.int .i64 v5,.int .i64 v6,.slice qb m cb,.slice qa v7 ca]
 | 82=>v=.int .u64 at'
 | 84=>v=.string ST
 | 85=>v=.slice (some ⟨B,O,none⟩) n c
 | 86=>v=.int .i64 sz
 | 87=>v=.int .i64 (6+(sz:Int))
 | 88=>v=.slice (some ⟨B,O,none⟩) (6+sz) c
 | 89=>v=.string SU
 | 90=>v=.bool false
 | 91=>v=.bool false
 | 83=>IsB w v L
 | _=>True
theorem slRq3_gr {v1 v2 v3 v4 v5 v6 v7:Nat} {qb:Option Addr} {m cb:Nat} {qa:Option Addr} {ca at' B O n c sz:Nat} {ST SU:ByteArray} {L:List Int} {s:Nat} {v:Value} {w w':World} (h:SlRq3 v1 v2 v3 v4 v5 v6 v7 qb m cb qa ca at' B O n c sz ST SU L s v w) (gr:Gr w w'):SlRq3 v1 v2 v3 v4 v5 v6 v7 qb m cb qa ca at' B O n c sz ST SU L s v w':=by
 unfold SlRq3 at *
 split <;> simp_all
 exact IsB.kept (by assumption) gr
set_option maxRecDepth 100000 in
set_option maxHeartbeats 4000000 in
theorem refOf_any (p:Option Addr) (n c:Nat) (xs:List Int) (at':Nat) (w:World) (hb:Byt w p n c xs) (hat:at'≤18446744073709551615):Calls Tryz.prog 75 #[.slice p n c,.int .u64 at'] w (RetRef (ofR xs at') (ofN xs at') (.bool (ofB xs at')) (fun U=>Byt U p n c xs) w):=by
 have HZ:=Lib.hid (zeros_rec w);have HG:=Lib.hid ((Gr.refl w).alloc (Nat.le_refl _) (.cells #[.int .i64 0,.int .u64 0,.int .u64 0,.int .u64 0,.int .i64 0,.int .i64 0,.slice none 0 0,.slice none 0 0] TR));have HBY:=Lib.hid (hb.kept HG.out);have HSM:=Lib.hid hb.small;have HB0:=Lib.hid hb
 have HNO:Hid (ofB xs at'=false→∀ e w',RetRef Rc.nil 0 (.bool false) (fun U=>Byt U p n c xs) w e w'→RetRef (ofR xs at') (ofN xs at') (.bool (ofB xs at')) (fun U=>Byt U p n c xs) w e w'):=Lib.hid fun h e w' k=>by
  have e1:ofR xs at'=Rc.nil:=by unfold ofR;rw [h];rfl
  have e2:ofN xs at'=0:=by unfold ofN;rw [h];rfl
  rw [e1,e2,h];exact k
 have lx:=hb.len;have hcap:=hb.cap
 have c63:c≤9223372036854775807:=by have h1:=hb.most;unfold maxLen at h1;omega
 have HLX:=Lib.hid lx;obtain ⟨z0,z1,z2,z3,z4,z5,z6,z7⟩:=HZ.out.c8;obtain ⟨f0,f1,f2,f3,f4,f5,f6,f7⟩:=HZ.out.f8
 by_cases h35:n < 35
 ·
  have h35':(n:Int) < 35:=by omega
  have HF:Hid (ofB xs at'=false):=Lib.hid (by
   cases h:ofB xs at'
   · rfl
   · have:=(ref_of h).1;omega)
  clear hb lx
  go_enter Tryz.func75,Tryz.ntmps75
  go_upto_region 1 with fail
  generalize w.alloc (.cells #[.int .i64 0,.int .u64 0,.int .u64 0,.int .u64 0,.int .i64 0,.int .i64 0,.slice none 0 0,.slice none 0 0] TR)=W1 at HZ HG HBY z0 z1 z2 z3 z4 z5 z6 z7 f0 f1 f2 f3 f4 f5 f6 f7 ⊢
  go_wp2_with fail;exact bodyPost_ret (results_rec3 rfl _ _ w.heap.size #[.int .i64 0,.int .u64 0,.int .u64 0,.int .u64 0,.int .i64 0,.int .i64 0,.slice none 0 0,.slice none 0 0] _ _ rfl rfl rfl rfl ((((((((HZ.out.set 0 _).set 1 _).set 2 _).set 3 _).set 4 _).set 5 _).set 6 _).set 7 _)) rfl (HNO.out HF.out _ _ ⟨none,0,0,none,0,0,rfl,Byt.nil _,Byt.nil _,below_set8 HG.out (Nat.le_refl _),fun U _=>⟨Byt.nil U,Byt.nil U⟩⟩)
 ·
  obtain ⟨B,O,rfl,_⟩:=hb.at (by omega)
  have h35':¬ (n:Int) < 35:=by omega
  have H2:=Lib.hid (HBY.out.pre 2 c (by omega) (by omega) (Nat.le_refl _));have hs2:Wd.dec (xs.take 2)=szR xs:=rfl
  have hsz:szR xs < 65536:=by
   have h1:=Wd.dec_lt _ (HSM.out.take 2)
   have h2:(xs.take 2).length=2:=by simp;omega
   rw [h2] at h1
   exact h1
  obtain ⟨sz,hsze⟩:∃ s,s=szR xs:=⟨_,rfl⟩
  rw [← hsze] at hs2 hsz
  have HSZ:=Lib.hid hsze;have HS2:=Lib.hid hs2;clear hsze hs2 hb lx
  go_enter Tryz.func75,Tryz.ntmps75
  go_upto_region 1 with fail
  generalize w.alloc (.cells #[.int .i64 0,.int .u64 0,.int .u64 0,.int .u64 0,.int .i64 0,.int .i64 0,.slice none 0 0,.slice none 0 0] TR)=W1 at HZ HG HBY z0 z1 z2 z3 z4 z5 z6 z7 f0 f1 f2 f3 f4 f5 f6 f7 H2 ⊢
  go_wp2_with fail;refine (refGet_any _ _ _ _ _ H2.out (by omega)).mono ?_;rintro e w' ⟨rfl,rfl⟩;rw [HS2.out]
  by_cases h29:sz < 29
  ·
   have h29':(sz:Int) < 29:=by omega
   have HF:Hid (ofB xs at'=false):=Lib.hid (by
    cases h:ofB xs at'
    · rfl
    · have:=(ref_of h).2.1;have:=HSZ.out;omega)
   go_wp2_with fail;exact bodyPost_ret (results_rec3 rfl _ _ w.heap.size #[.int .i64 0,.int .u64 0,.int .u64 0,.int .u64 0,.int .i64 0,.int .i64 0,.slice none 0 0,.slice none 0 0] _ _ rfl rfl rfl rfl ((((((((HZ.out.set 0 _).set 1 _).set 2 _).set 3 _).set 4 _).set 5 _).set 6 _).set 7 _)) rfl (HNO.out HF.out _ _ ⟨none,0,0,none,0,0,rfl,Byt.nil _,Byt.nil _,below_set8 HG.out (Nat.le_refl _),fun U _=>⟨Byt.nil U,Byt.nil U⟩⟩)
  ·
   have h29':¬ (sz:Int) < 29:=by omega
   by_cases h6:n < sz+6
   ·
    have h6':(n:Int) - 6 < (sz:Int):=by omega
    have HF:Hid (ofB xs at'=false):=Lib.hid (by
     cases h:ofB xs at'
     · rfl
     · have:=(ref_of h).2.2.1;have:=HSZ.out;have:=HLX.out;omega)
    go_wp2_with fail;exact bodyPost_ret (results_rec3 rfl _ _ w.heap.size #[.int .i64 0,.int .u64 0,.int .u64 0,.int .u64 0,.int .i64 0,.int .i64 0,.slice none 0 0,.slice none 0 0] _ _ rfl rfl rfl rfl ((((((((HZ.out.set 0 _).set 1 _).set 2 _).set 3 _).set 4 _).set 5 _).set 6 _).set 7 _)) rfl (HNO.out HF.out _ _ ⟨none,0,0,none,0,0,rfl,Byt.nil _,Byt.nil _,below_set8 HG.out (Nat.le_refl _),fun U _=>⟨Byt.nil U,Byt.nil U⟩⟩)
   ·
    have h6':¬ (n:Int) - 6 < (sz:Int):=by omega
    have q1:sz+6≤c:=by omega
    have q2:(6:Int)+(sz:Int)≤(c:Int):=by omega
    have q3:¬ c=6:=by omega
    have e6:6+sz - 6=sz:=by omega
    go_upto_region 7 with fail
    rw [e6];clear e6;have hxl:=HLX.out
    have HGET:Hid (∀ W,Gr W1 W→∀ f s m:Nat,f+s+6≤n→s≤m→m≤c→Byt W (some ⟨B,O+6+f,none⟩) s m ((xs.drop (6+f)).take s)):=Lib.hid fun W gr f s m h1 h2 h3=>by
     have h:=(HBY.out.kept gr).sub (by omega) (6+f) s m (by omega) h2 (by have:=HBY.out.most;omega)
     rw [← Nat.add_assoc] at h
     exact h
    have HB1:Hid (∀ W,Gr W1 W→∀ f:Nat,f+1≤n→W.cell? ⟨B,O+f,none⟩=some (.int .u8 ((atR xs f 1:Nat):Int))):=Lib.hid fun W gr f h=>by
     obtain ⟨b',o',e,hc⟩:=(HBY.out.kept gr).at (by omega)
     cases e
     rw [hc f (by omega),at_byte f (by omega) HSM.out]
    have hv2:Wd.dec ((xs.drop (6+1)).take 8)=atR xs 7 8:=at_there 7 8 (by omega) (by omega) (by omega);have hv3:Wd.dec ((xs.drop (6+9)).take 8)=atR xs 15 8:=at_there 15 8 (by omega) (by omega) (by omega);have hv4:Wd.dec ((xs.drop (6+17)).take 8)=atR xs 23 8:=at_there 23 8 (by omega) (by omega) (by omega);have hv5:Wd.dec ((xs.drop (6+25)).take 2)=atR xs 31 2:=at_there 31 2 (by omega) (by omega) (by omega);have b1:atR xs 6 1 < 256:=atR_lt xs HSM.out 6 1 (by omega);have b5:atR xs 31 2 < 65536:=atR_lt xs HSM.out 31 2 (by omega);have b6:atR xs 33 1 < 256:=atR_lt xs HSM.out 33 1 (by omega);have b7:atR xs 34 1 < 256:=atR_lt xs HSM.out 34 1 (by omega)
    have HC1a:=fun W gr=>HB1.out W gr 6 (by omega)
    have HC6a:=fun W gr=>HB1.out W gr 33 (by omega)
    have HC7a:=fun W gr=>HB1.out W gr 34 (by omega)
    have HC2:Hid (∀ m,cand2 xs m=⟨(atR xs 6 1:Nat),atR xs 7 8,atR xs 15 8,atR xs 23 8,(atR xs 31 2:Nat),(atR xs 33 1:Nat),(xs.drop 35).take m,(xs.drop (35+m)).take (atR xs 34 1)⟩):=Lib.hid fun _=>rfl
    have HV7:Hid (ofB xs at'=true→atR xs 34 1+29≤szR xs):=Lib.hid fun h=>(ref_of h).2.2.2.1
    rw [show (((6:Nat):Int))=6 from rfl] at HC1a
    obtain ⟨v1,e1⟩:∃ v,v=atR xs 6 1:=⟨_,rfl⟩;obtain ⟨v2,e2⟩:∃ v,v=atR xs 7 8:=⟨_,rfl⟩;obtain ⟨v3,e3⟩:∃ v,v=atR xs 15 8:=⟨_,rfl⟩;obtain ⟨v4,e4⟩:∃ v,v=atR xs 23 8:=⟨_,rfl⟩;obtain ⟨v5,e5⟩:∃ v,v=atR xs 31 2:=⟨_,rfl⟩;obtain ⟨v6,e6⟩:∃ v,v=atR xs 33 1:=⟨_,rfl⟩;obtain ⟨v7,e7⟩:∃ v,v=atR xs 34 1:=⟨_,rfl⟩;have HC1:Hid (∀ W,Gr W1 W→W.cell? ⟨B,O+6,none⟩=some (.int .u8 (v1:Int))):=Lib.hid (by rw [e1];exact HC1a);have HC6:Hid (∀ W,Gr W1 W→W.cell? ⟨B,O+6+27,none⟩=some (.int .u8 (v6:Int))):=Lib.hid (by rw [e6];exact HC6a);have HC7:Hid (∀ W,Gr W1 W→W.cell? ⟨B,O+6+28,none⟩=some (.int .u8 (v7:Int))):=Lib.hid (by rw [e7];exact HC7a)
    rw [← e2] at hv2
    rw [← e3] at hv3
    rw [← e4] at hv4
    rw [← e5] at hv5 b5
    rw [← e1] at b1
    rw [← e6] at b6
    rw [← e7] at b7 HV7
    rw [← e1,← e2,← e3,← e4,← e5,← e6,← e7] at HC2
    have HE7:=Lib.hid e7.symm;have HV2:=Lib.hid hv2;have HV3:=Lib.hid hv3;have HV4:=Lib.hid hv4;have HV5:=Lib.hid hv5;have QS:Hid ((0 < sz∧27 < sz∧28 < sz)∧(9≤c - 6∧17≤c - 6∧25≤c - 6∧27≤c - 6)∧(¬ c - 6=1∧¬ c - 6=9∧¬ c - 6=17∧¬ c - 6=25)∧((27:Int) < (sz:Int)∧(28:Int) < (sz:Int))):=Lib.hid (by omega);have QI:Hid ((9:Int)≤((c - 6:Nat):Int)∧(17:Int)≤((c - 6:Nat):Int)∧(25:Int)≤((c - 6:Nat):Int)∧(27:Int)≤((c - 6:Nat):Int)):=Lib.hid (by omega);have QW:Hid (IntKind.i64.wrap (v1:Int)=v1∧IntKind.i64.wrap (v5:Int)=v5∧IntKind.i64.wrap (v6:Int)=v6∧IntKind.i64.wrap (v7:Int)=v7):=Lib.hid (by simp only [IntKind.wrap_i64];omega);clear HC1a HC6a HC7a HB1 hv2 hv3 hv4 hv5 e1 e2 e3 e4 e5 e6 e7 hxl;clear z0 z1 z2 z3 z4 z5 z6 z7 f0 f1 f2 f3 f4 f5 f6 f7;refine Flow.regionS [9] 20 (SlRo B O sz c W1.heap.size v1 v2 v3 v4 v5 v6) (InR W1 #[.int .i64 v1,.int .u64 v2,.int .u64 v3,.int .u64 v4,.int .i64 v5,.int .i64 v6,.slice none 0 0,.slice none 0 0]) (fun _ _ _=>True) (by kernel_rfl) (by kernel_rfl) (fun _ _ _ _ _ _ h _=>h) (show W1.drew=W1.drew from rfl) ?steps ?fin
    case steps=>
     refine .cons (fun l a W hfr hun hup hdn hinv hdep K hK=>?_) ?_
     · have t8:=tAt (.slice (some ⟨B,O+6,none⟩) sz (c - 6)) (hfr.at 8 (by kernel_rfl));refine fW0 rfl ?_;clear hfr hdep;have h23:=hup 23 (by decide) (by kernel_rfl);have hg:=hinv.ahead h23;go_simp;exact hK _ _ True.intro (hinv.keep 0 (by decide) (by decide)) (dsT (by trivial))
     refine .cons (fun l a W hfr hun hup hdn hinv hdep K hK=>?_) ?_
     · have t34:=tAt (.slice (some ⟨B,O+6,none⟩) sz (c - 6)) (hdep 34 (by kernel_rfl));refine fW0 rfl ?_;clear hfr hdep;have h23:=hup 23 (by decide) (by kernel_rfl);have hg:=hinv.ahead h23;obtain ⟨⟨qa1,qa2,qa3⟩,⟨qb1,qb2,qb3,qb4⟩,⟨qc1,qc2,qc3,qc4⟩,qd1,qd2⟩:=QS.out;obtain ⟨qi1,qi2,qi3,qi4⟩:=QI.out;go_simp;exact hK _ _ True.intro (hinv.keep 1 (by decide) (by decide)) (dsT (by trivial))
     refine .cons (fun l a W hfr hun hup hdn hinv hdep K hK=>?_) ?_
     · have t35:=tAt (.pointer (some ⟨B,O+6,none⟩)) (hdep 35 (by kernel_rfl));refine fW0 rfl ?_;clear hfr hdep;have h23:=hup 23 (by decide) (by kernel_rfl);have hg:=hinv.ahead h23;have hc:=HC1.out W hg;go_simp;exact hK _ _ True.intro (hinv.keep 2 (by decide) (by decide)) (dsT (by trivial))
     refine .cons (fun l a W hfr hun hup hdn hinv hdep K hK=>?_) ?_
     · have t36:=tAt (.int .u8 v1) (hdep 36 (by kernel_rfl));refine fW0 rfl ?_;clear hfr hdep;have h23:=hup 23 (by decide) (by kernel_rfl);have hg:=hinv.ahead h23;obtain ⟨qw1,qw2,qw3,qw4⟩:=QW.out;go_simp;exact hK _ _ True.intro (hinv.keep 3 (by decide) (by decide)) (dsT (by trivial))
     refine .cons (fun l a W hfr hun hup hdn hinv hdep K hK=>?_) ?_
     · have t8:=tAt (.slice (some ⟨B,O+6,none⟩) sz (c - 6)) (hfr.at 8 (by kernel_rfl));refine fW0 rfl ?_;clear hfr hdep;have h23:=hup 23 (by decide) (by kernel_rfl);have hg:=hinv.ahead h23;go_simp;exact hK _ _ True.intro (hinv.keep 4 (by decide) (by decide)) (dsT (by trivial))
     refine .cons (fun l a W hfr hun hup hdn hinv hdep K hK=>?_) ?_
     · have t38:=tAt (.slice (some ⟨B,O+6,none⟩) sz (c - 6)) (hdep 38 (by kernel_rfl));refine fW0 rfl ?_;clear hfr hdep;have h23:=hup 23 (by decide) (by kernel_rfl);have hg:=hinv.ahead h23;obtain ⟨⟨qa1,qa2,qa3⟩,⟨qb1,qb2,qb3,qb4⟩,⟨qc1,qc2,qc3,qc4⟩,qd1,qd2⟩:=QS.out;obtain ⟨qi1,qi2,qi3,qi4⟩:=QI.out;go_simp;exact hK _ _ True.intro (hinv.keep 5 (by decide) (by decide)) (dsT (by trivial))
     refine .cons (fun l a W hfr hun hup hdn hinv hdep K hK=>?_) ?_
     · have t39:=tAt (.slice (some ⟨B,O+6+1,none⟩) 8 (c - 6 - 1)) (hdep 39 (by kernel_rfl));refine fW0 rfl ?_;clear hfr hdep;have h23:=hup 23 (by decide) (by kernel_rfl);have hg:=hinv.ahead h23;go_simp;refine (refGet_any _ _ _ _ W (HGET.out W hg 1 8 (c - 6 - 1) (by omega) (by omega) (by omega)) (by omega)).mono ?_;rintro e W2 ⟨rfl,rfl⟩;rw [HV2.out];exact hK _ _ True.intro (hinv.keep 6 (by decide) (by decide)) (dsT (by trivial))
     refine .cons (fun l a W hfr hun hup hdn hinv hdep K hK=>?_) ?_
     · have t8:=tAt (.slice (some ⟨B,O+6,none⟩) sz (c - 6)) (hfr.at 8 (by kernel_rfl));refine fW0 rfl ?_;clear hfr hdep;have h23:=hup 23 (by decide) (by kernel_rfl);have hg:=hinv.ahead h23;go_simp;exact hK _ _ True.intro (hinv.keep 7 (by decide) (by decide)) (dsT (by trivial))
     refine .cons (fun l a W hfr hun hup hdn hinv hdep K hK=>?_) ?_
     · have t41:=tAt (.slice (some ⟨B,O+6,none⟩) sz (c - 6)) (hdep 41 (by kernel_rfl));refine fW0 rfl ?_;clear hfr hdep;have h23:=hup 23 (by decide) (by kernel_rfl);have hg:=hinv.ahead h23;obtain ⟨⟨qa1,qa2,qa3⟩,⟨qb1,qb2,qb3,qb4⟩,⟨qc1,qc2,qc3,qc4⟩,qd1,qd2⟩:=QS.out;obtain ⟨qi1,qi2,qi3,qi4⟩:=QI.out;go_simp;exact hK _ _ True.intro (hinv.keep 8 (by decide) (by decide)) (dsT (by trivial))
     refine .cons (fun l a W hfr hun hup hdn hinv hdep K hK=>?_) ?_
     · have t42:=tAt (.slice (some ⟨B,O+6+9,none⟩) 8 (c - 6 - 9)) (hdep 42 (by kernel_rfl));refine fW0 rfl ?_;clear hfr hdep;have h23:=hup 23 (by decide) (by kernel_rfl);have hg:=hinv.ahead h23;go_simp;refine (refGet_any _ _ _ _ W (HGET.out W hg 9 8 (c - 6 - 9) (by omega) (by omega) (by omega)) (by omega)).mono ?_;rintro e W2 ⟨rfl,rfl⟩;rw [HV3.out];exact hK _ _ True.intro (hinv.keep 9 (by decide) (by decide)) (dsT (by trivial))
     refine .cons (fun l a W hfr hun hup hdn hinv hdep K hK=>?_) ?_
     · have t8:=tAt (.slice (some ⟨B,O+6,none⟩) sz (c - 6)) (hfr.at 8 (by kernel_rfl));refine fW0 rfl ?_;clear hfr hdep;have h23:=hup 23 (by decide) (by kernel_rfl);have hg:=hinv.ahead h23;go_simp;exact hK _ _ True.intro (hinv.keep 10 (by decide) (by decide)) (dsT (by trivial))
     refine .cons (fun l a W hfr hun hup hdn hinv hdep K hK=>?_) ?_
     · have t44:=tAt (.slice (some ⟨B,O+6,none⟩) sz (c - 6)) (hdep 44 (by kernel_rfl));refine fW0 rfl ?_;clear hfr hdep;have h23:=hup 23 (by decide) (by kernel_rfl);have hg:=hinv.ahead h23;obtain ⟨⟨qa1,qa2,qa3⟩,⟨qb1,qb2,qb3,qb4⟩,⟨qc1,qc2,qc3,qc4⟩,qd1,qd2⟩:=QS.out;obtain ⟨qi1,qi2,qi3,qi4⟩:=QI.out;go_simp;exact hK _ _ True.intro (hinv.keep 11 (by decide) (by decide)) (dsT (by trivial))
     refine .cons (fun l a W hfr hun hup hdn hinv hdep K hK=>?_) ?_
     · have t45:=tAt (.slice (some ⟨B,O+6+17,none⟩) 8 (c - 6 - 17)) (hdep 45 (by kernel_rfl));refine fW0 rfl ?_;clear hfr hdep;have h23:=hup 23 (by decide) (by kernel_rfl);have hg:=hinv.ahead h23;go_simp;refine (refGet_any _ _ _ _ W (HGET.out W hg 17 8 (c - 6 - 17) (by omega) (by omega) (by omega)) (by omega)).mono ?_;rintro e W2 ⟨rfl,rfl⟩;rw [HV4.out];exact hK _ _ True.intro (hinv.keep 12 (by decide) (by decide)) (dsT (by trivial))
     refine .cons (fun l a W hfr hun hup hdn hinv hdep K hK=>?_) ?_
     · have t8:=tAt (.slice (some ⟨B,O+6,none⟩) sz (c - 6)) (hfr.at 8 (by kernel_rfl));refine fW0 rfl ?_;clear hfr hdep;have h23:=hup 23 (by decide) (by kernel_rfl);have hg:=hinv.ahead h23;go_simp;exact hK _ _ True.intro (hinv.keep 13 (by decide) (by decide)) (dsT (by trivial))
     refine .cons (fun l a W hfr hun hup hdn hinv hdep K hK=>?_) ?_
     · have t47:=tAt (.slice (some ⟨B,O+6,none⟩) sz (c - 6)) (hdep 47 (by kernel_rfl));refine fW0 rfl ?_;clear hfr hdep;have h23:=hup 23 (by decide) (by kernel_rfl);have hg:=hinv.ahead h23;obtain ⟨⟨qa1,qa2,qa3⟩,⟨qb1,qb2,qb3,qb4⟩,⟨qc1,qc2,qc3,qc4⟩,qd1,qd2⟩:=QS.out;obtain ⟨qi1,qi2,qi3,qi4⟩:=QI.out;go_simp;exact hK _ _ True.intro (hinv.keep 14 (by decide) (by decide)) (dsT (by trivial))
     refine .cons (fun l a W hfr hun hup hdn hinv hdep K hK=>?_) ?_
     · have t48:=tAt (.slice (some ⟨B,O+6+25,none⟩) 2 (c - 6 - 25)) (hdep 48 (by kernel_rfl));refine fW0 rfl ?_;clear hfr hdep;have h23:=hup 23 (by decide) (by kernel_rfl);have hg:=hinv.ahead h23;go_simp;refine (refGet_any _ _ _ _ W (HGET.out W hg 25 2 (c - 6 - 25) (by omega) (by omega) (by omega)) (by omega)).mono ?_;rintro e W2 ⟨rfl,rfl⟩;rw [HV5.out];exact hK _ _ True.intro (hinv.keep 15 (by decide) (by decide)) (dsT (by trivial))
     refine .cons (fun l a W hfr hun hup hdn hinv hdep K hK=>?_) ?_
     · have t49:=tAt (.int .u64 v5) (hdep 49 (by kernel_rfl));refine fW0 rfl ?_;clear hfr hdep;have h23:=hup 23 (by decide) (by kernel_rfl);have hg:=hinv.ahead h23;obtain ⟨qw1,qw2,qw3,qw4⟩:=QW.out;go_simp;exact hK _ _ True.intro (hinv.keep 16 (by decide) (by decide)) (dsT (by trivial))
     refine .cons (fun l a W hfr hun hup hdn hinv hdep K hK=>?_) ?_
     · have t8:=tAt (.slice (some ⟨B,O+6,none⟩) sz (c - 6)) (hfr.at 8 (by kernel_rfl));refine fW0 rfl ?_;clear hfr hdep;have h23:=hup 23 (by decide) (by kernel_rfl);have hg:=hinv.ahead h23;go_simp;exact hK _ _ True.intro (hinv.keep 17 (by decide) (by decide)) (dsT (by trivial))
     refine .cons (fun l a W hfr hun hup hdn hinv hdep K hK=>?_) ?_
     · have t51:=tAt (.slice (some ⟨B,O+6,none⟩) sz (c - 6)) (hdep 51 (by kernel_rfl));refine fW0 rfl ?_;clear hfr hdep;have h23:=hup 23 (by decide) (by kernel_rfl);have hg:=hinv.ahead h23;obtain ⟨⟨qa1,qa2,qa3⟩,⟨qb1,qb2,qb3,qb4⟩,⟨qc1,qc2,qc3,qc4⟩,qd1,qd2⟩:=QS.out;obtain ⟨qi1,qi2,qi3,qi4⟩:=QI.out;go_simp;exact hK _ _ True.intro (hinv.keep 18 (by decide) (by decide)) (dsT (by trivial))
     refine .cons (fun l a W hfr hun hup hdn hinv hdep K hK=>?_) ?_
     · have t52:=tAt (.pointer (some ⟨B,O+6+27,none⟩)) (hdep 52 (by kernel_rfl));refine fW0 rfl ?_;clear hfr hdep;have h23:=hup 23 (by decide) (by kernel_rfl);have hg:=hinv.ahead h23;have hc:=HC6.out W hg;go_simp;exact hK _ _ True.intro (hinv.keep 19 (by decide) (by decide)) (dsT (by trivial))
     refine .cons (fun l a W hfr hun hup hdn hinv hdep K hK=>?_) ?_
     · have t53:=tAt (.int .u8 v6) (hdep 53 (by kernel_rfl));refine fW0 rfl ?_;clear hfr hdep;have h23:=hup 23 (by decide) (by kernel_rfl);have hg:=hinv.ahead h23;obtain ⟨qw1,qw2,qw3,qw4⟩:=QW.out;go_simp;exact hK _ _ True.intro (hinv.keep 20 (by decide) (by decide)) (dsT (by trivial))
     refine .cons (fun l a W hfr hun hup hdn hinv hdep K hK=>?_) ?_
     · have t37:=tAt (.int .i64 v1) (hdep 37 (by kernel_rfl));have t40:=tAt (.int .u64 v2) (hdep 40 (by kernel_rfl));have t43:=tAt (.int .u64 v3) (hdep 43 (by kernel_rfl));have t46:=tAt (.int .u64 v4) (hdep 46 (by kernel_rfl));have t50:=tAt (.int .i64 v5) (hdep 50 (by kernel_rfl));have t54:=tAt (.int .i64 v6) (hdep 54 (by kernel_rfl));refine fW0 rfl ?_;clear hfr hdep;have h23:=hup 23 (by decide) (by kernel_rfl);have hg:=hinv.ahead h23;go_simp;exact hK _ _ True.intro (hinv.keep 21 (by decide) (by decide)) (dsT (by trivial))
     refine .cons (fun l a W hfr hun hup hdn hinv hdep K hK=>?_) ?_
     · refine fW0 rfl ?_;clear hfr hdep;have h23:=hup 23 (by decide) (by kernel_rfl);have hW:=hinv.at0 hun h23;subst hW;go_simp;exact hK _ _ True.intro (InR.s22 h23) (dsT (by trivial))
     refine .cons (fun l a W hfr hun hup hdn hinv hdep K hK=>?_) ?_
     · have s9:a.tmps.getD 9 undef=.pointer (some ⟨W1.heap.size,0,none⟩):=hdep 9 (by kernel_rfl);have t9:=tmpAt s9;have t55:=tAt (.agg #[.int .i64 v1,.int .u64 v2,.int .u64 v3,.int .u64 v4,.int .i64 v5,.int .i64 v6,.slice none 0 0,.slice none 0 0]) (hdep 55 (by kernel_rfl));refine fW0 rfl ?_;clear hfr hdep;have h22:=hdn 22 (by decide) (by kernel_rfl);have hg:=hinv.ahead hun;have hbz:=hinv.at1 h22 hun;obtain ⟨z0,z1,z2,z3,z4,z5,z6,z7⟩:=hbz.c8;obtain ⟨f0,f1,f2,f3,f4,f5,f6,f7⟩:=hbz.f8;go_simp;exact hK undef _ True.intro (InR.s23 (((((((hbz.set 0 _).set 1 _).set 2 _).set 3 _).set 4 _).set 5 _).set 6 _ |>.set 7 _) (below_set8 hg (Nat.le_refl _))) (fun d hd=>by cases hd)
     exact True.intro
    case fin=>
     intro a W l hfr hall hinv hsl
     have h23:l 23=true:=hall 23 (by decide);have s9:a.tmps.getD 9 undef=.pointer (some ⟨W1.heap.size,0,none⟩):=hsl 22 _ 9 rfl rfl (by simp);have t9:=tmpAt s9;have e:=Flow.frame hfr [34,35,36,37,38,39,40,41,42,43,44,45,46,47,48,49,50,51,52,53,54,55,9] (List.range 96) (by kernel_rfl) (by kernel_rfl)
     simp [List.range,List.range.loop] at e
     rw [t9] at e
     rw [e];have hfin:=hinv.fin h23;clear e hfr hsl hall hinv h23 s9 t9
     first
     | (rename_i hB;refine hB _ _ ?_)
     | (rename_i hB y0;refine hB _ _ ?_)
     | (rename_i hB y0 y1;refine hB _ _ ?_)
     | (rename_i hB y0 y1 y2;refine hB _ _ ?_)
     | (rename_i hB y0 y1 y2 y3;refine hB _ _ ?_)
     | (rename_i hB y0 y1 y2 y3 y4;refine hB _ _ ?_)
     | (rename_i hB y0 y1 y2 y3 y4 y5;refine hB _ _ ?_)
     | (rename_i hB y0 y1 y2 y3 y4 y5 y6;refine hB _ _ ?_)
     | (rename_i hB y0 y1 y2 y3 y4 y5 y6 y7;refine hB _ _ ?_)
     | (rename_i hB y0 y1 y2 y3 y4 y5 y6 y7 y8;refine hB _ _ ?_)
     | (rename_i hB y0 y1 y2 y3 y4 y5 y6 y7 y8 y9;refine hB _ _ ?_)
     | (rename_i hB y0 y1 y2 y3 y4 y5 y6 y7 y8 y9 y10;refine hB _ _ ?_)
     | (rename_i hB y0 y1 y2 y3 y4 y5 y6 y7 y8 y9 y10 y11;refine hB _ _ ?_)
     | (rename_i hB y0 y1 y2 y3 y4 y5 y6 y7 y8 y9 y10 y11 y12;refine hB _ _ ?_)
     have HBr:=Lib.hid hfin.1;have hg:=hfin.2;have HZ2:=Lib.hid (HZ.out.below hg HZ.out.lt);have HG2:=Lib.hid (Gr.trans HG.out hg);have HBY2:=Lib.hid (HBY.out.kept hg);have HLR:Hid (w.heap.size < W1.heap.size):=Lib.hid HZ.out.lt;have hc28:=HC7.out W hg;obtain ⟨⟨qa1,qa2,qa3⟩,_,_,qd1,qd2⟩:=QS.out;obtain ⟨r,hr⟩:∃ r,r=W1.heap.size:=⟨_,rfl⟩
     rw [← hr] at HBr HLR ⊢
     clear hr hfin hg HGET HC1 HC6 HC7 HZ HG HBY QS QI QW HV2 HV3 HV4 HV5 H2
     by_cases h7:sz < 29+v7
     ·
      have h7':(sz:Int) - 29 - (v7:Int) < 0:=by omega
      have HF:Hid (ofB xs at'=false):=Lib.hid (by
       cases h:ofB xs at'
       · rfl
       · have:=HV7.out h;have:=HSZ.out;omega)
      obtain ⟨z0,z1,z2,z3,z4,z5,z6,z7⟩:=HZ2.out.c8;obtain ⟨f0,f1,f2,f3,f4,f5,f6,f7⟩:=HZ2.out.f8;go_wp2_with fail;exact bodyPost_ret (results_rec3 rfl _ _ w.heap.size #[.int .i64 0,.int .u64 0,.int .u64 0,.int .u64 0,.int .i64 0,.int .i64 0,.slice none 0 0,.slice none 0 0] _ _ rfl rfl rfl rfl ((((((((HZ2.out.set 0 _).set 1 _).set 2 _).set 3 _).set 4 _).set 5 _).set 6 _).set 7 _)) rfl (HNO.out HF.out _ _ ⟨none,0,0,none,0,0,rfl,Byt.nil _,Byt.nil _,below_set8 HG2.out (Nat.le_refl _),fun U _=>⟨Byt.nil U,Byt.nil U⟩⟩)
     ·
      obtain ⟨m,hm⟩:∃ m,m=sz - 29 - v7:=⟨_,rfl⟩
      have hm':(sz:Int) - 29 - (v7:Int)=(m:Int):=by omega
      have hm2:sz=29+m+v7:=by omega
      have HM:=Lib.hid hm;have HM2:=Lib.hid hm2;clear hm
      have u1:(29:Int)+(m:Int)≤(sz:Int):=by omega
      have u2:(29:Int)+(m:Int)≤((c - 6:Nat):Int):=by omega
      have u3:29+m≤c - 6:=by omega
      have u4:29+m≤sz:=by omega
      clear hm2
      go_upto_region 10 with fail
      try rw [hm']
      clear hm';obtain ⟨c0,c1,c2,c3,c4,c5,c6,c7⟩:=HBr.out.c8;obtain ⟨g0,g1,g2,g3,g4,g5,g6,g7⟩:=HBr.out.f8
      go_upto_region 14 with fail
      have u5:sz - (29+m)=v7:=by have:=HM2.out;omega
      rw [u5];have hlr:=HLR.out;have hBv:=(HBr.out.set 6 (.slice (if c - 6=29 then some ⟨B,O+6,none⟩ else some ⟨B,O+6+29,none⟩) m (c - 6 - 29))).set 7 (.slice (if c - 6=29+m then some ⟨B,O+6,none⟩ else some ⟨B,O+6+(29+m),none⟩) v7 (c - 6 - (29+m)))
      have hz1:w.heap.size≠(Addr.mk r 6 none).block:=by show w.heap.size≠r;omega
      have hz2:w.heap.size≠(Addr.mk r 7 none).block:=by show w.heap.size≠r;omega
      have hZv:=(HZ2.out.far hz1 (.slice (if c - 6=29 then some ⟨B,O+6,none⟩ else some ⟨B,O+6+29,none⟩) m (c - 6 - 29))).far hz2 (.slice (if c - 6=29+m then some ⟨B,O+6,none⟩ else some ⟨B,O+6+(29+m),none⟩) v7 (c - 6 - (29+m)))
      have hy1:w.heap.size≤(Addr.mk r 6 none).block:=by show w.heap.size≤r;omega
      have hy2:w.heap.size≤(Addr.mk r 7 none).block:=by show w.heap.size≤r;omega
      have hGv:=(HG2.out.setCell hy1 (.slice (if c - 6=29 then some ⟨B,O+6,none⟩ else some ⟨B,O+6+29,none⟩) m (c - 6 - 29))).setCell hy2 (.slice (if c - 6=29+m then some ⟨B,O+6,none⟩ else some ⟨B,O+6+(29+m),none⟩) v7 (c - 6 - (29+m)))
      generalize ((W.setCell ⟨r,6,none⟩ (.slice (if c - 6=29 then some ⟨B,O+6,none⟩ else some ⟨B,O+6+29,none⟩) m (c - 6 - 29))).setCell ⟨r,7,none⟩ (.slice (if c - 6=29+m then some ⟨B,O+6,none⟩ else some ⟨B,O+6+(29+m),none⟩) v7 (c - 6 - (29+m))))=V at hBv hZv hGv ⊢
      have HGv:Hid (Gr w V):=Lib.hid hGv;have HZv:=Lib.hid hZv;have hX:=HB0.out.kept hGv;have m6:=HM2.out;have yb:=byt_at hX 29 m (by omega) (by omega);have ya:=byt_at hX (29+m) v7 (by omega) (by omega);obtain ⟨qb,hqb⟩:∃ q,q=(if c - 6=29 then (some ⟨B,O+6,none⟩:Option Addr) else some ⟨B,O+6+29,none⟩):=⟨_,rfl⟩;obtain ⟨qa,hqa⟩:∃ q,q=(if c - 6=29+m then (some ⟨B,O+6,none⟩:Option Addr) else some ⟨B,O+6+(29+m),none⟩):=⟨_,rfl⟩
      rw [← hqb] at yb hBv ⊢
      rw [← hqa] at ya hBv ⊢
      have HBv:Hid (Blk V r TR #[.int .i64 v1,.int .u64 v2,.int .u64 v3,.int .u64 v4,.int .i64 v5,.int .i64 v6,.slice qb m (c - 6 - 29),.slice qa v7 (c - 6 - (29+m))]):=Lib.hid hBv;have hc2:=HC2.out m;have yb':Byt V qb m (c - 6 - 29) (cand2 xs m).b:=yb
      have ya':Byt V qa v7 (c - 6 - (29+m)) (cand2 xs m).a:=by
       rw [hc2]
       rw [show 6+(29+m)=35+m by omega] at ya
       exact ya
      have HYB:=Lib.hid yb';have HYA:=Lib.hid ya';have HIN:=Lib.hid (cand2_in xs HSM.out m)
      have hma:∀ W,Gr V W→Calls Tryz.prog 46 #[.agg #[.int .i64 v1,.int .u64 v2,.int .u64 v3,.int .u64 v4,.int .i64 v5,.int .i64 v6,.slice qb m (c - 6 - 29),.slice qa v7 (c - 6 - (29+m))]] W (RetB (mayR (cand2 xs m)) W):=fun W gr=>by
       have h:=refMay_any (cand2 xs m) qb m (c - 6 - 29) qa v7 (c - 6 - (29+m)) W (HYB.out.kept gr) (HYA.out.kept gr)
       rw [hc2] at h ⊢
       exact h
      have hrb:mayR (cand2 xs m)=true→∀ W,Gr V W→Calls Tryz.prog 47 #[.agg #[.int .i64 v1,.int .u64 v2,.int .u64 v3,.int .u64 v4,.int .i64 v5,.int .i64 v6,.slice qb m (c - 6 - 29),.slice qa v7 (c - 6 - (29+m))],.int .u64 at'] W (RetByte (recL (cand2 xs m) at') W):=fun hm W gr=>by
       have h:=refBytes_any (cand2 xs m) qb m (c - 6 - 29) qa v7 (c - 6 - (29+m)) at' W hm HIN.out (HYB.out.kept gr) (HYA.out.kept gr) hat
       rw [hc2] at h ⊢
       exact h
      have HPX:=Lib.hid (hX.pre (6+sz) c (by omega) (by omega) (Nat.le_refl _))
      have HREF:Hid (ofB xs at'=true→mayR (cand2 xs m)=true∧recL (cand2 xs m) at'=xs.take (6+sz)):=Lib.hid fun h=>by
       have h1:=ref_of h;have e1:szR xs=sz:=HSZ.out.symm;have e2:atR xs 34 1=v7:=HE7.out
       rw [e1,e2,← HM.out] at h1
       exact ⟨h1.2.2.2.2.1,h1.2.2.2.2.2.2⟩
      have HYES:Hid (mayR (cand2 xs m)=true→recL (cand2 xs m) at'=xs.take (6+sz)→ofB xs at'=true∧cand xs=cand2 xs m∧(recL (cand xs) at').length=6+sz):=Lib.hid fun h1 h2=>by
       have e1:szR xs=sz:=HSZ.out.symm;have h3:=ref_yes (xs:=xs) (at':=at') (m:=m) HSM.out (by rw [e1,HLX.out];omega) h1 (by rw [e1];exact h2)
       rw [e1] at h3
       exact h3
      have QQ:Hid ((0:Int)≤6+(sz:Int)∧(6:Int)+(sz:Int)≤(c:Int)∧6+sz≤c∧IntKind.i64.wrap (6+(sz:Int))=6+(sz:Int)):=Lib.hid ⟨by omega,by omega,by omega,by rw [IntKind.wrap_i64];omega⟩
      have HKP:Hid (∀ U,Byt U (some ⟨B,O,none⟩) n c xs→Byt U qb m (c - 6 - 29) ((xs.drop 35).take m)∧Byt U qa v7 (c - 6 - (29+m)) ((xs.drop (35+m)).take v7)):=Lib.hid fun U gr=>⟨by rw [hqb];exact byt_at gr 29 m (by omega) (by omega),by
       rw [hqa];have h:=byt_at gr (29+m) v7 (by omega) (by omega)
       rw [show 6+(29+m)=35+m by omega] at h
       exact h⟩
      have HCC:=Lib.hid hc2;clear hBv hZv hGv hX yb ya hqb hqa yb' ya' hc2 hz1 hz2 hy1 hy2 m6 c0 c1 c2 c3 c4 c5 c6 c7 g0 g1 g2 g3 g4 g5 g6 g7 u1 u2 u3 u4 u5 hlr hc28 HBr HZ2 HG2 HBY2
      cases hM:mayR (cand2 xs m)
      ·
       have HMA:Hid (∀ W,Gr V W→Calls Tryz.prog 46 #[.agg #[.int .i64 v1,.int .u64 v2,.int .u64 v3,.int .u64 v4,.int .i64 v5,.int .i64 v6,.slice qb m (c - 6 - 29),.slice qa v7 (c - 6 - (29+m))]] W (RetB false W)):=Lib.hid (by rw [← hM];exact hma)
       have HF:Hid (ofB xs at'=false):=Lib.hid (by
        cases h:ofB xs at'
        · rfl
        · have:=(HREF.out h).1;rw [hM] at this;cases this)
       clear hma hrb hM;obtain ⟨ST,hST⟩:∃ s,s=ByteArray.empty:=⟨_,rfl⟩;obtain ⟨SU,hSU⟩:∃ s,s=ByteArray.empty:=⟨_,rfl⟩;obtain ⟨L,hL⟩:∃ s,s=([]:List Int):=⟨_,rfl⟩;clear hST hSU hL;refine Flow.region (SlRq1 v1 v2 v3 v4 v5 v6 v7 qb m (c - 6 - 29) qa (c - 6 - (29+m)) at' B O n c sz ST SU L) (Gr V) Gr (by kernel_rfl) (by kernel_rfl) (fun _ _ _ _ h g=>slRq1_gr h g) ⟨rfl,rfl,rfl,Nat.le_refl _,fun _ _=>rfl⟩ ?steps ?fin
       case steps=>
        refine .cons (fun A W hfr hinv hdep K hK=>?_) ?_
        · have t9:=tAt (.pointer (some ⟨r,0,none⟩)) (hfr.at 9 (by kernel_rfl));refine fW0 rfl ?_;clear hfr hdep;obtain ⟨c0,c1,c2,c3,c4,c5,c6,c7⟩:=(HBv.out.below hinv HBv.out.lt).c8;go_simp;exact hK _ _ (Gr.refl _) hinv (dsT (by trivial))
        refine .cons (fun A W hfr hinv hdep K hK=>?_) ?_
        · have t77:=tAt (.agg #[.int .i64 v1,.int .u64 v2,.int .u64 v3,.int .u64 v4,.int .i64 v5,.int .i64 v6,.slice qb m (c - 6 - 29),.slice qa v7 (c - 6 - (29+m))]) (hdep 77 (by kernel_rfl));refine fW0 rfl ?_;clear hfr hdep;go_simp;refine (HMA.out W hinv).mono ?_;rintro e W2 ⟨rfl,g1⟩;exact hK _ _ g1 (Gr.trans hinv g1) (dsT (by trivial))
        refine .cons (fun A W hfr hinv hdep K hK=>?_) ?_
        · have t78:=tAt (.bool false) (hdep 78 (by kernel_rfl));refine fW0 rfl ?_;clear hfr hdep;go_simp;exact hK _ _ (Gr.refl _) hinv (dsT (by trivial))
        refine .cons (fun A W hfr hinv hdep K hK=>?_) ?_
        · have t79:=tAt (.bool true) (hdep 79 (by kernel_rfl));refine fW0 rfl ?_;clear hfr hdep;go_simp;exact hK _ _ (Gr.refl _) hinv (dsT (by trivial))
        refine .cons (fun A W hfr hinv hdep K hK=>?_) ?_
        · have sg:A.tmps.getD 80 undef=.bool !false:=hdep 80 (by kernel_rfl);have t9:=tAt (.pointer (some ⟨r,0,none⟩)) (hfr.at 9 (by kernel_rfl));rw [if_neg (Flow.wanted_no 3 false 80 rfl (by kernel_rfl) sg)];clear hfr hdep;exact hK _ _ (Gr.refl _) hinv (dsT (by trivial))
        refine .cons (fun A W hfr hinv hdep K hK=>?_) ?_
        · have sg:A.tmps.getD 80 undef=.bool !false:=hdep 80 (by kernel_rfl);have t1:=tAt (.int .u64 at') (hfr.at 1 (by kernel_rfl));rw [if_neg (Flow.wanted_no 3 false 80 rfl (by kernel_rfl) sg)];clear hfr hdep;exact hK _ _ (Gr.refl _) hinv (dsT (by trivial))
        refine .cons (fun A W hfr hinv hdep K hK=>?_) ?_
        · have sg:A.tmps.getD 80 undef=.bool !false:=hdep 80 (by kernel_rfl);rw [if_neg (Flow.wanted_no 3 false 80 rfl (by kernel_rfl) sg)];clear hfr hdep;exact hK _ _ (Gr.refl _) hinv (dsT (by trivial))
        refine .cons (fun A W hfr hinv hdep K hK=>?_) ?_
        · have sg:A.tmps.getD 80 undef=.bool !false:=hdep 80 (by kernel_rfl);rw [if_neg (Flow.wanted_no 3 false 80 rfl (by kernel_rfl) sg)];clear hfr hdep;exact hK _ _ (Gr.refl _) hinv (dsT (by trivial))
        refine .cons (fun A W hfr hinv hdep K hK=>?_) ?_
        · have sg:A.tmps.getD 80 undef=.bool !false:=hdep 80 (by kernel_rfl);have t0:=tAt (.slice (some ⟨B,O,none⟩) n c) (hfr.at 0 (by kernel_rfl));rw [if_neg (Flow.wanted_no 3 false 80 rfl (by kernel_rfl) sg)];clear hfr hdep;exact hK _ _ (Gr.refl _) hinv (dsT (by trivial))
        refine .cons (fun A W hfr hinv hdep K hK=>?_) ?_
        · have sg:A.tmps.getD 80 undef=.bool !false:=hdep 80 (by kernel_rfl);have t7:=tAt (.int .i64 sz) (hfr.at 7 (by kernel_rfl));rw [if_neg (Flow.wanted_no 3 false 80 rfl (by kernel_rfl) sg)];clear hfr hdep;exact hK _ _ (Gr.refl _) hinv (dsT (by trivial))
        refine .cons (fun A W hfr hinv hdep K hK=>?_) ?_
        · have sg:A.tmps.getD 80 undef=.bool !false:=hdep 80 (by kernel_rfl);rw [if_neg (Flow.wanted_no 3 false 80 rfl (by kernel_rfl) sg)];clear hfr hdep;exact hK _ _ (Gr.refl _) hinv (dsT (by trivial))
        refine .cons (fun A W hfr hinv hdep K hK=>?_) ?_
        · have sg:A.tmps.getD 80 undef=.bool !false:=hdep 80 (by kernel_rfl);rw [if_neg (Flow.wanted_no 3 false 80 rfl (by kernel_rfl) sg)];clear hfr hdep;exact hK _ _ (Gr.refl _) hinv (dsT (by trivial))
        refine .cons (fun A W hfr hinv hdep K hK=>?_) ?_
        · have sg:A.tmps.getD 80 undef=.bool !false:=hdep 80 (by kernel_rfl);rw [if_neg (Flow.wanted_no 3 false 80 rfl (by kernel_rfl) sg)];clear hfr hdep;exact hK _ _ (Gr.refl _) hinv (dsT (by trivial))
        refine .cons (fun A W hfr hinv hdep K hK=>?_) ?_
        · have sg:A.tmps.getD 80 undef=.bool !false:=hdep 80 (by kernel_rfl);rw [if_neg (Flow.wanted_no 3 false 80 rfl (by kernel_rfl) sg)];clear hfr hdep;exact hK _ _ (Gr.refl _) hinv (dsT (by trivial))
        refine .cons (fun A W hfr hinv hdep K hK=>?_) ?_
        · have t80:=tAt (.bool true) (hdep 80 (by kernel_rfl));refine fW0 rfl ?_;clear hfr hdep;go_simp;exact hK _ _ (Gr.refl _) hinv (dsT (by trivial))
        exact True.intro
       case fin=>
        intro A W hfr hfin hsl
        have s91:A.tmps.getD 91 undef=.bool true:=hsl 14 _ 91 rfl rfl;have t91:=tmpAt s91;have e:=Flow.frame hfr [77,78,79,80,81,82,83,84,85,86,87,88,89,90,91] (List.range 96) (by kernel_rfl) (by kernel_rfl)
        simp [List.range,List.range.loop] at e
        rw [t91] at e
        rw [e];clear e hfr hsl s91 t91
        first
        | (rename_i hB;refine hB _ _ ?_)
        | (rename_i hB y0;refine hB _ _ ?_)
        | (rename_i hB y0 y1;refine hB _ _ ?_)
        | (rename_i hB y0 y1 y2;refine hB _ _ ?_)
        | (rename_i hB y0 y1 y2 y3;refine hB _ _ ?_)
        | (rename_i hB y0 y1 y2 y3 y4;refine hB _ _ ?_)
        | (rename_i hB y0 y1 y2 y3 y4 y5;refine hB _ _ ?_)
        | (rename_i hB y0 y1 y2 y3 y4 y5 y6;refine hB _ _ ?_)
        | (rename_i hB y0 y1 y2 y3 y4 y5 y6 y7;refine hB _ _ ?_)
        | (rename_i hB y0 y1 y2 y3 y4 y5 y6 y7 y8;refine hB _ _ ?_)
        | (rename_i hB y0 y1 y2 y3 y4 y5 y6 y7 y8 y9;refine hB _ _ ?_)
        | (rename_i hB y0 y1 y2 y3 y4 y5 y6 y7 y8 y9 y10;refine hB _ _ ?_)
        | (rename_i hB y0 y1 y2 y3 y4 y5 y6 y7 y8 y9 y10 y11;refine hB _ _ ?_)
        | (rename_i hB y0 y1 y2 y3 y4 y5 y6 y7 y8 y9 y10 y11 y12;refine hB _ _ ?_)
        have HZw:=Lib.hid (HZv.out.below hfin HZv.out.lt);have HGw:=Lib.hid (Gr.trans HGv.out hfin);obtain ⟨z0,z1,z2,z3,z4,z5,z6,z7⟩:=HZw.out.c8;obtain ⟨f0,f1,f2,f3,f4,f5,f6,f7⟩:=HZw.out.f8;go_wp2_with fail;exact bodyPost_ret (results_rec3 rfl _ _ w.heap.size #[.int .i64 0,.int .u64 0,.int .u64 0,.int .u64 0,.int .i64 0,.int .i64 0,.slice none 0 0,.slice none 0 0] _ _ rfl rfl rfl rfl ((((((((HZw.out.set 0 _).set 1 _).set 2 _).set 3 _).set 4 _).set 5 _).set 6 _).set 7 _)) rfl (HNO.out HF.out _ _ ⟨none,0,0,none,0,0,rfl,Byt.nil _,Byt.nil _,below_set8 HGw.out (Nat.le_refl _),fun U _=>⟨Byt.nil U,Byt.nil U⟩⟩)
      ·
       have HMA:Hid (∀ W,Gr V W→Calls Tryz.prog 46 #[.agg #[.int .i64 v1,.int .u64 v2,.int .u64 v3,.int .u64 v4,.int .i64 v5,.int .i64 v6,.slice qb m (c - 6 - 29),.slice qa v7 (c - 6 - (29+m))]] W (RetB true W)):=Lib.hid (by rw [← hM];exact hma);have HRB:=Lib.hid (hrb hM);have HMT:=Lib.hid hM
       obtain ⟨L,hL⟩:∃ s,s=recL (cand2 xs m) at':=⟨_,rfl⟩
       rw [← hL] at HRB
       have hls:Wd.Small L:=by rw [hL];exact recL_small HIN.out at'
       have hse:=strEq hls (HSM.out.take (6+sz));obtain ⟨ST,hST⟩:∃ s,s=strOfNums L:=⟨_,rfl⟩;obtain ⟨SU,hSU⟩:∃ s,s=strOfNums (xs.take (6+sz)):=⟨_,rfl⟩
       rw [← hST,← hSU] at hse
       have HST:=Lib.hid hST;have HSU:=Lib.hid hSU;have HL:=Lib.hid hL;clear hma hrb hM hST hSU hL hls
       by_cases hq:L=xs.take (6+sz)
       ·
        have HEQ:Hid ((ST.toList == SU.toList)=true):=Lib.hid (by rw [hse];exact decide_eq_true hq);have HQ:=Lib.hid hq;clear hse hq;refine Flow.region (SlRq3 v1 v2 v3 v4 v5 v6 v7 qb m (c - 6 - 29) qa (c - 6 - (29+m)) at' B O n c sz ST SU L) (Gr V) Gr (by kernel_rfl) (by kernel_rfl) (fun _ _ _ _ h g=>slRq3_gr h g) ⟨rfl,rfl,rfl,Nat.le_refl _,fun _ _=>rfl⟩ ?steps ?fin
        case steps=>
         refine .cons (fun A W hfr hinv hdep K hK=>?_) ?_
         · have t9:=tAt (.pointer (some ⟨r,0,none⟩)) (hfr.at 9 (by kernel_rfl));refine fW0 rfl ?_;clear hfr hdep;obtain ⟨c0,c1,c2,c3,c4,c5,c6,c7⟩:=(HBv.out.below hinv HBv.out.lt).c8;go_simp;exact hK _ _ (Gr.refl _) hinv (dsT (by trivial))
         refine .cons (fun A W hfr hinv hdep K hK=>?_) ?_
         · have t77:=tAt (.agg #[.int .i64 v1,.int .u64 v2,.int .u64 v3,.int .u64 v4,.int .i64 v5,.int .i64 v6,.slice qb m (c - 6 - 29),.slice qa v7 (c - 6 - (29+m))]) (hdep 77 (by kernel_rfl));refine fW0 rfl ?_;clear hfr hdep;go_simp;refine (HMA.out W hinv).mono ?_;rintro e W2 ⟨rfl,g1⟩;exact hK _ _ g1 (Gr.trans hinv g1) (dsT (by trivial))
         refine .cons (fun A W hfr hinv hdep K hK=>?_) ?_
         · have t78:=tAt (.bool true) (hdep 78 (by kernel_rfl));refine fW0 rfl ?_;clear hfr hdep;go_simp;exact hK _ _ (Gr.refl _) hinv (dsT (by trivial))
         refine .cons (fun A W hfr hinv hdep K hK=>?_) ?_
         · have t79:=tAt (.bool false) (hdep 79 (by kernel_rfl));refine fW0 rfl ?_;clear hfr hdep;go_simp;exact hK _ _ (Gr.refl _) hinv (dsT (by trivial))
         refine .cons (fun A W hfr hinv hdep K hK=>?_) ?_
         · have sg:A.tmps.getD 80 undef=.bool false:=hdep 80 (by kernel_rfl);have t9:=tAt (.pointer (some ⟨r,0,none⟩)) (hfr.at 9 (by kernel_rfl));rw [if_pos (Flow.wanted_yes 3 false 80 rfl (by kernel_rfl) sg)];clear hfr hdep;obtain ⟨c0,c1,c2,c3,c4,c5,c6,c7⟩:=(HBv.out.below hinv HBv.out.lt).c8;go_simp;exact hK _ _ (Gr.refl _) hinv (dsT (by trivial))
         refine .cons (fun A W hfr hinv hdep K hK=>?_) ?_
         · have sg:A.tmps.getD 80 undef=.bool false:=hdep 80 (by kernel_rfl);have t1:=tAt (.int .u64 at') (hfr.at 1 (by kernel_rfl));rw [if_pos (Flow.wanted_yes 3 false 80 rfl (by kernel_rfl) sg)];clear hfr hdep;go_simp;exact hK _ _ (Gr.refl _) hinv (dsT (by trivial))
         refine .cons (fun A W hfr hinv hdep K hK=>?_) ?_
         · have sg:A.tmps.getD 80 undef=.bool false:=hdep 80 (by kernel_rfl);have t81:=tAt (.agg #[.int .i64 v1,.int .u64 v2,.int .u64 v3,.int .u64 v4,.int .i64 v5,.int .i64 v6,.slice qb m (c - 6 - 29),.slice qa v7 (c - 6 - (29+m))]) (hdep 81 (by kernel_rfl));have t82:=tAt (.int .u64 at') (hdep 82 (by kernel_rfl));rw [if_pos (Flow.wanted_yes 3 false 80 rfl (by kernel_rfl) sg)];clear hfr hdep;go_simp;refine (HRB.out W hinv).mono ?_;rintro e W2 ⟨q2,m2,d2,rfl,hy2,g1,_⟩;exact hK _ _ g1 (Gr.trans hinv g1) (fun d hd=>by cases hd;exact ⟨_,_,_,rfl,hy2⟩)
         refine .cons (fun A W hfr hinv hdep K hK=>?_) ?_
         ·
          have sg:A.tmps.getD 80 undef=.bool false:=hdep 80 (by kernel_rfl);have s83:IsB W (A.tmps.getD 83 undef) L:=hdep 83 (by kernel_rfl);rw [if_pos (Flow.wanted_yes 3 false 80 rfl (by kernel_rfl) sg)];clear hfr hdep;obtain ⟨q2,m2,d2,s83,hy2⟩:=s83;have t83:=tmpAt s83;have hcv:=hy2.lies.convert hy2.len d2 31 5 9 Tryz.underlying31 Tryz.underlying5 Tryz.underlying9
          rw [← HST.out] at hcv
          go_simp;exact hK _ _ (Gr.refl _) hinv (dsT (by trivial))
         refine .cons (fun A W hfr hinv hdep K hK=>?_) ?_
         · have sg:A.tmps.getD 80 undef=.bool false:=hdep 80 (by kernel_rfl);have t0:=tAt (.slice (some ⟨B,O,none⟩) n c) (hfr.at 0 (by kernel_rfl));rw [if_pos (Flow.wanted_yes 3 false 80 rfl (by kernel_rfl) sg)];clear hfr hdep;go_simp;exact hK _ _ (Gr.refl _) hinv (dsT (by trivial))
         refine .cons (fun A W hfr hinv hdep K hK=>?_) ?_
         · have sg:A.tmps.getD 80 undef=.bool false:=hdep 80 (by kernel_rfl);have t7:=tAt (.int .i64 sz) (hfr.at 7 (by kernel_rfl));rw [if_pos (Flow.wanted_yes 3 false 80 rfl (by kernel_rfl) sg)];clear hfr hdep;go_simp;exact hK _ _ (Gr.refl _) hinv (dsT (by trivial))
         refine .cons (fun A W hfr hinv hdep K hK=>?_) ?_
         · have sg:A.tmps.getD 80 undef=.bool false:=hdep 80 (by kernel_rfl);have t86:=tAt (.int .i64 sz) (hdep 86 (by kernel_rfl));rw [if_pos (Flow.wanted_yes 3 false 80 rfl (by kernel_rfl) sg)];clear hfr hdep;obtain ⟨qq1,qq2,qq3,qq4⟩:=QQ.out;go_simp;exact hK _ _ (Gr.refl _) hinv (dsT (by trivial))
         refine .cons (fun A W hfr hinv hdep K hK=>?_) ?_
         · have sg:A.tmps.getD 80 undef=.bool false:=hdep 80 (by kernel_rfl);have t85:=tAt (.slice (some ⟨B,O,none⟩) n c) (hdep 85 (by kernel_rfl));have t87:=tAt (.int .i64 (6+(sz:Int))) (hdep 87 (by kernel_rfl));rw [if_pos (Flow.wanted_yes 3 false 80 rfl (by kernel_rfl) sg)];clear hfr hdep;obtain ⟨qq1,qq2,qq3,qq4⟩:=QQ.out;go_simp;exact hK _ _ (Gr.refl _) hinv (dsT (by trivial))
         refine .cons (fun A W hfr hinv hdep K hK=>?_) ?_
         ·
          have sg:A.tmps.getD 80 undef=.bool false:=hdep 80 (by kernel_rfl);have t88:=tAt (.slice (some ⟨B,O,none⟩) (6+sz) c) (hdep 88 (by kernel_rfl));rw [if_pos (Flow.wanted_yes 3 false 80 rfl (by kernel_rfl) sg)];clear hfr hdep;have hyp:=(HPX.out.kept hinv);have hcv:=hyp.lies.convert hyp.len c 31 5 9 Tryz.underlying31 Tryz.underlying5 Tryz.underlying9
          rw [← HSU.out] at hcv
          go_simp;exact hK _ _ (Gr.refl _) hinv (dsT (by trivial))
         refine .cons (fun A W hfr hinv hdep K hK=>?_) ?_
         · have sg:A.tmps.getD 80 undef=.bool false:=hdep 80 (by kernel_rfl);have t84:=tAt (.string ST) (hdep 84 (by kernel_rfl));have t89:=tAt (.string SU) (hdep 89 (by kernel_rfl));rw [if_pos (Flow.wanted_yes 3 false 80 rfl (by kernel_rfl) sg)];clear hfr hdep;have hst:=HEQ.out;go_simp;exact hK _ _ (Gr.refl _) hinv (dsT (by trivial))
         refine .cons (fun A W hfr hinv hdep K hK=>?_) ?_
         · have t80:=tAt (.bool false) (hdep 80 (by kernel_rfl));have t90:=tAt (.bool false) (hdep 90 (by kernel_rfl));refine fW0 rfl ?_;clear hfr hdep;go_simp;exact hK _ _ (Gr.refl _) hinv (dsT (by trivial))
         exact True.intro
        case fin=>
         intro A W hfr hfin hsl
         have s91:A.tmps.getD 91 undef=.bool false:=hsl 14 _ 91 rfl rfl;have t91:=tmpAt s91;have e:=Flow.frame hfr [77,78,79,80,81,82,83,84,85,86,87,88,89,90,91] (List.range 96) (by kernel_rfl) (by kernel_rfl)
         simp [List.range,List.range.loop] at e
         rw [t91] at e
         rw [e];clear e hfr hsl s91 t91
         first
         | (rename_i hB;refine hB _ _ ?_)
         | (rename_i hB y0;refine hB _ _ ?_)
         | (rename_i hB y0 y1;refine hB _ _ ?_)
         | (rename_i hB y0 y1 y2;refine hB _ _ ?_)
         | (rename_i hB y0 y1 y2 y3;refine hB _ _ ?_)
         | (rename_i hB y0 y1 y2 y3 y4;refine hB _ _ ?_)
         | (rename_i hB y0 y1 y2 y3 y4 y5;refine hB _ _ ?_)
         | (rename_i hB y0 y1 y2 y3 y4 y5 y6;refine hB _ _ ?_)
         | (rename_i hB y0 y1 y2 y3 y4 y5 y6 y7;refine hB _ _ ?_)
         | (rename_i hB y0 y1 y2 y3 y4 y5 y6 y7 y8;refine hB _ _ ?_)
         | (rename_i hB y0 y1 y2 y3 y4 y5 y6 y7 y8 y9;refine hB _ _ ?_)
         | (rename_i hB y0 y1 y2 y3 y4 y5 y6 y7 y8 y9 y10;refine hB _ _ ?_)
         | (rename_i hB y0 y1 y2 y3 y4 y5 y6 y7 y8 y9 y10 y11;refine hB _ _ ?_)
         | (rename_i hB y0 y1 y2 y3 y4 y5 y6 y7 y8 y9 y10 y11 y12;refine hB _ _ ?_)
         have HZw:=Lib.hid (HZv.out.below hfin HZv.out.lt);have HGw:=Lib.hid (Gr.trans HGv.out hfin);obtain ⟨z0,z1,z2,z3,z4,z5,z6,z7⟩:=HZw.out.c8;obtain ⟨f0,f1,f2,f3,f4,f5,f6,f7⟩:=HZw.out.f8;obtain ⟨c0,c1,c2,c3,c4,c5,c6,c7⟩:=(HBv.out.below hfin HBv.out.lt).c8;have HY1:=Lib.hid (HYB.out.kept hfin);have HY2:=Lib.hid (HYA.out.kept hfin);clear hfin
         have HFIN:Hid (∀ e w',RetRef ⟨(v1:Int),v2,v3,v4,(v5:Int),(v6:Int),(xs.drop 35).take m,(xs.drop (35+m)).take v7⟩ (6+sz) (.bool true) (fun U=>Byt U (some ⟨B,O,none⟩) n c xs) w e w'→RetRef (ofR xs at') (ofN xs at') (.bool (ofB xs at')) (fun U=>Byt U (some ⟨B,O,none⟩) n c xs) w e w'):=Lib.hid fun e w' h=>by
          obtain ⟨h1,h2,h3⟩:=HYES.out HMT.out (HL.out.symm.trans HQ.out)
          have e1:ofR xs at'=cand2 xs m:=by unfold ofR;rw [h1,h2];rfl
          have e2:ofN xs at'=6+sz:=by unfold ofN;rw [h1];exact h3
          rw [e1,e2,h1,HCC.out];exact h
         go_wp2_with fail
         exact bodyPost_ret (results_rec3 rfl _ _ w.heap.size #[.int .i64 v1,.int .u64 v2,.int .u64 v3,.int .u64 v4,.int .i64 v5,.int .i64 v6,.slice qb m (c - 6 - 29),.slice qa v7 (c - 6 - (29+m))] _ _ rfl rfl rfl rfl ((((((((HZw.out.set 0 _).set 1 _).set 2 _).set 3 _).set 4 _).set 5 _).set 6 _).set 7 _)) rfl
          (HFIN.out _ _ ⟨qb,m,c - 6 - 29,qa,v7,c - 6 - (29+m),by rw [Int.natCast_add];rfl,(HKP.out _ (HB0.out.kept (below_set8 HGw.out (Nat.le_refl _)))).1,(HKP.out _ (HB0.out.kept (below_set8 HGw.out (Nat.le_refl _)))).2,below_set8 HGw.out (Nat.le_refl _),HKP.out⟩)
       ·
        have HEQ:Hid ((ST.toList == SU.toList)=false):=Lib.hid (by rw [hse];exact decide_eq_false hq)
        have HF:Hid (ofB xs at'=false):=Lib.hid (by
         cases h:ofB xs at'
         · rfl
         · exact absurd (HL.out.trans (HREF.out h).2) hq)
        clear hse hq;refine Flow.region (SlRq2 v1 v2 v3 v4 v5 v6 v7 qb m (c - 6 - 29) qa (c - 6 - (29+m)) at' B O n c sz ST SU L) (Gr V) Gr (by kernel_rfl) (by kernel_rfl) (fun _ _ _ _ h g=>slRq2_gr h g) ⟨rfl,rfl,rfl,Nat.le_refl _,fun _ _=>rfl⟩ ?steps ?fin
        case steps=>
         refine .cons (fun A W hfr hinv hdep K hK=>?_) ?_
         · have t9:=tAt (.pointer (some ⟨r,0,none⟩)) (hfr.at 9 (by kernel_rfl));refine fW0 rfl ?_;clear hfr hdep;obtain ⟨c0,c1,c2,c3,c4,c5,c6,c7⟩:=(HBv.out.below hinv HBv.out.lt).c8;go_simp;exact hK _ _ (Gr.refl _) hinv (dsT (by trivial))
         refine .cons (fun A W hfr hinv hdep K hK=>?_) ?_
         · have t77:=tAt (.agg #[.int .i64 v1,.int .u64 v2,.int .u64 v3,.int .u64 v4,.int .i64 v5,.int .i64 v6,.slice qb m (c - 6 - 29),.slice qa v7 (c - 6 - (29+m))]) (hdep 77 (by kernel_rfl));refine fW0 rfl ?_;clear hfr hdep;go_simp;refine (HMA.out W hinv).mono ?_;rintro e W2 ⟨rfl,g1⟩;exact hK _ _ g1 (Gr.trans hinv g1) (dsT (by trivial))
         refine .cons (fun A W hfr hinv hdep K hK=>?_) ?_
         · have t78:=tAt (.bool true) (hdep 78 (by kernel_rfl));refine fW0 rfl ?_;clear hfr hdep;go_simp;exact hK _ _ (Gr.refl _) hinv (dsT (by trivial))
         refine .cons (fun A W hfr hinv hdep K hK=>?_) ?_
         · have t79:=tAt (.bool false) (hdep 79 (by kernel_rfl));refine fW0 rfl ?_;clear hfr hdep;go_simp;exact hK _ _ (Gr.refl _) hinv (dsT (by trivial))
         refine .cons (fun A W hfr hinv hdep K hK=>?_) ?_
         · have sg:A.tmps.getD 80 undef=.bool false:=hdep 80 (by kernel_rfl);have t9:=tAt (.pointer (some ⟨r,0,none⟩)) (hfr.at 9 (by kernel_rfl));rw [if_pos (Flow.wanted_yes 3 false 80 rfl (by kernel_rfl) sg)];clear hfr hdep;obtain ⟨c0,c1,c2,c3,c4,c5,c6,c7⟩:=(HBv.out.below hinv HBv.out.lt).c8;go_simp;exact hK _ _ (Gr.refl _) hinv (dsT (by trivial))
         refine .cons (fun A W hfr hinv hdep K hK=>?_) ?_
         · have sg:A.tmps.getD 80 undef=.bool false:=hdep 80 (by kernel_rfl);have t1:=tAt (.int .u64 at') (hfr.at 1 (by kernel_rfl));rw [if_pos (Flow.wanted_yes 3 false 80 rfl (by kernel_rfl) sg)];clear hfr hdep;go_simp;exact hK _ _ (Gr.refl _) hinv (dsT (by trivial))
         refine .cons (fun A W hfr hinv hdep K hK=>?_) ?_
         · have sg:A.tmps.getD 80 undef=.bool false:=hdep 80 (by kernel_rfl);have t81:=tAt (.agg #[.int .i64 v1,.int .u64 v2,.int .u64 v3,.int .u64 v4,.int .i64 v5,.int .i64 v6,.slice qb m (c - 6 - 29),.slice qa v7 (c - 6 - (29+m))]) (hdep 81 (by kernel_rfl));have t82:=tAt (.int .u64 at') (hdep 82 (by kernel_rfl));rw [if_pos (Flow.wanted_yes 3 false 80 rfl (by kernel_rfl) sg)];clear hfr hdep;go_simp;refine (HRB.out W hinv).mono ?_;rintro e W2 ⟨q2,m2,d2,rfl,hy2,g1,_⟩;exact hK _ _ g1 (Gr.trans hinv g1) (fun d hd=>by cases hd;exact ⟨_,_,_,rfl,hy2⟩)
         refine .cons (fun A W hfr hinv hdep K hK=>?_) ?_
         ·
          have sg:A.tmps.getD 80 undef=.bool false:=hdep 80 (by kernel_rfl);have s83:IsB W (A.tmps.getD 83 undef) L:=hdep 83 (by kernel_rfl);rw [if_pos (Flow.wanted_yes 3 false 80 rfl (by kernel_rfl) sg)];clear hfr hdep;obtain ⟨q2,m2,d2,s83,hy2⟩:=s83;have t83:=tmpAt s83;have hcv:=hy2.lies.convert hy2.len d2 31 5 9 Tryz.underlying31 Tryz.underlying5 Tryz.underlying9
          rw [← HST.out] at hcv
          go_simp;exact hK _ _ (Gr.refl _) hinv (dsT (by trivial))
         refine .cons (fun A W hfr hinv hdep K hK=>?_) ?_
         · have sg:A.tmps.getD 80 undef=.bool false:=hdep 80 (by kernel_rfl);have t0:=tAt (.slice (some ⟨B,O,none⟩) n c) (hfr.at 0 (by kernel_rfl));rw [if_pos (Flow.wanted_yes 3 false 80 rfl (by kernel_rfl) sg)];clear hfr hdep;go_simp;exact hK _ _ (Gr.refl _) hinv (dsT (by trivial))
         refine .cons (fun A W hfr hinv hdep K hK=>?_) ?_
         · have sg:A.tmps.getD 80 undef=.bool false:=hdep 80 (by kernel_rfl);have t7:=tAt (.int .i64 sz) (hfr.at 7 (by kernel_rfl));rw [if_pos (Flow.wanted_yes 3 false 80 rfl (by kernel_rfl) sg)];clear hfr hdep;go_simp;exact hK _ _ (Gr.refl _) hinv (dsT (by trivial))
         refine .cons (fun A W hfr hinv hdep K hK=>?_) ?_
         · have sg:A.tmps.getD 80 undef=.bool false:=hdep 80 (by kernel_rfl);have t86:=tAt (.int .i64 sz) (hdep 86 (by kernel_rfl));rw [if_pos (Flow.wanted_yes 3 false 80 rfl (by kernel_rfl) sg)];clear hfr hdep;obtain ⟨qq1,qq2,qq3,qq4⟩:=QQ.out;go_simp;exact hK _ _ (Gr.refl _) hinv (dsT (by trivial))
         refine .cons (fun A W hfr hinv hdep K hK=>?_) ?_
         · have sg:A.tmps.getD 80 undef=.bool false:=hdep 80 (by kernel_rfl);have t85:=tAt (.slice (some ⟨B,O,none⟩) n c) (hdep 85 (by kernel_rfl));have t87:=tAt (.int .i64 (6+(sz:Int))) (hdep 87 (by kernel_rfl));rw [if_pos (Flow.wanted_yes 3 false 80 rfl (by kernel_rfl) sg)];clear hfr hdep;obtain ⟨qq1,qq2,qq3,qq4⟩:=QQ.out;go_simp;exact hK _ _ (Gr.refl _) hinv (dsT (by trivial))
         refine .cons (fun A W hfr hinv hdep K hK=>?_) ?_
         ·
          have sg:A.tmps.getD 80 undef=.bool false:=hdep 80 (by kernel_rfl);have t88:=tAt (.slice (some ⟨B,O,none⟩) (6+sz) c) (hdep 88 (by kernel_rfl));rw [if_pos (Flow.wanted_yes 3 false 80 rfl (by kernel_rfl) sg)];clear hfr hdep;have hyp:=(HPX.out.kept hinv);have hcv:=hyp.lies.convert hyp.len c 31 5 9 Tryz.underlying31 Tryz.underlying5 Tryz.underlying9
          rw [← HSU.out] at hcv
          go_simp;exact hK _ _ (Gr.refl _) hinv (dsT (by trivial))
         refine .cons (fun A W hfr hinv hdep K hK=>?_) ?_
         · have sg:A.tmps.getD 80 undef=.bool false:=hdep 80 (by kernel_rfl);have t84:=tAt (.string ST) (hdep 84 (by kernel_rfl));have t89:=tAt (.string SU) (hdep 89 (by kernel_rfl));rw [if_pos (Flow.wanted_yes 3 false 80 rfl (by kernel_rfl) sg)];clear hfr hdep;have hst:=HEQ.out;go_simp;exact hK _ _ (Gr.refl _) hinv (dsT (by trivial))
         refine .cons (fun A W hfr hinv hdep K hK=>?_) ?_
         · have t80:=tAt (.bool false) (hdep 80 (by kernel_rfl));have t90:=tAt (.bool true) (hdep 90 (by kernel_rfl));refine fW0 rfl ?_;clear hfr hdep;go_simp;exact hK _ _ (Gr.refl _) hinv (dsT (by trivial))
         exact True.intro
        case fin=>
         intro A W hfr hfin hsl
         have s91:A.tmps.getD 91 undef=.bool true:=hsl 14 _ 91 rfl rfl;have t91:=tmpAt s91;have e:=Flow.frame hfr [77,78,79,80,81,82,83,84,85,86,87,88,89,90,91] (List.range 96) (by kernel_rfl) (by kernel_rfl)
         simp [List.range,List.range.loop] at e
         rw [t91] at e
         rw [e];clear e hfr hsl s91 t91
         first
         | (rename_i hB;refine hB _ _ ?_)
         | (rename_i hB y0;refine hB _ _ ?_)
         | (rename_i hB y0 y1;refine hB _ _ ?_)
         | (rename_i hB y0 y1 y2;refine hB _ _ ?_)
         | (rename_i hB y0 y1 y2 y3;refine hB _ _ ?_)
         | (rename_i hB y0 y1 y2 y3 y4;refine hB _ _ ?_)
         | (rename_i hB y0 y1 y2 y3 y4 y5;refine hB _ _ ?_)
         | (rename_i hB y0 y1 y2 y3 y4 y5 y6;refine hB _ _ ?_)
         | (rename_i hB y0 y1 y2 y3 y4 y5 y6 y7;refine hB _ _ ?_)
         | (rename_i hB y0 y1 y2 y3 y4 y5 y6 y7 y8;refine hB _ _ ?_)
         | (rename_i hB y0 y1 y2 y3 y4 y5 y6 y7 y8 y9;refine hB _ _ ?_)
         | (rename_i hB y0 y1 y2 y3 y4 y5 y6 y7 y8 y9 y10;refine hB _ _ ?_)
         | (rename_i hB y0 y1 y2 y3 y4 y5 y6 y7 y8 y9 y10 y11;refine hB _ _ ?_)
         | (rename_i hB y0 y1 y2 y3 y4 y5 y6 y7 y8 y9 y10 y11 y12;refine hB _ _ ?_)
         have HZw:=Lib.hid (HZv.out.below hfin HZv.out.lt);have HGw:=Lib.hid (Gr.trans HGv.out hfin);obtain ⟨z0,z1,z2,z3,z4,z5,z6,z7⟩:=HZw.out.c8;obtain ⟨f0,f1,f2,f3,f4,f5,f6,f7⟩:=HZw.out.f8;go_wp2_with fail;exact bodyPost_ret (results_rec3 rfl _ _ w.heap.size #[.int .i64 0,.int .u64 0,.int .u64 0,.int .u64 0,.int .i64 0,.int .i64 0,.slice none 0 0,.slice none 0 0] _ _ rfl rfl rfl rfl ((((((((HZw.out.set 0 _).set 1 _).set 2 _).set 3 _).set 4 _).set 5 _).set 6 _).set 7 _)) rfl (HNO.out HF.out _ _ ⟨none,0,0,none,0,0,rfl,Byt.nil _,Byt.nil _,below_set8 HGw.out (Nat.le_refl _),fun U _=>⟨Byt.nil U,Byt.nil U⟩⟩)
end Go.Proofs.YtlijbgapkmfnaaaGreat
namespace Go.Proofs.YtlijbgapkmfnaaaGreat
open Go.RowKit Go.Maps Cr
def OfT (R:Rc) (N:Nat) (B:Bool) (q:Option Addr) (m c:Nat) (ys:List Int) (v:Value):Prop:=∃ pb nb cb pa na ca,v=.tuple #[.agg #[.int .i64 R.k,.int .u64 R.t,.int .u64 R.p,.int .u64 R.x,.int .i64 R.g,.int .i64 R.o,.slice pb nb cb,.slice pa na ca],.int .i64 (N:Int),.bool B]∧∀ U,Byt U q m c ys→Byt U pb nb cb R.b∧Byt U pa na ca R.a
def OfG (R:Rc) (q:Option Addr) (m c:Nat) (ys:List Int) (cs:Array Value):Prop:=∃ pb nb cb pa na ca,cs=#[.int .i64 R.k,.int .u64 R.t,.int .u64 R.p,.int .u64 R.x,.int .i64 R.g,.int .i64 R.o,.slice pb nb cb,.slice pa na ca]∧∀ U,Byt U q m c ys→Byt U pb nb cb R.b∧Byt U pa na ca R.a
def OfA (R:Rc) (q:Option Addr) (m c:Nat) (ys:List Int) (v:Value):Prop:=∃ cs,v=.agg cs∧OfG R q m c ys cs
theorem OfG.size {R:Rc} {q:Option Addr} {m c:Nat} {ys:List Int} {cs:Array Value} (h:OfG R q m c ys cs):cs.size=8:=by
 obtain ⟨_,_,_,_,_,_,rfl,_⟩:=h
 rfl
theorem OfG.one {R:Rc} {q:Option Addr} {m c:Nat} {ys:List Int} {cs:Array Value} (h:OfG R q m c ys cs):cs.all (·.oneCell')=true:=by
 obtain ⟨_,_,_,_,_,_,rfl,_⟩:=h
 simp [Value.oneCell']
def zrec:Array Value:=#[.int .i64 0,.int .u64 0,.int .u64 0,.int .u64 0,.int .i64 0,.int .i64 0,.slice none 0 0,.slice none 0 0]
theorem size_rec:(Tryz.prog.info? TR).map (·.size)=some 8:=by kernel_rfl
def InO (y z d:Nat) (T:TypeId) (ZS:Array Value) (Pr:Array Value→Prop) (w0:World) (l:Nat→Bool) (a:Act) (W:World):Prop:=
 Gr w0 W∧(l y=true→∃ k,a.tmps.getD d undef=.pointer (some ⟨k,0,none⟩)∧w0.heap.size≤k∧cond (l z) (∃ cs,Pr cs∧Blk W k T cs) (Blk W k T ZS))
section
variable {y z d:Nat} {T:TypeId} {ZS:Array Value} {Pr:Array Value→Prop} {w0 W W':World} {l:Nat→Bool} {a:Act}
theorem InO.start (h:l y=false) (g:Gr w0 W):InO y z d T ZS Pr w0 l a W:=⟨g,fun e=>by rw [h] at e;cases e⟩
theorem InO.other (h:InO y z d T ZS Pr w0 l a W) (i:Nat) (h1:y≠i) (h2:z≠i) {x:Option Nat} (hx:x≠some d) (v:Value) (g:Gr W W'):InO y z d T ZS Pr w0 (Flow.upd l i) (a.put x v) W':=by
 unfold InO
 rw [Flow.upd_other l h1,Flow.upd_other l h2,Flow.getD_put_other hx];refine ⟨Gr.trans h.1 g,fun e=>?_⟩;obtain ⟨k,hk1,hk2,hk3⟩:=h.2 e;refine ⟨k,hk1,hk2,?_⟩
 cases hz:l z
 ·
  rw [hz] at hk3
  exact Blk.gr hk3 g
 ·
  rw [hz] at hk3
  obtain ⟨cs,h5,h6⟩:=hk3;exact ⟨cs,h5,h6.gr g⟩
theorem InO.alloc (h:InO y z d T ZS Pr w0 l a W) (hyz:z≠y) (hz:l z=false) (hd:d < a.tmps.size):InO y z d T ZS Pr w0 (Flow.upd l y) (a.put (some d) (.pointer (some ⟨W.heap.size,0,none⟩))) (W.alloc (.cells ZS T)):=by
 unfold InO
 rw [Flow.upd_other l hyz,hz,Flow.getD_put_same hd];exact ⟨Gr.trans h.1 ((Gr.refl W).alloc (Nat.le_refl _) _),fun _=>⟨W.heap.size,rfl,h.1.size,Blk.new _ _ _⟩⟩
theorem InO.store (h:InO y z d T ZS Pr w0 l a W) (hyz:y≠z) {k:Nat} (hk:a.tmps.getD d undef=.pointer (some ⟨k,0,none⟩)) (hw:w0.heap.size≤k) {x:Option Nat} (hx:x≠some d) (v:Value) (hb:∃ cs,Pr cs∧Blk W' k T cs) (hg:Below w0.heap.size w0 W'):InO y z d T ZS Pr w0 (Flow.upd l z) (a.put x v) W':=by
 unfold InO
 rw [Flow.upd_other l hyz,Flow.upd_same,Flow.getD_put_other hx];exact ⟨hg,fun _=>⟨k,hk,hw,hb⟩⟩
theorem InO.post (h:InO y z d T ZS Pr w0 l a W) (hy:l y=true) (hz:l z=true):Gr w0 W∧∃ k,a.tmps.getD d undef=.pointer (some ⟨k,0,none⟩)∧w0.heap.size≤k∧∃ cs,Pr cs∧Blk W k T cs:=by
 obtain ⟨k,h1,h2,h3⟩:=h.2 hy
 rw [hz] at h3
 exact ⟨h.1,k,h1,h2,h3⟩
end
theorem OwnB.front {w:World} {B tB:Nat} {p:Option Addr} {n c:Nat} {xs:List Int} (h:OwnB w B tB (.slice p n c) xs) (k:Nat) (hk:k≤n):OwnB w B tB (.slice p k c) (xs.take k):=by
 obtain ⟨hby,hn⟩:=h.byt;refine ⟨⟨by simp,?_⟩,h.small.take k⟩
 rcases h.row.2 with ⟨h0,hn0⟩ | ⟨g,cap,cur,h0,hb,hg,r1,r2,r3,r4⟩
 ·
  simp only [Value.slice.injEq] at h0
  obtain ⟨rfl,rfl,rfl⟩:=h0
  obtain rfl:k=0:=by omega
  exact .inl ⟨rfl,by simp⟩
 ·
  simp only [Value.slice.injEq] at h0
  obtain ⟨rfl,hn2,rfl⟩:=h0
  have hl:(xs.take k).length=k:=by rw [List.length_take];omega
  refine .inr ⟨g,c,cur,by rw [hl],hb,hg,by rw [hl];omega,r2,r3,?_⟩;rw [hl,Nat.mul_one,List.map_take,← r4,List.take_take,Nat.mul_one]
  congr 1
  omega
theorem cut_front {w:World} {B tB:Nat} {p:Option Addr} {n c:Nat} {xs:List Int} (h:OwnB w B tB (.slice p n c) xs) (k:Nat) (hk:k≤n) (W:World):(Instr.slice TBs (.slice p n c) none (some (.int .i64 (k:Int))) none).run Tryz.prog W=.ok (.slice p k c) W:=by
 obtain ⟨hby,_⟩:=h.byt;have hc:=hby.cap;rw [run_slice_h W TBs p n c under_bs .i64 (k:Int) (by omega) (by omega),size_bs]
 rcases h.row.2 with ⟨h0,_⟩ | ⟨g,cap,cur,h0,_⟩
 ·
  cases h0
  simp [sliced]
 ·
  cases h0
  simp [sliced,Addr.add]
def SlRoo (b:Nat) (fr:Nat) (pB:Option Addr) (m0:Nat) (cB:Nat) (e:Nat) (J:Nat) (q2:Option Addr) (M2:Nat) (C2:Nat) (Rr:Rc) (N:Nat) (Bb:Bool) (zs:List Int) (slot:Nat) (v:Value) (_:World):Prop:=
 match slot with
 | 22=>v=.int .i64 (N:Int)
 | 23=>v=.bool Bb
 | 111=>v=.pointer (some ⟨b,0,none⟩)
 | 112=>v=.pointer (some ⟨b,0,none⟩)
 | 113=>v=.pointer (some ⟨b,5,none⟩)
 | 114=>v=.slice pB m0 cB
 | 115=>v=.int .u64 (e:Int)
 | 116=>v=.pointer (some ⟨b,0,none⟩)
 | 117=>v=.pointer (some ⟨b,0,none⟩)
 | 118=>v=.pointer (some ⟨b,4,none⟩)
 | 119=>v=.int .u64 (fr:Int)
 | 120=>v=.int .u64 (J:Int)
 | 121=>v=.int .i64 (J:Int)
 | 122=>v=.slice q2 M2 C2
 | 123=>v=.int .u64 (e:Int)
 | 126=>v=.int .i64 (N:Int)
 | 127=>v=.bool Bb
 | 110=>OfT Rr N Bb q2 M2 C2 zs v
 | 124=>OfT Rr N Bb q2 M2 C2 zs v
 | 125=>OfA Rr q2 M2 C2 zs v
 | _=>True
def RetRO (r:Value) (s:St) (nn:Int) (n:Nat) (g:Int) (ep tl:Nat) (w:World) (e:Ending) (w':World):Prop:=
 (opOk s n ep tl=false∧e=.returned (.tuple #[.pointer none,.slice none 0 0,.int .i64 4])∧Gr w w') ∨
 (opOk s n ep tl=true∧∃ b v L q m c fr ys,e=.returned (.tuple #[.pointer (some ⟨b,0,none⟩),v,.int .i64 0])∧OwnR ShL w' w.heap.size TLd v L∧L.map LX3=logT tl (opX s n ep tl)∧RlAt w' b r q m c fr ys (opL s nn (n:Int) g ep tl)∧(∀ k,lgS b q k→w.heap.size≤k)∧Gr w w'∧ys.length≤20000)
theorem ro_wrap {i:Nat} (h:i+1≤80):wrap64 ((i:Int)+1)=((i+1:Nat):Int):=by unfold wrap64;omega
structure RoAt (w wr:World) (LB X:Nat) (r:Value) (n ep tl fr:Nat) (vB:Value) (ys:List Int):Prop where
 blk:Blk wr LB TLr #[r,.int .i64 (n:Int),.int .u64 ep,.int .u64 tl,.int .u64 fr,vB,.int .u64 0,.int .i64 0,.bool false]
 own:OwnB wr X 5 vB ys
 gr:Gr w wr
 sz:X≤wr.heap.size
set_option maxRecDepth 100000 in
set_option maxHeartbeats 4000000 in
theorem rOpen_any {G:Nat→Prop} {s:St} (D:Nat) (r:Value) (nn g:Int) (n ep tl:Nat) (w:World) (hr:r=.pointer (some ⟨D,0,none⟩)) (hrf:Rf w G r s) (hm:mayL nn (n:Int) g=true) (hl:n≤80) (ht:tl≤4611686018427387904) (he:1≤ep) (he2:ep≤4611686018427387904) (hn2:3+n≤s.ls.length) :
  Calls Tryz.prog 53 #[r,.int .i64 (n:Int),.int .u64 (tl:Int),.int .u64 (ep:Int)] w (RetRO r s nn n g ep tl w):=by
 obtain ⟨T,hT⟩:∃ T,T=tl / 232:=⟨_,rfl⟩;obtain ⟨fr,hfr⟩:∃ fr,fr=T*232:=⟨_,rfl⟩;obtain ⟨A,hA⟩:∃ A,A=tl % 232:=⟨_,rfl⟩
 obtain ⟨LS,hLS⟩:∃ LS,LS=if 0 < tl % 232 then 0 else ep - 1:=⟨_,rfl⟩
 have hin:=may_in hm
 have hw0:(tl:Int) / 232=(T:Int):=by omega
 have hw1:IntKind.u64.wrap ((T:Int)*232)=(fr:Int):=by rw [IntKind.wrap_u64];omega
 have hw2:(tl:Int) % 232=(A:Int):=by omega
 have hw3:IntKind.i64.wrap (A:Int)=(A:Int):=IntWalk.i64_in _ (by omega)
 have hw4:IntKind.u64.wrap ((ep:Int) - 1)=((ep - 1:Nat):Int):=by rw [IntKind.wrap_u64];omega
 have hw5:IntKind.u64.wrap (T:Int)=(T:Int):=by rw [IntKind.wrap_u64];omega
 have HRf:=Lib.hid hrf;have HNum:Hid (T=tl / 232∧fr=T*232∧A=tl % 232∧LS=(if 0 < tl % 232 then 0 else ep - 1)∧A < 232):=Lib.hid ⟨hT,hfr,hA,hLS,by omega⟩;have HPar:Hid (mayL nn (n:Int) g=true∧1≤ep∧ep≤4611686018427387904∧tl≤4611686018427387904∧3+n≤s.ls.length∧16≤n∧n≤80):=Lib.hid ⟨hm,he,he2,ht,hn2,by omega,hl⟩;subst hr;obtain ⟨W1,hW1⟩:∃ W1,W1=w.alloc (.cells #[.pointer (some ⟨D,0,none⟩),.int .i64 (n:Int),.int .u64 ep,.int .u64 tl,.int .u64 fr,.slice none 0 0,.int .u64 0,.int .i64 0,.bool false] TLr):=⟨_,rfl⟩;have HB1:Hid (RoAt w W1 w.heap.size (w.heap.size+1) (.pointer (some ⟨D,0,none⟩)) n ep tl fr (.slice none 0 0) []):=Lib.hid (by rw [hW1];exact ⟨Blk.new _ _ _,OwnB.nil _ _ _,Gr.new _ _,by simp⟩);have HW1:Hid (w.alloc (.cells #[.pointer (some ⟨D,0,none⟩),.int .i64 (n:Int),.int .u64 ep,.int .u64 tl,.int .u64 fr,.slice none 0 0,.int .u64 0,.int .i64 0,.bool false] 82)=W1):=Lib.hid hW1.symm;clear hrf hm hin hT hfr hA hLS hW1 hn2 hl ht he2
 go_enter Tryz.func53,Tryz.ntmps53
 go_upto_if 37 with fail
 rw [HW1.out]
 go_cut [13] (fun s13 wc=>s13=.int .u64 (LS:Int)∧W1=wc)
 case first=>
  by_cases h0:A=0
  ·
   have t0:((A:Int) == 0)=true:=by simp [h0]
   have HL:Hid (LS=ep - 1):=Lib.hid (by have h1:=HNum.out.2.2.2.1;have h2:=HNum.out.2.2.1;rw [h1,if_neg (by omega)]);clear h0;go_wp2_with fail
   go_meet
   exact ⟨by rw [HL.out],rfl⟩
  ·
   have t0:((A:Int) == 0)=false:=by
    have:¬ (A:Int)=0:=by omega
    simpa using this
   have HL:Hid (LS=0):=Lib.hid (by have h1:=HNum.out.2.2.2.1;have h2:=HNum.out.2.2.1;rw [h1,if_pos (by omega)]);clear h0;go_wp2_with fail
   go_meet
   exact ⟨by rw [HL.out];rfl,rfl⟩
 case rest=>
  obtain ⟨rfl,rfl⟩:=hcut
  go_upto_block 0 with fail
  go_cut [13] from 14 to 101 (fun s13 wc=>Hid (∃ vB ys,RoAt w wc w.heap.size (w.heap.size+1) (.pointer (some ⟨D,0,none⟩)) n ep tl fr vB ys∧(opB s n ep tl=ys∨(ys=[]∧(opB s n ep tl).length < A))))
  case first=>
   obtain ⟨rd,hrd⟩:∃ rd:Nat→List Int,rd=fun i=>secN (s.nw i):=⟨_,rfl⟩
   have HRD:Hid (∀ i,rd i=secN (s.nw i)):=Lib.hid fun i=>by rw [hrd]
   have HOp:Hid (opB s n ep tl=foundL rd n ep n T LS):=Lib.hid (by unfold opB;rw [hrd,HNum.out.1,HNum.out.2.2.2.1])
   have hq1:(fr:Int) / 232=(T:Int):=by have:=HNum.out.2.1;omega
   have hq0:IntKind.u64.wrap (n:Int)=(n:Int):=by have:=HPar.out;rw [IntKind.wrap_u64];omega
   clear hrd hw0 hw1 hw2 hw3 hw4 he;go_wp2_with fail
   go_loopw [13,14] (fun lv iv wr=>∃ (i ls:Nat) (vB:Value) (ys:List Int),i≤n∧iv=.int .i64 (i:Int)∧lv=.int .u64 (ls:Int)∧Hid (RoAt w wr w.heap.size (w.heap.size+1) (.pointer (some ⟨D,0,none⟩)) n ep tl fr vB ys∧ys.length=232*i)∧Hid (opB s n ep tl=ys++foundL rd n ep (n - i) (T+i) ls)) (fun _ iv _=>n - (intOf iv).toNat)
   case atStart=>exact ⟨0,LS,_,[],Nat.zero_le _,rfl,rfl,Lib.hid ⟨HB1.out,rfl⟩,Lib.hid (by rw [HOp.out];rfl)⟩
   case round=>
    obtain ⟨i,ls,vB,ys,hi,rfl,rfl,ho,hf⟩:=hrel
    by_cases hlt:i < n
    ·
     obtain ⟨k,hk⟩:∃ k,k=T+i:=⟨_,rfl⟩;obtain ⟨M,hM⟩:∃ M,M=k % n:=⟨_,rfl⟩;obtain ⟨I,hI⟩:∃ I,I=3+M:=⟨_,rfl⟩
     have hMn:M < n:=by rw [hM];exact Nat.mod_lt _ (by omega)
     have hp:=HPar.out;have hn:=HNum.out
     have hq2:IntKind.u64.wrap (i:Int)=(i:Int):=by rw [IntKind.wrap_u64];omega
     have hq3:IntKind.u64.wrap ((T:Int)+(i:Int))=(k:Int):=by rw [IntKind.wrap_u64];omega
     have hq4:(k:Int) % (n:Int)=(M:Int):=by rw [hM];exact (Int.natCast_emod _ _).symm
     have hq5:IntKind.i64.wrap (M:Int)=(M:Int):=IntWalk.i64_in _ (by omega)
     have hq6:IntKind.i64.wrap (3+(M:Int))=(I:Int):=by rw [IntWalk.i64_in _ (by omega)];omega
     have hq7:3+(M:Int)=(I:Int):=by omega
     have hq8:IntKind.i64.wrap (I:Int)=(I:Int):=IntWalk.i64_in _ (by omega)
     have hn0:((n:Int) == 0)=false:=by
      have:¬ (n:Int)=0:=by omega
      simpa using this
     obtain ⟨X,hX⟩:∃ X,X=secN (s.nw I):=⟨_,rfl⟩
     have HRd:Hid (Calls Tryz.prog 43 #[.pointer (some ⟨D,0,none⟩),.int .i64 (I:Int)] wr fun e w'=>e=.returned (.agg (sec (Sx X)))∧Gr wr w'):=Lib.hid (by
      rw [hX,Sx_secN]
      exact refRead_any wr (HRf.out.gr ho.out.1.gr) I (by omega))
     have HXs:Hid (IsSec X):=Lib.hid (by rw [hX];exact secN_sec _);have HUn:=Lib.hid (fun W=>runsector_any HXs.out k W (by omega))
     have HFd:Hid (foundL rd n ep (n - i) (T+i) ls=if okX X=true∧numX X=k∧epX X≤ep∧ls≤epX X then bytX X++(if manyX X < 232 then [] else foundL rd n ep (n - i - 1) (k+1) (epX X)) else []):=Lib.hid (by
      rw [← hk,show n - i=(n - i - 1)+1 by omega]
      show (if okX (rd (3+k % n))=true∧numX (rd (3+k % n))=k∧epX (rd (3+k % n))≤ep∧ls≤epX (rd (3+k % n)) then _ else _)=_
      rw [← hM,← hI,HRD.out,← hX]
      simp only [Nat.add_sub_cancel])
     have HKI:Hid (k=T+i∧i < n):=Lib.hid ⟨hk,hlt⟩;have b4:=ho.out.1.blk.c9.2.2.2.2.1;clear hk hM hI hMn hp hn hX;go_wp2_with fail;refine HRd.out.mono ?_;rintro e W2 ⟨rfl,g2⟩;have HO2:Hid (RoAt w W2 w.heap.size (w.heap.size+1) (.pointer (some ⟨D,0,none⟩)) n ep tl fr vB ys):=Lib.hid ⟨ho.out.1.blk.gr g2,ho.out.1.own.below' g2,Gr.trans ho.out.1.gr g2,Nat.le_trans ho.out.1.sz g2.size⟩;clear g2 HRd b4;go_wp2_with fail;refine (HUn.out W2).mono ?_;rintro e W3 (⟨hbad,rfl,g3⟩ | ⟨hk1,hm1,v,rfl,hov,g3⟩)
     ·
      have HF0:Hid (opB s n ep tl=ys):=Lib.hid (by
       rw [hf.out,HFd.out,if_neg,List.append_nil]
       intro h
       refine hbad ⟨h.2.1,?_⟩;have h1:=h.1
       unfold okX at h1
       simp at h1
       exact h1.1)
      have HO3:Hid (RoAt w W3 w.heap.size (w.heap.size+1) (.pointer (some ⟨D,0,none⟩)) n ep tl fr vB ys):=Lib.hid ⟨HO2.out.blk.gr g3,HO2.out.own.below' g3,Gr.trans HO2.out.gr g3,Nat.le_trans HO2.out.sz g3.size⟩;clear hbad g3 HO2 hf ho;go_wp2_with fail
      go_meet
      exact ⟨vB,ys,HO3.out,.inl HF0.out⟩
     ·
      obtain ⟨E1,hE1⟩:∃ E1,E1=epX X:=⟨_,rfl⟩;obtain ⟨M1,hM1⟩:∃ M1,M1=manyX X:=⟨_,rfl⟩;obtain ⟨B1,hB1⟩:∃ B1,B1=okX X:=⟨_,rfl⟩;rw [← hE1,← hB1]
      rw [← hM1] at hm1
      have hbl:(bytX X).length=M1:=by unfold bytX;rw [List.length_take,List.length_drop,HXs.out.len,← hM1];omega
      obtain ⟨pv,cv,rfl⟩:=hov.shape M1 hbl;have HV3:=Lib.hid hov;have HO3:Hid (RoAt w W3 w.heap.size (w.heap.size+1) (.pointer (some ⟨D,0,none⟩)) n ep tl fr vB ys):=Lib.hid ⟨HO2.out.blk.gr g3,HO2.out.own.below' g3,Gr.trans HO2.out.gr g3,Nat.le_trans HO2.out.sz g3.size⟩
      have HF1:Hid (opB s n ep tl=ys++(if B1=true∧E1≤ep∧ls≤E1 then bytX X++(if M1 < 232 then [] else foundL rd n ep (n - i - 1) (k+1) E1) else [])):=Lib.hid (by
       rw [hf.out,HFd.out,← hE1,← hM1,← hB1]
       congr 1
       by_cases h:B1=true∧E1≤ep∧ls≤E1
       · rw [if_pos ⟨h.1,hk1,h.2⟩,if_pos h]
       · rw [if_neg (fun h2=>h ⟨h2.1,h2.2.2⟩),if_neg h])
      have HYl:Hid (ys.length=232*i):=Lib.hid ho.out.2;have HBL:Hid ((bytX X).length=M1∧M1≤232):=Lib.hid ⟨hbl,hm1⟩;obtain ⟨BAD,hBAD⟩:∃ BAD,BAD=decide (B1=false∨ep < E1∨E1 < ls∨(i=0∧M1 < A)):=⟨_,rfl⟩;have HBAD:=Lib.hid hBAD;clear hE1 hM1 hB1 hk1 hov g3 HO2 hf ho HFd hbl hBAD hm1
      go_upto_region 11 with fail
      go_cut [88] from 67 to 88 (fun s88 wc=>s88=.bool BAD∧W3=wc)
      case first=>
       cases B1 with
       | false=>
        have hb:BAD=true:=by rw [HBAD.out];simp
        go_wp2_with fail
        go_meet
        exact ⟨by rw [hb],rfl⟩
       | true=>
        by_cases h1:ep < E1
        ·
         have g1:(ep:Int) < (E1:Int):=by omega
         have hb:Hid (BAD=true):=Lib.hid (by rw [HBAD.out];simp [h1]);clear h1;go_wp2_with fail
         go_meet
         exact ⟨by rw [hb.out],rfl⟩
        ·
         have g1:¬ (ep:Int) < (E1:Int):=by omega
         by_cases h2:E1 < ls
         ·
          have g2:(E1:Int) < (ls:Int):=by omega
          have hb:Hid (BAD=true):=Lib.hid (by rw [HBAD.out];simp [h2]);clear h1 h2;go_wp2_with fail
          go_meet
          exact ⟨by rw [hb.out],rfl⟩
         ·
          have g2:¬ (E1:Int) < (ls:Int):=by omega
          by_cases h3:i=0
          ·
           have t3:((i:Int) == 0)=true:=by simp [h3]
           by_cases h4:M1 < A
           ·
            have g4:(M1:Int) < (A:Int):=by omega
            have hb:Hid (BAD=true):=Lib.hid (by rw [HBAD.out];simp [h3,h4]);clear h1 h2 h3 h4;go_wp2_with fail
            go_meet
            exact ⟨by rw [hb.out],rfl⟩
           ·
            have g4:¬ (M1:Int) < (A:Int):=by omega
            have hb:Hid (BAD=false):=Lib.hid (by rw [HBAD.out];simp;omega);clear h1 h2 h3 h4;go_wp2_with fail
            go_meet
            exact ⟨by rw [hb.out],rfl⟩
          ·
           have t3:((i:Int) == 0)=false:=by
            have:¬ (i:Int)=0:=by omega
            simpa using this
           have hb:Hid (BAD=false):=Lib.hid (by rw [HBAD.out];simp;omega);clear h1 h2 h3;go_wp2_with fail
           go_meet
           exact ⟨by rw [hb.out],rfl⟩
      case rest=>
       obtain ⟨rfl,rfl⟩:=hcut
       cases BAD with
       | true=>
        have HEx:Hid (opB s n ep tl=ys∨(ys=[]∧(opB s n ep tl).length < A)):=Lib.hid (by
         have h:=of_decide_eq_true HBAD.out.symm
         by_cases hc:B1=true∧E1≤ep∧ls≤E1
         ·
          have h4:i=0∧M1 < A:=by
           rcases h with h | h | h | h
           · rw [h] at hc;cases hc.1
           · omega
           · omega
           · exact h
          have hA:=HNum.out.2.2.2.2;have hy:ys=[]:=List.eq_nil_of_length_eq_zero (by rw [HYl.out,h4.1]);refine .inr ⟨hy,?_⟩;rw [HF1.out,if_pos hc,if_pos (by omega),hy,List.append_nil,List.nil_append,HBL.out.1];exact h4.2
         · exact .inl (by rw [HF1.out,if_neg hc,List.append_nil]))
        go_wp2_with fail
        go_meet
        exact ⟨vB,ys,HO3.out,HEx.out⟩
       | false=>
        have HC:Hid (opB s n ep tl=ys++(bytX X++(if M1 < 232 then [] else foundL rd n ep (n - i - 1) (k+1) E1))):=Lib.hid (by
         have h:=of_decide_eq_false HBAD.out.symm
         have hc:B1=true∧E1≤ep∧ls≤E1:=by
          refine ⟨?_,by omega,by omega⟩
          cases B1 with
          | true=>rfl
          | false=>exact absurd (.inl rfl) h
         rw [HF1.out,if_pos hc])
        have b5:=HO3.out.blk.c9.2.2.2.2.2.1;have f5:=HO3.out.blk.frozen 5;clear HF1 HBAD;obtain ⟨m4,hm4⟩:∃ m4,m4=(ys++bytX X).length:=⟨_,rfl⟩;have HM4:Hid ((ys++bytX X).length=m4∧ys.length+M1≤20000):=Lib.hid ⟨hm4.symm,by have:=HYl.out;have:=HPar.out;have:=HBL.out;have:=HKI.out;omega⟩;clear hm4
        by_cases h6:M1 < 232
        ·
         have g6:(M1:Int) < 232:=by omega
         have HE6:Hid (opB s n ep tl=ys++bytX X):=Lib.hid (by rw [HC.out,if_pos h6,List.append_nil]);clear h6 HC
         go_wp2_with (at_builtin;refine wpList_app_byt bt rfl (.tmp 93) (.tmp 94) rfl (w.heap.size+1) vB ys rfl HO3.out.own pv M1 cv (bytX X) rfl HV3.out.byt.1 (by have:=HM4.out.2;omega) HO3.out.sz ?_;intro v4 W4 ho4 hg4;obtain ⟨p4,c4,hv4⟩:=ho4.shape m4 HM4.out.1;subst hv4;have HO4:=Lib.hid ho4;have HB4:=Lib.hid (HO3.out.blk.stays (hg4.block _ HO3.out.blk.lt (fun e=>by have:=HO3.out.own.base _ e.symm;omega)));have HG4:=Lib.hid (Below.grown HO3.out.gr hg4 HO3.out.gr.size (fun k e=>by have:=HO3.out.own.base k e;omega));have HS4:Hid (w.heap.size+1≤W4.heap.size):=Lib.hid (Nat.le_trans HO3.out.sz hg4.size);have f5:=HB4.out.frozen 5;have b5:=HB4.out.c9.2.2.2.2.2.1;clear ho4 hg4)
         obtain ⟨W5,hW5⟩:∃ W5,W5=W4.setCell ⟨w.heap.size,5,none⟩ (.slice p4 m4 c4):=⟨_,rfl⟩
         have HO5:Hid (RoAt w W5 w.heap.size (w.heap.size+1) (.pointer (some ⟨D,0,none⟩)) n ep tl fr (.slice p4 m4 c4) (ys++bytX X)):=Lib.hid (by
          rw [hW5];refine ⟨HB4.out.set 5 _,?_,HG4.out.setCell (p:=⟨w.heap.size,5,none⟩) (Nat.le_refl _) _,by rw [(Only.cell w.heap.size 5 W4 _).size];exact HS4.out⟩
          exact HO4.out.grown (grown_only (Only.cell w.heap.size 5 W4 _)) (fun k e=>.inr fun e2=>by have h1:=HO4.out.base k e2;have h2:w.heap.size=k:=Option.some.inj e;omega))
         rw [← hW5];clear hW5 f5 b5 HB4 HG4 HS4 HO4 HO3 HV3
         go_meet
         exact ⟨_,_,HO5.out,.inl HE6.out⟩
        ·
         have g6:¬ (M1:Int) < 232:=by omega
         have HE6:Hid (opB s n ep tl=(ys++bytX X)++foundL rd n ep (n - (i+1)) (T+(i+1)) E1∧(ys++bytX X).length=232*(i+1)):=Lib.hid ⟨by rw [HC.out,if_neg h6,List.append_assoc,HKI.out.1,show n - i - 1=n - (i+1) by omega,Nat.add_assoc],by rw [List.length_append,HYl.out,HBL.out.1];have:=HBL.out.2;omega⟩;have hin:i+1≤n:=hlt;have hwi:wrap64 ((i:Int)+1)=((i+1:Nat):Int):=ro_wrap (Nat.le_trans hin HPar.out.2.2.2.2.2.2);have HMs:Hid (n - (i+1) < n - i):=Lib.hid (found_less hlt);clear h6 HC
         go_wp2_with (at_builtin;refine wpList_app_byt bt rfl (.tmp 93) (.tmp 94) rfl (w.heap.size+1) vB ys rfl HO3.out.own pv M1 cv (bytX X) rfl HV3.out.byt.1 (by have:=HM4.out.2;omega) HO3.out.sz ?_;intro v4 W4 ho4 hg4;obtain ⟨p4,c4,hv4⟩:=ho4.shape m4 HM4.out.1;subst hv4;have HO4:=Lib.hid ho4;have HB4:=Lib.hid (HO3.out.blk.stays (hg4.block _ HO3.out.blk.lt (fun e=>by have:=HO3.out.own.base _ e.symm;omega)));have HG4:=Lib.hid (Below.grown HO3.out.gr hg4 HO3.out.gr.size (fun k e=>by have:=HO3.out.own.base k e;omega));have HS4:Hid (w.heap.size+1≤W4.heap.size):=Lib.hid (Nat.le_trans HO3.out.sz hg4.size);have f5:=HB4.out.frozen 5;have b5:=HB4.out.c9.2.2.2.2.2.1;clear ho4 hg4)
         obtain ⟨W5,hW5⟩:∃ W5,W5=W4.setCell ⟨w.heap.size,5,none⟩ (.slice p4 m4 c4):=⟨_,rfl⟩
         have HO5:Hid (RoAt w W5 w.heap.size (w.heap.size+1) (.pointer (some ⟨D,0,none⟩)) n ep tl fr (.slice p4 m4 c4) (ys++bytX X)):=Lib.hid (by
          rw [hW5];refine ⟨HB4.out.set 5 _,?_,HG4.out.setCell (p:=⟨w.heap.size,5,none⟩) (Nat.le_refl _) _,by rw [(Only.cell w.heap.size 5 W4 _).size];exact HS4.out⟩
          exact HO4.out.grown (grown_only (Only.cell w.heap.size 5 W4 _)) (fun k e=>.inr fun e2=>by have h1:=HO4.out.base k e2;have h2:w.heap.size=k:=Option.some.inj e;omega))
         rw [← hW5];clear hW5 f5 b5 HB4 HG4 HS4 HO4 HO3 HV3
         go_roundw
         case rel=>exact ⟨i+1,E1,_,ys++bytX X,hin,by rw [hwi],rfl,Lib.hid ⟨HO5.out,HE6.out.2⟩,Lib.hid HE6.out.1⟩
         case measure=>
          rw [hwi];exact HMs.out
    ·
     obtain rfl:i=n:=by omega
     have HF0:Hid (opB s i ep tl=ys):=Lib.hid (by rw [hf.out,Nat.sub_self];simp [foundL]);clear hf;go_wp2_with fail
     go_meet
     exact ⟨vB,ys,ho.out.1,.inl HF0.out⟩
  case rest=>
   obtain ⟨vB,ys,ho,hys⟩:=hcut.out;obtain ⟨m0,hm0⟩:∃ m0,m0=ys.length:=⟨_,rfl⟩;obtain ⟨pB,cB,rfl⟩:=ho.own.shape m0 hm0.symm;have HO:=Lib.hid ho;have HYS:=Lib.hid hys;have HM0:=Lib.hid hm0;have c5:=ho.blk.c9.2.2.2.2.2.1;clear hcut ho hys hm0 HB1 HW1
   by_cases h0:m0 < A
   ·
    have g0:(m0:Int) < (A:Int):=by omega
    have HNo:Hid (opOk s n ep tl=false):=Lib.hid (by
     unfold opOk
     rw [← HNum.out.2.2.1];refine decide_eq_false ?_
     rcases HYS.out with h | ⟨_,h⟩
     · rw [h,← HM0.out];omega
     · omega)
    clear h0;go_wp2_with fail;refine bodyPost_ret_by (P:=Tryz.prog) (v:=.tuple #[.pointer none,.slice none 0 0,.int .i64 4]) (by simp [results,Tryz.results53]) rfl ?_;exact .inl ⟨HNo.out,rfl,HO.out.gr⟩
   ·
    have g0:¬ (m0:Int) < (A:Int):=by omega
    have HOpY:Hid (opB s n ep tl=ys∧opOk s n ep tl=true):=Lib.hid (by
     have hA:=HNum.out
     have hb:opB s n ep tl=ys:=by
      rcases HYS.out with h | ⟨h1,h⟩
      · exact h
      ·
       have h2:=HM0.out
       rw [h1] at h2
       simp at h2
       omega
     refine ⟨hb,?_⟩
     unfold opOk
     rw [hb,← HM0.out,← hA.2.2.1]
     exact decide_eq_true (by omega))
    have HA0:Hid (A≤m0):=Lib.hid (by omega);clear h0 HYS
    have HFl:Hid (fr=tl - A∧A≤tl∧A < 232∧tl≤4611686018427387904∧m0≤18560):=Lib.hid (by
     have h1:=HNum.out;have h2:=(opB_len s n ep tl).1;have h3:=HPar.out
     rw [HOpY.out.1,← HM0.out] at h2
     omega)
    have HX0:Hid (opX s n ep tl=allL (ys.drop A) tl):=Lib.hid (by unfold opX;rw [HOpY.out.1,← HNum.out.2.2.1]);obtain ⟨X2,hX2⟩:∃ X2,X2=wc.heap.size:=⟨_,rfl⟩;have HX2:=Lib.hid hX2;clear hX2 hw0 hw1 hw2 hw3 hw4 hw5 he;go_wp2_with fail;clear c5
    go_loopw [19,20] (fun av tv wr=>∃ (j e:Nat) (L:List (Nat × RX)),j≤m0∧tv=.int .u64 (e:Int)∧e=fr+j∧A≤j∧L.length≤j∧Hid (OwnR ShL wr X2 TLd av L)∧Hid (L.map LX3++logT e (allL (ys.drop j) e)=logT tl (opX s n ep tl)∧endL e (allL (ys.drop j) e)=opN s n ep tl)∧Hid (Gr wc wr)) (fun _ tv _=>fr+m0 - (intOf tv).toNat)
    case atStart=>exact ⟨A,tl,[],HA0.out,rfl,by have:=HFl.out;omega,Nat.le_refl _,Nat.zero_le _,Lib.hid ⟨World.ownsRow_nil _ _ _ _,fun _ h=>by cases h⟩,Lib.hid ⟨by rw [HX0.out];rfl,by unfold opN;rw [HX0.out]⟩,Lib.hid (Gr.refl wc)⟩
    case round=>
     obtain ⟨J,e,L,hj,rfl,he,hAj,hL,ho,hs,hg⟩:=hrel;obtain ⟨LL,hLL⟩:∃ LL,LL=L.length:=⟨_,rfl⟩;obtain ⟨lp,lc,rfl,_⟩:=ho.out.shape LL hLL.symm;have HLL:=Lib.hid hLL;clear hLL;have hfl:=HFl.out;have hcapB:=HO.out.own.byt.1.cap;obtain ⟨q2,hcut2,hof⟩:=cut_l (p:=pB) (n:=m0) (c:=cB) J hj hcapB;obtain ⟨M2,hM2⟩:∃ M2,M2=m0 - J:=⟨_,rfl⟩;obtain ⟨C2,hC2⟩:∃ C2,C2=cB - J:=⟨_,rfl⟩;obtain ⟨zs,hzs⟩:∃ zs,zs=ys.drop J:=⟨_,rfl⟩
     have HY:Hid (∀ W,Gr wc W→Byt W q2 M2 C2 zs):=Lib.hid fun W g=>by
      have h:=hof.byt W ys (HO.out.own.byt.1.kept g)
      rwa [drop_take_all HM0.out.symm,← hM2,← hC2,← hzs] at h
     rw [← hM2,← hC2] at hcut2
     have HCut:=Lib.hid hcut2;obtain ⟨Rr,hR⟩:∃ Rr,Rr=ofR zs e:=⟨_,rfl⟩;obtain ⟨N,hN⟩:∃ N,N=ofN zs e:=⟨_,rfl⟩;obtain ⟨Bb,hB⟩:∃ Bb,Bb=ofB zs e:=⟨_,rfl⟩;have HOf:=Lib.hid (fun W (g:Gr wr W)=>refOf_any q2 M2 C2 zs e W (HY.out W (Gr.trans hg.out g)) (by omega))
     rw [← hR,← hN,← hB] at HOf
     have HBl:=Lib.hid (HO.out.blk.gr hg.out);have HJ:Hid (IntKind.u64.wrap ((e:Int) - (fr:Int))=(J:Int)∧IntKind.i64.wrap (J:Int)=(J:Int)):=Lib.hid ⟨by rw [IntKind.wrap_u64];omega,IntWalk.i64_in _ (by omega)⟩;have HZS:Hid (zs=ys.drop J∧Rr=ofR zs e∧N=ofN zs e∧Bb=ofB zs e∧zs.length=m0 - J):=Lib.hid ⟨hzs,hR,hN,hB,by rw [hzs,List.length_drop,← HM0.out]⟩;have HLo:Hid (e=fr+J∧A≤J∧L.length≤J∧J≤m0):=Lib.hid ⟨he,hAj,hL,hj⟩;clear hof hM2 hC2 hzs hcut2 hR hN hB he hAj hL hj hfl hcapB;go_wp2_with fail;refine Flow.regionF [22,23] 22 (SlRoo w.heap.size fr pB m0 cB e J q2 M2 C2 Rr N Bb zs) (InO 18 19 21 TR zrec (OfG Rr q2 M2 C2 zs) wr) (fun _ _ _=>True) (by kernel_rfl) (by kernel_rfl) (fun _ _ _ _ _ _ h _=>h) (InO.start (by rfl) (Gr.refl _).drew) ?steps ?fin
     case steps=>
      refine .cons (fun l a W hfr hun hup hdn hinv hdep K hK=>?_) ?_
      · have t11:=tAt (.pointer (some ⟨w.heap.size,0,none⟩)) (hfr.at 11 (by kernel_rfl));refine fW0 rfl ?_;clear hdep;have hin:=hinv.1;go_simp;exact hK _ _ True.intro (hinv.other 0 (by decide) (by decide) (by simp) _ (Gr.refl _)) (dsT (by trivial))
      refine .cons (fun l a W hfr hun hup hdn hinv hdep K hK=>?_) ?_
      · have t111:=tAt (.pointer (some ⟨w.heap.size,0,none⟩)) (hdep 111 (by kernel_rfl));refine fW0 rfl ?_;clear hdep;have hin:=hinv.1;go_simp;exact hK _ _ True.intro (hinv.other 1 (by decide) (by decide) (by simp) _ (Gr.refl _)) (dsT (by trivial))
      refine .cons (fun l a W hfr hun hup hdn hinv hdep K hK=>?_) ?_
      · have t112:=tAt (.pointer (some ⟨w.heap.size,0,none⟩)) (hdep 112 (by kernel_rfl));refine fW0 rfl ?_;clear hdep;have hin:=hinv.1;go_simp;exact hK _ _ True.intro (hinv.other 2 (by decide) (by decide) (by simp) _ (Gr.refl _)) (dsT (by trivial))
      refine .cons (fun l a W hfr hun hup hdn hinv hdep K hK=>?_) ?_
      · have t113:=tAt (.pointer (some ⟨w.heap.size,5,none⟩)) (hdep 113 (by kernel_rfl));refine fW0 rfl ?_;clear hdep;have hin:=hinv.1;obtain ⟨c0,c1,c2,c3,c4,c5,c6,c7,c8⟩:=(HBl.out.gr hin).c9;go_simp;exact hK _ _ True.intro (hinv.other 3 (by decide) (by decide) (by simp) _ (Gr.refl _)) (dsT (by trivial))
      refine .cons (fun l a W hfr hun hup hdn hinv hdep K hK=>?_) ?_
      · have t20:=tAt (.int .u64 (e:Int)) (hfr.at 20 (by kernel_rfl));refine fW0 rfl ?_;clear hdep;have hin:=hinv.1;go_simp;exact hK _ _ True.intro (hinv.other 4 (by decide) (by decide) (by simp) _ (Gr.refl _)) (dsT (by trivial))
      refine .cons (fun l a W hfr hun hup hdn hinv hdep K hK=>?_) ?_
      · have t11:=tAt (.pointer (some ⟨w.heap.size,0,none⟩)) (hfr.at 11 (by kernel_rfl));refine fW0 rfl ?_;clear hdep;have hin:=hinv.1;go_simp;exact hK _ _ True.intro (hinv.other 5 (by decide) (by decide) (by simp) _ (Gr.refl _)) (dsT (by trivial))
      refine .cons (fun l a W hfr hun hup hdn hinv hdep K hK=>?_) ?_
      · have t116:=tAt (.pointer (some ⟨w.heap.size,0,none⟩)) (hdep 116 (by kernel_rfl));refine fW0 rfl ?_;clear hdep;have hin:=hinv.1;go_simp;exact hK _ _ True.intro (hinv.other 6 (by decide) (by decide) (by simp) _ (Gr.refl _)) (dsT (by trivial))
      refine .cons (fun l a W hfr hun hup hdn hinv hdep K hK=>?_) ?_
      · have t117:=tAt (.pointer (some ⟨w.heap.size,0,none⟩)) (hdep 117 (by kernel_rfl));refine fW0 rfl ?_;clear hdep;have hin:=hinv.1;go_simp;exact hK _ _ True.intro (hinv.other 7 (by decide) (by decide) (by simp) _ (Gr.refl _)) (dsT (by trivial))
      refine .cons (fun l a W hfr hun hup hdn hinv hdep K hK=>?_) ?_
      · have t118:=tAt (.pointer (some ⟨w.heap.size,4,none⟩)) (hdep 118 (by kernel_rfl));refine fW0 rfl ?_;clear hdep;have hin:=hinv.1;obtain ⟨c0,c1,c2,c3,c4,c5,c6,c7,c8⟩:=(HBl.out.gr hin).c9;go_simp;exact hK _ _ True.intro (hinv.other 8 (by decide) (by decide) (by simp) _ (Gr.refl _)) (dsT (by trivial))
      refine .cons (fun l a W hfr hun hup hdn hinv hdep K hK=>?_) ?_
      · have t115:=tAt (.int .u64 (e:Int)) (hdep 115 (by kernel_rfl));have t119:=tAt (.int .u64 (fr:Int)) (hdep 119 (by kernel_rfl));have hq:=HJ.out.1;refine fW0 rfl ?_;clear hdep;have hin:=hinv.1;go_simp;exact hK _ _ True.intro (hinv.other 9 (by decide) (by decide) (by simp) _ (Gr.refl _)) (dsT (by trivial))
      refine .cons (fun l a W hfr hun hup hdn hinv hdep K hK=>?_) ?_
      · have t120:=tAt (.int .u64 (J:Int)) (hdep 120 (by kernel_rfl));have hq:=HJ.out.2;refine fW0 rfl ?_;clear hdep;have hin:=hinv.1;go_simp;exact hK _ _ True.intro (hinv.other 10 (by decide) (by decide) (by simp) _ (Gr.refl _)) (dsT (by trivial))
      refine .cons (fun l a W hfr hun hup hdn hinv hdep K hK=>?_) ?_
      · have t114:=tAt (.slice pB m0 cB) (hdep 114 (by kernel_rfl));have t121:=tAt (.int .i64 (J:Int)) (hdep 121 (by kernel_rfl));have hcut:=HCut.out W;refine fW0 rfl ?_;clear hdep;have hin:=hinv.1;go_simp;exact hK _ _ True.intro (hinv.other 11 (by decide) (by decide) (by simp) _ (Gr.refl _)) (dsT (by trivial))
      refine .cons (fun l a W hfr hun hup hdn hinv hdep K hK=>?_) ?_
      · have t20:=tAt (.int .u64 (e:Int)) (hfr.at 20 (by kernel_rfl));refine fW0 rfl ?_;clear hdep;have hin:=hinv.1;go_simp;exact hK _ _ True.intro (hinv.other 12 (by decide) (by decide) (by simp) _ (Gr.refl _)) (dsT (by trivial))
      refine .cons (fun l a W hfr hun hup hdn hinv hdep K hK=>?_) ?_
      · have t122:=tAt (.slice q2 M2 C2) (hdep 122 (by kernel_rfl));have t123:=tAt (.int .u64 (e:Int)) (hdep 123 (by kernel_rfl));refine fW0 rfl ?_;clear hdep;have hin:=hinv.1;go_simp;refine (HOf.out W hin).mono ?_;rintro e W' ⟨pb,nb,cb,pa,na,ca,rfl,_,_,g1,hK2⟩;exact hK _ _ True.intro (hinv.other 13 (by decide) (by decide) (by simp) _ g1) (fun d hd=>by cases hd;exact ⟨pb,nb,cb,pa,na,ca,rfl,hK2⟩)
      refine .cons (fun l a W hfr hun hup hdn hinv hdep K hK=>?_) ?_
      · have s124:OfT Rr N Bb q2 M2 C2 zs (a.tmps.getD 124 undef):=hdep 124 (by kernel_rfl);refine fW0 rfl ?_;clear hdep;obtain ⟨pb,nb,cb,pa,na,ca,hv,hK2⟩:=s124;have t124:=tmpAt hv;have hin:=hinv.1;go_simp;exact hK _ _ True.intro (hinv.other 14 (by decide) (by decide) (by simp) _ (Gr.refl _)) (fun d hd=>by cases hd;exact ⟨pb,nb,cb,pa,na,ca,rfl,hK2⟩)
      refine .cons (fun l a W hfr hun hup hdn hinv hdep K hK=>?_) ?_
      · have s110:OfT Rr N Bb q2 M2 C2 zs (a.tmps.getD 110 undef):=hdep 110 (by kernel_rfl);refine fW0 rfl ?_;clear hdep;obtain ⟨pb,nb,cb,pa,na,ca,hv,hK2⟩:=s110;have t110:=tmpAt hv;have hin:=hinv.1;go_simp;exact hK _ _ True.intro (hinv.other 15 (by decide) (by decide) (by simp) _ (Gr.refl _)) (fun d hd=>by cases hd;exact ⟨_,rfl,pb,nb,cb,pa,na,ca,rfl,hK2⟩)
      refine .cons (fun l a W hfr hun hup hdn hinv hdep K hK=>?_) ?_
      · have s110:OfT Rr N Bb q2 M2 C2 zs (a.tmps.getD 110 undef):=hdep 110 (by kernel_rfl);refine fW0 rfl ?_;clear hdep;obtain ⟨pb,nb,cb,pa,na,ca,hv,hK2⟩:=s110;have t110:=tmpAt hv;have hin:=hinv.1;go_simp;exact hK _ _ True.intro (hinv.other 16 (by decide) (by decide) (by simp) _ (Gr.refl _)) (dsT (by trivial))
      refine .cons (fun l a W hfr hun hup hdn hinv hdep K hK=>?_) ?_
      · have s110:OfT Rr N Bb q2 M2 C2 zs (a.tmps.getD 110 undef):=hdep 110 (by kernel_rfl);refine fW0 rfl ?_;clear hdep;obtain ⟨pb,nb,cb,pa,na,ca,hv,hK2⟩:=s110;have t110:=tmpAt hv;have hin:=hinv.1;go_simp;exact hK _ _ True.intro (hinv.other 17 (by decide) (by decide) (by simp) _ (Gr.refl _)) (dsT (by trivial))
      refine .cons (fun l a W hfr hun hup hdn hinv hdep K hK=>?_) ?_
      · refine fW0 rfl ?_;clear hdep;go_simp;exact hK _ _ True.intro (hinv.alloc (by decide) (hup 19 (by decide) (by kernel_rfl)) (by rw [hfr.size];simp)) (dsT (by trivial))
      refine .cons (fun l a W hfr hun hup hdn hinv hdep K hK=>?_) ?_
      ·
       have s125:OfA Rr q2 M2 C2 zs (a.tmps.getD 125 undef):=hdep 125 (by kernel_rfl);refine fW0 rfl ?_;clear hdep;obtain ⟨k6,s6,hk6,hb6⟩:=hinv.2 (hdn 18 (by decide) (by kernel_rfl))
       rw [hun] at hb6
       obtain ⟨cs,hv,hcs⟩:=s125;have hcz:=hcs.size;refine wp_store_row TR (.tmp 21) (.tmp 125) rfl k6 cs (by simpa [Act.eval] using s6) (by simpa [Act.eval] using hv) TR zrec hb6 (by rw [hcz];exact size_rec) (by rw [hcz];rfl) hcs.one ?_;exact hK undef _ True.intro (hinv.store (by decide) s6 hk6 (by simp) _ ⟨cs,hcs,hb6.row _⟩ (below_setRow hinv.1 hk6 _)) (fun d hd=>by cases hd)
      refine .cons (fun l a W hfr hun hup hdn hinv hdep K hK=>?_) ?_
      · have t126:=tAt (.int .i64 (N:Int)) (hdep 126 (by kernel_rfl));refine fW0 rfl ?_;clear hdep;have hin:=hinv.1;go_simp;exact hK _ _ True.intro (hinv.other 20 (by decide) (by decide) (by simp) _ (Gr.refl _)) (dsT (by trivial))
      refine .cons (fun l a W hfr hun hup hdn hinv hdep K hK=>?_) ?_
      · have t127:=tAt (.bool Bb) (hdep 127 (by kernel_rfl));refine fW0 rfl ?_;clear hdep;have hin:=hinv.1;go_simp;exact hK _ _ True.intro (hinv.other 21 (by decide) (by decide) (by simp) _ (Gr.refl _)) (dsT (by trivial))
      exact True.intro
     case fin=>
      intro a W l hfr hall hinv hsl
      have s22:a.tmps.getD 22 undef=.int .i64 (N:Int):=hsl 20 _ 22 rfl rfl (by simp);have t22:=tmpAt s22;have s23:a.tmps.getD 23 undef=.bool Bb:=hsl 21 _ 23 rfl rfl (by simp);have t23:=tmpAt s23;obtain ⟨hgv,kv,sv,hkv,cs,hcs,hbv⟩:=hinv.post (hall 18 (by decide)) (hall 19 (by decide))
      have tv:a.tmps[21]?.getD undef=.pointer (some ⟨kv,0,none⟩):=by simpa using sv
      have e:=Flow.frame hfr [111,112,113,114,115,116,117,118,119,120,121,122,123,124,110,125,126,127,21,22,23] (List.range 165) (by kernel_rfl) (by kernel_rfl)
      simp [List.range,List.range.loop] at e
      rw [tv,t22,t23] at e
      rw [e];have HV:=Lib.hid (show Gr wr W∧wr.heap.size≤kv∧Blk W kv TR cs from ⟨hgv,hkv,hbv⟩);have HCs:=Lib.hid hcs;clear e hfr hsl hall hinv hgv hkv hbv hcs sv tv s22 t22 s23 t23
      first
       | (rename_i hB;refine hB _ _ ?_)
       | (rename_i hB y0;refine hB _ _ ?_)
       | (rename_i hB y0 y1;refine hB _ _ ?_)
       | (rename_i hB y0 y1 y2;refine hB _ _ ?_)
       | (rename_i hB y0 y1 y2 y3;refine hB _ _ ?_)
       | (rename_i hB y0 y1 y2 y3 y4;refine hB _ _ ?_)
       | (rename_i hB y0 y1 y2 y3 y4 y5;refine hB _ _ ?_)
       | (rename_i hB y0 y1 y2 y3 y4 y5 y6;refine hB _ _ ?_)
       | (rename_i hB y0 y1 y2 y3 y4 y5 y6 y7;refine hB _ _ ?_)
       | (rename_i hB y0 y1 y2 y3 y4 y5 y6 y7 y8;refine hB _ _ ?_)
       | (rename_i hB y0 y1 y2 y3 y4 y5 y6 y7 y8 y9;refine hB _ _ ?_)
       | (rename_i hB y0 y1 y2 y3 y4 y5 y6 y7 y8 y9 y10;refine hB _ _ ?_)
       | skip
      cases Bb with
      | false=>
       have HEnd:Hid (L.map LX3=logT tl (opX s n ep tl)∧e=opN s n ep tl):=Lib.hid (by
        have h1:=HZS.out;have h2:=hs.out
        rw [← h1.1,allL_no h1.2.2.2.1.symm] at h2
        exact ⟨by simpa [logT] using h2.1,h2.2⟩)
       have HOw:=Lib.hid (ho.out.gr HV.out.1);have HBw:=Lib.hid (HBl.out.gr HV.out.1);have HGw:=Lib.hid (Gr.trans hg.out HV.out.1);clear hs ho hg HOf HCs;go_wp2_with fail
       have hcut3:=fun W=>cut_front HO.out.own J (HLo.out.2.2.2) W
       have hq1:=HJ.out.1;have hq2:=HJ.out.2;have hgd:Gr W W.drew:=(Gr.refl W).drew;have HW6:Hid (OwnR ShL W.drew X2 TLd (.slice lp LL lc) L∧Blk W.drew w.heap.size TLr #[.pointer (some ⟨D,0,none⟩),.int .i64 (n:Int),.int .u64 ep,.int .u64 tl,.int .u64 fr,.slice pB m0 cB,.int .u64 0,.int .i64 0,.bool false]∧Gr wc W.drew):=Lib.hid ⟨HOw.out.gr hgd,HBw.out.gr hgd,Gr.trans HGw.out hgd⟩;obtain ⟨k0,k1,k2,k3,k4,k5,k6,k7,k8⟩:=HBw.out.c9;have f5:=HBw.out.frozen 5
       go_still_tail 15,(by kernel_rfl)
       change wpList _ _ _ _ _ W.drew
       generalize W.drew=W6 at HW6 hgd ⊢
       clear hgd k0 k1 k2 k3 k4 k5 k6 k7 k8 f5 HOw HBw HGw;obtain ⟨k0,k1,k2,k3,k4,k5,k6,k7,k8⟩:=HW6.out.2.1.c9;have f5:=HW6.out.2.1.frozen 5;have f6:=(HW6.out.2.1.set 5 (.slice pB J cB)).frozen 6;have k6:=(HW6.out.2.1.set 5 (.slice pB J cB)).cell 6
       simp at k6
       go_wp2_with fail;refine bodyPost_ret_by (P:=Tryz.prog) (v:=.tuple #[.pointer (some ⟨w.heap.size,0,none⟩),.slice lp LL lc,.int .i64 0]) (by simp [results,Tryz.results53]) rfl ?_
       have hLt:w.heap.size < X2:=by rw [HX2.out];exact HO.out.blk.lt
       have hOnly:Only w.heap.size W6 ((W6.setCell ⟨w.heap.size,5,none⟩ (.slice pB J cB)).setCell ⟨w.heap.size,6,none⟩ (.int .u64 (e:Int))):=(Only.cell _ 5 _ _).trans (Only.cell _ 6 _ _);have hblk:Blk ((W6.setCell ⟨w.heap.size,5,none⟩ (.slice pB J cB)).setCell ⟨w.heap.size,6,none⟩ (.int .u64 (e:Int))) w.heap.size TLr #[.pointer (some ⟨D,0,none⟩),.int .i64 (n:Int),.int .u64 ep,.int .u64 tl,.int .u64 fr,.slice pB J cB,.int .u64 (e:Int),.int .i64 0,.bool false]:=(HW6.out.2.1.set 5 _).set 6 _;have hown:OwnB ((W6.setCell ⟨w.heap.size,5,none⟩ (.slice pB J cB)).setCell ⟨w.heap.size,6,none⟩ (.int .u64 (e:Int))) (w.heap.size+1) 5 (.slice pB J cB) (ys.take J):=OwnB.front ((HO.out.own.below' HW6.out.2.2).grown (grown_only hOnly) (fun k e1=>.inr fun e2=>by have h1:=HO.out.own.base k e2;have h2:w.heap.size=k:=Option.some.inj e1;omega)) J HLo.out.2.2.2;have hrow:OwnR ShL ((W6.setCell ⟨w.heap.size,5,none⟩ (.slice pB J cB)).setCell ⟨w.heap.size,6,none⟩ (.int .u64 (e:Int))) X2 TLd (.slice lp LL lc) L:=(HW6.out.1.cell HW6.out.2.1 hLt (fun u hu i e1=>by subst e1;simp at hu) 5 _).cell (HW6.out.2.1.set 5 (.slice pB J cB)) hLt (fun u hu i e1=>by subst e1;simp at hu) 6 _
       have hpb:∀ y,pB=some y→w.heap.size+1≤y.block∧y.block < ((W6.setCell ⟨w.heap.size,5,none⟩ (.slice pB J cB)).setCell ⟨w.heap.size,6,none⟩ (.int .u64 (e:Int))).heap.size:=fun y hy=>hown.row.lt _ (own_some hown.row y hy)
       have hg6:Gr w W6:=Gr.trans HO.out.gr HW6.out.2.2
       generalize (W6.setCell ⟨w.heap.size,5,none⟩ (.slice pB J cB)).setCell ⟨w.heap.size,6,none⟩ (.int .u64 (e:Int))=Z at hOnly hblk hown hrow hpb ⊢
       have hok:=opL_ok s nn (n:Int) g ep tl HPar.out.1 HPar.out.2.1 HPar.out.2.2.1 HPar.out.2.2.2.1 (by rw [Int.toNat_natCast];exact HOpY.out.2);have hfl:=HFl.out;have hlo:=HLo.out;have hnum:=HNum.out;have hel:(opL s nn (n:Int) g ep tl).lasts=e:=HEnd.out.2.symm
       have hlen:(ys.take J).length=J:=by rw [List.length_take,← HM0.out];omega
       refine .inr ⟨HOpY.out.2,w.heap.size,.slice lp LL lc,L,pB,J,cB,fr,ys.take J,rfl,hrow.base_le (Nat.le_of_lt hLt),HEnd.out.1,⟨?_,⟨hown.byt.1,.inr (hown.base_le (Nat.zero_le _))⟩,?_,?_,?_,?_,?_,?_,?_⟩,?_,?_,?_⟩
       · rw [hel];exact hblk
       · intro y hy e1;have:=hpb y hy;omega
       ·
        rintro k (rfl | ⟨y,hy,rfl⟩)
        · exact hblk.lt
        · exact (hpb y hy).2
       · omega
       · rw [hel];omega
       · show fr≤tl;omega
       ·
        rw [hel]
        show (ys.take J).drop (e - e % 232 - fr)=(opT s (n:Int).toNat ep tl).drop (tl % 232+(opN s (n:Int).toNat ep tl - tl) - opN s (n:Int).toNat ep tl % 232)
        unfold opT
        rw [Int.toNat_natCast,← HEnd.out.2,HOpY.out.1,show tl % 232+(e - tl)=J by omega,show J - e % 232=e - e % 232 - fr by omega]
       · rw [hok.2.1,hel,hlen];omega
       ·
        rintro k (rfl | ⟨y,hy,rfl⟩)
        · exact Nat.le_refl _
        · have:=(hpb y hy).1;omega
       · exact hOnly.below hg6 (Nat.le_refl _)
       · rw [hlen];omega
      | true=>
       obtain ⟨pb,nb,cb,pa,na,ca,rfl,hK2⟩:=HCs.out;obtain ⟨y1,y2⟩:=hK2 wc (HY.out wc (Gr.refl _));have hn1:=ofN_yes HZS.out.2.2.2.1.symm
       rw [← HZS.out.2.2.1] at hn1
       have hfl:=HFl.out;have hlo:=HLo.out;have hzl:=HZS.out.2.2.2.2
       have hJN:J+N≤m0:=by omega
       obtain ⟨e2,he2⟩:∃ e2,e2=e+N:=⟨_,rfl⟩
       have hw1:IntKind.u64.wrap (N:Int)=(N:Int):=by rw [IntKind.wrap_u64];omega
       have hw2:IntKind.u64.wrap ((e:Int)+(N:Int))=(e2:Int):=by rw [IntKind.wrap_u64];omega
       have hs2:Hid ((L++[(e,(⟨e2,Rr,pb,nb,cb,pa,na,ca⟩:RX))]).map LX3++logT e2 (allL (ys.drop (J+N)) e2)=logT tl (opX s n ep tl)∧endL e2 (allL (ys.drop (J+N)) e2)=opN s n ep tl):=Lib.hid (by
        have hz:=HZS.out;have h1:=hs.out
        have h3:onW e N=e2:=by rw [he2];exact onW_of (by omega)
        rw [← hz.1,allL_yes hz.2.2.2.1.symm,← hz.2.2.1,← hz.2.1,h3,hz.1,List.drop_drop] at h1
        simp only [logT,endL] at h1
        refine ⟨?_,h1.2⟩;rw [← h1.1,List.map_append,List.append_assoc]
        rfl)
       have hX2:=HX2.out
       have hfar:Hid (∀ V,Gr W V→∀ s ∈ ShL.sl (e,(⟨e2,Rr,pb,nb,cb,pa,na,ca⟩:RX)),s.In V (.slice lp LL lc)):=Lib.hid fun V g s hs=>by
        have hrow:∀ (q:Option Addr) (m d:Nat) (us:List Int),Byt wc q m d us→0 < m→∀ y,q=some y→Value.ownBlock (.slice lp LL lc)≠some y.block:=fun q m d us hq hm y hy e2=>by
         obtain ⟨b2,o2,e3,hc⟩:=hq.at hm
         rw [hy] at e3
         cases e3
         have h1:b2 < wc.heap.size:=blk_lt (hc 0 hm);have h2:=ho.out.base b2 e2
         omega
        have gV:Gr wc V:=Gr.trans hg.out (Gr.trans HV.out.1 g)
        simp only [ShL,List.mem_cons,List.not_mem_nil,or_false] at hs
        rcases hs with rfl | rfl
        · exact ⟨y1.kept gV,fun h0 y hy=>hrow _ _ _ _ y1 h0 y hy⟩
        · exact ⟨y2.kept gV,fun h0 y hy=>hrow _ _ _ _ y2 h0 y hy⟩
       have HM2:Hid (fr+m0 - e2 < fr+m0 - e∧e2=fr+(J+N)∧A≤J+N∧L.length+1≤J+N∧J+N≤m0):=Lib.hid (by omega);obtain ⟨r0,r1,r2,r3,r4,r5,r6,r7⟩:=HV.out.2.2.c8;have hq0:=Blk.new W TLd #[.int .u64 (e:Int),.int .u64 (e2:Int),.int .i64 Rr.k,.int .u64 Rr.t,.int .u64 Rr.p,.int .u64 Rr.x,.int .i64 Rr.g,.int .i64 Rr.o,.slice pb nb cb,.slice pa na ca];have gq:=Gr.new W (.cells #[.int .u64 (e:Int),.int .u64 (e2:Int),.int .i64 Rr.k,.int .u64 Rr.t,.int .u64 Rr.p,.int .u64 Rr.x,.int .i64 Rr.g,.int .i64 Rr.o,.slice pb nb cb,.slice pa na ca] TLd);obtain ⟨W9,hW9⟩:∃ W9,W9=W.alloc (.cells #[.int .u64 (e:Int),.int .u64 (e2:Int),.int .i64 Rr.k,.int .u64 Rr.t,.int .u64 Rr.p,.int .u64 Rr.x,.int .i64 Rr.g,.int .i64 Rr.o,.slice pb nb cb,.slice pa na ca] TLd):=⟨_,rfl⟩
       rw [← hW9] at hq0 gq
       have HW9:Hid (W.alloc (.cells #[.int .u64 (e:Int),.int .u64 (e2:Int),.int .i64 Rr.k,.int .u64 Rr.t,.int .u64 Rr.p,.int .u64 Rr.x,.int .i64 Rr.g,.int .i64 Rr.o,.slice pb nb cb,.slice pa na ca] 76)=W9):=Lib.hid hW9.symm;have HO9:=Lib.hid (ho.out.gr (Gr.trans HV.out.1 gq))
       have HQ:Hid (∀ j,j < ShL.k→W9.cell? ⟨W.heap.size,j,none⟩=(ShL.cs (e,(⟨e2,Rr,pb,nb,cb,pa,na,ca⟩:RX)))[j]?):=Lib.hid fun j _=>by
        rw [hq0.cell j]
        simp [ShL]
       have HIn:=Lib.hid (hfar.out W9 gq);have HG9:=Lib.hid (Gr.trans hg.out (Gr.trans HV.out.1 gq));have HX9:Hid (X2≤W9.heap.size):=Lib.hid (by rw [hX2];exact HG9.out.size);have HLn:Hid (L.length≤18560):=Lib.hid (by omega);clear hK2 y1 y2 hn1 hfl hlo hzl hJN he2 hX2 hfar hq0 gq hW9 hs ho hg HOf HCs HBl HCut HJ
       go_wp2_with (first | (rw [HW9.out];refine wpList_app_row ShL (T:=TLd) Tryz.underlying58 info_lgd rfl rfl (.tmp 130) (.tmp 138) rfl X2 (.slice lp LL lc) L rfl HO9.out W.heap.size rfl _ HQ.out HIn.out (by have:=HLn.out;omega) (by have:=HLn.out;omega) HX9.out ?_;intro v9 W10 ho10 hg10 _;have HO10:=Lib.hid ho10;have HG10:Hid (Gr wc W10):=Lib.hid (Below.grown HG9.out hg10 HG9.out.size (fun k e1=>by have h1:=HO9.out.base k e1;have h2:=HX2.out;omega));clear ho10 hg10))
       go_roundw
       case rel=>exact ⟨J+N,e2,_,HM2.out.2.2.2.2,by first | rfl | (rw [hw2]),HM2.out.2.1,HM2.out.2.2.1,by rw [List.length_append];exact HM2.out.2.2.2.1,HO10,hs2,HG10⟩
       case measure=>
        first
         | exact HM2.out.1
         | (rw [hw2];exact HM2.out.1)
end Go.Proofs.YtlijbgapkmfnaaaGreat
namespace Go.Proofs.YtlijbgapkmfnaaaGreat
open Go.RowKit Go.Maps
theorem sizeR_may {r:Rc} (h:mayR r=true):sizeR r=35+r.b.length+r.a.length:=by unfold sizeR;rw [if_pos h]
theorem may_len {r:Rc} (h:mayR r=true) (at':Nat):(recL r at').length≤600:=by
 rw [recL_len];have:=mayQ_iff.1 h
 omega
section
variable {w w':World} {S T:Nat→Prop} {pd pl pw pm:Value} {s:St} {L:Lg} {M:Nat}
theorem RetD.of_no {x:Int} {e:Ending} (h:DocAt w T pw pm s L M) (hr:RetLayE x w e w'):RetD (.tuple #[.int .u64 0,.int .i64 x]) s L M T pw pm w e w':=
 ⟨T,hr.1,h.gr hr.2,Upd.of_gr hr.2⟩
theorem DocAt.Append (h:DocAt w T pw pm s L M) (ok:L.Ok) (r:Rc) (hi:r.In) (pb:Option Addr) (nb cb:Nat) (pa:Option Addr) (na ca:Nat) (hb:Byt w pb nb cb r.b) (ha:Byt w pa na ca r.a) (hM9:M≤100000000000000) :
  Calls Tryz.prog 23 #[pm,.agg (rcv r pb nb cb pa na ca),.bool false] w (RetD (.tuple #[.int .u64 (layA L r L.free:Int),.int .i64 (layE r L.free)]) s (layL L r L.free) (M+600) T pw pm w):=by
 have h0:=h;obtain ⟨G,b,q,m,c,fr,ys,rfl,hr,hl,hap,rfl,hM⟩:=h
 unfold layA layL layE
 cases hm:mayR r with
 | false=>
  simp only [Bool.false_eq_true,if_false]
  exact (rLay_no w hl ok r pb nb cb pa na ca hb ha false hm).mono fun _ _ h2=>RetD.of_no (h0.more (by omega)) h2
 | true=>
  simp only [if_true]
  by_cases hroom:L.free < (35+r.b.length+r.a.length:Int)
  ·
   simp only [if_pos hroom]
   exact (rLay_full w hl ok r pb nb cb pa na ca hb ha false hm (by rw [sizeR_may hm];simp only [Bool.false_eq_true,if_false];omega)).mono fun _ _ h2=>RetD.of_no (h0.more (by omega)) h2
  ·
   simp only [if_neg hroom,if_true]
   refine (rLay_append w hl ok r hi pb nb cb pa na ca hb ha hm (by rw [sizeR_may hm];omega) (by have:=hl.txt.1.len;omega)).mono fun _ _ h2=>?_
   exact RetD.of_rl hr hl hap (by rw [List.length_append];have:=may_len hm L.fin;omega) h2
theorem DocAt.Use (h:DocAt w T pw pm s L M) (ok:L.Ok) (r:Rc) (hi:r.In) (pb:Option Addr) (nb cb:Nat) (pa:Option Addr) (na ca:Nat) (hb:Byt w pb nb cb r.b) (ha:Byt w pa na ca r.a) (hM9:M≤100000000000000) (hpp:∃ d,pw=.pointer (some ⟨d,0,none⟩)) :
  Calls Tryz.prog 23 #[pm,.agg (rcv r pb nb cb pa na ca),.bool true] w (RetD (.tuple #[.int .u64 (layA L r L.rsv:Int),.int .i64 (layE r L.rsv)]) s (useL L r) (M+600) T pw pm w):=by
 have h0:=h;obtain ⟨G,b,q,m,c,fr,ys,rfl,hr,hl,hap,rfl,hM⟩:=h
 unfold useL layA layL layE
 cases hm:mayR r with
 | false=>
  simp only [Bool.false_eq_true,if_false]
  exact (rLay_no w hl ok r pb nb cb pa na ca hb ha true hm).mono fun _ _ h2=>RetD.of_no (h0.more (by omega)) h2
 | true=>
  simp only [if_true]
  by_cases hroom:L.rsv < (35+r.b.length+r.a.length:Int)
  ·
   simp only [if_pos hroom]
   exact (rLay_full w hl ok r pb nb cb pa na ca hb ha true hm (by rw [sizeR_may hm];simp only [if_true];omega)).mono fun _ _ h2=>RetD.of_no (h0.more (by omega)) h2
  ·
   simp only [if_neg hroom,if_true]
   refine (rLay_use w hl ok r hi pb nb cb pa na ca hb ha hm (by rw [sizeR_may hm];omega) (by have:=hl.txt.1.len;omega) hpp).mono fun _ _ h2=>?_
   refine RetD.of_rl (ys':=ys++recL r L.fin) hr hl hap (by rw [List.length_append];have:=may_len hm L.fin;omega) ?_
   have e:relL (L.more (recL r L.fin)) ((35+r.b.length+r.a.length:Nat):Int)={ L with rsv:=L.rsv - (sizeR r:Int) }.more (recL r L.fin):=by
    have hz:=sizeR_may hm
    have h5:min ((35+r.b.length+r.a.length:Nat):Int) L.rsv=((35+r.b.length+r.a.length:Nat):Int):=by omega
    unfold relL Lg.more
    rw [if_neg (by omega),hz]
    show ({ L with txt:=_,rsv:=L.rsv - min ((35+r.b.length+r.a.length:Nat):Int) L.rsv }:Lg)=_
    rw [h5]
   rw [e];exact h2
theorem DocAt.Flush (h:DocAt w T pw pm s L M) (ok:L.Ok) (hn:3+L.l≤s.ls.length) (hw:s.writes≤800000000) (hless:∀ i,(s.t i).length≤s.writes) (u:Nat) (hu:u≤18446744073709551615) :
  Calls Tryz.prog 24 #[pm,.int .u64 (u:Int)] w (RetD (.int .i64 (flE s L u)) (flS s L u) (flL s L u) M T pw pm w):=by
 obtain ⟨G,b,q,m,c,fr,ys,rfl,hr,hl,hap,rfl,hM⟩:=h;refine (rFlush_any w hr hl hap ok hn hw hless u hu).mono ?_;rintro e w' ⟨he,G',hd⟩;exact ⟨_,he,⟨G',b,q,m,c,fr,ys,rfl,hd.rf,hd.rl,hd.ap,rfl,hM⟩,hd.upd⟩
end
end Go.Proofs.YtlijbgapkmfnaaaGreat
