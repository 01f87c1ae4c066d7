import Derived.Test.YthkinkcpfcpehaaGreatDoorZS
import Derived.Test.YthkinkcpfcpehaaGreatDoorFD
import Derived.Maps.Ext
namespace Go.Proofs.YthkinkcpfcpehaaGreatDoor
set_option maxRecDepth 100000
set_option maxHeartbeats 8000000
section
open Go.RowKit Go.Maps
open Lx (Tk ofL KsAt)
theorem finish_yes {w:World}{B n m:Nat}{c2 c3 c4 c5:Value}(h:Bx w B n m [] c2 c3 c4 c5) :
  Calls Tryz.prog 95 #[.pointer (some ⟨B,0,none⟩)] w fun e w'=>e=.returned (.tuple #[])∧w'=w:=by
 obtain⟨rv,h1,h2,h3⟩:=h.ks
 obtain⟨a,c,rfl,k1,k2,k3⟩:=h2
 have x0:w.cell? ⟨B,0,none⟩=some (.slice a 0 c):=cst (vs:=[_,_,_,_,_,_]) h1 rfl
 clear h h1 h3 k1 k2 k3
 go_enter Tryz.func95,Tryz.ntmps95
 go_wp2
 refine bodyPost_end (results_none rfl _ _ _) rfl ?_
 exact⟨rfl,rfl⟩
theorem finish_no {w:World}{B n m:Nat}{t:Tk}{r:List Tk}{c2 c3 c4 c5:Value}(h:Bx w B n m (t::r) c2 c3 c4 c5) :
  Calls Tryz.prog 95 #[.pointer (some ⟨B,0,none⟩)] w fun e w'=>e=.panicked misfit∧w'=w:=by
 obtain⟨b,o,c,y0,y1,y2,x1,x2,y3⟩:=h.tail
 have x0:w.cell? ⟨B,0,none⟩=some (.slice (some ⟨b,o,none⟩) (r.length+1) c):=cst (vs:=[_,_,_,_,_,_]) y2 rfl
 clear h y0 y1 y2 y3
 go_enter Tryz.func95,Tryz.ntmps95
 go_wp2
 exact⟨rfl,rfl,rfl⟩
def Sg (W:World):Prop:=W.heap[0]? =some (.cells sgL.toArray 107 (0,0))
def kdL:List jU:=[[],[],[126],[38],[124],[61,62],[60,61,62],[33],[63],[36,116,114,117,101],[36,102,97,108,115,101]]
def kdN:List jU->jU->Nat->Nat
 | [],_,_=>0
 | a::r,s,i=>if a=s then i else kdN r s (i+1)
def kdOf (s:ByteArray):Nat:=kdN kdL s.toList 0
theorem sg_0 (W:World):(Instr.index 107 (.agg #[.string ⟨#[]⟩,.string ⟨#[]⟩,.string ⟨#[126]⟩,.string ⟨#[38]⟩,.string ⟨#[124]⟩,.string ⟨#[61,62]⟩,.string ⟨#[60,61,62]⟩,.string ⟨#[33]⟩,.string ⟨#[63]⟩,.string ⟨#[36,116,114,117,101]⟩,.string ⟨#[36,102,97,108,115,101]⟩]) (.int .i64 0)).run Tryz.prog W=.ok (.string ⟨#[]⟩) W:=by kernel_rfl
theorem sg_1 (W:World):(Instr.index 107 (.agg #[.string ⟨#[]⟩,.string ⟨#[]⟩,.string ⟨#[126]⟩,.string ⟨#[38]⟩,.string ⟨#[124]⟩,.string ⟨#[61,62]⟩,.string ⟨#[60,61,62]⟩,.string ⟨#[33]⟩,.string ⟨#[63]⟩,.string ⟨#[36,116,114,117,101]⟩,.string ⟨#[36,102,97,108,115,101]⟩]) (.int .i64 1)).run Tryz.prog W=.ok (.string ⟨#[]⟩) W:=by kernel_rfl
theorem sg_2 (W:World):(Instr.index 107 (.agg #[.string ⟨#[]⟩,.string ⟨#[]⟩,.string ⟨#[126]⟩,.string ⟨#[38]⟩,.string ⟨#[124]⟩,.string ⟨#[61,62]⟩,.string ⟨#[60,61,62]⟩,.string ⟨#[33]⟩,.string ⟨#[63]⟩,.string ⟨#[36,116,114,117,101]⟩,.string ⟨#[36,102,97,108,115,101]⟩]) (.int .i64 2)).run Tryz.prog W=.ok (.string ⟨#[126]⟩) W:=by kernel_rfl
theorem sg_3 (W:World):(Instr.index 107 (.agg #[.string ⟨#[]⟩,.string ⟨#[]⟩,.string ⟨#[126]⟩,.string ⟨#[38]⟩,.string ⟨#[124]⟩,.string ⟨#[61,62]⟩,.string ⟨#[60,61,62]⟩,.string ⟨#[33]⟩,.string ⟨#[63]⟩,.string ⟨#[36,116,114,117,101]⟩,.string ⟨#[36,102,97,108,115,101]⟩]) (.int .i64 3)).run Tryz.prog W=.ok (.string ⟨#[38]⟩) W:=by kernel_rfl
theorem sg_4 (W:World):(Instr.index 107 (.agg #[.string ⟨#[]⟩,.string ⟨#[]⟩,.string ⟨#[126]⟩,.string ⟨#[38]⟩,.string ⟨#[124]⟩,.string ⟨#[61,62]⟩,.string ⟨#[60,61,62]⟩,.string ⟨#[33]⟩,.string ⟨#[63]⟩,.string ⟨#[36,116,114,117,101]⟩,.string ⟨#[36,102,97,108,115,101]⟩]) (.int .i64 4)).run Tryz.prog W=.ok (.string ⟨#[124]⟩) W:=by kernel_rfl
theorem sg_5 (W:World):(Instr.index 107 (.agg #[.string ⟨#[]⟩,.string ⟨#[]⟩,.string ⟨#[126]⟩,.string ⟨#[38]⟩,.string ⟨#[124]⟩,.string ⟨#[61,62]⟩,.string ⟨#[60,61,62]⟩,.string ⟨#[33]⟩,.string ⟨#[63]⟩,.string ⟨#[36,116,114,117,101]⟩,.string ⟨#[36,102,97,108,115,101]⟩]) (.int .i64 5)).run Tryz.prog W=.ok (.string ⟨#[61,62]⟩) W:=by kernel_rfl
theorem sg_6 (W:World):(Instr.index 107 (.agg #[.string ⟨#[]⟩,.string ⟨#[]⟩,.string ⟨#[126]⟩,.string ⟨#[38]⟩,.string ⟨#[124]⟩,.string ⟨#[61,62]⟩,.string ⟨#[60,61,62]⟩,.string ⟨#[33]⟩,.string ⟨#[63]⟩,.string ⟨#[36,116,114,117,101]⟩,.string ⟨#[36,102,97,108,115,101]⟩]) (.int .i64 6)).run Tryz.prog W=.ok (.string ⟨#[60,61,62]⟩) W:=by kernel_rfl
theorem sg_7 (W:World):(Instr.index 107 (.agg #[.string ⟨#[]⟩,.string ⟨#[]⟩,.string ⟨#[126]⟩,.string ⟨#[38]⟩,.string ⟨#[124]⟩,.string ⟨#[61,62]⟩,.string ⟨#[60,61,62]⟩,.string ⟨#[33]⟩,.string ⟨#[63]⟩,.string ⟨#[36,116,114,117,101]⟩,.string ⟨#[36,102,97,108,115,101]⟩]) (.int .i64 7)).run Tryz.prog W=.ok (.string ⟨#[33]⟩) W:=by kernel_rfl
theorem sg_8 (W:World):(Instr.index 107 (.agg #[.string ⟨#[]⟩,.string ⟨#[]⟩,.string ⟨#[126]⟩,.string ⟨#[38]⟩,.string ⟨#[124]⟩,.string ⟨#[61,62]⟩,.string ⟨#[60,61,62]⟩,.string ⟨#[33]⟩,.string ⟨#[63]⟩,.string ⟨#[36,116,114,117,101]⟩,.string ⟨#[36,102,97,108,115,101]⟩]) (.int .i64 8)).run Tryz.prog W=.ok (.string ⟨#[63]⟩) W:=by kernel_rfl
theorem sg_9 (W:World):(Instr.index 107 (.agg #[.string ⟨#[]⟩,.string ⟨#[]⟩,.string ⟨#[126]⟩,.string ⟨#[38]⟩,.string ⟨#[124]⟩,.string ⟨#[61,62]⟩,.string ⟨#[60,61,62]⟩,.string ⟨#[33]⟩,.string ⟨#[63]⟩,.string ⟨#[36,116,114,117,101]⟩,.string ⟨#[36,102,97,108,115,101]⟩]) (.int .i64 9)).run Tryz.prog W=.ok (.string ⟨#[36,116,114,117,101]⟩) W:=by kernel_rfl
theorem sg_10 (W:World):(Instr.index 107 (.agg #[.string ⟨#[]⟩,.string ⟨#[]⟩,.string ⟨#[126]⟩,.string ⟨#[38]⟩,.string ⟨#[124]⟩,.string ⟨#[61,62]⟩,.string ⟨#[60,61,62]⟩,.string ⟨#[33]⟩,.string ⟨#[63]⟩,.string ⟨#[36,116,114,117,101]⟩,.string ⟨#[36,102,97,108,115,101]⟩]) (.int .i64 10)).run Tryz.prog W=.ok (.string ⟨#[36,102,97,108,115,101]⟩) W:=by kernel_rfl
theorem y19 (s:ByteArray)(w:World)(hs:Sg w):Calls Tryz.prog 131 #[.string s] w fun e w'=>e=.returned (.int .i64 (kdOf s:Nat))∧w'=w:=by
 have g:∀i v,sgL[i]? =some v->w.cell? ⟨0,i,none⟩=some v:=fun i v hv=>cst hs hv
 have g0:=g 0 _ rfl
 have g1:=g 1 _ rfl
 have g2:=g 2 _ rfl
 have g3:=g 3 _ rfl
 have g4:=g 4 _ rfl
 have g5:=g 5 _ rfl
 have g6:=g 6 _ rfl
 have g7:=g 7 _ rfl
 have g8:=g 8 _ rfl
 have g9:=g 9 _ rfl
 have g10:=g 10 _ rfl
 clear g hs
 have HK:Hid (kdOf s=kdN (kdL.drop 0) s.toList 0):=rfl
 go_enter Tryz.func131,Tryz.ntmps131
 go_wp2
 go_loopw [6] (fun vi wr=>∃j:Nat,vi=.int .i64 j∧j<=11∧wr=w∧Hid (kdOf s=kdN (kdL.drop j) s.toList j)) (fun vi _=>11-(intOf vi).toNat)
 case atStart=>exact⟨0,rfl,Nat.zero_le _,rfl,HK.out⟩
 case round =>
  obtain⟨j,rfl,hj,rfl,HI⟩:=hrel
  clear g0 g1 g2 g3 g4 g5 g6 g7 g8 g9 g10 HK
  have hj':j=0∨j=1∨j=2∨j=3∨j=4∨j=5∨j=6∨j=7∨j=8∨j=9∨j=10∨j=11:=by omega
  clear hj
  rcases hj' with rfl|rfl|rfl|rfl|rfl|rfl|rfl|rfl|rfl|rfl|rfl|rfl
  ·have q0:=sg_0 wr
   have HJ:Hid (kdOf s=if ([]:jU)=s.toList then 0 else kdN (kdL.drop 1) s.toList 1):=HI.out
   clear HI
   by_cases h:([]:jU)=s.toList
   ·have hb:(([]:jU)==s.toList)=true:=by rw[beq_iff_eq];exact h
    have HF:Hid (kdOf s=0):=by show kdOf s=0;rw[HJ.out,if_pos h]
    clear HJ h
    go_wp2
    go_ret
    exact⟨by rw[HF.out];rfl,rfl⟩
   ·have hb:(([]:jU)==s.toList)=false:=by rw[beq_eq_false_iff_ne];exact h
    have HF:Hid (kdOf s=kdN (kdL.drop 1) s.toList 1):=by show kdOf s=_;rw[HJ.out,if_neg h]
    clear HJ h
    go_wp2
    go_roundw
    case rel=>exact⟨1,by go_num,by omega,trivial,HF.out⟩
    case measure=>simp[intOf]
  ·have q0:=sg_1 wr
   have HJ:Hid (kdOf s=if ([]:jU)=s.toList then 1 else kdN (kdL.drop 2) s.toList 2):=HI.out
   clear HI
   by_cases h:([]:jU)=s.toList
   ·have hb:(([]:jU)==s.toList)=true:=by rw[beq_iff_eq];exact h
    have HF:Hid (kdOf s=1):=by show kdOf s=1;rw[HJ.out,if_pos h]
    clear HJ h
    go_wp2
    go_ret
    exact⟨by rw[HF.out];rfl,rfl⟩
   ·have hb:(([]:jU)==s.toList)=false:=by rw[beq_eq_false_iff_ne];exact h
    have HF:Hid (kdOf s=kdN (kdL.drop 2) s.toList 2):=by show kdOf s=_;rw[HJ.out,if_neg h]
    clear HJ h
    go_wp2
    go_roundw
    case rel=>exact⟨2,by go_num,by omega,trivial,HF.out⟩
    case measure=>simp[intOf]
  ·have q0:=sg_2 wr
   have HJ:Hid (kdOf s=if ([126]:jU)=s.toList then 2 else kdN (kdL.drop 3) s.toList 3):=HI.out
   clear HI
   by_cases h:([126]:jU)=s.toList
   ·have hb:(([126]:jU)==s.toList)=true:=by rw[beq_iff_eq];exact h
    have HF:Hid (kdOf s=2):=by show kdOf s=2;rw[HJ.out,if_pos h]
    clear HJ h
    go_wp2
    go_ret
    exact⟨by rw[HF.out];rfl,rfl⟩
   ·have hb:(([126]:jU)==s.toList)=false:=by rw[beq_eq_false_iff_ne];exact h
    have HF:Hid (kdOf s=kdN (kdL.drop 3) s.toList 3):=by show kdOf s=_;rw[HJ.out,if_neg h]
    clear HJ h
    go_wp2
    go_roundw
    case rel=>exact⟨3,by go_num,by omega,trivial,HF.out⟩
    case measure=>simp[intOf]
  ·have q0:=sg_3 wr
   have HJ:Hid (kdOf s=if ([38]:jU)=s.toList then 3 else kdN (kdL.drop 4) s.toList 4):=HI.out
   clear HI
   by_cases h:([38]:jU)=s.toList
   ·have hb:(([38]:jU)==s.toList)=true:=by rw[beq_iff_eq];exact h
    have HF:Hid (kdOf s=3):=by show kdOf s=3;rw[HJ.out,if_pos h]
    clear HJ h
    go_wp2
    go_ret
    exact⟨by rw[HF.out];rfl,rfl⟩
   ·have hb:(([38]:jU)==s.toList)=false:=by rw[beq_eq_false_iff_ne];exact h
    have HF:Hid (kdOf s=kdN (kdL.drop 4) s.toList 4):=by show kdOf s=_;rw[HJ.out,if_neg h]
    clear HJ h
    go_wp2
    go_roundw
    case rel=>exact⟨4,by go_num,by omega,trivial,HF.out⟩
    case measure=>simp[intOf]
  ·have q0:=sg_4 wr
   have HJ:Hid (kdOf s=if ([124]:jU)=s.toList then 4 else kdN (kdL.drop 5) s.toList 5):=HI.out
   clear HI
   by_cases h:([124]:jU)=s.toList
   ·have hb:(([124]:jU)==s.toList)=true:=by rw[beq_iff_eq];exact h
    have HF:Hid (kdOf s=4):=by show kdOf s=4;rw[HJ.out,if_pos h]
    clear HJ h
    go_wp2
    go_ret
    exact⟨by rw[HF.out];rfl,rfl⟩
   ·have hb:(([124]:jU)==s.toList)=false:=by rw[beq_eq_false_iff_ne];exact h
    have HF:Hid (kdOf s=kdN (kdL.drop 5) s.toList 5):=by show kdOf s=_;rw[HJ.out,if_neg h]
    clear HJ h
    go_wp2
    go_roundw
    case rel=>exact⟨5,by go_num,by omega,trivial,HF.out⟩
    case measure=>simp[intOf]
  ·have q0:=sg_5 wr
   have HJ:Hid (kdOf s=if ([61,62]:jU)=s.toList then 5 else kdN (kdL.drop 6) s.toList 6):=HI.out
   clear HI
   by_cases h:([61,62]:jU)=s.toList
   ·have hb:(([61,62]:jU)==s.toList)=true:=by rw[beq_iff_eq];exact h
    have HF:Hid (kdOf s=5):=by show kdOf s=5;rw[HJ.out,if_pos h]
    clear HJ h
    go_wp2
    go_ret
    exact⟨by rw[HF.out];rfl,rfl⟩
   ·have hb:(([61,62]:jU)==s.toList)=false:=by rw[beq_eq_false_iff_ne];exact h
    have HF:Hid (kdOf s=kdN (kdL.drop 6) s.toList 6):=by show kdOf s=_;rw[HJ.out,if_neg h]
    clear HJ h
    go_wp2
    go_roundw
    case rel=>exact⟨6,by go_num,by omega,trivial,HF.out⟩
    case measure=>simp[intOf]
  ·have q0:=sg_6 wr
   have HJ:Hid (kdOf s=if ([60,61,62]:jU)=s.toList then 6 else kdN (kdL.drop 7) s.toList 7):=HI.out
   clear HI
   by_cases h:([60,61,62]:jU)=s.toList
   ·have hb:(([60,61,62]:jU)==s.toList)=true:=by rw[beq_iff_eq];exact h
    have HF:Hid (kdOf s=6):=by show kdOf s=6;rw[HJ.out,if_pos h]
    clear HJ h
    go_wp2
    go_ret
    exact⟨by rw[HF.out];rfl,rfl⟩
   ·have hb:(([60,61,62]:jU)==s.toList)=false:=by rw[beq_eq_false_iff_ne];exact h
    have HF:Hid (kdOf s=kdN (kdL.drop 7) s.toList 7):=by show kdOf s=_;rw[HJ.out,if_neg h]
    clear HJ h
    go_wp2
    go_roundw
    case rel=>exact⟨7,by go_num,by omega,trivial,HF.out⟩
    case measure=>simp[intOf]
  ·have q0:=sg_7 wr
   have HJ:Hid (kdOf s=if ([33]:jU)=s.toList then 7 else kdN (kdL.drop 8) s.toList 8):=HI.out
   clear HI
   by_cases h:([33]:jU)=s.toList
   ·have hb:(([33]:jU)==s.toList)=true:=by rw[beq_iff_eq];exact h
    have HF:Hid (kdOf s=7):=by show kdOf s=7;rw[HJ.out,if_pos h]
    clear HJ h
    go_wp2
    go_ret
    exact⟨by rw[HF.out];rfl,rfl⟩
   ·have hb:(([33]:jU)==s.toList)=false:=by rw[beq_eq_false_iff_ne];exact h
    have HF:Hid (kdOf s=kdN (kdL.drop 8) s.toList 8):=by show kdOf s=_;rw[HJ.out,if_neg h]
    clear HJ h
    go_wp2
    go_roundw
    case rel=>exact⟨8,by go_num,by omega,trivial,HF.out⟩
    case measure=>simp[intOf]
  ·have q0:=sg_8 wr
   have HJ:Hid (kdOf s=if ([63]:jU)=s.toList then 8 else kdN (kdL.drop 9) s.toList 9):=HI.out
   clear HI
   by_cases h:([63]:jU)=s.toList
   ·have hb:(([63]:jU)==s.toList)=true:=by rw[beq_iff_eq];exact h
    have HF:Hid (kdOf s=8):=by show kdOf s=8;rw[HJ.out,if_pos h]
    clear HJ h
    go_wp2
    go_ret
    exact⟨by rw[HF.out];rfl,rfl⟩
   ·have hb:(([63]:jU)==s.toList)=false:=by rw[beq_eq_false_iff_ne];exact h
    have HF:Hid (kdOf s=kdN (kdL.drop 9) s.toList 9):=by show kdOf s=_;rw[HJ.out,if_neg h]
    clear HJ h
    go_wp2
    go_roundw
    case rel=>exact⟨9,by go_num,by omega,trivial,HF.out⟩
    case measure=>simp[intOf]
  ·have q0:=sg_9 wr
   have HJ:Hid (kdOf s=if ([36,116,114,117,101]:jU)=s.toList then 9 else kdN (kdL.drop 10) s.toList 10):=HI.out
   clear HI
   by_cases h:([36,116,114,117,101]:jU)=s.toList
   ·have hb:(([36,116,114,117,101]:jU)==s.toList)=true:=by rw[beq_iff_eq];exact h
    have HF:Hid (kdOf s=9):=by show kdOf s=9;rw[HJ.out,if_pos h]
    clear HJ h
    go_wp2
    go_ret
    exact⟨by rw[HF.out];rfl,rfl⟩
   ·have hb:(([36,116,114,117,101]:jU)==s.toList)=false:=by rw[beq_eq_false_iff_ne];exact h
    have HF:Hid (kdOf s=kdN (kdL.drop 10) s.toList 10):=by show kdOf s=_;rw[HJ.out,if_neg h]
    clear HJ h
    go_wp2
    go_roundw
    case rel=>exact⟨10,by go_num,by omega,trivial,HF.out⟩
    case measure=>simp[intOf]
  ·have q0:=sg_10 wr
   have HJ:Hid (kdOf s=if ([36,102,97,108,115,101]:jU)=s.toList then 10 else kdN (kdL.drop 11) s.toList 11):=HI.out
   clear HI
   by_cases h:([36,102,97,108,115,101]:jU)=s.toList
   ·have hb:(([36,102,97,108,115,101]:jU)==s.toList)=true:=by rw[beq_iff_eq];exact h
    have HF:Hid (kdOf s=10):=by show kdOf s=10;rw[HJ.out,if_pos h]
    clear HJ h
    go_wp2
    go_ret
    exact⟨by rw[HF.out];rfl,rfl⟩
   ·have hb:(([36,102,97,108,115,101]:jU)==s.toList)=false:=by rw[beq_eq_false_iff_ne];exact h
    have HF:Hid (kdOf s=kdN (kdL.drop 11) s.toList 11):=by show kdOf s=_;rw[HJ.out,if_neg h]
    clear HJ h
    go_wp2
    go_roundw
    case rel=>exact⟨11,by go_num,by omega,trivial,HF.out⟩
    case measure=>simp[intOf]
  ·have HF:Hid (kdOf s=0):=HI.out
   clear HI
   go_wp2
   go_ret
   exact⟨by rw[HF.out];rfl,rfl⟩
end
section
open Go.RowKit Go.Maps
open Lx (Tk ofL KsAt)
theorem keyed9:Keyed Tryz.prog 9:=string_keyed Tryz.underlying9
theorem key9 {s:ByteArray}(h:s.size<=maxLen):keyOf Tryz.prog 9 (.string s)=some (.string s.data.toList):=WideMaps.keyOf_string_mk Tryz.underlying9 h
theorem zero3 (w:World):(zeroValue 3).run Tryz.prog w=.ok (.int .i64 0) w:=by kernel_rfl
def smp (f:jV):Value->Option Value
 | .string s=>(f s).map fun c=>.int .i64 c
 | _=>none
def fput (f:jV)(s:ByteArray)(c:Int):jV:=fun x=>if x=s then some c else f x
open Classical in
theorem smp_put (f:jV)(s:ByteArray)(c:Int):upd (smp f) (.string s) (.int .i64 c)=smp (fput f s c):=by
 funext v
 unfold upd
 cases v with
 | string x =>
  by_cases h:x=s
  ·subst h;simp[smp,fput]
  ·simp[smp,fput,h]
 | _=>simp[smp]
structure Nm (W:World) (b:Nat) (f:jV) (n:Nat):Prop where
 m:∃k,k<=n∧MapIs W 9 b (smp f) k
theorem Nm.lt {W:World}{b n:Nat}{f:jV}(h:Nm W b f n):b<W.heap.size:=by obtain⟨k,_,hm⟩:=h.m;exact hm.lt
theorem Nm.same {W W':World}{b n:Nat}{f:jV}(h:Nm W b f n)(hb:W'.heap[b]? =W.heap[b]?):Nm W' b f n:=by obtain⟨k,hk,hm⟩:=h.m;exact⟨k,hk,hm.same hb⟩
theorem Nm.more {W:World}{b n n':Nat}{f:jV}(h:Nm W b f n)(hn:n<=n'):Nm W b f n':=by obtain⟨k,hk,hm⟩:=h.m;exact⟨k,by omega,hm⟩
theorem Nm.look {W:World}{b n:Nat}{f:jV}(h:Nm W b f n){s:ByteArray}(hs:s.size<=maxLen):(Instr.lookup 50 (.map (some b)) (.string s) false).run Tryz.prog W=.ok (.int .i64 ((f s).getD 0)) W:=by
 obtain⟨k,_,hm⟩:=h.m
 obtain⟨h1,h2⟩:=hm.look keyed9 Tryz.underlying50 (zero3 W) (key9 hs)
 cases hf:f s with
 | none=>exact (h2 (by simp[smp,hf])).2
 | some c=>exact (h1 (.int .i64 c) (by simp[smp,hf])).2
theorem Nm.put {W:World}{b n:Nat}{f:jV}(h:Nm W b f n)(hn:n<maxLen){s:ByteArray}(hs:s.size<=maxLen)(c:Int):∃W',(Instr.mapUpdate 50 (.map (some b)) (.string s) (.int .i64 c)).run Tryz.prog W=.ok () W'∧Nm W' b (fput f s c) (n+1)∧Only [b] W W':=by
 obtain⟨k,hk,hm⟩:=h.m
 obtain⟨W',h1,h2,h3⟩:=hm.put keyed9 Tryz.underlying50 (by omega) (key9 hs) (.int .i64 c)
 rw[smp_put]at h2
 refine⟨W',h1,⟨_,?_,h2⟩,Only.of_grown h3 (fun r e=>by cases e;simp)⟩
 cases smp f (.string s) with
 | none=>simp only;omega
 | some _=>simp only;omega
theorem wrap1 {n:Int}(h0:0<=n)(h:n<=1048576000):wrap64 (n+1)=n+1:=by unfold wrap64;omega
theorem meet_bound {w:World}{mb mm n:Nat}{f:jV}(hf:Nm w mb f n)(s:ByteArray)(hs:s.size<=maxLen)(h:0<(f s).getD 0) :
  Calls Tryz.prog 121 #[.agg #[.map (some mb),.map (some mm)],.string s] w fun e w'=>e=.returned (.bool false)∧Below w.heap.size w w':=by
 have hb:=bbx w (.cells #[.map (some mb),.map (some mm)] 52)
 have h2:=hf.same (hb.block mb hf.lt)
 have hl:=h2.look hs
 have hz:=(jH w (.cells #[.map (some mb),.map (some mm)] 52)).1
 obtain⟨W1,hW1⟩:∃X,w.alloc (.cells #[.map (some mb),.map (some mm)] 52)=X:=⟨_,rfl⟩
 rw[hW1]at hb hl hz
 have x0:W1.cell? ⟨w.heap.size,0,none⟩=some (.map (some mb)):=cst (vs:=[_,_]) hz rfl
 have HB:=hid hb
 obtain⟨c,hc⟩:∃c,(f s).getD 0=c:=⟨_,rfl⟩
 rw[hc]at hl h
 clear hf h2 hb hz hc
 go_enter Tryz.func121,Tryz.ntmps121
 go_upto_region 1 with fail
 try rw[hW1]
 clear hW1
 go_wp2
 go_ret
 exact⟨rfl,HB.out⟩
theorem meet_free {w:World}{mb mm n k:Nat}{f g:jV}(hf:Nm w mb f n)(hg:Nm w mm g k)(hk:k<maxLen)(s:ByteArray)(hs:s.size<=maxLen)(h:¬0<(f s).getD 0)(h0:0<=(g s).getD 0)(h1:(g s).getD 0<=1048576000) :
  Calls Tryz.prog 121 #[.agg #[.map (some mb),.map (some mm)],.string s] w fun e w'=>e=.returned (.bool (decide ((g s).getD 0=0)))∧Nm w' mm (fput g s ((g s).getD 0+1)) (k+1)∧Only [mm] w w':=by
 have hb:=bbx w (.cells #[.map (some mb),.map (some mm)] 52)
 have hl:=(hf.same (hb.block mb hf.lt)).look hs
 have hl2:=(hg.same (hb.block mm hg.lt)).look hs
 obtain⟨W2,hrun,hg2,ho2⟩:=(hg.same (hb.block mm hg.lt)).put hk hs ((g s).getD 0+1)
 have hl3:=hg2.look hs
 rw[show (fput g s ((g s).getD 0+1) s).getD 0=(g s).getD 0+1 by simp[fput]]at hl3
 have hz:=(jH w (.cells #[.map (some mb),.map (some mm)] 52)).1
 have hgl:=hg.lt
 have hz2:=(ho2.block w.heap.size (by simp) (by simp;omega)).trans hz
 obtain⟨W1,hW1⟩:∃X,w.alloc (.cells #[.map (some mb),.map (some mm)] 52)=X:=⟨_,rfl⟩
 rw[hW1]at hb hl hl2 hrun ho2 hz
 have x0:W1.cell? ⟨w.heap.size,0,none⟩=some (.map (some mb)):=cst (vs:=[_,_]) hz rfl
 have x1:W1.cell? ⟨w.heap.size,1,none⟩=some (.map (some mm)):=cst (vs:=[_,_]) hz rfl
 have x2:W2.cell? ⟨w.heap.size,1,none⟩=some (.map (some mm)):=cst (vs:=[_,_]) hz2 rfl
 have HB:Hid (Only [mm] w W2):=(Only.of_below (B:=[mm]) hb).trans ho2 (fun r hr=>.inl hr)
 have HG:=hid hg2
 obtain⟨c,hc⟩:∃c,(g s).getD 0=c:=⟨_,rfl⟩
 obtain⟨d,hd⟩:∃d,(f s).getD 0=d:=⟨_,rfl⟩
 rw[hc]at hl2 hl3 hrun h0 h1 HG ⊢
 rw[hd]at hl h
 have hw:wrap64 (c+1)=c+1:=wrap1 h0 h1
 have hdd:decide (0<d)=false:=decide_eq_false h
 have HQ:Hid ((c+1==1)=decide (c=0)):=by
  show (c+1==1)=decide (c=0)
  by_cases e:c=0
  ·subst e;rfl
  ·rw[decide_eq_false e,beq_eq_false_iff_ne];omega
 clear hf hg hb ho2 hg2 hz hz2 hgl hc hd h h0 h1 hk
 go_enter Tryz.func121,Tryz.ntmps121
 go_upto_region 1 with fail
 try rw[hW1]
 clear hW1
 go_wp2
 go_ret
 exact⟨by rw[<-HQ.out];rfl,HG.out,HB.out⟩
end
section
open Go.RowKit Go.Maps
def clT (q:ByteArray->Int):T->Prop
 | .mk v fn ts=>(vB (.mk v fn ts)=true->0<q fn)∧clTs ts
where clTs:List T->Prop
 | []=>True
 | a::r=>clT q a∧clTs r
theorem clTs_mem {q:ByteArray->Int}:∀{l:List T},clT.clTs q l->∀a∈l,clT q a
 | b::r,h,a,ha=>by
  rw[clT.clTs]at h
  rcases List.mem_cons.1 ha with rfl|ha
  ·exact h.1
  ·exact clTs_mem h.2 a ha
theorem clT_var {q:ByteArray->Int}{t:T}(h:clT q t):vB t=true->0<q t.fn:=by cases t;rw[clT]at h;exact h.1
theorem clT_args {q:ByteArray->Int}{t:T}(h:clT q t):∀a∈t.args,clT q a:=by cases t;rw[clT]at h;exact clTs_mem h.2
def MTc (mb mm:Nat)(f:jV)(n:Nat)(l:List T):Prop:=(∀a∈l,clT (fun s=>(f s).getD 0) a)->(∀a∈l,a.nsm)->l.length<=9223372036854775807->∀(w:World)(sl:Value),Nm w mb f n->ArgsAt w sl l->Calls Tryz.prog 84 #[.agg #[.map (some mb),.map (some mm)],sl] w fun e w'=>e=.returned (.tuple #[])∧Below w.heap.size w w'
theorem meet_step {mb mm n:Nat}{f:jV}{l:List T}(ih:∀a∈l,MTc mb mm f n a.args):MTc mb mm f n l:=by
 intro hcl hns hlm w sl hf ha
 have hb0:=bbx w (.cells #[.map (some mb),.map (some mm)] 52)
 have hz0:=(jH w (.cells #[.map (some mb),.map (some mm)] 52)).1
 obtain⟨sa,sc,rfl,hsc,hsm⟩:=ha.slice
 have HB:Hid (∀X,Below w.heap.size w X->Nm X mb f n∧ArgsAt X (.slice sa l.length sc) l):=fun X hX=>⟨hf.same (hX.block mb hf.lt),ha.keep hX (jJ _)⟩
 obtain⟨W0,hW0⟩:∃X:World,w.alloc (.cells #[.map (some mb),.map (some mm)] 52)=X:=⟨_,rfl⟩
 obtain⟨R,hR⟩:∃R,w.heap.size=R:=⟨_,rfl⟩
 rw[hW0]at hb0 hz0
 rw[hR]at hz0
 obtain⟨N,hN⟩:∃N,l.length=N:=⟨_,rfl⟩
 have HN:=hidR hN
 rw[hN]at hsc HB hlm ⊢
 have HI:=hidR ih
 have HC:=hidR (And.intro hcl hns)
 have H0:=hidR (And.intro hb0 hz0)
 have HW0:=hidR hW0
 have HR:=hidR hR
 clear hf ha ih hcl hns hb0 hz0 hW0 hN
 go_enter Tryz.func84,Tryz.ntmps84
 go_upto_region 1 with fail
 try simp only[hR]
 rw[show _=W0 from HW0.out]
 clear HW0 hR
 go_wp2
 go_loopw [5,8] (fun v5 vi wr=>∃i:Nat,vi=.int .i64 i∧i<=N∧Hid (Below W0.heap.size W0 wr)) (fun v5 vi _=>N-(intOf vi).toNat)
 case atStart=>exact⟨0,rfl,Nat.zero_le _,Below.refl _ _⟩
 case round =>
  obtain⟨i,rfl,hi,HW⟩:=hrel
  by_cases hlt:i<N
  ·have hil:i<l.length:=by rw[HN.out];exact hlt
   have hbw:Below w.heap.size w wr:=H0.out.1.trans (HW.out.mono H0.out.1.size)
   obtain⟨hnm,has⟩:=HB.out wr hbw
   rw[<-HN.out]at has
   obtain⟨b,o,s,rfl,hbl,y0,y1,y2,hss⟩:=has.nth hil
   obtain⟨a1,c1,rfl,hac,ham⟩:=hss.slice
   have hbG:=bbx wr (tbox l[i] (.slice a1 l[i].args.length c1))
   have hzG:=(jH wr (tbox l[i] (.slice a1 l[i].args.length c1))).1
   obtain⟨G,hG⟩:∃G,wr.heap.size=G:=⟨_,rfl⟩
   obtain⟨X1,hX1⟩:∃X:World,wr.alloc (tbox l[i] (.slice a1 l[i].args.length c1))=X:=⟨_,rfl⟩
   have hs1:X1.heap.size=G+1:=by rw[<-hX1,World.size_alloc,hG]
   rw[hX1]at hbG hzG
   rw[hG]at hzG
   have hmem:=List.getElem_mem hil
   have hv:=y1c (T.nsm_fn (HC.out.2 _ hmem)) (hss.keep hbG (jJ _))
   have hzR:wr.heap[R]? =some (.cells #[.map (some mb),.map (some mm)] 52 (0,0)):=(HW.out.block R (jG H0.out.2).1).trans H0.out.2
   have hRl:=(jG hzR).1
   have HK:Hid (∀X,Below X1.heap.size X1 X->(X.cell? ⟨R,0,none⟩=some (.map (some mb))∧X.cell? ⟨R,1,none⟩=some (.map (some mm)))∧(X.cell? ⟨G,0,none⟩=some (.int .i64 l[i].v)∧X.cell? ⟨G,1,none⟩=some (.string l[i].fn)∧X.cell? ⟨G,2,none⟩=some (.slice a1 l[i].args.length c1))∧Nm X mb f n∧Below w.heap.size w X∧Below W0.heap.size W0 X∧Calls Tryz.prog 84 #[.agg #[.map (some mb),.map (some mm)],.slice a1 l[i].args.length c1] X fun e w'=>e=.returned (.tuple #[])∧Below X.heap.size X w'):=fun X hX=>by
    have hbX:Below wr.heap.size wr X:=hbG.trans (hX.mono hbG.size)
    have h1:=(hbX.block R hRl).trans hzR
    have h2:=(hX.block G (by omega)).trans hzG
    exact⟨⟨cst (vs:=[_,_]) h1 rfl,cst (vs:=[_,_]) h1 rfl⟩,⟨csR (vs:=[_,_,_]) h2 rfl,csR (vs:=[_,_,_]) h2 rfl,csR (vs:=[_,_,_]) h2 rfl⟩,hnm.same (hbX.block mb hnm.lt),hbw.trans (hbX.mono hbw.size),HW.out.trans (hbX.mono HW.out.size),HI.out l[i] hmem (clT_args (HC.out.1 _ hmem)) (T.nsm_args (HC.out.2 _ hmem)) (by omega) X _ (hnm.same (hbX.block mb hnm.lt)) (hss.keep hbX (jJ _))⟩
   have HV:Hid (vB l[i]=true->0<(f l[i].fn).getD 0):=clT_var (HC.out.1 _ hmem)
   have HFS:Hid (l[i].fn.size<=maxLen):=by have:=T.nsm_fn (HC.out.2 _ hmem);show _<=_;unfold maxLen;omega
   have HX1:=hidR hX1
   obtain⟨b1,hb1⟩:∃x,vB l[i]=x:=⟨_,rfl⟩
   rw[hb1]at hv HV
   generalize l[i]=u at y0 y1 y2 hv HK HV HFS HX1
   obtain⟨⟨r0,r1⟩,⟨g0,g1,g2⟩,-⟩:=HK.out X1 (Below.refl _ _)
   clear hss has hnm hbG hzG hX1 hbl hbw hmem hb1 hzR hRl hs1
   go_upto_region 4 with fail
   try simp only[hG]
   rw[show _=X1 from HX1.out]
   clear HX1 hG
   go_wp2_with fail
   refine hv.mono ?_
   rintro e X2 ⟨rfl,hb2⟩
   have HX2:=hidR hb2
   clear hv hb2 r0 r1 g0 g1 g2
   obtain⟨⟨r0,r1⟩,⟨g0,g1,g2⟩,hn2,-,-,hrec⟩:=HK.out X2 HX2.out
   cases b1 with
   | true =>
    have hm:=meet_bound (mm:=mm) hn2 u.fn HFS.out (HV.out rfl)
    clear hn2 hrec
    go_wp2_with fail
    refine hm.mono ?_
    rintro e X3 ⟨rfl,hb3⟩
    have HX3:=hidR (HX2.out.trans (hb3.mono HX2.out.size))
    clear hm hb3 r0 r1 g0 g1 g2
    obtain⟨⟨r0,r1⟩,⟨g0,g1,g2⟩,-,-,-,hrec⟩:=HK.out X3 HX3.out
    go_wp2_with fail
    refine hrec.mono ?_
    rintro e X4 ⟨rfl,hb4⟩
    have HM:Hid (Below W0.heap.size W0 X4):=(HK.out X4 (HX3.out.trans (hb4.mono HX3.out.size))).2.2.2.2.1
    clear hrec hb4 r0 r1 g0 g1 g2
    go_wp2
    go_roundw
    case rel=>exact⟨i+1,by go_num,by omega,HM.out⟩
    case measure=>simp[intOf];omega
   | false =>
    clear hn2
    go_wp2_with fail
    refine hrec.mono ?_
    rintro e X4 ⟨rfl,hb4⟩
    have HM:Hid (Below W0.heap.size W0 X4):=(HK.out X4 (HX2.out.trans (hb4.mono HX2.out.size))).2.2.2.2.1
    clear hrec hb4 r0 r1 g0 g1 g2
    go_wp2
    go_roundw
    case rel=>exact⟨i+1,by go_num,by omega,HM.out⟩
    case measure=>simp[intOf];omega
  ·have hin:i=N:=by omega
   subst hin
   have HF:Hid (Below w.heap.size w wr):=H0.out.1.trans (HW.out.mono H0.out.1.size)
   go_wp2
   refine bodyPost_end (results_none rfl _ _ _) rfl ?_
   exact⟨rfl,HF.out⟩
theorem meetArgs {mb mm n:Nat}{f:jV}(t:T):MTc mb mm f n t.args:=by
 refine T.ind (P:=fun t=>MTc mb mm f n t.args) (fun t ih=>?_) t
 exact meet_step ih
theorem meetTerms_any {mb mm n:Nat}{f:jV}(l:List T):MTc mb mm f n l:=meet_step fun a _=>meetArgs a
end
