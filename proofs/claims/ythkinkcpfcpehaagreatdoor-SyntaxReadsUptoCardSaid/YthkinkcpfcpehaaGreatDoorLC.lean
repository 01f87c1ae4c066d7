import Derived.Test.YthkinkcpfcpehaaGreatDoorLF
namespace Go.Proofs.YthkinkcpfcpehaaGreatDoor.Lx
set_option maxRecDepth 100000
set_option maxHeartbeats 1000000
open Go.RowKit
theorem all_step {s:ByteArray}{i:Nat}{p:UInt8->Bool}(h:i<s.size):(s.data.toList.drop i).all p=(p s[i]&&(s.data.toList.drop (i+1)).all p):=by
 rw[y0f s i h];rfl
theorem isName_any (s:ByteArray)(w:World)(hs:s.size<=2097154):Calls Tryz.prog 116 #[.string s] w fun e w'=>e=.returned (.bool (nmB s.data.toList))∧w'=w:=by
 cases hb:bnB s.data.toList
 ·have HE:Hid (nmB s.data.toList=false):=by show _=_;unfold nmB;rw[hb];rfl
  go_enter Tryz.func116,Tryz.ntmps116
  go_wp2_with (first|(go_at_call 155;refine (y3n s _).mono ?_;rw[hb];rintro e w' ⟨rfl,rfl⟩))
  all_goals go_ret
  all_goals exact⟨y01 HE.out.symm,rfl⟩
 ·have HB:Hid (bnB s.data.toList=true):=hb
  have hc:∀W,Calls Tryz.prog 155 #[.string s] W fun e w'=>e=.returned (.bool true)∧w'=W:=fun W=>by have:=y3n s W;rwa [hb]at this
  clear hb
  by_cases h6:s.size<=63
  ·have HE:Hid (nmB s.data.toList=(s.data.toList.drop 0).all fun c=>prB c.toNat):=by show _=_;unfold nmB;rw[HB.out,size_len,List.drop_zero];simp[h6]
   go_enter Tryz.func116,Tryz.ntmps116
   go_wp2_with (first|(go_at_call 155;refine (hc _).mono ?_;rintro e w' ⟨rfl,rfl⟩))
   go_loopw [14] (fun vi wr=>∃i:Nat,vi=.int .i64 i∧i<=s.size∧wr=w'∧Hid (nmB s.data.toList=(s.data.toList.drop i).all fun c=>prB c.toNat)) (fun vi _=>s.size-(intOf vi).toNat)
   case atStart=>exact⟨0,rfl,Nat.zero_le _,rfl,HE.out⟩
   case round =>
    obtain⟨i,rfl,hi,rfl,HI⟩:=hrel
    by_cases hlt:i<s.size
    ·have HD:Hid (nmB s.data.toList=(prB s[i].toNat&&(s.data.toList.drop (i+1)).all fun c=>prB c.toNat)):=by show _=_;rw[HI.out,all_step hlt]
     cases hw:prB s[i].toNat
     ·rw[hw]at HD
      go_wp2_with (go_at_call 156;refine (y0h _ _).mono ?_;rintro e w' ⟨rfl,rfl⟩)
      go_ret
      exact⟨y01 HD.out.symm,rfl⟩
     ·rw[hw]at HD
      go_wp2_with (go_at_call 156;refine (y0h _ _).mono ?_;rintro e w' ⟨rfl,rfl⟩)
      go_roundw
      case rel=>exact⟨i+1,by go_num,by omega,by simp,HD.out⟩
      case measure=>simp[intOf];omega
    ·have HD:Hid (nmB s.data.toList=true):=by show _=_;rw[HI.out,y0s s i (by omega)];rfl
     go_wp2
     go_ret
     exact⟨y01 HD.out.symm,rfl⟩
  ·have HE:Hid (nmB s.data.toList=false):=by show _=_;unfold nmB;rw[HB.out,size_len];simp[h6]
   go_enter Tryz.func116,Tryz.ntmps116
   go_wp2_with (first|(go_at_call 155;refine (hc _).mono ?_;rintro e w' ⟨rfl,rfl⟩))
   all_goals go_ret
   all_goals exact⟨y01 HE.out.symm,rfl⟩
