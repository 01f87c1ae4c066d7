import Derived.Test.YthkinkcpfcpehaaGreatDoorZS
import Derived.Test.YthkinkcpfcpehaaGreatDoorLJ
namespace Go.Proofs.YthkinkcpfcpehaaGreatDoor.Lx
set_option maxRecDepth 100000
set_option maxHeartbeats 16000000
section
open Go.RowKit Go.Shelf
theorem idx65_0 (W:World):(Instr.index 166 (.agg #[.string ⟨#[36,116,114,117,101]⟩,.string ⟨#[36,102,97,108,115,101]⟩]) (.int .i64 0)).run Tryz.prog W=.ok (.string ⟨#[36,116,114,117,101]⟩) W:=by kernel_rfl
theorem idx65_1 (W:World):(Instr.index 166 (.agg #[.string ⟨#[36,116,114,117,101]⟩,.string ⟨#[36,102,97,108,115,101]⟩]) (.int .i64 1)).run Tryz.prog W=.ok (.string ⟨#[36,102,97,108,115,101]⟩) W:=by kernel_rfl
theorem idx66_0 (W:World):(Instr.index 194 (.agg #[.string ⟨#[60,61,62]⟩,.string ⟨#[61,62]⟩,.string ⟨#[33,61]⟩,.string ⟨#[40]⟩,.string ⟨#[41]⟩,.string ⟨#[91]⟩,.string ⟨#[93]⟩,.string ⟨#[44]⟩,.string ⟨#[58]⟩,.string ⟨#[33]⟩,.string ⟨#[63]⟩,.string ⟨#[126]⟩,.string ⟨#[38]⟩,.string ⟨#[124]⟩,.string ⟨#[61]⟩]) (.int .i64 0)).run Tryz.prog W=.ok (.string ⟨#[60,61,62]⟩) W:=by kernel_rfl
theorem idx66_1 (W:World):(Instr.index 194 (.agg #[.string ⟨#[60,61,62]⟩,.string ⟨#[61,62]⟩,.string ⟨#[33,61]⟩,.string ⟨#[40]⟩,.string ⟨#[41]⟩,.string ⟨#[91]⟩,.string ⟨#[93]⟩,.string ⟨#[44]⟩,.string ⟨#[58]⟩,.string ⟨#[33]⟩,.string ⟨#[63]⟩,.string ⟨#[126]⟩,.string ⟨#[38]⟩,.string ⟨#[124]⟩,.string ⟨#[61]⟩]) (.int .i64 1)).run Tryz.prog W=.ok (.string ⟨#[61,62]⟩) W:=by kernel_rfl
theorem idx66_2 (W:World):(Instr.index 194 (.agg #[.string ⟨#[60,61,62]⟩,.string ⟨#[61,62]⟩,.string ⟨#[33,61]⟩,.string ⟨#[40]⟩,.string ⟨#[41]⟩,.string ⟨#[91]⟩,.string ⟨#[93]⟩,.string ⟨#[44]⟩,.string ⟨#[58]⟩,.string ⟨#[33]⟩,.string ⟨#[63]⟩,.string ⟨#[126]⟩,.string ⟨#[38]⟩,.string ⟨#[124]⟩,.string ⟨#[61]⟩]) (.int .i64 2)).run Tryz.prog W=.ok (.string ⟨#[33,61]⟩) W:=by kernel_rfl
theorem idx66_3 (W:World):(Instr.index 194 (.agg #[.string ⟨#[60,61,62]⟩,.string ⟨#[61,62]⟩,.string ⟨#[33,61]⟩,.string ⟨#[40]⟩,.string ⟨#[41]⟩,.string ⟨#[91]⟩,.string ⟨#[93]⟩,.string ⟨#[44]⟩,.string ⟨#[58]⟩,.string ⟨#[33]⟩,.string ⟨#[63]⟩,.string ⟨#[126]⟩,.string ⟨#[38]⟩,.string ⟨#[124]⟩,.string ⟨#[61]⟩]) (.int .i64 3)).run Tryz.prog W=.ok (.string ⟨#[40]⟩) W:=by kernel_rfl
theorem idx66_4 (W:World):(Instr.index 194 (.agg #[.string ⟨#[60,61,62]⟩,.string ⟨#[61,62]⟩,.string ⟨#[33,61]⟩,.string ⟨#[40]⟩,.string ⟨#[41]⟩,.string ⟨#[91]⟩,.string ⟨#[93]⟩,.string ⟨#[44]⟩,.string ⟨#[58]⟩,.string ⟨#[33]⟩,.string ⟨#[63]⟩,.string ⟨#[126]⟩,.string ⟨#[38]⟩,.string ⟨#[124]⟩,.string ⟨#[61]⟩]) (.int .i64 4)).run Tryz.prog W=.ok (.string ⟨#[41]⟩) W:=by kernel_rfl
theorem idx66_5 (W:World):(Instr.index 194 (.agg #[.string ⟨#[60,61,62]⟩,.string ⟨#[61,62]⟩,.string ⟨#[33,61]⟩,.string ⟨#[40]⟩,.string ⟨#[41]⟩,.string ⟨#[91]⟩,.string ⟨#[93]⟩,.string ⟨#[44]⟩,.string ⟨#[58]⟩,.string ⟨#[33]⟩,.string ⟨#[63]⟩,.string ⟨#[126]⟩,.string ⟨#[38]⟩,.string ⟨#[124]⟩,.string ⟨#[61]⟩]) (.int .i64 5)).run Tryz.prog W=.ok (.string ⟨#[91]⟩) W:=by kernel_rfl
theorem idx66_6 (W:World):(Instr.index 194 (.agg #[.string ⟨#[60,61,62]⟩,.string ⟨#[61,62]⟩,.string ⟨#[33,61]⟩,.string ⟨#[40]⟩,.string ⟨#[41]⟩,.string ⟨#[91]⟩,.string ⟨#[93]⟩,.string ⟨#[44]⟩,.string ⟨#[58]⟩,.string ⟨#[33]⟩,.string ⟨#[63]⟩,.string ⟨#[126]⟩,.string ⟨#[38]⟩,.string ⟨#[124]⟩,.string ⟨#[61]⟩]) (.int .i64 6)).run Tryz.prog W=.ok (.string ⟨#[93]⟩) W:=by kernel_rfl
theorem idx66_7 (W:World):(Instr.index 194 (.agg #[.string ⟨#[60,61,62]⟩,.string ⟨#[61,62]⟩,.string ⟨#[33,61]⟩,.string ⟨#[40]⟩,.string ⟨#[41]⟩,.string ⟨#[91]⟩,.string ⟨#[93]⟩,.string ⟨#[44]⟩,.string ⟨#[58]⟩,.string ⟨#[33]⟩,.string ⟨#[63]⟩,.string ⟨#[126]⟩,.string ⟨#[38]⟩,.string ⟨#[124]⟩,.string ⟨#[61]⟩]) (.int .i64 7)).run Tryz.prog W=.ok (.string ⟨#[44]⟩) W:=by kernel_rfl
theorem idx66_8 (W:World):(Instr.index 194 (.agg #[.string ⟨#[60,61,62]⟩,.string ⟨#[61,62]⟩,.string ⟨#[33,61]⟩,.string ⟨#[40]⟩,.string ⟨#[41]⟩,.string ⟨#[91]⟩,.string ⟨#[93]⟩,.string ⟨#[44]⟩,.string ⟨#[58]⟩,.string ⟨#[33]⟩,.string ⟨#[63]⟩,.string ⟨#[126]⟩,.string ⟨#[38]⟩,.string ⟨#[124]⟩,.string ⟨#[61]⟩]) (.int .i64 8)).run Tryz.prog W=.ok (.string ⟨#[58]⟩) W:=by kernel_rfl
theorem idx66_9 (W:World):(Instr.index 194 (.agg #[.string ⟨#[60,61,62]⟩,.string ⟨#[61,62]⟩,.string ⟨#[33,61]⟩,.string ⟨#[40]⟩,.string ⟨#[41]⟩,.string ⟨#[91]⟩,.string ⟨#[93]⟩,.string ⟨#[44]⟩,.string ⟨#[58]⟩,.string ⟨#[33]⟩,.string ⟨#[63]⟩,.string ⟨#[126]⟩,.string ⟨#[38]⟩,.string ⟨#[124]⟩,.string ⟨#[61]⟩]) (.int .i64 9)).run Tryz.prog W=.ok (.string ⟨#[33]⟩) W:=by kernel_rfl
theorem idx66_10 (W:World):(Instr.index 194 (.agg #[.string ⟨#[60,61,62]⟩,.string ⟨#[61,62]⟩,.string ⟨#[33,61]⟩,.string ⟨#[40]⟩,.string ⟨#[41]⟩,.string ⟨#[91]⟩,.string ⟨#[93]⟩,.string ⟨#[44]⟩,.string ⟨#[58]⟩,.string ⟨#[33]⟩,.string ⟨#[63]⟩,.string ⟨#[126]⟩,.string ⟨#[38]⟩,.string ⟨#[124]⟩,.string ⟨#[61]⟩]) (.int .i64 10)).run Tryz.prog W=.ok (.string ⟨#[63]⟩) W:=by kernel_rfl
theorem idx66_11 (W:World):(Instr.index 194 (.agg #[.string ⟨#[60,61,62]⟩,.string ⟨#[61,62]⟩,.string ⟨#[33,61]⟩,.string ⟨#[40]⟩,.string ⟨#[41]⟩,.string ⟨#[91]⟩,.string ⟨#[93]⟩,.string ⟨#[44]⟩,.string ⟨#[58]⟩,.string ⟨#[33]⟩,.string ⟨#[63]⟩,.string ⟨#[126]⟩,.string ⟨#[38]⟩,.string ⟨#[124]⟩,.string ⟨#[61]⟩]) (.int .i64 11)).run Tryz.prog W=.ok (.string ⟨#[126]⟩) W:=by kernel_rfl
theorem idx66_12 (W:World):(Instr.index 194 (.agg #[.string ⟨#[60,61,62]⟩,.string ⟨#[61,62]⟩,.string ⟨#[33,61]⟩,.string ⟨#[40]⟩,.string ⟨#[41]⟩,.string ⟨#[91]⟩,.string ⟨#[93]⟩,.string ⟨#[44]⟩,.string ⟨#[58]⟩,.string ⟨#[33]⟩,.string ⟨#[63]⟩,.string ⟨#[126]⟩,.string ⟨#[38]⟩,.string ⟨#[124]⟩,.string ⟨#[61]⟩]) (.int .i64 12)).run Tryz.prog W=.ok (.string ⟨#[38]⟩) W:=by kernel_rfl
theorem idx66_13 (W:World):(Instr.index 194 (.agg #[.string ⟨#[60,61,62]⟩,.string ⟨#[61,62]⟩,.string ⟨#[33,61]⟩,.string ⟨#[40]⟩,.string ⟨#[41]⟩,.string ⟨#[91]⟩,.string ⟨#[93]⟩,.string ⟨#[44]⟩,.string ⟨#[58]⟩,.string ⟨#[33]⟩,.string ⟨#[63]⟩,.string ⟨#[126]⟩,.string ⟨#[38]⟩,.string ⟨#[124]⟩,.string ⟨#[61]⟩]) (.int .i64 13)).run Tryz.prog W=.ok (.string ⟨#[124]⟩) W:=by kernel_rfl
theorem idx66_14 (W:World):(Instr.index 194 (.agg #[.string ⟨#[60,61,62]⟩,.string ⟨#[61,62]⟩,.string ⟨#[33,61]⟩,.string ⟨#[40]⟩,.string ⟨#[41]⟩,.string ⟨#[91]⟩,.string ⟨#[93]⟩,.string ⟨#[44]⟩,.string ⟨#[58]⟩,.string ⟨#[33]⟩,.string ⟨#[63]⟩,.string ⟨#[126]⟩,.string ⟨#[38]⟩,.string ⟨#[124]⟩,.string ⟨#[61]⟩]) (.int .i64 14)).run Tryz.prog W=.ok (.string ⟨#[61]⟩) W:=by kernel_rfl
set_option maxRecDepth 100000 in
theorem readDollar_any (s:ByteArray)(w:World)(hp:0<s.size)(hs:s.size<=2097154):Calls Tryz.prog 172 #[.string s] w fun e w'=>e=.returned (rdV (rdD s.data.toList))∧Below w.heap.size w w':=by
 have HR:Hid (Rb w (w.alloc (.cells #[.int .i64 0,.int .i64 0,.string ⟨#[]⟩] 57))):=Rb.new w
 obtain⟨W1,h1⟩:∃X,w.alloc (.cells #[.int .i64 0,.int .i64 0,.string ⟨#[]⟩] 57)=X:=⟨_,rfl⟩
 rw[h1]at HR
 have HE:Hid (w.alloc (.cells #[.int .i64 0,.int .i64 0,.string ⟨#[]⟩] 57)=W1):=h1
 clear h1
 have hle:wlen (s.data.toList.drop 1)+1<=s.size:=by have:=y2d (s.data.toList.drop 1);rw[List.length_drop,size_len]at this;omega
 have hw:=y10 (s.extract 1 s.size) W1 (by rw[y0n,y1n,List.length_drop,size_len];omega)
 rw[show (s.extract 1 s.size).data.toList=s.data.toList.drop 1 by rw[y0n];rfl]at hw
 have HT:Hid (s.extract 0 (1+wlen (s.data.toList.drop 1))=ofL (s.data.toList.take (1+wlen (s.data.toList.drop 1)))):=y2i _ _
 obtain⟨n,hn⟩:∃n,wlen (s.data.toList.drop 1)=n:=⟨_,rfl⟩
 have HD:Hid (rdD s.data.toList=if s.data.toList.take (1+n)=dTrue then ⟨3,dTrue,1+n,0⟩ else if s.data.toList.take (1+n)=dFalse then ⟨3,dFalse,1+n,0⟩ else badR 20):=by show _=_;unfold rdD;rw[hn]
 rw[hn]at hle hw HT
 clear hn
 have hn1:(1:Int)+(n:Int)<=(s.size:Int):=by omega
 go_enter Tryz.func172,Tryz.ntmps172
 go_wp2_with fail
 rw[HE.out]
 refine hw.mono ?_
 rintro e W3 ⟨rfl,rfl⟩
 go_wp2
 go_loopw [13] (fun vi wr=>∃j:Nat,vi=.int .i64 j∧j<=2∧wr=W3∧Hid ((1<=j->s.data.toList.take (1+n)≠dTrue)∧(2<=j->s.data.toList.take (1+n)≠dFalse))) (fun vi _=>2-(intOf vi).toNat)
 case atStart=>exact⟨0,rfl,Nat.zero_le _,rfl,fun h=>absurd h (by omega),fun h=>absurd h (by omega)⟩
 case round =>
  obtain⟨j,rfl,hj,rfl,HI⟩:=hrel
  have hj3:j=0∨j=1∨j=2:=by omega
  rcases hj3 with rfl|rfl|rfl
  ·have q0:=idx65_0 wr
   by_cases hc:s.data.toList.take (1+n)=dTrue
   ·have hx:((s.extract 0 (1+n)).toList==[36,116,114,117,101])=true:=by rw[Lib.toList_data,HT.out,y1b,hc];rfl
    have HF:Hid (rdD s.data.toList=⟨3,dTrue,1+n,0⟩):=by show _=_;rw[HD.out,if_pos hc]
    obtain⟨W2,hrun,⟨k0,k1,k2⟩,hb2⟩:=HR.out.told 3 0 ⟨#[36,116,114,117,101]⟩
    clear hc
    go_wp2_with (first|(refine wsr rfl 57 _ _ rfl (.pointer (some ⟨w.heap.size,0,none⟩)) (.agg #[.int .i64 3,.int .i64 0,.string ⟨#[36,116,114,117,101]⟩]) rfl rfl hrun ?_))
    refine bodyPost_ret (v:=rdV ⟨3,dTrue,1+n,0⟩) (by simp[results,Tryz.results172,go_sem, *,ofL,dTrue]) rfl ⟨by rw[HF.out],hb2⟩
   ·have hx:((s.extract 0 (1+n)).toList==[36,116,114,117,101])=false:=by rw[Lib.toList_data,HT.out,y1b,beq_eq_false_iff_ne];exact hc
    have HC:Hid (¬s.data.toList.take (1+n)=dTrue):=hc
    clear hc
    go_wp2_with (fail)
    go_roundw
    case rel=>exact⟨1,by go_num,by omega,by simp,fun _=>HC.out,fun h=>absurd h (by omega)⟩
    case measure=>simp[intOf]
  ·have q0:=idx65_1 wr
   by_cases hc:s.data.toList.take (1+n)=dFalse
   ·have hx:((s.extract 0 (1+n)).toList==[36,102,97,108,115,101])=true:=by rw[Lib.toList_data,HT.out,y1b,hc];rfl
    have HF:Hid (rdD s.data.toList=⟨3,dFalse,1+n,0⟩):=by show _=_;rw[HD.out,if_neg (HI.out.1 (jJ _)),if_pos hc]
    obtain⟨W2,hrun,⟨k0,k1,k2⟩,hb2⟩:=HR.out.told 3 0 ⟨#[36,102,97,108,115,101]⟩
    clear hc
    go_wp2_with (first|(refine wsr rfl 57 _ _ rfl (.pointer (some ⟨w.heap.size,0,none⟩)) (.agg #[.int .i64 3,.int .i64 0,.string ⟨#[36,102,97,108,115,101]⟩]) rfl rfl hrun ?_))
    refine bodyPost_ret (v:=rdV ⟨3,dFalse,1+n,0⟩) (by simp[results,Tryz.results172,go_sem, *,ofL,dFalse]) rfl ⟨by rw[HF.out],hb2⟩
   ·have hx:((s.extract 0 (1+n)).toList==[36,102,97,108,115,101])=false:=by rw[Lib.toList_data,HT.out,y1b,beq_eq_false_iff_ne];exact hc
    have HC:Hid (¬s.data.toList.take (1+n)=dFalse):=hc
    clear hc
    go_wp2_with (fail)
    go_roundw
    case rel=>exact⟨2,by go_num,by omega,by simp,fun _=>HI.out.1 (jJ _),fun _=>HC.out⟩
    case measure=>simp[intOf]
  ·have HF:Hid (rdD s.data.toList=badR 20):=by show _=_;rw[HD.out,if_neg (HI.out.1 (by omega)),if_neg (HI.out.2 (jJ _))]
   obtain⟨W2,hrun,⟨k0,k1,k2⟩,hb2⟩:=HR.out.told 0 0 ⟨#[]⟩
   go_wp2_with (first|(refine wsr rfl 57 _ _ rfl (.pointer (some ⟨w.heap.size,0,none⟩)) (.agg #[.int .i64 0,.int .i64 0,.string ⟨#[]⟩]) rfl rfl hrun ?_))
   refine bodyPost_ret (v:=rdV (badR 20)) (by simp[results,Tryz.results172,go_sem, *,badR,ofL]) rfl ⟨by rw[HF.out],hb2⟩
end
section
open Go.RowKit Go.Shelf
def rdMk (ms:List jU)(l:jU):Rd:=match ms.find? (fun m=>Lib.hasPrefix l m) with
 | some m=>⟨4,m,m.length,0⟩
 | none=>badR 20
theorem y0p {m:jU}{ms:List jU}{l:jU}(h:Lib.hasPrefix l m=true):rdMk (m::ms) l=⟨4,m,m.length,0⟩:=by
 unfold rdMk;rw[List.find?_cons_of_pos h]
theorem y0y {m:jU}{ms:List jU}{l:jU}(h:Lib.hasPrefix l m=false):rdMk (m::ms) l=rdMk ms l:=by
 unfold rdMk;rw[List.find?_cons_of_neg (by simp[h])]
set_option maxRecDepth 100000 in
theorem readMark_any (s:ByteArray)(w:World):Calls Tryz.prog 173 #[.string s] w fun e w'=>e=.returned (rdV (rdM s.data.toList))∧Below w.heap.size w w':=by
 have HR:Hid (Rb w (w.alloc (.cells #[.int .i64 0,.int .i64 0,.string ⟨#[]⟩] 57))):=Rb.new w
 obtain⟨W1,h1⟩:∃X,w.alloc (.cells #[.int .i64 0,.int .i64 0,.string ⟨#[]⟩] 57)=X:=⟨_,rfl⟩
 rw[h1]at HR
 have HE:Hid (w.alloc (.cells #[.int .i64 0,.int .i64 0,.string ⟨#[]⟩] 57)=W1):=h1
 clear h1
 have hc:=fun (p:ByteArray) (W:World)=>Tryz.strings_HasPrefix s p W
 go_enter Tryz.func173,Tryz.ntmps173
 go_wp2
 rw[HE.out]
 go_loopw [8] (fun vi wr=>∃j:Nat,vi=.int .i64 j∧j<=15∧wr=W1∧Hid (rdM s.data.toList=rdMk (mks.drop j) s.data.toList)) (fun vi _=>15-(intOf vi).toNat)
 case atStart=>exact⟨0,rfl,Nat.zero_le _,rfl,rfl⟩
 case round =>
  obtain⟨j,rfl,hj,rfl,HI⟩:=hrel
  have hj3:j=0∨j=1∨j=2∨j=3∨j=4∨j=5∨j=6∨j=7∨j=8∨j=9∨j=10∨j=11∨j=12∨j=13∨j=14∨j=15:=by omega
  rcases hj3 with rfl|rfl|rfl|rfl|rfl|rfl|rfl|rfl|rfl|rfl|rfl|rfl|rfl|rfl|rfl|rfl
  ·have q0:=idx66_0 wr
   have HJ:Hid (rdM s.data.toList=rdMk ([60,61,62]::mks.drop 1) s.data.toList):=HI.out
   have hcj:=hc ⟨#[60,61,62]⟩ wr
   have hcj':Calls Tryz.prog 147 #[.string s,.string ⟨#[60,61,62]⟩] wr fun e w'=>e=.returned (.bool (Lib.hasPrefix s.data.toList [60,61,62]))∧w'=wr:=hcj
   cases hx:Lib.hasPrefix s.data.toList [60,61,62]
   ·rw[hx]at hcj'
    have HK:Hid (rdM s.data.toList=rdMk (mks.drop 1) s.data.toList):=by show _=_;rw[HJ.out,y0y hx]
    clear hcj hc hx
    go_wp2_with fail
    refine hcj'.mono ?_
    rintro e W5 ⟨rfl,rfl⟩
    go_wp2
    go_roundw
    case rel=>exact⟨1,by go_num,by omega,by simp,HK.out⟩
    case measure=>simp[intOf]
   ·rw[hx]at hcj'
    have HF:Hid (rdM s.data.toList=⟨4,[60,61,62],3,0⟩):=by show _=_;rw[HJ.out,y0p hx];rfl
    clear hcj hc hx
    go_wp2_with fail
    refine hcj'.mono ?_
    rintro e W5 ⟨rfl,rfl⟩
    obtain⟨W2,hrun,⟨k0,k1,k2⟩,hb2⟩:=HR.out.told 4 0 ⟨#[60,61,62]⟩
    have hsz:(⟨#[60,61,62]⟩:ByteArray).size=3:=rfl
    go_wp2_with (first|(refine wsr rfl 57 _ _ rfl (.pointer (some ⟨w.heap.size,0,none⟩)) (.agg #[.int .i64 4,.int .i64 0,.string ⟨#[60,61,62]⟩]) rfl rfl hrun ?_))
    refine bodyPost_ret (v:=rdV ⟨4,[60,61,62],3,0⟩) (by simp[results,Tryz.results173,go_sem, *,ofL]) rfl ⟨by rw[HF.out],hb2⟩
  ·have q0:=idx66_1 wr
   have HJ:Hid (rdM s.data.toList=rdMk ([61,62]::mks.drop 2) s.data.toList):=HI.out
   have hcj:=hc ⟨#[61,62]⟩ wr
   have hcj':Calls Tryz.prog 147 #[.string s,.string ⟨#[61,62]⟩] wr fun e w'=>e=.returned (.bool (Lib.hasPrefix s.data.toList [61,62]))∧w'=wr:=hcj
   cases hx:Lib.hasPrefix s.data.toList [61,62]
   ·rw[hx]at hcj'
    have HK:Hid (rdM s.data.toList=rdMk (mks.drop 2) s.data.toList):=by show _=_;rw[HJ.out,y0y hx]
    clear hcj hc hx
    go_wp2_with fail
    refine hcj'.mono ?_
    rintro e W5 ⟨rfl,rfl⟩
    go_wp2
    go_roundw
    case rel=>exact⟨2,by go_num,by omega,by simp,HK.out⟩
    case measure=>simp[intOf]
   ·rw[hx]at hcj'
    have HF:Hid (rdM s.data.toList=⟨4,[61,62],2,0⟩):=by show _=_;rw[HJ.out,y0p hx];rfl
    clear hcj hc hx
    go_wp2_with fail
    refine hcj'.mono ?_
    rintro e W5 ⟨rfl,rfl⟩
    obtain⟨W2,hrun,⟨k0,k1,k2⟩,hb2⟩:=HR.out.told 4 0 ⟨#[61,62]⟩
    have hsz:(⟨#[61,62]⟩:ByteArray).size=2:=rfl
    go_wp2_with (first|(refine wsr rfl 57 _ _ rfl (.pointer (some ⟨w.heap.size,0,none⟩)) (.agg #[.int .i64 4,.int .i64 0,.string ⟨#[61,62]⟩]) rfl rfl hrun ?_))
    refine bodyPost_ret (v:=rdV ⟨4,[61,62],2,0⟩) (by simp[results,Tryz.results173,go_sem, *,ofL]) rfl ⟨by rw[HF.out],hb2⟩
  ·have q0:=idx66_2 wr
   have HJ:Hid (rdM s.data.toList=rdMk ([33,61]::mks.drop 3) s.data.toList):=HI.out
   have hcj:=hc ⟨#[33,61]⟩ wr
   have hcj':Calls Tryz.prog 147 #[.string s,.string ⟨#[33,61]⟩] wr fun e w'=>e=.returned (.bool (Lib.hasPrefix s.data.toList [33,61]))∧w'=wr:=hcj
   cases hx:Lib.hasPrefix s.data.toList [33,61]
   ·rw[hx]at hcj'
    have HK:Hid (rdM s.data.toList=rdMk (mks.drop 3) s.data.toList):=by show _=_;rw[HJ.out,y0y hx]
    clear hcj hc hx
    go_wp2_with fail
    refine hcj'.mono ?_
    rintro e W5 ⟨rfl,rfl⟩
    go_wp2
    go_roundw
    case rel=>exact⟨3,by go_num,by omega,by simp,HK.out⟩
    case measure=>simp[intOf]
   ·rw[hx]at hcj'
    have HF:Hid (rdM s.data.toList=⟨4,[33,61],2,0⟩):=by show _=_;rw[HJ.out,y0p hx];rfl
    clear hcj hc hx
    go_wp2_with fail
    refine hcj'.mono ?_
    rintro e W5 ⟨rfl,rfl⟩
    obtain⟨W2,hrun,⟨k0,k1,k2⟩,hb2⟩:=HR.out.told 4 0 ⟨#[33,61]⟩
    have hsz:(⟨#[33,61]⟩:ByteArray).size=2:=rfl
    go_wp2_with (first|(refine wsr rfl 57 _ _ rfl (.pointer (some ⟨w.heap.size,0,none⟩)) (.agg #[.int .i64 4,.int .i64 0,.string ⟨#[33,61]⟩]) rfl rfl hrun ?_))
    refine bodyPost_ret (v:=rdV ⟨4,[33,61],2,0⟩) (by simp[results,Tryz.results173,go_sem, *,ofL]) rfl ⟨by rw[HF.out],hb2⟩
  ·have q0:=idx66_3 wr
   have HJ:Hid (rdM s.data.toList=rdMk ([40]::mks.drop 4) s.data.toList):=HI.out
   have hcj:=hc ⟨#[40]⟩ wr
   have hcj':Calls Tryz.prog 147 #[.string s,.string ⟨#[40]⟩] wr fun e w'=>e=.returned (.bool (Lib.hasPrefix s.data.toList [40]))∧w'=wr:=hcj
   cases hx:Lib.hasPrefix s.data.toList [40]
   ·rw[hx]at hcj'
    have HK:Hid (rdM s.data.toList=rdMk (mks.drop 4) s.data.toList):=by show _=_;rw[HJ.out,y0y hx]
    clear hcj hc hx
    go_wp2_with fail
    refine hcj'.mono ?_
    rintro e W5 ⟨rfl,rfl⟩
    go_wp2
    go_roundw
    case rel=>exact⟨4,by go_num,by omega,by simp,HK.out⟩
    case measure=>simp[intOf]
   ·rw[hx]at hcj'
    have HF:Hid (rdM s.data.toList=⟨4,[40],1,0⟩):=by show _=_;rw[HJ.out,y0p hx];rfl
    clear hcj hc hx
    go_wp2_with fail
    refine hcj'.mono ?_
    rintro e W5 ⟨rfl,rfl⟩
    obtain⟨W2,hrun,⟨k0,k1,k2⟩,hb2⟩:=HR.out.told 4 0 ⟨#[40]⟩
    have hsz:(⟨#[40]⟩:ByteArray).size=1:=rfl
    go_wp2_with (first|(refine wsr rfl 57 _ _ rfl (.pointer (some ⟨w.heap.size,0,none⟩)) (.agg #[.int .i64 4,.int .i64 0,.string ⟨#[40]⟩]) rfl rfl hrun ?_))
    refine bodyPost_ret (v:=rdV ⟨4,[40],1,0⟩) (by simp[results,Tryz.results173,go_sem, *,ofL]) rfl ⟨by rw[HF.out],hb2⟩
  ·have q0:=idx66_4 wr
   have HJ:Hid (rdM s.data.toList=rdMk ([41]::mks.drop 5) s.data.toList):=HI.out
   have hcj:=hc ⟨#[41]⟩ wr
   have hcj':Calls Tryz.prog 147 #[.string s,.string ⟨#[41]⟩] wr fun e w'=>e=.returned (.bool (Lib.hasPrefix s.data.toList [41]))∧w'=wr:=hcj
   cases hx:Lib.hasPrefix s.data.toList [41]
   ·rw[hx]at hcj'
    have HK:Hid (rdM s.data.toList=rdMk (mks.drop 5) s.data.toList):=by show _=_;rw[HJ.out,y0y hx]
    clear hcj hc hx
    go_wp2_with fail
    refine hcj'.mono ?_
    rintro e W5 ⟨rfl,rfl⟩
    go_wp2
    go_roundw
    case rel=>exact⟨5,by go_num,by omega,by simp,HK.out⟩
    case measure=>simp[intOf]
   ·rw[hx]at hcj'
    have HF:Hid (rdM s.data.toList=⟨4,[41],1,0⟩):=by show _=_;rw[HJ.out,y0p hx];rfl
    clear hcj hc hx
    go_wp2_with fail
    refine hcj'.mono ?_
    rintro e W5 ⟨rfl,rfl⟩
    obtain⟨W2,hrun,⟨k0,k1,k2⟩,hb2⟩:=HR.out.told 4 0 ⟨#[41]⟩
    have hsz:(⟨#[41]⟩:ByteArray).size=1:=rfl
    go_wp2_with (first|(refine wsr rfl 57 _ _ rfl (.pointer (some ⟨w.heap.size,0,none⟩)) (.agg #[.int .i64 4,.int .i64 0,.string ⟨#[41]⟩]) rfl rfl hrun ?_))
    refine bodyPost_ret (v:=rdV ⟨4,[41],1,0⟩) (by simp[results,Tryz.results173,go_sem, *,ofL]) rfl ⟨by rw[HF.out],hb2⟩
  ·have q0:=idx66_5 wr
   have HJ:Hid (rdM s.data.toList=rdMk ([91]::mks.drop 6) s.data.toList):=HI.out
   have hcj:=hc ⟨#[91]⟩ wr
   have hcj':Calls Tryz.prog 147 #[.string s,.string ⟨#[91]⟩] wr fun e w'=>e=.returned (.bool (Lib.hasPrefix s.data.toList [91]))∧w'=wr:=hcj
   cases hx:Lib.hasPrefix s.data.toList [91]
   ·rw[hx]at hcj'
    have HK:Hid (rdM s.data.toList=rdMk (mks.drop 6) s.data.toList):=by show _=_;rw[HJ.out,y0y hx]
    clear hcj hc hx
    go_wp2_with fail
    refine hcj'.mono ?_
    rintro e W5 ⟨rfl,rfl⟩
    go_wp2
    go_roundw
    case rel=>exact⟨6,by go_num,by omega,by simp,HK.out⟩
    case measure=>simp[intOf]
   ·rw[hx]at hcj'
    have HF:Hid (rdM s.data.toList=⟨4,[91],1,0⟩):=by show _=_;rw[HJ.out,y0p hx];rfl
    clear hcj hc hx
    go_wp2_with fail
    refine hcj'.mono ?_
    rintro e W5 ⟨rfl,rfl⟩
    obtain⟨W2,hrun,⟨k0,k1,k2⟩,hb2⟩:=HR.out.told 4 0 ⟨#[91]⟩
    have hsz:(⟨#[91]⟩:ByteArray).size=1:=rfl
    go_wp2_with (first|(refine wsr rfl 57 _ _ rfl (.pointer (some ⟨w.heap.size,0,none⟩)) (.agg #[.int .i64 4,.int .i64 0,.string ⟨#[91]⟩]) rfl rfl hrun ?_))
    refine bodyPost_ret (v:=rdV ⟨4,[91],1,0⟩) (by simp[results,Tryz.results173,go_sem, *,ofL]) rfl ⟨by rw[HF.out],hb2⟩
  ·have q0:=idx66_6 wr
   have HJ:Hid (rdM s.data.toList=rdMk ([93]::mks.drop 7) s.data.toList):=HI.out
   have hcj:=hc ⟨#[93]⟩ wr
   have hcj':Calls Tryz.prog 147 #[.string s,.string ⟨#[93]⟩] wr fun e w'=>e=.returned (.bool (Lib.hasPrefix s.data.toList [93]))∧w'=wr:=hcj
   cases hx:Lib.hasPrefix s.data.toList [93]
   ·rw[hx]at hcj'
    have HK:Hid (rdM s.data.toList=rdMk (mks.drop 7) s.data.toList):=by show _=_;rw[HJ.out,y0y hx]
    clear hcj hc hx
    go_wp2_with fail
    refine hcj'.mono ?_
    rintro e W5 ⟨rfl,rfl⟩
    go_wp2
    go_roundw
    case rel=>exact⟨7,by go_num,by omega,by simp,HK.out⟩
    case measure=>simp[intOf]
   ·rw[hx]at hcj'
    have HF:Hid (rdM s.data.toList=⟨4,[93],1,0⟩):=by show _=_;rw[HJ.out,y0p hx];rfl
    clear hcj hc hx
    go_wp2_with fail
    refine hcj'.mono ?_
    rintro e W5 ⟨rfl,rfl⟩
    obtain⟨W2,hrun,⟨k0,k1,k2⟩,hb2⟩:=HR.out.told 4 0 ⟨#[93]⟩
    have hsz:(⟨#[93]⟩:ByteArray).size=1:=rfl
    go_wp2_with (first|(refine wsr rfl 57 _ _ rfl (.pointer (some ⟨w.heap.size,0,none⟩)) (.agg #[.int .i64 4,.int .i64 0,.string ⟨#[93]⟩]) rfl rfl hrun ?_))
    refine bodyPost_ret (v:=rdV ⟨4,[93],1,0⟩) (by simp[results,Tryz.results173,go_sem, *,ofL]) rfl ⟨by rw[HF.out],hb2⟩
  ·have q0:=idx66_7 wr
   have HJ:Hid (rdM s.data.toList=rdMk ([44]::mks.drop 8) s.data.toList):=HI.out
   have hcj:=hc ⟨#[44]⟩ wr
   have hcj':Calls Tryz.prog 147 #[.string s,.string ⟨#[44]⟩] wr fun e w'=>e=.returned (.bool (Lib.hasPrefix s.data.toList [44]))∧w'=wr:=hcj
   cases hx:Lib.hasPrefix s.data.toList [44]
   ·rw[hx]at hcj'
    have HK:Hid (rdM s.data.toList=rdMk (mks.drop 8) s.data.toList):=by show _=_;rw[HJ.out,y0y hx]
    clear hcj hc hx
    go_wp2_with fail
    refine hcj'.mono ?_
    rintro e W5 ⟨rfl,rfl⟩
    go_wp2
    go_roundw
    case rel=>exact⟨8,by go_num,by omega,by simp,HK.out⟩
    case measure=>simp[intOf]
   ·rw[hx]at hcj'
    have HF:Hid (rdM s.data.toList=⟨4,[44],1,0⟩):=by show _=_;rw[HJ.out,y0p hx];rfl
    clear hcj hc hx
    go_wp2_with fail
    refine hcj'.mono ?_
    rintro e W5 ⟨rfl,rfl⟩
    obtain⟨W2,hrun,⟨k0,k1,k2⟩,hb2⟩:=HR.out.told 4 0 ⟨#[44]⟩
    have hsz:(⟨#[44]⟩:ByteArray).size=1:=rfl
    go_wp2_with (first|(refine wsr rfl 57 _ _ rfl (.pointer (some ⟨w.heap.size,0,none⟩)) (.agg #[.int .i64 4,.int .i64 0,.string ⟨#[44]⟩]) rfl rfl hrun ?_))
    refine bodyPost_ret (v:=rdV ⟨4,[44],1,0⟩) (by simp[results,Tryz.results173,go_sem, *,ofL]) rfl ⟨by rw[HF.out],hb2⟩
  ·have q0:=idx66_8 wr
   have HJ:Hid (rdM s.data.toList=rdMk ([58]::mks.drop 9) s.data.toList):=HI.out
   have hcj:=hc ⟨#[58]⟩ wr
   have hcj':Calls Tryz.prog 147 #[.string s,.string ⟨#[58]⟩] wr fun e w'=>e=.returned (.bool (Lib.hasPrefix s.data.toList [58]))∧w'=wr:=hcj
   cases hx:Lib.hasPrefix s.data.toList [58]
   ·rw[hx]at hcj'
    have HK:Hid (rdM s.data.toList=rdMk (mks.drop 9) s.data.toList):=by show _=_;rw[HJ.out,y0y hx]
    clear hcj hc hx
    go_wp2_with fail
    refine hcj'.mono ?_
    rintro e W5 ⟨rfl,rfl⟩
    go_wp2
    go_roundw
    case rel=>exact⟨9,by go_num,by omega,by simp,HK.out⟩
    case measure=>simp[intOf]
   ·rw[hx]at hcj'
    have HF:Hid (rdM s.data.toList=⟨4,[58],1,0⟩):=by show _=_;rw[HJ.out,y0p hx];rfl
    clear hcj hc hx
    go_wp2_with fail
    refine hcj'.mono ?_
    rintro e W5 ⟨rfl,rfl⟩
    obtain⟨W2,hrun,⟨k0,k1,k2⟩,hb2⟩:=HR.out.told 4 0 ⟨#[58]⟩
    have hsz:(⟨#[58]⟩:ByteArray).size=1:=rfl
    go_wp2_with (first|(refine wsr rfl 57 _ _ rfl (.pointer (some ⟨w.heap.size,0,none⟩)) (.agg #[.int .i64 4,.int .i64 0,.string ⟨#[58]⟩]) rfl rfl hrun ?_))
    refine bodyPost_ret (v:=rdV ⟨4,[58],1,0⟩) (by simp[results,Tryz.results173,go_sem, *,ofL]) rfl ⟨by rw[HF.out],hb2⟩
  ·have q0:=idx66_9 wr
   have HJ:Hid (rdM s.data.toList=rdMk ([33]::mks.drop 10) s.data.toList):=HI.out
   have hcj:=hc ⟨#[33]⟩ wr
   have hcj':Calls Tryz.prog 147 #[.string s,.string ⟨#[33]⟩] wr fun e w'=>e=.returned (.bool (Lib.hasPrefix s.data.toList [33]))∧w'=wr:=hcj
   cases hx:Lib.hasPrefix s.data.toList [33]
   ·rw[hx]at hcj'
    have HK:Hid (rdM s.data.toList=rdMk (mks.drop 10) s.data.toList):=by show _=_;rw[HJ.out,y0y hx]
    clear hcj hc hx
    go_wp2_with fail
    refine hcj'.mono ?_
    rintro e W5 ⟨rfl,rfl⟩
    go_wp2
    go_roundw
    case rel=>exact⟨10,by go_num,by omega,by simp,HK.out⟩
    case measure=>simp[intOf]
   ·rw[hx]at hcj'
    have HF:Hid (rdM s.data.toList=⟨4,[33],1,0⟩):=by show _=_;rw[HJ.out,y0p hx];rfl
    clear hcj hc hx
    go_wp2_with fail
    refine hcj'.mono ?_
    rintro e W5 ⟨rfl,rfl⟩
    obtain⟨W2,hrun,⟨k0,k1,k2⟩,hb2⟩:=HR.out.told 4 0 ⟨#[33]⟩
    have hsz:(⟨#[33]⟩:ByteArray).size=1:=rfl
    go_wp2_with (first|(refine wsr rfl 57 _ _ rfl (.pointer (some ⟨w.heap.size,0,none⟩)) (.agg #[.int .i64 4,.int .i64 0,.string ⟨#[33]⟩]) rfl rfl hrun ?_))
    refine bodyPost_ret (v:=rdV ⟨4,[33],1,0⟩) (by simp[results,Tryz.results173,go_sem, *,ofL]) rfl ⟨by rw[HF.out],hb2⟩
  ·have q0:=idx66_10 wr
   have HJ:Hid (rdM s.data.toList=rdMk ([63]::mks.drop 11) s.data.toList):=HI.out
   have hcj:=hc ⟨#[63]⟩ wr
   have hcj':Calls Tryz.prog 147 #[.string s,.string ⟨#[63]⟩] wr fun e w'=>e=.returned (.bool (Lib.hasPrefix s.data.toList [63]))∧w'=wr:=hcj
   cases hx:Lib.hasPrefix s.data.toList [63]
   ·rw[hx]at hcj'
    have HK:Hid (rdM s.data.toList=rdMk (mks.drop 11) s.data.toList):=by show _=_;rw[HJ.out,y0y hx]
    clear hcj hc hx
    go_wp2_with fail
    refine hcj'.mono ?_
    rintro e W5 ⟨rfl,rfl⟩
    go_wp2
    go_roundw
    case rel=>exact⟨11,by go_num,by omega,by simp,HK.out⟩
    case measure=>simp[intOf]
   ·rw[hx]at hcj'
    have HF:Hid (rdM s.data.toList=⟨4,[63],1,0⟩):=by show _=_;rw[HJ.out,y0p hx];rfl
    clear hcj hc hx
    go_wp2_with fail
    refine hcj'.mono ?_
    rintro e W5 ⟨rfl,rfl⟩
    obtain⟨W2,hrun,⟨k0,k1,k2⟩,hb2⟩:=HR.out.told 4 0 ⟨#[63]⟩
    have hsz:(⟨#[63]⟩:ByteArray).size=1:=rfl
    go_wp2_with (first|(refine wsr rfl 57 _ _ rfl (.pointer (some ⟨w.heap.size,0,none⟩)) (.agg #[.int .i64 4,.int .i64 0,.string ⟨#[63]⟩]) rfl rfl hrun ?_))
    refine bodyPost_ret (v:=rdV ⟨4,[63],1,0⟩) (by simp[results,Tryz.results173,go_sem, *,ofL]) rfl ⟨by rw[HF.out],hb2⟩
  ·have q0:=idx66_11 wr
   have HJ:Hid (rdM s.data.toList=rdMk ([126]::mks.drop 12) s.data.toList):=HI.out
   have hcj:=hc ⟨#[126]⟩ wr
   have hcj':Calls Tryz.prog 147 #[.string s,.string ⟨#[126]⟩] wr fun e w'=>e=.returned (.bool (Lib.hasPrefix s.data.toList [126]))∧w'=wr:=hcj
   cases hx:Lib.hasPrefix s.data.toList [126]
   ·rw[hx]at hcj'
    have HK:Hid (rdM s.data.toList=rdMk (mks.drop 12) s.data.toList):=by show _=_;rw[HJ.out,y0y hx]
    clear hcj hc hx
    go_wp2_with fail
    refine hcj'.mono ?_
    rintro e W5 ⟨rfl,rfl⟩
    go_wp2
    go_roundw
    case rel=>exact⟨12,by go_num,by omega,by simp,HK.out⟩
    case measure=>simp[intOf]
   ·rw[hx]at hcj'
    have HF:Hid (rdM s.data.toList=⟨4,[126],1,0⟩):=by show _=_;rw[HJ.out,y0p hx];rfl
    clear hcj hc hx
    go_wp2_with fail
    refine hcj'.mono ?_
    rintro e W5 ⟨rfl,rfl⟩
    obtain⟨W2,hrun,⟨k0,k1,k2⟩,hb2⟩:=HR.out.told 4 0 ⟨#[126]⟩
    have hsz:(⟨#[126]⟩:ByteArray).size=1:=rfl
    go_wp2_with (first|(refine wsr rfl 57 _ _ rfl (.pointer (some ⟨w.heap.size,0,none⟩)) (.agg #[.int .i64 4,.int .i64 0,.string ⟨#[126]⟩]) rfl rfl hrun ?_))
    refine bodyPost_ret (v:=rdV ⟨4,[126],1,0⟩) (by simp[results,Tryz.results173,go_sem, *,ofL]) rfl ⟨by rw[HF.out],hb2⟩
  ·have q0:=idx66_12 wr
   have HJ:Hid (rdM s.data.toList=rdMk ([38]::mks.drop 13) s.data.toList):=HI.out
   have hcj:=hc ⟨#[38]⟩ wr
   have hcj':Calls Tryz.prog 147 #[.string s,.string ⟨#[38]⟩] wr fun e w'=>e=.returned (.bool (Lib.hasPrefix s.data.toList [38]))∧w'=wr:=hcj
   cases hx:Lib.hasPrefix s.data.toList [38]
   ·rw[hx]at hcj'
    have HK:Hid (rdM s.data.toList=rdMk (mks.drop 13) s.data.toList):=by show _=_;rw[HJ.out,y0y hx]
    clear hcj hc hx
    go_wp2_with fail
    refine hcj'.mono ?_
    rintro e W5 ⟨rfl,rfl⟩
    go_wp2
    go_roundw
    case rel=>exact⟨13,by go_num,by omega,by simp,HK.out⟩
    case measure=>simp[intOf]
   ·rw[hx]at hcj'
    have HF:Hid (rdM s.data.toList=⟨4,[38],1,0⟩):=by show _=_;rw[HJ.out,y0p hx];rfl
    clear hcj hc hx
    go_wp2_with fail
    refine hcj'.mono ?_
    rintro e W5 ⟨rfl,rfl⟩
    obtain⟨W2,hrun,⟨k0,k1,k2⟩,hb2⟩:=HR.out.told 4 0 ⟨#[38]⟩
    have hsz:(⟨#[38]⟩:ByteArray).size=1:=rfl
    go_wp2_with (first|(refine wsr rfl 57 _ _ rfl (.pointer (some ⟨w.heap.size,0,none⟩)) (.agg #[.int .i64 4,.int .i64 0,.string ⟨#[38]⟩]) rfl rfl hrun ?_))
    refine bodyPost_ret (v:=rdV ⟨4,[38],1,0⟩) (by simp[results,Tryz.results173,go_sem, *,ofL]) rfl ⟨by rw[HF.out],hb2⟩
  ·have q0:=idx66_13 wr
   have HJ:Hid (rdM s.data.toList=rdMk ([124]::mks.drop 14) s.data.toList):=HI.out
   have hcj:=hc ⟨#[124]⟩ wr
   have hcj':Calls Tryz.prog 147 #[.string s,.string ⟨#[124]⟩] wr fun e w'=>e=.returned (.bool (Lib.hasPrefix s.data.toList [124]))∧w'=wr:=hcj
   cases hx:Lib.hasPrefix s.data.toList [124]
   ·rw[hx]at hcj'
    have HK:Hid (rdM s.data.toList=rdMk (mks.drop 14) s.data.toList):=by show _=_;rw[HJ.out,y0y hx]
    clear hcj hc hx
    go_wp2_with fail
    refine hcj'.mono ?_
    rintro e W5 ⟨rfl,rfl⟩
    go_wp2
    go_roundw
    case rel=>exact⟨14,by go_num,by omega,by simp,HK.out⟩
    case measure=>simp[intOf]
   ·rw[hx]at hcj'
    have HF:Hid (rdM s.data.toList=⟨4,[124],1,0⟩):=by show _=_;rw[HJ.out,y0p hx];rfl
    clear hcj hc hx
    go_wp2_with fail
    refine hcj'.mono ?_
    rintro e W5 ⟨rfl,rfl⟩
    obtain⟨W2,hrun,⟨k0,k1,k2⟩,hb2⟩:=HR.out.told 4 0 ⟨#[124]⟩
    have hsz:(⟨#[124]⟩:ByteArray).size=1:=rfl
    go_wp2_with (first|(refine wsr rfl 57 _ _ rfl (.pointer (some ⟨w.heap.size,0,none⟩)) (.agg #[.int .i64 4,.int .i64 0,.string ⟨#[124]⟩]) rfl rfl hrun ?_))
    refine bodyPost_ret (v:=rdV ⟨4,[124],1,0⟩) (by simp[results,Tryz.results173,go_sem, *,ofL]) rfl ⟨by rw[HF.out],hb2⟩
  ·have q0:=idx66_14 wr
   have HJ:Hid (rdM s.data.toList=rdMk ([61]::mks.drop 15) s.data.toList):=HI.out
   have hcj:=hc ⟨#[61]⟩ wr
   have hcj':Calls Tryz.prog 147 #[.string s,.string ⟨#[61]⟩] wr fun e w'=>e=.returned (.bool (Lib.hasPrefix s.data.toList [61]))∧w'=wr:=hcj
   cases hx:Lib.hasPrefix s.data.toList [61]
   ·rw[hx]at hcj'
    have HK:Hid (rdM s.data.toList=rdMk (mks.drop 15) s.data.toList):=by show _=_;rw[HJ.out,y0y hx]
    clear hcj hc hx
    go_wp2_with fail
    refine hcj'.mono ?_
    rintro e W5 ⟨rfl,rfl⟩
    go_wp2
    go_roundw
    case rel=>exact⟨15,by go_num,by omega,by simp,HK.out⟩
    case measure=>simp[intOf]
   ·rw[hx]at hcj'
    have HF:Hid (rdM s.data.toList=⟨4,[61],1,0⟩):=by show _=_;rw[HJ.out,y0p hx];rfl
    clear hcj hc hx
    go_wp2_with fail
    refine hcj'.mono ?_
    rintro e W5 ⟨rfl,rfl⟩
    obtain⟨W2,hrun,⟨k0,k1,k2⟩,hb2⟩:=HR.out.told 4 0 ⟨#[61]⟩
    have hsz:(⟨#[61]⟩:ByteArray).size=1:=rfl
    go_wp2_with (first|(refine wsr rfl 57 _ _ rfl (.pointer (some ⟨w.heap.size,0,none⟩)) (.agg #[.int .i64 4,.int .i64 0,.string ⟨#[61]⟩]) rfl rfl hrun ?_))
    refine bodyPost_ret (v:=rdV ⟨4,[61],1,0⟩) (by simp[results,Tryz.results173,go_sem, *,ofL]) rfl ⟨by rw[HF.out],hb2⟩
  ·have HF:Hid (rdM s.data.toList=badR 20):=by show _=_;rw[HI.out];rfl
   obtain⟨W2,hrun,⟨k0,k1,k2⟩,hb2⟩:=HR.out.told 0 0 ⟨#[]⟩
   clear hc
   go_wp2_with (first|(refine wsr rfl 57 _ _ rfl (.pointer (some ⟨w.heap.size,0,none⟩)) (.agg #[.int .i64 0,.int .i64 0,.string ⟨#[]⟩]) rfl rfl hrun ?_))
   refine bodyPost_ret (v:=rdV (badR 20)) (by simp[results,Tryz.results173,go_sem, *,badR,ofL]) rfl ⟨by rw[HF.out],hb2⟩
end
