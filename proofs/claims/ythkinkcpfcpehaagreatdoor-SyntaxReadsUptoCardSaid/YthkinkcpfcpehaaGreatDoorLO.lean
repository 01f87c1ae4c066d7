import Derived.Test.YthkinkcpfcpehaaGreatDoorLL
import Derived.Test.YthkinkcpfcpehaaGreatDoorZS
import Derived.Laws.IdiomStrings
namespace Go.Proofs.YthkinkcpfcpehaaGreatDoor.Lx
set_option maxRecDepth 100000
set_option maxHeartbeats 16000000
section
open Go.RowKit Go.Shelf
set_option maxRecDepth 100000 in
theorem read_any (s:ByteArray)(w:World)(hp:0<s.size)(hs:s.size<=2097154):Calls Tryz.prog 129 #[.string s] w fun e w'=>e=.returned (rdV (rd s.data.toList))∧Below w.heap.size w w':=by
 have HR:Hid (Rb w (w.alloc (.cells #[.int .i64 0,.int .i64 0,.string ⟨#[]⟩] 57))):=Rb.new w
 obtain⟨W1,h1⟩:∃X,w.alloc (.cells #[.int .i64 0,.int .i64 0,.string ⟨#[]⟩] 57)=X:=⟨_,rfl⟩
 rw[h1]at HR
 have HE:Hid (w.alloc (.cells #[.int .i64 0,.int .i64 0,.string ⟨#[]⟩] 57)=W1):=h1
 clear h1
 have hh:=hd_of s hp
 have H1:=y3q 1 s W1 hs
 have H2:=y3q 2 s W1 hs
 have H3:=readQuoted_any s W1 hp hs
 have H4:=readDollar_any s W1 hp hs
 have H5:=readMark_any s W1
 have HS:Hid (∀r:Rd,∀W,Below W1.heap.size W1 W->∃W',(Instr.storeAt 57 (.pointer (some ⟨w.heap.size,0,none⟩)) (.agg #[.int .i64 r.k,.int .i64 0,.string (ofL r.t)])).run Tryz.prog W=.ok () W'∧(W'.cell? ⟨w.heap.size,0,none⟩=some (.int .i64 r.k)∧W'.cell? ⟨w.heap.size,1,none⟩=some (.int .i64 0)∧W'.cell? ⟨w.heap.size,2,none⟩=some (.string (ofL r.t)))∧Below w.heap.size w W'):=fun r W hW=>(HR.out.keep hW).told r.k 0 (ofL r.t)
 cases h1:smB s[0].toNat
 ·cases h2:caB s[0].toNat
  ·by_cases h3:(s[0].toNat:Int)=39
   ·have g3:((s[0].toNat:Int)==39)=true:=by rw[h3];rfl
    have HF:Hid (rd s.data.toList=rdQ (s.data.toList.drop 1)):=by show _=_;unfold rd;rw[hh,h1,h2,if_neg (by simp),if_neg (by simp),if_pos h3]
    obtain⟨r,hr⟩:∃r,rdQ (s.data.toList.drop 1)=r:=⟨_,rfl⟩
    rw[hr]at HF H3
    clear hr hh H1 H2 H4 H5 h3
    go_enter Tryz.func129,Tryz.ntmps129
    go_wp2_with (first|(go_at_call 169;refine (y1d _ _).mono ?_;rintro e wq ⟨rfl,rfl⟩)|(go_at_call 153;refine (y0j _ _).mono ?_;rintro e wq ⟨rfl,rfl⟩))
    try rw[HE.out]
    refine H3.mono ?_
    rintro e W3 ⟨rfl,b3⟩
    obtain⟨W2,hrun,⟨k0,k1,k2⟩,hb2⟩:=HS.out r W3 b3
    clear H3 b3
    go_wp2_with (first|(refine wsr rfl 57 _ _ rfl (.pointer (some ⟨w.heap.size,0,none⟩)) (.agg #[.int .i64 r.k,.int .i64 0,.string (ofL r.t)]) rfl rfl hrun ?_))
    refine bodyPost_ret (v:=rdV r) (by simp[results,Tryz.results129,go_sem, *]) rfl ⟨by rw[HF.out],hb2⟩
   ·have g3:((s[0].toNat:Int)==39)=false:=by simpa using h3
    by_cases h4:(s[0].toNat:Int)=36
    ·have g4:((s[0].toNat:Int)==36)=true:=by rw[h4];rfl
     have HF:Hid (rd s.data.toList=rdD s.data.toList):=by show _=_;unfold rd;rw[hh,h1,h2,if_neg (by simp),if_neg (by simp),if_neg h3,if_pos h4]
     obtain⟨r,hr⟩:∃r,rdD s.data.toList=r:=⟨_,rfl⟩
     rw[hr]at HF H4
     clear hr hh H1 H2 H3 H5 h3 h4
     go_enter Tryz.func129,Tryz.ntmps129
     go_wp2_with (first|(go_at_call 169;refine (y1d _ _).mono ?_;rintro e wq ⟨rfl,rfl⟩)|(go_at_call 153;refine (y0j _ _).mono ?_;rintro e wq ⟨rfl,rfl⟩))
     try rw[HE.out]
     refine H4.mono ?_
     rintro e W3 ⟨rfl,b3⟩
     obtain⟨W2,hrun,⟨k0,k1,k2⟩,hb2⟩:=HS.out r W3 b3
     clear H4 b3
     go_wp2_with (first|(refine wsr rfl 57 _ _ rfl (.pointer (some ⟨w.heap.size,0,none⟩)) (.agg #[.int .i64 r.k,.int .i64 0,.string (ofL r.t)]) rfl rfl hrun ?_))
     refine bodyPost_ret (v:=rdV r) (by simp[results,Tryz.results129,go_sem, *]) rfl ⟨by rw[HF.out],hb2⟩
    ·have g4:((s[0].toNat:Int)==36)=false:=by simpa using h4
     have HF:Hid (rd s.data.toList=rdM s.data.toList):=by show _=_;unfold rd;rw[hh,h1,h2,if_neg (by simp),if_neg (by simp),if_neg h3,if_neg h4]
     obtain⟨r,hr⟩:∃r,rdM s.data.toList=r:=⟨_,rfl⟩
     rw[hr]at HF H5
     clear hr hh H1 H2 H3 H4 h3 h4
     go_enter Tryz.func129,Tryz.ntmps129
     go_wp2_with (first|(go_at_call 169;refine (y1d _ _).mono ?_;rintro e wq ⟨rfl,rfl⟩)|(go_at_call 153;refine (y0j _ _).mono ?_;rintro e wq ⟨rfl,rfl⟩))
     try rw[HE.out]
     refine H5.mono ?_
     rintro e W3 ⟨rfl,b3⟩
     obtain⟨W2,hrun,⟨k0,k1,k2⟩,hb2⟩:=HS.out r W3 b3
     clear H5 b3
     go_wp2_with (first|(refine wsr rfl 57 _ _ rfl (.pointer (some ⟨w.heap.size,0,none⟩)) (.agg #[.int .i64 r.k,.int .i64 0,.string (ofL r.t)]) rfl rfl hrun ?_))
     refine bodyPost_ret (v:=rdV r) (by simp[results,Tryz.results129,go_sem, *]) rfl ⟨by rw[HF.out],hb2⟩
  ·skip
   have HF:Hid (rd s.data.toList=rdW 2 s.data.toList):=by show _=_;unfold rd;rw[hh,h1,h2,if_neg (by simp),if_pos rfl]
   obtain⟨r,hr⟩:∃r,rdW 2 s.data.toList=r:=⟨_,rfl⟩
   rw[hr]at HF H2
   clear hr hh H1 H3 H4 H5
   go_enter Tryz.func129,Tryz.ntmps129
   go_wp2_with (first|(go_at_call 169;refine (y1d _ _).mono ?_;rintro e wq ⟨rfl,rfl⟩)|(go_at_call 153;refine (y0j _ _).mono ?_;rintro e wq ⟨rfl,rfl⟩))
   try rw[HE.out]
   refine H2.mono ?_
   rintro e W3 ⟨rfl,b3⟩
   obtain⟨W2,hrun,⟨k0,k1,k2⟩,hb2⟩:=HS.out r W3 b3
   clear H2 b3
   go_wp2_with (first|(refine wsr rfl 57 _ _ rfl (.pointer (some ⟨w.heap.size,0,none⟩)) (.agg #[.int .i64 r.k,.int .i64 0,.string (ofL r.t)]) rfl rfl hrun ?_))
   refine bodyPost_ret (v:=rdV r) (by simp[results,Tryz.results129,go_sem, *]) rfl ⟨by rw[HF.out],hb2⟩
 ·skip
  have HF:Hid (rd s.data.toList=rdW 1 s.data.toList):=by show _=_;unfold rd;rw[hh,h1,if_pos rfl]
  obtain⟨r,hr⟩:∃r,rdW 1 s.data.toList=r:=⟨_,rfl⟩
  rw[hr]at HF H1
  clear hr hh H2 H3 H4 H5
  go_enter Tryz.func129,Tryz.ntmps129
  go_wp2_with (first|(go_at_call 169;refine (y1d _ _).mono ?_;rintro e wq ⟨rfl,rfl⟩)|(go_at_call 153;refine (y0j _ _).mono ?_;rintro e wq ⟨rfl,rfl⟩))
  try rw[HE.out]
  refine H1.mono ?_
  rintro e W3 ⟨rfl,b3⟩
  obtain⟨W2,hrun,⟨k0,k1,k2⟩,hb2⟩:=HS.out r W3 b3
  clear H1 b3
  go_wp2_with (first|(refine wsr rfl 57 _ _ rfl (.pointer (some ⟨w.heap.size,0,none⟩)) (.agg #[.int .i64 r.k,.int .i64 0,.string (ofL r.t)]) rfl rfl hrun ?_))
  refine bodyPost_ret (v:=rdV r) (by simp[results,Tryz.results129,go_sem, *]) rfl ⟨by rw[HF.out],hb2⟩
end
section
open Go.RowKit Go.Shelf
theorem y4n (l p:jU):Lib.hasPrefix l p=(l.take p.length==p):=by
 unfold Lib.hasPrefix
 rw[Bool.eq_iff_iff,List.isPrefixOf_iff_prefix,List.prefix_iff_eq_take,beq_iff_eq]
 exact eq_comm
theorem prefix_long {l p:jU}(h:l.length<p.length):Lib.hasPrefix l p=false:=by
 rw[y4n,beq_eq_false_iff_ne]
 intro e
 have:=congrArg List.length e
 rw[List.length_take]at this
 omega
theorem beginsD_any (s p:ByteArray)(i:Nat)(w:World)(hi:i<=s.size)(hs:s.size<=2097154)(hp:p.size<=16):Calls Tryz.prog 177 #[.string s,.int .i64 (i:Nat),.string p] w fun e w'=>e=.returned (.bool (Lib.hasPrefix (s.data.toList.drop i) p.data.toList))∧w'=w:=by
 by_cases h:i+p.size<=s.size
 ·have HE:Hid (Lib.hasPrefix (s.data.toList.drop i) p.data.toList=((s.extract i (i+p.size)).toList==p.toList)):=by
   show _=_
   rw[y4n,Lib.toList_data,Lib.toList_data,Lib.extract_data,size_len,show i+p.size-i=p.size by omega]
  have h1:(p.size:Int)<=(s.size:Int)-(i:Int):=by omega
  have h2:¬((s.size:Int)-(i:Int)<(p.size:Int)):=by omega
  have h3:(i:Int)+(p.size:Int)<=(s.size:Int):=by omega
  go_enter Tryz.func177,Tryz.ntmps177
  go_wp2
  all_goals go_ret
  all_goals refine⟨y01 ?_,rfl⟩
  all_goals rw[HE.out]
 ·have HE:Hid (Lib.hasPrefix (s.data.toList.drop i) p.data.toList=false):=prefix_long (by rw[List.length_drop,size_len,size_len];omega)
  have h1:¬(p.size:Int)<=(s.size:Int)-(i:Int):=by omega
  have h2:((s.size:Int)-(i:Int)<(p.size:Int)):=by omega
  go_enter Tryz.func177,Tryz.ntmps177
  go_wp2
  all_goals go_ret
  all_goals refine⟨y01 ?_,rfl⟩
  all_goals rw[HE.out]
def mkL (l:jU):jU:=(mks.find? (fun m=>Lib.hasPrefix l m)).getD []
def mkF (ms:List jU)(l:jU):jU:=(ms.find? (fun m=>Lib.hasPrefix l m)).getD []
theorem y0z {m:jU}{ms:List jU}{l:jU}(h:Lib.hasPrefix l m=true):mkF (m::ms) l=m:=by
 unfold mkF;rw[List.find?_cons_of_pos h];rfl
theorem y1t {m:jU}{ms:List jU}{l:jU}(h:Lib.hasPrefix l m=false):mkF (m::ms) l=mkF ms l:=by
 unfold mkF;rw[List.find?_cons_of_neg (by simp[h])]
theorem rdM_mk (l:jU):rdM l=if mkL l=[] then badR 20 else ⟨4,mkL l,(mkL l).length,0⟩:=by
 unfold rdM mkL
 cases h:mks.find? (fun m=>Lib.hasPrefix l m) with
 | none=>simp
 | some m =>
  have hm:=List.mem_of_find?_eq_some h
  have:m≠[]:=by
   intro e
   subst e
   revert hm
   decide
  simp[this]
theorem mkL_len (l:jU):(mkL l).length<=16:=by
 unfold mkL
 cases h:mks.find? (fun m=>Lib.hasPrefix l m) with
 | none=>simp
 | some m =>
  have hm:=List.mem_of_find?_eq_some h
  have:∀m∈mks,m.length<=16:=by decide
  exact this m hm
set_option maxRecDepth 100000 in
theorem mark_any (s:ByteArray)(i:Nat)(w:World)(hi:i<=s.size)(hs:s.size<=2097154):Calls Tryz.prog 139 #[.string s,.int .i64 (i:Nat)] w fun e w'=>e=.returned (.string (ofL (mkL (s.data.toList.drop i))))∧Below w.heap.size w w':=by
 obtain⟨W1,h1⟩:∃X,w.alloc (.cells #[.string ⟨#[60,61,62]⟩,.string ⟨#[61,62]⟩,.string ⟨#[33,61]⟩,.string ⟨#[40]⟩,.string ⟨#[41]⟩,.string ⟨#[91]⟩,.string ⟨#[93]⟩,.string ⟨#[44]⟩,.string ⟨#[58]⟩,.string ⟨#[33]⟩,.string ⟨#[63]⟩,.string ⟨#[126]⟩,.string ⟨#[38]⟩,.string ⟨#[124]⟩,.string ⟨#[61]⟩] 9)=X:=⟨_,rfl⟩
 have HB:Hid (Below w.heap.size w W1):=by rw[<-h1];exact bbx _ _
 have hq:W1.heap[w.heap.size]? =some (.cells #[.string ⟨#[60,61,62]⟩,.string ⟨#[61,62]⟩,.string ⟨#[33,61]⟩,.string ⟨#[40]⟩,.string ⟨#[41]⟩,.string ⟨#[91]⟩,.string ⟨#[93]⟩,.string ⟨#[44]⟩,.string ⟨#[58]⟩,.string ⟨#[33]⟩,.string ⟨#[63]⟩,.string ⟨#[126]⟩,.string ⟨#[38]⟩,.string ⟨#[124]⟩,.string ⟨#[61]⟩] 9 (0,0)):=by rw[<-h1];exact (jH w _).1
 have HE:Hid (w.alloc (.cells #[.string ⟨#[60,61,62]⟩,.string ⟨#[61,62]⟩,.string ⟨#[33,61]⟩,.string ⟨#[40]⟩,.string ⟨#[41]⟩,.string ⟨#[91]⟩,.string ⟨#[93]⟩,.string ⟨#[44]⟩,.string ⟨#[58]⟩,.string ⟨#[33]⟩,.string ⟨#[63]⟩,.string ⟨#[126]⟩,.string ⟨#[38]⟩,.string ⟨#[124]⟩,.string ⟨#[61]⟩] 9)=W1):=h1
 have HC:Hid (∀(j:Nat) (v:Value),(#[.string ⟨#[60,61,62]⟩,.string ⟨#[61,62]⟩,.string ⟨#[33,61]⟩,.string ⟨#[40]⟩,.string ⟨#[41]⟩,.string ⟨#[91]⟩,.string ⟨#[93]⟩,.string ⟨#[44]⟩,.string ⟨#[58]⟩,.string ⟨#[33]⟩,.string ⟨#[63]⟩,.string ⟨#[126]⟩,.string ⟨#[38]⟩,.string ⟨#[124]⟩,.string ⟨#[61]⟩]:Array Value)[j]? =some v->W1.cell? ⟨w.heap.size,j,none⟩=some v):=fun j v hv=>y2b hq hv
 clear h1 hq
 have hc:=fun (p:ByteArray) (hp:p.size<=16) (W:World)=>beginsD_any s p i W hi hs hp
 go_enter Tryz.func139,Tryz.ntmps139
 go_wp2
 rw[HE.out]
 go_loopw [6] (fun vi wr=>∃j:Nat,vi=.int .i64 j∧j<=15∧wr=W1∧Hid (mkL (s.data.toList.drop i)=mkF (mks.drop j) (s.data.toList.drop i))) (fun vi _=>15-(intOf vi).toNat)
 case atStart=>exact⟨0,rfl,Nat.zero_le _,rfl,rfl⟩
 case round =>
  obtain⟨j,rfl,hj,rfl,HI⟩:=hrel
  have hj3:j=0∨j=1∨j=2∨j=3∨j=4∨j=5∨j=6∨j=7∨j=8∨j=9∨j=10∨j=11∨j=12∨j=13∨j=14∨j=15:=by omega
  rcases hj3 with rfl|rfl|rfl|rfl|rfl|rfl|rfl|rfl|rfl|rfl|rfl|rfl|rfl|rfl|rfl|rfl
  ·have q0:=HC.out 0 _ rfl
   have HJ:Hid (mkL (s.data.toList.drop i)=mkF ([60,61,62]::mks.drop 1) (s.data.toList.drop i)):=HI.out
   have hcj':Calls Tryz.prog 177 #[.string s,.int .i64 (i:Nat),.string ⟨#[60,61,62]⟩] wr fun e w'=>e=.returned (.bool (Lib.hasPrefix (s.data.toList.drop i) [60,61,62]))∧w'=wr:=hc ⟨#[60,61,62]⟩ (by decide) wr
   cases hx:Lib.hasPrefix (s.data.toList.drop i) [60,61,62]
   ·rw[hx]at hcj'
    have HK:Hid (mkL (s.data.toList.drop i)=mkF (mks.drop 1) (s.data.toList.drop i)):=by show _=_;rw[HJ.out,y1t hx]
    clear hc hx
    go_wp2_with fail
    refine hcj'.mono ?_
    rintro e W5 ⟨rfl,rfl⟩
    go_wp2
    go_roundw
    case rel=>exact⟨1,by go_num,by omega,by simp,HK.out⟩
    case measure=>simp[intOf]
   ·rw[hx]at hcj'
    have HF:Hid (mkL (s.data.toList.drop i)=[60,61,62]):=by show _=_;rw[HJ.out,y0z hx]
    clear hc hx
    go_wp2_with fail
    refine hcj'.mono ?_
    rintro e W5 ⟨rfl,rfl⟩
    go_wp2
    go_ret
    exact⟨y0o (by rw[HF.out];rfl),HB.out⟩
  ·have q0:=HC.out 1 _ rfl
   have HJ:Hid (mkL (s.data.toList.drop i)=mkF ([61,62]::mks.drop 2) (s.data.toList.drop i)):=HI.out
   have hcj':Calls Tryz.prog 177 #[.string s,.int .i64 (i:Nat),.string ⟨#[61,62]⟩] wr fun e w'=>e=.returned (.bool (Lib.hasPrefix (s.data.toList.drop i) [61,62]))∧w'=wr:=hc ⟨#[61,62]⟩ (by decide) wr
   cases hx:Lib.hasPrefix (s.data.toList.drop i) [61,62]
   ·rw[hx]at hcj'
    have HK:Hid (mkL (s.data.toList.drop i)=mkF (mks.drop 2) (s.data.toList.drop i)):=by show _=_;rw[HJ.out,y1t hx]
    clear hc hx
    go_wp2_with fail
    refine hcj'.mono ?_
    rintro e W5 ⟨rfl,rfl⟩
    go_wp2
    go_roundw
    case rel=>exact⟨2,by go_num,by omega,by simp,HK.out⟩
    case measure=>simp[intOf]
   ·rw[hx]at hcj'
    have HF:Hid (mkL (s.data.toList.drop i)=[61,62]):=by show _=_;rw[HJ.out,y0z hx]
    clear hc hx
    go_wp2_with fail
    refine hcj'.mono ?_
    rintro e W5 ⟨rfl,rfl⟩
    go_wp2
    go_ret
    exact⟨y0o (by rw[HF.out];rfl),HB.out⟩
  ·have q0:=HC.out 2 _ rfl
   have HJ:Hid (mkL (s.data.toList.drop i)=mkF ([33,61]::mks.drop 3) (s.data.toList.drop i)):=HI.out
   have hcj':Calls Tryz.prog 177 #[.string s,.int .i64 (i:Nat),.string ⟨#[33,61]⟩] wr fun e w'=>e=.returned (.bool (Lib.hasPrefix (s.data.toList.drop i) [33,61]))∧w'=wr:=hc ⟨#[33,61]⟩ (by decide) wr
   cases hx:Lib.hasPrefix (s.data.toList.drop i) [33,61]
   ·rw[hx]at hcj'
    have HK:Hid (mkL (s.data.toList.drop i)=mkF (mks.drop 3) (s.data.toList.drop i)):=by show _=_;rw[HJ.out,y1t hx]
    clear hc hx
    go_wp2_with fail
    refine hcj'.mono ?_
    rintro e W5 ⟨rfl,rfl⟩
    go_wp2
    go_roundw
    case rel=>exact⟨3,by go_num,by omega,by simp,HK.out⟩
    case measure=>simp[intOf]
   ·rw[hx]at hcj'
    have HF:Hid (mkL (s.data.toList.drop i)=[33,61]):=by show _=_;rw[HJ.out,y0z hx]
    clear hc hx
    go_wp2_with fail
    refine hcj'.mono ?_
    rintro e W5 ⟨rfl,rfl⟩
    go_wp2
    go_ret
    exact⟨y0o (by rw[HF.out];rfl),HB.out⟩
  ·have q0:=HC.out 3 _ rfl
   have HJ:Hid (mkL (s.data.toList.drop i)=mkF ([40]::mks.drop 4) (s.data.toList.drop i)):=HI.out
   have hcj':Calls Tryz.prog 177 #[.string s,.int .i64 (i:Nat),.string ⟨#[40]⟩] wr fun e w'=>e=.returned (.bool (Lib.hasPrefix (s.data.toList.drop i) [40]))∧w'=wr:=hc ⟨#[40]⟩ (by decide) wr
   cases hx:Lib.hasPrefix (s.data.toList.drop i) [40]
   ·rw[hx]at hcj'
    have HK:Hid (mkL (s.data.toList.drop i)=mkF (mks.drop 4) (s.data.toList.drop i)):=by show _=_;rw[HJ.out,y1t hx]
    clear hc hx
    go_wp2_with fail
    refine hcj'.mono ?_
    rintro e W5 ⟨rfl,rfl⟩
    go_wp2
    go_roundw
    case rel=>exact⟨4,by go_num,by omega,by simp,HK.out⟩
    case measure=>simp[intOf]
   ·rw[hx]at hcj'
    have HF:Hid (mkL (s.data.toList.drop i)=[40]):=by show _=_;rw[HJ.out,y0z hx]
    clear hc hx
    go_wp2_with fail
    refine hcj'.mono ?_
    rintro e W5 ⟨rfl,rfl⟩
    go_wp2
    go_ret
    exact⟨y0o (by rw[HF.out];rfl),HB.out⟩
  ·have q0:=HC.out 4 _ rfl
   have HJ:Hid (mkL (s.data.toList.drop i)=mkF ([41]::mks.drop 5) (s.data.toList.drop i)):=HI.out
   have hcj':Calls Tryz.prog 177 #[.string s,.int .i64 (i:Nat),.string ⟨#[41]⟩] wr fun e w'=>e=.returned (.bool (Lib.hasPrefix (s.data.toList.drop i) [41]))∧w'=wr:=hc ⟨#[41]⟩ (by decide) wr
   cases hx:Lib.hasPrefix (s.data.toList.drop i) [41]
   ·rw[hx]at hcj'
    have HK:Hid (mkL (s.data.toList.drop i)=mkF (mks.drop 5) (s.data.toList.drop i)):=by show _=_;rw[HJ.out,y1t hx]
    clear hc hx
    go_wp2_with fail
    refine hcj'.mono ?_
    rintro e W5 ⟨rfl,rfl⟩
    go_wp2
    go_roundw
    case rel=>exact⟨5,by go_num,by omega,by simp,HK.out⟩
    case measure=>simp[intOf]
   ·rw[hx]at hcj'
    have HF:Hid (mkL (s.data.toList.drop i)=[41]):=by show _=_;rw[HJ.out,y0z hx]
    clear hc hx
    go_wp2_with fail
    refine hcj'.mono ?_
    rintro e W5 ⟨rfl,rfl⟩
    go_wp2
    go_ret
    exact⟨y0o (by rw[HF.out];rfl),HB.out⟩
  ·have q0:=HC.out 5 _ rfl
   have HJ:Hid (mkL (s.data.toList.drop i)=mkF ([91]::mks.drop 6) (s.data.toList.drop i)):=HI.out
   have hcj':Calls Tryz.prog 177 #[.string s,.int .i64 (i:Nat),.string ⟨#[91]⟩] wr fun e w'=>e=.returned (.bool (Lib.hasPrefix (s.data.toList.drop i) [91]))∧w'=wr:=hc ⟨#[91]⟩ (by decide) wr
   cases hx:Lib.hasPrefix (s.data.toList.drop i) [91]
   ·rw[hx]at hcj'
    have HK:Hid (mkL (s.data.toList.drop i)=mkF (mks.drop 6) (s.data.toList.drop i)):=by show _=_;rw[HJ.out,y1t hx]
    clear hc hx
    go_wp2_with fail
    refine hcj'.mono ?_
    rintro e W5 ⟨rfl,rfl⟩
    go_wp2
    go_roundw
    case rel=>exact⟨6,by go_num,by omega,by simp,HK.out⟩
    case measure=>simp[intOf]
   ·rw[hx]at hcj'
    have HF:Hid (mkL (s.data.toList.drop i)=[91]):=by show _=_;rw[HJ.out,y0z hx]
    clear hc hx
    go_wp2_with fail
    refine hcj'.mono ?_
    rintro e W5 ⟨rfl,rfl⟩
    go_wp2
    go_ret
    exact⟨y0o (by rw[HF.out];rfl),HB.out⟩
  ·have q0:=HC.out 6 _ rfl
   have HJ:Hid (mkL (s.data.toList.drop i)=mkF ([93]::mks.drop 7) (s.data.toList.drop i)):=HI.out
   have hcj':Calls Tryz.prog 177 #[.string s,.int .i64 (i:Nat),.string ⟨#[93]⟩] wr fun e w'=>e=.returned (.bool (Lib.hasPrefix (s.data.toList.drop i) [93]))∧w'=wr:=hc ⟨#[93]⟩ (by decide) wr
   cases hx:Lib.hasPrefix (s.data.toList.drop i) [93]
   ·rw[hx]at hcj'
    have HK:Hid (mkL (s.data.toList.drop i)=mkF (mks.drop 7) (s.data.toList.drop i)):=by show _=_;rw[HJ.out,y1t hx]
    clear hc hx
    go_wp2_with fail
    refine hcj'.mono ?_
    rintro e W5 ⟨rfl,rfl⟩
    go_wp2
    go_roundw
    case rel=>exact⟨7,by go_num,by omega,by simp,HK.out⟩
    case measure=>simp[intOf]
   ·rw[hx]at hcj'
    have HF:Hid (mkL (s.data.toList.drop i)=[93]):=by show _=_;rw[HJ.out,y0z hx]
    clear hc hx
    go_wp2_with fail
    refine hcj'.mono ?_
    rintro e W5 ⟨rfl,rfl⟩
    go_wp2
    go_ret
    exact⟨y0o (by rw[HF.out];rfl),HB.out⟩
  ·have q0:=HC.out 7 _ rfl
   have HJ:Hid (mkL (s.data.toList.drop i)=mkF ([44]::mks.drop 8) (s.data.toList.drop i)):=HI.out
   have hcj':Calls Tryz.prog 177 #[.string s,.int .i64 (i:Nat),.string ⟨#[44]⟩] wr fun e w'=>e=.returned (.bool (Lib.hasPrefix (s.data.toList.drop i) [44]))∧w'=wr:=hc ⟨#[44]⟩ (by decide) wr
   cases hx:Lib.hasPrefix (s.data.toList.drop i) [44]
   ·rw[hx]at hcj'
    have HK:Hid (mkL (s.data.toList.drop i)=mkF (mks.drop 8) (s.data.toList.drop i)):=by show _=_;rw[HJ.out,y1t hx]
    clear hc hx
    go_wp2_with fail
    refine hcj'.mono ?_
    rintro e W5 ⟨rfl,rfl⟩
    go_wp2
    go_roundw
    case rel=>exact⟨8,by go_num,by omega,by simp,HK.out⟩
    case measure=>simp[intOf]
   ·rw[hx]at hcj'
    have HF:Hid (mkL (s.data.toList.drop i)=[44]):=by show _=_;rw[HJ.out,y0z hx]
    clear hc hx
    go_wp2_with fail
    refine hcj'.mono ?_
    rintro e W5 ⟨rfl,rfl⟩
    go_wp2
    go_ret
    exact⟨y0o (by rw[HF.out];rfl),HB.out⟩
  ·have q0:=HC.out 8 _ rfl
   have HJ:Hid (mkL (s.data.toList.drop i)=mkF ([58]::mks.drop 9) (s.data.toList.drop i)):=HI.out
   have hcj':Calls Tryz.prog 177 #[.string s,.int .i64 (i:Nat),.string ⟨#[58]⟩] wr fun e w'=>e=.returned (.bool (Lib.hasPrefix (s.data.toList.drop i) [58]))∧w'=wr:=hc ⟨#[58]⟩ (by decide) wr
   cases hx:Lib.hasPrefix (s.data.toList.drop i) [58]
   ·rw[hx]at hcj'
    have HK:Hid (mkL (s.data.toList.drop i)=mkF (mks.drop 9) (s.data.toList.drop i)):=by show _=_;rw[HJ.out,y1t hx]
    clear hc hx
    go_wp2_with fail
    refine hcj'.mono ?_
    rintro e W5 ⟨rfl,rfl⟩
    go_wp2
    go_roundw
    case rel=>exact⟨9,by go_num,by omega,by simp,HK.out⟩
    case measure=>simp[intOf]
   ·rw[hx]at hcj'
    have HF:Hid (mkL (s.data.toList.drop i)=[58]):=by show _=_;rw[HJ.out,y0z hx]
    clear hc hx
    go_wp2_with fail
    refine hcj'.mono ?_
    rintro e W5 ⟨rfl,rfl⟩
    go_wp2
    go_ret
    exact⟨y0o (by rw[HF.out];rfl),HB.out⟩
  ·have q0:=HC.out 9 _ rfl
   have HJ:Hid (mkL (s.data.toList.drop i)=mkF ([33]::mks.drop 10) (s.data.toList.drop i)):=HI.out
   have hcj':Calls Tryz.prog 177 #[.string s,.int .i64 (i:Nat),.string ⟨#[33]⟩] wr fun e w'=>e=.returned (.bool (Lib.hasPrefix (s.data.toList.drop i) [33]))∧w'=wr:=hc ⟨#[33]⟩ (by decide) wr
   cases hx:Lib.hasPrefix (s.data.toList.drop i) [33]
   ·rw[hx]at hcj'
    have HK:Hid (mkL (s.data.toList.drop i)=mkF (mks.drop 10) (s.data.toList.drop i)):=by show _=_;rw[HJ.out,y1t hx]
    clear hc hx
    go_wp2_with fail
    refine hcj'.mono ?_
    rintro e W5 ⟨rfl,rfl⟩
    go_wp2
    go_roundw
    case rel=>exact⟨10,by go_num,by omega,by simp,HK.out⟩
    case measure=>simp[intOf]
   ·rw[hx]at hcj'
    have HF:Hid (mkL (s.data.toList.drop i)=[33]):=by show _=_;rw[HJ.out,y0z hx]
    clear hc hx
    go_wp2_with fail
    refine hcj'.mono ?_
    rintro e W5 ⟨rfl,rfl⟩
    go_wp2
    go_ret
    exact⟨y0o (by rw[HF.out];rfl),HB.out⟩
  ·have q0:=HC.out 10 _ rfl
   have HJ:Hid (mkL (s.data.toList.drop i)=mkF ([63]::mks.drop 11) (s.data.toList.drop i)):=HI.out
   have hcj':Calls Tryz.prog 177 #[.string s,.int .i64 (i:Nat),.string ⟨#[63]⟩] wr fun e w'=>e=.returned (.bool (Lib.hasPrefix (s.data.toList.drop i) [63]))∧w'=wr:=hc ⟨#[63]⟩ (by decide) wr
   cases hx:Lib.hasPrefix (s.data.toList.drop i) [63]
   ·rw[hx]at hcj'
    have HK:Hid (mkL (s.data.toList.drop i)=mkF (mks.drop 11) (s.data.toList.drop i)):=by show _=_;rw[HJ.out,y1t hx]
    clear hc hx
    go_wp2_with fail
    refine hcj'.mono ?_
    rintro e W5 ⟨rfl,rfl⟩
    go_wp2
    go_roundw
    case rel=>exact⟨11,by go_num,by omega,by simp,HK.out⟩
    case measure=>simp[intOf]
   ·rw[hx]at hcj'
    have HF:Hid (mkL (s.data.toList.drop i)=[63]):=by show _=_;rw[HJ.out,y0z hx]
    clear hc hx
    go_wp2_with fail
    refine hcj'.mono ?_
    rintro e W5 ⟨rfl,rfl⟩
    go_wp2
    go_ret
    exact⟨y0o (by rw[HF.out];rfl),HB.out⟩
  ·have q0:=HC.out 11 _ rfl
   have HJ:Hid (mkL (s.data.toList.drop i)=mkF ([126]::mks.drop 12) (s.data.toList.drop i)):=HI.out
   have hcj':Calls Tryz.prog 177 #[.string s,.int .i64 (i:Nat),.string ⟨#[126]⟩] wr fun e w'=>e=.returned (.bool (Lib.hasPrefix (s.data.toList.drop i) [126]))∧w'=wr:=hc ⟨#[126]⟩ (by decide) wr
   cases hx:Lib.hasPrefix (s.data.toList.drop i) [126]
   ·rw[hx]at hcj'
    have HK:Hid (mkL (s.data.toList.drop i)=mkF (mks.drop 12) (s.data.toList.drop i)):=by show _=_;rw[HJ.out,y1t hx]
    clear hc hx
    go_wp2_with fail
    refine hcj'.mono ?_
    rintro e W5 ⟨rfl,rfl⟩
    go_wp2
    go_roundw
    case rel=>exact⟨12,by go_num,by omega,by simp,HK.out⟩
    case measure=>simp[intOf]
   ·rw[hx]at hcj'
    have HF:Hid (mkL (s.data.toList.drop i)=[126]):=by show _=_;rw[HJ.out,y0z hx]
    clear hc hx
    go_wp2_with fail
    refine hcj'.mono ?_
    rintro e W5 ⟨rfl,rfl⟩
    go_wp2
    go_ret
    exact⟨y0o (by rw[HF.out];rfl),HB.out⟩
  ·have q0:=HC.out 12 _ rfl
   have HJ:Hid (mkL (s.data.toList.drop i)=mkF ([38]::mks.drop 13) (s.data.toList.drop i)):=HI.out
   have hcj':Calls Tryz.prog 177 #[.string s,.int .i64 (i:Nat),.string ⟨#[38]⟩] wr fun e w'=>e=.returned (.bool (Lib.hasPrefix (s.data.toList.drop i) [38]))∧w'=wr:=hc ⟨#[38]⟩ (by decide) wr
   cases hx:Lib.hasPrefix (s.data.toList.drop i) [38]
   ·rw[hx]at hcj'
    have HK:Hid (mkL (s.data.toList.drop i)=mkF (mks.drop 13) (s.data.toList.drop i)):=by show _=_;rw[HJ.out,y1t hx]
    clear hc hx
    go_wp2_with fail
    refine hcj'.mono ?_
    rintro e W5 ⟨rfl,rfl⟩
    go_wp2
    go_roundw
    case rel=>exact⟨13,by go_num,by omega,by simp,HK.out⟩
    case measure=>simp[intOf]
   ·rw[hx]at hcj'
    have HF:Hid (mkL (s.data.toList.drop i)=[38]):=by show _=_;rw[HJ.out,y0z hx]
    clear hc hx
    go_wp2_with fail
    refine hcj'.mono ?_
    rintro e W5 ⟨rfl,rfl⟩
    go_wp2
    go_ret
    exact⟨y0o (by rw[HF.out];rfl),HB.out⟩
  ·have q0:=HC.out 13 _ rfl
   have HJ:Hid (mkL (s.data.toList.drop i)=mkF ([124]::mks.drop 14) (s.data.toList.drop i)):=HI.out
   have hcj':Calls Tryz.prog 177 #[.string s,.int .i64 (i:Nat),.string ⟨#[124]⟩] wr fun e w'=>e=.returned (.bool (Lib.hasPrefix (s.data.toList.drop i) [124]))∧w'=wr:=hc ⟨#[124]⟩ (by decide) wr
   cases hx:Lib.hasPrefix (s.data.toList.drop i) [124]
   ·rw[hx]at hcj'
    have HK:Hid (mkL (s.data.toList.drop i)=mkF (mks.drop 14) (s.data.toList.drop i)):=by show _=_;rw[HJ.out,y1t hx]
    clear hc hx
    go_wp2_with fail
    refine hcj'.mono ?_
    rintro e W5 ⟨rfl,rfl⟩
    go_wp2
    go_roundw
    case rel=>exact⟨14,by go_num,by omega,by simp,HK.out⟩
    case measure=>simp[intOf]
   ·rw[hx]at hcj'
    have HF:Hid (mkL (s.data.toList.drop i)=[124]):=by show _=_;rw[HJ.out,y0z hx]
    clear hc hx
    go_wp2_with fail
    refine hcj'.mono ?_
    rintro e W5 ⟨rfl,rfl⟩
    go_wp2
    go_ret
    exact⟨y0o (by rw[HF.out];rfl),HB.out⟩
  ·have q0:=HC.out 14 _ rfl
   have HJ:Hid (mkL (s.data.toList.drop i)=mkF ([61]::mks.drop 15) (s.data.toList.drop i)):=HI.out
   have hcj':Calls Tryz.prog 177 #[.string s,.int .i64 (i:Nat),.string ⟨#[61]⟩] wr fun e w'=>e=.returned (.bool (Lib.hasPrefix (s.data.toList.drop i) [61]))∧w'=wr:=hc ⟨#[61]⟩ (by decide) wr
   cases hx:Lib.hasPrefix (s.data.toList.drop i) [61]
   ·rw[hx]at hcj'
    have HK:Hid (mkL (s.data.toList.drop i)=mkF (mks.drop 15) (s.data.toList.drop i)):=by show _=_;rw[HJ.out,y1t hx]
    clear hc hx
    go_wp2_with fail
    refine hcj'.mono ?_
    rintro e W5 ⟨rfl,rfl⟩
    go_wp2
    go_roundw
    case rel=>exact⟨15,by go_num,by omega,by simp,HK.out⟩
    case measure=>simp[intOf]
   ·rw[hx]at hcj'
    have HF:Hid (mkL (s.data.toList.drop i)=[61]):=by show _=_;rw[HJ.out,y0z hx]
    clear hc hx
    go_wp2_with fail
    refine hcj'.mono ?_
    rintro e W5 ⟨rfl,rfl⟩
    go_wp2
    go_ret
    exact⟨y0o (by rw[HF.out];rfl),HB.out⟩
  ·have HF:Hid (mkL (s.data.toList.drop i)=[]):=by show _=_;rw[HI.out];rfl
   clear hc
   go_wp2
   go_ret
   exact⟨y0o (by rw[HF.out];rfl),HB.out⟩
end
section
open Go.RowKit Go.Shelf
theorem conv_one (W:World)(c:UInt8):(convert 70 9 (.slice (some ⟨W.heap.size,0,none⟩) 1 1)).run Tryz.prog (W.alloc (.cells #[.int .u8 (c.toNat:Int)] 5))=.ok (.string ⟨#[c]⟩) (W.alloc (.cells #[.int .u8 (c.toNat:Int)] 5)):=by
 refine run_convert_bytes_back (P:=Tryz.prog) _ 70 9 5 ⟨W.heap.size,0,none⟩ 1 [c] Tryz.underlying70 Tryz.underlying5 Tryz.underlying9 (fun j hj=>?_)
 match j,hj with
 | 0,_ =>
  rw[show ((⟨W.heap.size,0,none⟩:Addr).add 0)=⟨W.heap.size,0,none⟩ from rfl,World.cell?_alloc_new]
  rfl
def quV (o:Option (jU × Nat)):Value:=match o with
 | none=>.tuple #[.string ⟨#[]⟩,.int .i64 0,.bool false]
 | some p=>.tuple #[.string (ofL p.1),.int .i64 (p.2:Nat),.bool true]
def qo (acc:jU)(k:Nat)(o:Option (jU × Nat)):Option (jU × Nat):=o.map fun p=>(acc++p.1,k+p.2)
theorem qo_map (acc:jU)(k d:Nat)(c:UInt8)(o:Option (jU × Nat)):qo acc k (o.map fun p=>(c::p.1,p.2+d))=qo (acc++[c]) (k+d) o:=by
 cases o with
 | none=>rfl
 | some p=>simp[qo];omega
set_option maxRecDepth 100000 in
theorem quoted_any (s:ByteArray)(i:Nat)(w:World)(hi:i<s.size)(hs:s.size<=2097154):Calls Tryz.prog 138 #[.string s,.int .i64 (i:Nat)] w fun e w'=>e=.returned (quV (qo [] (i+1) (qs (s.data.toList.drop (i+1)))))∧Below w.heap.size w w':=by
 have HI0:Hid (i<s.size):=hi
 obtain⟨R,hR⟩:∃R,qo [] (i+1) (qs (s.data.toList.drop (i+1)))=R:=⟨_,rfl⟩
 have HR:Hid (qo [] (i+1) (qs (s.data.toList.drop (i+1)))=R):=hR
 rw[hR]
 clear hR
 go_enter Tryz.func138,Tryz.ntmps138
 go_wp2
 clear hi
 go_loopw [7,8] (fun vu vi wr=>∃(u:ByteArray) (k:Nat),vu=.string u∧vi=.int .i64 k∧k<=s.size∧u.size<=k∧Hid (qo u.data.toList k (qs (s.data.toList.drop k))=R)∧Hid (Below w.heap.size w wr)) (fun _ vi _=>s.size-(intOf vi).toNat)
 case atStart=>exact⟨⟨#[]⟩,i+1,rfl,by go_num,HI0.out,Nat.zero_le _,HR.out,Below.refl _ _⟩
 case round =>
  obtain⟨u,k,rfl,rfl,hk,hu,HI,HB⟩:=hrel
  clear HR HI0
  have HAp:Hid (∀c:UInt8,(u++(⟨#[c]⟩:ByteArray)).data.toList=u.data.toList++[c]):=fun c=>app_one u c
  have HAs:Hid (∀c:UInt8,(u++(⟨#[c]⟩:ByteArray)).size=u.size+1):=fun c=>by rw[<-size_len,app_one];simp[]
  by_cases hlt:k<s.size
  ·have HD:Hid (s.data.toList.drop k=s[k]::s.data.toList.drop (k+1)):=y0f s k hlt
   by_cases h1:s[k]=39
   ·have g1:((s[k].toNat:Int)==39)=true:=u8_eq (k:=39) rfl h1
    have HF:Hid (R=some (u.data.toList,k+1)):=by show _=_;rw[<-HI.out,HD.out,h1,qs_end];simp[qo]
    clear h1
    go_wp2
    refine bodyPost_ret (v:=.tuple #[.string u,.int .i64 ((k:Int)+1),.bool true]) (by simp[results,Tryz.results138,go_sem]) rfl ⟨?_,HB.out⟩
    rw[HF.out];simp[quV,ofL_self]
   ·have g1:((s[k].toNat:Int)==39)=false:=u8_ne (k:=39) rfl h1
    by_cases h3:s[k]=92
    ·have g3:((s[k].toNat:Int)==92)=true:=u8_eq (k:=92) rfl h3
     by_cases hl2:k+1<s.size
     ·have HD2:Hid (s.data.toList.drop (k+1)=s[k+1]::s.data.toList.drop (k+1+1)):=y0f s (k+1) hl2
      have hE:¬((s.size:Int)<=(k:Int)+1):=by omega
      cases h4:esB s[k+1].toNat
      ·have HF:Hid (R=none):=by show _=_;rw[<-HI.out,HD.out,h3,HD2.out,y4k _ h4];rfl
       have e1:¬(s[k+1].toNat:Int)=39:=by unfold esB at h4;simp at h4;simpa using h4.1
       have e2:¬(s[k+1].toNat:Int)=92:=by unfold esB at h4;simp at h4;simpa using h4.2
       have n1:((s[k+1].toNat:Int) != 39)=true:=by simpa using e1
       have n2:((s[k+1].toNat:Int) != 92)=true:=by simpa using e2
       clear e1 e2
       clear h1 h3 h4
       go_wp2
       refine bodyPost_ret (v:=.tuple #[.string ⟨#[]⟩,.int .i64 0,.bool false]) (by simp[results,Tryz.results138,go_sem]) rfl ⟨?_,HB.out⟩
       rw[HF.out];rfl
      ·have HF:Hid (qo (u.data.toList++[s[k+1]]) (k+2) (qs (s.data.toList.drop (k+2)))=R):=by show _=_;rw[<-HI.out,HD.out,h3,HD2.out,qs_esc _ h4,qo_map]
       by_cases e1:s[k+1]=39
       ·have e1':(s[k+1].toNat:Int)=39:=by rw[e1];rfl
        have hcv:(convert 70 9 (.slice (some ⟨wr.heap.size,0,none⟩) 1 1)).run Tryz.prog (wr.alloc (.cells #[.int .u8 39] 5))=.ok (.string ⟨#[39]⟩) (wr.alloc (.cells #[.int .u8 39] 5)):=conv_one wr 39
        rw[e1]at HF
        clear h1 h3 h4 e1
        go_wp2
        go_roundw
        case rel=>exact⟨_,k+2,rfl,by go_num,by omega,by rw[HAs.out];omega,by show _=_;rw[HAp.out];exact HF.out,HB.out.alloc HB.out.size _⟩
        case measure=>simp[intOf];omega
       ·have e2:s[k+1]=92:=by
         unfold esB at h4
         have q:((s[k+1].toNat:Int)==39)=false:=u8_ne (k:=39) rfl e1
         rw[q,Bool.false_or]at h4
         exact UInt8.toNat_inj.1 (by have:=eq_of_beq h4;show s[k+1].toNat=92;omega)
        have e2':(s[k+1].toNat:Int)=92:=by rw[e2];rfl
        have hcv:(convert 70 9 (.slice (some ⟨wr.heap.size,0,none⟩) 1 1)).run Tryz.prog (wr.alloc (.cells #[.int .u8 92] 5))=.ok (.string ⟨#[92]⟩) (wr.alloc (.cells #[.int .u8 92] 5)):=conv_one wr 92
        rw[e2]at HF
        clear h1 h3 h4 e1 e2
        go_wp2
        go_roundw
        case rel=>exact⟨_,k+2,rfl,by go_num,by omega,by rw[HAs.out];omega,by show _=_;rw[HAp.out];exact HF.out,HB.out.alloc HB.out.size _⟩
        case measure=>simp[intOf];omega
     ·have hE:((s.size:Int)<=(k:Int)+1):=by omega
      have HF:Hid (R=none):=by show _=_;rw[<-HI.out,HD.out,h3,y0s s (k+1) (by omega),y3e];rfl
      clear h1 h3
      go_wp2
      refine bodyPost_ret (v:=.tuple #[.string ⟨#[]⟩,.int .i64 0,.bool false]) (by simp[results,Tryz.results138,go_sem]) rfl ⟨?_,HB.out⟩
      rw[HF.out];rfl
    ·have g3:((s[k].toNat:Int)==92)=false:=u8_ne (k:=92) rfl h3
     cases h2:prB s[k].toNat
     ·have HF:Hid (R=none):=by show _=_;rw[<-HI.out,HD.out,qs_bad _ h1 h2];rfl
      by_cases p1:(s[k].toNat:Int)<32
      ·clear h1 h3 h2
       go_wp2
       refine bodyPost_ret (v:=.tuple #[.string ⟨#[]⟩,.int .i64 0,.bool false]) (by simp[results,Tryz.results138,go_sem]) rfl ⟨?_,HB.out⟩
       rw[HF.out];rfl
      ·have p2:126<(s[k].toNat:Int):=by unfold prB at h2;simp at h2;omega
       clear h1 h3 h2
       go_wp2
       refine bodyPost_ret (v:=.tuple #[.string ⟨#[]⟩,.int .i64 0,.bool false]) (by simp[results,Tryz.results138,go_sem]) rfl ⟨?_,HB.out⟩
       rw[HF.out];rfl
     ·have HF:Hid (qo (u.data.toList++[s[k]]) (k+1) (qs (s.data.toList.drop (k+1)))=R):=by show _=_;rw[<-HI.out,HD.out,qs_one _ h1 h2 h3,qo_map]
      have p1:¬((s[k].toNat:Int)<32):=by unfold prB at h2;simp at h2;omega
      have p2:¬(126<(s[k].toNat:Int)):=by unfold prB at h2;simp at h2;omega
      have hcv:=conv_one wr s[k]
      clear h1 h3 h2
      go_wp2
      go_roundw
      case rel=>exact⟨_,k+1,rfl,by go_num,by omega,by rw[HAs.out];omega,by show _=_;rw[HAp.out];exact HF.out,HB.out.alloc HB.out.size _⟩
      case measure=>simp[intOf];omega
  ·have HF:Hid (R=none):=by show _=_;rw[<-HI.out,y0s s k (by omega),qs_nil];rfl
   go_wp2
   refine bodyPost_ret (v:=.tuple #[.string ⟨#[]⟩,.int .i64 0,.bool false]) (by simp[results,Tryz.results138,go_sem]) rfl ⟨?_,HB.out⟩
   rw[HF.out];rfl
end
