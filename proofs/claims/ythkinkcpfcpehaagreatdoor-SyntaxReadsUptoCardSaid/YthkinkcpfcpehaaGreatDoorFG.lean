import Derived.Test.YthkinkcpfcpehaaGreatDoorZS
import Derived.Test.YthkinkcpfcpehaaGreatDoorHO
namespace Go.Proofs.YthkinkcpfcpehaaGreatDoor
set_option maxRecDepth 100000
set_option maxHeartbeats 8000000
section
open Go.RowKit
def SoF (g:Nat)(P:Nat->Prop)(p:Fm->Bool)(w:World)(l:List Fm):Prop:=
 ∀a∈l,∀(sl sr sk:Value) (W:World),Below w.heap.size w W->FmP P W a sl sr sk->Calls Tryz.prog g #[fval a sl sr sk] W fun e w'=>e=.returned (.bool (p a))∧Below W.heap.size W w'
theorem gnotso_any {P:Nat->Prop}{p:Fm->Bool}{w W:World}{l:List Fm}(hg:SoF 41 P p w l)(hb:Below w.heap.size w W){C:Nat}(hC:W.heap[C]? =some (.cells #[.func (.func 41) #[] #[]] 36 (0,0))){a:Fm}(ha:a∈l){sl sr sk:Value}(hs:FmP P W a sl sr sk) :
  Calls Tryz.prog 102 #[fval a sl sr sk,.pointer (some ⟨C,0,none⟩)] W fun e w'=>e=.returned (.bool (!p a))∧Below W.heap.size W w':=by
 have hb0:=bbx W (fbox a sl sr sk)
 have hsz:=hb0.size
 have hc:=hg a ha sl sr sk (W.alloc (fbox a sl sr sk)) (hb.trans (hb0.mono hb.size)) (hs.grow hb0)
 have x0:W.cell? ⟨C,0,none⟩=some (.func (.func 41) #[] #[]):=csR (vs:=[_]) hC rfl
 have hCl:C<W.heap.size:=(jG hC).1
 obtain⟨la,lc,rfl,_,_⟩:=hs.l.slice'
 obtain⟨ra,rc,rfl,_,_⟩:=hs.r.slice'
 obtain⟨ka,kc',rfl,_,_⟩:=hs.k.slice
 obtain⟨b,hpb⟩:∃b,p a=b:=⟨_,rfl⟩
 rw[hpb]at hc ⊢
 have H0:=hidR hb0
 clear hg hb hC hs hb0 hpb
 go_enter Tryz.func102,Tryz.ntmps102
 go_wp2_with fail
 refine hc.mono ?_
 rintro e W1 ⟨rfl,h1⟩
 have H1:=hidR h1
 clear hc h1
 go_wp2
 go_ret
 exact⟨rfl,H0.out.trans (H1.out.mono hsz)⟩
theorem gindex_any {P:Nat->Prop}{p:Fm->Bool}{w W:World}{l:List Fm}(hg:SoF 41 P p w l)(hb:Below w.heap.size w W){C:Nat}(hC:W.heap[C]? =some (.cells #[.func (.func 41) #[] #[]] 36 (0,0))){sk:Value}(hs:KidsP P W sk l) :
  Calls Tryz.prog 120 #[sk,.func (.func 102) #[] #[.pointer (some ⟨C,0,none⟩)]] W fun e w'=>(∃r:Int,e=.returned (.int .i64 r)∧decide (0<=r) = !l.all p)∧Below W.heap.size W w':=by
 obtain⟨a,c,rfl,hlc,hcm⟩:=hs.slice
 have hcm':c<=9223372036854775807:=by unfold maxLen at hcm;omega
 have HS:=hidR hs
 have HG:=hidR hg
 have HB:=hidR hb
 have HC:=hidR hC
 have hnl:l.length<=9223372036854775807:=by omega
 obtain⟨n,hn⟩:∃n,l.length=n:=⟨_,rfl⟩
 clear hs hg hcm hb hC
 rw[hn]
 rw[hn]at HS hlc hnl
 go_enter Tryz.func120,Tryz.ntmps120
 go_wp2
 go_loopw [8] (fun vi wr=>∃i:Nat,vi=.int .i64 i∧i<=n∧Hid (Below W.heap.size W wr∧(l.take i).all p=true)) (fun vi _=>n-(intOf vi).toNat)
 case atStart=>exact⟨0,rfl,Nat.zero_le _,Below.refl _ _,rfl⟩
 case round =>
  obtain⟨i,rfl,hi,HI⟩:=hrel
  by_cases hlt:i<n
  ·have hil:i<l.length:=by omega
   have hsr:=HS.out.grow HI.out.1
   obtain⟨b,o,sl,sr,sk,rfl,_,hlt2,⟨y0,y1,⟨y2,y3,y4⟩,⟨y5,y6,y7⟩,y8⟩,hss⟩:=hsr.nth hil
   have hc:=gnotso_any HG.out (HB.out.trans (HI.out.1.mono HB.out.size)) ((HI.out.1.block C (jG HC.out).1).trans HC.out) (List.getElem_mem hil) hss
   have HT:Hid ((l.take (i+1)).all p=p l[i]):=by
    show _=_
    rw[List.take_succ_eq_append_getElem hil,List.all_append,HI.out.2]
    simp
   have HL:Hid (p l[i]=false->l.all p=false):=fun h=>by
    rw[Bool.eq_false_iff]
    intro h2
    have:=List.all_eq_true.1 h2 _ (List.getElem_mem hil)
    rw[h]at this
    cases this
   obtain⟨pb,hpb⟩:∃x,p l[i]=x:=⟨_,rfl⟩
   rw[hpb]at hc HT HL
   generalize l[i]=t at y0 y1 y2 y3 y5 y6 hc
   clear hss hsr hlt2 hpb
   cases pb with
   | false =>
    have HL2:Hid (l.all p=false):=HL.out rfl
    clear HL
    go_wp2_with fail
    refine hc.mono ?_
    rintro e W2 ⟨rfl,h2⟩
    have H2:=hidR h2
    clear hc h2
    go_wp2
    go_ret
    exact⟨⟨i,rfl,by rw[HL2.out];simp⟩,HI.out.1.trans (H2.out.mono HI.out.1.size)⟩
   | true =>
    go_wp2_with fail
    refine hc.mono ?_
    rintro e W2 ⟨rfl,h2⟩
    have HN:Hid (Below W.heap.size W W2∧(l.take (i+1)).all p=true):=⟨HI.out.1.trans (h2.mono HI.out.1.size),HT.out⟩
    clear hc h2
    go_wp2
    go_roundw
    case rel=>exact⟨i+1,by go_num,by omega,HN.out⟩
    case measure=>simp[intOf];omega
  ·have hin:i=n:=by omega
   subst hin
   have HF:Hid (l.all p=true):=by
    have:=HI.out.2
    rw[<-hn,List.take_length]at this
    exact this
   go_wp2
   go_ret
   exact⟨⟨-1,rfl,by rw[HF.out];rfl⟩,HI.out.1⟩
theorem gcontains_any {P:Nat->Prop}{p:Fm->Bool}{w W:World}{l:List Fm}(hg:SoF 41 P p w l)(hb:Below w.heap.size w W){C:Nat}(hC:W.heap[C]? =some (.cells #[.func (.func 41) #[] #[]] 36 (0,0))){sk:Value}(hs:KidsP P W sk l) :
  Calls Tryz.prog 83 #[sk,.func (.func 102) #[] #[.pointer (some ⟨C,0,none⟩)]] W fun e w'=>e=.returned (.bool (!l.all p))∧Below W.heap.size W w':=by
 have hc:=gindex_any hg hb hC hs
 clear hg hb hC hs
 go_enter Tryz.func83,Tryz.ntmps83
 go_wp2_with fail
 refine hc.mono ?_
 rintro e W2 ⟨⟨r,rfl,hr⟩,h2⟩
 have H2:=hidR h2
 have HR:=hidR hr
 clear hc h2 hr
 go_wp2
 go_ret
 exact⟨y01 HR.out,H2.out⟩
theorem gall_any {P:Nat->Prop}{p:Fm->Bool}{w:World}{l:List Fm}(hg:SoF 41 P p w l){sk:Value}(hs:KidsP P w sk l) :
  Calls Tryz.prog 62 #[sk,.func (.func 41) #[] #[]] w fun e w'=>e=.returned (.bool (l.all p))∧Below w.heap.size w w':=by
 have hb0:=bbx w (.cells #[.func (.func 41) #[] #[]] 36)
 have hz:=(jH w (.cells #[.func (.func 41) #[] #[]] 36)).1
 have hc:=gcontains_any (p:=p) hg hb0 hz (hs.grow hb0)
 have hsz:=hb0.size
 have H0:=hidR hb0
 obtain⟨a,c,rfl,_,_⟩:=hs.slice
 obtain⟨b,hpb⟩:∃b,l.all p=b:=⟨_,rfl⟩
 rw[hpb]at hc ⊢
 clear hg hb0 hz hs hpb
 go_enter Tryz.func62,Tryz.ntmps62
 go_wp2_with fail
 refine hc.mono ?_
 rintro e W2 ⟨rfl,h2⟩
 have H2:=hidR h2
 clear hc h2
 go_wp2
 go_ret
 exact⟨by cases b<;>rfl,H0.out.trans (H2.out.mono hsz)⟩
def kidsN (k:Int):Int:=if k=1∨k=9∨k=10 then 0 else if k=2∨k=7∨k=8 then 1 else if k=3∨k=4∨k=5∨k=6 then 2 else -1
theorem kidsOf_any (k:Int)(w:World):Calls Tryz.prog 78 #[.int .i64 k] w fun e w'=>e=.returned (.int .i64 (kidsN k))∧w'=w:=by
 by_cases h:k=1∨k=2∨k=3∨k=4∨k=5∨k=6∨k=7∨k=8∨k=9∨k=10
 ·rcases h with h|h|h|h|h|h|h|h|h|h<;>subst h <;>
   (go_enter Tryz.func78,Tryz.ntmps78;go_wp2;go_ret;exact⟨rfl,rfl⟩)
 ·have h1:(k==1)=false:=by simp;omega
  have h2:(k==2)=false:=by simp;omega
  have h3:(k==3)=false:=by simp;omega
  have h4:(k==4)=false:=by simp;omega
  have h5:(k==5)=false:=by simp;omega
  have h6:(k==6)=false:=by simp;omega
  have h7:(k==7)=false:=by simp;omega
  have h8:(k==8)=false:=by simp;omega
  have h9:(k==9)=false:=by simp;omega
  have h10:(k==10)=false:=by simp;omega
  have HF:Hid (kidsN k = -1):=by show _=_;unfold kidsN;rw[if_neg (by omega),if_neg (by omega),if_neg (by omega)]
  clear h
  go_enter Tryz.func78,Tryz.ntmps78
  go_wp2
  go_ret
  exact⟨y0c HF.out.symm,rfl⟩
def qB (f:Fm):Bool:=decide (f.k=7)||decide (f.k=8)
theorem y2v {P:Nat->Prop}{f:Fm}{sl sr sk:Value}{w:World}(h:FmP P w f sl sr sk):Calls Tryz.prog 72 #[fval f sl sr sk] w fun e w'=>e=.returned (.bool (qB f))∧Below w.heap.size w w':=by
 obtain⟨la,lc,rfl,_,_⟩:=h.l.slice'
 obtain⟨ra,rc,rfl,_,_⟩:=h.r.slice'
 obtain⟨ka,kc',rfl,_,_⟩:=h.k.slice
 have hb0:=hidR (bbx w (fbox f (.slice la f.l.args.length lc) (.slice ra f.r.args.length rc) (.slice ka f.kids.length kc')))
 by_cases h7:f.k=7
 ·have h1:(f.k==7)=true:=by simpa using h7
  have HF:Hid (qB f=true):=by show _=_;unfold qB;rw[decide_eq_true h7];rfl
  clear h h7
  go_enter Tryz.func72,Tryz.ntmps72
  go_wp2
  go_ret
  exact⟨y01 HF.out.symm,hb0.out⟩
 ·have h1:(f.k==7)=false:=by simpa using h7
  by_cases h8:f.k=8
  ·have h2:(f.k==8)=true:=by simpa using h8
   have HF:Hid (qB f=true):=by show _=_;unfold qB;rw[decide_eq_true h8,Bool.or_true]
   clear h h7 h8
   go_enter Tryz.func72,Tryz.ntmps72
   go_wp2
   go_ret
   exact⟨y01 HF.out.symm,hb0.out⟩
  ·have h2:(f.k==8)=false:=by simpa using h8
   have HF:Hid (qB f=false):=by show _=_;unfold qB;rw[decide_eq_false h8,decide_eq_false h7];rfl
   clear h h7 h8
   go_enter Tryz.func72,Tryz.ntmps72
   go_wp2
   go_ret
   exact⟨y01 HF.out.symm,hb0.out⟩
def nameB (f:Fm):Bool:=if qB f=true then Lx.vrB f.nm.data.toList else decide (f.nm=e0)
theorem shapedName_any {P:Nat->Prop}{f:Fm}(hn:f.nm.size<=2097152){sl sr sk:Value}{w:World}(h:FmP P w f sl sr sk):Calls Tryz.prog 79 #[fval f sl sr sk] w fun e w'=>e=.returned (.bool (nameB f))∧Below w.heap.size w w':=by
 have hb0:=bbx w (fbox f sl sr sk)
 have hs0:=hb0.size
 have hc:=y2v (h.grow hb0)
 have hv:∀W,Calls Tryz.prog 115 #[.string f.nm] W fun e w'=>e=.returned (.bool (Lx.vrB f.nm.data.toList))∧w'=W:=fun W=>Lx.isVar_any _ W (by omega)
 have hz:=(jH w (fbox f sl sr sk)).1
 obtain⟨la,lc,rfl,_,_⟩:=h.l.slice'
 obtain⟨ra,rc,rfl,_,_⟩:=h.r.slice'
 obtain⟨ka,kc',rfl,_,_⟩:=h.k.slice
 have HE:Hid (nameB f=if qB f=true then Lx.vrB f.nm.data.toList else decide (f.nm=e0)):=rfl
 obtain⟨b,hb⟩:∃b,qB f=b:=⟨_,rfl⟩
 rw[hb]at hc HE
 obtain⟨v,hvv⟩:∃b,Lx.vrB f.nm.data.toList=b:=⟨_,rfl⟩
 rw[hvv]at hv HE
 have HZ:=hidR hz
 have HB:=hidR hb0
 clear h hz hb0 hn hb hvv
 cases b with
 | true =>
  go_enter Tryz.func79,Tryz.ntmps79
  go_wp2_with fail
  refine hc.mono ?_
  rintro e W2 ⟨rfl,h2⟩
  have H2:Hid (Below w.heap.size w W2):=HB.out.trans (h2.mono hs0)
  have x1:W2.cell? ⟨w.heap.size,1,none⟩=some (.string f.nm):=csR (vs:=[_,_,_,_,_,_,_,_,_]) ((h2.block _ (jG HZ.out).1).trans HZ.out) rfl
  clear hc h2
  go_wp2_with fail
  refine (hv _).mono ?_
  rintro e W3 ⟨rfl,rfl⟩
  go_wp2
  go_ret
  exact⟨y01 HE.out.symm,H2.out⟩
 | false =>
  by_cases hnm:f.nm=e0
  ·have he:(f.nm.toList==(⟨#[]⟩:ByteArray).toList)=true:=by rw[show f.nm=(⟨#[]⟩:ByteArray) from hnm];exact beq_self_eq_true _
   have HI:Hid (f.nm.toList.isEmpty=true):=by show _=_;rw[Lx.y0v,hnm];rfl
   have HF:Hid (nameB f=true):=by show _=_;rw[HE.out,hnm];rfl
   clear HE hnm
   go_enter Tryz.func79,Tryz.ntmps79
   go_wp2_with fail
   refine hc.mono ?_
   rintro e W2 ⟨rfl,h2⟩
   have H2:Hid (Below w.heap.size w W2):=HB.out.trans (h2.mono hs0)
   have x1:W2.cell? ⟨w.heap.size,1,none⟩=some (.string f.nm):=csR (vs:=[_,_,_,_,_,_,_,_,_]) ((h2.block _ (jG HZ.out).1).trans HZ.out) rfl
   clear hc h2
   go_wp2
   go_ret
   exact⟨y01 (HI.out.trans HF.out.symm),H2.out⟩
  ·have he:(f.nm.toList==(⟨#[]⟩:ByteArray).toList)=false:=by rw[beq_eq_false_iff_ne];exact fun e=>hnm (y0i.1 e)
   have HI:Hid (f.nm.toList.isEmpty=false):=by show _=_;rw[Lx.y0v];exact decide_eq_false (fun h=>hnm (ba_empty.1 h))
   have HF:Hid (nameB f=false):=by show _=_;rw[HE.out,if_neg (by simp),decide_eq_false hnm]
   clear HE hnm
   go_enter Tryz.func79,Tryz.ntmps79
   go_wp2_with fail
   refine hc.mono ?_
   rintro e W2 ⟨rfl,h2⟩
   have H2:Hid (Below w.heap.size w W2):=HB.out.trans (h2.mono hs0)
   have x1:W2.cell? ⟨w.heap.size,1,none⟩=some (.string f.nm):=csR (vs:=[_,_,_,_,_,_,_,_,_]) ((h2.block _ (jG HZ.out).1).trans HZ.out) rfl
   clear hc h2
   go_wp2
   go_ret
   exact⟨y01 (HI.out.trans HF.out.symm),H2.out⟩
end
section
open Go.RowKit Go.Maps
theorem y0x (f:jV)(s:ByteArray)(c:Int)(x:ByteArray):(fput f s c x).getD 0=if x=s then c else (f x).getD 0:=by
 unfold fput
 split<;>simp_all
structure Wi1 (w:World) (mb mm R nr:Nat) (nm:ByteArray) (f:jV) (n:Nat) (X:World):Prop where
 box:X.heap[R]? =some (.cells #[.map (some mb),.map (some mm)] 52 (0,0))
 row:X.heap[nr]? =some (.cells #[.string nm] 9 (0,0))
 st:Nm X mb f n
 on:Only [mb] w X
 Rm:R≠mb
 nr':nr≠mb
theorem Wi1.next {w:World}{mb mm R nr:Nat}{nm:ByteArray}{f f':jV}{n n':Nat}{X Y:World}(h:Wi1 w mb mm R nr nm f n X)(hs:Nm Y mb f' n')(ho:Only [mb] X Y):Wi1 w mb mm R nr nm f' n' Y:=
 ⟨(ho.block R (jG h.box).1 (by have:=h.Rm;simpa using this)).trans h.box,(ho.block nr (jG h.row).1 (by have:=h.nr';simpa using this)).trans h.row,hs,h.on.trans ho (fun r hr=>.inl hr),h.Rm,h.nr'⟩
theorem within1 {mb mm n n' nr:Nat}{f:jV}{nm:ByteArray}{p1 p2:Value}{w:World}(hf:Nm w mb f n)(hr:w.heap[nr]? =some (.cells #[.string nm] 9 (0,0)))(hne:nr≠mb)(hs:nm.size<=maxLen)(hc0:0<=(f nm).getD 0)(hc1:(f nm).getD 0<=4194304)(hn:n<=16777216)(hn':n'<=16777216)
  (hw:∀X,Nm X mb (fput f nm ((f nm).getD 0+1)) (n+1)->Only [mb] w X->Calls Tryz.prog 86 #[p1,p2] X fun e w'=>e=.returned (.tuple #[])∧∃f',(∀s,(f' s).getD 0=(fput f nm ((f nm).getD 0+1) s).getD 0)∧Nm w' mb f' n'∧Only [mb] X w') :
  Calls Tryz.prog 85 #[.agg #[.map (some mb),.map (some mm)],.slice (some ⟨nr,0,none⟩) 1 1,.func (.func 86) #[] #[p1,p2]] w fun e w'=>e=.returned (.tuple #[])∧∃f',(∀s,(f' s).getD 0=(f s).getD 0)∧Nm w' mb f' (n'+1)∧Only [mb] w w':=by
 have hb0:=bbx w (.cells #[.map (some mb),.map (some mm)] 52)
 have hz:=(jH w (.cells #[.map (some mb),.map (some mm)] 52)).1
 have hm:=hf.lt
 have hrl:=(jG hr).1
 have hW:Wi1 w mb mm w.heap.size nr nm f n (w.alloc (.cells #[.map (some mb),.map (some mm)] 52)):=⟨hz,(hb0.block nr hrl).trans hr,hf.same (hb0.block mb hm),Only.of_below hb0,by omega,hne⟩
 obtain⟨W0,hW0⟩:∃X:World,w.alloc (.cells #[.map (some mb),.map (some mm)] 52)=X:=⟨_,rfl⟩
 obtain⟨R,hR⟩:∃R,w.heap.size=R:=⟨_,rfl⟩
 rw[hW0,hR]at hW
 have HHW:=hidR hw
 have HH:=hidR hW
 have HW0:=hidR hW0
 obtain⟨c,hc⟩:∃c,(f nm).getD 0=c:=⟨_,rfl⟩
 rw[hc]at HHW hc0 hc1
 have HC:=hidR hc
 clear hf hr hne hw hb0 hz hm hrl hW hW0 hc
 have hmb:4194304<maxLen∧16777217<maxLen:=by unfold maxLen;decide
 go_enter Tryz.func85,Tryz.ntmps85
 go_upto_region 1 with fail
 try simp only[hR]
 rw[show _=W0 from HW0.out]
 clear HW0
 go_wp2
 go_loopw [7,12] (fun v7 vi wr=>∃i:Nat,vi=.int .i64 i∧i<=1∧Hid ((i=0->Wi1 w mb mm R nr nm f n wr)∧(i=1->Wi1 w mb mm R nr nm (fput f nm (c+1)) (n+1) wr))) (fun v7 vi _=>1-(intOf vi).toNat)
 case atStart=>exact⟨0,rfl,by omega,fun _=>HH.out,fun h=>absurd h (by omega)⟩
 case round =>
  obtain⟨i,rfl,hi,HI⟩:=hrel
  by_cases hlt:i=0
  ·subst hlt
   have h1:=HI.out.1 rfl
   have x0:wr.cell? ⟨R,0,none⟩=some (.map (some mb)):=cst (vs:=[_,_]) h1.box rfl
   have y0:wr.cell? ⟨nr,0,none⟩=some (.string nm):=cst (vs:=[_]) h1.row rfl
   have hlook:=h1.st.look hs
   rw[HC.out]at hlook
   obtain⟨W1,hrun,hf1,ho1⟩:=h1.st.put (by omega) hs (c+1)
   have HN:Hid (Wi1 w mb mm R nr nm (fput f nm (c+1)) (n+1) W1):=h1.next hf1 ho1
   have hw1:wrap64 (c+1)=c+1:=by unfold wrap64;omega
   clear h1 hf1 ho1 HI hi
   go_wp2
   go_roundw
   case rel=>exact⟨1,by go_num,by omega,fun h=>absurd h (by omega),fun _=>HN.out⟩
   case measure=>simp[intOf]
  ·have hi1:i=1:=by omega
   subst hi1
   have h1:=HI.out.2 rfl
   have hwk:=HHW.out wr h1.st h1.on
   have H1:=hidR h1
   clear h1 HI hi hlt
   go_wp2_with fail
   refine hwk.mono ?_
   rintro e W2 ⟨rfl,f',hsame,hf',ho'⟩
   have H2:=hidR (H1.out.next hf' ho')
   have HS:=hidR hsame
   have hcm:(f' nm).getD 0=c+1:=by rw[hsame,y0x,if_pos rfl]
   have HCM:=hidR hcm
   clear hwk hsame hf' ho' hcm
   obtain⟨Wx,hWx⟩:∃X,X=wr:=⟨_,rfl⟩
   subst hWx
   go_wp2
   go_loopw [9,26] (fun v9 vi W=>∃j:Nat,vi=.int .i64 j∧j<=1∧Hid ((j=0->Wi1 w mb mm R nr nm f' n' W)∧(j=1->∃f'',(∀s,(f'' s).getD 0=(f s).getD 0)∧Wi1 w mb mm R nr nm f'' (n'+1) W))) (fun v9 vi _=>1-(intOf vi).toNat)
   case atStart=>exact⟨0,rfl,by omega,fun _=>H2.out,fun h=>absurd h (by omega)⟩
   case round =>
    obtain⟨j,rfl,hj,HJ⟩:=hrel
    by_cases hlt:j=0
    ·subst hlt
     have h1:=HJ.out.1 rfl
     have x0:wr.cell? ⟨R,0,none⟩=some (.map (some mb)):=cst (vs:=[_,_]) h1.box rfl
     have y0:wr.cell? ⟨nr,0,none⟩=some (.string nm):=cst (vs:=[_]) h1.row rfl
     have hlook:=h1.st.look hs
     rw[HCM.out]at hlook
     obtain⟨W1,hrun,hf1,ho1⟩:=h1.st.put (by omega) hs c
     have HN:Hid (∃f'',(∀s,(f'' s).getD 0=(f s).getD 0)∧Wi1 w mb mm R nr nm f'' (n'+1) W1):=by
      refine⟨_,fun s=>?_,h1.next hf1 ho1⟩
      rw[y0x]
      split
      ·rename_i h;rw[h,HC.out]
      ·rename_i h;rw[HS.out,y0x,if_neg h]
     have hw1:wrap64 (c+1-1)=c:=by unfold wrap64;omega
     have hw2:wrap64 (c+1 + -1)=c:=by unfold wrap64;omega
     have hcc:c+1-1=c:=by omega
     clear h1 hf1 ho1 HJ hj
     go_wp2
     go_roundw
     case rel=>exact⟨1,by go_num,by omega,fun h=>absurd h (by omega),fun _=>HN.out⟩
     case measure=>simp[intOf]
    ·have hj1:j=1:=by omega
     subst hj1
     obtain⟨f'',hs'',h1⟩:=HJ.out.2 rfl
     have HX:Hid (∃f',(∀s,(f' s).getD 0=(f s).getD 0)∧Nm wr mb f' (n'+1)∧Only [mb] w wr):=⟨f'',hs'',h1.st,h1.on⟩
     clear hs'' h1 HJ
     go_wp2
     refine bodyPost_end (results_none rfl _ _ _) rfl ?_
     exact⟨rfl,HX.out⟩
end
section
open Go.RowKit Go.Maps
open Lx (Tk ofL KsAt flK y0r rkp rbk)
structure Env where
 B:Nat
 mb:Nat
 mm:Nat
 n0:Nat
 n:Nat
 N:Nat
structure TkOk (t:Tk):Prop where
 len63:t.t.length<=63
 dol:t.k=3->t.t=Lx.dTrue∨t.t=Lx.dFalse
 mark:t.k=4->t.t∈Lx.mks
theorem TkOk.len {t:Tk}(h:TkOk t):t.t.length<=maxLen:=Nat.le_trans h.len63 (by decide)
def firsts (l:List Tk):List Tk:=l.foldl (fun acc t=>if t.t∈acc.map Tk.t then acc else acc++[t]) []
theorem y51 (l:List Tk)(t:Tk):firsts (l++[t])=if t.t∈(firsts l).map Tk.t then firsts l else firsts l++[t]:=by simp[firsts,List.foldl_append]
theorem y4s (s:jU):∀(l acc:List Tk),s∈(l.foldl (fun acc t=>if t.t∈acc.map Tk.t then acc else acc++[t]) acc).map Tk.t↔s∈acc.map Tk.t∨s∈l.map Tk.t
 | [],acc=>by simp
 | t::r,acc=>by
  rw[List.foldl_cons,y4s s r,List.map_cons,List.mem_cons]
  by_cases h:t.t∈acc.map Tk.t
  ·rw[if_pos h]
   constructor
   ·rintro (h1|h1)
    ·exact .inl h1
    ·exact .inr (.inr h1)
   ·rintro (h1|rfl|h1)
    ·exact .inl h1
    ·exact .inl h
    ·exact .inr h1
  ·rw[if_neg h,List.map_append,List.mem_append]
   simp only[List.map_cons,List.map_nil,List.mem_singleton]
   exact or_assoc
theorem mem_firsts (l:List Tk)(s:jU):s∈(firsts l).map Tk.t↔s∈l.map Tk.t:=by
 rw[firsts,y4s];simp
theorem firsts_len:∀(l acc:List Tk),(l.foldl (fun acc t=>if t.t∈acc.map Tk.t then acc else acc++[t]) acc).length<=acc.length+l.length
 | [],acc=>by simp
 | t::r,acc=>by
  rw[List.foldl_cons]
  have:=firsts_len r (if t.t∈acc.map Tk.t then acc else acc++[t])
  by_cases h:t.t∈acc.map Tk.t
  ·rw[if_pos h]at this ⊢;simp only[jK];omega
  ·rw[if_neg h]at this ⊢;simp only[jK,jL,List.length_nil]at this ⊢;omega
theorem y1z {a b:jU}(h:ofL a=ofL b):a=b:=by
 have:=congrArg (fun x=>x.data.toList) h
 simpa [ofL] using this
structure PSt (E:Env) (W:World) (l:List Tk) (bd:List jU) (fr:List Tk) (kb:Nat) (fv c5:Value):Prop where
 bx:Bx W E.B E.n E.n0 l (.map (some E.mb)) (.map (some E.mm)) fv c5
 bnd:∃f,Nm W E.mb f kb∧∀s,(f (ofL s)).getD 0=(bd.count s:Nat)
 met:∃g,Nm W E.mm g fr.length∧∀s,(g (ofL s)).getD 0=((fr.map Tk.t).count s:Nat)
 row:W.ownsRow E.n0 57 3 fv (firsts fr).length (flK (firsts fr))
 bud:kb+l.length<=E.N
 bud2:fr.length+l.length<=E.N
 mx:E.N<=2097155
 tok:∀t∈l,TkOk t
 ne:E.mb≠E.mm
 lo:E.n0<=E.mb∧E.n0<=E.mm
def Own (E:Env)(fv:Value)(k:Nat):Prop:=k=E.B∨k=E.mb∨k=E.mm∨fv.ownBlock=some k
structure Stay (E:Env) (W:World) (fv:Value) (W':World) (fv':Value):Prop where
 os:W'.os=W.os
 tape:W'.tape=W.tape
 output:W'.output=W.output
 size:W.heap.size<=W'.heap.size
 blk:∀k,k<W.heap.size->¬Own E fv k->W'.heap[k]? =W.heap[k]?∧¬Own E fv' k
theorem Stay.trans {E:Env}{X Y Z:World}{a b c:Value}(h:Stay E X a Y b)(g:Stay E Y b Z c):Stay E X a Z c:=
 ⟨g.os.trans h.os,g.tape.trans h.tape,g.output.trans h.output,Nat.le_trans h.size g.size,fun k hk hn=>by
  obtain⟨h1,h2⟩:=h.blk k hk hn
  obtain⟨g1,g2⟩:=g.blk k (jI hk h.size) h2
  exact⟨g1.trans h1,g2⟩⟩
theorem Stay.of_only {E:Env}{X Y:World}{a:Value}{L:List Nat}(h:Only L X Y)(hL:∀r∈L,Own E a r):Stay E X a Y a:=
 ⟨h.os,h.tape,h.output,h.size,fun k hk hn=>⟨h.block k hk (fun hm=>hn (hL k hm)),hn⟩⟩
theorem Stay.of_below {E:Env}{X Y:World}{a:Value}(h:Below X.heap.size X Y):Stay E X a Y a:=
 ⟨h.os,h.tape,h.output,h.size,fun k hk hn=>⟨h.block k hk,hn⟩⟩
theorem Stay.refl (E:Env)(X:World)(a:Value):Stay E X a X a:=Stay.of_below (Below.refl _ X)
section
variable {E : Env} {W W' : World} {l q : List Tk} {bd : List jU} {fr : List Tk} {kb : Nat} {fv c5 : Value}
theorem PSt.boxAt (h:PSt E W l bd fr kb fv c5):∃rv,W.heap[E.B]? =some (.cells #[rv,.int .i64 (E.n:Nat),.map (some E.mb),.map (some E.mm),fv,c5] 55 (0,0)):=by obtain⟨rv,h1,_⟩:=h.bx.ks;exact⟨rv,h1⟩
theorem PSt.fvB (h:PSt E W l bd fr kb fv c5):fv.ownBlock≠some E.B:=by
 intro hg
 obtain⟨_,c,hc⟩:=rbk h.row hg
 obtain⟨rv,hb⟩:=h.boxAt
 rw[hc]at hb
 cases hb
theorem Nm.notCells {b n:Nat}{f:jV}(h:Nm W b f n){c:Array Value}{ty:TypeId}{x:Nat × Nat}:W.heap[b]?≠some (.cells c ty x):=by
 obtain⟨k,_,hm⟩:=h.m
 intro e
 obtain⟨D,⟨es,clock,hb',r⟩,h2⟩:=hm
 rw[hb']at e
 cases e
theorem PSt.mbB (h:PSt E W l bd fr kb fv c5):E.mb≠E.B:=by
 intro e
 obtain⟨f,hf,_⟩:=h.bnd
 obtain⟨rv,hb⟩:=h.boxAt
 rw[<-e]at hb
 exact hf.notCells hb
theorem PSt.mmB (h:PSt E W l bd fr kb fv c5):E.mm≠E.B:=by
 intro e
 obtain⟨f,hf,_⟩:=h.met
 obtain⟨rv,hb⟩:=h.boxAt
 rw[<-e]at hb
 exact hf.notCells hb
theorem PSt.fvb (h:PSt E W l bd fr kb fv c5):fv.ownBlock≠some E.mb:=by
 intro hg
 obtain⟨_,c,hc⟩:=rbk h.row hg
 obtain⟨f,hf,_⟩:=h.bnd
 exact hf.notCells hc
theorem PSt.fvm (h:PSt E W l bd fr kb fv c5):fv.ownBlock≠some E.mm:=by
 intro hg
 obtain⟨_,c,hc⟩:=rbk h.row hg
 obtain⟨f,hf,_⟩:=h.met
 exact hf.notCells hc
theorem PSt.fvlt (h:PSt E W l bd fr kb fv c5){g:Nat}(hg:fv.ownBlock=some g):E.n0<=g∧g<W.heap.size:=by
 obtain⟨h1,c,hc⟩:=rbk h.row hg
 exact⟨h1,(jG hc).1⟩
theorem PSt.ownlt (h:PSt E W l bd fr kb fv c5){k:Nat}(hk:Own E fv k):E.n0<=k∧k<W.heap.size:=by
 rcases hk with rfl|rfl|rfl|hk
 ·obtain⟨rv,hb⟩:=h.boxAt
  exact⟨h.bx.mB,(jG hb).1⟩
 ·obtain⟨f,hf,_⟩:=h.bnd
  exact⟨h.lo.1,hf.lt⟩
 ·obtain⟨f,hf,_⟩:=h.met
  exact⟨h.lo.2,hf.lt⟩
 ·exact h.fvlt hk
theorem PSt.keep (h:PSt E W l bd fr kb fv c5)(hb:Below W.heap.size W W'):PSt E W' l bd fr kb fv c5:=by
 obtain⟨f,hf,hf2⟩:=h.bnd
 obtain⟨g,hg,hg2⟩:=h.met
 exact⟨h.bx.keep hb,⟨f,hf.same (hb.block _ hf.lt),hf2⟩,⟨g,hg.same (hb.block _ hg.lt),hg2⟩,rkp h.row (fun r hr=>hb.block r (h.fvlt hr).2),h.bud,h.bud2,h.mx,h.tok,h.ne,h.lo⟩
theorem PSt.eat (h:PSt E W l bd fr kb fv c5)(hx:Bx W' E.B E.n E.n0 q (.map (some E.mb)) (.map (some E.mm)) fv c5)(ho:Only [E.B] W W')(hq:q <:+ l):PSt E W' q bd fr kb fv c5∧Stay E W fv W' fv:=by
 obtain⟨f,hf,hf2⟩:=h.bnd
 obtain⟨g,hg,hg2⟩:=h.met
 have hl:=hq.length_le
 have b1:=h.bud
 have b2:=h.bud2
 refine⟨⟨hx,⟨f,hf.same (ho.block _ hf.lt (by simpa using h.mbB)),hf2⟩,⟨g,hg.same (ho.block _ hg.lt (by simpa using h.mmB)),hg2⟩,rkp h.row (fun r hr=>ho.block r (h.fvlt hr).2 (fun hm=>by simp at hm;subst hm;exact h.fvB hr)),by omega,by omega,h.mx,fun t ht=>h.tok t (hq.subset ht),h.ne,h.lo⟩,Stay.of_only ho (fun r hr=>by simp at hr;exact .inl hr)⟩
end
section
variable {E : Env} {w : World} {t : Tk} {r l : List Tk} {bd : List jU} {fr : List Tk} {kb : Nat} {fv c5 : Value}
theorem y1e (h:PSt E w (t::r) bd fr kb fv c5)(s:ByteArray)(hs:signB (t::r)=s) :
  Calls Tryz.prog 134 #[.pointer (some ⟨E.B,0,none⟩),.string s] w fun e w'=>e=.returned (.bool true)∧PSt E w' r bd fr kb fv c5∧Stay E w fv w' fv:=by
 refine (skip_yes h.bx s hs).mono ?_
 rintro e w' ⟨he,h1,h2⟩
 exact⟨he,h.eat h1 h2 (List.suffix_cons t r)⟩
theorem y1v (h:PSt E w l bd fr kb fv c5)(s:ByteArray)(hs:signB l≠s) :
  Calls Tryz.prog 134 #[.pointer (some ⟨E.B,0,none⟩),.string s] w fun e w'=>e=.returned (.bool false)∧PSt E w' l bd fr kb fv c5∧Stay E w fv w' fv:=by
 refine (skip_no h.bx s hs).mono ?_
 rintro e w' ⟨he,h1⟩
 exact⟨he,h.keep h1,Stay.of_below h1⟩
theorem y0q (h:PSt E w (t::r) bd fr kb fv c5)(s:ByteArray)(hs:signB (t::r)=s) :
  Calls Tryz.prog 133 #[.pointer (some ⟨E.B,0,none⟩),.string s] w fun e w'=>e=.returned (.tuple #[])∧PSt E w' r bd fr kb fv c5∧Stay E w fv w' fv:=by
 refine (must_yes h.bx s hs).mono ?_
 rintro e w' ⟨he,h1,h2⟩
 exact⟨he,h.eat h1 h2 (List.suffix_cons t r)⟩
theorem y32 (h:PSt E w l bd fr kb fv c5)(s:ByteArray)(hs:signB l≠s) :
  Calls Tryz.prog 133 #[.pointer (some ⟨E.B,0,none⟩),.string s] w fun e w'=>e=.panicked misfit∧PSt E w' l bd fr kb fv c5∧Stay E w fv w' fv:=by
 refine (must_no h.bx s hs).mono ?_
 rintro e w' ⟨he,h1⟩
 exact⟨he,h.keep h1,Stay.of_below h1⟩
theorem ptake_yes (h:PSt E w (t::r) bd fr kb fv c5) :
  Calls Tryz.prog 207 #[.pointer (some ⟨E.B,0,none⟩),.int .i64 t.k] w fun e w'=>e=.returned (tokV E.n (t::r))∧PSt E w' r bd fr kb fv c5∧Stay E w fv w' fv:=by
 refine (take_yes h.bx).mono ?_
 rintro e w' ⟨he,h1,h2⟩
 exact⟨he,h.eat h1 h2 (List.suffix_cons t r)⟩
theorem ptake_no (h:PSt E w l bd fr kb fv c5)(k:Int)(hk:isK k l=false)(hk0:k≠0) :
  Calls Tryz.prog 207 #[.pointer (some ⟨E.B,0,none⟩),.int .i64 k] w fun e w'=>e=.panicked misfit∧PSt E w' l bd fr kb fv c5∧Stay E w fv w' fv:=by
 refine (take_no h.bx k hk hk0).mono ?_
 rintro e w' ⟨he,h1⟩
 exact⟨he,h.keep h1,Stay.of_below h1⟩
theorem pahead (h:PSt E w l bd fr kb fv c5) :
  Calls Tryz.prog 56 #[.pointer (some ⟨E.B,0,none⟩)] w fun e w'=>e=.returned (tokV E.n l)∧PSt E w' l bd fr kb fv c5∧Stay E w fv w' fv:=by
 refine (y2l h.bx).mono ?_
 rintro e w' ⟨he,h1⟩
 exact⟨he,h.keep h1,Stay.of_below h1⟩
theorem y13 {m:jU}(h0:m≠[])(h1:m≠Lx.dTrue)(h2:m≠Lx.dFalse)(hl:∀t∈l,TkOk t):signB l=ofL m↔isM m l=true:=by
 cases l with
 | nil =>
  constructor
  ·intro h;exact absurd (y1z (a:=[]) h).symm h0
  ·intro h;cases h
 | cons t r =>
  show (if t.k=4∨t.k=3 then ofL t.t else ⟨#[]⟩)=ofL m↔(decide (t.k=4)&&decide (t.t=m))=true
  rw[Bool.and_eq_true,decide_eq_true_eq,decide_eq_true_eq]
  constructor
  ·intro h
   by_cases h4:t.k=4
   ·rw[if_pos (.inl h4)]at h;exact⟨h4,y1z h⟩
   ·by_cases h3:t.k=3
    ·rw[if_pos (.inr h3)]at h
     have e:=y1z h
     rcases (hl t (List.mem_cons_self ..)).dol h3 with hd|hd
     ·exact absurd (e.symm.trans hd) h1
     ·exact absurd (e.symm.trans hd) h2
    ·rw[if_neg (fun h=>h.elim h4 h3)]at h
     exact absurd (y1z (a:=[]) h).symm h0
  ·rintro ⟨h4,ht⟩
   rw[if_pos (.inl h4),ht]
theorem y0u {m:jU}(h0:m≠[])(h1:m≠Lx.dTrue)(h2:m≠Lx.dFalse)(hl:∀t∈l,TkOk t)(hm:isM m l=false):signB l≠ofL m:=fun h=>by
 rw[(y13 h0 h1 h2 hl).1 h]at hm;cases hm
end
end
