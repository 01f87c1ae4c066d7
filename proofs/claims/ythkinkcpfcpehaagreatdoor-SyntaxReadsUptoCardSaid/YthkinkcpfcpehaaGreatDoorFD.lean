import Derived.Test.YthkinkcpfcpehaaGreatDoorZS
import Derived.Test.YthkinkcpfcpehaaGreatDoorFU
import Derived.Test.YthkinkcpfcpehaaGreatDoorLC
import Derived.Recover
import Derived.Deep.DeepCutAuto
namespace Go.Proofs.YthkinkcpfcpehaaGreatDoor
set_option maxRecDepth 100000
set_option maxHeartbeats 8000000
section
open Go.RowKit
theorem tnotso_any {p:T->Bool}{w W:World}{l:List T}(hg:SoP 117 p w l)(hb:Below w.heap.size w W){C:Nat}(hC:W.heap[C]? =some (.cells #[.func (.func 117) #[] #[]] 119 (0,0))){a:T}(ha:a∈l){sa:Value}(hs:ArgsAt W sa a.args) :
  Calls Tryz.prog 119 #[tval a sa,.pointer (some ⟨C,0,none⟩)] W fun e w'=>e=.returned (.bool (!p a))∧Below W.heap.size W w':=by
 have hb0:=bbx W (.cells #[.int .i64 a.v,.string a.fn,sa] 24)
 have hsz:=hb0.size
 have hc:=hg a ha sa (W.alloc (.cells #[.int .i64 a.v,.string a.fn,sa] 24)) (hb.trans (hb0.mono hb.size)) (hs.keep hb0 (jJ _))
 have x0:W.cell? ⟨C,0,none⟩=some (.func (.func 117) #[] #[]):=csR (vs:=[_]) hC rfl
 have hCl:C<W.heap.size:=(jG hC).1
 obtain⟨b,hpb⟩:∃b,p a=b:=⟨_,rfl⟩
 rw[hpb]at hc ⊢
 have H0:=hidR hb0
 clear hg hb hC hs hb0 hpb
 go_enter Tryz.func119,Tryz.ntmps119
 go_wp2_with fail
 refine hc.mono ?_
 rintro e W1 ⟨rfl,h1⟩
 have H1:=hidR h1
 clear hc h1
 go_wp2
 go_ret
 exact⟨rfl,H0.out.trans (H1.out.mono hsz)⟩
theorem tindex_any {p:T->Bool}{w W:World}{l:List T}(hg:SoP 117 p w l)(hb:Below w.heap.size w W){C:Nat}(hC:W.heap[C]? =some (.cells #[.func (.func 117) #[] #[]] 119 (0,0))){sl:Value}(hs:ArgsAt W sl l) :
  Calls Tryz.prog 157 #[sl,.func (.func 119) #[] #[.pointer (some ⟨C,0,none⟩)]] W fun e w'=>(∃r:Int,e=.returned (.int .i64 r)∧decide (0<=r) = !l.all p)∧Below W.heap.size W w':=by
 obtain⟨a,c,rfl,hlc,hcm⟩:=hs.slice
 have HS:=hidR hs
 have HG:=hidR hg
 have HB:=hidR hb
 have HC:=hidR hC
 have hnl:l.length<=9223372036854775807:=by omega
 obtain⟨n,hn⟩:∃n,l.length=n:=⟨_,rfl⟩
 clear hs hg hb hC
 rw[hn]
 rw[hn]at HS hlc hnl
 go_enter Tryz.func157,Tryz.ntmps157
 go_wp2
 go_loopw [8] (fun vi wr=>∃i:Nat,vi=.int .i64 i∧i<=n∧Hid (Below W.heap.size W wr∧(l.take i).all p=true)) (fun vi _=>n-(intOf vi).toNat)
 case atStart=>exact⟨0,rfl,Nat.zero_le _,Below.refl _ _,rfl⟩
 case round =>
  obtain⟨i,rfl,hi,HI⟩:=hrel
  by_cases hlt:i<n
  ·have hil:i<l.length:=by omega
   have hsr:=HS.out.keep HI.out.1 (jJ _)
   obtain⟨b,o,s,rfl,hlt2,y0,y1,y2,hss⟩:=hsr.nth hil
   have hc:=tnotso_any HG.out (HB.out.trans (HI.out.1.mono HB.out.size)) ((HI.out.1.block C (jG HC.out).1).trans HC.out) (List.getElem_mem hil) hss
   have HT:Hid ((l.take (i+1)).all p=p l[i]):=by
    show _=_
    rw[List.take_succ_eq_append_getElem hil,List.all_append,HI.out.2]
    simp
   have HL:Hid (p l[i]=false->l.all p=false):=fun h=>by
    rw[Bool.eq_false_iff]
    intro h2
    have:=List.all_eq_true.1 h2 _ (List.getElem_mem hil)
    rw[h]at this
    cases this
   obtain⟨pb,hpb⟩:∃x,p l[i]=x:=⟨_,rfl⟩
   rw[hpb]at hc HT HL
   generalize l[i]=t at y0 y1 y2 hc
   clear hss hsr hlt2 hpb
   cases pb with
   | false =>
    have HL2:Hid (l.all p=false):=HL.out rfl
    clear HL
    go_wp2_with fail
    refine hc.mono ?_
    rintro e W2 ⟨rfl,h2⟩
    have H2:=hidR h2
    clear hc h2
    go_wp2
    go_ret
    exact⟨⟨i,rfl,by rw[HL2.out];simp⟩,HI.out.1.trans (H2.out.mono HI.out.1.size)⟩
   | true =>
    go_wp2_with fail
    refine hc.mono ?_
    rintro e W2 ⟨rfl,h2⟩
    have HN:Hid (Below W.heap.size W W2∧(l.take (i+1)).all p=true):=⟨HI.out.1.trans (h2.mono HI.out.1.size),HT.out⟩
    clear hc h2
    go_wp2
    go_roundw
    case rel=>exact⟨i+1,by go_num,by omega,HN.out⟩
    case measure=>simp[intOf];omega
  ·have hin:i=n:=by omega
   subst hin
   have HF:Hid (l.all p=true):=by
    have:=HI.out.2
    rw[<-hn,List.take_length]at this
    exact this
   go_wp2
   go_ret
   exact⟨⟨-1,rfl,by rw[HF.out];rfl⟩,HI.out.1⟩
theorem tcontains_any {p:T->Bool}{w W:World}{l:List T}(hg:SoP 117 p w l)(hb:Below w.heap.size w W){C:Nat}(hC:W.heap[C]? =some (.cells #[.func (.func 117) #[] #[]] 119 (0,0))){sl:Value}(hs:ArgsAt W sl l) :
  Calls Tryz.prog 118 #[sl,.func (.func 119) #[] #[.pointer (some ⟨C,0,none⟩)]] W fun e w'=>e=.returned (.bool (!l.all p))∧Below W.heap.size W w':=by
 have hc:=tindex_any hg hb hC hs
 clear hg hb hC hs
 go_enter Tryz.func118,Tryz.ntmps118
 go_wp2_with fail
 refine hc.mono ?_
 rintro e W2 ⟨⟨r,rfl,hr⟩,h2⟩
 have H2:=hidR h2
 have HR:=hidR hr
 clear hc h2 hr
 go_wp2
 go_ret
 exact⟨y01 HR.out,H2.out⟩
theorem tall_any {p:T->Bool}{w:World}{l:List T}(hg:SoP 117 p w l){sl:Value}(hs:ArgsAt w sl l) :
  Calls Tryz.prog 81 #[sl,.func (.func 117) #[] #[]] w fun e w'=>e=.returned (.bool (l.all p))∧Below w.heap.size w w':=by
 have hb0:=bbx w (.cells #[.func (.func 117) #[] #[]] 119)
 have hz:=(jH w (.cells #[.func (.func 117) #[] #[]] 119)).1
 have hc:=tcontains_any (p:=p) hg hb0 hz (hs.keep hb0 (jJ _))
 have hsz:=hb0.size
 have H0:=hidR hb0
 obtain⟨a,c,rfl,_,_⟩:=hs.slice
 obtain⟨b,hpb⟩:∃b,l.all p=b:=⟨_,rfl⟩
 rw[hpb]at hc ⊢
 clear hg hb0 hz hs hpb
 go_enter Tryz.func81,Tryz.ntmps81
 go_wp2_with fail
 refine hc.mono ?_
 rintro e W2 ⟨rfl,h2⟩
 have H2:=hidR h2
 clear hc h2
 go_wp2
 go_ret
 exact⟨by cases b<;>rfl,H0.out.trans (H2.out.mono hsz)⟩
def T.nsm:T->Prop
 | .mk _ fn ts=>fn.size<=2097152∧nsms ts
where nsms:List T->Prop
 | []=>True
 | a::r=>a.nsm∧nsms r
theorem nsms_mem:∀{l:List T},T.nsm.nsms l->∀a∈l,a.nsm
 | b::r,h,a,ha=>by
  rw[T.nsm.nsms]at h
  rcases List.mem_cons.1 ha with rfl|ha
  ·exact h.1
  ·exact nsms_mem h.2 a ha
theorem T.nsm_fn {t:T}(h:t.nsm):t.fn.size<=2097152:=by cases t;rw[T.nsm]at h;exact h.1
theorem T.nsm_args {t:T}(h:t.nsm):∀a∈t.args,a.nsm:=by cases t;rw[T.nsm]at h;exact nsms_mem h.2
def vB (t:T):Bool:=decide (t.args.length=0)&&Lx.vrB t.fn.data.toList
def trB:T->Bool
 | .mk v fn ts=>decide (v=0)&&((decide (ts.length=0)&&Lx.vrB fn.data.toList)||(Lx.nmB fn.data.toList&&trs ts))
where trs:List T->Bool
 | []=>true
 | a::r=>trB a&&trs r
theorem trs_all (l:List T):l.all trB=trB.trs l:=by
 induction l with
 | nil=>rfl
 | cons a r ih=>rw[List.all_cons,ih,trB.trs]
theorem trB_eq (t:T):trB t=(decide (t.v=0)&&(vB t||(Lx.nmB t.fn.data.toList&&t.args.all trB))):=by cases t;rw[trs_all,trB];rfl
theorem y1c {t:T}(hn:t.fn.size<=2097152){sl:Value}{w:World}(hs:ArgsAt w sl t.args):Calls Tryz.prog 113 #[tval t sl] w fun e w'=>e=.returned (.bool (vB t))∧Below w.heap.size w w':=by
 obtain⟨a,c,rfl,_,_⟩:=hs.slice
 have hc:∀W,Calls Tryz.prog 115 #[.string t.fn] W fun e w'=>e=.returned (.bool (Lx.vrB t.fn.data.toList))∧w'=W:=fun W=>Lx.isVar_any _ W (by omega)
 have HE:Hid (vB t=(decide (t.args.length=0)&&Lx.vrB t.fn.data.toList)):=rfl
 obtain⟨n,hnn⟩:∃n,t.args.length=n:=⟨_,rfl⟩
 obtain⟨b,hb⟩:∃b,Lx.vrB t.fn.data.toList=b:=⟨_,rfl⟩
 rw[hnn]at HE ⊢
 rw[hb]at HE hc
 clear hs hnn hb hn
 by_cases h0:n=0
 ·subst h0
  have HF:Hid (vB t=b):=by show _=_;rw[HE.out];rfl
  go_enter Tryz.func113,Tryz.ntmps113
  go_wp2_with fail
  refine (hc _).mono ?_
  rintro e W2 ⟨rfl,rfl⟩
  go_wp2
  go_ret
  exact⟨y01 HF.out.symm,bbx w _⟩
 ·have h1:((n:Int)==0)=false:=by simp;omega
  have HF:Hid (vB t=false):=by show _=_;rw[HE.out,decide_eq_false h0];rfl
  go_enter Tryz.func113,Tryz.ntmps113
  go_wp2
  go_ret
  exact⟨y01 HF.out.symm,bbx w _⟩
theorem y3j (t:T):t.nsm->∀(sl:Value)(w:World),ArgsAt w sl t.args->Calls Tryz.prog 117 #[tval t sl] w fun e w'=>e=.returned (.bool (trB t))∧Below w.heap.size w w':=by
 refine T.ind (P:=fun t=>t.nsm->∀(sl:Value) (w:World),ArgsAt w sl t.args->Calls Tryz.prog 117 #[tval t sl] w fun e w'=>e=.returned (.bool (trB t))∧Below w.heap.size w w') (fun t ih=>?_) t
 intro hnm sl w hs
 have hb0:=bbx w (tbox t sl)
 have hs0:=hb0.size
 have hv:=y1c (T.nsm_fn hnm) (hs.keep hb0 (jJ _))
 have hq:∀W,Calls Tryz.prog 116 #[.string t.fn] W fun e w'=>e=.returned (.bool (Lx.nmB t.fn.data.toList))∧w'=W:=fun W=>Lx.isName_any _ W (by have:=T.nsm_fn hnm;omega)
 have hal:∀W,Below w.heap.size w W->Calls Tryz.prog 81 #[sl,.func (.func 117) #[] #[]] W fun e w'=>e=.returned (.bool (t.args.all trB))∧Below W.heap.size W w':=fun W hW=>tall_any (p:=trB) (fun a ha sa X _ hsa=>ih a ha (T.nsm_args hnm a ha) sa X hsa) (hs.keep hW (jJ _))
 have HE:=hidR (trB_eq t)
 obtain⟨⟨_,_,c2⟩,hz⟩:=And.intro (y1o w t sl) (jH w (tbox t sl)).1
 obtain⟨W0,hW0⟩:∃X,w.alloc (tbox t sl)=X:=⟨_,rfl⟩
 obtain⟨R,hR⟩:∃R,w.heap.size=R:=⟨_,rfl⟩
 rw[hW0]at hb0 hs0 hv c2 hz
 have HZ:=hidR hz
 have HB:=hidR hb0
 have HS:=hidR hs0
 have HAL:=hidR hal
 obtain⟨a,c,rfl,_,_⟩:=hs.slice
 obtain⟨b1,hb1⟩:∃b,vB t=b:=⟨_,rfl⟩
 obtain⟨b2,hb2⟩:∃b,Lx.nmB t.fn.data.toList=b:=⟨_,rfl⟩
 obtain⟨b3,hb3⟩:∃b,t.args.all trB=b:=⟨_,rfl⟩
 rw[hb1,hb2,hb3]at HE
 rw[hb1]at hv
 rw[hb2]at hq
 rw[hb3]at HAL
 obtain⟨n,hn⟩:∃n,t.args.length=n:=⟨_,rfl⟩
 rw[hn]at hv HAL hW0 HZ ⊢
 rw[hR]at HZ
 have hcell:Hid (∀X,Below W0.heap.size W0 X->X.cell? ⟨R,0,none⟩=some (.int .i64 t.v)∧X.cell? ⟨R,1,none⟩=some (.string t.fn)∧X.cell? ⟨R,2,none⟩=some (.slice a n c)):=fun X hX=>by
  have h:=(hX.block R (jG HZ.out).1).trans HZ.out
  exact⟨csR (vs:=[_,_,_]) h rfl,csR (vs:=[_,_,_]) h rfl,csR (vs:=[_,_,_]) h rfl⟩
 obtain⟨z0,z1,z2⟩:=hcell.out W0 (Below.refl _ _)
 clear hb0 hs0 hal c2 hz hs hnm ih hb1 hb2 hb3 hn HZ
 obtain⟨v,hvv⟩:∃v,t.v=v:=⟨_,rfl⟩
 rw[hvv]at HE hcell z0
 simp only[tval,tbox]at hv hW0 ⊢
 rw[hvv]at hv hW0 ⊢
 clear hvv
 by_cases hv0:v=0
 case neg =>
  have h1:(v==0)=false:=by simpa using hv0
  have HF:Hid (trB t=false):=by show _=_;rw[HE.out,decide_eq_false hv0];rfl
  clear hv hq HAL
  go_enter Tryz.func117,Tryz.ntmps117
  go_upto_region 1 with fail
  try simp only[hR]
  try rw[hW0]
  clear hW0
  go_wp2
  go_ret
  exact⟨y01 HF.out.symm,HB.out⟩
 case pos =>
 subst hv0
 cases b1 with
 | true =>
  have HF:Hid (trB t=true):=by show _=_;rw[HE.out,decide_eq_true rfl];rfl
  clear hq HAL
  go_enter Tryz.func117,Tryz.ntmps117
  go_upto_region 1 with fail
  try simp only[hR]
  try rw[hW0]
  clear hW0
  go_wp2_with fail
  refine hv.mono ?_
  rintro e W2 ⟨rfl,h2⟩
  have H2:=hidR h2
  clear hv h2
  go_wp2
  go_ret
  exact⟨y01 HF.out.symm,HB.out.trans (H2.out.mono HS.out)⟩
 | false =>
  cases b2 with
  | false =>
   have HF:Hid (trB t=false):=by show _=_;rw[HE.out,decide_eq_true rfl];rfl
   clear HAL
   go_enter Tryz.func117,Tryz.ntmps117
   go_upto_region 1 with fail
   try simp only[hR]
   try rw[hW0]
   clear hW0
   go_wp2_with fail
   refine hv.mono ?_
   rintro e W2 ⟨rfl,h2⟩
   have H2:=hidR h2
   obtain⟨y0,y1,y2⟩:=hcell.out W2 h2
   clear hv h2
   go_wp2_with fail
   refine (hq _).mono ?_
   rintro e W3 ⟨rfl,rfl⟩
   go_wp2
   go_ret
   exact⟨y01 HF.out.symm,HB.out.trans (H2.out.mono HS.out)⟩
  | true =>
   have HF:Hid (trB t=b3):=by show _=_;rw[HE.out,decide_eq_true rfl];rfl
   go_enter Tryz.func117,Tryz.ntmps117
   go_upto_region 1 with fail
   try simp only[hR]
   try rw[hW0]
   clear hW0
   go_wp2_with fail
   refine hv.mono ?_
   rintro e W2 ⟨rfl,h2⟩
   have H2:=hidR h2
   have HW2:Hid (Below w.heap.size w W2):=HB.out.trans (h2.mono HS.out)
   obtain⟨y0,y1,y2⟩:=hcell.out W2 h2
   clear hv h2
   go_wp2_with fail
   refine (hq _).mono ?_
   rintro e W3 ⟨rfl,rfl⟩
   have hal:=HAL.out W3 HW2.out
   go_wp2_with fail
   refine hal.mono ?_
   rintro e W4 ⟨rfl,h4⟩
   have H4:=hidR h4
   clear hal h4
   go_wp2
   go_ret
   exact⟨y01 HF.out.symm,HW2.out.trans (H4.out.mono HW2.out.size)⟩
end
section
open Go.RowKit Go.Maps
open Lx (Tk ofL KsAt)
theorem cst {W:World}{b:Nat}{vs:List Value}{ty:TypeId}(h:W.heap[b]? =some (.cells vs.toArray ty (0,0))){i:Nat}{v:Value}(hv:vs[i]? =some v):W.cell? ⟨b,i,none⟩=some v:=by
 simp[World.cell?,h,hv]
theorem frc {W:World}{b o:Nat}{cs:Array Value}{ty:TypeId}(h:W.heap[b]? =some (.cells cs ty (0,0))):W.frozen? ⟨b,o,none⟩=false:=by simp[World.frozen?,h]
theorem hid {p:Prop}(h:p):Hid p:=h
theorem y1h {W W':World}{v:Value}{l:List Tk}(h:KsAt W v l)(hs:W.heap.size<=W'.heap.size)(hb:∀b,v.ownBlock=some b->W'.heap[b]? =W.heap[b]?):KsAt W' v l:=by
 obtain⟨a,c,e,h1,h2,h3⟩:=h
 refine⟨a,c,e,h1,h2,fun h0=>?_⟩
 obtain⟨b,o,hlt,ea,hc⟩:=h3 h0
 have hk:=hb b (by rw[e,ea];rfl)
 refine⟨b,o,jI hlt hs,ea,fun i hi=>?_⟩
 obtain⟨c0,c1,c2⟩:=hc i hi
 have key:∀k v,W.cell? ⟨b,k,none⟩=some v->W'.cell? ⟨b,k,none⟩=some v:=fun k v hc=>(World.cell?_of_block (a:=⟨b,k,none⟩) hk).trans hc
 exact⟨key _ _ c0,key _ _ c1,key _ _ c2⟩
structure Bx (W:World) (B:Nat) (n:Nat) (m:Nat) (l:List Tk) (c2 c3 c4 c5:Value):Prop where
 ks:∃rv,W.heap[B]? =some (.cells #[rv,.int .i64 (n:Nat),c2,c3,c4,c5] 55 (0,0))∧KsAt W rv l∧∀b,rv.ownBlock=some b->b<m
 mB:m<=B
theorem Bx.keep {W W':World}{B n m:Nat}{l:List Tk}{c2 c3 c4 c5:Value}(h:Bx W B n m l c2 c3 c4 c5)(hb:Below W.heap.size W W'):Bx W' B n m l c2 c3 c4 c5:=by
 obtain⟨rv,h1,h2,h3⟩:=h.ks
 exact⟨⟨rv,(hb.block B (jG h1).1).trans h1,h2.keep hb (jJ _),h3⟩,h.mB⟩
def tokV (n:Nat):List Tk->Value
 | []=>.agg #[.int .i64 0,.int .i64 (n:Nat),.string ⟨#[]⟩]
 | t::_=>.agg #[.int .i64 t.k,.int .i64 (t.a:Nat),.string (ofL t.t)]
abbrev tokC (n:Nat)(l:List Tk):List Value:=match l with
 | []=>[.int .i64 0,.int .i64 (n:Nat),.string ⟨#[]⟩]
 | t::_=>[.int .i64 t.k,.int .i64 (t.a:Nat),.string (ofL t.t)]
theorem y2l {w:World}{B n m:Nat}{l:List Tk}{c2 c3 c4 c5:Value}(h:Bx w B n m l c2 c3 c4 c5) :
  Calls Tryz.prog 56 #[.pointer (some ⟨B,0,none⟩)] w fun e w'=>e=.returned (tokV n l)∧Below w.heap.size w w':=by
 obtain⟨rv,h1,h2,h3⟩:=h.ks
 have x0:w.cell? ⟨B,0,none⟩=some rv:=cst (vs:=[_,_,_,_,_,_]) h1 rfl
 have x1:w.cell? ⟨B,1,none⟩=some (.int .i64 (n:Nat)):=cst (vs:=[_,_,_,_,_,_]) h1 rfl
 have hlt:=(jG h1).1
 obtain⟨a,c,rfl,k1,k2,k3⟩:=h2
 have hbb:=bbx w (.cells (tokC n l).toArray 57)
 have HB:=hid hbb
 clear hbb h1 h3
 cases l with
 | nil =>
  simp only[List.length_nil]at x0
  go_enter Tryz.func56,Tryz.ntmps56
  go_wp2
  refine bodyPost_ret (v:=tokV n []) (by simp[results,Tryz.results56,go_sem,tokV]) rfl ?_
  exact⟨rfl,HB.out⟩
 | cons t r =>
  obtain⟨b,o,kl,rfl,hc⟩:=k3 (by simp)
  obtain⟨d0,d1,d2⟩:=hc 0 (by simp)
  simp only[Nat.zero_mul,Nat.add_zero,jC]at d0 d1 d2
  have hl0:(((t::r).length:Int)==0)=false:=by rw[beq_eq_false_iff_ne];simp only[jK];omega
  have hl1:(0:Int)<((t::r).length:Int):=by simp only[jK];omega
  clear hc k3
  generalize (t::r).length=m at *
  go_enter Tryz.func56,Tryz.ntmps56
  go_wp2
  refine bodyPost_ret (v:=tokV n (t::r)) (by simp[results,Tryz.results56,go_sem,tokV]) rfl ?_
  exact⟨rfl,HB.out⟩
def signB (l:List Tk):ByteArray:=match l with
 | []=>⟨#[]⟩
 | t::_=>if t.k=4∨t.k=3 then ofL t.t else ⟨#[]⟩
theorem y1l {w:World}{B n m:Nat}{l:List Tk}{c2 c3 c4 c5:Value}(h:Bx w B n m l c2 c3 c4 c5) :
  Calls Tryz.prog 132 #[.pointer (some ⟨B,0,none⟩)] w fun e w'=>e=.returned (.string (signB l))∧Below w.heap.size w w':=by
 have ha:=y2l h
 clear h
 cases l with
 | nil =>
  unfold tokV at ha
  go_enter Tryz.func132,Tryz.ntmps132
  go_wp2_with fail
  refine ha.mono ?_
  rintro e W1 ⟨rfl,hb⟩
  have HB:Hid (Below w.heap.size w (W1.alloc (.cells #[.int .i64 0,.int .i64 (n:Nat),.string ⟨#[]⟩] 57))):=hb.trans ((bbx _ _).mono hb.size)
  clear ha hb
  go_wp2
  go_ret
  exact⟨rfl,HB.out⟩
 | cons t r =>
  obtain⟨k,hk⟩:∃k,t.k=k:=⟨_,rfl⟩
  obtain⟨tx,htx⟩:∃x,ofL t.t=x:=⟨_,rfl⟩
  have HS:Hid (signB (t::r)=if k=4∨k=3 then tx else ⟨#[]⟩):=by show (if t.k=4∨t.k=3 then ofL t.t else _)=_;rw[hk,htx]
  have ha:Calls Tryz.prog 56 #[.pointer (some ⟨B,0,none⟩)] w fun e w'=>e=.returned (.agg #[.int .i64 k,.int .i64 (t.a:Nat),.string tx])∧Below w.heap.size w w':=by rw[<-hk,<-htx];exact ha
  clear htx hk
  by_cases h4:k=4
  ·subst h4
   go_enter Tryz.func132,Tryz.ntmps132
   go_wp2_with fail
   refine ha.mono ?_
   rintro e W1 ⟨rfl,hb⟩
   have HB:Hid (Below w.heap.size w (W1.alloc (.cells #[.int .i64 4,.int .i64 (t.a:Nat),.string tx] 57))):=hb.trans ((bbx _ _).mono hb.size)
   clear ha hb
   go_wp2
   go_ret
   refine⟨?_,HB.out⟩
   rw[HS.out,if_pos (.inl trivial)]
   rfl
  ·have e4:(k==4)=false:=by simp[h4]
   by_cases h3:k=3
   ·subst h3
    go_enter Tryz.func132,Tryz.ntmps132
    go_wp2_with fail
    refine ha.mono ?_
    rintro e W1 ⟨rfl,hb⟩
    have HB:Hid (Below w.heap.size w (W1.alloc (.cells #[.int .i64 3,.int .i64 (t.a:Nat),.string tx] 57))):=hb.trans ((bbx _ _).mono hb.size)
    clear ha hb
    go_wp2
    go_ret
    refine⟨?_,HB.out⟩
    rw[HS.out,if_pos (.inr trivial)]
    rfl
   ·have e3:(k==3)=false:=by simp[h3]
    have HN:Hid (¬(k=4∨k=3)):=fun h=>h.elim h4 h3
    go_enter Tryz.func132,Tryz.ntmps132
    go_wp2_with fail
    refine ha.mono ?_
    rintro e W1 ⟨rfl,hb⟩
    have HB:Hid (Below w.heap.size w (W1.alloc (.cells #[.int .i64 k,.int .i64 (t.a:Nat),.string tx] 57))):=hb.trans ((bbx _ _).mono hb.size)
    clear ha hb
    go_wp2
    go_ret
    refine⟨?_,HB.out⟩
    rw[HS.out,if_neg HN.out]
    rfl
theorem Bx.tail {W:World}{B n m:Nat}{t:Tk}{r:List Tk}{c2 c3 c4 c5:Value}(h:Bx W B n m (t::r) c2 c3 c4 c5):∃b o c,b<W.heap.size∧b≠B∧W.heap[B]? =some (.cells #[.slice (some ⟨b,o,none⟩) (r.length+1) c,.int .i64 (n:Nat),c2,c3,c4,c5] 55 (0,0))∧r.length+1<=c∧c<=maxLen∧
  ∀W' o',(r.length≠0->o'=o+3)->W'.heap[b]? =W.heap[b]?->W.heap.size<=W'.heap.size->W'.heap[B]? =some (.cells #[.slice (some ⟨b,o',none⟩) r.length (c-1),.int .i64 (n:Nat),c2,c3,c4,c5] 55 (0,0))->Bx W' B n m r c2 c3 c4 c5:=by
 obtain⟨rv,h1,h2,h3⟩:=h.ks
 obtain⟨a,c,rfl,k1,k2,k3⟩:=h2
 obtain⟨b,o,kl,rfl,hc⟩:=k3 (by simp)
 have hbm:b<m:=h3 b rfl
 have hmB:=h.mB
 have hne:b≠B:=by omega
 refine⟨b,o,c,kl,hne,h1,k1,by unfold maxLen;exact k2,fun W' o' ho hk hs hB=>⟨⟨_,hB,?_,fun b' hb'=>by cases hb';exact hbm⟩,hmB⟩⟩
 refine⟨_,_,rfl,by simp only[jK]at k1;omega,by omega,fun h0=>⟨b,o',jI kl hs,rfl,fun i hi=>?_⟩⟩
 have key:∀k v,W.cell? ⟨b,k,none⟩=some v->W'.cell? ⟨b,k,none⟩=some v:=fun k v hc=>(World.cell?_of_block (a:=⟨b,k,none⟩) hk).trans hc
 obtain⟨d0,d1,d2⟩:=hc (i+1) (by simpa using hi)
 have hoo:=ho (by omega)
 rw[show o+(i+1)*3=o'+i*3 by omega]at d0 d1 d2
 exact⟨key _ _ d0,key _ _ d1,key _ _ d2⟩
theorem y07 {w W:World}(hb:Below w.heap.size w W)(B o:Nat)(v:Value):Only [B] w (W.setCell ⟨B,o,none⟩ v):=
 ⟨hb.os,hb.tape,hb.output,by simpa using hb.size,fun k hk hn=>(Below.heap_setCell _ _ _ k (fun e=>hn (by rw[e];simp))).trans (hb.block k hk)⟩
theorem skip_yes {w:World}{B n m:Nat}{t:Tk}{r:List Tk}{c2 c3 c4 c5:Value}(h:Bx w B n m (t::r) c2 c3 c4 c5)(s:ByteArray)(hs:signB (t::r)=s) :
  Calls Tryz.prog 134 #[.pointer (some ⟨B,0,none⟩),.string s] w fun e w'=>e=.returned (.bool true)∧Bx w' B n m r c2 c3 c4 c5∧Only [B] w w':=by
 have ha:=y1l h
 rw[hs]at ha
 have H:=hid h
 clear h hs
 go_enter Tryz.func134,Tryz.ntmps134
 go_wp2_with fail
 refine ha.mono ?_
 rintro e W1 ⟨rfl,hb⟩
 obtain⟨b,o,c,y0,y1,y2,x1,x2,y3⟩:=(H.out.keep hb).tail
 have x0:W1.cell? ⟨B,0,none⟩=some (.slice (some ⟨b,o,none⟩) (r.length+1) c):=cst (vs:=[_,_,_,_,_,_]) y2 rfl
 have x3:W1.frozen? ⟨B,0,none⟩=false:=frc y2
 have HT:Hid (∀o',(r.length≠0->o'=o+3)->Bx (W1.setCell ⟨B,0,none⟩ (.slice (some ⟨b,o',none⟩) r.length (c-1))) B n m r c2 c3 c4 c5):=fun o' ho=>y3 _ o' ho (Below.heap_setCell _ _ _ b y1) (by simp) (by have:=heap_setCell_same W1 B 0 _ 55 (.slice (some ⟨b,o',none⟩) r.length (c-1)) y2;simpa using this)
 have HB:=hid hb
 clear ha hb y0 y1 y2 y3
 by_cases hc1:c=1
 ·subst hc1
  have hr:r.length=0:=by omega
  rw[hr]at x0 HT
  go_wp2
  go_ret
  exact⟨rfl,HT.out o (fun h=>absurd rfl h),y07 HB.out _ _ _⟩
 ·go_wp2
  go_ret
  exact⟨rfl,HT.out (o+3) (fun _=>rfl),y07 HB.out _ _ _⟩
theorem skip_no {w:World}{B n m:Nat}{l:List Tk}{c2 c3 c4 c5:Value}(h:Bx w B n m l c2 c3 c4 c5)(s:ByteArray)(hs:signB l≠s) :
  Calls Tryz.prog 134 #[.pointer (some ⟨B,0,none⟩),.string s] w fun e w'=>e=.returned (.bool false)∧Below w.heap.size w w':=by
 have ha:=y1l h
 obtain⟨x,hx⟩:∃x,signB l=x:=⟨_,rfl⟩
 rw[hx]at ha hs
 have hne:(x.toList==s.toList)=false:=by rw[beq_eq_false_iff_ne];exact fun h=>hs (y0i.1 h)
 clear h hx hs
 go_enter Tryz.func134,Tryz.ntmps134
 go_wp2_with fail
 refine ha.mono ?_
 rintro e W1 ⟨rfl,hb⟩
 have HB:=hid hb
 clear ha hb
 go_wp2
 go_ret
 exact⟨rfl,HB.out⟩
abbrev misfit:List PanicEntry:=[{ v:=.iface 158 (.agg #[]),recovered:=false }]
theorem must_yes {w:World}{B n m:Nat}{t:Tk}{r:List Tk}{c2 c3 c4 c5:Value}(h:Bx w B n m (t::r) c2 c3 c4 c5)(s:ByteArray)(hs:signB (t::r)=s) :
  Calls Tryz.prog 133 #[.pointer (some ⟨B,0,none⟩),.string s] w fun e w'=>e=.returned (.tuple #[])∧Bx w' B n m r c2 c3 c4 c5∧Only [B] w w':=by
 have ha:=skip_yes h s hs
 clear h hs
 go_enter Tryz.func133,Tryz.ntmps133
 go_wp2_with fail
 refine ha.mono ?_
 rintro e W1 ⟨rfl,h1,h2⟩
 have H:=hid (And.intro h1 h2)
 clear ha h1 h2
 go_wp2
 refine bodyPost_end (results_none rfl _ _ _) rfl ?_
 exact⟨rfl,H.out.1,H.out.2⟩
theorem must_no {w:World}{B n m:Nat}{l:List Tk}{c2 c3 c4 c5:Value}(h:Bx w B n m l c2 c3 c4 c5)(s:ByteArray)(hs:signB l≠s) :
  Calls Tryz.prog 133 #[.pointer (some ⟨B,0,none⟩),.string s] w fun e w'=>e=.panicked misfit∧Below w.heap.size w w':=by
 have ha:=skip_no h s hs
 clear h hs
 go_enter Tryz.func133,Tryz.ntmps133
 go_wp2_with fail
 refine ha.mono ?_
 rintro e W1 ⟨rfl,hb⟩
 have HB:=hid hb
 clear ha hb
 go_wp2
 exact⟨rfl,rfl,HB.out⟩
theorem tok_box {X:World}{g:Nat}{u v s:Value}(h:X.heap[g]? =some (.cells #[u,v,s] 57 (0,0)))(x y z:Value) :
  (((X.setCell ⟨g,0,none⟩ x).setCell ⟨g,1,none⟩ y).setCell ⟨g,2,none⟩ z).cell? ⟨g,0,none⟩=some x∧(((X.setCell ⟨g,0,none⟩ x).setCell ⟨g,1,none⟩ y).setCell ⟨g,2,none⟩ z).cell? ⟨g,1,none⟩=some y∧(((X.setCell ⟨g,0,none⟩ x).setCell ⟨g,1,none⟩ y).setCell ⟨g,2,none⟩ z).cell? ⟨g,2,none⟩=some z:=by
 have e1:=heap_setCell_same X g 0 _ 57 x h
 have e2:=heap_setCell_same _ g 1 _ 57 y e1
 have e3:=heap_setCell_same _ g 2 _ 57 z e2
 have e4:(((X.setCell ⟨g,0,none⟩ x).setCell ⟨g,1,none⟩ y).setCell ⟨g,2,none⟩ z).heap[g]? =some (.cells #[x,y,z] 57 (0,0)):=by simpa using e3
 exact⟨cst (vs:=[_,_,_]) e4 rfl,cst (vs:=[_,_,_]) e4 rfl,cst (vs:=[_,_,_]) e4 rfl⟩
theorem take_yes {w:World}{B n m:Nat}{t:Tk}{r:List Tk}{c2 c3 c4 c5:Value}(h:Bx w B n m (t::r) c2 c3 c4 c5) :
  Calls Tryz.prog 207 #[.pointer (some ⟨B,0,none⟩),.int .i64 t.k] w fun e w'=>e=.returned (tokV n (t::r))∧Bx w' B n m r c2 c3 c4 c5∧Only [B] w w':=by
 have hb0:=bbx w (.cells #[.int .i64 0,.int .i64 0,.string ⟨#[]⟩] 57)
 obtain⟨b,o,c,y0,y1,y2,x1,x2,y3⟩:=h.tail
 have hBl:=(jG y2).1
 have h0:=h.keep hb0
 have hz:=(jH w (.cells #[.int .i64 0,.int .i64 0,.string ⟨#[]⟩] 57)).1
 obtain⟨W0,hW0⟩:∃X,w.alloc (.cells #[.int .i64 0,.int .i64 0,.string ⟨#[]⟩] 57)=X:=⟨_,rfl⟩
 rw[hW0]at h0 hb0 hz
 obtain⟨k,hk⟩:∃k,t.k=k:=⟨_,rfl⟩
 obtain⟨tx,htx⟩:∃x,ofL t.t=x:=⟨_,rfl⟩
 have ha:Calls Tryz.prog 56 #[.pointer (some ⟨B,0,none⟩)] W0 fun e w'=>e=.returned (.agg #[.int .i64 k,.int .i64 (t.a:Nat),.string tx])∧Below W0.heap.size W0 w':=by rw[<-hk,<-htx];exact y2l h0
 have HV:Hid (tokV n (t::r)=.agg #[.int .i64 k,.int .i64 (t.a:Nat),.string tx]):=by show Value.agg #[.int .i64 t.k,_,.string (ofL t.t)]=_;rw[hk,htx]
 have H0:Hid (Below w.heap.size w W0∧W0.heap[w.heap.size]? =some (.cells #[.int .i64 0,.int .i64 0,.string ⟨#[]⟩] 57 (0,0))∧b<w.heap.size∧b≠B∧B<w.heap.size∧w.heap[B]? =some (.cells #[.slice (some ⟨b,o,none⟩) (r.length+1) c,.int .i64 (n:Nat),c2,c3,c4,c5] 55 (0,0))):=⟨hb0,hz,y0,y1,hBl,y2⟩
 have H3:Hid (∀W' o',(r.length≠0->o'=o+3)->W'.heap[b]? =w.heap[b]?->w.heap.size<=W'.heap.size->W'.heap[B]? =some (.cells #[.slice (some ⟨b,o',none⟩) r.length (c-1),.int .i64 (n:Nat),c2,c3,c4,c5] 55 (0,0))->Bx W' B n m r c2 c3 c4 c5):=y3
 rw[hk]
 clear h h0 hb0 hz hk htx y0 y1 y2 y3 hBl
 go_enter Tryz.func207,Tryz.ntmps207
 go_upto_region 1 with fail
 try rw[hW0]
 clear hW0
 go_wp2_with fail
 refine ha.mono ?_
 rintro e W1 ⟨rfl,hb1⟩
 have hb2:=bbx W1 (.cells #[.int .i64 k,.int .i64 (t.a:Nat),.string tx] 57)
 obtain⟨t0,t1,t2⟩:(W1.alloc (.cells #[.int .i64 k,.int .i64 (t.a:Nat),.string tx] 57)).cell? ⟨W1.heap.size,0,none⟩=some (.int .i64 k)∧(W1.alloc (.cells #[.int .i64 k,.int .i64 (t.a:Nat),.string tx] 57)).cell? ⟨W1.heap.size,1,none⟩=some (.int .i64 (t.a:Nat))∧(W1.alloc (.cells #[.int .i64 k,.int .i64 (t.a:Nat),.string tx] 57)).cell? ⟨W1.heap.size,2,none⟩=some (.string tx):=by
  have:=(jH W1 (.cells #[.int .i64 k,.int .i64 (t.a:Nat),.string tx] 57)).1
  exact⟨cst (vs:=[_,_,_]) this rfl,cst (vs:=[_,_,_]) this rfl,cst (vs:=[_,_,_]) this rfl⟩
 have hz1:=(hb1.block w.heap.size (jG H0.out.2.1).1).trans H0.out.2.1
 have hs0:=H0.out.1.size
 have hs1:=hb1.size
 have hzl:=(jG H0.out.2.1).1
 go_upto_region 2 with fail
 obtain⟨W2,hW2⟩:∃X,W1.alloc (.cells #[.int .i64 k,.int .i64 (t.a:Nat),.string tx] 57)=X:=⟨_,rfl⟩
 rw[hW2]at hb2 t0 t1 t2 ⊢
 have hz2:=(hb2.block w.heap.size (by omega)).trans hz1
 have hb12:Below w.heap.size w W2:=(H0.out.1.trans (hb1.mono hs0)).trans (hb2.mono (by omega))
 have hB2:=(hb12.block B H0.out.2.2.2.2.1).trans H0.out.2.2.2.2.2
 have x0:W2.cell? ⟨B,0,none⟩=some (.slice (some ⟨b,o,none⟩) (r.length+1) c):=cst (vs:=[_,_,_,_,_,_]) hB2 rfl
 have x3:W2.frozen? ⟨B,0,none⟩=false:=frc hB2
 have HZ:Hid (∀v,(W2.setCell ⟨B,0,none⟩ v).heap[w.heap.size]? =some (.cells #[.int .i64 0,.int .i64 0,.string ⟨#[]⟩] 57 (0,0))∧(W2.setCell ⟨B,0,none⟩ v).cell? ⟨W1.heap.size,0,none⟩=some (.int .i64 k)∧(W2.setCell ⟨B,0,none⟩ v).cell? ⟨W1.heap.size,1,none⟩=some (.int .i64 (t.a:Nat))∧(W2.setCell ⟨B,0,none⟩ v).cell? ⟨W1.heap.size,2,none⟩=some (.string tx)):=fun v=>by
  have hBl:=H0.out.2.2.2.2.1
  have hk:(W2.setCell ⟨B,0,none⟩ v).heap[W1.heap.size]? =W2.heap[W1.heap.size]?:=Below.heap_setCell _ _ _ _ (by show W1.heap.size≠B;omega)
  exact⟨(Below.heap_setCell _ _ _ _ (by show w.heap.size≠B;omega)).trans hz2,(World.cell?_of_block (a:=⟨_,0,none⟩) hk).trans t0,(World.cell?_of_block (a:=⟨_,1,none⟩) hk).trans t1,(World.cell?_of_block (a:=⟨_,2,none⟩) hk).trans t2⟩
 have HF:Hid (∀o',(r.length≠0->o'=o+3)->∀x y z,Bx ((((W2.setCell ⟨B,0,none⟩ (.slice (some ⟨b,o',none⟩) r.length (c-1))).setCell ⟨w.heap.size,0,none⟩ x).setCell ⟨w.heap.size,1,none⟩ y).setCell ⟨w.heap.size,2,none⟩ z) B n m r c2 c3 c4 c5∧Only [B] w ((((W2.setCell ⟨B,0,none⟩ (.slice (some ⟨b,o',none⟩) r.length (c-1))).setCell ⟨w.heap.size,0,none⟩ x).setCell ⟨w.heap.size,1,none⟩ y).setCell ⟨w.heap.size,2,none⟩ z)):=fun o' ho x y z=>by
  have hBl:=H0.out.2.2.2.2.1
  have key:∀q,q≠w.heap.size->((((W2.setCell ⟨B,0,none⟩ (.slice (some ⟨b,o',none⟩) r.length (c-1))).setCell ⟨w.heap.size,0,none⟩ x).setCell ⟨w.heap.size,1,none⟩ y).setCell ⟨w.heap.size,2,none⟩ z).heap[q]? =(W2.setCell ⟨B,0,none⟩ (.slice (some ⟨b,o',none⟩) r.length (c-1))).heap[q]?:=fun q hq =>
   (Below.heap_setCell _ _ _ q hq).trans ((Below.heap_setCell _ _ _ q hq).trans (Below.heap_setCell _ _ _ q hq))
  have hsz:=hb12.size
  refine⟨H3.out _ o' ho ((key b (by have:=H0.out.2.2.1;omega)).trans ((Below.heap_setCell _ _ _ b H0.out.2.2.2.1).trans (hb12.block b H0.out.2.2.1))) (by simpa using hsz) ((key B (by omega)).trans ?_),hb12.os,hb12.tape,hb12.output,by simpa using hsz,fun q hq hn=>?_⟩
  ·have:=heap_setCell_same W2 B 0 _ 55 (.slice (some ⟨b,o',none⟩) r.length (c-1)) hB2
   simpa using this
  ·exact (key q (by omega)).trans ((Below.heap_setCell _ _ _ q (fun e=>hn (by rw[e];simp))).trans (hb12.block q hq))
 clear ha hb1 hb2 hz1 hz2 hzl hB2 hW2 hb12 hs0 hs1
 by_cases hc1:c=1
 ·subst hc1
  have hr:r.length=0:=by omega
  rw[hr]at x0 HF
  obtain⟨z0,z1,z2,z3⟩:=HZ.out (.slice (some ⟨b,o,none⟩) 0 0)
  have zf:∀j,(W2.setCell ⟨B,0,none⟩ (.slice (some ⟨b,o,none⟩) 0 0)).frozen? ⟨w.heap.size,j,none⟩=false:=fun j=>frc z0
  have zf0:=zf 0
  have zf1:=zf 1
  have zf2:=zf 2
  obtain⟨q0,q1,q2⟩:(W2.setCell ⟨B,0,none⟩ (.slice (some ⟨b,o,none⟩) 0 0)).cell? ⟨w.heap.size,0,none⟩=some (.int .i64 0)∧(W2.setCell ⟨B,0,none⟩ (.slice (some ⟨b,o,none⟩) 0 0)).cell? ⟨w.heap.size,1,none⟩=some (.int .i64 0)∧(W2.setCell ⟨B,0,none⟩ (.slice (some ⟨b,o,none⟩) 0 0)).cell? ⟨w.heap.size,2,none⟩=some (.string ⟨#[]⟩):=⟨cst (vs:=[_,_,_]) z0 rfl,cst (vs:=[_,_,_]) z0 rfl,cst (vs:=[_,_,_]) z0 rfl⟩
  have HX:=hid (tok_box z0 (.int .i64 k) (.int .i64 (t.a:Nat)) (.string tx))
  clear zf z0
  go_wp2
  obtain⟨p0,p1,p2⟩:=HX.out
  refine bodyPost_ret (v:=.agg #[.int .i64 k,.int .i64 (t.a:Nat),.string tx]) (by simp[results,Tryz.results207,go_sem,p0,p1,p2]) rfl ?_
  exact⟨by rw[HV.out],HF.out o (fun h=>absurd rfl h) _ _ _⟩
 ·obtain⟨z0,z1,z2,z3⟩:=HZ.out (.slice (some ⟨b,o+3,none⟩) r.length (c-1))
  have zf:∀j,(W2.setCell ⟨B,0,none⟩ (.slice (some ⟨b,o+3,none⟩) r.length (c-1))).frozen? ⟨w.heap.size,j,none⟩=false:=fun j=>frc z0
  have zf0:=zf 0
  have zf1:=zf 1
  have zf2:=zf 2
  obtain⟨q0,q1,q2⟩:(W2.setCell ⟨B,0,none⟩ (.slice (some ⟨b,o+3,none⟩) r.length (c-1))).cell? ⟨w.heap.size,0,none⟩=some (.int .i64 0)∧(W2.setCell ⟨B,0,none⟩ (.slice (some ⟨b,o+3,none⟩) r.length (c-1))).cell? ⟨w.heap.size,1,none⟩=some (.int .i64 0)∧(W2.setCell ⟨B,0,none⟩ (.slice (some ⟨b,o+3,none⟩) r.length (c-1))).cell? ⟨w.heap.size,2,none⟩=some (.string ⟨#[]⟩):=⟨cst (vs:=[_,_,_]) z0 rfl,cst (vs:=[_,_,_]) z0 rfl,cst (vs:=[_,_,_]) z0 rfl⟩
  have HX:=hid (tok_box z0 (.int .i64 k) (.int .i64 (t.a:Nat)) (.string tx))
  clear zf z0
  go_wp2
  obtain⟨p0,p1,p2⟩:=HX.out
  refine bodyPost_ret (v:=.agg #[.int .i64 k,.int .i64 (t.a:Nat),.string tx]) (by simp[results,Tryz.results207,go_sem,p0,p1,p2]) rfl ?_
  exact⟨by rw[HV.out],HF.out (o+3) (fun _=>rfl) _ _ _⟩
theorem take_no {w:World}{B n m:Nat}{l:List Tk}{c2 c3 c4 c5:Value}(h:Bx w B n m l c2 c3 c4 c5)(k:Int)(hk:isK k l=false)(hk0:k≠0) :
  Calls Tryz.prog 207 #[.pointer (some ⟨B,0,none⟩),.int .i64 k] w fun e w'=>e=.panicked misfit∧Below w.heap.size w w':=by
 have hb0:=bbx w (.cells #[.int .i64 0,.int .i64 0,.string ⟨#[]⟩] 57)
 have h0:=h.keep hb0
 obtain⟨W0,hW0⟩:∃X,w.alloc (.cells #[.int .i64 0,.int .i64 0,.string ⟨#[]⟩] 57)=X:=⟨_,rfl⟩
 rw[hW0]at h0 hb0
 obtain⟨k',a',x',hv,hne⟩:∃(k':Int) (a':Nat) (x':ByteArray),tokV n l=.agg #[.int .i64 k',.int .i64 (a':Nat),.string x']∧k'≠k:=by
  cases l with
  | nil=>exact⟨0,n,_,rfl,fun e=>hk0 e.symm⟩
  | cons t r=>exact⟨t.k,t.a,_,rfl,by simpa [isK] using hk⟩
 have ha:Calls Tryz.prog 56 #[.pointer (some ⟨B,0,none⟩)] W0 fun e w'=>e=.returned (.agg #[.int .i64 k',.int .i64 (a':Nat),.string x'])∧Below W0.heap.size W0 w':=by rw[<-hv];exact y2l h0
 have hkb:(k' != k)=true:=by rw[bne_iff_ne];exact hne
 have H0:=hid hb0
 clear h h0 hb0 hk hk0 hv hne
 go_enter Tryz.func207,Tryz.ntmps207
 go_upto_region 1 with fail
 try rw[hW0]
 clear hW0
 go_wp2_with fail
 refine ha.mono ?_
 rintro e W1 ⟨rfl,hb1⟩
 have HB:Hid (Below w.heap.size w (W1.alloc (.cells #[.int .i64 k',.int .i64 (a':Nat),.string x'] 57))):=H0.out.trans ((hb1.mono H0.out.size).trans ((bbx W1 _).mono (Nat.le_trans H0.out.size hb1.size)))
 clear ha hb1
 go_wp2
 exact⟨rfl,rfl,HB.out⟩
end
