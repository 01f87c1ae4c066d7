import Derived.Test.YthkinkcpfcpehaaGreatDoorZS
import Derived.Test.YthkinkcpfcpehaaGreatDoorGC
import Derived.RangeFuncNested
import Derived.RangeFuncBound
import Derived.RangeFuncCalls
import Derived.RangeFuncLeaves
import Derived.Shelf.RegionOpen
import Derived.OwnWalkIn
import Derived.TacticsInMore
import Derived.LoopNIn
import Derived.LoopIn
namespace Go.Proofs.YthkinkcpfcpehaaGreatDoor
set_option maxRecDepth 100000
set_option maxHeartbeats 8000000
section
open Go.RowKit Go.Maps
open Lx (Tk ofL KsAt flK y0r rkp rbk rsl)
theorem Nm.put_old {W:World}{b n:Nat}{f:jV}(h:Nm W b f n)(hn:n<maxLen){s:ByteArray}(hs:s.size<=maxLen)(c:Int)(hx:(f s).isSome=true):∃W',(Instr.mapUpdate 50 (.map (some b)) (.string s) (.int .i64 c)).run Tryz.prog W=.ok () W'∧Nm W' b (fput f s c) n∧Only [b] W W':=by
 obtain⟨k,hk,hm⟩:=h.m
 obtain⟨W',h1,h2,h3⟩:=hm.put keyed9 Tryz.underlying50 (by omega) (key9 hs) (.int .i64 c)
 rw[smp_put]at h2
 refine⟨W',h1,⟨_,?_,h2⟩,Only.of_grown h3 (fun r e=>by cases e;simp)⟩
 obtain⟨v,hv⟩:=Option.isSome_iff_exists.1 hx
 have:smp f (.string s)=some (.int .i64 v):=by simp[smp,hv]
 rw[this]
 exact hk
section
variable {E : Env} {W W' : World} {l : List Tk} {bd bd' : List jU} {fr : List Tk} {kb kb' : Nat} {fv c5 : Value}
theorem PSt.put (h:PSt E W l bd fr kb fv c5){f':jV}(hf:Nm W' E.mb f' kb')(hc:∀s,(f' (ofL s)).getD 0=(bd'.count s:Nat))(ho:Only [E.mb] W W')(hb:kb'+l.length<=E.N):PSt E W' l bd' fr kb' fv c5∧Stay E W fv W' fv:=by
 obtain⟨g,hg,hg2⟩:=h.met
 obtain⟨rv,b1,b2,b3⟩:=h.bx.ks
 have hBl:=(jG b1).1
 have hlo:=h.lo.1
 refine⟨⟨⟨⟨rv,(ho.block _ hBl (by simpa using fun e=>h.mbB e.symm)).trans b1,y1h b2 ho.size (fun b hb=>?_),b3⟩,h.bx.mB⟩,⟨f',hf,hc⟩,⟨g,hg.same (ho.block _ hg.lt (by simpa using fun e=>h.ne e.symm)),hg2⟩,?_,hb,h.bud2,h.mx,h.tok,h.ne,h.lo⟩,Stay.of_only ho (fun r hr=>by simp at hr;exact .inr (.inl hr))⟩
 ·have:=b3 b hb
  have:=h.bx.mB
  exact ho.block b (by omega) (by simp;omega)
 ·exact rkp h.row (fun r hr=>ho.block r (h.fvlt hr).2 (fun hm=>by simp at hm;subst hm;exact h.fvb hr))
end
theorem count_step (vs bd:List jU){i:Nat}(hi:i<vs.length)(s:jU):(vs.take (i+1)++bd).count s=(vs.take i++bd).count s+if s=vs[i] then 1 else 0:=by
 rw[List.take_succ_eq_append_getElem hi,List.count_append,List.count_append,List.count_append,List.count_cons,List.count_nil]
 by_cases h:s=vs[i]
 ·subst h;simp;omega
 ·rw[if_neg h,if_neg (by simpa using fun e=>h e.symm)];omega
theorem count_drop (vs bd:List jU){i:Nat}(hi:i<vs.length)(s:jU):(vs.drop i++bd).count s=(vs.drop (i+1)++bd).count s+if s=vs[i] then 1 else 0:=by
 rw[List.drop_eq_getElem_cons hi,List.cons_append,List.count_cons]
 by_cases h:s=vs[i]
 ·subst h;simp
 ·rw[if_neg h,if_neg (by simpa using fun e=>h e.symm)]
theorem wrapm {n:Int}(h0:1<=n)(h:n<=1048576000):wrap64 (n-1)=n-1:=by unfold wrap64;omega
theorem row_name {W:World}{n0:Nat}{a:Option Addr}{c:Nat}{vs:List jU}(h:W.ownsRow n0 9 1 (.slice a vs.length c) vs.length (flS vs)){i:Nat}(hi:i<vs.length):∃g,a=some ⟨g,0,none⟩∧W.cell? ⟨g,i,none⟩=some (.string (ofL vs[i])):=by
 obtain⟨hl,⟨e,h0⟩|⟨g,cap,cur,e,hb,hg,hc,hm,hsz,ht⟩⟩:=h
 ·omega
 ·cases e
  refine⟨g,rfl,?_⟩
  have hj:(flS vs)[i]? =some (.string (ofL vs[i])):=by simp[flS,hi]
  rw[<-ht,List.getElem?_take,if_pos (by omega),Array.getElem?_toList]at hj
  simp[World.cell?,hg,hj]
theorem fput_inc {f:jV}{bd bd':List jU}(hf:∀s,(f (ofL s)).getD 0=(bd.count s:Nat)){s0:jU}(hc:∀s,bd'.count s=bd.count s+if s=s0 then 1 else 0)(s:jU):(fput f (ofL s0) ((f (ofL s0)).getD 0+1) (ofL s)).getD 0=(bd'.count s:Nat):=by
 rw[hc]
 unfold fput
 by_cases h:s=s0
 ·subst h;rw[if_pos rfl,if_pos rfl,hf];simp
 ·rw[if_neg (fun e=>h (y1z e)),if_neg h,hf];simp
theorem fput_dec {f:jV}{bd bd':List jU}(hf:∀s,(f (ofL s)).getD 0=(bd.count s:Nat)){s0:jU}(hc:∀s,bd.count s=bd'.count s+if s=s0 then 1 else 0)(s:jU):(fput f (ofL s0) ((f (ofL s0)).getD 0-1) (ofL s)).getD 0=(bd'.count s:Nat):=by
 unfold fput
 by_cases h:s=s0
 ·subst h;rw[if_pos rfl,hf,hc,if_pos rfl];simp
 ·rw[if_neg (fun e=>h (y1z e)),hf,hc,if_neg h];simp
structure StayI (I:Nat) (E:Env) (W:World) (fv:Value) (W':World) (fv':Value):Prop where
 os:W'.os=W.os
 tape:W'.tape=W.tape
 output:W'.output=W.output
 size:W.heap.size<=W'.heap.size
 blk:∀k,k<W.heap.size->¬Own E fv k->k≠I->W'.heap[k]? =W.heap[k]?
 own:∀k,k<W.heap.size->¬Own E fv k->¬Own E fv' k
structure WiI (E:Env) (w:World) (R:Nat) (l:List Tk) (bd:List jU) (fr:List Tk) (kb:Nat) (fv c5:Value) (sl:Value) (vs:List jU) (W:World):Prop where
 st:PSt E W l bd fr kb fv c5
 stay:Stay E w fv W fv
 box:W.heap[R]? =some (.cells #[.map (some E.mb),.map (some E.mm)] 52 (0,0))
 bR:¬Own E fv R
 row:W.ownsRow E.n0 9 1 sl vs.length (flS vs)
 own:∀g,sl.ownBlock=some g->¬Own E fv g
theorem WiI.put {E:Env}{w W W':World}{R:Nat}{l:List Tk}{bd bd':List jU}{fr:List Tk}{kb kb':Nat}{fv c5 sl:Value}{vs:List jU}(h:WiI E w R l bd fr kb fv c5 sl vs W){f':jV}(hf:Nm W' E.mb f' kb')(hc:∀s,(f' (ofL s)).getD 0=(bd'.count s:Nat))(ho:Only [E.mb] W W')(hb:kb'+l.length<=E.N):WiI E w R l bd' fr kb' fv c5 sl vs W':=by
 obtain⟨h1,h2⟩:=h.st.put hf hc ho hb
 refine⟨h1,h.stay.trans h2,(h2.blk R (jG h.box).1 h.bR).1.trans h.box,h.bR,rkp h.row (fun g hg=>?_),h.own⟩
 obtain⟨_,cu,hcu⟩:=rbk h.row hg
 exact (h2.blk g (jG hcu).1 (h.own g hg)).1
theorem within_any {E:Env}{c5:Value}{I:Nat}{l:List Tk}{w:World}{bd:List jU}{fr:List Tk}{kb:Nat}{fv sl:Value}{vs:List jU}{p1 p2:Value}(h:PSt E w l bd fr kb fv c5)(hrow:w.ownsRow E.n0 9 1 sl vs.length (flS vs))(hown:∀g,sl.ownBlock=some g->¬Own E fv g)(hlen:∀s∈vs,s.length<=maxLen)(hbud:kb+vs.length+l.length<=E.N)(hbd:vs.length+bd.length<=E.N)(hIl:I<w.heap.size)(hIr:∀g,sl.ownBlock=some g->g≠I)
  {Q:List Tk->List Tk->Value->World->World->Prop} {Z:List PanicEntry->World->World->Prop}
  (hw:∀X,PSt E X l (vs++bd) fr (kb+vs.length) fv c5->Stay E w fv X fv->Calls Tryz.prog 197 #[p1,p2] X fun e w'=>(e=.returned (.tuple #[])∧∃fr' q fv',Q fr' q fv' X w'∧(∃kb',PSt E w' q (vs++bd) (fr++fr') kb' fv' c5)∧StayI I E X fv w' fv')∨(∃x,e=.panicked x∧Z x X w')) :
  Calls Tryz.prog 85 #[.agg #[.map (some E.mb),.map (some E.mm)],sl,.func (.func 197) #[] #[p1,p2]] w fun e w' =>
   (e=.returned (.tuple #[])∧∃X W2 fr' q fv',Stay E w fv X fv∧Q fr' q fv' X W2∧StayI I E X fv W2 fv'∧(∃kb',PSt E w' q bd (fr++fr') kb' fv' c5)∧Stay E W2 fv' w' fv')∨(∃x X,e=.panicked x∧Stay E w fv X fv∧Z x X w'):=by
 obtain⟨va,vc,rfl⟩:=rsl hrow
 have hb0:=bbx w (.cells #[.map (some E.mb),.map (some E.mm)] 52)
 have hz:=(jH w (.cells #[.map (some E.mb),.map (some E.mm)] 52)).1
 have hW:WiI E w w.heap.size l ([].take 0++bd) fr (kb+0) fv c5 (.slice va vs.length vc) vs (w.alloc (.cells #[.map (some E.mb),.map (some E.mm)] 52)):=⟨h.keep hb0,Stay.of_below hb0,hz,h.fresh (jJ _),Lx.y05 hrow hb0,hown⟩
 have hmx:=h.mx
 have hmb:=max_big
 obtain⟨W0,hW0⟩:∃X,w.alloc (.cells #[.map (some E.mb),.map (some E.mm)] 52)=X:=⟨_,rfl⟩
 obtain⟨R,hR⟩:∃R,w.heap.size=R:=⟨_,rfl⟩
 rw[hW0,hR]at hW
 have HW0:Hid (WiI E w R l (vs.take 0++bd) fr (kb+0) fv c5 (.slice va vs.length vc) vs W0):=hW
 have HHW:=hid hw
 have HH:=hid (And.intro hlen (And.intro hbud hbd))
 obtain⟨n,hn⟩:∃n,vs.length=n:=⟨_,rfl⟩
 rw[hn]at HW0 ⊢
 have hn5:n<=2097155:=by omega
 clear h hrow hown hlen hbud hbd hw hb0 hz hW
 go_enter Tryz.func85,Tryz.ntmps85
 go_upto_region 1 with fail
 try simp only[hR]
 try rw[hW0]
 clear hW0
 go_wp2
 go_loopw [12] (fun vi W=>∃i:Nat,vi=.int .i64 i∧i<=n∧Hid (WiI E w R l (vs.take i++bd) fr (kb+i) fv c5 (.slice va n vc) vs W)) (fun vi _=>n-(intOf vi).toNat)
 case atStart=>exact⟨0,rfl,Nat.zero_le _,HW0⟩
 case round =>
  obtain⟨i,rfl,hi,HI⟩:=hrel
  by_cases hlt:i<n
  ·have hiv:i<vs.length:=by omega
   obtain⟨g,hga,hcell⟩:=row_name (by rw[hn];exact HI.out.row |> fun x=>by rwa [hn]at x) hiv
   subst hga
   obtain⟨f,hf,hf2⟩:=HI.out.st.bnd
   have hsl:=HH.out.1 vs[i] (List.getElem_mem hiv)
   have x0:wr.cell? ⟨R,0,none⟩=some (.map (some E.mb)):=cst (vs:=[_,_]) HI.out.box rfl
   have hlook:=hf.look (y3g hsl)
   have hb1:=HH.out.2.1
   have hb2:=HH.out.2.2
   have hcl:(f (ofL vs[i])).getD 0<=2097155:=by
    rw[hf2]
    have h1:=List.count_le_length (a:=vs[i]) (l:=vs.take i++bd)
    have h2:=List.length_take_le i vs
    simp only[jL]at h1
    have h3:(vs.take i).length<=vs.length:=List.length_take_le' i vs
    omega
   have hc0:0<=(f (ofL vs[i])).getD 0:=by rw[hf2];omega
   obtain⟨W1,hrun,hf1,ho1⟩:=hf.put (by omega) (y3g hsl) ((f (ofL vs[i])).getD 0+1)
   have HN:Hid (WiI E w R l (vs.take (i+1)++bd) fr (kb+(i+1)) fv c5 (.slice (some ⟨g,0,none⟩) n vc) vs W1):=HI.out.put hf1 (fput_inc hf2 (count_step vs bd hiv)) ho1 (by omega)
   obtain⟨c,hc⟩:∃c,(f (ofL vs[i])).getD 0=c:=⟨_,rfl⟩
   obtain⟨sv,hsv⟩:∃x,ofL vs[i]=x:=⟨_,rfl⟩
   rw[hc]at hlook hrun hcl hc0
   rw[hsv]at hlook hrun hcell
   have hw1:wrap64 (c+1)=c+1:=wrap1 hc0 (by omega)
   clear hf hf2 hf1 ho1 hsl hc hsv hb1 hb2
   go_wp2
   go_roundw
   case rel=>exact⟨i+1,by go_num,by omega,HN.out⟩
   case measure=>simp[intOf];omega
  ·have hin:i=n:=by omega
   subst hin
   have HX:Hid (PSt E wr l (vs++bd) fr (kb+vs.length) fv c5∧Stay E w fv wr fv):=by
    have:=HI.out.st
    rw[<-hn,List.take_length]at this
    exact⟨this,HI.out.stay⟩
   have hwk:=HHW.out wr HX.out.1 HX.out.2
   go_wp2_with fail
   refine hwk.mono ?_
   rintro e W2 (⟨rfl,fr',q,fv',hQ,⟨kb',s2⟩,y2⟩|⟨x,rfl,hZ⟩)
   case inr =>
    have HF:=hid (And.intro HX.out.2 hZ)
    clear hwk hZ
    go_wp2
    exact⟨rfl,.inr ⟨x,wr,rfl,HF.out⟩⟩
   case inl =>
   have hRb:=y2.blk R (jG HI.out.box).1 HI.out.bR (by omega)
   have hRo:=y2.own R (jG HI.out.box).1 HI.out.bR
   have hkb':kb'<=2097155:=by have:=s2.bud;omega
   have HB0:Hid (WiI E W2 R q (vs.drop 0++bd) (fr++fr') kb' fv' c5 (.slice va i vc) vs W2):=by
    refine⟨by rw[List.drop_zero];exact s2,Stay.refl _ _ _,hRb.trans HI.out.box,hRo,rkp HI.out.row (fun g hg=>?_),fun g hg=>?_⟩
    ·obtain⟨_,cu,hcu⟩:=rbk HI.out.row hg
     exact y2.blk g (jG hcu).1 (HI.out.own g hg) (hIr g (by rw[hn];exact hg))
    ·obtain⟨_,cu,hcu⟩:=rbk HI.out.row hg
     exact y2.own g (jG hcu).1 (HI.out.own g hg)
   have HQ:=hid (And.intro hQ y2)
   clear hwk hQ s2 y2 hRb hRo hi hlt
   obtain⟨Wx,hWx⟩:∃X,X=wr:=⟨_,rfl⟩
   subst hWx
   go_wp2
   go_loopw [26] (fun vi W=>∃j:Nat,vi=.int .i64 j∧j<=i∧Hid (WiI E W2 R q (vs.drop j++bd) (fr++fr') kb' fv' c5 (.slice va i vc) vs W)) (fun vi _=>i-(intOf vi).toNat)
   case atStart=>exact⟨0,rfl,Nat.zero_le _,HB0⟩
   case round =>
    obtain⟨j,rfl,hj,HJ⟩:=hrel
    by_cases hlt:j<i
    ·have hjv:j<vs.length:=by omega
     obtain⟨g,hga,hcell⟩:=row_name (by rw[hn];exact HJ.out.row |> fun x=>by rwa [hn]at x) hjv
     subst hga
     obtain⟨f,hf,hf2⟩:=HJ.out.st.bnd
     have hsl:=HH.out.1 vs[j] (List.getElem_mem hjv)
     have x0:wr.cell? ⟨R,0,none⟩=some (.map (some E.mb)):=cst (vs:=[_,_]) HJ.out.box rfl
     have hlook:=hf.look (y3g hsl)
     have hb1:=HH.out.2.1
     have hb2:=HH.out.2.2
     have hcd:=count_drop vs bd hjv
     have hcl:(f (ofL vs[j])).getD 0<=2097155:=by
      rw[hf2]
      have h1:=List.count_le_length (a:=vs[j]) (l:=vs.drop j++bd)
      simp only[jL,List.length_drop]at h1
      omega
     have hc0:1<=(f (ofL vs[j])).getD 0:=by
      rw[hf2,hcd,if_pos rfl]
      omega
     have hsome:(f (ofL vs[j])).isSome=true:=by
      cases hff:f (ofL vs[j]) with
      | none=>rw[hff]at hc0;simp at hc0
      | some _=>rfl
     obtain⟨W3,hrun,hf1,ho1⟩:=hf.put_old (by omega) (y3g hsl) ((f (ofL vs[j])).getD 0-1) hsome
     have HN:Hid (WiI E W2 R q (vs.drop (j+1)++bd) (fr++fr') kb' fv' c5 (.slice (some ⟨g,0,none⟩) i vc) vs W3):=HJ.out.put hf1 (fput_dec hf2 hcd) ho1 HJ.out.st.bud
     obtain⟨c,hc⟩:∃c,(f (ofL vs[j])).getD 0=c:=⟨_,rfl⟩
     obtain⟨sv,hsv⟩:∃x,ofL vs[j]=x:=⟨_,rfl⟩
     rw[hc]at hlook hrun hcl hc0
     rw[hsv]at hlook hrun hcell
     have hw1:wrap64 (c-1)=c-1:=wrapm hc0 (by omega)
     clear hf hf2 hf1 ho1 hsl hc hsv hb1 hb2 hcd hsome
     go_wp2
     go_roundw
     case rel=>exact⟨j+1,by go_num,by omega,HN.out⟩
     case measure=>simp[intOf];omega
    ·have hji:j=i:=by omega
     subst hji
     have HZ:Hid (PSt E wr q bd (fr++fr') kb' fv' c5∧Stay E W2 fv' wr fv'):=by
      have:=HJ.out.st
      rw[<-hn,List.drop_length]at this
      try rw[<-hn]
      exact⟨this,HJ.out.stay⟩
     go_wp2
     refine bodyPost_end (results_none rfl _ _ _) rfl ?_
     exact .inl ⟨rfl,Wx,W2,fr',q,fv',HX.out.2,HQ.out.1,HQ.out.2,⟨kb',HZ.out.1⟩,HZ.out.2⟩
end
section
open Go.RowKit Go.Shelf
open Lx (Tk ofL)
abbrev ivB (x:jU)(y:Int):Array Value:=#[.int .i64 y,.string (ofL x)]
theorem backward_any (a:Option Addr)(n c:Nat)(w:World) :
  Calls Tryz.prog 198 #[.slice a n c] w fun e w'=>e=.returned (.func (.func 208) #[] #[.pointer (some ⟨w.heap.size,0,none⟩)])∧w'=w.alloc (.cells #[.slice a n c] 38):=by
 go_enter Tryz.func198,Tryz.ntmps198
 go_wp2
 go_ret
 exact⟨rfl,rfl⟩
theorem backw_any (D:Nat->Prop)(w0:World)(Bk:Nat)(vs:List jU)(a:Option Addr)(c:Nat)(W:World)(hsame:SameD D w0 W)(_hdl:∀b,D b->b<W.heap.size)(hBk:D Bk)(hbx:w0.heap[Bk]? =some (.cells #[.slice a vs.length c] 38 (0,0)))(hn:vs.length<=2097155)
  (hrow:∀i (h:i<vs.length),∃g,a=some ⟨g,0,none⟩∧D g∧w0.cell? ⟨g,i,none⟩=some (.string (ofL vs[i]))) :
  IterG ivB (fun _ _=>True) 208 #[.pointer (some ⟨Bk,0,none⟩)] D w0 vs.reverse [] W:=by
 intro m l J Jx hJ hY hj
 have hJ0:Hid (∃E pre,J E pre W∧SameD D w0 W∧pre++(vs.take vs.length).reverse=vs.reverse):=⟨[],[],hj,hsame,by simp⟩
 have HB:=hid hbx
 have HR:=hid hrow
 have HY:=hid hY
 obtain⟨n,hnn⟩:∃n,vs.length=n:=⟨_,rfl⟩
 rw[hnn]at hJ0 HB hn
 have x0:W.cell? ⟨Bk,0,none⟩=some (.slice a n c):=cst (vs:=[_]) ((hsame Bk hBk).trans HB.out) rfl
 have hj0:J [] [] W:=hj
 clear hbx hrow hY hsame _hdl
 refine callsIn_of_wp Tryz.func208 rfl trivial ?_ rfl
 simp only[Tryz.ntmps208,List.size_toArray,jK,List.length_nil,Nat.reduceAdd,Nat.reduceSub,Array.replicate_succ,Array.replicate_zero,List.push_toArray,List.append_toArray,List.nil_append,List.cons_append]
 gi_wp2
 gi_loopw [3] (fun i wr=>∃k:Nat,k<=n∧i=.int .i64 ((k:Int)-1)∧Hid (∃E pre,J E pre wr∧SameD D w0 wr∧pre++(vs.take k).reverse=vs.reverse)) (fun i _=>(intOf i+1).toNat)
 case atStart=>exact⟨n,jJ _,by go_num,hJ0⟩
 case round =>
  obtain⟨k,hk,rfl,HI⟩:=hrel
  obtain⟨E,pre,hJp,hS,hpre⟩:=HI.out
  cases k with
  | zero =>
   gi_wp2
   go_end0
   refine⟨⟨_,rfl⟩,.inl ⟨E,?_⟩⟩
   simp only[List.take_zero,List.reverse_nil,List.append_nil]at hpre
   rw[<-hpre]
   exact hJp
  | succ k =>
   have hkl:k<vs.length:=by omega
   obtain⟨g,rfl,hg,hcell⟩:=HR.out k hkl
   have y0:wr.cell? ⟨Bk,0,none⟩=some (.slice (some ⟨g,0,none⟩) n c):=cst (vs:=[_]) ((hS Bk hBk).trans HB.out) rfl
   have y1:wr.cell? ⟨g,k,none⟩=some (.string (ofL vs[k])):=(World.cell?_of_block (a:=⟨g,k,none⟩) (hS g hg)).trans hcell
   have htk:(vs.take (k+1)).reverse=vs[k]::(vs.take k).reverse:=by rw[List.take_succ_eq_append_getElem hkl,List.reverse_append];rfl
   have e1:((k+1:Nat):Int)-1=(k:Int):=by omega
   rw[htk]at hpre
   have hy:=HY.out E pre vs[k] (k:Int) wr hJp hS trivial ⟨_,hpre⟩ (m-1)
   obtain⟨fn,tmps,assign,body,hyr,hR⟩:=hy
   obtain⟨s,hs⟩:∃s,vs[k]=s:=⟨_,rfl⟩
   rw[hs]at hyr hR y1 hpre
   rw[e1]
   clear hJp hcell htk
   gi_wp2_with fail
   refine⟨fun h=>(by cases h),?_⟩
   refine hR.mono ?_
   clear hR
   rintro e W2 (⟨rfl,hj2,hk2⟩|⟨rfl,hx⟩)
   ·have HN:Hid (∃E pre,J E pre W2∧SameD D w0 W2∧pre++(vs.take k).reverse=vs.reverse):=⟨E,pre++[s],hj2,hS.next hk2.keep,by simpa using hpre⟩
    clear hyr hj2 hk2 y0 y1 HI hS hpre
    gi_wp2
    exact⟨⟨k,by omega,by go_num,HN⟩,by simp[intOf]⟩
   ·gi_wp2
    refine bodyPost_ret (v:=.tuple #[]) (by simp[results,Tryz.results208,go_sem]) rfl ?_
    exact⟨⟨_,rfl⟩,.inr ⟨E,_,hx⟩⟩
end
section
open Go.RowKit Go.Shelf
open Lx (Tk ofL rkp rbk rsl)
def UnaryIH (E:Env)(c5:Value)(n:Nat):Prop:=
 ∀(q:List Tk),q.length<n->∀(w:World) (bd:List jU) (fr:List Tk) (kb:Nat) (fv:Value),PSt E w q bd fr kb fv c5->bd.length+q.length<=E.N->Sg w->Calls Tryz.prog 130 #[.pointer (some ⟨E.B,0,none⟩)] w (PieceP E w (PU bd q) bd fr fv c5)
theorem Sg.stay {E:Env}{W W':World}{fv fv':Value}(h:Sg W)(hs:Stay E W fv W' fv')(ho:¬Own E fv 0):Sg W'∧¬Own E fv' 0:=
 have hb:=hs.blk 0 (jG h).1 ho
 ⟨hb.1.trans h,hb.2⟩
theorem PSt.own0 {E:Env}{W:World}{l:List Tk}{bd:List jU}{fr:List Tk}{kb:Nat}{fv c5:Value}(h:PSt E W l bd fr kb fv c5)(hn:1<=E.n0):¬Own E fv 0:=fun ho=>by have:=h.ownlt ho;omega
theorem StayI.of {I:Nat}{E:Env}{W X Y:World}{fv fv':Value}(h:Stay E W fv X fv')(ho:Only [I] X Y):StayI I E W fv Y fv':=
 ⟨ho.os.trans h.os,ho.tape.trans h.tape,ho.output.trans h.output,Nat.le_trans h.size ho.size,fun k hk hn hI=>(ho.block k (jI hk h.size) (by simpa using hI)).trans (h.blk k hk hn).1,fun k hk hn=>(h.blk k hk hn).2⟩
theorem y2h {E:Env}{c5:Value}{n:Nat}(IH:UnaryIH E c5 n){q:List Tk}(hq:q.length<n){X:World}{bd:List jU}{fr:List Tk}{kb:Nat}{fv:Value}(h:PSt E X q bd fr kb fv c5)(hbd:bd.length+q.length<=E.N){b0 I:Nat}{pv:Value}
  (hb0:X.heap[b0]? =some (.cells #[.pointer (some ⟨E.B,0,none⟩)] 44 (0,0))) (hI:X.heap[I]? =some (.cells #[pv] 53 (0,0))) (hIo:¬Own E fv I) (hIn:E.n0<=I) (hsg:Sg X) :
  Calls Tryz.prog 197 #[.pointer (some ⟨b0,0,none⟩),.pointer (some ⟨I,0,none⟩)] X fun e w' =>
   (e=.returned (.tuple #[])∧∃fr' q' fv',(∃f p,PU bd q (.ok f fr' q')∧w'.heap[I]? =some (.cells #[.pointer (some ⟨p,0,none⟩)] 53 (0,0))∧PcP (Good E X.heap.size fv') w' p f)∧(∃kb',PSt E w' q' bd (fr++fr') kb' fv' c5)∧StayI I E X fv w' fv')∨
   (∃x,e=.panicked x∧∃q' fv',x=misfit∧PU bd q (.no q')∧Bx w' E.B E.n E.n0 q' (.map (some E.mb)) (.map (some E.mm)) fv' c5∧Stay E X fv w' fv'):=by
 have hc:=IH q hq X bd fr kb fv h hbd hsg
 have x0:X.cell? ⟨b0,0,none⟩=some (.pointer (some ⟨E.B,0,none⟩)):=csR (vs:=[_]) hb0 rfl
 have HX:=hid (And.intro hI (And.intro hIo hIn))
 clear IH h hI hIo hIn hb0 hsg
 go_enter Tryz.func197,Tryz.ntmps197
 go_wp2_with fail
 refine hc.mono ?_
 rintro e W1 (⟨f,p,fr',q',kb',fv',hp,rfl,p1,s1,y1⟩|⟨q',fv',hp,rfl,b1,y1⟩)
 ·have hIl:=(jG HX.out.1).1
  have hI1:=y1.blk I hIl HX.out.2.1
  have hI1c:=hI1.1.trans HX.out.1
  have z0:W1.cell? ⟨I,0,none⟩=some pv:=csR (vs:=[_]) hI1c rfl
  have z1:W1.frozen? ⟨I,0,none⟩=false:=frc hI1c
  have ho:=y07 (Below.refl _ W1) I 0 (.pointer (some ⟨p,0,none⟩))
  have hI2:=heap_setCell_same W1 I 0 _ 53 (.pointer (some ⟨p,0,none⟩)) hI1c
  have HF:=hid (And.intro hp (And.intro (p1.keep (Q:=Good E X.heap.size fv') ho.size fun k hk hl=>⟨hk,ho.block k hl (by simp;have:=hk.1;omega)⟩) (And.intro (s1.write ho hI1.2 HX.out.2.2) (And.intro (StayI.of y1 ho) hI2))))
  clear hc hp p1 s1 y1 hI1 hI1c ho hI2
  go_wp2
  refine bodyPost_end (results_none rfl _ _ _) rfl ?_
  exact .inl ⟨rfl,fr',q',fv',⟨f,p,HF.out.1,by simpa using HF.out.2.2.2.2,HF.out.2.1⟩,⟨kb',HF.out.2.2.1⟩,HF.out.2.2.2.1⟩
 ·have HF:=hid (And.intro hp (And.intro b1 y1))
  clear hc hp b1 y1
  go_wp2
  exact⟨rfl,.inr ⟨_,rfl,q',fv',rfl,HF.out.1,HF.out.2.1,HF.out.2.2⟩⟩
def foldQ (k:Int)(pre:List jU)(f:Fm):Fm:=pre.foldl (fun f n=>fQ k (ofL n) f) f
theorem foldQ_rev (k:Int)(vs:List jU)(f:Fm):foldQ k vs.reverse f=wrapQ k vs f:=by
 unfold foldQ wrapQ
 rw[List.foldl_reverse]
theorem foldQ_snoc (k:Int)(pre:List jU)(n:jU)(f:Fm):foldQ k (pre++[n]) f=fQ k (ofL n) (foldQ k pre f):=by simp[foldQ]
theorem foldQ_size {k:Int}(hk:k≠1)(f:Fm):∀pre:List jU,(foldQ k pre f).size=pre.length+f.size:=by
 intro pre
 have h:=y3a hk f pre.reverse
 rw[<-foldQ_rev,List.reverse_reverse,List.length_reverse]at h
 exact h
structure RQ (E:Env) (w:World) (fv:Value) (m2 I b1:Nat) (k:Int) (f0:Fm) (q:List Tk) (bd:List jU) (fr:List Tk) (kb:Nat) (fv' c5:Value) (L:List Nat) (pre:List jU) (W:World):Prop where
 cur:∃p,W.heap[I]? =some (.cells #[.pointer (some ⟨p,0,none⟩)] 53 (0,0))∧PcP (fun j=>Good E w.heap.size fv' j∧j≠I∧j∉L) W p (foldQ k pre f0)
 st:PSt E W q bd fr kb fv' c5
 stay:Stay E w fv W fv'
 els:∀r∈L,m2<=r∧r<W.heap.size
 siz:m2<=W.heap.size
 kd:W.heap[b1]? =some (.cells #[.int .i64 k] 3 (0,0))
 low:w.heap.size<=I∧I<m2∧b1<m2∧E.n0<=w.heap.size∧b1≠I
 new:∀j,m2<=j->¬Own E fv' j
 Iown:¬Own E fv' I
theorem RQ.abide {E:Env}{w:World}{fv:Value}{m2 I b1:Nat}{k:Int}{f0:Fm}{q:List Tk}{bd:List jU}{fr:List Tk}{kb:Nat}{fv' c5:Value}:Abide (RQ E w fv m2 I b1 k f0 q bd fr kb fv' c5):=by
 rintro L L' pre W W' row h hg hr hL
 obtain⟨⟨p,hI,hp⟩,st,stay,els,siz,kd,low,new,Io⟩:=h
 have hrow:∀g,row=some g->m2<=g:=fun g e=>(els g (hr g e)).1
 have far:∀j,j<W.heap.size->j∉L->W'.heap[j]? =W.heap[j]?:=fun j hj hn=>hg.block j hj (fun e=>hn (hr j e.symm))
 have old:∀j,j<m2->j<W.heap.size->W'.heap[j]? =W.heap[j]?:=fun j hj hl=>far j hl (fun hm=>by have:=(els j hm).1;omega)
 refine⟨⟨p,(old I low.2.1 (by omega)).trans hI,hp.keep hg.size fun j hj hl=>⟨⟨hj.1,hj.2.1,fun hm=>?_⟩,far j hl hj.2.2⟩⟩,st.grown hg (fun g e=>⟨new g (hrow g e),by have:=hrow g e;omega⟩),stay.grown hg (fun g e=>by have:=hrow g e;omega),fun r hr'=>?_,Nat.le_trans siz hg.size,(old b1 low.2.2.1 (by omega)).trans kd,low,new,Io⟩
 ·rcases hL j hm with h1|h1
  ·exact hj.2.2 h1
  ·omega
 ·rcases hL r hr' with h1|h1
  ·have:=els r h1;have:=hg.size;omega
  ·omega
theorem pcompG1 {P:Nat->Prop}{X:World}(hnew:∀j,X.heap.size<=j->P j){k:Int}(hk:k≠1){nm:ByteArray}{p g:Nat}{f:Fm}(hrow:X.cell? ⟨g,0,none⟩=some (.pointer (some ⟨p,0,none⟩)))(hp:PcP P X p f)(hb:f.size<=4611686018427387903) :
  Calls Tryz.prog 30 #[.int .i64 k,.string nm,.slice (some ⟨g,0,none⟩) 1 1] X fun e w'=>∃p,e=.returned (.pointer (some ⟨p,0,none⟩))∧PcP P w' p (.mk k nm t0 t0 [f])∧Below X.heap.size X w':=by
 obtain⟨sl,sr,sk,hz,hf⟩:=hp.at_
 have hd:=y28 f
 have hd1:=y22 f
 have key:=y3z (k:=k) (nm:=nm) (D:=[⟨p,f,sl,sr,sk⟩]) (a:=some ⟨g,0,none⟩) (c:=1) (w:=X) (P:=P) hk (by simp) (by simp) (by decide) (fun i hi=>by
  have:i=0:=by simp at hi;omega
  subst this
  exact⟨g,rfl,hrow⟩) (fun x hx=>by simp at hx;subst hx;exact⟨hz,hf⟩) (by show 1+Fm.size.sizes [f]<=_;rw[Fm.size.sizes,Fm.size.sizes];omega) (by show 1+Fm.depth.depths [f]<=_;rw[Fm.depth.depths,Fm.depth.depths];omega)
 refine key.mono ?_
 rintro e w' ⟨he,hpc,hbl⟩
 exact⟨_,he,hpc.keep (jJ _) (fun j hj hl=>⟨hj.elim id (hnew j),rfl⟩),hbl⟩
end
