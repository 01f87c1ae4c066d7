import Derived.Test.YthkinkcpfcpehaaGreatDoorZS
import Derived.Test.YthkinkcpfcpehaaGreatDoorFG
import Derived.BigQuiet
import Derived.Maps.AppendAt
import Derived.Deep.RegionHeld3
namespace Go.Proofs.YthkinkcpfcpehaaGreatDoor
set_option maxRecDepth 100000
set_option maxHeartbeats 4000000
section
open Go.RowKit Go.Maps
open Lx (Tk ofL KsAt)
structure DE where
 B:Nat
 n:Nat
 L:List Tk
 a:Option Addr
 c:Nat
def frV:List Tk->Int
 | []=>-1
 | t::_=>(t.a:Nat)
def plc (n:Nat):List Tk->Nat
 | []=>n
 | t::_=>t.a
structure DS (D:DE) (W:World) (l:List Tk) (fr:List Tk) (mn:Bool) (bd:Int):Prop where
 box:W.heap[D.B]? =some (.cells #[.slice D.a D.L.length D.c,.int .i64 ((D.L.length-l.length:Nat):Int),.int .i64 (D.n:Nat),.int .i64 bd,.bool mn,.int .i64 (frV fr)] 100 (0,0))
 ks:KsAt W (.slice D.a D.L.length D.c) D.L
 suf:l <:+ D.L
 own:∀b,(Value.slice D.a D.L.length D.c).ownBlock=some b->b<D.B
 mx:D.L.length<=2097155
 tok:∀t∈D.L,TkOk t
section
variable {D : DE} {W W' w : World} {l r fr : List Tk} {t : Tk} {mn : Bool} {bd : Int}
theorem DS.lt (h:DS D W l fr mn bd):D.B<W.heap.size:=(jG h.box).1
theorem DS.len (h:DS D W l fr mn bd):l.length<=D.L.length:=h.suf.length_le
theorem DS.toks (h:DS D W l fr mn bd):∀t∈l,TkOk t:=fun t ht=>h.tok t (h.suf.subset ht)
theorem DS.keep (h:DS D W l fr mn bd)(hb:Below W.heap.size W W'):DS D W' l fr mn bd:=
 ⟨(hb.block _ h.lt).trans h.box,h.ks.keep hb (jJ _),h.suf,h.own,h.mx,h.tok⟩
theorem DS.at_ (h:DS D W (t::r) fr mn bd):∃b o,D.a=some ⟨b,o,none⟩∧b<D.B∧W.cell? ⟨b,o+(D.L.length-(r.length+1))*3,none⟩=some (.int .i64 t.k)∧W.cell? ⟨b,o+(D.L.length-(r.length+1))*3+1,none⟩=some (.int .i64 (t.a:Nat))∧W.cell? ⟨b,o+(D.L.length-(r.length+1))*3+2,none⟩=some (.string (ofL t.t)):=by
 obtain⟨p,hp⟩:=h.suf
 have hl:D.L.length=p.length+(r.length+1):=by rw[<-hp];simp
 have hi:D.L.length-(r.length+1)<D.L.length:=by omega
 obtain⟨b,o,ea,hb,c0,c1,c2⟩:=h.ks.nth hi
 have hg:D.L[D.L.length-(r.length+1)]=t:=by
  have e:D.L.length-(r.length+1)=p.length:=by omega
  have e2:D.L[p.length]? =some t:=by rw[<-hp];simp
  have e3:D.L[D.L.length-(r.length+1)]? =some t:=by rw[e];exact e2
  exact (List.getElem?_eq_some_iff.1 e3).2
 rw[hg]at c0 c1 c2
 exact⟨b,o,ea,h.own b (by rw[ea];rfl),c0,c1,c2⟩
theorem DS.turn (h:DS D W l fr mn bd){l' fr':List Tk}{mn':Bool}{bd':Int}(hs:l' <:+ D.L)
  (hb:W'.heap[D.B]? =some (.cells #[.slice D.a D.L.length D.c,.int .i64 ((D.L.length-l'.length:Nat):Int),.int .i64 (D.n:Nat),.int .i64 bd',.bool mn',.int .i64 (frV fr')] 100 (0,0))) (ho:Only [D.B] W W'):DS D W' l' fr' mn' bd':=
 ⟨hb,y1h h.ks ho.size (fun b hbb=>ho.block b (Nat.lt_trans (h.own b hbb) h.lt) (by have:=h.own b hbb;simp;omega)),hs,h.own,h.mx,h.tok⟩
end
section
variable {D : DE} {w : World} {l fr : List Tk} {mn : Bool} {bd : Int}
theorem str_eq {x s:ByteArray}(h:x=s):(x.toList==s.toList)=true:=by rw[h];exact beq_self_eq_true _
theorem str_ne {x s:ByteArray}(h:x≠s):(x.toList==s.toList)=false:=by rw[beq_eq_false_iff_ne];exact fun e=>h (y0i.1 e)
theorem y16 (h:DS D w l fr mn bd)(m:jU) :
  Calls Tryz.prog 98 #[.pointer (some ⟨D.B,0,none⟩),.string (ofL m)] w fun e w'=>e=.returned (.bool (decide (bd<0)&&isM m l))∧Below w.heap.size w w':=by
 have hB:=h.box
 have hlen:=h.len
 have x0:w.cell? ⟨D.B,0,none⟩=some (.slice D.a D.L.length D.c):=cst (vs:=[_,_,_,_,_,_]) hB rfl
 have x1:w.cell? ⟨D.B,1,none⟩=some (.int .i64 ((D.L.length-l.length:Nat):Int)):=cst (vs:=[_,_,_,_,_,_]) hB rfl
 have x3:w.cell? ⟨D.B,3,none⟩=some (.int .i64 bd):=cst (vs:=[_,_,_,_,_,_]) hB rfl
 by_cases hb:bd<0
 case neg =>
  have HF:Hid ((decide (bd<0)&&isM m l)=false):=by show _=_;rw[decide_eq_false hb];rfl
  have hd:decide (bd<0)=false:=decide_eq_false hb
  have hd2:(bd<0)=False:=eq_false hb
  clear h hB hlen
  go_enter Tryz.func98,Tryz.ntmps98
  go_wp2
  go_quiet (fail)
  go_wp2
  go_ret
  exact⟨by rw[HF.out];rfl,y0b (Below.refl _ _) nq⟩
 case pos =>
 cases l with
 | nil =>
  have HF:Hid ((decide (bd<0)&&isM m [])=false):=by show _=_;rw[isM,Bool.and_false]
  have hi:¬(((D.L.length-([]:List Tk).length:Nat):Int)<(D.L.length:Int)):=by simp
  obtain⟨i,hie⟩:∃i,D.L.length-([]:List Tk).length=i:=⟨_,rfl⟩
  obtain⟨N,hN⟩:∃i,D.L.length=i:=⟨_,rfl⟩
  rw[hie]at x1 hi
  rw[hN]at x0 hi
  have hd:decide (bd<0)=true:=decide_eq_true hb
  have hi2:¬(i<N):=by omega
  have hd2:decide (i<N)=false:=decide_eq_false hi2
  have hd3:(i<N)=False:=eq_false hi2
  clear h hB hlen hie hN
  go_enter Tryz.func98,Tryz.ntmps98
  go_wp2
  go_quiet (fail)
  go_wp2
  go_ret
  exact⟨by rw[HF.out];rfl,y0b (Below.refl _ _) nq⟩
 | cons t r =>
  obtain⟨b,o,ea,hlt,c0,c1,c2⟩:=h.at_
  have e1:D.L.length-(t::r).length=D.L.length-(r.length+1):=by simp
  rw[e1]at x1
  have hi:((D.L.length-(r.length+1):Nat):Int)<(D.L.length:Int):=by simp only[jK]at hlen;omega
  have hi0:(0:Int)<=((D.L.length-(r.length+1):Nat):Int):=by omega
  have HF:Hid ((decide (bd<0)&&isM m (t::r))=(decide (t.k=4)&&decide (ofL t.t=ofL m))):=by
   show _=_
   rw[decide_eq_true hb,Bool.true_and,isM]
   congr 1
   exact decide_eq_decide.2 ⟨fun h=>by rw[h],y1z⟩
  obtain⟨tx,htx⟩:∃x,ofL t.t=x:=⟨_,rfl⟩
  obtain⟨mx,hmx⟩:∃x,ofL m=x:=⟨_,rfl⟩
  obtain⟨k,hk⟩:∃x,t.k=x:=⟨_,rfl⟩
  rw[htx]at c2 HF
  rw[hmx]at HF ⊢
  rw[hk]at c0 HF
  rw[ea]at x0
  obtain⟨i,hie⟩:∃i,D.L.length-(r.length+1)=i:=⟨_,rfl⟩
  obtain⟨N,hN⟩:∃i,D.L.length=i:=⟨_,rfl⟩
  rw[hie]at x1 hi hi0 c0 c1 c2
  rw[hN]at x0 hi
  have hd:decide (bd<0)=true:=decide_eq_true hb
  have hi2:i<N:=by omega
  have hd2:decide (i<N)=true:=decide_eq_true hi2
  clear h hB hlen hie hN e1 ea hlt c1 hmx hk htx
  by_cases h4:k=4
  ·subst h4
   by_cases ht:tx=mx
   ·have he:=str_eq ht
    have HF2:Hid ((decide ((4:Int)=4)&&decide (tx=mx))=true):=by show _=_;simp[ht]
    clear ht
    go_enter Tryz.func98,Tryz.ntmps98
    go_wp2
    go_quiet (fail)
    go_wp2
    go_ret
    exact⟨by rw[HF.out,HF2.out];rfl,y0b (Below.refl _ _) nq⟩
   ·have he:=str_ne ht
    have HF2:Hid ((decide ((4:Int)=4)&&decide (tx=mx))=false):=by show _=_;simp[ht]
    clear ht
    go_enter Tryz.func98,Tryz.ntmps98
    go_wp2
    go_quiet (fail)
    go_wp2
    go_ret
    exact⟨by rw[HF.out,HF2.out];rfl,y0b (Below.refl _ _) nq⟩
  ·have he:(k==4)=false:=by rw[beq_eq_false_iff_ne];exact h4
   have HF2:Hid ((decide (k=4)&&decide (tx=mx))=false):=by show _=_;simp[h4]
   go_enter Tryz.func98,Tryz.ntmps98
   go_wp2
   go_quiet (fail)
   go_wp2
   go_ret
   exact⟨by rw[HF.out,HF2.out];rfl,y0b (Below.refl _ _) nq⟩
theorem y15 (h:DS D w l fr mn bd)(q:Int) :
  Calls Tryz.prog 142 #[.pointer (some ⟨D.B,0,none⟩),.int .i64 q] w fun e w'=>e=.returned (.bool (decide (bd<0)&&isK q l))∧Below w.heap.size w w':=by
 have hB:=h.box
 have hlen:=h.len
 have x0:w.cell? ⟨D.B,0,none⟩=some (.slice D.a D.L.length D.c):=cst (vs:=[_,_,_,_,_,_]) hB rfl
 have x1:w.cell? ⟨D.B,1,none⟩=some (.int .i64 ((D.L.length-l.length:Nat):Int)):=cst (vs:=[_,_,_,_,_,_]) hB rfl
 have x3:w.cell? ⟨D.B,3,none⟩=some (.int .i64 bd):=cst (vs:=[_,_,_,_,_,_]) hB rfl
 by_cases hb:bd<0
 case neg =>
  have HF:Hid ((decide (bd<0)&&isK q l)=false):=by show _=_;rw[decide_eq_false hb];rfl
  have hd:decide (bd<0)=false:=decide_eq_false hb
  have hd2:(bd<0)=False:=eq_false hb
  clear h hB hlen
  go_enter Tryz.func142,Tryz.ntmps142
  go_wp2
  go_quiet (fail)
  go_wp2
  go_ret
  exact⟨by rw[HF.out];rfl,y0b (Below.refl _ _) nq⟩
 case pos =>
 cases l with
 | nil =>
  have HF:Hid ((decide (bd<0)&&isK q [])=false):=by show _=_;rw[isK,Bool.and_false]
  have hi:¬(((D.L.length-([]:List Tk).length:Nat):Int)<(D.L.length:Int)):=by simp
  obtain⟨i,hie⟩:∃i,D.L.length-([]:List Tk).length=i:=⟨_,rfl⟩
  obtain⟨N,hN⟩:∃i,D.L.length=i:=⟨_,rfl⟩
  rw[hie]at x1 hi
  rw[hN]at x0 hi
  have hd:decide (bd<0)=true:=decide_eq_true hb
  have hi2:¬(i<N):=by omega
  have hd2:decide (i<N)=false:=decide_eq_false hi2
  have hd3:(i<N)=False:=eq_false hi2
  clear h hB hlen hie hN
  go_enter Tryz.func142,Tryz.ntmps142
  go_wp2
  go_quiet (fail)
  go_wp2
  go_ret
  exact⟨by rw[HF.out];rfl,y0b (Below.refl _ _) nq⟩
 | cons t r =>
  obtain⟨b,o,ea,hlt,c0,c1,c2⟩:=h.at_
  have e1:D.L.length-(t::r).length=D.L.length-(r.length+1):=by simp
  rw[e1]at x1
  have hi:((D.L.length-(r.length+1):Nat):Int)<(D.L.length:Int):=by simp only[jK]at hlen;omega
  have hi0:(0:Int)<=((D.L.length-(r.length+1):Nat):Int):=by omega
  have HF:Hid ((decide (bd<0)&&isK q (t::r))=(t.k==q)):=by
   show _=_
   rw[decide_eq_true hb,Bool.true_and,isK]
   by_cases e:t.k=q
   ·rw[decide_eq_true e,e,beq_self_eq_true]
   ·rw[decide_eq_false e];exact (beq_eq_false_iff_ne.2 e).symm
  obtain⟨k,hk⟩:∃x,t.k=x:=⟨_,rfl⟩
  rw[hk]at c0 HF
  rw[ea]at x0
  obtain⟨i,hie⟩:∃i,D.L.length-(r.length+1)=i:=⟨_,rfl⟩
  obtain⟨N,hN⟩:∃i,D.L.length=i:=⟨_,rfl⟩
  rw[hie]at x1 hi hi0 c0 c1 c2
  rw[hN]at x0 hi
  have hd:decide (bd<0)=true:=decide_eq_true hb
  have hi2:i<N:=by omega
  have hd2:decide (i<N)=true:=decide_eq_true hi2
  clear h hB hlen hie hN e1 ea hlt c1 c2 hk
  go_enter Tryz.func142,Tryz.ntmps142
  go_wp2
  go_quiet (fail)
  go_wp2
  go_ret
  exact⟨by rw[HF.out];rfl,y0b (Below.refl _ _) nq⟩
def badV (D:DE)(l:List Tk)(bd:Int):Int:=if bd<0 then (plc D.n l:Nat) else bd
theorem y29 (h:DS D w l fr mn bd) :
  Calls Tryz.prog 59 #[.pointer (some ⟨D.B,0,none⟩)] w fun e w'=>e=.returned (.tuple #[])∧DS D w' l fr mn (badV D l bd)∧Only [D.B] w w':=by
 have hB:=h.box
 have hlen:=h.len
 have x0:w.cell? ⟨D.B,0,none⟩=some (.slice D.a D.L.length D.c):=cst (vs:=[_,_,_,_,_,_]) hB rfl
 have x1:w.cell? ⟨D.B,1,none⟩=some (.int .i64 ((D.L.length-l.length:Nat):Int)):=cst (vs:=[_,_,_,_,_,_]) hB rfl
 have x2:w.cell? ⟨D.B,2,none⟩=some (.int .i64 (D.n:Nat)):=cst (vs:=[_,_,_,_,_,_]) hB rfl
 have x3:w.cell? ⟨D.B,3,none⟩=some (.int .i64 bd):=cst (vs:=[_,_,_,_,_,_]) hB rfl
 have z3:w.frozen? ⟨D.B,3,none⟩=false:=frc hB
 by_cases hb:bd<0
 case neg =>
  have hb':0<=bd:=by omega
  have HF:Hid (DS D w l fr mn (badV D l bd)∧Only [D.B] w w):=⟨by unfold badV;rw[if_neg hb];exact h,Only.of_below (Below.refl _ _)⟩
  clear h hB hlen x0 x1 x2
  go_enter Tryz.func59,Tryz.ntmps59
  go_wp2
  refine bodyPost_ret (results_none rfl _ _ _) rfl ?_
  exact⟨rfl,HF.out⟩
 case pos =>
 have hb':¬(0<=bd):=by omega
 have e1:=heap_setCell_same w D.B 3 _ 100 (.int .i64 (D.n:Nat)) hB
 have HO:Hid (∀(X:World) v,Below w.heap.size (w.setCell ⟨D.B,3,none⟩ v) X->Only [D.B] w X):=fun X v hx =>
  ⟨hx.os,hx.tape,hx.output,by have:=hx.size;simpa using this,fun k hk hn=>(hx.block k hk).trans (Below.heap_setCell _ _ _ k (fun e=>hn (by rw[e];simp)))⟩
 have HD:=hid h
 have hd1:∀q,Below w.heap.size (w.setCell ⟨D.B,3,none⟩ (.int .i64 (D.n:Nat))) ((w.setCell ⟨D.B,3,none⟩ (.int .i64 (D.n:Nat))).drewN q):=fun q=>y0b (Below.refl _ _) q
 cases l with
 | nil =>
  have hi:¬(((D.L.length-([]:List Tk).length:Nat):Int)<(D.L.length:Int)):=by simp
  have HE:Hid ((w.setCell ⟨D.B,3,none⟩ (.int .i64 (D.n:Nat))).heap[D.B]? =some (.cells #[.slice D.a D.L.length D.c,.int .i64 ((D.L.length-([]:List Tk).length:Nat):Int),.int .i64 (D.n:Nat),.int .i64 (D.n:Nat),.bool mn,.int .i64 (frV fr)] 100 (0,0))):=by show _=_;simpa using e1
  have HV:Hid (badV D [] bd=(D.n:Nat)):=by show _=_;unfold badV;rw[if_pos hb];rfl
  obtain⟨i,hie⟩:∃i,D.L.length-([]:List Tk).length=i:=⟨_,rfl⟩
  obtain⟨N,hN⟩:∃i,D.L.length=i:=⟨_,rfl⟩
  rw[hie]at x1 hi
  rw[hN]at x0 hi
  clear h hB hlen hie hN e1
  go_enter Tryz.func59,Tryz.ntmps59
  go_wp2
  go_quiet (fail)
  go_wp2
  refine bodyPost_end (results_none rfl _ _ _) rfl ?_
  have ho:=HO.out _ _ (hd1 nq)
  refine⟨rfl,?_,ho⟩
  rw[HV.out]
  exact HD.out.turn (HD.out.suf) (((hd1 nq).block D.B HD.out.lt).trans HE.out) ho
 | cons t r =>
  obtain⟨b,o,ea,hlt,c0,c1,c2⟩:=h.at_
  have hbw:b≠D.B:=by omega
  have c1':(w.setCell ⟨D.B,3,none⟩ (.int .i64 (D.n:Nat))).cell? ⟨b,o+(D.L.length-(r.length+1))*3+1,none⟩=some (.int .i64 (t.a:Nat)):=(World.cell?_of_block (a:=⟨b,_,none⟩) (Below.heap_setCell _ _ _ b hbw)).trans c1
  have el:D.L.length-(t::r).length=D.L.length-(r.length+1):=by simp
  rw[el]at x1
  have hi:((D.L.length-(r.length+1):Nat):Int)<(D.L.length:Int):=by simp only[jK]at hlen;omega
  have hi0:(0:Int)<=((D.L.length-(r.length+1):Nat):Int):=by omega
  have HV:Hid (badV D (t::r) bd=(t.a:Nat)):=by show _=_;unfold badV;rw[if_pos hb];rfl
  have hE2:Hid (∀X:World,Below w.heap.size (w.setCell ⟨D.B,3,none⟩ (.int .i64 (D.n:Nat))) X->X.frozen? ⟨D.B,3,none⟩=false∧(DS D (X.setCell ⟨D.B,3,none⟩ (.int .i64 (t.a:Nat))) (t::r) fr mn (t.a:Nat)∧Only [D.B] w (X.setCell ⟨D.B,3,none⟩ (.int .i64 (t.a:Nat))))):=by
   intro X hx
   have hX:X.heap[D.B]? =some (.cells #[.slice D.a D.L.length D.c,.int .i64 ((D.L.length-(t::r).length:Nat):Int),.int .i64 (D.n:Nat),.int .i64 (D.n:Nat),.bool mn,.int .i64 (frV fr)] 100 (0,0)):=(hx.block _ HD.out.lt).trans (by simpa using e1)
   have e2:=heap_setCell_same X D.B 3 _ 100 (.int .i64 (t.a:Nat)) hX
   have ho:Only [D.B] w (X.setCell ⟨D.B,3,none⟩ (.int .i64 (t.a:Nat))):=(HO.out X _ hx).trans (y07 (Below.refl _ X) D.B 3 _) (fun r hr=>.inl hr)
   exact⟨frc hX,HD.out.turn HD.out.suf (by simpa using e2) ho,ho⟩
  obtain⟨i,hie⟩:∃i,D.L.length-(r.length+1)=i:=⟨_,rfl⟩
  obtain⟨N,hN⟩:∃i,D.L.length=i:=⟨_,rfl⟩
  rw[hie]at x1 hi hi0 c1'
  rw[hN]at x0 hi
  rw[ea]at x0
  have hi2:i<N:=by omega
  have hd2:decide (i<N)=true:=decide_eq_true hi2
  have y0:(w.setCell ⟨D.B,3,none⟩ (.int .i64 (D.n:Nat))).cell? ⟨D.B,0,none⟩=some (.slice (some ⟨b,o,none⟩) N D.c):=by rw[<-hN,<-ea];exact cst (vs:=[_,_,_,_,_,_]) e1 rfl
  have y1:(w.setCell ⟨D.B,3,none⟩ (.int .i64 (D.n:Nat))).cell? ⟨D.B,1,none⟩=some (.int .i64 (i:Nat)):=by rw[<-hie,<-el];exact cst (vs:=[_,_,_,_,_,_]) e1 rfl
  have y3:(w.setCell ⟨D.B,3,none⟩ (.int .i64 (D.n:Nat))).cell? ⟨D.B,3,none⟩=some (.int .i64 (D.n:Nat)):=cst (vs:=[_,_,_,_,_,_]) e1 rfl
  obtain⟨W1,hW1⟩:∃X,w.setCell ⟨D.B,3,none⟩ (.int .i64 (D.n:Nat))=X:=⟨_,rfl⟩
  rw[hW1]at y3 y0 y1 c1' hd1 hE2
  have HW:=hid hW1
  clear h hB hlen e1 hlt c0 c1 c2 HO HD hW1
  go_enter Tryz.func59,Tryz.ntmps59
  go_wp2
  rw[show _=W1 from HW.out]
  clear HW
  go_quiet (fail)
  have hb2:=hd1 nq
  have y0':(W1.drewN nq).cell? ⟨D.B,0,none⟩=some (.slice (some ⟨b,o,none⟩) N D.c):=by simpa using y0
  have y1':(W1.drewN nq).cell? ⟨D.B,1,none⟩=some (.int .i64 (i:Nat)):=by simpa using y1
  have y3':(W1.drewN nq).cell? ⟨D.B,3,none⟩=some (.int .i64 (D.n:Nat)):=by simpa using y3
  have c1'':(W1.drewN nq).cell? ⟨b,o+i*3+1,none⟩=some (.int .i64 (t.a:Nat)):=by simpa using c1'
  obtain⟨W2,hW2⟩:∃X,W1.drewN nq=X:=⟨_,rfl⟩
  rw[hW2]at hb2 y0' y1' y3' c1''
  rw[hW2]
  have HB2:=hid hb2
  have zf:=(hE2.out W2 hb2).1
  obtain⟨hds,hon⟩:=(hE2.out W2 hb2).2
  have s0:(W2.setCell ⟨D.B,3,none⟩ (.int .i64 (t.a:Nat))).cell? ⟨D.B,0,none⟩=some (.slice (some ⟨b,o,none⟩) N D.c):=by rw[<-hN,<-ea];exact cst (vs:=[_,_,_,_,_,_]) hds.box rfl
  have s1:(W2.setCell ⟨D.B,3,none⟩ (.int .i64 (t.a:Nat))).cell? ⟨D.B,1,none⟩=some (.int .i64 (i:Nat)):=by rw[<-hie,<-el];exact cst (vs:=[_,_,_,_,_,_]) hds.box rfl
  have s2:(W2.setCell ⟨D.B,3,none⟩ (.int .i64 (t.a:Nat))).cell? ⟨b,o+i*3+1,none⟩=some (.int .i64 (t.a:Nat)):=(World.cell?_of_block (a:=⟨b,_,none⟩) (Below.heap_setCell _ _ _ b hbw)).trans c1''
  have HFIN:Hid (DS D (W2.setCell ⟨D.B,3,none⟩ (.int .i64 (t.a:Nat))).drew (t::r) fr mn (t.a:Nat)∧Only [D.B] w (W2.setCell ⟨D.B,3,none⟩ (.int .i64 (t.a:Nat))).drew):=⟨hds.keep (Below.refl _ _).drew,hon.trans (Only.of_below (B:=[D.B]) (Below.refl _ _).drew) (fun r hr=>.inl hr)⟩
  clear hds hon hN ea hie el hbw
  clear y0 y1 c1' hW2 hb2 hd1
  go_wp2
  go_region_held3 (fun X=>X.cell? ⟨D.B,0,none⟩=some (.slice (some ⟨b,o,none⟩) N D.c)∧X.cell? ⟨D.B,1,none⟩=some (.int .i64 (i:Nat))∧X.cell? ⟨b,o+i*3+1,none⟩=some (.int .i64 (t.a:Nat))) (first|exact⟨y0',y1',c1''⟩|exact⟨s0,s1,s2⟩) (fail)
  refine bodyPost_end (results_none rfl _ _ _) rfl ?_
  exact⟨rfl,by rw[HV.out];exact HFIN.out.1,HFIN.out.2⟩
end
end
section
open Go.RowKit Go.Maps
open Lx (Tk ofL KsAt)
section
variable {D : DE} {w : World} {l r fr : List Tk} {t : Tk} {mn : Bool} {bd : Int}
theorem wrapN {i:Nat}(h:i<=2097155):wrap64 ((i:Int)+1)=(i:Int)+1:=by unfold wrap64;omega
theorem DS.eat (h:DS D w (t::r) fr mn bd):∃i:Nat,i+(r.length+1)=D.L.length∧w.cell? ⟨D.B,1,none⟩=some (.int .i64 (i:Nat))∧w.frozen? ⟨D.B,1,none⟩=false∧wrap64 ((i:Int)+1)=(i:Int)+1∧DS D (w.setCell ⟨D.B,1,none⟩ (.int .i64 ((i:Int)+1))) r fr mn bd∧Only [D.B] w (w.setCell ⟨D.B,1,none⟩ (.int .i64 ((i:Int)+1))):=by
 have hB:=h.box
 have hlen:=h.len
 have hmx:=h.mx
 simp only[jK]at hlen
 have ho:=y07 (Below.refl _ w) D.B 1 (.int .i64 (((D.L.length-(r.length+1):Nat):Int)+1))
 have e1:=heap_setCell_same w D.B 1 _ 100 (.int .i64 (((D.L.length-(r.length+1):Nat):Int)+1)) hB
 refine⟨D.L.length-(r.length+1),by omega,cst (vs:=[_,_,_,_,_,_]) hB rfl,frc hB,wrapN (by omega),h.turn ((List.suffix_cons t r).trans h.suf) ?_ ho,ho⟩
 have e2:(((D.L.length-(r.length+1):Nat):Int)+1)=((D.L.length-r.length:Nat):Int):=by omega
 rw[e2]at e1 ⊢
 simpa using e1
def wantL (m:jU)(l:List Tk)(bd:Int):List Tk:=if (decide (bd<0)&&isM m l)=true then l.tail else l
def wantB (D:DE)(m:jU)(l:List Tk)(bd:Int):Int:=if (decide (bd<0)&&isM m l)=true then bd else badV D l bd
theorem y24 (h:DS D w l fr mn bd)(m:jU) :
  Calls Tryz.prog 141 #[.pointer (some ⟨D.B,0,none⟩),.string (ofL m)] w fun e w'=>e=.returned (.tuple #[])∧DS D w' (wantL m l bd) fr mn (wantB D m l bd)∧Only [D.B] w w':=by
 have hi:=y16 h m
 have H:=hid h
 unfold wantL wantB
 obtain⟨b,hb⟩:∃b,(decide (bd<0)&&isM m l)=b:=⟨_,rfl⟩
 rw[hb]at hi ⊢
 cases b with
 | true =>
  have hM:isM m l=true:=by revert hb;cases isM m l<;>simp
  obtain⟨t,r,rfl,_,_⟩:=y03 hM
  simp only[if_true,List.tail_cons]
  clear h hb hM
  go_enter Tryz.func141,Tryz.ntmps141
  go_wp2_with fail
  refine hi.mono ?_
  rintro e W1 ⟨rfl,hb1⟩
  obtain⟨i,-,c1,f1,hw,hd,ho⟩:=(H.out.keep hb1).eat
  have HF:=hid (And.intro hd ((Only.of_below (B:=[D.B]) hb1).trans ho (fun r hr=>.inl hr)))
  clear hi hb1 hd ho
  go_wp2
  refine bodyPost_end (results_none rfl _ _ _) rfl ?_
  exact⟨rfl,HF.out⟩
 | false =>
  simp only[Bool.false_eq_true,if_false]
  clear h hb
  go_enter Tryz.func141,Tryz.ntmps141
  go_wp2_with fail
  refine hi.mono ?_
  rintro e W1 ⟨rfl,hb1⟩
  have hf:=y29 (H.out.keep hb1)
  have HB:=hid hb1
  clear hi hb1
  go_wp2_with fail
  refine hf.mono ?_
  rintro e W2 ⟨rfl,hd,ho⟩
  have HF:=hid (And.intro hd ((Only.of_below (B:=[D.B]) HB.out).trans ho (fun r hr=>.inl hr)))
  clear hf hd ho
  go_wp2
  refine bodyPost_end (results_none rfl _ _ _) rfl ?_
  exact⟨rfl,HF.out⟩
end
end
section
open Go.RowKit Go.Maps
open Lx (Tk ofL KsAt flK y0r rkp rbk rsl lit3 one3)
theorem max_big:2097155<maxLen:=by decide
theorem y3g {s:jU}(h:s.length<=maxLen):(ofL s).size<=maxLen:=h
section
variable {E : Env} {w : World} {l : List Tk} {bd : List jU} {fr : List Tk} {kb : Nat} {fv c5 : Value}
theorem PSt.fresh (h:PSt E w l bd fr kb fv c5){k:Nat}(hk:w.heap.size<=k):¬Own E fv k:=fun ho=>by have:=(h.ownlt ho).2;omega
theorem fput_count {g:jV}{fr:List Tk}(hg:∀s,(g (ofL s)).getD 0=((fr.map Tk.t).count s:Nat))(t:Tk)(s:jU):(fput g (ofL t.t) ((g (ofL t.t)).getD 0+1) (ofL s)).getD 0=(((fr++[t]).map Tk.t).count s:Nat):=by
 rw[List.map_append,List.count_append,List.map_cons,List.map_nil,List.count_cons,List.count_nil]
 unfold fput
 by_cases h:s=t.t
 ·subst h
  rw[if_pos rfl,hg]
  simp
 ·rw[if_neg (fun e=>h (y1z e)),hg,if_neg (by simpa using fun e=>h e.symm)]
  simp
theorem pmeet_bound (h:PSt E w l bd fr kb fv c5){s:jU}(hs:s.length<=maxLen)(hm:s∈bd) :
  Calls Tryz.prog 121 #[.agg #[.map (some E.mb),.map (some E.mm)],.string (ofL s)] w fun e w'=>e=.returned (.bool false)∧PSt E w' l bd fr kb fv c5∧Stay E w fv w' fv:=by
 obtain⟨f,hf,hf2⟩:=h.bnd
 refine (meet_bound (mm:=E.mm) hf (ofL s) (y3g hs) (by rw[hf2];have:=List.count_pos_iff.2 hm;omega)).mono ?_
 rintro e w' ⟨he,hb⟩
 exact⟨he,h.keep hb,Stay.of_below hb⟩
theorem pmeet_free (h:PSt E w l bd fr kb fv c5){t:Tk}(ht:t.t.length<=maxLen)(hN:fr.length+1+l.length<=E.N)(hm:t.t∉bd) :
  Calls Tryz.prog 121 #[.agg #[.map (some E.mb),.map (some E.mm)],.string (ofL t.t)] w fun e w'=>e=.returned (.bool (decide (t.t∉fr.map Tk.t)))∧(∃g,Nm w' E.mm g (fr.length+1)∧∀s,(g (ofL s)).getD 0=(((fr++[t]).map Tk.t).count s:Nat))∧Only [E.mm] w w':=by
 obtain⟨f,hf,hf2⟩:=h.bnd
 obtain⟨g,hg,hg2⟩:=h.met
 have hmx:=h.mx
 have hb:=max_big
 have hc:(fr.map Tk.t).count t.t<=fr.length:=by have:=List.count_le_length (a:=t.t) (l:=fr.map Tk.t);simpa using this
 refine (meet_free hf hg (by omega) (ofL t.t) (y3g ht) (by rw[hf2,List.count_eq_zero.2 hm];simp) (by rw[hg2];omega) (by rw[hg2];omega)).mono ?_
 rintro e w' ⟨he,h1,h2⟩
 refine⟨?_,⟨_,h1,fun s=>fput_count hg2 t s⟩,h2⟩
 rw[he]
 congr 2
 by_cases hq:t.t∈fr.map Tk.t
 ·have:=List.count_pos_iff.2 hq
  rw[decide_eq_false (by rw[hg2];omega),decide_eq_false (by simpa using hq)]
 ·rw[decide_eq_true (by rw[hg2,List.count_eq_zero.2 hq];rfl),decide_eq_true hq]
theorem PSt.again (h:PSt E w l bd fr kb fv c5){t:Tk}{w':World}(hN:fr.length+1+l.length<=E.N)(hg:∃g,Nm w' E.mm g (fr.length+1)∧∀s,(g (ofL s)).getD 0=(((fr++[t]).map Tk.t).count s:Nat))(ho:Only [E.mm] w w')(hm:t.t∈fr.map Tk.t):PSt E w' l bd (fr++[t]) kb fv c5∧Stay E w fv w' fv:=by
 obtain⟨f,hf,hf2⟩:=h.bnd
 obtain⟨g,hg,hg2⟩:=hg
 obtain⟨rv,b1,b2,b3⟩:=h.bx.ks
 have hlo:=h.lo.2
 have hBl:=(jG b1).1
 refine⟨⟨⟨⟨rv,(ho.block _ hBl (by simpa using fun e=>h.mmB e.symm)).trans b1,y1h b2 ho.size (fun b hb=>?_),b3⟩,h.bx.mB⟩,⟨f,hf.same (ho.block _ hf.lt (by simpa using h.ne)),hf2⟩,⟨g,by simpa using hg,hg2⟩,?_,h.bud,by simpa using hN,h.mx,h.tok,h.ne,h.lo⟩,Stay.of_only ho (fun r hr=>by simp at hr;exact .inr (.inr (.inl hr)))⟩
 ·have:=b3 b hb
  have:=h.bx.mB
  exact ho.block b (by omega) (by simp;omega)
 ·rw[y51,if_pos ((mem_firsts _ _).2 hm)]
  exact rkp h.row (fun r hr=>ho.block r (h.fvlt hr).2 (fun hm=>by simp at hm;subst hm;exact h.fvm hr))
theorem PSt.pushed (h:PSt E w l bd fr kb fv c5){t:Tk}{w' w2 w3:World}{v':Value}(hN:fr.length+1+l.length<=E.N)(hg:∃g,Nm w' E.mm g (fr.length+1)∧∀s,(g (ofL s)).getD 0=(((fr++[t]).map Tk.t).count s:Nat))(ho:Only [E.mm] w w')(hm:t.t∉fr.map Tk.t)(hb:Below w'.heap.size w' w2)
  (hown:w3.ownsRow E.n0 57 3 v' ((firsts fr).length+1) (flK (firsts fr)++[.int .i64 t.k,.int .i64 (t.a:Nat),.string (ofL t.t)])) (hgr:w2.grownBy w3 fv.ownBlock) (hat:v'.ownBlock=fv.ownBlock∨v'.ownBlock=some w2.heap.size) :
  (w3.cell? ⟨E.B,4,none⟩=some fv∧w3.frozen? ⟨E.B,4,none⟩=false)∧PSt E (w3.setCell ⟨E.B,4,none⟩ v') l bd (fr++[t]) kb v' c5∧Stay E w fv (w3.setCell ⟨E.B,4,none⟩ v') v':=by
 obtain⟨f,hf,hf2⟩:=h.bnd
 obtain⟨g,hg,hg2⟩:=hg
 obtain⟨rv,b1,b2,b3⟩:=h.bx.ks
 have hlo:=h.lo
 have hBl:=(jG b1).1
 have hs1:=ho.size
 have hs2:=hb.size
 have hs3:=hgr.size
 have same:∀k,k<w.heap.size->k≠E.mm->fv.ownBlock≠some k->w3.heap[k]? =w.heap[k]?:=fun k hk h1 h2 =>
  ((hgr.block k (by omega) (fun e=>h2 e.symm)).trans (hb.block k (by omega))).trans (ho.block k hk (by simpa using h1))
 have hB3:w3.heap[E.B]? =some (.cells #[rv,.int .i64 (E.n:Nat),.map (some E.mb),.map (some E.mm),fv,c5] 55 (0,0)):=(same E.B hBl (fun e=>h.mmB e.symm) h.fvB).trans b1
 have hset:(w3.setCell ⟨E.B,4,none⟩ v').heap[E.B]? =some (.cells #[rv,.int .i64 (E.n:Nat),.map (some E.mb),.map (some E.mm),v',c5] 55 (0,0)):=by have:=heap_setCell_same w3 E.B 4 _ 55 v' hB3;simpa using this
 have oth:∀k,k≠E.B->(w3.setCell ⟨E.B,4,none⟩ v').heap[k]? =w3.heap[k]?:=fun k hk=>Below.heap_setCell _ _ _ k hk
 have hmm3:w3.heap[E.mm]? =w'.heap[E.mm]?:=(hgr.block _ (by have:=hg.lt;omega) (fun e=>h.fvm e.symm)).trans (hb.block _ hg.lt)
 have hv'B:v'.ownBlock≠some E.B:=fun e=>by
  rcases hat with h1|h1
  ·exact h.fvB (h1▸e)
  ·rw[h1]at e;have:=Option.some.inj e;omega
 refine⟨⟨cst (vs:=[_,_,_,_,_,_]) hB3 rfl,frc hB3⟩,⟨⟨⟨rv,hset,y1h b2 (by simp;omega) (fun b hbb=>?_),b3⟩,h.bx.mB⟩,⟨f,hf.same ((oth _ h.mbB).trans (same _ hf.lt h.ne h.fvb)),hf2⟩,⟨g,by rw[jL];exact hg.same ((oth _ h.mmB).trans hmm3),hg2⟩,?_,h.bud,by simpa using hN,h.mx,h.tok,h.ne,h.lo⟩,?_⟩
 ·have h3:=b3 b hbb
  have h4:=h.bx.mB
  exact (oth b (by omega)).trans (same b (by omega) (by omega) (fun e=>by have:=(h.fvlt e).1;omega))
 ·rw[y51,if_neg (fun hx=>hm ((mem_firsts _ _).1 hx)),y0r,jL]
  exact rkp hown (fun r hr=>oth r (fun e=>hv'B (e▸hr)))
 ·refine⟨hgr.os.trans (hb.os.trans ho.os),hgr.tape.trans (hb.tape.trans ho.tape),hgr.output.trans (hb.output.trans ho.output),by simp;omega,fun k hk hn=>?_⟩
  have n1:k≠E.B:=fun e=>hn (.inl e)
  have n2:k≠E.mm:=fun e=>hn (.inr (.inr (.inl e)))
  have n3:fv.ownBlock≠some k:=fun e=>hn (.inr (.inr (.inr e)))
  refine⟨(oth k n1).trans (same k hk n2 n3),?_⟩
  rintro (e|e|e|e)
  ·exact n1 e
  ·exact hn (.inr (.inl e))
  ·exact n2 e
  ·rcases hat with h1|h1
   ·exact n3 (h1▸e)
   ·rw[h1]at e;cases e;omega
end
end
section
open Go.RowKit Go.Maps
open Lx (Tk ofL KsAt flK y0r rkp rbk rsl lit3 one3)
theorem fld0 (k a:Int)(s:ByteArray)(W:World):Sem.run Tryz.prog (Instr.field 57 (.agg #[.int .i64 k,.int .i64 a,.string s]) 0) W=.ok (.int .i64 k) W:=by kernel_rfl
theorem fld2 (k a:Int)(s:ByteArray)(W:World):Sem.run Tryz.prog (Instr.field 57 (.agg #[.int .i64 k,.int .i64 a,.string s]) 2) W=.ok (.string s) W:=by kernel_rfl
attribute [local go_sem] fld0 fld2
abbrev tmV (t:T)(sl:Value):Value:=.agg #[.int .i64 t.v,.string t.fn,sl]
theorem y09 {w:World}{R:Nat}{a b c:Value}(h:w.heap[R]? =some (.cells #[a,b,c] 24 (0,0))):(w.cell? ⟨R,0,none⟩=some a∧w.cell? ⟨R,1,none⟩=some b∧w.cell? ⟨R,2,none⟩=some c)∧w.frozen? ⟨R,0,none⟩=false∧w.frozen? ⟨R,1,none⟩=false∧w.frozen? ⟨R,2,none⟩=false:=
 ⟨⟨cst (vs:=[_,_,_]) h rfl,cst (vs:=[_,_,_]) h rfl,cst (vs:=[_,_,_]) h rfl⟩,frc h,frc h,frc h⟩
theorem box3 {X:World}{g:Nat}{u v s:Value}{ty:TypeId}(h:X.heap[g]? =some (.cells #[u,v,s] ty (0,0)))(x y z:Value) :
  (((X.setCell ⟨g,0,none⟩ x).setCell ⟨g,1,none⟩ y).setCell ⟨g,2,none⟩ z).heap[g]? =some (.cells #[x,y,z] ty (0,0)):=by
 have e1:=heap_setCell_same X g 0 _ ty x h
 have e2:=heap_setCell_same _ g 1 _ ty y e1
 have e3:=heap_setCell_same _ g 2 _ ty z e2
 simpa using e3
theorem only3 (X:World)(g:Nat)(x y z:Value):Only [g] X (((X.setCell ⟨g,0,none⟩ x).setCell ⟨g,1,none⟩ y).setCell ⟨g,2,none⟩ z):=
 ((y07 (Below.refl _ X) g 0 x).trans (y07 (Below.refl _ _) g 1 y) (fun _r hr=>.inl hr)).trans (y07 (Below.refl _ _) g 2 z) (fun _r hr=>.inl hr)
theorem PSt.write {E:Env}{W W':World}{l:List Tk}{bd:List jU}{fr:List Tk}{kb:Nat}{fv c5:Value}(h:PSt E W l bd fr kb fv c5){R:Nat}(ho:Only [R] W W')(hR:¬Own E fv R)(hn:E.n0<=R):PSt E W' l bd fr kb fv c5:=by
 obtain⟨f,hf,hf2⟩:=h.bnd
 obtain⟨g,hg,hg2⟩:=h.met
 obtain⟨rv,b1,b2,b3⟩:=h.bx.ks
 have hBl:=(jG b1).1
 have key:∀k,Own E fv k->k<W.heap.size->W'.heap[k]? =W.heap[k]?:=fun k hk hl=>ho.block k hl (fun hm=>by simp at hm;subst hm;exact hR hk)
 exact⟨⟨⟨rv,(key _ (.inl rfl) hBl).trans b1,y1h b2 ho.size (fun b hb=>ho.block b (by have:=b3 b hb;have:=h.bx.mB;omega) (fun hm=>by simp at hm;have:=b3 b hb;omega)),b3⟩,h.bx.mB⟩,⟨f,hf.same (key _ (.inr (.inl rfl)) hf.lt),hf2⟩,⟨g,hg.same (key _ (.inr (.inr (.inl rfl))) hg.lt),hg2⟩,rkp h.row (fun r hr=>key r (.inr (.inr (.inr hr))) (h.fvlt hr).2),h.bud,h.bud2,h.mx,h.tok,h.ne,h.lo⟩
theorem Stay.write {E:Env}{w W W':World}{fv fv':Value}(h:Stay E w fv W fv'){R:Nat}(ho:Only [R] W W')(hR:w.heap.size<=R):Stay E w fv W' fv':=
 ⟨ho.os.trans h.os,ho.tape.trans h.tape,ho.output.trans h.output,Nat.le_trans h.size ho.size,fun k hk hn=>⟨(ho.block k (by have:=h.size;omega) (fun hm=>by simp at hm;omega)).trans (h.blk k hk hn).1,(h.blk k hk hn).2⟩⟩
theorem y4m {E:Env}{w:World}{t:Tk}{r:List Tk}{bd:List jU}{fr:List Tk}{kb:Nat}{fv c5:Value}(h:PSt E w (t::r) bd fr kb fv c5){k:Int}(hk:t.k=k) :
  Calls Tryz.prog 207 #[.pointer (some ⟨E.B,0,none⟩),.int .i64 k] w fun e w'=>e=.returned (tokV E.n (t::r))∧PSt E w' r bd fr kb fv c5∧Stay E w fv w' fv:=by
 subst hk
 exact ptake_yes h
theorem term_known {E:Env}{w:World}{t:Tk}{r:List Tk}{bd:List jU}{fr:List Tk}{kb:Nat}{fv c5:Value}(h:PSt E w (t::r) bd fr kb fv c5)(hk:t.k=2){fr':List Tk}(hq:∀X,PSt E X r bd fr kb fv c5->Calls Tryz.prog 121 #[.agg #[.map (some E.mb),.map (some E.mm)],.string (ofL t.t)] X fun e w'=>e=.returned (.bool false)∧PSt E w' r bd fr' kb fv c5∧Stay E X fv w' fv) :
  Calls Tryz.prog 199 #[.pointer (some ⟨E.B,0,none⟩)] w fun e w'=>e=.returned (tmV (.mk 0 (ofL t.t) []) (.slice none 0 0))∧PSt E w' r bd fr' kb fv c5∧Stay E w fv w' fv:=by
 have hb0:=bbx w (.cells #[.int .i64 0,.string ⟨#[]⟩,.slice none 0 0] 24)
 have h0:=h.keep hb0
 have hz:=(jH w (.cells #[.int .i64 0,.string ⟨#[]⟩,.slice none 0 0] 24)).1
 have HR:Hid (¬Own E fv w.heap.size):=h.fresh (jJ _)
 have HRn:Hid (E.n0<=w.heap.size):=by show E.n0<=w.heap.size;have:=h.ownlt (k:=E.B) (.inl rfl);omega
 obtain⟨W0,hW0⟩:∃X,w.alloc (.cells #[.int .i64 0,.string ⟨#[]⟩,.slice none 0 0] 24)=X:=⟨_,rfl⟩
 rw[hW0]at h0 hb0 hz
 obtain⟨R,hR⟩:∃R,w.heap.size=R:=⟨_,rfl⟩
 have ha:=pahead h0
 have hRl:R<W0.heap.size:=by rw[hR]at hz;exact (jG hz).1
 rw[hR]at hz HR HRn
 have H0:Hid (W0.heap[R]? =some (.cells #[.int .i64 0,.string ⟨#[]⟩,.slice none 0 0] 24 (0,0))∧R<W0.heap.size∧Stay E w fv W0 fv):=⟨hz,hRl,Stay.of_below hb0⟩
 obtain⟨tx,htx⟩:∃x,ofL t.t=x:=⟨_,rfl⟩
 simp only[tokV,hk,htx]at ha
 clear hb0 hz h0 h hRl
 go_enter Tryz.func199,Tryz.ntmps199
 go_upto_region 1 with fail
 try simp only[hR]
 try rw[hW0]
 clear hW0
 go_wp2_with fail
 refine ha.mono ?_
 rintro e W1 ⟨rfl,h1,s1⟩
 have H1:Hid (W1.heap[R]? =some (.cells #[.int .i64 0,.string ⟨#[]⟩,.slice none 0 0] 24 (0,0))∧R<W1.heap.size∧Stay E w fv W1 fv):=⟨(s1.blk R H0.out.2.1 HR.out).1.trans H0.out.1,jI H0.out.2.1 s1.size,H0.out.2.2.trans s1⟩
 have ha2:=y4m h1 hk
 simp only[tokV,hk,htx]at ha2
 clear ha h1 s1 H0
 go_wp2_with fail
 refine ha2.mono ?_
 rintro e W2 ⟨rfl,h2,s2⟩
 have H2:Hid (W2.heap[R]? =some (.cells #[.int .i64 0,.string ⟨#[]⟩,.slice none 0 0] 24 (0,0))∧R<W2.heap.size∧Stay E w fv W2 fv):=⟨(s2.blk R H1.out.2.1 HR.out).1.trans H1.out.1,jI H1.out.2.1 s2.size,H1.out.2.2.trans s2⟩
 clear ha2 s2 H1
 go_upto_region 3 with fail
 have hb3:=bbx W2 (.cells #[.int .i64 2,.int .i64 (t.a:Nat),.string tx] 57)
 have hz3:=(jH W2 (.cells #[.int .i64 2,.int .i64 (t.a:Nat),.string tx] 57)).1
 have h3:=h2.keep hb3
 have hG:¬Own E fv W2.heap.size:=h2.fresh (jJ _)
 have hGR:R≠W2.heap.size:=fun e=>by have:=H2.out.2.1;omega
 obtain⟨G,hGe⟩:∃G,W2.heap.size=G:=⟨_,rfl⟩
 rw[hGe]at hz3 hG hGR
 try simp only[hGe]
 obtain⟨W3,hW3⟩:∃X,W2.alloc (.cells #[.int .i64 2,.int .i64 (t.a:Nat),.string tx] 57)=X:=⟨_,rfl⟩
 rw[hW3]at h3 hb3 hz3 ⊢
 have H3:Hid (W3.heap[R]? =some (.cells #[.int .i64 0,.string ⟨#[]⟩,.slice none 0 0] 24 (0,0))∧R<W3.heap.size∧Stay E w fv W3 fv∧W3.heap[G]? =some (.cells #[.int .i64 2,.int .i64 (t.a:Nat),.string tx] 57 (0,0))∧¬Own E fv G∧R≠G):=⟨(hb3.block R H2.out.2.1).trans H2.out.1,jI H2.out.2.1 hb3.size,H2.out.2.2.trans (Stay.of_below hb3),hz3,hG,hGR⟩
 obtain⟨rv,hbx⟩:=h3.boxAt
 have x2:W3.cell? ⟨E.B,2,none⟩=some (.map (some E.mb)):=cst (vs:=[_,_,_,_,_,_]) hbx rfl
 have x3:W3.cell? ⟨E.B,3,none⟩=some (.map (some E.mm)):=cst (vs:=[_,_,_,_,_,_]) hbx rfl
 have xg:W3.cell? ⟨G,2,none⟩=some (.string tx):=cst (vs:=[_,_,_]) hz3 rfl
 have hd:=(Below.refl W3.heap.size W3).drew
 have hme:Calls Tryz.prog 121 #[.agg #[.map (some E.mb),.map (some E.mm)],.string tx] W3.drew fun e w'=>e=.returned (.bool false)∧Hid (PSt E w' r bd fr' kb fv c5∧Stay E w fv w' fv∧w'.heap[R]? =some (.cells #[.int .i64 0,.string ⟨#[]⟩,.slice none 0 0] 24 (0,0)))∧w'.cell? ⟨E.B,2,none⟩=some (.map (some E.mb))∧w'.cell? ⟨E.B,3,none⟩=some (.map (some E.mm))∧w'.cell? ⟨G,2,none⟩=some (.string tx):=by
  rw[<-htx]
  refine (hq _ (h3.keep hd)).mono ?_
  rintro e W4 ⟨rfl,h4,s4⟩
  obtain⟨rv4,hb4⟩:=h4.boxAt
  have hR4:=(s4.blk R H3.out.2.1 HR.out).1.trans H3.out.1
  have hG4:=(s4.blk G (jG H3.out.2.2.2.1).1 H3.out.2.2.2.2.1).1.trans H3.out.2.2.2.1
  exact⟨rfl,⟨h4,H3.out.2.2.1.trans ((Stay.of_below hd).trans s4),hR4⟩,cst (vs:=[_,_,_,_,_,_]) hb4 rfl,cst (vs:=[_,_,_,_,_,_]) hb4 rfl,by rw[htx];exact cst (vs:=[_,_,_]) hG4 rfl⟩
 clear hb3 hz3 h3 h2 hG hGR hGe hW3 H2 hbx hd
 go_region_held3 (fun X=>X.cell? ⟨E.B,2,none⟩=some (.map (some E.mb))∧X.cell? ⟨E.B,3,none⟩=some (.map (some E.mm))∧X.cell? ⟨G,2,none⟩=some (.string tx)) (first|exact⟨x2,x3,xg⟩|exact⟨y2,y3,yg⟩) (first|(go_at_call 121;refine hme.mono ?_;rintro e W4 ⟨rfl,HF,y2,y3,yg⟩))
 obtain⟨⟨r0,r1,r2⟩,f0,f1,f2⟩:=y09 HF.out.2.2
 clear x2 x3 xg hme
 go_wp2
 have hbx5:=box3 HF.out.2.2 (.int .i64 0) (.string tx) (.slice none 0 0)
 have ho5:=only3 W4 R (.int .i64 0) (.string tx) (.slice none 0 0)
 obtain⟨⟨p0,p1,p2⟩,_⟩:=y09 hbx5
 refine bodyPost_ret (v:=tmV (.mk 0 tx []) (.slice none 0 0)) (by simp[results,Tryz.results199,go_sem,p0,p1,p2,T.v,T.fn]) rfl ?_
 exact⟨by rw[htx],HF.out.1.write ho5 HR.out HRn.out,HF.out.2.1.write ho5 (by omega)⟩
theorem term_bound {E:Env}{w:World}{t:Tk}{r:List Tk}{bd:List jU}{fr:List Tk}{kb:Nat}{fv c5:Value}(h:PSt E w (t::r) bd fr kb fv c5)(hk:t.k=2)(hm:t.t∈bd) :
  Calls Tryz.prog 199 #[.pointer (some ⟨E.B,0,none⟩)] w fun e w'=>e=.returned (tmV (.mk 0 (ofL t.t) []) (.slice none 0 0))∧PSt E w' r bd fr kb fv c5∧Stay E w fv w' fv:=
 term_known h hk fun _ hX=>pmeet_bound hX (h.tok t (List.mem_cons_self ..)).len hm
theorem term_again {E:Env}{w:World}{t:Tk}{r:List Tk}{bd:List jU}{fr:List Tk}{kb:Nat}{fv c5:Value}(h:PSt E w (t::r) bd fr kb fv c5)(hk:t.k=2)(hm:t.t∉bd)(hq:t.t∈fr.map Tk.t) :
  Calls Tryz.prog 199 #[.pointer (some ⟨E.B,0,none⟩)] w fun e w'=>e=.returned (tmV (.mk 0 (ofL t.t) []) (.slice none 0 0))∧PSt E w' r bd (fr++[t]) kb fv c5∧Stay E w fv w' fv:=
 have hN:fr.length+1+r.length<=E.N:=by have:=h.bud2;simp only[jK]at this;omega
 term_known h hk fun X hX=>by
  refine (pmeet_free hX (h.tok t (List.mem_cons_self ..)).len hN hm).mono ?_
  rintro e w' ⟨he,hg,ho⟩
  refine⟨?_,hX.again hN hg ho hq⟩
  rw[he,decide_eq_false (by simpa using hq)]
end
