import Derived.Test.YthkinkcpfcpehaaGreatDoorZS
import Derived.Test.YthkinkcpfcpehaaGreatDoorGN
namespace Go.Proofs.YthkinkcpfcpehaaGreatDoor
set_option maxRecDepth 100000
set_option maxHeartbeats 8000000
section
open Go.RowKit Go.Maps
open Lx (Tk ofL KsAt y0a wsr)
def DTermR (D:DE)(bl:List jU)(l:List Tk)(fr:List Tk)(mn:Bool)(bd:Int)(t:T)(l' fr':List Tk)(mn':Bool)(bd':Int):Prop:=
 (bd<0->(∃fx,PT bl l (.ok [t] fx l')∧frV fr'=frV (fr++fx)∧mn'=(mn||wideT t)∧bd'=bd)∨∃q,PT bl l (.no q)∧bd'=(plc D.n q:Nat))∧(¬bd<0->bd'=bd)∧t.fn.size<=63
def DTermP (D:DE)(w:World)(bl:List jU)(l fr:List Tk)(mn:Bool)(bd:Int)(e:Ending)(w':World):Prop:=
 ∃t sl l' fr' mn' bd',DTermR D bl l fr mn bd t l' fr' mn' bd'∧e=.returned (tval t sl)∧ArgsP (fun k=>w.heap.size<=k) w' sl t.args∧DS D w' l' fr' mn' bd'∧Only [D.B] w w'
section
variable {D : DE} {w : World} {l r fr : List Tk} {t : Tk} {mn : Bool} {bd : Int}
theorem DS.free (h:DS D w l fr mn bd){fr':List Tk}(e:frV fr'=frV fr):DS D w l fr' mn bd:=⟨by rw[e];exact h.box,h.ks,h.suf,h.own,h.mx,h.tok⟩
theorem DS.turn2 {W':World}{L:List Nat}(h:DS D w l fr mn bd)(ho:Only L w W')(hB:D.B∉L)(hL:∀x∈L,D.B<=x):DS D W' l fr mn bd:=
 ⟨(ho.block D.B h.lt hB).trans h.box,y1h h.ks ho.size (fun b hb=>ho.block b (Nat.lt_trans (h.own b hb) h.lt) (fun hm=>by have:=hL b hm;have:=h.own b hb;omega)),h.suf,h.own,h.mx,h.tok⟩
theorem DS.setFree (h:DS D w l fr mn bd){fr':List Tk}(v:Int)(e:frV fr'=v):DS D (w.setCell ⟨D.B,5,none⟩ (.int .i64 v)) l fr' mn bd∧Only [D.B] w (w.setCell ⟨D.B,5,none⟩ (.int .i64 v)):=by
 have e1:=heap_setCell_same w D.B 5 _ 100 (.int .i64 v) h.box
 have ho:=y07 (Below.refl _ w) D.B 5 (.int .i64 v)
 exact⟨h.turn h.suf (by rw[e];simpa using e1) ho,ho⟩
theorem DS.cells (h:DS D w l fr mn bd):(w.cell? ⟨D.B,0,none⟩=some (.slice D.a D.L.length D.c)∧w.cell? ⟨D.B,1,none⟩=some (.int .i64 ((D.L.length-l.length:Nat):Int))∧w.cell? ⟨D.B,2,none⟩=some (.int .i64 (D.n:Nat))∧w.cell? ⟨D.B,3,none⟩=some (.int .i64 bd)∧w.cell? ⟨D.B,4,none⟩=some (.bool mn)∧w.cell? ⟨D.B,5,none⟩=some (.int .i64 (frV fr)))∧∀j,w.frozen? ⟨D.B,j,none⟩=false:=
 ⟨⟨cst (vs:=[_,_,_,_,_,_]) h.box rfl,cst (vs:=[_,_,_,_,_,_]) h.box rfl,cst (vs:=[_,_,_,_,_,_]) h.box rfl,cst (vs:=[_,_,_,_,_,_]) h.box rfl,cst (vs:=[_,_,_,_,_,_]) h.box rfl,cst (vs:=[_,_,_,_,_,_]) h.box rfl⟩,fun _=>frc h.box⟩
theorem frV_neg:frV []<0:=by decide
theorem frV_pos (t:Tk)(r:List Tk):¬frV (t::r)<0:=by show ¬((t.a:Nat):Int)<0;omega
structure VBx (D:DE) (w:World) (R G:Nat) (a:Int) (tx:ByteArray) (Z:World):Prop where
 res:Z.heap[R]? =some (.cells #[.int .i64 0,.string ⟨#[]⟩,.slice none 0 0] 24 (0,0))
 tok:Z.heap[G]? =some (.cells #[.int .i64 2,.int .i64 a,.string tx] 133 (0,0))
 BR:D.B<R
 RG:R<G
 on:Only [D.B] w Z
 wR:w.heap.size=R
theorem VBx.step {R G:Nat}{a:Int}{tx:ByteArray}{Z Z':World}(h:VBx D w R G a tx Z)(ho:Only [D.B] Z Z'):VBx D w R G a tx Z':=
 ⟨(ho.block R (jG h.res).1 (by have:=h.BR;simp;omega)).trans h.res,(ho.block G (jG h.tok).1 (by have:=h.BR;have:=h.RG;simp;omega)).trans h.tok,h.BR,h.RG,h.on.trans ho (fun r hr=>.inl hr),h.wR⟩
theorem Only.fresh {B R:Nat}{X Z V:World}(h:Only [B] X Z)(ho:Only [R] Z V)(hR:X.heap.size<=R):Only [B] X V:=
 h.trans ho (fun r hr=>.inr (by simp at hr;omega))
theorem VBx.fin {R G:Nat}{a:Int}{tx:ByteArray}{Z:World}(h:VBx D w R G a tx Z)(hd:DS D Z (t::r) fr mn bd) :
  ∃i2:Nat,Z.cell? ⟨D.B,1,none⟩=some (.int .i64 (i2:Nat))∧Z.frozen? ⟨D.B,1,none⟩=false∧wrap64 ((i2:Int)+1)=(i2:Int)+1∧
   ∃Z2 V,Hid (Z.setCell ⟨D.B,1,none⟩ (.int .i64 ((i2:Int)+1))=Z2)∧Z2.cell? ⟨G,2,none⟩=some (.string tx)∧
    (Instr.storeAt 24 (.pointer (some ⟨R,0,none⟩)) (.agg #[.int .i64 0,.string tx,.slice none 0 0])).run Tryz.prog Z2=.ok () V∧
    Hid ((V.cell? ⟨R,0,none⟩=some (.int .i64 0)∧V.cell? ⟨R,1,none⟩=some (.string tx)∧V.cell? ⟨R,2,none⟩=some (.slice none 0 0))∧DS D V r fr mn bd∧Only [D.B] w V):=by
 obtain⟨i2,-,e1,ef,ew,hE,oE⟩:=hd.eat
 have h2:=h.step oE
 have q2:=cst (vs:=[_,_,_]) (i:=2) h2.tok rfl
 obtain⟨V,hrun2,hV,oV⟩:=y2r (t:=.mk 0 tx []) (P:=fun _=>True) (X:=Z) h2.res rfl (ArgsP.nil _ Z)
 refine⟨i2,e1,ef,ew,_,V,rfl,q2,hrun2,(y09 hV).1,hE.turn2 oV ?_ ?_,h2.on.fresh oV (Nat.le_of_eq h.wR)⟩
 all_goals (have:=h.BR;simp;omega)
theorem dterm_var (h:DS D w (t::r) fr mn bd)(hb:bd<0)(hk:t.k=2){bv:Value}{bl:List jU}(hs:StrAt w bv bl) :
  Calls Tryz.prog 178 #[.pointer (some ⟨D.B,0,none⟩),bv] w (DTermP D w bl (t::r) fr mn bd):=by
 have hb0:=bbx w (.cells #[.int .i64 0,.string ⟨#[]⟩,.slice none 0 0] 24)
 have hz0:=(jH w (.cells #[.int .i64 0,.string ⟨#[]⟩,.slice none 0 0] 24)).1
 have h0:=h.keep hb0
 have hkd:=y15 h0 2
 rw[show (decide (bd<0)&&isK 2 (t::r))=true by rw[decide_eq_true hb,isK,decide_eq_true hk];rfl]at hkd
 obtain⟨W0,hW0⟩:∃X,w.alloc (.cells #[.int .i64 0,.string ⟨#[]⟩,.slice none 0 0] 24)=X:=⟨_,rfl⟩
 rw[hW0]at hb0 hz0 h0 hkd
 obtain⟨R,hR⟩:∃R,w.heap.size=R:=⟨_,rfl⟩
 rw[hR]at hz0
 have H0:=hid (And.intro h0 (And.intro hb0 (And.intro hz0 (jG hz0).1)))
 have HS:=hid hs
 have HLN0:Hid ((ofL t.t).size<=63):=(h0.toks t (List.mem_cons_self ..)).len63
 have HW0:=hid hW0
 have HR:=hid hR
 have HRB:Hid (D.B<R):=by show D.B<R;rw[<-hR];exact h.lt
 obtain⟨ba,bc,rfl,_⟩:=hs
 clear h hb0 hz0 h0 hW0
 go_enter Tryz.func178,Tryz.ntmps178
 go_upto_region 1 with fail
 try simp only[hR]
 rw[show _=W0 from HW0.out]
 go_wp2_with fail
 refine hkd.mono ?_
 rintro e W1 ⟨rfl,hb1⟩
 have h1:=H0.out.1.keep hb1
 obtain⟨⟨x0,x1,-,-,-,-⟩,-⟩:=h1.cells
 obtain⟨b,o,ea,hlt,c0,c1,c2⟩:=h1.at_
 have hbB:b<W1.heap.size:=Nat.lt_trans hlt h1.lt
 have hBl:=h1.lt
 have hlen:=h1.len
 rw[ea]at x0
 rw[show D.L.length-(t::r).length=D.L.length-(r.length+1) by simp]at x1
 obtain⟨i,hi⟩:∃i,D.L.length-(r.length+1)=i:=⟨_,rfl⟩
 obtain⟨N,hN⟩:∃N,D.L.length=N:=⟨_,rfl⟩
 have j1:(i:Int)<(N:Int):=by simp only[jK]at hlen;omega
 have j0:(0:Int)<=(i:Int):=by omega
 have j2:i<N:=by omega
 rw[hi]at x1 c0 c1 c2
 rw[hN]at x0
 rw[hk]at c0
 obtain⟨tx,htx⟩:∃x,ofL t.t=x:=⟨_,rfl⟩
 rw[htx]at c2
 have HC:Hid (∀X,Below W1.heap.size W1 X->X.cell? ⟨D.B,0,none⟩=some (.slice (some ⟨b,o,none⟩) N D.c)∧X.cell? ⟨D.B,1,none⟩=some (.int .i64 (i:Nat))∧X.cell? ⟨b,o+i*3,none⟩=some (.int .i64 2)∧X.cell? ⟨b,o+i*3+1,none⟩=some (.int .i64 (t.a:Nat))∧X.cell? ⟨b,o+i*3+2,none⟩=some (.string tx)):=by
  intro X hX
  have k:∀{n j v},n<W1.heap.size->W1.cell? ⟨n,j,none⟩=some v->X.cell? ⟨n,j,none⟩=some v:=fun {n j v} hn hc=>(World.cell?_of_block (a:=⟨n,j,none⟩) (hX.block n hn)).trans hc
  exact⟨k hBl x0,k hBl x1,k hbB c0,k hbB c1,k hbB c2⟩
 have H1:=hid (And.intro h1 (And.intro hb1 htx))
 clear hkd hb1 h1 x0 x1 c0 c1 c2 ea hlen hi hN htx hbB hBl hlt
 go_wp2
 have hX:=(bbx W1 (.cells #[.int .i64 0,.int .i64 0,.string ⟨#[]⟩] 133)).drew
 have hzX:((W1.alloc (.cells #[.int .i64 0,.int .i64 0,.string ⟨#[]⟩] 133)).drew).heap[W1.heap.size]? =some (.cells #[.int .i64 0,.int .i64 0,.string ⟨#[]⟩] 133 (0,0)):=(jH W1 (.cells #[.int .i64 0,.int .i64 0,.string ⟨#[]⟩] 133)).1
 obtain⟨X1,hX1⟩:∃X,(W1.alloc (.cells #[.int .i64 0,.int .i64 0,.string ⟨#[]⟩] 133)).drew=X:=⟨_,rfl⟩
 rw[hX1]at hX hzX
 obtain⟨Y,hrun,hY,hYo⟩:=y0a 133 X1 W1.heap.size _ [.int .i64 2,.int .i64 (t.a:Nat),.string tx] hzX rfl (by kernel_rfl) (by intro z hz;simp only[List.mem_cons,List.not_mem_nil,or_false]at hz;rcases hz with rfl|rfl|rfl<;>rfl)
 have hbY:Below W1.heap.size W1 Y:=hX.trans (hYo.below (Nat.le_of_lt (jG hzX).1) (by simp))
 have HY:=hid (And.intro hY hbY)
 have HXb:Hid (Below W1.heap.size W1 X1):=hX
 have HX1:=hid hX1
 clear hY hYo hbY hX hzX hX1
 refine wp_region_held_drew (S:=fun X=>Below W1.heap.size W1 X) (by kernel_rfl) (Below.refl _ _).drew (fun hHeld=>?_)
 refine Lx.tk 0 (.pointer (some ⟨D.B,0,none⟩)) rfl (Or.inl ⟨by rfl,?_⟩) ?_
 ·intro w hSw;obtain⟨g0,g1,g2,g3,g4⟩:=HC.out w hSw;go_simp
 try simp only[Act.put,jD,jE,jF]
 refine Lx.tk 1 (.pointer (some ⟨D.B,0,none⟩)) rfl (Or.inl ⟨by rfl,?_⟩) ?_
 ·intro w hSw;obtain⟨g0,g1,g2,g3,g4⟩:=HC.out w hSw;go_simp
 try simp only[Act.put,jD,jE,jF]
 refine Lx.tk 2 (.pointer (some ⟨D.B,0,none⟩)) rfl (Or.inl ⟨by rfl,?_⟩) ?_
 ·intro w hSw;obtain⟨g0,g1,g2,g3,g4⟩:=HC.out w hSw;go_simp
 try simp only[Act.put,jD,jE,jF]
 refine Lx.tk 3 (.slice (some ⟨b,o,none⟩) N D.c) rfl (Or.inl ⟨by rfl,?_⟩) ?_
 ·intro w hSw;obtain⟨g0,g1,g2,g3,g4⟩:=HC.out w hSw;go_simp
 try simp only[Act.put,jD,jE,jF]
 refine Lx.tk 4 (.pointer (some ⟨D.B,0,none⟩)) rfl (Or.inl ⟨by rfl,?_⟩) ?_
 ·intro w hSw;obtain⟨g0,g1,g2,g3,g4⟩:=HC.out w hSw;go_simp
 try simp only[Act.put,jD,jE,jF]
 refine Lx.tk 5 (.pointer (some ⟨D.B,0,none⟩)) rfl (Or.inl ⟨by rfl,?_⟩) ?_
 ·intro w hSw;obtain⟨g0,g1,g2,g3,g4⟩:=HC.out w hSw;go_simp
 try simp only[Act.put,jD,jE,jF]
 refine Lx.tk 6 (.pointer (some ⟨D.B,1,none⟩)) rfl (Or.inl ⟨by rfl,?_⟩) ?_
 ·intro w hSw;obtain⟨g0,g1,g2,g3,g4⟩:=HC.out w hSw;go_simp
 try simp only[Act.put,jD,jE,jF]
 refine Lx.tk 7 (.int .i64 (i:Nat)) rfl (Or.inl ⟨by rfl,?_⟩) ?_
 ·intro w hSw;obtain⟨g0,g1,g2,g3,g4⟩:=HC.out w hSw;go_simp
 try simp only[Act.put,jD,jE,jF]
 refine Lx.tk 8 (.pointer (some ⟨b,o+i*3,none⟩)) rfl (Or.inl ⟨by rfl,?_⟩) ?_
 ·intro w hSw;obtain⟨g0,g1,g2,g3,g4⟩:=HC.out w hSw;go_simp
 try simp only[Act.put,jD,jE,jF]
 refine Lx.tk 9 (.agg #[.int .i64 2,.int .i64 (t.a:Nat),.string tx]) rfl (Or.inl ⟨by rfl,?_⟩) ?_
 ·intro w hSw;obtain⟨g0,g1,g2,g3,g4⟩:=HC.out w hSw;go_simp
 try simp only[Act.put,jD,jE,jF]
 refine wpAnyH_ready (rs:=[10]) (by kernel_rfl) (by simp) ?_
 refine AllReadyH.cons rfl (fun K hK=>?_) AllReadyH.nil
 go_simp
 rw[show _=X1 from HX1.out]
 refine hK.out _ _ HXb.out (fun hHeld=>?_)
 clear hK K
 try simp only[Act.put,jA,jB,jC,jD,jE,jF]
 refine wpAnyH_ready (rs:=[11]) (by kernel_rfl) (by simp) ?_
 refine AllReadyH.cons rfl (fun K hK=>?_) AllReadyH.nil
 rw[if_pos (by rfl)]
 refine Lx.y02 133 _ _ rfl (.pointer (some ⟨W1.heap.size,0,none⟩)) (.agg #[.int .i64 2,.int .i64 (t.a:Nat),.string tx]) rfl rfl hrun ?_
 refine hK.out _ _ HY.out.2 (fun hHeld=>?_)
 clear hK K
 try simp only[Act.put,jA,jB,jC]
 refine wpAnyH_done (by kernel_rfl) ?_ _
 obtain⟨G,hG⟩:∃G,W1.heap.size=G:=⟨_,rfl⟩
 have hb1Y:=HY.out.2
 have hYd:DS D Y (t::r) fr mn bd:=H1.out.1.keep hb1Y
 have hbw:Below w.heap.size w Y:=H0.out.2.1.trans ((H1.out.2.1.mono (by have:=H0.out.2.1.size;omega)).trans (hb1Y.mono (Nat.le_trans H0.out.2.1.size H1.out.2.1.size)))
 have hin:=in_any (HS.out.keep hbw) t.t
 have hkk:(StrAt Y (.slice ba bl.length bc) bl):=HS.out.keep hbw
 rw[H1.out.2.2]at hin
 have HYW:Hid (Only [D.B] w Y):=Only.of_below hbw
 have hYG:=HY.out.1
 rw[hG]at hYG
 have g1:Y.cell? ⟨G,1,none⟩=some (.int .i64 (t.a:Nat)):=cst (vs:=[_,_,_]) hYG rfl
 have g2:Y.cell? ⟨G,2,none⟩=some (.string tx):=cst (vs:=[_,_,_]) hYG rfl
 have hRY:Y.heap[R]? =some (.cells #[.int .i64 0,.string ⟨#[]⟩,.slice none 0 0] 24 (0,0)):=(hb1Y.block R (jI H0.out.2.2.2 H1.out.2.1.size)).trans ((H1.out.2.1.block R H0.out.2.2.2).trans H0.out.2.2.1)
 have hvb:VBx D w R G (t.a:Nat) tx Y:=⟨hRY,hYG,HRB.out,by rw[<-hG];exact jI H0.out.2.2.2 H1.out.2.1.size,HYW.out,HR.out⟩
 obtain⟨-,hYf⟩:=hYd.cells
 obtain⟨⟨-,-,-,-,-,y5⟩,-⟩:=hYd.cells
 have f5:=hYf 5
 rw[hG]
 clear hb1Y hbw hYG hRY hYf HC hrun hHeld HY HXb HX1 hkk HYW
 have HLN:Hid (tx.size<=63):=by have:=HLN0.out;rwa [H1.out.2.2]at this
 have hfin:∀(Z:World) (fr' fx:List Tk),(if t.t∈bl then [] else [t])=fx->frV fr'=frV (fr++fx)->DTermR D bl (t::r) fr mn bd (.mk 0 tx []) r fr' mn bd:=fun Z fr' fx he hf =>
  ⟨fun _=>.inl ⟨fx,by rw[<-he,<-H1.out.2.2];exact PT.var hk,hf,by rw[wideT,wideT.wides];simp,rfl⟩,fun hb'=>rfl,HLN.out⟩
 have HFIN:=hid hfin
 clear hfin
 by_cases hm:t.t∈bl
 ·rw[decide_eq_true hm]at hin
  obtain⟨i2,e1,ef,ew,Z2,V,HZ2,q2,hrun2,HV⟩:=hvb.fin hYd
  have HM:Hid ((if t.t∈bl then [] else [t])=([]:List Tk)):=if_pos hm
  clear hvb hYd hm H1 H0
  go_wp2_with fail
  refine hin.mono ?_
  rintro e Y' ⟨rfl,rfl⟩
  clear hin
  go_wp2_with (first|(refine wsr rfl 24 _ _ rfl (.pointer (some ⟨R,0,none⟩)) (.agg #[.int .i64 0,.string tx,.slice none 0 0]) rfl rfl (by rw[show _=Z2 from HZ2.out];exact hrun2) ?_))
  refine bodyPost_ret (v:=.agg #[.int .i64 0,.string tx,.slice none 0 0]) (by simp[results,Tryz.results178,go_sem,HV.out.1.1,HV.out.1.2.1,HV.out.1.2.2]) rfl ?_
  exact⟨.mk 0 tx [],_,r,fr,mn,bd,HFIN.out V fr [] HM.out (by rw[List.append_nil]),rfl,ArgsP.nil _ _,HV.out.2.1,HV.out.2.2⟩
 ·rw[decide_eq_false hm]at hin
  have HM:Hid ((if t.t∈bl then [] else [t])=[t]):=if_neg hm
  cases fr with
  | nil =>
   have y5':Y.cell? ⟨D.B,5,none⟩=some (.int .i64 (-1)):=y5
   obtain⟨hZ,oZ⟩:=hYd.setFree (fr':=[t]) (t.a:Nat) rfl
   obtain⟨i2,e1,ef,ew,Z2,V,HZ2,q2,hrun2,HV⟩:=(hvb.step oZ).fin hZ
   obtain⟨Z,hZe⟩:∃X,Y.setCell ⟨D.B,5,none⟩ (.int .i64 (t.a:Nat))=X:=⟨_,rfl⟩
   rw[hZe]at e1 ef HZ2
   have HZ:=hid hZe
   clear hvb hYd hm H1 H0 hZ oZ hZe y5
   go_wp2_with fail
   refine hin.mono ?_
   rintro e Y' ⟨rfl,rfl⟩
   clear hin
   go_upto_region 5 with fail
   rw[show _=Z from HZ.out]
   go_upto_region 6 with fail
   rw[show _=Z2 from HZ2.out]
   go_wp2_with (first|(refine wsr rfl 24 _ _ rfl (.pointer (some ⟨R,0,none⟩)) (.agg #[.int .i64 0,.string tx,.slice none 0 0]) rfl rfl hrun2 ?_))
   refine bodyPost_ret (v:=.agg #[.int .i64 0,.string tx,.slice none 0 0]) (by simp[results,Tryz.results178,go_sem,HV.out.1.1,HV.out.1.2.1,HV.out.1.2.2]) rfl ?_
   exact⟨.mk 0 tx [],_,r,[t],mn,bd,HFIN.out V [t] [t] HM.out rfl,rfl,ArgsP.nil _ _,HV.out.2.1,HV.out.2.2⟩
  | cons t1 r1 =>
   obtain⟨i2,e1,ef,ew,Z2,V,HZ2,q2,hrun2,HV⟩:=hvb.fin hYd
   have hnn:¬((t1.a:Nat):Int)<0:=by omega
   have hnd:decide (((t1.a:Nat):Int)<0)=false:=decide_eq_false hnn
   have y5':Y.cell? ⟨D.B,5,none⟩=some (.int .i64 (t1.a:Nat)):=y5
   clear hvb hYd hm H1 H0 y5
   go_wp2_with fail
   refine hin.mono ?_
   rintro e Y' ⟨rfl,rfl⟩
   clear hin
   go_wp2_with (first|(refine wsr rfl 24 _ _ rfl (.pointer (some ⟨R,0,none⟩)) (.agg #[.int .i64 0,.string tx,.slice none 0 0]) rfl rfl (by rw[show _=Z2 from HZ2.out];exact hrun2) ?_))
   refine bodyPost_ret (v:=.agg #[.int .i64 0,.string tx,.slice none 0 0]) (by simp[results,Tryz.results178,go_sem,HV.out.1.1,HV.out.1.2.1,HV.out.1.2.2]) rfl ?_
   exact⟨.mk 0 tx [],_,r,t1::r1,mn,bd,HFIN.out V (t1::r1) [t] HM.out rfl,rfl,ArgsP.nil _ _,HV.out.2.1,HV.out.2.2⟩
end
end
section
open Go.RowKit Go.Maps
open Lx (Tk ofL KsAt y0a wsr rbk rkp)
section
variable {D : DE} {w : World} {l r fr : List Tk} {t : Tk} {mn : Bool} {bd : Int}
theorem y2a (h:DS D w l fr mn bd)(h1:(decide (bd<0)&&isK 1 l)=false)(h2:(decide (bd<0)&&isK 2 l)=false)(bv:Value)(bl:List jU) :
  Calls Tryz.prog 178 #[.pointer (some ⟨D.B,0,none⟩),bv] w (DTermP D w bl l fr mn bd):=by
 have hb0:=bbx w (.cells #[.int .i64 0,.string ⟨#[]⟩,.slice none 0 0] 24)
 have hz0:=(jH w (.cells #[.int .i64 0,.string ⟨#[]⟩,.slice none 0 0] 24)).1
 have h0:=h.keep hb0
 have hkd:=y15 h0 2
 rw[h2]at hkd
 obtain⟨W0,hW0⟩:∃X,w.alloc (.cells #[.int .i64 0,.string ⟨#[]⟩,.slice none 0 0] 24)=X:=⟨_,rfl⟩
 rw[hW0]at hb0 hz0 h0 hkd
 obtain⟨R,hR⟩:∃R,w.heap.size=R:=⟨_,rfl⟩
 rw[hR]at hz0
 have H0:=hid (And.intro h0 (And.intro hb0 (And.intro hz0 (jG hz0).1)))
 have HW0:=hid hW0
 have HR:=hid hR
 have HRB:Hid (D.B<R):=by show D.B<R;rw[<-hR];exact h.lt
 have HT:Hid (DTermR D bl l fr mn bd (.mk 0 ⟨#[]⟩ []) l fr mn (badV D l bd)):=by
  refine⟨fun hb=>.inr ⟨l,?_,by unfold badV;rw[if_pos hb]⟩,fun hb=>by unfold badV;rw[if_neg hb],by decide⟩
  rw[decide_eq_true hb,Bool.true_and]at h1 h2
  cases l with
  | nil=>exact PT.nil
  | cons t r=>exact PT.wrong (by simpa [isK] using h1) (by simpa [isK] using h2)
 have H1k:=hid h1
 clear h hb0 hz0 h0 hW0 h1 h2
 go_enter Tryz.func178,Tryz.ntmps178
 go_upto_region 1 with fail
 try simp only[hR]
 rw[show _=W0 from HW0.out]
 go_wp2_with fail
 refine hkd.mono ?_
 rintro e W1 ⟨rfl,hb1⟩
 have h1:=H0.out.1.keep hb1
 have hk1:=y15 h1 1
 rw[H1k.out]at hk1
 have H1:=hid (And.intro h1 hb1)
 clear hkd h1 hb1
 go_wp2_with fail
 refine hk1.mono ?_
 rintro e W2 ⟨rfl,hb2⟩
 have h2:=H1.out.1.keep hb2
 have hf:=y29 h2
 have H2:=hid hb2
 clear hk1 h2 hb2
 go_wp2_with fail
 refine hf.mono ?_
 rintro e W3 ⟨rfl,hd3,ho3⟩
 have hb02:Below W0.heap.size W0 W2:=H1.out.2.trans (H2.out.mono H1.out.2.size)
 have hR2:=(hb02.block R H0.out.2.2.2).trans H0.out.2.2.1
 have hR3:=(ho3.block R (jG hR2).1 (by have:=HRB.out;simp;omega)).trans hR2
 obtain⟨V,hrun,hV,oV⟩:=y2r (t:=.mk 0 ⟨#[]⟩ []) (P:=fun _=>True) (X:=W3) hR3 rfl (ArgsP.nil _ W3)
 have HC:Hid (V.cell? ⟨R,0,none⟩=some (.int .i64 0)∧V.cell? ⟨R,1,none⟩=some (.string ⟨#[]⟩)∧V.cell? ⟨R,2,none⟩=some (.slice none 0 0)):=(y09 hV).1
 have HF:Hid (DS D V l fr mn (badV D l bd)∧Only [D.B] w V):=
  ⟨hd3.turn2 oV (by have:=HRB.out;simp;omega) (by have:=HRB.out;simp;omega),(((Only.of_below (B:=[D.B]) (H0.out.2.1.trans (hb02.mono H0.out.2.1.size))).trans ho3 (fun r hr=>.inl hr))).fresh oV (Nat.le_of_eq HR.out)⟩
 clear hf hd3 ho3 hb02 hR2 hR3 hV oV
 go_wp2_with (first|(refine wsr rfl 24 _ _ rfl (.pointer (some ⟨R,0,none⟩)) (.agg #[.int .i64 0,.string ⟨#[]⟩,.slice none 0 0]) rfl rfl hrun ?_))
 refine bodyPost_ret (v:=.agg #[.int .i64 0,.string ⟨#[]⟩,.slice none 0 0]) (by simp[results,Tryz.results178,go_sem,HC.out.1,HC.out.2.1,HC.out.2.2]) rfl ?_
 exact⟨.mk 0 ⟨#[]⟩ [],_,l,fr,mn,_,HT.out,rfl,ArgsP.nil _ _,HF.out.1,HF.out.2⟩
structure TBx (D:DE) (w:World) (R O:Nat) (tx:ByteArray) (v:Value) (Z:World):Prop where
 res:Z.heap[R]? =some (.cells #[.int .i64 0,.string ⟨#[]⟩,.slice none 0 0] 24 (0,0))
 out:Z.heap[O]? =some (.cells #[.int .i64 0,.string tx,v] 24 (0,0))
 BR:D.B<R
 RO:R<O
 on:Only [D.B] w Z
 wR:w.heap.size=R
theorem TBx.step {R O:Nat}{v:Value}{tx:ByteArray}{Z Z':World}(h:TBx D w R O tx v Z)(ho:Only [D.B] Z Z'):TBx D w R O tx v Z':=
 ⟨(ho.block R (jG h.res).1 (by have:=h.BR;simp;omega)).trans h.res,(ho.block O (jG h.out).1 (by have:=h.BR;have:=h.RO;simp;omega)).trans h.out,h.BR,h.RO,h.on.trans ho (fun r hr=>.inl hr),h.wR⟩
structure ABx (D:DE) (w:World) (R O:Nat) (tx:ByteArray) (zs:List (T × Value)) (v:Value) (Z:World):Prop where
 bx:TBx D w R O tx v Z
 row:Z.ownsRow (O+1) 24 3 v zs.length (flT zs)
 args:∀p∈zs,ArgsP (fun k=>O<k∧v.ownBlock≠some k) Z p.2 p.1.args
theorem ABx.lt {R O:Nat}{tx:ByteArray}{zs:List (T × Value)}{v:Value}{Z:World}(h:ABx D w R O tx zs v Z):O<Z.heap.size:=(jG h.bx.out).1
theorem ABx.step {R O:Nat}{tx:ByteArray}{zs:List (T × Value)}{v:Value}{Z Z':World}(h:ABx D w R O tx zs v Z)(ho:Only [D.B] Z Z'):ABx D w R O tx zs v Z':=by
 have hBR:=h.bx.BR
 have hRO:=h.bx.RO
 refine⟨h.bx.step ho,rkp h.row (fun g hg=>?_),fun p hp=>(h.args p hp).keep ho.size (fun k hk hkl=>⟨hk,ho.block k hkl (by have:=hk.1;simp;omega)⟩)⟩
 obtain⟨h1,cu,hcu⟩:=rbk h.row hg
 exact ho.block g (jG hcu).1 (by simp;omega)
theorem ABx.push {R O:Nat}{tx:ByteArray}{zs:List (T × Value)}{v v':Value}{Z w6:World}{t:T}{sl:Value}(h:ABx D w R O tx zs v Z){m:Nat}(hm:O<m)(hvm:∀g,v.ownBlock=some g->g<m)(ha:ArgsP (fun k=>m<=k) Z sl t.args)
  (hrow:w6.ownsRow (O+1) 24 3 v' (zs.length+1) (flT zs++[.int .i64 t.v,.string t.fn,sl])) {X:World} (hX:Below Z.heap.size Z X) (hg:X.grownBy w6 v.ownBlock) (hat:v'.ownBlock=v.ownBlock∨v'.ownBlock=some X.heap.size) :
  ABx D w R O tx (zs++[(t,sl)]) v' (w6.setCell ⟨O,2,none⟩ v')∧Only (O::v.ownBlock.toList) Z (w6.setCell ⟨O,2,none⟩ v')∧w6.cell? ⟨O,2,none⟩=some v∧w6.frozen? ⟨O,2,none⟩=false:=by
 have hBR:=h.bx.BR
 have hRO:=h.bx.RO
 have hOl:=h.lt
 have hvO:∀g,v.ownBlock=some g->O+1<=g∧g<Z.heap.size:=fun g hg=>by
  obtain⟨h1,cu,hcu⟩:=rbk h.row hg
  exact⟨h1,(jG hcu).1⟩
 have same:∀k,k<Z.heap.size->k≠O->v.ownBlock≠some k->(w6.setCell ⟨O,2,none⟩ v').heap[k]? =Z.heap[k]?:=fun k hk h1 h2 =>
  (Below.heap_setCell _ _ _ k h1).trans ((hg.block k (jI hk hX.size) (fun e=>h2 e.symm)).trans (hX.block k hk))
 have hO6:w6.heap[O]? =some (.cells #[.int .i64 0,.string tx,v] 24 (0,0)):=(hg.block O (jI hOl hX.size) (fun e=>by have:=(hvO O e.symm).1;omega)).trans ((hX.block O hOl).trans h.bx.out)
 have hO7:=heap_setCell_same w6 O 2 _ 24 v' hO6
 have hsz:Z.heap.size<=(w6.setCell ⟨O,2,none⟩ v').heap.size:=by have:=hX.size;have:=hg.size;simp;omega
 have hon:Only (O::v.ownBlock.toList) Z (w6.setCell ⟨O,2,none⟩ v'):=
  ⟨hg.os.trans hX.os,hg.tape.trans hX.tape,hg.output.trans hX.output,hsz,fun k hk hn=>same k hk (fun e=>hn (by rw[e];simp)) (fun e=>hn (by rw[e];simp))⟩
 have hv':∀g,v'.ownBlock=some g->O+1<=g:=fun g hg'=>(rbk hrow hg').1
 refine⟨⟨⟨(same R (Nat.lt_trans hRO hOl) (by omega) (fun e=>by have:=(hvO R e).1;omega)).trans h.bx.res,by simpa using hO7,hBR,hRO,?_,h.bx.wR⟩,?_,?_⟩,hon,cst (vs:=[_,_,_]) hO6 rfl,frc hO6⟩
 ·exact h.bx.on.trans hon (fun x hx=>.inr (by
   have hw:=h.bx.wR
   simp only[List.mem_cons,Option.mem_toList]at hx
   rcases hx with rfl|hx
   ·omega
   ·have:=(hvO x hx).1;omega))
 ·rw[flT_snoc,jL]
  exact rkp hrow (fun g hg'=>Below.heap_setCell _ _ _ g (by have:=hv' g hg';show g≠O;omega))
 ·have grow:∀{P:Nat->Prop} {sl:Value} {us:List T},ArgsP P Z sl us->(∀j,P j->j<Z.heap.size->O<j∧v.ownBlock≠some j)->ArgsP (fun j=>O<j∧v'.ownBlock≠some j) (w6.setCell ⟨O,2,none⟩ v') sl us:=fun ha hP =>
   ha.keep hsz fun j hj hjl=>by
    obtain⟨g1,g2⟩:=hP j hj hjl
    refine⟨⟨g1,fun e=>?_⟩,same j hjl (by omega) g2⟩
    rcases hat with h1|h1
    ·exact g2 (h1▸e)
    ·rw[h1]at e;have:=Option.some.inj e;have:=hX.size;omega
  intro p hp
  rcases List.mem_append.1 hp with hp|hp
  ·exact grow (h.args p hp) (fun j hj _=>hj)
  ·simp only[List.mem_singleton]at hp
   subst hp
   exact grow ha (fun j hj hjl=>⟨by omega,fun e=>by have:=hvm j e;omega⟩)
end
end
