import Derived.Test.YthkinkcpfcpehaaGreatDoorZM
import Derived.Test.YthkinkcpfcpehaaGreatDoorGV
namespace Go.Proofs.YthkinkcpfcpehaaGreatDoor
set_option maxRecDepth 100000
set_option maxHeartbeats 16000000
open Go.RowKit Go.Maps
open Lx (Tk ofL KsAt y0a wsr rbk rkp rsl lit3)
section
variable {D : DE} {w : World} {l r fr : List Tk} {t : Tk} {mn : Bool} {bd : Int}
structure VBd (D:DE) (w:World) (R:Nat) (l1:List Tk) (fr:List Tk) (mn:Bool) (bd1:Int) (vs:List jU) (q:List Tk) (v:Value) (W:World):Prop where
 mb:MBx D w R W
 st:DS D W q fr mn bd1
 row:W.ownsRow (R+1) 9 1 v vs.length (flS vs)
 more:∀bs q',PV q (.ok bs [] q')->PV l1 (.ok (vs++bs) [] q')
 no:∀q',PV q (.no q')->PV l1 (.no q')
 cnt:vs.length+q.length<=l1.length
theorem VBd.only {R:Nat}{l1 q:List Tk}{bd1:Int}{vs:List jU}{v:Value}{W W':World}(h:VBd D w R l1 fr mn bd1 vs q v W)(hd:DS D W' q fr mn bd1)(ho:Only [D.B] W W'):VBd D w R l1 fr mn bd1 vs q v W':=by
 have hBR:=h.mb.BR
 refine⟨h.mb.step ho,hd,rkp h.row (fun g hg=>?_),h.more,h.no,h.cnt⟩
 obtain⟨h1,cu,hcu⟩:=rbk h.row hg
 exact ho.block g (jG hcu).1 (by simp;omega)
theorem VBd.keep {R:Nat}{l1 q:List Tk}{bd1:Int}{vs:List jU}{v:Value}{W W':World}(h:VBd D w R l1 fr mn bd1 vs q v W)(hb:Below W.heap.size W W'):VBd D w R l1 fr mn bd1 vs q v W':=h.only (h.st.keep hb) (Only.of_below hb)
theorem y35 {m:jU}{l:List Tk}(hb:bd<0):(wantL m l bd=if isM m l=true then l.tail else l)∧wantB D m l bd=if isM m l=true then bd else (plc D.n l:Nat):=by
 unfold wantL wantB badV
 rw[decide_eq_true hb,Bool.true_and,if_pos hb]
 exact⟨rfl,rfl⟩
theorem bad_want {m:jU}{l:List Tk}(hb:¬bd<0):wantL m l bd=l∧wantB D m l bd=bd:=by
 unfold wantL wantB badV
 rw[decide_eq_false hb,if_neg hb]
 simp
theorem DFmR.quant {bl:List jU}{vs:List jU}{r1 l4 fr4:List Tk}{f:Fm}{mn4:Bool}{bd4:Int}(hb:bd<0)(hh:headOf l=2∨headOf l=3)(hB1:wantB D [91] l.tail bd<0)(hv:PV (wantL [91] l.tail bd) (.ok vs [] r1))
  (h:DFmR D (PU (bl++vs)) (wantL [58] (wantL [93] r1 (wantB D [91] l.tail bd)) (wantB D [93] r1 (wantB D [91] l.tail bd))) fr mn (wantB D [58] (wantL [93] r1 (wantB D [91] l.tail bd)) (wantB D [93] r1 (wantB D [91] l.tail bd))) f l4 fr4 mn4 bd4):DFmR D (PU bl) l fr mn bd (wrapQ (if headOf l=2 then 7 else 8) vs f) l4 fr4 mn4 bd4:=by
 refine⟨fun _=>?_,fun hn=>absurd hb hn⟩
 have h91:isM [91] l.tail=true:=by
  by_cases h0:isM [91] l.tail=true
  ·exact h0
  ·obtain⟨-,e2⟩:=y35 (D:=D) (m:=[91]) (l:=l.tail) hb
   rw[if_neg h0]at e2
   omega
 obtain⟨e1,e2⟩:=y35 (D:=D) (m:=[91]) (l:=l.tail) hb
 rw[if_pos h91]at e1 e2
 rw[e1]at hv
 rw[e2]at h
 obtain⟨p1,p2⟩:=y35 (D:=D) (m:=[93]) (l:=r1) hb
 rw[p1,p2]at h
 have hcg:∀s,s∈bl++vs↔s∈vs++bl:=fun s=>by rw[List.mem_append,List.mem_append,or_comm]
 have hw:(wrapQ (if headOf l=2 then 7 else 8) vs f).wide=f.wide:=by
  clear h hv
  unfold wrapQ
  induction vs with
  | nil=>rfl
  | cons a r ih=>rw[List.foldr_cons,dw_q];exact ih (fun s=>by rw[List.mem_append,List.mem_append,or_comm])
 by_cases h93:isM [93] r1=true
 ·rw[if_pos h93,if_pos h93]at h
  obtain⟨q1,q2⟩:=y35 (D:=D) (m:=[58]) (l:=r1.tail) hb
  rw[q1,q2]at h
  by_cases h58:isM [58] r1.tail=true
  ·rw[if_pos h58,if_pos h58]at h
   rcases h.1 hb with⟨fx,hp,hf,hmn,hbe⟩|⟨q,hp,hbe⟩
   ·exact .inl ⟨fx,PU.q5 hh h91 hv h93 h58 (hp.congr hcg),hf,by rw[hmn,hw],hbe⟩
   ·exact .inr ⟨q,PU.q4 hh h91 hv h93 h58 (hp.congr hcg),hbe⟩
  ·rw[if_neg h58,if_neg h58]at h
   exact .inr ⟨r1.tail,PU.q3 hh h91 hv h93 (by simpa using h58),h.2 (by omega)⟩
 ·rw[if_neg h93,if_neg h93]at h
  have hn:¬((plc D.n r1:Nat):Int)<0:=by omega
  rw[(bad_want (D:=D) (m:=[58]) (l:=r1) hn).2]at h
  exact .inr ⟨r1,PU.q2 hh h91 hv (by simpa using h93),h.2 hn⟩
theorem DFmR.names {bl:List jU}{vs:List jU}{q:List Tk}{W:World}{v:Value}{R:Nat}(hb:bd<0)(hh:headOf l=2∨headOf l=3)(h:VBd D w R (wantL [91] l.tail bd) fr mn (wantB D [91] l.tail bd) vs q v W)(hk:(decide (wantB D [91] l.tail bd<0)&&isK 2 q)=false)(f:Fm):DFmR D (PU bl) l fr mn bd f q fr mn (badV D q (wantB D [91] l.tail bd)):=by
 refine⟨fun _=>?_,fun hn=>absurd hb hn⟩
 obtain⟨e1,e2⟩:=y35 (D:=D) (m:=[91]) (l:=l.tail) hb
 cases h91:isM [91] l.tail with
 | true =>
  rw[h91]at e1 e2
  simp only[if_true]at e1 e2
  rw[e2,decide_eq_true hb,Bool.true_and]at hk
  have hq:=h.no _ (PV.no_var hk)
  rw[e1]at hq
  exact .inr ⟨q,PU.q1 hh h91 hq,by rw[e2];unfold badV;rw[if_pos hb]⟩
 | false =>
  rw[h91]at e1 e2
  simp only[Bool.false_eq_true,if_false]at e1 e2
  exact .inr ⟨l.tail,PU.q0 hh h91,by rw[e2];unfold badV;rw[if_neg (by omega)]⟩
theorem isK_cons {k:Int}{l:List Tk}(h:isK k l=true):∃t r,l=t::r∧t.k=k:=by
 cases l with
 | nil=>cases h
 | cons t r=>exact⟨t,r,rfl,by simpa [isK] using h⟩
theorem lit1d (X:World)(n:Nat)(u:Value)(ty:TypeId)(hn:n=X.heap.size):∀j x,[u][j]? =some x->((X.alloc (.cells #[u] ty)).drew).cell? ((⟨n,0,none⟩:Addr).add j)=some x:=by
 intro j x hj
 subst hn
 have ea:(⟨X.heap.size,0,none⟩:Addr).add j=⟨X.heap.size,j,none⟩:=by unfold Addr.add;split<;>simp_all
 show (X.alloc (.cells #[u] ty)).cell? _=_
 rw[ea,World.cell?_alloc_new]
 simpa using hj
theorem StrAt.news {X:World}{ad:Addr}{n c:Nat}{l:List jU}(h:StrAt X (.slice (some ad) n c) l):∀j u,(flS l)[j]? =some u->X.cell? (ad.add j)=some u:=by
 intro j u hu
 obtain⟨a,c',e,h1,h2,h3⟩:=h
 cases e
 have hj:j<l.length:=by have:=(List.getElem?_eq_some_iff.1 hu).1;simpa [flS] using this
 obtain⟨b,o,hl,e2,hc⟩:=h3 (by omega)
 cases e2
 rw[y3l l j hj]at hu
 cases hu
 have ea:(⟨b,o,none⟩:Addr).add j=⟨b,o+j,none⟩:=by unfold Addr.add;split<;>simp_all
 rw[ea]
 exact hc j hj
theorem VBd.push {R:Nat}{l1 r1:List Tk}{t1:Tk}{bd1:Int}{vs:List jU}{v v':Value}{W X w6:World}(h:VBd D w R l1 fr mn bd1 vs (t1::r1) v W)(hX:Below W.heap.size W X)(hrow:w6.ownsRow (R+1) 9 1 v' (vs.length+1) (flS vs++[.string (ofL t1.t)]))(hg:X.grownBy w6 v.ownBlock) :
  MBx D w R w6∧DS D w6 (t1::r1) fr mn bd1∧w6.ownsRow (R+1) 9 1 v' (vs++[t1.t]).length (flS (vs++[t1.t]))∧(∀k,k<W.heap.size->k<=R->w6.heap[k]? =W.heap[k]?):=by
 have hBR:=h.mb.BR
 have hv:∀g,v.ownBlock=some g->R+1<=g:=fun g hg=>(rbk h.row hg).1
 have same:∀k,k<W.heap.size->k<=R->w6.heap[k]? =W.heap[k]?:=fun k hk hkR=>(hg.block k (jI hk hX.size) (fun e=>by have:=hv k e.symm;omega)).trans (hX.block k hk)
 have hon:Only v.ownBlock.toList X w6:=⟨hg.os,hg.tape,hg.output,hg.size,fun k hk hn=>hg.block k hk (fun e=>hn (by rw[<-e];simp))⟩
 refine⟨(h.mb.step (Only.of_below (B:=[D.B]) hX)).far hon (fun x hx=>?_),(h.st.keep hX).turn2 hon (fun hm=>?_) (fun x hx=>?_),by rw[flS_snoc,jL];exact hrow,same⟩
 ·have:=hv x (by simpa using hx);omega
 ·have:=hv D.B (by simpa using hm);omega
 ·have:=hv x (by simpa using hx);omega
theorem VBd.next {R:Nat}{l1 r1:List Tk}{t1 t2:Tk}{r2:List Tk}{bd1:Int}{vs:List jU}{v v':Value}{W W':World}(h:VBd D w R l1 fr mn bd1 vs (t1::r1) v W)(hk:t1.k=2)(he:r1=t2::r2)(hm:isM [44] r1=true)(hmb:MBx D w R W')(hd:DS D W' r2 fr mn bd1)(hrow:W'.ownsRow (R+1) 9 1 v' (vs++[t1.t]).length (flS (vs++[t1.t]))):VBd D w R l1 fr mn bd1 (vs++[t1.t]) r2 v' W':=by
 subst he
 refine⟨hmb,hd,hrow,fun bs q' hp=>?_,fun q' hp=>h.no _ (PV.more_no hk hm hp),by have:=h.cnt;simp at this ⊢;omega⟩
 have:=h.more _ _ (PV.more hk hm hp)
 rw[List.append_assoc]
 exact this
theorem head_q {l:List Tk}(hh:headOf l=2∨headOf l=3):(if headOf l=2 then (7:Int) else 8)=if isM [33] l=true then 7 else 8:=by
 cases l with
 | nil=>rcases hh with h|h<;>cases h
 | cons t r =>
  rw[y36]at hh ⊢
  by_cases hk:t.k=4
  ·rw[if_pos hk]at hh ⊢
   by_cases h33:t.t=[33]
   ·simp[isM,hk,h33]
   ·by_cases h126:t.t=[126]
    ·simp[h126]at hh
    ·simp[isM,hk,h33,h126]
     split<;>(try split)<;>simp
  ·rw[if_neg hk]at hh
   by_cases h3:t.k=3
   ·rw[if_pos h3]at hh;split at hh<;>omega
   ·rw[if_neg h3]at hh;omega
def QInv (D:DE)(w:World)(R F g6 vc6 k:Nat)(K:Int)(vs:List jU)(f:Fm)(l4 fr4:List Tk)(mn4:Bool)(bd4:Int)(j:Nat)(W:World):Prop:=
 ∃sl sr sk,NBx D w R F (wrapQ K (vs.drop j) f) sl sr sk W∧DS D W l4 fr4 mn4 bd4∧W.ownsRow (R+1) 9 1 (.slice (some ⟨g6,0,none⟩) (k+1) vc6) vs.length (flS vs)∧g6<F∧vs.length=k+1
theorem dquant_any {l:List Tk}(hU:∀l':List Tk,l'.length<l.length->DU D l'):DQ D l:=by
 intro w fr mn bd bv bl h hb hh hbud hs
 have HBU:=hid hbud
 clear hbud
 obtain⟨R,hR⟩:∃R,w.heap.size=R:=⟨_,rfl⟩
 have hm0:=MBx.new h hR
 have hb0:=bbx w zbox
 have hd0:=h.keep hb0
 have HSW:Hid (∀Z,Only [D.B] w Z->StrAt Z bv bl):=fun Z ho=>hs.only h ho
 obtain⟨ba,bc,hbv,hbc,hbm,-⟩:=hs
 subst hbv
 have hmx:=h.mx
 have hln:=h.len
 have HLN:Hid (l.length<=2097155):=by show l.length<=2097155;omega
 obtain⟨W0,hW0⟩:∃X,w.alloc zbox=X:=⟨_,rfl⟩
 rw[hW0]at hm0 hd0
 have HW0:=hid hW0
 have hi1:=y16 hd0 [33]
 obtain⟨b1,hb1⟩:∃b,isM [33] l=b:=⟨_,rfl⟩
 rw[decide_eq_true hb,Bool.true_and,hb1]at hi1
 have HB1:=hid hb1
 have HH:=hid hh
 have H0:=hid (And.intro hd0 hm0)
 clear h hb0 hW0 hm0 hd0 hb1 hmx hln hh
 go_enter Tryz.func140,Tryz.ntmps140
 go_upto_region 1 with fail
 try simp only[hR]
 rw[show _=W0 from HW0.out]
 obtain⟨kk,hkk⟩:∃k:Int,(if b1=true then (7:Int) else 8)=k:=⟨_,rfl⟩
 have HKK:=hid hkk
 clear hkk
 go_wp2_with fail
 refine hi1.mono ?_
 rintro e W1 ⟨rfl,hbW1⟩
 have hd1:=H0.out.1.keep hbW1
 have hm1:=H0.out.2.step (Only.of_below (B:=[D.B]) hbW1)
 obtain⟨t0,r0,rfl⟩:=y4x (l:=l) (by rcases HH.out with h|h<;>omega)
 obtain⟨i6,-,e6,f6,w6',hE6,oE6⟩:=hd1.eat
 have hm6:=hm1.step oE6
 obtain⟨Y6,hY6⟩:∃X,W1.setCell ⟨D.B,1,none⟩ (.int .i64 ((i6:Int)+1))=X:=⟨_,rfl⟩
 rw[hY6]at hE6 oE6 hm6
 have HY6:=hid hY6
 have hw:=y24 hE6 [91]
 have HM6:=hid hm6
 clear hi1 hbW1 hd1 hm1 hE6 oE6 hm6 hY6 H0
 cases b1
 case false =>
  have hkk:kk=8:=by rw[<-HKK.out];rfl
  subst hkk
  go_upto_region 5 with fail
  rw[show _=Y6 from HY6.out]
  clear HY6 e6 f6 w6'
  go_wp2_with fail
  refine hw.mono ?_
  rintro e W7 ⟨rfl,hd7,ho7⟩
  clear hw
  have hV0:VBd D w R (wantL [91] r0 bd) fr mn (wantB D [91] r0 bd) [] (wantL [91] r0 bd) (.slice none 0 0) W7:=⟨HM6.out.step ho7,hd7,⟨rfl,.inl ⟨rfl,rfl⟩⟩,fun bs q' h=>h,fun q' h=>h,by simp⟩
  have HV0:=hid hV0
  clear hd7 ho7 hV0
  have HLL:Hid ((wantL [91] r0 bd).length<=2097155):=by
   show _<=_
   have h1:=HLN.out
   have h2:(wantL [91] r0 bd).length<=r0.length:=by unfold wantL;split<;>simp
   simp only[jK]at h1
   omega
  obtain⟨i0,hi0,hz0,hz1,hz2⟩:=info_parts info9
  obtain⟨L1,hL1⟩:∃x,wantL [91] r0 bd=x:=⟨_,rfl⟩
  obtain⟨B1,hB1⟩:∃x,wantB D [91] r0 bd=x:=⟨_,rfl⟩
  rw[hL1,hB1]at HV0
  rw[hL1]at HLL
  have HE:=hid (And.intro hL1 hB1)
  clear hL1 hB1
  go_wp2
  go_loopw [6] (fun v W=>∃(k:Nat) (a:Option Addr) (c:Nat),v=.slice a k c∧Hid (∃vs q,vs.length=k∧VBd D w R L1 fr mn B1 vs q (.slice a k c) W)) (fun _ W=>muW D W)
  case atStart=>exact⟨0,none,0,rfl,[],_,rfl,HV0.out⟩
  case round =>
   obtain⟨k,va,vc,rfl,HI⟩:=hrel
   obtain⟨vs,q,hk,hV⟩:=HI.out
   have hkd:=y15 hV.st 2
   have HMU:=hid hV.st.mu
   clear HI
   cases hx:(decide (B1<0)&&isK 2 q) with
   | false =>
    rw[hx]at hkd
    go_wp2_with fail
    refine hkd.mono ?_
    rintro e W8 ⟨rfl,hb8⟩
    have hV8:=hV.keep hb8
    have hfl:=y29 hV8.st
    have HT:Hid (DFmR D (PU bl) (t0::r0) fr mn bd (fOp 10 []) q fr mn (badV D q B1)):=by
     have hV9:=hV8
     rw[<-HE.out.1,<-HE.out.2]at hV9
     rw[<-HE.out.2]at hx
     have:=DFmR.names (bl:=bl) (l:=t0::r0) hb HH.out hV9 hx (fOp 10 [])
     rw[<-HE.out.2]
     exact this
    have HM8:=hid hV8.mb
    clear hkd hV hb8 hV8 hx
    go_wp2_with fail
    refine hfl.mono ?_
    rintro e W9 ⟨rfl,hd9,ho9⟩
    clear hfl
    obtain⟨V,hrun,HV⟩:=(HM8.out.step ho9).fin hd9 (f:=fOp 10 []) (P:=fun k=>R<k) ⟨ArgsP.nil _ _,ArgsP.nil _ _,KidsP.nil _ _⟩ (fun k hk=>hk)
    clear hd9 ho9
    go_wp2_with (first|(refine wsr rfl 27 _ _ rfl (.pointer (some ⟨R,0,none⟩)) (.agg #[.int .i64 10,.string ⟨#[]⟩,.int .i64 0,.string ⟨#[]⟩,.slice none 0 0,.int .i64 0,.string ⟨#[]⟩,.slice none 0 0,.slice none 0 0]) rfl (by kernel_rfl) hrun ?_))
    have HVC:Hid (FC9 V R (.int .i64 10) (.string ⟨#[]⟩) (.int .i64 0) (.string ⟨#[]⟩) (.slice none 0 0) (.int .i64 0) (.string ⟨#[]⟩) (.slice none 0 0) (.slice none 0 0)):=HV.out.1
    obtain⟨v0,v1,v2,v3,v4,v5,v6,v7,v8⟩:=HVC.out
    refine bodyPost_ret (v:=.agg #[.int .i64 10,.string ⟨#[]⟩,.int .i64 0,.string ⟨#[]⟩,.slice none 0 0,.int .i64 0,.string ⟨#[]⟩,.slice none 0 0,.slice none 0 0]) (by simp[results,Tryz.results140,go_sem,v0,v1,v2,v3,v4,v5,v6,v7,v8]) rfl ?_
    exact⟨fOp 10 [],_,_,_,q,fr,mn,_,HT.out,rfl,HV.out.2.1,HV.out.2.2.1,HV.out.2.2.2⟩
   | true =>
    rw[hx]at hkd
    rw[Bool.and_eq_true,decide_eq_true_eq]at hx
    obtain⟨t1,r1,rfl,hk1⟩:=isK_cons hx.2
    have HX:=hid hx
    go_wp2_with fail
    refine hkd.mono ?_
    rintro e W8 ⟨rfl,hb8⟩
    have hV8:=hV.keep hb8
    obtain⟨⟨x0,x1,-⟩,-⟩:=hV8.st.cells
    obtain⟨b,o,ea,hlt,c0,c1,c2⟩:=hV8.st.at_
    have hbB:b<W8.heap.size:=Nat.lt_trans hlt hV8.st.lt
    have hBl:=hV8.st.lt
    have hlen:=hV8.st.len
    rw[ea]at x0
    rw[show D.L.length-(t1::r1).length=D.L.length-(r1.length+1) by simp]at x1
    obtain⟨i,hi⟩:∃i,D.L.length-(r1.length+1)=i:=⟨_,rfl⟩
    obtain⟨N,hN⟩:∃N,D.L.length=N:=⟨_,rfl⟩
    have j1:(i:Int)<(N:Int):=by simp only[jK]at hlen;omega
    have j0:(0:Int)<=(i:Int):=by omega
    have j2:i<N:=by omega
    rw[hi]at x1 c2
    rw[hN]at x0
    obtain⟨tx,htx⟩:∃x,ofL t1.t=x:=⟨_,rfl⟩
    rw[htx]at c2
    have HC:Hid (∀X,Below W8.heap.size W8 X->X.cell? ⟨D.B,0,none⟩=some (.slice (some ⟨b,o,none⟩) N D.c)∧X.cell? ⟨D.B,1,none⟩=some (.int .i64 (i:Nat))∧X.cell? ⟨b,o+i*3+2,none⟩=some (.string tx)):=by
     intro X hX
     have kk:∀{n j v},n<W8.heap.size->W8.cell? ⟨n,j,none⟩=some v->X.cell? ⟨n,j,none⟩=some v:=fun {n j v} hn hc=>(World.cell?_of_block (a:=⟨n,j,none⟩) (hX.block n hn)).trans hc
     exact⟨kk hBl x0,kk hBl x1,kk hbB c2⟩
    have hkL:k+1<=2097155:=by have h1:=hV8.cnt;have h2:=HLL.out;simp only[jK]at h1;omega
    have hbA:=(bbx W8 (.cells #[.string tx] 9)).drew
    have hRW:R<W8.heap.size:=hV8.mb.lt
    have hbBl:b<=R:=by have:=hV8.mb.BR;omega
    have HV8:=hid hV8
    have HTX:=hid htx
    have HK:=hid hk
    clear hkd hV hb8 hV8 x0 x1 c0 c1 c2 ea hlen hi hN htx hx hk
    go_wp2
    refine wp_region_held_drew (S:=fun X=>X.cell? ⟨D.B,0,none⟩=some (.slice (some ⟨b,o,none⟩) N D.c)∧X.cell? ⟨D.B,1,none⟩=some (.int .i64 (i:Nat))∧X.cell? ⟨b,o+i*3+2,none⟩=some (.string tx)) (by kernel_rfl) (HC.out _ (Below.refl _ W8).drew) (fun hH=>?_)
    refine Lx.tk 0 (.slice va k vc) rfl (Or.inl ⟨by rfl,?_⟩) ?_
    ·intro w hSw;obtain⟨g0,g1,g2⟩:=hSw;(try dsimp only at hSw);go_simp
    try simp only[Act.put,jM]
    refine Lx.tk 1 (.pointer (some ⟨D.B,0,none⟩)) rfl (Or.inl ⟨by rfl,?_⟩) ?_
    ·intro w hSw;obtain⟨g0,g1,g2⟩:=hSw;(try dsimp only at hSw);go_simp
    try simp only[Act.put,jM]
    refine Lx.tk 2 (.pointer (some ⟨D.B,0,none⟩)) rfl (Or.inl ⟨by rfl,?_⟩) ?_
    ·intro w hSw;obtain⟨g0,g1,g2⟩:=hSw;(try dsimp only at hSw);go_simp
    try simp only[Act.put,jM]
    refine Lx.tk 3 (.pointer (some ⟨D.B,0,none⟩)) rfl (Or.inl ⟨by rfl,?_⟩) ?_
    ·intro w hSw;obtain⟨g0,g1,g2⟩:=hSw;(try dsimp only at hSw);go_simp
    try simp only[Act.put,jM]
    refine Lx.tk 4 (.slice (some ⟨b,o,none⟩) N D.c) rfl (Or.inl ⟨by rfl,?_⟩) ?_
    ·intro w hSw;obtain⟨g0,g1,g2⟩:=hSw;(try dsimp only at hSw);go_simp
    try simp only[Act.put,jM]
    refine Lx.tk 5 (.pointer (some ⟨D.B,0,none⟩)) rfl (Or.inl ⟨by rfl,?_⟩) ?_
    ·intro w hSw;obtain⟨g0,g1,g2⟩:=hSw;(try dsimp only at hSw);go_simp
    try simp only[Act.put,jM]
    refine Lx.tk 6 (.pointer (some ⟨D.B,0,none⟩)) rfl (Or.inl ⟨by rfl,?_⟩) ?_
    ·intro w hSw;obtain⟨g0,g1,g2⟩:=hSw;(try dsimp only at hSw);go_simp
    try simp only[Act.put,jM]
    refine Lx.tk 7 (.pointer (some ⟨D.B,1,none⟩)) rfl (Or.inl ⟨by rfl,?_⟩) ?_
    ·intro w hSw;obtain⟨g0,g1,g2⟩:=hSw;(try dsimp only at hSw);go_simp
    try simp only[Act.put,jM]
    refine Lx.tk 8 (.int .i64 (i:Nat)) rfl (Or.inl ⟨by rfl,?_⟩) ?_
    ·intro w hSw;obtain⟨g0,g1,g2⟩:=hSw;(try dsimp only at hSw);go_simp
    try simp only[Act.put,jM]
    refine Lx.tk 9 (.pointer (some ⟨b,o+i*3,none⟩)) rfl (Or.inl ⟨by rfl,?_⟩) ?_
    ·intro w hSw;obtain⟨g0,g1,g2⟩:=hSw;(try dsimp only at hSw);go_simp
    try simp only[Act.put,jM]
    refine Lx.tk 10 (.pointer (some ⟨b,o+i*3+2,none⟩)) rfl (Or.inl ⟨by rfl,?_⟩) ?_
    ·intro w hSw;obtain⟨g0,g1,g2⟩:=hSw;(try dsimp only at hSw);go_simp
    try simp only[Act.put,jM]
    refine Lx.tk 11 (.string tx) rfl (Or.inl ⟨by rfl,?_⟩) ?_
    ·intro w hSw;obtain⟨g0,g1,g2⟩:=hSw;(try dsimp only at hSw);go_simp
    try simp only[Act.put,jM]
    refine wpAnyH_ready (rs:=[12]) (by kernel_rfl) (by simp) ?_
    refine AllReadyH.cons rfl (fun K hK=>?_) AllReadyH.nil
    go_simp
    refine hK.out _ _ (HC.out _ hbA) (fun hH=>?_)
    clear hK K
    try simp only[Act.put,jA,jB,jC,jM]
    refine wpAnyH_ready (rs:=[13]) (by kernel_rfl) (by simp) ?_
    refine AllReadyH.cons rfl (fun K hK=>?_) AllReadyH.nil
    refine sao _ rfl (.tmp 26) (.tmp 38) 38 rfl (R+1) 9 i0 _ 1 16 Tryz.underlying38 hi0 hz0 hz1 hz2 rfl (by decide) (.slice va k vc) k (flS vs) rfl (by have:=Lx.y05 HV8.out.row hbA;rwa [HK.out]at this) ⟨W8.heap.size,0,none⟩ 1 1 [.string tx] rfl rfl (lit1d W8 _ _ 9 rfl) one1s (by unfold maxLen;omega) (by omega) (by have:=hbA.size;omega) ?_
    intro v' w6 hrow6 hg6 hb6
    obtain⟨g6,vc6,rfl⟩:=Go.ownsRow_succ hrow6
    obtain⟨hm6',hd6',hr6',hsame⟩:=HV8.out.push hbA (by rw[HK.out,HTX.out];exact hrow6) hg6
    have hS6:w6.cell? ⟨D.B,0,none⟩=some (.slice (some ⟨b,o,none⟩) N D.c)∧w6.cell? ⟨D.B,1,none⟩=some (.int .i64 (i:Nat))∧w6.cell? ⟨b,o+i*3+2,none⟩=some (.string tx):=by
     obtain⟨q0,q1,q2⟩:=HC.out W8 (Below.refl _ _)
     have hBR8:=HV8.out.mb.BR
     exact⟨(World.cell?_of_block (a:=⟨D.B,0,none⟩) (hsame D.B HV8.out.st.lt (by omega))).trans q0,(World.cell?_of_block (a:=⟨D.B,1,none⟩) (hsame D.B HV8.out.st.lt (by omega))).trans q1,(World.cell?_of_block (a:=⟨b,_,none⟩) (hsame b (by omega) hbBl)).trans q2⟩
    refine hK.out _ _ hS6 (fun hH=>?_)
    clear hK K
    try simp only[Act.put,jA,jB,jC,jM]
    refine Lx.tk 14 (.slice (some ⟨g6,0,none⟩) (k+1) vc6) rfl (Or.inl ⟨by rfl,?_⟩) ?_
    ·intro w hSw;(try dsimp only at hSw);go_simp
    try simp only[Act.put,jM]
    refine wpAnyH_done (by kernel_rfl) ?_ _
    obtain⟨i7,-,e7,f7,w7',hE7,oE7⟩:=hd6'.eat
    have hii:i7=i:=by have h9:=e7.symm.trans hS6.2.1;simp at h9;omega
    subst hii
    have hm7:=hm6'.step oE7
    have hr7:(w6.setCell ⟨D.B,1,none⟩ (.int .i64 ((i7:Int)+1))).ownsRow (R+1) 9 1 (.slice (some ⟨g6,0,none⟩) (k+1) vc6) (vs++[t1.t]).length (flS (vs++[t1.t])):=rkp hr6' (fun g hg=>by
     obtain⟨h1,cu,hcu⟩:=rbk hr6' hg
     have hBR8:=HV8.out.mb.BR
     exact oE7.block g (jG hcu).1 (by simp;omega))
    obtain⟨Y7,hY7⟩:∃X,w6.setCell ⟨D.B,1,none⟩ (.int .i64 ((i7:Int)+1))=X:=⟨_,rfl⟩
    rw[hY7]at hE7 oE7 hm7 hr7
    have HY7:=hid hY7
    have his:=y16 hE7 [44]
    have H7:=hid (And.intro hE7 (And.intro hm7 hr7))
    clear hrow6 hg6 hb6 hm6' hd6' hr6' hsame hS6 hE7 oE7 hm7 hr7 hY7 HC hbA
    go_upto_region 12 with fail
    rw[show _=Y7 from HY7.out]
    clear HY7 e7 f7 w7'
    cases h44:isM [44] r1 with
    | true =>
     rw[decide_eq_true HX.out.1,Bool.true_and,h44]at his
     obtain⟨t2,r2,rfl,_,_⟩:=y03 h44
     have HM44:=hid h44
     clear h44
     go_wp2_with fail
     refine his.mono ?_
     rintro e W10 ⟨rfl,hb10⟩
     have hd10:=H7.out.1.keep hb10
     have hm10:=H7.out.2.1.step (Only.of_below (B:=[D.B]) hb10)
     have hr10:=Lx.y05 H7.out.2.2 hb10
     obtain⟨i8,-,e8,f8,w8',hE8,oE8⟩:=hd10.eat
     have hr11:(W10.setCell ⟨D.B,1,none⟩ (.int .i64 ((i8:Int)+1))).ownsRow (R+1) 9 1 (.slice (some ⟨g6,0,none⟩) (k+1) vc6) (vs++[t1.t]).length (flS (vs++[t1.t])):=rkp hr10 (fun g hg=>by
      obtain⟨h1,cu,hcu⟩:=rbk hr10 hg
      have hBR8:=HV8.out.mb.BR
      exact oE8.block g (jG hcu).1 (by simp;omega))
     have hV11:=HV8.out.next hk1 rfl HM44.out (hm10.step oE8) hE8 hr11
     have hmu:muW D (W10.setCell ⟨D.B,1,none⟩ (.int .i64 ((i8:Int)+1)))<(t1::t2::r2).length+1:=by
      rw[hE8.mu,if_pos HX.out.1];simp
     have hln:(vs++[t1.t]).length=k+1:=by simp[HK.out]
     obtain⟨Y8,hY8⟩:∃X,W10.setCell ⟨D.B,1,none⟩ (.int .i64 ((i8:Int)+1))=X:=⟨_,rfl⟩
     rw[hY8]at hV11 hmu
     have HY8:=hid hY8
     have HR8:=hid (And.intro hV11 (And.intro hmu hln))
     clear his hb10 hd10 hm10 hr10 hE8 oE8 hr11 hV11 hmu hln hY8
     go_wp2
     go_roundw
     case rel=>exact⟨k+1,some ⟨g6,0,none⟩,vc6,rfl,_,_,HR8.out.2.2,by rw[show _=Y8 from HY8.out];exact HR8.out.1⟩
     case measure=>rw[HMU.out,if_pos HX.out.1,show _=Y8 from HY8.out];exact HR8.out.2.1
    | false =>
     rw[decide_eq_true HX.out.1,Bool.true_and,h44]at his
     have hPV:PV L1 (.ok (vs++[t1.t]) [] r1):=HV8.out.more _ _ (PV.last hk1 h44)
     have HPV:=hid (And.intro hPV h44)
     clear hPV h44
     go_wp2_with fail
     refine his.mono ?_
     rintro e W10 ⟨rfl,hb10⟩
     have hd10:=H7.out.1.keep hb10
     have hm10:=H7.out.2.1.step (Only.of_below (B:=[D.B]) hb10)
     have hr10:=Lx.y05 H7.out.2.2 hb10
     have hw93:=y24 hd10 [93]
     have H10:=hid (And.intro hm10 hr10)
     clear his hb10 hd10 hm10 hr10
     go_wp2_with fail
     refine hw93.mono ?_
     rintro e W11 ⟨rfl,hd11,ho11⟩
     have hm11:=H10.out.1.step ho11
     have hr11:W11.ownsRow (R+1) 9 1 (.slice (some ⟨g6,0,none⟩) (k+1) vc6) (vs++[t1.t]).length (flS (vs++[t1.t])):=rkp H10.out.2 (fun g hg=>by
      obtain⟨h1,cu,hcu⟩:=rbk H10.out.2 hg
      have hBR8:=HV8.out.mb.BR
      exact ho11.block g (jG hcu).1 (by simp;omega))
     have hw58:=y24 hd11 [58]
     have H11:=hid (And.intro hm11 hr11)
     clear hw93 hd11 ho11 hm11 hr11
     go_wp2_with fail
     refine hw58.mono ?_
     rintro e W12 ⟨rfl,hd12,ho12⟩
     have hm12:=H11.out.1.step ho12
     have hr12:W12.ownsRow (R+1) 9 1 (.slice (some ⟨g6,0,none⟩) (k+1) vc6) (vs++[t1.t]).length (flS (vs++[t1.t])):=rkp H11.out.2 (fun g hg=>by
      obtain⟨h1,cu,hcu⟩:=rbk H11.out.2 hg
      have hBR8:=HV8.out.mb.BR
      exact ho12.block g (jG hcu).1 (by simp;omega))
     have H12:=hid (And.intro hd12 (And.intro hm12 hr12))
     clear hw58 hd12 ho12 hm12 hr12
     have hsB:=HSW.out W12 H12.out.2.1.on
     have hbX:=bbx W12 (.cells #[] 9)
     have hzX:=(jH W12 (.cells #[] 9)).1
     obtain⟨X12,hX12⟩:∃X,W12.alloc (.cells #[] 9)=X:=⟨_,rfl⟩
     rw[hX12]at hbX hzX
     have hsX:=hsB.keep hbX
     have hRW12:R<W12.heap.size:=H12.out.2.1.lt
     have hrowA:X12.ownsRow (R+1) 9 1 (.slice (some ⟨W12.heap.size,0,none⟩) 0 0) 0 []:=⟨rfl,.inr ⟨W12.heap.size,0,#[],rfl,by omega,hzX,jJ _,by decide,rfl,rfl⟩⟩
     have hX12s:R+1<=X12.heap.size:=by have:=hbX.size;omega
     have hnl:bl.length<=2097155:=by have:=HBU.out;omega
     have HX12:=hid (And.intro hX12 hbX)
     cases ba with
     | none =>
      have hbl:bl=[]:=by
       obtain⟨a9,c9,e9,-,-,h9⟩:=hsB
       by_cases h0:0<bl.length
       ·obtain⟨b9,o9,-,e8,-⟩:=h9 h0
        rw[e8]at e9;cases e9
       ·exact List.eq_nil_of_length_eq_zero (by omega)
      subst hbl
      have hn2:∀u∈flS (vs++[t1.t]),u.oneCell'=true:=by
       intro u hu
       obtain⟨s,-,rfl⟩:=List.mem_map.1 hu
       rfl
      have hfl2:(flS (vs++[t1.t])).length=(k+1)*1:=by simp[flS,HK.out]
      have HB12:Hid (Below W12.heap.size W12 X12):=hbX
      have hg1:X12.grownBy X12 (some W12.heap.size):=⟨rfl,rfl,rfl,jJ _,fun _ _ _=>rfl⟩
      have hown1:X12.ownsRow (R+1) 9 1 (.slice (some ⟨W12.heap.size,0,none⟩) ([]:List jU).length 0) ([]:List jU).length (flS []):=hrowA
      have hat1:(Value.slice (some ⟨W12.heap.size,0,none⟩) ([]:List jU).length 0).ownBlock=(Value.slice (some ⟨W12.heap.size,0,none⟩) 0 0).ownBlock∨(Value.slice (some ⟨W12.heap.size,0,none⟩) ([]:List jU).length 0).ownBlock=some X12.heap.size:=.inl rfl
      have hnews2:(∀j u,(flS (vs++[t1.t]))[j]? =some u->X12.cell? ((⟨g6,0,none⟩:Addr).add j)=some u)∧R+1<=X12.heap.size:=by
       obtain⟨q1,cu,hcu⟩:=rbk H12.out.2.2 rfl
       have hgl:g6<W12.heap.size:=(jG hcu).1
       have hr1:X12.ownsRow (R+1) 9 1 (.slice (some ⟨g6,0,none⟩) (k+1) vc6) (vs++[t1.t]).length (flS (vs++[t1.t])):=rkp H12.out.2.2 (fun g hg'=>by
        cases hg'
        exact HB12.out.block g6 hgl)
       exact⟨(y0m hr1).news,hX12s⟩
      obtain⟨bl0,hbl0⟩:∃b:List jU,b=[]:=⟨_,rfl⟩
      clear hsB hsX hX12 hbX hzX
      go_wp2_with (first|(at_builtin;rw[show _=X12 from HX12.out.1];refine wpList_append_own_at _ rfl _ _ 38 rfl (R+1) 9 i0 _ 1 16 Tryz.underlying38 hi0 hz0 hz1 hz2 rfl (by decide) _ _ _ rfl hrowA ⟨g6,0,none⟩ (k+1) vc6 (flS (vs++[t1.t])) rfl hfl2 hnews2.1 hn2 (by unfold maxLen;omega) (by omega) hnews2.2 ?_;intro v2 w2 hown2 hg2 _ hat2))
      have hst2:StrAt w2 v2 (([]:List jU)++(vs++[t1.t])):=by
       refine y0m (base:=R+1) (ty:=9) ?_
       rw[jL,show (vs++[t1.t]).length=k+1 by simp[HK.out],show flS (([]:List jU)++(vs++[t1.t]))=flS ([]:List jU)++flS (vs++[t1.t]) by simp[flS]]
       exact hown2
      obtain⟨l3,hl3⟩:∃x,wantL [58] (wantL [93] r1 B1) (wantB D [93] r1 B1)=x:=⟨_,rfl⟩
      obtain⟨bd3,hbd3⟩:∃x,wantB D [58] (wantL [93] r1 B1) (wantB D [93] r1 B1)=x:=⟨_,rfl⟩
      have hd12:=H12.out.1
      rw[hl3,hbd3]at hd12
      have HL3:=hid (And.intro hl3 hbd3)
      clear hl3 hbd3
      have hl3r:l3.length<=r1.length:=by
       rw[<-HL3.out.1]
       have hwl:∀(m:jU) (l:List Tk) (b:Int),(wantL m l b).length<=l.length:=fun m l b=>by unfold wantL;split<;>simp
       exact Nat.le_trans (hwl _ _ _) (hwl _ _ _)
      have hL1r:L1.length<=r0.length:=by
       rw[<-HE.out.1];unfold wantL;split<;>simp
      have hcnt8:=HV8.out.cnt
      have hBR:=H12.out.2.1.BR
      have hRX:=H12.out.2.1.lt
      have hon1:Only [W12.heap.size] X12 X12:=Only.of_grown hg1 (fun r hr=>by cases hr;simp)
      have hv1b:∀g,(Value.slice (some ⟨W12.heap.size,0,none⟩) ([]:List jU).length 0).ownBlock=some g->R+1<=g∧W12.heap.size<=g:=fun g hg=>⟨(rbk hown1 hg).1,by
       rcases hat1 with h1|h1
       ·rw[h1]at hg;cases hg;exact jJ _
       ·rw[h1]at hg;cases hg;exact HX12.out.2.size⟩
      have hg3:X12.grownBy w2 (Value.slice (some ⟨W12.heap.size,0,none⟩) ([]:List jU).length 0).ownBlock:=hg2
      have hon2:Only (Value.slice (some ⟨W12.heap.size,0,none⟩) ([]:List jU).length 0).ownBlock.toList X12 w2:=⟨hg3.os,hg3.tape,hg3.output,hg3.size,fun k hk hn=>hg3.block k hk (fun e=>hn (by rw[<-e];simp))⟩
      have hd2:=((hd12.keep HX12.out.2).turn2 hon1 (by simp;omega) (by simp;omega)).turn2 hon2 (fun hm=>by have:=hv1b D.B (by simpa using hm);omega) (fun x hx=>by have:=hv1b x (by simpa using hx);omega)
      have hm2:=((H12.out.2.1.step (Only.of_below (B:=[D.B]) HX12.out.2)).far hon1 (by simp;omega)).far hon2 (fun x hx=>by have:=hv1b x (by simpa using hx);omega)
      have hrN:w2.ownsRow (R+1) 9 1 (.slice (some ⟨g6,0,none⟩) (k+1) vc6) (vs++[t1.t]).length (flS (vs++[t1.t])):=rkp H12.out.2.2 (fun g hg'=>by
       obtain⟨q1,cu,hcu⟩:=rbk H12.out.2.2 hg'
       have hgl:=(jG hcu).1
       exact (hon2.block g (jI (jI hgl HX12.out.2.size) hon1.size) (fun hm=>by have:=hv1b g (by simpa using hm);omega)).trans ((hon1.block g (jI hgl HX12.out.2.size) (by simp;omega)).trans (HX12.out.2.block g hgl)))
      have hvl:(vs++[t1.t]).length=k+1:=by simp[HK.out]
      have hc:=hU l3 (by simp only[jK]at hcnt8 ⊢;omega) w2 fr mn bd3 v2 (([]:List jU)++(vs++[t1.t])) hd2 (fun _=>by have h1:=HBU.out;have h2:=HK.out;rw[jL,hvl];simp only[jK]at hcnt8 h1;omega) hst2
      have HN:=hid (And.intro hm2 (And.intro hrN hvl))
      clear hd12 hl3r hL1r hcnt8 hBR hRX hon1 hv1b hon2 hd2 hm2 hrN hst2 hvl hown1 hown2 hg1 hg2 hg3 hat1 hat2 hnews2
      refine hc.mono ?_
      rintro e W20 ⟨f,sl,sr,sk,l4,fr4,mn4,bd4,hT4,rfl,hf,hd20,ho20⟩
      clear hc
      obtain⟨la,lc,rfl,-,-⟩:=hf.l.slice'
      obtain⟨ra,rc,rfl,-,-⟩:=hf.r.slice'
      obtain⟨ka,kc,rfl,-,-⟩:=hf.k.slice
      have HT4:Hid (DFmR D (PU ([]:List jU)) (t0::r0) fr mn bd (wrapQ (if headOf (t0::r0)=2 then 7 else 8) (vs++[t1.t]) f) l4 fr4 mn4 bd4):=by
       rw[<-HL3.out.1,<-HL3.out.2]at hT4
       have hp:=HPV.out.1
       have hx1:=HX.out.1
       rw[<-HE.out.2]at hT4 hx1
       rw[<-HE.out.1]at hp
       exact DFmR.quant (l:=t0::r0) hb HH.out hx1 hp hT4
      have hm20:=HN.out.1.step ho20
      have hr20:W20.ownsRow (R+1) 9 1 (.slice (some ⟨g6,0,none⟩) (k+1) vc6) (vs++[t1.t]).length (flS (vs++[t1.t])):=rkp HN.out.2.1 (fun g hg'=>by
       obtain⟨q1,cu,hcu⟩:=rbk HN.out.2.1 hg'
       have:=hm20.BR
       exact ho20.block g (jG hcu).1 (by simp;omega))
      have hRw2:=HN.out.1.lt
      have hbA:=bbx W20 (fbox f (.slice la f.l.args.length lc) (.slice ra f.r.args.length rc) (.slice ka f.kids.length kc))
      have hzA:=(jH W20 (fbox f (.slice la f.l.args.length lc) (.slice ra f.r.args.length rc) (.slice ka f.kids.length kc))).1
      obtain⟨F,hF⟩:∃F,W20.heap.size=F:=⟨_,rfl⟩
      rw[hF]at hzA
      have hRF:R<F:=by rw[<-hF];exact hm20.lt
      have hFw:w2.heap.size<=F:=by rw[<-hF];exact ho20.size
      have HQB:Hid (QInv D w R F g6 vc6 k (if headOf (t0::r0)=2 then 7 else 8) (vs++[t1.t]) f l4 fr4 mn4 bd4 (k+1) (W20.alloc (fbox f (.slice la f.l.args.length lc) (.slice ra f.r.args.length rc) (.slice ka f.kids.length kc)))):=by
       refine⟨_,_,_,⟨hm20.step (Only.of_below hbA),by rw[List.drop_eq_nil_of_le (by rw[HN.out.2.2];exact jJ _)];exact hzA,?_,hRF⟩,hd20.keep hbA,Lx.y05 hr20 hbA,?_,HN.out.2.2⟩
       ·rw[List.drop_eq_nil_of_le (by rw[HN.out.2.2];exact jJ _)]
        exact hf.keep hbA.size (fun k hk hkl=>⟨⟨by omega,by omega⟩,hbA.block k hkl⟩)
       ·obtain⟨q1,cu,hcu⟩:=rbk hr20 rfl
        have:=(jG hcu).1
        rw[hF]at this
        exact this
      obtain⟨W21,hW21⟩:∃X,W20.alloc (fbox f (.slice la f.l.args.length lc) (.slice ra f.r.args.length rc) (.slice ka f.kids.length kc))=X:=⟨_,rfl⟩
      rw[hW21]at HQB
      have HW21:=hid hW21
      have hk63:(k:Int)<=2097155:=by omega
      clear hT4 hf hd20 ho20 hm20 hr20 hRw2 hbA hzA hRF hFw hW21
      clear hn2 hfl2 hrowA hX12s hnl hlt hbB hBl hbBl hRW j1 j0 j2 hRW12 HN hU
      go_upto_region 17 with fail
      try simp only[hF]
      rw[show _=W21 from HW21.out]
      clear HW21
      go_wp2
      have HKv:(if headOf (t0::r0)=2 then (7:Int) else 8)=8:=by rw[head_q HH.out,HB1.out];rfl
      rw[HKv]at HQB HT4
      clear HKv
      obtain⟨vz,hvz⟩:∃x,vs++[t1.t]=x:=⟨_,rfl⟩
      rw[hvz]at HQB HT4
      clear hvz
      go_loopw [8] (fun v W=>∃j:Nat,v=.int .i64 ((j:Int)-1)∧j<=k+1∧Hid (QInv D w R F g6 vc6 k 8 vz f l4 fr4 mn4 bd4 j W)) (fun v _=>(intOf v+1).toNat)
      case atStart=>exact⟨k+1,by simp,jJ _,HQB.out⟩
      case round =>
       obtain⟨j,rfl,hj,HQ⟩:=hrel
       obtain⟨sl,sr,sk,hN,hd,hrow,hgF,hvz⟩:=HQ.out
       have hfm:=hN.fm
       obtain⟨la,lc,rfl,-,-⟩:=hfm.l.slice'
       obtain⟨ra,rc,rfl,-,-⟩:=hfm.r.slice'
       obtain⟨ka,kc,rfl,-,-⟩:=hfm.k.slice
       obtain⟨⟨c0,c1,c2,c3,c4,c5,c6,c7,c8⟩,-⟩:=y00 hN.box
       clear HQ hfm
       cases j with
       | zero =>
        have hT:=HT4.out
        rw[List.drop_zero]at hN c0 c1 c2 c3 c4 c5 c6 c7 c8
        generalize wrapQ 8 vz f=g at hT hN c0 c1 c2 c3 c4 c5 c6 c7 c8
        have HT:=hid hT
        obtain⟨V,hrun,HV⟩:=hN.mb.fin hd hN.fm (fun k hk=>hk.1)
        clear hT hd hN hrow
        go_wp2_with (first|(refine wsr rfl 27 _ _ rfl (.pointer (some ⟨R,0,none⟩)) (fval g (.slice la g.l.args.length lc) (.slice ra g.r.args.length rc) (.slice ka g.kids.length kc)) rfl (by kernel_rfl) hrun ?_))
        have HVC:Hid (FC9 V R (.int .i64 g.k) (.string g.nm) (.int .i64 g.l.v) (.string g.l.fn) (.slice la g.l.args.length lc) (.int .i64 g.r.v) (.string g.r.fn) (.slice ra g.r.args.length rc) (.slice ka g.kids.length kc)):=HV.out.1
        obtain⟨v0,v1,v2,v3,v4,v5,v6,v7,v8⟩:=HVC.out
        refine bodyPost_ret (v:=.agg #[.int .i64 g.k,.string g.nm,.int .i64 g.l.v,.string g.l.fn,.slice la g.l.args.length lc,.int .i64 g.r.v,.string g.r.fn,.slice ra g.r.args.length rc,.slice ka g.kids.length kc]) (by simp[results,Tryz.results140,go_sem,v0,v1,v2,v3,v4,v5,v6,v7,v8]) rfl ?_
        exact⟨g,_,_,_,l4,fr4,mn4,bd4,HT.out,rfl,HV.out.2.1,HV.out.2.2.1,HV.out.2.2.2⟩
       | succ j =>
        have hjl:j<vz.length:=by omega
        have hrow':=hrow
        rw[hvz]at hrow'
        have hrc:=y08 hrow' (y3l vz j hjl)
        obtain⟨nm,hnm⟩:∃x,ofL vz[j]=x:=⟨_,rfl⟩
        rw[hnm]at hrc
        have n0:=hrc.1
        have hwq:wrapQ 8 (vz.drop j) f=fQ 8 nm (wrapQ 8 (vz.drop (j+1)) f):=by
         rw[List.drop_eq_getElem_cons hjl,<-hnm];rfl
        obtain⟨g,hg⟩:∃g,wrapQ 8 (vz.drop (j+1)) f=g:=⟨_,rfl⟩
        rw[hg]at hN hwq c0 c1 c2 c3 c4 c5 c6 c7 c8
        have hbA:=(bbx wr (fbox g (.slice la g.l.args.length lc) (.slice ra g.r.args.length rc) (.slice ka g.kids.length kc))).drew
        have hzA:((wr.alloc (fbox g (.slice la g.l.args.length lc) (.slice ra g.r.args.length rc) (.slice ka g.kids.length kc))).drew).heap[wr.heap.size]? =some (fbox g (.slice la g.l.args.length lc) (.slice ra g.r.args.length rc) (.slice ka g.kids.length kc)):=(jH wr (fbox g (.slice la g.l.args.length lc) (.slice ra g.r.args.length rc) (.slice ka g.kids.length kc))).1
        obtain⟨XA,hXA⟩:∃X,(wr.alloc (fbox g (.slice la g.l.args.length lc) (.slice ra g.r.args.length rc) (.slice ka g.kids.length kc))).drew=X:=⟨_,rfl⟩
        rw[hXA]at hbA hzA
        have hNA:=hN.keep hbA
        have hFl:=hN.lt
        have hRF:=hN.RF
        have hBR:=hN.mb.BR
        have hKd:=y27 hzA (P:=fun k=>R<k∧k≠F) ⟨by omega,by omega⟩ hNA.fm
        obtain⟨V,hrun,hV,oV⟩:=y0g (f:=fQ 8 nm g) (P:=fun k=>R<k∧k≠F) (X:=XA) rfl hNA.box rfl ⟨ArgsP.nil _ _,ArgsP.nil _ _,hKd⟩
        have hgl:g6<wr.heap.size:=by
         obtain⟨q1,cu,hcu⟩:=rbk hrow rfl
         exact (jG hcu).1
        have hsame:∀x,x<wr.heap.size->x≠F->V.heap[x]? =wr.heap[x]?:=fun x hx hxF=>(oV.block x (jI hx hbA.size) (by simpa using hxF)).trans (hbA.block x hx)
        have nA:XA.cell? ⟨g6,j,none⟩=some (.string nm):=(World.cell?_of_block (a:=⟨g6,j,none⟩) (hbA.block g6 hgl)).trans n0
        have nV:V.cell? ⟨g6,j,none⟩=some (.string nm):=(World.cell?_of_block (a:=⟨g6,j,none⟩) (hsame g6 hgl (by omega))).trans n0
        have HQV:Hid (QInv D w R F g6 vc6 k 8 vz f l4 fr4 mn4 bd4 j V):=by
         refine⟨_,_,_,⟨hNA.mb.far oV (by simp;omega),by rw[hwq];exact hV,?_,hRF⟩,(hd.keep hbA).turn2 oV (by simp;omega) (by simp;omega),rkp hrow (fun x hx=>?_),hgF,hvz⟩
         ·rw[hwq]
          exact⟨ArgsP.nil _ _,ArgsP.nil _ _,hKd.keep oV.size (fun k hk hkl=>⟨hk,oV.block k hkl (by simpa using hk.2)⟩)⟩
         ·cases hx
          exact hsame g6 hgl (by omega)
        have HXA:=hid hXA
        have jk:(j:Int)<(k:Int)+1:=by omega
        have jk0:(0:Int)<=(j:Int):=by omega
        have jk1:j<k+1:=by omega
        have hwr:wr.drew.cell? ⟨g6,j,none⟩=some (.string nm):=n0
        clear hbA hzA hXA hNA hFl hRF hBR hKd hV oV hgl hsame hN hd hrow hrow' hrc hwq hg
        go_wp2
        refine wp_region_held_drew (S:=fun X=>X.cell? ⟨g6,j,none⟩=some (.string nm)) (by kernel_rfl) hwr (fun hH=>?_)
        refine Lx.tk 0 (.int .i64 8) rfl (Or.inl ⟨by rfl,?_⟩) ?_
        ·intro w hSw;(try dsimp only at hSw);go_simp
        try simp only[Act.put,jM]
        refine Lx.tk 1 (.slice (some ⟨g6,0,none⟩) (k+1) vc6) rfl (Or.inl ⟨by rfl,?_⟩) ?_
        ·intro w hSw;(try dsimp only at hSw);go_simp
        try simp only[Act.put,jM]
        refine Lx.tk 2 (.int .i64 (j:Nat)) rfl (Or.inl ⟨by rfl,?_⟩) ?_
        ·intro w hSw;(try dsimp only at hSw);go_simp
        try simp only[Act.put,jM]
        refine Lx.tk 3 (.pointer (some ⟨g6,j,none⟩)) rfl (Or.inl ⟨by rfl,?_⟩) ?_
        ·intro w hSw;(try dsimp only at hSw);go_simp
        try simp only[Act.put,jM]
        refine Lx.tk 4 (.string nm) rfl (Or.inl ⟨by rfl,?_⟩) ?_
        ·intro w hSw;(try dsimp only at hSw);go_simp
        try simp only[Act.put,jM]
        refine wpAnyH_ready (rs:=[5]) (by kernel_rfl) (by simp) ?_
        refine AllReadyH.cons rfl (fun K hK=>?_) AllReadyH.nil
        go_simp
        refine hK.out _ _ hwr (fun hH=>?_)
        clear hK K
        try simp only[Act.put,jA,jB,jC,jM]
        refine wpAnyH_ready (rs:=[6]) (by kernel_rfl) (by simp) ?_
        refine AllReadyH.cons rfl (fun K hK=>?_) AllReadyH.nil
        go_simp
        try rw[show _=XA from HXA.out]
        refine hK.out _ _ nA (fun hH=>?_)
        clear hK K
        try simp only[Act.put,jA,jB,jC,jM]
        refine Lx.tk 7 (.agg #[.int .i64 8,.string nm,.int .i64 0,.string ⟨#[]⟩,.slice none 0 0,.int .i64 0,.string ⟨#[]⟩,.slice none 0 0,.slice (some ⟨wr.heap.size,0,none⟩) 1 1]) rfl (Or.inl ⟨by rfl,?_⟩) ?_
        ·intro w hSw;(try dsimp only at hSw);go_simp
        try simp only[Act.put,jM]
        refine wpAnyH_ready (rs:=[8]) (by kernel_rfl) (by simp) ?_
        refine AllReadyH.cons rfl (fun K hK=>?_) AllReadyH.nil
        rw[if_pos (by rfl)]
        refine Lx.y02 27 (.tmp 7) (.tmp 82) rfl _ _ rfl (by kernel_rfl) hrun ?_
        refine hK.out _ _ nV (fun hH=>?_)
        clear hK K
        try simp only[Act.put,jA,jB,jC]
        refine wpAnyH_done (by kernel_rfl) ?_ _
        go_wp2
        go_roundw
        case rel=>exact⟨j,by simp,by omega,HQV.out⟩
        case measure=>first|(simp[intOf];done)|(simp[intOf];omega)
     | some ad =>
     obtain⟨nws,hnws,hnl2⟩:∃nws,(∀j u,(flS bl)[j]? =some u->X12.cell? (ad.add j)=some u)∧nws=flS bl:=⟨_,hsX.news,rfl⟩
     have hn1:∀u∈flS bl,u.oneCell'=true:=by
      intro u hu
      obtain⟨s,-,rfl⟩:=List.mem_map.1 hu
      rfl
     have hfl:(flS bl).length=bl.length*1:=by simp[flS]
     have hn2:∀u∈flS (vs++[t1.t]),u.oneCell'=true:=by
      intro u hu
      obtain⟨s,-,rfl⟩:=List.mem_map.1 hu
      rfl
     have hfl2:(flS (vs++[t1.t])).length=(k+1)*1:=by simp[flS,HK.out]
     have HB12:Hid (Below W12.heap.size W12 X12):=hbX
     have NEWS:Hid (∀w1,X12.grownBy w1 (some W12.heap.size)->(∀j u,(flS (vs++[t1.t]))[j]? =some u->w1.cell? ((⟨g6,0,none⟩:Addr).add j)=some u)∧R+1<=w1.heap.size):=fun w1 hg=>by
      obtain⟨q1,cu,hcu⟩:=rbk H12.out.2.2 rfl
      have hgl:g6<W12.heap.size:=(jG hcu).1
      have hr1:w1.ownsRow (R+1) 9 1 (.slice (some ⟨g6,0,none⟩) (k+1) vc6) (vs++[t1.t]).length (flS (vs++[t1.t])):=rkp H12.out.2.2 (fun g hg'=>by
       cases hg'
       exact (hg.block g6 (jI hgl HB12.out.size) (fun e=>by have:=Option.some.inj e;omega)).trans (HB12.out.block g6 hgl))
      exact⟨(y0m hr1).news,by have:=hg.size;omega⟩
     clear hsB hsX hX12 hbX hzX
     go_wp2_with (first|(at_builtin;refine wpList_append_own_at _ rfl _ _ 38 rfl (R+1) 9 i0 _ 1 16 Tryz.underlying38 hi0 hz0 hz1 hz2 rfl (by decide) _ _ _ rfl hown1 ⟨g6,0,none⟩ (k+1) vc6 (flS (vs++[t1.t])) rfl hfl2 hnews2.1 hn2 (by unfold maxLen;omega) (by omega) hnews2.2 ?_;intro v2 w2 hown2 hg2 _ hat2)|(at_builtin;rw[show _=X12 from HX12.out.1];refine wpList_append_own_at _ rfl _ _ 38 rfl (R+1) 9 i0 _ 1 16 Tryz.underlying38 hi0 hz0 hz1 hz2 rfl (by decide) _ _ _ rfl hrowA ad bl.length bc (flS bl) rfl hfl hnws hn1 (by unfold maxLen;omega) (by omega) hX12s ?_;intro v1 w1 hown1 hg1 _ hat1;rw[Nat.zero_add,List.nil_append]at hown1;obtain⟨va1,vc1,rfl⟩:=rsl hown1;have hnews2:=NEWS.out w1 hg1))
     have hst2:StrAt w2 v2 (bl++(vs++[t1.t])):=by
      refine y0m (base:=R+1) (ty:=9) ?_
      rw[jL,show (vs++[t1.t]).length=k+1 by simp[HK.out],show flS (bl++(vs++[t1.t]))=flS bl++flS (vs++[t1.t]) by simp[flS]]
      exact hown2
     obtain⟨l3,hl3⟩:∃x,wantL [58] (wantL [93] r1 B1) (wantB D [93] r1 B1)=x:=⟨_,rfl⟩
     obtain⟨bd3,hbd3⟩:∃x,wantB D [58] (wantL [93] r1 B1) (wantB D [93] r1 B1)=x:=⟨_,rfl⟩
     have hd12:=H12.out.1
     rw[hl3,hbd3]at hd12
     have HL3:=hid (And.intro hl3 hbd3)
     clear hl3 hbd3
     have hl3r:l3.length<=r1.length:=by
      rw[<-HL3.out.1]
      have w1:∀(m:jU) (l:List Tk) (b:Int),(wantL m l b).length<=l.length:=fun m l b=>by unfold wantL;split<;>simp
      exact Nat.le_trans (w1 _ _ _) (w1 _ _ _)
     have hL1r:L1.length<=r0.length:=by
      rw[<-HE.out.1];unfold wantL;split<;>simp
     have hcnt8:=HV8.out.cnt
     have hBR:=H12.out.2.1.BR
     have hRX:=H12.out.2.1.lt
     have hon1:Only [W12.heap.size] X12 w1:=Only.of_grown hg1 (fun r hr=>by cases hr;simp)
     have hv1b:∀g,(Value.slice va1 bl.length vc1).ownBlock=some g->R+1<=g∧W12.heap.size<=g:=fun g hg=>⟨(rbk hown1 hg).1,by
      rcases hat1 with h1|h1
      ·rw[h1]at hg;cases hg;exact jJ _
      ·rw[h1]at hg;cases hg;exact HX12.out.2.size⟩
     have hg3:w1.grownBy w2 (Value.slice va1 bl.length vc1).ownBlock:=hg2
     have hon2:Only (Value.slice va1 bl.length vc1).ownBlock.toList w1 w2:=⟨hg3.os,hg3.tape,hg3.output,hg3.size,fun k hk hn=>hg3.block k hk (fun e=>hn (by rw[<-e];simp))⟩
     have hd2:=((hd12.keep HX12.out.2).turn2 hon1 (by simp;omega) (by simp;omega)).turn2 hon2 (fun hm=>by have:=hv1b D.B (by simpa using hm);omega) (fun x hx=>by have:=hv1b x (by simpa using hx);omega)
     have hm2:=((H12.out.2.1.step (Only.of_below (B:=[D.B]) HX12.out.2)).far hon1 (by simp;omega)).far hon2 (fun x hx=>by have:=hv1b x (by simpa using hx);omega)
     have hrN:w2.ownsRow (R+1) 9 1 (.slice (some ⟨g6,0,none⟩) (k+1) vc6) (vs++[t1.t]).length (flS (vs++[t1.t])):=rkp H12.out.2.2 (fun g hg'=>by
      obtain⟨q1,cu,hcu⟩:=rbk H12.out.2.2 hg'
      have hgl:=(jG hcu).1
      exact (hon2.block g (jI (jI hgl HX12.out.2.size) hon1.size) (fun hm=>by have:=hv1b g (by simpa using hm);omega)).trans ((hon1.block g (jI hgl HX12.out.2.size) (by simp;omega)).trans (HX12.out.2.block g hgl)))
     have hvl:(vs++[t1.t]).length=k+1:=by simp[HK.out]
     have hc:=hU l3 (by simp only[jK]at hcnt8 ⊢;omega) w2 fr mn bd3 v2 (bl++(vs++[t1.t])) hd2 (fun _=>by have h1:=HBU.out;have h2:=HK.out;rw[jL,hvl];simp only[jK]at hcnt8 h1;omega) hst2
     have HN:=hid (And.intro hm2 (And.intro hrN hvl))
     clear hd12 hl3r hL1r hcnt8 hBR hRX hon1 hv1b hon2 hd2 hm2 hrN hst2 hvl hown1 hown2 hg1 hg2 hg3 hat1 hat2 hnews2
     refine hc.mono ?_
     rintro e W20 ⟨f,sl,sr,sk,l4,fr4,mn4,bd4,hT4,rfl,hf,hd20,ho20⟩
     clear hc
     obtain⟨la,lc,rfl,-,-⟩:=hf.l.slice'
     obtain⟨ra,rc,rfl,-,-⟩:=hf.r.slice'
     obtain⟨ka,kc,rfl,-,-⟩:=hf.k.slice
     have HT4:Hid (DFmR D (PU bl) (t0::r0) fr mn bd (wrapQ (if headOf (t0::r0)=2 then 7 else 8) (vs++[t1.t]) f) l4 fr4 mn4 bd4):=by
      rw[<-HL3.out.1,<-HL3.out.2]at hT4
      have hp:=HPV.out.1
      have hx1:=HX.out.1
      rw[<-HE.out.2]at hT4 hx1
      rw[<-HE.out.1]at hp
      exact DFmR.quant (l:=t0::r0) hb HH.out hx1 hp hT4
     have hm20:=HN.out.1.step ho20
     have hr20:W20.ownsRow (R+1) 9 1 (.slice (some ⟨g6,0,none⟩) (k+1) vc6) (vs++[t1.t]).length (flS (vs++[t1.t])):=rkp HN.out.2.1 (fun g hg'=>by
      obtain⟨q1,cu,hcu⟩:=rbk HN.out.2.1 hg'
      have:=hm20.BR
      exact ho20.block g (jG hcu).1 (by simp;omega))
     have hRw2:=HN.out.1.lt
     have hbA:=bbx W20 (fbox f (.slice la f.l.args.length lc) (.slice ra f.r.args.length rc) (.slice ka f.kids.length kc))
     have hzA:=(jH W20 (fbox f (.slice la f.l.args.length lc) (.slice ra f.r.args.length rc) (.slice ka f.kids.length kc))).1
     obtain⟨F,hF⟩:∃F,W20.heap.size=F:=⟨_,rfl⟩
     rw[hF]at hzA
     have hRF:R<F:=by rw[<-hF];exact hm20.lt
     have hFw:w2.heap.size<=F:=by rw[<-hF];exact ho20.size
     have HQB:Hid (QInv D w R F g6 vc6 k (if headOf (t0::r0)=2 then 7 else 8) (vs++[t1.t]) f l4 fr4 mn4 bd4 (k+1) (W20.alloc (fbox f (.slice la f.l.args.length lc) (.slice ra f.r.args.length rc) (.slice ka f.kids.length kc)))):=by
      refine⟨_,_,_,⟨hm20.step (Only.of_below hbA),by rw[List.drop_eq_nil_of_le (by rw[HN.out.2.2];exact jJ _)];exact hzA,?_,hRF⟩,hd20.keep hbA,Lx.y05 hr20 hbA,?_,HN.out.2.2⟩
      ·rw[List.drop_eq_nil_of_le (by rw[HN.out.2.2];exact jJ _)]
       exact hf.keep hbA.size (fun k hk hkl=>⟨⟨by omega,by omega⟩,hbA.block k hkl⟩)
      ·obtain⟨q1,cu,hcu⟩:=rbk hr20 rfl
       have:=(jG hcu).1
       rw[hF]at this
       exact this
     obtain⟨W21,hW21⟩:∃X,W20.alloc (fbox f (.slice la f.l.args.length lc) (.slice ra f.r.args.length rc) (.slice ka f.kids.length kc))=X:=⟨_,rfl⟩
     rw[hW21]at HQB
     have HW21:=hid hW21
     have hk63:(k:Int)<=2097155:=by omega
     clear hT4 hf hd20 ho20 hm20 hr20 hRw2 hbA hzA hRF hFw hW21
     clear hnws hnl2 hn1 hn2 hfl hfl2 hrowA hX12s hnl hlt hbB hBl hbBl hRW j1 j0 j2 hRW12 HN hU
     go_upto_region 17 with fail
     try simp only[hF]
     rw[show _=W21 from HW21.out]
     clear HW21
     go_wp2
     have HKv:(if headOf (t0::r0)=2 then (7:Int) else 8)=8:=by rw[head_q HH.out,HB1.out];rfl
     rw[HKv]at HQB HT4
     clear HKv
     obtain⟨vz,hvz⟩:∃x,vs++[t1.t]=x:=⟨_,rfl⟩
     rw[hvz]at HQB HT4
     clear hvz
     go_loopw [8] (fun v W=>∃j:Nat,v=.int .i64 ((j:Int)-1)∧j<=k+1∧Hid (QInv D w R F g6 vc6 k 8 vz f l4 fr4 mn4 bd4 j W)) (fun v _=>(intOf v+1).toNat)
     case atStart=>exact⟨k+1,by simp,jJ _,HQB.out⟩
     case round =>
      obtain⟨j,rfl,hj,HQ⟩:=hrel
      obtain⟨sl,sr,sk,hN,hd,hrow,hgF,hvz⟩:=HQ.out
      have hfm:=hN.fm
      obtain⟨la,lc,rfl,-,-⟩:=hfm.l.slice'
      obtain⟨ra,rc,rfl,-,-⟩:=hfm.r.slice'
      obtain⟨ka,kc,rfl,-,-⟩:=hfm.k.slice
      obtain⟨⟨c0,c1,c2,c3,c4,c5,c6,c7,c8⟩,-⟩:=y00 hN.box
      clear HQ hfm
      cases j with
      | zero =>
       have hT:=HT4.out
       rw[List.drop_zero]at hN c0 c1 c2 c3 c4 c5 c6 c7 c8
       generalize wrapQ 8 vz f=g at hT hN c0 c1 c2 c3 c4 c5 c6 c7 c8
       have HT:=hid hT
       obtain⟨V,hrun,HV⟩:=hN.mb.fin hd hN.fm (fun k hk=>hk.1)
       clear hT hd hN hrow
       go_wp2_with (first|(refine wsr rfl 27 _ _ rfl (.pointer (some ⟨R,0,none⟩)) (fval g (.slice la g.l.args.length lc) (.slice ra g.r.args.length rc) (.slice ka g.kids.length kc)) rfl (by kernel_rfl) hrun ?_))
       have HVC:Hid (FC9 V R (.int .i64 g.k) (.string g.nm) (.int .i64 g.l.v) (.string g.l.fn) (.slice la g.l.args.length lc) (.int .i64 g.r.v) (.string g.r.fn) (.slice ra g.r.args.length rc) (.slice ka g.kids.length kc)):=HV.out.1
       obtain⟨v0,v1,v2,v3,v4,v5,v6,v7,v8⟩:=HVC.out
       refine bodyPost_ret (v:=.agg #[.int .i64 g.k,.string g.nm,.int .i64 g.l.v,.string g.l.fn,.slice la g.l.args.length lc,.int .i64 g.r.v,.string g.r.fn,.slice ra g.r.args.length rc,.slice ka g.kids.length kc]) (by simp[results,Tryz.results140,go_sem,v0,v1,v2,v3,v4,v5,v6,v7,v8]) rfl ?_
       exact⟨g,_,_,_,l4,fr4,mn4,bd4,HT.out,rfl,HV.out.2.1,HV.out.2.2.1,HV.out.2.2.2⟩
      | succ j =>
       have hjl:j<vz.length:=by omega
       have hrow':=hrow
       rw[hvz]at hrow'
       have hrc:=y08 hrow' (y3l vz j hjl)
       obtain⟨nm,hnm⟩:∃x,ofL vz[j]=x:=⟨_,rfl⟩
       rw[hnm]at hrc
       have n0:=hrc.1
       have hwq:wrapQ 8 (vz.drop j) f=fQ 8 nm (wrapQ 8 (vz.drop (j+1)) f):=by
        rw[List.drop_eq_getElem_cons hjl,<-hnm];rfl
       obtain⟨g,hg⟩:∃g,wrapQ 8 (vz.drop (j+1)) f=g:=⟨_,rfl⟩
       rw[hg]at hN hwq c0 c1 c2 c3 c4 c5 c6 c7 c8
       have hbA:=(bbx wr (fbox g (.slice la g.l.args.length lc) (.slice ra g.r.args.length rc) (.slice ka g.kids.length kc))).drew
       have hzA:((wr.alloc (fbox g (.slice la g.l.args.length lc) (.slice ra g.r.args.length rc) (.slice ka g.kids.length kc))).drew).heap[wr.heap.size]? =some (fbox g (.slice la g.l.args.length lc) (.slice ra g.r.args.length rc) (.slice ka g.kids.length kc)):=(jH wr (fbox g (.slice la g.l.args.length lc) (.slice ra g.r.args.length rc) (.slice ka g.kids.length kc))).1
       obtain⟨XA,hXA⟩:∃X,(wr.alloc (fbox g (.slice la g.l.args.length lc) (.slice ra g.r.args.length rc) (.slice ka g.kids.length kc))).drew=X:=⟨_,rfl⟩
       rw[hXA]at hbA hzA
       have hNA:=hN.keep hbA
       have hFl:=hN.lt
       have hRF:=hN.RF
       have hBR:=hN.mb.BR
       have hKd:=y27 hzA (P:=fun k=>R<k∧k≠F) ⟨by omega,by omega⟩ hNA.fm
       obtain⟨V,hrun,hV,oV⟩:=y0g (f:=fQ 8 nm g) (P:=fun k=>R<k∧k≠F) (X:=XA) rfl hNA.box rfl ⟨ArgsP.nil _ _,ArgsP.nil _ _,hKd⟩
       have hgl:g6<wr.heap.size:=by
        obtain⟨q1,cu,hcu⟩:=rbk hrow rfl
        exact (jG hcu).1
       have hsame:∀x,x<wr.heap.size->x≠F->V.heap[x]? =wr.heap[x]?:=fun x hx hxF=>(oV.block x (jI hx hbA.size) (by simpa using hxF)).trans (hbA.block x hx)
       have nA:XA.cell? ⟨g6,j,none⟩=some (.string nm):=(World.cell?_of_block (a:=⟨g6,j,none⟩) (hbA.block g6 hgl)).trans n0
       have nV:V.cell? ⟨g6,j,none⟩=some (.string nm):=(World.cell?_of_block (a:=⟨g6,j,none⟩) (hsame g6 hgl (by omega))).trans n0
       have HQV:Hid (QInv D w R F g6 vc6 k 8 vz f l4 fr4 mn4 bd4 j V):=by
        refine⟨_,_,_,⟨hNA.mb.far oV (by simp;omega),by rw[hwq];exact hV,?_,hRF⟩,(hd.keep hbA).turn2 oV (by simp;omega) (by simp;omega),rkp hrow (fun x hx=>?_),hgF,hvz⟩
        ·rw[hwq]
         exact⟨ArgsP.nil _ _,ArgsP.nil _ _,hKd.keep oV.size (fun k hk hkl=>⟨hk,oV.block k hkl (by simpa using hk.2)⟩)⟩
        ·cases hx
         exact hsame g6 hgl (by omega)
       have HXA:=hid hXA
       have jk:(j:Int)<(k:Int)+1:=by omega
       have jk0:(0:Int)<=(j:Int):=by omega
       have jk1:j<k+1:=by omega
       have hwr:wr.drew.cell? ⟨g6,j,none⟩=some (.string nm):=n0
       clear hbA hzA hXA hNA hFl hRF hBR hKd hV oV hgl hsame hN hd hrow hrow' hrc hwq hg
       go_wp2
       refine wp_region_held_drew (S:=fun X=>X.cell? ⟨g6,j,none⟩=some (.string nm)) (by kernel_rfl) hwr (fun hH=>?_)
       refine Lx.tk 0 (.int .i64 8) rfl (Or.inl ⟨by rfl,?_⟩) ?_
       ·intro w hSw;(try dsimp only at hSw);go_simp
       try simp only[Act.put,jM]
       refine Lx.tk 1 (.slice (some ⟨g6,0,none⟩) (k+1) vc6) rfl (Or.inl ⟨by rfl,?_⟩) ?_
       ·intro w hSw;(try dsimp only at hSw);go_simp
       try simp only[Act.put,jM]
       refine Lx.tk 2 (.int .i64 (j:Nat)) rfl (Or.inl ⟨by rfl,?_⟩) ?_
       ·intro w hSw;(try dsimp only at hSw);go_simp
       try simp only[Act.put,jM]
       refine Lx.tk 3 (.pointer (some ⟨g6,j,none⟩)) rfl (Or.inl ⟨by rfl,?_⟩) ?_
       ·intro w hSw;(try dsimp only at hSw);go_simp
       try simp only[Act.put,jM]
       refine Lx.tk 4 (.string nm) rfl (Or.inl ⟨by rfl,?_⟩) ?_
       ·intro w hSw;(try dsimp only at hSw);go_simp
       try simp only[Act.put,jM]
       refine wpAnyH_ready (rs:=[5]) (by kernel_rfl) (by simp) ?_
       refine AllReadyH.cons rfl (fun K hK=>?_) AllReadyH.nil
       go_simp
       refine hK.out _ _ hwr (fun hH=>?_)
       clear hK K
       try simp only[Act.put,jA,jB,jC,jM]
       refine wpAnyH_ready (rs:=[6]) (by kernel_rfl) (by simp) ?_
       refine AllReadyH.cons rfl (fun K hK=>?_) AllReadyH.nil
       go_simp
       try rw[show _=XA from HXA.out]
       refine hK.out _ _ nA (fun hH=>?_)
       clear hK K
       try simp only[Act.put,jA,jB,jC,jM]
       refine Lx.tk 7 (.agg #[.int .i64 8,.string nm,.int .i64 0,.string ⟨#[]⟩,.slice none 0 0,.int .i64 0,.string ⟨#[]⟩,.slice none 0 0,.slice (some ⟨wr.heap.size,0,none⟩) 1 1]) rfl (Or.inl ⟨by rfl,?_⟩) ?_
       ·intro w hSw;(try dsimp only at hSw);go_simp
       try simp only[Act.put,jM]
       refine wpAnyH_ready (rs:=[8]) (by kernel_rfl) (by simp) ?_
       refine AllReadyH.cons rfl (fun K hK=>?_) AllReadyH.nil
       rw[if_pos (by rfl)]
       refine Lx.y02 27 (.tmp 7) (.tmp 82) rfl _ _ rfl (by kernel_rfl) hrun ?_
       refine hK.out _ _ nV (fun hH=>?_)
       clear hK K
       try simp only[Act.put,jA,jB,jC]
       refine wpAnyH_done (by kernel_rfl) ?_ _
       go_wp2
       go_roundw
       case rel=>exact⟨j,by simp,by omega,HQV.out⟩
       case measure=>first|(simp[intOf];done)|(simp[intOf];omega)
 case true =>
  have hkk:kk=7:=by rw[<-HKK.out];rfl
  subst hkk
  go_upto_region 5 with fail
  rw[show _=Y6 from HY6.out]
  clear HY6 e6 f6 w6'
  go_wp2_with fail
  refine hw.mono ?_
  rintro e W7 ⟨rfl,hd7,ho7⟩
  clear hw
  have hV0:VBd D w R (wantL [91] r0 bd) fr mn (wantB D [91] r0 bd) [] (wantL [91] r0 bd) (.slice none 0 0) W7:=⟨HM6.out.step ho7,hd7,⟨rfl,.inl ⟨rfl,rfl⟩⟩,fun bs q' h=>h,fun q' h=>h,by simp⟩
  have HV0:=hid hV0
  clear hd7 ho7 hV0
  have HLL:Hid ((wantL [91] r0 bd).length<=2097155):=by
   show _<=_
   have h1:=HLN.out
   have h2:(wantL [91] r0 bd).length<=r0.length:=by unfold wantL;split<;>simp
   simp only[jK]at h1
   omega
  obtain⟨i0,hi0,hz0,hz1,hz2⟩:=info_parts info9
  obtain⟨L1,hL1⟩:∃x,wantL [91] r0 bd=x:=⟨_,rfl⟩
  obtain⟨B1,hB1⟩:∃x,wantB D [91] r0 bd=x:=⟨_,rfl⟩
  rw[hL1,hB1]at HV0
  rw[hL1]at HLL
  have HE:=hid (And.intro hL1 hB1)
  clear hL1 hB1
  go_wp2
  go_loopw [6] (fun v W=>∃(k:Nat) (a:Option Addr) (c:Nat),v=.slice a k c∧Hid (∃vs q,vs.length=k∧VBd D w R L1 fr mn B1 vs q (.slice a k c) W)) (fun _ W=>muW D W)
  case atStart=>exact⟨0,none,0,rfl,[],_,rfl,HV0.out⟩
  case round =>
   obtain⟨k,va,vc,rfl,HI⟩:=hrel
   obtain⟨vs,q,hk,hV⟩:=HI.out
   have hkd:=y15 hV.st 2
   have HMU:=hid hV.st.mu
   clear HI
   cases hx:(decide (B1<0)&&isK 2 q) with
   | false =>
    rw[hx]at hkd
    go_wp2_with fail
    refine hkd.mono ?_
    rintro e W8 ⟨rfl,hb8⟩
    have hV8:=hV.keep hb8
    have hfl:=y29 hV8.st
    have HT:Hid (DFmR D (PU bl) (t0::r0) fr mn bd (fOp 10 []) q fr mn (badV D q B1)):=by
     have hV9:=hV8
     rw[<-HE.out.1,<-HE.out.2]at hV9
     rw[<-HE.out.2]at hx
     have:=DFmR.names (bl:=bl) (l:=t0::r0) hb HH.out hV9 hx (fOp 10 [])
     rw[<-HE.out.2]
     exact this
    have HM8:=hid hV8.mb
    clear hkd hV hb8 hV8 hx
    go_wp2_with fail
    refine hfl.mono ?_
    rintro e W9 ⟨rfl,hd9,ho9⟩
    clear hfl
    obtain⟨V,hrun,HV⟩:=(HM8.out.step ho9).fin hd9 (f:=fOp 10 []) (P:=fun k=>R<k) ⟨ArgsP.nil _ _,ArgsP.nil _ _,KidsP.nil _ _⟩ (fun k hk=>hk)
    clear hd9 ho9
    go_wp2_with (first|(refine wsr rfl 27 _ _ rfl (.pointer (some ⟨R,0,none⟩)) (.agg #[.int .i64 10,.string ⟨#[]⟩,.int .i64 0,.string ⟨#[]⟩,.slice none 0 0,.int .i64 0,.string ⟨#[]⟩,.slice none 0 0,.slice none 0 0]) rfl (by kernel_rfl) hrun ?_))
    have HVC:Hid (FC9 V R (.int .i64 10) (.string ⟨#[]⟩) (.int .i64 0) (.string ⟨#[]⟩) (.slice none 0 0) (.int .i64 0) (.string ⟨#[]⟩) (.slice none 0 0) (.slice none 0 0)):=HV.out.1
    obtain⟨v0,v1,v2,v3,v4,v5,v6,v7,v8⟩:=HVC.out
    refine bodyPost_ret (v:=.agg #[.int .i64 10,.string ⟨#[]⟩,.int .i64 0,.string ⟨#[]⟩,.slice none 0 0,.int .i64 0,.string ⟨#[]⟩,.slice none 0 0,.slice none 0 0]) (by simp[results,Tryz.results140,go_sem,v0,v1,v2,v3,v4,v5,v6,v7,v8]) rfl ?_
    exact⟨fOp 10 [],_,_,_,q,fr,mn,_,HT.out,rfl,HV.out.2.1,HV.out.2.2.1,HV.out.2.2.2⟩
   | true =>
    rw[hx]at hkd
    rw[Bool.and_eq_true,decide_eq_true_eq]at hx
    obtain⟨t1,r1,rfl,hk1⟩:=isK_cons hx.2
    have HX:=hid hx
    go_wp2_with fail
    refine hkd.mono ?_
    rintro e W8 ⟨rfl,hb8⟩
    have hV8:=hV.keep hb8
    obtain⟨⟨x0,x1,-⟩,-⟩:=hV8.st.cells
    obtain⟨b,o,ea,hlt,c0,c1,c2⟩:=hV8.st.at_
    have hbB:b<W8.heap.size:=Nat.lt_trans hlt hV8.st.lt
    have hBl:=hV8.st.lt
    have hlen:=hV8.st.len
    rw[ea]at x0
    rw[show D.L.length-(t1::r1).length=D.L.length-(r1.length+1) by simp]at x1
    obtain⟨i,hi⟩:∃i,D.L.length-(r1.length+1)=i:=⟨_,rfl⟩
    obtain⟨N,hN⟩:∃N,D.L.length=N:=⟨_,rfl⟩
    have j1:(i:Int)<(N:Int):=by simp only[jK]at hlen;omega
    have j0:(0:Int)<=(i:Int):=by omega
    have j2:i<N:=by omega
    rw[hi]at x1 c2
    rw[hN]at x0
    obtain⟨tx,htx⟩:∃x,ofL t1.t=x:=⟨_,rfl⟩
    rw[htx]at c2
    have HC:Hid (∀X,Below W8.heap.size W8 X->X.cell? ⟨D.B,0,none⟩=some (.slice (some ⟨b,o,none⟩) N D.c)∧X.cell? ⟨D.B,1,none⟩=some (.int .i64 (i:Nat))∧X.cell? ⟨b,o+i*3+2,none⟩=some (.string tx)):=by
     intro X hX
     have kk:∀{n j v},n<W8.heap.size->W8.cell? ⟨n,j,none⟩=some v->X.cell? ⟨n,j,none⟩=some v:=fun {n j v} hn hc=>(World.cell?_of_block (a:=⟨n,j,none⟩) (hX.block n hn)).trans hc
     exact⟨kk hBl x0,kk hBl x1,kk hbB c2⟩
    have hkL:k+1<=2097155:=by have h1:=hV8.cnt;have h2:=HLL.out;simp only[jK]at h1;omega
    have hbA:=(bbx W8 (.cells #[.string tx] 9)).drew
    have hRW:R<W8.heap.size:=hV8.mb.lt
    have hbBl:b<=R:=by have:=hV8.mb.BR;omega
    have HV8:=hid hV8
    have HTX:=hid htx
    have HK:=hid hk
    clear hkd hV hb8 hV8 x0 x1 c0 c1 c2 ea hlen hi hN htx hx hk
    go_wp2
    refine wp_region_held_drew (S:=fun X=>X.cell? ⟨D.B,0,none⟩=some (.slice (some ⟨b,o,none⟩) N D.c)∧X.cell? ⟨D.B,1,none⟩=some (.int .i64 (i:Nat))∧X.cell? ⟨b,o+i*3+2,none⟩=some (.string tx)) (by kernel_rfl) (HC.out _ (Below.refl _ W8).drew) (fun hH=>?_)
    refine Lx.tk 0 (.slice va k vc) rfl (Or.inl ⟨by rfl,?_⟩) ?_
    ·intro w hSw;obtain⟨g0,g1,g2⟩:=hSw;(try dsimp only at hSw);go_simp
    try simp only[Act.put,jM]
    refine Lx.tk 1 (.pointer (some ⟨D.B,0,none⟩)) rfl (Or.inl ⟨by rfl,?_⟩) ?_
    ·intro w hSw;obtain⟨g0,g1,g2⟩:=hSw;(try dsimp only at hSw);go_simp
    try simp only[Act.put,jM]
    refine Lx.tk 2 (.pointer (some ⟨D.B,0,none⟩)) rfl (Or.inl ⟨by rfl,?_⟩) ?_
    ·intro w hSw;obtain⟨g0,g1,g2⟩:=hSw;(try dsimp only at hSw);go_simp
    try simp only[Act.put,jM]
    refine Lx.tk 3 (.pointer (some ⟨D.B,0,none⟩)) rfl (Or.inl ⟨by rfl,?_⟩) ?_
    ·intro w hSw;obtain⟨g0,g1,g2⟩:=hSw;(try dsimp only at hSw);go_simp
    try simp only[Act.put,jM]
    refine Lx.tk 4 (.slice (some ⟨b,o,none⟩) N D.c) rfl (Or.inl ⟨by rfl,?_⟩) ?_
    ·intro w hSw;obtain⟨g0,g1,g2⟩:=hSw;(try dsimp only at hSw);go_simp
    try simp only[Act.put,jM]
    refine Lx.tk 5 (.pointer (some ⟨D.B,0,none⟩)) rfl (Or.inl ⟨by rfl,?_⟩) ?_
    ·intro w hSw;obtain⟨g0,g1,g2⟩:=hSw;(try dsimp only at hSw);go_simp
    try simp only[Act.put,jM]
    refine Lx.tk 6 (.pointer (some ⟨D.B,0,none⟩)) rfl (Or.inl ⟨by rfl,?_⟩) ?_
    ·intro w hSw;obtain⟨g0,g1,g2⟩:=hSw;(try dsimp only at hSw);go_simp
    try simp only[Act.put,jM]
    refine Lx.tk 7 (.pointer (some ⟨D.B,1,none⟩)) rfl (Or.inl ⟨by rfl,?_⟩) ?_
    ·intro w hSw;obtain⟨g0,g1,g2⟩:=hSw;(try dsimp only at hSw);go_simp
    try simp only[Act.put,jM]
    refine Lx.tk 8 (.int .i64 (i:Nat)) rfl (Or.inl ⟨by rfl,?_⟩) ?_
    ·intro w hSw;obtain⟨g0,g1,g2⟩:=hSw;(try dsimp only at hSw);go_simp
    try simp only[Act.put,jM]
    refine Lx.tk 9 (.pointer (some ⟨b,o+i*3,none⟩)) rfl (Or.inl ⟨by rfl,?_⟩) ?_
    ·intro w hSw;obtain⟨g0,g1,g2⟩:=hSw;(try dsimp only at hSw);go_simp
    try simp only[Act.put,jM]
    refine Lx.tk 10 (.pointer (some ⟨b,o+i*3+2,none⟩)) rfl (Or.inl ⟨by rfl,?_⟩) ?_
    ·intro w hSw;obtain⟨g0,g1,g2⟩:=hSw;(try dsimp only at hSw);go_simp
    try simp only[Act.put,jM]
    refine Lx.tk 11 (.string tx) rfl (Or.inl ⟨by rfl,?_⟩) ?_
    ·intro w hSw;obtain⟨g0,g1,g2⟩:=hSw;(try dsimp only at hSw);go_simp
    try simp only[Act.put,jM]
    refine wpAnyH_ready (rs:=[12]) (by kernel_rfl) (by simp) ?_
    refine AllReadyH.cons rfl (fun K hK=>?_) AllReadyH.nil
    go_simp
    refine hK.out _ _ (HC.out _ hbA) (fun hH=>?_)
    clear hK K
    try simp only[Act.put,jA,jB,jC,jM]
    refine wpAnyH_ready (rs:=[13]) (by kernel_rfl) (by simp) ?_
    refine AllReadyH.cons rfl (fun K hK=>?_) AllReadyH.nil
    refine sao _ rfl (.tmp 26) (.tmp 38) 38 rfl (R+1) 9 i0 _ 1 16 Tryz.underlying38 hi0 hz0 hz1 hz2 rfl (by decide) (.slice va k vc) k (flS vs) rfl (by have:=Lx.y05 HV8.out.row hbA;rwa [HK.out]at this) ⟨W8.heap.size,0,none⟩ 1 1 [.string tx] rfl rfl (lit1d W8 _ _ 9 rfl) one1s (by unfold maxLen;omega) (by omega) (by have:=hbA.size;omega) ?_
    intro v' w6 hrow6 hg6 hb6
    obtain⟨g6,vc6,rfl⟩:=Go.ownsRow_succ hrow6
    obtain⟨hm6',hd6',hr6',hsame⟩:=HV8.out.push hbA (by rw[HK.out,HTX.out];exact hrow6) hg6
    have hS6:w6.cell? ⟨D.B,0,none⟩=some (.slice (some ⟨b,o,none⟩) N D.c)∧w6.cell? ⟨D.B,1,none⟩=some (.int .i64 (i:Nat))∧w6.cell? ⟨b,o+i*3+2,none⟩=some (.string tx):=by
     obtain⟨q0,q1,q2⟩:=HC.out W8 (Below.refl _ _)
     have hBR8:=HV8.out.mb.BR
     exact⟨(World.cell?_of_block (a:=⟨D.B,0,none⟩) (hsame D.B HV8.out.st.lt (by omega))).trans q0,(World.cell?_of_block (a:=⟨D.B,1,none⟩) (hsame D.B HV8.out.st.lt (by omega))).trans q1,(World.cell?_of_block (a:=⟨b,_,none⟩) (hsame b (by omega) hbBl)).trans q2⟩
    refine hK.out _ _ hS6 (fun hH=>?_)
    clear hK K
    try simp only[Act.put,jA,jB,jC,jM]
    refine Lx.tk 14 (.slice (some ⟨g6,0,none⟩) (k+1) vc6) rfl (Or.inl ⟨by rfl,?_⟩) ?_
    ·intro w hSw;(try dsimp only at hSw);go_simp
    try simp only[Act.put,jM]
    refine wpAnyH_done (by kernel_rfl) ?_ _
    obtain⟨i7,-,e7,f7,w7',hE7,oE7⟩:=hd6'.eat
    have hii:i7=i:=by have h9:=e7.symm.trans hS6.2.1;simp at h9;omega
    subst hii
    have hm7:=hm6'.step oE7
    have hr7:(w6.setCell ⟨D.B,1,none⟩ (.int .i64 ((i7:Int)+1))).ownsRow (R+1) 9 1 (.slice (some ⟨g6,0,none⟩) (k+1) vc6) (vs++[t1.t]).length (flS (vs++[t1.t])):=rkp hr6' (fun g hg=>by
     obtain⟨h1,cu,hcu⟩:=rbk hr6' hg
     have hBR8:=HV8.out.mb.BR
     exact oE7.block g (jG hcu).1 (by simp;omega))
    obtain⟨Y7,hY7⟩:∃X,w6.setCell ⟨D.B,1,none⟩ (.int .i64 ((i7:Int)+1))=X:=⟨_,rfl⟩
    rw[hY7]at hE7 oE7 hm7 hr7
    have HY7:=hid hY7
    have his:=y16 hE7 [44]
    have H7:=hid (And.intro hE7 (And.intro hm7 hr7))
    clear hrow6 hg6 hb6 hm6' hd6' hr6' hsame hS6 hE7 oE7 hm7 hr7 hY7 HC hbA
    go_upto_region 12 with fail
    rw[show _=Y7 from HY7.out]
    clear HY7 e7 f7 w7'
    cases h44:isM [44] r1 with
    | true =>
     rw[decide_eq_true HX.out.1,Bool.true_and,h44]at his
     obtain⟨t2,r2,rfl,_,_⟩:=y03 h44
     have HM44:=hid h44
     clear h44
     go_wp2_with fail
     refine his.mono ?_
     rintro e W10 ⟨rfl,hb10⟩
     have hd10:=H7.out.1.keep hb10
     have hm10:=H7.out.2.1.step (Only.of_below (B:=[D.B]) hb10)
     have hr10:=Lx.y05 H7.out.2.2 hb10
     obtain⟨i8,-,e8,f8,w8',hE8,oE8⟩:=hd10.eat
     have hr11:(W10.setCell ⟨D.B,1,none⟩ (.int .i64 ((i8:Int)+1))).ownsRow (R+1) 9 1 (.slice (some ⟨g6,0,none⟩) (k+1) vc6) (vs++[t1.t]).length (flS (vs++[t1.t])):=rkp hr10 (fun g hg=>by
      obtain⟨h1,cu,hcu⟩:=rbk hr10 hg
      have hBR8:=HV8.out.mb.BR
      exact oE8.block g (jG hcu).1 (by simp;omega))
     have hV11:=HV8.out.next hk1 rfl HM44.out (hm10.step oE8) hE8 hr11
     have hmu:muW D (W10.setCell ⟨D.B,1,none⟩ (.int .i64 ((i8:Int)+1)))<(t1::t2::r2).length+1:=by
      rw[hE8.mu,if_pos HX.out.1];simp
     have hln:(vs++[t1.t]).length=k+1:=by simp[HK.out]
     obtain⟨Y8,hY8⟩:∃X,W10.setCell ⟨D.B,1,none⟩ (.int .i64 ((i8:Int)+1))=X:=⟨_,rfl⟩
     rw[hY8]at hV11 hmu
     have HY8:=hid hY8
     have HR8:=hid (And.intro hV11 (And.intro hmu hln))
     clear his hb10 hd10 hm10 hr10 hE8 oE8 hr11 hV11 hmu hln hY8
     go_wp2
     go_roundw
     case rel=>exact⟨k+1,some ⟨g6,0,none⟩,vc6,rfl,_,_,HR8.out.2.2,by rw[show _=Y8 from HY8.out];exact HR8.out.1⟩
     case measure=>rw[HMU.out,if_pos HX.out.1,show _=Y8 from HY8.out];exact HR8.out.2.1
    | false =>
     rw[decide_eq_true HX.out.1,Bool.true_and,h44]at his
     have hPV:PV L1 (.ok (vs++[t1.t]) [] r1):=HV8.out.more _ _ (PV.last hk1 h44)
     have HPV:=hid (And.intro hPV h44)
     clear hPV h44
     go_wp2_with fail
     refine his.mono ?_
     rintro e W10 ⟨rfl,hb10⟩
     have hd10:=H7.out.1.keep hb10
     have hm10:=H7.out.2.1.step (Only.of_below (B:=[D.B]) hb10)
     have hr10:=Lx.y05 H7.out.2.2 hb10
     have hw93:=y24 hd10 [93]
     have H10:=hid (And.intro hm10 hr10)
     clear his hb10 hd10 hm10 hr10
     go_wp2_with fail
     refine hw93.mono ?_
     rintro e W11 ⟨rfl,hd11,ho11⟩
     have hm11:=H10.out.1.step ho11
     have hr11:W11.ownsRow (R+1) 9 1 (.slice (some ⟨g6,0,none⟩) (k+1) vc6) (vs++[t1.t]).length (flS (vs++[t1.t])):=rkp H10.out.2 (fun g hg=>by
      obtain⟨h1,cu,hcu⟩:=rbk H10.out.2 hg
      have hBR8:=HV8.out.mb.BR
      exact ho11.block g (jG hcu).1 (by simp;omega))
     have hw58:=y24 hd11 [58]
     have H11:=hid (And.intro hm11 hr11)
     clear hw93 hd11 ho11 hm11 hr11
     go_wp2_with fail
     refine hw58.mono ?_
     rintro e W12 ⟨rfl,hd12,ho12⟩
     have hm12:=H11.out.1.step ho12
     have hr12:W12.ownsRow (R+1) 9 1 (.slice (some ⟨g6,0,none⟩) (k+1) vc6) (vs++[t1.t]).length (flS (vs++[t1.t])):=rkp H11.out.2 (fun g hg=>by
      obtain⟨h1,cu,hcu⟩:=rbk H11.out.2 hg
      have hBR8:=HV8.out.mb.BR
      exact ho12.block g (jG hcu).1 (by simp;omega))
     have H12:=hid (And.intro hd12 (And.intro hm12 hr12))
     clear hw58 hd12 ho12 hm12 hr12
     have hsB:=HSW.out W12 H12.out.2.1.on
     have hbX:=bbx W12 (.cells #[] 9)
     have hzX:=(jH W12 (.cells #[] 9)).1
     obtain⟨X12,hX12⟩:∃X,W12.alloc (.cells #[] 9)=X:=⟨_,rfl⟩
     rw[hX12]at hbX hzX
     have hsX:=hsB.keep hbX
     have hRW12:R<W12.heap.size:=H12.out.2.1.lt
     have hrowA:X12.ownsRow (R+1) 9 1 (.slice (some ⟨W12.heap.size,0,none⟩) 0 0) 0 []:=⟨rfl,.inr ⟨W12.heap.size,0,#[],rfl,by omega,hzX,jJ _,by decide,rfl,rfl⟩⟩
     have hX12s:R+1<=X12.heap.size:=by have:=hbX.size;omega
     have hnl:bl.length<=2097155:=by have:=HBU.out;omega
     have HX12:=hid (And.intro hX12 hbX)
     cases ba with
     | none =>
      have hbl:bl=[]:=by
       obtain⟨a9,c9,e9,-,-,h9⟩:=hsB
       by_cases h0:0<bl.length
       ·obtain⟨b9,o9,-,e8,-⟩:=h9 h0
        rw[e8]at e9;cases e9
       ·exact List.eq_nil_of_length_eq_zero (by omega)
      subst hbl
      have hn2:∀u∈flS (vs++[t1.t]),u.oneCell'=true:=by
       intro u hu
       obtain⟨s,-,rfl⟩:=List.mem_map.1 hu
       rfl
      have hfl2:(flS (vs++[t1.t])).length=(k+1)*1:=by simp[flS,HK.out]
      have HB12:Hid (Below W12.heap.size W12 X12):=hbX
      have hg1:X12.grownBy X12 (some W12.heap.size):=⟨rfl,rfl,rfl,jJ _,fun _ _ _=>rfl⟩
      have hown1:X12.ownsRow (R+1) 9 1 (.slice (some ⟨W12.heap.size,0,none⟩) ([]:List jU).length 0) ([]:List jU).length (flS []):=hrowA
      have hat1:(Value.slice (some ⟨W12.heap.size,0,none⟩) ([]:List jU).length 0).ownBlock=(Value.slice (some ⟨W12.heap.size,0,none⟩) 0 0).ownBlock∨(Value.slice (some ⟨W12.heap.size,0,none⟩) ([]:List jU).length 0).ownBlock=some X12.heap.size:=.inl rfl
      have hnews2:(∀j u,(flS (vs++[t1.t]))[j]? =some u->X12.cell? ((⟨g6,0,none⟩:Addr).add j)=some u)∧R+1<=X12.heap.size:=by
       obtain⟨q1,cu,hcu⟩:=rbk H12.out.2.2 rfl
       have hgl:g6<W12.heap.size:=(jG hcu).1
       have hr1:X12.ownsRow (R+1) 9 1 (.slice (some ⟨g6,0,none⟩) (k+1) vc6) (vs++[t1.t]).length (flS (vs++[t1.t])):=rkp H12.out.2.2 (fun g hg'=>by
        cases hg'
        exact HB12.out.block g6 hgl)
       exact⟨(y0m hr1).news,hX12s⟩
      obtain⟨bl0,hbl0⟩:∃b:List jU,b=[]:=⟨_,rfl⟩
      clear hsB hsX hX12 hbX hzX
      go_wp2_with (first|(at_builtin;rw[show _=X12 from HX12.out.1];refine wpList_append_own_at _ rfl _ _ 38 rfl (R+1) 9 i0 _ 1 16 Tryz.underlying38 hi0 hz0 hz1 hz2 rfl (by decide) _ _ _ rfl hrowA ⟨g6,0,none⟩ (k+1) vc6 (flS (vs++[t1.t])) rfl hfl2 hnews2.1 hn2 (by unfold maxLen;omega) (by omega) hnews2.2 ?_;intro v2 w2 hown2 hg2 _ hat2))
      have hst2:StrAt w2 v2 (([]:List jU)++(vs++[t1.t])):=by
       refine y0m (base:=R+1) (ty:=9) ?_
       rw[jL,show (vs++[t1.t]).length=k+1 by simp[HK.out],show flS (([]:List jU)++(vs++[t1.t]))=flS ([]:List jU)++flS (vs++[t1.t]) by simp[flS]]
       exact hown2
      obtain⟨l3,hl3⟩:∃x,wantL [58] (wantL [93] r1 B1) (wantB D [93] r1 B1)=x:=⟨_,rfl⟩
      obtain⟨bd3,hbd3⟩:∃x,wantB D [58] (wantL [93] r1 B1) (wantB D [93] r1 B1)=x:=⟨_,rfl⟩
      have hd12:=H12.out.1
      rw[hl3,hbd3]at hd12
      have HL3:=hid (And.intro hl3 hbd3)
      clear hl3 hbd3
      have hl3r:l3.length<=r1.length:=by
       rw[<-HL3.out.1]
       have hwl:∀(m:jU) (l:List Tk) (b:Int),(wantL m l b).length<=l.length:=fun m l b=>by unfold wantL;split<;>simp
       exact Nat.le_trans (hwl _ _ _) (hwl _ _ _)
      have hL1r:L1.length<=r0.length:=by
       rw[<-HE.out.1];unfold wantL;split<;>simp
      have hcnt8:=HV8.out.cnt
      have hBR:=H12.out.2.1.BR
      have hRX:=H12.out.2.1.lt
      have hon1:Only [W12.heap.size] X12 X12:=Only.of_grown hg1 (fun r hr=>by cases hr;simp)
      have hv1b:∀g,(Value.slice (some ⟨W12.heap.size,0,none⟩) ([]:List jU).length 0).ownBlock=some g->R+1<=g∧W12.heap.size<=g:=fun g hg=>⟨(rbk hown1 hg).1,by
       rcases hat1 with h1|h1
       ·rw[h1]at hg;cases hg;exact jJ _
       ·rw[h1]at hg;cases hg;exact HX12.out.2.size⟩
      have hg3:X12.grownBy w2 (Value.slice (some ⟨W12.heap.size,0,none⟩) ([]:List jU).length 0).ownBlock:=hg2
      have hon2:Only (Value.slice (some ⟨W12.heap.size,0,none⟩) ([]:List jU).length 0).ownBlock.toList X12 w2:=⟨hg3.os,hg3.tape,hg3.output,hg3.size,fun k hk hn=>hg3.block k hk (fun e=>hn (by rw[<-e];simp))⟩
      have hd2:=((hd12.keep HX12.out.2).turn2 hon1 (by simp;omega) (by simp;omega)).turn2 hon2 (fun hm=>by have:=hv1b D.B (by simpa using hm);omega) (fun x hx=>by have:=hv1b x (by simpa using hx);omega)
      have hm2:=((H12.out.2.1.step (Only.of_below (B:=[D.B]) HX12.out.2)).far hon1 (by simp;omega)).far hon2 (fun x hx=>by have:=hv1b x (by simpa using hx);omega)
      have hrN:w2.ownsRow (R+1) 9 1 (.slice (some ⟨g6,0,none⟩) (k+1) vc6) (vs++[t1.t]).length (flS (vs++[t1.t])):=rkp H12.out.2.2 (fun g hg'=>by
       obtain⟨q1,cu,hcu⟩:=rbk H12.out.2.2 hg'
       have hgl:=(jG hcu).1
       exact (hon2.block g (jI (jI hgl HX12.out.2.size) hon1.size) (fun hm=>by have:=hv1b g (by simpa using hm);omega)).trans ((hon1.block g (jI hgl HX12.out.2.size) (by simp;omega)).trans (HX12.out.2.block g hgl)))
      have hvl:(vs++[t1.t]).length=k+1:=by simp[HK.out]
      have hc:=hU l3 (by simp only[jK]at hcnt8 ⊢;omega) w2 fr mn bd3 v2 (([]:List jU)++(vs++[t1.t])) hd2 (fun _=>by have h1:=HBU.out;have h2:=HK.out;rw[jL,hvl];simp only[jK]at hcnt8 h1;omega) hst2
      have HN:=hid (And.intro hm2 (And.intro hrN hvl))
      clear hd12 hl3r hL1r hcnt8 hBR hRX hon1 hv1b hon2 hd2 hm2 hrN hst2 hvl hown1 hown2 hg1 hg2 hg3 hat1 hat2 hnews2
      refine hc.mono ?_
      rintro e W20 ⟨f,sl,sr,sk,l4,fr4,mn4,bd4,hT4,rfl,hf,hd20,ho20⟩
      clear hc
      obtain⟨la,lc,rfl,-,-⟩:=hf.l.slice'
      obtain⟨ra,rc,rfl,-,-⟩:=hf.r.slice'
      obtain⟨ka,kc,rfl,-,-⟩:=hf.k.slice
      have HT4:Hid (DFmR D (PU ([]:List jU)) (t0::r0) fr mn bd (wrapQ (if headOf (t0::r0)=2 then 7 else 8) (vs++[t1.t]) f) l4 fr4 mn4 bd4):=by
       rw[<-HL3.out.1,<-HL3.out.2]at hT4
       have hp:=HPV.out.1
       have hx1:=HX.out.1
       rw[<-HE.out.2]at hT4 hx1
       rw[<-HE.out.1]at hp
       exact DFmR.quant (l:=t0::r0) hb HH.out hx1 hp hT4
      have hm20:=HN.out.1.step ho20
      have hr20:W20.ownsRow (R+1) 9 1 (.slice (some ⟨g6,0,none⟩) (k+1) vc6) (vs++[t1.t]).length (flS (vs++[t1.t])):=rkp HN.out.2.1 (fun g hg'=>by
       obtain⟨q1,cu,hcu⟩:=rbk HN.out.2.1 hg'
       have:=hm20.BR
       exact ho20.block g (jG hcu).1 (by simp;omega))
      have hRw2:=HN.out.1.lt
      have hbA:=bbx W20 (fbox f (.slice la f.l.args.length lc) (.slice ra f.r.args.length rc) (.slice ka f.kids.length kc))
      have hzA:=(jH W20 (fbox f (.slice la f.l.args.length lc) (.slice ra f.r.args.length rc) (.slice ka f.kids.length kc))).1
      obtain⟨F,hF⟩:∃F,W20.heap.size=F:=⟨_,rfl⟩
      rw[hF]at hzA
      have hRF:R<F:=by rw[<-hF];exact hm20.lt
      have hFw:w2.heap.size<=F:=by rw[<-hF];exact ho20.size
      have HQB:Hid (QInv D w R F g6 vc6 k (if headOf (t0::r0)=2 then 7 else 8) (vs++[t1.t]) f l4 fr4 mn4 bd4 (k+1) (W20.alloc (fbox f (.slice la f.l.args.length lc) (.slice ra f.r.args.length rc) (.slice ka f.kids.length kc)))):=by
       refine⟨_,_,_,⟨hm20.step (Only.of_below hbA),by rw[List.drop_eq_nil_of_le (by rw[HN.out.2.2];exact jJ _)];exact hzA,?_,hRF⟩,hd20.keep hbA,Lx.y05 hr20 hbA,?_,HN.out.2.2⟩
       ·rw[List.drop_eq_nil_of_le (by rw[HN.out.2.2];exact jJ _)]
        exact hf.keep hbA.size (fun k hk hkl=>⟨⟨by omega,by omega⟩,hbA.block k hkl⟩)
       ·obtain⟨q1,cu,hcu⟩:=rbk hr20 rfl
        have:=(jG hcu).1
        rw[hF]at this
        exact this
      obtain⟨W21,hW21⟩:∃X,W20.alloc (fbox f (.slice la f.l.args.length lc) (.slice ra f.r.args.length rc) (.slice ka f.kids.length kc))=X:=⟨_,rfl⟩
      rw[hW21]at HQB
      have HW21:=hid hW21
      have hk63:(k:Int)<=2097155:=by omega
      clear hT4 hf hd20 ho20 hm20 hr20 hRw2 hbA hzA hRF hFw hW21
      clear hn2 hfl2 hrowA hX12s hnl hlt hbB hBl hbBl hRW j1 j0 j2 hRW12 HN hU
      go_upto_region 17 with fail
      try simp only[hF]
      rw[show _=W21 from HW21.out]
      clear HW21
      go_wp2
      have HKv:(if headOf (t0::r0)=2 then (7:Int) else 8)=7:=by rw[head_q HH.out,HB1.out];rfl
      rw[HKv]at HQB HT4
      clear HKv
      obtain⟨vz,hvz⟩:∃x,vs++[t1.t]=x:=⟨_,rfl⟩
      rw[hvz]at HQB HT4
      clear hvz
      go_loopw [8] (fun v W=>∃j:Nat,v=.int .i64 ((j:Int)-1)∧j<=k+1∧Hid (QInv D w R F g6 vc6 k 7 vz f l4 fr4 mn4 bd4 j W)) (fun v _=>(intOf v+1).toNat)
      case atStart=>exact⟨k+1,by simp,jJ _,HQB.out⟩
      case round =>
       obtain⟨j,rfl,hj,HQ⟩:=hrel
       obtain⟨sl,sr,sk,hN,hd,hrow,hgF,hvz⟩:=HQ.out
       have hfm:=hN.fm
       obtain⟨la,lc,rfl,-,-⟩:=hfm.l.slice'
       obtain⟨ra,rc,rfl,-,-⟩:=hfm.r.slice'
       obtain⟨ka,kc,rfl,-,-⟩:=hfm.k.slice
       obtain⟨⟨c0,c1,c2,c3,c4,c5,c6,c7,c8⟩,-⟩:=y00 hN.box
       clear HQ hfm
       cases j with
       | zero =>
        have hT:=HT4.out
        rw[List.drop_zero]at hN c0 c1 c2 c3 c4 c5 c6 c7 c8
        generalize wrapQ 7 vz f=g at hT hN c0 c1 c2 c3 c4 c5 c6 c7 c8
        have HT:=hid hT
        obtain⟨V,hrun,HV⟩:=hN.mb.fin hd hN.fm (fun k hk=>hk.1)
        clear hT hd hN hrow
        go_wp2_with (first|(refine wsr rfl 27 _ _ rfl (.pointer (some ⟨R,0,none⟩)) (fval g (.slice la g.l.args.length lc) (.slice ra g.r.args.length rc) (.slice ka g.kids.length kc)) rfl (by kernel_rfl) hrun ?_))
        have HVC:Hid (FC9 V R (.int .i64 g.k) (.string g.nm) (.int .i64 g.l.v) (.string g.l.fn) (.slice la g.l.args.length lc) (.int .i64 g.r.v) (.string g.r.fn) (.slice ra g.r.args.length rc) (.slice ka g.kids.length kc)):=HV.out.1
        obtain⟨v0,v1,v2,v3,v4,v5,v6,v7,v8⟩:=HVC.out
        refine bodyPost_ret (v:=.agg #[.int .i64 g.k,.string g.nm,.int .i64 g.l.v,.string g.l.fn,.slice la g.l.args.length lc,.int .i64 g.r.v,.string g.r.fn,.slice ra g.r.args.length rc,.slice ka g.kids.length kc]) (by simp[results,Tryz.results140,go_sem,v0,v1,v2,v3,v4,v5,v6,v7,v8]) rfl ?_
        exact⟨g,_,_,_,l4,fr4,mn4,bd4,HT.out,rfl,HV.out.2.1,HV.out.2.2.1,HV.out.2.2.2⟩
       | succ j =>
        have hjl:j<vz.length:=by omega
        have hrow':=hrow
        rw[hvz]at hrow'
        have hrc:=y08 hrow' (y3l vz j hjl)
        obtain⟨nm,hnm⟩:∃x,ofL vz[j]=x:=⟨_,rfl⟩
        rw[hnm]at hrc
        have n0:=hrc.1
        have hwq:wrapQ 7 (vz.drop j) f=fQ 7 nm (wrapQ 7 (vz.drop (j+1)) f):=by
         rw[List.drop_eq_getElem_cons hjl,<-hnm];rfl
        obtain⟨g,hg⟩:∃g,wrapQ 7 (vz.drop (j+1)) f=g:=⟨_,rfl⟩
        rw[hg]at hN hwq c0 c1 c2 c3 c4 c5 c6 c7 c8
        have hbA:=(bbx wr (fbox g (.slice la g.l.args.length lc) (.slice ra g.r.args.length rc) (.slice ka g.kids.length kc))).drew
        have hzA:((wr.alloc (fbox g (.slice la g.l.args.length lc) (.slice ra g.r.args.length rc) (.slice ka g.kids.length kc))).drew).heap[wr.heap.size]? =some (fbox g (.slice la g.l.args.length lc) (.slice ra g.r.args.length rc) (.slice ka g.kids.length kc)):=(jH wr (fbox g (.slice la g.l.args.length lc) (.slice ra g.r.args.length rc) (.slice ka g.kids.length kc))).1
        obtain⟨XA,hXA⟩:∃X,(wr.alloc (fbox g (.slice la g.l.args.length lc) (.slice ra g.r.args.length rc) (.slice ka g.kids.length kc))).drew=X:=⟨_,rfl⟩
        rw[hXA]at hbA hzA
        have hNA:=hN.keep hbA
        have hFl:=hN.lt
        have hRF:=hN.RF
        have hBR:=hN.mb.BR
        have hKd:=y27 hzA (P:=fun k=>R<k∧k≠F) ⟨by omega,by omega⟩ hNA.fm
        obtain⟨V,hrun,hV,oV⟩:=y0g (f:=fQ 7 nm g) (P:=fun k=>R<k∧k≠F) (X:=XA) rfl hNA.box rfl ⟨ArgsP.nil _ _,ArgsP.nil _ _,hKd⟩
        have hgl:g6<wr.heap.size:=by
         obtain⟨q1,cu,hcu⟩:=rbk hrow rfl
         exact (jG hcu).1
        have hsame:∀x,x<wr.heap.size->x≠F->V.heap[x]? =wr.heap[x]?:=fun x hx hxF=>(oV.block x (jI hx hbA.size) (by simpa using hxF)).trans (hbA.block x hx)
        have nA:XA.cell? ⟨g6,j,none⟩=some (.string nm):=(World.cell?_of_block (a:=⟨g6,j,none⟩) (hbA.block g6 hgl)).trans n0
        have nV:V.cell? ⟨g6,j,none⟩=some (.string nm):=(World.cell?_of_block (a:=⟨g6,j,none⟩) (hsame g6 hgl (by omega))).trans n0
        have HQV:Hid (QInv D w R F g6 vc6 k 7 vz f l4 fr4 mn4 bd4 j V):=by
         refine⟨_,_,_,⟨hNA.mb.far oV (by simp;omega),by rw[hwq];exact hV,?_,hRF⟩,(hd.keep hbA).turn2 oV (by simp;omega) (by simp;omega),rkp hrow (fun x hx=>?_),hgF,hvz⟩
         ·rw[hwq]
          exact⟨ArgsP.nil _ _,ArgsP.nil _ _,hKd.keep oV.size (fun k hk hkl=>⟨hk,oV.block k hkl (by simpa using hk.2)⟩)⟩
         ·cases hx
          exact hsame g6 hgl (by omega)
        have HXA:=hid hXA
        have jk:(j:Int)<(k:Int)+1:=by omega
        have jk0:(0:Int)<=(j:Int):=by omega
        have jk1:j<k+1:=by omega
        have hwr:wr.drew.cell? ⟨g6,j,none⟩=some (.string nm):=n0
        clear hbA hzA hXA hNA hFl hRF hBR hKd hV oV hgl hsame hN hd hrow hrow' hrc hwq hg
        go_wp2
        refine wp_region_held_drew (S:=fun X=>X.cell? ⟨g6,j,none⟩=some (.string nm)) (by kernel_rfl) hwr (fun hH=>?_)
        refine Lx.tk 0 (.int .i64 7) rfl (Or.inl ⟨by rfl,?_⟩) ?_
        ·intro w hSw;(try dsimp only at hSw);go_simp
        try simp only[Act.put,jM]
        refine Lx.tk 1 (.slice (some ⟨g6,0,none⟩) (k+1) vc6) rfl (Or.inl ⟨by rfl,?_⟩) ?_
        ·intro w hSw;(try dsimp only at hSw);go_simp
        try simp only[Act.put,jM]
        refine Lx.tk 2 (.int .i64 (j:Nat)) rfl (Or.inl ⟨by rfl,?_⟩) ?_
        ·intro w hSw;(try dsimp only at hSw);go_simp
        try simp only[Act.put,jM]
        refine Lx.tk 3 (.pointer (some ⟨g6,j,none⟩)) rfl (Or.inl ⟨by rfl,?_⟩) ?_
        ·intro w hSw;(try dsimp only at hSw);go_simp
        try simp only[Act.put,jM]
        refine Lx.tk 4 (.string nm) rfl (Or.inl ⟨by rfl,?_⟩) ?_
        ·intro w hSw;(try dsimp only at hSw);go_simp
        try simp only[Act.put,jM]
        refine wpAnyH_ready (rs:=[5]) (by kernel_rfl) (by simp) ?_
        refine AllReadyH.cons rfl (fun K hK=>?_) AllReadyH.nil
        go_simp
        refine hK.out _ _ hwr (fun hH=>?_)
        clear hK K
        try simp only[Act.put,jA,jB,jC,jM]
        refine wpAnyH_ready (rs:=[6]) (by kernel_rfl) (by simp) ?_
        refine AllReadyH.cons rfl (fun K hK=>?_) AllReadyH.nil
        go_simp
        try rw[show _=XA from HXA.out]
        refine hK.out _ _ nA (fun hH=>?_)
        clear hK K
        try simp only[Act.put,jA,jB,jC,jM]
        refine Lx.tk 7 (.agg #[.int .i64 7,.string nm,.int .i64 0,.string ⟨#[]⟩,.slice none 0 0,.int .i64 0,.string ⟨#[]⟩,.slice none 0 0,.slice (some ⟨wr.heap.size,0,none⟩) 1 1]) rfl (Or.inl ⟨by rfl,?_⟩) ?_
        ·intro w hSw;(try dsimp only at hSw);go_simp
        try simp only[Act.put,jM]
        refine wpAnyH_ready (rs:=[8]) (by kernel_rfl) (by simp) ?_
        refine AllReadyH.cons rfl (fun K hK=>?_) AllReadyH.nil
        rw[if_pos (by rfl)]
        refine Lx.y02 27 (.tmp 7) (.tmp 82) rfl _ _ rfl (by kernel_rfl) hrun ?_
        refine hK.out _ _ nV (fun hH=>?_)
        clear hK K
        try simp only[Act.put,jA,jB,jC]
        refine wpAnyH_done (by kernel_rfl) ?_ _
        go_wp2
        go_roundw
        case rel=>exact⟨j,by simp,by omega,HQV.out⟩
        case measure=>first|(simp[intOf];done)|(simp[intOf];omega)
     | some ad =>
     obtain⟨nws,hnws,hnl2⟩:∃nws,(∀j u,(flS bl)[j]? =some u->X12.cell? (ad.add j)=some u)∧nws=flS bl:=⟨_,hsX.news,rfl⟩
     have hn1:∀u∈flS bl,u.oneCell'=true:=by
      intro u hu
      obtain⟨s,-,rfl⟩:=List.mem_map.1 hu
      rfl
     have hfl:(flS bl).length=bl.length*1:=by simp[flS]
     have hn2:∀u∈flS (vs++[t1.t]),u.oneCell'=true:=by
      intro u hu
      obtain⟨s,-,rfl⟩:=List.mem_map.1 hu
      rfl
     have hfl2:(flS (vs++[t1.t])).length=(k+1)*1:=by simp[flS,HK.out]
     have HB12:Hid (Below W12.heap.size W12 X12):=hbX
     have NEWS:Hid (∀w1,X12.grownBy w1 (some W12.heap.size)->(∀j u,(flS (vs++[t1.t]))[j]? =some u->w1.cell? ((⟨g6,0,none⟩:Addr).add j)=some u)∧R+1<=w1.heap.size):=fun w1 hg=>by
      obtain⟨q1,cu,hcu⟩:=rbk H12.out.2.2 rfl
      have hgl:g6<W12.heap.size:=(jG hcu).1
      have hr1:w1.ownsRow (R+1) 9 1 (.slice (some ⟨g6,0,none⟩) (k+1) vc6) (vs++[t1.t]).length (flS (vs++[t1.t])):=rkp H12.out.2.2 (fun g hg'=>by
       cases hg'
       exact (hg.block g6 (jI hgl HB12.out.size) (fun e=>by have:=Option.some.inj e;omega)).trans (HB12.out.block g6 hgl))
      exact⟨(y0m hr1).news,by have:=hg.size;omega⟩
     clear hsB hsX hX12 hbX hzX
     go_wp2_with (first|(at_builtin;refine wpList_append_own_at _ rfl _ _ 38 rfl (R+1) 9 i0 _ 1 16 Tryz.underlying38 hi0 hz0 hz1 hz2 rfl (by decide) _ _ _ rfl hown1 ⟨g6,0,none⟩ (k+1) vc6 (flS (vs++[t1.t])) rfl hfl2 hnews2.1 hn2 (by unfold maxLen;omega) (by omega) hnews2.2 ?_;intro v2 w2 hown2 hg2 _ hat2)|(at_builtin;rw[show _=X12 from HX12.out.1];refine wpList_append_own_at _ rfl _ _ 38 rfl (R+1) 9 i0 _ 1 16 Tryz.underlying38 hi0 hz0 hz1 hz2 rfl (by decide) _ _ _ rfl hrowA ad bl.length bc (flS bl) rfl hfl hnws hn1 (by unfold maxLen;omega) (by omega) hX12s ?_;intro v1 w1 hown1 hg1 _ hat1;rw[Nat.zero_add,List.nil_append]at hown1;obtain⟨va1,vc1,rfl⟩:=rsl hown1;have hnews2:=NEWS.out w1 hg1))
     have hst2:StrAt w2 v2 (bl++(vs++[t1.t])):=by
      refine y0m (base:=R+1) (ty:=9) ?_
      rw[jL,show (vs++[t1.t]).length=k+1 by simp[HK.out],show flS (bl++(vs++[t1.t]))=flS bl++flS (vs++[t1.t]) by simp[flS]]
      exact hown2
     obtain⟨l3,hl3⟩:∃x,wantL [58] (wantL [93] r1 B1) (wantB D [93] r1 B1)=x:=⟨_,rfl⟩
     obtain⟨bd3,hbd3⟩:∃x,wantB D [58] (wantL [93] r1 B1) (wantB D [93] r1 B1)=x:=⟨_,rfl⟩
     have hd12:=H12.out.1
     rw[hl3,hbd3]at hd12
     have HL3:=hid (And.intro hl3 hbd3)
     clear hl3 hbd3
     have hl3r:l3.length<=r1.length:=by
      rw[<-HL3.out.1]
      have w1:∀(m:jU) (l:List Tk) (b:Int),(wantL m l b).length<=l.length:=fun m l b=>by unfold wantL;split<;>simp
      exact Nat.le_trans (w1 _ _ _) (w1 _ _ _)
     have hL1r:L1.length<=r0.length:=by
      rw[<-HE.out.1];unfold wantL;split<;>simp
     have hcnt8:=HV8.out.cnt
     have hBR:=H12.out.2.1.BR
     have hRX:=H12.out.2.1.lt
     have hon1:Only [W12.heap.size] X12 w1:=Only.of_grown hg1 (fun r hr=>by cases hr;simp)
     have hv1b:∀g,(Value.slice va1 bl.length vc1).ownBlock=some g->R+1<=g∧W12.heap.size<=g:=fun g hg=>⟨(rbk hown1 hg).1,by
      rcases hat1 with h1|h1
      ·rw[h1]at hg;cases hg;exact jJ _
      ·rw[h1]at hg;cases hg;exact HX12.out.2.size⟩
     have hg3:w1.grownBy w2 (Value.slice va1 bl.length vc1).ownBlock:=hg2
     have hon2:Only (Value.slice va1 bl.length vc1).ownBlock.toList w1 w2:=⟨hg3.os,hg3.tape,hg3.output,hg3.size,fun k hk hn=>hg3.block k hk (fun e=>hn (by rw[<-e];simp))⟩
     have hd2:=((hd12.keep HX12.out.2).turn2 hon1 (by simp;omega) (by simp;omega)).turn2 hon2 (fun hm=>by have:=hv1b D.B (by simpa using hm);omega) (fun x hx=>by have:=hv1b x (by simpa using hx);omega)
     have hm2:=((H12.out.2.1.step (Only.of_below (B:=[D.B]) HX12.out.2)).far hon1 (by simp;omega)).far hon2 (fun x hx=>by have:=hv1b x (by simpa using hx);omega)
     have hrN:w2.ownsRow (R+1) 9 1 (.slice (some ⟨g6,0,none⟩) (k+1) vc6) (vs++[t1.t]).length (flS (vs++[t1.t])):=rkp H12.out.2.2 (fun g hg'=>by
      obtain⟨q1,cu,hcu⟩:=rbk H12.out.2.2 hg'
      have hgl:=(jG hcu).1
      exact (hon2.block g (jI (jI hgl HX12.out.2.size) hon1.size) (fun hm=>by have:=hv1b g (by simpa using hm);omega)).trans ((hon1.block g (jI hgl HX12.out.2.size) (by simp;omega)).trans (HX12.out.2.block g hgl)))
     have hvl:(vs++[t1.t]).length=k+1:=by simp[HK.out]
     have hc:=hU l3 (by simp only[jK]at hcnt8 ⊢;omega) w2 fr mn bd3 v2 (bl++(vs++[t1.t])) hd2 (fun _=>by have h1:=HBU.out;have h2:=HK.out;rw[jL,hvl];simp only[jK]at hcnt8 h1;omega) hst2
     have HN:=hid (And.intro hm2 (And.intro hrN hvl))
     clear hd12 hl3r hL1r hcnt8 hBR hRX hon1 hv1b hon2 hd2 hm2 hrN hst2 hvl hown1 hown2 hg1 hg2 hg3 hat1 hat2 hnews2
     refine hc.mono ?_
     rintro e W20 ⟨f,sl,sr,sk,l4,fr4,mn4,bd4,hT4,rfl,hf,hd20,ho20⟩
     clear hc
     obtain⟨la,lc,rfl,-,-⟩:=hf.l.slice'
     obtain⟨ra,rc,rfl,-,-⟩:=hf.r.slice'
     obtain⟨ka,kc,rfl,-,-⟩:=hf.k.slice
     have HT4:Hid (DFmR D (PU bl) (t0::r0) fr mn bd (wrapQ (if headOf (t0::r0)=2 then 7 else 8) (vs++[t1.t]) f) l4 fr4 mn4 bd4):=by
      rw[<-HL3.out.1,<-HL3.out.2]at hT4
      have hp:=HPV.out.1
      have hx1:=HX.out.1
      rw[<-HE.out.2]at hT4 hx1
      rw[<-HE.out.1]at hp
      exact DFmR.quant (l:=t0::r0) hb HH.out hx1 hp hT4
     have hm20:=HN.out.1.step ho20
     have hr20:W20.ownsRow (R+1) 9 1 (.slice (some ⟨g6,0,none⟩) (k+1) vc6) (vs++[t1.t]).length (flS (vs++[t1.t])):=rkp HN.out.2.1 (fun g hg'=>by
      obtain⟨q1,cu,hcu⟩:=rbk HN.out.2.1 hg'
      have:=hm20.BR
      exact ho20.block g (jG hcu).1 (by simp;omega))
     have hRw2:=HN.out.1.lt
     have hbA:=bbx W20 (fbox f (.slice la f.l.args.length lc) (.slice ra f.r.args.length rc) (.slice ka f.kids.length kc))
     have hzA:=(jH W20 (fbox f (.slice la f.l.args.length lc) (.slice ra f.r.args.length rc) (.slice ka f.kids.length kc))).1
     obtain⟨F,hF⟩:∃F,W20.heap.size=F:=⟨_,rfl⟩
     rw[hF]at hzA
     have hRF:R<F:=by rw[<-hF];exact hm20.lt
     have hFw:w2.heap.size<=F:=by rw[<-hF];exact ho20.size
     have HQB:Hid (QInv D w R F g6 vc6 k (if headOf (t0::r0)=2 then 7 else 8) (vs++[t1.t]) f l4 fr4 mn4 bd4 (k+1) (W20.alloc (fbox f (.slice la f.l.args.length lc) (.slice ra f.r.args.length rc) (.slice ka f.kids.length kc)))):=by
      refine⟨_,_,_,⟨hm20.step (Only.of_below hbA),by rw[List.drop_eq_nil_of_le (by rw[HN.out.2.2];exact jJ _)];exact hzA,?_,hRF⟩,hd20.keep hbA,Lx.y05 hr20 hbA,?_,HN.out.2.2⟩
      ·rw[List.drop_eq_nil_of_le (by rw[HN.out.2.2];exact jJ _)]
       exact hf.keep hbA.size (fun k hk hkl=>⟨⟨by omega,by omega⟩,hbA.block k hkl⟩)
      ·obtain⟨q1,cu,hcu⟩:=rbk hr20 rfl
       have:=(jG hcu).1
       rw[hF]at this
       exact this
     obtain⟨W21,hW21⟩:∃X,W20.alloc (fbox f (.slice la f.l.args.length lc) (.slice ra f.r.args.length rc) (.slice ka f.kids.length kc))=X:=⟨_,rfl⟩
     rw[hW21]at HQB
     have HW21:=hid hW21
     have hk63:(k:Int)<=2097155:=by omega
     clear hT4 hf hd20 ho20 hm20 hr20 hRw2 hbA hzA hRF hFw hW21
     clear hnws hnl2 hn1 hn2 hfl hfl2 hrowA hX12s hnl hlt hbB hBl hbBl hRW j1 j0 j2 hRW12 HN hU
     go_upto_region 17 with fail
     try simp only[hF]
     rw[show _=W21 from HW21.out]
     clear HW21
     go_wp2
     have HKv:(if headOf (t0::r0)=2 then (7:Int) else 8)=7:=by rw[head_q HH.out,HB1.out];rfl
     rw[HKv]at HQB HT4
     clear HKv
     obtain⟨vz,hvz⟩:∃x,vs++[t1.t]=x:=⟨_,rfl⟩
     rw[hvz]at HQB HT4
     clear hvz
     go_loopw [8] (fun v W=>∃j:Nat,v=.int .i64 ((j:Int)-1)∧j<=k+1∧Hid (QInv D w R F g6 vc6 k 7 vz f l4 fr4 mn4 bd4 j W)) (fun v _=>(intOf v+1).toNat)
     case atStart=>exact⟨k+1,by simp,jJ _,HQB.out⟩
     case round =>
      obtain⟨j,rfl,hj,HQ⟩:=hrel
      obtain⟨sl,sr,sk,hN,hd,hrow,hgF,hvz⟩:=HQ.out
      have hfm:=hN.fm
      obtain⟨la,lc,rfl,-,-⟩:=hfm.l.slice'
      obtain⟨ra,rc,rfl,-,-⟩:=hfm.r.slice'
      obtain⟨ka,kc,rfl,-,-⟩:=hfm.k.slice
      obtain⟨⟨c0,c1,c2,c3,c4,c5,c6,c7,c8⟩,-⟩:=y00 hN.box
      clear HQ hfm
      cases j with
      | zero =>
       have hT:=HT4.out
       rw[List.drop_zero]at hN c0 c1 c2 c3 c4 c5 c6 c7 c8
       generalize wrapQ 7 vz f=g at hT hN c0 c1 c2 c3 c4 c5 c6 c7 c8
       have HT:=hid hT
       obtain⟨V,hrun,HV⟩:=hN.mb.fin hd hN.fm (fun k hk=>hk.1)
       clear hT hd hN hrow
       go_wp2_with (first|(refine wsr rfl 27 _ _ rfl (.pointer (some ⟨R,0,none⟩)) (fval g (.slice la g.l.args.length lc) (.slice ra g.r.args.length rc) (.slice ka g.kids.length kc)) rfl (by kernel_rfl) hrun ?_))
       have HVC:Hid (FC9 V R (.int .i64 g.k) (.string g.nm) (.int .i64 g.l.v) (.string g.l.fn) (.slice la g.l.args.length lc) (.int .i64 g.r.v) (.string g.r.fn) (.slice ra g.r.args.length rc) (.slice ka g.kids.length kc)):=HV.out.1
       obtain⟨v0,v1,v2,v3,v4,v5,v6,v7,v8⟩:=HVC.out
       refine bodyPost_ret (v:=.agg #[.int .i64 g.k,.string g.nm,.int .i64 g.l.v,.string g.l.fn,.slice la g.l.args.length lc,.int .i64 g.r.v,.string g.r.fn,.slice ra g.r.args.length rc,.slice ka g.kids.length kc]) (by simp[results,Tryz.results140,go_sem,v0,v1,v2,v3,v4,v5,v6,v7,v8]) rfl ?_
       exact⟨g,_,_,_,l4,fr4,mn4,bd4,HT.out,rfl,HV.out.2.1,HV.out.2.2.1,HV.out.2.2.2⟩
      | succ j =>
       have hjl:j<vz.length:=by omega
       have hrow':=hrow
       rw[hvz]at hrow'
       have hrc:=y08 hrow' (y3l vz j hjl)
       obtain⟨nm,hnm⟩:∃x,ofL vz[j]=x:=⟨_,rfl⟩
       rw[hnm]at hrc
       have n0:=hrc.1
       have hwq:wrapQ 7 (vz.drop j) f=fQ 7 nm (wrapQ 7 (vz.drop (j+1)) f):=by
        rw[List.drop_eq_getElem_cons hjl,<-hnm];rfl
       obtain⟨g,hg⟩:∃g,wrapQ 7 (vz.drop (j+1)) f=g:=⟨_,rfl⟩
       rw[hg]at hN hwq c0 c1 c2 c3 c4 c5 c6 c7 c8
       have hbA:=(bbx wr (fbox g (.slice la g.l.args.length lc) (.slice ra g.r.args.length rc) (.slice ka g.kids.length kc))).drew
       have hzA:((wr.alloc (fbox g (.slice la g.l.args.length lc) (.slice ra g.r.args.length rc) (.slice ka g.kids.length kc))).drew).heap[wr.heap.size]? =some (fbox g (.slice la g.l.args.length lc) (.slice ra g.r.args.length rc) (.slice ka g.kids.length kc)):=(jH wr (fbox g (.slice la g.l.args.length lc) (.slice ra g.r.args.length rc) (.slice ka g.kids.length kc))).1
       obtain⟨XA,hXA⟩:∃X,(wr.alloc (fbox g (.slice la g.l.args.length lc) (.slice ra g.r.args.length rc) (.slice ka g.kids.length kc))).drew=X:=⟨_,rfl⟩
       rw[hXA]at hbA hzA
       have hNA:=hN.keep hbA
       have hFl:=hN.lt
       have hRF:=hN.RF
       have hBR:=hN.mb.BR
       have hKd:=y27 hzA (P:=fun k=>R<k∧k≠F) ⟨by omega,by omega⟩ hNA.fm
       obtain⟨V,hrun,hV,oV⟩:=y0g (f:=fQ 7 nm g) (P:=fun k=>R<k∧k≠F) (X:=XA) rfl hNA.box rfl ⟨ArgsP.nil _ _,ArgsP.nil _ _,hKd⟩
       have hgl:g6<wr.heap.size:=by
        obtain⟨q1,cu,hcu⟩:=rbk hrow rfl
        exact (jG hcu).1
       have hsame:∀x,x<wr.heap.size->x≠F->V.heap[x]? =wr.heap[x]?:=fun x hx hxF=>(oV.block x (jI hx hbA.size) (by simpa using hxF)).trans (hbA.block x hx)
       have nA:XA.cell? ⟨g6,j,none⟩=some (.string nm):=(World.cell?_of_block (a:=⟨g6,j,none⟩) (hbA.block g6 hgl)).trans n0
       have nV:V.cell? ⟨g6,j,none⟩=some (.string nm):=(World.cell?_of_block (a:=⟨g6,j,none⟩) (hsame g6 hgl (by omega))).trans n0
       have HQV:Hid (QInv D w R F g6 vc6 k 7 vz f l4 fr4 mn4 bd4 j V):=by
        refine⟨_,_,_,⟨hNA.mb.far oV (by simp;omega),by rw[hwq];exact hV,?_,hRF⟩,(hd.keep hbA).turn2 oV (by simp;omega) (by simp;omega),rkp hrow (fun x hx=>?_),hgF,hvz⟩
        ·rw[hwq]
         exact⟨ArgsP.nil _ _,ArgsP.nil _ _,hKd.keep oV.size (fun k hk hkl=>⟨hk,oV.block k hkl (by simpa using hk.2)⟩)⟩
        ·cases hx
         exact hsame g6 hgl (by omega)
       have HXA:=hid hXA
       have jk:(j:Int)<(k:Int)+1:=by omega
       have jk0:(0:Int)<=(j:Int):=by omega
       have jk1:j<k+1:=by omega
       have hwr:wr.drew.cell? ⟨g6,j,none⟩=some (.string nm):=n0
       clear hbA hzA hXA hNA hFl hRF hBR hKd hV oV hgl hsame hN hd hrow hrow' hrc hwq hg
       go_wp2
       refine wp_region_held_drew (S:=fun X=>X.cell? ⟨g6,j,none⟩=some (.string nm)) (by kernel_rfl) hwr (fun hH=>?_)
       refine Lx.tk 0 (.int .i64 7) rfl (Or.inl ⟨by rfl,?_⟩) ?_
       ·intro w hSw;(try dsimp only at hSw);go_simp
       try simp only[Act.put,jM]
       refine Lx.tk 1 (.slice (some ⟨g6,0,none⟩) (k+1) vc6) rfl (Or.inl ⟨by rfl,?_⟩) ?_
       ·intro w hSw;(try dsimp only at hSw);go_simp
       try simp only[Act.put,jM]
       refine Lx.tk 2 (.int .i64 (j:Nat)) rfl (Or.inl ⟨by rfl,?_⟩) ?_
       ·intro w hSw;(try dsimp only at hSw);go_simp
       try simp only[Act.put,jM]
       refine Lx.tk 3 (.pointer (some ⟨g6,j,none⟩)) rfl (Or.inl ⟨by rfl,?_⟩) ?_
       ·intro w hSw;(try dsimp only at hSw);go_simp
       try simp only[Act.put,jM]
       refine Lx.tk 4 (.string nm) rfl (Or.inl ⟨by rfl,?_⟩) ?_
       ·intro w hSw;(try dsimp only at hSw);go_simp
       try simp only[Act.put,jM]
       refine wpAnyH_ready (rs:=[5]) (by kernel_rfl) (by simp) ?_
       refine AllReadyH.cons rfl (fun K hK=>?_) AllReadyH.nil
       go_simp
       refine hK.out _ _ hwr (fun hH=>?_)
       clear hK K
       try simp only[Act.put,jA,jB,jC,jM]
       refine wpAnyH_ready (rs:=[6]) (by kernel_rfl) (by simp) ?_
       refine AllReadyH.cons rfl (fun K hK=>?_) AllReadyH.nil
       go_simp
       try rw[show _=XA from HXA.out]
       refine hK.out _ _ nA (fun hH=>?_)
       clear hK K
       try simp only[Act.put,jA,jB,jC,jM]
       refine Lx.tk 7 (.agg #[.int .i64 7,.string nm,.int .i64 0,.string ⟨#[]⟩,.slice none 0 0,.int .i64 0,.string ⟨#[]⟩,.slice none 0 0,.slice (some ⟨wr.heap.size,0,none⟩) 1 1]) rfl (Or.inl ⟨by rfl,?_⟩) ?_
       ·intro w hSw;(try dsimp only at hSw);go_simp
       try simp only[Act.put,jM]
       refine wpAnyH_ready (rs:=[8]) (by kernel_rfl) (by simp) ?_
       refine AllReadyH.cons rfl (fun K hK=>?_) AllReadyH.nil
       rw[if_pos (by rfl)]
       refine Lx.y02 27 (.tmp 7) (.tmp 82) rfl _ _ rfl (by kernel_rfl) hrun ?_
       refine hK.out _ _ nV (fun hH=>?_)
       clear hK K
       try simp only[Act.put,jA,jB,jC]
       refine wpAnyH_done (by kernel_rfl) ?_ _
       go_wp2
       go_roundw
       case rel=>exact⟨j,by simp,by omega,HQV.out⟩
       case measure=>first|(simp[intOf];done)|(simp[intOf];omega)
end
