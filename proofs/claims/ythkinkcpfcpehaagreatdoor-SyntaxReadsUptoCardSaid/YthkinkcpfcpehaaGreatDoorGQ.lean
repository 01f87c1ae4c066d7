import Derived.Test.YthkinkcpfcpehaaGreatDoorZM
import Derived.Test.YthkinkcpfcpehaaGreatDoorGP
namespace Go.Proofs.YthkinkcpfcpehaaGreatDoor
set_option maxRecDepth 100000
set_option maxHeartbeats 16000000
open Go.RowKit Go.Maps
open Lx (Tk ofL KsAt y0a wsr rbk rkp rsl lit3)
theorem y4z {a b:List Tk}(h:frV a=frV b)(c:List Tk):frV (a++c)=frV (b++c):=by
 cases a with
 | nil =>
  cases b with
  | nil=>rfl
  | cons t r=>exact absurd h (by have:=frV_pos t r;have:=frV_neg;intro e;rw[e]at this;contradiction)
 | cons t r =>
  cases b with
  | nil=>exact absurd h (by have:=frV_pos t r;have:=frV_neg;intro e;rw[e]at *;contradiction)
  | cons t' r'=>exact h
theorem wides_append (a b:List T):wideT.wides (a++b)=(wideT.wides a||wideT.wides b):=by
 induction a with
 | nil=>simp[wideT.wides]
 | cons x r ih=>rw[List.cons_append,wideT.wides,wideT.wides,ih,Bool.or_assoc]
def ARel (D:DE)(bl:List jU)(r0 fr:List Tk)(mn:Bool)(bd:Int)(zs:List (T × Value))(q fr':List Tk)(mn':Bool)(bd':Int):Prop:=
 (bd'<0->∃fx,Goes bl r0 (zs.map (·.1)) fx q∧frV fr'=frV (fr++fx)∧mn'=(mn||wideT.wides (zs.map (·.1)))∧bd'=bd∧zs.length+q.length<=r0.length)∧
 (¬bd'<0->∃q',PTs bl r0 (.no q')∧bd'=(plc D.n q':Nat))∧zs.length<=r0.length+1
section
variable {D : DE} {w : World} {l r fr : List Tk} {t : Tk} {mn : Bool} {bd : Int}
theorem ARel.first {bl:List jU}{r0:List Tk}(hb:bd<0){t:T}{sl:Value}{l' fr':List Tk}{mn':Bool}{bd':Int}(h:DTermR D bl r0 fr mn bd t l' fr' mn' bd'):ARel D bl r0 fr mn bd [(t,sl)] l' fr' mn' bd':=by
 rcases h.1 hb with⟨fx,hp,hf,hm,rfl⟩|⟨q,hp,rfl⟩
 ·refine⟨fun _=>⟨fx,Goes.start hp,hf,by rw[hm];simp[wideT.wides],rfl,?_⟩,fun hn=>absurd hb hn,by simp⟩
  have:=hp.len
  simp;omega
 ·exact⟨fun hn=>by omega,fun _=>⟨q,PTs.first_no hp,rfl⟩,by simp⟩
theorem ARel.next {bl:List jU}{r0 q fr1:List Tk}{mn1:Bool}{bd1:Int}{zs:List (T × Value)}(hA:ARel D bl r0 fr mn bd zs q fr1 mn1 bd1)(hb:bd1<0)(hm:isM [44] q=true){t:T}{sl:Value}{l' fr':List Tk}{mn':Bool}{bd':Int}(h:DTermR D bl q.tail fr1 mn1 bd1 t l' fr' mn' bd'):ARel D bl r0 fr mn bd (zs++[(t,sl)]) l' fr' mn' bd':=by
 obtain⟨fx,hG,hf,hmn,rfl,hc⟩:=hA.1 hb
 have htl:=y1a hm
 rcases h.1 hb with⟨fx',hp,hf',hm',rfl⟩|⟨q',hp,rfl⟩
 ·have hpl:=hp.len
  refine⟨fun _=>⟨fx++fx',by simpa using hG.step hm hp,?_,?_,rfl,?_⟩,fun hn=>absurd hb hn,?_⟩
  ·rw[hf',<-List.append_assoc];exact y4z hf fx'
  ·rw[hm',hmn,List.map_append,wides_append];simp[wideT.wides,Bool.or_assoc]
  ·simp;omega
  ·simp;omega
 ·exact⟨fun hn=>by omega,fun _=>⟨q',hG.stop hm hp,rfl⟩,by simp;omega⟩
theorem StrAt.only {W W':World}{bv:Value}{bl:List jU}(h:StrAt W bv bl)(hd:DS D W l fr mn bd)(ho:Only [D.B] W W'):StrAt W' bv bl:=by
 obtain⟨a,c,rfl,h1,h2,h3⟩:=h
 refine⟨a,c,rfl,h1,h2,fun h0=>?_⟩
 obtain⟨b,o,hl,rfl,hc⟩:=h3 h0
 have hne:b≠D.B:=by
  rintro rfl
  have hx:=hc 0 h0
  have hb:=hd.box
  simp only[World.cell?,hb,Nat.add_zero]at hx
  match o,hx with
  | 0,hx=>simp at hx
  | 1,hx=>simp at hx
  | 2,hx=>simp at hx
  | 3,hx=>simp at hx
  | 4,hx=>simp at hx
  | 5,hx=>simp at hx
  | (n + 6), hx => simp at hx
 exact⟨b,o,jI hl ho.size,rfl,fun i hi=>(World.cell?_of_block (a:=⟨b,o+i,none⟩) (ho.block b hl (by simpa using hne))).trans (hc i hi)⟩
theorem TBx.fin {R O:Nat}{tx:ByteArray}{v:Value}{Z:World}{ts:List T}{P:Nat->Prop}(h:TBx D w R O tx v Z)(hd:DS D Z l fr mn bd)(ha:ArgsP P Z v ts)(hP:∀k,P k->R<k) :
  (Z.cell? ⟨O,0,none⟩=some (.int .i64 0)∧Z.cell? ⟨O,1,none⟩=some (.string tx)∧Z.cell? ⟨O,2,none⟩=some v)∧∃V,
    (Instr.storeAt 24 (.pointer (some ⟨R,0,none⟩)) (.agg #[.int .i64 0,.string tx,v])).run Tryz.prog Z=.ok () V∧
    Hid ((V.cell? ⟨R,0,none⟩=some (.int .i64 0)∧V.cell? ⟨R,1,none⟩=some (.string tx)∧V.cell? ⟨R,2,none⟩=some v)∧DS D V l fr mn bd∧Only [D.B] w V∧ArgsP (fun k=>w.heap.size<=k) V v ts):=by
 obtain⟨V,hrun2,hV,oV⟩:=y2r (t:=.mk 0 tx ts) (P:=P) (X:=Z) h.res rfl ha
 have hBR:=h.BR
 have hwR:=h.wR
 refine⟨(y09 h.out).1,V,hrun2,(y09 hV).1,hd.turn2 oV (by simp;omega) (by simp;omega),h.on.fresh oV (Nat.le_of_eq h.wR),ha.keep oV.size (fun k hk hkl=>⟨by have:=hP k hk;omega,oV.block k hkl (by have:=hP k hk;simp;omega)⟩)⟩
theorem DS.setMany (h:DS D w l fr mn bd)(b:Bool):DS D (w.setCell ⟨D.B,4,none⟩ (.bool b)) l fr b bd∧Only [D.B] w (w.setCell ⟨D.B,4,none⟩ (.bool b)):=by
 have e1:=heap_setCell_same w D.B 4 _ 100 (.bool b) h.box
 have ho:=y07 (Below.refl _ w) D.B 4 (.bool b)
 exact⟨h.turn h.suf (by simpa using e1) ho,ho⟩
theorem ABx.all {R O:Nat}{tx:ByteArray}{zs:List (T × Value)}{v:Value}{Z:World}(h:ABx D w R O tx zs v Z):ArgsP (fun k=>R<k) Z v (zs.map (·.1)):=by
 have hRO:=h.bx.RO
 exact y40 h.row (fun g hg=>by have:=(rbk h.row hg).1;show R<g;omega) (fun p hp=>(h.args p hp).keep (jJ _) (fun k hk _=>⟨by have:=hk.1;show R<k;omega,rfl⟩))
theorem ARel.fin (htk:(ofL t.t).size<=63){bl:List jU}{t1:Tk}{r1 q fr':List Tk}{zs:List (T × Value)}{mn':Bool}{bd':Int}(hb:bd<0)(hk:t.k=1)(hm1:isM [40] (t1::r1)=true)(hA:ARel D bl r1 fr mn bd zs q fr' mn' bd')(hx:(decide (bd'<0)&&isM [44] q)=false) :
  DTermR D bl (t::t1::r1) fr mn bd (.mk 0 (ofL t.t) (zs.map (·.1))) (wantL [41] q bd') fr' (mn'||decide (16<zs.length)) (wantB D [41] q bd'):=by
 refine⟨fun _=>?_,fun hn=>absurd hb hn,htk⟩
 by_cases hb':bd'<0
 ·rw[decide_eq_true hb',Bool.true_and]at hx
  obtain⟨fx,hG,hf,hmn,rfl,hc⟩:=hA.1 hb'
  have hp:=hG.last hx
  cases h41:isM [41] q with
  | true =>
   refine .inl ⟨fx,?_,hf,?_,by unfold wantB;rw[decide_eq_true hb',h41];rfl⟩
   ·have:=PT.fn hk hm1 hp h41
    unfold wantL
    rw[decide_eq_true hb',h41]
    exact this
   ·rw[hmn,wideT,List.length_map,Bool.or_assoc,Bool.or_comm (wideT.wides _)]
  | false =>
   refine .inr ⟨q,PT.fn_no hk hm1 hp h41,?_⟩
   unfold wantB badV
   rw[decide_eq_true hb',h41,if_pos hb']
   rfl
 ·obtain⟨q',hp,rfl⟩:=hA.2.1 hb'
  refine .inr ⟨q',PT.args_no hk hm1 hp,?_⟩
  unfold wantB badV
  rw[decide_eq_false hb',if_neg hb']
  rfl
def CutV (Q:Exit->Act->World->Prop)(A:Value->Value->Value->Act)(I:World->Prop):Exit->Act->World->Prop
 | .normal,a',w'=>∃u v x,a'=A u v x∧I w'
 | e,a',w'=>Q e a' w'
theorem CutV.imp {Q:Exit->Act->World->Prop}{A:Value->Value->Value->Act}{I:World->Prop}(hQ:∀u v x w',I w'->Q .normal (A u v x) w'):∀(e:Exit)(a:Act)(w:World),CutV Q A I e a w->Q e a w:=fun e a w h=>by
 cases e<;>first|exact h|(obtain⟨u,v,x,rfl,hI⟩:=h;exact hQ u v x w hI)
theorem wp_cutV {P:Program}{id:Nat}{ops:Array Oper}{b:Bool}{Q:Exit->Act->World->Prop}{a:Act}{w:World}(A:Value->Value->Value->Act)(I:World->Prop)(h:(Code.region id ops b).wp P (CutV Q A I) a w)(hQ:∀u v x w',I w'->Q .normal (A u v x) w'):(Code.region id ops b).wp P Q a w:=Code.wp_mono (CutV.imp hQ) h
theorem CutV.normal {Q:Exit->Act->World->Prop}{A:Value->Value->Value->Act}{I:World->Prop}{a:Act}{w:World}(u v x:Value)(ha:a=A u v x)(h:I w):CutV Q A I .normal a w:=⟨u,v,x,ha,h⟩
def cntW (O:Nat)(W:World):Nat:=match W.cell? ⟨O,2,none⟩ with|some (.slice _ n _)=>n|_=>0
theorem ABx.cnt {R O:Nat}{tx:ByteArray}{zs:List (T × Value)}{va:Option Addr}{n vc:Nat}{Z:World}(h:ABx D w R O tx zs (.slice va n vc) Z):cntW O Z=n:=by
 have:=cst (vs:=[_,_,_]) (i:=2) h.bx.out rfl
 unfold cntW
 rw[this]
def AInv (D:DE)(w:World)(R O:Nat)(tx:ByteArray)(bl:List jU)(r1 fr:List Tk)(mn:Bool)(bd:Int)(W:World):Prop:=
 ∃zs v q fr' mn' bd',1<=zs.length∧ABx D w R O tx zs v W∧DS D W q fr' mn' bd'∧ARel D bl r1 fr mn bd zs q fr' mn' bd'
theorem dterm_name (h:DS D w (t::r) fr mn bd)(hb:bd<0)(hk:t.k=1){bv:Value}{bl:List jU}(hs:StrAt w bv bl)
  (IH:∀l':List Tk,l'.length<=r.length->∀(X:World) (fr:List Tk) (mn:Bool) (bd:Int),DS D X l' fr mn bd->StrAt X bv bl->Calls Tryz.prog 178 #[.pointer (some ⟨D.B,0,none⟩),bv] X (DTermP D X bl l' fr mn bd)) :
  Calls Tryz.prog 178 #[.pointer (some ⟨D.B,0,none⟩),bv] w (DTermP D w bl (t::r) fr mn bd):=by
 have hb0:=bbx w (.cells #[.int .i64 0,.string ⟨#[]⟩,.slice none 0 0] 24)
 have hz0:=(jH w (.cells #[.int .i64 0,.string ⟨#[]⟩,.slice none 0 0] 24)).1
 have h0:=h.keep hb0
 have hkd:=y15 h0 2
 rw[show (decide (bd<0)&&isK 2 (t::r))=false by rw[isK,hk];simp]at hkd
 obtain⟨W0,hW0⟩:∃X,w.alloc (.cells #[.int .i64 0,.string ⟨#[]⟩,.slice none 0 0] 24)=X:=⟨_,rfl⟩
 rw[hW0]at hb0 hz0 h0 hkd
 obtain⟨R,hR⟩:∃R,w.heap.size=R:=⟨_,rfl⟩
 rw[hR]at hz0
 have H0:=hid (And.intro h0 (And.intro hb0 (And.intro hz0 (jG hz0).1)))
 have HS:=hid hs
 have HLN0:Hid ((ofL t.t).size<=63):=(h0.toks t (List.mem_cons_self ..)).len63
 have HIH:=hid IH
 have HW0:=hid hW0
 have HR:=hid hR
 have HRB:Hid (D.B<R):=by show D.B<R;rw[<-hR];exact h.lt
 have HSW:Hid (∀Z,Only [D.B] w Z->StrAt Z bv bl):=fun Z ho=>hs.only h ho
 clear h hb0 hz0 h0 hW0 hs IH
 go_enter Tryz.func178,Tryz.ntmps178
 go_upto_region 1 with fail
 try simp only[hR]
 rw[show _=W0 from HW0.out]
 go_wp2_with fail
 refine hkd.mono ?_
 rintro e W1 ⟨rfl,hb1⟩
 have h1:=H0.out.1.keep hb1
 have hk1:=y15 h1 1
 rw[show (decide (bd<0)&&isK 1 (t::r))=true by rw[decide_eq_true hb,isK,decide_eq_true hk];rfl]at hk1
 have H1:=hid (And.intro h1 hb1)
 clear hkd h1 hb1
 go_wp2_with fail
 refine hk1.mono ?_
 rintro e W2 ⟨rfl,hb2⟩
 have h2:=H1.out.1.keep hb2
 have hb02:Below W0.heap.size W0 W2:=H1.out.2.trans (hb2.mono H1.out.2.size)
 obtain⟨⟨x0,x1,-,-,-,-⟩,-⟩:=h2.cells
 obtain⟨b,o,ea,hlt,c0,c1,c2⟩:=h2.at_
 have hbB:b<W2.heap.size:=Nat.lt_trans hlt h2.lt
 have hBl:=h2.lt
 have hlen:=h2.len
 rw[ea]at x0
 rw[show D.L.length-(t::r).length=D.L.length-(r.length+1) by simp]at x1
 obtain⟨i,hi⟩:∃i,D.L.length-(r.length+1)=i:=⟨_,rfl⟩
 obtain⟨N,hN⟩:∃N,D.L.length=N:=⟨_,rfl⟩
 have j1:(i:Int)<(N:Int):=by simp only[jK]at hlen;omega
 have j0:(0:Int)<=(i:Int):=by omega
 have j2:i<N:=by omega
 rw[hi]at x1 c0 c1 c2
 rw[hN]at x0
 obtain⟨tx,htx⟩:∃x,ofL t.t=x:=⟨_,rfl⟩
 rw[htx]at c2
 have HC:Hid (∀X,Below W2.heap.size W2 X->X.cell? ⟨D.B,0,none⟩=some (.slice (some ⟨b,o,none⟩) N D.c)∧X.cell? ⟨D.B,1,none⟩=some (.int .i64 (i:Nat))∧X.cell? ⟨b,o+i*3+2,none⟩=some (.string tx)):=by
  intro X hX
  have k:∀{n j v},n<W2.heap.size->W2.cell? ⟨n,j,none⟩=some v->X.cell? ⟨n,j,none⟩=some v:=fun {n j v} hn hc=>(World.cell?_of_block (a:=⟨n,j,none⟩) (hX.block n hn)).trans hc
  exact⟨k hBl x0,k hBl x1,k hbB c2⟩
 have H2:=hid (And.intro h2 (And.intro hb02 htx))
 clear hk1 hb2 h2 x0 x1 c0 c1 c2 ea hlen hi hN htx hbB hBl hlt hb02 H1
 have hX:=(bbx W2 (.cells #[.int .i64 0,.string ⟨#[]⟩,.slice none 0 0] 24)).drew
 have hzX:((W2.alloc (.cells #[.int .i64 0,.string ⟨#[]⟩,.slice none 0 0] 24)).drew).heap[W2.heap.size]? =some (.cells #[.int .i64 0,.string ⟨#[]⟩,.slice none 0 0] 24 (0,0)):=(jH W2 (.cells #[.int .i64 0,.string ⟨#[]⟩,.slice none 0 0] 24)).1
 obtain⟨X1,hX1⟩:∃X,(W2.alloc (.cells #[.int .i64 0,.string ⟨#[]⟩,.slice none 0 0] 24)).drew=X:=⟨_,rfl⟩
 rw[hX1]at hX hzX
 obtain⟨Y,hrun,hY,hYo⟩:=y2r (t:=.mk 0 tx []) (P:=fun _=>True) (X:=X1) hzX rfl (ArgsP.nil _ X1)
 have hbY:Below W2.heap.size W2 Y:=hX.trans (Only.below hYo (Nat.le_of_lt (jG hzX).1) (by simp))
 have HY:Hid (Y.heap[W2.heap.size]? =some (.cells #[.int .i64 0,.string tx,.slice none 0 0] 24 (0,0))∧Below W2.heap.size W2 Y):=⟨hY,hbY⟩
 have HXb:Hid (Below W2.heap.size W2 X1):=hX
 have HX1:=hid hX1
 clear hY hYo hbY hX hzX hX1
 go_wp2
 refine wp_region_held_drew (S:=fun X=>Below W2.heap.size W2 X) (by kernel_rfl) (Below.refl _ _).drew (fun hH=>?_)
 refine Lx.tk 0 (.pointer (some ⟨D.B,0,none⟩)) rfl (Or.inl ⟨by rfl,?_⟩) ?_
 ·intro w hSw;obtain⟨g0,g1,g2⟩:=HC.out w hSw;(try dsimp only at hSw);go_simp
 try simp only[Act.put,jM]
 refine Lx.tk 1 (.pointer (some ⟨D.B,0,none⟩)) rfl (Or.inl ⟨by rfl,?_⟩) ?_
 ·intro w hSw;obtain⟨g0,g1,g2⟩:=HC.out w hSw;(try dsimp only at hSw);go_simp
 try simp only[Act.put,jM]
 refine Lx.tk 2 (.pointer (some ⟨D.B,0,none⟩)) rfl (Or.inl ⟨by rfl,?_⟩) ?_
 ·intro w hSw;obtain⟨g0,g1,g2⟩:=HC.out w hSw;(try dsimp only at hSw);go_simp
 try simp only[Act.put,jM]
 refine Lx.tk 3 (.slice (some ⟨b,o,none⟩) N D.c) rfl (Or.inl ⟨by rfl,?_⟩) ?_
 ·intro w hSw;obtain⟨g0,g1,g2⟩:=HC.out w hSw;(try dsimp only at hSw);go_simp
 try simp only[Act.put,jM]
 refine Lx.tk 4 (.pointer (some ⟨D.B,0,none⟩)) rfl (Or.inl ⟨by rfl,?_⟩) ?_
 ·intro w hSw;obtain⟨g0,g1,g2⟩:=HC.out w hSw;(try dsimp only at hSw);go_simp
 try simp only[Act.put,jM]
 refine Lx.tk 5 (.pointer (some ⟨D.B,0,none⟩)) rfl (Or.inl ⟨by rfl,?_⟩) ?_
 ·intro w hSw;obtain⟨g0,g1,g2⟩:=HC.out w hSw;(try dsimp only at hSw);go_simp
 try simp only[Act.put,jM]
 refine Lx.tk 6 (.pointer (some ⟨D.B,1,none⟩)) rfl (Or.inl ⟨by rfl,?_⟩) ?_
 ·intro w hSw;obtain⟨g0,g1,g2⟩:=HC.out w hSw;(try dsimp only at hSw);go_simp
 try simp only[Act.put,jM]
 refine Lx.tk 7 (.int .i64 (i:Nat)) rfl (Or.inl ⟨by rfl,?_⟩) ?_
 ·intro w hSw;obtain⟨g0,g1,g2⟩:=HC.out w hSw;(try dsimp only at hSw);go_simp
 try simp only[Act.put,jM]
 refine Lx.tk 8 (.pointer (some ⟨b,o+i*3,none⟩)) rfl (Or.inl ⟨by rfl,?_⟩) ?_
 ·intro w hSw;obtain⟨g0,g1,g2⟩:=HC.out w hSw;(try dsimp only at hSw);go_simp
 try simp only[Act.put,jM]
 refine Lx.tk 9 (.pointer (some ⟨b,o+i*3+2,none⟩)) rfl (Or.inl ⟨by rfl,?_⟩) ?_
 ·intro w hSw;obtain⟨g0,g1,g2⟩:=HC.out w hSw;(try dsimp only at hSw);go_simp
 try simp only[Act.put,jM]
 refine Lx.tk 10 (.string tx) rfl (Or.inl ⟨by rfl,?_⟩) ?_
 ·intro w hSw;obtain⟨g0,g1,g2⟩:=HC.out w hSw;(try dsimp only at hSw);go_simp
 try simp only[Act.put,jM]
 refine Lx.tk 11 (.agg #[.int .i64 0,.string tx,.slice none 0 0]) rfl (Or.inl ⟨by rfl,?_⟩) ?_
 ·intro w hSw;obtain⟨g0,g1,g2⟩:=HC.out w hSw;(try dsimp only at hSw);go_simp
 try simp only[Act.put,jM]
 refine wpAnyH_ready (rs:=[12]) (by kernel_rfl) (by simp) ?_
 refine AllReadyH.cons rfl (fun K hK=>?_) AllReadyH.nil
 go_simp
 rw[show _=X1 from HX1.out]
 refine hK.out _ _ HXb.out (fun hH=>?_)
 clear hK K
 try simp only[Act.put,jA,jB,jC,jM]
 refine wpAnyH_ready (rs:=[13]) (by kernel_rfl) (by simp) ?_
 refine AllReadyH.cons rfl (fun K hK=>?_) AllReadyH.nil
 rw[if_pos (by rfl)]
 refine Lx.y02 24 _ _ rfl (.pointer (some ⟨W2.heap.size,0,none⟩)) (.agg #[.int .i64 0,.string tx,.slice none 0 0]) rfl rfl hrun ?_
 refine hK.out _ _ HY.out.2 (fun hH=>?_)
 clear hK K
 try simp only[Act.put,jA,jB,jC]
 refine wpAnyH_done (by kernel_rfl) ?_ _
 obtain⟨O,hO⟩:∃O,W2.heap.size=O:=⟨_,rfl⟩
 have hYb:=HY.out.2
 have hYd:DS D Y (t::r) fr mn bd:=H2.out.1.keep hYb
 have hbw:Below w.heap.size w Y:=H0.out.2.1.trans ((H2.out.2.1.mono H0.out.2.1.size).trans (hYb.mono (Nat.le_trans H0.out.2.1.size H2.out.2.1.size)))
 have hYO:=HY.out.1
 rw[hO]at hYO
 have hRY:Y.heap[R]? =some (.cells #[.int .i64 0,.string ⟨#[]⟩,.slice none 0 0] 24 (0,0)):=(hYb.block R (jI H0.out.2.2.2 H2.out.2.1.size)).trans ((H2.out.2.1.block R H0.out.2.2.2).trans H0.out.2.2.1)
 have hAB:ABx D w R O tx [] (.slice none 0 0) Y:=⟨⟨hRY,hYO,HRB.out,by rw[<-hO];exact jI H0.out.2.2.2 H2.out.2.1.size,Only.of_below hbw,HR.out⟩,⟨rfl,.inl ⟨rfl,rfl⟩⟩,fun p hp=>by cases hp⟩
 have hYd':=hYd
 obtain⟨i2,-,e1,ef,ew,hE,oE⟩:=hYd.eat
 have hsY:StrAt Y bv bl:=HS.out.keep hbw
 have hAB2:=hAB.step oE
 have HTX:=hid H2.out.2.2
 rw[hO]
 obtain⟨Y2,hY2⟩:∃X,Y.setCell ⟨D.B,1,none⟩ (.int .i64 ((i2:Int)+1))=X:=⟨_,rfl⟩
 rw[hY2]at hE oE hAB2
 have HY2:=hid hY2
 have his:=y16 hE [40]
 rw[show (decide (bd<0)&&isM [40] r)=isM [40] r by rw[decide_eq_true hb];rfl]at his
 have HD2:=hid (And.intro hE (And.intro hAB2 oE))
 have hE':=hE
 have HSY:=hid (hsY.only hYd' oE)
 clear hYb hYd hYd' hbw hYO hRY hAB hE oE hAB2 hY2 hsY HY HX1 HXb HC H2 H0 hrun hH hO
 have hLr:r.length<=2097155:=by have h1:=hE'.len;have h2:=hE'.mx;omega
 obtain⟨i0,hi0,hz0,hz1,hz2⟩:=info_parts info24
 cases hm1:isM [40] r with
 | false =>
  rw[hm1]at his
  have hp:=PT.const (bd:=bl) hk hm1
  rw[HTX.out]at hp
  have HT:Hid (DTermR D bl (t::r) fr mn bd (.mk 0 tx []) r fr mn bd):=⟨fun _=>.inl ⟨[],hp,by rw[List.append_nil],by rw[wideT,wideT.wides];simp,rfl⟩,fun _=>rfl,by have:=HLN0.out;rwa [HTX.out]at this⟩
  clear hp hm1 hi0 hz0 hz1 hz2
  go_upto_region 12 with fail
  rw[show _=Y2 from HY2.out]
  go_wp2_with fail
  refine his.mono ?_
  rintro e Y3 ⟨rfl,hb3⟩
  have hE3:=HD2.out.1.keep hb3
  have hA3:=HD2.out.2.1.step (Only.of_below (B:=[D.B]) hb3)
  obtain⟨⟨o0,o1,o2⟩,V,hrun2,HV⟩:=hA3.bx.fin hE3 (ArgsP.nil (fun k=>R<k) Y3) (fun k hk=>hk)
  clear his hb3 hE3 hA3
  go_wp2_with (first|(refine wsr rfl 24 _ _ rfl (.pointer (some ⟨R,0,none⟩)) (.agg #[.int .i64 0,.string tx,.slice none 0 0]) rfl rfl hrun2 ?_))
  refine bodyPost_ret (v:=.agg #[.int .i64 0,.string tx,.slice none 0 0]) (by simp[results,Tryz.results178,go_sem,HV.out.1.1,HV.out.1.2.1,HV.out.1.2.2]) rfl ?_
  exact⟨.mk 0 tx [],_,r,fr,mn,bd,HT.out,rfl,ArgsP.nil _ _,HV.out.2.1,HV.out.2.2.1⟩
 | true =>
  rw[hm1]at his
  obtain⟨t1,r1,rfl,_,_⟩:=y03 hm1
  have HM1:=hid hm1
  clear hm1
  go_upto_region 12 with fail
  rw[show _=Y2 from HY2.out]
  go_wp2_with fail
  refine his.mono ?_
  rintro e Y3 ⟨rfl,hb3⟩
  have hE3:=HD2.out.1.keep hb3
  have hA3:=HD2.out.2.1.step (Only.of_below (B:=[D.B]) hb3)
  have hs3:=HSY.out.keep hb3
  obtain⟨i4,-,e4,f4,w4,hE4,oE4⟩:=hE3.eat
  have hA4:=hA3.step oE4
  have hs4:=hs3.only hE3 oE4
  obtain⟨Y4,hY4⟩:∃X,Y3.setCell ⟨D.B,1,none⟩ (.int .i64 ((i4:Int)+1))=X:=⟨_,rfl⟩
  rw[hY4]at hE4 oE4 hA4 hs4
  have HY4:=hid hY4
  clear his hb3 hE3 hA3 hs3 oE4 hY4 HD2 HSY HY2 e1 ef ew
  go_upto_region 15 with fail
  rw[show _=Y4 from HY4.out]
  clear HY4 e4 f4 w4
  have o2:Y4.cell? ⟨O,2,none⟩=some (.slice none 0 0):=cst (vs:=[_,_,_]) (i:=2) hA4.bx.out rfl
  have hc:=HIH.out r1 (by simp) Y4.drew _ _ _ (hE4.keep (Below.refl _ Y4).drew) (hs4.keep (Below.refl _ Y4).drew)
  have hOZ:O<Y4.drew.heap.size:=hA4.lt
  have hvZ:∀g,(Value.slice none 0 0).ownBlock=some g->g<Y4.drew.heap.size:=fun g hg=>by
   obtain⟨h1,cu,hcu⟩:=rbk hA4.row hg
   exact (jG hcu).1
  have HZ:=hid (And.intro (hA4.step (Only.of_below (B:=[D.B]) (Below.refl _ Y4).drew)) (And.intro hOZ (And.intro hvZ (And.intro hE4 hs4))))
  clear hA4 hE4 hs4 hOZ hvZ
  go_wp2
  apply wp_cutV (I:=fun W7=>AInv D w R O tx bl r1 fr mn bd W7)
  case h =>
   refine wp_region_held_drew (S:=fun _=>True) (by kernel_rfl) trivial (fun hH=>?_)
   refine Lx.tk 0 (.pointer (some ⟨O,2,none⟩)) rfl (Or.inl ⟨by rfl,?_⟩) ?_
   ·intro w hSw;(try dsimp only at hSw);go_simp
   try simp only[Act.put,jM]
   refine Lx.tk 2 (.pointer (some ⟨D.B,0,none⟩)) rfl (Or.inl ⟨by rfl,?_⟩) ?_
   ·intro w hSw;(try dsimp only at hSw);go_simp
   try simp only[Act.put,jM]
   refine Lx.tk 3 (bv) rfl (Or.inl ⟨by rfl,?_⟩) ?_
   ·intro w hSw;(try dsimp only at hSw);go_simp
   try simp only[Act.put,jM]
   refine wpAnyH_ready (rs:=[1,4]) (by kernel_rfl) (by simp) ?_
   refine AllReadyH.cons rfl (fun K hK=>?_) (AllReadyH.cons rfl (fun K hK=>?_) AllReadyH.nil)
   ·go_simp
    refine hK.out _ _ trivial (fun hH=>?_)
    clear hK K
    try simp only[Act.put,jA,jB,jC,jM]
    refine wpAnyH_ready (rs:=[4]) (by kernel_rfl) (by simp) ?_
    refine AllReadyH.cons rfl (fun K hK=>?_) AllReadyH.nil
    go_simp
    refine hc.mono ?_
    rintro e W3 ⟨t2,sl2,l2,fr2,mn2,bd2,hT2,rfl,ha2,hd2,ho2⟩
    obtain⟨sa,sc,rfl⟩:=ha2.slice
    have hab3:=HZ.out.1.step ho2
    have o3:W3.cell? ⟨O,2,none⟩=some (.slice none 0 0):=cst (vs:=[_,_,_]) hab3.bx.out rfl
    have o3a:∀ob:Obj,(W3.alloc ob).cell? ⟨O,2,none⟩=some (.slice none 0 0):=fun ob=>kc (bbx W3 ob) hab3.lt o3
    have HROW:Hid (W3.ownsRow (O+1) 24 3 (.slice none 0 0) 0 (flT [])):=by have:=hab3.row;rwa [show [].length=0 from rfl]at this
    have HO3:Hid (O<W3.heap.size):=hab3.lt
    have HBO:Hid (D.B∉(O::(Value.slice none 0 0).ownBlock.toList)∧∀x∈(O::(Value.slice none 0 0).ownBlock.toList),D.B<=x):=by
     have hBR:=hab3.bx.BR
     have hRO:=hab3.bx.RO
     have hall:∀x∈(O::(Value.slice none 0 0).ownBlock.toList),O<=x:=by
      intro x hx
      simp only[List.mem_cons,Option.mem_toList]at hx
      rcases hx with rfl|hx
      ·exact jJ _
      ·have:=(rbk hab3.row hx).1;omega
     exact⟨fun hm=>by have:=hall _ hm;omega,fun x hx=>by have:=hall x hx;omega⟩
    have HPUSH:Hid (∀(v':Value) (w6:World),w6.ownsRow (O+1) 24 3 v' (0+1) (flT []++[.int .i64 t2.v,.string t2.fn,.slice sa t2.args.length sc])->(W3.alloc (.cells #[.int .i64 t2.v,.string t2.fn,.slice sa t2.args.length sc] 24)).grownBy w6 (Value.slice none 0 0).ownBlock->(v'.ownBlock=(Value.slice none 0 0).ownBlock∨v'.ownBlock=some (W3.alloc (.cells #[.int .i64 t2.v,.string t2.fn,.slice sa t2.args.length sc] 24)).heap.size) ->
      ABx D w R O tx ([]++[(t2,.slice sa t2.args.length sc)]) v' (w6.setCell ⟨O,2,none⟩ v')∧Only (O::(Value.slice none 0 0).ownBlock.toList) W3 (w6.setCell ⟨O,2,none⟩ v')∧w6.cell? ⟨O,2,none⟩=some (.slice none 0 0)∧w6.frozen? ⟨O,2,none⟩=false):=
     fun v' w6 q1 q2 q3=>hab3.push HZ.out.2.1 HZ.out.2.2.1 ha2 (by rw[show [].length=0 from rfl];exact q1) (bbx W3 _) q2 q3
    have HW3:=hid (And.intro hd2 (And.intro hT2 (And.intro ho2 hab3)))
    clear hab3 hT2 ha2 hd2 ho2
    refine hK.out _ _ trivial (fun hH=>?_)
    clear hK K
    try simp only[Act.put,jA,jB,jC,jM]
    refine wpAnyH_ready (rs:=[5]) (by kernel_rfl) (by simp) ?_
    refine AllReadyH.cons rfl (fun K hK=>?_) AllReadyH.nil
    go_simp
    refine hK.out _ _ trivial (fun hH=>?_)
    clear hK K
    try simp only[Act.put,jA,jB,jC,jM]
    refine wpAnyH_ready (rs:=[6]) (by kernel_rfl) (by simp) ?_
    refine AllReadyH.cons rfl (fun K hK=>?_) AllReadyH.nil
    refine sao _ rfl (.tmp 83) (.tmp 87) 22 rfl (O+1) 24 i0 _ 3 48 Tryz.underlying22 hi0 hz0 hz1 hz2 rfl (by decide) (.slice none 0 0) 0 (flT []) rfl (Lx.y05 HROW.out (bbx W3 _)) ⟨W3.heap.size,0,none⟩ 1 1 [.int .i64 t2.v,.string t2.fn,.slice sa t2.args.length sc] rfl rfl (lit3 W3 _ _ _ _ 24 rfl) one3t (by unfold maxLen;omega) (by omega) (by have:=HO3.out;simp;omega) ?_
    intro v' w6 hrow6 hg6 hb6
    obtain⟨va6,vc6,rfl⟩:=rsl hrow6
    obtain⟨hab7,hon7,hc6,hf6⟩:=HPUSH.out _ w6 hrow6 hg6 hb6
    refine hK.out _ _ trivial (fun hH=>?_)
    clear hK K
    try simp only[Act.put,jA,jB,jC,jM]
    refine Lx.tk 7 (.pointer (some ⟨O,2,none⟩)) rfl (Or.inl ⟨by rfl,?_⟩) ?_
    ·intro w hSw;(try dsimp only at hSw);go_simp
    try simp only[Act.put,jM]
    refine wpAnyH_ready (rs:=[8]) (by kernel_rfl) (by simp) ?_
    refine AllReadyH.cons rfl (fun K hK=>?_) AllReadyH.nil
    go_simp
    refine hK.out _ _ trivial (fun hH=>?_)
    clear hK K
    try simp only[Act.put,jA,jB,jC,jM]
    refine wpAnyH_done (by kernel_rfl) ?_ _
    have hd7:=HW3.out.1.turn2 hon7 HBO.out.1 HBO.out.2
    have hInv:AInv D w R O tx bl r1 fr mn bd (w6.setCell ⟨O,2,none⟩ (.slice va6 (0+1) vc6)):=⟨_,_,l2,fr2,mn2,bd2,by simp,hab7,hd7,ARel.first hb HW3.out.2.1⟩
    obtain⟨W7,hW7⟩:∃X,w6.setCell ⟨O,2,none⟩ (.slice va6 (0+1) vc6)=X:=⟨_,rfl⟩
    rw[hW7]at hInv
    simp only[Nat.zero_add]at hW7
    rw[hW7]
    clear hab7 hon7 hd7 HPUSH hW7
    generalize tval t2 (.slice sa t2.args.length sc)=u1
    generalize Value.slice (some ⟨W3.heap.size,0,none⟩) 1 1=u2
    generalize Value.slice va6 1 vc6=u3
    exact CutV.normal u1 u2 u3 rfl hInv
   ·go_simp
    refine hc.mono ?_
    rintro e W3 ⟨t2,sl2,l2,fr2,mn2,bd2,hT2,rfl,ha2,hd2,ho2⟩
    obtain⟨sa,sc,rfl⟩:=ha2.slice
    have hab3:=HZ.out.1.step ho2
    have o3:W3.cell? ⟨O,2,none⟩=some (.slice none 0 0):=cst (vs:=[_,_,_]) hab3.bx.out rfl
    have o3a:∀ob:Obj,(W3.alloc ob).cell? ⟨O,2,none⟩=some (.slice none 0 0):=fun ob=>kc (bbx W3 ob) hab3.lt o3
    have HROW:Hid (W3.ownsRow (O+1) 24 3 (.slice none 0 0) 0 (flT [])):=by have:=hab3.row;rwa [show [].length=0 from rfl]at this
    have HO3:Hid (O<W3.heap.size):=hab3.lt
    have HBO:Hid (D.B∉(O::(Value.slice none 0 0).ownBlock.toList)∧∀x∈(O::(Value.slice none 0 0).ownBlock.toList),D.B<=x):=by
     have hBR:=hab3.bx.BR
     have hRO:=hab3.bx.RO
     have hall:∀x∈(O::(Value.slice none 0 0).ownBlock.toList),O<=x:=by
      intro x hx
      simp only[List.mem_cons,Option.mem_toList]at hx
      rcases hx with rfl|hx
      ·exact jJ _
      ·have:=(rbk hab3.row hx).1;omega
     exact⟨fun hm=>by have:=hall _ hm;omega,fun x hx=>by have:=hall x hx;omega⟩
    have HPUSH:Hid (∀(v':Value) (w6:World),w6.ownsRow (O+1) 24 3 v' (0+1) (flT []++[.int .i64 t2.v,.string t2.fn,.slice sa t2.args.length sc])->(W3.alloc (.cells #[.int .i64 t2.v,.string t2.fn,.slice sa t2.args.length sc] 24)).grownBy w6 (Value.slice none 0 0).ownBlock->(v'.ownBlock=(Value.slice none 0 0).ownBlock∨v'.ownBlock=some (W3.alloc (.cells #[.int .i64 t2.v,.string t2.fn,.slice sa t2.args.length sc] 24)).heap.size) ->
      ABx D w R O tx ([]++[(t2,.slice sa t2.args.length sc)]) v' (w6.setCell ⟨O,2,none⟩ v')∧Only (O::(Value.slice none 0 0).ownBlock.toList) W3 (w6.setCell ⟨O,2,none⟩ v')∧w6.cell? ⟨O,2,none⟩=some (.slice none 0 0)∧w6.frozen? ⟨O,2,none⟩=false):=
     fun v' w6 q1 q2 q3=>hab3.push HZ.out.2.1 HZ.out.2.2.1 ha2 (by rw[show [].length=0 from rfl];exact q1) (bbx W3 _) q2 q3
    have HW3:=hid (And.intro hd2 (And.intro hT2 (And.intro ho2 hab3)))
    clear hab3 hT2 ha2 hd2 ho2
    refine hK.out _ _ trivial (fun hH=>?_)
    clear hK K
    try simp only[Act.put,jA,jB,jC,jM]
    refine wpAnyH_ready (rs:=[1,5]) (by kernel_rfl) (by simp) ?_
    refine AllReadyH.cons rfl (fun K hK=>?_) (AllReadyH.cons rfl (fun K hK=>?_) AllReadyH.nil)
    ·go_simp
     refine hK.out _ _ trivial (fun hH=>?_)
     clear hK K
     try simp only[Act.put,jA,jB,jC,jM]
     refine wpAnyH_ready (rs:=[5]) (by kernel_rfl) (by simp) ?_
     refine AllReadyH.cons rfl (fun K hK=>?_) AllReadyH.nil
     go_simp
     refine hK.out _ _ trivial (fun hH=>?_)
     clear hK K
     try simp only[Act.put,jA,jB,jC,jM]
     refine wpAnyH_ready (rs:=[6]) (by kernel_rfl) (by simp) ?_
     refine AllReadyH.cons rfl (fun K hK=>?_) AllReadyH.nil
     refine sao _ rfl (.tmp 83) (.tmp 87) 22 rfl (O+1) 24 i0 _ 3 48 Tryz.underlying22 hi0 hz0 hz1 hz2 rfl (by decide) (.slice none 0 0) 0 (flT []) rfl (Lx.y05 HROW.out (bbx W3 _)) ⟨W3.heap.size,0,none⟩ 1 1 [.int .i64 t2.v,.string t2.fn,.slice sa t2.args.length sc] rfl rfl (lit3 W3 _ _ _ _ 24 rfl) one3t (by unfold maxLen;omega) (by omega) (by have:=HO3.out;simp;omega) ?_
     intro v' w6 hrow6 hg6 hb6
     obtain⟨va6,vc6,rfl⟩:=rsl hrow6
     obtain⟨hab7,hon7,hc6,hf6⟩:=HPUSH.out _ w6 hrow6 hg6 hb6
     refine hK.out _ _ trivial (fun hH=>?_)
     clear hK K
     try simp only[Act.put,jA,jB,jC,jM]
     refine Lx.tk 7 (.pointer (some ⟨O,2,none⟩)) rfl (Or.inl ⟨by rfl,?_⟩) ?_
     ·intro w hSw;(try dsimp only at hSw);go_simp
     try simp only[Act.put,jM]
     refine wpAnyH_ready (rs:=[8]) (by kernel_rfl) (by simp) ?_
     refine AllReadyH.cons rfl (fun K hK=>?_) AllReadyH.nil
     go_simp
     refine hK.out _ _ trivial (fun hH=>?_)
     clear hK K
     try simp only[Act.put,jA,jB,jC,jM]
     refine wpAnyH_done (by kernel_rfl) ?_ _
     have hd7:=HW3.out.1.turn2 hon7 HBO.out.1 HBO.out.2
     have hInv:AInv D w R O tx bl r1 fr mn bd (w6.setCell ⟨O,2,none⟩ (.slice va6 (0+1) vc6)):=⟨_,_,l2,fr2,mn2,bd2,by simp,hab7,hd7,ARel.first hb HW3.out.2.1⟩
     obtain⟨W7,hW7⟩:∃X,w6.setCell ⟨O,2,none⟩ (.slice va6 (0+1) vc6)=X:=⟨_,rfl⟩
     rw[hW7]at hInv
     simp only[Nat.zero_add]at hW7
     rw[hW7]
     clear hab7 hon7 hd7 HPUSH hW7
     generalize tval t2 (.slice sa t2.args.length sc)=u1
     generalize Value.slice (some ⟨W3.heap.size,0,none⟩) 1 1=u2
     generalize Value.slice va6 1 vc6=u3
     exact CutV.normal u1 u2 u3 rfl hInv
    ·go_simp
     refine hK.out _ _ trivial (fun hH=>?_)
     clear hK K
     try simp only[Act.put,jA,jB,jC,jM]
     refine wpAnyH_ready (rs:=[1]) (by kernel_rfl) (by simp) ?_
     refine AllReadyH.cons rfl (fun K hK=>?_) AllReadyH.nil
     go_simp
     refine hK.out _ _ trivial (fun hH=>?_)
     clear hK K
     try simp only[Act.put,jA,jB,jC,jM]
     refine wpAnyH_ready (rs:=[6]) (by kernel_rfl) (by simp) ?_
     refine AllReadyH.cons rfl (fun K hK=>?_) AllReadyH.nil
     refine sao _ rfl (.tmp 83) (.tmp 87) 22 rfl (O+1) 24 i0 _ 3 48 Tryz.underlying22 hi0 hz0 hz1 hz2 rfl (by decide) (.slice none 0 0) 0 (flT []) rfl (Lx.y05 HROW.out (bbx W3 _)) ⟨W3.heap.size,0,none⟩ 1 1 [.int .i64 t2.v,.string t2.fn,.slice sa t2.args.length sc] rfl rfl (lit3 W3 _ _ _ _ 24 rfl) one3t (by unfold maxLen;omega) (by omega) (by have:=HO3.out;simp;omega) ?_
     intro v' w6 hrow6 hg6 hb6
     obtain⟨va6,vc6,rfl⟩:=rsl hrow6
     obtain⟨hab7,hon7,hc6,hf6⟩:=HPUSH.out _ w6 hrow6 hg6 hb6
     refine hK.out _ _ trivial (fun hH=>?_)
     clear hK K
     try simp only[Act.put,jA,jB,jC,jM]
     refine Lx.tk 7 (.pointer (some ⟨O,2,none⟩)) rfl (Or.inl ⟨by rfl,?_⟩) ?_
     ·intro w hSw;(try dsimp only at hSw);go_simp
     try simp only[Act.put,jM]
     refine wpAnyH_ready (rs:=[8]) (by kernel_rfl) (by simp) ?_
     refine AllReadyH.cons rfl (fun K hK=>?_) AllReadyH.nil
     go_simp
     refine hK.out _ _ trivial (fun hH=>?_)
     clear hK K
     try simp only[Act.put,jA,jB,jC,jM]
     refine wpAnyH_done (by kernel_rfl) ?_ _
     have hd7:=HW3.out.1.turn2 hon7 HBO.out.1 HBO.out.2
     have hInv:AInv D w R O tx bl r1 fr mn bd (w6.setCell ⟨O,2,none⟩ (.slice va6 (0+1) vc6)):=⟨_,_,l2,fr2,mn2,bd2,by simp,hab7,hd7,ARel.first hb HW3.out.2.1⟩
     obtain⟨W7,hW7⟩:∃X,w6.setCell ⟨O,2,none⟩ (.slice va6 (0+1) vc6)=X:=⟨_,rfl⟩
     rw[hW7]at hInv
     simp only[Nat.zero_add]at hW7
     rw[hW7]
     clear hab7 hon7 hd7 HPUSH hW7
     generalize tval t2 (.slice sa t2.args.length sc)=u1
     generalize Value.slice (some ⟨W3.heap.size,0,none⟩) 1 1=u2
     generalize Value.slice va6 1 vc6=u3
     exact CutV.normal u1 u2 u3 rfl hInv
  case hQ =>
  intro u1 u2 u3 W7 hI
  have HE':=hid hE'
  clear hE'
  go_wp2
  go_loopw [] (fun wr=>Hid (AInv D w R O tx bl r1 fr mn bd wr)) (fun wr=>r1.length+2-cntW O wr)
  case atStart=>exact hI
  case round =>
   obtain⟨zs,v,q,fr',mn',bd',h1,hA,hd,hR⟩:=hrel.out
   obtain⟨va,vc,rfl⟩:=rsl hA.row
   obtain⟨k,hK⟩:∃k,zs.length=k:=⟨_,rfl⟩
   rw[hK]at hA
   have HK:=hid hK
   have his:=y16 hd [44]
   have HCN:=hid hA.cnt
   have hkr:k<=r1.length+1:=by have:=hR.2.2;omega
   simp only[jK]at hLr
   clear hrel
   cases hx:(decide (bd'<0)&&isM [44] q) with
   | true =>
    rw[hx]at his
    rw[Bool.and_eq_true,decide_eq_true_eq]at hx
    obtain⟨fx,hG,-,-,-,hcnt⟩:=hR.1 hx.1
    have hGl:=hG.len
    obtain⟨t3,r3,rfl,_,_⟩:=y03 hx.2
    simp only[jK]at hcnt hGl
    have hkL:k+1<=r1.length:=by omega
    have hr3:r3.length<=(t1::r1).length:=by simp;omega
    have HR:=hid (And.intro hR (And.intro hx.1 hx.2))
    clear hR hx hG hcnt hGl hK
    go_wp2_with fail
    refine his.mono ?_
    rintro e Y5 ⟨rfl,hb5⟩
    have hE5:=hd.keep hb5
    have hA5:=hA.step (Only.of_below (B:=[D.B]) hb5)
    obtain⟨i6,-,e6,f6,w6',hE6,oE6⟩:=hE5.eat
    have hA6:=hA5.step oE6
    have hs6:=HSW.out _ hA6.bx.on
    obtain⟨Y6,hY6⟩:∃X,Y5.setCell ⟨D.B,1,none⟩ (.int .i64 ((i6:Int)+1))=X:=⟨_,rfl⟩
    rw[hY6]at hE6 oE6 hA6 hs6
    have HY6:=hid hY6
    clear his hb5 hE5 hA5 oE6 hY6 hd hA
    go_upto_region 18 with fail
    rw[show _=Y6 from HY6.out]
    clear HY6 e6 f6 w6'
    have o2:Y6.cell? ⟨O,2,none⟩=some (.slice va k vc):=cst (vs:=[_,_,_]) (i:=2) hA6.bx.out rfl
    have hc:=HIH.out r3 hr3 Y6.drew _ _ _ (hE6.keep (Below.refl _ Y6).drew) (hs6.keep (Below.refl _ Y6).drew)
    have hOZ:O<Y6.drew.heap.size:=hA6.lt
    have hvZ:∀g,(Value.slice va k vc).ownBlock=some g->g<Y6.drew.heap.size:=fun g hg=>by
     obtain⟨h1,cu,hcu⟩:=rbk hA6.row hg
     exact (jG hcu).1
    have HZ:=hid (And.intro (hA6.step (Only.of_below (B:=[D.B]) (Below.refl _ Y6).drew)) (And.intro hOZ (And.intro hvZ (And.intro hE6 hs6))))
    clear hA6 hE6 hs6 hOZ hvZ
    go_wp2
    refine wp_region_held_drew (S:=fun _=>True) (by kernel_rfl) trivial (fun hH=>?_)
    refine Lx.tk 0 (.pointer (some ⟨O,2,none⟩)) rfl (Or.inl ⟨by rfl,?_⟩) ?_
    ·intro w hSw;(try dsimp only at hSw);go_simp
    try simp only[Act.put,jM]
    refine Lx.tk 2 (.pointer (some ⟨D.B,0,none⟩)) rfl (Or.inl ⟨by rfl,?_⟩) ?_
    ·intro w hSw;(try dsimp only at hSw);go_simp
    try simp only[Act.put,jM]
    refine Lx.tk 3 (bv) rfl (Or.inl ⟨by rfl,?_⟩) ?_
    ·intro w hSw;(try dsimp only at hSw);go_simp
    try simp only[Act.put,jM]
    refine wpAnyH_ready (rs:=[1,4]) (by kernel_rfl) (by simp) ?_
    refine AllReadyH.cons rfl (fun K hK=>?_) (AllReadyH.cons rfl (fun K hK=>?_) AllReadyH.nil)
    ·go_simp
     refine hK.out _ _ trivial (fun hH=>?_)
     clear hK K
     try simp only[Act.put,jA,jB,jC,jM]
     refine wpAnyH_ready (rs:=[4]) (by kernel_rfl) (by simp) ?_
     refine AllReadyH.cons rfl (fun K hK=>?_) AllReadyH.nil
     go_simp
     refine hc.mono ?_
     rintro e W3 ⟨t2,sl2,l2,fr2,mn2,bd2,hT2,rfl,ha2,hd2,ho2⟩
     obtain⟨sa,sc,rfl⟩:=ha2.slice
     have hab3:=HZ.out.1.step ho2
     have o3:W3.cell? ⟨O,2,none⟩=some (.slice va k vc):=cst (vs:=[_,_,_]) hab3.bx.out rfl
     have o3a:∀ob:Obj,(W3.alloc ob).cell? ⟨O,2,none⟩=some (.slice va k vc):=fun ob=>kc (bbx W3 ob) hab3.lt o3
     have HROW:Hid (W3.ownsRow (O+1) 24 3 (.slice va k vc) k (flT zs)):=by have:=hab3.row;rwa [show zs.length=k from HK.out]at this
     have HO3:Hid (O<W3.heap.size):=hab3.lt
     have HBO:Hid (D.B∉(O::(Value.slice va k vc).ownBlock.toList)∧∀x∈(O::(Value.slice va k vc).ownBlock.toList),D.B<=x):=by
      have hBR:=hab3.bx.BR
      have hRO:=hab3.bx.RO
      have hall:∀x∈(O::(Value.slice va k vc).ownBlock.toList),O<=x:=by
       intro x hx
       simp only[List.mem_cons,Option.mem_toList]at hx
       rcases hx with rfl|hx
       ·exact jJ _
       ·have:=(rbk hab3.row hx).1;omega
      exact⟨fun hm=>by have:=hall _ hm;omega,fun x hx=>by have:=hall x hx;omega⟩
     have HPUSH:Hid (∀(v':Value) (w6:World),w6.ownsRow (O+1) 24 3 v' (k+1) (flT zs++[.int .i64 t2.v,.string t2.fn,.slice sa t2.args.length sc])->(W3.alloc (.cells #[.int .i64 t2.v,.string t2.fn,.slice sa t2.args.length sc] 24)).grownBy w6 (Value.slice va k vc).ownBlock->(v'.ownBlock=(Value.slice va k vc).ownBlock∨v'.ownBlock=some (W3.alloc (.cells #[.int .i64 t2.v,.string t2.fn,.slice sa t2.args.length sc] 24)).heap.size) ->
       ABx D w R O tx (zs++[(t2,.slice sa t2.args.length sc)]) v' (w6.setCell ⟨O,2,none⟩ v')∧Only (O::(Value.slice va k vc).ownBlock.toList) W3 (w6.setCell ⟨O,2,none⟩ v')∧w6.cell? ⟨O,2,none⟩=some (.slice va k vc)∧w6.frozen? ⟨O,2,none⟩=false):=
      fun v' w6 q1 q2 q3=>hab3.push HZ.out.2.1 HZ.out.2.2.1 ha2 (by rw[show zs.length=k from HK.out];exact q1) (bbx W3 _) q2 q3
     have HW3:=hid (And.intro hd2 (And.intro hT2 (And.intro ho2 hab3)))
     clear hab3 hT2 ha2 hd2 ho2
     refine hK.out _ _ trivial (fun hH=>?_)
     clear hK K
     try simp only[Act.put,jA,jB,jC,jM]
     refine wpAnyH_ready (rs:=[5]) (by kernel_rfl) (by simp) ?_
     refine AllReadyH.cons rfl (fun K hK=>?_) AllReadyH.nil
     go_simp
     refine hK.out _ _ trivial (fun hH=>?_)
     clear hK K
     try simp only[Act.put,jA,jB,jC,jM]
     refine wpAnyH_ready (rs:=[6]) (by kernel_rfl) (by simp) ?_
     refine AllReadyH.cons rfl (fun K hK=>?_) AllReadyH.nil
     refine sao _ rfl (.tmp 100) (.tmp 104) 22 rfl (O+1) 24 i0 _ 3 48 Tryz.underlying22 hi0 hz0 hz1 hz2 rfl (by decide) (.slice va k vc) k (flT zs) rfl (Lx.y05 HROW.out (bbx W3 _)) ⟨W3.heap.size,0,none⟩ 1 1 [.int .i64 t2.v,.string t2.fn,.slice sa t2.args.length sc] rfl rfl (lit3 W3 _ _ _ _ 24 rfl) one3t (by unfold maxLen;omega) (by omega) (by have:=HO3.out;simp;omega) ?_
     intro v' w6 hrow6 hg6 hb6
     obtain⟨va6,vc6,rfl⟩:=rsl hrow6
     obtain⟨hab7,hon7,hc6,hf6⟩:=HPUSH.out _ w6 hrow6 hg6 hb6
     refine hK.out _ _ trivial (fun hH=>?_)
     clear hK K
     try simp only[Act.put,jA,jB,jC,jM]
     refine Lx.tk 7 (.pointer (some ⟨O,2,none⟩)) rfl (Or.inl ⟨by rfl,?_⟩) ?_
     ·intro w hSw;(try dsimp only at hSw);go_simp
     try simp only[Act.put,jM]
     refine wpAnyH_ready (rs:=[8]) (by kernel_rfl) (by simp) ?_
     refine AllReadyH.cons rfl (fun K hK=>?_) AllReadyH.nil
     go_simp
     refine hK.out _ _ trivial (fun hH=>?_)
     clear hK K
     try simp only[Act.put,jA,jB,jC,jM]
     refine wpAnyH_done (by kernel_rfl) ?_ _
     have hd7:=HW3.out.1.turn2 hon7 HBO.out.1 HBO.out.2
     have hInv:AInv D w R O tx bl r1 fr mn bd (w6.setCell ⟨O,2,none⟩ (.slice va6 (k+1) vc6)):=⟨_,_,l2,fr2,mn2,bd2,by simp,hab7,hd7,ARel.next HR.out.1 HR.out.2.1 HR.out.2.2 HW3.out.2.1⟩
     have hcn:=hab7.cnt
     obtain⟨W7,hW7⟩:∃X,w6.setCell ⟨O,2,none⟩ (.slice va6 (k+1) vc6)=X:=⟨_,rfl⟩
     rw[hW7]at hInv hcn
     rw[hW7]
     have HI7:=hid hInv
     have HC7:=hid hcn
     clear hab7 hon7 hd7 HPUSH hW7 hInv hcn
     go_wp2
     go_roundw
     case rel=>exact HI7.out
     case measure=>rw[HC7.out,HCN.out];omega
    ·go_simp
     refine hc.mono ?_
     rintro e W3 ⟨t2,sl2,l2,fr2,mn2,bd2,hT2,rfl,ha2,hd2,ho2⟩
     obtain⟨sa,sc,rfl⟩:=ha2.slice
     have hab3:=HZ.out.1.step ho2
     have o3:W3.cell? ⟨O,2,none⟩=some (.slice va k vc):=cst (vs:=[_,_,_]) hab3.bx.out rfl
     have o3a:∀ob:Obj,(W3.alloc ob).cell? ⟨O,2,none⟩=some (.slice va k vc):=fun ob=>kc (bbx W3 ob) hab3.lt o3
     have HROW:Hid (W3.ownsRow (O+1) 24 3 (.slice va k vc) k (flT zs)):=by have:=hab3.row;rwa [show zs.length=k from HK.out]at this
     have HO3:Hid (O<W3.heap.size):=hab3.lt
     have HBO:Hid (D.B∉(O::(Value.slice va k vc).ownBlock.toList)∧∀x∈(O::(Value.slice va k vc).ownBlock.toList),D.B<=x):=by
      have hBR:=hab3.bx.BR
      have hRO:=hab3.bx.RO
      have hall:∀x∈(O::(Value.slice va k vc).ownBlock.toList),O<=x:=by
       intro x hx
       simp only[List.mem_cons,Option.mem_toList]at hx
       rcases hx with rfl|hx
       ·exact jJ _
       ·have:=(rbk hab3.row hx).1;omega
      exact⟨fun hm=>by have:=hall _ hm;omega,fun x hx=>by have:=hall x hx;omega⟩
     have HPUSH:Hid (∀(v':Value) (w6:World),w6.ownsRow (O+1) 24 3 v' (k+1) (flT zs++[.int .i64 t2.v,.string t2.fn,.slice sa t2.args.length sc])->(W3.alloc (.cells #[.int .i64 t2.v,.string t2.fn,.slice sa t2.args.length sc] 24)).grownBy w6 (Value.slice va k vc).ownBlock->(v'.ownBlock=(Value.slice va k vc).ownBlock∨v'.ownBlock=some (W3.alloc (.cells #[.int .i64 t2.v,.string t2.fn,.slice sa t2.args.length sc] 24)).heap.size) ->
       ABx D w R O tx (zs++[(t2,.slice sa t2.args.length sc)]) v' (w6.setCell ⟨O,2,none⟩ v')∧Only (O::(Value.slice va k vc).ownBlock.toList) W3 (w6.setCell ⟨O,2,none⟩ v')∧w6.cell? ⟨O,2,none⟩=some (.slice va k vc)∧w6.frozen? ⟨O,2,none⟩=false):=
      fun v' w6 q1 q2 q3=>hab3.push HZ.out.2.1 HZ.out.2.2.1 ha2 (by rw[show zs.length=k from HK.out];exact q1) (bbx W3 _) q2 q3
     have HW3:=hid (And.intro hd2 (And.intro hT2 (And.intro ho2 hab3)))
     clear hab3 hT2 ha2 hd2 ho2
     refine hK.out _ _ trivial (fun hH=>?_)
     clear hK K
     try simp only[Act.put,jA,jB,jC,jM]
     refine wpAnyH_ready (rs:=[1,5]) (by kernel_rfl) (by simp) ?_
     refine AllReadyH.cons rfl (fun K hK=>?_) (AllReadyH.cons rfl (fun K hK=>?_) AllReadyH.nil)
     ·go_simp
      refine hK.out _ _ trivial (fun hH=>?_)
      clear hK K
      try simp only[Act.put,jA,jB,jC,jM]
      refine wpAnyH_ready (rs:=[5]) (by kernel_rfl) (by simp) ?_
      refine AllReadyH.cons rfl (fun K hK=>?_) AllReadyH.nil
      go_simp
      refine hK.out _ _ trivial (fun hH=>?_)
      clear hK K
      try simp only[Act.put,jA,jB,jC,jM]
      refine wpAnyH_ready (rs:=[6]) (by kernel_rfl) (by simp) ?_
      refine AllReadyH.cons rfl (fun K hK=>?_) AllReadyH.nil
      refine sao _ rfl (.tmp 100) (.tmp 104) 22 rfl (O+1) 24 i0 _ 3 48 Tryz.underlying22 hi0 hz0 hz1 hz2 rfl (by decide) (.slice va k vc) k (flT zs) rfl (Lx.y05 HROW.out (bbx W3 _)) ⟨W3.heap.size,0,none⟩ 1 1 [.int .i64 t2.v,.string t2.fn,.slice sa t2.args.length sc] rfl rfl (lit3 W3 _ _ _ _ 24 rfl) one3t (by unfold maxLen;omega) (by omega) (by have:=HO3.out;simp;omega) ?_
      intro v' w6 hrow6 hg6 hb6
      obtain⟨va6,vc6,rfl⟩:=rsl hrow6
      obtain⟨hab7,hon7,hc6,hf6⟩:=HPUSH.out _ w6 hrow6 hg6 hb6
      refine hK.out _ _ trivial (fun hH=>?_)
      clear hK K
      try simp only[Act.put,jA,jB,jC,jM]
      refine Lx.tk 7 (.pointer (some ⟨O,2,none⟩)) rfl (Or.inl ⟨by rfl,?_⟩) ?_
      ·intro w hSw;(try dsimp only at hSw);go_simp
      try simp only[Act.put,jM]
      refine wpAnyH_ready (rs:=[8]) (by kernel_rfl) (by simp) ?_
      refine AllReadyH.cons rfl (fun K hK=>?_) AllReadyH.nil
      go_simp
      refine hK.out _ _ trivial (fun hH=>?_)
      clear hK K
      try simp only[Act.put,jA,jB,jC,jM]
      refine wpAnyH_done (by kernel_rfl) ?_ _
      have hd7:=HW3.out.1.turn2 hon7 HBO.out.1 HBO.out.2
      have hInv:AInv D w R O tx bl r1 fr mn bd (w6.setCell ⟨O,2,none⟩ (.slice va6 (k+1) vc6)):=⟨_,_,l2,fr2,mn2,bd2,by simp,hab7,hd7,ARel.next HR.out.1 HR.out.2.1 HR.out.2.2 HW3.out.2.1⟩
      have hcn:=hab7.cnt
      obtain⟨W7,hW7⟩:∃X,w6.setCell ⟨O,2,none⟩ (.slice va6 (k+1) vc6)=X:=⟨_,rfl⟩
      rw[hW7]at hInv hcn
      rw[hW7]
      have HI7:=hid hInv
      have HC7:=hid hcn
      clear hab7 hon7 hd7 HPUSH hW7 hInv hcn
      go_wp2
      go_roundw
      case rel=>exact HI7.out
      case measure=>rw[HC7.out,HCN.out];omega
     ·go_simp
      refine hK.out _ _ trivial (fun hH=>?_)
      clear hK K
      try simp only[Act.put,jA,jB,jC,jM]
      refine wpAnyH_ready (rs:=[1]) (by kernel_rfl) (by simp) ?_
      refine AllReadyH.cons rfl (fun K hK=>?_) AllReadyH.nil
      go_simp
      refine hK.out _ _ trivial (fun hH=>?_)
      clear hK K
      try simp only[Act.put,jA,jB,jC,jM]
      refine wpAnyH_ready (rs:=[6]) (by kernel_rfl) (by simp) ?_
      refine AllReadyH.cons rfl (fun K hK=>?_) AllReadyH.nil
      refine sao _ rfl (.tmp 100) (.tmp 104) 22 rfl (O+1) 24 i0 _ 3 48 Tryz.underlying22 hi0 hz0 hz1 hz2 rfl (by decide) (.slice va k vc) k (flT zs) rfl (Lx.y05 HROW.out (bbx W3 _)) ⟨W3.heap.size,0,none⟩ 1 1 [.int .i64 t2.v,.string t2.fn,.slice sa t2.args.length sc] rfl rfl (lit3 W3 _ _ _ _ 24 rfl) one3t (by unfold maxLen;omega) (by omega) (by have:=HO3.out;simp;omega) ?_
      intro v' w6 hrow6 hg6 hb6
      obtain⟨va6,vc6,rfl⟩:=rsl hrow6
      obtain⟨hab7,hon7,hc6,hf6⟩:=HPUSH.out _ w6 hrow6 hg6 hb6
      refine hK.out _ _ trivial (fun hH=>?_)
      clear hK K
      try simp only[Act.put,jA,jB,jC,jM]
      refine Lx.tk 7 (.pointer (some ⟨O,2,none⟩)) rfl (Or.inl ⟨by rfl,?_⟩) ?_
      ·intro w hSw;(try dsimp only at hSw);go_simp
      try simp only[Act.put,jM]
      refine wpAnyH_ready (rs:=[8]) (by kernel_rfl) (by simp) ?_
      refine AllReadyH.cons rfl (fun K hK=>?_) AllReadyH.nil
      go_simp
      refine hK.out _ _ trivial (fun hH=>?_)
      clear hK K
      try simp only[Act.put,jA,jB,jC,jM]
      refine wpAnyH_done (by kernel_rfl) ?_ _
      have hd7:=HW3.out.1.turn2 hon7 HBO.out.1 HBO.out.2
      have hInv:AInv D w R O tx bl r1 fr mn bd (w6.setCell ⟨O,2,none⟩ (.slice va6 (k+1) vc6)):=⟨_,_,l2,fr2,mn2,bd2,by simp,hab7,hd7,ARel.next HR.out.1 HR.out.2.1 HR.out.2.2 HW3.out.2.1⟩
      have hcn:=hab7.cnt
      obtain⟨W7,hW7⟩:∃X,w6.setCell ⟨O,2,none⟩ (.slice va6 (k+1) vc6)=X:=⟨_,rfl⟩
      rw[hW7]at hInv hcn
      rw[hW7]
      have HI7:=hid hInv
      have HC7:=hid hcn
      clear hab7 hon7 hd7 HPUSH hW7 hInv hcn
      go_wp2
      go_roundw
      case rel=>exact HI7.out
      case measure=>rw[HC7.out,HCN.out];omega
   | false =>
    rw[hx]at his
    have hT:=ARel.fin HLN0.out hb hk HM1.out hR hx
    rw[HTX.out,hK]at hT
    have HT:=hid hT
    clear hT hR hx hK
    go_wp2_with fail
    refine his.mono ?_
    rintro e Y5 ⟨rfl,hb5⟩
    have hE5:=hd.keep hb5
    have hA5:=hA.step (Only.of_below (B:=[D.B]) hb5)
    have hw:=y24 hE5 [41]
    have HA5:=hid hA5
    clear his hb5 hE5 hA5 hd hA
    go_wp2_with fail
    refine hw.mono ?_
    rintro e Y6 ⟨rfl,hd6,ho6⟩
    clear hw
    have hA6:=HA5.out.step ho6
    obtain⟨⟨-,-,-,-,y4,-⟩,yf⟩:=hd6.cells
    have f4:=yf 4
    have o2:Y6.cell? ⟨O,2,none⟩=some (.slice va k vc):=cst (vs:=[_,_,_]) (i:=2) hA6.bx.out rfl
    obtain⟨hd7,ho7⟩:=hd6.setMany (mn'||decide (16<k))
    have hA7:=hA6.step ho7
    obtain⟨⟨o0,o1,o22⟩,V,hrun2,HV⟩:=hA7.bx.fin hd7 hA7.all (fun k hk=>hk)
    obtain⟨bb,hbb⟩:∃bb,(mn'||decide (16<k))=bb:=⟨_,rfl⟩
    rw[hbb]at hd7 ho7 hA7 o0 o1 o22 hrun2 HT
    obtain⟨Z7,hZ7⟩:∃X,Y6.setCell ⟨D.B,4,none⟩ (.bool bb)=X:=⟨_,rfl⟩
    rw[hZ7]at o0 o1 o22 hrun2
    have HZ7:=hid hZ7
    have HVb:Hid (DS D V (wantL [41] q bd') fr' bb (wantB D [41] q bd')):=by have:=HV.out.2.1;rwa [hbb]at this
    clear hd6 ho6 hA6 yf hd7 ho7 hA7 hZ7
    cases mn' with
    | true =>
     have hbt:bb=true:=by rw[<-hbb];rfl
     subst hbt
     clear hbb
     go_upto_region 21 with fail
     rw[show _=Z7 from HZ7.out]
     go_wp2_with (first|(refine wsr rfl 24 _ _ rfl (.pointer (some ⟨R,0,none⟩)) (.agg #[.int .i64 0,.string tx,.slice va k vc]) rfl rfl hrun2 ?_))
     refine bodyPost_ret (v:=.agg #[.int .i64 0,.string tx,.slice va k vc]) (by simp[results,Tryz.results178,go_sem,HV.out.1.1,HV.out.1.2.1,HV.out.1.2.2]) rfl ?_
     exact⟨.mk 0 tx (List.map (fun x:T × Value=>x.1) zs),_,_,fr',true,_,HT.out,rfl,HV.out.2.2.2,HVb.out,HV.out.2.2.1⟩
    | false =>
     have hbt:decide (16<k)=bb:=by rw[<-hbb];rfl
     have hbi:decide ((16:Int)<(k:Int))=bb:=by rw[<-hbt];exact decide_eq_decide.2 (by omega)
     have hbi2:decide ((k:Int) > 16)=bb:=hbi
     clear hbb
     go_upto_region 21 with fail
     try simp only[hbt,hbi,hbi2]
     rw[show _=Z7 from HZ7.out]
     go_wp2_with (first|(refine wsr rfl 24 _ _ rfl (.pointer (some ⟨R,0,none⟩)) (.agg #[.int .i64 0,.string tx,.slice va k vc]) rfl rfl hrun2 ?_))
     refine bodyPost_ret (v:=.agg #[.int .i64 0,.string tx,.slice va k vc]) (by simp[results,Tryz.results178,go_sem,HV.out.1.1,HV.out.1.2.1,HV.out.1.2.2]) rfl ?_
     exact⟨.mk 0 tx (List.map (fun x:T × Value=>x.1) zs),_,_,fr',bb,_,HT.out,rfl,HV.out.2.2.2,HVb.out,HV.out.2.2.1⟩
end
