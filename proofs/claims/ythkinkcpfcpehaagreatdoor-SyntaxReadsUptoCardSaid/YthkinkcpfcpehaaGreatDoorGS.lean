import Derived.Test.YthkinkcpfcpehaaGreatDoorZM
import Derived.Test.YthkinkcpfcpehaaGreatDoorGR
import Derived.Test.YthkinkcpfcpehaaGreatDoorGM
namespace Go.Proofs.YthkinkcpfcpehaaGreatDoor
set_option maxRecDepth 100000
set_option maxHeartbeats 16000000
open Go.RowKit Go.Maps
open Lx (Tk ofL KsAt y0a wsr rbk rkp rsl lit3)
theorem true_any (w:World):Calls Tryz.prog 146 #[] w fun e w'=>e=.returned (.agg #[.int .i64 0,.string ⟨#[36,116,114,117,101]⟩,.slice none 0 0])∧Below w.heap.size w w':=by
 have hb0:=bbx w (.cells #[.int .i64 0,.string ⟨#[]⟩,.slice none 0 0] 24)
 have hz0:=(jH w (.cells #[.int .i64 0,.string ⟨#[]⟩,.slice none 0 0] 24)).1
 obtain⟨W0,hW0⟩:∃X,w.alloc (.cells #[.int .i64 0,.string ⟨#[]⟩,.slice none 0 0] 24)=X:=⟨_,rfl⟩
 rw[hW0]at hb0 hz0
 obtain⟨V,hrun,hV,oV⟩:=y2r (t:=trueT) (P:=fun _=>True) (X:=W0) hz0 rfl (ArgsP.nil _ W0)
 have HC:Hid (V.cell? ⟨w.heap.size,0,none⟩=some (.int .i64 0)∧V.cell? ⟨w.heap.size,1,none⟩=some (.string ⟨#[36,116,114,117,101]⟩)∧V.cell? ⟨w.heap.size,2,none⟩=some (.slice none 0 0)):=(y09 hV).1
 have HF:Hid (Below w.heap.size w V):=hb0.trans (Only.below oV (Nat.le_of_lt (jG hz0).1) (by simp))
 have HW0:=hid hW0
 clear hb0 hz0 hW0 hV oV
 go_enter Tryz.func146,Tryz.ntmps146
 go_upto_region 1 with fail
 rw[show _=W0 from HW0.out]
 go_wp2_with (first|(refine wsr rfl 24 _ _ rfl (.pointer (some ⟨w.heap.size,0,none⟩)) (.agg #[.int .i64 0,.string ⟨#[36,116,114,117,101]⟩,.slice none 0 0]) rfl rfl hrun ?_))
 refine bodyPost_ret (v:=.agg #[.int .i64 0,.string ⟨#[36,116,114,117,101]⟩,.slice none 0 0]) (by simp[results,Tryz.results146,go_sem,HC.out.1,HC.out.2.1,HC.out.2.2]) rfl ?_
 exact⟨rfl,HF.out⟩
section
variable {D : DE} {w : World} {l r fr : List Tk} {t : Tk} {mn : Bool} {bd : Int}
structure MBx (D:DE) (w:World) (R:Nat) (Z:World):Prop where
 res:Z.heap[R]? =some zbox
 BR:D.B<R
 on:Only [D.B] w Z
 wR:w.heap.size=R
theorem MBx.step {R:Nat}{Z Z':World}(h:MBx D w R Z)(ho:Only [D.B] Z Z'):MBx D w R Z':=
 ⟨(ho.block R (jG h.res).1 (by have:=h.BR;simp;omega)).trans h.res,h.BR,h.on.trans ho (fun r hr=>.inl hr),h.wR⟩
theorem MBx.lt {R:Nat}{Z:World}(h:MBx D w R Z):R<Z.heap.size:=(jG h.res).1
theorem MBx.far {R:Nat}{Z Z':World}{L:List Nat}(h:MBx D w R Z)(ho:Only L Z Z')(hL:∀x∈L,R<x):MBx D w R Z':=
 ⟨(ho.block R h.lt (fun hm=>by have:=hL R hm;omega)).trans h.res,h.BR,h.on.trans ho (fun r hr=>.inr (by have:=hL r hr;have:=h.wR;omega)),h.wR⟩
theorem MBx.new {R:Nat}(h:DS D w l fr mn bd)(hR:w.heap.size=R):MBx D w R (w.alloc zbox):=by
 subst hR
 exact⟨(jH w zbox).1,h.lt,Only.of_below (bbx w zbox),rfl⟩
theorem MBx.fin {R:Nat}{Z:World}{f:Fm}{sl sr sk:Value}{P:Nat->Prop}(h:MBx D w R Z)(hd:DS D Z l fr mn bd)(hf:FmP P Z f sl sr sk)(hP:∀k,P k->R<k) :
  ∃V,(Instr.storeAt 27 (.pointer (some ⟨R,0,none⟩)) (fval f sl sr sk)).run Tryz.prog Z=.ok () V∧
   Hid ((V.cell? ⟨R,0,none⟩=some (.int .i64 f.k)∧V.cell? ⟨R,1,none⟩=some (.string f.nm)∧V.cell? ⟨R,2,none⟩=some (.int .i64 f.l.v)∧V.cell? ⟨R,3,none⟩=some (.string f.l.fn)∧V.cell? ⟨R,4,none⟩=some sl∧V.cell? ⟨R,5,none⟩=some (.int .i64 f.r.v)∧V.cell? ⟨R,6,none⟩=some (.string f.r.fn)∧V.cell? ⟨R,7,none⟩=some sr∧V.cell? ⟨R,8,none⟩=some sk)∧FmP (fun k=>w.heap.size<=k) V f sl sr sk∧DS D V l fr mn bd∧Only [D.B] w V):=by
 obtain⟨V,hrun,hV,oV⟩:=y0g rfl h.res rfl hf
 have hBR:=h.BR
 have hwR:=h.wR
 exact⟨V,hrun,(y00 hV).1,hf.keep oV.size (fun k hk hkl=>⟨by have:=hP k hk;omega,oV.block k hkl (by have:=hP k hk;simp;omega)⟩),hd.turn2 oV (by simp;omega) (by simp;omega),h.on.fresh oV (Nat.le_of_eq hwR)⟩
theorem y27 {P:Nat->Prop}{W:World}{b:Nat}{f:Fm}{sl sr sk:Value}(hb:W.heap[b]? =some (fbox f sl sr sk))(hP:P b)(hf:FmP P W f sl sr sk):KidsP P W (.slice (some ⟨b,0,none⟩) 1 1) [f]:=by
 obtain⟨⟨c0,c1,c2,c3,c4,c5,c6,c7,c8⟩,-⟩:=y00 hb
 refine .mk (some ⟨b,0,none⟩) 1 [f] (fun _=>sl) (fun _=>sr) (fun _=>sk) (jJ _) (by decide) (fun _=>⟨b,0,hP,(jG hb).1,rfl,fun i hi=>?_⟩) (fun i hi=>?_) (fun i hi=>?_) (fun i hi=>?_)<;>(have hi0:i=0:=by simpa using hi)<;>subst hi0
 ·simpa using ⟨c0,c1,⟨c2,c3,c4⟩,⟨c5,c6,c7⟩,c8⟩
 ·exact hf.l
 ·exact hf.r
 ·exact hf.k
def CutN (Q:Exit->Act->World->Prop)(A:Nat->Value->Value->Act)(I:Nat->World->Prop):Exit->Act->World->Prop
 | .normal,a',w'=>∃n u v,a'=A n u v∧I n w'
 | e,a',w'=>Q e a' w'
theorem CutN.imp {Q:Exit->Act->World->Prop}{A:Nat->Value->Value->Act}{I:Nat->World->Prop}(hQ:∀n u v w',I n w'->Q .normal (A n u v) w'):∀(e:Exit)(a:Act)(w:World),CutN Q A I e a w->Q e a w:=fun e a w h=>by
 cases e<;>first|exact h|(obtain⟨n,u,v,rfl,hI⟩:=h;exact hQ n u v w hI)
theorem wp_cutN {P:Program}{id:Nat}{ops:Array Oper}{b:Bool}{Q:Exit->Act->World->Prop}{a:Act}{w:World}(A:Nat->Value->Value->Act)(I:Nat->World->Prop)(h:(Code.region id ops b).wp P (CutN Q A I) a w)(hQ:∀n u v w',I n w'->Q .normal (A n u v) w'):(Code.region id ops b).wp P Q a w:=Code.wp_mono (CutN.imp hQ) h
theorem CutN.normal {Q:Exit->Act->World->Prop}{A:Nat->Value->Value->Act}{I:Nat->World->Prop}{a:Act}{w:World}(n:Nat)(u v:Value)(ha:a=A n u v)(h:I n w):CutN Q A I .normal a w:=⟨n,u,v,ha,h⟩
def EqIn (D:DE)(w:World)(R:Nat)(bl:List jU)(t:T)(r1 fr1:List Tk)(mn1:Bool)(bd1:Int)(F:Nat)(W:World):Prop:=
 ∃t2 sl sl2 l2 fr2 mn2 bd2,W.heap[F]? =some (fbox (fEq t t2) sl sl2 (.slice none 0 0))∧FmP (fun k=>R<k∧k≠F) W (fEq t t2) sl sl2 (.slice none 0 0)∧R<F∧MBx D w R W∧DS D W l2 fr2 mn2 bd2∧DTermR D bl r1 fr1 mn1 bd1 t2 l2 fr2 mn2 bd2
theorem EqIn.made {R F:Nat}{bl:List jU}{t t2:T}{r1 fr1 l2 fr2:List Tk}{mn1 mn2:Bool}{bd1 bd2:Int}{X:World}{sl sl2:Value}(hF:X.heap[F]? =some zbox)(ha:ArgsP (fun k=>R<k∧k≠F) X sl t.args)(ha2:ArgsP (fun k=>R<k∧k≠F) X sl2 t2.args)(hRF:R<F)(hm:MBx D w R X)(hd:DS D X l2 fr2 mn2 bd2)(hT:DTermR D bl r1 fr1 mn1 bd1 t2 l2 fr2 mn2 bd2) :
  ∃Y,(Instr.storeAt 27 (.pointer (some ⟨F,0,none⟩)) (fval (fEq t t2) sl sl2 (.slice none 0 0))).run Tryz.prog X=.ok () Y∧Only [F] X Y∧Hid (EqIn D w R bl t r1 fr1 mn1 bd1 F Y):=by
 have hf:FmP (fun k=>R<k∧k≠F) X (fEq t t2) sl sl2 (.slice none 0 0):=⟨ha,ha2,KidsP.nil _ _⟩
 obtain⟨Y,h1,h2,h3⟩:=y0g rfl hF rfl hf
 have hBR:=hm.BR
 exact⟨Y,h1,h3,t2,sl,sl2,l2,fr2,mn2,bd2,h2,hf.keep h3.size (fun k hk hkl=>⟨hk,h3.block k hkl (by simpa using hk.2)⟩),hRF,hm.far h3 (by simp;omega),hd.turn2 h3 (by simp;omega) (by simp;omega),hT⟩
theorem y3c {X:World}{n:Nat}{t:T}{sl:Value}(h:X.heap[n]? =some (tbox t sl)):X.cell? ⟨n,0,none⟩=some (.int .i64 t.v)∧X.cell? ⟨n,1,none⟩=some (.string t.fn)∧X.cell? ⟨n,2,none⟩=some sl:=(y09 h).1
theorem datom_eq {bl:List jU}{t t2:T}{t1:Tk}{r1 fr1 l2 fr2:List Tk}{mn1 mn2:Bool}{bd1 bd2:Int}(hT:DTermR D bl l fr mn bd t (t1::r1) fr1 mn1 bd1)(hx:bd1<0)(hm:isM [61] (t1::r1)=true)(hT2:DTermR D bl r1 fr1 mn1 bd1 t2 l2 fr2 mn2 bd2):DFmR D (PA bl) l fr mn bd (fEq t t2) l2 fr2 mn2 bd2:=by
 refine⟨fun hb=>?_,fun hn=>absurd hx (by rw[hT.2.1 hn];exact hn)⟩
 rcases hT.1 hb with⟨fx,hp,hf,hmn,hbe⟩|⟨q,hp,hbe⟩
 ·rcases hT2.1 hx with⟨fx2,hp2,hf2,hmn2,hbe2⟩|⟨q,hp2,hbe2⟩
  ·exact .inl ⟨fx++fx2,PA.eq hp hm hp2,by rw[hf2,<-List.append_assoc];exact y4z hf fx2,by rw[hmn2,hmn,dw_eq,Bool.or_assoc],by rw[hbe2,hbe]⟩
  ·exact .inr ⟨q,PA.eq_no hp hm hp2,hbe2⟩
 ·omega
theorem datom_ne {bl:List jU}{t t2:T}{t1:Tk}{r1 fr1 l2 fr2:List Tk}{mn1 mn2:Bool}{bd1 bd2:Int}(hT:DTermR D bl l fr mn bd t (t1::r1) fr1 mn1 bd1)(hx:bd1<0)(hm:isM [33,61] (t1::r1)=true)(hT2:DTermR D bl r1 fr1 mn1 bd1 t2 l2 fr2 mn2 bd2):DFmR D (PA bl) l fr mn bd (fOp 2 [fEq t t2]) l2 fr2 mn2 bd2:=by
 have hm0:isM [61] (t1::r1)=false:=by
  simp only[isM,Bool.and_eq_true,decide_eq_true_eq]at hm ⊢
  rw[hm.2];simp
 refine⟨fun hb=>?_,fun hn=>absurd hx (by rw[hT.2.1 hn];exact hn)⟩
 rcases hT.1 hb with⟨fx,hp,hf,hmn,hbe⟩|⟨q,hp,hbe⟩
 ·rcases hT2.1 hx with⟨fx2,hp2,hf2,hmn2,hbe2⟩|⟨q,hp2,hbe2⟩
  ·exact .inl ⟨fx++fx2,PA.ne hp hm0 hm hp2,by rw[hf2,<-List.append_assoc];exact y4z hf fx2,by rw[hmn2,hmn,dw_one,dw_eq,Bool.or_assoc],by rw[hbe2,hbe]⟩
  ·exact .inr ⟨q,PA.ne_no hp hm0 hm hp2,hbe2⟩
 ·omega
theorem datom_pred {bl:List jU}{t:T}{l1 fr1:List Tk}{mn1 va:Bool}{bd1:Int}(hT:DTermR D bl l fr mn bd t l1 fr1 mn1 bd1)(hva:(decide (bd<0)&&isK 2 l)=va)(h1:(decide (bd1<0)&&isM [33,61] l1)=false)(h2:(decide (bd1<0)&&isM [61] l1)=false):DFmR D (PA bl) l fr mn bd (fPred t) l1 fr1 mn1 (if va=true then badV D l1 bd1 else bd1):=by
 refine⟨fun hb=>?_,fun hn=>?_⟩
 ·rw[decide_eq_true hb,Bool.true_and]at hva
  rcases hT.1 hb with⟨fx,hp,hf,hmn,rfl⟩|⟨q,hp,hbe⟩
  ·rw[decide_eq_true hb,Bool.true_and]at h1 h2
   have hk:=hp.kind
   cases va with
   | true=>exact .inr ⟨l1,PA.alone hp h2 h1 (by rw[hk,hva];rfl),by unfold badV;rw[if_pos rfl,if_pos hb]⟩
   | false=>exact .inl ⟨fx,PA.pred hp h2 h1 (by rw[hk,hva];rfl),hf,by rw[hmn,dw_pred],by simp⟩
  ·refine .inr ⟨q,PA.first_no hp,?_⟩
   have hn:¬bd1<0:=by omega
   unfold badV
   rw[if_neg hn]
   split<;>exact hbe
 ·rw[decide_eq_false hn,Bool.false_and]at hva
  subst hva
  simpa using hT.2.1 hn
theorem eq_cells {X:World}{n:Nat}{t t2:T}{sl sr sk:Value}(h:X.heap[n]? =some (fbox (fEq t t2) sl sr sk)):X.cell? ⟨n,0,none⟩=some (.int .i64 1)∧X.cell? ⟨n,1,none⟩=some (.string ⟨#[]⟩)∧X.cell? ⟨n,2,none⟩=some (.int .i64 t.v)∧X.cell? ⟨n,3,none⟩=some (.string t.fn)∧X.cell? ⟨n,4,none⟩=some sl∧X.cell? ⟨n,5,none⟩=some (.int .i64 t2.v)∧X.cell? ⟨n,6,none⟩=some (.string t2.fn)∧X.cell? ⟨n,7,none⟩=some sr∧X.cell? ⟨n,8,none⟩=some sk:=(y00 h).1
theorem op_cells {X:World}{n:Nat}{k:Int}{ks:List Fm}{sk:Value}(h:X.heap[n]? =some (fbox (fOp k ks) (.slice none 0 0) (.slice none 0 0) sk)):X.cell? ⟨n,0,none⟩=some (.int .i64 k)∧X.cell? ⟨n,1,none⟩=some (.string ⟨#[]⟩)∧X.cell? ⟨n,2,none⟩=some (.int .i64 0)∧X.cell? ⟨n,3,none⟩=some (.string ⟨#[]⟩)∧X.cell? ⟨n,4,none⟩=some (.slice none 0 0)∧X.cell? ⟨n,5,none⟩=some (.int .i64 0)∧X.cell? ⟨n,6,none⟩=some (.string ⟨#[]⟩)∧X.cell? ⟨n,7,none⟩=some (.slice none 0 0)∧X.cell? ⟨n,8,none⟩=some sk:=(y00 h).1
theorem p_cells {X:World}{n:Nat}{v:Int}{fn:ByteArray}{ts:List T}{sl:Value}(h:X.heap[n]? =some (tbox (.mk v fn ts) sl)):X.cell? ⟨n,0,none⟩=some (.int .i64 v)∧X.cell? ⟨n,1,none⟩=some (.string fn)∧X.cell? ⟨n,2,none⟩=some sl:=(y09 h).1
theorem pval {t:T}{sl:Value}:fval (fPred t) sl (.slice none 0 0) (.slice none 0 0)=.agg #[.int .i64 1,.string ⟨#[]⟩,.int .i64 t.v,.string (⟨#[64]⟩++t.fn),sl,.int .i64 0,.string ⟨#[36,116,114,117,101]⟩,.slice none 0 0,.slice none 0 0]:=rfl
theorem datom_any (h:DS D w l fr mn bd){bv:Value}{bl:List jU}(hs:StrAt w bv bl) :
  Calls Tryz.prog 143 #[.pointer (some ⟨D.B,0,none⟩),bv] w (DFmP D w (PA bl) l fr mn bd):=by
 obtain⟨R,hR⟩:∃R,w.heap.size=R:=⟨_,rfl⟩
 have hm0:=MBx.new h hR
 have hb0:=bbx w zbox
 have h0:=h.keep hb0
 have HSW:Hid (∀Z,Only [D.B] w Z->StrAt Z bv bl):=fun Z ho=>hs.only h ho
 obtain⟨W0,hW0⟩:∃X,w.alloc zbox=X:=⟨_,rfl⟩
 rw[hW0]at hm0 h0
 have hkd:=y15 h0 2
 obtain⟨va,hva⟩:∃b,(decide (bd<0)&&isK 2 l)=b:=⟨_,rfl⟩
 rw[hva]at hkd
 have HVA:=hid hva
 have H0:=hid (And.intro h0 hm0)
 have HW0:=hid hW0
 clear h hm0 hb0 h0 hs hW0 hva
 go_enter Tryz.func143,Tryz.ntmps143
 go_upto_region 1 with fail
 try simp only[hR]
 rw[show _=W0 from HW0.out]
 go_wp2_with fail
 refine hkd.mono ?_
 rintro e W1 ⟨rfl,hb1⟩
 have h1:=H0.out.1.keep hb1
 have hm1:=H0.out.2.step (Only.of_below (B:=[D.B]) hb1)
 have hc:=y2j l.length l (jJ _) W1 fr mn bd h1 (HSW.out _ hm1.on)
 have H1:=hid (And.intro h1 hm1)
 clear hkd hb1 h1 hm1
 go_wp2_with fail
 refine hc.mono ?_
 rintro e W2 ⟨t,sl,l1,fr1,mn1,bd1,hT,rfl,ha,hd,ho⟩
 obtain⟨sa,sc,rfl⟩:=ha.slice
 have hm2:=H1.out.2.step ho
 have hb3:=bbx W2 (tbox t (.slice sa t.args.length sc))
 have hz3:=(jH W2 (tbox t (.slice sa t.args.length sc))).1
 obtain⟨G,hG⟩:∃G,W2.heap.size=G:=⟨_,rfl⟩
 rw[hG]at hz3
 have hRG:R<G:=by rw[<-hG];exact hm2.lt
 have ha3:ArgsP (fun k=>R<k) (W2.alloc (tbox t (.slice sa t.args.length sc))) (.slice sa t.args.length sc) t.args:=ha.keep hb3.size (fun k hk hkl=>⟨by have:=H1.out.2.lt;show R<k;omega,hb3.block k hkl⟩)
 have haG:ArgsP (fun k=>R<k∧k≠G) (W2.alloc (tbox t (.slice sa t.args.length sc))) (.slice sa t.args.length sc) t.args:=ha.keep hb3.size (fun k hk hkl=>⟨⟨by have:=H1.out.2.lt;show R<k;omega,by omega⟩,hb3.block k hkl⟩)
 have hm3:=hm2.step (Only.of_below (B:=[D.B]) hb3)
 have hd3:=hd.keep hb3
 obtain⟨W3,hW3⟩:∃X,W2.alloc (tbox t (.slice sa t.args.length sc))=X:=⟨_,rfl⟩
 rw[hW3]at hb3 hz3 ha3 hm3 hd3 haG
 have HAG:Hid (∀Z,Only [D.B] W3 Z->ArgsP (fun k=>R<k∧k≠G) Z (.slice sa t.args.length sc) t.args):=fun Z hZ=>haG.keep hZ.size (fun k hk hkl=>⟨hk,hZ.block k hkl (by have:=hm3.BR;simp;omega)⟩)
 have HW3:=hid hW3
 have hi1:=y16 hd3 [33,61]
 obtain⟨b1,hb1⟩:∃b,(decide (bd1<0)&&isM [33,61] l1)=b:=⟨_,rfl⟩
 rw[hb1]at hi1
 have HB1:=hid hb1
 have H3:=hid (And.intro hd3 (And.intro hm3 (And.intro ha3 (And.intro hz3 (And.intro hT hRG)))))
 clear hc ha hd ho hm2 hb3 hz3 ha3 hm3 hd3 hW3 hT hb1 haG
 go_upto_region 3 with fail
 try simp only[hG]
 rw[show _=W3 from HW3.out]
 go_wp2_with fail
 refine hi1.mono ?_
 rintro e W4 ⟨rfl,hb4⟩
 have hd4:=H3.out.1.keep hb4
 have hm4:=H3.out.2.1.step (Only.of_below (B:=[D.B]) hb4)
 have ha4:=H3.out.2.2.1.grow hb4
 have hz4:=(hb4.block G (jG H3.out.2.2.2.1).1).trans H3.out.2.2.2.1
 clear hi1
 cases b1 with
 | true =>
  have hx:=HB1.out
  rw[Bool.and_eq_true,decide_eq_true_eq]at hx
  obtain⟨t1,r1,rfl,_,_⟩:=y03 hx.2
  obtain⟨i6,-,e6,f6,w6',hE6,oE6⟩:=hd4.eat
  obtain⟨Y6,hY6⟩:∃X,W4.setCell ⟨D.B,1,none⟩ (.int .i64 ((i6:Int)+1))=X:=⟨_,rfl⟩
  rw[hY6]at hE6 oE6
  have HY6:=hid hY6
  clear hY6
  go_upto_region 6 with fail
  rw[show _=Y6 from HY6.out]
  have hA6:=HSW.out _ ((hm4.step oE6).on)
  have hm6:=hm4.step oE6
  have hBG:D.B≠G:=by have:=hm6.BR;have:=H3.out.2.2.2.2.2;omega
  have hz6:=(oE6.block G (jG hz4).1 (by simp;omega)).trans hz4
  have ha6:ArgsP (fun k=>R<k) Y6 (.slice sa t.args.length sc) t.args:=ha4.keep oE6.size (fun k hk hkl=>⟨hk,oE6.block k hkl (by have:=hm6.BR;simp;omega)⟩)
  have HQ:=hid (And.intro hE6 (And.intro hA6 (And.intro hm6 (And.intro hz6 ha6))))
  have HRG:Hid (R<G):=H3.out.2.2.2.2.2
  have HBG:=hid hBG
  have hGl:G<Y6.heap.size:=(jG hz6).1
  have HGl:=hid hGl
  clear hA6 hm6 hz6 ha6 hE6 oE6 hd4 hm4 ha4 hz4 hb4 hBG hGl
  apply wp_cutN (I:=fun F W=>EqIn D w R bl t r1 fr1 mn1 bd1 F W)
  case h =>
   refine wp_region_held_drew (S:=fun X=>X.heap[G]? =some (tbox t (.slice sa t.args.length sc))) (by kernel_rfl) HQ.out.2.2.2.1 (fun hH=>?_)
   refine Lx.tk 0 (tval t (.slice sa t.args.length sc)) rfl (Or.inl ⟨by rfl,?_⟩) ?_
   ·intro w hSw;obtain⟨g0,g1,g2⟩:=y3c hSw;(try dsimp only at hSw);go_simp
   try simp only[Act.put,jM]
   refine Lx.tk 1 (.pointer (some ⟨D.B,0,none⟩)) rfl (Or.inl ⟨by rfl,?_⟩) ?_
   ·intro w hSw;obtain⟨g0,g1,g2⟩:=y3c hSw;(try dsimp only at hSw);go_simp
   try simp only[Act.put,jM]
   refine Lx.tk 2 (bv) rfl (Or.inl ⟨by rfl,?_⟩) ?_
   ·intro w hSw;obtain⟨g0,g1,g2⟩:=y3c hSw;(try dsimp only at hSw);go_simp
   try simp only[Act.put,jM]
   refine wpAnyH_ready (rs:=[3,5]) (by kernel_rfl) (by simp) ?_
   refine AllReadyH.cons rfl (fun K hK=>?_) (AllReadyH.cons rfl (fun K hK=>?_) AllReadyH.nil)
   ·have hc2:=y2j r1.length r1 (jJ _) Y6.drew fr1 mn1 bd1 (HQ.out.1.keep (Below.refl _ Y6).drew) (HQ.out.2.1.keep (Below.refl _ Y6).drew)
    go_simp
    refine hc2.mono ?_
    rintro e W8 ⟨t2,sl2,l2,fr2,mn2,bd2,hT2,rfl,ha2,hd2,ho2⟩
    obtain⟨sa2,sc2,rfl⟩:=ha2.slice
    have hm8:=(HQ.out.2.2.1.step (Only.of_below (Below.refl _ Y6).drew)).step ho2
    have hz8:W8.heap[G]? =some (tbox t (.slice sa t.args.length sc)):=(ho2.block G HGl.out (by have:=HBG.out;simp;omega)).trans HQ.out.2.2.2.1
    have hbA:=bbx W8 zbox
    have hzA:=(jH W8 zbox).1
    have hRF:R<W8.heap.size:=hm8.lt
    have haA:ArgsP (fun k=>R<k∧k≠W8.heap.size) (W8.alloc zbox) (.slice sa t.args.length sc) t.args:=(HQ.out.2.2.2.2.keep (show Y6.heap.size<=(W8.alloc zbox).heap.size from Nat.le_trans ho2.size hbA.size) (fun k hk hkl=>⟨⟨hk,by have:=ho2.size;show k≠W8.heap.size;have h9:Y6.drew.heap.size=Y6.heap.size:=rfl;omega⟩,(hbA.block k (jI hkl ho2.size)).trans (ho2.block k hkl (by have:=hm8.BR;simp;omega))⟩))
    have haB:ArgsP (fun k=>R<k∧k≠W8.heap.size) (W8.alloc zbox) (.slice sa2 t2.args.length sc2) t2.args:=ha2.keep hbA.size (fun k hk hkl=>⟨⟨jI HQ.out.2.2.1.lt hk,by omega⟩,hbA.block k hkl⟩)
    obtain⟨Y9,hrun,hY9,HEQ⟩:=EqIn.made hzA haA haB hRF (hm8.step (Only.of_below hbA)) (hd2.keep hbA) hT2
    have hzG9:Y9.heap[G]? =some (tbox t (.slice sa t.args.length sc)):=(hY9.block G (jI (jG hz8).1 hbA.size) (by have:=(jG hz8).1;simp;omega)).trans ((hbA.block G (jG hz8).1).trans hz8)
    have hzGA:(W8.alloc zbox).heap[G]? =some (tbox t (.slice sa t.args.length sc)):=(hbA.block G (jG hz8).1).trans hz8
    refine hK.out _ _ hz8 (fun hH=>?_)
    clear hK K
    try simp only[Act.put,jA,jB,jC,jM]
    refine Lx.tk 4 (.agg #[.int .i64 1,.string ⟨#[]⟩,.int .i64 t.v,.string t.fn,.slice sa t.args.length sc,.int .i64 t2.v,.string t2.fn,.slice sa2 t2.args.length sc2,.slice none 0 0]) rfl (Or.inl ⟨by rfl,?_⟩) ?_
    ·intro w hSw;(try dsimp only at hSw);go_simp
    try simp only[Act.put,jM]
    refine wpAnyH_ready (rs:=[5]) (by kernel_rfl) (by simp) ?_
    refine AllReadyH.cons rfl (fun K hK=>?_) AllReadyH.nil
    go_simp
    refine hK.out _ _ hzGA (fun hH=>?_)
    clear hK K
    try simp only[Act.put,jA,jB,jC,jM]
    refine wpAnyH_ready (rs:=[6]) (by kernel_rfl) (by simp) ?_
    refine AllReadyH.cons rfl (fun K hK=>?_) AllReadyH.nil
    rw[if_pos (by rfl)]
    refine Lx.y02 27 _ _ rfl (.pointer (some ⟨W8.heap.size,0,none⟩)) (fval (fEq t t2) (.slice sa t.args.length sc) (.slice sa2 t2.args.length sc2) (.slice none 0 0)) rfl rfl hrun ?_
    refine hK.out _ _ hzG9 (fun hH=>?_)
    clear hK K
    try simp only[Act.put,jA,jB,jC]
    refine wpAnyH_done (by kernel_rfl) ?_ _
    obtain⟨F,hF⟩:∃F,W8.heap.size=F:=⟨_,rfl⟩
    rw[hF]at HEQ
    rw[hF]
    generalize tval t2 (.slice sa2 t2.args.length sc2)=u1
    generalize Value.agg #[.int .i64 1,.string ⟨#[]⟩,.int .i64 t.v,.string t.fn,.slice sa t.args.length sc,.int .i64 t2.v,.string t2.fn,.slice sa2 t2.args.length sc2,.slice none 0 0]=u2
    exact CutN.normal F u1 u2 rfl HEQ.out
   ·have hbA:=(bbx Y6 zbox).drew
    have hzA:((Y6.alloc zbox).drew).heap[Y6.heap.size]? =some zbox:=(jH Y6 zbox).1
    obtain⟨XA,hXA⟩:∃X,(Y6.alloc zbox).drew=X:=⟨_,rfl⟩
    rw[hXA]at hbA hzA
    have hc2:=y2j r1.length r1 (jJ _) XA fr1 mn1 bd1 (HQ.out.1.keep hbA) (HQ.out.2.1.keep hbA)
    have hzGA:XA.heap[G]? =some (tbox t (.slice sa t.args.length sc)):=(hbA.block G HGl.out).trans HQ.out.2.2.2.1
    go_simp
    try rw[hXA]
    refine hK.out _ _ hzGA (fun hH=>?_)
    clear hK K
    try simp only[Act.put,jA,jB,jC,jM]
    refine wpAnyH_ready (rs:=[3]) (by kernel_rfl) (by simp) ?_
    refine AllReadyH.cons rfl (fun K hK=>?_) AllReadyH.nil
    go_simp
    refine hc2.mono ?_
    rintro e W8 ⟨t2,sl2,l2,fr2,mn2,bd2,hT2,rfl,ha2,hd2,ho2⟩
    obtain⟨sa2,sc2,rfl⟩:=ha2.slice
    have hmA:=HQ.out.2.2.1.step (Only.of_below (B:=[D.B]) hbA)
    have hm8:=hmA.step ho2
    have hYA:Y6.heap.size<XA.heap.size:=(jG hzA).1
    have hBY:D.B<Y6.heap.size:=HQ.out.1.lt
    have hz8:W8.heap[G]? =some (tbox t (.slice sa t.args.length sc)):=(ho2.block G (Nat.lt_trans HGl.out hYA) (by have:=HBG.out;simp;omega)).trans hzGA
    have hF8:W8.heap[Y6.heap.size]? =some zbox:=(ho2.block _ hYA (by simp;omega)).trans hzA
    have hRF:R<Y6.heap.size:=HQ.out.2.2.1.lt
    have haA:ArgsP (fun k=>R<k∧k≠Y6.heap.size) W8 (.slice sa t.args.length sc) t.args:=HQ.out.2.2.2.2.keep (Nat.le_trans hbA.size ho2.size) (fun k hk hkl=>⟨⟨hk,by omega⟩,(ho2.block k (Nat.lt_trans hkl hYA) (by have:=hm8.BR;simp;omega)).trans (hbA.block k hkl)⟩)
    have haB:ArgsP (fun k=>R<k∧k≠Y6.heap.size) W8 (.slice sa2 t2.args.length sc2) t2.args:=ha2.keep (jJ _) (fun k hk hkl=>⟨⟨by omega,by omega⟩,rfl⟩)
    obtain⟨Y9,hrun,hY9,HEQ⟩:=EqIn.made hF8 haA haB hRF hm8 hd2 hT2
    have hzG9:Y9.heap[G]? =some (tbox t (.slice sa t.args.length sc)):=(hY9.block G (jG hz8).1 (by have:=HGl.out;simp;omega)).trans hz8
    refine hK.out _ _ hz8 (fun hH=>?_)
    clear hK K
    try simp only[Act.put,jA,jB,jC,jM]
    refine Lx.tk 4 (.agg #[.int .i64 1,.string ⟨#[]⟩,.int .i64 t.v,.string t.fn,.slice sa t.args.length sc,.int .i64 t2.v,.string t2.fn,.slice sa2 t2.args.length sc2,.slice none 0 0]) rfl (Or.inl ⟨by rfl,?_⟩) ?_
    ·intro w hSw;(try dsimp only at hSw);go_simp
    try simp only[Act.put,jM]
    refine wpAnyH_ready (rs:=[6]) (by kernel_rfl) (by simp) ?_
    refine AllReadyH.cons rfl (fun K hK=>?_) AllReadyH.nil
    rw[if_pos (by rfl)]
    refine Lx.y02 27 _ _ rfl (.pointer (some ⟨Y6.heap.size,0,none⟩)) (fval (fEq t t2) (.slice sa t.args.length sc) (.slice sa2 t2.args.length sc2) (.slice none 0 0)) rfl rfl hrun ?_
    refine hK.out _ _ hzG9 (fun hH=>?_)
    clear hK K
    try simp only[Act.put,jA,jB,jC]
    refine wpAnyH_done (by kernel_rfl) ?_ _
    obtain⟨F,hF⟩:∃F,Y6.heap.size=F:=⟨_,rfl⟩
    rw[hF]at HEQ
    rw[hF]
    generalize tval t2 (.slice sa2 t2.args.length sc2)=u1
    generalize Value.agg #[.int .i64 1,.string ⟨#[]⟩,.int .i64 t.v,.string t.fn,.slice sa t.args.length sc,.int .i64 t2.v,.string t2.fn,.slice sa2 t2.args.length sc2,.slice none 0 0]=u2
    exact CutN.normal F u1 u2 rfl HEQ.out
  case hQ =>
   intro F u1 u2 W9 hI
   obtain⟨t2,sl,sl2,l2,fr2,mn2,bd2,hF9,hf9,hRF,hm9,hd9,hT2⟩:=hI
   obtain⟨la,lc,rfl,-,-⟩:=hf9.l.slice'
   obtain⟨ra,rc,rfl,-,-⟩:=hf9.r.slice'
   have HT:=hid (datom_ne H3.out.2.2.2.2.1 hx.1 hx.2 hT2)
   obtain⟨c0,c1,c2,c3,c4,c5,c6,c7,c8⟩:=eq_cells hF9
   have hFl:=(jG hF9).1
   have hbX:=bbx W9 (fbox (fEq t t2) (.slice la (fEq t t2).l.args.length lc) (.slice ra (fEq t t2).r.args.length rc) (.slice none 0 0))
   have hzX:=(jH W9 (fbox (fEq t t2) (.slice la (fEq t t2).l.args.length lc) (.slice ra (fEq t t2).r.args.length rc) (.slice none 0 0))).1
   have hFX:=(hbX.block F hFl).trans hF9
   have hfX:=hf9.keep (Q:=fun k=>R<k∧k≠F) hbX.size (fun k hk hkl=>⟨hk,hbX.block k hkl⟩)
   have hKd:=y27 hzX (P:=fun k=>R<k∧k≠F) ⟨by omega,by omega⟩ hfX
   have hmX:=hm9.far (L:=[]) ⟨hbX.os,hbX.tape,hbX.output,hbX.size,fun k hk _=>hbX.block k hk⟩ (by simp)
   have hdX:=hd9.keep hbX
   obtain⟨X,hX⟩:∃X,W9.alloc (fbox (fEq t t2) (.slice la (fEq t t2).l.args.length lc) (.slice ra (fEq t t2).r.args.length rc) (.slice none 0 0))=X:=⟨_,rfl⟩
   rw[hX]at hFX hKd hmX hdX
   obtain⟨Y,hrun1,hY,oY⟩:=y0g (f:=fOp 2 [fEq t t2]) (P:=fun k=>R<k∧k≠F) (X:=X) rfl hFX rfl ⟨ArgsP.nil _ _,ArgsP.nil _ _,hKd⟩
   have hBR:=hm9.BR
   have hmY:=hmX.far oY (by simp;omega)
   have hdY:=hdX.turn2 oY (by simp;omega) (by simp;omega)
   have hfY:FmP (fun k=>R<k) Y (fOp 2 [fEq t t2]) (.slice none 0 0) (.slice none 0 0) (.slice (some ⟨W9.heap.size,0,none⟩) 1 1):=⟨ArgsP.nil _ _,ArgsP.nil _ _,hKd.keep oY.size (fun k hk hkl=>⟨hk.1,oY.block k hkl (by simpa using hk.2)⟩)⟩
   obtain⟨V,hrun2,HV⟩:=hmY.fin hdY hfY (fun k hk=>hk)
   obtain⟨d0,d1,d2,d3,d4,d5,d6,d7,d8⟩:=op_cells hY
   have HX:Hid (W9.alloc (.cells #[.int .i64 1,.string ⟨#[]⟩,.int .i64 t.v,.string t.fn,.slice la t.args.length lc,.int .i64 t2.v,.string t2.fn,.slice ra t2.args.length rc,.slice none 0 0] 27)=X):=hX
   simp only[fEq,Fm.l,Fm.r]at c4 c7
   clear hF9 hf9 hm9 hd9 hT2 hFl hbX hzX hFX hfX hKd hmX hdX hX hY oY hmY hdY hfY
   go_upto_region 8 with fail
   go_wp2_with (first|(refine wsr rfl 27 _ _ rfl (.pointer (some ⟨F,0,none⟩)) (.agg #[.int .i64 2,.string ⟨#[]⟩,.int .i64 0,.string ⟨#[]⟩,.slice none 0 0,.int .i64 0,.string ⟨#[]⟩,.slice none 0 0,.slice (some ⟨W9.heap.size,0,none⟩) 1 1]) rfl rfl (by rw[show _=X from HX.out];exact hrun1) ?_)|(refine wsr rfl 27 _ _ rfl (.pointer (some ⟨R,0,none⟩)) (.agg #[.int .i64 2,.string ⟨#[]⟩,.int .i64 0,.string ⟨#[]⟩,.slice none 0 0,.int .i64 0,.string ⟨#[]⟩,.slice none 0 0,.slice (some ⟨W9.heap.size,0,none⟩) 1 1]) rfl rfl hrun2 ?_))
   have HVC:Hid (FC9 V R (.int .i64 2) (.string ⟨#[]⟩) (.int .i64 0) (.string ⟨#[]⟩) (.slice none 0 0) (.int .i64 0) (.string ⟨#[]⟩) (.slice none 0 0) (.slice (some ⟨W9.heap.size,0,none⟩) 1 1)):=HV.out.1
   obtain⟨v0,v1,v2,v3,v4,v5,v6,v7,v8⟩:=HVC.out
   refine bodyPost_ret (v:=.agg #[.int .i64 2,.string ⟨#[]⟩,.int .i64 0,.string ⟨#[]⟩,.slice none 0 0,.int .i64 0,.string ⟨#[]⟩,.slice none 0 0,.slice (some ⟨W9.heap.size,0,none⟩) 1 1]) (by simp[results,Tryz.results143,go_sem,v0,v1,v2,v3,v4,v5,v6,v7,v8]) rfl ?_
   exact⟨fOp 2 [fEq t t2],_,_,_,l2,fr2,mn2,bd2,HT.out,rfl,HV.out.2.1,HV.out.2.2.1,HV.out.2.2.2⟩
 | false =>
  have hi2:=y16 hd4 [61]
  obtain⟨b2,hb2⟩:∃b,(decide (bd1<0)&&isM [61] l1)=b:=⟨_,rfl⟩
  rw[hb2]at hi2
  have HB2:=hid hb2
  have H4:=hid (And.intro hd4 (And.intro hm4 (And.intro ha4 hz4)))
  have hb4':=hb4
  clear hb2 hd4 hm4 ha4 hz4 hb4
  go_wp2_with fail
  refine hi2.mono ?_
  rintro e W5 ⟨rfl,hb5⟩
  have hd5:=H4.out.1.keep hb5
  have hm5:=H4.out.2.1.step (Only.of_below (B:=[D.B]) hb5)
  have ha5:=H4.out.2.2.1.grow hb5
  have hz5:=(hb5.block G (jG H4.out.2.2.2).1).trans H4.out.2.2.2
  clear hi2
  cases b2 with
  | true =>
   have hx:=HB2.out
   rw[Bool.and_eq_true,decide_eq_true_eq]at hx
   obtain⟨t1,r1,rfl,_,_⟩:=y03 hx.2
   obtain⟨i6,-,e6,f6,w6',hE6,oE6⟩:=hd5.eat
   obtain⟨Y6,hY6⟩:∃X,W5.setCell ⟨D.B,1,none⟩ (.int .i64 ((i6:Int)+1))=X:=⟨_,rfl⟩
   rw[hY6]at hE6 oE6
   have HY6:=hid hY6
   clear hY6
   go_upto_region 6 with fail
   rw[show _=Y6 from HY6.out]
   have hA6:=HSW.out _ ((hm5.step oE6).on)
   have hm6:=hm5.step oE6
   have hBG:D.B≠G:=by have:=hm6.BR;have:=H3.out.2.2.2.2.2;omega
   have hz6:=(oE6.block G (jG hz5).1 (by simp;omega)).trans hz5
   have ha6:ArgsP (fun k=>R<k) Y6 (.slice sa t.args.length sc) t.args:=ha5.keep oE6.size (fun k hk hkl=>⟨hk,oE6.block k hkl (by have:=hm6.BR;simp;omega)⟩)
   have HQ:=hid (And.intro hE6 (And.intro hA6 (And.intro hm6 (And.intro hz6 ha6))))
   have HRG:Hid (R<G):=H3.out.2.2.2.2.2
   have HBG:=hid hBG
   have hGl:G<Y6.heap.size:=(jG hz6).1
   have HGl:=hid hGl
   clear hA6 hm6 hz6 ha6 hE6 oE6 hd5 hm5 ha5 hz5 hb5 hBG hGl
   apply wp_cutN (I:=fun F W=>EqIn D w R bl t r1 fr1 mn1 bd1 F W)
   case h =>
    refine wp_region_held_drew (S:=fun X=>X.heap[G]? =some (tbox t (.slice sa t.args.length sc))) (by kernel_rfl) HQ.out.2.2.2.1 (fun hH=>?_)
    refine Lx.tk 0 (tval t (.slice sa t.args.length sc)) rfl (Or.inl ⟨by rfl,?_⟩) ?_
    ·intro w hSw;obtain⟨g0,g1,g2⟩:=y3c hSw;(try dsimp only at hSw);go_simp
    try simp only[Act.put,jM]
    refine Lx.tk 1 (.pointer (some ⟨D.B,0,none⟩)) rfl (Or.inl ⟨by rfl,?_⟩) ?_
    ·intro w hSw;obtain⟨g0,g1,g2⟩:=y3c hSw;(try dsimp only at hSw);go_simp
    try simp only[Act.put,jM]
    refine Lx.tk 2 (bv) rfl (Or.inl ⟨by rfl,?_⟩) ?_
    ·intro w hSw;obtain⟨g0,g1,g2⟩:=y3c hSw;(try dsimp only at hSw);go_simp
    try simp only[Act.put,jM]
    refine wpAnyH_ready (rs:=[3,5]) (by kernel_rfl) (by simp) ?_
    refine AllReadyH.cons rfl (fun K hK=>?_) (AllReadyH.cons rfl (fun K hK=>?_) AllReadyH.nil)
    ·have hc2:=y2j r1.length r1 (jJ _) Y6.drew fr1 mn1 bd1 (HQ.out.1.keep (Below.refl _ Y6).drew) (HQ.out.2.1.keep (Below.refl _ Y6).drew)
     go_simp
     refine hc2.mono ?_
     rintro e W8 ⟨t2,sl2,l2,fr2,mn2,bd2,hT2,rfl,ha2,hd2,ho2⟩
     obtain⟨sa2,sc2,rfl⟩:=ha2.slice
     have hm8:=(HQ.out.2.2.1.step (Only.of_below (Below.refl _ Y6).drew)).step ho2
     have hz8:W8.heap[G]? =some (tbox t (.slice sa t.args.length sc)):=(ho2.block G HGl.out (by have:=HBG.out;simp;omega)).trans HQ.out.2.2.2.1
     have hbA:=bbx W8 zbox
     have hzA:=(jH W8 zbox).1
     have hRF:R<W8.heap.size:=hm8.lt
     have haA:ArgsP (fun k=>R<k∧k≠W8.heap.size) (W8.alloc zbox) (.slice sa t.args.length sc) t.args:=(HQ.out.2.2.2.2.keep (show Y6.heap.size<=(W8.alloc zbox).heap.size from Nat.le_trans ho2.size hbA.size) (fun k hk hkl=>⟨⟨hk,by have:=ho2.size;show k≠W8.heap.size;have h9:Y6.drew.heap.size=Y6.heap.size:=rfl;omega⟩,(hbA.block k (jI hkl ho2.size)).trans (ho2.block k hkl (by have:=hm8.BR;simp;omega))⟩))
     have haB:ArgsP (fun k=>R<k∧k≠W8.heap.size) (W8.alloc zbox) (.slice sa2 t2.args.length sc2) t2.args:=ha2.keep hbA.size (fun k hk hkl=>⟨⟨jI HQ.out.2.2.1.lt hk,by omega⟩,hbA.block k hkl⟩)
     obtain⟨Y9,hrun,hY9,HEQ⟩:=EqIn.made hzA haA haB hRF (hm8.step (Only.of_below hbA)) (hd2.keep hbA) hT2
     have hzG9:Y9.heap[G]? =some (tbox t (.slice sa t.args.length sc)):=(hY9.block G (jI (jG hz8).1 hbA.size) (by have:=(jG hz8).1;simp;omega)).trans ((hbA.block G (jG hz8).1).trans hz8)
     have hzGA:(W8.alloc zbox).heap[G]? =some (tbox t (.slice sa t.args.length sc)):=(hbA.block G (jG hz8).1).trans hz8
     refine hK.out _ _ hz8 (fun hH=>?_)
     clear hK K
     try simp only[Act.put,jA,jB,jC,jM]
     refine Lx.tk 4 (.agg #[.int .i64 1,.string ⟨#[]⟩,.int .i64 t.v,.string t.fn,.slice sa t.args.length sc,.int .i64 t2.v,.string t2.fn,.slice sa2 t2.args.length sc2,.slice none 0 0]) rfl (Or.inl ⟨by rfl,?_⟩) ?_
     ·intro w hSw;(try dsimp only at hSw);go_simp
     try simp only[Act.put,jM]
     refine wpAnyH_ready (rs:=[5]) (by kernel_rfl) (by simp) ?_
     refine AllReadyH.cons rfl (fun K hK=>?_) AllReadyH.nil
     go_simp
     refine hK.out _ _ hzGA (fun hH=>?_)
     clear hK K
     try simp only[Act.put,jA,jB,jC,jM]
     refine wpAnyH_ready (rs:=[6]) (by kernel_rfl) (by simp) ?_
     refine AllReadyH.cons rfl (fun K hK=>?_) AllReadyH.nil
     rw[if_pos (by rfl)]
     refine Lx.y02 27 _ _ rfl (.pointer (some ⟨W8.heap.size,0,none⟩)) (fval (fEq t t2) (.slice sa t.args.length sc) (.slice sa2 t2.args.length sc2) (.slice none 0 0)) rfl rfl hrun ?_
     refine hK.out _ _ hzG9 (fun hH=>?_)
     clear hK K
     try simp only[Act.put,jA,jB,jC]
     refine wpAnyH_done (by kernel_rfl) ?_ _
     obtain⟨F,hF⟩:∃F,W8.heap.size=F:=⟨_,rfl⟩
     rw[hF]at HEQ
     rw[hF]
     generalize tval t2 (.slice sa2 t2.args.length sc2)=u1
     generalize Value.agg #[.int .i64 1,.string ⟨#[]⟩,.int .i64 t.v,.string t.fn,.slice sa t.args.length sc,.int .i64 t2.v,.string t2.fn,.slice sa2 t2.args.length sc2,.slice none 0 0]=u2
     exact CutN.normal F u1 u2 rfl HEQ.out
    ·have hbA:=(bbx Y6 zbox).drew
     have hzA:((Y6.alloc zbox).drew).heap[Y6.heap.size]? =some zbox:=(jH Y6 zbox).1
     obtain⟨XA,hXA⟩:∃X,(Y6.alloc zbox).drew=X:=⟨_,rfl⟩
     rw[hXA]at hbA hzA
     have hc2:=y2j r1.length r1 (jJ _) XA fr1 mn1 bd1 (HQ.out.1.keep hbA) (HQ.out.2.1.keep hbA)
     have hzGA:XA.heap[G]? =some (tbox t (.slice sa t.args.length sc)):=(hbA.block G HGl.out).trans HQ.out.2.2.2.1
     go_simp
     try rw[hXA]
     refine hK.out _ _ hzGA (fun hH=>?_)
     clear hK K
     try simp only[Act.put,jA,jB,jC,jM]
     refine wpAnyH_ready (rs:=[3]) (by kernel_rfl) (by simp) ?_
     refine AllReadyH.cons rfl (fun K hK=>?_) AllReadyH.nil
     go_simp
     refine hc2.mono ?_
     rintro e W8 ⟨t2,sl2,l2,fr2,mn2,bd2,hT2,rfl,ha2,hd2,ho2⟩
     obtain⟨sa2,sc2,rfl⟩:=ha2.slice
     have hmA:=HQ.out.2.2.1.step (Only.of_below (B:=[D.B]) hbA)
     have hm8:=hmA.step ho2
     have hYA:Y6.heap.size<XA.heap.size:=(jG hzA).1
     have hBY:D.B<Y6.heap.size:=HQ.out.1.lt
     have hz8:W8.heap[G]? =some (tbox t (.slice sa t.args.length sc)):=(ho2.block G (Nat.lt_trans HGl.out hYA) (by have:=HBG.out;simp;omega)).trans hzGA
     have hF8:W8.heap[Y6.heap.size]? =some zbox:=(ho2.block _ hYA (by simp;omega)).trans hzA
     have hRF:R<Y6.heap.size:=HQ.out.2.2.1.lt
     have haA:ArgsP (fun k=>R<k∧k≠Y6.heap.size) W8 (.slice sa t.args.length sc) t.args:=HQ.out.2.2.2.2.keep (Nat.le_trans hbA.size ho2.size) (fun k hk hkl=>⟨⟨hk,by omega⟩,(ho2.block k (Nat.lt_trans hkl hYA) (by have:=hm8.BR;simp;omega)).trans (hbA.block k hkl)⟩)
     have haB:ArgsP (fun k=>R<k∧k≠Y6.heap.size) W8 (.slice sa2 t2.args.length sc2) t2.args:=ha2.keep (jJ _) (fun k hk hkl=>⟨⟨by omega,by omega⟩,rfl⟩)
     obtain⟨Y9,hrun,hY9,HEQ⟩:=EqIn.made hF8 haA haB hRF hm8 hd2 hT2
     have hzG9:Y9.heap[G]? =some (tbox t (.slice sa t.args.length sc)):=(hY9.block G (jG hz8).1 (by have:=HGl.out;simp;omega)).trans hz8
     refine hK.out _ _ hz8 (fun hH=>?_)
     clear hK K
     try simp only[Act.put,jA,jB,jC,jM]
     refine Lx.tk 4 (.agg #[.int .i64 1,.string ⟨#[]⟩,.int .i64 t.v,.string t.fn,.slice sa t.args.length sc,.int .i64 t2.v,.string t2.fn,.slice sa2 t2.args.length sc2,.slice none 0 0]) rfl (Or.inl ⟨by rfl,?_⟩) ?_
     ·intro w hSw;(try dsimp only at hSw);go_simp
     try simp only[Act.put,jM]
     refine wpAnyH_ready (rs:=[6]) (by kernel_rfl) (by simp) ?_
     refine AllReadyH.cons rfl (fun K hK=>?_) AllReadyH.nil
     rw[if_pos (by rfl)]
     refine Lx.y02 27 _ _ rfl (.pointer (some ⟨Y6.heap.size,0,none⟩)) (fval (fEq t t2) (.slice sa t.args.length sc) (.slice sa2 t2.args.length sc2) (.slice none 0 0)) rfl rfl hrun ?_
     refine hK.out _ _ hzG9 (fun hH=>?_)
     clear hK K
     try simp only[Act.put,jA,jB,jC]
     refine wpAnyH_done (by kernel_rfl) ?_ _
     obtain⟨F,hF⟩:∃F,Y6.heap.size=F:=⟨_,rfl⟩
     rw[hF]at HEQ
     rw[hF]
     generalize tval t2 (.slice sa2 t2.args.length sc2)=u1
     generalize Value.agg #[.int .i64 1,.string ⟨#[]⟩,.int .i64 t.v,.string t.fn,.slice sa t.args.length sc,.int .i64 t2.v,.string t2.fn,.slice sa2 t2.args.length sc2,.slice none 0 0]=u2
     exact CutN.normal F u1 u2 rfl HEQ.out
   case hQ =>
    intro F u1 u2 W9 hI
    obtain⟨t2,sl,sl2,l2,fr2,mn2,bd2,hF9,hf9,hRF,hm9,hd9,hT2⟩:=hI
    obtain⟨la,lc,rfl,-,-⟩:=hf9.l.slice'
    obtain⟨ra,rc,rfl,-,-⟩:=hf9.r.slice'
    have HT:=hid (datom_eq H3.out.2.2.2.2.1 hx.1 hx.2 hT2)
    obtain⟨c0,c1,c2,c3,c4,c5,c6,c7,c8⟩:=eq_cells hF9
    obtain⟨V,hrun2,HV⟩:=hm9.fin hd9 (hf9.keep (jJ _) (fun k hk _=>⟨hk,rfl⟩)) (fun k hk=>hk.1)
    simp only[fEq,Fm.l,Fm.r]at c4 c7
    clear hF9 hf9 hm9 hd9 hT2
    go_wp2_with (first|(refine wsr rfl 27 _ _ rfl (.pointer (some ⟨R,0,none⟩)) (.agg #[.int .i64 1,.string ⟨#[]⟩,.int .i64 t.v,.string t.fn,.slice la t.args.length lc,.int .i64 t2.v,.string t2.fn,.slice ra t2.args.length rc,.slice none 0 0]) rfl rfl hrun2 ?_))
    have HVC:Hid (FC9 V R (.int .i64 1) (.string ⟨#[]⟩) (.int .i64 t.v) (.string t.fn) (.slice la t.args.length lc) (.int .i64 t2.v) (.string t2.fn) (.slice ra t2.args.length rc) (.slice none 0 0)):=HV.out.1
    obtain⟨v0,v1,v2,v3,v4,v5,v6,v7,v8⟩:=HVC.out
    refine bodyPost_ret (v:=.agg #[.int .i64 1,.string ⟨#[]⟩,.int .i64 t.v,.string t.fn,.slice la t.args.length lc,.int .i64 t2.v,.string t2.fn,.slice ra t2.args.length rc,.slice none 0 0]) (by simp[results,Tryz.results143,go_sem,v0,v1,v2,v3,v4,v5,v6,v7,v8]) rfl ?_
    exact⟨fEq t t2,_,_,_,l2,fr2,mn2,bd2,HT.out,rfl,HV.out.2.1,HV.out.2.2.1,HV.out.2.2.2⟩
  | false =>
   have ha5':ArgsP (fun k=>R<k∧k≠G) W5 (.slice sa t.args.length sc) t.args:=HAG.out W5 ((Only.of_below (B:=[D.B]) hb4').trans (Only.of_below hb5) (fun r hr=>.inl hr))
   have HT0:=datom_pred H3.out.2.2.2.2.1 HVA.out HB1.out HB2.out
   cases va with
   | true =>
    have HT:=hid HT0
    rw[if_pos rfl]at HT
    have hfl:=y29 hd5
    have HQ5:=hid (And.intro hm5 (And.intro ha5' hz5))
    clear HT0 hd5 hm5 ha5 ha5' hz5 hb5
    go_wp2_with fail
    refine hfl.mono ?_
    rintro e W6 ⟨rfl,hd6,ho6⟩
    have hm6:=HQ5.out.1.step ho6
    have hBG6:D.B≠G:=by have:=hm6.BR;have:=H3.out.2.2.2.2.2;omega
    have hza:=(ho6.block G (jG HQ5.out.2.2).1 (by simp;omega)).trans HQ5.out.2.2
    have ha6:ArgsP (fun k=>R<k∧k≠G) W6 (.slice sa t.args.length sc) t.args:=HQ5.out.2.1.keep ho6.size (fun k hk hkl=>⟨hk,ho6.block k hkl (by have:=hm6.BR;simp;omega)⟩)
    clear hfl ho6
    have hz6:=hza
    have q1:W6.cell? ⟨G,1,none⟩=some (.string t.fn):=cst (vs:=[_,_,_]) hz6 rfl
    have qf:W6.frozen? ⟨G,1,none⟩=false:=frc hz6
    have e7:=heap_setCell_same W6 G 1 _ 24 (.string (⟨#[64]⟩++t.fn)) hz6
    have o7:=y07 (Below.refl _ W6) G 1 (.string (⟨#[64]⟩++t.fn))
    have hGl:=(jG hz6).1
    have hRG7:R<G:=H3.out.2.2.2.2.2
    have hsz7:¬(9223372036854775807<1+t.fn.size):=by have:=H3.out.2.2.2.2.1.2.2;omega
    have hBR7:=hm6.BR
    have hm7:=hm6.far o7 (by simp;omega)
    have hd7:=hd6.turn2 o7 (by simp;omega) (by simp;omega)
    have ha7:ArgsP (fun k=>R<k∧k≠G) W6 (.slice sa t.args.length sc) t.args:=ha6
    have ha8:ArgsP (fun k=>R<k∧k≠G) (W6.setCell ⟨G,1,none⟩ (.string (⟨#[64]⟩++t.fn))) (.slice sa t.args.length sc) t.args:=ha7.keep o7.size (fun k hk hkl=>⟨hk,o7.block k hkl (by simpa using hk.2)⟩)
    have hz7:(W6.setCell ⟨G,1,none⟩ (.string (⟨#[64]⟩++t.fn))).heap[G]? =some (tbox (.mk t.v (⟨#[64]⟩++t.fn) t.args) (.slice sa t.args.length sc)):=(by simpa using e7:(W6.setCell ⟨G,1,none⟩ (.string (⟨#[64]⟩++t.fn))).heap[G]? =some (.cells #[.int .i64 t.v,.string (⟨#[64]⟩++t.fn),.slice sa t.args.length sc] 24 (0,0)))
    obtain⟨W7,hW7⟩:∃X,W6.setCell ⟨G,1,none⟩ (.string (⟨#[64]⟩++t.fn))=X:=⟨_,rfl⟩
    rw[hW7]at hm7 hd7 ha8 hz7
    have HW7:=hid hW7
    have H7:=hid (And.intro hm7 (And.intro hd7 (And.intro ha8 (And.intro hz7 hRG7))))
    clear hz6 e7 o7 hGl hm7 hd7 ha7 ha8 hW7 hd6 hm6
    go_upto_region 13 with fail
    rw[show _=W7 from HW7.out]
    refine wp_region_held_drew (S:=fun X=>X.heap[G]? =some (tbox (.mk t.v (⟨#[64]⟩++t.fn) t.args) (.slice sa t.args.length sc))) (by kernel_rfl) hz7 (fun hH=>?_)
    refine Lx.tk 0 (.agg #[.int .i64 t.v,.string (⟨#[64]⟩++t.fn),.slice sa t.args.length sc]) rfl (Or.inl ⟨by rfl,?_⟩) ?_
    ·intro w hSw;obtain⟨g0,g1,g2⟩:=p_cells hSw;(try dsimp only at hSw);go_simp
    try simp only[Act.put,jM]
    refine wpAnyH_ready (rs:=[1]) (by kernel_rfl) (by simp) ?_
    refine AllReadyH.cons rfl (fun K hK=>?_) AllReadyH.nil
    go_simp
    refine (true_any W7.drew).mono ?_
    rintro e W8 ⟨rfl,hb8⟩
    have hb78:Below W7.heap.size W7 W8:=(Below.refl _ W7).drew.trans hb8
    have hm8:=H7.out.1.step (Only.of_below (B:=[D.B]) hb78)
    have hd8:=H7.out.2.1.keep hb78
    have hz8:=(hb78.block G (jG H7.out.2.2.2.1).1).trans H7.out.2.2.2.1
    have hf8:FmP (fun k=>R<k∧k≠G) W8 (fPred t) (.slice sa t.args.length sc) (.slice none 0 0) (.slice none 0 0):=⟨H7.out.2.2.1.keep hb78.size (fun k hk hkl=>⟨hk,hb78.block k hkl⟩),ArgsP.nil _ _,KidsP.nil _ _⟩
    obtain⟨V,hrun2',HV⟩:=hm8.fin hd8 (hf8.keep (jJ _) (fun k hk _=>⟨hk,rfl⟩)) (fun k hk=>hk.1)
    have hrun2:(Instr.storeAt 27 (.pointer (some ⟨R,0,none⟩)) (.agg #[.int .i64 1,.string ⟨#[]⟩,.int .i64 t.v,.string (⟨#[64]⟩++t.fn),.slice sa t.args.length sc,.int .i64 0,.string ⟨#[36,116,114,117,101]⟩,.slice none 0 0,.slice none 0 0])).run Tryz.prog W8=.ok () V:=by rw[<-pval];exact hrun2'
    have hV9:V.heap[G]? =some (tbox (.mk t.v (⟨#[64]⟩++t.fn) t.args) (.slice sa t.args.length sc)):=by
     obtain⟨V',hr',hV',oV'⟩:=y0g rfl hm8.res rfl hf8
     rw[hr']at hrun2'
     cases hrun2'
     exact (oV'.block G (jG hz8).1 (by have:=H7.out.2.2.2.2;simp;omega)).trans hz8
    refine hK.out _ _ hz8 (fun hH=>?_)
    clear hK K
    try simp only[Act.put,jA,jB,jC,jM]
    refine Lx.tk 2 (.agg #[.int .i64 1,.string ⟨#[]⟩,.int .i64 t.v,.string (⟨#[64]⟩++t.fn),.slice sa t.args.length sc,.int .i64 0,.string ⟨#[36,116,114,117,101]⟩,.slice none 0 0,.slice none 0 0]) rfl (Or.inl ⟨by rfl,?_⟩) ?_
    ·intro w hSw;(try dsimp only at hSw);go_simp
    try simp only[Act.put,jM]
    refine wpAnyH_ready (rs:=[3]) (by kernel_rfl) (by simp) ?_
    refine AllReadyH.cons rfl (fun K hK=>?_) AllReadyH.nil
    rw[if_pos (by rfl)]
    refine Lx.y02 27 (.tmp 4) (.tmp 47) rfl _ _ rfl (by kernel_rfl) hrun2 ?_
    refine hK.out _ _ hV9 (fun hH=>?_)
    clear hK K
    try simp only[Act.put,jA,jB,jC]
    refine wpAnyH_done (by kernel_rfl) ?_ _
    go_wp2
    have HVC:Hid (FC9 V R (.int .i64 1) (.string ⟨#[]⟩) (.int .i64 t.v) (.string (⟨#[64]⟩++t.fn)) (.slice sa t.args.length sc) (.int .i64 0) (.string ⟨#[36,116,114,117,101]⟩) (.slice none 0 0) (.slice none 0 0)):=HV.out.1
    obtain⟨v0,v1,v2,v3,v4,v5,v6,v7,v8⟩:=HVC.out
    refine bodyPost_ret (v:=.agg #[.int .i64 1,.string ⟨#[]⟩,.int .i64 t.v,.string (⟨#[64]⟩++t.fn),.slice sa t.args.length sc,.int .i64 0,.string ⟨#[36,116,114,117,101]⟩,.slice none 0 0,.slice none 0 0]) (by simp[results,Tryz.results143,go_sem,v0,v1,v2,v3,v4,v5,v6,v7,v8]) rfl ?_
    exact⟨fPred t,_,_,_,l1,fr1,mn1,_,HT.out,rfl,HV.out.2.1,HV.out.2.2.1,HV.out.2.2.2⟩
   | false =>
    have HT:=hid HT0
    rw[if_neg (by simp)]at HT
    clear HT0 hb5
    have hz6:=hz5
    have q1:W5.cell? ⟨G,1,none⟩=some (.string t.fn):=cst (vs:=[_,_,_]) hz6 rfl
    have qf:W5.frozen? ⟨G,1,none⟩=false:=frc hz6
    have e7:=heap_setCell_same W5 G 1 _ 24 (.string (⟨#[64]⟩++t.fn)) hz6
    have o7:=y07 (Below.refl _ W5) G 1 (.string (⟨#[64]⟩++t.fn))
    have hGl:=(jG hz6).1
    have hRG7:R<G:=H3.out.2.2.2.2.2
    have hsz7:¬(9223372036854775807<1+t.fn.size):=by have:=H3.out.2.2.2.2.1.2.2;omega
    have hBR7:=hm5.BR
    have hm7:=hm5.far o7 (by simp;omega)
    have hd7:=hd5.turn2 o7 (by simp;omega) (by simp;omega)
    have ha7:ArgsP (fun k=>R<k∧k≠G) W5 (.slice sa t.args.length sc) t.args:=ha5'
    have ha8:ArgsP (fun k=>R<k∧k≠G) (W5.setCell ⟨G,1,none⟩ (.string (⟨#[64]⟩++t.fn))) (.slice sa t.args.length sc) t.args:=ha7.keep o7.size (fun k hk hkl=>⟨hk,o7.block k hkl (by simpa using hk.2)⟩)
    have hz7:(W5.setCell ⟨G,1,none⟩ (.string (⟨#[64]⟩++t.fn))).heap[G]? =some (tbox (.mk t.v (⟨#[64]⟩++t.fn) t.args) (.slice sa t.args.length sc)):=(by simpa using e7:(W5.setCell ⟨G,1,none⟩ (.string (⟨#[64]⟩++t.fn))).heap[G]? =some (.cells #[.int .i64 t.v,.string (⟨#[64]⟩++t.fn),.slice sa t.args.length sc] 24 (0,0)))
    obtain⟨W7,hW7⟩:∃X,W5.setCell ⟨G,1,none⟩ (.string (⟨#[64]⟩++t.fn))=X:=⟨_,rfl⟩
    rw[hW7]at hm7 hd7 ha8 hz7
    have HW7:=hid hW7
    have H7:=hid (And.intro hm7 (And.intro hd7 (And.intro ha8 (And.intro hz7 hRG7))))
    clear hz6 e7 o7 hGl hm7 hd7 ha7 ha8 hW7 hd5 hm5
    go_upto_region 13 with fail
    rw[show _=W7 from HW7.out]
    refine wp_region_held_drew (S:=fun X=>X.heap[G]? =some (tbox (.mk t.v (⟨#[64]⟩++t.fn) t.args) (.slice sa t.args.length sc))) (by kernel_rfl) hz7 (fun hH=>?_)
    refine Lx.tk 0 (.agg #[.int .i64 t.v,.string (⟨#[64]⟩++t.fn),.slice sa t.args.length sc]) rfl (Or.inl ⟨by rfl,?_⟩) ?_
    ·intro w hSw;obtain⟨g0,g1,g2⟩:=p_cells hSw;(try dsimp only at hSw);go_simp
    try simp only[Act.put,jM]
    refine wpAnyH_ready (rs:=[1]) (by kernel_rfl) (by simp) ?_
    refine AllReadyH.cons rfl (fun K hK=>?_) AllReadyH.nil
    go_simp
    refine (true_any W7.drew).mono ?_
    rintro e W8 ⟨rfl,hb8⟩
    have hb78:Below W7.heap.size W7 W8:=(Below.refl _ W7).drew.trans hb8
    have hm8:=H7.out.1.step (Only.of_below (B:=[D.B]) hb78)
    have hd8:=H7.out.2.1.keep hb78
    have hz8:=(hb78.block G (jG H7.out.2.2.2.1).1).trans H7.out.2.2.2.1
    have hf8:FmP (fun k=>R<k∧k≠G) W8 (fPred t) (.slice sa t.args.length sc) (.slice none 0 0) (.slice none 0 0):=⟨H7.out.2.2.1.keep hb78.size (fun k hk hkl=>⟨hk,hb78.block k hkl⟩),ArgsP.nil _ _,KidsP.nil _ _⟩
    obtain⟨V,hrun2',HV⟩:=hm8.fin hd8 (hf8.keep (jJ _) (fun k hk _=>⟨hk,rfl⟩)) (fun k hk=>hk.1)
    have hrun2:(Instr.storeAt 27 (.pointer (some ⟨R,0,none⟩)) (.agg #[.int .i64 1,.string ⟨#[]⟩,.int .i64 t.v,.string (⟨#[64]⟩++t.fn),.slice sa t.args.length sc,.int .i64 0,.string ⟨#[36,116,114,117,101]⟩,.slice none 0 0,.slice none 0 0])).run Tryz.prog W8=.ok () V:=by rw[<-pval];exact hrun2'
    have hV9:V.heap[G]? =some (tbox (.mk t.v (⟨#[64]⟩++t.fn) t.args) (.slice sa t.args.length sc)):=by
     obtain⟨V',hr',hV',oV'⟩:=y0g rfl hm8.res rfl hf8
     rw[hr']at hrun2'
     cases hrun2'
     exact (oV'.block G (jG hz8).1 (by have:=H7.out.2.2.2.2;simp;omega)).trans hz8
    refine hK.out _ _ hz8 (fun hH=>?_)
    clear hK K
    try simp only[Act.put,jA,jB,jC,jM]
    refine Lx.tk 2 (.agg #[.int .i64 1,.string ⟨#[]⟩,.int .i64 t.v,.string (⟨#[64]⟩++t.fn),.slice sa t.args.length sc,.int .i64 0,.string ⟨#[36,116,114,117,101]⟩,.slice none 0 0,.slice none 0 0]) rfl (Or.inl ⟨by rfl,?_⟩) ?_
    ·intro w hSw;(try dsimp only at hSw);go_simp
    try simp only[Act.put,jM]
    refine wpAnyH_ready (rs:=[3]) (by kernel_rfl) (by simp) ?_
    refine AllReadyH.cons rfl (fun K hK=>?_) AllReadyH.nil
    rw[if_pos (by rfl)]
    refine Lx.y02 27 (.tmp 4) (.tmp 47) rfl _ _ rfl (by kernel_rfl) hrun2 ?_
    refine hK.out _ _ hV9 (fun hH=>?_)
    clear hK K
    try simp only[Act.put,jA,jB,jC]
    refine wpAnyH_done (by kernel_rfl) ?_ _
    go_wp2
    have HVC:Hid (FC9 V R (.int .i64 1) (.string ⟨#[]⟩) (.int .i64 t.v) (.string (⟨#[64]⟩++t.fn)) (.slice sa t.args.length sc) (.int .i64 0) (.string ⟨#[36,116,114,117,101]⟩) (.slice none 0 0) (.slice none 0 0)):=HV.out.1
    obtain⟨v0,v1,v2,v3,v4,v5,v6,v7,v8⟩:=HVC.out
    refine bodyPost_ret (v:=.agg #[.int .i64 1,.string ⟨#[]⟩,.int .i64 t.v,.string (⟨#[64]⟩++t.fn),.slice sa t.args.length sc,.int .i64 0,.string ⟨#[36,116,114,117,101]⟩,.slice none 0 0,.slice none 0 0]) (by simp[results,Tryz.results143,go_sem,v0,v1,v2,v3,v4,v5,v6,v7,v8]) rfl ?_
    exact⟨fPred t,_,_,_,l1,fr1,mn1,_,HT.out,rfl,HV.out.2.1,HV.out.2.2.1,HV.out.2.2.2⟩
end
