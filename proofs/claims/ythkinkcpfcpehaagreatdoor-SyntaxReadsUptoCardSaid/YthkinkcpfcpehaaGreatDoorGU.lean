import Derived.Test.YthkinkcpfcpehaaGreatDoorZS
import Derived.Test.YthkinkcpfcpehaaGreatDoorGT
namespace Go.Proofs.YthkinkcpfcpehaaGreatDoor
set_option maxRecDepth 100000
set_option maxHeartbeats 8000000
open Go.RowKit Go.Maps
open Lx (Tk ofL KsAt y0a wsr rbk rkp rsl lit3)
theorem kids_two {P:Nat->Prop}{W:World}{b:Nat}{f g:Fm}{sl sr sk ul ur uk:Value}{ty:TypeId}(hb:W.heap[b]? =some (.cells #[.int .i64 f.k,.string f.nm,.int .i64 f.l.v,.string f.l.fn,sl,.int .i64 f.r.v,.string f.r.fn,sr,sk,.int .i64 g.k,.string g.nm,.int .i64 g.l.v,.string g.l.fn,ul,.int .i64 g.r.v,.string g.r.fn,ur,uk] ty (0,0)))(hP:P b)(hf:FmP P W f sl sr sk)(hg:FmP P W g ul ur uk):KidsP P W (.slice (some ⟨b,0,none⟩) 2 2) [f,g]:=by
 have c:∀j v,[Value.int .i64 f.k,.string f.nm,.int .i64 f.l.v,.string f.l.fn,sl,.int .i64 f.r.v,.string f.r.fn,sr,sk,.int .i64 g.k,.string g.nm,.int .i64 g.l.v,.string g.l.fn,ul,.int .i64 g.r.v,.string g.r.fn,ur,uk][j]? =some v->W.cell? ⟨b,j,none⟩=some v:=fun j v hv=>cst (vs:=[_,_,_,_,_,_,_,_,_,_,_,_,_,_,_,_,_,_]) hb hv
 refine .mk (some ⟨b,0,none⟩) 2 [f,g] (fun i=>if i=0 then sl else ul) (fun i=>if i=0 then sr else ur) (fun i=>if i=0 then sk else uk) (jJ _) (by decide) (fun _=>⟨b,0,hP,(jG hb).1,rfl,fun i hi=>?_⟩) (fun i hi=>?_) (fun i hi=>?_) (fun i hi=>?_)
 ·match i,hi with
  | 0,_=>exact⟨c 0 _ rfl,c 1 _ rfl,⟨c 2 _ rfl,c 3 _ rfl,c 4 _ rfl⟩,⟨c 5 _ rfl,c 6 _ rfl,c 7 _ rfl⟩,c 8 _ rfl⟩
  | 1,_=>exact⟨c 9 _ rfl,c 10 _ rfl,⟨c 11 _ rfl,c 12 _ rfl,c 13 _ rfl⟩,⟨c 14 _ rfl,c 15 _ rfl,c 16 _ rfl⟩,c 17 _ rfl⟩
 ·match i,hi with
  | 0,_=>exact hf.l
  | 1,_=>exact hg.l
 ·match i,hi with
  | 0,_=>exact hf.r
  | 1,_=>exact hg.r
 ·match i,hi with
  | 0,_=>exact hf.k
  | 1,_=>exact hg.k
theorem y3b {P:Nat->Prop}{w:World}{k:Int}{f g:Fm}{la ra ka ua va xa:Option Addr}{lc rc kc uc vc xc:Nat}(hf:FmP P w f (.slice la f.l.args.length lc) (.slice ra f.r.args.length rc) (.slice ka f.kids.length kc))(hg:FmP P w g (.slice ua g.l.args.length uc) (.slice va g.r.args.length vc) (.slice xa g.kids.length xc)) :
  Calls Tryz.prog 99 #[.int .i64 k,fval f (.slice la f.l.args.length lc) (.slice ra f.r.args.length rc) (.slice ka f.kids.length kc),fval g (.slice ua g.l.args.length uc) (.slice va g.r.args.length vc) (.slice xa g.kids.length xc)] w fun e w'=>∃b,e=.returned (.agg #[.int .i64 k,.string ⟨#[]⟩,.int .i64 0,.string ⟨#[]⟩,.slice none 0 0,.int .i64 0,.string ⟨#[]⟩,.slice none 0 0,.slice (some ⟨b,0,none⟩) 2 2])∧KidsP (fun j=>P j∨w.heap.size<=j) w' (.slice (some ⟨b,0,none⟩) 2 2) [f,g]∧Below w.heap.size w w':=by
 have hb1:=bbx w (fbox f (.slice la f.l.args.length lc) (.slice ra f.r.args.length rc) (.slice ka f.kids.length kc))
 have hz1:=(jH w (fbox f (.slice la f.l.args.length lc) (.slice ra f.r.args.length rc) (.slice ka f.kids.length kc))).1
 have hs1:(w.alloc (fbox f (.slice la f.l.args.length lc) (.slice ra f.r.args.length rc) (.slice ka f.kids.length kc))).heap.size=w.heap.size+1:=World.size_alloc _ _
 obtain⟨W1,hW1⟩:∃X,w.alloc (fbox f (.slice la f.l.args.length lc) (.slice ra f.r.args.length rc) (.slice ka f.kids.length kc))=X:=⟨_,rfl⟩
 rw[hW1]at hb1 hz1 hs1
 have hb2:=bbx W1 (fbox g (.slice ua g.l.args.length uc) (.slice va g.r.args.length vc) (.slice xa g.kids.length xc))
 have hz2:=(jH W1 (fbox g (.slice ua g.l.args.length uc) (.slice va g.r.args.length vc) (.slice xa g.kids.length xc))).1
 have hs2:(W1.alloc (fbox g (.slice ua g.l.args.length uc) (.slice va g.r.args.length vc) (.slice xa g.kids.length xc))).heap.size=w.heap.size+2:=by rw[World.size_alloc,hs1]
 obtain⟨W2,hW2⟩:∃X,W1.alloc (fbox g (.slice ua g.l.args.length uc) (.slice va g.r.args.length vc) (.slice xa g.kids.length xc))=X:=⟨_,rfl⟩
 rw[hW2]at hb2 hz2 hs2
 have hb3:=bbx W2 zbox
 have hz3:=(jH W2 zbox).1
 have hs3:(W2.alloc zbox).heap.size=w.heap.size+3:=by rw[World.size_alloc,hs2]
 obtain⟨W3,hW3⟩:∃X,W2.alloc zbox=X:=⟨_,rfl⟩
 rw[hW3]at hb3 hz3 hs3
 rw[hs2]at hz3
 rw[hs1]at hz2
 have hz1':=(hb3.block _ (by omega)).trans ((hb2.block _ (by omega)).trans hz1)
 have hz2':=(hb3.block _ (by omega)).trans hz2
 obtain⟨⟨p0,p1,p2,p3,p4,p5,p6,p7,p8⟩,-⟩:=y00 hz1'
 obtain⟨⟨q0,q1,q2,q3,q4,q5,q6,q7,q8⟩,-⟩:=y00 hz2'
 have hb123:=hb1.trans ((hb2.mono (by omega)).trans (hb3.mono (by omega)))
 have hb4:=bbx W3 (.cells #[.int .i64 f.k,.string f.nm,.int .i64 f.l.v,.string f.l.fn,.slice la f.l.args.length lc,.int .i64 f.r.v,.string f.r.fn,.slice ra f.r.args.length rc,.slice ka f.kids.length kc,.int .i64 g.k,.string g.nm,.int .i64 g.l.v,.string g.l.fn,.slice ua g.l.args.length uc,.int .i64 g.r.v,.string g.r.fn,.slice va g.r.args.length vc,.slice xa g.kids.length xc] 27)
 have hz4:=(jH W3 (.cells #[.int .i64 f.k,.string f.nm,.int .i64 f.l.v,.string f.l.fn,.slice la f.l.args.length lc,.int .i64 f.r.v,.string f.r.fn,.slice ra f.r.args.length rc,.slice ka f.kids.length kc,.int .i64 g.k,.string g.nm,.int .i64 g.l.v,.string g.l.fn,.slice ua g.l.args.length uc,.int .i64 g.r.v,.string g.r.fn,.slice va g.r.args.length vc,.slice xa g.kids.length xc] 27)).1
 obtain⟨W4,hW4⟩:∃X,W3.alloc (.cells #[.int .i64 f.k,.string f.nm,.int .i64 f.l.v,.string f.l.fn,.slice la f.l.args.length lc,.int .i64 f.r.v,.string f.r.fn,.slice ra f.r.args.length rc,.slice ka f.kids.length kc,.int .i64 g.k,.string g.nm,.int .i64 g.l.v,.string g.l.fn,.slice ua g.l.args.length uc,.int .i64 g.r.v,.string g.r.fn,.slice va g.r.args.length vc,.slice xa g.kids.length xc] 27)=X:=⟨_,rfl⟩
 rw[hW4]at hb4 hz4
 rw[hs3]at hz4
 have hb14:=hb123.trans (hb4.mono hb123.size)
 have hK:=kids_two hz4 (P:=fun j=>(P j∧j<w.heap.size)∨j=w.heap.size+3) (.inr rfl) (hf.keep hb14.size (fun j hj hl=>⟨.inl ⟨hj,hl⟩,hb14.block j hl⟩)) (hg.keep hb14.size (fun j hj hl=>⟨.inl ⟨hj,hl⟩,hb14.block j hl⟩))
 have hz34:=(hb4.block _ (by omega)).trans hz3
 obtain⟨V,hrun,hV,oV⟩:=y0g (f:=fOp k [f,g]) (P:=fun j=>(P j∧j<w.heap.size)∨j=w.heap.size+3) (X:=W4) rfl hz34 rfl ⟨ArgsP.nil _ _,ArgsP.nil _ _,hK⟩
 obtain⟨v0,v1,v2,v3,v4,v5,v6,v7,v8⟩:=op_cells hV
 have HC:=hid (And.intro v0 (And.intro v1 (And.intro v2 (And.intro v3 (And.intro v4 (And.intro v5 (And.intro v6 (And.intro v7 v8))))))))
 have HF:Hid (KidsP (fun j=>P j∨w.heap.size<=j) V (.slice (some ⟨w.heap.size+3,0,none⟩) 2 2) [f,g]∧Below w.heap.size w V):=
  ⟨hK.keep oV.size (fun j hj hl=>⟨hj.elim (fun h=>.inl h.1) (fun h=>.inr (by omega)),oV.block j hl (by rcases hj with h|h<;>(simp;omega))⟩),hb14.trans (Only.below oV (by have:=hb14.size;omega) (by simp))⟩
 have HW1:=hid hW1
 have HW2:=hid hW2
 have HW3:=hid hW3
 have HW4:=hid hW4
 have HS1:=hid hs1
 have HS2:=hid hs2
 have HS3:=hid hs3
 clear hf hg hb1 hz1 hs1 hW1 hb2 hz2 hs2 hW2 hb3 hz3 hs3 hW3 hz1' hz2' hb123 hb4 hz4 hW4 hb14 hK hz34 hV oV v0 v1 v2 v3 v4 v5 v6 v7 v8
 go_enter Tryz.func99,Tryz.ntmps99
 go_upto_region 1 with fail
 rw[show w.alloc _=W1 from HW1.out,show W1.alloc _=W2 from HW2.out,show W2.alloc _=W3 from HW3.out]
 go_wp2_with (first|(refine wsr rfl 27 _ _ rfl (.pointer (some ⟨w.heap.size+2,0,none⟩)) (.agg #[.int .i64 k,.string ⟨#[]⟩,.int .i64 0,.string ⟨#[]⟩,.slice none 0 0,.int .i64 0,.string ⟨#[]⟩,.slice none 0 0,.slice (some ⟨w.heap.size+3,0,none⟩) 2 2]) rfl (by rw[<-HS3.out];rfl) (by rw[show W3.alloc _=W4 from HW4.out];exact hrun) ?_))
 obtain⟨c0,c1,c2,c3,c4,c5,c6,c7,c8⟩:=HC.out
 refine bodyPost_ret (v:=.agg #[.int .i64 k,.string ⟨#[]⟩,.int .i64 0,.string ⟨#[]⟩,.slice none 0 0,.int .i64 0,.string ⟨#[]⟩,.slice none 0 0,.slice (some ⟨w.heap.size+3,0,none⟩) 2 2]) (by simp[results,Tryz.results99,go_sem,c0,c1,c2,c3,c4,c5,c6,c7,c8]) rfl ?_
 exact⟨w.heap.size+3,rfl,HF.out.1,HF.out.2⟩
theorem y4w (t:Tk)(r:List Tk):joinOf (t::r)=if t.k=4 then (if t.t=[61,62] then 5 else if t.t=[60,61,62] then 6 else if t.t=[38] then 3 else if t.t=[124] then 4 else 0) else 0:=rfl
theorem join_m {m:jU}{l:List Tk}(h:isM m l=true):joinOf l=(if m=[61,62] then 5 else if m=[60,61,62] then 6 else if m=[38] then 3 else if m=[124] then 4 else 0):=by
 obtain⟨t,r,rfl,h4,rfl⟩:=y03 h
 rw[y4w,if_pos h4]
theorem join_not {m:jU}{l:List Tk}{j:Nat}(hm:(m=[38]∧j=3)∨(m=[124]∧j=4))(h:isM m l=false):joinOf l≠j:=by
 cases l with
 | nil=>rcases hm with⟨-,rfl⟩|⟨-,rfl⟩<;>decide
 | cons t r =>
  rw[y4w]
  by_cases hk:t.k=4
  ·rw[if_pos hk]
   simp only[isM,hk,decide_true,Bool.true_and,decide_eq_false_iff_not]at h
   rcases hm with⟨rfl,rfl⟩|⟨rfl,rfl⟩<;>(rw[if_neg h];split<;>(try split)<;>(try split)<;>decide)<;>decide
  ·rw[if_neg hk];rcases hm with⟨-,rfl⟩|⟨-,rfl⟩<;>decide
theorem join_0 {l:List Tk}(h1:isM [61,62] l=false)(h2:isM [60,61,62] l=false)(h3:isM [38] l=false)(h4:isM [124] l=false):joinOf l=0:=by
 cases l with
 | nil=>rfl
 | cons t r =>
  rw[y4w]
  by_cases hk:t.k=4
  ·rw[if_pos hk]
   simp only[isM,hk,decide_true,Bool.true_and,decide_eq_false_iff_not]at h1 h2 h3 h4
   rw[if_neg h1,if_neg h2,if_neg h3,if_neg h4]
  ·rw[if_neg hk]
section
variable {D : DE} {w : World} {l r fr : List Tk} {mn : Bool} {bd : Int}
theorem DFmR.two {bl:List jU}{f g:Fm}{l1 fr1 l2 fr2:List Tk}{mn1 mn2:Bool}{bd1 bd2:Int}(h:DFmR D (PU bl) l fr mn bd f l1 fr1 mn1 bd1)(hb1:bd1<0)(hj:joinOf l1=5∨joinOf l1=6)(h2:DFmR D (PU bl) l1.tail fr1 mn1 bd1 g l2 fr2 mn2 bd2):DFmR D (PF bl) l fr mn bd (fOp (joinOf l1) [f,g]) l2 fr2 mn2 bd2:=by
 refine⟨fun hb=>?_,fun hn=>absurd hb1 (by rw[h.2 hn];exact hn)⟩
 rcases h.1 hb with⟨fx,hp,hf,hmn,hbe⟩|⟨q,hp,hbe⟩
 ·rcases h2.1 hb1 with⟨fx2,hp2,hf2,hmn2,hbe2⟩|⟨q,hp2,hbe2⟩
  ·exact .inl ⟨fx++fx2,PF.two hp hj hp2,by rw[hf2,<-List.append_assoc];exact y4z hf fx2,by rw[hmn2,hmn,dw_two,Bool.or_assoc],by rw[hbe2,hbe]⟩
  ·exact .inr ⟨q,PF.two_no hp hj hp2,hbe2⟩
 ·omega
theorem DFmR.only {bl:List jU}{f:Fm}{l1 fr1:List Tk}{mn1:Bool}{bd1:Int}(h:DFmR D (PU bl) l fr mn bd f l1 fr1 mn1 bd1)(hj:bd1<0->joinOf l1=0):DFmR D (PF bl) l fr mn bd f l1 fr1 mn1 bd1:=by
 refine⟨fun hb=>?_,h.2⟩
 rcases h.1 hb with⟨fx,hp,hf,hmn,hbe⟩|⟨q,hp,hbe⟩
 ·exact .inl ⟨fx,PF.only hp (hj (by rw[hbe];exact hb)),hf,hmn,hbe⟩
 ·exact .inr ⟨q,PF.first_no hp,hbe⟩
def JRel (D:DE)(bl:List jU)(l fr:List Tk)(mn:Bool)(bd:Int)(m:Nat)(f:Fm)(l' fr':List Tk)(mn':Bool)(bd':Int):Prop:=
 (bd'<0->bd<0∧∃fx,(∀g fr2 q,PM bl m f l' (.ok g fr2 q)->PF bl l (.ok g (fx++fr2) q))∧(∀q,PM bl m f l' (.no q)->PF bl l (.no q))∧frV fr'=frV (fr++fx)∧mn'=(mn||f.wide)∧bd'=bd)∧
 (¬bd'<0->bd<0∧∃q',PF bl l (.no q')∧bd'=(plc D.n q':Nat))
theorem JRel.start {bl:List jU}{f:Fm}{l1 fr1:List Tk}{mn1:Bool}{bd1:Int}{m:Nat}(h:DFmR D (PU bl) l fr mn bd f l1 fr1 mn1 bd1)(hb1:bd1<0)(hj:joinOf l1=m+2)(hm:m=1∨m=2):JRel D bl l fr mn bd m f l1 fr1 mn1 bd1:=by
 have hb:bd<0:=by
  by_cases h0:bd<0
  ·exact h0
  ·have:=h.2 h0;omega
 rcases h.1 hb with⟨fx,hp,hf,hmn,hbe⟩|⟨q,hp,hbe⟩
 ·exact⟨fun _=>⟨hb,fx,fun g fr2 q hq=>PF.many hp hj hm hq,fun q hq=>PF.many_no hp hj hm hq,hf,hmn,hbe⟩,fun hn=>absurd hb1 hn⟩
 ·omega
theorem JRel.next {bl:List jU}{f g:Fm}{l1 fr1 l2 fr2:List Tk}{mn1 mn2:Bool}{bd1 bd2:Int}{m:Nat}(h:JRel D bl l fr mn bd m f l1 fr1 mn1 bd1)(hb1:bd1<0)(hj:joinOf l1=m+2)(h2:DFmR D (PU bl) l1.tail fr1 mn1 bd1 g l2 fr2 mn2 bd2):JRel D bl l fr mn bd m (fOp (m+2:Nat) [f,g]) l2 fr2 mn2 bd2:=by
 obtain⟨hb,fx,h3,h4,hf,hmn,hbe⟩:=h.1 hb1
 rcases h2.1 hb1 with⟨fx2,hp2,hf2,hmn2,hbe2⟩|⟨q,hp2,hbe2⟩
 ·refine⟨fun _=>⟨hb,fx++fx2,fun g' fr3 q hq=>?_,fun q hq=>h4 _ (PM.more_no hj hp2 hq),by rw[hf2,<-List.append_assoc];exact y4z hf fx2,by rw[hmn2,hmn,dw_two,Bool.or_assoc],by rw[hbe2,hbe]⟩,fun hn=>absurd hb1 (by rw[<-hbe2];exact hn)⟩
  have:=h3 _ _ _ (PM.more hj hp2 hq)
  rw[List.append_assoc]
  exact this
 ·exact⟨fun hn=>by omega,fun _=>⟨hb,q,h4 _ (PM.here_no hj hp2),hbe2⟩⟩
theorem JRel.fin {bl:List jU}{f:Fm}{l1 fr1:List Tk}{mn1:Bool}{bd1:Int}{m:Nat}(h:JRel D bl l fr mn bd m f l1 fr1 mn1 bd1)(hj:bd1<0->joinOf l1≠m+2):DFmR D (PF bl) l fr mn bd f l1 fr1 mn1 bd1:=by
 by_cases hb1:bd1<0
 ·obtain⟨hb,fx,h3,h4,hf,hmn,hbe⟩:=h.1 hb1
  refine⟨fun _=>.inl ⟨fx,?_,hf,hmn,hbe⟩,fun hn=>absurd hb hn⟩
  have:=h3 _ _ _ (PM.stop (hj hb1))
  simpa using this
 ·obtain⟨hb,q,hp,hbe⟩:=h.2 hb1
  exact⟨fun _=>.inr ⟨q,hp,hbe⟩,fun hn=>absurd hb hn⟩
end
