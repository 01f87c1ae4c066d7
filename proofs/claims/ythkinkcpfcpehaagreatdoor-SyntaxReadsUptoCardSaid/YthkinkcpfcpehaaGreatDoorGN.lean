import Derived.Test.YthkinkcpfcpehaaGreatDoorZS
import Derived.Test.YthkinkcpfcpehaaGreatDoorFM
namespace Go.Proofs.YthkinkcpfcpehaaGreatDoor
set_option maxRecDepth 100000
set_option maxHeartbeats 8000000
section
open Go.RowKit Go.Maps
open Lx (Tk ofL KsAt flK y0r rkp rbk rsl lit3)
attribute [local go_sem] fld0 fld2
theorem term_fn {E:Env}{c5:Value}(n:Nat)(IH:∀l':List Tk,l'.length<=n->∀(w:World)(bd:List jU)(fr:List Tk)(kb:Nat)(fv:Value),PSt E w l' bd fr kb fv c5->Calls Tryz.prog 199 #[.pointer (some ⟨E.B,0,none⟩)] w (TermP E w l' bd fr kb fv c5))
  {w:World} {t:Tk} {r:List Tk} (hl:r.length<=n) {bd:List jU} {fr:List Tk} {kb:Nat} {fv:Value} (h:PSt E w (t::r) bd fr kb fv c5) (hk:t.k=1) (hm:isM [40] r=true) :
  Calls Tryz.prog 199 #[.pointer (some ⟨E.B,0,none⟩)] w (TermP E w (t::r) bd fr kb fv c5):=by
 have HM:=hid hm
 obtain⟨t1,r1,rfl,_,_⟩:=y03 hm
 have hb0:=bbx w (.cells #[.int .i64 0,.string ⟨#[]⟩,.slice none 0 0] 24)
 have h0:=h.keep hb0
 have hz:=(jH w (.cells #[.int .i64 0,.string ⟨#[]⟩,.slice none 0 0] 24)).1
 have HR:Hid (¬Own E fv w.heap.size):=h.fresh (jJ _)
 have HRn:Hid (E.n0<=w.heap.size):=by show E.n0<=w.heap.size;have:=h.ownlt (k:=E.B) (.inl rfl);omega
 obtain⟨W0,hW0⟩:∃X,w.alloc (.cells #[.int .i64 0,.string ⟨#[]⟩,.slice none 0 0] 24)=X:=⟨_,rfl⟩
 rw[hW0]at h0 hb0 hz
 obtain⟨R,hR⟩:∃R,w.heap.size=R:=⟨_,rfl⟩
 have ha:=pahead h0
 have hRl:R<W0.heap.size:=by rw[hR]at hz;exact (jG hz).1
 rw[hR]at hz HR HRn
 have H0:Hid (W0.heap[R]? =some (.cells #[.int .i64 0,.string ⟨#[]⟩,.slice none 0 0] 24 (0,0))∧R<W0.heap.size∧Stay E w fv W0 fv):=⟨hz,hRl,Stay.of_below hb0⟩
 obtain⟨tx,htx⟩:∃x,ofL t.t=x:=⟨_,rfl⟩
 simp only[tokV,hk,htx]at ha
 clear hb0 hz h0 h hRl
 go_enter Tryz.func199,Tryz.ntmps199
 go_upto_region 1 with fail
 try simp only[hR]
 try rw[hW0]
 clear hW0
 go_wp2_with fail
 refine ha.mono ?_
 rintro e W1 ⟨rfl,h1,s1⟩
 have H1:Hid (W1.heap[R]? =some (.cells #[.int .i64 0,.string ⟨#[]⟩,.slice none 0 0] 24 (0,0))∧R<W1.heap.size∧Stay E w fv W1 fv):=⟨(s1.blk R H0.out.2.1 HR.out).1.trans H0.out.1,jI H0.out.2.1 s1.size,H0.out.2.2.trans s1⟩
 have ha2:=y4m h1 hk
 simp only[tokV,hk,htx]at ha2
 clear ha h1 s1 H0
 go_wp2_with fail
 refine ha2.mono ?_
 rintro e W2 ⟨rfl,h2,s2⟩
 have H2:Hid (W2.heap[R]? =some (.cells #[.int .i64 0,.string ⟨#[]⟩,.slice none 0 0] 24 (0,0))∧R<W2.heap.size∧Stay E w fv W2 fv):=⟨(s2.blk R H1.out.2.1 HR.out).1.trans H1.out.1,jI H1.out.2.1 s2.size,H1.out.2.2.trans s2⟩
 clear ha2 s2 H1
 go_upto_region 7 with fail
 have hb3:=bbx W2 (.cells #[.int .i64 0,.string tx,.slice none 0 0] 24)
 have hz3:=(jH W2 (.cells #[.int .i64 0,.string tx,.slice none 0 0] 24)).1
 have h3:=h2.keep hb3
 have hG:¬Own E fv W2.heap.size:=h2.fresh (jJ _)
 have HG:Hid (w.heap.size<=W2.heap.size):=H2.out.2.2.size
 have hGR:R≠W2.heap.size:=fun e=>by have:=H2.out.2.1;omega
 obtain⟨G,hGe⟩:∃G,W2.heap.size=G:=⟨_,rfl⟩
 rw[hGe]at hz3 hG hGR HG
 try simp only[hGe]
 obtain⟨W3,hW3⟩:∃X,W2.alloc (.cells #[.int .i64 0,.string tx,.slice none 0 0] 24)=X:=⟨_,rfl⟩
 rw[hW3]at h3 hb3 hz3 ⊢
 have H3:Hid (W3.heap[R]? =some (.cells #[.int .i64 0,.string ⟨#[]⟩,.slice none 0 0] 24 (0,0))∧R<W3.heap.size∧Stay E w fv W3 fv∧W3.heap[G]? =some (.cells #[.int .i64 0,.string tx,.slice none 0 0] 24 (0,0))∧¬Own E fv G∧R≠G):=⟨(hb3.block R H2.out.2.1).trans H2.out.1,jI H2.out.2.1 hb3.size,H2.out.2.2.trans (Stay.of_below hb3),hz3,hG,hGR⟩
 have hsk:=y1e h3 (ofL [40]) ((y13 (by simp) (by decide) (by decide) h3.tok).2 hm)
 have HIH:=hid IH
 clear hb3 hz3 h3 h2 hG hGR hGe hW3 H2 IH hm
 go_wp2_with fail
 refine hsk.mono ?_
 rintro e W4 ⟨rfl,h4,s4⟩
 have H4:Hid (W4.heap[R]? =some (.cells #[.int .i64 0,.string ⟨#[]⟩,.slice none 0 0] 24 (0,0))∧R<W4.heap.size∧Stay E w fv W4 fv∧W4.heap[G]? =some (.cells #[.int .i64 0,.string tx,.slice none 0 0] 24 (0,0))∧¬Own E fv G∧R≠G):=by
  have hG4:=(s4.blk G (jG H3.out.2.2.2.1).1 H3.out.2.2.2.2.1).1.trans H3.out.2.2.2.1
  exact⟨(s4.blk R H3.out.2.1 HR.out).1.trans H3.out.1,jI H3.out.2.1 s4.size,H3.out.2.2.1.trans s4,hG4,H3.out.2.2.2.2.1,H3.out.2.2.2.2.2⟩
 have hpa:=parted_any n HIH.out (by simp only[jK]at hl;omega) h4
 clear hsk h4 s4 H3
 go_wp2_with fail
 refine hpa.mono ?_
 rintro e W5 (⟨us,sl,fr1,q,fv1,hp,rfl,a5,s5,y5⟩|⟨q,fv1,hp,rfl,b5,y5⟩)
 case inr =>
  have HF:=hid (And.intro (PT.args_no hk HM.out hp) (And.intro b5 (H4.out.2.2.1.trans y5)))
  clear hpa hp b5 y5
  go_wp2
  exact⟨rfl,.inr ⟨q,fv1,HF.out.1,rfl,HF.out.2.1,HF.out.2.2⟩⟩
 case inl =>
 obtain⟨sa,sc,rfl⟩:=a5.slice
 have hR5:=(y5.blk R H4.out.2.1 HR.out)
 have hG5:=(y5.blk G (jG H4.out.2.2.2.1).1 H4.out.2.2.2.2.1)
 have hG5c:=hG5.1.trans H4.out.2.2.2.1
 obtain⟨⟨q0,q1,q2⟩,g0,g1,g2⟩:=y09 hG5c
 have hG6:=heap_setCell_same W5 G 2 _ 24 (.slice sa us.length sc) hG5c
 have ho6:Only [G] W5 (W5.setCell ⟨G,2,none⟩ (.slice sa us.length sc)):=y07 (Below.refl _ W5) G 2 _
 have hGl:w.heap.size<=G:=by
  rcases Nat.lt_or_ge G w.heap.size with hlt|hge
  ·exfalso;have:=HG.out;omega
  ·exact hge
 have hRG:R≠G:=H4.out.2.2.2.2.2
 have h6:=s5.write ho6 hG5.2 (by have:=HRn.out;omega)
 have H6:Hid ((W5.setCell ⟨G,2,none⟩ (.slice sa us.length sc)).heap[R]? =some (.cells #[.int .i64 0,.string ⟨#[]⟩,.slice none 0 0] 24 (0,0))∧R<W5.heap.size∧Stay E w fv (W5.setCell ⟨G,2,none⟩ (.slice sa us.length sc)) fv1∧(W5.setCell ⟨G,2,none⟩ (.slice sa us.length sc)).heap[G]? =some (.cells #[.int .i64 0,.string tx,.slice sa us.length sc] 24 (0,0))∧¬Own E fv1 G∧¬Own E fv1 R∧ArgsP (fun k=>Good E w.heap.size fv1 k∧k≠R) (W5.setCell ⟨G,2,none⟩ (.slice sa us.length sc)) (.slice sa us.length sc) us):=by
  refine⟨(Below.heap_setCell _ _ _ R hRG).trans (hR5.1.trans H4.out.1),jI H4.out.2.1 y5.size,(H4.out.2.2.1.trans y5).write ho6 hGl,by simpa using hG6,hG5.2,hR5.2,a5.keep ho6.size fun j hj hjl=>?_⟩
  exact⟨⟨⟨by have:=hj.1;have:=H4.out.2.2.1.size;omega,hj.2⟩,fun e=>by have:=H4.out.2.1;have:=hj.1;omega⟩,Below.heap_setCell _ _ _ j (fun e=>by have h1:=(jG H4.out.2.2.2.1).1;have:=hj.1;have e':j=G:=e;omega)⟩
 obtain⟨W6,hW6⟩:∃X,W5.setCell ⟨G,2,none⟩ (.slice sa us.length sc)=X:=⟨_,rfl⟩
 have HP:=hid hp
 have hz56:=ho6.size
 rw[hW6]at h6 H6 hz56
 clear hpa hp a5 s5 y5 hR5 hG5 hG5c hG6 ho6 H4
 go_upto_region 9 with fail
 try rw[hW6]
 clear hW6
 by_cases hq:isM [41] q=true
 case neg =>
  have hqf:isM [41] q=false:=by simpa using hq
  have hmu:=y32 h6 (ofL [41]) (y0u (by simp) (by decide) (by decide) h6.tok hqf)
  have HQ:=hid (PT.fn_no hk HM.out HP.out hqf)
  clear h6 hq hqf
  go_wp2_with fail
  refine hmu.mono ?_
  rintro e W7 ⟨rfl,s7,y7⟩
  have HF:=hid (And.intro s7.bx (H6.out.2.2.1.trans y7))
  clear hmu s7 y7
  go_wp2
  exact⟨rfl,.inr ⟨q,fv1,HQ.out,rfl,HF.out.1,HF.out.2⟩⟩
 case pos =>
 have HQ:=hid (PT.fn hk HM.out HP.out hq)
 obtain⟨t2,r2,rfl,_,_⟩:=y03 hq
 have hmu:=y0q h6 (ofL [41]) ((y13 (by simp) (by decide) (by decide) h6.tok).2 hq)
 clear h6 hq
 go_wp2_with fail
 refine hmu.mono ?_
 rintro e W7 ⟨rfl,s7,y7⟩
 have hR7:=(y7.blk R (jI H6.out.2.1 hz56) H6.out.2.2.2.2.2.1)
 have hG7:=(y7.blk G (jG H6.out.2.2.2.1).1 H6.out.2.2.2.2.1)
 have hR7c:=hR7.1.trans H6.out.1
 obtain⟨⟨r0,r1,r2⟩,f0,f1,f2⟩:=y09 hR7c
 obtain⟨⟨q0,q1,q2⟩,_⟩:=y09 (hG7.1.trans H6.out.2.2.2.1)
 have HF:=hid (And.intro s7 (And.intro (H6.out.2.2.1.trans y7) (And.intro hR7c (And.intro hR7.2 (H6.out.2.2.2.2.2.2.keep y7.size fun j hj hjl=>(⟨⟨⟨hj.1.1,(y7.blk j hjl hj.1.2).2⟩,hj.2⟩,(y7.blk j hjl hj.1.2).1⟩:(Good E w.heap.size fv1 j∧j≠R)∧_))))))
 clear hmu s7 y7 hR7 hG7 hR7c
 go_wp2
 have hbx5:=box3 HF.out.2.2.1 (.int .i64 0) (.string tx) (.slice sa us.length sc)
 have ho5:=only3 W7 R (.int .i64 0) (.string tx) (.slice sa us.length sc)
 obtain⟨⟨p0,p1,p2⟩,_⟩:=y09 hbx5
 refine bodyPost_ret (v:=tmV (.mk 0 tx us) (.slice sa us.length sc)) (by simp[results,Tryz.results199,go_sem,p0,p1,p2,T.v,T.fn]) rfl ?_
 refine .inl ⟨.mk 0 (ofL t.t) us,.slice sa us.length sc,fr1,_,fv1,HQ.out,by rw[htx],?_,HF.out.1.write ho5 HF.out.2.2.2.1 HRn.out,HF.out.2.1.write ho5 (by omega)⟩
 exact HF.out.2.2.2.2.keep ho5.size fun j hj hjl=>⟨hj.1,ho5.block j hjl (by simpa using hj.2)⟩
theorem term_any {E:Env}{c5:Value}:∀(n:Nat)(l:List Tk),l.length<=n->∀(w:World)(bd:List jU)(fr:List Tk)(kb:Nat)(fv:Value),PSt E w l bd fr kb fv c5->Calls Tryz.prog 199 #[.pointer (some ⟨E.B,0,none⟩)] w (TermP E w l bd fr kb fv c5)
 | n,[],_,w,bd,fr,kb,fv,h=>by
  refine (term_wrong h rfl rfl).mono ?_
  rintro e w' ⟨rfl,s,y⟩
  exact .inr ⟨[],fv,PT.nil,rfl,s.bx,y⟩
 | 0,t::r,hl,_,_,_,_,_,_=>absurd hl (by simp)
 | n+1,t::r,hl,w,bd,fr,kb,fv,h=>by
  have hrn:r.length<=n:=by simpa using hl
  have nil:∀(m:Nat) (fv':Value) (w':World),ArgsP (Good E m fv') w' (.slice none 0 0) (T.mk 0 (ofL t.t) []).args:=fun m fv' w'=>ArgsP.nil _ _
  by_cases h2:t.k=2
  ·by_cases hb:t.t∈bd
   ·refine (term_bound h h2 hb).mono ?_
    rintro e w' ⟨rfl,s,y⟩
    exact .inl ⟨_,_,[],r,fv,by have:=PT.var (bd:=bd) (r:=r) h2;rwa [if_pos hb]at this,rfl,nil _ _ _,by rwa [List.append_nil],y⟩
   ·have hp:=PT.var (bd:=bd) (r:=r) h2
    rw[if_neg hb]at hp
    by_cases hq:t.t∈fr.map Tk.t
    ·refine (term_again h h2 hb hq).mono ?_
     rintro e w' ⟨rfl,s,y⟩
     exact .inl ⟨_,_,[t],r,fv,hp,rfl,nil _ _ _,s,y⟩
    ·refine (term_new h h2 hb hq).mono ?_
     rintro e w' ⟨fv',rfl,s,y⟩
     exact .inl ⟨_,_,[t],r,fv',hp,rfl,nil _ _ _,s,y⟩
  ·by_cases h1:t.k=1
   ·cases hm:isM [40] r with
    | true=>exact term_fn n (fun l' hl' w bd fr kb fv h=>term_any n l' hl' w bd fr kb fv h) hrn h h1 hm
    | false =>
     refine (term_const h h1 hm).mono ?_
     rintro e w' ⟨rfl,s,y⟩
     exact .inl ⟨_,_,[],r,fv,PT.const h1 hm,rfl,nil _ _ _,by rwa [List.append_nil],y⟩
   ·refine (term_wrong h (by simpa [isK] using h1) (by simpa [isK] using h2)).mono ?_
    rintro e w' ⟨rfl,s,y⟩
    exact .inr ⟨t::r,fv,PT.wrong h1 h2,rfl,s.bx,y⟩
end
section
open Go.RowKit Go.Maps
open Lx (Tk ofL KsAt flK y0r rkp rbk rsl)
attribute [local go_sem] fld0 fld2
theorem info9:(Tryz.prog.info? 9).map (fun i=>(i.zero,i.size,i.bytes))=some (some (.string ⟨#[]⟩),1,16):=by kernel_rfl
theorem y3o {E:Env}{w:World}{t:Tk}{r:List Tk}{bd:List jU}{fr:List Tk}{kb:Nat}{fv c5:Value}(h:PSt E w (t::r) bd fr kb fv c5)(hk:t.k=2) :
  Calls Tryz.prog 196 #[.pointer (some ⟨E.B,0,none⟩)] w fun e w'=>e=.returned (.string (ofL t.t))∧PSt E w' r bd fr kb fv c5∧Stay E w fv w' fv:=by
 have ha:=y4m h hk
 obtain⟨tx,htx⟩:∃x,ofL t.t=x:=⟨_,rfl⟩
 simp only[tokV,hk,htx]at ha
 clear h
 go_enter Tryz.func196,Tryz.ntmps196
 go_wp2_with fail
 refine ha.mono ?_
 rintro e W1 ⟨rfl,h1,s1⟩
 have H1:=hid (And.intro h1 s1)
 clear ha h1 s1
 go_wp2
 go_ret
 exact⟨by rw[htx];rfl,H1.out⟩
theorem y4c {E:Env}{w:World}{l:List Tk}{bd:List jU}{fr:List Tk}{kb:Nat}{fv c5:Value}(h:PSt E w l bd fr kb fv c5)(hk:isK 2 l=false) :
  Calls Tryz.prog 196 #[.pointer (some ⟨E.B,0,none⟩)] w fun e w'=>e=.panicked misfit∧PSt E w' l bd fr kb fv c5∧Stay E w fv w' fv:=by
 have ha:=ptake_no h 2 hk (by decide)
 clear h
 go_enter Tryz.func196,Tryz.ntmps196
 go_wp2_with fail
 refine ha.mono ?_
 rintro e W1 ⟨rfl,h1,s1⟩
 have H1:=hid (And.intro h1 s1)
 clear ha h1 s1
 go_wp2
 exact⟨rfl,rfl,H1.out⟩
theorem PV.no_var {l:List Tk}(h:isK 2 l=false):PV l (.no l):=by
 cases l with
 | nil=>exact PV.nil
 | cons t r=>exact PV.wrong (by simpa [isK] using h)
theorem pVars_cnt:∀(n:Nat)(l:List Tk)(vs:List jU)(fr q:List Tk),pVars n l=some (.ok vs fr q)->vs.length+q.length<=l.length∧fr=[]
 | 0,_,_,_,_,h=>by cases h
 | n+1,[],_,_,_,h=>by simp[pVars]at h
 | n+1,t::r,vs,fr,q,h=>by
  rw[pVars]at h
  by_cases h1:t.k=2
  ·rw[if_pos h1]at h
   by_cases h2:isM [44] r=true
   ·rw[if_pos h2]at h
    obtain⟨t1,r1,rfl,_,_⟩:=y03 h2
    simp only[List.tail_cons]at h
    cases hy:pVars n r1 with
    | none=>rw[hy]at h;cases h
    | some y =>
     rw[hy]at h
     cases y with
     | no q=>cases h
     | ok a b q' =>
      have:=(pVars_cnt n r1 a b q' hy).1
      simp only[Option.some.injEq,Pr.ok.injEq]at h
      obtain⟨rfl,rfl,rfl⟩:=h
      exact⟨by simp only[jK];omega,rfl⟩
   ·rw[if_neg h2]at h
    simp only[Option.some.injEq,Pr.ok.injEq]at h
    obtain⟨rfl,rfl,rfl⟩:=h
    exact⟨by simp;omega,rfl⟩
  ·rw[if_neg h1]at h;cases h
theorem PV.cnt {l:List Tk}{vs:List jU}{fr q:List Tk}(h:PV l (.ok vs fr q)):vs.length+q.length<=l.length:=by obtain⟨n,h⟩:=h;exact (pVars_cnt n _ _ _ _ h).1
def flS (l:List jU):List Value:=l.map fun s=>.string (ofL s)
def NamesP (E:Env)(w:World)(l:List Tk)(bd:List jU)(fr:List Tk)(kb:Nat)(fv c5:Value)(e:Ending)(w':World):Prop:=
 (∃vs sl q,PV l (.ok vs [] q)∧e=.returned sl∧(w'.ownsRow E.n0 9 1 sl vs.length (flS vs)∧(∀g,sl.ownBlock=some g->Good E w.heap.size fv g)∧∀s∈vs,s.length<=maxLen)∧PSt E w' q bd fr kb fv c5∧Stay E w fv w' fv)∨
 (∃q,PV l (.no q)∧e=.panicked misfit∧Bx w' E.B E.n E.n0 q (.map (some E.mb)) (.map (some E.mm)) fv c5∧Stay E w fv w' fv)
structure VGoes (l:List Tk) (vs:List jU) (q:List Tk):Prop where
 more:isM [44] q=true->∀{bs:List jU} {q':List Tk},PV q.tail (.ok bs [] q')->PV l (.ok (vs++bs) [] q')
 no:isM [44] q=true->∀{q':List Tk},PV q.tail (.no q')->PV l (.no q')
 last:isM [44] q=false->PV l (.ok vs [] q)
theorem VGoes.start {t:Tk}{r:List Tk}(hk:t.k=2):VGoes (t::r) [t.t] r:=
 ⟨fun hm _ _ hp=>PV.more hk hm hp,fun hm _ hp=>PV.more_no hk hm hp,fun hm=>PV.last hk hm⟩
theorem VGoes.step {l:List Tk}{vs:List jU}{q r:List Tk}{t:Tk}(h:VGoes l vs q)(hm:isM [44] q=true)(hq:q.tail=t::r)(hk:t.k=2):VGoes l (vs++[t.t]) r:=by
 refine⟨fun hm1 _ _ hx=>?_,fun hm1 _ hx=>h.no hm (by rw[hq];exact PV.more_no hk hm1 hx),fun hm1=>h.more hm (by rw[hq];exact PV.last hk hm1)⟩
 rw[List.append_assoc]
 exact h.more hm (by rw[hq];exact PV.more hk hm1 hx)
structure NaI (E:Env) (w:World) (l:List Tk) (bd:List jU) (fr:List Tk) (kb:Nat) (fv c5:Value) (vs:List jU) (q:List Tk) (v:Value) (W:World):Prop where
 goes:VGoes l vs q
 st:PSt E W q bd fr kb fv c5
 stay:Stay E w fv W fv
 row:W.ownsRow E.n0 9 1 v vs.length (flS vs)
 own:∀g,v.ownBlock=some g->Good E w.heap.size fv g
 lens:∀s∈vs,s.length<=maxLen
 cnt:vs.length+q.length<=l.length
theorem flS_snoc (l:List jU)(s:jU):flS (l++[s])=flS l++[.string (ofL s)]:=by simp[flS]
theorem one1s {s:ByteArray}:∀u∈[Value.string s],u.oneCell'=true:=by
 intro u hu
 simp only[List.mem_singleton]at hu
 subst hu
 rfl
theorem names_any {E:Env}{c5:Value}{l:List Tk}{w:World}{bd:List jU}{fr:List Tk}{kb:Nat}{fv:Value}(h:PSt E w l bd fr kb fv c5) :
  Calls Tryz.prog 195 #[.pointer (some ⟨E.B,0,none⟩),.func (.func 196) #[.pointer (some ⟨E.B,0,none⟩)] #[]] w (NamesP E w l bd fr kb fv c5):=by
 cases hk0:isK 2 l with
 | false =>
  have ha:=y4c h hk0
  have HP:=hid (PV.no_var hk0)
  clear h hk0
  go_enter Tryz.func195,Tryz.ntmps195
  go_wp2_with fail
  refine ha.mono ?_
  rintro e W1 ⟨rfl,h1,s1⟩
  have HF:=hid (And.intro h1.bx s1)
  clear ha h1 s1
  go_wp2
  exact⟨rfl,.inr ⟨l,HP.out,rfl,HF.out⟩⟩
 | true =>
 obtain⟨t,r,rfl,hk⟩:∃t r,l=t::r∧t.k=2:=by
  cases l with
  | nil=>cases hk0
  | cons t r=>exact⟨t,r,rfl,by simpa [isK] using hk0⟩
 have ha:=y3o h hk
 have hmx:=h.mx
 have hll:=h.bud2
 have htl:=(h.tok t (List.mem_cons_self ..)).len
 have Hn0:Hid (E.n0<=w.heap.size):=by show E.n0<=w.heap.size;have:=h.ownlt (k:=E.B) (.inl rfl);omega
 have hLm:(t::r).length<=2097155:=by omega
 obtain⟨L,hL⟩:∃L,(t::r).length=L:=⟨_,rfl⟩
 obtain⟨tx,htx⟩:∃x,ofL t.t=x:=⟨_,rfl⟩
 rw[htx]at ha
 clear h hll
 go_enter Tryz.func195,Tryz.ntmps195
 go_wp2_with fail
 refine ha.mono ?_
 rintro e W1 ⟨rfl,s1,y1⟩
 have hb2:=bbx W1 (.cells #[.string tx] 9)
 have hz2:=(jH W1 (.cells #[.string tx] 9)).1
 have HS:Hid (∃vs q,vs.length=1∧NaI E w (t::r) bd fr kb fv c5 vs q (.slice (some ⟨W1.heap.size,0,none⟩) 1 1) (W1.alloc (.cells #[.string tx] 9))):=by
  refine⟨[t.t],r,rfl,VGoes.start hk,s1.keep hb2,y1.trans (Stay.of_below hb2),?_,?_,?_,?_⟩
  ·exact⟨rfl,.inr ⟨W1.heap.size,1,_,rfl,by have:=Hn0.out;have:=y1.size;show E.n0<=W1.heap.size;omega,hz2,jJ _,by decide,rfl,by rw[<-htx];rfl⟩⟩
  ·rintro g hg
   have e:=Option.some.inj hg
   simp only at e
   subst e
   exact⟨y1.size,s1.fresh (jJ _)⟩
  ·intro s hs
   simp only[List.mem_singleton]at hs
   subst hs
   exact htl
  ·simp;omega
 clear ha s1 y1 hb2 hz2
 obtain⟨i0,hi0,hz0,hz1,hz2⟩:=info_parts info9
 go_wp2
 go_loopw [5] (fun v W=>∃(k:Nat) (a:Option Addr) (c:Nat),v=.slice a k c∧Hid (∃vs q,vs.length=k∧NaI E w (t::r) bd fr kb fv c5 vs q (.slice a k c) W)) (fun v _=>L-lenV v)
 case atStart=>exact⟨1,_,1,rfl,HS.out⟩
 case round =>
  obtain⟨k,va,vc,rfl,vs,q,hkk,hI⟩:=hrel
  have HI:=hid hI
  by_cases hm:isM [44] q=true
  ·obtain⟨t1,r1,rfl,_,_⟩:=y03 hm
   have hsk:=y1e hI.st (ofL [44]) ((y13 (by simp) (by decide) (by decide) hI.st.tok).2 hm)
   have HM:=hid hm
   clear hI hm
   go_wp2_with fail
   refine hsk.mono ?_
   rintro e W2 ⟨rfl,s2,y2⟩
   cases hk1:isK 2 r1 with
   | false =>
    have hv:=y4c s2 hk1
    have HP:=hid (HI.out.goes.no HM.out (PV.no_var hk1))
    have HY2:=hid (And.intro s2 y2)
    clear hsk s2 y2
    go_wp2_with fail
    refine hv.mono ?_
    rintro e W3 ⟨rfl,s3,y3⟩
    have HF:=hid (And.intro s3.bx (HI.out.stay.trans (HY2.out.2.trans y3)))
    clear hv s3 y3
    go_wp2
    exact⟨rfl,.inr ⟨r1,HP.out,rfl,HF.out⟩⟩
   | true =>
    obtain⟨t3,r3,rfl,hk3⟩:∃t r,r1=t::r∧t.k=2:=by
     cases r1 with
     | nil=>cases hk1
     | cons t r=>exact⟨t,r,rfl,by simpa [isK] using hk1⟩
    have hv:=y3o s2 hk3
    have ht3:=(s2.tok t3 (List.mem_cons_self ..)).len
    obtain⟨ty,hty⟩:∃x,ofL t3.t=x:=⟨_,rfl⟩
    rw[hty]at hv
    have HY2:=hid (And.intro s2 y2)
    clear hsk s2 y2
    go_wp2_with fail
    refine hv.mono ?_
    rintro e W3 ⟨rfl,s3,y3⟩
    have hb4:=bbx W3 (.cells #[.string ty] 9)
    have hvb:∀g,(Value.slice va k vc).ownBlock=some g->g<wr.heap.size∧W3.heap[g]? =wr.heap[g]?∧¬Own E fv g:=fun g hg=>by
     obtain⟨_,cu,hcu⟩:=rbk HI.out.row hg
     have h1:=(jG hcu).1
     obtain⟨p1,p2⟩:=HY2.out.2.blk g h1 (HI.out.own g hg).2
     obtain⟨p3,p4⟩:=y3.blk g (jI h1 HY2.out.2.size) p2
     exact⟨h1,p3.trans p1,p4⟩
    have hrow:(W3.alloc (.cells #[.string ty] 9)).ownsRow E.n0 9 1 (.slice va k vc) k (flS vs):=by
     have:=rkp HI.out.row (W':=W3) (fun g hg=>(hvb g hg).2.1)
     rw[hkk]at this
     exact Lx.y05 this hb4
    have hkL:k<=2097155:=by have:=HI.out.cnt;omega
    have hz3:E.n0<=W3.heap.size:=by have:=Hn0.out;have:=(HI.out.stay.trans (HY2.out.2.trans y3)).size;omega
    have hL4:k+1+r3.length<=L:=by have h1:=HI.out.cnt;simp only[jK]at h1 hL;omega
    have HFIN:Hid (∀v' w1,w1.ownsRow E.n0 9 1 v' (k+1) (flS vs++[.string ty])->(W3.alloc (.cells #[.string ty] 9)).grownBy w1 (Value.slice va k vc).ownBlock->(v'.ownBlock=(Value.slice va k vc).ownBlock∨v'.ownBlock=some (W3.alloc (.cells #[.string ty] 9)).heap.size) ->
      ∃vs q,vs.length=k+1∧NaI E w (t::r) bd fr kb fv c5 vs q v' w1):=by
     rintro v' w1 hown hg hat
     have hst:=(HI.out.stay.trans (HY2.out.2.trans y3)).trans (Stay.of_below hb4)
     have hold:∀g,(Value.slice va k vc).ownBlock=some g->w.heap.size<=g:=fun g hg=>(HI.out.own g hg).1
     refine⟨vs++[t3.t],r3,by simp[hkk],HI.out.goes.step HM.out rfl hk3,?_,hst.grown hg hold,?_,?_,?_,?_⟩
     ·exact (s3.keep hb4).grown hg (fun g e=>⟨(hvb g e).2.2,by have:=hold g e;have:=Hn0.out;omega⟩)
     ·rw[flS_snoc,jL,hkk,hty];exact hown
     ·intro g hgv
      rcases hat with h1|h1
      ·exact⟨hold g (h1▸hgv),(hvb g (h1▸hgv)).2.2⟩
      ·rw[h1]at hgv
       have e:=Option.some.inj hgv
       rw[World.size_alloc]at e
       exact⟨by have:=hst.size;simp at this;omega,s3.fresh (by omega)⟩
     ·intro s hs
      rcases List.mem_append.1 hs with hs|hs
      ·exact HI.out.lens s hs
      ·simp only[List.mem_singleton]at hs
       subst hs
       exact ht3
     ·have:=hL4;rw[<-hL]at this;simp only[jL,jK,List.length_nil,hkk]at this ⊢;omega
    have hl1:∀j u,[Value.string ty][j]? =some u->(W3.alloc (.cells #[.string ty] 9)).cell? ((⟨W3.heap.size,0,none⟩:Addr).add j)=some u:=cell_one_new W3 (.string ty) 9
    clear hv s3 y3 hb4 hvb
    go_wp2_with (at_builtin;refine wpList_append_own_at _ rfl _ _ 38 rfl E.n0 9 i0 _ 1 16 Tryz.underlying38 hi0 hz0 hz1 hz2 rfl (by decide) _ _ _ rfl hrow ⟨W3.heap.size,0,none⟩ 1 1 [.string ty] rfl rfl hl1 one1s (by unfold maxLen;omega) (by omega) (by simp;omega) ?_;intro v' w1 hown hg _ hat;have HN:=hid (HFIN.out v' w1 hown hg hat);obtain⟨a',cap',rfl⟩:=rsl hown;clear hown hg hat)
    go_roundw
    case rel=>exact⟨k+1,a',cap',rfl,HN.out⟩
    case measure=>simp[lenV];omega
  ·have hmf:isM [44] q=false:=by simpa using hm
   have hsk:=y1v hI.st (ofL [44]) (y0u (by simp) (by decide) (by decide) hI.st.tok hmf)
   have HM:=hid hmf
   clear hI hm hmf
   go_wp2_with fail
   refine hsk.mono ?_
   rintro e W2 ⟨rfl,s2,y2⟩
   have HY2:=hid (And.intro s2 y2)
   clear hsk s2 y2
   go_wp2
   go_ret
   refine .inl ⟨vs,_,q,HI.out.goes.last HM.out,rfl,⟨rkp HI.out.row (fun g hg=>?_),HI.out.own,HI.out.lens⟩,HY2.out.1,HI.out.stay.trans HY2.out.2⟩
   obtain⟨_,cu,hcu⟩:=rbk HI.out.row hg
   exact (HY2.out.2.blk g (jG hcu).1 (HI.out.own g hg).2).1
end
section
open Go.RowKit Go.Maps
open Lx (Tk ofL KsAt y0a rbk rkp)
def StrAt (W:World)(v:Value)(l:List jU):Prop:=
 ∃a c,v=.slice a l.length c∧l.length<=c∧c<=maxLen∧(0<l.length->∃b o,b<W.heap.size∧a=some ⟨b,o,none⟩∧∀i (h:i<l.length),W.cell? ⟨b,o+i,none⟩=some (.string (ofL l[i])))
theorem StrAt.nil (W:World):StrAt W (.slice none 0 0) []:=⟨none,0,rfl,jJ _,by decide,fun h=>absurd h (by simp)⟩
theorem StrAt.same {W W':World}{v:Value}{l:List jU}(h:StrAt W v l)(hs:W.heap.size<=W'.heap.size)(hb:∀b,v.ownBlock=some b->b<W.heap.size->W'.heap[b]? =W.heap[b]?):StrAt W' v l:=by
 obtain⟨a,c,rfl,h1,h2,h3⟩:=h
 refine⟨a,c,rfl,h1,h2,fun h0=>?_⟩
 obtain⟨b,o,hl,rfl,hc⟩:=h3 h0
 exact⟨b,o,jI hl hs,rfl,fun i hi=>(World.cell?_of_block (a:=⟨b,o+i,none⟩) (hb b rfl hl)).trans (hc i hi)⟩
theorem StrAt.keep {W W':World}{v:Value}{l:List jU}(h:StrAt W v l)(hb:Below W.heap.size W W'):StrAt W' v l:=h.same hb.size fun b _ hl=>hb.block b hl
theorem y3l (l:List jU)(i:Nat)(h:i<l.length):(flS l)[i]? =some (.string (ofL l[i])):=by
 unfold flS
 rw[List.getElem?_map,List.getElem?_eq_getElem h];rfl
theorem y0m {W:World}{base:Nat}{ty:TypeId}{v:Value}{l:List jU}(h:W.ownsRow base ty 1 v l.length (flS l)):StrAt W v l:=by
 obtain⟨hl,⟨e,h0⟩|⟨g,cap,cur,e,hb,hg,hc,hm,hsz,ht⟩⟩:=h
 ·have:l=[]:=List.eq_nil_of_length_eq_zero h0
  subst this
  rw[e]
  exact StrAt.nil W
 ·refine⟨_,cap,e,hc,hm,fun _=>⟨g,0,(jG hg).1,rfl,fun i hi=>?_⟩⟩
  have hj:=y3l l i hi
  rw[<-ht,List.getElem?_take,if_pos (by omega)]at hj
  rw[Nat.zero_add]
  rw[Array.getElem?_toList]at hj
  simp[World.cell?,hg,hj]
theorem in_any {w:World}{v:Value}{l:List jU}(h:StrAt w v l)(s:jU) :
  Calls Tryz.prog 104 #[v,.string (ofL s)] w fun e w'=>e=.returned (.bool (decide (s∈l)))∧w'=w:=by
 obtain⟨a,c,rfl,hlc,hcm,h3⟩:=h
 have hcm':c<=9223372036854775807:=by unfold maxLen at hcm;omega
 have hnl:l.length<=9223372036854775807:=by omega
 have H3:=hid h3
 obtain⟨n,hn⟩:∃n,l.length=n:=⟨_,rfl⟩
 rw[hn]at hlc hnl
 clear h3 hcm
 rw[hn]
 go_enter Tryz.func104,Tryz.ntmps104
 go_wp2
 go_loopw [5] (fun vi wr=>∃i:Nat,vi=.int .i64 i∧i<=n∧wr=w∧Hid (s∉l.take i)) (fun vi _=>n-(intOf vi).toNat)
 case atStart=>exact⟨0,rfl,Nat.zero_le _,rfl,by show _∉_;simp⟩
 case round =>
  obtain⟨i,rfl,hi,rfl,HN⟩:=hrel
  by_cases hlt:i<n
  ·have hil:i<l.length:=by omega
   obtain⟨b,o,hbl,rfl,hc⟩:=H3.out (by omega)
   have c0:=hc i hil
   have j0:(0:Int)<=(i:Int):=by omega
   have j1:(i:Int)<(n:Int):=by omega
   by_cases he:l[i]=s
   ·have HF:Hid (decide (s∈l)=true):=decide_eq_true (by rw[<-he];exact List.getElem_mem hil)
    have heq:=str_eq (congrArg ofL he)
    clear hc he H3
    go_wp2
    go_ret
    exact⟨by rw[HF.out];rfl,by first|rfl|trivial⟩
   ·have heq:=str_ne (fun e=>he (y1z e))
    have HN':Hid (s∉l.take (i+1)):=by
     show _∉_
     rw[List.take_succ_eq_append_getElem hil,List.mem_append,List.mem_singleton]
     exact fun h=>h.elim HN.out (fun e=>he e.symm)
    clear hc he
    go_wp2
    go_roundw
    case rel=>exact⟨i+1,by go_num,by omega,by first|rfl|trivial,HN'.out⟩
    case measure=>simp[intOf];omega
  ·have HF:Hid (decide (s∈l)=false):=decide_eq_false (fun hm=>HN.out (by rw[List.take_of_length_le (by omega)];exact hm))
   go_wp2
   go_ret
   exact⟨by rw[HF.out];rfl,by first|rfl|trivial⟩
theorem info24s:(Tryz.prog.info? 24).map (·.size)=some 3:=by kernel_rfl
section
variable {P : Nat -> Prop} {X Y : World} {n bx : Nat} {t : T} {sl : Value}
theorem ArgsP.one (h:ArgsP P X sl t.args):∀u∈[Value.int .i64 t.v,.string t.fn,sl],u.oneCell'=true:=by
 obtain⟨la,lc,rfl,_,_⟩:=h.slice'
 intro u hu
 simp only[List.mem_cons,List.not_mem_nil,or_false]at hu
 rcases hu with rfl|rfl|rfl<;>rfl
theorem y2r {cur:Array Value}(h:Y.heap[bx]? =some (.cells cur 24 (0,0)))(hl:cur.size=3)(ht:ArgsP P X sl t.args) :
  ∃Y',(Instr.storeAt 24 (.pointer (some ⟨bx,0,none⟩)) (tval t sl)).run Tryz.prog Y=.ok () Y'∧Y'.heap[bx]? =some (tbox t sl)∧Only [bx] Y Y':=by
 obtain⟨Y',h1,h2,h3⟩:=y0a 24 Y bx cur [.int .i64 t.v,.string t.fn,sl] h hl info24s ht.one
 exact⟨Y',h1,h2,⟨h3.os,h3.tape,h3.output,h3.size,h3.block⟩⟩
end
end
