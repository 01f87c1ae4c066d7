import Derived.Test.YthkinkcpfcpehaaGreatDoorZM
import Derived.Test.YthkinkcpfcpehaaGreatDoorGU
namespace Go.Proofs.YthkinkcpfcpehaaGreatDoor
set_option maxRecDepth 100000
set_option maxHeartbeats 16000000
open Go.RowKit Go.Maps
open Lx (Tk ofL KsAt y0a wsr rbk rkp rsl lit3)
section
variable {D : DE} {w : World} {l r fr : List Tk} {t : Tk} {mn : Bool} {bd : Int}
structure NBx (D:DE) (w:World) (R F:Nat) (f:Fm) (sl sr sk:Value) (Z:World):Prop where
 mb:MBx D w R Z
 box:Z.heap[F]? =some (fbox f sl sr sk)
 fm:FmP (fun k=>R<k∧k≠F) Z f sl sr sk
 RF:R<F
theorem NBx.lt {R F:Nat}{f:Fm}{sl sr sk:Value}{Z:World}(h:NBx D w R F f sl sr sk Z):F<Z.heap.size:=(jG h.box).1
theorem NBx.step {R F:Nat}{f:Fm}{sl sr sk:Value}{Z Z':World}(h:NBx D w R F f sl sr sk Z)(ho:Only [D.B] Z Z'):NBx D w R F f sl sr sk Z':=by
 have hBR:=h.mb.BR
 have hRF:=h.RF
 exact⟨h.mb.step ho,(ho.block F h.lt (by simp;omega)).trans h.box,h.fm.keep ho.size (fun k hk hkl=>⟨hk,ho.block k hkl (by have:=hk.1;simp;omega)⟩),hRF⟩
theorem NBx.keep {R F:Nat}{f:Fm}{sl sr sk:Value}{Z Z':World}(h:NBx D w R F f sl sr sk Z)(hb:Below Z.heap.size Z Z'):NBx D w R F f sl sr sk Z':=h.step (Only.of_below hb)
def LInv (D:DE)(w:World)(R F:Nat)(bl:List jU)(n:Nat)(l fr:List Tk)(mn:Bool)(bd:Int)(m:Nat)(W:World):Prop:=
 ∃f sl sr sk l1 fr1 mn1 bd1,NBx D w R F f sl sr sk W∧DS D W l1 fr1 mn1 bd1∧JRel D bl l fr mn bd m f l1 fr1 mn1 bd1∧(bd1<0->l1.length<=n∧bl.length+l1.length<=2097155)
def muW (D:DE)(W:World):Nat:=match W.cell? ⟨D.B,3,none⟩ with|some (.int _ b)=>if b<0 then (match W.cell? ⟨D.B,1,none⟩ with|some (.int _ i)=>D.L.length-i.toNat|_=>0)+1 else 0|_=>0
theorem DS.mu {W:World}{l fr:List Tk}{mn:Bool}{bd:Int}(h:DS D W l fr mn bd):muW D W=if bd<0 then l.length+1 else 0:=by
 obtain⟨⟨-,h1,-,h3,-,-⟩,-⟩:=h.cells
 have hl:=h.len
 unfold muW
 rw[h3,h1]
 have e:D.L.length-((D.L.length-l.length:Nat):Int).toNat=l.length:=by rw[Int.toNat_natCast];omega
 simp only[e]
theorem y3w {n:Nat}(hU:∀l:List Tk,l.length<=n->DU D l){l:List Tk}(hl:l.length<=n):DF D l:=by
 intro w fr mn bd bv bl h hbud hs
 have HBU:=hid hbud
 obtain⟨R,hR⟩:∃R,w.heap.size=R:=⟨_,rfl⟩
 have hm0:=MBx.new h hR
 have hb0:=bbx w zbox
 have hd0:=h.keep hb0
 have HSW:Hid (∀Z,Only [D.B] w Z->StrAt Z bv bl):=fun Z ho=>hs.only h ho
 obtain⟨W0,hW0⟩:∃X,w.alloc zbox=X:=⟨_,rfl⟩
 rw[hW0]at hm0 hd0
 have HW0:=hid hW0
 have hc0:=hU l hl W0 fr mn bd bv bl hd0 hbud (HSW.out _ hm0.on)
 have HM0:=hid hm0
 clear h hb0 hs hW0 hm0 hd0 hbud
 go_enter Tryz.func58,Tryz.ntmps58
 go_upto_region 1 with fail
 try simp only[hR]
 rw[show _=W0 from HW0.out]
 go_wp2_with fail
 refine hc0.mono ?_
 rintro e W00 ⟨f,sl,sr,sk,l1,fr1,mn1,bd1,hT,rfl,hf,hd00,ho00⟩
 clear hc0
 obtain⟨la,lc,rfl,-,-⟩:=hf.l.slice'
 obtain⟨ra,rc,rfl,-,-⟩:=hf.r.slice'
 obtain⟨ka,kc,rfl,-,-⟩:=hf.k.slice
 have hm00:=HM0.out.step ho00
 have hbA:=bbx W00 (fbox f (.slice la f.l.args.length lc) (.slice ra f.r.args.length rc) (.slice ka f.kids.length kc))
 have hzA:=(jH W00 (fbox f (.slice la f.l.args.length lc) (.slice ra f.r.args.length rc) (.slice ka f.kids.length kc))).1
 obtain⟨F,hF⟩:∃F,W00.heap.size=F:=⟨_,rfl⟩
 rw[hF]at hzA
 have hRF:R<F:=by rw[<-hF];exact hm00.lt
 have hd0:=hd00.keep hbA
 have hm0:NBx D w R F f (.slice la f.l.args.length lc) (.slice ra f.r.args.length rc) (.slice ka f.kids.length kc) (W00.alloc (fbox f (.slice la f.l.args.length lc) (.slice ra f.r.args.length rc) (.slice ka f.kids.length kc))):=⟨hm00.step (Only.of_below hbA),hzA,hf.keep hbA.size (fun k hk hkl=>⟨⟨by have:=HM0.out.lt;omega,by omega⟩,hbA.block k hkl⟩),hRF⟩
 obtain⟨WA,hWA⟩:∃X,W00.alloc (fbox f (.slice la f.l.args.length lc) (.slice ra f.r.args.length rc) (.slice ka f.kids.length kc))=X:=⟨_,rfl⟩
 rw[hWA]at hd0 hm0
 have HWA:=hid hWA
 have HT1:=hid hT
 have HL1:Hid (bd1<0->l1.length<=n∧bl.length+l1.length<=2097155):=fun hb=>by
  by_cases hb':bd<0
  ·have h9:=HBU.out hb'
   rcases HT1.out.1 hb' with⟨fx,hp,-⟩|⟨q,-,hbe⟩
   ·have:=hp.len;omega
   ·omega
  ·have:=HT1.out.2 hb';omega
 clear hT hf hd00 ho00 hm00 hbA hzA hWA
 go_upto_region 2 with fail
 try simp only[hF]
 rw[show _=WA from HWA.out]
 have hi1:=y16 hd0 [61,62]
 obtain⟨b1,hb1⟩:∃b,(decide (bd1<0)&&isM [61,62] l1)=b:=⟨_,rfl⟩
 rw[hb1]at hi1
 have HB1:=hid hb1
 have H0:=hid (And.intro hd0 hm0)
 clear hb1 hd0 hm0
 go_wp2_with fail
 refine hi1.mono ?_
 rintro e W1 ⟨rfl,hbW1⟩
 have hd1:=H0.out.1.keep hbW1
 have hm1:=H0.out.2.keep hbW1
 clear hi1 hbW1 H0
 cases b1 with
 | true =>
  have hx:=HB1.out
  rw[Bool.and_eq_true,decide_eq_true_eq]at hx
  have hj:=join_m hx.2
  obtain⟨t1,r1,rfl,_,_⟩:=y03 hx.2
  have hlr:r1.length<=n∧bl.length+r1.length<=2097155:=by have:=HL1.out hx.1;simp only[jK]at this;omega
  have HJ:=hid hj
  clear hj
  obtain⟨i6,-,e6,f6,w6',hE6,oE6⟩:=hd1.eat
  have hm6:=hm1.step oE6
  obtain⟨Y6,hY6⟩:∃X,W1.setCell ⟨D.B,1,none⟩ (.int .i64 ((i6:Int)+1))=X:=⟨_,rfl⟩
  rw[hY6]at hE6 oE6 hm6
  have HY6:=hid hY6
  clear hY6 hd1 hm1 oE6
  go_upto_region 4 with fail
  rw[show _=Y6 from HY6.out]
  clear HY6 e6 f6 w6'
  have hY6d:=(Below.refl Y6.heap.size Y6).drew
  have hc:=hU r1 hlr.1 Y6.drew fr1 mn1 bd1 bv bl (hE6.keep hY6d) (fun _=>hlr.2) (HSW.out _ (hm6.keep hY6d).mb.on)
  have HM6:=hid (And.intro (hm6.keep hY6d) hx)
  clear hE6 hm6 hY6d hx
  refine wp_region_held_drew (S:=fun X=>X.heap[F]? =some (fbox f (.slice la f.l.args.length lc) (.slice ra f.r.args.length rc) (.slice ka f.kids.length kc))) (by kernel_rfl) HM6.out.1.box (fun hH=>?_)
  refine Lx.tk 0 (fval f (.slice la f.l.args.length lc) (.slice ra f.r.args.length rc) (.slice ka f.kids.length kc)) rfl (Or.inl ⟨by rfl,?_⟩) ?_
  ·intro w hSw;obtain⟨⟨g0,g1,g2,g3,g4,g5,g6,g7,g8⟩,-⟩:=y00 hSw;(try dsimp only at hSw);go_simp
  try simp only[Act.put,jM]
  refine Lx.tk 1 (.pointer (some ⟨D.B,0,none⟩)) rfl (Or.inl ⟨by rfl,?_⟩) ?_
  ·intro w hSw;obtain⟨⟨g0,g1,g2,g3,g4,g5,g6,g7,g8⟩,-⟩:=y00 hSw;(try dsimp only at hSw);go_simp
  try simp only[Act.put,jM]
  refine Lx.tk 2 (bv) rfl (Or.inl ⟨by rfl,?_⟩) ?_
  ·intro w hSw;obtain⟨⟨g0,g1,g2,g3,g4,g5,g6,g7,g8⟩,-⟩:=y00 hSw;(try dsimp only at hSw);go_simp
  try simp only[Act.put,jM]
  refine wpAnyH_ready (rs:=[3]) (by kernel_rfl) (by simp) ?_
  refine AllReadyH.cons rfl (fun K hK=>?_) AllReadyH.nil
  go_simp
  refine hc.mono ?_
  rintro e W8 ⟨g,ul,ur,uk,l2,fr2,mn2,bd2,hT2,rfl,hg,hd8,ho8⟩
  clear hc
  obtain⟨ua,uc,rfl,-,-⟩:=hg.l.slice'
  obtain⟨va,vc,rfl,-,-⟩:=hg.r.slice'
  obtain⟨xa,xc,rfl,-,-⟩:=hg.k.slice
  have hm8:=HM6.out.1.step ho8
  have hg8:FmP (fun k=>R<k∧k≠F) W8 g (.slice ua g.l.args.length uc) (.slice va g.r.args.length vc) (.slice xa g.kids.length xc):=hg.keep (jJ _) (fun k hk hkl=>⟨⟨by have:=HM6.out.1.mb.lt;omega,by have:=HM6.out.1.lt;omega⟩,rfl⟩)
  have ht:=y3b (k:=5) hm8.fm hg8
  have HT:=hid (DFmR.two HT1.out HM6.out.2.1 (by rw[HJ.out];simp) hT2)
  rw[HJ.out]at HT
  have H8:=hid (And.intro hd8 hm8)
  clear hT2 hg hd8 ho8 hg8
  refine hK.out _ _ hm8.box (fun hH=>?_)
  clear hK K
  try simp only[Act.put,jA,jB,jC,jM]
  refine wpAnyH_ready (rs:=[4]) (by kernel_rfl) (by simp) ?_
  refine AllReadyH.cons rfl (fun K hK=>?_) AllReadyH.nil
  go_simp
  refine ht.mono ?_
  rintro e W9 ⟨b,rfl,hKd,hb9⟩
  clear ht
  have hm9:=H8.out.2.keep hb9
  have hd9:=H8.out.1.keep hb9
  obtain⟨V,hrun,HV⟩:=hm9.mb.fin hd9 (f:=fOp 5 [f,g]) (P:=fun k=>R<k) ⟨ArgsP.nil _ _,ArgsP.nil _ _,hKd.keep (jJ _) (fun k hk _=>⟨by rcases hk with h|h;exact h.1;have:=H8.out.2.mb.lt;omega,rfl⟩)⟩ (fun k hk=>hk)
  have hVF:V.heap[F]? =some (fbox f (.slice la f.l.args.length lc) (.slice ra f.r.args.length rc) (.slice ka f.kids.length kc)):=by
   obtain⟨V',hr',hV',oV'⟩:=y0g rfl hm9.mb.res rfl (show FmP (fun k=>R<k) W9 (fOp 5 [f,g]) (.slice none 0 0) (.slice none 0 0) (.slice (some ⟨b,0,none⟩) 2 2) from⟨ArgsP.nil _ _,ArgsP.nil _ _,hKd.keep (jJ _) (fun k hk _=>⟨by rcases hk with h|h;exact h.1;have:=H8.out.2.mb.lt;omega,rfl⟩)⟩)
   rw[hr']at hrun
   cases hrun
   exact (oV'.block F hm9.lt (by have:=hm9.RF;simp;omega)).trans hm9.box
  refine hK.out _ _ hm9.box (fun hH=>?_)
  clear hK K
  try simp only[Act.put,jA,jB,jC,jM]
  refine wpAnyH_ready (rs:=[5]) (by kernel_rfl) (by simp) ?_
  refine AllReadyH.cons rfl (fun K hK=>?_) AllReadyH.nil
  rw[if_pos (by rfl)]
  refine Lx.y02 27 (.tmp 4) (.tmp 23) rfl _ _ rfl (by kernel_rfl) hrun ?_
  refine hK.out _ _ hVF (fun hH=>?_)
  clear hK K
  try simp only[Act.put,jA,jB,jC]
  refine wpAnyH_done (by kernel_rfl) ?_ _
  go_wp2
  have HVC:Hid (FC9 V R (.int .i64 5) (.string ⟨#[]⟩) (.int .i64 0) (.string ⟨#[]⟩) (.slice none 0 0) (.int .i64 0) (.string ⟨#[]⟩) (.slice none 0 0) (.slice (some ⟨b,0,none⟩) 2 2)):=HV.out.1
  obtain⟨v0,v1,v2,v3,v4,v5,v6,v7,v8⟩:=HVC.out
  refine bodyPost_ret (v:=.agg #[.int .i64 5,.string ⟨#[]⟩,.int .i64 0,.string ⟨#[]⟩,.slice none 0 0,.int .i64 0,.string ⟨#[]⟩,.slice none 0 0,.slice (some ⟨b,0,none⟩) 2 2]) (by simp[results,Tryz.results58,go_sem,v0,v1,v2,v3,v4,v5,v6,v7,v8]) rfl ?_
  exact⟨fOp 5 [f,g],_,_,_,l2,fr2,mn2,bd2,HT.out,rfl,HV.out.2.1,HV.out.2.2.1,HV.out.2.2.2⟩
 | false =>
  have hi2:=y16 hd1 [60,61,62]
  obtain⟨b2,hb2⟩:∃b,(decide (bd1<0)&&isM [60,61,62] l1)=b:=⟨_,rfl⟩
  rw[hb2]at hi2
  have HB2:=hid hb2
  have H1:=hid (And.intro hd1 hm1)
  clear hb2 hd1 hm1
  go_wp2_with fail
  refine hi2.mono ?_
  rintro e W2 ⟨rfl,hbW2⟩
  have hd2:=H1.out.1.keep hbW2
  have hm2:=H1.out.2.keep hbW2
  clear hi2 hbW2 H1
  cases b2 with
  | true =>
   have hx:=HB2.out
   rw[Bool.and_eq_true,decide_eq_true_eq]at hx
   have hj:=join_m hx.2
   obtain⟨t1,r1,rfl,_,_⟩:=y03 hx.2
   have hlr:r1.length<=n∧bl.length+r1.length<=2097155:=by have:=HL1.out hx.1;simp only[jK]at this;omega
   have HJ:=hid hj
   clear hj
   obtain⟨i6,-,e6,f6,w6',hE6,oE6⟩:=hd2.eat
   have hm6:=hm2.step oE6
   obtain⟨Y6,hY6⟩:∃X,W2.setCell ⟨D.B,1,none⟩ (.int .i64 ((i6:Int)+1))=X:=⟨_,rfl⟩
   rw[hY6]at hE6 oE6 hm6
   have HY6:=hid hY6
   clear hY6 hd2 hm2 oE6
   go_upto_region 7 with fail
   rw[show _=Y6 from HY6.out]
   clear HY6 e6 f6 w6'
   have hY6d:=(Below.refl Y6.heap.size Y6).drew
   have hc:=hU r1 hlr.1 Y6.drew fr1 mn1 bd1 bv bl (hE6.keep hY6d) (fun _=>hlr.2) (HSW.out _ (hm6.keep hY6d).mb.on)
   have HM6:=hid (And.intro (hm6.keep hY6d) hx)
   clear hE6 hm6 hY6d hx
   refine wp_region_held_drew (S:=fun X=>X.heap[F]? =some (fbox f (.slice la f.l.args.length lc) (.slice ra f.r.args.length rc) (.slice ka f.kids.length kc))) (by kernel_rfl) HM6.out.1.box (fun hH=>?_)
   refine Lx.tk 0 (fval f (.slice la f.l.args.length lc) (.slice ra f.r.args.length rc) (.slice ka f.kids.length kc)) rfl (Or.inl ⟨by rfl,?_⟩) ?_
   ·intro w hSw;obtain⟨⟨g0,g1,g2,g3,g4,g5,g6,g7,g8⟩,-⟩:=y00 hSw;(try dsimp only at hSw);go_simp
   try simp only[Act.put,jM]
   refine Lx.tk 1 (.pointer (some ⟨D.B,0,none⟩)) rfl (Or.inl ⟨by rfl,?_⟩) ?_
   ·intro w hSw;obtain⟨⟨g0,g1,g2,g3,g4,g5,g6,g7,g8⟩,-⟩:=y00 hSw;(try dsimp only at hSw);go_simp
   try simp only[Act.put,jM]
   refine Lx.tk 2 (bv) rfl (Or.inl ⟨by rfl,?_⟩) ?_
   ·intro w hSw;obtain⟨⟨g0,g1,g2,g3,g4,g5,g6,g7,g8⟩,-⟩:=y00 hSw;(try dsimp only at hSw);go_simp
   try simp only[Act.put,jM]
   refine wpAnyH_ready (rs:=[3]) (by kernel_rfl) (by simp) ?_
   refine AllReadyH.cons rfl (fun K hK=>?_) AllReadyH.nil
   go_simp
   refine hc.mono ?_
   rintro e W8 ⟨g,ul,ur,uk,l2,fr2,mn2,bd2,hT2,rfl,hg,hd8,ho8⟩
   clear hc
   obtain⟨ua,uc,rfl,-,-⟩:=hg.l.slice'
   obtain⟨va,vc,rfl,-,-⟩:=hg.r.slice'
   obtain⟨xa,xc,rfl,-,-⟩:=hg.k.slice
   have hm8:=HM6.out.1.step ho8
   have hg8:FmP (fun k=>R<k∧k≠F) W8 g (.slice ua g.l.args.length uc) (.slice va g.r.args.length vc) (.slice xa g.kids.length xc):=hg.keep (jJ _) (fun k hk hkl=>⟨⟨by have:=HM6.out.1.mb.lt;omega,by have:=HM6.out.1.lt;omega⟩,rfl⟩)
   have ht:=y3b (k:=6) hm8.fm hg8
   have HT:=hid (DFmR.two HT1.out HM6.out.2.1 (by rw[HJ.out];simp) hT2)
   rw[HJ.out]at HT
   have H8:=hid (And.intro hd8 hm8)
   clear hT2 hg hd8 ho8 hg8
   refine hK.out _ _ hm8.box (fun hH=>?_)
   clear hK K
   try simp only[Act.put,jA,jB,jC,jM]
   refine wpAnyH_ready (rs:=[4]) (by kernel_rfl) (by simp) ?_
   refine AllReadyH.cons rfl (fun K hK=>?_) AllReadyH.nil
   go_simp
   refine ht.mono ?_
   rintro e W9 ⟨b,rfl,hKd,hb9⟩
   clear ht
   have hm9:=H8.out.2.keep hb9
   have hd9:=H8.out.1.keep hb9
   obtain⟨V,hrun,HV⟩:=hm9.mb.fin hd9 (f:=fOp 6 [f,g]) (P:=fun k=>R<k) ⟨ArgsP.nil _ _,ArgsP.nil _ _,hKd.keep (jJ _) (fun k hk _=>⟨by rcases hk with h|h;exact h.1;have:=H8.out.2.mb.lt;omega,rfl⟩)⟩ (fun k hk=>hk)
   have hVF:V.heap[F]? =some (fbox f (.slice la f.l.args.length lc) (.slice ra f.r.args.length rc) (.slice ka f.kids.length kc)):=by
    obtain⟨V',hr',hV',oV'⟩:=y0g rfl hm9.mb.res rfl (show FmP (fun k=>R<k) W9 (fOp 6 [f,g]) (.slice none 0 0) (.slice none 0 0) (.slice (some ⟨b,0,none⟩) 2 2) from⟨ArgsP.nil _ _,ArgsP.nil _ _,hKd.keep (jJ _) (fun k hk _=>⟨by rcases hk with h|h;exact h.1;have:=H8.out.2.mb.lt;omega,rfl⟩)⟩)
    rw[hr']at hrun
    cases hrun
    exact (oV'.block F hm9.lt (by have:=hm9.RF;simp;omega)).trans hm9.box
   refine hK.out _ _ hm9.box (fun hH=>?_)
   clear hK K
   try simp only[Act.put,jA,jB,jC,jM]
   refine wpAnyH_ready (rs:=[5]) (by kernel_rfl) (by simp) ?_
   refine AllReadyH.cons rfl (fun K hK=>?_) AllReadyH.nil
   rw[if_pos (by rfl)]
   refine Lx.y02 27 (.tmp 4) (.tmp 38) rfl _ _ rfl (by kernel_rfl) hrun ?_
   refine hK.out _ _ hVF (fun hH=>?_)
   clear hK K
   try simp only[Act.put,jA,jB,jC]
   refine wpAnyH_done (by kernel_rfl) ?_ _
   go_wp2
   have HVC:Hid (FC9 V R (.int .i64 6) (.string ⟨#[]⟩) (.int .i64 0) (.string ⟨#[]⟩) (.slice none 0 0) (.int .i64 0) (.string ⟨#[]⟩) (.slice none 0 0) (.slice (some ⟨b,0,none⟩) 2 2)):=HV.out.1
   obtain⟨v0,v1,v2,v3,v4,v5,v6,v7,v8⟩:=HVC.out
   refine bodyPost_ret (v:=.agg #[.int .i64 6,.string ⟨#[]⟩,.int .i64 0,.string ⟨#[]⟩,.slice none 0 0,.int .i64 0,.string ⟨#[]⟩,.slice none 0 0,.slice (some ⟨b,0,none⟩) 2 2]) (by simp[results,Tryz.results58,go_sem,v0,v1,v2,v3,v4,v5,v6,v7,v8]) rfl ?_
   exact⟨fOp 6 [f,g],_,_,_,l2,fr2,mn2,bd2,HT.out,rfl,HV.out.2.1,HV.out.2.2.1,HV.out.2.2.2⟩
  | false =>
   have hi3:=y16 hd2 [38]
   obtain⟨b3,hb3⟩:∃b,(decide (bd1<0)&&isM [38] l1)=b:=⟨_,rfl⟩
   rw[hb3]at hi3
   have HB3:=hid hb3
   have H2:=hid (And.intro hd2 hm2)
   clear hb3 hd2 hm2
   go_wp2_with fail
   refine hi3.mono ?_
   rintro e W3 ⟨rfl,hbW3⟩
   have hd3:=H2.out.1.keep hbW3
   have hm3:=H2.out.2.keep hbW3
   clear hi3 hbW3 H2
   cases b3 with
   | true =>
    have hx:=HB3.out
    rw[Bool.and_eq_true,decide_eq_true_eq]at hx
    have hj:=join_m hx.2
    have hInv:LInv D w R F bl n l fr mn bd 1 W3:=⟨f,_,_,_,l1,fr1,mn1,bd1,hm3,hd3,JRel.start HT1.out hx.1 (by rw[hj];rfl) (by simp),HL1.out⟩
    have HI0:=hid hInv
    clear hInv hj hx hd3 hm3 HB1 HB2
    go_wp2
    go_loopw [] (fun wr=>Hid (LInv D w R F bl n l fr mn bd 1 wr)) (fun wr=>muW D wr)
    case atStart=>exact HI0.out
    case round =>
     obtain⟨f,sl,sr,sk,l1,fr1,mn1,bd1,hN,hd,hJ,hln⟩:=hrel.out
     have hf:=hN.fm
     obtain⟨la,lc,rfl,-,-⟩:=hf.l.slice'
     obtain⟨ra,rc,rfl,-,-⟩:=hf.r.slice'
     obtain⟨ka,kc,rfl,-,-⟩:=hf.k.slice
     have his:=y16 hd [38]
     have HMU:=hid hd.mu
     clear hrel hf HI0
     cases hx:(decide (bd1<0)&&isM [38] l1) with
     | true =>
      rw[hx]at his
      rw[Bool.and_eq_true,decide_eq_true_eq]at hx
      have hj:=join_m hx.2
      obtain⟨t1,r1,rfl,_,_⟩:=y03 hx.2
      have hlr:r1.length<=n∧bl.length+r1.length<=2097155:=by have:=hln hx.1;simp only[jK]at this;omega
      have HJ:=hid (And.intro hJ (And.intro hx.1 hj))
      clear hj hJ hln
      go_wp2_with fail
      refine his.mono ?_
      rintro e W5 ⟨rfl,hb5⟩
      have hd5:=hd.keep hb5
      obtain⟨i6,-,e6,f6,w6',hE6,oE6⟩:=hd5.eat
      have hN6:=(hN.keep hb5).step oE6
      obtain⟨Y6,hY6⟩:∃X,W5.setCell ⟨D.B,1,none⟩ (.int .i64 ((i6:Int)+1))=X:=⟨_,rfl⟩
      rw[hY6]at hE6 oE6 hN6
      have HY6:=hid hY6
      clear hY6 hd hN hb5 hd5 oE6 his hx
      go_upto_region 11 with fail
      rw[show _=Y6 from HY6.out]
      clear HY6 e6 f6 w6'
      have hY6d:=(Below.refl Y6.heap.size Y6).drew
      have hc:=hU r1 hlr.1 Y6.drew fr1 mn1 bd1 bv bl (hE6.keep hY6d) (fun _=>hlr.2) (HSW.out _ (hN6.keep hY6d).mb.on)
      obtain⟨⟨g0,g1,g2,g3,g4,g5,g6,g7,g8⟩,-⟩:=y00 hN6.box
      have HN6:=hid (hN6.keep hY6d)
      clear hE6 hN6 hY6d
      refine wp_region_held_drew (S:=fun _=>True) (by kernel_rfl) trivial (fun hH=>?_)
      refine Lx.tk 1 (.pointer (some ⟨D.B,0,none⟩)) rfl (Or.inl ⟨by rfl,?_⟩) ?_
      ·intro w hSw;(try dsimp only at hSw);go_simp
      try simp only[Act.put,jM]
      refine Lx.tk 2 (bv) rfl (Or.inl ⟨by rfl,?_⟩) ?_
      ·intro w hSw;(try dsimp only at hSw);go_simp
      try simp only[Act.put,jM]
      refine wpAnyH_ready (rs:=[0,3]) (by kernel_rfl) (by simp) ?_
      refine AllReadyH.cons rfl (fun K hK=>?_) (AllReadyH.cons rfl (fun K hK=>?_) AllReadyH.nil)
      ·go_simp
       refine hK.out _ _ trivial (fun hH=>?_)
       clear hK K
       try simp only[Act.put,jA,jB,jC,jM]
       refine wpAnyH_ready (rs:=[3]) (by kernel_rfl) (by simp) ?_
       refine AllReadyH.cons rfl (fun K hK=>?_) AllReadyH.nil
       go_simp
       refine hc.mono ?_
       rintro e W8 ⟨g,ul,ur,uk,l2,fr2,mn2,bd2,hT2,rfl,hg,hd8,ho8⟩
       clear hc
       obtain⟨ua,uc,rfl,-,-⟩:=hg.l.slice'
       obtain⟨va,vc,rfl,-,-⟩:=hg.r.slice'
       obtain⟨xa,xc,rfl,-,-⟩:=hg.k.slice
       have hm8:=HN6.out.step ho8
       obtain⟨⟨k0,k1,k2,k3,k4,k5,k6,k7,k8⟩,-⟩:=y00 hm8.box
       have hg8:FmP (fun k=>R<k∧k≠F) W8 g (.slice ua g.l.args.length uc) (.slice va g.r.args.length vc) (.slice xa g.kids.length xc):=hg.keep (jJ _) (fun k hk hkl=>⟨⟨by have:=HN6.out.mb.lt;omega,by have:=HN6.out.lt;omega⟩,rfl⟩)
       have ht:=y3b (k:=3) hm8.fm hg8
       have H8:=hid (And.intro hd8 (And.intro hm8 (And.intro hT2 (JRel.next HJ.out.1 HJ.out.2.1 (by rw[HJ.out.2.2];rfl) hT2))))
       clear hT2 hg hd8 ho8 hg8 hm8
       refine hK.out _ _ trivial (fun hH=>?_)
       clear hK K
       try simp only[Act.put,jA,jB,jC,jM]
       refine wpAnyH_ready (rs:=[4]) (by kernel_rfl) (by simp) ?_
       refine AllReadyH.cons rfl (fun K hK=>?_) AllReadyH.nil
       go_simp
       refine ht.mono ?_
       rintro e W9 ⟨b,rfl,hKd,hb9⟩
       clear ht
       have hm9:=H8.out.2.1.keep hb9
       have hd9:=H8.out.1.keep hb9
       have hK9:KidsP (fun k=>R<k∧k≠F) W9 (.slice (some ⟨b,0,none⟩) 2 2) [f,g]:=hKd.keep (jJ _) (fun k hk _=>⟨by rcases hk with h|h;exact h;exact⟨by have:=H8.out.2.1.mb.lt;omega,by have:=H8.out.2.1.lt;omega⟩,rfl⟩)
       obtain⟨V,hrun,hV,oV⟩:=y0g (f:=fOp 3 [f,g]) (P:=fun k=>R<k∧k≠F) (X:=W9) rfl hm9.box rfl ⟨ArgsP.nil _ _,ArgsP.nil _ _,hK9⟩
       have hRF9:=hm9.RF
       have hBR9:=hm9.mb.BR
       have hdV:=hd9.turn2 oV (by simp;omega) (by simp;omega)
       have hInv:LInv D w R F bl n l fr mn bd 1 V:=⟨fOp 3 [f,g],_,_,_,l2,fr2,mn2,bd2,⟨hm9.mb.far oV (by simp;omega),hV,⟨ArgsP.nil _ _,ArgsP.nil _ _,hK9.keep oV.size (fun k hk hkl=>⟨hk,oV.block k hkl (by simpa using hk.2)⟩)⟩,hRF9⟩,hdV,H8.out.2.2.2,fun hb=>by
        rcases H8.out.2.2.1.1 HJ.out.2.1 with⟨fx,hp,-⟩|⟨q,-,hbe⟩
        ·have:=hp.len;omega
        ·omega⟩
       have hmu:muW D V<(t1::r1).length+1:=by
        rw[hdV.mu]
        by_cases hb2:bd2<0
        ·rw[if_pos hb2]
         rcases H8.out.2.2.1.1 HJ.out.2.1 with⟨fx,hp,-⟩|⟨q,-,hbe⟩
         ·have:=hp.len;simp;omega
         ·omega
        ·rw[if_neg hb2];simp
       have HI9:=hid (And.intro hInv hmu)
       clear hm9 hd9 hKd hK9 hb9 hV oV hdV hInv hmu
       refine hK.out _ _ trivial (fun hH=>?_)
       clear hK K
       try simp only[Act.put,jA,jB,jC,jM]
       refine wpAnyH_ready (rs:=[5]) (by kernel_rfl) (by simp) ?_
       refine AllReadyH.cons rfl (fun K hK=>?_) AllReadyH.nil
       rw[if_pos (by rfl)]
       refine Lx.y02 27 (.tmp 5) (.tmp 55) rfl _ _ rfl (by kernel_rfl) hrun ?_
       refine hK.out _ _ trivial (fun hH=>?_)
       clear hK K
       try simp only[Act.put,jA,jB,jC]
       refine wpAnyH_done (by kernel_rfl) ?_ _
       go_wp2
       go_roundw
       case rel=>exact HI9.out.1
       case measure=>rw[HMU.out,if_pos HJ.out.2.1];exact HI9.out.2
      ·go_simp
       refine hc.mono ?_
       rintro e W8 ⟨g,ul,ur,uk,l2,fr2,mn2,bd2,hT2,rfl,hg,hd8,ho8⟩
       clear hc
       obtain⟨ua,uc,rfl,-,-⟩:=hg.l.slice'
       obtain⟨va,vc,rfl,-,-⟩:=hg.r.slice'
       obtain⟨xa,xc,rfl,-,-⟩:=hg.k.slice
       have hm8:=HN6.out.step ho8
       obtain⟨⟨k0,k1,k2,k3,k4,k5,k6,k7,k8⟩,-⟩:=y00 hm8.box
       have hg8:FmP (fun k=>R<k∧k≠F) W8 g (.slice ua g.l.args.length uc) (.slice va g.r.args.length vc) (.slice xa g.kids.length xc):=hg.keep (jJ _) (fun k hk hkl=>⟨⟨by have:=HN6.out.mb.lt;omega,by have:=HN6.out.lt;omega⟩,rfl⟩)
       have ht:=y3b (k:=3) hm8.fm hg8
       have H8:=hid (And.intro hd8 (And.intro hm8 (And.intro hT2 (JRel.next HJ.out.1 HJ.out.2.1 (by rw[HJ.out.2.2];rfl) hT2))))
       clear hT2 hg hd8 ho8 hg8 hm8
       refine hK.out _ _ trivial (fun hH=>?_)
       clear hK K
       try simp only[Act.put,jA,jB,jC,jM]
       refine wpAnyH_ready (rs:=[0]) (by kernel_rfl) (by simp) ?_
       refine AllReadyH.cons rfl (fun K hK=>?_) AllReadyH.nil
       go_simp
       refine hK.out _ _ trivial (fun hH=>?_)
       clear hK K
       try simp only[Act.put,jA,jB,jC,jM]
       refine wpAnyH_ready (rs:=[4]) (by kernel_rfl) (by simp) ?_
       refine AllReadyH.cons rfl (fun K hK=>?_) AllReadyH.nil
       go_simp
       refine ht.mono ?_
       rintro e W9 ⟨b,rfl,hKd,hb9⟩
       clear ht
       have hm9:=H8.out.2.1.keep hb9
       have hd9:=H8.out.1.keep hb9
       have hK9:KidsP (fun k=>R<k∧k≠F) W9 (.slice (some ⟨b,0,none⟩) 2 2) [f,g]:=hKd.keep (jJ _) (fun k hk _=>⟨by rcases hk with h|h;exact h;exact⟨by have:=H8.out.2.1.mb.lt;omega,by have:=H8.out.2.1.lt;omega⟩,rfl⟩)
       obtain⟨V,hrun,hV,oV⟩:=y0g (f:=fOp 3 [f,g]) (P:=fun k=>R<k∧k≠F) (X:=W9) rfl hm9.box rfl ⟨ArgsP.nil _ _,ArgsP.nil _ _,hK9⟩
       have hRF9:=hm9.RF
       have hBR9:=hm9.mb.BR
       have hdV:=hd9.turn2 oV (by simp;omega) (by simp;omega)
       have hInv:LInv D w R F bl n l fr mn bd 1 V:=⟨fOp 3 [f,g],_,_,_,l2,fr2,mn2,bd2,⟨hm9.mb.far oV (by simp;omega),hV,⟨ArgsP.nil _ _,ArgsP.nil _ _,hK9.keep oV.size (fun k hk hkl=>⟨hk,oV.block k hkl (by simpa using hk.2)⟩)⟩,hRF9⟩,hdV,H8.out.2.2.2,fun hb=>by
        rcases H8.out.2.2.1.1 HJ.out.2.1 with⟨fx,hp,-⟩|⟨q,-,hbe⟩
        ·have:=hp.len;omega
        ·omega⟩
       have hmu:muW D V<(t1::r1).length+1:=by
        rw[hdV.mu]
        by_cases hb2:bd2<0
        ·rw[if_pos hb2]
         rcases H8.out.2.2.1.1 HJ.out.2.1 with⟨fx,hp,-⟩|⟨q,-,hbe⟩
         ·have:=hp.len;simp;omega
         ·omega
        ·rw[if_neg hb2];simp
       have HI9:=hid (And.intro hInv hmu)
       clear hm9 hd9 hKd hK9 hb9 hV oV hdV hInv hmu
       refine hK.out _ _ trivial (fun hH=>?_)
       clear hK K
       try simp only[Act.put,jA,jB,jC,jM]
       refine wpAnyH_ready (rs:=[5]) (by kernel_rfl) (by simp) ?_
       refine AllReadyH.cons rfl (fun K hK=>?_) AllReadyH.nil
       rw[if_pos (by rfl)]
       refine Lx.y02 27 (.tmp 5) (.tmp 55) rfl _ _ rfl (by kernel_rfl) hrun ?_
       refine hK.out _ _ trivial (fun hH=>?_)
       clear hK K
       try simp only[Act.put,jA,jB,jC]
       refine wpAnyH_done (by kernel_rfl) ?_ _
       go_wp2
       go_roundw
       case rel=>exact HI9.out.1
       case measure=>rw[HMU.out,if_pos HJ.out.2.1];exact HI9.out.2
     | false =>
      rw[hx]at his
      have HT:=hid (hJ.fin (fun hb=>join_not (.inl ⟨rfl,rfl⟩) (by rw[decide_eq_true hb,Bool.true_and]at hx;exact hx)))
      clear hJ hln hx
      go_wp2_with fail
      refine his.mono ?_
      rintro e W5 ⟨rfl,hb5⟩
      have hd5:=hd.keep hb5
      have hN5:=hN.keep hb5
      obtain⟨V,hrun,HV⟩:=hN5.mb.fin hd5 hN5.fm (fun k hk=>hk.1)
      obtain⟨⟨c0,c1,c2,c3,c4,c5,c6,c7,c8⟩,-⟩:=y00 hN5.box
      clear hd5 hN5 hd hN hb5 his
      go_wp2_with (first|(refine wsr rfl 27 _ _ rfl (.pointer (some ⟨R,0,none⟩)) (fval f (.slice la f.l.args.length lc) (.slice ra f.r.args.length rc) (.slice ka f.kids.length kc)) rfl rfl hrun ?_))
      have HVC:Hid (FC9 V R (.int .i64 f.k) (.string f.nm) (.int .i64 f.l.v) (.string f.l.fn) (.slice la f.l.args.length lc) (.int .i64 f.r.v) (.string f.r.fn) (.slice ra f.r.args.length rc) (.slice ka f.kids.length kc)):=HV.out.1
      obtain⟨v0,v1,v2,v3,v4,v5,v6,v7,v8⟩:=HVC.out
      refine bodyPost_ret (v:=.agg #[.int .i64 f.k,.string f.nm,.int .i64 f.l.v,.string f.l.fn,.slice la f.l.args.length lc,.int .i64 f.r.v,.string f.r.fn,.slice ra f.r.args.length rc,.slice ka f.kids.length kc]) (by simp[results,Tryz.results58,go_sem,v0,v1,v2,v3,v4,v5,v6,v7,v8]) rfl ?_
      exact⟨f,_,_,_,l1,fr1,mn1,bd1,HT.out,rfl,HV.out.2.1,HV.out.2.2.1,HV.out.2.2.2⟩
   | false =>
    have hi4:=y16 hd3 [124]
    obtain⟨b4,hb4⟩:∃b,(decide (bd1<0)&&isM [124] l1)=b:=⟨_,rfl⟩
    rw[hb4]at hi4
    have HB4:=hid hb4
    have H3:=hid (And.intro hd3 hm3)
    clear hb4 hd3 hm3
    go_wp2_with fail
    refine hi4.mono ?_
    rintro e W4 ⟨rfl,hbW4⟩
    have hd4:=H3.out.1.keep hbW4
    have hm4:=H3.out.2.keep hbW4
    clear hi4 hbW4 H3
    cases b4 with
    | true =>
     have hx:=HB4.out
     rw[Bool.and_eq_true,decide_eq_true_eq]at hx
     have hj:=join_m hx.2
     have hInv:LInv D w R F bl n l fr mn bd 2 W4:=⟨f,_,_,_,l1,fr1,mn1,bd1,hm4,hd4,JRel.start HT1.out hx.1 (by rw[hj];rfl) (by simp),HL1.out⟩
     have HI0:=hid hInv
     clear hInv hj hx hd4 hm4 HB1 HB2
     go_wp2
     go_loopw [] (fun wr=>Hid (LInv D w R F bl n l fr mn bd 2 wr)) (fun wr=>muW D wr)
     case atStart=>exact HI0.out
     case round =>
      obtain⟨f,sl,sr,sk,l1,fr1,mn1,bd1,hN,hd,hJ,hln⟩:=hrel.out
      have hf:=hN.fm
      obtain⟨la,lc,rfl,-,-⟩:=hf.l.slice'
      obtain⟨ra,rc,rfl,-,-⟩:=hf.r.slice'
      obtain⟨ka,kc,rfl,-,-⟩:=hf.k.slice
      have his:=y16 hd [124]
      have HMU:=hid hd.mu
      clear hrel hf HI0
      cases hx:(decide (bd1<0)&&isM [124] l1) with
      | true =>
       rw[hx]at his
       rw[Bool.and_eq_true,decide_eq_true_eq]at hx
       have hj:=join_m hx.2
       obtain⟨t1,r1,rfl,_,_⟩:=y03 hx.2
       have hlr:r1.length<=n∧bl.length+r1.length<=2097155:=by have:=hln hx.1;simp only[jK]at this;omega
       have HJ:=hid (And.intro hJ (And.intro hx.1 hj))
       clear hj hJ hln
       go_wp2_with fail
       refine his.mono ?_
       rintro e W5 ⟨rfl,hb5⟩
       have hd5:=hd.keep hb5
       obtain⟨i6,-,e6,f6,w6',hE6,oE6⟩:=hd5.eat
       have hN6:=(hN.keep hb5).step oE6
       obtain⟨Y6,hY6⟩:∃X,W5.setCell ⟨D.B,1,none⟩ (.int .i64 ((i6:Int)+1))=X:=⟨_,rfl⟩
       rw[hY6]at hE6 oE6 hN6
       have HY6:=hid hY6
       clear hY6 hd hN hb5 hd5 oE6 his hx
       go_upto_region 15 with fail
       rw[show _=Y6 from HY6.out]
       clear HY6 e6 f6 w6'
       have hY6d:=(Below.refl Y6.heap.size Y6).drew
       have hc:=hU r1 hlr.1 Y6.drew fr1 mn1 bd1 bv bl (hE6.keep hY6d) (fun _=>hlr.2) (HSW.out _ (hN6.keep hY6d).mb.on)
       obtain⟨⟨g0,g1,g2,g3,g4,g5,g6,g7,g8⟩,-⟩:=y00 hN6.box
       have HN6:=hid (hN6.keep hY6d)
       clear hE6 hN6 hY6d
       refine wp_region_held_drew (S:=fun _=>True) (by kernel_rfl) trivial (fun hH=>?_)
       refine Lx.tk 1 (.pointer (some ⟨D.B,0,none⟩)) rfl (Or.inl ⟨by rfl,?_⟩) ?_
       ·intro w hSw;(try dsimp only at hSw);go_simp
       try simp only[Act.put,jM]
       refine Lx.tk 2 (bv) rfl (Or.inl ⟨by rfl,?_⟩) ?_
       ·intro w hSw;(try dsimp only at hSw);go_simp
       try simp only[Act.put,jM]
       refine wpAnyH_ready (rs:=[0,3]) (by kernel_rfl) (by simp) ?_
       refine AllReadyH.cons rfl (fun K hK=>?_) (AllReadyH.cons rfl (fun K hK=>?_) AllReadyH.nil)
       ·go_simp
        refine hK.out _ _ trivial (fun hH=>?_)
        clear hK K
        try simp only[Act.put,jA,jB,jC,jM]
        refine wpAnyH_ready (rs:=[3]) (by kernel_rfl) (by simp) ?_
        refine AllReadyH.cons rfl (fun K hK=>?_) AllReadyH.nil
        go_simp
        refine hc.mono ?_
        rintro e W8 ⟨g,ul,ur,uk,l2,fr2,mn2,bd2,hT2,rfl,hg,hd8,ho8⟩
        clear hc
        obtain⟨ua,uc,rfl,-,-⟩:=hg.l.slice'
        obtain⟨va,vc,rfl,-,-⟩:=hg.r.slice'
        obtain⟨xa,xc,rfl,-,-⟩:=hg.k.slice
        have hm8:=HN6.out.step ho8
        obtain⟨⟨k0,k1,k2,k3,k4,k5,k6,k7,k8⟩,-⟩:=y00 hm8.box
        have hg8:FmP (fun k=>R<k∧k≠F) W8 g (.slice ua g.l.args.length uc) (.slice va g.r.args.length vc) (.slice xa g.kids.length xc):=hg.keep (jJ _) (fun k hk hkl=>⟨⟨by have:=HN6.out.mb.lt;omega,by have:=HN6.out.lt;omega⟩,rfl⟩)
        have ht:=y3b (k:=4) hm8.fm hg8
        have H8:=hid (And.intro hd8 (And.intro hm8 (And.intro hT2 (JRel.next HJ.out.1 HJ.out.2.1 (by rw[HJ.out.2.2];rfl) hT2))))
        clear hT2 hg hd8 ho8 hg8 hm8
        refine hK.out _ _ trivial (fun hH=>?_)
        clear hK K
        try simp only[Act.put,jA,jB,jC,jM]
        refine wpAnyH_ready (rs:=[4]) (by kernel_rfl) (by simp) ?_
        refine AllReadyH.cons rfl (fun K hK=>?_) AllReadyH.nil
        go_simp
        refine ht.mono ?_
        rintro e W9 ⟨b,rfl,hKd,hb9⟩
        clear ht
        have hm9:=H8.out.2.1.keep hb9
        have hd9:=H8.out.1.keep hb9
        have hK9:KidsP (fun k=>R<k∧k≠F) W9 (.slice (some ⟨b,0,none⟩) 2 2) [f,g]:=hKd.keep (jJ _) (fun k hk _=>⟨by rcases hk with h|h;exact h;exact⟨by have:=H8.out.2.1.mb.lt;omega,by have:=H8.out.2.1.lt;omega⟩,rfl⟩)
        obtain⟨V,hrun,hV,oV⟩:=y0g (f:=fOp 4 [f,g]) (P:=fun k=>R<k∧k≠F) (X:=W9) rfl hm9.box rfl ⟨ArgsP.nil _ _,ArgsP.nil _ _,hK9⟩
        have hRF9:=hm9.RF
        have hBR9:=hm9.mb.BR
        have hdV:=hd9.turn2 oV (by simp;omega) (by simp;omega)
        have hInv:LInv D w R F bl n l fr mn bd 2 V:=⟨fOp 4 [f,g],_,_,_,l2,fr2,mn2,bd2,⟨hm9.mb.far oV (by simp;omega),hV,⟨ArgsP.nil _ _,ArgsP.nil _ _,hK9.keep oV.size (fun k hk hkl=>⟨hk,oV.block k hkl (by simpa using hk.2)⟩)⟩,hRF9⟩,hdV,H8.out.2.2.2,fun hb=>by
         rcases H8.out.2.2.1.1 HJ.out.2.1 with⟨fx,hp,-⟩|⟨q,-,hbe⟩
         ·have:=hp.len;omega
         ·omega⟩
        have hmu:muW D V<(t1::r1).length+1:=by
         rw[hdV.mu]
         by_cases hb2:bd2<0
         ·rw[if_pos hb2]
          rcases H8.out.2.2.1.1 HJ.out.2.1 with⟨fx,hp,-⟩|⟨q,-,hbe⟩
          ·have:=hp.len;simp;omega
          ·omega
         ·rw[if_neg hb2];simp
        have HI9:=hid (And.intro hInv hmu)
        clear hm9 hd9 hKd hK9 hb9 hV oV hdV hInv hmu
        refine hK.out _ _ trivial (fun hH=>?_)
        clear hK K
        try simp only[Act.put,jA,jB,jC,jM]
        refine wpAnyH_ready (rs:=[5]) (by kernel_rfl) (by simp) ?_
        refine AllReadyH.cons rfl (fun K hK=>?_) AllReadyH.nil
        rw[if_pos (by rfl)]
        refine Lx.y02 27 (.tmp 5) (.tmp 72) rfl _ _ rfl (by kernel_rfl) hrun ?_
        refine hK.out _ _ trivial (fun hH=>?_)
        clear hK K
        try simp only[Act.put,jA,jB,jC]
        refine wpAnyH_done (by kernel_rfl) ?_ _
        go_wp2
        go_roundw
        case rel=>exact HI9.out.1
        case measure=>rw[HMU.out,if_pos HJ.out.2.1];exact HI9.out.2
       ·go_simp
        refine hc.mono ?_
        rintro e W8 ⟨g,ul,ur,uk,l2,fr2,mn2,bd2,hT2,rfl,hg,hd8,ho8⟩
        clear hc
        obtain⟨ua,uc,rfl,-,-⟩:=hg.l.slice'
        obtain⟨va,vc,rfl,-,-⟩:=hg.r.slice'
        obtain⟨xa,xc,rfl,-,-⟩:=hg.k.slice
        have hm8:=HN6.out.step ho8
        obtain⟨⟨k0,k1,k2,k3,k4,k5,k6,k7,k8⟩,-⟩:=y00 hm8.box
        have hg8:FmP (fun k=>R<k∧k≠F) W8 g (.slice ua g.l.args.length uc) (.slice va g.r.args.length vc) (.slice xa g.kids.length xc):=hg.keep (jJ _) (fun k hk hkl=>⟨⟨by have:=HN6.out.mb.lt;omega,by have:=HN6.out.lt;omega⟩,rfl⟩)
        have ht:=y3b (k:=4) hm8.fm hg8
        have H8:=hid (And.intro hd8 (And.intro hm8 (And.intro hT2 (JRel.next HJ.out.1 HJ.out.2.1 (by rw[HJ.out.2.2];rfl) hT2))))
        clear hT2 hg hd8 ho8 hg8 hm8
        refine hK.out _ _ trivial (fun hH=>?_)
        clear hK K
        try simp only[Act.put,jA,jB,jC,jM]
        refine wpAnyH_ready (rs:=[0]) (by kernel_rfl) (by simp) ?_
        refine AllReadyH.cons rfl (fun K hK=>?_) AllReadyH.nil
        go_simp
        refine hK.out _ _ trivial (fun hH=>?_)
        clear hK K
        try simp only[Act.put,jA,jB,jC,jM]
        refine wpAnyH_ready (rs:=[4]) (by kernel_rfl) (by simp) ?_
        refine AllReadyH.cons rfl (fun K hK=>?_) AllReadyH.nil
        go_simp
        refine ht.mono ?_
        rintro e W9 ⟨b,rfl,hKd,hb9⟩
        clear ht
        have hm9:=H8.out.2.1.keep hb9
        have hd9:=H8.out.1.keep hb9
        have hK9:KidsP (fun k=>R<k∧k≠F) W9 (.slice (some ⟨b,0,none⟩) 2 2) [f,g]:=hKd.keep (jJ _) (fun k hk _=>⟨by rcases hk with h|h;exact h;exact⟨by have:=H8.out.2.1.mb.lt;omega,by have:=H8.out.2.1.lt;omega⟩,rfl⟩)
        obtain⟨V,hrun,hV,oV⟩:=y0g (f:=fOp 4 [f,g]) (P:=fun k=>R<k∧k≠F) (X:=W9) rfl hm9.box rfl ⟨ArgsP.nil _ _,ArgsP.nil _ _,hK9⟩
        have hRF9:=hm9.RF
        have hBR9:=hm9.mb.BR
        have hdV:=hd9.turn2 oV (by simp;omega) (by simp;omega)
        have hInv:LInv D w R F bl n l fr mn bd 2 V:=⟨fOp 4 [f,g],_,_,_,l2,fr2,mn2,bd2,⟨hm9.mb.far oV (by simp;omega),hV,⟨ArgsP.nil _ _,ArgsP.nil _ _,hK9.keep oV.size (fun k hk hkl=>⟨hk,oV.block k hkl (by simpa using hk.2)⟩)⟩,hRF9⟩,hdV,H8.out.2.2.2,fun hb=>by
         rcases H8.out.2.2.1.1 HJ.out.2.1 with⟨fx,hp,-⟩|⟨q,-,hbe⟩
         ·have:=hp.len;omega
         ·omega⟩
        have hmu:muW D V<(t1::r1).length+1:=by
         rw[hdV.mu]
         by_cases hb2:bd2<0
         ·rw[if_pos hb2]
          rcases H8.out.2.2.1.1 HJ.out.2.1 with⟨fx,hp,-⟩|⟨q,-,hbe⟩
          ·have:=hp.len;simp;omega
          ·omega
         ·rw[if_neg hb2];simp
        have HI9:=hid (And.intro hInv hmu)
        clear hm9 hd9 hKd hK9 hb9 hV oV hdV hInv hmu
        refine hK.out _ _ trivial (fun hH=>?_)
        clear hK K
        try simp only[Act.put,jA,jB,jC,jM]
        refine wpAnyH_ready (rs:=[5]) (by kernel_rfl) (by simp) ?_
        refine AllReadyH.cons rfl (fun K hK=>?_) AllReadyH.nil
        rw[if_pos (by rfl)]
        refine Lx.y02 27 (.tmp 5) (.tmp 72) rfl _ _ rfl (by kernel_rfl) hrun ?_
        refine hK.out _ _ trivial (fun hH=>?_)
        clear hK K
        try simp only[Act.put,jA,jB,jC]
        refine wpAnyH_done (by kernel_rfl) ?_ _
        go_wp2
        go_roundw
        case rel=>exact HI9.out.1
        case measure=>rw[HMU.out,if_pos HJ.out.2.1];exact HI9.out.2
      | false =>
       rw[hx]at his
       have HT:=hid (hJ.fin (fun hb=>join_not (.inr ⟨rfl,rfl⟩) (by rw[decide_eq_true hb,Bool.true_and]at hx;exact hx)))
       clear hJ hln hx
       go_wp2_with fail
       refine his.mono ?_
       rintro e W5 ⟨rfl,hb5⟩
       have hd5:=hd.keep hb5
       have hN5:=hN.keep hb5
       obtain⟨V,hrun,HV⟩:=hN5.mb.fin hd5 hN5.fm (fun k hk=>hk.1)
       obtain⟨⟨c0,c1,c2,c3,c4,c5,c6,c7,c8⟩,-⟩:=y00 hN5.box
       clear hd5 hN5 hd hN hb5 his
       go_wp2_with (first|(refine wsr rfl 27 _ _ rfl (.pointer (some ⟨R,0,none⟩)) (fval f (.slice la f.l.args.length lc) (.slice ra f.r.args.length rc) (.slice ka f.kids.length kc)) rfl rfl hrun ?_))
       have HVC:Hid (FC9 V R (.int .i64 f.k) (.string f.nm) (.int .i64 f.l.v) (.string f.l.fn) (.slice la f.l.args.length lc) (.int .i64 f.r.v) (.string f.r.fn) (.slice ra f.r.args.length rc) (.slice ka f.kids.length kc)):=HV.out.1
       obtain⟨v0,v1,v2,v3,v4,v5,v6,v7,v8⟩:=HVC.out
       refine bodyPost_ret (v:=.agg #[.int .i64 f.k,.string f.nm,.int .i64 f.l.v,.string f.l.fn,.slice la f.l.args.length lc,.int .i64 f.r.v,.string f.r.fn,.slice ra f.r.args.length rc,.slice ka f.kids.length kc]) (by simp[results,Tryz.results58,go_sem,v0,v1,v2,v3,v4,v5,v6,v7,v8]) rfl ?_
       exact⟨f,_,_,_,l1,fr1,mn1,bd1,HT.out,rfl,HV.out.2.1,HV.out.2.2.1,HV.out.2.2.2⟩
    | false =>
     have HT:=hid (DFmR.only HT1.out (fun hb=>by
      have q1:=HB1.out;have q2:=HB2.out;have q3:=HB3.out;have q4:=HB4.out
      rw[decide_eq_true hb,Bool.true_and]at q1 q2 q3 q4
      exact join_0 q1 q2 q3 q4))
     obtain⟨V,hrun,HV⟩:=hm4.mb.fin hd4 hm4.fm (fun k hk=>hk.1)
     obtain⟨⟨c0,c1,c2,c3,c4,c5,c6,c7,c8⟩,-⟩:=y00 hm4.box
     clear hd4 hm4
     go_wp2_with (first|(refine wsr rfl 27 _ _ rfl (.pointer (some ⟨R,0,none⟩)) (fval f (.slice la f.l.args.length lc) (.slice ra f.r.args.length rc) (.slice ka f.kids.length kc)) rfl rfl hrun ?_))
     have HVC:Hid (FC9 V R (.int .i64 f.k) (.string f.nm) (.int .i64 f.l.v) (.string f.l.fn) (.slice la f.l.args.length lc) (.int .i64 f.r.v) (.string f.r.fn) (.slice ra f.r.args.length rc) (.slice ka f.kids.length kc)):=HV.out.1
     obtain⟨v0,v1,v2,v3,v4,v5,v6,v7,v8⟩:=HVC.out
     refine bodyPost_ret (v:=.agg #[.int .i64 f.k,.string f.nm,.int .i64 f.l.v,.string f.l.fn,.slice la f.l.args.length lc,.int .i64 f.r.v,.string f.r.fn,.slice ra f.r.args.length rc,.slice ka f.kids.length kc]) (by simp[results,Tryz.results58,go_sem,v0,v1,v2,v3,v4,v5,v6,v7,v8]) rfl ?_
     exact⟨f,_,_,_,l1,fr1,mn1,bd1,HT.out,rfl,HV.out.2.1,HV.out.2.2.1,HV.out.2.2.2⟩
end
