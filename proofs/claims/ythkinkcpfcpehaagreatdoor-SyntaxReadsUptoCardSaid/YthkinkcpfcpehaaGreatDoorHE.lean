import Derived.Test.YthkinkcpfcpehaaGreatDoorZM
import Derived.Test.YthkinkcpfcpehaaGreatDoorTD
namespace Go.Proofs.YthkinkcpfcpehaaGreatDoor
set_option maxRecDepth 100000
set_option maxHeartbeats 16000000
section
open Go.RowKit Go.Maps
open Lx (Tk ofL KsAt LexP lexL rlex_any rkp rbk wsr)
def RReadR (s:ByteArray)(f:Fm)(v a er:Int):Prop:=
 ((lexL 0 s.data.toList).2.2≠0∧f=fz∧v = -1∧a=((lexL 0 s.data.toList).2.1:Nat)∧er=(lexL 0 s.data.toList).2.2)∨
 ((lexL 0 s.data.toList).2.2=0∧∃q,Wrong (lexL 0 s.data.toList).1 q∧f=fz∧v = -1∧a=(plc s.size q:Nat)∧er=21)∨
 ((lexL 0 s.data.toList).2.2=0∧∃g fr,PF [] (lexL 0 s.data.toList).1 (.ok g fr [])∧
  ((limE g.wide g.size g.depth≠0∧f=fz∧v = -1∧a=0∧er=limE g.wide g.size g.depth)∨
   (limE g.wide g.size g.depth=0∧f=g∧v=frV fr∧a=0∧er=0)))
def RReadP (s:ByteArray)(w:World)(e:Ending)(w':World):Prop:=
 ∃f sl sr sk v a er,RReadR s f v a er∧e=.returned (.tuple #[fval f sl sr sk,.int .i64 v,.int .i64 a,.int .i64 er])∧FmP (fun k=>w.heap.size<=k) w' f sl sr sk∧Below w.heap.size w w'
structure RBx (w:World) (B R F:Nat) (f:Fm) (sl sr sk:Value) (Y:World):Prop where
 bel:Below R w Y
 z:Y.heap[R]? =some zbox
 box:Y.heap[F]? =some (fbox f sl sr sk)
 fm:FmP (fun k=>B<k) Y f sl sr sk
 RB:R<B
 BF:B<F
theorem RBx.lt {w Y:World}{B R F:Nat}{f:Fm}{sl sr sk:Value}(h:RBx w B R F f sl sr sk Y):F<Y.heap.size:=(jG h.box).1
theorem RBx.step {w Y Z:World}{B R F:Nat}{f:Fm}{sl sr sk:Value}(h:RBx w B R F f sl sr sk Y)(ho:Only [B] Y Z):RBx w B R F f sl sr sk Z:=by
 have h1:=h.RB
 have h2:=h.BF
 have h3:=h.lt
 exact⟨h.bel.trans ⟨ho.os,ho.tape,ho.output,ho.size,fun k hk=>ho.block k (by omega) (by simp;omega)⟩,(ho.block R (by omega) (by simp;omega)).trans h.z,(ho.block F h3 (by simp;omega)).trans h.box,h.fm.keep ho.size (fun k hk hl=>⟨hk,ho.block k hl (by simp;omega)⟩),h1,h2⟩
theorem RBx.keep {w Y Z:World}{B R F:Nat}{f:Fm}{sl sr sk:Value}(h:RBx w B R F f sl sr sk Y)(hb:Below Y.heap.size Y Z):RBx w B R F f sl sr sk Z:=h.step (Only.of_below hb)
theorem RBx.told {w Y:World}{B R F:Nat}{f:Fm}{sl sr sk:Value}(hR:w.heap.size=R)(h:RBx w B R F f sl sr sk Y) :
  ∃Y',(Instr.storeAt 27 (.pointer (some ⟨R,0,none⟩)) (fval f sl sr sk)).run Tryz.prog Y=.ok () Y'∧Y'.heap[R]? =some (fbox f sl sr sk)∧FmP (fun k=>w.heap.size<=k) Y' f sl sr sk∧Below w.heap.size w Y'∧Only [R] Y Y':=by
 obtain⟨Y',h1,h2,h3⟩:=y0g rfl h.z rfl h.fm
 have hRB:=h.RB
 refine⟨Y',h1,h2,h.fm.keep h3.size (fun k hk hkl=>⟨by omega,h3.block k hkl (by simp;omega)⟩),?_,h3⟩
 rw[hR]
 exact h.bel.trans ⟨h3.os,h3.tape,h3.output,h3.size,fun k hk=>h3.block k (by have:=(jG h.z).1;omega) (by simp;omega)⟩
theorem RBx.zero {w Y:World}{B R F:Nat}{f:Fm}{sl sr sk:Value}(hR:w.heap.size=R)(h:RBx w B R F f sl sr sk Y) :
  ∃Y',(Instr.storeAt 27 (.pointer (some ⟨R,0,none⟩)) zval).run Tryz.prog Y=.ok () Y'∧Y'.heap[R]? =some zbox∧FmP (fun k=>w.heap.size<=k) Y' fz (.slice none 0 0) (.slice none 0 0) (.slice none 0 0)∧Below w.heap.size w Y'∧Only [R] Y Y':=by
 obtain⟨Y',h1,h2,h3⟩:=y0g rfl h.z rfl (FmP.fz (fun _=>True) Y)
 refine⟨Y',h1,h2,FmP.fz _ _,?_,h3⟩
 rw[hR]
 exact h.bel.trans ⟨h3.os,h3.tape,h3.output,h3.size,fun k hk=>h3.block k (by have:=(jG h.z).1;omega) (by simp;omega)⟩
theorem y2f {B R j:Nat}{Y Y':World}{v:Value}(h:Only [R] Y Y')(hB:B≠R)(hl:B<Y.heap.size)(hc:Y.cell? ⟨B,j,none⟩=some v):Y'.cell? ⟨B,j,none⟩=some v:=
 (World.cell?_of_block (a:=⟨B,j,none⟩) (h.block B hl (by simpa using hB))).trans hc
theorem rread_any (s:ByteArray)(w:World)(hs:s.size<=2097154):Calls Tryz.prog 26 #[.string s] w (RReadP s w):=by
 have hb0:=bbx w zbox
 have hz0:=(jH w zbox).1
 obtain⟨R,hR⟩:∃R,w.heap.size=R:=⟨_,rfl⟩
 obtain⟨W0,hW0⟩:∃X,w.alloc zbox=X:=⟨_,rfl⟩
 rw[hW0]at hb0 hz0
 rw[hR]at hz0 hb0
 have hlx:=rlex_any s W0 hs
 have hlen:(lexL 0 s.data.toList).1.length<=2097154:=Nat.le_trans (lex_len _) (by simpa using hs)
 have hok:=lex_ok s.data.toList
 have HW:=hid hW0
 have HR:=hid hR
 have hRW:R<W0.heap.size:=(jG hz0).1
 have H0:=hid (And.intro hb0 (And.intro hz0 hRW))
 obtain⟨⟨L,pl,er⟩,hq⟩:∃q,lexL 0 s.data.toList=q:=⟨_,rfl⟩
 rw[hq]at hlx hlen hok
 simp only at hlen hok hlx
 have HQ:=hid hq
 have HL:=hid hlen
 have HOK:=hid hok
 clear hb0 hz0 hW0 hRW hq hlen hok
 go_enter Tryz.func26,Tryz.ntmps26
 go_upto_region 1 with fail
 try simp only[hR]
 rw[show _=W0 from HW.out]
 clear HW
 go_wp2_with fail
 refine hlx.mono ?_
 rintro e W1 ⟨rv,rfl,⟨hk,hkb⟩,hb1⟩
 clear hlx
 by_cases he:er=0
 case neg =>
  obtain⟨Y,hrun,hY,hF,hbY⟩:=told (f:=fz) (P:=fun k=>R<k) HR.out (H0.out.1.trans (hb1.mono (Nat.le_of_lt H0.out.2.2))) ((hb1.block R H0.out.2.2).trans H0.out.2.1) rfl (fun k hk=>hk) (FmP.fz _ W1)
  have HC:=hid (y1i hY)
  have HF:=hid (And.intro hF (And.intro hbY (show RReadR s fz (-1) (pl:Nat) er from .inl (by rw[HQ.out];exact⟨he,rfl,rfl,rfl,rfl⟩))))
  have hne:(er != 0)=true:=by simpa using he
  clear he hF hbY hY hb1 H0 HR hR hk hkb HQ HOK
  go_wp2_with (first|(refine wsr rfl 27 _ _ rfl (.pointer (some ⟨R,0,none⟩)) zval rfl (by kernel_rfl) hrun ?_))
  obtain⟨c0,c1,c2,c3,c4,c5,c6,c7,c8⟩:=HC.out
  refine bodyPost_ret (v:=.tuple #[zval,.int .i64 (-1),.int .i64 (pl:Nat),.int .i64 er]) (by simp[results,Tryz.results26,go_sem,c0,c1,c2,c3,c4,c5,c6,c7,c8]) rfl ?_
  exact⟨fz,_,_,_,_,_,_,HF.out.2.2,rfl,HF.out.1,HF.out.2.1⟩
 case pos =>
 subst he
 simp only[if_true]at hk
 obtain⟨a,c,rfl,hlc,hcm⟩:=hk.slice
 have hb2:=bbx W1 (.cells #[.slice a L.length c,.int .i64 0,.int .i64 (s.size:Nat),.int .i64 (-1),.bool false,.int .i64 (-1)] 100)
 have hz2:=(jH W1 (.cells #[.slice a L.length c,.int .i64 0,.int .i64 (s.size:Nat),.int .i64 (-1),.bool false,.int .i64 (-1)] 100)).1
 obtain⟨W2,hW2⟩:∃X,W1.alloc (.cells #[.slice a L.length c,.int .i64 0,.int .i64 (s.size:Nat),.int .i64 (-1),.bool false,.int .i64 (-1)] 100)=X:=⟨_,rfl⟩
 rw[hW2]at hb2 hz2
 obtain⟨D,hDB,hD⟩:∃D:DE,D.B=W1.heap.size∧D=⟨W1.heap.size,s.size,L,a,c⟩:=⟨_,rfl,rfl⟩
 have hst:DS D W2 L [] false (-1):=by
  subst hD
  exact⟨by rw[Nat.sub_self];exact hz2,hk.keep hb2 (jJ _),List.suffix_refl _,hkb,by show L.length<=2097155;have:=HL.out;omega,HOK.out⟩
 have hDn:D.n=s.size:=by rw[hD]
 have hDL:D.L=L:=by rw[hD]
 have hcall:=dformula (D:=D) L W2 [] false (-1) (.slice none 0 0) [] hst (fun _=>by have:=HL.out;simp;omega) (StrAt.nil _)
 have hb02:Below R w W2:=H0.out.1.trans ((hb1.trans (hb2.mono hb1.size)).mono (Nat.le_of_lt H0.out.2.2))
 have hR1:R<D.B:=by rw[hDB];have:=H0.out.2.2;have:=hb1.size;omega
 have hzR:W2.heap[R]? =some zbox:=(hb2.block R (by have:=H0.out.2.2;have:=hb1.size;omega)).trans ((hb1.block R H0.out.2.2).trans H0.out.2.1)
 have H2:=hid (And.intro hb02 (And.intro hR1 (And.intro hzR (And.intro hDn (And.intro hDL (show D.B<W2.heap.size from by rw[hDB,<-hW2,World.size_alloc];omega))))))
 have HW2:=hid hW2
 have HDB:=hid hDB
 clear hst hb2 hz2 hW2 hD hb1 hb02 hR1 hzR hk hkb hcm hlc H0 hDB hDn hDL
 go_upto_region 5 with fail
 rw[show _=W2 from HW2.out,<-HDB.out]
 clear HW2 HDB
 go_wp2_with fail
 refine hcall.mono ?_
 rintro e W3 ⟨f,sl,sr,sk,l',fr',mn',bd',hdr,rfl,hfm,hds,ho3⟩
 clear hcall
 obtain⟨la,lc,rfl,-,-⟩:=hfm.l.slice'
 obtain⟨ra,rc,rfl,-,-⟩:=hfm.r.slice'
 obtain⟨ka,kc,rfl,-,-⟩:=hfm.k.slice
 have hbA:=bbx W3 (fbox f (.slice la f.l.args.length lc) (.slice ra f.r.args.length rc) (.slice ka f.kids.length kc))
 have hzA:=(jH W3 (fbox f (.slice la f.l.args.length lc) (.slice ra f.r.args.length rc) (.slice ka f.kids.length kc))).1
 have hsA:W3.heap.size<(W3.alloc (fbox f (.slice la f.l.args.length lc) (.slice ra f.r.args.length rc) (.slice ka f.kids.length kc))).heap.size:=by rw[World.size_alloc];omega
 obtain⟨F,hF⟩:∃F,W3.heap.size=F:=⟨_,rfl⟩
 rw[hF]at hzA
 have hfm3:FmP (fun k=>D.B<k) W3 f (.slice la f.l.args.length lc) (.slice ra f.r.args.length rc) (.slice ka f.kids.length kc):=hfm.keep (jJ _) (fun k hk hl=>⟨by have:=H2.out.2.2.2.2.2;omega,rfl⟩)
 have hRB:=H2.out.2.1
 have h1:=(jG H2.out.2.2.1).1
 have hb23:Below R W2 W3:=⟨ho3.os,ho3.tape,ho3.output,ho3.size,fun k hk=>ho3.block k (by omega) (by simp;omega)⟩
 have hRX:RBx w D.B R F f (.slice la f.l.args.length lc) (.slice ra f.r.args.length rc) (.slice ka f.kids.length kc) (W3.alloc (fbox f (.slice la f.l.args.length lc) (.slice ra f.r.args.length rc) (.slice ka f.kids.length kc))):=⟨H2.out.1.trans (hb23.trans (hbA.mono (by have:=ho3.size;omega))),(hbA.block R (by have:=ho3.size;omega)).trans ((ho3.block R h1 (by simp;omega)).trans H2.out.2.2.1),hzA,hfm3.grow hbA,hRB,by have:=H2.out.2.2.2.2.2;have:=ho3.size;omega⟩
 have hdA:=hds.keep hbA
 obtain⟨Y,hY⟩:∃X,W3.alloc (fbox f (.slice la f.l.args.length lc) (.slice ra f.r.args.length rc) (.slice ka f.kids.length kc))=X:=⟨_,rfl⟩
 rw[hY]at hRX hdA
 have HY:=hid hY
 have HX:=hid hRX
 have HDS:=hid hdA
 have HN:=hid (And.intro H2.out.2.2.2.1 H2.out.2.2.2.2.1)
 have hdr:=hdr.1 (by decide)
 have HDR:=hid hdr
 clear hdr hfm hfm3 hds ho3 hbA hzA hsA hRX hdA hY h1 hb23 hRB H2
 go_upto_region 6 with fail
 try simp only[hF]
 rw[show _=Y from HY.out]
 clear HY hF
 obtain⟨⟨x0,x1,x2,x3,x4,x5⟩,-⟩:=HDS.out.cells
 rcases HDR.out with⟨fx,hpf,hfr,hmn,hbd⟩|⟨q,hno,hbd⟩
 case inl =>
  subst hbd
  have HPF0:=hid hpf
  cases l' with
  | cons t r =>
   have HWR0:Hid (Wrong L (t::r)):=.inr ⟨f,fx,hpf,by simp⟩
   have hlen:=HDS.out.len
   obtain⟨i,hi⟩:∃i,D.L.length-(t::r).length=i:=⟨_,rfl⟩
   obtain⟨N,hN⟩:∃i,D.L.length=i:=⟨_,rfl⟩
   have hi2:i<N:=by simp only[jK]at hlen hi;omega
   have hi3:(i:Int)<(N:Int):=by omega
   rw[hi]at x1
   rw[hN]at x0
   have hd2:decide (i<N)=true:=decide_eq_true hi2
   clear x4 x5 x2 hpf hfr hmn HDR hlen hi hN
   go_wp2
   go_quiet (fail)
   obtain⟨Z0,hZ⟩:∃Z,Y.drewN nq=Z:=⟨_,rfl⟩
   have hbZ:Below Y.heap.size Y Z0:=by rw[<-hZ];exact y0b (Below.refl _ _) nq
   have HXZ0:=hid (HX.out.keep hbZ)
   have hdZ:=HDS.out.keep hbZ
   have hfl:=y29 hdZ
   try rw[hZ]
   clear hZ hbZ x0 x1 x3 hd2 hi2 hi3 hdZ
   go_wp2_with fail
   refine hfl.mono ?_
   rintro e Z ⟨rfl,hdZ,hoZ⟩
   clear hfl
   have HXZ:=hid (HXZ0.out.step hoZ)
   obtain⟨y,hy⟩:∃y,plc D.n (t::r)=y:=⟨_,rfl⟩
   have hbv:badV D (t::r) (-1)=(y:Nat):=by unfold badV;rw[if_pos (by decide),hy]
   rw[hbv]at hdZ
   obtain⟨⟨-,-,-,z3,-⟩,-⟩:=hdZ.cells
   obtain⟨q,hq⟩:∃q,t::r=q:=⟨_,rfl⟩
   have HWR:Hid (Wrong L q∧plc s.size q=y):=⟨by rw[<-hq];exact HWR0.out,by rw[<-HN.out.1,<-hq];exact hy⟩
   clear hdZ hoZ hy hbv hq HWR0 HPF0
   obtain⟨V,hrun,hV,hF,hbV,hoV⟩:=((HXZ.out).keep (Below.refl _ _).drew).zero HR.out
   have HC:=hid (y1i hV)
   have HF:=hid (And.intro hF (And.intro hbV (show RReadR s fz (-1) (y:Nat) 21 from .inr (.inl (by rw[HQ.out];exact⟨rfl,q,HWR.out.1,rfl,rfl,by rw[HWR.out.2],rfl⟩)))))
   have v3:V.cell? ⟨D.B,3,none⟩=some (.int .i64 (y:Nat)):=y2f hoV (by have:=HXZ.out.RB;omega) (by have:=HXZ.out.BF;have:=HXZ.out.lt;exact Nat.lt_trans HXZ.out.BF HXZ.out.lt) z3
   have hge:(0:Int)<=(y:Int):=by omega
   clear hV hF hbV hoV
   go_upto_region 9 with fail
   refine wp_region_held_drew (S:=fun X=>X.cell? ⟨D.B,3,none⟩=some (.int .i64 (y:Nat))) (by kernel_rfl) z3 (fun hH=>?_)
   refine Lx.tk 0 (zval) rfl (Or.inl ⟨by rfl,?_⟩) ?_
   ·intro w hSw;(try dsimp only at hSw);go_simp
   try simp only[Act.put,jM]
   refine Lx.tk 1 (.pointer (some ⟨D.B,0,none⟩)) rfl (Or.inl ⟨by rfl,?_⟩) ?_
   ·intro w hSw;(try dsimp only at hSw);go_simp
   try simp only[Act.put,jM]
   refine Lx.tk 2 (.pointer (some ⟨D.B,0,none⟩)) rfl (Or.inl ⟨by rfl,?_⟩) ?_
   ·intro w hSw;(try dsimp only at hSw);go_simp
   try simp only[Act.put,jM]
   refine Lx.tk 3 (.pointer (some ⟨D.B,3,none⟩)) rfl (Or.inl ⟨by rfl,?_⟩) ?_
   ·intro w hSw;(try dsimp only at hSw);go_simp
   try simp only[Act.put,jM]
   refine Lx.tk 4 (.int .i64 (y:Nat)) rfl (Or.inl ⟨by rfl,?_⟩) ?_
   ·intro w hSw;(try dsimp only at hSw);go_simp
   try simp only[Act.put,jM]
   refine wpAnyH_ready (rs:=[5]) (by kernel_rfl) (by simp) ?_
   refine AllReadyH.cons rfl (fun K hK=>?_) AllReadyH.nil
   rw[if_pos (by rfl)]
   refine Lx.y02 27 _ _ rfl (.pointer (some ⟨R,0,none⟩)) zval rfl (by kernel_rfl) hrun ?_
   refine hK.out _ _ v3 (fun hH=>?_)
   clear hK K
   simp only[Act.put,jA,jB,jC]
   refine Lx.tk 6 (.int .i64 (-1)) rfl (Or.inl ⟨by rfl,?_⟩) ?_
   ·intro w hSw;(try dsimp only at hSw);go_simp
   try simp only[Act.put,jM]
   refine Lx.tk 7 (.int .i64 (y:Nat)) rfl (Or.inl ⟨by rfl,?_⟩) ?_
   ·intro w hSw;(try dsimp only at hSw);go_simp
   try simp only[Act.put,jM]
   refine Lx.tk 8 (.int .i64 21) rfl (Or.inl ⟨by rfl,?_⟩) ?_
   ·intro w hSw;(try dsimp only at hSw);go_simp
   try simp only[Act.put,jM]
   refine wpAnyH_done (by kernel_rfl) ?_ _
   go_wp2
   obtain⟨c0,c1,c2,c3,c4,c5,c6,c7,c8⟩:=HC.out
   refine bodyPost_ret (v:=.tuple #[zval,.int .i64 (-1),.int .i64 (y:Nat),.int .i64 21]) (by simp[results,Tryz.results26,go_sem,c0,c1,c2,c3,c4,c5,c6,c7,c8]) rfl ?_
   exact⟨fz,_,_,_,_,_,_,HF.out.2.2,rfl,HF.out.1,HF.out.2.1⟩
  | nil =>
   have HPF:Hid (PF [] L (.ok f fx [])):=HPF0.out
   have hgr:=HPF.out.gr
   have hfs:=y28 f
   obtain⟨i,hi⟩:∃i,D.L.length-([]:List Tk).length=i:=⟨_,rfl⟩
   obtain⟨N,hN⟩:∃i,D.L.length=i:=⟨_,rfl⟩
   have hi2:¬(i<N):=by simp only[List.length_nil]at hi;omega
   have hi3:¬((i:Int)<(N:Int)):=by omega
   rw[hi]at x1
   rw[hN]at x0
   have hd2:decide (i<N)=false:=decide_eq_false hi2
   have hd3:(i<N)=False:=eq_false hi2
   obtain⟨vf,hvf⟩:∃v,frV fr'=v:=⟨_,rfl⟩
   have HVF2:=hid hvf
   have HVF:Hid (vf=frV fx):=by show _=_;rw[<-hvf,hfr];rfl
   have hmn':mn'=f.wide:=by rw[hmn];simp
   have hLn:=HL.out
   have hsz1:1<=f.size:=by have:=y22 f;omega
   simp only[List.length_nil]at hgr
   have HSZ:Hid (wrap64 f.size=f.size∧f.depth<=4611686018427387904):=⟨by unfold wrap64;omega,by omega⟩
   clear hsz1
   clear x4 x5 x2 hpf hfr hmn HDR hi hN hgr hfs hLn HPF0 hvf
   go_wp2
   go_quiet (fail)
   obtain⟨Z,hZ⟩:∃Z,Y.drewN nq=Z:=⟨_,rfl⟩
   have hbZ:Below Y.heap.size Y Z:=by rw[<-hZ];exact y0b (Below.refl _ _) nq
   have HXZ:=hid (HX.out.keep hbZ)
   have HDZ:=hid (HDS.out.keep hbZ)
   obtain⟨⟨-,-,-,z3,z4,-⟩,-⟩:=HDZ.out.cells
   obtain⟨⟨g0,g1,g2,g3,g4,g5,g6,g7,g8⟩,-⟩:=y00 HXZ.out.box
   have hsz:=rfsize_any f _ _ _ _ Z HXZ.out.fm
   try rw[hZ]
   clear hZ hbZ x0 x1 x3 hd2 hd3 hi2 hi3
   rw[hmn']at z4
   obtain⟨wd,hwd⟩:∃b,f.wide=b:=⟨_,rfl⟩
   rw[hwd]at z4
   cases wd with
   | true =>
    have HLE:Hid (limE f.wide f.size f.depth=3):=by show _=_;unfold limE;rw[if_pos (.inl hwd)]
    clear hsz hwd g0 g1 g2 g3 g4 g5 g6 g7 g8 hmn'
    obtain⟨V,hrun,hV,hF,hbV,-⟩:=(HXZ.out).zero HR.out
    have HC:=hid (y1i hV)
    have HF:=hid (And.intro hF (And.intro hbV (show RReadR s fz (-1) 0 3 from .inr (.inr (by rw[HQ.out];exact⟨rfl,f,fx,HPF.out,.inl ⟨by rw[HLE.out];decide,rfl,rfl,rfl,HLE.out.symm⟩⟩)))))
    clear hV hF hbV
    go_wp2_with (first|(refine wsr rfl 27 _ _ rfl (.pointer (some ⟨R,0,none⟩)) zval rfl (by kernel_rfl) hrun ?_))
    obtain⟨c0,c1,c2,c3,c4,c5,c6,c7,c8⟩:=HC.out
    refine bodyPost_ret (v:=.tuple #[zval,.int .i64 (-1),.int .i64 0,.int .i64 3]) (by simp[results,Tryz.results26,go_sem,c0,c1,c2,c3,c4,c5,c6,c7,c8]) rfl ?_
    exact⟨fz,_,_,_,_,_,_,HF.out.2.2,rfl,HF.out.1,HF.out.2.1⟩
   | false =>
    rw[HSZ.out.1]at hsz
    obtain⟨sz,hszz⟩:∃n,f.size=n:=⟨_,rfl⟩
    rw[hszz]at hsz
    have HSZ2:=hid hszz
    have HWD:=hid hwd
    clear hwd hszz hmn'
    go_wp2_with fail
    refine hsz.mono ?_
    rintro e Z2 ⟨rfl,hb2⟩
    have HXZ2:=hid (HXZ.out.keep hb2)
    have HDZ2:=hid (HDZ.out.keep hb2)
    clear hsz hb2 g0 g1 g2 g3 g4 g5 g6 g7 g8 z3 z4
    by_cases hbig:4000<sz
    ·have HLE:Hid (limE f.wide f.size f.depth=3):=by show _=_;unfold limE;rw[if_pos (.inr (by rw[HSZ2.out];exact hbig))]
     obtain⟨V,hrun,hV,hF,hbV,-⟩:=(HXZ2.out).zero HR.out
     have HC:=hid (y1i hV)
     have HF:=hid (And.intro hF (And.intro hbV (show RReadR s fz (-1) 0 3 from .inr (.inr (by rw[HQ.out];exact⟨rfl,f,fx,HPF.out,.inl ⟨by rw[HLE.out];decide,rfl,rfl,rfl,HLE.out.symm⟩⟩)))))
     clear hV hF hbV
     go_wp2_with (first|(refine wsr rfl 27 _ _ rfl (.pointer (some ⟨R,0,none⟩)) zval rfl (by kernel_rfl) hrun ?_))
     obtain⟨c0,c1,c2,c3,c4,c5,c6,c7,c8⟩:=HC.out
     refine bodyPost_ret (v:=.tuple #[zval,.int .i64 (-1),.int .i64 0,.int .i64 3]) (by simp[results,Tryz.results26,go_sem,c0,c1,c2,c3,c4,c5,c6,c7,c8]) rfl ?_
     exact⟨fz,_,_,_,_,_,_,HF.out.2.2,rfl,HF.out.1,HF.out.2.1⟩
    ·obtain⟨⟨g0,g1,g2,g3,g4,g5,g6,g7,g8⟩,-⟩:=y00 HXZ2.out.box
     have hdp:=rfdepth_any f HSZ.out.2 _ _ _ _ Z2 HXZ2.out.fm
     obtain⟨dp,hdpp⟩:∃n,f.depth=n:=⟨_,rfl⟩
     rw[hdpp]at hdp
     have HDP:=hid hdpp
     clear hdpp
     go_wp2_with fail
     refine hdp.mono ?_
     rintro e Z3 ⟨rfl,hb3⟩
     have HXZ3:=hid (HXZ2.out.keep hb3)
     have HDZ3:=hid (HDZ2.out.keep hb3)
     clear hdp hb3 g0 g1 g2 g3 g4 g5 g6 g7 g8
     by_cases hdeep:60<dp
     ·have HLE:Hid (limE f.wide f.size f.depth=22):=by show _=_;unfold limE;rw[HWD.out,HSZ2.out,HDP.out,if_neg (by simp;omega),if_pos hdeep]
      obtain⟨V,hrun,hV,hF,hbV,-⟩:=(HXZ3.out).zero HR.out
      have HC:=hid (y1i hV)
      have HF:=hid (And.intro hF (And.intro hbV (show RReadR s fz (-1) 0 22 from .inr (.inr (by rw[HQ.out];exact⟨rfl,f,fx,HPF.out,.inl ⟨by rw[HLE.out];decide,rfl,rfl,rfl,HLE.out.symm⟩⟩)))))
      clear hV hF hbV
      go_wp2_with (first|(refine wsr rfl 27 _ _ rfl (.pointer (some ⟨R,0,none⟩)) zval rfl (by kernel_rfl) hrun ?_))
      obtain⟨c0,c1,c2,c3,c4,c5,c6,c7,c8⟩:=HC.out
      refine bodyPost_ret (v:=.tuple #[zval,.int .i64 (-1),.int .i64 0,.int .i64 22]) (by simp[results,Tryz.results26,go_sem,c0,c1,c2,c3,c4,c5,c6,c7,c8]) rfl ?_
      exact⟨fz,_,_,_,_,_,_,HF.out.2.2,rfl,HF.out.1,HF.out.2.1⟩
     ·have HLIM:Hid (limE f.wide f.size f.depth=0):=by show _=_;unfold limE;rw[HWD.out,HSZ2.out,HDP.out,if_neg (by simp;omega),if_neg hdeep]
      obtain⟨⟨-,-,-,-,-,z5⟩,-⟩:=HDZ3.out.cells
      rw[HVF2.out]at z5
      obtain⟨V,hrun,hV,hF,hbV,hoV⟩:=((HXZ3.out).keep (Below.refl _ _).drew).told HR.out
      obtain⟨⟨c0,c1,c2,c3,c4,c5,c6,c7,c8⟩,-⟩:=y00 hV
      have HC:=hid (And.intro c0 (And.intro c1 (And.intro c2 (And.intro c3 (And.intro c4 (And.intro c5 (And.intro c6 (And.intro c7 c8))))))))
      have HF:=hid (And.intro hF (And.intro hbV (show RReadR s f vf 0 0 from .inr (.inr (by rw[HQ.out];exact⟨rfl,f,fx,HPF.out,.inr ⟨HLIM.out,rfl,HVF.out,rfl,rfl⟩⟩)))))
      have v5:V.cell? ⟨D.B,5,none⟩=some (.int .i64 vf):=y2f hoV (by have:=HXZ3.out.RB;omega) (Nat.lt_trans HXZ3.out.BF HXZ3.out.lt) z5
      have vF:V.heap[F]? =some (fbox f (.slice la f.l.args.length lc) (.slice ra f.r.args.length rc) (.slice ka f.kids.length kc)):=(hoV.block F HXZ3.out.lt (by have:=HXZ3.out.RB;have:=HXZ3.out.BF;simp;omega)).trans HXZ3.out.box
      clear hV hF hbV hoV c0 c1 c2 c3 c4 c5 c6 c7 c8
      go_upto_region 14 with fail
      refine wp_region_held_drew (S:=fun X=>X.heap[F]? =some (fbox f (.slice la f.l.args.length lc) (.slice ra f.r.args.length rc) (.slice ka f.kids.length kc))∧X.cell? ⟨D.B,5,none⟩=some (.int .i64 vf)) (by kernel_rfl) ⟨HXZ3.out.box,z5⟩ (fun hH=>?_)
      refine Lx.tk 0 ((fval f (.slice la f.l.args.length lc) (.slice ra f.r.args.length rc) (.slice ka f.kids.length kc))) rfl (Or.inl ⟨by rfl,?_⟩) ?_
      ·intro w hSw;obtain⟨⟨g0,g1,g2,g3,g4,g5,g6,g7,g8⟩,-⟩:=y00 hSw.1;have h5:=hSw.2;(try dsimp only at hSw);go_simp
      try simp only[Act.put,jM]
      refine Lx.tk 1 (.pointer (some ⟨D.B,0,none⟩)) rfl (Or.inl ⟨by rfl,?_⟩) ?_
      ·intro w hSw;obtain⟨⟨g0,g1,g2,g3,g4,g5,g6,g7,g8⟩,-⟩:=y00 hSw.1;have h5:=hSw.2;(try dsimp only at hSw);go_simp
      try simp only[Act.put,jM]
      refine Lx.tk 2 (.pointer (some ⟨D.B,0,none⟩)) rfl (Or.inl ⟨by rfl,?_⟩) ?_
      ·intro w hSw;obtain⟨⟨g0,g1,g2,g3,g4,g5,g6,g7,g8⟩,-⟩:=y00 hSw.1;have h5:=hSw.2;(try dsimp only at hSw);go_simp
      try simp only[Act.put,jM]
      refine Lx.tk 3 (.pointer (some ⟨D.B,5,none⟩)) rfl (Or.inl ⟨by rfl,?_⟩) ?_
      ·intro w hSw;obtain⟨⟨g0,g1,g2,g3,g4,g5,g6,g7,g8⟩,-⟩:=y00 hSw.1;have h5:=hSw.2;(try dsimp only at hSw);go_simp
      try simp only[Act.put,jM]
      refine Lx.tk 4 (.int .i64 vf) rfl (Or.inl ⟨by rfl,?_⟩) ?_
      ·intro w hSw;obtain⟨⟨g0,g1,g2,g3,g4,g5,g6,g7,g8⟩,-⟩:=y00 hSw.1;have h5:=hSw.2;(try dsimp only at hSw);go_simp
      try simp only[Act.put,jM]
      refine wpAnyH_ready (rs:=[5]) (by kernel_rfl) (by simp) ?_
      refine AllReadyH.cons rfl (fun K hK=>?_) AllReadyH.nil
      rw[if_pos (by rfl)]
      refine Lx.y02 27 _ _ rfl (.pointer (some ⟨R,0,none⟩)) (fval f (.slice la f.l.args.length lc) (.slice ra f.r.args.length rc) (.slice ka f.kids.length kc)) rfl (by kernel_rfl) hrun ?_
      refine hK.out _ _ ⟨vF,v5⟩ (fun hH=>?_)
      clear hK K
      simp only[Act.put,jA,jB,jC]
      refine Lx.tk 6 (.int .i64 vf) rfl (Or.inl ⟨by rfl,?_⟩) ?_
      ·intro w hSw;obtain⟨⟨g0,g1,g2,g3,g4,g5,g6,g7,g8⟩,-⟩:=y00 hSw.1;have h5:=hSw.2;(try dsimp only at hSw);go_simp
      try simp only[Act.put,jM]
      refine Lx.tk 7 (.int .i64 0) rfl (Or.inl ⟨by rfl,?_⟩) ?_
      ·intro w hSw;obtain⟨⟨g0,g1,g2,g3,g4,g5,g6,g7,g8⟩,-⟩:=y00 hSw.1;have h5:=hSw.2;(try dsimp only at hSw);go_simp
      try simp only[Act.put,jM]
      refine Lx.tk 8 (.int .i64 0) rfl (Or.inl ⟨by rfl,?_⟩) ?_
      ·intro w hSw;obtain⟨⟨g0,g1,g2,g3,g4,g5,g6,g7,g8⟩,-⟩:=y00 hSw.1;have h5:=hSw.2;(try dsimp only at hSw);go_simp
      try simp only[Act.put,jM]
      refine wpAnyH_done (by kernel_rfl) ?_ _
      go_wp2
      obtain⟨c0,c1,c2,c3,c4,c5,c6,c7,c8⟩:=HC.out
      refine bodyPost_ret (v:=.tuple #[(fval f (.slice la f.l.args.length lc) (.slice ra f.r.args.length rc) (.slice ka f.kids.length kc)),.int .i64 vf,.int .i64 0,.int .i64 0]) (by simp[results,Tryz.results26,go_sem,c0,c1,c2,c3,c4,c5,c6,c7,c8]) rfl ?_
      exact⟨f,_,_,_,_,_,_,HF.out.2.2,rfl,HF.out.1,HF.out.2.1⟩
 case inr =>
  obtain⟨y,hy⟩:∃y,plc D.n q=y:=⟨_,rfl⟩
  rw[hy]at hbd
  subst hbd
  have HWR:Hid (Wrong L q∧plc s.size q=y):=⟨.inl hno,by rw[<-HN.out.1];exact hy⟩
  have hd1:decide ((y:Int)<0)=false:=by simp
  have hd2:((y:Int)<0)=False:=by simp
  clear x4 x5 x2 hno hy HDR
  go_wp2
  go_quiet (fail)
  obtain⟨Z,hZ⟩:∃Z,Y.drewN nq=Z:=⟨_,rfl⟩
  have hbZ:Below Y.heap.size Y Z:=by rw[<-hZ];exact y0b (Below.refl _ _) nq
  have HXZ:=hid (HX.out.keep hbZ)
  obtain⟨⟨-,-,-,z3,-⟩,-⟩:=(HDS.out.keep hbZ).cells
  try rw[hZ]
  clear hZ hbZ x0 x1 x3 hd1 hd2
  obtain⟨V,hrun,hV,hF,hbV,hoV⟩:=((HXZ.out).keep (Below.refl _ _).drew).zero HR.out
  have HC:=hid (y1i hV)
  have HF:=hid (And.intro hF (And.intro hbV (show RReadR s fz (-1) (y:Nat) 21 from .inr (.inl (by rw[HQ.out];exact⟨rfl,q,HWR.out.1,rfl,rfl,by rw[HWR.out.2],rfl⟩)))))
  have v3:V.cell? ⟨D.B,3,none⟩=some (.int .i64 (y:Nat)):=y2f hoV (by have:=HXZ.out.RB;omega) (by have:=HXZ.out.BF;have:=HXZ.out.lt;exact Nat.lt_trans HXZ.out.BF HXZ.out.lt) z3
  have hge:(0:Int)<=(y:Int):=by omega
  clear hV hF hbV hoV
  go_upto_region 9 with fail
  refine wp_region_held_drew (S:=fun X=>X.cell? ⟨D.B,3,none⟩=some (.int .i64 (y:Nat))) (by kernel_rfl) z3 (fun hH=>?_)
  refine Lx.tk 0 (zval) rfl (Or.inl ⟨by rfl,?_⟩) ?_
  ·intro w hSw;(try dsimp only at hSw);go_simp
  try simp only[Act.put,jM]
  refine Lx.tk 1 (.pointer (some ⟨D.B,0,none⟩)) rfl (Or.inl ⟨by rfl,?_⟩) ?_
  ·intro w hSw;(try dsimp only at hSw);go_simp
  try simp only[Act.put,jM]
  refine Lx.tk 2 (.pointer (some ⟨D.B,0,none⟩)) rfl (Or.inl ⟨by rfl,?_⟩) ?_
  ·intro w hSw;(try dsimp only at hSw);go_simp
  try simp only[Act.put,jM]
  refine Lx.tk 3 (.pointer (some ⟨D.B,3,none⟩)) rfl (Or.inl ⟨by rfl,?_⟩) ?_
  ·intro w hSw;(try dsimp only at hSw);go_simp
  try simp only[Act.put,jM]
  refine Lx.tk 4 (.int .i64 (y:Nat)) rfl (Or.inl ⟨by rfl,?_⟩) ?_
  ·intro w hSw;(try dsimp only at hSw);go_simp
  try simp only[Act.put,jM]
  refine wpAnyH_ready (rs:=[5]) (by kernel_rfl) (by simp) ?_
  refine AllReadyH.cons rfl (fun K hK=>?_) AllReadyH.nil
  rw[if_pos (by rfl)]
  refine Lx.y02 27 _ _ rfl (.pointer (some ⟨R,0,none⟩)) zval rfl (by kernel_rfl) hrun ?_
  refine hK.out _ _ v3 (fun hH=>?_)
  clear hK K
  simp only[Act.put,jA,jB,jC]
  refine Lx.tk 6 (.int .i64 (-1)) rfl (Or.inl ⟨by rfl,?_⟩) ?_
  ·intro w hSw;(try dsimp only at hSw);go_simp
  try simp only[Act.put,jM]
  refine Lx.tk 7 (.int .i64 (y:Nat)) rfl (Or.inl ⟨by rfl,?_⟩) ?_
  ·intro w hSw;(try dsimp only at hSw);go_simp
  try simp only[Act.put,jM]
  refine Lx.tk 8 (.int .i64 21) rfl (Or.inl ⟨by rfl,?_⟩) ?_
  ·intro w hSw;(try dsimp only at hSw);go_simp
  try simp only[Act.put,jM]
  refine wpAnyH_done (by kernel_rfl) ?_ _
  go_wp2
  obtain⟨c0,c1,c2,c3,c4,c5,c6,c7,c8⟩:=HC.out
  refine bodyPost_ret (v:=.tuple #[zval,.int .i64 (-1),.int .i64 (y:Nat),.int .i64 21]) (by simp[results,Tryz.results26,go_sem,c0,c1,c2,c3,c4,c5,c6,c7,c8]) rfl ?_
  exact⟨fz,_,_,_,_,_,_,HF.out.2.2,rfl,HF.out.1,HF.out.2.1⟩
end
section
open Go.RowKit Go.Maps
open Lx (Tk ofL lexL wsr)
theorem RReadR.bad {s:ByteArray}{f:Fm}{v a er:Int}(h:RReadR s f v a er)(he:er≠0):FofR s fz a er:=by
 rcases h with⟨h0,-,-,h1,h2⟩|⟨h0,q,hq,-,-,h1,h2⟩|⟨h0,g,fr,hp,⟨hl,-,-,h1,h2⟩|⟨hl,-,-,-,h2⟩⟩
 ·exact .inl ⟨h0,rfl,h1,h2⟩
 ·exact .inr (.inl ⟨h0,q,hq,rfl,h1,h2⟩)
 ·exact .inr (.inr ⟨h0,g,fr,hp,.inl ⟨hl,rfl,h1,h2⟩⟩)
 ·exact absurd h2 he
theorem RReadR.good {s:ByteArray}{f:Fm}{v a er:Int}(h:RReadR s f v a er)(he:er=0):(0<=v->FofR s fz v 23)∧(¬0<=v->FofR s f 0 0):=by
 rcases h with⟨h0,-,-,h1,h2⟩|⟨h0,q,hq,-,-,h1,h2⟩|⟨h0,g,fr,hp,⟨hl,-,-,h1,h2⟩|⟨hl,hf,hv,-,h2⟩⟩
 ·exact absurd (h2.symm.trans he) h0
 ·rw[he]at h2;cases h2
 ·exact absurd (h2.symm.trans he) hl
 ·subst hf hv
  cases fr with
  | nil=>exact⟨fun h=>by have:=frV_neg;omega,fun _=>.inr (.inr ⟨h0,f,[],hp,.inr (.inr ⟨hl,rfl,rfl,rfl,rfl⟩)⟩)⟩
  | cons t r=>exact⟨fun _=>.inr (.inr ⟨h0,f,t::r,hp,.inr (.inl ⟨hl,by simp,rfl,rfl,rfl⟩)⟩),fun h=>by have:=frV_pos t r;omega⟩
theorem rfof_any (s:ByteArray)(w:World)(hs:s.size<=2097154):Calls Tryz.prog 9 #[.string s] w (FofP s w):=by
 have hb0:=bbx w zbox
 have hz0:=(jH w zbox).1
 have hs0:(w.alloc zbox).heap.size=w.heap.size+1:=World.size_alloc _ _
 obtain⟨R,hR⟩:∃R,w.heap.size=R:=⟨_,rfl⟩
 obtain⟨W0,hW0⟩:∃X,w.alloc zbox=X:=⟨_,rfl⟩
 rw[hW0]at hb0 hz0 hs0
 rw[hR]at hz0 hb0 hs0
 have hrd:=rread_any s W0 hs
 have HW:=hid hW0
 have HR:=hid hR
 have H0:=hid (And.intro hb0 (And.intro hz0 hs0))
 clear hb0 hz0 hW0 hs0
 go_enter Tryz.func9,Tryz.ntmps9
 go_upto_region 1 with fail
 try simp only[hR]
 rw[show _=W0 from HW.out]
 clear HW
 go_wp2_with fail
 refine hrd.mono ?_
 clear hrd
 rintro e W1 ⟨f,sl,sr,sk,v,a,er,hr,rfl,hfm,hb1⟩
 obtain⟨la,lc,rfl,-,-⟩:=hfm.l.slice'
 obtain⟨ra,rc,rfl,-,-⟩:=hfm.r.slice'
 obtain⟨ka,kc,rfl,-,-⟩:=hfm.k.slice
 have hbA:=bbx W1 (fbox f (.slice la f.l.args.length lc) (.slice ra f.r.args.length rc) (.slice ka f.kids.length kc))
 have hzA:=(jH W1 (fbox f (.slice la f.l.args.length lc) (.slice ra f.r.args.length rc) (.slice ka f.kids.length kc))).1
 obtain⟨F,hF⟩:∃F,W1.heap.size=F:=⟨_,rfl⟩
 rw[hF]at hzA
 have hs0:=H0.out.2.2
 have hs1:=hb1.size
 obtain⟨WA,hWA⟩:∃X,W1.alloc (fbox f (.slice la f.l.args.length lc) (.slice ra f.r.args.length rc) (.slice ka f.kids.length kc))=X:=⟨_,rfl⟩
 rw[hWA]at hbA hzA
 have hbw:Below R w WA:=H0.out.1.trans ((hb1.trans (hbA.mono hs1)).mono (by omega))
 have hzR:WA.heap[R]? =some zbox:=(hbA.block R (by omega)).trans ((hb1.block R (by omega)).trans H0.out.2.1)
 have hfA:FmP (fun k=>R<k) WA f (.slice la f.l.args.length lc) (.slice ra f.r.args.length rc) (.slice ka f.kids.length kc):=(hfm.keep (jJ _) (fun k hk _=>⟨by omega,rfl⟩)).grow hbA
 have HWA:=hid hWA
 have HX:=hid (And.intro hbw (And.intro hzR (And.intro hfA hzA)))
 have Hr:=hid hr
 clear hWA hbw hzR hfA hbA hzA hs0 hs1 hb1 hfm H0 hr
 go_upto_region 2 with fail
 try simp only[hF]
 rw[show _=WA from HWA.out]
 clear HWA hF
 by_cases he:er=0
 case neg =>
  obtain⟨Y,hrun,hY,hFm,hbY⟩:=told (f:=fz) (P:=fun k=>R<k) HR.out HX.out.1 HX.out.2.1 rfl (fun k hk=>hk) (FmP.fz _ WA)
  have HC:=hid (y1i hY)
  have HF:=hid (And.intro hFm (And.intro hbY (Hr.out.bad he)))
  have hne:(er != 0)=true:=by simpa using he
  clear he hFm hbY hY Hr HX
  go_wp2_with (first|(refine wsr rfl 27 _ _ rfl (.pointer (some ⟨R,0,none⟩)) zval rfl (by kernel_rfl) hrun ?_))
  obtain⟨c0,c1,c2,c3,c4,c5,c6,c7,c8⟩:=HC.out
  refine bodyPost_ret (v:=.tuple #[zval,.int .i64 a,.int .i64 er]) (by simp[results,Tryz.results9,go_sem,c0,c1,c2,c3,c4,c5,c6,c7,c8]) rfl ?_
  exact⟨fz,_,_,_,_,_,HF.out.2.2,rfl,HF.out.1,HF.out.2.1⟩
 case pos =>
 have HG:=hid (Hr.out.good he)
 subst he
 by_cases hv:0<=v
 ·obtain⟨Y,hrun,hY,hFm,hbY⟩:=told (f:=fz) (P:=fun k=>R<k) HR.out HX.out.1 HX.out.2.1 rfl (fun k hk=>hk) (FmP.fz _ WA)
  have HC:=hid (y1i hY)
  have HF:=hid (And.intro hFm (And.intro hbY (HG.out.1 hv)))
  clear hFm hbY hY Hr HX HG
  go_wp2_with (first|(refine wsr rfl 27 _ _ rfl (.pointer (some ⟨R,0,none⟩)) zval rfl (by kernel_rfl) hrun ?_))
  obtain⟨c0,c1,c2,c3,c4,c5,c6,c7,c8⟩:=HC.out
  refine bodyPost_ret (v:=.tuple #[zval,.int .i64 v,.int .i64 23]) (by simp[results,Tryz.results9,go_sem,c0,c1,c2,c3,c4,c5,c6,c7,c8]) rfl ?_
  exact⟨fz,_,_,_,_,_,HF.out.2.2,rfl,HF.out.1,HF.out.2.1⟩
 ·obtain⟨Y,hrun,hY,hFm,hbY⟩:=told (P:=fun k=>R<k) HR.out HX.out.1 HX.out.2.1 rfl (fun k hk=>hk) HX.out.2.2.1
  obtain⟨⟨c0,c1,c2,c3,c4,c5,c6,c7,c8⟩,-⟩:=y00 hY
  have HC:=hid (And.intro c0 (And.intro c1 (And.intro c2 (And.intro c3 (And.intro c4 (And.intro c5 (And.intro c6 (And.intro c7 c8))))))))
  have HF:=hid (And.intro hFm (And.intro hbY (HG.out.2 hv)))
  obtain⟨⟨g0,g1,g2,g3,g4,g5,g6,g7,g8⟩,-⟩:=y00 HX.out.2.2.2
  clear hFm hbY hY Hr HX HG c0 c1 c2 c3 c4 c5 c6 c7 c8
  go_wp2_with (first|(refine wsr rfl 27 _ _ rfl (.pointer (some ⟨R,0,none⟩)) (fval f (.slice la f.l.args.length lc) (.slice ra f.r.args.length rc) (.slice ka f.kids.length kc)) rfl (by kernel_rfl) hrun ?_))
  obtain⟨c0,c1,c2,c3,c4,c5,c6,c7,c8⟩:=HC.out
  refine bodyPost_ret (v:=.tuple #[(fval f (.slice la f.l.args.length lc) (.slice ra f.r.args.length rc) (.slice ka f.kids.length kc)),.int .i64 0,.int .i64 0]) (by simp[results,Tryz.results9,go_sem,c0,c1,c2,c3,c4,c5,c6,c7,c8]) rfl ?_
  exact⟨f,_,_,_,_,_,HF.out.2.2,rfl,HF.out.1,HF.out.2.1⟩
end
