import Derived.Test.YthkinkcpfcpehaaGreatDoorZS
import Derived.Test.YthkinkcpfcpehaaGreatDoorFM
namespace Go.Proofs.YthkinkcpfcpehaaGreatDoor
set_option maxRecDepth 100000
set_option maxHeartbeats 4000000
section
open Go.RowKit
abbrev pcells (f:Fm)(sl sr sk:Value):Array Value:=#[.int .i64 f.k,.string f.nm,.int .i64 f.l.v,.string f.l.fn,sl,.int .i64 f.r.v,.string f.r.fn,sr,sk,.bool f.wide,.int .i64 f.size,.int .i64 f.depth]
structure PcP (P:Nat->Prop) (W:World) (p:Nat) (f:Fm):Prop where
 at_:∃sl sr sk,W.heap[p]? =some (.cells (pcells f sl sr sk) 59 (0,0))∧FmP P W f sl sr sk
 own:P p
theorem PcP.keep {P Q:Nat->Prop}{W W':World}{p:Nat}{f:Fm}(h:PcP P W p f)(hs:W.heap.size<=W'.heap.size)(hk:∀k,P k->k<W.heap.size->Q k∧W'.heap[k]? =W.heap[k]?):PcP Q W' p f:=by
 obtain⟨sl,sr,sk,hb,hf⟩:=h.at_
 have hlt:=(jG hb).1
 exact⟨⟨sl,sr,sk,(hk p h.own hlt).2.trans hb,hf.keep hs hk⟩,(hk p h.own hlt).1⟩
theorem PcP.grow {P:Nat->Prop}{W W':World}{p:Nat}{f:Fm}(h:PcP P W p f)(hb:Below W.heap.size W W'):PcP P W' p f:=h.keep hb.size fun k hk hl=>⟨hk,hb.block k hl⟩
theorem PcP.lt {P:Nat->Prop}{W:World}{p:Nat}{f:Fm}(h:PcP P W p f):p<W.heap.size:=by
 obtain⟨sl,sr,sk,hb,hf⟩:=h.at_
 exact (jG hb).1
theorem y20 (t:T):0<=t.size:=by have:=y3d t [];omega
structure EqI (P:Nat->Prop) (w:World) (G:Nat) (l r:T) (sl sr:Value) (X:World):Prop where
 bel:Below w.heap.size w X
 box:X.heap[G]? =some (fbox (fEq l r) sl sr (.slice none 0 0))
 fm:FmP P X (fEq l r) sl sr (.slice none 0 0)
theorem EqI.keep {P:Nat->Prop}{w:World}{G:Nat}{l r:T}{sl sr:Value}{X Y:World}(h:EqI P w G l r sl sr X)(hb:Below X.heap.size X Y):EqI P w G l r sl sr Y:=
 ⟨h.bel.trans (hb.mono h.bel.size),(hb.block _ (jG h.box).1).trans h.box,h.fm.grow hb⟩
theorem equation_any {P:Nat->Prop}{w:World}{l r:T}{sl sr:Value}(hl:ArgsP P w sl l.args)(hr:ArgsP P w sr r.args)(s1:Short l)(s2:Short r)(hb:(fEq l r).size<=4611686018427387904) :
  Calls Tryz.prog 200 #[tval l sl,tval r sr] w fun e w'=>∃p,e=.returned (.pointer (some ⟨p,0,none⟩))∧w.heap.size<=p∧w'.heap[p]? =some (.cells (pcells (fEq l r) sl sr (.slice none 0 0)) 59 (0,0))∧Below w.heap.size w w':=by
 obtain⟨la,lc,rfl,_,_⟩:=hl.slice'
 obtain⟨ra,rc,rfl,_,_⟩:=hr.slice'
 have hsane:(fEq l r).sane:=by
  show Fm.sane (.mk 1 e0 l r [])
  rw[Fm.sane,Fm.sane.sanes]
  exact⟨fun _=>⟨s1,s2,rfl⟩,trivial⟩
 have hsz:wrap64 (fEq l r).size=(fEq l r).size:=by
  have h1:=size_atom hsane rfl
  have h2:=y20 l
  have h3:=y20 r
  have h1':(fEq l r).size=1+l.size+r.size:=h1
  unfold wrap64;omega
 have hdp:(fEq l r).depth<=4611686018427387904:=by
  have h1:(fEq l r).depth=1+max l.depth r.depth:=depth_atom hsane rfl
  have:=y1r s1
  have:=y1r s2
  omega
 have hb1:=bbx w (.cells #[.int .i64 l.v,.string l.fn,.slice la l.args.length lc] 24)
 have hb2:=bbx (w.alloc (.cells #[.int .i64 l.v,.string l.fn,.slice la l.args.length lc] 24)) (.cells #[.int .i64 r.v,.string r.fn,.slice ra r.args.length rc] 24)
 have hb3:=bbx ((w.alloc (.cells #[.int .i64 l.v,.string l.fn,.slice la l.args.length lc] 24)).alloc (.cells #[.int .i64 r.v,.string r.fn,.slice ra r.args.length rc] 24)) (fbox (fEq l r) (.slice la l.args.length lc) (.slice ra r.args.length rc) (.slice none 0 0))
 have hbb:=hb1.trans ((hb2.trans (hb3.mono hb2.size)).mono hb1.size)
 have hz:=(jH ((w.alloc (.cells #[.int .i64 l.v,.string l.fn,.slice la l.args.length lc] 24)).alloc (.cells #[.int .i64 r.v,.string r.fn,.slice ra r.args.length rc] 24)) (fbox (fEq l r) (.slice la l.args.length lc) (.slice ra r.args.length rc) (.slice none 0 0))).1
 have hf0:FmP P w (fEq l r) (.slice la l.args.length lc) (.slice ra r.args.length rc) (.slice none 0 0):=⟨hl,hr,KidsP.nil _ _⟩
 obtain⟨W3,hW3⟩:∃X,((w.alloc (.cells #[.int .i64 l.v,.string l.fn,.slice la l.args.length lc] 24)).alloc (.cells #[.int .i64 r.v,.string r.fn,.slice ra r.args.length rc] 24)).alloc (fbox (fEq l r) (.slice la l.args.length lc) (.slice ra r.args.length rc) (.slice none 0 0))=X:=⟨_,rfl⟩
 rw[hW3]at hbb hz
 obtain⟨G,hG⟩:∃G,((w.alloc (.cells #[.int .i64 l.v,.string l.fn,.slice la l.args.length lc] 24)).alloc (.cells #[.int .i64 r.v,.string r.fn,.slice ra r.args.length rc] 24)).heap.size=G:=⟨_,rfl⟩
 rw[hG]at hz
 have hG':w.heap.size+1+1=G:=by rw[<-hG,World.size_alloc,World.size_alloc]
 have hI0:EqI P w G l r (.slice la l.args.length lc) (.slice ra r.args.length rc) W3:=⟨hbb,hz,hf0.grow hbb⟩
 have h43:∀X,EqI P w G l r (.slice la l.args.length lc) (.slice ra r.args.length rc) X->Calls Tryz.prog 43 #[fval (fEq l r) (.slice la l.args.length lc) (.slice ra r.args.length rc) (.slice none 0 0)] X fun e X'=>e=.returned (.bool (fEq l r).wide)∧EqI P w G l r (.slice la l.args.length lc) (.slice ra r.args.length rc) X':=fun X hX=>(wide_any _ P _ _ _ X hX.fm).mono fun _ _ ⟨he,hb⟩=>⟨he,hX.keep hb⟩
 have h21:∀X,EqI P w G l r (.slice la l.args.length lc) (.slice ra r.args.length rc) X->Calls Tryz.prog 21 #[fval (fEq l r) (.slice la l.args.length lc) (.slice ra r.args.length rc) (.slice none 0 0)] X fun e X'=>e=.returned (.int .i64 (fEq l r).size)∧EqI P w G l r (.slice la l.args.length lc) (.slice ra r.args.length rc) X':=fun X hX=>(y4y _ hsane P _ _ _ X hX.fm).mono fun _ _ ⟨he,hb⟩=>⟨by rw[he,hsz],hX.keep hb⟩
 have h22:∀X,EqI P w G l r (.slice la l.args.length lc) (.slice ra r.args.length rc) X->Calls Tryz.prog 22 #[fval (fEq l r) (.slice la l.args.length lc) (.slice ra r.args.length rc) (.slice none 0 0)] X fun e X'=>e=.returned (.int .i64 (fEq l r).depth)∧EqI P w G l r (.slice la l.args.length lc) (.slice ra r.args.length rc) X':=fun X hX=>(fdepth_any _ hsane hdp P _ _ _ X hX.fm).mono fun _ _ ⟨he,hb⟩=>⟨he,hX.keep hb⟩
 have hdr:∀X,EqI P w G l r (.slice la l.args.length lc) (.slice ra r.args.length rc) X->EqI P w G l r (.slice la l.args.length lc) (.slice ra r.args.length rc) X.drew:=fun X hX=>hX.keep (Below.refl _ X).drew
 have hal:∀X o,EqI P w G l r (.slice la l.args.length lc) (.slice ra r.args.length rc) X->EqI P w G l r (.slice la l.args.length lc) (.slice ra r.args.length rc) (X.alloc o):=fun X o hX=>hX.keep (bbx X o)
 have hC:∀X,EqI P w G l r (.slice la l.args.length lc) (.slice ra r.args.length rc) X->X.cell? ⟨G,0,none⟩=some (.int .i64 1)∧X.cell? ⟨G,1,none⟩=some (.string ⟨#[]⟩)∧X.cell? ⟨G,2,none⟩=some (.int .i64 l.v)∧X.cell? ⟨G,3,none⟩=some (.string l.fn)∧X.cell? ⟨G,4,none⟩=some (.slice la l.args.length lc)∧X.cell? ⟨G,5,none⟩=some (.int .i64 r.v)∧X.cell? ⟨G,6,none⟩=some (.string r.fn)∧X.cell? ⟨G,7,none⟩=some (.slice ra r.args.length rc)∧X.cell? ⟨G,8,none⟩=some (.slice none 0 0):=fun X hX=>by
  have hx:=hX.box
  refine⟨?_,?_,?_,?_,?_,?_,?_,?_,?_⟩<;>exact csR (vs:=[_,_,_,_,_,_,_,_,_]) hx rfl
 have hbl:Hid (∀X,EqI P w G l r (.slice la l.args.length lc) (.slice ra r.args.length rc) X->Below w.heap.size w X):=fun X h=>h.bel
 obtain⟨S,hS⟩:∃S,EqI P w G l r (.slice la l.args.length lc) (.slice ra r.args.length rc)=S:=⟨_,rfl⟩
 rw[hS]at hI0 h43 h21 h22 hdr hal hC hbl
 have HW:=hidR (And.intro hbb (show w.heap.size<=W3.heap.size from hbb.size))
 obtain⟨sz,hsz2⟩:∃x,(fEq l r).size=x:=⟨_,rfl⟩
 obtain⟨dp,hdp2⟩:∃x,(fEq l r).depth=x:=⟨_,rfl⟩
 obtain⟨wd,hwd⟩:∃x,(fEq l r).wide=x:=⟨_,rfl⟩
 have HP:Hid (pcells (fEq l r) (.slice la l.args.length lc) (.slice ra r.args.length rc) (.slice none 0 0)=#[.int .i64 1,.string ⟨#[]⟩,.int .i64 l.v,.string l.fn,.slice la l.args.length lc,.int .i64 r.v,.string r.fn,.slice ra r.args.length rc,.slice none 0 0,.bool wd,.int .i64 sz,.int .i64 dp]):=by
  rw[<-hsz2,<-hdp2,<-hwd];exact rfl
 rw[hsz2]at h21
 rw[hdp2]at h22
 rw[hwd]at h43
 have hW3':((w.alloc (.cells #[.int .i64 l.v,.string l.fn,.slice la l.args.length lc] 24)).alloc (.cells #[.int .i64 r.v,.string r.fn,.slice ra r.args.length rc] 24)).alloc (.cells #[.int .i64 1,.string ⟨#[]⟩,.int .i64 l.v,.string l.fn,.slice la l.args.length lc,.int .i64 r.v,.string r.fn,.slice ra r.args.length rc,.slice none 0 0] 27)=W3:=hW3
 have HW3:=hidR hW3'
 clear hW3 hW3' hS hl hr s1 s2 hb hsane hsz hdp hb1 hb2 hb3 hbb hz hf0 hG hsz2 hdp2 hwd
 go_enter Tryz.func200,Tryz.ntmps200
 go_upto_region 2 with fail
 try simp only[hG']
 rw[show _=W3 from HW3.out]
 have hSd:=hdr _ hI0
 obtain⟨n0,n1,n2,n3,n4,n5,n6,n7,n8⟩:=hC _ hSd
 go_region_held3 (fun X=>X.cell? ⟨G,0,none⟩=some (.int .i64 1)∧X.cell? ⟨G,1,none⟩=some (.string ⟨#[]⟩)∧X.cell? ⟨G,2,none⟩=some (.int .i64 l.v)∧X.cell? ⟨G,3,none⟩=some (.string l.fn)∧X.cell? ⟨G,4,none⟩=some (.slice la l.args.length lc)∧X.cell? ⟨G,5,none⟩=some (.int .i64 r.v)∧X.cell? ⟨G,6,none⟩=some (.string r.fn)∧X.cell? ⟨G,7,none⟩=some (.slice ra r.args.length rc)∧X.cell? ⟨G,8,none⟩=some (.slice none 0 0)) (first|exact⟨n0,n1,n2,n3,n4,n5,n6,n7,n8⟩|exact K4|exact K5|exact K6|exact hC _ (hal _ _ HW6)) (first
  | (go_at_call 22; refine (h22 _ HW5).mono ?_; rintro e W6 ⟨rfl, HW6⟩; have K6 := hC _ HW6)
  | (go_at_call 21; refine (h21 _ HW4).mono ?_; rintro e W5 ⟨rfl, HW5⟩; have K5 := hC _ HW5)
  | (go_at_call 43; refine (h43 _ hSd).mono ?_; rintro e W4 ⟨rfl, HW4⟩; have K4 := hC _ HW4))
 go_wp2
 go_ret
 have hz6:=(jH W6 (.cells #[.int .i64 1,.string ⟨#[]⟩,.int .i64 l.v,.string l.fn,.slice la l.args.length lc,.int .i64 r.v,.string r.fn,.slice ra r.args.length rc,.slice none 0 0,.bool wd,.int .i64 sz,.int .i64 dp] 59)).1
 have hb6:=hbl.out _ HW6
 exact⟨W6.heap.size,rfl,hb6.size,by rw[HP.out];exact hz6,hb6.trans ((bbx W6 _).mono hb6.size)⟩
end
section
open Go.RowKit
open Lx (rkp rbk rsl)
structure Pc where
 p:Nat
 f:Fm
 sl:Value
 sr:Value
 sk:Value
def flP (l:List Pc):List Value:=l.flatMap fun x=>fcells x.f x.sl x.sr x.sk
theorem flP_len (l:List Pc):(flP l).length=l.length*9:=by
 induction l with
 | nil=>rfl
 | cons a r ih=>simp only[flP,List.flatMap_cons,jL,jK,List.length_nil]at ih ⊢;omega
theorem flP_snoc (l:List Pc)(x:Pc):flP (l++[x])=flP l++fcells x.f x.sl x.sr x.sk:=by simp[flP]
theorem flP_get:∀(l:List Pc)(i:Nat)(h:i<l.length)(j:Nat),j<9->(flP l)[i*9+j]? =(fcells l[i].f l[i].sl l[i].sr l[i].sk)[j]?
 | x::l,0,_,j,hj=>by
  show (fcells x.f x.sl x.sr x.sk++flP l)[0*9+j]? =_
  rw[List.getElem?_append_left (by simp;omega),Nat.zero_mul,Nat.zero_add]
  rfl
 | x::l,i+1,h,j,hj=>by
  have ih:=flP_get l i (by simpa using h) j hj
  show (fcells x.f x.sl x.sr x.sk++flP l)[(i+1)*9+j]? =_
  rw[List.getElem?_append_right (by simp;omega)]
  rw[show (i+1)*9+j-(fcells x.f x.sl x.sr x.sk).length=i*9+j by simp;omega]
  exact ih
theorem y08 {W:World}{base:Nat}{e:TypeId}{size n:Nat}{g c:Nat}{xs:List Value}(h:W.ownsRow base e size (.slice (some ⟨g,0,none⟩) n c) n xs){j:Nat}{u:Value}(hj:xs[j]? =some u):W.cell? ⟨g,j,none⟩=some u∧W.frozen? ⟨g,j,none⟩=false:=by
 obtain⟨hl,⟨e,h0⟩|⟨g',cap,cur,e,hb,hg,hc,hm,hsz,ht⟩⟩:=h
 ·cases e
 ·cases e
  have hjl:j<n*size:=by rw[<-hl];exact (List.getElem?_eq_some_iff.1 hj).1
  rw[<-ht,List.getElem?_take,if_pos hjl,Array.getElem?_toList]at hj
  exact⟨by simp[World.cell?,hg,hj],by simp[World.frozen?,hg]⟩
theorem y25 {W:World}{base:Nat}{e:TypeId}{size n:Nat}{g c:Nat}{xs:List Value}(h:W.ownsRow base e size (.slice (some ⟨g,0,none⟩) n c) n xs)(j:Nat)(u:Value)(_hj:j<xs.length):(W.setCell ⟨g,j,none⟩ u).ownsRow base e size (.slice (some ⟨g,0,none⟩) n c) n (xs.set j u):=by
 obtain⟨hl,⟨e',h0⟩|⟨g',cap,cur,e',hb,hg,hc,hm,hsz,ht⟩⟩:=h
 ·cases e'
 ·cases e'
  refine⟨by simpa using hl,.inr ⟨g,c,cur.setIfInBounds j u,rfl,hb,heap_setCell_same W g j cur e u hg,hc,hm,by simpa using hsz,?_⟩⟩
  rw[Array.toList_setIfInBounds,List.take_set,ht]
theorem y3u {P:Nat->Prop}{W:World}{base:Nat}{v:Value}{l:List Pc}(h:W.ownsRow base 27 9 v l.length (flP l))(hP:∀g,v.ownBlock=some g->P g)(hs:∀x∈l,FmP P W x.f x.sl x.sr x.sk):KidsP P W v (l.map Pc.f):=by
 have h':=h
 obtain⟨hl,⟨e,h0⟩|⟨g,cap,cur,e,hb,hg,hc,hm,hsz,ht⟩⟩:=h
 ·have:l=[]:=List.eq_nil_of_length_eq_zero h0
  subst this
  rw[e]
  exact KidsP.nil P W
 ·subst e
  have hget:∀j u,(flP l)[j]? =some u->W.cell? ⟨g,0+j,none⟩=some u:=fun j u hj=>by
   rw[Nat.zero_add]
   exact (y08 h' hj).1
  have key:=KidsP.mk (P:=P) (W:=W) (some ⟨g,0,none⟩) cap (l.map Pc.f) (fun i=>(l[i]?.map Pc.sl).getD (.slice none 0 0)) (fun i=>(l[i]?.map Pc.sr).getD (.slice none 0 0)) (fun i=>(l[i]?.map Pc.sk).getD (.slice none 0 0)) (by simpa using hc) hm (fun _=>⟨g,0,hP g rfl,(jG hg).1,rfl,fun i hi=>by
   have hi':i<l.length:=by simpa using hi
   have hq:=flP_get l i hi'
   simp only[List.getElem_map,List.getElem?_eq_getElem hi',Option.map_some,Option.getD_some]
   exact⟨hget _ _ (hq 0 (by omega)),hget _ _ (hq 1 (by omega)),⟨hget _ _ (hq 2 (by omega)),hget _ _ (hq 3 (by omega)),hget _ _ (hq 4 (by omega))⟩,⟨hget _ _ (hq 5 (by omega)),hget _ _ (hq 6 (by omega)),hget _ _ (hq 7 (by omega))⟩,hget _ _ (hq 8 (by omega))⟩⟩) (fun i hi=>by
   have hi':i<l.length:=by simpa using hi
   simp only[List.getElem_map,List.getElem?_eq_getElem hi',Option.map_some,Option.getD_some]
   exact (hs _ (List.getElem_mem hi')).l) (fun i hi=>by
   have hi':i<l.length:=by simpa using hi
   simp only[List.getElem_map,List.getElem?_eq_getElem hi',Option.map_some,Option.getD_some]
   exact (hs _ (List.getElem_mem hi')).r) (fun i hi=>by
   have hi':i<l.length:=by simpa using hi
   simp only[List.getElem_map,List.getElem?_eq_getElem hi',Option.map_some,Option.getD_some]
   exact (hs _ (List.getElem_mem hi')).k)
  simpa using key
def put9 (W:World)(g j:Nat)(a b c d e f h i k:Value):World:=
 ((((((((W.setCell ⟨g,j,none⟩ a).setCell ⟨g,j+1,none⟩ b).setCell ⟨g,j+2,none⟩ c).setCell ⟨g,j+3,none⟩ d).setCell ⟨g,j+4,none⟩ e).setCell ⟨g,j+5,none⟩ f).setCell ⟨g,j+6,none⟩ h).setCell ⟨g,j+7,none⟩ i).setCell ⟨g,j+8,none⟩ k
theorem row_put9 {W:World}{base:Nat}{ty:TypeId}{n g cp:Nat}{xs:List Value}{z0 z1 z2 z3 z4 z5 z6 z7 z8:Value}(h:W.ownsRow base ty 9 (.slice (some ⟨g,0,none⟩) (n+1) cp) (n+1) (xs++[z0,z1,z2,z3,z4,z5,z6,z7,z8]))(hx:xs.length=n*9)(a b c d e f q i k:Value) :
  (put9 W g (n*9) a b c d e f q i k).ownsRow base ty 9 (.slice (some ⟨g,0,none⟩) (n+1) cp) (n+1) (xs++[a,b,c,d,e,f,q,i,k]):=by
 have h0:=y25 h (n*9) a (by simp;omega)
 have h1:=y25 h0 (n*9+1) b (by simp;omega)
 have h2:=y25 h1 (n*9+2) c (by simp;omega)
 have h3:=y25 h2 (n*9+3) d (by simp;omega)
 have h4:=y25 h3 (n*9+4) e (by simp;omega)
 have h5:=y25 h4 (n*9+5) f (by simp;omega)
 have h6:=y25 h5 (n*9+6) q (by simp;omega)
 have h7:=y25 h6 (n*9+7) i (by simp;omega)
 have h8:=y25 h7 (n*9+8) k (by simp;omega)
 have e:(((((((((xs++[z0,z1,z2,z3,z4,z5,z6,z7,z8]).set (n*9) a).set (n*9+1) b).set (n*9+2) c).set (n*9+3) d).set (n*9+4) e).set (n*9+5) f).set (n*9+6) q).set (n*9+7) i).set (n*9+8) k=xs++[a,b,c,d,e,f,q,i,k]:=by
  rw[<-hx]
  simp[]
 rw[e]at h8
 exact h8
theorem y4l (W:World)(g j:Nat)(a b c d e f h i k:Value):Only [g] W (put9 W g j a b c d e f h i k):=by
 unfold put9
 have s:∀(X:World) (o:Nat) (v:Value),Only [g] X (X.setCell ⟨g,o,none⟩ v):=fun X o v=>y07 (Below.refl _ X) g o v
 have q:∀{X Y:World} (o:Nat) (v:Value),Only [g] X Y->Only [g] X (Y.setCell ⟨g,o,none⟩ v):=fun o v h=>h.trans (s _ o v) (fun r hr=>.inl hr)
 exact q _ _ (q _ _ (q _ _ (q _ _ (q _ _ (q _ _ (q _ _ (q _ _ (s _ _ _))))))))
theorem put9_far (W:World)(g j:Nat)(a b c d e f h i k:Value)(x:Nat)(hl:x<W.heap.size)(hx:x≠g):(put9 W g j a b c d e f h i k).heap[x]? =W.heap[x]?:=(y4l W g j a b c d e f h i k).block x hl (by simpa using hx)
theorem Only.widen {B B':List Nat}{x y:World}(h:Only B x y)(hB:∀r∈B,r∈B'):Only B' x y:=⟨h.os,h.tape,h.output,h.size,fun k hk hn=>h.block k hk (fun hm=>hn (hB k hm))⟩
structure CmI (w:World) (R:Nat) (k:Int) (nm:ByteArray) (D:List Pc) (i:Nat) (v:Value) (b:Bool) (x y:Int) (W:World):Prop where
 box:W.heap[R]? =some (.cells #[.int .i64 k,.string nm,.int .i64 0,.string ⟨#[]⟩,.slice none 0 0,.int .i64 0,.string ⟨#[]⟩,.slice none 0 0,v,.bool b,.int .i64 x,.int .i64 y] 59 (0,0))
 row:W.ownsRow (R+1) 27 9 v i (flP (D.take i))
 bel:Below w.heap.size w W
 wR:w.heap.size=R
theorem CmI.start (w:World)(k:Int)(nm:ByteArray)(D:List Pc):CmI w w.heap.size k nm D 0 (.slice none 0 0) false 1 1 (w.alloc (.cells #[.int .i64 k,.string nm,.int .i64 0,.string ⟨#[]⟩,.slice none 0 0,.int .i64 0,.string ⟨#[]⟩,.slice none 0 0,.slice none 0 0,.bool false,.int .i64 1,.int .i64 1] 59)):=
 ⟨(jH w _).1,⟨rfl,.inl ⟨rfl,rfl⟩⟩,bbx w _,rfl⟩
theorem CmI.facts {w:World}{R:Nat}{k:Int}{nm:ByteArray}{D:List Pc}{i:Nat}{v:Value}{b:Bool}{x y:Int}{W:World}(h:CmI w R k nm D i v b x y W):(W.cell? ⟨R,8,none⟩=some v∧W.cell? ⟨R,9,none⟩=some (.bool b)∧W.cell? ⟨R,10,none⟩=some (.int .i64 x)∧W.cell? ⟨R,11,none⟩=some (.int .i64 y))∧W.frozen? ⟨R,8,none⟩=false∧W.frozen? ⟨R,9,none⟩=false∧W.frozen? ⟨R,10,none⟩=false∧W.frozen? ⟨R,11,none⟩=false:=by
 have hb:=h.box
 refine⟨⟨?_,?_,?_,?_⟩,?_,?_,?_,?_⟩
 ·exact csR (vs:=[_,_,_,_,_,_,_,_,_,_,_,_]) hb rfl
 ·exact csR (vs:=[_,_,_,_,_,_,_,_,_,_,_,_]) hb rfl
 ·exact csR (vs:=[_,_,_,_,_,_,_,_,_,_,_,_]) hb rfl
 ·exact csR (vs:=[_,_,_,_,_,_,_,_,_,_,_,_]) hb rfl
 all_goals exact frc hb
theorem CmI.set9 {w:World}{R:Nat}{k:Int}{nm:ByteArray}{D:List Pc}{i:Nat}{v:Value}{b:Bool}{x y:Int}{W:World}(h:CmI w R k nm D i v b x y W)(b':Bool):CmI w R k nm D i v b' x y (W.setCell ⟨R,9,none⟩ (.bool b')):=by
 refine⟨by have:=heap_setCell_same W R 9 _ 59 (.bool b') h.box;simpa using this,rkp h.row fun g hg=>Below.heap_setCell _ _ _ g (by have:=(rbk h.row hg).1;intro e;have e':g=R:=e;omega),h.bel.trans (below_setR h.wR _ _ h.bel.size),h.wR⟩
where
 below_setR {w W:World} {R:Nat} (hR:w.heap.size=R) (j:Nat) (u:Value) (_hs:w.heap.size<=W.heap.size):Below w.heap.size W (W.setCell ⟨R,j,none⟩ u):=⟨rfl,rfl,rfl,by simp,fun q hq=>Below.heap_setCell _ _ _ q (by intro e;have e':q=R:=e;omega)⟩
theorem CmI.set10 {w:World}{R:Nat}{k:Int}{nm:ByteArray}{D:List Pc}{i:Nat}{v:Value}{b:Bool}{x y:Int}{W:World}(h:CmI w R k nm D i v b x y W)(x':Int):CmI w R k nm D i v b x' y (W.setCell ⟨R,10,none⟩ (.int .i64 x')):=by
 refine⟨by have:=heap_setCell_same W R 10 _ 59 (.int .i64 x') h.box;simpa using this,rkp h.row fun g hg=>Below.heap_setCell _ _ _ g (by have:=(rbk h.row hg).1;intro e;have e':g=R:=e;omega),h.bel.trans (CmI.set9.below_setR h.wR _ _ h.bel.size),h.wR⟩
theorem CmI.set11 {w:World}{R:Nat}{k:Int}{nm:ByteArray}{D:List Pc}{i:Nat}{v:Value}{b:Bool}{x y:Int}{W:World}(h:CmI w R k nm D i v b x y W)(y':Int):CmI w R k nm D i v b x y' (W.setCell ⟨R,11,none⟩ (.int .i64 y')):=by
 refine⟨by have:=heap_setCell_same W R 11 _ 59 (.int .i64 y') h.box;simpa using this,rkp h.row fun g hg=>Below.heap_setCell _ _ _ g (by have:=(rbk h.row hg).1;intro e;have e':g=R:=e;omega),h.bel.trans (CmI.set9.below_setR h.wR _ _ h.bel.size),h.wR⟩
theorem CmI.push {w:World}{R:Nat}{k:Int}{nm:ByteArray}{D:List Pc}{i:Nat}{v:Value}{b:Bool}{x y:Int}{W X w6:World}(h:CmI w R k nm D i v b x y W)(hi:i<D.length)(hX:Below W.heap.size W X){g cp:Nat}{z0 z1 z2 z3 z4 z5 z6 z7 z8:Value}(hrow:w6.ownsRow (R+1) 27 9 (.slice (some ⟨g,0,none⟩) (i+1) cp) (i+1) (flP (D.take i)++[z0,z1,z2,z3,z4,z5,z6,z7,z8]))(hg:X.grownBy w6 v.ownBlock)(W7:World)
  (hW:W7=(put9 w6 g (i*9) (.int .i64 D[i].f.k) (.string D[i].f.nm) (.int .i64 D[i].f.l.v) (.string D[i].f.l.fn) D[i].sl (.int .i64 D[i].f.r.v) (.string D[i].f.r.fn) D[i].sr D[i].sk).setCell ⟨R,8,none⟩ (.slice (some ⟨g,0,none⟩) (i+1) cp)∨
   W7=put9 (w6.setCell ⟨R,8,none⟩ (.slice (some ⟨g,0,none⟩) (i+1) cp)) g (i*9) (.int .i64 D[i].f.k) (.string D[i].f.nm) (.int .i64 D[i].f.l.v) (.string D[i].f.l.fn) D[i].sl (.int .i64 D[i].f.r.v) (.string D[i].f.r.fn) D[i].sr D[i].sk) :
  CmI w R k nm D (i+1) (.slice (some ⟨g,0,none⟩) (i+1) cp) b x y W7:=by
 have hgR:R+1<=g:=(rbk hrow rfl).1
 have hRl:=(jG h.box).1
 have hvR:v.ownBlock≠some R:=fun e=>by have:=(rbk h.row e).1;omega
 have hbox:w6.heap[R]? =W.heap[R]?:=(hg.block R (jI hRl hX.size) (fun e=>hvR e.symm)).trans (hX.block R hRl)
 have hlen:(flP (D.take i)).length=i*9:=by rw[flP_len,List.length_take];congr 1;omega
 have hfl:flP (D.take (i+1))=flP (D.take i)++fcells D[i].f D[i].sl D[i].sr D[i].sk:=by rw[List.take_succ_eq_append_getElem hi,flP_snoc]
 have hold:∀j,j<w.heap.size->w6.heap[j]? =w.heap[j]?:=fun j hj=>by
  have hw:=h.wR
  have hs:=h.bel.size
  have:v.ownBlock≠some j:=fun e=>by have:=(rbk h.row e).1;omega
  exact (hg.block j (by have:=hX.size;omega) (fun e=>this e.symm)).trans ((hX.block j (by omega)).trans (h.bel.block j hj))
 have hsz:w.heap.size<=w6.heap.size:=Nat.le_trans h.bel.size (Nat.le_trans hX.size hg.size)
 have hwR:=h.wR
 have hRl6:R<w6.heap.size:=jI hRl (Nat.le_trans hX.size hg.size)
 have hbl6:Below w.heap.size w w6:=⟨hg.os.trans (hX.os.trans h.bel.os),hg.tape.trans (hX.tape.trans h.bel.tape),hg.output.trans (hX.output.trans h.bel.output),hsz,hold⟩
 have hfin:∀{Y:World},Only [g,R] w6 Y->Below w.heap.size w Y:=fun ho=>hbl6.trans (ho.below hsz (fun r hr=>by simp at hr;omega))
 rcases hW with rfl|rfl
 ·have ho:=y4l w6 g (i*9) (.int .i64 D[i].f.k) (.string D[i].f.nm) (.int .i64 D[i].f.l.v) (.string D[i].f.l.fn) D[i].sl (.int .i64 D[i].f.r.v) (.string D[i].f.r.fn) D[i].sr D[i].sk
  have hr9:=row_put9 hrow hlen (.int .i64 D[i].f.k) (.string D[i].f.nm) (.int .i64 D[i].f.l.v) (.string D[i].f.l.fn) D[i].sl (.int .i64 D[i].f.r.v) (.string D[i].f.r.fn) D[i].sr D[i].sk
  have hb:=put9_far w6 g (i*9) (.int .i64 D[i].f.k) (.string D[i].f.nm) (.int .i64 D[i].f.l.v) (.string D[i].f.l.fn) D[i].sl (.int .i64 D[i].f.r.v) (.string D[i].f.r.fn) D[i].sr D[i].sk R hRl6 (by omega)
  generalize put9 w6 g (i*9) (.int .i64 D[i].f.k) (.string D[i].f.nm) (.int .i64 D[i].f.l.v) (.string D[i].f.l.fn) D[i].sl (.int .i64 D[i].f.r.v) (.string D[i].f.r.fn) D[i].sr D[i].sk=Y at ho hr9 hb
  have hb2:=heap_setCell_same Y R 8 _ 59 (.slice (some ⟨g,0,none⟩) (i+1) cp) (hb.trans (hbox.trans h.box))
  refine⟨by simpa using hb2,?_,hfin ((ho.widen (fun r hr=>by simp at hr;simp[hr])).trans (y07 (Below.refl _ Y) R 8 _) (fun r hr=>.inl (by simp at hr;simp[hr]))),h.wR⟩
  rw[hfl]
  exact rkp hr9 fun j hj=>Below.heap_setCell _ _ _ j (by intro e;have e':j=R:=e;have hj':g=j:=Option.some.inj hj;omega)
 ·have ho1:=y07 (Below.refl _ w6) R 8 (.slice (some ⟨g,0,none⟩) (i+1) cp)
  have hb:=heap_setCell_same w6 R 8 _ 59 (.slice (some ⟨g,0,none⟩) (i+1) cp) (hbox.trans h.box)
  have hr1:(w6.setCell ⟨R,8,none⟩ (.slice (some ⟨g,0,none⟩) (i+1) cp)).ownsRow _ _ _ _ _ _:=rkp hrow fun j hj=>Below.heap_setCell _ _ _ j (by intro e;have e':j=R:=e;have hj':g=j:=Option.some.inj hj;omega)
  generalize w6.setCell ⟨R,8,none⟩ (.slice (some ⟨g,0,none⟩) (i+1) cp)=Y at ho1 hb hr1
  have ho:=y4l Y g (i*9) (.int .i64 D[i].f.k) (.string D[i].f.nm) (.int .i64 D[i].f.l.v) (.string D[i].f.l.fn) D[i].sl (.int .i64 D[i].f.r.v) (.string D[i].f.r.fn) D[i].sr D[i].sk
  have hb2:=put9_far Y g (i*9) (.int .i64 D[i].f.k) (.string D[i].f.nm) (.int .i64 D[i].f.l.v) (.string D[i].f.l.fn) D[i].sl (.int .i64 D[i].f.r.v) (.string D[i].f.r.fn) D[i].sr D[i].sk R (jI hRl6 ho1.size) (by omega)
  refine⟨hb2.trans (by simpa using hb),?_,hfin ((ho1.widen (fun r hr=>by simp at hr;simp[hr])).trans ho (fun r hr=>.inl (by simp at hr;simp[hr]))),h.wR⟩
  rw[hfl]
  exact row_put9 hr1 hlen _ _ _ _ _ _ _ _ _
end
