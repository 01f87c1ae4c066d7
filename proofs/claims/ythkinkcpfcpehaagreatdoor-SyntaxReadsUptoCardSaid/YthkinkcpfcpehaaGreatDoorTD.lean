import Derived.Test.YthkinkcpfcpehaaGreatDoorZS
import Derived.Test.YthkinkcpfcpehaaGreatDoorGW
namespace Go.Proofs.YthkinkcpfcpehaaGreatDoor
set_option maxRecDepth 100000
set_option maxHeartbeats 8000000
section
open Go.RowKit Go.Maps
open Lx (Tk ofL KsAt)
theorem dall {D:DE}:∀(n:Nat)(l:List Tk),l.length<=n->DU D l∧DF D l:=by
 intro n
 induction n with
 | zero =>
  intro l hl
  have:l=[]:=List.eq_nil_of_length_eq_zero (by omega)
  subst this
  have hq:DQ D []:=fun X fr mn bd bv bl _ _ hh _ _=>by rcases hh with h|h<;>cases h
  have hu:DU D []:=y52 (fun h=>absurd rfl h) (fun h=>absurd rfl h) hq
  exact⟨hu,y3w (n:=0) (fun l' hl'=>by
   have:l'=[]:=List.eq_nil_of_length_eq_zero (by omega)
   subst this;exact hu) (jJ _)⟩
 | succ n ih =>
  have hu:∀l:List Tk,l.length<=n+1->DU D l:=fun l hl =>
   y52 (fun hne=>(ih _ (by have:=List.length_pos_iff.2 hne;rw[List.length_tail];omega)).1) (fun hne=>(ih _ (by have:=List.length_pos_iff.2 hne;rw[List.length_tail];omega)).2) (dquant_any (fun l' hl'=>(ih l' (by omega)).1))
  intro l hl
  exact⟨hu l hl,y3w hu hl⟩
theorem dformula {D:DE}(l:List Tk):DF D l:=(dall l.length l (jJ _)).2
end
section
open Go.RowKit
theorem y38:∀(ds:List Int)(m:Int),∀d∈ds,d<=ds.foldl max m
 | x::r,m,d,h=>by
  rcases List.mem_cons.1 h with rfl|h
  ·exact Int.le_trans (by omega) (y1x r (max m d))
  ·exact y38 r _ d h
theorem arg_depth {t a:T}(h:a∈t.args):a.depth<=t.depth:=by
 rw[t.depth_eq]
 have:=y38 (t.args.map T.depth) 0 a.depth (List.mem_map.2 ⟨a,h,rfl⟩)
 omega
theorem y3x (t:T):t.depth<=4611686018427387904->t.depthW=t.depth:=by
 refine T.ind (P:=fun t=>t.depth<=4611686018427387904->t.depthW=t.depth) (fun t ih h=>?_) t
 have hm:t.args.map T.depthW=t.args.map T.depth:=List.map_congr_left fun a ha=>ih a ha (Int.le_trans (arg_depth ha) h)
 rw[T.depthW_eq,hm,T.depth_eq]
 have h1:=y1x (t.args.map T.depth) 0
 rw[T.depth_eq]at h
 unfold wrap64;omega
theorem fm_size_eq (f:Fm):f.size=1+(if f.k=1 then f.l.size+f.r.size else 0)+Fm.size.sizes f.kids:=by
 cases f with
 | mk k n l r ks=>rw[Fm.size];rfl
theorem y1u (f:Fm):f.depth=1+max (if f.k=1 then max f.l.depth f.r.depth else 0) (Fm.depth.depths f.kids):=by
 cases f with
 | mk k n l r ks=>rw[Fm.depth];rfl
theorem y4g {w:World}{f:Fm}{sl sr sk:Value}{X:World}(h:SzI w f sl sr sk X):X.cell? ⟨w.heap.size,0,none⟩=some (.int .i64 f.k)∧X.cell? ⟨w.heap.size,2,none⟩=some (.int .i64 f.l.v)∧X.cell? ⟨w.heap.size,3,none⟩=some (.string f.l.fn)∧X.cell? ⟨w.heap.size,4,none⟩=some sl∧X.cell? ⟨w.heap.size,5,none⟩=some (.int .i64 f.r.v)∧X.cell? ⟨w.heap.size,6,none⟩=some (.string f.r.fn)∧X.cell? ⟨w.heap.size,7,none⟩=some sr∧X.cell? ⟨w.heap.size,8,none⟩=some sk:=
 ⟨csR (vs:=[_,_,_,_,_,_,_,_,_]) h.box rfl,csR (vs:=[_,_,_,_,_,_,_,_,_]) h.box rfl,csR (vs:=[_,_,_,_,_,_,_,_,_]) h.box rfl,csR (vs:=[_,_,_,_,_,_,_,_,_]) h.box rfl,csR (vs:=[_,_,_,_,_,_,_,_,_]) h.box rfl,csR (vs:=[_,_,_,_,_,_,_,_,_]) h.box rfl,csR (vs:=[_,_,_,_,_,_,_,_,_]) h.box rfl,csR (vs:=[_,_,_,_,_,_,_,_,_]) h.box rfl⟩
theorem rfsize_any (f:Fm):∀(P:Nat->Prop)(sl sr sk:Value)(w:World),FmP P w f sl sr sk->Calls Tryz.prog 60 #[fval f sl sr sk] w fun e w'=>e=.returned (.int .i64 (wrap64 f.size))∧Below w.heap.size w w':=by
 refine Fm.ind (P:=fun f=>∀(P:Nat->Prop) (sl sr sk:Value) (w:World),FmP P w f sl sr sk->Calls Tryz.prog 60 #[fval f sl sr sk] w fun e w'=>e=.returned (.int .i64 (wrap64 f.size))∧Below w.heap.size w w') (fun f ih=>?_) f
 intro P sl sr sk w h
 obtain⟨la,lc,rfl,_,_⟩:=h.l.slice'
 obtain⟨ra,rc,rfl,_,_⟩:=h.r.slice'
 obtain⟨ka,kc',rfl,hkc,hkm⟩:=h.k.slice
 have hkm':kc'<=9223372036854775807:=by unfold maxLen at hkm;omega
 have hI0:=SzI.start h
 have HE:=hidR (fm_size_eq f)
 obtain⟨n,hn⟩:∃n,f.kids.length=n:=⟨_,rfl⟩
 have HN:=hidR hn
 have HK:Hid (∀X,Below w.heap.size w X->KidsP P X (.slice ka f.kids.length kc') f.kids):=fun X hX=>h.k.grow hX
 rw[hn]at hI0 hkc HK ⊢
 have hnl:n<=9223372036854775807:=by omega
 have HG:Hid (∀a∈f.kids,∀(sl sr sk:Value) (X:World),FmP P X a sl sr sk->Calls Tryz.prog 60 #[fval a sl sr sk] X fun e w'=>e=.returned (.int .i64 (wrap64 a.size))∧Below X.heap.size X w'):=fun a ha sl sr sk X hX=>ih a ha P sl sr sk X hX
 have hl:∀X,SzI w f (.slice la f.l.args.length lc) (.slice ra f.r.args.length rc) (.slice ka n kc') X->Calls Tryz.prog 100 #[.agg #[.int .i64 f.l.v,.string f.l.fn,.slice la f.l.args.length lc]] X fun e X'=>e=.returned (.int .i64 (wrap64 f.l.size))∧SzI w f (.slice la f.l.args.length lc) (.slice ra f.r.args.length rc) (.slice ka n kc') X':=fun X hX=>(rsize_any f.l _ X hX.l).mono fun _ _ ⟨he,hb⟩=>⟨he,hX.keep hb⟩
 have hr:∀X,SzI w f (.slice la f.l.args.length lc) (.slice ra f.r.args.length rc) (.slice ka n kc') X->Calls Tryz.prog 100 #[.agg #[.int .i64 f.r.v,.string f.r.fn,.slice ra f.r.args.length rc]] X fun e X'=>e=.returned (.int .i64 (wrap64 f.r.size))∧SzI w f (.slice la f.l.args.length lc) (.slice ra f.r.args.length rc) (.slice ka n kc') X':=fun X hX=>(rsize_any f.r _ X hX.r).mono fun _ _ ⟨he,hb⟩=>⟨he,hX.keep hb⟩
 have hdr:∀X,SzI w f (.slice la f.l.args.length lc) (.slice ra f.r.args.length rc) (.slice ka n kc') X->SzI w f (.slice la f.l.args.length lc) (.slice ra f.r.args.length rc) (.slice ka n kc') X.drew:=fun X hX=>hX.keep (Below.refl _ X).drew
 have hkp:Hid (∀X Y,SzI w f (.slice la f.l.args.length lc) (.slice ra f.r.args.length rc) (.slice ka n kc') X->Below X.heap.size X Y->SzI w f (.slice la f.l.args.length lc) (.slice ra f.r.args.length rc) (.slice ka n kc') Y):=fun X Y hX hY=>hX.keep hY
 have hC:∀X,SzI w f (.slice la f.l.args.length lc) (.slice ra f.r.args.length rc) (.slice ka n kc') X->_:=fun X hX=>y4g hX
 have hbl:Hid (∀X,SzI w f (.slice la f.l.args.length lc) (.slice ra f.r.args.length rc) (.slice ka n kc') X->Below w.heap.size w X):=fun X h=>h.bel
 obtain⟨S,hS⟩:∃S,SzI w f (.slice la f.l.args.length lc) (.slice ra f.r.args.length rc) (.slice ka n kc')=S:=⟨_,rfl⟩
 rw[hS]at hI0 hl hr hdr hC hbl hkp
 obtain⟨W0,hW0⟩:∃X,w.alloc (fbox f (.slice la f.l.args.length lc) (.slice ra f.r.args.length rc) (.slice ka n kc'))=X:=⟨_,rfl⟩
 obtain⟨R,hR⟩:∃R,w.heap.size=R:=⟨_,rfl⟩
 rw[hW0]at hI0
 rw[hR]at hC
 clear hS h ih hn hkm
 by_cases hk:f.k=1
 ·simp only[hk]at hC
  simp only[fbox,fval,hk]at hW0 ⊢
  rw[if_pos hk]at HE
  have HK1:=hidR hk
  clear hk
  go_enter Tryz.func60,Tryz.ntmps60
  go_upto_region 1 with fail
  try simp only[hR]
  try rw[hW0]
  clear hW0
  obtain⟨n0,n2,n3,n4,n5,n6,n7,n8⟩:=hC _ hI0
  go_upto_region 3 with fail
  have hSd:=hdr _ hI0
  clear n2 n3 n4 n5 n6 n7 n8 n0
  obtain⟨n0,n2,n3,n4,n5,n6,n7,n8⟩:=hC _ hSd
  go_region_held3 (fun X=>X.cell? ⟨R,2,none⟩=some (.int .i64 f.l.v)∧X.cell? ⟨R,3,none⟩=some (.string f.l.fn)∧X.cell? ⟨R,4,none⟩=some (.slice la f.l.args.length lc)∧X.cell? ⟨R,5,none⟩=some (.int .i64 f.r.v)∧X.cell? ⟨R,6,none⟩=some (.string f.r.fn)∧X.cell? ⟨R,7,none⟩=some (.slice ra f.r.args.length rc)) (first|exact⟨n2,n3,n4,n5,n6,n7⟩|exact K4|exact K5) (first
   | (go_at_call 100; refine (hr _ HW4).mono ?_; rintro e W5 ⟨rfl, HW5⟩; have K5 := (hC _ HW5).2; replace K5 := (And.intro K5.1 (And.intro K5.2.1 (And.intro K5.2.2.1 (And.intro K5.2.2.2.1 (And.intro K5.2.2.2.2.1 K5.2.2.2.2.2.1))))))
   | (go_at_call 100; refine (hl _ hSd).mono ?_; rintro e W4 ⟨rfl, HW4⟩; have K4 := (hC _ HW4).2; replace K4 := (And.intro K4.1 (And.intro K4.2.1 (And.intro K4.2.2.1 (And.intro K4.2.2.2.1 (And.intro K4.2.2.2.2.1 K4.2.2.2.2.2.1)))))))
  have HS5:=hidR HW5
  clear HW4 HW5 K4 K5 hl hr hdr hI0 hSd n0 n2 n3 n4 n5 n6 n7 n8
  go_wp2
  go_loopw [3,4] (fun vs vi wr=>∃(i:Nat) (x:Int),vi=.int .i64 i∧vs=.int .i64 (wrap64 x)∧i<=n∧Hid (S wr∧x+Fm.size.sizes (f.kids.drop i)=f.size)) (fun _ vi _=>n-(intOf vi).toNat)
  case atStart=>exact⟨0,1+f.l.size+f.r.size,rfl,by first|rfl|(rw[IntWalk.i64_left,IntWalk.i64_left];congr 1;unfold wrap64;omega)|(congr 1;unfold wrap64;omega),Nat.zero_le _,HS5.out,by rw[List.drop_zero];have:=HE.out;omega⟩
  case round =>
   obtain⟨i,x,rfl,rfl,hi,HI⟩:=hrel
   obtain⟨n0,n2,n3,n4,n5,n6,n7,n8⟩:=hC _ HI.out.1
   clear n0 n2 n3 n4 n5 n6 n7
   by_cases hlt:i<n
   ·have hil:i<f.kids.length:=by rw[HN.out];exact hlt
    have hsr:=HK.out _ (hbl.out _ HI.out.1)
    rw[<-HN.out]at hsr
    obtain⟨b,o,sl,sr,sk,rfl,_,hlt2,⟨y0,y1,⟨y2,y3,y4⟩,⟨y5,y6,y7⟩,y8⟩,hss⟩:=hsr.nth hil
    obtain⟨a1,c1,rfl,_,_⟩:=hss.l.slice'
    obtain⟨a2,c2,rfl,_,_⟩:=hss.r.slice'
    obtain⟨a3,c3,rfl,_,_⟩:=hss.k.slice
    have hc:=HG.out f.kids[i] (List.getElem_mem hil) _ _ _ _ hss
    have HT:=hidR (y1p hil)
    generalize f.kids[i]=t at y0 y1 y2 y3 y4 y5 y6 y7 y8 hc HT
    clear hss hsr hlt2
    go_wp2_with fail
    refine hc.mono ?_
    rintro e W2 ⟨rfl,h2⟩
    have HM:Hid (S W2∧(x+t.size)+Fm.size.sizes (f.kids.drop (i+1))=f.size):=⟨hkp.out _ _ HI.out.1 h2,by have:=HI.out.2;rw[HT.out]at this;omega⟩
    clear hc h2 n8
    go_wp2
    go_roundw
    case rel=>exact⟨i+1,x+t.size,by go_num,by first|rfl|(rw[IntWalk.i64_left,y17])|(rw[y17]),by omega,HM.out⟩
    case measure=>simp[intOf];omega
   ·have hin:i=n:=by omega
    subst hin
    have HX:Hid (x=f.size):=by have:=HI.out.2;rw[<-HN.out,List.drop_length]at this;exact (Int.add_zero x).symm.trans this
    have HB:Hid (Below w.heap.size w wr):=hbl.out _ HI.out.1
    go_wp2
    go_ret
    exact⟨y0c (by rw[HX.out]),HB.out⟩
 ·have hkb:(f.k==1)=false:=by simpa using hk
  rw[if_neg hk]at HE
  simp only[fbox,fval]at hW0 ⊢
  clear hk
  go_enter Tryz.func60,Tryz.ntmps60
  go_upto_region 1 with fail
  try simp only[hR]
  try rw[hW0]
  clear hW0
  obtain⟨n0,n2,n3,n4,n5,n6,n7,n8⟩:=hC _ hI0
  go_upto_region 3 with fail
  try simp only[hkb]
  have HS5:=hidR hI0
  clear hl hr hdr hI0 n0 n2 n3 n4 n5 n6 n7 n8
  go_wp2
  go_loopw [3,4] (fun vs vi wr=>∃(i:Nat) (x:Int),vi=.int .i64 i∧vs=.int .i64 (wrap64 x)∧i<=n∧Hid (S wr∧x+Fm.size.sizes (f.kids.drop i)=f.size)) (fun _ vi _=>n-(intOf vi).toNat)
  case atStart=>exact⟨0,1,rfl,congrArg _ (show (1:Int)=wrap64 1 by unfold wrap64;decide),Nat.zero_le _,HS5.out,by rw[List.drop_zero];have:=HE.out;omega⟩
  case round =>
   obtain⟨i,x,rfl,rfl,hi,HI⟩:=hrel
   obtain⟨n0,n2,n3,n4,n5,n6,n7,n8⟩:=hC _ HI.out.1
   clear n0 n2 n3 n4 n5 n6 n7
   by_cases hlt:i<n
   ·have hil:i<f.kids.length:=by rw[HN.out];exact hlt
    have hsr:=HK.out _ (hbl.out _ HI.out.1)
    rw[<-HN.out]at hsr
    obtain⟨b,o,sl,sr,sk,rfl,_,hlt2,⟨y0,y1,⟨y2,y3,y4⟩,⟨y5,y6,y7⟩,y8⟩,hss⟩:=hsr.nth hil
    obtain⟨a1,c1,rfl,_,_⟩:=hss.l.slice'
    obtain⟨a2,c2,rfl,_,_⟩:=hss.r.slice'
    obtain⟨a3,c3,rfl,_,_⟩:=hss.k.slice
    have hc:=HG.out f.kids[i] (List.getElem_mem hil) _ _ _ _ hss
    have HT:=hidR (y1p hil)
    generalize f.kids[i]=t at y0 y1 y2 y3 y4 y5 y6 y7 y8 hc HT
    clear hss hsr hlt2
    go_wp2_with fail
    refine hc.mono ?_
    rintro e W2 ⟨rfl,h2⟩
    have HM:Hid (S W2∧(x+t.size)+Fm.size.sizes (f.kids.drop (i+1))=f.size):=⟨hkp.out _ _ HI.out.1 h2,by have:=HI.out.2;rw[HT.out]at this;omega⟩
    clear hc h2 n8
    go_wp2
    go_roundw
    case rel=>exact⟨i+1,x+t.size,by go_num,by first|rfl|(rw[IntWalk.i64_left,y17])|(rw[y17]),by omega,HM.out⟩
    case measure=>simp[intOf];omega
   ·have hin:i=n:=by omega
    subst hin
    have HX:Hid (x=f.size):=by have:=HI.out.2;rw[<-HN.out,List.drop_length]at this;exact (Int.add_zero x).symm.trans this
    have HB:Hid (Below w.heap.size w wr):=hbl.out _ HI.out.1
    go_wp2
    go_ret
    exact⟨y0c (by rw[HX.out]),HB.out⟩
theorem rfdepth_any (f:Fm):f.depth<=4611686018427387904->∀(P:Nat->Prop)(sl sr sk:Value)(w:World),FmP P w f sl sr sk->Calls Tryz.prog 61 #[fval f sl sr sk] w fun e w'=>e=.returned (.int .i64 (f.depth))∧Below w.heap.size w w':=by
 refine Fm.ind (P:=fun f=>f.depth<=4611686018427387904->∀(P:Nat->Prop) (sl sr sk:Value) (w:World),FmP P w f sl sr sk->Calls Tryz.prog 61 #[fval f sl sr sk] w fun e w'=>e=.returned (.int .i64 (f.depth))∧Below w.heap.size w w') (fun f ih=>?_) f
 intro hdp P sl sr sk w h
 obtain⟨la,lc,rfl,_,_⟩:=h.l.slice'
 obtain⟨ra,rc,rfl,_,_⟩:=h.r.slice'
 obtain⟨ka,kc',rfl,hkc,hkm⟩:=h.k.slice
 have hkm':kc'<=9223372036854775807:=by unfold maxLen at hkm;omega
 have hI0:=SzI.start h
 have HE:=hidR (y1u f)
 obtain⟨n,hn⟩:∃n,f.kids.length=n:=⟨_,rfl⟩
 have HN:=hidR hn
 have HK:Hid (∀X,Below w.heap.size w X->KidsP P X (.slice ka f.kids.length kc') f.kids):=fun X hX=>h.k.grow hX
 rw[hn]at hI0 hkc HK ⊢
 have hnl:n<=9223372036854775807:=by omega
 have hall:∀a∈f.kids,a.depth<=4611686018427387904:=fun a ha=>by have h1:=y39 ha;have h2:=y1u f;omega
 have HG:Hid (∀a∈f.kids,∀(sl sr sk:Value) (X:World),FmP P X a sl sr sk->Calls Tryz.prog 61 #[fval a sl sr sk] X fun e w'=>e=.returned (.int .i64 (a.depth))∧Below X.heap.size X w'):=fun a ha sl sr sk X hX=>ih a ha (hall a ha) P sl sr sk X hX
 have HD:Hid (f.k=1->f.l.depthW=f.l.depth∧f.r.depthW=f.r.depth∧1<=f.l.depth∧1<=f.r.depth∧f.l.depth<=4611686018427387904∧f.r.depth<=4611686018427387904):=fun hk=>by
  have h2:=y1u f
  rw[if_pos hk]at h2
  exact⟨y3x _ (by omega),y3x _ (by omega),y23 _,y23 _,by omega,by omega⟩
 have HDP:=hidR hdp
 clear hall hdp
 have hl:∀X,SzI w f (.slice la f.l.args.length lc) (.slice ra f.r.args.length rc) (.slice ka n kc') X->Calls Tryz.prog 101 #[.agg #[.int .i64 f.l.v,.string f.l.fn,.slice la f.l.args.length lc]] X fun e X'=>e=.returned (.int .i64 (f.l.depthW))∧SzI w f (.slice la f.l.args.length lc) (.slice ra f.r.args.length rc) (.slice ka n kc') X':=fun X hX=>((rdepth_any f.l _ X hX.l)).mono fun _ _ ⟨he,hb⟩=>⟨he,hX.keep hb⟩
 have hr:∀X,SzI w f (.slice la f.l.args.length lc) (.slice ra f.r.args.length rc) (.slice ka n kc') X->Calls Tryz.prog 101 #[.agg #[.int .i64 f.r.v,.string f.r.fn,.slice ra f.r.args.length rc]] X fun e X'=>e=.returned (.int .i64 (f.r.depthW))∧SzI w f (.slice la f.l.args.length lc) (.slice ra f.r.args.length rc) (.slice ka n kc') X':=fun X hX=>((rdepth_any f.r _ X hX.r)).mono fun _ _ ⟨he,hb⟩=>⟨he,hX.keep hb⟩
 have hdr:∀X,SzI w f (.slice la f.l.args.length lc) (.slice ra f.r.args.length rc) (.slice ka n kc') X->SzI w f (.slice la f.l.args.length lc) (.slice ra f.r.args.length rc) (.slice ka n kc') X.drew:=fun X hX=>hX.keep (Below.refl _ X).drew
 have hkp:Hid (∀X Y,SzI w f (.slice la f.l.args.length lc) (.slice ra f.r.args.length rc) (.slice ka n kc') X->Below X.heap.size X Y->SzI w f (.slice la f.l.args.length lc) (.slice ra f.r.args.length rc) (.slice ka n kc') Y):=fun X Y hX hY=>hX.keep hY
 have hC:∀X,SzI w f (.slice la f.l.args.length lc) (.slice ra f.r.args.length rc) (.slice ka n kc') X->_:=fun X hX=>y4g hX
 have hbl:Hid (∀X,SzI w f (.slice la f.l.args.length lc) (.slice ra f.r.args.length rc) (.slice ka n kc') X->Below w.heap.size w X):=fun X h=>h.bel
 obtain⟨S,hS⟩:∃S,SzI w f (.slice la f.l.args.length lc) (.slice ra f.r.args.length rc) (.slice ka n kc')=S:=⟨_,rfl⟩
 rw[hS]at hI0 hl hr hdr hC hbl hkp
 obtain⟨W0,hW0⟩:∃X,w.alloc (fbox f (.slice la f.l.args.length lc) (.slice ra f.r.args.length rc) (.slice ka n kc'))=X:=⟨_,rfl⟩
 obtain⟨R,hR⟩:∃R,w.heap.size=R:=⟨_,rfl⟩
 rw[hW0]at hI0
 rw[hR]at hC
 clear hS h ih hn hkm
 by_cases hk:f.k=1
 ·simp only[hk]at hC
  simp only[fbox,fval,hk]at hW0 ⊢
  rw[if_pos hk]at HE
  have HK1:=hidR hk
  clear hk
  go_enter Tryz.func61,Tryz.ntmps61
  go_upto_region 1 with fail
  try simp only[hR]
  try rw[hW0]
  clear hW0
  obtain⟨n0,n2,n3,n4,n5,n6,n7,n8⟩:=hC _ hI0
  go_upto_region 3 with fail
  have hSd:=hdr _ hI0
  clear n2 n3 n4 n5 n6 n7 n8 n0
  obtain⟨n0,n2,n3,n4,n5,n6,n7,n8⟩:=hC _ hSd
  go_region_held3 (fun X=>X.cell? ⟨R,2,none⟩=some (.int .i64 f.l.v)∧X.cell? ⟨R,3,none⟩=some (.string f.l.fn)∧X.cell? ⟨R,4,none⟩=some (.slice la f.l.args.length lc)∧X.cell? ⟨R,5,none⟩=some (.int .i64 f.r.v)∧X.cell? ⟨R,6,none⟩=some (.string f.r.fn)∧X.cell? ⟨R,7,none⟩=some (.slice ra f.r.args.length rc)) (first|exact⟨n2,n3,n4,n5,n6,n7⟩|exact K4|exact K5) (first
   | (go_at_call 101; refine (hr _ HW4).mono ?_; rintro e W5 ⟨rfl, HW5⟩; have K5 := (hC _ HW5).2; replace K5 := (And.intro K5.1 (And.intro K5.2.1 (And.intro K5.2.2.1 (And.intro K5.2.2.2.1 (And.intro K5.2.2.2.2.1 K5.2.2.2.2.2.1))))))
   | (go_at_call 101; refine (hl _ hSd).mono ?_; rintro e W4 ⟨rfl, HW4⟩; have K4 := (hC _ HW4).2; replace K4 := (And.intro K4.1 (And.intro K4.2.1 (And.intro K4.2.2.1 (And.intro K4.2.2.2.1 (And.intro K4.2.2.2.2.1 K4.2.2.2.2.2.1)))))))
  have HS5:=hidR HW5
  clear HW4 HW5 K4 K5 hl hr hdr hI0 hSd n0 n2 n3 n4 n5 n6 n7 n8
  go_wp2
  go_loopw [3,4] (fun vs vi wr=>∃(i:Nat) (x:Int),vi=.int .i64 i∧vs=.int .i64 x∧i<=n∧Hid (S wr∧1+max x (Fm.depth.depths (f.kids.drop i))=f.depth∧0<=x)) (fun _ vi _=>n-(intOf vi).toNat)
  case atStart=>exact⟨0,max f.l.depth f.r.depth,rfl,by have hz:=HD.out HK1.out;simp only[hz.1,hz.2.1];try first|rfl|(congr 1;omega)|(refine congrArg _ ?_;split<;>omega),Nat.zero_le _,HS5.out,by rw[List.drop_zero];have:=HE.out;omega,by have hz:=HD.out HK1.out;omega⟩
  case round =>
   obtain⟨i,x,rfl,rfl,hi,HI⟩:=hrel
   obtain⟨n0,n2,n3,n4,n5,n6,n7,n8⟩:=hC _ HI.out.1
   clear n0 n2 n3 n4 n5 n6 n7
   by_cases hlt:i<n
   ·have hil:i<f.kids.length:=by rw[HN.out];exact hlt
    have hsr:=HK.out _ (hbl.out _ HI.out.1)
    rw[<-HN.out]at hsr
    obtain⟨b,o,sl,sr,sk,rfl,_,hlt2,⟨y0,y1,⟨y2,y3,y4⟩,⟨y5,y6,y7⟩,y8⟩,hss⟩:=hsr.nth hil
    obtain⟨a1,c1,rfl,_,_⟩:=hss.l.slice'
    obtain⟨a2,c2,rfl,_,_⟩:=hss.r.slice'
    obtain⟨a3,c3,rfl,_,_⟩:=hss.k.slice
    have hc:=HG.out f.kids[i] (List.getElem_mem hil) _ _ _ _ hss
    have HT:=hidR (y2x hil)
    generalize f.kids[i]=t at y0 y1 y2 y3 y4 y5 y6 y7 y8 hc HT
    clear hss hsr hlt2
    go_wp2_with fail
    refine hc.mono ?_
    rintro e W2 ⟨rfl,h2⟩
    have HM:Hid (S W2∧1+max (max x t.depth) (Fm.depth.depths (f.kids.drop (i+1)))=f.depth∧0<=max x t.depth):=⟨hkp.out _ _ HI.out.1 h2,by have:=HI.out.2.1;rw[HT.out]at this;omega,by have:=HI.out.2.2;omega⟩
    obtain⟨td,htd⟩:∃y,t.depth=y:=⟨_,rfl⟩
    rw[htd]at HM ⊢
    clear hc h2 n8
    go_wp2
    all_goals go_roundw
    case rel=>exact⟨i+1,max x td,by go_num,by first|rfl|(congr 1;omega)|(refine congrArg _ ?_;split<;>omega),by omega,HM.out⟩
    case measure=>simp[intOf];omega
   ·have hin:i=n:=by omega
    subst hin
    have HX:Hid (f.depth=1+x∧f.depth<=4611686018427387904∧0<=x):=by
     have:=HI.out.2.1
     rw[<-HN.out,List.drop_length,Fm.depth.depths]at this
     have h0:=HI.out.2.2
     exact⟨by omega,HDP.out,h0⟩
    have HB:Hid (Below w.heap.size w wr):=hbl.out _ HI.out.1
    go_wp2
    go_ret
    refine⟨y0c ?_,HB.out⟩
    have h1:=HX.out
    rw[h1.1]
    first
     | (rw [IntWalk.i64_left]; unfold wrap64; omega)
     | (unfold wrap64; omega)
 ·have hkb:(f.k==1)=false:=by simpa using hk
  rw[if_neg hk]at HE
  simp only[fbox,fval]at hW0 ⊢
  clear hk
  go_enter Tryz.func61,Tryz.ntmps61
  go_upto_region 1 with fail
  try simp only[hR]
  try rw[hW0]
  clear hW0
  obtain⟨n0,n2,n3,n4,n5,n6,n7,n8⟩:=hC _ hI0
  go_upto_region 3 with fail
  try simp only[hkb]
  have HS5:=hidR hI0
  clear hl hr hdr hI0 n0 n2 n3 n4 n5 n6 n7 n8
  go_wp2
  go_loopw [3,4] (fun vs vi wr=>∃(i:Nat) (x:Int),vi=.int .i64 i∧vs=.int .i64 x∧i<=n∧Hid (S wr∧1+max x (Fm.depth.depths (f.kids.drop i))=f.depth∧0<=x)) (fun _ vi _=>n-(intOf vi).toNat)
  case atStart=>exact⟨0,0,rfl,rfl,Nat.zero_le _,HS5.out,by rw[List.drop_zero];have:=HE.out;have:=y0w f.kids;omega,Int.le_refl _⟩
  case round =>
   obtain⟨i,x,rfl,rfl,hi,HI⟩:=hrel
   obtain⟨n0,n2,n3,n4,n5,n6,n7,n8⟩:=hC _ HI.out.1
   clear n0 n2 n3 n4 n5 n6 n7
   by_cases hlt:i<n
   ·have hil:i<f.kids.length:=by rw[HN.out];exact hlt
    have hsr:=HK.out _ (hbl.out _ HI.out.1)
    rw[<-HN.out]at hsr
    obtain⟨b,o,sl,sr,sk,rfl,_,hlt2,⟨y0,y1,⟨y2,y3,y4⟩,⟨y5,y6,y7⟩,y8⟩,hss⟩:=hsr.nth hil
    obtain⟨a1,c1,rfl,_,_⟩:=hss.l.slice'
    obtain⟨a2,c2,rfl,_,_⟩:=hss.r.slice'
    obtain⟨a3,c3,rfl,_,_⟩:=hss.k.slice
    have hc:=HG.out f.kids[i] (List.getElem_mem hil) _ _ _ _ hss
    have HT:=hidR (y2x hil)
    generalize f.kids[i]=t at y0 y1 y2 y3 y4 y5 y6 y7 y8 hc HT
    clear hss hsr hlt2
    go_wp2_with fail
    refine hc.mono ?_
    rintro e W2 ⟨rfl,h2⟩
    have HM:Hid (S W2∧1+max (max x t.depth) (Fm.depth.depths (f.kids.drop (i+1)))=f.depth∧0<=max x t.depth):=⟨hkp.out _ _ HI.out.1 h2,by have:=HI.out.2.1;rw[HT.out]at this;omega,by have:=HI.out.2.2;omega⟩
    obtain⟨td,htd⟩:∃y,t.depth=y:=⟨_,rfl⟩
    rw[htd]at HM ⊢
    clear hc h2 n8
    go_wp2
    all_goals go_roundw
    case rel=>exact⟨i+1,max x td,by go_num,by first|rfl|(congr 1;omega)|(refine congrArg _ ?_;split<;>omega),by omega,HM.out⟩
    case measure=>simp[intOf];omega
   ·have hin:i=n:=by omega
    subst hin
    have HX:Hid (f.depth=1+x∧f.depth<=4611686018427387904∧0<=x):=by
     have:=HI.out.2.1
     rw[<-HN.out,List.drop_length,Fm.depth.depths]at this
     have h0:=HI.out.2.2
     exact⟨by omega,HDP.out,h0⟩
    have HB:Hid (Below w.heap.size w wr):=hbl.out _ HI.out.1
    go_wp2
    go_ret
    refine⟨y0c ?_,HB.out⟩
    have h1:=HX.out
    rw[h1.1]
    first
     | (rw [IntWalk.i64_left]; unfold wrap64; omega)
     | (unfold wrap64; omega)
end
section
open Go.RowKit
def SameAt (x:T):Prop:=∀(y:T)(sx sy:Value)(w:World),ArgsAt w sx x.args->ArgsAt w sy y.args ->
  Calls Tryz.prog 48 #[tval x sx,tval y sy] w fun e w'=>e=.returned (.bool (same x y))∧Below w.heap.size w w'
open Classical in
noncomputable def sames (l m:List T):Bool:=decide (l=m)
theorem sames_iff {x y:List T}:sames x y=true↔x=y:=by simp[sames]
theorem y2s {x y:List T}:sames x y=false↔x≠y:=by simp[sames]
theorem eqf_len (l m:List T)(a b:Option Addr)(c d:Nat)(f:Value)(w:World)(h:l.length≠m.length) :
  Calls Tryz.prog 90 #[.slice a l.length c,.slice b m.length d,f] w fun e w'=>e=.returned (.bool (sames l m))∧Below w.heap.size w w':=by
 have HS:Hid (sames l m=false):=y2s.2 fun e=>h (by rw[e])
 have h3:((l.length:Int) != (m.length:Int))=true:=by rw[bne_iff_ne];omega
 clear h
 go_enter Tryz.func90,Tryz.ntmps90
 go_wp2
 go_ret
 exact⟨y01 (by rw[HS]),Below.refl _ _⟩
theorem eqf_loop (l m:List T)(ih:∀a∈l,SameAt a)(a b:Option Addr)(c d:Nat)(w:World)(ha:ArgsAt w (.slice a l.length c) l)(hb:ArgsAt w (.slice b m.length d) m)(hc:l.length<=9223372036854775807)(h:l.length=m.length) :
  Calls Tryz.prog 90 #[.slice a l.length c,.slice b m.length d,.func (.func 48) #[] #[]] w fun e w'=>e=.returned (.bool (sames l m))∧Below w.heap.size w w':=by
 have HE:Hid (l.length=m.length):=h
 have h3:((l.length:Int) != (m.length:Int))=false:=by rw[bne_eq_false_iff_eq];omega
 clear h
 go_enter Tryz.func90,Tryz.ntmps90
 go_wp2
 go_loopw [17] (fun i wr=>∃k:Nat,k<=l.length∧i=.int .i64 k∧Hid (l.take k=m.take k)∧Below w.heap.size w wr) (fun i _=>l.length-(intOf i).toNat)
 case atStart=>exact⟨0,Nat.zero_le _,rfl,rfl,Below.refl _ _⟩
 case round =>
  obtain⟨k,hk,rfl,hall,hw⟩:=hrel
  have haw:=ArgsAt.keep hw (jJ _) ha
  have hbw:=ArgsAt.keep hw (jJ _) hb
  by_cases hlt:k<l.length
  ·have hlt':k<m.length:=HE▸hlt
   obtain⟨ba,oa,s,rfl,hba,a0,a1,a2,hs⟩:=haw.nth hlt
   obtain⟨bb,ob,s',rfl,hbb,b0,b1,b2,hs'⟩:=hbw.nth hlt'
   obtain⟨aa,cs,rfl,_,_⟩:=hs.slice
   obtain⟨aa',cs',rfl,_,_⟩:=hs'.slice
   have hbx:Below wr.heap.size wr (tbox2 wr l[k] (.slice aa l[k].args.length cs) m[k] (.slice aa' m[k].args.length cs')):=y0d wr _ _
   have ih':=(ih l[k] (List.getElem_mem hlt) m[k] _ _ _ (ArgsAt.keep hbx (jJ _) hs) (ArgsAt.keep hbx (jJ _) hs')).mono (R':=fun e w'=>e=.returned (.bool (same l[k] m[k]))∧Below w.heap.size w w') (fun e w' h=>⟨h.1,hw.trans ((hbx.trans (h.2.mono (by simp;omega))).mono hw.size)⟩)
   have b0':=kc (bbx wr (tbox l[k] (.slice aa l[k].args.length cs))) hbb b0
   have b1':=kc (bbx wr (tbox l[k] (.slice aa l[k].args.length cs))) hbb b1
   have b2':=kc (bbx wr (tbox l[k] (.slice aa l[k].args.length cs))) hbb b2
   clear ih ha hb haw hbw hbx hs hs'
   cases hsh:same l[k] m[k]
   ·rw[hsh]at ih'
    have Hf:Hid (sames l m=false):=by
     refine y2s.2 fun e=>y11.1 hsh ?_
     subst e
     rfl
    clear hsh
    go_wp2_with (go_at_call 48;refine ih'.mono ?_;rintro e w' ⟨rfl,hb'⟩)
    go_ret
    exact⟨y01 (by rw[Hf]),hb'⟩
   ·rw[hsh]at ih'
    have Hf:Hid (l.take (k+1)=m.take (k+1)):=y3t HE hlt hall (y2n.1 hsh)
    clear hsh
    go_wp2_with (go_at_call 48;refine ih'.mono ?_;rintro e w' ⟨rfl,hb'⟩)
    go_roundw
    case rel=>exact⟨k+1,by omega,by go_num,Hf,hb'⟩
    case measure=>simp[intOf];omega
  ·have Hf:Hid (sames l m=true):=by
    refine sames_iff.2 ?_
    have hall':l.take k=m.take k:=hall
    have hl:l.length=m.length:=HE
    rw[List.take_of_length_le (by omega),List.take_of_length_le (by omega)]at hall'
    exact hall'
   go_wp2
   go_ret
   exact⟨y01 (by rw[Hf]),hw⟩
theorem eqf_any (l m:List T)(ih:∀a∈l,SameAt a)(sl sm:Value)(w:World)(ha:ArgsAt w sl l)(hb:ArgsAt w sm m) :
  Calls Tryz.prog 90 #[sl,sm,.func (.func 48) #[] #[]] w fun e w'=>e=.returned (.bool (sames l m))∧Below w.heap.size w w':=by
 obtain⟨a,c,rfl,hc,hm⟩:=ha.slice
 obtain⟨b,d,rfl,hd,hm'⟩:=hb.slice
 by_cases hl:l.length=m.length
 ·exact eqf_loop l m ih a b c d w ha hb (by omega) hl
 ·exact eqf_len l m a b c d _ w hl
theorem same_of {x y:T}(h1:x.v=y.v)(h2:x.fn=y.fn):same x y=sames x.args y.args:=by
 cases h:sames x.args y.args
 ·rw[y11]
  intro e
  rw[y2s]at h
  exact h (by rw[e])
 ·exact y2n.2 (same_ext h1 h2 (sames_iff.1 h))
theorem tsame_no (x y:T)(a b:Option Addr)(n c m d:Nat)(w:World)(h:x.v≠y.v∨x.fn≠y.fn) :
  Calls Tryz.prog 48 #[tval x (.slice a n c),tval y (.slice b m d)] w fun e w'=>e=.returned (.bool (same x y))∧Below w.heap.size w w':=by
 have HS:Hid (same x y=false):=y11.2 fun e=>by rcases h with h|h<;>exact h (by rw[e])
 by_cases hv:x.v=y.v
 ·have h1:(x.v==y.v)=true:=by simpa using hv
  have h2:¬x.fn.toList=y.fn.toList:=fun e=>by
   rcases h with h|h
   ·exact h hv
   ·exact h (y0i.1 e)
  clear h hv
  go_enter Tryz.func48,Tryz.ntmps48
  go_wp2
  go_ret
  exact⟨y01 (by rw[HS]),y0d w _ _⟩
 ·have h1:(x.v==y.v)=false:=by simpa using hv
  clear h hv
  go_enter Tryz.func48,Tryz.ntmps48
  go_wp2
  go_ret
  exact⟨y01 (by rw[HS]),y0d w _ _⟩
theorem tsame_yes (x y:T)(ih:∀a∈x.args,SameAt a)(a b:Option Addr)(c d:Nat)(w:World)(ha:ArgsAt w (.slice a x.args.length c) x.args)(hb:ArgsAt w (.slice b y.args.length d) y.args)(hv:x.v=y.v)(hf:x.fn=y.fn) :
  Calls Tryz.prog 48 #[tval x (.slice a x.args.length c),tval y (.slice b y.args.length d)] w fun e w'=>e=.returned (.bool (same x y))∧Below w.heap.size w w':=by
 have HS:Hid (same x y=sames x.args y.args):=same_of hv hf
 have h1:(x.v==y.v)=true:=by simpa using hv
 have h2:x.fn.toList=y.fn.toList:=y0i.2 hf
 clear hv hf
 have hbx:Below w.heap.size w (tbox2 w x (.slice a x.args.length c) y (.slice b y.args.length d)):=y0d w _ _
 have ih':=(eqf_any x.args y.args ih _ _ _ (ArgsAt.keep hbx (jJ _) ha) (ArgsAt.keep hbx (jJ _) hb)).mono (R':=fun e w'=>e=.returned (.bool (sames x.args y.args))∧Below w.heap.size w w') (fun e w' h=>⟨h.1,hbx.trans (h.2.mono (by simp;omega))⟩)
 clear ih ha hb hbx
 go_enter Tryz.func48,Tryz.ntmps48
 go_wp2_with (go_at_call 90;refine ih'.mono ?_;rintro e w' ⟨rfl,hb'⟩)
 go_ret
 exact⟨y01 (by rw[HS]),hb'⟩
theorem tsame_any (x:T):SameAt x:=by
 induction x using T.ind with
 | _ x ih =>
  intro y sx sy w hx hy
  obtain⟨a,c,rfl,hc,hm⟩:=hx.slice
  obtain⟨b,d,rfl,hd,hm'⟩:=hy.slice
  by_cases h:x.v≠y.v∨x.fn≠y.fn
  ·exact tsame_no x y a b _ c _ d w h
  ·refine tsame_yes x y ih a b c d w hx hy ?_ ?_
   ·exact Classical.not_not.1 fun e=>h (.inl e)
   ·exact Classical.not_not.1 fun e=>h (.inr e)
end
