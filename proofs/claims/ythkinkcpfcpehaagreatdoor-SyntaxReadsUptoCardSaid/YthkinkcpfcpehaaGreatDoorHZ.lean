import Derived.Test.YthkinkcpfcpehaaGreatDoorZS
import Derived.Test.YthkinkcpfcpehaaGreatDoorHX
import Derived.Test.YthkinkcpfcpehaaGreatDoorHE
import Derived.Test.YthkinkcpfcpehaaGreatDoorCards
import Derived.Test.YthkinkcpfcpehaaGreatDoorTie
import Derived.ProofKit
import Derived.OpenShut
import Derived.ShutString
import Derived.SizedLaws
import Derived.Deep.DeepHandedRow
import Derived.Lib.LaidTab
import Derived.Lib.LaidU8
import Derived.MakeChecks
namespace Go.Proofs.YthkinkcpfcpehaaGreatDoor
set_option maxRecDepth 100000
set_option maxHeartbeats 16000000
section
open Go.RowKit
structure S2 (w:World) (R:Nat) (f:Fm) (sl sr sk sl2 sr2 sk2:Value) (X:World):Prop where
 bel:Below R w X
 b1:X.heap[R]? =some (fbox f sl sr sk)
 b2:X.heap[R+1]? =some (fbox f sl2 sr2 sk2)
theorem S2.keep {w:World}{R:Nat}{f:Fm}{sl sr sk sl2 sr2 sk2:Value}{X Y:World}(h:S2 w R f sl sr sk sl2 sr2 sk2 X)(hb:Below X.heap.size X Y):S2 w R f sl sr sk sl2 sr2 sk2 Y:=by
 have h1:=(jG h.b1).1
 have h2:=(jG h.b2).1
 exact⟨h.bel.trans (hb.mono (by omega)),(hb.block R h1).trans h.b1,(hb.block (R+1) h2).trans h.b2⟩
theorem rfsame_self (f:Fm):∀(P Q:Nat->Prop)(sl sr sk sl2 sr2 sk2:Value)(w:World),FmP P w f sl sr sk->FmP Q w f sl2 sr2 sk2->Calls Tryz.prog 10 #[fval f sl sr sk,fval f sl2 sr2 sk2] w fun e w'=>e=.returned (.bool true)∧Below w.heap.size w w':=by
 refine Fm.ind (P:=fun f=>∀(P Q:Nat->Prop) (sl sr sk sl2 sr2 sk2:Value) (w:World),FmP P w f sl sr sk->FmP Q w f sl2 sr2 sk2->Calls Tryz.prog 10 #[fval f sl sr sk,fval f sl2 sr2 sk2] w fun e w'=>e=.returned (.bool true)∧Below w.heap.size w w') (fun f ih=>?_) f
 intro P Q sl sr sk sl2 sr2 sk2 w h h2
 obtain⟨la,lc,rfl,_,_⟩:=h.l.slice'
 obtain⟨ra,rc,rfl,_,_⟩:=h.r.slice'
 obtain⟨ka,kd1,rfl,hkc,hkm⟩:=h.k.slice
 obtain⟨la2,lc2,rfl,_,_⟩:=h2.l.slice'
 obtain⟨ra2,rc2,rfl,_,_⟩:=h2.r.slice'
 obtain⟨ka2,kd2,rfl,_,_⟩:=h2.k.slice
 have hkm':kd1<=9223372036854775807:=by unfold maxLen at hkm;omega
 obtain⟨n,hn⟩:∃n,f.kids.length=n:=⟨_,rfl⟩
 have HN:=hidR hn
 have HA1:Hid (∀X,Below w.heap.size w X->FmP P X f (.slice la f.l.args.length lc) (.slice ra f.r.args.length rc) (.slice ka f.kids.length kd1)):=fun X hX=>h.grow hX
 have HA2:Hid (∀X,Below w.heap.size w X->FmP Q X f (.slice la2 f.l.args.length lc2) (.slice ra2 f.r.args.length rc2) (.slice ka2 f.kids.length kd2)):=fun X hX=>h2.grow hX
 have HG:=hidR ih
 rw[hn]at hkc HA1 HA2 ⊢
 have hnl:n<=9223372036854775807:=by omega
 obtain⟨R,hR⟩:∃R,w.heap.size=R:=⟨_,rfl⟩
 have hs1:(w.alloc (fbox f (.slice la f.l.args.length lc) (.slice ra f.r.args.length rc) (.slice ka n kd1))).heap.size=R+1:=by rw[World.size_alloc,hR]
 have hI0:S2 w R f (.slice la f.l.args.length lc) (.slice ra f.r.args.length rc) (.slice ka n kd1) (.slice la2 f.l.args.length lc2) (.slice ra2 f.r.args.length rc2) (.slice ka2 n kd2) ((w.alloc (fbox f (.slice la f.l.args.length lc) (.slice ra f.r.args.length rc) (.slice ka n kd1))).alloc (fbox f (.slice la2 f.l.args.length lc2) (.slice ra2 f.r.args.length rc2) (.slice ka2 n kd2))):=by
  have e1:=(jH w (fbox f (.slice la f.l.args.length lc) (.slice ra f.r.args.length rc) (.slice ka n kd1))).1
  have e2:=(jH (w.alloc (fbox f (.slice la f.l.args.length lc) (.slice ra f.r.args.length rc) (.slice ka n kd1))) (fbox f (.slice la2 f.l.args.length lc2) (.slice ra2 f.r.args.length rc2) (.slice ka2 n kd2))).1
  have hb:=y0d w (fbox f (.slice la f.l.args.length lc) (.slice ra f.r.args.length rc) (.slice ka n kd1)) (fbox f (.slice la2 f.l.args.length lc2) (.slice ra2 f.r.args.length rc2) (.slice ka2 n kd2))
  rw[hs1]at e2
  rw[hR]at e1 hb
  exact⟨hb,((bbx (w.alloc (fbox f (.slice la f.l.args.length lc) (.slice ra f.r.args.length rc) (.slice ka n kd1))) (fbox f (.slice la2 f.l.args.length lc2) (.slice ra2 f.r.args.length rc2) (.slice ka2 n kd2))).block R (by rw[hs1];omega)).trans e1,e2⟩
 rw[hR]at HA1 HA2
 have hC:∀X,S2 w R f (.slice la f.l.args.length lc) (.slice ra f.r.args.length rc) (.slice ka n kd1) (.slice la2 f.l.args.length lc2) (.slice ra2 f.r.args.length rc2) (.slice ka2 n kd2) X->(X.cell? ⟨R,0,none⟩=some (.int .i64 f.k)∧X.cell? ⟨R,1,none⟩=some (.string f.nm)∧X.cell? ⟨R,2,none⟩=some (.int .i64 f.l.v)∧X.cell? ⟨R,3,none⟩=some (.string f.l.fn)∧X.cell? ⟨R,4,none⟩=some (.slice la f.l.args.length lc)∧X.cell? ⟨R,5,none⟩=some (.int .i64 f.r.v)∧X.cell? ⟨R,6,none⟩=some (.string f.r.fn)∧X.cell? ⟨R,7,none⟩=some (.slice ra f.r.args.length rc)∧X.cell? ⟨R,8,none⟩=some (.slice ka n kd1))∧(X.cell? ⟨R+1,0,none⟩=some (.int .i64 f.k)∧X.cell? ⟨R+1,1,none⟩=some (.string f.nm)∧X.cell? ⟨R+1,2,none⟩=some (.int .i64 f.l.v)∧X.cell? ⟨R+1,3,none⟩=some (.string f.l.fn)∧X.cell? ⟨R+1,4,none⟩=some (.slice la2 f.l.args.length lc2)∧X.cell? ⟨R+1,5,none⟩=some (.int .i64 f.r.v)∧X.cell? ⟨R+1,6,none⟩=some (.string f.r.fn)∧X.cell? ⟨R+1,7,none⟩=some (.slice ra2 f.r.args.length rc2)∧X.cell? ⟨R+1,8,none⟩=some (.slice ka2 n kd2)):=fun X hX =>
  ⟨(y00 hX.b1).1,(y00 hX.b2).1⟩
 have hsz:Hid (∀X,S2 w R f (.slice la f.l.args.length lc) (.slice ra f.r.args.length rc) (.slice ka n kd1) (.slice la2 f.l.args.length lc2) (.slice ra2 f.r.args.length rc2) (.slice ka2 n kd2) X->R<X.heap.size∧R+1<X.heap.size):=fun X hX=>⟨(jG hX.b1).1,(jG hX.b2).1⟩
 have hbl:Hid (∀X,S2 w R f (.slice la f.l.args.length lc) (.slice ra f.r.args.length rc) (.slice ka n kd1) (.slice la2 f.l.args.length lc2) (.slice ra2 f.r.args.length rc2) (.slice ka2 n kd2) X->Below R w X):=fun X hX=>hX.bel
 have hkp:Hid (∀X Y,S2 w R f (.slice la f.l.args.length lc) (.slice ra f.r.args.length rc) (.slice ka n kd1) (.slice la2 f.l.args.length lc2) (.slice ra2 f.r.args.length rc2) (.slice ka2 n kd2) X->Below X.heap.size X Y->S2 w R f (.slice la f.l.args.length lc) (.slice ra f.r.args.length rc) (.slice ka n kd1) (.slice la2 f.l.args.length lc2) (.slice ra2 f.r.args.length rc2) (.slice ka2 n kd2) Y):=fun X Y hX hb=>hX.keep hb
 obtain⟨S,hS⟩:∃S,S2 w R f (.slice la f.l.args.length lc) (.slice ra f.r.args.length rc) (.slice ka n kd1) (.slice la2 f.l.args.length lc2) (.slice ra2 f.r.args.length rc2) (.slice ka2 n kd2)=S:=⟨_,rfl⟩
 rw[hS]at hI0 hC hbl hkp hsz
 obtain⟨W0,hW0⟩:∃X,(w.alloc (fbox f (.slice la f.l.args.length lc) (.slice ra f.r.args.length rc) (.slice ka n kd1))).alloc (fbox f (.slice la2 f.l.args.length lc2) (.slice ra2 f.r.args.length rc2) (.slice ka2 n kd2))=X:=⟨_,rfl⟩
 rw[hW0]at hI0
 have HW0:=hidR hW0
 have hL:Hid (∀X,S X->Calls Tryz.prog 27 #[.agg #[.int .i64 f.l.v,.string f.l.fn,.slice la f.l.args.length lc],.agg #[.int .i64 f.l.v,.string f.l.fn,.slice la2 f.l.args.length lc2]] X fun e X'=>e=.returned (.bool true)∧S X'):=fun X hX =>
  (rsame_any f.l f.l _ _ X (HA1.out X (hbl.out X hX)).l.args (HA2.out X (hbl.out X hX)).l.args).mono fun _ _ ⟨he,hb⟩=>⟨by rw[he,y2n.2 rfl],hkp.out _ _ hX hb⟩
 have hRr:Hid (∀X,S X->Calls Tryz.prog 27 #[.agg #[.int .i64 f.r.v,.string f.r.fn,.slice ra f.r.args.length rc],.agg #[.int .i64 f.r.v,.string f.r.fn,.slice ra2 f.r.args.length rc2]] X fun e X'=>e=.returned (.bool true)∧S X'):=fun X hX =>
  (rsame_any f.r f.r _ _ X (HA1.out X (hbl.out X hX)).r.args (HA2.out X (hbl.out X hX)).r.args).mono fun _ _ ⟨he,hb⟩=>⟨by rw[he,y2n.2 rfl],hkp.out _ _ hX hb⟩
 have k1:(f.k != f.k)=false:=by simp
 have k2:(f.nm.toList != f.nm.toList)=false:=by simp
 have k3:((n:Int) != (n:Int))=false:=by simp
 clear hS h h2 ih hn hkm hW0
 go_enter Tryz.func10,Tryz.ntmps10
 go_upto_region 1 with fail
 try simp only[hs1,hR]
 rw[show _=W0 from HW0.out]
 clear HW0 hs1
 obtain⟨⟨x0,x1,x2,x3,x4,x5,x6,x7,x8⟩,⟨y0,y1,y2,y3,y4,y5,y6,y7,y8⟩⟩:=hC _ hI0
 have hcl:=hL.out _ hI0
 go_wp2_with fail
 refine hcl.mono ?_
 rintro e W1 ⟨rfl,hI1⟩
 clear x0 x1 x2 x3 x4 x5 x6 x7 x8 y0 y1 y2 y3 y4 y5 y6 y7 y8 hcl hI0 hL
 obtain⟨⟨x0,x1,x2,x3,x4,x5,x6,x7,x8⟩,⟨y0,y1,y2,y3,y4,y5,y6,y7,y8⟩⟩:=hC _ hI1
 have hcr:=hRr.out _ hI1
 go_wp2_with fail
 refine hcr.mono ?_
 rintro e W2 ⟨rfl,hI2⟩
 clear x0 x1 x2 x3 x4 x5 x6 x7 x8 y0 y1 y2 y3 y4 y5 y6 y7 y8 hcr hI1 hRr k1 k2 k3
 have HI2:=hidR hI2
 clear hI2
 go_wp2
 go_loopw [5] (fun vi wr=>∃i:Nat,vi=.int .i64 i∧i<=n∧Hid (S wr)) (fun vi _=>n-(intOf vi).toNat)
 case atStart=>exact⟨0,rfl,Nat.zero_le _,HI2.out⟩
 case round =>
  obtain⟨i,rfl,hi,HI⟩:=hrel
  obtain⟨⟨-,-,-,-,-,-,-,-,x8⟩,⟨-,-,-,-,-,-,-,-,y8⟩⟩:=hC _ HI.out
  by_cases hlt:i<n
  ·have hil:i<f.kids.length:=by rw[HN.out];exact hlt
   have hdr:Below wr.heap.size wr wr.drew:=(Below.refl _ wr).drew
   have hs1:=(HA1.out _ (hbl.out _ HI.out)).k
   have hs2:=(HA2.out _ (hbl.out _ HI.out)).k
   rw[<-HN.out]at hs1 hs2
   obtain⟨b,o,sl,sr,sk,rfl,_,hlt2,⟨z0,z1,⟨z2,z3,z4⟩,⟨z5,z6,z7⟩,z8⟩,hss⟩:=hs1.nth hil
   obtain⟨b',o',sl2,sr2,sk2,rfl,_,hlt2',⟨v0,v1,⟨v2,v3,v4⟩,⟨v5,v6,v7⟩,v8⟩,hss2⟩:=hs2.nth hil
   obtain⟨a1,c1,rfl,_,_⟩:=hss.l.slice'
   obtain⟨a2,c2,rfl,_,_⟩:=hss.r.slice'
   obtain⟨a3,c3,rfl,_,_⟩:=hss.k.slice
   obtain⟨a4,c4,rfl,_,_⟩:=hss2.l.slice'
   obtain⟨a5,c5,rfl,_,_⟩:=hss2.r.slice'
   obtain⟨a6,c6,rfl,_,_⟩:=hss2.k.slice
   have hc:=HG.out f.kids[i] (List.getElem_mem hil) _ _ _ _ _ _ _ _ wr.drew (hss.grow hdr) (hss2.grow hdr)
   have hl:=hsz.out _ HI.out
   have HH:Hid (∀w',Below wr.drew.heap.size wr.drew w'->S w'∧Below wr.heap.size wr w'):=fun w' hb=>⟨hkp.out _ _ HI.out (hdr.trans hb),hdr.trans hb⟩
   obtain⟨l1,l2⟩:=hl
   have hdr2:=hdr
   generalize f.kids[i]=t at z0 z1 z2 z3 z4 z5 z6 z7 z8 v0 v1 v2 v3 v4 v5 v6 v7 v8 hc
   have HK:Hid (∀w',Below wr.drew.heap.size wr.drew w'->w'.cell? ⟨R,8,none⟩=some (.slice (some ⟨b,o,none⟩) n kd1)∧w'.cell? ⟨R+1,8,none⟩=some (.slice (some ⟨b',o',none⟩) n kd2)∧w'.cell? ⟨b,o+i*9,none⟩=some (.int .i64 t.k)∧w'.cell? ⟨b,o+i*9+1,none⟩=some (.string t.nm)∧w'.cell? ⟨b,o+i*9+2,none⟩=some (.int .i64 t.l.v)∧w'.cell? ⟨b,o+i*9+3,none⟩=some (.string t.l.fn)∧w'.cell? ⟨b,o+i*9+4,none⟩=some (.slice a1 t.l.args.length c1)∧w'.cell? ⟨b,o+i*9+5,none⟩=some (.int .i64 t.r.v)∧w'.cell? ⟨b,o+i*9+6,none⟩=some (.string t.r.fn)∧w'.cell? ⟨b,o+i*9+7,none⟩=some (.slice a2 t.r.args.length c2)∧w'.cell? ⟨b,o+i*9+8,none⟩=some (.slice a3 t.kids.length c3)∧w'.cell? ⟨b',o'+i*9,none⟩=some (.int .i64 t.k)∧w'.cell? ⟨b',o'+i*9+1,none⟩=some (.string t.nm)∧w'.cell? ⟨b',o'+i*9+2,none⟩=some (.int .i64 t.l.v)∧w'.cell? ⟨b',o'+i*9+3,none⟩=some (.string t.l.fn)∧w'.cell? ⟨b',o'+i*9+4,none⟩=some (.slice a4 t.l.args.length c4)∧w'.cell? ⟨b',o'+i*9+5,none⟩=some (.int .i64 t.r.v)∧w'.cell? ⟨b',o'+i*9+6,none⟩=some (.string t.r.fn)∧w'.cell? ⟨b',o'+i*9+7,none⟩=some (.slice a5 t.r.args.length c5)∧w'.cell? ⟨b',o'+i*9+8,none⟩=some (.slice a6 t.kids.length c6)):=fun w' hb=>by
    have K5:=hdr2.trans hb
    exact And.intro (kc K5 l1 x8) (And.intro (kc K5 l2 y8) (And.intro (kc K5 hlt2 z0) (And.intro (kc K5 hlt2 z1) (And.intro (kc K5 hlt2 z2) (And.intro (kc K5 hlt2 z3) (And.intro (kc K5 hlt2 z4) (And.intro (kc K5 hlt2 z5) (And.intro (kc K5 hlt2 z6) (And.intro (kc K5 hlt2 z7) (And.intro (kc K5 hlt2 z8) (And.intro (kc K5 hlt2' v0) (And.intro (kc K5 hlt2' v1) (And.intro (kc K5 hlt2' v2) (And.intro (kc K5 hlt2' v3) (And.intro (kc K5 hlt2' v4) (And.intro (kc K5 hlt2' v5) (And.intro (kc K5 hlt2' v6) (And.intro (kc K5 hlt2' v7) (kc K5 hlt2' v8)))))))))))))))))))
   clear hss hss2 hs1 hs2 hdr hdr2
   go_wp2
   go_region_held3 (fun w'=>w'.cell? ⟨R,8,none⟩=some (.slice (some ⟨b,o,none⟩) n kd1)∧w'.cell? ⟨R+1,8,none⟩=some (.slice (some ⟨b',o',none⟩) n kd2)∧w'.cell? ⟨b,o+i*9,none⟩=some (.int .i64 t.k)∧w'.cell? ⟨b,o+i*9+1,none⟩=some (.string t.nm)∧w'.cell? ⟨b,o+i*9+2,none⟩=some (.int .i64 t.l.v)∧w'.cell? ⟨b,o+i*9+3,none⟩=some (.string t.l.fn)∧w'.cell? ⟨b,o+i*9+4,none⟩=some (.slice a1 t.l.args.length c1)∧w'.cell? ⟨b,o+i*9+5,none⟩=some (.int .i64 t.r.v)∧w'.cell? ⟨b,o+i*9+6,none⟩=some (.string t.r.fn)∧w'.cell? ⟨b,o+i*9+7,none⟩=some (.slice a2 t.r.args.length c2)∧w'.cell? ⟨b,o+i*9+8,none⟩=some (.slice a3 t.kids.length c3)∧w'.cell? ⟨b',o'+i*9,none⟩=some (.int .i64 t.k)∧w'.cell? ⟨b',o'+i*9+1,none⟩=some (.string t.nm)∧w'.cell? ⟨b',o'+i*9+2,none⟩=some (.int .i64 t.l.v)∧w'.cell? ⟨b',o'+i*9+3,none⟩=some (.string t.l.fn)∧w'.cell? ⟨b',o'+i*9+4,none⟩=some (.slice a4 t.l.args.length c4)∧w'.cell? ⟨b',o'+i*9+5,none⟩=some (.int .i64 t.r.v)∧w'.cell? ⟨b',o'+i*9+6,none⟩=some (.string t.r.fn)∧w'.cell? ⟨b',o'+i*9+7,none⟩=some (.slice a5 t.r.args.length c5)∧w'.cell? ⟨b',o'+i*9+8,none⟩=some (.slice a6 t.kids.length c6)) (first|exact⟨x8,y8,z0,z1,z2,z3,z4,z5,z6,z7,z8,v0,v1,v2,v3,v4,v5,v6,v7,v8⟩|exact K4) (first|(go_at_call 10;refine hc.mono ?_;rintro e W4 ⟨rfl,HW4⟩;have K4:=HK.out _ HW4))
   have HS4:=HH.out _ HW4
   have HN4:=hidR HS4.1
   clear HW4 HS4 hc K4 x8 y8 z0 z1 z2 z3 z4 z5 z6 z7 z8 v0 v1 v2 v3 v4 v5 v6 v7 v8
   go_wp2
   go_roundw
   case rel=>exact⟨i+1,by go_num,by omega,HN4.out⟩
   case measure=>simp[intOf];omega
  ·have HB:Hid (Below w.heap.size w wr):=by show Below _ _ _;rw[hR];exact hbl.out _ HI.out
   have hin:i=n:=by omega
   subst hin
   go_wp2
   go_ret
   exact⟨rfl,HB.out⟩
end
section
open Go.RowKit Go.Maps
open Lx (y0a wsr rbk rkp rsl)
theorem reads_walk (s:ByteArray)(w:World)(hs:s.size<=2097154)(hsg:Sg w):Calls Tryz.prog 3 #[.string s] w fun e w'=>e=.returned (.bool true)∧Below w.heap.size w w':=by
 have hlt:0<w.heap.size:=(jG hsg).1
 have hf1:=fof_any s w hs hsg
 have HS:=hidR (And.intro hsg (And.intro hlt hs))
 clear hsg hlt hs
 go_enter Tryz.func3,Tryz.ntmps3
 go_wp2_with fail
 refine hf1.mono ?_
 clear hf1
 rintro e W1 ⟨f,sl,sr,sk,a,er,hr,rfl,hfm,hb1⟩
 obtain⟨la,lc,rfl,-,-⟩:=hfm.l.slice'
 obtain⟨ra,rc,rfl,-,-⟩:=hfm.r.slice'
 obtain⟨ka,kc,rfl,-,-⟩:=hfm.k.slice
 have hbA:=bbx W1 (fbox f (.slice la f.l.args.length lc) (.slice ra f.r.args.length rc) (.slice ka f.kids.length kc))
 have hzA:=(jH W1 (fbox f (.slice la f.l.args.length lc) (.slice ra f.r.args.length rc) (.slice ka f.kids.length kc))).1
 have hsA:(W1.alloc (fbox f (.slice la f.l.args.length lc) (.slice ra f.r.args.length rc) (.slice ka f.kids.length kc))).heap.size=W1.heap.size+1:=World.size_alloc _ _
 obtain⟨F,hF⟩:∃F,W1.heap.size=F:=⟨_,rfl⟩
 obtain⟨WA,hWA⟩:∃X,W1.alloc (fbox f (.slice la f.l.args.length lc) (.slice ra f.r.args.length rc) (.slice ka f.kids.length kc))=X:=⟨_,rfl⟩
 rw[hWA]at hbA hzA hsA
 rw[hF]at hzA hsA
 have hs1:=hb1.size
 have hb2:Below w.heap.size w WA:=hb1.trans (hbA.mono hs1)
 have hfA:FmP (fun k=>k<F) WA f (.slice la f.l.args.length lc) (.slice ra f.r.args.length rc) (.slice ka f.kids.length kc):=hfm.keep hbA.size (fun k hk hl=>⟨by omega,hbA.block k hl⟩)
 have hf2:=rfof_any s WA HS.out.2.2
 have HA:=hidR (And.intro hb2 (And.intro hzA (And.intro hfA hsA)))
 have HWA:=hidR hWA
 have HR1:=hidR hr
 clear hbA hzA hsA hb2 hfA hs1 hb1 hfm hWA hr
 go_upto_region 2 with fail
 try simp only[hF]
 rw[show _=WA from HWA.out]
 clear HWA hF
 go_wp2_with fail
 refine hf2.mono ?_
 clear hf2
 rintro e W2 ⟨f2,sl2,sr2,sk2,a2,er2,hr,rfl,hfm2,hb2⟩
 obtain⟨rfl,rfl,rfl⟩:=hr.one HR1.out
 clear hr HR1
 obtain⟨ma,mc,rfl,-,-⟩:=hfm2.l.slice'
 obtain⟨na,nc,rfl,-,-⟩:=hfm2.r.slice'
 obtain⟨oa,oc,rfl,-,-⟩:=hfm2.k.slice
 have hbB:=bbx W2 (fbox f2 (.slice ma f2.l.args.length mc) (.slice na f2.r.args.length nc) (.slice oa f2.kids.length oc))
 have hzG:=(jH W2 (fbox f2 (.slice ma f2.l.args.length mc) (.slice na f2.r.args.length nc) (.slice oa f2.kids.length oc))).1
 obtain⟨G,hG⟩:∃G,W2.heap.size=G:=⟨_,rfl⟩
 obtain⟨WB,hWB⟩:∃X,W2.alloc (fbox f2 (.slice ma f2.l.args.length mc) (.slice na f2.r.args.length nc) (.slice oa f2.kids.length oc))=X:=⟨_,rfl⟩
 rw[hWB]at hbB hzG
 rw[hG]at hzG
 have hb3:Below WA.heap.size WA WB:=hb2.trans (hbB.mono hb2.size)
 have hzB:WB.heap[F]? =some (fbox f2 (.slice la f2.l.args.length lc) (.slice ra f2.r.args.length rc) (.slice ka f2.kids.length kc)):=(hb3.block F (by have:=HA.out.2.2.2;omega)).trans HA.out.2.1
 have hfB:=HA.out.2.2.1.grow hb3
 have hgB:=hfm2.grow hbB
 have hwB:Below w.heap.size w WB:=HA.out.1.trans (hb3.mono HA.out.1.size)
 have hsm:=rfsame_self f2 _ _ _ _ _ _ _ _ WB hfB hgB
 have HB:=hidR hwB
 have HWB:=hidR hWB
 obtain⟨⟨n0,n1,n2,n3,n4,n5,n6,n7,n8⟩,-⟩:=y00 hzB
 obtain⟨⟨m0,m1,m2,m3,m4,m5,m6,m7,m8⟩,-⟩:=y00 hzG
 clear hbB hb3 hzB hzG hfB hgB hwB hWB hb2 hfm2 HA
 go_upto_region 3 with fail
 try simp only[hG]
 rw[show _=WB from HWB.out]
 clear HWB hG
 go_wp2_with fail
 refine hsm.mono ?_
 clear hsm
 rintro e W3 ⟨rfl,hb4⟩
 have hw3:Below w.heap.size w W3:=HB.out.trans (hb4.mono HB.out.size)
 have hal:=alive_any W3 ((hw3.block 0 HS.out.2.1).trans HS.out.1)
 have H3:=hidR hw3
 clear n0 n1 n2 n3 n4 n5 n6 n7 n8 m0 m1 m2 m3 m4 m5 m6 m7 m8 hb4 hw3 HB
 go_wp2_with fail
 refine hal.mono ?_
 clear hal
 rintro e W4 ⟨rfl,hb5⟩
 have H4:Hid (Below w.heap.size w W4):=H3.out.trans (hb5.mono H3.out.size)
 clear hb5 H3
 go_wp2_with fail
 go_ret
 exact⟨rfl,H4.out⟩
end
section
open Go.ChangeShapes Go.WideShapes Go.ChangeAt Go.RowKit
theorem own:ownKnob Tryz.prog.godebug=none:=by kernel_rfl
theorem laidOut:laidOutB Tryz.prog=true:=by kernel_rfl
def refill (cs:Array Value):Obj->Obj
 | .cells _ t frozen=>.cells cs t frozen
 | o=>o
def cellOf:DataW Unit->Value
 | .lit (.int k z)=>.int k z
 | .lit (.string b)=>.string ⟨b.toArray⟩
 | _=>.bool false
def rowOf:DataW Unit->Array Value
 | .agg l=>(l.map cellOf).toArray
 | _=>#[]
def laidHeap (h:Array Obj):Array Obj:=(((h.modify 0 (refill (rowOf Rows.laid_assize_syntax_signs))).modify 1 (refill (rowOf Rows.laid_internal_strconv_uint64pow10))).modify 2 (refill (rowOf Rows.laid_math_bits_deBruijn32tab))).modify 3 (refill (rowOf Rows.laid_math_bits_deBruijn64tab))
noncomputable def laidWorld (os:Os):World:={ World.holding Tryz.prog os ⟨#[],#[],[]⟩ with heap:=laidHeap (World.holding Tryz.prog os ⟨#[],#[],[]⟩).heap }
theorem laid_met (os:Os)(args:Array Value):laidMet Tryz.prog Rows.syntaxReadsUptoRow.laid ((laidWorld os).forCall (fun _ _=>0) ⟨#[],args,[]⟩).memory:=
 laidMet_of_run' 8 (by kernel_rfl) (by kernel_rfl)
theorem strs_of_tab {H:Type}{enc:TypeId × Value->H}{P:Program}{w:World}{base:Nat}{sp:Nat->Bool}{held:Bool}{fuel:Nat}{t e:TypeId}{n:Nat}{cs:List Value}{zs:List jU}{p:List MemPlace}
  (ht:P.underlying t=some (.array n e)) (he:P.underlying e=some .string) (hce:P.cellsOf e=1) (hct:P.cellsOf t=n)
  (h:DataW.trod enc P w base sp held fuel t cs=some (.agg (zs.map fun z=>.lit (.string z)),p)):cs=zs.map fun z=>Value.string ⟨z.toArray⟩:=by
 cases fuel with
 | zero=>simp[DataW.trod]at h
 | succ fuel =>
  simp only[DataW.trod,ht,hce,hct,Nat.mul_one]at h
  split at h
  ·rename_i hl
   obtain⟨xs,hm,hx⟩:=Option.map_eq_some_iff.1 h
   have hxs:xs.map (·.1)=zs.map fun z=>(DataW.lit (.string z):DataW H):=by
    have:=congrArg Prod.fst hx
    simpa using this
   have hxl:xs.length=n:=by simpa using Lib.mapM_length hm
   have hzl:zs.length=n:=by
    have:=congrArg List.length hxs
    simp at this
    omega
   apply List.ext_getElem?
   intro i
   by_cases hi:i<n
   ·obtain⟨b,hb,hf⟩:=Lib.mapM_at hm i i (by simp[hi])
    obtain⟨z,hc,rfl,_⟩:=DataW.trod_string he hf
    have h1:cs[i]? =some (.string z):=by
     have:=congrArg (·[0]?) hc
     simpa [List.getElem?_take,List.getElem?_drop] using this
    have h2:(xs.map (·.1))[i]? =some (DataW.lit (.string z.data.toList):DataW H):=by simp[hb]
    rw[hxs]at h2
    simp only[List.getElem?_map,Option.map_eq_some_iff,DataW.lit.injEq,Lit.string.injEq]at h2
    obtain⟨z',hz',rfl⟩:=h2
    simp[h1,hz']
   ·rw[List.getElem?_eq_none (by omega),List.getElem?_eq_none (by simp;omega)]
  ·cases h
def signZ:List jU:=[[],[],[126],[38],[124],[61,62],[60,61,62],[33],[63],[36,116,114,117,101],[36,102,97,108,115,101]]
theorem sg_global:Tryz.prog.globalNamed "assize/syntax.signs" = some 0:=by kernel_rfl
theorem sg_type:(Tryz.prog.globals[0]?).map (·.type)=some 107:=by kernel_rfl
theorem sg_row:((begin Tryz.prog (fun _ _=>0) default).world.heap[0]?).bind Obj.row? =some (Array.replicate 11 (.string ⟨#[]⟩),107):=by kernel_rfl
theorem globals4:Tryz.prog.globals.size=4:=by kernel_rfl
theorem sg_of {W:World}(hL:laidMetH Tryz.prog Rows.syntaxReadsUptoRow.laid W)(hS:W.ShapedOpen Tryz.prog):Sg W:=by
 rw[Go.MakeChecks.laidMetH_plain _ _ _ (by kernel_rfl)]at hL
 obtain⟨cs0,h0,-,-⟩:=hS.1 0 _ _ (by rw[globals4];decide) sg_row
 obtain⟨g,t,cs,fuel,p,hg,ht,hv,hd⟩:=Lib.laidMet.reads hL (n := "assize/syntax.signs") (d:=Rows.laid_assize_syntax_signs) (.tail _ (.tail _ (.tail _ (.head _))))
 obtain rfl:=Option.some.inj (sg_global.symm.trans hg)
 obtain rfl:=Option.some.inj (sg_type.symm.trans ht)
 have hcs:=strs_of_tab (zs:=signZ) Tryz.underlying107 Tryz.underlying9 (by kernel_rfl) (by kernel_rfl) (show DataW.trod (fun _=>()) Tryz.prog W 0 (fun _=>true) false fuel 107 cs.toList=some (.agg (signZ.map fun z=>.lit (.string z)),p) from hd)
 unfold World.var? at hv
 rw[sg_global]at hv
 simp only[Option.bind_some,h0,Option.some.injEq]at hv
 subst hv
 unfold Sg
 rw[h0]
 have:cs0=sgL.toArray:=by
  apply Array.toList_inj.1
  rw[hcs]
  rfl
 rw[this]
end
