import Derived.Test.YthkinkcpfcpehaaGreatDoorZS
import Derived.Test.YthkinkcpfcpehaaGreatDoorFW
namespace Go.Proofs.YthkinkcpfcpehaaGreatDoor
set_option maxRecDepth 100000
set_option maxHeartbeats 8000000
section
open Go.RowKit
open Lx (rkp rbk rsl)
theorem y37 (f:Fm):1<=f.size:=by
 refine Fm.ind (P:=fun f=>1<=f.size) (fun f ih=>?_) f
 have hk:∀l:List Fm,(∀a∈l,1<=a.size)->0<=Fm.size.sizes l:=by
  intro l
  induction l with
  | nil=>intro _;rw[Fm.size.sizes];decide
  | cons a r ihr=>intro h;rw[Fm.size.sizes];have h1:=h a (by simp);have h2:=ihr (fun b hb=>h b (by simp[hb]));omega
 have h1:=hk f.kids ih
 have h2:=y20 f.l
 have h3:=y20 f.r
 cases f with
 | mk k n l r ks =>
  have h1':0<=Fm.size.sizes ks:=h1
  have h2':0<=l.size:=h2
  have h3':0<=r.size:=h3
  show 1<=Fm.size (.mk k n l r ks)
  rw[Fm.size]
  split<;>omega
theorem y12:∀l:List Fm,0<=Fm.size.sizes l
 | []=>by rw[Fm.size.sizes];decide
 | a::r=>by rw[Fm.size.sizes];have:=y12 r;have:=y37 a;omega
theorem infoF:(Tryz.prog.info? 27).map (fun i=>(i.zero,i.size,i.bytes))=some (some (.agg #[.int .i64 0,.string ⟨#[]⟩,.int .i64 0,.string ⟨#[]⟩,.slice none 0 0,.int .i64 0,.string ⟨#[]⟩,.slice none 0 0,.slice none 0 0]),9,144):=by kernel_rfl
abbrev zero9:List Value:=[.int .i64 0,.string ⟨#[]⟩,.int .i64 0,.string ⟨#[]⟩,.slice none 0 0,.int .i64 0,.string ⟨#[]⟩,.slice none 0 0,.slice none 0 0]
theorem lit9 (X:World)(n:Nat)(hn:n=X.heap.size):∀j x,zero9[j]? =some x->(X.alloc (.cells #[.int .i64 0,.string ⟨#[]⟩,.int .i64 0,.string ⟨#[]⟩,.slice none 0 0,.int .i64 0,.string ⟨#[]⟩,.slice none 0 0,.slice none 0 0] 27)).cell? ((⟨n,0,none⟩:Addr).add j)=some x:=by
 intro j x hj
 subst hn
 have hz:=(jH X (.cells #[.int .i64 0,.string ⟨#[]⟩,.int .i64 0,.string ⟨#[]⟩,.slice none 0 0,.int .i64 0,.string ⟨#[]⟩,.slice none 0 0,.slice none 0 0] 27)).1
 have:=csR (vs:=zero9) (i:=j) hz hj
 have e:((⟨X.heap.size,0,none⟩:Addr).add j)=⟨X.heap.size,j,none⟩:=by simp[Addr.add];intro h;simp[h]
 rw[e]
 exact this
theorem one9:∀u∈zero9,u.oneCell'=true:=by decide
theorem CmI.drew {w:World}{R:Nat}{k:Int}{nm:ByteArray}{D:List Pc}{i:Nat}{v:Value}{b:Bool}{x y:Int}{W:World}(h:CmI w R k nm D i v b x y W):CmI w R k nm D i v b x y W.drew:=⟨h.box,h.row.drew,h.bel.trans ((Below.refl _ W).drew.mono h.bel.size),h.wR⟩
def CutQ (Q:Exit->Act->World->Prop)(A:Nat->Nat->Act)(I:Nat->Nat->World->Prop):Exit->Act->World->Prop
 | .normal,a',w'=>∃g c,a'=A g c∧I g c w'
 | e,a',w'=>Q e a' w'
theorem CutQ.imp {Q:Exit->Act->World->Prop}{A:Nat->Nat->Act}{I:Nat->Nat->World->Prop}(hQ:∀g c w',I g c w'->Q .normal (A g c) w'):∀(e:Exit)(a:Act)(w:World),CutQ Q A I e a w->Q e a w:=fun e a w h=>by
 cases e<;>first|exact h|(obtain⟨g,c,rfl,hI⟩:=h;exact hQ g c w hI)
theorem wp_cut {P:Program}{id:Nat}{ops:Array Oper}{b:Bool}{Q:Exit->Act->World->Prop}{a:Act}{w:World}(A:Nat->Nat->Act)(I:Nat->Nat->World->Prop)(h:(Code.region id ops b).wp P (CutQ Q A I) a w)(hQ:∀g c w',I g c w'->Q .normal (A g c) w'):(Code.region id ops b).wp P Q a w:=Code.wp_mono (CutQ.imp hQ) h
theorem CutQ.normal {Q:Exit->Act->World->Prop}{A:Nat->Nat->Act}{I:Nat->Nat->World->Prop}{a:Act}{w:World}(g c:Nat)(ha:a=A g c)(h:I g c w):CutQ Q A I .normal a w:=⟨g,c,ha,h⟩
structure Q9 (W:World) (x:Pc):Prop where
 c:(W.cell? ⟨x.p,0,none⟩=some (.int .i64 x.f.k)∧W.cell? ⟨x.p,1,none⟩=some (.string x.f.nm)∧W.cell? ⟨x.p,2,none⟩=some (.int .i64 x.f.l.v)∧W.cell? ⟨x.p,3,none⟩=some (.string x.f.l.fn)∧W.cell? ⟨x.p,4,none⟩=some x.sl∧W.cell? ⟨x.p,5,none⟩=some (.int .i64 x.f.r.v)∧W.cell? ⟨x.p,6,none⟩=some (.string x.f.r.fn)∧W.cell? ⟨x.p,7,none⟩=some x.sr∧W.cell? ⟨x.p,8,none⟩=some x.sk)∧
  W.cell? ⟨x.p,9,none⟩=some (.bool x.f.wide)∧W.cell? ⟨x.p,10,none⟩=some (.int .i64 x.f.size)∧W.cell? ⟨x.p,11,none⟩=some (.int .i64 x.f.depth)
theorem Q9.of {W:World}{x:Pc}(h:W.heap[x.p]? =some (.cells (pcells x.f x.sl x.sr x.sk) 59 (0,0))):Q9 W x:=by
 refine⟨⟨?_,?_,?_,?_,?_,?_,?_,?_,?_⟩,?_,?_,?_⟩<;>exact csR (vs:=[_,_,_,_,_,_,_,_,_,_,_,_]) h rfl
structure CmN (D:List Pc) (i:Nat) (b:Bool) (x y:Int):Prop where
 wd:(b||Fm.wide.wides ((D.drop i).map Pc.f))=Fm.wide.wides (D.map Pc.f)
 sz:x+Fm.size.sizes ((D.drop i).map Pc.f)=1+Fm.size.sizes (D.map Pc.f)
 x1:1<=x
 dp:max y (1+Fm.depth.depths ((D.drop i).map Pc.f))=1+Fm.depth.depths (D.map Pc.f)
 y1:1<=y
theorem CmN.start (D:List Pc):CmN D 0 false 1 1:=⟨by simp,by simp,by decide,by rw[List.drop_zero];have:=y0w (D.map Pc.f);omega,by decide⟩
theorem CmN.step {D:List Pc}{i:Nat}{b:Bool}{x y:Int}(h:CmN D i b x y)(hi:i<D.length):CmN D (i+1) (b||D[i].f.wide) (x+D[i].f.size) (max y (D[i].f.depth+1)):=by
 have e:D.drop i=D[i]::D.drop (i+1):=List.drop_eq_getElem_cons hi
 obtain⟨h1,h2,h3,h4,h5⟩:=h
 rw[e,List.map_cons,Fm.wide.wides]at h1
 rw[e,List.map_cons,Fm.size.sizes]at h2
 rw[e,List.map_cons,Fm.depth.depths]at h4
 have:=y37 D[i].f
 exact⟨by rw[<-h1,Bool.or_assoc],by omega,by omega,by omega,by omega⟩
theorem CmN.bounds {D:List Pc}{i:Nat}{b:Bool}{x y:Int}(h:CmN D i b x y)(hi:i<D.length):x+D[i].f.size<=1+Fm.size.sizes (D.map Pc.f)∧D[i].f.depth+1<=1+Fm.depth.depths (D.map Pc.f)∧1<=D[i].f.size∧1<=D[i].f.depth:=by
 have h':=h.step hi
 have h2:=h'.sz
 have h4:=h'.dp
 have:=y12 ((D.drop (i+1)).map Pc.f)
 exact⟨by omega,by omega,y37 _,y22 _⟩
theorem y3z {P:Nat->Prop}{w:World}{k:Int}{nm:ByteArray}{D:List Pc}{a:Option Addr}{c:Nat}(hk:k≠1)(hn2:D.length<=2)(hc:D.length<=c)(hcm:c<=maxLen)(hrow:∀i (h:i<D.length),∃g,a=some ⟨g,0,none⟩∧w.cell? ⟨g,i,none⟩=some (.pointer (some ⟨D[i].p,0,none⟩)))
  (hD:∀x∈D,w.heap[x.p]? =some (.cells (pcells x.f x.sl x.sr x.sk) 59 (0,0))∧FmP P w x.f x.sl x.sr x.sk) (hs:1+Fm.size.sizes (D.map Pc.f)<=4611686018427387904) (hd:1+Fm.depth.depths (D.map Pc.f)<=4611686018427387904) :
  Calls Tryz.prog 30 #[.int .i64 k,.string nm,.slice a D.length c] w fun e w'=>e=.returned (.pointer (some ⟨w.heap.size,0,none⟩))∧PcP (fun j=>P j∨w.heap.size<=j) w' w.heap.size (.mk k nm t0 t0 (D.map Pc.f))∧Below w.heap.size w w':=by
 have HD:=hidR hD
 have HRW:=hidR hrow
 have HB:=hidR (And.intro hs hd)
 have h0:=hidR (And.intro (CmI.start w k nm D) (CmN.start D))
 obtain⟨W0,hW0⟩:∃X,w.alloc (.cells #[.int .i64 k,.string nm,.int .i64 0,.string ⟨#[]⟩,.slice none 0 0,.int .i64 0,.string ⟨#[]⟩,.slice none 0 0,.slice none 0 0,.bool false,.int .i64 1,.int .i64 1] 59)=X:=⟨_,rfl⟩
 obtain⟨R,hR⟩:∃R,w.heap.size=R:=⟨_,rfl⟩
 rw[hW0,hR]at h0
 rw[hR]
 obtain⟨n,hn⟩:∃n,D.length=n:=⟨_,rfl⟩
 rw[hn]at hc hn2 ⊢
 have hcm':c<=9223372036854775807:=by unfold maxLen at hcm;omega
 clear hD hrow hs hd hcm
 go_enter Tryz.func30,Tryz.ntmps30
 go_upto_region 2 with fail
 try simp only[hR]
 try rw[hW0]
 clear hW0
 go_wp2
 go_loopw [16] (fun vi wr=>∃i:Nat,vi=.int .i64 i∧i<=n∧Hid (∃v b x y,CmI w R k nm D i v b x y wr∧CmN D i b x y)) (fun vi _=>n-(intOf vi).toNat)
 case atStart=>exact⟨0,rfl,Nat.zero_le _,_,_,_,_,h0.out.1,h0.out.2⟩
 case round =>
  obtain⟨i,rfl,hi,HI⟩:=hrel
  by_cases hlt:i<n
  ·have hil:i<D.length:=by omega
   obtain⟨v,b,x,y,hI,hN⟩:=HI.out
   obtain⟨va,vc,rfl⟩:=rsl hI.row
   obtain⟨g,rfl,hcell⟩:=HRW.out i hil
   have hcellr:wr.cell? ⟨g,i,none⟩=some (.pointer (some ⟨D[i].p,0,none⟩)):=kc hI.bel (World.block_lt_of_cell? w _ hcell) hcell
   have hq:=HD.out D[i] (List.getElem_mem hil)
   have hql:=(jG hq.1).1
   have hqw:∀X,Below w.heap.size w X->Q9 X D[i]:=fun X hX=>Q9.of ((hX.block _ hql).trans hq.1)
   obtain⟨sa,sc,hsl,_,_⟩:=hq.2.l.slice'
   obtain⟨ra,rc,hsr,_,_⟩:=hq.2.r.slice'
   obtain⟨ka,kc',hsk,_,_⟩:=hq.2.k.slice
   have hIs:=hI.bel.size
   obtain⟨⟨r8,r9,r10,r11⟩,f8,f9,f10,f11⟩:=hI.facts
   have hRl:=World.block_lt_of_cell? wr _ r8
   have hpR:D[i].p≠R:=by omega
   have HROW:Hid (∀Y:World,Below wr.heap.size wr Y->Y.ownsRow (R+1) 27 9 (.slice va i vc) i (flP (D.take i))):=fun Y hY=>Lx.y05 hI.row hY
   have hsz4:R+1<=wr.heap.size:=hRl
   have HPU:Hid (∀(w2 w6:World) (g6 c6:Nat),Below wr.heap.size wr w2->w6.ownsRow (R+1) 27 9 (.slice (some ⟨g6,0,none⟩) (i+1) c6) (i+1) (flP (D.take i)++zero9)->w2.grownBy w6 (Value.slice va i vc).ownBlock ->
     Q9 w6 D[i]∧(w6.cell? ⟨R,8,none⟩=some (.slice va i vc)∧w6.frozen? ⟨R,8,none⟩=false)∧
     ((w6.cell? ⟨g6,i*9,none⟩=some (.int .i64 0)∧w6.cell? ⟨g6,i*9+1,none⟩=some (.string ⟨#[]⟩)∧w6.cell? ⟨g6,i*9+2,none⟩=some (.int .i64 0)∧w6.cell? ⟨g6,i*9+3,none⟩=some (.string ⟨#[]⟩)∧w6.cell? ⟨g6,i*9+4,none⟩=some (.slice none 0 0)∧w6.cell? ⟨g6,i*9+5,none⟩=some (.int .i64 0)∧w6.cell? ⟨g6,i*9+6,none⟩=some (.string ⟨#[]⟩)∧w6.cell? ⟨g6,i*9+7,none⟩=some (.slice none 0 0)∧w6.cell? ⟨g6,i*9+8,none⟩=some (.slice none 0 0))∧
      (w6.frozen? ⟨g6,i*9,none⟩=false∧w6.frozen? ⟨g6,i*9+1,none⟩=false∧w6.frozen? ⟨g6,i*9+2,none⟩=false∧w6.frozen? ⟨g6,i*9+3,none⟩=false∧w6.frozen? ⟨g6,i*9+4,none⟩=false∧w6.frozen? ⟨g6,i*9+5,none⟩=false∧w6.frozen? ⟨g6,i*9+6,none⟩=false∧w6.frozen? ⟨g6,i*9+7,none⟩=false∧w6.frozen? ⟨g6,i*9+8,none⟩=false))∧g6≠R∧g6≠D[i].p∧
     (∀W7,(W7=(put9 w6 g6 (i*9) (.int .i64 D[i].f.k) (.string D[i].f.nm) (.int .i64 D[i].f.l.v) (.string D[i].f.l.fn) D[i].sl (.int .i64 D[i].f.r.v) (.string D[i].f.r.fn) D[i].sr D[i].sk).setCell ⟨R,8,none⟩ (.slice (some ⟨g6,0,none⟩) (i+1) c6)∨
       W7=put9 (w6.setCell ⟨R,8,none⟩ (.slice (some ⟨g6,0,none⟩) (i+1) c6)) g6 (i*9) (.int .i64 D[i].f.k) (.string D[i].f.nm) (.int .i64 D[i].f.l.v) (.string D[i].f.l.fn) D[i].sl (.int .i64 D[i].f.r.v) (.string D[i].f.r.fn) D[i].sr D[i].sk) ->
      CmI w R k nm D (i+1) (.slice (some ⟨g6,0,none⟩) (i+1) c6) b x y W7)):=by
    intro w2 w6 g6 c6 h1 h2 h3
    have hg6:R+1<=g6:=(rbk h2 rfl).1
    have hlen:(flP (D.take i)).length=i*9:=by rw[flP_len,List.length_take];congr 1;omega
    have hvn:∀j,j<=R->(Value.slice va i vc).ownBlock≠some j:=fun j hj e=>by have:=(rbk hI.row e).1;omega
    have old:∀j,j<=R->j<wr.heap.size->w6.heap[j]? =wr.heap[j]?:=fun j hj hl=>(h3.block j (jI hl h1.size) (fun e=>hvn j hj e.symm)).trans (h1.block j hl)
    have hz:∀j,j<9->(flP (D.take i)++zero9)[i*9+j]? =zero9[j]?:=fun j hj=>by rw[List.getElem?_append_right (by omega),hlen];congr 1;omega
    refine⟨Q9.of ((old _ (by omega) (by omega)).trans ((hI.bel.block _ hql).trans hq.1)),⟨?_,frc ((old R (jJ _) hRl).trans hI.box)⟩,⟨⟨?_,?_,?_,?_,?_,?_,?_,?_,?_⟩,?_,?_,?_,?_,?_,?_,?_,?_,?_⟩,by omega,by omega,fun W7 h7=>CmI.push hI hil h1 h2 h3 W7 h7⟩
    ·exact csR (vs:=[_,_,_,_,_,_,_,_,_,_,_,_]) ((old R (jJ _) hRl).trans hI.box) rfl
    ·exact (y08 h2 (hz 0 (by omega))).1
    ·exact (y08 h2 (hz 1 (by omega))).1
    ·exact (y08 h2 (hz 2 (by omega))).1
    ·exact (y08 h2 (hz 3 (by omega))).1
    ·exact (y08 h2 (hz 4 (by omega))).1
    ·exact (y08 h2 (hz 5 (by omega))).1
    ·exact (y08 h2 (hz 6 (by omega))).1
    ·exact (y08 h2 (hz 7 (by omega))).1
    ·exact (y08 h2 (hz 8 (by omega))).1
    ·exact (y08 h2 (hz 0 (by omega))).2
    ·exact (y08 h2 (hz 1 (by omega))).2
    ·exact (y08 h2 (hz 2 (by omega))).2
    ·exact (y08 h2 (hz 3 (by omega))).2
    ·exact (y08 h2 (hz 4 (by omega))).2
    ·exact (y08 h2 (hz 5 (by omega))).2
    ·exact (y08 h2 (hz 6 (by omega))).2
    ·exact (y08 h2 (hz 7 (by omega))).2
    ·exact (y08 h2 (hz 8 (by omega))).2
   have HII:=hidR (And.intro hqw (And.intro (hN.step hil) (And.intro (hN.bounds hil) (And.intro hN.x1 hN.y1))))
   obtain⟨⟨q0,q1,q2,q3,q4,q5,q6,q7,q8⟩,-⟩:=hqw wr hI.bel
   have hall:∀(o:Obj),(wr.alloc o).cell? ⟨R,8,none⟩=some (.slice va i vc):=fun o=>kc (bbx wr o) hRl r8
   have hqa:∀(o:Obj),Q9 (wr.alloc o) D[i]:=fun o=>hqw _ (hI.bel.trans ((bbx wr o).mono hIs))
   generalize D[i]=d at *
   obtain⟨dp,df,dsl,dsr,dsk⟩:=d
   simp only at *
   subst hsl hsr hsk
   have a0:=fun o=>(hqa o).c.1.1
   have a1:=fun o=>(hqa o).c.1.2.1
   have a2:=fun o=>(hqa o).c.1.2.2.1
   have a3:=fun o=>(hqa o).c.1.2.2.2.1
   have a4:=fun o=>(hqa o).c.1.2.2.2.2.1
   have a5:=fun o=>(hqa o).c.1.2.2.2.2.2.1
   have a6:=fun o=>(hqa o).c.1.2.2.2.2.2.2.1
   have a7:=fun o=>(hqa o).c.1.2.2.2.2.2.2.2.1
   have a8:=fun o=>(hqa o).c.1.2.2.2.2.2.2.2.2
   simp only at a0 a1 a2 a3 a4 a5 a6 a7 a8
   clear hcell hq hI hN hqw hqa HI HRW hql r9 r10 r11 f9 f10 f11
   obtain⟨i0,hi0,hz0,hz1,hz2⟩:=info_parts infoF
   have hi1:(i:Int)<(i:Int)+1:=by omega
   go_upto_region 5 with fail
   apply wp_cut (I:=fun g6 c6 W7=>CmI w R k nm D (i+1) (.slice (some ⟨g6,0,none⟩) (i+1) c6) b x y W7)
   case h =>
    go_region_law (refine sao _ rfl (.tmp 22) (.tmp 28) 25 rfl (R+1) 27 i0 _ 9 144 Tryz.underlying25 hi0 hz0 hz1 hz2 rfl (by decide) (.slice va i vc) i (flP (D.take i)) rfl (HROW.out _ (y2c wr _)) ⟨wr.heap.size,0,none⟩ 1 1 zero9 rfl rfl (lit9 wr _ rfl) one9 (by unfold maxLen;omega) (by omega) (by simp;omega) ?_;intro v' w6 hrow6 hg6 hb6;obtain⟨g6,c6,rfl⟩:=Go.ownsRow_succ hrow6;obtain⟨⟨⟨b0,b1,b2,b3,b4,b5,b6,b7,b8⟩,-⟩,⟨e8,e8f⟩,⟨⟨x0,x1,x2,x3,x4,x5,x6,x7,x8⟩,y0,y1,y2,y3,y4,y5,y6,y7,y8⟩,hgR,hgp,HC⟩:=HPU.out _ w6 _ _ (y2c wr _) hrow6 hg6)
    all_goals (
     refine CutQ.normal g6 c6 rfl ?_
     first
      | (obtain ⟨W7, hW7⟩ : ∃ X, (put9 w6 g6 (i * 9) (.int .i64 df.k) (.string df.nm) (.int .i64 df.l.v) (.string df.l.fn) (.slice sa df.l.args.length sc) (.int .i64 df.r.v) (.string df.r.fn) (.slice ra df.r.args.length rc) (.slice ka df.kids.length kc')).setCell ⟨R, 8, none⟩ (.slice (some ⟨g6, 0, none⟩) (i + 1) c6) = X := ⟨_, rfl⟩
         have hC:=HC W7 (.inl hW7.symm)
         unfold put9 at hW7
         rw[hW7]
         exact hC)
      | (obtain ⟨W7, hW7⟩ : ∃ X, put9 (w6.setCell ⟨R, 8, none⟩ (.slice (some ⟨g6, 0, none⟩) (i + 1) c6)) g6 (i * 9) (.int .i64 df.k) (.string df.nm) (.int .i64 df.l.v) (.string df.l.fn) (.slice sa df.l.args.length sc) (.int .i64 df.r.v) (.string df.r.fn) (.slice ra df.r.args.length rc) (.slice ka df.kids.length kc') = X := ⟨_, rfl⟩
         have hC:=HC W7 (.inr hW7.symm)
         unfold put9 at hW7
         rw[hW7]
         exact hC))
   case hQ =>
   intro g6 c6 W7 hC
   have hbd:=HII.out.2.2
   have hB:=HB.out
   clear HPU HROW a0 a1 a2 a3 a4 a5 a6 a7 a8 q0 q1 q2 q3 q4 q5 q6 q7 q8 r8 f8 hall hi0 hz0 hz1 hz2
   obtain⟨⟨-,r9,r10,r11⟩,-,f9,f10,f11⟩:=hC.facts
   obtain⟨-,k9,k10,k11⟩:=HII.out.1 W7 hC.bel
   simp only at k9 k10 k11
   cases b
   case false =>
    go_upto_region 7 with fail
    obtain⟨W8,hW8⟩:∃X,W7.setCell ⟨R,9,none⟩ (.bool df.wide)=X:=⟨_,rfl⟩
    have hC8:=hC.set9 df.wide
    rw[hW8]at hC8 ⊢
    obtain⟨⟨-,-,s10,s11⟩,-,-,g10,g11⟩:=hC8.facts
    obtain⟨-,-,l10,l11⟩:=HII.out.1 W8 hC8.bel
    simp only at l10 l11
    have HC8:=hidR hC8
    clear hC8 hW8 hC r9 r10 r11 f9 f10 f11 k9 k10 k11
    go_region
    all_goals (
     obtain⟨W9,hW9⟩:∃X,(W8.setCell ⟨R,10,none⟩ (.int .i64 (x+df.size))).drew=X:=⟨_,rfl⟩
     have hC9:=(HC8.out.set10 (x+df.size)).drew
     rw[hW9]at hC9 ⊢
     obtain⟨⟨-,-,-,s11⟩,-,-,-,g11⟩:=hC9.facts
     obtain⟨-,-,-,l11⟩:=HII.out.1 W9 hC9.bel
     simp only at l11
     have HC9:=hidR hC9
     clear hC9 hW9 HC8
     go_upto_region 8 with fail
     go_region
     all_goals (
      obtain⟨W10,hW10⟩:∃X,(W9.setCell ⟨R,11,none⟩ (.int .i64 (max y (df.depth+1)))).drew=X:=⟨_,rfl⟩
      have HN:Hid (∃v b x y,CmI w R k nm D (i+1) v b x y W10∧CmN D (i+1) b x y):=by rw[<-hW10];exact⟨_,_,_,_,(HC9.out.set11 _).drew,HII.out.2.1⟩
      rw[hW10]
      clear hW10 HC9 s11 g11 l11 hbd hB
      go_wp2
      go_roundw
      case rel=>exact⟨i+1,by go_num,by omega,HN.out⟩
      case measure=>simp[intOf];omega))
   case true =>
    go_upto_region 7 with fail
    obtain⟨W8,hW8⟩:∃X,W7.setCell ⟨R,9,none⟩ (.bool true)=X:=⟨_,rfl⟩
    have hC8:=hC.set9 true
    rw[hW8]at hC8 ⊢
    obtain⟨⟨-,-,s10,s11⟩,-,-,g10,g11⟩:=hC8.facts
    obtain⟨-,-,l10,l11⟩:=HII.out.1 W8 hC8.bel
    simp only at l10 l11
    have HC8:=hidR hC8
    clear hC8 hW8 hC r9 r10 r11 f9 f10 f11 k9 k10 k11
    go_region
    all_goals (
     obtain⟨W9,hW9⟩:∃X,(W8.setCell ⟨R,10,none⟩ (.int .i64 (x+df.size))).drew=X:=⟨_,rfl⟩
     have hC9:=(HC8.out.set10 (x+df.size)).drew
     rw[hW9]at hC9 ⊢
     obtain⟨⟨-,-,-,s11⟩,-,-,-,g11⟩:=hC9.facts
     obtain⟨-,-,-,l11⟩:=HII.out.1 W9 hC9.bel
     simp only at l11
     have HC9:=hidR hC9
     clear hC9 hW9 HC8
     go_upto_region 8 with fail
     go_region
     all_goals (
      obtain⟨W10,hW10⟩:∃X,(W9.setCell ⟨R,11,none⟩ (.int .i64 (max y (df.depth+1)))).drew=X:=⟨_,rfl⟩
      have HN:Hid (∃v b x y,CmI w R k nm D (i+1) v b x y W10∧CmN D (i+1) b x y):=by rw[<-hW10];exact⟨_,_,_,_,(HC9.out.set11 _).drew,HII.out.2.1⟩
      rw[hW10]
      clear hW10 HC9 s11 g11 l11 hbd hB
      go_wp2
      go_roundw
      case rel=>exact⟨i+1,by go_num,by omega,HN.out⟩
      case measure=>simp[intOf];omega))
  ·have hin:i=n:=by omega
   subst hin
   go_wp2
   go_ret
   obtain⟨v,b,x,y,hI,hN⟩:=HI.out
   obtain⟨n1,n2,n3,n4,n5⟩:=hN
   have hdn:(D.drop i).map Pc.f=[]:=by rw[<-hn,List.drop_length];rfl
   rw[hdn]at n1 n2 n4
   have hR':=rbk hI.row (g:=0)
   have hrow:wr.ownsRow (R+1) 27 9 v D.length (flP D):=by
    have:=hI.row
    rw[<-hn,List.take_length]at this
    exact this
   have hkids:=y3u (P:=fun j=>P j∨R<=j) hrow (fun g hg=>.inr (by have:=(rbk hI.row hg).1;omega)) (fun x hx=>((HD.out x hx).2).keep hI.bel.size (fun j hj hl=>⟨.inl hj,hI.bel.block j hl⟩))
   have hbox:=hI.box
   have e1:(Fm.mk k nm t0 t0 (D.map Pc.f)).wide=b:=by
    rw[Fm.wide,<-n1,Fm.wide.wides]
    simp[wideT,wideT.wides]
   have e2:(Fm.mk k nm t0 t0 (D.map Pc.f)).size=x:=by
    have:(Fm.mk k nm t0 t0 (D.map Pc.f)).size=1+Fm.size.sizes (D.map Pc.f):=y2z (f:=.mk k nm t0 t0 (D.map Pc.f)) hk
    rw[Fm.size.sizes]at n2
    omega
   have e3:(Fm.mk k nm t0 t0 (D.map Pc.f)).depth=y:=by
    have:(Fm.mk k nm t0 t0 (D.map Pc.f)).depth=1+Fm.depth.depths (D.map Pc.f):=y3m (f:=.mk k nm t0 t0 (D.map Pc.f)) hk
    rw[Fm.depth.depths]at n4
    omega
   refine⟨rfl,⟨⟨.slice none 0 0,.slice none 0 0,v,?_,ArgsP.nil _ _,ArgsP.nil _ _,hkids⟩,.inr (jJ _)⟩,by rw[<-hR];exact hI.bel⟩
   show wr.heap[R]? =some (.cells #[.int .i64 k,.string nm,.int .i64 0,.string ⟨#[]⟩,.slice none 0 0,.int .i64 0,.string ⟨#[]⟩,.slice none 0 0,v,.bool (Fm.mk k nm t0 t0 (D.map Pc.f)).wide,.int .i64 (Fm.mk k nm t0 t0 (D.map Pc.f)).size,.int .i64 (Fm.mk k nm t0 t0 (D.map Pc.f)).depth] 59 (0,0))
   rw[e1,e2,e3]
   exact hbox
end
section
open Go.RowKit
open Lx (Tk ofL)
theorem y3v:∀(l:List Int)(m c:Int),m<=c->(∀a∈l,a<=c)->l.foldl max m<=c
 | [],m,c,h,_=>h
 | a::r,m,c,h,ha=>by rw[List.foldl_cons];exact y3v r _ c (by have:=ha a (by simp);omega) (fun b hb=>ha b (by simp[hb]))
theorem depth_le {t:T}{c:Int}(h0:0<=c)(h:∀a∈t.args,a.depth<=c):t.depth<=c+1:=by
 rw[T.depth_eq]
 have:=y3v (t.args.map T.depth) 0 c h0 (fun a ha=>by obtain⟨b,hb,rfl⟩:=List.mem_map.1 ha;exact h b hb)
 omega
theorem dm_mem:∀(l:List Part)(m:Int),∀q∈l,(q.1.length:Int)+1<=l.foldl (fun m q=>max m ((q.1.length:Int)+1)) m
 | a::r,m,q,h=>by
  rw[List.foldl_cons]
  rcases List.mem_cons.1 h with rfl|h
  ·have:∀(l:List Part) (m:Int),m<=l.foldl (fun m q=>max m ((q.1.length:Int)+1)) m:=by
    intro l
    induction l with
    | nil=>intro m;exact Int.le_refl _
    | cons b s ih=>intro m;rw[List.foldl_cons];have:=ih (max m ((b.1.length:Int)+1));omega
   have:=this r (max m ((q.1.length:Int)+1))
   omega
  ·exact dm_mem r _ q h
theorem y30 {t:T}(h:t.depth<=1048577):Short t:=fun q hq=>by
 have h1:=dm_mem (t.parts []) 0 q hq
 have h2:=dm_parts t
 unfold dm at h2
 omega
theorem y1j (l:List T):0<=(l.map T.size).sum:=by
 induction l with
 | nil=>decide
 | cons a r ih=>rw[List.map_cons,List.sum_cons];have:=tsz a;omega
where tsz (t:T):0<=t.size:=by have:=y3d t [];omega
theorem sum_app (l m:List T):((l++m).map T.size).sum=(l.map T.size).sum+(m.map T.size).sum:=by simp
theorem y43 {bd:List jU}:∀(n:Nat)(b:Bool)(l:List Tk)(us:List T)(fr q:List Tk),pTerm bd n b l=some (.ok us fr q)->(us.map T.size).sum+q.length<=l.length∧∀t∈us,3*t.depth+q.length<=l.length+2
 | 0,_,_,_,_,_,h=>by cases h
 | n+1,false,l,us,fr,q,h=>by
  have one:∀(s:ByteArray) (r:List Tk),(([T.mk 0 s []]).map T.size).sum+(r.length:Int)<=r.length+1∧∀t∈[T.mk 0 s []],3*t.depth+r.length<=r.length+1+2:=by
   intro s r
   have e:(T.mk 0 s []).size=1:=by rw[T.size_eq];rfl
   have e2:(T.mk 0 s []).depth=1:=by rw[T.depth_eq];rfl
   refine⟨by simp[e];omega,fun t ht=>?_⟩
   simp at ht
   subst ht
   rw[e2];omega
  cases l with
  | nil=>simp[pTerm]at h
  | cons t r =>
   simp only[pTerm]at h
   by_cases h1:t.k=2
   ·simp only[h1,if_true,Option.some.injEq,Pr.ok.injEq]at h
    obtain⟨rfl,_,rfl⟩:=h
    have:=one (ofL t.t) r
    simpa using this
   ·rw[if_neg h1]at h
    by_cases h2:t.k=1
    ·rw[if_pos h2]at h
     by_cases h3:isM [40] r=true
     ·rw[if_pos h3]at h
      obtain⟨t1,r1,rfl,_,_⟩:=y03 h3
      simp only[List.tail_cons]at h
      cases hy:pTerm bd n true r1 with
      | none=>rw[hy]at h;cases h
      | some y =>
       rw[hy]at h
       cases y with
       | no q=>simp at h
       | ok vs fr1 q1 =>
        have hl:=y43 n true r1 vs fr1 q1 hy
        simp only at h
        by_cases h4:isM [41] q1=true
        ·rw[if_pos h4]at h
         obtain⟨t2,r2,rfl,_,_⟩:=y03 h4
         simp only[List.tail_cons,Option.some.injEq,Pr.ok.injEq]at h
         obtain⟨rfl,_,rfl⟩:=h
         simp only[jK]at hl ⊢
         have e:(T.mk 0 (ofL t.t) vs).size=1+(vs.map T.size).sum:=T.size_eq _
         have hs:=y1j vs
         refine⟨by simp[e];omega,fun u hu=>?_⟩
         simp at hu
         subst hu
         have hc:∀a∈(T.mk 0 (ofL t.t) vs).args,a.depth<=((r1.length:Int)+1-r2.length) / 3:=fun a ha=>by
          have:=hl.2 a ha
          omega
         have hd:=depth_le (t:=T.mk 0 (ofL t.t) vs) (c:=((r1.length:Int)+1-r2.length) / 3) (by omega) hc
         omega
        ·rw[if_neg h4]at h;simp at h
     ·rw[if_neg h3]at h
      simp only[Option.some.injEq,Pr.ok.injEq]at h
      obtain⟨rfl,_,rfl⟩:=h
      have:=one (ofL t.t) r
      simpa using this
    ·rw[if_neg h2]at h;simp at h
 | n+1,true,l,us,fr,q,h=>by
  rw[pTerm]at h
  cases hy:pTerm bd n false l with
  | none=>rw[hy]at h;cases h
  | some y =>
   rw[hy]at h
   cases y with
   | no q=>simp at h
   | ok vs fr1 q1 =>
    have hl:=y43 n false l vs fr1 q1 hy
    simp only at h
    by_cases h3:isM [44] q1=true
    ·rw[if_pos h3]at h
     obtain⟨t2,r2,rfl,_,_⟩:=y03 h3
     simp only[List.tail_cons]at h
     cases hz:pTerm bd n true r2 with
     | none=>rw[hz]at h;cases h
     | some z =>
      rw[hz]at h
      cases z with
      | no q=>simp at h
      | ok bs fr2 q2 =>
       have hl2:=y43 n true r2 bs fr2 q2 hz
       simp only[Option.some.injEq,Pr.ok.injEq]at h
       obtain⟨rfl,_,rfl⟩:=h
       simp only[jK]at hl
       have h1:=y1j vs
       have h2:=y1j bs
       refine⟨by rw[sum_app];omega,fun t ht=>?_⟩
       rcases List.mem_append.1 ht with ht|ht
       ·have:=hl.2 t ht;omega
       ·have:=hl2.2 t ht;omega
    ·rw[if_neg h3]at h
     simp only[Option.some.injEq,Pr.ok.injEq]at h
     obtain⟨rfl,_,rfl⟩:=h
     exact hl
theorem pVars_gr:∀(n:Nat)(l:List Tk)(vs:List jU)(fr q:List Tk),pVars n l=some (.ok vs fr q)->vs.length+q.length<=l.length
 | 0,_,_,_,_,h=>by cases h
 | n+1,[],_,_,_,h=>by simp[pVars]at h
 | n+1,t::r,vs,fr,q,h=>by
  rw[pVars]at h
  by_cases h1:t.k=2
  ·rw[if_pos h1]at h
   by_cases h2:isM [44] r=true
   ·rw[if_pos h2]at h
    obtain⟨t1,r1,rfl,_,_⟩:=y03 h2
    simp only[List.tail_cons]at h
    cases hy:pVars n r1 with
    | none=>rw[hy]at h;cases h
    | some y =>
     rw[hy]at h
     cases y with
     | no q=>simp at h
     | ok a b c =>
      have:=pVars_gr n r1 a b c hy
      simp only[Option.some.injEq,Pr.ok.injEq]at h
      obtain⟨rfl,_,rfl⟩:=h
      simp only[jK];omega
   ·rw[if_neg h2]at h
    simp only[Option.some.injEq,Pr.ok.injEq]at h
    obtain⟨rfl,_,rfl⟩:=h
    simp;omega
  ·rw[if_neg h1]at h;simp at h
theorem y47 (l r:T):(fEq l r).size=1+l.size+r.size:=by
 show Fm.size (.mk 1 e0 l r [])=_
 rw[Fm.size,if_pos rfl,Fm.size.sizes];omega
theorem y46 {k:Int}(hk:k≠1)(ks:List Fm):(fOp k ks).size=1+Fm.size.sizes ks:=y2z (f:=.mk k e0 t0 t0 ks) hk
theorem y3a {k:Int}(hk:k≠1)(f:Fm):∀vs:List jU,(wrapQ k vs f).size=vs.length+f.size
 | []=>by simp[wrapQ]
 | v::r=>by
  have ih:=y3a hk f r
  show (fQ k (ofL v) (wrapQ k r f)).size=_
  have:(fQ k (ofL v) (wrapQ k r f)).size=1+Fm.size.sizes [wrapQ k r f]:=y2z (f:=.mk k (ofL v) t0 t0 [wrapQ k r f]) hk
  rw[this,Fm.size.sizes,Fm.size.sizes,ih]
  simp only[jK];omega
theorem y4q {bd:List jU}{n:Nat}{l:List Tk}{us:List T}{fr q:List Tk}(h:pTerm bd n false l=some (.ok us fr q)):∃t,us=[t]∧t.size+q.length<=l.length∧3*t.depth+q.length<=l.length+2:=by
 have hg:=y43 n false l us fr q h
 have h1:∃t,us=[t]:=by
  cases n with
  | zero=>cases h
  | succ n =>
   cases l with
   | nil=>simp[pTerm]at h
   | cons t r =>
    simp only[pTerm]at h
    repeat' split at h
    all_goals simp at h
    all_goals exact⟨_,h.1.symm⟩
 obtain⟨t,rfl⟩:=h1
 refine⟨t,rfl,?_,hg.2 t (by simp)⟩
 have:=hg.1
 simpa using this
theorem pAtom_gr {bd:List jU}{n:Nat}{l:List Tk}{f:Fm}{fr q:List Tk}(h:pAtom bd n l=some (.ok f fr q)):f.size+3*q.length<=3*l.length:=by
 unfold pAtom at h
 cases hy:pTerm bd n false l with
 | none=>rw[hy]at h;cases h
 | some y =>
  rw[hy]at h
  cases y with
  | no q=>simp at h
  | ok us fr1 q1 =>
   have hl:=y14 n false l _ hy
   obtain⟨t,rfl,ht,_⟩:=y4q hy
   simp only at h hl
   have key:∀m,isM m q1=true->∀{g:List T->Fm},(∀b,(g [b]).size<=2+t.size+b.size)->(match pTerm bd n false q1.tail with|none=>none|some (.no q')=>some (.no q')|some (.ok bs fr' q')=>some (.ok (g bs) (fr1++fr') q'):Option (Pr Fm))=some (.ok f fr q)->f.size+3*q.length<=3*l.length:=by
    intro m hm g hgs hx
    obtain⟨t1,r1,rfl,_,_⟩:=y03 hm
    simp only[List.tail_cons]at hx
    cases hz:pTerm bd n false r1 with
    | none=>rw[hz]at hx;cases hx
    | some z =>
     rw[hz]at hx
     cases z with
     | no q'=>simp at hx
     | ok bs fr' q' =>
      obtain⟨b,rfl,hb,_⟩:=y4q hz
      simp only[Option.some.injEq,Pr.ok.injEq]at hx
      obtain⟨rfl,_,rfl⟩:=hx
      have:=hgs b
      simp only[jK]at ht
      have h0:=y1j.tsz t
      have h1:=y1j.tsz b
      have hl2:=y14 n false r1 _ hz
      simp only at hl2
      omega
   by_cases h1:isM [61] q1=true
   ·rw[if_pos h1]at h
    exact key _ h1 (g:=fun bs=>fEq t (bs.headD t0)) (fun b=>by show (fEq t b).size<=_;rw[y47];omega) h
   ·rw[if_neg h1]at h
    by_cases h2:isM [33,61] q1=true
    ·rw[if_pos h2]at h
     exact key _ h2 (g:=fun bs=>fOp 2 [fEq t (bs.headD t0)]) (fun b=>by show (fOp 2 [fEq t b]).size<=_;rw[y46 (by decide),Fm.size.sizes,Fm.size.sizes,y47];omega) h
    ·rw[if_neg h2]at h
     by_cases h3:isK 1 l=true
     ·rw[if_pos h3]at h
      simp only[Option.some.injEq,Pr.ok.injEq]at h
      obtain⟨rfl,_,rfl⟩:=h
      have e:(fPred t).size=1+t.size+1:=by
       show Fm.size (.mk 1 e0 (.mk t.v (⟨#[64]⟩++t.fn) t.args) trueT [])=_
       rw[Fm.size,if_pos rfl,Fm.size.sizes,T.size_eq (.mk _ _ _),T.size_eq t,T.size_eq trueT]
       show 1+(1+(t.args.map T.size).sum+(1+0))+0=_
       omega
      show (fPred t).size+_<=_
      rw[e]
      omega
     ·rw[if_neg h3]at h;simp at h
theorem y4h (f:Fm):0<=f.size:=by
 refine Fm.ind (P:=fun f=>0<=f.size) (fun f ih=>?_) f
 have hk:∀l:List Fm,(∀a∈l,0<=a.size)->0<=Fm.size.sizes l:=by
  intro l
  induction l with
  | nil=>intro _;rw[Fm.size.sizes];decide
  | cons a r ihr=>intro h;rw[Fm.size.sizes];have h1:=h a (by simp);have h2:=ihr (fun b hb=>h b (by simp[hb]));omega
 have h1:=hk f.kids ih
 have h2:=y1j.tsz f.l
 have h3:=y1j.tsz f.r
 cases f with
 | mk k n l r ks =>
  have h1':0<=Fm.size.sizes ks:=h1
  have h2':0<=l.size:=h2
  have h3':0<=r.size:=h3
  show 0<=Fm.size (.mk k n l r ks)
  rw[Fm.size]
  split<;>omega
theorem size_two {k:Int}(hk:k≠1)(f g:Fm):(fOp k [f,g]).size=1+f.size+g.size:=by rw[y46 hk,Fm.size.sizes,Fm.size.sizes,Fm.size.sizes];omega
theorem size_one {k:Int}(hk:k≠1)(f:Fm):(fOp k [f]).size=1+f.size:=by rw[y46 hk,Fm.size.sizes,Fm.size.sizes];omega
theorem size_nil {k:Int}(hk:k≠1):(fOp k []).size=1:=by rw[y46 hk,Fm.size.sizes];omega
theorem y2q:∀(n:Nat)(bd:List jU)(m:Nat)(f0:Fm)(l:List Tk)(f:Fm)(fr q:List Tk),pFm n bd m f0 l=some (.ok f fr q)->f.size+3*q.length<=3*l.length+(if 2<=m then f0.size else 0)
 | 0,_,_,_,_,_,_,_,h=>by cases h
 | n+1,bd,0,f0,l,f,fr,q,h=>by
  rw[pFm]at h
  rw[if_neg (by omega)]
  by_cases h1:headOf l=1
  ·rw[if_pos h1]at h
   have ht:=y1q (l:=l) (by omega)
   cases hy:pFm n bd 0 f00 l.tail with
   | none=>rw[hy]at h;cases h
   | some y =>
    rw[hy]at h
    cases y with
    | no q=>simp at h
    | ok g fr1 q1 =>
     have hl:=y2q n _ _ _ _ _ _ _ hy
     rw[if_neg (by omega)]at hl
     simp only[Option.some.injEq,Pr.ok.injEq]at h
     obtain⟨rfl,_,rfl⟩:=h
     rw[size_one (by decide)];omega
  ·rw[if_neg h1]at h
   by_cases h2:headOf l=2∨headOf l=3
   ·rw[if_pos h2]at h
    have ht:=y1q (l:=l) (by omega)
    by_cases h3:isM [91] l.tail=true
    ·rw[if_pos h3]at h
     have ht2:=y1a h3
     cases hy:pVars n l.tail.tail with
     | none=>rw[hy]at h;cases h
     | some y =>
      rw[hy]at h
      cases y with
      | no q=>simp at h
      | ok vs fr1 q1 =>
       have hv:=pVars_gr n _ _ _ _ hy
       simp only at h
       by_cases h4:isM [93] q1=true
       ·rw[if_pos h4]at h
        have ht3:=y1a h4
        by_cases h5:isM [58] q1.tail=true
        ·rw[if_pos h5]at h
         have ht4:=y1a h5
         cases hz:pFm n (vs++bd) 0 f00 q1.tail.tail with
         | none=>rw[hz]at h;cases h
         | some z =>
          rw[hz]at h
          cases z with
          | no q'=>simp at h
          | ok g fr2 q2 =>
           have hl2:=y2q n _ _ _ _ _ _ _ hz
           rw[if_neg (by omega)]at hl2
           simp only[Option.some.injEq,Pr.ok.injEq]at h
           obtain⟨rfl,_,rfl⟩:=h
           rw[y3a (by split<;>decide)];omega
        ·rw[if_neg h5]at h;simp at h
       ·rw[if_neg h4]at h;simp at h
    ·rw[if_neg h3]at h;simp at h
   ·rw[if_neg h2]at h
    by_cases h3:headOf l=4
    ·rw[if_pos h3]at h
     have ht:=y1q (l:=l) (by omega)
     simp only[Option.some.injEq,Pr.ok.injEq]at h
     obtain⟨rfl,_,rfl⟩:=h
     rw[size_nil (by decide)];omega
    ·rw[if_neg h3]at h
     by_cases h4:headOf l=5
     ·rw[if_pos h4]at h
      have ht:=y1q (l:=l) (by omega)
      simp only[Option.some.injEq,Pr.ok.injEq]at h
      obtain⟨rfl,_,rfl⟩:=h
      rw[size_nil (by decide)];omega
     ·rw[if_neg h4]at h
      by_cases h5:headOf l=6
      ·rw[if_pos h5]at h
       have ht:=y1q (l:=l) (by omega)
       cases hy:pFm n bd 1 f00 l.tail with
       | none=>rw[hy]at h;cases h
       | some y =>
        rw[hy]at h
        cases y with
        | no q=>simp at h
        | ok g fr1 q1 =>
         have hl:=y2q n _ _ _ _ _ _ _ hy
         rw[if_neg (by omega)]at hl
         simp only at h
         by_cases h6:isM [41] q1=true
         ·rw[if_pos h6]at h
          have:=y1a h6
          simp only[Option.some.injEq,Pr.ok.injEq]at h
          obtain⟨rfl,_,rfl⟩:=h
          omega
         ·rw[if_neg h6]at h;simp at h
      ·rw[if_neg h5]at h
       have:=pAtom_gr h
       omega
 | n+1,bd,1,f0,l,f,fr,q,h=>by
  rw[pFm]at h
  rw[if_neg (by omega)]
  cases hy:pFm n bd 0 f00 l with
  | none=>rw[hy]at h;cases h
  | some y =>
   rw[hy]at h
   cases y with
   | no q=>simp at h
   | ok g fr1 q1 =>
    have hl:=y2q n _ _ _ _ _ _ _ hy
    rw[if_neg (by omega)]at hl
    simp only at h
    by_cases h1:joinOf q1=5∨joinOf q1=6
    ·rw[if_pos h1]at h
     have ht:=y2y (l:=q1) (by omega)
     cases hz:pFm n bd 0 f00 q1.tail with
     | none=>rw[hz]at h;cases h
     | some z =>
      rw[hz]at h
      cases z with
      | no q'=>simp at h
      | ok g2 fr2 q2 =>
       have hl2:=y2q n _ _ _ _ _ _ _ hz
       rw[if_neg (by omega)]at hl2
       simp only[Option.some.injEq,Pr.ok.injEq]at h
       obtain⟨rfl,_,rfl⟩:=h
       rw[size_two (by omega)];omega
    ·rw[if_neg h1]at h
     by_cases h2:joinOf q1=3∨joinOf q1=4
     ·rw[if_pos h2]at h
      cases hz:pFm n bd (joinOf q1) g q1 with
      | none=>rw[hz]at h;cases h
      | some z =>
       rw[hz]at h
       cases z with
       | no q'=>simp at h
       | ok g2 fr2 q2 =>
        have hl2:=y2q n _ _ _ _ _ _ _ hz
        rw[if_pos (by omega)]at hl2
        simp only[Option.some.injEq,Pr.ok.injEq]at h
        obtain⟨rfl,_,rfl⟩:=h
        omega
     ·rw[if_neg h2]at h
      simp only[Option.some.injEq,Pr.ok.injEq]at h
      obtain⟨rfl,_,rfl⟩:=h
      omega
 | n+1,bd,m+2,f0,l,f,fr,q,h=>by
  rw[pFm]at h
  rw[if_pos (by omega)]
  by_cases h1:joinOf l=m+2
  ·rw[if_pos h1]at h
   have ht:=y2y (l:=l) (by omega)
   cases hy:pFm n bd 0 f00 l.tail with
   | none=>rw[hy]at h;cases h
   | some y =>
    rw[hy]at h
    cases y with
    | no q=>simp at h
    | ok g fr1 q1 =>
     have hl:=y2q n _ _ _ _ _ _ _ hy
     rw[if_neg (by omega)]at hl
     simp only at h
     cases hz:pFm n bd (m+2) (fOp (m+2:Nat) [f0,g]) q1 with
     | none=>rw[hz]at h;cases h
     | some z =>
      rw[hz]at h
      cases z with
      | no q'=>simp at h
      | ok g2 fr2 q2 =>
       have hl2:=y2q n _ _ _ _ _ _ _ hz
       rw[if_pos (by omega),size_two (by omega)]at hl2
       simp only[Option.some.injEq,Pr.ok.injEq]at h
       obtain⟨rfl,_,rfl⟩:=h
       omega
  ·rw[if_neg h1]at h
   simp only[Option.some.injEq,Pr.ok.injEq]at h
   obtain⟨rfl,_,rfl⟩:=h
   omega
theorem y4f (t:T):t.depth<=t.size:=by
 refine T.ind (P:=fun t=>t.depth<=t.size) (fun t ih=>?_) t
 rw[T.size_eq]
 have hs:=y1j t.args
 have:∀a∈t.args,a.depth<=(t.args.map T.size).sum:=fun a ha=>by
  have h1:=ih a ha
  have h2:∀l:List T,a∈l->a.size<=(l.map T.size).sum:=by
   intro l
   induction l with
   | nil=>intro h;cases h
   | cons b r ihr =>
    intro h
    rw[List.map_cons,List.sum_cons]
    rcases List.mem_cons.1 h with rfl|h
    ·have:=y1j r;omega
    ·have:=ihr h;have:=y1j.tsz b;omega
  have:=h2 _ ha
  omega
 have:=depth_le hs this
 omega
theorem y28 (f:Fm):f.depth<=f.size:=by
 refine Fm.ind (P:=fun f=>f.depth<=f.size) (fun f ih=>?_) f
 have hk:∀l:List Fm,(∀a∈l,a.depth<=a.size)->Fm.depth.depths l<=Fm.size.sizes l∧0<=Fm.size.sizes l:=by
  intro l
  induction l with
  | nil=>intro _;rw[Fm.size.sizes,Fm.depth.depths];decide
  | cons a r ihr =>
   intro h
   rw[Fm.size.sizes,Fm.depth.depths]
   have h1:=h a (by simp)
   have h2:=ihr (fun b hb=>h b (by simp[hb]))
   have h3:=y4h a
   have h4:=y0w r
   have h5:=y22 a
   omega
 have h1:=hk f.kids ih
 have h2:=y4f f.l
 have h3:=y4f f.r
 have h4:=y1j.tsz f.l
 have h5:=y1j.tsz f.r
 cases f with
 | mk k n l r ks =>
  have h1':Fm.depth.depths ks<=Fm.size.sizes ks∧0<=Fm.size.sizes ks:=h1
  have h2':l.depth<=l.size:=h2
  have h3':r.depth<=r.size:=h3
  have h4':0<=l.size:=h4
  have h5':0<=r.size:=h5
  have h6:=y0w ks
  show Fm.depth (.mk k n l r ks)<=Fm.size (.mk k n l r ks)
  rw[Fm.size,Fm.depth]
  split<;>omega
section
variable {bd : List jU} {l q : List Tk} {fr : List Tk} {f g : Fm}
theorem PT.single {us:List T}(h:PT bd l (.ok us fr q)):∃t,us=[t]∧t.size+q.length<=l.length∧3*t.depth+q.length<=l.length+2:=by obtain⟨n,h⟩:=h;exact y4q h
theorem PA.gr (h:PA bd l (.ok f fr q)):f.size+3*q.length<=3*l.length:=by obtain⟨n,h⟩:=h;exact pAtom_gr h
theorem PU.gr (h:PU bd l (.ok f fr q)):f.size+3*q.length<=3*l.length:=by obtain⟨n,h⟩:=h;have:=y2q _ _ _ _ _ _ _ _ h;rw[if_neg (by omega)]at this;omega
theorem PF.gr (h:PF bd l (.ok f fr q)):f.size+3*q.length<=3*l.length:=by obtain⟨n,h⟩:=h;have:=y2q _ _ _ _ _ _ _ _ h;rw[if_neg (by omega)]at this;omega
end
end
