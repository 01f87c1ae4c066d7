import Derived.Test.YthkinkcpfcpehaaGreatDoorZS
import Derived.Test.YthkinkcpfcpehaaGreatDoorTB
import Derived.Deep.RegionHeld3
import Derived.RangeFuncNested
import Derived.RangeFuncBound
import Derived.RangeFuncCalls
import Derived.RangeFuncLeaves
import Derived.Shelf.Abstract
import Derived.Shelf.RegionOpen
import Derived.OwnWalkIn
import Derived.TacticsInMore
import Derived.LoopNIn
import Derived.LoopIn
import Derived.Maps.OwnIn
namespace Go.Proofs.YthkinkcpfcpehaaGreatDoor
set_option maxRecDepth 100000
set_option maxHeartbeats 2000000
section
open Go.RowKit
open Classical in
noncomputable def same (x y:T):Bool:=decide (x=y)
theorem y2n {x y:T}:same x y=true↔x=y:=by simp[same]
theorem y11 {x y:T}:same x y=false↔x≠y:=by simp[same]
theorem same_ext {x y:T}(h1:x.v=y.v)(h2:x.fn=y.fn)(h3:x.args=y.args):x=y:=by
 rw[x.eta,y.eta,h1,h2,h3]
abbrev tbox2 (w:World)(x:T)(sx:Value)(y:T)(sy:Value):World:=(w.alloc (tbox x sx)).alloc (tbox y sy)
theorem tbox2_cells (w:World)(x:T)(sx:Value)(y:T)(sy:Value) :
  ((tbox2 w x sx y sy).cell? ⟨w.heap.size,0,none⟩=some (.int .i64 x.v)∧(tbox2 w x sx y sy).cell? ⟨w.heap.size,1,none⟩=some (.string x.fn)∧(tbox2 w x sx y sy).cell? ⟨w.heap.size,2,none⟩=some sx)∧
  ((tbox2 w x sx y sy).cell? ⟨w.heap.size+1,0,none⟩=some (.int .i64 y.v)∧(tbox2 w x sx y sy).cell? ⟨w.heap.size+1,1,none⟩=some (.string y.fn)∧(tbox2 w x sx y sy).cell? ⟨w.heap.size+1,2,none⟩=some sy):=by
 have h:=y1o (w.alloc (tbox x sx)) y sy
 rw[World.size_alloc]at h
 refine⟨?_,h⟩
 obtain⟨h0,h1,h2⟩:=y1o w x sx
 have hb:=bbx (w.alloc (tbox x sx)) (tbox y sy)
 exact⟨(hb.cell (p:=⟨_,_,none⟩) (by simp)).trans h0,(hb.cell (p:=⟨_,_,none⟩) (by simp)).trans h1,(hb.cell (p:=⟨_,_,none⟩) (by simp)).trans h2⟩
theorem kc {A B:World}{n:Nat}(h:Below n A B){b o:Nat}{v:Value}(hb:b<n)(c:A.cell? ⟨b,o,none⟩=some v):B.cell? ⟨b,o,none⟩=some v:=(h.cell (p:=⟨b,o,none⟩) hb).trans c
theorem y0d (w:World)(o1 o2:Obj):Below w.heap.size w ((w.alloc o1).alloc o2):=((Below.refl _ _).alloc (jJ _) _).alloc (by simp) _
theorem rsame_v (x y:T)(a b:Option Addr)(n c m d:Nat)(w:World)(h:x.v≠y.v) :
  Calls Tryz.prog 27 #[tval x (.slice a n c),tval y (.slice b m d)] w fun e w'=>e=.returned (.bool (same x y))∧Below w.heap.size w w':=by
 have HS:Hid (same x y=false):=y11.2 fun e=>h (by rw[e])
 have h':(x.v != y.v)=true:=by simpa using h
 clear h
 go_enter Tryz.func27,Tryz.ntmps27
 go_wp2
 go_ret
 exact⟨y01 (by rw[HS]),y0d w _ _⟩
theorem y0i {s t:ByteArray}:s.toList=t.toList↔s=t:=by
 rw[ByteArray.toList_eq,ByteArray.toList_eq]
 constructor
 ·intro h
  cases s with
  | mk d=>cases t with
   | mk e=>exact congrArg ByteArray.mk (Array.toList_inj.1 h)
 ·rintro rfl
  rfl
theorem rsame_fn (x y:T)(a b:Option Addr)(n c m d:Nat)(w:World)(hv:x.v=y.v)(h:x.fn≠y.fn) :
  Calls Tryz.prog 27 #[tval x (.slice a n c),tval y (.slice b m d)] w fun e w'=>e=.returned (.bool (same x y))∧Below w.heap.size w w':=by
 have HS:Hid (same x y=false):=y11.2 fun e=>h (by rw[e])
 have h':(x.v != y.v)=false:=by simpa using hv
 have h2:¬x.fn.toList=y.fn.toList:=fun e=>h (y0i.1 e)
 clear hv h
 go_enter Tryz.func27,Tryz.ntmps27
 go_wp2
 all_goals go_ret
 all_goals exact⟨y01 (by rw[HS]),y0d w _ _⟩
theorem rsame_len (x y:T)(a b:Option Addr)(c d:Nat)(w:World)(hv:x.v=y.v)(hf:x.fn=y.fn)(h:x.args.length≠y.args.length) :
  Calls Tryz.prog 27 #[tval x (.slice a x.args.length c),tval y (.slice b y.args.length d)] w fun e w'=>e=.returned (.bool (same x y))∧Below w.heap.size w w':=by
 have HS:Hid (same x y=false):=y11.2 fun e=>h (by rw[e])
 have h':(x.v != y.v)=false:=by simpa using hv
 have h2:x.fn.toList=y.fn.toList:=y0i.2 hf
 have h3:((x.args.length:Int) != (y.args.length:Int))=true:=by rw[bne_iff_ne];omega
 clear hv h hf
 go_enter Tryz.func27,Tryz.ntmps27
 go_wp2
 all_goals go_ret
 all_goals exact⟨y01 (by rw[HS]),y0d w _ _⟩
theorem y3t {l m:List T}{k:Nat}(hl:l.length=m.length)(hk:k<l.length)(h:l.take k=m.take k)(e:l[k]=m[k]):l.take (k+1)=m.take (k+1):=by
 rw[List.take_succ_eq_append_getElem hk,List.take_succ_eq_append_getElem (by omega),h,e]
theorem rsame_loop (x y:T)(ih:∀a∈x.args,∀(y:T)(sx sy:Value)(w:World),ArgsAt w sx a.args->ArgsAt w sy y.args->Calls Tryz.prog 27 #[tval a sx,tval y sy] w fun e w'=>e=.returned (.bool (same a y))∧Below w.heap.size w w')
  (a b:Option Addr) (c d:Nat) (w:World) (ha:ArgsAt w (.slice a x.args.length c) x.args) (hb:ArgsAt w (.slice b y.args.length d) y.args) (hc:x.args.length<=9223372036854775807) (hv:x.v=y.v) (hf:x.fn=y.fn) (h:x.args.length=y.args.length) :
  Calls Tryz.prog 27 #[tval x (.slice a x.args.length c),tval y (.slice b y.args.length d)] w fun e w'=>e=.returned (.bool (same x y))∧Below w.heap.size w w':=by
 have HE:Hid (x.v=y.v∧x.fn=y.fn∧x.args.length=y.args.length):=⟨hv,hf,h⟩
 have h':(x.v != y.v)=false:=by simpa using hv
 have h2:x.fn.toList=y.fn.toList:=y0i.2 hf
 have h3:((x.args.length:Int) != (y.args.length:Int))=false:=by rw[bne_eq_false_iff_eq];omega
 clear hv h hf
 go_enter Tryz.func27,Tryz.ntmps27
 go_wp2
 go_loopw [5] (fun i wr=>∃k:Nat,k<=x.args.length∧i=.int .i64 k∧Hid (x.args.take k=y.args.take k)∧Below (w.heap.size+2) (tbox2 w x (.slice a x.args.length c) y (.slice b y.args.length d)) wr) (fun i _=>x.args.length-(intOf i).toNat)
 case atStart=>exact⟨0,Nat.zero_le _,rfl,rfl,Below.refl _ _⟩
 case round =>
  obtain⟨k,hk,rfl,hall,hw⟩:=hrel
  obtain⟨⟨_,_,t2⟩,⟨_,_,u2⟩⟩:=tbox2_cells w x (.slice a x.args.length c) y (.slice b y.args.length d)
  have t2':=(hw.cell (p:=⟨w.heap.size,2,none⟩) (by show w.heap.size<w.heap.size+2;omega)).trans t2
  have u2':=(hw.cell (p:=⟨w.heap.size+1,2,none⟩) (by simp)).trans u2
  clear t2 u2
  have hwb:Below w.heap.size w wr:=(y0d w _ _).trans (hw.mono (by omega))
  have haw:=ArgsAt.keep hwb (jJ _) ha
  have hbw:=ArgsAt.keep hwb (jJ _) hb
  by_cases hlt:k<x.args.length
  ·have hlt':k<y.args.length:=HE.2.2▸hlt
   obtain⟨ba,oa,s,rfl,hba,a0,a1,a2,hs⟩:=haw.nth hlt
   obtain⟨bb,ob,s',rfl,hbb,b0,b1,b2,hs'⟩:=hbw.nth hlt'
   have hdr:Below wr.heap.size wr wr.drew:=(Below.refl _ wr).drew
   have ih':=(ih x.args[k] (List.getElem_mem hlt) y.args[k] s s' wr.drew (ArgsAt.keep hdr (jJ _) hs) (ArgsAt.keep hdr (jJ _) hs')).mono (R':=fun e w'=>e=.returned (.bool (same x.args[k] y.args[k]))∧Below wr.heap.size wr w') (fun e w' h=>⟨h.1,hdr.trans h.2⟩)
   have hsz:=hw.size
   simp only[World.size_alloc]at hsz
   have l0:w.heap.size<wr.heap.size:=by omega
   have l1:w.heap.size+1<wr.heap.size:=by omega
   have hbel:∀w',Below wr.heap.size wr w'->Below (w.heap.size+2) (tbox2 w x (.slice (some ⟨ba,oa,none⟩) x.args.length c) y (.slice (some ⟨bb,ob,none⟩) y.args.length d)) w':=fun w' hb'=>hw.trans (hb'.mono (by omega))
   clear ih ha hb haw hbw
   cases hsh:same x.args[k] y.args[k]
   ·rw[hsh]at ih'
    have Hf:Hid (same x y=false):=by
     refine y11.2 fun e=>y11.1 hsh ?_
     subst e
     rfl
    clear hsh
    go_wp2
    go_region_held3 (fun w'=>w'.cell? ⟨w.heap.size,2,none⟩=some (.slice (some ⟨ba,oa,none⟩) x.args.length c)∧w'.cell? ⟨w.heap.size+1,2,none⟩=some (.slice (some ⟨bb,ob,none⟩) y.args.length d)∧w'.cell? ⟨ba,oa+k*3,none⟩=some (.int .i64 x.args[k].v)∧w'.cell? ⟨ba,oa+k*3+1,none⟩=some (.string x.args[k].fn)∧w'.cell? ⟨ba,oa+k*3+2,none⟩=some s∧w'.cell? ⟨bb,ob+k*3,none⟩=some (.int .i64 y.args[k].v)∧w'.cell? ⟨bb,ob+k*3+1,none⟩=some (.string y.args[k].fn)∧w'.cell? ⟨bb,ob+k*3+2,none⟩=some s') (first|exact⟨t2',u2',a0,a1,a2,b0,b1,b2⟩|exact⟨kc hb' l0 t2',kc hb' l1 u2',kc hb' hba a0,kc hb' hba a1,kc hb' hba a2,kc hb' hbb b0,kc hb' hbb b1,kc hb' hbb b2⟩) (first|(go_at_call 27;refine ih'.mono ?_;rintro e w' ⟨rfl,hb'⟩))
    go_wp2
    go_ret
    exact⟨y01 (by rw[Hf]),(y0d w _ _).trans ((hbel _ hb').mono (by omega))⟩
   ·rw[hsh]at ih'
    have Hf:Hid (x.args.take (k+1)=y.args.take (k+1)):=y3t HE.2.2 hlt hall (y2n.1 hsh)
    clear hsh
    go_wp2
    go_region_held3 (fun w'=>w'.cell? ⟨w.heap.size,2,none⟩=some (.slice (some ⟨ba,oa,none⟩) x.args.length c)∧w'.cell? ⟨w.heap.size+1,2,none⟩=some (.slice (some ⟨bb,ob,none⟩) y.args.length d)∧w'.cell? ⟨ba,oa+k*3,none⟩=some (.int .i64 x.args[k].v)∧w'.cell? ⟨ba,oa+k*3+1,none⟩=some (.string x.args[k].fn)∧w'.cell? ⟨ba,oa+k*3+2,none⟩=some s∧w'.cell? ⟨bb,ob+k*3,none⟩=some (.int .i64 y.args[k].v)∧w'.cell? ⟨bb,ob+k*3+1,none⟩=some (.string y.args[k].fn)∧w'.cell? ⟨bb,ob+k*3+2,none⟩=some s') (first|exact⟨t2',u2',a0,a1,a2,b0,b1,b2⟩|exact⟨kc hb' l0 t2',kc hb' l1 u2',kc hb' hba a0,kc hb' hba a1,kc hb' hba a2,kc hb' hbb b0,kc hb' hbb b1,kc hb' hbb b2⟩) (first|(go_at_call 27;refine ih'.mono ?_;rintro e w' ⟨rfl,hb'⟩))
    go_wp2
    go_roundw
    case rel=>exact⟨k+1,by omega,by go_num,Hf,hbel _ hb'⟩
    case measure=>simp[intOf];omega
  ·have Hf:Hid (same x y=true):=by
    refine y2n.2 (same_ext HE.1 HE.2.1 ?_)
    have hall':x.args.take k=y.args.take k:=hall
    have hl:=HE.2.2
    rw[List.take_of_length_le (by omega),List.take_of_length_le (by omega)]at hall'
    exact hall'
   go_wp2
   go_ret
   exact⟨y01 (by rw[Hf]),hwb⟩
theorem rsame_any (x:T):∀(y:T)(sx sy:Value)(w:World),ArgsAt w sx x.args->ArgsAt w sy y.args ->
  Calls Tryz.prog 27 #[tval x sx,tval y sy] w fun e w'=>e=.returned (.bool (same x y))∧Below w.heap.size w w':=by
 induction x using T.ind with
 | _ x ih =>
  intro y sx sy w hx hy
  obtain⟨a,c,rfl,hc,hm⟩:=hx.slice
  obtain⟨b,d,rfl,hd,hm'⟩:=hy.slice
  by_cases hv:x.v=y.v
  ·by_cases hf:x.fn=y.fn
   ·by_cases hl:x.args.length=y.args.length
    ·exact rsame_loop x y ih a b c d w hx hy (by omega) hv hf hl
    ·exact rsame_len x y a b c d w hv hf hl
   ·exact rsame_fn x y a b _ c _ d w hv hf
  ·exact rsame_v x y a b _ c _ d w hv
end
section
open Go.RowKit Go.Shelf
structure Kept (n:Nat) (E:List Nat) (W W':World):Prop where
 below:Below n W W'
 mine:∀r∈E,W'.heap[r]? =W.heap[r]?
theorem Kept.refl (n:Nat)(E:List Nat)(W:World):Kept n E W W:=⟨Below.refl _ _,fun _ _=>rfl⟩
theorem Kept.trans {n:Nat}{E:List Nat}{X Y Z:World}(h:Kept n E X Y)(k:Kept n E Y Z):Kept n E X Z:=⟨h.below.trans k.below,fun r hr=>(k.mine r hr).trans (h.mine r hr)⟩
def Abide {γ:Type}(I:List Nat->γ->World->Prop):Prop:=
 ∀E E' s W W' row,I E s W->W.grownBy W' row->(∀r,row=some r->r∈E)->(∀r∈E',r∈E∨(W.heap.size<=r∧r<W'.heap.size))->I E' s W'
theorem Abide.put {γ:Type}{I:List Nat->γ->World->Prop}(h:Abide I){E:List Nat}{s:γ}{W:World}{l:Nat}(o:Obj)(hs:I E s W)(hl:l∈E):I E s (W.putObj l o):=
 h E E s W _ (some l) hs (grownBy_putObj' W l o) (fun r e=>by cases e;exact hl) (fun _ hr=>.inl hr)
def endE {γ:Type}(n:Nat)(E:List Nat)(I Ix:List Nat->γ->World->Prop)(s:γ)(W:World):Exit->Act->World->Prop
 | .normal,_,W'=>Kept n E W W'∧I E s W'
 | .ret,_,W'=>Kept n E W W'∧Ix E s W'
 | _,_,_=>False
abbrev Part:=List Int × T
def PlaceV (n:Nat)(E:List Nat)(W:World)(pv:Value)(pl:List Int):Prop:=
 W.ownsRow n 3 1 pv pl.length (pl.map fun x=>Value.int .i64 x)∧∀g,pv.ownBlock=some g->g∈E
def Yields (n l:Nat)(w0:World)(all:List Part)(J Jx:List Nat->List Part->World->Prop):Prop:=
 ∀E pre pl p pv sl W,J E pre W->Below w0.heap.size w0 W->PlaceV n E W pv pl->ArgsAt w0 sl p.args->(∃rest,pre++(pl,p)::rest=all) ->
  ∀m,YieldAt Fence.wide m Tryz.prog l #[pv,tval p sl] W fun e W'=>(e=.returned (.bool true)∧J E (pre++[(pl,p)]) W'∧Kept w0.heap.size E W W')∨(e=.returned (.bool false)∧Jx E (pre++[(pl,p)]) W')
def Iter (n gf:Nat)(lb:Array Value)(w0:World)(all:List Part)(W:World):Prop:=
 ∀(m l:Nat) (J Jx:List Nat->List Part->World->Prop),Abide J->Yields n l w0 all J Jx->J [] [] W ->
  CallsIn Fence.wide m Tryz.prog gf (#[.func (.yield l) #[] #[]]++lb) W fun e W'=>(∃v,e=.returned v)∧((∃E,J E all W')∨(∃E pre,Jx E pre W'))
theorem range_ownA {ps:Array Tmp}{assign body:Code}{Q:Exit->Act->World->Prop}{a:Act}{w:World}{g:Operand}{n gf:Nat}{lb:Array Value}{w0:World}{all:List Part}(m:Nat)
  (hg:a.eval g=.func (.func gf) #[] lb) (eg:∀args w,(callFunc gf args).run Tryz.prog w=.ok (.enter gf args) w) (hps:ps.size=2)
  (hseq:∀W,Below w.heap.size w W->Iter n gf lb w0 all W)
  (I Ix:List Nat->List Part->World->Prop) (hI:Abide I) (hIx:Abide Ix) (h0:I [] [] w) (hw0:w0.heap.size<=w.heap.size) (hlow:∀E pre W,I E pre W->∀r∈E,r<W.heap.size)
  (Ax:T->Value->Value->Act->World->Prop) (hAx:∀p x y a' W l r o,Ax p x y a' W->W.heap[l]? =some (.loop r)->Ax p x y a' (W.putObj l o))
  (hassign:∀(l:Nat) (p:T) (pv sl:Value) (W:World) (K:Act->World->Prop),(∃a n c,pv=.slice a n c)->(∃a n c,sl=.slice a n c)->(∀a' W',Below W.heap.size W W'->Ax p pv sl a' W'->K a' W') ->
   assign.wpIn (Fence.wide.inRound l) (m-1) Tryz.prog (Exit.then K (fun _ _ _=>False)) { tmps:=(ps.zip #[pv,tval p sl]).foldl (fun t (p,v)=>t.setIfInBounds p v) a.tmps,defers:=[] } W)
  (hbody:∀(l:Nat) (E:List Nat) (pre:List Part) (pl:List Int) (p:T) (pv sl:Value) (a':Act) (W:World),I E pre W->l∈E->Below w0.heap.size w0 W->PlaceV n E W pv pl->ArgsAt w0 sl p.args->(∃rest,pre++(pl,p)::rest=all)->Ax p pv sl a' W ->
   body.wpIn (Fence.wide.inRound l) (m-1) Tryz.prog (endE w0.heap.size E I Ix (pre++[(pl,p)]) W) a' W)
  (hdone:∀(D:Nat) (E:List Nat) (W:World),w.heap.size<=D->I E all W->D∈E->W.heap[D]? =some (.deferred (some []))->Q .normal { a with defers:={ target:=.collected D,args:=#[] }::a.defers } W)
  (hstop:∀(D:Nat) (E:List Nat) (pre:List Part) (W:World),w.heap.size<=D->Ix E pre W->D∈E->W.heap[D]? =some (.deferred (some []))->Code.ret.wpIn Fence.wide m Tryz.prog Q { a with defers:={ target:=.collected D,args:=#[] }::a.defers } W) :
  (Code.rangeFunc g ps assign body).wpIn Fence.wide m Tryz.prog Q a w:=by
 refine wpIn_rangeFunc fun fn hfn=>?_
 let N:=w.heap.size
 let lp:LoopState->Option Code->Obj:=fun st pe=>.loop { state:=st,pending:=pe,fn:=fn,tmps:=a.tmps,params:=ps,assign:=assign,body:=body,defers:=N }
 let W1:World:=(w.alloc (.deferred (some []))).alloc (lp .ready none)
 have hN:w.heap.size=N:=rfl
 have hsz1:W1.heap.size=N+2:=by simp[W1,N]
 have hb1:Below w.heap.size w W1:=y0d w _ _
 have hl1:W1.heap[N+1]? =some (lp .ready none):=by
  have:=(jH (w.alloc (.deferred (some []))) (lp .ready none)).1
  rwa [World.size_alloc]at this
 have hd1:W1.heap[N]? =some (.deferred (some [])):=(Below.heap_alloc _ _ _ (by simp[N])).trans (jH w _).1
 have hI1:I [N,N+1] [] W1:=by
  have g1:=World.grownBy_alloc w (.deferred (some [])) none
  have g2:=World.grownBy_alloc (w.alloc (.deferred (some []))) (lp .ready none) none
  have s1:I [N] [] (w.alloc (.deferred (some []))):=hI _ _ _ _ _ _ h0 g1 (fun _ e=>by cases e) (fun r hr=>.inr (by simp at hr ⊢;omega))
  exact hI _ _ _ _ _ _ s1 g2 (fun _ e=>by cases e) (fun r hr=>by simp at hr ⊢;omega)
 refine⟨N+1,[{ target:=.collected N,args:=#[] }],W1,{ target:=.fn (.func gf) lb,args:=#[.func (.yield (N+1)) #[] #[]] },W1,gf,#[.func (.yield (N+1)) #[] #[]]++lb,W1,?_,?_,?_,?_,?_,?_⟩
 ·exact run_enterLoop_outer _ _ _ _ _
 ·simp only[resolve,hg]
  simp[go_sem]
 ·intro f' _
  trivial
 ·simp[invoke,go_sem,eg]
 ·intro h
  cases h
 ·let J:List Nat->List Part->World->Prop:=fun E pre W=>I (N::(N+1)::E) pre W∧N∉E∧N+1∉E∧W.heap[N+1]? =some (lp .ready none)∧W.heap[N]? =some (.deferred (some []))
  let Jx:List Nat->List Part->World->Prop:=fun E pre W=>Ix (N::(N+1)::E) pre W∧W.heap[N+1]? =some (lp .done (some .ret))∧W.heap[N]? =some (.deferred (some []))
  have hJ:Abide J:=by
   rintro E E' s W W' row ⟨hi,n1,n2,hl,hd⟩ hg' hr hE
   have lt:N+1<W.heap.size:=(jG hl).1
   have m1:N∉E':=fun h=>by
    rcases hE _ h with h|h
    ·exact n1 h
    ·omega
   have m2:N+1∉E':=fun h=>by
    rcases hE _ h with h|h
    ·exact n2 h
    ·omega
   refine⟨hI _ _ _ _ _ _ hi hg' (fun r e=>by simp[hr r e]) (fun r h=>?_),m1,m2,(hg'.block _ lt (fun e=>n2 (hr _ e.symm))).trans hl,(hg'.block _ (by omega) (fun e=>n1 (hr _ e.symm))).trans hd⟩
   rcases List.mem_cons.1 h with rfl|h
   ·exact .inl (by simp)
   ·rcases List.mem_cons.1 h with rfl|h
    ·exact .inl (by simp)
    ·rcases hE _ h with h|h
     ·exact .inl (by simp[h])
     ·exact .inr h
  have hY:Yields n (N+1) w0 all J Jx:=by
   rintro E pre pl p pv sl W ⟨hi,n1,n2,hl,hd⟩ hw hpl hsl hrest k
   have lt:N+1<W.heap.size:=(jG hl).1
   have mem:N+1∈N::(N+1)::E:=by simp
   refine⟨fn,_,assign,body,run_yield hl (by simp[hps]),RoundIn.mono ?_ fun _ _ h=>h⟩
   have hround:RoundIn Fence.wide (m-1) Tryz.prog (N+1) fn ((ps.zip #[pv,tval p sl]).foldl (fun t (p,v)=>t.setIfInBounds p v) a.tmps) assign body W (fun e W'=>(e=.returned (.bool true)∧J E (pre++[(pl,p)]) W'∧Kept w0.heap.size E W W')∨(e=.returned (.bool false)∧Jx E (pre++[(pl,p)]) W')):=by
    have hpvs:∃a n c,pv=.slice a n c:=by
     rcases hpl.1.2 with⟨rfl,_⟩|⟨g,cap,cur,rfl,_⟩
     ·exact⟨_,_,_,rfl⟩
     ·exact⟨_,_,_,rfl⟩
    have hsls:∃a n c,sl=.slice a n c:=by
     obtain⟨a,c,e,_⟩:=hsl.slice
     exact⟨_,_,_,e⟩
    refine roundIn_of_wpIn hfn (hassign _ p pv sl W _ hpvs hsls fun a' Wa hba hax=>?_)
    have hin:∀r∈N::(N+1)::E,Wa.heap[r]? =W.heap[r]?:=fun r hr=>hba.block r (hlow _ _ _ hi r hr)
    have hla:Wa.heap[N+1]? =some (lp .ready none):=(hin _ mem).trans hl
    have lta:N+1<Wa.heap.size:=(jG hla).1
    refine⟨_,run_beginRound hla rfl,?_⟩
    let Wb:World:=Wa.putObj (N+1) (lp .busy none)
    have hlb:Wb.heap[N+1]? =some (lp .busy none):=World.putObj_heap_same lta
    have hoa:∀r,r≠N+1->Wb.heap[r]? =Wa.heap[r]?:=fun r hr=>World.putObj_heap_other hr
    have hob:∀r∈N::(N+1)::E,r≠N+1->Wb.heap[r]? =W.heap[r]?:=fun r hr hne=>(hoa r hne).trans (hin r hr)
    have hba0:Below w0.heap.size W Wa:=hba.mono (by omega)
    have hbb:Below w0.heap.size W Wb:=hba0.trans ⟨rfl,rfl,rfl,by simp[Wb],fun k hk=>hoa k (by omega)⟩
    have ga:W.grownBy Wa none:=⟨hba.os,hba.tape,hba.output,hba.size,fun k hk _=>hba.block k hk⟩
    have hplb:PlaceV n (N::(N+1)::E) Wb pv pl:=by
     refine⟨(hpl.1.kept ga (by cases pv.ownBlock<;>simp)).kept (grownBy_putObj' Wa (N+1) _) ?_,fun g hg=>by simp[hpl.2 g hg]⟩
     refine .inr fun e=>n2 (hpl.2 _ e)
    have hia:=hI _ _ _ _ _ _ hi ga (fun _ e=>by cases e) (fun _ h=>.inl h)
    refine wpIn_mono (hbody (N+1) (N::(N+1)::E) pre pl p pv sl a' Wb (hI.put _ hia mem) mem (hw.trans hbb) hplb hsl hrest (hAx _ _ _ _ _ _ _ _ hax hla)) ?_
    rintro e a3 W3 hp
    have fin:∀{jump:Option Code} {st:LoopState},Kept w0.heap.size (N::(N+1)::E) Wb W3->(if jump.isNone then LoopState.ready else LoopState.done)=st ->
      (Instr.endRound (N+1) jump).run Tryz.prog W3=.ok (.bool jump.isNone) (W3.putObj (N+1) (lp st jump))∧(W3.putObj (N+1) (lp st jump)).heap[N+1]? =some (lp st jump)∧(W3.putObj (N+1) (lp st jump)).heap[N]? =some (.deferred (some [])):=by
     intro jump st hk hst
     have hl3:W3.heap[N+1]? =some (lp .busy none):=(hk.mine _ mem).trans hlb
     have hd3:W3.heap[N]? =some (.deferred (some [])):=((hk.mine _ (by simp)).trans (hob N (by simp) (by omega))).trans hd
     subst hst
     exact⟨run_endRound jump hl3,World.putObj_heap_same (jG hl3).1,(World.putObj_heap_other (by omega)).trans hd3⟩
    cases e with
    | normal =>
     obtain⟨hk,hi3⟩:=hp
     obtain⟨h1,h2,h3⟩:=fin (jump:=none) (st:=.ready) hk rfl
     refine⟨_,_,h1,.inl ⟨rfl,⟨hI.put _ hi3 mem,n1,n2,h2,h3⟩,?_⟩⟩
     refine⟨hbb.trans (hk.below.trans ⟨rfl,rfl,rfl,by simp,fun k hk=>World.putObj_heap_other (by omega)⟩),fun r hr=>?_⟩
     have hrn:r≠N+1:=fun e=>n2 (e▸hr)
     exact ((World.putObj_heap_other hrn).trans (hk.mine r (by simp[hr]))).trans (hob r (by simp[hr]) hrn)
    | ret =>
     obtain⟨hk,hi3⟩:=hp
     obtain⟨h1,h2,h3⟩:=fin (jump:=some .ret) (st:=.done) hk rfl
     exact⟨_,_,h1,.inr ⟨rfl,hIx.put _ hi3 mem,h2,h3⟩⟩
    | exit id=>exact hp.elim
    | goto t=>exact hp.elim
    | panic ch=>exact hp.elim
    | outgrown=>exact hp.elim
   exact⟨hround.1,fun c cs _=>hround.2 c cs (room_wide _)⟩
  refine (hseq W1 hb1 (m-1) (N+1) J Jx hJ hY ⟨hI1,by simp,by simp,hl1,hd1⟩).mono ?_
  rintro e W2 ⟨⟨v,rfl⟩,(⟨E,hi,n1,n2,hl,hd⟩|⟨E,pre,hi,hl,hd⟩)⟩
  ·exact⟨none,_,run_endLoop hl (by simp),hdone N _ _ (jJ _) (hI.put _ hi (by simp)) (by simp) ((World.putObj_heap_other (by omega)).trans hd)⟩
  ·exact⟨some .ret,_,run_endLoop hl (by simp),hstop N _ pre _ (jJ _) (hIx.put _ hi (by simp)) (by simp) ((World.putObj_heap_other (by omega)).trans hd)⟩
theorem range_own {ps:Array Tmp}{assign body:Code}{Q:Exit->Act->World->Prop}{a:Act}{w:World}{g:Operand}{n gf:Nat}{lb:Array Value}{w0:World}{all:List Part}(m:Nat)
  (hg:a.eval g=.func (.func gf) #[] lb) (eg:∀args w,(callFunc gf args).run Tryz.prog w=.ok (.enter gf args) w) (hps:ps.size=2)
  (hseq:∀W,Below w.heap.size w W->Iter n gf lb w0 all W)
  (I Ix:List Nat->List Part->World->Prop) (hI:Abide I) (hIx:Abide Ix) (h0:I [] [] w) (hw0:w0.heap.size<=w.heap.size) (hlow:∀E pre W,I E pre W->∀r∈E,r<W.heap.size) (a₁:Value->Value->Act)
  (hassign:∀(l:Nat) (x y:Value) (W:World) (K:Act->World->Prop),K (a₁ x y) W ->
   assign.wpIn (Fence.wide.inRound l) (m-1) Tryz.prog (Exit.then K (fun _ _ _=>False)) { tmps:=(ps.zip #[x,y]).foldl (fun t (p,v)=>t.setIfInBounds p v) a.tmps,defers:=[] } W)
  (hbody:∀(l:Nat) (E:List Nat) (pre:List Part) (pl:List Int) (p:T) (pv sl:Value) (W:World),I E pre W->l∈E->Below w0.heap.size w0 W->PlaceV n E W pv pl->ArgsAt w0 sl p.args->(∃rest,pre++(pl,p)::rest=all) ->
   body.wpIn (Fence.wide.inRound l) (m-1) Tryz.prog (endE w0.heap.size E I Ix (pre++[(pl,p)]) W) (a₁ pv (tval p sl)) W)
  (hdone:∀(D:Nat) (E:List Nat) (W:World),w.heap.size<=D->I E all W->D∈E->W.heap[D]? =some (.deferred (some []))->Q .normal { a with defers:={ target:=.collected D,args:=#[] }::a.defers } W)
  (hstop:∀(D:Nat) (E:List Nat) (pre:List Part) (W:World),w.heap.size<=D->Ix E pre W->D∈E->W.heap[D]? =some (.deferred (some []))->Code.ret.wpIn Fence.wide m Tryz.prog Q { a with defers:={ target:=.collected D,args:=#[] }::a.defers } W) :
  (Code.rangeFunc g ps assign body).wpIn Fence.wide m Tryz.prog Q a w:=
 range_ownA m hg eg hps hseq I Ix hI hIx h0 hw0 hlow (fun p x y a' _=>a'=a₁ x (tval p y)) (fun _ _ _ _ _ _ _ _ h _=>h)
  (fun l p pv sl W _ _ _ hK=>hassign l pv (tval p sl) W _ (hK _ W (Below.refl _ _) rfl))
  (fun l E pre pl p pv sl a' W hi hl hw hpl hsl hr e=>by subst e;exact hbody l E pre pl p pv sl W hi hl hw hpl hsl hr) hdone hstop
end
