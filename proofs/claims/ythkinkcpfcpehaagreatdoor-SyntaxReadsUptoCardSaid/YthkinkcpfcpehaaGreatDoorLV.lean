import Derived.Test.YthkinkcpfcpehaaGreatDoorZS
import Derived.Test.YthkinkcpfcpehaaGreatDoorLQ
import Derived.RangeFuncNested
import Derived.RangeFuncBound
import Derived.RangeFuncCalls
import Derived.RangeFuncLeaves
import Derived.Shelf.Abstract
import Derived.Shelf.RegionOpen
import Derived.OwnWalkIn
import Derived.TacticsInMore
import Derived.LoopNIn
import Derived.LoopIn
import Derived.Maps.OwnIn
namespace Go.Proofs.YthkinkcpfcpehaaGreatDoor.Lx
set_option maxRecDepth 100000
set_option maxHeartbeats 8000000
section
open Go.RowKit Go.Shelf
theorem Tryz.info133:(Tryz.prog.info? 133).map (fun i=>(i.zero,i.size,i.bytes))=some (some (.agg #[.int .i64 0,.int .i64 0,.string ⟨#[]⟩]),3,32):=by kernel_rfl
theorem Tryz.info57:(Tryz.prog.info? 57).map (fun i=>(i.zero,i.size,i.bytes))=some (some (.agg #[.int .i64 0,.int .i64 0,.string ⟨#[]⟩]),3,32):=by kernel_rfl
theorem lit3 (X:World)(n:Nat)(u v r:Value)(ty:TypeId)(hn:n=X.heap.size):∀j x,[u,v,r][j]? =some x->(X.alloc (.cells #[u,v,r] ty)).cell? ((⟨n,0,none⟩:Addr).add j)=some x:=by
 intro j x hj
 subst hn
 have ea:(⟨X.heap.size,0,none⟩:Addr).add j=⟨X.heap.size,j,none⟩:=by unfold Addr.add;split<;>simp_all
 rw[ea,World.cell?_alloc_new]
 simpa using hj
theorem one3 {a b:Int}{t:ByteArray}:∀u∈[Value.int .i64 a,Value.int .i64 b,Value.string t],u.oneCell'=true:=by
 intro u hu
 simp only[List.mem_cons,List.not_mem_nil,or_false]at hu
 rcases hu with rfl|rfl|rfl<;>rfl
def LexP (q:List Tk × Nat × Int)(w:World)(e:Ending)(w':World):Prop:=
 ∃v,e=.returned (.tuple #[v,.int .i64 (q.2.1:Nat),.int .i64 q.2.2])∧(KsAt w' v (if q.2.2=0 then q.1 else [])∧∀b,v.ownBlock=some b->b<w'.heap.size)∧Below w.heap.size w w'
structure LxI (w:World) (l:jU) (i:Nat) (v:Value) (done:List Tk) (W:World):Prop where
 row:W.ownsRow w.heap.size 133 3 v done.length (flK done)
 bel:Below w.heap.size w W
 eq:addD done (lexL i (l.drop i))=lexL 0 l
 len:done.length<=i
set_option maxRecDepth 100000 in
theorem rlex_any (s:ByteArray)(w:World)(hs:s.size<=2097154):Calls Tryz.prog 57 #[.string s] w (LexP (lexL 0 s.data.toList) w):=by
 obtain⟨i0,hi0,hz0,hz1,hz2⟩:=info_parts Tryz.info133
 go_enter Tryz.func57,Tryz.ntmps57
 go_wp2
 go_loopw [5,6] (fun vo vi wr=>∃(i n:Nat) (oa:Option Addr) (oc:Nat),vi=.int .i64 i∧vo=.slice oa n oc∧i<=s.size∧Hid (∃done:List Tk,done.length=n∧LxI w s.data.toList i (.slice oa n oc) done wr)) (fun _ vi _=>s.size-(intOf vi).toNat)
 case atStart=>exact⟨0,0,none,0,rfl,rfl,Nat.zero_le _,[],rfl,World.ownsRow_nil _ _ _ _,Below.refl _ _,by simp[addD],jJ _⟩
 case round =>
  obtain⟨i,n,oa,oc,rfl,rfl,hi,done,hdn,hI⟩:=hrel
  subst hdn
  have HI:Hid (LxI w s.data.toList i (.slice oa done.length oc) done wr):=hI
  have hdl:=hI.len
  clear hI
  by_cases hlt:i<s.size
  ·have HD:Hid (s.data.toList.drop i=s[i]::s.data.toList.drop (i+1)):=y0f s i hlt
   by_cases hb:s[i]=32∨s[i]=9∨s[i]=13
   ·have HN:Hid (∃d:List Tk,d.length=done.length∧LxI w s.data.toList (i+1) (.slice oa done.length oc) d wr):=⟨done,rfl,HI.out.row,HI.out.bel,by rw[<-HI.out.eq,HD.out,y21 hb],by have:=HI.out.len;omega⟩
    by_cases h1:s[i]=32
    ·have g1:((s[i].toNat:Int)==32)=true:=u8_eq (k:=32) rfl h1
     clear hb h1
     go_wp2
     go_roundw
     case rel=>exact⟨i+1,done.length,oa,oc,by go_num,rfl,by omega,HN.out⟩
     case measure=>simp[intOf];omega
    ·have g1:((s[i].toNat:Int)==32)=false:=u8_ne (k:=32) rfl h1
     by_cases h2:s[i]=9
     ·have g2:((s[i].toNat:Int)==9)=true:=u8_eq (k:=9) rfl h2
      clear hb h1 h2
      go_wp2
      go_roundw
      case rel=>exact⟨i+1,done.length,oa,oc,by go_num,rfl,by omega,HN.out⟩
      case measure=>simp[intOf];omega
     ·have g2:((s[i].toNat:Int)==9)=false:=u8_ne (k:=9) rfl h2
      have g3:((s[i].toNat:Int)==13)=true:=u8_eq (k:=13) rfl (by simpa [h1,h2] using hb)
      clear hb h1 h2
      go_wp2
      go_roundw
      case rel=>exact⟨i+1,done.length,oa,oc,by go_num,rfl,by omega,HN.out⟩
      case measure=>simp[intOf];omega
   ·have h1:((s[i].toNat:Int)==32)=false:=u8_ne (k:=32) rfl (fun e=>hb (.inl e))
    have h2:((s[i].toNat:Int)==9)=false:=u8_ne (k:=9) rfl (fun e=>hb (.inr (.inl e)))
    have h3:((s[i].toNat:Int)==13)=false:=u8_ne (k:=13) rfl (fun e=>hb (.inr (.inr e)))
    by_cases h4:s[i]=37
    ·have g4:((s[i].toNat:Int)==37)=true:=u8_eq (k:=37) rfl h4
     have HF:Hid (lexL 0 s.data.toList=(done,0,0)):=by show _=_;rw[<-HI.out.eq,HD.out,h4,y33];simp[addD]
     clear hb h4
     go_wp2
     refine bodyPost_ret (v:=.tuple #[.slice oa done.length oc,.int .i64 0,.int .i64 0]) (by simp[results,Tryz.results57,go_sem]) rfl ?_
     exact⟨_,by rw[HF.out];rfl,⟨by rw[HF.out];simpa using y26 HI.out.row,fun b hb=>(HI.out.row.lt b hb).2⟩,HI.out.bel⟩
    ·have g4:((s[i].toNat:Int)==37)=false:=u8_ne (k:=37) rfl h4
     have ho:=one_any s i wr hlt hs
     have hnn:s.data.toList.drop i≠[]:=by rw[HD.out];simp
     have hnl:(s.data.toList.drop i).length=s.size-i:=by rw[List.length_drop,size_len]
     have HT:Hid ((rd (s.data.toList.drop i)).e=0->addD done (lexL i (s.data.toList.drop i))=addD (done++[⟨(rd (s.data.toList.drop i)).k,i,(rd (s.data.toList.drop i)).t⟩]) (lexL (i+(rd (s.data.toList.drop i)).n) (s.data.toList.drop (i+(rd (s.data.toList.drop i)).n)))):=fun h0=>by
      have e:=@lexL_tok i s[i] (s.data.toList.drop (i+1)) hb h4 (by rw[<-HD.out];exact h0) done
      rw[<-HD.out,List.drop_drop]at e
      exact e
     have HX:Hid ((rd (s.data.toList.drop i)).e≠0->lexL i (s.data.toList.drop i)=([],i,(rd (s.data.toList.drop i)).e)):=fun h0=>by
      have e:=@y34 i s[i] (s.data.toList.drop (i+1)) hb h4 (by rw[<-HD.out];exact h0)
      rw[<-HD.out]at e
      exact e
     have HRn:Hid ((rd (s.data.toList.drop i)).e=0->1<=(rd (s.data.toList.drop i)).n∧(rd (s.data.toList.drop i)).n<=s.size-i):=fun h0=>by
      have:=rd_n h0 hnn
      rwa [hnl]at this
     obtain⟨x,hx⟩:∃x,rd (s.data.toList.drop i)=x:=⟨_,rfl⟩
     rw[hx]at ho HT HX HRn
     clear hnn hnl hx hb h4
     by_cases he:x.e=0
     ·have HT':=HT.out he
      obtain⟨hn1,hn2⟩:=HRn.out he
      have ha:atI i x=(i:Nat):=by unfold atI;rw[if_pos he]
      have hen:endI i x=((i+x.n:Nat):Nat):=by unfold endI;rw[if_pos he]
      rw[ha,hen,he]at ho
      obtain⟨xk,xt,xn,xe⟩:=x
      simp only at ho HT' hn1 hn2 he
      have HTT:Hid (addD done (lexL i (s.data.toList.drop i))=addD (done++[⟨xk,i,xt⟩]) (lexL (i+xn) (s.data.toList.drop (i+xn)))):=HT'
      obtain⟨T,hT⟩:∃T,ofL xt=T:=⟨_,rfl⟩
      rw[hT]at ho
      clear HT HX HRn HT' ha hen he
      go_wp2_with fail
      refine ho.mono ?_
      rintro e W3 ⟨rfl,b3⟩
      have B3:Below w.heap.size w W3:=HI.out.bel.trans (b3.mono HI.out.bel.size)
      have R3:=y05 HI.out.row b3
      have HW:Hid (Below w.heap.size w W3∧W3.ownsRow w.heap.size 133 3 (.slice oa done.length oc) done.length (flK done)):=⟨B3,R3⟩
      clear ho b3 B3 R3
      go_wp2_with (at_builtin;refine wpList_append_own _ rfl _ _ 95 rfl w.heap.size 133 i0 _ 3 32 Tryz.underlying95 hi0 hz0 hz1 hz2 rfl (by decide) _ _ _ rfl ((HW.out.2.alloc _).alloc _) ⟨W3.heap.size+1,0,none⟩ 1 1 [.int .i64 xk,.int .i64 (i:Nat),.string T] rfl rfl (lit3 _ _ _ _ _ _ (by simp)) one3 (by unfold maxLen;omega) (by omega) (by have:=HW.out.1.size;simp;omega) ?_;intro v' w1 hown' hgrow _;obtain⟨a',cap',hv'⟩:=rsl hown';subst hv')
      have HN:Hid (∃d:List Tk,d.length=done.length+1∧LxI w s.data.toList (i+xn) (.slice a' (done.length+1) cap') d w1):=by
       refine⟨done++[⟨xk,i,xt⟩],by simp,?_,?_,by rw[<-HTT.out];exact HI.out.eq,by simp;omega⟩
       ·rw[y0r,jL,hT];exact hown'
       ·have b1:=(HW.out.1.alloc HW.out.1.size (.cells #[.int .i64 xk,.int .i64 (i:Nat),.string T] 133))
        have b2:=b1.alloc b1.size (.cells #[.int .i64 xk,.int .i64 (i:Nat),.string T] 133)
        exact b2.grown hgrow b2.size (fun k e=>(HW.out.2.lt k e).1)
      clear hown' hgrow
      go_roundw
      case rel=>exact⟨i+xn,done.length+1,a',cap',by go_num,rfl,by omega,HN.out⟩
      case measure=>simp[intOf];omega
     ·have HX':=HX.out he
      have HF:Hid (lexL 0 s.data.toList=(done,i,x.e)):=by show _=_;rw[<-HI.out.eq,HX'];simp[addD]
      have ha:atI i x=0:=by unfold atI;rw[if_neg he]
      have hen:endI i x=0:=by unfold endI;rw[if_neg he]
      rw[ha,hen]at ho
      obtain⟨T,hT⟩:∃T,ofL x.t=T:=⟨_,rfl⟩
      rw[hT]at ho
      have he':(x.e != 0)=true:=by simpa using he
      have HE:Hid (x.e≠0):=he
      clear HT HX HRn HX' ha hen hT
      go_wp2_with fail
      refine ho.mono ?_
      rintro e W3 ⟨rfl,b3⟩
      have B3:Below w.heap.size w W3:=HI.out.bel.trans (b3.mono HI.out.bel.size)
      have B4:Hid (Below w.heap.size w (W3.alloc (.cells #[.int .i64 x.k,.int .i64 0,.string T] 133))):=B3.alloc B3.size _
      clear ho b3 B3
      go_wp2
      refine bodyPost_ret (v:=.tuple #[.slice none 0 0,.int .i64 (i:Nat),.int .i64 x.e]) (by simp[results,Tryz.results57,go_sem]) rfl ?_
      exact⟨_,by rw[HF.out],⟨by rw[HF.out,if_neg HE.out];exact KsAt.nil _,fun b hb=>by cases hb⟩,B4.out⟩
  ·have HF:Hid (lexL 0 s.data.toList=(done,0,0)):=by show _=_;rw[<-HI.out.eq,y0s s i (by omega),y1w];simp[addD]
   go_wp2
   refine bodyPost_ret (v:=.tuple #[.slice oa done.length oc,.int .i64 0,.int .i64 0]) (by simp[results,Tryz.results57,go_sem]) rfl ?_
   exact⟨_,by rw[HF.out];rfl,⟨by rw[HF.out];simpa using y26 HI.out.row,fun b hb=>(HI.out.row.lt b hb).2⟩,HI.out.bel⟩
end
section
open Go.RowKit Go.Shelf
structure Kept (n:Nat) (E:List Nat) (W W':World):Prop where
 below:Below n W W'
 mine:∀r∈E,W'.heap[r]? =W.heap[r]?
theorem Kept.refl (n:Nat)(E:List Nat)(W:World):Kept n E W W:=⟨Below.refl _ _,fun _ _=>rfl⟩
theorem Kept.trans {n:Nat}{E:List Nat}{X Y Z:World}(h:Kept n E X Y)(k:Kept n E Y Z):Kept n E X Z:=⟨h.below.trans k.below,fun r hr=>(k.mine r hr).trans (h.mine r hr)⟩
def Abide {γ:Type}(I:List Nat->γ->World->Prop):Prop:=
 ∀E E' s W W' row,I E s W->W.grownBy W' row->(∀r,row=some r->r∈E)->(∀r∈E',r∈E∨(W.heap.size<=r∧r<W'.heap.size))->I E' s W'
theorem Abide.put {γ:Type}{I:List Nat->γ->World->Prop}(h:Abide I){E:List Nat}{s:γ}{W:World}{l:Nat}(o:Obj)(hs:I E s W)(hl:l∈E):I E s (W.putObj l o):=
 h E E s W _ (some l) hs (grownBy_putObj' W l o) (fun r e=>by cases e;exact hl) (fun _ hr=>.inl hr)
def endE {γ:Type}(n:Nat)(E:List Nat)(I Ix:List Nat->γ->World->Prop)(s:γ)(W:World):Exit->Act->World->Prop
 | .normal,_,W'=>Kept n E W W'∧I E s W'
 | .ret,_,W'=>Kept n E W W'∧Ix E s W'
 | _,_,_=>False
abbrev It:=Tk × Int
abbrev itv (x:It):Array Value:=#[.agg #[.int .i64 x.1.k,.int .i64 (x.1.a:Nat),.string (ofL x.1.t)],.int .i64 x.2]
def YieldsK (l:Nat)(w0:World)(all:List It)(J Jx:List Nat->List It->World->Prop):Prop:=
 ∀E pre x W,J E pre W->Below w0.heap.size w0 W->(∃rest,pre++x::rest=all) ->
  ∀m,YieldAt Fence.wide m Tryz.prog l (itv x) W fun e W'=>(e=.returned (.bool true)∧J E (pre++[x]) W'∧Kept w0.heap.size E W W')∨(e=.returned (.bool false)∧Jx E (pre++[x]) W')
def IterK (gf:Nat)(lb:Array Value)(w0:World)(all:List It)(E0:List Nat)(W:World):Prop:=
 ∀(m l:Nat) (J Jx:List Nat->List It->World->Prop),Abide J->YieldsK l w0 all J Jx->J E0 [] W ->
  CallsIn Fence.wide m Tryz.prog gf (#[.func (.yield l) #[] #[]]++lb) W fun e W'=>(∃v,e=.returned v)∧((∃E,J E all W')∨(∃E pre,Jx E pre W'))
theorem range_k {ps:Array Tmp}{assign body:Code}{Q:Exit->Act->World->Prop}{a:Act}{w:World}{g:Operand}{gf:Nat}{lb:Array Value}{w0:World}{all:List It}{E0:List Nat}(m:Nat)
  (hg:a.eval g=.func (.func gf) #[] lb) (eg:∀args w,(callFunc gf args).run Tryz.prog w=.ok (.enter gf args) w) (hps:ps.size=2)
  (hseq:∀W,Below w.heap.size w W->IterK gf lb w0 all E0 W)
  (I Ix:List Nat->List It->World->Prop) (hI:Abide I) (hIx:Abide Ix) (h0:I E0 [] w) (hw0:w0.heap.size<=w.heap.size) (hlow:∀E pre W,I E pre W->∀r∈E,r<W.heap.size)
  (Ax:It->Act->World->Prop) (hAx:∀p a' W l r o,Ax p a' W->W.heap[l]? =some (.loop r)->Ax p a' (W.putObj l o))
  (hassign:∀(l:Nat) (p:It) (W:World) (K:Act->World->Prop),(∀a' W',Below W.heap.size W W'->Ax p a' W'->K a' W') ->
   assign.wpIn (Fence.wide.inRound l) (m-1) Tryz.prog (Exit.then K (fun _ _ _=>False)) { tmps:=(ps.zip (itv p)).foldl (fun t (p,v)=>t.setIfInBounds p v) a.tmps,defers:=[] } W)
  (hbody:∀(l:Nat) (E:List Nat) (pre:List It) (p:It) (a':Act) (W:World),I E pre W->l∈E->Below w0.heap.size w0 W->(∃rest,pre++p::rest=all)->Ax p a' W ->
   body.wpIn (Fence.wide.inRound l) (m-1) Tryz.prog (endE w0.heap.size E I Ix (pre++[p]) W) a' W)
  (hdone:∀(D:Nat) (E:List Nat) (W:World),w.heap.size<=D->I E all W->D∈E->W.heap[D]? =some (.deferred (some []))->Q .normal { a with defers:={ target:=.collected D,args:=#[] }::a.defers } W)
  (hstop:∀(D:Nat) (E:List Nat) (pre:List It) (W:World),w.heap.size<=D->Ix E pre W->D∈E->W.heap[D]? =some (.deferred (some []))->Code.ret.wpIn Fence.wide m Tryz.prog Q { a with defers:={ target:=.collected D,args:=#[] }::a.defers } W) :
  (Code.rangeFunc g ps assign body).wpIn Fence.wide m Tryz.prog Q a w:=by
 refine wpIn_rangeFunc fun fn hfn=>?_
 let N:=w.heap.size
 let lp:LoopState->Option Code->Obj:=fun st pe=>.loop { state:=st,pending:=pe,fn:=fn,tmps:=a.tmps,params:=ps,assign:=assign,body:=body,defers:=N }
 let W1:World:=(w.alloc (.deferred (some []))).alloc (lp .ready none)
 have hN:w.heap.size=N:=rfl
 have hsz1:W1.heap.size=N+2:=by simp[W1,N]
 have hb1:Below w.heap.size w W1:=y0d w _ _
 have hl1:W1.heap[N+1]? =some (lp .ready none):=by
  have:=(jH (w.alloc (.deferred (some []))) (lp .ready none)).1
  rwa [World.size_alloc]at this
 have hd1:W1.heap[N]? =some (.deferred (some [])):=(Below.heap_alloc _ _ _ (by simp[N])).trans (jH w _).1
 have hE0:∀r∈E0,r<N:=fun r hr=>hlow _ _ _ h0 r hr
 have hI1:I (N::(N+1)::E0) [] W1:=by
  have g1:=World.grownBy_alloc w (.deferred (some [])) none
  have g2:=World.grownBy_alloc (w.alloc (.deferred (some []))) (lp .ready none) none
  have s1:I (N::E0) [] (w.alloc (.deferred (some []))):=hI _ _ _ _ _ _ h0 g1 (fun _ e=>by cases e) (fun r hr=>by
   rcases List.mem_cons.1 hr with rfl|hr
   ·exact .inr ⟨jJ _,by simp[N]⟩
   ·exact .inl hr)
  exact hI _ _ _ _ _ _ s1 g2 (fun _ e=>by cases e) (fun r hr=>by
   rcases List.mem_cons.1 hr with rfl|hr
   ·exact .inl (by simp)
   ·rcases List.mem_cons.1 hr with rfl|hr
    ·exact .inr ⟨by simp[N],by rw[hsz1];omega⟩
    ·exact .inl (by simp[hr]))
 refine⟨N+1,[{ target:=.collected N,args:=#[] }],W1,{ target:=.fn (.func gf) lb,args:=#[.func (.yield (N+1)) #[] #[]] },W1,gf,#[.func (.yield (N+1)) #[] #[]]++lb,W1,?_,?_,?_,?_,?_,?_⟩
 ·exact run_enterLoop_outer _ _ _ _ _
 ·simp only[resolve,hg]
  simp[go_sem]
 ·intro f' _
  trivial
 ·simp[invoke,go_sem,eg]
 ·intro h
  cases h
 ·let J:List Nat->List It->World->Prop:=fun E pre W=>I (N::(N+1)::E) pre W∧N∉E∧N+1∉E∧W.heap[N+1]? =some (lp .ready none)∧W.heap[N]? =some (.deferred (some []))
  let Jx:List Nat->List It->World->Prop:=fun E pre W=>Ix (N::(N+1)::E) pre W∧W.heap[N+1]? =some (lp .done (some .ret))∧W.heap[N]? =some (.deferred (some []))
  have hJ:Abide J:=by
   rintro E E' s W W' row ⟨hi,n1,n2,hl,hd⟩ hg' hr hE
   have lt:N+1<W.heap.size:=(jG hl).1
   have m1:N∉E':=fun h=>by
    rcases hE _ h with h|h
    ·exact n1 h
    ·omega
   have m2:N+1∉E':=fun h=>by
    rcases hE _ h with h|h
    ·exact n2 h
    ·omega
   refine⟨hI _ _ _ _ _ _ hi hg' (fun r e=>by simp[hr r e]) (fun r h=>?_),m1,m2,(hg'.block _ lt (fun e=>n2 (hr _ e.symm))).trans hl,(hg'.block _ (by omega) (fun e=>n1 (hr _ e.symm))).trans hd⟩
   rcases List.mem_cons.1 h with rfl|h
   ·exact .inl (by simp)
   ·rcases List.mem_cons.1 h with rfl|h
    ·exact .inl (by simp)
    ·rcases hE _ h with h|h
     ·exact .inl (by simp[h])
     ·exact .inr h
  have hY:YieldsK (N+1) w0 all J Jx:=by
   rintro E pre p W ⟨hi,n1,n2,hl,hd⟩ hw hrest k
   have lt:N+1<W.heap.size:=(jG hl).1
   have mem:N+1∈N::(N+1)::E:=by simp
   refine⟨fn,_,assign,body,run_yield hl (by simp[hps]),RoundIn.mono ?_ fun _ _ h=>h⟩
   have hround:RoundIn Fence.wide (m-1) Tryz.prog (N+1) fn ((ps.zip (itv p)).foldl (fun t (p,v)=>t.setIfInBounds p v) a.tmps) assign body W (fun e W'=>(e=.returned (.bool true)∧J E (pre++[p]) W'∧Kept w0.heap.size E W W')∨(e=.returned (.bool false)∧Jx E (pre++[p]) W')):=by
    refine roundIn_of_wpIn hfn (hassign _ p W _ fun a' Wa hba hax=>?_)
    have hin:∀r∈N::(N+1)::E,Wa.heap[r]? =W.heap[r]?:=fun r hr=>hba.block r (hlow _ _ _ hi r hr)
    have hla:Wa.heap[N+1]? =some (lp .ready none):=(hin _ mem).trans hl
    have lta:N+1<Wa.heap.size:=(jG hla).1
    refine⟨_,run_beginRound hla rfl,?_⟩
    let Wb:World:=Wa.putObj (N+1) (lp .busy none)
    have hlb:Wb.heap[N+1]? =some (lp .busy none):=World.putObj_heap_same lta
    have hoa:∀r,r≠N+1->Wb.heap[r]? =Wa.heap[r]?:=fun r hr=>World.putObj_heap_other hr
    have hob:∀r∈N::(N+1)::E,r≠N+1->Wb.heap[r]? =W.heap[r]?:=fun r hr hne=>(hoa r hne).trans (hin r hr)
    have hba0:Below w0.heap.size W Wa:=hba.mono (by omega)
    have hbb:Below w0.heap.size W Wb:=hba0.trans ⟨rfl,rfl,rfl,by simp[Wb],fun k hk=>hoa k (by omega)⟩
    have ga:W.grownBy Wa none:=⟨hba.os,hba.tape,hba.output,hba.size,fun k hk _=>hba.block k hk⟩
    have hia:=hI _ _ _ _ _ _ hi ga (fun _ e=>by cases e) (fun _ h=>.inl h)
    refine wpIn_mono (hbody (N+1) (N::(N+1)::E) pre p a' Wb (hI.put _ hia mem) mem (hw.trans hbb) hrest (hAx _ _ _ _ _ _ hax hla)) ?_
    rintro e a3 W3 hp
    have fin:∀{jump:Option Code} {st:LoopState},Kept w0.heap.size (N::(N+1)::E) Wb W3->(if jump.isNone then LoopState.ready else LoopState.done)=st ->
      (Instr.endRound (N+1) jump).run Tryz.prog W3=.ok (.bool jump.isNone) (W3.putObj (N+1) (lp st jump))∧(W3.putObj (N+1) (lp st jump)).heap[N+1]? =some (lp st jump)∧(W3.putObj (N+1) (lp st jump)).heap[N]? =some (.deferred (some [])):=by
     intro jump st hk hst
     have hl3:W3.heap[N+1]? =some (lp .busy none):=(hk.mine _ mem).trans hlb
     have hd3:W3.heap[N]? =some (.deferred (some [])):=((hk.mine _ (by simp)).trans (hob N (by simp) (by omega))).trans hd
     subst hst
     exact⟨run_endRound jump hl3,World.putObj_heap_same (jG hl3).1,(World.putObj_heap_other (by omega)).trans hd3⟩
    cases e with
    | normal =>
     obtain⟨hk,hi3⟩:=hp
     obtain⟨h1,h2,h3⟩:=fin (jump:=none) (st:=.ready) hk rfl
     refine⟨_,_,h1,.inl ⟨rfl,⟨hI.put _ hi3 mem,n1,n2,h2,h3⟩,?_⟩⟩
     refine⟨hbb.trans (hk.below.trans ⟨rfl,rfl,rfl,by simp,fun k hk=>World.putObj_heap_other (by omega)⟩),fun r hr=>?_⟩
     have hrn:r≠N+1:=fun e=>n2 (e▸hr)
     exact ((World.putObj_heap_other hrn).trans (hk.mine r (by simp[hr]))).trans (hob r (by simp[hr]) hrn)
    | ret =>
     obtain⟨hk,hi3⟩:=hp
     obtain⟨h1,h2,h3⟩:=fin (jump:=some .ret) (st:=.done) hk rfl
     exact⟨_,_,h1,.inr ⟨rfl,hIx.put _ hi3 mem,h2,h3⟩⟩
    | exit id=>exact hp.elim
    | goto t=>exact hp.elim
    | panic ch=>exact hp.elim
    | outgrown=>exact hp.elim
   exact⟨hround.1,fun c cs _=>hround.2 c cs (room_wide _)⟩
  refine (hseq W1 hb1 (m-1) (N+1) J Jx hJ hY ⟨hI1,fun h=>by have:=hE0 _ h;omega,fun h=>by have:=hE0 _ h;omega,hl1,hd1⟩).mono ?_
  rintro e W2 ⟨⟨v,rfl⟩,(⟨E,hi,n1,n2,hl,hd⟩|⟨E,pre,hi,hl,hd⟩)⟩
  ·exact⟨none,_,run_endLoop hl (by simp),hdone N _ _ (jJ _) (hI.put _ hi (by simp)) (by simp) ((World.putObj_heap_other (by omega)).trans hd)⟩
  ·exact⟨some .ret,_,run_endLoop hl (by simp),hstop N _ pre _ (jJ _) (hIx.put _ hi (by simp)) (by simp) ((World.putObj_heap_other (by omega)).trans hd)⟩
end
section
open Go.RowKit Go.Shelf
attribute [local go_sem] Oper.semAt_some
theorem rdW_bad {k:Int}{l:jU}(h:(rdW k l).e≠0):(rdW k l).k=0∧(rdW k l).t=[]:=by
 unfold rdW at h ⊢
 split
 ·exact⟨rfl,rfl⟩
 ·rename_i h6;rw[if_neg h6]at h;exact absurd rfl h
theorem rd_bad {l:jU}(h:(rd l).e≠0):(rd l).k=0∧(rd l).t=[]:=by
 cases h1:smB (hd l)
 ·cases h2:caB (hd l)
  ·by_cases h3:hd l=39
   ·have hr:rd l=rdQ (l.drop 1):=by unfold rd;rw[h1,h2,if_neg (by simp),if_neg (by simp),if_pos h3]
    rw[hr]at h ⊢
    unfold rdQ at h ⊢
    cases hq:qs (l.drop 1) with
    | none=>exact⟨rfl,rfl⟩
    | some p =>
     rw[hq]at h
     simp only at h ⊢
     split
     ·rename_i hb
      rw[if_pos hb]at h
      split
      ·exact⟨rfl,rfl⟩
      ·rename_i h6;rw[if_neg h6]at h;exact absurd rfl h
     ·exact⟨rfl,rfl⟩
   ·by_cases h4:hd l=36
    ·have hr:rd l=rdD l:=by unfold rd;rw[h1,h2,if_neg (by simp),if_neg (by simp),if_neg h3,if_pos h4]
     rw[hr]at h ⊢
     unfold rdD at h ⊢
     simp only at h ⊢
     split
     ·rename_i hb;rw[if_pos hb]at h;exact absurd rfl h
     ·rename_i hb
      rw[if_neg hb]at h
      split
      ·rename_i hc;rw[if_pos hc]at h;exact absurd rfl h
      ·exact⟨rfl,rfl⟩
    ·have hr:rd l=rdM l:=by unfold rd;rw[h1,h2,if_neg (by simp),if_neg (by simp),if_neg h3,if_neg h4]
     rw[hr]at h ⊢
     unfold rdM at h ⊢
     cases hf:mks.find? (fun m=>Lib.hasPrefix l m) with
     | none=>exact⟨rfl,rfl⟩
     | some m=>rw[hf]at h;exact absurd rfl h
  ·have hr:rd l=rdW 2 l:=by unfold rd;rw[h1,h2,if_neg (by simp),if_pos rfl]
   rw[hr]at h ⊢
   exact rdW_bad h
 ·have hr:rd l=rdW 1 l:=by unfold rd;rw[h1,if_pos rfl]
  rw[hr]at h ⊢
  exact rdW_bad h
def itms (q:List Tk × Nat × Int):List It:=q.1.map (fun t=>(t,0))++if q.2.2=0 then [] else [(⟨0,q.2.1,[]⟩,q.2.2)]
theorem itms_add (done:List Tk)(q:List Tk × Nat × Int):itms (addD done q)=done.map (fun t=>(t,0))++itms q:=by
 unfold itms addD;simp
theorem sk_lex:∀(r:jU)(a:Nat),lexL a r=lexL (a+sk r) (r.drop (sk r))
 | [],a=>by simp[sk]
 | c::r,a=>by
  unfold sk
  split
  ·rename_i h
   rw[y21 h,sk_lex r (a+1),List.drop_succ_cons]
   congr 1
   omega
  ·split
   ·rename_i h
    subst h
    rw[y33,List.drop_succ_cons,List.drop_length,y1w]
   ·simp
theorem sk_stop:∀(r:jU),r.drop (sk r)=[]∨∃c r',r.drop (sk r)=c::r'∧¬(c=32∨c=9∨c=13)∧c≠37
 | []=>.inl (by simp)
 | c::r=>by
  unfold sk
  split
  ·rw[List.drop_succ_cons];exact sk_stop r
  ·rename_i h
   split
   ·rw[List.drop_succ_cons,List.drop_length];exact .inl rfl
   ·rename_i h2;exact .inr ⟨c,r,rfl,h,h2⟩
structure TkI (w0:World) (Bs:Nat) (s:ByteArray) (J:List Nat->List It->World->Prop) (k:Nat) (E:List Nat) (pre:List It) (W:World):Prop where
 j:J E pre W
 bel:Below w0.heap.size w0 W
 mem:Bs∈E
 bs:W.heap[Bs]? =some (.cells #[.string s] 9 (0,0))
 eq:pre++itms (lexL k (s.data.toList.drop k))=itms (lexL 0 s.data.toList)
 nb:s.data.toList.drop k=[]∨∃c r',s.data.toList.drop k=c::r'∧¬(c=32∨c=9∨c=13)∧c≠37
theorem TkI.start {w0:World}{Bs:Nat}{s:ByteArray}{J:List Nat->List It->World->Prop}{W:World}(hj:J [Bs] [] W)(hb:Below w0.heap.size w0 W)(hs:W.heap[Bs]? =some (.cells #[.string s] 9 (0,0))):TkI w0 Bs s J (0+sk (s.data.toList.drop 0)) [Bs] [] W:=by
 refine⟨hj,hb,by simp,hs,?_,?_⟩
 ·rw[Nat.zero_add,List.drop_zero,List.nil_append]
  have:=sk_lex s.data.toList 0
  rw[Nat.zero_add]at this
  rw[<-this]
 ·rw[Nat.zero_add,List.drop_zero];exact sk_stop _
theorem TkI.next {w0:World}{Bs:Nat}{s:ByteArray}{J:List Nat->List It->World->Prop}{k:Nat}{E:List Nat}{pre:List It}{W W':World}{m:Nat}{x:Tk}(h:TkI w0 Bs s J k E pre W)(hj:J E (pre++[(x,0)]) W')(hk:Kept w0.heap.size E W W')(he:itms (lexL k (s.data.toList.drop k))=(x,0)::itms (lexL m (s.data.toList.drop m))):TkI w0 Bs s J (m+sk (s.data.toList.drop m)) E (pre++[(x,0)]) W':=by
 refine⟨hj,h.bel.trans hk.below,h.mem,(hk.mine _ h.mem).trans h.bs,?_,?_⟩
 ·rw[<-h.eq,he]
  have:=sk_lex (s.data.toList.drop m) m
  rw[List.drop_drop]at this
  rw[<-this]
  simp
 ·rw[<-List.drop_drop];exact sk_stop _
theorem TkI.far {w0:World}{Bs:Nat}{s:ByteArray}{J:List Nat->List It->World->Prop}{k:Nat}{E:List Nat}{pre:List It}{W W':World}(hJ:Abide J)(h:TkI w0 Bs s J k E pre W)(hb:Below W.heap.size W W'):TkI w0 Bs s J k E pre W':=
 ⟨hJ _ _ _ _ _ none h.j ⟨hb.os,hb.tape,hb.output,hb.size,fun k hk _=>hb.block k hk⟩ (fun _ e=>by cases e) (fun _ hr=>.inl hr),h.bel.trans (hb.mono h.bel.size),h.mem,(hb.block _ (jG h.bs).1).trans h.bs,h.eq,h.nb⟩
theorem tokens_any (s:ByteArray)(w:World):Calls Tryz.prog 92 #[.string s] w fun e w'=>e=.returned (.func (.func 127) #[] #[.pointer (some ⟨w.heap.size,0,none⟩)])∧w'=w.alloc (.cells #[.string s] 9):=by
 go_enter Tryz.func92,Tryz.ntmps92
 go_wp2
 go_ret
 exact⟨rfl,rfl⟩
end
section
open Go.RowKit Go.Shelf
attribute [local go_sem] Oper.semAt_some
set_option maxRecDepth 100000 in
theorem tokens1_any (w0:World)(Bs:Nat)(s:ByteArray)(W:World)(hb:Below w0.heap.size w0 W)(hbs:W.heap[Bs]? =some (.cells #[.string s] 9 (0,0)))(hs:s.size<=2097154) :
  IterK 127 #[.pointer (some ⟨Bs,0,none⟩)] w0 (itms (lexL 0 s.data.toList)) [Bs] W:=by
 intro m ly J Jx hJ hY hj
 have HS:Hid (TkI w0 Bs s J (0+sk (s.data.toList.drop 0)) [Bs] [] W):=TkI.start hj hb hbs
 have HY:Hid (YieldsK ly w0 (itms (lexL 0 s.data.toList)) J Jx):=hY
 have HJ:Hid (Abide J):=hJ
 have hc0:W.cell? ⟨Bs,0,none⟩=some (.string s):=y2b hbs rfl
 have hk0:=skip_any s 0 W (Nat.zero_le _) hs
 have hk1:0+sk (s.data.toList.drop 0)<=s.size:=by have:=sk_le (s.data.toList.drop 0);rw[List.drop_zero]at this ⊢;rw[size_len]at this;omega
 obtain⟨K0,hK0⟩:∃K,0+sk (s.data.toList.drop 0)=K:=⟨_,rfl⟩
 rw[hK0]at HS hk0 hk1
 have hk0':Calls Tryz.prog 128 #[.string s,.int .i64 0] W fun e w'=>e=.returned (.int .i64 (K0:Nat))∧w'=W:=hk0
 clear hK0 hY hj hb hJ hbs hk0
 refine callsIn_of_wp Tryz.func127 rfl trivial ?_ rfl
 simp only[Tryz.ntmps127,List.size_toArray,jK,List.length_nil,Nat.reduceAdd,Nat.reduceSub,Array.replicate_succ,Array.replicate_zero,List.push_toArray,List.append_toArray,List.nil_append,List.cons_append]
 gi_wp2_with fail
 refine⟨trivial,fun h=>(by cases h),?_⟩
 refine (callsIn_wide.2 hk0').mono ?_
 rintro e w' ⟨rfl,rfl⟩
 gi_wp2
 gi_loopw [3] (fun i wr=>∃(k:Nat),k<=s.size∧i=.int .i64 k∧Hid (∃E pre,TkI w0 Bs s J k E pre wr)) (fun i _=>s.size-(intOf i).toNat)
 case atStart=>exact⟨K0,hk1,rfl,_,_,HS.out⟩
 case round =>
  obtain⟨k,hk,rfl,E,pre,hI⟩:=hrel
  have c0:wr.cell? ⟨Bs,0,none⟩=some (.string s):=y2b hI.bs rfl
  have HI:Hid (TkI w0 Bs s J k E pre wr):=hI
  clear hI HS hk0' hk1 hc0
  by_cases hlt:k<s.size
  ·have HD:Hid (s.data.toList.drop k=s[k]::s.data.toList.drop (k+1)):=y0f s k hlt
   have hnb:=HI.out.nb
   have hr:=read_any (s.extract k s.size) wr (by rw[y0n,y1n,List.length_drop,size_len];omega) (by rw[y0n,y1n,List.length_drop,size_len];omega)
   rw[show (s.extract k s.size).data.toList=s.data.toList.drop k by rw[y0n];rfl]at hr
   have hne:s.data.toList.drop k≠[]:=by rw[HD.out];simp
   obtain⟨c,r',hcr,hb1,hb2⟩:∃c r',s.data.toList.drop k=c::r'∧¬(c=32∨c=9∨c=13)∧c≠37:=by
    rcases hnb with h|h
    ·exact absurd h hne
    ·exact h
   have hnl:(s.data.toList.drop k).length=s.size-k:=by rw[List.length_drop,size_len]
   have HTok:Hid ((rd (s.data.toList.drop k)).e=0->itms (lexL k (s.data.toList.drop k))=(⟨(rd (s.data.toList.drop k)).k,k,(rd (s.data.toList.drop k)).t⟩,0)::itms (lexL (k+(rd (s.data.toList.drop k)).n) (s.data.toList.drop (k+(rd (s.data.toList.drop k)).n)))):=fun h0=>by
    have e:=@lexL_tok k c r' hb1 hb2 (by rw[<-hcr];exact h0) []
    rw[<-hcr,List.drop_drop]at e
    have e2:=congrArg itms e
    rw[itms_add,itms_add]at e2
    simpa using e2
   have HErr:Hid ((rd (s.data.toList.drop k)).e≠0->itms (lexL k (s.data.toList.drop k))=[(⟨(rd (s.data.toList.drop k)).k,k,(rd (s.data.toList.drop k)).t⟩,(rd (s.data.toList.drop k)).e)]):=fun h0=>by
    have e:=@y34 k c r' hb1 hb2 (by rw[<-hcr];exact h0)
    rw[<-hcr]at e
    obtain⟨z1,z2⟩:=rd_bad h0
    rw[e,z1,z2]
    simp[itms,h0]
   have HRn:Hid ((rd (s.data.toList.drop k)).e=0->1<=(rd (s.data.toList.drop k)).n∧(rd (s.data.toList.drop k)).n<=s.size-k):=fun h0=>by
    have:=rd_n h0 hne
    rwa [hnl]at this
   obtain⟨x,hx⟩:∃x,rd (s.data.toList.drop k)=x:=⟨_,rfl⟩
   rw[hx]at hr HTok HErr HRn
   clear hnb hne hcr hb1 hb2 hnl hx
   obtain⟨xk,xt,xn,xe⟩:=x
   simp only at hr HTok HErr HRn
   have HFar:Hid (∀W3,Below wr.heap.size wr W3->TkI w0 Bs s J k E pre (W3.alloc (.cells #[.int .i64 xk,.int .i64 (k:Nat),.string (ofL xt)] 57))):=fun W3 b3=>HI.out.far HJ.out (b3.trans ((bbx W3 _).mono b3.size))
   by_cases he:xe=0
   ·subst he
    have hT:=HTok.out rfl
    obtain⟨n1,n2⟩:=HRn.out rfl
    have HT:Hid (itms (lexL k (s.data.toList.drop k))=(⟨xk,k,xt⟩,0)::itms (lexL (k+xn) (s.data.toList.drop (k+xn)))):=hT
    have HSk:Hid (∀W,Calls Tryz.prog 128 #[.string s,.int .i64 ((k+xn:Nat):Nat)] W fun e w'=>e=.returned (.int .i64 ((k+xn+sk (s.data.toList.drop (k+xn)):Nat):Nat))∧w'=W):=fun W=>skip_any s (k+xn) W (by omega) hs
    have hK2:k+xn+sk (s.data.toList.drop (k+xn))<=s.size:=by have:=sk_le (s.data.toList.drop (k+xn));rw[List.length_drop,size_len]at this;omega
    have hK3:k+xn<=k+xn+sk (s.data.toList.drop (k+xn)):=Nat.le_add_right _ _
    obtain⟨K2,eK2⟩:∃K,k+xn+sk (s.data.toList.drop (k+xn))=K:=⟨_,rfl⟩
    have HK2:Hid (k+xn+sk (s.data.toList.drop (k+xn))=K2):=eK2
    rw[eK2]at HSk hK2 hK3
    clear HTok HErr HRn hT eK2
    gi_wp2_with fail
    refine⟨trivial,fun h=>(by cases h),?_⟩
    refine (callsIn_wide.2 hr).mono ?_
    clear hr
    rintro e W3 ⟨rfl,b3⟩
    have hI4:=HFar.out W3 b3
    obtain⟨fn,tmps,assign,body,hyr,hR⟩:=HY.out E pre (⟨xk,k,xt⟩,0) _ hI4.j hI4.bel ⟨_,by rw[<-HT.out];exact hI4.eq⟩ (m-1)
    have HI4:Hid (TkI w0 Bs s J k E pre (W3.alloc (.cells #[.int .i64 xk,.int .i64 (k:Nat),.string (ofL xt)] 57))):=hI4
    clear hI4 b3
    gi_wp2_with fail
    refine⟨fun h=>(by cases h),?_⟩
    refine hR.mono ?_
    clear hR
    rintro e W5 (⟨rfl,hj5,hk5⟩|⟨rfl,hx⟩)
    ·have hI5:=HI4.out.next (m:=k+xn) hj5 hk5 HT.out
     rw[HK2.out]at hI5
     have c5:W5.cell? ⟨Bs,0,none⟩=some (.string s):=y2b hI5.bs rfl
     have hsk:=HSk.out W5
     have HI5:Hid (TkI w0 Bs s J K2 E (pre++[(⟨xk,k,xt⟩,0)]) W5):=hI5
     clear hI5 hj5 hk5 hyr c0
     gi_wp2_with fail
     refine⟨trivial,fun h=>(by cases h),?_⟩
     refine (callsIn_wide.2 hsk).mono ?_
     rintro e W6 ⟨rfl,rfl⟩
     gi_wp2
     exact⟨⟨K2,hK2,rfl,_,_,HI5.out⟩,by simp[intOf];omega⟩
    ·gi_wp2
     refine bodyPost_ret (results_none rfl _ _ _) rfl ?_
     exact⟨⟨_,rfl⟩,.inr ⟨_,_,hx⟩⟩
   ·have hT:=HErr.out he
    have HT:Hid (itms (lexL k (s.data.toList.drop k))=[(⟨xk,k,xt⟩,xe)]):=hT
    have HAll:Hid (pre++[(⟨xk,k,xt⟩,xe)]=itms (lexL 0 s.data.toList)):=by show _=_;rw[<-HI.out.eq,HT.out]
    have he':(xe != 0)=true:=by simpa using he
    have he2:(xe==0)=false:=by simpa using he
    clear HTok HErr HRn hT
    gi_wp2_with fail
    refine⟨trivial,fun h=>(by cases h),?_⟩
    refine (callsIn_wide.2 hr).mono ?_
    clear hr
    rintro e W3 ⟨rfl,b3⟩
    have hI4:=HFar.out W3 b3
    obtain⟨fn,tmps,assign,body,hyr,hR⟩:=HY.out E pre (⟨xk,k,xt⟩,xe) _ hI4.j hI4.bel ⟨[],HAll.out⟩ (m-1)
    clear hI4 b3
    gi_wp2_with fail
    refine⟨fun h=>(by cases h),?_⟩
    refine hR.mono ?_
    clear hR
    rintro e W5 (⟨rfl,hj5,hk5⟩|⟨rfl,hx⟩)
    ·have HJ5:Hid (J E (itms (lexL 0 s.data.toList)) W5):=by rw[<-HAll.out];exact hj5
     clear hj5 hk5 hyr c0
     gi_wp2
     refine bodyPost_ret (results_none rfl _ _ _) rfl ?_
     exact⟨⟨_,rfl⟩,.inl ⟨_,HJ5.out⟩⟩
    ·gi_wp2
     refine bodyPost_ret (results_none rfl _ _ _) rfl ?_
     exact⟨⟨_,rfl⟩,.inr ⟨_,_,hx⟩⟩
  ·have HF:Hid (J E (itms (lexL 0 s.data.toList)) wr):=by
    have e:=HI.out.eq
    rw[y0s s k (by omega),y1w]at e
    have:pre=itms (lexL 0 s.data.toList):=by rw[<-e];simp[itms]
    rw[<-this]
    exact HI.out.j
   gi_wp2
   refine bodyPost_end (results_none rfl _ _ _) rfl ?_
   exact⟨⟨_,rfl⟩,.inl ⟨_,HF.out⟩⟩
end
