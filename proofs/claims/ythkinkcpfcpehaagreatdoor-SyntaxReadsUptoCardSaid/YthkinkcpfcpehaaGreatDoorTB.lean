import Derived.Test.YthkinkcpfcpehaaGreatDoorZS
import Derived.Test.YthkinkcpfcpehaaGreatDoorRows
import Derived.WalkKit
import Derived.WalkSpells
import Derived.WalkLawsBesides
import Derived.ProofKit
import Derived.OpenShut
namespace Go.Proofs.YthkinkcpfcpehaaGreatDoor
set_option maxRecDepth 100000
set_option maxHeartbeats 400000
section
open Go.RowKit
theorem y01 {a b:Bool}(h:a=b):Ending.returned (.bool a)=.returned (.bool b):=by rw[h]
theorem y0c {a b:Int}(h:a=b):Ending.returned (.int .i64 a)=.returned (.int .i64 b):=by rw[h]
inductive T where
 | mk (v:Int) (fn:ByteArray) (args:List T)
def T.v:T->Int
 | .mk v _ _=>v
def T.fn:T->ByteArray
 | .mk _ fn _=>fn
def T.args:T->List T
 | .mk _ _ args=>args
theorem T.eta (t:T):t=.mk t.v t.fn t.args:=by cases t;rfl
theorem T.ind {P:T->Prop}(h:∀t,(∀a∈t.args,P a)->P t)(t:T):P t:=by
 refine T.rec (motive_1:=P) (motive_2:=fun l=>∀a∈l,P a) ?_ ?_ ?_ t
 ·intro v fn args ih
  exact h _ ih
 ·intro a ha
  cases ha
 ·intro x r hx hr a ha
  rcases List.mem_cons.1 ha with rfl|ha
  ·exact hx
  ·exact hr a ha
inductive ArgsAt (W:World):Value->List T->Prop
 | mk (a:Option Addr) (c:Nat) (l:List T) (s:Nat->Value) (hc:l.length<=c) (hm:c<=9223372036854775807)
   (at0:0<l.length->∃b o,b<W.heap.size∧a=some ⟨b,o,none⟩∧∀i (h:i<l.length),W.cell? ⟨b,o+i*3,none⟩=some (.int .i64 l[i].v)∧W.cell? ⟨b,o+i*3+1,none⟩=some (.string l[i].fn)∧W.cell? ⟨b,o+i*3+2,none⟩=some (s i))
   (sub:∀i (h:i<l.length),ArgsAt W (s i) l[i].args):ArgsAt W (.slice a l.length c) l
abbrev tval (t:T)(sl:Value):Value:=.agg #[.int .i64 t.v,.string t.fn,sl]
theorem ArgsAt.keep {W W':World}{n:Nat}{sl:Value}{l:List T}(hb:Below n W W')(hn:W.heap.size<=n)(h:ArgsAt W sl l):ArgsAt W' sl l:=by
 induction h with
 | mk a c l s hc hm at0 sub ih =>
  refine .mk a c l s hc hm (fun h0=>?_) ih
  obtain⟨b,o,hlt,rfl,hcell⟩:=at0 h0
  refine⟨b,o,jI hlt hb.size,rfl,fun i hi=>?_⟩
  obtain⟨h1,h2,h3⟩:=hcell i hi
  refine⟨(hb.cell (p:=⟨b,_,none⟩) ?_).trans h1,(hb.cell (p:=⟨b,_,none⟩) ?_).trans h2,(hb.cell (p:=⟨b,_,none⟩) ?_).trans h3⟩<;>exact jI hlt hn
theorem ArgsAt.slice {W:World}{sl:Value}{l:List T}(h:ArgsAt W sl l):∃a c,sl=.slice a l.length c∧l.length<=c∧c<=9223372036854775807:=by
 cases h with
 | mk a c _ s hc hm at0 sub=>exact⟨a,c,rfl,hc,hm⟩
theorem ArgsAt.nth {W:World}{a:Option Addr}{c n:Nat}{l:List T}(h:ArgsAt W (.slice a n c) l){i:Nat}(hi:i<l.length) :
  ∃b o s,a=some ⟨b,o,none⟩∧b<W.heap.size∧W.cell? ⟨b,o+i*3,none⟩=some (.int .i64 l[i].v)∧W.cell? ⟨b,o+i*3+1,none⟩=some (.string l[i].fn)∧W.cell? ⟨b,o+i*3+2,none⟩=some s∧ArgsAt W s l[i].args:=by
 cases h with
 | mk a c _ s hc hm at0 sub =>
  obtain⟨b,o,hlt,rfl,hcell⟩:=at0 (by omega)
  obtain⟨h1,h2,h3⟩:=hcell i hi
  exact⟨b,o,s i,rfl,hlt,h1,h2,h3,sub i hi⟩
def T.size:T->Int
 | .mk _ _ args=>1+sizes args
where sizes:List T->Int
 | []=>0
 | a::r=>T.size a+sizes r
theorem T.size_eq (t:T):t.size=1+(t.args.map T.size).sum:=by
 have h:∀l:List T,T.size.sizes l=(l.map T.size).sum:=by
  intro l
  induction l with
  | nil=>rfl
  | cons a r ih=>simp[T.size.sizes,ih]
 cases t with
 | mk v fn args=>simp[T.size,T.args,h]
theorem y17 (a b:Int):wrap64 (wrap64 a+wrap64 b)=wrap64 (a+b):=by
 simp only[wrap64];omega
def upto (f:T->Int)(l:List T)(k:Nat):Int:=((l.take k).map f).sum
theorem upto_succ (f:T->Int)(l:List T)(k:Nat)(h:k<l.length):upto f l (k+1)=upto f l k+f l[k]:=by
 unfold upto
 rw[List.take_succ_eq_append_getElem h]
 simp only[List.map_append,List.sum_append,List.map_cons,List.map_nil,List.sum_cons,List.sum_nil,Int.add_zero]
theorem upto_all (f:T->Int)(l:List T)(k:Nat)(h:l.length<=k):upto f l k=(l.map f).sum:=by
 unfold upto
 rw[List.take_of_length_le h]
theorem size_step (f:T->Int)(l:List T)(k:Nat)(h:k<l.length):wrap64 (wrap64 (1+upto f l k)+wrap64 (f l[k]))=wrap64 (1+upto f l (k+1)):=by
 rw[y17,upto_succ f l k h,Int.add_assoc]
theorem upto_zero (f:T->Int)(l:List T):upto f l 0=0:=by simp[upto]
abbrev tbox (t:T)(sl:Value):Obj:=.cells #[.int .i64 t.v,.string t.fn,sl] 24
theorem y1o (w:World)(t:T)(sl:Value):(w.alloc (tbox t sl)).cell? ⟨w.heap.size,0,none⟩=some (.int .i64 t.v)∧(w.alloc (tbox t sl)).cell? ⟨w.heap.size,1,none⟩=some (.string t.fn)∧(w.alloc (tbox t sl)).cell? ⟨w.heap.size,2,none⟩=some sl:=by
 have h:(w.alloc (tbox t sl)).heap[w.heap.size]? =some (.cells [Value.int .i64 t.v,.string t.fn,sl].toArray 24 (0,0)):=(jH w (tbox t sl)).1
 refine⟨?_,?_,?_⟩<;>rw[cell_of_row _ _ _ _ 24 (0,0) h]<;>rfl
theorem bbx (w:World)(o:Obj):Below w.heap.size w (w.alloc o):=(Below.refl _ _).alloc (jJ _) _
theorem rsize_any (t:T):∀(sl:Value)(w:World),ArgsAt w sl t.args ->
  Calls Tryz.prog 100 #[tval t sl] w fun e w'=>e=.returned (.int .i64 (wrap64 t.size))∧Below w.heap.size w w':=by
 induction t using T.ind with
 | _ t ih =>
  intro sl w ha
  obtain⟨a,c,rfl,hc,hm⟩:=ha.slice
  have HS:Hid (t.size=1+(t.args.map T.size).sum):=t.size_eq
  go_enter Tryz.func100,Tryz.ntmps100
  go_wp2
  go_loopw [3,4] (fun n i wr=>∃k:Nat,k<=t.args.length∧i=.int .i64 k∧n=.int .i64 (wrap64 (1+upto T.size t.args k))∧Below (w.heap.size+1) (w.alloc (tbox t (.slice a t.args.length c))) wr) (fun _ i _=>t.args.length-(intOf i).toNat)
  case atStart=>exact⟨0,Nat.zero_le _,rfl,by rw[upto_zero];exact congrArg _ (by simp[wrap64]),Below.refl _ _⟩
  case round =>
   obtain⟨k,hk,rfl,rfl,hb⟩:=hrel
   obtain⟨_,_,t2⟩:=y1o w t (.slice a t.args.length c)
   have t2':=(hb.cell (p:=⟨w.heap.size,2,none⟩) (Nat.lt_succ_self _)).trans t2
   clear t2
   have haw:=ArgsAt.keep (((bbx w (tbox t (.slice a t.args.length c)))).trans (hb.mono (Nat.le_succ _))) (jJ _) ha
   by_cases hlt:k<t.args.length
   ·obtain⟨b,o,s,rfl,hbl,c0,c1,c2,hs⟩:=haw.nth hlt
    have ih':=ih t.args[k] (List.getElem_mem hlt) s _ hs
    go_wp2_with (go_at_call 100;refine ih'.mono ?_;rintro e w' ⟨rfl,hb'⟩)
    go_roundw
    case rel=>exact⟨k+1,by omega,by go_num,by rw[<-size_step _ _ _ hlt],hb.trans (hb'.mono (by have:=hb.size;simp at this;omega))⟩
    case measure=>simp[intOf];omega
   ·go_wp2
    go_ret
    refine⟨y0c ?_,(bbx w _).trans (hb.mono (Nat.le_succ _))⟩
    rw[HS.out,upto_all _ _ _ (by omega)]
end
section
open Go.RowKit
def T.depthW:T->Int
 | .mk _ _ args=>wrap64 (mxs args 0+1)
where mxs:List T->Int->Int
 | [],m=>m
 | a::r,m=>mxs r (max m (T.depthW a))
def mx (f:T->Int)(l:List T)(k:Nat):Int:=((l.take k).map f).foldl max 0
theorem mx_succ (f:T->Int)(l:List T)(k:Nat)(h:k<l.length):mx f l (k+1)=max (mx f l k) (f l[k]):=by
 unfold mx
 rw[List.take_succ_eq_append_getElem h]
 simp only[List.map_append,List.foldl_append,List.map_cons,List.map_nil,List.foldl_cons,List.foldl_nil]
theorem mx_zero (f:T->Int)(l:List T):mx f l 0=0:=by simp[mx]
theorem mx_all (f:T->Int)(l:List T)(k:Nat)(h:l.length<=k):mx f l k=(l.map f).foldl max 0:=by
 unfold mx
 rw[List.take_of_length_le h]
theorem T.depthW_eq (t:T):t.depthW=wrap64 ((t.args.map T.depthW).foldl max 0+1):=by
 have h:∀(l:List T) (m:Int),T.depthW.mxs l m=(l.map T.depthW).foldl max m:=by
  intro l
  induction l with
  | nil=>intro m;rfl
  | cons a r ih=>intro m;simp[T.depthW.mxs,ih]
 cases t with
 | mk v fn args=>simp[T.depthW,T.args,h]
theorem rdepth_any (t:T):∀(sl:Value)(w:World),ArgsAt w sl t.args ->
  Calls Tryz.prog 101 #[tval t sl] w fun e w'=>e=.returned (.int .i64 t.depthW)∧Below w.heap.size w w':=by
 induction t using T.ind with
 | _ t ih =>
  intro sl w ha
  obtain⟨a,c,rfl,hc,hm⟩:=ha.slice
  have HS:Hid (t.depthW=wrap64 ((t.args.map T.depthW).foldl max 0+1)):=t.depthW_eq
  go_enter Tryz.func101,Tryz.ntmps101
  go_wp2
  go_loopw [3,4] (fun n i wr=>∃k:Nat,k<=t.args.length∧i=.int .i64 k∧n=.int .i64 (mx T.depthW t.args k)∧Below (w.heap.size+1) (w.alloc (tbox t (.slice a t.args.length c))) wr) (fun _ i _=>t.args.length-(intOf i).toNat)
  case atStart=>exact⟨0,Nat.zero_le _,rfl,by rw[mx_zero],Below.refl _ _⟩
  case round =>
   obtain⟨k,hk,rfl,rfl,hb⟩:=hrel
   obtain⟨_,_,t2⟩:=y1o w t (.slice a t.args.length c)
   have t2':=(hb.cell (p:=⟨w.heap.size,2,none⟩) (Nat.lt_succ_self _)).trans t2
   clear t2
   have haw:=ArgsAt.keep (((bbx w (tbox t (.slice a t.args.length c)))).trans (hb.mono (Nat.le_succ _))) (jJ _) ha
   by_cases hlt:k<t.args.length
   ·obtain⟨b,o,s,rfl,hbl,c0,c1,c2,hs⟩:=haw.nth hlt
    have ih':=ih t.args[k] (List.getElem_mem hlt) s _ hs
    go_wp2_with (go_at_call 101;refine ih'.mono ?_;rintro e w' ⟨rfl,hb'⟩)
    all_goals go_roundw
    case rel=>exact⟨k+1,by omega,by go_num,by rw[mx_succ _ _ _ hlt];exact congrArg _ (by split<;>omega),hb.trans (hb'.mono (by have:=hb.size;simp at this;omega))⟩
    case measure=>simp[intOf];omega
   ·go_wp2
    go_ret
    refine⟨y0c ?_,(bbx w _).trans (hb.mono (Nat.le_succ _))⟩
    rw[HS.out,mx_all _ _ _ (by omega)]
def T.shape:T->Bool
 | .mk v fn args=>if fn.size=0 then decide (0<=v)&&decide (v<1000000)&&decide (args.length=0) else decide (v=0)&&decide (fn.size<=64)&&decide (args.length<=16)&&shapes args
where shapes:List T->Bool
 | []=>true
 | a::r=>T.shape a&&shapes r
theorem ba_empty {s:ByteArray}:s.size=0↔s=⟨#[]⟩:=by
 constructor
 ·intro h
  cases s with
  | mk d =>
   have:d.size=0:=h
   rw[Array.size_eq_zero_iff]at this
   rw[this]
 ·rintro rfl
  rfl
end
