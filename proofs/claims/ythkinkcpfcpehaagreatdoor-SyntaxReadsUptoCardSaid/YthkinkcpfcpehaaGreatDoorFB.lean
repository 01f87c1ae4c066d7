import Derived.Test.YthkinkcpfcpehaaGreatDoorZS
import Derived.Test.YthkinkcpfcpehaaGreatDoorTB
import Derived.Test.YthkinkcpfcpehaaGreatDoorLQ
namespace Go.Proofs.YthkinkcpfcpehaaGreatDoor
section
open Go.RowKit
open Lx (Tk ofL)
inductive Fm where
 | mk (kind:Int) (name:ByteArray) (l r:T) (kids:List Fm)
def Fm.k:Fm->Int | .mk k _ _ _ _=>k
def Fm.nm:Fm->ByteArray | .mk _ n _ _ _=>n
def Fm.l:Fm->T | .mk _ _ l _ _=>l
def Fm.r:Fm->T | .mk _ _ _ r _=>r
def Fm.kids:Fm->List Fm | .mk _ _ _ _ ks=>ks
theorem Fm.eta (f:Fm):f=.mk f.k f.nm f.l f.r f.kids:=by cases f;rfl
theorem Fm.ind {P:Fm->Prop}(h:∀f,(∀a∈f.kids,P a)->P f)(f:Fm):P f:=by
 refine Fm.rec (motive_1:=P) (motive_2:=fun l=>∀a∈l,P a) ?_ ?_ ?_ f
 ·intro k n l r ks ih
  exact h _ ih
 ·intro a ha;cases ha
 ·intro a r ha hr x hx
  rcases List.mem_cons.1 hx with rfl|hx
  ·exact ha
  ·exact hr x hx
abbrev t0:T:=.mk 0 ⟨#[]⟩ []
abbrev e0:ByteArray:=⟨#[]⟩
abbrev trueT:T:=.mk 0 ⟨#[36,116,114,117,101]⟩ []
def fEq (l r:T):Fm:=.mk 1 e0 l r []
def fPred (t:T):Fm:=.mk 1 e0 (.mk t.v (⟨#[64]⟩++t.fn) t.args) trueT []
def fOp (k:Int)(ks:List Fm):Fm:=.mk k e0 t0 t0 ks
def fQ (k:Int)(n:ByteArray)(f:Fm):Fm:=.mk k n t0 t0 [f]
inductive Pr (α:Type) where
 | ok (a:α) (fr:List Tk) (q:List Tk)
 | no (q:List Tk)
def isM (m:jU):List Tk->Bool
 | []=>false
 | t::_=>decide (t.k=4)&&decide (t.t=m)
def isK (k:Int):List Tk->Bool
 | []=>false
 | t::_=>decide (t.k=k)
theorem y03 {m:jU}{l:List Tk}(h:isM m l=true):∃t r,l=t::r∧t.k=4∧t.t=m:=by
 cases l with
 | nil=>cases h
 | cons t r=>simp only[isM,Bool.and_eq_true,decide_eq_true_eq]at h;exact⟨t,r,rfl,h.1,h.2⟩
def pTerm (bd:List jU):Nat->Bool->List Tk->Option (Pr (List T))
 | 0,_,_=>none
 | n+1,false,l =>
  match l with
  | []=>some (.no [])
  | t::r =>
   if t.k=2 then some (.ok [.mk 0 (ofL t.t) []] (if t.t∈bd then [] else [t]) r)
   else if t.k=1 then
    if isM [40] r=true then
     match pTerm bd n true r.tail with
     | none=>none
     | some (.no q)=>some (.no q)
     | some (.ok us fr q)=>if isM [41] q=true then some (.ok [.mk 0 (ofL t.t) us] fr q.tail) else some (.no q)
    else some (.ok [.mk 0 (ofL t.t) []] [] r)
   else some (.no (t::r))
 | n+1,true,l =>
  match pTerm bd n false l with
  | none=>none
  | some (.no q)=>some (.no q)
  | some (.ok us fr q) =>
   if isM [44] q=true then
    match pTerm bd n true q.tail with
    | none=>none
    | some (.no q')=>some (.no q')
    | some (.ok bs fr' q')=>some (.ok (us++bs) (fr++fr') q')
   else some (.ok us fr q)
theorem y18 {bd:List jU}:∀{n:Nat}{b:Bool}{l:List Tk}{x:Pr (List T)},pTerm bd n b l=some x->pTerm bd (n+1) b l=some x
 | 0,_,_,_,h=>by cases h
 | n+1,false,l,x,h=>by
  cases l with
  | nil=>simpa [pTerm] using h
  | cons t r =>
   simp only[pTerm]at h ⊢
   by_cases h1:t.k=2
   ·simpa [h1] using h
   ·rw[if_neg h1]at h ⊢
    by_cases h2:t.k=1
    ·rw[if_pos h2]at h ⊢
     by_cases h3:isM [40] r=true
     ·rw[if_pos h3]at h ⊢
      cases hy:pTerm bd n true r.tail with
      | none=>rw[hy]at h;cases h
      | some y =>
       rw[hy]at h
       have:=y18 hy
       simp only[pTerm]at this
       rw[this]
       exact h
     ·rw[if_neg h3]at h ⊢;exact h
    ·rw[if_neg h2]at h ⊢;exact h
 | n+1,true,l,x,h=>by
  rw[pTerm]at h ⊢
  cases hy:pTerm bd n false l with
  | none=>rw[hy]at h;cases h
  | some y =>
   rw[hy]at h
   rw[y18 hy]
   cases y with
   | no q=>exact h
   | ok us fr q =>
    simp only at h ⊢
    by_cases h3:isM [44] q=true
    ·rw[if_pos h3]at h ⊢
     cases hz:pTerm bd n true q.tail with
     | none=>rw[hz]at h;cases h
     | some z =>
      rw[hz]at h
      rw[y18 hz]
      exact h
    ·rw[if_neg h3]at h ⊢;exact h
theorem y0k {bd:List jU}{n m:Nat}{b:Bool}{l:List Tk}{x:Pr (List T)}(h:pTerm bd n b l=some x)(hm:n<=m):pTerm bd m b l=some x:=by
 induction hm with
 | refl=>exact h
 | step _ ih=>exact y18 ih
theorem y14 {bd:List jU}:∀(n:Nat)(b:Bool)(l:List Tk)(x:Pr (List T)),pTerm bd n b l=some x->match x with | .ok _ _ q=>q.length<l.length | .no q=>q.length<=l.length
 | 0,_,_,_,h=>by cases h
 | n+1,false,l,x,h=>by
  cases l with
  | nil=>simp only[pTerm,Option.some.injEq]at h;subst h;simp
  | cons t r =>
   simp only[pTerm]at h
   by_cases h1:t.k=2
   ·simp only[h1,if_true,Option.some.injEq]at h;subst h;simp
   ·rw[if_neg h1]at h
    by_cases h2:t.k=1
    ·rw[if_pos h2]at h
     by_cases h3:isM [40] r=true
     ·rw[if_pos h3]at h
      obtain⟨t1,r1,rfl,_,_⟩:=y03 h3
      simp only[List.tail_cons]at h
      cases hy:pTerm bd n true r1 with
      | none=>rw[hy]at h;cases h
      | some y =>
       have hl:=y14 n true r1 y hy
       rw[hy]at h
       cases y with
       | no q=>simp only[Option.some.injEq]at h;subst h;simp only[jK]at hl ⊢;omega
       | ok us fr q =>
        simp only at h hl
        by_cases h4:isM [41] q=true
        ·rw[if_pos h4]at h;simp only[Option.some.injEq]at h;subst h;simp only[jK,List.length_tail];omega
        ·rw[if_neg h4]at h;simp only[Option.some.injEq]at h;subst h;simp only[jK];omega
     ·rw[if_neg h3]at h;simp only[Option.some.injEq]at h;subst h;simp
    ·rw[if_neg h2]at h;simp only[Option.some.injEq]at h;subst h;simp
 | n+1,true,l,x,h=>by
  rw[pTerm]at h
  cases hy:pTerm bd n false l with
  | none=>rw[hy]at h;cases h
  | some y =>
   have hl:=y14 n false l y hy
   rw[hy]at h
   cases y with
   | no q=>simp only[Option.some.injEq]at h;subst h;exact hl
   | ok us fr q =>
    simp only at h hl
    by_cases h3:isM [44] q=true
    ·rw[if_pos h3]at h
     obtain⟨t1,r1,rfl,_,_⟩:=y03 h3
     simp only[List.tail_cons]at h
     cases hz:pTerm bd n true r1 with
     | none=>rw[hz]at h;cases h
     | some z =>
      have hl2:=y14 n true r1 z hz
      rw[hz]at h
      cases z with
      | no q'=>simp only[Option.some.injEq]at h;subst h;simp only[jK]at hl hl2 ⊢;omega
      | ok bs fr' q'=>simp only[Option.some.injEq]at h;subst h;simp only[jK]at hl hl2 ⊢;omega
    ·rw[if_neg h3]at h;simp only[Option.some.injEq]at h;subst h;exact hl
def PT (bd:List jU)(l:List Tk)(x:Pr (List T)):Prop:=∃n,pTerm bd n false l=some x
def PTs (bd:List jU)(l:List Tk)(x:Pr (List T)):Prop:=∃n,pTerm bd n true l=some x
theorem PT.one {bd:List jU}{l:List Tk}{x y:Pr (List T)}(h:PT bd l x)(h':PT bd l y):x=y:=by
 obtain⟨n,h⟩:=h
 obtain⟨m,h'⟩:=h'
 have h1:=y0k h (Nat.le_max_left n m)
 have h2:=y0k h' (Nat.le_max_right n m)
 rw[h1]at h2
 exact Option.some.inj h2
theorem PTs.one {bd:List jU}{l:List Tk}{x y:Pr (List T)}(h:PTs bd l x)(h':PTs bd l y):x=y:=by
 obtain⟨n,h⟩:=h
 obtain⟨m,h'⟩:=h'
 have h1:=y0k h (Nat.le_max_left n m)
 have h2:=y0k h' (Nat.le_max_right n m)
 rw[h1]at h2
 exact Option.some.inj h2
theorem PT.len {bd:List jU}{l:List Tk}{us:List T}{fr q:List Tk}(h:PT bd l (.ok us fr q)):q.length<l.length:=by obtain⟨n,h⟩:=h;exact y14 n _ _ _ h
theorem PTs.len {bd:List jU}{l:List Tk}{us:List T}{fr q:List Tk}(h:PTs bd l (.ok us fr q)):q.length<l.length:=by obtain⟨n,h⟩:=h;exact y14 n _ _ _ h
section
variable {bd : List jU}
theorem PT.nil:PT bd [] (.no []):=⟨1,rfl⟩
theorem PT.var {t:Tk}{r:List Tk}(h:t.k=2):PT bd (t::r) (.ok [.mk 0 (ofL t.t) []] (if t.t∈bd then [] else [t]) r):=⟨1,by simp[pTerm,h]⟩
theorem PT.const {t:Tk}{r:List Tk}(h:t.k=1)(hm:isM [40] r=false):PT bd (t::r) (.ok [.mk 0 (ofL t.t) []] [] r):=⟨1,by simp[pTerm,h,hm]⟩
theorem PT.wrong {t:Tk}{r:List Tk}(h1:t.k≠1)(h2:t.k≠2):PT bd (t::r) (.no (t::r)):=⟨1,by simp[pTerm,h1,h2]⟩
theorem PT.fn {t:Tk}{r:List Tk}(h:t.k=1)(hm:isM [40] r=true){us:List T}{fr q:List Tk}(ha:PTs bd r.tail (.ok us fr q))(hq:isM [41] q=true):PT bd (t::r) (.ok [.mk 0 (ofL t.t) us] fr q.tail):=by
 obtain⟨n,ha⟩:=ha
 exact⟨n+1,by simp[pTerm,h,hm,ha,hq]⟩
theorem PT.fn_no {t:Tk}{r:List Tk}(h:t.k=1)(hm:isM [40] r=true){us:List T}{fr q:List Tk}(ha:PTs bd r.tail (.ok us fr q))(hq:isM [41] q=false):PT bd (t::r) (.no q):=by
 obtain⟨n,ha⟩:=ha
 exact⟨n+1,by simp[pTerm,h,hm,ha,hq]⟩
theorem PT.args_no {t:Tk}{r:List Tk}(h:t.k=1)(hm:isM [40] r=true){q:List Tk}(ha:PTs bd r.tail (.no q)):PT bd (t::r) (.no q):=by
 obtain⟨n,ha⟩:=ha
 exact⟨n+1,by simp[pTerm,h,hm,ha]⟩
theorem PTs.first_no {l q:List Tk}(h:PT bd l (.no q)):PTs bd l (.no q):=by
 obtain⟨n,h⟩:=h
 exact⟨n+1,by simp[pTerm,h]⟩
theorem PTs.last {l:List Tk}{us:List T}{fr q:List Tk}(h:PT bd l (.ok us fr q))(hq:isM [44] q=false):PTs bd l (.ok us fr q):=by
 obtain⟨n,h⟩:=h
 exact⟨n+1,by simp[pTerm,h,hq]⟩
theorem PTs.more {l:List Tk}{us bs:List T}{fr fr' q q':List Tk}(h:PT bd l (.ok us fr q))(hq:isM [44] q=true)(h':PTs bd q.tail (.ok bs fr' q')):PTs bd l (.ok (us++bs) (fr++fr') q'):=by
 obtain⟨n,h⟩:=h
 obtain⟨m,h'⟩:=h'
 refine⟨max n m+1,?_⟩
 rw[pTerm,y0k h (Nat.le_max_left n m)]
 simp only[hq,if_true,y0k h' (Nat.le_max_right n m)]
theorem PTs.more_no {l:List Tk}{us:List T}{fr q q':List Tk}(h:PT bd l (.ok us fr q))(hq:isM [44] q=true)(h':PTs bd q.tail (.no q')):PTs bd l (.no q'):=by
 obtain⟨n,h⟩:=h
 obtain⟨m,h'⟩:=h'
 refine⟨max n m+1,?_⟩
 rw[pTerm,y0k h (Nat.le_max_left n m)]
 simp only[hq,if_true,y0k h' (Nat.le_max_right n m)]
end
end
section
open Go.RowKit
open Lx (Tk ofL)
def pVars:Nat->List Tk->Option (Pr (List jU))
 | 0,_=>none
 | _+1,[]=>some (.no [])
 | n+1,t::r =>
  if t.k=2 then
   if isM [44] r=true then
    match pVars n r.tail with
    | none=>none
    | some (.no q)=>some (.no q)
    | some (.ok l _ q)=>some (.ok (t.t::l) [] q)
   else some (.ok [t.t] [] r)
  else some (.no (t::r))
theorem y3f:∀{n:Nat}{l:List Tk}{x:Pr (List jU)},pVars n l=some x->pVars (n+1) l=some x
 | 0,_,_,h=>by cases h
 | n+1,[],x,h=>by simpa [pVars] using h
 | n+1,t::r,x,h=>by
  rw[pVars]at h ⊢
  by_cases h1:t.k=2
  ·rw[if_pos h1]at h ⊢
   by_cases h2:isM [44] r=true
   ·rw[if_pos h2]at h ⊢
    cases hy:pVars n r.tail with
    | none=>rw[hy]at h;cases h
    | some y =>
     rw[hy]at h
     rw[y3f hy]
     exact h
   ·rw[if_neg h2]at h ⊢;exact h
  ·rw[if_neg h1]at h ⊢;exact h
theorem pVars_le {n m:Nat}{l:List Tk}{x:Pr (List jU)}(h:pVars n l=some x)(hm:n<=m):pVars m l=some x:=by
 induction hm with
 | refl=>exact h
 | step _ ih=>exact y3f ih
theorem y4p:∀(n:Nat)(l:List Tk)(x:Pr (List jU)),pVars n l=some x->match x with | .ok _ _ q=>q.length<l.length | .no q=>q.length<=l.length
 | 0,_,_,h=>by cases h
 | n+1,[],x,h=>by simp only[pVars,Option.some.injEq]at h;subst h;simp
 | n+1,t::r,x,h=>by
  rw[pVars]at h
  by_cases h1:t.k=2
  ·rw[if_pos h1]at h
   by_cases h2:isM [44] r=true
   ·rw[if_pos h2]at h
    obtain⟨t1,r1,rfl,_,_⟩:=y03 h2
    simp only[List.tail_cons]at h
    cases hy:pVars n r1 with
    | none=>rw[hy]at h;cases h
    | some y =>
     have hl:=y4p n r1 y hy
     rw[hy]at h
     cases y with
     | no q=>simp only[Option.some.injEq]at h;subst h;simp only[jK]at hl ⊢;omega
     | ok a b q=>simp only[Option.some.injEq]at h;subst h;simp only[jK]at hl ⊢;omega
   ·rw[if_neg h2]at h;simp only[Option.some.injEq]at h;subst h;simp
  ·rw[if_neg h1]at h;simp only[Option.some.injEq]at h;subst h;simp
def PV (l:List Tk)(x:Pr (List jU)):Prop:=∃n,pVars n l=some x
theorem PV.len {l:List Tk}{a:List jU}{fr q:List Tk}(h:PV l (.ok a fr q)):q.length<l.length:=by obtain⟨n,h⟩:=h;exact y4p n _ _ h
theorem PV.nil:PV [] (.no []):=⟨1,rfl⟩
theorem PV.wrong {t:Tk}{r:List Tk}(h:t.k≠2):PV (t::r) (.no (t::r)):=⟨1,by simp[pVars,h]⟩
theorem PV.last {t:Tk}{r:List Tk}(h:t.k=2)(hm:isM [44] r=false):PV (t::r) (.ok [t.t] [] r):=⟨1,by simp[pVars,h,hm]⟩
theorem PV.more {t:Tk}{r:List Tk}(h:t.k=2)(hm:isM [44] r=true){l:List jU}{fr q:List Tk}(hv:PV r.tail (.ok l fr q)):PV (t::r) (.ok (t.t::l) [] q):=by
 obtain⟨n,hv⟩:=hv
 exact⟨n+1,by simp[pVars,h,hm,hv]⟩
theorem PV.more_no {t:Tk}{r:List Tk}(h:t.k=2)(hm:isM [44] r=true){q:List Tk}(hv:PV r.tail (.no q)):PV (t::r) (.no q):=by
 obtain⟨n,hv⟩:=hv
 exact⟨n+1,by simp[pVars,h,hm,hv]⟩
def pAtom (bd:List jU)(n:Nat)(l:List Tk):Option (Pr Fm):=
 match pTerm bd n false l with
 | none=>none
 | some (.no q)=>some (.no q)
 | some (.ok us fr q) =>
  if isM [61] q=true then
   match pTerm bd n false q.tail with
   | none=>none
   | some (.no q')=>some (.no q')
   | some (.ok bs fr' q')=>some (.ok (fEq (us.headD t0) (bs.headD t0)) (fr++fr') q')
  else if isM [33,61] q=true then
   match pTerm bd n false q.tail with
   | none=>none
   | some (.no q')=>some (.no q')
   | some (.ok bs fr' q')=>some (.ok (fOp 2 [fEq (us.headD t0) (bs.headD t0)]) (fr++fr') q')
  else if isK 1 l=true then some (.ok (fPred (us.headD t0)) fr q)
  else some (.no q)
theorem pAtom_succ {bd:List jU}{n:Nat}{l:List Tk}{x:Pr Fm}(h:pAtom bd n l=some x):pAtom bd (n+1) l=some x:=by
 unfold pAtom at h ⊢
 cases hy:pTerm bd n false l with
 | none=>rw[hy]at h;cases h
 | some y =>
  rw[hy]at h
  rw[y18 hy]
  cases y with
  | no q=>exact h
  | ok us fr q =>
   simp only at h ⊢
   by_cases h1:isM [61] q=true
   ·rw[if_pos h1]at h ⊢
    cases hz:pTerm bd n false q.tail with
    | none=>rw[hz]at h;cases h
    | some z=>rw[hz]at h;rw[y18 hz];exact h
   ·rw[if_neg h1]at h ⊢
    by_cases h2:isM [33,61] q=true
    ·rw[if_pos h2]at h ⊢
     cases hz:pTerm bd n false q.tail with
     | none=>rw[hz]at h;cases h
     | some z=>rw[hz]at h;rw[y18 hz];exact h
    ·rw[if_neg h2]at h ⊢;exact h
def headOf:List Tk->Nat
 | []=>0
 | t::_=>if t.k=4 then (if t.t=[126] then 1 else if t.t=[33] then 2 else if t.t=[63] then 3 else if t.t=[40] then 6 else 0) else if t.k=3 then (if t.t=Lx.dTrue then 4 else 5) else 0
def joinOf:List Tk->Nat
 | []=>0
 | t::_=>if t.k=4 then (if t.t=[61,62] then 5 else if t.t=[60,61,62] then 6 else if t.t=[38] then 3 else if t.t=[124] then 4 else 0) else 0
theorem y4x {l:List Tk}(h:headOf l≠0):∃t r,l=t::r:=by
 cases l with
 | nil=>exact absurd rfl h
 | cons t r=>exact⟨t,r,rfl⟩
theorem joinOf_cons {l:List Tk}(h:joinOf l≠0):∃t r,l=t::r:=by
 cases l with
 | nil=>exact absurd rfl h
 | cons t r=>exact⟨t,r,rfl⟩
def wrapQ (k:Int)(l:List jU)(f:Fm):Fm:=l.foldr (fun n f=>fQ k (ofL n) f) f
abbrev f00:Fm:=fOp 9 []
def pFm:Nat->List jU->Nat->Fm->List Tk->Option (Pr Fm)
 | 0,_,_,_,_=>none
 | n+1,bd,0,_f0,l =>
  if headOf l=1 then
   match pFm n bd 0 f00 l.tail with
   | none=>none
   | some (.no q)=>some (.no q)
   | some (.ok f fr q)=>some (.ok (fOp 2 [f]) fr q)
  else if headOf l=2∨headOf l=3 then
   if isM [91] l.tail=true then
    match pVars n l.tail.tail with
    | none=>none
    | some (.no q)=>some (.no q)
    | some (.ok vs _ q) =>
     if isM [93] q=true then
      if isM [58] q.tail=true then
       match pFm n (vs++bd) 0 f00 q.tail.tail with
       | none=>none
       | some (.no q')=>some (.no q')
       | some (.ok f fr q')=>some (.ok (wrapQ (if headOf l=2 then 7 else 8) vs f) fr q')
      else some (.no q.tail)
     else some (.no q)
   else some (.no l.tail)
  else if headOf l=4 then some (.ok (fOp 9 []) [] l.tail)
  else if headOf l=5 then some (.ok (fOp 10 []) [] l.tail)
  else if headOf l=6 then
   match pFm n bd 1 f00 l.tail with
   | none=>none
   | some (.no q)=>some (.no q)
   | some (.ok f fr q)=>if isM [41] q=true then some (.ok f fr q.tail) else some (.no q)
  else pAtom bd n l
 | n+1,bd,1,_f0,l =>
  match pFm n bd 0 f00 l with
  | none=>none
  | some (.no q)=>some (.no q)
  | some (.ok f fr q) =>
   if joinOf q=5∨joinOf q=6 then
    match pFm n bd 0 f00 q.tail with
    | none=>none
    | some (.no q')=>some (.no q')
    | some (.ok g fr' q')=>some (.ok (fOp (joinOf q) [f,g]) (fr++fr') q')
   else if joinOf q=3∨joinOf q=4 then
    match pFm n bd (joinOf q) f q with
    | none=>none
    | some (.no q')=>some (.no q')
    | some (.ok g fr' q')=>some (.ok g (fr++fr') q')
   else some (.ok f fr q)
 | n+1,bd,m+2,f0,l =>
  if joinOf l=m+2 then
   match pFm n bd 0 f00 l.tail with
   | none=>none
   | some (.no q)=>some (.no q)
   | some (.ok g fr q) =>
    match pFm n bd (m+2) (fOp (m+2:Nat) [f0,g]) q with
    | none=>none
    | some (.no q')=>some (.no q')
    | some (.ok h fr' q')=>some (.ok h (fr++fr') q')
  else some (.ok f0 [] l)
theorem y1m:∀{n:Nat}{bd:List jU}{m:Nat}{f0:Fm}{l:List Tk}{x:Pr Fm},pFm n bd m f0 l=some x->pFm (n+1) bd m f0 l=some x
 | 0,_,_,_,_,_,h=>by cases h
 | n+1,bd,0,f0,l,x,h=>by
  rw[pFm]at h ⊢
  by_cases h1:headOf l=1
  ·rw[if_pos h1]at h ⊢
   cases hy:pFm n bd 0 f00 l.tail with
   | none=>rw[hy]at h;cases h
   | some y=>rw[hy]at h;rw[y1m hy];exact h
  ·rw[if_neg h1]at h ⊢
   by_cases h2:headOf l=2∨headOf l=3
   ·rw[if_pos h2]at h ⊢
    by_cases h3:isM [91] l.tail=true
    ·rw[if_pos h3]at h ⊢
     cases hy:pVars n l.tail.tail with
     | none=>rw[hy]at h;cases h
     | some y =>
      rw[hy]at h
      rw[y3f hy]
      cases y with
      | no q=>exact h
      | ok vs fr q =>
       simp only at h ⊢
       by_cases h4:isM [93] q=true
       ·rw[if_pos h4]at h ⊢
        by_cases h5:isM [58] q.tail=true
        ·rw[if_pos h5]at h ⊢
         cases hz:pFm n (vs++bd) 0 f00 q.tail.tail with
         | none=>rw[hz]at h;cases h
         | some z=>rw[hz]at h;rw[y1m hz];exact h
        ·rw[if_neg h5]at h ⊢;exact h
       ·rw[if_neg h4]at h ⊢;exact h
    ·rw[if_neg h3]at h ⊢;exact h
   ·rw[if_neg h2]at h ⊢
    by_cases h3:headOf l=4
    ·rw[if_pos h3]at h ⊢;exact h
    ·rw[if_neg h3]at h ⊢
     by_cases h4:headOf l=5
     ·rw[if_pos h4]at h ⊢;exact h
     ·rw[if_neg h4]at h ⊢
      by_cases h5:headOf l=6
      ·rw[if_pos h5]at h ⊢
       cases hy:pFm n bd 1 f00 l.tail with
       | none=>rw[hy]at h;cases h
       | some y=>rw[hy]at h;rw[y1m hy];exact h
      ·rw[if_neg h5]at h ⊢
       exact pAtom_succ h
 | n+1,bd,1,f0,l,x,h=>by
  rw[pFm]at h ⊢
  cases hy:pFm n bd 0 f00 l with
  | none=>rw[hy]at h;cases h
  | some y =>
   rw[hy]at h
   rw[y1m hy]
   cases y with
   | no q=>exact h
   | ok f fr q =>
    simp only at h ⊢
    by_cases h1:joinOf q=5∨joinOf q=6
    ·rw[if_pos h1]at h ⊢
     cases hz:pFm n bd 0 f00 q.tail with
     | none=>rw[hz]at h;cases h
     | some z=>rw[hz]at h;rw[y1m hz];exact h
    ·rw[if_neg h1]at h ⊢
     by_cases h2:joinOf q=3∨joinOf q=4
     ·rw[if_pos h2]at h ⊢
      cases hz:pFm n bd (joinOf q) f q with
      | none=>rw[hz]at h;cases h
      | some z=>rw[hz]at h;rw[y1m hz];exact h
     ·rw[if_neg h2]at h ⊢;exact h
 | n+1,bd,m+2,f0,l,x,h=>by
  rw[pFm]at h ⊢
  by_cases h1:joinOf l=m+2
  ·rw[if_pos h1]at h ⊢
   cases hy:pFm n bd 0 f00 l.tail with
   | none=>rw[hy]at h;cases h
   | some y =>
    rw[hy]at h
    rw[y1m hy]
    cases y with
    | no q=>exact h
    | ok g fr q =>
     simp only at h ⊢
     cases hz:pFm n bd (m+2) (fOp (m+2:Nat) [f0,g]) q with
     | none=>rw[hz]at h;cases h
     | some z=>rw[hz]at h;rw[y1m hz];exact h
  ·rw[if_neg h1]at h ⊢;exact h
theorem y1k {n m:Nat}{bd:List jU}{k:Nat}{f0:Fm}{l:List Tk}{x:Pr Fm}(h:pFm n bd k f0 l=some x)(hm:n<=m):pFm m bd k f0 l=some x:=by
 induction hm with
 | refl=>exact h
 | step _ ih=>exact y1m ih
def Pr.fits {α:Type}(x:Pr α)(n:Nat):Prop:=match x with | .ok _ _ q=>q.length<n | .no q=>q.length<=n
theorem pAtom_len {bd:List jU}{n:Nat}{l:List Tk}{x:Pr Fm}(h:pAtom bd n l=some x):x.fits l.length:=by
 unfold pAtom at h
 cases hy:pTerm bd n false l with
 | none=>rw[hy]at h;cases h
 | some y =>
  have hl:=y14 n false l y hy
  rw[hy]at h
  cases y with
  | no q=>simp only[Option.some.injEq]at h;subst h;exact hl
  | ok us fr q =>
   simp only at h hl
   have key:∀m,isM m q=true->∀{g:List T->Fm},(match pTerm bd n false q.tail with|none=>none|some (.no q')=>some (.no q')|some (.ok bs fr' q')=>some (.ok (g bs) (fr++fr') q'):Option (Pr Fm))=some x->x.fits l.length:=by
    intro m hm g hx
    obtain⟨t1,r1,rfl,_,_⟩:=y03 hm
    simp only[List.tail_cons]at hx
    cases hz:pTerm bd n false r1 with
    | none=>rw[hz]at hx;cases hx
    | some z =>
     have hl2:=y14 n false r1 z hz
     rw[hz]at hx
     cases z with
     | no q'=>simp only[Option.some.injEq]at hx;subst hx;simp only[jK,Pr.fits]at hl hl2 ⊢;omega
     | ok bs fr' q'=>simp only[Option.some.injEq]at hx;subst hx;simp only[jK,Pr.fits]at hl hl2 ⊢;omega
   by_cases h1:isM [61] q=true
   ·rw[if_pos h1]at h;exact key _ h1 h
   ·rw[if_neg h1]at h
    by_cases h2:isM [33,61] q=true
    ·rw[if_pos h2]at h;exact key _ h2 h
    ·rw[if_neg h2]at h
     by_cases h3:isK 1 l=true
     ·rw[if_pos h3]at h;simp only[Option.some.injEq]at h;subst h;exact hl
     ·rw[if_neg h3]at h;simp only[Option.some.injEq]at h;subst h;simp only[Pr.fits];omega
theorem y1q {l:List Tk}(h:headOf l≠0):l.tail.length<l.length:=by obtain⟨t,r,rfl⟩:=y4x h;simp
theorem y2y {l:List Tk}(h:joinOf l≠0):l.tail.length<l.length:=by obtain⟨t,r,rfl⟩:=joinOf_cons h;simp
theorem y1a {m:jU}{l:List Tk}(h:isM m l=true):l.tail.length<l.length:=by obtain⟨t,r,rfl,_⟩:=y03 h;simp
theorem y1y:∀(n:Nat)(bd:List jU)(m:Nat)(f0:Fm)(l:List Tk)(x:Pr Fm),pFm n bd m f0 l=some x->match x with | .ok _ _ q=>(m<=1->q.length<l.length)∧q.length<=l.length | .no q=>q.length<=l.length
 | 0,_,_,_,_,_,h=>by cases h
 | n+1,bd,0,f0,l,x,h=>by
  rw[pFm]at h
  by_cases h1:headOf l=1
  ·rw[if_pos h1]at h
   have ht:=y1q (l:=l) (by omega)
   cases hy:pFm n bd 0 f00 l.tail with
   | none=>rw[hy]at h;cases h
   | some y =>
    have hl:=y1y n _ _ _ _ y hy
    rw[hy]at h
    cases y with
    | no q=>simp only[Option.some.injEq]at h;subst h;simp only at hl ⊢;omega
    | ok f fr q=>simp only[Option.some.injEq]at h;subst h;simp only at hl ⊢;have:=hl.1 (by omega);omega
  ·rw[if_neg h1]at h
   by_cases h2:headOf l=2∨headOf l=3
   ·rw[if_pos h2]at h
    have ht:=y1q (l:=l) (by omega)
    by_cases h3:isM [91] l.tail=true
    ·rw[if_pos h3]at h
     have ht2:=y1a h3
     cases hy:pVars n l.tail.tail with
     | none=>rw[hy]at h;cases h
     | some y =>
      have hl:=y4p n _ y hy
      rw[hy]at h
      cases y with
      | no q=>simp only[Option.some.injEq]at h;subst h;simp only at hl ⊢;omega
      | ok vs fr q =>
       simp only at h hl
       by_cases h4:isM [93] q=true
       ·rw[if_pos h4]at h
        have ht3:=y1a h4
        by_cases h5:isM [58] q.tail=true
        ·rw[if_pos h5]at h
         have ht4:=y1a h5
         cases hz:pFm n (vs++bd) 0 f00 q.tail.tail with
         | none=>rw[hz]at h;cases h
         | some z =>
          have hl2:=y1y n _ _ _ _ z hz
          rw[hz]at h
          cases z with
          | no q'=>simp only[Option.some.injEq]at h;subst h;simp only at hl2 ⊢;omega
          | ok f fr q'=>simp only[Option.some.injEq]at h;subst h;simp only at hl2 ⊢;have:=hl2.1 (by omega);omega
        ·rw[if_neg h5]at h;simp only[Option.some.injEq]at h;subst h;simp only;omega
       ·rw[if_neg h4]at h;simp only[Option.some.injEq]at h;subst h;simp only;omega
    ·rw[if_neg h3]at h;simp only[Option.some.injEq]at h;subst h;simp only;omega
   ·rw[if_neg h2]at h
    by_cases h3:headOf l=4
    ·rw[if_pos h3]at h;have ht:=y1q (l:=l) (by omega);simp only[Option.some.injEq]at h;subst h;simp only;omega
    ·rw[if_neg h3]at h
     by_cases h4:headOf l=5
     ·rw[if_pos h4]at h;have ht:=y1q (l:=l) (by omega);simp only[Option.some.injEq]at h;subst h;simp only;omega
     ·rw[if_neg h4]at h
      by_cases h5:headOf l=6
      ·rw[if_pos h5]at h
       have ht:=y1q (l:=l) (by omega)
       cases hy:pFm n bd 1 f00 l.tail with
       | none=>rw[hy]at h;cases h
       | some y =>
        have hl:=y1y n _ _ _ _ y hy
        rw[hy]at h
        cases y with
        | no q=>simp only[Option.some.injEq]at h;subst h;simp only at hl ⊢;omega
        | ok f fr q =>
         simp only at h hl
         have:=hl.1 (by omega)
         by_cases h6:isM [41] q=true
         ·rw[if_pos h6]at h;have:=y1a h6;simp only[Option.some.injEq]at h;subst h;simp only;omega
         ·rw[if_neg h6]at h;simp only[Option.some.injEq]at h;subst h;simp only;omega
      ·rw[if_neg h5]at h
       have:=pAtom_len h
       cases x with
       | no q=>exact this
       | ok f fr q=>simp only[Pr.fits]at this ⊢;omega
 | n+1,bd,1,f0,l,x,h=>by
  rw[pFm]at h
  cases hy:pFm n bd 0 f00 l with
  | none=>rw[hy]at h;cases h
  | some y =>
   have hl:=y1y n _ _ _ _ y hy
   rw[hy]at h
   cases y with
   | no q=>simp only[Option.some.injEq]at h;subst h;exact hl
   | ok f fr q =>
    simp only at h hl
    have hl0:=hl.1 (by omega)
    by_cases h1:joinOf q=5∨joinOf q=6
    ·rw[if_pos h1]at h
     have ht:=y2y (l:=q) (by omega)
     cases hz:pFm n bd 0 f00 q.tail with
     | none=>rw[hz]at h;cases h
     | some z =>
      have hl2:=y1y n _ _ _ _ z hz
      rw[hz]at h
      cases z with
      | no q'=>simp only[Option.some.injEq]at h;subst h;simp only at hl2 ⊢;omega
      | ok g fr' q'=>simp only[Option.some.injEq]at h;subst h;simp only at hl2 ⊢;omega
    ·rw[if_neg h1]at h
     by_cases h2:joinOf q=3∨joinOf q=4
     ·rw[if_pos h2]at h
      cases hz:pFm n bd (joinOf q) f q with
      | none=>rw[hz]at h;cases h
      | some z =>
       have hl2:=y1y n _ _ _ _ z hz
       rw[hz]at h
       cases z with
       | no q'=>simp only[Option.some.injEq]at h;subst h;simp only at hl2 ⊢;omega
       | ok g fr' q'=>simp only[Option.some.injEq]at h;subst h;simp only at hl2 ⊢;omega
     ·rw[if_neg h2]at h;simp only[Option.some.injEq]at h;subst h;simp only;omega
 | n+1,bd,m+2,f0,l,x,h=>by
  rw[pFm]at h
  by_cases h1:joinOf l=m+2
  ·rw[if_pos h1]at h
   have ht:=y2y (l:=l) (by omega)
   cases hy:pFm n bd 0 f00 l.tail with
   | none=>rw[hy]at h;cases h
   | some y =>
    have hl:=y1y n _ _ _ _ y hy
    rw[hy]at h
    cases y with
    | no q=>simp only[Option.some.injEq]at h;subst h;simp only at hl ⊢;omega
    | ok g fr q =>
     simp only at h hl
     cases hz:pFm n bd (m+2) (fOp (m+2:Nat) [f0,g]) q with
     | none=>rw[hz]at h;cases h
     | some z =>
      have hl2:=y1y n _ _ _ _ z hz
      rw[hz]at h
      cases z with
      | no q'=>simp only[Option.some.injEq]at h;subst h;simp only at hl2 ⊢;omega
      | ok g2 fr' q'=>simp only[Option.some.injEq]at h;subst h;simp only at hl2 ⊢;omega
  ·rw[if_neg h1]at h;simp only[Option.some.injEq]at h;subst h;simp only;omega
def PA (bd:List jU)(l:List Tk)(x:Pr Fm):Prop:=∃n,pAtom bd n l=some x
def PU (bd:List jU)(l:List Tk)(x:Pr Fm):Prop:=∃n,pFm n bd 0 f00 l=some x
def PF (bd:List jU)(l:List Tk)(x:Pr Fm):Prop:=∃n,pFm n bd 1 f00 l=some x
def PM (bd:List jU)(m:Nat)(f:Fm)(l:List Tk)(x:Pr Fm):Prop:=∃n,pFm n bd (m+2) f l=some x
section
variable {bd : List jU} {l q q' : List Tk} {fr fr' : List Tk} {f g : Fm} {us bs : List T}
theorem PF.one {x y:Pr Fm}(h:PF bd l x)(h':PF bd l y):x=y:=by
 obtain⟨n,h⟩:=h
 obtain⟨m,h'⟩:=h'
 have h1:=y1k h (Nat.le_max_left n m)
 have h2:=y1k h' (Nat.le_max_right n m)
 rw[h1]at h2
 exact Option.some.inj h2
theorem PU.len (h:PU bd l (.ok f fr q)):q.length<l.length:=by obtain⟨n,h⟩:=h;exact (y1y _ _ _ _ _ _ h).1 (by omega)
theorem PF.len (h:PF bd l (.ok f fr q)):q.length<l.length:=by obtain⟨n,h⟩:=h;exact (y1y _ _ _ _ _ _ h).1 (by omega)
theorem PA.first_no (h:PT bd l (.no q)):PA bd l (.no q):=by
 obtain⟨n,h⟩:=h
 exact⟨n,by simp[pAtom,h]⟩
theorem PA.eq (h:PT bd l (.ok us fr q))(hm:isM [61] q=true)(h':PT bd q.tail (.ok bs fr' q')):PA bd l (.ok (fEq (us.headD t0) (bs.headD t0)) (fr++fr') q'):=by
 obtain⟨n,h⟩:=h
 obtain⟨m,h'⟩:=h'
 exact⟨max n m,by simp[pAtom,y0k h (Nat.le_max_left n m),y0k h' (Nat.le_max_right n m),hm]⟩
theorem PA.eq_no (h:PT bd l (.ok us fr q))(hm:isM [61] q=true)(h':PT bd q.tail (.no q')):PA bd l (.no q'):=by
 obtain⟨n,h⟩:=h
 obtain⟨m,h'⟩:=h'
 exact⟨max n m,by simp[pAtom,y0k h (Nat.le_max_left n m),y0k h' (Nat.le_max_right n m),hm]⟩
theorem PA.ne (h:PT bd l (.ok us fr q))(h0:isM [61] q=false)(hm:isM [33,61] q=true)(h':PT bd q.tail (.ok bs fr' q')):PA bd l (.ok (fOp 2 [fEq (us.headD t0) (bs.headD t0)]) (fr++fr') q'):=by
 obtain⟨n,h⟩:=h
 obtain⟨m,h'⟩:=h'
 exact⟨max n m,by simp[pAtom,y0k h (Nat.le_max_left n m),y0k h' (Nat.le_max_right n m),h0,hm]⟩
theorem PA.ne_no (h:PT bd l (.ok us fr q))(h0:isM [61] q=false)(hm:isM [33,61] q=true)(h':PT bd q.tail (.no q')):PA bd l (.no q'):=by
 obtain⟨n,h⟩:=h
 obtain⟨m,h'⟩:=h'
 exact⟨max n m,by simp[pAtom,y0k h (Nat.le_max_left n m),y0k h' (Nat.le_max_right n m),h0,hm]⟩
theorem PA.pred (h:PT bd l (.ok us fr q))(h0:isM [61] q=false)(h1:isM [33,61] q=false)(hk:isK 1 l=true):PA bd l (.ok (fPred (us.headD t0)) fr q):=by
 obtain⟨n,h⟩:=h
 exact⟨n,by simp[pAtom,h,h0,h1,hk]⟩
theorem PA.alone (h:PT bd l (.ok us fr q))(h0:isM [61] q=false)(h1:isM [33,61] q=false)(hk:isK 1 l=false):PA bd l (.no q):=by
 obtain⟨n,h⟩:=h
 exact⟨n,by simp[pAtom,h,h0,h1,hk]⟩
theorem PU.not (hh:headOf l=1)(h:PU bd l.tail (.ok f fr q)):PU bd l (.ok (fOp 2 [f]) fr q):=by
 obtain⟨n,h⟩:=h
 exact⟨n+1,by simp[pFm,hh,h]⟩
theorem PU.not_no (hh:headOf l=1)(h:PU bd l.tail (.no q)):PU bd l (.no q):=by
 obtain⟨n,h⟩:=h
 exact⟨n+1,by simp[pFm,hh,h]⟩
theorem PU.q0 (hh:headOf l=2∨headOf l=3)(h1:isM [91] l.tail=false):PU bd l (.no l.tail):=⟨1,by rcases hh with h|h<;>simp[pFm,h,h1]⟩
theorem PU.q1 (hh:headOf l=2∨headOf l=3)(h1:isM [91] l.tail=true)(hv:PV l.tail.tail (.no q)):PU bd l (.no q):=by
 obtain⟨n,hv⟩:=hv
 exact⟨n+1,by rcases hh with h|h<;>simp[pFm,h,h1,hv]⟩
theorem PU.q2 (hh:headOf l=2∨headOf l=3)(h1:isM [91] l.tail=true){vs:List jU}(hv:PV l.tail.tail (.ok vs fr q))(h2:isM [93] q=false):PU bd l (.no q):=by
 obtain⟨n,hv⟩:=hv
 exact⟨n+1,by rcases hh with h|h<;>simp[pFm,h,h1,hv,h2]⟩
theorem PU.q3 (hh:headOf l=2∨headOf l=3)(h1:isM [91] l.tail=true){vs:List jU}(hv:PV l.tail.tail (.ok vs fr q))(h2:isM [93] q=true)(h3:isM [58] q.tail=false):PU bd l (.no q.tail):=by
 obtain⟨n,hv⟩:=hv
 exact⟨n+1,by rcases hh with h|h<;>simp[pFm,h,h1,hv,h2,h3]⟩
theorem PU.q4 (hh:headOf l=2∨headOf l=3)(h1:isM [91] l.tail=true){vs:List jU}(hv:PV l.tail.tail (.ok vs fr q))(h2:isM [93] q=true)(h3:isM [58] q.tail=true)(h4:PU (vs++bd) q.tail.tail (.no q')):PU bd l (.no q'):=by
 obtain⟨n,hv⟩:=hv
 obtain⟨m,h4⟩:=h4
 exact⟨max n m+1,by rcases hh with h|h<;>simp[pFm,h,h1,pVars_le hv (Nat.le_max_left n m),h2,h3,y1k h4 (Nat.le_max_right n m)]⟩
theorem PU.q5 (hh:headOf l=2∨headOf l=3)(h1:isM [91] l.tail=true){vs:List jU}(hv:PV l.tail.tail (.ok vs fr q))(h2:isM [93] q=true)(h3:isM [58] q.tail=true)(h4:PU (vs++bd) q.tail.tail (.ok f fr' q')):PU bd l (.ok (wrapQ (if headOf l=2 then 7 else 8) vs f) fr' q'):=by
 obtain⟨n,hv⟩:=hv
 obtain⟨m,h4⟩:=h4
 exact⟨max n m+1,by rcases hh with h|h<;>simp[pFm,h,h1,pVars_le hv (Nat.le_max_left n m),h2,h3,y1k h4 (Nat.le_max_right n m)]⟩
theorem PU.yes (hh:headOf l=4):PU bd l (.ok (fOp 9 []) [] l.tail):=⟨1,by simp[pFm,hh]⟩
theorem PU.nope (hh:headOf l=5):PU bd l (.ok (fOp 10 []) [] l.tail):=⟨1,by simp[pFm,hh]⟩
theorem PU.par (hh:headOf l=6)(h:PF bd l.tail (.ok f fr q))(hq:isM [41] q=true):PU bd l (.ok f fr q.tail):=by
 obtain⟨n,h⟩:=h
 exact⟨n+1,by simp[pFm,hh,h,hq]⟩
theorem PU.par_no (hh:headOf l=6)(h:PF bd l.tail (.ok f fr q))(hq:isM [41] q=false):PU bd l (.no q):=by
 obtain⟨n,h⟩:=h
 exact⟨n+1,by simp[pFm,hh,h,hq]⟩
theorem PU.in_no (hh:headOf l=6)(h:PF bd l.tail (.no q)):PU bd l (.no q):=by
 obtain⟨n,h⟩:=h
 exact⟨n+1,by simp[pFm,hh,h]⟩
theorem PU.atom (hh:headOf l=0){x:Pr Fm}(h:PA bd l x):PU bd l x:=by
 obtain⟨n,h⟩:=h
 exact⟨n+1,by simp[pFm,hh,h]⟩
theorem PF.first_no (h:PU bd l (.no q)):PF bd l (.no q):=by
 obtain⟨n,h⟩:=h
 exact⟨n+1,by simp[pFm,h]⟩
theorem PF.two (h:PU bd l (.ok f fr q))(hj:joinOf q=5∨joinOf q=6)(h':PU bd q.tail (.ok g fr' q')):PF bd l (.ok (fOp (joinOf q) [f,g]) (fr++fr') q'):=by
 obtain⟨n,h⟩:=h
 obtain⟨m,h'⟩:=h'
 exact⟨max n m+1,by simp[pFm,y1k h (Nat.le_max_left n m),hj,y1k h' (Nat.le_max_right n m)]⟩
theorem PF.two_no (h:PU bd l (.ok f fr q))(hj:joinOf q=5∨joinOf q=6)(h':PU bd q.tail (.no q')):PF bd l (.no q'):=by
 obtain⟨n,h⟩:=h
 obtain⟨m,h'⟩:=h'
 exact⟨max n m+1,by simp[pFm,y1k h (Nat.le_max_left n m),hj,y1k h' (Nat.le_max_right n m)]⟩
theorem PF.only (h:PU bd l (.ok f fr q))(hj:joinOf q=0):PF bd l (.ok f fr q):=by
 obtain⟨n,h⟩:=h
 exact⟨n+1,by simp[pFm,h,hj]⟩
theorem PF.many (h:PU bd l (.ok f fr q)){m:Nat}(hj:joinOf q=m+2)(hm:m=1∨m=2)(h':PM bd m f q (.ok g fr' q')):PF bd l (.ok g (fr++fr') q'):=by
 obtain⟨n,h⟩:=h
 obtain⟨k,h'⟩:=h'
 exact⟨max n k+1,by rcases hm with rfl|rfl<;>simp[pFm,y1k h (Nat.le_max_left n k),hj,y1k h' (Nat.le_max_right n k)]⟩
theorem PF.many_no (h:PU bd l (.ok f fr q)){m:Nat}(hj:joinOf q=m+2)(hm:m=1∨m=2)(h':PM bd m f q (.no q')):PF bd l (.no q'):=by
 obtain⟨n,h⟩:=h
 obtain⟨k,h'⟩:=h'
 exact⟨max n k+1,by rcases hm with rfl|rfl<;>simp[pFm,y1k h (Nat.le_max_left n k),hj,y1k h' (Nat.le_max_right n k)]⟩
theorem PM.stop {m:Nat}(hj:joinOf l≠m+2):PM bd m f l (.ok f [] l):=⟨1,by simp[pFm,hj]⟩
theorem PM.more {m:Nat}(hj:joinOf l=m+2)(h:PU bd l.tail (.ok g fr q)){h0:Fm}(h':PM bd m (fOp (m+2:Nat) [f,g]) q (.ok h0 fr' q')):PM bd m f l (.ok h0 (fr++fr') q'):=by
 obtain⟨n,h⟩:=h
 obtain⟨k,h'⟩:=h'
 refine⟨max n k+1,?_⟩
 rw[pFm,if_pos hj,y1k h (Nat.le_max_left n k)]
 simp only[y1k h' (Nat.le_max_right n k)]
theorem PM.more_no {m:Nat}(hj:joinOf l=m+2)(h:PU bd l.tail (.ok g fr q))(h':PM bd m (fOp (m+2:Nat) [f,g]) q (.no q')):PM bd m f l (.no q'):=by
 obtain⟨n,h⟩:=h
 obtain⟨k,h'⟩:=h'
 refine⟨max n k+1,?_⟩
 rw[pFm,if_pos hj,y1k h (Nat.le_max_left n k)]
 simp only[y1k h' (Nat.le_max_right n k)]
theorem PM.here_no {m:Nat}(hj:joinOf l=m+2)(h:PU bd l.tail (.no q)):PM bd m f l (.no q):=by
 obtain⟨n,h⟩:=h
 refine⟨n+1,?_⟩
 rw[pFm,if_pos hj,h]
end
end
