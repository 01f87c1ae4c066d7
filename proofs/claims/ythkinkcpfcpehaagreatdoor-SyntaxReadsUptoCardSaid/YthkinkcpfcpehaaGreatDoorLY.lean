import Derived.Test.YthkinkcpfcpehaaGreatDoorZS
import Derived.Test.YthkinkcpfcpehaaGreatDoorLV
import Derived.RangeFuncBox
namespace Go.Proofs.YthkinkcpfcpehaaGreatDoor.Lx
set_option maxRecDepth 100000
set_option maxHeartbeats 8000000
section
open Go.RowKit Go.Shelf
attribute [local go_sem] Oper.semAt_some
structure LI (w:World) (r0 r1 r2:Value) (E:List Nat) (v:Value) (cs:List Tk) (W:World):Prop where
 b0:Boxed W w.heap.size 47 r0
 b1:Boxed W (w.heap.size+1) 3 r1
 b2:Boxed W (w.heap.size+2) 28 r2
 b3:Boxed W (w.heap.size+3) 47 v
 row:W.ownsRow (w.heap.size+5) 57 3 v cs.length (flK cs)
 low:∀r∈E,w.heap.size+4<=r∧r<W.heap.size
 mine:∀g,v.ownBlock=some g->g∉E
 bel:Below w.heap.size w W
 size:w.heap.size+5<=W.heap.size
section
variable {w : World} {r0 r1 r2 : Value} {E : List Nat} {v : Value} {cs : List Tk} {W W' : World}
theorem y06 {W W':World}{B:Nat}{ty:TypeId}{v:Value}(h:Boxed W B ty v)(e:W'.heap[B]? =W.heap[B]?):Boxed W' B ty v:=e.trans h
theorem LI.kept (h:LI w r0 r1 r2 E v cs W){E':List Nat}{row:Option Nat}(hg:W.grownBy W' row)(hr:∀r,row=some r->r∈E)(hE:∀r∈E',r∈E∨(W.heap.size<=r∧r<W'.heap.size)):LI w r0 r1 r2 E' v cs W':=by
 have hs:=h.size
 have hgs:=hg.size
 have blk:∀k,k<w.heap.size+4->W'.heap[k]? =W.heap[k]?:=fun k hk=>hg.block k (by omega) (fun e=>by have:=(h.low k (hr k e.symm)).1;omega)
 refine⟨y06 h.b0 (blk _ (by omega)),y06 h.b1 (blk _ (by omega)),y06 h.b2 (blk _ (by omega)),y06 h.b3 (blk _ (by omega)),rkp h.row (fun g hgv=>?_),fun r hr'=>?_,fun g hgv hge=>?_,h.bel.trans ⟨hg.os,hg.tape,hg.output,hg.size,fun k hk=>blk k (by omega)⟩,by omega⟩
 ·obtain⟨_,cq,hcq⟩:=rbk h.row hgv
  exact hg.block g (jG hcq).1 (fun e=>h.mine g hgv (hr g e.symm))
 ·rcases hE r hr' with h' | h'
  ·exact⟨(h.low r h').1,jI (h.low r h').2 hg.size⟩
  ·exact⟨by omega,h'.2⟩
 ·obtain⟨_,cq,hcq⟩:=rbk h.row hgv
  have hlt:=(jG hcq).1
  rcases hE g hge with h' | h'
  ·exact h.mine g hgv h'
  ·omega
theorem LI.grow (h:LI w r0 r1 r2 E v cs W)(hb:Below W.heap.size W W'):Kept w.heap.size E W W'∧LI w r0 r1 r2 E v cs W':=
 ⟨⟨hb.mono h.bel.size,fun r hr=>hb.block r (h.low r hr).2⟩,h.kept (row:=none) ⟨hb.os,hb.tape,hb.output,hb.size,fun k hk _=>hb.block k hk⟩ (fun _ e=>by cases e) (fun _ hr=>.inl hr)⟩
theorem LI.frame (h:LI w r0 r1 r2 E v cs W){B:Nat}(hB:w.heap.size<=B∧B<w.heap.size+4)(x:Value):Kept w.heap.size E W (W.setCell ⟨B,0,none⟩ x)∧(∀k,k≠B->(W.setCell ⟨B,0,none⟩ x).heap[k]? =W.heap[k]?)∧Below w.heap.size w (W.setCell ⟨B,0,none⟩ x):=by
 have ho:∀k,k≠B->(W.setCell ⟨B,0,none⟩ x).heap[k]? =W.heap[k]?:=fun k hk=>Below.heap_setCell _ _ _ k hk
 refine⟨⟨(Below.refl _ _).setCell (p:=⟨B,0,none⟩) hB.1 _,fun r hr=>ho r (by have:=(h.low r hr).1;omega)⟩,ho,h.bel.setCell (p:=⟨B,0,none⟩) hB.1 _⟩
theorem LI.set0 (h:LI w r0 r1 r2 E v cs W)(x:Value):Kept w.heap.size E W (W.setCell ⟨w.heap.size,0,none⟩ x)∧LI w x r1 r2 E v cs (W.setCell ⟨w.heap.size,0,none⟩ x):=by
 obtain⟨k,ho,hb⟩:=h.frame (B:=w.heap.size) (by omega) x
 refine⟨k,h.b0.set x,y06 h.b1 (ho _ (by omega)),y06 h.b2 (ho _ (by omega)),y06 h.b3 (ho _ (by omega)),rkp h.row (fun g hg=>ho g (by have:=(rbk h.row hg).1;omega)),fun r hr=>?_,h.mine,hb,by simpa using h.size⟩
 simpa using h.low r hr
theorem LI.set1 (h:LI w r0 r1 r2 E v cs W)(x:Value):Kept w.heap.size E W (W.setCell ⟨w.heap.size+1,0,none⟩ x)∧LI w r0 x r2 E v cs (W.setCell ⟨w.heap.size+1,0,none⟩ x):=by
 obtain⟨k,ho,hb⟩:=h.frame (B:=w.heap.size+1) (by omega) x
 refine⟨k,y06 h.b0 (ho _ (by omega)),h.b1.set x,y06 h.b2 (ho _ (by omega)),y06 h.b3 (ho _ (by omega)),rkp h.row (fun g hg=>ho g (by have:=(rbk h.row hg).1;omega)),fun r hr=>?_,h.mine,hb,by simpa using h.size⟩
 simpa using h.low r hr
theorem LI.set2 (h:LI w r0 r1 r2 E v cs W)(x:Value):Kept w.heap.size E W (W.setCell ⟨w.heap.size+2,0,none⟩ x)∧LI w r0 r1 x E v cs (W.setCell ⟨w.heap.size+2,0,none⟩ x):=by
 obtain⟨k,ho,hb⟩:=h.frame (B:=w.heap.size+2) (by omega) x
 refine⟨k,y06 h.b0 (ho _ (by omega)),y06 h.b1 (ho _ (by omega)),h.b2.set x,y06 h.b3 (ho _ (by omega)),rkp h.row (fun g hg=>ho g (by have:=(rbk h.row hg).1;omega)),fun r hr=>?_,h.mine,hb,by simpa using h.size⟩
 simpa using h.low r hr
theorem LI.push (h:LI w r0 r1 r2 E v cs W)(x:Tk)(v':Value)(w1:World)(hown:w1.ownsRow (w.heap.size+5) 57 3 v' (cs.length+1) (flK cs++[.int .i64 x.k,.int .i64 (x.a:Nat),.string (ofL x.t)]))(hg:W.grownBy w1 v.ownBlock)(hat:v'.ownBlock=v.ownBlock∨v'.ownBlock=some W.heap.size) :
  (w1.cell? ⟨w.heap.size+3,0,none⟩=some v∧w1.frozen? ⟨w.heap.size+3,0,none⟩=false)∧Kept w.heap.size E W (w1.setCell ⟨w.heap.size+3,0,none⟩ v')∧LI w r0 r1 r2 E v' (cs++[x]) (w1.setCell ⟨w.heap.size+3,0,none⟩ v'):=by
 have hs:=h.size
 have hgs:=hg.size
 have vge:∀g,v.ownBlock=some g->w.heap.size+5<=g∧g<W.heap.size:=fun g hgv=>by
  obtain⟨h1,cq,hcq⟩:=rbk h.row hgv
  exact⟨h1,(jG hcq).1⟩
 have blk:∀k,k<W.heap.size->v.ownBlock≠some k->w1.heap[k]? =W.heap[k]?:=fun k hk hne=>hg.block k hk (fun e=>hne e.symm)
 have low4:∀k,k<w.heap.size+5->w1.heap[k]? =W.heap[k]?:=fun k hk=>blk k (by omega) (fun e=>by have:=(vge k e).1;omega)
 have p3:Boxed w1 (w.heap.size+3) 47 v:=y06 h.b3 (low4 _ (by omega))
 have ho:∀k,k≠w.heap.size+3->(w1.setCell ⟨w.heap.size+3,0,none⟩ v').heap[k]? =w1.heap[k]?:=fun k hk=>Below.heap_setCell _ _ _ k hk
 have b1:Below w.heap.size W w1:=⟨hg.os,hg.tape,hg.output,hg.size,fun k hk=>low4 k (by omega)⟩
 have b2:Below w.heap.size w1 (w1.setCell ⟨w.heap.size+3,0,none⟩ v'):=(Below.refl _ _).setCell (p:=⟨w.heap.size+3,0,none⟩) (by show w.heap.size<=w.heap.size+3;omega) _
 refine⟨⟨p3.cell,p3.frozen⟩,⟨b1.trans b2,fun r hr=>?_⟩,y06 h.b0 ((ho _ (by omega)).trans (low4 _ (by omega))),y06 h.b1 ((ho _ (by omega)).trans (low4 _ (by omega))),y06 h.b2 ((ho _ (by omega)).trans (low4 _ (by omega))),p3.set v',?_,fun r hr=>⟨(h.low r hr).1,?_⟩,fun g hgv hge=>?_,h.bel.trans (b1.trans b2),?_⟩
 ·obtain⟨l1,l2⟩:=h.low r hr
  exact (ho r (by omega)).trans (blk r l2 (fun e=>h.mine r e hr))
 ·rw[y0r,jL]
  exact rkp hown (fun g hgv=>ho g (by have:=(rbk hown hgv).1;omega))
 ·have:=(h.low r hr).2
  simp
  omega
 ·rcases hat with h1|h1
  ·exact h.mine g (h1▸hgv) hge
  ·rw[h1]at hgv
   cases hgv
   have:=(h.low _ hge).2
   omega
 ·simp
  omega
end
def LGo (w:World)(E:List Nat)(pre:List It)(W:World):Prop:=∃v cs,LI w (.slice none 0 0) (.int .i64 0) (.int .i64 0) E v cs W∧pre=cs.map fun t=>(t,0)
def LEnd (w:World)(q:List Tk × Nat × Int)(E:List Nat)(_:List It)(W:World):Prop:=∃v cs,LI w (.slice none 0 0) (.int .i64 (q.2.1:Nat)) (.int .i64 q.2.2) E v cs W∧q.2.2≠0
theorem lgo_abide (w:World):Abide (LGo w):=by
 rintro E E' s W W' row ⟨v,cs,h,hp⟩ hg hr hE
 exact⟨v,cs,h.kept hg hr hE,hp⟩
theorem lend_abide (w:World)(q:List Tk × Nat × Int):Abide (LEnd w q):=by
 rintro E E' s W W' row ⟨v,cs,h,hp⟩ hg hr hE
 exact⟨v,cs,h.kept hg hr hE,hp⟩
theorem itms_ok {q:List Tk × Nat × Int}{cs:List Tk}(h:itms q=cs.map fun t=>(t,0))(h0:q.2.2=0->q.2.1=0):q=(cs,0,0):=by
 obtain⟨ts,p,e⟩:=q
 unfold itms at h
 simp only at h h0
 by_cases he:e=0
 ·subst he
  have hp:=h0 rfl
  subst hp
  rw[if_pos rfl,List.append_nil]at h
  have:ts=cs:=by
   have h2:=congrArg (List.map Prod.fst) h
   simpa [Function.comp_def] using h2
  rw[this]
 ·rw[if_neg he]at h
  exfalso
  have h3:((⟨0,p,[]⟩:Tk),e)∈cs.map fun t=>(t,(0:Int)):=by rw[<-h];simp
  obtain⟨t,_,ht⟩:=List.mem_map.1 h3
  exact he (congrArg Prod.snd ht).symm
theorem itms_err {q:List Tk × Nat × Int}{cs:List Tk}{t:Tk}{e:Int}{rest:List It}(h:itms q=(cs.map fun t=>(t,0))++(t,e)::rest)(he:e≠0):q.2.2=e∧q.2.1=t.a:=by
 obtain⟨ts,p,x⟩:=q
 unfold itms at h
 simp only at h ⊢
 by_cases hx:x=0
 ·rw[if_pos hx,List.append_nil]at h
  exfalso
  have h3:(t,e)∈ts.map fun t=>(t,(0:Int)):=by rw[h];simp
  obtain⟨t',_,ht⟩:=List.mem_map.1 h3
  exact he (congrArg Prod.snd ht).symm
 ·rw[if_neg hx]at h
  have h3:(t,e)∈(ts.map fun t=>(t,(0:Int)))++[((⟨0,p,[]⟩:Tk),x)]:=by rw[h];simp
  rcases List.mem_append.1 h3 with h4|h4
  ·obtain⟨t',_,ht⟩:=List.mem_map.1 h4
   exact absurd (congrArg Prod.snd ht).symm he
  ·have h5:=List.mem_singleton.1 h4
   have h6:=congrArg Prod.fst h5
   have h7:=congrArg Prod.snd h5
   simp only at h6 h7
   exact⟨h7.symm,by rw[h6]⟩
theorem lexL_place:∀(m:Nat)(l:jU)(a:Nat),l.length<=m->(lexL a l).2.2=0->(lexL a l).2.1=0:=by
 intro m
 induction m with
 | zero =>
  intro l a hl _
  have:l=[]:=List.length_eq_zero_iff.1 (by omega)
  subst this
  rw[y1w]
 | succ m ih =>
  intro l a hl h
  cases l with
  | nil=>rw[y1w]
  | cons c r =>
   by_cases hb:c=32∨c=9∨c=13
   ·rw[y21 hb]at h ⊢
    exact ih r _ (by simp at hl;omega) h
   ·by_cases h2:c=37
    ·subst h2;rw[y33]
    ·by_cases h3:(rd (c::r)).e=0
     ·have e:=lexL_tok hb h2 h3 [] (a:=a)
      have e1:(lexL a (c::r)).2=(lexL (a+(rd (c::r)).n) ((c::r).drop (rd (c::r)).n)).2:=congrArg (fun z=>z.2) e
      obtain⟨n1,_⟩:=rd_n h3 (by simp)
      rw[e1]at h ⊢
      exact ih _ _ (by rw[List.length_drop];simp at hl ⊢;omega) h
     ·rw[y34 hb h2 h3]at h
      exact absurd h h3
end
section
open Go.RowKit Go.Shelf
attribute [local go_sem] Oper.semAt_some
set_option maxRecDepth 100000 in
theorem lex_any (s:ByteArray)(w:World)(hs:s.size<=2097154)(hit:(itms (lexL 0 s.data.toList)).length<=2097155):Calls Tryz.prog 54 #[.string s] w (LexP (lexL 0 s.data.toList) w):=by
 refine (callsIn_wide (n:=9)).1 ?_
 obtain⟨W0,hW0⟩:∃W0,((((w.alloc (.cells #[.slice none 0 0] 47)).alloc (.cells #[.int .i64 0] 3)).alloc (.cells #[.int .i64 0] 28)).alloc (.cells #[.slice none 0 0] 47)).alloc (.cells #[.string s] 9)=W0:=⟨_,rfl⟩
 have hsz:W0.heap.size=w.heap.size+5:=by rw[<-hW0];simp
 have hbel:Below w.heap.size w W0:=by rw[<-hW0];exact (((y0d w _ _).alloc (by simp;omega) _).alloc (by simp;omega) _).alloc (by simp;omega) _
 have hq0:Boxed W0 w.heap.size 47 (.slice none 0 0):=by rw[<-hW0];exact ((((Boxed.new w 47 _).alloc _).alloc _).alloc _).alloc _
 have hq1:Boxed W0 (w.heap.size+1) 3 (.int .i64 0):=by
  have:=(((Boxed.new (w.alloc (.cells #[.slice none 0 0] 47)) 3 (.int .i64 0)).alloc (.cells #[.int .i64 0] 28)).alloc (.cells #[.slice none 0 0] 47)).alloc (.cells #[.string s] 9)
  rw[World.size_alloc]at this
  rw[<-hW0];exact this
 have hq2:Boxed W0 (w.heap.size+2) 28 (.int .i64 0):=by
  have:=((Boxed.new ((w.alloc (.cells #[.slice none 0 0] 47)).alloc (.cells #[.int .i64 0] 3)) 28 (.int .i64 0)).alloc (.cells #[.slice none 0 0] 47)).alloc (.cells #[.string s] 9)
  rw[World.size_alloc,World.size_alloc]at this
  rw[<-hW0];exact this
 have hq3:Boxed W0 (w.heap.size+3) 47 (.slice none 0 0):=by
  have:=(Boxed.new (((w.alloc (.cells #[.slice none 0 0] 47)).alloc (.cells #[.int .i64 0] 3)).alloc (.cells #[.int .i64 0] 28)) 47 (.slice none 0 0)).alloc (.cells #[.string s] 9)
  rw[World.size_alloc,World.size_alloc,World.size_alloc]at this
  rw[<-hW0];exact this
 have hq4:W0.heap[w.heap.size+4]? =some (.cells #[.string s] 9 (0,0)):=by
  have:=(jH ((((w.alloc (.cells #[.slice none 0 0] 47)).alloc (.cells #[.int .i64 0] 3)).alloc (.cells #[.int .i64 0] 28)).alloc (.cells #[.slice none 0 0] 47)) (.cells #[.string s] 9)).1
  rw[World.size_alloc,World.size_alloc,World.size_alloc,World.size_alloc]at this
  rw[<-hW0];exact this
 have hL0:LGo w [w.heap.size+4] [] W0:=⟨.slice none 0 0,[],⟨hq0,hq1,hq2,hq3,World.ownsRow_nil _ _ _ _,by simp;omega,by simp[Value.ownBlock],hbel,by omega⟩,rfl⟩
 clear hq0 hq1 hq2 hq3
 refine callsIn_of_wp_marks Tryz.func54 rfl trivial ?_ rfl
 simp only[Tryz.ntmps54,List.size_toArray,jK,List.length_nil,Nat.reduceAdd,Nat.reduceSub,Array.replicate_succ,Array.replicate_zero,List.push_toArray,List.append_toArray,List.nil_append,List.cons_append]
 gi_wp2_with (refine⟨trivial,?_⟩;gi_at_call 92;refine (callsIn_wide.2 (tokens_any _ _)).mono ?_;rintro e w' ⟨rfl,rfl⟩)
 try simp only[World.size_alloc]
 try rw[hW0]
 clear hW0
 obtain⟨i0,hi0,hz0,hz1,hz2⟩:=info_parts Tryz.info57
 refine range_k (w0:=w) (all:=itms (lexL 0 s.data.toList)) (E0:=[w.heap.size+4]) (gf:=127) (lb:=#[.pointer (some ⟨w.heap.size+4,0,none⟩)]) 9 rfl (enters_of Tryz.func127 (by kernel_rfl) rfl) rfl
  (fun W hW=>tokens1_any w (w.heap.size+4) s W (hbel.trans (hW.mono (by omega))) ((hW.block _ (by omega)).trans hq4) hs)
  (LGo w) (LEnd w (lexL 0 s.data.toList)) (lgo_abide w) (lend_abide w _) hL0 (by omega) (fun _ _ _ h r hr=>by obtain⟨v,cs,h,_⟩:=h;exact (h.low r hr).2)
  (fun x a' W=>∃Bx,W.heap[Bx]? =some (.cells #[.int .i64 x.1.k,.int .i64 (x.1.a:Nat),.string (ofL x.1.t)] 57 (0,0))∧a' = { tmps:=#[.string s,undef,.pointer (some ⟨w.heap.size,0,none⟩),.pointer (some ⟨w.heap.size+1,0,none⟩),.pointer (some ⟨w.heap.size+2,0,none⟩),.pointer (some ⟨w.heap.size+3,0,none⟩),.pointer (some ⟨Bx,0,none⟩),.int .i64 x.2,.string s,.func (.func 127) #[] #[.pointer (some ⟨w.heap.size+4,0,none⟩)],.agg #[.int .i64 x.1.k,.int .i64 (x.1.a:Nat),.string (ofL x.1.t)],.int .i64 x.2,undef,undef,undef,undef,undef,undef,undef,undef,undef,undef],defers:=[] })
  ?hax ?assign ?body ?done ?stop
 case hax =>
  rintro x a' W l r o ⟨Bx,hbx,rfl⟩ hl
  refine⟨Bx,(World.putObj_heap_other ?_).trans hbx,rfl⟩
  rintro rfl
  rw[hbx]at hl
  cases hl
 case assign =>
  rintro l x W K hK
  gi_wp2
  refine hK _ _ (bbx W _) ⟨W.heap.size,(jH W _).1,?_⟩
  simp
 case body =>
  rintro l E pre x a' W ⟨v,cs,hi1,hpre⟩ hl hw ⟨rest,hrest⟩ ⟨Bx,hbx,rfl⟩
  obtain⟨⟨xk,xa,xt⟩,xe⟩:=x
  simp only at hbx ⊢
  have hcs:cs.length<2097155:=by
   have h1:=congrArg List.length hrest
   rw[hpre]at h1
   simp at h1
   omega
  have x0:W.cell? ⟨Bx,0,none⟩=some (.int .i64 xk):=y2b hbx rfl
  have x1:W.cell? ⟨Bx,1,none⟩=some (.int .i64 (xa:Nat)):=y2b hbx rfl
  have x2:W.cell? ⟨Bx,2,none⟩=some (.string (ofL xt)):=y2b hbx rfl
  have n0:Bx≠w.heap.size:=fun e=>by have:=hi1.b0;rw[Boxed,<-e,hbx]at this;cases this
  have n1:Bx≠w.heap.size+1:=fun e=>by have:=hi1.b1;rw[Boxed,<-e,hbx]at this;cases this
  have n2:Bx≠w.heap.size+2:=fun e=>by have:=hi1.b2;rw[Boxed,<-e,hbx]at this;cases this
  have HI:Hid (LI w (.slice none 0 0) (.int .i64 0) (.int .i64 0) E v cs W):=hi1
  have HP:Hid (pre=cs.map fun t=>(t,0)):=hpre
  clear hbel hq4 hL0 hit
  by_cases he:xe=0
  ·subst he
   have d3:=hi1.b3.cell
   obtain⟨ka,kb,rfl⟩:=rsl hi1.row
   obtain⟨j1,j2⟩:=hi1.grow (bbx W (.cells #[.int .i64 xk,.int .i64 (xa:Nat),.string (ofL xt)] 57))
   have hrow2:=j2.row
   have hsz2:=j2.size
   obtain⟨n,hn⟩:∃n,cs.length=n:=⟨_,rfl⟩
   rw[hn]at hcs d3 hrow2
   have fin:∀v' w3,w3.ownsRow (w.heap.size+5) 57 3 v' (n+1) (flK cs++[.int .i64 xk,.int .i64 (xa:Nat),.string (ofL xt)])->(W.alloc (.cells #[.int .i64 xk,.int .i64 (xa:Nat),.string (ofL xt)] 57)).grownBy w3 (Value.slice ka n kb).ownBlock->(v'.ownBlock=(Value.slice ka n kb).ownBlock∨v'.ownBlock=some (W.alloc (.cells #[.int .i64 xk,.int .i64 (xa:Nat),.string (ofL xt)] 57)).heap.size) ->
     (w3.cell? ⟨w.heap.size+3,0,none⟩=some (.slice ka n kb)∧w3.frozen? ⟨w.heap.size+3,0,none⟩=false)∧Hid (Kept w.heap.size E W (w3.setCell ⟨w.heap.size+3,0,none⟩ v')∧LGo w E (pre++[(⟨xk,xa,xt⟩,0)]) (w3.setCell ⟨w.heap.size+3,0,none⟩ v')):=by
    intro v' w3 hown hg hat
    rw[<-hn]at hown hg hat ⊢
    obtain⟨hcf,k3,h3⟩:=j2.push ⟨xk,xa,xt⟩ v' w3 hown hg hat
    exact⟨hcf,j1.trans k3,_,_,h3,by rw[HP.out];simp⟩
   obtain⟨T,hT⟩:∃T,ofL xt=T:=⟨_,rfl⟩
   rw[hT]at x2 fin hrow2 hsz2
   clear j1 j2 hi1 hn hbx hpre hrest hw hT n0 n1 n2
   gi_wp2_with (first
    | (gi_at_builtin; refine wpListIn_append_own_at _ rfl _ _ 47 rfl (w.heap.size + 5) 57 i0 _ 3 32 Tryz.underlying47 hi0 hz0 hz1 hz2 rfl (by decide) _ _ _ rfl hrow2 ⟨W.heap.size, 0, none⟩ 1 1 [.int .i64 xk, .int .i64 (xa : Nat), .string T] rfl rfl (lit3 _ _ _ _ _ _ rfl) one3 (by unfold maxLen; omega) (by omega) hsz2 ?_; intro v' w3 hown hg _ hat; obtain ⟨⟨f1, f2⟩, HF⟩ := fin v' w3 hown hg hat; obtain ⟨a', cap', rfl⟩ := rsl hown; clear hown hg hat))
   exact HF
  ·have he':(xe != 0)=true:=by simpa using he
   have he2:(xe==0)=false:=by simpa using he
   obtain⟨Wd,hWd⟩:∃X,W.drew=X:=⟨_,rfl⟩
   have HQ:Hid ((lexL 0 s.data.toList).2.2=xe∧(lexL 0 s.data.toList).2.1=xa):=itms_err (t:=⟨xk,xa,xt⟩) (by rw[<-hrest,hpre]) he
   have hbd:Below W.heap.size W Wd:=by rw[<-hWd];exact (Below.refl _ W).drew
   have hbxd:Wd.heap[Bx]? =some (.cells #[.int .i64 xk,.int .i64 (xa:Nat),.string (ofL xt)] 57 (0,0)):=by rw[<-hWd];exact hbx
   obtain⟨k1,h1⟩:=hi1.grow hbd
   obtain⟨k2,h2⟩:=h1.set0 (.slice none 0 0)
   obtain⟨k3,h3⟩:=h2.set1 (.int .i64 (xa:Nat))
   obtain⟨k4,h4⟩:=h3.set2 (.int .i64 xe)
   have HF:Hid (Kept w.heap.size E W (((Wd.setCell ⟨w.heap.size,0,none⟩ (.slice none 0 0)).setCell ⟨w.heap.size+1,0,none⟩ (.int .i64 (xa:Nat))).setCell ⟨w.heap.size+2,0,none⟩ (.int .i64 xe))∧LEnd w (lexL 0 s.data.toList) E (pre++[(⟨xk,xa,xt⟩,xe)]) (((Wd.setCell ⟨w.heap.size,0,none⟩ (.slice none 0 0)).setCell ⟨w.heap.size+1,0,none⟩ (.int .i64 (xa:Nat))).setCell ⟨w.heap.size+2,0,none⟩ (.int .i64 xe))):=
    ⟨((k1.trans k2).trans k3).trans k4,v,cs,by obtain⟨q1,q2⟩:=HQ.out;rw[q1,q2];exact h4,by rw[HQ.out.1];exact he⟩
   have y1:Wd.cell? ⟨Bx,1,none⟩=some (.int .i64 (xa:Nat)):=y2b hbxd rfl
   have hbx1:(Wd.setCell ⟨w.heap.size,0,none⟩ (.slice none 0 0)).heap[Bx]? =some (.cells #[.int .i64 xk,.int .i64 (xa:Nat),.string (ofL xt)] 57 (0,0)):=(Below.heap_setCell _ _ _ Bx n0).trans hbxd
   have y2:(Wd.setCell ⟨w.heap.size,0,none⟩ (.slice none 0 0)).cell? ⟨Bx,1,none⟩=some (.int .i64 (xa:Nat)):=y2b hbx1 rfl
   have c0:=h1.b0.cell
   have f0:=h1.b0.frozen
   have c1:=h2.b1.cell
   have f1:=h2.b1.frozen
   have c2:=h3.b2.cell
   have f2:=h3.b2.frozen
   clear hi1 hbx hpre hrest hw k1 h1 k2 h2 k3 h3 k4 h4 hbx1 hbxd x0 x1 x2 hbd n0 n1 n2
   gi_wp2
   refine wpIn_region_any (by kernel_rfl) ?_
   try (change wpAnyIn _ _ _ _ _ _ _ _ _ (World.drew _))
   rw[hWd]
   refine wpAnyIn_ready (rs:=[0,2,3]) (by kernel_rfl) (by simp) ?_
   refine AllReadyIn.cons rfl (fun K hK=>?_) ?_
   ·go_simp
    refine hK _ _ ?_
    clear hK K
    refine wpAnyIn_ready (rs:=[1,2,3]) (by kernel_rfl) (by simp) ?_
    refine AllReadyIn.cons rfl (fun K hK=>?_) ?_
    ·go_simp
     refine hK _ _ ?_
     clear hK K
     refine wpAnyIn_ready (rs:=[2,3]) (by kernel_rfl) (by simp) ?_
     refine AllReadyIn.cons rfl (fun K hK=>?_) ?_
     ·go_simp
      refine hK _ _ ?_
      clear hK K
      refine wpAnyIn_ready (rs:=[3]) (by kernel_rfl) (by simp) ?_
      refine AllReadyIn.cons rfl (fun K hK=>?_) AllReadyIn.nil
      go_simp
      refine hK _ _ ?_
      clear hK K
      refine wpAnyIn_ready (rs:=[4]) (by kernel_rfl) (by simp) ?_
      refine AllReadyIn.cons rfl (fun K hK=>?_) AllReadyIn.nil
      go_simp
      refine hK _ _ ?_
      clear hK K
      refine wpAnyIn_ready (rs:=[5]) (by kernel_rfl) (by simp) ?_
      refine AllReadyIn.cons rfl (fun K hK=>?_) AllReadyIn.nil
      go_simp
      refine hK _ _ ?_
      clear hK K
      refine wpAnyIn_done (by kernel_rfl) ?_ _
      (first|exact HF.out|(gi_wp2;exact HF.out))
     refine AllReadyIn.cons rfl (fun K hK=>?_) AllReadyIn.nil
     go_simp
     refine hK _ _ ?_
     clear hK K
     refine wpAnyIn_ready (rs:=[2,4]) (by kernel_rfl) (by simp) ?_
     refine AllReadyIn.cons rfl (fun K hK=>?_) ?_
     ·go_simp
      refine hK _ _ ?_
      clear hK K
      refine wpAnyIn_ready (rs:=[4]) (by kernel_rfl) (by simp) ?_
      refine AllReadyIn.cons rfl (fun K hK=>?_) AllReadyIn.nil
      go_simp
      refine hK _ _ ?_
      clear hK K
      refine wpAnyIn_ready (rs:=[5]) (by kernel_rfl) (by simp) ?_
      refine AllReadyIn.cons rfl (fun K hK=>?_) AllReadyIn.nil
      go_simp
      refine hK _ _ ?_
      clear hK K
      refine wpAnyIn_done (by kernel_rfl) ?_ _
      (first|exact HF.out|(gi_wp2;exact HF.out))
     refine AllReadyIn.cons rfl (fun K hK=>?_) AllReadyIn.nil
     go_simp
     refine hK _ _ ?_
     clear hK K
     refine wpAnyIn_ready (rs:=[2]) (by kernel_rfl) (by simp) ?_
     refine AllReadyIn.cons rfl (fun K hK=>?_) AllReadyIn.nil
     go_simp
     refine hK _ _ ?_
     clear hK K
     refine wpAnyIn_ready (rs:=[5]) (by kernel_rfl) (by simp) ?_
     refine AllReadyIn.cons rfl (fun K hK=>?_) AllReadyIn.nil
     go_simp
     refine hK _ _ ?_
     clear hK K
     refine wpAnyIn_done (by kernel_rfl) ?_ _
     (first|exact HF.out|(gi_wp2;exact HF.out))
    refine AllReadyIn.cons rfl (fun K hK=>?_) ?_
    ·go_simp
     refine hK _ _ ?_
     clear hK K
     refine wpAnyIn_ready (rs:=[1,3]) (by kernel_rfl) (by simp) ?_
     refine AllReadyIn.cons rfl (fun K hK=>?_) ?_
     ·go_simp
      refine hK _ _ ?_
      clear hK K
      refine wpAnyIn_ready (rs:=[3]) (by kernel_rfl) (by simp) ?_
      refine AllReadyIn.cons rfl (fun K hK=>?_) AllReadyIn.nil
      go_simp
      refine hK _ _ ?_
      clear hK K
      refine wpAnyIn_ready (rs:=[4]) (by kernel_rfl) (by simp) ?_
      refine AllReadyIn.cons rfl (fun K hK=>?_) AllReadyIn.nil
      go_simp
      refine hK _ _ ?_
      clear hK K
      refine wpAnyIn_ready (rs:=[5]) (by kernel_rfl) (by simp) ?_
      refine AllReadyIn.cons rfl (fun K hK=>?_) AllReadyIn.nil
      go_simp
      refine hK _ _ ?_
      clear hK K
      refine wpAnyIn_done (by kernel_rfl) ?_ _
      (first|exact HF.out|(gi_wp2;exact HF.out))
     refine AllReadyIn.cons rfl (fun K hK=>?_) AllReadyIn.nil
     go_simp
     refine hK _ _ ?_
     clear hK K
     refine wpAnyIn_ready (rs:=[1]) (by kernel_rfl) (by simp) ?_
     refine AllReadyIn.cons rfl (fun K hK=>?_) AllReadyIn.nil
     go_simp
     refine hK _ _ ?_
     clear hK K
     refine wpAnyIn_ready (rs:=[4]) (by kernel_rfl) (by simp) ?_
     refine AllReadyIn.cons rfl (fun K hK=>?_) AllReadyIn.nil
     go_simp
     refine hK _ _ ?_
     clear hK K
     refine wpAnyIn_ready (rs:=[5]) (by kernel_rfl) (by simp) ?_
     refine AllReadyIn.cons rfl (fun K hK=>?_) AllReadyIn.nil
     go_simp
     refine hK _ _ ?_
     clear hK K
     refine wpAnyIn_done (by kernel_rfl) ?_ _
     (first|exact HF.out|(gi_wp2;exact HF.out))
    refine AllReadyIn.cons rfl (fun K hK=>?_) AllReadyIn.nil
    go_simp
    refine hK _ _ ?_
    clear hK K
    refine wpAnyIn_ready (rs:=[1,2]) (by kernel_rfl) (by simp) ?_
    refine AllReadyIn.cons rfl (fun K hK=>?_) ?_
    ·go_simp
     refine hK _ _ ?_
     clear hK K
     refine wpAnyIn_ready (rs:=[2,4]) (by kernel_rfl) (by simp) ?_
     refine AllReadyIn.cons rfl (fun K hK=>?_) ?_
     ·go_simp
      refine hK _ _ ?_
      clear hK K
      refine wpAnyIn_ready (rs:=[4]) (by kernel_rfl) (by simp) ?_
      refine AllReadyIn.cons rfl (fun K hK=>?_) AllReadyIn.nil
      go_simp
      refine hK _ _ ?_
      clear hK K
      refine wpAnyIn_ready (rs:=[5]) (by kernel_rfl) (by simp) ?_
      refine AllReadyIn.cons rfl (fun K hK=>?_) AllReadyIn.nil
      go_simp
      refine hK _ _ ?_
      clear hK K
      refine wpAnyIn_done (by kernel_rfl) ?_ _
      (first|exact HF.out|(gi_wp2;exact HF.out))
     refine AllReadyIn.cons rfl (fun K hK=>?_) AllReadyIn.nil
     go_simp
     refine hK _ _ ?_
     clear hK K
     refine wpAnyIn_ready (rs:=[2]) (by kernel_rfl) (by simp) ?_
     refine AllReadyIn.cons rfl (fun K hK=>?_) AllReadyIn.nil
     go_simp
     refine hK _ _ ?_
     clear hK K
     refine wpAnyIn_ready (rs:=[5]) (by kernel_rfl) (by simp) ?_
     refine AllReadyIn.cons rfl (fun K hK=>?_) AllReadyIn.nil
     go_simp
     refine hK _ _ ?_
     clear hK K
     refine wpAnyIn_done (by kernel_rfl) ?_ _
     (first|exact HF.out|(gi_wp2;exact HF.out))
    refine AllReadyIn.cons rfl (fun K hK=>?_) AllReadyIn.nil
    go_simp
    refine hK _ _ ?_
    clear hK K
    refine wpAnyIn_ready (rs:=[1]) (by kernel_rfl) (by simp) ?_
    refine AllReadyIn.cons rfl (fun K hK=>?_) AllReadyIn.nil
    go_simp
    refine hK _ _ ?_
    clear hK K
    refine wpAnyIn_ready (rs:=[4]) (by kernel_rfl) (by simp) ?_
    refine AllReadyIn.cons rfl (fun K hK=>?_) AllReadyIn.nil
    go_simp
    refine hK _ _ ?_
    clear hK K
    refine wpAnyIn_ready (rs:=[5]) (by kernel_rfl) (by simp) ?_
    refine AllReadyIn.cons rfl (fun K hK=>?_) AllReadyIn.nil
    go_simp
    refine hK _ _ ?_
    clear hK K
    refine wpAnyIn_done (by kernel_rfl) ?_ _
    (first|exact HF.out|(gi_wp2;exact HF.out))
   refine AllReadyIn.cons rfl (fun K hK=>?_) ?_
   ·go_simp
    refine hK _ _ ?_
    clear hK K
    refine wpAnyIn_ready (rs:=[0,3]) (by kernel_rfl) (by simp) ?_
    refine AllReadyIn.cons rfl (fun K hK=>?_) ?_
    ·go_simp
     refine hK _ _ ?_
     clear hK K
     refine wpAnyIn_ready (rs:=[1,3]) (by kernel_rfl) (by simp) ?_
     refine AllReadyIn.cons rfl (fun K hK=>?_) ?_
     ·go_simp
      refine hK _ _ ?_
      clear hK K
      refine wpAnyIn_ready (rs:=[3]) (by kernel_rfl) (by simp) ?_
      refine AllReadyIn.cons rfl (fun K hK=>?_) AllReadyIn.nil
      go_simp
      refine hK _ _ ?_
      clear hK K
      refine wpAnyIn_ready (rs:=[4]) (by kernel_rfl) (by simp) ?_
      refine AllReadyIn.cons rfl (fun K hK=>?_) AllReadyIn.nil
      go_simp
      refine hK _ _ ?_
      clear hK K
      refine wpAnyIn_ready (rs:=[5]) (by kernel_rfl) (by simp) ?_
      refine AllReadyIn.cons rfl (fun K hK=>?_) AllReadyIn.nil
      go_simp
      refine hK _ _ ?_
      clear hK K
      refine wpAnyIn_done (by kernel_rfl) ?_ _
      (first|exact HF.out|(gi_wp2;exact HF.out))
     refine AllReadyIn.cons rfl (fun K hK=>?_) AllReadyIn.nil
     go_simp
     refine hK _ _ ?_
     clear hK K
     refine wpAnyIn_ready (rs:=[1]) (by kernel_rfl) (by simp) ?_
     refine AllReadyIn.cons rfl (fun K hK=>?_) AllReadyIn.nil
     go_simp
     refine hK _ _ ?_
     clear hK K
     refine wpAnyIn_ready (rs:=[4]) (by kernel_rfl) (by simp) ?_
     refine AllReadyIn.cons rfl (fun K hK=>?_) AllReadyIn.nil
     go_simp
     refine hK _ _ ?_
     clear hK K
     refine wpAnyIn_ready (rs:=[5]) (by kernel_rfl) (by simp) ?_
     refine AllReadyIn.cons rfl (fun K hK=>?_) AllReadyIn.nil
     go_simp
     refine hK _ _ ?_
     clear hK K
     refine wpAnyIn_done (by kernel_rfl) ?_ _
     (first|exact HF.out|(gi_wp2;exact HF.out))
    refine AllReadyIn.cons rfl (fun K hK=>?_) AllReadyIn.nil
    go_simp
    refine hK _ _ ?_
    clear hK K
    refine wpAnyIn_ready (rs:=[0]) (by kernel_rfl) (by simp) ?_
    refine AllReadyIn.cons rfl (fun K hK=>?_) AllReadyIn.nil
    go_simp
    refine hK _ _ ?_
    clear hK K
    refine wpAnyIn_ready (rs:=[1]) (by kernel_rfl) (by simp) ?_
    refine AllReadyIn.cons rfl (fun K hK=>?_) AllReadyIn.nil
    go_simp
    refine hK _ _ ?_
    clear hK K
    refine wpAnyIn_ready (rs:=[4]) (by kernel_rfl) (by simp) ?_
    refine AllReadyIn.cons rfl (fun K hK=>?_) AllReadyIn.nil
    go_simp
    refine hK _ _ ?_
    clear hK K
    refine wpAnyIn_ready (rs:=[5]) (by kernel_rfl) (by simp) ?_
    refine AllReadyIn.cons rfl (fun K hK=>?_) AllReadyIn.nil
    go_simp
    refine hK _ _ ?_
    clear hK K
    refine wpAnyIn_done (by kernel_rfl) ?_ _
    (first|exact HF.out|(gi_wp2;exact HF.out))
   refine AllReadyIn.cons rfl (fun K hK=>?_) AllReadyIn.nil
   go_simp
   refine hK _ _ ?_
   clear hK K
   refine wpAnyIn_ready (rs:=[0,2]) (by kernel_rfl) (by simp) ?_
   refine AllReadyIn.cons rfl (fun K hK=>?_) ?_
   ·go_simp
    refine hK _ _ ?_
    clear hK K
    refine wpAnyIn_ready (rs:=[1,2]) (by kernel_rfl) (by simp) ?_
    refine AllReadyIn.cons rfl (fun K hK=>?_) ?_
    ·go_simp
     refine hK _ _ ?_
     clear hK K
     refine wpAnyIn_ready (rs:=[2,4]) (by kernel_rfl) (by simp) ?_
     refine AllReadyIn.cons rfl (fun K hK=>?_) ?_
     ·go_simp
      refine hK _ _ ?_
      clear hK K
      refine wpAnyIn_ready (rs:=[4]) (by kernel_rfl) (by simp) ?_
      refine AllReadyIn.cons rfl (fun K hK=>?_) AllReadyIn.nil
      go_simp
      refine hK _ _ ?_
      clear hK K
      refine wpAnyIn_ready (rs:=[5]) (by kernel_rfl) (by simp) ?_
      refine AllReadyIn.cons rfl (fun K hK=>?_) AllReadyIn.nil
      go_simp
      refine hK _ _ ?_
      clear hK K
      refine wpAnyIn_done (by kernel_rfl) ?_ _
      (first|exact HF.out|(gi_wp2;exact HF.out))
     refine AllReadyIn.cons rfl (fun K hK=>?_) AllReadyIn.nil
     go_simp
     refine hK _ _ ?_
     clear hK K
     refine wpAnyIn_ready (rs:=[2]) (by kernel_rfl) (by simp) ?_
     refine AllReadyIn.cons rfl (fun K hK=>?_) AllReadyIn.nil
     go_simp
     refine hK _ _ ?_
     clear hK K
     refine wpAnyIn_ready (rs:=[5]) (by kernel_rfl) (by simp) ?_
     refine AllReadyIn.cons rfl (fun K hK=>?_) AllReadyIn.nil
     go_simp
     refine hK _ _ ?_
     clear hK K
     refine wpAnyIn_done (by kernel_rfl) ?_ _
     (first|exact HF.out|(gi_wp2;exact HF.out))
    refine AllReadyIn.cons rfl (fun K hK=>?_) AllReadyIn.nil
    go_simp
    refine hK _ _ ?_
    clear hK K
    refine wpAnyIn_ready (rs:=[1]) (by kernel_rfl) (by simp) ?_
    refine AllReadyIn.cons rfl (fun K hK=>?_) AllReadyIn.nil
    go_simp
    refine hK _ _ ?_
    clear hK K
    refine wpAnyIn_ready (rs:=[4]) (by kernel_rfl) (by simp) ?_
    refine AllReadyIn.cons rfl (fun K hK=>?_) AllReadyIn.nil
    go_simp
    refine hK _ _ ?_
    clear hK K
    refine wpAnyIn_ready (rs:=[5]) (by kernel_rfl) (by simp) ?_
    refine AllReadyIn.cons rfl (fun K hK=>?_) AllReadyIn.nil
    go_simp
    refine hK _ _ ?_
    clear hK K
    refine wpAnyIn_done (by kernel_rfl) ?_ _
    (first|exact HF.out|(gi_wp2;exact HF.out))
   refine AllReadyIn.cons rfl (fun K hK=>?_) AllReadyIn.nil
   go_simp
   refine hK _ _ ?_
   clear hK K
   refine wpAnyIn_ready (rs:=[0]) (by kernel_rfl) (by simp) ?_
   refine AllReadyIn.cons rfl (fun K hK=>?_) AllReadyIn.nil
   go_simp
   refine hK _ _ ?_
   clear hK K
   refine wpAnyIn_ready (rs:=[1]) (by kernel_rfl) (by simp) ?_
   refine AllReadyIn.cons rfl (fun K hK=>?_) AllReadyIn.nil
   go_simp
   refine hK _ _ ?_
   clear hK K
   refine wpAnyIn_ready (rs:=[4]) (by kernel_rfl) (by simp) ?_
   refine AllReadyIn.cons rfl (fun K hK=>?_) AllReadyIn.nil
   go_simp
   refine hK _ _ ?_
   clear hK K
   refine wpAnyIn_ready (rs:=[5]) (by kernel_rfl) (by simp) ?_
   refine AllReadyIn.cons rfl (fun K hK=>?_) AllReadyIn.nil
   go_simp
   refine hK _ _ ?_
   clear hK K
   refine wpAnyIn_done (by kernel_rfl) ?_ _
   (first|exact HF.out|(gi_wp2;exact HF.out))
 case done =>
  rintro D E W hD ⟨v,cs,hi1,hpre⟩ hDE hK
  have hq:=itms_ok hpre (lexL_place _ _ _ (jJ _))
  have HQ:Hid (lexL 0 s.data.toList=(cs,0,0)):=hq
  obtain⟨k2,h2⟩:=hi1.set0 v
  obtain⟨k3,h3⟩:=h2.set1 (.int .i64 0)
  obtain⟨k4,h4⟩:=h3.set2 (.int .i64 0)
  have dlow:=hi1.low D hDE
  obtain⟨Wf,hWf⟩:∃X,((W.setCell ⟨w.heap.size,0,none⟩ v).setCell ⟨w.heap.size+1,0,none⟩ (.int .i64 0)).setCell ⟨w.heap.size+2,0,none⟩ (.int .i64 0)=X:=⟨_,rfl⟩
  rw[hWf]at k4 h4
  have g1:Wf.heap[D]? =some (.deferred (some [])):=(((k2.trans k3).trans k4).mine D hDE).trans hK
  have po:∀k,k≠D->(Wf.putObj D (.deferred none)).heap[k]? =Wf.heap[k]?:=fun k hk=>World.putObj_heap_other hk
  have e0:=(y06 h4.b0 (po _ (by omega))).cell
  have e1:=(y06 h4.b1 (po _ (by omega))).cell
  have e2:=(y06 h4.b2 (po _ (by omega))).cell
  have hr5:=rkp h4.row (fun g hg=>po g (fun e=>h4.mine g hg (e▸hDE)))
  have HR:Hid ((KsAt (Wf.putObj D (.deferred none)) v cs∧∀b,v.ownBlock=some b->b<(Wf.putObj D (.deferred none)).heap.size)∧Below w.heap.size w (Wf.putObj D (.deferred none))):=
   ⟨⟨y26 hr5,fun b hb=>(hr5.lt b hb).2⟩,h4.bel.trans ⟨rfl,rfl,rfl,by simp,fun k hk=>po k (by omega)⟩⟩
  have c3:=hi1.b3.cell
  have c0:=hi1.b0.cell
  have f0:=hi1.b0.frozen
  have c1:=h2.b1.cell
  have f1:=h2.b1.frozen
  have c2:=h3.b2.cell
  have f2:=h3.b2.frozen
  obtain⟨va,vc,rfl⟩:=rsl hi1.row
  clear hr5 hi1 hpre hq k2 h2 k3 h3 k4 h4 hK hL0 hbel hq4 po hit
  gi_wp2
  try rw[hWf]
  refine⟨by simp,.inl ⟨_,_,rfl,run_takeDeferred g1,?_⟩⟩
  refine⟨_,by simp[results,Tryz.results54,go_sem,e0,e1,e2];rfl,?_⟩
  exact⟨_,by rw[HQ.out];rfl,by rw[HQ.out];exact HR.out.1,HR.out.2⟩
 case stop =>
  rintro D E pre W hD ⟨v,cs,hi1,he⟩ hDE hK
  have dlow:=hi1.low D hDE
  have po:∀k,k≠D->(W.putObj D (.deferred none)).heap[k]? =W.heap[k]?:=fun k hk=>World.putObj_heap_other hk
  have e0:=(y06 hi1.b0 (po _ (by omega))).cell
  have e1:=(y06 hi1.b1 (po _ (by omega))).cell
  have e2:=(y06 hi1.b2 (po _ (by omega))).cell
  have HR:Hid (Below w.heap.size w (W.putObj D (.deferred none))):=hi1.bel.trans ⟨rfl,rfl,rfl,by simp,fun k hk=>po k (by omega)⟩
  have HE:Hid ((lexL 0 s.data.toList).2.2≠0):=he
  clear hi1 hL0 hbel hq4 po hit he
  gi_wp2
  refine⟨by simp,.inl ⟨_,_,rfl,run_takeDeferred hK,?_⟩⟩
  refine⟨_,by simp[results,Tryz.results54,go_sem,e0,e1,e2];rfl,?_⟩
  exact⟨_,rfl,⟨by rw[if_neg HE.out];exact KsAt.nil _,fun b hb=>by cases hb⟩,HR.out⟩
end
