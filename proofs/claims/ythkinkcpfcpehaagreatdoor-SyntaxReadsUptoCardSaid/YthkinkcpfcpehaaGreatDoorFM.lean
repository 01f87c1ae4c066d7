import Derived.Test.YthkinkcpfcpehaaGreatDoorZS
import Derived.Test.YthkinkcpfcpehaaGreatDoorFI
import Derived.Deep.RegionLaw
namespace Go.Proofs.YthkinkcpfcpehaaGreatDoor
set_option maxRecDepth 100000
set_option maxHeartbeats 8000000
section
open Go.RowKit Go.Maps
open Lx (Tk ofL KsAt flK y0r rkp rbk rsl lit3 one3)
attribute [local go_sem] fld0 fld2
theorem sao (w:World){ops:Array Oper}{o:Oper}{a:Act}{K:Act->World->Prop}{Q:Exit->Act->World->Prop}{X:Prop}(hgd:o.guard=none)(s x:Operand)(t:TypeId)
  (ho:o.op=.call { callee:=.builtin .append,args:=#[s,x],argTypes:=#[t,t] })
  (base:Nat) (e:TypeId) (i:TypeInfo) (z:Value) (size bytes:Nat) (ht:Tryz.prog.underlying t=some (.slice e)) (hi:Tryz.prog.info? e=some i) (hz:i.zero=some z)
  (hsize:i.size=size) (hby:i.bytes=bytes) (hzs:z.cells.size=size) (hsz:0<size)
  (v:Value) (n:Nat) (xs:List Value) (hs:a.eval s=v) (hown:w.ownsRow base e size v n xs)
  (ad:Addr) (m c:Nat) (news:List Value) (hx:a.eval x=.slice (some ad) m c) (hl:news.length=m*size) (hnews:∀j u,news[j]? =some u->w.cell? (ad.add j)=some u) (h1:∀u∈news,u.oneCell'=true)
  (h63:n+m<=maxLen) (hbytes:(n+m)*bytes<=140737488355328) (hbase:base<=w.heap.size)
  (h:∀v' w',w'.ownsRow base e size v' (n+m) (xs++news)->w.grownBy w' v.ownBlock->(v'.ownBlock=v.ownBlock∨v'.ownBlock=some w.heap.size)->K (a.put o.dst v') w') :
  if Region.wanted o (yielded ops a.tmps)=true then Oper.wp Tryz.prog o a w K Q else X:=by
 rw[if_pos (by simp[Region.wanted,hgd])]
 obtain⟨v',w',hr,h2,h3,_,h5⟩:=run_append_own_at (P:=Tryz.prog) w base t o.type e i z size bytes ht hi hz hsize hby hzs hsz v n xs hown ad m c news hl hnews h1 h63 hbytes hbase
 unfold Oper.wp execOp
 simp only[ho,resolve,invoke,builtin,Sem.run_bind,Sem.run_pure,Result.andThen_ok,List.map_toArray,List.map_cons,List.map_nil,hs,hx,hr]
 exact h v' w' h2 h3 h5
theorem y2c (W:World)(o:Obj):Below W.heap.size W (W.alloc o).drew:=(bbx W o).drew
theorem term_new {E:Env}{w:World}{t:Tk}{r:List Tk}{bd:List jU}{fr:List Tk}{kb:Nat}{fv c5:Value}(h:PSt E w (t::r) bd fr kb fv c5)(hk:t.k=2)(hm:t.t∉bd)(hnew:t.t∉fr.map Tk.t) :
  Calls Tryz.prog 199 #[.pointer (some ⟨E.B,0,none⟩)] w fun e w'=>∃fv',e=.returned (tmV (.mk 0 (ofL t.t) []) (.slice none 0 0))∧PSt E w' r bd (fr++[t]) kb fv' c5∧Stay E w fv w' fv':=by
 have hN:fr.length+1+r.length<=E.N:=by have:=h.bud2;simp only[jK]at this;omega
 have ht:=(h.tok t (List.mem_cons_self ..)).len
 have hmx:=h.mx
 have hfl:(firsts fr).length<=fr.length:=by have:=firsts_len fr [];simpa [firsts] using this
 obtain⟨va,vc,hfv⟩:=rsl h.row
 have hb0:=bbx w (.cells #[.int .i64 0,.string ⟨#[]⟩,.slice none 0 0] 24)
 have h0:=h.keep hb0
 have hz:=(jH w (.cells #[.int .i64 0,.string ⟨#[]⟩,.slice none 0 0] 24)).1
 have HR:Hid (¬Own E fv w.heap.size):=h.fresh (jJ _)
 have HRn:Hid (E.n0<=w.heap.size):=by show E.n0<=w.heap.size;have:=h.ownlt (k:=E.B) (.inl rfl);omega
 obtain⟨W0,hW0⟩:∃X,w.alloc (.cells #[.int .i64 0,.string ⟨#[]⟩,.slice none 0 0] 24)=X:=⟨_,rfl⟩
 rw[hW0]at h0 hb0 hz
 obtain⟨R,hR⟩:∃R,w.heap.size=R:=⟨_,rfl⟩
 have ha:=pahead h0
 have hRl:R<W0.heap.size:=by rw[hR]at hz;exact (jG hz).1
 rw[hR]at hz HR HRn
 have H0:Hid (W0.heap[R]? =some (.cells #[.int .i64 0,.string ⟨#[]⟩,.slice none 0 0] 24 (0,0))∧R<W0.heap.size∧Stay E w fv W0 fv):=⟨hz,hRl,Stay.of_below hb0⟩
 obtain⟨tx,htx⟩:∃x,ofL t.t=x:=⟨_,rfl⟩
 simp only[tokV,hk,htx]at ha
 clear hb0 hz h0 h hRl
 go_enter Tryz.func199,Tryz.ntmps199
 go_upto_region 1 with fail
 try simp only[hR]
 try rw[hW0]
 clear hW0
 go_wp2_with fail
 refine ha.mono ?_
 rintro e W1 ⟨rfl,h1,s1⟩
 have H1:Hid (W1.heap[R]? =some (.cells #[.int .i64 0,.string ⟨#[]⟩,.slice none 0 0] 24 (0,0))∧R<W1.heap.size∧Stay E w fv W1 fv):=⟨(s1.blk R H0.out.2.1 HR.out).1.trans H0.out.1,jI H0.out.2.1 s1.size,H0.out.2.2.trans s1⟩
 have ha2:=y4m h1 hk
 simp only[tokV,hk,htx]at ha2
 clear ha h1 s1 H0
 go_wp2_with fail
 refine ha2.mono ?_
 rintro e W2 ⟨rfl,h2,s2⟩
 have H2:Hid (W2.heap[R]? =some (.cells #[.int .i64 0,.string ⟨#[]⟩,.slice none 0 0] 24 (0,0))∧R<W2.heap.size∧Stay E w fv W2 fv):=⟨(s2.blk R H1.out.2.1 HR.out).1.trans H1.out.1,jI H1.out.2.1 s2.size,H1.out.2.2.trans s2⟩
 clear ha2 s2 H1
 go_upto_region 3 with fail
 have hb3:=bbx W2 (.cells #[.int .i64 2,.int .i64 (t.a:Nat),.string tx] 57)
 have hz3:=(jH W2 (.cells #[.int .i64 2,.int .i64 (t.a:Nat),.string tx] 57)).1
 have h3:=h2.keep hb3
 have hG:¬Own E fv W2.heap.size:=h2.fresh (jJ _)
 have hGR:R≠W2.heap.size:=fun e=>by have:=H2.out.2.1;omega
 obtain⟨G,hGe⟩:∃G,W2.heap.size=G:=⟨_,rfl⟩
 rw[hGe]at hz3 hG hGR
 try simp only[hGe]
 obtain⟨W3,hW3⟩:∃X,W2.alloc (.cells #[.int .i64 2,.int .i64 (t.a:Nat),.string tx] 57)=X:=⟨_,rfl⟩
 rw[hW3]at h3 hb3 hz3 ⊢
 have H3:Hid (W3.heap[R]? =some (.cells #[.int .i64 0,.string ⟨#[]⟩,.slice none 0 0] 24 (0,0))∧R<W3.heap.size∧Stay E w fv W3 fv∧W3.heap[G]? =some (.cells #[.int .i64 2,.int .i64 (t.a:Nat),.string tx] 57 (0,0))∧¬Own E fv G∧R≠G):=⟨(hb3.block R H2.out.2.1).trans H2.out.1,jI H2.out.2.1 hb3.size,H2.out.2.2.trans (Stay.of_below hb3),hz3,hG,hGR⟩
 obtain⟨rv,hbx⟩:=h3.boxAt
 have x2:W3.cell? ⟨E.B,2,none⟩=some (.map (some E.mb)):=cst (vs:=[_,_,_,_,_,_]) hbx rfl
 have x3:W3.cell? ⟨E.B,3,none⟩=some (.map (some E.mm)):=cst (vs:=[_,_,_,_,_,_]) hbx rfl
 have xg:W3.cell? ⟨G,2,none⟩=some (.string tx):=cst (vs:=[_,_,_]) hz3 rfl
 have hd:=(Below.refl W3.heap.size W3).drew
 have h3d:=h3.keep hd
 have hme:Calls Tryz.prog 121 #[.agg #[.map (some E.mb),.map (some E.mm)],.string tx] W3.drew fun e w'=>e=.returned (.bool true)∧Hid ((∃g,Nm w' E.mm g (fr.length+1)∧∀s,(g (ofL s)).getD 0=(((fr++[t]).map Tk.t).count s:Nat))∧Only [E.mm] W3.drew w')∧w'.cell? ⟨E.B,2,none⟩=some (.map (some E.mb))∧w'.cell? ⟨E.B,3,none⟩=some (.map (some E.mm))∧w'.cell? ⟨G,2,none⟩=some (.string tx):=by
  rw[<-htx]
  refine (pmeet_free h3d ht hN hm).mono ?_
  rintro e W4 ⟨rfl,hg4,o4⟩
  have hB4:=(o4.block E.B (h3d.ownlt (.inl rfl)).2 (by simpa using fun e=>h3d.mmB e.symm)).trans hbx
  have hG4:=(o4.block G (jG H3.out.2.2.2.1).1 (fun hx=>by simp at hx;exact H3.out.2.2.2.2.1 (.inr (.inr (.inl hx))))).trans H3.out.2.2.2.1
  exact⟨by rw[decide_eq_true hnew],⟨hg4,o4⟩,cst (vs:=[_,_,_,_,_,_]) hB4 rfl,cst (vs:=[_,_,_,_,_,_]) hB4 rfl,by rw[htx];exact cst (vs:=[_,_,_]) hG4 rfl⟩
 have HP:=hid (And.intro h3d hbx)
 clear hb3 hz3 h3 h2 hG hGR hGe hW3 H2 hbx hd h3d
 go_region_held3 (fun X=>X.cell? ⟨E.B,2,none⟩=some (.map (some E.mb))∧X.cell? ⟨E.B,3,none⟩=some (.map (some E.mm))∧X.cell? ⟨G,2,none⟩=some (.string tx)) (first|exact⟨x2,x3,xg⟩|exact⟨y2,y3,yg⟩) (first|(go_at_call 121;refine hme.mono ?_;rintro e W4 ⟨rfl,HF,y2,y3,yg⟩))
 clear x2 x3 xg hme y2 y3
 subst hfv
 have hB4:W4.heap[E.B]? =_:=(HF.out.2.block E.B (HP.out.1.ownlt (.inl rfl)).2 (by simpa using fun e=>HP.out.1.mmB e.symm)).trans HP.out.2
 have hG4:W4.heap[G]? =_:=(HF.out.2.block G (jG H3.out.2.2.2.1).1 (fun hx=>by simp at hx;exact H3.out.2.2.2.2.1 (.inr (.inr (.inl hx))))).trans H3.out.2.2.2.1
 have hR4:W4.heap[R]? =_:=(HF.out.2.block R H3.out.2.1 (fun hx=>by simp at hx;exact HR.out (.inr (.inr (.inl hx))))).trans H3.out.1
 have y4:W4.cell? ⟨E.B,4,none⟩=some (.slice va (firsts fr).length vc):=cst (vs:=[_,_,_,_,_,_]) hB4 rfl
 have y4a:∀o:Obj,(W4.alloc o).cell? ⟨E.B,4,none⟩=some (.slice va (firsts fr).length vc):=fun o=>kc (bbx W4 o) (World.block_lt_of_cell? W4 _ y4) y4
 have g0:W4.cell? ⟨G,0,none⟩=some (.int .i64 2):=cst (vs:=[_,_,_]) hG4 rfl
 have g1:W4.cell? ⟨G,1,none⟩=some (.int .i64 (t.a:Nat)):=cst (vs:=[_,_,_]) hG4 rfl
 have HGR:=hid (And.intro hG4 hR4)
 clear hB4 hG4 hR4
 obtain⟨i0,hi0,hz0,hz1,hz2⟩:=info_parts Lx.Tryz.info57
 go_upto_region 4 with fail
 obtain⟨m,hmm⟩:∃m,(firsts fr).length=m:=⟨_,rfl⟩
 have hrow:W4.ownsRow E.n0 57 3 (.slice va m vc) m (flK (firsts fr)):=by
  rw[<-hmm]
  exact rkp HP.out.1.row (fun g hg=>HF.out.2.block g (HP.out.1.fvlt hg).2 (fun hx=>by simp at hx;subst hx;exact HP.out.1.fvm hg))
 have HROW:Hid (∀Y:World,Below W4.heap.size W4 Y->Y.ownsRow E.n0 57 3 (.slice va m vc) m (flK (firsts fr))):=fun Y hY=>Lx.y05 hrow hY
 have hsz4:E.n0<=W4.heap.size:=by have h1:=HP.out.1.ownlt (k:=E.B) (.inl rfl);have h2:=HF.out.2.size;omega
 have HPU:Hid (∀(w2 w3:World) (v':Value),Below W4.heap.size W4 w2->w3.ownsRow E.n0 57 3 v' (m+1) (flK (firsts fr)++[.int .i64 2,.int .i64 (t.a:Nat),.string tx])->w2.grownBy w3 (Value.slice va m vc).ownBlock->(v'.ownBlock=(Value.slice va m vc).ownBlock∨v'.ownBlock=some w2.heap.size) ->
   (w3.cell? ⟨E.B,4,none⟩=some (.slice va m vc)∧w3.frozen? ⟨E.B,4,none⟩=false)∧PSt E (w3.setCell ⟨E.B,4,none⟩ v') r bd (fr++[t]) kb v' c5∧Stay E w (.slice va m vc) (w3.setCell ⟨E.B,4,none⟩ v') v'∧(w3.setCell ⟨E.B,4,none⟩ v').heap[R]? =some (.cells #[.int .i64 0,.string ⟨#[]⟩,.slice none 0 0] 24 (0,0))∧(w3.setCell ⟨E.B,4,none⟩ v').heap[G]? =some (.cells #[.int .i64 2,.int .i64 (t.a:Nat),.string tx] 57 (0,0))∧¬Own E v' R):=by
  rintro w2 w3 v' q1 q2 q3 q4
  rw[<-hmm]at q2 q3 q4 ⊢
  rw[<-htx,<-hk]at q2
  obtain⟨a1,a2,a3⟩:=HP.out.1.pushed hN HF.out.1 HF.out.2 hnew q1 q2 q3 q4
  have hR4l:=(jG HGR.out.2).1
  have hG4l:=(jG HGR.out.1).1
  have far:∀k,k<W4.heap.size->¬Own E (.slice va (firsts fr).length vc) k->(w3.setCell ⟨E.B,4,none⟩ v').heap[k]? =W4.heap[k]?:=fun k hk hn=>(Below.heap_setCell _ _ _ k (fun e=>hn (.inl e))).trans ((q3.block k (jI hk q1.size) (fun e=>hn (.inr (.inr (.inr e.symm))))).trans (q1.block k hk))
  have hRd:R<W3.drew.heap.size:=H3.out.2.1
  exact⟨a1,a2,(H3.out.2.2.1.trans (Stay.of_below ((Below.refl W3.heap.size W3).drew))).trans a3,(far R hR4l HR.out).trans HGR.out.2,(far G hG4l H3.out.2.2.2.2.1).trans HGR.out.1,(a3.blk R hRd HR.out).2⟩
 rw[hmm]at y4 y4a hfl
 clear hrow
 try simp only[hmm]
 go_region_law (refine sao _ rfl (.tmp 26) (.tmp 28) 47 rfl E.n0 57 i0 _ 3 32 Tryz.underlying47 hi0 hz0 hz1 hz2 rfl (by decide) (.slice va m vc) m (flK (firsts fr)) rfl (HROW.out _ (y2c W4 _)) ⟨W4.heap.size,0,none⟩ 1 1 [.int .i64 2,.int .i64 (t.a:Nat),.string tx] rfl rfl (lit3 W4 _ _ _ _ 57 rfl) one3 (by unfold maxLen;omega) (by omega) (by simp;omega) ?_;intro v' w6 hrow6 hg6 hb6;obtain⟨a6x,c6x,rfl⟩:=rsl hrow6;obtain⟨⟨hc6,hf6⟩,hst6⟩:=HPU.out _ w6 _ (y2c W4 _) hrow6 hg6 hb6)
 all_goals (
  obtain⟨W7,hW7⟩:∃X,w6.setCell ⟨E.B,4,none⟩ (.slice a6x (m+1) c6x)=X:=⟨_,rfl⟩
  rw[hW7]at hst6 ⊢
  have HS:=hid hst6
  have xg7:W7.cell? ⟨G,2,none⟩=some (.string tx):=cst (vs:=[_,_,_]) HS.out.2.2.2.1 rfl
  obtain⟨⟨r0,r1,r2⟩,f0,f1,f2⟩:=y09 HS.out.2.2.1
  clear hst6 hW7 hrow6 hg6 hb6 hc6 hf6 y4 y4a g0 g1 yg
  go_wp2
  have hbx5:=box3 HS.out.2.2.1 (.int .i64 0) (.string tx) (.slice none 0 0)
  have ho5:=only3 W7 R (.int .i64 0) (.string tx) (.slice none 0 0)
  obtain⟨⟨p0,p1,p2⟩,_⟩:=y09 hbx5
  refine bodyPost_ret (v:=tmV (.mk 0 tx []) (.slice none 0 0)) (by simp[results,Tryz.results199,go_sem,p0,p1,p2,T.v,T.fn]) rfl ?_
  exact⟨_,by rw[htx],HS.out.1.write ho5 HS.out.2.2.2.2 HRn.out,by rw[hmm];exact HS.out.2.1.write ho5 (by omega)⟩)
end
section
open Go.RowKit Go.Maps
open Lx (Tk ofL KsAt flK y0r rkp rbk rsl lit3 one3)
def flT (l:List (T × Value)):List Value:=l.flatMap fun p=>[.int .i64 p.1.v,.string p.1.fn,p.2]
theorem flT_len (l:List (T × Value)):(flT l).length=l.length*3:=by
 induction l with
 | nil=>rfl
 | cons a r ih=>simp only[flT,List.flatMap_cons,jL,jK,List.length_nil]at ih ⊢;omega
theorem flT_snoc (l:List (T × Value))(p:T × Value):flT (l++[p])=flT l++[.int .i64 p.1.v,.string p.1.fn,p.2]:=by simp[flT]
theorem flT_get:∀(l:List (T × Value))(i:Nat)(h:i<l.length),(flT l)[i*3]? =some (.int .i64 l[i].1.v)∧(flT l)[i*3+1]? =some (.string l[i].1.fn)∧(flT l)[i*3+2]? =some l[i].2
 | f::l,0,_=>⟨rfl,rfl,rfl⟩
 | f::l,i+1,h=>by
  have ih:=flT_get l i (by simpa using h)
  have e:∀j,(flT (f::l))[(i+1)*3+j]? =(flT l)[i*3+j]?:=fun j=>by
   show ([.int .i64 f.1.v,.string f.1.fn,f.2]++flT l)[(i+1)*3+j]? =_
   rw[List.getElem?_append_right (by simp;omega)]
   congr 1
   simp
   omega
  exact⟨(e 0).trans ih.1,(e 1).trans ih.2.1,(e 2).trans ih.2.2⟩
theorem y40 {P:Nat->Prop}{W:World}{base:Nat}{v:Value}{l:List (T × Value)}(h:W.ownsRow base 24 3 v l.length (flT l))(hP:∀g,v.ownBlock=some g->P g)(hs:∀p∈l,ArgsP P W p.2 p.1.args):ArgsP P W v (l.map (·.1)):=by
 obtain⟨hl,⟨e,h0⟩|⟨g,cap,cur,e,hb,hg,hc,hm,hsz,ht⟩⟩:=h
 ·have:l=[]:=List.eq_nil_of_length_eq_zero h0
  subst this
  rw[e]
  exact ArgsP.nil P W
 ·subst e
  have hget:∀j u,(flT l)[j]? =some u->W.cell? ⟨g,0+j,none⟩=some u:=fun j u hj=>by
   have hjl:j<l.length*3:=by have:=(List.getElem?_eq_some_iff.1 hj).1;rwa [flT_len]at this
   rw[<-ht,List.getElem?_take,if_pos hjl]at hj
   rw[Nat.zero_add]
   rw[Array.getElem?_toList]at hj
   simp[World.cell?,hg,hj]
  have key:=ArgsP.mk (P:=P) (W:=W) (some ⟨g,0,none⟩) cap (l.map (·.1)) (fun i=>(l[i]?.map (·.2)).getD (.slice none 0 0)) (by simpa using hc) (by unfold maxLen at hm;omega) (fun _=>⟨g,0,hP g rfl,(jG hg).1,rfl,fun i hi=>by
   have hi':i<l.length:=by simpa using hi
   obtain⟨q0,q1,q2⟩:=flT_get l i hi'
   simp only[List.getElem_map,List.getElem?_eq_getElem hi',Option.map_some,Option.getD_some]
   exact⟨hget _ _ q0,hget _ _ q1,hget _ _ q2⟩⟩) (fun i hi=>by
   have hi':i<l.length:=by simpa using hi
   simp only[List.getElem_map,List.getElem?_eq_getElem hi',Option.map_some,Option.getD_some]
   exact hs _ (List.getElem_mem hi'))
  simpa using key
def Good (E:Env)(m:Nat)(fv:Value)(k:Nat):Prop:=m<=k∧¬Own E fv k
theorem Stay.good {E:Env}{W W':World}{fv fv':Value}(h:Stay E W fv W' fv'){sl:Value}{l:List T}{m:Nat}(ha:ArgsP (Good E m fv) W sl l):ArgsP (Good E m fv') W' sl l:=
 ha.keep h.size fun k hk hl=>⟨⟨hk.1,(h.blk k hl hk.2).2⟩,(h.blk k hl hk.2).1⟩
def TermP (E:Env)(w:World)(l:List Tk)(bd:List jU)(fr:List Tk)(kb:Nat)(fv c5:Value)(e:Ending)(w':World):Prop:=
 (∃t sl fr' q fv',PT bd l (.ok [t] fr' q)∧e=.returned (tmV t sl)∧ArgsP (Good E w.heap.size fv') w' sl t.args∧PSt E w' q bd (fr++fr') kb fv' c5∧Stay E w fv w' fv')∨
 (∃q fv',PT bd l (.no q)∧e=.panicked misfit∧Bx w' E.B E.n E.n0 q (.map (some E.mb)) (.map (some E.mm)) fv' c5∧Stay E w fv w' fv')
def TermsP (E:Env)(w:World)(l:List Tk)(bd:List jU)(fr:List Tk)(kb:Nat)(fv c5:Value)(e:Ending)(w':World):Prop:=
 (∃us sl fr' q fv',PTs bd l (.ok us fr' q)∧e=.returned sl∧ArgsP (Good E w.heap.size fv') w' sl us∧PSt E w' q bd (fr++fr') kb fv' c5∧Stay E w fv w' fv')∨
 (∃q fv',PTs bd l (.no q)∧e=.panicked misfit∧Bx w' E.B E.n E.n0 q (.map (some E.mb)) (.map (some E.mm)) fv' c5∧Stay E w fv w' fv')
structure Goes (bd:List jU) (l:List Tk) (us:List T) (fr q:List Tk):Prop where
 more:isM [44] q=true->∀{bs:List T} {fr' q':List Tk},PTs bd q.tail (.ok bs fr' q')->PTs bd l (.ok (us++bs) (fr++fr') q')
 no:isM [44] q=true->∀{q':List Tk},PTs bd q.tail (.no q')->PTs bd l (.no q')
 last:isM [44] q=false->PTs bd l (.ok us fr q)
 len:q.length<l.length
theorem Goes.start {bd:List jU}{l:List Tk}{us:List T}{fr q:List Tk}(h:PT bd l (.ok us fr q)):Goes bd l us fr q:=
 ⟨fun hm _ _ _ hp=>PTs.more h hm hp,fun hm _ hp=>PTs.more_no h hm hp,fun hm=>PTs.last h hm,h.len⟩
theorem Goes.step {bd:List jU}{l:List Tk}{us vs:List T}{fr fr1 q q1:List Tk}(h:Goes bd l us fr q)(hm:isM [44] q=true)(hp:PT bd q.tail (.ok vs fr1 q1)):Goes bd l (us++vs) (fr++fr1) q1:=by
 have ht:=y1a hm
 refine⟨fun hm1 _ _ _ hx=>?_,fun hm1 _ hx=>h.no hm (PTs.more_no hp hm1 hx),fun hm1=>h.more hm (PTs.last hp hm1),by have:=hp.len;have:=h.len;omega⟩
 rw[List.append_assoc,List.append_assoc]
 exact h.more hm (PTs.more hp hm1 hx)
theorem Goes.stop {bd:List jU}{l:List Tk}{us:List T}{fr q q':List Tk}(h:Goes bd l us fr q)(hm:isM [44] q=true)(hp:PT bd q.tail (.no q')):PTs bd l (.no q'):=h.no hm (PTs.first_no hp)
theorem Good.more {E:Env}{m m':Nat}{fv:Value}{W:World}{sl:Value}{l:List T}(hm:m<=m')(h:ArgsP (Good E m' fv) W sl l):ArgsP (Good E m fv) W sl l:=
 h.keep (jJ _) fun _ hk _=>⟨⟨Nat.le_trans hm hk.1,hk.2⟩,rfl⟩
theorem PSt.grown {E:Env}{W W':World}{l:List Tk}{bd:List jU}{fr:List Tk}{kb:Nat}{fv c5:Value}(h:PSt E W l bd fr kb fv c5){row:Option Nat}(hg:W.grownBy W' row)(hr:∀g,row=some g->¬Own E fv g∧E.n0<=g):PSt E W' l bd fr kb fv c5:=by
 cases row with
 | none=>exact h.keep ⟨hg.os,hg.tape,hg.output,hg.size,fun k hk=>hg.block k hk (by simp)⟩
 | some g=>exact h.write (R:=g) (Only.of_grown hg (fun r hr=>by cases hr;simp)) (hr g rfl).1 (hr g rfl).2
theorem Stay.grown {E:Env}{w W W':World}{fv fv':Value}(h:Stay E w fv W fv'){row:Option Nat}(hg:W.grownBy W' row)(hr:∀g,row=some g->w.heap.size<=g):Stay E w fv W' fv':=by
 cases row with
 | none=>exact h.trans (Stay.of_below ⟨hg.os,hg.tape,hg.output,hg.size,fun k hk=>hg.block k hk (by simp)⟩)
 | some g=>exact h.write (R:=g) (Only.of_grown hg (fun r hr=>by cases hr;simp)) (hr g rfl)
end
section
open Go.RowKit Go.Maps
open Lx (Tk ofL KsAt flK y0r rkp rbk rsl lit3)
theorem info24:(Tryz.prog.info? 24).map (fun i=>(i.zero,i.size,i.bytes))=some (some (.agg #[.int .i64 0,.string ⟨#[]⟩,.slice none 0 0]),3,48):=by kernel_rfl
theorem one3t {a:Int}{s:ByteArray}{b:Option Addr}{n c:Nat}:∀u∈[Value.int .i64 a,Value.string s,Value.slice b n c],u.oneCell'=true:=by
 intro u hu
 simp only[List.mem_cons,List.not_mem_nil,or_false]at hu
 rcases hu with rfl|rfl|rfl<;>rfl
def lenV:Value->Nat
 | .slice _ n _=>n
 | _=>0
structure PaI (E:Env) (w:World) (l:List Tk) (bd:List jU) (fr:List Tk) (kb:Nat) (fv c5:Value) (zs:List (T × Value)) (fr' q:List Tk) (fv' v:Value) (W:World):Prop where
 goes:Goes bd l (zs.map (·.1)) fr' q
 st:PSt E W q bd (fr++fr') kb fv' c5
 stay:Stay E w fv W fv'
 row:W.ownsRow E.n0 24 3 v zs.length (flT zs)
 own:∀g,v.ownBlock=some g->Good E w.heap.size fv' g
 args:∀p∈zs,ArgsP (fun k=>Good E w.heap.size fv' k∧v.ownBlock≠some k) W p.2 p.1.args
 cnt:zs.length+q.length<=l.length
theorem parted_any {E:Env}{c5:Value}(n:Nat)(IH:∀l':List Tk,l'.length<=n->∀(w:World)(bd:List jU)(fr:List Tk)(kb:Nat)(fv:Value),PSt E w l' bd fr kb fv c5->Calls Tryz.prog 199 #[.pointer (some ⟨E.B,0,none⟩)] w (TermP E w l' bd fr kb fv c5))
  {l:List Tk} (hl:l.length<=n) {w:World} {bd:List jU} {fr:List Tk} {kb:Nat} {fv:Value} (h:PSt E w l bd fr kb fv c5) :
  Calls Tryz.prog 209 #[.pointer (some ⟨E.B,0,none⟩),.func (.func 199) #[.pointer (some ⟨E.B,0,none⟩)] #[]] w (TermsP E w l bd fr kb fv c5):=by
 have ha:=IH l hl w bd fr kb fv h
 have hmx:=h.mx
 have hll:=h.bud2
 have Hn0:Hid (E.n0<=w.heap.size):=by show E.n0<=w.heap.size;have:=h.ownlt (k:=E.B) (.inl rfl);omega
 have HIH:=hid IH
 have hLm:l.length<=2097155:=by omega
 obtain⟨L,hL⟩:∃L,l.length=L:=⟨_,rfl⟩
 clear h IH hll
 go_enter Tryz.func209,Tryz.ntmps209
 go_wp2_with fail
 refine ha.mono ?_
 rintro e W1 (⟨t,sl,fr1,q,fv1,hp,rfl,a1,s1,y1⟩|⟨q,fv1,hp,rfl,b1,y1⟩)
 case inr =>
  have HF:=hid (And.intro (PTs.first_no hp) (And.intro b1 y1))
  clear ha
  go_wp2
  exact⟨rfl,.inr ⟨q,fv1,HF.out.1,rfl,HF.out.2.1,HF.out.2.2⟩⟩
 case inl =>
 obtain⟨sa,sc,rfl⟩:=a1.slice
 have hb2:=bbx W1 (.cells #[.int .i64 t.v,.string t.fn,.slice sa t.args.length sc] 24)
 have hz2:=(jH W1 (.cells #[.int .i64 t.v,.string t.fn,.slice sa t.args.length sc] 24)).1
 have HS:Hid (∃zs fr' q fv',zs.length=1∧PaI E w l bd fr kb fv c5 zs fr' q fv' (.slice (some ⟨W1.heap.size,0,none⟩) 1 1) (W1.alloc (.cells #[.int .i64 t.v,.string t.fn,.slice sa t.args.length sc] 24))):=by
  refine⟨[(t,.slice sa t.args.length sc)],fr1,q,fv1,rfl,Goes.start hp,s1.keep hb2,y1.trans (Stay.of_below hb2),?_,?_,?_,?_⟩
  ·exact⟨rfl,.inr ⟨W1.heap.size,1,_,rfl,by have:=Hn0.out;have:=y1.size;show E.n0<=W1.heap.size;omega,hz2,jJ _,by decide,rfl,rfl⟩⟩
  ·rintro g hg
   have e:=Option.some.inj hg
   simp only at e
   subst e
   exact⟨y1.size,s1.fresh (jJ _)⟩
  ·intro p hp
   simp only[List.mem_singleton]at hp
   subst hp
   exact a1.keep hb2.size fun k hk hl=>⟨⟨hk,fun e=>by have:=Option.some.inj e;simp only at this;omega⟩,hb2.block k hl⟩
  ·have:=hp.len;simp;omega
 clear ha hp a1 s1 y1 hb2 hz2
 obtain⟨i0,hi0,hz0,hz1,hz2⟩:=info_parts info24
 go_wp2
 go_loopw [5] (fun v W=>∃(k:Nat) (a:Option Addr) (c:Nat),v=.slice a k c∧Hid (∃zs fr' q fv',zs.length=k∧PaI E w l bd fr kb fv c5 zs fr' q fv' (.slice a k c) W)) (fun v _=>L-lenV v)
 case atStart=>exact⟨1,_,1,rfl,HS.out⟩
 case round =>
  obtain⟨k,va,vc,rfl,zs,fr',q,fv',hk,hI⟩:=hrel
  have HI:=hid hI
  by_cases hm:isM [44] q=true
  ·obtain⟨t1,r1,rfl,_,_⟩:=y03 hm
   have hsk:=y1e hI.st (ofL [44]) ((y13 (by simp) (by decide) (by decide) hI.st.tok).2 hm)
   have HM:=hid hm
   clear hI hm
   go_wp2_with fail
   refine hsk.mono ?_
   rintro e W2 ⟨rfl,s2,y2⟩
   have hr1:r1.length<=n:=by have:=HI.out.goes.len;simp only[jK]at this;omega
   have ha:=HIH.out r1 hr1 W2 bd (fr++fr') kb fv' s2
   have HY2:=hid (And.intro s2 y2)
   clear hsk s2 y2
   go_wp2_with fail
   refine ha.mono ?_
   rintro e W3 (⟨t,sl,fr1,q3,fv3,hp,rfl,a3,s3,y3⟩|⟨q3,fv3,hp,rfl,b3,y3⟩)
   case inr =>
    have HF:=hid (And.intro (HI.out.goes.stop HM.out hp) (And.intro b3 (HI.out.stay.trans (HY2.out.2.trans y3))))
    clear ha hp b3 y3
    go_wp2
    exact⟨rfl,.inr ⟨q3,fv3,HF.out.1,rfl,HF.out.2.1,HF.out.2.2⟩⟩
   case inl =>
   obtain⟨sa3,sc3,rfl⟩:=a3.slice
   have hb4:=bbx W3 (.cells #[.int .i64 t.v,.string t.fn,.slice sa3 t.args.length sc3] 24)
   have hvb:∀g,(Value.slice va k vc).ownBlock=some g->g<wr.heap.size∧W3.heap[g]? =wr.heap[g]?∧¬Own E fv3 g:=fun g hg=>by
    obtain⟨_,cu,hcu⟩:=rbk HI.out.row hg
    have h1:=(jG hcu).1
    obtain⟨p1,p2⟩:=HY2.out.2.blk g h1 (HI.out.own g hg).2
    obtain⟨p3,p4⟩:=y3.blk g (jI h1 HY2.out.2.size) p2
    exact⟨h1,p3.trans p1,p4⟩
   have hrow:(W3.alloc (.cells #[.int .i64 t.v,.string t.fn,.slice sa3 t.args.length sc3] 24)).ownsRow E.n0 24 3 (.slice va k vc) k (flT zs):=by
    have:=rkp HI.out.row (W':=W3) (fun g hg=>(hvb g hg).2.1)
    rw[hk]at this
    exact Lx.y05 this hb4
   have hkL:k<=2097155:=by have:=HI.out.cnt;omega
   have hz3:E.n0<=W3.heap.size:=by have:=Hn0.out;have:=(HI.out.stay.trans (HY2.out.2.trans y3)).size;omega
   have hL4:k+1+q3.length<=L:=by have h1:=HI.out.cnt;have h2:=hp.len;simp only[jK]at h1 h2;omega
   have HFIN:Hid (∀v' w1,w1.ownsRow E.n0 24 3 v' (k+1) (flT zs++[.int .i64 t.v,.string t.fn,.slice sa3 t.args.length sc3])->(W3.alloc (.cells #[.int .i64 t.v,.string t.fn,.slice sa3 t.args.length sc3] 24)).grownBy w1 (Value.slice va k vc).ownBlock->(v'.ownBlock=(Value.slice va k vc).ownBlock∨v'.ownBlock=some (W3.alloc (.cells #[.int .i64 t.v,.string t.fn,.slice sa3 t.args.length sc3] 24)).heap.size) ->
     ∃zs fr' q fv',zs.length=k+1∧PaI E w l bd fr kb fv c5 zs fr' q fv' v' w1):=by
    rintro v' w1 hown hg hat
    have hst:=(HI.out.stay.trans (HY2.out.2.trans y3)).trans (Stay.of_below hb4)
    have hsz:=hst.size
    have hold:∀g,(Value.slice va k vc).ownBlock=some g->w.heap.size<=g:=fun g hg=>(HI.out.own g hg).1
    refine⟨zs++[(t,.slice sa3 t.args.length sc3)],fr'++fr1,q3,fv3,by simp[hk],?_,?_,hst.grown hg hold,?_,?_,?_,?_⟩
    ·have:=HI.out.goes.step HM.out hp
     simpa using this
    ·rw[<-List.append_assoc]
     exact (s3.keep hb4).grown hg (fun g e=>⟨(hvb g e).2.2,by have:=hold g e;have:=Hn0.out;omega⟩)
    ·rw[flT_snoc,jL,hk];exact hown
    ·intro g hgv
     rcases hat with h1|h1
     ·exact⟨hold g (h1▸hgv),(hvb g (h1▸hgv)).2.2⟩
     ·rw[h1]at hgv
      have e:=Option.some.inj hgv
      rw[World.size_alloc]at e
      exact⟨by have:=hst.size;simp at this;omega,s3.fresh (by omega)⟩
    ·intro p hpm
     have grow:∀{P:Nat->Prop} {sl:Value} {us:List T},ArgsP P W3 sl us->(∀j,P j->j<W3.heap.size->Good E w.heap.size fv3 j∧(Value.slice va k vc).ownBlock≠some j)->ArgsP (fun j=>Good E w.heap.size fv3 j∧v'.ownBlock≠some j) w1 sl us:=fun ha hP =>
      ha.keep (Nat.le_trans hb4.size hg.size) fun j hj hjl=>by
       obtain⟨g1,g2⟩:=hP j hj hjl
       refine⟨⟨g1,fun e=>?_⟩,(hg.block j (jI hjl hb4.size) (fun e=>g2 e.symm)).trans (hb4.block j hjl)⟩
       rcases hat with h1|h1
       ·exact g2 (h1▸e)
       ·rw[h1]at e
        have:=Option.some.inj e
        rw[World.size_alloc]at this
        omega
     rcases List.mem_append.1 hpm with hpz|hpz
     ·refine grow (P:=fun j=>Good E w.heap.size fv3 j∧(Value.slice va k vc).ownBlock≠some j) ((HI.out.args p hpz).keep (Nat.le_trans HY2.out.2.size y3.size) fun j hj hjl=>?_) (fun j hj _=>hj)
      obtain⟨p1,p2⟩:=HY2.out.2.blk j hjl hj.1.2
      obtain⟨p3,p4⟩:=y3.blk j (jI hjl HY2.out.2.size) p2
      exact⟨⟨⟨hj.1.1,p4⟩,hj.2⟩,p3.trans p1⟩
     ·simp only[List.mem_singleton]at hpz
      subst hpz
      exact grow a3 fun j hj _=>⟨⟨by have:=hj.1;have:=(HI.out.stay.trans HY2.out.2).size;omega,hj.2⟩,fun e=>by have:=(hvb j e).1;have:=hj.1;have:=HY2.out.2.size;omega⟩
    ·have:=hL4;rw[<-hL]at this;simp[hk];omega
   clear ha hp a3 s3 y3 hb4 hvb
   go_wp2_with (at_builtin;refine wpList_append_own_at _ rfl _ _ 22 rfl E.n0 24 i0 _ 3 48 Tryz.underlying22 hi0 hz0 hz1 hz2 rfl (by decide) _ _ _ rfl hrow ⟨W3.heap.size,0,none⟩ 1 1 [.int .i64 t.v,.string t.fn,.slice sa3 t.args.length sc3] rfl rfl (lit3 W3 _ _ _ _ 24 rfl) one3t (by unfold maxLen;omega) (by omega) (by simp;omega) ?_;intro v' w1 hown hg _ hat;have HN:=hid (HFIN.out v' w1 hown hg hat);obtain⟨a',cap',rfl⟩:=rsl hown;clear hown hg hat)
   go_roundw
   case rel=>exact⟨k+1,a',cap',rfl,HN.out⟩
   case measure=>simp[lenV];omega
  ·have hmf:isM [44] q=false:=by simpa using hm
   have hsk:=y1v hI.st (ofL [44]) (y0u (by simp) (by decide) (by decide) hI.st.tok hmf)
   have HM:=hid hmf
   clear hI hm hmf
   go_wp2_with fail
   refine hsk.mono ?_
   rintro e W2 ⟨rfl,s2,y2⟩
   have HY2:=hid (And.intro s2 y2)
   clear hsk s2 y2
   go_wp2
   go_ret
   refine .inl ⟨zs.map (·.1),_,fr',q,fv',HI.out.goes.last HM.out,rfl,?_,HY2.out.1,HI.out.stay.trans HY2.out.2⟩
   have hvb:∀g,(Value.slice va k vc).ownBlock=some g->W2.heap[g]? =wr.heap[g]?∧¬Own E fv' g:=fun g hg=>by
    obtain⟨_,cu,hcu⟩:=rbk HI.out.row hg
    exact HY2.out.2.blk g (jG hcu).1 (HI.out.own g hg).2
   refine y40 (base:=E.n0) ?_ (fun g hg=>HI.out.own g hg) (fun p hp=>(HI.out.args p hp).keep HY2.out.2.size fun j hj hjl=>?_)
   ·exact rkp HI.out.row (fun g hg=>(hvb g hg).1)
   ·obtain⟨p1,p2⟩:=HY2.out.2.blk j hjl hj.1.2
    exact⟨hj.1,p1⟩
end
section
open Go.RowKit Go.Maps
open Lx (Tk ofL KsAt flK y0r rkp rbk rsl lit3)
attribute [local go_sem] fld0 fld2
theorem term_wrong {E:Env}{w:World}{l:List Tk}{bd:List jU}{fr:List Tk}{kb:Nat}{fv c5:Value}(h:PSt E w l bd fr kb fv c5)(h1:isK 1 l=false)(h2:isK 2 l=false) :
  Calls Tryz.prog 199 #[.pointer (some ⟨E.B,0,none⟩)] w fun e w'=>e=.panicked misfit∧PSt E w' l bd fr kb fv c5∧Stay E w fv w' fv:=by
 have hb0:=bbx w (.cells #[.int .i64 0,.string ⟨#[]⟩,.slice none 0 0] 24)
 have h0:=h.keep hb0
 obtain⟨W0,hW0⟩:∃X,w.alloc (.cells #[.int .i64 0,.string ⟨#[]⟩,.slice none 0 0] 24)=X:=⟨_,rfl⟩
 rw[hW0]at h0 hb0
 obtain⟨R,hR⟩:∃R,w.heap.size=R:=⟨_,rfl⟩
 obtain⟨k',a',x',hv,hne⟩:∃(k':Int) (a':Nat) (x':ByteArray),tokV E.n l=.agg #[.int .i64 k',.int .i64 (a':Nat),.string x']∧k'≠2:=by
  cases l with
  | nil=>exact⟨0,E.n,_,rfl,by decide⟩
  | cons t r=>exact⟨t.k,t.a,_,rfl,by simpa [isK] using h2⟩
 have ha:=pahead h0
 rw[hv]at ha
 have hk2:(k'==2)=false:=by rw[beq_eq_false_iff_ne];exact hne
 have H0:Hid (Stay E w fv W0 fv):=Stay.of_below hb0
 clear hb0 h0 h hv hne
 go_enter Tryz.func199,Tryz.ntmps199
 go_upto_region 1 with fail
 try simp only[hR]
 try rw[hW0]
 clear hW0
 go_wp2_with fail
 refine ha.mono ?_
 rintro e W1 ⟨rfl,p1,s1⟩
 have hc:=ptake_no p1 1 h1 (by decide)
 have H1:=hid (H0.out.trans s1)
 clear ha p1 s1 H0
 go_wp2_with fail
 refine hc.mono ?_
 rintro e W2 ⟨rfl,p2,s2⟩
 have H2:=hid (And.intro p2 (H1.out.trans s2))
 clear hc p2 s2 H1
 go_wp2
 exact⟨rfl,rfl,H2.out⟩
theorem term_const {E:Env}{w:World}{t:Tk}{r:List Tk}{bd:List jU}{fr:List Tk}{kb:Nat}{fv c5:Value}(h:PSt E w (t::r) bd fr kb fv c5)(hk:t.k=1)(hm:isM [40] r=false) :
  Calls Tryz.prog 199 #[.pointer (some ⟨E.B,0,none⟩)] w fun e w'=>e=.returned (tmV (.mk 0 (ofL t.t) []) (.slice none 0 0))∧PSt E w' r bd fr kb fv c5∧Stay E w fv w' fv:=by
 have hb0:=bbx w (.cells #[.int .i64 0,.string ⟨#[]⟩,.slice none 0 0] 24)
 have h0:=h.keep hb0
 have hz:=(jH w (.cells #[.int .i64 0,.string ⟨#[]⟩,.slice none 0 0] 24)).1
 have HR:Hid (¬Own E fv w.heap.size):=h.fresh (jJ _)
 have HRn:Hid (E.n0<=w.heap.size):=by show E.n0<=w.heap.size;have:=h.ownlt (k:=E.B) (.inl rfl);omega
 obtain⟨W0,hW0⟩:∃X,w.alloc (.cells #[.int .i64 0,.string ⟨#[]⟩,.slice none 0 0] 24)=X:=⟨_,rfl⟩
 rw[hW0]at h0 hb0 hz
 obtain⟨R,hR⟩:∃R,w.heap.size=R:=⟨_,rfl⟩
 have ha:=pahead h0
 have hRl:R<W0.heap.size:=by rw[hR]at hz;exact (jG hz).1
 rw[hR]at hz HR HRn
 have H0:Hid (W0.heap[R]? =some (.cells #[.int .i64 0,.string ⟨#[]⟩,.slice none 0 0] 24 (0,0))∧R<W0.heap.size∧Stay E w fv W0 fv):=⟨hz,hRl,Stay.of_below hb0⟩
 obtain⟨tx,htx⟩:∃x,ofL t.t=x:=⟨_,rfl⟩
 simp only[tokV,hk,htx]at ha
 clear hb0 hz h0 h hRl
 go_enter Tryz.func199,Tryz.ntmps199
 go_upto_region 1 with fail
 try simp only[hR]
 try rw[hW0]
 clear hW0
 go_wp2_with fail
 refine ha.mono ?_
 rintro e W1 ⟨rfl,h1,s1⟩
 have H1:Hid (W1.heap[R]? =some (.cells #[.int .i64 0,.string ⟨#[]⟩,.slice none 0 0] 24 (0,0))∧R<W1.heap.size∧Stay E w fv W1 fv):=⟨(s1.blk R H0.out.2.1 HR.out).1.trans H0.out.1,jI H0.out.2.1 s1.size,H0.out.2.2.trans s1⟩
 have ha2:=y4m h1 hk
 simp only[tokV,hk,htx]at ha2
 clear ha h1 s1 H0
 go_wp2_with fail
 refine ha2.mono ?_
 rintro e W2 ⟨rfl,h2,s2⟩
 have H2:Hid (W2.heap[R]? =some (.cells #[.int .i64 0,.string ⟨#[]⟩,.slice none 0 0] 24 (0,0))∧R<W2.heap.size∧Stay E w fv W2 fv):=⟨(s2.blk R H1.out.2.1 HR.out).1.trans H1.out.1,jI H1.out.2.1 s2.size,H1.out.2.2.trans s2⟩
 clear ha2 s2 H1
 go_upto_region 7 with fail
 have hb3:=bbx W2 (.cells #[.int .i64 0,.string tx,.slice none 0 0] 24)
 have hz3:=(jH W2 (.cells #[.int .i64 0,.string tx,.slice none 0 0] 24)).1
 have h3:=h2.keep hb3
 have hG:¬Own E fv W2.heap.size:=h2.fresh (jJ _)
 have hGR:R≠W2.heap.size:=fun e=>by have:=H2.out.2.1;omega
 obtain⟨G,hGe⟩:∃G,W2.heap.size=G:=⟨_,rfl⟩
 rw[hGe]at hz3 hG hGR
 try simp only[hGe]
 obtain⟨W3,hW3⟩:∃X,W2.alloc (.cells #[.int .i64 0,.string tx,.slice none 0 0] 24)=X:=⟨_,rfl⟩
 rw[hW3]at h3 hb3 hz3 ⊢
 have H3:Hid (W3.heap[R]? =some (.cells #[.int .i64 0,.string ⟨#[]⟩,.slice none 0 0] 24 (0,0))∧R<W3.heap.size∧Stay E w fv W3 fv∧W3.heap[G]? =some (.cells #[.int .i64 0,.string tx,.slice none 0 0] 24 (0,0))∧¬Own E fv G∧R≠G):=⟨(hb3.block R H2.out.2.1).trans H2.out.1,jI H2.out.2.1 hb3.size,H2.out.2.2.trans (Stay.of_below hb3),hz3,hG,hGR⟩
 have hsk:=y1v h3 (ofL [40]) (y0u (by simp) (by decide) (by decide) h3.tok hm)
 clear hb3 hz3 h3 h2 hG hGR hGe hW3 H2
 go_wp2_with fail
 refine hsk.mono ?_
 rintro e W4 ⟨rfl,h4,s4⟩
 have hR4:=(s4.blk R H3.out.2.1 HR.out).1.trans H3.out.1
 have hG4:=(s4.blk G (jG H3.out.2.2.2.1).1 H3.out.2.2.2.2.1).1.trans H3.out.2.2.2.1
 obtain⟨⟨r0,r1,r2⟩,f0,f1,f2⟩:=y09 hR4
 obtain⟨⟨q0,q1,q2⟩,_⟩:=y09 hG4
 have HF:=hid (And.intro h4 (And.intro (H3.out.2.2.1.trans s4) hR4))
 clear hsk h4 s4 hR4 hG4
 go_wp2
 have hbx5:=box3 HF.out.2.2 (.int .i64 0) (.string tx) (.slice none 0 0)
 have ho5:=only3 W4 R (.int .i64 0) (.string tx) (.slice none 0 0)
 obtain⟨⟨p0,p1,p2⟩,_⟩:=y09 hbx5
 refine bodyPost_ret (v:=tmV (.mk 0 tx []) (.slice none 0 0)) (by simp[results,Tryz.results199,go_sem,p0,p1,p2,T.v,T.fn]) rfl ?_
 exact⟨by rw[htx],HF.out.1.write ho5 HR.out HRn.out,HF.out.2.1.write ho5 (by omega)⟩
end
