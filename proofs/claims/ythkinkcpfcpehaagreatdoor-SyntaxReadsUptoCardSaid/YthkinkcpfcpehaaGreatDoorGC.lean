import Derived.Test.YthkinkcpfcpehaaGreatDoorZS
import Derived.Test.YthkinkcpfcpehaaGreatDoorFY
import Derived.Test.YthkinkcpfcpehaaGreatDoorGN
import Derived.Deep.RegionHeld3
import Derived.Deep.RegionWith
namespace Go.Proofs.YthkinkcpfcpehaaGreatDoor
set_option maxRecDepth 100000
set_option maxHeartbeats 8000000
section
open Go.RowKit
open Lx (Tk ofL)
def PieceP (E:Env)(w:World)(PX:Pr Fm->Prop)(bd:List jU)(fr:List Tk)(fv c5:Value)(e:Ending)(w':World):Prop:=
 (∃f p fr' q kb' fv',PX (.ok f fr' q)∧e=.returned (.pointer (some ⟨p,0,none⟩))∧PcP (Good E w.heap.size fv') w' p f∧PSt E w' q bd (fr++fr') kb' fv' c5∧Stay E w fv w' fv')∨
 (∃q fv',PX (.no q)∧e=.panicked misfit∧Bx w' E.B E.n E.n0 q (.map (some E.mb)) (.map (some E.mm)) fv' c5∧Stay E w fv w' fv')
section
variable {E : Env} {X : World} {q : List Tk} {bd : List jU} {fr : List Tk} {kb : Nat} {fv c5 : Value} {m : Nat}
theorem Good.new (h:PSt E X q bd fr kb fv c5)(hm:m<=X.heap.size){j:Nat}(hj:X.heap.size<=j):Good E m fv j:=⟨by omega,h.fresh hj⟩
theorem peq_any (h:PSt E X q bd fr kb fv c5)(hm:m<=X.heap.size){l r:T}{sl sr:Value}(hl:ArgsP (Good E m fv) X sl l.args)(hr:ArgsP (Good E m fv) X sr r.args)(s1:Short l)(s2:Short r)(hb:l.size+r.size<=4611686018427387903) :
  Calls Tryz.prog 200 #[tval l sl,tval r sr] X fun e w'=>∃p,e=.returned (.pointer (some ⟨p,0,none⟩))∧PcP (Good E m fv) w' p (fEq l r)∧PSt E w' q bd fr kb fv c5∧Stay E X fv w' fv:=by
 refine (equation_any hl hr s1 s2 (by rw[y47];omega)).mono ?_
 rintro e w' ⟨p,he,hp,hz,hbl⟩
 exact⟨p,he,⟨⟨_,_,_,hz,⟨hl.grow hbl,hr.grow hbl,KidsP.nil _ _⟩⟩,Good.new h hm hp⟩,h.keep hbl,Stay.of_below hbl⟩
theorem y4o (h:PSt E X q bd fr kb fv c5)(hm:m<=X.heap.size){k:Int}(hk:k≠1){nm:ByteArray}{ps:List (Nat × Fm)}(hn:ps.length<=2){a:Option Addr}{c:Nat}(hc:ps.length<=c)(hcm:c<=maxLen)(hrow:∀i (h:i<ps.length),∃g,a=some ⟨g,0,none⟩∧X.cell? ⟨g,i,none⟩=some (.pointer (some ⟨ps[i].1,0,none⟩)))
  (hp:∀x∈ps,PcP (Good E m fv) X x.1 x.2) (hb:Fm.size.sizes (ps.map (·.2))<=4611686018427387903) :
  Calls Tryz.prog 30 #[.int .i64 k,.string nm,.slice a ps.length c] X fun e w'=>∃p,e=.returned (.pointer (some ⟨p,0,none⟩))∧PcP (Good E m fv) w' p (.mk k nm t0 t0 (ps.map (·.2)))∧PSt E w' q bd fr kb fv c5∧Stay E X fv w' fv:=by
 have hD:∃D:List Pc,D.length=ps.length∧(∀i (h:i<D.length) (h':i<ps.length),D[i].p=ps[i].1)∧D.map Pc.f=ps.map (·.2)∧∀x∈D,X.heap[x.p]? =some (.cells (pcells x.f x.sl x.sr x.sk) 59 (0,0))∧FmP (Good E m fv) X x.f x.sl x.sr x.sk:=by
  clear hrow hb hn hc
  induction ps with
  | nil=>exact⟨[],rfl,fun i h=>absurd h (by simp),rfl,fun x hx=>by cases hx⟩
  | cons x r ih =>
   obtain⟨D,h1,h2,h3,h4⟩:=ih (fun y hy=>hp y (by simp[hy]))
   obtain⟨sl,sr,sk,hz,hf⟩:=(hp x (by simp)).at_
   refine⟨⟨x.1,x.2,sl,sr,sk⟩::D,by simp[h1],fun i hi hi'=>?_,by simp[h3],fun y hy=>?_⟩
   ·cases i with
    | zero=>rfl
    | succ i=>simpa using h2 i (by simpa using hi) (by simpa using hi')
   ·rcases List.mem_cons.1 hy with rfl|hy
    ·exact⟨hz,hf⟩
    ·exact h4 y hy
 obtain⟨D,h1,h2,h3,h4⟩:=hD
 have hds:∀l:List Fm,Fm.depth.depths l<=Fm.size.sizes l:=by
  intro l
  induction l with
  | nil=>rw[Fm.depth.depths,Fm.size.sizes];decide
  | cons a r ih=>rw[Fm.depth.depths,Fm.size.sizes];have:=y28 a;have:=y12 r;have:=y37 a;have:=y0w r;omega
 have hdd:=hds (ps.map (·.2))
 have key:=y3z (k:=k) (nm:=nm) (D:=D) (a:=a) (c:=c) (w:=X) (P:=Good E m fv) hk (by omega) (by omega) hcm (fun i hi=>by
  obtain⟨g,hg,hcl⟩:=hrow i (by omega)
  exact⟨g,hg,by rw[h2 i hi (by omega)];exact hcl⟩) h4 (by rw[h3];omega) (by rw[h3];omega)
 rw[h1,h3]at key
 refine key.mono ?_
 rintro e w' ⟨he,hpc,hbl⟩
 exact⟨_,he,hpc.keep (jJ _) (fun j hj hl=>⟨hj.elim id (Good.new h hm),rfl⟩),h.keep hbl,Stay.of_below hbl⟩
theorem pcomp1 (h:PSt E X q bd fr kb fv c5)(hm:m<=X.heap.size){k:Int}(hk:k≠1){nm:ByteArray}{p g:Nat}{f:Fm}(hrow:X.cell? ⟨g,0,none⟩=some (.pointer (some ⟨p,0,none⟩)))(hp:PcP (Good E m fv) X p f)(hb:f.size<=4611686018427387903) :
  Calls Tryz.prog 30 #[.int .i64 k,.string nm,.slice (some ⟨g,0,none⟩) 1 1] X fun e w'=>∃p,e=.returned (.pointer (some ⟨p,0,none⟩))∧PcP (Good E m fv) w' p (.mk k nm t0 t0 [f])∧PSt E w' q bd fr kb fv c5∧Stay E X fv w' fv:=by
 have hr:∀i (h:i < [(p,f)].length),∃g',(some ⟨g,0,none⟩:Option Addr)=some ⟨g',0,none⟩∧X.cell? ⟨g',i,none⟩=some (.pointer (some ⟨[(p,f)][i].1,0,none⟩)):=by
  intro i hi
  have:i=0:=by simp at hi;omega
  subst this
  exact⟨g,rfl,hrow⟩
 exact y4o (ps:=[(p,f)]) (c:=1) h hm hk (by simp) (by simp) (by decide) hr (fun x hx=>by simp at hx;subst hx;exact hp) (by show Fm.size.sizes [f]<=_;rw[Fm.size.sizes,Fm.size.sizes];omega)
theorem pcomp2 (h:PSt E X q bd fr kb fv c5)(hm:m<=X.heap.size){k:Int}(hk:k≠1){nm:ByteArray}{p p' g:Nat}{f f':Fm}(hrow:X.cell? ⟨g,0,none⟩=some (.pointer (some ⟨p,0,none⟩)))(hrow':X.cell? ⟨g,1,none⟩=some (.pointer (some ⟨p',0,none⟩)))(hp:PcP (Good E m fv) X p f)(hp':PcP (Good E m fv) X p' f')(hb:f.size+f'.size<=4611686018427387903) :
  Calls Tryz.prog 30 #[.int .i64 k,.string nm,.slice (some ⟨g,0,none⟩) 2 2] X fun e w'=>∃p,e=.returned (.pointer (some ⟨p,0,none⟩))∧PcP (Good E m fv) w' p (.mk k nm t0 t0 [f,f'])∧PSt E w' q bd fr kb fv c5∧Stay E X fv w' fv:=by
 have hr:∀i (h:i < [(p,f),(p',f')].length),∃g',(some ⟨g,0,none⟩:Option Addr)=some ⟨g',0,none⟩∧X.cell? ⟨g',i,none⟩=some (.pointer (some ⟨[(p,f),(p',f')][i].1,0,none⟩)):=by
  intro i hi
  have:i=0∨i=1:=by simp at hi;omega
  rcases this with rfl|rfl
  ·exact⟨g,rfl,hrow⟩
  ·exact⟨g,rfl,hrow'⟩
 exact y4o (ps:=[(p,f),(p',f')]) (c:=2) h hm hk (by simp) (by simp) (by decide) hr (fun x hx=>by
  simp at hx
  rcases hx with rfl|rfl
  ·exact hp
  ·exact hp') (by show Fm.size.sizes [f,f']<=_;rw[Fm.size.sizes,Fm.size.sizes,Fm.size.sizes];omega)
theorem pcomp0 (h:PSt E X q bd fr kb fv c5)(hm:m<=X.heap.size){k:Int}(hk:k≠1){nm:ByteArray} :
  Calls Tryz.prog 30 #[.int .i64 k,.string nm,.slice none 0 0] X fun e w'=>∃p,e=.returned (.pointer (some ⟨p,0,none⟩))∧PcP (Good E m fv) w' p (.mk k nm t0 t0 [])∧PSt E w' q bd fr kb fv c5∧Stay E X fv w' fv:=
 y4o (ps:=[]) h hm hk (by simp) (by simp) (by decide) (fun i hi=>absurd hi (by simp)) (fun x hx=>by cases hx) (by show Fm.size.sizes []<=_;rw[Fm.size.sizes];decide)
theorem Stay.pc {E:Env}{W W':World}{fv fv':Value}(h:Stay E W fv W' fv'){p:Nat}{f:Fm}{m:Nat}(ha:PcP (Good E m fv) W p f):PcP (Good E m fv') W' p f:=
 ha.keep h.size fun k hk hl=>⟨⟨hk.1,(h.blk k hl hk.2).2⟩,(h.blk k hl hk.2).1⟩
theorem PcP.low {E:Env}{m m':Nat}{fv:Value}{W:World}{p:Nat}{f:Fm}(hm:m<=m')(h:PcP (Good E m' fv) W p f):PcP (Good E m fv) W p f:=
 h.keep (jJ _) fun _ hk _=>⟨⟨Nat.le_trans hm hk.1,hk.2⟩,rfl⟩
theorem PT.short {bd:List jU}{l q:List Tk}{fr:List Tk}{t:T}(h:PT bd l (.ok [t] fr q))(hl:l.length<=2097155):Short t∧t.size<=2097155:=by
 obtain⟨t',ht,h1,h2⟩:=PT.single h
 cases ht
 exact⟨y30 (by omega),by omega⟩
end
end
section
open Go.RowKit
open Lx (Tk ofL)
theorem PT.total {bd:List jU}:∀(n:Nat)(l:List Tk),l.length<=n->(∃x,PT bd l x)∧∃x,PTs bd l x:=by
 intro n
 induction n with
 | zero =>
  intro l hl
  have:l=[]:=List.eq_nil_of_length_eq_zero (by omega)
  subst this
  exact⟨⟨_,PT.nil⟩,_,PTs.first_no PT.nil⟩
 | succ n ih =>
  intro l hl
  have h1:∃x,PT bd l x:=by
   cases l with
   | nil=>exact⟨_,PT.nil⟩
   | cons t r =>
    by_cases h2:t.k=2
    ·exact⟨_,PT.var h2⟩
    ·by_cases h1:t.k=1
     ·cases hm:isM [40] r with
      | false=>exact⟨_,PT.const h1 hm⟩
      | true =>
       obtain⟨x,hx⟩:=(ih r.tail (by simp only[jK]at hl;rw[List.length_tail];omega)).2
       cases x with
       | no q=>exact⟨_,PT.args_no h1 hm hx⟩
       | ok us fr q =>
        cases hq:isM [41] q with
        | true=>exact⟨_,PT.fn h1 hm hx hq⟩
        | false=>exact⟨_,PT.fn_no h1 hm hx hq⟩
     ·exact⟨_,PT.wrong h1 h2⟩
  refine⟨h1,?_⟩
  obtain⟨x,hx⟩:=h1
  cases x with
  | no q=>exact⟨_,PTs.first_no hx⟩
  | ok us fr q =>
   cases hq:isM [44] q with
   | false=>exact⟨_,PTs.last hx hq⟩
   | true =>
    obtain⟨t1,r1,rfl,_,_⟩:=y03 hq
    have:=hx.len
    obtain⟨y,hy⟩:=(ih r1 (by simp only[jK]at this;omega)).2
    cases y with
    | no q'=>exact⟨_,PTs.more_no hx hq (by simpa using hy)⟩
    | ok bs fr' q'=>exact⟨_,PTs.more hx hq (by simpa using hy)⟩
section
variable {E : Env} {w : World} {l q : List Tk} {bd : List jU} {fr fr' : List Tk} {kb : Nat} {fv c5 : Value}
theorem term_ok (h:PSt E w l bd fr kb fv c5){t:T}(hp:PT bd l (.ok [t] fr' q)) :
  Calls Tryz.prog 199 #[.pointer (some ⟨E.B,0,none⟩)] w fun e w'=>∃sl fv',e=.returned (tval t sl)∧ArgsP (Good E w.heap.size fv') w' sl t.args∧PSt E w' q bd (fr++fr') kb fv' c5∧Stay E w fv w' fv':=by
 refine (term_any _ l (jJ _) w bd fr kb fv h).mono ?_
 rintro e w' (⟨t',sl,fr1,q1,fv1,hp1,he,ha,hs,hy⟩|⟨q1,fv1,hp1,_⟩)
 ·have:=PT.one hp hp1
  cases this
  exact⟨sl,fv1,he,ha,hs,hy⟩
 ·have:=PT.one hp hp1
  cases this
theorem term_no (h:PSt E w l bd fr kb fv c5)(hp:PT bd l (.no q)) :
  Calls Tryz.prog 199 #[.pointer (some ⟨E.B,0,none⟩)] w fun e w'=>e=.panicked misfit∧∃fv',Bx w' E.B E.n E.n0 q (.map (some E.mb)) (.map (some E.mm)) fv' c5∧Stay E w fv w' fv':=by
 refine (term_any _ l (jJ _) w bd fr kb fv h).mono ?_
 rintro e w' (⟨t',sl,fr1,q1,fv1,hp1,_⟩|⟨q1,fv1,hp1,he,hb,hy⟩)
 ·have:=PT.one hp hp1
  cases this
 ·have:=PT.one hp hp1
  cases this
  exact⟨he,fv1,hb,hy⟩
theorem tok_form (n:Nat)(l:List Tk):∃(kd a:Int)(s:ByteArray),tokV n l=.agg #[.int .i64 kd,.int .i64 a,.string s]∧(kd==1)=isK 1 l:=by
 cases l with
 | nil=>exact⟨0,_,_,rfl,rfl⟩
 | cons t r=>exact⟨t.k,_,_,rfl,rfl⟩
theorem PSt.llen (h:PSt E w l bd fr kb fv c5):l.length<=2097155:=by have h1:=h.bud;have h2:=h.mx;omega
structure GBox (E:Env) (w:World) (G:Nat) (t:T) (sl:Value) (fv:Value) (W:World):Prop where
 box:W.heap[G]? =some (.cells #[.int .i64 t.v,.string t.fn,sl] 24 (0,0))
 own:¬Own E fv G
 lo:w.heap.size<=G
 args:ArgsP (fun k=>Good E w.heap.size fv k∧k≠G) W sl t.args
theorem GBox.cells {E:Env}{w:World}{G:Nat}{t:T}{sl:Value}{fv:Value}{W:World}(h:GBox E w G t sl fv W):W.cell? ⟨G,0,none⟩=some (.int .i64 t.v)∧W.cell? ⟨G,1,none⟩=some (.string t.fn)∧W.cell? ⟨G,2,none⟩=some sl:=(y09 h.box).1
theorem GBox.stay {E:Env}{w:World}{G:Nat}{t:T}{sl:Value}{fv fv':Value}{W W':World}(h:GBox E w G t sl fv W)(hs:Stay E W fv W' fv'):GBox E w G t sl fv' W':=
 have hb:=hs.blk G (jG h.box).1 h.own
 ⟨hb.1.trans h.box,hb.2,h.lo,h.args.keep hs.size fun k hk hl=>⟨⟨⟨hk.1.1,(hs.blk k hl hk.1.2).2⟩,hk.2⟩,(hs.blk k hl hk.1.2).1⟩⟩
theorem GBox.start (h:PSt E w l bd fr kb fv c5){w0:World}(hs:w0.heap.size<=w.heap.size){t:T}{sl:Value}(ha:ArgsP (Good E w0.heap.size fv) w sl t.args):GBox E w0 w.heap.size t sl fv (w.alloc (.cells #[.int .i64 t.v,.string t.fn,sl] 24)):=
 ⟨(jH w _).1,h.fresh (jJ _),hs,ha.keep (bbx w _).size fun k hk hl=>⟨⟨hk,by omega⟩,(bbx w _).block k hl⟩⟩
theorem GBox.good {E:Env}{w:World}{G:Nat}{t:T}{sl:Value}{fv:Value}{W:World}(h:GBox E w G t sl fv W):ArgsP (Good E w.heap.size fv) W sl t.args:=h.args.keep (jJ _) fun _k hk _=>⟨hk.1,rfl⟩
end
end
section
open Go.RowKit Go.Maps
open Lx (Tk ofL KsAt flK y0r rkp rbk rsl)
attribute [local go_sem] fld0 fld2
theorem PT.name {bd:List jU}{l q:List Tk}{fr:List Tk}{t:T}(h:PT bd l (.ok [t] fr q)):∃tk∈l,t.fn=ofL tk.t:=by
 obtain⟨n,h⟩:=h
 cases n with
 | zero=>cases h
 | succ n =>
  cases l with
  | nil=>simp[pTerm]at h
  | cons tk r =>
   refine⟨tk,List.mem_cons_self ..,?_⟩
   simp only[pTerm]at h
   repeat' split at h
   all_goals simp at h
   all_goals (rw[<-h.1];rfl)
theorem atom_any {E:Env}{w:World}{l:List Tk}{bd:List jU}{fr:List Tk}{kb:Nat}{fv c5:Value}(h:PSt E w l bd fr kb fv c5) :
  Calls Tryz.prog 175 #[.pointer (some ⟨E.B,0,none⟩)] w (PieceP E w (PA bd l) bd fr fv c5):=by
 have HL:=hid (And.intro h.llen fun tk htk=>(h.tok tk htk).len63)
 have HN:Hid (E.n0<=w.heap.size):=by show E.n0<=w.heap.size;have:=h.ownlt (k:=E.B) (.inl rfl);omega
 obtain⟨kd,ka,ks,htk,hkd⟩:=tok_form E.n l
 have ha:=pahead h
 rw[htk]at ha
 obtain⟨nb,hnb⟩:∃nb,isK 1 l=nb:=⟨_,rfl⟩
 rw[hnb]at hkd
 clear htk h
 go_enter Tryz.func175,Tryz.ntmps175
 go_wp2_with fail
 refine ha.mono ?_
 rintro e W1 ⟨rfl,h1,s1⟩
 have H1:=hid s1
 clear ha s1
 go_upto_region 2 with fail
 try simp only[hkd]
 obtain⟨x,hx⟩:=(PT.total (bd:=bd) _ l (jJ _)).1
 cases x with
 | no q =>
  have ht:=term_no h1 hx
  have HX:=hid hx
  clear h1 hx
  go_wp2_with fail
  refine ht.mono ?_
  rintro e W2 ⟨rfl,fv1,b2,y2⟩
  have HF:=hid (And.intro b2 (H1.out.trans y2))
  clear ht b2 y2
  go_wp2
  exact⟨rfl,.inr ⟨q,fv1,PA.first_no HX.out,rfl,HF.out.1,HF.out.2⟩⟩
 | ok us fr1 q =>
 obtain⟨t,rfl,-,-⟩:=PT.single hx
 have ht:=term_ok h1 hx
 have HX:=hid (And.intro hx (PT.short hx HL.out.1))
 clear h1 hx
 go_wp2_with fail
 refine ht.mono ?_
 rintro e W2 ⟨sl,fv1,rfl,a2,h2,y2⟩
 obtain⟨sa,sc,rfl⟩:=a2.slice
 have hs02:=(H1.out.trans y2).size
 have hB:=GBox.start h2 hs02 (Good.more H1.out.size a2)
 have h3:=h2.keep (bbx W2 (.cells #[.int .i64 t.v,.string t.fn,.slice sa t.args.length sc] 24))
 have H3:=hid (And.intro hB ((H1.out.trans y2).trans (Stay.of_below (bbx W2 (.cells #[.int .i64 t.v,.string t.fn,.slice sa t.args.length sc] 24)))))
 clear ht a2 h2 y2 hB
 go_upto_region 3 with fail
 obtain⟨G,hG⟩:∃G,W2.heap.size=G:=⟨_,rfl⟩
 obtain⟨W3,hW3⟩:∃X,W2.alloc (.cells #[.int .i64 t.v,.string t.fn,.slice sa t.args.length sc] 24)=X:=⟨_,rfl⟩
 rw[hG,hW3]at H3
 rw[hW3]at h3
 try simp only[hG]
 rw[hW3]
 clear hW3 hG hs02 H1
 have HB3:=H3.out.1
 by_cases hq:isM [61] q=true
 ·have HQ:=hid hq
  obtain⟨t1,r1,rfl,_,_⟩:=y03 hq
  have hsk:=y1e h3 (ofL [61]) ((y13 (by simp) (by decide) (by decide) h3.tok).2 hq)
  obtain⟨x,hx2⟩:=(PT.total (bd:=bd) _ r1 (jJ _)).1
  clear h3 hq HB3
  go_wp2_with fail
  refine hsk.mono ?_
  rintro e W4 ⟨rfl,h4,s4⟩
  have hdr:=(Below.refl W4.heap.size W4).drew
  have h4d:=h4.keep hdr
  have y4d:=(H3.out.2.trans s4).trans (Stay.of_below (E:=E) (a:=fv1) hdr)
  have B4:=(H3.out.1.stay s4).stay (Stay.of_below (E:=E) (a:=fv1) hdr)
  obtain⟨x0,x1,x2⟩:=B4.cells
  have hr1:=HX.out.1.len
  simp only[jK]at hr1
  have hlr:r1.length<=2097155:=by have:=HL.out.1;omega
  clear hsk
  cases x with
  | no q2 =>
   have ht2:=term_no h4d hx2
   have HF0:=hid (And.intro y4d hx2)
   clear h4 s4 h4d hx2 y4d B4 hr1 hlr
   go_wp2
   refine wp_region_held_drew (S:=fun X=>X.cell? ⟨G,0,none⟩=some (.int .i64 t.v)∧X.cell? ⟨G,1,none⟩=some (.string t.fn)∧X.cell? ⟨G,2,none⟩=some (.slice sa t.args.length sc)) (by kernel_rfl) ⟨x0,x1,x2⟩ (fun hHeld=>?_)
   refine wpAnyH_take (i:=0) (v:=tval t (.slice sa t.args.length sc)) rfl (by kernel_rfl) (by kernel_rfl) (by kernel_rfl) (fun _ _ _ h=>h) (Or.inl ⟨by rfl,?_⟩) (by assumption) ?_
   ·intro w hSw;(try dsimp only at hSw);go_simp
   try simp only[Act.put,jD]
   refine wpAnyH_take (i:=1) (v:=.pointer (some ⟨E.B,0,none⟩)) rfl (by kernel_rfl) (by kernel_rfl) (by kernel_rfl) (fun _ _ _ h=>h) (Or.inl ⟨by rfl,?_⟩) (by assumption) ?_
   ·intro w hSw;(try dsimp only at hSw);go_simp
   try simp only[Act.put]
   refine wpAnyH_ready (rs:=[2]) (by kernel_rfl) (by simp) ?_
   refine AllReadyH.cons rfl (fun K hK=>?_) AllReadyH.nil
   go_simp
   refine ht2.mono ?_
   rintro e W5 ⟨rfl,fv2,b5,y5⟩
   exact⟨rfl,.inr ⟨q2,fv2,PA.eq_no HX.out.1 HQ.out HF0.out.2,rfl,b5,HF0.out.1.trans y5⟩⟩
  | ok us2 fr2 q2 =>
   obtain⟨b,rfl,-,-⟩:=PT.single hx2
   have ht2:=term_ok h4d hx2
   have HX2:=hid (And.intro hx2 (PT.short hx2 hlr))
   have hsz:t.size+b.size<=4611686018427387903:=by have h1:=HX.out.2.2;have h2:=HX2.out.2.2;omega
   have hz4:=y4d.size
   have HB4:=hid (And.intro B4 y4d)
   clear h4 s4 h4d hx2 y4d B4 hr1 hlr
   go_wp2
   go_region_held3 (fun X=>X.cell? ⟨G,0,none⟩=some (.int .i64 t.v)∧X.cell? ⟨G,1,none⟩=some (.string t.fn)∧X.cell? ⟨G,2,none⟩=some (.slice sa t.args.length sc)) (first|exact⟨x0,x1,x2⟩|exact⟨y0,y1,y2⟩|exact⟨z0,z1,z2⟩) (first
    | (go_at_call 200; refine (peq_any HF5.out.2.2.1 hz5 HF5.out.1.good (Good.more hz4 HF5.out.2.1) HX.out.2.1 HX2.out.2.1 hsz).mono ?_; rintro e W6 ⟨p, rfl, p6, h6, y6⟩; obtain ⟨z0, z1, z2⟩ := (HF5.out.1.stay y6).cells; have HF6 := hid (And.intro p6 (And.intro h6 (HF5.out.2.2.2.trans y6))); clear p6 h6 y6)
    | (go_at_call 199; refine ht2.mono ?_; rintro e W5 ⟨sb, fv2, rfl, a5, h5, y5⟩; obtain ⟨y0, y1, y2⟩ := (HB4.out.1.stay y5).cells; have hz5 := (HB4.out.2.trans y5).size; have HF5 := hid (And.intro (HB4.out.1.stay y5) (And.intro a5 (And.intro h5 (HB4.out.2.trans y5)))); clear a5 h5 y5))
   go_wp2
   go_ret
   have hs6:=HF6.out.2.1
   rw[List.append_assoc]at hs6
   exact .inl ⟨fEq t b,p,fr1++fr2,q2,kb,fv2,PA.eq HX.out.1 HQ.out HX2.out.1,rfl,HF6.out.1,hs6,HF6.out.2.2⟩
 ·have hqf:isM [61] q=false:=by simpa using hq
  have hsk:=y1v h3 (ofL [61]) (y0u (by simp) (by decide) (by decide) h3.tok hqf)
  have HQ0:=hid hqf
  clear h3 hq hqf HB3
  go_wp2_with fail
  refine hsk.mono ?_
  rintro e W4 ⟨rfl,h4,s4⟩
  have H4:=hid (And.intro (H3.out.1.stay s4) (H3.out.2.trans s4))
  clear hsk s4 H3
  by_cases hq:isM [33,61] q=true
  ·have HQ:=hid hq
   obtain⟨t1,r1,rfl,_,_⟩:=y03 hq
   have hsk:=y1e h4 (ofL [33,61]) ((y13 (by simp) (by decide) (by decide) h4.tok).2 hq)
   obtain⟨x,hx2⟩:=(PT.total (bd:=bd) _ r1 (jJ _)).1
   clear h4 hq
   go_wp2_with fail
   refine hsk.mono ?_
   rintro e W5 ⟨rfl,h5,s5⟩
   have hdr:=(Below.refl W5.heap.size W5).drew
   have h5d:=h5.keep hdr
   have y5d:=(H4.out.2.trans s5).trans (Stay.of_below (E:=E) (a:=fv1) hdr)
   have B5:=(H4.out.1.stay s5).stay (Stay.of_below (E:=E) (a:=fv1) hdr)
   obtain⟨x0,x1,x2⟩:=B5.cells
   have hr1:=HX.out.1.len
   simp only[jK]at hr1
   have hlr:r1.length<=2097155:=by have:=HL.out.1;omega
   clear hsk
   cases x with
   | no q2 =>
    have ht2:=term_no h5d hx2
    have HF0:=hid (And.intro y5d hx2)
    clear h5 s5 h5d hx2 y5d B5 hr1 hlr
    go_wp2
    refine wp_region_held_drew (S:=fun X=>X.cell? ⟨G,0,none⟩=some (.int .i64 t.v)∧X.cell? ⟨G,1,none⟩=some (.string t.fn)∧X.cell? ⟨G,2,none⟩=some (.slice sa t.args.length sc)) (by kernel_rfl) ⟨x0,x1,x2⟩ (fun hHeld=>?_)
    refine wpAnyH_take (i:=0) (v:=tval t (.slice sa t.args.length sc)) rfl (by kernel_rfl) (by kernel_rfl) (by kernel_rfl) (fun _ _ _ h=>h) (Or.inl ⟨by rfl,?_⟩) (by assumption) ?_
    ·intro w hSw;(try dsimp only at hSw);go_simp
    try simp only[Act.put,jD]
    refine wpAnyH_take (i:=1) (v:=.pointer (some ⟨E.B,0,none⟩)) rfl (by kernel_rfl) (by kernel_rfl) (by kernel_rfl) (fun _ _ _ h=>h) (Or.inl ⟨by rfl,?_⟩) (by assumption) ?_
    ·intro w hSw;(try dsimp only at hSw);go_simp
    try simp only[Act.put]
    refine wpAnyH_ready (rs:=[2]) (by kernel_rfl) (by simp) ?_
    refine AllReadyH.cons rfl (fun K hK=>?_) AllReadyH.nil
    go_simp
    refine ht2.mono ?_
    rintro e W6 ⟨rfl,fv2,b6,y6⟩
    exact⟨rfl,.inr ⟨q2,fv2,PA.ne_no HX.out.1 HQ0.out HQ.out HF0.out.2,rfl,b6,HF0.out.1.trans y6⟩⟩
   | ok us2 fr2 q2 =>
    obtain⟨b,rfl,-,-⟩:=PT.single hx2
    have ht2:=term_ok h5d hx2
    have HX2:=hid (And.intro hx2 (PT.short hx2 hlr))
    have hsz:t.size+b.size<=4611686018427387902:=by have h1:=HX.out.2.2;have h2:=HX2.out.2.2;omega
    have hsz':(fEq t b).size<=4611686018427387903:=by rw[y47];omega
    have hsz2:t.size+b.size<=4611686018427387903:=by omega
    have hz4:=y5d.size
    have HB4:=hid (And.intro B5 y5d)
    clear h5 s5 h5d hx2 y5d B5 hr1 hlr hsz
    go_wp2
    go_region_held3 (fun X=>X.cell? ⟨G,0,none⟩=some (.int .i64 t.v)∧X.cell? ⟨G,1,none⟩=some (.string t.fn)∧X.cell? ⟨G,2,none⟩=some (.slice sa t.args.length sc)) (first|exact⟨x0,x1,x2⟩|exact⟨y0,y1,y2⟩|exact⟨z0,z1,z2⟩|exact⟨kc (bbx W7 _) hG7 z0,kc (bbx W7 _) hG7 z1,kc (bbx W7 _) hG7 z2⟩|exact⟨u0,u1,u2⟩) (first
     | (go_at_call 30; refine (pcomp1 (HF7.out.2.1.keep (bbx W7 _)) hz7 (by decide) (csR (vs := [_]) (jH W7 _).1 rfl) (HF7.out.1.grow (bbx W7 _)) hsz').mono ?_; rintro e W8 ⟨p2, rfl, p8, h8, y8⟩; obtain ⟨u0, u1, u2⟩ := ((HF7.out.2.2.2.stay (Stay.of_below (bbx W7 _))).stay y8).cells; have HF8 := hid (And.intro p8 (And.intro h8 (HF7.out.2.2.1.trans ((Stay.of_below (bbx W7 _)).trans y8)))); clear p8 h8 y8)
     | (go_at_call 200; refine (peq_any HF6.out.2.2.1 hz6 HF6.out.1.good (Good.more hz4 HF6.out.2.1) HX.out.2.1 HX2.out.2.1 hsz2).mono ?_; rintro e W7 ⟨p, rfl, p7, h7, y7⟩; obtain ⟨z0, z1, z2⟩ := (HF6.out.1.stay y7).cells; have hG7 := World.block_lt_of_cell? W7 _ z0; have hz7 : w.heap.size <= (W7.alloc (.cells #[.pointer (some ⟨p, 0, none⟩)] 53)).heap.size := Nat.le_trans (HF6.out.2.2.2.trans y7).size (bbx W7 _).size; have HF7 := hid (And.intro p7 (And.intro h7 (And.intro (HF6.out.2.2.2.trans y7) (HF6.out.1.stay y7)))); clear p7 h7 y7)
     | (go_at_call 199; refine ht2.mono ?_; rintro e W6 ⟨sb, fv2, rfl, a6, h6, y6⟩; obtain ⟨y0, y1, y2⟩ := (HB4.out.1.stay y6).cells; have hz6 := (HB4.out.2.trans y6).size; have HF6 := hid (And.intro (HB4.out.1.stay y6) (And.intro a6 (And.intro h6 (HB4.out.2.trans y6)))); clear a6 h6 y6))
    go_wp2
    go_ret
    have hs6:=HF8.out.2.1
    rw[List.append_assoc]at hs6
    exact .inl ⟨fOp 2 [fEq t b],p2,fr1++fr2,q2,kb,fv2,PA.ne HX.out.1 HQ0.out HQ.out HX2.out.1,rfl,HF8.out.1,hs6,HF8.out.2.2⟩
  ·have hqf:isM [33,61] q=false:=by simpa using hq
   have hsk:=y1v h4 (ofL [33,61]) (y0u (by simp) (by decide) (by decide) h4.tok hqf)
   have HQ:=hid hqf
   clear h4 hq hqf
   cases nb with
   | false =>
    go_wp2_with fail
    refine hsk.mono ?_
    rintro e W5 ⟨rfl,h5,s5⟩
    have HF:=hid (And.intro h5.bx (H4.out.2.trans s5))
    clear hsk h5 s5
    go_wp2
    exact⟨rfl,.inr ⟨q,fv1,PA.alone HX.out.1 HQ0.out HQ.out hnb,rfl,HF.out.1,HF.out.2⟩⟩
   | true =>
    go_wp2_with fail
    refine hsk.mono ?_
    rintro e W5 ⟨rfl,h5,s5⟩
    have hB5:=H4.out.1.stay s5
    have hG5:=hB5.box
    obtain⟨⟨x0,x1,x2⟩,f0,f1,f2⟩:=y09 hG5
    have ho:=y07 (Below.refl _ W5) G 1 (.string (⟨#[64]⟩++t.fn))
    have hG6:=heap_setCell_same W5 G 1 _ 24 (.string (⟨#[64]⟩++t.fn)) hG5
    have h6:=h5.write ho hB5.own (Nat.le_trans HN.out hB5.lo)
    have a6:ArgsP (Good E w.heap.size fv1) (W5.setCell ⟨G,1,none⟩ (.string (⟨#[64]⟩++t.fn))) (.slice sa t.args.length sc) t.args:=hB5.args.keep ho.size (fun k hk hl=>⟨hk.1,ho.block k hl (by simpa using hk.2)⟩)
    have y6:=(H4.out.2.trans s5).write ho hB5.lo
    simp only[jD,jF,jE]at hG6
    obtain⟨⟨z0,z1,z2⟩,-⟩:=y09 hG6
    have hz6:=y6.size
    obtain⟨W6,hW6⟩:∃X,W5.setCell ⟨G,1,none⟩ (.string (⟨#[64]⟩++t.fn))=X:=⟨_,rfl⟩
    rw[hW6]at h6 a6 y6 z0 z1 z2 hz6
    have hdp:(T.mk t.v (⟨#[64]⟩++t.fn) t.args).depth=t.depth:=by rw[T.depth_eq,T.depth_eq];rfl
    have hsz:(T.mk t.v (⟨#[64]⟩++t.fn) t.args).size=t.size:=by rw[T.size_eq,T.size_eq];rfl
    have hs1:Short (T.mk t.v (⟨#[64]⟩++t.fn) t.args):=y30 (by rw[hdp];exact y1r HX.out.2.1)
    have hs2:Short trueT:=y30 (by rw[T.depth_eq];decide)
    have hs3:(T.mk t.v (⟨#[64]⟩++t.fn) t.args).size+trueT.size<=4611686018427387903:=by
     have h1:=HX.out.2.2
     have h2:trueT.size=1:=by rw[T.size_eq];rfl
     rw[hsz,h2];omega
    have hfn:t.fn.size<=281474976710656:=by
     obtain⟨tk,h1,h2⟩:=PT.name HX.out.1
     have h3:=HL.out.2 tk h1
     rw[h2]
     exact Nat.le_trans (m:=63) h3 (by decide)
    have hpe:=peq_any h6 hz6 (l:=.mk t.v (⟨#[64]⟩++t.fn) t.args) (r:=trueT) a6 (ArgsP.nil _ _) hs1 hs2 hs3
    have H6:=hid y6
    clear hsk s5 h5 hB5 hG5 ho hG6 h6 a6 y6 hdp hsz hs1 hs2 hs3 H4
    go_upto_region 10 with fail
    try rw[hW6]
    clear hW6 x0 x1 x2 f0 f1 f2
    go_wp2_with fail
    refine hpe.mono ?_
    rintro e W7 ⟨p,rfl,p7,h7,y7⟩
    have HF:=hid (And.intro p7 (And.intro h7 (H6.out.trans y7)))
    clear hpe p7 h7 y7
    go_wp2
    go_ret
    exact .inl ⟨fPred t,p,fr1,q,kb,fv1,PA.pred HX.out.1 HQ0.out HQ.out hnb,rfl,HF.out.1,HF.out.2.1,HF.out.2.2⟩
end
section
open Go.RowKit Go.Shelf
structure KeptD (D:Nat->Prop) (E:List Nat) (W W':World):Prop where
 size:W.heap.size<=W'.heap.size
 keep:∀b,D b->W'.heap[b]? =W.heap[b]?
 mine:∀r∈E,W'.heap[r]? =W.heap[r]?
theorem KeptD.refl (D:Nat->Prop)(E:List Nat)(W:World):KeptD D E W W:=⟨jJ _,fun _ _=>rfl,fun _ _=>rfl⟩
theorem KeptD.trans {D:Nat->Prop}{E:List Nat}{X Y Z:World}(h:KeptD D E X Y)(k:KeptD D E Y Z):KeptD D E X Z:=⟨Nat.le_trans h.size k.size,fun b hb=>(k.keep b hb).trans (h.keep b hb),fun r hr=>(k.mine r hr).trans (h.mine r hr)⟩
def endD {γ:Type}(D:Nat->Prop)(E:List Nat)(I Ix:List Nat->γ->World->Prop)(s:γ)(W:World):Exit->Act->World->Prop
 | .normal,_,W'=>KeptD D E W W'∧I E s W'
 | .ret,_,W'=>KeptD D E W W'∧Ix E s W'
 | _,_,_=>False
def SameD (D:Nat->Prop)(w0 W:World):Prop:=∀b,D b->W.heap[b]? =w0.heap[b]?
theorem SameD.next {D:Nat->Prop}{w0 W W':World}(h:SameD D w0 W)(k:∀b,D b->W'.heap[b]? =W.heap[b]?):SameD D w0 W':=fun b hb=>(k b hb).trans (h b hb)
def YieldsG {α β:Type}(iv:α->β->Array Value)(Ok:α->β->Prop)(l:Nat)(D:Nat->Prop)(w0:World)(all:List α)(J Jx:List Nat->List α->World->Prop):Prop:=
 ∀E pre x y W,J E pre W->SameD D w0 W->Ok x y->(∃rest,pre++x::rest=all) ->
  ∀m,YieldAt Fence.wide m Tryz.prog l (iv x y) W fun e W'=>(e=.returned (.bool true)∧J E (pre++[x]) W'∧KeptD D E W W')∨(e=.returned (.bool false)∧Jx E (pre++[x]) W')
def IterG {α β:Type}(iv:α->β->Array Value)(Ok:α->β->Prop)(gf:Nat)(lb:Array Value)(D:Nat->Prop)(w0:World)(all:List α)(E0:List Nat)(W:World):Prop:=
 ∀(m l:Nat) (J Jx:List Nat->List α->World->Prop),Abide J->YieldsG iv Ok l D w0 all J Jx->J E0 [] W ->
  CallsIn Fence.wide m Tryz.prog gf (#[.func (.yield l) #[] #[]]++lb) W fun e W'=>(∃v,e=.returned v)∧((∃E,J E all W')∨(∃E pre,Jx E pre W'))
theorem range_g {α β:Type}{iv:α->β->Array Value}{Ok:α->β->Prop}{D:Nat->Prop}{nv:Nat}{ps:Array Tmp}{assign body:Code}{Q:Exit->Act->World->Prop}{a:Act}{w:World}{g:Operand}{gf:Nat}{lb:Array Value}{w0:World}{all:List α}{E0:List Nat}(m:Nat)
  (hg:a.eval g=.func (.func gf) #[] lb) (eg:∀args w,(callFunc gf args).run Tryz.prog w=.ok (.enter gf args) w) (hps:ps.size=nv) (hiv:∀x y,(iv x y).size=nv) (hDl:∀b,D b->b<w.heap.size)
  (hseq:∀W,Below w.heap.size w W->IterG iv Ok gf lb D w0 all E0 W)
  (I Ix:List Nat->List α->World->Prop) (hI:Abide I) (hIx:Abide Ix) (h0:I E0 [] w) (hlow:∀E pre W,I E pre W->∀r∈E,r<W.heap.size)
  (Ax:α->β->Act->World->Prop) (hAx:∀p y a' W l r o,Ax p y a' W->W.heap[l]? =some (.loop r)->Ax p y a' (W.putObj l o))
  (hassign:∀(l:Nat) (p:α) (y:β) (W:World) (K:Act->World->Prop),Ok p y->(∀a' W',Below W.heap.size W W'->Ax p y a' W'->K a' W') ->
   assign.wpIn (Fence.wide.inRound l) (m-1) Tryz.prog (Exit.then K (fun _ _ _=>False)) { tmps:=(ps.zip (iv p y)).foldl (fun t (p,v)=>t.setIfInBounds p v) a.tmps,defers:=[] } W)
  (hbody:∀(l:Nat) (E:List Nat) (pre:List α) (p:α) (y:β) (a':Act) (W:World),I E pre W->l∈E->SameD D w0 W->Ok p y->(∃rest,pre++p::rest=all)->Ax p y a' W ->
   body.wpIn (Fence.wide.inRound l) (m-1) Tryz.prog (endD D E I Ix (pre++[p]) W) a' W)
  (hdone:∀(D:Nat) (E:List Nat) (W:World),w.heap.size<=D->I E all W->D∈E->W.heap[D]? =some (.deferred (some []))->Q .normal { a with defers:={ target:=.collected D,args:=#[] }::a.defers } W)
  (hstop:∀(D:Nat) (E:List Nat) (pre:List α) (W:World),w.heap.size<=D->Ix E pre W->D∈E->W.heap[D]? =some (.deferred (some []))->Code.ret.wpIn Fence.wide m Tryz.prog Q { a with defers:={ target:=.collected D,args:=#[] }::a.defers } W) :
  (Code.rangeFunc g ps assign body).wpIn Fence.wide m Tryz.prog Q a w:=by
 refine wpIn_rangeFunc fun fn hfn=>?_
 let N:=w.heap.size
 let lp:LoopState->Option Code->Obj:=fun st pe=>.loop { state:=st,pending:=pe,fn:=fn,tmps:=a.tmps,params:=ps,assign:=assign,body:=body,defers:=N }
 let W1:World:=(w.alloc (.deferred (some []))).alloc (lp .ready none)
 have hN:w.heap.size=N:=rfl
 have hsz1:W1.heap.size=N+2:=by simp[W1,N]
 have hb1:Below w.heap.size w W1:=y0d w _ _
 have hl1:W1.heap[N+1]? =some (lp .ready none):=by
  have:=(jH (w.alloc (.deferred (some []))) (lp .ready none)).1
  rwa [World.size_alloc]at this
 have hd1:W1.heap[N]? =some (.deferred (some [])):=(Below.heap_alloc _ _ _ (by simp[N])).trans (jH w _).1
 have hE0:∀r∈E0,r<N:=fun r hr=>hlow _ _ _ h0 r hr
 have hI1:I (N::(N+1)::E0) [] W1:=by
  have g1:=World.grownBy_alloc w (.deferred (some [])) none
  have g2:=World.grownBy_alloc (w.alloc (.deferred (some []))) (lp .ready none) none
  have s1:I (N::E0) [] (w.alloc (.deferred (some []))):=hI _ _ _ _ _ _ h0 g1 (fun _ e=>by cases e) (fun r hr=>by
   rcases List.mem_cons.1 hr with rfl|hr
   ·exact .inr ⟨jJ _,by simp[N]⟩
   ·exact .inl hr)
  exact hI _ _ _ _ _ _ s1 g2 (fun _ e=>by cases e) (fun r hr=>by
   rcases List.mem_cons.1 hr with rfl|hr
   ·exact .inl (by simp)
   ·rcases List.mem_cons.1 hr with rfl|hr
    ·exact .inr ⟨by simp[N],by rw[hsz1];omega⟩
    ·exact .inl (by simp[hr]))
 refine⟨N+1,[{ target:=.collected N,args:=#[] }],W1,{ target:=.fn (.func gf) lb,args:=#[.func (.yield (N+1)) #[] #[]] },W1,gf,#[.func (.yield (N+1)) #[] #[]]++lb,W1,?_,?_,?_,?_,?_,?_⟩
 ·exact run_enterLoop_outer _ _ _ _ _
 ·simp only[resolve,hg]
  simp[go_sem]
 ·intro f' _
  trivial
 ·simp[invoke,go_sem,eg]
 ·intro h
  cases h
 ·let J:List Nat->List α->World->Prop:=fun E pre W=>I (N::(N+1)::E) pre W∧N∉E∧N+1∉E∧W.heap[N+1]? =some (lp .ready none)∧W.heap[N]? =some (.deferred (some []))
  let Jx:List Nat->List α->World->Prop:=fun E pre W=>Ix (N::(N+1)::E) pre W∧W.heap[N+1]? =some (lp .done (some .ret))∧W.heap[N]? =some (.deferred (some []))
  have hJ:Abide J:=by
   rintro E E' s W W' row ⟨hi,n1,n2,hl,hd⟩ hg' hr hE
   have lt:N+1<W.heap.size:=(jG hl).1
   have m1:N∉E':=fun h=>by
    rcases hE _ h with h|h
    ·exact n1 h
    ·omega
   have m2:N+1∉E':=fun h=>by
    rcases hE _ h with h|h
    ·exact n2 h
    ·omega
   refine⟨hI _ _ _ _ _ _ hi hg' (fun r e=>by simp[hr r e]) (fun r h=>?_),m1,m2,(hg'.block _ lt (fun e=>n2 (hr _ e.symm))).trans hl,(hg'.block _ (by omega) (fun e=>n1 (hr _ e.symm))).trans hd⟩
   rcases List.mem_cons.1 h with rfl|h
   ·exact .inl (by simp)
   ·rcases List.mem_cons.1 h with rfl|h
    ·exact .inl (by simp)
    ·rcases hE _ h with h|h
     ·exact .inl (by simp[h])
     ·exact .inr h
  have hY:YieldsG iv Ok (N+1) D w0 all J Jx:=by
   rintro E pre p y W ⟨hi,n1,n2,hl,hd⟩ hw hok hrest k
   have lt:N+1<W.heap.size:=(jG hl).1
   have mem:N+1∈N::(N+1)::E:=by simp
   refine⟨fn,_,assign,body,run_yield hl (by rw[hps,hiv]),RoundIn.mono ?_ fun _ _ h=>h⟩
   have hround:RoundIn Fence.wide (m-1) Tryz.prog (N+1) fn ((ps.zip (iv p y)).foldl (fun t (p,v)=>t.setIfInBounds p v) a.tmps) assign body W (fun e W'=>(e=.returned (.bool true)∧J E (pre++[p]) W'∧KeptD D E W W')∨(e=.returned (.bool false)∧Jx E (pre++[p]) W')):=by
    refine roundIn_of_wpIn hfn (hassign _ p y W _ hok fun a' Wa hba hax=>?_)
    have hin:∀r∈N::(N+1)::E,Wa.heap[r]? =W.heap[r]?:=fun r hr=>hba.block r (hlow _ _ _ hi r hr)
    have hla:Wa.heap[N+1]? =some (lp .ready none):=(hin _ mem).trans hl
    have lta:N+1<Wa.heap.size:=(jG hla).1
    refine⟨_,run_beginRound hla rfl,?_⟩
    let Wb:World:=Wa.putObj (N+1) (lp .busy none)
    have hlb:Wb.heap[N+1]? =some (lp .busy none):=World.putObj_heap_same lta
    have hoa:∀r,r≠N+1->Wb.heap[r]? =Wa.heap[r]?:=fun r hr=>World.putObj_heap_other hr
    have hob:∀r∈N::(N+1)::E,r≠N+1->Wb.heap[r]? =W.heap[r]?:=fun r hr hne=>(hoa r hne).trans (hin r hr)
    have ltW:N+1<W.heap.size:=lt
    have hbb:∀b,D b->Wb.heap[b]? =W.heap[b]?:=fun b hb=>(hoa b (by have:=hDl b hb;omega)).trans (hba.block b (by have:=hDl b hb;omega))
    have ga:W.grownBy Wa none:=⟨hba.os,hba.tape,hba.output,hba.size,fun k hk _=>hba.block k hk⟩
    have hia:=hI _ _ _ _ _ _ hi ga (fun _ e=>by cases e) (fun _ h=>.inl h)
    refine wpIn_mono (hbody (N+1) (N::(N+1)::E) pre p y a' Wb (hI.put _ hia mem) mem (hw.next hbb) hok hrest (hAx _ _ _ _ _ _ _ hax hla)) ?_
    rintro e a3 W3 hp
    have fin:∀{jump:Option Code} {st:LoopState},KeptD D (N::(N+1)::E) Wb W3->(if jump.isNone then LoopState.ready else LoopState.done)=st ->
      (Instr.endRound (N+1) jump).run Tryz.prog W3=.ok (.bool jump.isNone) (W3.putObj (N+1) (lp st jump))∧(W3.putObj (N+1) (lp st jump)).heap[N+1]? =some (lp st jump)∧(W3.putObj (N+1) (lp st jump)).heap[N]? =some (.deferred (some [])):=by
     intro jump st hk hst
     have hl3:W3.heap[N+1]? =some (lp .busy none):=(hk.mine _ mem).trans hlb
     have hd3:W3.heap[N]? =some (.deferred (some [])):=((hk.mine _ (by simp)).trans (hob N (by simp) (by omega))).trans hd
     subst hst
     exact⟨run_endRound jump hl3,World.putObj_heap_same (jG hl3).1,(World.putObj_heap_other (by omega)).trans hd3⟩
    cases e with
    | normal =>
     obtain⟨hk,hi3⟩:=hp
     obtain⟨h1,h2,h3⟩:=fin (jump:=none) (st:=.ready) hk rfl
     refine⟨_,_,h1,.inl ⟨rfl,⟨hI.put _ hi3 mem,n1,n2,h2,h3⟩,?_⟩⟩
     refine⟨?_,fun b hb=>(World.putObj_heap_other (by have:=hDl b hb;omega)).trans ((hk.keep b hb).trans (hbb b hb)),fun r hr=>?_⟩
     ·have h8:=hk.size
      have h9:Wb.heap.size=Wa.heap.size:=by simp[Wb]
      have h7:=hba.size
      simp
      omega
     have hrn:r≠N+1:=fun e=>n2 (e▸hr)
     exact ((World.putObj_heap_other hrn).trans (hk.mine r (by simp[hr]))).trans (hob r (by simp[hr]) hrn)
    | ret =>
     obtain⟨hk,hi3⟩:=hp
     obtain⟨h1,h2,h3⟩:=fin (jump:=some .ret) (st:=.done) hk rfl
     exact⟨_,_,h1,.inr ⟨rfl,hIx.put _ hi3 mem,h2,h3⟩⟩
    | exit id=>exact hp.elim
    | goto t=>exact hp.elim
    | panic ch=>exact hp.elim
    | outgrown=>exact hp.elim
   exact⟨hround.1,fun c cs _=>hround.2 c cs (room_wide _)⟩
  refine (hseq W1 hb1 (m-1) (N+1) J Jx hJ hY ⟨hI1,fun h=>by have:=hE0 _ h;omega,fun h=>by have:=hE0 _ h;omega,hl1,hd1⟩).mono ?_
  rintro e W2 ⟨⟨v,rfl⟩,(⟨E,hi,n1,n2,hl,hd⟩|⟨E,pre,hi,hl,hd⟩)⟩
  ·exact⟨none,_,run_endLoop hl (by simp),hdone N _ _ (jJ _) (hI.put _ hi (by simp)) (by simp) ((World.putObj_heap_other (by omega)).trans hd)⟩
  ·exact⟨some .ret,_,run_endLoop hl (by simp),hstop N _ pre _ (jJ _) (hIx.put _ hi (by simp)) (by simp) ((World.putObj_heap_other (by omega)).trans hd)⟩
end
