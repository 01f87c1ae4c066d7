import Derived.Test.YthkinkcpfcpehaaGreatDoorZS
import Derived.Test.YthkinkcpfcpehaaGreatDoorGS
namespace Go.Proofs.YthkinkcpfcpehaaGreatDoor
set_option maxRecDepth 100000
set_option maxHeartbeats 16000000
open Go.RowKit Go.Maps
open Lx (Tk ofL KsAt y0a wsr rbk rkp rsl lit3)
def DU (D:DE)(l:List Tk):Prop:=∀(X:World)(fr:List Tk)(mn:Bool)(bd:Int)(bv:Value)(bl:List jU),DS D X l fr mn bd->(bd<0->bl.length+l.length<=2097155)->StrAt X bv bl->Calls Tryz.prog 97 #[.pointer (some ⟨D.B,0,none⟩),bv] X (DFmP D X (PU bl) l fr mn bd)
def DF (D:DE)(l:List Tk):Prop:=∀(X:World)(fr:List Tk)(mn:Bool)(bd:Int)(bv:Value)(bl:List jU),DS D X l fr mn bd->(bd<0->bl.length+l.length<=2097155)->StrAt X bv bl->Calls Tryz.prog 58 #[.pointer (some ⟨D.B,0,none⟩),bv] X (DFmP D X (PF bl) l fr mn bd)
def DQ (D:DE)(l:List Tk):Prop:=∀(X:World)(fr:List Tk)(mn:Bool)(bd:Int)(bv:Value)(bl:List jU),DS D X l fr mn bd->bd<0->headOf l=2∨headOf l=3->bl.length+l.length<=2097155->StrAt X bv bl->Calls Tryz.prog 140 #[.pointer (some ⟨D.B,0,none⟩),bv] X (DFmP D X (PU bl) l fr mn bd)
theorem y36 (t:Tk)(r:List Tk):headOf (t::r)=if t.k=4 then (if t.t=[126] then 1 else if t.t=[33] then 2 else if t.t=[63] then 3 else if t.t=[40] then 6 else 0) else if t.k=3 then (if t.t=Lx.dTrue then 4 else 5) else 0:=rfl
theorem head_m {m:jU}{l:List Tk}(h:isM m l=true):headOf l=(if m=[126] then 1 else if m=[33] then 2 else if m=[63] then 3 else if m=[40] then 6 else 0):=by
 obtain⟨t,r,rfl,h4,rfl⟩:=y03 h
 rw[y36,if_pos h4]
theorem head_k {l:List Tk}(h:isK 3 l=true):∃t r,l=t::r∧headOf l=if t.t=Lx.dTrue then 4 else 5:=by
 cases l with
 | nil=>cases h
 | cons t r =>
  have h3:t.k=3:=by simpa [isK] using h
  exact⟨t,r,rfl,by rw[y36,if_neg (by omega),if_pos h3]⟩
theorem head_0 {l:List Tk}(h1:isM [126] l=false)(h2:isM [33] l=false)(h3:isM [63] l=false)(h4:isM [40] l=false)(h5:isK 3 l=false):headOf l=0:=by
 cases l with
 | nil=>rfl
 | cons t r =>
  have h3':¬t.k=3:=by simpa [isK] using h5
  rw[y36]
  by_cases hk:t.k=4
  ·rw[if_pos hk]
   simp only[isM,hk,decide_true,Bool.true_and,decide_eq_false_iff_not]at h1 h2 h3 h4
   rw[if_neg h1,if_neg h2,if_neg h3,if_neg h4]
  ·rw[if_neg hk,if_neg h3']
theorem len_cast {N i n:Nat}(h:i+(n+1)=N):N-(n+1)=i∧((N-n:Nat):Int)=(i:Int)+1:=by omega
theorem wrapM {i:Nat}(h:i<=2097155):wrap64 (i:Int)=(i:Int):=by unfold wrap64;omega
theorem wrapM1 {i:Nat}(h:i<=2097155):wrap64 ((i:Int)+1-1)=(i:Int):=by unfold wrap64;omega
section
variable {D : DE} {w : World} {l r fr : List Tk} {t : Tk} {mn : Bool} {bd : Int}
theorem MBx.op {R:Nat}{X:World}{f:Fm}{sl sr sk:Value}{P:Nat->Prop}(hm:MBx D w R X)(hd:DS D X l fr mn bd)(hf:FmP P X f sl sr sk)(hP:∀k,P k->R<k)(k:Int) :
  ∃V,(Instr.storeAt 27 (.pointer (some ⟨R,0,none⟩)) (.agg #[.int .i64 k,.string ⟨#[]⟩,.int .i64 0,.string ⟨#[]⟩,.slice none 0 0,.int .i64 0,.string ⟨#[]⟩,.slice none 0 0,.slice (some ⟨X.heap.size,0,none⟩) 1 1])).run Tryz.prog (X.alloc (fbox f sl sr sk))=.ok () V∧
   Hid ((V.cell? ⟨R,0,none⟩=some (.int .i64 k)∧V.cell? ⟨R,1,none⟩=some (.string ⟨#[]⟩)∧V.cell? ⟨R,2,none⟩=some (.int .i64 0)∧V.cell? ⟨R,3,none⟩=some (.string ⟨#[]⟩)∧V.cell? ⟨R,4,none⟩=some (.slice none 0 0)∧V.cell? ⟨R,5,none⟩=some (.int .i64 0)∧V.cell? ⟨R,6,none⟩=some (.string ⟨#[]⟩)∧V.cell? ⟨R,7,none⟩=some (.slice none 0 0)∧V.cell? ⟨R,8,none⟩=some (.slice (some ⟨X.heap.size,0,none⟩) 1 1))∧FmP (fun k=>w.heap.size<=k) V (fOp k [f]) (.slice none 0 0) (.slice none 0 0) (.slice (some ⟨X.heap.size,0,none⟩) 1 1)∧DS D V l fr mn bd∧Only [D.B] w V):=by
 have hbX:=bbx X (fbox f sl sr sk)
 have hzX:=(jH X (fbox f sl sr sk)).1
 have hRX:R<X.heap.size:=hm.lt
 have hKd:=y27 hzX (P:=fun k=>R<k) hRX (hf.keep hbX.size (fun k hk hkl=>⟨hP k hk,hbX.block k hkl⟩))
 obtain⟨V,h1,h2⟩:=(hm.step (Only.of_below (B:=[D.B]) hbX)).fin (hd.keep hbX) (f:=fOp k [f]) ⟨ArgsP.nil _ _,ArgsP.nil _ _,hKd⟩ (fun k hk=>hk)
 exact⟨V,h1,h2⟩
theorem DFmR.not {bl:List jU}{f:Fm}{l2 fr2:List Tk}{mn2:Bool}{bd2:Int}(hb:bd<0)(hm:isM [126] l=true)(h:DFmR D (PU bl) l.tail fr mn bd f l2 fr2 mn2 bd2):DFmR D (PU bl) l fr mn bd (fOp 2 [f]) l2 fr2 mn2 bd2:=by
 have hh:headOf l=1:=head_m hm
 refine⟨fun _=>?_,fun hn=>absurd hb hn⟩
 rcases h.1 hb with⟨fx,hp,hf,hmn,hbe⟩|⟨q,hp,hbe⟩
 ·exact .inl ⟨fx,PU.not hh hp,hf,by rw[hmn,dw_one],hbe⟩
 ·exact .inr ⟨q,PU.not_no hh hp,hbe⟩
theorem DFmR.par {bl:List jU}{f:Fm}{l2 fr2:List Tk}{mn2:Bool}{bd2:Int}(hb:bd<0)(hm:isM [40] l=true)(h:DFmR D (PF bl) l.tail fr mn bd f l2 fr2 mn2 bd2):DFmR D (PU bl) l fr mn bd f (wantL [41] l2 bd2) fr2 mn2 (wantB D [41] l2 bd2):=by
 have hh:headOf l=6:=head_m hm
 refine⟨fun _=>?_,fun hn=>absurd hb hn⟩
 rcases h.1 hb with⟨fx,hp,hf,hmn,rfl⟩|⟨q,hp,hbe⟩
 ·unfold wantL wantB
  rw[decide_eq_true hb,Bool.true_and]
  cases h41:isM [41] l2 with
  | true=>exact .inl ⟨fx,PU.par hh hp h41,hf,hmn,by simp⟩
  | false=>exact .inr ⟨l2,PU.par_no hh hp h41,by unfold badV;rw[if_pos hb];simp⟩
 ·refine .inr ⟨q,PU.in_no hh hp,?_⟩
  have hn:¬bd2<0:=by omega
  unfold wantB badV
  rw[decide_eq_false hn,if_neg hn]
  simpa using hbe
theorem DFmR.word {bl:List jU}(_hb:bd<0)(h:headOf (t::r)=4∨headOf (t::r)=5)(k:Int)(hk:k=if headOf (t::r)=4 then 9 else 10):DFmR D (PU bl) (t::r) fr mn bd (fOp k []) r fr mn bd:=by
 refine⟨fun _=>.inl ⟨[],?_,by rw[List.append_nil],by rw[dw_zero,Bool.or_false],rfl⟩,fun _=>rfl⟩
 rcases h with h|h
 ·rw[hk,if_pos h];exact PU.yes h
 ·rw[hk,if_neg (by omega)];exact PU.nope h
theorem DFmR.atom {bl:List jU}{f:Fm}{l2 fr2:List Tk}{mn2:Bool}{bd2:Int}(hh:bd<0->headOf l=0)(h:DFmR D (PA bl) l fr mn bd f l2 fr2 mn2 bd2):DFmR D (PU bl) l fr mn bd f l2 fr2 mn2 bd2:=by
 refine⟨fun hb=>?_,h.2⟩
 rcases h.1 hb with⟨fx,hp,hx⟩|⟨q,hp,hbe⟩
 ·exact .inl ⟨fx,PU.atom (hh hb) hp,hx⟩
 ·exact .inr ⟨q,PU.atom (hh hb) hp,hbe⟩
theorem DFmR.none {bl:List jU}(hh:bd<0->headOf l=0)(h1:(decide (bd<0)&&isK 1 l)=false)(h2:(decide (bd<0)&&isK 2 l)=false)(f:Fm):DFmR D (PU bl) l fr mn bd f l fr mn (badV D l bd):=by
 refine⟨fun hb=>?_,fun hn=>by unfold badV;rw[if_neg hn]⟩
 rw[decide_eq_true hb,Bool.true_and]at h1 h2
 refine .inr ⟨l,PU.atom (hh hb) (PA.first_no ?_),by unfold badV;rw[if_pos hb]⟩
 cases l with
 | nil=>exact PT.nil
 | cons t r=>exact PT.wrong (by simpa [isK] using h1) (by simpa [isK] using h2)
theorem y52 {l:List Tk}(hU:l≠[]->DU D l.tail)(hF:l≠[]->DF D l.tail)(hQ:DQ D l):DU D l:=by
 intro w fr mn bd bv bl h hbud hs
 have HBU:=hid hbud
 clear hbud
 obtain⟨R,hR⟩:∃R,w.heap.size=R:=⟨_,rfl⟩
 have hm0:=MBx.new h hR
 have hb0:=bbx w zbox
 have hd0:=h.keep hb0
 have HSW:Hid (∀Z,Only [D.B] w Z->StrAt Z bv bl):=fun Z ho=>hs.only h ho
 obtain⟨W0,hW0⟩:∃X,w.alloc zbox=X:=⟨_,rfl⟩
 rw[hW0]at hm0 hd0
 have HW0:=hid hW0
 clear h hb0 hs hW0
 go_enter Tryz.func97,Tryz.ntmps97
 go_upto_region 1 with fail
 try simp only[hR]
 rw[show _=W0 from HW0.out]
 have hi1:=y16 hd0 [126]
 obtain⟨b1,hb1⟩:∃b,(decide (bd<0)&&isM [126] l)=b:=⟨_,rfl⟩
 rw[hb1]at hi1
 have HB1:=hid hb1
 have H0:=hid (And.intro hd0 hm0)
 clear hb1 hd0 hm0
 go_wp2_with fail
 refine hi1.mono ?_
 rintro e W1 ⟨rfl,hbW1⟩
 have hd1:=H0.out.1.keep hbW1
 have hm1:=H0.out.2.step (Only.of_below (B:=[D.B]) hbW1)
 clear hi1 hbW1 H0
 cases b1 with
 | true =>
  have hx:=HB1.out
  rw[Bool.and_eq_true,decide_eq_true_eq]at hx
  obtain⟨t1,r1,rfl,_,_⟩:=y03 hx.2
  obtain⟨i6,-,e6,f6,w6',hE6,oE6⟩:=hd1.eat
  have hm6:=hm1.step oE6
  obtain⟨Y6,hY6⟩:∃X,W1.setCell ⟨D.B,1,none⟩ (.int .i64 ((i6:Int)+1))=X:=⟨_,rfl⟩
  rw[hY6]at hE6 oE6 hm6
  have HY6:=hid hY6
  clear hY6 hd1 hm1 oE6
  go_upto_region 3 with fail
  rw[show _=Y6 from HY6.out]
  clear HY6 e6 f6 w6'
  have hc:=hU (by simp) Y6 fr mn bd bv bl hE6 (fun hb=>by have h9:=HBU.out hb;simp only[jK,List.tail_cons]at h9 ⊢;omega) (HSW.out _ hm6.on)
  have HM6:=hid hm6
  clear hE6 hm6
  go_wp2_with fail
  refine hc.mono ?_
  rintro e W8 ⟨f,sl,sr,sk,l2,fr2,mn2,bd2,hT,rfl,hf,hd8,ho8⟩
  clear hc
  obtain⟨la,lc,rfl,-,-⟩:=hf.l.slice'
  obtain⟨ra,rc,rfl,-,-⟩:=hf.r.slice'
  obtain⟨ka,kc,rfl,-,-⟩:=hf.k.slice
  have hm8:=HM6.out.step ho8
  obtain⟨V,hrun,HV⟩:=hm8.op hd8 hf (fun k hk=>by have:=HM6.out.lt;omega) 2
  have HT:=hid (DFmR.not hx.1 hx.2 hT)
  clear hT hf hd8 ho8 hm8
  go_wp2_with (first|(refine wsr rfl 27 _ _ rfl (.pointer (some ⟨R,0,none⟩)) (.agg #[.int .i64 2,.string ⟨#[]⟩,.int .i64 0,.string ⟨#[]⟩,.slice none 0 0,.int .i64 0,.string ⟨#[]⟩,.slice none 0 0,.slice (some ⟨W8.heap.size,0,none⟩) 1 1]) rfl rfl hrun ?_))
  have HVC:Hid (FC9 V R (.int .i64 2) (.string ⟨#[]⟩) (.int .i64 0) (.string ⟨#[]⟩) (.slice none 0 0) (.int .i64 0) (.string ⟨#[]⟩) (.slice none 0 0) (.slice (some ⟨W8.heap.size,0,none⟩) 1 1)):=HV.out.1
  obtain⟨v0,v1,v2,v3,v4,v5,v6,v7,v8⟩:=HVC.out
  refine bodyPost_ret (v:=.agg #[.int .i64 2,.string ⟨#[]⟩,.int .i64 0,.string ⟨#[]⟩,.slice none 0 0,.int .i64 0,.string ⟨#[]⟩,.slice none 0 0,.slice (some ⟨W8.heap.size,0,none⟩) 1 1]) (by simp[results,Tryz.results97,go_sem,v0,v1,v2,v3,v4,v5,v6,v7,v8]) rfl ?_
  exact⟨fOp 2 [f],_,_,_,l2,fr2,mn2,bd2,HT.out,rfl,HV.out.2.1,HV.out.2.2.1,HV.out.2.2.2⟩
 | false =>
  have hi2:=y16 hd1 [33]
  obtain⟨b2,hb2⟩:∃b,(decide (bd<0)&&isM [33] l)=b:=⟨_,rfl⟩
  rw[hb2]at hi2
  have HB2:=hid hb2
  have H1:=hid (And.intro hd1 hm1)
  clear hb2 hd1 hm1
  go_wp2_with fail
  refine hi2.mono ?_
  rintro e W2 ⟨rfl,hbW2⟩
  have hd2:=H1.out.1.keep hbW2
  have hm2:=H1.out.2.step (Only.of_below (B:=[D.B]) hbW2)
  clear hi2 hbW2 H1
  cases b2 with
  | true =>
   have hx:=HB2.out
   rw[Bool.and_eq_true,decide_eq_true_eq]at hx
   have hc:=hQ W2 fr mn bd bv bl hd2 hx.1 (by rw[head_m hx.2];simp) (HBU.out hx.1) (HSW.out _ hm2.on)
   have HMk:=hid hm2
   clear hd2 hm2
   go_wp2_with fail
   refine hc.mono ?_
   rintro e W8 ⟨f,sl,sr,sk,l2,fr2,mn2,bd2,hT,rfl,hf,hd8,ho8⟩
   clear hc
   obtain⟨la,lc,rfl,-,-⟩:=hf.l.slice'
   obtain⟨ra,rc,rfl,-,-⟩:=hf.r.slice'
   obtain⟨ka,kc,rfl,-,-⟩:=hf.k.slice
   have hm8:=HMk.out.step ho8
   obtain⟨V,hrun,HV⟩:=hm8.fin hd8 hf (fun k hk=>by have:=HMk.out.lt;omega)
   have HT:=hid hT
   clear hT hf hd8 ho8 hm8
   go_wp2_with (first|(refine wsr rfl 27 _ _ rfl (.pointer (some ⟨R,0,none⟩)) (fval f (.slice la f.l.args.length lc) (.slice ra f.r.args.length rc) (.slice ka f.kids.length kc)) rfl rfl hrun ?_))
   have HVC:Hid (FC9 V R (.int .i64 f.k) (.string f.nm) (.int .i64 f.l.v) (.string f.l.fn) (.slice la f.l.args.length lc) (.int .i64 f.r.v) (.string f.r.fn) (.slice ra f.r.args.length rc) (.slice ka f.kids.length kc)):=HV.out.1
   obtain⟨v0,v1,v2,v3,v4,v5,v6,v7,v8⟩:=HVC.out
   refine bodyPost_ret (v:=.agg #[.int .i64 f.k,.string f.nm,.int .i64 f.l.v,.string f.l.fn,.slice la f.l.args.length lc,.int .i64 f.r.v,.string f.r.fn,.slice ra f.r.args.length rc,.slice ka f.kids.length kc]) (by simp[results,Tryz.results97,go_sem,v0,v1,v2,v3,v4,v5,v6,v7,v8]) rfl ?_
   exact⟨f,_,_,_,l2,fr2,mn2,bd2,HT.out,rfl,HV.out.2.1,HV.out.2.2.1,HV.out.2.2.2⟩
  | false =>
   have hi3:=y16 hd2 [63]
   obtain⟨b3,hb3⟩:∃b,(decide (bd<0)&&isM [63] l)=b:=⟨_,rfl⟩
   rw[hb3]at hi3
   have HB3:=hid hb3
   have H2:=hid (And.intro hd2 hm2)
   clear hb3 hd2 hm2
   go_wp2_with fail
   refine hi3.mono ?_
   rintro e W3 ⟨rfl,hbW3⟩
   have hd3:=H2.out.1.keep hbW3
   have hm3:=H2.out.2.step (Only.of_below (B:=[D.B]) hbW3)
   clear hi3 hbW3 H2
   cases b3 with
   | true =>
    have hx:=HB3.out
    rw[Bool.and_eq_true,decide_eq_true_eq]at hx
    have hc:=hQ W3 fr mn bd bv bl hd3 hx.1 (by rw[head_m hx.2];simp) (HBU.out hx.1) (HSW.out _ hm3.on)
    have HMk:=hid hm3
    clear hd3 hm3
    go_wp2_with fail
    refine hc.mono ?_
    rintro e W8 ⟨f,sl,sr,sk,l2,fr2,mn2,bd2,hT,rfl,hf,hd8,ho8⟩
    clear hc
    obtain⟨la,lc,rfl,-,-⟩:=hf.l.slice'
    obtain⟨ra,rc,rfl,-,-⟩:=hf.r.slice'
    obtain⟨ka,kc,rfl,-,-⟩:=hf.k.slice
    have hm8:=HMk.out.step ho8
    obtain⟨V,hrun,HV⟩:=hm8.fin hd8 hf (fun k hk=>by have:=HMk.out.lt;omega)
    have HT:=hid hT
    clear hT hf hd8 ho8 hm8
    go_wp2_with (first|(refine wsr rfl 27 _ _ rfl (.pointer (some ⟨R,0,none⟩)) (fval f (.slice la f.l.args.length lc) (.slice ra f.r.args.length rc) (.slice ka f.kids.length kc)) rfl rfl hrun ?_))
    have HVC:Hid (FC9 V R (.int .i64 f.k) (.string f.nm) (.int .i64 f.l.v) (.string f.l.fn) (.slice la f.l.args.length lc) (.int .i64 f.r.v) (.string f.r.fn) (.slice ra f.r.args.length rc) (.slice ka f.kids.length kc)):=HV.out.1
    obtain⟨v0,v1,v2,v3,v4,v5,v6,v7,v8⟩:=HVC.out
    refine bodyPost_ret (v:=.agg #[.int .i64 f.k,.string f.nm,.int .i64 f.l.v,.string f.l.fn,.slice la f.l.args.length lc,.int .i64 f.r.v,.string f.r.fn,.slice ra f.r.args.length rc,.slice ka f.kids.length kc]) (by simp[results,Tryz.results97,go_sem,v0,v1,v2,v3,v4,v5,v6,v7,v8]) rfl ?_
    exact⟨f,_,_,_,l2,fr2,mn2,bd2,HT.out,rfl,HV.out.2.1,HV.out.2.2.1,HV.out.2.2.2⟩
   | false =>
    have hi4:=y16 hd3 [40]
    obtain⟨b4,hb4⟩:∃b,(decide (bd<0)&&isM [40] l)=b:=⟨_,rfl⟩
    rw[hb4]at hi4
    have HB4:=hid hb4
    have H3:=hid (And.intro hd3 hm3)
    clear hb4 hd3 hm3
    go_wp2_with fail
    refine hi4.mono ?_
    rintro e W4 ⟨rfl,hbW4⟩
    have hd4:=H3.out.1.keep hbW4
    have hm4:=H3.out.2.step (Only.of_below (B:=[D.B]) hbW4)
    clear hi4 hbW4 H3
    cases b4 with
    | true =>
     have hx:=HB4.out
     rw[Bool.and_eq_true,decide_eq_true_eq]at hx
     obtain⟨t1,r1,rfl,_,_⟩:=y03 hx.2
     obtain⟨i6,-,e6,f6,w6',hE6,oE6⟩:=hd4.eat
     have hm6:=hm4.step oE6
     obtain⟨Y6,hY6⟩:∃X,W4.setCell ⟨D.B,1,none⟩ (.int .i64 ((i6:Int)+1))=X:=⟨_,rfl⟩
     rw[hY6]at hE6 oE6 hm6
     have HY6:=hid hY6
     clear hY6 hd4 hm4 oE6
     go_upto_region 8 with fail
     rw[show _=Y6 from HY6.out]
     clear HY6 e6 f6 w6'
     have hc:=hF (by simp) Y6 fr mn bd bv bl hE6 (fun hb=>by have h9:=HBU.out hb;simp only[jK,List.tail_cons]at h9 ⊢;omega) (HSW.out _ hm6.on)
     have HM6:=hid hm6
     clear hE6 hm6
     go_wp2_with fail
     refine hc.mono ?_
     rintro e W8 ⟨f,sl,sr,sk,l2,fr2,mn2,bd2,hT,rfl,hf,hd8,ho8⟩
     clear hc
     obtain⟨la,lc,rfl,-,-⟩:=hf.l.slice'
     obtain⟨ra,rc,rfl,-,-⟩:=hf.r.slice'
     obtain⟨ka,kc,rfl,-,-⟩:=hf.k.slice
     have hm8:=HM6.out.step ho8
     have hb9:=bbx W8 (fbox f (.slice la f.l.args.length lc) (.slice ra f.r.args.length rc) (.slice ka f.kids.length kc))
     have hz9:=(jH W8 (fbox f (.slice la f.l.args.length lc) (.slice ra f.r.args.length rc) (.slice ka f.kids.length kc))).1
     have hd9:=hd8.keep hb9
     have hm9:=hm8.step (Only.of_below (B:=[D.B]) hb9)
     have hf9:FmP (fun k=>R<k) (W8.alloc (fbox f (.slice la f.l.args.length lc) (.slice ra f.r.args.length rc) (.slice ka f.kids.length kc))) f (.slice la f.l.args.length lc) (.slice ra f.r.args.length rc) (.slice ka f.kids.length kc):=hf.keep hb9.size (fun k hk hkl=>⟨by have:=HM6.out.lt;show R<k;omega,hb9.block k hkl⟩)
     have HT:=hid (DFmR.par hx.1 hx.2 hT)
     obtain⟨F,hF'⟩:∃F,W8.heap.size=F:=⟨_,rfl⟩
     have hBF:D.B<F:=by rw[<-hF'];exact hd8.lt
     rw[hF']at hz9
     obtain⟨W9,hW9⟩:∃X,W8.alloc (fbox f (.slice la f.l.args.length lc) (.slice ra f.r.args.length rc) (.slice ka f.kids.length kc))=X:=⟨_,rfl⟩
     rw[hW9]at hz9 hd9 hm9 hf9
     have hw:=y24 hd9 [41]
     have HW9:=hid hW9
     have HQ:=hid (And.intro hm9 (And.intro hf9 (And.intro hz9 hBF)))
     clear hT hf hd8 ho8 hm8 hb9 hz9 hd9 hm9 hf9 hBF hW9
     go_upto_region 9 with fail
     try simp only[hF']
     rw[show _=W9 from HW9.out]
     go_wp2_with fail
     refine hw.mono ?_
     rintro e W10 ⟨rfl,hd10,ho10⟩
     clear hw
     have hm10:=HQ.out.1.step ho10
     have hz10:=(ho10.block F (jG HQ.out.2.2.1).1 (by have:=HQ.out.2.2.2;simp;omega)).trans HQ.out.2.2.1
     obtain⟨⟨c0,c1,c2,c3,c4,c5,c6,c7,c8⟩,-⟩:=y00 hz10
     obtain⟨V,hrun,HV⟩:=hm10.fin hd10 (HQ.out.2.1.keep ho10.size (fun k hk hkl=>⟨hk,ho10.block k hkl (by have:=hm10.BR;simp;omega)⟩)) (fun k hk=>hk)
     clear hd10 ho10 hm10 hz10
     go_wp2_with (first|(refine wsr rfl 27 _ _ rfl (.pointer (some ⟨R,0,none⟩)) (fval f (.slice la f.l.args.length lc) (.slice ra f.r.args.length rc) (.slice ka f.kids.length kc)) rfl rfl hrun ?_))
     have HVC:Hid (FC9 V R (.int .i64 f.k) (.string f.nm) (.int .i64 f.l.v) (.string f.l.fn) (.slice la f.l.args.length lc) (.int .i64 f.r.v) (.string f.r.fn) (.slice ra f.r.args.length rc) (.slice ka f.kids.length kc)):=HV.out.1
     obtain⟨v0,v1,v2,v3,v4,v5,v6,v7,v8⟩:=HVC.out
     refine bodyPost_ret (v:=.agg #[.int .i64 f.k,.string f.nm,.int .i64 f.l.v,.string f.l.fn,.slice la f.l.args.length lc,.int .i64 f.r.v,.string f.r.fn,.slice ra f.r.args.length rc,.slice ka f.kids.length kc]) (by simp[results,Tryz.results97,go_sem,v0,v1,v2,v3,v4,v5,v6,v7,v8]) rfl ?_
     exact⟨f,_,_,_,_,fr2,mn2,_,HT.out,rfl,HV.out.2.1,HV.out.2.2.1,HV.out.2.2.2⟩
    | false =>
     have hi5:=y15 hd4 3
     obtain⟨b5,hb5⟩:∃b,(decide (bd<0)&&isK 3 l)=b:=⟨_,rfl⟩
     rw[hb5]at hi5
     have HB5:=hid hb5
     have H4:=hid (And.intro hd4 hm4)
     clear hb5 hd4 hm4
     go_wp2_with fail
     refine hi5.mono ?_
     rintro e W5 ⟨rfl,hbW5⟩
     have hd5:=H4.out.1.keep hbW5
     have hm5:=H4.out.2.step (Only.of_below (B:=[D.B]) hbW5)
     clear hi5 hbW5 H4
     cases b5 with
     | true =>
      have hx:=HB5.out
      rw[Bool.and_eq_true,decide_eq_true_eq]at hx
      obtain⟨t1,r1,rfl,hhd⟩:=head_k hx.2
      have HHD:=hid hhd
      clear hhd
      obtain⟨b,o,ea,hlt,c0,c1,c2⟩:=hd5.at_
      have hlen:=hd5.len
      obtain⟨i6,hi6,e6,f6,w6',hE6,oE6⟩:=hd5.eat
      have hm6:=hm5.step oE6
      have hbW:b<W5.heap.size:=Nat.lt_trans hlt hd5.lt
      have c2':(W5.setCell ⟨D.B,1,none⟩ (.int .i64 ((i6:Int)+1))).cell? ⟨b,o+(D.L.length-(r1.length+1))*3+2,none⟩=some (.string (ofL t1.t)):=(World.cell?_of_block (a:=⟨b,_,none⟩) (oE6.block b hbW (by simp;omega))).trans c2
      have hii:D.L.length-(r1.length+1)=i6:=(len_cast hi6).1
      rw[hii]at c2'
      obtain⟨⟨x0,-⟩,-⟩:=hE6.cells
      have x1:(W5.setCell ⟨D.B,1,none⟩ (.int .i64 ((i6:Int)+1))).cell? ⟨D.B,1,none⟩=some (.int .i64 ((i6:Int)+1)):=by
       have:=hE6.cells.1.2.1
       exact this.trans (by rw[(len_cast hi6).2])
      rw[ea]at x0
      obtain⟨N,hN⟩:∃N,D.L.length=N:=⟨_,rfl⟩
      have hmx:=hE6.mx
      rw[hN]at x0 hi6 hmx
      have j1:(i6:Int)<(N:Int):=by omega
      have j0:(0:Int)<=(i6:Int):=by omega
      have j2:i6<N:=by omega
      have hw1:wrap64 (i6:Int)=(i6:Int):=wrapM (Nat.le_trans (Nat.le_of_lt j2) hmx)
      have hw2:wrap64 ((i6:Int)+1-1)=(i6:Int):=wrapM1 (Nat.le_trans (Nat.le_of_lt j2) hmx)
      obtain⟨tx,htx⟩:∃x,ofL t1.t=x:=⟨_,rfl⟩
      rw[htx]at c2'
      have htd:(t1.t=Lx.dTrue)=(tx=⟨#[36,116,114,117,101]⟩):=by
       rw[<-htx]
       exact propext ⟨fun h=>by rw[h];rfl,fun h=>y1z (h.trans (show (⟨#[36,116,114,117,101]⟩:ByteArray)=ofL Lx.dTrue from rfl))⟩
      obtain⟨Y6,hY6⟩:∃X,W5.setCell ⟨D.B,1,none⟩ (.int .i64 ((i6:Int)+1))=X:=⟨_,rfl⟩
      rw[hY6]at hE6 oE6 hm6 x0 x1 c2'
      have HY6:=hid hY6
      have HE6:=hid (And.intro hE6 (And.intro hm6 hx.1))
      clear hY6 hd5 hm5 oE6 hE6 hm6 c0 c1 c2 hlen hii hi6 hmx hbW hlt ea htx hN hx
      go_upto_region 13 with fail
      rw[show _=Y6 from HY6.out]
      clear HY6 e6 f6 w6'
      by_cases hdt:tx=⟨#[36,116,114,117,101]⟩
      ·have heq:=str_eq hdt
       rw[show (⟨#[36,116,114,117,101]⟩:ByteArray).toList=[36,116,114,117,101] from by rw[Lib.toList_data]]at heq
       have hh:headOf (t1::r1)=4:=by rw[HHD.out,if_pos (by rw[htd];exact hdt)]
       have HT:=hid (DFmR.word (D:=D) (fr:=fr) (mn:=mn) (bl:=bl) HE6.out.2.2 (.inl hh) 9 (by rw[hh];rfl))
       clear hh htd hdt
       go_quiet (fail)
       have hd8:=HE6.out.1.keep (y0b (Below.refl Y6.heap.size Y6) nq)
       have hm8:=HE6.out.2.1.step (Only.of_below (B:=[D.B]) (y0b (Below.refl Y6.heap.size Y6) nq))
       obtain⟨W8,hW8⟩:∃X,Y6.drewN nq=X:=⟨_,rfl⟩
       rw[hW8]at hd8 hm8
       rw[hW8]
       obtain⟨V,hrun,HV⟩:=hm8.fin hd8 (f:=fOp 9 []) (P:=fun k=>R<k) ⟨ArgsP.nil _ _,ArgsP.nil _ _,KidsP.nil _ _⟩ (fun k hk=>hk)
       clear hd8 hm8 hW8 x0 x1 c2'
       go_wp2_with (first|(refine wsr rfl 27 _ _ rfl (.pointer (some ⟨R,0,none⟩)) (.agg #[.int .i64 9,.string ⟨#[]⟩,.int .i64 0,.string ⟨#[]⟩,.slice none 0 0,.int .i64 0,.string ⟨#[]⟩,.slice none 0 0,.slice none 0 0]) rfl (by kernel_rfl) hrun ?_))
       have HVC:Hid (FC9 V R (.int .i64 9) (.string ⟨#[]⟩) (.int .i64 0) (.string ⟨#[]⟩) (.slice none 0 0) (.int .i64 0) (.string ⟨#[]⟩) (.slice none 0 0) (.slice none 0 0)):=HV.out.1
       obtain⟨v0,v1,v2,v3,v4,v5,v6,v7,v8⟩:=HVC.out
       refine bodyPost_ret (v:=.agg #[.int .i64 9,.string ⟨#[]⟩,.int .i64 0,.string ⟨#[]⟩,.slice none 0 0,.int .i64 0,.string ⟨#[]⟩,.slice none 0 0,.slice none 0 0]) (by simp[results,Tryz.results97,go_sem,v0,v1,v2,v3,v4,v5,v6,v7,v8]) rfl ?_
       exact⟨fOp 9 [],_,_,_,r1,fr,mn,bd,HT.out,rfl,HV.out.2.1,HV.out.2.2.1,HV.out.2.2.2⟩
      ·have heq:=str_ne hdt
       rw[show (⟨#[36,116,114,117,101]⟩:ByteArray).toList=[36,116,114,117,101] from by rw[Lib.toList_data]]at heq
       have hh:headOf (t1::r1)=5:=by rw[HHD.out,if_neg (by rw[htd];exact hdt)]
       have HT:=hid (DFmR.word (D:=D) (fr:=fr) (mn:=mn) (bl:=bl) HE6.out.2.2 (.inr hh) 10 (by rw[hh];rfl))
       clear hh htd hdt
       go_quiet (fail)
       have hd8:=HE6.out.1.keep (y0b (Below.refl Y6.heap.size Y6) nq)
       have hm8:=HE6.out.2.1.step (Only.of_below (B:=[D.B]) (y0b (Below.refl Y6.heap.size Y6) nq))
       obtain⟨W8,hW8⟩:∃X,Y6.drewN nq=X:=⟨_,rfl⟩
       rw[hW8]at hd8 hm8
       rw[hW8]
       obtain⟨V,hrun,HV⟩:=hm8.fin hd8 (f:=fOp 10 []) (P:=fun k=>R<k) ⟨ArgsP.nil _ _,ArgsP.nil _ _,KidsP.nil _ _⟩ (fun k hk=>hk)
       clear hd8 hm8 hW8 x0 x1 c2'
       go_wp2_with (first|(refine wsr rfl 27 _ _ rfl (.pointer (some ⟨R,0,none⟩)) (.agg #[.int .i64 10,.string ⟨#[]⟩,.int .i64 0,.string ⟨#[]⟩,.slice none 0 0,.int .i64 0,.string ⟨#[]⟩,.slice none 0 0,.slice none 0 0]) rfl (by kernel_rfl) hrun ?_))
       have HVC:Hid (FC9 V R (.int .i64 10) (.string ⟨#[]⟩) (.int .i64 0) (.string ⟨#[]⟩) (.slice none 0 0) (.int .i64 0) (.string ⟨#[]⟩) (.slice none 0 0) (.slice none 0 0)):=HV.out.1
       obtain⟨v0,v1,v2,v3,v4,v5,v6,v7,v8⟩:=HVC.out
       refine bodyPost_ret (v:=.agg #[.int .i64 10,.string ⟨#[]⟩,.int .i64 0,.string ⟨#[]⟩,.slice none 0 0,.int .i64 0,.string ⟨#[]⟩,.slice none 0 0,.slice none 0 0]) (by simp[results,Tryz.results97,go_sem,v0,v1,v2,v3,v4,v5,v6,v7,v8]) rfl ?_
       exact⟨fOp 10 [],_,_,_,r1,fr,mn,bd,HT.out,rfl,HV.out.2.1,HV.out.2.2.1,HV.out.2.2.2⟩
     | false =>
      have HH:Hid (bd<0->headOf l=0):=fun hb=>by
       have q1:=HB1.out;have q2:=HB2.out;have q3:=HB3.out;have q4:=HB4.out;have q5:=HB5.out
       rw[decide_eq_true hb,Bool.true_and]at q1 q2 q3 q4 q5
       exact head_0 q1 q2 q3 q4 q5
      have hi6:=y15 hd5 1
      obtain⟨b6,hb6⟩:∃b,(decide (bd<0)&&isK 1 l)=b:=⟨_,rfl⟩
      rw[hb6]at hi6
      have HB6:=hid hb6
      have H5:=hid (And.intro hd5 hm5)
      clear hb6 hd5 hm5
      go_wp2_with fail
      refine hi6.mono ?_
      rintro e W6 ⟨rfl,hbW6⟩
      have hd6:=H5.out.1.keep hbW6
      have hm6:=H5.out.2.step (Only.of_below (B:=[D.B]) hbW6)
      clear hi6 hbW6 H5
      cases b6 with
      | true =>
       have hc:=datom_any hd6 (HSW.out _ hm6.on)
       have HMk:=hid hm6
       clear hd6 hm6
       go_wp2_with fail
       refine hc.mono ?_
       rintro e W8 ⟨f,sl,sr,sk,l2,fr2,mn2,bd2,hT,rfl,hf,hd8,ho8⟩
       clear hc
       obtain⟨la,lc,rfl,-,-⟩:=hf.l.slice'
       obtain⟨ra,rc,rfl,-,-⟩:=hf.r.slice'
       obtain⟨ka,kc,rfl,-,-⟩:=hf.k.slice
       have hm8:=HMk.out.step ho8
       obtain⟨V,hrun,HV⟩:=hm8.fin hd8 hf (fun k hk=>by have:=HMk.out.lt;omega)
       have HT:=hid (DFmR.atom HH.out hT)
       clear hT hf hd8 ho8 hm8
       go_wp2_with (first|(refine wsr rfl 27 _ _ rfl (.pointer (some ⟨R,0,none⟩)) (fval f (.slice la f.l.args.length lc) (.slice ra f.r.args.length rc) (.slice ka f.kids.length kc)) rfl rfl hrun ?_))
       have HVC:Hid (FC9 V R (.int .i64 f.k) (.string f.nm) (.int .i64 f.l.v) (.string f.l.fn) (.slice la f.l.args.length lc) (.int .i64 f.r.v) (.string f.r.fn) (.slice ra f.r.args.length rc) (.slice ka f.kids.length kc)):=HV.out.1
       obtain⟨v0,v1,v2,v3,v4,v5,v6,v7,v8⟩:=HVC.out
       refine bodyPost_ret (v:=.agg #[.int .i64 f.k,.string f.nm,.int .i64 f.l.v,.string f.l.fn,.slice la f.l.args.length lc,.int .i64 f.r.v,.string f.r.fn,.slice ra f.r.args.length rc,.slice ka f.kids.length kc]) (by simp[results,Tryz.results97,go_sem,v0,v1,v2,v3,v4,v5,v6,v7,v8]) rfl ?_
       exact⟨f,_,_,_,l2,fr2,mn2,bd2,HT.out,rfl,HV.out.2.1,HV.out.2.2.1,HV.out.2.2.2⟩
      | false =>
       have hi7:=y15 hd6 2
       obtain⟨b7,hb7⟩:∃b,(decide (bd<0)&&isK 2 l)=b:=⟨_,rfl⟩
       rw[hb7]at hi7
       have HB7:=hid hb7
       have H6:=hid (And.intro hd6 hm6)
       clear hb7 hd6 hm6
       go_wp2_with fail
       refine hi7.mono ?_
       rintro e W7 ⟨rfl,hbW7⟩
       have hd7:=H6.out.1.keep hbW7
       have hm7:=H6.out.2.step (Only.of_below (B:=[D.B]) hbW7)
       clear hi7 hbW7 H6
       cases b7 with
       | true =>
        have hc:=datom_any hd7 (HSW.out _ hm7.on)
        have HMk:=hid hm7
        clear hd7 hm7
        go_wp2_with fail
        refine hc.mono ?_
        rintro e W8 ⟨f,sl,sr,sk,l2,fr2,mn2,bd2,hT,rfl,hf,hd8,ho8⟩
        clear hc
        obtain⟨la,lc,rfl,-,-⟩:=hf.l.slice'
        obtain⟨ra,rc,rfl,-,-⟩:=hf.r.slice'
        obtain⟨ka,kc,rfl,-,-⟩:=hf.k.slice
        have hm8:=HMk.out.step ho8
        obtain⟨V,hrun,HV⟩:=hm8.fin hd8 hf (fun k hk=>by have:=HMk.out.lt;omega)
        have HT:=hid (DFmR.atom HH.out hT)
        clear hT hf hd8 ho8 hm8
        go_wp2_with (first|(refine wsr rfl 27 _ _ rfl (.pointer (some ⟨R,0,none⟩)) (fval f (.slice la f.l.args.length lc) (.slice ra f.r.args.length rc) (.slice ka f.kids.length kc)) rfl rfl hrun ?_))
        have HVC:Hid (FC9 V R (.int .i64 f.k) (.string f.nm) (.int .i64 f.l.v) (.string f.l.fn) (.slice la f.l.args.length lc) (.int .i64 f.r.v) (.string f.r.fn) (.slice ra f.r.args.length rc) (.slice ka f.kids.length kc)):=HV.out.1
        obtain⟨v0,v1,v2,v3,v4,v5,v6,v7,v8⟩:=HVC.out
        refine bodyPost_ret (v:=.agg #[.int .i64 f.k,.string f.nm,.int .i64 f.l.v,.string f.l.fn,.slice la f.l.args.length lc,.int .i64 f.r.v,.string f.r.fn,.slice ra f.r.args.length rc,.slice ka f.kids.length kc]) (by simp[results,Tryz.results97,go_sem,v0,v1,v2,v3,v4,v5,v6,v7,v8]) rfl ?_
        exact⟨f,_,_,_,l2,fr2,mn2,bd2,HT.out,rfl,HV.out.2.1,HV.out.2.2.1,HV.out.2.2.2⟩
       | false =>
        have hfl:=y29 hd7
        have HT:=hid (DFmR.none (D:=D) (bl:=bl) (fr:=fr) (mn:=mn) HH.out HB6.out HB7.out (fOp 10 []))
        have HMk:=hid hm7
        clear hd7 hm7
        go_wp2_with fail
        refine hfl.mono ?_
        rintro e W8 ⟨rfl,hd8,ho8⟩
        clear hfl
        have hm8:=HMk.out.step ho8
        obtain⟨V,hrun,HV⟩:=hm8.fin hd8 (f:=fOp 10 []) (P:=fun k=>R<k) ⟨ArgsP.nil _ _,ArgsP.nil _ _,KidsP.nil _ _⟩ (fun k hk=>hk)
        clear hd8 ho8 hm8
        go_wp2_with (first|(refine wsr rfl 27 _ _ rfl (.pointer (some ⟨R,0,none⟩)) (.agg #[.int .i64 10,.string ⟨#[]⟩,.int .i64 0,.string ⟨#[]⟩,.slice none 0 0,.int .i64 0,.string ⟨#[]⟩,.slice none 0 0,.slice none 0 0]) rfl rfl hrun ?_))
        have HVC:Hid (FC9 V R (.int .i64 10) (.string ⟨#[]⟩) (.int .i64 0) (.string ⟨#[]⟩) (.slice none 0 0) (.int .i64 0) (.string ⟨#[]⟩) (.slice none 0 0) (.slice none 0 0)):=HV.out.1
        obtain⟨v0,v1,v2,v3,v4,v5,v6,v7,v8⟩:=HVC.out
        refine bodyPost_ret (v:=.agg #[.int .i64 10,.string ⟨#[]⟩,.int .i64 0,.string ⟨#[]⟩,.slice none 0 0,.int .i64 0,.string ⟨#[]⟩,.slice none 0 0,.slice none 0 0]) (by simp[results,Tryz.results97,go_sem,v0,v1,v2,v3,v4,v5,v6,v7,v8]) rfl ?_
        exact⟨fOp 10 [],_,_,_,_,fr,mn,_,HT.out,rfl,HV.out.2.1,HV.out.2.2.1,HV.out.2.2.2⟩
end
