import Derived.Test.YthkinkcpfcpehaaGreatDoorZS
import Derived.Test.YthkinkcpfcpehaaGreatDoorLO
import Derived.Deep.Slices
import Derived.Deep.RegionLaw
import Derived.Maps.AppendAt
namespace Go.Proofs.YthkinkcpfcpehaaGreatDoor.Lx
set_option maxRecDepth 100000
set_option maxHeartbeats 16000000
section
open Go.RowKit Go.Shelf
abbrev oneV (k a:Int)(t:ByteArray)(n e:Int):Value:=.tuple #[.agg #[.int .i64 k,.int .i64 a,.string t],.int .i64 n,.int .i64 e]
def atI (i:Nat)(r:Rd):Int:=if r.e=0 then (i:Nat) else 0
def endI (i:Nat)(r:Rd):Int:=if r.e=0 then ((i+r.n:Nat):Nat) else 0
def Ob (w W:World):Prop:=Below w.heap.size w W∧W.heap[w.heap.size]? =some (.cells #[.int .i64 0,.int .i64 0,.string ⟨#[]⟩] 133 (0,0))
theorem Ob.new (w:World):Ob w (w.alloc (.cells #[.int .i64 0,.int .i64 0,.string ⟨#[]⟩] 133)):=⟨bbx _ _,(jH w _).1⟩
theorem Ob.keep {w W W':World}(h:Ob w W)(hb:Below W.heap.size W W'):Ob w W':=⟨h.1.trans (hb.mono h.1.size),(hb.block _ (jG h.2).1).trans h.2⟩
theorem Tryz.info39z:(Tryz.prog.info? 133).map (·.size)=some 3:=by kernel_rfl
theorem Ob.told {w W:World}(h:Ob w W)(k a:Int)(s:ByteArray) :
  ∃W',(Instr.storeAt 133 (.pointer (some ⟨w.heap.size,0,none⟩)) (.agg #[.int .i64 k,.int .i64 a,.string s])).run Tryz.prog W=.ok () W'∧(W'.cell? ⟨w.heap.size,0,none⟩=some (.int .i64 k)∧W'.cell? ⟨w.heap.size,1,none⟩=some (.int .i64 a)∧W'.cell? ⟨w.heap.size,2,none⟩=some (.string s))∧Below w.heap.size w W':=by
 obtain⟨W',h1,h2,h3⟩:=y0a 133 W w.heap.size _ [.int .i64 k,.int .i64 a,.string s] h.2 rfl Tryz.info39z (by intro z hz;simp only[List.mem_cons,List.not_mem_nil,or_false]at hz;rcases hz with rfl|rfl|rfl<;>rfl)
 refine⟨W',h1,⟨?_,?_,?_⟩,h.1.trans (h3.below h.1.size (by simp))⟩<;>simp[World.cell?,h2]
theorem hd_drop (s:ByteArray)(i:Nat)(h:i<s.size):hd (s.data.toList.drop i)=s[i].toNat:=by rw[y0f s i h];rfl
theorem y2t {i:Nat}{e:Int}(he:e≠0):oneV (badR e).k (atI i (badR e)) (ofL (badR e).t) (endI i (badR e)) (badR e).e=oneV 0 0 ⟨#[]⟩ 0 e:=by
 unfold badR atI endI
 simp[he]
 rfl
set_option maxRecDepth 100000 in
theorem one_any (s:ByteArray)(i:Nat)(w:World)(hi:i<s.size)(hs:s.size<=2097154):Calls Tryz.prog 96 #[.string s,.int .i64 (i:Nat)] w fun e w' =>
  e=.returned (oneV (rd (s.data.toList.drop i)).k (atI i (rd (s.data.toList.drop i))) (ofL (rd (s.data.toList.drop i)).t) (endI i (rd (s.data.toList.drop i))) (rd (s.data.toList.drop i)).e)∧Below w.heap.size w w':=by
 have HR:Hid (Ob w (w.alloc (.cells #[.int .i64 0,.int .i64 0,.string ⟨#[]⟩] 133))):=Ob.new w
 obtain⟨W1,h1⟩:∃X,w.alloc (.cells #[.int .i64 0,.int .i64 0,.string ⟨#[]⟩] 133)=X:=⟨_,rfl⟩
 rw[h1]at HR
 have HE:Hid (w.alloc (.cells #[.int .i64 0,.int .i64 0,.string ⟨#[]⟩] 133)=W1):=h1
 clear h1
 have hh:=hd_drop s i hi
 obtain⟨l,hl⟩:∃l,s.data.toList.drop i=l:=⟨_,rfl⟩
 have hll:l.length=s.size-i:=by rw[<-hl,List.length_drop,size_len]
 have hex:∀n,s.extract i (i+n)=ofL (l.take n):=fun n=>by rw[y2w,hl,show i+n-i=n by omega]
 have H24:=fun W=>run_any s i W (by omega) hs
 have H24b:=fun W=>run_any s (i+1) W (by omega) hs
 have H35:=fun W=>quoted_any s i W hi hs
 have H36:=fun W=>mark_any s i W (by omega) hs
 rw[<-List.drop_drop]at H24b H35
 rw[hl]at hh H24 H24b H35 H36
 rw[hl]
 cases h1:smB s[i].toNat
 ·cases h2:caB s[i].toNat
  ·by_cases h3:(s[i].toNat:Int)=39
   ·have HD:Hid (rd l=rdQ (l.drop 1)):=by show _=_;unfold rd;rw[hh,h1,h2,if_neg (by simp),if_neg (by simp),if_pos h3]
    have g3:((s[i].toNat:Int)==39)=true:=by rw[h3];rfl
    clear H24 H24b H36 hex hh
    cases hq:qs (l.drop 1) with
    | none =>
     have HF:Hid (oneV (rd l).k (atI i (rd l)) (ofL (rd l).t) (endI i (rd l)) (rd l).e=oneV 0 0 ⟨#[]⟩ 0 20):=by show _=_;rw[HD.out];unfold rdQ;rw[hq,y2t (by decide)]
     have hq2:∀W,Calls Tryz.prog 138 #[.string s,.int .i64 (i:Nat)] W fun e w'=>e=.returned (.tuple #[.string ⟨#[]⟩,.int .i64 0,.bool false])∧Below W.heap.size W w':=fun W=>by have:=H35 W;rwa [hq]at this
     clear hq hl hll h3 H35
     go_enter Tryz.func96,Tryz.ntmps96
     go_wp2_with (first|(go_at_call 135;refine (y0e _ _).mono ?_;rintro e wq ⟨rfl,rfl⟩)|(go_at_call 136;refine (y04 _ _).mono ?_;rintro e wq ⟨rfl,rfl⟩))
     try rw[HE.out]
     refine (hq2 _).mono ?_
     rintro e W3 ⟨rfl,b3⟩
     have HR3:Hid (Ob w W3):=HR.out.keep b3
     clear b3 hq2
     obtain⟨W2,hrun,⟨k0,k1,k2⟩,hb2⟩:=HR3.out.told 0 0 ⟨#[]⟩
     go_wp2_with (first|(go_at_call 136;refine (y04 _ _).mono ?_;rintro e wq ⟨rfl,rfl⟩)|(refine wsr rfl 133 _ _ rfl (.pointer (some ⟨w.heap.size,0,none⟩)) (.agg #[.int .i64 0,.int .i64 0,.string ⟨#[]⟩]) rfl rfl hrun ?_))
     refine bodyPost_ret (v:=oneV 0 0 ⟨#[]⟩ 0 20) (by simp[results,Tryz.results96,go_sem, *]) rfl ⟨by rw[HF.out],hb2⟩
    | some p =>
     obtain⟨n,k⟩:=p
     obtain⟨u1,u2,u3⟩:=qs_uq _ _ (jJ _) n k hq
     have hnl:n.length<=2097154:=by
      have:=uq_len _ _ u3
      rw[List.length_take,List.length_drop]at this
      omega
     have hkl:i+1+k<=s.size:=by rw[List.length_drop]at u2;omega
     obtain⟨N,hN⟩:∃N,ofL n=N:=⟨_,rfl⟩
     have hNl:N.data.toList=n:=by rw[<-hN];rfl
     have hNs:N.size=n.length:=by rw[<-hN];rfl
     have hq2:∀W,Calls Tryz.prog 138 #[.string s,.int .i64 (i:Nat)] W fun e w'=>e=.returned (.tuple #[.string N,.int .i64 ((i+1+k:Nat):Nat),.bool true])∧Below W.heap.size W w':=fun W=>by
      have:=H35 W
      rw[hq]at this
      have e:quV (qo [] (i+1) (some (n,k)))=.tuple #[.string N,.int .i64 ((i+1+k:Nat):Nat),.bool true]:=by simp[quV,qo,hN]
      rwa [e]at this
     cases hb:bnB n with
     | false =>
      have HF:Hid (oneV (rd l).k (atI i (rd l)) (ofL (rd l).t) (endI i (rd l)) (rd l).e=oneV 0 0 ⟨#[]⟩ 0 20):=by show _=_;rw[HD.out];unfold rdQ;rw[hq];simp only[hb];rw[if_neg (by simp),y2t (by decide)]
      by_cases hp:0<N.size
      ·have hE:N.toList.isEmpty=false:=by rw[y0v];exact decide_eq_false (by omega)
       have hb':(!caB N[0].toNat&&((N[0].toNat:Int) != 64)&&((N[0].toNat:Int) != 36))=false:=by
        have:=hb
        unfold bnB at this
        rw[<-hNl,y2g hp,hd_of N hp]at this
        simpa using this
       clear hq hl hll h3 H35 u1 u2 u3 hb hN hNl
       cases c1:caB N[0].toNat
       ·by_cases c2:(N[0].toNat:Int)=64
        ·have c2':((N[0].toNat:Int)==64)=true:=by rw[c2];rfl
         clear hb' c2
         go_enter Tryz.func96,Tryz.ntmps96
         go_wp2_with (first|(go_at_call 135;refine (y0e _ _).mono ?_;rintro e wq ⟨rfl,rfl⟩)|(go_at_call 136;refine (y04 _ _).mono ?_;rintro e wq ⟨rfl,rfl⟩))
         try rw[HE.out]
         refine (hq2 _).mono ?_
         rintro e W3 ⟨rfl,b3⟩
         have HR3:Hid (Ob w W3):=HR.out.keep b3
         clear b3 hq2
         obtain⟨W2,hrun,⟨k0,k1,k2⟩,hb2⟩:=HR3.out.told 0 0 ⟨#[]⟩
         go_wp2_with (first|(go_at_call 136;refine (y04 _ _).mono ?_;rintro e wq ⟨rfl,rfl⟩)|(refine wsr rfl 133 _ _ rfl (.pointer (some ⟨w.heap.size,0,none⟩)) (.agg #[.int .i64 0,.int .i64 0,.string ⟨#[]⟩]) rfl rfl hrun ?_))
         refine bodyPost_ret (v:=oneV 0 0 ⟨#[]⟩ 0 20) (by simp[results,Tryz.results96,go_sem, *]) rfl ⟨by rw[HF.out],hb2⟩
        ·have c2':((N[0].toNat:Int)==64)=false:=by simpa using c2
         have c3':((N[0].toNat:Int)==36)=true:=by simp[c1,c2]at hb';simpa using hb'
         clear hb' c2
         go_enter Tryz.func96,Tryz.ntmps96
         go_wp2_with (first|(go_at_call 135;refine (y0e _ _).mono ?_;rintro e wq ⟨rfl,rfl⟩)|(go_at_call 136;refine (y04 _ _).mono ?_;rintro e wq ⟨rfl,rfl⟩))
         try rw[HE.out]
         refine (hq2 _).mono ?_
         rintro e W3 ⟨rfl,b3⟩
         have HR3:Hid (Ob w W3):=HR.out.keep b3
         clear b3 hq2
         obtain⟨W2,hrun,⟨k0,k1,k2⟩,hb2⟩:=HR3.out.told 0 0 ⟨#[]⟩
         go_wp2_with (first|(go_at_call 136;refine (y04 _ _).mono ?_;rintro e wq ⟨rfl,rfl⟩)|(refine wsr rfl 133 _ _ rfl (.pointer (some ⟨w.heap.size,0,none⟩)) (.agg #[.int .i64 0,.int .i64 0,.string ⟨#[]⟩]) rfl rfl hrun ?_))
         refine bodyPost_ret (v:=oneV 0 0 ⟨#[]⟩ 0 20) (by simp[results,Tryz.results96,go_sem, *]) rfl ⟨by rw[HF.out],hb2⟩
       ·clear hb'
        go_enter Tryz.func96,Tryz.ntmps96
        go_wp2_with (first|(go_at_call 135;refine (y0e _ _).mono ?_;rintro e wq ⟨rfl,rfl⟩)|(go_at_call 136;refine (y04 _ _).mono ?_;rintro e wq ⟨rfl,rfl⟩))
        try rw[HE.out]
        refine (hq2 _).mono ?_
        rintro e W3 ⟨rfl,b3⟩
        have HR3:Hid (Ob w W3):=HR.out.keep b3
        clear b3 hq2
        obtain⟨W2,hrun,⟨k0,k1,k2⟩,hb2⟩:=HR3.out.told 0 0 ⟨#[]⟩
        go_wp2_with (first|(go_at_call 136;refine (y04 _ _).mono ?_;rintro e wq ⟨rfl,rfl⟩)|(refine wsr rfl 133 _ _ rfl (.pointer (some ⟨w.heap.size,0,none⟩)) (.agg #[.int .i64 0,.int .i64 0,.string ⟨#[]⟩]) rfl rfl hrun ?_))
        refine bodyPost_ret (v:=oneV 0 0 ⟨#[]⟩ 0 20) (by simp[results,Tryz.results96,go_sem, *]) rfl ⟨by rw[HF.out],hb2⟩
      ·have hE:N.toList.isEmpty=true:=by rw[y0v];exact decide_eq_true (by omega)
       clear hq hl hll h3 H35 u1 u2 u3 hb hN hNl
       go_enter Tryz.func96,Tryz.ntmps96
       go_wp2_with (first|(go_at_call 135;refine (y0e _ _).mono ?_;rintro e wq ⟨rfl,rfl⟩)|(go_at_call 136;refine (y04 _ _).mono ?_;rintro e wq ⟨rfl,rfl⟩))
       try rw[HE.out]
       refine (hq2 _).mono ?_
       rintro e W3 ⟨rfl,b3⟩
       have HR3:Hid (Ob w W3):=HR.out.keep b3
       clear b3 hq2
       obtain⟨W2,hrun,⟨k0,k1,k2⟩,hb2⟩:=HR3.out.told 0 0 ⟨#[]⟩
       go_wp2_with (first|(go_at_call 136;refine (y04 _ _).mono ?_;rintro e wq ⟨rfl,rfl⟩)|(refine wsr rfl 133 _ _ rfl (.pointer (some ⟨w.heap.size,0,none⟩)) (.agg #[.int .i64 0,.int .i64 0,.string ⟨#[]⟩]) rfl rfl hrun ?_))
       refine bodyPost_ret (v:=oneV 0 0 ⟨#[]⟩ 0 20) (by simp[results,Tryz.results96,go_sem, *]) rfl ⟨by rw[HF.out],hb2⟩
     | true =>
      have hp:0<N.size:=by
       rcases Nat.eq_zero_or_pos N.size with h0|h0
       ·rw[hNs]at h0
        have:n=[]:=List.length_eq_zero_iff.1 h0
        rw[this]at hb
        exact absurd hb (by decide)
       ·exact h0
      have hE:N.toList.isEmpty=false:=by rw[y0v];exact decide_eq_false (by omega)
      have hb':(!caB N[0].toNat&&((N[0].toNat:Int) != 64)&&((N[0].toNat:Int) != 36))=true:=by
       have:=hb
       unfold bnB at this
       rw[<-hNl,y2g hp,hd_of N hp]at this
       simpa using this
      have c1:caB N[0].toNat=false:=by simp at hb';exact hb'.1.1
      have c2:((N[0].toNat:Int)==64)=false:=by simp at hb';simpa using hb'.1.2
      have c3:((N[0].toNat:Int)==36)=false:=by simp at hb';simpa using hb'.2
      by_cases h6:63<n.length
      ·have HF:Hid (oneV (rd l).k (atI i (rd l)) (ofL (rd l).t) (endI i (rd l)) (rd l).e=oneV 0 0 ⟨#[]⟩ 0 3):=by show _=_;rw[HD.out];unfold rdQ;rw[hq];simp only[hb];rw[if_pos trivial,if_pos h6,y2t (by decide)]
       have hg:(64:Int)<=(N.size:Int):=by omega
       have hg2:64<=N.size:=by omega
       clear hq hl hll h3 H35 u1 u2 u3 hb hN hNl hb' h6 hNs
       go_enter Tryz.func96,Tryz.ntmps96
       go_wp2_with (first|(go_at_call 135;refine (y0e _ _).mono ?_;rintro e wq ⟨rfl,rfl⟩)|(go_at_call 136;refine (y04 _ _).mono ?_;rintro e wq ⟨rfl,rfl⟩))
       try rw[HE.out]
       refine (hq2 _).mono ?_
       rintro e W3 ⟨rfl,b3⟩
       have HR3:Hid (Ob w W3):=HR.out.keep b3
       clear b3 hq2
       obtain⟨W2,hrun,⟨k0,k1,k2⟩,hb2⟩:=HR3.out.told 0 0 ⟨#[]⟩
       go_wp2_with (first|(go_at_call 136;refine (y04 _ _).mono ?_;rintro e wq ⟨rfl,rfl⟩)|(refine wsr rfl 133 _ _ rfl (.pointer (some ⟨w.heap.size,0,none⟩)) (.agg #[.int .i64 0,.int .i64 0,.string ⟨#[]⟩]) rfl rfl hrun ?_))
       refine bodyPost_ret (v:=oneV 0 0 ⟨#[]⟩ 0 3) (by simp[results,Tryz.results96,go_sem, *]) rfl ⟨by rw[HF.out],hb2⟩
      ·have HF:Hid (oneV (rd l).k (atI i (rd l)) (ofL (rd l).t) (endI i (rd l)) (rd l).e=oneV 1 (i:Nat) N ((i+1+k:Nat):Nat) 0):=by show _=_;rw[HD.out];unfold rdQ;rw[hq];simp only[hb];rw[if_pos trivial,if_neg h6,hN];unfold atI endI;simp;omega
       have hg:¬(64:Int)<=(N.size:Int):=by omega
       have hg2:¬64<=N.size:=by omega
       clear hq hl hll h3 H35 u1 u2 u3 hb hN hNl hb' h6 hNs
       go_enter Tryz.func96,Tryz.ntmps96
       go_wp2_with (first|(go_at_call 135;refine (y0e _ _).mono ?_;rintro e wq ⟨rfl,rfl⟩)|(go_at_call 136;refine (y04 _ _).mono ?_;rintro e wq ⟨rfl,rfl⟩))
       try rw[HE.out]
       refine (hq2 _).mono ?_
       rintro e W3 ⟨rfl,b3⟩
       have HR3:Hid (Ob w W3):=HR.out.keep b3
       clear b3 hq2
       obtain⟨W2,hrun,⟨k0,k1,k2⟩,hb2⟩:=HR3.out.told 1 (i:Nat) N
       go_wp2_with (first|(go_at_call 136;refine (y04 _ _).mono ?_;rintro e wq ⟨rfl,rfl⟩)|(refine wsr rfl 133 _ _ rfl (.pointer (some ⟨w.heap.size,0,none⟩)) (.agg #[.int .i64 1,.int .i64 (i:Nat),.string N]) rfl rfl hrun ?_))
       refine bodyPost_ret (v:=oneV 1 (i:Nat) N ((i+1+k:Nat):Nat) 0) (by simp[results,Tryz.results96,go_sem, *]) rfl ⟨by rw[HF.out],hb2⟩
   ·have g3:((s[i].toNat:Int)==39)=false:=by simpa using h3
    by_cases h4:(s[i].toNat:Int)=36
    ·have g4:((s[i].toNat:Int)==36)=true:=by rw[h4];rfl
     have HD:Hid (rd l=rdD l):=by show _=_;unfold rd;rw[hh,h1,h2,if_neg (by simp),if_neg (by simp),if_neg h3,if_pos h4]
     have hwl:1+wlen (l.drop 1)<=s.size-i:=by have:=y2d (l.drop 1);rw[List.length_drop]at this;omega
     have hX:=hex (1+wlen (l.drop 1))
     obtain⟨n,hn⟩:∃n,wlen (l.drop 1)=n:=⟨_,rfl⟩
     have HD2:Hid (rd l=if l.take (1+n)=dTrue then ⟨3,dTrue,1+n,0⟩ else if l.take (1+n)=dFalse then ⟨3,dFalse,1+n,0⟩ else badR 20):=by show _=_;rw[HD.out];unfold rdD;rw[hn]
     rw[hn]at hwl H24b hX
     have hX':s.extract i (i+1+n)=ofL (l.take (1+n)):=by rw[show i+1+n=i+(1+n) by omega];exact hX
     have hg3:(i:Int)+1+(n:Int)<=(s.size:Int):=by omega
     clear H24 H35 H36 hex hh hX hn
     by_cases d1:l.take (1+n)=dTrue
     ·have HF:Hid (oneV (rd l).k (atI i (rd l)) (ofL (rd l).t) (endI i (rd l)) (rd l).e=oneV 3 (i:Nat) ⟨#[36,116,114,117,101]⟩ ((i+1+n:Nat):Nat) 0):=by show _=_;rw[HD2.out,if_pos d1];unfold atI endI;simp[dTrue,ofL];omega
      have hx:s.extract i (i+1+n)=⟨#[36,116,114,117,101]⟩:=by rw[hX',d1];rfl
      clear hl hll h3 h4 hX' d1
      go_enter Tryz.func96,Tryz.ntmps96
      go_wp2_with (first|(go_at_call 135;refine (y0e _ _).mono ?_;rintro e wq ⟨rfl,rfl⟩)|(go_at_call 136;refine (y04 _ _).mono ?_;rintro e wq ⟨rfl,rfl⟩))
      try rw[HE.out]
      refine (H24b _).mono ?_
      rintro e W3 ⟨rfl,rfl⟩
      obtain⟨W2,hrun,⟨k0,k1,k2⟩,hb2⟩:=HR.out.told 3 (i:Nat) ⟨#[36,116,114,117,101]⟩
      go_wp2_with (first|(go_at_call 136;refine (y04 _ _).mono ?_;rintro e wq ⟨rfl,rfl⟩)|(refine wsr rfl 133 _ _ rfl (.pointer (some ⟨w.heap.size,0,none⟩)) (.agg #[.int .i64 3,.int .i64 (i:Nat),.string ⟨#[36,116,114,117,101]⟩]) rfl rfl hrun ?_))
      refine bodyPost_ret (v:=oneV 3 (i:Nat) ⟨#[36,116,114,117,101]⟩ ((i+1+n:Nat):Nat) 0) (by simp[results,Tryz.results96,go_sem, *]) rfl ⟨by rw[HF.out],hb2⟩
     ·by_cases d2:l.take (1+n)=dFalse
      ·have HF:Hid (oneV (rd l).k (atI i (rd l)) (ofL (rd l).t) (endI i (rd l)) (rd l).e=oneV 3 (i:Nat) ⟨#[36,102,97,108,115,101]⟩ ((i+1+n:Nat):Nat) 0):=by show _=_;rw[HD2.out,if_neg d1,if_pos d2];unfold atI endI;simp[dFalse,ofL];omega
       have hx:s.extract i (i+1+n)=⟨#[36,102,97,108,115,101]⟩:=by rw[hX',d2];rfl
       clear hl hll h3 h4 hX' d1 d2
       go_enter Tryz.func96,Tryz.ntmps96
       go_wp2_with (first|(go_at_call 135;refine (y0e _ _).mono ?_;rintro e wq ⟨rfl,rfl⟩)|(go_at_call 136;refine (y04 _ _).mono ?_;rintro e wq ⟨rfl,rfl⟩))
       try rw[HE.out]
       refine (H24b _).mono ?_
       rintro e W3 ⟨rfl,rfl⟩
       obtain⟨W2,hrun,⟨k0,k1,k2⟩,hb2⟩:=HR.out.told 3 (i:Nat) ⟨#[36,102,97,108,115,101]⟩
       go_wp2_with (first|(go_at_call 136;refine (y04 _ _).mono ?_;rintro e wq ⟨rfl,rfl⟩)|(refine wsr rfl 133 _ _ rfl (.pointer (some ⟨w.heap.size,0,none⟩)) (.agg #[.int .i64 3,.int .i64 (i:Nat),.string ⟨#[36,102,97,108,115,101]⟩]) rfl rfl hrun ?_))
       refine bodyPost_ret (v:=oneV 3 (i:Nat) ⟨#[36,102,97,108,115,101]⟩ ((i+1+n:Nat):Nat) 0) (by simp[results,Tryz.results96,go_sem, *]) rfl ⟨by rw[HF.out],hb2⟩
      ·have HF:Hid (oneV (rd l).k (atI i (rd l)) (ofL (rd l).t) (endI i (rd l)) (rd l).e=oneV 0 0 ⟨#[]⟩ 0 20):=by show _=_;rw[HD2.out,if_neg d1,if_neg d2,y2t (by decide)]
       obtain⟨T,hT⟩:∃T,ofL (l.take (1+n))=T:=⟨_,rfl⟩
       have hx:s.extract i (i+1+n)=T:=by rw[hX',hT]
       have y1:(T.toList==[36,116,114,117,101])=false:=by rw[<-hT,Lib.toList_data,y1b,beq_eq_false_iff_ne];exact d1
       have y2:(T.toList==[36,102,97,108,115,101])=false:=by rw[<-hT,Lib.toList_data,y1b,beq_eq_false_iff_ne];exact d2
       clear hl hll h3 h4 hX' d1 d2 hT
       go_enter Tryz.func96,Tryz.ntmps96
       go_wp2_with (first|(go_at_call 135;refine (y0e _ _).mono ?_;rintro e wq ⟨rfl,rfl⟩)|(go_at_call 136;refine (y04 _ _).mono ?_;rintro e wq ⟨rfl,rfl⟩))
       try rw[HE.out]
       refine (H24b _).mono ?_
       rintro e W3 ⟨rfl,rfl⟩
       obtain⟨W2,hrun,⟨k0,k1,k2⟩,hb2⟩:=HR.out.told 0 0 ⟨#[]⟩
       go_wp2_with (first|(go_at_call 136;refine (y04 _ _).mono ?_;rintro e wq ⟨rfl,rfl⟩)|(refine wsr rfl 133 _ _ rfl (.pointer (some ⟨w.heap.size,0,none⟩)) (.agg #[.int .i64 0,.int .i64 0,.string ⟨#[]⟩]) rfl rfl hrun ?_))
       refine bodyPost_ret (v:=oneV 0 0 ⟨#[]⟩ 0 20) (by simp[results,Tryz.results96,go_sem, *]) rfl ⟨by rw[HF.out],hb2⟩
    ·have g4:((s[i].toNat:Int)==36)=false:=by simpa using h4
     have HD:Hid (rd l=rdM l):=by show _=_;unfold rd;rw[hh,h1,h2,if_neg (by simp),if_neg (by simp),if_neg h3,if_neg h4]
     have hml:=mkL_len l
     have HM:Hid (rd l=if mkL l=[] then badR 20 else ⟨4,mkL l,(mkL l).length,0⟩):=by show _=_;rw[HD.out,rdM_mk]
     obtain⟨m,hm⟩:∃m,mkL l=m:=⟨_,rfl⟩
     rw[hm]at hml HM H36
     obtain⟨T,hT⟩:∃T,ofL m=T:=⟨_,rfl⟩
     rw[hT]at H36
     have hTs:T.size=m.length:=by rw[<-hT];rfl
     clear H24 H24b H35 hex hh hm
     by_cases hmz:m=[]
     ·have HF:Hid (oneV (rd l).k (atI i (rd l)) (ofL (rd l).t) (endI i (rd l)) (rd l).e=oneV 0 0 ⟨#[]⟩ 0 20):=by show _=_;rw[HM.out,if_pos hmz,y2t (by decide)]
      have hE:T.toList.isEmpty=true:=by rw[y0v];exact decide_eq_true (by rw[hTs,hmz];rfl)
      clear hl hll h3 h4 hmz hT hTs hml
      go_enter Tryz.func96,Tryz.ntmps96
      go_wp2_with (first|(go_at_call 135;refine (y0e _ _).mono ?_;rintro e wq ⟨rfl,rfl⟩)|(go_at_call 136;refine (y04 _ _).mono ?_;rintro e wq ⟨rfl,rfl⟩))
      try rw[HE.out]
      refine (H36 _).mono ?_
      rintro e W3 ⟨rfl,b3⟩
      have HR3:Hid (Ob w W3):=HR.out.keep b3
      clear b3 H36
      obtain⟨W2,hrun,⟨k0,k1,k2⟩,hb2⟩:=HR3.out.told 0 0 ⟨#[]⟩
      go_wp2_with (first|(go_at_call 136;refine (y04 _ _).mono ?_;rintro e wq ⟨rfl,rfl⟩)|(refine wsr rfl 133 _ _ rfl (.pointer (some ⟨w.heap.size,0,none⟩)) (.agg #[.int .i64 0,.int .i64 0,.string ⟨#[]⟩]) rfl rfl hrun ?_))
      refine bodyPost_ret (v:=oneV 0 0 ⟨#[]⟩ 0 20) (by simp[results,Tryz.results96,go_sem, *]) rfl ⟨by rw[HF.out],hb2⟩
     ·have hE:T.toList.isEmpty=false:=by rw[y0v];exact decide_eq_false (fun e=>hmz (List.length_eq_zero_iff.1 (by omega)))
      have HF:Hid (oneV (rd l).k (atI i (rd l)) (ofL (rd l).t) (endI i (rd l)) (rd l).e=oneV 4 (i:Nat) T ((i+T.size:Nat):Nat) 0):=by show _=_;rw[HM.out,if_neg hmz,hTs];unfold atI endI;simp[hT]
      have hT16:T.size<=16:=by omega
      clear hl hll h3 h4 hmz hT hTs hml
      go_enter Tryz.func96,Tryz.ntmps96
      go_wp2_with (first|(go_at_call 135;refine (y0e _ _).mono ?_;rintro e wq ⟨rfl,rfl⟩)|(go_at_call 136;refine (y04 _ _).mono ?_;rintro e wq ⟨rfl,rfl⟩))
      try rw[HE.out]
      refine (H36 _).mono ?_
      rintro e W3 ⟨rfl,b3⟩
      have HR3:Hid (Ob w W3):=HR.out.keep b3
      clear b3 H36
      obtain⟨W2,hrun,⟨k0,k1,k2⟩,hb2⟩:=HR3.out.told 4 (i:Nat) T
      go_wp2_with (first|(go_at_call 136;refine (y04 _ _).mono ?_;rintro e wq ⟨rfl,rfl⟩)|(refine wsr rfl 133 _ _ rfl (.pointer (some ⟨w.heap.size,0,none⟩)) (.agg #[.int .i64 4,.int .i64 (i:Nat),.string T]) rfl rfl hrun ?_))
      refine bodyPost_ret (v:=oneV 4 (i:Nat) T ((i+T.size:Nat):Nat) 0) (by simp[results,Tryz.results96,go_sem, *]) rfl ⟨by rw[HF.out],hb2⟩
  ·skip
   have HD:Hid (rd l=rdW 2 l):=by show _=_;unfold rd;rw[hh,h1,h2,if_neg (by simp),if_pos rfl]
   have hwl:wlen l<=s.size-i:=by have:=y2d l;omega
   obtain⟨n,hn⟩:∃n,wlen l=n:=⟨_,rfl⟩
   have HX:Hid (s.extract i (i+n)=ofL (l.take n)):=hex n
   rw[hn]at H24 hwl
   clear H24b H35 H36 hex hh
   by_cases h6:63<n
   ·have HF:Hid (oneV (rd l).k (atI i (rd l)) (ofL (rd l).t) (endI i (rd l)) (rd l).e=oneV 0 0 ⟨#[]⟩ 0 3):=by show _=_;rw[HD.out];unfold rdW;rw[hn,if_pos h6,y2t (by decide)]
    have hg:(64:Int)<=(n:Int):=by omega
    have hg2:(64:Nat)<=n:=by omega
    clear hn hl hll
    go_enter Tryz.func96,Tryz.ntmps96
    go_wp2_with (first|(go_at_call 135;refine (y0e _ _).mono ?_;rintro e wq ⟨rfl,rfl⟩)|(go_at_call 136;refine (y04 _ _).mono ?_;rintro e wq ⟨rfl,rfl⟩))
    try rw[HE.out]
    refine (H24 _).mono ?_
    rintro e W3 ⟨rfl,rfl⟩
    obtain⟨W2,hrun,⟨k0,k1,k2⟩,hb2⟩:=HR.out.told 0 0 ⟨#[]⟩
    go_wp2_with (first|(go_at_call 136;refine (y04 _ _).mono ?_;rintro e wq ⟨rfl,rfl⟩)|(refine wsr rfl 133 _ _ rfl (.pointer (some ⟨w.heap.size,0,none⟩)) (.agg #[.int .i64 0,.int .i64 0,.string ⟨#[]⟩]) rfl rfl hrun ?_))
    refine bodyPost_ret (v:=oneV 0 0 ⟨#[]⟩ 0 3) (by simp[results,Tryz.results96,go_sem, *]) rfl ⟨by rw[HF.out],hb2⟩
   ·have HF:Hid (oneV (rd l).k (atI i (rd l)) (ofL (rd l).t) (endI i (rd l)) (rd l).e=oneV 2 (i:Nat) (ofL (l.take n)) ((i+n:Nat):Nat) 0):=by show _=_;rw[HD.out];unfold rdW;rw[hn,if_neg h6];rfl
    have hg:¬(64:Int)<=(n:Int):=by omega
    have hg2:¬(64:Nat)<=n:=by omega
    have hg3:(i:Int)+(n:Int)<=(s.size:Int):=by omega
    obtain⟨T,hT⟩:∃T,ofL (l.take n)=T:=⟨_,rfl⟩
    have hX:s.extract i (i+n)=T:=by rw[HX.out,hT]
    rw[hT]at HF
    clear hn hl hll hT HX
    go_enter Tryz.func96,Tryz.ntmps96
    go_wp2_with (first|(go_at_call 135;refine (y0e _ _).mono ?_;rintro e wq ⟨rfl,rfl⟩)|(go_at_call 136;refine (y04 _ _).mono ?_;rintro e wq ⟨rfl,rfl⟩))
    try rw[HE.out]
    refine (H24 _).mono ?_
    rintro e W3 ⟨rfl,rfl⟩
    obtain⟨W2,hrun,⟨k0,k1,k2⟩,hb2⟩:=HR.out.told 2 (i:Nat) T
    go_wp2_with (first|(go_at_call 136;refine (y04 _ _).mono ?_;rintro e wq ⟨rfl,rfl⟩)|(refine wsr rfl 133 _ _ rfl (.pointer (some ⟨w.heap.size,0,none⟩)) (.agg #[.int .i64 2,.int .i64 (i:Nat),.string T]) rfl rfl hrun ?_))
    refine bodyPost_ret (v:=oneV 2 (i:Nat) T ((i+n:Nat):Nat) 0) (by simp[results,Tryz.results96,go_sem, *]) rfl ⟨by rw[HF.out],hb2⟩
 ·have hca:caB s[i].toNat=false:=by unfold smB at h1;unfold caB;simp at h1 ⊢;omega
  have HD:Hid (rd l=rdW 1 l):=by show _=_;unfold rd;rw[hh,h1,if_pos rfl]
  have hwl:wlen l<=s.size-i:=by have:=y2d l;omega
  obtain⟨n,hn⟩:∃n,wlen l=n:=⟨_,rfl⟩
  have HX:Hid (s.extract i (i+n)=ofL (l.take n)):=hex n
  rw[hn]at H24 hwl
  clear H24b H35 H36 hex hh
  by_cases h6:63<n
  ·have HF:Hid (oneV (rd l).k (atI i (rd l)) (ofL (rd l).t) (endI i (rd l)) (rd l).e=oneV 0 0 ⟨#[]⟩ 0 3):=by show _=_;rw[HD.out];unfold rdW;rw[hn,if_pos h6,y2t (by decide)]
   have hg:(64:Int)<=(n:Int):=by omega
   have hg2:(64:Nat)<=n:=by omega
   clear hn hl hll
   go_enter Tryz.func96,Tryz.ntmps96
   go_wp2_with (first|(go_at_call 135;refine (y0e _ _).mono ?_;rintro e wq ⟨rfl,rfl⟩)|(go_at_call 136;refine (y04 _ _).mono ?_;rintro e wq ⟨rfl,rfl⟩))
   try rw[HE.out]
   refine (H24 _).mono ?_
   rintro e W3 ⟨rfl,rfl⟩
   obtain⟨W2,hrun,⟨k0,k1,k2⟩,hb2⟩:=HR.out.told 0 0 ⟨#[]⟩
   go_wp2_with (first|(go_at_call 136;refine (y04 _ _).mono ?_;rintro e wq ⟨rfl,rfl⟩)|(refine wsr rfl 133 _ _ rfl (.pointer (some ⟨w.heap.size,0,none⟩)) (.agg #[.int .i64 0,.int .i64 0,.string ⟨#[]⟩]) rfl rfl hrun ?_))
   refine bodyPost_ret (v:=oneV 0 0 ⟨#[]⟩ 0 3) (by simp[results,Tryz.results96,go_sem, *]) rfl ⟨by rw[HF.out],hb2⟩
  ·have HF:Hid (oneV (rd l).k (atI i (rd l)) (ofL (rd l).t) (endI i (rd l)) (rd l).e=oneV 1 (i:Nat) (ofL (l.take n)) ((i+n:Nat):Nat) 0):=by show _=_;rw[HD.out];unfold rdW;rw[hn,if_neg h6];rfl
   have hg:¬(64:Int)<=(n:Int):=by omega
   have hg2:¬(64:Nat)<=n:=by omega
   have hg3:(i:Int)+(n:Int)<=(s.size:Int):=by omega
   obtain⟨T,hT⟩:∃T,ofL (l.take n)=T:=⟨_,rfl⟩
   have hX:s.extract i (i+n)=T:=by rw[HX.out,hT]
   rw[hT]at HF
   clear hn hl hll hT HX
   go_enter Tryz.func96,Tryz.ntmps96
   go_wp2_with (first|(go_at_call 135;refine (y0e _ _).mono ?_;rintro e wq ⟨rfl,rfl⟩)|(go_at_call 136;refine (y04 _ _).mono ?_;rintro e wq ⟨rfl,rfl⟩))
   try rw[HE.out]
   refine (H24 _).mono ?_
   rintro e W3 ⟨rfl,rfl⟩
   obtain⟨W2,hrun,⟨k0,k1,k2⟩,hb2⟩:=HR.out.told 1 (i:Nat) T
   go_wp2_with (first|(go_at_call 136;refine (y04 _ _).mono ?_;rintro e wq ⟨rfl,rfl⟩)|(refine wsr rfl 133 _ _ rfl (.pointer (some ⟨w.heap.size,0,none⟩)) (.agg #[.int .i64 1,.int .i64 (i:Nat),.string T]) rfl rfl hrun ?_))
   refine bodyPost_ret (v:=oneV 1 (i:Nat) T ((i+n:Nat):Nat) 0) (by simp[results,Tryz.results96,go_sem, *]) rfl ⟨by rw[HF.out],hb2⟩
end
section
open Go.RowKit Go.Shelf
structure Tk where
 k:Int
 a:Nat
 t:jU
def lexL (a:Nat)(l:jU):List Tk × Nat × Int:=
 match l with
 | []=>([],0,0)
 | c::r =>
  if c=32∨c=9∨c=13 then lexL (a+1) r
  else if c=37 then ([],0,0)
  else if (rd (c::r)).e≠0 then ([],a,(rd (c::r)).e)
  else (⟨(rd (c::r)).k,a,(rd (c::r)).t⟩::(lexL (a+(rd (c::r)).n) (r.drop ((rd (c::r)).n-1))).1,(lexL (a+(rd (c::r)).n) (r.drop ((rd (c::r)).n-1))).2)
termination_by l.length
decreasing_by all_goals simp <;> omega
theorem y1w (a:Nat):lexL a []=([],0,0):=by unfold lexL;rfl
theorem y21 {a:Nat}{c:UInt8}{r:jU}(h:c=32∨c=9∨c=13):lexL a (c::r)=lexL (a+1) r:=by
 conv=>lhs;unfold lexL
 simp only[if_pos h]
theorem y33 {a:Nat}{r:jU}:lexL a (37::r)=([],0,0):=by
 unfold lexL
 rw[if_neg (by decide),if_pos rfl]
theorem y34 {a:Nat}{c:UInt8}{r:jU}(h:¬(c=32∨c=9∨c=13))(h2:c≠37)(h3:(rd (c::r)).e≠0):lexL a (c::r)=([],a,(rd (c::r)).e):=by
 conv=>lhs;unfold lexL
 rw[if_neg h,if_neg h2,if_pos h3]
theorem rdW_n {k:Int}{l:jU}(h:(rdW k l).e=0):(rdW k l).n=wlen l:=by
 unfold rdW at h ⊢
 split
 ·rename_i h6;rw[if_pos h6]at h;exact absurd h (by decide)
 ·rfl
theorem wlen_pos {l:jU}(h:wdB (hd l)=true)(h0:l≠[]):1<=wlen l:=by
 cases l with
 | nil=>exact absurd rfl h0
 | cons c r =>
  have:wdB c.toNat=true:=h
  rw[y41 this];omega
theorem rd_n {l:jU}(h:(rd l).e=0)(h0:l≠[]):1<=(rd l).n∧(rd l).n<=l.length:=by
 have hlen:1<=l.length:=by cases l with|nil=>exact absurd rfl h0|cons c r=>simp
 cases h1:smB (hd l)
 ·cases h2:caB (hd l)
  ·by_cases h3:hd l=39
   ·have hr:rd l=rdQ (l.drop 1):=by unfold rd;rw[h1,h2,if_neg (by simp),if_neg (by simp),if_pos h3]
    rw[hr]at h ⊢
    unfold rdQ at h ⊢
    cases hq:qs (l.drop 1) with
    | none=>rw[hq]at h;exact absurd h (by decide)
    | some p =>
     obtain⟨u1,u2,_⟩:=qs_uq _ _ (jJ _) p.1 p.2 hq
     rw[List.length_drop]at u2
     rw[hq]at h
     simp only at h ⊢
     split
     ·rename_i hb
      rw[if_pos hb]at h
      split
      ·rename_i h6;rw[if_pos h6]at h;exact absurd h (by decide)
      ·refine⟨?_,?_⟩
       ·show 1<=p.2+1;omega
       ·show p.2+1<=l.length;omega
     ·rename_i hb;rw[if_neg hb]at h;exact absurd h (by decide)
   ·by_cases h4:hd l=36
    ·have hr:rd l=rdD l:=by unfold rd;rw[h1,h2,if_neg (by simp),if_neg (by simp),if_neg h3,if_pos h4]
     rw[hr]at h ⊢
     have hw:=y2d (l.drop 1)
     rw[List.length_drop]at hw
     unfold rdD at h ⊢
     obtain⟨n,hn⟩:∃n,wlen (l.drop 1)=n:=⟨_,rfl⟩
     rw[hn]at h hw ⊢
     simp only at h ⊢
     split
     ·refine⟨?_,?_⟩
      ·show 1<=1+n;omega
      ·show 1+n<=l.length;omega
     ·rename_i hb
      rw[if_neg hb]at h
      split
      ·refine⟨?_,?_⟩
       ·show 1<=1+n;omega
       ·show 1+n<=l.length;omega
      ·rename_i hc;rw[if_neg hc]at h;exact absurd h (by decide)
    ·have hr:rd l=rdM l:=by unfold rd;rw[h1,h2,if_neg (by simp),if_neg (by simp),if_neg h3,if_neg h4]
     rw[hr]at h ⊢
     unfold rdM at h ⊢
     cases hf:mks.find? (fun m=>Lib.hasPrefix l m) with
     | none=>rw[hf]at h;exact absurd h (by decide)
     | some m =>
      have hm:=List.mem_of_find?_eq_some hf
      have hp:=List.find?_some hf
      have hpos:∀m∈mks,1<=m.length:=by decide
      refine⟨hpos m hm,?_⟩
      have:m <+: l:=List.isPrefixOf_iff_prefix.1 hp
      exact this.length_le
  ·have hr:rd l=rdW 2 l:=by unfold rd;rw[h1,h2,if_neg (by simp),if_pos rfl]
   rw[hr]at h ⊢
   rw[rdW_n h]
   exact⟨wlen_pos (by unfold wdB;rw[h2];simp) h0,y2d l⟩
 ·have hr:rd l=rdW 1 l:=by unfold rd;rw[h1,if_pos rfl]
  rw[hr]at h ⊢
  rw[rdW_n h]
  exact⟨wlen_pos (by unfold wdB;rw[h1];simp) h0,y2d l⟩
def addD (done:List Tk)(q:List Tk × Nat × Int):List Tk × Nat × Int:=(done++q.1,q.2)
theorem lexL_tok {a:Nat}{c:UInt8}{r:jU}(h:¬(c=32∨c=9∨c=13))(h2:c≠37)(h3:(rd (c::r)).e=0)(done:List Tk):addD done (lexL a (c::r))=addD (done++[⟨(rd (c::r)).k,a,(rd (c::r)).t⟩]) (lexL (a+(rd (c::r)).n) ((c::r).drop (rd (c::r)).n)):=by
 obtain⟨hn,_⟩:=rd_n h3 (by simp)
 have e:(c::r).drop (rd (c::r)).n=r.drop ((rd (c::r)).n-1):=by
  obtain⟨m,hm⟩:∃m,(rd (c::r)).n=m+1:=⟨(rd (c::r)).n-1,by omega⟩
  rw[hm];rfl
 rw[e]
 conv=>lhs;unfold lexL
 rw[if_neg h,if_neg h2,if_neg (by simpa using h3)]
 simp[addD]
def flK (l:List Tk):List Value:=l.flatMap fun f=>[.int .i64 f.k,.int .i64 (f.a:Nat),.string (ofL f.t)]
theorem flK_len (l:List Tk):(flK l).length=l.length*3:=by
 induction l with
 | nil=>rfl
 | cons a r ih=>simp only[flK,List.flatMap_cons,jL,jK,List.length_nil]at ih ⊢;omega
theorem y0r (l:List Tk)(f:Tk):flK (l++[f])=flK l++[.int .i64 f.k,.int .i64 (f.a:Nat),.string (ofL f.t)]:=by simp[flK]
theorem flK_get:∀(l:List Tk)(i:Nat)(h:i<l.length),(flK l)[i*3]? =some (.int .i64 l[i].k)∧(flK l)[i*3+1]? =some (.int .i64 (l[i].a:Nat))∧(flK l)[i*3+2]? =some (.string (ofL l[i].t))
 | f::l,0,_=>⟨rfl,rfl,rfl⟩
 | f::l,i+1,h=>by
  have ih:=flK_get l i (by simpa using h)
  have e:∀j,(flK (f::l))[(i+1)*3+j]? =(flK l)[i*3+j]?:=fun j=>by
   show ([.int .i64 f.k,.int .i64 (f.a:Nat),.string (ofL f.t)]++flK l)[(i+1)*3+j]? =_
   rw[List.getElem?_append_right (by simp;omega)]
   congr 1
   simp
   omega
  exact⟨(e 0).trans ih.1,(e 1).trans ih.2.1,(e 2).trans ih.2.2⟩
def KsAt (W:World)(v:Value)(l:List Tk):Prop:=
 ∃a c,v=.slice a l.length c∧l.length<=c∧c<=9223372036854775807∧(0<l.length->∃b o,b<W.heap.size∧a=some ⟨b,o,none⟩∧∀i (h:i<l.length),W.cell? ⟨b,o+i*3,none⟩=some (.int .i64 l[i].k)∧W.cell? ⟨b,o+i*3+1,none⟩=some (.int .i64 (l[i].a:Nat))∧W.cell? ⟨b,o+i*3+2,none⟩=some (.string (ofL l[i].t)))
theorem KsAt.nil (W:World):KsAt W (.slice none 0 0) []:=⟨none,0,rfl,jJ _,by decide,fun h=>absurd h (by simp)⟩
theorem KsAt.keep {W W':World}{n:Nat}{v:Value}{l:List Tk}(h:KsAt W v l)(hb:Below n W W')(hn:W.heap.size<=n):KsAt W' v l:=by
 obtain⟨a,c,e,h1,h2,h3⟩:=h
 refine⟨a,c,e,h1,h2,fun h0=>?_⟩
 obtain⟨b,o,hlt,ea,hc⟩:=h3 h0
 refine⟨b,o,jI hlt hb.size,ea,fun i hi=>?_⟩
 obtain⟨c0,c1,c2⟩:=hc i hi
 exact⟨kc hb (by omega) c0,kc hb (by omega) c1,kc hb (by omega) c2⟩
theorem KsAt.slice {W:World}{v:Value}{l:List Tk}(h:KsAt W v l):∃a c,v=.slice a l.length c∧l.length<=c∧c<=9223372036854775807:=by
 obtain⟨a,c,e,h1,h2,_⟩:=h
 exact⟨a,c,e,h1,h2⟩
theorem KsAt.nth {W:World}{a:Option Addr}{n c:Nat}{l:List Tk}(h:KsAt W (.slice a n c) l){i:Nat}(hi:i<l.length):∃b o,a=some ⟨b,o,none⟩∧b<W.heap.size∧W.cell? ⟨b,o+i*3,none⟩=some (.int .i64 l[i].k)∧W.cell? ⟨b,o+i*3+1,none⟩=some (.int .i64 (l[i].a:Nat))∧W.cell? ⟨b,o+i*3+2,none⟩=some (.string (ofL l[i].t)):=by
 obtain⟨a',c',e,h1,h2,h3⟩:=h
 cases e
 obtain⟨b,o,hlt,ea,hc⟩:=h3 (by omega)
 exact⟨b,o,ea,hlt,hc i hi⟩
theorem y26 {W:World}{base:Nat}{ty:TypeId}{v:Value}{l:List Tk}(h:W.ownsRow base ty 3 v l.length (flK l)):KsAt W v l:=by
 obtain⟨hl,⟨e,h0⟩|⟨g,cap,cur,e,hb,hg,hc,hm,hsz,ht⟩⟩:=h
 ·have:l=[]:=List.eq_nil_of_length_eq_zero h0
  subst this
  exact⟨none,0,e,jJ _,by omega,fun h=>absurd h (by simp)⟩
 ·refine⟨_,cap,e,hc,by unfold maxLen at hm;omega,fun _=>⟨g,0,(jG hg).1,rfl,fun i hi=>?_⟩⟩
  have hget:∀j u,(flK l)[j]? =some u->W.cell? ⟨g,0+j,none⟩=some u:=fun j u hj=>by
   have hjl:j<l.length*3:=by have:=(List.getElem?_eq_some_iff.1 hj).1;rwa [flK_len]at this
   rw[<-ht,List.getElem?_take,if_pos hjl]at hj
   rw[Nat.zero_add,cell_of_row _ _ _ _ ty (0,0) hg,<-hj]
   simp
  obtain⟨q0,q1,q2⟩:=flK_get l i hi
  exact⟨hget _ _ q0,hget _ _ q1,hget _ _ q2⟩
theorem rsl {W:World}{base size n:Nat}{e:TypeId}{v:Value}{xs:List Value}(h:W.ownsRow base e size v n xs):∃a c,v=.slice a n c:=by
 obtain⟨_,r⟩:=h
 rcases r with⟨h1,h2⟩|⟨g,cap,cur,h1,_⟩
 ·exact⟨none,0,by rw[h1];simp_all⟩
 ·exact⟨_,_,h1⟩
theorem rkp {n0:Nat}{W W':World}{ty:TypeId}{k:Nat}{fv:Value}{n:Nat}{vs:List Value}(h:W.ownsRow n0 ty k fv n vs)(hB:∀g,fv.ownBlock=some g->W'.heap[g]? =W.heap[g]?):W'.ownsRow n0 ty k fv n vs:=by
 obtain⟨h1,h2⟩:=h
 refine⟨h1,?_⟩
 rcases h2 with h2|⟨g,cap,cur,e,hb,hg,r⟩
 ·exact .inl h2
 ·exact .inr ⟨g,cap,cur,e,hb,(hB g (by rw[e];rfl)).trans hg,r⟩
theorem rbk {W:World}{n0:Nat}{ty:TypeId}{k:Nat}{fv:Value}{n:Nat}{vs:List Value}(h:W.ownsRow n0 ty k fv n vs){g:Nat}(hg:fv.ownBlock=some g):n0<=g∧∃cur,W.heap[g]? =some (.cells cur ty (0,0)):=by
 obtain⟨_,⟨e,_⟩|⟨g',cap,cur,e,hb,hg',_⟩⟩:=h
 ·rw[e]at hg;cases hg
 ·rw[e]at hg
  have:g'=g:=by simpa [Value.ownBlock] using hg
  subst this
  exact⟨hb,cur,hg'⟩
theorem y05 {W W':World}{n0:Nat}{ty:TypeId}{k:Nat}{fv:Value}{n:Nat}{vs:List Value}(h:W.ownsRow n0 ty k fv n vs)(hb:Below W.heap.size W W'):W'.ownsRow n0 ty k fv n vs:=
 rkp h (fun g hg=>by obtain⟨_,cq,hcq⟩:=rbk h hg;exact hb.block g (jG hcq).1)
end
