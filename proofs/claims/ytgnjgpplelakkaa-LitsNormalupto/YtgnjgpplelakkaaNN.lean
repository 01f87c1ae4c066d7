import Derived.Test.YtgnjgpplelakkaaNL
import Derived.Test.YtgnjgpplelakkaaMJ
import Derived.Test.YtgnjgpplelakkaaUJ
import Derived.Test.YtgnjgpplelakkaaMA
import Derived.Test.YtgnjgpplelakkaaLB
import Derived.Test.YtgnjgpplelakkaaLH
import Derived.Test.YtgnjgpplelakkaaMB

/-
  The document's Normal.
-/
namespace Go.Proofs.Ytgnjgpplelakkaa
open Go.RowKit Go.Maps

theorem metF_rens : ∀ (l : List Lt) (met : List Int), metF met l = (ren.rens (sidesOf l) met).2
  | [], _ => rfl
  | x :: r, met => by
    have ih := metF_rens r (ren x.r (ren x.l met).2).2
    have e : sidesOf (x :: r) = x.l :: x.r :: sidesOf r := rfl
    rw [e]
    exact ih

theorem csize_sumT : ∀ (l : List Lt), sumT (sidesOf l) = csize l
  | [] => rfl
  | x :: r => by
    have ih := csize_sumT r
    have e : sidesOf (x :: r) = x.l :: x.r :: sidesOf r := rfl
    rw [e]
    unfold sumT csize at *
    simp only [List.map_cons, List.sum_cons]
    omega

theorem app_congr (σ τ : Int → T) (t : T) : (∀ n ∈ t.vs, σ n = τ n) → t.app σ = t.app τ := by
  induction t using T.ind with
  | _ t ih =>
    intro hn
    rw [T.app_eq, T.app_eq]
    by_cases h0 : t.fn.size = 0
    · rw [if_pos h0, if_pos h0]
      exact hn _ (vs_var h0)
    · rw [if_neg h0, if_neg h0, List.map_congr_left fun a ha => ih a ha fun n hna => hn n (vs_arg ha hna)]

theorem cnorm_img (l : List Lt) (hs : Shaped l) : cnorm l = l.map (appL (img (renB (ren.rens (sidesOf l) []).2 (ren.rens (sidesOf l) []).2.length))) := by
  rw [← metF_rens l []]
  have hnd : (metF [] l).Nodup := by rw [metF_rens]; exact rens_nodup _ _ List.nodup_nil
  have hall := metF_all l [] hs
  unfold cnorm
  rw [cnormG_rep (metF [] l) l [] hs (List.prefix_refl _)]
  refine List.map_congr_left fun x hx => ?_
  have key : ∀ n, n ∈ metF [] l → var (ix (metF [] l) n) = img (renB (metF [] l) (metF [] l).length) n := fun n hn => by
    cases hj : idx (metF [] l) n with
    | none => exact absurd hn (idx_none hj)
    | some j => exact (img_ren _ hnd n j hj).symm
  unfold appL
  rw [app_congr _ _ x.l (fun n hn => key n (hall x hx n (.inl hn))), app_congr _ _ x.r (fun n hn => key n (hall x hx n (.inr hn)))]

set_option maxRecDepth 100000 in
set_option maxHeartbeats 1000000 in
theorem rnormal_any (l : List Lt) (v : Value) (w : World) (hl : ClauseAt w v l) (hs : Shaped l) (hsz : csize l ≤ 4000) :
    Calls Try.prog 27 #[v] w fun e w' => ∃ a c, e = .returned (.slice a (cnorm l).length c) ∧ ClauseAt w' (.slice a (cnorm l).length c) (cnorm l) ∧ Below w.heap.size w w' := by
  have hlen : l.length ≤ 1048576 := by have := csize_len l; omega
  have hN := cnorm_img l hs
  have h45 := rterms_any l v w hl hlen
  have HS : Hid (Shaped l) := hs
  have HZ : Hid (csize l ≤ 4000) := hsz
  obtain ⟨a, c, rfl⟩ := hl.slice
  have HL : Hid (ClauseAt w (.slice a l.length c) l) := hl
  have HNN : Hid (cnorm l = _) := hN
  clear hl hs hsz hN
  go_enter Try.func27, Try.ntmps27
  go_wp2_with fail
  refine h45.mono ?_
  rintro e W1 ⟨a1, c1, rfl, hA1, hb1⟩
  have h60 := rename_any (sidesOf l) _ W1 hA1 (fun t ht => by
    obtain ⟨x, hx, rfl | rfl⟩ := side_mem ht
    · exact (HS.out x hx).1
    · exact (HS.out x hx).2) (by rw [csize_sumT]; exact HZ.out)
  have HB1 : Hid (Below w.heap.size w W1) := hb1
  clear hA1 hb1
  go_wp2_with fail
  refine h60.mono ?_
  rintro e W2 ⟨v2, rfl, hB2, hb2⟩
  have HB2 : Hid (Below w.heap.size w W2) := HB1.out.trans (hb2.mono HB1.out.size)
  have h59 := cput_any _ l _ _ W2 hB2 (HL.out.keep HB2.out) HS.out hlen
  obtain ⟨a2, c2, rfl⟩ := hB2.slice
  rw [← HNN.out] at h59
  clear hB2 hb2
  go_wp2_with fail
  refine h59.mono ?_
  rintro e W3 ⟨v3, rfl, hC3, hb3⟩
  obtain ⟨a3, c3, rfl⟩ := hC3.slice
  have HE : Hid (ClauseAt W3 (.slice a3 (cnorm l).length c3) (cnorm l) ∧ Below w.heap.size w W3) := ⟨hC3, HB2.out.trans (hb3.mono HB2.out.size)⟩
  clear hC3 hb3
  go_wp2
  go_ret
  exact ⟨_, _, rfl, HE.out⟩

end Go.Proofs.Ytgnjgpplelakkaa

/-
  The document's Equal of clauses.
-/
namespace Go.Proofs.Ytgnjgpplelakkaa
open Go.RowKit

set_option maxRecDepth 100000 in
set_option maxHeartbeats 8000000 in
theorem rcequal_any (l m : List Lt) (v u : Value) (w : World) (hl : ClauseAt w v l) (hm : ClauseAt w u m) :
    Calls Try.prog 16 #[v, u] w fun e w' => e = .returned (.bool (ceq l m)) ∧ Below w.heap.size w w' := by
  obtain ⟨a, c, rfl⟩ := hl.slice
  obtain ⟨b, d, rfl⟩ := hm.slice
  have hlen := hl.len
  have hlen' := hm.len
  have HL : Hid (ClauseAt w (.slice a l.length c) l) := hl
  have HM : Hid (ClauseAt w (.slice b m.length d) m) := hm
  clear hl hm
  by_cases hlm : l.length = m.length
  · have hbn : ((l.length : Int) != (m.length : Int)) = false := by rw [bne_eq_false_iff_eq]; omega
    have HLM : Hid (l.length = m.length) := hlm
    clear hlm
    go_enter Try.func16, Try.ntmps16
    go_wp2
    go_loopw [5] (fun vi wr => ∃ i : Nat, vi = .int .i64 i ∧ i ≤ l.length ∧ Below w.heap.size w wr ∧ l.take i = m.take i) (fun vi _ => l.length - (intOf vi).toNat)
    case atStart => exact ⟨0, rfl, Nat.zero_le _, Below.refl _ _, by simp⟩
    case round =>
      obtain ⟨i, rfl, hi, hb, hall⟩ := hrel
      by_cases hlt : i < l.length
      · have hlt' : i < m.length := by have := HLM.out; omega
        obtain ⟨bb, o, sl, sr, rfl, hX⟩ := (HL.out.keep hb).nth hlt
        obtain ⟨bb', o', sl', sr', rfl, hY⟩ := (HM.out.keep hb).nth hlt'
        have HN : Hid (l[i] = m[i] → l.take (i + 1) = m.take (i + 1)) := fun e => by rw [List.take_succ_eq_append_getElem hlt, List.take_succ_eq_append_getElem hlt', hall, e]
        have HF : Hid (l[i] ≠ m[i] → ceq l m = false) := fun e => ceq_false fun h => e (by simp [h])
        obtain ⟨x, hx⟩ : ∃ x, l[i] = x := ⟨_, rfl⟩
        obtain ⟨y, hy⟩ : ∃ y, m[i] = y := ⟨_, rfl⟩
        rw [hx] at hX HN HF
        rw [hy] at hY HN HF
        have HQ : Hid ((leq x y = true → l.take (i + 1) = m.take (i + 1)) ∧ (leq x y = false → ceq l m = false)) := ⟨fun h => HN.out (leq_iff.1 h), fun h => HF.out fun e => by rw [leq_iff.2 e] at h; cases h⟩
        have hc21 : ∀ (t t' : T) (s s' : Value), ArgsAt wr s t.args → ArgsAt wr s' t'.args → ∀ W, Below wr.heap.size wr W → Calls Try.prog 21 #[tval t s, tval t' s'] W fun e w' => e = .returned (.bool (same t t')) ∧ Below W.heap.size W w' := fun t t' s s' h h' W hW => rsame_any t t' _ _ W (ArgsAt.keep hW (Nat.le_refl _) h) (ArgsAt.keep hW (Nat.le_refl _) h')
        have hal := hX.al
        have har := hX.ar
        have hal' := hY.al
        have har' := hY.ar
        have f0 := fun p => cell_far hX.lt hX.c0 p
        have f1 := fun p => cell_far hX.lt hX.c1 p
        have f2 := fun p => cell_far hX.lt hX.c2 p
        have f3 := fun p => cell_far hX.lt hX.c3 p
        have f4 := fun p => cell_far hX.lt hX.c4 p
        have f5 := fun p => cell_far hX.lt hX.c5 p
        have f6 := fun p => cell_far hX.lt hX.c6 p
        have g0 := fun p => cell_far hY.lt hY.c0 p
        have g1 := fun p => cell_far hY.lt hY.c1 p
        have g2 := fun p => cell_far hY.lt hY.c2 p
        have g3 := fun p => cell_far hY.lt hY.c3 p
        have g4 := fun p => cell_far hY.lt hY.c4 p
        have g5 := fun p => cell_far hY.lt hY.c5 p
        have g6 := fun p => cell_far hY.lt hY.c6 p
        have HB : Hid (Below w.heap.size w wr) := hb
        obtain ⟨_, _, rfl, _⟩ := hX.al.slice
        obtain ⟨_, _, rfl, _⟩ := hX.ar.slice
        obtain ⟨_, _, rfl, _⟩ := hY.al.slice
        obtain ⟨_, _, rfl, _⟩ := hY.ar.slice
        have i0' : (i : Int) < (l.length : Int) := by omega
        have i1' : (0 : Int) ≤ (i : Int) := by omega
        have i2' : (i : Int) < (m.length : Int) := by omega
        have HE : Hid (leq x y = ((x.neg == y.neg) && same x.l y.l && same x.r y.r)) := rfl
        clear hX hY hb hall hx hy HN HF
        obtain ⟨n1, xl, xr⟩ := x
        obtain ⟨n2, yl, yr⟩ := y
        simp only at *
        by_cases hn : n1 = n2
        · subst hn
          have hb : (n1 != n1) = false := by simp
          have hb' : (n1 == n1) = true := by simp
          cases hp : same xl yl
          · have HG : Hid (ceq l m = false) := HQ.out.2 (by rw [HE.out, hp]; simp)
            clear HQ HE
            go_wp2
            refine wp_region_far (by kernel_rfl) ?_
            repeat (first | go_big_quiet_step (exact calls_far (hc21 _ _ _ _ (by first | exact hal | exact har) (by first | exact hal' | exact har')) _) | quiet_step (exact calls_far (hc21 _ _ _ _ (by first | exact hal | exact har) (by first | exact hal' | exact har')) _))
            refine wpQuiet_nil ?_
            intro _ hw'
            obtain ⟨pf, rfl⟩ := hw'
            go_wp2
            go_ret
            exact ⟨ret_bool HG.out.symm, HB.out.trans ((below_far _ pf).mono HB.out.size)⟩
          · cases hq : same xr yr
            · have HG : Hid (ceq l m = false) := HQ.out.2 (by rw [HE.out, hq]; simp)
              clear HQ HE
              go_wp2
              refine wp_region_far (by kernel_rfl) ?_
              repeat (first | go_big_quiet_step (exact calls_far (hc21 _ _ _ _ (by first | exact hal | exact har) (by first | exact hal' | exact har')) _) | quiet_step (exact calls_far (hc21 _ _ _ _ (by first | exact hal | exact har) (by first | exact hal' | exact har')) _))
              refine wpQuiet_nil ?_
              intro _ hw'
              obtain ⟨pf, rfl⟩ := hw'
              go_wp2
              go_ret
              exact ⟨ret_bool HG.out.symm, HB.out.trans ((below_far _ pf).mono HB.out.size)⟩
            · have HG : Hid (l.take (i + 1) = m.take (i + 1)) := HQ.out.1 (by rw [HE.out, hp, hq]; simp)
              clear HQ HE
              go_wp2
              refine wp_region_far (by kernel_rfl) ?_
              repeat (first | go_big_quiet_step (exact calls_far (hc21 _ _ _ _ (by first | exact hal | exact har) (by first | exact hal' | exact har')) _) | quiet_step (exact calls_far (hc21 _ _ _ _ (by first | exact hal | exact har) (by first | exact hal' | exact har')) _))
              refine wpQuiet_nil ?_
              intro _ hw'
              obtain ⟨pf, rfl⟩ := hw'
              go_wp2
              go_roundw
              case rel => exact ⟨i + 1, by go_num, by omega, HB.out.trans ((below_far _ pf).mono HB.out.size), HG.out⟩
              case measure => simp [intOf]; omega
        · have hb : (n1 != n2) = true := by rw [bne_iff_ne]; exact hn
          have hb' : (n1 == n2) = false := by simpa using hn
          have HG : Hid (ceq l m = false) := HQ.out.2 (by rw [HE.out, hb']; rfl)
          clear HQ HE hn
          cases n1 <;> cases n2 <;> first | exact absurd hb (by decide) | (
            go_wp2
            refine wp_region_far (by kernel_rfl) ?_
            repeat (first | go_big_quiet_step (exact calls_far (hc21 _ _ _ _ (by first | exact hal | exact har) (by first | exact hal' | exact har')) _) | quiet_step (exact calls_far (hc21 _ _ _ _ (by first | exact hal | exact har) (by first | exact hal' | exact har')) _))
            refine wpQuiet_nil ?_
            intro _ hw'
            obtain ⟨pf, rfl⟩ := hw'
            go_wp2
            go_ret
            exact ⟨ret_bool HG.out.symm, HB.out.trans ((below_far _ pf).mono HB.out.size)⟩)
      · have HG : Hid (ceq l m = true) := by
          refine ceq_true.2 ?_
          rw [List.take_of_length_le (by omega), List.take_of_length_le (by have := HLM.out; omega)] at hall
          exact hall
        clear hall
        go_wp2
        go_ret
        exact ⟨ret_bool HG.out.symm, hb⟩
  · have hbn : ((l.length : Int) != (m.length : Int)) = true := by rw [bne_iff_ne]; omega
    have HG : Hid (ceq l m = false) := ceq_false fun h => hlm (by rw [h])
    go_enter Try.func16, Try.ntmps16
    go_wp2
    go_ret
    exact ⟨ret_bool HG.out.symm, Below.refl _ _⟩

end Go.Proofs.Ytgnjgpplelakkaa

/-
  The document's Same of literals.
-/
namespace Go.Proofs.Ytgnjgpplelakkaa
open Go.RowKit

set_option maxRecDepth 100000 in
set_option maxHeartbeats 8000000 in
theorem rlsame_any (x y : Lt) (a b c d : Value) (w : World) (hxl : ArgsAt w a x.l.args) (hxr : ArgsAt w b x.r.args) (hyl : ArgsAt w c y.l.args) (hyr : ArgsAt w d y.r.args) :
    Calls Try.prog 18 #[lval x a b, lval y c d] w fun e w' => e = .returned (.bool (lsame x y)) ∧ Below w.heap.size w w' := by
  have hS0 := TwoL.new hxl hxr hyl hyr
  have hLL : Serves (TwoL w x a b y c d) 21 #[tval x.l a, tval y.l c] (.bool (same x.l y.l)) := TwoL.serves fun X hX => rsame_any x.l y.l _ _ X hX.lx.al hX.ly.al
  have hRR : Serves (TwoL w x a b y c d) 21 #[tval x.r b, tval y.r d] (.bool (same x.r y.r)) := TwoL.serves fun X hX => rsame_any x.r y.r _ _ X hX.lx.ar hX.ly.ar
  have hLR : Serves (TwoL w x a b y c d) 21 #[tval x.l a, tval y.r d] (.bool (same x.l y.r)) := TwoL.serves fun X hX => rsame_any x.l y.r _ _ X hX.lx.al hX.ly.ar
  have hRL : Serves (TwoL w x a b y c d) 21 #[tval x.r b, tval y.l c] (.bool (same x.r y.l)) := TwoL.serves fun X hX => rsame_any x.r y.l _ _ X hX.lx.ar hX.ly.al
  have hC := fun X (h : TwoL w x a b y c d X) => And.intro h.lx.zero h.ly.zero
  have hbl := fun X (h : TwoL w x a b y c d X) => h.bel
  obtain ⟨_, _, rfl, _⟩ := hxl.slice
  obtain ⟨_, _, rfl, _⟩ := hxr.slice
  obtain ⟨_, _, rfl, _⟩ := hyl.slice
  obtain ⟨_, _, rfl, _⟩ := hyr.slice
  generalize hS : TwoL w x _ _ y _ _ = S at *
  clear hS hxl hxr hyl hyr
  have HE : Hid (lsame x y = ((x.neg == y.neg) && (same x.l y.l && same x.r y.r || same x.l y.r && same x.r y.l))) := rfl
  generalize same x.l y.l = p at *
  generalize same x.r y.r = q at *
  generalize same x.l y.r = r at *
  generalize same x.r y.l = s at *
  obtain ⟨⟨a0, a1, a2, a3, a4, a5, a6⟩, b0, b1, b2, b3, b4, b5, b6⟩ := hC _ hS0
  obtain ⟨n1, xl, xr⟩ := x
  obtain ⟨n2, yl, yr⟩ := y
  simp only at *
  by_cases hn : n1 = n2
  · subst hn
    have hb : (n1 != n1) = false := by simp
    have HF : Hid (lsame ⟨n1, xl, xr⟩ ⟨n1, yl, yr⟩ = (p && q || r && s)) := by show _ = _; rw [HE.out]; simp
    clear HE
    cases p with
    | true =>
      cases q with
      | true =>
        go_enter Try.func18, Try.ntmps18
        go_wp2_with fail
        refine (hLL _ hS0).mono ?_
        rintro e W1 ⟨rfl, H1⟩
        obtain ⟨⟨a10, a11, a12, a13, a14, a15, a16⟩, b10, b11, b12, b13, b14, b15, b16⟩ := hC _ H1
        go_wp2_with fail
        refine (hRR _ H1).mono ?_
        rintro e W2 ⟨rfl, H2⟩
        go_wp2
        go_ret
        exact ⟨ret_bool (by rw [HF.out]; simp), hbl _ H2⟩
      | false =>
        cases r with
        | false =>
          go_enter Try.func18, Try.ntmps18
          go_wp2_with fail
          refine (hLL _ hS0).mono ?_
          rintro e W1 ⟨rfl, H1⟩
          obtain ⟨⟨a10, a11, a12, a13, a14, a15, a16⟩, b10, b11, b12, b13, b14, b15, b16⟩ := hC _ H1
          go_wp2_with fail
          refine (hRR _ H1).mono ?_
          rintro e W2 ⟨rfl, H2⟩
          obtain ⟨⟨a20, a21, a22, a23, a24, a25, a26⟩, b20, b21, b22, b23, b24, b25, b26⟩ := hC _ H2
          go_wp2_with fail
          refine (hLR _ H2).mono ?_
          rintro e W3 ⟨rfl, H3⟩
          go_wp2
          go_ret
          exact ⟨ret_bool (by rw [HF.out]; simp), hbl _ H3⟩
        | true =>
          go_enter Try.func18, Try.ntmps18
          go_wp2_with fail
          refine (hLL _ hS0).mono ?_
          rintro e W1 ⟨rfl, H1⟩
          obtain ⟨⟨a10, a11, a12, a13, a14, a15, a16⟩, b10, b11, b12, b13, b14, b15, b16⟩ := hC _ H1
          go_wp2_with fail
          refine (hRR _ H1).mono ?_
          rintro e W2 ⟨rfl, H2⟩
          obtain ⟨⟨a20, a21, a22, a23, a24, a25, a26⟩, b20, b21, b22, b23, b24, b25, b26⟩ := hC _ H2
          go_wp2_with fail
          refine (hLR _ H2).mono ?_
          rintro e W3 ⟨rfl, H3⟩
          obtain ⟨⟨a30, a31, a32, a33, a34, a35, a36⟩, b30, b31, b32, b33, b34, b35, b36⟩ := hC _ H3
          go_wp2_with fail
          refine (hRL _ H3).mono ?_
          rintro e W4 ⟨rfl, H4⟩
          go_wp2
          go_ret
          exact ⟨ret_bool (by rw [HF.out]; simp), hbl _ H4⟩
    | false =>
      cases r with
      | false =>
        go_enter Try.func18, Try.ntmps18
        go_wp2_with fail
        refine (hLL _ hS0).mono ?_
        rintro e W1 ⟨rfl, H1⟩
        obtain ⟨⟨a10, a11, a12, a13, a14, a15, a16⟩, b10, b11, b12, b13, b14, b15, b16⟩ := hC _ H1
        go_wp2_with fail
        refine (hLR _ H1).mono ?_
        rintro e W3 ⟨rfl, H3⟩
        go_wp2
        go_ret
        exact ⟨ret_bool (by rw [HF.out]; simp), hbl _ H3⟩
      | true =>
        go_enter Try.func18, Try.ntmps18
        go_wp2_with fail
        refine (hLL _ hS0).mono ?_
        rintro e W1 ⟨rfl, H1⟩
        obtain ⟨⟨a10, a11, a12, a13, a14, a15, a16⟩, b10, b11, b12, b13, b14, b15, b16⟩ := hC _ H1
        go_wp2_with fail
        refine (hLR _ H1).mono ?_
        rintro e W3 ⟨rfl, H3⟩
        obtain ⟨⟨a30, a31, a32, a33, a34, a35, a36⟩, b30, b31, b32, b33, b34, b35, b36⟩ := hC _ H3
        go_wp2_with fail
        refine (hRL _ H3).mono ?_
        rintro e W4 ⟨rfl, H4⟩
        go_wp2
        go_ret
        exact ⟨ret_bool (by rw [HF.out]; simp), hbl _ H4⟩
  · have hb : (n1 != n2) = true := by rw [bne_iff_ne]; exact hn
    have HF : Hid (lsame ⟨n1, xl, xr⟩ ⟨n2, yl, yr⟩ = false) := by
      show _ = _
      rw [HE.out]
      have : (n1 == n2) = false := by simpa using hn
      rw [this]
      rfl
    clear HE hn
    cases n1 <;> cases n2 <;> first | exact absurd hb (by decide) | (
      go_enter Try.func18, Try.ntmps18
      go_wp2
      go_ret
      exact ⟨ret_bool HF.out.symm, hbl _ hS0⟩)

end Go.Proofs.Ytgnjgpplelakkaa

/-
  The document's Tautology.
-/
namespace Go.Proofs.Ytgnjgpplelakkaa
open Go.RowKit

noncomputable def oneL (x : Lt) : Bool := !x.neg && same x.l x.r
noncomputable def oppL (y x : Lt) : Bool := lsame ⟨!y.neg, y.l, y.r⟩ x

theorem same_comm (x y : T) : same x y = same y x := by
  unfold same
  exact decide_eq_decide.2 ⟨Eq.symm, Eq.symm⟩
theorem lsides_comm (x y : Lt) : lsides x y = lsides y x := by
  unfold lsides
  rw [same_comm x.l y.l, same_comm x.r y.r, same_comm x.l y.r, same_comm x.r y.l, Bool.and_comm (same y.r x.l)]

theorem taut_one {c : List Lt} {x : Lt} (hx : x ∈ c) (h : oneL x = true) : ctaut c = true := by
  unfold ctaut
  refine List.any_eq_true.2 ⟨x, hx, ?_⟩
  unfold oneL at h
  unfold ctautL
  rw [Bool.and_eq_true] at h ⊢
  exact ⟨h.1, by rw [h.2]; rfl⟩

theorem taut_opp {c : List Lt} {x y : Lt} (hx : x ∈ c) (hy : y ∈ c) (h : oppL y x = true) : ctaut c = true := by
  unfold oppL lsame at h
  rw [Bool.and_eq_true] at h
  obtain ⟨h1, h2⟩ := h
  have h2' : lsides y x = true := h2
  have h1' : (!y.neg) = x.neg := by simpa using h1
  unfold ctaut
  cases hn : y.neg
  · refine List.any_eq_true.2 ⟨y, hy, ?_⟩
    unfold ctautL
    have : c.any (fun z => z.neg && lsides y z) = true := List.any_eq_true.2 ⟨x, hx, by rw [← h1', hn, h2']; rfl⟩
    rw [hn, this]
    simp
  · refine List.any_eq_true.2 ⟨x, hx, ?_⟩
    unfold ctautL
    have : c.any (fun z => z.neg && lsides x z) = true := List.any_eq_true.2 ⟨y, hy, by rw [hn, lsides_comm, h2']; rfl⟩
    rw [← h1', hn, this]
    simp

theorem taut_none {c : List Lt} (h1 : ∀ i (h : i < c.length), oneL c[i] = false) (h2 : ∀ i (h : i < c.length) k (hk : k < c.length), k < i → oppL c[k] c[i] = false) : ctaut c = false := by
  cases ht : ctaut c
  · rfl
  · exfalso
    unfold ctaut at ht
    obtain ⟨x, hx, h⟩ := List.any_eq_true.1 ht
    unfold ctautL at h
    rw [Bool.and_eq_true, Bool.or_eq_true] at h
    obtain ⟨hn, h⟩ := h
    have hn' : x.neg = false := by simpa using hn
    obtain ⟨i, hi, rfl⟩ := List.getElem_of_mem hx
    rcases h with h | h
    · have := h1 i hi
      unfold oneL at this
      rw [hn, h] at this
      cases this
    · obtain ⟨y, hy, h⟩ := List.any_eq_true.1 h
      rw [Bool.and_eq_true] at h
      obtain ⟨k, hk, rfl⟩ := List.getElem_of_mem hy
      have hne : k ≠ i := fun e => by subst e; rw [hn'] at h; cases h.1
      have key : ∀ {a b : Lt}, (!a.neg) = b.neg → lsides a b = true → oppL a b = true := fun {a b} e1 e2 => by
        unfold oppL lsame
        rw [Bool.and_eq_true]
        exact ⟨by simpa using e1, e2⟩
      by_cases hlt : k < i
      · have := key (a := c[k]) (b := c[i]) (by rw [h.1, hn']; rfl) (by rw [lsides_comm]; exact h.2)
        rw [h2 i hi k hk hlt] at this
        cases this
      · have := key (a := c[i]) (b := c[k]) (by rw [h.1, hn']; rfl) h.2
        rw [h2 k hk i hi (by omega)] at this
        cases this

set_option maxRecDepth 100000 in
set_option maxHeartbeats 8000000 in
theorem rtaut_any (l : List Lt) (v : Value) (w : World) (hl : ClauseAt w v l) :
    Calls Try.prog 31 #[v] w fun e w' => e = .returned (.bool (ctaut l)) ∧ Below w.heap.size w w' := by
  obtain ⟨a, c, rfl⟩ := hl.slice
  have hlen := hl.len
  have HL : Hid (ClauseAt w (.slice a l.length c) l) := hl
  clear hl
  go_enter Try.func31, Try.ntmps31
  go_wp2
  go_loopw [3] (fun vi wr => ∃ i : Nat, vi = .int .i64 i ∧ i ≤ l.length ∧ Below w.heap.size w wr ∧ (∀ j (h : j < l.length), j < i → oneL l[j] = false) ∧ ∀ j (h : j < l.length) k (hk : k < l.length), j < i → k < j → oppL l[k] l[j] = false) (fun vi _ => l.length - (intOf vi).toNat)
  case atStart => exact ⟨0, rfl, Nat.zero_le _, Below.refl _ _, fun j _ hj => absurd hj (by omega), fun j _ k _ hj => absurd hj (by omega)⟩
  case round =>
    obtain ⟨i, rfl, hi, hb, hall1, hall2⟩ := hrel
    by_cases hlt : i < l.length
    · obtain ⟨bb, o, sl, sr, rfl, hX⟩ := (HL.out.keep hb).nth hlt
      have HT1 : Hid (oneL l[i] = true → ctaut l = true) := taut_one (List.getElem_mem hlt)
      have HT2 : Hid (∀ k (hk : k < l.length), oppL l[k] l[i] = true → ctaut l = true) := fun k hk => taut_opp (List.getElem_mem hlt) (List.getElem_mem hk)
      have HA : Hid ((∀ j (h : j < l.length), j < i → oneL l[j] = false) ∧ ∀ j (h : j < l.length) k (hk : k < l.length), j < i → k < j → oppL l[k] l[j] = false) := ⟨hall1, hall2⟩
      have HN : Hid (oneL l[i] = false → (∀ k (hk : k < l.length), k < i → oppL l[k] l[i] = false) → (∀ j (h : j < l.length), j < i + 1 → oneL l[j] = false) ∧ ∀ j (h : j < l.length) k (hk : k < l.length), j < i + 1 → k < j → oppL l[k] l[j] = false) := fun h1 h2 => ⟨fun j h hj => by
        by_cases e : j = i
        · subst e; exact h1
        · exact HA.out.1 j h (by omega), fun j h k hk hj hkj => by
        by_cases e : j = i
        · subst e; exact h2 k hk hkj
        · exact HA.out.2 j h k hk (by omega) hkj⟩
      have HX0 : Hid (LitAt wr bb (o + i * 7) l[i] sl sr) := hX
      obtain ⟨x, hx⟩ : ∃ x, l[i] = x := ⟨_, rfl⟩
      simp only [hx] at hX HT1 HT2 HN HX0
      have hc21 : ∀ W, Below wr.heap.size wr W → Calls Try.prog 21 #[tval x.l sl, tval x.r sr] W fun e w' => e = .returned (.bool (same x.l x.r)) ∧ Below W.heap.size W w' := fun W hW => rsame_any x.l x.r _ _ W (ArgsAt.keep hW (Nat.le_refl _) hX.al) (ArgsAt.keep hW (Nat.le_refl _) hX.ar)
      have f0 := fun p => cell_far hX.lt hX.c0 p
      have f1 := fun p => cell_far hX.lt hX.c1 p
      have f2 := fun p => cell_far hX.lt hX.c2 p
      have f3 := fun p => cell_far hX.lt hX.c3 p
      have f4 := fun p => cell_far hX.lt hX.c4 p
      have f5 := fun p => cell_far hX.lt hX.c5 p
      have f6 := fun p => cell_far hX.lt hX.c6 p
      have HB : Hid (Below w.heap.size w wr) := hb
      obtain ⟨la, lc, rfl, _⟩ := hX.al.slice
      obtain ⟨ra, rc, rfl, _⟩ := hX.ar.slice
      have i0' : (i : Int) < (l.length : Int) := by omega
      have i1' : (0 : Int) ≤ (i : Int) := by omega
      have HE : Hid (oneL x = (!x.neg && same x.l x.r)) := rfl
      clear hX hb hall1 hall2 hx HA
      obtain ⟨n1, xl, xr⟩ := x
      simp only at *
      generalize same xl xr = p at *
      have inner : ∀ (q : Bool), q = false → True := fun _ _ => trivial
      clear inner
      cases n1
      · cases p
        · -- goes on
          go_wp2
          refine wp_region_far (by kernel_rfl) ?_
          repeat (first | go_big_quiet_step (exact calls_far hc21 _) | quiet_step (exact calls_far hc21 _))
          refine wpQuiet_nil ?_
          intro _ hw'
          obtain ⟨pf, rfl⟩ := hw'
          have HW2 : Hid (Below w.heap.size w (far wr pf) ∧ LitAt (far wr pf) bb (o + i * 7) ⟨false, xl, xr⟩ (.slice la xl.args.length lc) (.slice ra xr.args.length rc)) := ⟨HB.out.trans ((below_far _ pf).mono HB.out.size), HX0.out.keep (below_far _ pf)⟩
          have HO : Hid (oneL ⟨false, xl, xr⟩ = false) := by show _ = _; rw [HE.out]; simp
          clear hc21 f0 f1 f2 f3 f4 f5 f6 HE HT1 HX0 HB
          generalize far wr pf = wq at *
          go_wp2
          go_loopw [4] (fun vk wx => ∃ k : Nat, vk = .int .i64 k ∧ k ≤ i ∧ Below wq.heap.size wq wx ∧ ∀ k' (hk : k' < l.length), k' < k → oppL l[k'] ⟨false, xl, xr⟩ = false) (fun vk _ => i - (intOf vk).toNat)
          case atStart => exact ⟨0, rfl, Nat.zero_le _, Below.refl _ _, fun k _ hk => absurd hk (by omega)⟩
          case round =>
            obtain ⟨k, rfl, hk, hbx, hallk⟩ := hrel
            by_cases hlk : k < i
            · have hkl : k < l.length := by omega
              have hwx : Below w.heap.size w wr := HW2.out.1.trans (hbx.mono HW2.out.1.size)
              obtain ⟨bb2, o2, sl2, sr2, e2, hY⟩ := (HL.out.keep hwx).nth hkl
              cases e2
              have hX := HW2.out.2.keep hbx
              have HTk : Hid (oppL l[k] ⟨false, xl, xr⟩ = true → ctaut l = true) := HT2.out k hkl
              have HNk : Hid (oppL l[k] ⟨false, xl, xr⟩ = false → ∀ k' (hk : k' < l.length), k' < k + 1 → oppL l[k'] ⟨false, xl, xr⟩ = false) := fun h k' hk' hlt' => by
                by_cases e : k' = k
                · subst e; exact h
                · exact hallk k' hk' (by omega)
              obtain ⟨y, hy⟩ : ∃ y, l[k] = y := ⟨_, rfl⟩
              simp only [hy] at hY HTk HNk
              have hc18 : ∀ W, Below wr.heap.size wr W → Calls Try.prog 18 #[lval ⟨!y.neg, y.l, y.r⟩ sl2 sr2, lval ⟨false, xl, xr⟩ (.slice la xl.args.length lc) (.slice ra xr.args.length rc)] W fun e w' => e = .returned (.bool (oppL y ⟨false, xl, xr⟩)) ∧ Below W.heap.size W w' := fun W hW => rlsame_any ⟨!y.neg, y.l, y.r⟩ ⟨false, xl, xr⟩ _ _ _ _ W (ArgsAt.keep hW (Nat.le_refl _) hY.al) (ArgsAt.keep hW (Nat.le_refl _) hY.ar) (ArgsAt.keep hW (Nat.le_refl _) hX.al) (ArgsAt.keep hW (Nat.le_refl _) hX.ar)
              have f0 := fun p => cell_far hX.lt hX.c0 p
              have f1 := fun p => cell_far hX.lt hX.c1 p
              have f2 := fun p => cell_far hX.lt hX.c2 p
              have f3 := fun p => cell_far hX.lt hX.c3 p
              have f4 := fun p => cell_far hX.lt hX.c4 p
              have f5 := fun p => cell_far hX.lt hX.c5 p
              have f6 := fun p => cell_far hX.lt hX.c6 p
              have g0 := fun p => cell_far hY.lt hY.c0 p
              have g1 := fun p => cell_far hY.lt hY.c1 p
              have g2 := fun p => cell_far hY.lt hY.c2 p
              have g3 := fun p => cell_far hY.lt hY.c3 p
              have g4 := fun p => cell_far hY.lt hY.c4 p
              have g5 := fun p => cell_far hY.lt hY.c5 p
              have g6 := fun p => cell_far hY.lt hY.c6 p
              obtain ⟨_, _, rfl, _⟩ := hY.al.slice
              obtain ⟨_, _, rfl, _⟩ := hY.ar.slice
              have HBX : Hid (Below w.heap.size w wr ∧ Below wq.heap.size wq wr) := ⟨hwx, hbx⟩
              have k0' : (k : Int) < (l.length : Int) := by omega
              have k1' : (0 : Int) ≤ (k : Int) := by omega
              clear hX hY hbx hwx hallk hy
              obtain ⟨n2, yl, yr⟩ := y
              simp only at *
              cases hq : oppL ⟨n2, yl, yr⟩ ⟨false, xl, xr⟩
              · rw [hq] at hc18
                have HNN : Hid (∀ k' (hk : k' < l.length), k' < k + 1 → oppL l[k'] ⟨false, xl, xr⟩ = false) := HNk.out hq
                clear HTk HNk hq
                go_wp2
                refine wp_region_far (by kernel_rfl) ?_
                repeat (first | go_big_quiet_step (exact calls_far hc18 _) | quiet_step (exact calls_far hc18 _))
                refine wpQuiet_nil ?_
                intro _ hw'
                obtain ⟨pf2, rfl⟩ := hw'
                go_wp2
                go_roundw
                case rel => exact ⟨k + 1, by go_num, by omega, HBX.out.2.trans ((below_far _ pf2).mono HBX.out.2.size), HNN.out⟩
                case measure => simp [intOf]; omega
              · rw [hq] at hc18
                have HG : Hid (ctaut l = true) := HTk.out hq
                clear HTk HNk hq
                go_wp2
                refine wp_region_far (by kernel_rfl) ?_
                repeat (first | go_big_quiet_step (exact calls_far hc18 _) | quiet_step (exact calls_far hc18 _))
                refine wpQuiet_nil ?_
                intro _ hw'
                obtain ⟨pf2, rfl⟩ := hw'
                go_wp2
                go_ret
                exact ⟨ret_bool HG.out.symm, HBX.out.1.trans ((below_far _ pf2).mono HBX.out.1.size)⟩
            · have HNN : Hid ((∀ j (h : j < l.length), j < i + 1 → oneL l[j] = false) ∧ ∀ j (h : j < l.length) k (hk : k < l.length), j < i + 1 → k < j → oppL l[k] l[j] = false) := HN.out HO.out (fun k' hk' hlt' => hallk k' hk' (by omega))
              have HBX : Hid (Below w.heap.size w wr) := HW2.out.1.trans (hbx.mono HW2.out.1.size)
              clear hallk hbx
              go_wp2
              go_roundw
              case rel => exact ⟨i + 1, by go_num, by omega, HBX.out, HNN.out⟩
              case measure => simp [intOf]; omega
        · have HG : Hid (ctaut l = true) := HT1.out (by rw [HE.out]; rfl)
          go_wp2
          refine wp_region_far (by kernel_rfl) ?_
          repeat (first | go_big_quiet_step (exact calls_far hc21 _) | quiet_step (exact calls_far hc21 _))
          refine wpQuiet_nil ?_
          intro _ hw'
          obtain ⟨pf, rfl⟩ := hw'
          go_wp2
          go_ret
          exact ⟨ret_bool HG.out.symm, HB.out.trans ((below_far _ pf).mono HB.out.size)⟩
      · -- goes on
        go_wp2
        refine wp_region_far (by kernel_rfl) ?_
        repeat (first | go_big_quiet_step (fail) | quiet_step (fail))
        refine wpQuiet_nil ?_
        intro _ hw'
        obtain ⟨pf, rfl⟩ := hw'
        have HW2 : Hid (Below w.heap.size w (far wr pf) ∧ LitAt (far wr pf) bb (o + i * 7) ⟨true, xl, xr⟩ (.slice la xl.args.length lc) (.slice ra xr.args.length rc)) := ⟨HB.out.trans ((below_far _ pf).mono HB.out.size), HX0.out.keep (below_far _ pf)⟩
        have HO : Hid (oneL ⟨true, xl, xr⟩ = false) := by show _ = _; rw [HE.out]; simp
        clear hc21 f0 f1 f2 f3 f4 f5 f6 HE HT1 HX0 HB
        generalize far wr pf = wq at *
        go_wp2
        go_loopw [4] (fun vk wx => ∃ k : Nat, vk = .int .i64 k ∧ k ≤ i ∧ Below wq.heap.size wq wx ∧ ∀ k' (hk : k' < l.length), k' < k → oppL l[k'] ⟨true, xl, xr⟩ = false) (fun vk _ => i - (intOf vk).toNat)
        case atStart => exact ⟨0, rfl, Nat.zero_le _, Below.refl _ _, fun k _ hk => absurd hk (by omega)⟩
        case round =>
          obtain ⟨k, rfl, hk, hbx, hallk⟩ := hrel
          by_cases hlk : k < i
          · have hkl : k < l.length := by omega
            have hwx : Below w.heap.size w wr := HW2.out.1.trans (hbx.mono HW2.out.1.size)
            obtain ⟨bb2, o2, sl2, sr2, e2, hY⟩ := (HL.out.keep hwx).nth hkl
            cases e2
            have hX := HW2.out.2.keep hbx
            have HTk : Hid (oppL l[k] ⟨true, xl, xr⟩ = true → ctaut l = true) := HT2.out k hkl
            have HNk : Hid (oppL l[k] ⟨true, xl, xr⟩ = false → ∀ k' (hk : k' < l.length), k' < k + 1 → oppL l[k'] ⟨true, xl, xr⟩ = false) := fun h k' hk' hlt' => by
              by_cases e : k' = k
              · subst e; exact h
              · exact hallk k' hk' (by omega)
            obtain ⟨y, hy⟩ : ∃ y, l[k] = y := ⟨_, rfl⟩
            simp only [hy] at hY HTk HNk
            have hc18 : ∀ W, Below wr.heap.size wr W → Calls Try.prog 18 #[lval ⟨!y.neg, y.l, y.r⟩ sl2 sr2, lval ⟨true, xl, xr⟩ (.slice la xl.args.length lc) (.slice ra xr.args.length rc)] W fun e w' => e = .returned (.bool (oppL y ⟨true, xl, xr⟩)) ∧ Below W.heap.size W w' := fun W hW => rlsame_any ⟨!y.neg, y.l, y.r⟩ ⟨true, xl, xr⟩ _ _ _ _ W (ArgsAt.keep hW (Nat.le_refl _) hY.al) (ArgsAt.keep hW (Nat.le_refl _) hY.ar) (ArgsAt.keep hW (Nat.le_refl _) hX.al) (ArgsAt.keep hW (Nat.le_refl _) hX.ar)
            have f0 := fun p => cell_far hX.lt hX.c0 p
            have f1 := fun p => cell_far hX.lt hX.c1 p
            have f2 := fun p => cell_far hX.lt hX.c2 p
            have f3 := fun p => cell_far hX.lt hX.c3 p
            have f4 := fun p => cell_far hX.lt hX.c4 p
            have f5 := fun p => cell_far hX.lt hX.c5 p
            have f6 := fun p => cell_far hX.lt hX.c6 p
            have g0 := fun p => cell_far hY.lt hY.c0 p
            have g1 := fun p => cell_far hY.lt hY.c1 p
            have g2 := fun p => cell_far hY.lt hY.c2 p
            have g3 := fun p => cell_far hY.lt hY.c3 p
            have g4 := fun p => cell_far hY.lt hY.c4 p
            have g5 := fun p => cell_far hY.lt hY.c5 p
            have g6 := fun p => cell_far hY.lt hY.c6 p
            obtain ⟨_, _, rfl, _⟩ := hY.al.slice
            obtain ⟨_, _, rfl, _⟩ := hY.ar.slice
            have HBX : Hid (Below w.heap.size w wr ∧ Below wq.heap.size wq wr) := ⟨hwx, hbx⟩
            have k0' : (k : Int) < (l.length : Int) := by omega
            have k1' : (0 : Int) ≤ (k : Int) := by omega
            clear hX hY hbx hwx hallk hy
            obtain ⟨n2, yl, yr⟩ := y
            simp only at *
            cases hq : oppL ⟨n2, yl, yr⟩ ⟨true, xl, xr⟩
            · rw [hq] at hc18
              have HNN : Hid (∀ k' (hk : k' < l.length), k' < k + 1 → oppL l[k'] ⟨true, xl, xr⟩ = false) := HNk.out hq
              clear HTk HNk hq
              go_wp2
              refine wp_region_far (by kernel_rfl) ?_
              repeat (first | go_big_quiet_step (exact calls_far hc18 _) | quiet_step (exact calls_far hc18 _))
              refine wpQuiet_nil ?_
              intro _ hw'
              obtain ⟨pf2, rfl⟩ := hw'
              go_wp2
              go_roundw
              case rel => exact ⟨k + 1, by go_num, by omega, HBX.out.2.trans ((below_far _ pf2).mono HBX.out.2.size), HNN.out⟩
              case measure => simp [intOf]; omega
            · rw [hq] at hc18
              have HG : Hid (ctaut l = true) := HTk.out hq
              clear HTk HNk hq
              go_wp2
              refine wp_region_far (by kernel_rfl) ?_
              repeat (first | go_big_quiet_step (exact calls_far hc18 _) | quiet_step (exact calls_far hc18 _))
              refine wpQuiet_nil ?_
              intro _ hw'
              obtain ⟨pf2, rfl⟩ := hw'
              go_wp2
              go_ret
              exact ⟨ret_bool HG.out.symm, HBX.out.1.trans ((below_far _ pf2).mono HBX.out.1.size)⟩
          · have HNN : Hid ((∀ j (h : j < l.length), j < i + 1 → oneL l[j] = false) ∧ ∀ j (h : j < l.length) k (hk : k < l.length), j < i + 1 → k < j → oppL l[k] l[j] = false) := HN.out HO.out (fun k' hk' hlt' => hallk k' hk' (by omega))
            have HBX : Hid (Below w.heap.size w wr) := HW2.out.1.trans (hbx.mono HW2.out.1.size)
            clear hallk hbx
            go_wp2
            go_roundw
            case rel => exact ⟨i + 1, by go_num, by omega, HBX.out, HNN.out⟩
            case measure => simp [intOf]; omega
    · have HG : Hid (ctaut l = false) := taut_none (fun j h => hall1 j h (by omega)) (fun j h k hk hkj => hall2 j h k hk (by omega) hkj)
      clear hall1 hall2
      go_wp2
      go_ret
      exact ⟨ret_bool HG.out.symm, hb⟩

end Go.Proofs.Ytgnjgpplelakkaa

/-
  The document's Clean.
-/
namespace Go.Proofs.Ytgnjgpplelakkaa
open Go.RowKit Go.Maps

theorem lsame_comm (x y : Lt) : lsame x y = lsame y x := by
  unfold lsame
  rw [lsides_comm x y]
  congr 1
  cases x.neg <;> cases y.neg <;> rfl

/-- What stands in the loop of the document's Clean. -/
structure RClI (w : World) (l : List Lt) (i : Nat) (v : Value) (ps : List Lp) (W : World) : Prop where
  args : ps.map (·.1) = cclean (l.take i)
  ok : ∀ p ∈ ps, ArgsAt w p.2.1 p.1.l.args ∧ ArgsAt w p.2.2 p.1.r.args
  row : W.ownsRow w.heap.size 28 7 v ps.length (flatL ps)
  bel : Below w.heap.size w W

theorem RClI.clause {w : World} {l : List Lt} {i : Nat} {v : Value} {ps : List Lp} {W : World} (h : RClI w l i v ps W) : ClauseAt W v (ps.map (·.1)) :=
  clause_of_row h.row fun p hp => ⟨ArgsAt.keep h.bel (Nat.le_refl _) (h.ok p hp).1, ArgsAt.keep h.bel (Nat.le_refl _) (h.ok p hp).2⟩

theorem RClI.keep {w : World} {l : List Lt} {i : Nat} {v : Value} {ps : List Lp} {W W' : World} (h : RClI w l i v ps W) (hb : Below W.heap.size W W') : RClI w l i v ps W' :=
  ⟨h.args, h.ok, row_keep h.row (fun g hg => hb.block g (h.row.lt g hg).2), h.bel.trans (hb.mono h.bel.size)⟩

theorem lit7 (w : World) (v0 v1 v2 v3 v4 v5 v6 : Value) (ty : TypeId) : ∀ j u, [v0, v1, v2, v3, v4, v5, v6][j]? = some u → (w.alloc (.cells #[v0, v1, v2, v3, v4, v5, v6] ty)).cell? ((⟨w.heap.size, 0, none⟩ : Addr).add j) = some u := by
  intro j u hj
  have ea : (⟨w.heap.size, 0, none⟩ : Addr).add j = ⟨w.heap.size, j, none⟩ := by unfold Addr.add; split <;> simp_all
  rw [ea, World.cell?_alloc_new]
  simpa using hj

set_option maxRecDepth 100000 in
set_option maxHeartbeats 8000000 in
theorem rclean_any (l : List Lt) (v : Value) (w : World) (hl : ClauseAt w v l) (hlen : l.length ≤ 1048576) :
    Calls Try.prog 29 #[v] w fun e w' => ∃ v', e = .returned v' ∧ ClauseAt w' v' (cclean l) ∧ Below w.heap.size w w' := by
  obtain ⟨a, c, rfl⟩ := hl.slice
  have HL : Hid (ClauseAt w (.slice a l.length c) l) := hl
  clear hl
  obtain ⟨i0, hi0, hz0, hz1, hz2⟩ := info_parts Try.info28
  go_enter Try.func29, Try.ntmps29
  go_wp2
  go_loopw [3, 4] (fun vo vi wr => ∃ i : Nat, vi = .int .i64 i ∧ i ≤ l.length ∧ ∃ ps, RClI w l i vo ps wr) (fun _ vi _ => l.length - (intOf vi).toNat)
  case atStart => exact ⟨0, rfl, Nat.zero_le _, [], rfl, fun p hp => absurd hp (by simp), World.ownsRow_nil _ _ _ _, Below.refl _ _⟩
  case round =>
    obtain ⟨i, rfl, hi, ps, hI⟩ := hrel
    obtain ⟨pa, pc, hvo⟩ := row_slice hI.row
    subst hvo
    by_cases hlt : i < l.length
    · obtain ⟨bb, o, sl, sr, e1, hX0⟩ := HL.out.nth hlt
      cases e1
      have hX := hX0.keep hI.bel
      have hcs := cclean_succ l i hlt
      have hpl : ps.length ≤ i := by
        have h1 := congrArg List.length hI.args
        rw [List.length_map] at h1
        have h2 := cclean_len (l.take i)
        rw [List.length_take] at h2
        omega
      obtain ⟨x, hx⟩ : ∃ x, l[i] = x := ⟨_, rfl⟩
      simp only [hx] at hX hX0 hcs
      have hc21 : ∀ W, Below wr.heap.size wr W → Calls Try.prog 21 #[tval x.l sl, tval x.r sr] W fun e w' => e = .returned (.bool (same x.l x.r)) ∧ Below W.heap.size W w' := fun W hW => rsame_any x.l x.r _ _ W (ArgsAt.keep hW (Nat.le_refl _) hX.al) (ArgsAt.keep hW (Nat.le_refl _) hX.ar)
      have f0 := fun p => cell_far hX.lt hX.c0 p
      have f1 := fun p => cell_far hX.lt hX.c1 p
      have f2 := fun p => cell_far hX.lt hX.c2 p
      have f3 := fun p => cell_far hX.lt hX.c3 p
      have f4 := fun p => cell_far hX.lt hX.c4 p
      have f5 := fun p => cell_far hX.lt hX.c5 p
      have f6 := fun p => cell_far hX.lt hX.c6 p
      have HX0 : Hid (LitAt w bb (o + i * 7) x sl sr) := hX0
      have HI : Hid (RClI w l i (.slice pa ps.length pc) ps wr) := hI
      obtain ⟨la, lc, rfl, _⟩ := hX.al.slice
      obtain ⟨ra, rc, rfl, _⟩ := hX.ar.slice
      have i0' : (i : Int) < (l.length : Int) := by omega
      have i1' : (0 : Int) ≤ (i : Int) := by omega
      have HS : Hid (cclean (l.take (i + 1)) = if (x.neg && same x.l x.r) || (ps.map (·.1)).any (fun y => lsame y x) then ps.map (·.1) else ps.map (·.1) ++ [x]) := by
        show _ = _
        rw [hcs, hI.args]
        unfold cstepL
        simp only [lsame_comm x]
      clear hX hX0 hI hx hcs
      obtain ⟨n1, xl, xr⟩ := x
      simp only at *
      generalize hp : same xl xr = p at *
      clear hp
      cases n1
      · -- it may hold
        go_wp2
        refine wp_region_far (by kernel_rfl) ?_
        repeat (first | go_big_quiet_step (fail) | quiet_step (fail))
        refine wpQuiet_nil ?_
        intro _ hw'
        obtain ⟨pf, rfl⟩ := hw'
        have HI2 : Hid (RClI w l i (.slice pa ps.length pc) ps (far wr pf)) := HI.out.keep (below_far _ pf)
        clear hc21 f0 f1 f2 f3 f4 f5 f6 HI
        generalize far wr pf = wq at *
        go_wp2
        go_loopw [5, 6] (fun vg vk wx => ∃ k : Nat, vk = .int .i64 k ∧ k ≤ ps.length ∧ vg = .bool (false || ((ps.take k).map (·.1)).any (fun y => lsame y ⟨false, xl, xr⟩)) ∧ Below wq.heap.size wq wx) (fun _ vk _ => ps.length - (intOf vk).toNat)
        case atStart => exact ⟨0, rfl, Nat.zero_le _, by simp, Below.refl _ _⟩
        case round =>
          obtain ⟨k, rfl, hk, rfl, hbx⟩ := hrel
          have hwx := HI2.out.keep hbx
          have hY0 := HX0.out.keep hwx.bel
          by_cases hlk : k < ps.length
          · obtain ⟨b2, o2, sl2, sr2, e2, hZ⟩ := hwx.clause.nth (i := k) (by simpa using hlk)
            cases e2
            have HNx : Hid (((ps.take (k + 1)).map (·.1)).any (fun y => lsame y ⟨false, xl, xr⟩) = (((ps.take k).map (·.1)).any (fun y => lsame y ⟨false, xl, xr⟩) || lsame ps[k].1 ⟨false, xl, xr⟩)) := by
              show _ = _
              rw [List.take_succ_eq_append_getElem hlk, List.map_append, List.any_append]
              simp
            obtain ⟨y, hy⟩ : ∃ y, ps[k].1 = y := ⟨_, rfl⟩
            simp only [List.getElem_map, hy] at hZ HNx
            have hc18 : ∀ W, Below wr.heap.size wr W → Calls Try.prog 18 #[lval y sl2 sr2, lval ⟨false, xl, xr⟩ (.slice la xl.args.length lc) (.slice ra xr.args.length rc)] W fun e w' => e = .returned (.bool (lsame y ⟨false, xl, xr⟩)) ∧ Below W.heap.size W w' := fun W hW => rlsame_any y ⟨false, xl, xr⟩ _ _ _ _ W (ArgsAt.keep hW (Nat.le_refl _) hZ.al) (ArgsAt.keep hW (Nat.le_refl _) hZ.ar) (ArgsAt.keep hW (Nat.le_refl _) hY0.al) (ArgsAt.keep hW (Nat.le_refl _) hY0.ar)
            have f0 := fun p => cell_far hY0.lt hY0.c0 p
            have f1 := fun p => cell_far hY0.lt hY0.c1 p
            have f2 := fun p => cell_far hY0.lt hY0.c2 p
            have f3 := fun p => cell_far hY0.lt hY0.c3 p
            have f4 := fun p => cell_far hY0.lt hY0.c4 p
            have f5 := fun p => cell_far hY0.lt hY0.c5 p
            have f6 := fun p => cell_far hY0.lt hY0.c6 p
            have g0 := fun p => cell_far hZ.lt hZ.c0 p
            have g1 := fun p => cell_far hZ.lt hZ.c1 p
            have g2 := fun p => cell_far hZ.lt hZ.c2 p
            have g3 := fun p => cell_far hZ.lt hZ.c3 p
            have g4 := fun p => cell_far hZ.lt hZ.c4 p
            have g5 := fun p => cell_far hZ.lt hZ.c5 p
            have g6 := fun p => cell_far hZ.lt hZ.c6 p
            obtain ⟨_, _, rfl, _⟩ := hZ.al.slice
            obtain ⟨_, _, rfl, _⟩ := hZ.ar.slice
            have HBX : Hid (Below wq.heap.size wq wr) := hbx
            have k0' : (k : Int) < (ps.length : Int) := by omega
            have k1' : (0 : Int) ≤ (k : Int) := by omega
            clear hwx hY0 hZ hbx hy
            have HG2 : Hid ((false || ((ps.take (k + 1)).map (·.1)).any (fun y => lsame y ⟨false, xl, xr⟩)) = ((false || ((ps.take k).map (·.1)).any (fun y => lsame y ⟨false, xl, xr⟩)) || lsame y ⟨false, xl, xr⟩)) := by show _ = _; rw [HNx.out, ← Bool.or_assoc]
            clear HNx
            obtain ⟨g, hg⟩ : ∃ g, (false || ((ps.take k).map (·.1)).any (fun y => lsame y ⟨false, xl, xr⟩)) = g := ⟨_, rfl⟩
            rw [hg] at HG2
            rw [hg]
            clear hg
            cases g
            · go_wp2
              refine wp_region_far (by kernel_rfl) ?_
              repeat (first | go_big_quiet_step (exact calls_far hc18 _) | quiet_step (exact calls_far hc18 _))
              refine wpQuiet_nil ?_
              intro _ hw'
              obtain ⟨pf2, rfl⟩ := hw'
              go_wp2
              go_roundw
              case rel => exact ⟨k + 1, by go_num, by omega, by rw [HG2.out]; simp, HBX.out.trans ((below_far _ pf2).mono HBX.out.size)⟩
              case measure => simp [intOf]; omega
            · go_wp2
              refine wp_region_far (by kernel_rfl) ?_
              repeat (first | go_big_quiet_step (fail) | quiet_step (fail))
              refine wpQuiet_nil ?_
              intro _ hw'
              obtain ⟨pf2, rfl⟩ := hw'
              go_wp2
              go_roundw
              case rel => exact ⟨k + 1, by go_num, by omega, by rw [HG2.out]; simp, HBX.out.trans ((below_far _ pf2).mono HBX.out.size)⟩
              case measure => simp [intOf]; omega
          · rw [List.take_of_length_le (by omega)]
            have HS2 : Hid (cclean (l.take (i + 1)) = if (false || (ps.map (·.1)).any (fun y => lsame y ⟨false, xl, xr⟩)) then ps.map (·.1) else ps.map (·.1) ++ [⟨false, xl, xr⟩]) := by show _ = _; rw [HS.out]; first | rfl | simp
            obtain ⟨g, hg⟩ : ∃ g, (false || (ps.map (·.1)).any (fun y => lsame y ⟨false, xl, xr⟩)) = g := ⟨_, rfl⟩
            rw [hg] at HS2
            rw [hg]
            clear hg HS
            obtain ⟨c0, c1, c2, c3, c4, c5, c6⟩ : wr.cell? ⟨bb, o + i * 7, none⟩ = some (.bool false) ∧ wr.cell? ⟨bb, o + i * 7 + 1, none⟩ = some (.int .i64 xl.v) ∧ wr.cell? ⟨bb, o + i * 7 + 2, none⟩ = some (.string xl.fn) ∧ wr.cell? ⟨bb, o + i * 7 + 3, none⟩ = some (.slice la xl.args.length lc) ∧ wr.cell? ⟨bb, o + i * 7 + 4, none⟩ = some (.int .i64 xr.v) ∧ wr.cell? ⟨bb, o + i * 7 + 5, none⟩ = some (.string xr.fn) ∧ wr.cell? ⟨bb, o + i * 7 + 6, none⟩ = some (.slice ra xr.args.length rc) := ⟨hY0.c0, hY0.c1, hY0.c2, hY0.c3, hY0.c4, hY0.c5, hY0.c6⟩
            have HW : Hid (RClI w l i (.slice pa ps.length pc) ps wr) := hwx
            have HR3 : Hid ((wr.alloc (.cells #[.bool false, .int .i64 xl.v, .string xl.fn, .slice la xl.args.length lc, .int .i64 xr.v, .string xr.fn, .slice ra xr.args.length rc] 28)).ownsRow w.heap.size 28 7 (.slice pa ps.length pc) ps.length (flatL ps)) := (hwx.keep (below_box wr _)).row
            have HS3 : Hid (w.heap.size ≤ (wr.alloc (.cells #[.bool false, .int .i64 xl.v, .string xl.fn, .slice la xl.args.length lc, .int .i64 xr.v, .string xr.fn, .slice ra xr.args.length rc] 28)).heap.size) := Nat.le_trans hwx.bel.size (by simp)
            clear hY0 hwx hbx HI2
            cases g
            · go_wp2_with (first | (at_builtin; refine wpList_append_own_at _ rfl _ _ 23 rfl w.heap.size 28 i0 (.agg #[.bool false, .int .i64 0, .string ⟨#[]⟩, .slice none 0 0, .int .i64 0, .string ⟨#[]⟩, .slice none 0 0]) 7 104 Try.underlying23 hi0 hz0 hz1 hz2 rfl (by decide) _ _ _ rfl HR3.out ⟨wr.heap.size, 0, none⟩ 1 1 [.bool false, .int .i64 xl.v, .string xl.fn, .slice la xl.args.length lc, .int .i64 xr.v, .string xr.fn, .slice ra xr.args.length rc] rfl rfl (lit7 wr _ _ _ _ _ _ _ 28) (by simp [Value.oneCell']) (by unfold maxLen; omega) (by omega) HS3.out ?_; intro v4 w4 h2 h3 _ _; obtain ⟨pa4, pc4, rfl⟩ := row_slice h2; have H2 : Hid (w4.ownsRow w.heap.size 28 7 (.slice pa4 (ps.length + 1) pc4) (ps.length + 1) (flatL ps ++ [.bool false, .int .i64 xl.v, .string xl.fn, .slice la xl.args.length lc, .int .i64 xr.v, .string xr.fn, .slice ra xr.args.length rc]) ∧ (wr.alloc (.cells #[.bool false, .int .i64 xl.v, .string xl.fn, .slice la xl.args.length lc, .int .i64 xr.v, .string xr.fn, .slice ra xr.args.length rc] 28)).grownBy w4 (Value.slice pa ps.length pc).ownBlock) := ⟨h2, h3⟩; clear h2 h3))
              obtain ⟨h2, h3⟩ := H2.out
              have HE : Hid (RClI w l (i + 1) (.slice pa4 (ps.length + 1) pc4) (ps ++ [(⟨false, xl, xr⟩, .slice la xl.args.length lc, .slice ra xr.args.length rc)]) w4) := by
                refine ⟨by rw [HS2.out]; simp, fun p hp => ?_, by rw [List.length_append, flatL_snoc]; exact h2, ?_⟩
                · rcases List.mem_append.1 hp with hp | hp
                  · exact HW.out.ok p hp
                  · simp at hp
                    subst hp
                    exact ⟨HX0.out.al, HX0.out.ar⟩
                · have hb4 := HW.out.bel.trans ((below_box wr (.cells #[.bool false, .int .i64 xl.v, .string xl.fn, .slice la xl.args.length lc, .int .i64 xr.v, .string xr.fn, .slice ra xr.args.length rc] 28)).mono HW.out.bel.size)
                  exact hb4.trans ⟨h3.os, h3.tape, h3.output, h3.size, fun j hj => h3.block j (by have := hb4.size; omega) (fun e => by have := (HW.out.row.lt j e.symm).1; omega)⟩
              clear h2 h3
              go_roundw
              case rel => exact ⟨i + 1, by go_num, by omega, _, HE.out⟩
              case measure => simp [intOf]; omega
            · have HE : Hid (RClI w l (i + 1) (.slice pa ps.length pc) ps wr) := ⟨by rw [HS2.out]; simp, HW.out.ok, HW.out.row, HW.out.bel⟩
              go_wp2
              go_roundw
              case rel => exact ⟨i + 1, by go_num, by omega, _, HE.out⟩
              case measure => simp [intOf]; omega
      · -- it is negated
        go_wp2
        refine wp_region_far (by kernel_rfl) ?_
        repeat (first | go_big_quiet_step (exact calls_far hc21 _) | quiet_step (exact calls_far hc21 _))
        refine wpQuiet_nil ?_
        intro _ hw'
        obtain ⟨pf, rfl⟩ := hw'
        have HI2 : Hid (RClI w l i (.slice pa ps.length pc) ps (far wr pf)) := HI.out.keep (below_far _ pf)
        clear hc21 f0 f1 f2 f3 f4 f5 f6 HI
        generalize far wr pf = wq at *
        go_wp2
        go_loopw [5, 6] (fun vg vk wx => ∃ k : Nat, vk = .int .i64 k ∧ k ≤ ps.length ∧ vg = .bool (p || ((ps.take k).map (·.1)).any (fun y => lsame y ⟨true, xl, xr⟩)) ∧ Below wq.heap.size wq wx) (fun _ vk _ => ps.length - (intOf vk).toNat)
        case atStart => exact ⟨0, rfl, Nat.zero_le _, by simp, Below.refl _ _⟩
        case round =>
          obtain ⟨k, rfl, hk, rfl, hbx⟩ := hrel
          have hwx := HI2.out.keep hbx
          have hY0 := HX0.out.keep hwx.bel
          by_cases hlk : k < ps.length
          · obtain ⟨b2, o2, sl2, sr2, e2, hZ⟩ := hwx.clause.nth (i := k) (by simpa using hlk)
            cases e2
            have HNx : Hid (((ps.take (k + 1)).map (·.1)).any (fun y => lsame y ⟨true, xl, xr⟩) = (((ps.take k).map (·.1)).any (fun y => lsame y ⟨true, xl, xr⟩) || lsame ps[k].1 ⟨true, xl, xr⟩)) := by
              show _ = _
              rw [List.take_succ_eq_append_getElem hlk, List.map_append, List.any_append]
              simp
            obtain ⟨y, hy⟩ : ∃ y, ps[k].1 = y := ⟨_, rfl⟩
            simp only [List.getElem_map, hy] at hZ HNx
            have hc18 : ∀ W, Below wr.heap.size wr W → Calls Try.prog 18 #[lval y sl2 sr2, lval ⟨true, xl, xr⟩ (.slice la xl.args.length lc) (.slice ra xr.args.length rc)] W fun e w' => e = .returned (.bool (lsame y ⟨true, xl, xr⟩)) ∧ Below W.heap.size W w' := fun W hW => rlsame_any y ⟨true, xl, xr⟩ _ _ _ _ W (ArgsAt.keep hW (Nat.le_refl _) hZ.al) (ArgsAt.keep hW (Nat.le_refl _) hZ.ar) (ArgsAt.keep hW (Nat.le_refl _) hY0.al) (ArgsAt.keep hW (Nat.le_refl _) hY0.ar)
            have f0 := fun p => cell_far hY0.lt hY0.c0 p
            have f1 := fun p => cell_far hY0.lt hY0.c1 p
            have f2 := fun p => cell_far hY0.lt hY0.c2 p
            have f3 := fun p => cell_far hY0.lt hY0.c3 p
            have f4 := fun p => cell_far hY0.lt hY0.c4 p
            have f5 := fun p => cell_far hY0.lt hY0.c5 p
            have f6 := fun p => cell_far hY0.lt hY0.c6 p
            have g0 := fun p => cell_far hZ.lt hZ.c0 p
            have g1 := fun p => cell_far hZ.lt hZ.c1 p
            have g2 := fun p => cell_far hZ.lt hZ.c2 p
            have g3 := fun p => cell_far hZ.lt hZ.c3 p
            have g4 := fun p => cell_far hZ.lt hZ.c4 p
            have g5 := fun p => cell_far hZ.lt hZ.c5 p
            have g6 := fun p => cell_far hZ.lt hZ.c6 p
            obtain ⟨_, _, rfl, _⟩ := hZ.al.slice
            obtain ⟨_, _, rfl, _⟩ := hZ.ar.slice
            have HBX : Hid (Below wq.heap.size wq wr) := hbx
            have k0' : (k : Int) < (ps.length : Int) := by omega
            have k1' : (0 : Int) ≤ (k : Int) := by omega
            clear hwx hY0 hZ hbx hy
            have HG2 : Hid ((p || ((ps.take (k + 1)).map (·.1)).any (fun y => lsame y ⟨true, xl, xr⟩)) = ((p || ((ps.take k).map (·.1)).any (fun y => lsame y ⟨true, xl, xr⟩)) || lsame y ⟨true, xl, xr⟩)) := by show _ = _; rw [HNx.out, ← Bool.or_assoc]
            clear HNx
            obtain ⟨g, hg⟩ : ∃ g, (p || ((ps.take k).map (·.1)).any (fun y => lsame y ⟨true, xl, xr⟩)) = g := ⟨_, rfl⟩
            rw [hg] at HG2
            rw [hg]
            clear hg
            cases g
            · go_wp2
              refine wp_region_far (by kernel_rfl) ?_
              repeat (first | go_big_quiet_step (exact calls_far hc18 _) | quiet_step (exact calls_far hc18 _))
              refine wpQuiet_nil ?_
              intro _ hw'
              obtain ⟨pf2, rfl⟩ := hw'
              go_wp2
              go_roundw
              case rel => exact ⟨k + 1, by go_num, by omega, by rw [HG2.out]; simp, HBX.out.trans ((below_far _ pf2).mono HBX.out.size)⟩
              case measure => simp [intOf]; omega
            · go_wp2
              refine wp_region_far (by kernel_rfl) ?_
              repeat (first | go_big_quiet_step (fail) | quiet_step (fail))
              refine wpQuiet_nil ?_
              intro _ hw'
              obtain ⟨pf2, rfl⟩ := hw'
              go_wp2
              go_roundw
              case rel => exact ⟨k + 1, by go_num, by omega, by rw [HG2.out]; simp, HBX.out.trans ((below_far _ pf2).mono HBX.out.size)⟩
              case measure => simp [intOf]; omega
          · rw [List.take_of_length_le (by omega)]
            have HS2 : Hid (cclean (l.take (i + 1)) = if (p || (ps.map (·.1)).any (fun y => lsame y ⟨true, xl, xr⟩)) then ps.map (·.1) else ps.map (·.1) ++ [⟨true, xl, xr⟩]) := by show _ = _; rw [HS.out]; first | rfl | simp
            obtain ⟨g, hg⟩ : ∃ g, (p || (ps.map (·.1)).any (fun y => lsame y ⟨true, xl, xr⟩)) = g := ⟨_, rfl⟩
            rw [hg] at HS2
            rw [hg]
            clear hg HS
            obtain ⟨c0, c1, c2, c3, c4, c5, c6⟩ : wr.cell? ⟨bb, o + i * 7, none⟩ = some (.bool true) ∧ wr.cell? ⟨bb, o + i * 7 + 1, none⟩ = some (.int .i64 xl.v) ∧ wr.cell? ⟨bb, o + i * 7 + 2, none⟩ = some (.string xl.fn) ∧ wr.cell? ⟨bb, o + i * 7 + 3, none⟩ = some (.slice la xl.args.length lc) ∧ wr.cell? ⟨bb, o + i * 7 + 4, none⟩ = some (.int .i64 xr.v) ∧ wr.cell? ⟨bb, o + i * 7 + 5, none⟩ = some (.string xr.fn) ∧ wr.cell? ⟨bb, o + i * 7 + 6, none⟩ = some (.slice ra xr.args.length rc) := ⟨hY0.c0, hY0.c1, hY0.c2, hY0.c3, hY0.c4, hY0.c5, hY0.c6⟩
            have HW : Hid (RClI w l i (.slice pa ps.length pc) ps wr) := hwx
            have HR3 : Hid ((wr.alloc (.cells #[.bool true, .int .i64 xl.v, .string xl.fn, .slice la xl.args.length lc, .int .i64 xr.v, .string xr.fn, .slice ra xr.args.length rc] 28)).ownsRow w.heap.size 28 7 (.slice pa ps.length pc) ps.length (flatL ps)) := (hwx.keep (below_box wr _)).row
            have HS3 : Hid (w.heap.size ≤ (wr.alloc (.cells #[.bool true, .int .i64 xl.v, .string xl.fn, .slice la xl.args.length lc, .int .i64 xr.v, .string xr.fn, .slice ra xr.args.length rc] 28)).heap.size) := Nat.le_trans hwx.bel.size (by simp)
            clear hY0 hwx hbx HI2
            cases g
            · go_wp2_with (first | (at_builtin; refine wpList_append_own_at _ rfl _ _ 23 rfl w.heap.size 28 i0 (.agg #[.bool false, .int .i64 0, .string ⟨#[]⟩, .slice none 0 0, .int .i64 0, .string ⟨#[]⟩, .slice none 0 0]) 7 104 Try.underlying23 hi0 hz0 hz1 hz2 rfl (by decide) _ _ _ rfl HR3.out ⟨wr.heap.size, 0, none⟩ 1 1 [.bool true, .int .i64 xl.v, .string xl.fn, .slice la xl.args.length lc, .int .i64 xr.v, .string xr.fn, .slice ra xr.args.length rc] rfl rfl (lit7 wr _ _ _ _ _ _ _ 28) (by simp [Value.oneCell']) (by unfold maxLen; omega) (by omega) HS3.out ?_; intro v4 w4 h2 h3 _ _; obtain ⟨pa4, pc4, rfl⟩ := row_slice h2; have H2 : Hid (w4.ownsRow w.heap.size 28 7 (.slice pa4 (ps.length + 1) pc4) (ps.length + 1) (flatL ps ++ [.bool true, .int .i64 xl.v, .string xl.fn, .slice la xl.args.length lc, .int .i64 xr.v, .string xr.fn, .slice ra xr.args.length rc]) ∧ (wr.alloc (.cells #[.bool true, .int .i64 xl.v, .string xl.fn, .slice la xl.args.length lc, .int .i64 xr.v, .string xr.fn, .slice ra xr.args.length rc] 28)).grownBy w4 (Value.slice pa ps.length pc).ownBlock) := ⟨h2, h3⟩; clear h2 h3))
              obtain ⟨h2, h3⟩ := H2.out
              have HE : Hid (RClI w l (i + 1) (.slice pa4 (ps.length + 1) pc4) (ps ++ [(⟨true, xl, xr⟩, .slice la xl.args.length lc, .slice ra xr.args.length rc)]) w4) := by
                refine ⟨by rw [HS2.out]; simp, fun p hp => ?_, by rw [List.length_append, flatL_snoc]; exact h2, ?_⟩
                · rcases List.mem_append.1 hp with hp | hp
                  · exact HW.out.ok p hp
                  · simp at hp
                    subst hp
                    exact ⟨HX0.out.al, HX0.out.ar⟩
                · have hb4 := HW.out.bel.trans ((below_box wr (.cells #[.bool true, .int .i64 xl.v, .string xl.fn, .slice la xl.args.length lc, .int .i64 xr.v, .string xr.fn, .slice ra xr.args.length rc] 28)).mono HW.out.bel.size)
                  exact hb4.trans ⟨h3.os, h3.tape, h3.output, h3.size, fun j hj => h3.block j (by have := hb4.size; omega) (fun e => by have := (HW.out.row.lt j e.symm).1; omega)⟩
              clear h2 h3
              go_roundw
              case rel => exact ⟨i + 1, by go_num, by omega, _, HE.out⟩
              case measure => simp [intOf]; omega
            · have HE : Hid (RClI w l (i + 1) (.slice pa ps.length pc) ps wr) := ⟨by rw [HS2.out]; simp, HW.out.ok, HW.out.row, HW.out.bel⟩
              go_wp2
              go_roundw
              case rel => exact ⟨i + 1, by go_num, by omega, _, HE.out⟩
              case measure => simp [intOf]; omega
    · have hil : i = l.length := by omega
      subst hil
      have HF : Hid (ClauseAt wr (.slice pa ps.length pc) (cclean l) ∧ Below w.heap.size w wr) := ⟨by have := hI.clause; rw [hI.args, List.take_length] at this; exact this, hI.bel⟩
      clear hI
      go_wp2
      go_ret
      exact ⟨_, rfl, HF.out⟩

end Go.Proofs.Ytgnjgpplelakkaa

/-
  LitsNormal's walk.
-/
namespace Go.Proofs.Ytgnjgpplelakkaa
open Go.RowKit Go.Maps

abbrev GivesC (f : Nat) (v : Value) (l cn : List Lt) : Prop := ∀ W, ClauseAt W v l → Calls Try.prog f #[v] W fun e W' => ∃ a c, e = .returned (.slice a cn.length c) ∧ ClauseAt W' (.slice a cn.length c) cn ∧ Below W.heap.size W W'
abbrev GivesB (f : Nat) (v : Value) (l : List Lt) (q : Bool) : Prop := ∀ W, ClauseAt W v l → Calls Try.prog f #[v] W fun e W' => e = .returned (.bool q) ∧ Below W.heap.size W W'
abbrev Equals (cn : List Lt) : Prop := ∀ W u u', ClauseAt W u cn → ClauseAt W u' cn → Calls Try.prog 16 #[u, u'] W fun e W' => e = .returned (.bool true) ∧ Below W.heap.size W W'

theorem requal_yes (l : List Lt) : Equals l := fun w v u hl hm =>
  (rcequal_any l l v u w hl hm).mono fun e w' ⟨he, hb⟩ => ⟨by rw [he]; exact ret_bool (ceq_true.2 rfl), hb⟩

set_option maxRecDepth 100000 in
set_option maxHeartbeats 4000000 in
theorem normal_ok (l cn cc : List Lt) (q : Bool) (a : Option Addr) (c : Nat) (w : World) (hc : ClauseAt w (.slice a l.length c) l)
    (h9 : Calls Try.prog 9 #[.slice a l.length c] w fun e w' => e = .returned (.int .i64 0) ∧ Below w.heap.size w w')
    (H26 : Hid (GivesC 26 (.slice a l.length c) l cn)) (H27 : Hid (GivesC 27 (.slice a l.length c) l cn)) (H28 : Hid (GivesC 28 (.slice a l.length c) l cc)) (H29 : Hid (GivesC 29 (.slice a l.length c) l cc))
    (H30 : Hid (GivesB 30 (.slice a l.length c) l q)) (H31 : Hid (GivesB 31 (.slice a l.length c) l q)) (HN : Hid (Equals cn)) (HC : Hid (Equals cc)) :
    Calls Try.prog 5 #[.slice a l.length c] w fun e w' => e = .returned (.bool true) ∧ Below w.heap.size w w' := by
  have HL : Hid (ClauseAt w (.slice a l.length c) l) := hc
  clear hc
  have hq : (q == q) = true := by cases q <;> rfl
  go_enter Try.func5, Try.ntmps5
  go_wp2_with fail
  refine h9.mono ?_
  rintro e W1 ⟨rfl, hb1⟩
  have B1 : Hid (Below w.heap.size w W1) := hb1
  have h26 := H26.out W1 (HL.out.keep B1.out)
  clear hb1
  go_wp2_with fail
  refine h26.mono ?_
  rintro e W2 ⟨a2, c2, rfl, hn2, hb2⟩
  have B2 : Hid (Below w.heap.size w W2) := B1.out.trans (hb2.mono B1.out.size)
  have N2 : Hid (ClauseAt W2 (.slice a2 cn.length c2) cn) := hn2
  have h27 := H27.out W2 (HL.out.keep B2.out)
  clear hn2 hb2
  go_wp2_with fail
  refine h27.mono ?_
  rintro e W3 ⟨a3, c3, rfl, hn3, hb3⟩
  have B3 : Hid (Below w.heap.size w W3) := B2.out.trans (hb3.mono B2.out.size)
  have h16 := HN.out W3 _ _ (N2.out.keep hb3) hn3
  clear hn3 hb3
  go_wp2_with fail
  refine h16.mono ?_
  rintro e W4 ⟨rfl, hb4⟩
  have B4 : Hid (Below w.heap.size w W4) := B3.out.trans (hb4.mono B3.out.size)
  have h28 := H28.out W4 (HL.out.keep B4.out)
  clear hb4
  go_wp2_with fail
  refine h28.mono ?_
  rintro e W5 ⟨a5, c5, rfl, hn5, hb5⟩
  have B5 : Hid (Below w.heap.size w W5) := B4.out.trans (hb5.mono B4.out.size)
  have N5 : Hid (ClauseAt W5 (.slice a5 cc.length c5) cc) := hn5
  have h29 := H29.out W5 (HL.out.keep B5.out)
  clear hn5 hb5
  go_wp2_with fail
  refine h29.mono ?_
  rintro e W6 ⟨a6, c6, rfl, hn6, hb6⟩
  have B6 : Hid (Below w.heap.size w W6) := B5.out.trans (hb6.mono B5.out.size)
  have h16' := HC.out W6 _ _ (N5.out.keep hb6) hn6
  clear hn6 hb6
  go_wp2_with fail
  refine h16'.mono ?_
  rintro e W7 ⟨rfl, hb7⟩
  have B7 : Hid (Below w.heap.size w W7) := B6.out.trans (hb7.mono B6.out.size)
  have h30 := H30.out W7 (HL.out.keep B7.out)
  clear hb7
  go_wp2_with fail
  refine h30.mono ?_
  rintro e W8 ⟨rfl, hb8⟩
  have B8 : Hid (Below w.heap.size w W8) := B7.out.trans (hb8.mono B7.out.size)
  have h31 := H31.out W8 (HL.out.keep B8.out)
  clear hb8
  go_wp2_with fail
  refine h31.mono ?_
  rintro e W9 ⟨rfl, hb9⟩
  have B9 : Hid (Below w.heap.size w W9) := B8.out.trans (hb9.mono B8.out.size)
  clear hb9
  go_wp2_with fail
  refine (alive_any W9).mono ?_
  rintro e W10 ⟨rfl, hb10⟩
  have B10 : Hid (Below w.heap.size w W10) := B9.out.trans (hb10.mono B9.out.size)
  clear hb10
  go_wp2
  go_ret
  exact ⟨rfl, B10.out⟩

set_option maxRecDepth 100000 in
set_option maxHeartbeats 1000000 in
theorem normal_bad (l : List Lt) (v : Value) (w : World) (hc : ClauseAt w v l) (hk : crightW l ≠ 0) :
    Calls Try.prog 5 #[v] w fun e w' => e = .returned (.bool true) ∧ Below w.heap.size w w' := by
  have h9 := rcright_any l v w hc
  have hkb : (crightW l != 0) = true := by rw [bne_iff_ne]; exact hk
  obtain ⟨a, c, rfl⟩ := hc.slice
  clear hc hk
  generalize crightW l = k at *
  go_enter Try.func5, Try.ntmps5
  go_wp2_with fail
  refine h9.mono ?_
  rintro e W1 ⟨rfl, hb1⟩
  go_wp2_with fail
  refine (alive_any W1).mono ?_
  rintro e W2 ⟨rfl, hb2⟩
  go_wp2
  go_ret
  exact ⟨rfl, hb1.trans (hb2.mono hb1.size)⟩

theorem rclean_sl (l : List Lt) (v : Value) (hlen : l.length ≤ 1048576) : GivesC 29 v l (cclean l) := fun w hc =>
  (rclean_any l v w hc hlen).mono fun e W' ⟨v', he, hcl, hb⟩ => by
    obtain ⟨a, c, rfl⟩ := hcl.slice
    exact ⟨a, c, he, hcl, hb⟩

theorem lnormal_any (l : List Lt) (v : Value) (w : World) (hc : ClauseAt w v l) (hsz : csize l ≤ 1048576) :
    Calls Try.prog 5 #[v] w fun e w' => e = .returned (.bool true) ∧ Below w.heap.size w w' := by
  by_cases hk : crightW l = 0
  · have h9 := rcright_any l v w hc
    rw [hk] at h9
    have he := cright_sides hk
    have hsh : Shaped l := fun x hx => ⟨right_shape (he x hx).1, right_shape (he x hx).2⟩
    have hlen : l.length ≤ 1048576 := by have := csize_len l; omega
    have hs4 : csize l ≤ 4000 := by
      unfold crightW at hk
      have hfe : fe (sidesOf l) = 0 := fe_zero.2 fun t ht => by
        obtain ⟨x, hx, rfl | rfl⟩ := side_mem ht
        · exact (he x hx).1
        · exact (he x hx).2
      by_cases h60 : 60 < l.length
      · rw [if_pos h60] at hk; cases hk
      · rw [if_neg h60, hfe, if_neg (by simp)] at hk
        by_cases h4 : 4000 < wrap64 (csize l)
        · rw [if_pos h4] at hk; cases hk
        · have hn := csize_nonneg l
          have : wrap64 (csize l) = csize l := by simp only [wrap64]; omega
          omega
    obtain ⟨a, c, rfl⟩ := hc.slice
    exact normal_ok l (cnorm l) (cclean l) (ctaut l) a c w hc h9 (fun W h => normal_sl l _ W h hsz) (fun W h => rnormal_any l _ W h hsh hs4) (fun W h => clean_sl l _ W h hsz) (rclean_sl l _ hlen)
      (fun W h => taut_any l _ W h) (fun W h => rtaut_any l _ W h) (requal_yes _) (requal_yes _)
  · exact normal_bad l v w hc hk

end Go.Proofs.Ytgnjgpplelakkaa
