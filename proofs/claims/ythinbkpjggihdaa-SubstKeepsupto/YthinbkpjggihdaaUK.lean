/-
  SubstKeeps' walk.
-/
import Derived.Test.YthinbkpjggihdaaUJ
import Derived.Test.YthinbkpjggihdaaTC
import Derived.Test.YthinbkpjggihdaaST
namespace Go.Proofs.Ythinbkpjggihdaa
open Go.RowKit

theorem vs_len (t : T) : (t.vs.length : Int) ≤ t.size := by
  induction t using T.ind with
  | _ t ih =>
    have h : ∀ l : List T, (∀ a ∈ l, a ∈ t.args) → (((l.map T.vs).flatten.length : Nat) : Int) ≤ (l.map T.size).sum := by
      intro l
      induction l with
      | nil => intro _; simp
      | cons a r ihl =>
        intro hm
        have h1 := ih a (hm a (by simp))
        have h2 := ihl (fun b hb => hm b (by simp [hb]))
        simp only [List.map_cons, List.flatten_cons, List.length_append, List.sum_cons]
        omega
    have h3 := h t.args (fun _ h => h)
    rw [t.vs_eq, t.size_eq, List.length_append]
    have h4 : ((if t.fn.size = 0 then [t.v] else []) : List Int).length ≤ 1 := by
      by_cases h0 : t.fn.size = 0
      · rw [if_pos h0]; simp
      · rw [if_neg h0]; simp
    omega

theorem bound_snocK (l : List Bd) (y : Bd) (n : Int) : boundB (l ++ [y]) n = (boundB l n || decide (y.1 = n)) := by
  rw [Bool.eq_iff_iff, Bool.or_eq_true, bound_iff, bound_iff, decide_eq_true_eq]
  constructor
  · rintro ⟨x, hx, e⟩
    rcases List.mem_append.1 hx with h | h
    · exact .inl ⟨x, h, e⟩
    · simp at h; subst h; exact .inr e
  · rintro (⟨x, hx, e⟩ | e)
    · exact ⟨x, List.mem_append.2 (.inl hx), e⟩
    · exact ⟨y, by simp, e⟩

/-- Is one of the numbers bound? -/
noncomputable def touchB (vl : List Int) (l : List Bd) : Bool := vl.any fun n => boundB l n

theorem touch_snoc (vl : List Int) (n : Int) (l : List Bd) : touchB (vl ++ [n]) l = (touchB vl l || boundB l n) := by
  unfold touchB
  simp

/-- What stands in the law. -/
structure KpI (w : World) (l : List Bd) (v : Value) (t : T) (sl : Value) (X : World) : Prop where
  bs : BindsAt X v l
  tb : X.cell? ⟨w.heap.size, 0, none⟩ = some (.int .i64 t.v) ∧ X.cell? ⟨w.heap.size, 1, none⟩ = some (.string t.fn) ∧ X.cell? ⟨w.heap.size, 2, none⟩ = some sl
  lt : w.heap.size < X.heap.size
  ta : ArgsAt X sl t.args
  bel : Below w.heap.size w X

theorem KpI.keep {w : World} {l : List Bd} {v : Value} {t : T} {sl : Value} {X X' : World} (h : KpI w l v t sl X) (hb : Below X.heap.size X X') : KpI w l v t sl X' :=
  ⟨h.bs.keep hb, ⟨kc hb h.lt h.tb.1, kc hb h.lt h.tb.2.1, kc hb h.lt h.tb.2.2⟩, Nat.lt_of_lt_of_le h.lt hb.size, ArgsAt.keep hb (Nat.le_refl _) h.ta, h.bel.trans (hb.mono h.bel.size)⟩

theorem KpI.start {w : World} {l : List Bd} {v : Value} {t : T} {sl : Value} (hv : BindsAt w v l) (ha : ArgsAt w sl t.args) : KpI w l v t sl (w.alloc (tbox t sl)) :=
  have hb := below_box w (tbox t sl)
  ⟨hv.keep hb, tbox_cells w t sl, by simp, ArgsAt.keep hb (Nat.le_refl _) ha, hb⟩

set_option maxRecDepth 100000 in
set_option maxHeartbeats 8000000 in
theorem substKeeps_any (l : List Bd) (t : T) (b : Int) (hlz : ∀ x ∈ l, x.2.size ≤ 1048576) (htz : t.size ≤ 1048576) (v sl : Value) (w : World) (hv : BindsAt w v l) (ha : ArgsAt w sl t.args) :
    Calls Try.prog 8 #[v, tval t sl, .int .i64 b] w fun e w' => e = .returned (.bool true) ∧ Below w.heap.size w w' := by
  have hI0 := KpI.start hv ha
  obtain ⟨a, c, rfl⟩ := hv.slice
  obtain ⟨sa, sc, rfl, _, _⟩ := ha.slice
  obtain ⟨t0, t1, t2⟩ := hI0.tb
  have HI0 : Hid (KpI w l (.slice a l.length c) t (.slice sa t.args.length sc) (w.alloc (tbox t (.slice sa t.args.length sc)))) := hI0
  have h9 := light_any l t (.slice a l.length c) (.slice sa t.args.length sc) _ hI0.bs hI0.ta
  have H25 : Hid (∀ X, KpI w l (.slice a l.length c) t (.slice sa t.args.length sc) X → Calls Try.prog 25 #[tval t (.slice sa t.args.length sc)] X fun e X' => e = .returned (.int .i64 t.rightW) ∧ Below X.heap.size X X') := fun X hX => rright_any t _ X hX.ta
  have H14 : Hid (∀ X, KpI w l (.slice a l.length c) t (.slice sa t.args.length sc) X → Calls Try.prog 14 #[.slice a l.length c] X fun e X' => e = .returned (.bool (isSub l)) ∧ Below X.heap.size X X') := fun X hX => ris_any l _ X hX.bs
  have HZ : Hid ((∀ x ∈ l, x.2.size ≤ 1048576) ∧ t.size ≤ 1048576) := ⟨hlz, htz⟩
  clear hv ha hI0 hlz htz
  by_cases hr : t.rightW = 0
  · rw [hr] at H25
    cases hsub : isSub l
    · rw [hsub] at H14
      clear hr hsub
      go_enter Try.func8, Try.ntmps8
      go_wp2_with (go_at_call 9; refine h9.mono ?_; rintro e W2 ⟨q, rfl, HB2⟩; have HW2 : Hid (KpI w l _ t _ W2) := HI0.out.keep HB2; obtain ⟨j0, j1, j2⟩ := HW2.out.tb; clear HB2 h9 t0 t1 t2; cases q)
      · go_wp2_with (go_at_call 10; refine (alive_any _).mono ?_; rintro e W3 ⟨rfl, hb3⟩)
        go_ret
        exact ⟨rfl, HW2.out.bel.trans (hb3.mono HW2.out.bel.size)⟩
      · go_wp2_with (first
          | (go_at_call 25; refine (H25.out _ HW2.out).mono ?_; rintro e W3 ⟨rfl, hb3⟩; have HW3 : Hid (KpI w l _ t _ W3) := HW2.out.keep hb3; clear hb3)
          | (go_at_call 14; refine (H14.out _ HW3.out).mono ?_; rintro e W4 ⟨rfl, hb4⟩; have HW4 : Hid (KpI w l _ t _ W4) := HW3.out.keep hb4; clear hb4)
          | (go_at_call 10; refine (alive_any _).mono ?_; rintro e W5 ⟨rfl, hb5⟩))
        go_ret
        exact ⟨rfl, HW4.out.bel.trans (hb5.mono HW4.out.bel.size)⟩
    · rw [hsub] at H14
      have hS : Sb l := ⟨isSub_iff.1 hsub, fun x hx => rt_of ((isSub_iff.1 hsub).right x hx) (HZ.out.1 x hx)⟩
      have hT := rt_of hr HZ.out.2
      have HM : Hid (Sb l ∧ Rt t ∧ t.rightW = 0) := ⟨hS, hT, hr⟩
      have hl4 := hS.sub.1
      have hvl := wths_rise t.vs [] List.Pairwise.nil
      have hvn : t.vs.length ≤ 1048576 := by have := vs_len t; have := HZ.out.2; omega
      have hvk := wths_len t.vs []
      have H26 : Hid (∀ X, KpI w l (.slice a l.length c) t (.slice sa t.args.length sc) X → Calls Try.prog 26 #[tval t (.slice sa t.args.length sc)] X fun e w' => ∃ v' k, e = .returned v' ∧ w'.ownsRow X.heap.size 3 1 v' k ((t.vs.foldl wth []).map (Value.int .i64)) ∧ Below X.heap.size X w') := fun X hX => rvars_any t _ X hX.ta hvn
      obtain ⟨vl, hvle⟩ : ∃ vl, t.vs.foldl wth [] = vl := ⟨_, rfl⟩
      rw [hvle] at hvl hvk H26
      have HVL : Hid (∀ z, z ∈ vl ↔ z ∈ t.vs) := fun z => by have := hvl.2 z; simpa using this
      have hvk' : vl.length ≤ 1048576 := by simp at hvk; omega
      clear hr hsub hS hT hvl hvn hvk hvle
      go_enter Try.func8, Try.ntmps8
      go_wp2_with (go_at_call 9; refine h9.mono ?_; rintro e W2 ⟨q, rfl, HB2⟩; have HW2 : Hid (KpI w l _ t _ W2) := HI0.out.keep HB2; obtain ⟨j0, j1, j2⟩ := HW2.out.tb; clear HB2 h9 t0 t1 t2; cases q)
      · go_wp2_with (go_at_call 10; refine (alive_any _).mono ?_; rintro e W3 ⟨rfl, hb3⟩)
        go_ret
        exact ⟨rfl, HW2.out.bel.trans (hb3.mono HW2.out.bel.size)⟩
      · go_wp2_with (first
          | (go_at_call 25; refine (H25.out _ HW2.out).mono ?_; rintro e W3 ⟨rfl, hb3⟩; have HW3 : Hid (KpI w l _ t _ W3) := HW2.out.keep hb3; clear hb3)
          | (go_at_call 14; refine (H14.out _ HW3.out).mono ?_; rintro e W4 ⟨rfl, hb4⟩; have HW4 : Hid (KpI w l _ t _ W4) := HW3.out.keep hb4; obtain ⟨m0, m1, m2⟩ := HW4.out.tb; clear hb4)
          | (go_at_call 26; refine (H26.out _ HW4.out).mono ?_; rintro e W5 ⟨v5, k5, rfl, hO5, hb5⟩; have hk5 : k5 = vl.length := (by have := hO5.1; simp at this; omega); subst hk5; obtain ⟨va, vc, rfl⟩ := row_form hO5; have HW5 : Hid (KpI w l _ t _ W5 ∧ W5.ownsRow W4.heap.size 3 1 (.slice va vl.length vc) vl.length (vl.map (Value.int .i64))) := ⟨HW4.out.keep hb5, hO5⟩; clear hO5 hb5 m0 m1 m2))
        clear H25 H14 H26 HI0 j0 j1 j2
        go_loopw [8, 9] (fun vq vi wr => ∃ (q : Bool) (i : Nat), vq = .bool q ∧ vi = .int .i64 i ∧ i ≤ vl.length ∧ q = touchB (vl.take i) l ∧ Below W5.heap.size W5 wr) (fun _ vi _ => vl.length - (intOf vi).toNat)
        case atStart => exact ⟨false, 0, rfl, rfl, Nat.zero_le _, rfl, Below.refl _ _⟩
        case round =>
          obtain ⟨wr2, hw2⟩ : ∃ W, W = wr := ⟨_, rfl⟩
          subst hw2
          obtain ⟨q, i, rfl, rfl, hi, hq, hb2⟩ := hrel
          have HB2 : Hid (Below W5.heap.size W5 wr2) := hb2
          by_cases hit : i < vl.length
          · obtain ⟨g, hva, hg1, hg2, hg3⟩ := row_get (HW5.out.2) hit
            subst hva
            obtain ⟨n, hn⟩ : ∃ n, vl[i] = n := ⟨_, rfl⟩
            have HN : Hid (touchB (vl.take (i + 1)) l = (q || boundB l n)) := by
              show _ = _
              rw [List.take_succ_eq_append_getElem hit, touch_snoc, hn, ← hq]
            rw [hn] at hg3
            have HG : Hid (g < W5.heap.size ∧ W5.cell? ⟨g, i, none⟩ = some (.int .i64 n)) := ⟨hg1, hg3⟩
            clear hb2 hn hq hg1 hg2 hg3
            go_wp2
            go_loopw [8, 10] (fun vq vk wr3 => ∃ (q' : Bool) (m : Nat), vq = .bool q' ∧ vk = .int .i64 m ∧ m ≤ l.length ∧ q' = (q || boundB (l.take m) n) ∧ Below W5.heap.size W5 wr3) (fun _ vk _ => l.length - (intOf vk).toNat)
            case atStart => exact ⟨q, 0, rfl, rfl, Nat.zero_le _, by rw [bound_no (s := l.take 0) (by simp)]; simp, HB2.out⟩
            case round =>
              obtain ⟨wr3, hw3⟩ : ∃ W, W = wr := ⟨_, rfl⟩
              subst hw3
              obtain ⟨q', m, rfl, rfl, hm, hq', hb3⟩ := hrel
              have HB3 : Hid (Below W5.heap.size W5 wr3) := hb3
              by_cases hmt : m < l.length
              · obtain ⟨b2, o2, s2, e2, hB2⟩ := HW5.out.1.bs.nth hmt
                have hB3 := hB2.keep hb3
                obtain ⟨y, hy⟩ : ∃ y, l[m] = y := ⟨_, rfl⟩
                have HN2 : Hid ((q || boundB (l.take (m + 1)) n) = (q' || decide (y.1 = n))) := by
                  show _ = _
                  rw [List.take_succ_eq_append_getElem hmt, bound_snocK, hy, hq', Bool.or_assoc]
                rw [hy] at hB3
                cases e2
                have g0 : wr3.cell? ⟨b2, o2 + m * 4, none⟩ = some (.int .i64 y.1) := hB3.c0
                have g1 : wr3.cell? ⟨g, i, none⟩ = some (.int .i64 n) := kc hb3 HG.out.1 HG.out.2
                have f0 := fun p => cell_far hB3.lt g0 p
                have f1 := fun p => cell_far (Nat.lt_of_lt_of_le HG.out.1 hb3.size) g1 p
                have j0 : (m : Int) < (l.length : Int) := by omega
                have j1 : (i : Int) < (vl.length : Int) := by omega
                clear hB2 hB3 hb3 hy hq'
                cases q'
                · by_cases he : y.1 = n
                  · have hd1 : decide (y.1 = n) = true := decide_eq_true he
                    have hd2 : (y.1 == n) = true := by simp [he]
                    have HN' : Hid ((q || boundB (l.take (m + 1)) n) = true) := by show _ = _; rw [HN2.out, hd1]; rfl
                    clear he HN2
                    go_wp2
                    go_quiet (fail)
                    go_wp2
                    go_roundw
                    case rel => exact ⟨true, m + 1, rfl, by go_num, by omega, HN'.out.symm, HB3.out.trans ⟨rfl, rfl, rfl, Nat.le_refl _, fun _ _ => rfl⟩⟩
                    case measure => simp [intOf]; omega
                  · have hd1 : decide (y.1 = n) = false := decide_eq_false he
                    have hd2 : (y.1 == n) = false := by simp [he]
                    have HN' : Hid ((q || boundB (l.take (m + 1)) n) = false) := by show _ = _; rw [HN2.out, hd1]; rfl
                    clear he HN2
                    go_wp2
                    go_quiet (fail)
                    go_wp2
                    go_roundw
                    case rel => exact ⟨false, m + 1, rfl, by go_num, by omega, HN'.out.symm, HB3.out.trans ⟨rfl, rfl, rfl, Nat.le_refl _, fun _ _ => rfl⟩⟩
                    case measure => simp [intOf]; omega
                · go_wp2
                  go_quiet (fail)
                  go_wp2
                  go_roundw
                  case rel => exact ⟨true, m + 1, rfl, by go_num, by omega, by rw [HN2.out]; rfl, HB3.out.trans ⟨rfl, rfl, rfl, Nat.le_refl _, fun _ _ => rfl⟩⟩
                  case measure => simp [intOf]; omega
              · have hme : l.take m = l := List.take_of_length_le (by omega)
                rw [hme, ← HN.out] at hq'
                clear hb3 hme hm
                go_wp2
                go_roundw
                case rel => exact ⟨q', i + 1, rfl, by go_num, by omega, hq', HB3.out⟩
                case measure => simp [intOf]; omega
          · have hie : vl.take i = vl := List.take_of_length_le (by omega)
            rw [hie] at hq
            have HW6 : Hid (KpI w l (.slice a l.length c) t (.slice sa t.args.length sc) wr2) := HW5.out.1.keep hb2
            obtain ⟨m0, m1, m2⟩ := HW6.out.tb
            clear hb2 hie hi
            have hfw : fitsW t = 0 := by rw [← right_fits HM.out.2.1.shape (by have := HM.out.2.1.size; omega)]; exact HM.out.2.2
            have hsame : q = false → t.app (img l) = t := fun hqf => app_same _ t HM.out.2.1.shape fun n hn => img_out fun x hx e => by
              have h1 : touchB vl l = true := List.any_eq_true.2 ⟨n, (HVL.out n).2 hn, bound_iff.2 ⟨x, hx, e⟩⟩
              rw [← hq, hqf] at h1
              cases h1
            obtain ⟨r, f, hrf, h11⟩ : ∃ r f, (q = false → r = t ∧ f = 0) ∧ Calls Try.prog 11 #[.slice a l.length c, tval t (.slice sa t.args.length sc)] wr2 fun e W' => ∃ s5, e = .returned (.tuple #[tval r s5, .int .i64 f]) ∧ ArgsAt W' s5 r.args ∧ Below wr2.heap.size wr2 W' := by
              by_cases hf : fitsW (t.app (img l)) = 0
              · exact ⟨t.app (img l), 0, fun hqf => ⟨hsame hqf, rfl⟩, apply_ok l HM.out.1 t HM.out.2.1 HM.out.2.2 hf _ _ wr2 HW6.out.bs HW6.out.ta⟩
              · refine ⟨zt, fitsW (t.app (img l)), fun hqf => ?_, (apply_big l HM.out.1 t HM.out.2.1 HM.out.2.2 hf _ _ wr2 HW6.out.bs HW6.out.ta).mono fun e W' ⟨he, h⟩ => ⟨_, he, (ArgsFr.nil 0 _).args, h⟩⟩
                rw [hsame hqf] at hf
                exact absurd hfw hf
            have H15 : Hid (∀ X s5 s6, ArgsAt X s5 t.args → ArgsAt X s6 t.args → Calls Try.prog 15 #[tval t s5, tval t s6] X fun e X' => e = .returned (.bool true) ∧ Below X.heap.size X X') := fun X s5 s6 h5 h6 => (rsame_any t t s5 s6 X h5 h6).mono fun e X' ⟨he, h⟩ => ⟨by rw [he, same_iff.2 rfl], h⟩
            have hsh := fun (t' : T) (b' : Int) (h2 : t'.shape = true) (h3 : t'.rightW = 0) (h4 : t'.size ≤ 4000) sl' X (h5 : ArgsAt X sl' t'.args) => shift_any t' b' h2 (short_of t' (by omega)).1 h3 (vs_range t' h2) sl' X h5
            have nb : IntKind.i64.wrap (-b) = neg64 b := by simp only [neg64, wrap64]; simp [IntKind.wrap, IntKind.bits, IntKind.signed]; omega
            clear hfw hsame hq
            by_cases hall : ∀ n ∈ t.vs, fine b n = true
            · obtain ⟨s1, s2, s3, s4⟩ := shift_right HM.out.2.1.shape HM.out.2.2 HM.out.2.1.size hall
              obtain ⟨s5, s6⟩ := shift_back HM.out.2.1.shape hall s4
              have H19 : Hid (∀ X, KpI w l (.slice a l.length c) t (.slice sa t.args.length sc) X → Calls Try.prog 19 #[tval t (.slice sa t.args.length sc), .int .i64 b] X fun e X' => ∃ s, e = .returned (.tuple #[tval (t.app (shf b)) s, .int .i64 0]) ∧ ArgsAt X' s (t.app (shf b)).args ∧ Below X.heap.size X X') := fun X hX => (hsh t b HM.out.2.1.shape HM.out.2.2 HM.out.2.1.size _ X hX.ta).mono fun e X' ⟨h, hb⟩ => by
                rcases h with ⟨_, s, he, hA⟩ | ⟨⟨n, hn, hf⟩, _⟩
                · exact ⟨s, he, hA, hb⟩
                · rw [hall n hn] at hf; cases hf
              have H19b : Hid (∀ X s, ArgsAt X s (t.app (shf b)).args → Calls Try.prog 19 #[tval (t.app (shf b)) s, .int .i64 (neg64 b)] X fun e X' => ∃ s', e = .returned (.tuple #[tval t s', .int .i64 0]) ∧ ArgsAt X' s' t.args ∧ Below X.heap.size X X') := fun X s hA => (hsh (t.app (shf b)) (neg64 b) s1 s2 (by rw [s3]; exact HM.out.2.1.size) s X hA).mono fun e X' ⟨h, hb⟩ => by
                rcases h with ⟨_, s', he, hA'⟩ | ⟨⟨n, hn, hf⟩, _⟩
                · rw [s6] at he hA'
                  exact ⟨s', he, hA', hb⟩
                · rw [s5 n hn] at hf; cases hf
              obtain ⟨u, hu⟩ : ∃ u, t.app (shf b) = u := ⟨_, rfl⟩
              rw [hu] at H19 H19b
              clear s1 s2 s3 s4 s5 s6 hu hsh hall
              cases q
              · obtain ⟨hrt, hf0⟩ := hrf rfl
                rw [hrt, hf0] at h11
                clear hrf hrt hf0
                go_wp2_with (first
                  | (go_at_call 15; refine hc15b.mono ?_; rintro e W11 ⟨rfl, hb11⟩; have HB11 : Hid (Below w.heap.size w W11) := HW10.out.bel.trans (hb11.mono HW10.out.bel.size); clear hb11 hc15b)
                  | (go_at_call 15; refine hc15.mono ?_; rintro e W8 ⟨rfl, hb8⟩; have HW8 : Hid (KpI w l _ t _ W8) := HW7.out.keep hb8; obtain ⟨d0, d1, d2⟩ := HW8.out.tb; have hc19 := H19.out _ HW8.out; clear hc15 hb8)
                  | (go_at_call 19; refine hc19b.mono ?_; rintro e W10 ⟨s8, rfl, hA10, hb10⟩; obtain ⟨ra, rc, rfl, _, _⟩ := hA10.slice; have HW10 : Hid (KpI w l _ t _ (W10.alloc (tbox t (.slice ra t.args.length rc)))) := HW9.out.keep (hb10.trans ((below_box W10 _).mono hb10.size)); obtain ⟨o0, o1, o2⟩ := tbox_cells W10 t (.slice ra t.args.length rc); obtain ⟨p0, p1, p2⟩ := HW10.out.tb; have hc15b := H15.out _ _ _ (ArgsAt.keep (below_box W10 _) (Nat.le_refl _) hA10) HW10.out.ta; clear hA10 hb10 hc19b)
                  | (go_at_call 19; refine hc19.mono ?_; rintro e W9 ⟨s6, rfl, hA9, hb9⟩; obtain ⟨qa, qc, rfl, _, _⟩ := hA9.slice; have HW9 : Hid (KpI w l _ t _ (W9.alloc (tbox u (.slice qa u.args.length qc)))) := HW8.out.keep (hb9.trans ((below_box W9 _).mono hb9.size)); have HA9 : Hid (ArgsAt (W9.alloc (tbox u (.slice qa u.args.length qc))) (.slice qa u.args.length qc) u.args) := ArgsAt.keep (below_box W9 _) (Nat.le_refl _) hA9; obtain ⟨z0, z1, z2⟩ := tbox_cells W9 u (.slice qa u.args.length qc); have hc19b := H19b.out _ _ HA9.out; clear hA9 hb9 hc19)
                  | (go_at_call 11; refine h11.mono ?_; rintro e W7 ⟨s5, rfl, hA7, hb7⟩; obtain ⟨pa, pc, rfl, _, _⟩ := hA7.slice; have HW7 : Hid (KpI w l _ t _ (W7.alloc (tbox t (.slice pa t.args.length pc)))) := HW6.out.keep (hb7.trans ((below_box W7 _).mono hb7.size)); have HA7 : Hid (ArgsAt (W7.alloc (tbox t (.slice pa t.args.length pc))) (.slice pa t.args.length pc) t.args) := ArgsAt.keep (below_box W7 _) (Nat.le_refl _) hA7; obtain ⟨x0, x1, x2⟩ := tbox_cells W7 t (.slice pa t.args.length pc); obtain ⟨n0, n1, n2⟩ := HW7.out.tb; have hc15 := H15.out _ _ _ HA7.out HW7.out.ta; clear hA7 hb7 h11 m0 m1 m2)
                  | (go_at_call 10; refine (alive_any _).mono ?_; rintro e W12 ⟨rfl, hb12⟩))
                go_ret
                exact ⟨rfl, HB11.out.trans (hb12.mono HB11.out.size)⟩
              · clear hrf
                go_wp2_with (first
                  | (go_at_call 15; refine hc15b.mono ?_; rintro e W11 ⟨rfl, hb11⟩; have HB11 : Hid (Below w.heap.size w W11) := HW10.out.bel.trans (hb11.mono HW10.out.bel.size); clear hb11 hc15b)
                  | (go_at_call 19; refine hc19b.mono ?_; rintro e W10 ⟨s8, rfl, hA10, hb10⟩; obtain ⟨ra, rc, rfl, _, _⟩ := hA10.slice; have HW10 : Hid (KpI w l _ t _ (W10.alloc (tbox t (.slice ra t.args.length rc)))) := HW9.out.keep (hb10.trans ((below_box W10 _).mono hb10.size)); obtain ⟨o0, o1, o2⟩ := tbox_cells W10 t (.slice ra t.args.length rc); obtain ⟨p0, p1, p2⟩ := HW10.out.tb; have hc15b := H15.out _ _ _ (ArgsAt.keep (below_box W10 _) (Nat.le_refl _) hA10) HW10.out.ta; clear hA10 hb10 hc19b)
                  | (go_at_call 19; refine hc19.mono ?_; rintro e W9 ⟨s6, rfl, hA9, hb9⟩; obtain ⟨qa, qc, rfl, _, _⟩ := hA9.slice; have HW9 : Hid (KpI w l _ t _ (W9.alloc (tbox u (.slice qa u.args.length qc)))) := HW7.out.keep (hb9.trans ((below_box W9 _).mono hb9.size)); have HA9 : Hid (ArgsAt (W9.alloc (tbox u (.slice qa u.args.length qc))) (.slice qa u.args.length qc) u.args) := ArgsAt.keep (below_box W9 _) (Nat.le_refl _) hA9; obtain ⟨z0, z1, z2⟩ := tbox_cells W9 u (.slice qa u.args.length qc); have hc19b := H19b.out _ _ HA9.out; clear hA9 hb9 hc19)
                  | (go_at_call 11; refine h11.mono ?_; rintro e W7 ⟨s5, rfl, hA7, hb7⟩; obtain ⟨pa, pc, rfl, _, _⟩ := hA7.slice; have HW7 : Hid (KpI w l _ t _ (W7.alloc (tbox r (.slice pa r.args.length pc)))) := HW6.out.keep (hb7.trans ((below_box W7 _).mono hb7.size)); have HA7 : Hid (ArgsAt (W7.alloc (tbox r (.slice pa r.args.length pc))) (.slice pa r.args.length pc) r.args) := ArgsAt.keep (below_box W7 _) (Nat.le_refl _) hA7; obtain ⟨x0, x1, x2⟩ := tbox_cells W7 r (.slice pa r.args.length pc); obtain ⟨n0, n1, n2⟩ := HW7.out.tb; have hc19 := H19.out _ HW7.out; clear hA7 hb7 h11 m0 m1 m2)
                  | (go_at_call 10; refine (alive_any _).mono ?_; rintro e W12 ⟨rfl, hb12⟩))
                go_ret
                exact ⟨rfl, HB11.out.trans (hb12.mono HB11.out.size)⟩
            · have H19 : Hid (∀ X, KpI w l (.slice a l.length c) t (.slice sa t.args.length sc) X → Calls Try.prog 19 #[tval t (.slice sa t.args.length sc), .int .i64 b] X fun e X' => e = .returned (.tuple #[.agg #[.int .i64 0, .string ⟨#[]⟩, .slice none 0 0], .int .i64 1]) ∧ Below X.heap.size X X') := fun X hX => (hsh t b HM.out.2.1.shape HM.out.2.2 HM.out.2.1.size _ X hX.ta).mono fun e X' ⟨h, hb⟩ => by
                rcases h with ⟨hf, _⟩ | ⟨_, he⟩
                · exact absurd hf hall
                · exact ⟨he, hb⟩
              clear hsh hall nb
              cases q
              · obtain ⟨hrt, hf0⟩ := hrf rfl
                rw [hrt, hf0] at h11
                clear hrf hrt hf0
                go_wp2_with (first
                  | (go_at_call 15; refine hc15.mono ?_; rintro e W8 ⟨rfl, hb8⟩; have HW8 : Hid (KpI w l _ t _ W8) := HW7.out.keep hb8; obtain ⟨d0, d1, d2⟩ := HW8.out.tb; have hc19 := H19.out _ HW8.out; clear hc15 hb8)
                  | (go_at_call 19; refine hc19.mono ?_; rintro e W9 ⟨rfl, hb9⟩; have HB9 : Hid (Below w.heap.size w (W9.alloc (.cells #[.int .i64 0, .string ⟨#[]⟩, .slice none 0 0] 25))) := HW8.out.bel.trans ((hb9.trans ((below_box W9 _).mono hb9.size)).mono HW8.out.bel.size); obtain ⟨z0, z1, z2⟩ : (W9.alloc (.cells #[.int .i64 0, .string ⟨#[]⟩, .slice none 0 0] 25)).cell? ⟨W9.heap.size, 0, none⟩ = some (.int .i64 0) ∧ (W9.alloc (.cells #[.int .i64 0, .string ⟨#[]⟩, .slice none 0 0] 25)).cell? ⟨W9.heap.size, 1, none⟩ = some (.string ⟨#[]⟩) ∧ (W9.alloc (.cells #[.int .i64 0, .string ⟨#[]⟩, .slice none 0 0] 25)).cell? ⟨W9.heap.size, 2, none⟩ = some (.slice none 0 0) := tbox_cells W9 zt (.slice none 0 0); clear hb9 hc19)
                  | (go_at_call 11; refine h11.mono ?_; rintro e W7 ⟨s5, rfl, hA7, hb7⟩; obtain ⟨pa, pc, rfl, _, _⟩ := hA7.slice; have HW7 : Hid (KpI w l _ t _ (W7.alloc (tbox t (.slice pa t.args.length pc)))) := HW6.out.keep (hb7.trans ((below_box W7 _).mono hb7.size)); have HA7 : Hid (ArgsAt (W7.alloc (tbox t (.slice pa t.args.length pc))) (.slice pa t.args.length pc) t.args) := ArgsAt.keep (below_box W7 _) (Nat.le_refl _) hA7; obtain ⟨x0, x1, x2⟩ := tbox_cells W7 t (.slice pa t.args.length pc); obtain ⟨n0, n1, n2⟩ := HW7.out.tb; have hc15 := H15.out _ _ _ HA7.out HW7.out.ta; clear hA7 hb7 h11 m0 m1 m2)
                  | (go_at_call 10; refine (alive_any _).mono ?_; rintro e W12 ⟨rfl, hb12⟩))
                go_ret
                exact ⟨rfl, HB9.out.trans (hb12.mono HB9.out.size)⟩
              · clear hrf
                go_wp2_with (first
                  | (go_at_call 19; refine hc19.mono ?_; rintro e W9 ⟨rfl, hb9⟩; have HB9 : Hid (Below w.heap.size w (W9.alloc (.cells #[.int .i64 0, .string ⟨#[]⟩, .slice none 0 0] 25))) := HW7.out.bel.trans ((hb9.trans ((below_box W9 _).mono hb9.size)).mono HW7.out.bel.size); obtain ⟨z0, z1, z2⟩ : (W9.alloc (.cells #[.int .i64 0, .string ⟨#[]⟩, .slice none 0 0] 25)).cell? ⟨W9.heap.size, 0, none⟩ = some (.int .i64 0) ∧ (W9.alloc (.cells #[.int .i64 0, .string ⟨#[]⟩, .slice none 0 0] 25)).cell? ⟨W9.heap.size, 1, none⟩ = some (.string ⟨#[]⟩) ∧ (W9.alloc (.cells #[.int .i64 0, .string ⟨#[]⟩, .slice none 0 0] 25)).cell? ⟨W9.heap.size, 2, none⟩ = some (.slice none 0 0) := tbox_cells W9 zt (.slice none 0 0); clear hb9 hc19)
                  | (go_at_call 11; refine h11.mono ?_; rintro e W7 ⟨s5, rfl, hA7, hb7⟩; obtain ⟨pa, pc, rfl, _, _⟩ := hA7.slice; have HW7 : Hid (KpI w l _ t _ (W7.alloc (tbox r (.slice pa r.args.length pc)))) := HW6.out.keep (hb7.trans ((below_box W7 _).mono hb7.size)); have HA7 : Hid (ArgsAt (W7.alloc (tbox r (.slice pa r.args.length pc))) (.slice pa r.args.length pc) r.args) := ArgsAt.keep (below_box W7 _) (Nat.le_refl _) hA7; obtain ⟨x0, x1, x2⟩ := tbox_cells W7 r (.slice pa r.args.length pc); obtain ⟨n0, n1, n2⟩ := HW7.out.tb; have hc19 := H19.out _ HW7.out; clear hA7 hb7 h11 m0 m1 m2)
                  | (go_at_call 10; refine (alive_any _).mono ?_; rintro e W12 ⟨rfl, hb12⟩))
                go_ret
                exact ⟨rfl, HB9.out.trans (hb12.mono HB9.out.size)⟩
  · have hd : (t.rightW != 0) = true := by rw [bne_iff_ne]; exact hr
    clear hr H14
    go_enter Try.func8, Try.ntmps8
    go_wp2_with (go_at_call 9; refine h9.mono ?_; rintro e W2 ⟨q, rfl, HB2⟩; have HW2 : Hid (KpI w l _ t _ W2) := HI0.out.keep HB2; obtain ⟨j0, j1, j2⟩ := HW2.out.tb; clear HB2 h9 t0 t1 t2; cases q)
    · go_wp2_with (go_at_call 10; refine (alive_any _).mono ?_; rintro e W3 ⟨rfl, hb3⟩)
      go_ret
      exact ⟨rfl, HW2.out.bel.trans (hb3.mono HW2.out.bel.size)⟩
    · go_wp2_with (first
        | (go_at_call 25; refine (H25.out _ HW2.out).mono ?_; rintro e W3 ⟨rfl, hb3⟩; have HW3 : Hid (KpI w l _ t _ W3) := HW2.out.keep hb3; clear hb3)
        | (go_at_call 10; refine (alive_any _).mono ?_; rintro e W5 ⟨rfl, hb5⟩))
      go_ret
      exact ⟨rfl, HW3.out.bel.trans (hb5.mono HW3.out.bel.size)⟩

end Go.Proofs.Ythinbkpjggihdaa
