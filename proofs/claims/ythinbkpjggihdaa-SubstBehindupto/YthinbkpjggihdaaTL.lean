/-
  SubstBehind's walk.
-/
import Derived.Test.YthinbkpjggihdaaTK
import Derived.Test.YthinbkpjggihdaaTC
import Derived.Test.YthinbkpjggihdaaST
namespace Go.Proofs.Ythinbkpjggihdaa
open Go.RowKit

/-- What Apply answers. -/
theorem apply_some (l : List Bd) (t : T) (hlz : ∀ x ∈ l, x.2.size ≤ 1048576) (htz : t.size ≤ 1048576) : ∃ r f,
    (f ≠ 0 ∨ f = 0 ∧ Sb l ∧ Rt t ∧ t.rightW = 0 ∧ fitsW (t.app (img l)) = 0 ∧ r = t.app (img l)) ∧
    (∀ v sl W, BindsAt W v l → ArgsAt W sl t.args → Calls Try.prog 11 #[v, tval t sl] W fun e W' => ∃ s5, e = .returned (.tuple #[tval r s5, .int .i64 f]) ∧ ArgsAt W' s5 r.args ∧ Below W.heap.size W W') := by
  by_cases hno : isSub l = false ∨ t.rightW ≠ 0
  · refine ⟨zt, 1, .inl (by decide), fun v sl W hb ha => ?_⟩
    exact (apply_arg l (fun x hx => (short_of _ (hlz x hx)).1) t (short_of _ htz).1 hno v sl W hb ha).mono fun e W' ⟨he, h⟩ => ⟨_, he, (ArgsFr.nil 0 _).args, h⟩
  · have h1 : isSub l = true := by
      cases e : isSub l
      · exact absurd (.inl e) hno
      · rfl
    have h2 : t.rightW = 0 := Classical.byContradiction fun h => hno (.inr h)
    have hI := isSub_iff.1 h1
    have hSb : Sb l := ⟨hI, fun x hx => rt_of (hI.right x hx) (hlz x hx)⟩
    have hRt := rt_of h2 htz
    by_cases hf : fitsW (t.app (img l)) = 0
    · exact ⟨t.app (img l), 0, .inr ⟨rfl, hSb, hRt, h2, hf, rfl⟩, fun v sl W hb ha => apply_ok l hSb t hRt h2 hf v sl W hb ha⟩
    · exact ⟨zt, fitsW (t.app (img l)), .inl hf, fun v sl W hb ha => (apply_big l hSb t hRt h2 hf v sl W hb ha).mono fun e W' ⟨he, h⟩ => ⟨_, he, (ArgsFr.nil 0 _).args, h⟩⟩

theorem first_bad (s : List Bd) (P : Bd → Prop) (h : ¬ ∀ x ∈ s, P x) : ∃ k, ∃ hk : k < s.length, ¬ P s[k] ∧ ∀ j (hj : j < s.length), j < k → P s[j] := by
  classical
  induction s with
  | nil => exact absurd (fun x hx => by cases hx) h
  | cons a r ih =>
    by_cases ha : P a
    · obtain ⟨k, hk, h1, h2⟩ := ih fun hr => h fun x hx => by
        rcases List.mem_cons.1 hx with e | e
        · rw [e]; exact ha
        · exact hr x e
      refine ⟨k + 1, by simpa using hk, by simpa using h1, fun j hj hjk => ?_⟩
      cases j with
      | zero => exact ha
      | succ j => simpa using h2 j (by simpa using hj) (by omega)
    · exact ⟨0, by simp, ha, fun j _ hj => absurd hj (by omega)⟩

/-- What Compose answers. -/
theorem compose_some (s r : List Bd) (hsz : ∀ x ∈ s, x.2.size ≤ 1048576) (hrz : ∀ x ∈ r, x.2.size ≤ 1048576) (hs2 : s.length ≤ 200) (hr2 : r.length ≤ 200) : ∃ g : Int,
    (g ≠ 0 ∨ g = 0 ∧ Sb s ∧ Sb r ∧ ∀ x ∈ s, fitsW (x.2.app (img r)) = 0) ∧
    (∀ v u W, BindsAt W v s → BindsAt W u r → Calls Try.prog 16 #[v, u] W fun e W' => ∃ v' c, e = .returned (.tuple #[v', .int .i64 g]) ∧ BindsAt W' v' c ∧ (g = 0 → c.Perm (joined s r) ∧ Rising c) ∧ Below W.heap.size W W') := by
  have nilB : ∀ W, BindsAt W (.slice none 0 0) [] := fun W => ⟨none, 0, rfl, Nat.le_refl _, by decide, fun h => absurd h (by simp)⟩
  by_cases hno : isSub s = false ∨ isSub r = false
  · refine ⟨1, .inl (by decide), fun v u W hv hu => ?_⟩
    exact (compose_arg s r (fun x hx => (short_of _ (hsz x hx)).1) (fun x hx => (short_of _ (hrz x hx)).1) hno v u W hv hu).mono fun e W' ⟨he, h⟩ => ⟨_, [], he, nilB _, fun h => absurd h (by decide), h⟩
  · have h1 : isSub s = true := by
      cases e : isSub s
      · exact absurd (.inl e) hno
      · rfl
    have h2 : isSub r = true := by
      cases e : isSub r
      · exact absurd (.inr e) hno
      · rfl
    have hI := isSub_iff.1 h1
    have hJ := isSub_iff.1 h2
    have hS : Sb s := ⟨hI, fun x hx => rt_of (hI.right x hx) (hsz x hx)⟩
    have hR : Sb r := ⟨hJ, fun x hx => rt_of (hJ.right x hx) (hrz x hx)⟩
    by_cases hf : ∀ x ∈ s, fitsW (x.2.app (img r)) = 0
    · refine ⟨0, .inr ⟨rfl, hS, hR, hf⟩, fun v u W hv hu => ?_⟩
      have hl : (joined s r).length ≤ 4000 := by
        unfold joined
        rw [List.length_append, List.length_map, List.length_map]
        have := List.length_filter_le (lastB r) s
        have := List.length_filter_le (fun x => !boundB s x.1) r
        omega
      exact (compose_all s r hS hR hf hl v u W hv hu).mono fun e W' ⟨v', c, he, hp, hr, hB, h⟩ => ⟨v', c, he, hB, fun _ => ⟨hp, hr⟩, h⟩
    · obtain ⟨k, hk, hb, hfit⟩ := first_bad s (fun x => fitsW (x.2.app (img r)) = 0) hf
      refine ⟨_, .inl hb, fun v u W hv hu => ?_⟩
      exact (compose_big s r hS hR k hk _ hb hfit rfl v u W hv hu).mono fun e W' ⟨he, h⟩ => ⟨_, [], he, nilB _, fun h => absurd h hb, h⟩

/-- What stands in the law. -/
structure BhI (w : World) (s r : List Bd) (v u : Value) (t : T) (sl : Value) (X : World) : Prop where
  bs : BindsAt X v s
  br : BindsAt X u r
  tb : X.cell? ⟨w.heap.size, 0, none⟩ = some (.int .i64 t.v) ∧ X.cell? ⟨w.heap.size, 1, none⟩ = some (.string t.fn) ∧ X.cell? ⟨w.heap.size, 2, none⟩ = some sl
  lt : w.heap.size < X.heap.size
  ta : ArgsAt X sl t.args
  bel : Below w.heap.size w X

theorem BhI.keep {w : World} {s r : List Bd} {v u : Value} {t : T} {sl : Value} {X X' : World} (h : BhI w s r v u t sl X) (hb : Below X.heap.size X X') : BhI w s r v u t sl X' :=
  ⟨h.bs.keep hb, h.br.keep hb, ⟨kc hb h.lt h.tb.1, kc hb h.lt h.tb.2.1, kc hb h.lt h.tb.2.2⟩, Nat.lt_of_lt_of_le h.lt hb.size, ArgsAt.keep hb (Nat.le_refl _) h.ta, h.bel.trans (hb.mono h.bel.size)⟩

theorem BhI.start {w : World} {s r : List Bd} {v u : Value} {t : T} {sl : Value} (hv : BindsAt w v s) (hu : BindsAt w u r) (ha : ArgsAt w sl t.args) : BhI w s r v u t sl (w.alloc (tbox t sl)) :=
  have hb := below_box w (tbox t sl)
  ⟨hv.keep hb, hu.keep hb, tbox_cells w t sl, by simp, ArgsAt.keep hb (Nat.le_refl _) ha, hb⟩

set_option maxRecDepth 100000 in
set_option maxHeartbeats 8000000 in
theorem substBehind_any (s r : List Bd) (t : T) (hsz : ∀ x ∈ s, x.2.size ≤ 1048576) (hrz : ∀ x ∈ r, x.2.size ≤ 1048576) (htz : t.size ≤ 1048576) (v u sl : Value) (w : World) (hv : BindsAt w v s) (hu : BindsAt w u r) (ha : ArgsAt w sl t.args) :
    Calls Try.prog 7 #[v, u, tval t sl] w fun e w' => e = .returned (.bool true) ∧ Below w.heap.size w w' := by
  have hI0 := BhI.start hv hu ha
  obtain ⟨x, f, hx, h11⟩ := apply_some s t hsz htz
  obtain ⟨a, c, rfl⟩ := hv.slice
  obtain ⟨a', c', rfl⟩ := hu.slice
  obtain ⟨sa, sc, rfl, _, _⟩ := ha.slice
  obtain ⟨t0, t1, t2⟩ := hI0.tb
  have HI0 : Hid (BhI w s r (.slice a s.length c) (.slice a' r.length c') t (.slice sa t.args.length sc) (w.alloc (tbox t (.slice sa t.args.length sc)))) := hI0
  have h9 := light_any s t (.slice a s.length c) (.slice sa t.args.length sc) _ hI0.bs hI0.ta
  have HX : Hid _ := hx
  have H11 : Hid _ := h11
  have HZ : Hid ((∀ x ∈ s, x.2.size ≤ 1048576) ∧ (∀ x ∈ r, x.2.size ≤ 1048576)) := ⟨hsz, hrz⟩
  clear hv hu ha hI0 hx h11 hsz hrz htz
  by_cases hs2 : 200 < s.length
  · clear h9
    go_enter Try.func7, Try.ntmps7
    go_wp2_with (go_at_call 10; refine (alive_any _).mono ?_; rintro e W3 ⟨rfl, hb3⟩)
    go_ret
    exact ⟨rfl, HI0.out.bel.trans (hb3.mono HI0.out.bel.size)⟩
  by_cases hr2 : 200 < r.length
  · clear h9
    go_enter Try.func7, Try.ntmps7
    go_wp2_with (go_at_call 10; refine (alive_any _).mono ?_; rintro e W3 ⟨rfl, hb3⟩)
    go_ret
    exact ⟨rfl, HI0.out.bel.trans (hb3.mono HI0.out.bel.size)⟩
  go_enter Try.func7, Try.ntmps7
  go_wp2_with (go_at_call 9; refine h9.mono ?_; rintro e W2 ⟨q, rfl, HB2⟩; have HW2 : Hid (BhI w s r (.slice a s.length c) (.slice a' r.length c') t (.slice sa t.args.length sc) W2) := HI0.out.keep HB2; clear HB2 h9 t0 t1 t2; cases q)
  · go_wp2_with (go_at_call 10; refine (alive_any _).mono ?_; rintro e W3 ⟨rfl, hb3⟩)
    go_ret
    exact ⟨rfl, HW2.out.bel.trans (hb3.mono HW2.out.bel.size)⟩
  · go_wp2
    go_loopw [7] (fun vi wr => ∃ i : Nat, vi = .int .i64 i ∧ i ≤ s.length ∧ BhI w s r (.slice a s.length c) (.slice a' r.length c') t (.slice sa t.args.length sc) wr) (fun vi _ => s.length - (intOf vi).toNat)
    case atStart => exact ⟨0, rfl, Nat.zero_le _, HW2.out⟩
    case round =>
      obtain ⟨i, rfl, hi, hX⟩ := hrel
      have HX3 : Hid (BhI w s r (.slice a s.length c) (.slice a' r.length c') t (.slice sa t.args.length sc) wr) := hX
      by_cases hlt : i < s.length
      · obtain ⟨b, o, s1, e', hB⟩ := hX.bs.nth hlt
        cases e'
        obtain ⟨y, hy⟩ : ∃ y, s[i] = y := ⟨_, rfl⟩
        rw [hy] at hB
        obtain ⟨ya, yc, rfl, _, _⟩ := hB.sub.slice
        obtain ⟨g1, g2, g3⟩ : wr.cell? ⟨b, o + i * 4 + 1, none⟩ = some (.int .i64 y.2.v) ∧ wr.cell? ⟨b, o + i * 4 + 2, none⟩ = some (.string y.2.fn) ∧ wr.cell? ⟨b, o + i * 4 + 3, none⟩ = some (.slice ya y.2.args.length yc) := ⟨hB.c1, hB.c2, hB.c3⟩
        have hc := light_any r y.2 (.slice a' r.length c') (.slice ya y.2.args.length yc) wr hX.br hB.sub
        clear hB hy hX
        go_wp2_with (go_at_call 9; refine hc.mono ?_; rintro e W5 ⟨q, rfl, hb5⟩; have HW5 : Hid (BhI w s r _ _ t _ W5) := HX3.out.keep hb5; clear hb5; cases q)
        · go_wp2_with (go_at_call 10; refine (alive_any _).mono ?_; rintro e W6 ⟨rfl, hb6⟩)
          go_ret
          exact ⟨rfl, HW5.out.bel.trans (hb6.mono HW5.out.bel.size)⟩
        · go_wp2
          go_roundw
          case rel => exact ⟨i + 1, by go_num, by omega, HW5.out⟩
          case measure => simp [intOf]; omega
      · obtain ⟨k0, k1, k2⟩ := hX.tb
        have hc := H11.out _ _ _ hX.bs hX.ta
        clear hX
        rcases HX.out with hf | ⟨rfl, hS, hT, hT0, hfit, rfl⟩
        · have hd : (f != 0) = true := by rw [bne_iff_ne]; exact hf
          clear hf
          go_wp2_with (first
            | (go_at_call 11; refine hc.mono ?_; rintro e W5 ⟨s5, rfl, hA5, hb5⟩; obtain ⟨pa, pc, rfl, _, _⟩ := hA5.slice; have HB5 : Hid (Below w.heap.size w (W5.alloc (tbox x (.slice pa x.args.length pc)))) := HX3.out.bel.trans ((hb5.trans ((below_box W5 _).mono hb5.size)).mono HX3.out.bel.size); clear hA5 hb5)
            | (go_at_call 10; refine (alive_any _).mono ?_; rintro e W6 ⟨rfl, hb6⟩))
          go_ret
          exact ⟨rfl, HB5.out.trans (hb6.mono HB5.out.size)⟩
        · obtain ⟨y, f2, hy, h11b⟩ := apply_some r (t.app (img s)) HZ.out.2 (by have := (fits_rt (app_shape _ (img_shape hS.sub) t hT.shape) hfit).1.size; omega)
          have HY : Hid _ := hy
          have H11b : Hid _ := h11b
          have HM : Hid (Sb s ∧ Rt t ∧ t.rightW = 0 ∧ fitsW (t.app (img s)) = 0) := ⟨hS, hT, hT0, hfit⟩
          clear hy h11b hS hT hT0 hfit
          obtain ⟨x, hx⟩ : ∃ x, t.app (img s) = x := ⟨_, rfl⟩
          rw [hx] at hc HY H11b
          have HXE : Hid (t.app (img s) = x) := hx
          clear hx
          go_wp2_with (first
            | (go_at_call 9; refine hc9.mono ?_; rintro e W6 ⟨q, rfl, hb6⟩; have HW6 : Hid (BhI w s r _ _ t _ W6 ∧ ArgsAt W6 _ x.args) := ⟨HV5.out.keep hb6, ArgsAt.keep hb6 (Nat.le_refl _) HA5.out⟩; have y0 := kc hb6 (by simp) x0; have y1 := kc hb6 (by simp) x1; have y2 := kc hb6 (by simp) x2; have HL6 : Hid (W5.heap.size < W6.heap.size) := (by have := hb6.size; rw [World.size_alloc] at this; exact this); clear hb6 x0 x1 x2 hc hc9; cases q)
            | (go_at_call 11; refine hc.mono ?_; rintro e W5 ⟨s5, rfl, hA5, hb5⟩; obtain ⟨pa, pc, rfl, _, _⟩ := hA5.slice; obtain ⟨x0, x1, x2⟩ := tbox_cells W5 x (.slice pa x.args.length pc); have HV5 : Hid (BhI w s r _ _ t _ (W5.alloc (tbox x (.slice pa x.args.length pc)))) := HX3.out.keep (hb5.trans ((below_box W5 _).mono hb5.size)); have HA5 : Hid (ArgsAt (W5.alloc (tbox x (.slice pa x.args.length pc))) (.slice pa x.args.length pc) x.args) := ArgsAt.keep (below_box W5 _) (Nat.le_refl _) hA5; have hc9 := light_any r x (.slice a' r.length c') (.slice pa x.args.length pc) (W5.alloc (tbox x (.slice pa x.args.length pc))) HV5.out.br HA5.out; clear hA5 hb5))
          · go_wp2_with (go_at_call 10; refine (alive_any _).mono ?_; rintro e W7 ⟨rfl, hb7⟩)
            go_ret
            exact ⟨rfl, HW6.out.1.bel.trans (hb7.mono HW6.out.1.bel.size)⟩
          · obtain ⟨g, hg, h16⟩ := compose_some s r HZ.out.1 HZ.out.2 (by omega) (by omega)
            have HG : Hid _ := hg
            have H16 : Hid _ := h16
            clear hg h16
            have hc := H11b.out _ _ _ HW6.out.1.br HW6.out.2
            obtain ⟨z0, z1, z2⟩ := HW6.out.1.tb
            rcases HY.out with hf2 | ⟨rfl, hR, hXr, hX0, hfit2, hy⟩
            · have hd : (f2 != 0) = true := by rw [bne_iff_ne]; exact hf2
              clear hf2
              go_wp2_with (first
                  | (go_at_call 16; refine hc16.mono ?_; rintro e W8 ⟨v8, cc, rfl, hB8, hg8, hb8⟩; obtain ⟨qa, qc, rfl⟩ := hB8.slice; have HW8 : Hid (BhI w s r _ _ t _ W8 ∧ ArgsAt W8 (.slice ea y.args.length ec) y.args ∧ W7.heap.size < W8.heap.size ∧ BindsAt W8 (.slice qa cc.length qc) cc ∧ (g = 0 → cc.Perm (joined s r) ∧ Rising cc)) := ⟨HV7.out.keep hb8, ArgsAt.keep hb8 (Nat.le_refl _) HA7.out, (by have := hb8.size; rw [World.size_alloc] at this; exact this), hB8, hg8⟩; have r0 := kc hb8 (by simp) p0; have r1 := kc hb8 (by simp) p1; have r2 := kc hb8 (by simp) p2; clear hb8 hB8 hg8 hc16)
                  | (go_at_call 11; refine hc.mono ?_; rintro e W7 ⟨s7, rfl, hA7, hb7⟩; obtain ⟨ea, ec, rfl, _, _⟩ := hA7.slice; obtain ⟨p0, p1, p2⟩ := tbox_cells W7 y (.slice ea y.args.length ec); have HV7 : Hid (BhI w s r _ _ t _ (W7.alloc (tbox y (.slice ea y.args.length ec)))) := HW6.out.1.keep (hb7.trans ((below_box W7 _).mono hb7.size)); have HA7 : Hid (ArgsAt (W7.alloc (tbox y (.slice ea y.args.length ec))) (.slice ea y.args.length ec) y.args) := ArgsAt.keep (below_box W7 _) (Nat.le_refl _) hA7; have hc16 := H16.out _ _ _ HV7.out.bs HV7.out.br; clear hA7 hb7 hc)
                  | (go_at_call 10; refine (alive_any _).mono ?_; rintro e W9 ⟨rfl, hb9⟩))
              go_ret
              exact ⟨rfl, HW8.out.1.bel.trans (hb9.mono HW8.out.1.bel.size)⟩
            · rcases HG.out with hg | ⟨rfl, hS, _, hfit⟩
              · have hd : (g != 0) = true := by rw [bne_iff_ne]; exact hg
                clear hg hR hXr hX0 hfit2 hy
                go_wp2_with (first
                  | (go_at_call 16; refine hc16.mono ?_; rintro e W8 ⟨v8, cc, rfl, hB8, hg8, hb8⟩; obtain ⟨qa, qc, rfl⟩ := hB8.slice; have HW8 : Hid (BhI w s r _ _ t _ W8 ∧ ArgsAt W8 (.slice ea y.args.length ec) y.args ∧ W7.heap.size < W8.heap.size ∧ BindsAt W8 (.slice qa cc.length qc) cc ∧ (g = 0 → cc.Perm (joined s r) ∧ Rising cc)) := ⟨HV7.out.keep hb8, ArgsAt.keep hb8 (Nat.le_refl _) HA7.out, (by have := hb8.size; rw [World.size_alloc] at this; exact this), hB8, hg8⟩; have r0 := kc hb8 (by simp) p0; have r1 := kc hb8 (by simp) p1; have r2 := kc hb8 (by simp) p2; clear hb8 hB8 hg8 hc16)
                  | (go_at_call 11; refine hc.mono ?_; rintro e W7 ⟨s7, rfl, hA7, hb7⟩; obtain ⟨ea, ec, rfl, _, _⟩ := hA7.slice; obtain ⟨p0, p1, p2⟩ := tbox_cells W7 y (.slice ea y.args.length ec); have HV7 : Hid (BhI w s r _ _ t _ (W7.alloc (tbox y (.slice ea y.args.length ec)))) := HW6.out.1.keep (hb7.trans ((below_box W7 _).mono hb7.size)); have HA7 : Hid (ArgsAt (W7.alloc (tbox y (.slice ea y.args.length ec))) (.slice ea y.args.length ec) y.args) := ArgsAt.keep (below_box W7 _) (Nat.le_refl _) hA7; have hc16 := H16.out _ _ _ HV7.out.bs HV7.out.br; clear hA7 hb7 hc)
                  | (go_at_call 10; refine (alive_any _).mono ?_; rintro e W9 ⟨rfl, hb9⟩))
                go_ret
                exact ⟨rfl, HW8.out.1.bel.trans (hb9.mono HW8.out.1.bel.size)⟩
              · have HF : Hid (Sb r ∧ fitsW (x.app (img r)) = 0 ∧ y = x.app (img r) ∧ ∀ x ∈ s, fitsW (x.2.app (img r)) = 0) := ⟨hR, hfit2, hy, hfit⟩
                clear hS hfit hR hXr hX0 hfit2 hy
                go_wp2_with (first
                  | (go_at_call 16; refine hc16.mono ?_; rintro e W8 ⟨v8, cc, rfl, hB8, hg8, hb8⟩; obtain ⟨qa, qc, rfl⟩ := hB8.slice; have HW8 : Hid (BhI w s r _ _ t _ W8 ∧ ArgsAt W8 (.slice ea y.args.length ec) y.args ∧ W7.heap.size < W8.heap.size ∧ BindsAt W8 (.slice qa cc.length qc) cc ∧ (True → cc.Perm (joined s r) ∧ Rising cc)) := ⟨HV7.out.keep hb8, ArgsAt.keep hb8 (Nat.le_refl _) HA7.out, (by have := hb8.size; rw [World.size_alloc] at this; exact this), hB8, fun _ => (by first | exact hg8 rfl | exact hg8 trivial | exact hg8)⟩; have r0 := kc hb8 (by simp) p0; have r1 := kc hb8 (by simp) p1; have r2 := kc hb8 (by simp) p2; clear hb8 hB8 hg8 hc16; obtain ⟨q0, q1, q2⟩ := HW8.out.1.tb)
                  | (go_at_call 11; refine hc.mono ?_; rintro e W7 ⟨s7, rfl, hA7, hb7⟩; obtain ⟨ea, ec, rfl, _, _⟩ := hA7.slice; obtain ⟨p0, p1, p2⟩ := tbox_cells W7 y (.slice ea y.args.length ec); have HV7 : Hid (BhI w s r _ _ t _ (W7.alloc (tbox y (.slice ea y.args.length ec)))) := HW6.out.1.keep (hb7.trans ((below_box W7 _).mono hb7.size)); have HA7 : Hid (ArgsAt (W7.alloc (tbox y (.slice ea y.args.length ec))) (.slice ea y.args.length ec) y.args) := ArgsAt.keep (below_box W7 _) (Nat.le_refl _) hA7; have hc16 := H16.out _ _ _ HV7.out.bs HV7.out.br; clear hA7 hb7 hc))
                obtain ⟨hI8, hA8, hl8, hB8, hp8⟩ := HW8.out
                obtain ⟨hperm, hris⟩ := hp8 trivial
                have hm : ∀ y, y ∈ cc ↔ y ∈ joined s r := fun y => hperm.mem_iff
                have hccl : cc.length ≤ 4000 := by
                  rw [hperm.length_eq]
                  unfold joined
                  rw [List.length_append, List.length_map, List.length_map]
                  have := List.length_filter_le (lastB r) s
                  have := List.length_filter_le (fun x => !boundB s x.1) r
                  omega
                have hSc : Sb cc := comp_sub HM.out.1 HF.out.1 HF.out.2.2.2 hris hm hccl
                have himg : img cc = fun n => (img s n).app (img r) := funext fun n => img_comp HM.out.1.sub HF.out.1.sub hris hm n
                have hty : t.app (img cc) = y := by rw [himg, ← app_app, HXE.out, HF.out.2.2.1]
                have hc11 := apply_ok cc hSc t HM.out.2.1 HM.out.2.2.1 (by rw [hty, HF.out.2.2.1]; exact HF.out.2.1) _ _ W8 hB8 hI8.ta
                rw [hty] at hc11
                have h15 : ∀ X s5 s6, ArgsAt X s5 y.args → ArgsAt X s6 y.args → Calls Try.prog 15 #[tval y s5, tval y s6] X fun e X' => e = .returned (.bool true) ∧ Below X.heap.size X X' := fun X s5 s6 h5 h6 => (rsame_any y y s5 s6 X h5 h6).mono fun e X' ⟨he, h⟩ => ⟨by rw [he, same_iff.2 rfl], h⟩
                have H15 : Hid (∀ X s5 s6, ArgsAt X s5 y.args → ArgsAt X s6 y.args → Calls Try.prog 15 #[tval y s5, tval y s6] X fun e X' => e = .returned (.bool true) ∧ Below X.heap.size X X') := h15
                have HK : Hid (ArgsAt W8 (.slice ea y.args.length ec) y.args ∧ W7.heap.size < W8.heap.size ∧ Below w.heap.size w W8) := ⟨hA8, hl8, hI8.bel⟩
                clear hm hSc himg hty hperm hris hccl hp8 hI8 hA8 hl8 hB8 h15
                go_wp2_with (first
                  | (go_at_call 15; refine hc15.mono ?_; rintro e W10 ⟨rfl, hb10⟩)
                  | (go_at_call 11; refine hc11.mono ?_; rintro e W9 ⟨s9, rfl, hA9, hb9⟩; obtain ⟨fa, fc, rfl, _, _⟩ := hA9.slice; have hb9' : Below W8.heap.size W8 (W9.alloc (tbox y (.slice fa y.args.length fc))) := hb9.trans ((below_box W9 _).mono hb9.size); have n0 := kc hb9' HK.out.2.1 r0; have n1 := kc hb9' HK.out.2.1 r1; have n2 := kc hb9' HK.out.2.1 r2; obtain ⟨m0, m1, m2⟩ := tbox_cells W9 y (.slice fa y.args.length fc); have HB9 : Hid (Below w.heap.size w (W9.alloc (tbox y (.slice fa y.args.length fc)))) := HK.out.2.2.trans (hb9'.mono HK.out.2.2.size); have hc15 := H15.out _ _ _ (ArgsAt.keep hb9' (Nat.le_refl _) HK.out.1) (ArgsAt.keep (below_box W9 _) (Nat.le_refl _) hA9); clear hA9 hb9 hb9' hc11 r0 r1 r2 q0 q1 q2)
                  | (go_at_call 10; refine (alive_any _).mono ?_; rintro e W11 ⟨rfl, hb11⟩))
                go_ret
                exact ⟨rfl, HB9.out.trans ((hb10.mono HB9.out.size).trans (hb11.mono (Nat.le_trans HB9.out.size hb10.size)))⟩

end Go.Proofs.Ythinbkpjggihdaa
