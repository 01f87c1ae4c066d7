/-
  The document's weight, count, Symbol, Weight.
-/
import Derived.Test.YtcnodgjalkcgiaaKS
namespace Go.Proofs.Ytcnodgjalkcgiaa
open Go.RowKit Go.Maps

theorem hv_pl (g : Sg) (x : ByteArray) : (g.pl x < 0 → g.hv x = 1) ∧ ∀ i : Nat, g.pl x = i → (g.ws.length ≤ i → g.hv x = 1) ∧ ∀ h : i < g.ws.length, g.hv x = if 1 ≤ g.ws[i] ∧ g.ws[i] ≤ 1000 then g.ws[i] else 1 := by
  unfold Sg.pl Sg.hv
  cases h : g.ix x with
  | none => exact ⟨fun _ => rfl, fun i hi => by simp at hi⟩
  | some j =>
    simp only
    refine ⟨fun hi => by omega, fun i hi => ?_⟩
    have e : j = i := by omega
    subst e
    refine ⟨fun hl => ?_, fun hl => ?_⟩
    · rw [List.getElem?_eq_none hl]
    · rw [List.getElem?_eq_getElem hl]

theorem wt_le (g : Sg) (t : T) : t.wt g ≤ 1000 * t.size := by
  induction t using T.ind with
  | _ t ih =>
    rw [t.wt_eq, t.size_eq]
    have h := (self_rng g t.fn).2
    have : ∀ l : List T, (∀ a ∈ l, a ∈ t.args) → (l.map (T.wt g)).sum ≤ 1000 * (l.map T.size).sum := by
      intro l
      induction l with
      | nil => intro _; simp
      | cons a r ihl =>
        intro hl
        have h1 := ih a (hl a (by simp))
        have h2 := ihl (fun b hb => hl b (by simp [hb]))
        simp only [List.map_cons, List.sum_cons]
        omega
    have := this t.args (fun _ h => h)
    omega

theorem wrapK (x : Int) : IntKind.i64.wrap x = wrap64 x := by
  first | rfl | (rw [IntKind.wrap_i64]; simp only [wrap64]; done) | (rw [IntKind.wrap_i64]; simp only [wrap64]; omega)

theorem wt_step (f : T → Int) (h0 : Int) (l : List T) (k : Nat) (h : k < l.length) : wrap64 (wrap64 (h0 + upto f l k) + wrap64 (f l[k])) = wrap64 (h0 + upto f l (k + 1)) := by
  rw [wrap64_add, upto_succ f l k h, Int.add_assoc]

theorem start_eq {g : Sg} {fn : ByteArray} {v : Int} (h : g.self fn = v) (f : T → Int) (l : List T) : Value.int .i64 v = .int .i64 (wrap64 (g.self fn + upto f l 0)) := by
  have hr := self_rng g fn
  rw [upto_zero, Int.add_zero, wrap_small (by omega) (by omega), h]

/-- The boxes of a signature and a term, in a world behind. -/
structure Duo (w : World) (vn vw : Value) (x : T) (sx : Value) (X : World) : Prop where
  g0 : X.cell? ⟨w.heap.size, 0, none⟩ = some vn
  g1 : X.cell? ⟨w.heap.size, 1, none⟩ = some vw
  a0 : X.cell? ⟨w.heap.size + 1, 0, none⟩ = some (.int .i64 x.v)
  a1 : X.cell? ⟨w.heap.size + 1, 1, none⟩ = some (.string x.fn)
  a2 : X.cell? ⟨w.heap.size + 1, 2, none⟩ = some sx
  bel : Below w.heap.size w X
  siz : w.heap.size + 2 ≤ X.heap.size
theorem Duo.keep {w : World} {vn vw : Value} {x : T} {sx : Value} {X X' : World} (h : Duo w vn vw x sx X) (hb : Below X.heap.size X X') : Duo w vn vw x sx X' := by
  have hs := h.siz
  exact ⟨kc hb (by omega) h.g0, kc hb (by omega) h.g1, kc hb (by omega) h.a0, kc hb (by omega) h.a1, kc hb (by omega) h.a2, h.bel.trans (hb.mono h.bel.size), Nat.le_trans hs hb.size⟩
theorem duo_made (w : World) (vn vw : Value) (ty : TypeId) (x : T) (sx : Value) : Duo w vn vw x sx ((w.alloc (.cells #[vn, vw] ty)).alloc (tbox x sx)) := by
  obtain ⟨c0, c1⟩ := box2_cells w vn vw ty
  have hb := below_box w (.cells #[vn, vw] ty)
  obtain ⟨t0, t1, t2⟩ := tbox_cells (w.alloc (.cells #[vn, vw] ty)) x sx
  have hb2 := below_box (w.alloc (.cells #[vn, vw] ty)) (tbox x sx)
  rw [World.size_alloc] at t0 t1 t2
  exact ⟨kc hb2 (by simp) c0, kc hb2 (by simp) c1, t0, t1, t2, hb.trans (hb2.mono (by simp)), by simp⟩

set_option maxRecDepth 100000 in
set_option maxHeartbeats 8000000 in
theorem rweight_any (g : Sg) (t : T) : ∀ (vn vw sl : Value) (w : World), SgAt w g vn vw → ArgsAt w sl t.args →
    Calls Try.prog 37 #[gval vn vw, tval t sl] w fun e w' => e = .returned (.int .i64 (wrap64 (t.wt g))) ∧ Below w.heap.size w w' := by
  induction t using T.ind with
  | _ t ih =>
    intro vn vw sl w hg ha
    obtain ⟨an, cn, rfl, _, _⟩ := hg.ns.slice
    obtain ⟨aw, cw, rfl, _, _⟩ := hg.ws.slice
    obtain ⟨a, c, rfl, hc, hm⟩ := ha.slice
    have HS : Hid (t.wt g = g.self t.fn + (t.args.map (T.wt g)).sum) := t.wt_eq g
    have hT := duo_made w (.slice an g.ns.length cn) (.slice aw g.ws.length cw) 25 t (.slice a t.args.length c)
    have hC : ∀ X, Duo w (.slice an g.ns.length cn) (.slice aw g.ws.length cw) t (.slice a t.args.length c) X → (X.cell? ⟨w.heap.size, 0, none⟩ = some (.slice an g.ns.length cn) ∧ X.cell? ⟨w.heap.size, 1, none⟩ = some (.slice aw g.ws.length cw)) ∧ X.cell? ⟨w.heap.size + 1, 0, none⟩ = some (.int .i64 t.v) ∧ X.cell? ⟨w.heap.size + 1, 1, none⟩ = some (.string t.fn) ∧ X.cell? ⟨w.heap.size + 1, 2, none⟩ = some (.slice a t.args.length c) := fun X h => ⟨⟨h.g0, h.g1⟩, h.a0, h.a1, h.a2⟩
    have hat := rat_any g t.fn _ _ _ (hg.keep hT.bel (Nat.le_refl _))
    have HG : Hid (SgAt w g (.slice an g.ns.length cn) (.slice aw g.ws.length cw) ∧ ArgsAt w (.slice a t.args.length c) t.args ∧ ∀ a ∈ t.args, ∀ (vn vw sl : Value) (w : World), SgAt w g vn vw → ArgsAt w sl a.args → Calls Try.prog 37 #[gval vn vw, tval a sl] w fun e w' => e = .returned (.int .i64 (wrap64 (a.wt g))) ∧ Below w.heap.size w w') := ⟨hg, ha, ih⟩
    have hr := plL_rng g.ns t.fn
    rw [← pl_eq] at hr
    have hp := hv_pl g t.fn
    have hself : g.self t.fn = if t.fn.size = 0 then 1 else g.hv t.fn := rfl
    obtain ⟨⟨i0, i1⟩, i2, i3, i4⟩ := hC _ hT
    have hcase : (t.fn.size = 0 ∧ g.self t.fn = 1) ∨ (t.fn.size ≠ 0 ∧ g.pl t.fn < 0 ∧ g.self t.fn = 1) ∨ (∃ i : Nat, t.fn.size ≠ 0 ∧ g.pl t.fn = i ∧ g.ws.length ≤ i ∧ g.self t.fn = 1) ∨ (∃ i : Nat, ∃ h : i < g.ws.length, t.fn.size ≠ 0 ∧ g.pl t.fn = i ∧ g.self t.fn = if 1 ≤ g.ws[i] ∧ g.ws[i] ≤ 1000 then g.ws[i] else 1) := by
      by_cases h0 : t.fn.size = 0
      · exact .inl ⟨h0, by rw [hself, if_pos h0]⟩
      · rw [if_neg h0] at hself
        by_cases h1 : g.pl t.fn < 0
        · exact .inr (.inl ⟨h0, h1, by rw [hself]; exact hp.1 h1⟩)
        · obtain ⟨i, hi⟩ := Int.eq_ofNat_of_zero_le (show 0 ≤ g.pl t.fn by omega)
          by_cases h2 : g.ws.length ≤ i
          · exact .inr (.inr (.inl ⟨i, h0, hi, h2, by rw [hself]; exact (hp.2 i hi).1 h2⟩))
          · exact .inr (.inr (.inr ⟨i, by omega, h0, hi, by rw [hself]; exact (hp.2 i hi).2 (by omega)⟩))
    clear hp hself hr hg ha ih
    have hemp := ba_isEmpty t.fn
    rcases hcase with ⟨h0, hv⟩ | ⟨h0, h1, hv⟩ | ⟨i, h0, h1, h2, hv⟩ | ⟨i, h2, h0, h1, hv⟩
    case' inl =>
      rw [decide_eq_true h0] at hemp
      have HH : Hid (g.self t.fn = 1) := hv
      clear hv h0
    case' inr.inl =>
      rw [decide_eq_false h0] at hemp
      have HH : Hid (g.self t.fn = 1) := hv
      have e1 : decide (0 ≤ g.pl t.fn) = false := decide_eq_false (by omega)
      have e2 : ¬ 0 ≤ g.pl t.fn := by omega
      clear hv h0 h1
    case' inr.inr.inl =>
      rw [decide_eq_false h0] at hemp
      have HH : Hid (g.self t.fn = 1) := hv
      rw [h1] at hat
      have e1 : decide ((0 : Int) ≤ (i : Int)) = true := decide_eq_true (by omega)
      have e2 : decide ((i : Int) < (g.ws.length : Int)) = false := decide_eq_false (by omega)
      have e3 : ¬ i < g.ws.length := by omega
      clear hv h0 h1
    case' inr.inr.inr =>
      rw [decide_eq_false h0] at hemp
      rw [h1] at hat
      have e1 : decide ((0 : Int) ≤ (i : Int)) = true := decide_eq_true (by omega)
      have e2 : decide ((i : Int) < (g.ws.length : Int)) = true := decide_eq_true (by omega)
      have e3 : (0 : Int) ≤ (i : Int) := by omega
      have e4 : (i : Int) < (g.ws.length : Int) := by omega
      obtain ⟨bw, ow, rfl, hbw, hcw⟩ := HG.out.1.ws.nth h2
      have HH0 : g.self t.fn = if 1 ≤ g.ws[i] ∧ g.ws[i] ≤ 1000 then g.ws[i] else 1 := hv
      obtain ⟨y, hy⟩ : ∃ y, g.ws[i] = y := ⟨_, rfl⟩
      rw [hy] at hcw HH0
      clear hv h0 h1 hy
      have hcs : (y < 1 ∧ g.self t.fn = 1) ∨ (1 ≤ y ∧ 1000 < y ∧ g.self t.fn = 1) ∨ (1 ≤ y ∧ y ≤ 1000 ∧ g.self t.fn = y) := by
        by_cases q1 : 1 ≤ y
        · by_cases q2 : y ≤ 1000
          · exact .inr (.inr ⟨q1, q2, by rw [HH0, if_pos ⟨q1, q2⟩]⟩)
          · exact .inr (.inl ⟨q1, by omega, by rw [HH0, if_neg (by omega)]⟩)
        · exact .inl ⟨by omega, by rw [HH0, if_neg (by omega)]⟩
      clear HH0
      rcases hcs with ⟨q1, hv⟩ | ⟨q1, q2, hv⟩ | ⟨q1, q2, hv⟩
    case' inr.inr.inr.inl =>
      have HH : Hid (g.self t.fn = 1) := hv
      have e5 : decide (1 ≤ y) = false := decide_eq_false (by omega)
      have e6 : ¬ 1 ≤ y := by omega
      clear hv
    case' inr.inr.inr.inr.inl =>
      have HH : Hid (g.self t.fn = 1) := hv
      have e5 : decide (1 ≤ y) = true := decide_eq_true (by omega)
      have e6 : decide (y ≤ 1000) = false := decide_eq_false (by omega)
      have e7 : ¬ y ≤ 1000 := by omega
      clear hv
    case' inr.inr.inr.inr.inr =>
      have HH : Hid (g.self t.fn = y) := hv
      have e5 : decide (1 ≤ y) = true := decide_eq_true (by omega)
      have e6 : decide (y ≤ 1000) = true := decide_eq_true (by omega)
      clear hv
    all_goals (
      go_enter Try.func37, Try.ntmps37
      go_wp2_with fail
      refine hat.mono ?_
      rintro e W2 ⟨rfl, hb2⟩
      have hT2 := hT.keep hb2
      obtain ⟨⟨j0, j1⟩, j2, j3, j4⟩ := hC _ hT2
      clear hat hb2 i0 i1 i2 i3 i4
      try have hcw2 := kc hT2.bel hbw hcw)
    all_goals (
      have HT2 : Hid (Duo w (.slice an g.ns.length cn) _ t (.slice a t.args.length c) W2) := hT2
      clear hT2
      go_wp2
      go_loopw [5, 7] (fun n i wr => ∃ k : Nat, k ≤ t.args.length ∧ i = .int .i64 k ∧ n = .int .i64 (wrap64 (g.self t.fn + upto (T.wt g) t.args k)) ∧ Hid (Duo w (.slice an g.ns.length cn) _ t (.slice a t.args.length c) wr)) (fun _ i _ => t.args.length - (intOf i).toNat)
      case atStart => exact ⟨0, Nat.zero_le _, rfl, start_eq HH.out _ _, HT2⟩
      case round =>
        obtain ⟨k, hk, rfl, rfl, HR⟩ := hrel
        have hRd := HR.out.keep (Below.refl _ wr).drew
        by_cases hlt : k < t.args.length
        · obtain ⟨b, o, s, rfl, hbl, c0, c1, c2, hs⟩ := HG.out.2.1.nth hlt
          have d0 := kc hRd.bel hbl c0
          have d1 := kc hRd.bel hbl c1
          have d2 := kc hRd.bel hbl c2
          have hcall := HG.out.2.2 t.args[k] (List.getElem_mem hlt) _ _ s wr.drew (HG.out.1.keep hRd.bel (Nat.le_refl _)) (ArgsAt.keep hRd.bel (Nat.le_refl _) hs)
          have K1 := hC _ hRd
          have hS : ∀ X, Below wr.drew.heap.size wr.drew X → Duo w (.slice an g.ns.length cn) _ t (.slice (some ⟨b, o, none⟩) t.args.length c) X ∧ X.cell? ⟨b, o + k * 3, none⟩ = some (.int .i64 t.args[k].v) ∧ X.cell? ⟨b, o + k * 3 + 1, none⟩ = some (.string t.args[k].fn) ∧ X.cell? ⟨b, o + k * 3 + 2, none⟩ = some s := fun X hX => by
            have hl2 : b < wr.drew.heap.size := Nat.lt_of_lt_of_le hbl hRd.bel.size
            exact ⟨hRd.keep hX, kc hX hl2 d0, kc hX hl2 d1, kc hX hl2 d2⟩
          have HX : Hid (wrap64 (wrap64 (g.self t.fn + upto (T.wt g) t.args k) + wrap64 (T.wt g t.args[k])) = wrap64 (g.self t.fn + upto (T.wt g) t.args (k + 1))) := wt_step _ _ _ _ hlt
          obtain ⟨sa, sc, rfl, _⟩ := hs.slice
          obtain ⟨u, hu⟩ : ∃ u, t.args[k] = u := ⟨_, rfl⟩
          rw [hu] at hcall d0 d1 d2 hS HX
          obtain ⟨acc, hacc⟩ : ∃ q, wrap64 (g.self t.fn + upto (T.wt g) t.args k) = q := ⟨_, rfl⟩
          obtain ⟨wu, hwu⟩ : ∃ q, wrap64 (T.wt g u) = q := ⟨_, rfl⟩
          rw [hacc] at HX
          rw [hwu] at hcall HX
          rw [hacc]
          clear hacc hwu
          have hk1 : (0 : Int) ≤ (k : Int) := by omega
          have hk2 : (k : Int) < (t.args.length : Int) := by omega
          have hC2 : ∀ X, Below wr.drew.heap.size wr.drew X → (X.cell? ⟨w.heap.size, 0, none⟩ = some (.slice an g.ns.length cn) ∧ X.cell? ⟨w.heap.size, 1, none⟩ = some _ ∧ X.cell? ⟨w.heap.size + 1, 2, none⟩ = some (.slice (some ⟨b, o, none⟩) t.args.length c)) ∧ X.cell? ⟨b, o + k * 3, none⟩ = some (.int .i64 u.v) ∧ X.cell? ⟨b, o + k * 3 + 1, none⟩ = some (.string u.fn) ∧ X.cell? ⟨b, o + k * 3 + 2, none⟩ = some (.slice sa u.args.length sc) := fun X hX => ⟨⟨(hS X hX).1.g0, (hS X hX).1.g1, (hS X hX).1.a2⟩, (hS X hX).2⟩
          have K2 := hC2 _ (Below.refl _ _)
          have HS2 : Hid (∀ X, Below wr.drew.heap.size wr.drew X → Duo w (.slice an g.ns.length cn) _ t (.slice (some ⟨b, o, none⟩) t.args.length c) X) := fun X hX => (hS X hX).1
          obtain ⟨k0, k1⟩ := (hC _ HR.out).1
          obtain ⟨k2, k3, k4⟩ := (hC _ HR.out).2
          clear hu hs c0 c1 c2 hS K1 hRd d0 d1 d2
          go_wp2
          first
            | (go_region_held3 (fun X => (X.cell? ⟨w.heap.size, 0, none⟩ = some (.slice an g.ns.length cn) ∧ X.cell? ⟨w.heap.size, 1, none⟩ = some (.slice aw g.ws.length cw) ∧ X.cell? ⟨w.heap.size + 1, 2, none⟩ = some (.slice (some ⟨b, o, none⟩) t.args.length c)) ∧ X.cell? ⟨b, o + k * 3, none⟩ = some (.int .i64 u.v) ∧ X.cell? ⟨b, o + k * 3 + 1, none⟩ = some (.string u.fn) ∧ X.cell? ⟨b, o + k * 3 + 2, none⟩ = some (.slice sa u.args.length sc)) (first | exact K2 | exact K3) (first | (go_at_call 37; refine hcall.mono ?_; rintro e W3 ⟨rfl, hb3⟩; have K3 := hC2 _ hb3; have HN := HS2.out _ hb3; have HN2 : Hid (Duo w (.slice an g.ns.length cn) _ t (.slice (some ⟨b, o, none⟩) t.args.length c) W3) := HN; clear HN hb3)))
            | (go_region_held3 (fun X => (X.cell? ⟨w.heap.size, 0, none⟩ = some (.slice an g.ns.length cn) ∧ X.cell? ⟨w.heap.size, 1, none⟩ = some (.slice (some ⟨bw, ow, none⟩) g.ws.length cw) ∧ X.cell? ⟨w.heap.size + 1, 2, none⟩ = some (.slice (some ⟨b, o, none⟩) t.args.length c)) ∧ X.cell? ⟨b, o + k * 3, none⟩ = some (.int .i64 u.v) ∧ X.cell? ⟨b, o + k * 3 + 1, none⟩ = some (.string u.fn) ∧ X.cell? ⟨b, o + k * 3 + 2, none⟩ = some (.slice sa u.args.length sc)) (first | exact K2 | exact K3) (first | (go_at_call 37; refine hcall.mono ?_; rintro e W3 ⟨rfl, hb3⟩; have K3 := hC2 _ hb3; have HN := HS2.out _ hb3; have HN2 : Hid (Duo w (.slice an g.ns.length cn) _ t (.slice (some ⟨b, o, none⟩) t.args.length c) W3) := HN; clear HN hb3)))
          go_wp2
          go_roundw
          case rel => exact ⟨k + 1, by omega, by go_num, by rw [← HX.out, wrapK], HN2⟩
          case measure => simp [intOf]; omega
        · obtain ⟨⟨k0, k1⟩, k2, k3, k4⟩ := hC _ HR.out
          go_wp2
          go_ret
          exact ⟨ret_i64 (by rw [HS.out, upto_all _ _ _ (by omega)]), HR.out.bel⟩)

end Go.Proofs.Ytcnodgjalkcgiaa
