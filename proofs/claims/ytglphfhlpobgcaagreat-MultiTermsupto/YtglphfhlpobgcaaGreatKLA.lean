import Derived.Test.YtglphfhlpobgcaaGreatKR
import Derived.Test.YtglphfhlpobgcaaGreatMF
import Derived.Test.YtglphfhlpobgcaaGreatUC
import Derived.Test.YtglphfhlpobgcaaGreatKF

namespace Go.Proofs.YtglphfhlpobgcaaGreat
open Go.RowKit Go.Maps
theorem hv_pl (g : Sg) (x : ByteArray) : (g.pl x < 0 → g.hv x = 1) ∧ ∀ i : Nat, g.pl x = i → (g.ws.length ≤ i → g.hv x = 1) ∧ ∀ h : i < g.ws.length, g.hv x = if 1 ≤ g.ws[i] ∧ g.ws[i] ≤ 1000 then g.ws[i] else 1 := by
  unfold Sg.pl Sg.hv
  cases h : g.ix x with
  | none => exact ⟨fun _ => rfl, fun i hi => by simp at hi⟩
  | some j =>
    simp only
    refine ⟨fun hi => by omega, fun i hi => ?_⟩
    have e : j = i := by omega
    subst e
    refine ⟨fun hl => ?_, fun hl => ?_⟩
    · rw [List.getElem?_eq_none hl]
    · rw [List.getElem?_eq_getElem hl]
theorem wt_le (g : Sg) (t : T) : t.wt g ≤ 1000 * t.size := by
  induction t using T.ind with
  | _ t ih =>
    rw [t.wt_eq, t.size_eq]
    have h := (self_rng g t.fn).2
    have : ∀ l : List T, (∀ a ∈ l, a ∈ t.args) → (l.map (T.wt g)).sum ≤ 1000 * (l.map T.size).sum := by
      intro l
      induction l with
      | nil => intro _; simp
      | cons a r ihl =>
        intro hl
        have h1 := ih a (hl a (by simp))
        have h2 := ihl (fun b hb => hl b (by simp [hb]))
        simp only [List.map_cons, List.sum_cons]
        omega
    have := this t.args (fun _ h => h)
    omega
theorem wt_step (f : T → Int) (h0 : Int) (l : List T) (k : Nat) (h : k < l.length) : wrap64 (wrap64 (h0 + upto f l k) + wrap64 (f l[k])) = wrap64 (h0 + upto f l (k + 1)) := by
  rw [wrap64_add, upto_succ f l k h, Int.add_assoc]
theorem start_eq {g : Sg} {fn : ByteArray} {v : Int} (h : g.self fn = v) (f : T → Int) (l : List T) : Value.int .i64 v = .int .i64 (wrap64 (g.self fn + upto f l 0)) := by
  have hr := self_rng g fn
  rw [upto_zero, Int.add_zero, wrap_small (by omega) (by omega), h]
structure Duo (w : World) (vn vw : Value) (x : T) (sx : Value) (X : World) : Prop where
  g0 : X.cell? ⟨w.heap.size, 0, none⟩ = some vn
  g1 : X.cell? ⟨w.heap.size, 1, none⟩ = some vw
  a0 : X.cell? ⟨w.heap.size + 1, 0, none⟩ = some (.int .i64 x.v)
  a1 : X.cell? ⟨w.heap.size + 1, 1, none⟩ = some (.string x.fn)
  a2 : X.cell? ⟨w.heap.size + 1, 2, none⟩ = some sx
  bel : Below w.heap.size w X
  siz : w.heap.size + 2 ≤ X.heap.size
theorem Duo.keep {w : World} {vn vw : Value} {x : T} {sx : Value} {X X' : World} (h : Duo w vn vw x sx X) (hb : Below X.heap.size X X') : Duo w vn vw x sx X' := by
  have hs := h.siz
  exact ⟨kc hb (by omega) h.g0, kc hb (by omega) h.g1, kc hb (by omega) h.a0, kc hb (by omega) h.a1, kc hb (by omega) h.a2, h.bel.trans (hb.mono h.bel.size), Nat.le_trans hs hb.size⟩
theorem duo_made (w : World) (vn vw : Value) (ty : TypeId) (x : T) (sx : Value) : Duo w vn vw x sx ((w.alloc (.cells #[vn, vw] ty)).alloc (tbox x sx)) := by
  obtain ⟨c0, c1⟩ := box2_cells w vn vw ty
  have hb := below_box w (.cells #[vn, vw] ty)
  obtain ⟨t0, t1, t2⟩ := tbox_cells (w.alloc (.cells #[vn, vw] ty)) x sx
  have hb2 := below_box (w.alloc (.cells #[vn, vw] ty)) (tbox x sx)
  rw [World.size_alloc] at t0 t1 t2
  exact ⟨kc hb2 (by simp) c0, kc hb2 (by simp) c1, t0, t1, t2, hb.trans (hb2.mono (by simp)), by simp⟩
set_option maxRecDepth 100000 in
set_option maxHeartbeats 8000000 in
theorem rweight_any (g : Sg) (t : T) : ∀ (vn vw sl : Value) (w : World), SgAt w g vn vw → ArgsAt w sl t.args →
    Calls Tryz.prog 97 #[gval vn vw, tval t sl] w fun e w' => e = .returned (.int .i64 (wrap64 (t.wt g))) ∧ Below w.heap.size w w' := by
  induction t using T.ind with
  | _ t ih =>
    intro vn vw sl w hg ha
    obtain ⟨an, cn, rfl, _, _⟩ := hg.ns.slice
    obtain ⟨aw, cw, rfl, _, _⟩ := hg.ws.slice
    obtain ⟨a, c, rfl, hc, hm⟩ := ha.slice
    have HS : Hid (t.wt g = g.self t.fn + (t.args.map (T.wt g)).sum) := t.wt_eq g
    have hT := duo_made w (.slice an g.ns.length cn) (.slice aw g.ws.length cw) 25 t (.slice a t.args.length c)
    have hC : ∀ X, Duo w (.slice an g.ns.length cn) (.slice aw g.ws.length cw) t (.slice a t.args.length c) X → (X.cell? ⟨w.heap.size, 0, none⟩ = some (.slice an g.ns.length cn) ∧ X.cell? ⟨w.heap.size, 1, none⟩ = some (.slice aw g.ws.length cw)) ∧ X.cell? ⟨w.heap.size + 1, 0, none⟩ = some (.int .i64 t.v) ∧ X.cell? ⟨w.heap.size + 1, 1, none⟩ = some (.string t.fn) ∧ X.cell? ⟨w.heap.size + 1, 2, none⟩ = some (.slice a t.args.length c) := fun X h => ⟨⟨h.g0, h.g1⟩, h.a0, h.a1, h.a2⟩
    have hat := rat_any g t.fn _ _ _ (hg.keep hT.bel (Nat.le_refl _))
    have HG : Hid (SgAt w g (.slice an g.ns.length cn) (.slice aw g.ws.length cw) ∧ ArgsAt w (.slice a t.args.length c) t.args ∧ ∀ a ∈ t.args, ∀ (vn vw sl : Value) (w : World), SgAt w g vn vw → ArgsAt w sl a.args → Calls Tryz.prog 97 #[gval vn vw, tval a sl] w fun e w' => e = .returned (.int .i64 (wrap64 (a.wt g))) ∧ Below w.heap.size w w') := ⟨hg, ha, ih⟩
    have hr := plL_rng g.ns t.fn
    rw [← pl_eq] at hr
    have hp := hv_pl g t.fn
    have hself : g.self t.fn = if t.fn.size = 0 then 1 else g.hv t.fn := rfl
    obtain ⟨⟨i0, i1⟩, i2, i3, i4⟩ := hC _ hT
    have hcase : (t.fn.size = 0 ∧ g.self t.fn = 1) ∨ (t.fn.size ≠ 0 ∧ g.pl t.fn < 0 ∧ g.self t.fn = 1) ∨ (∃ i : Nat, t.fn.size ≠ 0 ∧ g.pl t.fn = i ∧ g.ws.length ≤ i ∧ g.self t.fn = 1) ∨ (∃ i : Nat, ∃ h : i < g.ws.length, t.fn.size ≠ 0 ∧ g.pl t.fn = i ∧ g.self t.fn = if 1 ≤ g.ws[i] ∧ g.ws[i] ≤ 1000 then g.ws[i] else 1) := by
      by_cases h0 : t.fn.size = 0
      · exact .inl ⟨h0, by rw [hself, if_pos h0]⟩
      · rw [if_neg h0] at hself
        by_cases h1 : g.pl t.fn < 0
        · exact .inr (.inl ⟨h0, h1, by rw [hself]; exact hp.1 h1⟩)
        · obtain ⟨i, hi⟩ := Int.eq_ofNat_of_zero_le (show 0 ≤ g.pl t.fn by omega)
          by_cases h2 : g.ws.length ≤ i
          · exact .inr (.inr (.inl ⟨i, h0, hi, h2, by rw [hself]; exact (hp.2 i hi).1 h2⟩))
          · exact .inr (.inr (.inr ⟨i, by omega, h0, hi, by rw [hself]; exact (hp.2 i hi).2 (by omega)⟩))
    clear hp hself hr hg ha ih
    have hemp := ba_isEmpty t.fn
    rcases hcase with ⟨h0, hv⟩ | ⟨h0, h1, hv⟩ | ⟨i, h0, h1, h2, hv⟩ | ⟨i, h2, h0, h1, hv⟩
    case' inl =>
      rw [decide_eq_true h0] at hemp
      have HH : Hid (g.self t.fn = 1) := hv
      clear hv h0
    case' inr.inl =>
      rw [decide_eq_false h0] at hemp
      have HH : Hid (g.self t.fn = 1) := hv
      have e1 : decide (0 ≤ g.pl t.fn) = false := decide_eq_false (by omega)
      have e2 : ¬ 0 ≤ g.pl t.fn := by omega
      clear hv h0 h1
    case' inr.inr.inl =>
      rw [decide_eq_false h0] at hemp
      have HH : Hid (g.self t.fn = 1) := hv
      rw [h1] at hat
      have e1 : decide ((0 : Int) ≤ (i : Int)) = true := decide_eq_true (by omega)
      have e2 : decide ((i : Int) < (g.ws.length : Int)) = false := decide_eq_false (by omega)
      have e3 : ¬ i < g.ws.length := by omega
      clear hv h0 h1
    case' inr.inr.inr =>
      rw [decide_eq_false h0] at hemp
      rw [h1] at hat
      have e1 : decide ((0 : Int) ≤ (i : Int)) = true := decide_eq_true (by omega)
      have e2 : decide ((i : Int) < (g.ws.length : Int)) = true := decide_eq_true (by omega)
      have e3 : (0 : Int) ≤ (i : Int) := by omega
      have e4 : (i : Int) < (g.ws.length : Int) := by omega
      obtain ⟨bw, ow, rfl, hbw, hcw⟩ := HG.out.1.ws.nth h2
      have HH0 : g.self t.fn = if 1 ≤ g.ws[i] ∧ g.ws[i] ≤ 1000 then g.ws[i] else 1 := hv
      obtain ⟨y, hy⟩ : ∃ y, g.ws[i] = y := ⟨_, rfl⟩
      rw [hy] at hcw HH0
      clear hv h0 h1 hy
      have hcs : (y < 1 ∧ g.self t.fn = 1) ∨ (1 ≤ y ∧ 1000 < y ∧ g.self t.fn = 1) ∨ (1 ≤ y ∧ y ≤ 1000 ∧ g.self t.fn = y) := by
        by_cases q1 : 1 ≤ y
        · by_cases q2 : y ≤ 1000
          · exact .inr (.inr ⟨q1, q2, by rw [HH0, if_pos ⟨q1, q2⟩]⟩)
          · exact .inr (.inl ⟨q1, by omega, by rw [HH0, if_neg (by omega)]⟩)
        · exact .inl ⟨by omega, by rw [HH0, if_neg (by omega)]⟩
      clear HH0
      rcases hcs with ⟨q1, hv⟩ | ⟨q1, q2, hv⟩ | ⟨q1, q2, hv⟩
    case' inr.inr.inr.inl =>
      have HH : Hid (g.self t.fn = 1) := hv
      have e5 : decide (1 ≤ y) = false := decide_eq_false (by omega)
      have e6 : ¬ 1 ≤ y := by omega
      clear hv
    case' inr.inr.inr.inr.inl =>
      have HH : Hid (g.self t.fn = 1) := hv
      have e5 : decide (1 ≤ y) = true := decide_eq_true (by omega)
      have e6 : decide (y ≤ 1000) = false := decide_eq_false (by omega)
      have e7 : ¬ y ≤ 1000 := by omega
      clear hv
    case' inr.inr.inr.inr.inr =>
      have HH : Hid (g.self t.fn = y) := hv
      have e5 : decide (1 ≤ y) = true := decide_eq_true (by omega)
      have e6 : decide (y ≤ 1000) = true := decide_eq_true (by omega)
      clear hv
    all_goals (
      go_enter Tryz.func97, Tryz.ntmps97
      go_wp2_with fail
      refine hat.mono ?_
      rintro e W2 ⟨rfl, hb2⟩
      have hT2 := hT.keep hb2
      obtain ⟨⟨j0, j1⟩, j2, j3, j4⟩ := hC _ hT2
      clear hat hb2 i0 i1 i2 i3 i4
      try have hcw2 := kc hT2.bel hbw hcw)
    all_goals (
      have HT2 : Hid (Duo w (.slice an g.ns.length cn) _ t (.slice a t.args.length c) W2) := hT2
      clear hT2
      go_wp2
      go_loopw [5, 7] (fun n i wr => ∃ k : Nat, k ≤ t.args.length ∧ i = .int .i64 k ∧ n = .int .i64 (wrap64 (g.self t.fn + upto (T.wt g) t.args k)) ∧ Hid (Duo w (.slice an g.ns.length cn) _ t (.slice a t.args.length c) wr)) (fun _ i _ => t.args.length - (intOf i).toNat)
      case atStart => exact ⟨0, Nat.zero_le _, rfl, start_eq HH.out _ _, HT2⟩
      case round =>
        obtain ⟨k, hk, rfl, rfl, HR⟩ := hrel
        have hRd := HR.out.keep (Below.refl _ wr).drew
        by_cases hlt : k < t.args.length
        · obtain ⟨b, o, s, rfl, hbl, c0, c1, c2, hs⟩ := HG.out.2.1.nth hlt
          have d0 := kc hRd.bel hbl c0
          have d1 := kc hRd.bel hbl c1
          have d2 := kc hRd.bel hbl c2
          have hcall := HG.out.2.2 t.args[k] (List.getElem_mem hlt) _ _ s wr.drew (HG.out.1.keep hRd.bel (Nat.le_refl _)) (ArgsAt.keep hRd.bel (Nat.le_refl _) hs)
          have K1 := hC _ hRd
          have hS : ∀ X, Below wr.drew.heap.size wr.drew X → Duo w (.slice an g.ns.length cn) _ t (.slice (some ⟨b, o, none⟩) t.args.length c) X ∧ X.cell? ⟨b, o + k * 3, none⟩ = some (.int .i64 t.args[k].v) ∧ X.cell? ⟨b, o + k * 3 + 1, none⟩ = some (.string t.args[k].fn) ∧ X.cell? ⟨b, o + k * 3 + 2, none⟩ = some s := fun X hX => by
            have hl2 : b < wr.drew.heap.size := Nat.lt_of_lt_of_le hbl hRd.bel.size
            exact ⟨hRd.keep hX, kc hX hl2 d0, kc hX hl2 d1, kc hX hl2 d2⟩
          have HX : Hid (wrap64 (wrap64 (g.self t.fn + upto (T.wt g) t.args k) + wrap64 (T.wt g t.args[k])) = wrap64 (g.self t.fn + upto (T.wt g) t.args (k + 1))) := wt_step _ _ _ _ hlt
          obtain ⟨sa, sc, rfl, _⟩ := hs.slice
          obtain ⟨u, hu⟩ : ∃ u, t.args[k] = u := ⟨_, rfl⟩
          rw [hu] at hcall d0 d1 d2 hS HX
          obtain ⟨acc, hacc⟩ : ∃ q, wrap64 (g.self t.fn + upto (T.wt g) t.args k) = q := ⟨_, rfl⟩
          obtain ⟨wu, hwu⟩ : ∃ q, wrap64 (T.wt g u) = q := ⟨_, rfl⟩
          rw [hacc] at HX
          rw [hwu] at hcall HX
          rw [hacc]
          clear hacc hwu
          have hk1 : (0 : Int) ≤ (k : Int) := by omega
          have hk2 : (k : Int) < (t.args.length : Int) := by omega
          have hC2 : ∀ X, Below wr.drew.heap.size wr.drew X → (X.cell? ⟨w.heap.size, 0, none⟩ = some (.slice an g.ns.length cn) ∧ X.cell? ⟨w.heap.size, 1, none⟩ = some _ ∧ X.cell? ⟨w.heap.size + 1, 2, none⟩ = some (.slice (some ⟨b, o, none⟩) t.args.length c)) ∧ X.cell? ⟨b, o + k * 3, none⟩ = some (.int .i64 u.v) ∧ X.cell? ⟨b, o + k * 3 + 1, none⟩ = some (.string u.fn) ∧ X.cell? ⟨b, o + k * 3 + 2, none⟩ = some (.slice sa u.args.length sc) := fun X hX => ⟨⟨(hS X hX).1.g0, (hS X hX).1.g1, (hS X hX).1.a2⟩, (hS X hX).2⟩
          have K2 := hC2 _ (Below.refl _ _)
          have HS2 : Hid (∀ X, Below wr.drew.heap.size wr.drew X → Duo w (.slice an g.ns.length cn) _ t (.slice (some ⟨b, o, none⟩) t.args.length c) X) := fun X hX => (hS X hX).1
          obtain ⟨k0, k1⟩ := (hC _ HR.out).1
          obtain ⟨k2, k3, k4⟩ := (hC _ HR.out).2
          clear hu hs c0 c1 c2 hS K1 hRd d0 d1 d2
          go_wp2
          first
            | (go_region_held3 (fun X => (X.cell? ⟨w.heap.size, 0, none⟩ = some (.slice an g.ns.length cn) ∧ X.cell? ⟨w.heap.size, 1, none⟩ = some (.slice aw g.ws.length cw) ∧ X.cell? ⟨w.heap.size + 1, 2, none⟩ = some (.slice (some ⟨b, o, none⟩) t.args.length c)) ∧ X.cell? ⟨b, o + k * 3, none⟩ = some (.int .i64 u.v) ∧ X.cell? ⟨b, o + k * 3 + 1, none⟩ = some (.string u.fn) ∧ X.cell? ⟨b, o + k * 3 + 2, none⟩ = some (.slice sa u.args.length sc)) (first | exact K2 | exact K3) (first | (go_at_call 97; refine hcall.mono ?_; rintro e W3 ⟨rfl, hb3⟩; have K3 := hC2 _ hb3; have HN := HS2.out _ hb3; have HN2 : Hid (Duo w (.slice an g.ns.length cn) _ t (.slice (some ⟨b, o, none⟩) t.args.length c) W3) := HN; clear HN hb3)))
            | (go_region_held3 (fun X => (X.cell? ⟨w.heap.size, 0, none⟩ = some (.slice an g.ns.length cn) ∧ X.cell? ⟨w.heap.size, 1, none⟩ = some (.slice (some ⟨bw, ow, none⟩) g.ws.length cw) ∧ X.cell? ⟨w.heap.size + 1, 2, none⟩ = some (.slice (some ⟨b, o, none⟩) t.args.length c)) ∧ X.cell? ⟨b, o + k * 3, none⟩ = some (.int .i64 u.v) ∧ X.cell? ⟨b, o + k * 3 + 1, none⟩ = some (.string u.fn) ∧ X.cell? ⟨b, o + k * 3 + 2, none⟩ = some (.slice sa u.args.length sc)) (first | exact K2 | exact K3) (first | (go_at_call 97; refine hcall.mono ?_; rintro e W3 ⟨rfl, hb3⟩; have K3 := hC2 _ hb3; have HN := HS2.out _ hb3; have HN2 : Hid (Duo w (.slice an g.ns.length cn) _ t (.slice (some ⟨b, o, none⟩) t.args.length c) W3) := HN; clear HN hb3)))
          go_wp2
          go_roundw
          case rel => exact ⟨k + 1, by omega, by go_num, by rw [← HX.out, wrapK], HN2⟩
          case measure => simp [intOf]; omega
        · obtain ⟨⟨k0, k1⟩, k2, k3, k4⟩ := hC _ HR.out
          go_wp2
          go_ret
          exact ⟨ret_i64 (by rw [HS.out, upto_all _ _ _ (by omega)]), HR.out.bel⟩)
end Go.Proofs.YtglphfhlpobgcaaGreat

namespace Go.Proofs.YtglphfhlpobgcaaGreat
open Go.RowKit Go.Maps
def T.cnt (v : Int) (t : T) : Int := ((t.vs.count v : Nat) : Int)
def cnt0 (v : Int) (t : T) : Int := if t.fn.size = 0 ∧ t.v = v then 1 else 0
theorem cnt_eq (v : Int) (t : T) : t.cnt v = cnt0 v t + (t.args.map (T.cnt v)).sum := by
  have h : ∀ l : List T, (((l.map T.vs).flatten.count v : Nat) : Int) = (l.map (T.cnt v)).sum := by
    intro l
    induction l with
    | nil => rfl
    | cons a r ih => simp only [List.map_cons, List.flatten_cons, List.count_append, List.sum_cons, ← ih, T.cnt]; omega
  unfold cnt0
  rw [T.cnt, t.vs_eq, List.count_append, Int.natCast_add, h]
  by_cases h0 : t.fn.size = 0
  · rw [if_pos h0]
    by_cases hv : t.v = v
    · rw [if_pos ⟨h0, hv⟩, hv]; simp
    · rw [if_neg (fun k => hv k.2), List.count_eq_zero.2 (by simp; omega)]; rfl
  · rw [if_neg h0, if_neg (fun k => h0 k.1)]; rfl
theorem cstart (v : Int) (t : T) {k : Int} (h : cnt0 v t = k) (f : T → Int) (l : List T) : Value.int .i64 k = .int .i64 (wrap64 (cnt0 v t + upto f l 0)) := by
  have hr : 0 ≤ cnt0 v t ∧ cnt0 v t ≤ 1 := by unfold cnt0; split <;> omega
  rw [upto_zero, Int.add_zero, wrap_small (by omega) (by omega), h]
set_option maxHeartbeats 2000000 in
theorem rcount_any (v : Int) (t : T) : ∀ (sl : Value) (w : World), ArgsAt w sl t.args →
    Calls Tryz.prog 96 #[tval t sl, .int .i64 v] w fun e w' => e = .returned (.int .i64 (wrap64 (t.cnt v))) ∧ Below w.heap.size w w' := by
  induction t using T.ind with
  | _ t ih =>
    intro sl w ha
    obtain ⟨a, c, rfl, hc, hm⟩ := ha.slice
    have HS : Hid (t.cnt v = cnt0 v t + (t.args.map (T.cnt v)).sum) := cnt_eq v t
    obtain ⟨u0, u1, u2⟩ := tbox_cells w t (.slice a t.args.length c)
    have hemp := ba_isEmpty t.fn
    have HG : Hid (ArgsAt w (.slice a t.args.length c) t.args ∧ ∀ a ∈ t.args, ∀ (sl : Value) (w : World), ArgsAt w sl a.args → Calls Tryz.prog 96 #[tval a sl, .int .i64 v] w fun e w' => e = .returned (.int .i64 (wrap64 (a.cnt v))) ∧ Below w.heap.size w w') := ⟨ha, ih⟩
    clear ha ih
    have hcase : (t.fn.size = 0 ∧ t.v = v ∧ cnt0 v t = 1) ∨ (t.fn.size = 0 ∧ t.v ≠ v ∧ cnt0 v t = 0) ∨ (t.fn.size ≠ 0 ∧ cnt0 v t = 0) := by
      unfold cnt0
      by_cases h0 : t.fn.size = 0
      · by_cases hv : t.v = v
        · exact .inl ⟨h0, hv, by rw [if_pos ⟨h0, hv⟩]⟩
        · exact .inr (.inl ⟨h0, hv, by rw [if_neg (fun k => hv k.2)]⟩)
      · exact .inr (.inr ⟨h0, by rw [if_neg (fun k => h0 k.1)]⟩)
    rcases hcase with ⟨h0, hv, hk⟩ | ⟨h0, hv, hk⟩ | ⟨h0, hk⟩
    case' inl =>
      rw [decide_eq_true h0] at hemp
      have e1 : (t.v == v) = true := by rw [hv]; simp
      have HK : Hid (cnt0 v t = 1) := hk
      clear hk hv h0
    case' inr.inl =>
      rw [decide_eq_true h0] at hemp
      have e1 : (t.v == v) = false := by rw [beq_eq_false_iff_ne]; exact hv
      have HK : Hid (cnt0 v t = 0) := hk
      clear hk hv h0
    case' inr.inr =>
      rw [decide_eq_false h0] at hemp
      have HK : Hid (cnt0 v t = 0) := hk
      clear hk h0
    all_goals (
      go_enter Tryz.func96, Tryz.ntmps96
      go_wp2
      go_loopw [5, 6] (fun n i wr => ∃ k : Nat, k ≤ t.args.length ∧ i = .int .i64 k ∧ n = .int .i64 (wrap64 (cnt0 v t + upto (T.cnt v) t.args k)) ∧ Below (w.heap.size + 1) (w.alloc (tbox t (.slice a t.args.length c))) wr) (fun _ i _ => t.args.length - (intOf i).toNat)
      case atStart => exact ⟨0, Nat.zero_le _, rfl, cstart v t HK.out _ _, Below.refl _ _⟩
      case round =>
        obtain ⟨k, hk, rfl, rfl, hb⟩ := hrel
        have t2' := kc hb (Nat.lt_succ_self _) u2
        have haw := ArgsAt.keep (((below_box w (tbox t (.slice a t.args.length c)))).trans (hb.mono (Nat.le_succ _))) (Nat.le_refl _) HG.out.1
        by_cases hlt : k < t.args.length
        · obtain ⟨b, o, s, rfl, hbl, c0, c1, c2, hs⟩ := haw.nth hlt
          have ih' := HG.out.2 t.args[k] (List.getElem_mem hlt) s _ hs
          have HX : Hid (wrap64 (wrap64 (cnt0 v t + upto (T.cnt v) t.args k) + wrap64 (T.cnt v t.args[k])) = wrap64 (cnt0 v t + upto (T.cnt v) t.args (k + 1))) := wt_step _ _ _ _ hlt
          go_wp2_with (first | (go_at_call 96; refine ih'.mono ?_; rintro e w' ⟨rfl, hb'⟩))
          go_roundw
          case rel => exact ⟨k + 1, by omega, by go_num, by rw [← HX.out], hb.trans (hb'.mono (by have := hb.size; simp at this; omega))⟩
          case measure => simp [intOf]; omega
        · go_wp2
          go_ret
          exact ⟨ret_i64 (by rw [HS.out, upto_all _ _ _ (by omega)]), (below_box w _).trans (hb.mono (Nat.le_succ _))⟩)
def ksymB (g : Sg) (x y : T) : Bool := if x.fn = y.fn then decide (y.args.length < x.args.length) else g.above x.fn y.fn
theorem ksymB_iff {g : Sg} {x y : T} : ksymB g x y = true ↔ g.sym x.fn y.fn x.args.length y.args.length := by
  unfold ksymB Sg.sym
  by_cases h : x.fn = y.fn
  · rw [if_pos h, h, above_irrefl]
    simp
  · rw [if_neg h]
    simp [h]
set_option maxRecDepth 100000 in
set_option maxHeartbeats 2000000 in
theorem krsym_any (g : Sg) (x y : T) (vn vw : Value) (a b : Option Addr) (ca cb : Nat) (w : World) (hg : SgAt w g vn vw) :
    Calls Tryz.prog 98 #[gval vn vw, tval x (.slice a x.args.length ca), tval y (.slice b y.args.length cb)] w fun e w' => e = .returned (.bool (ksymB g x y)) ∧ Below w.heap.size w w' := by
  obtain ⟨an, cn, rfl, _, _⟩ := hg.ns.slice
  obtain ⟨aw, cw, rfl, _, _⟩ := hg.ws.slice
  have hT := tri_made w (.slice an g.ns.length cn) (.slice aw g.ws.length cw) 25 x (.slice a x.args.length ca) y (.slice b y.args.length cb)
  obtain ⟨i0, i1, j0, j1, j2, k0, k1, k2, hb, _⟩ := hT
  have hc := rabove_any g x.fn y.fn _ _ _ (hg.keep hb (Nat.le_refl _))
  have HB : Hid (Below w.heap.size w (((w.alloc (.cells #[.slice an g.ns.length cn, .slice aw g.ws.length cw] 25)).alloc (tbox x (.slice a x.args.length ca))).alloc (tbox y (.slice b y.args.length cb)))) := hb
  clear hb hg
  by_cases h : x.fn = y.fn
  · have HV : Hid (ksymB g x y = decide (y.args.length < x.args.length)) := by show _ = _; unfold ksymB; rw [if_pos h]
    have e1 : (x.fn.toList == y.fn.toList) = true := by rw [h]; simp
    clear h
    go_enter Tryz.func98, Tryz.ntmps98
    go_wp2
    go_ret
    exact ⟨ret_bool (by rw [HV.out]), HB.out⟩
  · have HV : Hid (ksymB g x y = g.above x.fn y.fn) := by show _ = _; unfold ksymB; rw [if_neg h]
    have e1 : (x.fn.toList == y.fn.toList) = false := by rw [beq_eq_false_iff_ne]; exact fun k => h (ba_toList_inj.1 k)
    clear h
    go_enter Tryz.func98, Tryz.ntmps98
    go_wp2_with fail
    refine hc.mono ?_
    rintro e W2 ⟨rfl, hb2⟩
    go_wp2
    go_ret
    exact ⟨ret_bool HV.out.symm, HB.out.trans (hb2.mono HB.out.size)⟩
end Go.Proofs.YtglphfhlpobgcaaGreat

namespace Go.Proofs.YtglphfhlpobgcaaGreat
open Go.RowKit Go.Maps
open Classical in
noncomputable def grB (g : Sg) (x y : T) : Bool := decide (gr g x y)
theorem grB_iff {g : Sg} {x y : T} : grB g x y = true ↔ gr g x y := by simp [grB]
theorem grB_no {g : Sg} {x y : T} : grB g x y = false ↔ ¬ gr g x y := by simp [grB]
theorem bool_iff {a b : Bool} (h : a = true ↔ b = true) : a = b := by cases a <;> cases b <;> simp_all
theorem grB_vle {g : Sg} {x y : T} (h : ¬ vle y x) : grB g x y = false := grB_no.2 fun k => h ((gr_eq g x y).1 k).1
theorem grB_wt {g : Sg} {x y : T} (h : vle y x) (hw : x.wt g ≠ y.wt g) : grB g x y = decide (y.wt g < x.wt g) := by
  apply bool_iff
  rw [grB_iff, gr_eq, decide_eq_true_eq]
  constructor
  · rintro ⟨_, k | ⟨k, _⟩⟩
    · exact k
    · exact absurd k hw
  · intro k
    exact ⟨h, .inl k⟩
theorem grB_var {g : Sg} {x y : T} (hw : x.wt g = y.wt g) (hv : x.fn.size = 0 ∨ y.fn.size = 0) : grB g x y = false := by
  rw [grB_no, gr_eq]
  rintro ⟨_, k | ⟨_, k1, k2, _⟩⟩
  · omega
  · exact hv.elim k1 k2
theorem grB_sym {g : Sg} {x y : T} (h : vle y x) (hw : x.wt g = y.wt g) (n1 : x.fn.size ≠ 0) (n2 : y.fn.size ≠ 0) (hd : x.fn ≠ y.fn ∨ x.args.length ≠ y.args.length) : grB g x y = ksymB g x y := by
  apply bool_iff
  rw [grB_iff, gr_eq, ksymB_iff]
  constructor
  · rintro ⟨_, k | ⟨_, _, _, k | ⟨k1, k2, _⟩⟩⟩
    · omega
    · exact k
    · exact absurd k2 (hd.elim (fun e => absurd k1 e) id)
  · intro k
    exact ⟨h, .inr ⟨hw, n1, n2, .inl k⟩⟩
theorem grB_args {g : Sg} {x y : T} (h : vle y x) (hw : x.wt g = y.wt g) (n1 : x.fn.size ≠ 0) (n2 : y.fn.size ≠ 0) (hf : x.fn = y.fn) (hl : x.args.length = y.args.length) : grB g x y = true ↔ gr.grs g x.args y.args := by
  rw [grB_iff, gr_eq]
  constructor
  · rintro ⟨_, k | ⟨_, _, _, k | ⟨_, _, k⟩⟩⟩
    · omega
    · rw [hf, hl] at k
      exact absurd k (sym_irrefl g _ _)
    · exact k
  · intro k
    exact ⟨h, .inr ⟨hw, n1, n2, .inr ⟨hf, hl, k⟩⟩⟩
theorem grs_at {g : Sg} : ∀ (l m : List T) (i : Nat) (hi : i < l.length) (hj : i < m.length), l.take i = m.take i → l[i] ≠ m[i] → (gr.grs g l m ↔ gr g l[i] m[i])
  | [], _, i, hi, _, _, _ => absurd hi (by simp)
  | _ :: _, [], i, _, hj, _, _ => absurd hj (by simp)
  | a :: r, b :: s, 0, _, _, _, h => by
    have h' : a ≠ b := h
    simp [gr.grs, h']
  | a :: r, b :: s, i + 1, hi, hj, he, h => by
    simp only [List.take_succ_cons, List.cons.injEq] at he
    have h' : r[i]'(by simpa using hi) ≠ s[i]'(by simpa using hj) := h
    simp only [gr.grs, he.1, List.getElem_cons_succ, true_and, ne_eq, not_true_eq_false, false_and, or_false]
    exact grs_at r s i (by simpa using hi) (by simpa using hj) he.2 h'
theorem vle_of {x y : T} (h : ∀ v ∈ y.vs.foldl wth [], y.cnt v ≤ x.cnt v) : vle y x := by
  intro v
  by_cases hv : v ∈ y.vs
  · have := h v (((wths_rise y.vs [] List.Pairwise.nil).2 v).2 (.inr hv))
    unfold T.cnt at this
    omega
  · rw [List.count_eq_zero.2 hv]
    exact Nat.zero_le _
theorem vs_len (t : T) : (t.vs.length : Int) ≤ t.size := by
  induction t using T.ind with
  | _ t ih =>
    rw [t.vs_eq, t.size_eq, List.length_append]
    have : ∀ l : List T, (∀ a ∈ l, a ∈ t.args) → (((l.map T.vs).flatten).length : Int) ≤ (l.map T.size).sum := by
      intro l
      induction l with
      | nil => intro _; simp
      | cons a r ihl =>
        intro hl
        have h1 := ih a (hl a (by simp))
        have h2 := ihl (fun b hb => hl b (by simp [hb]))
        simp only [List.map_cons, List.sum_cons, List.flatten_cons, List.length_append]
        omega
    have h := this t.args (fun _ h => h)
    split <;> simp only [List.length_cons, List.length_nil] <;> omega
theorem cnt_small (t : T) (v : Int) (h : t.size ≤ 1048576) : wrap64 (t.cnt v) = t.cnt v := by
  have h1 := vs_len t
  have h2 := List.count_le_length (a := v) (l := t.vs)
  unfold T.cnt
  exact wrap_small (by omega) (by omega)
theorem wt_small (g : Sg) (t : T) (h : t.size ≤ 1048576) : wrap64 (t.wt g) = t.wt g := by
  have h1 := wt_le g t
  have h2 := wt_pos g t
  exact wrap_small (by omega) (by omega)
theorem arg_size {t a : T} (h : a ∈ t.args) : a.size ≤ t.size := by
  rw [t.size_eq]
  have : ∀ l : List T, a ∈ l → a.size ≤ (l.map T.size).sum := by
    intro l
    induction l with
    | nil => intro h; cases h
    | cons b r ih =>
      intro h
      have h0 : 0 ≤ (r.map T.size).sum := sum_nonneg (fun x hx => by
        obtain ⟨c, _, rfl⟩ := List.mem_map.1 hx
        have := size_pos c
        omega)
      have hb := size_pos b
      rw [List.map_cons, List.sum_cons]
      rcases List.mem_cons.1 h with rfl | h
      · omega
      · have := ih h
        omega
  have := this t.args h
  omega
def GrAt (g : Sg) (x : T) : Prop :=
  ∀ (y : T) (vn vw sx sy : Value) (w : World), SgAt w g vn vw → ArgsAt w sx x.args → ArgsAt w sy y.args → x.size ≤ 1048576 → y.size ≤ 1048576 →
    Calls Tryz.prog 56 #[gval vn vw, tval x sx, tval y sy] w fun e w' => e = .returned (.bool (grB g x y)) ∧ Below w.heap.size w w'
set_option maxRecDepth 100000 in
set_option maxHeartbeats 8000000 in
theorem rgreater_step (g : Sg) (x : T) (ih : ∀ a ∈ x.args, GrAt g a) : GrAt g x := by
  intro y vn vw sx sy w hg hax hay hzx hzy
  obtain ⟨an, cn, rfl, _, _⟩ := hg.ns.slice
  obtain ⟨aw, cw, rfl, _, _⟩ := hg.ws.slice
  obtain ⟨a, ca, rfl, _, _⟩ := hax.slice
  obtain ⟨b, cb, rfl, _, _⟩ := hay.slice
  have hT := tri_made w (.slice an g.ns.length cn) (.slice aw g.ws.length cw) 25 x (.slice a x.args.length ca) y (.slice b y.args.length cb)
  have hC : ∀ X, Tri w (.slice an g.ns.length cn) (.slice aw g.ws.length cw) x (.slice a x.args.length ca) y (.slice b y.args.length cb) X → (X.cell? ⟨w.heap.size, 0, none⟩ = some (.slice an g.ns.length cn) ∧ X.cell? ⟨w.heap.size, 1, none⟩ = some (.slice aw g.ws.length cw)) ∧ (X.cell? ⟨w.heap.size + 1, 0, none⟩ = some (.int .i64 x.v) ∧ X.cell? ⟨w.heap.size + 1, 1, none⟩ = some (.string x.fn) ∧ X.cell? ⟨w.heap.size + 1, 2, none⟩ = some (.slice a x.args.length ca)) ∧ (X.cell? ⟨w.heap.size + 1 + 1, 0, none⟩ = some (.int .i64 y.v) ∧ X.cell? ⟨w.heap.size + 1 + 1, 1, none⟩ = some (.string y.fn) ∧ X.cell? ⟨w.heap.size + 1 + 1, 2, none⟩ = some (.slice b y.args.length cb)) := fun X h => ⟨⟨h.g0, h.g1⟩, ⟨h.a0, h.a1, h.a2⟩, h.b0, h.b1, h.b2⟩
  have HP : Hid (SgAt w g (.slice an g.ns.length cn) (.slice aw g.ws.length cw) ∧ ArgsAt w (.slice a x.args.length ca) x.args ∧ ArgsAt w (.slice b y.args.length cb) y.args ∧ x.size ≤ 1048576 ∧ y.size ≤ 1048576 ∧ ∀ a ∈ x.args, GrAt g a) := ⟨hg, hax, hay, hzx, hzy, ih⟩
  have hvl : y.vs.length ≤ 1048576 := by have := vs_len y; omega
  have hvars := rvars_any y _ _ (ArgsAt.keep hT.bel (Nat.le_refl _) hay) hvl
  have hlen := wths_len y.vs []
  obtain ⟨⟨i0, i1⟩, ⟨i2, i3, i4⟩, i5, i6, i7⟩ := hC _ hT
  obtain ⟨vl, hvlE⟩ : ∃ l, y.vs.foldl wth [] = l := ⟨_, rfl⟩
  have HV : Hid ((∀ v ∈ vl, y.cnt v ≤ x.cnt v) → vle y x) := by rw [← hvlE]; exact vle_of
  rw [hvlE] at hvars hlen
  have hll : vl.length ≤ 1048576 := by simp at hlen; omega
  clear hg hax hay hzx hzy ih hvl hvlE hlen
  go_enter Tryz.func56, Tryz.ntmps56
  go_wp2_with fail
  refine hvars.mono ?_
  rintro e W2 ⟨v', k', rfl, hrow, hb2⟩
  have hk' : vl.length = k' := by have := hrow.1; simpa using this
  subst hk'
  obtain ⟨pv, pc, rfl⟩ := row_form hrow
  have HT2 : Hid (Tri w (.slice an g.ns.length cn) (.slice aw g.ws.length cw) x (.slice a x.args.length ca) y (.slice b y.args.length cb) W2) := hT.keep hb2
  have HR2 : Hid (W2.ownsRow _ 3 1 (.slice pv vl.length pc) vl.length (vl.map (Value.int .i64))) := hrow
  clear hvars hrow hb2 hT i0 i1 i2 i3 i4 i5 i6 i7
  go_wp2
  go_loopw [8] (fun vi wr => ∃ i : Nat, vi = .int .i64 i ∧ i ≤ vl.length ∧ Hid (∀ j (hj : j < vl.length), j < i → y.cnt vl[j] ≤ x.cnt vl[j]) ∧ Hid (Tri w (.slice an g.ns.length cn) (.slice aw g.ws.length cw) x (.slice a x.args.length ca) y (.slice b y.args.length cb) wr ∧ Below W2.heap.size W2 wr)) (fun vi _ => vl.length - (intOf vi).toNat)
  case atStart => exact ⟨0, rfl, Nat.zero_le _, fun j _ hj => absurd hj (by omega), HT2.out, Below.refl _ _⟩
  case round =>
    obtain ⟨i, rfl, hi, HI, HW⟩ := hrel
    by_cases hlt : i < vl.length
    · have hTd := HW.out.1.keep (Below.refl _ wr).drew
      have hrw := row_below HR2.out HW.out.2
      obtain ⟨gr0, rfl, hgl, _, hcell⟩ := row_get hrw hlt
      have cx : ∀ X, Below wr.drew.heap.size wr.drew X → Calls Tryz.prog 96 #[.agg #[.int .i64 x.v, .string x.fn, .slice a x.args.length ca], .int .i64 vl[i]] X fun e X' => e = .returned (.int .i64 (x.cnt vl[i])) ∧ Below wr.drew.heap.size wr.drew X' := fun X hX => (rcount_any vl[i] x _ X (ArgsAt.keep (hTd.bel.trans (hX.mono hTd.bel.size)) (Nat.le_refl _) HP.out.2.1)).mono fun e X' ⟨h1, h2⟩ => ⟨by rw [h1, cnt_small x _ HP.out.2.2.2.1], hX.trans (h2.mono hX.size)⟩
      have cy : ∀ X, Below wr.drew.heap.size wr.drew X → Calls Tryz.prog 96 #[.agg #[.int .i64 y.v, .string y.fn, .slice b y.args.length cb], .int .i64 vl[i]] X fun e X' => e = .returned (.int .i64 (y.cnt vl[i])) ∧ Below wr.drew.heap.size wr.drew X' := fun X hX => (rcount_any vl[i] y _ X (ArgsAt.keep (hTd.bel.trans (hX.mono hTd.bel.size)) (Nat.le_refl _) HP.out.2.2.1)).mono fun e X' ⟨h1, h2⟩ => ⟨by rw [h1, cnt_small y _ HP.out.2.2.2.2.1], hX.trans (h2.mono hX.size)⟩
      have hC2 : ∀ X, Below wr.drew.heap.size wr.drew X → (X.cell? ⟨w.heap.size + 1, 0, none⟩ = some (.int .i64 x.v) ∧ X.cell? ⟨w.heap.size + 1, 1, none⟩ = some (.string x.fn) ∧ X.cell? ⟨w.heap.size + 1, 2, none⟩ = some (.slice a x.args.length ca)) ∧ (X.cell? ⟨w.heap.size + 1 + 1, 0, none⟩ = some (.int .i64 y.v) ∧ X.cell? ⟨w.heap.size + 1 + 1, 1, none⟩ = some (.string y.fn) ∧ X.cell? ⟨w.heap.size + 1 + 1, 2, none⟩ = some (.slice b y.args.length cb)) ∧ X.cell? ⟨gr0, i, none⟩ = some (.int .i64 vl[i]) := fun X hX => ⟨(hC _ (hTd.keep hX)).2.1, (hC _ (hTd.keep hX)).2.2, kc hX hgl hcell⟩
      have K0 := hC2 _ (Below.refl _ _)
      have HO : Hid (∀ X, Below wr.drew.heap.size wr.drew X → Tri w (.slice an g.ns.length cn) (.slice aw g.ws.length cw) x (.slice a x.args.length ca) y (.slice b y.args.length cb) X ∧ Below W2.heap.size W2 X) := fun X hX => ⟨hTd.keep hX, HW.out.2.trans (((Below.refl _ wr).drew.trans hX).mono HW.out.2.size)⟩
      have HNx : Hid (y.cnt vl[i] ≤ x.cnt vl[i] → ∀ j (hj : j < vl.length), j < i + 1 → y.cnt vl[j] ≤ x.cnt vl[j]) := fun h j hj hji => by
        by_cases ej : j = i
        · subst ej; exact h
        · exact HI.out j hj (by omega)
      have HFa : Hid (x.cnt vl[i] < y.cnt vl[i] → grB g x y = false) := fun h => grB_vle fun k => by
        have := k vl[i]
        unfold T.cnt at h
        omega
      obtain ⟨vq, hvq⟩ : ∃ q, vl[i] = q := ⟨_, rfl⟩
      rw [hvq] at cx cy hC2 K0 HNx HFa hcell
      obtain ⟨qx, hqx⟩ : ∃ q, x.cnt vq = q := ⟨_, rfl⟩
      obtain ⟨qy, hqy⟩ : ∃ q, y.cnt vq = q := ⟨_, rfl⟩
      rw [hqx] at cx HNx HFa
      rw [hqy] at cy HNx HFa
      have hi1 : (0 : Int) ≤ (i : Int) := by omega
      have hi2 : (i : Int) < (vl.length : Int) := by omega
      clear hvq hqx hqy hTd hrw HW
      by_cases hq : qx < qy
      · have eq1 : decide (qx < qy) = true := decide_eq_true hq
        have HF2 : Hid (grB g x y = false) := HFa.out hq
        clear HNx HFa
        go_wp2
        go_region_held3 (fun X => (X.cell? ⟨w.heap.size + 1, 0, none⟩ = some (.int .i64 x.v) ∧ X.cell? ⟨w.heap.size + 1, 1, none⟩ = some (.string x.fn) ∧ X.cell? ⟨w.heap.size + 1, 2, none⟩ = some (.slice a x.args.length ca)) ∧ (X.cell? ⟨w.heap.size + 1 + 1, 0, none⟩ = some (.int .i64 y.v) ∧ X.cell? ⟨w.heap.size + 1 + 1, 1, none⟩ = some (.string y.fn) ∧ X.cell? ⟨w.heap.size + 1 + 1, 2, none⟩ = some (.slice b y.args.length cb)) ∧ X.cell? ⟨gr0, i, none⟩ = some (.int .i64 vq)) (first | exact K0 | exact K3 | exact K4) (first
          | (go_at_call 96; refine (cy _ hb3).mono ?_; rintro e W4 ⟨rfl, hb4⟩; have K4 := hC2 _ hb4)
          | (go_at_call 96; refine (cx _ (Below.refl _ _)).mono ?_; rintro e W3 ⟨rfl, hb3⟩; have K3 := hC2 _ hb3))
        go_wp2
        go_ret
        exact ⟨ret_bool HF2.out.symm, (HO.out _ hb4).1.bel⟩
      · have eq1 : decide (qx < qy) = false := decide_eq_false hq
        have HN2 : Hid (∀ j (hj : j < vl.length), j < i + 1 → y.cnt vl[j] ≤ x.cnt vl[j]) := HNx.out (by omega)
        clear HNx HFa
        go_wp2
        go_region_held3 (fun X => (X.cell? ⟨w.heap.size + 1, 0, none⟩ = some (.int .i64 x.v) ∧ X.cell? ⟨w.heap.size + 1, 1, none⟩ = some (.string x.fn) ∧ X.cell? ⟨w.heap.size + 1, 2, none⟩ = some (.slice a x.args.length ca)) ∧ (X.cell? ⟨w.heap.size + 1 + 1, 0, none⟩ = some (.int .i64 y.v) ∧ X.cell? ⟨w.heap.size + 1 + 1, 1, none⟩ = some (.string y.fn) ∧ X.cell? ⟨w.heap.size + 1 + 1, 2, none⟩ = some (.slice b y.args.length cb)) ∧ X.cell? ⟨gr0, i, none⟩ = some (.int .i64 vq)) (first | exact K0 | exact K3 | exact K4) (first
          | (go_at_call 96; refine (cy _ hb3).mono ?_; rintro e W4 ⟨rfl, hb4⟩; have K4 := hC2 _ hb4)
          | (go_at_call 96; refine (cx _ (Below.refl _ _)).mono ?_; rintro e W3 ⟨rfl, hb3⟩; have K3 := hC2 _ hb3))
        have HT4 : Hid (Tri w (.slice an g.ns.length cn) (.slice aw g.ws.length cw) x (.slice a x.args.length ca) y (.slice b y.args.length cb) W4 ∧ Below W2.heap.size W2 W4) := HO.out _ hb4
        clear K0 K3 K4 hb3 hb4 hC2 cx cy
        go_wp2
        go_roundw
        case rel => exact ⟨i + 1, by go_num, by omega, HN2, HT4⟩
        case measure => simp [intOf]; omega
    · have hvle : vle y x := HV.out fun v hv => by
        obtain ⟨j, hj, rfl⟩ := List.getElem_of_mem hv
        exact HI.out j hj (by omega)
      have HVL : Hid (vle y x) := hvle
      have hTd := HW.out.1.keep (Below.refl _ wr).drew
      have wx : ∀ X, Below wr.drew.heap.size wr.drew X → Calls Tryz.prog 97 #[.agg #[.slice an g.ns.length cn, .slice aw g.ws.length cw], .agg #[.int .i64 x.v, .string x.fn, .slice a x.args.length ca]] X fun e X' => e = .returned (.int .i64 (x.wt g)) ∧ Below wr.drew.heap.size wr.drew X' := fun X hX => (rweight_any g x _ _ _ X (HP.out.1.keep (hTd.bel.trans (hX.mono hTd.bel.size)) (Nat.le_refl _)) (ArgsAt.keep (hTd.bel.trans (hX.mono hTd.bel.size)) (Nat.le_refl _) HP.out.2.1)).mono fun e X' ⟨h1, h2⟩ => ⟨by rw [h1, wt_small g x HP.out.2.2.2.1], hX.trans (h2.mono hX.size)⟩
      have wy : ∀ X, Below wr.drew.heap.size wr.drew X → Calls Tryz.prog 97 #[.agg #[.slice an g.ns.length cn, .slice aw g.ws.length cw], .agg #[.int .i64 y.v, .string y.fn, .slice b y.args.length cb]] X fun e X' => e = .returned (.int .i64 (y.wt g)) ∧ Below wr.drew.heap.size wr.drew X' := fun X hX => (rweight_any g y _ _ _ X (HP.out.1.keep (hTd.bel.trans (hX.mono hTd.bel.size)) (Nat.le_refl _)) (ArgsAt.keep (hTd.bel.trans (hX.mono hTd.bel.size)) (Nat.le_refl _) HP.out.2.2.1)).mono fun e X' ⟨h1, h2⟩ => ⟨by rw [h1, wt_small g y HP.out.2.2.2.2.1], hX.trans (h2.mono hX.size)⟩
      have hC2 : ∀ X, Below wr.drew.heap.size wr.drew X → (X.cell? ⟨w.heap.size, 0, none⟩ = some (.slice an g.ns.length cn) ∧ X.cell? ⟨w.heap.size, 1, none⟩ = some (.slice aw g.ws.length cw)) ∧ (X.cell? ⟨w.heap.size + 1, 0, none⟩ = some (.int .i64 x.v) ∧ X.cell? ⟨w.heap.size + 1, 1, none⟩ = some (.string x.fn) ∧ X.cell? ⟨w.heap.size + 1, 2, none⟩ = some (.slice a x.args.length ca)) ∧ (X.cell? ⟨w.heap.size + 1 + 1, 0, none⟩ = some (.int .i64 y.v) ∧ X.cell? ⟨w.heap.size + 1 + 1, 1, none⟩ = some (.string y.fn) ∧ X.cell? ⟨w.heap.size + 1 + 1, 2, none⟩ = some (.slice b y.args.length cb)) := fun X hX => hC _ (hTd.keep hX)
      have K0 := hC2 _ (Below.refl _ _)
      have HO : Hid (∀ X, Below wr.drew.heap.size wr.drew X → Tri w (.slice an g.ns.length cn) (.slice aw g.ws.length cw) x (.slice a x.args.length ca) y (.slice b y.args.length cb) X) := fun X hX => hTd.keep hX
      clear hTd hvle HW HI HV HR2 HT2
      obtain ⟨qx, hqx⟩ : ∃ q, x.wt g = q := ⟨_, rfl⟩
      obtain ⟨qy, hqy⟩ : ∃ q, y.wt g = q := ⟨_, rfl⟩
      rw [hqx] at wx
      rw [hqy] at wy
      have HQ : Hid (x.wt g = qx ∧ y.wt g = qy) := ⟨hqx, hqy⟩
      clear hqx hqy
      go_wp2
      go_region_held3 (fun X => (X.cell? ⟨w.heap.size, 0, none⟩ = some (.slice an g.ns.length cn) ∧ X.cell? ⟨w.heap.size, 1, none⟩ = some (.slice aw g.ws.length cw)) ∧ (X.cell? ⟨w.heap.size + 1, 0, none⟩ = some (.int .i64 x.v) ∧ X.cell? ⟨w.heap.size + 1, 1, none⟩ = some (.string x.fn) ∧ X.cell? ⟨w.heap.size + 1, 2, none⟩ = some (.slice a x.args.length ca)) ∧ (X.cell? ⟨w.heap.size + 1 + 1, 0, none⟩ = some (.int .i64 y.v) ∧ X.cell? ⟨w.heap.size + 1 + 1, 1, none⟩ = some (.string y.fn) ∧ X.cell? ⟨w.heap.size + 1 + 1, 2, none⟩ = some (.slice b y.args.length cb))) (first | exact K0 | exact K3 | exact K4) (first
        | (go_at_call 97; refine (wy _ hb3).mono ?_; rintro e W4 ⟨rfl, hb4⟩; have K4 := hC2 _ hb4)
        | (go_at_call 97; refine (wx _ (Below.refl _ _)).mono ?_; rintro e W3 ⟨rfl, hb3⟩; have K3 := hC2 _ hb3))
      have HT4 : Hid (Tri w (.slice an g.ns.length cn) (.slice aw g.ws.length cw) x (.slice a x.args.length ca) y (.slice b y.args.length cb) W4) := HO.out _ hb4
      clear K0 K3 K4 hb3 hb4 hC2 wx wy HO
      obtain ⟨⟨l0, l1⟩, ⟨l2, l3, l4⟩, l5, l6, l7⟩ := hC _ HT4.out
      by_cases hw : qx = qy
      · have e1 : (qx != qy) = false := by rw [hw]; simp
        have HW2 : Hid (x.wt g = y.wt g) := by show _ = _; rw [HQ.out.1, HQ.out.2, hw]
        have hex := ba_isEmpty x.fn
        have hey := ba_isEmpty y.fn
        clear hw
        by_cases c1 : x.fn.size = 0
        · rw [decide_eq_true c1] at hex
          have HF2 : Hid (grB g x y = false) := grB_var HW2.out (.inl c1)
          clear c1 hey
          go_wp2
          go_ret
          exact ⟨ret_bool HF2.out.symm, HT4.out.bel⟩
        rw [decide_eq_false c1] at hex
        by_cases c2 : y.fn.size = 0
        · rw [decide_eq_true c2] at hey
          have HF2 : Hid (grB g x y = false) := grB_var HW2.out (.inr c2)
          clear c1 c2
          go_wp2
          go_ret
          exact ⟨ret_bool HF2.out.symm, HT4.out.bel⟩
        rw [decide_eq_false c2] at hey
        by_cases c3 : x.fn ≠ y.fn
        · have e2 : (x.fn.toList == y.fn.toList) = false := by rw [beq_eq_false_iff_ne]; exact fun h => c3 (ba_toList_inj.1 h)
          have e3 : (x.fn.toList != y.fn.toList) = true := by rw [bne, e2]; rfl
          have HF2 : Hid (grB g x y = ksymB g x y) := grB_sym HVL.out HW2.out c1 c2 (.inl c3)
          have hc := krsym_any g x y _ _ a b ca cb W4 (HP.out.1.keep HT4.out.bel (Nat.le_refl _))
          clear c1 c2 c3
          go_wp2_with fail
          refine hc.mono ?_
          rintro e W5 ⟨rfl, hb5⟩
          go_wp2
          go_ret
          exact ⟨ret_bool HF2.out.symm, HT4.out.bel.trans (hb5.mono HT4.out.bel.size)⟩
        have hf : x.fn = y.fn := Classical.byContradiction c3
        have e2 : (x.fn.toList == y.fn.toList) = true := by rw [hf]; simp
        have e3 : (x.fn.toList != y.fn.toList) = false := by rw [bne, e2]; rfl
        by_cases c4 : x.args.length ≠ y.args.length
        · have e4 : ((x.args.length : Int) != (y.args.length : Int)) = true := by rw [bne_iff_ne]; omega
          have HF2 : Hid (grB g x y = ksymB g x y) := grB_sym HVL.out HW2.out c1 c2 (.inr c4)
          have hc := krsym_any g x y _ _ a b ca cb W4 (HP.out.1.keep HT4.out.bel (Nat.le_refl _))
          clear c1 c2 c3 hf
          go_wp2_with fail
          refine hc.mono ?_
          rintro e W5 ⟨rfl, hb5⟩
          go_wp2
          go_ret
          exact ⟨ret_bool HF2.out.symm, HT4.out.bel.trans (hb5.mono HT4.out.bel.size)⟩
        have hlxy : x.args.length = y.args.length := Classical.byContradiction c4
        have e4 : ((x.args.length : Int) != (y.args.length : Int)) = false := by rw [bne_eq_false_iff_eq]; omega
        have HGA : Hid ((grB g x y = true ↔ gr.grs g x.args y.args) ∧ x.args.length = y.args.length) := ⟨grB_args HVL.out HW2.out c1 c2 hf hlxy, hlxy⟩
        clear c1 c2 c3 c4 hf hlxy
        obtain ⟨wr2, hwr2⟩ : ∃ W, W = wr := ⟨_, rfl⟩
        subst hwr2
        go_wp2
        go_loopw [11] (fun vi wr => ∃ i : Nat, vi = .int .i64 i ∧ i ≤ x.args.length ∧ Hid (x.args.take i = y.args.take i) ∧ Hid (Tri w (.slice an g.ns.length cn) (.slice aw g.ws.length cw) x (.slice a x.args.length ca) y (.slice b y.args.length cb) wr)) (fun vi _ => x.args.length - (intOf vi).toNat)
        case atStart => exact ⟨0, rfl, Nat.zero_le _, rfl, HT4⟩
        case round =>
          obtain ⟨i, rfl, hi, HE, HR⟩ := hrel
          by_cases hlt : i < x.args.length
          · have hlt' : i < y.args.length := HGA.out.2 ▸ hlt
            have hTd := HR.out.keep (Below.refl _ wr).drew
            obtain ⟨ba, oa, s, rfl, hba, a0, a1, a2, hs⟩ := HP.out.2.1.nth hlt
            obtain ⟨bb, ob, s', rfl, hbb, b0, b1, b2, hs'⟩ := HP.out.2.2.1.nth hlt'
            obtain ⟨sa, sca, rfl, _⟩ := hs.slice
            obtain ⟨sb, scb, rfl, _⟩ := hs'.slice
            have hz1 := arg_size (List.getElem_mem hlt)
            have hz2 := arg_size (List.getElem_mem hlt')
            have sm : ∀ X, Below wr.drew.heap.size wr.drew X → Calls Tryz.prog 54 #[.agg #[.int .i64 x.args[i].v, .string x.args[i].fn, .slice sa x.args[i].args.length sca], .agg #[.int .i64 y.args[i].v, .string y.args[i].fn, .slice sb y.args[i].args.length scb]] X fun e X' => e = .returned (.bool (same x.args[i] y.args[i])) ∧ Below wr.drew.heap.size wr.drew X' := fun X hX => (rsame_any x.args[i] y.args[i] _ _ X (ArgsAt.keep (hTd.bel.trans (hX.mono hTd.bel.size)) (Nat.le_refl _) hs) (ArgsAt.keep (hTd.bel.trans (hX.mono hTd.bel.size)) (Nat.le_refl _) hs')).mono fun e X' ⟨h1, h2⟩ => ⟨h1, hX.trans (h2.mono hX.size)⟩
            have gt : ∀ X, Below wr.drew.heap.size wr.drew X → Calls Tryz.prog 56 #[.agg #[.slice an g.ns.length cn, .slice aw g.ws.length cw], .agg #[.int .i64 x.args[i].v, .string x.args[i].fn, .slice sa x.args[i].args.length sca], .agg #[.int .i64 y.args[i].v, .string y.args[i].fn, .slice sb y.args[i].args.length scb]] X fun e X' => e = .returned (.bool (grB g x.args[i] y.args[i])) ∧ Below wr.drew.heap.size wr.drew X' := fun X hX => (HP.out.2.2.2.2.2 x.args[i] (List.getElem_mem hlt) y.args[i] _ _ _ _ X (HP.out.1.keep (hTd.bel.trans (hX.mono hTd.bel.size)) (Nat.le_refl _)) (ArgsAt.keep (hTd.bel.trans (hX.mono hTd.bel.size)) (Nat.le_refl _) hs) (ArgsAt.keep (hTd.bel.trans (hX.mono hTd.bel.size)) (Nat.le_refl _) hs') (Int.le_trans hz1 HP.out.2.2.2.1) (Int.le_trans hz2 HP.out.2.2.2.2.1)).mono fun e X' ⟨h1, h2⟩ => ⟨h1, hX.trans (h2.mono hX.size)⟩
            have hC2 : ∀ X, Below wr.drew.heap.size wr.drew X → (X.cell? ⟨w.heap.size, 0, none⟩ = some (.slice an g.ns.length cn) ∧ X.cell? ⟨w.heap.size, 1, none⟩ = some (.slice aw g.ws.length cw) ∧ X.cell? ⟨w.heap.size + 1, 2, none⟩ = some (.slice (some ⟨ba, oa, none⟩) x.args.length ca) ∧ X.cell? ⟨w.heap.size + 1 + 1, 2, none⟩ = some (.slice (some ⟨bb, ob, none⟩) y.args.length cb)) ∧ (X.cell? ⟨ba, oa + i * 3, none⟩ = some (.int .i64 x.args[i].v) ∧ X.cell? ⟨ba, oa + i * 3 + 1, none⟩ = some (.string x.args[i].fn) ∧ X.cell? ⟨ba, oa + i * 3 + 2, none⟩ = some (.slice sa x.args[i].args.length sca)) ∧ (X.cell? ⟨bb, ob + i * 3, none⟩ = some (.int .i64 y.args[i].v) ∧ X.cell? ⟨bb, ob + i * 3 + 1, none⟩ = some (.string y.args[i].fn) ∧ X.cell? ⟨bb, ob + i * 3 + 2, none⟩ = some (.slice sb y.args[i].args.length scb)) := fun X hX => by
              have hbX := hTd.bel.trans (hX.mono hTd.bel.size)
              have hq := hTd.keep hX
              exact ⟨⟨hq.g0, hq.g1, hq.a2, hq.b2⟩, ⟨kc hbX hba a0, kc hbX hba a1, kc hbX hba a2⟩, kc hbX hbb b0, kc hbX hbb b1, kc hbX hbb b2⟩
            have HO : Hid (∀ X, Below wr.drew.heap.size wr.drew X → Tri w (.slice an g.ns.length cn) (.slice aw g.ws.length cw) x (.slice (some ⟨ba, oa, none⟩) x.args.length ca) y (.slice (some ⟨bb, ob, none⟩) y.args.length cb) X) := fun X hX => hTd.keep hX
            have HNx : Hid (x.args[i] = y.args[i] → x.args.take (i + 1) = y.args.take (i + 1)) := fun h => by
              rw [List.take_succ_eq_append_getElem hlt, List.take_succ_eq_append_getElem hlt', HE.out, h]
            have HFa : Hid (x.args[i] ≠ y.args[i] → grB g x y = grB g x.args[i] y.args[i]) := fun h => bool_iff (by
              rw [HGA.out.1, grs_at x.args y.args i hlt hlt' HE.out h, grB_iff])
            have K0 := hC2 _ (Below.refl _ _)
            obtain ⟨⟨m0, m1⟩, ⟨m2, m3, m4⟩, m5, m6, m7⟩ := hC _ HR.out
            obtain ⟨u, hu⟩ : ∃ u, x.args[i] = u := ⟨_, rfl⟩
            obtain ⟨v, hv⟩ : ∃ v, y.args[i] = v := ⟨_, rfl⟩
            rw [hu, hv] at sm gt HNx HFa
            rw [hu, hv] at K0
            simp only [hu, hv] at hC2
            have hi1 : (0 : Int) ≤ (i : Int) := by omega
            have hi2 : (i : Int) < (x.args.length : Int) := by omega
            have hi3 : (i : Int) < (y.args.length : Int) := by omega
            clear hu hv hs hs' a0 a1 a2 b0 b1 b2 hTd hz1 hz2
            by_cases hsm : u = v
            · have HT : Hid (x.args.take (i + 1) = y.args.take (i + 1)) := HNx.out hsm
              rw [same_iff.2 hsm] at sm
              clear hsm HNx HFa gt
              go_wp2
              go_region_held3 (fun X => (X.cell? ⟨w.heap.size, 0, none⟩ = some (.slice an g.ns.length cn) ∧ X.cell? ⟨w.heap.size, 1, none⟩ = some (.slice aw g.ws.length cw) ∧ X.cell? ⟨w.heap.size + 1, 2, none⟩ = some (.slice (some ⟨ba, oa, none⟩) x.args.length ca) ∧ X.cell? ⟨w.heap.size + 1 + 1, 2, none⟩ = some (.slice (some ⟨bb, ob, none⟩) y.args.length cb)) ∧ (X.cell? ⟨ba, oa + i * 3, none⟩ = some (.int .i64 u.v) ∧ X.cell? ⟨ba, oa + i * 3 + 1, none⟩ = some (.string u.fn) ∧ X.cell? ⟨ba, oa + i * 3 + 2, none⟩ = some (.slice sa u.args.length sca)) ∧ (X.cell? ⟨bb, ob + i * 3, none⟩ = some (.int .i64 v.v) ∧ X.cell? ⟨bb, ob + i * 3 + 1, none⟩ = some (.string v.fn) ∧ X.cell? ⟨bb, ob + i * 3 + 2, none⟩ = some (.slice sb v.args.length scb))) (first | exact K0 | exact K3) (first
                | (go_at_call 54; refine (sm _ (Below.refl _ _)).mono ?_; rintro e W5 ⟨rfl, hb5⟩; have K3 := hC2 _ hb5))
              have HT5 : Hid (Tri w (.slice an g.ns.length cn) (.slice aw g.ws.length cw) x (.slice (some ⟨ba, oa, none⟩) x.args.length ca) y (.slice (some ⟨bb, ob, none⟩) y.args.length cb) W5) := HO.out _ hb5
              clear K0 K3 hb5 hC2 sm
              go_wp2
              go_roundw
              case rel => exact ⟨i + 1, by go_num, by omega, HT, HT5⟩
              case measure => simp [intOf]; omega
            · have HF2 : Hid (grB g x y = grB g u v) := HFa.out hsm
              rw [same_false.2 hsm] at sm
              clear hsm HNx HFa
              go_wp2
              go_region_held3 (fun X => (X.cell? ⟨w.heap.size, 0, none⟩ = some (.slice an g.ns.length cn) ∧ X.cell? ⟨w.heap.size, 1, none⟩ = some (.slice aw g.ws.length cw) ∧ X.cell? ⟨w.heap.size + 1, 2, none⟩ = some (.slice (some ⟨ba, oa, none⟩) x.args.length ca) ∧ X.cell? ⟨w.heap.size + 1 + 1, 2, none⟩ = some (.slice (some ⟨bb, ob, none⟩) y.args.length cb)) ∧ (X.cell? ⟨ba, oa + i * 3, none⟩ = some (.int .i64 u.v) ∧ X.cell? ⟨ba, oa + i * 3 + 1, none⟩ = some (.string u.fn) ∧ X.cell? ⟨ba, oa + i * 3 + 2, none⟩ = some (.slice sa u.args.length sca)) ∧ (X.cell? ⟨bb, ob + i * 3, none⟩ = some (.int .i64 v.v) ∧ X.cell? ⟨bb, ob + i * 3 + 1, none⟩ = some (.string v.fn) ∧ X.cell? ⟨bb, ob + i * 3 + 2, none⟩ = some (.slice sb v.args.length scb))) (first | exact K0 | exact K3) (first
                | (go_at_call 54; refine (sm _ (Below.refl _ _)).mono ?_; rintro e W5 ⟨rfl, hb5⟩; have K3 := hC2 _ hb5))
              have hb5d : Below wr.drew.heap.size wr.drew W5.drew := hb5.trans ((Below.refl _ W5).drew.mono hb5.size)
              have K5 := hC2 _ hb5d
              clear K0 K3 sm
              go_wp2
              go_region_held3 (fun X => (X.cell? ⟨w.heap.size, 0, none⟩ = some (.slice an g.ns.length cn) ∧ X.cell? ⟨w.heap.size, 1, none⟩ = some (.slice aw g.ws.length cw) ∧ X.cell? ⟨w.heap.size + 1, 2, none⟩ = some (.slice (some ⟨ba, oa, none⟩) x.args.length ca) ∧ X.cell? ⟨w.heap.size + 1 + 1, 2, none⟩ = some (.slice (some ⟨bb, ob, none⟩) y.args.length cb)) ∧ (X.cell? ⟨ba, oa + i * 3, none⟩ = some (.int .i64 u.v) ∧ X.cell? ⟨ba, oa + i * 3 + 1, none⟩ = some (.string u.fn) ∧ X.cell? ⟨ba, oa + i * 3 + 2, none⟩ = some (.slice sa u.args.length sca)) ∧ (X.cell? ⟨bb, ob + i * 3, none⟩ = some (.int .i64 v.v) ∧ X.cell? ⟨bb, ob + i * 3 + 1, none⟩ = some (.string v.fn) ∧ X.cell? ⟨bb, ob + i * 3 + 2, none⟩ = some (.slice sb v.args.length scb))) (first | exact K5 | exact K6) (first
                | (go_at_call 56; refine (gt _ hb5d).mono ?_; rintro e W6 ⟨rfl, hb6⟩; have K6 := hC2 _ hb6))
              go_wp2
              go_ret
              exact ⟨ret_bool HF2.out.symm, (HO.out _ hb6).bel⟩
          · have HF2 : Hid (grB g x y = false) := by
              have h1 := HE.out
              rw [List.take_of_length_le (by omega), List.take_of_length_le (by have := HGA.out.2; omega)] at h1
              refine grB_no.2 fun k => ?_
              have := HGA.out.1.1 (grB_iff.2 k)
              rw [h1] at this
              exact grs_irrefl g _ this
            obtain ⟨⟨m0, m1⟩, ⟨m2, m3, m4⟩, m5, m6, m7⟩ := hC _ HR.out
            go_wp2
            go_ret
            exact ⟨ret_bool HF2.out.symm, HR.out.bel⟩
      · have e1 : (qx != qy) = true := by rw [bne_iff_ne]; exact hw
        have HF2 : Hid (grB g x y = decide (qy < qx)) := by
          show _ = _
          rw [grB_wt HVL.out (by rw [HQ.out.1, HQ.out.2]; exact hw), HQ.out.1, HQ.out.2]
        clear hw
        go_wp2
        go_ret
        exact ⟨ret_bool HF2.out.symm, HT4.out.bel⟩
theorem rgreater_any (g : Sg) (x : T) : GrAt g x := by
  induction x using T.ind with
  | _ x ih => exact rgreater_step g x ih
end Go.Proofs.YtglphfhlpobgcaaGreat

namespace Go.Proofs.YtglphfhlpobgcaaGreat
open Go.RowKit Go.Maps
set_option maxRecDepth 100000 in
set_option maxHeartbeats 4000000 in
theorem krcompare_any (g : Sg) (x y : T) (vn vw sx sy : Value) (w : World) (hg : SgAt w g vn vw) (hax : ArgsAt w sx x.args) (hay : ArgsAt w sy y.args) (hzx : x.size ≤ 1048576) (hzy : y.size ≤ 1048576) :
    Calls Tryz.prog 28 #[gval vn vw, tval x sx, tval y sy] w fun e w' => e = .returned (.int .i64 (ccmp g x y)) ∧ Below w.heap.size w w' := by
  obtain ⟨an, cn, rfl, _, _⟩ := hg.ns.slice
  obtain ⟨aw, cw, rfl, _, _⟩ := hg.ws.slice
  obtain ⟨a, ca, rfl, _, _⟩ := hax.slice
  obtain ⟨b, cb, rfl, _, _⟩ := hay.slice
  have hT := tri_made w (.slice an g.ns.length cn) (.slice aw g.ws.length cw) 25 x (.slice a x.args.length ca) y (.slice b y.args.length cb)
  have hC : ∀ X, Tri w (.slice an g.ns.length cn) (.slice aw g.ws.length cw) x (.slice a x.args.length ca) y (.slice b y.args.length cb) X → (X.cell? ⟨w.heap.size, 0, none⟩ = some (.slice an g.ns.length cn) ∧ X.cell? ⟨w.heap.size, 1, none⟩ = some (.slice aw g.ws.length cw)) ∧ (X.cell? ⟨w.heap.size + 1, 0, none⟩ = some (.int .i64 x.v) ∧ X.cell? ⟨w.heap.size + 1, 1, none⟩ = some (.string x.fn) ∧ X.cell? ⟨w.heap.size + 1, 2, none⟩ = some (.slice a x.args.length ca)) ∧ (X.cell? ⟨w.heap.size + 1 + 1, 0, none⟩ = some (.int .i64 y.v) ∧ X.cell? ⟨w.heap.size + 1 + 1, 1, none⟩ = some (.string y.fn) ∧ X.cell? ⟨w.heap.size + 1 + 1, 2, none⟩ = some (.slice b y.args.length cb)) := fun X h => ⟨⟨h.g0, h.g1⟩, ⟨h.a0, h.a1, h.a2⟩, h.b0, h.b1, h.b2⟩
  have h10 : ∀ X, Tri w (.slice an g.ns.length cn) (.slice aw g.ws.length cw) x (.slice a x.args.length ca) y (.slice b y.args.length cb) X → Calls Tryz.prog 22 #[.agg #[.slice an g.ns.length cn, .slice aw g.ws.length cw]] X fun e X' => e = .returned (.bool g.ok) ∧ Tri w (.slice an g.ns.length cn) (.slice aw g.ws.length cw) x (.slice a x.args.length ca) y (.slice b y.args.length cb) X' := fun X hX => (rgright_any g _ _ X (hg.keep hX.bel (Nat.le_refl _))).mono fun e X' ⟨h1, h2⟩ => ⟨h1, hX.keep h2⟩
  have h22x : ∀ X, Tri w (.slice an g.ns.length cn) (.slice aw g.ws.length cw) x (.slice a x.args.length ca) y (.slice b y.args.length cb) X → Calls Tryz.prog 46 #[tval x (.slice a x.args.length ca)] X fun e X' => e = .returned (.int .i64 x.rightW) ∧ Tri w (.slice an g.ns.length cn) (.slice aw g.ws.length cw) x (.slice a x.args.length ca) y (.slice b y.args.length cb) X' := fun X hX => (rright_any x _ X (ArgsAt.keep hX.bel (Nat.le_refl _) hax)).mono fun e X' ⟨h1, h2⟩ => ⟨h1, hX.keep h2⟩
  have h22y : ∀ X, Tri w (.slice an g.ns.length cn) (.slice aw g.ws.length cw) x (.slice a x.args.length ca) y (.slice b y.args.length cb) X → Calls Tryz.prog 46 #[tval y (.slice b y.args.length cb)] X fun e X' => e = .returned (.int .i64 y.rightW) ∧ Tri w (.slice an g.ns.length cn) (.slice aw g.ws.length cw) x (.slice a x.args.length ca) y (.slice b y.args.length cb) X' := fun X hX => (rright_any y _ X (ArgsAt.keep hX.bel (Nat.le_refl _) hay)).mono fun e X' ⟨h1, h2⟩ => ⟨h1, hX.keep h2⟩
  have h34 : ∀ X, Tri w (.slice an g.ns.length cn) (.slice aw g.ws.length cw) x (.slice a x.args.length ca) y (.slice b y.args.length cb) X → Calls Tryz.prog 54 #[tval x (.slice a x.args.length ca), tval y (.slice b y.args.length cb)] X fun e X' => e = .returned (.bool (same x y)) ∧ Tri w (.slice an g.ns.length cn) (.slice aw g.ws.length cw) x (.slice a x.args.length ca) y (.slice b y.args.length cb) X' := fun X hX => (rsame_any x y _ _ X (ArgsAt.keep hX.bel (Nat.le_refl _) hax) (ArgsAt.keep hX.bel (Nat.le_refl _) hay)).mono fun e X' ⟨h1, h2⟩ => ⟨h1, hX.keep h2⟩
  have h35x : ∀ X, Tri w (.slice an g.ns.length cn) (.slice aw g.ws.length cw) x (.slice a x.args.length ca) y (.slice b y.args.length cb) X → Calls Tryz.prog 56 #[.agg #[.slice an g.ns.length cn, .slice aw g.ws.length cw], tval x (.slice a x.args.length ca), tval y (.slice b y.args.length cb)] X fun e X' => e = .returned (.bool (grB g x y)) ∧ Tri w (.slice an g.ns.length cn) (.slice aw g.ws.length cw) x (.slice a x.args.length ca) y (.slice b y.args.length cb) X' := fun X hX => (rgreater_any g x y _ _ _ _ X (hg.keep hX.bel (Nat.le_refl _)) (ArgsAt.keep hX.bel (Nat.le_refl _) hax) (ArgsAt.keep hX.bel (Nat.le_refl _) hay) hzx hzy).mono fun e X' ⟨h1, h2⟩ => ⟨h1, hX.keep h2⟩
  have h35y : ∀ X, Tri w (.slice an g.ns.length cn) (.slice aw g.ws.length cw) x (.slice a x.args.length ca) y (.slice b y.args.length cb) X → Calls Tryz.prog 56 #[.agg #[.slice an g.ns.length cn, .slice aw g.ws.length cw], tval y (.slice b y.args.length cb), tval x (.slice a x.args.length ca)] X fun e X' => e = .returned (.bool (grB g y x)) ∧ Tri w (.slice an g.ns.length cn) (.slice aw g.ws.length cw) x (.slice a x.args.length ca) y (.slice b y.args.length cb) X' := fun X hX => (rgreater_any g y x _ _ _ _ X (hg.keep hX.bel (Nat.le_refl _)) (ArgsAt.keep hX.bel (Nat.le_refl _) hay) (ArgsAt.keep hX.bel (Nat.le_refl _) hax) hzy hzx).mono fun e X' ⟨h1, h2⟩ => ⟨h1, hX.keep h2⟩
  have hB : ∀ X, Tri w (.slice an g.ns.length cn) (.slice aw g.ws.length cw) x (.slice a x.args.length ca) y (.slice b y.args.length cb) X → Below w.heap.size w X := fun X h => h.bel
  obtain ⟨S, hS⟩ : ∃ S, Tri w (.slice an g.ns.length cn) (.slice aw g.ws.length cw) x (.slice a x.args.length ca) y (.slice b y.args.length cb) = S := ⟨_, rfl⟩
  rw [hS] at hT hC h10 h22x h22y h34 h35x h35y hB
  clear hS hg hax hay hzx hzy
  obtain ⟨⟨i0, i1⟩, ⟨j0, j1, j2⟩, k0, k1, k2⟩ := hC _ hT
  by_cases hok : g.Ok
  · rw [ok_iff.2 hok] at h10
    by_cases hrx : x.rightW = 0
    · rw [hrx] at h22x
      by_cases hry : y.rightW = 0
      · rw [hry] at h22y
        have hkc : ccmp g x y = kcmp g x y := by unfold ccmp; rw [if_pos ⟨hok, hrx, hry⟩]
        clear hok hrx hry
        go_enter Tryz.func28, Tryz.ntmps28
        go_wp2_with fail
        refine (h10 _ hT).mono ?_
        rintro e W2 ⟨rfl, hT2⟩
        obtain ⟨⟨l0, l1⟩, ⟨m0, m1, m2⟩, n0, n1, n2⟩ := hC _ hT2
        go_wp2_with fail
        refine (h22x _ hT2).mono ?_
        rintro e W3 ⟨rfl, hT3⟩
        obtain ⟨⟨o0, o1⟩, ⟨q0, q1, q2⟩, r0, r1, r2⟩ := hC _ hT3
        go_wp2_with fail
        refine (h22y _ hT3).mono ?_
        rintro e W4 ⟨rfl, hT4⟩
        obtain ⟨⟨s0, s1⟩, ⟨t0, t1, t2⟩, u0, u1, u2⟩ := hC _ hT4
        clear i0 i1 j0 j1 j2 k0 k1 k2 l0 l1 m0 m1 m2 n0 n1 n2 o0 o1 q0 q1 q2 r0 r1 r2 hT hT2 hT3 h10 h22x h22y
        go_wp2_with fail
        by_cases hsm : x = y
        · have HV : Hid (ccmp g x y = 0) := by show _ = _; rw [hkc]; exact kcmp_zero.2 hsm
          rw [same_iff.2 hsm] at h34
          clear hkc hsm
          refine (h34 _ hT4).mono ?_
          rintro e W5 ⟨rfl, hT5⟩
          go_wp2
          go_ret
          exact ⟨ret_i64 HV.out.symm, hB _ hT5⟩
        rw [same_false.2 hsm] at h34
        refine (h34 _ hT4).mono ?_
        rintro e W5 ⟨rfl, hT5⟩
        obtain ⟨⟨s0, s1⟩, ⟨t0, t1, t2⟩, u0, u1, u2⟩ := hC _ hT5
        by_cases h1 : gr g x y
        · have HV : Hid (ccmp g x y = 1) := by show _ = _; rw [hkc]; exact kcmp_gr.2 h1
          rw [grB_iff.2 h1] at h35x
          clear hkc hsm h1
          go_wp2_with fail
          refine (h35x _ hT5).mono ?_
          rintro e W6 ⟨rfl, hT6⟩
          go_wp2
          go_ret
          exact ⟨ret_i64 HV.out.symm, hB _ hT6⟩
        rw [grB_no.2 h1] at h35x
        go_wp2_with fail
        refine (h35x _ hT5).mono ?_
        rintro e W6 ⟨rfl, hT6⟩
        obtain ⟨⟨s0, s1⟩, ⟨t0, t1, t2⟩, u0, u1, u2⟩ := hC _ hT6
        by_cases h2 : gr g y x
        · have HV : Hid (ccmp g x y = -1) := by show _ = _; rw [hkc]; exact kcmp_ls.2 h2
          rw [grB_iff.2 h2] at h35y
          clear hkc hsm h1 h2
          go_wp2_with fail
          refine (h35y _ hT6).mono ?_
          rintro e W7 ⟨rfl, hT7⟩
          go_wp2
          go_ret
          exact ⟨ret_i64 HV.out.symm, hB _ hT7⟩
        · have HV : Hid (ccmp g x y = 2) := by show _ = _; rw [hkc]; exact kcmp_none hsm h1 h2
          rw [grB_no.2 h2] at h35y
          clear hkc hsm h1 h2
          go_wp2_with fail
          refine (h35y _ hT6).mono ?_
          rintro e W7 ⟨rfl, hT7⟩
          go_wp2
          go_ret
          exact ⟨ret_i64 HV.out.symm, hB _ hT7⟩
      · have HV : Hid (ccmp g x y = 2) := by show _ = _; unfold ccmp; rw [if_neg (fun h => hry h.2.2)]
        have e3 : (y.rightW != 0) = true := by rw [bne_iff_ne]; exact hry
        clear hok hrx hry
        go_enter Tryz.func28, Tryz.ntmps28
        go_wp2_with fail
        refine (h10 _ hT).mono ?_
        rintro e W2 ⟨rfl, hT2⟩
        obtain ⟨⟨l0, l1⟩, ⟨m0, m1, m2⟩, n0, n1, n2⟩ := hC _ hT2
        go_wp2_with fail
        refine (h22x _ hT2).mono ?_
        rintro e W3 ⟨rfl, hT3⟩
        obtain ⟨⟨o0, o1⟩, ⟨q0, q1, q2⟩, r0, r1, r2⟩ := hC _ hT3
        go_wp2_with fail
        refine (h22y _ hT3).mono ?_
        rintro e W4 ⟨rfl, hT4⟩
        go_wp2
        go_ret
        exact ⟨ret_i64 HV.out.symm, hB _ hT4⟩
    · have HV : Hid (ccmp g x y = 2) := by show _ = _; unfold ccmp; rw [if_neg (fun h => hrx h.2.1)]
      have e3 : (x.rightW != 0) = true := by rw [bne_iff_ne]; exact hrx
      clear hok hrx
      go_enter Tryz.func28, Tryz.ntmps28
      go_wp2_with fail
      refine (h10 _ hT).mono ?_
      rintro e W2 ⟨rfl, hT2⟩
      obtain ⟨⟨l0, l1⟩, ⟨m0, m1, m2⟩, n0, n1, n2⟩ := hC _ hT2
      go_wp2_with fail
      refine (h22x _ hT2).mono ?_
      rintro e W3 ⟨rfl, hT3⟩
      go_wp2
      go_ret
      exact ⟨ret_i64 HV.out.symm, hB _ hT3⟩
  · have HV : Hid (ccmp g x y = 2) := by show _ = _; unfold ccmp; rw [if_neg (fun h => hok h.1)]
    rw [ok_no.2 hok] at h10
    clear hok
    go_enter Tryz.func28, Tryz.ntmps28
    go_wp2_with fail
    refine (h10 _ hT).mono ?_
    rintro e W2 ⟨rfl, hT2⟩
    go_wp2
    go_ret
    exact ⟨ret_i64 HV.out.symm, hB _ hT2⟩
end Go.Proofs.YtglphfhlpobgcaaGreat
