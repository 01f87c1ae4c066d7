import Derived.Test.YtglphfhlpobgcaaGreatKK
import Derived.Test.YtglphfhlpobgcaaGreatWJ

namespace Go.Proofs.YtglphfhlpobgcaaGreat
open Go.RowKit Go.Maps
def ordV (tie wt : Int) : Int := if wt = 0 then tie else cI wt 0
def toldV (tie wt m f : Int) : Int := if (ordV tie wt = 1 ∧ 0 < f) ∨ (ordV tie wt = -1 ∧ 0 < m) then 2 else ordV tie wt
set_option maxRecDepth 100000 in
set_option maxHeartbeats 1000000 in
theorem told_any (p : Nat) (vn vw : Value) (bp : Nat) (wt : Int) (bc : Nat) (m f tie : Int) (W : World) (hbox : SBox W p vn vw bp wt bc m f) :
    Calls Tryz.prog 90 #[.pointer (some ⟨p, 0, none⟩), .int .i64 tie] W fun e W' => e = .returned (.int .i64 (toldV tie wt m f)) ∧ W' = W := by
  obtain ⟨⟨c0, c1, c2, c3, c4, c5, c6⟩, _⟩ := sbox_facts hbox
  have HE : Hid (∀ o, ordV tie wt = o → toldV tie wt m f = if (o = 1 ∧ 0 < f) ∨ (o = -1 ∧ 0 < m) then 2 else o) := fun o h => by unfold toldV; rw [h]
  have key : ∀ o, ordV tie wt = o → Hid ((o = 1 → 0 < f → toldV tie wt m f = 2) ∧ (o = 1 → ¬ 0 < f → toldV tie wt m f = 1) ∧ (o = -1 → 0 < m → toldV tie wt m f = 2) ∧ (o = -1 → ¬ 0 < m → toldV tie wt m f = -1) ∧ (o ≠ 1 → o ≠ -1 → toldV tie wt m f = o)) := fun o h => by
    have := HE.out o h
    refine ⟨fun h1 h2 => ?_, fun h1 h2 => ?_, fun h1 h2 => ?_, fun h1 h2 => ?_, fun h1 h2 => ?_⟩
    · rw [this, if_pos (.inl ⟨h1, h2⟩)]
    · rw [this, if_neg (by omega), h1]
    · rw [this, if_pos (.inr ⟨h1, h2⟩)]
    · rw [this, if_neg (by omega), h1]
    · rw [this, if_neg (by omega)]
  clear HE hbox
  by_cases hw : wt = 0
  · have HK := key tie (by unfold ordV; rw [if_pos hw])
    have e0 : (wt != 0) = false := by rw [hw]; rfl
    have HW : Hid (wt = 0) := hw
    clear hw key
    by_cases h1 : tie = 1
    · subst h1
      by_cases h2 : 0 < f
      · have e2 : decide (0 < f) = true := decide_eq_true h2
        have HV : Hid (toldV _ wt m f = 2) := HK.out.1 rfl h2
        clear HK
        go_enter Tryz.func90, Tryz.ntmps90
        go_wp2
        go_ret
        exact ⟨ret_i64 HV.out.symm, rfl⟩
      · have e2 : decide (0 < f) = false := decide_eq_false h2
        have HV : Hid (toldV _ wt m f = 1) := HK.out.2.1 rfl h2
        clear HK
        go_enter Tryz.func90, Tryz.ntmps90
        go_wp2
        go_ret
        exact ⟨ret_i64 HV.out.symm, rfl⟩
    have e1 : (tie == 1) = false := by rw [beq_eq_false_iff_ne]; exact h1
    by_cases h3 : tie = -1
    · subst h3
      by_cases h2 : 0 < m
      · have e2 : decide (0 < m) = true := decide_eq_true h2
        have HV : Hid (toldV _ wt m f = 2) := HK.out.2.2.1 rfl h2
        clear HK
        go_enter Tryz.func90, Tryz.ntmps90
        go_wp2
        go_ret
        exact ⟨ret_i64 HV.out.symm, rfl⟩
      · have e2 : decide (0 < m) = false := decide_eq_false h2
        have HV : Hid (toldV _ wt m f = -1) := HK.out.2.2.2.1 rfl h2
        clear HK
        go_enter Tryz.func90, Tryz.ntmps90
        go_wp2
        go_ret
        exact ⟨ret_i64 HV.out.symm, rfl⟩
    have e3 : (tie == -1) = false := by rw [beq_eq_false_iff_ne]; exact h3
    have HV : Hid (toldV tie wt m f = tie) := HK.out.2.2.2.2 h1 h3
    clear h1 h3
    go_enter Tryz.func90, Tryz.ntmps90
    go_wp2
    go_ret
    exact ⟨ret_i64 HV.out.symm, rfl⟩
  · have e0 : (wt != 0) = true := by rw [bne_iff_ne]; exact hw
    by_cases hp : 0 < wt
    · have hs : cI wt 0 = 1 := by unfold cI Lib.compareInt; rw [if_neg (by omega), if_pos (by omega)]
      have HK := key 1 (by unfold ordV; rw [if_neg hw, hs])
      have hcall := cmpInt_any wt 0 W
      rw [hs] at hcall
      clear hs key hw
      by_cases h2 : 0 < f
      · have e2 : decide (0 < f) = true := decide_eq_true h2
        have HV : Hid (toldV _ wt m f = 2) := HK.out.1 rfl h2
        clear HK
        go_enter Tryz.func90, Tryz.ntmps90
        go_wp2_with (first | (go_at_call 134; refine hcall.mono ?_; rintro e w3 ⟨rfl, rfl⟩))
        go_ret
        exact ⟨ret_i64 HV.out.symm, rfl⟩
      · have e2 : decide (0 < f) = false := decide_eq_false h2
        have HV : Hid (toldV _ wt m f = 1) := HK.out.2.1 rfl h2
        clear HK
        go_enter Tryz.func90, Tryz.ntmps90
        go_wp2_with (first | (go_at_call 134; refine hcall.mono ?_; rintro e w3 ⟨rfl, rfl⟩))
        go_ret
        exact ⟨ret_i64 HV.out.symm, rfl⟩
    · have hs : cI wt 0 = -1 := by unfold cI Lib.compareInt; rw [if_pos (by omega)]
      have HK := key (-1) (by unfold ordV; rw [if_neg hw, hs])
      have hcall := cmpInt_any wt 0 W
      rw [hs] at hcall
      clear hs key hw
      by_cases h2 : 0 < m
      · have e2 : decide (0 < m) = true := decide_eq_true h2
        have HV : Hid (toldV _ wt m f = 2) := HK.out.2.2.1 rfl h2
        clear HK
        go_enter Tryz.func90, Tryz.ntmps90
        go_wp2_with (first | (go_at_call 134; refine hcall.mono ?_; rintro e w3 ⟨rfl, rfl⟩))
        go_ret
        exact ⟨ret_i64 HV.out.symm, rfl⟩
      · have e2 : decide (0 < m) = false := decide_eq_false h2
        have HV : Hid (toldV _ wt m f = -1) := HK.out.2.2.2.1 rfl h2
        clear HK
        go_enter Tryz.func90, Tryz.ntmps90
        go_wp2_with (first | (go_at_call 134; refine hcall.mono ?_; rintro e w3 ⟨rfl, rfl⟩))
        go_ret
        exact ⟨ret_i64 HV.out.symm, rfl⟩
end Go.Proofs.YtglphfhlpobgcaaGreat

namespace Go.Proofs.YtglphfhlpobgcaaGreat
open Go.RowKit Go.Maps
def headsV (g : Sg) (a b : T) : Int :=
  if a.fn.size = 0 ∧ b.fn.size = 0 ∧ a.v = b.v then 0 else if a.fn.size = 0 ∨ b.fn.size = 0 then 2 else if g.above a.fn b.fn = true ∨ (a.fn = b.fn ∧ b.args.length < a.args.length) then 1 else -1
structure Two (w : World) (x : T) (sx : Value) (y : T) (sy : Value) (X : World) : Prop where
  a0 : X.cell? ⟨w.heap.size, 0, none⟩ = some (.int .i64 x.v)
  a1 : X.cell? ⟨w.heap.size, 1, none⟩ = some (.string x.fn)
  a2 : X.cell? ⟨w.heap.size, 2, none⟩ = some sx
  b0 : X.cell? ⟨w.heap.size + 1, 0, none⟩ = some (.int .i64 y.v)
  b1 : X.cell? ⟨w.heap.size + 1, 1, none⟩ = some (.string y.fn)
  b2 : X.cell? ⟨w.heap.size + 1, 2, none⟩ = some sy
  bel : Below w.heap.size w X
  siz : w.heap.size + 2 ≤ X.heap.size
theorem two_made (w : World) (x : T) (sx : Value) (y : T) (sy : Value) : Two w x sx y sy (tbox2 w x sx y sy) := by
  obtain ⟨⟨t0, t1, t2⟩, u0, u1, u2⟩ := tbox2_cells w x sx y sy
  exact ⟨t0, t1, t2, u0, u1, u2, below_box2 w _ _, by simp⟩
theorem Two.keep {w : World} {x : T} {sx : Value} {y : T} {sy : Value} {X X' : World} (h : Two w x sx y sy X) (hb : Below X.heap.size X X') : Two w x sx y sy X' := by
  have hs := h.siz
  exact ⟨kc hb (by omega) h.a0, kc hb (by omega) h.a1, kc hb (by omega) h.a2, kc hb (by omega) h.b0, kc hb (by omega) h.b1, kc hb (by omega) h.b2, h.bel.trans (hb.mono h.bel.size), Nat.le_trans hs hb.size⟩
set_option maxRecDepth 100000 in
set_option maxHeartbeats 2000000 in
theorem kheads_any (W0 : World) (g : Sg) (p bp bc : Nat) (vn vw : Value) (L : Nat) (wt : Int) (c : Int → Int) (x y : T) (a b : Option Addr) (ca cb : Nat) (W : World) (hS : Sc W0 g p bp bc vn vw L wt c W) :
    Calls Tryz.prog 91 #[.pointer (some ⟨p, 0, none⟩), tval x (.slice a x.args.length ca), tval y (.slice b y.args.length cb)] W fun e W' => e = .returned (.int .i64 (headsV g x y)) ∧ Below W.heap.size W W' := by
  have hT := two_made W x (.slice a x.args.length ca) y (.slice b y.args.length cb)
  have h49x : ∀ X, Two W x (.slice a x.args.length ca) y (.slice b y.args.length cb) X → Calls Tryz.prog 88 #[tval x (.slice a x.args.length ca)] X fun e X' => e = .returned (.bool (decide (x.fn.size = 0))) ∧ Two W x (.slice a x.args.length ca) y (.slice b y.args.length cb) X' := fun X hX => (kisVar_any x a _ ca X).mono fun e X' ⟨h1, h2⟩ => ⟨h1, hX.keep h2⟩
  have h49y : ∀ X, Two W x (.slice a x.args.length ca) y (.slice b y.args.length cb) X → Calls Tryz.prog 88 #[tval y (.slice b y.args.length cb)] X fun e X' => e = .returned (.bool (decide (y.fn.size = 0))) ∧ Two W x (.slice a x.args.length ca) y (.slice b y.args.length cb) X' := fun X hX => (kisVar_any y b _ cb X).mono fun e X' ⟨h1, h2⟩ => ⟨h1, hX.keep h2⟩
  have hC : ∀ X, Two W x (.slice a x.args.length ca) y (.slice b y.args.length cb) X → X.cell? ⟨W.heap.size, 0, none⟩ = some (.int .i64 x.v) ∧ X.cell? ⟨W.heap.size, 1, none⟩ = some (.string x.fn) ∧ X.cell? ⟨W.heap.size, 2, none⟩ = some (.slice a x.args.length ca) ∧ X.cell? ⟨W.heap.size + 1, 0, none⟩ = some (.int .i64 y.v) ∧ X.cell? ⟨W.heap.size + 1, 1, none⟩ = some (.string y.fn) ∧ X.cell? ⟨W.heap.size + 1, 2, none⟩ = some (.slice b y.args.length cb) := fun X h => ⟨h.a0, h.a1, h.a2, h.b0, h.b1, h.b2⟩
  have hB : ∀ X, Two W x (.slice a x.args.length ca) y (.slice b y.args.length cb) X → Below W.heap.size W X ∧ W.heap.size + 2 ≤ X.heap.size := fun X h => ⟨h.bel, h.siz⟩
  have HS : Hid (Sc W0 g p bp bc vn vw L wt c W) := hS
  have HD : Hid (headsV g x y = _) := rfl
  clear hS
  obtain ⟨S, hSS⟩ : ∃ S, Two W x (.slice a x.args.length ca) y (.slice b y.args.length cb) = S := ⟨_, rfl⟩
  rw [hSS] at hT h49x h49y hC hB
  clear hSS
  obtain ⟨i0, i1, i2, j0, j1, j2⟩ := hC _ hT
  by_cases hx : x.fn.size = 0
  · have ex : decide (x.fn.size = 0) = true := decide_eq_true hx
    rw [ex] at h49x
    by_cases hy : y.fn.size = 0
    · have ey : decide (y.fn.size = 0) = true := decide_eq_true hy
      rw [ey] at h49y
      by_cases hv : x.v = y.v
      · have HV : Hid (headsV g x y = 0) := by show _ = _; unfold headsV; rw [if_pos ⟨hx, hy, hv⟩]
        have ev : (x.v == y.v) = true := by rw [hv]; simp
        clear hx hy hv ex ey HD
        go_enter Tryz.func91, Tryz.ntmps91
        go_wp2_with fail
        refine (h49x _ hT).mono ?_
        rintro e W2 ⟨rfl, hT2⟩
        obtain ⟨k0, k1, k2, l0, l1, l2⟩ := hC _ hT2
        go_wp2_with fail
        refine (h49y _ hT2).mono ?_
        rintro e W3 ⟨rfl, hT3⟩
        obtain ⟨m0, m1, m2, n0, n1, n2⟩ := hC _ hT3
        go_wp2
        go_ret
        exact ⟨ret_i64 HV.out.symm, (hB _ hT3).1⟩
      · have HV : Hid (headsV g x y = 2) := by show _ = _; unfold headsV; rw [if_neg (fun h => hv h.2.2), if_pos (.inl hx)]
        have ev : (x.v == y.v) = false := by rw [beq_eq_false_iff_ne]; exact hv
        clear hx hy hv ex ey HD
        go_enter Tryz.func91, Tryz.ntmps91
        go_wp2_with fail
        refine (h49x _ hT).mono ?_
        rintro e W2 ⟨rfl, hT2⟩
        obtain ⟨k0, k1, k2, l0, l1, l2⟩ := hC _ hT2
        go_wp2_with fail
        refine (h49y _ hT2).mono ?_
        rintro e W3 ⟨rfl, hT3⟩
        obtain ⟨m0, m1, m2, n0, n1, n2⟩ := hC _ hT3
        go_wp2_with fail
        refine (h49x _ hT3).mono ?_
        rintro e W4 ⟨rfl, hT4⟩
        go_wp2
        go_ret
        exact ⟨ret_i64 HV.out.symm, (hB _ hT4).1⟩
    · have ey : decide (y.fn.size = 0) = false := decide_eq_false hy
      rw [ey] at h49y
      have HV : Hid (headsV g x y = 2) := by show _ = _; unfold headsV; rw [if_neg (fun h => hy h.2.1), if_pos (.inl hx)]
      clear hx hy ex ey HD
      go_enter Tryz.func91, Tryz.ntmps91
      go_wp2_with fail
      refine (h49x _ hT).mono ?_
      rintro e W2 ⟨rfl, hT2⟩
      obtain ⟨k0, k1, k2, l0, l1, l2⟩ := hC _ hT2
      go_wp2_with fail
      refine (h49y _ hT2).mono ?_
      rintro e W3 ⟨rfl, hT3⟩
      obtain ⟨m0, m1, m2, n0, n1, n2⟩ := hC _ hT3
      go_wp2_with fail
      refine (h49x _ hT3).mono ?_
      rintro e W4 ⟨rfl, hT4⟩
      go_wp2
      go_ret
      exact ⟨ret_i64 HV.out.symm, (hB _ hT4).1⟩
  have ex : decide (x.fn.size = 0) = false := decide_eq_false hx
  rw [ex] at h49x
  by_cases hy : y.fn.size = 0
  · have ey : decide (y.fn.size = 0) = true := decide_eq_true hy
    rw [ey] at h49y
    have HV : Hid (headsV g x y = 2) := by show _ = _; unfold headsV; rw [if_neg (fun h => hx h.1), if_pos (.inr hy)]
    clear hx hy ex ey HD
    go_enter Tryz.func91, Tryz.ntmps91
    go_wp2_with fail
    refine (h49x _ hT).mono ?_
    rintro e W2 ⟨rfl, hT2⟩
    obtain ⟨k0, k1, k2, l0, l1, l2⟩ := hC _ hT2
    go_wp2_with fail
    refine (h49x _ hT2).mono ?_
    rintro e W3 ⟨rfl, hT3⟩
    obtain ⟨m0, m1, m2, n0, n1, n2⟩ := hC _ hT3
    go_wp2_with fail
    refine (h49y _ hT3).mono ?_
    rintro e W4 ⟨rfl, hT4⟩
    go_wp2
    go_ret
    exact ⟨ret_i64 HV.out.symm, (hB _ hT4).1⟩
  have ey : decide (y.fn.size = 0) = false := decide_eq_false hy
  rw [ey] at h49y
  have HV : Hid (headsV g x y = if g.above x.fn y.fn = true ∨ (x.fn = y.fn ∧ y.args.length < x.args.length) then 1 else -1) := by show _ = _; unfold headsV; rw [if_neg (fun h => hx h.1), if_neg (fun h => h.elim hx hy)]
  clear hx hy ex ey HD
  have h15 : ∀ X, Below W.heap.size W X → Calls Tryz.prog 122 #[gval vn vw, .string x.fn, .string y.fn] X fun e X' => e = .returned (.bool (g.above x.fn y.fn)) ∧ Below X.heap.size X X' := fun X hX => above_any g x.fn y.fn vn vw X (HS.out.sg.keep (HS.out.bel.trans (hX.mono HS.out.bel.size)) (Nat.le_refl _))
  obtain ⟨⟨c0, c1, _, _, _, _, _⟩, _⟩ := sbox_facts HS.out.box
  have hpl := HS.out.lt
  obtain ⟨vna, vnc, rfl, _⟩ := HS.out.sg.ns.slice
  obtain ⟨vwa, vwc, rfl, _⟩ := HS.out.sg.ws.slice
  go_enter Tryz.func91, Tryz.ntmps91
  go_wp2_with fail
  refine (h49x _ hT).mono ?_
  rintro e W2 ⟨rfl, hT2⟩
  obtain ⟨k0, k1, k2, l0, l1, l2⟩ := hC _ hT2
  go_wp2_with fail
  refine (h49x _ hT2).mono ?_
  rintro e W3 ⟨rfl, hT3⟩
  obtain ⟨m0, m1, m2, n0, n1, n2⟩ := hC _ hT3
  go_wp2_with fail
  refine (h49y _ hT3).mono ?_
  rintro e W4 ⟨rfl, hT4⟩
  obtain ⟨q0, q1, q2, r0, r1, r2⟩ := hC _ hT4
  obtain ⟨hb4, hz4⟩ := hB _ hT4
  have p0 := cell_far (by omega) (kc hb4 hpl c0)
  have p1 := cell_far (by omega) (kc hb4 hpl c1)
  have q1' := cell_far (by omega) q1
  have q2' := cell_far (by omega) q2
  have r1' := cell_far (by omega) r1
  have r2' := cell_far (by omega) r2
  have h15' : ∀ X, Below W4.heap.size W4 X → Calls Tryz.prog 122 #[.agg #[.slice vna g.ns.length vnc, .slice vwa g.ws.length vwc], .string x.fn, .string y.fn] X fun e X' => e = .returned (.bool (g.above x.fn y.fn)) ∧ Below X.heap.size X X' := fun X hX => h15 X (hb4.trans (hX.mono hb4.size))
  have HB4 : Hid (Below W.heap.size W W4) := hb4
  clear i0 i1 i2 j0 j1 j2 k0 k1 k2 l0 l1 l2 m0 m1 m2 n0 n1 n2 q0 q1 q2 r0 r1 r2 h15 hC hB hT hT2 hT3 hT4 h49x h49y hb4
  cases ha : g.above x.fn y.fn
  · rw [ha] at h15' HV
    by_cases hf : x.fn = y.fn
    · have ef : (x.fn.toList == y.fn.toList) = true := by rw [hf]; simp
      by_cases hl : y.args.length < x.args.length
      · have HV2 : Hid (headsV g x y = 1) := by show _ = _; rw [HV.out, if_pos (.inr ⟨hf, hl⟩)]
        have el : decide ((y.args.length : Int) < (x.args.length : Int)) = true := decide_eq_true (by omega)
        clear HV hf ha
        go_wp2
        refine wp_region_far (by kernel_rfl) ?_
        repeat (first | go_big_quiet_step (exact calls_far h15' _) | quiet_step (exact calls_far h15' _))
        refine wpQuiet_nil ?_
        intro _ hw'
        obtain ⟨pf, rfl⟩ := hw'
        go_wp2
        go_ret
        exact ⟨ret_i64 HV2.out.symm, HB4.out.trans ((below_far _ pf).mono HB4.out.size)⟩
      · have HV2 : Hid (headsV g x y = -1) := by show _ = _; rw [HV.out, if_neg (by simp [hl])]
        have el : decide ((y.args.length : Int) < (x.args.length : Int)) = false := decide_eq_false (by omega)
        clear HV hf ha
        go_wp2
        refine wp_region_far (by kernel_rfl) ?_
        repeat (first | go_big_quiet_step (exact calls_far h15' _) | quiet_step (exact calls_far h15' _))
        refine wpQuiet_nil ?_
        intro _ hw'
        obtain ⟨pf, rfl⟩ := hw'
        go_wp2
        go_ret
        exact ⟨ret_i64 HV2.out.symm, HB4.out.trans ((below_far _ pf).mono HB4.out.size)⟩
    · have HV2 : Hid (headsV g x y = -1) := by show _ = _; rw [HV.out, if_neg (by simp [hf])]
      have ef : (x.fn.toList == y.fn.toList) = false := by rw [beq_eq_false_iff_ne]; exact fun h => hf (ba_toList_inj.1 h)
      clear HV hf ha
      go_wp2
      refine wp_region_far (by kernel_rfl) ?_
      repeat (first | go_big_quiet_step (exact calls_far h15' _) | quiet_step (exact calls_far h15' _))
      refine wpQuiet_nil ?_
      intro _ hw'
      obtain ⟨pf, rfl⟩ := hw'
      go_wp2
      go_ret
      exact ⟨ret_i64 HV2.out.symm, HB4.out.trans ((below_far _ pf).mono HB4.out.size)⟩
  · rw [ha] at h15' HV
    have HV2 : Hid (headsV g x y = 1) := by show _ = _; rw [HV.out, if_pos (.inl rfl)]
    clear HV ha
    go_wp2
    refine wp_region_far (by kernel_rfl) ?_
    repeat (first | go_big_quiet_step (exact calls_far h15' _) | quiet_step (exact calls_far h15' _))
    refine wpQuiet_nil ?_
    intro _ hw'
    obtain ⟨pf, rfl⟩ := hw'
    go_wp2
    go_ret
    exact ⟨ret_i64 HV2.out.symm, HB4.out.trans ((below_far _ pf).mono HB4.out.size)⟩
end Go.Proofs.YtglphfhlpobgcaaGreat
