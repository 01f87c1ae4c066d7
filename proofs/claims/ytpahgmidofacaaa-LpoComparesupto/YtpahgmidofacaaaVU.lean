import Derived.Test.YtpahgmidofacaaaVN
import Derived.Test.YtpahgmidofacaaaKF

/-
  The document's Compare over its Greater; LpoCompares' walk over the document's Compare.
-/
namespace Go.Proofs.Ytpahgmidofacaaa
open Go.RowKit Go.Maps

open Classical in
/-- Greater, told. -/
noncomputable def lgB (g : Sg) (x y : T) : Bool := decide (lg g x y)
theorem lgB_iff {g : Sg} {x y : T} : lgB g x y = true ↔ lg g x y := by simp [lgB]

/-- The contract of the document's Greater. -/
def GreaterOk : Prop := ∀ (g : Sg) (x y : T) (vn vw sx sy : Value) (w : World), SgAt w g vn vw → ArgsAt w sx x.args → ArgsAt w sy y.args → x.shape = true → y.shape = true → x.size ≤ 4000 → y.size ≤ 4000 →
  Calls Try.prog 27 #[gval vn vw, tval x sx, tval y sy] w fun e w' => e = .returned (.bool (lgB g x y)) ∧ Below w.heap.size w w'

set_option maxRecDepth 100000 in
set_option maxHeartbeats 4000000 in
theorem rcompare_of (h27 : GreaterOk) (g : Sg) (x y : T) (vn vw sx sy : Value) (w : World) (hg : SgAt w g vn vw) (hax : ArgsAt w sx x.args) (hay : ArgsAt w sy y.args) (hzx : x.size ≤ 1048576) (hzy : y.size ≤ 1048576) :
    Calls Try.prog 12 #[gval vn vw, tval x sx, tval y sy] w fun e w' => e = .returned (.int .i64 (lcmp g x y)) ∧ Below w.heap.size w w' := by
  obtain ⟨an, cn, rfl, _, _⟩ := hg.ns.slice
  obtain ⟨aw, cw, rfl, _, _⟩ := hg.ws.slice
  obtain ⟨a, ca, rfl, _, _⟩ := hax.slice
  obtain ⟨b, cb, rfl, _, _⟩ := hay.slice
  have hT := tri_made w (.slice an g.ns.length cn) (.slice aw g.ws.length cw) 25 x (.slice a x.args.length ca) y (.slice b y.args.length cb)
  have hC : ∀ X, Tri w (.slice an g.ns.length cn) (.slice aw g.ws.length cw) x (.slice a x.args.length ca) y (.slice b y.args.length cb) X → (X.cell? ⟨w.heap.size, 0, none⟩ = some (.slice an g.ns.length cn) ∧ X.cell? ⟨w.heap.size, 1, none⟩ = some (.slice aw g.ws.length cw)) ∧ (X.cell? ⟨w.heap.size + 1, 0, none⟩ = some (.int .i64 x.v) ∧ X.cell? ⟨w.heap.size + 1, 1, none⟩ = some (.string x.fn) ∧ X.cell? ⟨w.heap.size + 1, 2, none⟩ = some (.slice a x.args.length ca)) ∧ (X.cell? ⟨w.heap.size + 1 + 1, 0, none⟩ = some (.int .i64 y.v) ∧ X.cell? ⟨w.heap.size + 1 + 1, 1, none⟩ = some (.string y.fn) ∧ X.cell? ⟨w.heap.size + 1 + 1, 2, none⟩ = some (.slice b y.args.length cb)) := fun X h => ⟨⟨h.g0, h.g1⟩, ⟨h.a0, h.a1, h.a2⟩, h.b0, h.b1, h.b2⟩
  have hB : ∀ X, Tri w (.slice an g.ns.length cn) (.slice aw g.ws.length cw) x (.slice a x.args.length ca) y (.slice b y.args.length cb) X → Below w.heap.size w X := fun X h => h.bel
  have h17 : ∀ X, Tri w (.slice an g.ns.length cn) (.slice aw g.ws.length cw) x (.slice a x.args.length ca) y (.slice b y.args.length cb) X → Calls Try.prog 17 #[.agg #[.slice an g.ns.length cn, .slice aw g.ws.length cw]] X fun e X' => e = .returned (.bool g.ok) ∧ Tri w (.slice an g.ns.length cn) (.slice aw g.ws.length cw) x (.slice a x.args.length ca) y (.slice b y.args.length cb) X' := fun X hX => (rgright_any g _ _ X (hg.keep hX.bel (Nat.le_refl _))).mono fun e X' ⟨h1, h2⟩ => ⟨h1, hX.keep h2⟩
  have h18x : ∀ X, Tri w (.slice an g.ns.length cn) (.slice aw g.ws.length cw) x (.slice a x.args.length ca) y (.slice b y.args.length cb) X → Calls Try.prog 18 #[tval x (.slice a x.args.length ca)] X fun e X' => e = .returned (.int .i64 x.rightW) ∧ Tri w (.slice an g.ns.length cn) (.slice aw g.ws.length cw) x (.slice a x.args.length ca) y (.slice b y.args.length cb) X' := fun X hX => (rright_any x _ X (ArgsAt.keep hX.bel (Nat.le_refl _) hax)).mono fun e X' ⟨h1, h2⟩ => ⟨h1, hX.keep h2⟩
  have h18y : ∀ X, Tri w (.slice an g.ns.length cn) (.slice aw g.ws.length cw) x (.slice a x.args.length ca) y (.slice b y.args.length cb) X → Calls Try.prog 18 #[tval y (.slice b y.args.length cb)] X fun e X' => e = .returned (.int .i64 y.rightW) ∧ Tri w (.slice an g.ns.length cn) (.slice aw g.ws.length cw) x (.slice a x.args.length ca) y (.slice b y.args.length cb) X' := fun X hX => (rright_any y _ X (ArgsAt.keep hX.bel (Nat.le_refl _) hay)).mono fun e X' ⟨h1, h2⟩ => ⟨h1, hX.keep h2⟩
  have h26 : ∀ X, Tri w (.slice an g.ns.length cn) (.slice aw g.ws.length cw) x (.slice a x.args.length ca) y (.slice b y.args.length cb) X → Calls Try.prog 26 #[tval x (.slice a x.args.length ca), tval y (.slice b y.args.length cb)] X fun e X' => e = .returned (.bool (same x y)) ∧ Tri w (.slice an g.ns.length cn) (.slice aw g.ws.length cw) x (.slice a x.args.length ca) y (.slice b y.args.length cb) X' := fun X hX => (rsame_any x y _ _ X (ArgsAt.keep hX.bel (Nat.le_refl _) hax) (ArgsAt.keep hX.bel (Nat.le_refl _) hay)).mono fun e X' ⟨h1, h2⟩ => ⟨h1, hX.keep h2⟩
  have hxy : x.rightW = 0 → y.rightW = 0 → ∀ X, Tri w (.slice an g.ns.length cn) (.slice aw g.ws.length cw) x (.slice a x.args.length ca) y (.slice b y.args.length cb) X → Calls Try.prog 27 #[.agg #[.slice an g.ns.length cn, .slice aw g.ws.length cw], tval x (.slice a x.args.length ca), tval y (.slice b y.args.length cb)] X fun e X' => e = .returned (.bool (lgB g x y)) ∧ Tri w (.slice an g.ns.length cn) (.slice aw g.ws.length cw) x (.slice a x.args.length ca) y (.slice b y.args.length cb) X' := fun hx hy X hX => (h27 g x y _ _ _ _ X (hg.keep hX.bel (Nat.le_refl _)) (ArgsAt.keep hX.bel (Nat.le_refl _) hax) (ArgsAt.keep hX.bel (Nat.le_refl _) hay) (right_facts hx hzx).1 (right_facts hy hzy).1 (right_facts hx hzx).2 (right_facts hy hzy).2).mono fun e X' ⟨h1, h2⟩ => ⟨h1, hX.keep h2⟩
  have hyx : x.rightW = 0 → y.rightW = 0 → ∀ X, Tri w (.slice an g.ns.length cn) (.slice aw g.ws.length cw) x (.slice a x.args.length ca) y (.slice b y.args.length cb) X → Calls Try.prog 27 #[.agg #[.slice an g.ns.length cn, .slice aw g.ws.length cw], tval y (.slice b y.args.length cb), tval x (.slice a x.args.length ca)] X fun e X' => e = .returned (.bool (lgB g y x)) ∧ Tri w (.slice an g.ns.length cn) (.slice aw g.ws.length cw) x (.slice a x.args.length ca) y (.slice b y.args.length cb) X' := fun hx hy X hX => (h27 g y x _ _ _ _ X (hg.keep hX.bel (Nat.le_refl _)) (ArgsAt.keep hX.bel (Nat.le_refl _) hay) (ArgsAt.keep hX.bel (Nat.le_refl _) hax) (right_facts hy hzy).1 (right_facts hx hzx).1 (right_facts hy hzy).2 (right_facts hx hzx).2).mono fun e X' ⟨h1, h2⟩ => ⟨h1, hX.keep h2⟩
  obtain ⟨S, hS⟩ : ∃ S, Tri w (.slice an g.ns.length cn) (.slice aw g.ws.length cw) x (.slice a x.args.length ca) y (.slice b y.args.length cb) = S := ⟨_, rfl⟩
  rw [hS] at hT hC hB h17 h18x h18y h26 hxy hyx
  clear hS hg hax hay hzx hzy h27
  obtain ⟨⟨i0, i1⟩, ⟨i2, i3, i4⟩, i5, i6, i7⟩ := hC _ hT
  cases hok : g.ok
  · have HV : Hid (lcmp g x y = 2) := by show _ = _; unfold lcmp; rw [if_neg (fun h => ok_no.1 hok h.1)]
    rw [hok] at h17
    clear hok hxy hyx h18x h18y h26
    go_enter Try.func12, Try.ntmps12
    go_wp2_with fail
    refine (h17 _ hT).mono ?_
    rintro e W2 ⟨rfl, hT2⟩
    go_wp2
    go_ret
    exact ⟨ret_i64 HV.out.symm, hB _ hT2⟩
  have HOk : Hid g.Ok := ok_iff.1 hok
  rw [hok] at h17
  clear hok
  by_cases hrx : x.rightW = 0
  case neg =>
    have HV : Hid (lcmp g x y = 2) := by show _ = _; unfold lcmp; rw [if_neg (fun h => hrx h.2.1)]
    have e3 : (x.rightW != 0) = true := by rw [bne_iff_ne]; exact hrx
    clear hrx hxy hyx h18y h26
    go_enter Try.func12, Try.ntmps12
    go_wp2_with fail
    refine (h17 _ hT).mono ?_
    rintro e W2 ⟨rfl, hT2⟩
    obtain ⟨⟨j0, j1⟩, ⟨j2, j3, j4⟩, j5, j6, j7⟩ := hC _ hT2
    go_wp2_with fail
    refine (h18x _ hT2).mono ?_
    rintro e W3 ⟨rfl, hT3⟩
    go_wp2
    go_ret
    exact ⟨ret_i64 HV.out.symm, hB _ hT3⟩
  by_cases hry : y.rightW = 0
  case neg =>
    have HV : Hid (lcmp g x y = 2) := by show _ = _; unfold lcmp; rw [if_neg (fun h => hry h.2.2)]
    have e3 : (y.rightW != 0) = true := by rw [bne_iff_ne]; exact hry
    rw [hrx] at h18x
    clear hrx hry hxy hyx h26
    go_enter Try.func12, Try.ntmps12
    go_wp2_with fail
    refine (h17 _ hT).mono ?_
    rintro e W2 ⟨rfl, hT2⟩
    obtain ⟨⟨j0, j1⟩, ⟨j2, j3, j4⟩, j5, j6, j7⟩ := hC _ hT2
    go_wp2_with fail
    refine (h18x _ hT2).mono ?_
    rintro e W3 ⟨rfl, hT3⟩
    obtain ⟨⟨k0, k1⟩, ⟨k2, k3, k4⟩, k5, k6, k7⟩ := hC _ hT3
    go_wp2_with fail
    refine (h18y _ hT3).mono ?_
    rintro e W4 ⟨rfl, hT4⟩
    go_wp2
    go_ret
    exact ⟨ret_i64 HV.out.symm, hB _ hT4⟩
  have HR : Hid (lcmp g x y = pcmp g x y) := by show _ = _; unfold lcmp; rw [if_pos ⟨HOk.out, hrx, hry⟩]
  have hxy' := hxy hrx hry
  have hyx' := hyx hrx hry
  rw [hrx] at h18x
  rw [hry] at h18y
  clear hrx hry hxy hyx
  by_cases hs : x = y
  · have HV : Hid (lcmp g x y = 0) := by show _ = _; rw [HR.out]; exact pcmp_zero.2 hs
    rw [show same x y = true by simp [same, hs]] at h26
    clear hs hxy' hyx'
    go_enter Try.func12, Try.ntmps12
    go_wp2_with fail
    refine (h17 _ hT).mono ?_
    rintro e W2 ⟨rfl, hT2⟩
    obtain ⟨⟨j0, j1⟩, ⟨j2, j3, j4⟩, j5, j6, j7⟩ := hC _ hT2
    go_wp2_with fail
    refine (h18x _ hT2).mono ?_
    rintro e W3 ⟨rfl, hT3⟩
    obtain ⟨⟨k0, k1⟩, ⟨k2, k3, k4⟩, k5, k6, k7⟩ := hC _ hT3
    go_wp2_with fail
    refine (h18y _ hT3).mono ?_
    rintro e W4 ⟨rfl, hT4⟩
    obtain ⟨⟨l0, l1⟩, ⟨l2, l3, l4⟩, l5, l6, l7⟩ := hC _ hT4
    go_wp2_with fail
    refine (h26 _ hT4).mono ?_
    rintro e W5 ⟨rfl, hT5⟩
    go_wp2
    go_ret
    exact ⟨ret_i64 HV.out.symm, hB _ hT5⟩
  rw [show same x y = false by simp [same, hs]] at h26
  cases h1 : lgB g x y
  case true =>
    have HV : Hid (lcmp g x y = 1) := by show _ = _; rw [HR.out]; exact pcmp_gr.2 (lgB_iff.1 h1)
    rw [h1] at hxy'
    clear h1 hs hyx'
    go_enter Try.func12, Try.ntmps12
    go_wp2_with fail
    refine (h17 _ hT).mono ?_
    rintro e W2 ⟨rfl, hT2⟩
    obtain ⟨⟨j0, j1⟩, ⟨j2, j3, j4⟩, j5, j6, j7⟩ := hC _ hT2
    go_wp2_with fail
    refine (h18x _ hT2).mono ?_
    rintro e W3 ⟨rfl, hT3⟩
    obtain ⟨⟨k0, k1⟩, ⟨k2, k3, k4⟩, k5, k6, k7⟩ := hC _ hT3
    go_wp2_with fail
    refine (h18y _ hT3).mono ?_
    rintro e W4 ⟨rfl, hT4⟩
    obtain ⟨⟨l0, l1⟩, ⟨l2, l3, l4⟩, l5, l6, l7⟩ := hC _ hT4
    go_wp2_with fail
    refine (h26 _ hT4).mono ?_
    rintro e W5 ⟨rfl, hT5⟩
    obtain ⟨⟨m0, m1⟩, ⟨m2, m3, m4⟩, m5, m6, m7⟩ := hC _ hT5
    go_wp2_with fail
    refine (hxy' _ hT5).mono ?_
    rintro e W6 ⟨rfl, hT6⟩
    go_wp2
    go_ret
    exact ⟨ret_i64 HV.out.symm, hB _ hT6⟩
  rw [h1] at hxy'
  have n1 : ¬ lg g x y := fun h => by rw [lgB_iff.2 h] at h1; cases h1
  cases h2 : lgB g y x
  case true =>
    have HV : Hid (lcmp g x y = -1) := by show _ = _; rw [HR.out]; exact pcmp_ls.2 (lgB_iff.1 h2)
    rw [h2] at hyx'
    clear h1 h2 hs n1
    go_enter Try.func12, Try.ntmps12
    go_wp2_with fail
    refine (h17 _ hT).mono ?_
    rintro e W2 ⟨rfl, hT2⟩
    obtain ⟨⟨j0, j1⟩, ⟨j2, j3, j4⟩, j5, j6, j7⟩ := hC _ hT2
    go_wp2_with fail
    refine (h18x _ hT2).mono ?_
    rintro e W3 ⟨rfl, hT3⟩
    obtain ⟨⟨k0, k1⟩, ⟨k2, k3, k4⟩, k5, k6, k7⟩ := hC _ hT3
    go_wp2_with fail
    refine (h18y _ hT3).mono ?_
    rintro e W4 ⟨rfl, hT4⟩
    obtain ⟨⟨l0, l1⟩, ⟨l2, l3, l4⟩, l5, l6, l7⟩ := hC _ hT4
    go_wp2_with fail
    refine (h26 _ hT4).mono ?_
    rintro e W5 ⟨rfl, hT5⟩
    obtain ⟨⟨m0, m1⟩, ⟨m2, m3, m4⟩, m5, m6, m7⟩ := hC _ hT5
    go_wp2_with fail
    refine (hxy' _ hT5).mono ?_
    rintro e W6 ⟨rfl, hT6⟩
    obtain ⟨⟨n0, n1⟩, ⟨n2, n3, n4⟩, n5, n6, n7⟩ := hC _ hT6
    go_wp2_with fail
    refine (hyx' _ hT6).mono ?_
    rintro e W7 ⟨rfl, hT7⟩
    go_wp2
    go_ret
    exact ⟨ret_i64 HV.out.symm, hB _ hT7⟩
  have n2 : ¬ lg g y x := fun h => by rw [lgB_iff.2 h] at h2; cases h2
  have HV : Hid (lcmp g x y = 2) := by show _ = _; rw [HR.out]; exact pcmp_none hs n1 n2
  rw [h2] at hyx'
  clear h1 h2 hs n1 n2
  go_enter Try.func12, Try.ntmps12
  go_wp2_with fail
  refine (h17 _ hT).mono ?_
  rintro e W2 ⟨rfl, hT2⟩
  obtain ⟨⟨j0, j1⟩, ⟨j2, j3, j4⟩, j5, j6, j7⟩ := hC _ hT2
  go_wp2_with fail
  refine (h18x _ hT2).mono ?_
  rintro e W3 ⟨rfl, hT3⟩
  obtain ⟨⟨k0, k1⟩, ⟨k2, k3, k4⟩, k5, k6, k7⟩ := hC _ hT3
  go_wp2_with fail
  refine (h18y _ hT3).mono ?_
  rintro e W4 ⟨rfl, hT4⟩
  obtain ⟨⟨l0, l1⟩, ⟨l2, l3, l4⟩, l5, l6, l7⟩ := hC _ hT4
  go_wp2_with fail
  refine (h26 _ hT4).mono ?_
  rintro e W5 ⟨rfl, hT5⟩
  obtain ⟨⟨m0, m1⟩, ⟨m2, m3, m4⟩, m5, m6, m7⟩ := hC _ hT5
  go_wp2_with fail
  refine (hxy' _ hT5).mono ?_
  rintro e W6 ⟨rfl, hT6⟩
  obtain ⟨⟨n0, n1⟩, ⟨n2, n3, n4⟩, n5, n6, n7⟩ := hC _ hT6
  go_wp2_with fail
  refine (hyx' _ hT6).mono ?_
  rintro e W7 ⟨rfl, hT7⟩
  go_wp2
  go_ret
  exact ⟨ret_i64 HV.out.symm, hB _ hT7⟩

set_option maxRecDepth 100000 in
set_option maxHeartbeats 4000000 in
theorem compares_of (h27 : GreaterOk) (g : Sg) (x y : T) (vn vw sx sy : Value) (w : World) (hg : SgAt w g vn vw) (hax : ArgsAt w sx x.args) (hay : ArgsAt w sy y.args) (hzx : x.size ≤ 1048576) (hzy : y.size ≤ 1048576) :
    Calls Try.prog 3 #[gval vn vw, tval x sx, tval y sy] w fun e w' => e = .returned (.bool true) ∧ Below w.heap.size w w' := by
  obtain ⟨an, cn, rfl, _, _⟩ := hg.ns.slice
  obtain ⟨aw, cw, rfl, _, _⟩ := hg.ws.slice
  obtain ⟨a, ca, rfl, _, _⟩ := hax.slice
  obtain ⟨b, cb, rfl, _, _⟩ := hay.slice
  have hT := tri_made w (.slice an g.ns.length cn) (.slice aw g.ws.length cw) 25 x (.slice a x.args.length ca) y (.slice b y.args.length cb)
  have hC : ∀ X, Tri w (.slice an g.ns.length cn) (.slice aw g.ws.length cw) x (.slice a x.args.length ca) y (.slice b y.args.length cb) X → (X.cell? ⟨w.heap.size, 0, none⟩ = some (.slice an g.ns.length cn) ∧ X.cell? ⟨w.heap.size, 1, none⟩ = some (.slice aw g.ws.length cw)) ∧ (X.cell? ⟨w.heap.size + 1, 0, none⟩ = some (.int .i64 x.v) ∧ X.cell? ⟨w.heap.size + 1, 1, none⟩ = some (.string x.fn) ∧ X.cell? ⟨w.heap.size + 1, 2, none⟩ = some (.slice a x.args.length ca)) ∧ (X.cell? ⟨w.heap.size + 1 + 1, 0, none⟩ = some (.int .i64 y.v) ∧ X.cell? ⟨w.heap.size + 1 + 1, 1, none⟩ = some (.string y.fn) ∧ X.cell? ⟨w.heap.size + 1 + 1, 2, none⟩ = some (.slice b y.args.length cb)) := fun X h => ⟨⟨h.g0, h.g1⟩, ⟨h.a0, h.a1, h.a2⟩, h.b0, h.b1, h.b2⟩
  have hB : ∀ X, Tri w (.slice an g.ns.length cn) (.slice aw g.ws.length cw) x (.slice a x.args.length ca) y (.slice b y.args.length cb) X → Below w.heap.size w X := fun X h => h.bel
  have h8 : ∀ X n, Tri w (.slice an g.ns.length cn) (.slice aw g.ws.length cw) x (.slice a x.args.length ca) y (.slice b y.args.length cb) X → X.heap.size = n → Calls Try.prog 8 #[.slice (some ⟨n, 0, none⟩) 2 2] (X.alloc (.cells #[.int .i64 x.v, .string x.fn, .slice a x.args.length ca, .int .i64 y.v, .string y.fn, .slice b y.args.length cb] 28)) fun e X' => e = .returned (.bool (smallB [x, y])) ∧ Tri w (.slice an g.ns.length cn) (.slice aw g.ws.length cw) x (.slice a x.args.length ca) y (.slice b y.args.length cb) X' := fun X n hX hn => by
    subst hn
    have hX' := hX.keep (below_box X (.cells #[.int .i64 x.v, .string x.fn, .slice a x.args.length ca, .int .i64 y.v, .string y.fn, .slice b y.args.length cb] 28))
    exact (small_any [x, y] _ _ (args_two X x y _ _ (ArgsAt.keep hX.bel (Nat.le_refl _) hax) (ArgsAt.keep hX.bel (Nat.le_refl _) hay))).mono fun e X' ⟨h1, h2⟩ => ⟨h1, hX'.keep h2⟩
  have h9 : ∀ X, Tri w (.slice an g.ns.length cn) (.slice aw g.ws.length cw) x (.slice a x.args.length ca) y (.slice b y.args.length cb) X → Calls Try.prog 9 #[] X fun e X' => e = .returned (.bool true) ∧ Tri w (.slice an g.ns.length cn) (.slice aw g.ws.length cw) x (.slice a x.args.length ca) y (.slice b y.args.length cb) X' := fun X hX => (alive_any X).mono fun e X' ⟨h1, h2⟩ => ⟨h1, hX.keep h2⟩
  have h11 : ∀ X, Tri w (.slice an g.ns.length cn) (.slice aw g.ws.length cw) x (.slice a x.args.length ca) y (.slice b y.args.length cb) X → Calls Try.prog 11 #[.agg #[.slice an g.ns.length cn, .slice aw g.ws.length cw]] X fun e X' => e = .returned (.agg #[.slice an g.ns.length cn, .slice aw g.ws.length cw]) ∧ Tri w (.slice an g.ns.length cn) (.slice aw g.ws.length cw) x (.slice a x.args.length ca) y (.slice b y.args.length cb) X' := fun X hX => (own_any _ _ ⟨_, _, _, rfl⟩ ⟨_, _, _, rfl⟩ X).mono fun e X' ⟨h1, h2⟩ => ⟨h1, hX.keep h2⟩
  have h10 : ∀ X, Tri w (.slice an g.ns.length cn) (.slice aw g.ws.length cw) x (.slice a x.args.length ca) y (.slice b y.args.length cb) X → Calls Try.prog 10 #[.agg #[.slice an g.ns.length cn, .slice aw g.ws.length cw], tval x (.slice a x.args.length ca), tval y (.slice b y.args.length cb)] X fun e X' => e = .returned (.int .i64 (lcmp g x y)) ∧ Tri w (.slice an g.ns.length cn) (.slice aw g.ws.length cw) x (.slice a x.args.length ca) y (.slice b y.args.length cb) X' := fun X hX => (lcompare_any g x y _ _ _ _ X (hg.keep hX.bel (Nat.le_refl _)) (ArgsAt.keep hX.bel (Nat.le_refl _) hax) (ArgsAt.keep hX.bel (Nat.le_refl _) hay) hzx hzy).mono fun e X' ⟨h1, h2⟩ => ⟨h1, hX.keep h2⟩
  have h12 : ∀ X, Tri w (.slice an g.ns.length cn) (.slice aw g.ws.length cw) x (.slice a x.args.length ca) y (.slice b y.args.length cb) X → Calls Try.prog 12 #[.agg #[.slice an g.ns.length cn, .slice aw g.ws.length cw], tval x (.slice a x.args.length ca), tval y (.slice b y.args.length cb)] X fun e X' => e = .returned (.int .i64 (lcmp g x y)) ∧ Tri w (.slice an g.ns.length cn) (.slice aw g.ws.length cw) x (.slice a x.args.length ca) y (.slice b y.args.length cb) X' := fun X hX => (rcompare_of h27 g x y _ _ _ _ X (hg.keep hX.bel (Nat.le_refl _)) (ArgsAt.keep hX.bel (Nat.le_refl _) hax) (ArgsAt.keep hX.bel (Nat.le_refl _) hay) hzx hzy).mono fun e X' ⟨h1, h2⟩ => ⟨h1, hX.keep h2⟩
  have hdr : ∀ X, Tri w (.slice an g.ns.length cn) (.slice aw g.ws.length cw) x (.slice a x.args.length ca) y (.slice b y.args.length cb) X → Tri w (.slice an g.ns.length cn) (.slice aw g.ws.length cw) x (.slice a x.args.length ca) y (.slice b y.args.length cb) X.drew := fun X h => h.keep (Below.refl _ X).drew
  obtain ⟨S, hS⟩ : ∃ S, Tri w (.slice an g.ns.length cn) (.slice aw g.ws.length cw) x (.slice a x.args.length ca) y (.slice b y.args.length cb) = S := ⟨_, rfl⟩
  rw [hS] at hT hC hB h8 h9 h11 h10 h12 hdr
  clear hS hg hax hay hzx hzy h27
  obtain ⟨k, hk⟩ : ∃ k, lcmp g x y = k := ⟨_, rfl⟩
  rw [hk] at h10 h12
  clear hk
  obtain ⟨⟨i0, i1⟩, ⟨i2, i3, i4⟩, i5, i6, i7⟩ := hC _ hT
  cases hsm : smallB [x, y]
  · rw [hsm] at h8
    clear hsm h10 h12 h11 hdr
    go_enter Try.func3, Try.ntmps3
    go_wp2_with fail
    refine (h8 _ _ hT (by simp)).mono ?_
    rintro e W2 ⟨rfl, hT2⟩
    go_wp2_with fail
    refine (h9 _ hT2).mono ?_
    rintro e W3 ⟨rfl, hT3⟩
    go_wp2
    go_ret
    exact ⟨rfl, hB _ hT3⟩
  rw [hsm] at h8
  clear hsm
  go_enter Try.func3, Try.ntmps3
  go_wp2_with fail
  refine (h8 _ _ hT (by simp)).mono ?_
  rintro e W2 ⟨rfl, hT2⟩
  have hT2d := hdr _ hT2
  have K2 := hC _ hT2d
  clear i0 i1 i2 i3 i4 i5 i6 i7 hT hT2 h8 hdr
  go_wp2
  go_region_held3 (fun X => (X.cell? ⟨w.heap.size, 0, none⟩ = some (.slice an g.ns.length cn) ∧ X.cell? ⟨w.heap.size, 1, none⟩ = some (.slice aw g.ws.length cw)) ∧ (X.cell? ⟨w.heap.size + 1, 0, none⟩ = some (.int .i64 x.v) ∧ X.cell? ⟨w.heap.size + 1, 1, none⟩ = some (.string x.fn) ∧ X.cell? ⟨w.heap.size + 1, 2, none⟩ = some (.slice a x.args.length ca)) ∧ (X.cell? ⟨w.heap.size + 1 + 1, 0, none⟩ = some (.int .i64 y.v) ∧ X.cell? ⟨w.heap.size + 1 + 1, 1, none⟩ = some (.string y.fn) ∧ X.cell? ⟨w.heap.size + 1 + 1, 2, none⟩ = some (.slice b y.args.length cb))) (first | exact K6 | exact K5 | exact K4 | exact K3 | exact K2) (first
    | (go_at_call 9; refine (h9 _ hT5).mono ?_; rintro e W6 ⟨rfl, hT6⟩; have K6 := hC _ hT6)
    | (go_at_call 12; refine (h12 _ hT4).mono ?_; rintro e W5 ⟨rfl, hT5⟩; have K5 := hC _ hT5)
    | (go_at_call 10; refine (h10 _ hT3).mono ?_; rintro e W4 ⟨rfl, hT4⟩; have K4 := hC _ hT4)
    | (go_at_call 11; refine (h11 _ hT2d).mono ?_; rintro e W3 ⟨rfl, hT3⟩; have K3 := hC _ hT3))
  go_wp2
  go_ret
  exact ⟨rfl, hB _ hT6⟩

end Go.Proofs.Ytpahgmidofacaaa

/-
  The document's step from smaller parts to a pair of parts: plain mathematics.
-/
namespace Go.Proofs.Ytpahgmidofacaaa
open Go.RowKit Go.Maps

open Classical in
/-- What comes of the first arguments that are not the same. -/
noncomputable def fdB (g : Sg) : List T → List T → Bool
  | x :: r, y :: s => if x = y then fdB g r s else lgB g x y
  | _, _ => false
theorem fdB_iff {g : Sg} : ∀ {A B : List T}, fdB g A B = true ↔ lx (lg g) A B
  | [], B => by simp [fdB, lx]
  | x :: r, [] => by simp [fdB, lx]
  | x :: r, y :: s => by
    unfold fdB lx
    by_cases h : x = y
    · rw [if_pos h, fdB_iff]
      exact ⟨fun k => .inl ⟨h, k⟩, fun k => by
        rcases k with k | k
        · exact k.2
        · exact absurd h k.1⟩
    · rw [if_neg h, lgB_iff]
      exact ⟨fun k => .inr ⟨h, k⟩, fun k => by
        rcases k with k | k
        · exact absurd k.1 h
        · exact k.2⟩

/-- One step of the table. -/
theorem one_step (g : Sg) (s t : T) :
    (s.fn.size = 0 → lgB g s t = false) ∧
    (s.fn.size ≠ 0 → (∃ a ∈ s.args, a = t ∨ lg g a t) → lgB g s t = true) ∧
    (s.fn.size ≠ 0 → (¬ ∃ a ∈ s.args, a = t ∨ lg g a t) → t.fn.size = 0 → lgB g s t = false) ∧
    (s.fn.size ≠ 0 → (¬ ∃ a ∈ s.args, a = t ∨ lg g a t) → t.fn.size ≠ 0 → (¬ ∀ b ∈ t.args, lg g s b) → lgB g s t = false) ∧
    (s.fn.size ≠ 0 → (¬ ∃ a ∈ s.args, a = t ∨ lg g a t) → t.fn.size ≠ 0 → (∀ b ∈ t.args, lg g s b) → (s.fn ≠ t.fn ∨ s.args.length ≠ t.args.length) → lgB g s t = tsymB g s t) ∧
    (s.fn.size ≠ 0 → (¬ ∃ a ∈ s.args, a = t ∨ lg g a t) → t.fn.size ≠ 0 → (∀ b ∈ t.args, lg g s b) → s.fn = t.fn → s.args.length = t.args.length → lgB g s t = fdB g s.args t.args) := by
  have no : ∀ {x y : T}, ¬ lg g x y → lgB g x y = false := fun {x y} h => by
    cases e : lgB g x y
    · rfl
    · exact absurd (lgB_iff.1 e) h
  refine ⟨fun h0 => no fun h => (lg_iff.1 h).1 h0, fun h0 h1 => lgB_iff.2 (lg_iff.2 ⟨h0, .inl h1⟩), fun h0 h1 h2 => no fun h => ?_, fun h0 h1 h2 h3 => no fun h => ?_, fun h0 h1 h2 h3 h4 => ?_, fun h0 h1 h2 h3 h4 h5 => ?_⟩
  · rcases (lg_iff.1 h).2 with k | k
    · exact h1 k
    · exact k.1 h2
  · rcases (lg_iff.1 h).2 with k | k
    · exact h1 k
    · exact h3 k.2.1
  · cases e : tsymB g s t
    · refine no fun h => ?_
      rcases (lg_iff.1 h).2 with k | ⟨_, _, k | ⟨k1, k2, _⟩⟩
      · exact h1 k
      · rw [tsymB_iff.2 k] at e; cases e
      · rcases h4 with h4 | h4
        · exact h4 k1
        · exact h4 k2
    · exact lgB_iff.2 (lg_iff.2 ⟨h0, .inr ⟨h2, h3, .inl (tsymB_iff.1 e)⟩⟩)
  · cases e : fdB g s.args t.args
    · refine no fun h => ?_
      rcases (lg_iff.1 h).2 with k | ⟨_, _, k | ⟨_, _, k⟩⟩
      · exact h1 k
      · rw [h4, h5] at k
        exact sym_irrefl g _ _ k
      · rw [fdB_iff.2 k] at e; cases e
    · exact lgB_iff.2 (lg_iff.2 ⟨h0, .inr ⟨h2, h3, .inr ⟨h4, h5, fdB_iff.1 e⟩⟩⟩)

end Go.Proofs.Ytpahgmidofacaaa
