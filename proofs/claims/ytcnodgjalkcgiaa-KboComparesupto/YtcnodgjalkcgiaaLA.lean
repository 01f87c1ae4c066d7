/-
  The document's Compare; KboCompares: the law's walk.
-/
import Derived.Test.YtcnodgjalkcgiaaKZ
import Derived.Test.YtcnodgjalkcgiaaKW
namespace Go.Proofs.Ytcnodgjalkcgiaa
open Go.RowKit Go.Maps

set_option maxRecDepth 100000 in
set_option maxHeartbeats 4000000 in
theorem rcompare_any (g : Sg) (x y : T) (vn vw sx sy : Value) (w : World) (hg : SgAt w g vn vw) (hax : ArgsAt w sx x.args) (hay : ArgsAt w sy y.args) (hzx : x.size ≤ 1048576) (hzy : y.size ≤ 1048576) :
    Calls Try.prog 12 #[gval vn vw, tval x sx, tval y sy] w fun e w' => e = .returned (.int .i64 (ccmp g x y)) ∧ Below w.heap.size w w' := by
  obtain ⟨an, cn, rfl, _, _⟩ := hg.ns.slice
  obtain ⟨aw, cw, rfl, _, _⟩ := hg.ws.slice
  obtain ⟨a, ca, rfl, _, _⟩ := hax.slice
  obtain ⟨b, cb, rfl, _, _⟩ := hay.slice
  have hT := tri_made w (.slice an g.ns.length cn) (.slice aw g.ws.length cw) 25 x (.slice a x.args.length ca) y (.slice b y.args.length cb)
  have hC : ∀ X, Tri w (.slice an g.ns.length cn) (.slice aw g.ws.length cw) x (.slice a x.args.length ca) y (.slice b y.args.length cb) X → (X.cell? ⟨w.heap.size, 0, none⟩ = some (.slice an g.ns.length cn) ∧ X.cell? ⟨w.heap.size, 1, none⟩ = some (.slice aw g.ws.length cw)) ∧ (X.cell? ⟨w.heap.size + 1, 0, none⟩ = some (.int .i64 x.v) ∧ X.cell? ⟨w.heap.size + 1, 1, none⟩ = some (.string x.fn) ∧ X.cell? ⟨w.heap.size + 1, 2, none⟩ = some (.slice a x.args.length ca)) ∧ (X.cell? ⟨w.heap.size + 1 + 1, 0, none⟩ = some (.int .i64 y.v) ∧ X.cell? ⟨w.heap.size + 1 + 1, 1, none⟩ = some (.string y.fn) ∧ X.cell? ⟨w.heap.size + 1 + 1, 2, none⟩ = some (.slice b y.args.length cb)) := fun X h => ⟨⟨h.g0, h.g1⟩, ⟨h.a0, h.a1, h.a2⟩, h.b0, h.b1, h.b2⟩
  have h10 : ∀ X, Tri w (.slice an g.ns.length cn) (.slice aw g.ws.length cw) x (.slice a x.args.length ca) y (.slice b y.args.length cb) X → Calls Try.prog 10 #[.agg #[.slice an g.ns.length cn, .slice aw g.ws.length cw]] X fun e X' => e = .returned (.bool g.ok) ∧ Tri w (.slice an g.ns.length cn) (.slice aw g.ws.length cw) x (.slice a x.args.length ca) y (.slice b y.args.length cb) X' := fun X hX => (rgright_any g _ _ X (hg.keep hX.bel (Nat.le_refl _))).mono fun e X' ⟨h1, h2⟩ => ⟨h1, hX.keep h2⟩
  have h22x : ∀ X, Tri w (.slice an g.ns.length cn) (.slice aw g.ws.length cw) x (.slice a x.args.length ca) y (.slice b y.args.length cb) X → Calls Try.prog 22 #[tval x (.slice a x.args.length ca)] X fun e X' => e = .returned (.int .i64 x.rightW) ∧ Tri w (.slice an g.ns.length cn) (.slice aw g.ws.length cw) x (.slice a x.args.length ca) y (.slice b y.args.length cb) X' := fun X hX => (rright_any x _ X (ArgsAt.keep hX.bel (Nat.le_refl _) hax)).mono fun e X' ⟨h1, h2⟩ => ⟨h1, hX.keep h2⟩
  have h22y : ∀ X, Tri w (.slice an g.ns.length cn) (.slice aw g.ws.length cw) x (.slice a x.args.length ca) y (.slice b y.args.length cb) X → Calls Try.prog 22 #[tval y (.slice b y.args.length cb)] X fun e X' => e = .returned (.int .i64 y.rightW) ∧ Tri w (.slice an g.ns.length cn) (.slice aw g.ws.length cw) x (.slice a x.args.length ca) y (.slice b y.args.length cb) X' := fun X hX => (rright_any y _ X (ArgsAt.keep hX.bel (Nat.le_refl _) hay)).mono fun e X' ⟨h1, h2⟩ => ⟨h1, hX.keep h2⟩
  have h34 : ∀ X, Tri w (.slice an g.ns.length cn) (.slice aw g.ws.length cw) x (.slice a x.args.length ca) y (.slice b y.args.length cb) X → Calls Try.prog 34 #[tval x (.slice a x.args.length ca), tval y (.slice b y.args.length cb)] X fun e X' => e = .returned (.bool (same x y)) ∧ Tri w (.slice an g.ns.length cn) (.slice aw g.ws.length cw) x (.slice a x.args.length ca) y (.slice b y.args.length cb) X' := fun X hX => (rsame_any x y _ _ X (ArgsAt.keep hX.bel (Nat.le_refl _) hax) (ArgsAt.keep hX.bel (Nat.le_refl _) hay)).mono fun e X' ⟨h1, h2⟩ => ⟨h1, hX.keep h2⟩
  have h35x : ∀ X, Tri w (.slice an g.ns.length cn) (.slice aw g.ws.length cw) x (.slice a x.args.length ca) y (.slice b y.args.length cb) X → Calls Try.prog 35 #[.agg #[.slice an g.ns.length cn, .slice aw g.ws.length cw], tval x (.slice a x.args.length ca), tval y (.slice b y.args.length cb)] X fun e X' => e = .returned (.bool (grB g x y)) ∧ Tri w (.slice an g.ns.length cn) (.slice aw g.ws.length cw) x (.slice a x.args.length ca) y (.slice b y.args.length cb) X' := fun X hX => (rgreater_any g x y _ _ _ _ X (hg.keep hX.bel (Nat.le_refl _)) (ArgsAt.keep hX.bel (Nat.le_refl _) hax) (ArgsAt.keep hX.bel (Nat.le_refl _) hay) hzx hzy).mono fun e X' ⟨h1, h2⟩ => ⟨h1, hX.keep h2⟩
  have h35y : ∀ X, Tri w (.slice an g.ns.length cn) (.slice aw g.ws.length cw) x (.slice a x.args.length ca) y (.slice b y.args.length cb) X → Calls Try.prog 35 #[.agg #[.slice an g.ns.length cn, .slice aw g.ws.length cw], tval y (.slice b y.args.length cb), tval x (.slice a x.args.length ca)] X fun e X' => e = .returned (.bool (grB g y x)) ∧ Tri w (.slice an g.ns.length cn) (.slice aw g.ws.length cw) x (.slice a x.args.length ca) y (.slice b y.args.length cb) X' := fun X hX => (rgreater_any g y x _ _ _ _ X (hg.keep hX.bel (Nat.le_refl _)) (ArgsAt.keep hX.bel (Nat.le_refl _) hay) (ArgsAt.keep hX.bel (Nat.le_refl _) hax) hzy hzx).mono fun e X' ⟨h1, h2⟩ => ⟨h1, hX.keep h2⟩
  have hB : ∀ X, Tri w (.slice an g.ns.length cn) (.slice aw g.ws.length cw) x (.slice a x.args.length ca) y (.slice b y.args.length cb) X → Below w.heap.size w X := fun X h => h.bel
  obtain ⟨S, hS⟩ : ∃ S, Tri w (.slice an g.ns.length cn) (.slice aw g.ws.length cw) x (.slice a x.args.length ca) y (.slice b y.args.length cb) = S := ⟨_, rfl⟩
  rw [hS] at hT hC h10 h22x h22y h34 h35x h35y hB
  clear hS hg hax hay hzx hzy
  obtain ⟨⟨i0, i1⟩, ⟨j0, j1, j2⟩, k0, k1, k2⟩ := hC _ hT
  by_cases hok : g.Ok
  · rw [ok_iff.2 hok] at h10
    by_cases hrx : x.rightW = 0
    · rw [hrx] at h22x
      by_cases hry : y.rightW = 0
      · rw [hry] at h22y
        have hkc : ccmp g x y = kcmp g x y := by unfold ccmp; rw [if_pos ⟨hok, hrx, hry⟩]
        clear hok hrx hry
        go_enter Try.func12, Try.ntmps12
        go_wp2_with fail
        refine (h10 _ hT).mono ?_
        rintro e W2 ⟨rfl, hT2⟩
        obtain ⟨⟨l0, l1⟩, ⟨m0, m1, m2⟩, n0, n1, n2⟩ := hC _ hT2
        go_wp2_with fail
        refine (h22x _ hT2).mono ?_
        rintro e W3 ⟨rfl, hT3⟩
        obtain ⟨⟨o0, o1⟩, ⟨q0, q1, q2⟩, r0, r1, r2⟩ := hC _ hT3
        go_wp2_with fail
        refine (h22y _ hT3).mono ?_
        rintro e W4 ⟨rfl, hT4⟩
        obtain ⟨⟨s0, s1⟩, ⟨t0, t1, t2⟩, u0, u1, u2⟩ := hC _ hT4
        clear i0 i1 j0 j1 j2 k0 k1 k2 l0 l1 m0 m1 m2 n0 n1 n2 o0 o1 q0 q1 q2 r0 r1 r2 hT hT2 hT3 h10 h22x h22y
        go_wp2_with fail
        by_cases hsm : x = y
        · have HV : Hid (ccmp g x y = 0) := by show _ = _; rw [hkc]; exact kcmp_zero.2 hsm
          rw [same_iff.2 hsm] at h34
          clear hkc hsm
          refine (h34 _ hT4).mono ?_
          rintro e W5 ⟨rfl, hT5⟩
          go_wp2
          go_ret
          exact ⟨ret_i64 HV.out.symm, hB _ hT5⟩
        rw [same_false.2 hsm] at h34
        refine (h34 _ hT4).mono ?_
        rintro e W5 ⟨rfl, hT5⟩
        obtain ⟨⟨s0, s1⟩, ⟨t0, t1, t2⟩, u0, u1, u2⟩ := hC _ hT5
        by_cases h1 : gr g x y
        · have HV : Hid (ccmp g x y = 1) := by show _ = _; rw [hkc]; exact kcmp_gr.2 h1
          rw [grB_iff.2 h1] at h35x
          clear hkc hsm h1
          go_wp2_with fail
          refine (h35x _ hT5).mono ?_
          rintro e W6 ⟨rfl, hT6⟩
          go_wp2
          go_ret
          exact ⟨ret_i64 HV.out.symm, hB _ hT6⟩
        rw [grB_no.2 h1] at h35x
        go_wp2_with fail
        refine (h35x _ hT5).mono ?_
        rintro e W6 ⟨rfl, hT6⟩
        obtain ⟨⟨s0, s1⟩, ⟨t0, t1, t2⟩, u0, u1, u2⟩ := hC _ hT6
        by_cases h2 : gr g y x
        · have HV : Hid (ccmp g x y = -1) := by show _ = _; rw [hkc]; exact kcmp_ls.2 h2
          rw [grB_iff.2 h2] at h35y
          clear hkc hsm h1 h2
          go_wp2_with fail
          refine (h35y _ hT6).mono ?_
          rintro e W7 ⟨rfl, hT7⟩
          go_wp2
          go_ret
          exact ⟨ret_i64 HV.out.symm, hB _ hT7⟩
        · have HV : Hid (ccmp g x y = 2) := by show _ = _; rw [hkc]; exact kcmp_none hsm h1 h2
          rw [grB_no.2 h2] at h35y
          clear hkc hsm h1 h2
          go_wp2_with fail
          refine (h35y _ hT6).mono ?_
          rintro e W7 ⟨rfl, hT7⟩
          go_wp2
          go_ret
          exact ⟨ret_i64 HV.out.symm, hB _ hT7⟩
      · have HV : Hid (ccmp g x y = 2) := by show _ = _; unfold ccmp; rw [if_neg (fun h => hry h.2.2)]
        have e3 : (y.rightW != 0) = true := by rw [bne_iff_ne]; exact hry
        clear hok hrx hry
        go_enter Try.func12, Try.ntmps12
        go_wp2_with fail
        refine (h10 _ hT).mono ?_
        rintro e W2 ⟨rfl, hT2⟩
        obtain ⟨⟨l0, l1⟩, ⟨m0, m1, m2⟩, n0, n1, n2⟩ := hC _ hT2
        go_wp2_with fail
        refine (h22x _ hT2).mono ?_
        rintro e W3 ⟨rfl, hT3⟩
        obtain ⟨⟨o0, o1⟩, ⟨q0, q1, q2⟩, r0, r1, r2⟩ := hC _ hT3
        go_wp2_with fail
        refine (h22y _ hT3).mono ?_
        rintro e W4 ⟨rfl, hT4⟩
        go_wp2
        go_ret
        exact ⟨ret_i64 HV.out.symm, hB _ hT4⟩
    · have HV : Hid (ccmp g x y = 2) := by show _ = _; unfold ccmp; rw [if_neg (fun h => hrx h.2.1)]
      have e3 : (x.rightW != 0) = true := by rw [bne_iff_ne]; exact hrx
      clear hok hrx
      go_enter Try.func12, Try.ntmps12
      go_wp2_with fail
      refine (h10 _ hT).mono ?_
      rintro e W2 ⟨rfl, hT2⟩
      obtain ⟨⟨l0, l1⟩, ⟨m0, m1, m2⟩, n0, n1, n2⟩ := hC _ hT2
      go_wp2_with fail
      refine (h22x _ hT2).mono ?_
      rintro e W3 ⟨rfl, hT3⟩
      go_wp2
      go_ret
      exact ⟨ret_i64 HV.out.symm, hB _ hT3⟩
  · have HV : Hid (ccmp g x y = 2) := by show _ = _; unfold ccmp; rw [if_neg (fun h => hok h.1)]
    rw [ok_no.2 hok] at h10
    clear hok
    go_enter Try.func12, Try.ntmps12
    go_wp2_with fail
    refine (h10 _ hT).mono ?_
    rintro e W2 ⟨rfl, hT2⟩
    go_wp2
    go_ret
    exact ⟨ret_i64 HV.out.symm, hB _ hT2⟩

theorem okW_ok (g : Sg) : (g.okW == 0) = g.ok := by
  unfold Sg.okW
  cases g.ok <;> rfl

set_option maxRecDepth 100000 in
set_option maxHeartbeats 8000000 in
theorem compares_any (g : Sg) (x y : T) (vn vw sx sy : Value) (w : World) (hg : SgAt w g vn vw) (hax : ArgsAt w sx x.args) (hay : ArgsAt w sy y.args) (hzx : x.size ≤ 1048576) (hzy : y.size ≤ 1048576) :
    Calls Try.prog 3 #[gval vn vw, tval x sx, tval y sy] w fun e w' => e = .returned (.bool true) ∧ Below w.heap.size w w' := by
  obtain ⟨an, cn, rfl, _, _⟩ := hg.ns.slice
  obtain ⟨aw, cw, rfl, _, _⟩ := hg.ws.slice
  obtain ⟨a, ca, rfl, _, _⟩ := hax.slice
  obtain ⟨b, cb, rfl, _, _⟩ := hay.slice
  have hT := tri_made w (.slice an g.ns.length cn) (.slice aw g.ws.length cw) 25 x (.slice a x.args.length ca) y (.slice b y.args.length cb)
  have hC : ∀ X, Tri w (.slice an g.ns.length cn) (.slice aw g.ws.length cw) x (.slice a x.args.length ca) y (.slice b y.args.length cb) X → (X.cell? ⟨w.heap.size, 0, none⟩ = some (.slice an g.ns.length cn) ∧ X.cell? ⟨w.heap.size, 1, none⟩ = some (.slice aw g.ws.length cw)) ∧ (X.cell? ⟨w.heap.size + 1, 0, none⟩ = some (.int .i64 x.v) ∧ X.cell? ⟨w.heap.size + 1, 1, none⟩ = some (.string x.fn) ∧ X.cell? ⟨w.heap.size + 1, 2, none⟩ = some (.slice a x.args.length ca)) ∧ (X.cell? ⟨w.heap.size + 1 + 1, 0, none⟩ = some (.int .i64 y.v) ∧ X.cell? ⟨w.heap.size + 1 + 1, 1, none⟩ = some (.string y.fn) ∧ X.cell? ⟨w.heap.size + 1 + 1, 2, none⟩ = some (.slice b y.args.length cb)) := fun X h => ⟨⟨h.g0, h.g1⟩, ⟨h.a0, h.a1, h.a2⟩, h.b0, h.b1, h.b2⟩
  have h9 : ∀ X, Tri w (.slice an g.ns.length cn) (.slice aw g.ws.length cw) x (.slice a x.args.length ca) y (.slice b y.args.length cb) X → Calls Try.prog 9 #[.agg #[.slice an g.ns.length cn, .slice aw g.ws.length cw]] X fun e X' => e = .returned (.agg #[.slice an g.ns.length cn, .slice aw g.ws.length cw]) ∧ Tri w (.slice an g.ns.length cn) (.slice aw g.ws.length cw) x (.slice a x.args.length ca) y (.slice b y.args.length cb) X' := fun X hX => (own_any _ _ ⟨_, _, _, rfl⟩ ⟨_, _, _, rfl⟩ X).mono fun e X' ⟨h1, h2⟩ => ⟨h1, hX.keep h2⟩
  have h8 : ∀ X, Tri w (.slice an g.ns.length cn) (.slice aw g.ws.length cw) x (.slice a x.args.length ca) y (.slice b y.args.length cb) X → Calls Try.prog 8 #[.agg #[.slice an g.ns.length cn, .slice aw g.ws.length cw]] X fun e X' => e = .returned (.int .i64 g.okW) ∧ Tri w (.slice an g.ns.length cn) (.slice aw g.ws.length cw) x (.slice a x.args.length ca) y (.slice b y.args.length cb) X' := fun X hX => (kright_any g _ _ X (hg.keep hX.bel (Nat.le_refl _))).mono fun e X' ⟨h1, h2⟩ => ⟨h1, hX.keep h2⟩
  have h10 : ∀ X, Tri w (.slice an g.ns.length cn) (.slice aw g.ws.length cw) x (.slice a x.args.length ca) y (.slice b y.args.length cb) X → Calls Try.prog 10 #[.agg #[.slice an g.ns.length cn, .slice aw g.ws.length cw]] X fun e X' => e = .returned (.bool g.ok) ∧ Tri w (.slice an g.ns.length cn) (.slice aw g.ws.length cw) x (.slice a x.args.length ca) y (.slice b y.args.length cb) X' := fun X hX => (rgright_any g _ _ X (hg.keep hX.bel (Nat.le_refl _))).mono fun e X' ⟨h1, h2⟩ => ⟨h1, hX.keep h2⟩
  have h11 : ∀ X, Tri w (.slice an g.ns.length cn) (.slice aw g.ws.length cw) x (.slice a x.args.length ca) y (.slice b y.args.length cb) X → Calls Try.prog 11 #[.agg #[.slice an g.ns.length cn, .slice aw g.ws.length cw], .agg #[.int .i64 x.v, .string x.fn, .slice a x.args.length ca], .agg #[.int .i64 y.v, .string y.fn, .slice b y.args.length cb]] X fun e X' => e = .returned (.int .i64 (ccmp g x y)) ∧ Tri w (.slice an g.ns.length cn) (.slice aw g.ws.length cw) x (.slice a x.args.length ca) y (.slice b y.args.length cb) X' := fun X hX => (kcompare_any g x y _ _ _ _ X (hg.keep hX.bel (Nat.le_refl _)) (ArgsAt.keep hX.bel (Nat.le_refl _) hax) (ArgsAt.keep hX.bel (Nat.le_refl _) hay) hzx hzy).mono fun e X' ⟨h1, h2⟩ => ⟨h1, hX.keep h2⟩
  have h12 : ∀ X, Tri w (.slice an g.ns.length cn) (.slice aw g.ws.length cw) x (.slice a x.args.length ca) y (.slice b y.args.length cb) X → Calls Try.prog 12 #[.agg #[.slice an g.ns.length cn, .slice aw g.ws.length cw], .agg #[.int .i64 x.v, .string x.fn, .slice a x.args.length ca], .agg #[.int .i64 y.v, .string y.fn, .slice b y.args.length cb]] X fun e X' => e = .returned (.int .i64 (ccmp g x y)) ∧ Tri w (.slice an g.ns.length cn) (.slice aw g.ws.length cw) x (.slice a x.args.length ca) y (.slice b y.args.length cb) X' := fun X hX => (rcompare_any g x y _ _ _ _ X (hg.keep hX.bel (Nat.le_refl _)) (ArgsAt.keep hX.bel (Nat.le_refl _) hax) (ArgsAt.keep hX.bel (Nat.le_refl _) hay) hzx hzy).mono fun e X' ⟨h1, h2⟩ => ⟨h1, hX.keep h2⟩
  have h13 : ∀ X, Tri w (.slice an g.ns.length cn) (.slice aw g.ws.length cw) x (.slice a x.args.length ca) y (.slice b y.args.length cb) X → Calls Try.prog 13 #[.agg #[.slice an g.ns.length cn, .slice aw g.ws.length cw], .agg #[.int .i64 x.v, .string x.fn, .slice a x.args.length ca]] X fun e X' => e = .returned (.int .i64 (cwt g x)) ∧ Tri w (.slice an g.ns.length cn) (.slice aw g.ws.length cw) x (.slice a x.args.length ca) y (.slice b y.args.length cb) X' := fun X hX => (kweight_any g x _ _ _ X (hg.keep hX.bel (Nat.le_refl _)) (ArgsAt.keep hX.bel (Nat.le_refl _) hax) hzx).mono fun e X' ⟨h1, h2⟩ => ⟨h1, hX.keep h2⟩
  have h14 : ∀ X, Tri w (.slice an g.ns.length cn) (.slice aw g.ws.length cw) x (.slice a x.args.length ca) y (.slice b y.args.length cb) X → Calls Try.prog 14 #[.agg #[.slice an g.ns.length cn, .slice aw g.ws.length cw], .agg #[.int .i64 x.v, .string x.fn, .slice a x.args.length ca]] X fun e X' => e = .returned (.int .i64 (cwt g x)) ∧ Tri w (.slice an g.ns.length cn) (.slice aw g.ws.length cw) x (.slice a x.args.length ca) y (.slice b y.args.length cb) X' := fun X hX => (rWeight_any g x _ _ _ X (hg.keep hX.bel (Nat.le_refl _)) (ArgsAt.keep hX.bel (Nat.le_refl _) hax) hzx).mono fun e X' ⟨h1, h2⟩ => ⟨h1, hX.keep h2⟩
  have h15 : ∀ X, Tri w (.slice an g.ns.length cn) (.slice aw g.ws.length cw) x (.slice a x.args.length ca) y (.slice b y.args.length cb) X → Calls Try.prog 15 #[.agg #[.slice an g.ns.length cn, .slice aw g.ws.length cw], .string x.fn, .string y.fn] X fun e X' => e = .returned (.bool (g.above x.fn y.fn)) ∧ Tri w (.slice an g.ns.length cn) (.slice aw g.ws.length cw) x (.slice a x.args.length ca) y (.slice b y.args.length cb) X' := fun X hX => (above_any g _ _ _ _ X (hg.keep hX.bel (Nat.le_refl _))).mono fun e X' ⟨h1, h2⟩ => ⟨h1, hX.keep h2⟩
  have h16 : ∀ X, Tri w (.slice an g.ns.length cn) (.slice aw g.ws.length cw) x (.slice a x.args.length ca) y (.slice b y.args.length cb) X → Calls Try.prog 16 #[.agg #[.slice an g.ns.length cn, .slice aw g.ws.length cw], .string x.fn, .string y.fn] X fun e X' => e = .returned (.bool (g.above x.fn y.fn)) ∧ Tri w (.slice an g.ns.length cn) (.slice aw g.ws.length cw) x (.slice a x.args.length ca) y (.slice b y.args.length cb) X' := fun X hX => (rabove_any g _ _ _ _ X (hg.keep hX.bel (Nat.le_refl _))).mono fun e X' ⟨h1, h2⟩ => ⟨h1, hX.keep h2⟩
  have h17 : ∀ X, Tri w (.slice an g.ns.length cn) (.slice aw g.ws.length cw) x (.slice a x.args.length ca) y (.slice b y.args.length cb) X → Calls Try.prog 17 #[] X fun e X' => e = .returned (.bool true) ∧ Tri w (.slice an g.ns.length cn) (.slice aw g.ws.length cw) x (.slice a x.args.length ca) y (.slice b y.args.length cb) X' := fun X hX => (alive_any X).mono fun e X' ⟨h1, h2⟩ => ⟨h1, hX.keep h2⟩
  have hB : ∀ X, Tri w (.slice an g.ns.length cn) (.slice aw g.ws.length cw) x (.slice a x.args.length ca) y (.slice b y.args.length cb) X → Below w.heap.size w X := fun X h => h.bel
  have hdr : ∀ X, Tri w (.slice an g.ns.length cn) (.slice aw g.ws.length cw) x (.slice a x.args.length ca) y (.slice b y.args.length cb) X → Tri w (.slice an g.ns.length cn) (.slice aw g.ws.length cw) x (.slice a x.args.length ca) y (.slice b y.args.length cb) X.drew := fun X h => h.keep (Below.refl _ X).drew
  obtain ⟨S, hS⟩ : ∃ S, Tri w (.slice an g.ns.length cn) (.slice aw g.ws.length cw) x (.slice a x.args.length ca) y (.slice b y.args.length cb) = S := ⟨_, rfl⟩
  rw [hS] at hT hC h8 h9 h10 h11 h12 h13 h14 h15 h16 h17 hB hdr
  clear hS hg hax hay hzx hzy
  have hTd := hdr _ hT
  have K0 := hC _ hTd
  have e0 := okW_ok g
  obtain ⟨q1, hq1⟩ : ∃ q, g.okW = q := ⟨_, rfl⟩
  obtain ⟨q2, hq2⟩ : ∃ q, g.ok = q := ⟨_, rfl⟩
  obtain ⟨q3, hq3⟩ : ∃ q, ccmp g x y = q := ⟨_, rfl⟩
  obtain ⟨q4, hq4⟩ : ∃ q, cwt g x = q := ⟨_, rfl⟩
  obtain ⟨q5, hq5⟩ : ∃ q, g.above x.fn y.fn = q := ⟨_, rfl⟩
  rw [hq1] at h8 e0
  rw [hq2] at h10 e0
  rw [hq3] at h11 h12
  rw [hq4] at h13 h14
  rw [hq5] at h15 h16
  clear hq1 hq2 hq3 hq4 hq5 hdr hT
  have f1 : ((q1 == 0) == q2) = true := by rw [e0]; simp
  have f3 : (q3 == q3) = true := by simp
  have f4 : (q4 == q4) = true := by simp
  have f5 : (q5 == q5) = true := by simp
  cases q2
  case' false => have e1 : (q1 == 0) = false := e0
  case' true => have e1 : (q1 == 0) = true := e0
  all_goals (
    clear e0
    go_enter Try.func3, Try.ntmps3
    go_wp2
    go_region_held3 (fun X => (X.cell? ⟨w.heap.size, 0, none⟩ = some (.slice an g.ns.length cn) ∧ X.cell? ⟨w.heap.size, 1, none⟩ = some (.slice aw g.ws.length cw)) ∧ (X.cell? ⟨w.heap.size + 1, 0, none⟩ = some (.int .i64 x.v) ∧ X.cell? ⟨w.heap.size + 1, 1, none⟩ = some (.string x.fn) ∧ X.cell? ⟨w.heap.size + 1, 2, none⟩ = some (.slice a x.args.length ca)) ∧ (X.cell? ⟨w.heap.size + 1 + 1, 0, none⟩ = some (.int .i64 y.v) ∧ X.cell? ⟨w.heap.size + 1 + 1, 1, none⟩ = some (.string y.fn) ∧ X.cell? ⟨w.heap.size + 1 + 1, 2, none⟩ = some (.slice b y.args.length cb))) (first | exact K0 | exact K1 | exact K2 | exact K3 | exact K4 | exact K5 | exact K6 | exact K7 | exact K8 | exact K9 | exact K10 | exact K11 | exact K12 | exact K13) (first
      | (go_at_call 17; refine (h17 _ T12).mono ?_; rintro e W13 ⟨rfl, T13⟩; have K13 := hC _ T13)
      | (go_at_call 16; refine (h16 _ T11).mono ?_; rintro e W12 ⟨rfl, T12⟩; have K12 := hC _ T12)
      | (go_at_call 15; refine (h15 _ T10).mono ?_; rintro e W11 ⟨rfl, T11⟩; have K11 := hC _ T11)
      | (go_at_call 9; refine (h9 _ T9).mono ?_; rintro e W10 ⟨rfl, T10⟩; have K10 := hC _ T10)
      | (go_at_call 14; refine (h14 _ T8).mono ?_; rintro e W9 ⟨rfl, T9⟩; have K9 := hC _ T9)
      | (go_at_call 13; refine (h13 _ T7).mono ?_; rintro e W8 ⟨rfl, T8⟩; have K8 := hC _ T8)
      | (go_at_call 9; refine (h9 _ T6).mono ?_; rintro e W7 ⟨rfl, T7⟩; have K7 := hC _ T7)
      | (go_at_call 12; refine (h12 _ T5).mono ?_; rintro e W6 ⟨rfl, T6⟩; have K6 := hC _ T6)
      | (go_at_call 11; refine (h11 _ T4).mono ?_; rintro e W5 ⟨rfl, T5⟩; have K5 := hC _ T5)
      | (go_at_call 9; refine (h9 _ T3).mono ?_; rintro e W4 ⟨rfl, T4⟩; have K4 := hC _ T4)
      | (go_at_call 10; refine (h10 _ T2).mono ?_; rintro e W3 ⟨rfl, T3⟩; have K3 := hC _ T3)
      | (go_at_call 8; refine (h8 _ T1).mono ?_; rintro e W2 ⟨rfl, T2⟩; have K2 := hC _ T2)
      | (go_at_call 9; refine (h9 _ hTd).mono ?_; rintro e W1 ⟨rfl, T1⟩; have K1 := hC _ T1))
    go_wp2
    go_ret
    exact ⟨rfl, hB _ T13⟩)

end Go.Proofs.Ytcnodgjalkcgiaa
