import Derived.Test.YtglphfhlpobgcaaGreatVG
import Derived.Test.YtglphfhlpobgcaaGreatKF
namespace Go.Proofs.YtglphfhlpobgcaaGreat
set_option maxRecDepth 100000
set_option maxHeartbeats 4000000
open Go.RowKit Go.Maps
def tsymB (g : Sg) (x y : T) : Bool := if x.fn = y.fn then decide (y.args.length < x.args.length) else g.above x.fn y.fn
theorem tsymB_iff {g : Sg} {x y : T} : tsymB g x y = true ↔ g.sym x.fn y.fn x.args.length y.args.length := by
 unfold tsymB Sg.sym
 by_cases h : x.fn = y.fn
 ·rw [if_pos h, h, above_irrefl]
  simp
 ·rw [if_neg h]
  simp [h]
theorem rsym_any (g : Sg) (x y : T) (vn vw : Value) (a b : Option Addr) (ca cb : Nat) (w : World) (hg : SgAt w g vn vw) :
  Calls Tryz.prog 98 #[gval vn vw, tval x (.slice a x.args.length ca), tval y (.slice b y.args.length cb)] w fun e w' => e = .returned (.bool (tsymB g x y)) ∧ Below w.heap.size w w' := by
 obtain ⟨an, cn, rfl, _, _⟩ := hg.ns.slice
 obtain ⟨aw, cw, rfl, _, _⟩ := hg.ws.slice
 have hT := tri_made w (.slice an g.ns.length cn) (.slice aw g.ws.length cw) 25 x (.slice a x.args.length ca) y (.slice b y.args.length cb)
 obtain ⟨i0, i1, j0, j1, j2, k0, k1, k2, hb, _⟩ := hT
 have hc := rabove_any g x.fn y.fn _ _ _ (hg.keep hb (Nat.le_refl _))
 have HB : Hid (Below w.heap.size w (((w.alloc (.cells #[.slice an g.ns.length cn, .slice aw g.ws.length cw] 25)).alloc (tbox x (.slice a x.args.length ca))).alloc (tbox y (.slice b y.args.length cb)))) := hb
 clear hb hg
 by_cases h : x.fn = y.fn
 ·have HV : Hid (tsymB g x y = decide (y.args.length < x.args.length)) := by show _ = _; unfold tsymB; rw [if_pos h]
  have e1 : (x.fn.toList == y.fn.toList) = true := by rw [h]; simp
  clear h
  go_enter Tryz.func98, Tryz.ntmps98
  go_wp2
  go_ret
  exact ⟨ret_bool (by rw [HV.out]), HB.out⟩
 ·have HV : Hid (tsymB g x y = g.above x.fn y.fn) := by show _ = _; unfold tsymB; rw [if_neg h]
  have e1 : (x.fn.toList == y.fn.toList) = false := by rw [beq_eq_false_iff_ne]; exact fun k => h (ba_toList_inj.1 k)
  clear h
  go_enter Tryz.func98, Tryz.ntmps98
  go_wp2_with fail
  refine hc.mono ?_
  rintro e W2 ⟨rfl, hb2⟩
  go_wp2
  go_ret
  exact ⟨ret_bool HV.out.symm, HB.out.trans (hb2.mono HB.out.size)⟩
open Classical in
noncomputable def lgB (g : Sg) (x y : T) : Bool := decide (lg g x y)
theorem lgB_iff {g : Sg} {x y : T} : lgB g x y = true ↔ lg g x y := by simp [lgB]
def GreaterOk : Prop := ∀ (g : Sg) (x y : T) (vn vw sx sy : Value) (w : World), SgAt w g vn vw -> ArgsAt w sx x.args -> ArgsAt w sy y.args -> x.shape = true -> y.shape = true -> x.size <= 4000 -> y.size <= 4000 ->
 Calls Tryz.prog 55 #[gval vn vw, tval x sx, tval y sy] w fun e w' => e = .returned (.bool (lgB g x y)) ∧ Below w.heap.size w w'
theorem rcompare_of (h27 : GreaterOk) (g : Sg) (x y : T) (vn vw sx sy : Value) (w : World) (hg : SgAt w g vn vw) (hax : ArgsAt w sx x.args) (hay : ArgsAt w sy y.args) (hzx : x.size <= 1048576) (hzy : y.size <= 1048576) :
  Calls Tryz.prog 27 #[gval vn vw, tval x sx, tval y sy] w fun e w' => e = .returned (.int .i64 (lcmp g x y)) ∧ Below w.heap.size w w' := by
 obtain ⟨an, cn, rfl, _, _⟩ := hg.ns.slice
 obtain ⟨aw, cw, rfl, _, _⟩ := hg.ws.slice
 obtain ⟨a, ca, rfl, _, _⟩ := hax.slice
 obtain ⟨b, cb, rfl, _, _⟩ := hay.slice
 have hT := tri_made w (.slice an g.ns.length cn) (.slice aw g.ws.length cw) 25 x (.slice a x.args.length ca) y (.slice b y.args.length cb)
 have hC : ∀ X, Tri w (.slice an g.ns.length cn) (.slice aw g.ws.length cw) x (.slice a x.args.length ca) y (.slice b y.args.length cb) X -> (X.cell? ⟨w.heap.size, 0, none⟩ = some (.slice an g.ns.length cn) ∧ X.cell? ⟨w.heap.size, 1, none⟩ = some (.slice aw g.ws.length cw)) ∧ (X.cell? ⟨w.heap.size + 1, 0, none⟩ = some (.int .i64 x.v) ∧ X.cell? ⟨w.heap.size + 1, 1, none⟩ = some (.string x.fn) ∧ X.cell? ⟨w.heap.size + 1, 2, none⟩ = some (.slice a x.args.length ca)) ∧ (X.cell? ⟨w.heap.size + 1 + 1, 0, none⟩ = some (.int .i64 y.v) ∧ X.cell? ⟨w.heap.size + 1 + 1, 1, none⟩ = some (.string y.fn) ∧ X.cell? ⟨w.heap.size + 1 + 1, 2, none⟩ = some (.slice b y.args.length cb)) := fun X h => ⟨⟨h.g0, h.g1⟩, ⟨h.a0, h.a1, h.a2⟩, h.b0, h.b1, h.b2⟩
 have hB : ∀ X, Tri w (.slice an g.ns.length cn) (.slice aw g.ws.length cw) x (.slice a x.args.length ca) y (.slice b y.args.length cb) X -> Below w.heap.size w X := fun X h => h.bel
 have h17 : ∀ X, Tri w (.slice an g.ns.length cn) (.slice aw g.ws.length cw) x (.slice a x.args.length ca) y (.slice b y.args.length cb) X -> Calls Tryz.prog 22 #[.agg #[.slice an g.ns.length cn, .slice aw g.ws.length cw]] X fun e X' => e = .returned (.bool g.ok) ∧ Tri w (.slice an g.ns.length cn) (.slice aw g.ws.length cw) x (.slice a x.args.length ca) y (.slice b y.args.length cb) X' := fun X hX => (rgright_any g _ _ X (hg.keep hX.bel (Nat.le_refl _))).mono fun e X' ⟨h1, h2⟩ => ⟨h1, hX.keep h2⟩
 have h18x : ∀ X, Tri w (.slice an g.ns.length cn) (.slice aw g.ws.length cw) x (.slice a x.args.length ca) y (.slice b y.args.length cb) X -> Calls Tryz.prog 46 #[tval x (.slice a x.args.length ca)] X fun e X' => e = .returned (.int .i64 x.rightW) ∧ Tri w (.slice an g.ns.length cn) (.slice aw g.ws.length cw) x (.slice a x.args.length ca) y (.slice b y.args.length cb) X' := fun X hX => (rright_any x _ X (ArgsAt.keep hX.bel (Nat.le_refl _) hax)).mono fun e X' ⟨h1, h2⟩ => ⟨h1, hX.keep h2⟩
 have h18y : ∀ X, Tri w (.slice an g.ns.length cn) (.slice aw g.ws.length cw) x (.slice a x.args.length ca) y (.slice b y.args.length cb) X -> Calls Tryz.prog 46 #[tval y (.slice b y.args.length cb)] X fun e X' => e = .returned (.int .i64 y.rightW) ∧ Tri w (.slice an g.ns.length cn) (.slice aw g.ws.length cw) x (.slice a x.args.length ca) y (.slice b y.args.length cb) X' := fun X hX => (rright_any y _ X (ArgsAt.keep hX.bel (Nat.le_refl _) hay)).mono fun e X' ⟨h1, h2⟩ => ⟨h1, hX.keep h2⟩
 have h26 : ∀ X, Tri w (.slice an g.ns.length cn) (.slice aw g.ws.length cw) x (.slice a x.args.length ca) y (.slice b y.args.length cb) X -> Calls Tryz.prog 54 #[tval x (.slice a x.args.length ca), tval y (.slice b y.args.length cb)] X fun e X' => e = .returned (.bool (same x y)) ∧ Tri w (.slice an g.ns.length cn) (.slice aw g.ws.length cw) x (.slice a x.args.length ca) y (.slice b y.args.length cb) X' := fun X hX => (rsame_any x y _ _ X (ArgsAt.keep hX.bel (Nat.le_refl _) hax) (ArgsAt.keep hX.bel (Nat.le_refl _) hay)).mono fun e X' ⟨h1, h2⟩ => ⟨h1, hX.keep h2⟩
 have hxy : x.rightW = 0 -> y.rightW = 0 -> ∀ X, Tri w (.slice an g.ns.length cn) (.slice aw g.ws.length cw) x (.slice a x.args.length ca) y (.slice b y.args.length cb) X -> Calls Tryz.prog 55 #[.agg #[.slice an g.ns.length cn, .slice aw g.ws.length cw], tval x (.slice a x.args.length ca), tval y (.slice b y.args.length cb)] X fun e X' => e = .returned (.bool (lgB g x y)) ∧ Tri w (.slice an g.ns.length cn) (.slice aw g.ws.length cw) x (.slice a x.args.length ca) y (.slice b y.args.length cb) X' := fun hx hy X hX => (h27 g x y _ _ _ _ X (hg.keep hX.bel (Nat.le_refl _)) (ArgsAt.keep hX.bel (Nat.le_refl _) hax) (ArgsAt.keep hX.bel (Nat.le_refl _) hay) (right_facts hx hzx).1 (right_facts hy hzy).1 (right_facts hx hzx).2 (right_facts hy hzy).2).mono fun e X' ⟨h1, h2⟩ => ⟨h1, hX.keep h2⟩
 have hyx : x.rightW = 0 -> y.rightW = 0 -> ∀ X, Tri w (.slice an g.ns.length cn) (.slice aw g.ws.length cw) x (.slice a x.args.length ca) y (.slice b y.args.length cb) X -> Calls Tryz.prog 55 #[.agg #[.slice an g.ns.length cn, .slice aw g.ws.length cw], tval y (.slice b y.args.length cb), tval x (.slice a x.args.length ca)] X fun e X' => e = .returned (.bool (lgB g y x)) ∧ Tri w (.slice an g.ns.length cn) (.slice aw g.ws.length cw) x (.slice a x.args.length ca) y (.slice b y.args.length cb) X' := fun hx hy X hX => (h27 g y x _ _ _ _ X (hg.keep hX.bel (Nat.le_refl _)) (ArgsAt.keep hX.bel (Nat.le_refl _) hay) (ArgsAt.keep hX.bel (Nat.le_refl _) hax) (right_facts hy hzy).1 (right_facts hx hzx).1 (right_facts hy hzy).2 (right_facts hx hzx).2).mono fun e X' ⟨h1, h2⟩ => ⟨h1, hX.keep h2⟩
 obtain ⟨S, hS⟩ : ∃ S, Tri w (.slice an g.ns.length cn) (.slice aw g.ws.length cw) x (.slice a x.args.length ca) y (.slice b y.args.length cb) = S := ⟨_, rfl⟩
 rw [hS] at hT hC hB h17 h18x h18y h26 hxy hyx
 clear hS hg hax hay hzx hzy h27
 obtain ⟨⟨i0, i1⟩, ⟨i2, i3, i4⟩, i5, i6, i7⟩ := hC _ hT
 cases hok : g.ok
 ·have HV : Hid (lcmp g x y = 2) := by show _ = _; unfold lcmp; rw [if_neg (fun h => ok_no.1 hok h.1)]
  rw [hok] at h17
  clear hok hxy hyx h18x h18y h26
  go_enter Tryz.func27, Tryz.ntmps27
  go_wp2_with fail
  refine (h17 _ hT).mono ?_
  rintro e W2 ⟨rfl, hT2⟩
  go_wp2
  go_ret
  exact ⟨ret_i64 HV.out.symm, hB _ hT2⟩
 have HOk : Hid g.Ok := ok_iff.1 hok
 rw [hok] at h17
 clear hok
 by_cases hrx : x.rightW = 0
 case neg =>
  have HV : Hid (lcmp g x y = 2) := by show _ = _; unfold lcmp; rw [if_neg (fun h => hrx h.2.1)]
  have e3 : (x.rightW != 0) = true := by rw [bne_iff_ne]; exact hrx
  clear hrx hxy hyx h18y h26
  go_enter Tryz.func27, Tryz.ntmps27
  go_wp2_with fail
  refine (h17 _ hT).mono ?_
  rintro e W2 ⟨rfl, hT2⟩
  obtain ⟨⟨j0, j1⟩, ⟨j2, j3, j4⟩, j5, j6, j7⟩ := hC _ hT2
  go_wp2_with fail
  refine (h18x _ hT2).mono ?_
  rintro e W3 ⟨rfl, hT3⟩
  go_wp2
  go_ret
  exact ⟨ret_i64 HV.out.symm, hB _ hT3⟩
 by_cases hry : y.rightW = 0
 case neg =>
  have HV : Hid (lcmp g x y = 2) := by show _ = _; unfold lcmp; rw [if_neg (fun h => hry h.2.2)]
  have e3 : (y.rightW != 0) = true := by rw [bne_iff_ne]; exact hry
  rw [hrx] at h18x
  clear hrx hry hxy hyx h26
  go_enter Tryz.func27, Tryz.ntmps27
  go_wp2_with fail
  refine (h17 _ hT).mono ?_
  rintro e W2 ⟨rfl, hT2⟩
  obtain ⟨⟨j0, j1⟩, ⟨j2, j3, j4⟩, j5, j6, j7⟩ := hC _ hT2
  go_wp2_with fail
  refine (h18x _ hT2).mono ?_
  rintro e W3 ⟨rfl, hT3⟩
  obtain ⟨⟨k0, k1⟩, ⟨k2, k3, k4⟩, k5, k6, k7⟩ := hC _ hT3
  go_wp2_with fail
  refine (h18y _ hT3).mono ?_
  rintro e W4 ⟨rfl, hT4⟩
  go_wp2
  go_ret
  exact ⟨ret_i64 HV.out.symm, hB _ hT4⟩
 have HR : Hid (lcmp g x y = pcmp g x y) := by show _ = _; unfold lcmp; rw [if_pos ⟨HOk.out, hrx, hry⟩]
 have hxy' := hxy hrx hry
 have hyx' := hyx hrx hry
 rw [hrx] at h18x
 rw [hry] at h18y
 clear hrx hry hxy hyx
 by_cases hs : x = y
 ·have HV : Hid (lcmp g x y = 0) := by show _ = _; rw [HR.out]; exact pcmp_zero.2 hs
  rw [show same x y = true by simp [same, hs]] at h26
  clear hs hxy' hyx'
  go_enter Tryz.func27, Tryz.ntmps27
  go_wp2_with fail
  refine (h17 _ hT).mono ?_
  rintro e W2 ⟨rfl, hT2⟩
  obtain ⟨⟨j0, j1⟩, ⟨j2, j3, j4⟩, j5, j6, j7⟩ := hC _ hT2
  go_wp2_with fail
  refine (h18x _ hT2).mono ?_
  rintro e W3 ⟨rfl, hT3⟩
  obtain ⟨⟨k0, k1⟩, ⟨k2, k3, k4⟩, k5, k6, k7⟩ := hC _ hT3
  go_wp2_with fail
  refine (h18y _ hT3).mono ?_
  rintro e W4 ⟨rfl, hT4⟩
  obtain ⟨⟨l0, l1⟩, ⟨l2, l3, l4⟩, l5, l6, l7⟩ := hC _ hT4
  go_wp2_with fail
  refine (h26 _ hT4).mono ?_
  rintro e W5 ⟨rfl, hT5⟩
  go_wp2
  go_ret
  exact ⟨ret_i64 HV.out.symm, hB _ hT5⟩
 rw [show same x y = false by simp [same, hs]] at h26
 cases h1 : lgB g x y
 case true =>
  have HV : Hid (lcmp g x y = 1) := by show _ = _; rw [HR.out]; exact pcmp_gr.2 (lgB_iff.1 h1)
  rw [h1] at hxy'
  clear h1 hs hyx'
  go_enter Tryz.func27, Tryz.ntmps27
  go_wp2_with fail
  refine (h17 _ hT).mono ?_
  rintro e W2 ⟨rfl, hT2⟩
  obtain ⟨⟨j0, j1⟩, ⟨j2, j3, j4⟩, j5, j6, j7⟩ := hC _ hT2
  go_wp2_with fail
  refine (h18x _ hT2).mono ?_
  rintro e W3 ⟨rfl, hT3⟩
  obtain ⟨⟨k0, k1⟩, ⟨k2, k3, k4⟩, k5, k6, k7⟩ := hC _ hT3
  go_wp2_with fail
  refine (h18y _ hT3).mono ?_
  rintro e W4 ⟨rfl, hT4⟩
  obtain ⟨⟨l0, l1⟩, ⟨l2, l3, l4⟩, l5, l6, l7⟩ := hC _ hT4
  go_wp2_with fail
  refine (h26 _ hT4).mono ?_
  rintro e W5 ⟨rfl, hT5⟩
  obtain ⟨⟨m0, m1⟩, ⟨m2, m3, m4⟩, m5, m6, m7⟩ := hC _ hT5
  go_wp2_with fail
  refine (hxy' _ hT5).mono ?_
  rintro e W6 ⟨rfl, hT6⟩
  go_wp2
  go_ret
  exact ⟨ret_i64 HV.out.symm, hB _ hT6⟩
 rw [h1] at hxy'
 have n1 : ¬ lg g x y := fun h => by rw [lgB_iff.2 h] at h1; cases h1
 cases h2 : lgB g y x
 case true =>
  have HV : Hid (lcmp g x y = -1) := by show _ = _; rw [HR.out]; exact pcmp_ls.2 (lgB_iff.1 h2)
  rw [h2] at hyx'
  clear h1 h2 hs n1
  go_enter Tryz.func27, Tryz.ntmps27
  go_wp2_with fail
  refine (h17 _ hT).mono ?_
  rintro e W2 ⟨rfl, hT2⟩
  obtain ⟨⟨j0, j1⟩, ⟨j2, j3, j4⟩, j5, j6, j7⟩ := hC _ hT2
  go_wp2_with fail
  refine (h18x _ hT2).mono ?_
  rintro e W3 ⟨rfl, hT3⟩
  obtain ⟨⟨k0, k1⟩, ⟨k2, k3, k4⟩, k5, k6, k7⟩ := hC _ hT3
  go_wp2_with fail
  refine (h18y _ hT3).mono ?_
  rintro e W4 ⟨rfl, hT4⟩
  obtain ⟨⟨l0, l1⟩, ⟨l2, l3, l4⟩, l5, l6, l7⟩ := hC _ hT4
  go_wp2_with fail
  refine (h26 _ hT4).mono ?_
  rintro e W5 ⟨rfl, hT5⟩
  obtain ⟨⟨m0, m1⟩, ⟨m2, m3, m4⟩, m5, m6, m7⟩ := hC _ hT5
  go_wp2_with fail
  refine (hxy' _ hT5).mono ?_
  rintro e W6 ⟨rfl, hT6⟩
  obtain ⟨⟨n0, n1⟩, ⟨n2, n3, n4⟩, n5, n6, n7⟩ := hC _ hT6
  go_wp2_with fail
  refine (hyx' _ hT6).mono ?_
  rintro e W7 ⟨rfl, hT7⟩
  go_wp2
  go_ret
  exact ⟨ret_i64 HV.out.symm, hB _ hT7⟩
 have n2 : ¬ lg g y x := fun h => by rw [lgB_iff.2 h] at h2; cases h2
 have HV : Hid (lcmp g x y = 2) := by show _ = _; rw [HR.out]; exact pcmp_none hs n1 n2
 rw [h2] at hyx'
 clear h1 h2 hs n1 n2
 go_enter Tryz.func27, Tryz.ntmps27
 go_wp2_with fail
 refine (h17 _ hT).mono ?_
 rintro e W2 ⟨rfl, hT2⟩
 obtain ⟨⟨j0, j1⟩, ⟨j2, j3, j4⟩, j5, j6, j7⟩ := hC _ hT2
 go_wp2_with fail
 refine (h18x _ hT2).mono ?_
 rintro e W3 ⟨rfl, hT3⟩
 obtain ⟨⟨k0, k1⟩, ⟨k2, k3, k4⟩, k5, k6, k7⟩ := hC _ hT3
 go_wp2_with fail
 refine (h18y _ hT3).mono ?_
 rintro e W4 ⟨rfl, hT4⟩
 obtain ⟨⟨l0, l1⟩, ⟨l2, l3, l4⟩, l5, l6, l7⟩ := hC _ hT4
 go_wp2_with fail
 refine (h26 _ hT4).mono ?_
 rintro e W5 ⟨rfl, hT5⟩
 obtain ⟨⟨m0, m1⟩, ⟨m2, m3, m4⟩, m5, m6, m7⟩ := hC _ hT5
 go_wp2_with fail
 refine (hxy' _ hT5).mono ?_
 rintro e W6 ⟨rfl, hT6⟩
 obtain ⟨⟨n0, n1⟩, ⟨n2, n3, n4⟩, n5, n6, n7⟩ := hC _ hT6
 go_wp2_with fail
 refine (hyx' _ hT6).mono ?_
 rintro e W7 ⟨rfl, hT7⟩
 go_wp2
 go_ret
 exact ⟨ret_i64 HV.out.symm, hB _ hT7⟩
abbrev iI (n : Nat) : Value := .int .i64 (n : Int)
structure Ly (w0 : World) (pb : Nat) (ps : List (T × Value)) (os : List (Value × List Nat)) (vl vo : Value) (W : World) : Prop where
 head : W.heap[pb]? = some (.cells #[vl, vo] 146 (0, 0))
 rl : W.ownsRow w0.heap.size 30 3 vl ps.length (flatT ps)
 ro : W.ownsRow w0.heap.size 23 1 vo os.length (os.map (·.1))
 len : os.length = ps.length
 ra : ∀ p ∈ ps, ArgsAt w0 p.2 p.1.args
 rw : ∀ o ∈ os, W.ownsRow w0.heap.size 3 1 o.1 o.2.length (o.2.map iI)
 ix : ∀ i (h : i < ps.length) (h' : i < os.length), Idx (ps.map (·.1)) os[i].2 ps[i].1.args ∧ ∀ j ∈ os[i].2, j < i
 low : w0.heap.size <= pb
abbrev pbs (pb : Nat) (vl vo : Value) : List Nat := pb :: (vl.ownBlock.toList ++ vo.ownBlock.toList)
section
variable {w0 : World} {pb : Nat} {ps : List (T × Value)} {os : List (Value × List Nat)} {vl vo : Value} {W W' : World}
theorem Ly.lows (h : Ly w0 pb ps os vl vo W) : ∀ r ∈ pbs pb vl vo, w0.heap.size <= r := by
 intro r hr
 simp only [pbs, List.mem_cons, List.mem_append, Option.mem_toList] at hr
 rcases hr with rfl | hr | hr
 ·exact h.low
 ·exact (row_block h.rl hr).1
 ·exact (row_block h.ro hr).1
theorem Ly.there (h : Ly w0 pb ps os vl vo W) : ∀ r ∈ pbs pb vl vo, r < W.heap.size := by
 intro r hr
 simp only [pbs, List.mem_cons, List.mem_append, Option.mem_toList] at hr
 rcases hr with rfl | hr | hr
 ·exact (Array.getElem?_eq_some_iff.1 h.head).1
 ·obtain ⟨_, cur, hg⟩ := row_block h.rl hr
  exact (Array.getElem?_eq_some_iff.1 hg).1
 ·obtain ⟨_, cur, hg⟩ := row_block h.ro hr
  exact (Array.getElem?_eq_some_iff.1 hg).1
theorem Ly.off (h : Ly w0 pb ps os vl vo W) {r : Nat} {cur : Array Value} {ty : TypeId} (hr : W.heap[r]? = some (.cells cur ty (0, 0))) (h1 : ty ≠ 146) (h2 : ty ≠ 30) (h3 : ty ≠ 23) : r ∉ pbs pb vl vo := by
 simp only [pbs, List.mem_cons, List.mem_append, Option.mem_toList, not_or]
 refine ⟨fun e => ?_, fun e => ?_, fun e => ?_⟩
 ·rw [e, h.head] at hr
  simp only [Option.some.injEq, Obj.cells.injEq] at hr
  exact h1 hr.2.1.symm
 ·obtain ⟨_, cur', hg⟩ := row_block h.rl e
  rw [hr] at hg
  simp only [Option.some.injEq, Obj.cells.injEq] at hg
  exact h2 hg.2.1
 ·obtain ⟨_, cur', hg⟩ := row_block h.ro e
  rw [hr] at hg
  simp only [Option.some.injEq, Obj.cells.injEq] at hg
  exact h3 hg.2.1
theorem Ly.keep (h : Ly w0 pb ps os vl vo W) (hk : ∀ r, r < W.heap.size -> (r ∈ pbs pb vl vo ∨ ∃ cur, W.heap[r]? = some (.cells cur 3 (0, 0))) -> W'.heap[r]? = W.heap[r]?) : Ly w0 pb ps os vl vo W' := by
 have hb : ∀ r ∈ pbs pb vl vo, W'.heap[r]? = W.heap[r]? := fun r hr => hk r (h.there r hr) (.inl hr)
 refine ⟨(hb pb (by simp)).trans h.head, rowL_keep h.rl (fun g hg => hb g (by simp [hg])), rowL_keep h.ro (fun g hg => hb g (by simp [hg])), h.len, h.ra, fun o ho => rowL_keep (h.rw o ho) (fun g hg => ?_), h.ix, h.low⟩
 obtain ⟨_, cur, hc⟩ := row_block (h.rw o ho) hg
 exact hk g (Array.getElem?_eq_some_iff.1 hc).1 (.inr ⟨cur, hc⟩)
theorem Ly.below (h : Ly w0 pb ps os vl vo W) (hb : Below W.heap.size W W') : Ly w0 pb ps os vl vo W' :=
 h.keep fun r hr _ => hb.block r hr
theorem Ly.apart (h : Ly w0 pb ps os vl vo W) : (∀ g, vl.ownBlock = some g -> g ≠ pb ∧ vo.ownBlock ≠ some g) ∧ (∀ g, vo.ownBlock = some g -> g ≠ pb) := by
 have hh := h.head
 refine ⟨fun g hg => ⟨fun e => ?_, fun e => ?_⟩, fun g hg e => ?_⟩
 ·obtain ⟨_, cur, hc⟩ := row_block h.rl hg
  rw [e, hh] at hc
  simp only [Option.some.injEq, Obj.cells.injEq] at hc
  exact absurd hc.2.1 (by decide)
 ·obtain ⟨_, cur, hc⟩ := row_block h.rl hg
  obtain ⟨_, cur', hc'⟩ := row_block h.ro e
  rw [hc] at hc'
  simp only [Option.some.injEq, Obj.cells.injEq] at hc'
  exact absurd hc'.2.1 (by decide)
 ·obtain ⟨_, cur, hc⟩ := row_block h.ro hg
  rw [e, hh] at hc
  simp only [Option.some.injEq, Obj.cells.injEq] at hc
  exact absurd hc.2.1 (by decide)
theorem Ly.cells (h : Ly w0 pb ps os vl vo W) : W.cell? ⟨pb, 0, none⟩ = some vl ∧ W.cell? ⟨pb, 1, none⟩ = some vo ∧ W.frozen? ⟨pb, 0, none⟩ = false ∧ W.frozen? ⟨pb, 1, none⟩ = false := by
 have hb := h.head
 refine ⟨?_, ?_, ?_, ?_⟩ <;> simp [World.cell?, World.frozen?, hb]
theorem Ly.term (h : Ly w0 pb ps os vl vo W) {i : Nat} (hi : i < ps.length) : ∃ b c, vl = .slice (some ⟨b, 0, none⟩) ps.length c ∧ W.cell? ⟨b, 0 + i * 3, none⟩ = some (.int .i64 ps[i].1.v) ∧ W.cell? ⟨b, 0 + i * 3 + 1, none⟩ = some (.string ps[i].1.fn) ∧ W.cell? ⟨b, 0 + i * 3 + 2, none⟩ = some ps[i].2 := by
 obtain ⟨hl, ⟨e, h0⟩ | ⟨g, cap, cur, e, hb, hg, hc, hm, hsz, ht⟩⟩ := h.rl
 ·omega
 ·obtain ⟨f1, f2, f3⟩ := flatT_get ps i hi
  refine ⟨g, cap, e, ?_, ?_, ?_⟩
  ·rw [<- ht, List.getElem?_take, if_pos (by omega)] at f1
   rw [Nat.zero_add, cell_of_row _ _ _ _ 30 (0, 0) hg, <- f1]; simp
  ·rw [<- ht, List.getElem?_take, if_pos (by omega)] at f2
   rw [Nat.zero_add, cell_of_row _ _ _ _ 30 (0, 0) hg, <- f2]; simp
  ·rw [<- ht, List.getElem?_take, if_pos (by omega)] at f3
   rw [Nat.zero_add, cell_of_row _ _ _ _ 30 (0, 0) hg, <- f3]; simp
theorem Ly.own (h : Ly w0 pb ps os vl vo W) {i : Nat} (hi : i < os.length) : ∃ b c, vo = .slice (some ⟨b, 0, none⟩) os.length c ∧ W.cell? ⟨b, 0 + i, none⟩ = some os[i].1 := by
 obtain ⟨hl, ⟨e, h0⟩ | ⟨g, cap, cur, e, hb, hg, hc, hm, hsz, ht⟩⟩ := h.ro
 ·omega
 ·refine ⟨g, cap, e, ?_⟩
  have f : (os.map (·.1))[i]? = some os[i].1 := by simp [hi]
  rw [<- ht, List.getElem?_take, if_pos (by omega)] at f
  rw [Nat.zero_add, cell_of_row _ _ _ _ 23 (0, 0) hg, <- f]; simp
end
def LayOk (w0 : World) (pb : Nat) (t : T) : Prop :=
 ∀ sl ps os vl vo W, Ly w0 pb ps os vl vo W -> ArgsAt w0 sl t.args -> Below w0.heap.size w0 W -> ps.length + t.size.toNat <= 8000 ->
  Calls Tryz.prog 93 #[.pointer (some ⟨pb, 0, none⟩), tval t sl] W fun e W' => ∃ k ps' os' vl' vo', e = .returned (iI k) ∧ Ly w0 pb ps' os' vl' vo' W' ∧ ps <+: ps' ∧ os <+: os' ∧ ps'.length = k + 1 ∧ ps'.length <= ps.length + t.size.toNat ∧ (∃ h : k < ps'.length, ps'[k].1 = t) ∧ Only (pbs pb vl vo) W W' ∧
   (∀ g, vl'.ownBlock = some g -> vl.ownBlock = some g ∨ W.heap.size <= g) ∧ (∀ g, vo'.ownBlock = some g -> vo.ownBlock = some g ∨ W.heap.size <= g) ∧ (∀ o ∈ os', o ∈ os ∨ ∀ g, o.1.ownBlock = some g -> W.heap.size <= g)
theorem Tryz.info28z : (Tryz.prog.info? 30).map (·.size) = some 3 := by kernel_rfl
theorem row_base {W : World} {n m : Nat} {ty : TypeId} {k : Nat} {v : Value} {c : Nat} {vs : List Value} (h : W.ownsRow n ty k v c vs) (hm : m <= n) : W.ownsRow m ty k v c vs := by
 obtain ⟨h1, h2⟩ := h
 refine ⟨h1, ?_⟩
 rcases h2 with h2 | ⟨g, cap, cur, e, hb, r⟩
 ·exact .inl h2
 ·exact .inr ⟨g, cap, cur, e, by omega, r⟩
theorem row_store {W : World} {n0 : Nat} {v : Value} {n : Nat} {xs : List Value} {z0 z1 z2 : Value} (h : W.ownsRow n0 30 3 v (n + 1) (xs ++ [z0, z1, z2])) (hl : xs.length = n * 3) (c0 c1 c2 : Value) (h1 : ∀ u ∈ [c0, c1, c2], u.oneCell' = true) :
  ∃ g c, v = .slice (some ⟨g, 0, none⟩) (n + 1) c ∧ g < W.heap.size ∧ ∃ Y, (Instr.storeAt 30 (.pointer (some ⟨g, n * 3, none⟩)) (.agg #[c0, c1, c2])).run Tryz.prog W = .ok () Y ∧ Y.ownsRow n0 30 3 v (n + 1) (xs ++ [c0, c1, c2]) ∧ Only [g] W Y := by
 obtain ⟨h0, ⟨e, h2⟩ | ⟨g, cap, cur, e, hb, hg, hc, hm, hsz, ht⟩⟩ := h
 ·omega
 ·obtain ⟨cur', g1, g2, g3, g4, g5⟩ := heap_setCells g 30 [c0, c1, c2] (n * 3) W cur hg
  refine ⟨g, cap, e, (Array.getElem?_eq_some_iff.1 hg).1, W.setCells g (n * 3) [c0, c1, c2], ?_, ⟨by simp [hl]; omega, .inr ⟨g, cap, cur', e, hb, g1, hc, hm, by rw [g2, hsz], ?_⟩⟩, g5⟩
  ·refine run_storeAt_mid (P := Tryz.prog) W g (n * 3) 30 #[c0, c1, c2] (fun j hj => ?_) Tryz.info28z (all_oneCell_toArray h1)
   have hj3 : j < 3 := hj
   have hlt : n * 3 + j < cur.size := by omega
   simp [World.cell?, World.frozen?, hg, hlt]
  ·apply List.ext_getElem?
   intro j
   have hsz' : cur'.size = cap * 3 := by rw [g2, hsz]
   have ht' := congrArg (fun l => l[j]?) ht
   rw [List.getElem?_take] at ht' ⊢
   by_cases hj : j < (n + 1) * 3
   ·rw [if_pos hj] at ht' ⊢
    by_cases hj2 : j < n * 3
    ·rw [List.getElem?_append_left (by omega)] at ht' ⊢
     rw [<- ht']
     have := g3 j hj2
     simpa using this
    ·obtain ⟨m, rfl⟩ : ∃ m, j = n * 3 + m := ⟨j - n * 3, by omega⟩
     have := g4 m (by simp; omega) (by omega)
     rw [List.getElem?_append_right (by omega), hl, Nat.add_sub_cancel_left]
     have hm3 : m < [c0, c1, c2].length := by simp; omega
     rw [Array.getElem?_toList, this, <- List.getElem?_eq_getElem hm3]
   ·rw [if_neg hj, List.getElem?_eq_none (by simp [hl]; omega)]
section
variable {w0 : World} {pb : Nat} {ps : List (T × Value)} {os : List (Value × List Nat)} {vl vo vl' vo' ov : Value} {X Y1 Y2 Y3 Y5 Y6 : World} {t : T} {sl : Value} {ids : List Nat}
theorem Ly.snoc (h : Ly w0 pb ps os vl vo X) (ha : ArgsAt w0 sl t.args) (hix : Idx (ps.map (·.1)) ids t.args) (hid : ∀ j ∈ ids, j < ps.length) (hov : X.ownsRow w0.heap.size 3 1 ov ids.length (ids.map iI))
  (b1 : Below X.heap.size X Y1) (g2 : Y1.grownBy Y2 vl.ownBlock) (hb2 : vl'.ownBlock = vl.ownBlock ∨ vl'.ownBlock = some Y1.heap.size) (o3 : ∀ g, vl'.ownBlock = some g -> Only [g] Y2 Y3) (hn3 : vl'.ownBlock ≠ none) (r3 : Y3.ownsRow w0.heap.size 30 3 vl' (ps.length + 1) (flatT ps ++ [.int .i64 t.v, .string t.fn, sl]))
  (b5 : Below (Y3.setCell ⟨pb, 0, none⟩ vl').heap.size (Y3.setCell ⟨pb, 0, none⟩ vl') Y5) (g6 : Y5.grownBy Y6 vo.ownBlock) (hb6 : vo'.ownBlock = vo.ownBlock ∨ vo'.ownBlock = some Y5.heap.size) (r6 : Y6.ownsRow w0.heap.size 23 1 vo' (os.length + 1) (os.map (·.1) ++ [ov])) :
  Ly w0 pb (ps ++ [(t, sl)]) (os ++ [(ov, ids)]) vl' vo' (Y6.setCell ⟨pb, 1, none⟩ vo') ∧ Only (pbs pb vl vo) X (Y6.setCell ⟨pb, 1, none⟩ vo') ∧ (∀ g, vl'.ownBlock = some g -> vl.ownBlock = some g ∨ X.heap.size <= g) ∧ (∀ g, vo'.ownBlock = some g -> vo.ownBlock = some g ∨ X.heap.size <= g) := by
 obtain ⟨q1, q2⟩ := h.apart
 obtain ⟨gl, hgl⟩ := Option.ne_none_iff_exists'.1 hn3
 have hpb := h.there pb (by simp)
 have s1 := b1.size
 have s2 := g2.size
 have hO3 := o3 gl hgl
 have s3 := hO3.size
 have s4 : (Y3.setCell ⟨pb, 0, none⟩ vl').heap.size = Y3.heap.size := by simp
 have s5 := b5.size
 have s6 := g6.size
 have hl' : ∀ g, vl'.ownBlock = some g -> vl.ownBlock = some g ∨ X.heap.size <= g := fun g hg => by
  rcases hb2 with e | e
  ·exact .inl (e ▸ hg)
  ·rw [e] at hg; have := Option.some.inj hg; exact .inr (by omega)
 have ho' : ∀ g, vo'.ownBlock = some g -> vo.ownBlock = some g ∨ X.heap.size <= g := fun g hg => by
  rcases hb6 with e | e
  ·exact .inl (e ▸ hg)
  ·rw [e] at hg; have := Option.some.inj hg; exact .inr (by omega)
 have k3 : ∀ r, r < X.heap.size -> vl.ownBlock ≠ some r -> Y3.heap[r]? = X.heap[r]? := fun r hr hn => by
  have e1 := b1.block r hr
  have e2 := g2.block r (by omega) (fun e => hn e.symm)
  have e3 := hO3.block r (by omega) (by
   simp
   intro e
   rcases hl' gl hgl with k | k
   ·exact hn (e ▸ k)
   ·omega)
  exact e3.trans (e2.trans e1)
 have k7 : ∀ r, r < X.heap.size -> vl.ownBlock ≠ some r -> vo.ownBlock ≠ some r -> r ≠ pb -> (Y6.setCell ⟨pb, 1, none⟩ vo').heap[r]? = X.heap[r]? := fun r hr h1 h2 h3 => by
  have e4 := (only_setCell Y3 pb 0 vl').block r (by omega) (by simpa using h3)
  have e5 := b5.block r (by omega)
  have e6 := g6.block r (by omega) (fun e => h2 e.symm)
  have e7 := (only_setCell Y6 pb 1 vo').block r (by omega) (by simpa using h3)
  exact e7.trans (e6.trans (e5.trans (e4.trans (k3 r hr h1))))
 have p3 : Y3.heap[pb]? = some (.cells #[vl, vo] 146 (0, 0)) := (k3 pb hpb (fun e => (q1 pb e).1 rfl)).trans h.head
 have p4 : (Y3.setCell ⟨pb, 0, none⟩ vl').heap[pb]? = some (.cells #[vl', vo] 146 (0, 0)) := by
  have := Go.heap_setCell_same Y3 pb 0 _ 146 vl' p3
  simpa using this
 have p6 : Y6.heap[pb]? = some (.cells #[vl', vo] 146 (0, 0)) := (g6.block pb (by omega) (fun e => q2 pb e.symm rfl)).trans ((b5.block pb (by omega)).trans p4)
 have p7 : (Y6.setCell ⟨pb, 1, none⟩ vo').heap[pb]? = some (.cells #[vl', vo'] 146 (0, 0)) := by
  have := Go.heap_setCell_same Y6 pb 1 _ 146 vo' p6
  simpa using this
 have hglp : gl ≠ pb := by
  rcases hl' gl hgl with k | k
  ·exact (q1 gl k).1
  ·omega
 obtain ⟨_, cur3, c3⟩ := row_block r3 hgl
 have lgl := (Array.getElem?_eq_some_iff.1 c3).1
 have hglo : vo.ownBlock ≠ some gl := by
  rcases hl' gl hgl with k | k
  ·exact (q1 gl k).2
  ·intro e
   have := h.there gl (by simp [e])
   omega
 have m7 : (Y6.setCell ⟨pb, 1, none⟩ vo').heap[gl]? = Y3.heap[gl]? := by
  have e4 := (only_setCell Y3 pb 0 vl').block gl (by omega) (by simpa using hglp)
  have e5 := b5.block gl (by omega)
  have e6 := g6.block gl (by omega) (fun e => hglo e.symm)
  have e7 := (only_setCell Y6 pb 1 vo').block gl (by omega) (by simpa using hglp)
  exact e7.trans (e6.trans (e5.trans e4))
 have hone : ∀ {g : Nat} {v : Value} {l : List Nat}, X.ownsRow w0.heap.size 3 1 v l.length (l.map iI) -> v.ownBlock = some g -> (Y6.setCell ⟨pb, 1, none⟩ vo').heap[g]? = X.heap[g]? := fun {g v l} hr hg => by
  obtain ⟨_, cur, hc⟩ := row_block hr hg
  have hoff := h.off hc (by decide) (by decide) (by decide)
  simp only [pbs, List.mem_cons, List.mem_append, Option.mem_toList, not_or] at hoff
  exact k7 g (Array.getElem?_eq_some_iff.1 hc).1 hoff.2.1 hoff.2.2 hoff.1
 refine ⟨⟨p7, ?_, ?_, by simp [h.len], ?_, ?_, ?_, h.low⟩, ?_, hl', ho'⟩
 ·rw [flatT_snoc, List.length_append]
  exact rowL_keep r3 (fun g hg => by
   have : g = gl := Option.some.inj (hg.symm.trans hgl)
   rw [this]; exact m7)
 ·rw [List.map_append, List.length_append]
  refine rowL_keep r6 (fun g hg => ?_)
  obtain ⟨_, cur, hc⟩ := row_block r6 hg
  refine (only_setCell Y6 pb 1 vo').block g (Array.getElem?_eq_some_iff.1 hc).1 ?_
  have : g ≠ pb := by
   rcases ho' g hg with k | k
   ·exact q2 g k
   ·omega
  simpa using this
 ·intro p hp
  rcases List.mem_append.1 hp with hp | hp
  ·exact h.ra p hp
  ·have : p = (t, sl) := by simpa using hp
   subst this
   exact ha
 ·intro o ho
  rcases List.mem_append.1 ho with ho | ho
  ·exact rowL_keep (h.rw o ho) (fun g hg => hone (h.rw o ho) hg)
  ·have : o = (ov, ids) := by simpa using ho
   subst this
   exact rowL_keep hov (fun g hg => hone hov hg)
 ·intro i hi hi'
  by_cases hl : i < ps.length
  ·have hl2 : i < os.length := by rw [h.len]; exact hl
   rw [List.getElem_append_left hl, List.getElem_append_left hl2, List.map_append]
   exact ⟨(h.ix i hl hl2).1.more, (h.ix i hl hl2).2⟩
  ·have e : i = ps.length := by simp at hi; omega
   subst e
   have e2 : ps.length = os.length := h.len.symm
   have f1 : (ps ++ [(t, sl)])[ps.length] = (t, sl) := by simp
   have f2 : (os ++ [(ov, ids)])[ps.length]'hi' = (ov, ids) := by simp [e2]
   rw [f1, f2, List.map_append]
   exact ⟨hix.more, hid⟩
 ·refine ⟨?_, ?_, ?_, by simp; omega, fun r hr hn => ?_⟩
  ·exact g6.os.trans (b5.os.trans (hO3.os.trans (g2.os.trans b1.os)))
  ·exact g6.tape.trans (b5.tape.trans (hO3.tape.trans (g2.tape.trans b1.tape)))
  ·exact g6.output.trans (b5.output.trans (hO3.output.trans (g2.output.trans b1.output)))
  ·simp only [pbs, List.mem_cons, List.mem_append, Option.mem_toList, not_or] at hn
   exact k7 r hr hn.2.1 hn.2.2 hn.1
end
theorem Ly.keep2 {w0 : World} {pb : Nat} {ps : List (T × Value)} {os : List (Value × List Nat)} {vl vo : Value} {W W' : World} (h : Ly w0 pb ps os vl vo W) (hb : ∀ r ∈ pbs pb vl vo, W'.heap[r]? = W.heap[r]?) (hr : ∀ o ∈ os, ∀ g, o.1.ownBlock = some g -> W'.heap[g]? = W.heap[g]?) : Ly w0 pb ps os vl vo W' :=
 ⟨(hb pb (by simp)).trans h.head, rowL_keep h.rl (fun g hg => hb g (by simp [hg])), rowL_keep h.ro (fun g hg => hb g (by simp [hg])), h.len, h.ra, fun o ho => rowL_keep (h.rw o ho) (hr o ho), h.ix, h.low⟩
structure Lw (w0 : World) (pb : Nat) (ps : List (T × Value)) (os : List (Value × List Nat)) (vl vo : Value) (W : World) (t : T) (sl : Value) (i : Nat) (ids : List Nat) (ov : Value) (ps1 : List (T × Value)) (os1 : List (Value × List Nat)) (vl1 vo1 : Value) (X : World) : Prop where
 ly : Ly w0 pb ps1 os1 vl1 vo1 X
 tb : X.heap[W.heap.size]? = some (.cells #[.int .i64 t.v, .string t.fn, sl] 30 (0, 0))
 ow : X.ownsRow W.heap.size 3 1 ov ids.length (ids.map iI)
 ix : Idx (ps1.map (·.1)) ids (t.args.take i)
 on : Only (pbs pb vl vo) W X
 prp : ps <+: ps1
 pro : os <+: os1
 ln : ps1.length <= ps.length + sizs (t.args.take i)
 hvl : ∀ g, vl1.ownBlock = some g -> vl.ownBlock = some g ∨ W.heap.size < g
 hvo : ∀ g, vo1.ownBlock = some g -> vo.ownBlock = some g ∨ W.heap.size < g
 dj : ∀ o ∈ os1, ∀ g, o.1.ownBlock = some g -> ov.ownBlock ≠ some g
 nw : ∀ o ∈ os1, o ∈ os ∨ ∀ g, o.1.ownBlock = some g -> W.heap.size <= g
 pl : ∀ r ∈ pbs pb vl vo, r < W.heap.size
section
variable {w0 : World} {pb : Nat} {ps ps1 ps2 : List (T × Value)} {os os1 os2 : List (Value × List Nat)} {vl vo vl1 vo1 vl2 vo2 ov ov' : Value} {W X X2 X3 X4 : World} {t : T} {sl : Value} {i k : Nat} {ids : List Nat}
theorem Lw.tboff (h : Lw w0 pb ps os vl vo W t sl i ids ov ps1 os1 vl1 vo1 X) : W.heap.size ∉ pbs pb vl1 vo1 := by
 simp only [pbs, List.mem_cons, List.mem_append, Option.mem_toList, not_or]
 refine ⟨fun e => ?_, fun e => ?_, fun e => ?_⟩
 ·have := h.pl pb (by simp)
  omega
 ·rcases h.hvl _ e with k | k
  ·have := h.pl W.heap.size (by simp [k])
   omega
  ·omega
 ·rcases h.hvo _ e with k | k
  ·have := h.pl W.heap.size (by simp [k])
   omega
  ·omega
theorem Lw.bs (h : Lw w0 pb ps os vl vo W t sl i ids ov ps1 os1 vl1 vo1 X) : ∀ r ∈ pbs pb vl1 vo1, r ∈ pbs pb vl vo ∨ W.heap.size <= r := by
 intro r hr
 simp only [pbs, List.mem_cons, List.mem_append, Option.mem_toList] at hr ⊢
 rcases hr with hr | hr | hr
 ·exact .inl (.inl hr)
 ·rcases h.hvl _ hr with k | k
  ·exact .inl (.inr (.inl k))
  ·exact .inr (by omega)
 ·rcases h.hvo _ hr with k | k
  ·exact .inl (.inr (.inr k))
  ·exact .inr (by omega)
theorem Lw.below (h : Lw w0 pb ps os vl vo W t sl i ids ov ps1 os1 vl1 vo1 X) (hb : Below X.heap.size X X2) : Lw w0 pb ps os vl vo W t sl i ids ov ps1 os1 vl1 vo1 X2 :=
 ⟨h.ly.below hb, (hb.block _ (Array.getElem?_eq_some_iff.1 h.tb).1).trans h.tb, rowL_keep h.ow (fun g hg => by
  obtain ⟨_, cur, hc⟩ := row_block h.ow hg
  exact hb.block g (Array.getElem?_eq_some_iff.1 hc).1), h.ix, h.on.trans (Only.of_below (B := []) hb) (by simp), h.prp, h.pro, h.ln, h.hvl, h.hvo, h.dj, h.nw, h.pl⟩
theorem Lw.next (h : Lw w0 pb ps os vl vo W t sl i ids ov ps1 os1 vl1 vo1 X) (hlt : i < t.args.length) (hL2 : Ly w0 pb ps2 os2 vl2 vo2 X2) (hp : ps1 <+: ps2) (hq : os1 <+: os2) (hl : ps2.length <= ps1.length + t.args[i].size.toNat) (he : ∃ h : k < ps2.length, ps2[k].1 = t.args[i])
  (ho : Only (pbs pb vl1 vo1) X X2) (hvl : ∀ g, vl2.ownBlock = some g -> vl1.ownBlock = some g ∨ X.heap.size <= g) (hvo : ∀ g, vo2.ownBlock = some g -> vo1.ownBlock = some g ∨ X.heap.size <= g) (hnw : ∀ o ∈ os2, o ∈ os1 ∨ ∀ g, o.1.ownBlock = some g -> X.heap.size <= g)
  (b3 : Below X2.heap.size X2 X3) (g4 : X3.grownBy X4 ov.ownBlock) (hb4 : ov'.ownBlock = ov.ownBlock ∨ ov'.ownBlock = some X3.heap.size) (r4 : X4.ownsRow W.heap.size 3 1 ov' (ids.length + 1) (ids.map iI ++ [iI k])) :
  Lw w0 pb ps os vl vo W t sl (i + 1) (ids ++ [k]) ov' ps2 os2 vl2 vo2 X4 := by
 have hWX : W.heap.size < X.heap.size := (Array.getElem?_eq_some_iff.1 h.tb).1
 have s2 := ho.size
 have s3 := b3.size
 have s4 := g4.size
 have ht : t.args.take (i + 1) = t.args.take i ++ [t.args[i]] := List.take_succ_eq_append_getElem hlt
 have tb2 := (ho.block _ hWX h.tboff).trans h.tb
 have ovlt : ∀ g, ov.ownBlock = some g -> g < X.heap.size ∧ ∃ cur, X2.heap[g]? = some (.cells cur 3 (0, 0)) := fun g hg => by
  obtain ⟨_, cur, hc⟩ := row_block h.ow hg
  have hlt := (Array.getElem?_eq_some_iff.1 hc).1
  exact ⟨hlt, cur, (ho.block g hlt (h.ly.off hc (by decide) (by decide) (by decide))).trans hc⟩
 have dj2 : ∀ o ∈ os2, ∀ g, o.1.ownBlock = some g -> ov.ownBlock ≠ some g := fun o ho2 g hg e => by
  rcases hnw o ho2 with k | k
  ·exact h.dj o k g hg e
  ·have := k g hg
   have := (ovlt g e).1
   omega
 have ltb : ∀ o ∈ os2, ∀ g, o.1.ownBlock = some g -> g < X2.heap.size := fun o ho2 g hg => by
  obtain ⟨_, cur, hc⟩ := row_block (hL2.rw o ho2) hg
  exact (Array.getElem?_eq_some_iff.1 hc).1
 obtain ⟨hk, hke⟩ := he
 obtain ⟨M, hM⟩ := hp
 refine ⟨?_, ?_, ?_, ?_, ?_, h.prp.trans ⟨M, hM⟩, h.pro.trans hq, ?_, ?_, ?_, ?_, ?_, h.pl⟩
 ·refine hL2.keep2 (fun r hr => ?_) (fun o ho2 g hg => ?_)
  ·have hlt2 := hL2.there r hr
   refine (g4.block r (by omega) (fun e => ?_)).trans (b3.block r hlt2)
   obtain ⟨_, cur, hc⟩ := ovlt r e.symm
   exact hL2.off hc (by decide) (by decide) (by decide) hr
  ·have hlt2 := ltb o ho2 g hg
   exact (g4.block g (by omega) (fun e => dj2 o ho2 g hg e.symm)).trans (b3.block g hlt2)
 ·refine ((g4.block _ (by omega) (fun e => ?_)).trans (b3.block _ (by omega))).trans tb2
  obtain ⟨_, cur, hc⟩ := ovlt _ e.symm
  rw [tb2] at hc
  simp only [Option.some.injEq, Obj.cells.injEq] at hc
  exact absurd hc.2.1 (by decide)
 ·rw [List.map_append, List.length_append]
  exact r4
 ·have h1 : Idx (ps2.map (·.1)) ids (t.args.take i) := by rw [<- hM, List.map_append]; exact h.ix.more
  rw [ht]
  unfold Idx at h1 ⊢
  rw [List.map_append, List.map_append, h1]
  simp [hk, hke]
 ·refine ((h.on.trans ho h.bs).trans (Only.of_below (B := []) b3) (by simp)).trans (Only.of_grown (B := ov.ownBlock.toList) g4 (fun r e => by simp [e])) (fun r hr => .inr ?_)
  exact (row_block h.ow (by simpa using hr)).1
 ·rw [ht]
  have := h.ln
  simp only [sizs, List.map_append, List.sum_append, List.map_cons, List.map_nil, List.sum_cons, List.sum_nil] at *
  omega
 ·intro g hg
  rcases hvl g hg with e | e
  ·exact h.hvl g e
  ·exact .inr (by omega)
 ·intro g hg
  rcases hvo g hg with e | e
  ·exact h.hvo g e
  ·exact .inr (by omega)
 ·intro o ho2 g hg e
  have := ltb o ho2 g hg
  rcases hb4 with k | k
  ·exact dj2 o ho2 g hg (k ▸ e)
  ·rw [k] at e
   have := Option.some.inj e
   omega
 ·intro o ho2
  rcases hnw o ho2 with k | k
  ·exact h.nw o k
  ·exact .inr fun g hg => by have := k g hg; omega
end
structure Md (w0 : World) (X : World) (pb : Nat) (vl vo vl' : Value) (n : Nat) (xs : List Value) (Z : World) : Prop where
 head : Z.heap[pb]? = some (.cells #[vl', vo] 146 (0, 0))
 row : Z.ownsRow w0.heap.size 30 3 vl' (n + 1) xs
 kp : ∀ r, r < X.heap.size -> vl.ownBlock ≠ some r -> r ≠ pb -> Z.heap[r]? = X.heap[r]?
 sz : X.heap.size <= Z.heap.size
 fr : Z.os = X.os ∧ Z.tape = X.tape ∧ Z.output = X.output
 bl : ∀ g, vl'.ownBlock = some g -> vl.ownBlock = some g ∨ X.heap.size <= g
 nn : vl'.ownBlock ≠ none
section
variable {w0 : World} {pb : Nat} {ps : List (T × Value)} {os : List (Value × List Nat)} {vl vo vl' vo' ov : Value} {X Y1 Y2 Y3 Z Y5 Y6 : World} {t : T} {sl : Value} {ids : List Nat} {xs : List Value}
theorem md_of (_hX : X.heap[pb]? = some (.cells #[vl, vo] 146 (0, 0))) (_hvl : ∀ g, vl.ownBlock = some g -> g ≠ pb ∧ g < X.heap.size) (b1 : Below X.heap.size X Y1) (g2 : Y1.grownBy Y2 vl.ownBlock) {g : Nat} (hg : vl'.ownBlock = some g) (hb2 : vl'.ownBlock = vl.ownBlock ∨ vl'.ownBlock = some Y1.heap.size) {n : Nat}
  (o3 : Only [g, pb] Y2 Z) (hd : Z.heap[pb]? = some (.cells #[vl', vo] 146 (0, 0))) (r3 : Z.ownsRow w0.heap.size 30 3 vl' (n + 1) xs) : Md w0 X pb vl vo vl' n xs Z := by
 have s1 := b1.size
 have s2 := g2.size
 have s3 := o3.size
 have hl' : ∀ g, vl'.ownBlock = some g -> vl.ownBlock = some g ∨ X.heap.size <= g := fun g hg => by
  rcases hb2 with e | e
  ·exact .inl (e ▸ hg)
  ·rw [e] at hg; have := Option.some.inj hg; exact .inr (by omega)
 refine ⟨hd, r3, fun r hr hn hp => ?_, by omega, ⟨o3.os.trans (g2.os.trans b1.os), o3.tape.trans (g2.tape.trans b1.tape), o3.output.trans (g2.output.trans b1.output)⟩, hl', by rw [hg]; simp⟩
 have e1 := b1.block r hr
 have e2 := g2.block r (by omega) (fun e => hn e.symm)
 refine (o3.block r (by omega) ?_).trans (e2.trans e1)
 simp only [List.mem_cons, List.not_mem_nil, or_false, not_or]
 refine ⟨fun e => ?_, hp⟩
 rcases hl' g hg with k | k
 ·exact hn (e ▸ k)
 ·omega
theorem Ly.snocM (h : Ly w0 pb ps os vl vo X) (ha : ArgsAt w0 sl t.args) (hix : Idx (ps.map (·.1)) ids t.args) (hid : ∀ j ∈ ids, j < ps.length) (hov : X.ownsRow w0.heap.size 3 1 ov ids.length (ids.map iI)) (md : Md w0 X pb vl vo vl' ps.length (flatT ps ++ [.int .i64 t.v, .string t.fn, sl]) Z)
  (b5 : Below Z.heap.size Z Y5) (g6 : Y5.grownBy Y6 vo.ownBlock) (hb6 : vo'.ownBlock = vo.ownBlock ∨ vo'.ownBlock = some Y5.heap.size) (r6 : Y6.ownsRow w0.heap.size 23 1 vo' (os.length + 1) (os.map (·.1) ++ [ov])) :
  Ly w0 pb (ps ++ [(t, sl)]) (os ++ [(ov, ids)]) vl' vo' (Y6.setCell ⟨pb, 1, none⟩ vo') ∧ Only (pbs pb vl vo) X (Y6.setCell ⟨pb, 1, none⟩ vo') ∧ (∀ g, vl'.ownBlock = some g -> vl.ownBlock = some g ∨ X.heap.size <= g) ∧ (∀ g, vo'.ownBlock = some g -> vo.ownBlock = some g ∨ X.heap.size <= g) := by
 obtain ⟨q1, q2⟩ := h.apart
 obtain ⟨gl, hgl⟩ := Option.ne_none_iff_exists'.1 md.nn
 have hpb := h.there pb (by simp)
 have s4 := md.sz
 have s5 := b5.size
 have s6 := g6.size
 have hl' := md.bl
 have ho' : ∀ g, vo'.ownBlock = some g -> vo.ownBlock = some g ∨ X.heap.size <= g := fun g hg => by
  rcases hb6 with e | e
  ·exact .inl (e ▸ hg)
  ·rw [e] at hg; have := Option.some.inj hg; exact .inr (by omega)
 have k7 : ∀ r, r < X.heap.size -> vl.ownBlock ≠ some r -> vo.ownBlock ≠ some r -> r ≠ pb -> (Y6.setCell ⟨pb, 1, none⟩ vo').heap[r]? = X.heap[r]? := fun r hr h1 h2 h3 => by
  have e5 := b5.block r (by omega)
  have e6 := g6.block r (by omega) (fun e => h2 e.symm)
  have e7 := (only_setCell Y6 pb 1 vo').block r (by omega) (by simpa using h3)
  exact e7.trans (e6.trans (e5.trans (md.kp r hr h1 h3)))
 have p6 : Y6.heap[pb]? = some (.cells #[vl', vo] 146 (0, 0)) := (g6.block pb (by omega) (fun e => q2 pb e.symm rfl)).trans ((b5.block pb (by omega)).trans md.head)
 have p7 : (Y6.setCell ⟨pb, 1, none⟩ vo').heap[pb]? = some (.cells #[vl', vo'] 146 (0, 0)) := by
  have := Go.heap_setCell_same Y6 pb 1 _ 146 vo' p6
  simpa using this
 have hglp : gl ≠ pb := by
  rcases hl' gl hgl with k | k
  ·exact (q1 gl k).1
  ·omega
 obtain ⟨_, cur3, c3⟩ := row_block md.row hgl
 have lgl := (Array.getElem?_eq_some_iff.1 c3).1
 have hglo : vo.ownBlock ≠ some gl := by
  rcases hl' gl hgl with k | k
  ·exact (q1 gl k).2
  ·intro e
   have := h.there gl (by simp [e])
   omega
 have m7 : (Y6.setCell ⟨pb, 1, none⟩ vo').heap[gl]? = Z.heap[gl]? := by
  have e5 := b5.block gl (by omega)
  have e6 := g6.block gl (by omega) (fun e => hglo e.symm)
  have e7 := (only_setCell Y6 pb 1 vo').block gl (by omega) (by simpa using hglp)
  exact e7.trans (e6.trans e5)
 have hone : ∀ {g : Nat} {v : Value} {l : List Nat}, X.ownsRow w0.heap.size 3 1 v l.length (l.map iI) -> v.ownBlock = some g -> (Y6.setCell ⟨pb, 1, none⟩ vo').heap[g]? = X.heap[g]? := fun {g v l} hr hg => by
  obtain ⟨_, cur, hc⟩ := row_block hr hg
  have hoff := h.off hc (by decide) (by decide) (by decide)
  simp only [pbs, List.mem_cons, List.mem_append, Option.mem_toList, not_or] at hoff
  exact k7 g (Array.getElem?_eq_some_iff.1 hc).1 hoff.2.1 hoff.2.2 hoff.1
 refine ⟨⟨p7, ?_, ?_, by simp [h.len], ?_, ?_, ?_, h.low⟩, ?_, hl', ho'⟩
 ·rw [flatT_snoc, List.length_append]
  exact rowL_keep md.row (fun g hg => by
   have : g = gl := Option.some.inj (hg.symm.trans hgl)
   rw [this]; exact m7)
 ·rw [List.map_append, List.length_append]
  refine rowL_keep r6 (fun g hg => ?_)
  obtain ⟨_, cur, hc⟩ := row_block r6 hg
  refine (only_setCell Y6 pb 1 vo').block g (Array.getElem?_eq_some_iff.1 hc).1 ?_
  have : g ≠ pb := by
   rcases ho' g hg with k | k
   ·exact q2 g k
   ·omega
  simpa using this
 ·intro p hp
  rcases List.mem_append.1 hp with hp | hp
  ·exact h.ra p hp
  ·have : p = (t, sl) := by simpa using hp
   subst this
   exact ha
 ·intro o ho
  rcases List.mem_append.1 ho with ho | ho
  ·exact rowL_keep (h.rw o ho) (fun g hg => hone (h.rw o ho) hg)
  ·have : o = (ov, ids) := by simpa using ho
   subst this
   exact rowL_keep hov (fun g hg => hone hov hg)
 ·intro i hi hi'
  by_cases hl : i < ps.length
  ·have hl2 : i < os.length := by rw [h.len]; exact hl
   rw [List.getElem_append_left hl, List.getElem_append_left hl2, List.map_append]
   exact ⟨(h.ix i hl hl2).1.more, (h.ix i hl hl2).2⟩
  ·have e : i = ps.length := by simp at hi; omega
   subst e
   have e2 : ps.length = os.length := h.len.symm
   have f1 : (ps ++ [(t, sl)])[ps.length] = (t, sl) := by simp
   have f2 : (os ++ [(ov, ids)])[ps.length]'hi' = (ov, ids) := by simp [e2]
   rw [f1, f2, List.map_append]
   exact ⟨hix.more, hid⟩
 ·refine ⟨?_, ?_, ?_, by simp; omega, fun r hr hn => ?_⟩
  ·exact g6.os.trans (b5.os.trans md.fr.1)
  ·exact g6.tape.trans (b5.tape.trans md.fr.2.1)
  ·exact g6.output.trans (b5.output.trans md.fr.2.2)
  ·simp only [pbs, List.mem_cons, List.mem_append, Option.mem_toList, not_or] at hn
   exact k7 r hr hn.2.1 hn.2.2 hn.1
end
end Go.Proofs.YtglphfhlpobgcaaGreat
