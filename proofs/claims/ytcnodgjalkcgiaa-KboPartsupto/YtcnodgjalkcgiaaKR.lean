/-
  kbo.Compare, kbo.Weight.
-/
import Derived.Test.YtcnodgjalkcgiaaKQ
import Derived.Test.YtcnodgjalkcgiaaKF
import Derived.Test.YtcnodgjalkcgiaaRB
import Derived.Test.YtcnodgjalkcgiaaL
namespace Go.Proofs.Ytcnodgjalkcgiaa
open Go.RowKit Go.Maps

open Classical in
/-- What Compare answers. -/
noncomputable def ccmp (g : Sg) (x y : T) : Int := if g.Ok ∧ x.rightW = 0 ∧ y.rightW = 0 then kcmp g x y else 2

theorem right_facts {t : T} (h : t.rightW = 0) (hz : t.size ≤ 1048576) : t.shape = true ∧ t.size ≤ 4000 := by
  have hp := size_pos t
  unfold T.rightW at h
  split at h
  · omega
  · rename_i h1
    split at h
    · omega
    · split at h
      · omega
      · rename_i h3
        rw [wrap_small (by omega) (by omega)] at h3
        exact ⟨by simpa using h1, by omega⟩

/-- The boxes of a signature and two terms, in a world behind. -/
structure Tri (w : World) (vn vw : Value) (x : T) (sx : Value) (y : T) (sy : Value) (X : World) : Prop where
  g0 : X.cell? ⟨w.heap.size, 0, none⟩ = some vn
  g1 : X.cell? ⟨w.heap.size, 1, none⟩ = some vw
  a0 : X.cell? ⟨w.heap.size + 1, 0, none⟩ = some (.int .i64 x.v)
  a1 : X.cell? ⟨w.heap.size + 1, 1, none⟩ = some (.string x.fn)
  a2 : X.cell? ⟨w.heap.size + 1, 2, none⟩ = some sx
  b0 : X.cell? ⟨w.heap.size + 1 + 1, 0, none⟩ = some (.int .i64 y.v)
  b1 : X.cell? ⟨w.heap.size + 1 + 1, 1, none⟩ = some (.string y.fn)
  b2 : X.cell? ⟨w.heap.size + 1 + 1, 2, none⟩ = some sy
  bel : Below w.heap.size w X
  siz : w.heap.size + 3 ≤ X.heap.size
theorem Tri.keep {w : World} {vn vw : Value} {x : T} {sx : Value} {y : T} {sy : Value} {X X' : World} (h : Tri w vn vw x sx y sy X) (hb : Below X.heap.size X X') : Tri w vn vw x sx y sy X' := by
  have hs := h.siz
  exact ⟨kc hb (by omega) h.g0, kc hb (by omega) h.g1, kc hb (by omega) h.a0, kc hb (by omega) h.a1, kc hb (by omega) h.a2, kc hb (by omega) h.b0, kc hb (by omega) h.b1, kc hb (by omega) h.b2, h.bel.trans (hb.mono h.bel.size), Nat.le_trans hs hb.size⟩
theorem tri_made (w : World) (vn vw : Value) (ty : TypeId) (x : T) (sx : Value) (y : T) (sy : Value) : Tri w vn vw x sx y sy (((w.alloc (.cells #[vn, vw] ty)).alloc (tbox x sx)).alloc (tbox y sy)) := by
  obtain ⟨c0, c1⟩ := box2_cells w vn vw ty
  have hb := below_box w (.cells #[vn, vw] ty)
  obtain ⟨⟨t0, t1, t2⟩, u0, u1, u2⟩ := tbox2_cells (w.alloc (.cells #[vn, vw] ty)) x sx y sy
  have hb2 := below_box2 (w.alloc (.cells #[vn, vw] ty)) (tbox x sx) (tbox y sy)
  rw [World.size_alloc] at t0 t1 t2 u0 u1 u2
  exact ⟨kc hb2 (by simp) c0, kc hb2 (by simp) c1, t0, t1, t2, u0, u1, u2, hb.trans (hb2.mono (by simp)), by simp⟩

theorem only_below {p bc : Nat} {w X X' : World} (h : Below w.heap.size w X) (ho : Only [p, bc] X X') (h1 : w.heap.size ≤ p) (h2 : w.heap.size ≤ bc) : Below w.heap.size w X' := h.trans (ho.below h.size (by simp; exact ⟨h1, h2⟩))

set_option maxRecDepth 100000 in
set_option maxHeartbeats 4000000 in
theorem kcompare_any (g : Sg) (x y : T) (vn vw sx sy : Value) (w : World) (hg : SgAt w g vn vw) (hax : ArgsAt w sx x.args) (hay : ArgsAt w sy y.args) (hzx : x.size ≤ 1048576) (hzy : y.size ≤ 1048576) :
    Calls Try.prog 11 #[gval vn vw, tval x sx, tval y sy] w fun e w' => e = .returned (.int .i64 (ccmp g x y)) ∧ Below w.heap.size w w' := by
  obtain ⟨an, cn, rfl, _, _⟩ := hg.ns.slice
  obtain ⟨aw, cw, rfl, _, _⟩ := hg.ws.slice
  obtain ⟨a, ca, rfl, _, _⟩ := hax.slice
  obtain ⟨b, cb, rfl, _, _⟩ := hay.slice
  have hT := tri_made w (.slice an g.ns.length cn) (.slice aw g.ws.length cw) 31 x (.slice a x.args.length ca) y (.slice b y.args.length cb)
  have hC : ∀ X, Tri w (.slice an g.ns.length cn) (.slice aw g.ws.length cw) x (.slice a x.args.length ca) y (.slice b y.args.length cb) X → (X.cell? ⟨w.heap.size, 0, none⟩ = some (.slice an g.ns.length cn) ∧ X.cell? ⟨w.heap.size, 1, none⟩ = some (.slice aw g.ws.length cw)) ∧ (X.cell? ⟨w.heap.size + 1, 0, none⟩ = some (.int .i64 x.v) ∧ X.cell? ⟨w.heap.size + 1, 1, none⟩ = some (.string x.fn) ∧ X.cell? ⟨w.heap.size + 1, 2, none⟩ = some (.slice a x.args.length ca)) ∧ (X.cell? ⟨w.heap.size + 1 + 1, 0, none⟩ = some (.int .i64 y.v) ∧ X.cell? ⟨w.heap.size + 1 + 1, 1, none⟩ = some (.string y.fn) ∧ X.cell? ⟨w.heap.size + 1 + 1, 2, none⟩ = some (.slice b y.args.length cb)) := fun X h => ⟨⟨h.g0, h.g1⟩, ⟨h.a0, h.a1, h.a2⟩, h.b0, h.b1, h.b2⟩
  have h8 : ∀ X, Tri w (.slice an g.ns.length cn) (.slice aw g.ws.length cw) x (.slice a x.args.length ca) y (.slice b y.args.length cb) X → Calls Try.prog 8 #[.agg #[.slice an g.ns.length cn, .slice aw g.ws.length cw]] X fun e X' => e = .returned (.int .i64 g.okW) ∧ Tri w (.slice an g.ns.length cn) (.slice aw g.ws.length cw) x (.slice a x.args.length ca) y (.slice b y.args.length cb) X' := fun X hX => (kright_any g _ _ X (hg.keep hX.bel (Nat.le_refl _))).mono fun e X' ⟨h1, h2⟩ => ⟨h1, hX.keep h2⟩
  have h31x : ∀ X, Tri w (.slice an g.ns.length cn) (.slice aw g.ws.length cw) x (.slice a x.args.length ca) y (.slice b y.args.length cb) X → Calls Try.prog 31 #[tval x (.slice a x.args.length ca)] X fun e X' => e = .returned (.int .i64 x.rightW) ∧ Tri w (.slice an g.ns.length cn) (.slice aw g.ws.length cw) x (.slice a x.args.length ca) y (.slice b y.args.length cb) X' := fun X hX => (tright_any x _ X (ArgsAt.keep hX.bel (Nat.le_refl _) hax) (short_of x hzx).1).mono fun e X' ⟨h1, h2⟩ => ⟨h1, hX.keep h2⟩
  have h31y : ∀ X, Tri w (.slice an g.ns.length cn) (.slice aw g.ws.length cw) x (.slice a x.args.length ca) y (.slice b y.args.length cb) X → Calls Try.prog 31 #[tval y (.slice b y.args.length cb)] X fun e X' => e = .returned (.int .i64 y.rightW) ∧ Tri w (.slice an g.ns.length cn) (.slice aw g.ws.length cw) x (.slice a x.args.length ca) y (.slice b y.args.length cb) X' := fun X hX => (tright_any y _ X (ArgsAt.keep hX.bel (Nat.le_refl _) hay) (short_of y hzy).1).mono fun e X' ⟨h1, h2⟩ => ⟨h1, hX.keep h2⟩
  have hB : ∀ X, Tri w (.slice an g.ns.length cn) (.slice aw g.ws.length cw) x (.slice a x.args.length ca) y (.slice b y.args.length cb) X → Below w.heap.size w X := fun X h => h.bel
  have hdr : ∀ X, Tri w (.slice an g.ns.length cn) (.slice aw g.ws.length cw) x (.slice a x.args.length ca) y (.slice b y.args.length cb) X → Tri w (.slice an g.ns.length cn) (.slice aw g.ws.length cw) x (.slice a x.args.length ca) y (.slice b y.args.length cb) X.drew := fun X h => h.keep (Below.refl _ X).drew
  have HK : Hid (ccmp g x y = _) := rfl
  have h32 : ∀ X, Tri w (.slice an g.ns.length cn) (.slice aw g.ws.length cw) x (.slice a x.args.length ca) y (.slice b y.args.length cb) X → Calls Try.prog 32 #[.agg #[.slice an g.ns.length cn, .slice aw g.ws.length cw]] X fun e X' => ∃ p, e = .returned (.pointer (some ⟨p, 0, none⟩)) ∧ Hid (∃ bp bc, Sc X g p bp bc (.slice an g.ns.length cn) (.slice aw g.ws.length cw) 0 0 (fun _ => 0) X') ∧ Tri w (.slice an g.ns.length cn) (.slice aw g.ws.length cw) x (.slice a x.args.length ca) y (.slice b y.args.length cb) X' := fun X hX => (level_any g _ _ X (hg.keep hX.bel (Nat.le_refl _))).mono fun e X' ⟨p, bp, bc, h1, h2⟩ => ⟨p, h1, ⟨bp, bc, h2⟩, hX.keep h2.bel⟩
  have h33 : x.rightW = 0 → y.rightW = 0 → ∀ X X' p, Tri w (.slice an g.ns.length cn) (.slice aw g.ws.length cw) x (.slice a x.args.length ca) y (.slice b y.args.length cb) X → Hid (∃ bp bc, Sc X g p bp bc (.slice an g.ns.length cn) (.slice aw g.ws.length cw) 0 0 (fun _ => 0) X') → Calls Try.prog 33 #[.pointer (some ⟨p, 0, none⟩), .agg #[.int .i64 x.v, .string x.fn, .slice a x.args.length ca], .agg #[.int .i64 y.v, .string y.fn, .slice b y.args.length cb]] X' fun e Z => e = .returned (.int .i64 (kcmp g x y)) ∧ Hid (Below w.heap.size w Z) ∧ Tri w (.slice an g.ns.length cn) (.slice aw g.ws.length cw) x (.slice a x.args.length ca) y (.slice b y.args.length cb) Z := fun hrx hry X X' p hX ⟨bp, bc, hS⟩ => by
    obtain ⟨sx1, sx2⟩ := right_facts hrx hzx
    obtain ⟨sy1, sy2⟩ := right_facts hry hzy
    have hax' := (ArgsAt.keep hX.bel (Nat.le_refl _) hax).belowP
    have hay' := (ArgsAt.keep hX.bel (Nat.le_refl _) hay).belowP
    have kp : ∀ k, k < X.heap.size → k < X.heap.size → Off p bc k ∧ X'.heap[k]? = X.heap[k]? := fun k hk _ => ⟨⟨by have := hS.lo.1; omega, by have := hS.lo.2.2; omega⟩, hS.bel.block k hk⟩
    refine (compare_any X g p bp bc _ _ x y _ _ 0 X' hS (hax'.keep hS.bel.size kp) (hay'.keep hS.bel.size kp) sx1 sy1 (by omega)).mono fun e Z ⟨h1, h2, h3⟩ => ⟨h1, ?_, ?_⟩
    · exact hX.bel.trans (h2.bel.mono hX.bel.size)
    · exact hX.keep h2.bel
  obtain ⟨S, hS⟩ : ∃ S, Tri w (.slice an g.ns.length cn) (.slice aw g.ws.length cw) x (.slice a x.args.length ca) y (.slice b y.args.length cb) = S := ⟨_, rfl⟩
  rw [hS] at hT hC h8 h31x h31y hB hdr h32 h33
  clear hS hg hax hay hzx hzy
  obtain ⟨⟨i0, i1⟩, ⟨j0, j1, j2⟩, k0, k1, k2⟩ := hC _ hT
  by_cases hok : g.Ok
  · rw [okW_yes hok] at h8
    by_cases hrx : x.rightW = 0
    · rw [hrx] at h31x
      by_cases hry : y.rightW = 0
      · rw [hry] at h31y
        have HV : Hid (ccmp g x y = kcmp g x y) := by show _ = _; unfold ccmp; rw [if_pos ⟨hok, hrx, hry⟩]
        have h33' := h33 hrx hry
        clear h33 hok hrx hry HK
        go_enter Try.func11, Try.ntmps11
        go_wp2_with fail
        refine (h8 _ hT).mono ?_
        rintro e W2 ⟨rfl, hT2⟩
        obtain ⟨⟨l0, l1⟩, ⟨m0, m1, m2⟩, n0, n1, n2⟩ := hC _ hT2
        go_wp2_with fail
        refine (h31x _ hT2).mono ?_
        rintro e W3 ⟨rfl, hT3⟩
        obtain ⟨⟨o0, o1⟩, ⟨q0, q1, q2⟩, r0, r1, r2⟩ := hC _ hT3
        go_wp2_with fail
        refine (h31y _ hT3).mono ?_
        rintro e W4 ⟨rfl, hT4⟩
        have hT4d := hdr _ hT4
        have K4 := hC _ hT4d
        clear i0 i1 j0 j1 j2 k0 k1 k2 l0 l1 m0 m1 m2 n0 n1 n2 o0 o1 q0 q1 q2 r0 r1 r2 hT hT2 hT3 hT4 h8 h31x h31y hdr
        go_wp2
        go_region_held3 (fun X => (X.cell? ⟨w.heap.size, 0, none⟩ = some (.slice an g.ns.length cn) ∧ X.cell? ⟨w.heap.size, 1, none⟩ = some (.slice aw g.ws.length cw)) ∧ (X.cell? ⟨w.heap.size + 1, 0, none⟩ = some (.int .i64 x.v) ∧ X.cell? ⟨w.heap.size + 1, 1, none⟩ = some (.string x.fn) ∧ X.cell? ⟨w.heap.size + 1, 2, none⟩ = some (.slice a x.args.length ca)) ∧ (X.cell? ⟨w.heap.size + 1 + 1, 0, none⟩ = some (.int .i64 y.v) ∧ X.cell? ⟨w.heap.size + 1 + 1, 1, none⟩ = some (.string y.fn) ∧ X.cell? ⟨w.heap.size + 1 + 1, 2, none⟩ = some (.slice b y.args.length cb))) (first | exact K4 | exact K5 | exact K6) (first
          | (go_at_call 32; refine (h32 _ hT4d).mono ?_; rintro e W5 ⟨p, rfl, HS5, hT5⟩; have K5 := hC _ hT5)
          | (go_at_call 33; refine (h33' _ _ _ hT4d HS5).mono ?_; rintro e W6 ⟨rfl, HF, hT6⟩; have K6 := hC _ hT6))
        go_wp2
        go_ret
        exact ⟨ret_i64 HV.out.symm, HF.out⟩
      · have HV : Hid (ccmp g x y = 2) := by show _ = _; unfold ccmp; rw [if_neg (fun h => hry h.2.2)]
        have e3 : (y.rightW != 0) = true := by rw [bne_iff_ne]; exact hry
        clear h33 hok hrx hry HK h32
        go_enter Try.func11, Try.ntmps11
        go_wp2_with fail
        refine (h8 _ hT).mono ?_
        rintro e W2 ⟨rfl, hT2⟩
        obtain ⟨⟨l0, l1⟩, ⟨m0, m1, m2⟩, n0, n1, n2⟩ := hC _ hT2
        go_wp2_with fail
        refine (h31x _ hT2).mono ?_
        rintro e W3 ⟨rfl, hT3⟩
        obtain ⟨⟨o0, o1⟩, ⟨q0, q1, q2⟩, r0, r1, r2⟩ := hC _ hT3
        go_wp2_with fail
        refine (h31y _ hT3).mono ?_
        rintro e W4 ⟨rfl, hT4⟩
        go_wp2
        go_ret
        exact ⟨ret_i64 HV.out.symm, hB _ hT4⟩
    · have HV : Hid (ccmp g x y = 2) := by show _ = _; unfold ccmp; rw [if_neg (fun h => hrx h.2.1)]
      have e3 : (x.rightW != 0) = true := by rw [bne_iff_ne]; exact hrx
      clear h33 hok hrx HK h32 h31y
      go_enter Try.func11, Try.ntmps11
      go_wp2_with fail
      refine (h8 _ hT).mono ?_
      rintro e W2 ⟨rfl, hT2⟩
      obtain ⟨⟨l0, l1⟩, ⟨m0, m1, m2⟩, n0, n1, n2⟩ := hC _ hT2
      go_wp2_with fail
      refine (h31x _ hT2).mono ?_
      rintro e W3 ⟨rfl, hT3⟩
      go_wp2
      go_ret
      exact ⟨ret_i64 HV.out.symm, hB _ hT3⟩
  · have HV : Hid (ccmp g x y = 2) := by show _ = _; unfold ccmp; rw [if_neg (fun h => hok h.1)]
    rw [okW_no hok] at h8
    clear h33 hok HK h32 h31y h31x
    go_enter Try.func11, Try.ntmps11
    go_wp2_with fail
    refine (h8 _ hT).mono ?_
    rintro e W2 ⟨rfl, hT2⟩
    go_wp2
    go_ret
    exact ⟨ret_i64 HV.out.symm, hB _ hT2⟩

end Go.Proofs.Ytcnodgjalkcgiaa
