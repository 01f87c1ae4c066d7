import Derived.Test.YtglphfhlpobgcaaGreatKP
import Derived.Test.YtglphfhlpobgcaaGreatKF
import Derived.Test.YtglphfhlpobgcaaGreatRB
import Derived.Test.YtglphfhlpobgcaaGreatL
import Derived.Test.YtglphfhlpobgcaaGreatWA
namespace Go.Proofs.YtglphfhlpobgcaaGreat
set_option maxRecDepth 100000
set_option maxHeartbeats 4000000
open Go.RowKit Go.Maps
theorem argsP_one {p bc : Nat} {X : World} {t : T} {sx : Value} (h : ArgsP (Off p bc) X sx t.args) (hp : X.heap.size ≠ p) (hc : X.heap.size ≠ bc) : ArgsP (Off p bc) (X.alloc (.cells #[.int .i64 t.v, .string t.fn, sx] 30)) (.slice (some ⟨X.heap.size, 0, none⟩) 1 1) [t] := by
 obtain ⟨c0, c1, c2⟩ := tbox_cells X t sx
 have hb := below_box X (.cells #[.int .i64 t.v, .string t.fn, sx] 30)
 refine ArgsP.mk (P := Off p bc) (some ⟨X.heap.size, 0, none⟩) 1 [t] (fun _ => sx) (Nat.le_refl _) (by decide) (fun _ => ⟨X.heap.size, 0, ⟨hp, hc⟩, by simp, rfl, fun i hi => ?_⟩) (fun i hi => ?_)
 ·have : i = 0 := by simpa using hi
  subst this
  exact ⟨c0, c1, c2⟩
 ·have : i = 0 := by simpa using hi
  subst this
  exact h.keep hb.size (fun k hk hlt => ⟨hk, hb.block k hlt⟩)
structure CB (W0 : World) (g : Sg) (p bp bc : Nat) (vn vw : Value) (L : Nat) (wt : Int) (c : Int -> Int) (W : World) (x : T) (sx : Value) (y : T) (sy : Value) (X : World) : Prop where
 sc : Sc W0 g p bp bc vn vw L wt c X
 a1 : X.cell? ⟨W.heap.size, 1, none⟩ = some (.string x.fn)
 a0 : X.cell? ⟨W.heap.size, 0, none⟩ = some (.int .i64 x.v)
 a2 : X.cell? ⟨W.heap.size, 2, none⟩ = some sx
 b0 : X.cell? ⟨W.heap.size + 1, 0, none⟩ = some (.int .i64 y.v)
 b1 : X.cell? ⟨W.heap.size + 1, 1, none⟩ = some (.string y.fn)
 b2 : X.cell? ⟨W.heap.size + 1, 2, none⟩ = some sy
 ax : ArgsP (Off p bc) X sx x.args
 ay : ArgsP (Off p bc) X sy y.args
 only : Only [p, bc] W X
 siz : W.heap.size + 2 <= X.heap.size
 low : p < W.heap.size ∧ bc < W.heap.size
section
variable {W0 : World} {g : Sg} {p bp bc : Nat} {vn vw : Value} {L : Nat} {wt : Int} {c : Int -> Int} {W : World} {x : T} {sx : Value} {y : T} {sy : Value} {X X' : World}
theorem CB.keep (h : CB W0 g p bp bc vn vw L wt c W x sx y sy X) (hb : Below X.heap.size X X') : CB W0 g p bp bc vn vw L wt c W x sx y sy X' := by
 have hs := h.siz
 exact ⟨h.sc.keep hb, kc hb (by omega) h.a1, kc hb (by omega) h.a0, kc hb (by omega) h.a2, kc hb (by omega) h.b0, kc hb (by omega) h.b1, kc hb (by omega) h.b2, h.ax.only (Only.of_below hb), h.ay.only (Only.of_below hb), h.only.trans (Only.of_below (B := [p, bc]) hb) (by simp), Nat.le_trans hs hb.size, h.low⟩
theorem CB.turn (h : CB W0 g p bp bc vn vw L wt c W x sx y sy X) {L' : Nat} {wt' : Int} {c' : Int -> Int} (hS : Sc W0 g p bp bc vn vw L' wt' c' X') (hO : Only [p, bc] X X') : CB W0 g p bp bc vn vw L' wt' c' W x sx y sy X' := by
 have hs := h.siz
 obtain ⟨l1, l2⟩ := h.low
 have e1 := hO.block W.heap.size (by omega) (by simp; omega)
 have e2 := hO.block (W.heap.size + 1) (by omega) (by simp; omega)
 exact ⟨hS, (World.cell?_of_block (a := ⟨W.heap.size, _, none⟩) e1).trans h.a1, (World.cell?_of_block (a := ⟨W.heap.size, _, none⟩) e1).trans h.a0, (World.cell?_of_block (a := ⟨W.heap.size, _, none⟩) e1).trans h.a2, (World.cell?_of_block (a := ⟨W.heap.size + 1, _, none⟩) e2).trans h.b0, (World.cell?_of_block (a := ⟨W.heap.size + 1, _, none⟩) e2).trans h.b1, (World.cell?_of_block (a := ⟨W.heap.size + 1, _, none⟩) e2).trans h.b2, h.ax.only hO, h.ay.only hO, h.only.trans hO (by simp), Nat.le_trans hs hO.size, h.low⟩
end
def Apart (x y : T) : Prop := x.fn.size = 0 ∨ y.fn.size = 0 ∨ x.fn ≠ y.fn ∨ x.args.length ≠ y.args.length
theorem compare_apart (W0 : World) (g : Sg) (p bp bc : Nat) (vn vw : Value) (x y : T) (sx sy : Value) (L : Nat) (W : World) (hS : Sc W0 g p bp bc vn vw L 0 (fun _ => 0) W) (hax : ArgsP (Off p bc) W sx x.args) (hay : ArgsP (Off p bc) W sy y.args) (hx : x.shape = true) (hy : y.shape = true) (hL : L + 2 * x.size.toNat + 2 * y.size.toNat <= 100000) (hd : Apart x y) :
  Calls Tryz.prog 53 #[.pointer (some ⟨p, 0, none⟩), tval x sx, tval y sy] W fun e W' => e = .returned (.int .i64 (kcmp g x y)) ∧ Sc W0 g p bp bc vn vw (L + 2 * x.size.toNat + 2 * y.size.toNat) (x.wt g - y.wt g) (cdif x y) W' ∧ Only [p, bc] W W' := by
 obtain ⟨a, ca, rfl⟩ := hax.slice
 obtain ⟨b, cb, rfl⟩ := hay.slice
 have hpl := hS.lt
 have hbl : bc < W.heap.size := by
  obtain ⟨m, n, hm, _⟩ := hS.cm
  exact hm.lt
 have hbx := below_box2 W (tbox x (.slice a x.args.length ca)) (tbox y (.slice b y.args.length cb))
 obtain ⟨⟨t0, t1, t2⟩, u0, u1, u2⟩ := tbox2_cells W x (.slice a x.args.length ca) y (.slice b y.args.length cb)
 have hT : CB W0 g p bp bc vn vw L 0 (fun _ => 0) W x (.slice a x.args.length ca) y (.slice b y.args.length cb) (tbox2 W x (.slice a x.args.length ca) y (.slice b y.args.length cb)) := ⟨hS.keep hbx, t1, t0, t2, u0, u1, u2, hax.only (Only.of_below hbx), hay.only (Only.of_below hbx), Only.of_below hbx, by simp, ⟨hpl, hbl⟩⟩
 have h49x : ∀ X, CB W0 g p bp bc vn vw L 0 (fun _ => 0) W x (.slice a x.args.length ca) y (.slice b y.args.length cb) X -> Calls Tryz.prog 88 #[tval x (.slice a x.args.length ca)] X fun e X' => e = .returned (.bool (decide (x.fn.size = 0))) ∧ CB W0 g p bp bc vn vw L 0 (fun _ => 0) W x (.slice a x.args.length ca) y (.slice b y.args.length cb) X' := fun X hX => (kisVar_any x a _ ca X).mono fun e X' ⟨h1, h2⟩ => ⟨h1, hX.keep h2⟩
 have h49y : ∀ X, CB W0 g p bp bc vn vw L 0 (fun _ => 0) W x (.slice a x.args.length ca) y (.slice b y.args.length cb) X -> Calls Tryz.prog 88 #[tval y (.slice b y.args.length cb)] X fun e X' => e = .returned (.bool (decide (y.fn.size = 0))) ∧ CB W0 g p bp bc vn vw L 0 (fun _ => 0) W x (.slice a x.args.length ca) y (.slice b y.args.length cb) X' := fun X hX => (kisVar_any y b _ cb X).mono fun e X' ⟨h1, h2⟩ => ⟨h1, hX.keep h2⟩
 have h36x : ∀ X, CB W0 g p bp bc vn vw L 0 (fun _ => 0) W x (.slice a x.args.length ca) y (.slice b y.args.length cb) X -> Calls Tryz.prog 89 #[.pointer (some ⟨p, 0, none⟩), .int .i64 1, .slice (some ⟨X.heap.size, 0, none⟩) 1 1] (X.alloc (.cells #[.int .i64 x.v, .string x.fn, .slice a x.args.length ca] 30)) fun e X' => (∃ v, e = .returned v) ∧ CB W0 g p bp bc vn vw (L + szs [x]) (wadd g 0 1 [x]) (cadd (fun _ => 0) 1 [x]) W x (.slice a x.args.length ca) y (.slice b y.args.length cb) X' := fun X hX => by
  have hk := hX.keep (below_box X (.cells #[.int .i64 x.v, .string x.fn, .slice a x.args.length ca] 30))
  have hz := hX.siz
  exact (lay_any W0 g p bp bc vn vw 1 (.inl rfl) [x] _ L _ _ _ hk.sc (argsP_one hX.ax (by omega) (by omega)) (by simpa using hx) (by rw [szs_one]; omega)).mono fun e X' ⟨h1, h2, h3⟩ => ⟨h1, hk.turn h2 h3⟩
 have h36y : ∀ X, CB W0 g p bp bc vn vw (L + szs [x]) (wadd g 0 1 [x]) (cadd (fun _ => 0) 1 [x]) W x (.slice a x.args.length ca) y (.slice b y.args.length cb) X -> Calls Tryz.prog 89 #[.pointer (some ⟨p, 0, none⟩), .int .i64 (-1), .slice (some ⟨X.heap.size, 0, none⟩) 1 1] (X.alloc (.cells #[.int .i64 y.v, .string y.fn, .slice b y.args.length cb] 30)) fun e X' => (∃ v, e = .returned v) ∧ CB W0 g p bp bc vn vw (L + 2 * x.size.toNat + 2 * y.size.toNat) (x.wt g - y.wt g) (cdif x y) W x (.slice a x.args.length ca) y (.slice b y.args.length cb) X' := fun X hX => by
  have hk := hX.keep (below_box X (.cells #[.int .i64 y.v, .string y.fn, .slice b y.args.length cb] 30))
  have hz := hX.siz
  exact (lay_any W0 g p bp bc vn vw (-1) (.inr rfl) [y] _ (L + szs [x]) _ _ _ hk.sc (argsP_one hX.ay (by omega) (by omega)) (by simpa using hy) (by rw [szs_one, szs_one]; omega)).mono fun e X' ⟨h1, h2, h3⟩ => ⟨h1, hk.turn (h2.eq (by rw [szs_one, szs_one]) (wadd_one g x y) (cadd_one x y)) h3⟩
 have h51 : ∀ X, CB W0 g p bp bc vn vw (L + 2 * x.size.toNat + 2 * y.size.toNat) (x.wt g - y.wt g) (cdif x y) W x (.slice a x.args.length ca) y (.slice b y.args.length cb) X -> Calls Tryz.prog 91 #[.pointer (some ⟨p, 0, none⟩), tval x (.slice a x.args.length ca), tval y (.slice b y.args.length cb)] X fun e X' => e = .returned (.int .i64 (headsV g x y)) ∧ CB W0 g p bp bc vn vw (L + 2 * x.size.toNat + 2 * y.size.toNat) (x.wt g - y.wt g) (cdif x y) W x (.slice a x.args.length ca) y (.slice b y.args.length cb) X' := fun X hX => (kheads_any W0 g p bp bc vn vw _ _ _ x y a b ca cb X hX.sc).mono fun e X' ⟨h1, h2⟩ => ⟨h1, hX.keep h2⟩
 have h50 : ∀ X, CB W0 g p bp bc vn vw (L + 2 * x.size.toNat + 2 * y.size.toNat) (x.wt g - y.wt g) (cdif x y) W x (.slice a x.args.length ca) y (.slice b y.args.length cb) X -> Calls Tryz.prog 90 #[.pointer (some ⟨p, 0, none⟩), .int .i64 (headsV g x y)] X fun e X' => e = .returned (.int .i64 (kcmp g x y)) ∧ Hid (Sc W0 g p bp bc vn vw (L + 2 * x.size.toNat + 2 * y.size.toNat) (x.wt g - y.wt g) (cdif x y) X' ∧ Only [p, bc] W X') := fun X hX => (told_any p vn vw bp _ bc _ _ (headsV g x y) X hX.sc.box).mono fun e X' ⟨h1, h2⟩ => by
  subst h2
  rw [told_heads hx hy hX.sc.sup hd] at h1
  exact ⟨h1, hX.sc, hX.only⟩
 have hC1 : ∀ X, CB W0 g p bp bc vn vw L 0 (fun _ => 0) W x (.slice a x.args.length ca) y (.slice b y.args.length cb) X -> X.cell? ⟨W.heap.size, 0, none⟩ = some (.int .i64 x.v) ∧ X.cell? ⟨W.heap.size, 1, none⟩ = some (.string x.fn) ∧ X.cell? ⟨W.heap.size, 2, none⟩ = some (.slice a x.args.length ca) ∧ X.cell? ⟨W.heap.size + 1, 0, none⟩ = some (.int .i64 y.v) ∧ X.cell? ⟨W.heap.size + 1, 1, none⟩ = some (.string y.fn) ∧ X.cell? ⟨W.heap.size + 1, 2, none⟩ = some (.slice b y.args.length cb) := fun X h => ⟨h.a0, h.a1, h.a2, h.b0, h.b1, h.b2⟩
 have hC2 : ∀ X, CB W0 g p bp bc vn vw (L + szs [x]) (wadd g 0 1 [x]) (cadd (fun _ => 0) 1 [x]) W x (.slice a x.args.length ca) y (.slice b y.args.length cb) X -> X.cell? ⟨W.heap.size, 0, none⟩ = some (.int .i64 x.v) ∧ X.cell? ⟨W.heap.size, 1, none⟩ = some (.string x.fn) ∧ X.cell? ⟨W.heap.size, 2, none⟩ = some (.slice a x.args.length ca) ∧ X.cell? ⟨W.heap.size + 1, 0, none⟩ = some (.int .i64 y.v) ∧ X.cell? ⟨W.heap.size + 1, 1, none⟩ = some (.string y.fn) ∧ X.cell? ⟨W.heap.size + 1, 2, none⟩ = some (.slice b y.args.length cb) := fun X h => ⟨h.a0, h.a1, h.a2, h.b0, h.b1, h.b2⟩
 have hC3 : ∀ X, CB W0 g p bp bc vn vw (L + 2 * x.size.toNat + 2 * y.size.toNat) (x.wt g - y.wt g) (cdif x y) W x (.slice a x.args.length ca) y (.slice b y.args.length cb) X -> X.cell? ⟨W.heap.size, 0, none⟩ = some (.int .i64 x.v) ∧ X.cell? ⟨W.heap.size, 1, none⟩ = some (.string x.fn) ∧ X.cell? ⟨W.heap.size, 2, none⟩ = some (.slice a x.args.length ca) ∧ X.cell? ⟨W.heap.size + 1, 0, none⟩ = some (.int .i64 y.v) ∧ X.cell? ⟨W.heap.size + 1, 1, none⟩ = some (.string y.fn) ∧ X.cell? ⟨W.heap.size + 1, 2, none⟩ = some (.slice b y.args.length cb) := fun X h => ⟨h.a0, h.a1, h.a2, h.b0, h.b1, h.b2⟩
 obtain ⟨S1, hS1⟩ : ∃ S, CB W0 g p bp bc vn vw L 0 (fun _ => 0) W x (.slice a x.args.length ca) y (.slice b y.args.length cb) = S := ⟨_, rfl⟩
 obtain ⟨S2, hS2⟩ : ∃ S, CB W0 g p bp bc vn vw (L + szs [x]) (wadd g 0 1 [x]) (cadd (fun _ => 0) 1 [x]) W x (.slice a x.args.length ca) y (.slice b y.args.length cb) = S := ⟨_, rfl⟩
 obtain ⟨S3, hS3⟩ : ∃ S, CB W0 g p bp bc vn vw (L + 2 * x.size.toNat + 2 * y.size.toNat) (x.wt g - y.wt g) (cdif x y) W x (.slice a x.args.length ca) y (.slice b y.args.length cb) = S := ⟨_, rfl⟩
 rw [hS1] at hT h49x h49y h36x hC1
 rw [hS2] at h36x h36y hC2
 rw [hS3] at h36y h51 h50 hC3
 clear hS1 hS2 hS3 hS hax hay t0 t1 t2 u0 u1 u2 hbx hpl hbl hL hx hy
 obtain ⟨i0, i1, i2, j0, j1, j2⟩ := hC1 _ hT
 obtain ⟨hv, hhv⟩ : ∃ q, headsV g x y = q := ⟨_, rfl⟩
 rw [hhv] at h51 h50
 obtain ⟨kv, hkv⟩ : ∃ q, kcmp g x y = q := ⟨_, rfl⟩
 rw [hkv] at h50
 rw [hkv]
 clear hhv hkv
 by_cases c1 : x.fn.size = 0
 ·rw [decide_eq_true c1] at h49x
  clear c1 hd
  go_enter Tryz.func53, Tryz.ntmps53
  go_wp2_with fail
  refine (h49x _ hT).mono ?_
  rintro e W2 ⟨rfl, hT2⟩
  obtain ⟨k0, k1, k2, l0, l1, l2⟩ := hC1 _ hT2
  go_wp2_with fail
  refine (h36x _ hT2).mono ?_
  rintro e W5 ⟨⟨v5, rfl⟩, hT5⟩
  obtain ⟨m0, m1, m2, n0, n1, n2⟩ := hC2 _ hT5
  go_wp2_with fail
  refine (h36y _ hT5).mono ?_
  rintro e W6 ⟨⟨v6, rfl⟩, hT6⟩
  obtain ⟨q0, q1, q2, r0, r1, r2⟩ := hC3 _ hT6
  go_wp2_with fail
  refine (h51 _ hT6).mono ?_
  rintro e W7 ⟨rfl, hT7⟩
  go_wp2_with fail
  refine (h50 _ hT7).mono ?_
  rintro e W8 ⟨rfl, HF⟩
  go_wp2
  go_ret
  exact ⟨rfl, HF.out⟩
 rw [decide_eq_false c1] at h49x
 by_cases c2 : y.fn.size = 0
 ·rw [decide_eq_true c2] at h49y
  clear c1 c2 hd
  go_enter Tryz.func53, Tryz.ntmps53
  go_wp2_with fail
  refine (h49x _ hT).mono ?_
  rintro e W2 ⟨rfl, hT2⟩
  obtain ⟨k0, k1, k2, l0, l1, l2⟩ := hC1 _ hT2
  go_wp2_with fail
  refine (h49y _ hT2).mono ?_
  rintro e W3 ⟨rfl, hT3⟩
  obtain ⟨o0, o1, o2, s0, s1, s2⟩ := hC1 _ hT3
  go_wp2_with fail
  refine (h36x _ hT3).mono ?_
  rintro e W5 ⟨⟨v5, rfl⟩, hT5⟩
  obtain ⟨m0, m1, m2, n0, n1, n2⟩ := hC2 _ hT5
  go_wp2_with fail
  refine (h36y _ hT5).mono ?_
  rintro e W6 ⟨⟨v6, rfl⟩, hT6⟩
  obtain ⟨q0, q1, q2, r0, r1, r2⟩ := hC3 _ hT6
  go_wp2_with fail
  refine (h51 _ hT6).mono ?_
  rintro e W7 ⟨rfl, hT7⟩
  go_wp2_with fail
  refine (h50 _ hT7).mono ?_
  rintro e W8 ⟨rfl, HF⟩
  go_wp2
  go_ret
  exact ⟨rfl, HF.out⟩
 rw [decide_eq_false c2] at h49y
 by_cases c3 : x.fn = y.fn
 ·have hl : x.args.length ≠ y.args.length := by
   rcases hd with h | h | h | h
   ·exact absurd h c1
   ·exact absurd h c2
   ·exact absurd c3 h
   ·exact h
  have e1 : (x.fn.toList == y.fn.toList) = true := by rw [c3]; simp
  have e2 : (x.fn.toList != y.fn.toList) = false := by rw [bne, e1]; rfl
  have e3 : ((x.args.length : Int) != (y.args.length : Int)) = true := by rw [bne_iff_ne]; omega
  clear c1 c2 c3 hd
  go_enter Tryz.func53, Tryz.ntmps53
  go_wp2_with fail
  refine (h49x _ hT).mono ?_
  rintro e W2 ⟨rfl, hT2⟩
  obtain ⟨k0, k1, k2, l0, l1, l2⟩ := hC1 _ hT2
  go_wp2_with fail
  refine (h49y _ hT2).mono ?_
  rintro e W3 ⟨rfl, hT3⟩
  obtain ⟨o0, o1, o2, s0, s1, s2⟩ := hC1 _ hT3
  go_wp2_with fail
  refine (h36x _ hT3).mono ?_
  rintro e W5 ⟨⟨v5, rfl⟩, hT5⟩
  obtain ⟨m0, m1, m2, n0, n1, n2⟩ := hC2 _ hT5
  go_wp2_with fail
  refine (h36y _ hT5).mono ?_
  rintro e W6 ⟨⟨v6, rfl⟩, hT6⟩
  obtain ⟨q0, q1, q2, r0, r1, r2⟩ := hC3 _ hT6
  go_wp2_with fail
  refine (h51 _ hT6).mono ?_
  rintro e W7 ⟨rfl, hT7⟩
  go_wp2_with fail
  refine (h50 _ hT7).mono ?_
  rintro e W8 ⟨rfl, HF⟩
  go_wp2
  go_ret
  exact ⟨rfl, HF.out⟩
 ·have e1 : (x.fn.toList == y.fn.toList) = false := by rw [beq_eq_false_iff_ne]; exact fun h => c3 (ba_toList_inj.1 h)
  have e2 : (x.fn.toList != y.fn.toList) = true := by rw [bne, e1]; rfl
  clear c1 c2 c3 hd
  go_enter Tryz.func53, Tryz.ntmps53
  go_wp2_with fail
  refine (h49x _ hT).mono ?_
  rintro e W2 ⟨rfl, hT2⟩
  obtain ⟨k0, k1, k2, l0, l1, l2⟩ := hC1 _ hT2
  go_wp2_with fail
  refine (h49y _ hT2).mono ?_
  rintro e W3 ⟨rfl, hT3⟩
  obtain ⟨o0, o1, o2, s0, s1, s2⟩ := hC1 _ hT3
  go_wp2_with fail
  refine (h36x _ hT3).mono ?_
  rintro e W5 ⟨⟨v5, rfl⟩, hT5⟩
  obtain ⟨m0, m1, m2, n0, n1, n2⟩ := hC2 _ hT5
  go_wp2_with fail
  refine (h36y _ hT5).mono ?_
  rintro e W6 ⟨⟨v6, rfl⟩, hT6⟩
  obtain ⟨q0, q1, q2, r0, r1, r2⟩ := hC3 _ hT6
  go_wp2_with fail
  refine (h51 _ hT6).mono ?_
  rintro e W7 ⟨rfl, hT7⟩
  go_wp2_with fail
  refine (h50 _ hT7).mono ?_
  rintro e W8 ⟨rfl, HF⟩
  go_wp2
  go_ret
  exact ⟨rfl, HF.out⟩
theorem compare_same (W0 : World) (g : Sg) (p bp bc : Nat) (vn vw : Value) (x y : T) (ih : ∀ a ∈ x.args, CmpAt W0 g p bp bc vn vw a) (sx sy : Value) (L : Nat) (W : World) (hS : Sc W0 g p bp bc vn vw L 0 (fun _ => 0) W) (hax : ArgsP (Off p bc) W sx x.args) (hay : ArgsP (Off p bc) W sy y.args) (hx : x.shape = true) (hy : y.shape = true) (hL : L + 2 * x.size.toNat + 2 * y.size.toNat <= 100000) (n1 : x.fn.size ≠ 0) (n2 : y.fn.size ≠ 0) (hf : x.fn = y.fn) (hl : x.args.length = y.args.length) :
  Calls Tryz.prog 53 #[.pointer (some ⟨p, 0, none⟩), tval x sx, tval y sy] W fun e W' => e = .returned (.int .i64 (kcmp g x y)) ∧ Sc W0 g p bp bc vn vw (L + 2 * x.size.toNat + 2 * y.size.toNat) (x.wt g - y.wt g) (cdif x y) W' ∧ Only [p, bc] W W' := by
 obtain ⟨a, ca, rfl⟩ := hax.slice
 obtain ⟨b, cb, rfl⟩ := hay.slice
 have hpl := hS.lt
 have hbl : bc < W.heap.size := by
  obtain ⟨m, n, hm, _⟩ := hS.cm
  exact hm.lt
 have hbx := below_box2 W (tbox x (.slice a x.args.length ca)) (tbox y (.slice b y.args.length cb))
 obtain ⟨⟨t0, t1, t2⟩, u0, u1, u2⟩ := tbox2_cells W x (.slice a x.args.length ca) y (.slice b y.args.length cb)
 have hT : CB W0 g p bp bc vn vw L 0 (fun _ => 0) W x (.slice a x.args.length ca) y (.slice b y.args.length cb) (tbox2 W x (.slice a x.args.length ca) y (.slice b y.args.length cb)) := ⟨hS.keep hbx, t1, t0, t2, u0, u1, u2, hax.only (Only.of_below hbx), hay.only (Only.of_below hbx), Only.of_below hbx, by simp, ⟨hpl, hbl⟩⟩
 have h49x : ∀ X, CB W0 g p bp bc vn vw L 0 (fun _ => 0) W x (.slice a x.args.length ca) y (.slice b y.args.length cb) X -> Calls Tryz.prog 88 #[tval x (.slice a x.args.length ca)] X fun e X' => e = .returned (.bool false) ∧ CB W0 g p bp bc vn vw L 0 (fun _ => 0) W x (.slice a x.args.length ca) y (.slice b y.args.length cb) X' := fun X hX => (kisVar_any x a _ ca X).mono fun e X' ⟨h1, h2⟩ => ⟨by rw [h1, decide_eq_false n1], hX.keep h2⟩
 have h49y : ∀ X, CB W0 g p bp bc vn vw L 0 (fun _ => 0) W x (.slice a x.args.length ca) y (.slice b y.args.length cb) X -> Calls Tryz.prog 88 #[tval y (.slice b y.args.length cb)] X fun e X' => e = .returned (.bool false) ∧ CB W0 g p bp bc vn vw L 0 (fun _ => 0) W x (.slice a x.args.length ca) y (.slice b y.args.length cb) X' := fun X hX => (kisVar_any y b _ cb X).mono fun e X' ⟨h1, h2⟩ => ⟨by rw [h1, decide_eq_false n2], hX.keep h2⟩
 have hsx : ∀ t ∈ x.args, t.shape = true := by
  rcases shape_cases hx with ⟨h, _⟩ | ⟨_, _, _, _, h⟩
  ·exact absurd h n1
  ·exact h
 have hsy : ∀ t ∈ y.args, t.shape = true := by
  rcases shape_cases hy with ⟨h, _⟩ | ⟨_, _, _, _, h⟩
  ·exact absurd h n2
  ·exact h
 have z1 := szs_arg x
 have z2 := szs_arg y
 have h52 : ∀ X, CB W0 g p bp bc vn vw L 0 (fun _ => 0) W x (.slice a x.args.length ca) y (.slice b y.args.length cb) X -> Calls Tryz.prog 92 #[.pointer (some ⟨p, 0, none⟩), .slice a x.args.length ca, .slice b y.args.length cb] X fun e X' => e = .returned (.int .i64 (argsV g x.args y.args)) ∧ CB W0 g p bp bc vn vw (L + 2 * x.size.toNat + 2 * y.size.toNat) (x.wt g - y.wt g) (cdif x y) W x (.slice a x.args.length ca) y (.slice b y.args.length cb) X' := fun X hX => (arguments_any W0 g p bp bc vn vw x.args y.args ih hl _ _ L X hX.sc hX.ax hX.ay hsx hsy (by omega)).mono fun e X' ⟨h1, h2, h3⟩ => ⟨h1, hX.turn ((h2.more 4).eq (by omega) (wdifs_args hf) (cdifs_args n1 n2)) h3⟩
 have h50 : ∀ X, CB W0 g p bp bc vn vw (L + 2 * x.size.toNat + 2 * y.size.toNat) (x.wt g - y.wt g) (cdif x y) W x (.slice a x.args.length ca) y (.slice b y.args.length cb) X -> Calls Tryz.prog 90 #[.pointer (some ⟨p, 0, none⟩), .int .i64 (argsV g x.args y.args)] X fun e X' => e = .returned (.int .i64 (kcmp g x y)) ∧ Hid (Sc W0 g p bp bc vn vw (L + 2 * x.size.toNat + 2 * y.size.toNat) (x.wt g - y.wt g) (cdif x y) X' ∧ Only [p, bc] W X') := fun X hX => (told_any p vn vw bp _ bc _ _ (argsV g x.args y.args) X hX.sc.box).mono fun e X' ⟨h1, h2⟩ => by
  subst h2
  rw [told_args hx hy hX.sc.sup n1 hf hl] at h1
  exact ⟨h1, hX.sc, hX.only⟩
 have hC1 : ∀ X, CB W0 g p bp bc vn vw L 0 (fun _ => 0) W x (.slice a x.args.length ca) y (.slice b y.args.length cb) X -> X.cell? ⟨W.heap.size, 0, none⟩ = some (.int .i64 x.v) ∧ X.cell? ⟨W.heap.size, 1, none⟩ = some (.string x.fn) ∧ X.cell? ⟨W.heap.size, 2, none⟩ = some (.slice a x.args.length ca) ∧ X.cell? ⟨W.heap.size + 1, 0, none⟩ = some (.int .i64 y.v) ∧ X.cell? ⟨W.heap.size + 1, 1, none⟩ = some (.string y.fn) ∧ X.cell? ⟨W.heap.size + 1, 2, none⟩ = some (.slice b y.args.length cb) := fun X h => ⟨h.a0, h.a1, h.a2, h.b0, h.b1, h.b2⟩
 obtain ⟨S1, hS1⟩ : ∃ S, CB W0 g p bp bc vn vw L 0 (fun _ => 0) W x (.slice a x.args.length ca) y (.slice b y.args.length cb) = S := ⟨_, rfl⟩
 obtain ⟨S3, hS3⟩ : ∃ S, CB W0 g p bp bc vn vw (L + 2 * x.size.toNat + 2 * y.size.toNat) (x.wt g - y.wt g) (cdif x y) W x (.slice a x.args.length ca) y (.slice b y.args.length cb) = S := ⟨_, rfl⟩
 rw [hS1] at hT h49x h49y h52 hC1
 rw [hS3] at h52 h50
 have e1 : (x.fn.toList == y.fn.toList) = true := by rw [hf]; simp
 have e2 : (x.fn.toList != y.fn.toList) = false := by rw [bne, e1]; rfl
 have e3 : ((x.args.length : Int) != (y.args.length : Int)) = false := by rw [bne_eq_false_iff_eq]; omega
 clear hS1 hS3 hS hax hay t0 t1 t2 u0 u1 u2 hbx hpl hbl hL hx hy ih hf hl n1 n2 hsx hsy z1 z2
 obtain ⟨i0, i1, i2, j0, j1, j2⟩ := hC1 _ hT
 obtain ⟨hv, hhv⟩ : ∃ q, argsV g x.args y.args = q := ⟨_, rfl⟩
 rw [hhv] at h52 h50
 obtain ⟨kv, hkv⟩ : ∃ q, kcmp g x y = q := ⟨_, rfl⟩
 rw [hkv] at h50
 rw [hkv]
 clear hhv hkv
 go_enter Tryz.func53, Tryz.ntmps53
 go_wp2_with fail
 refine (h49x _ hT).mono ?_
 rintro e W2 ⟨rfl, hT2⟩
 obtain ⟨k0, k1, k2, l0, l1, l2⟩ := hC1 _ hT2
 go_wp2_with fail
 refine (h49y _ hT2).mono ?_
 rintro e W3 ⟨rfl, hT3⟩
 obtain ⟨o0, o1, o2, s0, s1, s2⟩ := hC1 _ hT3
 go_wp2_with fail
 refine (h52 _ hT3).mono ?_
 rintro e W7 ⟨rfl, hT7⟩
 go_wp2_with fail
 refine (h50 _ hT7).mono ?_
 rintro e W8 ⟨rfl, HF⟩
 go_wp2
 go_ret
 exact ⟨rfl, HF.out⟩
theorem compare_any (W0 : World) (g : Sg) (p bp bc : Nat) (vn vw : Value) (x : T) : CmpAt W0 g p bp bc vn vw x := by
 induction x using T.ind with
 | _ x ih =>
  intro y sx sy L W hS hax hay hx hy hL
  by_cases hd : Apart x y
  ·exact compare_apart W0 g p bp bc vn vw x y sx sy L W hS hax hay hx hy hL hd
  ·have n1 : x.fn.size ≠ 0 := fun h => hd (.inl h)
   have n2 : y.fn.size ≠ 0 := fun h => hd (.inr (.inl h))
   have n3 : x.fn = y.fn := Classical.byContradiction fun h => hd (.inr (.inr (.inl h)))
   have n4 : x.args.length = y.args.length := Classical.byContradiction fun h => hd (.inr (.inr (.inr h)))
   exact compare_same W0 g p bp bc vn vw x y ih sx sy L W hS hax hay hx hy hL n1 n2 n3 n4
open Classical in
noncomputable def ccmp (g : Sg) (x y : T) : Int := if g.Ok ∧ x.rightW = 0 ∧ y.rightW = 0 then kcmp g x y else 2
theorem kcompare_any (g : Sg) (x y : T) (vn vw sx sy : Value) (w : World) (hg : SgAt w g vn vw) (hax : ArgsAt w sx x.args) (hay : ArgsAt w sy y.args) (hzx : x.size <= 1048576) (hzy : y.size <= 1048576) :
  Calls Tryz.prog 26 #[gval vn vw, tval x sx, tval y sy] w fun e w' => e = .returned (.int .i64 (ccmp g x y)) ∧ Below w.heap.size w w' := by
 obtain ⟨an, cn, rfl, _, _⟩ := hg.ns.slice
 obtain ⟨aw, cw, rfl, _, _⟩ := hg.ws.slice
 obtain ⟨a, ca, rfl, _, _⟩ := hax.slice
 obtain ⟨b, cb, rfl, _, _⟩ := hay.slice
 have hT := tri_made w (.slice an g.ns.length cn) (.slice aw g.ws.length cw) 38 x (.slice a x.args.length ca) y (.slice b y.args.length cb)
 have hC : ∀ X, Tri w (.slice an g.ns.length cn) (.slice aw g.ws.length cw) x (.slice a x.args.length ca) y (.slice b y.args.length cb) X -> (X.cell? ⟨w.heap.size, 0, none⟩ = some (.slice an g.ns.length cn) ∧ X.cell? ⟨w.heap.size, 1, none⟩ = some (.slice aw g.ws.length cw)) ∧ (X.cell? ⟨w.heap.size + 1, 0, none⟩ = some (.int .i64 x.v) ∧ X.cell? ⟨w.heap.size + 1, 1, none⟩ = some (.string x.fn) ∧ X.cell? ⟨w.heap.size + 1, 2, none⟩ = some (.slice a x.args.length ca)) ∧ (X.cell? ⟨w.heap.size + 1 + 1, 0, none⟩ = some (.int .i64 y.v) ∧ X.cell? ⟨w.heap.size + 1 + 1, 1, none⟩ = some (.string y.fn) ∧ X.cell? ⟨w.heap.size + 1 + 1, 2, none⟩ = some (.slice b y.args.length cb)) := fun X h => ⟨⟨h.g0, h.g1⟩, ⟨h.a0, h.a1, h.a2⟩, h.b0, h.b1, h.b2⟩
 have h8 : ∀ X, Tri w (.slice an g.ns.length cn) (.slice aw g.ws.length cw) x (.slice a x.args.length ca) y (.slice b y.args.length cb) X -> Calls Tryz.prog 31 #[.agg #[.slice an g.ns.length cn, .slice aw g.ws.length cw]] X fun e X' => e = .returned (.int .i64 g.okW) ∧ Tri w (.slice an g.ns.length cn) (.slice aw g.ws.length cw) x (.slice a x.args.length ca) y (.slice b y.args.length cb) X' := fun X hX => (kright_any g _ _ X (hg.keep hX.bel (Nat.le_refl _))).mono fun e X' ⟨h1, h2⟩ => ⟨h1, hX.keep h2⟩
 have h31x : ∀ X, Tri w (.slice an g.ns.length cn) (.slice aw g.ws.length cw) x (.slice a x.args.length ca) y (.slice b y.args.length cb) X -> Calls Tryz.prog 30 #[tval x (.slice a x.args.length ca)] X fun e X' => e = .returned (.int .i64 x.rightW) ∧ Tri w (.slice an g.ns.length cn) (.slice aw g.ws.length cw) x (.slice a x.args.length ca) y (.slice b y.args.length cb) X' := fun X hX => (tright_any x _ X (ArgsAt.keep hX.bel (Nat.le_refl _) hax) (short_of x hzx).1).mono fun e X' ⟨h1, h2⟩ => ⟨h1, hX.keep h2⟩
 have h31y : ∀ X, Tri w (.slice an g.ns.length cn) (.slice aw g.ws.length cw) x (.slice a x.args.length ca) y (.slice b y.args.length cb) X -> Calls Tryz.prog 30 #[tval y (.slice b y.args.length cb)] X fun e X' => e = .returned (.int .i64 y.rightW) ∧ Tri w (.slice an g.ns.length cn) (.slice aw g.ws.length cw) x (.slice a x.args.length ca) y (.slice b y.args.length cb) X' := fun X hX => (tright_any y _ X (ArgsAt.keep hX.bel (Nat.le_refl _) hay) (short_of y hzy).1).mono fun e X' ⟨h1, h2⟩ => ⟨h1, hX.keep h2⟩
 have hB : ∀ X, Tri w (.slice an g.ns.length cn) (.slice aw g.ws.length cw) x (.slice a x.args.length ca) y (.slice b y.args.length cb) X -> Below w.heap.size w X := fun X h => h.bel
 have hdr : ∀ X, Tri w (.slice an g.ns.length cn) (.slice aw g.ws.length cw) x (.slice a x.args.length ca) y (.slice b y.args.length cb) X -> Tri w (.slice an g.ns.length cn) (.slice aw g.ws.length cw) x (.slice a x.args.length ca) y (.slice b y.args.length cb) X.drew := fun X h => h.keep (Below.refl _ X).drew
 have HK : Hid (ccmp g x y = _) := rfl
 have h32 : ∀ X, Tri w (.slice an g.ns.length cn) (.slice aw g.ws.length cw) x (.slice a x.args.length ca) y (.slice b y.args.length cb) X -> Calls Tryz.prog 52 #[.agg #[.slice an g.ns.length cn, .slice aw g.ws.length cw]] X fun e X' => ∃ p, e = .returned (.pointer (some ⟨p, 0, none⟩)) ∧ Hid (∃ bp bc, Sc X g p bp bc (.slice an g.ns.length cn) (.slice aw g.ws.length cw) 0 0 (fun _ => 0) X') ∧ Tri w (.slice an g.ns.length cn) (.slice aw g.ws.length cw) x (.slice a x.args.length ca) y (.slice b y.args.length cb) X' := fun X hX => (level_any g _ _ X (hg.keep hX.bel (Nat.le_refl _))).mono fun e X' ⟨p, bp, bc, h1, h2⟩ => ⟨p, h1, ⟨bp, bc, h2⟩, hX.keep h2.bel⟩
 have h33 : x.rightW = 0 -> y.rightW = 0 -> ∀ X X' p, Tri w (.slice an g.ns.length cn) (.slice aw g.ws.length cw) x (.slice a x.args.length ca) y (.slice b y.args.length cb) X -> Hid (∃ bp bc, Sc X g p bp bc (.slice an g.ns.length cn) (.slice aw g.ws.length cw) 0 0 (fun _ => 0) X') -> Calls Tryz.prog 53 #[.pointer (some ⟨p, 0, none⟩), .agg #[.int .i64 x.v, .string x.fn, .slice a x.args.length ca], .agg #[.int .i64 y.v, .string y.fn, .slice b y.args.length cb]] X' fun e Z => e = .returned (.int .i64 (kcmp g x y)) ∧ Hid (Below w.heap.size w Z) ∧ Tri w (.slice an g.ns.length cn) (.slice aw g.ws.length cw) x (.slice a x.args.length ca) y (.slice b y.args.length cb) Z := fun hrx hry X X' p hX ⟨bp, bc, hS⟩ => by
  obtain ⟨sx1, sx2⟩ := right_facts hrx hzx
  obtain ⟨sy1, sy2⟩ := right_facts hry hzy
  have hax' := (ArgsAt.keep hX.bel (Nat.le_refl _) hax).belowP
  have hay' := (ArgsAt.keep hX.bel (Nat.le_refl _) hay).belowP
  have kp : ∀ k, k < X.heap.size -> k < X.heap.size -> Off p bc k ∧ X'.heap[k]? = X.heap[k]? := fun k hk _ => ⟨⟨by have := hS.lo.1; omega, by have := hS.lo.2.2; omega⟩, hS.bel.block k hk⟩
  refine (compare_any X g p bp bc _ _ x y _ _ 0 X' hS (hax'.keep hS.bel.size kp) (hay'.keep hS.bel.size kp) sx1 sy1 (by omega)).mono fun e Z ⟨h1, h2, h3⟩ => ⟨h1, ?_, ?_⟩
  ·exact hX.bel.trans (h2.bel.mono hX.bel.size)
  ·exact hX.keep h2.bel
 obtain ⟨S, hS⟩ : ∃ S, Tri w (.slice an g.ns.length cn) (.slice aw g.ws.length cw) x (.slice a x.args.length ca) y (.slice b y.args.length cb) = S := ⟨_, rfl⟩
 rw [hS] at hT hC h8 h31x h31y hB hdr h32 h33
 clear hS hg hax hay hzx hzy
 obtain ⟨⟨i0, i1⟩, ⟨j0, j1, j2⟩, k0, k1, k2⟩ := hC _ hT
 by_cases hok : g.Ok
 ·rw [okW_yes hok] at h8
  by_cases hrx : x.rightW = 0
  ·rw [hrx] at h31x
   by_cases hry : y.rightW = 0
   ·rw [hry] at h31y
    have HV : Hid (ccmp g x y = kcmp g x y) := by show _ = _; unfold ccmp; rw [if_pos ⟨hok, hrx, hry⟩]
    have h33' := h33 hrx hry
    clear h33 hok hrx hry HK
    go_enter Tryz.func26, Tryz.ntmps26
    go_wp2_with fail
    refine (h8 _ hT).mono ?_
    rintro e W2 ⟨rfl, hT2⟩
    obtain ⟨⟨l0, l1⟩, ⟨m0, m1, m2⟩, n0, n1, n2⟩ := hC _ hT2
    go_wp2_with fail
    refine (h31x _ hT2).mono ?_
    rintro e W3 ⟨rfl, hT3⟩
    obtain ⟨⟨o0, o1⟩, ⟨q0, q1, q2⟩, r0, r1, r2⟩ := hC _ hT3
    go_wp2_with fail
    refine (h31y _ hT3).mono ?_
    rintro e W4 ⟨rfl, hT4⟩
    have hT4d := hdr _ hT4
    have K4 := hC _ hT4d
    clear i0 i1 j0 j1 j2 k0 k1 k2 l0 l1 m0 m1 m2 n0 n1 n2 o0 o1 q0 q1 q2 r0 r1 r2 hT hT2 hT3 hT4 h8 h31x h31y hdr
    go_wp2
    go_region_held3 (fun X => (X.cell? ⟨w.heap.size, 0, none⟩ = some (.slice an g.ns.length cn) ∧ X.cell? ⟨w.heap.size, 1, none⟩ = some (.slice aw g.ws.length cw)) ∧ (X.cell? ⟨w.heap.size + 1, 0, none⟩ = some (.int .i64 x.v) ∧ X.cell? ⟨w.heap.size + 1, 1, none⟩ = some (.string x.fn) ∧ X.cell? ⟨w.heap.size + 1, 2, none⟩ = some (.slice a x.args.length ca)) ∧ (X.cell? ⟨w.heap.size + 1 + 1, 0, none⟩ = some (.int .i64 y.v) ∧ X.cell? ⟨w.heap.size + 1 + 1, 1, none⟩ = some (.string y.fn) ∧ X.cell? ⟨w.heap.size + 1 + 1, 2, none⟩ = some (.slice b y.args.length cb))) (first | exact K4 | exact K5 | exact K6) (first
     | (go_at_call 52; refine (h32 _ hT4d).mono ?_; rintro e W5 ⟨p, rfl, HS5, hT5⟩; have K5 := hC _ hT5)
     | (go_at_call 53; refine (h33' _ _ _ hT4d HS5).mono ?_; rintro e W6 ⟨rfl, HF, hT6⟩; have K6 := hC _ hT6))
    go_wp2
    go_ret
    exact ⟨ret_i64 HV.out.symm, HF.out⟩
   ·have HV : Hid (ccmp g x y = 2) := by show _ = _; unfold ccmp; rw [if_neg (fun h => hry h.2.2)]
    have e3 : (y.rightW != 0) = true := by rw [bne_iff_ne]; exact hry
    clear h33 hok hrx hry HK h32
    go_enter Tryz.func26, Tryz.ntmps26
    go_wp2_with fail
    refine (h8 _ hT).mono ?_
    rintro e W2 ⟨rfl, hT2⟩
    obtain ⟨⟨l0, l1⟩, ⟨m0, m1, m2⟩, n0, n1, n2⟩ := hC _ hT2
    go_wp2_with fail
    refine (h31x _ hT2).mono ?_
    rintro e W3 ⟨rfl, hT3⟩
    obtain ⟨⟨o0, o1⟩, ⟨q0, q1, q2⟩, r0, r1, r2⟩ := hC _ hT3
    go_wp2_with fail
    refine (h31y _ hT3).mono ?_
    rintro e W4 ⟨rfl, hT4⟩
    go_wp2
    go_ret
    exact ⟨ret_i64 HV.out.symm, hB _ hT4⟩
  ·have HV : Hid (ccmp g x y = 2) := by show _ = _; unfold ccmp; rw [if_neg (fun h => hrx h.2.1)]
   have e3 : (x.rightW != 0) = true := by rw [bne_iff_ne]; exact hrx
   clear h33 hok hrx HK h32 h31y
   go_enter Tryz.func26, Tryz.ntmps26
   go_wp2_with fail
   refine (h8 _ hT).mono ?_
   rintro e W2 ⟨rfl, hT2⟩
   obtain ⟨⟨l0, l1⟩, ⟨m0, m1, m2⟩, n0, n1, n2⟩ := hC _ hT2
   go_wp2_with fail
   refine (h31x _ hT2).mono ?_
   rintro e W3 ⟨rfl, hT3⟩
   go_wp2
   go_ret
   exact ⟨ret_i64 HV.out.symm, hB _ hT3⟩
 ·have HV : Hid (ccmp g x y = 2) := by show _ = _; unfold ccmp; rw [if_neg (fun h => hok h.1)]
  rw [okW_no hok] at h8
  clear h33 hok HK h32 h31y h31x
  go_enter Tryz.func26, Tryz.ntmps26
  go_wp2_with fail
  refine (h8 _ hT).mono ?_
  rintro e W2 ⟨rfl, hT2⟩
  go_wp2
  go_ret
  exact ⟨ret_i64 HV.out.symm, hB _ hT2⟩
end Go.Proofs.YtglphfhlpobgcaaGreat
