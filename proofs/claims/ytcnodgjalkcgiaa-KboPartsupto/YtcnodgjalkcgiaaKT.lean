/-
  alive.
-/
import Derived.Test.YtcnodgjalkcgiaaKS
namespace Go.Proofs.Ytcnodgjalkcgiaa
open Go.RowKit Go.Maps

def ca : T := .mk 0 ⟨#[97]⟩ []
def cb : T := .mk 0 ⟨#[98]⟩ []
def cx : T := .mk 0 ⟨#[]⟩ []
def cf (t : T) : T := .mk 0 ⟨#[102]⟩ [t]
def g0 : Sg := ⟨[], []⟩

theorem g0_ok : g0.Ok := by
  unfold Sg.Ok
  refine ⟨by decide, by decide, fun x hx => ?_, fun x hx => ?_, List.nodup_nil⟩
  · cases hx
  · cases hx
theorem g0_at (w : World) : SgAt w g0 (.slice none 0 0) (.slice none 0 0) := ⟨⟨none, 0, rfl, Nat.le_refl _, by decide, fun h => absurd h (by decide)⟩, ⟨none, 0, rfl, Nat.le_refl _, by decide, fun h => absurd h (by decide)⟩, by intro x hx; cases hx⟩
theorem ccmp_right {x y : T} (hx : x.rightW = 0) (hy : y.rightW = 0) : ccmp g0 x y = kcmp g0 x y := by
  unfold ccmp
  rw [if_pos ⟨g0_ok, hx, hy⟩]

theorem al1 : ccmp g0 (cf cx) cx = 1 := by
  rw [ccmp_right (by kernel_rfl) (by kernel_rfl), kcmp_gr, gr_eq]
  exact ⟨arg_vle (t := cf cx) (by simp [cf, T.args]), .inl (arg_wt (t := cf cx) (by simp [cf, T.args]))⟩
theorem al2 : ccmp g0 ca cx = 2 := by
  rw [ccmp_right (by kernel_rfl) (by kernel_rfl)]
  refine kcmp_none (fun e => ?_) (fun k => ?_) (fun k => ?_)
  · have : ca.fn.size = cx.fn.size := by rw [e]
    exact absurd this (by decide)
  · have := ((gr_eq _ _ _).1 k).1 0
    exact absurd this (by decide)
  · rcases ((gr_eq _ _ _).1 k).2 with k | ⟨_, k, _⟩
    · exact absurd k (by decide)
    · exact k rfl
theorem al3 : ccmp g0 (cf ca) (cf cb) = -1 := by
  rw [ccmp_right (by kernel_rfl) (by kernel_rfl), kcmp_ls]
  refine gr_arg (l := []) (r := []) (by decide) ?_
  rw [gr_eq]
  refine ⟨fun x => by simp [ca, cb, T.vs, T.vs.go, ByteArray.size], .inr ⟨by decide, by decide, by decide, .inl (.inl (by decide))⟩⟩
theorem al4 : cwt g0 (cf ca) = 2 := by kernel_rfl
theorem al5 : g0.above ⟨#[98]⟩ ⟨#[97]⟩ = true := by decide

theorem nilArgs (W : World) : ArgsAt W (.slice none 0 0) [] := (ArgsP.nil (fun _ => True) W).args

theorem argsAt_one {X : World} {t : T} {sx : Value} (h : ArgsAt X sx t.args) : ArgsAt (X.alloc (.cells #[.int .i64 t.v, .string t.fn, sx] 28)) (.slice (some ⟨X.heap.size, 0, none⟩) 1 1) [t] := by
  obtain ⟨c0, c1, c2⟩ := tbox_cells X t sx
  have hb := below_box X (.cells #[.int .i64 t.v, .string t.fn, sx] 28)
  refine ArgsAt.mk (some ⟨X.heap.size, 0, none⟩) 1 [t] (fun _ => sx) (Nat.le_refl _) (by decide) (fun _ => ⟨X.heap.size, 0, by simp, rfl, fun i hi => ?_⟩) (fun i hi => ?_)
  · have : i = 0 := by simpa using hi
    subst this
    exact ⟨c0, c1, c2⟩
  · have : i = 0 := by simpa using hi
    subst this
    exact ArgsAt.keep hb (Nat.le_refl _) h

set_option maxHeartbeats 1000000 in
theorem f39_any (t : T) (a : Option Addr) (n c : Nat) (h : (.slice a t.args.length c : Value) = .slice a n c) (w : World) (ha : ArgsAt w (.slice a t.args.length c) t.args) :
    Calls Try.prog 39 #[tval t (.slice a n c)] w fun e w' => ∃ s, e = .returned (.agg #[.int .i64 0, .string ⟨#[102]⟩, .slice (some s) 1 1]) ∧ ArgsAt w' (.slice (some s) 1 1) [t] ∧ Below w.heap.size w w' := by
  cases h
  go_enter Try.func39, Try.ntmps39
  go_wp2
  have hb1 := below_box w (.cells #[.int .i64 t.v, .string t.fn, .slice a t.args.length c] 28)
  have hb2 := below_box (w.alloc (.cells #[.int .i64 t.v, .string t.fn, .slice a t.args.length c] 28)) (.cells #[.int .i64 0, .string ⟨#[102]⟩, .slice (some ⟨w.heap.size + 1 + 1, 0, none⟩) 1 1] 28)
  have hb12 : Below w.heap.size w _ := hb1.trans (hb2.mono (by simp))
  have hone := argsAt_one (t := t) (ArgsAt.keep hb12 (Nat.le_refl _) ha)
  simp only [World.size_alloc] at hone
  refine bodyPost_ret (v := .agg #[.int .i64 0, .string ⟨#[102]⟩, .slice (some ⟨w.heap.size + 1 + 1, 0, none⟩) 1 1]) (by simp [results, Try.results39, go_sem, *]) rfl ⟨_, rfl, hone, ?_⟩
  exact hb12.trans ((below_box _ _).mono (by simp; omega))

/-- The boxes of alive, in a world behind. -/
structure AL (w : World) (X : World) : Prop where
  x0 : X.cell? ⟨w.heap.size, 0, none⟩ = some (.int .i64 0)
  x1 : X.cell? ⟨w.heap.size, 1, none⟩ = some (.string ⟨#[]⟩)
  x2 : X.cell? ⟨w.heap.size, 2, none⟩ = some (.slice none 0 0)
  a0 : X.cell? ⟨w.heap.size + 1, 0, none⟩ = some (.int .i64 0)
  a1 : X.cell? ⟨w.heap.size + 1, 1, none⟩ = some (.string ⟨#[97]⟩)
  a2 : X.cell? ⟨w.heap.size + 1, 2, none⟩ = some (.slice none 0 0)
  b0 : X.cell? ⟨w.heap.size + 1 + 1, 0, none⟩ = some (.int .i64 0)
  b1 : X.cell? ⟨w.heap.size + 1 + 1, 1, none⟩ = some (.string ⟨#[98]⟩)
  b2 : X.cell? ⟨w.heap.size + 1 + 1, 2, none⟩ = some (.slice none 0 0)
  g0 : X.cell? ⟨w.heap.size + 1 + 1 + 1, 0, none⟩ = some (.slice none 0 0)
  g1 : X.cell? ⟨w.heap.size + 1 + 1 + 1, 1, none⟩ = some (.slice none 0 0)
  bel : Below w.heap.size w X
  siz : w.heap.size + 4 ≤ X.heap.size
theorem AL.keep {w X X' : World} (h : AL w X) (hb : Below X.heap.size X X') : AL w X' := by
  have hs := h.siz
  exact ⟨kc hb (by omega) h.x0, kc hb (by omega) h.x1, kc hb (by omega) h.x2, kc hb (by omega) h.a0, kc hb (by omega) h.a1, kc hb (by omega) h.a2, kc hb (by omega) h.b0, kc hb (by omega) h.b1, kc hb (by omega) h.b2, kc hb (by omega) h.g0, kc hb (by omega) h.g1, h.bel.trans (hb.mono h.bel.size), Nat.le_trans hs hb.size⟩
abbrev alW (w : World) : World := (((w.alloc (tbox cx (.slice none 0 0))).alloc (tbox ca (.slice none 0 0))).alloc (tbox cb (.slice none 0 0))).alloc (.cells #[.slice none 0 0, .slice none 0 0] 31)
theorem al_made (w : World) : AL w (alW w) := by
  obtain ⟨t0, t1, t2⟩ := tbox_cells w cx (.slice none 0 0)
  have h1 := below_box w (tbox cx (.slice none 0 0))
  obtain ⟨⟨u0, u1, u2⟩, v0, v1, v2⟩ := tbox2_cells (w.alloc (tbox cx (.slice none 0 0))) ca (.slice none 0 0) cb (.slice none 0 0)
  have h2 := below_box2 (w.alloc (tbox cx (.slice none 0 0))) (tbox ca (.slice none 0 0)) (tbox cb (.slice none 0 0))
  obtain ⟨s0, s1⟩ := box2_cells (((w.alloc (tbox cx (.slice none 0 0))).alloc (tbox ca (.slice none 0 0))).alloc (tbox cb (.slice none 0 0))) (.slice none 0 0) (.slice none 0 0) 31
  have h3 := below_box (((w.alloc (tbox cx (.slice none 0 0))).alloc (tbox ca (.slice none 0 0))).alloc (tbox cb (.slice none 0 0))) (.cells #[.slice none 0 0, .slice none 0 0] 31)
  simp only [World.size_alloc] at u0 u1 u2 v0 v1 v2 s0 s1
  refine ⟨kc h3 (by simp; omega) (kc h2 (by simp) t0), kc h3 (by simp; omega) (kc h2 (by simp) t1), kc h3 (by simp; omega) (kc h2 (by simp) t2), kc h3 (by simp) u0, kc h3 (by simp) u1, kc h3 (by simp) u2, kc h3 (by simp) v0, kc h3 (by simp) v1, kc h3 (by simp) v2, s0, s1, (h1.trans (h2.mono (by simp))).trans (h3.mono (by simp; omega)), by simp⟩

set_option maxRecDepth 100000 in
set_option maxHeartbeats 8000000 in
theorem alive_any (w : World) : Calls Try.prog 17 #[] w fun e w' => e = .returned (.bool true) ∧ Below w.heap.size w w' := by
  have hT := al_made w
  have eg : ∀ args w, (callFunc 39 args).run Try.prog w = .ok (.enter 39 args) w := enters_of Try.func39 (by kernel_rfl) rfl
  have hC : ∀ X, AL w X → (X.cell? ⟨w.heap.size, 0, none⟩ = some (.int .i64 0) ∧ X.cell? ⟨w.heap.size, 1, none⟩ = some (.string ⟨#[]⟩) ∧ X.cell? ⟨w.heap.size, 2, none⟩ = some (.slice none 0 0)) ∧ (X.cell? ⟨w.heap.size + 1, 0, none⟩ = some (.int .i64 0) ∧ X.cell? ⟨w.heap.size + 1, 1, none⟩ = some (.string ⟨#[97]⟩) ∧ X.cell? ⟨w.heap.size + 1, 2, none⟩ = some (.slice none 0 0)) ∧ (X.cell? ⟨w.heap.size + 1 + 1, 0, none⟩ = some (.int .i64 0) ∧ X.cell? ⟨w.heap.size + 1 + 1, 1, none⟩ = some (.string ⟨#[98]⟩) ∧ X.cell? ⟨w.heap.size + 1 + 1, 2, none⟩ = some (.slice none 0 0)) ∧ (X.cell? ⟨w.heap.size + 1 + 1 + 1, 0, none⟩ = some (.slice none 0 0) ∧ X.cell? ⟨w.heap.size + 1 + 1 + 1, 1, none⟩ = some (.slice none 0 0)) := fun X h => ⟨⟨h.x0, h.x1, h.x2⟩, ⟨h.a0, h.a1, h.a2⟩, ⟨h.b0, h.b1, h.b2⟩, h.g0, h.g1⟩
  have hB : ∀ X, AL w X → Below w.heap.size w X := fun X h => h.bel
  have hdr : ∀ X, AL w X → AL w X.drew := fun X h => h.keep (Below.refl _ X).drew
  have fx : ∀ X, AL w X → Calls Try.prog 39 #[.agg #[.int .i64 0, .string ⟨#[]⟩, .slice none 0 0]] X fun e X' => ∃ s, e = .returned (.agg #[.int .i64 0, .string ⟨#[102]⟩, .slice (some s) 1 1]) ∧ Hid (ArgsAt X' (.slice (some s) 1 1) [cx]) ∧ AL w X' := fun X hX => (f39_any cx none 0 0 rfl X (nilArgs X)).mono fun e X' ⟨s, h1, h2, h3⟩ => ⟨s, h1, h2, hX.keep h3⟩
  have fa : ∀ X, AL w X → Calls Try.prog 39 #[.agg #[.int .i64 0, .string ⟨#[97]⟩, .slice none 0 0]] X fun e X' => ∃ s, e = .returned (.agg #[.int .i64 0, .string ⟨#[102]⟩, .slice (some s) 1 1]) ∧ Hid (ArgsAt X' (.slice (some s) 1 1) [ca]) ∧ AL w X' := fun X hX => (f39_any ca none 0 0 rfl X (nilArgs X)).mono fun e X' ⟨s, h1, h2, h3⟩ => ⟨s, h1, h2, hX.keep h3⟩
  have fb : ∀ X, AL w X → ∀ s0, Hid (ArgsAt X (.slice (some s0) 1 1) [ca]) → Calls Try.prog 39 #[.agg #[.int .i64 0, .string ⟨#[98]⟩, .slice none 0 0]] X fun e X' => ∃ s, e = .returned (.agg #[.int .i64 0, .string ⟨#[102]⟩, .slice (some s) 1 1]) ∧ Hid (ArgsAt X' (.slice (some s0) 1 1) [ca] ∧ ArgsAt X' (.slice (some s) 1 1) [cb]) ∧ AL w X' := fun X hX s0 h0 => (f39_any cb none 0 0 rfl X (nilArgs X)).mono fun e X' ⟨s, h1, h2, h3⟩ => ⟨s, h1, ⟨ArgsAt.keep h3 (Nat.le_refl _) h0, h2⟩, hX.keep h3⟩
  have c1 : ∀ X, AL w X → ∀ s, Hid (ArgsAt X (.slice (some s) 1 1) [cx]) → Calls Try.prog 11 #[.agg #[.slice none 0 0, .slice none 0 0], .agg #[.int .i64 0, .string ⟨#[102]⟩, .slice (some s) 1 1], .agg #[.int .i64 0, .string ⟨#[]⟩, .slice none 0 0]] X fun e X' => e = .returned (.int .i64 1) ∧ AL w X' := fun X hX s hs => (kcompare_any g0 (cf cx) cx _ _ _ _ X (g0_at X) hs (nilArgs X) (by decide) (by decide)).mono fun e X' ⟨h1, h2⟩ => ⟨by rw [h1, al1], hX.keep h2⟩
  have c2 : ∀ X, AL w X → Calls Try.prog 11 #[.agg #[.slice none 0 0, .slice none 0 0], .agg #[.int .i64 0, .string ⟨#[97]⟩, .slice none 0 0], .agg #[.int .i64 0, .string ⟨#[]⟩, .slice none 0 0]] X fun e X' => e = .returned (.int .i64 2) ∧ AL w X' := fun X hX => (kcompare_any g0 ca cx _ _ _ _ X (g0_at X) (nilArgs X) (nilArgs X) (by decide) (by decide)).mono fun e X' ⟨h1, h2⟩ => ⟨by rw [h1, al2], hX.keep h2⟩
  have c3 : ∀ X, AL w X → ∀ s t, Hid (ArgsAt X (.slice (some s) 1 1) [ca] ∧ ArgsAt X (.slice (some t) 1 1) [cb]) → Calls Try.prog 11 #[.agg #[.slice none 0 0, .slice none 0 0], .agg #[.int .i64 0, .string ⟨#[102]⟩, .slice (some s) 1 1], .agg #[.int .i64 0, .string ⟨#[102]⟩, .slice (some t) 1 1]] X fun e X' => e = .returned (.int .i64 (-1)) ∧ AL w X' := fun X hX s t hs => (kcompare_any g0 (cf ca) (cf cb) _ _ _ _ X (g0_at X) hs.1 hs.2 (by decide) (by decide)).mono fun e X' ⟨h1, h2⟩ => ⟨by rw [h1, al3], hX.keep h2⟩
  have c4 : ∀ X, AL w X → ∀ s, Hid (ArgsAt X (.slice (some s) 1 1) [ca]) → Calls Try.prog 13 #[.agg #[.slice none 0 0, .slice none 0 0], .agg #[.int .i64 0, .string ⟨#[102]⟩, .slice (some s) 1 1]] X fun e X' => e = .returned (.int .i64 2) ∧ AL w X' := fun X hX s hs => (kweight_any g0 (cf ca) _ _ _ X (g0_at X) hs (by decide)).mono fun e X' ⟨h1, h2⟩ => ⟨by rw [h1, al4], hX.keep h2⟩
  have c5 : ∀ X, AL w X → Calls Try.prog 15 #[.agg #[.slice none 0 0, .slice none 0 0], .string ⟨#[98]⟩, .string ⟨#[97]⟩] X fun e X' => e = .returned (.bool true) ∧ AL w X' := fun X hX => (above_any g0 _ _ _ _ X (g0_at X)).mono fun e X' ⟨h1, h2⟩ => ⟨by rw [h1, al5], hX.keep h2⟩
  obtain ⟨S, hS⟩ : ∃ S, AL w = S := ⟨_, rfl⟩
  rw [hS] at hT hC hB hdr fx fa fb c1 c2 c3 c4 c5
  clear hS
  have hTd := hdr _ hT
  have K0 := hC _ hTd
  clear hdr hT
  go_enter Try.func17, Try.ntmps17
  go_wp2
  go_region_held3 (fun X => (X.cell? ⟨w.heap.size, 0, none⟩ = some (.int .i64 0) ∧ X.cell? ⟨w.heap.size, 1, none⟩ = some (.string ⟨#[]⟩) ∧ X.cell? ⟨w.heap.size, 2, none⟩ = some (.slice none 0 0)) ∧ (X.cell? ⟨w.heap.size + 1, 0, none⟩ = some (.int .i64 0) ∧ X.cell? ⟨w.heap.size + 1, 1, none⟩ = some (.string ⟨#[97]⟩) ∧ X.cell? ⟨w.heap.size + 1, 2, none⟩ = some (.slice none 0 0)) ∧ (X.cell? ⟨w.heap.size + 1 + 1, 0, none⟩ = some (.int .i64 0) ∧ X.cell? ⟨w.heap.size + 1 + 1, 1, none⟩ = some (.string ⟨#[98]⟩) ∧ X.cell? ⟨w.heap.size + 1 + 1, 2, none⟩ = some (.slice none 0 0)) ∧ (X.cell? ⟨w.heap.size + 1 + 1 + 1, 0, none⟩ = some (.slice none 0 0) ∧ X.cell? ⟨w.heap.size + 1 + 1 + 1, 1, none⟩ = some (.slice none 0 0))) (first | exact K0 | exact K1 | exact K2 | exact K3 | exact K4 | exact K5 | exact K6 | exact K7 | exact K8 | exact K9) (first
    | (go_at_call 15; refine (c5 _ T8).mono ?_; rintro e W9 ⟨rfl, T9⟩; have K9 := hC _ T9)
    | (go_at_call 13; refine (c4 _ T7 _ H7).mono ?_; rintro e W8 ⟨rfl, T8⟩; have K8 := hC _ T8)
    | (go_at_fn 39; refine (fa _ T6).mono ?_; rintro e W7 ⟨s7, rfl, H7, T7⟩; have K7 := hC _ T7)
    | (go_at_call 11; refine (c3 _ T5 _ _ H5).mono ?_; rintro e W6 ⟨rfl, T6⟩; have K6 := hC _ T6)
    | (go_at_fn 39; refine (fb _ T4 _ H4).mono ?_; rintro e W5 ⟨s5, rfl, H5, T5⟩; have K5 := hC _ T5)
    | (go_at_fn 39; refine (fa _ T3).mono ?_; rintro e W4 ⟨s4, rfl, H4, T4⟩; have K4 := hC _ T4)
    | (go_at_call 11; refine (c2 _ T2).mono ?_; rintro e W3 ⟨rfl, T3⟩; have K3 := hC _ T3)
    | (go_at_call 11; refine (c1 _ T1 _ H1).mono ?_; rintro e W2 ⟨rfl, T2⟩; have K2 := hC _ T2)
    | (go_at_fn 39; refine (fx _ hTd).mono ?_; rintro e W1 ⟨s1, rfl, H1, T1⟩; have K1 := hC _ T1))
  go_wp2
  go_ret
  exact ⟨rfl, hB _ T9⟩

end Go.Proofs.Ytcnodgjalkcgiaa
