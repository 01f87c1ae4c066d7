/-
  The scales: level.
-/
import Derived.Test.YtcnodgjalkcgiaaKJ
namespace Go.Proofs.Ytcnodgjalkcgiaa
open Go.RowKit Go.Maps

theorem mo_zero : mo (fun _ => 0) = 0 := by
  have := (mo_pos (c := fun _ => 0) (fun _ _ => rfl))
  have h := mo_rng (fun _ => 0)
  have : ¬ 0 < mo (fun _ => 0) := fun k => by
    obtain ⟨x, hx⟩ := this.1 k
    simp at hx
  omega
theorem fe_zero : fe (fun _ => 0) = 0 := by
  have := (fe_pos (c := fun _ => 0) (fun _ _ => rfl))
  have h := fe_rng (fun _ => 0)
  have : ¬ 0 < fe (fun _ => 0) := fun k => by
    obtain ⟨x, hx⟩ := this.1 k
    simp at hx
  omega

/-- The scales' box is laid. -/
theorem Sc.made {w : World} {g : Sg} {vn vw : Value} {bp bc p k : Nat} {W2 : World} (hg : SgAt w g vn vw) (hb : Below w.heap.size w W2) (hp : W2.heap.size = p) (h1 : MapIs W2 9 bp (pmL (g.ns.take (min g.ns.length g.ws.length))) k) (h2 : MapIs W2 3 bc (fun _ => none) 0) (l1 : w.heap.size ≤ bp) (l2 : w.heap.size ≤ bc) (ne : bp ≠ bc) :
    Sc w g p bp bc vn vw 0 0 (fun _ => 0) (W2.alloc (.cells #[vn, vw, .map (some bp), .int .i64 0, .map (some bc), .int .i64 0, .int .i64 0] 70)) := by
  subst hp
  have hbb := below_box W2 (.cells #[vn, vw, .map (some bp), .int .i64 0, .map (some bc), .int .i64 0, .int .i64 0] 70)
  have e1 := h1.lt
  have e2 := h2.lt
  refine ⟨hb.trans (hbb.mono hb.size), ⟨hb.size, l1, l2⟩, ⟨by omega, by omega, ne⟩, ?_, ⟨k, h1.same (hbb.block bp e1)⟩, ⟨_, 0, h2.same (hbb.block bc e2), Nat.le_refl _, fun x _ => .inl ⟨rfl, rfl⟩⟩, by omega, fun x => by simp, fun _ _ => rfl, hg⟩
  rw [mo_zero, fe_zero]
  exact (MapKept.heap_alloc W2 _).1

theorem levelA {w W1 W3 : World} {g : Sg} {vn vw : Value} {k : Nat} (hg : SgAt w g vn vw) (hb : Below w.heap.size w W1) (hsz : W1.heap.size = w.heap.size + 1) (h : MapIs W3 9 W1.drew.heap.size (pmL (g.ns.take (min g.ns.length g.ws.length))) k) (hb3 : Below W1.heap.size W1 W3) :
    Sc w g (W3.heap.size + 1) (w.heap.size + 1) W3.heap.size vn vw 0 0 (fun _ => 0) ((W3.alloc (.map #[] 0)).alloc (.cells #[vn, vw, .map (some (w.heap.size + 1)), .int .i64 0, .map (some W3.heap.size), .int .i64 0, .int .i64 0] 70)) := by
  have h' : MapIs W3 9 (w.heap.size + 1) (pmL (g.ns.take (min g.ns.length g.ws.length))) k := by rw [← hsz]; exact h
  have hl := h'.lt
  have hbm := below_box W3 (.map #[] 0)
  refine Sc.made hg ((hb.trans (hb3.mono hb.size)).trans (hbm.mono (by have := hb3.size; omega))) (by simp) (h'.same (hbm.block _ hl)) (MapIs.made W3 3) (by omega) (by omega) (by omega)
theorem levelB {w W1 W3 : World} {g : Sg} {vn vw : Value} {k : Nat} (hg : SgAt w g vn vw) (hb : Below w.heap.size w W1) (hsz : W1.heap.size = w.heap.size + 1) (h : MapIs W3 9 (W1.alloc (.map #[] 0)).drew.heap.size (pmL (g.ns.take (min g.ns.length g.ws.length))) k) (hb3 : Below (W1.alloc (.map #[] 0)).drew.heap.size (W1.alloc (.map #[] 0)).drew W3) :
    Sc w g W3.heap.size (w.heap.size + 1 + 1) (w.heap.size + 1) vn vw 0 0 (fun _ => 0) (W3.alloc (.cells #[vn, vw, .map (some (w.heap.size + 1 + 1)), .int .i64 0, .map (some (w.heap.size + 1)), .int .i64 0, .int .i64 0] 70)) := by
  have e : (W1.alloc (.map #[] 0)).drew.heap.size = w.heap.size + 1 + 1 := by simp; omega
  rw [e] at h hb3
  have hl := h.lt
  have hm := MapIs.made W1 3
  rw [hsz] at hm
  have hm' : MapIs (W1.alloc (.map #[] 0)).drew 3 (w.heap.size + 1) (fun _ => none) 0 := hm.same rfl
  have hbm : Below W1.heap.size W1 (W1.alloc (.map #[] 0)).drew := ((Below.refl _ W1).alloc (Nat.le_refl _) _).drew
  exact Sc.made hg ((hb.trans (hbm.mono (by omega))).trans (hb3.mono (by omega))) rfl h (hm'.same (hb3.block _ (by omega))) (by omega) (by omega) (by omega)

set_option maxRecDepth 100000 in
set_option maxHeartbeats 4000000 in
theorem level_any (g : Sg) (vn vw : Value) (w : World) (hg : SgAt w g vn vw) :
    Calls Try.prog 32 #[gval vn vw] w fun e w' => ∃ p bp bc, e = .returned (.pointer (some ⟨p, 0, none⟩)) ∧ Sc w g p bp bc vn vw 0 0 (fun _ => 0) w' := by
  obtain ⟨an, cn, rfl, hn1, hn2⟩ := hg.ns.slice
  obtain ⟨aw, cw, rfl, hw1, hw2⟩ := hg.ws.slice
  obtain ⟨W1, hW1⟩ : ∃ W1, w.alloc (.cells #[.slice an g.ns.length cn, .slice aw g.ws.length cw] 31) = W1 := ⟨_, rfl⟩
  have hb : Below w.heap.size w W1 := by rw [← hW1]; exact below_box w _
  obtain ⟨t0, t1⟩ := box2_cells w (.slice an g.ns.length cn) (.slice aw g.ws.length cw) 31
  rw [hW1] at t0 t1
  have hsz : W1.heap.size = w.heap.size + 1 := by rw [← hW1]; simp
  have hmm := @run_makeMap Try.prog
  have hG1 : SgAt W1 g (.slice an g.ns.length cn) (.slice aw g.ws.length cw) := hg.keep hb (Nat.le_refl _)
  have t0d : W1.drew.cell? ⟨w.heap.size, 0, none⟩ = some (.slice an g.ns.length cn) := t0
  have t1d : W1.drew.cell? ⟨w.heap.size, 1, none⟩ = some (.slice aw g.ws.length cw) := t1
  have HB : Hid (Below w.heap.size w W1 ∧ SgAt w g (.slice an g.ns.length cn) (.slice aw g.ws.length cw)) := ⟨hb, hg⟩
  clear hb hg
  by_cases hle : g.ns.length ≤ g.ws.length
  · have hcP : ∀ X, Below W1.heap.size W1 X → Calls Try.prog 29 #[.slice an g.ns.length cn] X fun e w' => e = .returned (.map (some X.heap.size)) ∧ Hid (MapIs w' 9 X.heap.size (pmL (g.ns.take (min g.ns.length g.ws.length))) (dn (g.ns.take (min g.ns.length g.ws.length))) ∧ Below X.heap.size X w' ∧ Below W1.heap.size W1 w') ∧ w'.cell? ⟨w.heap.size, 0, none⟩ = some (.slice an g.ns.length cn) ∧ w'.cell? ⟨w.heap.size, 1, none⟩ = some (.slice aw g.ws.length cw) ∧ (w'.alloc (.map #[] 0)).cell? ⟨w.heap.size, 0, none⟩ = some (.slice an g.ns.length cn) ∧ (w'.alloc (.map #[] 0)).cell? ⟨w.heap.size, 1, none⟩ = some (.slice aw g.ws.length cw) := fun X hX => by
      have h := hG1.ns.keep hX (Nat.le_refl _)
      rw [Nat.min_eq_left hle, List.take_length]
      refine (places_any g.ns _ X h hG1.sz).mono fun e w' ⟨h1, h2, h3⟩ => ?_
      have h4 := hX.trans (h3.mono hX.size)
      have h5 : Below W1.heap.size W1 (w'.alloc (.map #[] 0)) := h4.alloc h4.size _
      exact ⟨h1, ⟨h2, h3, h4⟩, kc h4 (by omega) t0, kc h4 (by omega) t1, kc h5 (by omega) t0, kc h5 (by omega) t1⟩
    have bd : Below W1.heap.size W1 W1.drew := (Below.refl _ W1).drew
    have bda : Below W1.heap.size W1 (W1.alloc (.map #[] 0)).drew := ((Below.refl _ W1).alloc (Nat.le_refl _) _).drew
    have t0e : (W1.alloc (.map #[] 0)).drew.cell? ⟨w.heap.size, 0, none⟩ = some (.slice an g.ns.length cn) := kc bda (by omega) t0
    have t1e : (W1.alloc (.map #[] 0)).drew.cell? ⟨w.heap.size, 1, none⟩ = some (.slice aw g.ws.length cw) := kc bda (by omega) t1
    have hj1 : (0 : Int) ≤ (g.ns.length : Int) := by omega
    have hj2 : (g.ns.length : Int) ≤ (cn : Int) := by omega
    clear hG1
    go_enter Try.func32, Try.ntmps32
    go_wp2_with fail
    go_region_law (first
      | (go_simp; go_at_call 29; refine (hcP _ (by first | exact bd | exact bda)).mono ?_; rintro e W3 ⟨rfl, HM3, s0, s1, s2, s3⟩; go_simp))
    all_goals (
      go_wp2
      refine bodyPost_ret (results_tmp rfl _ _ _) rfl ?_
      first
        | exact ⟨_, _, _, rfl, levelA HB.out.2 HB.out.1 hsz HM3.out.1 HM3.out.2.2⟩
        | exact ⟨_, _, _, rfl, levelB HB.out.2 HB.out.1 hsz HM3.out.1 HM3.out.2.1⟩)
  · have hcP : ∀ X, Below W1.heap.size W1 X → Calls Try.prog 29 #[.slice an g.ws.length cn] X fun e w' => e = .returned (.map (some X.heap.size)) ∧ Hid (MapIs w' 9 X.heap.size (pmL (g.ns.take (min g.ns.length g.ws.length))) (dn (g.ns.take (min g.ns.length g.ws.length))) ∧ Below X.heap.size X w' ∧ Below W1.heap.size W1 w') ∧ w'.cell? ⟨w.heap.size, 0, none⟩ = some (.slice an g.ns.length cn) ∧ w'.cell? ⟨w.heap.size, 1, none⟩ = some (.slice aw g.ws.length cw) ∧ (w'.alloc (.map #[] 0)).cell? ⟨w.heap.size, 0, none⟩ = some (.slice an g.ns.length cn) ∧ (w'.alloc (.map #[] 0)).cell? ⟨w.heap.size, 1, none⟩ = some (.slice aw g.ws.length cw) := fun X hX => by
      have h := (hG1.ns.take g.ws.length (by omega)).keep hX (Nat.le_refl _)
      rw [Nat.min_eq_right (by omega)]
      refine (places_any (g.ns.take g.ws.length) _ X h (fun x hx => hG1.sz x (List.mem_of_mem_take hx))).mono fun e w' ⟨h1, h2, h3⟩ => ?_
      have h4 := hX.trans (h3.mono hX.size)
      have h5 : Below W1.heap.size W1 (w'.alloc (.map #[] 0)) := h4.alloc h4.size _
      exact ⟨h1, ⟨h2, h3, h4⟩, kc h4 (by omega) t0, kc h4 (by omega) t1, kc h5 (by omega) t0, kc h5 (by omega) t1⟩
    have bd : Below W1.heap.size W1 W1.drew := (Below.refl _ W1).drew
    have bda : Below W1.heap.size W1 (W1.alloc (.map #[] 0)).drew := ((Below.refl _ W1).alloc (Nat.le_refl _) _).drew
    have t0e : (W1.alloc (.map #[] 0)).drew.cell? ⟨w.heap.size, 0, none⟩ = some (.slice an g.ns.length cn) := kc bda (by omega) t0
    have t1e : (W1.alloc (.map #[] 0)).drew.cell? ⟨w.heap.size, 1, none⟩ = some (.slice aw g.ws.length cw) := kc bda (by omega) t1
    have hj1 : (0 : Int) ≤ (g.ws.length : Int) := by omega
    have hj2 : (g.ws.length : Int) ≤ (cn : Int) := by omega
    clear hG1
    go_enter Try.func32, Try.ntmps32
    go_wp2_with fail
    go_region_law (first
      | (go_simp; go_at_call 29; refine (hcP _ (by first | exact bd | exact bda)).mono ?_; rintro e W3 ⟨rfl, HM3, s0, s1, s2, s3⟩; go_simp))
    all_goals (
      go_wp2
      refine bodyPost_ret (results_tmp rfl _ _ _) rfl ?_
      first
        | exact ⟨_, _, _, rfl, levelA HB.out.2 HB.out.1 hsz HM3.out.1 HM3.out.2.2⟩
        | exact ⟨_, _, _, rfl, levelB HB.out.2 HB.out.1 hsz HM3.out.1 HM3.out.2.1⟩)

end Go.Proofs.Ytcnodgjalkcgiaa
