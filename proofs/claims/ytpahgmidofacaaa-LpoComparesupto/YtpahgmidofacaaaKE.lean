/-
  Which signatures are right: the program's Right, the document's.
-/
import Derived.Test.YtpahgmidofacaaaKD
namespace Go.Proofs.Ytpahgmidofacaaa
open Go.RowKit Go.Maps

/-- A signature that is right. -/
def Sg.Ok (g : Sg) : Prop := g.ns.length ≤ 200 ∧ g.ws.length ≤ g.ns.length ∧ (∀ x ∈ g.ns, badN x = false) ∧ (∀ k ∈ g.ws, badW k = false) ∧ g.ns.Nodup
open Classical in
noncomputable def Sg.ok (g : Sg) : Bool := decide g.Ok
theorem ok_iff {g : Sg} : g.ok = true ↔ g.Ok := by simp [Sg.ok]
theorem ok_no {g : Sg} : g.ok = false ↔ ¬ g.Ok := by simp [Sg.ok]
noncomputable def Sg.okW (g : Sg) : Int := if g.ok then 0 else 1
theorem okW_no {g : Sg} (h : ¬ g.Ok) : g.okW = 1 := by unfold Sg.okW; rw [ok_no.2 h]; rfl
theorem okW_yes {g : Sg} (h : g.Ok) : g.okW = 0 := by unfold Sg.okW; rw [ok_iff.2 h]; rfl

set_option maxRecDepth 100000 in
set_option maxHeartbeats 2000000 in
theorem kright_any (g : Sg) (vn vw : Value) (w : World) (hg : SgAt w g vn vw) :
    Calls Try.prog 21 #[gval vn vw] w fun e w' => e = .returned (.int .i64 g.okW) ∧ Below w.heap.size w w' := by
  obtain ⟨an, cn, rfl, hn1, hn2⟩ := hg.ns.slice
  obtain ⟨aw, cw, rfl, hw1, hw2⟩ := hg.ws.slice
  obtain ⟨W1, hW1⟩ : ∃ W1, w.alloc (.cells #[.slice an g.ns.length cn, .slice aw g.ws.length cw] 32) = W1 := ⟨_, rfl⟩
  have hb : Below w.heap.size w W1 := by rw [← hW1]; exact below_box w _
  obtain ⟨t0, t1⟩ := box2_cells w (.slice an g.ns.length cn) (.slice aw g.ws.length cw) 32
  rw [hW1] at t0 t1
  have hsz : w.heap.size < W1.heap.size := by rw [← hW1]; simp
  have HB : Hid (Below w.heap.size w W1 ∧ SgAt W1 g (.slice an g.ns.length cn) (.slice aw g.ws.length cw)) := ⟨hb, hg.keep hb (Nat.le_refl _)⟩
  have hcN := containsN_any g.ns _ W1 HB.out.2.ns
  have hcW := containsW_any g.ws _ W1 HB.out.2.ws
  have hcP := places_any g.ns _ W1.drew (HB.out.2.ns.keep (Below.refl _ W1).drew (Nat.le_refl _)) HB.out.2.sz
  clear hg hb
  by_cases h1 : 200 < g.ns.length
  · have HP : Hid (g.okW = 1) := okW_no fun h => by have := h.1; omega
    have e1 : decide ((200 : Int) < (g.ns.length : Int)) = true := decide_eq_true (by omega)
    clear hcN hcW hcP
    go_enter Try.func21, Try.ntmps21
    go_wp2
    go_ret
    exact ⟨ret_i64 HP.out.symm, HB.out.1⟩
  have e1 : decide ((200 : Int) < (g.ns.length : Int)) = false := decide_eq_false (by omega)
  by_cases h2 : g.ns.length < g.ws.length
  · have HP : Hid (g.okW = 1) := okW_no fun h => by have := h.2.1; omega
    have e2 : decide ((g.ns.length : Int) < (g.ws.length : Int)) = true := decide_eq_true (by omega)
    clear hcN hcW hcP
    go_enter Try.func21, Try.ntmps21
    try rw [hW1]
    go_wp2
    go_ret
    exact ⟨ret_i64 HP.out.symm, HB.out.1⟩
  have e2 : decide ((g.ns.length : Int) < (g.ws.length : Int)) = false := decide_eq_false (by omega)
  cases h3 : g.ns.any badN
  case true =>
    rw [h3] at hcN
    have HP : Hid (g.okW = 1) := okW_no fun h => by
      rw [List.any_eq_true] at h3
      obtain ⟨x, hx, hbx⟩ := h3
      rw [h.2.2.1 x hx] at hbx
      cases hbx
    clear hcW hcP h3
    go_enter Try.func21, Try.ntmps21
    try rw [hW1]
    go_wp2_with (first | (go_at_call 33; refine hcN.mono ?_; rintro e w3 ⟨rfl, hw3⟩; have hw4 := hw3.symm; clear hw3; subst hw4))
    go_ret
    exact ⟨ret_i64 HP.out.symm, HB.out.1⟩
  rw [h3] at hcN
  cases h4 : g.ws.any badW
  case true =>
    rw [h4] at hcW
    have HP : Hid (g.okW = 1) := okW_no fun h => by
      rw [List.any_eq_true] at h4
      obtain ⟨x, hx, hbx⟩ := h4
      rw [h.2.2.2.1 x hx] at hbx
      cases hbx
    clear hcP h3 h4
    go_enter Try.func21, Try.ntmps21
    try rw [hW1]
    go_wp2_with (first | (go_at_call 33; refine hcN.mono ?_; rintro e w3 ⟨rfl, hw3⟩; have hw4 := hw3.symm; clear hw3; subst hw4) | (go_at_call 35; refine hcW.mono ?_; rintro e w3 ⟨rfl, hw3⟩; have hw4 := hw3.symm; clear hw3; subst hw4))
    go_ret
    exact ⟨ret_i64 HP.out.symm, HB.out.1⟩
  rw [h4] at hcW
  have hok : dn g.ns = g.ns.length → g.Ok := fun h => ⟨by omega, by omega, fun x hx => by
      have := List.any_eq_false.1 h3 x hx
      simpa using this, fun x hx => by
      have := List.any_eq_false.1 h4 x hx
      simpa using this, (dn_all g.ns).1 h⟩
  have hdl := dn_le g.ns
  have HE : Hid (g.okW = if dn g.ns < g.ns.length then 1 else 0) := by
    show _ = _
    by_cases h : dn g.ns < g.ns.length
    · rw [if_pos h]
      exact okW_no fun k => by have := (dn_all g.ns).2 k.2.2.2.2; omega
    · rw [if_neg h]
      exact okW_yes (hok (by omega))
  clear hok h3 h4
  have t0d : W1.drew.cell? ⟨w.heap.size, 0, none⟩ = some (.slice an g.ns.length cn) := t0
  generalize g.ns.length = ln at *
  generalize dn g.ns = ld at *
  go_enter Try.func21, Try.ntmps21
  try rw [hW1]
  go_wp2_with (first | (go_at_call 33; refine hcN.mono ?_; rintro e w3 ⟨rfl, hw3⟩; have hw4 := hw3.symm; clear hw3; subst hw4) | (go_at_call 35; refine hcW.mono ?_; rintro e w3 ⟨rfl, hw3⟩; have hw4 := hw3.symm; clear hw3; subst hw4))
  clear hcN hcW
  go_region_with (first
    | (go_at_call 37; refine hcP.mono ?_; rintro e W3 ⟨rfl, hM3, hb3⟩; have K3 : W3.cell? ⟨w.heap.size, 0, none⟩ = some (.slice an ln cn) := kc hb3 hsz t0d; have hln3 : (Builtin.len_ #[78] 3 #[.map (some W1.heap.size)]).run Try.prog W3 = .ok (.int .i64 ld) W3 := hM3.len Try.underlying78 3; have HB3 : Hid (Below W1.heap.size W1.drew W3) := hb3; clear hM3 hb3))
  all_goals
    by_cases h5 : ld < ln
    · have e5 : decide ((ld : Int) < (ln : Int)) = true := decide_eq_true (by omega)
      go_wp2
      all_goals go_ret
      all_goals exact ⟨ret_i64 (by rw [HE.out, if_pos h5]), HB.out.1.trans (((Below.refl _ W1).drew.trans HB3.out).mono (by omega))⟩
    · have e5 : decide ((ld : Int) < (ln : Int)) = false := decide_eq_false (by omega)
      go_wp2
      all_goals go_ret
      all_goals exact ⟨ret_i64 (by rw [HE.out, if_neg h5]), HB.out.1.trans (((Below.refl _ W1).drew.trans HB3.out).mono (by omega))⟩

end Go.Proofs.Ytpahgmidofacaaa
