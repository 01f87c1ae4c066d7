/-
  The scales: told, heads; what they come to.
-/
import Derived.Test.YtcnodgjalkcgiaaKK
namespace Go.Proofs.Ytcnodgjalkcgiaa
open Go.RowKit Go.Maps

set_option maxHeartbeats 400000 in
theorem nan_any (x : Int) (w : World) : Calls Try.prog 64 #[.int .i64 x] w fun e w' => e = .returned (.bool false) ∧ w' = w := by
  go_enter Try.func64, Try.ntmps64
  go_wp2
  all_goals go_ret
  all_goals refine ⟨ret_bool ?_, rfl⟩
  all_goals simp

set_option maxHeartbeats 1000000 in
theorem cmpInt_any (x y : Int) (w : World) :
    Calls Try.prog 62 #[.int .i64 x, .int .i64 y] w fun e w' => e = .returned (.int .i64 (cI x y)) ∧ w' = w := by
  go_enter Try.func62, Try.ntmps62
  go_wp2_with (go_at_call 64; refine (nan_any _ _).mono ?_; rintro e w' ⟨rfl, rfl⟩)
  all_goals (go_ret; refine ⟨?_, rfl⟩; unfold cI Lib.compareInt; (repeat' split) <;> first | rfl | (exfalso; omega))

/-- What told makes of a tie, a weight, and what stands oftener at the left, at the right. -/
def ordV (tie wt : Int) : Int := if wt = 0 then tie else cI wt 0
def toldV (tie wt m f : Int) : Int := if (ordV tie wt = 1 ∧ 0 < f) ∨ (ordV tie wt = -1 ∧ 0 < m) then 2 else ordV tie wt

set_option maxRecDepth 100000 in
set_option maxHeartbeats 1000000 in
theorem told_any (p : Nat) (vn vw : Value) (bp : Nat) (wt : Int) (bc : Nat) (m f tie : Int) (W : World) (hbox : SBox W p vn vw bp wt bc m f) :
    Calls Try.prog 50 #[.pointer (some ⟨p, 0, none⟩), .int .i64 tie] W fun e W' => e = .returned (.int .i64 (toldV tie wt m f)) ∧ W' = W := by
  obtain ⟨⟨c0, c1, c2, c3, c4, c5, c6⟩, _⟩ := sbox_facts hbox
  have HE : Hid (∀ o, ordV tie wt = o → toldV tie wt m f = if (o = 1 ∧ 0 < f) ∨ (o = -1 ∧ 0 < m) then 2 else o) := fun o h => by unfold toldV; rw [h]
  have key : ∀ o, ordV tie wt = o → Hid ((o = 1 → 0 < f → toldV tie wt m f = 2) ∧ (o = 1 → ¬ 0 < f → toldV tie wt m f = 1) ∧ (o = -1 → 0 < m → toldV tie wt m f = 2) ∧ (o = -1 → ¬ 0 < m → toldV tie wt m f = -1) ∧ (o ≠ 1 → o ≠ -1 → toldV tie wt m f = o)) := fun o h => by
    have := HE.out o h
    refine ⟨fun h1 h2 => ?_, fun h1 h2 => ?_, fun h1 h2 => ?_, fun h1 h2 => ?_, fun h1 h2 => ?_⟩
    · rw [this, if_pos (.inl ⟨h1, h2⟩)]
    · rw [this, if_neg (by omega), h1]
    · rw [this, if_pos (.inr ⟨h1, h2⟩)]
    · rw [this, if_neg (by omega), h1]
    · rw [this, if_neg (by omega)]
  clear HE hbox
  by_cases hw : wt = 0
  · have HK := key tie (by unfold ordV; rw [if_pos hw])
    have e0 : (wt != 0) = false := by rw [hw]; rfl
    have HW : Hid (wt = 0) := hw
    clear hw key
    by_cases h1 : tie = 1
    · subst h1
      by_cases h2 : 0 < f
      · have e2 : decide (0 < f) = true := decide_eq_true h2
        have HV : Hid (toldV _ wt m f = 2) := HK.out.1 rfl h2
        clear HK
        go_enter Try.func50, Try.ntmps50
        go_wp2
        go_ret
        exact ⟨ret_i64 HV.out.symm, rfl⟩
      · have e2 : decide (0 < f) = false := decide_eq_false h2
        have HV : Hid (toldV _ wt m f = 1) := HK.out.2.1 rfl h2
        clear HK
        go_enter Try.func50, Try.ntmps50
        go_wp2
        go_ret
        exact ⟨ret_i64 HV.out.symm, rfl⟩
    have e1 : (tie == 1) = false := by rw [beq_eq_false_iff_ne]; exact h1
    by_cases h3 : tie = -1
    · subst h3
      by_cases h2 : 0 < m
      · have e2 : decide (0 < m) = true := decide_eq_true h2
        have HV : Hid (toldV _ wt m f = 2) := HK.out.2.2.1 rfl h2
        clear HK
        go_enter Try.func50, Try.ntmps50
        go_wp2
        go_ret
        exact ⟨ret_i64 HV.out.symm, rfl⟩
      · have e2 : decide (0 < m) = false := decide_eq_false h2
        have HV : Hid (toldV _ wt m f = -1) := HK.out.2.2.2.1 rfl h2
        clear HK
        go_enter Try.func50, Try.ntmps50
        go_wp2
        go_ret
        exact ⟨ret_i64 HV.out.symm, rfl⟩
    have e3 : (tie == -1) = false := by rw [beq_eq_false_iff_ne]; exact h3
    have HV : Hid (toldV tie wt m f = tie) := HK.out.2.2.2.2 h1 h3
    clear h1 h3
    go_enter Try.func50, Try.ntmps50
    go_wp2
    go_ret
    exact ⟨ret_i64 HV.out.symm, rfl⟩
  · have e0 : (wt != 0) = true := by rw [bne_iff_ne]; exact hw
    by_cases hp : 0 < wt
    · have hs : cI wt 0 = 1 := by unfold cI Lib.compareInt; rw [if_neg (by omega), if_pos (by omega)]
      have HK := key 1 (by unfold ordV; rw [if_neg hw, hs])
      have hcall := cmpInt_any wt 0 W
      rw [hs] at hcall
      clear hs key hw
      by_cases h2 : 0 < f
      · have e2 : decide (0 < f) = true := decide_eq_true h2
        have HV : Hid (toldV _ wt m f = 2) := HK.out.1 rfl h2
        clear HK
        go_enter Try.func50, Try.ntmps50
        go_wp2_with (first | (go_at_call 62; refine hcall.mono ?_; rintro e w3 ⟨rfl, rfl⟩))
        go_ret
        exact ⟨ret_i64 HV.out.symm, rfl⟩
      · have e2 : decide (0 < f) = false := decide_eq_false h2
        have HV : Hid (toldV _ wt m f = 1) := HK.out.2.1 rfl h2
        clear HK
        go_enter Try.func50, Try.ntmps50
        go_wp2_with (first | (go_at_call 62; refine hcall.mono ?_; rintro e w3 ⟨rfl, rfl⟩))
        go_ret
        exact ⟨ret_i64 HV.out.symm, rfl⟩
    · have hs : cI wt 0 = -1 := by unfold cI Lib.compareInt; rw [if_pos (by omega)]
      have HK := key (-1) (by unfold ordV; rw [if_neg hw, hs])
      have hcall := cmpInt_any wt 0 W
      rw [hs] at hcall
      clear hs key hw
      by_cases h2 : 0 < m
      · have e2 : decide (0 < m) = true := decide_eq_true h2
        have HV : Hid (toldV _ wt m f = 2) := HK.out.2.2.1 rfl h2
        clear HK
        go_enter Try.func50, Try.ntmps50
        go_wp2_with (first | (go_at_call 62; refine hcall.mono ?_; rintro e w3 ⟨rfl, rfl⟩))
        go_ret
        exact ⟨ret_i64 HV.out.symm, rfl⟩
      · have e2 : decide (0 < m) = false := decide_eq_false h2
        have HV : Hid (toldV _ wt m f = -1) := HK.out.2.2.2.1 rfl h2
        clear HK
        go_enter Try.func50, Try.ntmps50
        go_wp2_with (first | (go_at_call 62; refine hcall.mono ?_; rintro e w3 ⟨rfl, rfl⟩))
        go_ret
        exact ⟨ret_i64 HV.out.symm, rfl⟩

end Go.Proofs.Ytcnodgjalkcgiaa
