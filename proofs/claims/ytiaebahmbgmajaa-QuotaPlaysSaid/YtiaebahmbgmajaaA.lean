/-
  Numbers that never wrap: the walks of Add, Sub, Mul, and of the document's.
-/
import Derived.Test.YtiaebahmbgmajaaRows
import Derived.WalkKit
import Derived.WalkSpells
import Derived.WalkLawsBesides
import Derived.ProofKit
import Derived.OpenShut
namespace Go.Proofs.Ytiaebahmbgmajaa
open Go.RowKit

theorem own : ownKnob Try.prog.godebug = none := by kernel_rfl

theorem ret_bool {a b : Bool} (h : a = b) : Ending.returned (.bool a) = .returned (.bool b) := by rw [h]
theorem ret_i64 {a b : Int} (h : a = b) : Ending.returned (.int .i64 a) = .returned (.int .i64 b) := by rw [h]

/-- A number of the machine's. -/
def Fit (a : Int) : Prop := -9223372036854775808 ≤ a ∧ a ≤ 9223372036854775807

def lo (a : Int) : Int := if a < 0 then 0 else a
def addS (a b : Int) : Int := if 9223372036854775807 < lo a + lo b then 9223372036854775807 else lo a + lo b
def subS (a b : Int) : Int := if lo a < lo b then 0 else lo a - lo b
def mulS (a b : Int) : Int := if 9223372036854775807 < lo a * lo b then 9223372036854775807 else lo a * lo b

theorem lo_nn (a : Int) : 0 ≤ lo a := by unfold lo; split <;> omega
theorem lo_le {a : Int} (h : Fit a) : lo a ≤ 9223372036854775807 := by unfold Fit at h; unfold lo; split <;> omega

set_option maxHeartbeats 400000 in
theorem low_any (a : Int) (w : World) : Calls Try.prog 29 #[.int .i64 a] w fun e w' => e = .returned (.int .i64 (lo a)) ∧ w' = w := by
  go_enter Try.func29, Try.ntmps29
  go_wp2
  all_goals go_ret
  all_goals refine ⟨ret_i64 ?_, rfl⟩
  all_goals unfold lo
  all_goals split <;> omega

set_option maxHeartbeats 1000000 in
theorem add_any (a b : Int) (w : World) (ha : Fit a) (hb : Fit b) : Calls Try.prog 8 #[.int .i64 a, .int .i64 b] w fun e w' => e = .returned (.int .i64 (addS a b)) ∧ w' = w := by
  go_enter Try.func8, Try.ntmps8
  go_wp2
  all_goals go_ret
  all_goals refine ⟨ret_i64 ?_, rfl⟩
  all_goals simp only [addS, lo, wrap64, Fit] at *
  all_goals (repeat' split at *) <;> omega

set_option maxHeartbeats 1000000 in
theorem radd_any (a b : Int) (w : World) (ha : Fit a) (hb : Fit b) : Calls Try.prog 9 #[.int .i64 a, .int .i64 b] w fun e w' => e = .returned (.int .i64 (addS a b)) ∧ w' = w := by
  have h1 := lo_nn a
  have h2 := lo_nn b
  have h3 := lo_le ha
  have h4 := lo_le hb
  go_enter Try.func9, Try.ntmps9
  go_wp2_with (go_at_call 29; refine (low_any _ _).mono ?_; rintro e w' ⟨rfl, rfl⟩)
  all_goals go_ret
  all_goals refine ⟨ret_i64 ?_, rfl⟩
  all_goals simp only [addS] at *
  all_goals (repeat' split at *) <;> omega

set_option maxHeartbeats 1000000 in
theorem sub_any (a b : Int) (w : World) (ha : Fit a) (hb : Fit b) : Calls Try.prog 10 #[.int .i64 a, .int .i64 b] w fun e w' => e = .returned (.int .i64 (subS a b)) ∧ w' = w := by
  go_enter Try.func10, Try.ntmps10
  go_wp2
  all_goals go_ret
  all_goals refine ⟨ret_i64 ?_, rfl⟩
  all_goals simp only [subS, lo, wrap64, Fit] at *
  all_goals (repeat' split at *) <;> omega

set_option maxHeartbeats 1000000 in
theorem rsub_any (a b : Int) (w : World) (ha : Fit a) (hb : Fit b) : Calls Try.prog 11 #[.int .i64 a, .int .i64 b] w fun e w' => e = .returned (.int .i64 (subS a b)) ∧ w' = w := by
  have h1 := lo_nn a
  have h2 := lo_nn b
  have h3 := lo_le ha
  have h4 := lo_le hb
  go_enter Try.func11, Try.ntmps11
  go_wp2_with (go_at_call 29; refine (low_any _ _).mono ?_; rintro e w' ⟨rfl, rfl⟩)
  all_goals go_ret
  all_goals refine ⟨ret_i64 ?_, rfl⟩
  all_goals simp only [subS] at *
  all_goals (repeat' split at *) <;> omega

theorem mulS_zl {a b : Int} (h : lo a = 0) : mulS a b = 0 := by simp [mulS, h]
theorem mulS_zr {a b : Int} (h : lo b = 0) : mulS a b = 0 := by simp [mulS, h]
theorem mulS_over {a b : Int} (hb : 0 < lo b) (h : 9223372036854775807 / lo b < lo a) : mulS a b = 9223372036854775807 := by
  unfold mulS
  rw [if_pos ((Int.ediv_lt_iff_lt_mul hb).1 h)]
theorem mulS_in {a b : Int} (hb : 0 < lo b) (h : lo a ≤ 9223372036854775807 / lo b) : mulS a b = lo a * lo b ∧ lo a * lo b ≤ 9223372036854775807 := by
  have := (Int.le_ediv_iff_mul_le hb).1 h
  unfold mulS
  rw [if_neg (by omega)]
  exact ⟨rfl, this⟩
theorem lo_neg {a : Int} (h : a < 0) : lo a = 0 := by simp [lo, h]
theorem lo_pos {a : Int} (h : 0 ≤ a) : lo a = a := by unfold lo; rw [if_neg (by omega)]

set_option maxHeartbeats 1000000 in
theorem mul_any (a b : Int) (w : World) : Calls Try.prog 12 #[.int .i64 a, .int .i64 b] w fun e w' => e = .returned (.int .i64 (mulS a b)) ∧ w' = w := by
  go_enter Try.func12, Try.ntmps12
  go_wp2
  all_goals go_ret
  all_goals refine ⟨ret_i64 ?_, rfl⟩
  · exact (mulS_zr (lo_neg (by assumption))).symm
  · exact (mulS_zr (lo_neg (by assumption))).symm
  · rename_i h1 h2 h3; have h4 := h
    rw [if_pos h4] at h2
    have : 0 ≤ (9223372036854775807 : Int) / b := Int.ediv_nonneg (by decide) h3
    omega
  · rename_i h1 h2 h3; have h4 := h
    rw [if_neg (by omega)] at h2
    refine (mulS_over ?_ ?_).symm <;> rw [lo_pos h3]
    · exact h1
    · rw [lo_pos h4]; exact h2
  · rename_i h1 h2 h3; have h4 := h
    rw [mulS_zl (lo_neg h4)]; exact IntWalk.wrap64_in 0 (by decide)
  · rename_i h1 h2 h3; have h4 := h
    rw [if_neg (by omega)] at h2
    have := mulS_in (a := a) (b := b) (by rw [lo_pos h3]; exact h1) (by rw [lo_pos h3, lo_pos h4]; exact h2)
    rw [this.1]
    rw [lo_pos h3, lo_pos h4] at *
    have h5 := Int.mul_nonneg h4 h3
    exact IntWalk.wrap64_in _ (by omega)
  · rename_i h1 h2
    rw [mulS_zl (lo_neg h)]; exact IntWalk.wrap64_in 0 (by decide)
  · rename_i h1 h2
    obtain rfl : b = 0 := by omega
    rw [mulS_zr (by decide), Int.mul_zero]; exact IntWalk.wrap64_in 0 (by decide)

set_option maxHeartbeats 1000000 in
theorem rmul_any (a b : Int) (w : World) : Calls Try.prog 13 #[.int .i64 a, .int .i64 b] w fun e w' => e = .returned (.int .i64 (mulS a b)) ∧ w' = w := by
  have h1 := lo_nn a
  have h2 := lo_nn b
  by_cases ha0 : lo a = 0
  · have hz := mulS_zl (b := b) ha0
    have hx : (lo a == 0) = true := by simp [ha0]
    go_enter Try.func13, Try.ntmps13
    go_wp2_with (go_at_call 29; refine (low_any _ _).mono ?_; rintro e w' ⟨rfl, rfl⟩)
    go_ret
    exact ⟨ret_i64 hz.symm, rfl⟩
  · have hx : (lo a == 0) = false := by simp [ha0]
    by_cases hb0 : lo b = 0
    · have hz := mulS_zr (a := a) hb0
      have hy : (lo b == 0) = true := by simp [hb0]
      go_enter Try.func13, Try.ntmps13
      go_wp2_with (go_at_call 29; refine (low_any _ _).mono ?_; rintro e w' ⟨rfl, rfl⟩)
      go_ret
      exact ⟨ret_i64 hz.symm, rfl⟩
    · have hy : (lo b == 0) = false := by simp [hb0]
      have hq0 : Int.tdiv 9223372036854775807 (lo b) = 9223372036854775807 / lo b := Int.tdiv_eq_ediv_of_nonneg (by decide)
      have hq1 : 0 ≤ 9223372036854775807 / lo b := Int.ediv_nonneg (by decide) h2
      have hq2 : 9223372036854775807 / lo b ≤ 9223372036854775807 := Int.ediv_le_self _ (by decide)
      have hq : wrap64 (Int.tdiv 9223372036854775807 (lo b)) = 9223372036854775807 / lo b := by rw [hq0]; exact IntWalk.wrap64_in _ (by omega)
      by_cases hc : 9223372036854775807 / lo b < lo a
      · have hz := mulS_over (a := a) (by omega) hc
        have hc' : wrap64 (Int.tdiv 9223372036854775807 (lo b)) < lo a := by rw [hq]; exact hc
        clear hq hq0 hq1 hq2
        go_enter Try.func13, Try.ntmps13
        go_wp2_with (go_at_call 29; refine (low_any _ _).mono ?_; rintro e w' ⟨rfl, rfl⟩)
        go_ret
        exact ⟨ret_i64 hz.symm, rfl⟩
      · have hz := mulS_in (a := a) (b := b) (by omega) (by omega)
        have hw : wrap64 (lo a * lo b) = lo a * lo b := IntWalk.wrap64_in _ (by have := Int.mul_nonneg h1 h2; omega)
        have hc' : ¬ wrap64 (Int.tdiv 9223372036854775807 (lo b)) < lo a := by rw [hq]; exact hc
        clear hq hq0 hq1 hq2
        go_enter Try.func13, Try.ntmps13
        go_wp2_with (go_at_call 29; refine (low_any _ _).mono ?_; rintro e w' ⟨rfl, rfl⟩)
        go_ret
        exact ⟨ret_i64 (hw.trans hz.1.symm), rfl⟩

end Go.Proofs.Ytiaebahmbgmajaa
