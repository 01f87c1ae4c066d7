/-
  Bytes: which are small, capital, a word's, printable, escaped: both sides' tests.
-/
import Derived.Test.YtkfbjkopmgeklaaRows
import Derived.WalkKit
import Derived.WalkSpells
import Derived.WalkLawsBesides
namespace Go.Proofs.Ytkfbjkopmgeklaa
open Go.RowKit

theorem ret_bool {a b : Bool} (h : a = b) : Ending.returned (.bool a) = .returned (.bool b) := by rw [h]
theorem ret_i64 {a b : Int} (h : a = b) : Ending.returned (.int .i64 a) = .returned (.int .i64 b) := by rw [h]

def smB (c : Int) : Bool := decide (97 ≤ c) && decide (c ≤ 122)
def caB (c : Int) : Bool := decide (65 ≤ c) && decide (c ≤ 90)
def wdB (c : Int) : Bool := smB c || caB c || (decide (48 ≤ c) && decide (c ≤ 57)) || c == 95
def prB (c : Int) : Bool := decide (32 ≤ c) && decide (c ≤ 126)
def esB (c : Int) : Bool := c == 39 || c == 92

set_option maxHeartbeats 400000 in
theorem small_any (c : Int) (w : World) : Calls Try.prog 21 #[.int .u8 c] w fun e w' => e = .returned (.bool (smB c)) ∧ w' = w := by
  go_enter Try.func21, Try.ntmps21
  go_wp2
  all_goals go_ret
  all_goals refine ⟨ret_bool ?_, rfl⟩
  all_goals first | (simp_all [smB]; done) | (simp_all [smB]; omega) | (simp_all [smB]; grind)

set_option maxHeartbeats 400000 in
theorem capital_any (c : Int) (w : World) : Calls Try.prog 28 #[.int .u8 c] w fun e w' => e = .returned (.bool (caB c)) ∧ w' = w := by
  go_enter Try.func28, Try.ntmps28
  go_wp2
  all_goals go_ret
  all_goals refine ⟨ret_bool ?_, rfl⟩
  all_goals first | (simp_all [caB]; done) | (simp_all [caB]; omega) | (simp_all [caB]; grind)

set_option maxHeartbeats 400000 in
theorem lower_any (c : Int) (w : World) : Calls Try.prog 23 #[.int .u8 c] w fun e w' => e = .returned (.bool (smB c)) ∧ w' = w := by
  go_enter Try.func23, Try.ntmps23
  go_wp2
  all_goals go_ret
  all_goals refine ⟨ret_bool ?_, rfl⟩
  all_goals first | (simp_all [smB]; done) | (simp_all [smB]; omega) | (simp_all [smB]; grind)

set_option maxHeartbeats 400000 in
theorem upper_any (c : Int) (w : World) : Calls Try.prog 27 #[.int .u8 c] w fun e w' => e = .returned (.bool (caB c)) ∧ w' = w := by
  go_enter Try.func27, Try.ntmps27
  go_wp2
  all_goals go_ret
  all_goals refine ⟨ret_bool ?_, rfl⟩
  all_goals first | (simp_all [caB]; done) | (simp_all [caB]; omega) | (simp_all [caB]; grind)

set_option maxHeartbeats 400000 in
theorem printable_any (c : Int) (w : World) : Calls Try.prog 26 #[.int .u8 c] w fun e w' => e = .returned (.bool (prB c)) ∧ w' = w := by
  go_enter Try.func26, Try.ntmps26
  go_wp2
  all_goals go_ret
  all_goals refine ⟨ret_bool ?_, rfl⟩
  all_goals first | (simp_all [prB]; done) | (simp_all [prB]; omega) | (simp_all [prB]; grind)

set_option maxHeartbeats 400000 in
theorem escaped_any (c : Int) (w : World) : Calls Try.prog 30 #[.int .u8 c] w fun e w' => e = .returned (.bool (esB c)) ∧ w' = w := by
  go_enter Try.func30, Try.ntmps30
  go_wp2
  all_goals go_ret
  all_goals refine ⟨ret_bool ?_, rfl⟩
  all_goals first | (simp_all [esB]; done) | (simp_all [esB]; omega) | (simp_all [esB]; grind)

set_option maxHeartbeats 1000000 in
theorem word_any (c : Int) (w : World) : Calls Try.prog 37 #[.int .u8 c] w fun e w' => e = .returned (.bool (wdB c)) ∧ w' = w := by
  go_enter Try.func37, Try.ntmps37
  go_wp2_with (first | (go_at_call 21; refine (small_any _ _).mono ?_; rintro e w' ⟨rfl, rfl⟩) | (go_at_call 28; refine (capital_any _ _).mono ?_; rintro e w' ⟨rfl, rfl⟩))
  all_goals go_ret
  all_goals refine ⟨ret_bool ?_, rfl⟩
  all_goals first | (simp_all [wdB]; done) | (simp_all [wdB]; omega) | (simp_all [wdB]; grind)

set_option maxHeartbeats 1000000 in
theorem inner_any (c : Int) (w : World) : Calls Try.prog 38 #[.int .u8 c] w fun e w' => e = .returned (.bool (wdB c)) ∧ w' = w := by
  go_enter Try.func38, Try.ntmps38
  go_wp2_with (first | (go_at_call 23; refine (lower_any _ _).mono ?_; rintro e w' ⟨rfl, rfl⟩) | (go_at_call 27; refine (upper_any _ _).mono ?_; rintro e w' ⟨rfl, rfl⟩))
  all_goals go_ret
  all_goals refine ⟨ret_bool ?_, rfl⟩
  all_goals first | (simp_all [wdB]; done) | (simp_all [wdB]; omega) | (simp_all [wdB]; grind)

end Go.Proofs.Ytkfbjkopmgeklaa
