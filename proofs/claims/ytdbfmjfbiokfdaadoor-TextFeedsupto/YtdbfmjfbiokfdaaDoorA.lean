/-
  The walks of text.Valid and of what it calls, and of the document's Valid.
-/
import Derived.Test.YtdbfmjfbiokfdaaDoorRows
import Derived.Test.YtdbfmjfbiokfdaaDoorM
import Derived.WalkKit
import Derived.WalkSpells
import Derived.WalkLawsBesides
namespace Go.Proofs.YtdbfmjfbiokfdaaDoor
open Go.RowKit

theorem ret_bool {a b : Bool} (h : a = b) : Ending.returned (.bool a) = .returned (.bool b) := by rw [h]
theorem ret_i64 {a b : Int} (h : a = b) : Ending.returned (.int .i64 a) = .returned (.int .i64 b) := by rw [h]
theorem ret_shape {a a' b b' c c' : Int} (h : a = a') (h2 : b = b') (h3 : c = c') : Ending.returned (.tuple #[.int .i64 a, .int .u8 b, .int .u8 c]) = .returned (.tuple #[.int .i64 a', .int .u8 b', .int .u8 c']) := by rw [h, h2, h3]

set_option maxHeartbeats 400000 in
theorem within_any (b lo hi : Int) (w : World) :
    Calls Tryd.prog 29 #[.int .u8 b, .int .u8 lo, .int .u8 hi] w fun e w' => e = .returned (.bool (wthn b lo hi)) ∧ w' = w := by
  go_enter Tryd.func29, Tryd.ntmps29
  go_wp2
  all_goals go_ret
  all_goals refine ⟨ret_bool ?_, rfl⟩
  · have h : lo ≤ b := by assumption
    simp [wthn, h]
  · have h : b < lo := by assumption
    simp [wthn]; omega

set_option maxHeartbeats 1000000 in
theorem charShape_any (c : Int) (w : World) (h0 : 0 ≤ c) (h1 : c ≤ 255) :
    Calls Tryd.prog 28 #[.int .u8 c] w fun e w' => e = .returned (.tuple #[.int .i64 (csz c), .int .u8 (clo c), .int .u8 (chi c)]) ∧ w' = w := by
  go_enter Tryd.func28, Tryd.ntmps28
  go_wp2_with (go_at_call 29; refine (within_any _ _ _ _).mono ?_; rintro e w' ⟨rfl, rfl⟩)
  all_goals go_ret3
  all_goals refine ⟨ret_shape ?_ ?_ ?_, rfl⟩
  all_goals simp_all [wthn, csz, clo, chi]
  all_goals omega

set_option maxHeartbeats 1000000 in
theorem charSize_any (b o n c : Nat) (c0 c1 c2 c3 : Int) (w : World) (hn : 0 < n) (hm : n ≤ 9223372036854775807) (b0 : 0 ≤ c0) (b1 : c0 ≤ 255)
    (h0 : w.cell? ⟨b, o, none⟩ = some (.int .u8 c0)) (h1 : 1 < n → w.cell? ⟨b, o + 1, none⟩ = some (.int .u8 c1)) (h2 : 2 < n → w.cell? ⟨b, o + 2, none⟩ = some (.int .u8 c2)) (h3 : 3 < n → w.cell? ⟨b, o + 3, none⟩ = some (.int .u8 c3)) :
    Calls Tryd.prog 21 #[.slice (some ⟨b, o, none⟩) n c] w fun e w' => e = .returned (.int .i64 (chsN n c0 c1 c2 c3)) ∧ w' = w := by
  rcases csz_val c0 with hz | hz | hz | hz | hz
  · clear h1 h2 h3
    go_enter Tryd.func21, Tryd.ntmps21
    go_wp2_with (first | (go_at_call 28; refine (charShape_any _ _ b0 b1).mono ?_; rintro e w' ⟨rfl, rfl⟩) | (go_at_call 29; refine (within_any _ _ _ _).mono ?_; rintro e w' ⟨rfl, rfl⟩))
    all_goals go_ret
    all_goals refine ⟨ret_i64 ?_, rfl⟩
    all_goals rw [csz0 hz]
    all_goals simp_all
  · clear h1 h2 h3
    go_enter Tryd.func21, Tryd.ntmps21
    go_wp2_with (first | (go_at_call 28; refine (charShape_any _ _ b0 b1).mono ?_; rintro e w' ⟨rfl, rfl⟩) | (go_at_call 29; refine (within_any _ _ _ _).mono ?_; rintro e w' ⟨rfl, rfl⟩))
    all_goals go_ret
    all_goals refine ⟨ret_i64 ?_, rfl⟩
    all_goals rw [csz1 hz]
    all_goals simp_all
  · by_cases hl : 2 ≤ n
    · have h1' := h1 (by omega)
      clear h1 h2 h3
      have hl' : 1 < n := by omega
      go_enter Tryd.func21, Tryd.ntmps21
      go_wp2_with (first | (go_at_call 28; refine (charShape_any _ _ b0 b1).mono ?_; rintro e w' ⟨rfl, rfl⟩) | (go_at_call 29; refine (within_any _ _ _ _).mono ?_; rintro e w' ⟨rfl, rfl⟩))
      all_goals go_ret
      all_goals refine ⟨ret_i64 ?_, rfl⟩
      all_goals rw [csz2 hz]
      all_goals simp_all
    · clear h1 h2 h3
      go_enter Tryd.func21, Tryd.ntmps21
      go_wp2_with (first | (go_at_call 28; refine (charShape_any _ _ b0 b1).mono ?_; rintro e w' ⟨rfl, rfl⟩) | (go_at_call 29; refine (within_any _ _ _ _).mono ?_; rintro e w' ⟨rfl, rfl⟩))
      all_goals go_ret
      all_goals refine ⟨ret_i64 ?_, rfl⟩
      all_goals rw [csz2 hz, if_neg (fun h => by omega)]
      all_goals rfl
  · by_cases hl : 3 ≤ n
    · have h1' := h1 (by omega)
      have h2' := h2 (by omega)
      clear h1 h2 h3
      have hl' : 2 < n := by omega
      go_enter Tryd.func21, Tryd.ntmps21
      go_wp2_with (first | (go_at_call 28; refine (charShape_any _ _ b0 b1).mono ?_; rintro e w' ⟨rfl, rfl⟩) | (go_at_call 29; refine (within_any _ _ _ _).mono ?_; rintro e w' ⟨rfl, rfl⟩))
      all_goals go_ret
      all_goals refine ⟨ret_i64 ?_, rfl⟩
      all_goals rw [csz3 hz]
      all_goals simp_all
    · clear h1 h2 h3
      go_enter Tryd.func21, Tryd.ntmps21
      go_wp2_with (first | (go_at_call 28; refine (charShape_any _ _ b0 b1).mono ?_; rintro e w' ⟨rfl, rfl⟩) | (go_at_call 29; refine (within_any _ _ _ _).mono ?_; rintro e w' ⟨rfl, rfl⟩))
      all_goals go_ret
      all_goals refine ⟨ret_i64 ?_, rfl⟩
      all_goals rw [csz3 hz, if_neg (fun h => by omega)]
      all_goals rfl
  · by_cases hl : 4 ≤ n
    · have h1' := h1 (by omega)
      have h2' := h2 (by omega)
      have h3' := h3 (by omega)
      clear h1 h2 h3
      have hl' : 3 < n := by omega
      go_enter Tryd.func21, Tryd.ntmps21
      go_wp2_with (first | (go_at_call 28; refine (charShape_any _ _ b0 b1).mono ?_; rintro e w' ⟨rfl, rfl⟩) | (go_at_call 29; refine (within_any _ _ _ _).mono ?_; rintro e w' ⟨rfl, rfl⟩))
      all_goals go_ret
      all_goals refine ⟨ret_i64 ?_, rfl⟩
      all_goals rw [csz4 hz]
      all_goals simp_all
    · clear h1 h2 h3
      go_enter Tryd.func21, Tryd.ntmps21
      go_wp2_with (first | (go_at_call 28; refine (charShape_any _ _ b0 b1).mono ?_; rintro e w' ⟨rfl, rfl⟩) | (go_at_call 29; refine (within_any _ _ _ _).mono ?_; rintro e w' ⟨rfl, rfl⟩))
      all_goals go_ret
      all_goals refine ⟨ret_i64 ?_, rfl⟩
      all_goals rw [csz4 hz, if_neg (fun h => by omega)]
      all_goals rfl

end Go.Proofs.YtdbfmjfbiokfdaaDoor
