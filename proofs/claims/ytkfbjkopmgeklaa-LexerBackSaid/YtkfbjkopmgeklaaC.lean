/-
  IsName of both sides.
-/
import Derived.Test.YtkfbjkopmgeklaaB
namespace Go.Proofs.Ytkfbjkopmgeklaa
open Go.RowKit

theorem all_step {s : ByteArray} {i : Nat} {p : UInt8 → Bool} (h : i < s.size) : (s.data.toList.drop i).all p = (p s[i] && (s.data.toList.drop (i + 1)).all p) := by
  rw [drop_cons s i h]; rfl

set_option maxHeartbeats 1000000 in
theorem isName_any (s : ByteArray) (w : World) (hs : s.size ≤ 2097154) : Calls Try.prog 13 #[.string s] w fun e w' => e = .returned (.bool (nmB s.data.toList)) ∧ w' = w := by
  cases hb : bnB s.data.toList
  · have HE : Hid (nmB s.data.toList = false) := by show _ = _; unfold nmB; rw [hb]; rfl
    go_enter Try.func13, Try.ntmps13
    go_wp2_with (first | (go_at_call 25; refine (begins_any s _).mono ?_; rw [hb]; rintro e w' ⟨rfl, rfl⟩))
    all_goals go_ret
    all_goals exact ⟨ret_bool HE.out.symm, rfl⟩
  · have HB : Hid (bnB s.data.toList = true) := hb
    have hc : ∀ W, Calls Try.prog 25 #[.string s] W fun e w' => e = .returned (.bool true) ∧ w' = W := fun W => by have := begins_any s W; rwa [hb] at this
    clear hb
    by_cases h6 : s.size ≤ 63
    · have HE : Hid (nmB s.data.toList = (s.data.toList.drop 0).all fun c => prB c.toNat) := by show _ = _; unfold nmB; rw [HB.out, size_len, List.drop_zero]; simp [h6]
      go_enter Try.func13, Try.ntmps13
      go_wp2_with (first | (go_at_call 25; refine (hc _).mono ?_; rintro e w' ⟨rfl, rfl⟩))
      go_loopw [14] (fun vi wr => ∃ i : Nat, vi = .int .i64 i ∧ i ≤ s.size ∧ wr = w' ∧ Hid (nmB s.data.toList = (s.data.toList.drop i).all fun c => prB c.toNat)) (fun vi _ => s.size - (intOf vi).toNat)
      case atStart => exact ⟨0, rfl, Nat.zero_le _, rfl, HE.out⟩
      case round =>
        obtain ⟨i, rfl, hi, rfl, HI⟩ := hrel
        by_cases hlt : i < s.size
        · have HD : Hid (nmB s.data.toList = (prB s[i].toNat && (s.data.toList.drop (i + 1)).all fun c => prB c.toNat)) := by show _ = _; rw [HI.out, all_step hlt]
          cases hw : prB s[i].toNat
          · rw [hw] at HD
            go_wp2_with (go_at_call 26; refine (printable_any _ _).mono ?_; rintro e w' ⟨rfl, rfl⟩)
            go_ret
            exact ⟨ret_bool HD.out.symm, rfl⟩
          · rw [hw] at HD
            go_wp2_with (go_at_call 26; refine (printable_any _ _).mono ?_; rintro e w' ⟨rfl, rfl⟩)
            go_roundw
            case rel => exact ⟨i + 1, by go_num, by omega, by simp, HD.out⟩
            case measure => simp [intOf]; omega
        · have HD : Hid (nmB s.data.toList = true) := by show _ = _; rw [HI.out, drop_end s i (by omega)]; rfl
          go_wp2
          go_ret
          exact ⟨ret_bool HD.out.symm, rfl⟩
    · have HE : Hid (nmB s.data.toList = false) := by show _ = _; unfold nmB; rw [HB.out, size_len]; simp [h6]
      go_enter Try.func13, Try.ntmps13
      go_wp2_with (first | (go_at_call 25; refine (hc _).mono ?_; rintro e w' ⟨rfl, rfl⟩))
      all_goals go_ret
      all_goals exact ⟨ret_bool HE.out.symm, rfl⟩

set_option maxHeartbeats 1000000 in
theorem risName_any (s : ByteArray) (w : World) (hs : s.size ≤ 2097154) : Calls Try.prog 14 #[.string s] w fun e w' => e = .returned (.bool (nmB s.data.toList)) ∧ w' = w := by
  by_cases hp : 0 < s.size
  · have HE : Hid (nmB s.data.toList = (!caB s[0].toNat && ((s[0].toNat : Int) != 64) && ((s[0].toNat : Int) != 36) && decide (s.size ≤ 63) && (s.data.toList.drop 0).all fun c => prB c.toNat)) := by
      show _ = _
      unfold nmB bnB
      rw [ne_of_pos hp, hd_of s hp, size_len]; rfl
    by_cases h6 : s.size ≤ 63
    · cases h1 : caB s[0].toNat
      · by_cases h2 : (s[0].toNat : Int) = 64
        · rw [h2] at HE
          have HF : Hid (nmB s.data.toList = false) := by show _ = _; rw [HE.out]; simp
          go_enter Try.func14, Try.ntmps14
          go_wp2_with (first | (go_at_call 27; refine (upper_any _ _).mono ?_; rintro e w' ⟨rfl, rfl⟩))
          all_goals go_ret
          all_goals exact ⟨ret_bool HF.out.symm, rfl⟩
        · by_cases h3 : (s[0].toNat : Int) = 36
          · rw [h3] at HE
            have HF : Hid (nmB s.data.toList = false) := by show _ = _; rw [HE.out]; simp
            go_enter Try.func14, Try.ntmps14
            go_wp2_with (first | (go_at_call 27; refine (upper_any _ _).mono ?_; rintro e w' ⟨rfl, rfl⟩))
            all_goals go_ret
            all_goals exact ⟨ret_bool HF.out.symm, rfl⟩
          · have HF : Hid (nmB s.data.toList = (s.data.toList.drop 0).all fun c => prB c.toNat) := by show _ = _; rw [HE.out, h1]; simp [h6, h2, h3]
            have g2 : ((s[0].toNat : Int) == 64) = false := by simpa using h2
            have g3 : ((s[0].toNat : Int) == 36) = false := by simpa using h3
            clear h2 h3 HE
            go_enter Try.func14, Try.ntmps14
            go_wp2_with (first | (go_at_call 27; refine (upper_any _ _).mono ?_; rintro e w' ⟨rfl, rfl⟩))
            go_loopw [3] (fun vi wr => ∃ i : Nat, vi = .int .i64 i ∧ i ≤ s.size ∧ wr = w' ∧ Hid (nmB s.data.toList = (s.data.toList.drop i).all fun c => prB c.toNat)) (fun vi _ => s.size - (intOf vi).toNat)
            case atStart => exact ⟨0, rfl, Nat.zero_le _, rfl, HF.out⟩
            case round =>
              obtain ⟨i, rfl, hi, rfl, HI⟩ := hrel
              by_cases hlt : i < s.size
              · have HD : Hid (nmB s.data.toList = (prB s[i].toNat && (s.data.toList.drop (i + 1)).all fun c => prB c.toNat)) := by show _ = _; rw [HI.out, all_step hlt]
                by_cases k1 : (s[i].toNat : Int) < 32
                · have HX : Hid (nmB s.data.toList = false) := by show _ = _; rw [HD.out]; unfold prB; simp; omega
                  go_wp2
                  go_ret
                  exact ⟨ret_bool HX.out.symm, rfl⟩
                · by_cases k2 : (126 : Int) < s[i].toNat
                  · have HX : Hid (nmB s.data.toList = false) := by show _ = _; rw [HD.out]; unfold prB; simp; omega
                    go_wp2
                    go_ret
                    exact ⟨ret_bool HX.out.symm, rfl⟩
                  · have HX : Hid (nmB s.data.toList = (s.data.toList.drop (i + 1)).all fun c => prB c.toNat) := by
                      show _ = _
                      rw [HD.out, show prB s[i].toNat = true by unfold prB; simp; omega]; rfl
                    go_wp2
                    go_roundw
                    case rel => exact ⟨i + 1, by go_num, by omega, by simp, HX.out⟩
                    case measure => simp [intOf]; omega
              · have HD : Hid (nmB s.data.toList = true) := by show _ = _; rw [HI.out, drop_end s i (by omega)]; rfl
                go_wp2
                go_ret
                exact ⟨ret_bool HD.out.symm, rfl⟩
      · have HF : Hid (nmB s.data.toList = false) := by show _ = _; rw [HE.out, h1]; simp
        go_enter Try.func14, Try.ntmps14
        go_wp2_with (first | (go_at_call 27; refine (upper_any _ _).mono ?_; rintro e w' ⟨rfl, rfl⟩))
        all_goals go_ret
        all_goals exact ⟨ret_bool HF.out.symm, rfl⟩
    · have HF : Hid (nmB s.data.toList = false) := by show _ = _; rw [HE.out]; simp [h6]
      go_enter Try.func14, Try.ntmps14
      go_wp2_with (first | (go_at_call 27; refine (upper_any _ _).mono ?_; rintro e w' ⟨rfl, rfl⟩))
      all_goals go_ret
      all_goals exact ⟨ret_bool HF.out.symm, rfl⟩
  · have HF : Hid (nmB s.data.toList = false) := by
      show _ = _
      unfold nmB bnB
      rw [nil_of_zero hp]; rfl
    go_enter Try.func14, Try.ntmps14
    go_wp2_with (first | (go_at_call 27; refine (upper_any _ _).mono ?_; rintro e w' ⟨rfl, rfl⟩))
    all_goals go_ret
    all_goals exact ⟨ret_bool HF.out.symm, rfl⟩

end Go.Proofs.Ytkfbjkopmgeklaa
