/-
  LexerBack, of texts of any length: the walk.
-/
import Derived.Test.YtkfbjkopmgeklaaZC
namespace Go.Proofs.Ytkfbjkopmgeklaa
open Go.RowKit Go.Shelf

set_option maxHeartbeats 1000000 in
theorem isNameW_any (s : ByteArray) (w : World) (hs : s.size ≤ 9223372036854775807) : Calls Try.prog 13 #[.string s] w fun e w' => e = .returned (.bool (nmB s.data.toList)) ∧ w' = w := by
  cases hb : bnB s.data.toList
  · have HE : Hid (nmB s.data.toList = false) := by show _ = _; unfold nmB; rw [hb]; rfl
    go_enter Try.func13, Try.ntmps13
    go_wp2_with (first | (go_at_call 25; refine (begins_any s _).mono ?_; rw [hb]; rintro e w' ⟨rfl, rfl⟩))
    all_goals go_ret
    all_goals exact ⟨ret_bool HE.out.symm, rfl⟩
  · have HB : Hid (bnB s.data.toList = true) := hb
    have hc : ∀ W, Calls Try.prog 25 #[.string s] W fun e w' => e = .returned (.bool true) ∧ w' = W := fun W => by have := begins_any s W; rwa [hb] at this
    clear hb
    by_cases h6 : s.size ≤ 63
    · have HE : Hid (nmB s.data.toList = (s.data.toList.drop 0).all fun c => prB c.toNat) := by show _ = _; unfold nmB; rw [HB.out, size_len, List.drop_zero]; simp [h6]
      go_enter Try.func13, Try.ntmps13
      go_wp2_with (first | (go_at_call 25; refine (hc _).mono ?_; rintro e w' ⟨rfl, rfl⟩))
      go_loopw [14] (fun vi wr => ∃ i : Nat, vi = .int .i64 i ∧ i ≤ s.size ∧ wr = w' ∧ Hid (nmB s.data.toList = (s.data.toList.drop i).all fun c => prB c.toNat)) (fun vi _ => s.size - (intOf vi).toNat)
      case atStart => exact ⟨0, rfl, Nat.zero_le _, rfl, HE.out⟩
      case round =>
        obtain ⟨i, rfl, hi, rfl, HI⟩ := hrel
        by_cases hlt : i < s.size
        · have HD : Hid (nmB s.data.toList = (prB s[i].toNat && (s.data.toList.drop (i + 1)).all fun c => prB c.toNat)) := by show _ = _; rw [HI.out, all_step hlt]
          cases hw : prB s[i].toNat
          · rw [hw] at HD
            go_wp2_with (go_at_call 26; refine (printable_any _ _).mono ?_; rintro e w' ⟨rfl, rfl⟩)
            go_ret
            exact ⟨ret_bool HD.out.symm, rfl⟩
          · rw [hw] at HD
            go_wp2_with (go_at_call 26; refine (printable_any _ _).mono ?_; rintro e w' ⟨rfl, rfl⟩)
            go_roundw
            case rel => exact ⟨i + 1, by go_num, by omega, by simp, HD.out⟩
            case measure => simp [intOf]; omega
        · have HD : Hid (nmB s.data.toList = true) := by show _ = _; rw [HI.out, drop_end s i (by omega)]; rfl
          go_wp2
          go_ret
          exact ⟨ret_bool HD.out.symm, rfl⟩
    · have HE : Hid (nmB s.data.toList = false) := by show _ = _; unfold nmB; rw [HB.out, size_len]; simp [h6]
      go_enter Try.func13, Try.ntmps13
      go_wp2_with (first | (go_at_call 25; refine (hc _).mono ?_; rintro e w' ⟨rfl, rfl⟩))
      all_goals go_ret
      all_goals exact ⟨ret_bool HE.out.symm, rfl⟩

set_option maxHeartbeats 1000000 in
theorem risNameW_any (s : ByteArray) (w : World) (hs : s.size ≤ 9223372036854775807) : Calls Try.prog 14 #[.string s] w fun e w' => e = .returned (.bool (nmB s.data.toList)) ∧ w' = w := by
  by_cases hp : 0 < s.size
  · have HE : Hid (nmB s.data.toList = (!caB s[0].toNat && ((s[0].toNat : Int) != 64) && ((s[0].toNat : Int) != 36) && decide (s.size ≤ 63) && (s.data.toList.drop 0).all fun c => prB c.toNat)) := by
      show _ = _
      unfold nmB bnB
      rw [ne_of_pos hp, hd_of s hp, size_len]; rfl
    by_cases h6 : s.size ≤ 63
    · cases h1 : caB s[0].toNat
      · by_cases h2 : (s[0].toNat : Int) = 64
        · rw [h2] at HE
          have HF : Hid (nmB s.data.toList = false) := by show _ = _; rw [HE.out]; simp
          go_enter Try.func14, Try.ntmps14
          go_wp2_with (first | (go_at_call 27; refine (upper_any _ _).mono ?_; rintro e w' ⟨rfl, rfl⟩))
          all_goals go_ret
          all_goals exact ⟨ret_bool HF.out.symm, rfl⟩
        · by_cases h3 : (s[0].toNat : Int) = 36
          · rw [h3] at HE
            have HF : Hid (nmB s.data.toList = false) := by show _ = _; rw [HE.out]; simp
            go_enter Try.func14, Try.ntmps14
            go_wp2_with (first | (go_at_call 27; refine (upper_any _ _).mono ?_; rintro e w' ⟨rfl, rfl⟩))
            all_goals go_ret
            all_goals exact ⟨ret_bool HF.out.symm, rfl⟩
          · have HF : Hid (nmB s.data.toList = (s.data.toList.drop 0).all fun c => prB c.toNat) := by show _ = _; rw [HE.out, h1]; simp [h6, h2, h3]
            have g2 : ((s[0].toNat : Int) == 64) = false := by simpa using h2
            have g3 : ((s[0].toNat : Int) == 36) = false := by simpa using h3
            clear h2 h3 HE
            go_enter Try.func14, Try.ntmps14
            go_wp2_with (first | (go_at_call 27; refine (upper_any _ _).mono ?_; rintro e w' ⟨rfl, rfl⟩))
            go_loopw [3] (fun vi wr => ∃ i : Nat, vi = .int .i64 i ∧ i ≤ s.size ∧ wr = w' ∧ Hid (nmB s.data.toList = (s.data.toList.drop i).all fun c => prB c.toNat)) (fun vi _ => s.size - (intOf vi).toNat)
            case atStart => exact ⟨0, rfl, Nat.zero_le _, rfl, HF.out⟩
            case round =>
              obtain ⟨i, rfl, hi, rfl, HI⟩ := hrel
              by_cases hlt : i < s.size
              · have HD : Hid (nmB s.data.toList = (prB s[i].toNat && (s.data.toList.drop (i + 1)).all fun c => prB c.toNat)) := by show _ = _; rw [HI.out, all_step hlt]
                by_cases k1 : (s[i].toNat : Int) < 32
                · have HX : Hid (nmB s.data.toList = false) := by show _ = _; rw [HD.out]; unfold prB; simp; omega
                  go_wp2
                  go_ret
                  exact ⟨ret_bool HX.out.symm, rfl⟩
                · by_cases k2 : (126 : Int) < s[i].toNat
                  · have HX : Hid (nmB s.data.toList = false) := by show _ = _; rw [HD.out]; unfold prB; simp; omega
                    go_wp2
                    go_ret
                    exact ⟨ret_bool HX.out.symm, rfl⟩
                  · have HX : Hid (nmB s.data.toList = (s.data.toList.drop (i + 1)).all fun c => prB c.toNat) := by
                      show _ = _
                      rw [HD.out, show prB s[i].toNat = true by unfold prB; simp; omega]; rfl
                    go_wp2
                    go_roundw
                    case rel => exact ⟨i + 1, by go_num, by omega, by simp, HX.out⟩
                    case measure => simp [intOf]; omega
              · have HD : Hid (nmB s.data.toList = true) := by show _ = _; rw [HI.out, drop_end s i (by omega)]; rfl
                go_wp2
                go_ret
                exact ⟨ret_bool HD.out.symm, rfl⟩
      · have HF : Hid (nmB s.data.toList = false) := by show _ = _; rw [HE.out, h1]; simp
        go_enter Try.func14, Try.ntmps14
        go_wp2_with (first | (go_at_call 27; refine (upper_any _ _).mono ?_; rintro e w' ⟨rfl, rfl⟩))
        all_goals go_ret
        all_goals exact ⟨ret_bool HF.out.symm, rfl⟩
    · have HF : Hid (nmB s.data.toList = false) := by show _ = _; rw [HE.out]; simp [h6]
      go_enter Try.func14, Try.ntmps14
      go_wp2_with (first | (go_at_call 27; refine (upper_any _ _).mono ?_; rintro e w' ⟨rfl, rfl⟩))
      all_goals go_ret
      all_goals exact ⟨ret_bool HF.out.symm, rfl⟩
  · have HF : Hid (nmB s.data.toList = false) := by
      show _ = _
      unfold nmB bnB
      rw [nil_of_zero hp]; rfl
    go_enter Try.func14, Try.ntmps14
    go_wp2_with (first | (go_at_call 27; refine (upper_any _ _).mono ?_; rintro e w' ⟨rfl, rfl⟩))
    all_goals go_ret
    all_goals exact ⟨ret_bool HF.out.symm, rfl⟩

set_option maxRecDepth 100000 in
set_option maxHeartbeats 8000000 in
theorem lawbackW_any (s : ByteArray) (w : World) (hs : s.size ≤ 9223372036854775807) : Calls Try.prog 5 #[.string s] w fun e w' => e = .returned (.bool true) ∧ Below w.heap.size w w' := by
  have h13 := fun W => isNameW_any s W (by omega)
  have h14 := fun W => risNameW_any s W (by omega)
  cases hn : nmB s.data.toList
  · rw [hn] at h13 h14
    clear hn
    go_enter Try.func5, Try.ntmps5
    go_wp2_with (first
      | (go_at_call 13; refine (h13 _).mono ?_; rintro e wq ⟨rfl, rfl⟩)
      | (go_at_call 14; refine (h14 _).mono ?_; rintro e wq ⟨rfl, rfl⟩)
      | (go_at_call 10; refine (alive_any _).mono ?_; rintro e W3 ⟨rfl, b3⟩))
    go_ret
    exact ⟨rfl, b3⟩
  · rw [hn] at h13
    obtain ⟨hb, hl⟩ := back hn
    rw [size_len] at hl
    have h17 := fun W => show_any s W (by omega)
    have h7 := fun W => lex_ok (ofL (shL s.data.toList)) W (by rw [ofL_size]; have := shL_len s.data.toList; rw [size_len] at this; omega)
    simp only [ofL_data, hb] at h7
    obtain ⟨T, hT⟩ : ∃ T, ofL (shL s.data.toList) = T := ⟨_, rfl⟩
    rw [hT] at h17 h7
    have H7 : ∀ W, Calls Try.prog 7 #[.string T] W fun e w' => ∃ a c b o, e = .returned (.tuple #[.slice a 1 c, .int .i64 0, .int .i64 0]) ∧ 1 ≤ c ∧ a = some ⟨b, o, none⟩ ∧ b < w'.heap.size ∧ w'.cell? ⟨b, o, none⟩ = some (.int .i64 1) ∧ w'.cell? ⟨b, o + 1, none⟩ = some (.int .i64 0) ∧ w'.cell? ⟨b, o + 2, none⟩ = some (.string s) ∧ Below W.heap.size W w' := fun W => by
      refine (h7 W).mono ?_
      rintro e w' ⟨v, rfl, hk, hbl⟩
      simp only [if_true] at hk
      obtain ⟨a, c, rfl, h1, h2⟩ := hk.slice
      obtain ⟨b, o, rfl, hlt, c0, c1, c2⟩ := hk.nth (i := 0) (by simp)
      refine ⟨_, c, b, o, rfl, h1, rfl, hlt, c0, c1, ?_, hbl⟩
      rw [← ofL_self s]
      exact c2
    have ns : (s.toList == s.toList) = true := by simp
    clear h7 h14 hn hb hT
    go_enter Try.func5, Try.ntmps5
    go_wp2_with fail
    refine (h13 _).mono ?_
    rintro e wq ⟨rfl, rfl⟩
    go_wp2_with fail
    refine (h17 _).mono ?_
    rintro e W1 ⟨rfl, b1⟩
    go_wp2_with fail
    refine (H7 _).mono ?_
    rintro e W2 ⟨a, c, b, o, rfl, hc, rfl, hlt, c0, c1, c2, b2⟩
    have HB2 : Hid (Below wq.heap.size wq W2) := b1.trans (b2.mono b1.size)
    clear b1 b2 h17 H7 h13
    go_wp2_with fail
    refine (alive_any _).mono ?_
    rintro e W3 ⟨rfl, b3⟩
    have HB3 : Hid (Below wq.heap.size wq W3) := HB2.out.trans (b3.mono HB2.out.size)
    clear b3
    go_wp2
    go_ret
    exact ⟨rfl, HB3.out⟩

end Go.Proofs.Ytkfbjkopmgeklaa
