/-
  closing, unquoted.
-/
import Derived.Test.YtkfbjkopmgeklaaF
namespace Go.Proofs.Ytkfbjkopmgeklaa
open Go.RowKit Go.Shelf

theorem u8_ne {c k : UInt8} {z : Int} (hz : z = k.toNat) (h : c ≠ k) : ((c.toNat : Int) == z) = false := by
  subst hz
  rw [beq_eq_false_iff_ne]
  intro e
  exact h (UInt8.toNat_inj.1 (by omega))
theorem u8_eq {c k : UInt8} {z : Int} (hz : z = k.toNat) (h : c = k) : ((c.toNat : Int) == z) = true := by
  subst hz; subst h; simp

def cl (i : Nat) (o : Option (List UInt8 × Nat)) : Int := match o with
  | none => -1
  | some p => i + p.2 - 1
theorem cl_map (i d : Nat) (f : List UInt8 → List UInt8) (o : Option (List UInt8 × Nat)) : cl i (o.map fun p => (f p.1, p.2 + d)) = cl (i + d) o := by
  cases o with
  | none => rfl
  | some p => simp [cl]; omega

set_option maxHeartbeats 2000000 in
set_option maxRecDepth 100000 in
theorem closing_any (s : ByteArray) (w : World) (hp : 0 < s.size) (hs : s.size ≤ 2097154) : Calls Try.prog 47 #[.string s] w fun e w' => e = .returned (.int .i64 (cl 1 (qs (s.data.toList.drop 1)))) ∧ w' = w := by
  have HP : Hid (0 < s.size) := hp
  clear hp
  go_enter Try.func47, Try.ntmps47
  go_wp2
  go_loopw [3] (fun vi wr => ∃ i : Nat, vi = .int .i64 i ∧ i ≤ s.size ∧ wr = w ∧ Hid (cl i (qs (s.data.toList.drop i)) = cl 1 (qs (s.data.toList.drop 1)))) (fun vi _ => s.size - (intOf vi).toNat)
  case atStart => exact ⟨1, rfl, HP.out, rfl, rfl⟩
  case round =>
    obtain ⟨i, rfl, hi, rfl, HI⟩ := hrel
    by_cases hlt : i < s.size
    · have HD : Hid (s.data.toList.drop i = s[i] :: s.data.toList.drop (i + 1)) := drop_cons s i hlt
      by_cases h1 : s[i] = 39
      · have g1 : ((s[i].toNat : Int) == 39) = true := u8_eq (k := 39) rfl h1
        have HF : Hid (cl 1 (qs (s.data.toList.drop 1)) = i) := by show _ = _; rw [← HI.out, HD.out, h1, qs_end]; simp [cl]
        clear h1
        go_wp2_with (first | (go_at_call 26; refine (printable_any _ _).mono ?_; rintro e wq ⟨rfl, rfl⟩) | (go_at_call 30; refine (escaped_any _ _).mono ?_; rintro e wq ⟨rfl, rfl⟩))
        go_ret
        exact ⟨ret_i64 HF.out.symm, rfl⟩
      · have g1 : ((s[i].toNat : Int) == 39) = false := u8_ne (k := 39) rfl h1
        cases h2 : prB s[i].toNat
        · have HF : Hid (cl 1 (qs (s.data.toList.drop 1)) = -1) := by show _ = _; rw [← HI.out, HD.out, qs_bad _ h1 h2]; rfl
          clear h1
          go_wp2_with (first | (go_at_call 26; refine (printable_any _ _).mono ?_; rintro e wq ⟨rfl, rfl⟩) | (go_at_call 30; refine (escaped_any _ _).mono ?_; rintro e wq ⟨rfl, rfl⟩))
          go_ret
          exact ⟨ret_i64 HF.out.symm, rfl⟩
        · by_cases h3 : s[i] = 92
          · have g3 : ((s[i].toNat : Int) == 92) = true := u8_eq (k := 92) rfl h3
            by_cases hl2 : i + 1 < s.size
            · have HD2 : Hid (s.data.toList.drop (i + 1) = s[i + 1] :: s.data.toList.drop (i + 1 + 1)) := drop_cons s (i + 1) hl2
              have hE : (((i : Int) + 1) == (s.size : Int)) = false := by rw [beq_eq_false_iff_ne]; omega
              cases h4 : esB s[i + 1].toNat
              · have HF : Hid (cl 1 (qs (s.data.toList.drop 1)) = -1) := by show _ = _; rw [← HI.out, HD.out, h3, HD2.out, qs_esc_no _ h4]; rfl
                clear h1 h3
                go_wp2_with (first | (go_at_call 26; refine (printable_any _ _).mono ?_; rintro e wq ⟨rfl, rfl⟩) | (go_at_call 30; refine (escaped_any _ _).mono ?_; rintro e wq ⟨rfl, rfl⟩))
                go_ret
                exact ⟨ret_i64 HF.out.symm, rfl⟩
              · have HF : Hid (cl (i + 2) (qs (s.data.toList.drop (i + 2))) = cl 1 (qs (s.data.toList.drop 1))) := by show _ = _; rw [← HI.out, HD.out, h3, HD2.out, qs_esc _ h4, cl_map]
                clear h1 h3
                go_wp2_with (first | (go_at_call 26; refine (printable_any _ _).mono ?_; rintro e wq ⟨rfl, rfl⟩) | (go_at_call 30; refine (escaped_any _ _).mono ?_; rintro e wq ⟨rfl, rfl⟩))
                go_roundw
                case rel => exact ⟨i + 2, by go_num, by omega, by simp, HF.out⟩
                case measure => simp [intOf]; omega
            · have hE : (((i : Int) + 1) == (s.size : Int)) = true := by rw [beq_iff_eq]; omega
              have HF : Hid (cl 1 (qs (s.data.toList.drop 1)) = -1) := by show _ = _; rw [← HI.out, HD.out, h3, drop_end s (i + 1) (by omega), qs_esc_nil]; rfl
              clear h1 h3
              go_wp2_with (first | (go_at_call 26; refine (printable_any _ _).mono ?_; rintro e wq ⟨rfl, rfl⟩) | (go_at_call 30; refine (escaped_any _ _).mono ?_; rintro e wq ⟨rfl, rfl⟩))
              go_ret
              exact ⟨ret_i64 HF.out.symm, rfl⟩
          · have g3 : ((s[i].toNat : Int) == 92) = false := u8_ne (k := 92) rfl h3
            have HF : Hid (cl (i + 1) (qs (s.data.toList.drop (i + 1))) = cl 1 (qs (s.data.toList.drop 1))) := by show _ = _; rw [← HI.out, HD.out, qs_one _ h1 h2 h3, cl_map]
            clear h1 h3
            go_wp2_with (first | (go_at_call 26; refine (printable_any _ _).mono ?_; rintro e wq ⟨rfl, rfl⟩) | (go_at_call 30; refine (escaped_any _ _).mono ?_; rintro e wq ⟨rfl, rfl⟩))
            go_roundw
            case rel => exact ⟨i + 1, by go_num, by omega, by simp, HF.out⟩
            case measure => simp [intOf]; omega
    · have HF : Hid (cl 1 (qs (s.data.toList.drop 1)) = -1) := by show _ = _; rw [← HI.out, drop_end s i (by omega), qs_nil]; rfl
      go_wp2
      go_ret
      exact ⟨ret_i64 HF.out.symm, rfl⟩

set_option maxHeartbeats 2000000 in
set_option maxRecDepth 100000 in
theorem unquoted_any (s : ByteArray) (n : List UInt8) (w : World) (hn : uq s.data.toList = some n) (hs : s.size ≤ 2097154) : Calls Try.prog 48 #[.string s] w fun e w' => e = .returned (.string (ofL n)) ∧ Below w.heap.size w w' := by
  have HU : Hid (uq s.data.toList = some n) := hn
  have HN : Hid (Bd w.heap.size [] w (w.alloc (.cells #[.pointer none, .slice none 0 0] 48))) := Bd.new w
  clear hn
  go_enter Try.func48, Try.ntmps48
  go_wp2
  go_loopw [4] (fun vi wr => ∃ i : Nat, vi = .int .i64 i ∧ i ≤ s.size ∧ Hid (∃ acc r, Bd w.heap.size acc w wr ∧ uq (s.data.toList.drop i) = some r ∧ acc ++ r = n ∧ acc.length ≤ i)) (fun vi _ => s.size - (intOf vi).toNat)
  case atStart => exact ⟨0, rfl, Nat.zero_le _, [], n, HN.out, by rw [List.drop_zero]; exact HU.out, rfl, Nat.le_refl _⟩
  case round =>
    obtain ⟨i, rfl, hi, acc, r, hB, hr, hacc, hl⟩ := hrel
    have HB : Hid (Bd w.heap.size acc w wr ∧ acc.length ≤ i) := ⟨hB, hl⟩
    have HA : Hid (acc ++ r = n) := hacc
    clear hB hl hacc
    by_cases hlt : i < s.size
    · rw [drop_cons s i hlt] at hr
      by_cases h3 : s[i] = 92
      · have g3 : ((s[i].toNat : Int) == 92) = true := u8_eq (k := 92) rfl h3
        rw [h3] at hr
        clear h3
        by_cases hl2 : i + 1 < s.size
        · rw [drop_cons s (i + 1) hl2, uq_esc] at hr
          obtain ⟨r', h5, h6⟩ := Option.map_eq_some_iff.1 hr
          have HR : Hid (uq (s.data.toList.drop (i + 2)) = some r' ∧ r = s[i + 1] :: r') := ⟨h5, h6.symm⟩
          clear hr h5 h6
          go_wp2_with fail
          refine (HB.out.1.write s[i + 1] (by have := HB.out.2; omega)).mono ?_
          rintro e W2 ⟨rfl, h2⟩
          have HB2 : Hid (∃ acc r, Bd w.heap.size acc w W2 ∧ uq (s.data.toList.drop (i + 2)) = some r ∧ acc ++ r = n ∧ acc.length ≤ i + 2) := ⟨_, r', h2, HR.out.1, by rw [← HA.out, HR.out.2]; simp, by have := HB.out.2; simp; omega⟩
          clear h2
          go_wp2
          go_roundw
          case rel => exact ⟨i + 2, by go_num, by omega, HB2.out⟩
          case measure => simp [intOf]; omega
        · rw [drop_end s (i + 1) (by omega), uq_esc_nil] at hr
          cases hr
      · have g3 : ((s[i].toNat : Int) == 92) = false := u8_ne (k := 92) rfl h3
        rw [uq_one _ h3] at hr
        obtain ⟨r', h5, h6⟩ := Option.map_eq_some_iff.1 hr
        have HR : Hid (uq (s.data.toList.drop (i + 1)) = some r' ∧ r = s[i] :: r') := ⟨h5, h6.symm⟩
        clear hr h5 h6 h3
        go_wp2_with fail
        refine (HB.out.1.write s[i] (by have := HB.out.2; omega)).mono ?_
        rintro e W2 ⟨rfl, h2⟩
        have HB2 : Hid (∃ acc r, Bd w.heap.size acc w W2 ∧ uq (s.data.toList.drop (i + 1)) = some r ∧ acc ++ r = n ∧ acc.length ≤ i + 1) := ⟨_, r', h2, HR.out.1, by rw [← HA.out, HR.out.2]; simp, by have := HB.out.2; simp; omega⟩
        clear h2
        go_wp2
        go_roundw
        case rel => exact ⟨i + 1, by go_num, by omega, HB2.out⟩
        case measure => simp [intOf]; omega
    · rw [drop_end s i (by omega), uq_nil] at hr
      cases hr
      go_wp2_with fail
      refine HB.out.1.string.mono ?_
      rintro e W3 ⟨rfl, h3⟩
      go_wp2
      go_ret
      refine ⟨ret_str ?_, h3⟩
      rw [← HA.out]; simp

end Go.Proofs.Ytkfbjkopmgeklaa
