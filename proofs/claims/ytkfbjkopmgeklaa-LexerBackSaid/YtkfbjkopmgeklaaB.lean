/-
  Texts as lists of bytes; wordSize, run; Plain, IsVar, IsName of both sides.
-/
import Derived.Test.YtkfbjkopmgeklaaA
import Derived.Lib.Strings
import Derived.Lib.Bytealg
namespace Go.Proofs.Ytkfbjkopmgeklaa
open Go.RowKit

def ofL (l : List UInt8) : ByteArray := ⟨l.toArray⟩
theorem ofL_of {u : ByteArray} {l : List UInt8} (h : u.data.toList = l) : u = ofL l := by
  subst h; rfl
theorem ofL_data (l : List UInt8) : (ofL l).data.toList = l := rfl
theorem ofL_size (l : List UInt8) : (ofL l).size = l.length := rfl
theorem ofL_self (u : ByteArray) : ofL u.data.toList = u := (ofL_of rfl).symm
theorem size_len (u : ByteArray) : u.data.toList.length = u.size := by obtain ⟨⟨l⟩⟩ := u; rfl
theorem drop_cons (s : ByteArray) (i : Nat) (h : i < s.size) : s.data.toList.drop i = s[i] :: s.data.toList.drop (i + 1) := by
  rw [List.drop_eq_getElem_cons (by rw [size_len]; exact h)]
  rfl
theorem drop_end (s : ByteArray) (i : Nat) (h : s.size ≤ i) : s.data.toList.drop i = [] := List.drop_of_length_le (by rw [size_len]; exact h)
theorem is_empty (s : ByteArray) : s.toList.isEmpty = decide (s.size = 0) := by
  rw [Lib.toList_data, ← size_len]
  cases s.data.toList <;> simp

def hd (l : List UInt8) : Int := ((l.headD 0).toNat : Int)
theorem hd_of (s : ByteArray) (h : 0 < s.size) : hd s.data.toList = s[0].toNat := by
  have := drop_cons s 0 h
  rw [List.drop_zero] at this
  rw [this]; rfl

def wlen (l : List UInt8) : Nat := (l.takeWhile fun c => wdB c.toNat).length
theorem wlen_yes {c : UInt8} {r : List UInt8} (h : wdB c.toNat = true) : wlen (c :: r) = wlen r + 1 := by simp [wlen, h]
theorem wlen_no {c : UInt8} {r : List UInt8} (h : wdB c.toNat = false) : wlen (c :: r) = 0 := by simp [wlen, h]
theorem wlen_nil : wlen [] = 0 := rfl
theorem wlen_le (l : List UInt8) : wlen l ≤ l.length := by
  induction l with
  | nil => exact Nat.le_refl _
  | cons c r ih =>
    cases h : wdB c.toNat
    · rw [wlen_no h]; omega
    · rw [wlen_yes h]; simp; omega

set_option maxHeartbeats 1000000 in
theorem wordSize_any (s : ByteArray) (w : World) (hs : s.size ≤ 2097154) : Calls Try.prog 22 #[.string s] w fun e w' => e = .returned (.int .i64 (wlen s.data.toList : Nat)) ∧ w' = w := by
  go_enter Try.func22, Try.ntmps22
  go_wp2
  go_loopw [3] (fun vi wr => ∃ i : Nat, vi = .int .i64 i ∧ i ≤ s.size ∧ wr = w ∧ Hid (wlen s.data.toList = i + wlen (s.data.toList.drop i))) (fun vi _ => s.size - (intOf vi).toNat)
  case atStart => exact ⟨0, rfl, Nat.zero_le _, rfl, by show _ = _; simp⟩
  case round =>
    obtain ⟨i, rfl, hi, rfl, HI⟩ := hrel
    by_cases hlt : i < s.size
    · have HD : Hid (s.data.toList.drop i = s[i] :: s.data.toList.drop (i + 1)) := drop_cons s i hlt
      cases hw : wdB s[i].toNat
      · have HW : Hid (wdB s[i].toNat = false) := hw
        go_wp2_with (go_at_call 37; refine (word_any _ _).mono ?_; rintro e w' ⟨rfl, rfl⟩)
        go_ret
        refine ⟨ret_i64 ?_, rfl⟩
        rw [HI.out, HD.out, wlen_no HW.out]; simp
      · have HW : Hid (wdB s[i].toNat = true) := hw
        go_wp2_with (go_at_call 37; refine (word_any _ _).mono ?_; rintro e w' ⟨rfl, rfl⟩)
        go_roundw
        case rel => exact ⟨i + 1, by go_num, by omega, by simp, by show _ = _; rw [HI.out, HD.out, wlen_yes HW.out]; omega⟩
        case measure => simp [intOf]; omega
    · go_wp2_with (go_at_call 37; refine (word_any _ _).mono ?_; rintro e w' ⟨rfl, rfl⟩)
      go_ret
      refine ⟨ret_i64 ?_, rfl⟩
      rw [HI.out, drop_end s i (by omega), wlen_nil]; simp

set_option maxHeartbeats 1000000 in
theorem run_any (s : ByteArray) (k : Nat) (w : World) (hk : k ≤ s.size) (hs : s.size ≤ 2097154) : Calls Try.prog 24 #[.string s, .int .i64 (k : Nat)] w fun e w' => e = .returned (.int .i64 ((k + wlen (s.data.toList.drop k) : Nat) : Nat)) ∧ w' = w := by
  have HK : Hid (k ≤ s.size) := hk
  clear hk
  go_enter Try.func24, Try.ntmps24
  go_wp2
  go_loopw [1] (fun vi wr => ∃ i : Nat, vi = .int .i64 i ∧ i ≤ s.size ∧ wr = w ∧ Hid (k + wlen (s.data.toList.drop k) = i + wlen (s.data.toList.drop i))) (fun vi _ => s.size - (intOf vi).toNat)
  case atStart => exact ⟨k, rfl, HK.out, rfl, rfl⟩
  case round =>
    obtain ⟨i, rfl, hi, rfl, HI⟩ := hrel
    by_cases hlt : i < s.size
    · have HD : Hid (s.data.toList.drop i = s[i] :: s.data.toList.drop (i + 1)) := drop_cons s i hlt
      cases hw : wdB s[i].toNat
      · have HW : Hid (wdB s[i].toNat = false) := hw
        go_wp2_with (go_at_call 38; refine (inner_any _ _).mono ?_; rintro e w' ⟨rfl, rfl⟩)
        go_ret
        refine ⟨ret_i64 ?_, rfl⟩
        rw [HI.out, HD.out, wlen_no HW.out]; simp
      · have HW : Hid (wdB s[i].toNat = true) := hw
        go_wp2_with (go_at_call 38; refine (inner_any _ _).mono ?_; rintro e w' ⟨rfl, rfl⟩)
        go_roundw
        case rel => exact ⟨i + 1, by go_num, by omega, by simp, by show _ = _; rw [HI.out, HD.out, wlen_yes HW.out]; omega⟩
        case measure => simp [intOf]; omega
    · go_wp2_with (go_at_call 38; refine (inner_any _ _).mono ?_; rintro e w' ⟨rfl, rfl⟩)
      go_ret
      refine ⟨ret_i64 ?_, rfl⟩
      rw [HI.out, drop_end s i (by omega), wlen_nil]; simp

def plB (l : List UInt8) : Bool := !l.isEmpty && smB (hd l) && ((wlen l : Int) == (l.length : Int))
def vrB (l : List UInt8) : Bool := !l.isEmpty && decide (l.length ≤ 63) && caB (hd l) && ((wlen l : Int) == (l.length : Int))
def bnB (l : List UInt8) : Bool := !l.isEmpty && !caB (hd l) && (hd l != 64) && (hd l != 36)
def nmB (l : List UInt8) : Bool := bnB l && decide (l.length ≤ 63) && l.all fun c => prB c.toNat

theorem ne_of_pos {s : ByteArray} (h : 0 < s.size) : s.data.toList.isEmpty = false := by
  have := drop_cons s 0 h
  rw [List.drop_zero] at this
  rw [this]; rfl
theorem nil_of_zero {s : ByteArray} (h : ¬ 0 < s.size) : s.data.toList = [] := by
  have := drop_end s 0 (by omega)
  rwa [List.drop_zero] at this

set_option maxHeartbeats 1000000 in
theorem plain_any (s : ByteArray) (w : World) (hs : s.size ≤ 2097154) : Calls Try.prog 11 #[.string s] w fun e w' => e = .returned (.bool (plB s.data.toList)) ∧ w' = w := by
  by_cases hp : 0 < s.size
  · have hE : s.toList.isEmpty = false := by rw [is_empty]; exact decide_eq_false (by omega)
    have HE : Hid (plB s.data.toList = (smB s[0].toNat && ((wlen s.data.toList : Int) == (s.size : Int)))) := by
      show _ = _
      unfold plB
      rw [ne_of_pos hp, hd_of s hp, size_len]; rfl
    go_enter Try.func11, Try.ntmps11
    go_wp2_with (first | (go_at_call 21; refine (small_any _ _).mono ?_; rintro e w' ⟨rfl, rfl⟩) | (go_at_call 22; refine (wordSize_any s _ hs).mono ?_; rintro e w' ⟨rfl, rfl⟩))
    all_goals go_ret
    all_goals refine ⟨ret_bool ?_, rfl⟩
    all_goals rw [HE.out]
    all_goals simp_all
  · have hE : s.toList.isEmpty = true := by rw [is_empty]; exact decide_eq_true (by omega)
    have HE : Hid (plB s.data.toList = false) := by
      show _ = _
      unfold plB
      rw [nil_of_zero hp]; rfl
    go_enter Try.func11, Try.ntmps11
    go_wp2_with (first | (go_at_call 21; refine (small_any _ _).mono ?_; rintro e w' ⟨rfl, rfl⟩) | (go_at_call 22; refine (wordSize_any s _ hs).mono ?_; rintro e w' ⟨rfl, rfl⟩))
    all_goals go_ret
    all_goals exact ⟨ret_bool HE.out.symm, rfl⟩

set_option maxHeartbeats 1000000 in
theorem begins_any (s : ByteArray) (w : World) : Calls Try.prog 25 #[.string s] w fun e w' => e = .returned (.bool (bnB s.data.toList)) ∧ w' = w := by
  by_cases hp : 0 < s.size
  · have hE : s.toList.isEmpty = false := by rw [is_empty]; exact decide_eq_false (by omega)
    have HE : Hid (bnB s.data.toList = (!caB s[0].toNat && ((s[0].toNat : Int) != 64) && ((s[0].toNat : Int) != 36))) := by
      show _ = _
      unfold bnB
      rw [ne_of_pos hp, hd_of s hp]; rfl
    go_enter Try.func25, Try.ntmps25
    go_wp2_with (first | (go_at_call 28; refine (capital_any _ _).mono ?_; rintro e w' ⟨rfl, rfl⟩))
    all_goals go_ret
    all_goals refine ⟨ret_bool ?_, rfl⟩
    all_goals rw [HE.out]
    all_goals simp_all
  · have hE : s.toList.isEmpty = true := by rw [is_empty]; exact decide_eq_true (by omega)
    have HE : Hid (bnB s.data.toList = false) := by
      show _ = _
      unfold bnB
      rw [nil_of_zero hp]; rfl
    go_enter Try.func25, Try.ntmps25
    go_wp2_with (first | (go_at_call 28; refine (capital_any _ _).mono ?_; rintro e w' ⟨rfl, rfl⟩))
    all_goals go_ret
    all_goals exact ⟨ret_bool HE.out.symm, rfl⟩

set_option maxHeartbeats 1000000 in
theorem rplain_any (s : ByteArray) (w : World) (hs : s.size ≤ 2097154) : Calls Try.prog 12 #[.string s] w fun e w' => e = .returned (.bool (plB s.data.toList)) ∧ w' = w := by
  have hr := fun W => run_any s 0 W (Nat.zero_le _) hs
  rw [List.drop_zero, Nat.zero_add] at hr
  by_cases hp : 0 < s.size
  · have HE : Hid (plB s.data.toList = (smB s[0].toNat && ((wlen s.data.toList : Int) == (s.size : Int)))) := by
      show _ = _
      unfold plB
      rw [ne_of_pos hp, hd_of s hp, size_len]; rfl
    go_enter Try.func12, Try.ntmps12
    go_wp2_with (first | (go_at_call 23; refine (lower_any _ _).mono ?_; rintro e w' ⟨rfl, rfl⟩) | (go_at_call 24; refine (hr _).mono ?_; rintro e w' ⟨rfl, rfl⟩))
    all_goals go_ret
    all_goals refine ⟨ret_bool ?_, rfl⟩
    all_goals rw [HE.out]
    all_goals simp_all
  · have HE : Hid (plB s.data.toList = false) := by
      show _ = _
      unfold plB
      rw [nil_of_zero hp]; rfl
    go_enter Try.func12, Try.ntmps12
    go_wp2_with (first | (go_at_call 23; refine (lower_any _ _).mono ?_; rintro e w' ⟨rfl, rfl⟩) | (go_at_call 24; refine (hr _).mono ?_; rintro e w' ⟨rfl, rfl⟩))
    all_goals go_ret
    all_goals exact ⟨ret_bool HE.out.symm, rfl⟩

set_option maxHeartbeats 1000000 in
theorem isVar_any (s : ByteArray) (w : World) (hs : s.size ≤ 2097154) : Calls Try.prog 15 #[.string s] w fun e w' => e = .returned (.bool (vrB s.data.toList)) ∧ w' = w := by
  by_cases hp : 0 < s.size
  · have hE : s.toList.isEmpty = false := by rw [is_empty]; exact decide_eq_false (by omega)
    have HE : Hid (vrB s.data.toList = (decide (s.size ≤ 63) && caB s[0].toNat && ((wlen s.data.toList : Int) == (s.size : Int)))) := by
      show _ = _
      unfold vrB
      rw [ne_of_pos hp, hd_of s hp, size_len]; rfl
    go_enter Try.func15, Try.ntmps15
    go_wp2_with (first | (go_at_call 28; refine (capital_any _ _).mono ?_; rintro e w' ⟨rfl, rfl⟩) | (go_at_call 22; refine (wordSize_any s _ hs).mono ?_; rintro e w' ⟨rfl, rfl⟩))
    all_goals go_ret
    all_goals refine ⟨ret_bool ?_, rfl⟩
    all_goals rw [HE.out]
    all_goals first | (simp_all; done) | (simp_all; omega) | (simp_all; intros; omega)
  · have hE : s.toList.isEmpty = true := by rw [is_empty]; exact decide_eq_true (by omega)
    have HE : Hid (vrB s.data.toList = false) := by
      show _ = _
      unfold vrB
      rw [nil_of_zero hp]; rfl
    go_enter Try.func15, Try.ntmps15
    go_wp2_with (first | (go_at_call 28; refine (capital_any _ _).mono ?_; rintro e w' ⟨rfl, rfl⟩) | (go_at_call 22; refine (wordSize_any s _ hs).mono ?_; rintro e w' ⟨rfl, rfl⟩))
    all_goals go_ret
    all_goals exact ⟨ret_bool HE.out.symm, rfl⟩

set_option maxHeartbeats 1000000 in
theorem risVar_any (s : ByteArray) (w : World) (hs : s.size ≤ 2097154) : Calls Try.prog 16 #[.string s] w fun e w' => e = .returned (.bool (vrB s.data.toList)) ∧ w' = w := by
  have hr := fun W => run_any s 0 W (Nat.zero_le _) hs
  rw [List.drop_zero, Nat.zero_add] at hr
  by_cases hp : 0 < s.size
  · have HE : Hid (vrB s.data.toList = (decide (s.size ≤ 63) && caB s[0].toNat && ((wlen s.data.toList : Int) == (s.size : Int)))) := by
      show _ = _
      unfold vrB
      rw [ne_of_pos hp, hd_of s hp, size_len]; rfl
    go_enter Try.func16, Try.ntmps16
    go_wp2_with (first | (go_at_call 27; refine (upper_any _ _).mono ?_; rintro e w' ⟨rfl, rfl⟩) | (go_at_call 24; refine (hr _).mono ?_; rintro e w' ⟨rfl, rfl⟩))
    all_goals go_ret
    all_goals refine ⟨ret_bool ?_, rfl⟩
    all_goals rw [HE.out]
    all_goals first | (simp_all; done) | (simp_all; omega) | (simp_all; intros; omega)
  · have HE : Hid (vrB s.data.toList = false) := by
      show _ = _
      unfold vrB
      rw [nil_of_zero hp]; rfl
    go_enter Try.func16, Try.ntmps16
    go_wp2_with (first | (go_at_call 27; refine (upper_any _ _).mono ?_; rintro e w' ⟨rfl, rfl⟩) | (go_at_call 24; refine (hr _).mono ?_; rintro e w' ⟨rfl, rfl⟩))
    all_goals go_ret
    all_goals exact ⟨ret_bool HE.out.symm, rfl⟩

end Go.Proofs.Ytkfbjkopmgeklaa
