/-
  Show of both sides; unquoted.
-/
import Derived.Test.YtkfbjkopmgeklaaD
namespace Go.Proofs.Ytkfbjkopmgeklaa
open Go.RowKit Go.Shelf

def esc (c : UInt8) : List UInt8 := if esB c.toNat then [92, c] else [c]
def escL (l : List UInt8) : List UInt8 := l.flatMap esc
theorem escL_cons (c : UInt8) (r : List UInt8) : escL (c :: r) = esc c ++ escL r := rfl
theorem escL_len (l : List UInt8) : (escL l).length ≤ 2 * l.length := by
  induction l with
  | nil => simp [escL]
  | cons c r ih =>
    rw [escL_cons]
    have : (esc c).length ≤ 2 := by unfold esc; split <;> simp
    simp; omega
def shL (l : List UInt8) : List UInt8 := if plB l then l else 39 :: (escL l ++ [39])

theorem ret_str {a b : ByteArray} (h : a = b) : Ending.returned (.string a) = .returned (.string b) := by rw [h]

set_option maxHeartbeats 2000000 in
set_option maxRecDepth 100000 in
theorem show_any (s : ByteArray) (w : World) (hs : s.size ≤ 2097152) : Calls Try.prog 17 #[.string s] w fun e w' => e = .returned (.string (ofL (shL s.data.toList))) ∧ Below w.heap.size w w' := by
  have hc : ∀ W, Calls Try.prog 11 #[.string s] W fun e w' => e = .returned (.bool (plB s.data.toList)) ∧ w' = W := fun W => plain_any s W (by omega)
  cases hb : plB s.data.toList
  · rw [hb] at hc
    have HS : Hid (shL s.data.toList = 39 :: (escL s.data.toList ++ [39])) := by show _ = _; unfold shL; rw [hb]; rfl
    have HN : Hid (Bd w.heap.size [] w (w.alloc (.cells #[.pointer none, .slice none 0 0] 48))) := Bd.new w
    have HL : Hid ((escL s.data.toList).length ≤ 2 * s.size) := by have := escL_len s.data.toList; rwa [size_len] at this
    clear hb
    go_enter Try.func17, Try.ntmps17
    go_wp2_with (first | (go_at_call 11; refine (hc _).mono ?_; rintro e w' ⟨rfl, rfl⟩))
    refine (HN.out.write 39 (by simp)).mono ?_
    rintro e W1 ⟨rfl, h1⟩
    have HB1 : Hid (Bd w'.heap.size ([] ++ [39]) w' W1) := h1
    clear h1 hc
    go_wp2
    go_loopw [4, 11] (fun _ vi wr => ∃ i : Nat, vi = .int .i64 i ∧ i ≤ s.size ∧ Hid (∃ acc, Bd w'.heap.size acc w' wr ∧ acc ++ escL (s.data.toList.drop i) = 39 :: escL s.data.toList)) (fun _ vi _ => s.size - (intOf vi).toNat)
    case atStart => exact ⟨0, rfl, Nat.zero_le _, _, HB1.out, by simp⟩
    case round =>
      obtain ⟨i, rfl, hi, acc, hB, hacc⟩ := hrel
      by_cases hlt : i < s.size
      · have hlen : acc.length ≤ 2 * s.size + 1 := by have := congrArg List.length hacc; simp at this; have := HL.out; omega
        rw [drop_cons s i hlt, escL_cons] at hacc
        have HA : Hid (acc ++ (esc s[i] ++ escL (s.data.toList.drop (i + 1))) = 39 :: escL s.data.toList) := hacc
        have HB : Hid (Bd w'.heap.size acc w' wr ∧ acc.length ≤ 2 * s.size + 1) := ⟨hB, hlen⟩
        clear hB hacc hlen
        cases hw : esB s[i].toNat
        · have HW : Hid (esc s[i] = [s[i]]) := by show _ = _; unfold esc; rw [hw]; rfl
          go_wp2_with (go_at_call 30; refine (escaped_any _ _).mono ?_; rintro e wq ⟨rfl, rfl⟩)
          refine (HB.out.1.write s[i] (by have := HB.out.2; omega)).mono ?_
          rintro e W2 ⟨rfl, h2⟩
          have HB2 : Hid (∃ acc, Bd w'.heap.size acc w' W2 ∧ acc ++ escL (s.data.toList.drop (i + 1)) = 39 :: escL s.data.toList) := ⟨_, h2, by rw [← HA.out, HW.out]; simp⟩
          clear h2
          go_wp2
          go_roundw
          case rel => exact ⟨i + 1, by go_num, by omega, HB2.out⟩
          case measure => simp [intOf]; omega
        · have HW : Hid (esc s[i] = [92, s[i]]) := by show _ = _; unfold esc; rw [hw]; rfl
          go_wp2_with (go_at_call 30; refine (escaped_any _ _).mono ?_; rintro e wq ⟨rfl, rfl⟩)
          refine (HB.out.1.write 92 (by have := HB.out.2; omega)).mono ?_
          rintro e W2 ⟨rfl, h2⟩
          have HB2 : Hid (Bd w'.heap.size (acc ++ [92]) w' W2) := h2
          clear h2
          go_wp2_with fail
          refine (HB2.out.write s[i] (by have := HB.out.2; simp; omega)).mono ?_
          rintro e W3 ⟨rfl, h3⟩
          have HB3 : Hid (∃ acc, Bd w'.heap.size acc w' W3 ∧ acc ++ escL (s.data.toList.drop (i + 1)) = 39 :: escL s.data.toList) := ⟨_, h3, by rw [← HA.out, HW.out]; simp⟩
          clear h3
          go_wp2
          go_roundw
          case rel => exact ⟨i + 1, by go_num, by omega, HB3.out⟩
          case measure => simp [intOf]; omega
      · rw [drop_end s i (by omega)] at hacc
        have HA : Hid (acc = 39 :: escL s.data.toList) := by show _ = _; rw [← hacc]; simp [escL]
        have HB : Hid (Bd w'.heap.size acc w' wr) := hB
        clear hB hacc
        go_wp2_with fail
        refine (HB.out.write 39 (by have := HA.out; rw [this]; have := HL.out; simp; omega)).mono ?_
        rintro e W2 ⟨rfl, h2⟩
        have HB2 : Hid (Bd w'.heap.size (acc ++ [39]) w' W2) := h2
        clear h2
        go_wp2_with fail
        refine HB2.out.string.mono ?_
        rintro e W3 ⟨rfl, h3⟩
        go_wp2
        go_ret
        refine ⟨ret_str ?_, h3⟩
        rw [HA.out, HS.out]; rfl
  · rw [hb] at hc
    have HS : Hid (shL s.data.toList = s.data.toList) := by show _ = _; unfold shL; rw [hb]; rfl
    clear hb
    go_enter Try.func17, Try.ntmps17
    go_wp2_with (first | (go_at_call 11; refine (hc _).mono ?_; rintro e w' ⟨rfl, rfl⟩))
    go_ret
    refine ⟨ret_str ?_, Below.refl _ _⟩
    rw [HS.out, ofL_self]

end Go.Proofs.Ytkfbjkopmgeklaa
