/-
  The chapter's example.
-/
import Derived.Test.YtiaebahmbgmajaaG
namespace Go.Proofs.Ytiaebahmbgmajaa
open Go.RowKit

/-- Which limits make an account. -/
def newOk (xs : List Int) : Prop := 0 < xs.length ∧ xs.length ≤ 16 ∧ ∀ x ∈ xs, 0 ≤ x

theorem new_bad (v : Value) (xs : List Int) (w : World) (hv : Ints w v xs) (hfit : ∀ x ∈ xs, x ≤ 9223372036854775807) (h : ¬ newOk xs) :
    Calls Try.prog 15 #[v] w fun e w' => e = .returned (.tuple #[.pointer none, .int .i64 1]) ∧ Below w.heap.size w w' := by
  by_cases hl : xs.length = 0 ∨ 16 < xs.length
  · refine (new_len v xs w hv hl).mono ?_
    rintro e w' ⟨rfl, rfl⟩
    exact ⟨rfl, Below.refl _ _⟩
  · refine (new_walk v xs w hv (by omega) (by omega) hfit).mono ?_
    rintro e w' (⟨rfl, _, hb⟩ | ⟨rfl, hall, _⟩)
    · exact ⟨rfl, hb⟩
    · exact absurd ⟨by omega, by omega, hall⟩ h

theorem new_good (v : Value) (xs : List Int) (w : World) (hv : Ints w v xs) (hfit : ∀ x ∈ xs, x ≤ 9223372036854775807) (h : newOk xs) :
    Calls Try.prog 15 #[v] w fun e w' => e = .returned (.tuple #[.pointer (some ⟨w.heap.size + 1, 0, none⟩), .int .i64 0]) ∧ Acc w' (w.heap.size + 1) w.heap.size (xs.map fun l => (l, 0, 0)) ∧ Below w.heap.size w w' := by
  refine (new_walk v xs w hv h.1 h.2.1 hfit).mono ?_
  rintro e w' (⟨rfl, ⟨x, hx, hn⟩, _⟩ | ⟨rfl, _, ha, hb⟩)
  · have := h.2.2 x hx; omega
  · exact ⟨rfl, ha, hb⟩

/-- A new block of numbers. -/
theorem ints_lit (W : World) (xs : List Int) (fr : Nat × Nat) (hl : xs.length ≤ 9223372036854775807) : Ints (W.alloc (.cells (xs.map (Value.int .i64)).toArray 3 fr)) (.slice (some ⟨W.heap.size, 0, none⟩) xs.length xs.length) xs := by
  refine ⟨_, _, rfl, Nat.le_refl _, hl, fun _ => ⟨W.heap.size, 0, rfl, fun i hi => ?_⟩⟩
  rw [cell_of_row _ W.heap.size (0 + i) _ 3 fr (heap_alloc_new W _), List.getD_eq_getElem?_getD]
  simp [List.getElem?_eq_getElem hi]

theorem new_two (w : World) : Calls Try.prog 15 #[.slice (some ⟨w.heap.size, 0, none⟩) 1 1] (w.alloc (.cells #[.int .i64 2] 3)) fun e w' => e = .returned (.tuple #[.pointer (some ⟨w.heap.size + 2, 0, none⟩), .int .i64 0]) ∧ Acc w' (w.heap.size + 2) (w.heap.size + 1) [(2, 0, 0)] ∧ Below w.heap.size w w' := by
  refine (new_good _ [2] _ (ints_lit w [2] (0, 0) (by decide)) (by decide) ⟨by decide, by decide, by decide⟩).mono ?_
  rintro e w' ⟨rfl, ha, hb⟩
  rw [World.size_alloc] at ha hb
  exact ⟨by simp, ha, ((Below.refl _ w).alloc (Nat.le_refl _) _).trans (hb.mono (by omega))⟩

theorem take_two1 (w : World) (Ba g : Nat) (h : Acc w Ba g [(2, 0, 0)]) : Calls Try.prog 17 #[.pointer (some ⟨Ba, 0, none⟩), .int .i64 0, .int .i64 2] w fun e w' => e = .returned (.int .i64 0) ∧ Tch Ba w w' ∧ ∃ g', Acc w' Ba g' [(2, 2, 2)] := by
  have := take_any Ba g 0 2 _ w h
  rwa [show takeE [(2, 0, 0)] 0 2 = 0 by decide, show takeC [(2, 0, 0)] 0 2 = [(2, 2, 2)] by decide] at this
theorem take_two2 (w : World) (Ba g : Nat) (h : Acc w Ba g [(2, 2, 2)]) : Calls Try.prog 17 #[.pointer (some ⟨Ba, 0, none⟩), .int .i64 0, .int .i64 1] w fun e w' => e = .returned (.int .i64 5) ∧ Tch Ba w w' := by
  have := take_any Ba g 0 1 _ w h
  rw [show takeE [(2, 2, 2)] 0 1 = 5 by decide] at this
  exact this.mono fun e w' h => ⟨h.1, h.2.1⟩

theorem add_ex (w : World) : Calls Try.prog 8 #[.int .i64 9223372036854775807, .int .i64 5] w fun e w' => e = .returned (.int .i64 9223372036854775807) ∧ w' = w := by
  have := add_any 9223372036854775807 5 w (by unfold Fit; omega) (by unfold Fit; omega)
  rwa [show addS 9223372036854775807 5 = 9223372036854775807 by decide] at this
theorem sub_ex (w : World) : Calls Try.prog 10 #[.int .i64 3, .int .i64 5] w fun e w' => e = .returned (.int .i64 0) ∧ w' = w := by
  have := sub_any 3 5 w (by unfold Fit; omega) (by unfold Fit; omega)
  rwa [show subS 3 5 = 0 by decide] at this
theorem mul_ex (w : World) : Calls Try.prog 12 #[.int .i64 3, .int .i64 5] w fun e w' => e = .returned (.int .i64 15) ∧ w' = w := by
  have := mul_any 3 5 w
  rwa [show mulS 3 5 = 15 by decide] at this

set_option maxHeartbeats 1000000 in
theorem alive_any (w : World) : Calls Try.prog 14 #[] w fun e w' => e = .returned (.bool true) ∧ Below w.heap.size w w' := by
  go_enter Try.func14, Try.ntmps14
  go_wp2_with (first
    | (go_at_call 15; refine (new_two w).mono ?_; rintro e w1 ⟨rfl, ha1, hb1⟩; have HB1 : Hid (Below w.heap.size w w1) := hb1; have HA1 : Hid (w.heap.size + 2 < w1.heap.size) := ha1.acc.lt; clear hb1)
    | (go_at_call 17; refine (take_two2 w2 _ _ ha2).mono ?_; rintro e w3 ⟨rfl, ht3⟩; have HT3 : Hid (Tch (w.heap.size + 2) w2 w3) := ht3; clear ht3 ha2)
    | (go_at_call 17; refine (take_two1 w1 _ _ ha1).mono ?_; rintro e w2 ⟨rfl, ht2, g2, ha2⟩; have HT2 : Hid (Tch (w.heap.size + 2) w1 w2) := ht2; clear ht2 ha1)
    | (go_at_call 8; refine (add_ex _).mono ?_; rintro e w' ⟨rfl, rfl⟩)
    | (go_at_call 10; refine (sub_ex _).mono ?_; rintro e w' ⟨rfl, rfl⟩)
    | (go_at_call 12; refine (mul_ex _).mono ?_; rintro e w' ⟨rfl, rfl⟩))
  go_ret
  have h12 := HT2.out.trans HT3.out
  exact ⟨rfl, HB1.out.trans (h12.below (by omega) HA1.out)⟩

end Go.Proofs.Ytiaebahmbgmajaa
