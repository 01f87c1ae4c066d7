/-
  QuotaBounds: the walk of the law.
-/
import Derived.Test.YtiaebahmbgmajaaNumbers
import Derived.Maps.AppendAt
import Derived.SizedLaws
namespace Go.Proofs.Ytiaebahmbgmajaa
open Go.RowKit

theorem row_form {W : World} {base e size n : Nat} {v : Value} {xs : List Value} (h : W.ownsRow base e size v n xs) : ∃ a c, v = .slice a n c ∧ n ≤ c ∧ c ≤ 9223372036854775807 ∧ (a = none → n = 0 ∧ c = 0) := by
  rcases h.2 with ⟨rfl, rfl⟩ | ⟨g, cap, cur, rfl, _, _, h1, h2, _⟩
  · exact ⟨none, 0, rfl, Nat.le_refl _, by omega, fun _ => ⟨rfl, rfl⟩⟩
  · exact ⟨some ⟨g, 0, none⟩, cap, rfl, h1, by unfold maxLen at h2; omega, fun h => by cases h⟩

theorem addr_add (b o j : Nat) : (⟨b, o, none⟩ : Addr).add j = ⟨b, o + j, none⟩ := by unfold Addr.add; split <;> simp_all

/-- A row of the call's own is another block than a block of another type. -/
theorem row_ne {W : World} {base e size n t b : Nat} {v : Value} {xs : List Value} {cur : Array Value} {fr : Nat × Nat} (h : W.ownsRow base e size v n xs) (hb : W.heap[b]? = some (.cells cur t fr)) (hne : t ≠ e) : v.ownBlock ≠ some b := by
  rcases h.2 with ⟨rfl, _⟩ | ⟨g, cap, cur', rfl, _, hg, _⟩
  · simp [Value.ownBlock]
  · intro e'
    obtain rfl : g = b := by simpa [Value.ownBlock] using e'
    rw [hg] at hb
    simp at hb
    exact hne hb.2.1.symm

theorem Acc.alloc {W : World} {Ba g : Nat} {cs : List Cnt} (h : Acc W Ba g cs) (o : Obj) : Acc (W.alloc o) Ba g cs :=
  ⟨(Below.heap_alloc _ _ _ h.acc.lt).trans h.acc, (Below.heap_alloc _ _ _ h.cnt.lt).trans h.cnt, h.good⟩
theorem Acc.grown {W W' : World} {Ba g base n : Nat} {cs : List Cnt} {v : Value} {xs : List Value} (h : Acc W Ba g cs) (hr : W.ownsRow base 3 1 v n xs) (hg : W.grownBy W' v.ownBlock) : Acc W' Ba g cs :=
  ⟨(hg.block Ba h.acc.lt (row_ne hr h.acc (by decide)).symm).trans h.acc, (hg.block g h.cnt.lt (row_ne hr h.cnt (by decide)).symm).trans h.cnt, h.good⟩
theorem Tch.row {Ba g m base n : Nat} {w w' : World} {v : Value} {xs : List Value} (h : Tch Ba w w') (ha : AAt w Ba g m) (hr : w.ownsRow base 3 1 v n xs) : w'.ownsRow base 3 1 v n xs := by
  have hne := row_ne hr ha (by decide)
  refine ⟨hr.1, ?_⟩
  rcases hr.2 with hn | ⟨k, cap, cur, rfl, hb, hg, rest⟩
  · exact .inl hn
  · exact .inr ⟨k, cap, cur, rfl, hb, (h.block k (Array.getElem?_eq_some_iff.1 hg).1 (fun e => hne (by rw [← e]; rfl))).trans hg, rest⟩

theorem used1 (Ba g : Nat) (L U P : Int) (w : World) (h : Acc w Ba g [(L, U, P)]) : Calls Try.prog 25 #[.pointer (some ⟨Ba, 0, none⟩), .int .i64 0] w fun e w' => e = .returned (.int .i64 U) ∧ ∃ o, w' = w.alloc o :=
  used_in Ba g 0 [(L, U, P)] w h.acc h.cnt (by simp)
theorem peak1 (Ba g : Nat) (L U P : Int) (w : World) (h : Acc w Ba g [(L, U, P)]) : Calls Try.prog 26 #[.pointer (some ⟨Ba, 0, none⟩), .int .i64 0] w fun e w' => e = .returned (.int .i64 P) ∧ ∃ o, w' = w.alloc o :=
  peak_in Ba g 0 [(L, U, P)] w h.acc h.cnt (by simp)

theorem take1_no (Ba g : Nat) (L U P x : Int) (w : World) (h : Acc w Ba g [(L, U, P)]) (hx : x < 0 ∨ L - U < x) : Calls Try.prog 17 #[.pointer (some ⟨Ba, 0, none⟩), .int .i64 0, .int .i64 x] w fun e w' => (∃ r, e = .returned (.int .i64 r) ∧ (r == 0) = false) ∧ Tch Ba w w' ∧ ∃ g', Acc w' Ba g' [(L, U, P)] := by
  refine (take_any Ba g 0 x _ w h).mono ?_
  rintro e w' ⟨rfl, ht, g', ha⟩
  have e1 : takeC [(L, U, P)] 0 x = [(L, U, P)] := by
    unfold takeC
    split
    · rename_i hh
      rw [if_pos (by simp; omega)]
    · rfl
  rw [e1] at ha
  refine ⟨⟨_, rfl, ?_⟩, ht, g', ha⟩
  unfold takeE
  split
  · rw [if_pos (by simp; omega)]; rfl
  · rfl
theorem take1_yes (Ba g : Nat) (L U P x : Int) (w : World) (h : Acc w Ba g [(L, U, P)]) (h0 : 0 ≤ x) (hx : x ≤ L - U) : Calls Try.prog 17 #[.pointer (some ⟨Ba, 0, none⟩), .int .i64 0, .int .i64 x] w fun e w' => e = .returned (.int .i64 0) ∧ Tch Ba w w' ∧ ∃ g' P', Acc w' Ba g' [(L, U + x, P')] := by
  refine (take_any Ba g 0 x _ w h).mono ?_
  rintro e w' ⟨rfl, ht, g', ha⟩
  have e1 : takeE [(L, U, P)] 0 x = 0 := by
    unfold takeE
    rw [dif_pos ⟨by omega, by simp, h0⟩, if_neg (by simp; omega)]
  have e2 : takeC [(L, U, P)] 0 x = [(L, U + x, if P < U + x then U + x else P)] := by
    unfold takeC
    rw [dif_pos ⟨by omega, by simp, h0⟩, if_neg (by simp; omega)]
    rfl
  rw [e2] at ha
  exact ⟨by rw [e1], ht, g', _, ha⟩
theorem give1_yes (Ba g : Nat) (L U P x : Int) (w : World) (h : Acc w Ba g [(L, U, P)]) (h0 : 0 ≤ x) (hx : x ≤ U) (hU : U ≤ 9223372036854775807) : Calls Try.prog 19 #[.pointer (some ⟨Ba, 0, none⟩), .int .i64 0, .int .i64 x] w fun e w' => e = .returned (.tuple #[]) ∧ Tch Ba w w' ∧ ∃ g', Acc w' Ba g' [(L, U - x, P)] := by
  refine (give_any Ba g 0 x _ w h (by unfold Fit; omega)).mono ?_
  rintro e w' ⟨rfl, ht, g', ha⟩
  have e2 : giveC [(L, U, P)] 0 x = [(L, U - x, P)] := by
    have : subS U x = U - x := by unfold subS lo; (repeat' split) <;> omega
    unfold giveC
    rw [dif_pos ⟨by omega, by simp, h0⟩]
    simp [gv, this]
  rw [e2] at ha
  exact ⟨rfl, ht, g', ha⟩

theorem new_one (w : World) (L : Int) (h : 0 ≤ L) (hL : L ≤ 9223372036854775807) : Calls Try.prog 15 #[.slice (some ⟨w.heap.size, 0, none⟩) 1 1] (w.alloc (.cells #[.int .i64 L] 3)) fun e w' => e = .returned (.tuple #[.pointer (some ⟨w.heap.size + 2, 0, none⟩), .int .i64 0]) ∧ Acc w' (w.heap.size + 2) (w.heap.size + 1) [(L, 0, 0)] ∧ Below w.heap.size w w' := by
  refine (new_good _ [L] _ (ints_lit w [L] (0, 0) (by simp)) (by simpa using hL) ⟨by simp, by simp, by simpa using h⟩).mono ?_
  rintro e w' ⟨rfl, ha, hb⟩
  rw [World.size_alloc] at ha hb
  exact ⟨by simp, ha, ((Below.refl _ w).alloc (Nat.le_refl _) _).trans (hb.mono (by omega))⟩
theorem new_neg (w : World) (L : Int) (h : L < 0) : Calls Try.prog 15 #[.slice (some ⟨w.heap.size, 0, none⟩) 1 1] (w.alloc (.cells #[.int .i64 L] 3)) fun e w' => e = .returned (.tuple #[.pointer none, .int .i64 1]) ∧ Below w.heap.size w w' := by
  refine (new_bad _ [L] _ (ints_lit w [L] (0, 0) (by simp)) (by simp; omega) (fun hh => by have := hh.2.2 L (by simp); omega)).mono ?_
  rintro e w' ⟨rfl, hb⟩
  rw [World.size_alloc] at hb
  exact ⟨rfl, ((Below.refl _ w).alloc (Nat.le_refl _) _).trans (hb.mono (by omega))⟩

set_option maxHeartbeats 400000 in
theorem bounds_neg (L : Int) (v : Value) (w : World) (h : L < 0) (hv : ∃ a n c, v = .slice a n c) : Calls Try.prog 5 #[.int .i64 L, v] w fun e w' => e = .returned (.bool true) ∧ Below w.heap.size w w' := by
  obtain ⟨a, n, c, rfl⟩ := hv
  go_enter Try.func5, Try.ntmps5
  go_wp2_with (first
    | (go_at_call 15; refine (new_neg w L h).mono ?_; rintro e w1 ⟨rfl, hb1⟩)
    | (go_at_call 14; refine (alive_any _).mono ?_; rintro e w2 ⟨rfl, hb2⟩))
  go_ret
  exact ⟨rfl, hb1.trans (hb2.mono hb1.size)⟩

end Go.Proofs.Ytiaebahmbgmajaa
