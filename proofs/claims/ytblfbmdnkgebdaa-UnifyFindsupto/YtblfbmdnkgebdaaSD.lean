/-
  The place of a variable's bind: a binary search.
-/
import Derived.Test.YtblfbmdnkgebdaaSA
import Derived.Test.YtblfbmdnkgebdaaQF
import Derived.Lib.Walk
import Derived.Lib.Small
namespace Go.Proofs.Ytblfbmdnkgebdaa
open Go.RowKit

set_option maxHeartbeats 400000 in
theorem nan_any (x : Int) (w : World) : Calls Try.prog 93 #[.int .i64 x] w fun e w' => e = .returned (.bool false) ∧ w' = w := by
  go_enter Try.func93, Try.ntmps93
  go_wp2
  go_ret
  exact ⟨ret_bool (by simp), rfl⟩

set_option maxHeartbeats 400000 in
theorem cmpInt_any (x y : Int) (w : World) :
    Calls Try.prog 86 #[.int .i64 x, .int .i64 y] w fun e w' => e = .returned (.int .i64 (Lib.compareInt x y)) ∧ w' = w := by
  go_enter Try.func86, Try.ntmps86
  go_wp2_with (go_at_call 93; refine (nan_any _ _).mono ?_; rintro e w' ⟨rfl, rfl⟩)
  all_goals go_ret
  all_goals refine ⟨ret_i64 ?_, rfl⟩
  all_goals (unfold Lib.compareInt; split <;> (try split) <;> omega)

set_option maxHeartbeats 400000 in
theorem pcmp_any (x : Bd) (n : Int) (s : Value) (w : World) (hs : ∃ a m c, s = .slice a m c) :
    Calls Try.prog 85 #[bval x s, .int .i64 n] w fun e w' => e = .returned (.int .i64 (Lib.compareInt x.1 n)) ∧ w' = w.alloc (bbox x s) := by
  obtain ⟨a, m, c, rfl⟩ := hs
  obtain ⟨t0, t1, t2, t3⟩ := bbox_cells w x (.slice a m c)
  go_enter Try.func85, Try.ntmps85
  go_wp2_with (go_at_call 86; refine (cmpInt_any _ _ _).mono ?_; rintro e w' ⟨rfl, rfl⟩)
  go_ret
  exact ⟨rfl, rfl⟩

/-- Rising by the variables. -/
def Rising (l : List Bd) : Prop := ∀ i j (hj : j < l.length) (hij : i < j), l[i].1 < l[j].1

theorem IsSub.rising {l : List Bd} (h : IsSub l) : Rising l := by
  intro i j hj hij
  induction j with
  | zero => omega
  | succ j ih =>
    have hk := h.2 (j + 1) hj
    rw [prv_succ l j (by omega)] at hk
    unfold okb at hk
    simp only [Bool.and_eq_true, decide_eq_true_eq] at hk
    by_cases e : i = j
    · subst e; exact hk.1.1.1
    · have := ih (by omega) (by omega)
      omega

/-- Where the search stands: all ahead of i are less, none from j on is. -/
structure Srch (l : List Bd) (n : Int) (i j : Nat) : Prop where
  le : i ≤ j
  lt : j ≤ l.length
  lo : ∀ k (h : k < l.length), k < i → l[k].1 < n
  hi : ∀ k (h : k < l.length), j ≤ k → n ≤ l[k].1

/-- Whether there is a bind, at that place. -/
structure Found (l : List Bd) (n : Int) (p : Nat) (f : Bool) : Prop where
  yes : f = true → ∃ h : p < l.length, l[p].1 = n
  no : f = false → ∀ k (h : k < l.length), l[k].1 ≠ n

set_option maxRecDepth 100000 in
set_option maxHeartbeats 4000000 in
theorem search_any (l : List Bd) (n : Int) (v : Value) (w : World) (hl : BindsAt w v l) (hr : Rising l) (hlen : l.length ≤ 4000) :
    Calls Try.prog 84 #[v, .int .i64 n, .func (.func 85) #[] #[]] w fun e w' => (∃ (p : Nat) (f : Bool), e = .returned (.tuple #[.int .i64 p, .bool f]) ∧ Found l n p f) ∧ Below w.heap.size w w' := by
  obtain ⟨a, c, rfl⟩ := hl.slice
  have HL : Hid (BindsAt w (.slice a l.length c) l) := hl
  clear hl
  go_enter Try.func84, Try.ntmps84
  go_wp2
  go_loopw [9, 10] (fun vi vj wr => ∃ i j : Nat, vi = .int .i64 i ∧ vj = .int .i64 j ∧ Srch l n i j ∧ Below w.heap.size w wr) (fun vi vj _ => (intOf vj).toNat - (intOf vi).toNat)
  case atStart => exact ⟨0, l.length, rfl, rfl, ⟨Nat.zero_le _, Nat.le_refl _, fun k _ h => absurd h (by omega), fun k h h' => absurd h (by omega)⟩, Below.refl _ _⟩
  case round =>
    obtain ⟨i, j, rfl, rfl, hs, hb⟩ := hrel
    obtain ⟨hle, hjl, hlo, hhi⟩ := hs
    by_cases hij : i < j
    · have hm : (i + j) / 2 < l.length := by omega
      obtain ⟨b, o, s, rfl, hB0⟩ := HL.out.nth hm
      have hB := hB0.keep hb
      have hxv : Hid (∃ x, l[(i + j) / 2] = x) := ⟨_, rfl⟩
      obtain ⟨x, hx⟩ := hxv.out
      rw [hx] at hB
      obtain ⟨sa, sc, rfl, _, _⟩ := hB.sub.slice
      have hc := pcmp_any x n (.slice sa x.2.args.length sc) wr ⟨_, _, _, rfl⟩
      have HB : Hid (Below w.heap.size w (wr.alloc (bbox x (.slice sa x.2.args.length sc)))) := hb.trans ((below_box wr _).mono hb.size)
      obtain ⟨g0, g1, g2, g3⟩ : wr.cell? ⟨b, o + ((i + j) / 2) * 4, none⟩ = some (.int .i64 x.1) ∧ wr.cell? ⟨b, o + ((i + j) / 2) * 4 + 1, none⟩ = some (.int .i64 x.2.v) ∧ wr.cell? ⟨b, o + ((i + j) / 2) * 4 + 2, none⟩ = some (.string x.2.fn) ∧ wr.cell? ⟨b, o + ((i + j) / 2) * 4 + 3, none⟩ = some (.slice sa x.2.args.length sc) := ⟨hB.c0, hB.c1, hB.c2, hB.c3⟩
      have HX : Hid (l[(i + j) / 2] = x) := hx
      have HS : Hid ((∀ k (h : k < l.length), k < i → l[k].1 < n) ∧ (∀ k (h : k < l.length), j ≤ k → n ≤ l[k].1)) := ⟨hlo, hhi⟩
      clear hB hB0 hb hx hxv hlo hhi
      by_cases hlt : x.1 < n
      · have e1 : Lib.compareInt x.1 n = -1 := by unfold Lib.compareInt; rw [if_pos hlt]
        rw [e1] at hc
        clear e1
        go_wp2_with (first | (go_at_call 85; refine hc.mono ?_; rintro e w2 ⟨rfl, rfl⟩))
        go_roundw
        case rel =>
          refine ⟨(i + j) / 2 + 1, j, by rw [show ((i : Int) + (j : Int)) / 2 + 1 = (((i + j) / 2 + 1 : Nat) : Int) by omega], rfl, ⟨by omega, hjl, fun k h hk => ?_, HS.out.2⟩, HB⟩
          by_cases e : k = (i + j) / 2
          · subst e; rw [HX.out]; exact hlt
          · have := hr k ((i + j) / 2) hm (by omega)
            rw [HX.out] at this
            omega
        case measure => simp [intOf]; omega
      · have e1 : 0 ≤ Lib.compareInt x.1 n := by unfold Lib.compareInt; rw [if_neg hlt]; split <;> omega
        obtain ⟨cv, hcv⟩ : ∃ cv, Lib.compareInt x.1 n = cv := ⟨_, rfl⟩
        rw [hcv] at hc e1
        clear hcv
        go_wp2_with (first | (go_at_call 85; refine hc.mono ?_; rintro e w2 ⟨rfl, rfl⟩))
        go_roundw
        case rel =>
          refine ⟨i, (i + j) / 2, rfl, by rw [show ((i : Int) + (j : Int)) / 2 = (((i + j) / 2 : Nat) : Int) by omega], ⟨by omega, by omega, HS.out.1, fun k h hk => ?_⟩, HB⟩
          by_cases e : k = (i + j) / 2
          · subst e; rw [HX.out]; omega
          · have := hr ((i + j) / 2) k h (by omega)
            rw [HX.out] at this
            omega
        case measure => simp [intOf]; omega
    · obtain rfl : j = i := by omega
      by_cases hin : j < l.length
      · obtain ⟨b, o, s, rfl, hB0⟩ := HL.out.nth hin
        have hB := hB0.keep hb
        obtain ⟨x, hx⟩ : ∃ x, l[j] = x := ⟨_, rfl⟩
        rw [hx] at hB
        obtain ⟨sa, sc, rfl, _, _⟩ := hB.sub.slice
        have hc := pcmp_any x n (.slice sa x.2.args.length sc) wr ⟨_, _, _, rfl⟩
        have HB : Hid (Below w.heap.size w (wr.alloc (bbox x (.slice sa x.2.args.length sc)))) := hb.trans ((below_box wr _).mono hb.size)
        obtain ⟨g0, g1, g2, g3⟩ : wr.cell? ⟨b, o + j * 4, none⟩ = some (.int .i64 x.1) ∧ wr.cell? ⟨b, o + j * 4 + 1, none⟩ = some (.int .i64 x.2.v) ∧ wr.cell? ⟨b, o + j * 4 + 2, none⟩ = some (.string x.2.fn) ∧ wr.cell? ⟨b, o + j * 4 + 3, none⟩ = some (.slice sa x.2.args.length sc) := ⟨hB.c0, hB.c1, hB.c2, hB.c3⟩
        by_cases heq : x.1 = n
        · have HF : Hid (Found l n j true) := ⟨fun _ => ⟨hin, by rw [hx]; exact heq⟩, fun h => by cases h⟩
          have e1 : Lib.compareInt x.1 n = 0 := by unfold Lib.compareInt; rw [if_neg (by omega), if_neg (by omega)]
          rw [e1] at hc
          clear e1 heq hx hB hB0 hlo hhi hr
          go_wp2_with (first | (go_at_call 85; refine hc.mono ?_; rintro e w2 ⟨rfl, rfl⟩))
          go_ret2
          exact ⟨⟨j, true, rfl, HF⟩, HB⟩
        · have HF : Hid (Found l n j false) := ⟨fun h => (by cases h), fun _ k h => by
            have h1 := hhi j hin (Nat.le_refl _)
            rw [hx] at h1
            by_cases e : k < j
            · have := hlo k h e; omega
            · by_cases e' : k = j
              · subst e'; rw [hx]; exact heq
              · have := hr j k h (by omega)
                rw [hx] at this
                omega⟩
          have e1 : Lib.compareInt x.1 n ≠ 0 := by unfold Lib.compareInt; split <;> (try split) <;> omega
          obtain ⟨cv, hcv⟩ : ∃ cv, Lib.compareInt x.1 n = cv := ⟨_, rfl⟩
          rw [hcv] at hc e1
          have hd : (cv == 0) = false := decide_eq_false e1
          clear hcv heq hx hB hB0 hlo hhi hr
          go_wp2_with (first | (go_at_call 85; refine hc.mono ?_; rintro e w2 ⟨rfl, rfl⟩))
          go_ret2
          exact ⟨⟨j, false, rfl, HF⟩, HB⟩
      · have HF : Hid (Found l n j false) := ⟨fun h => (by cases h), fun _ k h => by have := hlo k h (by omega); omega⟩
        clear hlo hhi hr
        go_wp2
        go_ret2
        exact ⟨⟨j, false, rfl, HF⟩, hb⟩

set_option maxHeartbeats 1000000 in
theorem place_any (l : List Bd) (n : Int) (v : Value) (w : World) (hl : BindsAt w v l) (hr : Rising l) (hlen : l.length ≤ 4000) :
    Calls Try.prog 69 #[v, .int .i64 n] w fun e w' => (∃ (p : Nat) (f : Bool), e = .returned (.tuple #[.int .i64 p, .bool f]) ∧ Found l n p f) ∧ Below w.heap.size w w' := by
  have hs := search_any l n v w hl hr hlen
  obtain ⟨a, c, rfl⟩ := hl.slice
  go_enter Try.func69, Try.ntmps69
  go_wp2_with (first | (go_at_call 84; refine hs.mono ?_; rintro e w2 ⟨⟨p, f, rfl, hf⟩, hb⟩))
  go_ret2
  exact ⟨⟨p, f, rfl, hf⟩, hb⟩

end Go.Proofs.Ytblfbmdnkgebdaa
