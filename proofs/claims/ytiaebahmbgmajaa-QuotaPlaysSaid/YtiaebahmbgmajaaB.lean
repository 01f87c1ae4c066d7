/-
  Accounts: what lies in memory; the walks of has, of, Used, Limit, Peak.
-/
import Derived.Test.YtiaebahmbgmajaaA
namespace Go.Proofs.Ytiaebahmbgmajaa
open Go.RowKit

/-- A kind's limit, what is used, and its peak. -/
abbrev Cnt := Int × Int × Int

def cflat (cs : List Cnt) : List Value := cs.flatMap fun c => [.int .i64 c.1, .int .i64 c.2.1, .int .i64 c.2.2]

theorem cflat_len : ∀ cs : List Cnt, (cflat cs).length = cs.length * 3
  | [] => rfl
  | c :: r => by
    have := cflat_len r
    simp only [cflat, List.flatMap_cons, List.length_append, List.length_cons, List.length_nil] at this ⊢
    omega

theorem cflat_cons (c : Cnt) (r : List Cnt) : cflat (c :: r) = .int .i64 c.1 :: .int .i64 c.2.1 :: .int .i64 c.2.2 :: cflat r := rfl

theorem cflat_at : ∀ (cs : List Cnt) (k : Nat) (h : k < cs.length), (cflat cs)[k * 3]? = some (.int .i64 cs[k].1) ∧ (cflat cs)[k * 3 + 1]? = some (.int .i64 cs[k].2.1) ∧ (cflat cs)[k * 3 + 2]? = some (.int .i64 cs[k].2.2)
  | c :: r, 0, _ => ⟨rfl, rfl, rfl⟩
  | c :: r, k + 1, h => by
    have := cflat_at r k (by simpa using h)
    rw [cflat_cons, show (k + 1) * 3 = k * 3 + 1 + 1 + 1 by omega]
    simpa [List.getElem?_cons_succ] using this

theorem cflat_set : ∀ (cs : List Cnt) (k : Nat) (h : k < cs.length) (l u p : Int),
    (cflat cs).set (k * 3) (.int .i64 l) = cflat (cs.set k (l, cs[k].2.1, cs[k].2.2)) ∧ (cflat cs).set (k * 3 + 1) (.int .i64 u) = cflat (cs.set k (cs[k].1, u, cs[k].2.2)) ∧ (cflat cs).set (k * 3 + 2) (.int .i64 p) = cflat (cs.set k (cs[k].1, cs[k].2.1, p))
  | c :: r, 0, _, l, u, p => ⟨rfl, rfl, rfl⟩
  | c :: r, k + 1, h, l, u, p => by
    obtain ⟨h1, h2, h3⟩ := cflat_set r k (by simpa using h) l u p
    rw [cflat_cons, show (k + 1) * 3 = k * 3 + 1 + 1 + 1 by omega]
    refine ⟨?_, ?_, ?_⟩
    · simp only [List.set_cons_succ, List.getElem_cons_succ, cflat_cons, h1]
    · show _ :: _ :: _ :: (cflat r).set (k * 3 + 1) _ = _
      simp only [h2, List.set_cons_succ, List.getElem_cons_succ, cflat_cons]
    · show _ :: _ :: _ :: (cflat r).set (k * 3 + 2) _ = _
      simp only [h3, List.set_cons_succ, List.getElem_cons_succ, cflat_cons]

/-- The block g holds these counts. -/
def CAt (W : World) (g : Nat) (cs : List Cnt) : Prop := W.heap[g]? = some (.cells (cflat cs).toArray 49 (0, 0))
/-- The block Ba is an Account whose counts lie in block g. -/
def AAt (W : World) (Ba g n : Nat) : Prop := W.heap[Ba]? = some (.cells #[.slice (some ⟨g, 0, none⟩) n n] 51 (0, 0))

structure Good (cs : List Cnt) : Prop where
  pos : 0 < cs.length
  len : cs.length ≤ 16
  each : ∀ c ∈ cs, 0 ≤ c.2.1 ∧ c.2.1 ≤ c.2.2 ∧ c.2.2 ≤ c.1 ∧ c.1 ≤ 9223372036854775807

structure Acc (W : World) (Ba g : Nat) (cs : List Cnt) : Prop where
  acc : AAt W Ba g cs.length
  cnt : CAt W g cs
  good : Good cs

theorem AAt.lt {W : World} {Ba g n : Nat} (h : AAt W Ba g n) : Ba < W.heap.size := (Array.getElem?_eq_some_iff.1 h).1
theorem AAt.cell {W : World} {Ba g n : Nat} (h : AAt W Ba g n) : W.cell? ⟨Ba, 0, none⟩ = some (.slice (some ⟨g, 0, none⟩) n n) := by simp [World.cell?, show W.heap[Ba]? = _ from h]
theorem AAt.fr {W : World} {Ba g n : Nat} (h : AAt W Ba g n) : W.frozen? ⟨Ba, 0, none⟩ = false := by simp [World.frozen?, show W.heap[Ba]? = _ from h]
theorem CAt.lt {W : World} {g : Nat} {cs : List Cnt} (h : CAt W g cs) : g < W.heap.size := (Array.getElem?_eq_some_iff.1 h).1
theorem CAt.cell {W : World} {g : Nat} {cs : List Cnt} (h : CAt W g cs) {k : Nat} (hk : k < cs.length) :
    W.cell? ⟨g, k * 3, none⟩ = some (.int .i64 cs[k].1) ∧ W.cell? ⟨g, k * 3 + 1, none⟩ = some (.int .i64 cs[k].2.1) ∧ W.cell? ⟨g, k * 3 + 2, none⟩ = some (.int .i64 cs[k].2.2) := by
  obtain ⟨h1, h2, h3⟩ := cflat_at cs k hk
  refine ⟨?_, ?_, ?_⟩
  · rw [cell_of_row W g _ _ 49 (0, 0) h]; simpa using h1
  · rw [cell_of_row W g _ _ 49 (0, 0) h]; simpa using h2
  · rw [cell_of_row W g _ _ 49 (0, 0) h]; simpa using h3
theorem CAt.fr {W : World} {g : Nat} {cs : List Cnt} (h : CAt W g cs) (i : Nat) : W.frozen? ⟨g, i, none⟩ = false := by simp [World.frozen?, show W.heap[g]? = _ from h]

set_option maxHeartbeats 400000 in
theorem has_nil (k : Int) (w : World) : Calls Try.prog 30 #[.pointer none, .int .i64 k] w fun e w' => e = .returned (.bool false) ∧ w' = w := by
  go_enter Try.func30, Try.ntmps30
  go_wp2
  go_ret
  exact ⟨rfl, rfl⟩

set_option maxHeartbeats 400000 in
theorem has_in (Ba g n k : Nat) (w : World) (h : AAt w Ba g n) (hk : k < n) : Calls Try.prog 30 #[.pointer (some ⟨Ba, 0, none⟩), .int .i64 k] w fun e w' => e = .returned (.bool true) ∧ w' = w := by
  have c0 := h.cell
  clear h
  go_enter Try.func30, Try.ntmps30
  go_wp2
  go_ret
  refine ⟨ret_bool ?_, rfl⟩
  simp

set_option maxHeartbeats 400000 in
theorem has_out (Ba g n : Nat) (k : Int) (w : World) (h : AAt w Ba g n) (hk : k < 0 ∨ n ≤ k) : Calls Try.prog 30 #[.pointer (some ⟨Ba, 0, none⟩), .int .i64 k] w fun e w' => e = .returned (.bool false) ∧ w' = w := by
  have c0 := h.cell
  clear h
  go_enter Try.func30, Try.ntmps30
  go_wp2
  all_goals go_ret
  all_goals refine ⟨ret_bool ?_, rfl⟩
  · simp
    omega
  · rfl

/-- A count's value. -/
def cval (c : Cnt) : Value := .agg #[.int .i64 c.1, .int .i64 c.2.1, .int .i64 c.2.2]

set_option maxHeartbeats 400000 in
theorem of_nil (k : Int) (w : World) : Calls Try.prog 35 #[.pointer none, .int .i64 k] w fun e w' => e = .returned (.agg #[.int .i64 0, .int .i64 0, .int .i64 0]) ∧ ∃ o, w' = w.alloc o := by
  go_enter Try.func35, Try.ntmps35
  go_wp2_with (go_at_call 30; refine (has_nil _ _).mono ?_; rintro e w' ⟨rfl, rfl⟩)
  exact bodyPost_ret (v := .agg #[.int .i64 0, .int .i64 0, .int .i64 0]) (by simp [results, Try.results35, go_sem]) rfl ⟨rfl, _, rfl⟩

set_option maxHeartbeats 400000 in
theorem of_out (Ba g n : Nat) (k : Int) (w : World) (h : AAt w Ba g n) (hk : k < 0 ∨ n ≤ k) : Calls Try.prog 35 #[.pointer (some ⟨Ba, 0, none⟩), .int .i64 k] w fun e w' => e = .returned (.agg #[.int .i64 0, .int .i64 0, .int .i64 0]) ∧ ∃ o, w' = w.alloc o := by
  have h1 : AAt (w.alloc (.cells #[.int .i64 0, .int .i64 0, .int .i64 0] 49)) Ba g n := (Below.heap_alloc _ _ _ h.lt).trans h
  go_enter Try.func35, Try.ntmps35
  go_wp2_with (go_at_call 30; refine (has_out Ba g n k _ h1 hk).mono ?_; rintro e w' ⟨rfl, rfl⟩)
  exact bodyPost_ret (v := .agg #[.int .i64 0, .int .i64 0, .int .i64 0]) (by simp [results, Try.results35, go_sem]) rfl ⟨rfl, _, rfl⟩

set_option maxHeartbeats 400000 in
theorem of_in (Ba g k : Nat) (cs : List Cnt) (w : World) (h : AAt w Ba g cs.length) (hc : CAt w g cs) (hk : k < cs.length) : Calls Try.prog 35 #[.pointer (some ⟨Ba, 0, none⟩), .int .i64 k] w fun e w' => e = .returned (.agg #[.int .i64 cs[k].1, .int .i64 cs[k].2.1, .int .i64 cs[k].2.2]) ∧ ∃ o, w' = w.alloc o := by
  have h1 : AAt (w.alloc (.cells #[.int .i64 0, .int .i64 0, .int .i64 0] 49)) Ba g cs.length := (Below.heap_alloc _ _ _ h.lt).trans h
  have h2 : CAt (w.alloc (.cells #[.int .i64 0, .int .i64 0, .int .i64 0] 49)) g cs := (Below.heap_alloc _ _ _ hc.lt).trans hc
  obtain ⟨x1, x2, x3⟩ := h2.cell hk
  obtain ⟨y1, y2, y3⟩ := hc.cell hk
  have hl := h.lt
  have hgl := hc.lt
  have c1 := h1.cell
  have c0 := h.cell
  clear h hc h2
  go_enter Try.func35, Try.ntmps35
  go_wp2_with (go_at_call 30; refine (has_in Ba g cs.length k _ h1 hk).mono ?_; rintro e w' ⟨rfl, rfl⟩)
  exact bodyPost_ret (v := .agg #[.int .i64 cs[k].1, .int .i64 cs[k].2.1, .int .i64 cs[k].2.2]) (by simp [results, Try.results35, go_sem]) rfl ⟨rfl, _, rfl⟩

theorem field_any (a b c : Int) (w : World) : (Instr.field 49 (.agg #[.int .i64 a, .int .i64 b, .int .i64 c]) 0).run Try.prog w = .ok (.int .i64 a) w ∧ (Instr.field 49 (.agg #[.int .i64 a, .int .i64 b, .int .i64 c]) 1).run Try.prog w = .ok (.int .i64 b) w ∧ (Instr.field 49 (.agg #[.int .i64 a, .int .i64 b, .int .i64 c]) 2).run Try.prog w = .ok (.int .i64 c) w :=
  ⟨by kernel_rfl, by kernel_rfl, by kernel_rfl⟩

set_option maxHeartbeats 400000 in
theorem used_nil (k : Int) (w : World) : Calls Try.prog 25 #[.pointer none, .int .i64 k] w fun e w' => e = .returned (.int .i64 0) ∧ ∃ o, w' = w.alloc o := by
  have hfd : ∀ a b c w, _ := fun a b c w => (field_any a b c w).2.1
  go_enter Try.func25, Try.ntmps25
  go_wp2_with (go_at_call 35; refine (of_nil _ _).mono ?_; rintro e w' ⟨rfl, o, rfl⟩)
  go_ret
  exact ⟨rfl, o, rfl⟩

set_option maxHeartbeats 400000 in
theorem used_out (Ba g n : Nat) (k : Int) (w : World) (h : AAt w Ba g n) (hk : k < 0 ∨ n ≤ k) : Calls Try.prog 25 #[.pointer (some ⟨Ba, 0, none⟩), .int .i64 k] w fun e w' => e = .returned (.int .i64 0) ∧ ∃ o, w' = w.alloc o := by
  have hfd : ∀ a b c w, _ := fun a b c w => (field_any a b c w).2.1
  go_enter Try.func25, Try.ntmps25
  go_wp2_with (go_at_call 35; refine (of_out Ba g n k w h hk).mono ?_; rintro e w' ⟨rfl, o, rfl⟩)
  go_ret
  exact ⟨rfl, o, rfl⟩

set_option maxHeartbeats 400000 in
theorem used_in (Ba g k : Nat) (cs : List Cnt) (w : World) (h : AAt w Ba g cs.length) (hc : CAt w g cs) (hk : k < cs.length) : Calls Try.prog 25 #[.pointer (some ⟨Ba, 0, none⟩), .int .i64 k] w fun e w' => e = .returned (.int .i64 cs[k].2.1) ∧ ∃ o, w' = w.alloc o := by
  have hfd : ∀ a b c w, _ := fun a b c w => (field_any a b c w).2.1
  go_enter Try.func25, Try.ntmps25
  go_wp2_with (go_at_call 35; refine (of_in Ba g k cs w h hc hk).mono ?_; rintro e w' ⟨rfl, o, rfl⟩)
  go_ret
  exact ⟨rfl, o, rfl⟩

set_option maxHeartbeats 400000 in
theorem peak_nil (k : Int) (w : World) : Calls Try.prog 26 #[.pointer none, .int .i64 k] w fun e w' => e = .returned (.int .i64 0) ∧ ∃ o, w' = w.alloc o := by
  have hfd : ∀ a b c w, _ := fun a b c w => (field_any a b c w).2.2
  go_enter Try.func26, Try.ntmps26
  go_wp2_with (go_at_call 35; refine (of_nil _ _).mono ?_; rintro e w' ⟨rfl, o, rfl⟩)
  go_ret
  exact ⟨rfl, o, rfl⟩

set_option maxHeartbeats 400000 in
theorem peak_out (Ba g n : Nat) (k : Int) (w : World) (h : AAt w Ba g n) (hk : k < 0 ∨ n ≤ k) : Calls Try.prog 26 #[.pointer (some ⟨Ba, 0, none⟩), .int .i64 k] w fun e w' => e = .returned (.int .i64 0) ∧ ∃ o, w' = w.alloc o := by
  have hfd : ∀ a b c w, _ := fun a b c w => (field_any a b c w).2.2
  go_enter Try.func26, Try.ntmps26
  go_wp2_with (go_at_call 35; refine (of_out Ba g n k w h hk).mono ?_; rintro e w' ⟨rfl, o, rfl⟩)
  go_ret
  exact ⟨rfl, o, rfl⟩

set_option maxHeartbeats 400000 in
theorem peak_in (Ba g k : Nat) (cs : List Cnt) (w : World) (h : AAt w Ba g cs.length) (hc : CAt w g cs) (hk : k < cs.length) : Calls Try.prog 26 #[.pointer (some ⟨Ba, 0, none⟩), .int .i64 k] w fun e w' => e = .returned (.int .i64 cs[k].2.2) ∧ ∃ o, w' = w.alloc o := by
  have hfd : ∀ a b c w, _ := fun a b c w => (field_any a b c w).2.2
  go_enter Try.func26, Try.ntmps26
  go_wp2_with (go_at_call 35; refine (of_in Ba g k cs w h hc hk).mono ?_; rintro e w' ⟨rfl, o, rfl⟩)
  go_ret
  exact ⟨rfl, o, rfl⟩

set_option maxHeartbeats 400000 in
theorem limit_nil (k : Int) (w : World) : Calls Try.prog 27 #[.pointer none, .int .i64 k] w fun e w' => e = .returned (.int .i64 0) ∧ ∃ o, w' = w.alloc o := by
  have hfd : ∀ a b c w, _ := fun a b c w => (field_any a b c w).1
  go_enter Try.func27, Try.ntmps27
  go_wp2_with (go_at_call 35; refine (of_nil _ _).mono ?_; rintro e w' ⟨rfl, o, rfl⟩)
  go_ret
  exact ⟨rfl, o, rfl⟩

set_option maxHeartbeats 400000 in
theorem limit_out (Ba g n : Nat) (k : Int) (w : World) (h : AAt w Ba g n) (hk : k < 0 ∨ n ≤ k) : Calls Try.prog 27 #[.pointer (some ⟨Ba, 0, none⟩), .int .i64 k] w fun e w' => e = .returned (.int .i64 0) ∧ ∃ o, w' = w.alloc o := by
  have hfd : ∀ a b c w, _ := fun a b c w => (field_any a b c w).1
  go_enter Try.func27, Try.ntmps27
  go_wp2_with (go_at_call 35; refine (of_out Ba g n k w h hk).mono ?_; rintro e w' ⟨rfl, o, rfl⟩)
  go_ret
  exact ⟨rfl, o, rfl⟩

set_option maxHeartbeats 400000 in
theorem limit_in (Ba g k : Nat) (cs : List Cnt) (w : World) (h : AAt w Ba g cs.length) (hc : CAt w g cs) (hk : k < cs.length) : Calls Try.prog 27 #[.pointer (some ⟨Ba, 0, none⟩), .int .i64 k] w fun e w' => e = .returned (.int .i64 cs[k].1) ∧ ∃ o, w' = w.alloc o := by
  have hfd : ∀ a b c w, _ := fun a b c w => (field_any a b c w).1
  go_enter Try.func27, Try.ntmps27
  go_wp2_with (go_at_call 35; refine (of_in Ba g k cs w h hc hk).mono ?_; rintro e w' ⟨rfl, o, rfl⟩)
  go_ret
  exact ⟨rfl, o, rfl⟩

end Go.Proofs.Ytiaebahmbgmajaa
