/-
  Sorting what is no longer than one; what Generals asks.
-/
import Derived.Test.YtiklbkkimmgbcaaFI
namespace Go.Proofs.Ytiklbkkimmgbcaa
open Go.RowKit Go.Maps

set_option maxRecDepth 100000 in
set_option maxHeartbeats 2000000 in
theorem ins_small (a : Option Addr) (c n : Nat) (hn : n ≤ 1) (w : World) : Calls Try.prog 70 #[.slice a n c, .int .i64 0, .int .i64 (n : Int)] w fun e w' => e = .returned (.tuple #[]) ∧ w' = w := by
  have h1 : ¬ ((1 : Int) < (n : Int)) := by omega
  have h2 : (n : Int) ≤ 1 := by omega
  go_enter Try.func70, Try.ntmps70
  go_wp2
  go_loopw [6] (fun vi wr => vi = .int .i64 1 ∧ wr = w) (fun _ _ => 0)
  case atStart => exact ⟨rfl, rfl⟩
  case round =>
    obtain ⟨rfl, rfl⟩ := hrel
    go_wp2
    refine bodyPost_end (results_none rfl _ _ _) rfl ⟨rfl, rfl⟩

set_option maxRecDepth 100000 in
set_option maxHeartbeats 2000000 in
theorem pdq_small (a : Option Addr) (c n : Nat) (hn : n ≤ 1) (lim : Int) (w : World) : Calls Try.prog 68 #[.slice a n c, .int .i64 0, .int .i64 (n : Int), .int .i64 lim] w fun e w' => e = .returned (.tuple #[]) ∧ w' = w := by
  have hi := ins_small a c n hn w
  have h2 : (n : Int) ≤ 12 := by omega
  have h3 : wrap64 (n : Int) = (n : Int) := by simp only [wrap64]; omega
  go_enter Try.func68, Try.ntmps68
  go_wp2
  go_loopw [1, 2] (fun v1 v2 wr => v1 = .int .i64 0 ∧ v2 = .int .i64 (n : Int) ∧ wr = w) (fun _ _ _ => 0)
  case atStart => exact ⟨rfl, rfl, rfl⟩
  case round =>
    obtain ⟨rfl, rfl, rfl⟩ := hrel
    go_wp2_with (first | (go_at_call 70; refine hi.mono ?_; rintro e w2 ⟨rfl, rfl⟩))
    (try simp only [Exit.inBlock, Exit.then])
    refine bodyPost_ret (results_none rfl _ _ _) rfl ?_
    exact ⟨rfl, rfl⟩

set_option maxRecDepth 100000 in
set_option maxHeartbeats 2000000 in
theorem len64_small (n : Nat) (hn : n ≤ 1) (w : World) : Calls Try.prog 80 #[.int .u64 (n : Int)] w fun e w' => (∃ q, e = .returned (.int .i64 q)) ∧ w' = w := by
  have hc : n = 0 ∨ n = 1 := by omega
  rcases hc with rfl | rfl
  · go_enter Try.func80, Try.ntmps80
    go_wp2
    go_ret
    exact ⟨⟨_, rfl⟩, rfl⟩
  · go_enter Try.func80, Try.ntmps80
    go_wp2
    go_ret
    exact ⟨⟨_, rfl⟩, rfl⟩
set_option maxRecDepth 100000 in
set_option maxHeartbeats 2000000 in
theorem len_small (n : Nat) (hn : n ≤ 1) (w : World) : Calls Try.prog 69 #[.int .u64 (n : Int)] w fun e w' => (∃ q, e = .returned (.int .i64 q)) ∧ w' = w := by
  have h := len64_small n hn w
  go_enter Try.func69, Try.ntmps69
  go_wp2_with (first | (go_at_call 80; refine h.mono ?_; rintro e w2 ⟨⟨q, rfl⟩, rfl⟩))
  go_ret
  exact ⟨⟨_, rfl⟩, rfl⟩
set_option maxRecDepth 100000 in
set_option maxHeartbeats 2000000 in
theorem sort_small (a : Option Addr) (c n : Nat) (hn : n ≤ 1) (w : World) : Calls Try.prog 62 #[.slice a n c] w fun e w' => e = .returned (.tuple #[]) ∧ w' = w := by
  have h1 := len_small n hn w
  have h2 := fun q => pdq_small a c n hn q w
  have h3 : IntKind.u64.wrap (n : Int) = (n : Int) := by rcases (by omega : n = 0 ∨ n = 1) with rfl | rfl <;> rfl
  go_enter Try.func62, Try.ntmps62
  go_wp2_with (first | (go_at_call 69; refine h1.mono ?_; rintro e w2 ⟨⟨q, rfl⟩, rfl⟩) | (go_at_call 68; refine (h2 _).mono ?_; rintro e w2 ⟨rfl, rfl⟩))
  (try simp only [Exit.inBlock, Exit.then])
  refine bodyPost_end (results_none rfl _ _ _) rfl ?_
  exact ⟨rfl, rfl⟩

/-- What Generals asks of a group. -/
theorem asks43 (l m : List Ft) (v va : Value) (ba : Nat) (w : World) (hl : FtAt w v l) (hm : FtAt w va m) (hc : w.cell? ⟨ba, 0, none⟩ = some va) :
    Calls Try.prog 43 #[v, .pointer (some ⟨ba, 0, none⟩)] w fun e w' => e = .returned (.bool (fitB matB l m)) ∧ Below w.heap.size w w' := by
  have h := Matches_any l m v va w hl hm
  obtain ⟨a1, c1, rfl, hc1, hm1⟩ := hl.slice
  obtain ⟨a2, c2, rfl, hc2, hm2⟩ := hm.slice
  clear hl hm
  go_enter Try.func43, Try.ntmps43
  go_wp2_with fail
  refine h.mono ?_
  rintro e W1 ⟨rfl, b1⟩
  go_wp2
  go_ret
  exact ⟨rfl, b1⟩

end Go.Proofs.Ytiklbkkimmgbcaa
