import Derived.Test.YtijihmncbaoklaaGreatC
import Derived.Recover

/-
  unify.isVar, mustAgree; fits: what comes to its end, and what leaves by a panic.
-/
namespace Go.Proofs.YtijihmncbaoklaaGreat
open Go.RowKit

def uvar (t : T) : Bool := decide (t.fn.size = 0)

set_option maxHeartbeats 400000 in
theorem uvar_any (t : T) (sl : Value) (w : World) (hs : ∃ a n c, sl = .slice a n c) :
    Calls Tryz.prog 86 #[tval t sl] w fun e w' => e = .returned (.bool (uvar t)) ∧ w' = w.alloc (tbox t sl) := by
  obtain ⟨a, n, c, rfl⟩ := hs
  go_enter Tryz.func86, Tryz.ntmps86
  go_wp2
  go_ret
  refine ⟨ret_bool ?_, rfl⟩
  unfold uvar
  rw [← ba_isEmpty]

/-- What a misfit leaves by. -/
abbrev misfit : List PanicEntry := [{ v := .iface 174 (.agg #[]), recovered := false }]

set_option maxHeartbeats 1000000 in
theorem must_yes (x y : T) (a b : Option Addr) (n c d : Nat) (w : World) (hf : x.fn = y.fn) :
    Calls Tryz.prog 88 #[tval x (.slice a n c), tval y (.slice b n d)] w fun e w' => e = .returned (.tuple #[]) ∧ w' = tbox2 w x (.slice a n c) y (.slice b n d) := by
  have h2 : x.fn.toList = y.fn.toList := ba_toList_inj.2 hf
  clear hf
  go_enter Tryz.func88, Tryz.ntmps88
  go_wp2
  refine bodyPost_end (results_none rfl _ _ _) rfl ?_
  exact ⟨rfl, rfl⟩

set_option maxHeartbeats 1000000 in
theorem must_fn (x y : T) (a b : Option Addr) (n c m d : Nat) (w : World) (hf : x.fn ≠ y.fn) :
    Calls Tryz.prog 88 #[tval x (.slice a n c), tval y (.slice b m d)] w fun e w' => e = .panicked misfit ∧ w' = tbox2 w x (.slice a n c) y (.slice b m d) := by
  have h2 : ¬ x.fn.toList = y.fn.toList := fun h => hf (ba_toList_inj.1 h)
  clear hf
  go_enter Tryz.func88, Tryz.ntmps88
  go_wp2
  exact ⟨rfl, rfl, rfl⟩

set_option maxHeartbeats 1000000 in
theorem must_len (x y : T) (a b : Option Addr) (n c m d : Nat) (w : World) (hf : x.fn = y.fn) (hn : n ≠ m) :
    Calls Tryz.prog 88 #[tval x (.slice a n c), tval y (.slice b m d)] w fun e w' => e = .panicked misfit ∧ w' = tbox2 w x (.slice a n c) y (.slice b m d) := by
  have h2 : x.fn.toList = y.fn.toList := ba_toList_inj.2 hf
  have h3 : ((n : Int) != (m : Int)) = true := by rw [bne_iff_ne]; omega
  clear hf hn
  go_enter Tryz.func88, Tryz.ntmps88
  go_wp2
  exact ⟨rfl, rfl, rfl⟩

end Go.Proofs.YtijihmncbaoklaaGreat

/-
  fits: the deferred closure, and both ways through it.
-/
namespace Go.Proofs.YtijihmncbaoklaaGreat
open Go.RowKit

theorem catch_panicking (p : Addr) (x : Bool) (u : TypeId) (pv : Value) (older : List PanicEntry) (w : World) (hc : w.cell? p = some (.bool x)) (hz : w.frozen? p = false) :
    CallsD Tryz.prog 114 #[.pointer (some p)] (.panicking ({ v := .iface u pv, recovered := false } :: older)) w fun e u' w' =>
      e = .returned (.tuple #[]) ∧ u' = .panicking ({ v := .iface u pv, recovered := true } :: older) ∧ w' = w.setCell p (.bool false) := by
  refine callsD_of_wpS Tryz.func114 rfl fun c₀ cs hu => ?_
  apply wpS_seq
  apply wpS_region
  simp [wpOpsS, go_sem, recoverD, hu, Tryz.ntmps114, Exit.thenS]
  refine wpS_cond (t := true) (by simp [Act.eval, Array.replicate]) ?_
  simp only [if_true]
  apply wpS_region
  simp [wpOpsS, go_sem, hc, hz, bodyPostS, results, Tryz.results114]

theorem catch_idle (p : Addr) (w : World) :
    CallsD Tryz.prog 114 #[.pointer (some p)] .returning w fun e u' w' => e = .returned (.tuple #[]) ∧ u' = .returning ∧ w' = w := by
  refine callsD_of_wpS Tryz.func114 rfl fun c₀ cs hu => ?_
  apply wpS_seq
  apply wpS_region
  simp [wpOpsS, go_sem, recoverD, hu, Tryz.ntmps114, Exit.thenS]
  refine wpS_cond (t := false) (by simp [Act.eval, Array.replicate]) ?_
  simp only [Bool.false_eq_true, if_false]
  refine wpS_of_wp (wp_skip ?_)
  cases c₀
  simp_all [bodyPostS, results, Tryz.results114]

end Go.Proofs.YtijihmncbaoklaaGreat
