/-
  fits: what comes to its end, and what leaves by a panic.
-/
import Derived.Test.YtijihmncbaoklaaPC
import Derived.Test.YtijihmncbaoklaaSE
namespace Go.Proofs.Ytijihmncbaoklaa
open Go.RowKit

/-- The variable in which fits holds its answer. -/
abbrev fbox (w : World) : World := w.alloc (.cells #[.bool false] 4)

theorem one_facts {X : World} {n ty : Nat} {u : Value} (h : X.heap[n]? = some (.cells #[u] ty (0, 0))) : X.cell? ⟨n, 0, none⟩ = some u ∧ X.frozen? ⟨n, 0, none⟩ = false := by
  constructor <;> simp [World.cell?, World.frozen?, h]

set_option maxHeartbeats 1000000 in
theorem fits_yes (g : Nat) (lb : Array Value) (eg : ∀ args w, (callFunc g args).run Try.prog w = .ok (.enter g args) w) (w : World) (Q : World → Prop)
    (hc : Calls Try.prog g lb (fbox w) fun e w' => e = .returned (.tuple #[]) ∧ w'.heap[w.heap.size]? = some (.cells #[.bool false] 4 (0, 0)) ∧ Q w') :
    Calls Try.prog 53 #[.func (.func g) #[] lb] w fun e w' => e = .returned (.bool true) ∧ ∃ w1, w1.heap[w.heap.size]? = some (.cells #[.bool false] 4 (0, 0)) ∧ Q w1 ∧ w' = w1.setCell ⟨w.heap.size, 0, none⟩ (.bool true) := by
  have hmf : ∀ (fn : Fn) (first cap : Array Value) (w : World), (Instr.makeFunc fn first cap).run Try.prog w = .ok (.func fn first cap) w := fun _ _ _ _ => rfl
  go_enter_defers Try.func53, Try.ntmps53
  go_wp2_with (go_at_fn g; refine hc.mono ?_; rintro e w1 ⟨rfl, hb, hq⟩; obtain ⟨c1, z1⟩ := one_facts hb)
  refine leaves_cons (f := 80) (args := #[.pointer (some ⟨w.heap.size, 0, none⟩)]) (by simp) (by simp [go_sem]) ?_
  refine (catch_idle ⟨w.heap.size, 0, none⟩ _).mono ?_
  rintro e u' w'' ⟨rfl, rfl, rfl⟩
  refine ⟨.bool true, ?_, rfl, w1, hb, hq, rfl⟩
  simp [results, Try.results53, go_sem, c1]

set_option maxHeartbeats 1000000 in
theorem fits_no (g : Nat) (lb : Array Value) (eg : ∀ args w, (callFunc g args).run Try.prog w = .ok (.enter g args) w) (w : World) (Q : World → Prop)
    (hc : Calls Try.prog g lb (fbox w) fun e w' => e = .panicked misfit ∧ w'.heap[w.heap.size]? = some (.cells #[.bool false] 4 (0, 0)) ∧ Q w') :
    Calls Try.prog 53 #[.func (.func g) #[] lb] w fun e w' => e = .returned (.bool false) ∧ ∃ w1, w1.heap[w.heap.size]? = some (.cells #[.bool false] 4 (0, 0)) ∧ Q w1 ∧ w' = w1.setCell ⟨w.heap.size, 0, none⟩ (.bool false) := by
  have hmf : ∀ (fn : Fn) (first cap : Array Value) (w : World), (Instr.makeFunc fn first cap).run Try.prog w = .ok (.func fn first cap) w := fun _ _ _ _ => rfl
  go_enter_defers Try.func53, Try.ntmps53
  go_wp2_with (go_at_fn g; refine hc.mono ?_; rintro e w1 ⟨rfl, hb, hq⟩; obtain ⟨c1, z1⟩ := one_facts hb)
  refine leaves_cons (f := 80) (args := #[.pointer (some ⟨w.heap.size, 0, none⟩)]) (by simp) (by simp [go_sem]) ?_
  refine (catch_panicking ⟨w.heap.size, 0, none⟩ false 133 _ [] _ c1 z1).mono ?_
  rintro e u' w'' ⟨rfl, rfl, rfl⟩
  refine ⟨.bool false, ?_, rfl, w1, hb, hq, rfl⟩
  simp [results, Try.results53, go_sem, c1]

end Go.Proofs.Ytijihmncbaoklaa
