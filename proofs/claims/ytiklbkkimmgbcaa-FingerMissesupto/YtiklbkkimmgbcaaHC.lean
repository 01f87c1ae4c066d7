/-
  The node above all others of its class.
-/
import Derived.Test.YtiklbkkimmgbcaaHB
namespace Go.Proofs.Ytiklbkkimmgbcaa
open Go.RowKit

set_option maxRecDepth 100000 in
set_option maxHeartbeats 8000000 in
theorem top_any {B g c : Nat} {N : List Nd} {up ρ r : Nat → Nat} {K : Nat} {av : Nat → Value} (W : World) (hN : Net W B g c N up av) (hU : Up N.length up ρ r K) (i : Nat) (hi : i < N.length) :
    Calls Try.prog 52 #[.pointer (some ⟨B, 0, none⟩), .int .i64 (i : Nat)] W fun e W' => e = .returned (.int .i64 (ρ i : Nat)) ∧ Below W.heap.size W W' := by
  have HN : Hid (∀ Z, Below W.heap.size W Z → Net Z B g c N up av) := fun Z hZ => hN.keep hZ
  have HU : Hid (Up N.length up ρ r K) := hU
  have HI0 : Hid (i < N.length) := hi
  clear hN hU hi
  go_enter Try.func52, Try.ntmps52
  go_wp2
  go_loopw [1] (fun vi wr => ∃ j : Nat, vi = .int .i64 j ∧ Hid (j < N.length ∧ ρ j = ρ i ∧ Below W.heap.size W wr)) (fun vi _ => K - r (intOf vi).toNat)
  case atStart => exact ⟨i, rfl, HI0.out, rfl, Below.refl _ _⟩
  case round =>
    obtain ⟨j, rfl, HI⟩ := hrel
    have hz := HN.out wr HI.out.2.2
    have hj := HI.out.1
    obtain ⟨bx, _⟩ := hz.bcell
    obtain ⟨_, _, _, c3, _⟩ := hz.cells hj
    have hjI : (j : Int) < (N.length : Int) := by omega
    have hn0 : (0 : Int) ≤ (j : Int) := by omega
    obtain ⟨u, hu⟩ : ∃ u, up j = u := ⟨_, rfl⟩
    rw [hu] at c3
    by_cases hs : u = j
    · subst hs
      have HE : Hid (ρ u = ρ i ∧ Below W.heap.size W wr) := ⟨HI.out.2.1, HI.out.2.2⟩
      have HT : Hid (ρ u = u) := (HU.out.root u hj).1 hu
      clear hz HI hu
      go_wp2
      go_ret
      refine ⟨?_, HE.out.2⟩
      rw [← HE.out.1, HT.out]
      rfl
    · have hsI : ¬ ((u : Int) = (j : Int)) := by omega
      have HE : Hid (u < N.length ∧ ρ u = ρ i ∧ Below W.heap.size W wr ∧ r j < r u ∧ r u ≤ K) := by
        have h1 := HU.out.rank j hj (by rw [hu]; exact hs)
        have h2 := HU.out.lt j hj
        have h3 := HU.out.top j hj
        rw [hu] at h1 h2 h3
        exact ⟨h2, h3.trans HI.out.2.1, HI.out.2.2, h1, HU.out.bd u⟩
      clear hz HI hu
      go_wp2
      go_roundw
      case rel => exact ⟨u, rfl, HE.out.1, HE.out.2.1, HE.out.2.2.1⟩
      case measure =>
        have := HE.out.2.2.2
        simp [intOf]
        omega

end Go.Proofs.Ytiklbkkimmgbcaa
