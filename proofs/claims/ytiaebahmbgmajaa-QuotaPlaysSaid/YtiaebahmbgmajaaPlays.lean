/-
  QuotaPlays: the walk of the law.
-/
import Derived.Test.YtiaebahmbgmajaaQ
import Derived.Deep.LoopGhost
import Derived.Deep.DeepCutAuto
import Derived.Deep.CutRange
namespace Go.Proofs.Ytiaebahmbgmajaa
open Go.RowKit

/-- One call of a script. -/
structure OpV where
  kd : Int
  k : Int
  n : Int
  lv : Value
  ls : List Int

/-- A slice of calls that holds these. -/
def Script (W : World) (v : Value) (ops : List OpV) : Prop :=
  ∃ p c, v = .slice p ops.length c ∧ ops.length ≤ c ∧ c ≤ 9223372036854775807 ∧ (0 < ops.length → ∃ b o, p = some ⟨b, o, none⟩ ∧ ∀ i (h : i < ops.length), W.cell? ⟨b, o + i * 4, none⟩ = some (.int .i64 ops[i].kd) ∧ W.cell? ⟨b, o + i * 4 + 1, none⟩ = some (.int .i64 ops[i].k) ∧ W.cell? ⟨b, o + i * 4 + 2, none⟩ = some (.int .i64 ops[i].n) ∧ W.cell? ⟨b, o + i * 4 + 3, none⟩ = some ops[i].lv ∧ Ints W ops[i].lv ops[i].ls ∧ Fit ops[i].n)

set_option maxRecDepth 100000 in
set_option maxHeartbeats 1000000 in
theorem plays_bad (v1 v2 : Value) (kind : Int) (xs : List Int) (w : World) (h1 : Ints w v1 xs) (hfit : ∀ x ∈ xs, x ≤ 9223372036854775807) (hbad : ¬ newOk xs) (h2 : ∃ a n c, v2 = .slice a n c) :
    Calls Try.prog 4 #[v1, v2, .int .i64 kind] w fun e w' => e = .returned (.bool true) ∧ Below w.heap.size w w' := by
  obtain ⟨a2, n2, d2, rfl⟩ := h2
  have h1' : ∀ w', Below w.heap.size w w' → Ints w' v1 xs := by
    intro w' hb
    obtain ⟨p, c, rfl, ha, hc, hx⟩ := h1
    refine ⟨p, c, rfl, ha, hc, fun hp => ?_⟩
    obtain ⟨b, o, rfl, hcell⟩ := hx hp
    exact ⟨b, o, rfl, fun i hi => (hb.cell (p := ⟨b, o + i, none⟩) (World.block_lt_of_cell? w _ (hcell i hi))).trans (hcell i hi)⟩
  have H : Hid (Ints w v1 xs ∧ (∀ x ∈ xs, x ≤ 9223372036854775807) ∧ ¬ newOk xs ∧ ∀ w', Below w.heap.size w w' → Ints w' v1 xs) := ⟨h1, hfit, hbad, h1'⟩
  obtain ⟨p, c, rfl, _⟩ := h1
  clear hfit hbad h1'
  go_enter Try.func4, Try.ntmps4
  go_wp2_with (first
    | (go_at_call 15; refine (new_bad _ xs w H.out.1 H.out.2.1 H.out.2.2.1).mono ?_; rintro e w1 ⟨rfl, hb1⟩; have HB1 : Hid (Below w.heap.size w w1) := hb1; clear hb1)
    | (go_at_call 16; refine (rnew_bad _ xs w1 (H.out.2.2.2 w1 HB1.out) H.out.2.1 H.out.2.2.1).mono ?_; rintro e w' ⟨rfl, hw'⟩; have hw2 := hw'.symm; subst hw2)
    | (go_at_call 14; refine (alive_any _).mono ?_; rintro e w2 ⟨rfl, hb2⟩))
  go_ret
  exact ⟨rfl, HB1.out.trans (hb2.mono HB1.out.size)⟩

end Go.Proofs.Ytiaebahmbgmajaa
