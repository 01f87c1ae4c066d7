/-
  slices.Sort, Sorted, of numbers.
-/
import Derived.Test.YtijihmncbaoklaaGreatPO
import Derived.Test.YtijihmncbaoklaaGreatShelf
import Derived.Sort.OwnSortedInts
import Derived.Lib.OwnBridge
namespace Go.Proofs.YtijihmncbaoklaaGreat
open Go.RowKit Go.Maps Go.Shelf Go.Sort

theorem sort_own (base : Nat) (v : Value) (k : Nat) (xs : List Int) (w : World) (h : w.ownsRow base 3 1 v k (xs.map (Value.int .i64))) (hk : k ≤ 1048576) :
    Calls Tryz.prog 43 #[v] w fun e w' => e = .returned (.tuple #[]) ∧ w'.ownsRow base 3 1 v k ((xs.mergeSort fun x y => decide (x ≤ y)).map (Value.int .i64)) ∧ w.grownBy w' v.ownBlock := by
  have hl : xs.length = k := by simpa using h.1
  subst hl
  rcases h.2 with ⟨rfl, h0⟩ | ⟨g, cap, cur, rfl, hb, hg, hn, hm, hs, ht⟩
  · have e : xs = [] := List.eq_nil_of_length_eq_zero h0
    subst e
    refine (Tryz.slices_Sort_int_none none 0 w).mono ?_
    rintro e w' ⟨he, rfl⟩
    exact ⟨he, by simpa using h, ⟨rfl, rfl, rfl, Nat.le_refl _, fun _ _ _ => rfl⟩⟩
  · have hlt : g < w.heap.size := (Array.getElem?_eq_some_iff.1 hg).1
    have hH : Holds (Value.int .i64) w g 0 xs.toArray := holds_of_blockI hg (by simpa using ht)
    refine (Tryz.slices_Sort_int g 0 cap xs w hH hlt (by omega)).mono ?_
    rintro e w' ⟨he, n, os, rfl⟩
    exact ⟨he, ownsRow_sortedI (List.length_mergeSort xs) hb hg hn hm hs, grownBy_sortedI _⟩

/-- The keys of the map, rising. -/
def RiseKeys (σ : Sg) (ks : List Int) : Prop := ks.Pairwise (· < ·) ∧ ∀ x, x ∈ ks ↔ σ x ≠ none

theorem rise_of {σ : Sg} {ss : List Int} (h : AllKeys σ ss) : RiseKeys σ (ss.mergeSort fun x y => decide (x ≤ y)) := by
  have hp := List.mergeSort_perm ss fun x y => decide (x ≤ y)
  have h1 : (ss.mergeSort fun x y => decide (x ≤ y)).Pairwise (fun a b => (decide (a ≤ b)) = true) := List.pairwise_mergeSort (fun a b c => by simp only [decide_eq_true_eq]; omega) (fun a b => by simp only [Bool.or_eq_true, decide_eq_true_eq]; omega) ss
  have h2 : (ss.mergeSort fun x y => decide (x ≤ y)).Nodup := hp.nodup_iff.2 h.1
  refine ⟨?_, fun x => by rw [hp.mem_iff]; exact h.2 x⟩
  refine List.Pairwise.imp₂ (R := fun a b => (decide (a ≤ b)) = true) (S := fun a b => a ≠ b) ?_ h1 h2
  intro a b hab hne
  simp only [decide_eq_true_eq] at hab
  omega

set_option maxRecDepth 100000 in
set_option maxHeartbeats 1000000 in
theorem sorted_any (gf : Nat) (lb : Array Value) (eg : ∀ args w, (callFunc gf args).run Tryz.prog w = .ok (.enter gf args) w) (σ : Sg) (Nn : Nat) (hN : Nn ≤ 1000000) (w : World) (hseq : ∀ W, Below w.heap.size w W → IterS gf lb w (fun ss => AllKeys σ ss ∧ ss.length ≤ Nn) Nn W) :
    Calls Tryz.prog 89 #[.func (.func gf) #[] lb] w fun e w' => ∃ v ks, e = .returned v ∧ RiseKeys σ ks ∧ ks.length ≤ Nn ∧ w'.ownsRow w.heap.size 3 1 v ks.length (flatS ks) ∧ Below w.heap.size w w' := by
  have hcall := collect_any gf lb eg _ Nn hN w hseq
  clear hseq
  go_enter Tryz.func89, Tryz.ntmps89
  go_wp2_with (first
    | (go_at_call 43; refine hs.mono ?_; rintro e W3 ⟨rfl, h4, h5⟩)
    | (go_at_call 116; refine hcall.mono ?_; rintro e W2 ⟨v, ss, rfl, ⟨h1, h1'⟩, h2, h3⟩; have hs := sort_own w.heap.size v ss.length ss W2 h2 (by omega)))
  go_ret
  refine ⟨_, _, rfl, rise_of h1, by rw [List.length_mergeSort]; exact h1', by rw [List.length_mergeSort]; exact h4, h3.trans ⟨h5.os, h5.tape, h5.output, h5.size, fun k hk => h5.block k (Nat.lt_of_lt_of_le hk h3.size) (fun e => by have := (h2.lt k e.symm).1; omega)⟩⟩

end Go.Proofs.YtijihmncbaoklaaGreat
