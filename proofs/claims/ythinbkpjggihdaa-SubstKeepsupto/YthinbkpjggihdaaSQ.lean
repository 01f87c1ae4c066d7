/-
  Rows of binds of one's own.
-/
import Derived.Test.YthinbkpjggihdaaSP
namespace Go.Proofs.Ythinbkpjggihdaa
open Go.RowKit Go.Maps

theorem flatB_append (a b : List (Bd × Value)) : flatB (a ++ b) = flatB a ++ flatB b := by simp [flatB]

theorem BindsFr.flat {W : World} {g n base : Nat} {l : List Bd} (h : BindsFr W g n l) (hn : n ≤ 4000) (hb : base ≤ g) : ∃ ps : List (Bd × Value), ps.map (·.1) = l ∧ (∀ p ∈ ps, ArgsFr (g + 1) W p.2 p.1.2.args) ∧ W.ownsRow base 35 4 (.slice (some ⟨g, 0, none⟩) n n) n (flatB ps) := by
  obtain ⟨rfl, ⟨arr, h1, h2⟩, hel⟩ := h
  haveI : Inhabited Value := ⟨undef⟩
  haveI : Inhabited Bd := ⟨(0, var 0)⟩
  have eb : ∀ j (hj : j < l.length), l[j]! = l[j] := fun j hj => getElem!_pos l j hj
  have hel' : ∀ j, j < l.length → ∃ s, W.cell? ⟨g, j * 4, none⟩ = some (.int .i64 l[j]!.1) ∧ W.cell? ⟨g, j * 4 + 1, none⟩ = some (.int .i64 l[j]!.2.v) ∧ W.cell? ⟨g, j * 4 + 2, none⟩ = some (.string l[j]!.2.fn) ∧ W.cell? ⟨g, j * 4 + 3, none⟩ = some s ∧ ArgsFr (g + 1) W s l[j]!.2.args := fun j hj => by rw [eb j hj]; exact hel j hj
  obtain ⟨s, hs0⟩ := Deep.choose_lt hel'
  have hs : ∀ j (hj : j < l.length), W.cell? ⟨g, j * 4, none⟩ = some (.int .i64 l[j].1) ∧ W.cell? ⟨g, j * 4 + 1, none⟩ = some (.int .i64 l[j].2.v) ∧ W.cell? ⟨g, j * 4 + 2, none⟩ = some (.string l[j].2.fn) ∧ W.cell? ⟨g, j * 4 + 3, none⟩ = some (s j) ∧ ArgsFr (g + 1) W (s j) l[j].2.args := fun j hj => by have := hs0 j hj; rw [eb j hj] at this; exact this
  have hget : ∀ j (hj : j < l.length), ((List.range l.length).map fun j => (l[j]!, s j))[j]? = some (l[j], s j) := fun j hj => by simp [hj]
  refine ⟨(List.range l.length).map fun j => (l[j]!, s j), ?_, ?_, ?_⟩
  · refine List.ext_getElem? fun j => ?_
    by_cases hj : j < l.length
    · rw [List.getElem?_map, hget j hj, List.getElem?_eq_getElem hj]
      rfl
    · rw [List.getElem?_eq_none (by simp; omega), List.getElem?_eq_none (by omega)]
  · intro p hp
    obtain ⟨j, hj, rfl⟩ := List.mem_map.1 hp
    have hj' : j < l.length := List.mem_range.1 hj
    have := (hs j hj').2.2.2.2
    simpa [hj'] using this
  · obtain ⟨ps, hps⟩ : ∃ ps, ((List.range l.length).map fun j => (l[j]!, s j)) = ps := ⟨_, rfl⟩
    have hlen : ps.length = l.length := by rw [← hps]; simp
    rw [hps] at hget ⊢
    have harr : arr.toList = flatB ps := by
      refine List.ext_getElem? fun k => ?_
      by_cases hk : k < l.length * 4
      · have hj : k / 4 < l.length := by omega
        obtain ⟨c0, c1, c2, c3, _⟩ := hs (k / 4) hj
        obtain ⟨f0, f1, f2, f3⟩ := flatB_get ps (k / 4) (by omega)
        have hp : ps[k / 4]'(by omega) = (l[k / 4], s (k / 4)) := by
          have := hget (k / 4) hj
          rw [List.getElem?_eq_getElem (by omega)] at this
          exact Option.some.inj this
        rw [hp] at f0 f1 f2 f3
        rw [cell_of_row _ _ _ _ 35 (0, 0) h1] at c0 c1 c2 c3
        rw [Array.getElem?_toList]
        obtain ⟨j, hjk⟩ : ∃ j, k / 4 = j := ⟨_, rfl⟩
        have hr : k = j * 4 ∨ k = j * 4 + 1 ∨ k = j * 4 + 2 ∨ k = j * 4 + 3 := by omega
        simp only [hjk] at c0 c1 c2 c3 f0 f1 f2 f3
        rcases hr with hr | hr | hr | hr
        · rw [hr, c0, f0]
        · rw [hr, c1, f1]
        · rw [hr, c2, f2]
        · rw [hr, c3, f3]
      · rw [List.getElem?_eq_none (by simp; omega), List.getElem?_eq_none (by rw [flatB_len, hlen]; omega)]
    refine ⟨by rw [flatB_len, hlen], .inr ⟨g, l.length, arr, rfl, hb, h1, Nat.le_refl _, by unfold maxLen; omega, h2, ?_⟩⟩
    rw [← harr, List.take_of_length_le (by simp; omega)]

theorem oneB (ps : List (Bd × Value)) (h : ∀ p ∈ ps, ∃ a n c, p.2 = .slice a n c) : ∀ u ∈ flatB ps, u.oneCell' = true := by
  intro u hu
  unfold flatB at hu
  obtain ⟨p, hp, hu⟩ := List.mem_flatMap.1 hu
  obtain ⟨a, n, c, e⟩ := h p hp
  simp only [List.mem_cons, List.not_mem_nil, or_false] at hu
  rcases hu with rfl | rfl | rfl | rfl
  · rfl
  · rfl
  · rfl
  · rw [e]; rfl

end Go.Proofs.Ythinbkpjggihdaa
