/-
  Both lists of binds are one; variants.
-/
import Derived.Test.YtblfbmdnkgebdaaPX
namespace Go.Proofs.Ytblfbmdnkgebdaa
open Go.RowKit Go.Maps

/-- Rising lists with the same numbers are one. -/
theorem rising_eq : ∀ {l m : List Int}, l.Pairwise (· < ·) → m.Pairwise (· < ·) → (∀ z, z ∈ l ↔ z ∈ m) → l = m
  | [], [], _, _, _ => rfl
  | [], b :: m, _, _, h => by have := (h b).2 (by simp); cases this
  | a :: l, [], _, _, h => by have := (h a).1 (by simp); cases this
  | a :: l, b :: m, hl, hm, h => by
    obtain ⟨h1, h2⟩ := List.pairwise_cons.1 hl
    obtain ⟨h3, h4⟩ := List.pairwise_cons.1 hm
    have e : a = b := by
      rcases List.mem_cons.1 ((h a).1 (by simp)) with e | e
      · exact e
      · rcases List.mem_cons.1 ((h b).2 (by simp)) with k | k
        · exact k.symm
        · have := h1 b k; have := h3 a e; omega
    subst e
    rw [rising_eq h2 h4 fun z => ?_]
    constructor
    · intro hz
      rcases List.mem_cons.1 ((h z).1 (by simp [hz])) with e | e
      · have := h1 z hz; omega
      · exact e
    · intro hz
      rcases List.mem_cons.1 ((h z).2 (by simp [hz])) with e | e
      · have := h3 z hz; omega
      · exact e

theorem findB_some {s : List Bd} {v : Int} {t : T} (h : findB s v = some t) : (v, t) ∈ s := by
  unfold findB at h
  obtain ⟨y, h1, h2⟩ := Option.map_eq_some_iff.1 h
  have h3 := List.mem_of_find?_eq_some h1
  have h4 := List.find?_some h1
  simp only [decide_eq_true_eq] at h4
  rw [← h4, ← h2]
  exact h3
theorem findB_mem {s : List Bd} (hr : Rising s) {y : Bd} (hy : y ∈ s) : findB s y.1 = some y.2 := by
  cases e : findB s y.1 with
  | none => exact absurd rfl (findB_none e y hy)
  | some t =>
    have h1 := findB_some e
    obtain ⟨i, hi, h2⟩ := List.mem_iff_getElem.1 hy
    obtain ⟨j, hj, h3⟩ := List.mem_iff_getElem.1 h1
    rcases Nat.lt_trichotomy i j with h | h | h
    · have := hr i j hj h; rw [h2, h3] at this; simp at this
    · subst h; rw [h2] at h3; rw [h3]
    · have := hr j i hi h; rw [h2, h3] at this; simp at this

theorem keys_of {s : List Bd} {ks : List Int} (hr : Rising s) (hk : RiseT (findB s) ks) : ks = s.map (·.1) := by
  refine rising_eq hk.1 (List.pairwise_map.2 (rising_iff.1 hr)) (fun z => ?_)
  rw [hk.2 z, List.mem_map]
  constructor
  · intro h
    obtain ⟨t, e⟩ := Option.ne_none_iff_exists'.1 h
    exact ⟨(z, t), findB_some e, rfl⟩
  · rintro ⟨y, hy, rfl⟩
    rw [findB_mem hr hy]
    simp

theorem list_same {s : List Bd} {ks : List Int} (hr : Rising s) (hk : RiseT (findB s) ks) : listB (findB s) ks = s.filter notSelf := by
  rw [keys_of hr hk]
  unfold listB
  rw [List.filterMap_map]
  have h : ∀ l : List Bd, (∀ y ∈ l, y ∈ s) → l.filterMap (bindOf (findB s) ∘ (·.1)) = l.filter notSelf := by
    intro l
    induction l with
    | nil => intro _; rfl
    | cons y r ih =>
      intro hl
      have ih' := ih fun x hx => hl x (List.mem_cons_of_mem _ hx)
      have e := findB_mem hr (hl y List.mem_cons_self)
      by_cases hn : notSelf y = true
      · have e2 : (bindOf (findB s) ∘ (·.1)) y = some y := by
          show bindOf (findB s) y.1 = some y
          refine bind_some e ?_
          by_cases h0 : y.2.fn.size = 0
          · refine .inr fun h1 => ?_
            simp [notSelf, h0, h1] at hn
          · exact .inl (by simp [uvar, h0])
        rw [List.filterMap_cons_some e2, ih', List.filter_cons_of_pos hn]
      · have e2 : (bindOf (findB s) ∘ (·.1)) y = none := by
          show bindOf (findB s) y.1 = none
          simp only [notSelf, Bool.not_eq_true, Bool.not_eq_false', Bool.and_eq_true, decide_eq_true_eq] at hn
          exact bind_none e (by simp [uvar, hn.1]) hn.2
        rw [List.filterMap_cons_none e2, ih', List.filter_cons_of_neg hn]
  exact h s (fun y hy => hy)

/-- A renaming of variables, one to one. -/
def Renames (s : List Bd) : Prop := (∀ y ∈ s, uvar y.2 = true) ∧ ∀ y ∈ s, ∀ z ∈ s, y.2.v = z.2.v → y = z

end Go.Proofs.Ytblfbmdnkgebdaa
