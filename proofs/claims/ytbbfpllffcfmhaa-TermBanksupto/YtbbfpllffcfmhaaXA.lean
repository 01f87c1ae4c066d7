/-
  Heaps: mathematics.
-/
import Derived.Test.YtbbfpllffcfmhaaA
namespace Go.Proofs.Ytbbfpllffcfmhaa

/-- The first n places are a heap. -/
def HpF (f : Nat → Int) (n : Nat) : Prop := ∀ i, 0 < i → i < n → f ((i - 1) / 2) ≤ f i
/-- A heap, but for what stands at j, which may be too small. -/
def HpU (f : Nat → Int) (n j : Nat) : Prop := (∀ i, 0 < i → i < n → i ≠ j → f ((i - 1) / 2) ≤ f i) ∧ ∀ i, 0 < i → i < n → (i - 1) / 2 = j → 0 < j → f ((j - 1) / 2) ≤ f i
/-- A heap, but for what stands at j, which may be too great. -/
def HpD (f : Nat → Int) (n j : Nat) : Prop := (∀ i, 0 < i → i < n → (i - 1) / 2 ≠ j → f ((i - 1) / 2) ≤ f i) ∧ ∀ i, 0 < i → i < n → (i - 1) / 2 = j → 0 < j → f ((j - 1) / 2) ≤ f i

def swpF (f : Nat → Int) (a b : Nat) (k : Nat) : Int := if k = a then f b else if k = b then f a else f k

theorem swpF_a (f : Nat → Int) (a b : Nat) : swpF f a b a = f b := by simp [swpF]
theorem swpF_b (f : Nat → Int) (a b : Nat) : swpF f a b b = f a := by
  unfold swpF
  by_cases h : b = a
  · rw [if_pos h, h]
  · rw [if_neg h, if_pos rfl]
theorem swpF_o (f : Nat → Int) (a b k : Nat) (h1 : k ≠ a) (h2 : k ≠ b) : swpF f a b k = f k := by simp [swpF, h1, h2]

theorem HpF.least {f : Nat → Int} {n : Nat} (h : HpF f n) : ∀ i, i < n → f 0 ≤ f i := by
  intro i
  induction i using Nat.strongRecOn with
  | _ i ih =>
    intro hi
    by_cases h0 : i = 0
    · subst h0; exact Int.le_refl _
    · have := ih ((i - 1) / 2) (by omega) (by omega)
      have := h i (by omega) hi
      omega

/-- The end of the way up. -/
theorem HpU.done {f : Nat → Int} {n j : Nat} (h : HpU f n j) (hj : j = 0 ∨ f ((j - 1) / 2) ≤ f j) : HpF f n := by
  intro i h0 hi
  by_cases e : i = j
  · subst e
    rcases hj with hj | hj
    · omega
    · exact hj
  · exact h.1 i h0 hi e

theorem HpU.next {f : Nat → Int} {n j : Nat} (h : HpU f n j) (h0 : 0 < j) (hj : j < n) (hlt : f j < f ((j - 1) / 2)) : HpU (swpF f ((j - 1) / 2) j) n ((j - 1) / 2) := by
  obtain ⟨p, hp⟩ : ∃ p, (j - 1) / 2 = p := ⟨_, rfl⟩
  rw [hp] at hlt ⊢
  have hpj : p < j := by omega
  constructor
  · intro i i0 hi hne
    obtain ⟨q, hq⟩ : ∃ q, (i - 1) / 2 = q := ⟨_, rfl⟩
    rw [hq]
    by_cases e : i = j
    · subst e
      rw [swpF_b]
      obtain rfl : q = p := by omega
      rw [swpF_a]
      omega
    · rw [swpF_o f p j i hne e]
      by_cases e1 : q = p
      · subst e1
        rw [swpF_a]
        have := h.1 i i0 hi e
        rw [hq] at this
        omega
      · by_cases e2 : q = j
        · subst e2
          rw [swpF_b]
          have := h.2 i i0 hi hq h0
          rwa [hp] at this
        · rw [swpF_o f p j q e1 e2]
          have := h.1 i i0 hi e
          rwa [hq] at this
  · intro i i0 hi hip hp0
    have hpp : (p - 1) / 2 < p := by omega
    rw [swpF_o f p j ((p - 1) / 2) (by omega) (by omega)]
    have h1 := h.1 p hp0 (by omega) (by omega)
    by_cases e : i = j
    · subst e
      rw [swpF_b]
      exact h1
    · rw [swpF_o f p j i (by omega) e]
      have := h.1 i i0 hi e
      rw [hip] at this
      omega

/-- The end of the way down. -/
theorem HpD.done {f : Nat → Int} {n j : Nat} (h : HpD f n j) (h1 : 2 * j + 1 < n → f j ≤ f (2 * j + 1)) (h2 : 2 * j + 2 < n → f j ≤ f (2 * j + 2)) : HpF f n := by
  intro i h0 hi
  by_cases e : (i - 1) / 2 = j
  · rw [e]
    by_cases e1 : i = 2 * j + 1
    · subst e1; exact h1 hi
    · obtain rfl : i = 2 * j + 2 := by omega
      exact h2 hi
  · exact h.1 i h0 hi e

theorem HpD.next {f : Nat → Int} {n j c : Nat} (h : HpD f n j) (hc : c < n) (hcj : (c - 1) / 2 = j) (h0 : 0 < c) (hlt : f c < f j) (hmin : ∀ i, 0 < i → i < n → (i - 1) / 2 = j → f c ≤ f i) : HpD (swpF f j c) n c := by
  have hjc : j < c := by omega
  constructor
  · intro i i0 hi hne
    obtain ⟨q, hq⟩ : ∃ q, (i - 1) / 2 = q := ⟨_, rfl⟩
    rw [hq] at hne ⊢
    by_cases e1 : q = j
    · subst e1
      rw [swpF_a]
      by_cases e : i = c
      · subst e
        rw [swpF_b]
        omega
      · rw [swpF_o f q c i (by omega) e]
        exact hmin i i0 hi hq
    · rw [swpF_o f j c q e1 hne]
      have h3 := h.1 i i0 hi (by rw [hq]; exact e1)
      rw [hq] at h3
      by_cases e2 : i = j
      · subst e2
        rw [swpF_a]
        have := h.2 c h0 hc hcj i0
        rwa [hq] at this
      · rw [swpF_o f j c i e2 (by omega)]
        exact h3
  · intro i i0 hi hic _
    rw [hcj, swpF_a, swpF_o f j c i (by omega) (by omega)]
    have := h.1 i i0 hi (by omega)
    rwa [hic] at this

/-- A new last one. -/
theorem HpF.push {f : Nat → Int} {n : Nat} (h : HpF f n) : HpU f (n + 1) n :=
  ⟨fun i i0 hi hne => h i i0 (by omega), fun i i0 hi hp h0 => by omega⟩

/-- The first and the last change places; the last is no more. -/
theorem HpF.pop {f : Nat → Int} {n : Nat} (h : HpF f (n + 1)) : HpD (swpF f 0 n) n 0 := by
  refine ⟨fun i i0 hi hne => ?_, fun i i0 hi hp h0 => by omega⟩
  rw [swpF_o f 0 n i (by omega) (by omega), swpF_o f 0 n ((i - 1) / 2) (by omega) (by omega)]
  exact h i i0 (by omega)

/-- A list as a function. -/
def fnL (l : List Int) (i : Nat) : Int := l.getD i 0
theorem fnL_get {l : List Int} {i : Nat} (h : i < l.length) : fnL l i = l[i] := by simp [fnL, h]
def swpL (l : List Int) (i j : Nat) (hi : i < l.length) (hj : j < l.length) : List Int := (l.set i l[j]).set j l[i]
theorem swpL_len (l : List Int) (i j : Nat) (hi : i < l.length) (hj : j < l.length) : (swpL l i j hi hj).length = l.length := by simp [swpL]
theorem swpL_fn (l : List Int) (i j : Nat) (hi : i < l.length) (hj : j < l.length) : fnL (swpL l i j hi hj) = swpF (fnL l) i j := by
  funext k
  unfold fnL swpL swpF
  simp only [List.getD_eq_getElem?_getD, List.getElem?_set, List.length_set]
  by_cases e1 : k = i
  · subst e1
    by_cases e2 : j = k
    · subst e2; simp [hj]
    · simp [e2, hi, hj]
  · by_cases e2 : k = j
    · subst e2; simp [e1, hi, hj]
    · simp [e1, e2, Ne.symm e1, Ne.symm e2]
theorem swpL_perm (l : List Int) (i j : Nat) (hi : i < l.length) (hj : j < l.length) : (swpL l i j hi hj).Perm l := by
  unfold swpL
  exact List.set_set_perm hi hj

end Go.Proofs.Ytbbfpllffcfmhaa
