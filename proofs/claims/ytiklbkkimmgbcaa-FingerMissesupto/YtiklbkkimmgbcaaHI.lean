/-
  Asking: states of nodes, and in which order they are done.
-/
import Derived.Test.YtiklbkkimmgbcaaHD
namespace Go.Proofs.Ytiklbkkimmgbcaa
open Go.RowKit

def zeros (st : Nat → Nat) (n : Nat) : Nat := (List.range n).countP fun i => decide (st i = 0)
def put1 (st : Nat → Nat) (p x : Nat) : Nat → Nat := fun i => if i = p then x else st i
theorem zeros_mono {st st' : Nat → Nat} {n : Nat} (h : ∀ i, st' i = 0 → st i = 0) : zeros st' n ≤ zeros st n :=
  List.countP_mono_left fun i _ h0 => decide_eq_true (h i (of_decide_eq_true h0))
theorem zeros_put {st : Nat → Nat} {n p : Nat} (hp : p < n) (h0 : st p = 0) : zeros (put1 st p 1) n < zeros st n := by
  have hle : ∀ i, put1 st p 1 i = 0 → st i = 0 := fun i h => by
    unfold put1 at h
    split at h
    · cases h
    · exact h
  have hno : put1 st p 1 p ≠ 0 := by simp [put1]
  unfold zeros
  have : ∀ (l : List Nat), p ∈ l → l.countP (fun i => decide (put1 st p 1 i = 0)) < l.countP (fun i => decide (st i = 0)) := by
    intro l
    induction l with
    | nil => intro h; cases h
    | cons x r ih =>
      intro hm
      have mono : r.countP (fun i => decide (put1 st p 1 i = 0)) ≤ r.countP (fun i => decide (st i = 0)) := List.countP_mono_left fun i _ h => decide_eq_true (hle i (of_decide_eq_true h))
      rw [List.countP_cons, List.countP_cons]
      rcases List.mem_cons.1 hm with rfl | hm
      · rw [if_neg (by simpa using hno), if_pos (by simpa using h0)]
        omega
      · have := ih hm
        by_cases h1 : put1 st p 1 x = 0
        · rw [if_pos (by simpa using h1), if_pos (by simpa using hle x h1)]
          omega
        · rw [if_neg (by simpa using h1)]
          omega
  exact this _ (List.mem_range.2 hp)

/-- What is known has known parts, that were known before. -/
def Ord (N : List Nd) (ρ : Nat → Nat) (st f : Nat → Nat) (c : Nat) : Prop :=
  ∀ i d, N[i]? = some d → st i = 2 → f i < c ∧ ∀ a ∈ d.args, st (ρ a) = 2 ∧ f (ρ a) < f i

theorem Ord.one {N : List Nd} {ρ st f : Nat → Nat} {c p : Nat} (h : Ord N ρ st f c) (h0 : st p = 0) : Ord N ρ (put1 st p 1) f c := by
  intro i d hd hi
  unfold put1 at hi
  split at hi
  · cases hi
  · obtain ⟨h1, h2⟩ := h i d hd hi
    refine ⟨h1, fun a ha => ?_⟩
    obtain ⟨h3, h4⟩ := h2 a ha
    refine ⟨?_, h4⟩
    unfold put1
    rw [if_neg (fun e => by rw [e, h0] at h3; cases h3)]
    exact h3

theorem Ord.done {N : List Nd} {ρ st f : Nat → Nat} {c p : Nat} {d : Nd} (h : Ord N ρ st f c) (hp : N[p]? = some d) (h1 : st p = 1) (ha : ∀ a ∈ d.args, st (ρ a) = 2) (hl : ∀ a ∈ d.args, ρ a < N.length) : Ord N ρ (put1 st p 2) (put1 f p c) (c + 1) := by
  have hne : ∀ i, st i = 2 → i ≠ p := fun i hi e => by rw [e, h1] at hi; cases hi
  intro i d' hd hi
  by_cases e : i = p
  · subst e
    rw [hp] at hd
    cases hd
    refine ⟨by simp [put1], fun a hA => ?_⟩
    have h2 := ha a hA
    refine ⟨by simp [put1, hne _ h2, h2], ?_⟩
    simp only [put1, if_neg (hne _ h2)]
    exact (h _ _ (List.getElem?_eq_getElem (hl a hA)) h2).1
  · unfold put1 at hi
    rw [if_neg e] at hi
    obtain ⟨h3, h4⟩ := h i d' hd hi
    refine ⟨by simp only [put1, if_neg e]; omega, fun a hA => ?_⟩
    obtain ⟨h5, h6⟩ := h4 a hA
    refine ⟨by simp [put1, hne _ h5, h5], ?_⟩
    simp only [put1, if_neg (hne _ h5), if_neg e]
    exact h6

/-- The measure in memory. -/
structure Mes (W1 W : World) (M gs gd gz n : Nat) (st : Nat → Nat) : Prop where
  bel : Below W1.heap.size W1 W
  ge : W1.heap.size ≤ M ∧ W1.heap.size ≤ gs ∧ W1.heap.size ≤ gd ∧ W1.heap.size ≤ gz
  ne : M ≠ gs ∧ M ≠ gd ∧ M ≠ gz ∧ gs ≠ gd ∧ gs ≠ gz ∧ gd ≠ gz
  box : W.heap[M]? = some (.cells #[.slice (some ⟨gs, 0, none⟩) n n, .slice (some ⟨gd, 0, none⟩) n n, .slice (some ⟨gz, 0, none⟩) n n] 97 (0, 0))
  s : ∃ cs, W.heap[gs]? = some (.cells cs 3 (0, 0)) ∧ ∀ i, i < n → cs[i]? = some (.int .i64 (st i : Nat))
  d : ∃ cs, W.heap[gd]? = some (.cells cs 3 (0, 0)) ∧ ∀ i, i < n → ∃ z : Int, cs[i]? = some (.int .i64 z)
  z : ∃ cs, W.heap[gz]? = some (.cells cs 3 (0, 0)) ∧ ∀ i, i < n → ∃ z : Int, cs[i]? = some (.int .i64 z)
  st2 : ∀ i, st i ≤ 2

section
variable {W1 W W' : World} {M gs gd gz n : Nat} {st : Nat → Nat}

theorem Mes.lt (h : Mes W1 W M gs gd gz n st) : M < W.heap.size ∧ gs < W.heap.size ∧ gd < W.heap.size ∧ gz < W.heap.size := by
  obtain ⟨_, h1, _⟩ := h.s
  obtain ⟨_, h2, _⟩ := h.d
  obtain ⟨_, h3, _⟩ := h.z
  exact ⟨(Array.getElem?_eq_some_iff.1 h.box).1, (Array.getElem?_eq_some_iff.1 h1).1, (Array.getElem?_eq_some_iff.1 h2).1, (Array.getElem?_eq_some_iff.1 h3).1⟩

theorem Mes.keep (h : Mes W1 W M gs gd gz n st) (hb : Below W.heap.size W W') : Mes W1 W' M gs gd gz n st := by
  obtain ⟨l1, l2, l3, l4⟩ := h.lt
  obtain ⟨cs, s1, s2⟩ := h.s
  obtain ⟨cd, d1, d2⟩ := h.d
  obtain ⟨cz, z1, z2⟩ := h.z
  exact ⟨h.bel.trans (hb.mono h.bel.size), h.ge, h.ne, (hb.block _ l1).trans h.box, ⟨cs, (hb.block _ l2).trans s1, s2⟩, ⟨cd, (hb.block _ l3).trans d1, d2⟩, ⟨cz, (hb.block _ l4).trans z1, z2⟩, h.st2⟩

theorem Mes.cells (h : Mes W1 W M gs gd gz n st) {i : Nat} (hi : i < n) : (W.cell? ⟨M, 0, none⟩ = some (.slice (some ⟨gs, 0, none⟩) n n) ∧ W.cell? ⟨M, 1, none⟩ = some (.slice (some ⟨gd, 0, none⟩) n n) ∧ W.cell? ⟨M, 2, none⟩ = some (.slice (some ⟨gz, 0, none⟩) n n)) ∧ (W.cell? ⟨gs, i, none⟩ = some (.int .i64 (st i : Nat)) ∧ W.frozen? ⟨gs, i, none⟩ = false) ∧ (∃ z : Int, W.cell? ⟨gd, i, none⟩ = some (.int .i64 z) ∧ W.frozen? ⟨gd, i, none⟩ = false) ∧ ∃ z : Int, W.cell? ⟨gz, i, none⟩ = some (.int .i64 z) ∧ W.frozen? ⟨gz, i, none⟩ = false := by
  obtain ⟨cs, s1, s2⟩ := h.s
  obtain ⟨cd, d1, d2⟩ := h.d
  obtain ⟨cz, z1, z2⟩ := h.z
  obtain ⟨y, hy⟩ := d2 i hi
  obtain ⟨z, hz⟩ := z2 i hi
  exact ⟨⟨cell_at h.box rfl, cell_at h.box rfl, cell_at h.box rfl⟩, ⟨cell_at s1 (s2 i hi), by simp [World.frozen?, s1]⟩, ⟨y, cell_at d1 hy, by simp [World.frozen?, d1]⟩, z, cell_at z1 hz, by simp [World.frozen?, z1]⟩

theorem Mes.setS (h : Mes W1 W M gs gd gz n st) {p : Nat} (hp : p < n) (x : Nat) (hx : x ≤ 2) : Mes W1 (W.setCell ⟨gs, p, none⟩ (.int .i64 (x : Nat))) M gs gd gz n (put1 st p x) := by
  obtain ⟨cs, s1, s2⟩ := h.s
  obtain ⟨cd, d1, d2⟩ := h.d
  obtain ⟨cz, z1, z2⟩ := h.z
  obtain ⟨n1, n2, n3, n4, n5, n6⟩ := h.ne
  have ho : ∀ k, k ≠ gs → (W.setCell ⟨gs, p, none⟩ (.int .i64 (x : Nat))).heap[k]? = W.heap[k]? := fun k hk => Below.heap_setCell _ _ _ k hk
  refine ⟨h.bel.trans ((only_setCell W gs p _).below h.bel.size (by simp [h.ge.2.1])), h.ge, h.ne, (ho _ n1).trans h.box, ⟨_, heap_setCell_same W gs p cs 3 _ s1, fun i hi => ?_⟩, ⟨cd, (ho _ (Ne.symm n4)).trans d1, d2⟩, ⟨cz, (ho _ (Ne.symm n5)).trans z1, z2⟩, fun i => ?_⟩
  · have hs : p < cs.size := (Array.getElem?_eq_some_iff.1 (s2 p hp)).1
    unfold put1
    by_cases e : i = p
    · subst e
      rw [if_pos rfl, Array.getElem?_setIfInBounds_self_of_lt hs]
    · rw [if_neg e, Array.getElem?_setIfInBounds_ne (Ne.symm e)]; exact s2 i hi
  · unfold put1
    split
    · exact hx
    · exact h.st2 i

theorem Mes.setD (h : Mes W1 W M gs gd gz n st) {p : Nat} (x : Int) : Mes W1 (W.setCell ⟨gd, p, none⟩ (.int .i64 x)) M gs gd gz n st := by
  obtain ⟨cs, s1, s2⟩ := h.s
  obtain ⟨cd, d1, d2⟩ := h.d
  obtain ⟨cz, z1, z2⟩ := h.z
  obtain ⟨n1, n2, n3, n4, n5, n6⟩ := h.ne
  have ho : ∀ k, k ≠ gd → (W.setCell ⟨gd, p, none⟩ (.int .i64 x)).heap[k]? = W.heap[k]? := fun k hk => Below.heap_setCell _ _ _ k hk
  refine ⟨h.bel.trans ((only_setCell W gd p _).below h.bel.size (by simp [h.ge.2.2.1])), h.ge, h.ne, (ho _ n2).trans h.box, ⟨cs, (ho _ n4).trans s1, s2⟩, ⟨_, heap_setCell_same W gd p cd 3 _ d1, fun i hi => ?_⟩, ⟨cz, (ho _ (Ne.symm n6)).trans z1, z2⟩, h.st2⟩
  obtain ⟨z, hz⟩ := d2 i hi
  by_cases e : i = p
  · subst e
    exact ⟨x, Array.getElem?_setIfInBounds_self_of_lt (Array.getElem?_eq_some_iff.1 hz).1⟩
  · exact ⟨z, by rw [Array.getElem?_setIfInBounds_ne (Ne.symm e)]; exact hz⟩

theorem Mes.setZ (h : Mes W1 W M gs gd gz n st) {p : Nat} (x : Int) : Mes W1 (W.setCell ⟨gz, p, none⟩ (.int .i64 x)) M gs gd gz n st := by
  obtain ⟨cs, s1, s2⟩ := h.s
  obtain ⟨cd, d1, d2⟩ := h.d
  obtain ⟨cz, z1, z2⟩ := h.z
  obtain ⟨n1, n2, n3, n4, n5, n6⟩ := h.ne
  have ho : ∀ k, k ≠ gz → (W.setCell ⟨gz, p, none⟩ (.int .i64 x)).heap[k]? = W.heap[k]? := fun k hk => Below.heap_setCell _ _ _ k hk
  refine ⟨h.bel.trans ((only_setCell W gz p _).below h.bel.size (by simp [h.ge.2.2.2])), h.ge, h.ne, (ho _ n3).trans h.box, ⟨cs, (ho _ n5).trans s1, s2⟩, ⟨cd, (ho _ n6).trans d1, d2⟩, ⟨_, heap_setCell_same W gz p cz 3 _ z1, fun i hi => ?_⟩, h.st2⟩
  obtain ⟨z, hz⟩ := z2 i hi
  by_cases e : i = p
  · subst e
    exact ⟨x, Array.getElem?_setIfInBounds_self_of_lt (Array.getElem?_eq_some_iff.1 hz).1⟩
  · exact ⟨z, by rw [Array.getElem?_setIfInBounds_ne (Ne.symm e)]; exact hz⟩
end

end Go.Proofs.Ytiklbkkimmgbcaa
