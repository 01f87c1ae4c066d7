/-
  Two substitutions, one behind the other: plain mathematics.
-/
import Derived.Test.YthinbkpjggihdaaTB
import Derived.Test.YthinbkpjggihdaaSR
namespace Go.Proofs.Ythinbkpjggihdaa

theorem app_app (σ τ : Int → T) (t : T) : (t.app σ).app τ = t.app (fun n => (σ n).app τ) := by
  induction t using T.ind with
  | _ t ih =>
    rw [T.app_eq σ t, T.app_eq _ t]
    by_cases h0 : t.fn.size = 0
    · rw [if_pos h0, if_pos h0]
    · rw [if_neg h0, if_neg h0, T.app_eq τ, if_neg (show ¬ (T.mk 0 t.fn (t.args.map (T.app σ))).fn.size = 0 from h0)]
      have e : (t.args.map (T.app σ)).map (T.app τ) = t.args.map (T.app fun n => (σ n).app τ) := by
        rw [List.map_map]
        exact List.map_congr_left fun a ha => ih a ha
      show T.mk 0 t.fn ((t.args.map (T.app σ)).map (T.app τ)) = _
      rw [e]

theorem img_in {c : List Bd} (hr : Rising c) {x : Bd} (hx : x ∈ c) : img c x.1 = x.2 := by
  obtain ⟨j, hj, rfl⟩ := List.mem_iff_getElem.1 hx
  exact img_yes hr hj rfl

theorem img_out {c : List Bd} {n : Int} (h : ∀ x ∈ c, x.1 ≠ n) : img c n = var n := img_no fun _ hk => h _ (List.getElem_mem hk)

theorem rising_uniq {s : List Bd} (hr : Rising s) {x y : Bd} (hx : x ∈ s) (hy : y ∈ s) (e : x.1 = y.1) : x = y := by
  obtain ⟨i, hi, rfl⟩ := List.mem_iff_getElem.1 hx
  obtain ⟨j, hj, rfl⟩ := List.mem_iff_getElem.1 hy
  rcases Nat.lt_trichotomy i j with h | h | h
  · have := hr i j hj h; omega
  · subst h; rfl
  · have := hr j i hi h; omega

theorem bound_iff {s : List Bd} {n : Int} : boundB s n = true ↔ ∃ x ∈ s, x.1 = n := by
  unfold boundB
  simp only [decide_eq_true_eq]
  constructor
  · rintro ⟨k, hk, e⟩
    exact ⟨_, List.getElem_mem hk, e⟩
  · rintro ⟨x, hx, e⟩
    obtain ⟨k, hk, rfl⟩ := List.mem_iff_getElem.1 hx
    exact ⟨k, hk, e⟩

theorem bound_no {s : List Bd} {n : Int} (h : ¬ ∃ x ∈ s, x.1 = n) : boundB s n = false := by
  cases e : boundB s n
  · rfl
  · exact absurd (bound_iff.1 e) h

theorem mem_joined {s r : List Bd} {y : Bd} : y ∈ joined s r ↔ (∃ x ∈ s, lastB r x = true ∧ y = (x.1, x.2.app (img r))) ∨ (∃ x ∈ r, boundB s x.1 = false ∧ y = (x.1, x.2.app var)) := by
  unfold joined
  rw [List.mem_append]
  constructor
  · rintro (h | h)
    · obtain ⟨x, hx, rfl⟩ := List.mem_map.1 h
      obtain ⟨h1, h2⟩ := List.mem_filter.1 hx
      exact .inl ⟨x, h1, h2, rfl⟩
    · obtain ⟨x, hx, rfl⟩ := List.mem_map.1 h
      obtain ⟨h1, h2⟩ := List.mem_filter.1 hx
      exact .inr ⟨x, h1, by simpa using h2, rfl⟩
  · rintro (⟨x, h1, h2, rfl⟩ | ⟨x, h1, h2, rfl⟩)
    · exact .inl (List.mem_map.2 ⟨x, List.mem_filter.2 ⟨h1, h2⟩, rfl⟩)
    · exact .inr (List.mem_map.2 ⟨x, List.mem_filter.2 ⟨h1, by simpa using h2⟩, rfl⟩)

theorem shape_var {t : T} (hs : t.shape = true) (h0 : t.fn.size = 0) : t = var t.v := by
  rw [T.shape_eq, if_pos h0] at hs
  simp only [Bool.and_eq_true, decide_eq_true_eq] at hs
  have h1 : t.args = [] := List.eq_nil_of_length_eq_zero hs.2
  have h2 := ba_empty.1 h0
  have h3 := t.eta
  rw [h1, h2] at h3
  exact h3

theorem last_false {r : List Bd} {x : Bd} (hr : IsSub r) (hx : x.2.shape = true) (h : lastB r x = false) : x.2.app (img r) = var x.1 := by
  unfold lastB at h
  simp only [Bool.or_eq_false_iff, decide_eq_false_iff_not, Bool.not_eq_false', Bool.and_eq_true, decide_eq_true_eq] at h
  obtain ⟨h0, h1, h2⟩ := h
  have h0 : x.2.fn.size = 0 := Classical.not_not.1 h0
  rw [T.app_eq, if_pos h0]
  rw [T.shape_eq, if_pos h0] at hx
  simp only [Bool.and_eq_true, decide_eq_true_eq] at hx
  have := shape_var (img_shape hr x.2.v hx.1.1 hx.1.2) h1
  rw [h2] at this
  exact this

/-- What is joined does what r does behind s. -/
theorem img_comp {s r c : List Bd} (hs : IsSub s) (hr : IsSub r) (hc : Rising c) (hm : ∀ y, y ∈ c ↔ y ∈ joined s r) (n : Int) : img c n = (img s n).app (img r) := by
  by_cases hb : ∃ x ∈ s, x.1 = n
  · obtain ⟨x, hx, rfl⟩ := hb
    rw [img_in hs.rising hx]
    cases hl : lastB r x
    · rw [last_false hr (right_shape (hs.right x hx)) hl]
      refine img_out fun y hy e => ?_
      rcases mem_joined.1 ((hm y).1 hy) with ⟨z, hz, hzl, rfl⟩ | ⟨z, hz, hzb, rfl⟩
      · have := rising_uniq hs.rising hz hx e
        subst this
        rw [hl] at hzl
        cases hzl
      · have : boundB s z.1 = true := bound_iff.2 ⟨x, hx, e.symm⟩
        rw [this] at hzb
        cases hzb
    · exact img_in hc (x := (x.1, x.2.app (img r))) ((hm _).2 (mem_joined.2 (.inl ⟨x, hx, hl, rfl⟩)))
  · rw [img_out (c := s) (fun x hx e => hb ⟨x, hx, e⟩), var_app]
    by_cases hb2 : ∃ x ∈ r, x.1 = n
    · obtain ⟨x, hx, rfl⟩ := hb2
      rw [img_in hr.rising hx]
      have := img_in hc (x := (x.1, x.2.app var)) ((hm _).2 (mem_joined.2 (.inr ⟨x, hx, bound_no hb, rfl⟩)))
      rw [app_var _ (right_shape (hr.right x hx))] at this
      exact this
    · rw [img_out (c := r) (fun x hx e => hb2 ⟨x, hx, e⟩), img_out (c := c)]
      intro y hy e
      rcases mem_joined.1 ((hm y).1 hy) with ⟨z, hz, _, rfl⟩ | ⟨z, hz, _, rfl⟩
      · exact hb ⟨z, hz, e⟩
      · exact hb2 ⟨z, hz, e⟩

theorem IsSub.num {l : List Bd} (h : IsSub l) : ∀ x ∈ l, 0 ≤ x.1 ∧ x.1 < 1000000 ∧ own1 x = false := by
  intro x hx
  obtain ⟨j, hj, rfl⟩ := List.mem_iff_getElem.1 hx
  have h0 := h.2 0 (by omega)
  have hj' := h.2 j hj
  have hr := h.rising
  unfold okb prv at h0
  unfold okb at hj'
  simp only [Bool.and_eq_true, decide_eq_true_eq, Bool.not_eq_true'] at h0 hj'
  refine ⟨?_, hj'.1.1.2, hj'.1.2⟩
  rcases Nat.eq_zero_or_pos j with e | e
  · subst e; omega
  · have := hr 0 j hj e; omega

theorem fits_rt {u : T} (hs : u.shape = true) (h : fitsW u = 0) : Rt u ∧ u.rightW = 0 := by
  have h60 : ¬ 60 < u.depth := fun hd => by unfold fitsW at h; rw [if_pos hd] at h; omega
  have h40 : ¬ 4000 < u.size := fun hd => by unfold fitsW at h; rw [if_neg h60, if_pos hd] at h; omega
  have h2 : (u.size : Int) ≤ 1048576 := by omega
  refine ⟨⟨hs, by omega, by omega, (short_of u (by omega)).1⟩, ?_⟩
  rw [right_fits hs (by omega)]
  exact h

/-- What is joined, and stands in order, is a substitution. -/
theorem comp_sub {s r c : List Bd} (hs : Sb s) (hr : Sb r) (hfit : ∀ x ∈ s, fitsW (x.2.app (img r)) = 0) (hc : Rising c) (hm : ∀ y, y ∈ c ↔ y ∈ joined s r) (hlen : c.length ≤ 4000) : Sb c := by
  have key : ∀ y ∈ c, 0 ≤ y.1 ∧ y.1 < 1000000 ∧ own1 y = false ∧ y.2.rightW = 0 ∧ Rt y.2 := by
    intro y hy
    rcases mem_joined.1 ((hm y).1 hy) with ⟨x, hx, hl, rfl⟩ | ⟨x, hx, hb, rfl⟩
    · obtain ⟨n0, n1, _⟩ := hs.sub.num x hx
      obtain ⟨h1, h2⟩ := fits_rt (app_shape _ (img_shape hr.sub) x.2 (hs.rt x hx).shape) (hfit x hx)
      refine ⟨n0, n1, ?_, h2, h1⟩
      unfold lastB at hl
      unfold own1
      rw [T.app_eq]
      by_cases h0 : x.2.fn.size = 0
      · rw [if_pos h0]
        rw [decide_eq_false (by simpa using h0), Bool.false_or] at hl
        simpa only [Bool.not_eq_true'] using hl
      · rw [if_neg h0, decide_eq_false (show ¬ (T.mk 0 x.2.fn (x.2.args.map (T.app (img r)))).fn.size = 0 from h0)]
        rfl
    · obtain ⟨n0, n1, n2⟩ := hr.sub.num x hx
      rw [app_var _ (hr.rt x hx).shape]
      exact ⟨n0, n1, n2, hr.sub.right x hx, hr.rt x hx⟩
  refine ⟨⟨hlen, fun j hj => ?_⟩, fun x hx => (key x hx).2.2.2.2⟩
  obtain ⟨k0, k1, k2, k3, _⟩ := key _ (List.getElem_mem hj)
  refine okb_true ?_ k1 k2 k3
  cases j with
  | zero => exact Int.lt_of_lt_of_le (by decide : (-1 : Int) < 0) k0
  | succ j => rw [prv_succ c j (by omega)]; exact hc j (j + 1) hj (by omega)

end Go.Proofs.Ythinbkpjggihdaa
