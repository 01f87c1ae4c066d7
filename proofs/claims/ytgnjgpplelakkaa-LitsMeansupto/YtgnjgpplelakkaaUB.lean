/-
  The variables of a term: numbers in order, plain mathematics.
-/
import Derived.Test.YtgnjgpplelakkaaUA
namespace Go.Proofs.Ytgnjgpplelakkaa
open Go.RowKit Go.Shelf

/-- The variables' numbers, from the left. -/
def T.vs : T → List Int
  | .mk v fn args => (if fn.size = 0 then [v] else []) ++ go args
where go : List T → List Int
  | [] => []
  | a :: r => T.vs a ++ go r

theorem T.vs_eq (t : T) : t.vs = (if t.fn.size = 0 then [t.v] else []) ++ (t.args.map T.vs).flatten := by
  have h : ∀ l : List T, T.vs.go l = (l.map T.vs).flatten := by
    intro l
    induction l with
    | nil => rfl
    | cons a r ih => simp [T.vs.go, ih]
  cases t with
  | mk v fn args => simp [T.vs, T.v, T.fn, T.args, h]

/-- Strictly rising. -/
abbrev Rise (l : List Int) : Prop := l.Pairwise (· < ·)

theorem rise_eq : ∀ (a b : List Int), Rise a → Rise b → (∀ x, x ∈ a ↔ x ∈ b) → a = b
  | [], [], _, _, _ => rfl
  | [], y :: b, _, _, h => absurd ((h y).2 (by simp)) (by simp)
  | x :: a, [], _, _, h => absurd ((h x).1 (by simp)) (by simp)
  | x :: a, y :: b, ha, hb, h => by
    obtain ⟨ha1, ha2⟩ := List.pairwise_cons.1 ha
    obtain ⟨hb1, hb2⟩ := List.pairwise_cons.1 hb
    have hxy : x = y := by
      have h1 := (h x).1 (by simp)
      have h2 := (h y).2 (by simp)
      rcases List.mem_cons.1 h1 with h1 | h1
      · exact h1
      · rcases List.mem_cons.1 h2 with h2 | h2
        · exact h2.symm
        · have := hb1 x h1
          have := ha1 y h2
          omega
    subst hxy
    rw [rise_eq a b ha2 hb2 fun z => ⟨fun hz => ?_, fun hz => ?_⟩]
    · have hz' := ha1 z hz
      rcases List.mem_cons.1 ((h z).1 (by simp [hz])) with e | e
      · omega
      · exact e
    · have hz' := hb1 z hz
      rcases List.mem_cons.1 ((h z).2 (by simp [hz])) with e | e
      · omega
      · exact e

theorem rise_snoc {l : List Int} {x : Int} (h : Rise l) (hx : ∀ o ∈ l, o < x) : Rise (l ++ [x]) := by
  refine List.pairwise_append.2 ⟨h, by simp, fun a ha b hb => ?_⟩
  simp at hb
  subst hb
  exact hx a ha

theorem or_one (A B C D : Prop) : ((A ∨ D) ∨ B ∨ C) ↔ (A ∨ (D ∨ B) ∨ C) := by
  by_cases a : A <;> by_cases b : B <;> by_cases c : C <;> by_cases d : D <;> simp [a, b, c, d]
theorem or_two (A B C D : Prop) : (((A ∨ C) ∨ D) ∨ B ∨ C) ↔ (A ∨ (D ∨ B) ∨ C) := by
  by_cases a : A <;> by_cases b : B <;> by_cases c : C <;> by_cases d : D <;> simp [a, b, c, d]

/-- What with makes of a state at its end. -/
def wres (n : Int) (s : List Int × Bool) : List Int := if s.2 then s.1 else s.1 ++ [n]

theorem wres_rise (n : Int) : ∀ (r : List Int) (o : List Int) (b : Bool), Rise r → Rise o → (∀ x ∈ o, ∀ y ∈ r, x < y) → (b = false → ∀ x ∈ o, x < n) → (b = true → n ∈ o) →
    Rise (wres n (r.foldl (wstep n) (o, b))) ∧ ∀ z, z ∈ wres n (r.foldl (wstep n) (o, b)) ↔ z ∈ o ∨ z ∈ r ∨ z = n
  | [], o, b, _, ho, _, hf, ht => by
    cases b
    · refine ⟨rise_snoc ho (hf rfl), fun z => ?_⟩
      simp [wres]
    · refine ⟨ho, fun z => ?_⟩
      have := ht rfl
      simp only [wres, List.foldl_nil, if_true, List.not_mem_nil, false_or]
      exact ⟨.inl, fun h => h.elim id (fun e => e ▸ this)⟩
  | x :: r, o, b, hr, ho, hor, hf, ht => by
    obtain ⟨hr1, hr2⟩ := List.pairwise_cons.1 hr
    have hox : ∀ a ∈ o, a < x := fun a ha => hor a ha x (by simp)
    have hoy : ∀ a ∈ o, ∀ y ∈ r, a < y := fun a ha y hy => hor a ha y (by simp [hy])
    rw [List.foldl_cons]
    cases b
    · by_cases h1 : n ≤ x
      · by_cases h2 : x = n
        · have e : wstep n (o, false) x = (o ++ [n], true) := by simp [wstep, h2]
          subst h2
          obtain ⟨g1, g2⟩ := wres_rise x r (o ++ [x]) true hr2 (rise_snoc ho hox) (by
            intro a ha y hy
            rcases List.mem_append.1 ha with ha | ha
            · exact hoy a ha y hy
            · simp at ha; subst ha; exact hr1 y hy) (fun h => by cases h) (fun _ => by simp)
          rw [e]
          refine ⟨g1, fun z => (g2 z).trans ?_⟩
          simp only [List.mem_append, List.mem_cons, List.not_mem_nil, or_false]
          exact or_one _ _ _ _
        · have e : wstep n (o, false) x = (o ++ [n] ++ [x], true) := by simp [wstep, h1, h2]
          obtain ⟨g1, g2⟩ := wres_rise n r (o ++ [n] ++ [x]) true hr2 (rise_snoc (rise_snoc ho (hf rfl)) (by
            intro a ha
            rcases List.mem_append.1 ha with ha | ha
            · exact hox a ha
            · simp at ha; omega)) (by
            intro a ha y hy
            have hxy := hr1 y hy
            rcases List.mem_append.1 ha with ha | ha
            · rcases List.mem_append.1 ha with ha | ha
              · exact hoy a ha y hy
              · simp at ha; omega
            · simp at ha; omega) (fun h => by cases h) (fun _ => by simp)
          rw [e]
          refine ⟨g1, fun z => (g2 z).trans ?_⟩
          simp only [List.mem_append, List.mem_cons, List.not_mem_nil, or_false]
          exact or_two _ _ _ _
      · have h2 : ¬ x = n := by omega
        have e : wstep n (o, false) x = (o ++ [x], false) := by simp [wstep, h1, h2]
        obtain ⟨g1, g2⟩ := wres_rise n r (o ++ [x]) false hr2 (rise_snoc ho hox) (by
          intro a ha y hy
          rcases List.mem_append.1 ha with ha | ha
          · exact hoy a ha y hy
          · simp at ha; subst ha; exact hr1 y hy) (fun _ a ha => by
          rcases List.mem_append.1 ha with ha | ha
          · exact hf rfl a ha
          · simp at ha; omega) (fun h => by cases h)
        rw [e]
        refine ⟨g1, fun z => (g2 z).trans ?_⟩
        simp only [List.mem_append, List.mem_cons, List.not_mem_nil, or_false]
        exact or_one _ _ _ _
    · have hn := ht rfl
      have h2 : ¬ x = n := by have := hox n hn; omega
      have e : wstep n (o, true) x = (o ++ [x], true) := by simp [wstep, h2]
      obtain ⟨g1, g2⟩ := wres_rise n r (o ++ [x]) true hr2 (rise_snoc ho hox) (by
        intro a ha y hy
        rcases List.mem_append.1 ha with ha | ha
        · exact hoy a ha y hy
        · simp at ha; subst ha; exact hr1 y hy) (fun h => by cases h) (fun _ => by simp [hn])
      rw [e]
      refine ⟨g1, fun z => (g2 z).trans ?_⟩
      simp only [List.mem_append, List.mem_cons, List.not_mem_nil, or_false]
      exact or_one _ _ _ _

theorem wth_rise (l : List Int) (n : Int) (h : Rise l) : Rise (wth l n) ∧ ∀ z, z ∈ wth l n ↔ z ∈ l ∨ z = n := by
  obtain ⟨g1, g2⟩ := wres_rise n l [] false h List.Pairwise.nil (by simp) (by simp) (by simp)
  refine ⟨g1, fun z => (g2 z).trans (by simp)⟩

theorem wths_rise (m : List Int) : ∀ l, Rise l → Rise (m.foldl wth l) ∧ ∀ z, z ∈ m.foldl wth l ↔ z ∈ l ∨ z ∈ m := by
  induction m with
  | nil => intro l h; exact ⟨h, fun z => by simp⟩
  | cons n m ih =>
    intro l h
    obtain ⟨g1, g2⟩ := wth_rise l n h
    obtain ⟨k1, k2⟩ := ih (wth l n) g1
    refine ⟨k1, fun z => (k2 z).trans ?_⟩
    rw [g2]
    simp [or_assoc]

theorem wths_len (m : List Int) : ∀ l, (m.foldl wth l).length ≤ l.length + m.length := by
  induction m with
  | nil => intro l; simp
  | cons n m ih =>
    intro l
    have h1 := ih (wth l n)
    have h2 := wth_len l n
    simp only [List.foldl_cons, List.length_cons]
    omega

end Go.Proofs.Ytgnjgpplelakkaa
