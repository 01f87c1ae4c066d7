/-
  The variables of a term: numbers in order, plain mathematics.
-/
import Derived.Test.YtbbfpllffcfmhaaVA
import Derived.Lib.SlicesCompact
namespace Go.Proofs.Ytbbfpllffcfmhaa
open Go.RowKit Go.Shelf

/-- The variables' numbers, from the left. -/
def T.vs : T → List Int
  | .mk v fn args => (if fn.size = 0 then [v] else []) ++ go args
where go : List T → List Int
  | [] => []
  | a :: r => T.vs a ++ go r

theorem T.vs_eq (t : T) : t.vs = (if t.fn.size = 0 then [t.v] else []) ++ (t.args.map T.vs).flatten := by
  have h : ∀ l : List T, T.vs.go l = (l.map T.vs).flatten := by
    intro l
    induction l with
    | nil => rfl
    | cons a r ih => simp [T.vs.go, ih]
  cases t with
  | mk v fn args => simp [T.vs, T.v, T.fn, T.args, h]

/-- The numbers of the parts that are variables. -/
def pvs (l : List Part) : List Int := (l.filter (fun q => q.2.isVar)).map (fun q => q.2.v)
theorem pvs_snoc (l : List Part) (q : Part) : pvs (l ++ [q]) = pvs l ++ (if q.2.isVar then [q.2.v] else []) := by
  unfold pvs
  rw [List.filter_append, List.map_append]
  cases h : q.2.isVar <;> simp [h]
theorem pvs_append (l m : List Part) : pvs (l ++ m) = pvs l ++ pvs m := by simp [pvs]
theorem pvs_len (l : List Part) : (pvs l).length ≤ l.length := by
  unfold pvs
  rw [List.length_map]
  exact List.length_filter_le _ _

theorem vs_parts (t : T) : ∀ pl, pvs (t.parts pl) = t.vs := by
  induction t using T.ind with
  | _ t ih =>
    intro pl
    have h : ∀ (l : List T) (i : Nat), (∀ a ∈ l, a ∈ t.args) → pvs (T.parts.kids l pl i) = (l.map T.vs).flatten := by
      intro l
      induction l with
      | nil => intro i _; rfl
      | cons a r ihl =>
        intro i hm
        have h1 := ih a (hm a (by simp)) (pl ++ [(i : Int)])
        have h2 := ihl (i + 1) (fun b hb => hm b (by simp [hb]))
        simp only [T.parts.kids, List.map_cons, List.flatten_cons]
        rw [pvs_append, h1, h2]
    rw [t.parts_eq, t.vs_eq, ← h t.args 0 (fun _ h => h)]
    have e : pvs ((pl, t) :: T.parts.kids t.args pl 0) = pvs [(pl, t)] ++ pvs (T.parts.kids t.args pl 0) := pvs_append [(pl, t)] _
    rw [e]
    congr 1
    have e3 : pvs [(pl, t)] = if t.isVar then [t.v] else [] := pvs_snoc [] (pl, t)
    rw [e3]
    unfold T.isVar
    by_cases h0 : t.fn.size = 0
    · rw [if_pos (decide_eq_true h0), if_pos h0]
    · rw [if_neg (by rw [decide_eq_false h0]; simp), if_neg h0]

/-- Strictly rising. -/
abbrev Rise (l : List Int) : Prop := l.Pairwise (· < ·)

theorem rise_eq : ∀ (a b : List Int), Rise a → Rise b → (∀ x, x ∈ a ↔ x ∈ b) → a = b
  | [], [], _, _, _ => rfl
  | [], y :: b, _, _, h => absurd ((h y).2 (by simp)) (by simp)
  | x :: a, [], _, _, h => absurd ((h x).1 (by simp)) (by simp)
  | x :: a, y :: b, ha, hb, h => by
    obtain ⟨ha1, ha2⟩ := List.pairwise_cons.1 ha
    obtain ⟨hb1, hb2⟩ := List.pairwise_cons.1 hb
    have hxy : x = y := by
      have h1 := (h x).1 (by simp)
      have h2 := (h y).2 (by simp)
      rcases List.mem_cons.1 h1 with h1 | h1
      · exact h1
      · rcases List.mem_cons.1 h2 with h2 | h2
        · exact h2.symm
        · have := hb1 x h1
          have := ha1 y h2
          omega
    subst hxy
    rw [rise_eq a b ha2 hb2 fun z => ⟨fun hz => ?_, fun hz => ?_⟩]
    · have hz' := ha1 z hz
      rcases List.mem_cons.1 ((h z).1 (by simp [hz])) with e | e
      · omega
      · exact e
    · have hz' := hb1 z hz
      rcases List.mem_cons.1 ((h z).2 (by simp [hz])) with e | e
      · omega
      · exact e

theorem rise_snoc {l : List Int} {x : Int} (h : Rise l) (hx : ∀ o ∈ l, o < x) : Rise (l ++ [x]) := by
  refine List.pairwise_append.2 ⟨h, by simp, fun a ha b hb => ?_⟩
  simp at hb
  subst hb
  exact hx a ha

theorem or_one (A B C D : Prop) : ((A ∨ D) ∨ B ∨ C) ↔ (A ∨ (D ∨ B) ∨ C) := by
  by_cases a : A <;> by_cases b : B <;> by_cases c : C <;> by_cases d : D <;> simp [a, b, c, d]
theorem or_two (A B C D : Prop) : (((A ∨ C) ∨ D) ∨ B ∨ C) ↔ (A ∨ (D ∨ B) ∨ C) := by
  by_cases a : A <;> by_cases b : B <;> by_cases c : C <;> by_cases d : D <;> simp [a, b, c, d]

/-- What with makes of a state at its end. -/
def wres (n : Int) (s : List Int × Bool) : List Int := if s.2 then s.1 else s.1 ++ [n]

theorem wres_rise (n : Int) : ∀ (r : List Int) (o : List Int) (b : Bool), Rise r → Rise o → (∀ x ∈ o, ∀ y ∈ r, x < y) → (b = false → ∀ x ∈ o, x < n) → (b = true → n ∈ o) →
    Rise (wres n (r.foldl (wstep n) (o, b))) ∧ ∀ z, z ∈ wres n (r.foldl (wstep n) (o, b)) ↔ z ∈ o ∨ z ∈ r ∨ z = n
  | [], o, b, _, ho, _, hf, ht => by
    cases b
    · refine ⟨rise_snoc ho (hf rfl), fun z => ?_⟩
      simp [wres]
    · refine ⟨ho, fun z => ?_⟩
      have := ht rfl
      simp only [wres, List.foldl_nil, if_true, List.not_mem_nil, false_or]
      exact ⟨.inl, fun h => h.elim id (fun e => e ▸ this)⟩
  | x :: r, o, b, hr, ho, hor, hf, ht => by
    obtain ⟨hr1, hr2⟩ := List.pairwise_cons.1 hr
    have hox : ∀ a ∈ o, a < x := fun a ha => hor a ha x (by simp)
    have hoy : ∀ a ∈ o, ∀ y ∈ r, a < y := fun a ha y hy => hor a ha y (by simp [hy])
    rw [List.foldl_cons]
    cases b
    · by_cases h1 : n ≤ x
      · by_cases h2 : x = n
        · have e : wstep n (o, false) x = (o ++ [n], true) := by simp [wstep, h2]
          subst h2
          obtain ⟨g1, g2⟩ := wres_rise x r (o ++ [x]) true hr2 (rise_snoc ho hox) (by
            intro a ha y hy
            rcases List.mem_append.1 ha with ha | ha
            · exact hoy a ha y hy
            · simp at ha; subst ha; exact hr1 y hy) (fun h => by cases h) (fun _ => by simp)
          rw [e]
          refine ⟨g1, fun z => (g2 z).trans ?_⟩
          simp only [List.mem_append, List.mem_cons, List.not_mem_nil, or_false]
          exact or_one _ _ _ _
        · have e : wstep n (o, false) x = (o ++ [n] ++ [x], true) := by simp [wstep, h1, h2]
          obtain ⟨g1, g2⟩ := wres_rise n r (o ++ [n] ++ [x]) true hr2 (rise_snoc (rise_snoc ho (hf rfl)) (by
            intro a ha
            rcases List.mem_append.1 ha with ha | ha
            · exact hox a ha
            · simp at ha; omega)) (by
            intro a ha y hy
            have hxy := hr1 y hy
            rcases List.mem_append.1 ha with ha | ha
            · rcases List.mem_append.1 ha with ha | ha
              · exact hoy a ha y hy
              · simp at ha; omega
            · simp at ha; omega) (fun h => by cases h) (fun _ => by simp)
          rw [e]
          refine ⟨g1, fun z => (g2 z).trans ?_⟩
          simp only [List.mem_append, List.mem_cons, List.not_mem_nil, or_false]
          exact or_two _ _ _ _
      · have h2 : ¬ x = n := by omega
        have e : wstep n (o, false) x = (o ++ [x], false) := by simp [wstep, h1, h2]
        obtain ⟨g1, g2⟩ := wres_rise n r (o ++ [x]) false hr2 (rise_snoc ho hox) (by
          intro a ha y hy
          rcases List.mem_append.1 ha with ha | ha
          · exact hoy a ha y hy
          · simp at ha; subst ha; exact hr1 y hy) (fun _ a ha => by
          rcases List.mem_append.1 ha with ha | ha
          · exact hf rfl a ha
          · simp at ha; omega) (fun h => by cases h)
        rw [e]
        refine ⟨g1, fun z => (g2 z).trans ?_⟩
        simp only [List.mem_append, List.mem_cons, List.not_mem_nil, or_false]
        exact or_one _ _ _ _
    · have hn := ht rfl
      have h2 : ¬ x = n := by have := hox n hn; omega
      have e : wstep n (o, true) x = (o ++ [x], true) := by simp [wstep, h2]
      obtain ⟨g1, g2⟩ := wres_rise n r (o ++ [x]) true hr2 (rise_snoc ho hox) (by
        intro a ha y hy
        rcases List.mem_append.1 ha with ha | ha
        · exact hoy a ha y hy
        · simp at ha; subst ha; exact hr1 y hy) (fun h => by cases h) (fun _ => by simp [hn])
      rw [e]
      refine ⟨g1, fun z => (g2 z).trans ?_⟩
      simp only [List.mem_append, List.mem_cons, List.not_mem_nil, or_false]
      exact or_one _ _ _ _

theorem wth_rise (l : List Int) (n : Int) (h : Rise l) : Rise (wth l n) ∧ ∀ z, z ∈ wth l n ↔ z ∈ l ∨ z = n := by
  obtain ⟨g1, g2⟩ := wres_rise n l [] false h List.Pairwise.nil (by simp) (by simp) (by simp)
  refine ⟨g1, fun z => (g2 z).trans (by simp)⟩

theorem wths_rise (m : List Int) : ∀ l, Rise l → Rise (m.foldl wth l) ∧ ∀ z, z ∈ m.foldl wth l ↔ z ∈ l ∨ z ∈ m := by
  induction m with
  | nil => intro l h; exact ⟨h, fun z => by simp⟩
  | cons n m ih =>
    intro l h
    obtain ⟨g1, g2⟩ := wth_rise l n h
    obtain ⟨k1, k2⟩ := ih (wth l n) g1
    refine ⟨k1, fun z => (k2 z).trans ?_⟩
    rw [g2]
    simp [or_assoc]

theorem wths_len (m : List Int) : ∀ l, (m.foldl wth l).length ≤ l.length + m.length := by
  induction m with
  | nil => intro l; simp
  | cons n m ih =>
    intro l
    have h1 := ih (wth l n)
    have h2 := wth_len l n
    simp only [List.foldl_cons, List.length_cons]
    omega

/-- Of a list that never falls Compact makes one that rises. -/
theorem upto_rise (d : Array Int) (hd : ∀ i j, i < j → j < d.size → d[i]! ≤ d[j]!) : ∀ m, m + 1 ≤ d.size →
    Rise (Lib.compactUpTo d (m + 1)) ∧ (∀ z, z ∈ Lib.compactUpTo d (m + 1) ↔ ∃ j, j < m + 1 ∧ d[j]! = z) := by
  intro m
  induction m with
  | zero =>
    intro _
    have e : Lib.compactUpTo d 1 = [d[0]!] := by
      rw [Lib.compactUpTo_succ]
      simp [Lib.compactUpTo, Lib.keeps]
    rw [e]
    refine ⟨by simp, fun z => ?_⟩
    simp only [List.mem_singleton]
    refine ⟨fun h => ⟨0, by omega, h.symm⟩, fun ⟨j, hj, hz⟩ => ?_⟩
    have : j = 0 := by omega
    subst this
    exact hz.symm
  | succ m ih =>
    intro hm
    obtain ⟨h1, h2⟩ := ih (by omega)
    rw [Lib.compactUpTo_succ]
    have hle := hd m (m + 1) (by omega) (by omega)
    have hall : ∀ z ∈ Lib.compactUpTo d (m + 1), z ≤ d[m]! := by
      intro z hz
      obtain ⟨j, hj, rfl⟩ := (h2 z).1 hz
      by_cases e : j = m
      · subst e; exact Int.le_refl _
      · exact hd j m (by omega) (by omega)
    by_cases hk : d[m + 1]! = d[m]!
    · have hkk : Lib.keeps d (m + 1) = false := by simp [Lib.keeps, hk]
      rw [hkk]
      simp only [Bool.false_eq_true, if_false, List.append_nil]
      refine ⟨h1, fun z => (h2 z).trans ⟨fun ⟨j, hj, hz⟩ => ⟨j, by omega, hz⟩, fun ⟨j, hj, hz⟩ => ?_⟩⟩
      by_cases e : j = m + 1
      · subst e; exact ⟨m, by omega, by rw [← hk]; exact hz⟩
      · exact ⟨j, by omega, hz⟩
    · have hkk : Lib.keeps d (m + 1) = true := by simp [Lib.keeps, hk]
      rw [hkk]
      simp only [if_true]
      refine ⟨rise_snoc h1 (fun o ho => by have := hall o ho; omega), fun z => ?_⟩
      simp only [List.mem_append, List.mem_singleton]
      rw [h2 z]
      constructor
      · rintro (⟨j, hj, hz⟩ | hz)
        · exact ⟨j, by omega, hz⟩
        · exact ⟨m + 1, by omega, hz.symm⟩
      · rintro ⟨j, hj, hz⟩
        by_cases e : j = m + 1
        · subst e; exact .inr hz.symm
        · exact .inl ⟨j, by omega, hz⟩

/-- Sorting and taking the doubles away makes what the document's way makes. -/
theorem sorted_same (l : List Int) : Lib.compact (l.mergeSort fun x y => decide (x ≤ y)) = l.foldl wth [] := by
  obtain ⟨k1, k2⟩ := wths_rise l [] List.Pairwise.nil
  have hp : (l.mergeSort fun x y => decide (x ≤ y)).Pairwise (fun a b => decide (a ≤ b) = true) :=
    List.pairwise_mergeSort (fun a b c h1 h2 => by simp at *; omega) (fun a b => by simp; omega) l
  have hperm := List.mergeSort_perm l (fun x y => decide (x ≤ y))
  obtain ⟨d, hd⟩ : ∃ d, l.mergeSort (fun x y => decide (x ≤ y)) = d := ⟨_, rfl⟩
  rw [hd] at hp hperm ⊢
  clear hd
  by_cases h0 : d.length = 0
  · have e : d = [] := List.eq_nil_of_length_eq_zero h0
    subst e
    have e2 : l = [] := by
      have := hperm.length_eq
      exact List.eq_nil_of_length_eq_zero this.symm
    subst e2
    rfl
  · obtain ⟨g1, g2⟩ := upto_rise d.toArray (fun i j hij hj => by
      have hj' : j < d.length := by simpa using hj
      have := List.pairwise_iff_getElem.1 hp i j (by omega) hj' hij
      have hi' : i < d.length := by omega
      simpa [hi', hj'] using this) (d.length - 1) (by simp; omega)
    have e1 : d.length - 1 + 1 = d.length := by omega
    rw [e1] at g1 g2
    refine rise_eq _ _ g1 k1 fun z => ?_
    rw [k2 z, show (z ∈ Lib.compact d ↔ _) from g2 z, ← hperm.mem_iff]
    simp only [List.not_mem_nil, false_or]
    constructor
    · rintro ⟨j, hj, rfl⟩
      simp [hj]
    · intro hz
      obtain ⟨j, hj, e⟩ := List.mem_iff_getElem.1 hz
      exact ⟨j, hj, by simp [hj, e]⟩

end Go.Proofs.Ytbbfpllffcfmhaa
