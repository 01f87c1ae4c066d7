/-
  Matching, as it is done with a stack: mathematics; the stack in memory.
-/
import Derived.Test.YtblfbmdnkgebdaaPD
import Derived.Test.YtblfbmdnkgebdaaPE
import Derived.Test.YtblfbmdnkgebdaaSM
import Derived.Deep.Slices
import Derived.Deep.RegionLaw
import Derived.Deep.RegionHeld3
import Derived.Deep.LoopGhost
import Derived.WalkSmall
namespace Go.Proofs.Ytblfbmdnkgebdaa
open Go.RowKit Go.Maps

/-- How many parts a term has. -/
def T.nn : T → Nat
  | .mk _ _ args => 1 + nns args
where nns : List T → Nat
  | [] => 0
  | a :: r => T.nn a + nns r

theorem T.nns_eq : ∀ l : List T, T.nn.nns l = (l.map T.nn).sum
  | [] => rfl
  | a :: r => by simp [T.nn.nns, T.nns_eq r]
theorem T.nn_eq (t : T) : t.nn = 1 + (t.args.map T.nn).sum := by
  cases t with
  | mk v fn args => simp [T.nn, T.args, T.nns_eq]
theorem T.nn_pos (t : T) : 1 ≤ t.nn := by rw [T.nn_eq]; omega
theorem T.nn_size (t : T) : (t.nn : Int) = t.size := by
  induction t using T.ind with
  | _ t ih =>
    rw [T.nn_eq, T.size_eq]
    have h : ∀ l : List T, (∀ a ∈ l, (a.nn : Int) = a.size) → (((l.map T.nn).sum : Nat) : Int) = (l.map T.size).sum := by
      intro l
      induction l with
      | nil => intro _; rfl
      | cons a r ihr =>
        intro h
        simp only [List.map_cons, List.sum_cons, Int.natCast_add]
        rw [ihr fun x hx => h x (List.mem_cons_of_mem _ hx), h a List.mem_cons_self]
    rw [Int.natCast_add, h _ ih]
    rfl

/-- What stands for each variable. -/
abbrev Ta := Int → Option T
def Ta.put (τ : Ta) (v : Int) (t : T) : Ta := fun x => if x = v then some t else τ x
def Sg.ta (σ : Sg) : Ta := fun v => (σ v).map (·.1)
theorem ta_put (σ : Sg) (v : Int) (t : T) (sl : Value) : (σ.put v t sl).ta = σ.ta.put v t := by
  funext x
  unfold Sg.ta Sg.put Ta.put
  by_cases h : x = v <;> simp [h]

/-- Pairs that are still to be matched (the next one first), what stands so far, and what comes of it. -/
inductive MRun : List (T × T) → Ta → Option Ta → Prop
  | nil (τ : Ta) : MRun [] τ (some τ)
  | varOk (p t : T) (r : List (T × T)) (τ : Ta) (res : Option Ta) (hp : uvar p = true) (hτ : τ p.v = none ∨ τ p.v = some t) (h : MRun r (τ.put p.v t) res) : MRun ((p, t) :: r) τ res
  | varNo (p t t' : T) (r : List (T × T)) (τ : Ta) (hp : uvar p = true) (hτ : τ p.v = some t') (hne : t' ≠ t) : MRun ((p, t) :: r) τ none
  | fnOk (p t : T) (r : List (T × T)) (τ : Ta) (res : Option Ta) (hp : uvar p = false) (hf : p.fn = t.fn) (hl : p.args.length = t.args.length) (h : MRun ((p.args.zip t.args).reverse ++ r) τ res) : MRun ((p, t) :: r) τ res
  | fnNo (p t : T) (r : List (T × T)) (τ : Ta) (hp : uvar p = false) (hf : p.fn ≠ t.fn ∨ p.args.length ≠ t.args.length) : MRun ((p, t) :: r) τ none

/-- How much is still to be matched. -/
def mtot (l : List (T × T)) : Nat := (l.map fun q => q.1.nn).sum
theorem mtot_append (l m : List (T × T)) : mtot (l ++ m) = mtot l + mtot m := by simp [mtot]
theorem mtot_cons (q : T × T) (l : List (T × T)) : mtot (q :: l) = q.1.nn + mtot l := by simp [mtot]
theorem mtot_reverse : ∀ l : List (T × T), mtot l.reverse = mtot l
  | [] => rfl
  | q :: r => by rw [List.reverse_cons, mtot_append, mtot_reverse r, mtot_cons, mtot_cons]; simp [mtot]; omega
theorem mtot_zip : ∀ (l m : List T), l.length = m.length → mtot (l.zip m) = (l.map T.nn).sum
  | [], [], _ => rfl
  | a :: l, b :: m, h => by rw [List.zip_cons_cons, mtot_cons, mtot_zip l m (by simpa using h)]; simp
  | [], b :: m, h => by simp at h
  | a :: l, [], h => by simp at h
theorem mtot_args (p t : T) (h : p.args.length = t.args.length) : mtot (p.args.zip t.args) + 1 = p.nn := by
  rw [mtot_zip _ _ h, T.nn_eq p]; omega

theorem mrun_ex : ∀ (n : Nat) (l : List (T × T)), mtot l ≤ n → ∀ τ, ∃ res, MRun l τ res := by
  intro n
  induction n with
  | zero =>
    intro l hl τ
    cases l with
    | nil => exact ⟨_, .nil τ⟩
    | cons q r =>
      rw [mtot_cons] at hl
      have := q.1.nn_pos
      omega
  | succ n ih =>
    intro l hl τ
    cases l with
    | nil => exact ⟨_, .nil τ⟩
    | cons q r =>
      obtain ⟨p, t⟩ := q
      rw [mtot_cons] at hl
      have h1 := p.nn_pos
      by_cases hp : uvar p = true
      · cases hτ : τ p.v with
        | none =>
          obtain ⟨res, h⟩ := ih r (by simp at hl; omega) (τ.put p.v t)
          exact ⟨res, .varOk p t r τ res hp (.inl hτ) h⟩
        | some t' =>
          by_cases he : t' = t
          · subst he
            obtain ⟨res, h⟩ := ih r (by simp at hl; omega) (τ.put p.v t')
            exact ⟨res, .varOk p t' r τ res hp (.inr hτ) h⟩
          · exact ⟨none, .varNo p t t' r τ hp hτ he⟩
      · have hp' : uvar p = false := by simpa using hp
        by_cases hf : p.fn = t.fn ∧ p.args.length = t.args.length
        · obtain ⟨res, h⟩ := ih ((p.args.zip t.args).reverse ++ r) (by
            rw [mtot_append, mtot_reverse]
            have := mtot_args p t hf.2
            simp at hl
            omega) τ
          exact ⟨res, .fnOk p t r τ res hp' hf.1 hf.2 h⟩
        · exact ⟨none, .fnNo p t r τ hp' (Decidable.or_iff_not_not_and_not.2 fun h => hf ⟨Classical.not_not.1 h.1, Classical.not_not.1 h.2⟩)⟩

theorem Try.info98 : (Try.prog.info? 98).map (fun i => (i.zero, i.size, i.bytes)) = some (some (.agg #[.int .i64 0, .string ⟨#[]⟩, .slice none 0 0, .int .i64 0, .string ⟨#[]⟩, .slice none 0 0]), 6, 96) := by kernel_rfl

/-- A pair of terms, and where their arguments lie. -/
abbrev Pr := (T × Value) × (T × Value)
def cells6 (p : Pr) : List Value := [.int .i64 p.1.1.v, .string p.1.1.fn, p.1.2, .int .i64 p.2.1.v, .string p.2.1.fn, p.2.2]
def flat6 (ps : List Pr) : List Value := ps.flatMap cells6
theorem flat6_snoc (ps : List Pr) (p : Pr) : flat6 (ps ++ [p]) = flat6 ps ++ cells6 p := by simp [flat6]
theorem flat6_len (ps : List Pr) : (flat6 ps).length = ps.length * 6 := by
  unfold flat6
  induction ps with
  | nil => rfl
  | cons p r ih => simp only [List.flatMap_cons, List.length_append, ih, List.length_cons, cells6, List.length_nil]; omega

def Pr.ts (p : Pr) : T × T := (p.1.1, p.2.1)

/-- The last of a row. -/
theorem last6 {W : World} {base g cap m : Nat} {qs : List Pr} {q : Pr} (hm : qs.length = m) (h : W.ownsRow base 98 6 (.slice (some ⟨g, 0, none⟩) (m + 1) cap) (m + 1) (flat6 (qs ++ [q]))) :
    (W.cell? ⟨g, m * 6, none⟩ = some (.int .i64 q.1.1.v) ∧ W.cell? ⟨g, m * 6 + 1, none⟩ = some (.string q.1.1.fn) ∧ W.cell? ⟨g, m * 6 + 2, none⟩ = some q.1.2 ∧ W.cell? ⟨g, m * 6 + 3, none⟩ = some (.int .i64 q.2.1.v) ∧ W.cell? ⟨g, m * 6 + 4, none⟩ = some (.string q.2.1.fn) ∧ W.cell? ⟨g, m * 6 + 5, none⟩ = some q.2.2) ∧
      W.ownsRow base 98 6 (.slice (some ⟨g, 0, none⟩) m cap) m (flat6 qs) := by
  have hl : (flat6 qs).length = m * 6 := by rw [flat6_len, hm]
  rw [flat6_snoc] at h
  have hc : ∀ j u, (cells6 q)[j]? = some u → W.cell? ⟨g, m * 6 + j, none⟩ = some u := by
    intro j u hj
    have hj6 : j < 6 := by
      have := (List.getElem?_eq_some_iff.1 hj).1
      simpa [cells6] using this
    rw [h.cellAt (m * 6 + j) (by omega), List.getElem?_append_right (by omega), hl, Nat.add_sub_cancel_left]
    exact hj
  exact ⟨⟨hc 0 _ rfl, hc 1 _ rfl, hc 2 _ rfl, hc 3 _ rfl, hc 4 _ rfl, hc 5 _ rfl⟩, ownsRow_pop hl h⟩

end Go.Proofs.Ytblfbmdnkgebdaa
