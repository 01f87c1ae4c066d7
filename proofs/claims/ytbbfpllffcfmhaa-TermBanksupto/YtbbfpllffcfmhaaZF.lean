import Derived.Test.YtbbfpllffcfmhaaZD

/-
  f(a, a) in a new bank.
-/
namespace Go.Proofs.Ytbbfpllffcfmhaa
open Go.RowKit Go.Maps

def Ta : T := .mk 0 ⟨#[97]⟩ []
def Tf : T := .mk 0 ⟨#[102]⟩ [Ta, Ta]
def Na : Nd := ⟨0, ⟨#[97]⟩, []⟩
def Nf : Nd := ⟨0, ⟨#[102]⟩, [1, 1]⟩

theorem na_ne : Na.val ≠ Nf.val := by
  intro h
  simp [Nd.val, Nd.cells, ndCells, Na, Nf] at h

theorem entOf_self (e : Ent) (nd : Nd) (h : e.nd = nd) : entOf [e] nd = some e := by
  classical
  unfold entOf
  simp [List.find?, h]

theorem entOf_other (e : Ent) (nd : Nd) (h : e.nd.val ≠ nd.val) : entOf [e] nd = none := by
  classical
  unfold entOf
  simp only [List.find?, decide_eq_false h]

/-- The numbers of f(a, a). -/
theorem num_f (n0 Ba : Nat) (limit : Int) : ∃ s : {es : List Ent // Good es}, (enterM n0 Ba limit).num Tf (⟨[], Good.nil⟩ : {es : List Ent // Good es}) = (s, 2) ∧ s.1 = bumps [1, 1] ([⟨1, Na, 0, 0⟩] ++ [⟨2, Nf, 0, 0⟩]) := by
  have hA : ∀ s : {es : List Ent // Good es}, (enterM n0 Ba limit).num Ta s = enterStep s Na := fun s => (enterM n0 Ba limit).num_eq Ta s
  have h1 := enterStep_new (s := ⟨[], Good.nil⟩) (nd := Na) (by unfold entOf; rfl) (by simp)
  obtain ⟨s1, hs1, e1⟩ : ∃ s1 : {es : List Ent // Good es}, enterStep ⟨[], Good.nil⟩ Na = (s1, 1) ∧ s1.1 = [⟨1, Na, 0, 0⟩] := ⟨_, h1, rfl⟩
  have h2 : enterStep s1 Na = (s1, 1) := enterStep_old (e := ⟨1, Na, 0, 0⟩) (by rw [e1]; exact entOf_self _ _ rfl)
  have h3 := enterStep_new (s := s1) (nd := Nf) (by rw [e1]; exact entOf_other _ _ na_ne) (by rw [e1]; simp)
  have hn : Numb.num.nums (enterM n0 Ba limit) [Ta, Ta] (⟨[], Good.nil⟩ : {es : List Ent // Good es}) = (s1, [1, 1]) := by
    simp only [Numb.num.nums]
    rw [hA, hs1]
    dsimp only
    rw [hA, h2]
    rfl
  refine ⟨(enterStep s1 Nf).1, ?_, ?_⟩
  · refine ((enterM n0 Ba limit).num_eq Tf _).trans ?_
    refine (congrArg (fun p : {es : List Ent // Good es} × List Int => enterStep p.1 ⟨0, ⟨#[102]⟩, p.2⟩) hn).trans ?_
    show enterStep s1 Nf = _
    have h4 : (enterStep s1 Nf).2 = 2 := by rw [h3]; simp [e1]
    rw [← h4]
  · rw [h3]
    show bumps Nf.args (s1.1 ++ [⟨(s1.1.length : Int) + 1, Nf, 0, 0⟩]) = _
    rw [e1]
    rfl

end Go.Proofs.Ytbbfpllffcfmhaa

/-
  Get(2) behind Make(f(a, a)).
-/
namespace Go.Proofs.Ytbbfpllffcfmhaa
open Go.RowKit Go.Maps

theorem get_f (n0 Ba : Nat) (B : List Nat) (limit : Int) (W : World) (hb : BankSt n0 Ba B limit ((bumps [1, 1] ([⟨1, Na, 0, 0⟩] ++ [⟨2, Nf, 0, 0⟩])).map (keepE 2)) [] W) :
    Calls Try.prog 29 #[.pointer (some ⟨Ba, 0, none⟩), .int .i64 2] W fun e' W' => ∃ sl, e' = .returned (.tuple #[tval Tf sl, .int .i64 0]) ∧ ArgsAt W' sl Tf.args ∧ Below W.heap.size W W' := by
  obtain ⟨ea, ef, hes, a1, a2, f1, f2⟩ : ∃ ea ef : Ent, (bumps [1, 1] ([⟨1, Na, 0, 0⟩] ++ [⟨2, Nf, 0, 0⟩])).map (keepE 2) = [ea, ef] ∧ ea.id = 1 ∧ ea.nd = Na ∧ ef.id = 2 ∧ ef.nd = Nf :=
    ⟨_, _, rfl, by simp [keepE_id, bumpE_id], by simp [keepE_nd, bumpE_nd], by simp [keepE_id, bumpE_id], by simp [keepE_nd, bumpE_nd]⟩
  rw [hes] at hb
  have hnod : ([ea, ef].map (·.id)).Nodup := by simp [a1, f1]
  have hA : ∀ X, BankSt n0 Ba B limit [ea, ef] [] X → Calls Try.prog 56 #[.pointer (some ⟨Ba, 0, none⟩), .int .i64 1] X fun e' X' => ∃ sl, e' = .returned (tval Ta sl) ∧ (∀ g, sl.ownBlock = some g → X.heap.size ≤ g) ∧ ArgsAt X' sl Ta.args ∧ Below X.heap.size X X' := by
    intro X hX
    have := built_one n0 Ba B limit [ea, ef] [] hnod Ta ea (by simp) (by rw [a1]; exact ⟨by omega, by omega⟩) (by rw [a2]; rfl) (by rw [a2]; rfl) (by rw [a2]; rfl) (by simp [Ta, T.args]) (fun a h => by cases h) (fun i h h' => by cases h') X hX
    rwa [a1] at this
  have hF : ∀ X, BankSt n0 Ba B limit [ea, ef] [] X → Calls Try.prog 56 #[.pointer (some ⟨Ba, 0, none⟩), .int .i64 2] X fun e' X' => ∃ sl, e' = .returned (tval Tf sl) ∧ (∀ g, sl.ownBlock = some g → X.heap.size ≤ g) ∧ ArgsAt X' sl Tf.args ∧ Below X.heap.size X X' := by
    intro X hX
    have := built_one n0 Ba B limit [ea, ef] [] hnod Tf ef (by simp) (by rw [f1]; exact ⟨by omega, by omega⟩) (by rw [f2]; rfl) (by rw [f2]; rfl) (by rw [f2]; rfl) (by simp [Tf, T.args]) (fun a h => by simp [Tf, T.args] at h; subst h; rfl) (fun i h h' Y hY => by
      have e1 : ef.nd.args[i] = 1 := by
        have : i < 2 := h'
        have e2 : ∀ (nd : Nd), nd = Nf → ∀ (hi : i < nd.args.length), nd.args[i] = 1 := by
          rintro _ rfl hi
          match i, this with
          | 0, _ => rfl
          | 1, _ => rfl
        exact e2 _ f2 h
      have e3 : Tf.args[i] = Ta := by
        have : i < 2 := h'
        match i, this with
        | 0, _ => rfl
        | 1, _ => rfl
      rw [e1, e3]
      refine (hA Y hY).mono ?_
      rintro e' Y' ⟨sl, he, _, ha, hbl⟩
      obtain ⟨a, c, rfl, _, hc⟩ := ha.slice
      exact ⟨a, c, he, hc, hbl⟩) X hX
    rwa [f1] at this
  exact get_one n0 Ba B limit [ea, ef] [] hnod Tf 2 (by simp [a1, f1]) ⟨by omega, by omega⟩ (fun a h => by simp [Tf, T.args] at h; subst h; rfl) hF W hb

end Go.Proofs.Ytbbfpllffcfmhaa
