/-
  f(a, a) in a new bank.
-/
import Derived.Test.YtbbfpllffcfmhaaZD
namespace Go.Proofs.Ytbbfpllffcfmhaa
open Go.RowKit Go.Maps

def Ta : T := .mk 0 ⟨#[97]⟩ []
def Tf : T := .mk 0 ⟨#[102]⟩ [Ta, Ta]
def Na : Nd := ⟨0, ⟨#[97]⟩, []⟩
def Nf : Nd := ⟨0, ⟨#[102]⟩, [1, 1]⟩

theorem na_ne : Na.val ≠ Nf.val := by
  intro h
  simp [Nd.val, Nd.cells, ndCells, Na, Nf] at h

theorem entOf_self (e : Ent) (nd : Nd) (h : e.nd = nd) : entOf [e] nd = some e := by
  classical
  unfold entOf
  simp [List.find?, h]

theorem entOf_other (e : Ent) (nd : Nd) (h : e.nd.val ≠ nd.val) : entOf [e] nd = none := by
  classical
  unfold entOf
  simp only [List.find?, decide_eq_false h]

/-- The numbers of f(a, a). -/
theorem num_f (n0 Ba : Nat) (limit : Int) : ∃ s : {es : List Ent // Good es}, (enterM n0 Ba limit).num Tf (⟨[], Good.nil⟩ : {es : List Ent // Good es}) = (s, 2) ∧ s.1 = bumps [1, 1] ([⟨1, Na, 0, 0⟩] ++ [⟨2, Nf, 0, 0⟩]) := by
  have hA : ∀ s : {es : List Ent // Good es}, (enterM n0 Ba limit).num Ta s = enterStep s Na := fun s => (enterM n0 Ba limit).num_eq Ta s
  have h1 := enterStep_new (s := ⟨[], Good.nil⟩) (nd := Na) (by unfold entOf; rfl) (by simp)
  obtain ⟨s1, hs1, e1⟩ : ∃ s1 : {es : List Ent // Good es}, enterStep ⟨[], Good.nil⟩ Na = (s1, 1) ∧ s1.1 = [⟨1, Na, 0, 0⟩] := ⟨_, h1, rfl⟩
  have h2 : enterStep s1 Na = (s1, 1) := enterStep_old (e := ⟨1, Na, 0, 0⟩) (by rw [e1]; exact entOf_self _ _ rfl)
  have h3 := enterStep_new (s := s1) (nd := Nf) (by rw [e1]; exact entOf_other _ _ na_ne) (by rw [e1]; simp)
  have hn : Numb.num.nums (enterM n0 Ba limit) [Ta, Ta] (⟨[], Good.nil⟩ : {es : List Ent // Good es}) = (s1, [1, 1]) := by
    simp only [Numb.num.nums]
    rw [hA, hs1]
    dsimp only
    rw [hA, h2]
    rfl
  refine ⟨(enterStep s1 Nf).1, ?_, ?_⟩
  · refine ((enterM n0 Ba limit).num_eq Tf _).trans ?_
    refine (congrArg (fun p : {es : List Ent // Good es} × List Int => enterStep p.1 ⟨0, ⟨#[102]⟩, p.2⟩) hn).trans ?_
    show enterStep s1 Nf = _
    have h4 : (enterStep s1 Nf).2 = 2 := by rw [h3]; simp [e1]
    rw [← h4]
  · rw [h3]
    show bumps Nf.args (s1.1 ++ [⟨(s1.1.length : Int) + 1, Nf, 0, 0⟩]) = _
    rw [e1]
    rfl

end Go.Proofs.Ytbbfpllffcfmhaa
