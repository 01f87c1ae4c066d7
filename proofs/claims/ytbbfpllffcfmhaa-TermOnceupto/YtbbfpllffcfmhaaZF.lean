/-
  Get(2) behind Make(f(a, a)).
-/
import Derived.Test.YtbbfpllffcfmhaaZE
namespace Go.Proofs.Ytbbfpllffcfmhaa
open Go.RowKit Go.Maps

theorem get_f (n0 Ba : Nat) (B : List Nat) (limit : Int) (W : World) (hb : BankSt n0 Ba B limit ((bumps [1, 1] ([⟨1, Na, 0, 0⟩] ++ [⟨2, Nf, 0, 0⟩])).map (keepE 2)) [] W) :
    Calls Try.prog 29 #[.pointer (some ⟨Ba, 0, none⟩), .int .i64 2] W fun e' W' => ∃ sl, e' = .returned (.tuple #[tval Tf sl, .int .i64 0]) ∧ ArgsAt W' sl Tf.args ∧ Below W.heap.size W W' := by
  obtain ⟨ea, ef, hes, a1, a2, f1, f2⟩ : ∃ ea ef : Ent, (bumps [1, 1] ([⟨1, Na, 0, 0⟩] ++ [⟨2, Nf, 0, 0⟩])).map (keepE 2) = [ea, ef] ∧ ea.id = 1 ∧ ea.nd = Na ∧ ef.id = 2 ∧ ef.nd = Nf :=
    ⟨_, _, rfl, by simp [keepE_id, bumpE_id], by simp [keepE_nd, bumpE_nd], by simp [keepE_id, bumpE_id], by simp [keepE_nd, bumpE_nd]⟩
  rw [hes] at hb
  have hnod : ([ea, ef].map (·.id)).Nodup := by simp [a1, f1]
  have hA : ∀ X, BankSt n0 Ba B limit [ea, ef] [] X → Calls Try.prog 56 #[.pointer (some ⟨Ba, 0, none⟩), .int .i64 1] X fun e' X' => ∃ sl, e' = .returned (tval Ta sl) ∧ (∀ g, sl.ownBlock = some g → X.heap.size ≤ g) ∧ ArgsAt X' sl Ta.args ∧ Below X.heap.size X X' := by
    intro X hX
    have := built_one n0 Ba B limit [ea, ef] [] hnod Ta ea (by simp) (by rw [a1]; exact ⟨by omega, by omega⟩) (by rw [a2]; rfl) (by rw [a2]; rfl) (by rw [a2]; rfl) (by simp [Ta, T.args]) (fun a h => by cases h) (fun i h h' => by cases h') X hX
    rwa [a1] at this
  have hF : ∀ X, BankSt n0 Ba B limit [ea, ef] [] X → Calls Try.prog 56 #[.pointer (some ⟨Ba, 0, none⟩), .int .i64 2] X fun e' X' => ∃ sl, e' = .returned (tval Tf sl) ∧ (∀ g, sl.ownBlock = some g → X.heap.size ≤ g) ∧ ArgsAt X' sl Tf.args ∧ Below X.heap.size X X' := by
    intro X hX
    have := built_one n0 Ba B limit [ea, ef] [] hnod Tf ef (by simp) (by rw [f1]; exact ⟨by omega, by omega⟩) (by rw [f2]; rfl) (by rw [f2]; rfl) (by rw [f2]; rfl) (by simp [Tf, T.args]) (fun a h => by simp [Tf, T.args] at h; subst h; rfl) (fun i h h' Y hY => by
      have e1 : ef.nd.args[i] = 1 := by
        have : i < 2 := h'
        have e2 : ∀ (nd : Nd), nd = Nf → ∀ (hi : i < nd.args.length), nd.args[i] = 1 := by
          rintro _ rfl hi
          match i, this with
          | 0, _ => rfl
          | 1, _ => rfl
        exact e2 _ f2 h
      have e3 : Tf.args[i] = Ta := by
        have : i < 2 := h'
        match i, this with
        | 0, _ => rfl
        | 1, _ => rfl
      rw [e1, e3]
      refine (hA Y hY).mono ?_
      rintro e' Y' ⟨sl, he, _, ha, hbl⟩
      obtain ⟨a, c, rfl, _, hc⟩ := ha.slice
      exact ⟨a, c, he, hc, hbl⟩) X hX
    rwa [f1] at this
  exact get_one n0 Ba B limit [ea, ef] [] hnod Tf 2 (by simp [a1, f1]) ⟨by omega, by omega⟩ (fun a h => by simp [Tf, T.args] at h; subst h; rfl) hF W hb

end Go.Proofs.Ytbbfpllffcfmhaa
