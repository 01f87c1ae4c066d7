/-
  A pattern that matches has features that match: plain mathematics.
-/
import Derived.Test.YtiklbkkimmgbcaaHN
namespace Go.Proofs.Ytiklbkkimmgbcaa
open Go.RowKit

inductive Mt : T → T → Prop
  | var (p t : T) (h : p.fn.size = 0) : Mt p t
  | fn (p t : T) (h : p.fn.size ≠ 0) (he : p.fn = t.fn) (hl : p.args.length = t.args.length) (ha : ∀ (k : Nat) (a b : T), p.args[k]? = some a → t.args[k]? = some b → Mt a b) : Mt p t

theorem mt_feat {p t : T} (h : Mt p t) : ∀ pl, matB (feat p pl) (feat t pl) = true := by
  induction h with
  | var p t h =>
    intro pl
    have hk := feat_known pl t
    cases pl with
    | nil =>
      have : feat p [] = ⟨2, 0, ⟨#[]⟩⟩ := by simp [feat, h]
      rw [this]
      by_cases h2 : t.fn.size = 0
      · simp [feat, h2, matB]
      · simp [feat, h2, matB]
    | cons k ks =>
      have : feat p (k :: ks) = ⟨3, 0, ⟨#[]⟩⟩ := by simp [feat, h]
      rw [this]
      simp [matB, hk]
  | fn p t h he hl ha ih =>
    intro pl
    have h2 : t.fn.size ≠ 0 := by rw [← he]; exact h
    cases pl with
    | nil =>
      have : feat p [] = feat t [] := by simp only [feat]; rw [he, hl]
      rw [this]
      simp [feat, h2, matB, fteq]
    | cons k ks =>
      by_cases hk : k < p.args.length
      · have hk' : k < t.args.length := by omega
        have g1 : feat p (k :: ks) = feat p.args[k] ks := by simp [feat, h, hk]
        have g2 : feat t (k :: ks) = feat t.args[k] ks := by simp [feat, h2, hk']
        rw [g1, g2]
        exact ih k _ _ (List.getElem?_eq_getElem hk) (List.getElem?_eq_getElem hk') ks
      · have hk' : ¬ k < t.args.length := by omega
        simp [feat, h, h2, hk, hk', matB]

theorem mt_fits {p t : T} (h : Mt p t) : fitB matB (feats p) (feats t) = true := by
  unfold fitB feats
  simp [mt_feat h]

end Go.Proofs.Ytiklbkkimmgbcaa
