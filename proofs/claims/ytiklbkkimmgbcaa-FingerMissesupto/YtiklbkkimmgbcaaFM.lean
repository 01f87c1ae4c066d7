/-
  What must come at any rate.
-/
import Derived.Test.YtiklbkkimmgbcaaFL
namespace Go.Proofs.Ytiklbkkimmgbcaa
open Go.RowKit Go.Maps

abbrev ta : T := .mk 0 ⟨#[97]⟩ []
abbrev tb : T := .mk 0 ⟨#[98]⟩ []
abbrev tv : T := .mk 0 ⟨#[]⟩ []
abbrev tf : T := .mk 0 ⟨#[102]⟩ [ta, tv]
theorem args_nil (W : World) : ArgsAt W (.slice none 0 0) [] := ArgsAt.mk none 0 [] (fun _ => .slice none 0 0) (Nat.le_refl _) (by omega) (fun h => absurd h (by simp)) (fun i h => absurd h (by simp))
theorem r_one (b : UInt8) : (T.mk 0 ⟨#[b]⟩ []).rightW = 0 := by
  have h1 : (T.mk 0 ⟨#[b]⟩ []).shape = true := by
    rw [T.shape_eq, if_neg (by simp [T.fn, ByteArray.size])]
    simp [T.v, T.fn, T.args, ByteArray.size]
  have h2 : ¬ 60 < (T.mk 0 ⟨#[b]⟩ []).depthW := by simp [T.depthW_eq, T.args, wrap64]
  have h3 : ¬ 4000 < wrap64 (T.mk 0 ⟨#[b]⟩ []).size := by rw [T.size_eq]; simp [T.args, wrap64]
  unfold T.rightW
  rw [if_neg (by simp [h1]), if_neg h2, if_neg h3]
theorem ra : ta.rightW = 0 := r_one 97
theorem rb : tb.rightW = 0 := r_one 98
theorem sa_ : Short ta := by
  intro q hq
  rw [T.parts_eq] at hq
  have : q = ([], ta) := by simpa [T.parts.kids, T.args] using hq
  simp [this]
theorem sb_ : Short tb := by
  intro q hq
  rw [T.parts_eq] at hq
  have : q = ([], tb) := by simpa [T.parts.kids, T.args] using hq
  simp [this]
theorem fa_ : feats ta = [⟨1, 0, ⟨#[97]⟩⟩, ⟨4, 0, ⟨#[]⟩⟩, ⟨4, 0, ⟨#[]⟩⟩, ⟨4, 0, ⟨#[]⟩⟩] := by rfl
theorem fb_ : feats tb = [⟨1, 0, ⟨#[98]⟩⟩, ⟨4, 0, ⟨#[]⟩⟩, ⟨4, 0, ⟨#[]⟩⟩, ⟨4, 0, ⟨#[]⟩⟩] := by rfl
theorem ff_ : feats tf = [⟨1, 2, ⟨#[102]⟩⟩, ⟨1, 0, ⟨#[97]⟩⟩, ⟨2, 0, ⟨#[]⟩⟩, ⟨4, 0, ⟨#[]⟩⟩] := by rfl
theorem maa : fitB matB (feats ta) (feats ta) = true := by
  rw [fa_]; simp [fitB, matB, fteq]
theorem mab : fitB matB (feats ta) (feats tb) = false := by
  rw [fa_, fb_]; simp [fitB, matB, fteq]
theorem uff : fitB uniB (feats tf) (feats tf) = true := by
  rw [ff_]; simp [fitB, uniB, fteq, knownB]
theorem key_a : ∃ kl, keyOf Try.prog 66 (.agg (fpr ta).toArray) = some kl := Option.isSome_iff_exists.1 (by kernel_rfl)

end Go.Proofs.Ytiklbkkimmgbcaa
