/-
  Plain facts on pieces: a byte at a time; a line of one byte; two parts.
-/
import Derived.Test.YtdbfmjfbiokfdaaDoorH
namespace Go.Proofs.YtdbfmjfbiokfdaaDoor
open Go.RowKit

theorem stepK_app (ks : List Int) (lg : Bool) (p q : List Int) : stepK (stepK ks lg p).1 (stepK ks lg p).2 q = stepK ks lg (p ++ q) := by
  cases lg with
  | true => simp [stepK]
  | false =>
    by_cases h : 65536 < ks.length + p.length
    · have h2 : 65536 < ks.length + (p ++ q).length := by rw [List.length_append]; omega
      simp only [stepK, h, h2, or_true, if_true, true_or]
    · have e : stepK ks false p = (ks ++ p, false) := by simp [stepK, h]
      rw [e]
      unfold stepK
      simp only [List.length_append, Nat.add_assoc, List.append_assoc]

/-- What a Buffer can hold. -/
def okS (s : St) : Prop := s.1.length ≤ 65536 ∧ (s.2.1 = true → s.1 = [])
theorem stepK_ok (ks : List Int) (lg : Bool) (p : List Int) : (stepK ks lg p).1.length ≤ 65536 ∧ ((stepK ks lg p).2 = true → (stepK ks lg p).1 = []) := by
  unfold stepK
  split
  · exact ⟨Nat.zero_le _, fun _ => rfl⟩
  · refine ⟨?_, fun h => by cases h⟩
    simp only [List.length_append]
    omega
theorem stepK_nil (ks : List Int) (lg : Bool) (h : ks.length ≤ 65536 ∧ (lg = true → ks = [])) : stepK ks lg [] = (ks, lg) := by
  cases lg with
  | true => simp [stepK, h.2 rfl]
  | false =>
    have : ¬ 65536 < ks.length := by omega
    simp [stepK, this]

/-- One byte. -/
def bstep (s : St) (x : Int) : St := if x = 10 then pstep s ([], true) else ((stepK s.1 s.2.1 [x]).1, (stepK s.1 s.2.1 [x]).2, s.2.2)
theorem bstep_ok (s : St) (x : Int) : okS (bstep s x) := by
  unfold bstep okS
  split
  · simp [pstep]
  · exact stepK_ok _ _ _

theorem pcs_ne : ∀ (xs : List Int), ∃ p b q, pcs xs = (p, b) :: q
  | [] => ⟨[], false, [], rfl⟩
  | x :: r => by
    obtain ⟨p, b, q, h⟩ := pcs_ne r
    rw [pcs_cons, h]
    by_cases hx : x = 10
    · exact ⟨_, _, _, if_pos hx⟩
    · exact ⟨_, _, _, if_neg hx⟩

theorem psteps_cons (s : St) (x : Int) (zs : List Int) : psteps s (pcs (x :: zs)) = psteps (bstep s x) (pcs zs) := by
  rw [pcs_cons]
  by_cases hx : x = 10
  · rw [if_pos hx]
    unfold bstep
    rw [if_pos hx]
    rfl
  · rw [if_neg hx]
    obtain ⟨p, b, q, h⟩ := pcs_ne zs
    rw [h]
    show psteps (pstep s (x :: p, b)) q = psteps (pstep (bstep s x) (p, b)) q
    have e : pstep s (x :: p, b) = pstep (bstep s x) (p, b) := by
      unfold bstep
      rw [if_neg hx]
      unfold pstep
      simp only [stepK_app, List.singleton_append]
    rw [e]

theorem psteps_bytes : ∀ (xs : List Int) (s : St), okS s → psteps s (pcs xs) = xs.foldl bstep s
  | [], s, h => by
    show pstep s ([], false) = s
    unfold pstep
    rw [stepK_nil _ _ h]
    simp
  | x :: r, s, _ => by
    rw [psteps_cons, psteps_bytes r _ (bstep_ok s x)]
    rfl

theorem pcs_rep (c : Int) (hc : c ≠ 10) : ∀ k : Nat, pcs (List.replicate k c) = [(List.replicate k c, false)]
  | 0 => rfl
  | k + 1 => by rw [List.replicate_succ, pcs_cons, if_neg hc, pcs_rep c hc k]
theorem pcs_rep10 (c : Int) (hc : c ≠ 10) : ∀ k : Nat, pcs (List.replicate k c ++ [10]) = [(List.replicate k c, true), ([], false)]
  | 0 => rfl
  | k + 1 => by rw [List.replicate_succ, List.cons_append, pcs_cons, if_neg hc, pcs_rep10 c hc k]

theorem feed_rep (c : Int) (hc : c ≠ 10) (k : Nat) : feedS [] false (List.replicate k c) = ((stepK [] false (List.replicate k c)).1, (stepK [] false (List.replicate k c)).2, []) := by
  unfold feedS
  rw [pcs_rep c hc]
  rfl
theorem feed_rep10 (c : Int) (hc : c ≠ 10) (k m : Nat) : feedS (stepK [] false (List.replicate k c)).1 (stepK [] false (List.replicate k c)).2 (List.replicate m c ++ [10]) =
    ([], false, [(lineT (stepK [] false (List.replicate (k + m) c)).1 (stepK [] false (List.replicate (k + m) c)).2, lineE (stepK [] false (List.replicate (k + m) c)).1 (stepK [] false (List.replicate (k + m) c)).2)]) := by
  unfold feedS
  rw [pcs_rep10 c hc]
  show pstep (pstep _ (List.replicate m c, true)) ([], false) = _
  unfold pstep
  simp only [if_true, stepK_app, List.replicate_append_replicate]
  simp [stepK]

theorem vld_low (c : Int) (hc : c ≤ 127) : ∀ n : Nat, vld (List.replicate n c) = true
  | 0 => rfl
  | n + 1 => by
    have h1 : chs (List.replicate (n + 1) c) = 1 := by
      unfold chs
      rw [if_pos]
      simpa [List.replicate_succ] using hc
    rw [vld_step _ (by simp), h1, if_neg (by omega)]
    have : (List.replicate (n + 1) c).drop 1 = List.replicate n c := by simp
    rw [this]
    exact vld_low c hc n
theorem getD_rep (c : Int) (n i : Nat) (h : i < n) : (List.replicate n c).getD i 0 = c := by
  rw [List.getD_eq_getElem?_getD, List.getElem?_eq_getElem (by simpa using h)]
  simp
theorem vld_high (c : Int) (hc : 127 < c) (n : Nat) (hn : 0 < n) : vld (List.replicate n c) = false := by
  have h0 : chs (List.replicate n c) = 0 := by
    rw [chs_eq]
    rw [getD_rep c n 0 hn, List.length_replicate]
    unfold chsN
    rw [if_neg (by omega)]
    by_cases h1 : 1 < n
    · rw [getD_rep c n 1 h1]
      repeat' split
      all_goals first | rfl | omega
    · repeat' split
      all_goals first | rfl | omega
  rw [vld_step _ (by simpa using hn), h0, if_pos rfl]

/-- What the line of n bytes c comes to. -/
theorem long_over (c : Int) (n : Nat) (h : 65536 < n) : lineT (stepK [] false (List.replicate n c)).1 (stepK [] false (List.replicate n c)).2 = ⟨#[]⟩ ∧ lineE (stepK [] false (List.replicate n c)).1 (stepK [] false (List.replicate n c)).2 = 11 := by
  have : stepK [] false (List.replicate n c) = ([], true) := by simp [stepK, h]
  rw [this]
  exact ⟨rfl, rfl⟩
theorem long_bad (c : Int) (n : Nat) (h : n ≤ 65536) (hc : 127 < c) (hn : 0 < n) : lineT (stepK [] false (List.replicate n c)).1 (stepK [] false (List.replicate n c)).2 = ⟨#[]⟩ ∧ lineE (stepK [] false (List.replicate n c)).1 (stepK [] false (List.replicate n c)).2 = 10 := by
  have : stepK [] false (List.replicate n c) = (List.replicate n c, false) := by simp [stepK]; omega
  rw [this]
  simp [lineT, lineE, vld_high c hc n hn]
theorem long_good (c : Int) (n : Nat) (h : n ≤ 65536) (hc : c ≤ 127 ∨ n = 0) : lineT (stepK [] false (List.replicate n c)).1 (stepK [] false (List.replicate n c)).2 = strOfNums (List.replicate n c) ∧ lineE (stepK [] false (List.replicate n c)).1 (stepK [] false (List.replicate n c)).2 = 0 := by
  have : stepK [] false (List.replicate n c) = (List.replicate n c, false) := by simp [stepK]; omega
  have hv : vld (List.replicate n c) = true := by
    rcases hc with hc | hc
    · exact vld_low c hc n
    · subst hc; rfl
  rw [this]
  simp [lineT, lineE, hv]

end Go.Proofs.YtdbfmjfbiokfdaaDoor
