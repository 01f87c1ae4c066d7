/-
  Clauses named anew, or cleaned, twice: plain mathematics.
-/
import Derived.Test.YtgnjgpplelakkaaMH
namespace Go.Proofs.Ytgnjgpplelakkaa
open Go.RowKit

def appL (σ : Int → T) (x : Lt) : Lt := ⟨x.neg, x.l.app σ, x.r.app σ⟩
def Shaped (l : List Lt) : Prop := ∀ x ∈ l, x.l.shape = true ∧ x.r.shape = true
def VsIn (S : Int → Prop) (l : List Lt) : Prop := ∀ x ∈ l, (∀ n ∈ x.l.vs, S n) ∧ ∀ n ∈ x.r.vs, S n

theorem cnormG_inv {ρ : Int → Int} {S : Int → Prop} (h : Apart ρ S) : ∀ (l : List Lt) (met : List Int), Shaped l → VsIn S l → (∀ n ∈ met, S n) → cnormG (l.map (appL fun n => var (ρ n))) (met.map ρ) = cnormG l met
  | [], _, _, _, _ => rfl
  | x :: r, met, hs, hv, hm => by
    obtain ⟨s1, s2⟩ := hs x (by simp)
    obtain ⟨v1, v2⟩ := hv x (by simp)
    have m1 : ∀ n ∈ (ren x.l met).2, S n := fun n hn => by
      rcases ren_sub x.l met n hn with h | h
      · exact hm n h
      · exact v1 n h
    have m2 : ∀ n ∈ (ren x.r (ren x.l met).2).2, S n := fun n hn => by
      rcases ren_sub x.r _ n hn with h | h
      · exact m1 n h
      · exact v2 n h
    have e1 := ren_inv h x.l s1 v1 met hm
    have e2 := ren_inv h x.r s2 v2 (ren x.l met).2 m1
    have e3 := cnormG_inv h r (ren x.r (ren x.l met).2).2 (fun y hy => hs y (by simp [hy])) (fun y hy => hv y (by simp [hy])) m2
    simp only [List.map_cons, cnormG, appL, e1, e2]
    rw [e3]

theorem metF_pre (l : List Lt) : ∀ met, met <+: metF met l := by
  induction l with
  | nil => intro met; exact List.prefix_refl _
  | cons x r ih => intro met; exact ((ren_pre x.l met).trans (ren_pre x.r _)).trans (ih _)

theorem metF_sub (l : List Lt) : ∀ met n, n ∈ metF met l → n ∈ met ∨ ∃ x ∈ l, n ∈ x.l.vs ∨ n ∈ x.r.vs := by
  induction l with
  | nil => intro met n hn; exact .inl hn
  | cons x r ih =>
    intro met n hn
    rcases ih _ n hn with h | ⟨y, hy, h⟩
    · rcases ren_sub x.r _ n h with h | h
      · rcases ren_sub x.l _ n h with h | h
        · exact .inl h
        · exact .inr ⟨x, by simp, .inl h⟩
      · exact .inr ⟨x, by simp, .inr h⟩
    · exact .inr ⟨y, by simp [hy], h⟩

theorem metF_all (l : List Lt) : ∀ met, Shaped l → ∀ x ∈ l, ∀ n, n ∈ x.l.vs ∨ n ∈ x.r.vs → n ∈ metF met l := by
  induction l with
  | nil => intro met _ x hx; cases hx
  | cons y r ih =>
    intro met hs x hx n hn
    rcases List.mem_cons.1 hx with rfl | hx
    · refine (metF_pre r _).subset ?_
      obtain ⟨s1, s2⟩ := hs x (by simp)
      rcases hn with hn | hn
      · exact (ren_pre x.r _).subset (ren_all x.l s1 met n hn)
      · exact ren_all x.r s2 _ n hn
    · exact ih _ (fun z hz => hs z (by simp [hz])) x hx n hn

theorem cnormG_rep (M : List Int) : ∀ (l : List Lt) (met : List Int), Shaped l → metF met l <+: M → cnormG l met = l.map (appL fun n => var (ix M n))
  | [], _, _, _ => rfl
  | x :: r, met, hs, hp => by
    obtain ⟨s1, s2⟩ := hs x (by simp)
    have p2 : (ren x.r (ren x.l met).2).2 <+: M := (metF_pre r _).trans hp
    have p1 : (ren x.l met).2 <+: M := (ren_pre x.r _).trans p2
    rw [cnormG, ren_rep M x.l s1 met p1, ren_rep M x.r s2 _ p2, cnormG_rep M r _ (fun y hy => hs y (by simp [hy])) hp]
    rfl

theorem apart_ix (M : List Int) (hv : ∀ n ∈ M, 0 ≤ n ∧ n < 1000000) (hl : M.length ≤ 1000000) : Apart (ix M) (· ∈ M) := by
  have hi : ∀ n ∈ M, ∃ j, idx M n = some j ∧ M[j]? = some n := fun n hn => by
    cases h : idx M n with
    | none => exact absurd hn (idx_none h)
    | some j => exact ⟨j, rfl, idx_some h⟩
  refine ⟨hv, fun n hn => ?_, fun a b ha hb e => ?_⟩
  · obtain ⟨j, h1, h2⟩ := hi n hn
    have : j < M.length := (List.getElem?_eq_some_iff.1 h2).1
    unfold ix
    rw [h1]
    simp only [Option.getD_some]
    omega
  · obtain ⟨i, h1, h2⟩ := hi a ha
    obtain ⟨j, h3, h4⟩ := hi b hb
    unfold ix at e
    rw [h1, h3] at e
    simp only [Option.getD_some] at e
    have : i = j := by omega
    subst this
    rw [h2] at h4
    exact Option.some.inj h4

theorem cnorm_twice (l : List Lt) (hs : Shaped l) (hl : csize l ≤ 1000000) : cnorm (cnorm l) = cnorm l := by
  have hlen := metF_len l []
  have hv : ∀ n ∈ metF [] l, 0 ≤ n ∧ n < 1000000 := fun n hn => by
    rcases metF_sub l [] n hn with h | ⟨x, hx, h⟩
    · cases h
    · obtain ⟨s1, s2⟩ := hs x hx
      rcases h with h | h
      · exact vs_range _ s1 n h
      · exact vs_range _ s2 n h
  have hA := apart_ix (metF [] l) hv (by simp at hlen; omega)
  have e := cnormG_rep (metF [] l) l [] hs (List.prefix_refl _)
  have e2 := cnormG_inv hA l [] hs (fun x hx => ⟨fun n hn => metF_all l [] hs x hx n (.inl hn), fun n hn => metF_all l [] hs x hx n (.inr hn)⟩) (by simp)
  unfold cnorm
  rw [e]
  exact e2.trans e

theorem cnorm_shift (l : List Lt) (by_ : Int) (hs : Shaped l) (hf : ∀ x ∈ l, fineT by_ x.l = true ∧ fineT by_ x.r = true) : cnorm (l.map (shL by_)) = cnorm l := by
  have wr : ∀ n : Int, (0 ≤ n ∧ n < 1000000) ∧ fine by_ n = true → wrap64 (n + by_) = n + by_ ∧ 0 ≤ n + by_ ∧ n + by_ < 1000000 := fun n ⟨h1, h2⟩ => by
    have := fine_iff.1 h2
    refine ⟨?_, by omega, by omega⟩
    simp only [wrap64]
    omega
  have hA : Apart (fun n => wrap64 (n + by_)) (fun n => (0 ≤ n ∧ n < 1000000) ∧ fine by_ n = true) := by
    refine ⟨fun n h => h.1, fun n h => ?_, fun a b ha hb e => ?_⟩
    · obtain ⟨h1, h2, h3⟩ := wr n h
      simp only [h1]
      exact ⟨h2, h3⟩
    · have h1 := (wr a ha).1
      have h2 := (wr b hb).1
      simp only [h1, h2] at e
      omega
  have hv : VsIn (fun n => (0 ≤ n ∧ n < 1000000) ∧ fine by_ n = true) l := fun x hx => by
    obtain ⟨s1, s2⟩ := hs x hx
    obtain ⟨f1, f2⟩ := hf x hx
    exact ⟨fun n hn => ⟨vs_range _ s1 n hn, List.all_eq_true.1 f1 n hn⟩, fun n hn => ⟨vs_range _ s2 n hn, List.all_eq_true.1 f2 n hn⟩⟩
  exact cnormG_inv hA l [] hs hv (by simp)

theorem csize_norm : ∀ (l : List Lt) (met : List Int), csize (cnormG l met) = csize l
  | [], _ => rfl
  | x :: r, met => by
    have e : ∀ (y : Lt) (s : List Lt), csize (y :: s) = y.l.size + y.r.size + csize s := fun y s => by simp [csize]
    rw [cnormG, e, e, csize_norm r, ren_size, ren_size]

theorem csize_shift (by_ : Int) : ∀ (l : List Lt), Shaped l → csize (l.map (shL by_)) = csize l
  | [], _ => rfl
  | x :: r, hs => by
    have e : ∀ (y : Lt) (s : List Lt), csize (y :: s) = y.l.size + y.r.size + csize s := fun y s => by simp [csize]
    obtain ⟨s1, s2⟩ := hs x (by simp)
    have h1 : (x.l.app (shf by_)).size = x.l.size := app_size (fun n => wrap64 (n + by_)) x.l s1
    have h2 : (x.r.app (shf by_)).size = x.r.size := app_size (fun n => wrap64 (n + by_)) x.r s2
    rw [List.map_cons, e, e, csize_shift by_ r (fun y hy => hs y (by simp [hy]))]
    simp only [shL, h1, h2]

theorem csize_clean (l : List Lt) : csize (cclean l) ≤ csize l := by
  have e : ∀ (a b : List Lt), csize (a ++ b) = csize a + csize b := fun a b => by unfold csize; rw [List.map_append, List.sum_append]
  have h : ∀ (l out : List Lt), csize (l.foldl cstepL out) ≤ csize out + csize l := by
    intro l
    induction l with
    | nil => intro out; simp [csize]
    | cons x r ih =>
      intro out
      have h1 := ih (cstepL out x)
      have h3 : csize (x :: r) = csize [x] + csize r := e [x] r
      have h4 := csize_nonneg [x]
      have h2 : csize (cstepL out x) ≤ csize out + csize [x] := by
        unfold cstepL
        split
        · omega
        · rw [e]; omega
      simp only [List.foldl_cons]
      omega
  have := h l []
  unfold cclean
  have h0 : csize [] = 0 := rfl
  omega

/-- Nothing in it stands twice, or never holds. -/
def Good (c : List Lt) : Prop := ∀ i (h : i < c.length), ((c[i].neg && same c[i].l c[i].r) || (c.take i).any (fun y => lsame c[i] y)) = false

theorem good_clean {c : List Lt} (h : Good c) : cclean c = c := by
  have hk : ∀ k, k ≤ c.length → cclean (c.take k) = c.take k := by
    intro k
    induction k with
    | zero => intro _; rfl
    | succ k ih =>
      intro hk
      rw [cclean_succ c k (by omega), ih (by omega)]
      unfold cstepL
      rw [h k (by omega), List.take_succ_eq_append_getElem (by omega)]
      rfl
  have := hk c.length (Nat.le_refl _)
  rwa [List.take_length] at this

theorem good_step {out : List Lt} (x : Lt) (h : Good out) : Good (cstepL out x) := by
  unfold cstepL
  cases hc : (x.neg && same x.l x.r) || out.any (fun y => lsame x y)
  · rw [if_neg (by simp)]
    intro i hi
    by_cases hlt : i < out.length
    · have := h i hlt
      rw [List.getElem_append_left hlt, List.take_append_of_le_length (by omega)]
      exact this
    · have hie : i = out.length := by simp at hi; omega
      subst hie
      rw [List.getElem_append_right (Nat.le_refl _), List.take_left]
      simpa using hc
  · rw [if_pos rfl]
    exact h

theorem cclean_twice (l : List Lt) : cclean (cclean l) = cclean l := by
  have h : ∀ (l out : List Lt), Good out → Good (l.foldl cstepL out) := by
    intro l
    induction l with
    | nil => intro out ho; exact ho
    | cons x r ih => intro out ho; exact ih _ (good_step x ho)
  exact good_clean (h l [] (fun i hi => absurd hi (by simp)))

theorem right_shape {t : T} (h : t.rightW = 0) : t.shape = true := by
  unfold T.rightW at h
  by_cases hs : t.shape = false
  · rw [if_pos hs] at h; cases h
  · simpa using hs

theorem cright_sides {l : List Lt} (h : crightW l = 0) : ∀ x ∈ l, x.l.rightW = 0 ∧ x.r.rightW = 0 := by
  unfold crightW at h
  by_cases h1 : 60 < l.length
  · rw [if_pos h1] at h; cases h
  · rw [if_neg h1] at h
    by_cases h2 : fe (sidesOf l) = 0
    · intro x hx
      have := fe_zero.1 h2
      exact ⟨this _ (List.mem_flatMap.2 ⟨x, hx, by simp⟩), this _ (List.mem_flatMap.2 ⟨x, hx, by simp⟩)⟩
    · rw [if_pos h2] at h
      exact absurd h h2

end Go.Proofs.Ytgnjgpplelakkaa
