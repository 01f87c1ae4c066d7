/-
  Names hang on no names; what was cleaned is clean: plain mathematics.
-/
import Derived.Test.YtgnjgpplelakkaaMG
namespace Go.Proofs.Ytgnjgpplelakkaa
open Go.RowKit

theorem idx_cons (a n : Int) (r : List Int) : idx (a :: r) n = if a = n then some 0 else (idx r n).map (· + 1) := by
  unfold idx
  rw [List.findIdx?_cons]
  by_cases h : a = n
  · simp [h]
  · have hb : (a == n) = false := by simpa using h
    simp only [hb, if_neg h]
    rfl

theorem idx_some : ∀ {met : List Int} {n : Int} {j : Nat}, idx met n = some j → met[j]? = some n
  | [], _, _, h => by cases h
  | a :: r, n, j, h => by
    rw [idx_cons] at h
    by_cases e : a = n
    · rw [if_pos e] at h
      cases h
      simp [e]
    · rw [if_neg e] at h
      obtain ⟨k, hk, rfl⟩ := Option.map_eq_some_iff.1 h
      simpa using idx_some hk

theorem idx_none : ∀ {met : List Int} {n : Int}, idx met n = none → n ∉ met
  | [], _, _ => by simp
  | a :: r, n, h => by
    rw [idx_cons] at h
    by_cases e : a = n
    · rw [if_pos e] at h; cases h
    · rw [if_neg e] at h
      have := idx_none (Option.map_eq_none_iff.1 h)
      simp only [List.mem_cons, not_or]
      exact ⟨fun h => e h.symm, this⟩

theorem idx_map (ρ : Int → Int) (n : Int) : ∀ (met : List Int), (∀ a ∈ met, ρ a = ρ n → a = n) → idx (met.map ρ) (ρ n) = idx met n
  | [], _ => rfl
  | a :: r, h => by
    rw [List.map_cons, idx_cons, idx_cons, idx_map ρ n r (fun b hb => h b (by simp [hb]))]
    by_cases e : a = n
    · rw [if_pos e, if_pos (by rw [e])]
    · rw [if_neg e, if_neg (fun e2 => e (h a (by simp) e2))]

theorem idx_prefix {met M : List Int} {n : Int} {j : Nat} (hp : met <+: M) (h : idx met n = some j) : idx M n = some j := by
  obtain ⟨r, rfl⟩ := hp
  unfold idx at *
  rw [List.findIdx?_append, h]
  rfl

theorem ren_var_eq (m : Int) (met : List Int) : ren (var m) met = (var (nm met m).2, (nm met m).1) := by
  have e : nmT (var m) met = nm met m := if_pos rfl
  rw [ren_eq, e]
  rfl

theorem ren_fn_eq {t : T} (h0 : t.fn.size ≠ 0) (met : List Int) : ren t met = (.mk t.v t.fn (ren.rens t.args met).1, (ren.rens t.args met).2) := by
  have e : nmT t met = (met, t.v) := if_neg h0
  rw [ren_eq, e]

theorem shape_fn {t : T} (hs : t.shape = true) (h0 : t.fn.size ≠ 0) : t.v = 0 ∧ ∀ a ∈ t.args, a.shape = true := by
  rw [T.shape_eq, if_neg h0] at hs
  simp only [Bool.and_eq_true, decide_eq_true_eq, List.all_eq_true] at hs
  exact ⟨hs.1.1.1, hs.2⟩

theorem nm_pre (met : List Int) (n : Int) : met <+: (nm met n).1 := by
  unfold nm
  split
  · exact List.prefix_refl _
  · split
    · exact List.prefix_refl _
    · exact List.prefix_append _ _

theorem nm_sub (met : List Int) (n m : Int) (h : m ∈ (nm met n).1) : m ∈ met ∨ m = n := by
  unfold nm at h
  split at h
  · exact .inl h
  · split at h
    · exact .inl h
    · simpa using h

theorem nm_in (met : List Int) (n : Int) (h0 : 0 ≤ n) (h1 : n < 1000000) : n ∈ (nm met n).1 := by
  unfold nm
  rw [if_neg (by omega)]
  split
  · rename_i j hj
    exact List.mem_of_getElem? (idx_some hj)
  · simp

/-- What the names are made of. -/
theorem ren_pre (t : T) : ∀ met, met <+: (ren t met).2 := by
  induction t using T.ind with
  | _ t ih =>
    intro met
    have h : ∀ (l : List T), (∀ a ∈ l, a ∈ t.args) → ∀ met, met <+: (ren.rens l met).2 := by
      intro l
      induction l with
      | nil => intro _ met; exact List.prefix_refl _
      | cons a r ihl =>
        intro hm met
        exact (ih a (hm a (by simp)) met).trans (ihl (fun b hb => hm b (by simp [hb])) _)
    rw [ren_eq]
    refine List.IsPrefix.trans ?_ (h t.args (fun _ h => h) _)
    unfold nmT
    split
    · exact nm_pre _ _
    · exact List.prefix_refl _

theorem rens_pre (l : List T) : ∀ met, met <+: (ren.rens l met).2 := by
  induction l with
  | nil => intro met; exact List.prefix_refl _
  | cons a r ih => intro met; exact (ren_pre a met).trans (ih _)

theorem ren_sub (t : T) : ∀ met n, n ∈ (ren t met).2 → n ∈ met ∨ n ∈ t.vs := by
  induction t using T.ind with
  | _ t ih =>
    intro met n hn
    have h : ∀ (l : List T), (∀ a ∈ l, a ∈ t.args) → ∀ met, n ∈ (ren.rens l met).2 → n ∈ met ∨ n ∈ t.vs := by
      intro l
      induction l with
      | nil => intro _ met hn; exact .inl hn
      | cons a r ihl =>
        intro hm met hn
        rcases ihl (fun b hb => hm b (by simp [hb])) _ hn with h | h
        · rcases ih a (hm a (by simp)) met n h with h | h
          · exact .inl h
          · exact .inr (vs_arg (hm a (by simp)) h)
        · exact .inr h
    rw [ren_eq] at hn
    rcases h t.args (fun _ h => h) _ hn with h | h
    · unfold nmT at h
      split at h
      · rename_i h0
        rcases nm_sub _ _ _ h with h | rfl
        · exact .inl h
        · exact .inr (vs_var h0)
      · exact .inl h
    · exact .inr h

theorem ren_size (t : T) : ∀ met, (ren t met).1.size = t.size := by
  induction t using T.ind with
  | _ t ih =>
    intro met
    have h : ∀ (l : List T), (∀ a ∈ l, a ∈ t.args) → ∀ met, ((ren.rens l met).1.map T.size).sum = (l.map T.size).sum := by
      intro l
      induction l with
      | nil => intro _ met; rfl
      | cons a r ihl =>
        intro hm met
        simp only [ren.rens, List.map_cons, List.sum_cons]
        rw [ih a (hm a (by simp)), ihl (fun b hb => hm b (by simp [hb]))]
    rw [ren_eq, T.size_eq, T.size_eq t]
    simp only [T.args]
    exact congrArg (1 + ·) (h t.args (fun _ h => h) _)

theorem app_size (ρ : Int → Int) (t : T) : t.shape = true → (t.app fun n => var (ρ n)).size = t.size := by
  induction t using T.ind with
  | _ t ih =>
    intro hs
    by_cases h0 : t.fn.size = 0
    · rw [T.app_eq, if_pos h0]
      conv => rhs; rw [shape_var hs h0]
      rfl
    · obtain ⟨_, hall⟩ := shape_fn hs h0
      rw [T.app_eq, if_neg h0, T.size_eq, T.size_eq t]
      simp only [T.args, List.map_map]
      exact congrArg (fun l : List Int => 1 + l.sum) (List.map_congr_left fun a ha => ih a ha (hall a ha))

/-- A renaming that keeps numbers apart. -/
structure Apart (ρ : Int → Int) (S : Int → Prop) : Prop where
  old : ∀ n, S n → 0 ≤ n ∧ n < 1000000
  new : ∀ n, S n → 0 ≤ ρ n ∧ ρ n < 1000000
  inj : ∀ a b, S a → S b → ρ a = ρ b → a = b

theorem nm_map {ρ : Int → Int} {S : Int → Prop} (h : Apart ρ S) (met : List Int) (n : Int) (hm : ∀ a ∈ met, S a) (hn : S n) : nm (met.map ρ) (ρ n) = ((nm met n).1.map ρ, (nm met n).2) := by
  have h1 := h.old n hn
  have h2 := h.new n hn
  unfold nm
  rw [if_neg (by omega), if_neg (by omega), idx_map ρ n met (fun a ha e => h.inj a n (hm a ha) hn e)]
  cases idx met n with
  | none => simp
  | some j => simp

theorem ren_inv {ρ : Int → Int} {S : Int → Prop} (h : Apart ρ S) (t : T) : t.shape = true → (∀ n ∈ t.vs, S n) → ∀ met, (∀ n ∈ met, S n) → ren (t.app fun n => var (ρ n)) (met.map ρ) = ((ren t met).1, (ren t met).2.map ρ) := by
  induction t using T.ind with
  | _ t ih =>
    intro hs hv met hm
    by_cases h0 : t.fn.size = 0
    · have hvv := hv t.v (vs_var h0)
      rw [T.app_eq, if_pos h0, ren_var_eq, nm_map h met t.v hm hvv]
      conv => rhs; rw [shape_var hs h0]
      rw [ren_var_eq]
    · obtain ⟨hv0, hall⟩ := shape_fn hs h0
      have hl : ∀ (l : List T), (∀ a ∈ l, a ∈ t.args) → ∀ met, (∀ n ∈ met, S n) → ren.rens (l.map (T.app fun n => var (ρ n))) (met.map ρ) = ((ren.rens l met).1, (ren.rens l met).2.map ρ) := by
        intro l
        induction l with
        | nil => intro _ met _; rfl
        | cons a r ihl =>
          intro hla met hm
          have ha := hla a (by simp)
          have e1 := ih a ha (hall a ha) (fun n hn => hv n (vs_arg ha hn)) met hm
          have e2 := ihl (fun b hb => hla b (by simp [hb])) (ren a met).2 (fun n hn => by
            rcases ren_sub a met n hn with h | h
            · exact hm n h
            · exact hv n (vs_arg ha h))
          simp only [List.map_cons, ren.rens, e1, e2]
      rw [ren_fn_eq h0 met, T.app_eq, if_neg h0, ren_fn_eq (t := .mk 0 t.fn (t.args.map (T.app fun n => var (ρ n)))) h0]
      have := hl t.args (fun _ h => h) met hm
      simp only [T.v, T.fn, T.args] at this ⊢
      rw [this]
      have hv0' : (match t with | .mk v _ _ => v) = 0 := hv0
      cases t
      simp_all [T.v, T.fn, T.args]

/-- The place of a number among those met. -/
def ix (M : List Int) (n : Int) : Int := (((idx M n).getD 0 : Nat) : Int)

theorem ren_rep (M : List Int) (t : T) : t.shape = true → ∀ met, (ren t met).2 <+: M → (ren t met).1 = t.app fun n => var (ix M n) := by
  induction t using T.ind with
  | _ t ih =>
    intro hs met hp
    by_cases h0 : t.fn.size = 0
    · have hr := vs_range t hs t.v (vs_var h0)
      rw [T.app_eq, if_pos h0]
      have e : ren t met = ren (var t.v) met := congrArg (fun u => ren u met) (shape_var hs h0)
      rw [e, ren_var_eq] at hp ⊢
      simp only at hp ⊢
      congr 1
      unfold nm at hp ⊢
      rw [if_neg (by omega)] at hp ⊢
      unfold ix
      cases hi : idx met t.v with
      | some j =>
        rw [hi] at hp
        rw [idx_prefix hp hi]
        rfl
      | none =>
        rw [hi] at hp
        have : idx (met ++ [t.v]) t.v = some met.length := by rw [idx_snoc met t.v hi, if_pos rfl]
        rw [idx_prefix hp this]
        rfl
    · obtain ⟨hv0, hall⟩ := shape_fn hs h0
      have hl : ∀ (l : List T), (∀ a ∈ l, a ∈ t.args) → ∀ met, (ren.rens l met).2 <+: M → (ren.rens l met).1 = l.map (T.app fun n => var (ix M n)) := by
        intro l
        induction l with
        | nil => intro _ met _; rfl
        | cons a r ihl =>
          intro hla met hp
          have e2 := ihl (fun b hb => hla b (by simp [hb])) (ren a met).2 hp
          have e1 := ih a (hla a (by simp)) (hall a (hla a (by simp))) met ((rens_pre r (ren a met).2).trans hp)
          simp only [List.map_cons, ren.rens, e1, e2]
      rw [ren_fn_eq h0 met] at hp ⊢
      rw [T.app_eq, if_neg h0]
      simp only at hp ⊢
      rw [hl t.args (fun _ h => h) met hp, hv0]

theorem ren_all (t : T) : t.shape = true → ∀ met, ∀ n ∈ t.vs, n ∈ (ren t met).2 := by
  induction t using T.ind with
  | _ t ih =>
    intro hs met n hn
    by_cases h0 : t.fn.size = 0
    · have e := shape_var hs h0
      have hr := vs_range t hs n hn
      have hnv : n = t.v := by
        rw [T.vs_eq, if_pos h0] at hn
        have ha : t.args = [] := by rw [e]; rfl
        simpa [ha] using hn
      have e2 : ren t met = ren (var t.v) met := congrArg (fun u => ren u met) e
      rw [e2, ren_var_eq, ← hnv]
      exact nm_in met n hr.1 hr.2
    · obtain ⟨_, hall⟩ := shape_fn hs h0
      have hl : ∀ (l : List T), (∀ a ∈ l, a ∈ t.args) → ∀ met, ∀ a ∈ l, n ∈ a.vs → n ∈ (ren.rens l met).2 := by
        intro l
        induction l with
        | nil => intro _ met a ha; cases ha
        | cons b r ihl =>
          intro hla met a ha hna
          rcases List.mem_cons.1 ha with rfl | ha
          · exact (rens_pre r _).subset (ih a (hla a (by simp)) (hall a (hla a (by simp))) met n hna)
          · exact ihl (fun c hc => hla c (by simp [hc])) _ a ha hna
      rw [T.vs_eq, if_neg h0, List.nil_append, List.mem_flatten] at hn
      obtain ⟨vs, hvs, hn⟩ := hn
      obtain ⟨a, ha, rfl⟩ := List.mem_map.1 hvs
      rw [ren_fn_eq h0]
      exact hl t.args (fun _ h => h) met a ha hn

end Go.Proofs.Ytgnjgpplelakkaa
