/-
  What a clause means in an interpretation: plain mathematics. Cleaned, or named anew, it means the same; a tautology always holds.
-/
import Derived.Test.YtgnjgpplelakkaaMI
import Derived.Test.YtgnjgpplelakkaaNO
namespace Go.Proofs.Ytgnjgpplelakkaa
open Go.RowKit

/-- What a term is worth: P says what a function is of things, σ what a variable is. -/
def T.val (P : ByteArray → List Int → Int) (σ : Int → Int) : T → Int
  | .mk v fn args => if fn.size = 0 then σ v else P fn (vals args)
where vals : List T → List Int
  | [] => []
  | a :: r => T.val P σ a :: vals r

theorem T.val_eq (P : ByteArray → List Int → Int) (σ : Int → Int) (t : T) : t.val P σ = if t.fn.size = 0 then σ t.v else P t.fn (t.args.map (T.val P σ)) := by
  have h : ∀ l : List T, T.val.vals P σ l = l.map (T.val P σ) := by
    intro l
    induction l with
    | nil => rfl
    | cons a r ih => simp [T.val.vals, ih]
  cases t with
  | mk v fn args =>
    show (if fn.size = 0 then σ v else P fn (T.val.vals P σ args)) = if fn.size = 0 then σ v else P fn (args.map (T.val P σ))
    rw [h]

theorem val_congr (P : ByteArray → List Int → Int) (σ τ : Int → Int) (t : T) : (∀ n ∈ t.vs, σ n = τ n) → t.val P σ = t.val P τ := by
  induction t using T.ind with
  | _ t ih =>
    intro h
    rw [T.val_eq, T.val_eq]
    by_cases h0 : t.fn.size = 0
    · rw [if_pos h0, if_pos h0, h _ (vs_var h0)]
    · rw [if_neg h0, if_neg h0, List.map_congr_left fun a ha => ih a ha fun n hn => h n (vs_arg ha hn)]

theorem val_app (P : ByteArray → List Int → Int) (σ ρ : Int → Int) (t : T) : (t.app fun n => var (ρ n)).val P σ = t.val P fun n => σ (ρ n) := by
  induction t using T.ind with
  | _ t ih =>
    rw [T.app_eq]
    by_cases h0 : t.fn.size = 0
    · rw [if_pos h0, T.val_eq, T.val_eq, if_pos (show (var (ρ t.v)).fn.size = 0 from rfl), if_pos h0]
      rfl
    · rw [if_neg h0, T.val_eq, T.val_eq P _ t, if_neg h0]
      rw [if_neg (show ¬ (T.mk 0 t.fn (t.args.map (T.app fun n => var (ρ n)))).fn.size = 0 from h0)]
      show P t.fn ((t.args.map (T.app fun n => var (ρ n))).map (T.val P σ)) = _
      rw [List.map_map]
      exact congrArg _ (List.map_congr_left fun a ha => ih a ha)

/-- Does a literal hold? -/
def holdsL (P : ByteArray → List Int → Int) (σ : Int → Int) (x : Lt) : Bool := decide (x.l.val P σ = x.r.val P σ) != x.neg
/-- Does a literal of the clause hold? -/
def holds (P : ByteArray → List Int → Int) (σ : Int → Int) (c : List Lt) : Bool := c.any (holdsL P σ)

theorem holds_congr (P : ByteArray → List Int → Int) (σ τ : Int → Int) (c : List Lt) (h : ∀ n ∈ cvs c, σ n = τ n) : holds P σ c = holds P τ c := by
  have hm : ∀ x ∈ c, holdsL P σ x = holdsL P τ x := by
    intro x hx
    have h1 : ∀ t, t = x.l ∨ t = x.r → ∀ n ∈ t.vs, σ n = τ n := by
      intro t ht n hn
      refine h n ?_
      unfold cvs sidesOf
      rw [List.mem_flatten]
      exact ⟨t.vs, List.mem_map.2 ⟨t, List.mem_flatMap.2 ⟨x, hx, by rcases ht with rfl | rfl <;> simp⟩, rfl⟩, hn⟩
    unfold holdsL
    rw [val_congr P σ τ x.l (h1 _ (.inl rfl)), val_congr P σ τ x.r (h1 _ (.inr rfl))]
  unfold holds
  exact Bool.eq_iff_iff.2 (by
    rw [List.any_eq_true, List.any_eq_true]
    exact ⟨fun ⟨x, hx, h⟩ => ⟨x, hx, (hm x hx) ▸ h⟩, fun ⟨x, hx, h⟩ => ⟨x, hx, (hm x hx).symm ▸ h⟩⟩)

theorem holds_app (P : ByteArray → List Int → Int) (σ ρ : Int → Int) (c : List Lt) : holds P σ (c.map (appL fun n => var (ρ n))) = holds P (fun n => σ (ρ n)) c := by
  unfold holds
  rw [List.any_map]
  congr 1
  funext x
  show holdsL P σ (appL (fun n => var (ρ n)) x) = _
  unfold holdsL appL
  simp only
  rw [val_app, val_app]

theorem holdsL_same {P : ByteArray → List Int → Int} {σ : Int → Int} {x y : Lt} (h : lsides x y = true) : decide (x.l.val P σ = x.r.val P σ) = decide (y.l.val P σ = y.r.val P σ) := by
  unfold lsides at h
  simp only [Bool.or_eq_true, Bool.and_eq_true, same_iff] at h
  rcases h with ⟨h1, h2⟩ | ⟨h1, h2⟩
  · rw [h1, h2]
  · rw [h1, h2, decide_eq_decide]
    exact eq_comm

theorem holds_step (P : ByteArray → List Int → Int) (σ : Int → Int) (out : List Lt) (x : Lt) : holds P σ (cstepL out x) = (holds P σ out || holdsL P σ x) := by
  unfold cstepL
  split
  · rename_i h
    have hx : holdsL P σ x = true → holds P σ out = true := by
      intro hx
      rw [Bool.or_eq_true] at h
      rcases h with h | h
      · rw [Bool.and_eq_true, same_iff] at h
        unfold holdsL at hx
        rw [h.1, h.2] at hx
        simp at hx
      · rw [List.any_eq_true] at h
        obtain ⟨y, hy, h⟩ := h
        unfold lsame at h
        rw [Bool.and_eq_true, beq_iff_eq] at h
        unfold holds
        rw [List.any_eq_true]
        refine ⟨y, hy, ?_⟩
        unfold holdsL at hx ⊢
        rw [← holdsL_same h.2, ← h.1]
        exact hx
    cases hx1 : holdsL P σ x
    · simp
    · rw [hx hx1]; rfl
  · unfold holds
    simp

theorem holds_clean (P : ByteArray → List Int → Int) (σ : Int → Int) (c : List Lt) : holds P σ (cclean c) = holds P σ c := by
  have h : ∀ (l out : List Lt), holds P σ (l.foldl cstepL out) = (holds P σ out || holds P σ l) := by
    intro l
    induction l with
    | nil => intro out; simp [holds]
    | cons x r ih =>
      intro out
      rw [List.foldl_cons, ih, holds_step]
      unfold holds
      simp [Bool.or_assoc]
  have := h c []
  unfold cclean
  rw [this]
  rfl

theorem holds_taut (P : ByteArray → List Int → Int) (σ : Int → Int) (c : List Lt) (h : ctaut c = true) : holds P σ c = true := by
  unfold ctaut at h
  rw [List.any_eq_true] at h
  obtain ⟨x, hx, h⟩ := h
  unfold ctautL at h
  rw [Bool.and_eq_true, Bool.or_eq_true] at h
  obtain ⟨hn, h⟩ := h
  have hn' : x.neg = false := by simpa using hn
  cases hx1 : holdsL P σ x
  · unfold holdsL at hx1
    rw [hn'] at hx1
    have hne : ¬ x.l.val P σ = x.r.val P σ := by simpa using hx1
    rcases h with h | h
    · rw [same_iff] at h
      exact absurd (by rw [h]) hne
    · rw [List.any_eq_true] at h
      obtain ⟨y, hy, h⟩ := h
      rw [Bool.and_eq_true] at h
      unfold holds
      rw [List.any_eq_true]
      refine ⟨y, hy, ?_⟩
      unfold holdsL
      rw [← holdsL_same h.2, h.1]
      simp [hne]
  · unfold holds
    rw [List.any_eq_true]
    exact ⟨x, hx, hx1⟩

/-- What variables are, told by a list. -/
def envL (th : Int → Int) (vars : List Int) : Int → Int := fun v => if 0 ≤ v ∧ v < vars.length then th (vars.getD v.toNat 0) else 0

/-- Does the clause hold whatever k more things its variables are? -/
def allB (P : ByteArray → List Int → Int) (th : Int → Int) (sz : Nat) (c : List Lt) : Nat → List Int → Bool
  | 0, vars => holds P (envL th vars) c
  | k + 1, vars => (List.range sz).all fun x => allB P th sz c k (vars ++ [(x : Int)])

theorem allB_iff (P : ByteArray → List Int → Int) (th : Int → Int) (sz : Nat) (c : List Lt) : ∀ (k : Nat) (vars : List Int), allB P th sz c k vars = true ↔ ∀ ys : List Int, ys.length = k → (∀ y ∈ ys, 0 ≤ y ∧ y < sz) → holds P (envL th (vars ++ ys)) c = true
  | 0, vars => by
    unfold allB
    constructor
    · intro h ys hl _
      rw [List.length_eq_zero_iff.1 hl, List.append_nil]
      exact h
    · intro h
      have := h [] rfl (by simp)
      rwa [List.append_nil] at this
  | k + 1, vars => by
    unfold allB
    rw [List.all_eq_true]
    constructor
    · intro h ys hl hy
      match ys, hl, hy with
      | y :: ys, hl, hy =>
        obtain ⟨h0, h1⟩ := hy y (by simp)
        have := (allB_iff P th sz c k (vars ++ [((y.toNat : Nat) : Int)])).1 (h y.toNat (List.mem_range.2 (by omega))) ys (by simpa using hl) (fun z hz => hy z (by simp [hz]))
        rw [Int.toNat_of_nonneg h0] at this
        simpa using this
    · intro h x hx
      refine (allB_iff P th sz c k _).2 fun ys hl hy => ?_
      have := h ((x : Int) :: ys) (by simp [hl]) (fun z hz => by
        rcases List.mem_cons.1 hz with rfl | hz
        · have := List.mem_range.1 hx; omega
        · exact hy z hz)
      simpa using this

/-- How many variables are asked. -/
def topN (l : List Int) : Nat := match l.getLast? with
  | none => 0
  | some z => (z + 1).toNat

theorem rise_last : ∀ {l : List Int} {z : Int}, Rise l → l.getLast? = some z → ∀ n ∈ l, n ≤ z
  | [], _, _, h, _, _ => by cases h
  | [a], z, _, h, n, hn => by
    simp at h hn
    omega
  | a :: b :: r, z, hr, h, n, hn => by
    rw [List.getLast?_cons_cons] at h
    have h2 := rise_last (List.pairwise_cons.1 hr).2 h
    rcases List.mem_cons.1 hn with rfl | hn
    · have := (List.pairwise_cons.1 hr).1 b (by simp)
      have := h2 b (by simp)
      omega
    · exact h2 n hn

theorem topN_lt {l : List Int} (hr : Rise l) (n : Int) (hn : n ∈ l) : n < topN l := by
  unfold topN
  cases h : l.getLast? with
  | none =>
    rw [List.getLast?_eq_none_iff] at h
    rw [h] at hn
    cases hn
  | some z =>
    have := rise_last hr h n hn
    simp only
    omega

/-- Does the clause hold in the interpretation? -/
def AllB (P : ByteArray → List Int → Int) (th : Int → Int) (sz : Nat) (c : List Lt) : Bool := allB P th sz c (topN ((cvs c).foldl wth [])) []

theorem AllB_iff (P : ByteArray → List Int → Int) (th : Int → Int) (sz : Nat) (hsz : 0 < sz) (hth : ∀ y : Int, 0 ≤ y → y < sz → th y = y) (c : List Lt) (hc : ∀ n ∈ cvs c, 0 ≤ n) :
    AllB P th sz c = true ↔ ∀ σ : Int → Int, (∀ n, 0 ≤ σ n ∧ σ n < sz) → holds P σ c = true := by
  unfold AllB
  rw [allB_iff]
  obtain ⟨hr, hm⟩ := wths_rise (cvs c) [] List.Pairwise.nil
  constructor
  · intro h σ hσ
    have := h ((List.range (topN ((cvs c).foldl wth []))).map fun i : Nat => σ (i : Int)) (by simp) (fun y hy => by
      obtain ⟨i, _, rfl⟩ := List.mem_map.1 hy
      exact hσ i)
    rw [List.nil_append] at this
    rw [← this]
    refine holds_congr P _ _ c fun n hn => ?_
    have h0 := hc n hn
    have h1 := topN_lt hr n ((hm n).2 (.inr hn))
    unfold envL
    rw [if_pos ⟨h0, by simpa using h1⟩, List.getD_eq_getElem?_getD, List.getElem?_map, List.getElem?_range (by omega)]
    simp only [Option.map_some, Option.getD_some, Int.toNat_of_nonneg h0]
    obtain ⟨g0, g1⟩ := hσ n
    exact (hth _ g0 g1).symm
  · intro h ys hl hy
    refine h _ fun n => ?_
    unfold envL
    rw [List.nil_append]
    split
    · rename_i hn
      have hlt : n.toNat < ys.length := by omega
      rw [List.getD_eq_getElem?_getD, List.getElem?_eq_getElem hlt, Option.getD_some]
      obtain ⟨g0, g1⟩ := hy _ (List.getElem_mem hlt)
      rw [hth _ g0 g1]
      exact ⟨g0, g1⟩
    · omega

theorem mem_cvs {c : List Lt} {n : Int} : n ∈ cvs c ↔ ∃ x ∈ c, n ∈ x.l.vs ∨ n ∈ x.r.vs := by
  unfold cvs sidesOf
  rw [List.mem_flatten]
  constructor
  · rintro ⟨vs, hvs, hn⟩
    obtain ⟨t, ht, rfl⟩ := List.mem_map.1 hvs
    obtain ⟨x, hx, ht⟩ := List.mem_flatMap.1 ht
    rcases List.mem_cons.1 ht with rfl | ht
    · exact ⟨x, hx, .inl hn⟩
    · simp at ht
      subst ht
      exact ⟨x, hx, .inr hn⟩
  · rintro ⟨x, hx, h | h⟩
    · exact ⟨_, List.mem_map.2 ⟨x.l, List.mem_flatMap.2 ⟨x, hx, by simp⟩, rfl⟩, h⟩
    · exact ⟨_, List.mem_map.2 ⟨x.r, List.mem_flatMap.2 ⟨x, hx, by simp⟩, rfl⟩, h⟩

theorem cvs_range {c : List Lt} (hs : Shaped c) (n : Int) (hn : n ∈ cvs c) : 0 ≤ n ∧ n < 1000000 := by
  obtain ⟨x, hx, h⟩ := mem_cvs.1 hn
  obtain ⟨s1, s2⟩ := hs x hx
  rcases h with h | h
  · exact vs_range _ s1 n h
  · exact vs_range _ s2 n h

theorem clean_sub (c : List Lt) : ∀ x ∈ cclean c, x ∈ c := by
  have h : ∀ (l out : List Lt), ∀ x ∈ l.foldl cstepL out, x ∈ out ∨ x ∈ l := by
    intro l
    induction l with
    | nil => intro out x hx; exact .inl hx
    | cons y r ih =>
      intro out x hx
      rcases ih _ x hx with h | h
      · unfold cstepL at h
        split at h
        · exact .inl h
        · rcases List.mem_append.1 h with h | h
          · exact .inl h
          · simp at h
            exact .inr (by simp [h])
      · exact .inr (by simp [h])
  intro x hx
  rcases h c [] x hx with h | h
  · cases h
  · exact h

theorem app_shapeV (ρ : Int → Int) (t : T) (hρ : ∀ n ∈ t.vs, 0 ≤ ρ n ∧ ρ n < 1000000) : t.shape = true → (t.app fun n => var (ρ n)).shape = true := by
  induction t using T.ind with
  | _ t ih =>
    intro hs
    rw [T.app_eq]
    by_cases h0 : t.fn.size = 0
    · rw [if_pos h0, T.shape_eq, if_pos (show (var (ρ t.v)).fn.size = 0 from rfl)]
      have := hρ _ (vs_var h0)
      show (decide (0 ≤ ρ t.v) && decide (ρ t.v < 1000000) && decide (([] : List T).length = 0)) = true
      rw [decide_eq_true this.1, decide_eq_true this.2]
      rfl
    · rw [if_neg h0, T.shape_eq]
      rw [if_neg (show ¬ (T.mk 0 t.fn (t.args.map (T.app fun n => var (ρ n)))).fn.size = 0 from h0)]
      rw [T.shape_eq, if_neg h0] at hs
      simp only [Bool.and_eq_true, decide_eq_true_eq, List.all_eq_true] at hs
      simp only [Bool.and_eq_true, decide_eq_true_eq, List.all_eq_true]
      refine ⟨⟨⟨rfl, hs.1.1.2⟩, ?_⟩, ?_⟩
      · show (t.args.map _).length ≤ 16
        rw [List.length_map]
        exact hs.1.2
      · intro a ha
        obtain ⟨b, hb, rfl⟩ := List.mem_map.1 (show a ∈ t.args.map _ from ha)
        exact ih b hb (fun n hn => hρ n (vs_arg hb hn)) (hs.2 b hb)

theorem norm_form (c : List Lt) (hs : Shaped c) : cnorm c = c.map (appL fun n => var (ix (metF [] c) n)) := cnormG_rep (metF [] c) c [] hs (List.prefix_refl _)

theorem ix_at (c : List Lt) (hs : Shaped c) (n : Int) (hn : n ∈ cvs c) : 0 ≤ ix (metF [] c) n ∧ ix (metF [] c) n < (metF [] c).length ∧ (metF [] c).getD (ix (metF [] c) n).toNat 0 = n := by
  obtain ⟨x, hx, h⟩ := mem_cvs.1 hn
  have hm := metF_all c [] hs x hx n h
  unfold ix
  cases hi : idx (metF [] c) n with
  | none => exact absurd hm (idx_none hi)
  | some j =>
    have h2 := idx_some hi
    have hj : j < (metF [] c).length := (List.getElem?_eq_some_iff.1 h2).1
    simp only [Option.getD_some]
    refine ⟨by omega, by omega, ?_⟩
    rw [Int.toNat_natCast, List.getD_eq_getElem?_getD, h2]
    rfl

theorem norm_shaped (c : List Lt) (hs : Shaped c) (hsz : csize c ≤ 4000) : Shaped (cnorm c) := by
  have hl := metF_len c []
  intro y hy
  rw [norm_form c hs] at hy
  obtain ⟨x, hx, rfl⟩ := List.mem_map.1 hy
  obtain ⟨s1, s2⟩ := hs x hx
  have hr : ∀ n ∈ cvs c, 0 ≤ ix (metF [] c) n ∧ ix (metF [] c) n < 1000000 := fun n hn => by
    obtain ⟨h1, h2, _⟩ := ix_at c hs n hn
    simp at hl
    omega
  exact ⟨app_shapeV _ _ (fun n hn => hr n (mem_cvs.2 ⟨x, hx, .inl hn⟩)) s1, app_shapeV _ _ (fun n hn => hr n (mem_cvs.2 ⟨x, hx, .inr hn⟩)) s2⟩

/-- The three that the law asks. -/
theorem means_same (P : ByteArray → List Int → Int) (th : Int → Int) (sz : Nat) (hsz : 0 < sz) (hth : ∀ y : Int, 0 ≤ y → y < sz → th y = y) (c : List Lt) (hs : Shaped c) (hcs : csize c ≤ 4000) :
    AllB P th sz (cclean c) = AllB P th sz c ∧ AllB P th sz (cnorm c) = AllB P th sz c ∧ (ctaut c = true → AllB P th sz c = true) := by
  have h0 : ∀ n ∈ cvs c, 0 ≤ n := fun n hn => (cvs_range hs n hn).1
  have h1 : ∀ n ∈ cvs (cclean c), 0 ≤ n := fun n hn => by
    obtain ⟨x, hx, h⟩ := mem_cvs.1 hn
    exact h0 n (mem_cvs.2 ⟨x, clean_sub c x hx, h⟩)
  have h2 : ∀ n ∈ cvs (cnorm c), 0 ≤ n := fun n hn => (cvs_range (norm_shaped c hs hcs) n hn).1
  refine ⟨Bool.eq_iff_iff.2 ?_, Bool.eq_iff_iff.2 ?_, fun ht => (AllB_iff P th sz hsz hth c h0).2 fun σ _ => holds_taut P σ c ht⟩
  · rw [AllB_iff P th sz hsz hth _ h1, AllB_iff P th sz hsz hth _ h0]
    constructor <;> intro h σ hσ <;> have := h σ hσ
    · rwa [holds_clean] at this
    · rwa [holds_clean]
  · rw [AllB_iff P th sz hsz hth _ h2, AllB_iff P th sz hsz hth _ h0]
    constructor
    · intro h τ hτ
      have := h (fun m => τ ((metF [] c).getD m.toNat 0)) (fun n => hτ _)
      rw [norm_form c hs, holds_app] at this
      rw [← this]
      refine holds_congr P _ _ c fun n hn => ?_
      rw [(ix_at c hs n hn).2.2]
    · intro h σ hσ
      rw [norm_form c hs, holds_app]
      exact h _ fun n => hσ _

theorem topN_le (c : List Lt) (hs : Shaped c) : topN ((cvs c).foldl wth []) ≤ 1000000 := by
  obtain ⟨hr, hm⟩ := wths_rise (cvs c) [] List.Pairwise.nil
  unfold topN
  cases h : ((cvs c).foldl wth []).getLast? with
  | none => simp
  | some z =>
    have hz := (hm z).1 (List.mem_of_getLast? h)
    rcases hz with hz | hz
    · cases hz
    · have := cvs_range hs z hz
      simp only
      omega

end Go.Proofs.Ytgnjgpplelakkaa
