import Derived.Test.YtglphfhlpobgcaaGreatE
import Derived.Test.YtglphfhlpobgcaaGreatUB
import Derived.Test.YtglphfhlpobgcaaGreatLV
import Derived.Test.YtglphfhlpobgcaaGreatQF

/-
  The order of Knuth and Bendix: plain mathematics.
-/
namespace Go.Proofs.YtglphfhlpobgcaaGreat
open Go.RowKit

/-- A signature: its names, its weights. -/
structure Sg where
  ns : List ByteArray
  ws : List Int

/-- The name that is below all others. -/
def tru : ByteArray := ⟨#[36, 116, 114, 117, 101]⟩

/-- Where a name stands first. -/
def Sg.ix (g : Sg) (a : ByteArray) : Option Nat := g.ns.findIdx? (fun x => decide (x = a))
def Sg.pl (g : Sg) (a : ByteArray) : Int := match g.ix a with
  | some i => (i : Int)
  | none => -1

/-- Is a name above another one? -/
def Sg.above (g : Sg) (a b : ByteArray) : Bool :=
  if a = tru ∨ b = tru then decide (a ≠ tru) else if g.pl a = g.pl b then decide (cB b a = -1) else decide (g.pl b < g.pl a)

theorem above_iff {g : Sg} {a b : ByteArray} : g.above a b = true ↔ a ≠ tru ∧ (b = tru ∨ g.pl b < g.pl a ∨ (g.pl a = g.pl b ∧ cB b a = -1)) := by
  unfold Sg.above
  by_cases h : a = tru ∨ b = tru
  · rw [if_pos h]
    rcases h with h | h <;> simp [h]
  · rw [if_neg h]
    have h1 : a ≠ tru := fun e => h (.inl e)
    have h2 : b ≠ tru := fun e => h (.inr e)
    by_cases h3 : g.pl a = g.pl b
    · rw [if_pos h3]
      simp [h1, h2, h3]
    · rw [if_neg h3]
      simp [h1, h2, h3]

theorem above_irrefl (g : Sg) (a : ByteArray) : g.above a a = false := by
  cases h : g.above a a
  · rfl
  · obtain ⟨h1, h2 | h2 | ⟨_, h2⟩⟩ := above_iff.1 h
    · exact absurd h2 h1
    · omega
    · have := (cB_ord.zero a a trivial).2 rfl
      omega

theorem above_trans {g : Sg} {a b c : ByteArray} (h : g.above a b = true) (k : g.above b c = true) : g.above a c = true := by
  obtain ⟨h1, h2⟩ := above_iff.1 h
  obtain ⟨k1, k2⟩ := above_iff.1 k
  refine above_iff.2 ⟨h1, ?_⟩
  rcases k2 with k2 | k2
  · exact .inl k2
  · rcases h2 with h2 | h2
    · exact absurd h2 k1
    · right
      rcases h2 with h2 | ⟨h2, h3⟩ <;> rcases k2 with k2 | ⟨k2, k3⟩
      · left; omega
      · left; omega
      · left; omega
      · right
        refine ⟨by omega, ?_⟩
        have t := cB_ord.trans c b a trivial (by omega) (by omega)
        have r := cB_ord.rng c a trivial
        have z := cB_ord.zero c a trivial
        rcases r with r | r | r
        · exact r
        · have e := z.1 r
          subst e
          have := cB_ord.anti c b trivial
          omega
        · omega

theorem above_asymm {g : Sg} {a b : ByteArray} (h : g.above a b = true) : g.above b a = false := by
  cases k : g.above b a
  · rfl
  · have := above_trans h k
    rw [above_irrefl] at this
    cases this

theorem above_total (g : Sg) {a b : ByteArray} (h : a ≠ b) : g.above a b = true ∨ g.above b a = true := by
  by_cases h1 : a = tru
  · exact .inr (above_iff.2 ⟨fun e => h (h1.trans e.symm), .inl h1⟩)
  · by_cases h2 : b = tru
    · exact .inl (above_iff.2 ⟨h1, .inl h2⟩)
    · rcases Int.lt_trichotomy (g.pl a) (g.pl b) with h3 | h3 | h3
      · exact .inr (above_iff.2 ⟨h2, .inr (.inl h3)⟩)
      · rcases cB_ord.rng b a trivial with r | r | r
        · exact .inl (above_iff.2 ⟨h1, .inr (.inr ⟨h3, r⟩)⟩)
        · exact absurd ((cB_ord.zero b a trivial).1 r).symm h
        · refine .inr (above_iff.2 ⟨h2, .inr (.inr ⟨h3.symm, ?_⟩)⟩)
          have := cB_ord.anti b a trivial
          omega
      · exact .inl (above_iff.2 ⟨h1, .inr (.inl h3)⟩)

/-- A symbol above another one. -/
def Sg.sym (g : Sg) (fa fb : ByteArray) (la lb : Nat) : Prop := g.above fa fb = true ∨ (fa = fb ∧ lb < la)

theorem sym_irrefl (g : Sg) (f : ByteArray) (n : Nat) : ¬ g.sym f f n n := by
  rintro (h | ⟨_, h⟩)
  · rw [above_irrefl] at h; cases h
  · omega
theorem sym_trans {g : Sg} {a b c : ByteArray} {k l m : Nat} (h : g.sym a b k l) (h' : g.sym b c l m) : g.sym a c k m := by
  rcases h with h | ⟨rfl, h⟩ <;> rcases h' with h' | ⟨rfl, h'⟩
  · exact .inl (above_trans h h')
  · exact .inl h
  · exact .inl h'
  · exact .inr ⟨rfl, by omega⟩
theorem sym_total (g : Sg) {a b : ByteArray} {k l : Nat} (h : a ≠ b ∨ k ≠ l) : g.sym a b k l ∨ g.sym b a l k := by
  by_cases e : a = b
  · subst e
    rcases Nat.lt_trichotomy k l with h1 | h1 | h1
    · exact .inr (.inr ⟨rfl, h1⟩)
    · rcases h with h | h
      · exact absurd rfl h
      · exact absurd h1 h
    · exact .inl (.inr ⟨rfl, h1⟩)
  · rcases above_total g e with h1 | h1
    · exact .inl (.inl h1)
    · exact .inr (.inl h1)

/-- What a name weighs. -/
def Sg.hv (g : Sg) (fn : ByteArray) : Int := match g.ix fn with
  | some i => (match g.ws[i]? with
    | some w => if 1 ≤ w ∧ w ≤ 1000 then w else 1
    | none => 1)
  | none => 1

theorem hv_rng (g : Sg) (fn : ByteArray) : 1 ≤ g.hv fn ∧ g.hv fn ≤ 1000 := by
  unfold Sg.hv
  split
  · split
    · split
      · assumption
      · omega
    · omega
  · omega

/-- What a part weighs by itself. -/
def Sg.self (g : Sg) (fn : ByteArray) : Int := if fn.size = 0 then 1 else g.hv fn
theorem self_rng (g : Sg) (fn : ByteArray) : 1 ≤ g.self fn ∧ g.self fn ≤ 1000 := by
  unfold Sg.self
  split
  · omega
  · exact hv_rng g fn

/-- What a term weighs. -/
def T.wt (g : Sg) : T → Int
  | .mk _ fn args => g.self fn + wts args
where wts : List T → Int
  | [] => 0
  | a :: r => T.wt g a + wts r

theorem T.wt_eq (g : Sg) (t : T) : t.wt g = g.self t.fn + (t.args.map (T.wt g)).sum := by
  have h : ∀ l : List T, T.wt.wts g l = (l.map (T.wt g)).sum := by
    intro l
    induction l with
    | nil => rfl
    | cons a r ih => simp [T.wt.wts, ih]
  cases t with
  | mk v fn args => simp [T.wt, T.fn, T.args, h]

theorem sum_nonneg {l : List Int} (h : ∀ x ∈ l, 0 ≤ x) : 0 ≤ l.sum := by
  induction l with
  | nil => simp
  | cons a r ih =>
    have h1 := h a (by simp)
    have h2 := ih (fun x hx => h x (by simp [hx]))
    rw [List.sum_cons]
    omega

theorem wt_pos (g : Sg) (t : T) : 1 ≤ t.wt g := by
  induction t using T.ind with
  | _ t ih =>
    rw [t.wt_eq]
    have h1 := (self_rng g t.fn).1
    have h2 : 0 ≤ (t.args.map (T.wt g)).sum := sum_nonneg (fun x hx => by
      obtain ⟨a, ha, rfl⟩ := List.mem_map.1 hx
      have := ih a ha
      omega)
    omega

/-- Each variable stands in b at least as often as in a. -/
def vle (a b : T) : Prop := ∀ x, a.vs.count x ≤ b.vs.count x
theorem vle.trans {a b c : T} (h : vle a b) (k : vle b c) : vle a c := fun x => Nat.le_trans (h x) (k x)

/-- The order of Knuth and Bendix. -/
def gr (g : Sg) : T → T → Prop
  | .mk v fn args, b => vle b (.mk v fn args) ∧ (b.wt g < (T.mk v fn args).wt g ∨ ((T.mk v fn args).wt g = b.wt g ∧ fn.size ≠ 0 ∧ b.fn.size ≠ 0 ∧ (g.sym fn b.fn args.length b.args.length ∨ (fn = b.fn ∧ args.length = b.args.length ∧ grs args b.args))))
where grs : List T → List T → Prop
  | a :: r, b :: s => (a = b ∧ grs r s) ∨ (a ≠ b ∧ gr g a b)
  | _, _ => False

theorem gr_eq (g : Sg) (a b : T) : gr g a b ↔ vle b a ∧ (b.wt g < a.wt g ∨ (a.wt g = b.wt g ∧ a.fn.size ≠ 0 ∧ b.fn.size ≠ 0 ∧ (g.sym a.fn b.fn a.args.length b.args.length ∨ (a.fn = b.fn ∧ a.args.length = b.args.length ∧ gr.grs g a.args b.args)))) := by
  cases a with
  | mk v fn args => exact Iff.rfl

theorem grs_irrefl (g : Sg) : ∀ l : List T, ¬ gr.grs g l l
  | [] => fun h => h
  | a :: r => fun h => by
    rcases h with ⟨_, h⟩ | ⟨h, _⟩
    · exact grs_irrefl g r h
    · exact h rfl
theorem gr_irrefl (g : Sg) (a : T) : ¬ gr g a a := by
  rw [gr_eq]
  rintro ⟨_, h | ⟨_, _, _, h | ⟨_, _, h⟩⟩⟩
  · omega
  · exact sym_irrefl g _ _ h
  · exact grs_irrefl g _ h
theorem gr_ne {g : Sg} {a b : T} (h : gr g a b) : a ≠ b := fun e => gr_irrefl g b (e ▸ h)

theorem gr_trans (g : Sg) (a : T) : ∀ b c, gr g a b → gr g b c → gr g a c := by
  induction a using T.ind with
  | _ a ih =>
    have hl : ∀ (l m n : List T), (∀ x ∈ l, x ∈ a.args) → gr.grs g l m → gr.grs g m n → gr.grs g l n := by
      intro l
      induction l with
      | nil => intro m n _ h; exact h.elim
      | cons x r ihl =>
        intro m n hm h k
        cases m with
        | nil => exact h.elim
        | cons y s =>
          cases n with
          | nil => exact k.elim
          | cons z t =>
            rcases h with ⟨rfl, h⟩ | ⟨h1, h⟩ <;> rcases k with ⟨rfl, k⟩ | ⟨k1, k⟩
            · exact .inl ⟨rfl, ihl s t (fun c hc => hm c (by simp [hc])) h k⟩
            · exact .inr ⟨k1, k⟩
            · exact .inr ⟨h1, h⟩
            · have := ih x (hm x (by simp)) y z h k
              exact .inr ⟨gr_ne this, this⟩
    intro b c h k
    rw [gr_eq] at h k ⊢
    obtain ⟨h1, h⟩ := h
    obtain ⟨k1, k⟩ := k
    refine ⟨k1.trans h1, ?_⟩
    rcases h with h | ⟨h2, h3, h4, h⟩
    · rcases k with k | ⟨k2, _⟩
      · left; omega
      · left; omega
    · rcases k with k | ⟨k2, k3, k4, k⟩
      · left; omega
      · right
        refine ⟨by omega, h3, k4, ?_⟩
        rcases h with h | ⟨h5, h6, h⟩ <;> rcases k with k | ⟨k5, k6, k⟩
        · exact .inl (sym_trans h k)
        · exact .inl (k5 ▸ k6 ▸ h)
        · exact .inl (h5 ▸ h6 ▸ k)
        · exact .inr ⟨h5.trans k5, h6.trans k6, hl _ _ _ (fun _ hx => hx) h k⟩

theorem gr_asymm {g : Sg} {a b : T} (h : gr g a b) : ¬ gr g b a := fun k => gr_irrefl g a (gr_trans g a b a h k)

open Classical in
/-- What a comparison comes to. -/
noncomputable def kcmp (g : Sg) (a b : T) : Int := if a = b then 0 else if gr g a b then 1 else if gr g b a then -1 else 2

theorem kcmp_turn (g : Sg) (a b : T) : (kcmp g a b = 2 ∧ kcmp g b a = 2) ∨ (kcmp g a b ≠ 2 ∧ kcmp g b a = - kcmp g a b) := by
  unfold kcmp
  by_cases e : a = b
  · subst e
    simp
  · have e' : ¬ b = a := fun h => e h.symm
    simp only [e, e', if_false]
    by_cases h : gr g a b
    · simp [h, gr_asymm h]
    · by_cases k : gr g b a <;> simp [h, k]
theorem kcmp_gr {g : Sg} {a b : T} : kcmp g a b = 1 ↔ gr g a b := by
  unfold kcmp
  by_cases e : a = b
  · subst e
    rw [if_pos rfl]
    exact ⟨fun h => by omega, fun h => absurd h (gr_irrefl g a)⟩
  · rw [if_neg e]
    by_cases h : gr g a b
    · rw [if_pos h]; exact ⟨fun _ => h, fun _ => rfl⟩
    · rw [if_neg h]
      split <;> exact ⟨fun h => by omega, fun k => absurd k h⟩
theorem kcmp_ls {g : Sg} {a b : T} : kcmp g a b = -1 ↔ gr g b a := by
  rw [← kcmp_gr]
  rcases kcmp_turn g a b with ⟨h1, h2⟩ | ⟨h1, h2⟩ <;> omega
theorem kcmp_zero {g : Sg} {a b : T} : kcmp g a b = 0 ↔ a = b := by
  unfold kcmp
  by_cases e : a = b
  · rw [if_pos e]; exact ⟨fun _ => e, fun _ => rfl⟩
  · rw [if_neg e]
    split
    · exact ⟨fun h => by omega, fun k => absurd k e⟩
    · split <;> exact ⟨fun h => by omega, fun k => absurd k e⟩
theorem kcmp_rng (g : Sg) (a b : T) : kcmp g a b = 0 ∨ kcmp g a b = 1 ∨ kcmp g a b = -1 ∨ kcmp g a b = 2 := by
  unfold kcmp
  repeat' split
  all_goals omega
theorem kcmp_none {g : Sg} {a b : T} (h1 : a ≠ b) (h2 : ¬ gr g a b) (h3 : ¬ gr g b a) : kcmp g a b = 2 := by
  unfold kcmp
  rw [if_neg h1, if_neg h2, if_neg h3]
theorem kcmp_trans {g : Sg} {a b c : T} (h : kcmp g a b = 1) (k : kcmp g b c = 1) : kcmp g a c = 1 := kcmp_gr.2 (gr_trans g a b c (kcmp_gr.1 h) (kcmp_gr.1 k))

/-- What stands in l as often stands in m. -/
theorem perm_of_count : ∀ (l m : List Int), (∀ x, l.count x ≤ m.count x) → ∃ k, m.Perm (l ++ k)
  | [], m, _ => ⟨m, List.Perm.refl _⟩
  | a :: l, m, h => by
    have ha : a ∈ m := by
      have := h a
      rw [List.count_cons_self] at this
      exact List.count_pos_iff.1 (by omega)
    obtain ⟨k, hk⟩ := perm_of_count l (m.erase a) (fun x => by
      have := h x
      rw [List.count_erase, List.count_cons] at *
      split at this <;> simp_all <;> omega)
    exact ⟨k, (List.perm_cons_erase ha).trans (hk.cons a)⟩

theorem perm_sum {l m : List Int} (h : l.Perm m) : l.sum = m.sum := by
  induction h with
  | nil => rfl
  | cons x _ ih => simp [ih]
  | swap x y l => simp only [List.sum_cons]; omega
  | trans _ _ h1 h2 => exact h1.trans h2

theorem sum_le_of_count {l m : List Int} (e : Int → Int) (he : ∀ x, 0 ≤ e x) (h : ∀ x, l.count x ≤ m.count x) : (l.map e).sum ≤ (m.map e).sum := by
  obtain ⟨k, hk⟩ := perm_of_count l m h
  rw [perm_sum (hk.map e), List.map_append, List.sum_append]
  have : 0 ≤ (k.map e).sum := sum_nonneg (fun x hx => by
    obtain ⟨y, _, rfl⟩ := List.mem_map.1 hx
    exact he y)
  omega

theorem shape_cases {t : T} (h : t.shape = true) : (t.fn.size = 0 ∧ 0 ≤ t.v ∧ t.v < 1000000 ∧ t.args = []) ∨ (t.fn.size ≠ 0 ∧ t.v = 0 ∧ t.fn.size ≤ 64 ∧ t.args.length ≤ 16 ∧ ∀ a ∈ t.args, a.shape = true) := by
  rw [t.shape_eq] at h
  split at h
  · rename_i h0
    simp only [Bool.and_eq_true, decide_eq_true_eq] at h
    exact .inl ⟨h0, h.1.1, h.1.2, List.length_eq_zero_iff.1 h.2⟩
  · rename_i h0
    simp only [Bool.and_eq_true, decide_eq_true_eq, List.all_eq_true] at h
    exact .inr ⟨h0, h.1.1.1, h.1.1.2, h.1.2, h.2⟩

theorem wt_app (g : Sg) (σ : Int → T) (t : T) (hs : t.shape = true) : (t.app σ).wt g = t.wt g + (t.vs.map (fun x => (σ x).wt g - 1)).sum := by
  induction t using T.ind with
  | _ t ih =>
    rw [t.app_eq, t.vs_eq, t.wt_eq]
    rcases shape_cases hs with ⟨h0, _, _, h1⟩ | ⟨h0, _, _, _, h1⟩
    · rw [if_pos h0, if_pos h0, h1]
      simp [Sg.self, h0]
      omega
    · rw [if_neg h0, if_neg h0, T.wt_eq]
      show g.self t.fn + ((t.args.map (T.app σ)).map (T.wt g)).sum = _
      have : ∀ l : List T, (∀ a ∈ l, a ∈ t.args) → ((l.map (T.app σ)).map (T.wt g)).sum = (l.map (T.wt g)).sum + (((l.map T.vs).flatten).map (fun x => (σ x).wt g - 1)).sum := by
        intro l
        induction l with
        | nil => intro _; simp
        | cons a r ihl =>
          intro hl
          have e1 := ih a (hl a (by simp)) (h1 a (hl a (by simp)))
          have e2 := ihl (fun b hb => hl b (by simp [hb]))
          simp only [List.map_cons, List.sum_cons, List.flatten_cons, List.map_append, List.sum_append] at *
          omega
      rw [this _ (fun _ h => h)]
      simp only [List.nil_append]
      omega

theorem vs_app (σ : Int → T) (t : T) (hs : t.shape = true) (y : Int) : ((t.app σ).vs.count y : Int) = (t.vs.map (fun x => ((σ x).vs.count y : Int))).sum := by
  induction t using T.ind with
  | _ t ih =>
    rw [t.app_eq, t.vs_eq]
    rcases shape_cases hs with ⟨h0, _, _, h1⟩ | ⟨h0, _, _, _, h1⟩
    · rw [if_pos h0, if_pos h0, h1]
      simp
    · rw [if_neg h0, if_neg h0, T.vs_eq]
      show (((if t.fn.size = 0 then [0] else []) ++ ((t.args.map (T.app σ)).map T.vs).flatten).count y : Int) = _
      rw [if_neg h0]
      have : ∀ l : List T, (∀ a ∈ l, a ∈ t.args) → ((((l.map (T.app σ)).map T.vs).flatten).count y : Int) = (((l.map T.vs).flatten).map (fun x => ((σ x).vs.count y : Int))).sum := by
        intro l
        induction l with
        | nil => intro _; simp
        | cons a r ihl =>
          intro hl
          have e1 := ih a (hl a (by simp)) (h1 a (hl a (by simp)))
          have e2 := ihl (fun b hb => hl b (by simp [hb]))
          simp only [List.map_cons, List.flatten_cons, List.map_append, List.sum_append, List.count_append] at *
          omega
      simp only [List.nil_append]
      rw [this _ (fun _ h => h)]

theorem vle_app (σ : Int → T) {a b : T} (ha : a.shape = true) (hb : b.shape = true) (h : vle a b) : vle (a.app σ) (b.app σ) := by
  intro y
  have h1 := vs_app σ a ha y
  have h2 := vs_app σ b hb y
  have h3 := sum_le_of_count (fun x => ((σ x).vs.count y : Int)) (fun x => by omega) h
  omega

/-- The order holds behind a substitution. -/
theorem gr_app (g : Sg) (σ : Int → T) (a : T) : ∀ b, a.shape = true → b.shape = true → gr g a b → gr g (a.app σ) (b.app σ) := by
  induction a using T.ind with
  | _ a ih =>
    intro b ha hb h
    obtain ⟨h1, h⟩ := (gr_eq g a b).1 h
    refine (gr_eq g _ _).2 ⟨vle_app σ hb ha h1, ?_⟩
    have e1 := wt_app g σ a ha
    have e2 := wt_app g σ b hb
    have e3 := sum_le_of_count (fun x => (σ x).wt g - 1) (fun x => by have := wt_pos g (σ x); omega) h1
    rcases h with h | ⟨h2, h3, h4, h⟩
    · left; omega
    · by_cases hlt : (b.app σ).wt g < (a.app σ).wt g
      · exact .inl hlt
      · right
        have ea := a.app_eq σ
        have eb := b.app_eq σ
        rw [if_neg h3] at ea
        rw [if_neg h4] at eb
        refine ⟨by omega, by rw [ea]; exact h3, by rw [eb]; exact h4, ?_⟩
        rw [ea, eb]
        show g.sym a.fn b.fn (a.args.map _).length (b.args.map _).length ∨ (a.fn = b.fn ∧ (a.args.map _).length = (b.args.map _).length ∧ gr.grs g (a.args.map _) (b.args.map _))
        rw [List.length_map, List.length_map]
        rcases h with h | ⟨h5, h6, h⟩
        · exact .inl h
        · refine .inr ⟨h5, h6, ?_⟩
          have sa : ∀ x ∈ a.args, x.shape = true := by
            rcases shape_cases ha with ⟨h0, _⟩ | ⟨_, _, _, _, k⟩
            · exact absurd h0 h3
            · exact k
          have sb : ∀ x ∈ b.args, x.shape = true := by
            rcases shape_cases hb with ⟨h0, _⟩ | ⟨_, _, _, _, k⟩
            · exact absurd h0 h4
            · exact k
          have hl : ∀ (l m : List T), (∀ x ∈ l, x ∈ a.args) → (∀ x ∈ m, x ∈ b.args) → gr.grs g l m → gr.grs g (l.map (T.app σ)) (m.map (T.app σ)) := by
            intro l
            induction l with
            | nil => intro m _ _ h; exact h.elim
            | cons x r ihl =>
              intro m hm hn h
              cases m with
              | nil => exact h.elim
              | cons y s =>
                rcases h with ⟨rfl, h⟩ | ⟨_, h⟩
                · exact .inl ⟨rfl, ihl s (fun c hc => hm c (by simp [hc])) (fun c hc => hn c (by simp [hc])) h⟩
                · have := ih x (hm x (by simp)) y (sa x (hm x (by simp))) (sb y (hn y (by simp))) h
                  exact .inr ⟨gr_ne this, this⟩
          exact hl _ _ (fun _ h => h) (fun _ h => h) h

theorem mem_wt {g : Sg} {l : List T} {a : T} (h : a ∈ l) : a.wt g ≤ (l.map (T.wt g)).sum := by
  induction l with
  | nil => cases h
  | cons b r ih =>
    have h0 : 0 ≤ (r.map (T.wt g)).sum := sum_nonneg (fun x hx => by
      obtain ⟨c, _, rfl⟩ := List.mem_map.1 hx
      have := wt_pos g c
      omega)
    have hb := wt_pos g b
    rw [List.map_cons, List.sum_cons]
    rcases List.mem_cons.1 h with rfl | h
    · omega
    · have := ih h
      omega
theorem arg_wt {g : Sg} {t a : T} (h : a ∈ t.args) : a.wt g < t.wt g := by
  rw [t.wt_eq]
  have := mem_wt (g := g) h
  have := (self_rng g t.fn).1
  omega
theorem arg_vle {t a : T} (h : a ∈ t.args) : vle a t := by
  intro x
  rw [t.vs_eq, List.count_append]
  obtain ⟨l, r, e⟩ := List.append_of_mem h
  rw [e]
  simp only [List.map_append, List.map_cons, List.flatten_append, List.flatten_cons, List.count_append]
  omega

/-- One argument less makes the term less. -/
theorem gr_arg {g : Sg} {v v' : Int} {fn : ByteArray} {l r : List T} {a b : T} (h0 : fn.size ≠ 0) (h : gr g a b) : gr g (.mk v fn (l ++ a :: r)) (.mk v' fn (l ++ b :: r)) := by
  have hh := (gr_eq g a b).1 h
  rw [gr_eq]
  refine ⟨fun x => ?_, ?_⟩
  · rw [T.vs_eq, T.vs_eq]
    have := hh.1 x
    simp only [T.fn, T.args, h0, if_false, List.nil_append, List.map_append, List.map_cons, List.flatten_append, List.flatten_cons, List.count_append]
    omega
  · rw [T.wt_eq, T.wt_eq]
    have hw : b.wt g ≤ a.wt g := by
      rcases hh.2 with h | ⟨h, _⟩ <;> omega
    simp only [T.fn, T.args, List.map_append, List.map_cons, List.sum_append, List.sum_cons, List.length_append, List.length_cons]
    by_cases hlt : b.wt g < a.wt g
    · left; omega
    · right
      refine ⟨by omega, h0, h0, .inr ⟨trivial, trivial, ?_⟩⟩
      have : ∀ l : List T, gr.grs g (l ++ a :: r) (l ++ b :: r) := by
        intro l
        induction l with
        | nil => exact .inr ⟨gr_ne h, h⟩
        | cons x l ih => exact .inl ⟨rfl, ih⟩
      exact this l

/-- Without variables one of both is greater. -/
theorem gr_total (g : Sg) (a : T) : ∀ b, a.shape = true → b.shape = true → a.vs = [] → b.vs = [] → a = b ∨ gr g a b ∨ gr g b a := by
  induction a using T.ind with
  | _ a ih =>
    intro b ha hb va vb
    have nv : ∀ t : T, t.vs = [] → t.fn.size ≠ 0 ∧ ∀ x ∈ t.args, x.vs = [] := by
      intro t ht
      rw [t.vs_eq, List.append_eq_nil_iff] at ht
      refine ⟨fun h0 => ?_, fun x hx => ?_⟩
      · rw [if_pos h0] at ht
        cases ht.1
      · exact List.flatten_eq_nil_iff.1 ht.2 _ (List.mem_map.2 ⟨x, hx, rfl⟩)
    obtain ⟨fa, na⟩ := nv a va
    obtain ⟨fb, nb⟩ := nv b vb
    have hva : vle a b := fun x => by rw [va]; simp
    have hvb : vle b a := fun x => by rw [vb]; simp
    rcases shape_cases ha with ⟨h0, _⟩ | ⟨_, av, _, _, sa⟩
    · exact absurd h0 fa
    rcases shape_cases hb with ⟨h0, _⟩ | ⟨_, bv, _, _, sb⟩
    · exact absurd h0 fb
    rcases Int.lt_trichotomy (a.wt g) (b.wt g) with hw | hw | hw
    · exact .inr (.inr ((gr_eq g b a).2 ⟨hva, .inl hw⟩))
    · by_cases hs : a.fn ≠ b.fn ∨ a.args.length ≠ b.args.length
      · rcases sym_total g hs with h | h
        · exact .inr (.inl ((gr_eq g a b).2 ⟨hvb, .inr ⟨hw, fa, fb, .inl h⟩⟩))
        · exact .inr (.inr ((gr_eq g b a).2 ⟨hva, .inr ⟨hw.symm, fb, fa, .inl h⟩⟩))
      · have hf : a.fn = b.fn := Classical.byContradiction fun h => hs (.inl h)
        have hn : a.args.length = b.args.length := Classical.byContradiction fun h => hs (.inr h)
        have hl : ∀ (l m : List T), l.length = m.length → (∀ x ∈ l, x ∈ a.args) → (∀ x ∈ m, x ∈ b.args) → l = m ∨ gr.grs g l m ∨ gr.grs g m l := by
          intro l
          induction l with
          | nil => intro m hm _ _; exact .inl (List.length_eq_zero_iff.1 hm.symm).symm
          | cons x r ihl =>
            intro m hm h1 h2
            cases m with
            | nil => simp at hm
            | cons y s =>
              rcases ih x (h1 x (by simp)) y (sa x (h1 x (by simp))) (sb y (h2 y (by simp))) (na x (h1 x (by simp))) (nb y (h2 y (by simp))) with rfl | h | h
              · rcases ihl s (by simpa using hm) (fun c hc => h1 c (by simp [hc])) (fun c hc => h2 c (by simp [hc])) with rfl | h | h
                · exact .inl rfl
                · exact .inr (.inl (.inl ⟨rfl, h⟩))
                · exact .inr (.inr (.inl ⟨rfl, h⟩))
              · exact .inr (.inl (.inr ⟨gr_ne h, h⟩))
              · exact .inr (.inr (.inr ⟨gr_ne h, h⟩))
        rcases hl _ _ hn (fun _ h => h) (fun _ h => h) with h | h | h
        · exact .inl (same_ext (by rw [av, bv]) hf h)
        · exact .inr (.inl ((gr_eq g a b).2 ⟨hvb, .inr ⟨hw, fa, fb, .inr ⟨hf, hn, h⟩⟩⟩))
        · exact .inr (.inr ((gr_eq g b a).2 ⟨hva, .inr ⟨hw.symm, fb, fa, .inr ⟨hf.symm, hn.symm, h⟩⟩⟩))
    · exact .inr (.inl ((gr_eq g a b).2 ⟨hvb, .inl hw⟩))

end Go.Proofs.YtglphfhlpobgcaaGreat

/-
  Rows of names and of weights in memory; slices.Index; the document's at; both Above.
-/
namespace Go.Proofs.YtglphfhlpobgcaaGreat
open Go.RowKit

/-- A row in memory, one cell an element. -/
def RowAt {α : Type} (f : α → Value) (W : World) (v : Value) (l : List α) : Prop :=
  ∃ a c, v = .slice a l.length c ∧ l.length ≤ c ∧ c ≤ 9223372036854775807 ∧ (0 < l.length → ∃ b o, b < W.heap.size ∧ a = some ⟨b, o, none⟩ ∧ ∀ i (h : i < l.length), W.cell? ⟨b, o + i, none⟩ = some (f l[i]))

section
variable {α : Type} {f : α → Value} {W W' : World} {v : Value} {l : List α}
theorem RowAt.keep {n : Nat} (h : RowAt f W v l) (hb : Below n W W') (hn : W.heap.size ≤ n) : RowAt f W' v l := by
  obtain ⟨a, c, h1, h2, h3, h4⟩ := h
  refine ⟨a, c, h1, h2, h3, fun h0 => ?_⟩
  obtain ⟨b, o, hlt, ha, hc⟩ := h4 h0
  exact ⟨b, o, Nat.lt_of_lt_of_le hlt hb.size, ha, fun i hi => kc hb (Nat.lt_of_lt_of_le hlt hn) (hc i hi)⟩
theorem RowAt.slice (h : RowAt f W v l) : ∃ a c, v = .slice a l.length c ∧ l.length ≤ c ∧ c ≤ 9223372036854775807 := by
  obtain ⟨a, c, h1, h2, h3, h4⟩ := h
  exact ⟨a, c, h1, h2, h3⟩
theorem RowAt.nth {a : Option Addr} {n c : Nat} (h : RowAt f W (.slice a n c) l) {i : Nat} (hi : i < l.length) : ∃ b o, a = some ⟨b, o, none⟩ ∧ b < W.heap.size ∧ W.cell? ⟨b, o + i, none⟩ = some (f l[i]) := by
  obtain ⟨a', c', h1, h2, h3, h4⟩ := h
  obtain ⟨b, o, hlt, ha, hc⟩ := h4 (by omega)
  cases h1
  exact ⟨b, o, ha, hlt, hc i hi⟩
/-- The first ones of a row. -/
theorem RowAt.take {a : Option Addr} {c : Nat} (h : RowAt f W (.slice a l.length c) l) (k : Nat) (hk : k ≤ l.length) : RowAt f W (.slice a k c) (l.take k) := by
  obtain ⟨a', c', h1, h2, h3, h4⟩ := h
  have hl : (l.take k).length = k := by simp; omega
  cases h1
  refine ⟨a, c, by rw [hl], by omega, h3, fun h0 => ?_⟩
  obtain ⟨b, o, hlt, ha, hc⟩ := h4 (by omega)
  refine ⟨b, o, hlt, ha, fun i hi => ?_⟩
  rw [List.getElem_take]
  exact hc i (by omega)
end

/-- Where a name stands first in a list. -/
def ixL (l : List ByteArray) (a : ByteArray) : Option Nat := l.findIdx? (fun x => decide (x = a))
def plL (l : List ByteArray) (a : ByteArray) : Int := match ixL l a with
  | some i => (i : Int)
  | none => -1
theorem pl_eq (g : Sg) (a : ByteArray) : g.pl a = plL g.ns a := rfl

theorem plL_at {l : List ByteArray} {a : ByteArray} {i : Nat} (hi : i < l.length) (h : ∀ j (hj : j < l.length), j < i → l[j] ≠ a) (e : l[i] = a) : plL l a = i := by
  have : ixL l a = some i := by
    unfold ixL
    rw [List.findIdx?_eq_some_iff_getElem]
    exact ⟨hi, by simp [e], fun j hj => by simpa using h j (by omega) hj⟩
  unfold plL
  rw [this]
theorem plL_no {l : List ByteArray} {a : ByteArray} (h : ∀ j (hj : j < l.length), l[j] ≠ a) : plL l a = -1 := by
  have : ixL l a = none := by
    unfold ixL
    rw [List.findIdx?_eq_none_iff]
    intro x hx
    obtain ⟨j, hj, rfl⟩ := List.getElem_of_mem hx
    simpa using h j hj
  unfold plL
  rw [this]
theorem plL_rng (l : List ByteArray) (a : ByteArray) : -1 ≤ plL l a ∧ plL l a < l.length := by
  unfold plL
  cases h : ixL l a with
  | none => simp; omega
  | some i =>
    unfold ixL at h
    obtain ⟨hi, _⟩ := List.findIdx?_eq_some_iff_getElem.1 h
    simp; omega

set_option maxHeartbeats 1000000 in
theorem index_any (l : List ByteArray) (x : ByteArray) (v : Value) (w : World) (hl : RowAt .string w v l) :
    Calls Tryz.prog 148 #[v, .string x] w fun e w' => e = .returned (.int .i64 (plL l x)) ∧ w' = w := by
  obtain ⟨a, c, rfl, hc, hm⟩ := hl.slice
  have HL : Hid (RowAt .string w (.slice a l.length c) l) := hl
  clear hl
  go_enter Tryz.func148, Tryz.ntmps148
  go_wp2
  go_loopw [8] (fun vi wr => ∃ i : Nat, vi = .int .i64 i ∧ i ≤ l.length ∧ wr = w ∧ ∀ j (hj : j < l.length), j < i → l[j] ≠ x) (fun vi _ => l.length - (intOf vi).toNat)
  case atStart => exact ⟨0, rfl, Nat.zero_le _, rfl, fun j _ hj => absurd hj (by omega)⟩
  case round =>
    obtain ⟨i, rfl, hi, hwr, hall⟩ := hrel
    subst hwr
    have HA : Hid (∀ j (hj : j < l.length), j < i → l[j] ≠ x) := hall
    clear hall
    by_cases hlt : i < l.length
    · obtain ⟨b, o, rfl, hbl, hcell⟩ := HL.out.nth hlt
      by_cases e : l[i] = x
      · have HP : Hid (plL l x = i) := plL_at hlt HA.out e
        have e' : (x.toList == l[i].toList) = true := by rw [e]; simp
        clear e
        go_wp2
        go_ret
        exact ⟨ret_i64 HP.out.symm, rfl⟩
      · have HN : Hid (∀ j (hj : j < l.length), j < i + 1 → l[j] ≠ x) := fun j hj hji => by
          by_cases ej : j = i
          · subst ej; exact e
          · exact HA.out j hj (by omega)
        have e' : (x.toList == l[i].toList) = false := by rw [beq_eq_false_iff_ne]; exact fun h => e (ba_toList_inj.1 h).symm
        clear e
        go_wp2
        go_roundw
        case rel => exact ⟨i + 1, by go_num, by omega, trivial, HN.out⟩
        case measure => simp [intOf]; omega
    · have HP : Hid (plL l x = -1) := plL_no (fun j hj => HA.out j hj (by omega))
      go_wp2
      go_ret
      exact ⟨ret_i64 HP.out.symm, rfl⟩

/-- A signature's value, its box. -/
abbrev gval (vn vw : Value) : Value := .agg #[vn, vw]

/-- A signature in memory. -/
structure SgAt (W : World) (g : Sg) (vn vw : Value) : Prop where
  ns : RowAt .string W vn g.ns
  ws : RowAt (.int .i64) W vw g.ws
  sz : ∀ x ∈ g.ns, x.size ≤ maxLen
theorem SgAt.keep {W W' : World} {g : Sg} {vn vw : Value} {n : Nat} (h : SgAt W g vn vw) (hb : Below n W W') (hn : W.heap.size ≤ n) : SgAt W' g vn vw := ⟨h.ns.keep hb hn, h.ws.keep hb hn, h.sz⟩

theorem box2_cells (w : World) (x y : Value) (ty : TypeId) : (w.alloc (.cells #[x, y] ty)).cell? ⟨w.heap.size, 0, none⟩ = some x ∧ (w.alloc (.cells #[x, y] ty)).cell? ⟨w.heap.size, 1, none⟩ = some y := by
  have h : (w.alloc (.cells #[x, y] ty)).heap[w.heap.size]? = some (.cells [x, y].toArray ty (0, 0)) := (MapKept.heap_alloc w (.cells #[x, y] ty)).1
  refine ⟨?_, ?_⟩ <;> rw [cell_of_row _ _ _ _ ty (0, 0) h] <;> rfl

set_option maxHeartbeats 1000000 in
theorem rat_row (l : List ByteArray) (x : ByteArray) (vn : Value) (a2 : Option Addr) (n2 c2 : Nat) (w : World) (hl : RowAt .string w vn l) :
    Calls Tryz.prog 47 #[gval vn (.slice a2 n2 c2), .string x] w fun e w' => e = .returned (.int .i64 (plL l x)) ∧ Below w.heap.size w w' := by
  obtain ⟨a, c, rfl, hc, hm⟩ := hl.slice
  have hb := below_box w (.cells #[.slice a l.length c, .slice a2 n2 c2] 25)
  obtain ⟨t0, _⟩ := box2_cells w (.slice a l.length c) (.slice a2 n2 c2) 25
  have HL : Hid (RowAt .string (w.alloc (.cells #[.slice a l.length c, .slice a2 n2 c2] 25)) (.slice a l.length c) l) := hl.keep hb (Nat.le_refl _)
  have HB : Hid (Below w.heap.size w (w.alloc (.cells #[.slice a l.length c, .slice a2 n2 c2] 25))) := hb
  clear hl hb
  go_enter Tryz.func47, Tryz.ntmps47
  go_wp2
  go_loopw [5] (fun vi wr => ∃ i : Nat, vi = .int .i64 i ∧ i ≤ l.length ∧ wr = w.alloc (.cells #[.slice a l.length c, .slice a2 n2 c2] 25) ∧ ∀ j (hj : j < l.length), j < i → l[j] ≠ x) (fun vi _ => l.length - (intOf vi).toNat)
  case atStart => exact ⟨0, rfl, Nat.zero_le _, rfl, fun j _ hj => absurd hj (by omega)⟩
  case round =>
    obtain ⟨i, rfl, hi, hwr, hall⟩ := hrel
    subst hwr
    have HA : Hid (∀ j (hj : j < l.length), j < i → l[j] ≠ x) := hall
    clear hall
    by_cases hlt : i < l.length
    · obtain ⟨b, o, rfl, hbl, hcell⟩ := HL.out.nth hlt
      by_cases e : l[i] = x
      · have HP : Hid (plL l x = i) := plL_at hlt HA.out e
        have e' : (l[i].toList == x.toList) = true := by rw [e]; simp
        clear e
        go_wp2
        go_ret
        exact ⟨ret_i64 HP.out.symm, HB.out⟩
      · have HN : Hid (∀ j (hj : j < l.length), j < i + 1 → l[j] ≠ x) := fun j hj hji => by
          by_cases ej : j = i
          · subst ej; exact e
          · exact HA.out j hj (by omega)
        have e' : (l[i].toList == x.toList) = false := by rw [beq_eq_false_iff_ne]; exact fun h => e (ba_toList_inj.1 h)
        clear e
        go_wp2
        go_roundw
        case rel => exact ⟨i + 1, by go_num, by omega, trivial, HN.out⟩
        case measure => simp [intOf]; omega
    · have HP : Hid (plL l x = -1) := plL_no (fun j hj => HA.out j hj (by omega))
      go_wp2
      go_ret
      exact ⟨ret_i64 HP.out.symm, HB.out⟩

theorem rat_any (g : Sg) (x : ByteArray) (vn vw : Value) (w : World) (hg : SgAt w g vn vw) :
    Calls Tryz.prog 47 #[gval vn vw, .string x] w fun e w' => e = .returned (.int .i64 (g.pl x)) ∧ Below w.heap.size w w' := by
  obtain ⟨a2, c2, rfl, _, _⟩ := hg.ws.slice
  exact rat_row g.ns x vn a2 _ c2 w hg.ns

end Go.Proofs.YtglphfhlpobgcaaGreat
