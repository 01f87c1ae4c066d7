import Derived.Test.YtglphfhlpobgcaaGreatLG
import Derived.Test.YtglphfhlpobgcaaGreatVG
import Derived.Test.YtglphfhlpobgcaaGreatKR
import Derived.Test.YtglphfhlpobgcaaGreatLB

namespace Go.Proofs.YtglphfhlpobgcaaGreat
open Classical in
noncomputable def cnt {α : Type} (x : α) : List α → Nat
  | [] => 0
  | y :: r => (if y = x then 1 else 0) + cnt x r
section
variable {α : Type}
theorem cnt_append (x : α) (l r : List α) : cnt x (l ++ r) = cnt x l + cnt x r := by
  induction l with
  | nil => simp [cnt]
  | cons y l ih => simp only [List.cons_append, cnt, ih]; omega
theorem cnt_pos {x : α} {l : List α} : 0 < cnt x l ↔ x ∈ l := by
  induction l with
  | nil => simp [cnt]
  | cons y l ih =>
    by_cases h : y = x
    · simp [cnt, h]; omega
    · simp only [cnt, if_neg h, Nat.zero_add, ih, List.mem_cons]
      exact ⟨.inr, fun k => k.resolve_left (fun e => h e.symm)⟩
theorem cnt_none {x : α} {l : List α} : cnt x l = 0 ↔ x ∉ l := by
  rw [← cnt_pos]; omega
theorem cnt_idx {x : α} : ∀ (l : List α) (k : Nat) (h : k < l.length), cnt x l = cnt x (l.eraseIdx k) + cnt x [l[k]]
  | y :: r, 0, _ => by simp [cnt]; omega
  | y :: r, k + 1, h => by
    have := cnt_idx r k (by simpa using h) (x := x)
    simp only [List.eraseIdx_cons_succ, List.getElem_cons_succ, cnt] at this ⊢
    omega
def msame (m n : List α) : Prop := ∀ x, cnt x m = cnt x n
def mgr (gr : α → α → Prop) (m n : List α) : Prop := ¬ msame m n ∧ ∀ x, cnt x m < cnt x n → ∃ y, gr y x ∧ cnt y n < cnt y m
theorem msame.symm {m n : List α} (h : msame m n) : msame n m := fun x => (h x).symm
theorem msame_refl (m : List α) : msame m m := fun _ => rfl
open Classical in
noncomputable def mcmp (gr : α → α → Prop) (m n : List α) : Int := if msame m n then 0 else if mgr gr m n then 1 else if mgr gr n m then -1 else 2
theorem mcmp_zero {gr : α → α → Prop} {m n : List α} : mcmp gr m n = 0 ↔ msame m n := by
  unfold mcmp
  by_cases h : msame m n
  · simp [h]
  · rw [if_neg h]
    refine ⟨fun k => ?_, fun k => absurd k h⟩
    split at k
    · omega
    · split at k <;> omega
theorem mcmp_gr {gr : α → α → Prop} {m n : List α} : mcmp gr m n = 1 ↔ mgr gr m n := by
  unfold mcmp
  by_cases h : msame m n
  · rw [if_pos h]
    exact ⟨fun k => by omega, fun k => absurd h k.1⟩
  · rw [if_neg h]
    by_cases k : mgr gr m n
    · simp [k]
    · rw [if_neg k]
      refine ⟨fun q => ?_, fun q => absurd q k⟩
      split at q <;> omega
end
section
variable {A α : Type} (κ : A → α)
open Classical in
noncomputable def aprt : List A → List A → List A × List A
  | [], n => ([], n)
  | a :: m, n => match n.findIdx? (fun b => decide (κ a = κ b)) with
    | none => (a :: (aprt m n).1, (aprt m n).2)
    | some k => aprt m (n.eraseIdx k)
theorem map_eraseIdx : ∀ (n : List A) (k : Nat), (n.eraseIdx k).map κ = (n.map κ).eraseIdx k
  | [], k => by simp
  | a :: r, 0 => by simp
  | a :: r, k + 1 => by simp [map_eraseIdx r k]
theorem aprt_cnt (x : α) : ∀ (m n : List A), cnt x ((aprt κ m n).1.map κ) = cnt x (m.map κ) - cnt x (n.map κ) ∧ cnt x ((aprt κ m n).2.map κ) = cnt x (n.map κ) - cnt x (m.map κ)
  | [], n => by simp [aprt, cnt]
  | a :: m, n => by
    unfold aprt
    split
    · rename_i h
      obtain ⟨h1, h2⟩ := aprt_cnt x m n
      have hz : κ a = x → cnt x (n.map κ) = 0 := fun e => by
        rw [cnt_none, List.mem_map]
        rintro ⟨b, hb, hk⟩
        have := List.findIdx?_eq_none_iff.1 h b hb
        simp only [decide_eq_false_iff_not] at this
        exact this (e.trans hk.symm)
      simp only [List.map_cons, cnt, h1, h2]
      by_cases e : κ a = x
      · have := hz e
        rw [if_pos e]; omega
      · rw [if_neg e]; omega
    · rename_i k h
      obtain ⟨hk, he, _⟩ := List.findIdx?_eq_some_iff_getElem.1 h
      obtain ⟨h1, h2⟩ := aprt_cnt x m (n.eraseIdx k)
      have hi := cnt_idx (x := x) (n.map κ) k (by simpa using hk)
      have hmp : (n.eraseIdx k).map κ = (n.map κ).eraseIdx k := map_eraseIdx κ n k
      rw [hmp] at h1 h2
      have he : κ a = κ n[k] := by simpa using he
      simp only [List.getElem_map, ← he] at hi
      simp only [List.map_cons, cnt, h1, h2] at hi ⊢
      omega
open Classical in
noncomputable def cgo : A → List A → List A
  | _, [] => []
  | p, b :: r => if κ b = κ p then cgo b r else b :: cgo b r
noncomputable def cmpt : List A → List A
  | [] => []
  | a :: r => a :: cgo κ a r
theorem cgo_mem (x : α) : ∀ (r : List A) (p : A), x ∈ (p :: cgo κ p r).map κ ↔ x ∈ (p :: r).map κ
  | [], p => by simp [cgo]
  | b :: r, p => by
    have ih := cgo_mem x r b
    simp only [List.map_cons, List.mem_cons] at ih ⊢
    unfold cgo
    by_cases h : κ b = κ p
    · rw [if_pos h, ← ih, h]
      exact ⟨fun k => .inr k, fun k => k.elim .inl id⟩
    · rw [if_neg h, List.map_cons, List.mem_cons, ← ih]
theorem cmpt_mem (x : α) (l : List A) : x ∈ (cmpt κ l).map κ ↔ x ∈ l.map κ := by
  cases l with
  | nil => rfl
  | cons a r => exact cgo_mem κ x r a
theorem cgo_sub : ∀ (r : List A) (p : A), ∀ y ∈ cgo κ p r, y ∈ r
  | [], p => by simp [cgo]
  | b :: r, p => fun y hy => by
    have ih := cgo_sub r b
    unfold cgo at hy
    split at hy
    · exact List.mem_cons_of_mem _ (ih y hy)
    · rcases List.mem_cons.1 hy with rfl | hy
      · simp
      · exact List.mem_cons_of_mem _ (ih y hy)
theorem cmpt_sub (l : List A) : ∀ y ∈ cmpt κ l, y ∈ l := by
  cases l with
  | nil => simp [cmpt]
  | cons a r =>
    intro y hy
    rcases List.mem_cons.1 hy with rfl | hy
    · simp
    · exact List.mem_cons_of_mem _ (cgo_sub κ r a y hy)
def cov (gr : α → α → Prop) (m n : List A) : Prop := ∀ b ∈ n, ∃ a ∈ m, gr (κ a) (κ b)
theorem cov_iff (gr : α → α → Prop) (m n : List A) : cov κ gr m n ↔ ∀ x ∈ n.map κ, ∃ y ∈ m.map κ, gr y x := by
  unfold cov
  simp only [List.mem_map]
  constructor
  · rintro h _ ⟨b, hb, rfl⟩
    obtain ⟨a, ha, hg⟩ := h b hb
    exact ⟨_, ⟨a, ha, rfl⟩, hg⟩
  · intro h b hb
    obtain ⟨_, ⟨a, ha, rfl⟩, hg⟩ := h _ ⟨b, hb, rfl⟩
    exact ⟨a, ha, hg⟩
theorem left_tells (gr : α → α → Prop) {m n x y : List A} (h1 : ∀ z, z ∈ x.map κ ↔ cnt z (n.map κ) < cnt z (m.map κ)) (h2 : ∀ z, z ∈ y.map κ ↔ cnt z (m.map κ) < cnt z (n.map κ)) :
    ((x = [] ∧ y = []) ↔ msame (m.map κ) (n.map κ)) ∧ (¬ (x = [] ∧ y = []) → (cov κ gr x y ↔ mgr gr (m.map κ) (n.map κ))) := by
  have e1 : (x = [] ∧ y = []) ↔ msame (m.map κ) (n.map κ) := by
    constructor
    · rintro ⟨rfl, rfl⟩ z
      have k1 := h1 z
      have k2 := h2 z
      simp at k1 k2
      omega
    · intro h
      have k1 : x.map κ = [] := List.eq_nil_iff_forall_not_mem.2 fun z hz => by
        have := (h1 z).1 hz
        have := h z
        omega
      have k2 : y.map κ = [] := List.eq_nil_iff_forall_not_mem.2 fun z hz => by
        have := (h2 z).1 hz
        have := h z
        omega
      exact ⟨by simpa using k1, by simpa using k2⟩
  refine ⟨e1, fun hne => ?_⟩
  rw [cov_iff]
  unfold mgr
  constructor
  · intro h
    refine ⟨fun q => hne (e1.2 q), fun z hz => ?_⟩
    obtain ⟨u, hu, hg⟩ := h z ((h2 z).2 hz)
    exact ⟨u, hg, (h1 u).1 hu⟩
  · rintro ⟨_, h⟩ z hz
    obtain ⟨u, hg, hu⟩ := h z ((h2 z).1 hz)
    exact ⟨u, (h1 u).2 hu, hg⟩
theorem left_apart (m n : List A) : (∀ z, z ∈ (cmpt κ (aprt κ m n).1).map κ ↔ cnt z (n.map κ) < cnt z (m.map κ)) ∧ ∀ z, z ∈ (cmpt κ (aprt κ m n).2).map κ ↔ cnt z (m.map κ) < cnt z (n.map κ) := by
  refine ⟨fun z => ?_, fun z => ?_⟩
  · rw [cmpt_mem, ← cnt_pos, (aprt_cnt κ z m n).1]; omega
  · rw [cmpt_mem, ← cnt_pos, (aprt_cnt κ z m n).2]; omega
end
end Go.Proofs.YtglphfhlpobgcaaGreat

namespace Go.Proofs.YtglphfhlpobgcaaGreat
open Go.RowKit
structure Od where
  path : Bool
  g : Sg
noncomputable def ocmp (o : Od) (x y : T) : Int := if o.path = true then lcmp o.g x y else ccmp o.g x y
def gT (o : Od) (x y : T) : Prop := ocmp o x y = 1
def sds (x : Lt) : List T := if x.neg = true then [x.l, x.l, x.r, x.r] else [x.l, x.r]
noncomputable def kap (x : Lt) : T → Nat := fun t => cnt t (sds x)
theorem kap_iff {x y : Lt} : kap x = kap y ↔ msame (sds x) (sds y) := ⟨fun h t => congrFun h t, fun h => funext h⟩
theorem lsame_kap {x y : Lt} : lsame x y = true ↔ kap x = kap y := by
  obtain ⟨n, a, b⟩ := x
  obtain ⟨m, c, d⟩ := y
  have hs : lsame ⟨n, a, b⟩ ⟨m, c, d⟩ = true ↔ n = m ∧ ((a = c ∧ b = d) ∨ (a = d ∧ b = c)) := by
    simp only [lsame, lsides, Bool.and_eq_true, Bool.or_eq_true, same_iff, beq_iff_eq]
  rw [hs, kap_iff]
  constructor
  · rintro ⟨rfl, ⟨rfl, rfl⟩ | ⟨rfl, rfl⟩⟩
    · exact msame_refl _
    · intro t
      cases n <;> simp only [sds, cnt, if_true, if_false, Bool.false_eq_true] <;> omega
  · intro h
    have ha := h a
    have hb := h b
    have hc := h c
    have hd := h d
    cases n <;> cases m <;> simp only [sds, cnt, if_true, if_false, Bool.false_eq_true] at ha hb hc hd
    all_goals (
      by_cases e1 : a = c <;> by_cases e2 : a = d <;> by_cases e3 : b = c <;> by_cases e4 : b = d <;> by_cases e5 : a = b <;> by_cases e6 : c = d
      all_goals (
        try have e1' : ¬ c = a := fun e => e1 e.symm
        try have e2' : ¬ d = a := fun e => e2 e.symm
        try have e3' : ¬ c = b := fun e => e3 e.symm
        try have e4' : ¬ d = b := fun e => e4 e.symm
        try have e5' : ¬ b = a := fun e => e5 e.symm
        try have e6' : ¬ d = c := fun e => e6 e.symm
        first
          | (simp_all; done)
          | (exfalso; simp_all; done)
          | (exfalso; simp_all; omega)))
noncomputable def lcm (o : Od) (x y : Lt) : Int := mcmp (gT o) (sds x) (sds y)
def gL (o : Od) (k1 k2 : T → Nat) : Prop := ∃ a b, kap a = k1 ∧ kap b = k2 ∧ mgr (gT o) (sds a) (sds b)
end Go.Proofs.YtglphfhlpobgcaaGreat
