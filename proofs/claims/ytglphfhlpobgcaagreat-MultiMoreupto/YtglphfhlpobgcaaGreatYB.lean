import Derived.Test.YtglphfhlpobgcaaGreatLG
import Derived.Test.YtglphfhlpobgcaaGreatVG
import Derived.Test.YtglphfhlpobgcaaGreatKR
import Derived.Test.YtglphfhlpobgcaaGreatLB

/-
  Multisets and their order: plain mathematics.
-/
namespace Go.Proofs.YtglphfhlpobgcaaGreat

open Classical in
/-- How often a thing stands in a list. -/
noncomputable def cnt {α : Type} (x : α) : List α → Nat
  | [] => 0
  | y :: r => (if y = x then 1 else 0) + cnt x r

section
variable {α : Type}

theorem cnt_append (x : α) (l r : List α) : cnt x (l ++ r) = cnt x l + cnt x r := by
  induction l with
  | nil => simp [cnt]
  | cons y l ih => simp only [List.cons_append, cnt, ih]; omega
theorem cnt_pos {x : α} {l : List α} : 0 < cnt x l ↔ x ∈ l := by
  induction l with
  | nil => simp [cnt]
  | cons y l ih =>
    by_cases h : y = x
    · simp [cnt, h]; omega
    · simp only [cnt, if_neg h, Nat.zero_add, ih, List.mem_cons]
      exact ⟨.inr, fun k => k.resolve_left (fun e => h e.symm)⟩
theorem cnt_none {x : α} {l : List α} : cnt x l = 0 ↔ x ∉ l := by
  rw [← cnt_pos]; omega
theorem cnt_idx {x : α} : ∀ (l : List α) (k : Nat) (h : k < l.length), cnt x l = cnt x (l.eraseIdx k) + cnt x [l[k]]
  | y :: r, 0, _ => by simp [cnt]; omega
  | y :: r, k + 1, h => by
    have := cnt_idx r k (by simpa using h) (x := x)
    simp only [List.eraseIdx_cons_succ, List.getElem_cons_succ, cnt] at this ⊢
    omega

/-- Of a list that is not empty one thing has nothing above it. -/
theorem has_top (gr : α → α → Prop) (irr : ∀ x, ¬ gr x x) (tr : ∀ x y z, gr x y → gr y z → gr x z) : ∀ (l : List α) (P : α → Prop), (∃ x ∈ l, P x) → ∃ x ∈ l, P x ∧ ∀ y ∈ l, P y → ¬ gr y x
  | [], P, h => by obtain ⟨x, h, _⟩ := h; simp at h
  | a :: r, P, h => by
    by_cases hr : ∃ x ∈ r, P x
    · obtain ⟨x, hx, px, hn⟩ := has_top gr irr tr r P hr
      by_cases ha : P a ∧ gr a x
      · refine ⟨a, by simp, ha.1, fun y hy py k => ?_⟩
        rcases List.mem_cons.1 hy with rfl | hy
        · exact irr _ k
        · exact hn y hy py (tr _ _ _ k ha.2)
      · refine ⟨x, by simp [hx], px, fun y hy py k => ?_⟩
        rcases List.mem_cons.1 hy with rfl | hy
        · exact ha ⟨py, k⟩
        · exact hn y hy py k
    · obtain ⟨x, hx, px⟩ := h
      rcases List.mem_cons.1 hx with rfl | hx
      · refine ⟨x, by simp, px, fun y hy py k => ?_⟩
        rcases List.mem_cons.1 hy with rfl | hy
        · exact irr _ k
        · exact hr ⟨y, hy, py⟩
      · exact absurd ⟨x, hx, px⟩ hr

/-- Two lists are the same multiset. -/
def msame (m n : List α) : Prop := ∀ x, cnt x m = cnt x n
/-- Greater, of multisets. -/
def mgr (gr : α → α → Prop) (m n : List α) : Prop := ¬ msame m n ∧ ∀ x, cnt x m < cnt x n → ∃ y, gr y x ∧ cnt y n < cnt y m

theorem msame.symm {m n : List α} (h : msame m n) : msame n m := fun x => (h x).symm
theorem msame_refl (m : List α) : msame m m := fun _ => rfl
theorem mgr_congr {gr : α → α → Prop} {m m' n n' : List α} (h : msame m m') (k : msame n n') : mgr gr m n ↔ mgr gr m' n' := by
  unfold mgr msame
  have h' : ∀ x, cnt x m = cnt x m' := h
  have k' : ∀ x, cnt x n = cnt x n' := k
  simp only [h', k']
theorem mem_of_lt {x : α} {m n : List α} (h : cnt x m < cnt x n) : x ∈ n := cnt_pos.1 (by omega)

theorem mgr_asymm {gr : α → α → Prop} (irr : ∀ x, ¬ gr x x) (tr : ∀ x y z, gr x y → gr y z → gr x z) {m n : List α} (h : mgr gr m n) : ¬ mgr gr n m := fun k => by
  have hx : ∃ x, cnt x m ≠ cnt x n := by
    refine Classical.byContradiction fun e => h.1 fun x => ?_
    exact Classical.byContradiction fun q => e ⟨x, q⟩
  obtain ⟨x, hx⟩ := hx
  obtain ⟨z, _, hz, ht⟩ := has_top gr irr tr (m ++ n) (fun x => cnt x m ≠ cnt x n) ⟨x, by
    rcases Nat.lt_or_gt_of_ne hx with q | q
    · exact List.mem_append_right _ (mem_of_lt q)
    · exact List.mem_append_left _ (mem_of_lt q), hx⟩
  rcases Nat.lt_or_gt_of_ne hz with q | q
  · obtain ⟨y, hy, hc⟩ := h.2 z q
    exact ht y (List.mem_append_left _ (mem_of_lt hc)) (by omega) hy
  · obtain ⟨y, hy, hc⟩ := k.2 z q
    exact ht y (List.mem_append_right _ (mem_of_lt hc)) (by omega) hy
theorem mgr_irrefl {gr : α → α → Prop} (m : List α) : ¬ mgr gr m m := fun h => h.1 (msame_refl m)
theorem mgr_trans {gr : α → α → Prop} (irr : ∀ x, ¬ gr x x) (tr : ∀ x y z, gr x y → gr y z → gr x z) {m n k : List α} (h : mgr gr m n) (q : mgr gr n k) : mgr gr m k := by
  refine ⟨fun e => mgr_asymm irr tr h ((mgr_congr (msame_refl n) e).2 q), fun x hx => ?_⟩
  have hs : ∃ z ∈ m ++ n, gr z x ∧ (cnt z n < cnt z m ∨ cnt z k < cnt z n) := by
    by_cases e : cnt x m < cnt x n
    · obtain ⟨y, hy, hc⟩ := h.2 x e
      exact ⟨y, List.mem_append_left _ (mem_of_lt hc), hy, .inl hc⟩
    · obtain ⟨y, hy, hc⟩ := q.2 x (by omega)
      exact ⟨y, List.mem_append_right _ (mem_of_lt hc), hy, .inr hc⟩
  obtain ⟨z, _, ⟨hz, hc⟩, ht⟩ := has_top gr irr tr (m ++ n) (fun z => gr z x ∧ (cnt z n < cnt z m ∨ cnt z k < cnt z n)) hs
  refine ⟨z, hz, ?_⟩
  have n1 : ¬ cnt z n < cnt z k := fun e => by
    obtain ⟨y, hy, hd⟩ := q.2 z e
    exact ht y (List.mem_append_right _ (mem_of_lt hd)) ⟨tr _ _ _ hy hz, .inr hd⟩ hy
  have n2 : ¬ cnt z m < cnt z n := fun e => by
    obtain ⟨y, hy, hd⟩ := h.2 z e
    exact ht y (List.mem_append_left _ (mem_of_lt hd)) ⟨tr _ _ _ hy hz, .inl hd⟩ hy
  omega

open Classical in
/-- What comes of two multisets. -/
noncomputable def mcmp (gr : α → α → Prop) (m n : List α) : Int := if msame m n then 0 else if mgr gr m n then 1 else if mgr gr n m then -1 else 2

theorem mcmp_zero {gr : α → α → Prop} {m n : List α} : mcmp gr m n = 0 ↔ msame m n := by
  unfold mcmp
  by_cases h : msame m n
  · simp [h]
  · rw [if_neg h]
    refine ⟨fun k => ?_, fun k => absurd k h⟩
    split at k
    · omega
    · split at k <;> omega
theorem mcmp_gr {gr : α → α → Prop} {m n : List α} : mcmp gr m n = 1 ↔ mgr gr m n := by
  unfold mcmp
  by_cases h : msame m n
  · rw [if_pos h]
    exact ⟨fun k => by omega, fun k => absurd h k.1⟩
  · rw [if_neg h]
    by_cases k : mgr gr m n
    · simp [k]
    · rw [if_neg k]
      refine ⟨fun q => ?_, fun q => absurd q k⟩
      split at q <;> omega
theorem mcmp_rng (gr : α → α → Prop) (m n : List α) : mcmp gr m n = 0 ∨ mcmp gr m n = 1 ∨ mcmp gr m n = -1 ∨ mcmp gr m n = 2 := by
  unfold mcmp
  split
  · exact .inl rfl
  · split
    · exact .inr (.inl rfl)
    · split
      · exact .inr (.inr (.inl rfl))
      · exact .inr (.inr (.inr rfl))
theorem mcmp_ls {gr : α → α → Prop} (irr : ∀ x, ¬ gr x x) (tr : ∀ x y z, gr x y → gr y z → gr x z) {m n : List α} : mcmp gr m n = -1 ↔ mgr gr n m := by
  unfold mcmp
  by_cases h : msame m n
  · rw [if_pos h]
    exact ⟨fun k => by omega, fun k => absurd h.symm k.1⟩
  · rw [if_neg h]
    by_cases k : mgr gr m n
    · rw [if_pos k]
      exact ⟨fun q => by omega, fun q => absurd q (mgr_asymm irr tr k)⟩
    · rw [if_neg k]
      by_cases q : mgr gr n m
      · simp [q]
      · rw [if_neg q]
        exact ⟨fun r => by omega, fun r => absurd r q⟩
theorem mcmp_turn {gr : α → α → Prop} (irr : ∀ x, ¬ gr x x) (tr : ∀ x y z, gr x y → gr y z → gr x z) (m n : List α) : (mcmp gr m n = 2 ∧ mcmp gr n m = 2) ∨ (mcmp gr m n ≠ 2 ∧ mcmp gr n m = - mcmp gr m n) := by
  rcases mcmp_rng gr m n with h | h | h | h
  · exact .inr ⟨by omega, by rw [h, mcmp_zero.2 (mcmp_zero.1 h).symm]; rfl⟩
  · exact .inr ⟨by omega, by rw [h]; exact (mcmp_ls irr tr).2 (mcmp_gr.1 h)⟩
  · exact .inr ⟨by omega, by rw [h]; exact mcmp_gr.2 ((mcmp_ls irr tr).1 h)⟩
  · refine .inl ⟨h, ?_⟩
    rcases mcmp_rng gr n m with k | k | k | k
    · rw [mcmp_zero.2 (mcmp_zero.1 k).symm] at h; omega
    · rw [(mcmp_ls irr tr).2 (mcmp_gr.1 k)] at h; omega
    · rw [mcmp_gr.2 ((mcmp_ls irr tr).1 k)] at h; omega
    · exact k
theorem mcmp_trans {gr : α → α → Prop} (irr : ∀ x, ¬ gr x x) (tr : ∀ x y z, gr x y → gr y z → gr x z) {m n k : List α} (h : mcmp gr m n = 1) (q : mcmp gr n k = 1) : mcmp gr m k = 1 :=
  mcmp_gr.2 (mgr_trans irr tr (mcmp_gr.1 h) (mcmp_gr.1 q))
theorem mcmp_congr {gr : α → α → Prop} {m m' n n' : List α} (h : msame m m') (k : msame n n') : mcmp gr m n = mcmp gr m' n' := by
  unfold mcmp
  have e : msame m n ↔ msame m' n' := ⟨fun q x => (h x).symm.trans ((q x).trans (k x)), fun q x => (h x).trans ((q x).trans (k x).symm)⟩
  rw [show (msame m n) = (msame m' n') from propext e, show mgr gr m n = mgr gr m' n' from propext (mgr_congr h k), show mgr gr n m = mgr gr n' m' from propext (mgr_congr k h)]
/-- One more is greater. -/
theorem mgr_more {gr : α → α → Prop} (m : List α) (x : α) : mgr gr (m ++ [x]) m := by
  refine ⟨fun e => ?_, fun y hy => ?_⟩
  · have := e x
    rw [cnt_append] at this
    have h : 0 < cnt x [x] := cnt_pos.2 (by simp)
    omega
  · rw [cnt_append] at hy
    omega
end

section
variable {A α : Type} (κ : A → α)

open Classical in
/-- What is left of both behind taking away what both have. -/
noncomputable def aprt : List A → List A → List A × List A
  | [], n => ([], n)
  | a :: m, n => match n.findIdx? (fun b => decide (κ a = κ b)) with
    | none => (a :: (aprt m n).1, (aprt m n).2)
    | some k => aprt m (n.eraseIdx k)

theorem map_eraseIdx : ∀ (n : List A) (k : Nat), (n.eraseIdx k).map κ = (n.map κ).eraseIdx k
  | [], k => by simp
  | a :: r, 0 => by simp
  | a :: r, k + 1 => by simp [map_eraseIdx r k]
theorem aprt_cnt (x : α) : ∀ (m n : List A), cnt x ((aprt κ m n).1.map κ) = cnt x (m.map κ) - cnt x (n.map κ) ∧ cnt x ((aprt κ m n).2.map κ) = cnt x (n.map κ) - cnt x (m.map κ)
  | [], n => by simp [aprt, cnt]
  | a :: m, n => by
    unfold aprt
    split
    · rename_i h
      obtain ⟨h1, h2⟩ := aprt_cnt x m n
      have hz : κ a = x → cnt x (n.map κ) = 0 := fun e => by
        rw [cnt_none, List.mem_map]
        rintro ⟨b, hb, hk⟩
        have := List.findIdx?_eq_none_iff.1 h b hb
        simp only [decide_eq_false_iff_not] at this
        exact this (e.trans hk.symm)
      simp only [List.map_cons, cnt, h1, h2]
      by_cases e : κ a = x
      · have := hz e
        rw [if_pos e]; omega
      · rw [if_neg e]; omega
    · rename_i k h
      obtain ⟨hk, he, _⟩ := List.findIdx?_eq_some_iff_getElem.1 h
      obtain ⟨h1, h2⟩ := aprt_cnt x m (n.eraseIdx k)
      have hi := cnt_idx (x := x) (n.map κ) k (by simpa using hk)
      have hmp : (n.eraseIdx k).map κ = (n.map κ).eraseIdx k := map_eraseIdx κ n k
      rw [hmp] at h1 h2
      have he : κ a = κ n[k] := by simpa using he
      simp only [List.getElem_map, ← he] at hi
      simp only [List.map_cons, cnt, h1, h2] at hi ⊢
      omega

open Classical in
/-- What is left behind a thing where adjacent ones that are the same stand once. -/
noncomputable def cgo : A → List A → List A
  | _, [] => []
  | p, b :: r => if κ b = κ p then cgo b r else b :: cgo b r
/-- Adjacent ones that are the same stand once. -/
noncomputable def cmpt : List A → List A
  | [] => []
  | a :: r => a :: cgo κ a r
theorem cgo_mem (x : α) : ∀ (r : List A) (p : A), x ∈ (p :: cgo κ p r).map κ ↔ x ∈ (p :: r).map κ
  | [], p => by simp [cgo]
  | b :: r, p => by
    have ih := cgo_mem x r b
    simp only [List.map_cons, List.mem_cons] at ih ⊢
    unfold cgo
    by_cases h : κ b = κ p
    · rw [if_pos h, ← ih, h]
      exact ⟨fun k => .inr k, fun k => k.elim .inl id⟩
    · rw [if_neg h, List.map_cons, List.mem_cons, ← ih]
theorem cmpt_mem (x : α) (l : List A) : x ∈ (cmpt κ l).map κ ↔ x ∈ l.map κ := by
  cases l with
  | nil => rfl
  | cons a r => exact cgo_mem κ x r a
theorem cmpt_nil (l : List A) : cmpt κ l = [] ↔ l = [] := by cases l <;> simp [cmpt]
theorem cgo_sub : ∀ (r : List A) (p : A), ∀ y ∈ cgo κ p r, y ∈ r
  | [], p => by simp [cgo]
  | b :: r, p => fun y hy => by
    have ih := cgo_sub r b
    unfold cgo at hy
    split at hy
    · exact List.mem_cons_of_mem _ (ih y hy)
    · rcases List.mem_cons.1 hy with rfl | hy
      · simp
      · exact List.mem_cons_of_mem _ (ih y hy)
theorem cmpt_sub (l : List A) : ∀ y ∈ cmpt κ l, y ∈ l := by
  cases l with
  | nil => simp [cmpt]
  | cons a r =>
    intro y hy
    rcases List.mem_cons.1 hy with rfl | hy
    · simp
    · exact List.mem_cons_of_mem _ (cgo_sub κ r a y hy)
theorem aprt_sub : ∀ (m n : List A), (∀ y ∈ (aprt κ m n).1, y ∈ m) ∧ ∀ y ∈ (aprt κ m n).2, y ∈ n
  | [], n => by simp [aprt]
  | a :: m, n => by
    unfold aprt
    split
    · obtain ⟨h1, h2⟩ := aprt_sub m n
      refine ⟨fun y hy => ?_, h2⟩
      rcases List.mem_cons.1 hy with rfl | hy
      · simp
      · exact List.mem_cons_of_mem _ (h1 y hy)
    · obtain ⟨h1, h2⟩ := aprt_sub m (n.eraseIdx _)
      exact ⟨fun y hy => List.mem_cons_of_mem _ (h1 y hy), fun y hy => List.mem_of_mem_eraseIdx (h2 y hy)⟩

/-- Covered: each thing has one that is above it. -/
def cov (gr : α → α → Prop) (m n : List A) : Prop := ∀ b ∈ n, ∃ a ∈ m, gr (κ a) (κ b)
theorem cov_iff (gr : α → α → Prop) (m n : List A) : cov κ gr m n ↔ ∀ x ∈ n.map κ, ∃ y ∈ m.map κ, gr y x := by
  unfold cov
  simp only [List.mem_map]
  constructor
  · rintro h _ ⟨b, hb, rfl⟩
    obtain ⟨a, ha, hg⟩ := h b hb
    exact ⟨_, ⟨a, ha, rfl⟩, hg⟩
  · intro h b hb
    obtain ⟨_, ⟨a, ha, rfl⟩, hg⟩ := h _ ⟨b, hb, rfl⟩
    exact ⟨a, ha, hg⟩

/-- What is left tells which of both is greater. -/
theorem left_tells (gr : α → α → Prop) {m n x y : List A} (h1 : ∀ z, z ∈ x.map κ ↔ cnt z (n.map κ) < cnt z (m.map κ)) (h2 : ∀ z, z ∈ y.map κ ↔ cnt z (m.map κ) < cnt z (n.map κ)) :
    ((x = [] ∧ y = []) ↔ msame (m.map κ) (n.map κ)) ∧ (¬ (x = [] ∧ y = []) → (cov κ gr x y ↔ mgr gr (m.map κ) (n.map κ))) := by
  have e1 : (x = [] ∧ y = []) ↔ msame (m.map κ) (n.map κ) := by
    constructor
    · rintro ⟨rfl, rfl⟩ z
      have k1 := h1 z
      have k2 := h2 z
      simp at k1 k2
      omega
    · intro h
      have k1 : x.map κ = [] := List.eq_nil_iff_forall_not_mem.2 fun z hz => by
        have := (h1 z).1 hz
        have := h z
        omega
      have k2 : y.map κ = [] := List.eq_nil_iff_forall_not_mem.2 fun z hz => by
        have := (h2 z).1 hz
        have := h z
        omega
      exact ⟨by simpa using k1, by simpa using k2⟩
  refine ⟨e1, fun hne => ?_⟩
  rw [cov_iff]
  unfold mgr
  constructor
  · intro h
    refine ⟨fun q => hne (e1.2 q), fun z hz => ?_⟩
    obtain ⟨u, hu, hg⟩ := h z ((h2 z).2 hz)
    exact ⟨u, hg, (h1 u).1 hu⟩
  · rintro ⟨_, h⟩ z hz
    obtain ⟨u, hg, hu⟩ := h z ((h2 z).1 hz)
    exact ⟨u, (h1 u).2 hu, hg⟩
theorem left_apart (m n : List A) : (∀ z, z ∈ (cmpt κ (aprt κ m n).1).map κ ↔ cnt z (n.map κ) < cnt z (m.map κ)) ∧ ∀ z, z ∈ (cmpt κ (aprt κ m n).2).map κ ↔ cnt z (m.map κ) < cnt z (n.map κ) := by
  refine ⟨fun z => ?_, fun z => ?_⟩
  · rw [cmpt_mem, ← cnt_pos, (aprt_cnt κ z m n).1]; omega
  · rw [cmpt_mem, ← cnt_pos, (aprt_cnt κ z m n).2]; omega
end

end Go.Proofs.YtglphfhlpobgcaaGreat

/-
  The orders of terms, literals and clauses: mathematics.
-/
namespace Go.Proofs.YtglphfhlpobgcaaGreat
open Go.RowKit

/-- An order. -/
structure Od where
  path : Bool
  g : Sg

noncomputable def ocmp (o : Od) (x y : T) : Int := if o.path = true then lcmp o.g x y else ccmp o.g x y
/-- Greater, of terms. -/
def gT (o : Od) (x y : T) : Prop := ocmp o x y = 1

theorem lcmp_one {g : Sg} {x y : T} : lcmp g x y = 1 ↔ (g.Ok ∧ x.rightW = 0 ∧ y.rightW = 0) ∧ lg g x y := by
  unfold lcmp
  by_cases h : g.Ok ∧ x.rightW = 0 ∧ y.rightW = 0
  · rw [if_pos h, pcmp_gr]; exact ⟨fun k => ⟨h, k⟩, fun k => k.2⟩
  · rw [if_neg h]; exact ⟨fun k => by omega, fun k => absurd k.1 h⟩
theorem ccmp_one {g : Sg} {x y : T} : ccmp g x y = 1 ↔ (g.Ok ∧ x.rightW = 0 ∧ y.rightW = 0) ∧ gr g x y := by
  unfold ccmp
  by_cases h : g.Ok ∧ x.rightW = 0 ∧ y.rightW = 0
  · rw [if_pos h, kcmp_gr]; exact ⟨fun k => ⟨h, k⟩, fun k => k.2⟩
  · rw [if_neg h]; exact ⟨fun k => by omega, fun k => absurd k.1 h⟩
theorem gT_irr (o : Od) (x : T) : ¬ gT o x x := by
  unfold gT ocmp
  split
  · rw [lcmp_one]; exact fun h => lg_irrefl _ _ h.2
  · rw [ccmp_one]; exact fun h => gr_irrefl _ _ h.2
theorem gT_tr (o : Od) (x y z : T) : gT o x y → gT o y z → gT o x z := by
  unfold gT ocmp
  split
  · rw [lcmp_one, lcmp_one, lcmp_one]; exact fun h k => ⟨⟨h.1.1, h.1.2.1, k.1.2.2⟩, lg_trans h.2 k.2⟩
  · rw [ccmp_one, ccmp_one, ccmp_one]; exact fun h k => ⟨⟨h.1.1, h.1.2.1, k.1.2.2⟩, gr_trans _ _ _ _ h.2 k.2⟩

/-- A literal's sides. -/
def sds (x : Lt) : List T := if x.neg = true then [x.l, x.l, x.r, x.r] else [x.l, x.r]
/-- A literal as a multiset. -/
noncomputable def kap (x : Lt) : T → Nat := fun t => cnt t (sds x)
theorem kap_iff {x y : Lt} : kap x = kap y ↔ msame (sds x) (sds y) := ⟨fun h t => congrFun h t, fun h => funext h⟩
theorem lsame_kap {x y : Lt} : lsame x y = true ↔ kap x = kap y := by
  obtain ⟨n, a, b⟩ := x
  obtain ⟨m, c, d⟩ := y
  have hs : lsame ⟨n, a, b⟩ ⟨m, c, d⟩ = true ↔ n = m ∧ ((a = c ∧ b = d) ∨ (a = d ∧ b = c)) := by
    simp only [lsame, lsides, Bool.and_eq_true, Bool.or_eq_true, same_iff, beq_iff_eq]
  rw [hs, kap_iff]
  constructor
  · rintro ⟨rfl, ⟨rfl, rfl⟩ | ⟨rfl, rfl⟩⟩
    · exact msame_refl _
    · intro t
      cases n <;> simp only [sds, cnt, if_true, if_false, Bool.false_eq_true] <;> omega
  · intro h
    have ha := h a
    have hb := h b
    have hc := h c
    have hd := h d
    cases n <;> cases m <;> simp only [sds, cnt, if_true, if_false, Bool.false_eq_true] at ha hb hc hd
    all_goals (
      by_cases e1 : a = c <;> by_cases e2 : a = d <;> by_cases e3 : b = c <;> by_cases e4 : b = d <;> by_cases e5 : a = b <;> by_cases e6 : c = d
      all_goals (
        try have e1' : ¬ c = a := fun e => e1 e.symm
        try have e2' : ¬ d = a := fun e => e2 e.symm
        try have e3' : ¬ c = b := fun e => e3 e.symm
        try have e4' : ¬ d = b := fun e => e4 e.symm
        try have e5' : ¬ b = a := fun e => e5 e.symm
        try have e6' : ¬ d = c := fun e => e6 e.symm
        first
          | (simp_all; done)
          | (exfalso; simp_all; done)
          | (exfalso; simp_all; omega)))

/-- What comes of two literals. -/
noncomputable def lcm (o : Od) (x y : Lt) : Int := mcmp (gT o) (sds x) (sds y)
/-- Greater, of literals as multisets. -/
def gL (o : Od) (k1 k2 : T → Nat) : Prop := ∃ a b, kap a = k1 ∧ kap b = k2 ∧ mgr (gT o) (sds a) (sds b)
theorem gL_iff {o : Od} {x y : Lt} : gL o (kap x) (kap y) ↔ lcm o x y = 1 := by
  unfold lcm
  rw [mcmp_gr]
  constructor
  · rintro ⟨a, b, e1, e2, h⟩
    exact (mgr_congr (kap_iff.1 e1) (kap_iff.1 e2)).1 h
  · intro h
    exact ⟨x, y, rfl, rfl, h⟩
theorem gL_irr (o : Od) (k : T → Nat) : ¬ gL o k k := by
  rintro ⟨a, b, e1, e2, h⟩
  exact h.1 (kap_iff.1 (e1.trans e2.symm))
theorem gL_tr (o : Od) (k1 k2 k3 : T → Nat) : gL o k1 k2 → gL o k2 k3 → gL o k1 k3 := by
  rintro ⟨a, b, e1, e2, h⟩ ⟨c, d, e3, e4, k⟩
  exact ⟨a, d, e1, e4, mgr_trans (gT_irr o) (gT_tr o) h ((mgr_congr (kap_iff.1 (e3.trans e2.symm)) (msame_refl _)).1 k)⟩
/-- What comes of two clauses. -/
noncomputable def ccm (o : Od) (c d : List Lt) : Int := mcmp (gL o) (c.map kap) (d.map kap)

end Go.Proofs.YtglphfhlpobgcaaGreat
