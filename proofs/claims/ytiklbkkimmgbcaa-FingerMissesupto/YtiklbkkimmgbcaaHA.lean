/-
  Nodes that have to be one: plain mathematics. Where joining says yes the features fit.
-/
import Derived.Test.YtiklbkkimmgbcaaFE
namespace Go.Proofs.Ytiklbkkimmgbcaa
open Go.RowKit

/-- A node: a variable, or a function of nodes. -/
structure Nd where
  v : Int
  fn : ByteArray
  args : List Nat

/-- What has to be one: what is one, and the pairs that are still to be joined. -/
inductive Cl (ρ : Nat → Nat) (P : List (Nat × Nat)) : Nat → Nat → Prop
  | same {i j : Nat} (h : ρ i = ρ j) : Cl ρ P i j
  | pair {i j : Nat} (h : (i, j) ∈ P) : Cl ρ P i j
  | symm {i j : Nat} (h : Cl ρ P i j) : Cl ρ P j i
  | trans {i j k : Nat} (h : Cl ρ P i j) (h' : Cl ρ P j k) : Cl ρ P i k

theorem Cl.mono {ρ ρ' : Nat → Nat} {P P' : List (Nat × Nat)} (h1 : ∀ i j, ρ i = ρ j → Cl ρ' P' i j) (h2 : ∀ i j, (i, j) ∈ P → Cl ρ' P' i j) {i j : Nat} (h : Cl ρ P i j) : Cl ρ' P' i j := by
  induction h with
  | same h => exact h1 _ _ h
  | pair h => exact h2 _ _ h
  | symm _ ih => exact ih.symm
  | trans _ _ ih ih' => exact ih.trans ih'

theorem Cl.none {ρ : Nat → Nat} {i j : Nat} (h : Cl ρ [] i j) : ρ i = ρ j := by
  induction h with
  | same h => exact h
  | pair h => cases h
  | symm _ ih => exact ih.symm
  | trans _ _ ih ih' => exact ih.trans ih'

/-- Is node i a function? -/
def Fn (N : List Nd) (i : Nat) : Prop := ∃ d, N[i]? = some d ∧ d.fn.size ≠ 0

/-- Functions of one class fit. -/
def Jn (N : List Nd) (ρ : Nat → Nat) (P : List (Nat × Nat)) : Prop :=
  ∀ (i j : Nat) (di dj : Nd), N[i]? = some di → N[j]? = some dj → di.fn.size ≠ 0 → dj.fn.size ≠ 0 → ρ i = ρ j →
    di.fn = dj.fn ∧ di.args.length = dj.args.length ∧ ∀ (k a b : Nat), di.args[k]? = some a → dj.args[k]? = some b → Cl ρ P a b

/-- Tops. -/
structure Tp (N : List Nd) (ρ : Nat → Nat) : Prop where
  lt : ∀ i, i < N.length → ρ i < N.length
  idem : ∀ i, ρ (ρ i) = ρ i
  fn : ∀ i, Fn N i → Fn N (ρ i)

/-- Class b goes under a. -/
def lk (ρ : Nat → Nat) (b a : Nat) : Nat → Nat := fun i => if ρ i = b then a else ρ i

theorem lk_same {ρ : Nat → Nat} {b a i j : Nat} (h : ρ i = ρ j) : lk ρ b a i = lk ρ b a j := by unfold lk; rw [h]
theorem lk_pair {ρ : Nat → Nat} {b a p q : Nat} (hp : ρ p = a) (hq : ρ q = b) : lk ρ b a p = lk ρ b a q := by
  unfold lk
  rw [if_pos hq]
  split
  · rfl
  · exact hp

theorem lk_cases {ρ : Nat → Nat} {b a i j : Nat} (h : lk ρ b a i = lk ρ b a j) : ρ i = ρ j ∨ (ρ i = b ∧ ρ j = a) ∨ (ρ i = a ∧ ρ j = b) := by
  unfold lk at h
  split at h <;> split at h
  · rename_i h1 h2; exact .inl (h1.trans h2.symm)
  · rename_i h1 h2; exact .inr (.inl ⟨h1, h.symm⟩)
  · rename_i h1 h2; exact .inr (.inr ⟨h, h2⟩)
  · exact .inl h

theorem lk_top {N : List Nd} {ρ : Nat → Nat} (h : Tp N ρ) {b a : Nat} (ha : ρ a = a) (hla : a < N.length) (hf : Fn N b → Fn N a) : Tp N (lk ρ b a) := by
  refine ⟨fun i hi => ?_, fun i => ?_, fun i hi => ?_⟩
  · unfold lk
    split
    · exact hla
    · exact h.lt i hi
  · unfold lk
    by_cases h1 : ρ i = b
    · rw [if_pos h1]
      by_cases h2 : ρ a = b
      · rw [if_pos h2]
      · rw [if_neg h2, ha]
    · rw [if_neg h1, h.idem, if_neg h1]
  · have := h.fn i hi
    unfold lk
    split
    · rename_i e; rw [e] at this; exact hf this
    · exact this

/-- A class without functions goes under another one. -/
theorem Jn.var {N : List Nd} {ρ : Nat → Nat} {P : List (Nat × Nat)} (ht : Tp N ρ) {p q a b : Nat} (h : Jn N ρ ((p, q) :: P)) (hp : ρ p = a ∧ ρ q = b ∨ ρ p = b ∧ ρ q = a) (_ha : ρ a = a) (hb : ¬ Fn N b) : Jn N (lk ρ b a) P := by
  intro i j di dj hi hj hfi hfj hs
  have nb : ∀ {k : Nat} {d : Nd}, N[k]? = some d → d.fn.size ≠ 0 → ρ k ≠ b := fun hk hf e => hb (by have := ht.fn _ ⟨_, hk, hf⟩; rwa [e] at this)
  have hij : ρ i = ρ j := by
    rcases lk_cases hs with h1 | ⟨h1, _⟩ | ⟨_, h1⟩
    · exact h1
    · exact absurd h1 (nb hi hfi)
    · exact absurd h1 (nb hj hfj)
  obtain ⟨h1, h2, h3⟩ := h i j di dj hi hj hfi hfj hij
  refine ⟨h1, h2, fun k x y hx hy => (h3 k x y hx hy).mono (fun i j e => .same (lk_same e)) (fun i j hm => ?_)⟩
  rcases List.mem_cons.1 hm with e | hm
  · cases e
    rcases hp with ⟨h4, h5⟩ | ⟨h4, h5⟩
    · exact .same (lk_pair h4 h5)
    · exact (Cl.same (lk_pair h5 h4)).symm
  · exact .pair hm

/-- Two classes of functions that fit. -/
theorem Jn.fns {N : List Nd} {ρ : Nat → Nat} {P : List (Nat × Nat)} {p q a b : Nat} (h : Jn N ρ ((p, q) :: P)) (hp : ρ p = a) (hq : ρ q = b) (ha : ρ a = a) (hb : ρ b = b) {da db : Nd} (hda : N[a]? = some da) (hdb : N[b]? = some db) (hfa : da.fn.size ≠ 0) (hfb : db.fn.size ≠ 0) (hfn : da.fn = db.fn) (hlen : da.args.length = db.args.length) : Jn N (lk ρ b a) (da.args.zip db.args ++ P) := by
  have up : ∀ {x y : Nat}, Cl ρ ((p, q) :: P) x y → Cl (lk ρ b a) (da.args.zip db.args ++ P) x y := fun hc => hc.mono (fun i j e => .same (lk_same e)) (fun i j hm => by
    rcases List.mem_cons.1 hm with e | hm
    · cases e; exact .same (lk_pair hp hq)
    · exact .pair (List.mem_append_right _ hm))
  have zp : ∀ {k x y : Nat}, da.args[k]? = some x → db.args[k]? = some y → Cl (lk ρ b a) (da.args.zip db.args ++ P) x y := fun {k x y} hx hy => .pair (List.mem_append_left _ (List.mem_of_getElem? (i := k) (by rw [List.getElem?_zip_eq_some]; exact ⟨hx, hy⟩)))
  have one : ∀ (i j : Nat) (di dj : Nd), N[i]? = some di → N[j]? = some dj → di.fn.size ≠ 0 → dj.fn.size ≠ 0 → ρ i = b → ρ j = a → di.fn = dj.fn ∧ di.args.length = dj.args.length ∧ ∀ (k x y : Nat), di.args[k]? = some x → dj.args[k]? = some y → Cl (lk ρ b a) (da.args.zip db.args ++ P) x y := by
    intro i j di dj hi hj hfi hfj h1 h2
    obtain ⟨e1, e2, e3⟩ := h i b di db hi hdb hfi hfb (h1.trans hb.symm)
    obtain ⟨g1, g2, g3⟩ := h a j da dj hda hj hfa hfj (ha.trans h2.symm)
    refine ⟨e1.trans (hfn.symm.trans g1), by omega, fun k x y hx hy => ?_⟩
    have hk1 : k < di.args.length := (List.getElem?_eq_some_iff.1 hx).1
    have hkb : k < db.args.length := by omega
    have hka : k < da.args.length := by omega
    have hb' := List.getElem?_eq_getElem hkb
    have ha' := List.getElem?_eq_getElem hka
    exact ((up (e3 k x _ hx hb')).trans (zp ha' hb').symm).trans (up (g3 k _ y ha' hy))
  intro i j di dj hi hj hfi hfj hs
  rcases lk_cases hs with h1 | ⟨h1, h2⟩ | ⟨h1, h2⟩
  · obtain ⟨e1, e2, e3⟩ := h i j di dj hi hj hfi hfj h1
    exact ⟨e1, e2, fun k x y hx hy => up (e3 k x y hx hy)⟩
  · exact one i j di dj hi hj hfi hfj h1 h2
  · obtain ⟨e1, e2, e3⟩ := one j i dj di hj hi hfj hfi h2 h1
    exact ⟨e1.symm, e2.symm, fun k x y hx hy => (e3 k y x hy hx).symm⟩

/-- What is one already need not be joined. -/
theorem Jn.done {N : List Nd} {ρ : Nat → Nat} {P : List (Nat × Nat)} {p q : Nat} (h : Jn N ρ ((p, q) :: P)) (hs : ρ p = ρ q) : Jn N ρ P := by
  intro i j di dj hi hj hfi hfj hij
  obtain ⟨e1, e2, e3⟩ := h i j di dj hi hj hfi hfj hij
  refine ⟨e1, e2, fun k x y hx hy => (e3 k x y hx hy).mono (fun i j e => .same e) (fun i j hm => ?_)⟩
  rcases List.mem_cons.1 hm with e | hm
  · cases e; exact .same hs
  · exact .pair hm

/-- How many tops there are. -/
def tops (ρ : Nat → Nat) (n : Nat) : Nat := (List.range n).countP fun i => decide (ρ i = i)

theorem lk_tops {ρ : Nat → Nat} {n b a : Nat} (hb : ρ b = b) (hbn : b < n) (hne : a ≠ b) (ha : ρ a = a) : tops (lk ρ b a) n < tops ρ n := by
  have hle : ∀ i, lk ρ b a i = i → ρ i = i := fun i h => by
    unfold lk at h
    split at h
    · rw [← h, ha]
    · exact h
  have hno : lk ρ b a b ≠ b := by unfold lk; rw [if_pos hb]; exact hne
  unfold tops
  have : ∀ (l : List Nat), b ∈ l → l.countP (fun i => decide (lk ρ b a i = i)) < l.countP (fun i => decide (ρ i = i)) := by
    intro l
    induction l with
    | nil => intro h; cases h
    | cons x r ih =>
      intro hm
      have mono : r.countP (fun i => decide (lk ρ b a i = i)) ≤ r.countP (fun i => decide (ρ i = i)) := List.countP_mono_left fun i _ h => decide_eq_true (hle i (of_decide_eq_true h))
      rw [List.countP_cons, List.countP_cons]
      rcases List.mem_cons.1 hm with rfl | hm
      · rw [if_neg (by simpa using hno), if_pos (by simpa using hb)]
        omega
      · have := ih hm
        by_cases h1 : lk ρ b a x = x
        · rw [if_pos (by simpa using h1), if_pos (by simpa using hle x h1)]
          omega
        · rw [if_neg (by simpa using h1)]
          omega
  exact this _ (List.mem_range.2 hbn)

/-- Node i stands for term t. -/
inductive Rep (N : List Nd) : Nat → T → Prop
  | mk (i : Nat) (t : T) (d : Nd) (h : N[i]? = some d) (hf : d.fn = t.fn) (hl : t.fn.size ≠ 0 → d.args.length = t.args.length)
      (ha : t.fn.size ≠ 0 → ∀ (k a : Nat) (x : T), d.args[k]? = some a → t.args[k]? = some x → Rep N a x) : Rep N i t

theorem feat_known : ∀ (pl : List Nat) (t : T), knownB (feat t pl) = true
  | [], t => by
    unfold feat
    split <;> simp [knownB]
  | k :: ks, t => by
    unfold feat
    split
    · simp [knownB]
    · split
      · exact feat_known ks _
      · simp [knownB]

theorem feat_kind : ∀ (pl : List Nat) (t : T), 1 ≤ (feat t pl).kind ∧ (feat t pl).kind ≤ 4
  | [], t => by
    unfold feat
    split <;> simp
  | k :: ks, t => by
    unfold feat
    split
    · simp
    · split
      · exact feat_kind ks _
      · simp

theorem uni_three {a b : Ft} (ha : knownB a = true) (hb : knownB b = true) (h : a.kind = 3 ∨ b.kind = 3) : uniB a b = true := by
  unfold uniB
  rw [if_pos ⟨ha, hb⟩, if_pos h]

theorem rep_fits {N : List Nd} {ρ : Nat → Nat} (h : Jn N ρ []) : ∀ (pl : List Nat) (i j : Nat) (s t : T), Rep N i s → Rep N j t → ρ i = ρ j → uniB (feat s pl) (feat t pl) = true := by
  intro pl
  induction pl with
  | nil =>
    intro i j s t hi hj hs
    obtain ⟨_, _, di, hdi, hfi, hli, _⟩ := hi
    obtain ⟨_, _, dj, hdj, hfj, hlj, _⟩ := hj
    by_cases h1 : s.fn.size = 0
    · by_cases h2 : t.fn.size = 0
      · simp [feat, h1, h2, uniB, knownB]
      · simp [feat, h1, h2, uniB, knownB]
    · by_cases h2 : t.fn.size = 0
      · simp [feat, h1, h2, uniB, knownB]
      · obtain ⟨e1, e2, _⟩ := h i j di dj hdi hdj (by rw [hfi]; exact h1) (by rw [hfj]; exact h2) hs
        have f1 : s.fn = t.fn := by rw [← hfi, ← hfj]; exact e1
        have f2 : s.args.length = t.args.length := by rw [← hli h1, ← hlj h2]; exact e2
        have : feat s [] = feat t [] := by simp only [feat]; rw [f1, f2]
        rw [this]
        unfold uniB
        rw [if_pos ⟨feat_known _ _, feat_known _ _⟩]
        simp [feat, h2, fteq]
  | cons k ks ih =>
    intro i j s t hi hj hs
    obtain ⟨_, _, di, hdi, hfi, hli, hai⟩ := hi
    obtain ⟨_, _, dj, hdj, hfj, hlj, haj⟩ := hj
    by_cases h1 : s.fn.size = 0
    · exact uni_three (feat_known _ _) (feat_known _ _) (.inl (by simp [feat, h1]))
    · by_cases h2 : t.fn.size = 0
      · exact uni_three (feat_known _ _) (feat_known _ _) (.inr (by simp [feat, h2]))
      · obtain ⟨e1, e2, e3⟩ := h i j di dj hdi hdj (by rw [hfi]; exact h1) (by rw [hfj]; exact h2) hs
        have f2 : s.args.length = t.args.length := by rw [← hli h1, ← hlj h2]; exact e2
        by_cases hk : k < s.args.length
        · have hk' : k < t.args.length := by omega
          have g1 : feat s (k :: ks) = feat s.args[k] ks := by simp [feat, h1, hk]
          have g2 : feat t (k :: ks) = feat t.args[k] ks := by simp [feat, h2, hk']
          rw [g1, g2]
          have kd : k < di.args.length := by rw [hli h1]; exact hk
          have kd' : k < dj.args.length := by rw [hlj h2]; exact hk'
          exact ih _ _ _ _ (hai h1 k _ _ (List.getElem?_eq_getElem kd) (List.getElem?_eq_getElem hk)) (haj h2 k _ _ (List.getElem?_eq_getElem kd') (List.getElem?_eq_getElem hk')) (e3 k _ _ (List.getElem?_eq_getElem kd) (List.getElem?_eq_getElem kd')).none
        · have hk' : ¬ k < t.args.length := by omega
          simp [feat, h1, h2, hk, hk', uniB, knownB]

end Go.Proofs.Ytiklbkkimmgbcaa
