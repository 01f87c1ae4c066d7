/-
  fitting: mathematics, sorting.
-/
import Derived.Test.YtiklbkkimmgbcaaGB
import Derived.Test.YtiklbkkimmgbcaaFQ
import Derived.Test.YtiklbkkimmgbcaaShelf
import Derived.Sort.OwnSortedInts
import Derived.Lib.OwnBridge
import Derived.Maps.Ext
namespace Go.Proofs.Ytiklbkkimmgbcaa
open Go.RowKit Go.Maps Go.Shelf Go.Sort

theorem sort_own (base : Nat) (v : Value) (k : Nat) (xs : List Int) (w : World) (h : w.ownsRow base 3 1 v k (xs.map (Value.int .i64))) (hk : k ≤ 1048576) :
    Calls Try.prog 62 #[v] w fun e w' => e = .returned (.tuple #[]) ∧ w'.ownsRow base 3 1 v k ((xs.mergeSort fun x y => decide (x ≤ y)).map (Value.int .i64)) ∧ w.grownBy w' v.ownBlock := by
  have hl : xs.length = k := by simpa using h.1
  subst hl
  rcases h.2 with ⟨rfl, h0⟩ | ⟨g, cap, cur, rfl, hb, hg, hn, hm, hs, ht⟩
  · have e : xs = [] := List.eq_nil_of_length_eq_zero h0
    subst e
    refine (Try.slices_Sort_int_none none 0 w).mono ?_
    rintro e w' ⟨he, rfl⟩
    exact ⟨he, by simpa using h, ⟨rfl, rfl, rfl, Nat.le_refl _, fun _ _ _ => rfl⟩⟩
  · have hlt : g < w.heap.size := (Array.getElem?_eq_some_iff.1 hg).1
    have hH : Holds (Value.int .i64) w g 0 xs.toArray := holds_of_blockI hg (by simpa using ht)
    refine (Try.slices_Sort_int g 0 cap xs w hH hlt (by omega)).mono ?_
    rintro e w' ⟨he, n, os, rfl⟩
    exact ⟨he, ownsRow_sortedI (List.length_mergeSort xs) hb hg hn hm hs, grownBy_sortedI _⟩

/-- Rising lists with the same numbers are one. -/
theorem rising_eq : ∀ {l m : List Int}, l.Pairwise (· < ·) → m.Pairwise (· < ·) → (∀ z, z ∈ l ↔ z ∈ m) → l = m
  | [], [], _, _, _ => rfl
  | [], b :: m, _, _, h => by have := (h b).2 (by simp); cases this
  | a :: l, [], _, _, h => by have := (h a).1 (by simp); cases this
  | a :: l, b :: m, hl, hm, h => by
    obtain ⟨h1, h2⟩ := List.pairwise_cons.1 hl
    obtain ⟨h3, h4⟩ := List.pairwise_cons.1 hm
    have e : a = b := by
      rcases List.mem_cons.1 ((h a).1 (by simp)) with e | e
      · exact e
      · rcases List.mem_cons.1 ((h b).2 (by simp)) with k | k
        · exact k.symm
        · have := h1 b k; have := h3 a e; omega
    subst e
    rw [rising_eq h2 h4 fun z => ?_]
    constructor
    · intro hz
      rcases List.mem_cons.1 ((h z).1 (by simp [hz])) with e | e
      · have := h1 z hz; omega
      · exact e
    · intro hz
      rcases List.mem_cons.1 ((h z).2 (by simp [hz])) with e | e
      · have := h3 z hz; omega
      · exact e
/-- The numbers that fit, rising. -/
def fitIds (L : List (Int × Fp)) (P : List Ft → Bool) : List Int := (L.filter (fun e => P e.2.list)).map (·.1)
def Rise (L : List (Int × Fp)) : Prop := (L.map (·.1)).Pairwise (· < ·)
theorem Rise.ids {L : List (Int × Fp)} (h : Rise L) : Ids L := List.Pairwise.imp (fun h => by omega) h
theorem fitIds_rise {L : List (Int × Fp)} (h : Rise L) (P : List Ft → Bool) : (fitIds L P).Pairwise (· < ·) := by
  unfold fitIds
  refine List.Pairwise.sublist ?_ h
  exact List.Sublist.map _ List.filter_sublist
theorem fitIds_mem {L : List (Int × Fp)} (h : Rise L) {P : List Ft → Bool} {z : Int} : z ∈ fitIds L P ↔ ∃ p, look L z = some p ∧ P p.list = true := by
  unfold fitIds
  simp only [List.mem_map, List.mem_filter]
  constructor
  · rintro ⟨⟨x, p⟩, ⟨h1, h2⟩, rfl⟩
    exact ⟨p, mem_look h.ids h1, h2⟩
  · rintro ⟨p, h1, h2⟩
    exact ⟨(z, p), ⟨look_mem h1, h2⟩, rfl⟩
theorem sorted_fit {L : List (Int × Fp)} (h : Rise L) {P : List Ft → Bool} {xs : List Int} (hn : xs.Nodup) (hm : ∀ z, z ∈ xs ↔ ∃ p, look L z = some p ∧ P p.list = true) : (xs.mergeSort fun x y => decide (x ≤ y)) = fitIds L P := by
  have hp : (xs.mergeSort fun x y => decide (x ≤ y)).Pairwise (fun a b => decide (a ≤ b) = true) :=
    List.pairwise_mergeSort (fun a b c h1 h2 => by simp at *; omega) (fun a b => by simp; omega) xs
  have hperm := List.mergeSort_perm xs (fun x y => decide (x ≤ y))
  have hnd : (xs.mergeSort fun x y => decide (x ≤ y)).Nodup := hperm.nodup_iff.2 hn
  refine rising_eq ?_ (fitIds_rise h P) (fun z => ?_)
  · have := hp.and hnd
    exact this.imp (fun ⟨h1, h2⟩ => by have := of_decide_eq_true h1; omega)
  · rw [hperm.mem_iff, hm, fitIds_mem h]

/-- The groups that have come. -/
structure Col (L : List (Int × Fp)) (P : List Ft → Bool) (left : Lit → Bool) (V : List Fp) (xs : List Int) : Prop where
  sub : ∀ p ∈ V, p ∈ fps L
  left : ∀ p ∈ fps L, ∀ kl, keyOf Try.prog 66 (kv p) = some kl → (p ∈ V ↔ left kl = false)
  nd : xs.Nodup
  mem : ∀ z, z ∈ xs ↔ ∃ p ∈ V, P p.list = true ∧ look L z = some p
theorem Col.step {L : List (Int × Fp)} {P : List Ft → Bool} {left : Lit → Bool} {V : List Fp} {xs : List Int} (h : Col L P left V xs) {p : Fp} (hp : p ∈ fps L) {kl : Lit} (hk : keyOf Try.prog 66 (kv p) = some kl) {ys : List Int} (hnd : ys.Nodup) (hm : ∀ z, z ∈ ys ↔ z ∈ xs ∨ (P p.list = true ∧ look L z = some p)) : Col L P (fun z => left z && !z.sameKey kl) (V ++ [p]) ys := by
  refine ⟨fun q hq => ?_, fun q hq kq hkq => ?_, hnd, fun z => ?_⟩
  · rcases List.mem_append.1 hq with hq | hq
    · exact h.sub q hq
    · have : q = p := by simpa using hq
      exact this ▸ hp
  · by_cases e : q = p
    · subst e
      rw [hk] at hkq
      cases hkq
      simp [WideAt.sameKey_self (keyed66.key hk)]
    · have hne : kq ≠ kl := fun e2 => e (kv_inj (keyed66.inj hkq (e2 ▸ hk)))
      have := h.left q hq kq hkq
      have hs : kq.sameKey kl = false := Maps.sameKey_ne hne
      simp [e, this, hs]
  · rw [hm, h.mem]
    constructor
    · rintro (⟨q, h1, h2⟩ | ⟨h1, h2⟩)
      · exact ⟨q, by simp [h1], h2⟩
      · exact ⟨p, by simp, h1, h2⟩
    · rintro ⟨q, h1, h2⟩
      rcases List.mem_append.1 h1 with h1 | h1
      · exact .inl ⟨q, h1, h2⟩
      · have : q = p := by simpa using h1
        subst this
        exact .inr h2
theorem Col.all {L : List (Int × Fp)} {P : List Ft → Bool} {left : Lit → Bool} {V : List Fp} {xs : List Int} (h : Col L P left V xs) (hok : ∀ e ∈ L, e.2.ok) (hl : ∀ kl, left kl = false) (z : Int) : z ∈ xs ↔ ∃ p, look L z = some p ∧ P p.list = true := by
  rw [h.mem]
  constructor
  · rintro ⟨p, _, h1, h2⟩; exact ⟨p, h2, h1⟩
  · rintro ⟨p, h1, h2⟩
    have hm := look_mem h1
    have hf : p ∈ fps L := List.mem_map.2 ⟨_, hm, rfl⟩
    obtain ⟨kl, hk⟩ := fp_key (hok _ hm)
    exact ⟨p, (h.left p hf kl hk).2 (hl kl), h2, h1⟩
/-- The numbers of a group that have come. -/
structure Cul (L : List (Int × Fp)) (p : Fp) (left : Lit → Bool) (U : List Int) : Prop where
  nd : U.Nodup
  sub : ∀ z ∈ U, look L z = some p
  left : ∀ z, look L z = some p → (z ∈ U ↔ left (.int .i64 z) = false)
theorem Cul.step {L : List (Int × Fp)} {p : Fp} {left : Lit → Bool} {U : List Int} (h : Cul L p left U) {z : Int} (hz : look L z = some p) (hl : left (.int .i64 z) = true) : Cul L p (fun k => left k && !k.sameKey (.int .i64 z)) (U ++ [z]) := by
  have hno : z ∉ U := fun hm => by rw [(h.left z hz).1 hm] at hl; cases hl
  refine ⟨?_, fun x hx => ?_, fun x hx => ?_⟩
  · rw [List.nodup_append]
    refine ⟨h.nd, by simp, fun x hx y hy => ?_⟩
    have : y = z := by simpa using hy
    subst this
    exact fun e => hno (e ▸ hx)
  · rcases List.mem_append.1 hx with hx | hx
    · exact h.sub x hx
    · have : x = z := by simpa using hx
      exact this ▸ hz
  · have := h.left x hx
    by_cases e : x = z
    · subst e
      simp [Lit.sameKey]
    · simp [Lit.sameKey, e, this]

end Go.Proofs.Ytiklbkkimmgbcaa
