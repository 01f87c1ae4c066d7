/-
  What is joined, sorted.
-/
import Derived.Test.YthinbkpjggihdaaTH
import Derived.Test.YthinbkpjggihdaaTF
namespace Go.Proofs.Ythinbkpjggihdaa
open Go.RowKit Go.Maps

theorem rising_iff {l : List Bd} : Rising l ↔ l.Pairwise fun a b => a.1 < b.1 := by
  rw [List.pairwise_iff_getElem]
  constructor
  · intro h i j hi hj hij
    exact h i j hj hij
  · intro h i j hj hij
    exact h i j (by omega) hj hij

theorem joined_apart {s r : List Bd} (hs : IsSub s) (hr : IsSub r) : (joined s r).Pairwise fun a b => a.1 ≠ b.1 := by
  unfold joined
  have h1 := rising_iff.1 hs.rising
  have h2 := rising_iff.1 hr.rising
  refine List.pairwise_append.2 ⟨?_, ?_, ?_⟩
  · rw [List.pairwise_map]
    exact (h1.filter _).imp fun {a b} h => Int.ne_of_lt h
  · rw [List.pairwise_map]
    exact (h2.filter _).imp fun {a b} h => Int.ne_of_lt h
  · intro a ha b hb e
    obtain ⟨x, hx, rfl⟩ := List.mem_map.1 ha
    obtain ⟨y, hy, rfl⟩ := List.mem_map.1 hb
    have hb : boundB s y.1 = true := bound_iff.2 ⟨x, (List.mem_filter.1 hx).1, e⟩
    have := (List.mem_filter.1 hy).2
    rw [hb] at this
    cases this

theorem rising_of_perm {c l : List Bd} (hp : c.Perm l) (hl : l.Pairwise fun a b => a.1 ≠ b.1) (hs : ∀ i j (hj : j < c.length) (hij : i < j), c[i].1 ≤ c[j].1) : Rising c := by
  have h := (hp.pairwise_iff (R := fun a b : Bd => a.1 ≠ b.1) (fun h => Ne.symm h)).2 hl
  rw [List.pairwise_iff_getElem] at h
  intro i j hj hij
  have h1 := h i j (by omega) hj hij
  have h2 := hs i j hj hij
  omega

/-- rising, at a row that was joined. -/
theorem joined_sort {w W8 W9 : World} {gA gB n1 n2 : Nat} {l1 l2 : List Bd} {v9 : Value} {ps1 ps2 : List (Bd × Value)} (e1 : ps1.map (·.1) = l1) (e2 : ps2.map (·.1) = l2) (a1 : ∀ p ∈ ps1, ArgsFr (gA + 1) W8 p.2 p.1.2.args) (a2 : ∀ p ∈ ps2, ArgsFr (gB + 1) W8 p.2 p.1.2.args) (hg : gA ≤ gB) (hn : n1 + n2 ≤ 8000)
    (hgw : w.heap.size ≤ gA) (hbel : Below w.heap.size w W8)
    (hown : W9.ownsRow w.heap.size 35 4 v9 (n1 + n2) (flatB ps1 ++ flatB ps2)) (hgr : W8.grownBy W9 (some gA)) (hob : v9.ownBlock = some gA ∨ v9.ownBlock = some W8.heap.size) :
    Calls Try.prog 37 #[v9] W9 fun e W' => e = .returned v9 ∧ ∃ c : List Bd, c.Perm (l1 ++ l2) ∧ (∀ i j (hj : j < c.length) (hij : i < j), c[i].1 ≤ c[j].1) ∧ BindsAt W' v9 c ∧ Below w.heap.size w W' := by
  have hall : ∀ p ∈ ps1 ++ ps2, ArgsFr (gA + 1) W8 p.2 p.1.2.args := fun p hp => by
    rcases List.mem_append.1 hp with hp | hp
    · exact a1 p hp
    · exact (a2 p hp).low (by omega)
  obtain ⟨es, hes⟩ := es_of (ps1 ++ ps2) fun p hp => by
    obtain ⟨a, c, h⟩ := (hall p hp).slice
    exact ⟨a, _, c, h⟩
  have hown' : W9.ownsRow w.heap.size 35 4 v9 (n1 + n2) (flatB (es.map beVal)) := by rw [← hes, flatB_append]; exact hown
  refine (rising_own es v9 (n1 + n2) w.heap.size W9 hown' hn).mono fun e W' ⟨he, es', hp, hso, hr, hg9⟩ => ⟨he, es'.map (·.1), ?_, ?_, ?_, ?_⟩
  · have h3 : es.map (·.1) = l1 ++ l2 := by
      rw [← e1, ← e2, ← List.map_append, hes, List.map_map]
      rfl
    rw [← h3]
    exact hp.map _
  · intro i j hj hij
    have := hso i j (by simpa using hj) hij
    simpa using this
  · have hk : ∀ k, gA + 1 ≤ k → k < W8.heap.size → W'.heap[k]? = W8.heap[k]? := fun k h1 h2 => by
      rw [hg9.block k (Nat.lt_of_lt_of_le h2 hgr.size) (fun e => by
        rcases hob with h | h <;> rw [h] at e <;> have := Option.some.inj e <;> omega)]
      exact hgr.block k h2 (fun e => by have := Option.some.inj e; omega)
    have hlen : (es'.map beVal).length = n1 + n2 := by have := hr.1; rw [flatB_len] at this; omega
    have hb := binds_of_row (ps := es'.map beVal) (by rw [hlen]; exact hr) (fun p hp' => by
      obtain ⟨x, hx, rfl⟩ := List.mem_map.1 hp'
      have hx' : beVal x ∈ ps1 ++ ps2 := by rw [hes]; exact List.mem_map.2 ⟨x, hp.mem_iff.1 hx, rfl⟩
      exact ((hall _ hx').keep (Nat.le_trans hgr.size hg9.size) (fun k h1 h2 => hk k h1 h2)).args)
    rw [List.map_map] at hb
    exact hb
  · refine hbel.trans ⟨by rw [hg9.os, hgr.os], by rw [hg9.tape, hgr.tape], by rw [hg9.output, hgr.output], Nat.le_trans hgr.size hg9.size, fun k hk => ?_⟩
    have h8 := hbel.size
    rw [hg9.block k (by have := hgr.size; omega) (fun e => by
      rcases hob with h | h <;> rw [h] at e <;> have := Option.some.inj e <;> omega)]
    exact hgr.block k (by omega) (fun e => by have := Option.some.inj e; omega)

end Go.Proofs.Ythinbkpjggihdaa
