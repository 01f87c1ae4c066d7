/-
  Rows of binds that are sorted: the worlds.
-/
import Derived.Test.YthinbkpjggihdaaSQ
import Derived.Shelf.SlSortCmp.InsertionK
namespace Go.Proofs.Ythinbkpjggihdaa
open Go.RowKit Go.Maps Go.Sort

/-- A bind, and where its term's arguments lie. -/
abbrev BE := Bd × Option Addr × Nat × Nat
def beVal (x : BE) : Bd × Value := (x.1, .slice x.2.1 x.2.2.1 x.2.2.2)
/-- Its four cells. -/
def encB (x : BE) : List Value := [.int .i64 x.1.1, .int .i64 x.1.2.v, .string x.1.2.fn, .slice x.2.1 x.2.2.1 x.2.2.2]

theorem flat_enc (es : List BE) : flatB (es.map beVal) = es.flatMap encB := by
  unfold flatB
  rw [List.flatMap_map]
  rfl

theorem es_of : ∀ (ps : List (Bd × Value)), (∀ p ∈ ps, ∃ a n c, p.2 = .slice a n c) → ∃ es : List BE, ps = es.map beVal
  | [], _ => ⟨[], rfl⟩
  | p :: r, h => by
    obtain ⟨es, he⟩ := es_of r fun q hq => h q (List.mem_cons_of_mem _ hq)
    obtain ⟨a, n, c, hp⟩ := h p List.mem_cons_self
    refine ⟨(p.1, a, n, c) :: es, ?_⟩
    rw [List.map_cons, ← he]
    congr 1
    exact Prod.ext rfl hp

variable [Inhabited BE]
theorem flatK_enc (d : Array BE) : flatK encB 4 d = (flatB (d.toList.map beVal)).toArray := by
  refine ext_get! (by simp [flatB_len]) fun t ht => ?_
  have ht' : t < d.size * 4 := by simpa using ht
  rw [get_flatK encB 4 d t ht']
  have hi : t / 4 < d.size := by omega
  obtain ⟨f0, f1, f2, f3⟩ := flatB_get (d.toList.map beVal) (t / 4) (by simpa using hi)
  have hx : (d.toList.map beVal)[t / 4]'(by simpa using hi) = beVal d[t / 4]! := by simp [hi]
  rw [hx] at f0 f1 f2 f3
  obtain ⟨x, hd⟩ : ∃ x, d[t / 4]! = x := ⟨_, rfl⟩
  rw [hd] at f0 f1 f2 f3 ⊢
  have hg : ∀ v, (flatB (d.toList.map beVal))[t]? = some v → (flatB (d.toList.map beVal)).toArray[t]! = v := fun v h => by simp [Array.getElem!_eq_getD, Array.getD_eq_getD_getElem?, h]
  have hr : t = t / 4 * 4 ∧ t % 4 = 0 ∨ t = t / 4 * 4 + 1 ∧ t % 4 = 1 ∨ t = t / 4 * 4 + 2 ∧ t % 4 = 2 ∨ t = t / 4 * 4 + 3 ∧ t % 4 = 3 := by omega
  rcases hr with ⟨h1, h2⟩ | ⟨h1, h2⟩ | ⟨h1, h2⟩ | ⟨h1, h2⟩
  · rw [← h1] at f0; rw [hg _ f0, h2]; rfl
  · rw [← h1] at f1; rw [hg _ f1, h2]; rfl
  · rw [← h1] at f2; rw [hg _ f2, h2]; rfl
  · rw [← h1] at f3; rw [hg _ f3, h2]; rfl

theorem row_holds {W : World} {base g cap n : Nat} {d : Array BE} (h : W.ownsRow base 35 4 (.slice (some ⟨g, 0, none⟩) n cap) n (flatB (d.toList.map beVal))) : HoldsK encB 4 W g 0 d ∧ g < W.heap.size := by
  have hc := h.cells rfl
  rcases h.2 with ⟨e, _⟩ | ⟨g', cap', cur, e, hb, hg, hn, hm, hsz, ht⟩
  · cases e
  · cases e
    refine ⟨fun j hj => ?_, (Array.getElem?_eq_some_iff.1 hg).1⟩
    rw [flatK_enc] at hj ⊢
    have hj' : j < (flatB (d.toList.map beVal)).length := by simpa using hj
    have h1 := hc j _ (List.getElem?_eq_getElem hj')
    have ea : (⟨g, 0, none⟩ : Addr).add j = ⟨g, j, none⟩ := by unfold Addr.add; split <;> simp_all
    rw [ea] at h1
    rw [Nat.zero_add]
    refine ⟨?_, by simp [World.frozen?, hg]⟩
    rw [h1]
    simp [hj']

theorem sort_row {W : World} {base g cap n : Nat} {d d' : Array BE} (h : W.ownsRow base 35 4 (.slice (some ⟨g, 0, none⟩) n cap) n (flatB (d.toList.map beVal))) (hs : d'.size = d.size) (m : Nat) (os : Array Obj) :
    (sortWorldK encB 4 W g 0 m d' os).ownsRow base 35 4 (.slice (some ⟨g, 0, none⟩) n cap) n (flatB (d'.toList.map beVal)) ∧ W.grownBy (sortWorldK encB 4 W g 0 m d' os) (some g) := by
  have hlen : (flatB (d.toList.map beVal)).length = n * 4 := h.1
  have hlen' : (flatB (d'.toList.map beVal)).length = n * 4 := by rw [flatB_len] at hlen ⊢; simp at hlen ⊢; omega
  rcases h.2 with ⟨e, _⟩ | ⟨g', cap', cur, e, hb, hg, hn, hm, hsz, ht⟩
  · cases e
  · cases e
    have hlt : g < W.heap.size := (Array.getElem?_eq_some_iff.1 hg).1
    have hsz2 : (putRowK encB 4 (Sort.ahead W m) g 0 d').heap.size = W.heap.size := by unfold putRowK putRow mapBlock; simp [Sort.ahead]
    have hk : ∀ k, k < W.heap.size → (sortWorldK encB 4 W g 0 m d' os).heap[k]? = (putRowK encB 4 (Sort.ahead W m) g 0 d').heap[k]? := fun k hk => by
      unfold sortWorldK grow
      exact Array.getElem?_append_left (by rw [hsz2]; exact hk)
    have ho : ∀ k, k < W.heap.size → k ≠ g → (sortWorldK encB 4 W g 0 m d' os).heap[k]? = W.heap[k]? := fun k h1 h2 => by
      rw [hk k h1]
      unfold putRowK putRow mapBlock
      simp only [Array.getElem?_modify]
      rw [if_neg (Ne.symm h2)]
      rfl
    have hgg : (sortWorldK encB 4 W g 0 m d' os).heap[g]? = some (.cells (putCells id 0 (flatK encB 4 d') cur) 35 (0, 0)) := by
      rw [hk g hlt]
      unfold putRowK putRow mapBlock
      simp only [Array.getElem?_modify, if_true]
      have : (Sort.ahead W m).heap[g]? = W.heap[g]? := rfl
      rw [this, hg]
      rfl
    refine ⟨⟨hlen', .inr ⟨g, cap, _, rfl, hb, hgg, hn, hm, by unfold putCells; simp [hsz], ?_⟩⟩, ⟨rfl, rfl, rfl, ?_, fun k h1 h2 => ho k h1 (fun e => h2 (by rw [e]))⟩⟩
    · have hn4 : n * 4 ≤ cur.size := by rw [hsz]; omega
      refine List.ext_getElem? fun k => ?_
      by_cases hk4 : k < n * 4
      · rw [List.getElem?_take, if_pos hk4, flatK_enc]
        unfold putCells
        have hz : k < 0 + (flatB (d'.toList.map beVal)).length := by omega
        simp only [Array.getElem?_toList, Array.getElem?_mapIdx, List.size_toArray, Nat.zero_le, true_and, hz, if_true, Nat.sub_zero]
        rw [Array.getElem?_eq_getElem (by omega), Option.map_some, List.getElem?_eq_getElem (by omega)]
        simp [show k < (flatB (d'.toList.map beVal)).length by omega]
      · rw [List.getElem?_eq_none (by simp; omega), List.getElem?_eq_none (by omega)]
    · unfold sortWorldK grow
      show W.heap.size ≤ ((putRowK encB 4 (Sort.ahead W m) g 0 d').heap ++ os).size
      rw [Array.size_append, hsz2]
      omega

end Go.Proofs.Ythinbkpjggihdaa
