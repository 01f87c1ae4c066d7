/-
  The bank behind one use less, and kept once less.
-/
import Derived.Test.YtbbfpllffcfmhaaWD
namespace Go.Proofs.Ytbbfpllffcfmhaa
open Go.RowKit Go.Maps

def decL (i : Int) (l : List (Ent × Nat)) : List (Ent × Nat) := l.map fun x => (decE i x.1, x.2)
theorem decL_blk (i : Int) (l : List (Ent × Nat)) : (decL i l).map (·.2) = l.map (·.2) := by simp [decL, Function.comp_def]
theorem decL_ents (i : Int) (l : List (Ent × Nat)) : (decL i l).map (·.1) = (l.map (·.1)).map (decE i) := by simp [decL, Function.comp_def]

theorem recMap_dec (i : Int) (l : List (Ent × Nat)) : recMap (decL i l) = recMap l := by
  classical
  funext key
  unfold recMap decL
  induction l with
  | nil => rfl
  | cons x l ih =>
    simp only [List.map_cons, List.find?_cons, decE_id]
    by_cases hk : Value.int .i64 x.1.id = key
    · simp [hk]
    · simpa [hk] using ih

theorem numMap_dec (i : Int) (es : List Ent) : numMap (es.map (decE i)) = numMap es := by
  classical
  funext key
  unfold numMap
  induction es with
  | nil => rfl
  | cons x l ih =>
    simp only [List.map_cons, List.find?_cons, decE_nd]
    by_cases hk : x.nd.val = key
    · simp [hk, decE_id]
    · simpa [hk] using ih

theorem bank_dec {n0 Ba : Nat} {B : List Nat} {limit : Int} {es : List Ent} {free : List Int} {W : World} {bn br : Nat} {fv : Value} {l : List (Ent × Nat)} (h : BankAt n0 Ba B limit es free W bn br fv l) (i : Int) (x : Ent × Nat) (hx : x ∈ l) (hi : x.1.id = i) (hone : ∀ y ∈ l, y.1.id = i → y = x) :
    BankAt n0 Ba B limit (es.map (decE i)) free (W.setCell ⟨x.2, 20, none⟩ (.int .i64 (wrap64 (x.1.uses - 1)))) bn br fv (decL i l) := by
  obtain ⟨m1, m2, m3⟩ := h.maps
  obtain ⟨n1, n2⟩ := h.rec_ne x hx
  have hg := World.grownBy_setCell_any W x.2 20 (.int .i64 (wrap64 (x.1.uses - 1)))
  have hth := h.there
  have hk : ∀ r ∈ B, r ≠ x.2 → (W.setCell ⟨x.2, 20, none⟩ (.int .i64 (wrap64 (x.1.uses - 1)))).heap[r]? = W.heap[r]? := fun r hr h1 => hg.block r (hth r hr) (fun e => h1 (Option.some.inj e))
  have hmine := h.mine
  have hB : ∀ {r}, r = Ba ∨ r = bn ∨ r = br ∨ fv.ownBlock = some r ∨ (∃ x ∈ l, x.2 = r) → r ∈ B := fun {r} hr => by
    rw [hmine]
    simp only [List.mem_cons, List.mem_append, Option.mem_toList, List.mem_map]
    exact hr
  refine { ents := by rw [decL_ents, h.ents], head := (hk Ba (hB (.inl rfl)) (Ne.symm n1)).trans h.head, nums := ?_, recs := ?_, each := ?_, row := row_keep h.row (fun g hg' => hk g (hB (.inr (.inr (.inr (.inl hg'))))) (fun e => n2 (e ▸ hg'))), apart := h.apart, blks := by rw [decL_blk]; exact h.blks, mine := by rw [decL_blk]; exact hmine, low := h.low }
  · rw [numMap_dec, List.length_map]
    exact h.nums.same (hk bn (hB (.inr (.inl rfl))) (Ne.symm (m3 x hx).1))
  · rw [recMap_dec, List.length_map]
    exact h.recs.same (hk br (hB (.inr (.inr (.inl rfl)))) (Ne.symm (m3 x hx).2))
  · intro y hy
    obtain ⟨z, hz, rfl⟩ := List.mem_map.1 hy
    by_cases e : z.1.id = i
    · cases hone z hz e
      have := set_rec (i := 20) (v := .int .i64 (wrap64 (x.1.uses - 1))) (h.each x hx)
      rw [Ent.cells_set] at this
      simp only [decE, if_pos e]
      exact this
    · simp only [decE, if_neg e]
      refine (hk z.2 (hB (.inr (.inr (.inr (.inr ⟨z, hz, rfl⟩))))) (fun e' => e ?_)).trans (h.each z hz)
      have : z = x := inj_of_nodup h.blks hz hx e'
      rw [this, hi]


def unkE (i : Int) (e : Ent) : Ent := if e.id = i then { e with kept := wrap64 (e.kept - 1) } else e
theorem unkE_id (i : Int) (e : Ent) : (unkE i e).id = e.id := by unfold unkE; split <;> rfl
theorem unkE_nd (i : Int) (e : Ent) : (unkE i e).nd = e.nd := by unfold unkE; split <;> rfl
def unkL (i : Int) (l : List (Ent × Nat)) : List (Ent × Nat) := l.map fun x => (unkE i x.1, x.2)
theorem unkL_blk (i : Int) (l : List (Ent × Nat)) : (unkL i l).map (·.2) = l.map (·.2) := by simp [unkL, Function.comp_def]
theorem unkL_ents (i : Int) (l : List (Ent × Nat)) : (unkL i l).map (·.1) = (l.map (·.1)).map (unkE i) := by simp [unkL, Function.comp_def]

theorem recMap_unk (i : Int) (l : List (Ent × Nat)) : recMap (unkL i l) = recMap l := by
  classical
  funext key
  unfold recMap unkL
  induction l with
  | nil => rfl
  | cons x l ih =>
    simp only [List.map_cons, List.find?_cons, unkE_id]
    by_cases hk : Value.int .i64 x.1.id = key
    · simp [hk]
    · simpa [hk] using ih

theorem numMap_unk (i : Int) (es : List Ent) : numMap (es.map (unkE i)) = numMap es := by
  classical
  funext key
  unfold numMap
  induction es with
  | nil => rfl
  | cons x l ih =>
    simp only [List.map_cons, List.find?_cons, unkE_nd]
    by_cases hk : x.nd.val = key
    · simp [hk, unkE_id]
    · simpa [hk] using ih

theorem bank_unk {n0 Ba : Nat} {B : List Nat} {limit : Int} {es : List Ent} {free : List Int} {W : World} {bn br : Nat} {fv : Value} {l : List (Ent × Nat)} (h : BankAt n0 Ba B limit es free W bn br fv l) (i : Int) (x : Ent × Nat) (hx : x ∈ l) (hi : x.1.id = i) (hone : ∀ y ∈ l, y.1.id = i → y = x) :
    BankAt n0 Ba B limit (es.map (unkE i)) free (W.setCell ⟨x.2, 19, none⟩ (.int .i64 (wrap64 (x.1.kept - 1)))) bn br fv (unkL i l) := by
  obtain ⟨m1, m2, m3⟩ := h.maps
  obtain ⟨n1, n2⟩ := h.rec_ne x hx
  have hg := World.grownBy_setCell_any W x.2 19 (.int .i64 (wrap64 (x.1.kept - 1)))
  have hth := h.there
  have hk : ∀ r ∈ B, r ≠ x.2 → (W.setCell ⟨x.2, 19, none⟩ (.int .i64 (wrap64 (x.1.kept - 1)))).heap[r]? = W.heap[r]? := fun r hr h1 => hg.block r (hth r hr) (fun e => h1 (Option.some.inj e))
  have hmine := h.mine
  have hB : ∀ {r}, r = Ba ∨ r = bn ∨ r = br ∨ fv.ownBlock = some r ∨ (∃ x ∈ l, x.2 = r) → r ∈ B := fun {r} hr => by
    rw [hmine]
    simp only [List.mem_cons, List.mem_append, Option.mem_toList, List.mem_map]
    exact hr
  refine { ents := by rw [unkL_ents, h.ents], head := (hk Ba (hB (.inl rfl)) (Ne.symm n1)).trans h.head, nums := ?_, recs := ?_, each := ?_, row := row_keep h.row (fun g hg' => hk g (hB (.inr (.inr (.inr (.inl hg'))))) (fun e => n2 (e ▸ hg'))), apart := h.apart, blks := by rw [unkL_blk]; exact h.blks, mine := by rw [unkL_blk]; exact hmine, low := h.low }
  · rw [numMap_unk, List.length_map]
    exact h.nums.same (hk bn (hB (.inr (.inl rfl))) (Ne.symm (m3 x hx).1))
  · rw [recMap_unk, List.length_map]
    exact h.recs.same (hk br (hB (.inr (.inr (.inl rfl)))) (Ne.symm (m3 x hx).2))
  · intro y hy
    obtain ⟨z, hz, rfl⟩ := List.mem_map.1 hy
    by_cases e : z.1.id = i
    · cases hone z hz e
      have := set_rec (i := 19) (v := .int .i64 (wrap64 (x.1.kept - 1))) (h.each x hx)
      rw [Ent.cells_set19] at this
      simp only [unkE, if_pos e]
      exact this
    · simp only [unkE, if_neg e]
      refine (hk z.2 (hB (.inr (.inr (.inr (.inr ⟨z, hz, rfl⟩))))) (fun e' => e ?_)).trans (h.each z hz)
      have : z = x := inj_of_nodup h.blks hz hx e'
      rw [this, hi]


end Go.Proofs.Ytbbfpllffcfmhaa
