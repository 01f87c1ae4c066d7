/-
  The bank in memory; New, Len.
-/
import Derived.Test.YtbbfpllffcfmhaaP
import Derived.WideLaws
import Derived.BigQuiet
namespace Go.Proofs.Ytbbfpllffcfmhaa
open Go.RowKit Go.Maps

/-- A node that is there: its number, how often it is kept, how often it is used. -/
structure Ent where
  id : Int
  nd : Nd
  kept : Int
  uses : Int

/-- A record's cells. -/
def Ent.cells (e : Ent) : List Value := e.nd.cells ++ [.int .i64 e.kept, .int .i64 e.uses]
theorem Ent.cells_len (e : Ent) : e.cells.length = 21 := by simp [Ent.cells, Nd.cells, ndCells_len]

open Classical in
/-- The map from nodes to numbers. -/
noncomputable def numMap (es : List Ent) (key : Value) : Option Value := (es.find? fun e => decide (e.nd.val = key)).map fun e => .int .i64 e.id
open Classical in
/-- The map from numbers to records. -/
noncomputable def recMap (l : List (Ent × Nat)) (key : Value) : Option Value := (l.find? fun e => decide (Value.int .i64 e.1.id = key)).map fun e => .pointer (some ⟨e.2, 0, none⟩)

/-- A bank in memory. -/
structure BankAt (n0 Ba : Nat) (B : List Nat) (limit : Int) (es : List Ent) (free : List Int) (W : World) (bn br : Nat) (fv : Value) (l : List (Ent × Nat)) : Prop where
  ents : l.map (·.1) = es
  head : W.heap[Ba]? = some (.cells [Value.int .i64 limit, .map (some bn), .map (some br), fv].toArray 76 (0, 0))
  nums : MapIs W 82 bn (numMap es) es.length
  recs : MapIs W 3 br (recMap l) es.length
  each : ∀ x ∈ l, W.heap[x.2]? = some (.cells x.1.cells.toArray 84 (0, 0))
  row : W.ownsRow n0 3 1 fv free.length (free.map fun x => Value.int .i64 x)
  apart : bn ≠ br
  blks : (l.map (·.2)).Nodup
  mine : B = Ba :: bn :: br :: (fv.ownBlock.toList ++ l.map (·.2))
  low : ∀ r ∈ B, n0 ≤ r

def BankSt (n0 Ba : Nat) (B : List Nat) (limit : Int) (es : List Ent) (free : List Int) (W : World) : Prop := ∃ bn br fv l, BankAt n0 Ba B limit es free W bn br fv l

section
variable {n0 Ba : Nat} {B : List Nat} {limit : Int} {es : List Ent} {free : List Int} {W W' : World} {bn br : Nat} {fv : Value} {l : List (Ent × Nat)}

theorem BankAt.there (h : BankAt n0 Ba B limit es free W bn br fv l) : ∀ r ∈ B, r < W.heap.size := by
  intro r hr
  rw [h.mine] at hr
  simp only [List.mem_cons, List.mem_append, Option.mem_toList, List.mem_map] at hr
  rcases hr with rfl | rfl | rfl | hr | ⟨x, hx, rfl⟩
  · exact (Array.getElem?_eq_some_iff.1 h.head).1
  · exact h.nums.lt
  · exact h.recs.lt
  · exact (h.row.lt r hr).2
  · exact (Array.getElem?_eq_some_iff.1 (h.each x hx)).1

theorem BankAt.keep (h : BankAt n0 Ba B limit es free W bn br fv l) (hB : ∀ r ∈ B, W'.heap[r]? = W.heap[r]?) : BankAt n0 Ba B limit es free W' bn br fv l := by
  have hm := h.mine
  refine { h with head := (hB Ba (by rw [hm]; simp)).trans h.head, nums := h.nums.same (hB bn (by rw [hm]; simp)), recs := h.recs.same (hB br (by rw [hm]; simp)), each := fun x hx => (hB x.2 (by rw [hm]; simp; exact .inr (.inr (.inr (.inr ⟨x.1, hx⟩))))).trans (h.each x hx), row := ?_ }
  obtain ⟨h1, h2⟩ := h.row
  refine ⟨h1, ?_⟩
  rcases h2 with h2 | ⟨g, cap, cur, e, hb, hg, r⟩
  · exact .inl h2
  · refine .inr ⟨g, cap, cur, e, hb, (hB g ?_).trans hg, r⟩
    rw [hm, e]
    simp [Value.ownBlock]

theorem BankSt.there (h : BankSt n0 Ba B limit es free W) : ∀ r ∈ B, n0 ≤ r ∧ r < W.heap.size := by
  obtain ⟨bn, br, fv, l, h⟩ := h
  exact fun r hr => ⟨h.low r hr, h.there r hr⟩
theorem BankSt.keep (h : BankSt n0 Ba B limit es free W) (hB : ∀ r ∈ B, W'.heap[r]? = W.heap[r]?) : BankSt n0 Ba B limit es free W' := by
  obtain ⟨bn, br, fv, l, h⟩ := h
  exact ⟨bn, br, fv, l, h.keep hB⟩

theorem BankAt.cells (h : BankAt n0 Ba B limit es free W bn br fv l) : W.cell? ⟨Ba, 0, none⟩ = some (.int .i64 limit) ∧ W.cell? ⟨Ba, 1, none⟩ = some (.map (some bn)) ∧ W.cell? ⟨Ba, 2, none⟩ = some (.map (some br)) ∧ W.cell? ⟨Ba, 3, none⟩ = some fv := by
  refine ⟨?_, ?_, ?_, ?_⟩ <;> rw [cell_of_row _ _ _ _ 76 (0, 0) h.head] <;> rfl

end

set_option maxHeartbeats 400000 in
theorem blen_nil (w : World) : Calls Try.prog 31 #[.pointer none] w fun e w' => e = .returned (.int .i64 0) ∧ w' = w := by
  go_enter Try.func31, Try.ntmps31
  go_wp2
  go_ret
  exact ⟨rfl, rfl⟩

set_option maxHeartbeats 400000 in
theorem blen_any {n0 Ba : Nat} {B : List Nat} {limit : Int} {es : List Ent} {free : List Int} {W : World} {bn br : Nat} {fv : Value} {l : List (Ent × Nat)} (h : BankAt n0 Ba B limit es free W bn br fv l) :
    Calls Try.prog 31 #[.pointer (some ⟨Ba, 0, none⟩)] W fun e w' => e = .returned (.int .i64 es.length) ∧ w' = W := by
  obtain ⟨_, c1, _, _⟩ := h.cells
  have hlen := h.nums.len Try.underlying72 3
  go_enter Try.func31, Try.ntmps31
  go_wp2
  go_ret
  exact ⟨rfl, rfl⟩

set_option maxHeartbeats 1000000 in
theorem new_bad (limit : Int) (w : World) (h : limit < 1 ∨ 1000000 < limit) : Calls Try.prog 22 #[.int .i64 limit] w fun e w' => e = .returned (.tuple #[.pointer none, .int .i64 1]) ∧ w' = w := by
  go_enter Try.func22, Try.ntmps22
  go_wp2
  all_goals go_ret2
  all_goals exact ⟨rfl, rfl⟩

set_option maxHeartbeats 1000000 in
theorem empty_any (limit : Int) (w : World) : Calls Try.prog 47 #[.int .i64 limit] w fun e w' => e = .returned (.agg #[.int .i64 limit, .map (some (w.heap.size + 1)), .map (some (w.heap.size + 1 + 1)), .slice none 0 0]) ∧ ∃ o, w' = ((w.alloc o).alloc (.map #[] 0)).alloc (.map #[] 0) := by
  have hmm := @run_makeMap Try.prog
  go_enter Try.func47, Try.ntmps47
  go_wp2
  exact bodyPost_ret (v := .agg #[.int .i64 limit, .map (some (w.heap.size + 1)), .map (some (w.heap.size + 1 + 1)), .slice none 0 0]) (by simp [results, Try.results47, go_sem]) rfl ⟨rfl, _, rfl⟩

set_option maxHeartbeats 1000000 in
theorem new_walk (limit : Int) (w : World) (h1 : 1 ≤ limit) (h2 : limit ≤ 1000000) : Calls Try.prog 22 #[.int .i64 limit] w fun e w' => e = .returned (.tuple #[.pointer (some ⟨w.heap.size + 1 + 1 + 1, 0, none⟩), .int .i64 0]) ∧ ∃ o, w' = (((w.alloc o).alloc (.map #[] 0)).alloc (.map #[] 0)).alloc (.cells #[.int .i64 limit, .map (some (w.heap.size + 1)), .map (some (w.heap.size + 1 + 1)), .slice none 0 0] 76) := by
  go_enter Try.func22, Try.ntmps22
  go_wp2_with (go_at_call 47; refine (empty_any _ _).mono ?_; rintro e w' ⟨rfl, o, rfl⟩)
  go_ret2
  exact ⟨rfl, o, rfl⟩

/-- New: a bank without terms, in new memory. -/
theorem new_ok (limit : Int) (w : World) (h1 : 1 ≤ limit) (h2 : limit ≤ 1000000) (n0 : Nat) (hn0 : n0 ≤ w.heap.size) : Calls Try.prog 22 #[.int .i64 limit] w fun e w' => ∃ Ba B, e = .returned (.tuple #[.pointer (some ⟨Ba, 0, none⟩), .int .i64 0]) ∧ BankSt n0 Ba B limit [] [] w' ∧ (∀ r ∈ B, w.heap.size ≤ r) ∧ Below w.heap.size w w' := by
  refine (new_walk limit w h1 h2).mono ?_
  rintro e w' ⟨rfl, o, rfl⟩
  have hb : Below w.heap.size w ((((w.alloc o).alloc (.map #[] 0)).alloc (.map #[] 0)).alloc (.cells #[.int .i64 limit, .map (some (w.heap.size + 1)), .map (some (w.heap.size + 1 + 1)), .slice none 0 0] 76)) := ((((Below.refl _ _).alloc (Nat.le_refl _) _).alloc (by simp) _).alloc (by simp; omega) _).alloc (by simp; omega) _
  have m1 := MapIs.made (w.alloc o) 82
  have m2 := MapIs.made ((w.alloc o).alloc (.map #[] 0)) 3
  rw [World.size_alloc] at m1
  rw [World.size_alloc, World.size_alloc] at m2
  have e1 : ∀ (X : World) (ob : Obj) (k : Nat), k < X.heap.size → (X.alloc ob).heap[k]? = X.heap[k]? := fun X ob k hk => Below.heap_alloc X ob k hk
  have m1' : MapIs ((((w.alloc o).alloc (.map #[] 0)).alloc (.map #[] 0)).alloc (.cells #[.int .i64 limit, .map (some (w.heap.size + 1)), .map (some (w.heap.size + 1 + 1)), .slice none 0 0] 76)) 82 (w.heap.size + 1) (fun _ => none) 0 :=
    m1.same (by rw [e1 _ _ _ (by simp), e1 _ _ _ (by simp)])
  have m2' : MapIs ((((w.alloc o).alloc (.map #[] 0)).alloc (.map #[] 0)).alloc (.cells #[.int .i64 limit, .map (some (w.heap.size + 1)), .map (some (w.heap.size + 1 + 1)), .slice none 0 0] 76)) 3 (w.heap.size + 1 + 1) (fun _ => none) 0 :=
    m2.same (by rw [e1 _ _ _ (by simp)])
  have hh := (MapKept.heap_alloc (((w.alloc o).alloc (.map #[] 0)).alloc (.map #[] 0)) (.cells #[.int .i64 limit, .map (some (w.heap.size + 1)), .map (some (w.heap.size + 1 + 1)), .slice none 0 0] 76)).1
  rw [World.size_alloc, World.size_alloc, World.size_alloc] at hh
  refine ⟨w.heap.size + 1 + 1 + 1, [w.heap.size + 1 + 1 + 1, w.heap.size + 1, w.heap.size + 1 + 1], rfl, ⟨_, _, _, [], ⟨rfl, hh, m1', m2', fun x hx => (by cases hx), World.ownsRow_nil _ _ _ _, by omega, by simp, by simp [Value.ownBlock], fun r hr => ?_⟩⟩, fun r hr => ?_, hb⟩
  · simp at hr
    omega
  · simp at hr
    omega

end Go.Proofs.Ytbbfpllffcfmhaa
