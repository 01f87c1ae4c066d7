/-
  A net in memory: nodes in a row, with what is above each.
-/
import Derived.Test.YtiklbkkimmgbcaaHA
import Derived.Test.YtiklbkkimmgbcaaLM
namespace Go.Proofs.Ytiklbkkimmgbcaa
open Go.RowKit

/-- Numbers that are read, in a block of which P holds. -/
def IntsP (P : Nat → Prop) (W : World) (v : Value) (l : List Int) : Prop :=
  ∃ a c, v = .slice a l.length c ∧ l.length ≤ c ∧ c ≤ 9223372036854775807 ∧ (0 < l.length → ∃ b o, a = some ⟨b, o, none⟩ ∧ b < W.heap.size ∧ P b ∧ ∀ i (h : i < l.length), W.cell? ⟨b, o + i, none⟩ = some (.int .i64 l[i]))

theorem IntsP.keep {P Q : Nat → Prop} {W W' : World} {v : Value} {l : List Int} (h : IntsP P W v l) (hs : W.heap.size ≤ W'.heap.size) (hk : ∀ b, P b → b < W.heap.size → Q b ∧ W'.heap[b]? = W.heap[b]?) : IntsP Q W' v l := by
  obtain ⟨a, c, rfl, h1, h2, h3⟩ := h
  refine ⟨a, c, rfl, h1, h2, fun h0 => ?_⟩
  obtain ⟨b, o, rfl, hlt, hP, h4⟩ := h3 h0
  obtain ⟨hQ, hb⟩ := hk b hP hlt
  refine ⟨b, o, rfl, by omega, hQ, fun i hi => ?_⟩
  rw [← h4 i hi]
  simp [World.cell?, hb]

theorem IntsP.slice {P : Nat → Prop} {W : World} {v : Value} {l : List Int} (h : IntsP P W v l) : ∃ a c, v = .slice a l.length c := by
  obtain ⟨a, c, rfl, _⟩ := h
  exact ⟨a, c, rfl⟩

theorem IntsP.nth {P : Nat → Prop} {W : World} {a : Option Addr} {c n : Nat} {l : List Int} (h : IntsP P W (.slice a n c) l) {i : Nat} (hi : i < l.length) : ∃ b o, a = some ⟨b, o, none⟩ ∧ b < W.heap.size ∧ P b ∧ W.cell? ⟨b, o + i, none⟩ = some (.int .i64 l[i]) := by
  obtain ⟨a', c', e, h1, h2, h3⟩ := h
  cases e
  obtain ⟨b, o, rfl, hlt, hP, h4⟩ := h3 (by omega)
  exact ⟨b, o, rfl, hlt, hP, h4 i hi⟩

/-- The numbers of nodes. -/
abbrev ints (l : List Nat) : List Int := l.map Int.ofNat

/-- A net: its box B, its row in block g. -/
structure Net (W : World) (B g c : Nat) (N : List Nd) (up : Nat → Nat) (av : Nat → Value) : Prop where
  box : W.heap[B]? = some (.cells #[.slice (some ⟨g, 0, none⟩) N.length c] 93 (0, 0))
  row : ∃ cur, W.heap[g]? = some (.cells cur 101 (0, 0)) ∧ ∀ i (h : i < N.length), cur[i * 4]? = some (.int .i64 N[i].v) ∧ cur[i * 4 + 1]? = some (.string N[i].fn) ∧ cur[i * 4 + 2]? = some (av i) ∧ cur[i * 4 + 3]? = some (.int .i64 (up i : Nat))
  args : ∀ i (h : i < N.length), IntsP (fun b => b ≠ g ∧ b ≠ B) W (av i) (ints N[i].args)
  ne : B ≠ g
  below : ∀ i (h : i < N.length), ∀ a ∈ N[i].args, a < N.length
  len : N.length ≤ 1048576

section
variable {W W' : World} {B g c : Nat} {N : List Nd} {up : Nat → Nat} {av : Nat → Value}

theorem Net.blt (h : Net W B g c N up av) : B < W.heap.size ∧ g < W.heap.size := by
  obtain ⟨cur, hg, _⟩ := h.row
  exact ⟨(Array.getElem?_eq_some_iff.1 h.box).1, (Array.getElem?_eq_some_iff.1 hg).1⟩

theorem Net.keep (h : Net W B g c N up av) (hb : Below W.heap.size W W') : Net W' B g c N up av := by
  obtain ⟨hB, hg⟩ := h.blt
  obtain ⟨cur, h1, h2⟩ := h.row
  exact ⟨(hb.block B hB).trans h.box, ⟨cur, (hb.block g hg).trans h1, h2⟩, fun i hi => (h.args i hi).keep hb.size (fun b hP hlt => ⟨hP, hb.block b hlt⟩), h.ne, h.below, h.len⟩

/-- Kept where the blocks of the net are. -/
theorem Net.keepB (h : Net W B g c N up av) (hs : W.heap.size ≤ W'.heap.size) (hk : ∀ b, b < W.heap.size → W'.heap[b]? = W.heap[b]?) : Net W' B g c N up av := by
  obtain ⟨hB, hg⟩ := h.blt
  obtain ⟨cur, h1, h2⟩ := h.row
  exact ⟨(hk B hB).trans h.box, ⟨cur, (hk g hg).trans h1, h2⟩, fun i hi => (h.args i hi).keep hs (fun b hP hlt => ⟨hP, hk b hlt⟩), h.ne, h.below, h.len⟩

/-- What is read of the box. -/
theorem Net.bcell (h : Net W B g c N up av) : W.cell? ⟨B, 0, none⟩ = some (.slice (some ⟨g, 0, none⟩) N.length c) ∧ W.frozen? ⟨B, 0, none⟩ = false := by
  refine ⟨?_, by simp [World.frozen?, h.box]⟩
  simp [World.cell?, h.box]

/-- What is read of a node. -/
theorem Net.cells (h : Net W B g c N up av) {i : Nat} (hi : i < N.length) : W.cell? ⟨g, i * 4, none⟩ = some (.int .i64 N[i].v) ∧ W.cell? ⟨g, i * 4 + 1, none⟩ = some (.string N[i].fn) ∧ W.cell? ⟨g, i * 4 + 2, none⟩ = some (av i) ∧ W.cell? ⟨g, i * 4 + 3, none⟩ = some (.int .i64 (up i : Nat)) ∧ W.frozen? ⟨g, i * 4 + 3, none⟩ = false := by
  obtain ⟨cur, h1, h2⟩ := h.row
  obtain ⟨c0, c1, c2, c3⟩ := h2 i hi
  refine ⟨?_, ?_, ?_, ?_, by simp [World.frozen?, h1]⟩
  · simp [World.cell?, h1, c0]
  · simp [World.cell?, h1, c1]
  · simp [World.cell?, h1, c2]
  · simp [World.cell?, h1, c3]

/-- Node b goes under a. -/
def upd1 (up : Nat → Nat) (b a : Nat) : Nat → Nat := fun i => if i = b then a else up i

theorem Net.set (h : Net W B g c N up av) {b : Nat} (hb : b < N.length) (a : Nat) : Net (W.setCell ⟨g, b * 4 + 3, none⟩ (.int .i64 (a : Nat))) B g c N (upd1 up b a) av := by
  obtain ⟨cur, h1, h2⟩ := h.row
  have hg := heap_setCell_same W g (b * 4 + 3) cur 101 (.int .i64 (a : Nat)) h1
  have ho : ∀ k, k ≠ g → (W.setCell ⟨g, b * 4 + 3, none⟩ (.int .i64 (a : Nat))).heap[k]? = W.heap[k]? := fun k hk => Below.heap_setCell _ _ _ k hk
  refine ⟨(ho B h.ne).trans h.box, ⟨_, hg, fun i hi => ?_⟩, fun i hi => (h.args i hi).keep (by simp) (fun k hP _ => ⟨hP, ho k hP.1⟩), h.ne, h.below, h.len⟩
  obtain ⟨c0, c1, c2, c3⟩ := h2 i hi
  have hs : b * 4 + 3 < cur.size := (Array.getElem?_eq_some_iff.1 (h2 b hb).2.2.2).1
  refine ⟨?_, ?_, ?_, ?_⟩
  · rw [Array.getElem?_setIfInBounds_ne (by omega)]; exact c0
  · rw [Array.getElem?_setIfInBounds_ne (by omega)]; exact c1
  · rw [Array.getElem?_setIfInBounds_ne (by omega)]; exact c2
  · unfold upd1
    by_cases e : i = b
    · subst e
      rw [if_pos rfl, Array.getElem?_setIfInBounds_self_of_lt hs]
    · rw [if_neg e, Array.getElem?_setIfInBounds_ne (by omega)]; exact c3
end

/-- The tops, by what is above. -/
structure Up (n : Nat) (up ρ r : Nat → Nat) (K : Nat) : Prop where
  lt : ∀ i, i < n → up i < n
  top : ∀ i, i < n → ρ (up i) = ρ i
  root : ∀ i, i < n → (up i = i ↔ ρ i = i)
  rank : ∀ i, i < n → up i ≠ i → r i < r (up i)
  bd : ∀ i, r i ≤ K

theorem Up.link {n : Nat} {up ρ r : Nat → Nat} {K : Nat} (h : Up n up ρ r K) {a b : Nat} (ha : a < n) (hb : b < n) (hra : ρ a = a) (hrb : ρ b = b) (hne : a ≠ b) (_hid : ∀ i, i < n → ρ (ρ i) = ρ i) : ∃ r', Up n (upd1 up b a) (lk ρ b a) r' (K + 1) := by
  have hua : up a = a := (h.root a ha).2 hra
  refine ⟨fun i => if i = a then K + 1 else r i, fun i hi => ?_, fun i hi => ?_, fun i hi => ?_, fun i hi hn => ?_, fun i => ?_⟩
  · unfold upd1
    split
    · exact ha
    · exact h.lt i hi
  · unfold upd1
    split
    · rename_i e
      subst e
      unfold lk
      rw [if_pos hrb, hra, if_neg hne]
    · unfold lk
      rw [h.top i hi]
  · unfold upd1 lk
    by_cases e : i = b
    · subst e
      rw [if_pos rfl, if_pos hrb]
    · rw [if_neg e]
      by_cases e2 : ρ i = b
      · rw [if_pos e2]
        constructor
        · intro h3
          have := (h.root i hi).1 h3
          omega
        · intro h3
          subst h3
          rw [hra] at e2
          exact absurd e2 hne
      · rw [if_neg e2]
        exact h.root i hi
  · unfold upd1 at hn ⊢
    by_cases e : i = b
    · subst e
      rw [if_pos rfl, if_pos rfl, if_neg (fun e => hne e.symm)]
      have := h.bd i
      omega
    · rw [if_neg e] at hn ⊢
      have h1 : i ≠ a := fun e2 => hn (by rw [e2]; exact hua)
      rw [if_neg h1]
      have := h.rank i hi hn
      split
      · have := h.bd i; omega
      · exact this
  · split
    · omega
    · have := h.bd i; omega

end Go.Proofs.Ytiklbkkimmgbcaa
