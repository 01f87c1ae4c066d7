/-
  subst.replaced.
-/
import Derived.Test.YtijihmncbaoklaaGreatSA
import Derived.Test.YtijihmncbaoklaaGreatQF
import Derived.RangeFuncBox
import Derived.OwnWalk
namespace Go.Proofs.YtijihmncbaoklaaGreat
open Go.RowKit

/-- A slice of terms in blocks from n on. -/
inductive ArgsFr (n : Nat) (W : World) : Value → List T → Prop
  | mk (a : Option Addr) (c : Nat) (l : List T) (s : Nat → Value) (hc : l.length ≤ c) (hm : c ≤ 9223372036854775807)
      (at0 : 0 < l.length → ∃ b o, n ≤ b ∧ b < W.heap.size ∧ a = some ⟨b, o, none⟩ ∧ ∀ i (h : i < l.length), W.cell? ⟨b, o + i * 3, none⟩ = some (.int .i64 l[i].v) ∧ W.cell? ⟨b, o + i * 3 + 1, none⟩ = some (.string l[i].fn) ∧ W.cell? ⟨b, o + i * 3 + 2, none⟩ = some (s i))
      (sub : ∀ i (h : i < l.length), ArgsFr n W (s i) l[i].args) : ArgsFr n W (.slice a l.length c) l

theorem ArgsFr.args {n : Nat} {W : World} {sl : Value} {l : List T} (h : ArgsFr n W sl l) : ArgsAt W sl l := by
  induction h with
  | mk a c l s hc hm at0 sub ih =>
    refine .mk a c l s hc hm (fun h0 => ?_) ih
    obtain ⟨b, o, _, hlt, rfl, hcell⟩ := at0 h0
    exact ⟨b, o, hlt, rfl, hcell⟩

theorem ArgsFr.keep {n : Nat} {W W' : World} {sl : Value} {l : List T} (h : ArgsFr n W sl l) (hs : W.heap.size ≤ W'.heap.size) (hk : ∀ k, n ≤ k → k < W.heap.size → W'.heap[k]? = W.heap[k]?) : ArgsFr n W' sl l := by
  induction h with
  | mk a c l s hc hm at0 sub ih =>
    refine .mk a c l s hc hm (fun h0 => ?_) ih
    obtain ⟨b, o, hn, hlt, rfl, hcell⟩ := at0 h0
    refine ⟨b, o, hn, Nat.lt_of_lt_of_le hlt hs, rfl, fun i hi => ?_⟩
    obtain ⟨h1, h2, h3⟩ := hcell i hi
    have e := hk b hn hlt
    exact ⟨(World.cell?_of_block (a := ⟨b, _, none⟩) e).trans h1, (World.cell?_of_block (a := ⟨b, _, none⟩) e).trans h2, (World.cell?_of_block (a := ⟨b, _, none⟩) e).trans h3⟩

theorem ArgsFr.low {n n' : Nat} {W : World} {sl : Value} {l : List T} (h : ArgsFr n W sl l) (hn : n' ≤ n) : ArgsFr n' W sl l := by
  induction h with
  | mk a c l s hc hm at0 sub ih =>
    refine .mk a c l s hc hm (fun h0 => ?_) ih
    obtain ⟨b, o, hb, hlt, rfl, hcell⟩ := at0 h0
    exact ⟨b, o, Nat.le_trans hn hb, hlt, rfl, hcell⟩

theorem ArgsFr.nil (n : Nat) (W : World) : ArgsFr n W (.slice none 0 0) [] :=
  .mk none 0 [] (fun _ => .slice none 0 0) (Nat.le_refl _) (by decide) (fun h => absurd h (by simp)) (fun i h => absurd h (by simp))

theorem ArgsFr.slice {n : Nat} {W : World} {sl : Value} {l : List T} (h : ArgsFr n W sl l) : ∃ a c, sl = .slice a l.length c := by
  cases h with
  | mk a c l s hc hm at0 sub => exact ⟨a, c, rfl⟩

theorem box_facts {X : World} {n : Nat} {u v s : Value} (h : X.heap[n]? = some (.cells #[u, v, s] 32 (0, 0))) : (X.cell? ⟨n, 0, none⟩ = some u ∧ X.cell? ⟨n, 1, none⟩ = some v ∧ X.cell? ⟨n, 2, none⟩ = some s) ∧ (X.frozen? ⟨n, 0, none⟩ = false ∧ X.frozen? ⟨n, 1, none⟩ = false ∧ X.frozen? ⟨n, 2, none⟩ = false) := by
  refine ⟨⟨?_, ?_, ?_⟩, ⟨?_, ?_, ?_⟩⟩ <;> simp [World.cell?, World.frozen?, h]

/-- Three cells of one block are written. -/
abbrev set3 (W : World) (b o : Nat) (u v s : Value) : World := ((W.setCell ⟨b, o, none⟩ u).setCell ⟨b, o + 1, none⟩ v).setCell ⟨b, o + 2, none⟩ s

theorem set3_other (W : World) (b o : Nat) (u v s : Value) (k : Nat) (h : k ≠ b) : (set3 W b o u v s).heap[k]? = W.heap[k]? := by
  rw [Below.heap_setCell _ _ _ k h, Below.heap_setCell _ _ _ k h, Below.heap_setCell _ _ _ k h]

theorem set3_below {n : Nat} {w W : World} (h : Below n w W) (b o : Nat) (u v s : Value) (hb : n ≤ b) : Below n w (set3 W b o u v s) :=
  ((h.setCell (p := ⟨b, o, none⟩) hb _).setCell (p := ⟨b, o + 1, none⟩) hb _).setCell (p := ⟨b, o + 2, none⟩) hb _

end Go.Proofs.YtijihmncbaoklaaGreat
