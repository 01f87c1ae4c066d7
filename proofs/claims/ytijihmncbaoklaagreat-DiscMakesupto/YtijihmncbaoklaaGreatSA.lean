/-
  Binds in memory; subst.isVar and subst.Right.
-/
import Derived.Test.YtijihmncbaoklaaGreatL
import Derived.Test.YtijihmncbaoklaaGreatD
namespace Go.Proofs.YtijihmncbaoklaaGreat
open Go.RowKit

/-- A bind: a variable's number, and what stands for it. -/
abbrev Bd := Int × T
/-- What is read of one bind. -/
structure BindAt (W : World) (b o : Nat) (x : Bd) (s : Value) : Prop where
  lt : b < W.heap.size
  c0 : W.cell? ⟨b, o, none⟩ = some (.int .i64 x.1)
  c1 : W.cell? ⟨b, o + 1, none⟩ = some (.int .i64 x.2.v)
  c2 : W.cell? ⟨b, o + 2, none⟩ = some (.string x.2.fn)
  c3 : W.cell? ⟨b, o + 3, none⟩ = some s
  sub : ArgsAt W s x.2.args

theorem BindAt.keep {W W' : World} {b o : Nat} {x : Bd} {s : Value} (h : BindAt W b o x s) (hb : Below W.heap.size W W') : BindAt W' b o x s :=
  ⟨Nat.lt_of_lt_of_le h.lt hb.size, kc hb h.lt h.c0, kc hb h.lt h.c1, kc hb h.lt h.c2, kc hb h.lt h.c3, ArgsAt.keep hb (Nat.le_refl _) h.sub⟩

/-- A slice of binds, as it lies in memory. -/
def BindsAt (W : World) (v : Value) (l : List Bd) : Prop :=
  ∃ a c, v = .slice a l.length c ∧ l.length ≤ c ∧ c ≤ 9223372036854775807 ∧ (0 < l.length → ∃ b o, a = some ⟨b, o, none⟩ ∧ ∀ i (h : i < l.length), ∃ s, BindAt W b (o + i * 4) l[i] s)

theorem BindsAt.keep {W W' : World} {v : Value} {l : List Bd} (h : BindsAt W v l) (hb : Below W.heap.size W W') : BindsAt W' v l := by
  obtain ⟨a, c, rfl, h1, h2, h3⟩ := h
  refine ⟨a, c, rfl, h1, h2, fun h0 => ?_⟩
  obtain ⟨b, o, rfl, h4⟩ := h3 h0
  exact ⟨b, o, rfl, fun i hi => by obtain ⟨s, hs⟩ := h4 i hi; exact ⟨s, hs.keep hb⟩⟩

theorem BindsAt.slice {W : World} {v : Value} {l : List Bd} (h : BindsAt W v l) : ∃ a c, v = .slice a l.length c := by
  obtain ⟨a, c, rfl, _⟩ := h
  exact ⟨a, c, rfl⟩

theorem BindsAt.nth {W : World} {a : Option Addr} {c n : Nat} {l : List Bd} (h : BindsAt W (.slice a n c) l) {i : Nat} (hi : i < l.length) : ∃ b o s, a = some ⟨b, o, none⟩ ∧ BindAt W b (o + i * 4) l[i] s := by
  obtain ⟨a', c', e, h1, h2, h3⟩ := h
  cases e
  obtain ⟨b, o, rfl, h4⟩ := h3 (by omega)
  obtain ⟨s, hs⟩ := h4 i hi
  exact ⟨b, o, s, rfl, hs⟩

theorem BindsAt.len {W : World} {v : Value} {l : List Bd} (h : BindsAt W v l) : l.length ≤ 9223372036854775807 := by
  obtain ⟨a, c, rfl, h1, h2, _⟩ := h
  omega

end Go.Proofs.YtijihmncbaoklaaGreat
