import Derived.Test.YtgnjgpplelakkaaGreatMG
import Derived.Test.YtgnjgpplelakkaaGreatUG
import Derived.Test.YtgnjgpplelakkaaGreatQK
import Derived.Test.YtgnjgpplelakkaaGreatLV
import Derived.Test.YtgnjgpplelakkaaGreatMF

/-
  Names hang on no names; what was cleaned is clean: plain mathematics.
-/
namespace Go.Proofs.YtgnjgpplelakkaaGreat
open Go.RowKit

end Go.Proofs.YtgnjgpplelakkaaGreat

/-
  The document's Met: the numbers of a term's variables, as they are first met.
-/
namespace Go.Proofs.YtgnjgpplelakkaaGreat
open Go.RowKit Go.Maps

/-- A row of numbers, behind W0. -/
structure MetR (W0 : World) (v : Value) (met : List Int) (W : World) : Prop where
  row : W.ownsRow W0.heap.size 3 1 v met.length (met.map (Value.int .i64))
  bel : Below W0.heap.size W0 W

theorem MetR.keep {W0 : World} {v : Value} {met : List Int} {W W' : World} (h : MetR W0 v met W) (hb : Below W.heap.size W W') : MetR W0 v met W' :=
  ⟨row_keep h.row (fun g hg => hb.block g (h.row.lt g hg).2), h.bel.trans (hb.mono h.bel.size)⟩

theorem MetR.nth {W0 : World} {v : Value} {met : List Int} {W : World} (h : MetR W0 v met W) {i : Nat} (hi : i < met.length) : ∃ g c, v = .slice (some ⟨g, 0, none⟩) met.length c ∧ g < W.heap.size ∧ W.cell? ⟨g, i, none⟩ = some (.int .i64 met[i]) := by
  rcases h.row.2 with ⟨_, hn⟩ | ⟨g, cap, cur, e, hb, hg, hcap, hmax, hsz, htk⟩
  · omega
  · refine ⟨g, cap, e, (Array.getElem?_eq_some_iff.1 hg).1, ?_⟩
    rw [cell_of_row _ _ _ _ 3 (0, 0) hg]
    have h1 : (met.map (Value.int .i64))[i]? = some (.int .i64 met[i]) := by simp [hi]
    rw [← htk, List.getElem?_take_of_lt (by omega)] at h1
    simpa using h1

end Go.Proofs.YtgnjgpplelakkaaGreat

/-
  The document's Met, at a variable; at every term.
-/
namespace Go.Proofs.YtgnjgpplelakkaaGreat
open Go.RowKit Go.Maps

end Go.Proofs.YtgnjgpplelakkaaGreat

/-
  The document's Rename.
-/
namespace Go.Proofs.YtgnjgpplelakkaaGreat
open Go.RowKit Go.Maps

end Go.Proofs.YtgnjgpplelakkaaGreat

/-
  The document's Terms: all sides of a clause.
-/
namespace Go.Proofs.YtgnjgpplelakkaaGreat
open Go.RowKit Go.Maps

end Go.Proofs.YtgnjgpplelakkaaGreat

/-
  Clauses named anew, or cleaned, twice: plain mathematics.
-/
namespace Go.Proofs.YtgnjgpplelakkaaGreat
open Go.RowKit

def appL (σ : Int → T) (x : Lt) : Lt := ⟨x.neg, x.l.app σ, x.r.app σ⟩
def Shaped (l : List Lt) : Prop := ∀ x ∈ l, x.l.shape = true ∧ x.r.shape = true
end Go.Proofs.YtgnjgpplelakkaaGreat
