/-
  The tree's nodes in memory.
-/
import Derived.Test.YtijihmncbaoklaaTD
import Derived.Test.YtijihmncbaoklaaPA
import Derived.Test.YtijihmncbaoklaaR
namespace Go.Proofs.Ytijihmncbaoklaa
open Go.RowKit Go.Maps

theorem keyed55 : Keyed Try.prog 55 := Keyed.of_law (deep_law_laid laidOut (m := 4) (by omega) (of_decide_eq_true (by kernel_rfl)) (by kernel_rfl) (by kernel_rfl))
theorem Try.kt55 : Try.prog.keyType 55 = true := by kernel_rfl
theorem Try.cells55 : Try.prog.cellsOf 55 = 2 := by kernel_rfl
theorem Try.cells3k : Try.prog.cellsOf 3 = 1 := by kernel_rfl
theorem Try.cells9k : Try.prog.cellsOf 9 = 1 := by kernel_rfl

/-- A symbol that can be a key. -/
def Sym.ok (s : Sym) : Prop := s.1.size ≤ 64 ∧ s.2 ≤ 16

theorem sym_lits (d : Nat) {s : Sym} (h : Sym.ok s) : (Try.prog.keyLits (d + 1 + 1) 55 [.string s.1, .int .i64 (s.2 : Nat)]).isSome = true := by
  have h1 : (Try.prog.keyLits (d + 1) 9 [.string s.1]).isSome = true := by
    have h1 : s.1.size ≤ maxLen := by unfold maxLen; have := h.1; omega
    simp [Program.keyLits, Try.underlying9, h1]
  have h2 : (Try.prog.keyLits (d + 1) 3 [.int .i64 (s.2 : Nat)]).isSome = true := by
    have hf : Fit64 ((s.2 : Nat) : Int) := ⟨by omega, by have := h.2; omega⟩
    simp [Program.keyLits, Try.underlying3, wf_of hf]
  obtain ⟨x1, e1⟩ := Option.isSome_iff_exists.1 h1
  obtain ⟨x2, e2⟩ := Option.isSome_iff_exists.1 h2
  unfold Program.keyLits
  rw [Try.underlying55]
  simp [Try.cells55, Try.cells9k, Try.cells3k, e1, e2]

theorem Try.tsize : Try.prog.types.size = 164 + 1 := by kernel_rfl
set_option maxRecDepth 100000 in
theorem sym_key {s : Sym} (h : Sym.ok s) : ∃ kl, keyOf Try.prog 55 (symv s) = some kl := by
  have hf : (symv s).formed Try.prog 55 = true := by
    unfold Value.formed
    rw [Try.underlying55]
    simp [Try.cells55]
  obtain ⟨ls, hls⟩ := Option.isSome_iff_exists.1 (sym_lits (164) h)
  refine ⟨.string (keyBytes ls), ?_⟩
  unfold keyOf
  rw [Try.underlying55]
  simp only [Try.kt55, hf, Bool.and_self, if_true, Try.tsize]
  show (Try.prog.keyLits (164 + 1 + 1) 55 [Value.string s.1, .int .i64 (s.2 : Nat)].toArray.toList).map _ = _
  rw [List.toList_toArray, hls]
  rfl

theorem symv_inj {s s' : Sym} (h : symv s = symv s') : s = s' := by
  obtain ⟨a, b⟩ := s
  obtain ⟨c, d⟩ := s'
  simp only [symv, Value.agg.injEq, Array.mk.injEq, List.cons.injEq, Value.string.injEq, Value.int.injEq, and_true, true_and] at h
  simp only [Prod.mk.injEq]
  exact ⟨h.1, by omega⟩

end Go.Proofs.Ytijihmncbaoklaa
