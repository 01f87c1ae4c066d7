/-
  alive.
-/
import Derived.Test.YtbbfpllffcfmhaaZH
import Derived.Test.YtbbfpllffcfmhaaD
namespace Go.Proofs.Ytbbfpllffcfmhaa
open Go.RowKit Go.Maps

/-- What alive's last test finds. -/
structure Pk (w : World) (Ba n7 n2 b : Nat) (a : Option Addr) (c : Nat) (X : World) : Prop where
  bank : ∃ n0 B, BankSt n0 Ba B 10 ((bumps [1, 1] ([⟨1, Na, 0, 0⟩] ++ [⟨2, Nf, 0, 0⟩])).map (keepE 2)) [] X
  l : ArgsAt X (.slice a 2 c) Tf.args
  r : ArgsAt X (.slice (some ⟨b, 0, none⟩) 2 2) Tf.args
  c7 : X.heap[n7]? = some (.cells #[.int .i64 0, .string ⟨#[102]⟩, .slice a 2 c] 24 (0, 0))
  c2 : X.heap[n2]? = some (.cells #[.int .i64 0, .string ⟨#[102]⟩, .slice (some ⟨b, 0, none⟩) 2 2] 24 (0, 0))
  bel : Below w.heap.size w X

theorem Pk.keep {w : World} {Ba n7 n2 b : Nat} {a : Option Addr} {c : Nat} {X X' : World} (h : Pk w Ba n7 n2 b a c X) (hb : Below X.heap.size X X') : Pk w Ba n7 n2 b a c X' := by
  obtain ⟨n0, B, hB⟩ := h.bank
  exact ⟨⟨n0, B, hB.keep (fun r hr => hb.block r (hB.there r hr).2)⟩, ArgsAt.keep hb (Nat.le_refl _) h.l, ArgsAt.keep hb (Nat.le_refl _) h.r, (hb.block _ (Array.getElem?_eq_some_iff.1 h.c7).1).trans h.c7, (hb.block _ (Array.getElem?_eq_some_iff.1 h.c2).1).trans h.c2, h.bel.trans (hb.mono h.bel.size)⟩

theorem box3 {X : World} {n : Nat} {u v s : Value} (h : X.heap[n]? = some (.cells #[u, v, s] 24 (0, 0))) : X.cell? ⟨n, 0, none⟩ = some u ∧ X.cell? ⟨n, 1, none⟩ = some v ∧ X.cell? ⟨n, 2, none⟩ = some s := by
  refine ⟨?_, ?_, ?_⟩ <;> rw [cell_of_row _ _ _ _ 24 (0, 0) h] <;> rfl

theorem pk_len {w : World} {Ba n7 n2 b : Nat} {a : Option Addr} {c : Nat} {X : World} (h : Pk w Ba n7 n2 b a c X) : Calls Try.prog 31 #[.pointer (some ⟨Ba, 0, none⟩)] X fun e X' => e = .returned (.int .i64 2) ∧ X' = X := by
  obtain ⟨n0, B, bn, br, fv, l, hB⟩ := h.bank
  exact blen_any hB

theorem pk_same {w : World} {Ba n7 n2 b : Nat} {a : Option Addr} {c : Nat} {X : World} (h : Pk w Ba n7 n2 b a c X) : Calls Try.prog 18 #[.agg #[.int .i64 0, .string ⟨#[102]⟩, .slice a 2 c], .agg #[.int .i64 0, .string ⟨#[102]⟩, .slice (some ⟨b, 0, none⟩) 2 2]] X fun e X' => e = .returned (.bool true) ∧ Pk w Ba n7 n2 b a c X' := by
  refine Calls.mono (tsame_any Tf Tf (.slice a 2 c) _ X h.l h.r) ?_
  rintro e X' ⟨he, hb⟩
  exact ⟨by rw [he]; simp [same], h.keep hb⟩

theorem pk_size {w : World} {Ba n7 n2 b : Nat} {a : Option Addr} {c : Nat} {X : World} (h : Pk w Ba n7 n2 b a c X) : Calls Try.prog 10 #[.agg #[.int .i64 0, .string ⟨#[102]⟩, .slice (some ⟨b, 0, none⟩) 2 2]] X fun e X' => e = .returned (.int .i64 3) ∧ Pk w Ba n7 n2 b a c X' := by
  refine Calls.mono (tsize_any Tf _ X h.r Tf_short) ?_
  rintro e X' ⟨he, hb⟩
  exact ⟨by rw [he, Tf_size]; simp [wrap64], h.keep hb⟩

theorem pk_places {w : World} {Ba n7 n2 b : Nat} {a : Option Addr} {c : Nat} {X : World} (h : Pk w Ba n7 n2 b a c X) : Calls Try.prog 40 #[.agg #[.int .i64 0, .string ⟨#[102]⟩, .slice (some ⟨b, 0, none⟩) 2 2]] X fun e X' => ∃ a' c', e = .returned (.slice a' 3 c') ∧ Pk w Ba n7 n2 b a c X' := by
  refine Calls.mono (tplaces_any Tf _ X h.r Tf_short (by simp [Tf, Ta, T.parts, T.parts.kids])) ?_
  rintro e X' ⟨a', c', he, hb⟩
  exact ⟨a', c', by rw [he]; rfl, h.keep hb⟩

theorem pk_depth {w : World} {Ba n7 n2 b : Nat} {a : Option Addr} {c : Nat} {X : World} (h : Pk w Ba n7 n2 b a c X) : Calls Try.prog 12 #[.agg #[.int .i64 0, .string ⟨#[102]⟩, .slice (some ⟨b, 0, none⟩) 2 2]] X fun e X' => e = .returned (.int .i64 2) ∧ Pk w Ba n7 n2 b a c X' := by
  refine Calls.mono (tdepth_any Tf _ X h.r Tf_short) ?_
  rintro e X' ⟨he, hb⟩
  exact ⟨by rw [he]; rfl, h.keep hb⟩

end Go.Proofs.Ytbbfpllffcfmhaa
