import Derived.Test.YtbbfpllffcfmhaaZH
import Derived.Test.YtbbfpllffcfmhaaD

/-
  alive.
-/
namespace Go.Proofs.Ytbbfpllffcfmhaa
open Go.RowKit Go.Maps

/-- What alive's last test finds. -/
structure Pk (w : World) (Ba n7 n2 b : Nat) (a : Option Addr) (c : Nat) (X : World) : Prop where
  bank : ∃ n0 B, BankSt n0 Ba B 10 ((bumps [1, 1] ([⟨1, Na, 0, 0⟩] ++ [⟨2, Nf, 0, 0⟩])).map (keepE 2)) [] X
  l : ArgsAt X (.slice a 2 c) Tf.args
  r : ArgsAt X (.slice (some ⟨b, 0, none⟩) 2 2) Tf.args
  c7 : X.heap[n7]? = some (.cells #[.int .i64 0, .string ⟨#[102]⟩, .slice a 2 c] 24 (0, 0))
  c2 : X.heap[n2]? = some (.cells #[.int .i64 0, .string ⟨#[102]⟩, .slice (some ⟨b, 0, none⟩) 2 2] 24 (0, 0))
  bel : Below w.heap.size w X

theorem Pk.keep {w : World} {Ba n7 n2 b : Nat} {a : Option Addr} {c : Nat} {X X' : World} (h : Pk w Ba n7 n2 b a c X) (hb : Below X.heap.size X X') : Pk w Ba n7 n2 b a c X' := by
  obtain ⟨n0, B, hB⟩ := h.bank
  exact ⟨⟨n0, B, hB.keep (fun r hr => hb.block r (hB.there r hr).2)⟩, ArgsAt.keep hb (Nat.le_refl _) h.l, ArgsAt.keep hb (Nat.le_refl _) h.r, (hb.block _ (Array.getElem?_eq_some_iff.1 h.c7).1).trans h.c7, (hb.block _ (Array.getElem?_eq_some_iff.1 h.c2).1).trans h.c2, h.bel.trans (hb.mono h.bel.size)⟩

theorem box3 {X : World} {n : Nat} {u v s : Value} (h : X.heap[n]? = some (.cells #[u, v, s] 24 (0, 0))) : X.cell? ⟨n, 0, none⟩ = some u ∧ X.cell? ⟨n, 1, none⟩ = some v ∧ X.cell? ⟨n, 2, none⟩ = some s := by
  refine ⟨?_, ?_, ?_⟩ <;> rw [cell_of_row _ _ _ _ 24 (0, 0) h] <;> rfl

theorem pk_len {w : World} {Ba n7 n2 b : Nat} {a : Option Addr} {c : Nat} {X : World} (h : Pk w Ba n7 n2 b a c X) : Calls Try.prog 31 #[.pointer (some ⟨Ba, 0, none⟩)] X fun e X' => e = .returned (.int .i64 2) ∧ X' = X := by
  obtain ⟨n0, B, bn, br, fv, l, hB⟩ := h.bank
  exact blen_any hB

theorem pk_same {w : World} {Ba n7 n2 b : Nat} {a : Option Addr} {c : Nat} {X : World} (h : Pk w Ba n7 n2 b a c X) : Calls Try.prog 18 #[.agg #[.int .i64 0, .string ⟨#[102]⟩, .slice a 2 c], .agg #[.int .i64 0, .string ⟨#[102]⟩, .slice (some ⟨b, 0, none⟩) 2 2]] X fun e X' => e = .returned (.bool true) ∧ Pk w Ba n7 n2 b a c X' := by
  refine Calls.mono (tsame_any Tf Tf (.slice a 2 c) _ X h.l h.r) ?_
  rintro e X' ⟨he, hb⟩
  exact ⟨by rw [he]; simp [same], h.keep hb⟩

theorem pk_size {w : World} {Ba n7 n2 b : Nat} {a : Option Addr} {c : Nat} {X : World} (h : Pk w Ba n7 n2 b a c X) : Calls Try.prog 10 #[.agg #[.int .i64 0, .string ⟨#[102]⟩, .slice (some ⟨b, 0, none⟩) 2 2]] X fun e X' => e = .returned (.int .i64 3) ∧ Pk w Ba n7 n2 b a c X' := by
  refine Calls.mono (tsize_any Tf _ X h.r Tf_short) ?_
  rintro e X' ⟨he, hb⟩
  exact ⟨by rw [he, Tf_size]; simp [wrap64], h.keep hb⟩

theorem pk_places {w : World} {Ba n7 n2 b : Nat} {a : Option Addr} {c : Nat} {X : World} (h : Pk w Ba n7 n2 b a c X) : Calls Try.prog 40 #[.agg #[.int .i64 0, .string ⟨#[102]⟩, .slice (some ⟨b, 0, none⟩) 2 2]] X fun e X' => ∃ a' c', e = .returned (.slice a' 3 c') ∧ Pk w Ba n7 n2 b a c X' := by
  refine Calls.mono (tplaces_any Tf _ X h.r Tf_short (by simp [Tf, Ta, T.parts, T.parts.kids])) ?_
  rintro e X' ⟨a', c', he, hb⟩
  exact ⟨a', c', by rw [he]; rfl, h.keep hb⟩

theorem pk_depth {w : World} {Ba n7 n2 b : Nat} {a : Option Addr} {c : Nat} {X : World} (h : Pk w Ba n7 n2 b a c X) : Calls Try.prog 12 #[.agg #[.int .i64 0, .string ⟨#[102]⟩, .slice (some ⟨b, 0, none⟩) 2 2]] X fun e X' => e = .returned (.int .i64 2) ∧ Pk w Ba n7 n2 b a c X' := by
  refine Calls.mono (tdepth_any Tf _ X h.r Tf_short) ?_
  rintro e X' ⟨he, hb⟩
  exact ⟨by rw [he]; rfl, h.keep hb⟩

end Go.Proofs.Ytbbfpllffcfmhaa

/-
  alive.
-/
namespace Go.Proofs.Ytbbfpllffcfmhaa
open Go.RowKit Go.Maps

theorem get_f' (n0 Ba : Nat) (B : List Nat) (W : World) (hb : BankSt n0 Ba B 10 ((bumps [1, 1] ([⟨1, Na, 0, 0⟩] ++ [⟨2, Nf, 0, 0⟩])).map (keepE 2)) [] W) :
    Calls Try.prog 29 #[.pointer (some ⟨Ba, 0, none⟩), .int .i64 2] W fun e' W' => ∃ a c, e' = .returned (.tuple #[.agg #[.int .i64 0, .string ⟨#[102]⟩, .slice a 2 c], .int .i64 0]) ∧ ArgsAt W' (.slice a 2 c) Tf.args ∧ Below W.heap.size W W' := by
  refine Calls.mono (get_f n0 Ba B 10 W hb) ?_
  rintro e W' ⟨sl, he, ha, hbl⟩
  obtain ⟨a, c, hs, _, _⟩ := ha.slice
  have hs' : sl = .slice a 2 c := hs
  subst hs'
  exact ⟨a, c, he, ha, hbl⟩

theorem pk_made {w w1 w4 w5 : World} {Ba n0 : Nat} {B' : List Nat} {a : Option Addr} {c : Nat} (hb1 : Below w.heap.size w w1) (h6 : w1.heap[w.heap.size + 1]? = some (.cells #[.int .i64 0, .string ⟨#[97]⟩, .slice none 0 0, .int .i64 0, .string ⟨#[97]⟩, .slice none 0 0] 24 (0, 0))) (hBk4 : BankSt n0 Ba B' 10 ((bumps [1, 1] ([⟨1, Na, 0, 0⟩] ++ [⟨2, Nf, 0, 0⟩])).map (keepE 2)) [] w4)
    (hb4 : Below (w1.alloc (.cells #[.int .i64 0, .string ⟨#[102]⟩, .slice (some ⟨w.heap.size + 1, 0, none⟩) 2 2] 24)).heap.size (w1.alloc (.cells #[.int .i64 0, .string ⟨#[102]⟩, .slice (some ⟨w.heap.size + 1, 0, none⟩) 2 2] 24)) w4) (ha5 : ArgsAt w5 (.slice a 2 c) Tf.args) (hb5 : Below w4.heap.size w4 w5) :
    Pk w Ba w5.heap.size w1.heap.size (w.heap.size + 1) a c (w5.alloc (.cells #[.int .i64 0, .string ⟨#[102]⟩, .slice a 2 c] 24)) := by
  have hb6 := below_box w5 (.cells #[.int .i64 0, .string ⟨#[102]⟩, .slice a 2 c] 24)
  have h15 := hb4.trans (hb5.mono hb4.size)
  have h1 := (below_box w1 (.cells #[.int .i64 0, .string ⟨#[102]⟩, .slice (some ⟨w.heap.size + 1, 0, none⟩) 2 2] 24)).trans (h15.mono (by simp))
  have hl := (Array.getElem?_eq_some_iff.1 h6).1
  have hs := h1.size
  have hs2 : w1.heap.size < w5.heap.size := by have := h15.size; simp at this; omega
  have hB5 := hBk4.keep (W' := w5) (fun r hr => hb5.block r (hBk4.there r hr).2)
  exact ⟨⟨n0, B', hB5.keep (fun r hr => hb6.block r (hB5.there r hr).2)⟩, ArgsAt.keep hb6 (Nat.le_refl _) ha5, args_f ((hb6.block _ (by omega)).trans ((h1.block _ hl).trans h6)), (MapKept.heap_alloc w5 _).1, (hb6.block _ hs2).trans ((h15.block w1.heap.size (by simp)).trans (MapKept.heap_alloc w1 _).1), hb1.trans ((h1.mono hb1.size).trans (hb6.mono (by have := hb1.size; omega)))⟩

set_option maxRecDepth 100000 in
set_option maxHeartbeats 2000000 in
theorem alive_any (w : World) : Calls Try.prog 17 #[] w fun e w' => e = .returned (.bool true) ∧ Below w.heap.size w w' := by
  go_enter Try.func17, Try.ntmps17
  go_wp2_with (first
    | (go_at_call 39; refine (fa_any _ _ _ _).mono ?_; rintro e w1 ⟨rfl, hb1, hs1⟩; have h6 : w1.heap[w.heap.size + 1]? = some (.cells #[.int .i64 0, .string ⟨#[97]⟩, .slice none 0 0, .int .i64 0, .string ⟨#[97]⟩, .slice none 0 0] 24 (0, 0)) := (hb1.block _ (by simp)).trans (by { have := (MapKept.heap_alloc (w.alloc (.cells #[.int .i64 0, .string ⟨#[97]⟩, .slice none 0 0] 24)) (.cells #[.int .i64 0, .string ⟨#[97]⟩, .slice none 0 0, .int .i64 0, .string ⟨#[97]⟩, .slice none 0 0] 24)).1; rwa [World.size_alloc] at this }); have hb1' : Hid (Below w.heap.size w w1) := (below_box2 w _ _).trans (hb1.mono (by simp; omega)); clear hb1 hs1)
    | (go_at_call 22; refine (new_ok 10 _ (by omega) (by omega) _ (Nat.le_refl _)).mono ?_; rintro e w3 ⟨Ba, B, rfl, hBk, hlow, hb3⟩; have hn2 := (hb3.block w1.heap.size (by simp)).trans (MapKept.heap_alloc w1 _).1; obtain ⟨k0, k1, k2⟩ := box3 hn2; clear hlow hn2)
    | (go_at_call 25; refine (make_f _ w3 (w.heap.size + 1) Ba B (Nat.lt_trans (Array.getElem?_eq_some_iff.1 h6).1 (by simp)) ((Below.heap_alloc _ _ _ (Array.getElem?_eq_some_iff.1 h6).1).trans h6) hBk hb3).mono ?_; rintro e w4 ⟨rfl, B', hBk4, hb4⟩; clear k0 k1 k2 hb3 hBk)
    | (go_at_call 29; refine (get_f' _ Ba B' w4 hBk4).mono ?_; rintro e w5 ⟨a, c, rfl, ha5, hb5⟩; have HP : Hid (Pk w Ba w5.heap.size w1.heap.size (w.heap.size + 1) a c (w5.alloc (.cells #[.int .i64 0, .string ⟨#[102]⟩, .slice a 2 c] 24))) := pk_made hb1' h6 hBk4 hb4 ha5 hb5; obtain ⟨p0, p1, p2⟩ := box3 HP.c2; clear hBk4 hb4 hb5 ha5 h6)
    | (go_at_call 31; refine (pk_len HP).mono ?_; rintro e w7 ⟨rfl, rfl⟩)
    | (go_at_call 18; refine (pk_same HP).mono ?_; rintro e w8 ⟨rfl, HP8⟩; obtain ⟨s0, s1, s2⟩ := box3 HP8.c2; clear HP p0 p1 p2)
    | (go_at_call 10; refine (pk_size HP8).mono ?_; rintro e w9 ⟨rfl, HP9⟩; obtain ⟨q0, q1, q2⟩ := box3 HP9.c2; clear HP8 s0 s1 s2)
    | (go_at_call 40; refine (pk_places HP9).mono ?_; rintro e w10 ⟨a', c', rfl, HP10⟩; obtain ⟨v0, v1, v2⟩ := box3 HP10.c2; clear HP9 q0 q1 q2)
    | (go_at_call 12; refine (pk_depth HP10).mono ?_; rintro e w11 ⟨rfl, HP11⟩))
  go_ret
  exact ⟨rfl, HP11.bel⟩

end Go.Proofs.Ytbbfpllffcfmhaa
