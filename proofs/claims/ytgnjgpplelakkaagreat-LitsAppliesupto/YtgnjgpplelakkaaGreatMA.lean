import Derived.Test.YtgnjgpplelakkaaGreatMG
import Derived.Test.YtgnjgpplelakkaaGreatLH
import Derived.Test.YtgnjgpplelakkaaGreatLB

/-
  alive.
-/
namespace Go.Proofs.YtgnjgpplelakkaaGreat
open Go.RowKit Go.Maps Go.Shelf

def ca : T := .mk 0 ⟨#[97]⟩ []
def vr (n : Int) : T := .mk n ⟨#[]⟩ []
def ex2 : List Lt := [⟨false, vr 5, ca⟩, ⟨true, vr 2, vr 5⟩]
def ex2n : List Lt := [⟨false, vr 0, ca⟩, ⟨true, vr 1, vr 0⟩]

theorem ex2_norm : cnorm ex2 = ex2n := rfl
theorem ex2_size : csize ex2 = 4 := rfl
theorem ca_size : ca.size = 1 := rfl

theorem ex2_at (w : World) : ClauseAt (w.alloc (.cells #[.bool false, .int .i64 5, .string ⟨#[]⟩, .slice none 0 0, .int .i64 0, .string ⟨#[97]⟩, .slice none 0 0, .bool true, .int .i64 2, .string ⟨#[]⟩, .slice none 0 0, .int .i64 5, .string ⟨#[]⟩, .slice none 0 0] 40)) (.slice (some ⟨w.heap.size, 0, none⟩) 2 2) ex2 := by
  have h : (w.alloc (.cells #[.bool false, .int .i64 5, .string ⟨#[]⟩, .slice none 0 0, .int .i64 0, .string ⟨#[97]⟩, .slice none 0 0, .bool true, .int .i64 2, .string ⟨#[]⟩, .slice none 0 0, .int .i64 5, .string ⟨#[]⟩, .slice none 0 0] 40)).heap[w.heap.size]? = some (.cells [.bool false, .int .i64 5, .string ⟨#[]⟩, .slice none 0 0, .int .i64 0, .string ⟨#[97]⟩, .slice none 0 0, .bool true, .int .i64 2, .string ⟨#[]⟩, .slice none 0 0, .int .i64 5, .string ⟨#[]⟩, .slice none 0 0].toArray 40 (0, 0)) := (MapKept.heap_alloc w _).1
  refine ⟨some ⟨w.heap.size, 0, none⟩, 2, rfl, Nat.le_refl _, by decide, fun _ => ⟨w.heap.size, 0, rfl, fun i hi => ⟨.slice none 0 0, .slice none 0 0, ?_⟩⟩⟩
  have hi' : i < 2 := hi
  obtain rfl | rfl : i = 0 ∨ i = 1 := by omega
  · refine ⟨by simp, ?_, ?_, ?_, ?_, ?_, ?_, ?_, nilArgs _, nilArgs _⟩ <;> rw [cell_of_row _ _ _ _ 40 (0, 0) h] <;> rfl
  · refine ⟨by simp, ?_, ?_, ?_, ?_, ?_, ?_, ?_, nilArgs _, nilArgs _⟩ <;> rw [cell_of_row _ _ _ _ 40 (0, 0) h] <;> rfl

theorem ex1_at (w : World) : ClauseAt (w.alloc (.cells #[.bool false, .int .i64 0, .string ⟨#[97]⟩, .slice none 0 0, .int .i64 0, .string ⟨#[97]⟩, .slice none 0 0] 40)) (.slice (some ⟨w.heap.size, 0, none⟩) 1 1) [⟨false, ca, ca⟩] := by
  have h : (w.alloc (.cells #[.bool false, .int .i64 0, .string ⟨#[97]⟩, .slice none 0 0, .int .i64 0, .string ⟨#[97]⟩, .slice none 0 0] 40)).heap[w.heap.size]? = some (.cells [.bool false, .int .i64 0, .string ⟨#[97]⟩, .slice none 0 0, .int .i64 0, .string ⟨#[97]⟩, .slice none 0 0].toArray 40 (0, 0)) := (MapKept.heap_alloc w _).1
  refine ⟨some ⟨w.heap.size, 0, none⟩, 1, rfl, Nat.le_refl _, by decide, fun _ => ⟨w.heap.size, 0, rfl, fun i hi => ⟨.slice none 0 0, .slice none 0 0, ?_⟩⟩⟩
  have hi' : i < 1 := hi
  obtain rfl : i = 0 := by omega
  refine ⟨by simp, ?_, ?_, ?_, ?_, ?_, ?_, ?_, nilArgs _, nilArgs _⟩ <;> rw [cell_of_row _ _ _ _ 40 (0, 0) h] <;> rfl

theorem ex2n_read {W : World} {v : Value} (h : ClauseAt W v ex2n) : ∃ bb oo cv, v = .slice (some ⟨bb, oo, none⟩) 2 cv ∧ W.cell? ⟨bb, oo + 1, none⟩ = some (.int .i64 0) ∧ W.cell? ⟨bb, oo + 7 + 1, none⟩ = some (.int .i64 1) ∧ W.cell? ⟨bb, oo + 7, none⟩ = some (.bool true) := by
  obtain ⟨av, cv, hv, _, _, h3⟩ := h
  obtain ⟨bb, oo, rfl, h4⟩ := h3 (by decide)
  obtain ⟨s1, r1, h1⟩ := h4 0 (by decide)
  obtain ⟨s2, r2, h2⟩ := h4 1 (by decide)
  have x1 := h1.c1
  have x2 := h2.c1
  have x3 := h2.c0
  simp only [Nat.zero_mul, Nat.add_zero, Nat.one_mul] at x1 x2 x3
  exact ⟨bb, oo, cv, hv, x1, x2, x3⟩

theorem taut_ex : ctaut [⟨false, ca, ca⟩] = true := by
  have h : same ca ca = true := same_iff.2 rfl
  simp [ctaut, ctautL, h]

theorem same_ex : lsame ⟨false, ca, vr 0⟩ ⟨false, vr 0, ca⟩ = true := by
  have h : same ca ca = true := same_iff.2 rfl
  have h2 : same (vr 0) (vr 0) = true := same_iff.2 rfl
  unfold lsame lsides
  simp [h, h2]

theorem field_fn (v : Int) (fn : ByteArray) (s : Value) (W : World) : Sem.run Tryz.prog (Instr.field 28 (.agg #[.int .i64 v, .string fn, s]) 1) W = .ok (.string fn) W := by kernel_rfl

set_option maxRecDepth 100000 in
set_option maxHeartbeats 4000000 in
theorem alive_any (w : World) : Calls Tryz.prog 6 #[] w fun e w' => e = .returned (.bool true) ∧ Below w.heap.size w w' := by
  have hb1 := below_box w (.cells #[.int .i64 0, .string ⟨#[97]⟩, .slice none 0 0] 28)
  obtain ⟨a0, a1, a2⟩ := tbox_cells w ca (.slice none 0 0)
  have hn := normal_any ex2 _ _ (ex2_at (w.alloc (.cells #[.int .i64 0, .string ⟨#[97]⟩, .slice none 0 0] 28))) (by rw [ex2_size]; decide)
  rw [ex2_norm] at hn
  simp only [World.size_alloc] at hn
  have hb2 := below_box (w.alloc (.cells #[.int .i64 0, .string ⟨#[97]⟩, .slice none 0 0] 28)) (.cells #[.bool false, .int .i64 5, .string ⟨#[]⟩, .slice none 0 0, .int .i64 0, .string ⟨#[97]⟩, .slice none 0 0, .bool true, .int .i64 2, .string ⟨#[]⟩, .slice none 0 0, .int .i64 5, .string ⟨#[]⟩, .slice none 0 0] 40)
  have a02 := kc hb2 (by simp) a0
  have a12 := kc hb2 (by simp) a1
  have a22 := kc hb2 (by simp) a2
  have HB2 : Hid (Below w.heap.size w ((w.alloc (.cells #[.int .i64 0, .string ⟨#[97]⟩, .slice none 0 0] 28)).alloc (.cells #[.bool false, .int .i64 5, .string ⟨#[]⟩, .slice none 0 0, .int .i64 0, .string ⟨#[97]⟩, .slice none 0 0, .bool true, .int .i64 2, .string ⟨#[]⟩, .slice none 0 0, .int .i64 5, .string ⟨#[]⟩, .slice none 0 0] 40))) := hb1.trans (hb2.mono hb1.size)
  have HS2 : Hid (((w.alloc (.cells #[.int .i64 0, .string ⟨#[97]⟩, .slice none 0 0] 28)).alloc (.cells #[.bool false, .int .i64 5, .string ⟨#[]⟩, .slice none 0 0, .int .i64 0, .string ⟨#[97]⟩, .slice none 0 0, .bool true, .int .i64 2, .string ⟨#[]⟩, .slice none 0 0, .int .i64 5, .string ⟨#[]⟩, .slice none 0 0] 40)).heap.size = w.heap.size + 1 + 1) := by show _ = _; simp
  have hat : ∀ X : World, Calls Tryz.prog 15 #[.agg #[.int .i64 0, .string ⟨#[97]⟩, .slice none 0 0]] X fun e X' => ∃ a c, e = .returned (.agg #[.bool false, .int .i64 0, .string ⟨#[97]⟩, .slice a 0 c, .int .i64 0, .string ⟨#[36, 116, 114, 117, 101]⟩, .slice none 0 0]) ∧ ArgsAt X' (.slice a 0 c) [] ∧ Below X.heap.size X X' := fun X => (atom_any ca (.slice none 0 0) X (nilArgs X) (by rw [ca_size]; decide)).mono fun e X' ⟨s', he, hA, hb⟩ => by
    obtain ⟨a, c, rfl⟩ := hA.slice
    exact ⟨a, c, he, hA.args, hb⟩
  have his : ∀ (X : World) a c, ArgsAt X (.slice a 0 c) [] → Calls Tryz.prog 14 #[.agg #[.bool false, .int .i64 0, .string ⟨#[97]⟩, .slice a 0 c, .int .i64 0, .string ⟨#[36, 116, 114, 117, 101]⟩, .slice none 0 0]] X fun e X' => e = .returned (.bool true) ∧ Below X.heap.size X X' := fun X a c hA => (isAtom_any ⟨false, ca, tru⟩ (.slice a 0 c) (.slice none 0 0) X hA (nilArgs X)).mono fun e X' ⟨he, hb⟩ => ⟨by rw [he]; exact ret_bool (same_iff.2 rfl), hb⟩
  have hta : ∀ X : World, Calls Tryz.prog 16 #[.slice (some ⟨X.heap.size, 0, none⟩) 1 1] (X.alloc (.cells #[.bool false, .int .i64 0, .string ⟨#[97]⟩, .slice none 0 0, .int .i64 0, .string ⟨#[97]⟩, .slice none 0 0] 40)) fun e X' => e = .returned (.bool true) ∧ Below X.heap.size X X' := fun X => (taut_any _ _ _ (ex1_at X)).mono fun e X' ⟨he, hb⟩ => ⟨by rw [he]; exact ret_bool taut_ex, (below_box X _).trans (hb.mono (by simp))⟩
  have hsa : ∀ X : World, Calls Tryz.prog 17 #[.agg #[.bool false, .int .i64 0, .string ⟨#[97]⟩, .slice none 0 0, .int .i64 0, .string ⟨#[]⟩, .slice none 0 0], .agg #[.bool false, .int .i64 0, .string ⟨#[]⟩, .slice none 0 0, .int .i64 0, .string ⟨#[97]⟩, .slice none 0 0]] X fun e X' => e = .returned (.bool true) ∧ Below X.heap.size X X' := fun X => (lsame_any ⟨false, ca, vr 0⟩ ⟨false, vr 0, ca⟩ _ _ _ _ X (nilArgs X) (nilArgs X) (nilArgs X) (nilArgs X)).mono fun e X' ⟨he, hb⟩ => ⟨by rw [he]; exact ret_bool same_ex, hb⟩
  have htr : ∀ X : World, Calls Tryz.prog 13 #[] X fun e X' => e = .returned (.agg #[.int .i64 0, .string ⟨#[36, 116, 114, 117, 101]⟩, .slice none 0 0]) ∧ Below X.heap.size X X' := fun X => true_any X
  have a0' : (w.alloc (.cells #[.int .i64 0, .string ⟨#[97]⟩, .slice none 0 0] 28)).cell? ⟨w.heap.size, 0, none⟩ = some (.int .i64 0) := a0
  have a1' : (w.alloc (.cells #[.int .i64 0, .string ⟨#[97]⟩, .slice none 0 0] 28)).cell? ⟨w.heap.size, 1, none⟩ = some (.string ⟨#[97]⟩) := a1
  have a2' : (w.alloc (.cells #[.int .i64 0, .string ⟨#[97]⟩, .slice none 0 0] 28)).cell? ⟨w.heap.size, 2, none⟩ = some (.slice none 0 0) := a2
  have HA2 : Hid (((w.alloc (.cells #[.int .i64 0, .string ⟨#[97]⟩, .slice none 0 0] 28)).alloc (.cells #[.bool false, .int .i64 5, .string ⟨#[]⟩, .slice none 0 0, .int .i64 0, .string ⟨#[97]⟩, .slice none 0 0, .bool true, .int .i64 2, .string ⟨#[]⟩, .slice none 0 0, .int .i64 5, .string ⟨#[]⟩, .slice none 0 0] 40)).cell? ⟨w.heap.size, 0, none⟩ = some (.int .i64 0) ∧ ((w.alloc (.cells #[.int .i64 0, .string ⟨#[97]⟩, .slice none 0 0] 28)).alloc (.cells #[.bool false, .int .i64 5, .string ⟨#[]⟩, .slice none 0 0, .int .i64 0, .string ⟨#[97]⟩, .slice none 0 0, .bool true, .int .i64 2, .string ⟨#[]⟩, .slice none 0 0, .int .i64 5, .string ⟨#[]⟩, .slice none 0 0] 40)).cell? ⟨w.heap.size, 1, none⟩ = some (.string ⟨#[97]⟩) ∧ ((w.alloc (.cells #[.int .i64 0, .string ⟨#[97]⟩, .slice none 0 0] 28)).alloc (.cells #[.bool false, .int .i64 5, .string ⟨#[]⟩, .slice none 0 0, .int .i64 0, .string ⟨#[97]⟩, .slice none 0 0, .bool true, .int .i64 2, .string ⟨#[]⟩, .slice none 0 0, .int .i64 5, .string ⟨#[]⟩, .slice none 0 0] 40)).cell? ⟨w.heap.size, 2, none⟩ = some (.slice none 0 0)) := ⟨a02, a12, a22⟩
  have hfd := field_fn 0 ⟨#[36, 116, 114, 117, 101]⟩ (.slice none 0 0)
  clear a0 a1 a2 a02 a12 a22 hb1 hb2
  go_enter Tryz.func6, Tryz.ntmps6
  go_wp2_with (first
    | (go_at_call 17; refine (hsa W7).mono ?_; rintro e W8 ⟨rfl, hb8⟩)
    | (go_at_call 16; refine (hta W6).mono ?_; rintro e W7 ⟨rfl, hb7⟩; have p0 := kc hb7 (by have := HB6.out.size; omega) n0; have p1 := kc hb7 (by have := HB6.out.size; omega) n1; have p2 := kc hb7 (by have := HB6.out.size; omega) n2)
    | (go_at_call 14; refine (his W5 _ _ HA5.out).mono ?_; rintro e W6 ⟨rfl, hb6⟩; have n0 := kc hb6 (by have := HB5.out.size; omega) m0; have n1 := kc hb6 (by have := HB5.out.size; omega) m1; have n2 := kc hb6 (by have := HB5.out.size; omega) m2; have HB6 : Hid (Below (w.heap.size + 1 + 1) W3 W6) := HB5.out.trans (hb6.mono (by have := HB5.out.size; omega)); clear hb6)
    | (go_at_call 15; refine (hat W4).mono ?_; rintro e W5 ⟨a5, c5, rfl, hA5, hb5⟩; have m0 := kc hb5 (by have := HB4.out.size; omega) l0; have m1 := kc hb5 (by have := HB4.out.size; omega) l1; have m2 := kc hb5 (by have := HB4.out.size; omega) l2; have HA5 : Hid (ArgsAt W5 (.slice a5 0 c5) []) := hA5; have HB5 : Hid (Below (w.heap.size + 1 + 1) W3 W5) := HB4.out.trans (hb5.mono (by have := HB4.out.size; omega)); clear hA5 hb5)
    | (go_at_call 13; refine (htr W3).mono ?_; rintro e W4 ⟨rfl, hb4⟩; have l0 := kc hb4 (by omega) k0; have l1 := kc hb4 (by omega) k1; have l2 := kc hb4 (by omega) k2; have HB4 : Hid (Below (w.heap.size + 1 + 1) W3 W4) := hb4.mono (by omega); clear hb4)
    | (go_at_call 12; refine hn.mono ?_; rintro e W3 ⟨v', rfl, hcl, hb3⟩; obtain ⟨bb, oo, cv, rfl, x1, x2, x3⟩ := ex2n_read hcl; have hs3 : w.heap.size + 1 + 1 ≤ W3.heap.size := (by have := hb3.size; rw [HS2.out] at this; exact this); have k0 := kc hb3 (by omega) HA2.out.1; have k1 := kc hb3 (by omega) HA2.out.2.1; have k2 := kc hb3 (by omega) HA2.out.2.2; have HB3 : Hid (Below w.heap.size w W3) := HB2.out.trans (hb3.mono (by omega)); clear hcl hb3))
  go_ret
  exact ⟨rfl, (HB3.out.trans (HB6.out.mono (by omega))).trans ((hb7.trans (hb8.mono hb7.size)).mono (by have := HB3.out.size; have := HB6.out.size; omega))⟩

end Go.Proofs.YtgnjgpplelakkaaGreat

/-
  lits.Equal.
-/
namespace Go.Proofs.YtgnjgpplelakkaaGreat
open Go.RowKit

/-- Alike, side by side. -/
noncomputable def leq (x y : Lt) : Bool := (x.neg == y.neg) && same x.l y.l && same x.r y.r
theorem leq_iff {x y : Lt} : leq x y = true ↔ x = y := by
  unfold leq
  rw [Bool.and_eq_true, Bool.and_eq_true, same_iff, same_iff, beq_iff_eq]
  constructor
  · rintro ⟨⟨h1, h2⟩, h3⟩
    cases x; cases y
    simp_all
  · rintro rfl
    exact ⟨⟨rfl, rfl⟩, rfl⟩
open Classical in
noncomputable def ceq (c d : List Lt) : Bool := decide (c = d)

theorem ceq_true {c d : List Lt} : ceq c d = true ↔ c = d := by simp [ceq]
theorem ceq_false {c d : List Lt} (h : c ≠ d) : ceq c d = false := by simp [ceq, h]

end Go.Proofs.YtgnjgpplelakkaaGreat
