/-
  The walk of the chapter's example.
-/
import Derived.Test.YtdbfmjfbiokfdaaDoorH
import Derived.Lib.SlBytesConst
import Derived.Lib.SmallJoins
namespace Go.Proofs.YtdbfmjfbiokfdaaDoor
open Go.RowKit

/-- A new block of bytes. -/
theorem bts_lit (W : World) (xs : List Int) (fr : Nat × Nat) (hb : ∀ x ∈ xs, 0 ≤ x ∧ x ≤ 255) (hl : xs.length ≤ 9223372036854775807) : Bts (W.alloc (.cells (xs.map (Value.int .u8)).toArray 5 fr)) (.slice (some ⟨W.heap.size, 0, none⟩) xs.length xs.length) xs := by
  refine ⟨_, _, rfl, Nat.le_refl _, hl, hb, fun _ => ⟨W.heap.size, 0, rfl, fun i hi => ?_⟩⟩
  rw [cell_of_row _ W.heap.size (0 + i) _ 5 fr (World.alloc_heap_new W _), List.getD_eq_getElem?_getD]
  simp [List.getElem?_eq_getElem hi]

theorem ex1 : feedS [] false [97, 98] = ([97, 98], false, []) := by decide
theorem ex2 : feedS [97, 98] false [99, 10, 100, 10, 10] = ([], false, [(⟨#[97, 98, 99]⟩, 0), (⟨#[100]⟩, 0), (⟨#[]⟩, 0)]) := by decide
theorem ex3 : vld [195, 177] = true := by decide
theorem ex4 : ofL (cutS [32, 32, 97, 32, 32, 98]).1 = ⟨#[97]⟩ := by decide
theorem ex5 : ofL (cutS [32, 32, 97, 32, 32, 98]).2 = ⟨#[32, 98]⟩ := by decide

theorem cut_ex (w : World) : Calls Tryd.prog 11 #[.string ⟨#[32, 32, 97, 32, 32, 98]⟩] w fun e w' => e = .returned (.tuple #[.string ⟨#[97]⟩, .string ⟨#[32, 98]⟩]) ∧ ∃ n, w' = w.drewN n := by
  have := cut_any ⟨#[32, 32, 97, 32, 32, 98]⟩ w (by decide)
  rw [show ((⟨#[32, 32, 97, 32, 32, 98]⟩ : ByteArray).data.toList) = [32, 32, 97, 32, 32, 98] from rfl, ex4, ex5] at this
  exact this

theorem feed_ex1 (w : World) : Calls Tryd.prog 19 #[.pointer (some ⟨w.heap.size, 0, none⟩), .slice (some ⟨w.heap.size + 1, 0, none⟩) 2 2] ((w.alloc (.cells #[.slice none 0 0, .bool false] 54)).alloc (.cells #[.int .u8 97, .int .u8 98] 5 (2, 3))) fun e W' =>
    ∃ a c kv, e = .returned (.slice a 0 c) ∧ Keeps W' w.heap.size kv [97, 98] false ∧ Below w.heap.size w W' ∧ (∀ g, kv.ownBlock = some g → w.heap.size ≤ g) := by
  have hB := bts_lit (w.alloc (.cells #[.slice none 0 0, .bool false] 54)) [97, 98] (2, 3) (by decide) (by decide)
  rw [World.size_alloc] at hB
  have hk : Keeps ((w.alloc (.cells #[.slice none 0 0, .bool false] 54)).alloc (.cells #[.int .u8 97, .int .u8 98] 5 (2, 3))) w.heap.size (.slice none 0 0) [] false :=
    ⟨(Below.heap_alloc _ _ _ (by simp)).trans (World.alloc_heap_new w _), World.ownsRow_nil _ _ _ _, by simp, by simp⟩
  refine (feed_any w.heap.size (.slice none 0 0) _ [] false [97, 98] _ hk hB (fun _ b hb => ?_) (by decide)).mono ?_
  · simp [Value.ownBlock] at hb
    subst hb
    exact ⟨by omega, by simp [Value.ownBlock]⟩
  · rintro e W' ⟨v, kv, rfl, hk', ht, hr⟩
    rw [ex1] at hk' hr
    obtain ⟨a, c, rfl, _⟩ := row_form hr
    have hs := ht.size
    simp at hs
    have hrw : ∀ g, kv.ownBlock = some g → w.heap.size ≤ g := by
      intro g hg
      rcases ht.row g hg with e | e
      · simp [Value.ownBlock] at e
      · simp at e; omega
    refine ⟨a, c, kv, rfl, hk', ⟨ht.os, ht.tape, ht.output, by omega, fun k hk => ?_⟩, hrw⟩
    rw [ht.block k (by simp; omega) (by omega) (by simp [Value.ownBlock]), Below.heap_alloc _ _ _ (by simp; omega), Below.heap_alloc _ _ _ hk]

theorem feed_ex2 (w : World) (Bb : Nat) (kv : Value) (hk : Keeps w Bb kv [97, 98] false) (B : Nat) (hB0 : B ≤ Bb) (hrow : ∀ g, kv.ownBlock = some g → B ≤ g) : Calls Tryd.prog 19 #[.pointer (some ⟨Bb, 0, none⟩), .slice (some ⟨w.heap.size, 0, none⟩) 5 5] (w.alloc (.cells #[.int .u8 99, .int .u8 10, .int .u8 100, .int .u8 10, .int .u8 10] 5 (5, 6))) fun e W' =>
    ∃ g c, e = .returned (.slice (some ⟨g, 0, none⟩) 3 c) ∧ W'.cell? ⟨g, 0, none⟩ = some (.string ⟨#[97, 98, 99]⟩) ∧ W'.cell? ⟨g, 2, none⟩ = some (.string ⟨#[100]⟩) ∧ Below B w W' := by
  have hB := bts_lit w [99, 10, 100, 10, 10] (5, 6) (by decide) (by decide)
  have hlt := hk.1.lt
  have hk1 : Keeps (w.alloc (.cells #[.int .u8 99, .int .u8 10, .int .u8 100, .int .u8 10, .int .u8 10] 5 (5, 6))) Bb kv [97, 98] false :=
    hk.kept (World.grownBy_alloc w _ none) (by simp) (by cases kv.ownBlock <;> simp)
  refine (feed_any Bb kv _ [97, 98] false [99, 10, 100, 10, 10] _ hk1 hB (fun _ b hb => ?_) (by decide)).mono ?_
  · simp [Value.ownBlock] at hb
    subst hb
    refine ⟨by omega, fun e => ?_⟩
    have := (hk.2.1.lt _ e.symm).2
    omega
  · rintro e W' ⟨v, kv', rfl, hk', ht, hr⟩
    rw [ex2] at hr
    have hs := ht.size
    simp at hs
    obtain ⟨g, c, rfl⟩ := ownsRow_succ hr
    refine ⟨g, c, rfl, ?_, ?_, ⟨ht.os, ht.tape, ht.output, by omega, fun k hk => ?_⟩⟩
    · exact hr.cells (g := g) rfl 0 _ rfl
    · exact hr.cells (g := g) rfl 2 _ rfl
    · rw [ht.block k (by simp; omega) (by omega) (fun e => by have := hrow k e.symm; omega), Below.heap_alloc _ _ _ (by omega)]

set_option maxRecDepth 100000 in
set_option maxHeartbeats 1000000 in
theorem alive_any (w : World) : Calls Tryd.prog 10 #[] w fun e w' => e = .returned (.bool true) ∧ Below w.heap.size w w' := by
  have ad : ∀ (W : World) (j : Nat) (o : Obj), (W.drewN j).alloc o = (W.alloc o).drewN j := fun _ _ _ => rfl
  have hcv1 := Joins.run_convert_bytes_const_at (P := Tryd.prog) (w.alloc (.cells #[.slice none 0 0, .bool false] 54)) 22 5 #[.int .u8 97, .int .u8 98] 2 2 (w.heap.size + 1) (by simp) Tryd.underlying22 Tryd.underlying5
  go_enter Tryd.func10, Tryd.ntmps10
  go_wp2_with (first
    | (go_at_call 16; refine (new_any _).mono ?_; rintro e w' ⟨rfl, rfl⟩)
    | (go_at_call 19; refine (feed_ex2 w2 w.heap.size kv hk2 w.heap.size (Nat.le_refl _) hrow2).mono ?_; rintro e w3 ⟨g, c, rfl, hc0, hc2, hb3⟩)
    | (go_at_call 19; refine (feed_ex1 w).mono ?_; rintro e w2 ⟨xa, xc, kv, rfl, hk2, hb2, hrow2⟩; have hcv2 := Lib.run_convert_bytes_const (P := Tryd.prog) w2 22 5 #[.int .u8 99, .int .u8 10, .int .u8 100, .int .u8 10, .int .u8 10] 5 5 Tryd.underlying22 Tryd.underlying5)
    | (go_at_call 11; refine (cut_ex _).mono ?_; rintro e w4 ⟨rfl, q, rfl⟩; have hcv3 : (convert 22 22 (.slice (some ⟨w3.heap.size, 0, none⟩) 2 2)).run Tryd.prog ((w3.alloc (.cells #[.int .u8 195, .int .u8 177] 5)).drewN q) = .ok (.slice (some ⟨w3.heap.size, 0, none⟩) 2 2) ((w3.alloc (.cells #[.int .u8 195, .int .u8 177] 5 (2, 3))).drewN q) := Lib.run_convert_bytes_const (P := Tryd.prog) (w3.drewN q) 22 5 #[.int .u8 195, .int .u8 177] 2 2 Tryd.underlying22 Tryd.underlying5)
    | (go_at_call 8; refine (valid_any _ [195, 177] _ (show Bts ((w3.alloc (.cells #[.int .u8 195, .int .u8 177] 5 (2, 3))).drewN q) (.slice (some ⟨w3.heap.size, 0, none⟩) 2 2) [195, 177] from bts_lit (w3.drewN q) [195, 177] (2, 3) (by decide) (by decide))).mono ?_; rw [ex3]; rintro e w5 ⟨rfl, rfl⟩))
  go_ret
  have hbb := hb2.trans hb3
  have hb5 := hbb.alloc (by have := hbb.size; omega) (.cells #[.int .u8 195, .int .u8 177] 5 (2, 3))
  exact ⟨rfl, hb5.os, hb5.tape, hb5.output, hb5.size, hb5.block⟩

end Go.Proofs.YtdbfmjfbiokfdaaDoor
