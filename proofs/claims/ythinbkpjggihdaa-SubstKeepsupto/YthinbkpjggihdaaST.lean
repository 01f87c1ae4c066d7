/-
  alive.
-/
import Derived.Test.YthinbkpjggihdaaSS
namespace Go.Proofs.Ythinbkpjggihdaa
open Go.RowKit

set_option maxRecDepth 100000 in
set_option maxHeartbeats 4000000 in
theorem alive_any (w : World) : Calls Try.prog 10 #[] w fun e w' => e = .returned (.bool true) ∧ Below w.heap.size w w' := by
  obtain ⟨W3, hW3⟩ : ∃ W3, ((w.alloc (.cells #[.int .i64 1, .string ⟨#[]⟩, .slice none 0 0] 25)).alloc (.cells #[.int .i64 0, .int .i64 0, .string ⟨#[102]⟩, .slice (some ⟨w.heap.size, 0, none⟩) 1 1] 35)).alloc (.cells #[.int .i64 0, .string ⟨#[]⟩, .slice none 0 0] 25) = W3 := ⟨_, rfl⟩
  have b1 := below_box w (.cells #[.int .i64 1, .string ⟨#[]⟩, .slice none 0 0] 25)
  have b2 := below_box (w.alloc (.cells #[.int .i64 1, .string ⟨#[]⟩, .slice none 0 0] 25)) (.cells #[.int .i64 0, .int .i64 0, .string ⟨#[102]⟩, .slice (some ⟨w.heap.size, 0, none⟩) 1 1] 35)
  have b3 := below_box ((w.alloc (.cells #[.int .i64 1, .string ⟨#[]⟩, .slice none 0 0] 25)).alloc (.cells #[.int .i64 0, .int .i64 0, .string ⟨#[102]⟩, .slice (some ⟨w.heap.size, 0, none⟩) 1 1] 35)) (.cells #[.int .i64 0, .string ⟨#[]⟩, .slice none 0 0] 25)
  have q1 := (MapKept.heap_alloc w (.cells #[.int .i64 1, .string ⟨#[]⟩, .slice none 0 0] 25)).1
  have q2 := (MapKept.heap_alloc (w.alloc (.cells #[.int .i64 1, .string ⟨#[]⟩, .slice none 0 0] 25)) (.cells #[.int .i64 0, .int .i64 0, .string ⟨#[102]⟩, .slice (some ⟨w.heap.size, 0, none⟩) 1 1] 35)).1
  have q3 := (MapKept.heap_alloc ((w.alloc (.cells #[.int .i64 1, .string ⟨#[]⟩, .slice none 0 0] 25)).alloc (.cells #[.int .i64 0, .int .i64 0, .string ⟨#[102]⟩, .slice (some ⟨w.heap.size, 0, none⟩) 1 1] 35)) (.cells #[.int .i64 0, .string ⟨#[]⟩, .slice none 0 0] 25)).1
  rw [World.size_alloc] at q2
  rw [World.size_alloc, World.size_alloc] at q3
  have hap := apply_ex (((w.alloc (.cells #[.int .i64 1, .string ⟨#[]⟩, .slice none 0 0] 25)).alloc (.cells #[.int .i64 0, .int .i64 0, .string ⟨#[102]⟩, .slice (some ⟨w.heap.size, 0, none⟩) 1 1] 35)).alloc (.cells #[.int .i64 0, .string ⟨#[]⟩, .slice none 0 0] 25)) w.heap.size (w.heap.size + 1) (w.heap.size + 1 + 1) ((b3.block _ (by simp; omega)).trans ((b2.block _ (by simp)).trans q1)) ((b3.block _ (by simp)).trans q2) q3
  have HB0 : Hid (Below w.heap.size w (((w.alloc (.cells #[.int .i64 1, .string ⟨#[]⟩, .slice none 0 0] 25)).alloc (.cells #[.int .i64 0, .int .i64 0, .string ⟨#[102]⟩, .slice (some ⟨w.heap.size, 0, none⟩) 1 1] 35)).alloc (.cells #[.int .i64 0, .string ⟨#[]⟩, .slice none 0 0] 25))) := b1.trans ((b2.mono (by simp)).trans (b3.mono (by simp; omega)))
  have hco : ∀ X : World, Calls Try.prog 16 #[.slice (some ⟨X.heap.size, 0, none⟩) 1 1, .slice (some ⟨X.heap.size + 1, 0, none⟩) 1 1] ((X.alloc (.cells #[.int .i64 0, .int .i64 1, .string ⟨#[]⟩, .slice none 0 0] 35)).alloc (.cells #[.int .i64 1, .int .i64 0, .string ⟨#[97]⟩, .slice none 0 0] 35)) fun e W' => ∃ b o pc, e = .returned (.tuple #[.slice (some ⟨b, o, none⟩) 2 pc, .int .i64 0]) ∧ W'.cell? ⟨b, o + 2, none⟩ = some (.string ⟨#[97]⟩) ∧ Below X.heap.size X W' := fun X => by
    have c2 := below_box (X.alloc (.cells #[.int .i64 0, .int .i64 1, .string ⟨#[]⟩, .slice none 0 0] 35)) (.cells #[.int .i64 1, .int .i64 0, .string ⟨#[97]⟩, .slice none 0 0] 35)
    have r1 := (MapKept.heap_alloc X (.cells #[.int .i64 0, .int .i64 1, .string ⟨#[]⟩, .slice none 0 0] 35)).1
    have r2 := (MapKept.heap_alloc (X.alloc (.cells #[.int .i64 0, .int .i64 1, .string ⟨#[]⟩, .slice none 0 0] 35)) (.cells #[.int .i64 1, .int .i64 0, .string ⟨#[97]⟩, .slice none 0 0] 35)).1
    rw [World.size_alloc] at r2
    exact (compose_ex _ X.heap.size (X.heap.size + 1) ((c2.block _ (by simp)).trans r1) r2).mono fun e W' ⟨b, o, pc, he, hc, hb⟩ => ⟨b, o, pc, he, hc, (below_box2 X _ _).trans (hb.mono (by simp; omega))⟩
  clear hW3 b1 b2 b3 q1 q2 q3
  go_enter Try.func10, Try.ntmps10
  go_wp2_with (first
    | (go_at_call 11; refine hap.mono ?_; rintro e X ⟨b, o, pc, rfl, hlt, hc, hpc, hb⟩; have hX5 := (MapKept.heap_alloc X (.cells #[.int .i64 0, .string ⟨#[103]⟩, .slice (some ⟨b, o, none⟩) 1 pc] 25)).1; have hc1 := kc (below_box X (.cells #[.int .i64 0, .string ⟨#[103]⟩, .slice (some ⟨b, o, none⟩) 1 pc] 25)) hlt hc; have HB : Hid (Below w.heap.size w (X.alloc (.cells #[.int .i64 0, .string ⟨#[103]⟩, .slice (some ⟨b, o, none⟩) 1 pc] 25))) := (HB0.out.trans (hb.mono (by simp; omega))).trans ((below_box X _).mono (by have := hb.size; simp at this; omega)); have hco' := hco (X.alloc (.cells #[.int .i64 0, .string ⟨#[103]⟩, .slice (some ⟨b, o, none⟩) 1 pc] 25)); simp only [World.size_alloc] at hco'; clear hb hc)
    | (go_at_call 16; refine hco'.mono ?_; rintro e Y ⟨b', o', pc', rfl, hc', hbY⟩; obtain ⟨⟨y0, y1, y2⟩, _⟩ := box_facts ((hbY.block X.heap.size (by omega)).trans hX5); have y3 := kc hbY (by omega) hc1))
  go_ret
  exact ⟨rfl, HB.out.trans (hbY.mono (by have := HB.out.size; simp at this ⊢; omega))⟩

end Go.Proofs.Ythinbkpjggihdaa
