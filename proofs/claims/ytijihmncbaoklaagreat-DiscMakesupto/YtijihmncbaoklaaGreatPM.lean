/-
  term.At of the whole term, lits.copied, Atom, IsAtom.
-/
import Derived.Test.YtijihmncbaoklaaGreatSE
import Derived.Test.YtijihmncbaoklaaGreatPL
namespace Go.Proofs.YtijihmncbaoklaaGreat
open Go.RowKit

/-- A term's box, and a box for a term behind it. -/
theorem ctwo_boxes (w : World) (t : T) (sl : Value) : Below w.heap.size w ((w.alloc (tbox t sl)).alloc (.cells #[.int .i64 0, .string ⟨#[]⟩, .slice none 0 0] 32)) ∧ ((w.alloc (tbox t sl)).alloc (.cells #[.int .i64 0, .string ⟨#[]⟩, .slice none 0 0] 32)).cell? ⟨w.heap.size, 0, none⟩ = some (.int .i64 t.v) ∧ ((w.alloc (tbox t sl)).alloc (.cells #[.int .i64 0, .string ⟨#[]⟩, .slice none 0 0] 32)).cell? ⟨w.heap.size, 1, none⟩ = some (.string t.fn) ∧ ((w.alloc (tbox t sl)).alloc (.cells #[.int .i64 0, .string ⟨#[]⟩, .slice none 0 0] 32)).cell? ⟨w.heap.size, 2, none⟩ = some sl ∧ ((w.alloc (tbox t sl)).alloc (.cells #[.int .i64 0, .string ⟨#[]⟩, .slice none 0 0] 32)).heap[w.heap.size + 1]? = some (.cells #[.int .i64 0, .string ⟨#[]⟩, .slice none 0 0] 32 (0, 0)) ∧ ((w.alloc (tbox t sl)).alloc (.cells #[.int .i64 0, .string ⟨#[]⟩, .slice none 0 0] 32)).heap.size = w.heap.size + 1 + 1 := by
  obtain ⟨t0, t1, t2⟩ := tbox_cells w t sl
  have hbb := below_box (w.alloc (tbox t sl)) (.cells #[.int .i64 0, .string ⟨#[]⟩, .slice none 0 0] 32)
  refine ⟨below_box2 w _ _, kc hbb (by simp) t0, kc hbb (by simp) t1, kc hbb (by simp) t2, ?_, by simp⟩
  have := (MapKept.heap_alloc (w.alloc (tbox t sl)) (.cells #[.int .i64 0, .string ⟨#[]⟩, .slice none 0 0] 32)).1
  rw [World.size_alloc] at this
  exact this

set_option maxRecDepth 100000 in
set_option maxHeartbeats 2000000 in
theorem find_nil (t : T) (a : Option Addr) (n c : Nat) (w : World) : Calls Tryz.prog 118 #[tval t (.slice a n c), .slice none 0 0] w fun e W' => e = .returned (.tuple #[tval t (.slice a n c), .bool true]) ∧ Below w.heap.size w W' := by
  obtain ⟨hb2, c0, c1, c2, hz, hS⟩ := ctwo_boxes w t (.slice a n c)
  obtain ⟨⟨z0, z1, z2⟩, y0, y1, y2⟩ := box_facts hz
  have HB : Hid (Below w.heap.size w ((w.alloc (tbox t (.slice a n c))).alloc (.cells #[.int .i64 0, .string ⟨#[]⟩, .slice none 0 0] 32))) := hb2
  obtain ⟨W2, hW2⟩ : ∃ W2, (w.alloc (tbox t (.slice a n c))).alloc (.cells #[.int .i64 0, .string ⟨#[]⟩, .slice none 0 0] 32) = W2 := ⟨_, rfl⟩
  rw [hW2] at HB c0 c1 c2 z0 z1 z2 y0 y1 y2
  have HW : Hid ((w.alloc (tbox t (.slice a n c))).alloc (.cells #[.int .i64 0, .string ⟨#[]⟩, .slice none 0 0] 32) = W2) := hW2
  clear hb2 hz hW2 hS
  go_enter Tryz.func118, Tryz.ntmps118
  go_wp2
  go_loopw [10] (fun vi wr => vi = .int .i64 0 ∧ wr = W2) (fun _ _ => 0)
  case atStart => exact ⟨rfl, HW.out⟩
  case round =>
    obtain ⟨rfl, rfl⟩ := hrel
    go_wp2
    refine bodyPost_ret (v := .tuple #[tval t (.slice a n c), .bool true]) (by simp [results, Tryz.results118, go_sem, *, T.v, T.fn]) rfl ⟨rfl, ?_⟩
    exact set3_below HB.out _ 0 _ _ _ (Nat.le_succ _)

set_option maxRecDepth 100000 in
set_option maxHeartbeats 2000000 in
theorem at_nil (t : T) (sl : Value) (w : World) (ha : ArgsAt w sl t.args) (hs : t.size ≤ 1048576) : Calls Tryz.prog 91 #[tval t sl, .slice none 0 0] w fun e W' => ∃ s', e = .returned (.tuple #[tval t s', .int .i64 0]) ∧ ArgsFr w.heap.size W' s' t.args ∧ Below w.heap.size w W' := by
  obtain ⟨a, c, rfl, _, _⟩ := ha.slice
  obtain ⟨hb2, c0, c1, c2, hz, hS⟩ := ctwo_boxes w t (.slice a t.args.length c)
  have hfi := find_nil t a t.args.length c ((w.alloc (tbox t (.slice a t.args.length c))).alloc (.cells #[.int .i64 0, .string ⟨#[]⟩, .slice none 0 0] 32))
  have HA : Hid (ArgsAt ((w.alloc (tbox t (.slice a t.args.length c))).alloc (.cells #[.int .i64 0, .string ⟨#[]⟩, .slice none 0 0] 32)) (.slice a t.args.length c) t.args) := ArgsAt.keep hb2 (Nat.le_refl _) ha
  have HB : Hid (Below w.heap.size w ((w.alloc (tbox t (.slice a t.args.length c))).alloc (.cells #[.int .i64 0, .string ⟨#[]⟩, .slice none 0 0] 32))) := hb2
  have HZ : Hid (((w.alloc (tbox t (.slice a t.args.length c))).alloc (.cells #[.int .i64 0, .string ⟨#[]⟩, .slice none 0 0] 32)).heap[w.heap.size + 1]? = some (.cells #[.int .i64 0, .string ⟨#[]⟩, .slice none 0 0] 32 (0, 0)) ∧ ((w.alloc (tbox t (.slice a t.args.length c))).alloc (.cells #[.int .i64 0, .string ⟨#[]⟩, .slice none 0 0] 32)).heap.size = w.heap.size + 1 + 1) := ⟨hz, hS⟩
  clear hb2 hz ha hS
  go_enter Tryz.func91, Tryz.ntmps91
  go_wp2_with (first
    | (go_at_call 119; refine hcl.mono ?_; rintro e W3 ⟨s', rfl, hfr, hb3⟩; have hz3 := (hb3.block (w.heap.size + 1) (by have := HX.out.2.2.2; simp; omega)).trans HX.out.2.1; obtain ⟨⟨z0, z1, z2⟩, y0, y1, y2⟩ := box_facts hz3; obtain ⟨pa, pc, rfl⟩ := hfr.slice; have HH : Hid (ArgsFr (w.heap.size + 2) W3 (.slice pa t.args.length pc) t.args ∧ Below w.heap.size w W3) := ⟨hfr.low (by have := HX.out.2.2.2; simp; omega), HX.out.2.2.1.trans (hb3.mono (by have := HX.out.2.2.2; simp; omega))⟩; clear hfr hb3 hz3)
    | (go_at_call 118; refine hfi.mono ?_; rintro e W2 ⟨rfl, hb2⟩; have hb3 := below_box W2 (tbox t (.slice a t.args.length c)); have hw2 := hb2.trans (hb3.mono hb2.size); obtain ⟨d0, d1, d2⟩ := tbox_cells W2 t (.slice a t.args.length c); have hcl := clone_t t (.slice a t.args.length c) (W2.alloc (tbox t (.slice a t.args.length c))) (ArgsAt.keep hw2 (Nat.le_refl _) HA.out) hs; have HX : Hid (True ∧ (W2.alloc (tbox t (.slice a t.args.length c))).heap[w.heap.size + 1]? = some (.cells #[.int .i64 0, .string ⟨#[]⟩, .slice none 0 0] 32 (0, 0)) ∧ Below w.heap.size w (W2.alloc (tbox t (.slice a t.args.length c))) ∧ w.heap.size + 2 ≤ W2.heap.size) := ⟨trivial, (hw2.block (w.heap.size + 1) (by rw [HZ.out.2]; omega)).trans HZ.out.1, HB.out.trans (hw2.mono (by rw [HZ.out.2]; omega)), by have := hb2.size; rw [HZ.out.2] at this; omega⟩; clear hb2 hb3 hw2))
  refine bodyPost_ret (v := .tuple #[tval t (.slice pa t.args.length pc), .int .i64 0]) (by simp [results, Tryz.results91, go_sem, *, T.v, T.fn]) rfl ⟨_, rfl, ?_, ?_⟩
  · exact (HH.out.1.keep (W' := set3 W3 (w.heap.size + 1) 0 _ _ _) (by simp) (fun k hk _ => set3_other _ _ _ _ _ _ k (by omega))).low (by omega)
  · exact set3_below HH.out.2 _ 0 _ _ _ (Nat.le_succ _)

set_option maxRecDepth 100000 in
set_option maxHeartbeats 2000000 in
theorem copied_any (t : T) (sl : Value) (w : World) (ha : ArgsAt w sl t.args) (hs : t.size ≤ 1048576) : Calls Tryz.prog 62 #[tval t sl] w fun e W' => ∃ s', e = .returned (tval t s') ∧ ArgsFr w.heap.size W' s' t.args ∧ Below w.heap.size w W' := by
  obtain ⟨a, c, rfl, _, _⟩ := ha.slice
  obtain ⟨hb2, c0, c1, c2, hz, hS⟩ := ctwo_boxes w t (.slice a t.args.length c)
  have hat := at_nil t (.slice a t.args.length c) _ (ArgsAt.keep hb2 (Nat.le_refl _) ha) hs
  have HB : Hid (Below w.heap.size w ((w.alloc (tbox t (.slice a t.args.length c))).alloc (.cells #[.int .i64 0, .string ⟨#[]⟩, .slice none 0 0] 32))) := hb2
  have HZ : Hid (((w.alloc (tbox t (.slice a t.args.length c))).alloc (.cells #[.int .i64 0, .string ⟨#[]⟩, .slice none 0 0] 32)).heap[w.heap.size + 1]? = some (.cells #[.int .i64 0, .string ⟨#[]⟩, .slice none 0 0] 32 (0, 0)) ∧ ((w.alloc (tbox t (.slice a t.args.length c))).alloc (.cells #[.int .i64 0, .string ⟨#[]⟩, .slice none 0 0] 32)).heap.size = w.heap.size + 1 + 1) := ⟨hz, hS⟩
  clear hb2 hz ha hS
  go_enter Tryz.func62, Tryz.ntmps62
  go_wp2_with (first
    | (go_at_call 91; refine hat.mono ?_; rintro e W2 ⟨s', rfl, hfr, hb2⟩; obtain ⟨pa, pc, rfl⟩ := hfr.slice; have hb3 := below_box W2 (tbox t (.slice pa t.args.length pc)); have hw2 := hb2.trans (hb3.mono hb2.size); obtain ⟨d0, d1, d2⟩ := tbox_cells W2 t (.slice pa t.args.length pc); have hz3 := (hw2.block (w.heap.size + 1) (by rw [HZ.out.2]; omega)).trans HZ.out.1; obtain ⟨⟨z0, z1, z2⟩, y0, y1, y2⟩ := box_facts hz3; have HH : Hid (ArgsFr (w.heap.size + 2) (W2.alloc (tbox t (.slice pa t.args.length pc))) (.slice pa t.args.length pc) t.args ∧ Below w.heap.size w (W2.alloc (tbox t (.slice pa t.args.length pc)))) := ⟨(hfr.low (by rw [HZ.out.2]; omega)).keep hb3.size (fun k _ hk => hb3.block k hk), HB.out.trans (hw2.mono (by rw [HZ.out.2]; omega))⟩; clear hfr hb2 hb3 hw2 hz3))
  refine bodyPost_ret (v := tval t (.slice pa t.args.length pc)) (by simp [results, Tryz.results62, go_sem, *]) rfl ⟨_, rfl, ?_, ?_⟩
  · exact (HH.out.1.keep (W' := set3 (W2.alloc (tbox t (.slice pa t.args.length pc))) (w.heap.size + 1) 0 _ _ _) (by simp) (fun k hk _ => set3_other _ _ _ _ _ _ k (by omega))).low (by omega)
  · exact set3_below HH.out.2 _ 0 _ _ _ (Nat.le_succ _)

end Go.Proofs.YtijihmncbaoklaaGreat
