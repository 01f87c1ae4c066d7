/-
  Generals of an index with one term; what must come at any rate.
-/
import Derived.Test.YtiklbkkimmgbcaaFK
namespace Go.Proofs.Ytiklbkkimmgbcaa
open Go.RowKit Go.Maps

set_option maxRecDepth 100000 in
set_option maxHeartbeats 4000000 in
theorem generals_one (w : World) (bx m1 m2 g m3 : Nat) (id : Int) (a b c d : Ft) (t : T) (s : Value) (hr : t.rightW = 0) (hsh : Short t) (W : World) (hI : Ix2 w bx m1 m2 g m3 id a b c d W) (ha : ArgsAt W s t.args) :
    Calls Try.prog 26 #[.pointer (some ⟨bx, 0, none⟩), tval t s] W fun e W' => ∃ v, e = .returned v ∧ RowAt (fun k : Int => .int .i64 k) W' v (if fitB matB [a, b, c, d] (feats t) = true then [id] else []) ∧ Below W.heap.size W W' := by
  obtain ⟨L, hL⟩ : ∃ L, (if fitB matB [a, b, c, d] (feats t) = true then [id] else []) = L := ⟨_, rfl⟩
  have HLs : Hid ((if fitB matB [a, b, c, d] (feats t) = true then [id] else []) = L) := hL
  rw [hL]
  clear hL
  obtain ⟨W1, h1⟩ : ∃ X, W.alloc (tbox t s) = X := ⟨_, rfl⟩
  have b1 : Below W.heap.size W W1 := by rw [← h1]; exact below_box _ _
  have s1 : W1.heap.size = W.heap.size + 1 := by rw [← h1]; simp
  obtain ⟨x0, x1, x2⟩ := tbox_cells W t s
  rw [h1] at x0 x1 x2
  have hc9 := fof_any t s W1 (ArgsAt.keep b1 (Nat.le_refl _) ha)
  have HX : Hid (∀ Z, Below W1.heap.size W1 Z → Z.cell? ⟨W.heap.size, 0, none⟩ = some (.int .i64 t.v) ∧ Z.cell? ⟨W.heap.size, 1, none⟩ = some (.string t.fn) ∧ Z.cell? ⟨W.heap.size, 2, none⟩ = some s) := fun Z hZ => ⟨kc hZ (by omega) x0, kc hZ (by omega) x1, kc hZ (by omega) x2⟩
  have HA : Hid (∀ Z, Below W.heap.size W Z → Ix2 w bx m1 m2 g m3 id a b c d Z ∧ ArgsAt Z s t.args) := fun Z hZ => ⟨hI.keep hZ, ArgsAt.keep hZ (Nat.le_refl _) ha⟩
  have HB : Hid (Below W.heap.size W W1) := b1
  have HRi : Hid (t.rightW = 0 ∧ Short t) := ⟨hr, hsh⟩
  obtain ⟨sa, sc, rfl, _, _⟩ := ha.slice
  clear b1 ha hI hr hsh
  go_enter Try.func26, Try.ntmps26
  try rw [h1]
  go_wp2_with fail
  try rw [h1]
  refine hc9.mono ?_
  rintro e W2 ⟨v2, rfl, hF2, b2⟩
  obtain ⟨va, vc, rfl, hvc, hvm⟩ := hF2.slice
  obtain ⟨W3, h3⟩ : ∃ X, W2.alloc (.cells #[.slice none 0 0] 26) = X := ⟨_, rfl⟩
  have b3 : Below W2.heap.size W2 W3 := by rw [← h3]; exact below_box _ _
  have z3 : W3.heap[W2.heap.size]? = some (.cells #[.slice none 0 0] 26 (0, 0)) := by rw [← h3]; exact (MapKept.heap_alloc _ _).1
  have c3 : W3.cell? ⟨W2.heap.size, 0, none⟩ = some (.slice none 0 0) := by simp [World.cell?, z3]
  have f3 : W3.frozen? ⟨W2.heap.size, 0, none⟩ = false := by simp [World.frozen?, z3]
  have q4 := Go.heap_setCell_same W3 W2.heap.size 0 _ 26 (.slice va (feats t).length vc) z3
  obtain ⟨W4, h4⟩ : ∃ X, W3.setCell ⟨W2.heap.size, 0, none⟩ (.slice va (feats t).length vc) = X := ⟨_, rfl⟩
  rw [h4] at q4
  have c4 : W4.cell? ⟨W2.heap.size, 0, none⟩ = some (.slice va (feats t).length vc) := by simp [World.cell?, q4]
  have b34 : Below W2.heap.size W3 W4 := by rw [← h4]; exact (only_setCell W3 W2.heap.size 0 _).below b3.size (by simp)
  have b24 : Below W2.heap.size W2 W4 := b3.trans b34
  have b14 : Below W1.heap.size W1 W4 := b2.trans (b24.mono b2.size)
  have b04 : Below W.heap.size W W4 := HB.out.trans (b14.mono HB.out.size)
  obtain ⟨hI4, ha4⟩ := HA.out W4 b04
  have hc41 := fitting_one w bx m1 m2 g m3 id a b c d (feats t) _ W2.heap.size t _ HRi.out.1 HRi.out.2 W4 hI4 ha4 (hF2.keep b24 (Nat.le_refl _)) c4
  rw [HLs.out] at hc41
  obtain ⟨u0, u1, u2⟩ := HX.out W4 b14
  have H4 : Hid (Below W.heap.size W W4) := b04
  obtain ⟨ba, hba⟩ : ∃ n, W2.heap.size = n := ⟨_, rfl⟩
  rw [hba] at hc41 h4 c3 f3
  rw [show (feats t).length = 4 from rfl] at h4
  clear hF2 b2 b3 z3 q4 c4 b34 b24 b14 b04 hI4 ha4 x0 x1 x2 hc9
  go_wp2_with fail
  try rw [h3]
  try rw [h4]
  refine hc41.mono ?_
  rintro e W5 ⟨v, rfl, hrow, b5⟩
  have HF : Hid (RowAt (fun k : Int => .int .i64 k) W5 v L ∧ Below W.heap.size W W5) := ⟨hrow, H4.out.trans (b5.mono H4.out.size)⟩
  clear hrow b5
  go_wp2
  go_ret
  exact ⟨_, rfl, HF.out⟩

end Go.Proofs.Ytiklbkkimmgbcaa
