/-
  What a nil index says; FingerNils' walk.
-/
import Derived.Test.YtiklbkkimmgbcaaFN
namespace Go.Proofs.Ytiklbkkimmgbcaa
open Go.RowKit Go.Maps

set_option maxHeartbeats 1000000 in
theorem insert_nil (id : Int) (t : T) (s : Value) (w : World) (hs : ∃ a n c, s = .slice a n c) : Calls Try.prog 18 #[.pointer none, .int .i64 id, tval t s] w fun e w' => e = .returned (.int .i64 2) ∧ Below w.heap.size w w' := by
  obtain ⟨a, n, c, rfl⟩ := hs
  have hb := below_box w (tbox t (.slice a n c))
  go_enter Try.func18, Try.ntmps18
  go_wp2
  go_ret
  exact ⟨rfl, hb⟩
set_option maxHeartbeats 1000000 in
theorem remove_nil (id : Int) (w : World) : Calls Try.prog 20 #[.pointer none, .int .i64 id] w fun e w' => e = .returned (.int .i64 2) ∧ Below w.heap.size w w' := by
  go_enter Try.func20, Try.ntmps20
  go_wp2
  go_ret
  exact ⟨rfl, Below.refl _ _⟩
set_option maxHeartbeats 1000000 in
theorem len_nil (w : World) : Calls Try.prog 22 #[.pointer none] w fun e w' => e = .returned (.int .i64 0) ∧ Below w.heap.size w w' := by
  go_enter Try.func22, Try.ntmps22
  go_wp2
  go_ret
  exact ⟨rfl, Below.refl _ _⟩
set_option maxHeartbeats 1000000 in
theorem fitting_nil (t : T) (s : Value) (f : Value) (w : World) (hs : ∃ a n c, s = .slice a n c) : Calls Try.prog 41 #[.pointer none, tval t s, f] w fun e w' => e = .returned (.slice none 0 0) ∧ Below w.heap.size w w' := by
  obtain ⟨a, n, c, rfl⟩ := hs
  have hb := below_box w (tbox t (.slice a n c))
  go_enter Try.func41, Try.ntmps41
  go_wp2
  go_ret
  exact ⟨rfl, hb⟩

set_option maxRecDepth 100000 in
set_option maxHeartbeats 4000000 in
theorem unifiable_nil (t : T) (s : Value) (W : World) (ha : ArgsAt W s t.args) : Calls Try.prog 24 #[.pointer none, tval t s] W fun e W' => e = .returned (.slice none 0 0) ∧ Below W.heap.size W W' := by
  obtain ⟨W1, h1⟩ : ∃ X, W.alloc (tbox t s) = X := ⟨_, rfl⟩
  have b1 : Below W.heap.size W W1 := by rw [← h1]; exact below_box _ _
  have s1 : W1.heap.size = W.heap.size + 1 := by rw [← h1]; simp
  obtain ⟨x0, x1, x2⟩ := tbox_cells W t s
  rw [h1] at x0 x1 x2
  have hc9 := fof_any t s W1 (ArgsAt.keep b1 (Nat.le_refl _) ha)
  have HX : Hid (∀ Z, Below W1.heap.size W1 Z → Z.cell? ⟨W.heap.size, 0, none⟩ = some (.int .i64 t.v) ∧ Z.cell? ⟨W.heap.size, 1, none⟩ = some (.string t.fn) ∧ Z.cell? ⟨W.heap.size, 2, none⟩ = some s) := fun Z hZ => ⟨kc hZ (by omega) x0, kc hZ (by omega) x1, kc hZ (by omega) x2⟩
  have HB : Hid (Below W.heap.size W W1) := b1
  obtain ⟨sa, sc, rfl, _, _⟩ := ha.slice
  clear b1 ha
  go_enter Try.func24, Try.ntmps24
  try rw [h1]
  go_wp2_with fail
  try rw [h1]
  refine hc9.mono ?_
  rintro e W2 ⟨v2, rfl, hF2, b2⟩
  obtain ⟨va, vc, rfl, hvc, hvm⟩ := hF2.slice
  obtain ⟨W3, h3⟩ : ∃ X, W2.alloc (.cells #[.slice none 0 0] 26) = X := ⟨_, rfl⟩
  have b3 : Below W2.heap.size W2 W3 := by rw [← h3]; exact below_box _ _
  have z3 : W3.heap[W2.heap.size]? = some (.cells #[.slice none 0 0] 26 (0, 0)) := by rw [← h3]; exact (MapKept.heap_alloc _ _).1
  have c3 : W3.cell? ⟨W2.heap.size, 0, none⟩ = some (.slice none 0 0) := by simp [World.cell?, z3]
  have f3 : W3.frozen? ⟨W2.heap.size, 0, none⟩ = false := by simp [World.frozen?, z3]
  obtain ⟨W4, h4⟩ : ∃ X, W3.setCell ⟨W2.heap.size, 0, none⟩ (.slice va (feats t).length vc) = X := ⟨_, rfl⟩
  have b34 : Below W2.heap.size W3 W4 := by rw [← h4]; exact (only_setCell W3 W2.heap.size 0 _).below b3.size (by simp)
  have b24 : Below W2.heap.size W2 W4 := b3.trans b34
  have b14 : Below W1.heap.size W1 W4 := b2.trans (b24.mono b2.size)
  have b04 : Below W.heap.size W W4 := HB.out.trans (b14.mono HB.out.size)
  obtain ⟨u0, u1, u2⟩ := HX.out W4 b14
  have H4 : Hid (Below W.heap.size W W4) := b04
  obtain ⟨ba, hba⟩ : ∃ n, W2.heap.size = n := ⟨_, rfl⟩
  rw [hba] at h4 c3 f3
  rw [show (feats t).length = 4 from rfl] at h4
  have hc41 := fitting_nil t (.slice sa t.args.length sc) (.func (.func 42) #[] #[.pointer (some ⟨ba, 0, none⟩)]) W4 ⟨_, _, _, rfl⟩
  clear hF2 b2 b3 z3 b34 b24 b14 b04 x0 x1 x2 hc9
  go_wp2_with fail
  try rw [h3]
  try rw [h4]
  refine hc41.mono ?_
  rintro e W5 ⟨rfl, b5⟩
  have HF : Hid (Below W.heap.size W W5) := H4.out.trans (b5.mono H4.out.size)
  clear b5
  go_wp2
  go_ret
  exact ⟨rfl, HF.out⟩

set_option maxRecDepth 100000 in
set_option maxHeartbeats 4000000 in
theorem generals_nil (t : T) (s : Value) (W : World) (ha : ArgsAt W s t.args) : Calls Try.prog 26 #[.pointer none, tval t s] W fun e W' => e = .returned (.slice none 0 0) ∧ Below W.heap.size W W' := by
  obtain ⟨W1, h1⟩ : ∃ X, W.alloc (tbox t s) = X := ⟨_, rfl⟩
  have b1 : Below W.heap.size W W1 := by rw [← h1]; exact below_box _ _
  have s1 : W1.heap.size = W.heap.size + 1 := by rw [← h1]; simp
  obtain ⟨x0, x1, x2⟩ := tbox_cells W t s
  rw [h1] at x0 x1 x2
  have hc9 := fof_any t s W1 (ArgsAt.keep b1 (Nat.le_refl _) ha)
  have HX : Hid (∀ Z, Below W1.heap.size W1 Z → Z.cell? ⟨W.heap.size, 0, none⟩ = some (.int .i64 t.v) ∧ Z.cell? ⟨W.heap.size, 1, none⟩ = some (.string t.fn) ∧ Z.cell? ⟨W.heap.size, 2, none⟩ = some s) := fun Z hZ => ⟨kc hZ (by omega) x0, kc hZ (by omega) x1, kc hZ (by omega) x2⟩
  have HB : Hid (Below W.heap.size W W1) := b1
  obtain ⟨sa, sc, rfl, _, _⟩ := ha.slice
  clear b1 ha
  go_enter Try.func26, Try.ntmps26
  try rw [h1]
  go_wp2_with fail
  try rw [h1]
  refine hc9.mono ?_
  rintro e W2 ⟨v2, rfl, hF2, b2⟩
  obtain ⟨va, vc, rfl, hvc, hvm⟩ := hF2.slice
  obtain ⟨W3, h3⟩ : ∃ X, W2.alloc (.cells #[.slice none 0 0] 26) = X := ⟨_, rfl⟩
  have b3 : Below W2.heap.size W2 W3 := by rw [← h3]; exact below_box _ _
  have z3 : W3.heap[W2.heap.size]? = some (.cells #[.slice none 0 0] 26 (0, 0)) := by rw [← h3]; exact (MapKept.heap_alloc _ _).1
  have c3 : W3.cell? ⟨W2.heap.size, 0, none⟩ = some (.slice none 0 0) := by simp [World.cell?, z3]
  have f3 : W3.frozen? ⟨W2.heap.size, 0, none⟩ = false := by simp [World.frozen?, z3]
  obtain ⟨W4, h4⟩ : ∃ X, W3.setCell ⟨W2.heap.size, 0, none⟩ (.slice va (feats t).length vc) = X := ⟨_, rfl⟩
  have b34 : Below W2.heap.size W3 W4 := by rw [← h4]; exact (only_setCell W3 W2.heap.size 0 _).below b3.size (by simp)
  have b24 : Below W2.heap.size W2 W4 := b3.trans b34
  have b14 : Below W1.heap.size W1 W4 := b2.trans (b24.mono b2.size)
  have b04 : Below W.heap.size W W4 := HB.out.trans (b14.mono HB.out.size)
  obtain ⟨u0, u1, u2⟩ := HX.out W4 b14
  have H4 : Hid (Below W.heap.size W W4) := b04
  obtain ⟨ba, hba⟩ : ∃ n, W2.heap.size = n := ⟨_, rfl⟩
  rw [hba] at h4 c3 f3
  rw [show (feats t).length = 4 from rfl] at h4
  have hc41 := fitting_nil t (.slice sa t.args.length sc) (.func (.func 43) #[] #[.pointer (some ⟨ba, 0, none⟩)]) W4 ⟨_, _, _, rfl⟩
  clear hF2 b2 b3 z3 b34 b24 b14 b04 x0 x1 x2 hc9
  go_wp2_with fail
  try rw [h3]
  try rw [h4]
  refine hc41.mono ?_
  rintro e W5 ⟨rfl, b5⟩
  have HF : Hid (Below W.heap.size W W5) := H4.out.trans (b5.mono H4.out.size)
  clear b5
  go_wp2
  go_ret
  exact ⟨rfl, HF.out⟩

set_option maxRecDepth 100000 in
set_option maxHeartbeats 4000000 in
theorem instances_nil (t : T) (s : Value) (W : World) (ha : ArgsAt W s t.args) : Calls Try.prog 27 #[.pointer none, tval t s] W fun e W' => e = .returned (.slice none 0 0) ∧ Below W.heap.size W W' := by
  obtain ⟨W1, h1⟩ : ∃ X, W.alloc (tbox t s) = X := ⟨_, rfl⟩
  have b1 : Below W.heap.size W W1 := by rw [← h1]; exact below_box _ _
  have s1 : W1.heap.size = W.heap.size + 1 := by rw [← h1]; simp
  obtain ⟨x0, x1, x2⟩ := tbox_cells W t s
  rw [h1] at x0 x1 x2
  have hc9 := fof_any t s W1 (ArgsAt.keep b1 (Nat.le_refl _) ha)
  have HX : Hid (∀ Z, Below W1.heap.size W1 Z → Z.cell? ⟨W.heap.size, 0, none⟩ = some (.int .i64 t.v) ∧ Z.cell? ⟨W.heap.size, 1, none⟩ = some (.string t.fn) ∧ Z.cell? ⟨W.heap.size, 2, none⟩ = some s) := fun Z hZ => ⟨kc hZ (by omega) x0, kc hZ (by omega) x1, kc hZ (by omega) x2⟩
  have HB : Hid (Below W.heap.size W W1) := b1
  obtain ⟨sa, sc, rfl, _, _⟩ := ha.slice
  clear b1 ha
  go_enter Try.func27, Try.ntmps27
  try rw [h1]
  go_wp2_with fail
  try rw [h1]
  refine hc9.mono ?_
  rintro e W2 ⟨v2, rfl, hF2, b2⟩
  obtain ⟨va, vc, rfl, hvc, hvm⟩ := hF2.slice
  obtain ⟨W3, h3⟩ : ∃ X, W2.alloc (.cells #[.slice none 0 0] 26) = X := ⟨_, rfl⟩
  have b3 : Below W2.heap.size W2 W3 := by rw [← h3]; exact below_box _ _
  have z3 : W3.heap[W2.heap.size]? = some (.cells #[.slice none 0 0] 26 (0, 0)) := by rw [← h3]; exact (MapKept.heap_alloc _ _).1
  have c3 : W3.cell? ⟨W2.heap.size, 0, none⟩ = some (.slice none 0 0) := by simp [World.cell?, z3]
  have f3 : W3.frozen? ⟨W2.heap.size, 0, none⟩ = false := by simp [World.frozen?, z3]
  obtain ⟨W4, h4⟩ : ∃ X, W3.setCell ⟨W2.heap.size, 0, none⟩ (.slice va (feats t).length vc) = X := ⟨_, rfl⟩
  have b34 : Below W2.heap.size W3 W4 := by rw [← h4]; exact (only_setCell W3 W2.heap.size 0 _).below b3.size (by simp)
  have b24 : Below W2.heap.size W2 W4 := b3.trans b34
  have b14 : Below W1.heap.size W1 W4 := b2.trans (b24.mono b2.size)
  have b04 : Below W.heap.size W W4 := HB.out.trans (b14.mono HB.out.size)
  obtain ⟨u0, u1, u2⟩ := HX.out W4 b14
  have H4 : Hid (Below W.heap.size W W4) := b04
  obtain ⟨ba, hba⟩ : ∃ n, W2.heap.size = n := ⟨_, rfl⟩
  rw [hba] at h4 c3 f3
  rw [show (feats t).length = 4 from rfl] at h4
  have hc41 := fitting_nil t (.slice sa t.args.length sc) (.func (.func 44) #[] #[.pointer (some ⟨ba, 0, none⟩)]) W4 ⟨_, _, _, rfl⟩
  clear hF2 b2 b3 z3 b34 b24 b14 b04 x0 x1 x2 hc9
  go_wp2_with fail
  try rw [h3]
  try rw [h4]
  refine hc41.mono ?_
  rintro e W5 ⟨rfl, b5⟩
  have HF : Hid (Below W.heap.size W W5) := H4.out.trans (b5.mono H4.out.size)
  clear b5
  go_wp2
  go_ret
  exact ⟨rfl, HF.out⟩

set_option maxRecDepth 100000 in
set_option maxHeartbeats 8000000 in
theorem lawnils_any (id : Int) (t : T) (s : Value) (w : World) (ha : ArgsAt w s t.args) :
    Calls Try.prog 7 #[.int .i64 id, tval t s] w fun e w' => e = .returned (.bool true) ∧ Below w.heap.size w w' := by
  obtain ⟨W1, h1⟩ : ∃ X, w.alloc (tbox t s) = X := ⟨_, rfl⟩
  have b1 : Below w.heap.size w W1 := by rw [← h1]; exact below_box _ _
  have s1 : W1.heap.size = w.heap.size + 1 := by rw [← h1]; simp
  obtain ⟨x0, x1, x2⟩ := tbox_cells w t s
  rw [h1] at x0 x1 x2
  have l1 : w.heap.size < W1.heap.size := by omega
  replace x0 := cell_far l1 x0
  replace x1 := cell_far l1 x1
  replace x2 := cell_far l1 x2
  have f18 : ∀ Z, Below W1.heap.size W1 Z → Calls Try.prog 18 #[.pointer none, .int .i64 id, tval t s] Z fun e Z' => e = .returned (.int .i64 2) ∧ Below Z.heap.size Z Z' := fun Z _ => insert_nil id t s Z (by obtain ⟨a, c, rfl, _, _⟩ := ha.slice; exact ⟨_, _, _, rfl⟩)
  have f20 : ∀ Z, Below W1.heap.size W1 Z → Calls Try.prog 20 #[.pointer none, .int .i64 id] Z fun e Z' => e = .returned (.int .i64 2) ∧ Below Z.heap.size Z Z' := fun Z _ => remove_nil id Z
  have f22 : ∀ Z, Below W1.heap.size W1 Z → Calls Try.prog 22 #[.pointer none] Z fun e Z' => e = .returned (.int .i64 0) ∧ Below Z.heap.size Z Z' := fun Z _ => len_nil Z
  have f24 : ∀ Z, Below W1.heap.size W1 Z → Calls Try.prog 24 #[.pointer none, tval t s] Z fun e Z' => e = .returned (.slice none 0 0) ∧ Below Z.heap.size Z Z' := fun Z hZ => unifiable_nil t s Z (ArgsAt.keep (b1.trans (hZ.mono b1.size)) (Nat.le_refl _) ha)
  have f26 : ∀ Z, Below W1.heap.size W1 Z → Calls Try.prog 26 #[.pointer none, tval t s] Z fun e Z' => e = .returned (.slice none 0 0) ∧ Below Z.heap.size Z Z' := fun Z hZ => generals_nil t s Z (ArgsAt.keep (b1.trans (hZ.mono b1.size)) (Nat.le_refl _) ha)
  have f27 : ∀ Z, Below W1.heap.size W1 Z → Calls Try.prog 27 #[.pointer none, tval t s] Z fun e Z' => e = .returned (.slice none 0 0) ∧ Below Z.heap.size Z Z' := fun Z hZ => instances_nil t s Z (ArgsAt.keep (b1.trans (hZ.mono b1.size)) (Nat.le_refl _) ha)
  have f11 : ∀ Z, Below W1.heap.size W1 Z → Calls Try.prog 11 #[] Z fun e Z' => e = .returned (.bool true) ∧ Below Z.heap.size Z Z' := fun Z _ => alive_any Z
  have HB : Hid (Below w.heap.size w W1) := b1
  obtain ⟨sa, sc, rfl, _, _⟩ := ha.slice
  clear b1 ha l1
  go_enter Try.func7, Try.ntmps7
  try rw [h1]
  go_wp2
  try rw [h1]
  refine wp_region_far (by kernel_rfl) ?_
  repeat (first | go_big_quiet_step (first | exact calls_far f18 _ | exact calls_far f20 _ | exact calls_far f24 _ | exact calls_far f26 _ | exact calls_far f27 _ | exact calls_far f22 _ | exact calls_far f11 _) | quiet_step (first | exact calls_far f18 _ | exact calls_far f20 _ | exact calls_far f24 _ | exact calls_far f26 _ | exact calls_far f27 _ | exact calls_far f22 _ | exact calls_far f11 _))
  refine wpQuiet_nil ?_
  intro _ hw'
  obtain ⟨pf, rfl⟩ := hw'
  go_wp2
  go_ret
  exact ⟨rfl, HB.out.trans ((below_far W1 pf).mono HB.out.size)⟩

end Go.Proofs.Ytiklbkkimmgbcaa
