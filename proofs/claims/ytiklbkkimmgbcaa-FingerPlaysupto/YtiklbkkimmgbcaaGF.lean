/-
  Unifiable, Generals, Instances, of any index.
-/
import Derived.Test.YtiklbkkimmgbcaaGE
namespace Go.Proofs.Ytiklbkkimmgbcaa
open Go.RowKit Go.Maps

theorem asks42 (l m : List Ft) (v va : Value) (ba : Nat) (w : World) (hl : FtAt w v l) (hm : FtAt w va m) (hc : w.cell? ⟨ba, 0, none⟩ = some va) :
    Calls Try.prog 42 #[v, .pointer (some ⟨ba, 0, none⟩)] w fun e w' => e = .returned (.bool (fitB uniB l m)) ∧ Below w.heap.size w w' := by
  have h := Unifies_any l m v va w hl hm
  obtain ⟨a1, c1, rfl, hc1, hm1⟩ := hl.slice
  obtain ⟨a2, c2, rfl, hc2, hm2⟩ := hm.slice
  clear hl hm
  go_enter Try.func42, Try.ntmps42
  go_wp2_with fail
  refine h.mono ?_
  rintro e W1 ⟨rfl, b1⟩
  go_wp2
  go_ret
  exact ⟨rfl, b1⟩
theorem asks44 (l m : List Ft) (v va : Value) (ba : Nat) (w : World) (hl : FtAt w v l) (hm : FtAt w va m) (hc : w.cell? ⟨ba, 0, none⟩ = some va) :
    Calls Try.prog 44 #[v, .pointer (some ⟨ba, 0, none⟩)] w fun e w' => e = .returned (.bool (fitB matB m l)) ∧ Below w.heap.size w w' := by
  have h := Matches_any m l va v w hm hl
  obtain ⟨a1, c1, rfl, hc1, hm1⟩ := hl.slice
  obtain ⟨a2, c2, rfl, hc2, hm2⟩ := hm.slice
  clear hl hm
  go_enter Try.func44, Try.ntmps44
  go_wp2_with fail
  refine h.mono ?_
  rintro e W1 ⟨rfl, b1⟩
  go_wp2
  go_ret
  exact ⟨rfl, b1⟩
set_option maxHeartbeats 1000000 in
/-- fitting, of a term that is not right. -/
theorem fitting_wrong (bx : Nat) (t : T) (s : Value) (f : Value) (W : World) (hr : t.rightW ≠ 0) (hsh : Short t) (ha : ArgsAt W s t.args) : Calls Try.prog 41 #[.pointer (some ⟨bx, 0, none⟩), tval t s, f] W fun e W' => e = .returned (.slice none 0 0) ∧ Below W.heap.size W W' := by
  obtain ⟨W1, h1⟩ : ∃ X, W.alloc (tbox t s) = X := ⟨_, rfl⟩
  have b1 : Below W.heap.size W W1 := by rw [← h1]; exact below_box _ _
  obtain ⟨x0, x1, x2⟩ := tbox_cells W t s
  rw [h1] at x0 x1 x2
  have hc39 := tright_any t s W1 (ArgsAt.keep b1 (Nat.le_refl _) ha) hsh
  have hz : (t.rightW != 0) = true := by simpa using hr
  obtain ⟨z, hzz⟩ : ∃ z, t.rightW = z := ⟨_, rfl⟩
  rw [hzz] at hc39 hz
  obtain ⟨sa, sc, rfl, _, _⟩ := ha.slice
  have HB : Hid (Below W.heap.size W W1) := b1
  clear ha hr hsh hzz b1
  go_enter Try.func41, Try.ntmps41
  try rw [h1]
  go_wp2_with fail
  try rw [h1]
  refine hc39.mono ?_
  rintro e W2 ⟨rfl, b2⟩
  have HB2 : Hid (Below W.heap.size W W2) := HB.out.trans (b2.mono HB.out.size)
  clear b2
  go_wp2
  go_ret
  exact ⟨rfl, HB2.out⟩

set_option maxRecDepth 100000 in
set_option maxHeartbeats 4000000 in
theorem unifiable_all (w : World) (bx m1 m2 K : Nat) (L : List (Int × Fp)) (γ : Fp → Nat × Nat) (hris : Rise L) (hlen : L.length ≤ 1048576) (t : T) (s : Value) (hsh : Short t) (W : World) (hI : Ixs w bx m1 m2 K L γ W) (ha : ArgsAt W s t.args) :
    Calls Try.prog 24 #[.pointer (some ⟨bx, 0, none⟩), tval t s] W fun e W' => ∃ v, e = .returned v ∧ RowAt (fun k : Int => .int .i64 k) W' v (if t.rightW = 0 then fitIds L (fun l => fitB uniB l (feats t)) else []) ∧ Below W.heap.size W W' := by
  obtain ⟨R, hR⟩ : ∃ R, (if t.rightW = 0 then fitIds L (fun l => fitB uniB l (feats t)) else []) = R := ⟨_, rfl⟩
  have HRs : Hid ((if t.rightW = 0 then fitIds L (fun l => fitB uniB l (feats t)) else []) = R) := hR
  rw [hR]
  clear hR
  obtain ⟨W1, h1⟩ : ∃ X, W.alloc (tbox t s) = X := ⟨_, rfl⟩
  have b1 : Below W.heap.size W W1 := by rw [← h1]; exact below_box _ _
  have s1 : W1.heap.size = W.heap.size + 1 := by rw [← h1]; simp
  obtain ⟨x0, x1, x2⟩ := tbox_cells W t s
  rw [h1] at x0 x1 x2
  have hc9 := fof_any t s W1 (ArgsAt.keep b1 (Nat.le_refl _) ha)
  have HX : Hid (∀ Z, Below W1.heap.size W1 Z → Z.cell? ⟨W.heap.size, 0, none⟩ = some (.int .i64 t.v) ∧ Z.cell? ⟨W.heap.size, 1, none⟩ = some (.string t.fn) ∧ Z.cell? ⟨W.heap.size, 2, none⟩ = some s) := fun Z hZ => ⟨kc hZ (by omega) x0, kc hZ (by omega) x1, kc hZ (by omega) x2⟩
  have HA : Hid (∀ Z, Below W.heap.size W Z → Ixs w bx m1 m2 K L γ Z ∧ ArgsAt Z s t.args) := fun Z hZ => ⟨hI.keep hZ, ArgsAt.keep hZ (Nat.le_refl _) ha⟩
  have HB : Hid (Below W.heap.size W W1) := b1
  have HRi : Hid (Short t ∧ Rise L) := ⟨hsh, hris⟩
  obtain ⟨sa, sc, rfl, _, _⟩ := ha.slice
  clear b1 ha hI hsh hris
  go_enter Try.func24, Try.ntmps24
  try rw [h1]
  go_wp2_with fail
  try rw [h1]
  refine hc9.mono ?_
  rintro e W2 ⟨v2, rfl, hF2, b2⟩
  obtain ⟨va, vc, rfl, hvc, hvm⟩ := hF2.slice
  obtain ⟨W3, h3⟩ : ∃ X, W2.alloc (.cells #[.slice none 0 0] 26) = X := ⟨_, rfl⟩
  have b3 : Below W2.heap.size W2 W3 := by rw [← h3]; exact below_box _ _
  have z3 : W3.heap[W2.heap.size]? = some (.cells #[.slice none 0 0] 26 (0, 0)) := by rw [← h3]; exact (MapKept.heap_alloc _ _).1
  have c3 : W3.cell? ⟨W2.heap.size, 0, none⟩ = some (.slice none 0 0) := by simp [World.cell?, z3]
  have f3 : W3.frozen? ⟨W2.heap.size, 0, none⟩ = false := by simp [World.frozen?, z3]
  have q4 := Go.heap_setCell_same W3 W2.heap.size 0 _ 26 (.slice va (feats t).length vc) z3
  obtain ⟨W4, h4⟩ : ∃ X, W3.setCell ⟨W2.heap.size, 0, none⟩ (.slice va (feats t).length vc) = X := ⟨_, rfl⟩
  rw [h4] at q4
  have c4 : W4.cell? ⟨W2.heap.size, 0, none⟩ = some (.slice va (feats t).length vc) := by simp [World.cell?, q4]
  have b34 : Below W2.heap.size W3 W4 := by rw [← h4]; exact (only_setCell W3 W2.heap.size 0 _).below b3.size (by simp)
  have b24 : Below W2.heap.size W2 W4 := b3.trans b34
  have b14 : Below W1.heap.size W1 W4 := b2.trans (b24.mono b2.size)
  have b04 : Below W.heap.size W W4 := HB.out.trans (b14.mono HB.out.size)
  obtain ⟨hI4, ha4⟩ := HA.out W4 b04
  have hF4 := hF2.keep b24 (Nat.le_refl _)
  have lba : W2.heap.size < W4.heap.size := World.block_lt_of_cell? W4 _ c4
  have hc41 : Calls Try.prog 41 #[.pointer (some ⟨bx, 0, none⟩), tval t (.slice sa t.args.length sc), .func (.func 42) #[] #[.pointer (some ⟨W2.heap.size, 0, none⟩)]] W4 fun e W' => ∃ v, e = .returned v ∧ RowAt (fun k : Int => .int .i64 k) W' v R ∧ Below W4.heap.size W4 W' := by
    by_cases hr : t.rightW = 0
    · rw [← HRs.out, if_pos hr]
      exact fitting42_all w bx m1 m2 K L γ HRi.out.2 hlen (fun l => fitB uniB l (feats t)) W2.heap.size t _ hr HRi.out.1 W4 hI4 ha4 (fun Z v l hZ hf => asks42 l (feats t) v _ W2.heap.size Z hf (hF4.keep hZ (Nat.le_refl _)) (kc hZ lba c4))
    · rw [← HRs.out, if_neg hr]
      refine (fitting_wrong bx t _ _ W4 hr HRi.out.1 ha4).mono ?_
      rintro e W' ⟨rfl, hb⟩
      exact ⟨_, rfl, ⟨none, 0, rfl, Nat.le_refl _, by omega, fun h => absurd h (by simp)⟩, hb⟩
  obtain ⟨u0, u1, u2⟩ := HX.out W4 b14
  have H4 : Hid (Below W.heap.size W W4) := b04
  obtain ⟨ba, hba⟩ : ∃ n, W2.heap.size = n := ⟨_, rfl⟩
  rw [hba] at hc41 h4 c3 f3
  rw [show (feats t).length = 4 from rfl] at h4
  clear hF2 b2 b3 z3 q4 c4 b34 b24 b14 b04 hI4 ha4 x0 x1 x2 hc9 hF4 lba
  go_wp2_with fail
  try rw [h3]
  try rw [h4]
  refine hc41.mono ?_
  rintro e W5 ⟨v, rfl, hrow, b5⟩
  have HF : Hid (RowAt (fun k : Int => .int .i64 k) W5 v R ∧ Below W.heap.size W W5) := ⟨hrow, H4.out.trans (b5.mono H4.out.size)⟩
  clear hrow b5
  go_wp2
  go_ret
  exact ⟨_, rfl, HF.out⟩

set_option maxRecDepth 100000 in
set_option maxHeartbeats 4000000 in
theorem generals_all (w : World) (bx m1 m2 K : Nat) (L : List (Int × Fp)) (γ : Fp → Nat × Nat) (hris : Rise L) (hlen : L.length ≤ 1048576) (t : T) (s : Value) (hsh : Short t) (W : World) (hI : Ixs w bx m1 m2 K L γ W) (ha : ArgsAt W s t.args) :
    Calls Try.prog 26 #[.pointer (some ⟨bx, 0, none⟩), tval t s] W fun e W' => ∃ v, e = .returned v ∧ RowAt (fun k : Int => .int .i64 k) W' v (if t.rightW = 0 then fitIds L (fun l => fitB matB l (feats t)) else []) ∧ Below W.heap.size W W' := by
  obtain ⟨R, hR⟩ : ∃ R, (if t.rightW = 0 then fitIds L (fun l => fitB matB l (feats t)) else []) = R := ⟨_, rfl⟩
  have HRs : Hid ((if t.rightW = 0 then fitIds L (fun l => fitB matB l (feats t)) else []) = R) := hR
  rw [hR]
  clear hR
  obtain ⟨W1, h1⟩ : ∃ X, W.alloc (tbox t s) = X := ⟨_, rfl⟩
  have b1 : Below W.heap.size W W1 := by rw [← h1]; exact below_box _ _
  have s1 : W1.heap.size = W.heap.size + 1 := by rw [← h1]; simp
  obtain ⟨x0, x1, x2⟩ := tbox_cells W t s
  rw [h1] at x0 x1 x2
  have hc9 := fof_any t s W1 (ArgsAt.keep b1 (Nat.le_refl _) ha)
  have HX : Hid (∀ Z, Below W1.heap.size W1 Z → Z.cell? ⟨W.heap.size, 0, none⟩ = some (.int .i64 t.v) ∧ Z.cell? ⟨W.heap.size, 1, none⟩ = some (.string t.fn) ∧ Z.cell? ⟨W.heap.size, 2, none⟩ = some s) := fun Z hZ => ⟨kc hZ (by omega) x0, kc hZ (by omega) x1, kc hZ (by omega) x2⟩
  have HA : Hid (∀ Z, Below W.heap.size W Z → Ixs w bx m1 m2 K L γ Z ∧ ArgsAt Z s t.args) := fun Z hZ => ⟨hI.keep hZ, ArgsAt.keep hZ (Nat.le_refl _) ha⟩
  have HB : Hid (Below W.heap.size W W1) := b1
  have HRi : Hid (Short t ∧ Rise L) := ⟨hsh, hris⟩
  obtain ⟨sa, sc, rfl, _, _⟩ := ha.slice
  clear b1 ha hI hsh hris
  go_enter Try.func26, Try.ntmps26
  try rw [h1]
  go_wp2_with fail
  try rw [h1]
  refine hc9.mono ?_
  rintro e W2 ⟨v2, rfl, hF2, b2⟩
  obtain ⟨va, vc, rfl, hvc, hvm⟩ := hF2.slice
  obtain ⟨W3, h3⟩ : ∃ X, W2.alloc (.cells #[.slice none 0 0] 26) = X := ⟨_, rfl⟩
  have b3 : Below W2.heap.size W2 W3 := by rw [← h3]; exact below_box _ _
  have z3 : W3.heap[W2.heap.size]? = some (.cells #[.slice none 0 0] 26 (0, 0)) := by rw [← h3]; exact (MapKept.heap_alloc _ _).1
  have c3 : W3.cell? ⟨W2.heap.size, 0, none⟩ = some (.slice none 0 0) := by simp [World.cell?, z3]
  have f3 : W3.frozen? ⟨W2.heap.size, 0, none⟩ = false := by simp [World.frozen?, z3]
  have q4 := Go.heap_setCell_same W3 W2.heap.size 0 _ 26 (.slice va (feats t).length vc) z3
  obtain ⟨W4, h4⟩ : ∃ X, W3.setCell ⟨W2.heap.size, 0, none⟩ (.slice va (feats t).length vc) = X := ⟨_, rfl⟩
  rw [h4] at q4
  have c4 : W4.cell? ⟨W2.heap.size, 0, none⟩ = some (.slice va (feats t).length vc) := by simp [World.cell?, q4]
  have b34 : Below W2.heap.size W3 W4 := by rw [← h4]; exact (only_setCell W3 W2.heap.size 0 _).below b3.size (by simp)
  have b24 : Below W2.heap.size W2 W4 := b3.trans b34
  have b14 : Below W1.heap.size W1 W4 := b2.trans (b24.mono b2.size)
  have b04 : Below W.heap.size W W4 := HB.out.trans (b14.mono HB.out.size)
  obtain ⟨hI4, ha4⟩ := HA.out W4 b04
  have hF4 := hF2.keep b24 (Nat.le_refl _)
  have lba : W2.heap.size < W4.heap.size := World.block_lt_of_cell? W4 _ c4
  have hc41 : Calls Try.prog 41 #[.pointer (some ⟨bx, 0, none⟩), tval t (.slice sa t.args.length sc), .func (.func 43) #[] #[.pointer (some ⟨W2.heap.size, 0, none⟩)]] W4 fun e W' => ∃ v, e = .returned v ∧ RowAt (fun k : Int => .int .i64 k) W' v R ∧ Below W4.heap.size W4 W' := by
    by_cases hr : t.rightW = 0
    · rw [← HRs.out, if_pos hr]
      exact fitting43_all w bx m1 m2 K L γ HRi.out.2 hlen (fun l => fitB matB l (feats t)) W2.heap.size t _ hr HRi.out.1 W4 hI4 ha4 (fun Z v l hZ hf => asks43 l (feats t) v _ W2.heap.size Z hf (hF4.keep hZ (Nat.le_refl _)) (kc hZ lba c4))
    · rw [← HRs.out, if_neg hr]
      refine (fitting_wrong bx t _ _ W4 hr HRi.out.1 ha4).mono ?_
      rintro e W' ⟨rfl, hb⟩
      exact ⟨_, rfl, ⟨none, 0, rfl, Nat.le_refl _, by omega, fun h => absurd h (by simp)⟩, hb⟩
  obtain ⟨u0, u1, u2⟩ := HX.out W4 b14
  have H4 : Hid (Below W.heap.size W W4) := b04
  obtain ⟨ba, hba⟩ : ∃ n, W2.heap.size = n := ⟨_, rfl⟩
  rw [hba] at hc41 h4 c3 f3
  rw [show (feats t).length = 4 from rfl] at h4
  clear hF2 b2 b3 z3 q4 c4 b34 b24 b14 b04 hI4 ha4 x0 x1 x2 hc9 hF4 lba
  go_wp2_with fail
  try rw [h3]
  try rw [h4]
  refine hc41.mono ?_
  rintro e W5 ⟨v, rfl, hrow, b5⟩
  have HF : Hid (RowAt (fun k : Int => .int .i64 k) W5 v R ∧ Below W.heap.size W W5) := ⟨hrow, H4.out.trans (b5.mono H4.out.size)⟩
  clear hrow b5
  go_wp2
  go_ret
  exact ⟨_, rfl, HF.out⟩

set_option maxRecDepth 100000 in
set_option maxHeartbeats 4000000 in
theorem instances_all (w : World) (bx m1 m2 K : Nat) (L : List (Int × Fp)) (γ : Fp → Nat × Nat) (hris : Rise L) (hlen : L.length ≤ 1048576) (t : T) (s : Value) (hsh : Short t) (W : World) (hI : Ixs w bx m1 m2 K L γ W) (ha : ArgsAt W s t.args) :
    Calls Try.prog 27 #[.pointer (some ⟨bx, 0, none⟩), tval t s] W fun e W' => ∃ v, e = .returned v ∧ RowAt (fun k : Int => .int .i64 k) W' v (if t.rightW = 0 then fitIds L (fun l => fitB matB (feats t) l) else []) ∧ Below W.heap.size W W' := by
  obtain ⟨R, hR⟩ : ∃ R, (if t.rightW = 0 then fitIds L (fun l => fitB matB (feats t) l) else []) = R := ⟨_, rfl⟩
  have HRs : Hid ((if t.rightW = 0 then fitIds L (fun l => fitB matB (feats t) l) else []) = R) := hR
  rw [hR]
  clear hR
  obtain ⟨W1, h1⟩ : ∃ X, W.alloc (tbox t s) = X := ⟨_, rfl⟩
  have b1 : Below W.heap.size W W1 := by rw [← h1]; exact below_box _ _
  have s1 : W1.heap.size = W.heap.size + 1 := by rw [← h1]; simp
  obtain ⟨x0, x1, x2⟩ := tbox_cells W t s
  rw [h1] at x0 x1 x2
  have hc9 := fof_any t s W1 (ArgsAt.keep b1 (Nat.le_refl _) ha)
  have HX : Hid (∀ Z, Below W1.heap.size W1 Z → Z.cell? ⟨W.heap.size, 0, none⟩ = some (.int .i64 t.v) ∧ Z.cell? ⟨W.heap.size, 1, none⟩ = some (.string t.fn) ∧ Z.cell? ⟨W.heap.size, 2, none⟩ = some s) := fun Z hZ => ⟨kc hZ (by omega) x0, kc hZ (by omega) x1, kc hZ (by omega) x2⟩
  have HA : Hid (∀ Z, Below W.heap.size W Z → Ixs w bx m1 m2 K L γ Z ∧ ArgsAt Z s t.args) := fun Z hZ => ⟨hI.keep hZ, ArgsAt.keep hZ (Nat.le_refl _) ha⟩
  have HB : Hid (Below W.heap.size W W1) := b1
  have HRi : Hid (Short t ∧ Rise L) := ⟨hsh, hris⟩
  obtain ⟨sa, sc, rfl, _, _⟩ := ha.slice
  clear b1 ha hI hsh hris
  go_enter Try.func27, Try.ntmps27
  try rw [h1]
  go_wp2_with fail
  try rw [h1]
  refine hc9.mono ?_
  rintro e W2 ⟨v2, rfl, hF2, b2⟩
  obtain ⟨va, vc, rfl, hvc, hvm⟩ := hF2.slice
  obtain ⟨W3, h3⟩ : ∃ X, W2.alloc (.cells #[.slice none 0 0] 26) = X := ⟨_, rfl⟩
  have b3 : Below W2.heap.size W2 W3 := by rw [← h3]; exact below_box _ _
  have z3 : W3.heap[W2.heap.size]? = some (.cells #[.slice none 0 0] 26 (0, 0)) := by rw [← h3]; exact (MapKept.heap_alloc _ _).1
  have c3 : W3.cell? ⟨W2.heap.size, 0, none⟩ = some (.slice none 0 0) := by simp [World.cell?, z3]
  have f3 : W3.frozen? ⟨W2.heap.size, 0, none⟩ = false := by simp [World.frozen?, z3]
  have q4 := Go.heap_setCell_same W3 W2.heap.size 0 _ 26 (.slice va (feats t).length vc) z3
  obtain ⟨W4, h4⟩ : ∃ X, W3.setCell ⟨W2.heap.size, 0, none⟩ (.slice va (feats t).length vc) = X := ⟨_, rfl⟩
  rw [h4] at q4
  have c4 : W4.cell? ⟨W2.heap.size, 0, none⟩ = some (.slice va (feats t).length vc) := by simp [World.cell?, q4]
  have b34 : Below W2.heap.size W3 W4 := by rw [← h4]; exact (only_setCell W3 W2.heap.size 0 _).below b3.size (by simp)
  have b24 : Below W2.heap.size W2 W4 := b3.trans b34
  have b14 : Below W1.heap.size W1 W4 := b2.trans (b24.mono b2.size)
  have b04 : Below W.heap.size W W4 := HB.out.trans (b14.mono HB.out.size)
  obtain ⟨hI4, ha4⟩ := HA.out W4 b04
  have hF4 := hF2.keep b24 (Nat.le_refl _)
  have lba : W2.heap.size < W4.heap.size := World.block_lt_of_cell? W4 _ c4
  have hc41 : Calls Try.prog 41 #[.pointer (some ⟨bx, 0, none⟩), tval t (.slice sa t.args.length sc), .func (.func 44) #[] #[.pointer (some ⟨W2.heap.size, 0, none⟩)]] W4 fun e W' => ∃ v, e = .returned v ∧ RowAt (fun k : Int => .int .i64 k) W' v R ∧ Below W4.heap.size W4 W' := by
    by_cases hr : t.rightW = 0
    · rw [← HRs.out, if_pos hr]
      exact fitting44_all w bx m1 m2 K L γ HRi.out.2 hlen (fun l => fitB matB (feats t) l) W2.heap.size t _ hr HRi.out.1 W4 hI4 ha4 (fun Z v l hZ hf => asks44 l (feats t) v _ W2.heap.size Z hf (hF4.keep hZ (Nat.le_refl _)) (kc hZ lba c4))
    · rw [← HRs.out, if_neg hr]
      refine (fitting_wrong bx t _ _ W4 hr HRi.out.1 ha4).mono ?_
      rintro e W' ⟨rfl, hb⟩
      exact ⟨_, rfl, ⟨none, 0, rfl, Nat.le_refl _, by omega, fun h => absurd h (by simp)⟩, hb⟩
  obtain ⟨u0, u1, u2⟩ := HX.out W4 b14
  have H4 : Hid (Below W.heap.size W W4) := b04
  obtain ⟨ba, hba⟩ : ∃ n, W2.heap.size = n := ⟨_, rfl⟩
  rw [hba] at hc41 h4 c3 f3
  rw [show (feats t).length = 4 from rfl] at h4
  clear hF2 b2 b3 z3 q4 c4 b34 b24 b14 b04 hI4 ha4 x0 x1 x2 hc9 hF4 lba
  go_wp2_with fail
  try rw [h3]
  try rw [h4]
  refine hc41.mono ?_
  rintro e W5 ⟨v, rfl, hrow, b5⟩
  have HF : Hid (RowAt (fun k : Int => .int .i64 k) W5 v R ∧ Below W.heap.size W W5) := ⟨hrow, H4.out.trans (b5.mono H4.out.size)⟩
  clear hrow b5
  go_wp2
  go_ret
  exact ⟨_, rfl, HF.out⟩

end Go.Proofs.Ytiklbkkimmgbcaa
