/-
  FingerOf's walk.
-/
import Derived.Test.YtiklbkkimmgbcaaFN
namespace Go.Proofs.Ytiklbkkimmgbcaa
open Go.RowKit Go.Maps

set_option maxRecDepth 100000 in
set_option maxHeartbeats 8000000 in
theorem lawof_any (t : T) (s : Value) (w : World) (ha : ArgsAt w s t.args) :
    Calls Try.prog 3 #[tval t s] w fun e w' => e = .returned (.bool true) ∧ Below w.heap.size w w' := by
  obtain ⟨W1, h1⟩ : ∃ X, w.alloc (tbox t s) = X := ⟨_, rfl⟩
  have b1 : Below w.heap.size w W1 := by rw [← h1]; exact below_box _ _
  have s1 : W1.heap.size = w.heap.size + 1 := by rw [← h1]; simp
  obtain ⟨x0, x1, x2⟩ := tbox_cells w t s
  rw [h1] at x0 x1 x2
  obtain ⟨Wd, hWd⟩ : ∃ X, W1.drew = X := ⟨_, rfl⟩
  have hd : Below W1.heap.size W1 Wd := by rw [← hWd]; exact (Below.refl _ W1).drew
  have hsd : Wd.heap.size = w.heap.size + 1 := by rw [← hWd]; exact s1
  obtain ⟨n0, hn0⟩ : ∃ n, Wd.heap.size = n := ⟨_, rfl⟩
  have b0d : Below w.heap.size w Wd := b1.trans (hd.mono b1.size)
  have HN0 : Hid (Wd.heap.size = n0) := hn0
  have HBd : Hid (Below w.heap.size w Wd ∧ n0 = w.heap.size + 1) := ⟨b0d, by omega⟩
  have HA : Hid (∀ Z, Below n0 Wd Z → ArgsAt Z s t.args) := fun Z hZ => ArgsAt.keep (b0d.trans (hZ.mono (by omega))) (Nat.le_refl _) ha
  have HX : Hid (∀ Z, Below n0 Wd Z → Z.cell? ⟨w.heap.size, 0, none⟩ = some (.int .i64 t.v) ∧ Z.cell? ⟨w.heap.size, 1, none⟩ = some (.string t.fn) ∧ Z.cell? ⟨w.heap.size, 2, none⟩ = some s) := fun Z hZ => by
    have e1 : Below W1.heap.size W1 Z := hd.trans (hZ.mono (by omega))
    exact ⟨kc e1 (by omega) x0, kc e1 (by omega) x1, kc e1 (by omega) x2⟩
  obtain ⟨sa, sc, rfl, _, _⟩ := ha.slice
  clear b1 x0 x1 x2 hd b0d ha hn0 hsd
  go_enter Try.func3, Try.ntmps3
  try rw [h1]
  go_wp2
  try rw [h1]
  refine wp_region_held_drew (S := fun Z => Below n0 Wd Z) (by kernel_rfl) (by rw [hWd]; exact Below.refl _ _) (fun hHeld => ?_)
  rw [hWd] at hHeld ⊢
  refine take_mk 0 (tval t (.slice sa t.args.length sc)) rfl (by kernel_rfl) (by kernel_rfl) (by kernel_rfl) (fun _ _ _ h => h) (Or.inl ⟨by rfl, fun Z hZ => by obtain ⟨y0, y1, y2⟩ := HX.out Z hZ; go_simp⟩) (by assumption) ?_
  try simp only [Act.put, List.setIfInBounds_toArray, List.set_cons_zero, List.set_cons_succ]
  refine take_mk 2 (tval t (.slice sa t.args.length sc)) rfl (by kernel_rfl) (by kernel_rfl) (by kernel_rfl) (fun _ _ _ h => h) (Or.inl ⟨by rfl, fun Z hZ => by obtain ⟨y0, y1, y2⟩ := HX.out Z hZ; go_simp⟩) (by assumption) ?_
  try simp only [Act.put, List.setIfInBounds_toArray, List.set_cons_zero, List.set_cons_succ]
  refine wpAnyH_ready (rs := [1]) (by kernel_rfl) (by simp) (AllReadyH.cons (o := ⟨_, _, _, _, _, _⟩) rfl (fun K hK => ?_) AllReadyH.nil)
  rw [if_pos (by rfl)]
  go_simp
  refine (fof_any t _ Wd (HA.out Wd hHeld)).mono ?_
  rintro e X1 ⟨v1, rfl, r1, bX1⟩
  obtain ⟨a1, c1, rfl, _, _⟩ := r1.slice
  have hSX1 : Below n0 Wd X1 := hHeld.trans (bX1.mono (by have := hHeld.size; have := HN0.out; omega))
  refine hK.out _ _ hSX1 (fun hHX1 => ?_)
  clear hK K
  try simp only [Act.put, List.setIfInBounds_toArray, List.set_cons_zero, List.set_cons_succ]
  refine wpAnyH_ready (rs := [3]) (by kernel_rfl) (by simp) (AllReadyH.cons (o := ⟨_, _, _, _, _, _⟩) rfl (fun K hK => ?_) AllReadyH.nil)
  rw [if_pos (by rfl)]
  go_simp
  refine (rof_any t _ X1 (HA.out X1 hSX1)).mono ?_
  rintro e X2 ⟨v2, rfl, r2, bX2⟩
  obtain ⟨a2, c2, rfl, _, _⟩ := r2.slice
  have hSX2 : Below n0 Wd X2 := hSX1.trans (bX2.mono (by have := hSX1.size; have := HN0.out; omega))
  refine hK.out _ _ hSX2 (fun hHX2 => ?_)
  clear hK K
  try simp only [Act.put, List.setIfInBounds_toArray, List.set_cons_zero, List.set_cons_succ]
  refine wpAnyH_ready (rs := [4]) (by kernel_rfl) (by simp) (AllReadyH.cons (o := ⟨_, _, _, _, _, _⟩) rfl (fun K hK => ?_) AllReadyH.nil)
  rw [if_pos (by rfl)]
  go_simp
  refine (same_any (feats t) _ _ X2 (r1.keep bX2 (Nat.le_refl _)) r2).mono ?_
  rintro e X3 ⟨rfl, bX3⟩
  have hSX3 : Below n0 Wd X3 := hSX2.trans (bX3.mono (by have := hSX2.size; have := HN0.out; omega))
  refine hK.out _ _ hSX3 (fun hHX3 => ?_)
  clear hK K
  try simp only [Act.put, List.setIfInBounds_toArray, List.set_cons_zero, List.set_cons_succ]
  refine take_mk 5 (.bool true) rfl (by kernel_rfl) (by kernel_rfl) (by kernel_rfl) (fun _ _ _ h => h) (Or.inl ⟨by rfl, fun Z hZ => by go_simp⟩) (by assumption) ?_
  try simp only [Act.put, List.setIfInBounds_toArray, List.set_cons_zero, List.set_cons_succ]
  refine wpAnyH_ready (rs := [6]) (by kernel_rfl) (by simp) (AllReadyH.cons (o := ⟨_, _, _, _, _, _⟩) rfl (fun K hK => ?_) AllReadyH.nil)
  rw [if_pos (by rfl)]
  go_simp
  refine (alive_any X3).mono ?_
  rintro e X4 ⟨rfl, bX4⟩
  have hSX4 : Below n0 Wd X4 := hSX3.trans (bX4.mono (by have := hSX3.size; have := HN0.out; omega))
  refine hK.out _ _ hSX4 (fun hHX4 => ?_)
  clear hK K
  try simp only [Act.put, List.setIfInBounds_toArray, List.set_cons_zero, List.set_cons_succ]
  refine take_mk 7 (.bool true) rfl (by kernel_rfl) (by kernel_rfl) (by kernel_rfl) (fun _ _ _ h => h) (Or.inl ⟨by rfl, fun Z hZ => by go_simp⟩) (by assumption) ?_
  try simp only [Act.put, List.setIfInBounds_toArray, List.set_cons_zero, List.set_cons_succ]
  refine take_mk 8 (.bool true) rfl (by kernel_rfl) (by kernel_rfl) (by kernel_rfl) (fun _ _ _ h => h) (Or.inl ⟨by rfl, fun Z hZ => by go_simp⟩) (by assumption) ?_
  try simp only [Act.put, List.setIfInBounds_toArray, List.set_cons_zero, List.set_cons_succ]
  refine wpAnyH_done (by kernel_rfl) ?_ _
  try simp only [Act.put]
  have HE : Hid (Below w.heap.size w X4) := HBd.out.1.trans (hSX4.mono (by have := HBd.out.2; omega))
  clear hSX1 hSX2 hSX3 hSX4 hHeld hHX1 hHX2 hHX3 hHX4 bX1 bX2 bX3 bX4 r1 r2
  go_wp2
  go_ret
  exact ⟨rfl, HE.out⟩

end Go.Proofs.Ytiklbkkimmgbcaa
