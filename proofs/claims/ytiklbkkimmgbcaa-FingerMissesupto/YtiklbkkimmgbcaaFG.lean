/-
  The laws' same, of the same features; New; sorting what is no longer than one.
-/
import Derived.Test.YtiklbkkimmgbcaaFF
namespace Go.Proofs.Ytiklbkkimmgbcaa
open Go.RowKit Go.Maps

set_option maxRecDepth 100000 in
set_option maxHeartbeats 4000000 in
theorem same_any (l : List Ft) (v1 v2 : Value) (w : World) (hl : FtAt w v1 l) (hm : FtAt w v2 l) :
    Calls Try.prog 8 #[v1, v2] w fun e w' => e = .returned (.bool true) ∧ Below w.heap.size w w' := by
  obtain ⟨a1, c1, rfl, hc1, hm1⟩ := hl.slice
  obtain ⟨a2, c2, rfl, hc2, hm2⟩ := hm.slice
  have HL : Hid (FtAt w (.slice a1 l.length c1) l ∧ FtAt w (.slice a2 l.length c2) l) := ⟨hl, hm⟩
  have e1 : ((l.length : Int) != (l.length : Int)) = false := by simp
  clear hl hm
  go_enter Try.func8, Try.ntmps8
  go_wp2
  go_loopw [5] (fun vi wr => ∃ i : Nat, vi = .int .i64 i ∧ i ≤ l.length ∧ Hid (Below w.heap.size w wr)) (fun vi _ => l.length - (intOf vi).toNat)
  case atStart => exact ⟨0, rfl, by omega, Below.refl _ _⟩
  case round =>
    obtain ⟨i, rfl, hi, HI⟩ := hrel
    have hB := HI.out
    by_cases hlt : i < l.length
    · have hiI : (i : Int) < (l.length : Int) := by omega
      obtain ⟨b, o, rfl, hb, x0, x1, x2⟩ := HL.out.1.nth hlt
      obtain ⟨b', o', rfl, hb', y0, y1, y2⟩ := HL.out.2.nth hlt
      have lb : b < wr.heap.size := by have := hB.size; omega
      have lb' : b' < wr.heap.size := by have := hB.size; omega
      obtain ⟨⟨k, r, s⟩, hx⟩ : ∃ x, l[i] = x := ⟨_, rfl⟩
      simp only [hx] at x0 x1 x2 y0 y1 y2
      replace x0 := cell_far lb (kc hB hb x0)
      replace x1 := cell_far lb (kc hB hb x1)
      replace x2 := cell_far lb (kc hB hb x2)
      replace y0 := cell_far lb' (kc hB hb' y0)
      replace y1 := cell_far lb' (kc hB hb' y1)
      replace y2 := cell_far lb' (kc hB hb' y2)
      have n1 : (k != k) = false := by simp
      have n2 : (r != r) = false := by simp
      clear hB hb hb' lb lb' hx
      go_wp2
      refine wp_region_far (by kernel_rfl) ?_
      repeat (first | go_big_quiet_step (fail) | quiet_step (fail))
      refine wpQuiet_nil ?_
      intro _ hw'
      obtain ⟨pf, rfl⟩ := hw'
      go_wp2
      go_roundw
      case rel => exact ⟨i + 1, by go_num, by omega, HI.out.trans ((below_far wr pf).mono HI.out.size)⟩
      case measure => simp [intOf]; omega
    · go_wp2
      go_ret
      exact ⟨rfl, HI.out⟩

theorem run_makeMap0 (t : TypeId) (w : World) : (Instr.makeMap t none).run Try.prog w = .ok (.map (some w.heap.size)) (w.alloc (.map #[] 0)) := by
  simp [Instr.makeMap, Result.andThen]
theorem Try.info75z : (Try.prog.info? 75).map (·.size) = some 2 := by kernel_rfl

/-- An index without terms. -/
structure Ix0 (w : World) (bx m1 m2 : Nat) (W : World) : Prop where
  bel : Below w.heap.size w W
  low : w.heap.size ≤ bx ∧ w.heap.size ≤ m1 ∧ w.heap.size ≤ m2
  ne : bx ≠ m1 ∧ bx ≠ m2 ∧ m1 ≠ m2
  box : W.heap[bx]? = some (.cells #[.map (some m1), .map (some m2)] 75 (0, 0))
  gr : MapIs W 66 m1 (fun _ => none) 0
  ho : MapIs W 3 m2 (fun _ => none) 0

set_option maxRecDepth 100000 in
set_option maxHeartbeats 4000000 in
theorem empty_any (w : World) : Calls Try.prog 38 #[] w fun e w' => e = .returned (.agg #[.map (some (w.heap.size + 1)), .map (some (w.heap.size + 2))]) ∧ Below w.heap.size w w' ∧ MapIs w' 66 (w.heap.size + 1) (fun _ => none) 0 ∧ MapIs w' 3 (w.heap.size + 2) (fun _ => none) 0 := by
  obtain ⟨W1, h1⟩ : ∃ X, w.alloc (.cells #[.map none, .map none] 75) = X := ⟨_, rfl⟩
  obtain ⟨W2, h2⟩ : ∃ X, W1.alloc (.map #[] 0) = X := ⟨_, rfl⟩
  obtain ⟨W3, h3⟩ : ∃ X, W2.alloc (.map #[] 0) = X := ⟨_, rfl⟩
  have b1 : Below w.heap.size w W1 := by rw [← h1]; exact below_box _ _
  have b2 : Below W1.heap.size W1 W2 := by rw [← h2]; exact below_box _ _
  have b3 : Below W2.heap.size W2 W3 := by rw [← h3]; exact below_box _ _
  have s1 : W1.heap.size = w.heap.size + 1 := by rw [← h1]; simp
  have s2 : W2.heap.size = w.heap.size + 2 := by rw [← h2]; simp [s1]
  have s3 : W3.heap.size = w.heap.size + 3 := by rw [← h3]; simp [s2]
  have hm1 := fun X => run_makeMap0 72 X
  have hm2 := fun X => run_makeMap0 73 X
  have z1 : W1.heap[w.heap.size]? = some (.cells #[.map none, .map none] 75 (0, 0)) := by rw [← h1]; exact (MapKept.heap_alloc _ _).1
  have b13 : Below W1.heap.size W1 W3 := b2.trans (b3.mono b2.size)
  have z3 : W3.heap[w.heap.size]? = some (.cells #[.map none, .map none] 75 (0, 0)) := (b13.block _ (by omega)).trans z1
  obtain ⟨W4, hrun, hx4, hon⟩ := agg_store 75 W3 w.heap.size _ [.map (some (w.heap.size + 1)), .map (some (w.heap.size + 2))] z3 rfl Try.info75z (by intro z hz; simp only [List.mem_cons, List.not_mem_nil, or_false] at hz; rcases hz with rfl | rfl <;> rfl)
  have M1 : MapIs W2 66 (w.heap.size + 1) (fun _ => none) 0 := by have := MapIs.made W1 66; rw [h2, s1] at this; exact this
  have M2 : MapIs W3 3 (w.heap.size + 2) (fun _ => none) 0 := by have := MapIs.made W2 3; rw [h3, s2] at this; exact this
  have M1' : MapIs W3 66 (w.heap.size + 1) (fun _ => none) 0 := M1.same (b3.block _ (by omega))
  have bb : Below w.heap.size w W3 := b1.trans (b13.mono b1.size)
  have HE : Hid (Below w.heap.size w W4 ∧ MapIs W4 66 (w.heap.size + 1) (fun _ => none) 0 ∧ MapIs W4 3 (w.heap.size + 2) (fun _ => none) 0) :=
    ⟨bb.trans (hon.below bb.size (by simp)), M1'.same (hon.block _ (by omega) (by simp)), M2.same (hon.block _ (by omega) (by simp))⟩
  have q0 : W4.cell? ⟨w.heap.size, 0, none⟩ = some (.map (some (w.heap.size + 1))) := cell_store hx4 rfl
  have q1 : W4.cell? ⟨w.heap.size, 1, none⟩ = some (.map (some (w.heap.size + 2))) := cell_store hx4 rfl
  clear b1 b2 b3 z1 z3 b13 M1 M2 M1' bb hx4 hon s3
  go_enter Try.func38, Try.ntmps38
  try rw [h1]
  go_wp2_with (first | (refine wpList_store_run rfl 75 _ _ rfl (.pointer (some ⟨w.heap.size, 0, none⟩)) (.agg #[.map (some (w.heap.size + 1)), .map (some (w.heap.size + 2))]) rfl rfl hrun ?_))
  refine bodyPost_ret (v := .agg #[.map (some (w.heap.size + 1)), .map (some (w.heap.size + 2))]) (by simp [results, Try.results38, go_sem, *]) rfl ⟨rfl, HE.out⟩

set_option maxRecDepth 100000 in
set_option maxHeartbeats 4000000 in
theorem new_any (w : World) : Calls Try.prog 17 #[] w fun e w' => ∃ bx m1 m2, e = .returned (.pointer (some ⟨bx, 0, none⟩)) ∧ Ix0 w bx m1 m2 w' := by
  have he := empty_any w
  go_enter Try.func17, Try.ntmps17
  go_wp2_with fail
  refine he.mono ?_
  rintro e W1 ⟨rfl, b1, M1, M2⟩
  have l1 := M1.lt
  have l2 := M2.lt
  obtain ⟨bx, hbx⟩ : ∃ n, W1.heap.size = n := ⟨_, rfl⟩
  obtain ⟨Wz, hz⟩ : ∃ X, W1.alloc (.cells #[.map none, .map none] 75) = X := ⟨_, rfl⟩
  have bz : Below W1.heap.size W1 Wz := by rw [← hz]; exact below_box _ _
  have hzz : Wz.heap[bx]? = some (.cells #[.map none, .map none] 75 (0, 0)) := by rw [← hz, ← hbx]; exact (MapKept.heap_alloc _ _).1
  obtain ⟨W4, hrun, hx4, hon⟩ := agg_store 75 Wz bx _ [.map (some (w.heap.size + 1)), .map (some (w.heap.size + 2))] hzz rfl Try.info75z (by intro z hz; simp only [List.mem_cons, List.not_mem_nil, or_false] at hz; rcases hz with rfl | rfl <;> rfl)
  have b14 : Below W1.heap.size W1 W4 := bz.trans (hon.below bz.size (by simp [hbx]))
  have HI : Hid (Ix0 w bx (w.heap.size + 1) (w.heap.size + 2) W4) :=
    ⟨b1.trans (b14.mono b1.size), by omega, by omega, hx4, M1.same (b14.block _ (by omega)), M2.same (b14.block _ (by omega))⟩
  clear b1 M1 M2 bz hzz hon b14 hx4 he l1 l2
  go_wp2_with (first | (refine wpList_store_run rfl 75 _ _ rfl (.pointer (some ⟨bx, 0, none⟩)) (.agg #[.map (some (w.heap.size + 1)), .map (some (w.heap.size + 2))]) rfl rfl hrun ?_))
  try rw [hz]
  go_ret
  exact ⟨_, _, _, rfl, HI.out⟩

end Go.Proofs.Ytiklbkkimmgbcaa
