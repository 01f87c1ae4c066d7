/-
  groupOf, in an index without terms.
-/
import Derived.Test.YtiklbkkimmgbcaaFG
namespace Go.Proofs.Ytiklbkkimmgbcaa
open Go.RowKit Go.Maps

theorem laidOutT : laidOutB Try.prog = true := by kernel_rfl
theorem keyed66 : Keyed Try.prog 66 := Keyed.of_law (deep_law_laid laidOutT (m := 4) (by omega) (of_decide_eq_true (by kernel_rfl)) (by kernel_rfl) (by kernel_rfl))
theorem zero77 (W : World) : (zeroValue 77).run Try.prog W = .ok (.pointer none) W := by
  exact Try.zeroValue77 W
/-- A store into a map, by its run. -/
theorem wp_mapUpdate_run {op : Oper} {a : Act} {w w' : World} {K : Act → World → Prop} {Q : Exit → Act → World → Prop} (t : TypeId) (m x v : Operand) (ho : op.op = .mapUpdate t m x v) (mv kv vv : Value) (hm : a.eval m = mv) (hx : a.eval x = kv) (hv : a.eval v = vv)
    (hrun : (Instr.mapUpdate t mv kv vv).run Try.prog w = .ok () w') (h : K (a.put op.dst undef) w') : Oper.wp Try.prog op a w K Q := by
  unfold Oper.wp execOp
  simp only [ho, hm, hx, hv, Sem.run_bind, hrun, Result.andThen_ok, Sem.run_pure]
  exact h
theorem Ix0.keep {w W W' : World} {bx m1 m2 : Nat} (h : Ix0 w bx m1 m2 W) (hb : Below W.heap.size W W') : Ix0 w bx m1 m2 W' :=
  ⟨h.bel.trans (hb.mono h.bel.size), h.low, h.ne, (hb.block _ (Array.getElem?_eq_some_iff.1 h.box).1).trans h.box, h.gr.same (hb.block _ h.gr.lt), h.ho.same (hb.block _ h.ho.lt)⟩
theorem Ix0.cells {w W : World} {bx m1 m2 : Nat} (h : Ix0 w bx m1 m2 W) : W.cell? ⟨bx, 0, none⟩ = some (.map (some m1)) ∧ W.cell? ⟨bx, 1, none⟩ = some (.map (some m2)) := by
  constructor <;> simp [World.cell?, h.box]
/-- An index with a group that has no number yet. -/
structure Ix1 (w : World) (bx m1 m2 g m3 : Nat) (a b c d : Ft) (W : World) : Prop where
  bel : Below w.heap.size w W
  low : w.heap.size ≤ bx ∧ w.heap.size ≤ m1 ∧ w.heap.size ≤ m2 ∧ w.heap.size ≤ g ∧ w.heap.size ≤ m3
  ne : bx ≠ m1 ∧ bx ≠ m2 ∧ bx ≠ g ∧ bx ≠ m3 ∧ m1 ≠ m2 ∧ m1 ≠ g ∧ m1 ≠ m3 ∧ m2 ≠ g ∧ m2 ≠ m3 ∧ g ≠ m3
  box : W.heap[bx]? = some (.cells #[.map (some m1), .map (some m2)] 75 (0, 0))
  gr : MapIs W 66 m1 (upd (fun _ => none) (.agg (fcells a b c d).toArray) (.pointer (some ⟨g, 0, none⟩))) 1
  ho : MapIs W 3 m2 (fun _ => none) 0
  gb : W.heap[g]? = some (.cells (fcells a b c d ++ [Value.map (some m3)]).toArray 82 (0, 0))
  nu : MapIs W 3 m3 (fun _ => none) 0

set_option maxRecDepth 100000 in
set_option maxHeartbeats 8000000 in
theorem groupOf_new (w : World) (bx m1 m2 : Nat) (a b c d : Ft) (kl : Lit) (hk : keyOf Try.prog 66 (.agg (fcells a b c d).toArray) = some kl) (hs : a.fn.size ≤ 64 ∧ b.fn.size ≤ 64 ∧ c.fn.size ≤ 64 ∧ d.fn.size ≤ 64) (W : World) (hI : Ix0 w bx m1 m2 W) :
    Calls Try.prog 40 #[.pointer (some ⟨bx, 0, none⟩), (.agg (fcells a b c d).toArray)] W fun e W' => ∃ g m3, e = .returned (.pointer (some ⟨g, 0, none⟩)) ∧ Ix1 w bx m1 m2 g m3 a b c d W' := by
  obtain ⟨W1, h1⟩ : ∃ X, W.alloc (.cells (fcells a b c d).toArray 66) = X := ⟨_, rfl⟩
  have b1 : Below W.heap.size W W1 := by rw [← h1]; exact below_box _ _
  have s1 : W1.heap.size = W.heap.size + 1 := by rw [← h1]; simp
  have z1 : W1.heap[W.heap.size]? = some (.cells (fcells a b c d).toArray 66 (0, 0)) := by rw [← h1]; exact (MapKept.heap_alloc _ _).1
  have lx : bx < W.heap.size := (Array.getElem?_eq_some_iff.1 hI.box).1
  have HI : Hid (Ix0 w bx m1 m2 W) := hI
  have I1 := hI.keep b1
  have HL : Hid (∀ pf, (Instr.lookup 72 (.map (some m1)) (.agg (fcells a b c d).toArray) false).run Try.prog (far W1 pf) = .ok (.pointer none) (far W1 pf)) := fun pf => (((I1.keep (below_far W1 pf)).gr.look keyed66 Try.underlying72 (zero77 _) hk).2 rfl).2
  have hlk := HL.out
  obtain ⟨c0, c1⟩ := I1.cells
  have F0 := cell_far (by omega) c0
  have hz := fun i (v : Value) (h : (fcells a b c d)[i]? = some v) => cell_far (w := W1) (b := W.heap.size) (by omega) (cell_store z1 h)
  have y0 := hz 0 _ rfl
  have y1 := hz 1 _ rfl
  have y2 := hz 2 _ rfl
  have y3 := hz 3 _ rfl
  have y4 := hz 4 _ rfl
  have y5 := hz 5 _ rfl
  have y6 := hz 6 _ rfl
  have y7 := hz 7 _ rfl
  have y8 := hz 8 _ rfl
  have y9 := hz 9 _ rfl
  have y10 := hz 10 _ rfl
  have y11 := hz 11 _ rfl
  have HB1 : Hid (Below W.heap.size W W1 ∧ W1.heap[W.heap.size]? = some (.cells (fcells a b c d).toArray 66 (0, 0))) := ⟨b1, z1⟩
  clear hz c0 c1 I1 z1 b1 hI lx
  go_enter Try.func40, Try.ntmps40
  try rw [h1]
  go_wp2
  try rw [h1]
  refine wp_region_far (by kernel_rfl) ?_
  repeat (first | go_big_quiet_step (fail) | quiet_step (fail))
  refine wpQuiet_nil ?_
  intro _ hw'
  obtain ⟨pf, rfl⟩ := hw'
  have HB2 : Hid (Below W.heap.size W (far W1 pf) ∧ (far W1 pf).heap[W.heap.size]? = some (.cells (fcells a b c d).toArray 66 (0, 0))) := ⟨HB1.out.1.trans ((below_far W1 pf).mono HB1.out.1.size), ((below_far W1 pf).block _ (by omega)).trans HB1.out.2⟩
  clear hlk HL F0 y0 y1 y2 y3 y4 y5 y6 y7 y8 y9 y10 y11
  go_wp2
  go_loopw [17] (fun vi wr => ∃ i : Nat, vi = .int .i64 i ∧ i ≤ 4 ∧ Hid (Below W.heap.size W wr ∧ wr.heap[W.heap.size]? = some (.cells (fcells a b c d).toArray 66 (0, 0)))) (fun vi _ => 4 - (intOf vi).toNat)
  case atStart => exact ⟨0, rfl, by omega, HB2.out⟩
  case round =>
    obtain ⟨i, rfl, hi, HJ⟩ := hrel
    by_cases hlt : i < 4
    · have hc : i = 0 ∨ i = 1 ∨ i = 2 ∨ i = 3 := by omega
      clear HB2 HB1
      rcases hc with rfl | rfl | rfl | rfl
      · have y := cell_store HJ.out.2 (i := 2) (v := .string a.fn) rfl
        have hcl := sclone_any a.fn wr (hs.1)
        go_wp2_with fail
        refine hcl.mono ?_
        rintro e W3 ⟨rfl, b3⟩
        have z3 : W3.heap[W.heap.size]? = some (.cells (fcells a b c d).toArray 66 (0, 0)) := (b3.block _ (Array.getElem?_eq_some_iff.1 HJ.out.2).1).trans HJ.out.2
        have y3 := cell_store z3 (i := 2) (v := .string a.fn) rfl
        have f3 : W3.frozen? ⟨W.heap.size, 2, none⟩ = false := by simp [World.frozen?, z3]
        have q4 := Go.heap_setCell_same W3 W.heap.size 2 _ 66 (.string a.fn) z3
        have e4 : (fcells a b c d).toArray.setIfInBounds 2 (.string a.fn) = (fcells a b c d).toArray := rfl
        rw [e4] at q4
        have bw3 : Below W.heap.size W W3 := HJ.out.1.trans (b3.mono HJ.out.1.size)
        have H4 : Hid (Below W.heap.size W (W3.setCell ⟨W.heap.size, 2, none⟩ (.string a.fn)) ∧ (W3.setCell ⟨W.heap.size, 2, none⟩ (.string a.fn)).heap[W.heap.size]? = some (.cells (fcells a b c d).toArray 66 (0, 0))) := ⟨bw3.trans ((only_setCell W3 W.heap.size 2 (.string a.fn)).below bw3.size (by simp)), q4⟩
        clear q4 e4 bw3 z3 b3 y hcl HJ
        go_wp2
        go_roundw
        case rel => exact ⟨1, by rfl, by omega, H4.out⟩
        case measure => simp [intOf]
      · have y := cell_store HJ.out.2 (i := 5) (v := .string b.fn) rfl
        have hcl := sclone_any b.fn wr (hs.2.1)
        go_wp2_with fail
        refine hcl.mono ?_
        rintro e W3 ⟨rfl, b3⟩
        have z3 : W3.heap[W.heap.size]? = some (.cells (fcells a b c d).toArray 66 (0, 0)) := (b3.block _ (Array.getElem?_eq_some_iff.1 HJ.out.2).1).trans HJ.out.2
        have y3 := cell_store z3 (i := 5) (v := .string b.fn) rfl
        have f3 : W3.frozen? ⟨W.heap.size, 5, none⟩ = false := by simp [World.frozen?, z3]
        have q4 := Go.heap_setCell_same W3 W.heap.size 5 _ 66 (.string b.fn) z3
        have e4 : (fcells a b c d).toArray.setIfInBounds 5 (.string b.fn) = (fcells a b c d).toArray := rfl
        rw [e4] at q4
        have bw3 : Below W.heap.size W W3 := HJ.out.1.trans (b3.mono HJ.out.1.size)
        have H4 : Hid (Below W.heap.size W (W3.setCell ⟨W.heap.size, 5, none⟩ (.string b.fn)) ∧ (W3.setCell ⟨W.heap.size, 5, none⟩ (.string b.fn)).heap[W.heap.size]? = some (.cells (fcells a b c d).toArray 66 (0, 0))) := ⟨bw3.trans ((only_setCell W3 W.heap.size 5 (.string b.fn)).below bw3.size (by simp)), q4⟩
        clear q4 e4 bw3 z3 b3 y hcl HJ
        go_wp2
        go_roundw
        case rel => exact ⟨2, by rfl, by omega, H4.out⟩
        case measure => simp [intOf]
      · have y := cell_store HJ.out.2 (i := 8) (v := .string c.fn) rfl
        have hcl := sclone_any c.fn wr (hs.2.2.1)
        go_wp2_with fail
        refine hcl.mono ?_
        rintro e W3 ⟨rfl, b3⟩
        have z3 : W3.heap[W.heap.size]? = some (.cells (fcells a b c d).toArray 66 (0, 0)) := (b3.block _ (Array.getElem?_eq_some_iff.1 HJ.out.2).1).trans HJ.out.2
        have y3 := cell_store z3 (i := 8) (v := .string c.fn) rfl
        have f3 : W3.frozen? ⟨W.heap.size, 8, none⟩ = false := by simp [World.frozen?, z3]
        have q4 := Go.heap_setCell_same W3 W.heap.size 8 _ 66 (.string c.fn) z3
        have e4 : (fcells a b c d).toArray.setIfInBounds 8 (.string c.fn) = (fcells a b c d).toArray := rfl
        rw [e4] at q4
        have bw3 : Below W.heap.size W W3 := HJ.out.1.trans (b3.mono HJ.out.1.size)
        have H4 : Hid (Below W.heap.size W (W3.setCell ⟨W.heap.size, 8, none⟩ (.string c.fn)) ∧ (W3.setCell ⟨W.heap.size, 8, none⟩ (.string c.fn)).heap[W.heap.size]? = some (.cells (fcells a b c d).toArray 66 (0, 0))) := ⟨bw3.trans ((only_setCell W3 W.heap.size 8 (.string c.fn)).below bw3.size (by simp)), q4⟩
        clear q4 e4 bw3 z3 b3 y hcl HJ
        go_wp2
        go_roundw
        case rel => exact ⟨3, by rfl, by omega, H4.out⟩
        case measure => simp [intOf]
      · have y := cell_store HJ.out.2 (i := 11) (v := .string d.fn) rfl
        have hcl := sclone_any d.fn wr (hs.2.2.2)
        go_wp2_with fail
        refine hcl.mono ?_
        rintro e W3 ⟨rfl, b3⟩
        have z3 : W3.heap[W.heap.size]? = some (.cells (fcells a b c d).toArray 66 (0, 0)) := (b3.block _ (Array.getElem?_eq_some_iff.1 HJ.out.2).1).trans HJ.out.2
        have y3 := cell_store z3 (i := 11) (v := .string d.fn) rfl
        have f3 : W3.frozen? ⟨W.heap.size, 11, none⟩ = false := by simp [World.frozen?, z3]
        have q4 := Go.heap_setCell_same W3 W.heap.size 11 _ 66 (.string d.fn) z3
        have e4 : (fcells a b c d).toArray.setIfInBounds 11 (.string d.fn) = (fcells a b c d).toArray := rfl
        rw [e4] at q4
        have bw3 : Below W.heap.size W W3 := HJ.out.1.trans (b3.mono HJ.out.1.size)
        have H4 : Hid (Below W.heap.size W (W3.setCell ⟨W.heap.size, 11, none⟩ (.string d.fn)) ∧ (W3.setCell ⟨W.heap.size, 11, none⟩ (.string d.fn)).heap[W.heap.size]? = some (.cells (fcells a b c d).toArray 66 (0, 0))) := ⟨bw3.trans ((only_setCell W3 W.heap.size 11 (.string d.fn)).below bw3.size (by simp)), q4⟩
        clear q4 e4 bw3 z3 b3 y hcl HJ
        go_wp2
        go_roundw
        case rel => exact ⟨4, by rfl, by omega, H4.out⟩
        case measure => simp [intOf]
    · have hi4 : i = 4 := by omega
      subst hi4
      have HIr := HI.out.keep HJ.out.1
      obtain ⟨W5, h5⟩ : ∃ X, wr.alloc (.map #[] 0) = X := ⟨_, rfl⟩
      obtain ⟨W6, h6⟩ : ∃ X, W5.alloc (.cells #[.int .i64 a.kind, .int .i64 a.ar, .string a.fn, .int .i64 b.kind, .int .i64 b.ar, .string b.fn, .int .i64 c.kind, .int .i64 c.ar, .string c.fn, .int .i64 d.kind, .int .i64 d.ar, .string d.fn, .map (some wr.heap.size)] 82) = X := ⟨_, rfl⟩
      have b5 : Below wr.heap.size wr W5 := by rw [← h5]; exact below_box _ _
      have b6 : Below W5.heap.size W5 W6 := by rw [← h6]; exact below_box _ _
      have s5 : W5.heap.size = wr.heap.size + 1 := by rw [← h5]; simp
      have s6 : W6.heap.size = wr.heap.size + 2 := by rw [← h6]; simp [s5]
      have M3 : MapIs W5 3 wr.heap.size (fun _ => none) 0 := by have := MapIs.made wr 3; rw [h5] at this; exact this
      have G6 : W6.heap[wr.heap.size + 1]? = some (.cells (fcells a b c d ++ [Value.map (some wr.heap.size)]).toArray 82 (0, 0)) := by rw [← s5, ← h6]; exact (MapKept.heap_alloc _ _).1
      have b06 : Below wr.heap.size wr W6 := b5.trans (b6.mono b5.size)
      obtain ⟨Wd, hWd⟩ : ∃ X, W6.drew = X := ⟨_, rfl⟩
      have hd : Below W6.heap.size W6 Wd := by rw [← hWd]; exact (Below.refl _ W6).drew
      have b0d : Below wr.heap.size wr Wd := b06.trans (hd.mono b06.size)
      have Id := HIr.keep b0d
      have M3d : MapIs Wd 3 wr.heap.size (fun _ => none) 0 := (M3.same (b6.block _ (by omega))).same (hd.block _ (by omega))
      have G6d := (hd.block (wr.heap.size + 1) (by omega)).trans G6
      have K6d := (b0d.block _ (Array.getElem?_eq_some_iff.1 HJ.out.2).1).trans HJ.out.2
      obtain ⟨W7, hrun, M7, hg7⟩ := Id.gr.put keyed66 Try.underlying72 (by unfold maxLen; omega) hk (.pointer (some ⟨wr.heap.size + 1, 0, none⟩))
      have on7 : Only [m1] Wd W7 := Only.of_grown hg7 (fun r e => by cases e; simp)
      have l1 := HIr.gr.lt
      have l2 := HIr.ho.lt
      have lx : bx < wr.heap.size := (Array.getElem?_eq_some_iff.1 HIr.box).1
      have lz := HIr.bel.size
      have lsd : Wd.heap.size = wr.heap.size + 2 := by rw [← hWd]; exact s6
      have HF : Hid (Ix1 w bx m1 m2 (wr.heap.size + 1) wr.heap.size a b c d W7) := by
        obtain ⟨q1, q2, q3⟩ := HIr.ne
        obtain ⟨p1, p2, p3⟩ := HIr.low
        refine ⟨Id.bel.trans (on7.below Id.bel.size (by simp; omega)), ⟨p1, p2, p3, by omega, by omega⟩, ⟨q1, q2, by omega, by omega, q3, by omega, by omega, by omega, by omega, by omega⟩, ?_, M7, ?_, ?_, ?_⟩
        · rw [on7.block _ (by omega) (by simp; omega)]; exact Id.box
        · exact Id.ho.same (on7.block _ (by omega) (by simp; omega))
        · rw [on7.block _ (by omega) (by simp; omega)]; exact G6d
        · exact M3d.same (on7.block _ (by omega) (by simp; omega))
      have HX : Hid (∀ Z, Only [m1] Wd Z → Z.heap[bx]? = some (.cells #[.map (some m1), .map (some m2)] 75 (0, 0)) ∧ Z.heap[W.heap.size]? = some (.cells (fcells a b c d).toArray 66 (0, 0))) := fun Z hZ => by
        refine ⟨(hZ.block _ (by omega) (by simp; exact HIr.ne.1)).trans Id.box, (hZ.block _ (by have := (Array.getElem?_eq_some_iff.1 K6d).1; omega) ?_).trans K6d⟩
        have := HI.out.gr.lt
        simp
        omega
      have hm3 := fun X => run_makeMap0 80 X
      have y := fun i (v : Value) (h : (fcells a b c d)[i]? = some v) => cell_store HJ.out.2 h
      have y0 := y 0 _ rfl
      have y1 := y 1 _ rfl
      have y2 := y 2 _ rfl
      have y3 := y 3 _ rfl
      have y4 := y 4 _ rfl
      have y5 := y 5 _ rfl
      have y6 := y 6 _ rfl
      have y7 := y 7 _ rfl
      have y8 := y 8 _ rfl
      have y9 := y 9 _ rfl
      have y10 := y 10 _ rfl
      have y11 := y 11 _ rfl
      have HR : Hid (∀ Z, Only [m1] Wd Z → Z.cell? ⟨bx, 0, none⟩ = some (.map (some m1)) ∧ Z.cell? ⟨W.heap.size, 0, none⟩ = some (.int .i64 a.kind) ∧ Z.cell? ⟨W.heap.size, 1, none⟩ = some (.int .i64 a.ar) ∧ Z.cell? ⟨W.heap.size, 2, none⟩ = some (.string a.fn) ∧ Z.cell? ⟨W.heap.size, 3, none⟩ = some (.int .i64 b.kind) ∧ Z.cell? ⟨W.heap.size, 4, none⟩ = some (.int .i64 b.ar) ∧ Z.cell? ⟨W.heap.size, 5, none⟩ = some (.string b.fn) ∧ Z.cell? ⟨W.heap.size, 6, none⟩ = some (.int .i64 c.kind) ∧ Z.cell? ⟨W.heap.size, 7, none⟩ = some (.int .i64 c.ar) ∧ Z.cell? ⟨W.heap.size, 8, none⟩ = some (.string c.fn) ∧ Z.cell? ⟨W.heap.size, 9, none⟩ = some (.int .i64 d.kind) ∧ Z.cell? ⟨W.heap.size, 10, none⟩ = some (.int .i64 d.ar) ∧ Z.cell? ⟨W.heap.size, 11, none⟩ = some (.string d.fn)) := fun Z hZ => ⟨by simp [World.cell?, (HX.out Z hZ).1], cell_store (HX.out Z hZ).2 rfl, cell_store (HX.out Z hZ).2 rfl, cell_store (HX.out Z hZ).2 rfl, cell_store (HX.out Z hZ).2 rfl, cell_store (HX.out Z hZ).2 rfl, cell_store (HX.out Z hZ).2 rfl, cell_store (HX.out Z hZ).2 rfl, cell_store (HX.out Z hZ).2 rfl, cell_store (HX.out Z hZ).2 rfl, cell_store (HX.out Z hZ).2 rfl, cell_store (HX.out Z hZ).2 rfl, cell_store (HX.out Z hZ).2 rfl⟩
      have HOn : Hid (Only [m1] Wd W7) := on7
      clear y HIr b5 b6 s6 M3 G6 b06 hd b0d Id M3d G6d K6d M7 hg7 on7 l1 l2 lx lz lsd HX HB1 HB2
      go_wp2
      try rw [h5]
      try rw [s5]
      try rw [h6]
      refine wp_region_held_drew (S := fun Z => Only [m1] Wd Z) (by kernel_rfl) (by rw [hWd]; exact Only.refl _ _) (fun hHeld => ?_)
      rw [hWd] at hHeld ⊢
      refine take_mk 0 (.pointer (some ⟨bx, 0, none⟩)) rfl (by kernel_rfl) (by kernel_rfl) (by kernel_rfl) (fun _ _ _ h => h) (Or.inl ⟨by rfl, fun Z hZ => by go_simp⟩) (by assumption) ?_
      try simp only [Act.put, List.setIfInBounds_toArray, List.set_cons_zero, List.set_cons_succ]
      refine take_mk 1 (.pointer (some ⟨bx, 0, none⟩)) rfl (by kernel_rfl) (by kernel_rfl) (by kernel_rfl) (fun _ _ _ h => h) (Or.inl ⟨by rfl, fun Z hZ => by go_simp⟩) (by assumption) ?_
      try simp only [Act.put, List.setIfInBounds_toArray, List.set_cons_zero, List.set_cons_succ]
      refine take_mk 2 (.pointer (some ⟨bx, 0, none⟩)) rfl (by kernel_rfl) (by kernel_rfl) (by kernel_rfl) (fun _ _ _ h => h) (Or.inl ⟨by rfl, fun Z hZ => by go_simp⟩) (by assumption) ?_
      try simp only [Act.put, List.setIfInBounds_toArray, List.set_cons_zero, List.set_cons_succ]
      refine take_mk 3 (.map (some m1)) rfl (by kernel_rfl) (by kernel_rfl) (by kernel_rfl) (fun _ _ _ h => h) (Or.inl ⟨by rfl, fun Z hZ => by obtain ⟨u, v0, v1, v2, v3, v4, v5, v6, v7, v8, v9, v10, v11⟩ := HR.out Z hZ; go_simp⟩) (by assumption) ?_
      try simp only [Act.put, List.setIfInBounds_toArray, List.set_cons_zero, List.set_cons_succ]
      refine take_mk 4 (.agg (fcells a b c d).toArray) rfl (by kernel_rfl) (by kernel_rfl) (by kernel_rfl) (fun _ _ _ h => h) (Or.inl ⟨by rfl, fun Z hZ => by obtain ⟨u, v0, v1, v2, v3, v4, v5, v6, v7, v8, v9, v10, v11⟩ := HR.out Z hZ; go_simp⟩) (by assumption) ?_
      try simp only [Act.put, List.setIfInBounds_toArray, List.set_cons_zero, List.set_cons_succ]
      refine take_mk 5 (.pointer (some ⟨wr.heap.size + 1, 0, none⟩)) rfl (by kernel_rfl) (by kernel_rfl) (by kernel_rfl) (fun _ _ _ h => h) (Or.inl ⟨by rfl, fun Z hZ => by go_simp⟩) (by assumption) ?_
      try simp only [Act.put, List.setIfInBounds_toArray, List.set_cons_zero, List.set_cons_succ]
      refine wpAnyH_ready (rs := [6]) (by kernel_rfl) (by simp) (AllReadyH.cons (o := ⟨_, _, _, _, _, _⟩) rfl (fun K hK => ?_) AllReadyH.nil)
      rw [if_pos (by rfl)]
      refine wp_mapUpdate_run 72 _ _ _ rfl (.map (some m1)) (.agg (fcells a b c d).toArray) (.pointer (some ⟨wr.heap.size + 1, 0, none⟩)) rfl rfl rfl hrun ?_
      refine hK.out _ _ HOn.out (fun _ => ?_)
      clear hK K
      refine wpAnyH_done (by kernel_rfl) ?_ _
      try simp only [Act.put]
      clear hrun hHeld
      go_wp2
      go_ret
      exact ⟨_, _, rfl, HF.out⟩

end Go.Proofs.Ytiklbkkimmgbcaa
