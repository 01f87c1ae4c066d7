/-
  Insert, into an index without terms.
-/
import Derived.Test.YtiklbkkimmgbcaaFH
import Derived.Test.YtiklbkkimmgbcaaL
namespace Go.Proofs.Ytiklbkkimmgbcaa
open Go.RowKit Go.Maps

theorem Ix1.keep {w W W' : World} {bx m1 m2 g m3 : Nat} {a b c d : Ft} (h : Ix1 w bx m1 m2 g m3 a b c d W) (hb : Below W.heap.size W W') : Ix1 w bx m1 m2 g m3 a b c d W' :=
  ⟨h.bel.trans (hb.mono h.bel.size), h.low, h.ne, (hb.block _ (Array.getElem?_eq_some_iff.1 h.box).1).trans h.box, h.gr.same (hb.block _ h.gr.lt), h.ho.same (hb.block _ h.ho.lt), (hb.block _ (Array.getElem?_eq_some_iff.1 h.gb).1).trans h.gb, h.nu.same (hb.block _ h.nu.lt)⟩
/-- An index with one term. -/
structure Ix2 (w : World) (bx m1 m2 g m3 : Nat) (id : Int) (a b c d : Ft) (W : World) : Prop where
  bel : Below w.heap.size w W
  low : w.heap.size ≤ bx ∧ w.heap.size ≤ m1 ∧ w.heap.size ≤ m2 ∧ w.heap.size ≤ g ∧ w.heap.size ≤ m3
  box : W.heap[bx]? = some (.cells #[.map (some m1), .map (some m2)] 75 (0, 0))
  gr : MapIs W 66 m1 (upd (fun _ => none) (.agg (fcells a b c d).toArray) (.pointer (some ⟨g, 0, none⟩))) 1
  gb : W.heap[g]? = some (.cells (fcells a b c d ++ [Value.map (some m3)]).toArray 82 (0, 0))
  nu : MapIs W 3 m3 (upd (fun _ => none) (.int .i64 id) (.agg #[])) 1
theorem Ix2.keep {w W W' : World} {bx m1 m2 g m3 : Nat} {id : Int} {a b c d : Ft} (h : Ix2 w bx m1 m2 g m3 id a b c d W) (hb : Below W.heap.size W W') : Ix2 w bx m1 m2 g m3 id a b c d W' :=
  ⟨h.bel.trans (hb.mono h.bel.size), h.low, (hb.block _ (Array.getElem?_eq_some_iff.1 h.box).1).trans h.box, h.gr.same (hb.block _ h.gr.lt), (hb.block _ (Array.getElem?_eq_some_iff.1 h.gb).1).trans h.gb, h.nu.same (hb.block _ h.nu.lt)⟩

set_option maxRecDepth 100000 in
set_option maxHeartbeats 8000000 in
theorem insert_new (w : World) (bx m1 m2 : Nat) (id : Int) (hid : Fit64 id) (t : T) (s : Value) (kl : Lit) (hk : keyOf Try.prog 66 (.agg (fpr t).toArray) = some kl) (hs : (feat t []).fn.size ≤ 64 ∧ (feat t [0]).fn.size ≤ 64 ∧ (feat t [1]).fn.size ≤ 64 ∧ (feat t [0, 0]).fn.size ≤ 64) (hr : t.rightW = 0) (hsh : Short t) (W : World) (hI : Ix0 w bx m1 m2 W) (ha : ArgsAt W s t.args) :
    Calls Try.prog 18 #[.pointer (some ⟨bx, 0, none⟩), .int .i64 id, tval t s] W fun e W' => ∃ g m3, e = .returned (.int .i64 0) ∧ Ix2 w bx m1 m2 g m3 id (feat t []) (feat t [0]) (feat t [1]) (feat t [0, 0]) W' := by
  obtain ⟨W1, h1⟩ : ∃ X, W.alloc (tbox t s) = X := ⟨_, rfl⟩
  have b1 : Below W.heap.size W W1 := by rw [← h1]; exact below_box _ _
  have s1 : W1.heap.size = W.heap.size + 1 := by rw [← h1]; simp
  obtain ⟨x0, x1, x2⟩ := tbox_cells W t s
  rw [h1] at x0 x1 x2
  have hc39 := tright_any t s W1 (ArgsAt.keep b1 (Nat.le_refl _) ha) hsh
  rw [hr] at hc39
  have HA : Hid (∀ Z, Below W1.heap.size W1 Z → ArgsAt Z s t.args ∧ Ix0 w bx m1 m2 Z) := fun Z hZ => ⟨ArgsAt.keep (b1.trans (hZ.mono b1.size)) (Nat.le_refl _) ha, (hI.keep b1).keep hZ⟩
  have HX : Hid (∀ Z, Below W1.heap.size W1 Z → Z.cell? ⟨W.heap.size, 0, none⟩ = some (.int .i64 t.v) ∧ Z.cell? ⟨W.heap.size, 1, none⟩ = some (.string t.fn) ∧ Z.cell? ⟨W.heap.size, 2, none⟩ = some s) := fun Z hZ => ⟨kc hZ (by omega) x0, kc hZ (by omega) x1, kc hZ (by omega) x2⟩
  have HK : Hid (keyOf Try.prog 66 (.agg (fpr t).toArray) = some kl) := hk
  have HS : Hid ((feat t []).fn.size ≤ 64 ∧ (feat t [0]).fn.size ≤ 64 ∧ (feat t [1]).fn.size ≤ 64 ∧ (feat t [0, 0]).fn.size ≤ 64) := hs
  have HD : Hid (Fit64 id) := hid
  obtain ⟨sa, sc, rfl, _, _⟩ := ha.slice
  clear b1 ha hI hk hs hr hsh hid
  go_enter Try.func18, Try.ntmps18
  try rw [h1]
  go_wp2_with fail
  try rw [h1]
  refine hc39.mono ?_
  rintro e W2 ⟨rfl, b2⟩
  obtain ⟨hA2, hI2⟩ := HA.out W2 b2
  obtain ⟨u0, u1, u2⟩ := HX.out W2 b2
  obtain ⟨c0, c1⟩ := hI2.cells
  have hlk := ((hI2.ho.look keyed3 Try.underlying73 (zero77 _) (key3 HD.out)).2 rfl).2
  have hc32 := fingerprintOf_any t _ W2 hA2
  have HB2 : Hid (Below W1.heap.size W1 W2) := b2
  clear hA2 hI2 b2 x0 x1 x2 hc39
  go_wp2_with fail
  refine hc32.mono ?_
  rintro e W3 ⟨rfl, b3⟩
  have b13 : Below W1.heap.size W1 W3 := HB2.out.trans (b3.mono HB2.out.size)
  have hc40 := groupOf_new w bx m1 m2 (feat t []) (feat t [0]) (feat t [1]) (feat t [0, 0]) kl HK.out HS.out W3 (HA.out W3 b13).2
  clear b3 b13 hc32 hlk u0 u1 u2 c0 c1
  go_wp2_with fail
  refine hc40.mono ?_
  rintro e W4 ⟨g, m3, rfl, hI4⟩
  obtain ⟨W5, hrun5, M5, hg5⟩ := hI4.nu.put keyed3 Try.underlying80 (by unfold maxLen; omega) (key3 HD.out) (.agg #[])
  have on5 : Only [m3] W4 W5 := Only.of_grown hg5 (fun r e => by cases e; simp)
  obtain ⟨n1, n2, n3, n4, n5, n6, n7, n8, n9, n10⟩ := hI4.ne
  have lx := (Array.getElem?_eq_some_iff.1 hI4.box).1
  have lg := (Array.getElem?_eq_some_iff.1 hI4.gb).1
  have l1 := hI4.gr.lt
  have l2 := hI4.ho.lt
  have l3 := hI4.nu.lt
  have B5 : W5.heap[bx]? = some (.cells #[.map (some m1), .map (some m2)] 75 (0, 0)) := (on5.block _ lx (by simp; omega)).trans hI4.box
  have G5 := (on5.block _ lg (by simp; omega)).trans hI4.gb
  have R5 := hI4.gr.same (on5.block _ l1 (by simp; omega))
  have O5 := hI4.ho.same (on5.block _ l2 (by simp; omega))
  obtain ⟨W6, hrun6, M6, hg6⟩ := O5.put keyed3 Try.underlying73 (by unfold maxLen; omega) (key3 HD.out) (.pointer (some ⟨g, 0, none⟩))
  have on6 : Only [m2] W5 W6 := Only.of_grown hg6 (fun r e => by cases e; simp)
  have s45 := on5.size
  have lb := hI4.low
  have bl5 : Below w.heap.size w W5 := hI4.bel.trans (on5.below hI4.bel.size (by simp; omega))
  have HF : Hid (Ix2 w bx m1 m2 g m3 id (feat t []) (feat t [0]) (feat t [1]) (feat t [0, 0]) W6) :=
    ⟨bl5.trans (on6.below bl5.size (by simp; omega)), lb, (on6.block _ (by omega) (by simp; omega)).trans B5, R5.same (on6.block _ (by omega) (by simp; omega)), (on6.block _ (by omega) (by simp; omega)).trans G5, M5.same (on6.block _ (by omega) (by simp; omega))⟩
  have d0 : W4.cell? ⟨g, 12, none⟩ = some (.map (some m3)) := cell_store hI4.gb rfl
  have d1 : W5.cell? ⟨bx, 1, none⟩ = some (.map (some m2)) := by simp [World.cell?, B5]
  clear hI4 M5 hg5 on5 n1 n2 n3 n4 n5 n6 n7 n8 n9 n10 lx lg l1 l2 l3 B5 G5 R5 O5 M6 hg6 on6 s45 lb bl5 hc40
  go_wp2_with (first | (refine wpList_mapUpdate_run rfl 80 _ _ _ rfl (.map (some m3)) (.int .i64 id) (.agg #[]) rfl rfl rfl hrun5 ?_) | (refine wpList_mapUpdate_run rfl 73 _ _ _ rfl (.map (some m2)) (.int .i64 id) (.pointer (some ⟨g, 0, none⟩)) rfl rfl rfl hrun6 ?_))
  go_ret
  exact ⟨_, _, rfl, HF.out⟩

end Go.Proofs.Ytiklbkkimmgbcaa
