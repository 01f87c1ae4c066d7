/-
  lits.Atom, IsAtom; the document's True, IsAtom.
-/
import Derived.Test.YtgnjgpplelakkaaLD
namespace Go.Proofs.Ytgnjgpplelakkaa
open Go.RowKit

theorem lbox_facts {X : World} {n : Nat} {v0 v1 v2 v3 v4 v5 v6 : Value} (h : X.heap[n]? = some (.cells #[v0, v1, v2, v3, v4, v5, v6] 28 (0, 0))) : (X.cell? ⟨n, 0, none⟩ = some v0 ∧ X.cell? ⟨n, 1, none⟩ = some v1 ∧ X.cell? ⟨n, 2, none⟩ = some v2 ∧ X.cell? ⟨n, 3, none⟩ = some v3 ∧ X.cell? ⟨n, 4, none⟩ = some v4 ∧ X.cell? ⟨n, 5, none⟩ = some v5 ∧ X.cell? ⟨n, 6, none⟩ = some v6) ∧ (X.frozen? ⟨n, 0, none⟩ = false ∧ X.frozen? ⟨n, 1, none⟩ = false ∧ X.frozen? ⟨n, 2, none⟩ = false ∧ X.frozen? ⟨n, 3, none⟩ = false ∧ X.frozen? ⟨n, 4, none⟩ = false ∧ X.frozen? ⟨n, 5, none⟩ = false ∧ X.frozen? ⟨n, 6, none⟩ = false) := by
  refine ⟨⟨?_, ?_, ?_, ?_, ?_, ?_, ?_⟩, ⟨?_, ?_, ?_, ?_, ?_, ?_, ?_⟩⟩ <;> simp [World.cell?, World.frozen?, h]

/-- Seven cells of one block are written. -/
abbrev set7 (W : World) (b o : Nat) (v0 v1 v2 v3 v4 v5 v6 : Value) : World := ((((((W.setCell ⟨b, o, none⟩ v0).setCell ⟨b, o + 1, none⟩ v1).setCell ⟨b, o + 2, none⟩ v2).setCell ⟨b, o + 3, none⟩ v3).setCell ⟨b, o + 4, none⟩ v4).setCell ⟨b, o + 5, none⟩ v5).setCell ⟨b, o + 6, none⟩ v6

theorem set7_other (W : World) (b o : Nat) (v0 v1 v2 v3 v4 v5 v6 : Value) (k : Nat) (h : k ≠ b) : (set7 W b o v0 v1 v2 v3 v4 v5 v6).heap[k]? = W.heap[k]? := by
  rw [Below.heap_setCell _ _ _ k h, Below.heap_setCell _ _ _ k h, Below.heap_setCell _ _ _ k h, Below.heap_setCell _ _ _ k h, Below.heap_setCell _ _ _ k h, Below.heap_setCell _ _ _ k h, Below.heap_setCell _ _ _ k h]

theorem set7_below {n : Nat} {w W : World} (h : Below n w W) (b o : Nat) (v0 v1 v2 v3 v4 v5 v6 : Value) (hb : n ≤ b) : Below n w (set7 W b o v0 v1 v2 v3 v4 v5 v6) :=
  ((((((h.setCell (p := ⟨b, o, none⟩) hb _).setCell (p := ⟨b, o + 1, none⟩) hb _).setCell (p := ⟨b, o + 2, none⟩) hb _).setCell (p := ⟨b, o + 3, none⟩) hb _).setCell (p := ⟨b, o + 4, none⟩) hb _).setCell (p := ⟨b, o + 5, none⟩) hb _).setCell (p := ⟨b, o + 6, none⟩) hb _

set_option maxHeartbeats 1000000 in
theorem rtrue_any (w : World) : Calls Try.prog 51 #[] w fun e w' => e = .returned (tval tru (.slice none 0 0)) ∧ Below w.heap.size w w' := by
  go_enter Try.func51, Try.ntmps51
  go_wp2
  refine bodyPost_ret (v := tval tru (.slice none 0 0)) (by simp [results, Try.results51, go_sem, *, T.v, T.fn, tru]) rfl ⟨rfl, ?_⟩
  exact below_box w _

theorem nilArgs (w : World) : ArgsAt w (.slice none 0 0) [] := .mk none 0 [] (fun _ => .slice none 0 0) (Nat.le_refl _) (by decide) (fun h => absurd h (by simp)) (fun i h => absurd h (by simp))

set_option maxRecDepth 100000 in
set_option maxHeartbeats 2000000 in
theorem isAtom_any (x : Lt) (a b : Value) (w : World) (hxl : ArgsAt w a x.l.args) (hxr : ArgsAt w b x.r.args) :
    Calls Try.prog 19 #[lval x a b] w fun e w' => e = .returned (.bool (same x.r tru)) ∧ Below w.heap.size w w' := by
  have hL := lbox_at w x a b hxl hxr
  have HB : Hid (Below w.heap.size w (w.alloc (lbox x a b))) := below_box w (lbox x a b)
  have f4 := fun p => cell_far hL.lt hL.zero.2.2.2.2.1 p
  have f5 := fun p => cell_far hL.lt hL.zero.2.2.2.2.2.1 p
  have f6 := fun p => cell_far hL.lt hL.zero.2.2.2.2.2.2 p
  have hc1 : ∀ W, Below (w.alloc (lbox x a b)).heap.size (w.alloc (lbox x a b)) W → Calls Try.prog 50 #[] W fun e w' => e = .returned (tval tru (.slice none 0 0)) ∧ Below W.heap.size W w' := fun W _ => true_any W
  have hc2 : ∀ W, Below (w.alloc (lbox x a b)).heap.size (w.alloc (lbox x a b)) W → Calls Try.prog 48 #[tval x.r b, tval tru (.slice none 0 0)] W fun e w' => e = .returned (.bool (same x.r tru)) ∧ Below W.heap.size W w' := fun W hW => tsame_any x.r tru _ _ W (ArgsAt.keep hW (Nat.le_refl _) hL.ar) (nilArgs W)
  obtain ⟨_, _, rfl, _⟩ := hxl.slice
  obtain ⟨_, _, rfl, _⟩ := hxr.slice
  clear hL hxl hxr
  generalize same x.r tru = r at *
  go_enter Try.func19, Try.ntmps19
  go_wp2
  refine wp_region_far (by kernel_rfl) ?_
  repeat (first | go_big_quiet_step (first | exact calls_far hc1 _ | exact calls_far hc2 _) | quiet_step (first | exact calls_far hc1 _ | exact calls_far hc2 _))
  refine wpQuiet_nil ?_
  intro _ hw'
  obtain ⟨pf, rfl⟩ := hw'
  go_wp2
  go_ret
  exact ⟨rfl, HB.out.trans ((below_far _ pf).mono HB.out.size)⟩

set_option maxRecDepth 100000 in
set_option maxHeartbeats 2000000 in
theorem risAtom_any (x : Lt) (a b : Value) (w : World) (hxl : ArgsAt w a x.l.args) (hxr : ArgsAt w b x.r.args) :
    Calls Try.prog 20 #[lval x a b] w fun e w' => e = .returned (.bool (same x.r tru)) ∧ Below w.heap.size w w' := by
  have hL := lbox_at w x a b hxl hxr
  have HB : Hid (Below w.heap.size w (w.alloc (lbox x a b))) := below_box w (lbox x a b)
  have f4 := fun p => cell_far hL.lt hL.zero.2.2.2.2.1 p
  have f5 := fun p => cell_far hL.lt hL.zero.2.2.2.2.2.1 p
  have f6 := fun p => cell_far hL.lt hL.zero.2.2.2.2.2.2 p
  have hc1 : ∀ W, Below (w.alloc (lbox x a b)).heap.size (w.alloc (lbox x a b)) W → Calls Try.prog 51 #[] W fun e w' => e = .returned (tval tru (.slice none 0 0)) ∧ Below W.heap.size W w' := fun W _ => rtrue_any W
  have hc2 : ∀ W, Below (w.alloc (lbox x a b)).heap.size (w.alloc (lbox x a b)) W → Calls Try.prog 21 #[tval x.r b, tval tru (.slice none 0 0)] W fun e w' => e = .returned (.bool (same x.r tru)) ∧ Below W.heap.size W w' := fun W hW => rsame_any x.r tru _ _ W (ArgsAt.keep hW (Nat.le_refl _) hL.ar) (nilArgs W)
  obtain ⟨_, _, rfl, _⟩ := hxl.slice
  obtain ⟨_, _, rfl, _⟩ := hxr.slice
  clear hL hxl hxr
  generalize same x.r tru = r at *
  go_enter Try.func20, Try.ntmps20
  go_wp2
  refine wp_region_far (by kernel_rfl) ?_
  repeat (first | go_big_quiet_step (first | exact calls_far hc1 _ | exact calls_far hc2 _) | quiet_step (first | exact calls_far hc1 _ | exact calls_far hc2 _))
  refine wpQuiet_nil ?_
  intro _ hw'
  obtain ⟨pf, rfl⟩ := hw'
  go_wp2
  go_ret
  exact ⟨rfl, HB.out.trans ((below_far _ pf).mono HB.out.size)⟩

set_option maxRecDepth 100000 in
set_option maxHeartbeats 4000000 in
theorem atom_any (t : T) (sl : Value) (w : World) (ha : ArgsAt w sl t.args) (hs : t.size ≤ 1048576) :
    Calls Try.prog 22 #[tval t sl] w fun e w' => ∃ s', e = .returned (lval ⟨false, t, tru⟩ s' (.slice none 0 0)) ∧ ArgsFr w.heap.size w' s' t.args ∧ Below w.heap.size w w' := by
  obtain ⟨a, c, rfl, _, _⟩ := ha.slice
  obtain ⟨t0, t1, t2⟩ := tbox_cells w t (.slice a t.args.length c)
  have hbb := below_box (w.alloc (tbox t (.slice a t.args.length c))) (.cells #[.bool false, .int .i64 0, .string ⟨#[]⟩, .slice none 0 0, .int .i64 0, .string ⟨#[]⟩, .slice none 0 0] 28)
  have t0' := kc hbb (by simp) t0
  have t1' := kc hbb (by simp) t1
  have t2' := kc hbb (by simp) t2
  have hb2 : Below w.heap.size w ((w.alloc (tbox t (.slice a t.args.length c))).alloc (.cells #[.bool false, .int .i64 0, .string ⟨#[]⟩, .slice none 0 0, .int .i64 0, .string ⟨#[]⟩, .slice none 0 0] 28)) := below_box2 w _ _
  have hz : ((w.alloc (tbox t (.slice a t.args.length c))).alloc (.cells #[.bool false, .int .i64 0, .string ⟨#[]⟩, .slice none 0 0, .int .i64 0, .string ⟨#[]⟩, .slice none 0 0] 28)).heap[w.heap.size + 1]? = some (.cells #[.bool false, .int .i64 0, .string ⟨#[]⟩, .slice none 0 0, .int .i64 0, .string ⟨#[]⟩, .slice none 0 0] 28 (0, 0)) := by
    have := (MapKept.heap_alloc (w.alloc (tbox t (.slice a t.args.length c))) (.cells #[.bool false, .int .i64 0, .string ⟨#[]⟩, .slice none 0 0, .int .i64 0, .string ⟨#[]⟩, .slice none 0 0] 28)).1
    rw [World.size_alloc] at this
    exact this
  have hS : ((w.alloc (tbox t (.slice a t.args.length c))).alloc (.cells #[.bool false, .int .i64 0, .string ⟨#[]⟩, .slice none 0 0, .int .i64 0, .string ⟨#[]⟩, .slice none 0 0] 28)).heap.size = w.heap.size + 1 + 1 := by simp
  have hco := copied_any t (.slice a t.args.length c) _ (ArgsAt.keep hb2 (Nat.le_refl _) ha) hs
  clear t0 t1 t2 ha hbb
  go_enter Try.func22, Try.ntmps22
  go_wp2_with (first
    | (go_at_call 50; refine (true_any W2).mono ?_; rintro e W3 ⟨rfl, hb4⟩; have hz3 := (hb4.block (w.heap.size + 1) (by have := HX.out.2.2.2; omega)).trans HX.out.1; obtain ⟨⟨z0, z1, z2, z3, z4, z5, z6⟩, y0, y1, y2, y3, y4, y5, y6⟩ := lbox_facts hz3; have HH : Hid (ArgsFr (w.heap.size + 2) W3 (.slice pa t.args.length pc) t.args ∧ Below w.heap.size w W3) := ⟨HX.out.2.1.keep hb4.size (fun k _ hk => hb4.block k hk), HX.out.2.2.1.trans (hb4.mono (by have := HX.out.2.2.2; omega))⟩; clear hb4 hz3)
    | (go_at_call 52; refine hco.mono ?_; rintro e W2 ⟨s', rfl, hfr, hb3⟩; obtain ⟨pa, pc, rfl⟩ := hfr.slice; have HX : Hid (W2.heap[w.heap.size + 1]? = some (.cells #[.bool false, .int .i64 0, .string ⟨#[]⟩, .slice none 0 0, .int .i64 0, .string ⟨#[]⟩, .slice none 0 0] 28 (0, 0)) ∧ ArgsFr (w.heap.size + 2) W2 (.slice pa t.args.length pc) t.args ∧ Below w.heap.size w W2 ∧ w.heap.size + 2 ≤ W2.heap.size) := ⟨(hb3.block (w.heap.size + 1) (by rw [hS]; omega)).trans hz, by rw [hS] at hfr; exact hfr, hb2.trans (hb3.mono (by rw [hS]; omega)), by have := hb3.size; rw [hS] at this; omega⟩; clear hfr hb3))
  refine bodyPost_ret (v := lval ⟨false, t, tru⟩ (.slice pa t.args.length pc) (.slice none 0 0)) (by simp [results, Try.results22, go_sem, *]) rfl ⟨_, rfl, ?_, ?_⟩
  · exact (HH.out.1.keep (W' := set7 W3 (w.heap.size + 1) 0 _ _ _ _ _ _ _) (by simp) (fun k hk _ => set7_other _ _ _ _ _ _ _ _ _ _ k (by omega))).low (by omega)
  · exact set7_below HH.out.2 _ 0 _ _ _ _ _ _ _ (Nat.le_succ _)

end Go.Proofs.Ytgnjgpplelakkaa
