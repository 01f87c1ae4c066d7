import Derived.Test.YtgnjgpplelakkaaGreatUI
import Derived.Test.YtgnjgpplelakkaaGreatLB
import Derived.Test.YtgnjgpplelakkaaGreatLC
import Derived.Test.YtgnjgpplelakkaaGreatC
import Derived.Maps.OwnSet
import Derived.DeepKeys4
import Derived.Deep.MidRow

/-
  What is shifted there and back; what is not touched: plain mathematics.
-/
namespace Go.Proofs.YtgnjgpplelakkaaGreat
open Go.RowKit

theorem vs_range (t : T) : t.shape = true → ∀ n ∈ t.vs, 0 ≤ n ∧ n < 1000000 := by
  induction t using T.ind with
  | _ t ih =>
    intro hs n hn
    rw [T.shape_eq] at hs
    rw [t.vs_eq] at hn
    by_cases h0 : t.fn.size = 0
    · rw [if_pos h0] at hs hn
      simp only [Bool.and_eq_true, decide_eq_true_eq] at hs
      have h1 : t.args = [] := List.eq_nil_of_length_eq_zero hs.2
      rw [h1] at hn
      simp at hn
      subst hn
      exact hs.1
    · rw [if_neg h0] at hs hn
      simp only [Bool.and_eq_true, decide_eq_true_eq, List.all_eq_true] at hs
      obtain ⟨l, hl, hn⟩ := List.mem_flatten.1 (by simpa using hn : n ∈ (t.args.map T.vs).flatten)
      obtain ⟨x, hx, rfl⟩ := List.mem_map.1 hl
      exact ih x hx (hs.2 x hx) n hn

end Go.Proofs.YtgnjgpplelakkaaGreat

/-
  term.At of the whole term, lits.copied, Atom, IsAtom.
-/
namespace Go.Proofs.YtgnjgpplelakkaaGreat
open Go.RowKit

/-- A term's box, and a box for a term behind it. -/
theorem two_boxes (w : World) (t : T) (sl : Value) : Below w.heap.size w ((w.alloc (tbox t sl)).alloc (.cells #[.int .i64 0, .string ⟨#[]⟩, .slice none 0 0] 28)) ∧ ((w.alloc (tbox t sl)).alloc (.cells #[.int .i64 0, .string ⟨#[]⟩, .slice none 0 0] 28)).cell? ⟨w.heap.size, 0, none⟩ = some (.int .i64 t.v) ∧ ((w.alloc (tbox t sl)).alloc (.cells #[.int .i64 0, .string ⟨#[]⟩, .slice none 0 0] 28)).cell? ⟨w.heap.size, 1, none⟩ = some (.string t.fn) ∧ ((w.alloc (tbox t sl)).alloc (.cells #[.int .i64 0, .string ⟨#[]⟩, .slice none 0 0] 28)).cell? ⟨w.heap.size, 2, none⟩ = some sl ∧ ((w.alloc (tbox t sl)).alloc (.cells #[.int .i64 0, .string ⟨#[]⟩, .slice none 0 0] 28)).heap[w.heap.size + 1]? = some (.cells #[.int .i64 0, .string ⟨#[]⟩, .slice none 0 0] 28 (0, 0)) ∧ ((w.alloc (tbox t sl)).alloc (.cells #[.int .i64 0, .string ⟨#[]⟩, .slice none 0 0] 28)).heap.size = w.heap.size + 1 + 1 := by
  obtain ⟨t0, t1, t2⟩ := tbox_cells w t sl
  have hbb := below_box (w.alloc (tbox t sl)) (.cells #[.int .i64 0, .string ⟨#[]⟩, .slice none 0 0] 28)
  refine ⟨below_box2 w _ _, kc hbb (by simp) t0, kc hbb (by simp) t1, kc hbb (by simp) t2, ?_, by simp⟩
  have := (MapKept.heap_alloc (w.alloc (tbox t sl)) (.cells #[.int .i64 0, .string ⟨#[]⟩, .slice none 0 0] 28)).1
  rw [World.size_alloc] at this
  exact this

set_option maxRecDepth 100000 in
set_option maxHeartbeats 2000000 in
theorem find_nil (t : T) (a : Option Addr) (n c : Nat) (w : World) : Calls Tryz.prog 83 #[tval t (.slice a n c), .slice none 0 0] w fun e W' => e = .returned (.tuple #[tval t (.slice a n c), .bool true]) ∧ Below w.heap.size w W' := by
  obtain ⟨hb2, c0, c1, c2, hz, hS⟩ := two_boxes w t (.slice a n c)
  obtain ⟨⟨z0, z1, z2⟩, y0, y1, y2⟩ := box_facts hz
  have HB : Hid (Below w.heap.size w ((w.alloc (tbox t (.slice a n c))).alloc (.cells #[.int .i64 0, .string ⟨#[]⟩, .slice none 0 0] 28))) := hb2
  obtain ⟨W2, hW2⟩ : ∃ W2, (w.alloc (tbox t (.slice a n c))).alloc (.cells #[.int .i64 0, .string ⟨#[]⟩, .slice none 0 0] 28) = W2 := ⟨_, rfl⟩
  rw [hW2] at HB c0 c1 c2 z0 z1 z2 y0 y1 y2
  have HW : Hid ((w.alloc (tbox t (.slice a n c))).alloc (.cells #[.int .i64 0, .string ⟨#[]⟩, .slice none 0 0] 28) = W2) := hW2
  clear hb2 hz hW2 hS
  go_enter Tryz.func83, Tryz.ntmps83
  go_wp2
  go_loopw [10] (fun vi wr => vi = .int .i64 0 ∧ wr = W2) (fun _ _ => 0)
  case atStart => exact ⟨rfl, HW.out⟩
  case round =>
    obtain ⟨rfl, rfl⟩ := hrel
    go_wp2
    refine bodyPost_ret (v := .tuple #[tval t (.slice a n c), .bool true]) (by simp [results, Tryz.results83, go_sem, *, T.v, T.fn]) rfl ⟨rfl, ?_⟩
    exact set3_below HB.out _ 0 _ _ _ (Nat.le_succ _)

set_option maxRecDepth 100000 in
set_option maxHeartbeats 2000000 in
theorem at_nil (t : T) (sl : Value) (w : World) (ha : ArgsAt w sl t.args) (hs : t.size ≤ 1048576) : Calls Tryz.prog 61 #[tval t sl, .slice none 0 0] w fun e W' => ∃ s', e = .returned (.tuple #[tval t s', .int .i64 0]) ∧ ArgsFr w.heap.size W' s' t.args ∧ Below w.heap.size w W' := by
  obtain ⟨a, c, rfl, _, _⟩ := ha.slice
  obtain ⟨hb2, c0, c1, c2, hz, hS⟩ := two_boxes w t (.slice a t.args.length c)
  have hfi := find_nil t a t.args.length c ((w.alloc (tbox t (.slice a t.args.length c))).alloc (.cells #[.int .i64 0, .string ⟨#[]⟩, .slice none 0 0] 28))
  have HA : Hid (ArgsAt ((w.alloc (tbox t (.slice a t.args.length c))).alloc (.cells #[.int .i64 0, .string ⟨#[]⟩, .slice none 0 0] 28)) (.slice a t.args.length c) t.args) := ArgsAt.keep hb2 (Nat.le_refl _) ha
  have HB : Hid (Below w.heap.size w ((w.alloc (tbox t (.slice a t.args.length c))).alloc (.cells #[.int .i64 0, .string ⟨#[]⟩, .slice none 0 0] 28))) := hb2
  have HZ : Hid (((w.alloc (tbox t (.slice a t.args.length c))).alloc (.cells #[.int .i64 0, .string ⟨#[]⟩, .slice none 0 0] 28)).heap[w.heap.size + 1]? = some (.cells #[.int .i64 0, .string ⟨#[]⟩, .slice none 0 0] 28 (0, 0)) ∧ ((w.alloc (tbox t (.slice a t.args.length c))).alloc (.cells #[.int .i64 0, .string ⟨#[]⟩, .slice none 0 0] 28)).heap.size = w.heap.size + 1 + 1) := ⟨hz, hS⟩
  clear hb2 hz ha hS
  go_enter Tryz.func61, Tryz.ntmps61
  go_wp2_with (first
    | (go_at_call 84; refine hcl.mono ?_; rintro e W3 ⟨s', rfl, hfr, hb3⟩; have hz3 := (hb3.block (w.heap.size + 1) (by have := HX.out.2.2.2; simp; omega)).trans HX.out.2.1; obtain ⟨⟨z0, z1, z2⟩, y0, y1, y2⟩ := box_facts hz3; obtain ⟨pa, pc, rfl⟩ := hfr.slice; have HH : Hid (ArgsFr (w.heap.size + 2) W3 (.slice pa t.args.length pc) t.args ∧ Below w.heap.size w W3) := ⟨hfr.low (by have := HX.out.2.2.2; simp; omega), HX.out.2.2.1.trans (hb3.mono (by have := HX.out.2.2.2; simp; omega))⟩; clear hfr hb3 hz3)
    | (go_at_call 83; refine hfi.mono ?_; rintro e W2 ⟨rfl, hb2⟩; have hb3 := below_box W2 (tbox t (.slice a t.args.length c)); have hw2 := hb2.trans (hb3.mono hb2.size); obtain ⟨d0, d1, d2⟩ := tbox_cells W2 t (.slice a t.args.length c); have hcl := clone_t t (.slice a t.args.length c) (W2.alloc (tbox t (.slice a t.args.length c))) (ArgsAt.keep hw2 (Nat.le_refl _) HA.out) hs; have HX : Hid (True ∧ (W2.alloc (tbox t (.slice a t.args.length c))).heap[w.heap.size + 1]? = some (.cells #[.int .i64 0, .string ⟨#[]⟩, .slice none 0 0] 28 (0, 0)) ∧ Below w.heap.size w (W2.alloc (tbox t (.slice a t.args.length c))) ∧ w.heap.size + 2 ≤ W2.heap.size) := ⟨trivial, (hw2.block (w.heap.size + 1) (by rw [HZ.out.2]; omega)).trans HZ.out.1, HB.out.trans (hw2.mono (by rw [HZ.out.2]; omega)), by have := hb2.size; rw [HZ.out.2] at this; omega⟩; clear hb2 hb3 hw2))
  refine bodyPost_ret (v := .tuple #[tval t (.slice pa t.args.length pc), .int .i64 0]) (by simp [results, Tryz.results61, go_sem, *, T.v, T.fn]) rfl ⟨_, rfl, ?_, ?_⟩
  · exact (HH.out.1.keep (W' := set3 W3 (w.heap.size + 1) 0 _ _ _) (by simp) (fun k hk _ => set3_other _ _ _ _ _ _ k (by omega))).low (by omega)
  · exact set3_below HH.out.2 _ 0 _ _ _ (Nat.le_succ _)

set_option maxRecDepth 100000 in
set_option maxHeartbeats 2000000 in
theorem copied_any (t : T) (sl : Value) (w : World) (ha : ArgsAt w sl t.args) (hs : t.size ≤ 1048576) : Calls Tryz.prog 34 #[tval t sl] w fun e W' => ∃ s', e = .returned (tval t s') ∧ ArgsFr w.heap.size W' s' t.args ∧ Below w.heap.size w W' := by
  obtain ⟨a, c, rfl, _, _⟩ := ha.slice
  obtain ⟨hb2, c0, c1, c2, hz, hS⟩ := two_boxes w t (.slice a t.args.length c)
  have hat := at_nil t (.slice a t.args.length c) _ (ArgsAt.keep hb2 (Nat.le_refl _) ha) hs
  have HB : Hid (Below w.heap.size w ((w.alloc (tbox t (.slice a t.args.length c))).alloc (.cells #[.int .i64 0, .string ⟨#[]⟩, .slice none 0 0] 28))) := hb2
  have HZ : Hid (((w.alloc (tbox t (.slice a t.args.length c))).alloc (.cells #[.int .i64 0, .string ⟨#[]⟩, .slice none 0 0] 28)).heap[w.heap.size + 1]? = some (.cells #[.int .i64 0, .string ⟨#[]⟩, .slice none 0 0] 28 (0, 0)) ∧ ((w.alloc (tbox t (.slice a t.args.length c))).alloc (.cells #[.int .i64 0, .string ⟨#[]⟩, .slice none 0 0] 28)).heap.size = w.heap.size + 1 + 1) := ⟨hz, hS⟩
  clear hb2 hz ha hS
  go_enter Tryz.func34, Tryz.ntmps34
  go_wp2_with (first
    | (go_at_call 61; refine hat.mono ?_; rintro e W2 ⟨s', rfl, hfr, hb2⟩; obtain ⟨pa, pc, rfl⟩ := hfr.slice; have hb3 := below_box W2 (tbox t (.slice pa t.args.length pc)); have hw2 := hb2.trans (hb3.mono hb2.size); obtain ⟨d0, d1, d2⟩ := tbox_cells W2 t (.slice pa t.args.length pc); have hz3 := (hw2.block (w.heap.size + 1) (by rw [HZ.out.2]; omega)).trans HZ.out.1; obtain ⟨⟨z0, z1, z2⟩, y0, y1, y2⟩ := box_facts hz3; have HH : Hid (ArgsFr (w.heap.size + 2) (W2.alloc (tbox t (.slice pa t.args.length pc))) (.slice pa t.args.length pc) t.args ∧ Below w.heap.size w (W2.alloc (tbox t (.slice pa t.args.length pc)))) := ⟨(hfr.low (by rw [HZ.out.2]; omega)).keep hb3.size (fun k _ hk => hb3.block k hk), HB.out.trans (hw2.mono (by rw [HZ.out.2]; omega))⟩; clear hfr hb2 hb3 hw2 hz3))
  refine bodyPost_ret (v := tval t (.slice pa t.args.length pc)) (by simp [results, Tryz.results34, go_sem, *]) rfl ⟨_, rfl, ?_, ?_⟩
  · exact (HH.out.1.keep (W' := set3 (W2.alloc (tbox t (.slice pa t.args.length pc))) (w.heap.size + 1) 0 _ _ _) (by simp) (fun k hk _ => set3_other _ _ _ _ _ _ k (by omega))).low (by omega)
  · exact set3_below HH.out.2 _ 0 _ _ _ (Nat.le_succ _)

end Go.Proofs.YtgnjgpplelakkaaGreat

/-
  lits.Atom, IsAtom; the document's True, IsAtom.
-/
namespace Go.Proofs.YtgnjgpplelakkaaGreat
open Go.RowKit

theorem lbox_facts {X : World} {n : Nat} {v0 v1 v2 v3 v4 v5 v6 : Value} (h : X.heap[n]? = some (.cells #[v0, v1, v2, v3, v4, v5, v6] 40 (0, 0))) : (X.cell? ⟨n, 0, none⟩ = some v0 ∧ X.cell? ⟨n, 1, none⟩ = some v1 ∧ X.cell? ⟨n, 2, none⟩ = some v2 ∧ X.cell? ⟨n, 3, none⟩ = some v3 ∧ X.cell? ⟨n, 4, none⟩ = some v4 ∧ X.cell? ⟨n, 5, none⟩ = some v5 ∧ X.cell? ⟨n, 6, none⟩ = some v6) ∧ (X.frozen? ⟨n, 0, none⟩ = false ∧ X.frozen? ⟨n, 1, none⟩ = false ∧ X.frozen? ⟨n, 2, none⟩ = false ∧ X.frozen? ⟨n, 3, none⟩ = false ∧ X.frozen? ⟨n, 4, none⟩ = false ∧ X.frozen? ⟨n, 5, none⟩ = false ∧ X.frozen? ⟨n, 6, none⟩ = false) := by
  refine ⟨⟨?_, ?_, ?_, ?_, ?_, ?_, ?_⟩, ⟨?_, ?_, ?_, ?_, ?_, ?_, ?_⟩⟩ <;> simp [World.cell?, World.frozen?, h]

/-- Seven cells of one block are written. -/
abbrev set7 (W : World) (b o : Nat) (v0 v1 v2 v3 v4 v5 v6 : Value) : World := ((((((W.setCell ⟨b, o, none⟩ v0).setCell ⟨b, o + 1, none⟩ v1).setCell ⟨b, o + 2, none⟩ v2).setCell ⟨b, o + 3, none⟩ v3).setCell ⟨b, o + 4, none⟩ v4).setCell ⟨b, o + 5, none⟩ v5).setCell ⟨b, o + 6, none⟩ v6

theorem set7_other (W : World) (b o : Nat) (v0 v1 v2 v3 v4 v5 v6 : Value) (k : Nat) (h : k ≠ b) : (set7 W b o v0 v1 v2 v3 v4 v5 v6).heap[k]? = W.heap[k]? := by
  rw [Below.heap_setCell _ _ _ k h, Below.heap_setCell _ _ _ k h, Below.heap_setCell _ _ _ k h, Below.heap_setCell _ _ _ k h, Below.heap_setCell _ _ _ k h, Below.heap_setCell _ _ _ k h, Below.heap_setCell _ _ _ k h]

theorem set7_below {n : Nat} {w W : World} (h : Below n w W) (b o : Nat) (v0 v1 v2 v3 v4 v5 v6 : Value) (hb : n ≤ b) : Below n w (set7 W b o v0 v1 v2 v3 v4 v5 v6) :=
  ((((((h.setCell (p := ⟨b, o, none⟩) hb _).setCell (p := ⟨b, o + 1, none⟩) hb _).setCell (p := ⟨b, o + 2, none⟩) hb _).setCell (p := ⟨b, o + 3, none⟩) hb _).setCell (p := ⟨b, o + 4, none⟩) hb _).setCell (p := ⟨b, o + 5, none⟩) hb _).setCell (p := ⟨b, o + 6, none⟩) hb _

theorem nilArgs (w : World) : ArgsAt w (.slice none 0 0) [] := .mk none 0 [] (fun _ => .slice none 0 0) (Nat.le_refl _) (by decide) (fun h => absurd h (by simp)) (fun i h => absurd h (by simp))

set_option maxRecDepth 100000 in
set_option maxHeartbeats 2000000 in
theorem isAtom_any (x : Lt) (a b : Value) (w : World) (hxl : ArgsAt w a x.l.args) (hxr : ArgsAt w b x.r.args) :
    Calls Tryz.prog 14 #[lval x a b] w fun e w' => e = .returned (.bool (same x.r tru)) ∧ Below w.heap.size w w' := by
  have hL := lbox_at w x a b hxl hxr
  have HB : Hid (Below w.heap.size w (w.alloc (lbox x a b))) := below_box w (lbox x a b)
  have f4 := fun p => cell_far hL.lt hL.zero.2.2.2.2.1 p
  have f5 := fun p => cell_far hL.lt hL.zero.2.2.2.2.2.1 p
  have f6 := fun p => cell_far hL.lt hL.zero.2.2.2.2.2.2 p
  have hc1 : ∀ W, Below (w.alloc (lbox x a b)).heap.size (w.alloc (lbox x a b)) W → Calls Tryz.prog 13 #[] W fun e w' => e = .returned (tval tru (.slice none 0 0)) ∧ Below W.heap.size W w' := fun W _ => true_any W
  have hc2 : ∀ W, Below (w.alloc (lbox x a b)).heap.size (w.alloc (lbox x a b)) W → Calls Tryz.prog 33 #[tval x.r b, tval tru (.slice none 0 0)] W fun e w' => e = .returned (.bool (same x.r tru)) ∧ Below W.heap.size W w' := fun W hW => tsame_any x.r tru _ _ W (ArgsAt.keep hW (Nat.le_refl _) hL.ar) (nilArgs W)
  obtain ⟨_, _, rfl, _⟩ := hxl.slice
  obtain ⟨_, _, rfl, _⟩ := hxr.slice
  clear hL hxl hxr
  generalize same x.r tru = r at *
  go_enter Tryz.func14, Tryz.ntmps14
  go_wp2
  refine wp_region_far (by kernel_rfl) ?_
  repeat (first | go_big_quiet_step (first | exact calls_far hc1 _ | exact calls_far hc2 _) | quiet_step (first | exact calls_far hc1 _ | exact calls_far hc2 _))
  refine wpQuiet_nil ?_
  intro _ hw'
  obtain ⟨pf, rfl⟩ := hw'
  go_wp2
  go_ret
  exact ⟨rfl, HB.out.trans ((below_far _ pf).mono HB.out.size)⟩

set_option maxRecDepth 100000 in
set_option maxHeartbeats 4000000 in
theorem atom_any (t : T) (sl : Value) (w : World) (ha : ArgsAt w sl t.args) (hs : t.size ≤ 1048576) :
    Calls Tryz.prog 15 #[tval t sl] w fun e w' => ∃ s', e = .returned (lval ⟨false, t, tru⟩ s' (.slice none 0 0)) ∧ ArgsFr w.heap.size w' s' t.args ∧ Below w.heap.size w w' := by
  obtain ⟨a, c, rfl, _, _⟩ := ha.slice
  obtain ⟨t0, t1, t2⟩ := tbox_cells w t (.slice a t.args.length c)
  have hbb := below_box (w.alloc (tbox t (.slice a t.args.length c))) (.cells #[.bool false, .int .i64 0, .string ⟨#[]⟩, .slice none 0 0, .int .i64 0, .string ⟨#[]⟩, .slice none 0 0] 40)
  have t0' := kc hbb (by simp) t0
  have t1' := kc hbb (by simp) t1
  have t2' := kc hbb (by simp) t2
  have hb2 : Below w.heap.size w ((w.alloc (tbox t (.slice a t.args.length c))).alloc (.cells #[.bool false, .int .i64 0, .string ⟨#[]⟩, .slice none 0 0, .int .i64 0, .string ⟨#[]⟩, .slice none 0 0] 40)) := below_box2 w _ _
  have hz : ((w.alloc (tbox t (.slice a t.args.length c))).alloc (.cells #[.bool false, .int .i64 0, .string ⟨#[]⟩, .slice none 0 0, .int .i64 0, .string ⟨#[]⟩, .slice none 0 0] 40)).heap[w.heap.size + 1]? = some (.cells #[.bool false, .int .i64 0, .string ⟨#[]⟩, .slice none 0 0, .int .i64 0, .string ⟨#[]⟩, .slice none 0 0] 40 (0, 0)) := by
    have := (MapKept.heap_alloc (w.alloc (tbox t (.slice a t.args.length c))) (.cells #[.bool false, .int .i64 0, .string ⟨#[]⟩, .slice none 0 0, .int .i64 0, .string ⟨#[]⟩, .slice none 0 0] 40)).1
    rw [World.size_alloc] at this
    exact this
  have hS : ((w.alloc (tbox t (.slice a t.args.length c))).alloc (.cells #[.bool false, .int .i64 0, .string ⟨#[]⟩, .slice none 0 0, .int .i64 0, .string ⟨#[]⟩, .slice none 0 0] 40)).heap.size = w.heap.size + 1 + 1 := by simp
  have hco := copied_any t (.slice a t.args.length c) _ (ArgsAt.keep hb2 (Nat.le_refl _) ha) hs
  clear t0 t1 t2 ha hbb
  go_enter Tryz.func15, Tryz.ntmps15
  go_wp2_with (first
    | (go_at_call 13; refine (true_any W2).mono ?_; rintro e W3 ⟨rfl, hb4⟩; have hz3 := (hb4.block (w.heap.size + 1) (by have := HX.out.2.2.2; omega)).trans HX.out.1; obtain ⟨⟨z0, z1, z2, z3, z4, z5, z6⟩, y0, y1, y2, y3, y4, y5, y6⟩ := lbox_facts hz3; have HH : Hid (ArgsFr (w.heap.size + 2) W3 (.slice pa t.args.length pc) t.args ∧ Below w.heap.size w W3) := ⟨HX.out.2.1.keep hb4.size (fun k _ hk => hb4.block k hk), HX.out.2.2.1.trans (hb4.mono (by have := HX.out.2.2.2; omega))⟩; clear hb4 hz3)
    | (go_at_call 34; refine hco.mono ?_; rintro e W2 ⟨s', rfl, hfr, hb3⟩; obtain ⟨pa, pc, rfl⟩ := hfr.slice; have HX : Hid (W2.heap[w.heap.size + 1]? = some (.cells #[.bool false, .int .i64 0, .string ⟨#[]⟩, .slice none 0 0, .int .i64 0, .string ⟨#[]⟩, .slice none 0 0] 40 (0, 0)) ∧ ArgsFr (w.heap.size + 2) W2 (.slice pa t.args.length pc) t.args ∧ Below w.heap.size w W2 ∧ w.heap.size + 2 ≤ W2.heap.size) := ⟨(hb3.block (w.heap.size + 1) (by rw [hS]; omega)).trans hz, by rw [hS] at hfr; exact hfr, hb2.trans (hb3.mono (by rw [hS]; omega)), by have := hb3.size; rw [hS] at this; omega⟩; clear hfr hb3))
  refine bodyPost_ret (v := lval ⟨false, t, tru⟩ (.slice pa t.args.length pc) (.slice none 0 0)) (by simp [results, Tryz.results15, go_sem, *]) rfl ⟨_, rfl, ?_, ?_⟩
  · exact (HH.out.1.keep (W' := set7 W3 (w.heap.size + 1) 0 _ _ _ _ _ _ _) (by simp) (fun k hk _ => set7_other _ _ _ _ _ _ _ _ _ _ k (by omega))).low (by omega)
  · exact set7_below HH.out.2 _ 0 _ _ _ _ _ _ _ (Nat.le_succ _)

end Go.Proofs.YtgnjgpplelakkaaGreat

/-
  Maps, by what they hold.
-/
namespace Go.Proofs.YtgnjgpplelakkaaGreat
open Go.RowKit Go.Maps

/-- Nothing old has turned but the blocks B. -/
structure Only (B : List Nat) (w w' : World) : Prop where
  os : w'.os = w.os
  tape : w'.tape = w.tape
  output : w'.output = w.output
  size : w.heap.size ≤ w'.heap.size
  block : ∀ k, k < w.heap.size → k ∉ B → w'.heap[k]? = w.heap[k]?

theorem Only.refl (B : List Nat) (w : World) : Only B w w := ⟨rfl, rfl, rfl, Nat.le_refl _, fun _ _ _ => rfl⟩
theorem Only.of_below {B : List Nat} {w w' : World} (h : Below w.heap.size w w') : Only B w w' := ⟨h.os, h.tape, h.output, h.size, fun k hk _ => h.block k hk⟩
theorem Only.of_grown {B : List Nat} {w w' : World} {row : Option Nat} (h : w.grownBy w' row) (hr : ∀ r, row = some r → r ∈ B) : Only B w w' := ⟨h.os, h.tape, h.output, h.size, fun k hk hn => h.block k hk (fun e => hn (hr k e.symm))⟩
/-- Behind one another, where the second's blocks are the first's, or new. -/
theorem Only.trans {B B' : List Nat} {x y z : World} (h : Only B x y) (k : Only B' y z) (hB : ∀ r ∈ B', r ∈ B ∨ x.heap.size ≤ r) : Only B x z :=
  ⟨k.os.trans h.os, k.tape.trans h.tape, k.output.trans h.output, Nat.le_trans h.size k.size, fun i hi hn => (k.block i (Nat.lt_of_lt_of_le hi h.size) (fun hm => by
    rcases hB i hm with h' | h'
    · exact hn h'
    · omega)).trans (h.block i hi hn)⟩
theorem Only.below {B : List Nat} {w w' : World} {n : Nat} (h : Only B w w') (hn : n ≤ w.heap.size) (hB : ∀ r ∈ B, n ≤ r) : Below n w w' :=
  ⟨h.os, h.tape, h.output, h.size, fun k hk => h.block k (by omega) (fun hm => by have := hB k hm; omega)⟩

/-- A number of the machine's. -/
def Fit64 (a : Int) : Prop := -9223372036854775808 ≤ a ∧ a ≤ 9223372036854775807
theorem wf_of {a : Int} (h : Fit64 a) : (Lit.int .i64 a).wf = true := by
  unfold Fit64 at h
  have e : wrap64 a = a := by simp only [wrap64]; omega
  have := wrap64_wf a
  rwa [e] at this

theorem keyed3 : Keyed Tryz.prog 3 := int_keyed Tryz.underlying3

/-- A map's value, as it is. -/
def Rid (v : Value) : Option (DataW Value × List MemPlace) := some (.held v, [])

/-- Block b is a map with n keys; m tells what it holds. -/
def MapIs (W : World) (k : TypeId) (b : Nat) (m : Value → Option Value) (n : Nat) : Prop :=
  ∃ D, W.ownsMap Tryz.prog k Rid b n D ∧ Maps.size D = n ∧ ∀ key kl, keyOf Tryz.prog k key = some kl →
    (∀ v, m key = some v → Maps.has D kl = true ∧ ∀ z, D.atKey kl z = .held v) ∧ (m key = none → Maps.has D kl = false)

open Classical in
noncomputable def upd (m : Value → Option Value) (key v : Value) : Value → Option Value := fun x => if x = key then some v else m x
open Classical in
noncomputable def del (m : Value → Option Value) (key : Value) : Value → Option Value := fun x => if x = key then none else m x

theorem tight {W : World} {k : TypeId} {b n : Nat} {D : DataW Value} (h : W.ownsMap Tryz.prog k Rid b n D) : W.ownsMap Tryz.prog k Rid b (Maps.size D) D := by
  obtain ⟨es, clock, hb, F, hs, rfl⟩ := h
  refine ⟨es, clock, hb, F, ?_, rfl⟩
  simp [Maps.size, length_sorted]

theorem MapIs.made (w : World) (k : TypeId) : MapIs (w.alloc (.map #[] 0)) k w.heap.size (fun _ => none) 0 :=
  ⟨_, World.ownsMap_made w _ _ _, rfl, fun _ _ _ => ⟨fun v h => (by cases h), fun _ => rfl⟩⟩

section
variable {W W' : World} {k : TypeId} {b n : Nat} {m : Value → Option Value}

theorem MapIs.lt (h : MapIs W k b m n) : b < W.heap.size := by
  obtain ⟨D, h1, _⟩ := h
  exact h1.lt
theorem MapIs.same (h : MapIs W k b m n) (hb : W'.heap[b]? = W.heap[b]?) : MapIs W' k b m n := by
  obtain ⟨D, ⟨es, clock, hb', r⟩, h2⟩ := h
  exact ⟨D, ⟨es, clock, hb.trans hb', r⟩, h2⟩

theorem MapIs.look (h : MapIs W k b m n) (K : Keyed Tryz.prog k) {t e : TypeId} (ht : Tryz.prog.underlying t = some (.map k e)) {z : Value} (hz : (zeroValue e).run Tryz.prog W = .ok z W) {key : Value} {kl : Lit} (hkey : keyOf Tryz.prog k key = some kl) :
    (∀ v, m key = some v → (Instr.lookup t (.map (some b)) key true).run Tryz.prog W = .ok (.tuple #[v, .bool true]) W ∧ (Instr.lookup t (.map (some b)) key false).run Tryz.prog W = .ok v W) ∧
    (m key = none → (Instr.lookup t (.map (some b)) key true).run Tryz.prog W = .ok (.tuple #[z, .bool false]) W ∧ (Instr.lookup t (.map (some b)) key false).run Tryz.prog W = .ok z W) := by
  obtain ⟨D, h1, h2, h3⟩ := h
  obtain ⟨v1, p1, r1, q1⟩ := h1.look_ok K ht hz (zd := .held z) (zp := []) rfl hkey
  obtain ⟨v2, p2, r2, q2⟩ := h1.lookup K ht hz (zd := .held z) (zp := []) rfl hkey
  obtain ⟨g1, g2⟩ := h3 key kl hkey
  simp only [Rid, Option.some.injEq, Prod.mk.injEq] at q1 q2
  refine ⟨fun v hv => ?_, fun hn => ?_⟩
  · obtain ⟨a1, a2⟩ := g1 v hv
    rw [a2] at q1 q2
    have e1 := DataW.held.inj q1.1
    have e2 := DataW.held.inj q2.1
    rw [a1, e1] at r1
    rw [e2] at r2
    exact ⟨r1, r2⟩
  · have a1 := g2 hn
    rw [Maps.atKey_of_not_has a1] at q1 q2
    have e1 := DataW.held.inj q1.1
    have e2 := DataW.held.inj q2.1
    rw [a1, e1] at r1
    rw [e2] at r2
    exact ⟨r1, r2⟩

theorem MapIs.len (h : MapIs W k b m n) {t e : TypeId} (ht : Tryz.prog.underlying t = some (.map k e)) (ty : TypeId) : (Builtin.len_ #[t] ty #[.map (some b)]).run Tryz.prog W = .ok (.int .i64 n) W := by
  obtain ⟨D, h1, h2, _⟩ := h
  have := h1.len ht ty
  rwa [h2] at this

theorem MapIs.put (h : MapIs W k b m n) (K : Keyed Tryz.prog k) {t e : TypeId} (ht : Tryz.prog.underlying t = some (.map k e)) (hn : n < maxLen) {key : Value} {kl : Lit} (hkey : keyOf Tryz.prog k key = some kl) (v : Value) :
    ∃ W', (Instr.mapUpdate t (.map (some b)) key v).run Tryz.prog W = .ok () W' ∧ MapIs W' k b (upd m key v) (match m key with | some _ => n | none => n + 1) ∧ W.grownBy W' (some b) := by
  obtain ⟨D, h1, h2, h3⟩ := h
  obtain ⟨W', r1, r2, r3⟩ := h1.update K ht hn hkey (val := v) (d := .held v) (ps := []) rfl
  obtain ⟨g1, g2⟩ := h3 key kl hkey
  have hsz : Maps.size (D.put kl (.held v)) = match m key with | some _ => n | none => n + 1 := by
    rw [Maps.size_put (h1.tidy K)]
    cases hm : m key with
    | none => rw [g2 hm, h2]; rfl
    | some u => rw [(g1 u hm).1, h2]; rfl
  have r2' := tight r2
  rw [hsz] at r2'
  refine ⟨W', r1, ⟨_, r2', hsz, fun key' kl' hk' => ?_⟩, r3⟩
  by_cases hkk : key' = key
  · subst hkk
    rw [hkey] at hk'
    cases hk'
    refine ⟨fun u hu => ?_, fun hu => ?_⟩
    · simp [upd] at hu
      subst hu
      exact ⟨Maps.has_put_same h1.isMap (K.key hkey) _, fun z => Maps.atKey_put_same h1.isMap (K.key hkey) _ z⟩
    · simp [upd] at hu
  · have hne : kl' ≠ kl := fun e => hkk (K.inj hk' (e ▸ hkey))
    obtain ⟨f1, f2⟩ := h3 key' kl' hk'
    refine ⟨fun u hu => ?_, fun hu => ?_⟩
    · rw [upd, if_neg hkk] at hu
      rw [Maps.has_put_other hne]
      exact ⟨(f1 u hu).1, fun z => by rw [Maps.atKey_put_other hne]; exact (f1 u hu).2 z⟩
    · rw [upd, if_neg hkk] at hu
      rw [Maps.has_put_other hne]
      exact f2 hu

theorem MapIs.drop (h : MapIs W k b m n) (K : Keyed Tryz.prog k) {t e : TypeId} (ht : Tryz.prog.underlying t = some (.map k e)) {key : Value} {kl : Lit} (hkey : keyOf Tryz.prog k key = some kl) (ty : TypeId) :
    ∃ W', (Builtin.delete_ #[t, k] ty #[.map (some b), key]).run Tryz.prog W = .ok (.tuple #[]) W' ∧ MapIs W' k b (del m key) (match m key with | some _ => n - 1 | none => n) ∧ W.grownBy W' (some b) := by
  obtain ⟨D, h1, h2, h3⟩ := h
  obtain ⟨W', r1, r2, r3⟩ := h1.drop K ht hkey ty
  obtain ⟨g1, g2⟩ := h3 key kl hkey
  have hsz : Maps.size (D.del kl) = match m key with | some _ => n - 1 | none => n := by
    have := Maps.size_del (k := kl) (h1.tidy K)
    cases hm : m key with
    | none => rw [g2 hm, h2] at this; simpa using this
    | some u => rw [(g1 u hm).1, h2] at this; simp at this ⊢; omega
  have r2' := tight r2
  rw [hsz] at r2'
  refine ⟨W', r1, ⟨_, r2', hsz, fun key' kl' hk' => ?_⟩, r3.grown⟩
  by_cases hkk : key' = key
  · subst hkk
    rw [hkey] at hk'
    cases hk'
    refine ⟨fun u hu => ?_, fun _ => Maps.has_del_same⟩
    simp [del] at hu
  · have hne : kl' ≠ kl := fun e => hkk (K.inj hk' (e ▸ hkey))
    obtain ⟨f1, f2⟩ := h3 key' kl' hk'
    refine ⟨fun u hu => ?_, fun hu => ?_⟩
    · rw [del, if_neg hkk] at hu
      rw [Maps.has_del_other hne]
      exact ⟨(f1 u hu).1, fun z => by rw [Maps.atKey_del_other hne]; exact (f1 u hu).2 z⟩
    · rw [del, if_neg hkk] at hu
      rw [Maps.has_del_other hne]
      exact f2 hu
end

theorem key3 {a : Int} (h : Fit64 a) : keyOf Tryz.prog 3 (.int .i64 a) = some (.int .i64 a) := keyOf_int_mk Tryz.underlying3 (wf_of h)

/-- A store into a map, by its run. -/
theorem wpList_mapUpdate_run {ops : Array Oper} {rest : List Oper} {op : Oper} {a : Act} {w w' : World} {Q : Exit → Act → World → Prop} (hgd : op.guard = none) (t : TypeId) (m x v : Operand) (ho : op.op = .mapUpdate t m x v) (mv kv vv : Value) (hm : a.eval m = mv) (hx : a.eval x = kv) (hv : a.eval v = vv)
    (hrun : (Instr.mapUpdate t mv kv vv).run Tryz.prog w = .ok () w') (h : wpList Tryz.prog ops Q rest (a.put op.dst undef) w') : wpList Tryz.prog ops Q (op :: rest) a w := by
  refine wpList_plain hgd fun _ hK => ?_
  unfold Oper.wp execOp
  simp only [ho, hm, hx, hv, Sem.run_bind, hrun, Result.andThen_ok, Sem.run_pure]
  exact hK _ _ h

end Go.Proofs.YtgnjgpplelakkaaGreat
