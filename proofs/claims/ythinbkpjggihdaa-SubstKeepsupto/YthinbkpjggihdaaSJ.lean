/-
  subst.extents.
-/
import Derived.Test.YthinbkpjggihdaaSI
import Derived.Deep.RegionHeld3
namespace Go.Proofs.Ythinbkpjggihdaa
open Go.RowKit

theorem Try.info77 : (Try.prog.info? 77).map (fun i => (i.zero, i.size, i.bytes)) = some (some (.agg #[.int .i64 0, .int .i64 0]), 2, 16) := by kernel_rfl

/-- A term that is right, and so small that all can be counted. -/
structure Rt (t : T) : Prop where
  shape : t.shape = true
  size : t.size ≤ 4000
  depth : t.depth ≤ 60
  short : Short t

/-- A row of extents, the first i of which are told. -/
structure ExtI (g n i : Nat) (l : List Bd) (W : World) : Prop where
  blk : ∃ arr, W.heap[g]? = some (.cells arr 77 (0, 0)) ∧ arr.size = n * 2
  el : ∀ j (hj : j < l.length), j < i → W.cell? ⟨g, j * 2, none⟩ = some (.int .i64 l[j].2.size) ∧ W.cell? ⟨g, j * 2 + 1, none⟩ = some (.int .i64 l[j].2.depth)

theorem ExtI.keep {g n i : Nat} {l : List Bd} {W W' : World} (h : ExtI g n i l W) (hb : Below W.heap.size W W') : ExtI g n i l W' := by
  obtain ⟨arr, h1, h2⟩ := h.blk
  have hlt : g < W.heap.size := (Array.getElem?_eq_some_iff.1 h1).1
  exact ⟨⟨arr, (hb.block g hlt).trans h1, h2⟩, fun j hj hi => ⟨kc hb hlt (h.el j hj hi).1, kc hb hlt (h.el j hj hi).2⟩⟩

theorem ExtI.facts {g n i : Nat} {l : List Bd} {W : World} (h : ExtI g n i l W) (hi : i < n) : g < W.heap.size ∧ (∃ u v, W.cell? ⟨g, i * 2, none⟩ = some u ∧ W.cell? ⟨g, i * 2 + 1, none⟩ = some v) ∧ W.frozen? ⟨g, i * 2, none⟩ = false ∧ W.frozen? ⟨g, i * 2 + 1, none⟩ = false := by
  obtain ⟨arr, h1, h2⟩ := h.blk
  refine ⟨(Array.getElem?_eq_some_iff.1 h1).1, ⟨arr[i * 2]'(by omega), arr[i * 2 + 1]'(by omega), ?_, ?_⟩, ?_, ?_⟩
  · rw [cell_of_row _ _ _ _ 77 (0, 0) h1]; exact Array.getElem?_eq_getElem _
  · rw [cell_of_row _ _ _ _ 77 (0, 0) h1]; exact Array.getElem?_eq_getElem _
  · simp [World.frozen?, h1]
  · simp [World.frozen?, h1]

theorem ExtI.step {g n i : Nat} {l : List Bd} {W : World} (h : ExtI g n i l W) (hi : i < n) (hl : i < l.length) : ExtI g n (i + 1) l ((W.setCell ⟨g, i * 2, none⟩ (.int .i64 l[i].2.size)).setCell ⟨g, i * 2 + 1, none⟩ (.int .i64 l[i].2.depth)) := by
  obtain ⟨arr, h1, h2⟩ := h.blk
  obtain ⟨_, ⟨u, v, c0, c1⟩, _⟩ := h.facts hi
  refine ⟨?_, fun j hj hji => ?_⟩
  · have e1 := heap_setCell_same W g (i * 2) arr 77 (.int .i64 l[i].2.size) h1
    have e2 := heap_setCell_same _ g (i * 2 + 1) _ 77 (.int .i64 l[i].2.depth) e1
    exact ⟨_, e2, by simp [h2]⟩
  · by_cases e : j = i
    · subst e
      refine ⟨?_, ?_⟩
      · rw [World.cell?_setCell_other _ _ _ _ (by simp)]
        exact World.cell?_setCell_same _ _ _ c0
      · exact World.cell?_setCell_same _ _ _ ((World.cell?_setCell_other _ _ _ _ (by simp)).trans c1)
    · obtain ⟨d0, d1⟩ := h.el j hj (by omega)
      refine ⟨?_, ?_⟩ <;> rw [World.cell?_setCell_other _ _ _ _ (by intro e; injection e with _ e2; omega), World.cell?_setCell_other _ _ _ _ (by intro e; injection e with _ e2; omega)] <;> assumption

/-- What extents leaves: the binds' slice in one box, the row's in another. -/
structure ExtAt (W : World) (l : List Bd) (v : Value) (B1 B2 g : Nat) : Prop where
  binds : BindsAt W v l
  c1 : W.cell? ⟨B1, 0, none⟩ = some v
  c2 : W.cell? ⟨B2, 0, none⟩ = some (.slice (some ⟨g, 0, none⟩) l.length l.length)
  row : ExtI g l.length l.length l W

theorem ExtAt.keep {W W' : World} {l : List Bd} {v : Value} {B1 B2 g : Nat} (h : ExtAt W l v B1 B2 g) (hb : Below W.heap.size W W') : ExtAt W' l v B1 B2 g :=
  ⟨h.binds.keep hb, kc hb (World.block_lt_of_cell? W _ h.c1) h.c1, kc hb (World.block_lt_of_cell? W _ h.c2) h.c2, h.row.keep hb⟩

theorem var_size (n : Int) : (var n).size = 1 ∧ (var n).depth = 1 := by
  constructor
  · rw [T.size_eq]; simp [var, T.args]
  · rw [T.depth_eq]; simp [var, T.args]

set_option maxRecDepth 100000 in
set_option maxHeartbeats 2000000 in
theorem extents1_any (l : List Bd) (hsub : IsSub l) (n : Int) (v : Value) (B1 B2 g : Nat) (w : World) (h : ExtAt w l v B1 B2 g) :
    Calls Try.prog 57 #[.int .i64 n, .pointer (some ⟨B1, 0, none⟩), .pointer (some ⟨B2, 0, none⟩)] w fun e W' => e = .returned (ext (img l n)) ∧ Below w.heap.size w W' := by
  obtain ⟨a, c, rfl⟩ := h.binds.slice
  have hb0 := below_box w (.cells #[.int .i64 0, .int .i64 0] 77)
  have hz : (w.alloc (.cells #[.int .i64 0, .int .i64 0] 77)).heap[w.heap.size]? = some (.cells #[.int .i64 0, .int .i64 0] 77 (0, 0)) := (MapKept.heap_alloc w _).1
  have h1 := h.keep hb0
  have q1 := h1.c1
  by_cases hex : ∃ k, ∃ h : k < l.length, l[k].1 = n
  · have hp := place_yes l n (.slice a l.length c) _ h1.binds hsub.rising hsub.1 hex
    have HL : Hid (ExtAt (w.alloc (.cells #[.int .i64 0, .int .i64 0] 77)) l (.slice a l.length c) B1 B2 g ∧ Rising l) := ⟨h1, hsub.rising⟩
    clear h h1 hsub hex
    go_enter Try.func57, Try.ntmps57
    go_wp2_with (first | (go_at_call 58; refine hp.mono ?_; rintro e w2 ⟨p, rfl, ⟨hpl, hpe⟩, hb2⟩; have hz2 := (hb2.block w.heap.size (by simp)).trans hz; obtain ⟨⟨z0, z1⟩, y0, y1⟩ := two_facts hz2; have hE := HL.out.1.keep hb2; have q2 := hE.c2; obtain ⟨r0, r1⟩ := hE.row.el p hpl hpl; have HI : Hid (img l n = l[p].2 ∧ Below w.heap.size w w2) := ⟨img_yes HL.out.2 hpl hpe, hb0.trans (hb2.mono (by simp))⟩; obtain ⟨x, hx⟩ : ∃ x, l[p] = x := ⟨_, rfl⟩; rw [hx] at HI r0 r1; clear hE hz2 hb2 hpe hx))
    refine bodyPost_ret (v := ext x.2) (by simp [results, Try.results57, go_sem, *]) rfl ⟨by rw [HI.out.1], ?_⟩
    exact set2_below HI.out.2 _ _ _ (Nat.le_refl _)
  · have hp := place_not l n (.slice a l.length c) _ h1.binds hsub.rising hsub.1 hex
    have HI : Hid (img l n = var n) := img_no fun k h e => hex ⟨k, h, e⟩
    clear h h1 hsub hex
    go_enter Try.func57, Try.ntmps57
    go_wp2_with (first | (go_at_call 58; refine hp.mono ?_; rintro e w2 ⟨p, rfl, hb2⟩; have hz2 := (hb2.block w.heap.size (by simp)).trans hz; obtain ⟨⟨z0, z1⟩, y0, y1⟩ := two_facts hz2; have HB : Hid (Below w.heap.size w w2) := hb0.trans (hb2.mono (by simp)); clear hz2 hb2))
    refine bodyPost_ret (v := .agg #[.int .i64 1, .int .i64 1]) (by simp [results, Try.results57, go_sem, *]) rfl ⟨by rw [HI.out]; unfold ext; rw [(var_size n).1, (var_size n).2], ?_⟩
    exact set2_below HB.out _ _ _ (Nat.le_refl _)

theorem eg57 : ∀ args w, (callFunc 57 args).run Try.prog w = .ok (.enter 57 args) w := enters_of Try.func57 (by kernel_rfl) rfl

theorem extents_of (l : List Bd) (hsub : IsSub l) (v : Value) (B1 B2 g : Nat) (W0 : World) (h : ExtAt W0 l v B1 B2 g) : OfAt W0 57 #[.pointer (some ⟨B1, 0, none⟩), .pointer (some ⟨B2, 0, none⟩)] (img l) :=
  fun n W hW => extents1_any l hsub n v B1 B2 g W (h.keep hW)

theorem img_size (l : List Bd) (h : ∀ x ∈ l, Rt x.2) (n : Int) : (img l n).size ≤ 4000 := by
  rcases img_mem l n with e | ⟨x, hx, e⟩
  · rw [e, (var_size n).1]; omega
  · rw [e]; exact (h x hx).size

end Go.Proofs.Ythinbkpjggihdaa
