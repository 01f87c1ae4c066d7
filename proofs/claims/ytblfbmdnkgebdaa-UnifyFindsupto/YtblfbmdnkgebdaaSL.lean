import Derived.Test.YtblfbmdnkgebdaaSI
import Derived.Deep.RegionHeld3

/-
  subst.extents.
-/
namespace Go.Proofs.Ytblfbmdnkgebdaa
open Go.RowKit

theorem Try.info105 : (Try.prog.info? 105).map (fun i => (i.zero, i.size, i.bytes)) = some (some (.agg #[.int .i64 0, .int .i64 0]), 2, 16) := by kernel_rfl

/-- A term that is right, and so small that all can be counted. -/
structure Rt (t : T) : Prop where
  shape : t.shape = true
  size : t.size ≤ 4000
  depth : t.depth ≤ 60
  short : Short t

/-- A row of extents, the first i of which are told. -/
structure ExtI (g n i : Nat) (l : List Bd) (W : World) : Prop where
  blk : ∃ arr, W.heap[g]? = some (.cells arr 105 (0, 0)) ∧ arr.size = n * 2
  el : ∀ j (hj : j < l.length), j < i → W.cell? ⟨g, j * 2, none⟩ = some (.int .i64 l[j].2.size) ∧ W.cell? ⟨g, j * 2 + 1, none⟩ = some (.int .i64 l[j].2.depth)

theorem ExtI.keep {g n i : Nat} {l : List Bd} {W W' : World} (h : ExtI g n i l W) (hb : Below W.heap.size W W') : ExtI g n i l W' := by
  obtain ⟨arr, h1, h2⟩ := h.blk
  have hlt : g < W.heap.size := (Array.getElem?_eq_some_iff.1 h1).1
  exact ⟨⟨arr, (hb.block g hlt).trans h1, h2⟩, fun j hj hi => ⟨kc hb hlt (h.el j hj hi).1, kc hb hlt (h.el j hj hi).2⟩⟩

theorem ExtI.facts {g n i : Nat} {l : List Bd} {W : World} (h : ExtI g n i l W) (hi : i < n) : g < W.heap.size ∧ (∃ u v, W.cell? ⟨g, i * 2, none⟩ = some u ∧ W.cell? ⟨g, i * 2 + 1, none⟩ = some v) ∧ W.frozen? ⟨g, i * 2, none⟩ = false ∧ W.frozen? ⟨g, i * 2 + 1, none⟩ = false := by
  obtain ⟨arr, h1, h2⟩ := h.blk
  refine ⟨(Array.getElem?_eq_some_iff.1 h1).1, ⟨arr[i * 2]'(by omega), arr[i * 2 + 1]'(by omega), ?_, ?_⟩, ?_, ?_⟩
  · rw [cell_of_row _ _ _ _ 105 (0, 0) h1]; exact Array.getElem?_eq_getElem _
  · rw [cell_of_row _ _ _ _ 105 (0, 0) h1]; exact Array.getElem?_eq_getElem _
  · simp [World.frozen?, h1]
  · simp [World.frozen?, h1]

theorem ExtI.step {g n i : Nat} {l : List Bd} {W : World} (h : ExtI g n i l W) (hi : i < n) (hl : i < l.length) : ExtI g n (i + 1) l ((W.setCell ⟨g, i * 2, none⟩ (.int .i64 l[i].2.size)).setCell ⟨g, i * 2 + 1, none⟩ (.int .i64 l[i].2.depth)) := by
  obtain ⟨arr, h1, h2⟩ := h.blk
  obtain ⟨_, ⟨u, v, c0, c1⟩, _⟩ := h.facts hi
  refine ⟨?_, fun j hj hji => ?_⟩
  · have e1 := heap_setCell_same W g (i * 2) arr 105 (.int .i64 l[i].2.size) h1
    have e2 := heap_setCell_same _ g (i * 2 + 1) _ 105 (.int .i64 l[i].2.depth) e1
    exact ⟨_, e2, by simp [h2]⟩
  · by_cases e : j = i
    · subst e
      refine ⟨?_, ?_⟩
      · rw [World.cell?_setCell_other _ _ _ _ (by simp)]
        exact World.cell?_setCell_same _ _ _ c0
      · exact World.cell?_setCell_same _ _ _ ((World.cell?_setCell_other _ _ _ _ (by simp)).trans c1)
    · obtain ⟨d0, d1⟩ := h.el j hj (by omega)
      refine ⟨?_, ?_⟩ <;> rw [World.cell?_setCell_other _ _ _ _ (by intro e; injection e with _ e2; omega), World.cell?_setCell_other _ _ _ _ (by intro e; injection e with _ e2; omega)] <;> assumption

/-- What extents leaves: the binds' slice in one box, the row's in another. -/
structure ExtAt (W : World) (l : List Bd) (v : Value) (B1 B2 g : Nat) : Prop where
  binds : BindsAt W v l
  c1 : W.cell? ⟨B1, 0, none⟩ = some v
  c2 : W.cell? ⟨B2, 0, none⟩ = some (.slice (some ⟨g, 0, none⟩) l.length l.length)
  row : ExtI g l.length l.length l W

theorem ExtAt.keep {W W' : World} {l : List Bd} {v : Value} {B1 B2 g : Nat} (h : ExtAt W l v B1 B2 g) (hb : Below W.heap.size W W') : ExtAt W' l v B1 B2 g :=
  ⟨h.binds.keep hb, kc hb (World.block_lt_of_cell? W _ h.c1) h.c1, kc hb (World.block_lt_of_cell? W _ h.c2) h.c2, h.row.keep hb⟩

theorem var_size (n : Int) : (var n).size = 1 ∧ (var n).depth = 1 := by
  constructor
  · rw [T.size_eq]; simp [var, T.args]
  · rw [T.depth_eq]; simp [var, T.args]

set_option maxRecDepth 100000 in
set_option maxHeartbeats 2000000 in
theorem extents1_any (l : List Bd) (hsub : IsSub l) (n : Int) (v : Value) (B1 B2 g : Nat) (w : World) (h : ExtAt w l v B1 B2 g) :
    Calls Try.prog 68 #[.int .i64 n, .pointer (some ⟨B1, 0, none⟩), .pointer (some ⟨B2, 0, none⟩)] w fun e W' => e = .returned (ext (img l n)) ∧ Below w.heap.size w W' := by
  obtain ⟨a, c, rfl⟩ := h.binds.slice
  have hb0 := below_box w (.cells #[.int .i64 0, .int .i64 0] 105)
  have hz : (w.alloc (.cells #[.int .i64 0, .int .i64 0] 105)).heap[w.heap.size]? = some (.cells #[.int .i64 0, .int .i64 0] 105 (0, 0)) := (MapKept.heap_alloc w _).1
  have h1 := h.keep hb0
  have q1 := h1.c1
  by_cases hex : ∃ k, ∃ h : k < l.length, l[k].1 = n
  · have hp := place_yes l n (.slice a l.length c) _ h1.binds hsub.rising hsub.1 hex
    have HL : Hid (ExtAt (w.alloc (.cells #[.int .i64 0, .int .i64 0] 105)) l (.slice a l.length c) B1 B2 g ∧ Rising l) := ⟨h1, hsub.rising⟩
    clear h h1 hsub hex
    go_enter Try.func68, Try.ntmps68
    go_wp2_with (first | (go_at_call 69; refine hp.mono ?_; rintro e w2 ⟨p, rfl, ⟨hpl, hpe⟩, hb2⟩; have hz2 := (hb2.block w.heap.size (by simp)).trans hz; obtain ⟨⟨z0, z1⟩, y0, y1⟩ := two_facts hz2; have hE := HL.out.1.keep hb2; have q2 := hE.c2; obtain ⟨r0, r1⟩ := hE.row.el p hpl hpl; have HI : Hid (img l n = l[p].2 ∧ Below w.heap.size w w2) := ⟨img_yes HL.out.2 hpl hpe, hb0.trans (hb2.mono (by simp))⟩; obtain ⟨x, hx⟩ : ∃ x, l[p] = x := ⟨_, rfl⟩; rw [hx] at HI r0 r1; clear hE hz2 hb2 hpe hx))
    refine bodyPost_ret (v := ext x.2) (by simp [results, Try.results68, go_sem, *]) rfl ⟨by rw [HI.out.1], ?_⟩
    exact set2_below HI.out.2 _ _ _ (Nat.le_refl _)
  · have hp := place_not l n (.slice a l.length c) _ h1.binds hsub.rising hsub.1 hex
    have HI : Hid (img l n = var n) := img_no fun k h e => hex ⟨k, h, e⟩
    clear h h1 hsub hex
    go_enter Try.func68, Try.ntmps68
    go_wp2_with (first | (go_at_call 69; refine hp.mono ?_; rintro e w2 ⟨p, rfl, hb2⟩; have hz2 := (hb2.block w.heap.size (by simp)).trans hz; obtain ⟨⟨z0, z1⟩, y0, y1⟩ := two_facts hz2; have HB : Hid (Below w.heap.size w w2) := hb0.trans (hb2.mono (by simp)); clear hz2 hb2))
    refine bodyPost_ret (v := .agg #[.int .i64 1, .int .i64 1]) (by simp [results, Try.results68, go_sem, *]) rfl ⟨by rw [HI.out]; unfold ext; rw [(var_size n).1, (var_size n).2], ?_⟩
    exact set2_below HB.out _ _ _ (Nat.le_refl _)

theorem eg57 : ∀ args w, (callFunc 68 args).run Try.prog w = .ok (.enter 68 args) w := enters_of Try.func68 (by kernel_rfl) rfl

theorem extents_of (l : List Bd) (hsub : IsSub l) (v : Value) (B1 B2 g : Nat) (W0 : World) (h : ExtAt W0 l v B1 B2 g) : OfAt W0 68 #[.pointer (some ⟨B1, 0, none⟩), .pointer (some ⟨B2, 0, none⟩)] (img l) :=
  fun n W hW => extents1_any l hsub n v B1 B2 g W (h.keep hW)

theorem img_size (l : List Bd) (h : ∀ x ∈ l, Rt x.2) (n : Int) : (img l n).size ≤ 4000 := by
  rcases img_mem l n with e | ⟨x, hx, e⟩
  · rw [e, (var_size n).1]; omega
  · rw [e]; exact (h x hx).size

end Go.Proofs.Ytblfbmdnkgebdaa

/-
  subst.extents.
-/
namespace Go.Proofs.Ytblfbmdnkgebdaa
open Go.RowKit

theorem Rt.wsize {t : T} (h : Rt t) : wrap64 t.size = t.size := by
  have h1 := h.size
  have h2 := size_pos t
  unfold wrap64
  omega

/-- What stands in extents' loop. -/
structure LE (w W1 : World) (l : List Bd) (i : Nat) (W : World) : Prop where
  row : ExtI (w.heap.size + 1) l.length i l W
  b2 : W.cell? ⟨w.heap.size + 1 + 1, 0, none⟩ = some (.slice (some ⟨w.heap.size + 1, 0, none⟩) l.length l.length)
  bel : Below (w.heap.size + 1) W1 W
  siz : w.heap.size + 3 ≤ W.heap.size

theorem LE.al {w W1 : World} {l : List Bd} {i : Nat} {W W' : World} (h : LE w W1 l i W) (hb : Below W.heap.size W W') : LE w W1 l i W' :=
  ⟨h.row.keep hb, kc hb (by have := h.siz; omega) h.b2, h.bel.trans (hb.mono (by have := h.siz; omega)), Nat.le_trans h.siz hb.size⟩

theorem LE.step {w W1 : World} {l : List Bd} {i : Nat} {W : World} (h : LE w W1 l i W) (hl : i < l.length) : LE w W1 l (i + 1) ((W.setCell ⟨w.heap.size + 1, i * 2, none⟩ (.int .i64 l[i].2.size)).setCell ⟨w.heap.size + 1, i * 2 + 1, none⟩ (.int .i64 l[i].2.depth)) := by
  refine ⟨h.row.step hl hl, ?_, (h.bel.setCell (p := ⟨w.heap.size + 1, i * 2, none⟩) (Nat.le_refl _) _).setCell (p := ⟨w.heap.size + 1, i * 2 + 1, none⟩) (Nat.le_refl _) _, by have := h.siz; simpa using this⟩
  rw [World.cell?_setCell_other _ _ _ _ (by simp), World.cell?_setCell_other _ _ _ _ (by simp)]
  exact h.b2

theorem set2_far {W : World} {g a b k o : Nat} {u v x : Value} (hk : k ≠ g) (h : W.cell? ⟨k, o, none⟩ = some x) : ((W.setCell ⟨g, a, none⟩ u).setCell ⟨g, b, none⟩ v).cell? ⟨k, o, none⟩ = some x := by
  rw [World.cell?_setCell_other _ _ _ _ (by intro e; injection e with e1 _; exact hk e1.symm), World.cell?_setCell_other _ _ _ _ (by intro e; injection e with e1 _; exact hk e1.symm)]
  exact h

set_option maxRecDepth 100000 in
set_option maxHeartbeats 4000000 in
theorem extents_any (l : List Bd) (v : Value) (w : World) (hl : BindsAt w v l) (hR : ∀ x ∈ l, Rt x.2) (hlen : l.length ≤ 4000) :
    Calls Try.prog 44 #[v] w fun e W' => (∃ B1 B2 g, e = .returned (.func (.func 68) #[] #[.pointer (some ⟨B1, 0, none⟩), .pointer (some ⟨B2, 0, none⟩)]) ∧ ExtAt W' l v B1 B2 g) ∧ Below w.heap.size w W' := by
  obtain ⟨a, c, rfl⟩ := hl.slice
  obtain ⟨i0, hi, hz0, hz1, hz2⟩ := info_parts Try.info105
  obtain ⟨arr, harr⟩ : ∃ arr, madeCells (Value.agg #[.int .i64 0, .int .i64 0]).cells (l.length * 2) = arr := ⟨_, rfl⟩
  have hs : arr.size = l.length * 2 := by rw [← harr]; simp [madeCells]
  have hmk : ∀ W : World, (Instr.makeSlice 107 (.int .i64 l.length) (.int .i64 l.length)).run Try.prog W = .ok (.slice (some ⟨W.heap.size, 0, none⟩) l.length l.length) (W.alloc (.cells arr 105)) := by
    intro W
    have := run_make (P := Try.prog) W 107 105 i0 _ Try.underlying107 hi hz0 .i64 .i64 l.length l.length (by omega) (Int.le_refl _) (by rw [hz2]; omega) (by omega)
    rw [hz1] at this
    simp only [Int.toNat_natCast, harr] at this
    exact this
  have hb1 := below_box w (.cells #[.slice a l.length c] 25)
  have hb2 := below_box (w.alloc (.cells #[.slice a l.length c] 25)) (.cells arr 105)
  have hb3 := below_box ((w.alloc (.cells #[.slice a l.length c] 25)).alloc (.cells arr 105)) (.cells #[.slice (some ⟨w.heap.size + 1, 0, none⟩) l.length l.length] 107)
  have hk1 : (w.alloc (.cells #[.slice a l.length c] 25)).cell? ⟨w.heap.size, 0, none⟩ = some (.slice a l.length c) := by rw [World.cell?_alloc_new]; rfl
  have hg2 := (MapKept.heap_alloc (w.alloc (.cells #[.slice a l.length c] 25)) (.cells arr 105)).1
  rw [World.size_alloc] at hg2
  have hk3 : (((w.alloc (.cells #[.slice a l.length c] 25)).alloc (.cells arr 105)).alloc (.cells #[.slice (some ⟨w.heap.size + 1, 0, none⟩) l.length l.length] 107)).cell? ⟨w.heap.size + 1 + 1, 0, none⟩ = some (.slice (some ⟨w.heap.size + 1, 0, none⟩) l.length l.length) := by
    have := World.cell?_alloc_new ((w.alloc (.cells #[.slice a l.length c] 25)).alloc (.cells arr 105)) #[.slice (some ⟨w.heap.size + 1, 0, none⟩) l.length l.length] 107 0
    rw [World.size_alloc, World.size_alloc] at this
    rw [this]
    rfl
  obtain ⟨W1, hW1⟩ : ∃ W1, ((w.alloc (.cells #[.slice a l.length c] 25)).alloc (.cells arr 105)).alloc (.cells #[.slice (some ⟨w.heap.size + 1, 0, none⟩) l.length l.length] 107) = W1 := ⟨_, rfl⟩
  have HZ : Hid (LE w W1 l 0 W1 ∧ Below w.heap.size w W1 ∧ W1.cell? ⟨w.heap.size, 0, none⟩ = some (.slice a l.length c)) := by
    rw [← hW1]
    refine ⟨⟨⟨⟨arr, (hb3.block _ (by simp)).trans hg2, hs⟩, fun j hj h => absurd h (by omega)⟩, hk3, Below.refl _ _, by simp⟩, hb1.trans ((hb2.mono (by simp)).trans (hb3.mono (by simp; omega))), kc hb3 (by simp; omega) (kc hb2 (by simp) hk1)⟩
  have HW1 : Hid (_ = W1) := hW1
  have HL : Hid (BindsAt w (.slice a l.length c) l ∧ ∀ x ∈ l, Rt x.2) := ⟨hl, hR⟩
  have f1 := kc hb2 (by simp) hk1
  have f2 := kc hb3 (by simp; omega) f1
  clear hW1 hl hR harr hi hz0 hz1 hz2 hs hb1 hb2 hb3 hg2 hk3
  go_enter Try.func44, Try.ntmps44
  go_wp2
  go_loopw [11] (fun vi wr => ∃ i : Nat, vi = .int .i64 i ∧ i ≤ l.length ∧ LE w W1 l i wr) (fun vi _ => l.length - (intOf vi).toNat)
  case atStart => exact ⟨0, rfl, Nat.zero_le _, by rw [HW1.out]; exact HZ.out.1⟩
  case round =>
    obtain ⟨i, rfl, hi, hI⟩ := hrel
    have hbw : Below w.heap.size w wr := HZ.out.2.1.trans (hI.bel.mono (by omega))
    by_cases hlt : i < l.length
    · obtain ⟨b, o, s, e', hB0⟩ := HL.out.1.nth hlt
      cases e'
      have hB := hB0.keep hbw
      have hRt := HL.out.2 _ (List.getElem_mem hlt)
      have hst : Hid (∀ W, LE w W1 l i W → LE w W1 l (i + 1) ((W.setCell ⟨w.heap.size + 1, i * 2, none⟩ (.int .i64 l[i].2.size)).setCell ⟨w.heap.size + 1, i * 2 + 1, none⟩ (.int .i64 l[i].2.depth))) := fun W h => h.step hlt
      obtain ⟨x, hx⟩ : ∃ x, l[i] = x := ⟨_, rfl⟩
      rw [hx] at hB hRt hst
      obtain ⟨sa, sc, rfl, _, _⟩ := hB.sub.slice
      obtain ⟨g0, g1, g2, g3⟩ : wr.cell? ⟨b, o + i * 4, none⟩ = some (.int .i64 x.1) ∧ wr.cell? ⟨b, o + i * 4 + 1, none⟩ = some (.int .i64 x.2.v) ∧ wr.cell? ⟨b, o + i * 4 + 2, none⟩ = some (.string x.2.fn) ∧ wr.cell? ⟨b, o + i * 4 + 3, none⟩ = some (.slice sa x.2.args.length sc) := ⟨hB.c0, hB.c1, hB.c2, hB.c3⟩
      have hb1 := below_box wr (bbox x (.slice sa x.2.args.length sc))
      obtain ⟨k0, k1, k2, k3⟩ := bbox_cells wr x (.slice sa x.2.args.length sc)
      have hI1 := hI.al hb1
      have hA1 := ArgsAt.keep hb1 (Nat.le_refl _) hB.sub
      have hall : ∀ X, Below (wr.alloc (bbox x (.slice sa x.2.args.length sc))).heap.size (wr.alloc (bbox x (.slice sa x.2.args.length sc))) X → X.cell? ⟨w.heap.size + 1 + 1, 0, none⟩ = some (.slice (some ⟨w.heap.size + 1, 0, none⟩) l.length l.length) ∧ X.cell? ⟨wr.heap.size, 1, none⟩ = some (.int .i64 x.2.v) ∧ X.cell? ⟨wr.heap.size, 2, none⟩ = some (.string x.2.fn) ∧ X.cell? ⟨wr.heap.size, 3, none⟩ = some (.slice sa x.2.args.length sc) := fun X hX => ⟨kc hX (by have := hI1.siz; omega) hI1.b2, kc hX (by simp) k1, kc hX (by simp) k2, kc hX (by simp) k3⟩
      have h55 : ∀ X, Below (wr.alloc (bbox x (.slice sa x.2.args.length sc))).heap.size (wr.alloc (bbox x (.slice sa x.2.args.length sc))) X → Calls Try.prog 66 #[tval x.2 (.slice sa x.2.args.length sc)] X fun e X' => e = .returned (.int .i64 x.2.size) ∧ Hid (Below (wr.alloc (bbox x (.slice sa x.2.args.length sc))).heap.size (wr.alloc (bbox x (.slice sa x.2.args.length sc))) X') := fun X hX => (tsize_any x.2 _ X (ArgsAt.keep hX (Nat.le_refl _) hA1) hRt.short).mono fun e X' ⟨he, hb⟩ => ⟨by rw [he, hRt.wsize], hX.trans (hb.mono hX.size)⟩
      have h56 : ∀ X, Below (wr.alloc (bbox x (.slice sa x.2.args.length sc))).heap.size (wr.alloc (bbox x (.slice sa x.2.args.length sc))) X → Calls Try.prog 67 #[tval x.2 (.slice sa x.2.args.length sc)] X fun e X' => e = .returned (.int .i64 x.2.depth) ∧ Hid (Below (wr.alloc (bbox x (.slice sa x.2.args.length sc))).heap.size (wr.alloc (bbox x (.slice sa x.2.args.length sc))) X') := fun X hX => (tdepth_any x.2 _ X (ArgsAt.keep hX (Nat.le_refl _) hA1) hRt.short).mono fun e X' ⟨he, hb⟩ => ⟨he, hX.trans (hb.mono hX.size)⟩
      have hSd : Hid (Below (wr.alloc (bbox x (.slice sa x.2.args.length sc))).heap.size (wr.alloc (bbox x (.slice sa x.2.args.length sc))) (wr.alloc (bbox x (.slice sa x.2.args.length sc))).drew) := (Below.refl _ _).drew
      obtain ⟨n0, n1, n2, n3⟩ := hall _ hSd.out
      have HI1 : Hid (LE w W1 l i (wr.alloc (bbox x (.slice sa x.2.args.length sc)))) := hI1
      obtain ⟨S, hS⟩ : ∃ S : World → Prop, (fun X => Below (wr.alloc (bbox x (.slice sa x.2.args.length sc))).heap.size (wr.alloc (bbox x (.slice sa x.2.args.length sc))) X) = S := ⟨_, rfl⟩
      have HSS : Hid (∀ X, S X → Below (wr.alloc (bbox x (.slice sa x.2.args.length sc))).heap.size (wr.alloc (bbox x (.slice sa x.2.args.length sc))) X) := by rw [← hS]; exact fun X h => h
      have hall' : ∀ X, S X → X.cell? ⟨w.heap.size + 1 + 1, 0, none⟩ = some (.slice (some ⟨w.heap.size + 1, 0, none⟩) l.length l.length) ∧ X.cell? ⟨wr.heap.size, 1, none⟩ = some (.int .i64 x.2.v) ∧ X.cell? ⟨wr.heap.size, 2, none⟩ = some (.string x.2.fn) ∧ X.cell? ⟨wr.heap.size, 3, none⟩ = some (.slice sa x.2.args.length sc) := by rw [← hS]; exact hall
      have h55' : ∀ X, S X → Calls Try.prog 66 #[tval x.2 (.slice sa x.2.args.length sc)] X fun e X' => e = .returned (.int .i64 x.2.size) ∧ S X' := by rw [← hS]; exact h55
      have h56' : ∀ X, S X → Calls Try.prog 67 #[tval x.2 (.slice sa x.2.args.length sc)] X fun e X' => e = .returned (.int .i64 x.2.depth) ∧ S X' := by rw [← hS]; exact h56
      have hSd' : S (wr.alloc (bbox x (.slice sa x.2.args.length sc))).drew := by rw [← hS]; exact hSd.out
      have hszz := hI.siz
      clear hS hall h55 h56 hSd hB hB0 hx hRt hb1 hI1 hA1 hI hbw
      go_wp2
      go_region_held3 (fun X => X.cell? ⟨w.heap.size + 1 + 1, 0, none⟩ = some (.slice (some ⟨w.heap.size + 1, 0, none⟩) l.length l.length) ∧ X.cell? ⟨wr.heap.size, 1, none⟩ = some (.int .i64 x.2.v) ∧ X.cell? ⟨wr.heap.size, 2, none⟩ = some (.string x.2.fn) ∧ X.cell? ⟨wr.heap.size, 3, none⟩ = some (.slice sa x.2.args.length sc)) (first | exact ⟨n0, n1, n2, n3⟩ | exact K3 | exact K4 | exact ⟨set2_far (by omega) K4.1, set2_far (by omega) K4.2.1, set2_far (by omega) K4.2.2.1, set2_far (by omega) K4.2.2.2⟩) (first
        | (go_at_call 66; refine (h55' _ hSd').mono ?_; rintro e W3 ⟨rfl, HW3⟩; have K3 := hall' _ HW3)
        | (go_at_call 67; refine (h56' _ HW3).mono ?_; rintro e W4 ⟨rfl, HW4⟩; have K4 := hall' _ HW4; have hI4 := HI1.out.al (HSS.out _ HW4); obtain ⟨_, ⟨u0, u1, c0, c1⟩, y0, y1⟩ := hI4.row.facts hlt; have HI4 : Hid (LE w W1 l i W4) := hI4; clear hI4))
      go_wp2
      go_roundw
      case rel => exact ⟨i + 1, by go_num, by omega, hst.out _ HI4⟩
      case measure => simp [intOf]; omega
    · have HE : Hid (ExtAt wr l (.slice a l.length c) w.heap.size (w.heap.size + 1 + 1) (w.heap.size + 1) ∧ Below w.heap.size w wr) := ⟨⟨HL.out.1.keep hbw, kc hI.bel (Nat.lt_succ_self _) HZ.out.2.2, hI.b2, by have := hI.row; rwa [show i = l.length by omega] at this⟩, hbw⟩
      clear hI hbw
      go_wp2
      go_ret
      exact ⟨⟨_, _, _, rfl, HE.out.1⟩, HE.out.2⟩

end Go.Proofs.Ytblfbmdnkgebdaa

/-
  subst.Apply.
-/
namespace Go.Proofs.Ytblfbmdnkgebdaa
open Go.RowKit

/-- A substitution all of whose terms are so small that all can be counted. -/
structure Sb (l : List Bd) : Prop where
  sub : IsSub l
  rt : ∀ x ∈ l, Rt x.2

/-- What stands in Apply. -/
structure ApI (w : World) (l : List Bd) (v : Value) (t : T) (sl : Value) (X : World) : Prop where
  tb : X.heap[w.heap.size]? = some (.cells #[.int .i64 t.v, .string t.fn, sl] 24 (0, 0))
  rb : X.heap[w.heap.size + 1]? = some (.cells #[.int .i64 0, .string ⟨#[]⟩, .slice none 0 0] 24 (0, 0))
  binds : BindsAt X v l
  args : ArgsAt X sl t.args
  bel : Below w.heap.size w X
  siz : w.heap.size + 2 ≤ X.heap.size

theorem ApI.keep {w : World} {l : List Bd} {v : Value} {t : T} {sl : Value} {X X' : World} (h : ApI w l v t sl X) (hb : Below X.heap.size X X') : ApI w l v t sl X' := by
  have hs := h.siz
  exact ⟨(hb.block _ (by omega)).trans h.tb, (hb.block _ (by omega)).trans h.rb, h.binds.keep hb, ArgsAt.keep hb (Nat.le_refl _) h.args, h.bel.trans (hb.mono h.bel.size), Nat.le_trans hs hb.size⟩

theorem ApI.start (w : World) (l : List Bd) (v : Value) (t : T) (sl : Value) (hb : BindsAt w v l) (ha : ArgsAt w sl t.args) : ApI w l v t sl ((w.alloc (tbox t sl)).alloc (.cells #[.int .i64 0, .string ⟨#[]⟩, .slice none 0 0] 24)) := by
  have hb2 := below_box2 w (tbox t sl) (.cells #[.int .i64 0, .string ⟨#[]⟩, .slice none 0 0] 24)
  have hbb := below_box (w.alloc (tbox t sl)) (.cells #[.int .i64 0, .string ⟨#[]⟩, .slice none 0 0] 24)
  have hz := (MapKept.heap_alloc (w.alloc (tbox t sl)) (.cells #[.int .i64 0, .string ⟨#[]⟩, .slice none 0 0] 24)).1
  rw [World.size_alloc] at hz
  exact ⟨(hbb.block _ (by simp)).trans (MapKept.heap_alloc w _).1, hz, hb.keep hb2, ArgsAt.keep hb2 (Nat.le_refl _) ha, hb2, by simp⟩

theorem set3_farc {W : World} {g a k o : Nat} {u v s x : Value} (hk : k ≠ g) (h : W.cell? ⟨k, o, none⟩ = some x) : (set3 W g a u v s).cell? ⟨k, o, none⟩ = some x :=
  (World.cell?_of_block (a := ⟨k, o, none⟩) (set3_other _ _ _ _ _ _ k hk)).trans h

set_option maxRecDepth 100000 in
set_option maxHeartbeats 4000000 in
/-- subst.Apply, where all is right and what comes is right. -/
theorem apply_ok (l : List Bd) (hl : Sb l) (t : T) (ht : Rt t) (ht0 : t.rightW = 0) (hfit : fitsW (t.app (img l)) = 0) (v sl : Value) (w : World) (hb : BindsAt w v l) (ha : ArgsAt w sl t.args) :
    Calls Try.prog 17 #[v, tval t sl] w fun e W' => ∃ sl', e = .returned (.tuple #[tval (t.app (img l)) sl', .int .i64 0]) ∧ ArgsAt W' sl' (t.app (img l)).args ∧ Below w.heap.size w W' := by
  obtain ⟨a, c, rfl⟩ := hb.slice
  obtain ⟨sa, sc, rfl, _, _⟩ := ha.slice
  have hA0 := ApI.start w l (.slice a l.length c) t (.slice sa t.args.length sc) hb ha
  have h13 : ∀ X, ApI w l (.slice a l.length c) t (.slice sa t.args.length sc) X → Calls Try.prog 19 #[.slice a l.length c] X fun e X' => e = .returned (.int .i64 0) ∧ ApI w l (.slice a l.length c) t (.slice sa t.args.length sc) X' := fun X hX => (sright_any l _ X hX.binds (fun x hx => (hl.rt x hx).short)).mono fun e X' ⟨he, hb⟩ => ⟨by rw [he, subW_t (isSub_iff.2 hl.sub)], hX.keep hb⟩
  have h28 : ∀ X, ApI w l (.slice a l.length c) t (.slice sa t.args.length sc) X → Calls Try.prog 24 #[tval t (.slice sa t.args.length sc)] X fun e X' => e = .returned (.int .i64 0) ∧ ApI w l (.slice a l.length c) t (.slice sa t.args.length sc) X' := fun X hX => (tright_any t _ X hX.args ht.short).mono fun e X' ⟨he, hb⟩ => ⟨by rw [he, ht0], hX.keep hb⟩
  have h30 : ∀ X, ApI w l (.slice a l.length c) t (.slice sa t.args.length sc) X → Calls Try.prog 44 #[.slice a l.length c] X fun e X' => (∃ B1 B2 g, e = .returned (.func (.func 68) #[] #[.pointer (some ⟨B1, 0, none⟩), .pointer (some ⟨B2, 0, none⟩)]) ∧ ExtAt X' l (.slice a l.length c) B1 B2 g) ∧ ApI w l (.slice a l.length c) t (.slice sa t.args.length sc) X' := fun X hX => (extents_any l _ X hX.binds hl.rt hl.sub.1).mono fun e X' ⟨he, hb⟩ => ⟨he, hX.keep hb⟩
  have h29 : ∀ X B1 B2 g, ApI w l (.slice a l.length c) t (.slice sa t.args.length sc) X → ExtAt X l (.slice a l.length c) B1 B2 g → Calls Try.prog 43 #[tval t (.slice sa t.args.length sc), .func (.func 68) #[] #[.pointer (some ⟨B1, 0, none⟩), .pointer (some ⟨B2, 0, none⟩)]] X fun e X' => e = .returned (.int .i64 0) ∧ ApI w l (.slice a l.length c) t (.slice sa t.args.length sc) X' := fun X B1 B2 g hX hE => (fits_any X 68 _ (img l) eg57 (extents_of l hl.sub _ B1 B2 g X hE) (img_size l hl.rt) t _ X (Below.refl _ _) hX.args ht.size).mono fun e X' ⟨he, hb⟩ => ⟨by rw [he, hfit], hX.keep hb⟩
  have h32 : ∀ X, ApI w l (.slice a l.length c) t (.slice sa t.args.length sc) X → Calls Try.prog 46 #[.slice a l.length c] X fun e X' => ∃ B, e = .returned (.func (.func 70) #[] #[.pointer (some ⟨B, 0, none⟩)]) ∧ X'.cell? ⟨B, 0, none⟩ = some (.slice a l.length c) ∧ ApI w l (.slice a l.length c) t (.slice sa t.args.length sc) X' := fun X hX => (copies_any a l.length c X).mono fun e X' ⟨he, hx⟩ => ⟨X.heap.size, he, by rw [hx, World.cell?_alloc_new]; rfl, by rw [hx]; exact hX.keep (below_box X _)⟩
  have h31 : ∀ X B, ApI w l (.slice a l.length c) t (.slice sa t.args.length sc) X → X.cell? ⟨B, 0, none⟩ = some (.slice a l.length c) → Calls Try.prog 45 #[tval t (.slice sa t.args.length sc), .func (.func 70) #[] #[.pointer (some ⟨B, 0, none⟩)]] X fun e X' => ∃ pa pc, e = .returned (tval (t.app (img l)) (.slice pa (t.app (img l)).args.length pc)) ∧ ArgsFr (w.heap.size + 2) X' (.slice pa (t.app (img l)).args.length pc) (t.app (img l)).args ∧ ApI w l (.slice a l.length c) t (.slice sa t.args.length sc) X' := fun X B hX hB => (rep_any X 70 _ (img l) eg59 (copies_stand l hl.sub _ B X hX.binds hB) t _ X (Below.refl _ _) hX.args ht.shape).mono fun e X' ⟨sl, he, hf, hb⟩ => by
    obtain ⟨pa, pc, rfl⟩ := hf.slice
    exact ⟨pa, pc, he, hf.low hX.siz, hX.keep hb⟩
  have hdr : ∀ X, ApI w l (.slice a l.length c) t (.slice sa t.args.length sc) X → ApI w l (.slice a l.length c) t (.slice sa t.args.length sc) X.drew := fun X h => h.keep (Below.refl _ X).drew
  have hC : ∀ X, ApI w l (.slice a l.length c) t (.slice sa t.args.length sc) X → X.cell? ⟨w.heap.size, 0, none⟩ = some (.int .i64 t.v) ∧ X.cell? ⟨w.heap.size, 1, none⟩ = some (.string t.fn) ∧ X.cell? ⟨w.heap.size, 2, none⟩ = some (.slice sa t.args.length sc) := fun X h => (box_facts h.tb).1
  have hRb : ∀ X, ApI w l (.slice a l.length c) t (.slice sa t.args.length sc) X → (X.cell? ⟨w.heap.size + 1, 0, none⟩ = some (.int .i64 0) ∧ X.cell? ⟨w.heap.size + 1, 1, none⟩ = some (.string ⟨#[]⟩) ∧ X.cell? ⟨w.heap.size + 1, 2, none⟩ = some (.slice none 0 0)) ∧ (X.frozen? ⟨w.heap.size + 1, 0, none⟩ = false ∧ X.frozen? ⟨w.heap.size + 1, 1, none⟩ = false ∧ X.frozen? ⟨w.heap.size + 1, 2, none⟩ = false) := fun X h => box_facts h.rb
  have hbl : Hid (∀ X, ApI w l (.slice a l.length c) t (.slice sa t.args.length sc) X → Below w.heap.size w X) := fun X h => h.bel
  obtain ⟨u, hu⟩ : ∃ u, t.app (img l) = u := ⟨_, rfl⟩
  rw [hu] at h31 ⊢
  obtain ⟨S, hS⟩ : ∃ S, ApI w l (.slice a l.length c) t (.slice sa t.args.length sc) = S := ⟨_, rfl⟩
  rw [hS] at hA0 h13 h28 h30 h29 h32 h31 hdr hC hRb hbl
  clear hS hu hb ha hfit ht ht0 hl
  obtain ⟨k0, k1, k2⟩ := hC _ hA0
  go_enter Try.func17, Try.ntmps17
  go_wp2_with (first
    | (go_at_call 24; refine (h28 _ HW2).mono ?_; rintro e W3 ⟨rfl, HW3⟩)
    | (go_at_call 19; refine (h13 _ hA0).mono ?_; rintro e W2 ⟨rfl, HW2⟩; obtain ⟨j0, j1, j2⟩ := hC _ HW2))
  have hSd := hdr _ HW3
  obtain ⟨n0, n1, n2⟩ := hC _ hSd
  clear k0 k1 k2 j0 j1 j2 h13 h28 hA0
  go_region_held3 (fun X => X.cell? ⟨w.heap.size, 0, none⟩ = some (.int .i64 t.v) ∧ X.cell? ⟨w.heap.size, 1, none⟩ = some (.string t.fn) ∧ X.cell? ⟨w.heap.size, 2, none⟩ = some (.slice sa t.args.length sc)) (first | exact ⟨n0, n1, n2⟩ | exact K4 | exact K5) (first
    | (go_at_call 44; refine (h30 _ hSd).mono ?_; rintro e W4 ⟨⟨B1, B2, g, rfl, hE⟩, HW4⟩; have K4 := hC _ HW4)
    | (go_at_call 43; refine (h29 _ B1 B2 g HW4 hE).mono ?_; rintro e W5 ⟨rfl, HW5⟩; have K5 := hC _ HW5))
  clear n0 n1 n2 K4 K5 hE
  go_wp2
  have hSd6 := hdr _ HW5
  obtain ⟨m0, m1, m2⟩ := hC _ hSd6
  go_region_held3 (fun X => X.cell? ⟨w.heap.size, 0, none⟩ = some (.int .i64 t.v) ∧ X.cell? ⟨w.heap.size, 1, none⟩ = some (.string t.fn) ∧ X.cell? ⟨w.heap.size, 2, none⟩ = some (.slice sa t.args.length sc)) (first | exact ⟨m0, m1, m2⟩ | exact K7 | exact K8 | exact ⟨set3_farc (by omega) K8.1, set3_farc (by omega) K8.2.1, set3_farc (by omega) K8.2.2⟩) (first
    | (go_at_call 46; refine (h32 _ hSd6).mono ?_; rintro e W7 ⟨B, rfl, hB, HW7⟩; have K7 := hC _ HW7)
    | (go_at_call 45; refine (h31 _ B HW7 hB).mono ?_; rintro e W8 ⟨pa, pc, rfl, hf8, HW8⟩; have K8 := hC _ HW8; obtain ⟨⟨z0, z1, z2⟩, y0, y1, y2⟩ := hRb _ HW8; have HF8 : Hid (ArgsFr (w.heap.size + 2) W8 (.slice pa u.args.length pc) u.args) := hf8; clear hf8))
  go_wp2
  refine bodyPost_ret (v := .tuple #[tval u (.slice pa u.args.length pc), .int .i64 0]) (by simp [results, Try.results17, go_sem, *]) rfl ⟨_, rfl, ?_, ?_⟩
  · exact (HF8.out.keep (W' := set3 W8 (w.heap.size + 1) 0 _ _ _) (by simp) (fun k hk _ => set3_other _ _ _ _ _ _ k (by omega))).args
  · exact set3_below (hbl.out _ HW8) _ 0 _ _ _ (Nat.le_succ _)

end Go.Proofs.Ytblfbmdnkgebdaa
