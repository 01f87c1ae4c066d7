import Derived.Test.YtgnjgpplelakkaaGreatQK
import Derived.Test.YtgnjgpplelakkaaGreatSJ
/-
  subst.extents.
-/
namespace Go.Proofs.YtgnjgpplelakkaaGreat
open Go.RowKit

theorem Rt.wsize {t : T} (h : Rt t) : wrap64 t.size = t.size := by
  have h1 := h.size
  have h2 := size_pos t
  unfold wrap64
  omega

/-- What stands in extents' loop. -/
structure LE (w W1 : World) (l : List Bd) (i : Nat) (W : World) : Prop where
  row : ExtI (w.heap.size + 1) l.length i l W
  b2 : W.cell? ⟨w.heap.size + 1 + 1, 0, none⟩ = some (.slice (some ⟨w.heap.size + 1, 0, none⟩) l.length l.length)
  bel : Below (w.heap.size + 1) W1 W
  siz : w.heap.size + 3 ≤ W.heap.size

theorem LE.al {w W1 : World} {l : List Bd} {i : Nat} {W W' : World} (h : LE w W1 l i W) (hb : Below W.heap.size W W') : LE w W1 l i W' :=
  ⟨h.row.keep hb, kc hb (by have := h.siz; omega) h.b2, h.bel.trans (hb.mono (by have := h.siz; omega)), Nat.le_trans h.siz hb.size⟩

theorem LE.step {w W1 : World} {l : List Bd} {i : Nat} {W : World} (h : LE w W1 l i W) (hl : i < l.length) : LE w W1 l (i + 1) ((W.setCell ⟨w.heap.size + 1, i * 2, none⟩ (.int .i64 l[i].2.size)).setCell ⟨w.heap.size + 1, i * 2 + 1, none⟩ (.int .i64 l[i].2.depth)) := by
  refine ⟨h.row.step hl hl, ?_, (h.bel.setCell (p := ⟨w.heap.size + 1, i * 2, none⟩) (Nat.le_refl _) _).setCell (p := ⟨w.heap.size + 1, i * 2 + 1, none⟩) (Nat.le_refl _) _, by have := h.siz; simpa using this⟩
  rw [World.cell?_setCell_other _ _ _ _ (by simp), World.cell?_setCell_other _ _ _ _ (by simp)]
  exact h.b2

theorem set2_far {W : World} {g a b k o : Nat} {u v x : Value} (hk : k ≠ g) (h : W.cell? ⟨k, o, none⟩ = some x) : ((W.setCell ⟨g, a, none⟩ u).setCell ⟨g, b, none⟩ v).cell? ⟨k, o, none⟩ = some x := by
  rw [World.cell?_setCell_other _ _ _ _ (by intro e; injection e with e1 _; exact hk e1.symm), World.cell?_setCell_other _ _ _ _ (by intro e; injection e with e1 _; exact hk e1.symm)]
  exact h

set_option maxRecDepth 100000 in
set_option maxHeartbeats 4000000 in
theorem extents_any (l : List Bd) (v : Value) (w : World) (hl : BindsAt w v l) (hR : ∀ x ∈ l, Rt x.2) (hlen : l.length ≤ 4000) :
    Calls Tryz.prog 45 #[v] w fun e W' => (∃ B1 B2 g, e = .returned (.func (.func 69) #[] #[.pointer (some ⟨B1, 0, none⟩), .pointer (some ⟨B2, 0, none⟩)]) ∧ ExtAt W' l v B1 B2 g) ∧ Below w.heap.size w W' := by
  obtain ⟨a, c, rfl⟩ := hl.slice
  obtain ⟨i0, hi, hz0, hz1, hz2⟩ := info_parts Tryz.info95
  obtain ⟨arr, harr⟩ : ∃ arr, madeCells (Value.agg #[.int .i64 0, .int .i64 0]).cells (l.length * 2) = arr := ⟨_, rfl⟩
  have hs : arr.size = l.length * 2 := by rw [← harr]; simp [madeCells]
  have hmk : ∀ W : World, (Instr.makeSlice 97 (.int .i64 l.length) (.int .i64 l.length)).run Tryz.prog W = .ok (.slice (some ⟨W.heap.size, 0, none⟩) l.length l.length) (W.alloc (.cells arr 95)) := by
    intro W
    have := run_make (P := Tryz.prog) W 97 95 i0 _ Tryz.underlying97 hi hz0 .i64 .i64 l.length l.length (by omega) (Int.le_refl _) (by rw [hz2]; omega) (by omega)
    rw [hz1] at this
    simp only [Int.toNat_natCast, harr] at this
    exact this
  have hb1 := below_box w (.cells #[.slice a l.length c] 22)
  have hb2 := below_box (w.alloc (.cells #[.slice a l.length c] 22)) (.cells arr 95)
  have hb3 := below_box ((w.alloc (.cells #[.slice a l.length c] 22)).alloc (.cells arr 95)) (.cells #[.slice (some ⟨w.heap.size + 1, 0, none⟩) l.length l.length] 97)
  have hk1 : (w.alloc (.cells #[.slice a l.length c] 22)).cell? ⟨w.heap.size, 0, none⟩ = some (.slice a l.length c) := by rw [World.cell?_alloc_new]; rfl
  have hg2 := (MapKept.heap_alloc (w.alloc (.cells #[.slice a l.length c] 22)) (.cells arr 95)).1
  rw [World.size_alloc] at hg2
  have hk3 : (((w.alloc (.cells #[.slice a l.length c] 22)).alloc (.cells arr 95)).alloc (.cells #[.slice (some ⟨w.heap.size + 1, 0, none⟩) l.length l.length] 97)).cell? ⟨w.heap.size + 1 + 1, 0, none⟩ = some (.slice (some ⟨w.heap.size + 1, 0, none⟩) l.length l.length) := by
    have := World.cell?_alloc_new ((w.alloc (.cells #[.slice a l.length c] 22)).alloc (.cells arr 95)) #[.slice (some ⟨w.heap.size + 1, 0, none⟩) l.length l.length] 97 0
    rw [World.size_alloc, World.size_alloc] at this
    rw [this]
    rfl
  obtain ⟨W1, hW1⟩ : ∃ W1, ((w.alloc (.cells #[.slice a l.length c] 22)).alloc (.cells arr 95)).alloc (.cells #[.slice (some ⟨w.heap.size + 1, 0, none⟩) l.length l.length] 97) = W1 := ⟨_, rfl⟩
  have HZ : Hid (LE w W1 l 0 W1 ∧ Below w.heap.size w W1 ∧ W1.cell? ⟨w.heap.size, 0, none⟩ = some (.slice a l.length c)) := by
    rw [← hW1]
    refine ⟨⟨⟨⟨arr, (hb3.block _ (by simp)).trans hg2, hs⟩, fun j hj h => absurd h (by omega)⟩, hk3, Below.refl _ _, by simp⟩, hb1.trans ((hb2.mono (by simp)).trans (hb3.mono (by simp; omega))), kc hb3 (by simp; omega) (kc hb2 (by simp) hk1)⟩
  have HW1 : Hid (_ = W1) := hW1
  have HL : Hid (BindsAt w (.slice a l.length c) l ∧ ∀ x ∈ l, Rt x.2) := ⟨hl, hR⟩
  have f1 := kc hb2 (by simp) hk1
  have f2 := kc hb3 (by simp; omega) f1
  clear hW1 hl hR harr hi hz0 hz1 hz2 hs hb1 hb2 hb3 hg2 hk3
  go_enter Tryz.func45, Tryz.ntmps45
  go_wp2
  go_loopw [11] (fun vi wr => ∃ i : Nat, vi = .int .i64 i ∧ i ≤ l.length ∧ LE w W1 l i wr) (fun vi _ => l.length - (intOf vi).toNat)
  case atStart => exact ⟨0, rfl, Nat.zero_le _, by rw [HW1.out]; exact HZ.out.1⟩
  case round =>
    obtain ⟨i, rfl, hi, hI⟩ := hrel
    have hbw : Below w.heap.size w wr := HZ.out.2.1.trans (hI.bel.mono (by omega))
    by_cases hlt : i < l.length
    · obtain ⟨b, o, s, e', hB0⟩ := HL.out.1.nth hlt
      cases e'
      have hB := hB0.keep hbw
      have hRt := HL.out.2 _ (List.getElem_mem hlt)
      have hst : Hid (∀ W, LE w W1 l i W → LE w W1 l (i + 1) ((W.setCell ⟨w.heap.size + 1, i * 2, none⟩ (.int .i64 l[i].2.size)).setCell ⟨w.heap.size + 1, i * 2 + 1, none⟩ (.int .i64 l[i].2.depth))) := fun W h => h.step hlt
      obtain ⟨x, hx⟩ : ∃ x, l[i] = x := ⟨_, rfl⟩
      rw [hx] at hB hRt hst
      obtain ⟨sa, sc, rfl, _, _⟩ := hB.sub.slice
      obtain ⟨g0, g1, g2, g3⟩ : wr.cell? ⟨b, o + i * 4, none⟩ = some (.int .i64 x.1) ∧ wr.cell? ⟨b, o + i * 4 + 1, none⟩ = some (.int .i64 x.2.v) ∧ wr.cell? ⟨b, o + i * 4 + 2, none⟩ = some (.string x.2.fn) ∧ wr.cell? ⟨b, o + i * 4 + 3, none⟩ = some (.slice sa x.2.args.length sc) := ⟨hB.c0, hB.c1, hB.c2, hB.c3⟩
      have hb1 := below_box wr (bbox x (.slice sa x.2.args.length sc))
      obtain ⟨k0, k1, k2, k3⟩ := bbox_cells wr x (.slice sa x.2.args.length sc)
      have hI1 := hI.al hb1
      have hA1 := ArgsAt.keep hb1 (Nat.le_refl _) hB.sub
      have hall : ∀ X, Below (wr.alloc (bbox x (.slice sa x.2.args.length sc))).heap.size (wr.alloc (bbox x (.slice sa x.2.args.length sc))) X → X.cell? ⟨w.heap.size + 1 + 1, 0, none⟩ = some (.slice (some ⟨w.heap.size + 1, 0, none⟩) l.length l.length) ∧ X.cell? ⟨wr.heap.size, 1, none⟩ = some (.int .i64 x.2.v) ∧ X.cell? ⟨wr.heap.size, 2, none⟩ = some (.string x.2.fn) ∧ X.cell? ⟨wr.heap.size, 3, none⟩ = some (.slice sa x.2.args.length sc) := fun X hX => ⟨kc hX (by have := hI1.siz; omega) hI1.b2, kc hX (by simp) k1, kc hX (by simp) k2, kc hX (by simp) k3⟩
      have h55 : ∀ X, Below (wr.alloc (bbox x (.slice sa x.2.args.length sc))).heap.size (wr.alloc (bbox x (.slice sa x.2.args.length sc))) X → Calls Tryz.prog 66 #[tval x.2 (.slice sa x.2.args.length sc)] X fun e X' => e = .returned (.int .i64 x.2.size) ∧ Hid (Below (wr.alloc (bbox x (.slice sa x.2.args.length sc))).heap.size (wr.alloc (bbox x (.slice sa x.2.args.length sc))) X') := fun X hX => (tsize_any x.2 _ X (ArgsAt.keep hX (Nat.le_refl _) hA1) hRt.short).mono fun e X' ⟨he, hb⟩ => ⟨by rw [he, hRt.wsize], hX.trans (hb.mono hX.size)⟩
      have h56 : ∀ X, Below (wr.alloc (bbox x (.slice sa x.2.args.length sc))).heap.size (wr.alloc (bbox x (.slice sa x.2.args.length sc))) X → Calls Tryz.prog 68 #[tval x.2 (.slice sa x.2.args.length sc)] X fun e X' => e = .returned (.int .i64 x.2.depth) ∧ Hid (Below (wr.alloc (bbox x (.slice sa x.2.args.length sc))).heap.size (wr.alloc (bbox x (.slice sa x.2.args.length sc))) X') := fun X hX => (tdepth_any x.2 _ X (ArgsAt.keep hX (Nat.le_refl _) hA1) hRt.short).mono fun e X' ⟨he, hb⟩ => ⟨he, hX.trans (hb.mono hX.size)⟩
      have hSd : Hid (Below (wr.alloc (bbox x (.slice sa x.2.args.length sc))).heap.size (wr.alloc (bbox x (.slice sa x.2.args.length sc))) (wr.alloc (bbox x (.slice sa x.2.args.length sc))).drew) := (Below.refl _ _).drew
      obtain ⟨n0, n1, n2, n3⟩ := hall _ hSd.out
      have HI1 : Hid (LE w W1 l i (wr.alloc (bbox x (.slice sa x.2.args.length sc)))) := hI1
      obtain ⟨S, hS⟩ : ∃ S : World → Prop, (fun X => Below (wr.alloc (bbox x (.slice sa x.2.args.length sc))).heap.size (wr.alloc (bbox x (.slice sa x.2.args.length sc))) X) = S := ⟨_, rfl⟩
      have HSS : Hid (∀ X, S X → Below (wr.alloc (bbox x (.slice sa x.2.args.length sc))).heap.size (wr.alloc (bbox x (.slice sa x.2.args.length sc))) X) := by rw [← hS]; exact fun X h => h
      have hall' : ∀ X, S X → X.cell? ⟨w.heap.size + 1 + 1, 0, none⟩ = some (.slice (some ⟨w.heap.size + 1, 0, none⟩) l.length l.length) ∧ X.cell? ⟨wr.heap.size, 1, none⟩ = some (.int .i64 x.2.v) ∧ X.cell? ⟨wr.heap.size, 2, none⟩ = some (.string x.2.fn) ∧ X.cell? ⟨wr.heap.size, 3, none⟩ = some (.slice sa x.2.args.length sc) := by rw [← hS]; exact hall
      have h55' : ∀ X, S X → Calls Tryz.prog 66 #[tval x.2 (.slice sa x.2.args.length sc)] X fun e X' => e = .returned (.int .i64 x.2.size) ∧ S X' := by rw [← hS]; exact h55
      have h56' : ∀ X, S X → Calls Tryz.prog 68 #[tval x.2 (.slice sa x.2.args.length sc)] X fun e X' => e = .returned (.int .i64 x.2.depth) ∧ S X' := by rw [← hS]; exact h56
      have hSd' : S (wr.alloc (bbox x (.slice sa x.2.args.length sc))).drew := by rw [← hS]; exact hSd.out
      have hszz := hI.siz
      clear hS hall h55 h56 hSd hB hB0 hx hRt hb1 hI1 hA1 hI hbw
      go_wp2
      go_region_held3 (fun X => X.cell? ⟨w.heap.size + 1 + 1, 0, none⟩ = some (.slice (some ⟨w.heap.size + 1, 0, none⟩) l.length l.length) ∧ X.cell? ⟨wr.heap.size, 1, none⟩ = some (.int .i64 x.2.v) ∧ X.cell? ⟨wr.heap.size, 2, none⟩ = some (.string x.2.fn) ∧ X.cell? ⟨wr.heap.size, 3, none⟩ = some (.slice sa x.2.args.length sc)) (first | exact ⟨n0, n1, n2, n3⟩ | exact K3 | exact K4 | exact ⟨set2_far (by omega) K4.1, set2_far (by omega) K4.2.1, set2_far (by omega) K4.2.2.1, set2_far (by omega) K4.2.2.2⟩) (first
        | (go_at_call 66; refine (h55' _ hSd').mono ?_; rintro e W3 ⟨rfl, HW3⟩; have K3 := hall' _ HW3)
        | (go_at_call 68; refine (h56' _ HW3).mono ?_; rintro e W4 ⟨rfl, HW4⟩; have K4 := hall' _ HW4; have hI4 := HI1.out.al (HSS.out _ HW4); obtain ⟨_, ⟨u0, u1, c0, c1⟩, y0, y1⟩ := hI4.row.facts hlt; have HI4 : Hid (LE w W1 l i W4) := hI4; clear hI4))
      go_wp2
      go_roundw
      case rel => exact ⟨i + 1, by go_num, by omega, hst.out _ HI4⟩
      case measure => simp [intOf]; omega
    · have HE : Hid (ExtAt wr l (.slice a l.length c) w.heap.size (w.heap.size + 1 + 1) (w.heap.size + 1) ∧ Below w.heap.size w wr) := ⟨⟨HL.out.1.keep hbw, kc hI.bel (Nat.lt_succ_self _) HZ.out.2.2, hI.b2, by have := hI.row; rwa [show i = l.length by omega] at this⟩, hbw⟩
      clear hI hbw
      go_wp2
      go_ret
      exact ⟨⟨_, _, _, rfl, HE.out.1⟩, HE.out.2⟩

end Go.Proofs.YtgnjgpplelakkaaGreat
