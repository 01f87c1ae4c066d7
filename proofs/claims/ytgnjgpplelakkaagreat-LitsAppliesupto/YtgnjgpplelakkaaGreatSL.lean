import Derived.Test.YtgnjgpplelakkaaGreatSK
/-
  subst.Apply.
-/
namespace Go.Proofs.YtgnjgpplelakkaaGreat
open Go.RowKit

/-- A substitution all of whose terms are so small that all can be counted. -/
structure Sb (l : List Bd) : Prop where
  sub : IsSub l
  rt : ∀ x ∈ l, Rt x.2

/-- What stands in Apply. -/
structure ApI (w : World) (l : List Bd) (v : Value) (t : T) (sl : Value) (X : World) : Prop where
  tb : X.heap[w.heap.size]? = some (.cells #[.int .i64 t.v, .string t.fn, sl] 28 (0, 0))
  rb : X.heap[w.heap.size + 1]? = some (.cells #[.int .i64 0, .string ⟨#[]⟩, .slice none 0 0] 28 (0, 0))
  binds : BindsAt X v l
  args : ArgsAt X sl t.args
  bel : Below w.heap.size w X
  siz : w.heap.size + 2 ≤ X.heap.size

theorem ApI.keep {w : World} {l : List Bd} {v : Value} {t : T} {sl : Value} {X X' : World} (h : ApI w l v t sl X) (hb : Below X.heap.size X X') : ApI w l v t sl X' := by
  have hs := h.siz
  exact ⟨(hb.block _ (by omega)).trans h.tb, (hb.block _ (by omega)).trans h.rb, h.binds.keep hb, ArgsAt.keep hb (Nat.le_refl _) h.args, h.bel.trans (hb.mono h.bel.size), Nat.le_trans hs hb.size⟩

theorem ApI.start (w : World) (l : List Bd) (v : Value) (t : T) (sl : Value) (hb : BindsAt w v l) (ha : ArgsAt w sl t.args) : ApI w l v t sl ((w.alloc (tbox t sl)).alloc (.cells #[.int .i64 0, .string ⟨#[]⟩, .slice none 0 0] 28)) := by
  have hb2 := below_box2 w (tbox t sl) (.cells #[.int .i64 0, .string ⟨#[]⟩, .slice none 0 0] 28)
  have hbb := below_box (w.alloc (tbox t sl)) (.cells #[.int .i64 0, .string ⟨#[]⟩, .slice none 0 0] 28)
  have hz := (MapKept.heap_alloc (w.alloc (tbox t sl)) (.cells #[.int .i64 0, .string ⟨#[]⟩, .slice none 0 0] 28)).1
  rw [World.size_alloc] at hz
  exact ⟨(hbb.block _ (by simp)).trans (MapKept.heap_alloc w _).1, hz, hb.keep hb2, ArgsAt.keep hb2 (Nat.le_refl _) ha, hb2, by simp⟩

theorem set3_farc {W : World} {g a k o : Nat} {u v s x : Value} (hk : k ≠ g) (h : W.cell? ⟨k, o, none⟩ = some x) : (set3 W g a u v s).cell? ⟨k, o, none⟩ = some x :=
  (World.cell?_of_block (a := ⟨k, o, none⟩) (set3_other _ _ _ _ _ _ k hk)).trans h

set_option maxRecDepth 100000 in
set_option maxHeartbeats 4000000 in
/-- subst.Apply, where all is right and what comes is right. -/
theorem apply_ok (l : List Bd) (hl : Sb l) (t : T) (ht : Rt t) (ht0 : t.rightW = 0) (hfit : fitsW (t.app (img l)) = 0) (v sl : Value) (w : World) (hb : BindsAt w v l) (ha : ArgsAt w sl t.args) :
    Calls Tryz.prog 22 #[v, tval t sl] w fun e W' => ∃ sl', e = .returned (.tuple #[tval (t.app (img l)) sl', .int .i64 0]) ∧ ArgsFr w.heap.size W' sl' (t.app (img l)).args ∧ Below w.heap.size w W' := by
  obtain ⟨a, c, rfl⟩ := hb.slice
  obtain ⟨sa, sc, rfl, _, _⟩ := ha.slice
  have hA0 := ApI.start w l (.slice a l.length c) t (.slice sa t.args.length sc) hb ha
  have h13 : ∀ X, ApI w l (.slice a l.length c) t (.slice sa t.args.length sc) X → Calls Tryz.prog 18 #[.slice a l.length c] X fun e X' => e = .returned (.int .i64 0) ∧ ApI w l (.slice a l.length c) t (.slice sa t.args.length sc) X' := fun X hX => (sright_any l _ X hX.binds (fun x hx => (hl.rt x hx).short)).mono fun e X' ⟨he, hb⟩ => ⟨by rw [he, subW_t (isSub_iff.2 hl.sub)], hX.keep hb⟩
  have h28 : ∀ X, ApI w l (.slice a l.length c) t (.slice sa t.args.length sc) X → Calls Tryz.prog 41 #[tval t (.slice sa t.args.length sc)] X fun e X' => e = .returned (.int .i64 0) ∧ ApI w l (.slice a l.length c) t (.slice sa t.args.length sc) X' := fun X hX => (tright_any t _ X hX.args ht.short).mono fun e X' ⟨he, hb⟩ => ⟨by rw [he, ht0], hX.keep hb⟩
  have h30 : ∀ X, ApI w l (.slice a l.length c) t (.slice sa t.args.length sc) X → Calls Tryz.prog 45 #[.slice a l.length c] X fun e X' => (∃ B1 B2 g, e = .returned (.func (.func 69) #[] #[.pointer (some ⟨B1, 0, none⟩), .pointer (some ⟨B2, 0, none⟩)]) ∧ ExtAt X' l (.slice a l.length c) B1 B2 g) ∧ ApI w l (.slice a l.length c) t (.slice sa t.args.length sc) X' := fun X hX => (extents_any l _ X hX.binds hl.rt hl.sub.1).mono fun e X' ⟨he, hb⟩ => ⟨he, hX.keep hb⟩
  have h29 : ∀ X B1 B2 g, ApI w l (.slice a l.length c) t (.slice sa t.args.length sc) X → ExtAt X l (.slice a l.length c) B1 B2 g → Calls Tryz.prog 44 #[tval t (.slice sa t.args.length sc), .func (.func 69) #[] #[.pointer (some ⟨B1, 0, none⟩), .pointer (some ⟨B2, 0, none⟩)]] X fun e X' => e = .returned (.int .i64 0) ∧ ApI w l (.slice a l.length c) t (.slice sa t.args.length sc) X' := fun X B1 B2 g hX hE => (fits_any X 69 _ (img l) eg57 (extents_of l hl.sub _ B1 B2 g X hE) (img_size l hl.rt) t _ X (Below.refl _ _) hX.args ht.size).mono fun e X' ⟨he, hb⟩ => ⟨by rw [he, hfit], hX.keep hb⟩
  have h32 : ∀ X, ApI w l (.slice a l.length c) t (.slice sa t.args.length sc) X → Calls Tryz.prog 47 #[.slice a l.length c] X fun e X' => ∃ B, e = .returned (.func (.func 71) #[] #[.pointer (some ⟨B, 0, none⟩)]) ∧ X'.cell? ⟨B, 0, none⟩ = some (.slice a l.length c) ∧ ApI w l (.slice a l.length c) t (.slice sa t.args.length sc) X' := fun X hX => (copies_any a l.length c X).mono fun e X' ⟨he, hx⟩ => ⟨X.heap.size, he, by rw [hx, World.cell?_alloc_new]; rfl, by rw [hx]; exact hX.keep (below_box X _)⟩
  have h31 : ∀ X B, ApI w l (.slice a l.length c) t (.slice sa t.args.length sc) X → X.cell? ⟨B, 0, none⟩ = some (.slice a l.length c) → Calls Tryz.prog 46 #[tval t (.slice sa t.args.length sc), .func (.func 71) #[] #[.pointer (some ⟨B, 0, none⟩)]] X fun e X' => ∃ pa pc, e = .returned (tval (t.app (img l)) (.slice pa (t.app (img l)).args.length pc)) ∧ ArgsFr (w.heap.size + 2) X' (.slice pa (t.app (img l)).args.length pc) (t.app (img l)).args ∧ ApI w l (.slice a l.length c) t (.slice sa t.args.length sc) X' := fun X B hX hB => (rep_any X 71 _ (img l) eg59 (copies_stand l hl.sub _ B X hX.binds hB) t _ X (Below.refl _ _) hX.args ht.shape).mono fun e X' ⟨sl, he, hf, hb⟩ => by
    obtain ⟨pa, pc, rfl⟩ := hf.slice
    exact ⟨pa, pc, he, hf.low hX.siz, hX.keep hb⟩
  have hdr : ∀ X, ApI w l (.slice a l.length c) t (.slice sa t.args.length sc) X → ApI w l (.slice a l.length c) t (.slice sa t.args.length sc) X.drew := fun X h => h.keep (Below.refl _ X).drew
  have hC : ∀ X, ApI w l (.slice a l.length c) t (.slice sa t.args.length sc) X → X.cell? ⟨w.heap.size, 0, none⟩ = some (.int .i64 t.v) ∧ X.cell? ⟨w.heap.size, 1, none⟩ = some (.string t.fn) ∧ X.cell? ⟨w.heap.size, 2, none⟩ = some (.slice sa t.args.length sc) := fun X h => (box_facts h.tb).1
  have hRb : ∀ X, ApI w l (.slice a l.length c) t (.slice sa t.args.length sc) X → (X.cell? ⟨w.heap.size + 1, 0, none⟩ = some (.int .i64 0) ∧ X.cell? ⟨w.heap.size + 1, 1, none⟩ = some (.string ⟨#[]⟩) ∧ X.cell? ⟨w.heap.size + 1, 2, none⟩ = some (.slice none 0 0)) ∧ (X.frozen? ⟨w.heap.size + 1, 0, none⟩ = false ∧ X.frozen? ⟨w.heap.size + 1, 1, none⟩ = false ∧ X.frozen? ⟨w.heap.size + 1, 2, none⟩ = false) := fun X h => box_facts h.rb
  have hbl : Hid (∀ X, ApI w l (.slice a l.length c) t (.slice sa t.args.length sc) X → Below w.heap.size w X) := fun X h => h.bel
  obtain ⟨u, hu⟩ : ∃ u, t.app (img l) = u := ⟨_, rfl⟩
  rw [hu] at h31 ⊢
  obtain ⟨S, hS⟩ : ∃ S, ApI w l (.slice a l.length c) t (.slice sa t.args.length sc) = S := ⟨_, rfl⟩
  rw [hS] at hA0 h13 h28 h30 h29 h32 h31 hdr hC hRb hbl
  clear hS hu hb ha hfit ht ht0 hl
  obtain ⟨k0, k1, k2⟩ := hC _ hA0
  go_enter Tryz.func22, Tryz.ntmps22
  go_wp2_with (first
    | (go_at_call 41; refine (h28 _ HW2).mono ?_; rintro e W3 ⟨rfl, HW3⟩)
    | (go_at_call 18; refine (h13 _ hA0).mono ?_; rintro e W2 ⟨rfl, HW2⟩; obtain ⟨j0, j1, j2⟩ := hC _ HW2))
  have hSd := hdr _ HW3
  obtain ⟨n0, n1, n2⟩ := hC _ hSd
  clear k0 k1 k2 j0 j1 j2 h13 h28 hA0
  go_region_held3 (fun X => X.cell? ⟨w.heap.size, 0, none⟩ = some (.int .i64 t.v) ∧ X.cell? ⟨w.heap.size, 1, none⟩ = some (.string t.fn) ∧ X.cell? ⟨w.heap.size, 2, none⟩ = some (.slice sa t.args.length sc)) (first | exact ⟨n0, n1, n2⟩ | exact K4 | exact K5) (first
    | (go_at_call 45; refine (h30 _ hSd).mono ?_; rintro e W4 ⟨⟨B1, B2, g, rfl, hE⟩, HW4⟩; have K4 := hC _ HW4)
    | (go_at_call 44; refine (h29 _ B1 B2 g HW4 hE).mono ?_; rintro e W5 ⟨rfl, HW5⟩; have K5 := hC _ HW5))
  clear n0 n1 n2 K4 K5 hE
  go_wp2
  have hSd6 := hdr _ HW5
  obtain ⟨m0, m1, m2⟩ := hC _ hSd6
  go_region_held3 (fun X => X.cell? ⟨w.heap.size, 0, none⟩ = some (.int .i64 t.v) ∧ X.cell? ⟨w.heap.size, 1, none⟩ = some (.string t.fn) ∧ X.cell? ⟨w.heap.size, 2, none⟩ = some (.slice sa t.args.length sc)) (first | exact ⟨m0, m1, m2⟩ | exact K7 | exact K8 | exact ⟨set3_farc (by omega) K8.1, set3_farc (by omega) K8.2.1, set3_farc (by omega) K8.2.2⟩) (first
    | (go_at_call 47; refine (h32 _ hSd6).mono ?_; rintro e W7 ⟨B, rfl, hB, HW7⟩; have K7 := hC _ HW7)
    | (go_at_call 46; refine (h31 _ B HW7 hB).mono ?_; rintro e W8 ⟨pa, pc, rfl, hf8, HW8⟩; have K8 := hC _ HW8; obtain ⟨⟨z0, z1, z2⟩, y0, y1, y2⟩ := hRb _ HW8; have HF8 : Hid (ArgsFr (w.heap.size + 2) W8 (.slice pa u.args.length pc) u.args) := hf8; clear hf8))
  go_wp2
  refine bodyPost_ret (v := .tuple #[tval u (.slice pa u.args.length pc), .int .i64 0]) (by simp [results, Tryz.results22, go_sem, *]) rfl ⟨_, rfl, ?_, ?_⟩
  · exact (HF8.out.keep (W' := set3 W8 (w.heap.size + 1) 0 _ _ _) (by simp) (fun k hk _ => set3_other _ _ _ _ _ _ k (by omega))).low (by omega)
  · exact set3_below (hbl.out _ HW8) _ 0 _ _ _ (Nat.le_succ _)

end Go.Proofs.YtgnjgpplelakkaaGreat
