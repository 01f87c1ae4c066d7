/-
  subst.Apply, where it says no.
-/
import Derived.Test.YthinbkpjggihdaaSL
namespace Go.Proofs.Ythinbkpjggihdaa
open Go.RowKit

/-- No term. -/
def zt : T := .mk 0 ⟨#[]⟩ []

set_option maxRecDepth 100000 in
set_option maxHeartbeats 4000000 in
theorem apply_arg (l : List Bd) (hS : ∀ x ∈ l, Short x.2) (t : T) (ht : Short t) (hno : isSub l = false ∨ t.rightW ≠ 0) (v sl : Value) (w : World) (hb : BindsAt w v l) (ha : ArgsAt w sl t.args) :
    Calls Try.prog 11 #[v, tval t sl] w fun e W' => e = .returned (.tuple #[tval zt (.slice none 0 0), .int .i64 1]) ∧ Below w.heap.size w W' := by
  obtain ⟨a, c, rfl⟩ := hb.slice
  obtain ⟨sa, sc, rfl, _, _⟩ := ha.slice
  have hA0 := ApI.start w l (.slice a l.length c) t (.slice sa t.args.length sc) hb ha
  have h13 : ∀ X, ApI w l (.slice a l.length c) t (.slice sa t.args.length sc) X → Calls Try.prog 13 #[.slice a l.length c] X fun e X' => e = .returned (.int .i64 (subW l)) ∧ ApI w l (.slice a l.length c) t (.slice sa t.args.length sc) X' := fun X hX => (sright_any l _ X hX.binds hS).mono fun e X' ⟨he, hb⟩ => ⟨he, hX.keep hb⟩
  have h28 : ∀ X, ApI w l (.slice a l.length c) t (.slice sa t.args.length sc) X → Calls Try.prog 28 #[tval t (.slice sa t.args.length sc)] X fun e X' => e = .returned (.int .i64 t.rightW) ∧ ApI w l (.slice a l.length c) t (.slice sa t.args.length sc) X' := fun X hX => (tright_any t _ X hX.args ht).mono fun e X' ⟨he, hb⟩ => ⟨he, hX.keep hb⟩
  have hC : ∀ X, ApI w l (.slice a l.length c) t (.slice sa t.args.length sc) X → X.cell? ⟨w.heap.size, 0, none⟩ = some (.int .i64 t.v) ∧ X.cell? ⟨w.heap.size, 1, none⟩ = some (.string t.fn) ∧ X.cell? ⟨w.heap.size, 2, none⟩ = some (.slice sa t.args.length sc) := fun X h => (box_facts h.tb).1
  have hRb : ∀ X, ApI w l (.slice a l.length c) t (.slice sa t.args.length sc) X → (X.cell? ⟨w.heap.size + 1, 0, none⟩ = some (.int .i64 0) ∧ X.cell? ⟨w.heap.size + 1, 1, none⟩ = some (.string ⟨#[]⟩) ∧ X.cell? ⟨w.heap.size + 1, 2, none⟩ = some (.slice none 0 0)) ∧ (X.frozen? ⟨w.heap.size + 1, 0, none⟩ = false ∧ X.frozen? ⟨w.heap.size + 1, 1, none⟩ = false ∧ X.frozen? ⟨w.heap.size + 1, 2, none⟩ = false) := fun X h => box_facts h.rb
  have hbl : Hid (∀ X, ApI w l (.slice a l.length c) t (.slice sa t.args.length sc) X → Below w.heap.size w X) := fun X h => h.bel
  obtain ⟨S, hS'⟩ : ∃ S, ApI w l (.slice a l.length c) t (.slice sa t.args.length sc) = S := ⟨_, rfl⟩
  rw [hS'] at hA0 h13 h28 hC hRb hbl
  clear hS' hb ha ht hS
  obtain ⟨k0, k1, k2⟩ := hC _ hA0
  cases e1 : isSub l
  · rw [subW_f e1] at h13
    clear e1 hno h28
    go_enter Try.func11, Try.ntmps11
    go_wp2_with (go_at_call 13; refine (h13 _ hA0).mono ?_; rintro e W2 ⟨rfl, HW2⟩; obtain ⟨⟨z0, z1, z2⟩, y0, y1, y2⟩ := hRb _ HW2)
    refine bodyPost_ret (v := .tuple #[tval zt (.slice none 0 0), .int .i64 1]) (by simp [results, Try.results11, go_sem, *, zt, T.v, T.fn]) rfl ⟨rfl, ?_⟩
    exact set3_below (hbl.out _ HW2) _ 0 _ _ _ (Nat.le_succ _)
  · rw [subW_t e1] at h13
    have hne : t.rightW ≠ 0 := hno.resolve_left (by rw [e1]; decide)
    have hd : (t.rightW != 0) = true := by rw [bne_iff_ne]; exact hne
    clear e1 hno
    go_enter Try.func11, Try.ntmps11
    go_wp2_with (first
      | (go_at_call 28; refine (h28 _ HW2).mono ?_; rintro e W3 ⟨rfl, HW3⟩; obtain ⟨⟨z0, z1, z2⟩, y0, y1, y2⟩ := hRb _ HW3)
      | (go_at_call 13; refine (h13 _ hA0).mono ?_; rintro e W2 ⟨rfl, HW2⟩; obtain ⟨j0, j1, j2⟩ := hC _ HW2))
    refine bodyPost_ret (v := .tuple #[tval zt (.slice none 0 0), .int .i64 1]) (by simp [results, Try.results11, go_sem, *, zt, T.v, T.fn]) rfl ⟨rfl, ?_⟩
    exact set3_below (hbl.out _ HW3) _ 0 _ _ _ (Nat.le_succ _)

set_option maxRecDepth 100000 in
set_option maxHeartbeats 4000000 in
theorem apply_big (l : List Bd) (hl : Sb l) (t : T) (ht : Rt t) (ht0 : t.rightW = 0) (hfit : fitsW (t.app (img l)) ≠ 0) (v sl : Value) (w : World) (hb : BindsAt w v l) (ha : ArgsAt w sl t.args) :
    Calls Try.prog 11 #[v, tval t sl] w fun e W' => e = .returned (.tuple #[tval zt (.slice none 0 0), .int .i64 (fitsW (t.app (img l)))]) ∧ Below w.heap.size w W' := by
  obtain ⟨a, c, rfl⟩ := hb.slice
  obtain ⟨sa, sc, rfl, _, _⟩ := ha.slice
  have hA0 := ApI.start w l (.slice a l.length c) t (.slice sa t.args.length sc) hb ha
  have h13 : ∀ X, ApI w l (.slice a l.length c) t (.slice sa t.args.length sc) X → Calls Try.prog 13 #[.slice a l.length c] X fun e X' => e = .returned (.int .i64 0) ∧ ApI w l (.slice a l.length c) t (.slice sa t.args.length sc) X' := fun X hX => (sright_any l _ X hX.binds (fun x hx => (hl.rt x hx).short)).mono fun e X' ⟨he, hb⟩ => ⟨by rw [he, subW_t (isSub_iff.2 hl.sub)], hX.keep hb⟩
  have h28 : ∀ X, ApI w l (.slice a l.length c) t (.slice sa t.args.length sc) X → Calls Try.prog 28 #[tval t (.slice sa t.args.length sc)] X fun e X' => e = .returned (.int .i64 0) ∧ ApI w l (.slice a l.length c) t (.slice sa t.args.length sc) X' := fun X hX => (tright_any t _ X hX.args ht.short).mono fun e X' ⟨he, hb⟩ => ⟨by rw [he, ht0], hX.keep hb⟩
  have h30 : ∀ X, ApI w l (.slice a l.length c) t (.slice sa t.args.length sc) X → Calls Try.prog 30 #[.slice a l.length c] X fun e X' => (∃ B1 B2 g, e = .returned (.func (.func 57) #[] #[.pointer (some ⟨B1, 0, none⟩), .pointer (some ⟨B2, 0, none⟩)]) ∧ ExtAt X' l (.slice a l.length c) B1 B2 g) ∧ ApI w l (.slice a l.length c) t (.slice sa t.args.length sc) X' := fun X hX => (extents_any l _ X hX.binds hl.rt hl.sub.1).mono fun e X' ⟨he, hb⟩ => ⟨he, hX.keep hb⟩
  have h29 : ∀ X B1 B2 g, ApI w l (.slice a l.length c) t (.slice sa t.args.length sc) X → ExtAt X l (.slice a l.length c) B1 B2 g → Calls Try.prog 29 #[tval t (.slice sa t.args.length sc), .func (.func 57) #[] #[.pointer (some ⟨B1, 0, none⟩), .pointer (some ⟨B2, 0, none⟩)]] X fun e X' => e = .returned (.int .i64 (fitsW (t.app (img l)))) ∧ ApI w l (.slice a l.length c) t (.slice sa t.args.length sc) X' := fun X B1 B2 g hX hE => (fits_any X 57 _ (img l) eg57 (extents_of l hl.sub _ B1 B2 g X hE) (img_size l hl.rt) t _ X (Below.refl _ _) hX.args ht.size).mono fun e X' ⟨he, hb⟩ => ⟨he, hX.keep hb⟩
  have hdr : ∀ X, ApI w l (.slice a l.length c) t (.slice sa t.args.length sc) X → ApI w l (.slice a l.length c) t (.slice sa t.args.length sc) X.drew := fun X h => h.keep (Below.refl _ X).drew
  have hC : ∀ X, ApI w l (.slice a l.length c) t (.slice sa t.args.length sc) X → X.cell? ⟨w.heap.size, 0, none⟩ = some (.int .i64 t.v) ∧ X.cell? ⟨w.heap.size, 1, none⟩ = some (.string t.fn) ∧ X.cell? ⟨w.heap.size, 2, none⟩ = some (.slice sa t.args.length sc) := fun X h => (box_facts h.tb).1
  have hRb : ∀ X, ApI w l (.slice a l.length c) t (.slice sa t.args.length sc) X → (X.cell? ⟨w.heap.size + 1, 0, none⟩ = some (.int .i64 0) ∧ X.cell? ⟨w.heap.size + 1, 1, none⟩ = some (.string ⟨#[]⟩) ∧ X.cell? ⟨w.heap.size + 1, 2, none⟩ = some (.slice none 0 0)) ∧ (X.frozen? ⟨w.heap.size + 1, 0, none⟩ = false ∧ X.frozen? ⟨w.heap.size + 1, 1, none⟩ = false ∧ X.frozen? ⟨w.heap.size + 1, 2, none⟩ = false) := fun X h => box_facts h.rb
  have hbl : Hid (∀ X, ApI w l (.slice a l.length c) t (.slice sa t.args.length sc) X → Below w.heap.size w X) := fun X h => h.bel
  obtain ⟨f, hf⟩ : ∃ f, fitsW (t.app (img l)) = f := ⟨_, rfl⟩
  rw [hf] at h29 hfit ⊢
  have hd : (f != 0) = true := by rw [bne_iff_ne]; exact hfit
  obtain ⟨S, hS⟩ : ∃ S, ApI w l (.slice a l.length c) t (.slice sa t.args.length sc) = S := ⟨_, rfl⟩
  rw [hS] at hA0 h13 h28 h30 h29 hdr hC hRb hbl
  clear hS hf hb ha hfit ht ht0 hl
  obtain ⟨k0, k1, k2⟩ := hC _ hA0
  go_enter Try.func11, Try.ntmps11
  go_wp2_with (first
    | (go_at_call 28; refine (h28 _ HW2).mono ?_; rintro e W3 ⟨rfl, HW3⟩)
    | (go_at_call 13; refine (h13 _ hA0).mono ?_; rintro e W2 ⟨rfl, HW2⟩; obtain ⟨j0, j1, j2⟩ := hC _ HW2))
  have hSd := hdr _ HW3
  obtain ⟨n0, n1, n2⟩ := hC _ hSd
  clear k0 k1 k2 j0 j1 j2 h13 h28 hA0
  go_region_held3 (fun X => X.cell? ⟨w.heap.size, 0, none⟩ = some (.int .i64 t.v) ∧ X.cell? ⟨w.heap.size, 1, none⟩ = some (.string t.fn) ∧ X.cell? ⟨w.heap.size, 2, none⟩ = some (.slice sa t.args.length sc)) (first | exact ⟨n0, n1, n2⟩ | exact K4 | exact K5) (first
    | (go_at_call 30; refine (h30 _ hSd).mono ?_; rintro e W4 ⟨⟨B1, B2, g, rfl, hE⟩, HW4⟩; have K4 := hC _ HW4)
    | (go_at_call 29; refine (h29 _ B1 B2 g HW4 hE).mono ?_; rintro e W5 ⟨rfl, HW5⟩; have K5 := hC _ HW5; obtain ⟨⟨z0, z1, z2⟩, y0, y1, y2⟩ := hRb _ HW5))
  clear n0 n1 n2 K4 K5 hE
  go_wp2
  refine bodyPost_ret (v := .tuple #[tval zt (.slice none 0 0), .int .i64 f]) (by simp [results, Try.results11, go_sem, *, zt, T.v, T.fn]) rfl ⟨rfl, ?_⟩
  exact set3_below (hbl.out _ HW5) _ 0 _ _ _ (Nat.le_succ _)

end Go.Proofs.Ythinbkpjggihdaa
