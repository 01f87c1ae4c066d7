/-
  The document's Apply.
-/
import Derived.Test.YtcnodgjalkcgiaaSB
namespace Go.Proofs.Ytcnodgjalkcgiaa
open Go.RowKit

def zt : T := .mk 0 ⟨#[]⟩ []
theorem right_shape {t : T} (h : t.rightW = 0) : t.shape = true := by
  unfold T.rightW at h
  by_cases hs : t.shape = false
  · rw [if_pos hs] at h; cases h
  · simpa using hs

/-- What stands in Apply. -/
structure ApI (w : World) (l : List Bd) (v : Value) (t : T) (sl : Value) (X : World) : Prop where
  tb : X.heap[w.heap.size]? = some (.cells #[.int .i64 t.v, .string t.fn, sl] 28 (0, 0))
  rb : X.heap[w.heap.size + 1]? = some (.cells #[.int .i64 0, .string ⟨#[]⟩, .slice none 0 0] 28 (0, 0))
  binds : BindsAt X v l
  args : ArgsAt X sl t.args
  bel : Below w.heap.size w X
  siz : w.heap.size + 2 ≤ X.heap.size

theorem ApI.keep {w : World} {l : List Bd} {v : Value} {t : T} {sl : Value} {X X' : World} (h : ApI w l v t sl X) (hb : Below X.heap.size X X') : ApI w l v t sl X' := by
  have hs := h.siz
  exact ⟨(hb.block _ (by omega)).trans h.tb, (hb.block _ (by omega)).trans h.rb, h.binds.keep hb, ArgsAt.keep hb (Nat.le_refl _) h.args, h.bel.trans (hb.mono h.bel.size), Nat.le_trans hs hb.size⟩

theorem ApI.start (w : World) (l : List Bd) (v : Value) (t : T) (sl : Value) (hb : BindsAt w v l) (ha : ArgsAt w sl t.args) : ApI w l v t sl ((w.alloc (tbox t sl)).alloc (.cells #[.int .i64 0, .string ⟨#[]⟩, .slice none 0 0] 28)) := by
  have hb2 := below_box2 w (tbox t sl) (.cells #[.int .i64 0, .string ⟨#[]⟩, .slice none 0 0] 28)
  have hbb := below_box (w.alloc (tbox t sl)) (.cells #[.int .i64 0, .string ⟨#[]⟩, .slice none 0 0] 28)
  have hz := (MapKept.heap_alloc (w.alloc (tbox t sl)) (.cells #[.int .i64 0, .string ⟨#[]⟩, .slice none 0 0] 28)).1
  rw [World.size_alloc] at hz
  exact ⟨(hbb.block _ (by simp)).trans (MapKept.heap_alloc w _).1, hz, hb.keep hb2, ArgsAt.keep hb2 (Nat.le_refl _) ha, hb2, by simp⟩


set_option maxRecDepth 100000 in
set_option maxHeartbeats 4000000 in
theorem rapply_arg (l : List Bd) (t : T) (hno : isSub l = false ∨ t.rightW ≠ 0) (v sl : Value) (w : World) (hb : BindsAt w v l) (ha : ArgsAt w sl t.args) :
    Calls Try.prog 20 #[v, tval t sl] w fun e W' => e = .returned (.tuple #[tval zt (.slice none 0 0), .int .i64 1]) ∧ Below w.heap.size w W' := by
  obtain ⟨a, c, rfl⟩ := hb.slice
  obtain ⟨sa, sc, rfl, _, _⟩ := ha.slice
  have hA0 := ApI.start w l (.slice a l.length c) t (.slice sa t.args.length sc) hb ha
  have h14 : ∀ X, ApI w l (.slice a l.length c) t (.slice sa t.args.length sc) X → Calls Try.prog 18 #[.slice a l.length c] X fun e X' => e = .returned (.bool (isSub l)) ∧ ApI w l (.slice a l.length c) t (.slice sa t.args.length sc) X' := fun X hX => (ris_any l _ X hX.binds).mono fun e X' ⟨he, hb⟩ => ⟨he, hX.keep hb⟩
  have h25 : ∀ X, ApI w l (.slice a l.length c) t (.slice sa t.args.length sc) X → Calls Try.prog 22 #[tval t (.slice sa t.args.length sc)] X fun e X' => e = .returned (.int .i64 t.rightW) ∧ ApI w l (.slice a l.length c) t (.slice sa t.args.length sc) X' := fun X hX => (rright_any t _ X hX.args).mono fun e X' ⟨he, hb⟩ => ⟨he, hX.keep hb⟩
  have hC : ∀ X, ApI w l (.slice a l.length c) t (.slice sa t.args.length sc) X → X.cell? ⟨w.heap.size, 0, none⟩ = some (.int .i64 t.v) ∧ X.cell? ⟨w.heap.size, 1, none⟩ = some (.string t.fn) ∧ X.cell? ⟨w.heap.size, 2, none⟩ = some (.slice sa t.args.length sc) := fun X h => (box_facts h.tb).1
  have hRb : ∀ X, ApI w l (.slice a l.length c) t (.slice sa t.args.length sc) X → (X.cell? ⟨w.heap.size + 1, 0, none⟩ = some (.int .i64 0) ∧ X.cell? ⟨w.heap.size + 1, 1, none⟩ = some (.string ⟨#[]⟩) ∧ X.cell? ⟨w.heap.size + 1, 2, none⟩ = some (.slice none 0 0)) ∧ (X.frozen? ⟨w.heap.size + 1, 0, none⟩ = false ∧ X.frozen? ⟨w.heap.size + 1, 1, none⟩ = false ∧ X.frozen? ⟨w.heap.size + 1, 2, none⟩ = false) := fun X h => box_facts h.rb
  have hbl : Hid (∀ X, ApI w l (.slice a l.length c) t (.slice sa t.args.length sc) X → Below w.heap.size w X) := fun X h => h.bel
  obtain ⟨S, hS'⟩ : ∃ S, ApI w l (.slice a l.length c) t (.slice sa t.args.length sc) = S := ⟨_, rfl⟩
  rw [hS'] at hA0 h14 h25 hC hRb hbl
  clear hS' hb ha
  obtain ⟨k0, k1, k2⟩ := hC _ hA0
  cases e1 : isSub l
  · rw [e1] at h14
    clear e1 hno h25
    go_enter Try.func20, Try.ntmps20
    go_wp2_with (go_at_call 18; refine (h14 _ hA0).mono ?_; rintro e W2 ⟨rfl, HW2⟩; obtain ⟨⟨z0, z1, z2⟩, y0, y1, y2⟩ := hRb _ HW2)
    refine bodyPost_ret (v := .tuple #[tval zt (.slice none 0 0), .int .i64 1]) (by simp [results, Try.results20, go_sem, *, zt, T.v, T.fn]) rfl ⟨rfl, ?_⟩
    exact set3_below (hbl.out _ HW2) _ 0 _ _ _ (Nat.le_succ _)
  · rw [e1] at h14
    have hne : t.rightW ≠ 0 := hno.resolve_left (by rw [e1]; decide)
    have hd : (t.rightW != 0) = true := by rw [bne_iff_ne]; exact hne
    clear e1 hno
    go_enter Try.func20, Try.ntmps20
    go_wp2_with (first
      | (go_at_call 22; refine (h25 _ HW2).mono ?_; rintro e W3 ⟨rfl, HW3⟩; obtain ⟨⟨z0, z1, z2⟩, y0, y1, y2⟩ := hRb _ HW3)
      | (go_at_call 18; refine (h14 _ hA0).mono ?_; rintro e W2 ⟨rfl, HW2⟩; obtain ⟨j0, j1, j2⟩ := hC _ HW2))
    refine bodyPost_ret (v := .tuple #[tval zt (.slice none 0 0), .int .i64 1]) (by simp [results, Try.results20, go_sem, *, zt, T.v, T.fn]) rfl ⟨rfl, ?_⟩
    exact set3_below (hbl.out _ HW3) _ 0 _ _ _ (Nat.le_succ _)

set_option maxRecDepth 100000 in
set_option maxHeartbeats 4000000 in
theorem rapply_ok (l : List Bd) (t : T) (hl : isSub l = true) (ht0 : t.rightW = 0) (v sl : Value) (w : World) (hb : BindsAt w v l) (ha : ArgsAt w sl t.args) :
    Calls Try.prog 20 #[v, tval t sl] w fun e W' => ∃ r s5, e = .returned (.tuple #[tval r s5, .int .i64 ((t.app (img l)).rightW)]) ∧ r = (if (t.app (img l)).rightW = 0 then t.app (img l) else zt) ∧ ArgsAt W' s5 r.args ∧ Below w.heap.size w W' := by
  obtain ⟨a, c, rfl⟩ := hb.slice
  obtain ⟨sa, sc, rfl, _, _⟩ := ha.slice
  have hA0 := ApI.start w l (.slice a l.length c) t (.slice sa t.args.length sc) hb ha
  have h14 : ∀ X, ApI w l (.slice a l.length c) t (.slice sa t.args.length sc) X → Calls Try.prog 18 #[.slice a l.length c] X fun e X' => e = .returned (.bool true) ∧ ApI w l (.slice a l.length c) t (.slice sa t.args.length sc) X' := fun X hX => (ris_any l _ X hX.binds).mono fun e X' ⟨he, hb⟩ => ⟨by rw [he, hl], hX.keep hb⟩
  have h25 : ∀ X, ApI w l (.slice a l.length c) t (.slice sa t.args.length sc) X → Calls Try.prog 22 #[tval t (.slice sa t.args.length sc)] X fun e X' => e = .returned (.int .i64 0) ∧ ApI w l (.slice a l.length c) t (.slice sa t.args.length sc) X' := fun X hX => (rright_any t _ X hX.args).mono fun e X' ⟨he, hb⟩ => ⟨by rw [he, ht0], hX.keep hb⟩
  have hC : ∀ X, ApI w l (.slice a l.length c) t (.slice sa t.args.length sc) X → X.cell? ⟨w.heap.size, 0, none⟩ = some (.int .i64 t.v) ∧ X.cell? ⟨w.heap.size, 1, none⟩ = some (.string t.fn) ∧ X.cell? ⟨w.heap.size, 2, none⟩ = some (.slice sa t.args.length sc) := fun X h => (box_facts h.tb).1
  have hRb : ∀ X, ApI w l (.slice a l.length c) t (.slice sa t.args.length sc) X → (X.cell? ⟨w.heap.size + 1, 0, none⟩ = some (.int .i64 0) ∧ X.cell? ⟨w.heap.size + 1, 1, none⟩ = some (.string ⟨#[]⟩) ∧ X.cell? ⟨w.heap.size + 1, 2, none⟩ = some (.slice none 0 0)) ∧ (X.frozen? ⟨w.heap.size + 1, 0, none⟩ = false ∧ X.frozen? ⟨w.heap.size + 1, 1, none⟩ = false ∧ X.frozen? ⟨w.heap.size + 1, 2, none⟩ = false) := fun X h => box_facts h.rb
  have hbl : Hid (∀ X, ApI w l (.slice a l.length c) t (.slice sa t.args.length sc) X → Below w.heap.size w X) := fun X h => h.bel
  have hkp : Hid (∀ X X', ApI w l (.slice a l.length c) t (.slice sa t.args.length sc) X → Below X.heap.size X X' → ApI w l (.slice a l.length c) t (.slice sa t.args.length sc) X') := fun X X' h hb => h.keep hb
  obtain ⟨u, hu⟩ : ∃ u, t.app (img l) = u := ⟨_, rfl⟩
  have h33 : ∀ X, ApI w l (.slice a l.length c) t (.slice sa t.args.length sc) X → Calls Try.prog 41 #[.slice a l.length c, tval t (.slice sa t.args.length sc)] X fun e X' => ∃ pa pc, e = .returned (tval u (.slice pa u.args.length pc)) ∧ Hid (ArgsP (fun b => b ≠ w.heap.size + 1) X' (.slice pa u.args.length pc) u.args) ∧ ApI w l (.slice a l.length c) t (.slice sa t.args.length sc) X' := fun X hX => (put_any w _ l hb t _ X hX.bel ha (right_shape ht0)).mono fun e X' ⟨s', he, hA, hb'⟩ => by
    rw [hu] at he hA
    obtain ⟨pa, pc, rfl⟩ := hA.slice
    refine ⟨pa, pc, he, hA.keep (Nat.le_refl _) (fun b h _ => ⟨?_, rfl⟩), hX.keep hb'⟩
    have := hX.siz
    rcases h with h | h <;> omega
  rw [hu]
  have h25' : ∀ (X' : World) pa pc, Hid (ArgsP (fun b => b ≠ w.heap.size + 1) X' (.slice pa u.args.length pc) u.args) → Calls Try.prog 22 #[tval u (.slice pa u.args.length pc)] (X'.alloc (tbox u (.slice pa u.args.length pc))) fun e Y => e = .returned (.int .i64 u.rightW) ∧ Below (X'.alloc (tbox u (.slice pa u.args.length pc))).heap.size (X'.alloc (tbox u (.slice pa u.args.length pc))) Y := fun X' pa pc h => rright_any u _ _ (ArgsAt.keep (below_box X' _) (Nat.le_refl _) h.out.args)
  obtain ⟨S, hS'⟩ : ∃ S, ApI w l (.slice a l.length c) t (.slice sa t.args.length sc) = S := ⟨_, rfl⟩
  rw [hS'] at hA0 h14 h25 hC hRb hbl h33 hkp
  clear hS' hb ha hl ht0 hu
  obtain ⟨k0, k1, k2⟩ := hC _ hA0
  by_cases hr : u.rightW = 0
  · rw [if_pos hr]
    have hd : (u.rightW != 0) = false := by rw [bne_eq_false_iff_eq]; exact hr
    rw [hr] at h25' ⊢
    clear hd hr
    go_enter Try.func20, Try.ntmps20
    go_wp2_with (first
      | (go_at_call 41; refine (h33 _ HW3).mono ?_; rintro e W4 ⟨pa, pc, rfl, HP4, HW4⟩; obtain ⟨p0, p1, p2⟩ := tbox_cells W4 u (.slice pa u.args.length pc))
      | (go_at_call 22; refine (h25' _ pa pc HP4).mono ?_; rintro e W5 ⟨rfl, HB5⟩; have HW5 := hkp.out _ _ HW4 ((below_box W4 _).trans (HB5.mono (Nat.le_of_lt (by simp)))); have p0' := kc HB5 (by simp) p0; have p1' := kc HB5 (by simp) p1; have p2' := kc HB5 (by simp) p2; obtain ⟨⟨z0, z1, z2⟩, y0, y1, y2⟩ := hRb _ HW5; have HB5' : Hid (Below W4.heap.size W4 W5) := (below_box W4 _).trans (HB5.mono (Nat.le_of_lt (by simp))); clear HB5)
      | (go_at_call 22; refine (h25 _ HW2).mono ?_; rintro e W3 ⟨rfl, HW3⟩; obtain ⟨q0, q1, q2⟩ := hC _ HW3)
      | (go_at_call 18; refine (h14 _ hA0).mono ?_; rintro e W2 ⟨rfl, HW2⟩; obtain ⟨j0, j1, j2⟩ := hC _ HW2))
    refine bodyPost_ret (v := .tuple #[tval u (.slice pa u.args.length pc), .int .i64 0]) (by simp [results, Try.results20, go_sem, *]) rfl ⟨u, _, rfl, rfl, ?_, ?_⟩
    · exact (HP4.out.keep (P' := fun _ => True) (W' := set3 W5 (w.heap.size + 1) 0 _ _ _) (by rw [set3_size]; exact HB5'.out.size) (fun b hb hlt => ⟨trivial, (set3_other _ _ _ _ _ _ b hb).trans (HB5'.out.block b hlt)⟩)).args
    · exact set3_below (hbl.out _ HW5) _ 0 _ _ _ (Nat.le_succ _)
  · rw [if_neg hr]
    have hd : (u.rightW != 0) = true := by rw [bne_iff_ne]; exact hr
    obtain ⟨f, hf⟩ : ∃ f, u.rightW = f := ⟨_, rfl⟩
    rw [hf] at h25' hd ⊢
    clear hr hf
    go_enter Try.func20, Try.ntmps20
    go_wp2_with (first
      | (go_at_call 41; refine (h33 _ HW3).mono ?_; rintro e W4 ⟨pa, pc, rfl, HP4, HW4⟩; obtain ⟨p0, p1, p2⟩ := tbox_cells W4 u (.slice pa u.args.length pc))
      | (go_at_call 22; refine (h25' _ pa pc HP4).mono ?_; rintro e W5 ⟨rfl, HB5⟩; have HW5 := hkp.out _ _ HW4 ((below_box W4 _).trans (HB5.mono (Nat.le_of_lt (by simp)))); obtain ⟨⟨z0, z1, z2⟩, y0, y1, y2⟩ := hRb _ HW5; clear HB5)
      | (go_at_call 22; refine (h25 _ HW2).mono ?_; rintro e W3 ⟨rfl, HW3⟩; obtain ⟨q0, q1, q2⟩ := hC _ HW3)
      | (go_at_call 18; refine (h14 _ hA0).mono ?_; rintro e W2 ⟨rfl, HW2⟩; obtain ⟨j0, j1, j2⟩ := hC _ HW2))
    refine bodyPost_ret (v := .tuple #[tval zt (.slice none 0 0), .int .i64 f]) (by simp [results, Try.results20, go_sem, *, zt, T.v, T.fn]) rfl ⟨zt, _, rfl, rfl, (ArgsFr.nil 0 _).args, ?_⟩
    exact set3_below (hbl.out _ HW5) _ 0 _ _ _ (Nat.le_succ _)

end Go.Proofs.Ytcnodgjalkcgiaa
