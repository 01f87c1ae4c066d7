/-
  subst.Shift.
-/
import Derived.Test.YtgnjgpplelakkaaGreatUH
import Derived.Test.YtgnjgpplelakkaaGreatSF
namespace Go.Proofs.YtgnjgpplelakkaaGreat
open Go.RowKit Go.Shelf

/-- The zero term. -/
abbrev zt : T := .mk 0 ⟨#[]⟩ []

attribute [local go_sem] Oper.semAt_some

set_option maxRecDepth 100000 in
set_option maxHeartbeats 4000000 in
theorem shift_any (t : T) (by_ : Int) (hsh : t.shape = true) (ht : Short t) (ht0 : t.rightW = 0) (hvs : ∀ n ∈ t.vs, 0 ≤ n ∧ n < 1000000) (sl : Value) (w : World) (ha : ArgsAt w sl t.args) :
    Calls Tryz.prog 28 #[tval t sl, .int .i64 by_] w fun e W' => (((∀ n ∈ t.vs, fine by_ n = true) ∧ ∃ s5, e = .returned (.tuple #[tval (t.app (shf by_)) s5, .int .i64 0]) ∧ ArgsFr w.heap.size W' s5 (t.app (shf by_)).args) ∨ ((∃ n ∈ t.vs, fine by_ n = false) ∧ e = .returned (.tuple #[tval zt (.slice none 0 0), .int .i64 1]))) ∧ Below w.heap.size w W' := by
  refine (callsIn_wide (n := 9)).1 ?_
  obtain ⟨a, c, rfl, hc, hm⟩ := ha.slice
  obtain ⟨W1, hW1⟩ : ∃ W1, (((w.alloc (tbox t (.slice a t.args.length c))).alloc (.cells #[.int .i64 by_] 3)).alloc (.cells #[.int .i64 0, .string ⟨#[]⟩, .slice none 0 0] 28)).alloc (.cells #[.int .i64 0] 33) = W1 := ⟨_, rfl⟩
  have hB1 : ShB w t (.slice a t.args.length c) by_ 0 W1 := by
    have h1 := (MapKept.heap_alloc w (tbox t (.slice a t.args.length c))).1
    have h2 := (MapKept.heap_alloc (w.alloc (tbox t (.slice a t.args.length c))) (.cells #[.int .i64 by_] 3)).1
    have h3 := (MapKept.heap_alloc ((w.alloc (tbox t (.slice a t.args.length c))).alloc (.cells #[.int .i64 by_] 3)) (.cells #[.int .i64 0, .string ⟨#[]⟩, .slice none 0 0] 28)).1
    have h4 := (MapKept.heap_alloc (((w.alloc (tbox t (.slice a t.args.length c))).alloc (.cells #[.int .i64 by_] 3)).alloc (.cells #[.int .i64 0, .string ⟨#[]⟩, .slice none 0 0] 28)) (.cells #[.int .i64 0] 33)).1
    rw [World.size_alloc] at h2
    rw [World.size_alloc, World.size_alloc] at h3
    rw [World.size_alloc, World.size_alloc, World.size_alloc] at h4
    rw [← hW1]
    refine ⟨?_, ?_, ?_, h4, (((((Below.refl _ _).alloc (Nat.le_refl _) _).alloc (by simp) _).alloc (by simp <;> omega) _).alloc (by simp <;> omega) _)⟩
    · rw [Below.heap_alloc _ _ _ (by simp <;> omega), Below.heap_alloc _ _ _ (by simp <;> omega), Below.heap_alloc _ _ _ (by simp)]; exact h1
    · rw [Below.heap_alloc _ _ _ (by simp <;> omega), Below.heap_alloc _ _ _ (by simp)]; exact h2
    · rw [Below.heap_alloc _ _ _ (by simp)]; exact h3
  have hs1 : W1.heap.size = w.heap.size + 4 := by rw [← hW1]; simp
  obtain ⟨⟨k0, k1, k2⟩, _⟩ := box_facts hB1.tb
  have h28 := tright_any t (.slice a t.args.length c) W1 (ArgsAt.keep hB1.bel (Nat.le_refl _) ha) ht
  rw [ht0] at h28
  refine callsIn_of_wp_marks Tryz.func28 rfl trivial ?_ rfl
  simp only [Tryz.ntmps28, List.size_toArray, List.length_cons, List.length_nil, Nat.reduceAdd, Nat.reduceSub, Array.replicate_succ, Array.replicate_zero, List.push_toArray, List.append_toArray, List.nil_append, List.cons_append]
  gi_wp2_with (first
    | (refine ⟨trivial, ?_⟩; gi_at_call 41; refine (callsIn_wide.2 h28).mono ?_; rintro e W2 ⟨rfl, hb2⟩; have hB2 := hB1.keep hb2; obtain ⟨⟨j0, j1, j2⟩, _⟩ := box_facts hB2.tb)
    | (refine ⟨trivial, ?_⟩; gi_at_call 54; refine (callsIn_wide.2 (numbers_any _ _ _ _)).mono ?_; rintro e w' ⟨rfl, rfl⟩))
  obtain ⟨W3, hW3⟩ : ∃ W3, (W2.alloc (tbox t (.slice a t.args.length c))).alloc (.cells #[.slice (some ⟨W2.heap.size, 0, none⟩) 1 1] 26) = W3 := ⟨_, rfl⟩
  have hb3 : Below W2.heap.size W2 W3 := by rw [← hW3]; exact ((Below.refl _ _).alloc (Nat.le_refl _) _).alloc (by simp) _
  have hB3 := hB2.keep hb3
  have hs2 := hb2.size
  have hs3 : W3.heap.size = W2.heap.size + 2 := by rw [← hW3]; simp
  have hl3 : W3.cell? ⟨W2.heap.size + 1, 0, none⟩ = some (.slice (some ⟨W2.heap.size, 0, none⟩) 1 1) := by
    have h : ((W2.alloc (tbox t (.slice a t.args.length c))).alloc (.cells #[.slice (some ⟨W2.heap.size, 0, none⟩) 1 1] 26)).cell? ⟨(W2.alloc (tbox t (.slice a t.args.length c))).heap.size, 0, none⟩ = some (.slice (some ⟨W2.heap.size, 0, none⟩) 1 1) := by rw [World.cell?_alloc_new]; rfl
    rw [World.size_alloc] at h
    rw [← hW3]
    exact h
  have hx3 : W3.heap[W2.heap.size]? = some (.cells [Value.int .i64 t.v, .string t.fn, .slice a t.args.length c].toArray 28 (0, 0)) := by
    rw [← hW3, Below.heap_alloc _ _ _ (by simp)]
    exact (MapKept.heap_alloc W2 _).1
  try rw [hW3]
  clear hW3 hW1 k0 k1 k2 j0 j1 j2 h28
  refine range_num (w0 := w) (all := t.vs) (gf := 81) (lb := #[.pointer (some ⟨W2.heap.size + 1, 0, none⟩)]) 9 rfl (enters_of Tryz.func81 (by kernel_rfl) rfl) rfl
    (fun W hW => itern_any w (W2.heap.size + 1) W2.heap.size t _ W (hB3.bel.trans (hW.mono hB3.bel.size)) (kc hW (by omega) hl3) ((hW.block _ (by omega)).trans hx3) ha hsh)
    (ShI w t (.slice a t.args.length c) by_ 0 (fun pre => ∀ n ∈ pre, fine by_ n = true)) (ShI w t (.slice a t.args.length c) by_ 1 (fun _ => ∃ n ∈ t.vs, fine by_ n = false)) (ShI.abide _ _ _ _ _ _) (ShI.abide _ _ _ _ _ _)
    ⟨hB3, by simp, by simp⟩ hB3.bel.size (fun _ _ _ h r hr => (h.low r hr).2)
    (fun p a' _ => a' = { tmps := #[tval t (.slice a t.args.length c), .int .i64 by_, .pointer (some ⟨w.heap.size, 0, none⟩), .pointer (some ⟨w.heap.size + 1, 0, none⟩), .pointer (some ⟨w.heap.size + 1 + 1, 0, none⟩), .pointer (some ⟨w.heap.size + 1 + 1 + 1, 0, none⟩), .int .i64 p, .agg #[.int .i64 t.v, .string t.fn, .slice a t.args.length c], .int .i64 0, .bool false, undef, .agg #[.int .i64 t.v, .string t.fn, .slice a t.args.length c], .slice (some ⟨W2.heap.size, 0, none⟩) 1 1, .func (.func 81) #[] #[.pointer (some ⟨W2.heap.size + 1, 0, none⟩)], .int .i64 p, undef, undef, undef, undef, undef, undef, undef, undef, undef, undef, undef, undef, undef, undef], defers := [] }) (fun _ _ _ _ _ _ h _ => h) ?assign ?body ?done ?stop
  case assign =>
    intro l p W K hK
    gi_wp2
    refine hK _ W (Below.refl _ _) ?_
    simp
  case body =>
    rintro l E pre p a' W hi hl hw ⟨rest, hrest⟩ rfl
    obtain ⟨p0, p1⟩ := hvs p (by rw [← hrest]; simp)
    have hmem : p ∈ t.vs := by rw [← hrest]; simp
    have cb : W.cell? ⟨w.heap.size + 1, 0, none⟩ = some (.int .i64 by_) := by rw [cell_of_row _ _ _ _ 3 (0, 0) hi.b.bb]; rfl
    have n1 : IntKind.i64.wrap (-p) = -p := by simp [IntKind.wrap, IntKind.bits, IntKind.signed]; omega
    have n2 : IntKind.i64.wrap (1000000 - p) = 1000000 - p := by simp [IntKind.wrap, IntKind.bits, IntKind.signed]; omega
    obtain ⟨⟨r0, r1, r2⟩, y0, y1, y2⟩ := box_facts hi.b.rb
    have e0 : W.cell? ⟨w.heap.size + 1 + 1 + 1, 0, none⟩ = some (.int .i64 0) := by rw [cell_of_row _ _ _ _ 33 (0, 0) hi.b.eb]; rfl
    have f0 : W.frozen? ⟨w.heap.size + 1 + 1 + 1, 0, none⟩ = false := by simp [World.frozen?, hi.b.eb]
    have HI : Hid (ShI w t (.slice a t.args.length c) by_ 0 (fun pre => ∀ n ∈ pre, fine by_ n = true) E pre W) := hi
    have bad : Hid (fine by_ p = false → ∀ a3, endE w.heap.size E (ShI w t (.slice a t.args.length c) by_ 0 (fun pre => ∀ n ∈ pre, fine by_ n = true)) (ShI w t (.slice a t.args.length c) by_ 1 (fun _ => ∃ n ∈ t.vs, fine by_ n = false)) (pre ++ [p]) W .ret a3 ((set3 W (w.heap.size + 1 + 1) 0 (.int .i64 0) (.string ⟨#[]⟩) (.slice none 0 0)).setCell ⟨w.heap.size + 1 + 1 + 1, 0, none⟩ (.int .i64 1))) := fun hf a3 => by
      obtain ⟨h1, h2, h3, h4, h5⟩ := hi.b.told (.int .i64 0) (.string ⟨#[]⟩) (.slice none 0 0) (.int .i64 1)
      refine ⟨⟨⟨rfl, rfl, rfl, by rw [h4]; exact Nat.le_refl _, fun k hk => h1 k (by omega) (by omega)⟩, fun r hr => h1 r (by have := (hi.low r hr).1; omega) (by have := (hi.low r hr).1; omega)⟩, ⟨⟨(h1 _ (by omega) (by omega)).trans hi.b.tb, (h1 _ (by omega) (by omega)).trans hi.b.bb, h2, h3, h5⟩, fun r hr => ⟨(hi.low r hr).1, by rw [h4]; exact (hi.low r hr).2⟩, ⟨p, hmem, hf⟩⟩⟩
    clear hi
    by_cases h1 : by_ < -p
    · have hd1 : decide (by_ < -p) = true := decide_eq_true h1
      gi_wp2
      exact bad.out (by unfold fine; rw [hd1]; rfl) _
    · have hd1 : decide (by_ < -p) = false := decide_eq_false h1
      by_cases h2 : 1000000 - p ≤ by_
      · have hd2 : decide (1000000 - p ≤ by_) = true := decide_eq_true h2
        gi_wp2
        exact bad.out (by unfold fine; rw [hd1, hd2]; rfl) _
      · have hd2 : decide (1000000 - p ≤ by_) = false := decide_eq_false h2
        gi_wp2
        refine ⟨Kept.refl _ _ _, HI.out.b, HI.out.low, fun n hn => ?_⟩
        rcases List.mem_append.1 hn with h | h
        · exact HI.out.p n h
        · simp at h
          subst h
          unfold fine
          rw [hd1, hd2]
          rfl
  case done =>
    rintro D E W hD hi hDE hK
    have hbD := hi.low D hDE
    obtain ⟨⟨j0, j1, j2⟩, _⟩ := box_facts hi.b.tb
    have cb : W.cell? ⟨w.heap.size + 1, 0, none⟩ = some (.int .i64 by_) := by rw [cell_of_row _ _ _ _ 3 (0, 0) hi.b.bb]; rfl
    have hc31 := rep_any W 55 #[.pointer (some ⟨w.heap.size + 1, 0, none⟩)] (shf by_) eg43 (sh1_stand by_ (w.heap.size + 1) W cb) t (.slice a t.args.length c) W (Below.refl _ _) (ArgsAt.keep hi.b.bel (Nat.le_refl _) ha) hsh
    obtain ⟨u, hu⟩ : ∃ u, t.app (shf by_) = u := ⟨_, rfl⟩
    rw [hu] at hc31
    have HU : Hid (t.app (shf by_) = u) := hu
    have HI : Hid (ShI w t (.slice a t.args.length c) by_ 0 (fun pre => ∀ n ∈ pre, fine by_ n = true) E t.vs W ∧ W.heap[D]? = some (.deferred (some []))) := ⟨hi, hK⟩
    clear hi hK hu hB1 hB2 hB3 hl3 hx3 hb3 hb2 ha
    gi_wp2_with (first
      | (refine ⟨trivial, ?_⟩; gi_at_call 46; refine (callsIn_wide.2 hc31).mono ?_; rintro e W5 ⟨s5, rfl, hf5, hb5⟩; obtain ⟨pa, pc, rfl⟩ := hf5.slice; have hB5 := HI.out.1.b.keep hb5; obtain ⟨⟨r0, r1, r2⟩, y0, y1, y2⟩ := box_facts hB5.rb; have e0 : W5.cell? ⟨w.heap.size + 1 + 1 + 1, 0, none⟩ = some (.int .i64 0) := (by rw [cell_of_row _ _ _ _ 33 (0, 0) hB5.eb]; rfl); have f0 : W5.frozen? ⟨w.heap.size + 1 + 1 + 1, 0, none⟩ = false := (by simp [World.frozen?, hB5.eb]); have HB5 : Hid (ShB w t (.slice a t.args.length c) by_ 0 W5 ∧ Below W.heap.size W W5 ∧ ArgsFr W.heap.size W5 (.slice pa u.args.length pc) u.args) := ⟨hB5, hb5, hf5⟩; clear hB5 hb5 hf5))
    obtain ⟨h1, h2, h3, h4, h5⟩ := HB5.out.1.told (.int .i64 u.v) (.string u.fn) (.slice pa u.args.length pc) (.int .i64 0)
    obtain ⟨W6, hW6⟩ : ∃ W6, (set3 W5 (w.heap.size + 1 + 1) 0 (.int .i64 u.v) (.string u.fn) (.slice pa u.args.length pc)).setCell ⟨w.heap.size + 1 + 1 + 1, 0, none⟩ (.int .i64 0) = W6 := ⟨_, rfl⟩
    rw [hW6] at h1 h2 h3 h4 h5
    have g1 : W6.heap[D]? = some (.deferred (some [])) := by rw [h1 D (by omega) (by omega), HB5.out.2.1.block D hbD.2]; exact HI.out.2
    have hne : ∀ k, k ≠ D → (W6.putObj D (.deferred none)).heap[k]? = W6.heap[k]? := fun k hk => World.putObj_heap_other hk
    have q2 := (hne (w.heap.size + 1 + 1) (by omega)).trans h2
    have q3 := (hne (w.heap.size + 1 + 1 + 1) (by omega)).trans h3
    obtain ⟨⟨z0, z1, z2⟩, _⟩ := box_facts q2
    have z3 : (W6.putObj D (.deferred none)).cell? ⟨w.heap.size + 1 + 1 + 1, 0, none⟩ = some (.int .i64 0) := by rw [cell_of_row _ _ _ _ 33 (0, 0) q3]; rfl
    have hA : ArgsFr w.heap.size (W6.putObj D (.deferred none)) (.slice pa u.args.length pc) u.args := (HB5.out.2.2.keep (W' := W6.putObj D (.deferred none)) (by simp [h4]) (fun k hk hlt => by rw [hne k (by omega), h1 k (by omega) (by omega)])).low (by have := HI.out.1.b.bel.size; omega)
    have hB : Below w.heap.size w (W6.putObj D (.deferred none)) := h5.trans ⟨rfl, rfl, rfl, by simp, fun k hk => hne k (by omega)⟩
    have HF : Hid (∀ n ∈ t.vs, fine by_ n = true) := HI.out.1.p
    try rw [hW6]
    refine ⟨by simp, .inl ⟨_, _, rfl, run_takeDeferred g1, ?_⟩⟩
    refine ⟨.tuple #[tval u (.slice pa u.args.length pc), .int .i64 0], by simp [results, Tryz.results28, go_sem, z0, z1, z2, z3], .inl ⟨HF.out, _, by rw [HU.out], by rw [HU.out]; exact hA⟩, hB⟩
  case stop =>
    rintro D E pre W hD hi hDE hK
    have hbD := hi.low D hDE
    have hne : ∀ k, k ≠ D → (W.putObj D (.deferred none)).heap[k]? = W.heap[k]? := fun k hk => World.putObj_heap_other hk
    have q2 := (hne (w.heap.size + 1 + 1) (by omega)).trans hi.b.rb
    have q3 := (hne (w.heap.size + 1 + 1 + 1) (by omega)).trans hi.b.eb
    obtain ⟨⟨z0, z1, z2⟩, _⟩ := box_facts q2
    have z3 : (W.putObj D (.deferred none)).cell? ⟨w.heap.size + 1 + 1 + 1, 0, none⟩ = some (.int .i64 1) := by rw [cell_of_row _ _ _ _ 33 (0, 0) q3]; rfl
    have hB : Below w.heap.size w (W.putObj D (.deferred none)) := hi.b.bel.trans ⟨rfl, rfl, rfl, by simp, fun k hk => hne k (by omega)⟩
    have hp := hi.p
    clear hi
    gi_wp2
    refine ⟨by simp, .inl ⟨_, _, rfl, run_takeDeferred hK, ?_⟩⟩
    refine ⟨.tuple #[tval zt (.slice none 0 0), .int .i64 1], by simp [results, Tryz.results28, go_sem, z0, z1, z2, z3, zt, T.v, T.fn], .inr ⟨hp, rfl⟩, hB⟩

end Go.Proofs.YtgnjgpplelakkaaGreat
