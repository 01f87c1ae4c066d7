/-
  term.Places: how many there are.
-/
import Derived.Test.YtbbfpllffcfmhaaM
namespace Go.Proofs.Ytbbfpllffcfmhaa
open Go.RowKit Go.Shelf

attribute [local go_sem] Oper.semAt_some

set_option maxRecDepth 100000 in
set_option maxHeartbeats 4000000 in
theorem tplaces_any (t : T) (sl : Value) (w : World) (ha : ArgsAt w sl t.args) (hlen : Short t) (hbig : (t.parts []).length ≤ 1048576) :
    Calls Try.prog 40 #[tval t sl] w fun e w' => ∃ a c, e = .returned (.slice a (t.parts []).length c) ∧ Below w.heap.size w w' := by
  refine (callsIn_wide (n := 9)).1 ?_
  obtain ⟨a, c, rfl, hc, hm⟩ := ha.slice
  obtain ⟨W0, hW0⟩ : ∃ W0, ((w.alloc (tbox t (.slice a t.args.length c))).alloc (.cells #[.slice none 0 0] 65)).alloc (tbox t (.slice a t.args.length c)) = W0 := ⟨_, rfl⟩
  have hsz : W0.heap.size = w.heap.size + 3 := by rw [← hW0]; simp
  have hbel : Below w.heap.size w W0 := by rw [← hW0]; exact (((Below.refl _ _).alloc (Nat.le_refl _) _).alloc (by simp) _).alloc (by simp; omega) _
  have hB1 : Boxed W0 (w.heap.size + 1) 65 (.slice none 0 0) := by
    have := (Boxed.new (w.alloc (tbox t (.slice a t.args.length c))) 65 (.slice none 0 0)).alloc (tbox t (.slice a t.args.length c))
    rw [World.size_alloc] at this
    rw [← hW0]
    exact this
  have hB2 : W0.heap[w.heap.size + 1 + 1]? = some (.cells [Value.int .i64 t.v, .string t.fn, .slice a t.args.length c].toArray 24 (0, 0)) := by
    have := (MapKept.heap_alloc ((w.alloc (tbox t (.slice a t.args.length c))).alloc (.cells #[.slice none 0 0] 65)) (tbox t (.slice a t.args.length c))).1
    rw [World.size_alloc, World.size_alloc] at this
    rw [← hW0]
    exact this
  refine callsIn_of_wp_marks Try.func40 rfl trivial ?_ rfl
  simp only [Try.ntmps40, List.size_toArray, List.length_cons, List.length_nil, Nat.reduceAdd, Nat.reduceSub, Array.replicate_succ, Array.replicate_zero, List.push_toArray, List.append_toArray, List.nil_append, List.cons_append]
  gi_wp2_with (refine ⟨trivial, ?_⟩; gi_at_call 32; refine (callsIn_wide.2 (parts_any _ _ _)).mono ?_; rintro e w' ⟨rfl, rfl⟩)
  try rw [hW0]
  clear hW0
  obtain ⟨i0, hi, hz0, hz1, hz2⟩ := info_parts Try.info29
  refine range_own (n := W0.heap.size) (w0 := w) (all := t.parts []) (gf := 57) (lb := #[.pointer (some ⟨w.heap.size + 1 + 1, 0, none⟩)]) 9 rfl (enters_of Try.func57 (by kernel_rfl) rfl) rfl
    (fun W hW => iter_any w W0.heap.size (w.heap.size + 1 + 1) t _ W (hbel.trans (hW.mono (by omega))) (by omega) hW.size ((hW.block _ (by omega)).trans hB2) ha hlen)
    (RInvE w (w.heap.size + 1) 65 29 (fun pre cs => cs.length = pre.length)) (fun _ _ _ => False) RInv.abide (fun _ _ _ _ _ _ h => h.elim)
    ⟨_, [], hB1, World.ownsRow_nil _ _ _ _, rfl, by simp, (fun g e => by cases e), by simp, hbel⟩ (by omega) (fun _ _ _ h r hr => by obtain ⟨v, cs, h⟩ := h; exact (h.low r hr).2)
    (fun x y => { tmps := #[tval t (.slice a t.args.length c), .pointer (some ⟨w.heap.size, 0, none⟩), .slice none 0 0, .pointer (some ⟨w.heap.size + 1, 0, none⟩), x, .agg #[.int .i64 t.v, .string t.fn, .slice a t.args.length c], .func (.func 57) #[] #[.pointer (some ⟨w.heap.size + 1 + 1, 0, none⟩)], x, y, undef, undef, undef, undef, undef, undef], defers := [] }) ?assign ?body ?done ?stop
  case assign =>
    intro l x y W K hK
    gi_wp2
    simpa using hK
  case body =>
    rintro l E pre pl p pv sl W ⟨v, cs, hi1⟩ hl hw hpv hsl ⟨rest, hrest⟩
    have hpl : pl.length ≤ 1048576 := hlen (pl, p) (by rw [← hrest]; simp)
    have hcs : cs.length < 1048576 := by
      have h1 := congrArg List.length hrest
      rw [hi1.say]
      simp at h1
      omega
    have hcell := hi1.box.cell
    have hdr : Below W.heap.size W W.drew := (Below.refl _ W).drew
    have hpd : W.drew.ownsRow W0.heap.size 3 1 pv pl.length (pl.map fun x => Value.int .i64 x) := hpv.1
    have hcl := clone_any _ pv pl W.drew hpd hpl
    -- the end of every order
    have fin : ∀ (w1 : World) (pa : Option Addr) (pc : Nat), Below W.drew.heap.size W.drew w1 → ∀ v' w3, w3.ownsRow w.heap.size 29 1 v' (cs.length + 1) (cs ++ [.slice pa pl.length pc]) → (w1.alloc (.cells #[.slice pa pl.length pc] 29)).grownBy w3 v.ownBlock → (v'.ownBlock = v.ownBlock ∨ v'.ownBlock = some (w1.alloc (.cells #[.slice pa pl.length pc] 29)).heap.size) →
        (w3.cell? ⟨w.heap.size + 1, 0, none⟩ = some v ∧ w3.frozen? ⟨w.heap.size + 1, 0, none⟩ = false) ∧ Kept w.heap.size E W (w3.setCell ⟨w.heap.size + 1, 0, none⟩ v') ∧ RInvE w (w.heap.size + 1) 65 29 (fun pre cs => cs.length = pre.length) E (pre ++ [(pl, p)]) (w3.setCell ⟨w.heap.size + 1, 0, none⟩ v') := by
      intro w1 pa pc hb1 v' w3 hown hg hat
      have hb2 : Below W.heap.size W (w1.alloc (.cells #[.slice pa pl.length pc] 29)) := (hdr.trans hb1).alloc hb1.size _
      obtain ⟨k1, h1⟩ := hi1.grow hb2
      obtain ⟨hcf, k2, h2⟩ := h1.push (by decide) (by omega) _ v' w3 hown hg hat (pre ++ [(pl, p)]) (by simp [hi1.say])
      exact ⟨hcf, k1.trans k2, _, _, h2⟩
    have hrow : ∀ (w1 : World) (pa : Option Addr) (pc : Nat), Below W.drew.heap.size W.drew w1 → (w1.alloc (.cells #[.slice pa pl.length pc] 29)).ownsRow w.heap.size 29 1 v cs.length cs ∧ w.heap.size ≤ (w1.alloc (.cells #[.slice pa pl.length pc] 29)).heap.size := by
      intro w1 pa pc hb1
      obtain ⟨k1, h1⟩ := hi1.grow ((hdr.trans hb1).alloc hb1.size (.cells #[.slice pa pl.length pc] 29))
      exact ⟨h1.row, h1.bel.size⟩
    have hcellB : ∀ w1, Below W.drew.heap.size W.drew w1 → w1.cell? ⟨w.heap.size + 1, 0, none⟩ = some v := fun w1 hb1 => kc (hdr.trans hb1) hi1.box.lt hcell
    obtain ⟨pa0, pc0, rfl⟩ := hpv.shape
    gi_wp2
    refine wpIn_region_any (by kernel_rfl) ?_
    try (change wpAnyIn _ _ _ _ _ _ _ _ _ (World.drew _))
    refine wpAnyIn_ready (rs := [0, 1]) (by kernel_rfl) (by simp) ?_
    refine AllReadyIn.cons rfl (fun K hK => ?_) ?_
    · go_simp
      refine hK _ _ ?_
      clear hK K
      refine wpAnyIn_ready (rs := [1]) (by kernel_rfl) (by simp) ?_
      refine AllReadyIn.cons rfl (fun K hK => ?_) AllReadyIn.nil
      go_simp
      refine hK _ _ ?_
      clear hK K
      refine wpAnyIn_ready (rs := [2]) (by kernel_rfl) (by simp) ?_
      refine AllReadyIn.cons rfl (fun K hK => ?_) AllReadyIn.nil
      go_simp
      refine ⟨trivial, (CallsIn.inRound l (callsIn_wide.2 hcl)).mono ?_⟩
      rintro e w1 ⟨pa, pc, rfl, hb1⟩
      have c1 := hcellB w1 hb1
      refine hK _ _ ?_
      clear hK K
      refine wpAnyIn_ready (rs := [3]) (by kernel_rfl) (by simp) ?_
      refine AllReadyIn.cons rfl (fun K hK => ?_) AllReadyIn.nil
      go_simp
      have c2 : (w1.alloc (.cells #[.slice pa pl.length pc] 29)).cell? ⟨w.heap.size + 1, 0, none⟩ = some v := kc (below_box w1 _) (World.block_lt_of_cell? w1 _ c1) c1
      refine hK _ _ ?_
      clear hK K
      refine wpAnyIn_ready (rs := [4]) (by kernel_rfl) (by simp) ?_
      refine AllReadyIn.cons rfl (fun K hK => ?_) AllReadyIn.nil
      refine stepIn_append _ rfl _ _ 65 rfl w.heap.size 29 i0 _ 1 24 Try.underlying65 hi hz0 hz1 hz2 rfl (by decide) _ _ _ rfl (hrow w1 pa pc hb1).1 ⟨w1.heap.size, 0, none⟩ 1 1 _ rfl rfl (cell_one_new _ _ _) (by simp [Value.oneCell']) (by unfold maxLen; omega) (by omega) (hrow w1 pa pc hb1).2 ?_
      intro v' w3 hown hg hat
      obtain ⟨⟨f1, f2⟩, kk, ii⟩ := fin w1 pa pc hb1 v' w3 hown hg hat
      obtain ⟨g', cap', rfl⟩ := ownsRow_succ hown
      refine hK _ _ ?_
      clear hK K
      refine wpAnyIn_ready (rs := [5]) (by kernel_rfl) (by simp) ?_
      refine AllReadyIn.cons rfl (fun K hK => ?_) AllReadyIn.nil
      go_simp
      refine hK _ _ ?_
      clear hK K
      refine wpAnyIn_done (by kernel_rfl) ?_ _
      exact ⟨kk, ii⟩
    refine AllReadyIn.cons rfl (fun K hK => ?_) AllReadyIn.nil
    go_simp
    refine hK _ _ ?_
    clear hK K
    refine wpAnyIn_ready (rs := [0, 2]) (by kernel_rfl) (by simp) ?_
    refine AllReadyIn.cons rfl (fun K hK => ?_) ?_
    · go_simp
      refine hK _ _ ?_
      clear hK K
      refine wpAnyIn_ready (rs := [2]) (by kernel_rfl) (by simp) ?_
      refine AllReadyIn.cons rfl (fun K hK => ?_) AllReadyIn.nil
      go_simp
      refine ⟨trivial, (CallsIn.inRound l (callsIn_wide.2 hcl)).mono ?_⟩
      rintro e w1 ⟨pa, pc, rfl, hb1⟩
      have c1 := hcellB w1 hb1
      refine hK _ _ ?_
      clear hK K
      refine wpAnyIn_ready (rs := [3]) (by kernel_rfl) (by simp) ?_
      refine AllReadyIn.cons rfl (fun K hK => ?_) AllReadyIn.nil
      go_simp
      have c2 : (w1.alloc (.cells #[.slice pa pl.length pc] 29)).cell? ⟨w.heap.size + 1, 0, none⟩ = some v := kc (below_box w1 _) (World.block_lt_of_cell? w1 _ c1) c1
      refine hK _ _ ?_
      clear hK K
      refine wpAnyIn_ready (rs := [4]) (by kernel_rfl) (by simp) ?_
      refine AllReadyIn.cons rfl (fun K hK => ?_) AllReadyIn.nil
      refine stepIn_append _ rfl _ _ 65 rfl w.heap.size 29 i0 _ 1 24 Try.underlying65 hi hz0 hz1 hz2 rfl (by decide) _ _ _ rfl (hrow w1 pa pc hb1).1 ⟨w1.heap.size, 0, none⟩ 1 1 _ rfl rfl (cell_one_new _ _ _) (by simp [Value.oneCell']) (by unfold maxLen; omega) (by omega) (hrow w1 pa pc hb1).2 ?_
      intro v' w3 hown hg hat
      obtain ⟨⟨f1, f2⟩, kk, ii⟩ := fin w1 pa pc hb1 v' w3 hown hg hat
      obtain ⟨g', cap', rfl⟩ := ownsRow_succ hown
      refine hK _ _ ?_
      clear hK K
      refine wpAnyIn_ready (rs := [5]) (by kernel_rfl) (by simp) ?_
      refine AllReadyIn.cons rfl (fun K hK => ?_) AllReadyIn.nil
      go_simp
      refine hK _ _ ?_
      clear hK K
      refine wpAnyIn_done (by kernel_rfl) ?_ _
      exact ⟨kk, ii⟩
    refine AllReadyIn.cons rfl (fun K hK => ?_) AllReadyIn.nil
    go_simp
    refine ⟨trivial, (CallsIn.inRound l (callsIn_wide.2 hcl)).mono ?_⟩
    rintro e w1 ⟨pa, pc, rfl, hb1⟩
    have c1 := hcellB w1 hb1
    refine hK _ _ ?_
    clear hK K
    refine wpAnyIn_ready (rs := [0, 3]) (by kernel_rfl) (by simp) ?_
    refine AllReadyIn.cons rfl (fun K hK => ?_) ?_
    · go_simp
      refine hK _ _ ?_
      clear hK K
      refine wpAnyIn_ready (rs := [3]) (by kernel_rfl) (by simp) ?_
      refine AllReadyIn.cons rfl (fun K hK => ?_) AllReadyIn.nil
      go_simp
      have c2 : (w1.alloc (.cells #[.slice pa pl.length pc] 29)).cell? ⟨w.heap.size + 1, 0, none⟩ = some v := kc (below_box w1 _) (World.block_lt_of_cell? w1 _ c1) c1
      refine hK _ _ ?_
      clear hK K
      refine wpAnyIn_ready (rs := [4]) (by kernel_rfl) (by simp) ?_
      refine AllReadyIn.cons rfl (fun K hK => ?_) AllReadyIn.nil
      refine stepIn_append _ rfl _ _ 65 rfl w.heap.size 29 i0 _ 1 24 Try.underlying65 hi hz0 hz1 hz2 rfl (by decide) _ _ _ rfl (hrow w1 pa pc hb1).1 ⟨w1.heap.size, 0, none⟩ 1 1 _ rfl rfl (cell_one_new _ _ _) (by simp [Value.oneCell']) (by unfold maxLen; omega) (by omega) (hrow w1 pa pc hb1).2 ?_
      intro v' w3 hown hg hat
      obtain ⟨⟨f1, f2⟩, kk, ii⟩ := fin w1 pa pc hb1 v' w3 hown hg hat
      obtain ⟨g', cap', rfl⟩ := ownsRow_succ hown
      refine hK _ _ ?_
      clear hK K
      refine wpAnyIn_ready (rs := [5]) (by kernel_rfl) (by simp) ?_
      refine AllReadyIn.cons rfl (fun K hK => ?_) AllReadyIn.nil
      go_simp
      refine hK _ _ ?_
      clear hK K
      refine wpAnyIn_done (by kernel_rfl) ?_ _
      exact ⟨kk, ii⟩
    refine AllReadyIn.cons rfl (fun K hK => ?_) AllReadyIn.nil
    go_simp
    have c2 : (w1.alloc (.cells #[.slice pa pl.length pc] 29)).cell? ⟨w.heap.size + 1, 0, none⟩ = some v := kc (below_box w1 _) (World.block_lt_of_cell? w1 _ c1) c1
    refine hK _ _ ?_
    clear hK K
    refine wpAnyIn_ready (rs := [0]) (by kernel_rfl) (by simp) ?_
    refine AllReadyIn.cons rfl (fun K hK => ?_) AllReadyIn.nil
    go_simp
    refine hK _ _ ?_
    clear hK K
    refine wpAnyIn_ready (rs := [4]) (by kernel_rfl) (by simp) ?_
    refine AllReadyIn.cons rfl (fun K hK => ?_) AllReadyIn.nil
    refine stepIn_append _ rfl _ _ 65 rfl w.heap.size 29 i0 _ 1 24 Try.underlying65 hi hz0 hz1 hz2 rfl (by decide) _ _ _ rfl (hrow w1 pa pc hb1).1 ⟨w1.heap.size, 0, none⟩ 1 1 _ rfl rfl (cell_one_new _ _ _) (by simp [Value.oneCell']) (by unfold maxLen; omega) (by omega) (hrow w1 pa pc hb1).2 ?_
    intro v' w3 hown hg hat
    obtain ⟨⟨f1, f2⟩, kk, ii⟩ := fin w1 pa pc hb1 v' w3 hown hg hat
    obtain ⟨g', cap', rfl⟩ := ownsRow_succ hown
    refine hK _ _ ?_
    clear hK K
    refine wpAnyIn_ready (rs := [5]) (by kernel_rfl) (by simp) ?_
    refine AllReadyIn.cons rfl (fun K hK => ?_) AllReadyIn.nil
    go_simp
    refine hK _ _ ?_
    clear hK K
    refine wpAnyIn_done (by kernel_rfl) ?_ _
    exact ⟨kk, ii⟩
  case done =>
    rintro D E W hD ⟨v, cs, hi1⟩ hDE hK
    have hc := hi1.box.cell
    have hl := hi1.say
    gi_wp2
    refine ⟨by simp, .inl ⟨_, _, rfl, run_takeDeferred hK, ?_⟩⟩
    have hb : Below w.heap.size w (W.putObj D (.deferred none)) := hi1.bel.trans ⟨rfl, rfl, rfl, by simp, fun k hk => World.putObj_heap_other (by omega)⟩
    rcases hi1.row.2 with ⟨rfl, h0⟩ | ⟨g, cap, cur, rfl, _⟩
    · exact ⟨_, results_tmp rfl _ _ _, none, 0, by show Ending.returned (Value.slice none 0 0) = _; rw [← hl, h0], hb⟩
    · exact ⟨_, results_tmp rfl _ _ _, _, _, by show Ending.returned (Value.slice (some ⟨g, 0, none⟩) cs.length cap) = _; rw [hl], hb⟩
  case stop =>
    rintro D E pre W _ h
    exact h.elim

end Go.Proofs.Ytbbfpllffcfmhaa
