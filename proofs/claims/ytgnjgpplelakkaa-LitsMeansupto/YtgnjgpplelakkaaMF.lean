/-
  lits.Right.
-/
import Derived.Test.YtgnjgpplelakkaaME
namespace Go.Proofs.Ytgnjgpplelakkaa
open Go.RowKit Go.Shelf

attribute [local go_sem] Oper.semAt_some

theorem fe_app {pre : List T} (h : ∀ t ∈ pre, t.rightW = 0) (p : T) (rest : List T) (hp : p.rightW ≠ 0) : fe (pre ++ p :: rest) = p.rightW := by
  induction pre with
  | nil => simp [fe, hp]
  | cons x r ih =>
    have hx := h x (by simp)
    simp only [List.cons_append, fe, hx, if_true]
    exact ih (fun t ht => h t (by simp [ht]))

set_option maxRecDepth 100000 in
set_option maxHeartbeats 4000000 in
theorem lright_any (l : List Lt) (v : Value) (w : World) (hc : ClauseAt w v l) (hsh : ∀ t ∈ sidesOf l, Short t) :
    Calls Try.prog 8 #[v] w fun e w' => e = .returned (.int .i64 (crightW l)) ∧ Below w.heap.size w w' := by
  have hlen := hc.len
  by_cases h60 : 60 < l.length
  · have HE : Hid (crightW l = 3) := by show _ = _; unfold crightW; rw [if_pos h60]
    obtain ⟨a, c, rfl⟩ := hc.slice
    have hB0 := Boxed.new w 29 (.int .i64 0)
    have z0 := hB0.cell
    have y0 := hB0.frozen
    have HB : Hid (Below w.heap.size w ((w.alloc (.cells #[.int .i64 0] 29)).setCell ⟨w.heap.size, 0, none⟩ (.int .i64 3))) := (below_box w _).setCell (p := ⟨w.heap.size, 0, none⟩) (Nat.le_refl _) _
    have hz3 := (hB0.set (.int .i64 3)).cell
    clear hc hsh hB0
    go_enter Try.func8, Try.ntmps8
    go_wp2
    all_goals first | (exfalso; omega) | skip
    refine bodyPost_ret (v := .int .i64 3) (by simp [results, Try.results8, go_sem, *]) rfl ⟨by rw [HE.out], ?_⟩
    first | exact HB.out | exact below_box w _
  · have HE : Hid (crightW l = if fe (sidesOf l) ≠ 0 then fe (sidesOf l) else if 4000 < wrap64 (csize l) then 3 else 0) := by show _ = _; unfold crightW; rw [if_neg h60]
    refine (callsIn_wide (n := 9)).1 ?_
    obtain ⟨a, c, rfl⟩ := hc.slice
    obtain ⟨W0, hW0⟩ : ∃ W0, (w.alloc (.cells #[.int .i64 0] 29)).alloc (.cells #[.slice a l.length c] 23) = W0 := ⟨_, rfl⟩
    have hsz : W0.heap.size = w.heap.size + 2 := by rw [← hW0]; simp
    have hbel : Below w.heap.size w W0 := by rw [← hW0]; exact below_box2 w _ _
    have hB0 : Boxed W0 w.heap.size 29 (.int .i64 0) := by
      have := (Boxed.new w 29 (.int .i64 0)).alloc (.cells #[.slice a l.length c] 23)
      rw [← hW0]
      exact this
    have hB1 : W0.cell? ⟨w.heap.size + 1, 0, none⟩ = some (.slice a l.length c) := by
      have := (MapKept.heap_alloc (w.alloc (.cells #[.int .i64 0] 29)) (.cells #[.slice a l.length c] 23)).1
      rw [World.size_alloc] at this
      rw [← hW0]
      simp only [World.cell?]
      rw [this]
      rfl
    refine callsIn_of_wp_marks Try.func8 rfl trivial ?_ rfl
    simp only [Try.ntmps8, List.size_toArray, List.length_cons, List.length_nil, Nat.reduceAdd, Nat.reduceSub, Array.replicate_succ, Array.replicate_zero, List.push_toArray, List.append_toArray, List.nil_append, List.cons_append]
    have hle : ¬ ((l.length : Int) > 60) := by omega
    gi_wp2_with (refine ⟨trivial, ?_⟩; gi_at_call 36; refine (callsIn_wide.2 (terms_any _ _ _ _)).mono ?_; rintro e w' ⟨rfl, rfl⟩)
    all_goals first | (exfalso; omega) | skip
    try simp only [World.size_alloc]
    try rw [hW0]
    clear hW0
    refine range_t (w0 := w) (all := sidesOf l) (gf := 69) (lb := #[.pointer (some ⟨w.heap.size + 1, 0, none⟩)]) 9 rfl (enters_of Try.func69 (by kernel_rfl) rfl) rfl
      (fun W hW => terms1_any w (w.heap.size + 1) l _ W (hbel.trans (hW.mono (by omega))) (kc hW (by omega) hB1) hc)
      (fun E pre W => InvT w w.heap.size 29 (fun _ => .int .i64 0) E pre W ∧ ∀ t ∈ pre, t.rightW = 0) (fun E pre W => InvT w w.heap.size 29 (fun _ => .int .i64 (fe (sidesOf l))) E pre W ∧ fe (sidesOf l) ≠ 0) ((InvT.abide _ _ _ _).and (Abide.pure _)) ((InvT.abide _ _ _ _).and (Abide.pure _))
      ⟨⟨hB0, by simp, by simp, hbel⟩, by simp⟩ (by omega) (fun _ _ _ h r hr => (h.1.low r hr).2)
      (fun p sl a' W => ∃ Bx, W.heap[Bx]? = some (.cells [Value.int .i64 p.v, .string p.fn, sl].toArray 26 (0, 0)) ∧ a' = { tmps := #[.slice a l.length c, undef, .pointer (some ⟨w.heap.size, 0, none⟩), .pointer (some ⟨Bx, 0, none⟩), undef, .slice a l.length c, .int .i64 l.length, .bool false, .slice a l.length c, .func (.func 69) #[] #[.pointer (some ⟨w.heap.size + 1, 0, none⟩)], tval p sl, undef, undef, undef, undef, undef, undef, undef, undef], defers := [] })
      ?hax ?assign ?body ?done ?stop
    case hax =>
      rintro p sl a' W l r o ⟨Bx, hbx, rfl⟩ hl
      refine ⟨Bx, (World.putObj_heap_other ?_).trans hbx, rfl⟩
      rintro rfl
      rw [hbx] at hl
      cases hl
    case assign =>
      rintro lx p sl W K hsl hK
      obtain ⟨sa, sc, rfl, _, _⟩ := hsl.slice
      gi_wp2
      refine hK _ _ (below_box W _) ⟨W.heap.size, (MapKept.heap_alloc W _).1, ?_⟩
      simp
    case body =>
      rintro lx E pre p sl a' W ⟨hi, hall⟩ hl hw hsl ⟨rest, hrest⟩ ⟨Bx, hbx, rfl⟩
      have hps : Short p := hsh p (by rw [← hrest]; simp)
      have haw := ArgsAt.keep hw (Nat.le_refl _) hsl
      have hcl := tright_any p sl W haw hps
      have x0 : W.cell? ⟨Bx, 0, none⟩ = some (.int .i64 p.v) := by rw [cell_of_row _ _ _ _ 26 (0, 0) hbx]; rfl
      have x1 : W.cell? ⟨Bx, 1, none⟩ = some (.string p.fn) := by rw [cell_of_row _ _ _ _ 26 (0, 0) hbx]; rfl
      have x2 : W.cell? ⟨Bx, 2, none⟩ = some sl := by rw [cell_of_row _ _ _ _ 26 (0, 0) hbx]; rfl
      obtain ⟨sa, sc, rfl, _, _⟩ := hsl.slice
      have HI : Hid (InvT w w.heap.size 29 (fun _ => .int .i64 0) E pre W) := hi
      by_cases hp : p.rightW = 0
      · have hpb : (p.rightW != 0) = false := by rw [bne_eq_false_iff_eq]; exact hp
        have HA : Hid (∀ t ∈ pre ++ [p], t.rightW = 0) := fun t ht => by
          rcases List.mem_append.1 ht with h | h
          · exact hall t h
          · simp at h; rw [h]; exact hp
        clear hp hi hall hw haw hrest hps hbx hsh hc hB0 hB1 hbel HE
        gi_wp2_with (refine ⟨trivial, ?_⟩; gi_at_call 37; refine (CallsIn.inRound lx (callsIn_wide.2 hcl)).mono ?_; rintro e w1 ⟨rfl, hb1⟩)
        obtain ⟨k1, h1⟩ := HI.out.grow hb1
        exact ⟨k1, ⟨h1.box, h1.out, h1.low, h1.bel⟩, HA.out⟩
      · have hpb : (p.rightW != 0) = true := by rw [bne_iff_ne]; exact hp
        have HF : Hid (fe (sidesOf l) = p.rightW ∧ p.rightW ≠ 0) := ⟨by rw [← hrest]; exact fe_app hall p rest hp, hp⟩
        clear hp hi hall hw haw hrest hps hbx hsh hc hB0 hB1 hbel HE
        gi_wp2_with (refine ⟨trivial, ?_⟩; gi_at_call 37; refine (CallsIn.inRound lx (callsIn_wide.2 hcl)).mono ?_; rintro e w1 ⟨rfl, hb1⟩; obtain ⟨k1, h1⟩ := HI.out.grow hb1; have c1 := h1.box.cell; have f1 := h1.box.frozen)
        obtain ⟨k2, h2⟩ := h1.store (Nat.le_refl _) (fun _ => .int .i64 p.rightW) (pre ++ [p])
        rw [HF.out.1]
        exact ⟨k1.trans k2, h2, HF.out.2⟩
    case done =>
      rintro D E W hD ⟨hi, hall⟩ hDE hK
      have h0 : fe (sidesOf l) = 0 := fe_zero.2 hall
      have HG : Hid (crightW l = if 4000 < wrap64 (csize l) then 3 else 0) := by
        show _ = _
        rw [HE.out, h0, if_neg (by simp)]
      have hls := lsize_any l (.slice a l.length c) W (hc.keep hi.bel) hsh
      have fin : Hid (∀ w1, Below W.heap.size W w1 → ∀ r : Int, (w1.cell? ⟨w.heap.size, 0, none⟩ = some (.int .i64 0) ∧ w1.frozen? ⟨w.heap.size, 0, none⟩ = false) ∧ (w1.setCell ⟨w.heap.size, 0, none⟩ (.int .i64 r)).heap[D]? = some (.deferred (some [])) ∧ ((w1.setCell ⟨w.heap.size, 0, none⟩ (.int .i64 r)).putObj D (.deferred none)).cell? ⟨w.heap.size, 0, none⟩ = some (.int .i64 r) ∧ Below w.heap.size w ((w1.setCell ⟨w.heap.size, 0, none⟩ (.int .i64 r)).putObj D (.deferred none))) := fun w1 hb1 r => by
        obtain ⟨k1, h1⟩ := hi.grow hb1
        obtain ⟨k2, h2⟩ := h1.store (Nat.le_refl _) (fun _ => .int .i64 r) []
        have hne : D ≠ w.heap.size := by omega
        have hb2 : Boxed ((w1.setCell ⟨w.heap.size, 0, none⟩ (.int .i64 r)).putObj D (.deferred none)) w.heap.size 29 (.int .i64 r) := (World.putObj_heap_other (by omega)).trans h2.box
        exact ⟨⟨h1.box.cell, h1.box.frozen⟩, ((k1.trans k2).mine D hDE).trans hK, hb2.cell, h2.bel.trans ⟨rfl, rfl, rfl, by simp, fun k hk => World.putObj_heap_other (by omega)⟩⟩
      clear hi hall hDE hK h0 HE hsh hc hB0 hB1 hbel
      generalize wrap64 (csize l) = z at *
      by_cases hz : 4000 < z
      · have Hr : Hid (crightW l = 3) := by show _ = _; rw [HG.out, if_pos hz]
        gi_wp2_with (refine ⟨trivial, ?_⟩; gi_at_call 10; refine (callsIn_wide.2 hls).mono ?_; rintro e w1 ⟨rfl, hb1⟩; obtain ⟨⟨c1, f1⟩, g1, g2, g3⟩ := fin.out w1 hb1 3)
        refine ⟨by simp, .inl ⟨_, _, rfl, run_takeDeferred g1, ?_⟩⟩
        refine ⟨_, by simp [results, Try.results8, go_sem, g2]; rfl, ?_, g3⟩
        exact ret_i64 Hr.out.symm
      · have Hr : Hid (crightW l = 0) := by show _ = _; rw [HG.out, if_neg hz]
        gi_wp2_with (refine ⟨trivial, ?_⟩; gi_at_call 10; refine (callsIn_wide.2 hls).mono ?_; rintro e w1 ⟨rfl, hb1⟩; obtain ⟨⟨c1, f1⟩, g1, g2, g3⟩ := fin.out w1 hb1 0)
        refine ⟨by simp, .inl ⟨_, _, rfl, run_takeDeferred g1, ?_⟩⟩
        refine ⟨_, by simp [results, Try.results8, go_sem, g2]; rfl, ?_, g3⟩
        exact ret_i64 Hr.out.symm
    case stop =>
      rintro D E pre W hD ⟨hi, hne⟩ hDE hK
      have Hr : Hid (crightW l = fe (sidesOf l)) := by show _ = _; rw [HE.out, if_pos hne]
      have hb2 : Boxed (W.putObj D (.deferred none)) w.heap.size 29 (.int .i64 (fe (sidesOf l))) := (World.putObj_heap_other (by omega)).trans hi.box
      have g2 := hb2.cell
      have g3 : Below w.heap.size w (W.putObj D (.deferred none)) := hi.bel.trans ⟨rfl, rfl, rfl, by simp, fun k hk => World.putObj_heap_other (by omega)⟩
      gi_wp2
      refine ⟨by simp, .inl ⟨_, _, rfl, run_takeDeferred hK, ?_⟩⟩
      refine ⟨_, by simp [results, Try.results8, go_sem, g2]; rfl, ?_, g3⟩
      exact ret_i64 Hr.out.symm

end Go.Proofs.Ytgnjgpplelakkaa
