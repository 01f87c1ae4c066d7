/-
  term.isVar, shaped, Right.
-/
import Derived.Test.YtijihmncbaoklaaGreatK
namespace Go.Proofs.YtijihmncbaoklaaGreat
open Go.RowKit Go.Shelf

attribute [local go_sem] Oper.semAt_some

def T.isVar (t : T) : Bool := decide (t.fn.size = 0)

set_option maxHeartbeats 400000 in
theorem isVar_any (t : T) (sl : Value) (w : World) (hs : ∃ a n c, sl = .slice a n c) :
    Calls Tryz.prog 80 #[tval t sl] w fun e w' => e = .returned (.bool t.isVar) ∧ w' = w.alloc (tbox t sl) := by
  obtain ⟨a, n, c, rfl⟩ := hs
  go_enter Tryz.func80, Tryz.ntmps80
  go_wp2
  go_ret
  refine ⟨ret_bool ?_, rfl⟩
  unfold T.isVar
  rw [← ba_isEmpty]

/-- Has the part, its arguments aside, a right shape? -/
def T.shaped (t : T) : Bool := if t.fn.size = 0 then decide (0 ≤ t.v) && decide (t.v < 1000000) && decide (t.args.length = 0) else decide (t.v = 0) && decide (t.fn.size ≤ 64) && decide (t.args.length ≤ 16)

set_option maxHeartbeats 1000000 in
theorem shaped_any (t : T) (a : Option Addr) (c : Nat) (w : World) :
    Calls Tryz.prog 51 #[tval t (.slice a t.args.length c)] w fun e w' => e = .returned (.bool t.shaped) ∧ Below w.heap.size w w' := by
  have b0 := below_box w (tbox t (.slice a t.args.length c))
  have hb2 : Below w.heap.size w ((w.alloc (tbox t (.slice a t.args.length c))).alloc (tbox t (.slice a t.args.length c))) := below_box2 w _ _
  by_cases h0 : t.fn.size = 0
  · have HS : Hid (t.shaped = (decide (0 ≤ t.v) && decide (t.v < 1000000) && decide (t.args.length = 0))) := by show t.shaped = _; unfold T.shaped; rw [if_pos h0]
    have hd : t.isVar = true := by unfold T.isVar; simpa using h0
    clear h0
    go_enter Tryz.func51, Tryz.ntmps51
    go_wp2_with (go_at_call 80; refine (isVar_any t _ _ ⟨_, _, _, rfl⟩).mono ?_; rintro e w' ⟨rfl, rfl⟩)
    all_goals go_ret
    all_goals refine ⟨ret_bool ?_, hb2⟩
    all_goals rw [HS]
    all_goals first | (simp; omega) | (simp; done) | simp [*, int_len0]
  · have HS : Hid (t.shaped = (decide (t.v = 0) && decide (t.fn.size ≤ 64) && decide (t.args.length ≤ 16))) := by show t.shaped = _; unfold T.shaped; rw [if_neg h0]
    have hd : t.isVar = false := by unfold T.isVar; simpa using h0
    clear h0
    by_cases hv : t.v = 0
    · have hvb : (t.v == 0) = true := by simpa using hv
      have HV : Hid (t.v = 0) := hv
      clear hv
      go_enter Tryz.func51, Tryz.ntmps51
      go_wp2_with (go_at_call 80; refine (isVar_any t _ _ ⟨_, _, _, rfl⟩).mono ?_; rintro e w' ⟨rfl, rfl⟩)
      all_goals go_ret
      all_goals refine ⟨ret_bool ?_, hb2⟩
      all_goals rw [HS, show t.v = 0 from HV]
      all_goals first | (simp; omega) | (simp; done) | (rw [decide_eq_true (show t.fn.size ≤ 64 by omega)]; simp; omega) | (simp [*]; omega)
    · have hvb : (t.v == 0) = false := by simpa using hv
      go_enter Tryz.func51, Tryz.ntmps51
      go_wp2_with (go_at_call 80; refine (isVar_any t _ _ ⟨_, _, _, rfl⟩).mono ?_; rintro e w' ⟨rfl, rfl⟩)
      all_goals go_ret
      all_goals refine ⟨ret_bool ?_, hb2⟩
      all_goals rw [HS]
      all_goals simp [hv]

theorem shape_parts (t : T) : ∀ pl, t.shape = (t.parts pl).all (fun q => q.2.shaped) := by
  induction t using T.ind with
  | _ t ih =>
    intro pl
    have h : ∀ (l : List T) (i : Nat), (∀ a ∈ l, a ∈ t.args) → (T.parts.kids l pl i).all (fun q => q.2.shaped) = l.all T.shape := by
      intro l
      induction l with
      | nil => intro i _; rfl
      | cons a r ihl =>
        intro i hm
        simp only [T.parts.kids, List.all_append, List.all_cons]
        rw [← ih a (hm a (by simp)), ihl (i + 1) (fun b hb => hm b (by simp [hb]))]
    rw [t.parts_eq, List.all_cons, h t.args 0 (fun _ h => h), t.shape_eq]
    unfold T.shaped
    simp only
    by_cases h0 : t.fn.size = 0
    · rw [if_pos h0, if_pos h0]
      by_cases hl : t.args.length = 0
      · rw [List.length_eq_zero_iff.1 hl]
        simp
      · simp [hl]
    · rw [if_neg h0, if_neg h0]

theorem Abide.and {γ : Type} {I I' : List Nat → γ → World → Prop} (h : Abide I) (h' : Abide I') : Abide (fun E s W => I E s W ∧ I' E s W) := fun E E' s W W' row hs hg hr hE => ⟨h E E' s W W' row hs.1 hg hr hE, h' E E' s W W' row hs.2 hg hr hE⟩
theorem Abide.pure {γ : Type} (p : γ → Prop) : Abide (fun (_ : List Nat) s (_ : World) => p s) := fun _ _ _ _ _ _ hs _ _ _ => hs

section
variable {w : World} {B : Nat} {ty : TypeId} {val : List Part → Value} {E : List Nat} {pre : List Part} {W W' : World}

/-- New blocks alone. -/
theorem Inv.grow (h : Inv w B ty val E pre W) (hb : Below W.heap.size W W') : Kept w.heap.size E W W' ∧ Inv w B ty val E pre W' := by
  refine ⟨⟨hb.mono h.bel.size, fun r hr => hb.block r (h.low r hr).2⟩, ⟨(hb.block B h.box.lt).trans h.box, h.out, fun r hr => ⟨(h.low r hr).1, Nat.lt_of_lt_of_le (h.low r hr).2 hb.size⟩, h.bel.trans (hb.mono h.bel.size)⟩⟩
/-- A store into another box. -/
theorem Inv.other (h : Inv w B ty val E pre W) {B' : Nat} (hne : B ≠ B') (hB : w.heap.size ≤ B') (v : Value) : Inv w B ty val E pre (W.setCell ⟨B', 0, none⟩ v) := by
  have g := grownBy_setCell' W B' v
  exact ⟨h.box.kept g (fun e => hne (Option.some.inj e)), h.out, fun r hr => ⟨(h.low r hr).1, Nat.lt_of_lt_of_le (h.low r hr).2 g.size⟩, h.bel.trans ((Below.refl _ _).setCell (p := ⟨B', 0, none⟩) hB _)⟩
theorem Inv.same (h : Inv w B ty val E pre W) {pre' : List Part} (e : val pre' = val pre) : Inv w B ty val E pre' W := ⟨by rw [e]; exact h.box, h.out, h.low, h.bel⟩
end

/-- All have a right shape. -/
def AllShaped (pre : List Part) : Prop := pre.all (fun q => q.2.shaped) = true

set_option maxRecDepth 100000 in
set_option maxHeartbeats 4000000 in
theorem tright_any (t : T) (sl : Value) (w : World) (ha : ArgsAt w sl t.args) (hlen : Short t) :
    Calls Tryz.prog 27 #[tval t sl] w fun e w' => e = .returned (.int .i64 t.rightW) ∧ Below w.heap.size w w' := by
  refine (callsIn_wide (n := 9)).1 ?_
  obtain ⟨a, c, rfl, hc, hm⟩ := ha.slice
  obtain ⟨W0, hW0⟩ : ∃ W0, ((((w.alloc (tbox t (.slice a t.args.length c))).alloc (.cells #[.int .i64 0] 36)).alloc (.cells #[.int .i64 0] 3)).alloc (.cells #[.int .i64 0] 3)).alloc (tbox t (.slice a t.args.length c)) = W0 := ⟨_, rfl⟩
  have hsz : W0.heap.size = w.heap.size + 5 := by rw [← hW0]; simp
  have hbel : Below w.heap.size w W0 := by rw [← hW0]; exact (((((Below.refl _ _).alloc (Nat.le_refl _) _).alloc (by simp) _).alloc (by simp; omega) _).alloc (by simp; omega) _).alloc (by simp; omega) _
  have hB1 : Boxed W0 (w.heap.size + 1) 36 (.int .i64 0) := by
    have := (((Boxed.new (w.alloc (tbox t (.slice a t.args.length c))) 36 (.int .i64 0)).alloc (.cells #[.int .i64 0] 3)).alloc (.cells #[.int .i64 0] 3)).alloc (tbox t (.slice a t.args.length c))
    rw [World.size_alloc] at this
    rw [← hW0]
    exact this
  have hB2 : Boxed W0 (w.heap.size + 1 + 1) 3 (.int .i64 0) := by
    have := ((Boxed.new ((w.alloc (tbox t (.slice a t.args.length c))).alloc (.cells #[.int .i64 0] 36)) 3 (.int .i64 0)).alloc (.cells #[.int .i64 0] 3)).alloc (tbox t (.slice a t.args.length c))
    rw [World.size_alloc, World.size_alloc] at this
    rw [← hW0]
    exact this
  have hB3 : Boxed W0 (w.heap.size + 1 + 1 + 1) 3 (.int .i64 0) := by
    have := (Boxed.new (((w.alloc (tbox t (.slice a t.args.length c))).alloc (.cells #[.int .i64 0] 36)).alloc (.cells #[.int .i64 0] 3)) 3 (.int .i64 0)).alloc (tbox t (.slice a t.args.length c))
    rw [World.size_alloc, World.size_alloc, World.size_alloc] at this
    rw [← hW0]
    exact this
  have hB4 : W0.heap[w.heap.size + 1 + 1 + 1 + 1]? = some (.cells [Value.int .i64 t.v, .string t.fn, .slice a t.args.length c].toArray 32 (0, 0)) := by
    have := (MapKept.heap_alloc ((((w.alloc (tbox t (.slice a t.args.length c))).alloc (.cells #[.int .i64 0] 36)).alloc (.cells #[.int .i64 0] 3)).alloc (.cells #[.int .i64 0] 3)) (tbox t (.slice a t.args.length c))).1
    rw [World.size_alloc, World.size_alloc, World.size_alloc, World.size_alloc] at this
    rw [← hW0]
    exact this
  have hR : Hid (dm (t.parts []) = t.depth ∧ ((t.parts []).length : Int) = t.size ∧ t.shape = (t.parts []).all (fun q => q.2.shaped) ∧ t.depthW = t.depth) := by
    refine ⟨dm_parts t, size_parts t [], shape_parts t [], depthW_small t ?_⟩
    have := (dm_ge (t.parts [])).2 hlen
    rw [dm_parts t] at this
    omega
  refine callsIn_of_wp_marks Tryz.func27 rfl trivial ?_ rfl
  simp only [Tryz.ntmps27, List.size_toArray, List.length_cons, List.length_nil, Nat.reduceAdd, Nat.reduceSub, Array.replicate_succ, Array.replicate_zero, List.push_toArray, List.append_toArray, List.nil_append, List.cons_append]
  gi_wp2_with (refine ⟨trivial, ?_⟩; gi_at_call 50; refine (callsIn_wide.2 (parts_any _ _ _)).mono ?_; rintro e w' ⟨rfl, rfl⟩)
  try rw [hW0]
  clear hW0
  refine range_ownA (n := W0.heap.size) (w0 := w) (all := t.parts []) (gf := 78) (lb := #[.pointer (some ⟨w.heap.size + 1 + 1 + 1 + 1, 0, none⟩)]) 9 rfl (enters_of Tryz.func78 (by kernel_rfl) rfl) rfl
    (fun W hW => iter_any w W0.heap.size (w.heap.size + 1 + 1 + 1 + 1) t _ W (hbel.trans (hW.mono (by omega))) (by omega) hW.size ((hW.block _ (by omega)).trans hB4) ha hlen)
    (fun E pre W => ((Inv w (w.heap.size + 1) 36 (fun _ => .int .i64 0) E pre W ∧ Inv w (w.heap.size + 1 + 1) 3 (fun pre => .int .i64 (wrap64 pre.length)) E pre W) ∧ Inv w (w.heap.size + 1 + 1 + 1) 3 (fun pre => .int .i64 (dm pre)) E pre W) ∧ AllShaped pre)
    (fun E pre W => Inv w (w.heap.size + 1) 36 (fun _ => .int .i64 1) E pre W ∧ t.shape = false)
    ((((Inv.abide _ _ _ _).and (Inv.abide _ _ _ _)).and (Inv.abide _ _ _ _)).and (Abide.pure _)) ((Inv.abide _ _ _ _).and (Abide.pure _))
    ⟨⟨⟨⟨hB1, by simp, by simp, hbel⟩, ⟨by simpa [wrap64] using hB2, by simp, by simp, hbel⟩⟩, ⟨hB3, by simp, by simp, hbel⟩⟩, rfl⟩ (by omega) (fun _ _ _ h r hr => (h.1.1.1.low r hr).2)
    (fun p x y a' W => ∃ Bx, W.heap[Bx]? = some (.cells [Value.int .i64 p.v, .string p.fn, y].toArray 32 (0, 0)) ∧ a' = { tmps := #[tval t (.slice a t.args.length c), .pointer (some ⟨w.heap.size, 0, none⟩), .pointer (some ⟨w.heap.size + 1, 0, none⟩), .pointer (some ⟨w.heap.size + 1 + 1, 0, none⟩), .pointer (some ⟨w.heap.size + 1 + 1 + 1, 0, none⟩), x, .pointer (some ⟨Bx, 0, none⟩), .agg #[.int .i64 t.v, .string t.fn, .slice a t.args.length c], .func (.func 78) #[] #[.pointer (some ⟨w.heap.size + 1 + 1 + 1 + 1, 0, none⟩)], x, tval p y, undef, undef, undef, undef, undef, undef, undef, undef, undef, undef, undef, undef, undef, undef, undef, undef], defers := [] })
    ?hax ?assign ?body ?done ?stop
  case hax =>
    rintro p x y a' W l r o ⟨Bx, hbx, rfl⟩ hl
    refine ⟨Bx, (World.putObj_heap_other ?_).trans hbx, rfl⟩
    rintro rfl
    rw [hbx] at hl
    cases hl
  case assign =>
    rintro l p pv sl W K ⟨pa, pn, pc, rfl⟩ ⟨sa, sn, sc, rfl⟩ hK
    gi_wp2
    refine hK _ _ (below_box W _) ⟨W.heap.size, (MapKept.heap_alloc W _).1, ?_⟩
    simp
  case body =>
    rintro l E pre pl p pv sl a' W ⟨⟨⟨i1, i2⟩, i3⟩, hall⟩ hl hw hpv hsl ⟨rest, hrest⟩ ⟨Bx, hbx, rfl⟩
    obtain ⟨pa, pc, rfl⟩ := hpv.shape
    obtain ⟨sa, sc, rfl, _, _⟩ := hsl.slice
    have hpl : pl.length ≤ 1048576 := hlen (pl, p) (by rw [← hrest]; simp)
    obtain ⟨d1, d2⟩ := dm_ge pre
    have d3 := d2 (fun q hq => hlen q (by rw [← hrest]; simp [hq]))
    have hsh : p.shaped = false → t.shape = false := fun h => by
      rw [hR.2.2.1, ← hrest, List.all_append, List.all_cons]
      simp [h]
    have x0 : W.cell? ⟨Bx, 0, none⟩ = some (.int .i64 p.v) := by rw [cell_of_row _ _ _ _ 32 (0, 0) hbx]; rfl
    have x1 : W.cell? ⟨Bx, 1, none⟩ = some (.string p.fn) := by rw [cell_of_row _ _ _ _ 32 (0, 0) hbx]; rfl
    have x2 : W.cell? ⟨Bx, 2, none⟩ = some (.slice sa p.args.length sc) := by rw [cell_of_row _ _ _ _ 32 (0, 0) hbx]; rfl
    have hcall := shaped_any p sa sc W
    clear d2 hlen hrest hbx hB1 hB2 hB3 hB4 hbel ha
    cases hps : p.shaped
    · rw [hps] at hcall
      have Hs : Hid (t.shape = false) := hsh hps
      clear hsh hps
      gi_wp2_with (refine ⟨trivial, ?_⟩; gi_at_call 51; refine (CallsIn.inRound l (callsIn_wide.2 hcall)).mono ?_; rintro e w1 ⟨rfl, hb1⟩; obtain ⟨k1, j1⟩ := i1.grow hb1; have c1 := j1.box.cell; have f1 := j1.box.frozen)
      obtain ⟨k2, j2⟩ := j1.store (by omega) (.int .i64 1)
      have k3 : Kept w.heap.size E W (w1.setCell ⟨w.heap.size + 1, 0, none⟩ (.int .i64 1)) := k1.trans k2
      exact ⟨k3, ⟨j1.box.set _, j1.out, fun r hr => ⟨(j1.low r hr).1, by have := (j1.low r hr).2; simpa using this⟩, i1.bel.trans k3.below⟩, Hs⟩
    · rw [hps] at hcall
      have Hall : AllShaped (pre ++ [(pl, p)]) := by
        unfold AllShaped at hall ⊢
        rw [List.all_append, hall]
        simp [hps]
      clear hsh hps hall
      gi_wp2_with (refine ⟨trivial, ?_⟩; gi_at_call 51; refine (CallsIn.inRound l (callsIn_wide.2 hcall)).mono ?_; rintro e w1 ⟨rfl, hb1⟩; obtain ⟨k1, j1⟩ := i1.grow hb1; obtain ⟨_, j2⟩ := i2.grow hb1; obtain ⟨_, j3⟩ := i3.grow hb1; have c2 := j2.box.cell; have f2 := j2.box.frozen; have c3 := j3.box.cell; have f3 := j3.box.frozen)
      all_goals
        have es := cnt_step pre (pl, p)
        have ed := dm_snoc pre (pl, p)
        obtain ⟨k2, s2⟩ := j2.store (by omega) (.int .i64 (wrap64 (wrap64 (pre.length : Int) + 1)))
        have t2 := s2 (pre ++ [(pl, p)]) (by rw [es])
        have t1 := j1.other (B' := w.heap.size + 1 + 1) (by omega) (by omega) (.int .i64 (wrap64 (wrap64 (pre.length : Int) + 1)))
        have t3 := j3.other (B' := w.heap.size + 1 + 1) (by omega) (by omega) (.int .i64 (wrap64 (wrap64 (pre.length : Int) + 1)))
      · have ev : dm (pre ++ [(pl, p)]) = (pl.length : Int) + 1 := by rw [ed]; simp only; omega
        obtain ⟨k3, s3⟩ := t3.store (by omega) (.int .i64 ((pl.length : Int) + 1))
        exact ⟨k1.trans (k2.trans k3), ⟨⟨(t1.other (by omega) (by omega) _).same rfl, t2.other (by omega) (by omega) _⟩, s3 _ (by rw [ev])⟩, Hall⟩
      · have ev : dm (pre ++ [(pl, p)]) = dm pre := by rw [ed]; simp only; omega
        obtain ⟨k3, s3⟩ := t3.store (by omega) (.int .i64 (dm pre))
        exact ⟨k1.trans (k2.trans k3), ⟨⟨(t1.other (by omega) (by omega) _).same rfl, t2.other (by omega) (by omega) _⟩, s3 _ (by rw [ev])⟩, Hall⟩
  case done =>
    rintro D E W hD ⟨⟨⟨i1, i2⟩, i3⟩, hall⟩ hDE hK
    have hsh : t.shape = true := hR.2.2.1.trans hall
    have hdv := hR.1
    have hsv := hR.2.1
    have hW := hR.2.2.2
    have c1 := i1.box.cell
    have f1 := i1.box.frozen
    have c2 := i2.box.cell
    have c3 := i3.box.cell
    rw [hdv] at c3
    rw [hsv] at c2
    have fin : ∀ v : Int, v = t.rightW → (W.setCell ⟨w.heap.size + 1, 0, none⟩ (.int .i64 v)).heap[D]? = some (.deferred (some [])) ∧ ((W.setCell ⟨w.heap.size + 1, 0, none⟩ (.int .i64 v)).putObj D (.deferred none)).cell? ⟨w.heap.size + 1, 0, none⟩ = some (.int .i64 v) ∧ Below w.heap.size w ((W.setCell ⟨w.heap.size + 1, 0, none⟩ (.int .i64 v)).putObj D (.deferred none)) := fun v _ => by
      obtain ⟨k1, _⟩ := i1.store (by omega) (.int .i64 v)
      have hb := i1.box.set (.int .i64 v)
      have hb2 : Boxed ((W.setCell ⟨w.heap.size + 1, 0, none⟩ (.int .i64 v)).putObj D (.deferred none)) (w.heap.size + 1) 36 (.int .i64 v) := (World.putObj_heap_other (by omega)).trans hb
      exact ⟨(k1.mine D hDE).trans hK, hb2.cell, i1.bel.trans (k1.below.trans ⟨rfl, rfl, rfl, by simp, fun k hk => World.putObj_heap_other (by omega)⟩)⟩
    clear hlen hB1 hB2 hB3 hB4 hbel ha hDE hall hdv hsv hR hK
    by_cases hd : 60 < t.depth
    · have Hr : Hid (t.rightW = 22) := by show t.rightW = _; unfold T.rightW; rw [if_neg (by simp [hsh]), if_pos (by rw [hW]; exact hd)]
      obtain ⟨g1, g2, g3⟩ := fin 22 Hr.symm
      clear hsh hW fin
      gi_wp2
      refine ⟨by simp, .inl ⟨_, _, rfl, run_takeDeferred g1, ?_⟩⟩
      refine ⟨_, by simp [results, Tryz.results27, go_sem, g2]; rfl, ?_, g3⟩
      exact ret_i64 Hr.symm
    · by_cases hz : 4000 < wrap64 t.size
      · have Hr : Hid (t.rightW = 3) := by show t.rightW = _; unfold T.rightW; rw [if_neg (by simp [hsh]), if_neg (by rw [hW]; exact hd), if_pos hz]
        obtain ⟨g1, g2, g3⟩ := fin 3 Hr.symm
        clear hsh hW fin
        gi_wp2
        refine ⟨by simp, .inl ⟨_, _, rfl, run_takeDeferred g1, ?_⟩⟩
        refine ⟨_, by simp [results, Tryz.results27, go_sem, g2]; rfl, ?_, g3⟩
        exact ret_i64 Hr.symm
      · have Hr : Hid (t.rightW = 0) := by show t.rightW = _; unfold T.rightW; rw [if_neg (by simp [hsh]), if_neg (by rw [hW]; exact hd), if_neg hz]
        obtain ⟨g1, g2, g3⟩ := fin 0 Hr.symm
        clear hsh hW fin
        gi_wp2
        refine ⟨by simp, .inl ⟨_, _, rfl, run_takeDeferred g1, ?_⟩⟩
        refine ⟨_, by simp [results, Tryz.results27, go_sem, g2]; rfl, ?_, g3⟩
        exact ret_i64 Hr.symm
  case stop =>
    rintro D E pre W hD ⟨i1, hsh⟩ hDE hK
    have Hr : Hid (t.rightW = 1) := by show t.rightW = _; unfold T.rightW; rw [if_pos hsh]
    have hb2 : Boxed (W.putObj D (.deferred none)) (w.heap.size + 1) 36 (.int .i64 1) := (World.putObj_heap_other (by omega)).trans i1.box
    have g2 := hb2.cell
    have g3 : Below w.heap.size w (W.putObj D (.deferred none)) := i1.bel.trans ⟨rfl, rfl, rfl, by simp, fun k hk => World.putObj_heap_other (by omega)⟩
    gi_wp2
    refine ⟨by simp, .inl ⟨_, _, rfl, run_takeDeferred hK, ?_⟩⟩
    refine ⟨_, by simp [results, Tryz.results27, go_sem, g2]; rfl, ?_, g3⟩
    exact ret_i64 Hr.symm

end Go.Proofs.YtijihmncbaoklaaGreat
