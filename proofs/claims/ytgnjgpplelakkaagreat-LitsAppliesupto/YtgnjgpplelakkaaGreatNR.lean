/-
  term.Vars.
-/
import Derived.Test.YtgnjgpplelakkaaGreatNQ
import Derived.Test.YtgnjgpplelakkaaGreatL
namespace Go.Proofs.YtgnjgpplelakkaaGreat
open Go.RowKit Go.Shelf

attribute [local go_sem] Oper.semAt_some

/-- What a loop over the parts collects in a list whose slice lies in one box. -/
structure RInv (w : World) (B : Nat) (ty e : TypeId) (rel : List Part → List Value → Prop) (E : List Nat) (pre : List Part) (v : Value) (cs : List Value) (W : World) : Prop where
  box : Boxed W B ty v
  row : W.ownsRow w.heap.size e 1 v cs.length cs
  say : rel pre cs
  out : B ∉ E
  mine : ∀ g, v.ownBlock = some g → g ∉ E
  low : ∀ r ∈ E, w.heap.size ≤ r ∧ r < W.heap.size
  bel : Below w.heap.size w W

abbrev RInvE (w : World) (B : Nat) (ty e : TypeId) (rel : List Part → List Value → Prop) (E : List Nat) (pre : List Part) (W : World) : Prop := ∃ v cs, RInv w B ty e rel E pre v cs W

section
variable {w : World} {B : Nat} {ty e : TypeId} {rel : List Part → List Value → Prop}

theorem RInv.abide : Abide (RInvE w B ty e rel) := by
  rintro E E' s W W' row ⟨v, cs, h⟩ hg hr hE
  have hlt := h.box.lt
  refine ⟨v, cs, h.box.kept hg (fun e => h.out (hr B e.symm)), h.row.kept hg ?_, h.say, fun hb => ?_, fun g hgv hge => ?_, fun r hr' => ?_, h.bel.trans ⟨hg.os, hg.tape, hg.output, hg.size, fun k hk => hg.block k (Nat.lt_of_lt_of_le hk h.bel.size) (fun e => by have := h.low k (hr k e.symm); omega)⟩⟩
  · cases ho : v.ownBlock with
    | none => exact .inl rfl
    | some g => exact .inr fun e => h.mine g ho (hr g e.symm)
  · rcases hE B hb with hb | hb
    · exact h.out hb
    · omega
  · have := (h.row.lt g hgv).2
    rcases hE g hge with h' | h'
    · exact h.mine g hgv h'
    · omega
  · rcases hE r hr' with h' | h'
    · exact ⟨(h.low r h').1, Nat.lt_of_lt_of_le (h.low r h').2 hg.size⟩
    · exact ⟨Nat.le_trans h.bel.size h'.1, h'.2⟩

variable {E : List Nat} {pre : List Part} {v : Value} {cs : List Value} {W W' : World}

theorem RInv.grow (h : RInv w B ty e rel E pre v cs W) (hb : Below W.heap.size W W') : Kept w.heap.size E W W' ∧ RInv w B ty e rel E pre v cs W' := by
  have hg : W.grownBy W' none := ⟨hb.os, hb.tape, hb.output, hb.size, fun k hk _ => hb.block k hk⟩
  exact ⟨⟨hb.mono h.bel.size, fun r hr => hb.block r (h.low r hr).2⟩, ⟨(hb.block B h.box.lt).trans h.box, h.row.kept hg (by cases v.ownBlock <;> simp), h.say, h.out, h.mine, fun r hr => ⟨(h.low r hr).1, Nat.lt_of_lt_of_le (h.low r hr).2 hb.size⟩, h.bel.trans (hb.mono h.bel.size)⟩⟩

/-- Behind an append and the store of what it gave. -/
theorem RInv.push (h : RInv w B ty e rel E pre v cs W) (hte : ty ≠ e) (hB : w.heap.size ≤ B) (x : Value) (v' : Value) (w1 : World) (hown : w1.ownsRow w.heap.size e 1 v' (cs.length + 1) (cs ++ [x])) (hg : W.grownBy w1 v.ownBlock) (hat : v'.ownBlock = v.ownBlock ∨ v'.ownBlock = some W.heap.size) (pre' : List Part) (hs : rel pre' (cs ++ [x])) :
    (w1.cell? ⟨B, 0, none⟩ = some v ∧ w1.frozen? ⟨B, 0, none⟩ = false) ∧ Kept w.heap.size E W (w1.setCell ⟨B, 0, none⟩ v') ∧ RInv w B ty e rel E pre' v' (cs ++ [x]) (w1.setCell ⟨B, 0, none⟩ v') := by
  have hnb := h.box.not_row hte h.row
  have p1 := h.box.kept hg hnb
  have g2 := grownBy_setCell' w1 B v'
  have b1 : Below w.heap.size W w1 := ⟨hg.os, hg.tape, hg.output, hg.size, fun i hi => hg.block i (Nat.lt_of_lt_of_le hi h.bel.size) fun e => by
    have := (h.row.lt i e.symm).1
    omega⟩
  have b2 : Below w.heap.size w1 (w1.setCell ⟨B, 0, none⟩ v') := (Below.refl _ _).setCell (p := ⟨B, 0, none⟩) hB _
  have hne : v'.ownBlock = none ∨ v'.ownBlock ≠ some B := .inr fun e => p1.not_row hte hown e.symm
  refine ⟨⟨p1.cell, p1.frozen⟩, ⟨b1.trans b2, fun r hr => ?_⟩, ⟨p1.set v', ?_, hs, h.out, fun g hgv hge => ?_, fun r hr => ⟨(h.low r hr).1, ?_⟩, h.bel.trans (b1.trans b2)⟩⟩
  · have hlt := (h.low r hr).2
    have e1 : w1.heap[r]? = W.heap[r]? := hg.block r hlt (fun e => h.mine r e.symm hr)
    exact (g2.block r (Nat.lt_of_lt_of_le hlt hg.size) (fun e => h.out (Option.some.inj e ▸ hr))).trans e1
  · have := hown.kept g2 hne
    rw [List.length_append, List.length_singleton]
    exact this
  · rcases hat with h1 | h1
    · exact h.mine g (h1 ▸ hgv) hge
    · rw [h1] at hgv
      cases hgv
      have := (h.low _ hge).2
      omega
  · have := (h.low r hr).2
    have := hg.size
    have := g2.size
    omega
end

/-- What Vars has collected. -/
def VRel (pre : List Part) (cs : List Value) : Prop := cs = (pvs pre).map (Value.int .i64)

theorem RInv.same {w : World} {B : Nat} {ty e : TypeId} {rel : List Part → List Value → Prop} {E : List Nat} {pre pre' : List Part} {v : Value} {cs : List Value} {W : World} (h : RInv w B ty e rel E pre v cs W) (hs : rel pre' cs) : RInv w B ty e rel E pre' v cs W :=
  ⟨h.box, h.row, hs, h.out, h.mine, h.low, h.bel⟩

theorem row_put {W : World} {b : Nat} {e : TypeId} {s : Nat} {v : Value} {n : Nat} {xs : List Value} {D : Nat} {d : Option (List Deferred)} {o : Obj} (h : W.ownsRow b e s v n xs) (hD : W.heap[D]? = some (.deferred d)) : (W.putObj D o).ownsRow b e s v n xs := by
  refine h.kept (row := some D) ⟨rfl, rfl, rfl, by simp, fun k hk hne => World.putObj_heap_other (fun e => hne (by rw [e]))⟩ ?_
  rcases h.2 with ⟨rfl, _⟩ | ⟨g, cap, cur, rfl, _, hg, _⟩
  · exact .inl rfl
  · refine .inr fun e => ?_
    have e' : some g = some D := e
    cases e'
    rw [hg] at hD
    cases hD

set_option maxRecDepth 100000 in
set_option maxHeartbeats 4000000 in
theorem tvars_any (t : T) (sl : Value) (w : World) (ha : ArgsAt w sl t.args) (hlen : Short t) (hbig : (t.parts []).length ≤ 1048576) :
    Calls Tryz.prog 48 #[tval t sl] w fun e w' => ∃ v k, e = .returned v ∧ w'.ownsRow w.heap.size 3 1 v k ((t.vs.foldl wth []).map (Value.int .i64)) ∧ Below w.heap.size w w' := by
  refine (callsIn_wide (n := 9)).1 ?_
  obtain ⟨a, c, rfl, hc, hm⟩ := ha.slice
  obtain ⟨W0, hW0⟩ : ∃ W0, ((w.alloc (tbox t (.slice a t.args.length c))).alloc (.cells #[.slice none 0 0] 72)).alloc (tbox t (.slice a t.args.length c)) = W0 := ⟨_, rfl⟩
  have hsz : W0.heap.size = w.heap.size + 3 := by rw [← hW0]; simp
  have hbel : Below w.heap.size w W0 := by rw [← hW0]; exact (((Below.refl _ _).alloc (Nat.le_refl _) _).alloc (by simp) _).alloc (by simp; omega) _
  have hB1 : Boxed W0 (w.heap.size + 1) 72 (.slice none 0 0) := by
    have := (Boxed.new (w.alloc (tbox t (.slice a t.args.length c))) 72 (.slice none 0 0)).alloc (tbox t (.slice a t.args.length c))
    rw [World.size_alloc] at this
    rw [← hW0]
    exact this
  have hB2 : W0.heap[w.heap.size + 1 + 1]? = some (.cells [Value.int .i64 t.v, .string t.fn, .slice a t.args.length c].toArray 28 (0, 0)) := by
    have := (MapKept.heap_alloc ((w.alloc (tbox t (.slice a t.args.length c))).alloc (.cells #[.slice none 0 0] 72)) (tbox t (.slice a t.args.length c))).1
    rw [World.size_alloc, World.size_alloc] at this
    rw [← hW0]
    exact this
  refine callsIn_of_wp_marks Tryz.func48 rfl trivial ?_ rfl
  simp only [Tryz.ntmps48, List.size_toArray, List.length_cons, List.length_nil, Nat.reduceAdd, Nat.reduceSub, Array.replicate_succ, Array.replicate_zero, List.push_toArray, List.append_toArray, List.nil_append, List.cons_append]
  gi_wp2_with (refine ⟨trivial, ?_⟩; gi_at_call 63; refine (callsIn_wide.2 (parts_any _ _ _)).mono ?_; rintro e w' ⟨rfl, rfl⟩)
  try rw [hW0]
  clear hW0
  obtain ⟨i0, hi, hz0, hz1, hz2⟩ := info_parts Tryz.info3
  refine range_ownA (n := W0.heap.size) (w0 := w) (all := t.parts []) (gf := 85) (lb := #[.pointer (some ⟨w.heap.size + 1 + 1, 0, none⟩)]) 9 rfl (enters_of Tryz.func85 (by kernel_rfl) rfl) rfl
    (fun W hW => iter_any w W0.heap.size (w.heap.size + 1 + 1) t _ W (hbel.trans (hW.mono (by omega))) (by omega) hW.size ((hW.block _ (by omega)).trans hB2) ha hlen)
    (RInvE w (w.heap.size + 1) 72 3 VRel) (fun _ _ _ => False) RInv.abide (fun _ _ _ _ _ _ h => h.elim)
    ⟨_, [], hB1, World.ownsRow_nil _ _ _ _, rfl, by simp, (fun g e => by cases e), by simp, hbel⟩ (by omega) (fun _ _ _ h r hr => by obtain ⟨v, cs, h⟩ := h; exact (h.low r hr).2)
    (fun p x y a' W => ∃ Bx, W.heap[Bx]? = some (.cells [Value.int .i64 p.v, .string p.fn, y].toArray 28 (0, 0)) ∧ a' = { tmps := #[tval t (.slice a t.args.length c), .pointer (some ⟨w.heap.size, 0, none⟩), .slice none 0 0, .pointer (some ⟨w.heap.size + 1, 0, none⟩), undef, .pointer (some ⟨Bx, 0, none⟩), .agg #[.int .i64 t.v, .string t.fn, .slice a t.args.length c], .func (.func 85) #[] #[.pointer (some ⟨w.heap.size + 1 + 1, 0, none⟩)], x, tval p y, undef, undef, undef, undef, undef, undef, undef, undef, undef, undef, undef], defers := [] })
    ?hax ?assign ?body ?done ?stop
  case hax =>
    rintro p x y a' W l r o ⟨Bx, hbx, rfl⟩ hl
    refine ⟨Bx, (World.putObj_heap_other ?_).trans hbx, rfl⟩
    rintro rfl
    rw [hbx] at hl
    cases hl
  case assign =>
    rintro l p pv sl W K ⟨pa, pn, pc, rfl⟩ ⟨sa, sn, sc, rfl⟩ hK
    gi_wp2
    refine hK _ _ (below_box W _) ⟨W.heap.size, (MapKept.heap_alloc W _).1, ?_⟩
    simp
  case body =>
    rintro l E pre pl p pv sl a' W ⟨v, cs, hi1⟩ hl hw hpv hsl ⟨rest, hrest⟩ ⟨Bx, hbx, rfl⟩
    obtain ⟨pa, pc, rfl⟩ := hpv.shape
    obtain ⟨sa, sc, rfl, _, _⟩ := hsl.slice
    have hcs : cs.length < 1048576 := by
      have h1 := congrArg List.length hrest
      have h2 : cs = (pvs pre).map (Value.int .i64) := hi1.say
      have h3 := pvs_len pre
      rw [h2, List.length_map]
      simp at h1
      omega
    have x0 : W.cell? ⟨Bx, 0, none⟩ = some (.int .i64 p.v) := by rw [cell_of_row _ _ _ _ 28 (0, 0) hbx]; rfl
    have x1 : W.cell? ⟨Bx, 1, none⟩ = some (.string p.fn) := by rw [cell_of_row _ _ _ _ 28 (0, 0) hbx]; rfl
    have x2 : W.cell? ⟨Bx, 2, none⟩ = some (.slice sa p.args.length sc) := by rw [cell_of_row _ _ _ _ 28 (0, 0) hbx]; rfl
    have hbl : Bx < W.heap.size := (Array.getElem?_eq_some_iff.1 hbx).1
    have hcall := isVar_any p (.slice sa p.args.length sc) W ⟨_, _, _, rfl⟩
    have hsn := pvs_snoc pre (pl, p)
    have hb1 := below_box W (tbox p (.slice sa p.args.length sc))
    obtain ⟨k1, j1⟩ := hi1.grow hb1
    clear hlen hrest hbx hB1 hB2 hbel ha hsl hpv
    cases hps : p.isVar
    · rw [hps] at hcall
      have Hs : Hid (VRel (pre ++ [(pl, p)]) cs) := by
        show _ = _
        have h2 : cs = (pvs pre).map (Value.int .i64) := hi1.say
        rw [hsn, h2]
        simp [hps]
      clear hps hsn
      have HF : Hid (Kept w.heap.size E W (W.alloc (tbox p (.slice sa p.args.length sc))) ∧ RInvE w (w.heap.size + 1) 72 3 VRel E (pre ++ [(pl, p)]) (W.alloc (tbox p (.slice sa p.args.length sc)))) := ⟨k1, _, _, j1.same Hs⟩
      clear k1 j1 hi1 Hs
      gi_wp2_with (refine ⟨trivial, ?_⟩; gi_at_call 74; refine (CallsIn.inRound l (callsIn_wide.2 hcall)).mono ?_; rintro e w1 ⟨rfl, rfl⟩)
      exact HF
    · rw [hps] at hcall
      have Hs : Hid (VRel (pre ++ [(pl, p)]) (cs ++ [.int .i64 p.v])) := by
        show _ = _
        have h2 : cs = (pvs pre).map (Value.int .i64) := hi1.say
        rw [hsn, h2]
        simp [hps]
      clear hps hsn
      obtain ⟨W1, hW1⟩ : ∃ W1, W.alloc (tbox p (.slice sa p.args.length sc)) = W1 := ⟨_, rfl⟩
      rw [hW1] at hcall hb1 k1 j1
      have y0 := kc hb1 hbl x0
      obtain ⟨k2, j2⟩ := j1.grow (below_box W1 (.cells #[.int .i64 p.v] 3))
      have d0 := j1.box.cell
      obtain ⟨ka, kb, rfl⟩ := row_form hi1.row
      have hrow2 := j2.row
      have hsz2 := j2.bel.size
      obtain ⟨n, hn⟩ : ∃ n, cs.length = n := ⟨_, rfl⟩
      rw [hn] at hcs d0 hrow2
      have fin : ∀ v' w3, w3.ownsRow w.heap.size 3 1 v' (n + 1) (cs ++ [.int .i64 p.v]) → (W1.alloc (.cells #[.int .i64 p.v] 3)).grownBy w3 (Value.slice ka n kb).ownBlock → (v'.ownBlock = (Value.slice ka n kb).ownBlock ∨ v'.ownBlock = some (W1.alloc (.cells #[.int .i64 p.v] 3)).heap.size) →
          (w3.cell? ⟨w.heap.size + 1, 0, none⟩ = some (.slice ka n kb) ∧ w3.frozen? ⟨w.heap.size + 1, 0, none⟩ = false) ∧ Hid (Kept w.heap.size E W (w3.setCell ⟨w.heap.size + 1, 0, none⟩ v') ∧ RInvE w (w.heap.size + 1) 72 3 VRel E (pre ++ [(pl, p)]) (w3.setCell ⟨w.heap.size + 1, 0, none⟩ v')) := by
        intro v' w3 hown hg hat
        rw [← hn] at hown hg hat ⊢
        obtain ⟨hcf, k3, h3⟩ := j2.push (by decide) (by omega) _ v' w3 hown hg hat (pre ++ [(pl, p)]) Hs
        exact ⟨hcf, k1.trans (k2.trans k3), _, _, h3⟩
      clear hW1 k1 k2 j1 j2 hi1 hn hb1 Hs
      gi_wp2_with (first
        | (gi_at_builtin; refine wpListIn_append_own_at _ rfl _ _ 72 rfl w.heap.size 3 i0 (.int .i64 0) 1 8 Tryz.underlying72 hi hz0 hz1 hz2 rfl (by decide) _ _ _ rfl hrow2 ⟨w1.heap.size, 0, none⟩ 1 1 [.int .i64 p.v] rfl rfl (cell_one_new _ _ _) (by simp [Value.oneCell']) (by unfold maxLen; omega) (by omega) hsz2 ?_; intro v' w3 hown hg _ hat; obtain ⟨⟨f1, f2⟩, HF⟩ := fin v' w3 hown hg hat; obtain ⟨g', cap', rfl⟩ := ownsRow_succ hown; clear hown hg hat)
        | (refine ⟨trivial, ?_⟩; gi_at_call 74; refine (CallsIn.inRound l (callsIn_wide.2 hcall)).mono ?_; rintro e w1 ⟨rfl, rfl⟩))
      exact HF
  case done =>
    rintro D E W hD ⟨v, cs, hi1⟩ hDE hK
    have hsay : cs = (pvs (t.parts [])).map (Value.int .i64) := hi1.say
    rw [vs_parts t []] at hsay
    have hvl : t.vs.length ≤ 1048576 := by
      have := pvs_len (t.parts [])
      rw [vs_parts t []] at this
      omega
    have hrow := hi1.row
    rw [hsay, List.length_map] at hrow
    have hs := sort_own w.heap.size v t.vs.length t.vs W hrow hvl
    have hmid : ∀ W2 : World, W.grownBy W2 v.ownBlock → Boxed W2 (w.heap.size + 1) 72 v ∧ W2.heap[D]? = some (.deferred (some [])) ∧ Below w.heap.size w W2 := by
      intro W2 hg
      refine ⟨hi1.box.kept hg (hi1.box.not_row (by decide) hi1.row), (hg.block D (hi1.low D hDE).2 (fun e => hi1.mine D e.symm hDE)).trans hK, hi1.bel.trans ⟨hg.os, hg.tape, hg.output, hg.size, fun k hk => hg.block k (Nat.lt_of_lt_of_le hk hi1.bel.size) (fun e => by have := (hi1.row.lt k e.symm).1; omega)⟩⟩
    have hc0 := hi1.box.cell
    have hcp : ∀ W2 : World, W2.ownsRow w.heap.size 3 1 v t.vs.length ((t.vs.mergeSort fun x y => decide (x ≤ y)).map (Value.int .i64)) → Calls Tryz.prog 76 #[v] W2 fun e w' => ∃ v' k', e = .returned v' ∧ w'.ownsRow w.heap.size 3 1 v' k' ((t.vs.foldl wth []).map (Value.int .i64)) ∧ W2.grownBy w' v.ownBlock := by
      intro W2 h2
      have := compact_own w.heap.size v t.vs.length _ W2 h2 hvl
      rwa [sorted_same] at this
    obtain ⟨pa, pc, rfl⟩ := row_form hrow
    obtain ⟨n, hn⟩ : ∃ n, t.vs.length = n := ⟨_, rfl⟩
    rw [hn] at hs hmid hc0 hcp
    clear hrow hsay hi1 hvl hlen hB1 hB2 hbel ha hn
    gi_wp2_with (first
      | (refine ⟨trivial, ?_⟩; gi_at_call 76; refine (callsIn_wide.2 (hcp _ HS.out.1)).mono ?_; rintro e w3 ⟨v3, k3, rfl, hr3, hg3⟩; obtain ⟨pa3, pc3, rfl⟩ := row_form hr3; have H3 : Hid (w3.ownsRow w.heap.size 3 1 (.slice pa3 k3 pc3) k3 ((t.vs.foldl wth []).map (Value.int .i64)) ∧ w3.heap[D]? = some (.deferred (some [])) ∧ Below w.heap.size w w3) := ⟨hr3, (hmid w3 (HS.out.2.trans hg3)).2⟩; clear hr3 hg3)
      | (refine ⟨trivial, ?_⟩; gi_at_call 75; refine (callsIn_wide.2 hs).mono ?_; rintro e w2 ⟨rfl, hr2, hg2⟩; have c2 := (hmid w2 hg2).1.cell; have HS : Hid (w2.ownsRow w.heap.size 3 1 (.slice pa n pc) n ((t.vs.mergeSort fun x y => decide (x ≤ y)).map (Value.int .i64)) ∧ W.grownBy w2 (Value.slice pa n pc).ownBlock) := ⟨hr2, hg2⟩; clear hr2 hg2))
    refine ⟨by simp, .inl ⟨_, _, rfl, run_takeDeferred H3.out.2.1, ?_⟩⟩
    refine ⟨_, results_tmp rfl _ _ _, _, k3, rfl, ?_, H3.out.2.2.trans ⟨rfl, rfl, rfl, by simp, fun k hk => World.putObj_heap_other (by omega)⟩⟩
    exact row_put H3.out.1 H3.out.2.1
  case stop =>
    rintro D E pre W _ h
    exact h.elim

end Go.Proofs.YtgnjgpplelakkaaGreat
