/-
  lits.Size.
-/
import Derived.Test.YtgnjgpplelakkaaMD
import Derived.Test.YtgnjgpplelakkaaL
namespace Go.Proofs.Ytgnjgpplelakkaa
open Go.RowKit Go.Shelf

attribute [local go_sem] Oper.semAt_some

/-- What a loop over terms keeps in one box. -/
structure InvT (w : World) (B : Nat) (ty : TypeId) (val : List T → Value) (E : List Nat) (pre : List T) (W : World) : Prop where
  box : Boxed W B ty (val pre)
  out : B ∉ E
  low : ∀ r ∈ E, w.heap.size ≤ r ∧ r < W.heap.size
  bel : Below w.heap.size w W

theorem InvT.abide (w : World) (B : Nat) (ty : TypeId) (val : List T → Value) : Abide (InvT w B ty val) := by
  intro E E' s W W' row h hg hr hE
  have hlt := h.box.lt
  refine ⟨h.box.kept hg (fun e => h.out (hr B e.symm)), fun hb => ?_, fun r hr' => ?_, h.bel.trans ⟨hg.os, hg.tape, hg.output, hg.size, fun k hk => hg.block k (Nat.lt_of_lt_of_le hk h.bel.size) (fun e => by have := h.low k (hr k e.symm); omega)⟩⟩
  · rcases hE B hb with hb | hb
    · exact h.out hb
    · omega
  · rcases hE r hr' with h' | h'
    · exact ⟨(h.low r h').1, Nat.lt_of_lt_of_le (h.low r h').2 hg.size⟩
    · exact ⟨Nat.le_trans h.bel.size h'.1, h'.2⟩

theorem InvT.grow {w : World} {B : Nat} {ty : TypeId} {val : List T → Value} {E : List Nat} {pre : List T} {W W' : World} (h : InvT w B ty val E pre W) (hb : Below W.heap.size W W') : Kept w.heap.size E W W' ∧ InvT w B ty val E pre W' :=
  ⟨⟨hb.mono h.bel.size, fun r hr => hb.block r (h.low r hr).2⟩, (hb.block B h.box.lt).trans h.box, h.out, fun r hr => ⟨(h.low r hr).1, Nat.lt_of_lt_of_le (h.low r hr).2 hb.size⟩, h.bel.trans (hb.mono h.bel.size)⟩

theorem InvT.store {w : World} {B : Nat} {ty : TypeId} {val : List T → Value} {E : List Nat} {pre : List T} {W : World} (h : InvT w B ty val E pre W) (hB : w.heap.size ≤ B) (val' : List T → Value) (s : List T) : Kept w.heap.size E W (W.setCell ⟨B, 0, none⟩ (val' s)) ∧ InvT w B ty val' E s (W.setCell ⟨B, 0, none⟩ (val' s)) := by
  have hb : Below w.heap.size W (W.setCell ⟨B, 0, none⟩ (val' s)) := (Below.refl _ _).setCell (p := ⟨B, 0, none⟩) hB _
  have g := grownBy_setCell' W B (val' s)
  refine ⟨⟨hb, fun r hr => ?_⟩, ⟨h.box.set (val' s), h.out, fun r hr => ⟨(h.low r hr).1, Nat.lt_of_lt_of_le (h.low r hr).2 g.size⟩, h.bel.trans hb⟩⟩
  by_cases hlt : r < W.heap.size
  · exact g.block r hlt (fun e => h.out (Option.some.inj e ▸ hr))
  · have h2 : (W.setCell ⟨B, 0, none⟩ (val' s)).heap.size = W.heap.size := by simp
    rw [Array.getElem?_eq_none (by omega), Array.getElem?_eq_none (by omega)]

theorem wrapK (x : Int) : IntKind.i64.wrap x = wrap64 x := by
  first | rfl | (rw [IntKind.wrap_i64]; simp only [wrap64]; done) | (rw [IntKind.wrap_i64]; simp only [wrap64]; omega)

def sumT (l : List T) : Int := (l.map T.size).sum
theorem sumT_snoc (l : List T) (t : T) : wrap64 (wrap64 (sumT l) + wrap64 t.size) = wrap64 (sumT (l ++ [t])) := by
  rw [wrap64_add]
  unfold sumT
  rw [List.map_append, List.sum_append]
  simp
theorem sumT_sides (l : List Lt) : sumT (sidesOf l) = csize l := by
  induction l with
  | nil => rfl
  | cons x r ih =>
    have e : sidesOf (x :: r) = x.l :: x.r :: sidesOf r := rfl
    have e2 : csize (x :: r) = x.l.size + x.r.size + csize r := by simp [csize]
    rw [e, e2, ← ih]
    simp [sumT]
    omega

set_option maxRecDepth 100000 in
set_option maxHeartbeats 4000000 in
theorem lsize_any (l : List Lt) (v : Value) (w : World) (hc : ClauseAt w v l) (hsh : ∀ t ∈ sidesOf l, Short t) :
    Calls Try.prog 10 #[v] w fun e w' => e = .returned (.int .i64 (wrap64 (csize l))) ∧ Below w.heap.size w w' := by
  refine (callsIn_wide (n := 9)).1 ?_
  obtain ⟨a, c, rfl⟩ := hc.slice
  obtain ⟨W0, hW0⟩ : ∃ W0, (w.alloc (.cells #[.int .i64 0] 3)).alloc (.cells #[.slice a l.length c] 23) = W0 := ⟨_, rfl⟩
  have hsz : W0.heap.size = w.heap.size + 2 := by rw [← hW0]; simp
  have hbel : Below w.heap.size w W0 := by rw [← hW0]; exact below_box2 w _ _
  have hB0 : Boxed W0 w.heap.size 3 (.int .i64 0) := by
    have := (Boxed.new w 3 (.int .i64 0)).alloc (.cells #[.slice a l.length c] 23)
    rw [← hW0]
    exact this
  have hB1 : W0.cell? ⟨w.heap.size + 1, 0, none⟩ = some (.slice a l.length c) := by
    have := (MapKept.heap_alloc (w.alloc (.cells #[.int .i64 0] 3)) (.cells #[.slice a l.length c] 23)).1
    rw [World.size_alloc] at this
    rw [← hW0]
    simp only [World.cell?]
    rw [this]
    rfl
  have hR : Hid (wrap64 (sumT (sidesOf l)) = wrap64 (csize l)) := by show _ = _; rw [sumT_sides]
  refine callsIn_of_wp_marks Try.func10 rfl trivial ?_ rfl
  simp only [Try.ntmps10, List.size_toArray, List.length_cons, List.length_nil, Nat.reduceAdd, Nat.reduceSub, Array.replicate_succ, Array.replicate_zero, List.push_toArray, List.append_toArray, List.nil_append, List.cons_append]
  gi_wp2_with (refine ⟨trivial, ?_⟩; gi_at_call 36; refine (callsIn_wide.2 (terms_any _ _ _ _)).mono ?_; rintro e w' ⟨rfl, rfl⟩)
  try simp only [World.size_alloc]
  try rw [hW0]
  clear hW0
  refine range_t (w0 := w) (all := sidesOf l) (gf := 69) (lb := #[.pointer (some ⟨w.heap.size + 1, 0, none⟩)]) 9 rfl (enters_of Try.func69 (by kernel_rfl) rfl) rfl
    (fun W hW => terms1_any w (w.heap.size + 1) l _ W (hbel.trans (hW.mono (by omega))) (kc hW (by omega) hB1) hc)
    (InvT w w.heap.size 3 (fun pre => .int .i64 (wrap64 (sumT pre)))) (fun _ _ _ => False) (InvT.abide _ _ _ _) (fun _ _ _ _ _ _ h => h.elim)
    ⟨by simpa [wrap64, sumT] using hB0, by simp, by simp, hbel⟩ (by omega) (fun _ _ _ h r hr => (h.low r hr).2)
    (fun p sl a' W => ∃ Bx, W.heap[Bx]? = some (.cells [Value.int .i64 p.v, .string p.fn, sl].toArray 26 (0, 0)) ∧ a' = { tmps := #[.slice a l.length c, undef, .int .i64 0, .pointer (some ⟨w.heap.size, 0, none⟩), .pointer (some ⟨Bx, 0, none⟩), .slice a l.length c, .func (.func 69) #[] #[.pointer (some ⟨w.heap.size + 1, 0, none⟩)], tval p sl, undef, undef, undef, undef, undef], defers := [] })
    ?hax ?assign ?body ?done ?stop
  case hax =>
    rintro p sl a' W l r o ⟨Bx, hbx, rfl⟩ hl
    refine ⟨Bx, (World.putObj_heap_other ?_).trans hbx, rfl⟩
    rintro rfl
    rw [hbx] at hl
    cases hl
  case assign =>
    rintro lx p sl W K hsl hK
    obtain ⟨sa, sc, rfl, _, _⟩ := hsl.slice
    gi_wp2
    refine hK _ _ (below_box W _) ⟨W.heap.size, (MapKept.heap_alloc W _).1, ?_⟩
    simp
  case body =>
    rintro lx E pre p sl a' W hi hl hw hsl ⟨rest, hrest⟩ ⟨Bx, hbx, rfl⟩
    have hps : Short p := hsh p (by rw [← hrest]; simp)
    have haw := ArgsAt.keep hw (Nat.le_refl _) hsl
    have hdr : Below W.heap.size W W.drew := (Below.refl _ W).drew
    have hcl := tsize_any p sl W.drew (ArgsAt.keep hdr (Nat.le_refl _) haw) hps
    have hcell := hi.box.cell
    have x0 : W.cell? ⟨Bx, 0, none⟩ = some (.int .i64 p.v) := by rw [cell_of_row _ _ _ _ 26 (0, 0) hbx]; rfl
    have x1 : W.cell? ⟨Bx, 1, none⟩ = some (.string p.fn) := by rw [cell_of_row _ _ _ _ 26 (0, 0) hbx]; rfl
    have x2 : W.cell? ⟨Bx, 2, none⟩ = some sl := by rw [cell_of_row _ _ _ _ 26 (0, 0) hbx]; rfl
    have fin : ∀ w1, Below W.drew.heap.size W.drew w1 → (w1.cell? ⟨w.heap.size, 0, none⟩ = some (.int .i64 (wrap64 (sumT pre))) ∧ w1.frozen? ⟨w.heap.size, 0, none⟩ = false) ∧ Kept w.heap.size E W (w1.setCell ⟨w.heap.size, 0, none⟩ (.int .i64 (wrap64 (wrap64 (sumT pre) + wrap64 p.size)))) ∧ InvT w w.heap.size 3 (fun pre => .int .i64 (wrap64 (sumT pre))) E (pre ++ [p]) (w1.setCell ⟨w.heap.size, 0, none⟩ (.int .i64 (wrap64 (wrap64 (sumT pre) + wrap64 p.size)))) := by
      intro w1 hb1
      obtain ⟨k1, h1⟩ := hi.grow (hdr.trans hb1)
      obtain ⟨k2, h2⟩ := h1.store (Nat.le_refl _) (fun pre => .int .i64 (wrap64 (sumT pre))) (pre ++ [p])
      rw [sumT_snoc]
      exact ⟨⟨h1.box.cell, h1.box.frozen⟩, k1.trans k2, h2⟩
    have HFN : Hid (∀ w1, Below W.drew.heap.size W.drew w1 → (w1.cell? ⟨w.heap.size, 0, none⟩ = some (.int .i64 (wrap64 (sumT pre))) ∧ w1.frozen? ⟨w.heap.size, 0, none⟩ = false) ∧ Kept w.heap.size E W (w1.setCell ⟨w.heap.size, 0, none⟩ (.int .i64 (wrap64 (wrap64 (sumT pre) + wrap64 p.size)))) ∧ InvT w w.heap.size 3 (fun pre => .int .i64 (wrap64 (sumT pre))) E (pre ++ [p]) (w1.setCell ⟨w.heap.size, 0, none⟩ (.int .i64 (wrap64 (wrap64 (sumT pre) + wrap64 p.size))))) := fin
    obtain ⟨sa, sc, rfl, _, _⟩ := hsl.slice
    clear fin hi haw hw hrest hps hbx
    gi_wp2
    refine wpIn_region_any (by kernel_rfl) ?_
    try (change wpAnyIn _ _ _ _ _ _ _ _ _ (World.drew _))
    refine wpAnyIn_ready (rs := [0, 1]) (by kernel_rfl) (by simp) ?_
    refine AllReadyIn.cons rfl (fun K hK => ?_) ?_
    · go_simp
      refine hK _ _ ?_
      clear hK K
      refine wpAnyIn_ready (rs := [1]) (by kernel_rfl) (by simp) ?_
      refine AllReadyIn.cons rfl (fun K hK => ?_) AllReadyIn.nil
      go_simp
      refine hK _ _ ?_
      clear hK K
      refine wpAnyIn_ready (rs := [2]) (by kernel_rfl) (by simp) ?_
      refine AllReadyIn.cons rfl (fun K hK => ?_) AllReadyIn.nil
      go_simp
      refine ⟨trivial, (CallsIn.inRound lx (callsIn_wide.2 hcl)).mono ?_⟩
      rintro e w1 ⟨rfl, hb1⟩
      obtain ⟨⟨f1, f2⟩, kk, ii⟩ := HFN.out w1 hb1
      refine hK _ _ ?_
      clear hK K
      refine wpAnyIn_ready (rs := [3]) (by kernel_rfl) (by simp) ?_
      refine AllReadyIn.cons rfl (fun K hK => ?_) AllReadyIn.nil
      go_simp
      refine hK _ _ ?_
      clear hK K
      refine wpAnyIn_ready (rs := [4]) (by kernel_rfl) (by simp) ?_
      refine AllReadyIn.cons rfl (fun K hK => ?_) AllReadyIn.nil
      go_simp
      refine hK _ _ ?_
      clear hK K
      refine wpAnyIn_done (by kernel_rfl) ?_ _
      rw [wrapK]
      exact ⟨kk, ii⟩
    refine AllReadyIn.cons rfl (fun K hK => ?_) AllReadyIn.nil
    go_simp
    refine hK _ _ ?_
    clear hK K
    refine wpAnyIn_ready (rs := [0, 2]) (by kernel_rfl) (by simp) ?_
    refine AllReadyIn.cons rfl (fun K hK => ?_) ?_
    · go_simp
      refine hK _ _ ?_
      clear hK K
      refine wpAnyIn_ready (rs := [2]) (by kernel_rfl) (by simp) ?_
      refine AllReadyIn.cons rfl (fun K hK => ?_) AllReadyIn.nil
      go_simp
      refine ⟨trivial, (CallsIn.inRound lx (callsIn_wide.2 hcl)).mono ?_⟩
      rintro e w1 ⟨rfl, hb1⟩
      obtain ⟨⟨f1, f2⟩, kk, ii⟩ := HFN.out w1 hb1
      refine hK _ _ ?_
      clear hK K
      refine wpAnyIn_ready (rs := [3]) (by kernel_rfl) (by simp) ?_
      refine AllReadyIn.cons rfl (fun K hK => ?_) AllReadyIn.nil
      go_simp
      refine hK _ _ ?_
      clear hK K
      refine wpAnyIn_ready (rs := [4]) (by kernel_rfl) (by simp) ?_
      refine AllReadyIn.cons rfl (fun K hK => ?_) AllReadyIn.nil
      go_simp
      refine hK _ _ ?_
      clear hK K
      refine wpAnyIn_done (by kernel_rfl) ?_ _
      rw [wrapK]
      exact ⟨kk, ii⟩
    refine AllReadyIn.cons rfl (fun K hK => ?_) AllReadyIn.nil
    go_simp
    refine ⟨trivial, (CallsIn.inRound lx (callsIn_wide.2 hcl)).mono ?_⟩
    rintro e w1 ⟨rfl, hb1⟩
    obtain ⟨⟨f1, f2⟩, kk, ii⟩ := HFN.out w1 hb1
    refine hK _ _ ?_
    clear hK K
    refine wpAnyIn_ready (rs := [0]) (by kernel_rfl) (by simp) ?_
    refine AllReadyIn.cons rfl (fun K hK => ?_) AllReadyIn.nil
    go_simp
    refine hK _ _ ?_
    clear hK K
    refine wpAnyIn_ready (rs := [3]) (by kernel_rfl) (by simp) ?_
    refine AllReadyIn.cons rfl (fun K hK => ?_) AllReadyIn.nil
    go_simp
    refine hK _ _ ?_
    clear hK K
    refine wpAnyIn_ready (rs := [4]) (by kernel_rfl) (by simp) ?_
    refine AllReadyIn.cons rfl (fun K hK => ?_) AllReadyIn.nil
    go_simp
    refine hK _ _ ?_
    clear hK K
    refine wpAnyIn_done (by kernel_rfl) ?_ _
    rw [wrapK]
    exact ⟨kk, ii⟩
  case done =>
    rintro D E W hD hi hDE hK
    have hcd := hi.box.cell
    gi_wp2
    refine ⟨by simp, .inl ⟨_, _, rfl, run_takeDeferred hK, ?_⟩⟩
    refine ⟨_, results_tmp rfl _ _ _, ?_, hi.bel.trans ⟨rfl, rfl, rfl, by simp, fun k hk => World.putObj_heap_other (by omega)⟩⟩
    show Ending.returned (Value.int .i64 (wrap64 (sumT (sidesOf l)))) = _
    exact ret_i64 hR
  case stop =>
    rintro D E pre W _ h
    exact h.elim

end Go.Proofs.Ytgnjgpplelakkaa
