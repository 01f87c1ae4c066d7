import Derived.Test.YtglphfhlpobgcaaGreatK
import Derived.Test.YtglphfhlpobgcaaGreatMD
import Derived.Test.YtglphfhlpobgcaaGreatL

/-
  term.Size, term.Depth.
-/
namespace Go.Proofs.YtglphfhlpobgcaaGreat
open Go.RowKit Go.Shelf

attribute [local go_sem] Oper.semAt_some

set_option maxRecDepth 100000 in
set_option maxHeartbeats 2000000 in
theorem tsize_any (t : T) (sl : Value) (w : World) (ha : ArgsAt w sl t.args) (hlen : ∀ q ∈ t.parts [], q.1.length ≤ 1048576) :
    Calls Tryz.prog 144 #[tval t sl] w fun e w' => e = .returned (.int .i64 (wrap64 t.size)) ∧ Below w.heap.size w w' := by
  refine (callsIn_wide (n := 9)).1 ?_
  obtain ⟨a, c, rfl, hc, hm⟩ := ha.slice
  obtain ⟨W0, hW0⟩ : ∃ W0, ((w.alloc (tbox t (.slice a t.args.length c))).alloc (.cells #[.int .i64 0] 3)).alloc (tbox t (.slice a t.args.length c)) = W0 := ⟨_, rfl⟩
  have hsz : W0.heap.size = w.heap.size + 3 := by rw [← hW0]; simp
  have hbel : Below w.heap.size w W0 := by rw [← hW0]; exact (((Below.refl _ _).alloc (Nat.le_refl _) _).alloc (by simp) _).alloc (by simp; omega) _
  have hB1 : Boxed W0 (w.heap.size + 1) 3 (.int .i64 0) := by
    have := (Boxed.new (w.alloc (tbox t (.slice a t.args.length c))) 3 (.int .i64 0)).alloc (tbox t (.slice a t.args.length c))
    rw [World.size_alloc] at this
    rw [← hW0]
    exact this
  have hB2 : W0.heap[w.heap.size + 1 + 1]? = some (.cells [Value.int .i64 t.v, .string t.fn, .slice a t.args.length c].toArray 30 (0, 0)) := by
    have := (MapKept.heap_alloc ((w.alloc (tbox t (.slice a t.args.length c))).alloc (.cells #[.int .i64 0] 3)) (tbox t (.slice a t.args.length c))).1
    rw [World.size_alloc, World.size_alloc] at this
    rw [← hW0]
    exact this
  have hR : Hid (wrap64 ((t.parts []).length : Int) = wrap64 t.size) := by show wrap64 _ = _; rw [size_parts]
  refine callsIn_of_wp_marks Tryz.func144 rfl trivial ?_ rfl
  simp only [Tryz.ntmps144, List.size_toArray, List.length_cons, List.length_nil, Nat.reduceAdd, Nat.reduceSub, Array.replicate_succ, Array.replicate_zero, List.push_toArray, List.append_toArray, List.nil_append, List.cons_append]
  gi_wp2_with (refine ⟨trivial, ?_⟩; gi_at_call 57; refine (callsIn_wide.2 (parts_any _ _ _)).mono ?_; rintro e w' ⟨rfl, rfl⟩)
  try rw [hW0]
  clear hW0
  refine range_own (n := W0.heap.size) (w0 := w) (all := t.parts []) (gf := 99) (lb := #[.pointer (some ⟨w.heap.size + 1 + 1, 0, none⟩)]) 9 rfl (enters_of Tryz.func99 (by kernel_rfl) rfl) rfl
    (fun W hW => iter_any w W0.heap.size (w.heap.size + 1 + 1) t _ W (hbel.trans (hW.mono (by omega))) (by omega) hW.size ((hW.block _ (by omega)).trans hB2) ha hlen)
    (Inv w (w.heap.size + 1) 3 (fun pre => .int .i64 (wrap64 pre.length))) (fun _ _ _ => False) (Inv.abide _ _ _ _) (fun _ _ _ _ _ _ h => h.elim)
    ⟨by simpa [wrap64] using hB1, by simp, by simp, hbel⟩ (by omega) (fun _ _ _ h r hr => (h.low r hr).2)
    (fun x y => { tmps := #[tval t (.slice a t.args.length c), .pointer (some ⟨w.heap.size, 0, none⟩), .int .i64 0, .pointer (some ⟨w.heap.size + 1, 0, none⟩), .agg #[.int .i64 t.v, .string t.fn, .slice a t.args.length c], .func (.func 99) #[] #[.pointer (some ⟨w.heap.size + 1 + 1, 0, none⟩)], x, y, undef, undef, undef], defers := [] }) ?assign ?body ?done ?stop
  case assign =>
    intro l x y W K hK
    gi_wp2
    simpa using hK
  case body =>
    rintro l E pre pl p pv sl W hi hl hw hpv hsl hrest
    have hc := hi.box.cell
    have hf := hi.box.frozen
    gi_wp2
    obtain ⟨h1, h2⟩ := hi.store (by omega) (.int .i64 (wrap64 (wrap64 (pre.length : Int) + 1)))
    exact ⟨h1, h2 _ (by rw [cnt_step])⟩
  case done =>
    rintro D E W hD hi hDE hK
    have hc := hi.box.cell
    gi_wp2
    refine ⟨by simp, .inl ⟨_, _, rfl, run_takeDeferred hK, ?_⟩⟩
    refine ⟨_, results_tmp rfl _ _ _, ?_, hi.bel.trans ⟨rfl, rfl, rfl, by simp, fun k hk => World.putObj_heap_other (by omega)⟩⟩
    show Ending.returned (Value.int .i64 (wrap64 ((t.parts []).length : Int))) = _
    exact ret_i64 hR
  case stop =>
    rintro D E pre W _ h
    exact h.elim

end Go.Proofs.YtglphfhlpobgcaaGreat

/-
  lits.Size.
-/
namespace Go.Proofs.YtglphfhlpobgcaaGreat
open Go.RowKit Go.Shelf

attribute [local go_sem] Oper.semAt_some

/-- What a loop over terms keeps in one box. -/
structure InvT (w : World) (B : Nat) (ty : TypeId) (val : List T → Value) (E : List Nat) (pre : List T) (W : World) : Prop where
  box : Boxed W B ty (val pre)
  out : B ∉ E
  low : ∀ r ∈ E, w.heap.size ≤ r ∧ r < W.heap.size
  bel : Below w.heap.size w W

theorem InvT.abide (w : World) (B : Nat) (ty : TypeId) (val : List T → Value) : Abide (InvT w B ty val) := by
  intro E E' s W W' row h hg hr hE
  have hlt := h.box.lt
  refine ⟨h.box.kept hg (fun e => h.out (hr B e.symm)), fun hb => ?_, fun r hr' => ?_, h.bel.trans ⟨hg.os, hg.tape, hg.output, hg.size, fun k hk => hg.block k (Nat.lt_of_lt_of_le hk h.bel.size) (fun e => by have := h.low k (hr k e.symm); omega)⟩⟩
  · rcases hE B hb with hb | hb
    · exact h.out hb
    · omega
  · rcases hE r hr' with h' | h'
    · exact ⟨(h.low r h').1, Nat.lt_of_lt_of_le (h.low r h').2 hg.size⟩
    · exact ⟨Nat.le_trans h.bel.size h'.1, h'.2⟩

theorem InvT.grow {w : World} {B : Nat} {ty : TypeId} {val : List T → Value} {E : List Nat} {pre : List T} {W W' : World} (h : InvT w B ty val E pre W) (hb : Below W.heap.size W W') : Kept w.heap.size E W W' ∧ InvT w B ty val E pre W' :=
  ⟨⟨hb.mono h.bel.size, fun r hr => hb.block r (h.low r hr).2⟩, (hb.block B h.box.lt).trans h.box, h.out, fun r hr => ⟨(h.low r hr).1, Nat.lt_of_lt_of_le (h.low r hr).2 hb.size⟩, h.bel.trans (hb.mono h.bel.size)⟩

theorem InvT.store {w : World} {B : Nat} {ty : TypeId} {val : List T → Value} {E : List Nat} {pre : List T} {W : World} (h : InvT w B ty val E pre W) (hB : w.heap.size ≤ B) (val' : List T → Value) (s : List T) : Kept w.heap.size E W (W.setCell ⟨B, 0, none⟩ (val' s)) ∧ InvT w B ty val' E s (W.setCell ⟨B, 0, none⟩ (val' s)) := by
  have hb : Below w.heap.size W (W.setCell ⟨B, 0, none⟩ (val' s)) := (Below.refl _ _).setCell (p := ⟨B, 0, none⟩) hB _
  have g := grownBy_setCell' W B (val' s)
  refine ⟨⟨hb, fun r hr => ?_⟩, ⟨h.box.set (val' s), h.out, fun r hr => ⟨(h.low r hr).1, Nat.lt_of_lt_of_le (h.low r hr).2 g.size⟩, h.bel.trans hb⟩⟩
  by_cases hlt : r < W.heap.size
  · exact g.block r hlt (fun e => h.out (Option.some.inj e ▸ hr))
  · have h2 : (W.setCell ⟨B, 0, none⟩ (val' s)).heap.size = W.heap.size := by simp
    rw [Array.getElem?_eq_none (by omega), Array.getElem?_eq_none (by omega)]

theorem wrapK (x : Int) : IntKind.i64.wrap x = wrap64 x := by
  first | rfl | (rw [IntKind.wrap_i64]; simp only [wrap64]; done) | (rw [IntKind.wrap_i64]; simp only [wrap64]; omega)

def sumT (l : List T) : Int := (l.map T.size).sum
theorem sumT_snoc (l : List T) (t : T) : wrap64 (wrap64 (sumT l) + wrap64 t.size) = wrap64 (sumT (l ++ [t])) := by
  rw [wrap64_add]
  unfold sumT
  rw [List.map_append, List.sum_append]
  simp
theorem sumT_sides (l : List Lt) : sumT (sidesOf l) = csize l := by
  induction l with
  | nil => rfl
  | cons x r ih =>
    have e : sidesOf (x :: r) = x.l :: x.r :: sidesOf r := rfl
    have e2 : csize (x :: r) = x.l.size + x.r.size + csize r := by simp [csize]
    rw [e, e2, ← ih]
    simp [sumT]
    omega

set_option maxRecDepth 100000 in
set_option maxHeartbeats 4000000 in
theorem lsize_any (l : List Lt) (v : Value) (w : World) (hc : ClauseAt w v l) (hsh : ∀ t ∈ sidesOf l, Short t) :
    Calls Tryz.prog 108 #[v] w fun e w' => e = .returned (.int .i64 (wrap64 (csize l))) ∧ Below w.heap.size w w' := by
  refine (callsIn_wide (n := 9)).1 ?_
  obtain ⟨a, c, rfl⟩ := hc.slice
  obtain ⟨W0, hW0⟩ : ∃ W0, (w.alloc (.cells #[.int .i64 0] 3)).alloc (.cells #[.slice a l.length c] 35) = W0 := ⟨_, rfl⟩
  have hsz : W0.heap.size = w.heap.size + 2 := by rw [← hW0]; simp
  have hbel : Below w.heap.size w W0 := by rw [← hW0]; exact below_box2 w _ _
  have hB0 : Boxed W0 w.heap.size 3 (.int .i64 0) := by
    have := (Boxed.new w 3 (.int .i64 0)).alloc (.cells #[.slice a l.length c] 35)
    rw [← hW0]
    exact this
  have hB1 : W0.cell? ⟨w.heap.size + 1, 0, none⟩ = some (.slice a l.length c) := by
    have := (MapKept.heap_alloc (w.alloc (.cells #[.int .i64 0] 3)) (.cells #[.slice a l.length c] 35)).1
    rw [World.size_alloc] at this
    rw [← hW0]
    simp only [World.cell?]
    rw [this]
    rfl
  have hR : Hid (wrap64 (sumT (sidesOf l)) = wrap64 (csize l)) := by show _ = _; rw [sumT_sides]
  refine callsIn_of_wp_marks Tryz.func108 rfl trivial ?_ rfl
  simp only [Tryz.ntmps108, List.size_toArray, List.length_cons, List.length_nil, Nat.reduceAdd, Nat.reduceSub, Array.replicate_succ, Array.replicate_zero, List.push_toArray, List.append_toArray, List.nil_append, List.cons_append]
  gi_wp2_with (refine ⟨trivial, ?_⟩; gi_at_call 107; refine (callsIn_wide.2 (terms_any _ _ _ _)).mono ?_; rintro e w' ⟨rfl, rfl⟩)
  try simp only [World.size_alloc]
  try rw [hW0]
  clear hW0
  refine range_t (w0 := w) (all := sidesOf l) (gf := 143) (lb := #[.pointer (some ⟨w.heap.size + 1, 0, none⟩)]) 9 rfl (enters_of Tryz.func143 (by kernel_rfl) rfl) rfl
    (fun W hW => terms1_any w (w.heap.size + 1) l _ W (hbel.trans (hW.mono (by omega))) (kc hW (by omega) hB1) hc)
    (InvT w w.heap.size 3 (fun pre => .int .i64 (wrap64 (sumT pre)))) (fun _ _ _ => False) (InvT.abide _ _ _ _) (fun _ _ _ _ _ _ h => h.elim)
    ⟨by simpa [wrap64, sumT] using hB0, by simp, by simp, hbel⟩ (by omega) (fun _ _ _ h r hr => (h.low r hr).2)
    (fun p sl a' W => ∃ Bx, W.heap[Bx]? = some (.cells [Value.int .i64 p.v, .string p.fn, sl].toArray 30 (0, 0)) ∧ a' = { tmps := #[.slice a l.length c, undef, .int .i64 0, .pointer (some ⟨w.heap.size, 0, none⟩), .pointer (some ⟨Bx, 0, none⟩), .slice a l.length c, .func (.func 143) #[] #[.pointer (some ⟨w.heap.size + 1, 0, none⟩)], tval p sl, undef, undef, undef, undef, undef], defers := [] })
    ?hax ?assign ?body ?done ?stop
  case hax =>
    rintro p sl a' W l r o ⟨Bx, hbx, rfl⟩ hl
    refine ⟨Bx, (World.putObj_heap_other ?_).trans hbx, rfl⟩
    rintro rfl
    rw [hbx] at hl
    cases hl
  case assign =>
    rintro lx p sl W K hsl hK
    obtain ⟨sa, sc, rfl, _, _⟩ := hsl.slice
    gi_wp2
    refine hK _ _ (below_box W _) ⟨W.heap.size, (MapKept.heap_alloc W _).1, ?_⟩
    simp
  case body =>
    rintro lx E pre p sl a' W hi hl hw hsl ⟨rest, hrest⟩ ⟨Bx, hbx, rfl⟩
    have hps : Short p := hsh p (by rw [← hrest]; simp)
    have haw := ArgsAt.keep hw (Nat.le_refl _) hsl
    have hdr : Below W.heap.size W W.drew := (Below.refl _ W).drew
    have hcl := tsize_any p sl W.drew (ArgsAt.keep hdr (Nat.le_refl _) haw) hps
    have hcell := hi.box.cell
    have x0 : W.cell? ⟨Bx, 0, none⟩ = some (.int .i64 p.v) := by rw [cell_of_row _ _ _ _ 30 (0, 0) hbx]; rfl
    have x1 : W.cell? ⟨Bx, 1, none⟩ = some (.string p.fn) := by rw [cell_of_row _ _ _ _ 30 (0, 0) hbx]; rfl
    have x2 : W.cell? ⟨Bx, 2, none⟩ = some sl := by rw [cell_of_row _ _ _ _ 30 (0, 0) hbx]; rfl
    have fin : ∀ w1, Below W.drew.heap.size W.drew w1 → (w1.cell? ⟨w.heap.size, 0, none⟩ = some (.int .i64 (wrap64 (sumT pre))) ∧ w1.frozen? ⟨w.heap.size, 0, none⟩ = false) ∧ Kept w.heap.size E W (w1.setCell ⟨w.heap.size, 0, none⟩ (.int .i64 (wrap64 (wrap64 (sumT pre) + wrap64 p.size)))) ∧ InvT w w.heap.size 3 (fun pre => .int .i64 (wrap64 (sumT pre))) E (pre ++ [p]) (w1.setCell ⟨w.heap.size, 0, none⟩ (.int .i64 (wrap64 (wrap64 (sumT pre) + wrap64 p.size)))) := by
      intro w1 hb1
      obtain ⟨k1, h1⟩ := hi.grow (hdr.trans hb1)
      obtain ⟨k2, h2⟩ := h1.store (Nat.le_refl _) (fun pre => .int .i64 (wrap64 (sumT pre))) (pre ++ [p])
      rw [sumT_snoc]
      exact ⟨⟨h1.box.cell, h1.box.frozen⟩, k1.trans k2, h2⟩
    have HFN : Hid (∀ w1, Below W.drew.heap.size W.drew w1 → (w1.cell? ⟨w.heap.size, 0, none⟩ = some (.int .i64 (wrap64 (sumT pre))) ∧ w1.frozen? ⟨w.heap.size, 0, none⟩ = false) ∧ Kept w.heap.size E W (w1.setCell ⟨w.heap.size, 0, none⟩ (.int .i64 (wrap64 (wrap64 (sumT pre) + wrap64 p.size)))) ∧ InvT w w.heap.size 3 (fun pre => .int .i64 (wrap64 (sumT pre))) E (pre ++ [p]) (w1.setCell ⟨w.heap.size, 0, none⟩ (.int .i64 (wrap64 (wrap64 (sumT pre) + wrap64 p.size))))) := fin
    obtain ⟨sa, sc, rfl, _, _⟩ := hsl.slice
    clear fin hi haw hw hrest hps hbx
    gi_wp2
    refine wpIn_region_any (by kernel_rfl) ?_
    try (change wpAnyIn _ _ _ _ _ _ _ _ _ (World.drew _))
    refine wpAnyIn_ready (rs := [0, 1]) (by kernel_rfl) (by simp) ?_
    refine AllReadyIn.cons rfl (fun K hK => ?_) ?_
    · go_simp
      refine hK _ _ ?_
      clear hK K
      refine wpAnyIn_ready (rs := [1]) (by kernel_rfl) (by simp) ?_
      refine AllReadyIn.cons rfl (fun K hK => ?_) AllReadyIn.nil
      go_simp
      refine hK _ _ ?_
      clear hK K
      refine wpAnyIn_ready (rs := [2]) (by kernel_rfl) (by simp) ?_
      refine AllReadyIn.cons rfl (fun K hK => ?_) AllReadyIn.nil
      go_simp
      refine ⟨trivial, (CallsIn.inRound lx (callsIn_wide.2 hcl)).mono ?_⟩
      rintro e w1 ⟨rfl, hb1⟩
      obtain ⟨⟨f1, f2⟩, kk, ii⟩ := HFN.out w1 hb1
      refine hK _ _ ?_
      clear hK K
      refine wpAnyIn_ready (rs := [3]) (by kernel_rfl) (by simp) ?_
      refine AllReadyIn.cons rfl (fun K hK => ?_) AllReadyIn.nil
      go_simp
      refine hK _ _ ?_
      clear hK K
      refine wpAnyIn_ready (rs := [4]) (by kernel_rfl) (by simp) ?_
      refine AllReadyIn.cons rfl (fun K hK => ?_) AllReadyIn.nil
      go_simp
      refine hK _ _ ?_
      clear hK K
      refine wpAnyIn_done (by kernel_rfl) ?_ _
      rw [wrapK]
      exact ⟨kk, ii⟩
    refine AllReadyIn.cons rfl (fun K hK => ?_) AllReadyIn.nil
    go_simp
    refine hK _ _ ?_
    clear hK K
    refine wpAnyIn_ready (rs := [0, 2]) (by kernel_rfl) (by simp) ?_
    refine AllReadyIn.cons rfl (fun K hK => ?_) ?_
    · go_simp
      refine hK _ _ ?_
      clear hK K
      refine wpAnyIn_ready (rs := [2]) (by kernel_rfl) (by simp) ?_
      refine AllReadyIn.cons rfl (fun K hK => ?_) AllReadyIn.nil
      go_simp
      refine ⟨trivial, (CallsIn.inRound lx (callsIn_wide.2 hcl)).mono ?_⟩
      rintro e w1 ⟨rfl, hb1⟩
      obtain ⟨⟨f1, f2⟩, kk, ii⟩ := HFN.out w1 hb1
      refine hK _ _ ?_
      clear hK K
      refine wpAnyIn_ready (rs := [3]) (by kernel_rfl) (by simp) ?_
      refine AllReadyIn.cons rfl (fun K hK => ?_) AllReadyIn.nil
      go_simp
      refine hK _ _ ?_
      clear hK K
      refine wpAnyIn_ready (rs := [4]) (by kernel_rfl) (by simp) ?_
      refine AllReadyIn.cons rfl (fun K hK => ?_) AllReadyIn.nil
      go_simp
      refine hK _ _ ?_
      clear hK K
      refine wpAnyIn_done (by kernel_rfl) ?_ _
      rw [wrapK]
      exact ⟨kk, ii⟩
    refine AllReadyIn.cons rfl (fun K hK => ?_) AllReadyIn.nil
    go_simp
    refine ⟨trivial, (CallsIn.inRound lx (callsIn_wide.2 hcl)).mono ?_⟩
    rintro e w1 ⟨rfl, hb1⟩
    obtain ⟨⟨f1, f2⟩, kk, ii⟩ := HFN.out w1 hb1
    refine hK _ _ ?_
    clear hK K
    refine wpAnyIn_ready (rs := [0]) (by kernel_rfl) (by simp) ?_
    refine AllReadyIn.cons rfl (fun K hK => ?_) AllReadyIn.nil
    go_simp
    refine hK _ _ ?_
    clear hK K
    refine wpAnyIn_ready (rs := [3]) (by kernel_rfl) (by simp) ?_
    refine AllReadyIn.cons rfl (fun K hK => ?_) AllReadyIn.nil
    go_simp
    refine hK _ _ ?_
    clear hK K
    refine wpAnyIn_ready (rs := [4]) (by kernel_rfl) (by simp) ?_
    refine AllReadyIn.cons rfl (fun K hK => ?_) AllReadyIn.nil
    go_simp
    refine hK _ _ ?_
    clear hK K
    refine wpAnyIn_done (by kernel_rfl) ?_ _
    rw [wrapK]
    exact ⟨kk, ii⟩
  case done =>
    rintro D E W hD hi hDE hK
    have hcd := hi.box.cell
    gi_wp2
    refine ⟨by simp, .inl ⟨_, _, rfl, run_takeDeferred hK, ?_⟩⟩
    refine ⟨_, results_tmp rfl _ _ _, ?_, hi.bel.trans ⟨rfl, rfl, rfl, by simp, fun k hk => World.putObj_heap_other (by omega)⟩⟩
    show Ending.returned (Value.int .i64 (wrap64 (sumT (sidesOf l)))) = _
    exact ret_i64 hR
  case stop =>
    rintro D E pre W _ h
    exact h.elim

end Go.Proofs.YtglphfhlpobgcaaGreat

/-
  lits.Right.
-/
namespace Go.Proofs.YtglphfhlpobgcaaGreat
open Go.RowKit Go.Shelf

attribute [local go_sem] Oper.semAt_some

theorem fe_app {pre : List T} (h : ∀ t ∈ pre, t.rightW = 0) (p : T) (rest : List T) (hp : p.rightW ≠ 0) : lfe (pre ++ p :: rest) = p.rightW := by
  induction pre with
  | nil => simp [lfe, hp]
  | cons x r ih =>
    have hx := h x (by simp)
    simp only [List.cons_append, lfe, hx, if_true]
    exact ih (fun t ht => h t (by simp [ht]))

set_option maxRecDepth 100000 in
set_option maxHeartbeats 4000000 in
theorem lright_any (l : List Lt) (v : Value) (w : World) (hc : ClauseAt w v l) (hsh : ∀ t ∈ sidesOf l, Short t) :
    Calls Tryz.prog 69 #[v] w fun e w' => e = .returned (.int .i64 (crightW l)) ∧ Below w.heap.size w w' := by
  have hlen := hc.len
  by_cases h60 : 60 < l.length
  · have HE : Hid (crightW l = 3) := by show _ = _; unfold crightW; rw [if_pos h60]
    obtain ⟨a, c, rfl⟩ := hc.slice
    have hB0 := Boxed.new w 50 (.int .i64 0)
    have z0 := hB0.cell
    have y0 := hB0.frozen
    have HB : Hid (Below w.heap.size w ((w.alloc (.cells #[.int .i64 0] 50)).setCell ⟨w.heap.size, 0, none⟩ (.int .i64 3))) := (below_box w _).setCell (p := ⟨w.heap.size, 0, none⟩) (Nat.le_refl _) _
    have hz3 := (hB0.set (.int .i64 3)).cell
    clear hc hsh hB0
    go_enter Tryz.func69, Tryz.ntmps69
    go_wp2
    all_goals first | (exfalso; omega) | skip
    refine bodyPost_ret (v := .int .i64 3) (by simp [results, Tryz.results69, go_sem, *]) rfl ⟨by rw [HE.out], ?_⟩
    first | exact HB.out | exact below_box w _
  · have HE : Hid (crightW l = if lfe (sidesOf l) ≠ 0 then lfe (sidesOf l) else if 4000 < wrap64 (csize l) then 3 else 0) := by show _ = _; unfold crightW; rw [if_neg h60]
    refine (callsIn_wide (n := 9)).1 ?_
    obtain ⟨a, c, rfl⟩ := hc.slice
    obtain ⟨W0, hW0⟩ : ∃ W0, (w.alloc (.cells #[.int .i64 0] 50)).alloc (.cells #[.slice a l.length c] 35) = W0 := ⟨_, rfl⟩
    have hsz : W0.heap.size = w.heap.size + 2 := by rw [← hW0]; simp
    have hbel : Below w.heap.size w W0 := by rw [← hW0]; exact below_box2 w _ _
    have hB0 : Boxed W0 w.heap.size 50 (.int .i64 0) := by
      have := (Boxed.new w 50 (.int .i64 0)).alloc (.cells #[.slice a l.length c] 35)
      rw [← hW0]
      exact this
    have hB1 : W0.cell? ⟨w.heap.size + 1, 0, none⟩ = some (.slice a l.length c) := by
      have := (MapKept.heap_alloc (w.alloc (.cells #[.int .i64 0] 50)) (.cells #[.slice a l.length c] 35)).1
      rw [World.size_alloc] at this
      rw [← hW0]
      simp only [World.cell?]
      rw [this]
      rfl
    refine callsIn_of_wp_marks Tryz.func69 rfl trivial ?_ rfl
    simp only [Tryz.ntmps69, List.size_toArray, List.length_cons, List.length_nil, Nat.reduceAdd, Nat.reduceSub, Array.replicate_succ, Array.replicate_zero, List.push_toArray, List.append_toArray, List.nil_append, List.cons_append]
    have hle : ¬ ((l.length : Int) > 60) := by omega
    gi_wp2_with (refine ⟨trivial, ?_⟩; gi_at_call 107; refine (callsIn_wide.2 (terms_any _ _ _ _)).mono ?_; rintro e w' ⟨rfl, rfl⟩)
    all_goals first | (exfalso; omega) | skip
    try simp only [World.size_alloc]
    try rw [hW0]
    clear hW0
    refine range_t (w0 := w) (all := sidesOf l) (gf := 143) (lb := #[.pointer (some ⟨w.heap.size + 1, 0, none⟩)]) 9 rfl (enters_of Tryz.func143 (by kernel_rfl) rfl) rfl
      (fun W hW => terms1_any w (w.heap.size + 1) l _ W (hbel.trans (hW.mono (by omega))) (kc hW (by omega) hB1) hc)
      (fun E pre W => InvT w w.heap.size 50 (fun _ => .int .i64 0) E pre W ∧ ∀ t ∈ pre, t.rightW = 0) (fun E pre W => InvT w w.heap.size 50 (fun _ => .int .i64 (lfe (sidesOf l))) E pre W ∧ lfe (sidesOf l) ≠ 0) ((InvT.abide _ _ _ _).and (Abide.pure _)) ((InvT.abide _ _ _ _).and (Abide.pure _))
      ⟨⟨hB0, by simp, by simp, hbel⟩, by simp⟩ (by omega) (fun _ _ _ h r hr => (h.1.low r hr).2)
      (fun p sl a' W => ∃ Bx, W.heap[Bx]? = some (.cells [Value.int .i64 p.v, .string p.fn, sl].toArray 30 (0, 0)) ∧ a' = { tmps := #[.slice a l.length c, undef, .pointer (some ⟨w.heap.size, 0, none⟩), .pointer (some ⟨Bx, 0, none⟩), undef, .slice a l.length c, .int .i64 l.length, .bool false, .slice a l.length c, .func (.func 143) #[] #[.pointer (some ⟨w.heap.size + 1, 0, none⟩)], tval p sl, undef, undef, undef, undef, undef, undef, undef, undef], defers := [] })
      ?hax ?assign ?body ?done ?stop
    case hax =>
      rintro p sl a' W l r o ⟨Bx, hbx, rfl⟩ hl
      refine ⟨Bx, (World.putObj_heap_other ?_).trans hbx, rfl⟩
      rintro rfl
      rw [hbx] at hl
      cases hl
    case assign =>
      rintro lx p sl W K hsl hK
      obtain ⟨sa, sc, rfl, _, _⟩ := hsl.slice
      gi_wp2
      refine hK _ _ (below_box W _) ⟨W.heap.size, (MapKept.heap_alloc W _).1, ?_⟩
      simp
    case body =>
      rintro lx E pre p sl a' W ⟨hi, hall⟩ hl hw hsl ⟨rest, hrest⟩ ⟨Bx, hbx, rfl⟩
      have hps : Short p := hsh p (by rw [← hrest]; simp)
      have haw := ArgsAt.keep hw (Nat.le_refl _) hsl
      have hcl := tright_any p sl W haw hps
      have x0 : W.cell? ⟨Bx, 0, none⟩ = some (.int .i64 p.v) := by rw [cell_of_row _ _ _ _ 30 (0, 0) hbx]; rfl
      have x1 : W.cell? ⟨Bx, 1, none⟩ = some (.string p.fn) := by rw [cell_of_row _ _ _ _ 30 (0, 0) hbx]; rfl
      have x2 : W.cell? ⟨Bx, 2, none⟩ = some sl := by rw [cell_of_row _ _ _ _ 30 (0, 0) hbx]; rfl
      obtain ⟨sa, sc, rfl, _, _⟩ := hsl.slice
      have HI : Hid (InvT w w.heap.size 50 (fun _ => .int .i64 0) E pre W) := hi
      by_cases hp : p.rightW = 0
      · have hpb : (p.rightW != 0) = false := by rw [bne_eq_false_iff_eq]; exact hp
        have HA : Hid (∀ t ∈ pre ++ [p], t.rightW = 0) := fun t ht => by
          rcases List.mem_append.1 ht with h | h
          · exact hall t h
          · simp at h; rw [h]; exact hp
        clear hp hi hall hw haw hrest hps hbx hsh hc hB0 hB1 hbel HE
        gi_wp2_with (refine ⟨trivial, ?_⟩; gi_at_call 30; refine (CallsIn.inRound lx (callsIn_wide.2 hcl)).mono ?_; rintro e w1 ⟨rfl, hb1⟩)
        obtain ⟨k1, h1⟩ := HI.out.grow hb1
        exact ⟨k1, ⟨h1.box, h1.out, h1.low, h1.bel⟩, HA.out⟩
      · have hpb : (p.rightW != 0) = true := by rw [bne_iff_ne]; exact hp
        have HF : Hid (lfe (sidesOf l) = p.rightW ∧ p.rightW ≠ 0) := ⟨by rw [← hrest]; exact fe_app hall p rest hp, hp⟩
        clear hp hi hall hw haw hrest hps hbx hsh hc hB0 hB1 hbel HE
        gi_wp2_with (refine ⟨trivial, ?_⟩; gi_at_call 30; refine (CallsIn.inRound lx (callsIn_wide.2 hcl)).mono ?_; rintro e w1 ⟨rfl, hb1⟩; obtain ⟨k1, h1⟩ := HI.out.grow hb1; have c1 := h1.box.cell; have f1 := h1.box.frozen)
        obtain ⟨k2, h2⟩ := h1.store (Nat.le_refl _) (fun _ => .int .i64 p.rightW) (pre ++ [p])
        rw [HF.out.1]
        exact ⟨k1.trans k2, h2, HF.out.2⟩
    case done =>
      rintro D E W hD ⟨hi, hall⟩ hDE hK
      have h0 : lfe (sidesOf l) = 0 := lfe_zero.2 hall
      have HG : Hid (crightW l = if 4000 < wrap64 (csize l) then 3 else 0) := by
        show _ = _
        rw [HE.out, h0, if_neg (by simp)]
      have hls := lsize_any l (.slice a l.length c) W (hc.keep hi.bel) hsh
      have fin : Hid (∀ w1, Below W.heap.size W w1 → ∀ r : Int, (w1.cell? ⟨w.heap.size, 0, none⟩ = some (.int .i64 0) ∧ w1.frozen? ⟨w.heap.size, 0, none⟩ = false) ∧ (w1.setCell ⟨w.heap.size, 0, none⟩ (.int .i64 r)).heap[D]? = some (.deferred (some [])) ∧ ((w1.setCell ⟨w.heap.size, 0, none⟩ (.int .i64 r)).putObj D (.deferred none)).cell? ⟨w.heap.size, 0, none⟩ = some (.int .i64 r) ∧ Below w.heap.size w ((w1.setCell ⟨w.heap.size, 0, none⟩ (.int .i64 r)).putObj D (.deferred none))) := fun w1 hb1 r => by
        obtain ⟨k1, h1⟩ := hi.grow hb1
        obtain ⟨k2, h2⟩ := h1.store (Nat.le_refl _) (fun _ => .int .i64 r) []
        have hne : D ≠ w.heap.size := by omega
        have hb2 : Boxed ((w1.setCell ⟨w.heap.size, 0, none⟩ (.int .i64 r)).putObj D (.deferred none)) w.heap.size 50 (.int .i64 r) := (World.putObj_heap_other (by omega)).trans h2.box
        exact ⟨⟨h1.box.cell, h1.box.frozen⟩, ((k1.trans k2).mine D hDE).trans hK, hb2.cell, h2.bel.trans ⟨rfl, rfl, rfl, by simp, fun k hk => World.putObj_heap_other (by omega)⟩⟩
      clear hi hall hDE hK h0 HE hsh hc hB0 hB1 hbel
      generalize wrap64 (csize l) = z at *
      by_cases hz : 4000 < z
      · have Hr : Hid (crightW l = 3) := by show _ = _; rw [HG.out, if_pos hz]
        gi_wp2_with (refine ⟨trivial, ?_⟩; gi_at_call 108; refine (callsIn_wide.2 hls).mono ?_; rintro e w1 ⟨rfl, hb1⟩; obtain ⟨⟨c1, f1⟩, g1, g2, g3⟩ := fin.out w1 hb1 3)
        refine ⟨by simp, .inl ⟨_, _, rfl, run_takeDeferred g1, ?_⟩⟩
        refine ⟨_, by simp [results, Tryz.results69, go_sem, g2]; rfl, ?_, g3⟩
        exact ret_i64 Hr.out.symm
      · have Hr : Hid (crightW l = 0) := by show _ = _; rw [HG.out, if_neg hz]
        gi_wp2_with (refine ⟨trivial, ?_⟩; gi_at_call 108; refine (callsIn_wide.2 hls).mono ?_; rintro e w1 ⟨rfl, hb1⟩; obtain ⟨⟨c1, f1⟩, g1, g2, g3⟩ := fin.out w1 hb1 0)
        refine ⟨by simp, .inl ⟨_, _, rfl, run_takeDeferred g1, ?_⟩⟩
        refine ⟨_, by simp [results, Tryz.results69, go_sem, g2]; rfl, ?_, g3⟩
        exact ret_i64 Hr.out.symm
    case stop =>
      rintro D E pre W hD ⟨hi, hne⟩ hDE hK
      have Hr : Hid (crightW l = lfe (sidesOf l)) := by show _ = _; rw [HE.out, if_pos hne]
      have hb2 : Boxed (W.putObj D (.deferred none)) w.heap.size 50 (.int .i64 (lfe (sidesOf l))) := (World.putObj_heap_other (by omega)).trans hi.box
      have g2 := hb2.cell
      have g3 : Below w.heap.size w (W.putObj D (.deferred none)) := hi.bel.trans ⟨rfl, rfl, rfl, by simp, fun k hk => World.putObj_heap_other (by omega)⟩
      gi_wp2
      refine ⟨by simp, .inl ⟨_, _, rfl, run_takeDeferred hK, ?_⟩⟩
      refine ⟨_, by simp [results, Tryz.results69, go_sem, g2]; rfl, ?_, g3⟩
      exact ret_i64 Hr.out.symm

end Go.Proofs.YtglphfhlpobgcaaGreat
