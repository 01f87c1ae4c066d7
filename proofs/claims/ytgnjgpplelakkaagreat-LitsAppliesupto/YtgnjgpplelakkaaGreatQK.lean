import Derived.Test.YtgnjgpplelakkaaGreatNE
import Derived.Maps.AppendAt
import Derived.Test.YtgnjgpplelakkaaGreatK
import Derived.Test.YtgnjgpplelakkaaGreatL

/-
  Rows of binds; the document's With.
-/
namespace Go.Proofs.YtgnjgpplelakkaaGreat
open Go.RowKit Go.Maps

theorem Tryz.info30 : (Tryz.prog.info? 30).map (fun i => (i.zero, i.size, i.bytes)) = some (some (.agg #[.int .i64 0, .int .i64 0, .string ⟨#[]⟩, .slice none 0 0]), 4, 56) := by kernel_rfl

/-- The cells of a row of binds. -/
def flatB (ps : List (Bd × Value)) : List Value := ps.flatMap fun p => [.int .i64 p.1.1, .int .i64 p.1.2.v, .string p.1.2.fn, p.2]
theorem flatB_snoc (ps : List (Bd × Value)) (p : Bd × Value) : flatB (ps ++ [p]) = flatB ps ++ [.int .i64 p.1.1, .int .i64 p.1.2.v, .string p.1.2.fn, p.2] := by simp [flatB]
theorem flatB_get : ∀ (ps : List (Bd × Value)) (i : Nat) (h : i < ps.length), (flatB ps)[i * 4]? = some (.int .i64 ps[i].1.1) ∧ (flatB ps)[i * 4 + 1]? = some (.int .i64 ps[i].1.2.v) ∧ (flatB ps)[i * 4 + 2]? = some (.string ps[i].1.2.fn) ∧ (flatB ps)[i * 4 + 3]? = some ps[i].2
  | [], i, h => absurd h (by simp)
  | p :: r, 0, _ => by simp [flatB]
  | p :: r, i + 1, h => by
    have ih := flatB_get r i (by simpa using h)
    have e : flatB (p :: r) = [.int .i64 p.1.1, .int .i64 p.1.2.v, .string p.1.2.fn, p.2] ++ flatB r := rfl
    have hs : ∀ k, (flatB (p :: r))[4 + k]? = (flatB r)[k]? := fun k => by
      rw [e, List.getElem?_append_right (by simp)]
      simp
    have e0 : (i + 1) * 4 = 4 + i * 4 := by omega
    rw [e0, show 4 + i * 4 + 1 = 4 + (i * 4 + 1) by omega, show 4 + i * 4 + 2 = 4 + (i * 4 + 2) by omega, show 4 + i * 4 + 3 = 4 + (i * 4 + 3) by omega, hs, hs, hs, hs]
    simpa using ih

/-- A row of binds of one's own. -/
structure OwnB (w : World) (v : Value) (ps : List (Bd × Value)) (W : World) : Prop where
  row : W.ownsRow w.heap.size 30 4 v ps.length (flatB ps)
  bel : Below w.heap.size w W

theorem rowB_form {W : World} {b : Nat} {e : TypeId} {s : Nat} {v : Value} {n : Nat} {xs : List Value} (h : W.ownsRow b e s v n xs) : ∃ a c, v = .slice a n c := by
  rcases h.2 with ⟨rfl, h0⟩ | ⟨g, cap, cur, rfl, _⟩
  · exact ⟨none, 0, by rw [h0]⟩
  · exact ⟨_, _, rfl⟩

theorem rowB_below {W W' : World} {b : Nat} {e : TypeId} {s : Nat} {v : Value} {n : Nat} {xs : List Value} (h : W.ownsRow b e s v n xs) (hb : Below W.heap.size W W') : W'.ownsRow b e s v n xs :=
  h.kept (row := none) ⟨hb.os, hb.tape, hb.output, hb.size, fun k hk _ => hb.block k hk⟩ (by cases v.ownBlock <;> simp)

theorem OwnB.push {w : World} {v : Value} {ps : List (Bd × Value)} {W : World} (h : OwnB w v ps W) (p : Bd × Value) (v' : Value) (w3 : World) (hown : w3.ownsRow w.heap.size 30 4 v' (ps.length + 1) (flatB ps ++ [.int .i64 p.1.1, .int .i64 p.1.2.v, .string p.1.2.fn, p.2])) (o : Obj) (hg : (W.alloc o).grownBy w3 v.ownBlock) : OwnB w v' (ps ++ [p]) w3 := by
  refine ⟨by rw [flatB_snoc, List.length_append, List.length_singleton]; exact hown, h.bel.trans (((below_box W _).mono h.bel.size).trans ⟨hg.os, hg.tape, hg.output, hg.size, fun j hj => hg.block j (by have := h.bel.size; simp; omega) (fun e => by have := (h.row.lt j e.symm).1; omega)⟩)⟩

theorem OwnB.keep {w : World} {v : Value} {ps : List (Bd × Value)} {W W' : World} (h : OwnB w v ps W) (hb : Below W.heap.size W W') : OwnB w v ps W' := ⟨rowB_below h.row hb, h.bel.trans (hb.mono h.bel.size)⟩

/-- A row of one's own is a slice of binds. -/
theorem binds_of_row {W : World} {base : Nat} {v : Value} {ps : List (Bd × Value)} (h : W.ownsRow base 30 4 v ps.length (flatB ps)) (hs : ∀ p ∈ ps, ArgsAt W p.2 p.1.2.args) : BindsAt W v (ps.map (·.1)) := by
  rcases h.2 with ⟨rfl, h0⟩ | ⟨g, cap, cur, rfl, hb, hg, hn, hm, hsz, ht⟩
  · have e : ps = [] := List.eq_nil_of_length_eq_zero h0
    subst e
    exact ⟨none, 0, rfl, Nat.le_refl _, by decide, fun h => absurd h (by simp)⟩
  · refine ⟨some ⟨g, 0, none⟩, cap, by rw [List.length_map], by rw [List.length_map]; exact hn, by unfold maxLen at hm; omega, fun _ => ⟨g, 0, rfl, fun i hi => ?_⟩⟩
    have hi' : i < ps.length := by simpa using hi
    obtain ⟨f0, f1, f2, f3⟩ := flatB_get ps i hi'
    have ea : ∀ k, (⟨g, 0, none⟩ : Addr).add k = ⟨g, k, none⟩ := fun k => by unfold Addr.add; split <;> simp_all
    have c0 := h.cells rfl _ _ f0
    have c1 := h.cells rfl _ _ f1
    have c2 := h.cells rfl _ _ f2
    have c3 := h.cells rfl _ _ f3
    rw [ea] at c0 c1 c2 c3
    refine ⟨ps[i].2, ⟨(Array.getElem?_eq_some_iff.1 hg).1, ?_, ?_, ?_, ?_, ?_⟩⟩
    · rw [Nat.zero_add]; simpa using c0
    · rw [Nat.zero_add]; simpa using c1
    · rw [Nat.zero_add]; simpa using c2
    · rw [Nat.zero_add]; exact c3
    · simpa using hs ps[i] (List.getElem_mem hi')

theorem lit4 (w : World) (u v s r : Value) (ty : TypeId) : ∀ j x, [u, v, s, r][j]? = some x → (w.alloc (.cells #[u, v, s, r] ty)).cell? ((⟨w.heap.size, 0, none⟩ : Addr).add j) = some x := by
  intro j x hj
  have ea : (⟨w.heap.size, 0, none⟩ : Addr).add j = ⟨w.heap.size, j, none⟩ := by unfold Addr.add; split <;> simp_all
  rw [ea, World.cell?_alloc_new]
  simpa using hj


end Go.Proofs.YtgnjgpplelakkaaGreat

/-
  term.Size, term.Depth.
-/
namespace Go.Proofs.YtgnjgpplelakkaaGreat
open Go.RowKit Go.Shelf

attribute [local go_sem] Oper.semAt_some

set_option maxRecDepth 100000 in
set_option maxHeartbeats 2000000 in
theorem tdepth_any (t : T) (sl : Value) (w : World) (ha : ArgsAt w sl t.args) (hlen : Short t) :
    Calls Tryz.prog 68 #[tval t sl] w fun e w' => e = .returned (.int .i64 t.depth) ∧ Below w.heap.size w w' := by
  refine (callsIn_wide (n := 9)).1 ?_
  obtain ⟨a, c, rfl, hc, hm⟩ := ha.slice
  obtain ⟨W0, hW0⟩ : ∃ W0, ((w.alloc (tbox t (.slice a t.args.length c))).alloc (.cells #[.int .i64 0] 3)).alloc (tbox t (.slice a t.args.length c)) = W0 := ⟨_, rfl⟩
  have hsz : W0.heap.size = w.heap.size + 3 := by rw [← hW0]; simp
  have hbel : Below w.heap.size w W0 := by rw [← hW0]; exact (((Below.refl _ _).alloc (Nat.le_refl _) _).alloc (by simp) _).alloc (by simp; omega) _
  have hB1 : Boxed W0 (w.heap.size + 1) 3 (.int .i64 0) := by
    have := (Boxed.new (w.alloc (tbox t (.slice a t.args.length c))) 3 (.int .i64 0)).alloc (tbox t (.slice a t.args.length c))
    rw [World.size_alloc] at this
    rw [← hW0]
    exact this
  have hB2 : W0.heap[w.heap.size + 1 + 1]? = some (.cells [Value.int .i64 t.v, .string t.fn, .slice a t.args.length c].toArray 28 (0, 0)) := by
    have := (MapKept.heap_alloc ((w.alloc (tbox t (.slice a t.args.length c))).alloc (.cells #[.int .i64 0] 3)) (tbox t (.slice a t.args.length c))).1
    rw [World.size_alloc, World.size_alloc] at this
    rw [← hW0]
    exact this
  have hR : Hid (dm (t.parts []) = t.depth) := dm_parts t
  refine callsIn_of_wp_marks Tryz.func68 rfl trivial ?_ rfl
  simp only [Tryz.ntmps68, List.size_toArray, List.length_cons, List.length_nil, Nat.reduceAdd, Nat.reduceSub, Array.replicate_succ, Array.replicate_zero, List.push_toArray, List.append_toArray, List.nil_append, List.cons_append]
  gi_wp2_with (refine ⟨trivial, ?_⟩; gi_at_call 63; refine (callsIn_wide.2 (parts_any _ _ _)).mono ?_; rintro e w' ⟨rfl, rfl⟩)
  try rw [hW0]
  clear hW0
  refine range_own (n := W0.heap.size) (w0 := w) (all := t.parts []) (gf := 85) (lb := #[.pointer (some ⟨w.heap.size + 1 + 1, 0, none⟩)]) 9 rfl (enters_of Tryz.func85 (by kernel_rfl) rfl) rfl
    (fun W hW => iter_any w W0.heap.size (w.heap.size + 1 + 1) t _ W (hbel.trans (hW.mono (by omega))) (by omega) hW.size ((hW.block _ (by omega)).trans hB2) ha hlen)
    (Inv w (w.heap.size + 1) 3 (fun pre => .int .i64 (dm pre))) (fun _ _ _ => False) (Inv.abide _ _ _ _) (fun _ _ _ _ _ _ h => h.elim)
    ⟨hB1, by simp, by simp, hbel⟩ (by omega) (fun _ _ _ h r hr => (h.low r hr).2)
    (fun x y => { tmps := #[tval t (.slice a t.args.length c), .pointer (some ⟨w.heap.size, 0, none⟩), .int .i64 0, .pointer (some ⟨w.heap.size + 1, 0, none⟩), x, .agg #[.int .i64 t.v, .string t.fn, .slice a t.args.length c], .func (.func 85) #[] #[.pointer (some ⟨w.heap.size + 1 + 1, 0, none⟩)], x, y, undef, undef, undef, undef, undef, undef], defers := [] }) ?assign ?body ?done ?stop
  case assign =>
    intro l x y W K hK
    gi_wp2
    simpa using hK
  case body =>
    rintro l E pre pl p pv sl W hi hl hw hpv hsl hrest
    have hc := hi.box.cell
    have hf := hi.box.frozen
    obtain ⟨pa, pc, rfl⟩ := hpv.shape
    obtain ⟨rest, hrest⟩ := hrest
    have hpl : pl.length ≤ 1048576 := hlen (pl, p) (by rw [← hrest]; simp)
    obtain ⟨d1, d2⟩ := dm_ge pre
    have d3 := d2 (fun q hq => hlen q (by rw [← hrest]; simp [hq]))
    clear d2 hlen hrest
    gi_wp2
    all_goals
      refine (fun h => ?_) (hi.store (by omega) (.int .i64 (dm (pre ++ [(pl, p)]))))
      obtain ⟨h1, h2⟩ := h
      have e := dm_snoc pre (pl, p)
      first
        | (rw [show max (dm pre) ((pl.length : Int) + 1) = (pl.length : Int) + 1 from by omega] at e; rw [e] at h1 h2; exact ⟨h1, h2 _ (by rw [e])⟩)
        | (rw [show max (dm pre) ((pl.length : Int) + 1) = dm pre from by omega] at e; rw [e] at h1 h2; exact ⟨h1, h2 _ (by rw [e])⟩)
        | trace_state
  case done =>
    rintro D E W hD hi hDE hK
    have hc := hi.box.cell
    gi_wp2
    refine ⟨by simp, .inl ⟨_, _, rfl, run_takeDeferred hK, ?_⟩⟩
    refine ⟨_, results_tmp rfl _ _ _, ?_, hi.bel.trans ⟨rfl, rfl, rfl, by simp, fun k hk => World.putObj_heap_other (by omega)⟩⟩
    show Ending.returned (Value.int .i64 (dm (t.parts []))) = _
    exact ret_i64 hR
  case stop =>
    rintro D E pre W _ h
    exact h.elim

end Go.Proofs.YtgnjgpplelakkaaGreat
