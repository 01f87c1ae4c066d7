import Derived.Test.YtblfbmdnkgebdaaGC
import Derived.Test.YtblfbmdnkgebdaaPH
import Derived.RegionTactic

/-
  graph.add.
-/
namespace Go.Proofs.Ytblfbmdnkgebdaa
open Go.RowKit Go.Maps

/-- Behind an append into the row and the store of the new slice. -/
theorem GAt.push {w0 : World} {base g bv : Nat} {ns : List Nd} {ν : Nv} {n : Nat} {v v' : Value} {W Y W' : World} (h : GAt w0 base g bv ns ν n v W) (_hb : base ≤ W.heap.size) (hY : Below W.heap.size W Y) (m : Nd) (hm : ArgsAt w0 m.sl m.t.args) (hrow : W'.ownsRow base 89 8 v' (ns.length + 1) (flat8 ns ++ cells8 m)) (hg : Y.grownBy W' v.ownBlock) (ho : v'.ownBlock = v.ownBlock ∨ v'.ownBlock = some Y.heap.size) :
    GAt w0 base g bv (ns ++ [m]) ν n v' (W'.setCell ⟨g, 0, none⟩ v') := by
  have lg := (Array.getElem?_eq_some_iff.1 h.box).1
  have kb : ∀ k, k < W.heap.size → v.ownBlock ≠ some k → W'.heap[k]? = W.heap[k]? := fun k hk hne => (hg.block k (Nat.lt_of_lt_of_le hk hY.size) (fun e => hne e.symm)).trans (hY.block k hk)
  have hbx := (kb g lg h.own.1).trans h.box
  have hown : v'.ownBlock ≠ some g ∧ v'.ownBlock ≠ some bv := by
    have := hY.size
    have := h.map.lt
    rcases ho with e | e
    · rw [e]; exact h.own
    · rw [e]
      exact ⟨fun e => by cases e; omega, fun e => by cases e; omega⟩
  refine ⟨?_, ?_, ?_, fun q hq => ?_, h.ne, hown⟩
  · have := heap_setCell_same W' g 0 #[v, .map (some bv)] 51 v' hbx
    simpa using this
  · rw [List.length_append, List.length_singleton, flat8_snoc]
    exact row6_keep hrow (fun k e => Below.heap_setCell _ _ _ k (fun e2 => hown.1 (by rw [e]; exact congrArg some e2)))
  · exact (h.map.same (kb bv h.map.lt h.own.2)).same (Below.heap_setCell _ _ _ bv (fun e => h.ne e.symm))
  · rcases List.mem_append.1 hq with hq | hq
    · exact h.args q hq
    · simp only [List.mem_singleton] at hq
      subst hq
      exact hm

theorem lit8 (w : World) (a b c d e f x y : Value) (ty : TypeId) : ∀ j u, [a, b, c, d, e, f, x, y][j]? = some u → ((w.alloc (.cells #[a, b, c, d, e, f, x, y] ty)).drew).cell? ((⟨w.heap.size, 0, none⟩ : Addr).add j) = some u := by
  intro j u hj
  have ea : (⟨w.heap.size, 0, none⟩ : Addr).add j = ⟨w.heap.size, j, none⟩ := by unfold Addr.add; split <;> simp_all
  show (w.alloc (.cells #[a, b, c, d, e, f, x, y] ty)).cell? _ = _
  rw [ea, World.cell?_alloc_new]
  simpa using hj
theorem one8 (t : T) (a : Option Addr) (m c : Nat) (i j k l : Int) (q : Bool) : ∀ u ∈ cells8 ⟨t, .slice a m c, i, j, q, k, l⟩, u.oneCell' = true := by
  intro u hu
  simp only [cells8, List.mem_cons, List.not_mem_nil, or_false] at hu
  rcases hu with rfl | rfl | rfl | rfl | rfl | rfl | rfl | rfl <;> rfl

set_option maxRecDepth 100000 in
set_option maxHeartbeats 2000000 in
/-- A function. -/
theorem add_fn (w0 : World) (base g bv : Nat) (ns : List Nd) (ν : Nv) (n : Nat) (v : Value) (W : World) (h : GAt w0 base g bv ns ν n v W) (hb : base ≤ W.heap.size) (hbg : base ≤ g) (t : T) (ta : Option Addr) (tc : Nat) (ht : ArgsAt w0 (.slice ta t.args.length tc) t.args) (hv : uvar t = false) (hl : ns.length ≤ 100000) :
    Calls Try.prog 52 #[.pointer (some ⟨g, 0, none⟩), tval t (.slice ta t.args.length tc)] W fun e W' => e = .returned (.tuple #[]) ∧ Below base W W' ∧ ∃ v', GAt w0 base g bv (ns ++ [⟨t, .slice ta t.args.length tc, 0, ns.length, false, 0, 0⟩]) ν n v' W' := by
  obtain ⟨va, vc, rfl⟩ := rowB_form h.row
  have lg := (Array.getElem?_eq_some_iff.1 h.box).1
  have g0 : W.cell? ⟨g, 0, none⟩ = some (.slice va ns.length vc) := by simp [World.cell?, h.box]
  have hb1 := below_box W (tbox t (.slice ta t.args.length tc))
  obtain ⟨t0, t1, t2⟩ := tbox_cells W t (.slice ta t.args.length tc)
  have g1 := kc hb1 lg g0
  have huv := (uvar_any t (.slice ta t.args.length tc) (W.alloc (tbox t (.slice ta t.args.length tc))) ⟨_, _, _, rfl⟩).mono (R' := fun e w' => e = .returned (.bool (uvar t)) ∧ Below (W.alloc (tbox t (.slice ta t.args.length tc))).heap.size (W.alloc (tbox t (.slice ta t.args.length tc))) w') (fun e w' h => ⟨h.1, by rw [h.2]; exact below_box _ _⟩)
  rw [hv] at huv
  have H : Hid (GAt w0 base g bv ns ν n (.slice va ns.length vc) W ∧ ArgsAt w0 (.slice ta t.args.length tc) t.args ∧ base ≤ W.heap.size ∧ base ≤ g ∧ g < W.heap.size) := ⟨h, ht, hb, hbg, lg⟩
  obtain ⟨i89, hi0, hz0, hz1, hz2⟩ := info_parts Try.info89
  clear h ht hb hbg hv
  go_enter Try.func52, Try.ntmps52
  go_wp2_with (go_at_call 59; refine huv.mono ?_; rintro e W2 ⟨rfl, hb2⟩; have c0 := kc hb2 (by simp) t0; have c1 := kc hb2 (by simp) t1; have c2 := kc hb2 (by simp) t2; have c3 := kc hb2 (by simp; omega) g1; have HB : Hid (Below W.heap.size W W2) := hb1.trans (hb2.mono (by simp)); clear hb2 huv)
  have HROW : Hid (∀ Y : World, Below W2.heap.size W2 Y → Y.ownsRow base 89 8 (.slice va ns.length vc) ns.length (flat8 ns)) := fun Y hY => row6_keep H.out.1.row (fun g' e => (hY.block g' (Nat.lt_of_lt_of_le (H.out.1.row.lt g' e).2 HB.out.size)).trans (HB.out.block g' (H.out.1.row.lt g' e).2))
  have HSZ : Hid (base ≤ W2.heap.size) := Nat.le_trans H.out.2.2.1 HB.out.size
  have HBX : Hid (∀ Y w6 : World, Below W2.heap.size W2 Y → Y.grownBy w6 (Value.slice va ns.length vc).ownBlock → w6.heap[g]? = some (.cells #[.slice va ns.length vc, .map (some bv)] 51 (0, 0))) := fun Y w6 hY hg => (hg.block g (Nat.lt_of_lt_of_le (Nat.lt_of_lt_of_le H.out.2.2.2.2 HB.out.size) hY.size) (fun e => H.out.1.own.1 e.symm)).trans ((hY.block g (Nat.lt_of_lt_of_le H.out.2.2.2.2 HB.out.size)).trans ((HB.out.block g H.out.2.2.2.2).trans H.out.1.box))
  have c3a : ∀ o : Obj, (W2.alloc o).cell? ⟨g, 0, none⟩ = some (.slice va ns.length vc) := fun o => kc (below_box W2 o) (World.block_lt_of_cell? W2 _ c3) c3
  go_region_law (refine step_append_own _ rfl (.tmp 37) (.tmp 41) 48 rfl base 89 i89 _ 8 88 Try.underlying48 hi0 hz0 hz1 hz2 rfl (by decide) (.slice va ns.length vc) ns.length (flat8 ns) rfl (HROW.out _ (below_box2x W2 _)) ⟨W2.heap.size, 0, none⟩ 1 1 (cells8 ⟨t, .slice ta t.args.length tc, 0, ns.length, false, 0, 0⟩) rfl rfl (lit8 W2 _ _ _ _ _ _ _ _ 89) (one8 _ _ _ _ _ _ _ _ _) (by unfold maxLen; omega) (by omega) (by have := HSZ.out; simp; omega) ?_; intro v' w6 hrow6 hg6 hb6; obtain ⟨a6x, c6x, rfl⟩ := rowB_form hrow6; have hbx6 := HBX.out _ w6 (below_box2x W2 _) hg6; have hc6 : w6.cell? ⟨g, 0, none⟩ = some (.slice va ns.length vc) := by { simp [World.cell?, hbx6] }; have hf6 : w6.frozen? ⟨g, 0, none⟩ = false := by { simp [World.frozen?, hbx6] })
  all_goals (
    refine bodyPost_end (results_none rfl _ _ _) rfl ?_
    refine ⟨rfl, ?_, _, H.out.1.push H.out.2.2.1 (HB.out.trans ((below_box2x W2 _).mono HB.out.size)) _ H.out.2.1 hrow6 hg6 hb6⟩
    have hbb : Below base W ((W2.alloc (.cells #[.int .i64 t.v, .string t.fn, .slice ta t.args.length tc, .int .i64 0, .int .i64 ns.length, .bool false, .int .i64 0, .int .i64 0] 89)).drew) := (HB.out.trans ((below_box2x W2 _).mono HB.out.size)).mono H.out.2.2.1
    refine (hbb.trans ⟨hg6.os, hg6.tape, hg6.output, hg6.size, fun k hk => hg6.block k (by have := hbb.size; have := H.out.2.2.1; omega) (fun e => by have := (H.out.1.row.lt k e.symm).1; omega)⟩).setCell (p := ⟨g, 0, none⟩) H.out.2.2.2.1 _)

end Go.Proofs.Ytblfbmdnkgebdaa

/-
  graph.add: of a variable that was met.
-/
namespace Go.Proofs.Ytblfbmdnkgebdaa
open Go.RowKit Go.Maps

set_option maxRecDepth 100000 in
set_option maxHeartbeats 2000000 in
/-- A variable that was met. -/
theorem add_old (w0 : World) (base g bv : Nat) (ns : List Nd) (ν : Nv) (n : Nat) (v : Value) (W : World) (h : GAt w0 base g bv ns ν n v W) (hb : base ≤ W.heap.size) (hbg : base ≤ g) (t : T) (ta : Option Addr) (tc : Nat) (ht : ArgsAt w0 (.slice ta t.args.length tc) t.args) (hv : uvar t = true) (k : Int) (hk : ν t.v = some k) (hF : Fit64 t.v) (hl : ns.length ≤ 100000) :
    Calls Try.prog 52 #[.pointer (some ⟨g, 0, none⟩), tval t (.slice ta t.args.length tc)] W fun e W' => e = .returned (.tuple #[]) ∧ Below base W W' ∧ ∃ v', GAt w0 base g bv (ns ++ [⟨t, .slice ta t.args.length tc, 0, k, false, 0, 0⟩]) ν n v' W' := by
  obtain ⟨va, vc, rfl⟩ := rowB_form h.row
  have lg := (Array.getElem?_eq_some_iff.1 h.box).1
  have g0 : W.cell? ⟨g, 0, none⟩ = some (.slice va ns.length vc) := by simp [World.cell?, h.box]
  have hb1 := below_box W (tbox t (.slice ta t.args.length tc))
  obtain ⟨t0, t1, t2⟩ := tbox_cells W t (.slice ta t.args.length tc)
  have g1 := kc hb1 lg g0
  have g1' : (W.alloc (tbox t (.slice ta t.args.length tc))).cell? ⟨g, 1, none⟩ = some (.map (some bv)) := kc hb1 lg (by simp [World.cell?, h.box])
  have HV : Hid (vm ν (.int .i64 t.v) = some (.int .i64 k) ∧ Fit64 t.v) := ⟨by simp [vm, hk], hF⟩
  have huv := (uvar_any t (.slice ta t.args.length tc) (W.alloc (tbox t (.slice ta t.args.length tc))) ⟨_, _, _, rfl⟩).mono (R' := fun e w' => e = .returned (.bool (uvar t)) ∧ Below (W.alloc (tbox t (.slice ta t.args.length tc))).heap.size (W.alloc (tbox t (.slice ta t.args.length tc))) w') (fun e w' h => ⟨h.1, by rw [h.2]; exact below_box _ _⟩)
  rw [hv] at huv
  have H : Hid (GAt w0 base g bv ns ν n (.slice va ns.length vc) W ∧ ArgsAt w0 (.slice ta t.args.length tc) t.args ∧ base ≤ W.heap.size ∧ base ≤ g ∧ g < W.heap.size) := ⟨h, ht, hb, hbg, lg⟩
  obtain ⟨i89, hi0, hz0, hz1, hz2⟩ := info_parts Try.info89
  clear h ht hb hbg hv hk hF
  go_enter Try.func52, Try.ntmps52
  go_wp2_with (go_at_call 59; refine huv.mono ?_; rintro e W2 ⟨rfl, hb2⟩; have c0 := kc hb2 (by simp) t0; have c1 := kc hb2 (by simp) t1; have c2 := kc hb2 (by simp) t2; have c3 := kc hb2 (by simp; omega) g1; have HB : Hid (Below W.heap.size W W2) := hb1.trans (hb2.mono (by simp)); have c4 := kc hb2 (by simp; omega) g1'; clear hb2 huv)
  have hlk : ∀ q, (Instr.lookup 49 (.map (some bv)) (.int .i64 t.v) true).run Try.prog (W2.drewN q) = .ok (.tuple #[.int .i64 k, .bool true]) (W2.drewN q) := fun q => (((H.out.1.map.same (((below_drewN HB.out q)).block bv H.out.1.map.lt)).look keyed3 Try.underlying49 (Try.zeroValue3 _) (key3 HV.out.2)).1 (.int .i64 k) HV.out.1).1
  go_quiet (fail)
  obtain ⟨W3, hW3⟩ : ∃ W3, W2.drewN nq = W3 := ⟨_, rfl⟩
  have hb3 : Below W2.heap.size W2 W3 := by rw [← hW3]; exact below_drewN (Below.refl _ _) nq
  rw [hW3]
  have e0 := kc hb3 (World.block_lt_of_cell? W2 _ c0) c0
  have e1 := kc hb3 (World.block_lt_of_cell? W2 _ c1) c1
  have e2 := kc hb3 (World.block_lt_of_cell? W2 _ c2) c2
  have e3 := kc hb3 (World.block_lt_of_cell? W2 _ c3) c3
  have HB3 : Hid (Below W.heap.size W W3) := HB.out.trans (hb3.mono HB.out.size)
  clear hW3 hb3 hlk c0 c1 c2 c3 c4
  go_wp2
  have HROW : Hid (∀ Y : World, Below W3.heap.size W3 Y → Y.ownsRow base 89 8 (.slice va ns.length vc) ns.length (flat8 ns)) := fun Y hY => row6_keep H.out.1.row (fun g' e => (hY.block g' (Nat.lt_of_lt_of_le (H.out.1.row.lt g' e).2 HB3.out.size)).trans (HB3.out.block g' (H.out.1.row.lt g' e).2))
  have HSZ : Hid (base ≤ W3.heap.size) := Nat.le_trans H.out.2.2.1 HB3.out.size
  have HBX : Hid (∀ Y w6 : World, Below W3.heap.size W3 Y → Y.grownBy w6 (Value.slice va ns.length vc).ownBlock → w6.heap[g]? = some (.cells #[.slice va ns.length vc, .map (some bv)] 51 (0, 0))) := fun Y w6 hY hg => (hg.block g (Nat.lt_of_lt_of_le (Nat.lt_of_lt_of_le H.out.2.2.2.2 HB3.out.size) hY.size) (fun e => H.out.1.own.1 e.symm)).trans ((hY.block g (Nat.lt_of_lt_of_le H.out.2.2.2.2 HB3.out.size)).trans ((HB3.out.block g H.out.2.2.2.2).trans H.out.1.box))
  have c3a : ∀ o : Obj, (W3.alloc o).cell? ⟨g, 0, none⟩ = some (.slice va ns.length vc) := fun o => kc (below_box W3 o) (World.block_lt_of_cell? W3 _ e3) e3
  go_region_law (refine step_append_own _ rfl (.tmp 37) (.tmp 41) 48 rfl base 89 i89 _ 8 88 Try.underlying48 hi0 hz0 hz1 hz2 rfl (by decide) (.slice va ns.length vc) ns.length (flat8 ns) rfl (HROW.out _ (below_box2x W3 _)) ⟨W3.heap.size, 0, none⟩ 1 1 (cells8 ⟨t, .slice ta t.args.length tc, 0, k, false, 0, 0⟩) rfl rfl (lit8 W3 _ _ _ _ _ _ _ _ 89) (one8 _ _ _ _ _ _ _ _ _) (by unfold maxLen; omega) (by omega) (by have := HSZ.out; simp; omega) ?_; intro v' w6 hrow6 hg6 hb6; obtain ⟨a6x, c6x, rfl⟩ := rowB_form hrow6; have hbx6 := HBX.out _ w6 (below_box2x W3 _) hg6; have hc6 : w6.cell? ⟨g, 0, none⟩ = some (.slice va ns.length vc) := by { simp [World.cell?, hbx6] }; have hf6 : w6.frozen? ⟨g, 0, none⟩ = false := by { simp [World.frozen?, hbx6] })
  all_goals (
    refine bodyPost_end (results_none rfl _ _ _) rfl ?_
    refine ⟨rfl, ?_, _, H.out.1.push H.out.2.2.1 (HB3.out.trans ((below_box2x W3 _).mono HB3.out.size)) _ H.out.2.1 hrow6 hg6 hb6⟩
    have hbb : Below base W ((W3.alloc (.cells #[.int .i64 t.v, .string t.fn, .slice ta t.args.length tc, .int .i64 0, .int .i64 k, .bool false, .int .i64 0, .int .i64 0] 89)).drew) := (HB3.out.trans ((below_box2x W3 _).mono HB3.out.size)).mono H.out.2.2.1
    refine (hbb.trans ⟨hg6.os, hg6.tape, hg6.output, hg6.size, fun k hk => hg6.block k (by have := hbb.size; have := H.out.2.2.1; omega) (fun e => by have := (H.out.1.row.lt k e.symm).1; omega)⟩).setCell (p := ⟨g, 0, none⟩) H.out.2.2.2.1 _)

end Go.Proofs.Ytblfbmdnkgebdaa

/-
  graph.add: of a new variable.
-/
namespace Go.Proofs.Ytblfbmdnkgebdaa
open Go.RowKit Go.Maps

set_option maxRecDepth 100000 in
set_option maxHeartbeats 2000000 in
/-- A new variable. -/
theorem add_new (w0 : World) (base g bv : Nat) (ns : List Nd) (ν : Nv) (n : Nat) (v : Value) (W : World) (h : GAt w0 base g bv ns ν n v W) (hb : base ≤ W.heap.size) (hbg : base ≤ g) (t : T) (ta : Option Addr) (tc : Nat) (ht : ArgsAt w0 (.slice ta t.args.length tc) t.args) (hv : uvar t = true) (hk : ν t.v = none) (hF : Fit64 t.v) (hl : ns.length ≤ 100000) (hn : n ≤ 1000000) (hbv : base ≤ bv) :
    Calls Try.prog 52 #[.pointer (some ⟨g, 0, none⟩), tval t (.slice ta t.args.length tc)] W fun e W' => e = .returned (.tuple #[]) ∧ Below base W W' ∧ ∃ v', GAt w0 base g bv (ns ++ [⟨t, .slice ta t.args.length tc, 0, ns.length, false, 0, 0⟩]) (ν.put t.v ns.length) (n + 1) v' W' := by
  obtain ⟨va, vc, rfl⟩ := rowB_form h.row
  have lg := (Array.getElem?_eq_some_iff.1 h.box).1
  have g0 : W.cell? ⟨g, 0, none⟩ = some (.slice va ns.length vc) := by simp [World.cell?, h.box]
  have hb1 := below_box W (tbox t (.slice ta t.args.length tc))
  obtain ⟨t0, t1, t2⟩ := tbox_cells W t (.slice ta t.args.length tc)
  have g1 := kc hb1 lg g0
  have g1' : (W.alloc (tbox t (.slice ta t.args.length tc))).cell? ⟨g, 1, none⟩ = some (.map (some bv)) := kc hb1 lg (by simp [World.cell?, h.box])
  have HV : Hid (vm ν (.int .i64 t.v) = none ∧ Fit64 t.v ∧ base ≤ bv) := ⟨by simp [vm, hk], hF, hbv⟩
  have huv := (uvar_any t (.slice ta t.args.length tc) (W.alloc (tbox t (.slice ta t.args.length tc))) ⟨_, _, _, rfl⟩).mono (R' := fun e w' => e = .returned (.bool (uvar t)) ∧ Below (W.alloc (tbox t (.slice ta t.args.length tc))).heap.size (W.alloc (tbox t (.slice ta t.args.length tc))) w') (fun e w' h => ⟨h.1, by rw [h.2]; exact below_box _ _⟩)
  rw [hv] at huv
  have H : Hid (GAt w0 base g bv ns ν n (.slice va ns.length vc) W ∧ ArgsAt w0 (.slice ta t.args.length tc) t.args ∧ base ≤ W.heap.size ∧ base ≤ g ∧ g < W.heap.size) := ⟨h, ht, hb, hbg, lg⟩
  obtain ⟨i89, hi0, hz0, hz1, hz2⟩ := info_parts Try.info89
  clear h ht hb hbg hv hk hF hbv
  go_enter Try.func52, Try.ntmps52
  go_wp2_with (go_at_call 59; refine huv.mono ?_; rintro e W2 ⟨rfl, hb2⟩; have c0 := kc hb2 (by simp) t0; have c1 := kc hb2 (by simp) t1; have c2 := kc hb2 (by simp) t2; have c3 := kc hb2 (by simp; omega) g1; have HB : Hid (Below W.heap.size W W2) := hb1.trans (hb2.mono (by simp)); have c4 := kc hb2 (by simp; omega) g1'; clear hb2 huv)
  have hlk : ∀ q, (Instr.lookup 49 (.map (some bv)) (.int .i64 t.v) true).run Try.prog (W2.drewN q) = .ok (.tuple #[.int .i64 0, .bool false]) (W2.drewN q) := fun q => (((H.out.1.map.same (((below_drewN HB.out q)).block bv H.out.1.map.lt)).look keyed3 Try.underlying49 (Try.zeroValue3 _) (key3 HV.out.2.1)).2 HV.out.1).1
  go_quiet (fail)
  obtain ⟨W3, hW3⟩ : ∃ W3, W2.drewN nq = W3 := ⟨_, rfl⟩
  have hb3 : Below W2.heap.size W2 W3 := by rw [← hW3]; exact below_drewN (Below.refl _ _) nq
  rw [hW3]
  have e0 := kc hb3 (World.block_lt_of_cell? W2 _ c0) c0
  have e1 := kc hb3 (World.block_lt_of_cell? W2 _ c1) c1
  have e2 := kc hb3 (World.block_lt_of_cell? W2 _ c2) c2
  have e3 := kc hb3 (World.block_lt_of_cell? W2 _ c3) c3
  have HB3 : Hid (Below W.heap.size W W3) := HB.out.trans (hb3.mono HB.out.size)
  have e4 := kc hb3 (World.block_lt_of_cell? W2 _ c4) c4
  clear hW3 hb3 hlk c0 c1 c2 c3 c4
  obtain ⟨W4, hrun, hM, hg4⟩ := (H.out.1.map.same ((HB3.out.drew).block bv H.out.1.map.lt)).put keyed3 Try.underlying49 (by unfold maxLen; omega) (key3 HV.out.2.1) (.int .i64 ns.length)
  rw [HV.out.1, vm_put] at hM
  simp only at hM
  have hne4 : g ≠ bv := H.out.1.ne
  have k0 := hg4.cell (a := ⟨W.heap.size, 0, none⟩) e0 (fun e => by have e' : W.heap.size = bv := Option.some.inj e; have := H.out.1.map.lt; omega)
  have k1 := hg4.cell (a := ⟨W.heap.size, 1, none⟩) e1 (fun e => by have e' : W.heap.size = bv := Option.some.inj e; have := H.out.1.map.lt; omega)
  have k2 := hg4.cell (a := ⟨W.heap.size, 2, none⟩) e2 (fun e => by have e' : W.heap.size = bv := Option.some.inj e; have := H.out.1.map.lt; omega)
  have k3 := hg4.cell (a := ⟨g, 0, none⟩) e3 (fun e => hne4 (Option.some.inj e))
  have H4 : Hid (GAt w0 base g bv ns (ν.put t.v ns.length) (n + 1) (.slice va ns.length vc) W4 ∧ Below base W W4 ∧ W.heap.size ≤ W4.heap.size) := by
    have hgg := (HB3.out.drew).block
    refine ⟨⟨?_, ?_, hM, H.out.1.args, H.out.1.ne, H.out.1.own⟩, (HB3.out.drew.mono H.out.2.2.1).trans ⟨hg4.os, hg4.tape, hg4.output, hg4.size, fun k hk => hg4.block k (by have := HB3.out.size; have := H.out.2.2.1; show k < W3.heap.size; omega) (fun e => by have := Option.some.inj e; have := HV.out.2.2; omega)⟩, Nat.le_trans HB3.out.size hg4.size⟩
    · exact (hg4.block g (Nat.lt_of_lt_of_le H.out.2.2.2.2 HB3.out.size) (fun e => hne4 (Option.some.inj e))).trans ((hgg g H.out.2.2.2.2).trans H.out.1.box)
    · exact row6_keep H.out.1.row (fun q e => (hg4.block q (Nat.lt_of_lt_of_le (H.out.1.row.lt q e).2 HB3.out.size) (fun e2 => H.out.1.own.2 (by rw [e]; exact e2))).trans (hgg q (H.out.1.row.lt q e).2))
  clear hM
  go_wp2
  go_region
  all_goals clear hrun
  all_goals go_wp2
  have HROW : Hid (∀ Y : World, Below W4.heap.size W4 Y → Y.ownsRow base 89 8 (.slice va ns.length vc) ns.length (flat8 ns)) := fun Y hY => row6_keep H4.out.1.row (fun g' e => hY.block g' (H4.out.1.row.lt g' e).2)
  have HSZ : Hid (base ≤ W4.heap.size) := Nat.le_trans H.out.2.2.1 H4.out.2.2
  have HBX : Hid (∀ Y w6 : World, Below W4.heap.size W4 Y → Y.grownBy w6 (Value.slice va ns.length vc).ownBlock → w6.heap[g]? = some (.cells #[.slice va ns.length vc, .map (some bv)] 51 (0, 0))) := fun Y w6 hY hg => (hg.block g (Nat.lt_of_lt_of_le (Nat.lt_of_lt_of_le H.out.2.2.2.2 H4.out.2.2) hY.size) (fun e => H4.out.1.own.1 e.symm)).trans ((hY.block g (Nat.lt_of_lt_of_le H.out.2.2.2.2 H4.out.2.2)).trans H4.out.1.box)
  have c3a : ∀ o : Obj, (W4.alloc o).cell? ⟨g, 0, none⟩ = some (.slice va ns.length vc) := fun o => kc (below_box W4 o) (World.block_lt_of_cell? W4 _ k3) k3
  go_region_law (refine step_append_own _ rfl (.tmp 37) (.tmp 41) 48 rfl base 89 i89 _ 8 88 Try.underlying48 hi0 hz0 hz1 hz2 rfl (by decide) (.slice va ns.length vc) ns.length (flat8 ns) rfl (HROW.out _ (below_box2x W4 _)) ⟨W4.heap.size, 0, none⟩ 1 1 (cells8 ⟨t, .slice ta t.args.length tc, 0, ns.length, false, 0, 0⟩) rfl rfl (lit8 W4 _ _ _ _ _ _ _ _ 89) (one8 _ _ _ _ _ _ _ _ _) (by unfold maxLen; omega) (by omega) (by have := HSZ.out; simp; omega) ?_; intro v' w6 hrow6 hg6 hb6; obtain ⟨a6x, c6x, rfl⟩ := rowB_form hrow6; have hbx6 := HBX.out _ w6 (below_box2x W4 _) hg6; have hc6 : w6.cell? ⟨g, 0, none⟩ = some (.slice va ns.length vc) := by { simp [World.cell?, hbx6] }; have hf6 : w6.frozen? ⟨g, 0, none⟩ = false := by { simp [World.frozen?, hbx6] })
  all_goals (
    refine bodyPost_end (results_none rfl _ _ _) rfl ?_
    refine ⟨rfl, ?_, _, H4.out.1.push HSZ.out (below_box2x W4 _) _ H.out.2.1 hrow6 hg6 hb6⟩
    have hbb : Below base W ((W4.alloc (.cells #[.int .i64 t.v, .string t.fn, .slice ta t.args.length tc, .int .i64 0, .int .i64 ns.length, .bool false, .int .i64 0, .int .i64 0] 89)).drew) := H4.out.2.1.trans ((below_box2x W4 _).mono HSZ.out)
    refine (hbb.trans ⟨hg6.os, hg6.tape, hg6.output, hg6.size, fun k hk => hg6.block k (by have := hbb.size; have := H.out.2.2.1; omega) (fun e => by have := (H4.out.1.row.lt k e.symm).1; omega)⟩).setCell (p := ⟨g, 0, none⟩) H.out.2.2.2.1 _)

end Go.Proofs.Ytblfbmdnkgebdaa
