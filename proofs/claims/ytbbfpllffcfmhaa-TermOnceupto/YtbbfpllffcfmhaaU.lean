/-
  missing's closure.
-/
import Derived.Test.YtbbfpllffcfmhaaS
import Derived.Test.YtbbfpllffcfmhaaQ
namespace Go.Proofs.Ytbbfpllffcfmhaa
open Go.RowKit Go.Maps

theorem load_node_cells (b : Nat) (cs : List Value) (hl : cs.length = 19) (w : World) (hc : w.heap[b]? = some (.cells cs.toArray 82 (0, 0))) : Sem.run Try.prog (loadCellsFrom ⟨b, 0, none⟩ 0 19 #[]) w = .ok cs.toArray w := by
  have := run_loadCells_list (P := Try.prog) w ⟨b, 0, none⟩ cs (fun j v hv => by
    rw [Addr.add_mid, Nat.zero_add, cell_of_row _ _ _ _ 82 (0, 0) hc]
    simpa using hv)
  rw [hl] at this
  simpa [loadCells] using this

/-- One operation that yields its value in every world of the class. -/
theorem wpQuiet_val {ops : Array Oper} {C : World → Prop} {Q : Act → Prop} {rest : List Oper} {o : Oper} {a : Act} (hg : o.guard = none) (v : Value) (h : ∀ w, C w → (execOp a.eval o).run Try.prog w = .ok (.value v) w) (hr : wpQuiet Try.prog ops C Q rest (a.put o.dst v)) : wpQuiet Try.prog ops C Q (o :: rest) a :=
  wpQuiet_step fun K hK => by
    rw [if_pos (by simp [Region.wanted, hg])]
    exact ⟨v, fun w hw => by unfold Oper.quietAt; rw [h w hw]; exact ⟨rfl, rfl⟩, hK _ hr⟩

/-- A node out of its block, in a region that only reads. -/
theorem wpQuiet_load_node {ops : Array Oper} {C : World → Prop} {Q : Act → Prop} {rest : List Oper} {o : Oper} {a : Act} (hg : o.guard = none) (x : Operand) (ho : o.op = .load 82 x) (b : Nat) (hx : a.eval x = .pointer (some ⟨b, 0, none⟩)) (cs : List Value) (hl : cs.length = 19)
    (hc : ∀ w, C w → w.heap[b]? = some (.cells cs.toArray 82 (0, 0))) (hr : wpQuiet Try.prog ops C Q rest (a.put o.dst (.agg cs.toArray))) : wpQuiet Try.prog ops C Q (o :: rest) a :=
  wpQuiet_val hg _ (fun w hw => by
    have h1 := run_loadAt_mid (P := Try.prog) w b 0 82 cs _ (fun j v hv => by rw [Nat.zero_add, cell_of_row _ _ _ _ 82 (0, 0) (hc w hw)]; simpa using hv) Try.underlying82 rfl (by rw [hl]; exact Try.info82)
    unfold execOp
    simp only [ho, hx, Sem.run_bind, h1, Result.andThen_ok, Sem.run_pure]) hr

theorem below_drewN {n : Nat} {a w : World} (h : Below n a w) (q : Nat) : Below n a (w.drewN q) := by
  induction q with
  | zero => exact h
  | succ q ih => exact ih.drew

/-- A store into a map, by its run. -/
theorem wpList_mapUpdate_run {ops : Array Oper} {rest : List Oper} {op : Oper} {a : Act} {w w' : World} {Q : Exit → Act → World → Prop} (hgd : op.guard = none) (t : TypeId) (m x v : Operand) (ho : op.op = .mapUpdate t m x v) (mv kv vv : Value) (hm : a.eval m = mv) (hx : a.eval x = kv) (hv : a.eval v = vv)
    (hrun : (Instr.mapUpdate t mv kv vv).run Try.prog w = .ok () w') (h : wpList Try.prog ops Q rest (a.put op.dst undef) w') : wpList Try.prog ops Q (op :: rest) a w := by
  refine wpList_plain hgd fun _ hK => ?_
  unfold Oper.wp execOp
  simp only [ho, hm, hx, hv, Sem.run_bind, hrun, Result.andThen_ok, Sem.run_pure]
  exact hK _ _ h

set_option maxRecDepth 100000 in
set_option maxHeartbeats 1000000 in
/-- The bank has the node. -/
theorem miss_old (Bp Bf Ba bn : Nat) (cells : List Value) (hl : cells.length = 19) (id : Int) (W : World) (hbn : bn < W.heap.size) (hp : W.cell? ⟨Bp, 0, none⟩ = some (.pointer (some ⟨Ba, 0, none⟩))) (hc1 : W.cell? ⟨Ba, 1, none⟩ = some (.map (some bn)))
    (hlook : ∀ X : World, X.heap[bn]? = W.heap[bn]? → (Instr.lookup 72 (.map (some bn)) (.agg cells.toArray) true).run Try.prog X = .ok (.tuple #[.int .i64 id, .bool true]) X) :
    Calls Try.prog 65 #[.agg cells.toArray, .pointer (some ⟨Bp, 0, none⟩), .pointer (some ⟨Bf, 0, none⟩)] W fun e W' => e = .returned (.int .i64 id) ∧ Below W.heap.size W W' := by
  have hb := below_box W (.cells cells.toArray 82)
  have hp1 := kc hb (World.block_lt_of_cell? W _ hp) hp
  have hc2 := kc hb (World.block_lt_of_cell? W _ hc1) hc1
  have hlk : ∀ q, (Instr.lookup 72 (.map (some bn)) (.agg cells.toArray) true).run Try.prog ((W.alloc (.cells cells.toArray 82)).drewN q) = .ok (.tuple #[.int .i64 id, .bool true]) ((W.alloc (.cells cells.toArray 82)).drewN q) := fun q => hlook _ (below_drewN hb q |>.block bn hbn)
  have hbx : (W.alloc (.cells cells.toArray 82)).heap[W.heap.size]? = some (.cells cells.toArray 82 (0, 0)) := (MapKept.heap_alloc W _).1
  clear hlook hp hc1
  go_enter Try.func65, Try.ntmps65
  go_wp2
  generalize W.alloc (.cells cells.toArray 82) = W1 at *
  refine wp_region_quiet_lit (by kernel_rfl) (by kernel_rfl) ?_
  repeat (first | (refine wpQuiet_load_node rfl _ rfl W.heap.size rfl cells hl (fun w ⟨q, hq⟩ => by rw [hq]; exact (below_drewN (Below.refl (W.heap.size + 1) W1) q).block _ (Nat.lt_succ_self _) |>.trans hbx) ?_) | quiet_step (fail))
  refine wpQuiet_nil ?_
  intro _ hw'
  obtain ⟨nq, hw''⟩ := hw'
  subst hw''
  go_wp2
  go_ret
  exact ⟨rfl, below_drewN hb nq⟩

set_option maxRecDepth 100000 in
set_option maxHeartbeats 1000000 in
/-- The node was met before. -/
theorem miss_met (Bp Bf Ba bn bf : Nat) (cells : List Value) (hl : cells.length = 19) (id : Int) (z : Value) (W : World) (hbn : bn < W.heap.size) (hbf : bf < W.heap.size) (hp : W.cell? ⟨Bp, 0, none⟩ = some (.pointer (some ⟨Ba, 0, none⟩))) (hc1 : W.cell? ⟨Ba, 1, none⟩ = some (.map (some bn))) (hf : W.cell? ⟨Bf, 0, none⟩ = some (.map (some bf)))
    (hlook : ∀ X : World, X.heap[bn]? = W.heap[bn]? → (Instr.lookup 72 (.map (some bn)) (.agg cells.toArray) true).run Try.prog X = .ok (.tuple #[z, .bool false]) X)
    (hmet : ∀ X : World, X.heap[bf]? = W.heap[bf]? → (Instr.lookup 72 (.map (some bf)) (.agg cells.toArray) true).run Try.prog X = .ok (.tuple #[.int .i64 id, .bool true]) X ∧ (Instr.lookup 72 (.map (some bf)) (.agg cells.toArray) false).run Try.prog X = .ok (.int .i64 id) X) :
    Calls Try.prog 65 #[.agg cells.toArray, .pointer (some ⟨Bp, 0, none⟩), .pointer (some ⟨Bf, 0, none⟩)] W fun e W' => e = .returned (.int .i64 id) ∧ Below W.heap.size W W' := by
  have hb := below_box W (.cells cells.toArray 82)
  have hp1 := kc hb (World.block_lt_of_cell? W _ hp) hp
  have hc2 := kc hb (World.block_lt_of_cell? W _ hc1) hc1
  have hf1 := kc hb (World.block_lt_of_cell? W _ hf) hf
  have hlk : ∀ q, (Instr.lookup 72 (.map (some bn)) (.agg cells.toArray) true).run Try.prog ((W.alloc (.cells cells.toArray 82)).drewN q) = .ok (.tuple #[z, .bool false]) ((W.alloc (.cells cells.toArray 82)).drewN q) := fun q => hlook _ (below_drewN hb q |>.block bn hbn)
  have hm1 : ∀ q, (Instr.lookup 72 (.map (some bf)) (.agg cells.toArray) true).run Try.prog ((W.alloc (.cells cells.toArray 82)).drewN q) = .ok (.tuple #[.int .i64 id, .bool true]) ((W.alloc (.cells cells.toArray 82)).drewN q) := fun q => (hmet _ (below_drewN hb q |>.block bf hbf)).1
  have hm2 : ∀ q, (Instr.lookup 72 (.map (some bf)) (.agg cells.toArray) false).run Try.prog ((W.alloc (.cells cells.toArray 82)).drewN q) = .ok (.int .i64 id) ((W.alloc (.cells cells.toArray 82)).drewN q) := fun q => (hmet _ (below_drewN hb q |>.block bf hbf)).2
  have hbx : ∀ q, ((W.alloc (.cells cells.toArray 82)).drewN q).heap[W.heap.size]? = some (.cells cells.toArray 82 (0, 0)) := fun q => ((below_drewN (Below.refl (W.heap.size + 1) _) q).block _ (Nat.lt_succ_self _)).trans (MapKept.heap_alloc W _).1
  clear hlook hp hc1 hmet hf
  go_enter Try.func65, Try.ntmps65
  go_wp2
  generalize W.alloc (.cells cells.toArray 82) = W1 at *
  refine wp_region_quiet_lit (by kernel_rfl) (by kernel_rfl) ?_
  repeat (first | (refine wpQuiet_load_node rfl _ rfl W.heap.size rfl cells hl (fun w ⟨q, hq⟩ => by rw [hq]; exact hbx q) ?_) | quiet_step (fail))
  refine wpQuiet_nil ?_
  intro _ hw'
  obtain ⟨nq, hw''⟩ := hw'
  subst hw''
  have hbn1 := hbx nq
  go_wp2_with (refine wpList_load_node rfl _ rfl W.heap.size rfl cells hbn1 hl ?_)
  go_ret
  exact ⟨rfl, below_drewN hb nq⟩

theorem zero3 (w : World) : (zeroValue 3).run Try.prog w = .ok (.int .i64 0) w := Try.zeroValue3 w

set_option maxRecDepth 100000 in
set_option maxHeartbeats 1000000 in
/-- The node is new. -/
theorem miss_new (Bp Bf Ba bn bf n : Nat) (cells : List Value) (kl : Lit) (fm : Value → Option Value) (hl : cells.length = 19) (z : Value) (W : World) (hbn : bn < W.heap.size) (hBf : Bf ≠ bf) (hp : W.cell? ⟨Bp, 0, none⟩ = some (.pointer (some ⟨Ba, 0, none⟩))) (hc1 : W.cell? ⟨Ba, 1, none⟩ = some (.map (some bn))) (hf : W.cell? ⟨Bf, 0, none⟩ = some (.map (some bf)))
    (hlook : ∀ X : World, X.heap[bn]? = W.heap[bn]? → (Instr.lookup 72 (.map (some bn)) (.agg cells.toArray) true).run Try.prog X = .ok (.tuple #[z, .bool false]) X)
    (hfm : MapIs W 82 bf fm n) (hk : keyOf Try.prog 82 (.agg cells.toArray) = some kl) (hno : fm (.agg cells.toArray) = none) (hn : n ≤ 1073741824) :
    Calls Try.prog 65 #[.agg cells.toArray, .pointer (some ⟨Bp, 0, none⟩), .pointer (some ⟨Bf, 0, none⟩)] W fun e W' => e = .returned (.int .i64 (-1 - n)) ∧ MapIs W' 82 bf (upd fm (.agg cells.toArray) (.int .i64 (-1 - n))) (n + 1) ∧ Only [bf] W W' := by
  have hb := below_box W (.cells cells.toArray 82)
  have hp1 := kc hb (World.block_lt_of_cell? W _ hp) hp
  have hc2 := kc hb (World.block_lt_of_cell? W _ hc1) hc1
  have hflt := World.block_lt_of_cell? W _ hf
  have hf1 := kc hb hflt hf
  have hbf := hfm.lt
  have hfd : ∀ q, MapIs ((W.alloc (.cells cells.toArray 82)).drewN q) 82 bf fm n := fun q => hfm.same (below_drewN hb q |>.block bf hbf)
  have hlk : ∀ q, (Instr.lookup 72 (.map (some bn)) (.agg cells.toArray) true).run Try.prog ((W.alloc (.cells cells.toArray 82)).drewN q) = .ok (.tuple #[z, .bool false]) ((W.alloc (.cells cells.toArray 82)).drewN q) := fun q => hlook _ (below_drewN hb q |>.block bn hbn)
  have hm1 : ∀ q, (Instr.lookup 72 (.map (some bf)) (.agg cells.toArray) true).run Try.prog ((W.alloc (.cells cells.toArray 82)).drewN q) = .ok (.tuple #[.int .i64 0, .bool false]) ((W.alloc (.cells cells.toArray 82)).drewN q) := fun q => (((hfd q).look keyed82 Try.underlying72 (zero3 _) hk).2 hno).1
  have hlen : ∀ q, (Builtin.len_ #[72] 3 #[.map (some bf)]).run Try.prog ((W.alloc (.cells cells.toArray 82)).drewN q) = .ok (.int .i64 n) ((W.alloc (.cells cells.toArray 82)).drewN q) := fun q => (hfd q).len Try.underlying72 3
  have hput := fun q => (hfd q).put keyed82 Try.underlying72 (by unfold maxLen; omega) hk (.int .i64 (-1 - n))
  have hbx : ∀ q, ((W.alloc (.cells cells.toArray 82)).drewN q).heap[W.heap.size]? = some (.cells cells.toArray 82 (0, 0)) := fun q => ((below_drewN (Below.refl (W.heap.size + 1) _) q).block _ (Nat.lt_succ_self _)).trans (MapKept.heap_alloc W _).1
  clear hlook hp hc1 hfm hf hfd
  go_enter Try.func65, Try.ntmps65
  go_wp2
  generalize W.alloc (.cells cells.toArray 82) = W1 at *
  refine wp_region_quiet_lit (by kernel_rfl) (by kernel_rfl) ?_
  repeat (first | (refine wpQuiet_load_node rfl _ rfl W.heap.size rfl cells hl (fun w ⟨q, hq⟩ => by rw [hq]; exact hbx q) ?_) | quiet_step (fail))
  refine wpQuiet_nil ?_
  intro _ hw'
  obtain ⟨nq, hw''⟩ := hw'
  subst hw''
  have hbn1 := hbx nq
  obtain ⟨W2, hrun, hM2, hg2⟩ := hput nq
  rw [hno] at hM2
  simp only at hM2
  have hf2 : W2.cell? ⟨Bf, 0, none⟩ = some (.map (some bf)) := hg2.cell (a := ⟨Bf, 0, none⟩) ((below_drewN (Below.refl W1.heap.size W1) nq).cell (p := ⟨Bf, 0, none⟩) (World.block_lt_of_cell? W1 _ hf1) |>.trans hf1) (fun e => hBf (Option.some.inj e))
  have hbn2 : W2.heap[W.heap.size]? = some (.cells cells.toArray 82 (0, 0)) := (hg2.block _ (Array.getElem?_eq_some_iff.1 hbn1).1 (fun e => by have := Option.some.inj e; omega)).trans hbn1
  have hlast := ((hM2.look keyed82 Try.underlying72 (zero3 _) hk).1 (.int .i64 (-1 - n)) (by simp [upd])).2
  have hO : Only [bf] W W2 := (Only.of_below (B := [bf]) (below_drewN hb nq)).trans (B' := [bf]) (Only.of_grown hg2 (fun r e => by cases e; simp)) (fun r hr => .inl hr)
  go_wp2_with (first
    | (refine wpList_load_node rfl _ rfl W.heap.size rfl cells hbn1 hl ?_)
    | (refine wpList_load_node rfl _ rfl W.heap.size rfl cells hbn2 hl ?_)
    | (refine wpList_mapUpdate_run rfl 72 _ _ _ rfl (.map (some bf)) (.agg cells.toArray) (.int .i64 (-1 - n)) rfl rfl rfl hrun ?_))
  go_ret
  exact ⟨rfl, hM2, hO⟩

end Go.Proofs.Ytbbfpllffcfmhaa
