import Derived.Test.YtbbfpllffcfmhaaS
import Derived.Test.YtbbfpllffcfmhaaQ

/-
  missing's closure.
-/
namespace Go.Proofs.Ytbbfpllffcfmhaa
open Go.RowKit Go.Maps

theorem load_node_cells (b : Nat) (cs : List Value) (hl : cs.length = 19) (w : World) (hc : w.heap[b]? = some (.cells cs.toArray 82 (0, 0))) : Sem.run Try.prog (loadCellsFrom ⟨b, 0, none⟩ 0 19 #[]) w = .ok cs.toArray w := by
  have := run_loadCells_list (P := Try.prog) w ⟨b, 0, none⟩ cs (fun j v hv => by
    rw [Addr.add_mid, Nat.zero_add, cell_of_row _ _ _ _ 82 (0, 0) hc]
    simpa using hv)
  rw [hl] at this
  simpa [loadCells] using this

/-- One operation that yields its value in every world of the class. -/
theorem wpQuiet_val {ops : Array Oper} {C : World → Prop} {Q : Act → Prop} {rest : List Oper} {o : Oper} {a : Act} (hg : o.guard = none) (v : Value) (h : ∀ w, C w → (execOp a.eval o).run Try.prog w = .ok (.value v) w) (hr : wpQuiet Try.prog ops C Q rest (a.put o.dst v)) : wpQuiet Try.prog ops C Q (o :: rest) a :=
  wpQuiet_step fun K hK => by
    rw [if_pos (by simp [Region.wanted, hg])]
    exact ⟨v, fun w hw => by unfold Oper.quietAt; rw [h w hw]; exact ⟨rfl, rfl⟩, hK _ hr⟩

/-- A node out of its block, in a region that only reads. -/
theorem wpQuiet_load_node {ops : Array Oper} {C : World → Prop} {Q : Act → Prop} {rest : List Oper} {o : Oper} {a : Act} (hg : o.guard = none) (x : Operand) (ho : o.op = .load 82 x) (b : Nat) (hx : a.eval x = .pointer (some ⟨b, 0, none⟩)) (cs : List Value) (hl : cs.length = 19)
    (hc : ∀ w, C w → w.heap[b]? = some (.cells cs.toArray 82 (0, 0))) (hr : wpQuiet Try.prog ops C Q rest (a.put o.dst (.agg cs.toArray))) : wpQuiet Try.prog ops C Q (o :: rest) a :=
  wpQuiet_val hg _ (fun w hw => by
    have h1 := run_loadAt_mid (P := Try.prog) w b 0 82 cs _ (fun j v hv => by rw [Nat.zero_add, cell_of_row _ _ _ _ 82 (0, 0) (hc w hw)]; simpa using hv) Try.underlying82 rfl (by rw [hl]; exact Try.info82)
    unfold execOp
    simp only [ho, hx, Sem.run_bind, h1, Result.andThen_ok, Sem.run_pure]) hr

theorem below_drewN {n : Nat} {a w : World} (h : Below n a w) (q : Nat) : Below n a (w.drewN q) := by
  induction q with
  | zero => exact h
  | succ q ih => exact ih.drew

/-- A store into a map, by its run. -/
theorem wpList_mapUpdate_run {ops : Array Oper} {rest : List Oper} {op : Oper} {a : Act} {w w' : World} {Q : Exit → Act → World → Prop} (hgd : op.guard = none) (t : TypeId) (m x v : Operand) (ho : op.op = .mapUpdate t m x v) (mv kv vv : Value) (hm : a.eval m = mv) (hx : a.eval x = kv) (hv : a.eval v = vv)
    (hrun : (Instr.mapUpdate t mv kv vv).run Try.prog w = .ok () w') (h : wpList Try.prog ops Q rest (a.put op.dst undef) w') : wpList Try.prog ops Q (op :: rest) a w := by
  refine wpList_plain hgd fun _ hK => ?_
  unfold Oper.wp execOp
  simp only [ho, hm, hx, hv, Sem.run_bind, hrun, Result.andThen_ok, Sem.run_pure]
  exact hK _ _ h

set_option maxRecDepth 100000 in
set_option maxHeartbeats 1000000 in
/-- The bank has the node. -/
theorem miss_old (Bp Bf Ba bn : Nat) (cells : List Value) (hl : cells.length = 19) (id : Int) (W : World) (hbn : bn < W.heap.size) (hp : W.cell? ⟨Bp, 0, none⟩ = some (.pointer (some ⟨Ba, 0, none⟩))) (hc1 : W.cell? ⟨Ba, 1, none⟩ = some (.map (some bn)))
    (hlook : ∀ X : World, X.heap[bn]? = W.heap[bn]? → (Instr.lookup 72 (.map (some bn)) (.agg cells.toArray) true).run Try.prog X = .ok (.tuple #[.int .i64 id, .bool true]) X) :
    Calls Try.prog 65 #[.agg cells.toArray, .pointer (some ⟨Bp, 0, none⟩), .pointer (some ⟨Bf, 0, none⟩)] W fun e W' => e = .returned (.int .i64 id) ∧ Below W.heap.size W W' := by
  have hb := below_box W (.cells cells.toArray 82)
  have hp1 := kc hb (World.block_lt_of_cell? W _ hp) hp
  have hc2 := kc hb (World.block_lt_of_cell? W _ hc1) hc1
  have hlk : ∀ q, (Instr.lookup 72 (.map (some bn)) (.agg cells.toArray) true).run Try.prog ((W.alloc (.cells cells.toArray 82)).drewN q) = .ok (.tuple #[.int .i64 id, .bool true]) ((W.alloc (.cells cells.toArray 82)).drewN q) := fun q => hlook _ (below_drewN hb q |>.block bn hbn)
  have hbx : (W.alloc (.cells cells.toArray 82)).heap[W.heap.size]? = some (.cells cells.toArray 82 (0, 0)) := (MapKept.heap_alloc W _).1
  clear hlook hp hc1
  go_enter Try.func65, Try.ntmps65
  go_wp2
  generalize W.alloc (.cells cells.toArray 82) = W1 at *
  refine wp_region_quiet_lit (by kernel_rfl) (by kernel_rfl) ?_
  repeat (first | (refine wpQuiet_load_node rfl _ rfl W.heap.size rfl cells hl (fun w ⟨q, hq⟩ => by rw [hq]; exact (below_drewN (Below.refl (W.heap.size + 1) W1) q).block _ (Nat.lt_succ_self _) |>.trans hbx) ?_) | quiet_step (fail))
  refine wpQuiet_nil ?_
  intro _ hw'
  obtain ⟨nq, hw''⟩ := hw'
  subst hw''
  go_wp2
  go_ret
  exact ⟨rfl, below_drewN hb nq⟩

set_option maxRecDepth 100000 in
set_option maxHeartbeats 1000000 in
/-- The node was met before. -/
theorem miss_met (Bp Bf Ba bn bf : Nat) (cells : List Value) (hl : cells.length = 19) (id : Int) (z : Value) (W : World) (hbn : bn < W.heap.size) (hbf : bf < W.heap.size) (hp : W.cell? ⟨Bp, 0, none⟩ = some (.pointer (some ⟨Ba, 0, none⟩))) (hc1 : W.cell? ⟨Ba, 1, none⟩ = some (.map (some bn))) (hf : W.cell? ⟨Bf, 0, none⟩ = some (.map (some bf)))
    (hlook : ∀ X : World, X.heap[bn]? = W.heap[bn]? → (Instr.lookup 72 (.map (some bn)) (.agg cells.toArray) true).run Try.prog X = .ok (.tuple #[z, .bool false]) X)
    (hmet : ∀ X : World, X.heap[bf]? = W.heap[bf]? → (Instr.lookup 72 (.map (some bf)) (.agg cells.toArray) true).run Try.prog X = .ok (.tuple #[.int .i64 id, .bool true]) X ∧ (Instr.lookup 72 (.map (some bf)) (.agg cells.toArray) false).run Try.prog X = .ok (.int .i64 id) X) :
    Calls Try.prog 65 #[.agg cells.toArray, .pointer (some ⟨Bp, 0, none⟩), .pointer (some ⟨Bf, 0, none⟩)] W fun e W' => e = .returned (.int .i64 id) ∧ Below W.heap.size W W' := by
  have hb := below_box W (.cells cells.toArray 82)
  have hp1 := kc hb (World.block_lt_of_cell? W _ hp) hp
  have hc2 := kc hb (World.block_lt_of_cell? W _ hc1) hc1
  have hf1 := kc hb (World.block_lt_of_cell? W _ hf) hf
  have hlk : ∀ q, (Instr.lookup 72 (.map (some bn)) (.agg cells.toArray) true).run Try.prog ((W.alloc (.cells cells.toArray 82)).drewN q) = .ok (.tuple #[z, .bool false]) ((W.alloc (.cells cells.toArray 82)).drewN q) := fun q => hlook _ (below_drewN hb q |>.block bn hbn)
  have hm1 : ∀ q, (Instr.lookup 72 (.map (some bf)) (.agg cells.toArray) true).run Try.prog ((W.alloc (.cells cells.toArray 82)).drewN q) = .ok (.tuple #[.int .i64 id, .bool true]) ((W.alloc (.cells cells.toArray 82)).drewN q) := fun q => (hmet _ (below_drewN hb q |>.block bf hbf)).1
  have hm2 : ∀ q, (Instr.lookup 72 (.map (some bf)) (.agg cells.toArray) false).run Try.prog ((W.alloc (.cells cells.toArray 82)).drewN q) = .ok (.int .i64 id) ((W.alloc (.cells cells.toArray 82)).drewN q) := fun q => (hmet _ (below_drewN hb q |>.block bf hbf)).2
  have hbx : ∀ q, ((W.alloc (.cells cells.toArray 82)).drewN q).heap[W.heap.size]? = some (.cells cells.toArray 82 (0, 0)) := fun q => ((below_drewN (Below.refl (W.heap.size + 1) _) q).block _ (Nat.lt_succ_self _)).trans (MapKept.heap_alloc W _).1
  clear hlook hp hc1 hmet hf
  go_enter Try.func65, Try.ntmps65
  go_wp2
  generalize W.alloc (.cells cells.toArray 82) = W1 at *
  refine wp_region_quiet_lit (by kernel_rfl) (by kernel_rfl) ?_
  repeat (first | (refine wpQuiet_load_node rfl _ rfl W.heap.size rfl cells hl (fun w ⟨q, hq⟩ => by rw [hq]; exact hbx q) ?_) | quiet_step (fail))
  refine wpQuiet_nil ?_
  intro _ hw'
  obtain ⟨nq, hw''⟩ := hw'
  subst hw''
  have hbn1 := hbx nq
  go_wp2_with (refine wpList_load_node rfl _ rfl W.heap.size rfl cells hbn1 hl ?_)
  go_ret
  exact ⟨rfl, below_drewN hb nq⟩

theorem zero3 (w : World) : (zeroValue 3).run Try.prog w = .ok (.int .i64 0) w := Try.zeroValue3 w

set_option maxRecDepth 100000 in
set_option maxHeartbeats 1000000 in
/-- The node is new. -/
theorem miss_new (Bp Bf Ba bn bf n : Nat) (cells : List Value) (kl : Lit) (fm : Value → Option Value) (hl : cells.length = 19) (z : Value) (W : World) (hbn : bn < W.heap.size) (hBf : Bf ≠ bf) (hp : W.cell? ⟨Bp, 0, none⟩ = some (.pointer (some ⟨Ba, 0, none⟩))) (hc1 : W.cell? ⟨Ba, 1, none⟩ = some (.map (some bn))) (hf : W.cell? ⟨Bf, 0, none⟩ = some (.map (some bf)))
    (hlook : ∀ X : World, X.heap[bn]? = W.heap[bn]? → (Instr.lookup 72 (.map (some bn)) (.agg cells.toArray) true).run Try.prog X = .ok (.tuple #[z, .bool false]) X)
    (hfm : MapIs W 82 bf fm n) (hk : keyOf Try.prog 82 (.agg cells.toArray) = some kl) (hno : fm (.agg cells.toArray) = none) (hn : n ≤ 1073741824) :
    Calls Try.prog 65 #[.agg cells.toArray, .pointer (some ⟨Bp, 0, none⟩), .pointer (some ⟨Bf, 0, none⟩)] W fun e W' => e = .returned (.int .i64 (-1 - n)) ∧ MapIs W' 82 bf (upd fm (.agg cells.toArray) (.int .i64 (-1 - n))) (n + 1) ∧ Only [bf] W W' := by
  have hb := below_box W (.cells cells.toArray 82)
  have hp1 := kc hb (World.block_lt_of_cell? W _ hp) hp
  have hc2 := kc hb (World.block_lt_of_cell? W _ hc1) hc1
  have hflt := World.block_lt_of_cell? W _ hf
  have hf1 := kc hb hflt hf
  have hbf := hfm.lt
  have hfd : ∀ q, MapIs ((W.alloc (.cells cells.toArray 82)).drewN q) 82 bf fm n := fun q => hfm.same (below_drewN hb q |>.block bf hbf)
  have hlk : ∀ q, (Instr.lookup 72 (.map (some bn)) (.agg cells.toArray) true).run Try.prog ((W.alloc (.cells cells.toArray 82)).drewN q) = .ok (.tuple #[z, .bool false]) ((W.alloc (.cells cells.toArray 82)).drewN q) := fun q => hlook _ (below_drewN hb q |>.block bn hbn)
  have hm1 : ∀ q, (Instr.lookup 72 (.map (some bf)) (.agg cells.toArray) true).run Try.prog ((W.alloc (.cells cells.toArray 82)).drewN q) = .ok (.tuple #[.int .i64 0, .bool false]) ((W.alloc (.cells cells.toArray 82)).drewN q) := fun q => (((hfd q).look keyed82 Try.underlying72 (zero3 _) hk).2 hno).1
  have hlen : ∀ q, (Builtin.len_ #[72] 3 #[.map (some bf)]).run Try.prog ((W.alloc (.cells cells.toArray 82)).drewN q) = .ok (.int .i64 n) ((W.alloc (.cells cells.toArray 82)).drewN q) := fun q => (hfd q).len Try.underlying72 3
  have hput := fun q => (hfd q).put keyed82 Try.underlying72 (by unfold maxLen; omega) hk (.int .i64 (-1 - n))
  have hbx : ∀ q, ((W.alloc (.cells cells.toArray 82)).drewN q).heap[W.heap.size]? = some (.cells cells.toArray 82 (0, 0)) := fun q => ((below_drewN (Below.refl (W.heap.size + 1) _) q).block _ (Nat.lt_succ_self _)).trans (MapKept.heap_alloc W _).1
  clear hlook hp hc1 hfm hf hfd
  go_enter Try.func65, Try.ntmps65
  go_wp2
  generalize W.alloc (.cells cells.toArray 82) = W1 at *
  refine wp_region_quiet_lit (by kernel_rfl) (by kernel_rfl) ?_
  repeat (first | (refine wpQuiet_load_node rfl _ rfl W.heap.size rfl cells hl (fun w ⟨q, hq⟩ => by rw [hq]; exact hbx q) ?_) | quiet_step (fail))
  refine wpQuiet_nil ?_
  intro _ hw'
  obtain ⟨nq, hw''⟩ := hw'
  subst hw''
  have hbn1 := hbx nq
  obtain ⟨W2, hrun, hM2, hg2⟩ := hput nq
  rw [hno] at hM2
  simp only at hM2
  have hf2 : W2.cell? ⟨Bf, 0, none⟩ = some (.map (some bf)) := hg2.cell (a := ⟨Bf, 0, none⟩) ((below_drewN (Below.refl W1.heap.size W1) nq).cell (p := ⟨Bf, 0, none⟩) (World.block_lt_of_cell? W1 _ hf1) |>.trans hf1) (fun e => hBf (Option.some.inj e))
  have hbn2 : W2.heap[W.heap.size]? = some (.cells cells.toArray 82 (0, 0)) := (hg2.block _ (Array.getElem?_eq_some_iff.1 hbn1).1 (fun e => by have := Option.some.inj e; omega)).trans hbn1
  have hlast := ((hM2.look keyed82 Try.underlying72 (zero3 _) hk).1 (.int .i64 (-1 - n)) (by simp [upd])).2
  have hO : Only [bf] W W2 := (Only.of_below (B := [bf]) (below_drewN hb nq)).trans (B' := [bf]) (Only.of_grown hg2 (fun r e => by cases e; simp)) (fun r hr => .inl hr)
  go_wp2_with (first
    | (refine wpList_load_node rfl _ rfl W.heap.size rfl cells hbn1 hl ?_)
    | (refine wpList_load_node rfl _ rfl W.heap.size rfl cells hbn2 hl ?_)
    | (refine wpList_mapUpdate_run rfl 72 _ _ _ rfl (.map (some bf)) (.agg cells.toArray) (.int .i64 (-1 - n)) rfl rfl rfl hrun ?_))
  go_ret
  exact ⟨rfl, hM2, hO⟩

end Go.Proofs.Ytbbfpllffcfmhaa

/-
  missing: how many nodes of a term are not there.
-/
namespace Go.Proofs.Ytbbfpllffcfmhaa
open Go.RowKit Go.Maps

open Classical in
/-- Where a node stands in a list. -/
noncomputable def idxOf (s : List Nd) (key : Value) : Option Nat := s.findIdx? fun nd => decide (nd.val = key)
/-- The map of what was met. -/
noncomputable def freshMap (s : List Nd) (key : Value) : Option Value := (idxOf s key).map fun i => .int .i64 (-1 - (i : Int))

theorem idxOf_lt {s : List Nd} {key : Value} {i : Nat} (h : idxOf s key = some i) : i < s.length := by
  unfold idxOf at h
  exact (List.findIdx?_eq_some_iff_getElem.1 h).1
open Classical in
theorem idxOf_snoc (s : List Nd) (nd : Nd) (h : idxOf s nd.val = none) (key : Value) : idxOf (s ++ [nd]) key = if nd.val = key then some s.length else idxOf s key := by
  unfold idxOf at *
  rw [List.findIdx?_append]
  by_cases e : nd.val = key
  · rw [if_pos e, ← e, h]
    simp [List.findIdx?_cons]
  · rw [if_neg e]
    have : (List.findIdx? (fun nd => decide (nd.val = key)) [nd]) = none := by simp [List.findIdx?_cons, e]
    rw [this]
    simp
theorem freshMap_snoc (s : List Nd) (nd : Nd) (h : idxOf s nd.val = none) : upd (freshMap s) nd.val (.int .i64 (-1 - (s.length : Int))) = freshMap (s ++ [nd]) := by
  funext key
  unfold freshMap upd
  rw [idxOf_snoc s nd h]
  by_cases e : key = nd.val
  · rw [if_pos e, if_pos e.symm]
    rfl
  · rw [if_neg e, if_neg (fun h : nd.val = key => e h.symm)]

open Classical in
/-- The entry of a node. -/
noncomputable def entOf (es : List Ent) (nd : Nd) : Option Ent := es.find? fun e => decide (e.nd.val = nd.val)
theorem numMap_ent (es : List Ent) (nd : Nd) : numMap es nd.val = (entOf es nd).map fun e => .int .i64 e.id := rfl

/-- What missing's closure answers. -/
noncomputable def missStep (es : List Ent) (s : List Nd) (nd : Nd) : List Nd × Int :=
  match entOf es nd with
  | some e => (s, e.id)
  | none => match idxOf s nd.val with
    | some i => (s, wrap64 (-1 - (i : Int)))
    | none => (s ++ [nd], wrap64 (-1 - (s.length : Int)))

theorem fit_wrap (a : Int) : Fit64 (wrap64 a) := by
  unfold Fit64 wrap64
  omega

/-- Where missing's state lies. -/
structure MissAt (n0 Ba Bp Bf bf : Nat) (limit : Int) (es : List Ent) (free : List Int) (B1 : List Nat) (s : List Nd) (W : World) : Prop where
  bank : BankSt n0 Ba B1 limit es free W
  p : W.heap[Bp]? = some (.cells #[.pointer (some ⟨Ba, 0, none⟩)] 37 (0, 0))
  f : W.heap[Bf]? = some (.cells #[.map (some bf)] 72 (0, 0))
  fresh : MapIs W 82 bf (freshMap s) s.length
  out : bf ∉ B1
  low : n0 ≤ Bp ∧ n0 ≤ Bf ∧ n0 ≤ bf

theorem box_cell {W : World} {b : Nat} {v : Value} {t : TypeId} (h : W.heap[b]? = some (.cells #[v] t (0, 0))) : W.cell? ⟨b, 0, none⟩ = some v := by simp [World.cell?, h]

theorem MissAt.ne {n0 Ba Bp Bf bf : Nat} {limit : Int} {es : List Ent} {free : List Int} {B1 : List Nat} {s : List Nd} {W : World} (h : MissAt n0 Ba Bp Bf bf limit es free B1 s W) : Bp ≠ bf ∧ Bf ≠ bf := by
  obtain ⟨D, ⟨es', clock, hm, _⟩, _⟩ := h.fresh
  constructor
  · rintro rfl
    rw [h.p] at hm
    cases hm
  · rintro rfl
    rw [h.f] at hm
    cases hm

/-- missing's closure as what numbers nodes. -/
noncomputable def missM (n0 Ba Bp Bf bf : Nat) (limit : Int) (es : List Ent) (free : List Int) (hes : ∀ e ∈ es, Fit64 e.id) : Numb where
  σ := List Nd
  St := fun B s W => ∃ B1, B = Bp :: Bf :: bf :: B1 ∧ MissAt n0 Ba Bp Bf bf limit es free B1 s W
  step := missStep es
  Has := fun _ id => Fit64 id
  cnt := List.length
  n0 := n0
  keep := by
    rintro B s W W' ⟨B1, rfl, h⟩ hB _
    exact ⟨B1, rfl, h.bank.keep (fun r hr => hB r (by simp [hr])), (hB _ (by simp)).trans h.p, (hB _ (by simp)).trans h.f, h.fresh.same (hB _ (by simp)), h.out, h.low⟩
  low := by
    rintro B s W ⟨B1, rfl, h⟩ r hr
    simp only [List.mem_cons] at hr
    rcases hr with rfl | rfl | rfl | hr
    · exact ⟨h.low.1, (Array.getElem?_eq_some_iff.1 h.p).1⟩
    · exact ⟨h.low.2.1, (Array.getElem?_eq_some_iff.1 h.f).1⟩
    · exact ⟨h.low.2.2, h.fresh.lt⟩
    · exact h.bank.there r hr
  has := fun _ _ _ h => h
  hasNew := by
    intro s nd
    unfold missStep
    cases h : entOf es nd with
    | some e => exact hes e (List.mem_of_find?_eq_some h)
    | none =>
      simp only
      cases idxOf s nd.val with
      | some i => exact fit_wrap _
      | none => exact fit_wrap _
  fit := fun _ _ h => h
  cntUp := by
    intro s nd
    unfold missStep
    cases entOf es nd with
    | some e => simp
    | none =>
      simp only
      cases idxOf s nd.val with
      | some i => simp
      | none => simp

theorem miss_asks1 (n0 Ba Bp Bf bf : Nat) (limit : Int) (es : List Ent) (free : List Int) (_hes : ∀ e ∈ es, Fit64 e.id) (B1 : List Nat) (s : List Nd) (nd : Nd) (W : World) (h : MissAt n0 Ba Bp Bf bf limit es free B1 s W) (hfine : nd.Fine) (hcnt' : s.length ≤ 1073741824) :
    Calls Try.prog 65 #[nd.val, .pointer (some ⟨Bp, 0, none⟩), .pointer (some ⟨Bf, 0, none⟩)] W fun e W' => e = .returned (.int .i64 (missStep es s nd).2) ∧ ∃ B', (∃ B1', B' = Bp :: Bf :: bf :: B1' ∧ MissAt n0 Ba Bp Bf bf limit es free B1' (missStep es s nd).1 W') ∧ (∀ r ∈ B', r ∈ Bp :: Bf :: bf :: B1 ∨ W.heap.size ≤ r) ∧ Only (Bp :: Bf :: bf :: B1) W W' := by
  obtain ⟨kl, hkl⟩ := nd.key hfine
  obtain ⟨bn, br, fv, l, hb⟩ := h.bank
  obtain ⟨_, c1, _, _⟩ := hb.cells
  have hp := box_cell h.p
  have hf := box_cell h.f
  have hbn := hb.nums.lt
  have hl19 : nd.cells.length = 19 := ndCells_len _ _ _ _
  have stay : ∀ (id : Int), missStep es s nd = (s, id) → ∀ (e : Ending) (W' : World), (e = .returned (.int .i64 id) ∧ Below W.heap.size W W') → e = .returned (.int .i64 (missStep es s nd).2) ∧ ∃ B', (∃ B1', B' = Bp :: Bf :: bf :: B1' ∧ MissAt n0 Ba Bp Bf bf limit es free B1' (missStep es s nd).1 W') ∧ (∀ r ∈ B', r ∈ Bp :: Bf :: bf :: B1 ∨ W.heap.size ≤ r) ∧ Only (Bp :: Bf :: bf :: B1) W W' := by
    rintro id hid e W' ⟨he, hbel⟩
    rw [hid]
    refine ⟨he, _, ⟨B1, rfl, h.bank.keep (fun r hr => hbel.block r (h.bank.there r hr).2), (hbel.block _ (Array.getElem?_eq_some_iff.1 h.p).1).trans h.p, (hbel.block _ (Array.getElem?_eq_some_iff.1 h.f).1).trans h.f, h.fresh.same (hbel.block _ h.fresh.lt), h.out, h.low⟩, fun r hr => .inl hr, Only.of_below hbel⟩
  cases he : entOf es nd with
  | some e =>
    have hstep : missStep es s nd = (s, e.id) := by unfold missStep; rw [he]
    refine (miss_old Bp Bf Ba bn nd.cells hl19 e.id W hbn hp c1 (fun X hX => ?_)).mono (stay e.id hstep)
    exact ((((hb.nums.same hX).look keyed82 Try.underlying72 (zero3 _) hkl).1 (.int .i64 e.id) (by rw [numMap_ent, he]; rfl))).1
  | none =>
    have hno : ∀ X : World, X.heap[bn]? = W.heap[bn]? → (Instr.lookup 72 (.map (some bn)) (.agg nd.cells.toArray) true).run Try.prog X = .ok (.tuple #[.int .i64 0, .bool false]) X := fun X hX =>
      ((((hb.nums.same hX).look keyed82 Try.underlying72 (zero3 _) hkl).2 (by rw [numMap_ent, he]; rfl))).1
    cases hi : idxOf s nd.val with
    | some i =>
      have hlt := idxOf_lt hi
      have hw : wrap64 (-1 - (i : Int)) = -1 - (i : Int) := by simp only [wrap64]; omega
      have hstep : missStep es s nd = (s, -1 - (i : Int)) := by unfold missStep; rw [he]; simp only [hi, hw]
      refine (miss_met Bp Bf Ba bn bf nd.cells hl19 (-1 - (i : Int)) _ W hbn h.fresh.lt hp c1 hf hno (fun X hX => ?_)).mono (stay _ hstep)
      exact (((h.fresh.same hX).look keyed82 Try.underlying72 (zero3 _) hkl).1 (.int .i64 (-1 - (i : Int))) (by unfold freshMap; rw [hi]; rfl))
    | none =>
      have hw : wrap64 (-1 - (s.length : Int)) = -1 - (s.length : Int) := by simp only [wrap64]; omega
      have hstep : missStep es s nd = (s ++ [nd], -1 - (s.length : Int)) := by unfold missStep; rw [he]; simp only [hi, hw]
      refine (miss_new Bp Bf Ba bn bf s.length nd.cells kl (freshMap s) hl19 _ W hbn h.ne.2 hp c1 hf hno h.fresh hkl (by unfold freshMap; rw [hi]; rfl) hcnt').mono ?_
      rintro e W' ⟨he', hM, hO⟩
      rw [hstep]
      have hblk : ∀ r, r < W.heap.size → r ≠ bf → W'.heap[r]? = W.heap[r]? := fun r hr hne => hO.block r hr (by simpa using hne)
      rw [freshMap_snoc s nd hi] at hM
      refine ⟨he', _, ⟨B1, rfl, h.bank.keep (fun r hr => hblk r (h.bank.there r hr).2 (fun e => h.out (e ▸ hr))), (hblk _ (Array.getElem?_eq_some_iff.1 h.p).1 h.ne.1).trans h.p, (hblk _ (Array.getElem?_eq_some_iff.1 h.f).1 h.ne.2).trans h.f, by simpa using hM, h.out, h.low⟩, fun r hr => .inl hr, ?_⟩
      exact ⟨hO.os, hO.tape, hO.output, hO.size, fun k hk hn => hblk k hk (fun e => hn (by simp [e]))⟩

theorem miss_asks (n0 Ba Bp Bf bf : Nat) (limit : Int) (es : List Ent) (free : List Int) (hes : ∀ e ∈ es, Fit64 e.id) :
    (missM n0 Ba Bp Bf bf limit es free hes).Asks 65 (fun v => #[v, .pointer (some ⟨Bp, 0, none⟩), .pointer (some ⟨Bf, 0, none⟩)]) := by
  rintro B s nd W ⟨B1, rfl, h⟩ _ hfine hcnt
  exact miss_asks1 n0 Ba Bp Bf bf limit es free hes B1 s nd W h hfine hcnt

end Go.Proofs.Ytbbfpllffcfmhaa

/-
  missing.
-/
namespace Go.Proofs.Ytbbfpllffcfmhaa
open Go.RowKit Go.Maps

/-- How many nodes of the term are not there. -/
noncomputable def missing (es : List Ent) (hes : ∀ e ∈ es, Fit64 e.id) (t : T) : Nat := (((missM 0 0 0 0 0 0 es [] hes).num t ([] : List Nd)).1 : List Nd).length

theorem miss_num (n0 Ba Bp Bf bf : Nat) (limit : Int) (es : List Ent) (free : List Int) (hes : ∀ e ∈ es, Fit64 e.id) (t : T) : ∀ s : List Nd, (((missM n0 Ba Bp Bf bf limit es free hes).num t s) : List Nd × Int) = ((missM 0 0 0 0 0 0 es [] hes).num t s : List Nd × Int) := by
  induction t using T.ind with
  | _ t ih =>
    intro s
    have h : ∀ (l : List T) (s : List Nd), (∀ a ∈ l, a ∈ t.args) → ((Numb.num.nums (missM n0 Ba Bp Bf bf limit es free hes) l s) : List Nd × List Int) = (Numb.num.nums (missM 0 0 0 0 0 0 es [] hes) l s : List Nd × List Int) := by
      intro l
      induction l with
      | nil => intro s _; rfl
      | cons a r ihl =>
        intro s hm
        have h1 := ih a (hm a (by simp)) s
        have h2 := ihl ((missM 0 0 0 0 0 0 es [] hes).num a s).1 (fun b hb => hm b (by simp [hb]))
        show (_, _) = (_, _)
        rw [h1, h2]
    have h1 := h t.args s (fun _ h => h)
    refine (Numb.num_eq (missM n0 Ba Bp Bf bf limit es free hes) t s).trans (Eq.trans ?_ (Numb.num_eq (missM 0 0 0 0 0 0 es [] hes) t s).symm)
    exact congrArg (fun p : List Nd × List Int => missStep es p.1 ⟨t.v, t.fn, p.2⟩) h1

set_option maxRecDepth 100000 in
set_option maxHeartbeats 1000000 in
theorem missing_any (w0 : World) (n0 Ba : Nat) (B1 : List Nat) (limit : Int) (es : List Ent) (free : List Int) (hes : ∀ e ∈ es, Fit64 e.id) (t : T) (sl : Value) (W : World) (hn0 : w0.heap.size ≤ n0) (hb : BankSt n0 Ba B1 limit es free W) (hn : n0 ≤ W.heap.size)
    (ha : ArgsAt w0 sl t.args) (hw : Below w0.heap.size w0 W) (hsh : t.shape = true) (hsz : t.size ≤ 1073741824) :
    Calls Try.prog 48 #[.pointer (some ⟨Ba, 0, none⟩), tval t sl] W fun e W' => e = .returned (.int .i64 (missing es hes t)) ∧ ∃ B', BankSt n0 Ba B' limit es free W' ∧ (∀ r ∈ B', r ∈ B1 ∨ W.heap.size ≤ r) ∧ Only B1 W W' := by
  obtain ⟨a, c, rfl, hc, hm⟩ := ha.slice
  obtain ⟨W1, hW1⟩ : ∃ W1, (((W.alloc (.cells #[.pointer (some ⟨Ba, 0, none⟩)] 37)).alloc (tbox t (.slice a t.args.length c))).alloc (.map #[] 0)).alloc (.cells #[.map (some (W.heap.size + 1 + 1))] 72) = W1 := ⟨_, rfl⟩
  have e1 : ∀ (X : World) (ob : Obj) (k : Nat), k < X.heap.size → (X.alloc ob).heap[k]? = X.heap[k]? := fun X ob k hk => Below.heap_alloc X ob k hk
  have hbel : Below W.heap.size W W1 := by rw [← hW1]; exact ((((Below.refl _ _).alloc (Nat.le_refl _) _).alloc (by simp) _).alloc (by simp; omega) _).alloc (by simp; omega) _
  have hp : W1.heap[W.heap.size]? = some (.cells #[.pointer (some ⟨Ba, 0, none⟩)] 37 (0, 0)) := by
    rw [← hW1, e1 _ _ _ (by simp; omega), e1 _ _ _ (by simp; omega), e1 _ _ _ (by simp)]
    exact (MapKept.heap_alloc W _).1
  have hf : W1.heap[W.heap.size + 1 + 1 + 1]? = some (.cells #[.map (some (W.heap.size + 1 + 1))] 72 (0, 0)) := by
    rw [← hW1]
    have := (MapKept.heap_alloc (((W.alloc (.cells #[.pointer (some ⟨Ba, 0, none⟩)] 37)).alloc (tbox t (.slice a t.args.length c))).alloc (.map #[] 0)) (.cells #[.map (some (W.heap.size + 1 + 1))] 72)).1
    rwa [World.size_alloc, World.size_alloc, World.size_alloc] at this
  have hfr : MapIs W1 82 (W.heap.size + 1 + 1) (freshMap []) 0 := by
    have := MapIs.made ((W.alloc (.cells #[.pointer (some ⟨Ba, 0, none⟩)] 37)).alloc (tbox t (.slice a t.args.length c))) 82
    rw [World.size_alloc, World.size_alloc] at this
    refine this.same ?_
    rw [← hW1, e1 _ _ _ (by simp)]
  have hM : MissAt n0 Ba W.heap.size (W.heap.size + 1 + 1 + 1) (W.heap.size + 1 + 1) limit es free B1 [] W1 :=
    ⟨hb.keep (fun r hr => hbel.block r (hb.there r hr).2), hp, hf, hfr, fun h => by have := (hb.there _ h).2; omega, by omega, by omega, by omega⟩
  have hcall := numMiss_any (missM n0 Ba W.heap.size (W.heap.size + 1 + 1 + 1) (W.heap.size + 1 + 1) limit es free hes) w0 hn0 W.heap.size (W.heap.size + 1 + 1 + 1) (miss_asks _ _ _ _ _ _ _ _ _) t _ ([] : List Nd) (.slice a t.args.length c) W1 ⟨B1, rfl, hM⟩ ha (hw.trans (hbel.mono hw.size)) hsh (by show ((([] : List Nd).length : Nat) : Int) + t.size ≤ 1073741824; simpa using hsz)
  have hnum := miss_num n0 Ba W.heap.size (W.heap.size + 1 + 1 + 1) (W.heap.size + 1 + 1) limit es free hes t []
  have hcall' := hcall.mono (R' := fun e W' => ∃ v, e = .returned (.int .i64 v) ∧ W'.cell? ⟨W.heap.size + 1 + 1 + 1, 0, none⟩ = some (.map (some (W.heap.size + 1 + 1))) ∧ (Builtin.len_ #[72] 3 #[.map (some (W.heap.size + 1 + 1))]).run Try.prog W' = .ok (.int .i64 (missing es hes t)) W' ∧ Hid (∃ B', BankSt n0 Ba B' limit es free W' ∧ (∀ r ∈ B', r ∈ B1 ∨ W.heap.size ≤ r) ∧ Only B1 W W')) (by
    rintro e W' ⟨he, B', ⟨B2, rfl, h2⟩, hB, hO⟩
    refine ⟨_, he, box_cell h2.f, ?_, B2, h2.bank, fun r hr => ?_, ?_⟩
    · have := h2.fresh.len Try.underlying72 3
      rw [hnum] at this
      exact this
    · rcases hB r (by simp [hr]) with h | h
      · simp only [List.mem_cons] at h
        rcases h with rfl | rfl | rfl | h
        · exact .inr (Nat.le_refl _)
        · exact .inr (by omega)
        · exact .inr (by omega)
        · exact .inl h
      · exact .inr (Nat.le_trans hbel.size h)
    · refine (Only.of_below (B := B1) hbel).trans hO (fun r hr => ?_)
      simp only [List.mem_cons] at hr
      rcases hr with rfl | rfl | rfl | h
      · exact .inr (Nat.le_refl _)
      · exact .inr (by omega)
      · exact .inr (by omega)
      · exact .inl h)
  clear hcall hM hfr hf hp hbel hb hnum
  rw [← hW1] at hcall'
  clear hW1 e1
  have hmm := @run_makeMap Try.prog
  go_enter Try.func48, Try.ntmps48
  go_wp2_with (go_at_call 49; refine hcall'.mono ?_; rintro e W' ⟨v, rfl, hc5, hlen, HD⟩)
  go_ret
  exact ⟨rfl, HD⟩

end Go.Proofs.Ytbbfpllffcfmhaa
