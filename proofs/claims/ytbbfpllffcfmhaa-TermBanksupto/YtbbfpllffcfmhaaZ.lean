/-
  enter.
-/
import Derived.Test.YtbbfpllffcfmhaaY
namespace Go.Proofs.Ytbbfpllffcfmhaa
open Go.RowKit Go.Maps

set_option maxRecDepth 100000 in
set_option maxHeartbeats 1000000 in
/-- The bank has the node. -/
theorem enter_old (Ba bn : Nat) (cells : List Value) (hl : cells.length = 19) (id : Int) (W : World) (hbn : bn < W.heap.size) (hc1 : W.cell? ⟨Ba, 1, none⟩ = some (.map (some bn)))
    (hlook : ∀ X : World, X.heap[bn]? = W.heap[bn]? → (Instr.lookup 72 (.map (some bn)) (.agg cells.toArray) true).run Try.prog X = .ok (.tuple #[.int .i64 id, .bool true]) X) :
    Calls Try.prog 50 #[.pointer (some ⟨Ba, 0, none⟩), .agg cells.toArray] W fun e W' => e = .returned (.int .i64 id) ∧ Below W.heap.size W W' := by
  have hb := below_box W (.cells cells.toArray 82)
  have hc2 := kc hb (World.block_lt_of_cell? W _ hc1) hc1
  have hlk : ∀ q, (Instr.lookup 72 (.map (some bn)) (.agg cells.toArray) true).run Try.prog ((W.alloc (.cells cells.toArray 82)).drewN q) = .ok (.tuple #[.int .i64 id, .bool true]) ((W.alloc (.cells cells.toArray 82)).drewN q) := fun q => hlook _ (below_drewN hb q |>.block bn hbn)
  have hbx : (W.alloc (.cells cells.toArray 82)).heap[W.heap.size]? = some (.cells cells.toArray 82 (0, 0)) := (MapKept.heap_alloc W _).1
  clear hlook hc1
  go_enter Try.func50, Try.ntmps50
  go_wp2
  generalize W.alloc (.cells cells.toArray 82) = W1 at *
  refine wp_region_quiet_lit (by kernel_rfl) (by kernel_rfl) ?_
  repeat (first | (refine wpQuiet_load_node rfl _ rfl W.heap.size rfl cells hl (fun w ⟨q, hq⟩ => by rw [hq]; exact (below_drewN (Below.refl (W.heap.size + 1) W1) q).block _ (Nat.lt_succ_self _) |>.trans hbx) ?_) | quiet_step (fail))
  refine wpQuiet_nil ?_
  intro _ hw'
  obtain ⟨nq, hw''⟩ := hw'
  subst hw''
  go_wp2
  go_ret
  exact ⟨rfl, below_drewN hb nq⟩

theorem Try.info84 : (Try.prog.info? 84).map (·.size) = some 21 := by kernel_rfl

theorem list19 {cs : List Value} (h : cs.length = 19) : ∃ a b c d e f g i j k l m n o p q r s t, cs = [a, b, c, d, e, f, g, i, j, k, l, m, n, o, p, q, r, s, t] := by
  match cs, h with
  | [a, b, c, d, e, f, g, i, j, k, l, m, n, o, p, q, r, s, t], _ => exact ⟨a, b, c, d, e, f, g, i, j, k, l, m, n, o, p, q, r, s, t, rfl⟩

theorem run_build_record (cs : List Value) (h : cs.length = 19) (w : World) : (Instr.build 84 #[(0, .agg cs.toArray)]).run Try.prog w = .ok (.agg (cs ++ [Value.int .i64 0, Value.int .i64 0]).toArray) w := by
  obtain ⟨a, b, c, d, e, f, g, i, j, k, l, m, n, o, p, q, r, s, t, rfl⟩ := list19 h
  kernel_rfl

theorem nd_cell {W : World} {b : Nat} {nd : Nd} (h : W.heap[b]? = some (.cells nd.cells.toArray 82 (0, 0))) : W.cell? ⟨b, 0, none⟩ = some (.int .i64 nd.v) ∧ W.cell? ⟨b, 1, none⟩ = some (.string nd.fn) ∧ W.cell? ⟨b, 2, none⟩ = some (.int .i64 nd.args.length) ∧ (∀ o, W.frozen? ⟨b, o, none⟩ = false) ∧ ∀ i (hi : i < nd.args.length), nd.args.length ≤ 16 → W.cell? ⟨b, 3 + i, none⟩ = some (.int .i64 nd.args[i]) := by
  refine ⟨?_, ?_, ?_, fun o => ?_, fun i hi h16 => ?_⟩
  · rw [cell_of_row _ _ _ _ 82 (0, 0) h]; rfl
  · rw [cell_of_row _ _ _ _ 82 (0, 0) h]; rfl
  · rw [cell_of_row _ _ _ _ 82 (0, 0) h]; rfl
  · simp [World.frozen?, h]
  · rw [cell_of_row _ _ _ _ 82 (0, 0) h]
    have := pad_at nd.args i (by omega)
    simp only [Nd.cells, ndCells, List.getElem?_toArray]
    rw [List.getElem?_append_right (by simp), show 3 + i - [Value.int .i64 nd.v, .string nd.fn, .int .i64 (nd.args.length : Int)].length = i by simp, this, List.getD_eq_getElem?_getD, List.getElem?_eq_getElem hi]
    rfl

theorem set_fn {W : World} {b : Nat} {nd : Nd} (h : W.heap[b]? = some (.cells nd.cells.toArray 82 (0, 0))) : (W.setCell ⟨b, 1, none⟩ (.string nd.fn)).heap[b]? = some (.cells nd.cells.toArray 82 (0, 0)) := by
  rw [set_node h]
  rfl

/-- A node out of its block, in a region that draws its order. -/
theorem yieldsIf_load_node {ops : Array Oper} {S : World → Prop} {op : Oper} {a : Act} (hw : Region.wanted op (yielded ops a.tmps) = true) (x : Operand) (ho : op.op = .load 82 x) (b : Nat) (hx : a.eval x = .pointer (some ⟨b, 0, none⟩)) (cs : List Value) (hl : cs.length = 19)
    (hc : ∀ w, S w → w.heap[b]? = some (.cells cs.toArray 82 (0, 0))) : YieldsIf Try.prog ops S op (.agg cs.toArray) a :=
  .inl ⟨hw, fun w hw' => by
    have h1 := run_loadAt_mid (P := Try.prog) w b 0 82 cs _ (fun j v hv => by rw [Nat.zero_add, cell_of_row _ _ _ _ 82 (0, 0) (hc w hw')]; simpa using hv) Try.underlying82 rfl (by rw [hl]; exact Try.info82)
    unfold execOp
    simp only [ho, hx, Sem.run_bind, h1, Result.andThen_ok, Sem.run_pure]⟩

theorem MapIs.isMap {W : World} {k : TypeId} {b n : Nat} {m : Value → Option Value} (h : MapIs W k b m n) : ∃ es c, W.heap[b]? = some (.map es c) := by
  obtain ⟨D, ⟨es, clock, hb', r⟩, h2⟩ := h
  exact ⟨_, _, hb'⟩

theorem BankAt.maps {n0 Ba : Nat} {B : List Nat} {limit : Int} {es : List Ent} {free : List Int} {W : World} {bn br : Nat} {fv : Value} {l : List (Ent × Nat)} (h : BankAt n0 Ba B limit es free W bn br fv l) : bn ≠ Ba ∧ br ≠ Ba ∧ (∀ x ∈ l, x.2 ≠ bn ∧ x.2 ≠ br) := by
  obtain ⟨_, _, h1⟩ := h.nums.isMap
  obtain ⟨_, _, h2⟩ := h.recs.isMap
  have h3 := h.head
  refine ⟨fun e => ?_, fun e => ?_, fun x hx => ⟨fun e => ?_, fun e => ?_⟩⟩
  · rw [e, h3] at h1; cases h1
  · rw [e, h3] at h2; cases h2
  · have := h.each x hx; rw [e, h1] at this; cases this
  · have := h.each x hx; rw [e, h2] at this; cases this

theorem BankAt.row_ne {n0 Ba : Nat} {B : List Nat} {limit : Int} {es : List Ent} {free : List Int} {W : World} {bn br : Nat} {fv : Value} {l : List (Ent × Nat)} (h : BankAt n0 Ba B limit es free W bn br fv l) : fv.ownBlock ≠ some bn ∧ fv.ownBlock ≠ some br := by
  obtain ⟨_, _, h1⟩ := h.nums.isMap
  obtain ⟨_, _, h2⟩ := h.recs.isMap
  obtain ⟨_, r⟩ := h.row
  rcases r with ⟨e, _⟩ | ⟨g, cap, cur, e, hb, hg, r⟩
  · subst e; simp [Value.ownBlock]
  · subst e
    refine ⟨fun e => ?_, fun e => ?_⟩
    · simp [Value.ownBlock] at e; rw [e, h1] at hg; cases hg
    · simp [Value.ownBlock] at e; rw [e, h2] at hg; cases hg

/-- A row of the bank's that is as it was. -/
theorem row_keep {n0 : Nat} {W W' : World} {ty : TypeId} {k : Nat} {fv : Value} {n : Nat} {vs : List Value} (h : W.ownsRow n0 ty k fv n vs) (hB : ∀ g, fv.ownBlock = some g → W'.heap[g]? = W.heap[g]?) : W'.ownsRow n0 ty k fv n vs := by
  obtain ⟨h1, h2⟩ := h
  refine ⟨h1, ?_⟩
  rcases h2 with h2 | ⟨g, cap, cur, e, hb, hg, r⟩
  · exact .inl h2
  · exact .inr ⟨g, cap, cur, e, hb, (hB g (by rw [e]; rfl)).trans hg, r⟩

open Classical in
theorem numMap_snoc (es : List Ent) (e : Ent) (h : entOf es e.nd = none) : numMap (es ++ [e]) = upd (numMap es) e.nd.val (.int .i64 e.id) := by
  funext key
  unfold upd numMap
  rw [List.find?_append]
  by_cases hk : key = e.nd.val
  · rw [if_pos hk, hk]
    have : (es.find? fun x => decide (x.nd.val = e.nd.val)) = none := h
    rw [this]
    simp
  · rw [if_neg hk]
    cases hf : es.find? fun x => decide (x.nd.val = key) with
    | some x => rfl
    | none => simp [List.find?, Ne.symm hk]

open Classical in
theorem recMap_snoc (l : List (Ent × Nat)) (e : Ent) (R : Nat) (h : ∀ x ∈ l, x.1.id ≠ e.id) : recMap (l ++ [(e, R)]) = upd (recMap l) (.int .i64 e.id) (.pointer (some ⟨R, 0, none⟩)) := by
  funext key
  unfold upd recMap
  rw [List.find?_append]
  by_cases hk : key = .int .i64 e.id
  · rw [if_pos hk, hk]
    have : (l.find? fun x => decide (Value.int .i64 x.1.id = .int .i64 e.id)) = none := by
      rw [List.find?_eq_none]
      intro x hx
      simpa using h x hx
    rw [this]
    simp
  · rw [if_neg hk]
    cases hf : l.find? fun x => decide (Value.int .i64 x.1.id = key) with
    | some x => rfl
    | none => simp [List.find?, Ne.symm hk]

theorem recMap_none (l : List (Ent × Nat)) (i : Int) (h : ∀ x ∈ l, x.1.id ≠ i) : recMap l (.int .i64 i) = none := by
  classical
  unfold recMap
  rw [Option.map_eq_none_iff, List.find?_eq_none]
  intro x hx
  simpa using h x hx

/-- The bank behind both stores. -/
theorem bank_put {n0 Ba : Nat} {B : List Nat} {limit : Int} {es : List Ent} {W6 W7 W8 W9 : World} {bn br : Nat} {fv : Value} {l : List (Ent × Nat)} (h : BankAt n0 Ba B limit es [] W6 bn br fv l) (e : Ent) (R : Nat) (hno : entOf es e.nd = none) (hid : ∀ x ∈ es, x.id ≠ e.id)
    (hM : MapIs W7 82 bn (upd (numMap es) e.nd.val (.int .i64 e.id)) (es.length + 1)) (hg : W6.grownBy W7 (some bn)) (h78 : ∀ r, r < W7.heap.size → W8.heap[r]? = W7.heap[r]?) (hs : W7.heap.size ≤ R) (hR : W8.heap[R]? = some (.cells e.cells.toArray 84 (0, 0)))
    (hM9 : MapIs W9 3 br (upd (recMap l) (.int .i64 e.id) (.pointer (some ⟨R, 0, none⟩))) (es.length + 1)) (hg9 : W8.grownBy W9 (some br)) (hn0 : n0 ≤ R) : BankAt n0 Ba (B ++ [R]) limit (es ++ [e]) [] W9 bn br fv (l ++ [(e, R)]) := by
  obtain ⟨m1, m2, m3⟩ := h.maps
  obtain ⟨r1, r2⟩ := h.row_ne
  have hth := h.there
  have hmine := h.mine
  have hk : ∀ r ∈ B, r ≠ bn → r ≠ br → W9.heap[r]? = W6.heap[r]? := fun r hr h1 h2 => by
    have a1 := hg.block r (hth r hr) (fun e => h1 (Option.some.inj e))
    have l7 : r < W7.heap.size := Nat.lt_of_lt_of_le (hth r hr) hg.size
    have a2 := h78 r l7
    have l8 : r < W8.heap.size := Nat.lt_of_lt_of_le (Nat.lt_of_lt_of_le l7 hs) (Nat.le_of_lt (Array.getElem?_eq_some_iff.1 hR).1)
    exact (hg9.block r l8 (fun e => h2 (Option.some.inj e))).trans (a2.trans a1)
  have hB : ∀ {r}, r = Ba ∨ r = bn ∨ r = br ∨ fv.ownBlock = some r ∨ (∃ x ∈ l, x.2 = r) → r ∈ B := fun {r} hr => by
    rw [hmine]
    simp only [List.mem_cons, List.mem_append, Option.mem_toList, List.mem_map]
    exact hr
  have hbn7 : bn < W7.heap.size := hM.lt
  have hbn8 : W9.heap[bn]? = W7.heap[bn]? := (hg9.block bn (Nat.lt_of_lt_of_le (Nat.lt_of_lt_of_le hbn7 hs) (Nat.le_of_lt (Array.getElem?_eq_some_iff.1 hR).1)) (fun e => h.apart (Option.some.inj e))).trans (h78 bn hbn7)
  have hRr : R ≠ br := fun e => by
    have := hth br (hB (.inr (.inr (.inl rfl))))
    have := hg.size
    omega
  refine { ents := by rw [List.map_append, h.ents]; rfl, head := (hk Ba (hB (.inl rfl)) (Ne.symm m1) (Ne.symm m2)).trans h.head, nums := ?_, recs := ?_, each := ?_, row := row_keep h.row (fun g hg' => hk g (hB (.inr (.inr (.inr (.inl hg'))))) (fun e => r1 (e ▸ hg')) (fun e => r2 (e ▸ hg'))), apart := h.apart, blks := ?_, mine := ?_, low := ?_ }
  · rw [numMap_snoc es e hno, List.length_append]
    exact hM.same hbn8
  · rw [recMap_snoc l e R (fun x hx => hid x.1 (by rw [← h.ents]; exact List.mem_map_of_mem hx)), List.length_append]
    exact hM9
  · intro x hx
    rcases List.mem_append.1 hx with hx | hx
    · exact (hk x.2 (hB (.inr (.inr (.inr (.inr ⟨x, hx, rfl⟩))))) (m3 x hx).1 (m3 x hx).2).trans (h.each x hx)
    · cases List.mem_singleton.1 hx
      exact (hg9.block R (Array.getElem?_eq_some_iff.1 hR).1 (fun e => hRr (Option.some.inj e))).trans hR
  · rw [List.map_append, List.nodup_append]
    refine ⟨h.blks, by simp, ?_⟩
    intro a ha b hb
    have hb' : b = R := by simpa using hb
    obtain ⟨x, hx, rfl⟩ := List.mem_map.1 ha
    have := hth x.2 (hB (.inr (.inr (.inr (.inr ⟨x, hx, rfl⟩)))))
    have := hg.size
    omega
  · rw [hmine]
    simp
  · intro r hr
    rcases List.mem_append.1 hr with hr | hr
    · exact h.low r hr
    · cases List.mem_singleton.1 hr
      exact hn0

theorem cell_congr {W W' : World} {b : Nat} (h : W'.heap[b]? = W.heap[b]?) (o : Nat) : W'.cell? ⟨b, o, none⟩ = W.cell? ⟨b, o, none⟩ := by
  simp [World.cell?, h]

/-- wpAnyH_take, the operation laid out. -/
theorem take_mk {P : Program} {md : Region.Mode} {ops : Array Oper} {Q : Exit → Act → World → Prop} {S : World → Prop} (i : Nat) (v : Value) {d : Option Tmp} {op : Op} {ty : TypeId} {pos : String} {aft} {gd} {fuel : Nat} {listed : Array Bool} {a : Act} {w : World} (hi : ops[i]? = some ⟨d, op, ty, pos, aft, gd⟩)
    (hs : Region.noSelect ops = true) (hf : Region.free md ops listed i = true) (hr : (Region.ready md ops listed).contains i = true)
    (hQ : ∀ c a w, Q (.panic c) (a.put d v) w → Q (.panic c) a w) (hy : YieldsIf P ops S ⟨d, op, ty, pos, aft, gd⟩ v a) (hS : S w)
    (h : wpAnyH P md ops Q S fuel (listed.setIfInBounds i true) (a.put d v) w) : wpAnyH P md ops Q S (fuel + 1) listed a w :=
  wpAnyH_take hi hs hf hr hQ hy hS h

/-- A store into a map, by its run. -/
theorem wp_mapUpdate_run {op : Oper} {a : Act} {w w' : World} {K : Act → World → Prop} {Q : Exit → Act → World → Prop} (t : TypeId) (m x v : Operand) (ho : op.op = .mapUpdate t m x v) (mv kv vv : Value) (hm : a.eval m = mv) (hx : a.eval x = kv) (hv : a.eval v = vv)
    (hrun : (Instr.mapUpdate t mv kv vv).run Try.prog w = .ok () w') (h : K (a.put op.dst undef) w') : Oper.wp Try.prog op a w K Q := by
  unfold Oper.wp execOp
  simp only [ho, hm, hx, hv, Sem.run_bind, hrun, Result.andThen_ok, Sem.run_pure]
  exact h

theorem inj_of_nodup {l : List (Ent × Nat)} (h : (l.map (·.2)).Nodup) {x y : Ent × Nat} (hx : x ∈ l) (hy : y ∈ l) (e : x.2 = y.2) : x = y := by
  induction l with
  | nil => cases hx
  | cons a l ih =>
    rw [List.map_cons, List.nodup_cons] at h
    rcases List.mem_cons.1 hx with hx1 | hx1 <;> rcases List.mem_cons.1 hy with hy1 | hy1
    · rw [hx1, hy1]
    · exact absurd (List.mem_map.2 ⟨y, hy1, by rw [← e, hx1]⟩) h.1
    · exact absurd (List.mem_map.2 ⟨x, hx1, by rw [e, hy1]⟩) h.1
    · exact ih h.2 hx1 hy1

/-- One use more. -/
def bumpE (i : Int) (e : Ent) : Ent := if e.id = i then { e with uses := wrap64 (e.uses + 1) } else e
theorem bumpE_id (i : Int) (e : Ent) : (bumpE i e).id = e.id := by unfold bumpE; split <;> rfl
theorem bumpE_nd (i : Int) (e : Ent) : (bumpE i e).nd = e.nd := by unfold bumpE; split <;> rfl
def bumpL (i : Int) (l : List (Ent × Nat)) : List (Ent × Nat) := l.map fun x => (bumpE i x.1, x.2)
theorem bumpL_blk (i : Int) (l : List (Ent × Nat)) : (bumpL i l).map (·.2) = l.map (·.2) := by simp [bumpL, Function.comp_def]
theorem bumpL_ents (i : Int) (l : List (Ent × Nat)) : (bumpL i l).map (·.1) = (l.map (·.1)).map (bumpE i) := by simp [bumpL, Function.comp_def]

theorem recMap_bump (i : Int) (l : List (Ent × Nat)) : recMap (bumpL i l) = recMap l := by
  classical
  funext key
  unfold recMap bumpL
  induction l with
  | nil => rfl
  | cons x l ih =>
    simp only [List.map_cons, List.find?_cons, bumpE_id]
    by_cases hk : Value.int .i64 x.1.id = key
    · simp [hk]
    · simpa [hk] using ih

theorem numMap_bump (i : Int) (es : List Ent) : numMap (es.map (bumpE i)) = numMap es := by
  classical
  funext key
  unfold numMap
  induction es with
  | nil => rfl
  | cons x l ih =>
    simp only [List.map_cons, List.find?_cons, bumpE_nd]
    by_cases hk : x.nd.val = key
    · simp [hk, bumpE_id]
    · simpa [hk] using ih

theorem set_rec {W : World} {g i : Nat} {cs : List Value} {v : Value} (h : W.heap[g]? = some (.cells cs.toArray 84 (0, 0))) : (W.setCell ⟨g, i, none⟩ v).heap[g]? = some (.cells (cs.set i v).toArray 84 (0, 0)) := by
  rw [setCell_eq_setRow W g i _ 84 (0, 0) _ h, setRow_heap W g _ _ 84 (0, 0) h]
  simp

theorem Ent.cells_set (e : Ent) (u : Int) : e.cells.set 20 (.int .i64 u) = ({ e with uses := u } : Ent).cells := by
  have h : e.nd.cells.length = 19 := ndCells_len _ _ _ _
  unfold Ent.cells
  rw [List.set_append_right _ _ (by omega), h]
  rfl

theorem Ent.cells_uses (e : Ent) : e.cells[20]? = some (.int .i64 e.uses) := by
  have h : e.nd.cells.length = 19 := ndCells_len _ _ _ _
  unfold Ent.cells
  rw [List.getElem?_append_right (by omega), h]
  rfl

theorem BankAt.rec_ne {n0 Ba : Nat} {B : List Nat} {limit : Int} {es : List Ent} {free : List Int} {W : World} {bn br : Nat} {fv : Value} {l : List (Ent × Nat)} (h : BankAt n0 Ba B limit es free W bn br fv l) : ∀ x ∈ l, x.2 ≠ Ba ∧ fv.ownBlock ≠ some x.2 := by
  intro x hx
  have h1 := h.each x hx
  refine ⟨fun e => ?_, fun e => ?_⟩
  · rw [e, h.head] at h1; simp at h1
  · obtain ⟨_, r⟩ := h.row
    rcases r with ⟨e', _⟩ | ⟨g, cap, cur, e', hb, hg, r⟩
    · subst e'; simp [Value.ownBlock] at e
    · subst e'
      simp [Value.ownBlock] at e
      rw [e, h1] at hg; simp at hg

/-- The bank behind one use more. -/
theorem bank_bump {n0 Ba : Nat} {B : List Nat} {limit : Int} {es : List Ent} {free : List Int} {W : World} {bn br : Nat} {fv : Value} {l : List (Ent × Nat)} (h : BankAt n0 Ba B limit es free W bn br fv l) (i : Int) (x : Ent × Nat) (hx : x ∈ l) (hi : x.1.id = i) (hone : ∀ y ∈ l, y.1.id = i → y = x) :
    BankAt n0 Ba B limit (es.map (bumpE i)) free (W.setCell ⟨x.2, 20, none⟩ (.int .i64 (wrap64 (x.1.uses + 1)))) bn br fv (bumpL i l) := by
  obtain ⟨m1, m2, m3⟩ := h.maps
  obtain ⟨n1, n2⟩ := h.rec_ne x hx
  have hg := World.grownBy_setCell_any W x.2 20 (.int .i64 (wrap64 (x.1.uses + 1)))
  have hth := h.there
  have hk : ∀ r ∈ B, r ≠ x.2 → (W.setCell ⟨x.2, 20, none⟩ (.int .i64 (wrap64 (x.1.uses + 1)))).heap[r]? = W.heap[r]? := fun r hr h1 => hg.block r (hth r hr) (fun e => h1 (Option.some.inj e))
  have hmine := h.mine
  have hB : ∀ {r}, r = Ba ∨ r = bn ∨ r = br ∨ fv.ownBlock = some r ∨ (∃ x ∈ l, x.2 = r) → r ∈ B := fun {r} hr => by
    rw [hmine]
    simp only [List.mem_cons, List.mem_append, Option.mem_toList, List.mem_map]
    exact hr
  refine { ents := by rw [bumpL_ents, h.ents], head := (hk Ba (hB (.inl rfl)) (Ne.symm n1)).trans h.head, nums := ?_, recs := ?_, each := ?_, row := row_keep h.row (fun g hg' => hk g (hB (.inr (.inr (.inr (.inl hg'))))) (fun e => n2 (e ▸ hg'))), apart := h.apart, blks := by rw [bumpL_blk]; exact h.blks, mine := by rw [bumpL_blk]; exact hmine, low := h.low }
  · rw [numMap_bump, List.length_map]
    exact h.nums.same (hk bn (hB (.inr (.inl rfl))) (Ne.symm (m3 x hx).1))
  · rw [recMap_bump, List.length_map]
    exact h.recs.same (hk br (hB (.inr (.inr (.inl rfl)))) (Ne.symm (m3 x hx).2))
  · intro y hy
    obtain ⟨z, hz, rfl⟩ := List.mem_map.1 hy
    by_cases e : z.1.id = i
    · cases hone z hz e
      have := set_rec (i := 20) (v := .int .i64 (wrap64 (x.1.uses + 1))) (h.each x hx)
      rw [Ent.cells_set] at this
      simp only [bumpE, if_pos e]
      exact this
    · simp only [bumpE, if_neg e]
      refine (hk z.2 (hB (.inr (.inr (.inr (.inr ⟨z, hz, rfl⟩))))) (fun e' => e ?_)).trans (h.each z hz)
      have : z = x := inj_of_nodup h.blks hz hx e'
      rw [this, hi]

/-- A use more for each of these. -/
def bumps (ids : List Int) (es : List Ent) : List Ent := ids.foldl (fun es i => es.map (bumpE i)) es
theorem bumps_snoc (ids : List Int) (i : Int) (es : List Ent) : bumps (ids ++ [i]) es = (bumps ids es).map (bumpE i) := by simp [bumps]
theorem bumps_ids (ids : List Int) : ∀ es : List Ent, (bumps ids es).map (·.id) = es.map (·.id) := by
  induction ids with
  | nil => intro es; rfl
  | cons i ids ih =>
    intro es
    show (bumps ids (es.map (bumpE i))).map (·.id) = _
    rw [ih, List.map_map]
    exact List.map_congr_left (fun e _ => bumpE_id i e)

theorem recMap_find (l : List (Ent × Nat)) (i : Int) (h : i ∈ l.map (·.1.id)) (hn : (l.map (·.1.id)).Nodup) : ∃ x ∈ l, x.1.id = i ∧ (∀ y ∈ l, y.1.id = i → y = x) ∧ recMap l (.int .i64 i) = some (.pointer (some ⟨x.2, 0, none⟩)) := by
  classical
  obtain ⟨x, hx, hxi⟩ := List.mem_map.1 h
  have hone : ∀ y ∈ l, y.1.id = i → y = x := by
    intro y hy hyi
    clear h
    induction l with
    | nil => cases hx
    | cons a l ih =>
      rw [List.map_cons, List.nodup_cons] at hn
      rcases List.mem_cons.1 hx with hx1 | hx1 <;> rcases List.mem_cons.1 hy with hy1 | hy1
      · rw [hx1, hy1]
      · exact absurd (List.mem_map.2 ⟨y, hy1, by rw [hyi, ← hxi, hx1]⟩) hn.1
      · exact absurd (List.mem_map.2 ⟨x, hx1, by rw [hxi, ← hyi, hy1]⟩) hn.1
      · exact ih hn.2 hx1 hy1
  refine ⟨x, hx, hxi, hone, ?_⟩
  unfold recMap
  cases hf : l.find? fun e => decide (Value.int .i64 e.1.id = .int .i64 i) with
  | none =>
    have := List.find?_eq_none.1 hf x hx
    simp [hxi] at this
  | some y =>
    have h1 := List.mem_of_find?_eq_some hf
    have h2 := List.find?_some hf
    have h3 : y.1.id = i := by simpa using h2
    rw [hone y h1 h3]
    rfl

theorem zero85 (w : World) : (zeroValue 85).run Try.prog w = .ok (.pointer none) w := Try.zeroValue85 w

theorem yieldsIf_build_record {ops : Array Oper} {S : World → Prop} {op : Oper} {a : Act} (hw : Region.wanted op (yielded ops a.tmps) = true) (x : Operand) (ho : op.op = .build 84 #[(0, x)]) (cs : List Value) (hl : cs.length = 19) (hx : a.eval x = .agg cs.toArray) : YieldsIf Try.prog ops S op (.agg (cs ++ [Value.int .i64 0, Value.int .i64 0]).toArray) a :=
  .inl ⟨hw, fun w _ => by
    have h1 := run_build_record cs hl w
    unfold execOp
    simp only [ho, hx, Sem.run_bind, Sem.run_pure, List.map_toArray, List.map_cons, List.map_nil, h1, Result.andThen_ok]⟩

set_option maxRecDepth 100000 in
set_option maxHeartbeats 2000000 in
theorem enter_new (n0 Ba : Nat) (B : List Nat) (limit : Int) (es : List Ent) (W : World) (bn br : Nat) (fv : Value) (l : List (Ent × Nat)) (nd : Nd) (kl : Lit) (h : BankAt n0 Ba B limit es [] W bn br fv l) (hfine : nd.Fine) (hkl : keyOf Try.prog 82 nd.val = some kl) (hno : entOf es nd = none) (hcnt : es.length ≤ 1073741824) (hn0 : n0 ≤ W.heap.size) (hid : ∀ e ∈ es, e.id ≠ es.length + 1) (hnod : (es.map (·.id)).Nodup) (hin : ∀ a ∈ nd.args, a ∈ es.map (·.id)) :
    Calls Try.prog 50 #[.pointer (some ⟨Ba, 0, none⟩), nd.val] W fun e W' => e = .returned (.int .i64 (es.length + 1)) ∧ ∃ B', BankSt n0 Ba B' limit (bumps nd.args (es ++ [⟨es.length + 1, nd, 0, 0⟩])) [] W' ∧ (∀ r ∈ B', r ∈ B ∨ W.heap.size ≤ r) ∧ Only B W W' := by
  have hl19 : nd.cells.length = 19 := ndCells_len _ _ _ _
  have hb := below_box W (.cells nd.cells.toArray 82)
  have hbx : ∀ q, ((W.alloc (.cells nd.cells.toArray 82)).drewN q).heap[W.heap.size]? = some (.cells nd.cells.toArray 82 (0, 0)) := fun q => ((below_drewN (Below.refl (W.heap.size + 1) _) q).block _ (Nat.lt_succ_self _)).trans (MapKept.heap_alloc W _).1
  have h1 : ∀ q, BankAt n0 Ba B limit es [] ((W.alloc (.cells nd.cells.toArray 82)).drewN q) bn br fv l := fun q => h.keep (fun r hr => (below_drewN hb q).block r (h.there r hr))
  have hnB : ∀ r ∈ B, r ≠ W.heap.size := fun r hr e => by have := h.there r hr; omega
  obtain ⟨_, c1, c2, c3⟩ := (h1 0).cells
  have hlk : ∀ q, (Instr.lookup 72 (.map (some bn)) (.agg nd.cells.toArray) true).run Try.prog ((W.alloc (.cells nd.cells.toArray 82)).drewN q) = .ok (.tuple #[.int .i64 0, .bool false]) ((W.alloc (.cells nd.cells.toArray 82)).drewN q) := fun q => ((((h1 q).nums).look keyed82 Try.underlying72 (zero3 _) hkl).2 (by rw [numMap_ent, hno]; rfl)).1
  have hc1 : (W.alloc (.cells nd.cells.toArray 82)).cell? ⟨Ba, 1, none⟩ = some (.map (some bn)) := c1
  clear c1 c2 c3
  go_enter Try.func50, Try.ntmps50
  go_wp2
  generalize W.alloc (.cells nd.cells.toArray 82) = W1 at *
  refine wp_region_quiet_lit (by kernel_rfl) (by kernel_rfl) ?_
  repeat (first | (refine wpQuiet_load_node rfl _ rfl W.heap.size rfl nd.cells hl19 (fun w ⟨q, hq⟩ => by rw [hq]; exact hbx q) ?_) | quiet_step (fail))
  refine wpQuiet_nil ?_
  intro _ hw'
  obtain ⟨nq, hw''⟩ := hw'
  subst hw''
  have hbxq := hbx nq
  have h1q := h1 nq
  have hb1 := below_drewN hb nq
  generalize W1.drewN nq = W2 at *
  obtain ⟨_, fn1, _, _, _⟩ := nd_cell hbxq
  have hclone := (sclone_any nd.fn W2 hfine.fn).mono (R' := fun e W' => e = .returned (.string nd.fn) ∧ W'.cell? ⟨W.heap.size, 1, none⟩ = some (.string nd.fn) ∧ W'.frozen? ⟨W.heap.size, 1, none⟩ = false ∧ Hid ((W'.setCell ⟨W.heap.size, 1, none⟩ (.string nd.fn)).heap[W.heap.size]? = some (.cells nd.cells.toArray 82 (0, 0)) ∧ BankAt n0 Ba B limit es [] (W'.setCell ⟨W.heap.size, 1, none⟩ (.string nd.fn)) bn br fv l ∧ Below W.heap.size W (W'.setCell ⟨W.heap.size, 1, none⟩ (.string nd.fn)))) (by
    rintro e W' ⟨he, hbc⟩
    have hx : W'.heap[W.heap.size]? = some (.cells nd.cells.toArray 82 (0, 0)) := (hbc.block _ (Array.getElem?_eq_some_iff.1 hbxq).1).trans hbxq
    obtain ⟨_, g1, _, g3, _⟩ := nd_cell hx
    have hg := World.grownBy_setCell_any W' W.heap.size 1 (.string nd.fn)
    have hbW' : BankAt n0 Ba B limit es [] W' bn br fv l := h1q.keep (fun r hr => hbc.block r (h1q.there r hr))
    exact ⟨he, g1, g3 1, set_fn hx, hbW'.keep (fun r hr => hg.block r (hbW'.there r hr) (fun e => hnB r hr (Option.some.inj e))), hb1.trans ((hbc.mono hb1.size).trans ((Below.refl _ _).setCell (p := ⟨W.heap.size, 1, none⟩) (Nat.le_refl _) _))⟩)
  clear h1 hlk hbx hc1 hb h
  go_wp2_with (first
    | (go_at_call 66; refine hclone.mono ?_; rintro e W3 ⟨rfl, k1, k2, HB⟩)
    | (go_at_call 67; refine (least_new HB.2.1 hcnt).mono ?_; rintro e W4 ⟨rfl, rfl⟩))
  obtain ⟨hN, hBk, hBe⟩ : _ ∧ _ ∧ _ := HB
  generalize hW5 : W3.setCell ⟨W.heap.size, 1, none⟩ (.string nd.fn) = W5 at *
  clear hclone k1 k2 hW5 h1q hb1 hbxq
  have hdr : ∀ k : Nat, k < W5.heap.size → W5.drew.heap[k]? = W5.heap[k]? := fun k hk => (below_drewN (Below.refl W5.heap.size W5) 1).block k hk
  have hN6 : W5.drew.heap[W.heap.size]? = some (.cells nd.cells.toArray 82 (0, 0)) := (hdr _ (Array.getElem?_eq_some_iff.1 hN).1).trans hN
  have hBk6 : BankAt n0 Ba B limit es [] W5.drew bn br fv l := hBk.keep (fun r hr => hdr r (hBk.there r hr))
  have hBe6 : Below W.heap.size W W5.drew := hBe.trans ((below_drewN (Below.refl W5.heap.size W5) 1).mono hBe.size)
  obtain ⟨W7, hrun, hM, hg⟩ := hBk6.nums.put keyed82 Try.underlying72 (by unfold maxLen; omega) hkl (.int .i64 (es.length + 1))
  obtain ⟨_, c1, c2, c3⟩ := hBk6.cells
  have hmine := hBk6.mine
  have hne2 : bn ≠ W.heap.size := hnB bn (by rw [hmine]; simp)
  have hne1 : bn ≠ Ba := hBk6.maps.1
  have hBa7 := hg.block Ba (Array.getElem?_eq_some_iff.1 hBk6.head).1 (fun e => hne1 (Option.some.inj e).symm)
  have c1' : W7.cell? ⟨Ba, 1, none⟩ = some (.map (some bn)) := (cell_congr hBa7 1).trans c1
  have c2' : W7.cell? ⟨Ba, 2, none⟩ = some (.map (some br)) := (cell_congr hBa7 2).trans c2
  have hN7 : W7.heap[W.heap.size]? = some (.cells nd.cells.toArray 82 (0, 0)) := (hg.block _ (Array.getElem?_eq_some_iff.1 hN6).1 (fun e => hne2 (Option.some.inj e).symm)).trans hN6
  refine wp_region_held_drew (S := fun w => w.cell? ⟨Ba, 1, none⟩ = some (.map (some bn)) ∧ w.heap[W.heap.size]? = some (.cells nd.cells.toArray 82 (0, 0))) (by kernel_rfl) ⟨c1, hN6⟩ (fun hHeld => ?_)
  refine take_mk 0 (.pointer (some ⟨Ba, 0, none⟩)) rfl (by kernel_rfl) (by kernel_rfl) (by kernel_rfl) (fun _ _ _ h => h) (Or.inl ⟨by rfl, fun w hSw => by go_simp⟩) (by assumption) ?_
  simp only [Act.put, List.setIfInBounds_toArray, List.set_cons_zero, List.set_cons_succ]
  refine take_mk 1 (.pointer (some ⟨Ba, 0, none⟩)) rfl (by kernel_rfl) (by kernel_rfl) (by kernel_rfl) (fun _ _ _ h => h) (Or.inl ⟨by rfl, fun w hSw => by go_simp⟩) (by assumption) ?_
  simp only [Act.put, List.setIfInBounds_toArray, List.set_cons_zero, List.set_cons_succ]
  refine take_mk 2 (.pointer (some ⟨Ba, 1, none⟩)) rfl (by kernel_rfl) (by kernel_rfl) (by kernel_rfl) (fun _ _ _ h => h) (Or.inl ⟨by rfl, fun w hSw => by go_simp⟩) (by assumption) ?_
  simp only [Act.put, List.setIfInBounds_toArray, List.set_cons_zero, List.set_cons_succ]
  refine take_mk 3 (.map (some bn)) rfl (by kernel_rfl) (by kernel_rfl) (by kernel_rfl) (fun _ _ _ h => h) (Or.inl ⟨by rfl, fun w hSw => by have := hSw.1; go_simp⟩) (by assumption) ?_
  simp only [Act.put, List.setIfInBounds_toArray, List.set_cons_zero, List.set_cons_succ]
  refine take_mk 4 (.agg nd.cells.toArray) rfl (by kernel_rfl) (by kernel_rfl) (by kernel_rfl) (fun _ _ _ h => h) (yieldsIf_load_node (by rfl) _ rfl W.heap.size rfl nd.cells hl19 (fun w hSw => hSw.2)) (by assumption) ?_
  simp only [Act.put, List.setIfInBounds_toArray, List.set_cons_zero, List.set_cons_succ]
  refine take_mk 5 (.int .i64 (es.length + 1)) rfl (by kernel_rfl) (by kernel_rfl) (by kernel_rfl) (fun _ _ _ h => h) (Or.inl ⟨by rfl, fun w hSw => by go_simp⟩) (by assumption) ?_
  simp only [Act.put, List.setIfInBounds_toArray, List.set_cons_zero, List.set_cons_succ]
  refine wpAnyH_ready (rs := [6]) (by kernel_rfl) (by simp) (AllReadyH.cons (o := ⟨_, _, _, _, _, _⟩) rfl (fun K hK => ?_) AllReadyH.nil)
  rw [if_pos (by rfl)]
  refine wp_mapUpdate_run 72 _ _ _ rfl (.map (some bn)) (.agg nd.cells.toArray) (.int .i64 (es.length + 1)) rfl rfl rfl hrun ?_
  refine hK.out _ _ ⟨c1', hN7⟩ (fun hHeld => ?_)
  clear hK K
  refine wpAnyH_done (by kernel_rfl) ?_ _
  simp only [Act.put]
  go_wp2
  obtain ⟨ent, hent⟩ : ∃ ent : Ent, ent = ⟨es.length + 1, nd, 0, 0⟩ := ⟨_, rfl⟩
  have hec : ent.cells = nd.cells ++ [Value.int .i64 0, Value.int .i64 0] := by rw [hent]; rfl
  have hnd : ent.nd = nd := by rw [hent]
  have hei : ent.id = es.length + 1 := by rw [hent]
  have hsz : W7.drew.heap.size = W7.heap.size := rfl
  have hd7 : ∀ k : Nat, k < W7.heap.size → W7.drew.heap[k]? = W7.heap[k]? := fun k hk => (below_drewN (Below.refl W7.heap.size W7) 1).block k hk
  have hb8 := below_box W7.drew (.cells ent.cells.toArray 84)
  have h78 : ∀ r, r < W7.heap.size → (W7.drew.alloc (.cells ent.cells.toArray 84)).heap[r]? = W7.heap[r]? := fun r hr => (hb8.block r hr).trans (hd7 r hr)
  have hR8 : (W7.drew.alloc (.cells ent.cells.toArray 84)).heap[W7.heap.size]? = some (.cells ent.cells.toArray 84 (0, 0)) := (MapKept.heap_alloc W7.drew _).1
  have hb7 : BankAt n0 Ba B limit es [] W5.drew bn br fv l := hBk6
  have hbr7 : br < W7.heap.size := Nat.lt_of_lt_of_le hb7.recs.lt hg.size
  have hrec8 : MapIs (W7.drew.alloc (.cells ent.cells.toArray 84)) 3 br (recMap l) es.length := hb7.recs.same ((h78 br hbr7).trans (hg.block br hb7.recs.lt (fun e => hb7.apart (Option.some.inj e).symm)))
  have hidl : ∀ x ∈ l, x.1.id ≠ es.length + 1 := fun x hx => hid x.1 (by rw [← hb7.ents]; exact List.mem_map_of_mem hx)
  obtain ⟨W9, hrun9, hM9, hg9⟩ := hrec8.put keyed3 Try.underlying73 (by unfold maxLen; omega) (key3 (a := es.length + 1) ⟨by omega, by omega⟩) (.pointer (some ⟨W7.heap.size, 0, none⟩))
  rw [recMap_none l _ hidl] at hM9
  have hM' : MapIs W7 82 bn (upd (numMap es) ent.nd.val (.int .i64 ent.id)) (es.length + 1) := by
    rw [numMap_ent, hno] at hM
    rw [hnd, hei]
    exact hM
  have hlt7 := Nat.lt_of_lt_of_le (Array.getElem?_eq_some_iff.1 hN6).1 hg.size
  have hB9 := bank_put hb7 ent W7.heap.size (by rw [hnd]; exact hno) (fun x hx => by rw [hei]; exact hid x hx) hM' hg h78 (Nat.le_refl _) hR8 (by rw [hei]; exact hM9) hg9 (by omega)
  have hbrN : br ≠ W.heap.size := hnB br (by rw [hmine]; simp)
  have hN8 := (h78 _ hlt7).trans hN7
  have hN9 : W9.heap[W.heap.size]? = some (.cells nd.cells.toArray 82 (0, 0)) := (hg9.block _ (Array.getElem?_eq_some_iff.1 hN8).1 (fun e => hbrN (Option.some.inj e).symm)).trans hN8
  obtain ⟨_, _, c29, _⟩ := hB9.cells
  have hO9 : Only B W W9 := by
    have o1 : Only B W W5.drew := Only.of_below hBe6
    have o2 : Only B W5.drew W7 := Only.of_grown hg (fun r e => by cases e; rw [hmine]; simp)
    have o3 : Only B W7 (W7.drew.alloc (.cells ent.cells.toArray 84)) := Only.of_below ((below_drewN (Below.refl W7.heap.size W7) 1).trans hb8)
    have o4 : Only B (W7.drew.alloc (.cells ent.cells.toArray 84)) W9 := Only.of_grown hg9 (fun r e => by cases e; rw [hmine]; simp)
    exact ((o1.trans o2 (fun r hr => .inl hr)).trans o3 (fun r hr => .inl hr)).trans o4 (fun r hr => .inl hr)
  have hBa7l := Nat.lt_of_lt_of_le (Array.getElem?_eq_some_iff.1 hb7.head).1 hg.size
  refine wp_region_held_drew (S := fun w => w.cell? ⟨Ba, 2, none⟩ = some (.map (some br)) ∧ w.heap[W.heap.size]? = some (.cells nd.cells.toArray 82 (0, 0))) (by kernel_rfl) ⟨(cell_congr (hd7 Ba hBa7l) 2).trans c2', (hd7 _ hlt7).trans hN7⟩ (fun hHeld => ?_)
  generalize W7.drew = W8 at *
  refine take_mk 0 (.pointer (some ⟨Ba, 0, none⟩)) rfl (by kernel_rfl) (by kernel_rfl) (by kernel_rfl) (fun _ _ _ h => h) (Or.inl ⟨by rfl, fun w hSw => by go_simp⟩) (by assumption) ?_
  simp only [Act.put, List.setIfInBounds_toArray, List.set_cons_zero, List.set_cons_succ]
  refine take_mk 1 (.pointer (some ⟨Ba, 0, none⟩)) rfl (by kernel_rfl) (by kernel_rfl) (by kernel_rfl) (fun _ _ _ h => h) (Or.inl ⟨by rfl, fun w hSw => by go_simp⟩) (by assumption) ?_
  simp only [Act.put, List.setIfInBounds_toArray, List.set_cons_zero, List.set_cons_succ]
  refine take_mk 2 (.pointer (some ⟨Ba, 2, none⟩)) rfl (by kernel_rfl) (by kernel_rfl) (by kernel_rfl) (fun _ _ _ h => h) (Or.inl ⟨by rfl, fun w hSw => by go_simp⟩) (by assumption) ?_
  simp only [Act.put, List.setIfInBounds_toArray, List.set_cons_zero, List.set_cons_succ]
  refine take_mk 3 (.map (some br)) rfl (by kernel_rfl) (by kernel_rfl) (by kernel_rfl) (fun _ _ _ h => h) (Or.inl ⟨by rfl, fun w hSw => by have := hSw.1; go_simp⟩) (by assumption) ?_
  simp only [Act.put, List.setIfInBounds_toArray, List.set_cons_zero, List.set_cons_succ]
  refine take_mk 4 (.int .i64 (es.length + 1)) rfl (by kernel_rfl) (by kernel_rfl) (by kernel_rfl) (fun _ _ _ h => h) (Or.inl ⟨by rfl, fun w hSw => by go_simp⟩) (by assumption) ?_
  simp only [Act.put, List.setIfInBounds_toArray, List.set_cons_zero, List.set_cons_succ]
  refine take_mk 5 (.agg nd.cells.toArray) rfl (by kernel_rfl) (by kernel_rfl) (by kernel_rfl) (fun _ _ _ h => h) (yieldsIf_load_node (by rfl) _ rfl W.heap.size rfl nd.cells hl19 (fun w hSw => hSw.2)) (by assumption) ?_
  simp only [Act.put, List.setIfInBounds_toArray, List.set_cons_zero, List.set_cons_succ]
  refine take_mk 6 (.agg (nd.cells ++ [Value.int .i64 0, Value.int .i64 0]).toArray) rfl (by kernel_rfl) (by kernel_rfl) (by kernel_rfl) (fun _ _ _ h => h) (yieldsIf_build_record (by rfl) _ rfl nd.cells hl19 rfl) (by assumption) ?_
  simp only [Act.put, List.setIfInBounds_toArray, List.set_cons_zero, List.set_cons_succ]
  rw [← hec]
  refine wpAnyH_ready (rs := [7]) (by kernel_rfl) (by simp) (AllReadyH.cons (o := ⟨_, _, _, _, _, _⟩) rfl (fun K hK => ?_) AllReadyH.nil)
  rw [if_pos (by rfl)]
  have HEnt : Hid (ent = ⟨es.length + 1, nd, 0, 0⟩) := hent
  clear hent hec
  go_simp
  refine hK.out _ _ ⟨(cell_congr (h78 Ba hBa7l) 2).trans c2', hN8⟩ (fun hHeld => ?_)
  clear hK K
  refine wpAnyH_ready (rs := [8]) (by kernel_rfl) (by simp) (AllReadyH.cons (o := ⟨_, _, _, _, _, _⟩) rfl (fun K hK => ?_) AllReadyH.nil)
  rw [if_pos (by rfl)]
  refine wp_mapUpdate_run 73 _ _ _ rfl (.map (some br)) (.int .i64 (es.length + 1)) (.pointer (some ⟨W7.heap.size, 0, none⟩)) rfl rfl rfl hrun9 ?_
  refine hK.out _ _ ⟨c29, hN9⟩ (fun hHeld => ?_)
  clear hK K
  refine wpAnyH_done (by kernel_rfl) ?_ _
  simp only [Act.put]
  obtain ⟨_, _, hargc, _, hargs⟩ := nd_cell hN9
  go_wp2_with (first
    | (go_at_call 68; refine (arguments_any _ _ _ hargc hfine.len).mono ?_; rintro e W10 ⟨rfl, q9, rfl⟩))
  clear hmine
  go_loopw [43] (fun i wr => ∃ k : Nat, k ≤ nd.args.length ∧ i = .int .i64 k ∧ Hid (∃ l', BankAt n0 Ba (B ++ [W7.heap.size]) limit (bumps (nd.args.take k) (es ++ [ent])) [] wr bn br fv l' ∧ wr.heap[W.heap.size]? = some (.cells nd.cells.toArray 82 (0, 0)) ∧ Only B W wr)) (fun i _ => nd.args.length - (intOf i).toNat)
  case atStart =>
    have hq := below_drewN (Below.refl W9.heap.size W9) q9
    exact ⟨0, Nat.zero_le _, rfl, _, hB9.keep (fun r hr => hq.block r (hB9.there r hr)), (hq.block _ (Array.getElem?_eq_some_iff.1 hN9).1).trans hN9, hO9.trans (Only.of_below (B := B) hq) (fun r hr => .inl hr)⟩
  case round =>
    obtain ⟨k, hk, rfl, l', hBw, hbox, hO⟩ := hrel
    by_cases hlt : k < nd.args.length
    · have hids : l'.map (·.1.id) = (es ++ [ent]).map (·.id) := by
        have := bumps_ids (nd.args.take k) (es ++ [ent])
        rw [← hBw.ents, List.map_map] at this
        exact this
      obtain ⟨x, hx, hxi, hone, hrec⟩ := recMap_find l' nd.args[k] (by rw [hids, List.map_append]; exact List.mem_append_left _ (hin _ (List.getElem_mem hlt))) (by
        rw [hids, List.map_append, List.nodup_append]
        refine ⟨hnod, by simp, ?_⟩
        intro a ha b hb
        obtain ⟨e, he, rfl⟩ := List.mem_map.1 ha
        have : b = ent.id := by simpa using hb
        rw [this, hei]
        exact hid e he)
      have hfit := hfine.each _ (List.getElem_mem hlt)
      have hlk := ((hBw.recs.look keyed3 Try.underlying73 (zero85 _) (key3 hfit)).1 _ hrec).2
      obtain ⟨_, _, d2, _⟩ := hBw.cells
      obtain ⟨_, _, _, _, hargk⟩ := nd_cell hbox
      have harg := hargk k hlt hfine.len
      have hrc := hBw.each x hx
      have hu : wr.cell? ⟨x.2, 20, none⟩ = some (.int .i64 x.1.uses) := by
        rw [cell_of_row _ _ _ _ 84 (0, 0) hrc, List.getElem?_toArray]
        exact x.1.cells_uses
      have hfz : wr.frozen? ⟨x.2, 20, none⟩ = false := by simp [World.frozen?, hrc]
      have hbump := bank_bump hBw _ x hx hxi hone
      have hts : nd.args.take (k + 1) = nd.args.take k ++ [nd.args[k]] := List.take_succ_eq_append_getElem hlt
      have hgs := World.grownBy_setCell_any wr x.2 20 (.int .i64 (wrap64 (x.1.uses + 1)))
      have hxB : x.2 ∈ B ++ [W7.heap.size] := by
        rw [hBw.mine]
        simp only [List.mem_cons, List.mem_append, List.mem_map]
        exact .inr (.inr (.inr (.inr ⟨x, hx, rfl⟩)))
      have hxN : x.2 ≠ W.heap.size := by
        intro e
        rw [e, hbox] at hrc
        simp at hrc
      have HE : Hid (∃ l', BankAt n0 Ba (B ++ [W7.heap.size]) limit (bumps (nd.args.take (k + 1)) (es ++ [ent])) [] (wr.setCell ⟨x.2, 20, none⟩ (.int .i64 (wrap64 (x.1.uses + 1)))) bn br fv l' ∧ (wr.setCell ⟨x.2, 20, none⟩ (.int .i64 (wrap64 (x.1.uses + 1)))).heap[W.heap.size]? = some (.cells nd.cells.toArray 82 (0, 0)) ∧ Only B W (wr.setCell ⟨x.2, 20, none⟩ (.int .i64 (wrap64 (x.1.uses + 1))))) := by
        refine ⟨_, by rw [hts, bumps_snoc]; exact hbump, (hgs.block _ (Array.getElem?_eq_some_iff.1 hbox).1 (fun e => hxN (Option.some.inj e).symm)).trans hbox, hO.trans (Only.of_grown (B := [x.2]) hgs (fun r e => by cases e; simp)) (fun r hr => ?_)⟩
        cases List.mem_singleton.1 hr
        rcases List.mem_append.1 hxB with h | h
        · exact .inl h
        · exact .inr (by rw [List.mem_singleton.1 h]; omega)
      have hki : ((k : Int) < (nd.args.length : Int)) := by omega
      have h16 := hfine.len
      clear hbump hgs hts hone hids hargk hBw hO hbox hrec
      go_wp2
      go_roundw
      case rel => exact ⟨k + 1, by omega, by go_num, HE⟩
      case measure => simp [intOf]; omega
    · have hall : nd.args.take k = nd.args := List.take_of_length_le (by omega)
      have hki : ¬ ((k : Int) < (nd.args.length : Int)) := by omega
      rw [hall, show ent = _ from HEnt] at hBw
      have HP : Hid (∃ B', BankSt n0 Ba B' limit (bumps nd.args (es ++ [⟨es.length + 1, nd, 0, 0⟩])) [] wr ∧ (∀ r ∈ B', r ∈ B ∨ W.heap.size ≤ r) ∧ Only B W wr) := by
        refine ⟨_, ⟨_, _, _, _, hBw⟩, fun r hr => ?_, hO⟩
        rcases List.mem_append.1 hr with h | h
        · exact .inl h
        · exact .inr (by rw [List.mem_singleton.1 h]; omega)
      clear hBw hO hbox
      go_wp2
      go_ret
      exact ⟨rfl, HP⟩


end Go.Proofs.Ytbbfpllffcfmhaa
