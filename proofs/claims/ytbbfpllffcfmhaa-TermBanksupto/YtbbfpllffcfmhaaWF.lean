/-
  The bank without a node.
-/
import Derived.Test.YtbbfpllffcfmhaaWE
import Derived.Test.YtbbfpllffcfmhaaWJ
namespace Go.Proofs.Ytbbfpllffcfmhaa
open Go.RowKit Go.Maps

theorem find_filter {α : Type} {p q : α → Bool} : ∀ {l : List α}, (∀ x ∈ l, q x = true → p x = true) → (l.filter p).find? q = l.find? q
  | [], _ => rfl
  | x :: r, h => by
    have ih := find_filter (l := r) fun y hy => h y (List.mem_cons_of_mem _ hy)
    cases hq : q x with
    | true =>
      rw [List.filter_cons_of_pos (h x List.mem_cons_self hq), List.find?_cons_of_pos hq, List.find?_cons_of_pos hq]
    | false =>
      rw [List.find?_cons_of_neg (by simp [hq])]
      cases hp : p x with
      | true => rw [List.filter_cons_of_pos hp, List.find?_cons_of_neg (by simp [hq]), ih]
      | false => rw [List.filter_cons_of_neg (by simp [hp]), ih]

theorem numMap_rem {es : List Ent} {P : List Int} (h : Bk es P) {e : Ent} (he : e ∈ es) : numMap (remE e.id es) = del (numMap es) e.nd.val := by
  classical
  funext key
  unfold numMap del
  by_cases hk : key = e.nd.val
  · rw [if_pos hk]
    have : (remE e.id es).find? (fun e' => decide (e'.nd.val = key)) = none := List.find?_eq_none.2 fun x hx hd => by
      have hd : x.nd.val = key := by simpa using hd
      have := h.nds x (mem_rem.1 hx).1 e he (val_inj (h.fine x (mem_rem.1 hx).1).len (hd.trans hk))
      exact (mem_rem.1 hx).2 (by rw [this])
    rw [this]
    rfl
  · rw [if_neg hk]
    unfold remE
    rw [find_filter fun x hx hd => ?_]
    have hd : x.nd.val = key := by simpa using hd
    refine decide_eq_true fun e1 => hk ?_
    rw [← hd, id_inj h.nod hx he e1]

def remL (i : Int) (l : List (Ent × Nat)) : List (Ent × Nat) := l.filter fun x => decide (x.1.id ≠ i)
theorem mem_remL {i : Int} {l : List (Ent × Nat)} {x : Ent × Nat} : x ∈ remL i l ↔ x ∈ l ∧ x.1.id ≠ i := by simp [remL]
theorem remL_ents (i : Int) : ∀ l : List (Ent × Nat), (remL i l).map (·.1) = remE i (l.map (·.1))
  | [] => rfl
  | x :: r => by
    have ih := remL_ents i r
    unfold remL remE at ih ⊢
    by_cases e : x.1.id = i
    · rw [List.filter_cons_of_neg (by simp [e]), List.map_cons, List.filter_cons_of_neg (by simp [e]), ih]
    · rw [List.filter_cons_of_pos (by simp [e]), List.map_cons, List.map_cons, List.filter_cons_of_pos (by simp [e]), ih]
theorem recMap_rem (i : Int) (l : List (Ent × Nat)) : recMap (remL i l) = del (recMap l) (.int .i64 i) := by
  classical
  funext key
  unfold recMap del
  by_cases hk : key = .int .i64 i
  · rw [if_pos hk]
    have : (remL i l).find? (fun e => decide (Value.int .i64 e.1.id = key)) = none := List.find?_eq_none.2 fun x hx hd => by
      have hd : Value.int .i64 x.1.id = key := by simpa using hd
      rw [hk] at hd
      injection hd with _ hd
      exact (mem_remL.1 hx).2 hd
    rw [this]
    rfl
  · rw [if_neg hk]
    unfold remL
    rw [find_filter fun x hx hd => ?_]
    have hd : Value.int .i64 x.1.id = key := by simpa using hd
    refine decide_eq_true fun e1 => hk ?_
    rw [← hd, e1]

theorem bank_rem {n0 Ba : Nat} {B : List Nat} {limit : Int} {es : List Ent} {free : List Int} {W : World} {bn br : Nat} {fv : Value} {l : List (Ent × Nat)} (h : BankAt n0 Ba B limit es free W bn br fv l) {P : List Int} (hb : Bk es P) {x : Ent × Nat} (hx : x ∈ l) {W' : World} {g c : Nat} {free' : List Int}
    (hn : MapIs W' 82 bn (del (numMap es) x.1.nd.val) (es.length - 1)) (hr : MapIs W' 3 br (del (recMap l) (.int .i64 x.1.id)) (es.length - 1)) (hF : Fb W' Ba limit bn br n0 g c free') (he : ∀ y ∈ l, W'.heap[y.2]? = W.heap[y.2]?) :
    BankAt n0 Ba (Ba :: bn :: br :: ([g] ++ (remL x.1.id l).map (·.2))) limit (remE x.1.id es) free' W' bn br (.slice (some ⟨g, 0, none⟩) free'.length c) (remL x.1.id l) := by
  have hxe : x.1 ∈ es := by rw [← h.ents]; exact List.mem_map_of_mem hx
  have hlen : (remE x.1.id es).length = es.length - 1 := by have := (rem_occ hb.nod hxe 0).2; omega
  have hB : ∀ r ∈ B, n0 ≤ r := h.low
  rw [h.mine] at hB
  refine ⟨by rw [remL_ents, h.ents], hF.head, ?_, ?_, fun y hy => (he y (mem_remL.1 hy).1).trans (h.each y (mem_remL.1 hy).1), hF.rw.to_row, h.apart, ?_, rfl, fun r hr' => ?_⟩
  · rw [numMap_rem hb hxe, hlen]; exact hn
  · rw [recMap_rem, hlen]; exact hr
  · exact List.Nodup.sublist (List.Sublist.map _ List.filter_sublist) h.blks
  · simp only [List.mem_cons, List.mem_append, List.not_mem_nil, or_false, List.mem_map] at hr'
    rcases hr' with rfl | rfl | rfl | rfl | ⟨y, hy, rfl⟩
    · exact hB _ (by simp)
    · exact hB _ (by simp)
    · exact hB _ (by simp)
    · exact hF.rw.low
    · exact hB _ (by simp only [List.mem_cons, List.mem_append, List.mem_map]; exact .inr (.inr (.inr (.inr ⟨y, (mem_remL.1 hy).1, rfl⟩))))

/-- A key goes, by its run. -/
theorem wp_delete_run {op : Oper} {a : Act} {w w' : World} {K : Act → World → Prop} {Q : Exit → Act → World → Prop} (m x : Operand) (t k : TypeId) (ho : op.op = Op.call { callee := Callee.builtin Builtin.delete, args := #[m, x], argTypes := #[t, k] }) (mv xv : Value) (hm : a.eval m = mv) (hx : a.eval x = xv)
    (hrun : (Builtin.delete_ #[t, k] op.type #[mv, xv]).run Try.prog w = .ok (.tuple #[]) w') (h : K (a.put op.dst (.tuple #[])) w') : Oper.wp Try.prog op a w K Q := by
  unfold Oper.wp execOp
  simp only [ho, resolve, invoke, builtin, Sem.run_bind, Sem.run_pure, Result.andThen_ok, List.map_toArray, List.map_cons, List.map_nil, hm, hx, hrun]
  exact h

/-- A record's node is read. -/
theorem load_rec_node {W : World} {b : Nat} {e : Ent} (h : W.heap[b]? = some (.cells e.cells.toArray 84 (0, 0))) : (Instr.loadAt 82 (.pointer (some ⟨b, 0, none⟩))).run Try.prog W = .ok e.nd.val W := by
  have hl : e.nd.cells.length = 19 := ndCells_len _ _ _ _
  exact run_loadAt_mid (P := Try.prog) W b 0 82 e.nd.cells _ (fun j v hv => by
    rw [Nat.zero_add, cell_of_row _ _ _ _ 84 (0, 0) h]
    have hj : j < e.nd.cells.length := (List.getElem?_eq_some_iff.1 hv).1
    unfold Ent.cells
    simp only [List.getElem?_toArray]
    rw [List.getElem?_append_left hj]
    exact hv) Try.underlying82 rfl (by rw [hl]; exact Try.info82)

end Go.Proofs.Ytbbfpllffcfmhaa
