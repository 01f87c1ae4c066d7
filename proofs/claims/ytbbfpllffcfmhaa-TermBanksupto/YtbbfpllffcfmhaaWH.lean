/-
  The heap of free numbers: what it keeps.
-/
import Derived.Test.YtbbfpllffcfmhaaZC
import Derived.Deep.RegionHeld3
namespace Go.Proofs.Ytbbfpllffcfmhaa
open Go.RowKit Go.Maps

theorem load74 {w : World} {p : Addr} {v : Value} (h : w.cell? p = some v) : (loadVar 74 p).run Try.prog w = .ok v w := by
  go_simp
theorem met_push (p : Addr) (w : World) : (method 248 101 (.pointer (some p)) "Push").run Try.prog w = .ok (113, .pointer (some p)) w := by kernel_rfl
theorem met_len0 (p : Addr) (w : World) : (method 248 101 (.pointer (some p)) "Len").run Try.prog w = ((do let v ← loadVar 74 p; pure (83, v)) : Sem (FuncId × Value)).run Try.prog w := by kernel_rfl
theorem met_len {p : Addr} {v : Value} {w : World} (h : w.cell? p = some v) : (method 248 101 (.pointer (some p)) "Len").run Try.prog w = .ok (83, v) w := by
  rw [met_len0, Sem.run_bind, load74 h]
  rfl
theorem met_less0 (p : Addr) (w : World) : (method 248 101 (.pointer (some p)) "Less").run Try.prog w = ((do let v ← loadVar 74 p; pure (110, v)) : Sem (FuncId × Value)).run Try.prog w := by kernel_rfl
theorem met_less {p : Addr} {v : Value} {w : World} (h : w.cell? p = some v) : (method 248 101 (.pointer (some p)) "Less").run Try.prog w = .ok (110, v) w := by
  rw [met_less0, Sem.run_bind, load74 h]
  rfl
theorem met_swap0 (p : Addr) (w : World) : (method 248 101 (.pointer (some p)) "Swap").run Try.prog w = ((do let v ← loadVar 74 p; pure (111, v)) : Sem (FuncId × Value)).run Try.prog w := by kernel_rfl
theorem met_swap {p : Addr} {v : Value} {w : World} (h : w.cell? p = some v) : (method 248 101 (.pointer (some p)) "Swap").run Try.prog w = .ok (111, v) w := by
  rw [met_swap0, Sem.run_bind, load74 h]
  rfl

/-- A store, by its run. -/
theorem wp_store_run {op : Oper} {a : Act} {w w' : World} {K : Act → World → Prop} {Q : Exit → Act → World → Prop} (ty : TypeId) (x y : Operand) (ho : op.op = .store ty x y) (xv yv : Value) (hx : a.eval x = xv) (hy : a.eval y = yv)
    (hrun : (Instr.storeAt ty xv yv).run Try.prog w = .ok () w') (h : K (a.put op.dst undef) w') : Oper.wp Try.prog op a w K Q := by
  unfold Oper.wp execOp
  simp only [ho, hx, hy, Sem.run_bind, hrun, Result.andThen_ok, Sem.run_pure]
  exact h


/-- A row of numbers in a block of its own. -/
structure Rw (W : World) (n0 g c : Nat) (l : List Int) : Prop where
  blk : ∃ cur, W.heap[g]? = some (.cells cur 3 (0, 0)) ∧ cur.size = c ∧ ∀ i (h : i < l.length), cur[i]? = some (.int .i64 l[i])
  le : l.length ≤ c ∧ c ≤ maxLen
  low : n0 ≤ g

theorem Rw.of_row {W : World} {n0 : Nat} {v : Value} {l : List Int} (h : W.ownsRow n0 3 1 v l.length (l.map fun x => Value.int .i64 x)) (h0 : 0 < l.length) : ∃ g c, v = .slice (some ⟨g, 0, none⟩) l.length c ∧ Rw W n0 g c l := by
  obtain ⟨hl, ⟨e, hn⟩ | ⟨g, cap, cur, e, hb, hg, hc, hm, hsz, ht⟩⟩ := h
  · omega
  · refine ⟨g, cap, e, ⟨cur, hg, by omega, fun i hi => ?_⟩, ⟨hc, hm⟩, hb⟩
    have q : (l.map fun x => Value.int .i64 x)[i]? = some (.int .i64 l[i]) := by simp [hi]
    rw [← ht, List.getElem?_take] at q
    split at q
    · simpa using q
    · cases q
theorem Rw.to_row {W : World} {n0 g c : Nat} {l : List Int} (h : Rw W n0 g c l) : W.ownsRow n0 3 1 (.slice (some ⟨g, 0, none⟩) l.length c) l.length (l.map fun x => Value.int .i64 x) := by
  obtain ⟨cur, h1, h2, h3⟩ := h.blk
  refine ⟨by simp, .inr ⟨g, c, cur, rfl, h.low, h1, h.le.1, h.le.2, by omega, ?_⟩⟩
  apply List.ext_getElem?
  intro i
  rw [List.getElem?_take]
  by_cases hi : i < l.length
  · rw [if_pos (by omega)]
    have := h3 i hi
    simp [hi] at this ⊢
    exact this
  · rw [if_neg (by omega), List.getElem?_eq_none (by simpa using Nat.le_of_not_lt hi)]
theorem Rw.cell {W : World} {n0 g c : Nat} {l : List Int} (h : Rw W n0 g c l) {i : Nat} (hi : i < l.length) : W.cell? ⟨g, i, none⟩ = some (.int .i64 l[i]) ∧ W.frozen? ⟨g, i, none⟩ = false := by
  obtain ⟨cur, h1, h2, h3⟩ := h.blk
  have h4 := h3 i hi
  exact ⟨by simp [World.cell?, h1, h4], by simp [World.frozen?, h1]⟩
theorem Rw.set {W : World} {n0 g c : Nat} {l : List Int} (h : Rw W n0 g c l) {i : Nat} (hi : i < l.length) (x : Int) : Rw (W.setCell ⟨g, i, none⟩ (.int .i64 x)) n0 g c (l.set i x) := by
  obtain ⟨cur, h1, h2, h3⟩ := h.blk
  refine ⟨⟨cur.setIfInBounds i (.int .i64 x), ?_, by simpa using h2, fun k hk => ?_⟩, by simpa using h.le, h.low⟩
  · rw [setCell_eq_setRow W g i _ 3 (0, 0) _ h1, setRow_heap W g _ _ 3 (0, 0) h1]
  · have hk' : k < l.length := by simpa using hk
    have hs : i < cur.size := (Array.getElem?_eq_some_iff.1 (h3 i hi)).1
    by_cases e : i = k
    · subst e
      rw [Array.getElem?_setIfInBounds_self_of_lt hs]
      simp
    · rw [Array.getElem?_setIfInBounds_ne e, h3 k hk']
      simp [e]
theorem Rw.keep {W W' : World} {n0 g c : Nat} {l : List Int} (h : Rw W n0 g c l) (hg : W'.heap[g]? = W.heap[g]?) : Rw W' n0 g c l := by
  obtain ⟨cur, h1, h2, h3⟩ := h.blk
  exact ⟨⟨cur, hg.trans h1, h2, h3⟩, h.le, h.low⟩
theorem Rw.lt {W : World} {n0 g c : Nat} {l : List Int} (h : Rw W n0 g c l) : g < W.heap.size := by
  obtain ⟨cur, h1, _⟩ := h.blk
  exact (Array.getElem?_eq_some_iff.1 h1).1

set_option maxRecDepth 100000 in
set_option maxHeartbeats 1000000 in
theorem fless_any {n0 g c : Nat} {l : List Int} (W : World) (h : Rw W n0 g c l) (i j : Nat) (hi : i < l.length) (hj : j < l.length) :
    Calls Try.prog 110 #[.slice (some ⟨g, 0, none⟩) l.length c, .int .i64 (i : Nat), .int .i64 (j : Nat)] W fun e W' => e = .returned (.bool (decide (l[i] < l[j]))) ∧ Below W.heap.size W W' := by
  obtain ⟨ci, _⟩ := h.cell hi
  obtain ⟨cj, _⟩ := h.cell hj
  have h1 : (0 : Int) ≤ (i : Int) := by omega
  have h2 : (0 : Int) ≤ (j : Int) := by omega
  have h3 : (i : Int) < (l.length : Int) := by omega
  have h4 : (j : Int) < (l.length : Int) := by omega
  go_enter Try.func110, Try.ntmps110
  go_wp2
  go_quiet (fail)
  go_wp2
  go_ret
  exact ⟨rfl, below_drewN (Below.refl _ _) nq⟩

set_option maxRecDepth 100000 in
set_option maxHeartbeats 1000000 in
theorem fswap_any {n0 g c : Nat} {l : List Int} (W : World) (h : Rw W n0 g c l) (i j : Nat) (hi : i < l.length) (hj : j < l.length) (hne : i ≠ j) :
    Calls Try.prog 111 #[.slice (some ⟨g, 0, none⟩) l.length c, .int .i64 (i : Nat), .int .i64 (j : Nat)] W fun e W' => e = .returned (.tuple #[]) ∧ Rw W' n0 g c ((l.set i l[j]).set j l[i]) ∧ Only [g] W W' := by
  obtain ⟨ci, fi⟩ := h.cell hi
  obtain ⟨cj, fj⟩ := h.cell hj
  have h1 : (0 : Int) ≤ (i : Int) := by omega
  have h2 : (0 : Int) ≤ (j : Int) := by omega
  have h3 : (i : Int) < (l.length : Int) := by omega
  have h4 : (j : Int) < (l.length : Int) := by omega
  obtain ⟨y, hy⟩ : ∃ y, l[i] = y := ⟨_, rfl⟩
  obtain ⟨x, hx⟩ : ∃ x, l[j] = x := ⟨_, rfl⟩
  rw [hy, hx]
  obtain ⟨Wd, hWd⟩ : ∃ X, W.drew = X := ⟨_, rfl⟩
  have hd : Below W.heap.size W Wd := by rw [← hWd]; exact (Below.refl _ W).drew
  have R0 := h.keep (hd.block g h.lt)
  obtain ⟨d1, d2⟩ := R0.cell hi
  obtain ⟨d3, _⟩ := R0.cell hj
  rw [hy] at d1
  rw [hx] at d3
  have R1 := R0.set hi x
  have hj' : j < (l.set i x).length := by simpa using hj
  have R2 := R1.set hj' y
  obtain ⟨c2, f2⟩ := R1.cell hj'
  obtain ⟨W1, hW1⟩ : ∃ X, Wd.setCell ⟨g, i, none⟩ (.int .i64 x) = X := ⟨_, rfl⟩
  obtain ⟨W2, hW2⟩ : ∃ X, W1.setCell ⟨g, j, none⟩ (.int .i64 y) = X := ⟨_, rfl⟩
  rw [hW1] at R1 R2 c2 f2
  rw [hW2] at R2
  have o1 : Only [g] W W1 := by
    rw [← hW1]
    exact (Only.of_below (B := [g]) hd).trans (Only.of_grown (B := [g]) (World.grownBy_setCell_any Wd g i _) (fun r e => by cases e; simp)) (fun r hr => .inl hr)
  have o2 : Only [g] W W2 := by
    rw [← hW2]
    exact o1.trans (Only.of_grown (B := [g]) (World.grownBy_setCell_any W1 g j _) (fun r e => by cases e; simp)) (fun r hr => .inl hr)
  have HF : Hid (Rw W2 n0 g c ((l.set i x).set j y) ∧ Only [g] W W2) := ⟨R2, o2⟩
  clear h hy hx ci cj fi fj R0 R1 R2 o1 o2 hd
  go_enter Try.func111, Try.ntmps111
  go_wp2
  refine wp_region_held_drew (S := fun _ => True) (by kernel_rfl) trivial (fun hHeld => ?_)
  rw [hWd]
  refine take_mk 0 (.slice (some ⟨g, 0, none⟩) l.length c) rfl (by kernel_rfl) (by kernel_rfl) (by kernel_rfl) (fun _ _ _ h => h) (Or.inl ⟨by rfl, fun Z hZ => by go_simp⟩) trivial ?_
  try simp only [Act.put, List.setIfInBounds_toArray, List.set_cons_zero, List.set_cons_succ]
  refine take_mk 1 (.int .i64 (i : Nat)) rfl (by kernel_rfl) (by kernel_rfl) (by kernel_rfl) (fun _ _ _ h => h) (Or.inl ⟨by rfl, fun Z hZ => by go_simp⟩) trivial ?_
  try simp only [Act.put, List.setIfInBounds_toArray, List.set_cons_zero, List.set_cons_succ]
  refine take_mk 2 (.slice (some ⟨g, 0, none⟩) l.length c) rfl (by kernel_rfl) (by kernel_rfl) (by kernel_rfl) (fun _ _ _ h => h) (Or.inl ⟨by rfl, fun Z hZ => by go_simp⟩) trivial ?_
  try simp only [Act.put, List.setIfInBounds_toArray, List.set_cons_zero, List.set_cons_succ]
  refine take_mk 3 (.int .i64 (j : Nat)) rfl (by kernel_rfl) (by kernel_rfl) (by kernel_rfl) (fun _ _ _ h => h) (Or.inl ⟨by rfl, fun Z hZ => by go_simp⟩) trivial ?_
  try simp only [Act.put, List.setIfInBounds_toArray, List.set_cons_zero, List.set_cons_succ]
  refine take_mk 4 (.slice (some ⟨g, 0, none⟩) l.length c) rfl (by kernel_rfl) (by kernel_rfl) (by kernel_rfl) (fun _ _ _ h => h) (Or.inl ⟨by rfl, fun Z hZ => by go_simp⟩) trivial ?_
  try simp only [Act.put, List.setIfInBounds_toArray, List.set_cons_zero, List.set_cons_succ]
  refine take_mk 5 (.int .i64 (j : Nat)) rfl (by kernel_rfl) (by kernel_rfl) (by kernel_rfl) (fun _ _ _ h => h) (Or.inl ⟨by rfl, fun Z hZ => by go_simp⟩) trivial ?_
  try simp only [Act.put, List.setIfInBounds_toArray, List.set_cons_zero, List.set_cons_succ]
  refine take_mk 6 (.pointer (some ⟨g, j, none⟩)) rfl (by kernel_rfl) (by kernel_rfl) (by kernel_rfl) (fun _ _ _ h => h) (Or.inl ⟨by rfl, fun Z hZ => by go_simp⟩) trivial ?_
  try simp only [Act.put, List.setIfInBounds_toArray, List.set_cons_zero, List.set_cons_succ]
  refine take_mk 8 (.slice (some ⟨g, 0, none⟩) l.length c) rfl (by kernel_rfl) (by kernel_rfl) (by kernel_rfl) (fun _ _ _ h => h) (Or.inl ⟨by rfl, fun Z hZ => by go_simp⟩) trivial ?_
  try simp only [Act.put, List.setIfInBounds_toArray, List.set_cons_zero, List.set_cons_succ]
  refine take_mk 9 (.int .i64 (i : Nat)) rfl (by kernel_rfl) (by kernel_rfl) (by kernel_rfl) (fun _ _ _ h => h) (Or.inl ⟨by rfl, fun Z hZ => by go_simp⟩) trivial ?_
  try simp only [Act.put, List.setIfInBounds_toArray, List.set_cons_zero, List.set_cons_succ]
  refine take_mk 10 (.pointer (some ⟨g, i, none⟩)) rfl (by kernel_rfl) (by kernel_rfl) (by kernel_rfl) (fun _ _ _ h => h) (Or.inl ⟨by rfl, fun Z hZ => by go_simp⟩) trivial ?_
  try simp only [Act.put, List.setIfInBounds_toArray, List.set_cons_zero, List.set_cons_succ]
  refine wpAnyH_ready (rs := [7, 11]) (by kernel_rfl) (by simp) (AllReadyH.cons (o := ⟨_, _, _, _, _, _⟩) rfl (fun K hK => ?_) (AllReadyH.cons (o := ⟨_, _, _, _, _, _⟩) rfl (fun K hK => ?_) AllReadyH.nil))
  · rw [if_pos (by rfl)]
    go_simp
    refine hK.out _ _ trivial (fun _ => ?_)
    clear hK K
    try simp only [Act.put, List.setIfInBounds_toArray, List.set_cons_zero, List.set_cons_succ]
    refine wpAnyH_ready (rs := [11]) (by kernel_rfl) (by simp) (AllReadyH.cons (o := ⟨_, _, _, _, _, _⟩) rfl (fun K hK => ?_) AllReadyH.nil)
    rw [if_pos (by rfl)]
    go_simp
    skip
    refine hK.out _ _ trivial (fun _ => ?_)
    clear hK K
    try simp only [Act.put, List.setIfInBounds_toArray, List.set_cons_zero, List.set_cons_succ]
    refine take_mk 12 (.pointer (some ⟨g, i, none⟩)) rfl (by kernel_rfl) (by kernel_rfl) (by kernel_rfl) (fun _ _ _ h => h) (Or.inl ⟨by rfl, fun Z hZ => by go_simp⟩) trivial ?_
    try simp only [Act.put, List.setIfInBounds_toArray, List.set_cons_zero, List.set_cons_succ]
    refine wpAnyH_ready (rs := [13]) (by kernel_rfl) (by simp) (AllReadyH.cons (o := ⟨_, _, _, _, _, _⟩) rfl (fun K hK => ?_) AllReadyH.nil)
    rw [if_pos (by rfl)]
    go_simp
    try rw [hW1]
    refine hK.out _ _ trivial (fun _ => ?_)
    clear hK K
    try simp only [Act.put, List.setIfInBounds_toArray, List.set_cons_zero, List.set_cons_succ]
    refine take_mk 14 (.pointer (some ⟨g, j, none⟩)) rfl (by kernel_rfl) (by kernel_rfl) (by kernel_rfl) (fun _ _ _ h => h) (Or.inl ⟨by rfl, fun Z hZ => by go_simp⟩) trivial ?_
    try simp only [Act.put, List.setIfInBounds_toArray, List.set_cons_zero, List.set_cons_succ]
    refine wpAnyH_ready (rs := [15]) (by kernel_rfl) (by simp) (AllReadyH.cons (o := ⟨_, _, _, _, _, _⟩) rfl (fun K hK => ?_) AllReadyH.nil)
    rw [if_pos (by rfl)]
    go_simp
    try rw [hW2]
    refine hK.out _ _ trivial (fun _ => ?_)
    clear hK K
    try simp only [Act.put, List.setIfInBounds_toArray, List.set_cons_zero, List.set_cons_succ]
    refine wpAnyH_done (by kernel_rfl) ?_ _
    try simp only [Act.put]
    refine bodyPost_end (results_none rfl _ _ _) rfl ?_
    exact ⟨rfl, HF.out⟩
  · rw [if_pos (by rfl)]
    go_simp
    refine hK.out _ _ trivial (fun _ => ?_)
    clear hK K
    try simp only [Act.put, List.setIfInBounds_toArray, List.set_cons_zero, List.set_cons_succ]
    refine wpAnyH_ready (rs := [7]) (by kernel_rfl) (by simp) (AllReadyH.cons (o := ⟨_, _, _, _, _, _⟩) rfl (fun K hK => ?_) AllReadyH.nil)
    rw [if_pos (by rfl)]
    go_simp
    skip
    refine hK.out _ _ trivial (fun _ => ?_)
    clear hK K
    try simp only [Act.put, List.setIfInBounds_toArray, List.set_cons_zero, List.set_cons_succ]
    refine take_mk 12 (.pointer (some ⟨g, i, none⟩)) rfl (by kernel_rfl) (by kernel_rfl) (by kernel_rfl) (fun _ _ _ h => h) (Or.inl ⟨by rfl, fun Z hZ => by go_simp⟩) trivial ?_
    try simp only [Act.put, List.setIfInBounds_toArray, List.set_cons_zero, List.set_cons_succ]
    refine wpAnyH_ready (rs := [13]) (by kernel_rfl) (by simp) (AllReadyH.cons (o := ⟨_, _, _, _, _, _⟩) rfl (fun K hK => ?_) AllReadyH.nil)
    rw [if_pos (by rfl)]
    go_simp
    try rw [hW1]
    refine hK.out _ _ trivial (fun _ => ?_)
    clear hK K
    try simp only [Act.put, List.setIfInBounds_toArray, List.set_cons_zero, List.set_cons_succ]
    refine take_mk 14 (.pointer (some ⟨g, j, none⟩)) rfl (by kernel_rfl) (by kernel_rfl) (by kernel_rfl) (fun _ _ _ h => h) (Or.inl ⟨by rfl, fun Z hZ => by go_simp⟩) trivial ?_
    try simp only [Act.put, List.setIfInBounds_toArray, List.set_cons_zero, List.set_cons_succ]
    refine wpAnyH_ready (rs := [15]) (by kernel_rfl) (by simp) (AllReadyH.cons (o := ⟨_, _, _, _, _, _⟩) rfl (fun K hK => ?_) AllReadyH.nil)
    rw [if_pos (by rfl)]
    go_simp
    try rw [hW2]
    refine hK.out _ _ trivial (fun _ => ?_)
    clear hK K
    try simp only [Act.put, List.setIfInBounds_toArray, List.set_cons_zero, List.set_cons_succ]
    refine wpAnyH_done (by kernel_rfl) ?_ _
    try simp only [Act.put]
    refine bodyPost_end (results_none rfl _ _ _) rfl ?_
    exact ⟨rfl, HF.out⟩

end Go.Proofs.Ytbbfpllffcfmhaa
