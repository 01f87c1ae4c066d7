/-
  reach: the child of a symbol, which may have to be made.
-/
import Derived.Test.YtijihmncbaoklaaGreatUB
import Derived.Test.YtijihmncbaoklaaGreatQF
import Derived.Deep.RegionHeld3
import Derived.BigQuiet
namespace Go.Proofs.YtijihmncbaoklaaGreat
open Go.RowKit Go.Maps

theorem take_mk {P : Program} {md : Region.Mode} {ops : Array Oper} {Q : Exit → Act → World → Prop} {S : World → Prop} (i : Nat) (v : Value) {d : Option Tmp} {op : Op} {ty : TypeId} {pos : String} {aft} {gd} {fuel : Nat} {listed : Array Bool} {a : Act} {w : World} (hi : ops[i]? = some ⟨d, op, ty, pos, aft, gd⟩)
    (hs : Region.noSelect ops = true) (hf : Region.free md ops listed i = true) (hr : (Region.ready md ops listed).contains i = true)
    (hQ : ∀ c a w, Q (.panic c) (a.put d v) w → Q (.panic c) a w) (hy : YieldsIf P ops S ⟨d, op, ty, pos, aft, gd⟩ v a) (hS : S w)
    (h : wpAnyH P md ops Q S fuel (listed.setIfInBounds i true) (a.put d v) w) : wpAnyH P md ops Q S (fuel + 1) listed a w :=
  wpAnyH_take hi hs hf hr hQ hy hS h
theorem wp_mapUpdate_run {op : Oper} {a : Act} {w w' : World} {K : Act → World → Prop} {Q : Exit → Act → World → Prop} (t : TypeId) (m x v : Operand) (ho : op.op = .mapUpdate t m x v) (mv kv vv : Value) (hm : a.eval m = mv) (hx : a.eval x = kv) (hv : a.eval v = vv)
    (hrun : (Instr.mapUpdate t mv kv vv).run Tryz.prog w = .ok () w') (h : K (a.put op.dst undef) w') : Oper.wp Tryz.prog op a w K Q := by
  unfold Oper.wp execOp
  simp only [ho, hm, hx, hv, Sem.run_bind, hrun, Result.andThen_ok, Sem.run_pure]
  exact h
theorem run_makeMap0 (t : TypeId) (w : World) : (Instr.makeMap t none).run Tryz.prog w = .ok (.map (some w.heap.size)) (w.alloc (.map #[] 0)) := by
  simp [Instr.makeMap, Result.andThen]
theorem cell_store {W : World} {b : Nat} {vs : List Value} {ty : TypeId} (h : W.heap[b]? = some (.cells vs.toArray ty (0, 0))) {i : Nat} {v : Value} (hv : vs[i]? = some v) : W.cell? ⟨b, i, none⟩ = some v := by
  simp [World.cell?, h, hv]
theorem set_any {W : World} {g i : Nat} {cs : List Value} {v : Value} {ty : TypeId} (h : W.heap[g]? = some (.cells cs.toArray ty (0, 0))) : (W.setCell ⟨g, i, none⟩ v).heap[g]? = some (.cells (cs.set i v).toArray ty (0, 0)) := by
  rw [heap_setCell_same W g i _ ty v h]
  simp

theorem zero42 (w : World) : (zeroValue 60).run Tryz.prog w = .ok (.pointer none) w := Tryz.zeroValue60 w
theorem nil_look (key : Value) (kl : Lit) (hk : keyOf Tryz.prog 75 key = some kl) (w : World) : (Instr.lookup 76 (.map none) key false).run Tryz.prog w = .ok (.pointer none) w := by
  exact Maps.look_nil false keyed55 Tryz.underlying76 (zero42 w) hk

section
variable {W : World} {P : List Path} {num : Path → List Int} {y : Lay} {B : List Nat}

theorem kidM_empty {P : List Path} {na : Path → Nat} {p : Path} (h : kidN P p = 0) : kidM P na p = fun _ => none := by
  funext v
  by_cases hv : ∃ s, v = symv s
  · obtain ⟨s, rfl⟩ := hv
    exact kidM_none (kidN_zero.1 h s)
  · exact kidM_other (fun s e => hv ⟨s, e⟩)
theorem kidN_le (P : List Path) (p : Path) : kidN P p ≤ P.length := List.length_filter_le _ _

/-- Behind all that reach stores. -/
theorem reach_fin (h : Trie W P num y B) (hB : ∀ r ∈ B, r < W.heap.size) {p : Path} (hp : p ∈ P) {s : Sym} (hs : p ++ [s] ∉ P) (hnum : num (p ++ [s]) = []) (hok : Sym.ok s) (hl : P.length ≤ 1000000) {b N : Nat} {Wd : World} (hO : Only [y.na p] W Wd)
    (hn : Wd.heap[y.na p]? = some (.cells #[.string (lastS p).1, .int .i64 ((lastS p).2 : Nat), parV y.na p, .map (some b), .map (y.ua p)] 79 (0, 0)))
    (hm : MapIs Wd 75 b (kidM P y.na p) (kidN P p))
    (hN : Wd.heap[N]? = some (.cells #[.string s.1, .int .i64 (s.2 : Nat), .pointer (some ⟨y.na p, 0, none⟩), .map none, .map none] 79 (0, 0)))
    (hNl : W.heap.size ≤ N) (hb : y.ca p = some b ∨ W.heap.size ≤ b) :
    ∃ W6, (Instr.mapUpdate 76 (.map (some b)) (symv s) (.pointer (some ⟨N, 0, none⟩))).run Tryz.prog Wd = .ok () W6 ∧ Only [b] Wd W6 ∧
      (Trie W6 (P ++ [p ++ [s]]) num (y.grow p s b N) (N :: b :: B) ∧ Only B W W6 ∧ W.heap.size ≤ N ∧ (b ∈ B ∨ W.heap.size ≤ b) ∧ N < W6.heap.size ∧ b < W6.heap.size) := by
  obtain ⟨kl, hkl⟩ := sym_key hok
  obtain ⟨W6, hrun, hM6, hg⟩ := hm.put keyed55 Tryz.underlying76 (by have := kidN_le P p; unfold maxLen; omega) hkl (.pointer (some ⟨N, 0, none⟩))
  rw [kidM_none hs] at hM6
  have on6 : Only [b] Wd W6 := Only.of_grown hg (fun r e => by cases e; simp)
  have hbN : b ≠ N := (cells_ne_map hN hm).symm
  have hbn : b ≠ y.na p := (cells_ne_map hn hm).symm
  have hNd : N < Wd.heap.size := (Array.getElem?_eq_some_iff.1 hN).1
  have hbd : b < Wd.heap.size := hm.lt
  have hnd : y.na p < Wd.heap.size := (Array.getElem?_eq_some_iff.1 hn).1
  have hbB : b ∈ B ∨ W.heap.size ≤ b := hb.imp (fun e => (h.own p hp).2.1 b e) id
  refine ⟨W6, hrun, on6, h.snoc hp hs hnum (fun r hr h1 h2 => ?_) ?_ hM6 ?_ (fun hm' => by have := hB N hm'; omega) (hb.imp id (fun e hm' => by have := hB b hm'; omega)) hbN, ?_, hNl, hbB, Nat.lt_of_lt_of_le hNd on6.size, Nat.lt_of_lt_of_le hbd on6.size⟩
  · have hrl := hB r hr
    rw [on6.block r (Nat.lt_of_lt_of_le hrl hO.size) (fun hm' => ?_), hO.block r hrl (by simpa using h1)]
    obtain rfl := List.mem_singleton.1 hm'
    rcases hb with e | e
    · exact h2 e
    · omega
  · rw [on6.block _ hnd (by simpa using fun e => hbn e.symm)]; exact hn
  · rw [on6.block _ hNd (by simpa using fun e => hbN e.symm)]; exact hN
  · have hO' : Only B W Wd := ⟨hO.os, hO.tape, hO.output, hO.size, fun k hk hn' => hO.block k hk (fun hm' => hn' (by rw [List.mem_singleton.1 hm']; exact (h.own p hp).1))⟩
    exact hO'.trans on6 (fun r hr => by obtain rfl := List.mem_singleton.1 hr; exact hbB)


set_option maxRecDepth 100000 in
set_option maxHeartbeats 4000000 in
theorem reach_old (h : Trie W P num y B) {p : Path} (hp : p ∈ P) {s : Sym} (hs : p ++ [s] ∈ P) (hok : Sym.ok s) :
    Calls Tryz.prog 54 #[.pointer (some ⟨y.na p, 0, none⟩), symv s] W fun e W' => e = .returned (.tuple #[.pointer (some ⟨y.na (p ++ [s]), 0, none⟩), .bool false]) ∧ Below W.heap.size W W' := by
  obtain ⟨kl, hkl⟩ := sym_key hok
  obtain ⟨b, hb⟩ : ∃ b, y.ca p = some b := by
    cases hc : y.ca p with
    | none =>
      have := h.kid p hp
      rw [hc] at this
      exact absurd hs (kidN_zero.1 this s)
    | some b => exact ⟨b, rfl⟩
  have hM := h.kid p hp
  rw [hb] at hM
  have hM : MapIs W 75 b (kidM P y.na p) (kidN P p) := hM
  have hcl := h.cells p hp
  rw [hb] at hcl
  obtain ⟨W1, h1⟩ : ∃ X, W.alloc (.cells #[.string s.1, .int .i64 (s.2 : Nat)] 75) = X := ⟨_, rfl⟩
  have b1 : Below W.heap.size W W1 := by rw [← h1]; exact below_box _ _
  have s1 : W1.heap.size = W.heap.size + 1 := by rw [← h1]; simp
  have z1 : W1.heap[W.heap.size]? = some (.cells [Value.string s.1, .int .i64 (s.2 : Nat)].toArray 75 (0, 0)) := by rw [← h1]; exact (MapKept.heap_alloc _ _).1
  have hlt : y.na p < W.heap.size := (h.lt hp).1
  have hlk : ∀ pf, (Instr.lookup 76 (.map (some b)) (symv s) false).run Tryz.prog (far W1 pf) = .ok (.pointer (some ⟨y.na (p ++ [s]), 0, none⟩)) (far W1 pf) := fun pf => ((((hM.same (b1.block b hM.lt)).same ((below_far W1 pf).block b (by have := hM.lt; omega))).look keyed55 Tryz.underlying76 (zero42 _) hkl).1 _ (kidM_some hs)).2
  have c3 : W1.cell? ⟨y.na p, 3, none⟩ = some (.map (some b)) := kc b1 hlt (cell_store (vs := [_, _, _, _, _]) hcl rfl)
  have F0 := cell_far (by omega) c3
  have F1 := cell_far (w := W1) (b := W.heap.size) (by omega) (cell_store z1 (i := 0) rfl)
  have F2 := cell_far (w := W1) (b := W.heap.size) (by omega) (cell_store z1 (i := 1) rfl)
  have HB : Hid (Below W.heap.size W W1) := b1
  clear hM hcl z1 b1 c3 hlt h
  go_enter Tryz.func54, Tryz.ntmps54
  try rw [h1]
  go_wp2
  try rw [h1]
  refine wp_region_far (by kernel_rfl) ?_
  repeat (first | go_big_quiet_step (fail) | quiet_step (fail))
  refine wpQuiet_nil ?_
  intro _ hw'
  obtain ⟨pf, rfl⟩ := hw'
  obtain ⟨W2, hW2⟩ : ∃ X, far W1 pf = X := ⟨_, rfl⟩
  have b12 : Below W1.heap.size W1 W2 := by rw [← hW2]; exact below_far W1 pf
  rw [hW2]
  clear hlk F0 F1 F2
  go_wp2
  go_ret2
  exact ⟨rfl, HB.out.trans (b12.mono HB.out.size)⟩

end

end Go.Proofs.YtijihmncbaoklaaGreat
