/-
  subst.numbers, whole, at one term of the right shape.
-/
import Derived.Test.YtgnjgpplelakkaaUE
import Derived.Test.YtgnjgpplelakkaaSF
namespace Go.Proofs.Ytgnjgpplelakkaa
open Go.RowKit Go.Shelf

attribute [local go_sem] Oper.semAt_some

set_option maxRecDepth 100000 in
set_option maxHeartbeats 2000000 in
theorem walkn_var (w0 : World) (l Y Wb : Nat) (all : List Int) (J Jx : List Nat → List Int → World → Prop) (hJ : Abide J) (hY : YieldsN l w0 all J Jx) (p : T) (h0 : p.fn.size = 0) (ha0 : p.args = []) : WalkN w0 l Y Wb all J Jx p := by
  intro m sl W E pre hS hj ha hrest
  have hvs : p.vs = [p.v] := by rw [p.vs_eq, if_pos h0, ha0]; rfl
  rw [hvs] at hrest ⊢
  have hal : p.args.length = 0 := by rw [ha0]; rfl
  obtain ⟨a, c, rfl, hc, hm⟩ := ha.slice
  rw [hal]
  obtain ⟨rest, hrest⟩ := hrest
  have hS1 := (hS.alloc (tbox p (.slice a 0 c))).more (E' := W.heap.size :: E) (fun r hr => by simp [hr])
  have hj1 := own_new hJ hj (tbox p (.slice a 0 c))
  have hy := hY _ pre p.v _ hj1 hS1.bel ⟨rest, by rw [← hrest]; simp⟩ (m - 1)
  have hdd : p.fn.toList.isEmpty = true := by rw [ba_isEmpty]; exact decide_eq_true h0
  obtain ⟨t0, t1, t2⟩ := tbox_cells W p (.slice a 0 c)
  have cy := hS1.y.cell
  obtain ⟨fn, tmps, assign, body, hyr, hR⟩ := hy
  have HS1 : Hid (ItN w0 l Y Wb (W.heap.size :: E) (W.alloc (tbox p (.slice a 0 c)))) := hS1
  clear h0 hS hj hvs ha hS1 hj1 hal ha0 hc
  refine callsIn_of_wp Try.func115 rfl trivial ?_ rfl
  simp only [Try.ntmps115, List.size_toArray, List.length_cons, List.length_nil, Nat.reduceAdd, Nat.reduceSub, Array.replicate_succ, Array.replicate_zero, List.push_toArray, List.append_toArray, List.nil_append, List.cons_append]
  gi_wp2_with fail
  refine ⟨fun h => (by cases h), ?_⟩
  refine hR.mono ?_
  clear hR
  rintro e W2 (⟨rfl, hj2, hk2⟩ | ⟨rfl, hx⟩)
  · have hbox : W2.heap[W.heap.size]? = some (.cells [Value.int .i64 p.v, .string p.fn, .slice a 0 c].toArray 26 (0, 0)) := (hk2.mine _ (by simp)).trans (MapKept.heap_alloc W _).1
    have b2 : W2.cell? ⟨W.heap.size, 2, none⟩ = some (.slice a 0 c) := by rw [cell_of_row _ _ _ _ 26 (0, 0) hbox]; rfl
    have HF : Hid (ItN w0 l Y Wb (W.heap.size :: E) W2 ∧ J (W.heap.size :: E) (pre ++ [p.v]) W2 ∧ (∀ r ∈ E, r ∈ W.heap.size :: E)) := ⟨HS1.out.kept hk2, hj2, fun r hr => by simp [hr]⟩
    clear hyr cy t0 t1 t2 hk2 hbox hj2
    gi_wp2
    gi_loopw [20] (fun i wr => i = .int .i64 0 ∧ wr = W2) (fun i _ => 0)
    case atStart => exact ⟨rfl, rfl⟩
    case round =>
      obtain ⟨rfl, rfl⟩ := hrel
      gi_wp2
      go_ret
      exact .inl ⟨rfl, _, HF.out⟩
  · gi_wp2
    go_ret
    exact .inr ⟨rfl, _, _, hx⟩

theorem walkn_any (w0 : World) (l Y Wb : Nat) (all : List Int) (J Jx : List Nat → List Int → World → Prop) (hJ : Abide J) (hY : YieldsN l w0 all J Jx) (p : T) : p.shape = true → WalkN w0 l Y Wb all J Jx p := by
  induction p using T.ind with
  | _ p ih =>
    intro hs
    rw [T.shape_eq] at hs
    by_cases h0 : p.fn.size = 0
    · rw [if_pos h0] at hs
      simp only [Bool.and_eq_true, decide_eq_true_eq] at hs
      exact walkn_var w0 l Y Wb all J Jx hJ hY p h0 (List.eq_nil_of_length_eq_zero hs.2)
    · rw [if_neg h0] at hs
      simp only [Bool.and_eq_true, decide_eq_true_eq, List.all_eq_true] at hs
      exact walkn_fn w0 l Y Wb all J Jx hJ p (fun a ha => ih a ha (hs.2 a ha)) h0

end Go.Proofs.Ytgnjgpplelakkaa
