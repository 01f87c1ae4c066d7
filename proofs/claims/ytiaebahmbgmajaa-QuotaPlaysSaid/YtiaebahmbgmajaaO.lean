/-
  The walk of the document's New.
-/
import Derived.Test.YtiaebahmbgmajaaN
import Derived.Deep.RegionLawGrows
namespace Go.Proofs.Ytiaebahmbgmajaa
open Go.RowKit

set_option maxHeartbeats 400000 in
theorem rnew_len (v : Value) (xs : List Int) (w : World) (hv : Ints w v xs) (h : xs.length = 0 ∨ 16 < xs.length) :
    Calls Try.prog 16 #[v] w fun e w' => e = .returned (.pointer none) ∧ w' = w := by
  obtain ⟨p, c, rfl, hpc, hcm, _⟩ := hv
  by_cases h0 : xs.length = 0
  · rw [h0]
    go_enter Try.func16, Try.ntmps16
    go_wp2
    go_ret
    exact ⟨rfl, rfl⟩
  · have h1 : ¬ ((xs.length : Int) < 1) := by omega
    have h2 : 16 < xs.length := by omega
    go_enter Try.func16, Try.ntmps16
    go_wp2
    go_ret
    exact ⟨rfl, rfl⟩

theorem past1 (w : World) (o1 : Obj) (b : Nat) (h : b < w.heap.size) : (w.alloc o1).drew.heap[b]? = w.heap[b]? := Below.heap_alloc w o1 b h
theorem past2 (w : World) (o1 o2 : Obj) (b : Nat) (h : b < w.heap.size) : ((w.alloc o1).alloc o2).drew.heap[b]? = w.heap[b]? := (Below.heap_alloc (w.alloc o1) o2 b (by simp; omega)).trans (Below.heap_alloc w o1 b h)
theorem past3 (w : World) (o1 o2 o3 : Obj) (b : Nat) (h : b < w.heap.size) : (((w.alloc o1).alloc o2).alloc o3).drew.heap[b]? = w.heap[b]? := (Below.heap_alloc ((w.alloc o1).alloc o2) o3 b (by simp; omega)).trans ((Below.heap_alloc (w.alloc o1) o2 b (by simp; omega)).trans (Below.heap_alloc w o1 b h))

theorem cells_past {w W : World} {b o : Nat} {ms : List Int} (h : ∀ i, i < ms.length → w.cell? ⟨b, o + i, none⟩ = some (.int .i64 (ms.getD i 0))) (hb : W.heap[b]? = w.heap[b]?) :
    ∀ j u, (ms.map (Value.int .i64))[j]? = some u → W.cell? ((⟨b, o, none⟩ : Addr).add j) = some u := by
  intro j u hj
  rw [List.getElem?_map] at hj
  cases hq : ms[j]? with
  | none => rw [hq] at hj; cases hj
  | some x =>
    have hlt : j < ms.length := (List.getElem?_eq_some_iff.1 hq).1
    have hc := h j hlt
    rw [addr_add, World.cell?_of_block (w := w) (a := ⟨b, o + j, none⟩) hb]
    rw [hq] at hj
    rw [List.getD_eq_getElem?_getD, hq] at hc
    exact hc.trans (by simpa using hj)

theorem heap_new' (W : World) (o : Obj) (k : Nat) (h : k = W.heap.size) : (W.alloc o).heap[k]? = some o := by rw [h]; exact heap_alloc_new W o
theorem drew_heap (w : World) : w.drew.heap = w.heap := rfl
theorem all_nn {xs : List Int} {i : Nat} (h : ∀ j, j < i → 0 ≤ xs.getD j 0) (hi : xs.length ≤ i) : ∀ x ∈ xs, 0 ≤ x := fun x hx => by
  obtain ⟨j, hj, rfl⟩ := List.getElem_of_mem hx
  have := h j (by omega)
  rw [List.getD_eq_getElem?_getD, List.getElem?_eq_getElem hj] at this
  exact this

theorem mkNew {w W : World} {xs : List Int} {Br gl gu gp cl : Nat} {e : Ending} (he : e = .returned (.pointer (some ⟨Br, 0, none⟩)))
    (hA : W.heap[Br]? = some (.cells #[.slice (some ⟨gl, 0, none⟩) xs.length cl, .slice (some ⟨gu, 0, none⟩) xs.length xs.length, .slice (some ⟨gp, 0, none⟩) xs.length xs.length] 40 (0, 0))) (hI : IntRow W gl cl xs)
    (hU : W.heap[gu]? = some (.cells (Array.replicate xs.length (Value.int .i64 0)) 3 (0, 0))) (hP : W.heap[gp]? = some (.cells (Array.replicate xs.length (Value.int .i64 0)) 3 (0, 0))) (d1 : gl ≠ gu) (d2 : gl ≠ gp) (d3 : gu ≠ gp)
    (hall : ∀ x ∈ xs, 0 ≤ x) (hfit : ∀ x ∈ xs, x ≤ 9223372036854775807) (h0 : 0 < xs.length) (h16 : xs.length ≤ 16) (hB : Below w.heap.size w W) (b1 : w.heap.size ≤ Br) (b2 : w.heap.size ≤ gl) (b3 : w.heap.size ≤ gu) (b4 : w.heap.size ≤ gp) :
    ∃ r : RL, e = .returned (.pointer (some ⟨r.Br, 0, none⟩)) ∧ (∀ x ∈ xs, 0 ≤ x) ∧ Ref W r (xs.map fun l => (l, 0, 0)) ∧ Below w.heap.size w W ∧ w.heap.size ≤ r.Br ∧ w.heap.size ≤ r.gl ∧ w.heap.size ≤ r.gu ∧ w.heap.size ≤ r.gp := by
  have hz : ∀ g, W.heap[g]? = some (.cells (Array.replicate xs.length (Value.int .i64 0)) 3 (0, 0)) → IntRow W g xs.length (List.replicate xs.length 0) := fun g hg => ⟨_, hg, by simp, by omega, by simp, by simp⟩
  refine ⟨⟨Br, gl, gu, gp, cl, xs.length, xs.length⟩, he, hall, ⟨?_, ?_, ?_, ?_, d1, d2, d3, ⟨by simpa using h0, by simpa using h16, fun x hx => ?_⟩⟩, hB, b1, b2, b3, b4⟩
  · rw [List.length_map]; exact hA
  · rw [List.map_map]
    have : xs.map ((fun x : Cnt => x.1) ∘ fun l => (l, 0, 0)) = xs := by simp [Function.comp_def]
    rw [this]; exact hI
  · rw [List.map_map]
    have : xs.map ((fun x : Cnt => x.2.1) ∘ fun l => (l, 0, 0)) = List.replicate xs.length 0 := by apply List.ext_getElem <;> simp
    rw [this]; exact hz gu hU
  · rw [List.map_map]
    have : xs.map ((fun x : Cnt => x.2.2) ∘ fun l => (l, 0, 0)) = List.replicate xs.length 0 := by apply List.ext_getElem <;> simp
    rw [this]; exact hz gp hP
  · obtain ⟨l, hl, rfl⟩ := List.mem_map.1 hx
    have := hall l hl
    have := hfit l hl
    simp; omega

set_option maxHeartbeats 1000000 in
theorem rnew_walk (v : Value) (xs : List Int) (w : World) (hv : Ints w v xs) (h0 : 0 < xs.length) (h16 : xs.length ≤ 16) (hfit : ∀ x ∈ xs, x ≤ 9223372036854775807) :
    Calls Try.prog 16 #[v] w fun e w' => (e = .returned (.pointer none) ∧ (∃ x ∈ xs, x < 0) ∧ w' = w) ∨
      ∃ r : RL, e = .returned (.pointer (some ⟨r.Br, 0, none⟩)) ∧ (∀ x ∈ xs, 0 ≤ x) ∧ Ref w' r (xs.map fun l => (l, 0, 0)) ∧ Below w.heap.size w w' ∧ w.heap.size ≤ r.Br ∧ w.heap.size ≤ r.gl ∧ w.heap.size ≤ r.gu ∧ w.heap.size ≤ r.gp := by
  obtain ⟨p, c, rfl, hpc, hcm, hx⟩ := hv
  obtain ⟨b, o, rfl, hcell⟩ := hx h0
  have hbl : b < w.heap.size := World.block_lt_of_cell? w _ (hcell 0 h0)
  have h1 : ¬ ((xs.length : Int) < 1) := by omega
  have HC : Hid (∀ i, i < xs.length → w.cell? ⟨b, o + i, none⟩ = some (.int .i64 (xs.getD i 0))) := hcell
  have HF : Hid (∀ x ∈ xs, x ≤ 9223372036854775807) := hfit
  clear hcell hx hfit
  have hmk := make_ints xs.length h16
  obtain ⟨i0, hi, hz0, hz1, hz2⟩ := info_parts Try.info3
  go_enter Try.func16, Try.ntmps16
  go_wp2
  go_loopw [3] (fun ii wr => ∃ i : Nat, ii = .int .i64 i ∧ i ≤ xs.length ∧ (∀ j, j < i → 0 ≤ xs.getD j 0) ∧ wr = w) (fun ii _ => xs.length - (intOf ii).toNat)
  case atStart => exact ⟨0, rfl, Nat.zero_le _, fun j h => by omega, rfl⟩
  case round =>
    obtain ⟨i, rfl, hi', hok, hwr⟩ := hrel
    subst hwr
    by_cases hlt : i < xs.length
    · have hci := HC.out i hlt
      obtain ⟨x, hm⟩ : ∃ x, xs.getD i 0 = x := ⟨_, rfl⟩
      rw [hm] at hci
      have H : Hid (xs.getD i 0 = x ∧ (∀ j, j < i → 0 ≤ xs.getD j 0)) := ⟨hm, hok⟩
      clear hm hok
      by_cases hA : x < 0
      · go_wp2
        go_ret
        obtain ⟨hm, hok⟩ := H.out
        refine .inl ⟨rfl, ⟨x, ?_, hA⟩, rfl⟩
        rw [← hm, List.getD_eq_getElem?_getD, List.getElem?_eq_getElem hlt]
        exact List.getElem_mem hlt
      · go_wp2
        go_roundw
        case rel =>
          obtain ⟨hm, hok⟩ := H.out
          refine ⟨i + 1, by go_num, by omega, fun j hj => ?_, by trivial⟩
          by_cases e : j = i
          · subst e; omega
          · exact hok j (by omega)
        case measure => simp [intOf]; omega
    · have H : Hid (∀ j, j < i → 0 ≤ xs.getD j 0) := hok
      clear hok
      go_wp2
      go_region_law (refine step_append_grows rfl (.tmp 23) (.tmp 24) 25 rfl 3 i0 (.int .i64 0) 1 8 Try.underlying25 hi hz0 hz1 hz2 rfl (by decide) _ 0 0 [] rfl (by intro h; cases h) rfl (by intro b _ j u hj; cases hj) ⟨b, o, none⟩ xs.length c (xs.map (Value.int .i64)) rfl (by simp) (cells_past HC.out (by first | exact past1 _ _ _ hbl | exact past2 _ _ _ _ hbl | exact past3 _ _ _ _ _ hbl)) (ints_one xs) (by omega) (by unfold maxLen; omega) (by omega) ?_; intro v' w1 h2 h3; obtain ⟨g1, c1, hv', hg1, _, hI1⟩ := IntRow.of_owns (xs := xs) (by simpa using h2) h0; subst hv'; have hs1 := h3.size; simp only [World.size_alloc, World.size_drew] at hs1 hg1; have hl1 := hI1.lt; clear h2)
      all_goals go_wp2
      all_goals go_ret
      all_goals refine .inr (mkNew rfl (heap_new' _ _ _ (by simp)) (hI1.same (by (repeat (first | rw [Below.heap_alloc _ _ _ (by first | omega | (simp; done) | (simp; omega))] | rfl)))) ?_ ?_ (by omega) (by omega) (by omega) (all_nn H.out (by omega)) HF.out h0 h16 ⟨h3.os, h3.tape, h3.output, by simp; omega, fun k hk => ?_⟩ (by omega) (by omega) (by omega) (by omega))
      all_goals (repeat (first | rw [Below.heap_alloc _ _ _ (by first | omega | (simp; done) | (simp; omega))] | rw [h3.block _ (by first | omega | (simp; done) | (simp; omega)) (by simp)] | rw [drew_heap] | rfl))
      all_goals exact heap_new' _ _ _ (by first | rfl | simp)

end Go.Proofs.Ytiaebahmbgmajaa
