/-
  A script that came in.
-/
import Derived.Test.YtbbfpllffcfmhaaQW
import Derived.Test.YtbbfpllffcfmhaaRB
namespace Go.Proofs.Ytbbfpllffcfmhaa
open Go.ChangeShapes Go.WideShapes Go.ChangeAt Go.RowKit Go.Maps

theorem Try.cells43 : Try.prog.cellsOf 43 = 5 := by kernel_rfl
theorem fit_of_wf {a : Int} (h : (Lit.int .i64 a).wf = true) : Fit64 a := by
  have h1 : IntKind.i64.min = -9223372036854775808 := rfl
  have h2 : IntKind.i64.max = 9223372036854775807 := rfl
  simp only [Lit.wf, h1, h2, Bool.and_eq_true, decide_eq_true_eq] at h
  exact h
theorem bulk_at {H : Type} : ∀ (es : List (DataW H)) (i : Nat) (h : i < es.length), Rows.uptoBulk es[i] ≤ Rows.uptoBulkAll es
  | d :: r, 0, _ => by simp only [Rows.uptoBulkAll, List.getElem_cons_zero]; omega
  | d :: r, i + 1, h => by
    have := bulk_at r i (by simpa using h)
    simp only [Rows.uptoBulkAll, List.getElem_cons_succ]
    omega
set_option maxRecDepth 100000 in
theorem struct43 {H : Type} {enc : TypeId × Value → H} {W : World} {fuel : Nat} {cs : List Value} {x : DataW H × List MemPlace}
    (h : DataW.trod enc Try.prog W 0 (fun _ => true) true fuel 43 cs = some x) : ∃ q : Sc, cs = [.int .i64 q.1, .int .i64 q.2.1, .int .i64 q.2.2.1.v, .string q.2.2.1.fn, q.2.2.2] ∧ ArgsAt W q.2.2.2 q.2.2.1.args ∧ Fit64 q.2.1 ∧ q.2.2.1.size ≤ (Rows.uptoBulk x.1 : Int) := by
  obtain ⟨xs, n, rfl, hx, hlen, hxs, hf⟩ := DataW.trod_struct Try.underlying43 h
  rw [Try.cells43] at hlen
  obtain ⟨c0, c1, c2, c3, c4, rfl⟩ : ∃ c0 c1 c2 c3 c4, cs = [c0, c1, c2, c3, c4] := by
    match cs, hlen with
    | [c0, c1, c2, c3, c4], _ => exact ⟨c0, c1, c2, c3, c4, rfl⟩
  match xs, hxs, hx, hf with
  | [y0, y1, y2], _, hx, hf =>
    have t0 : DataW.trod enc Try.prog W 0 (fun _ => true) true n 3 (List.take (Try.prog.cellsOf 3) (List.drop 0 [c0, c1, c2, c3, c4])) = some y0 := hf 0 _ rfl
    have t1 : DataW.trod enc Try.prog W 0 (fun _ => true) true n 3 (List.take (Try.prog.cellsOf 3) (List.drop 1 [c0, c1, c2, c3, c4])) = some y1 := hf 1 _ rfl
    have t2 : DataW.trod enc Try.prog W 0 (fun _ => true) true n 24 (List.take (Try.prog.cellsOf 24) (List.drop 2 [c0, c1, c2, c3, c4])) = some y2 := hf 2 _ rfl
    rw [Try.cells3] at t0 t1
    rw [Try.cells24] at t2
    have t0' : DataW.trod enc Try.prog W 0 (fun _ => true) true n 3 [c0] = some y0 := t0
    have t1' : DataW.trod enc Try.prog W 0 (fun _ => true) true n 3 [c1] = some y1 := t1
    have t2' : DataW.trod enc Try.prog W 0 (fun _ => true) true n 24 [c2, c3, c4] = some y2 := t2
    obtain ⟨k, e0, _, _⟩ := DataW.trod_int Try.underlying3 t0'
    obtain ⟨r, e1, _, w1⟩ := DataW.trod_int Try.underlying3 t1'
    obtain ⟨v, fn, sl, m, q0, q1, q2, hm, e2, _, _, s2, ex, _⟩ := struct24 t2'
    obtain ⟨l, hA, hS⟩ := args_trodB m sl _ s2
    simp only [List.cons.injEq, and_true] at e0 e1 e2
    obtain ⟨rfl, rfl, rfl⟩ := e2
    subst e0 e1
    refine ⟨(k, r, .mk v fn l, c4), rfl, hA, fit_of_wf w1, ?_⟩
    rw [hx]
    simp only [List.map_cons, List.map_nil, Rows.uptoBulk, Rows.uptoBulkAll]
    rw [ex, T.size_eq]
    simp only [Rows.uptoBulk, Rows.uptoBulkAll]
    have h1 : ((T.mk v fn l).args.map T.size).sum ≤ (Rows.uptoBulk q2.1 : Int) := hS
    omega
/-- What is read of a script that came in. -/
theorem script_in {H : Type} {enc : TypeId × Value → H} {W : World} {a : Option Addr} {n c : Nat} {d : DataW H} {p : List MemPlace}
    (h : DataW.Trod enc Try.prog W 0 (fun _ => true) true 36 (.slice a n c) d p) : ∃ l, ScAt W (.slice a n c) l ∧ ∀ x ∈ l, ArgsAt W x.2.2.2 x.2.2.1.args ∧ x.2.2.1.size ≤ (Rows.uptoBulk d : Int) ∧ Fit64 x.2.1 := by
  obtain ⟨fuel, hf⟩ := h
  rcases DataW.trod_slice Try.underlying36 hf with ⟨hcs, hx⟩ | ⟨ad, len, cap, elems, rest, m, _, hcs, hx, _, hl, hm, hel, hat, _⟩
  · simp [Value.cells] at hcs
    obtain ⟨rfl, rfl, rfl⟩ := hcs
    exact ⟨[], ⟨none, 0, rfl, Nat.le_refl _, by decide, fun h => absurd h (by simp)⟩, by simp⟩
  · simp [Value.cells] at hcs
    obtain ⟨rfl, rfl, rfl⟩ := hcs
    rw [Try.cells43] at hat
    have hbulk : Rows.uptoBulkAll (elems.map (fun x => x.1)) ≤ Rows.uptoBulk d := by
      have e : d = .slice (elems.map fun x => x.1) (rest.map fun x => x.1) := congrArg Prod.fst hx
      rw [e]
      simp only [Rows.uptoBulk]
      omega
    have each : ∀ i, i < n → ∃ q : Sc, (W.cell? ((ad.add (i * 5)).add 0) = some (.int .i64 q.1) ∧ W.cell? ((ad.add (i * 5)).add 1) = some (.int .i64 q.2.1) ∧ W.cell? ((ad.add (i * 5)).add 2) = some (.int .i64 q.2.2.1.v) ∧ W.cell? ((ad.add (i * 5)).add 3) = some (.string q.2.2.1.fn) ∧ W.cell? ((ad.add (i * 5)).add 4) = some q.2.2.2) ∧ ArgsAt W q.2.2.2 q.2.2.1.args ∧ q.2.2.1.size ≤ (Rows.uptoBulk d : Int) ∧ Fit64 q.2.1 := by
      intro i hi
      have hi' := hat i hi
      have hie : i < elems.length := by omega
      rw [List.getElem?_eq_getElem hie] at hi'
      obtain ⟨cs, hc, ht⟩ := Option.bind_eq_some_iff.1 hi'
      obtain ⟨_, hlen, hcell⟩ := World.cells?_some hc
      obtain ⟨q, rfl, hA, hfit, hS⟩ := struct43 ht
      refine ⟨q, ⟨by simpa using hcell 0 (by simp), by simpa using hcell 1 (by simp), by simpa using hcell 2 (by simp), by simpa using hcell 3 (by simp), by simpa using hcell 4 (by simp)⟩, hA, ?_, hfit⟩
      have := bulk_at (elems.map fun x => x.1) i (by simpa using hie)
      rw [List.getElem_map] at this
      omega
    by_cases h0 : n = 0
    · subst h0
      exact ⟨[], ⟨some ad, c, rfl, Nat.zero_le _, by unfold maxLen at hm; omega, fun h => absurd h (by simp)⟩, by simp⟩
    · obtain ⟨q0, ⟨hc0, _⟩, _⟩ := each 0 (by omega)
      have hxb : ∃ b o, ad = ⟨b, o, none⟩ := by
        obtain ⟨b, o, spot⟩ := ad
        have hspot : spot = none := by simpa [Addr.add] using World.cell?_spot hc0
        exact ⟨b, o, by rw [hspot]⟩
      obtain ⟨b, o, rfl⟩ := hxb
      haveI : Inhabited Sc := ⟨(0, 0, .mk 0 ⟨#[]⟩ [], undef)⟩
      obtain ⟨f, hfq⟩ := Deep.choose_lt each
      have hlt : b < W.heap.size := by have := lt_of_cell hc0; simpa [Addr.add] using this
      refine ⟨(List.range n).map f, ⟨some ⟨b, o, none⟩, c, by simp, by simpa using hl, by unfold maxLen at hm; omega, fun _ => ⟨b, o, hlt, rfl, fun i hi => ?_⟩⟩, fun x hx => ?_⟩
      · have hi' : i < n := by simpa using hi
        obtain ⟨⟨k0, k1, k2, k3, k4⟩, _⟩ := hfq i hi'
        simp only [addr_add, Nat.add_zero] at k0 k1 k2 k3 k4
        simp only [List.getElem_map, List.getElem_range]
        exact ⟨k0, k1, k2, k3, k4⟩
      · obtain ⟨i, hi, rfl⟩ := List.mem_map.1 hx
        exact (hfq i (List.mem_range.1 hi)).2

theorem banks_any (limit : Int) (c : List Sc) (v : Value) (w : World) (hc : ScAt w v c) (hx : ∀ x ∈ c, ArgsAt w x.2.2.2 x.2.2.1.args ∧ x.2.2.1.size ≤ 1048576 ∧ Fit64 x.2.1) :
    Calls Try.prog 6 #[.int .i64 limit, v] w fun e W => e = .returned (.bool true) ∧ Below w.heap.size w W := by
  obtain ⟨a, d, rfl, _, _⟩ := hc.slice
  by_cases h : limit < 1 ∨ 1000000 < limit
  · exact banks_bad limit c.length a d w h
  · exact banks_ok limit c a d w hc (fun x h => ⟨(hx x h).1, (short_of _ (hx x h).2.1).1, (hx x h).2.2, (hx x h).2.1⟩) (by omega) (by omega)

end Go.Proofs.Ytbbfpllffcfmhaa
