/-
  Binds that came in as arguments: how they lie in memory, and how great they are.
-/
import Derived.Test.YtijihmncbaoklaaGreatRB
import Derived.Test.YtijihmncbaoklaaGreatZSF
namespace Go.Proofs.YtijihmncbaoklaaGreat
open Go.ChangeShapes Go.WideShapes Go.ChangeAt Go.RowKit

theorem Tryz.cells116 : Tryz.prog.cellsOf 116 = 4 := by kernel_rfl

theorem list4 {cs : List Value} (h : cs.length = 4) : ∃ c0 c1 c2 c3, cs = [c0, c1, c2, c3] := by
  match cs, h with
  | [c0, c1, c2, c3], _ => exact ⟨c0, c1, c2, c3, rfl⟩

theorem struct35 {H : Type} {enc : TypeId × Value → H} {W : World} {fuel : Nat} {cs : List Value} {x : DataW H × List MemPlace}
    (h : DataW.trod enc Tryz.prog W 0 (fun _ => true) true fuel 116 cs = some x) : ∃ (b : Bd) (sl : Value), cs = [.int .i64 b.1, .int .i64 b.2.v, .string b.2.fn, sl] ∧ ArgsAt W sl b.2.args ∧ b.2.size ≤ (Rows.uptoBulk x.1 : Int) := by
  obtain ⟨xs, n, rfl, hx, hlen, hxs, hf⟩ := DataW.trod_struct Tryz.underlying116 h
  rw [Tryz.cells116] at hlen
  obtain ⟨c0, c1, c2, c3, rfl⟩ := list4 hlen
  match xs, hxs, hx, hf with
  | [y0, y1], _, hx, hf =>
    have t0 : DataW.trod enc Tryz.prog W 0 (fun _ => true) true n 3 (List.take (Tryz.prog.cellsOf 3) (List.drop 0 [c0, c1, c2, c3])) = some y0 := hf 0 _ rfl
    have t1 : DataW.trod enc Tryz.prog W 0 (fun _ => true) true n 32 (List.take (Tryz.prog.cellsOf 32) (List.drop 1 [c0, c1, c2, c3])) = some y1 := hf 1 _ rfl
    rw [Tryz.cells3] at t0
    rw [Tryz.cells53] at t1
    have t0' : DataW.trod enc Tryz.prog W 0 (fun _ => true) true n 3 [c0] = some y0 := t0
    have t1' : DataW.trod enc Tryz.prog W 0 (fun _ => true) true n 32 [c1, c2, c3] = some y1 := t1
    obtain ⟨k, e0, z0, w0⟩ := DataW.trod_int Tryz.underlying3 t0'
    obtain ⟨v, fn, sl, m, q0, q1, q2, rfl, e1, _, _, t2, ex, _⟩ := struct24 t1'
    obtain ⟨l, hA, hS⟩ := args_trodB m sl _ t2
    simp only [List.cons.injEq, and_true] at e0 e1
    obtain ⟨rfl, rfl, rfl⟩ := e1
    subst e0
    refine ⟨(k, .mk v fn l), c3, rfl, hA, ?_⟩
    rw [hx]
    simp only [List.map_cons, List.map_nil, Rows.uptoBulk, Rows.uptoBulkAll]
    rw [ex, T.size_eq]
    simp only [Rows.uptoBulk, Rows.uptoBulkAll]
    have hS' : ((T.mk v fn l).args.map T.size).sum ≤ (Rows.uptoBulk q2.1 : Int) := hS
    omega

theorem bulk_mem {H : Type} : ∀ (es : List (DataW H)) (d : DataW H), d ∈ es → Rows.uptoBulk d ≤ Rows.uptoBulkAll es
  | [], _, h => by cases h
  | e :: r, d, h => by
    rw [Rows.uptoBulkAll]
    rcases List.mem_cons.1 h with rfl | h
    · omega
    · have := bulk_mem r d h
      omega

/-- What is read of a slice of binds that came in. -/
theorem binds_in {H : Type} {enc : TypeId × Value → H} {W : World} {a : Option Addr} {n c : Nat} {d : DataW H} {p : List MemPlace}
    (h : DataW.Trod enc Tryz.prog W 0 (fun _ => true) true 53 (.slice a n c) d p) : ∃ l, BindsAt W (.slice a n c) l ∧ ∀ x ∈ l, x.2.size ≤ (Rows.uptoBulk d : Int) := by
  obtain ⟨fuel, hf⟩ := h
  rcases DataW.trod_slice Tryz.underlying53 hf with ⟨hcs, hx⟩ | ⟨ad, len, cap, elems, rest, m, _, hcs, hx, _, hl, hm, hel, hat, _⟩
  · simp [Value.cells] at hcs
    obtain ⟨rfl, rfl, rfl⟩ := hcs
    exact ⟨[], ⟨none, 0, rfl, Nat.le_refl _, by decide, fun h => absurd h (by simp)⟩, by simp⟩
  · simp [Value.cells] at hcs
    obtain ⟨rfl, rfl, rfl⟩ := hcs
    rw [Tryz.cells116] at hat
    have each : ∀ i, i < n → ∃ q : Bd × Value, (W.cell? ((ad.add (i * 4)).add 0) = some (.int .i64 q.1.1) ∧ W.cell? ((ad.add (i * 4)).add 1) = some (.int .i64 q.1.2.v) ∧ W.cell? ((ad.add (i * 4)).add 2) = some (.string q.1.2.fn) ∧ W.cell? ((ad.add (i * 4)).add 3) = some q.2 ∧ ArgsAt W q.2 q.1.2.args) ∧ q.1.2.size ≤ (Rows.uptoBulk d : Int) := by
      intro i hi
      have hi' := hat i hi
      have hie : i < elems.length := by omega
      rw [List.getElem?_eq_getElem hie] at hi'
      obtain ⟨cs, hc, ht⟩ := Option.bind_eq_some_iff.1 hi'
      obtain ⟨_, hlen, hcell⟩ := World.cells?_some hc
      obtain ⟨b, sl, rfl, hA, hS⟩ := struct35 ht
      refine ⟨(b, sl), ⟨by simpa using hcell 0 (by simp), by simpa using hcell 1 (by simp), by simpa using hcell 2 (by simp), by simpa using hcell 3 (by simp), hA⟩, ?_⟩
      have e : d = .slice (elems.map fun x => x.1) (rest.map fun x => x.1) := congrArg Prod.fst hx
      rw [e, Rows.uptoBulk]
      have h1 := bulk_mem (elems.map fun x => x.1) elems[i].1 (List.mem_map.2 ⟨elems[i], List.getElem_mem hie, rfl⟩)
      show b.2.size ≤ _
      omega
    by_cases h0 : n = 0
    · subst h0
      exact ⟨[], ⟨some ad, c, rfl, Nat.zero_le _, by unfold maxLen at hm; omega, fun h => absurd h (by simp)⟩, by simp⟩
    · obtain ⟨q0, ⟨hc0, _⟩, _⟩ := each 0 (by omega)
      have hxb : ∃ b o, ad = ⟨b, o, none⟩ := by
        obtain ⟨b, o, spot⟩ := ad
        have hspot : spot = none := by simpa [Addr.add] using World.cell?_spot hc0
        exact ⟨b, o, by rw [hspot]⟩
      obtain ⟨b, o, rfl⟩ := hxb
      haveI : Inhabited (Bd × Value) := ⟨((0, .mk 0 ⟨#[]⟩ []), undef)⟩
      obtain ⟨f, hfq⟩ := Deep.choose_lt each
      have hlt : b < W.heap.size := by have := lt_of_cell hc0; simpa [Addr.add] using this
      refine ⟨(List.range n).map (fun i => (f i).1), ⟨some ⟨b, o, none⟩, c, by simp, by simpa using hl, by unfold maxLen at hm; omega, fun _ => ⟨b, o, rfl, fun i hi => ?_⟩⟩, fun x hx => ?_⟩
      · have hi' : i < n := by simpa using hi
        obtain ⟨⟨k0, k1, k2, k3, hA⟩, _⟩ := hfq i hi'
        simp only [addr_add, Nat.add_zero] at k0 k1 k2 k3
        simp only [List.getElem_map, List.getElem_range]
        exact ⟨(f i).2, hlt, k0, k1, k2, k3, hA⟩
      · obtain ⟨i, hi, rfl⟩ := List.mem_map.1 hx
        exact (hfq i (List.mem_range.1 hi)).2

end Go.Proofs.YtijihmncbaoklaaGreat
