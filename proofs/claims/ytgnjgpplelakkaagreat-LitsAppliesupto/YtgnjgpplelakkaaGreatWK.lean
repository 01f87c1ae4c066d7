import Derived.Test.YtgnjgpplelakkaaGreatQRB
import Derived.Test.YtgnjgpplelakkaaGreatMF
import Derived.Test.YtgnjgpplelakkaaGreatWJ
import Derived.Test.YtgnjgpplelakkaaGreatTB

/-
  Literals and clauses that came in as arguments: how they lie in memory, and how great they are.
-/
namespace Go.Proofs.YtgnjgpplelakkaaGreat
open Go.ChangeShapes Go.WideShapes Go.ChangeAt Go.RowKit

theorem Tryz.cells40 : Tryz.prog.cellsOf 40 = 7 := by kernel_rfl
theorem Tryz.cells4 : Tryz.prog.cellsOf 4 = 1 := by kernel_rfl

theorem list7 {cs : List Value} (h : cs.length = 7) : ∃ c0 c1 c2 c3 c4 c5 c6, cs = [c0, c1, c2, c3, c4, c5, c6] := by
  match cs, h with
  | [c0, c1, c2, c3, c4, c5, c6], _ => exact ⟨c0, c1, c2, c3, c4, c5, c6, rfl⟩

theorem struct28 {H : Type} {enc : TypeId × Value → H} {W : World} {fuel : Nat} {cs : List Value} {x : DataW H × List MemPlace}
    (h : DataW.trod enc Tryz.prog W 0 (fun _ => true) true fuel 40 cs = some x) : ∃ (b : Lt) (sl sr : Value), cs = [.bool b.neg, .int .i64 b.l.v, .string b.l.fn, sl, .int .i64 b.r.v, .string b.r.fn, sr] ∧ ArgsAt W sl b.l.args ∧ ArgsAt W sr b.r.args ∧ b.l.size + b.r.size ≤ (Rows.uptoBulk x.1 : Int) := by
  obtain ⟨xs, n, rfl, hx, hlen, hxs, hf⟩ := DataW.trod_struct Tryz.underlying40 h
  rw [Tryz.cells40] at hlen
  obtain ⟨c0, c1, c2, c3, c4, c5, c6, rfl⟩ := list7 hlen
  match xs, hxs, hx, hf with
  | [y0, y1, y2], _, hx, hf =>
    have t0 : DataW.trod enc Tryz.prog W 0 (fun _ => true) true n 4 (List.take (Tryz.prog.cellsOf 4) (List.drop 0 [c0, c1, c2, c3, c4, c5, c6])) = some y0 := hf 0 _ rfl
    have t1 : DataW.trod enc Tryz.prog W 0 (fun _ => true) true n 28 (List.take (Tryz.prog.cellsOf 28) (List.drop 1 [c0, c1, c2, c3, c4, c5, c6])) = some y1 := hf 1 _ rfl
    have t2 : DataW.trod enc Tryz.prog W 0 (fun _ => true) true n 28 (List.take (Tryz.prog.cellsOf 28) (List.drop 4 [c0, c1, c2, c3, c4, c5, c6])) = some y2 := hf 2 _ rfl
    rw [Tryz.cells4] at t0
    rw [Tryz.cells28] at t1 t2
    have t0' : DataW.trod enc Tryz.prog W 0 (fun _ => true) true n 4 [c0] = some y0 := t0
    have t1' : DataW.trod enc Tryz.prog W 0 (fun _ => true) true n 28 [c1, c2, c3] = some y1 := t1
    have t2' : DataW.trod enc Tryz.prog W 0 (fun _ => true) true n 28 [c4, c5, c6] = some y2 := t2
    obtain ⟨k, e0, z0⟩ := DataW.trod_bool Tryz.underlying4 t0'
    obtain ⟨v, fn, sl, m, q0, q1, q2, hm, e1, _, _, s2, ex, _⟩ := struct24 t1'
    obtain ⟨v', fn', sl', m', p0, p1, p2, hm', e2, _, _, s2', ex', _⟩ := struct24 t2'
    obtain ⟨l, hA, hS⟩ := args_trodB m sl _ s2
    obtain ⟨l', hA', hS'⟩ := args_trodB m' sl' _ s2'
    simp only [List.cons.injEq, and_true] at e0 e1 e2
    obtain ⟨rfl, rfl, rfl⟩ := e1
    obtain ⟨rfl, rfl, rfl⟩ := e2
    subst e0
    refine ⟨⟨k, .mk v fn l, .mk v' fn' l'⟩, c3, c6, rfl, hA, hA', ?_⟩
    rw [hx]
    simp only [List.map_cons, List.map_nil, Rows.uptoBulk, Rows.uptoBulkAll]
    rw [ex, ex', T.size_eq, T.size_eq]
    simp only [Rows.uptoBulk, Rows.uptoBulkAll]
    have h1 : ((T.mk v fn l).args.map T.size).sum ≤ (Rows.uptoBulk q2.1 : Int) := hS
    have h2 : ((T.mk v' fn' l').args.map T.size).sum ≤ (Rows.uptoBulk p2.1 : Int) := hS'
    omega

set_option maxRecDepth 100000 in
/-- What is read of a literal that came in. -/
theorem lit_in {H : Type} {enc : TypeId × Value → H} {W : World} {base : Nat} {v : Value} {d : DataW H} {p : List MemPlace} (hv : Value.okWide Tryz.prog W .any base 40 v)
    (h : DataW.Trod enc Tryz.prog W 0 (fun _ => true) true 40 v d p) : ∃ x sl sr, v = lval x sl sr ∧ ArgsAt W sl x.l.args ∧ ArgsAt W sr x.r.args ∧ x.l.size + x.r.size ≤ (Rows.uptoBulk d : Int) := by
  obtain ⟨cs, rfl, hcs⟩ := okWide_struct Tryz.underlying40 hv
  obtain ⟨fuel, hf⟩ := h
  obtain ⟨x, sl, sr, hc, hA, hA', hS⟩ := struct28 hf
  refine ⟨x, sl, sr, ?_, hA, hA', hS⟩
  have : cs.toList = [.bool x.neg, .int .i64 x.l.v, .string x.l.fn, sl, .int .i64 x.r.v, .string x.r.fn, sr] := hc
  obtain ⟨cl⟩ := cs
  have h2 : cl = [.bool x.neg, .int .i64 x.l.v, .string x.l.fn, sl, .int .i64 x.r.v, .string x.r.fn, sr] := this
  rw [h2]

theorem csize_range (n : Nat) (g : Nat → Lt) : csize ((List.range n).map g) = ((List.range n).map fun i => (g i).l.size + (g i).r.size).sum := by
  unfold csize
  rw [List.map_map]
  rfl

/-- What is read of a clause that came in. -/
theorem clause_in {H : Type} {enc : TypeId × Value → H} {W : World} {a : Option Addr} {n c : Nat} {d : DataW H} {p : List MemPlace}
    (h : DataW.Trod enc Tryz.prog W 0 (fun _ => true) true 24 (.slice a n c) d p) : ∃ l, ClauseAt W (.slice a n c) l ∧ csize l ≤ (Rows.uptoBulk d : Int) := by
  obtain ⟨fuel, hf⟩ := h
  rcases DataW.trod_slice Tryz.underlying24 hf with ⟨hcs, hx⟩ | ⟨ad, len, cap, elems, rest, m, _, hcs, hx, _, hl, hm, hel, hat, _⟩
  · simp [Value.cells] at hcs
    obtain ⟨rfl, rfl, rfl⟩ := hcs
    exact ⟨[], ⟨none, 0, rfl, Nat.le_refl _, by decide, fun h => absurd h (by simp)⟩, by simp [csize]⟩
  · simp [Value.cells] at hcs
    obtain ⟨rfl, rfl, rfl⟩ := hcs
    rw [Tryz.cells40] at hat
    have each : ∀ i, i < n → ∃ q : Lt × Value × Value, (W.cell? ((ad.add (i * 7)).add 0) = some (.bool q.1.neg) ∧ W.cell? ((ad.add (i * 7)).add 1) = some (.int .i64 q.1.l.v) ∧ W.cell? ((ad.add (i * 7)).add 2) = some (.string q.1.l.fn) ∧ W.cell? ((ad.add (i * 7)).add 3) = some q.2.1 ∧ W.cell? ((ad.add (i * 7)).add 4) = some (.int .i64 q.1.r.v) ∧ W.cell? ((ad.add (i * 7)).add 5) = some (.string q.1.r.fn) ∧ W.cell? ((ad.add (i * 7)).add 6) = some q.2.2 ∧ ArgsAt W q.2.1 q.1.l.args ∧ ArgsAt W q.2.2 q.1.r.args) ∧ ∀ (h : i < elems.length), q.1.l.size + q.1.r.size ≤ (Rows.uptoBulk elems[i].1 : Int) := by
      intro i hi
      have hi' := hat i hi
      have hie : i < elems.length := by omega
      rw [List.getElem?_eq_getElem hie] at hi'
      obtain ⟨cs, hc, ht⟩ := Option.bind_eq_some_iff.1 hi'
      obtain ⟨_, hlen, hcell⟩ := World.cells?_some hc
      obtain ⟨b, sl, sr, rfl, hA, hA', hS⟩ := struct28 ht
      exact ⟨(b, sl, sr), ⟨by simpa using hcell 0 (by simp), by simpa using hcell 1 (by simp), by simpa using hcell 2 (by simp), by simpa using hcell 3 (by simp), by simpa using hcell 4 (by simp), by simpa using hcell 5 (by simp), by simpa using hcell 6 (by simp), hA, hA'⟩, fun _ => hS⟩
    have hbulk : (Rows.uptoBulkAll (elems.map (fun x => x.1)) : Int) ≤ (Rows.uptoBulk d : Int) := by
      have e : d = .slice (elems.map fun x => x.1) (rest.map fun x => x.1) := congrArg Prod.fst hx
      rw [e]
      simp only [Rows.uptoBulk]
      omega
    by_cases h0 : n = 0
    · subst h0
      exact ⟨[], ⟨some ad, c, rfl, Nat.zero_le _, by unfold maxLen at hm; omega, fun h => absurd h (by simp)⟩, by simp [csize]⟩
    · obtain ⟨q0, ⟨hc0, _⟩, _⟩ := each 0 (by omega)
      have hxb : ∃ b o, ad = ⟨b, o, none⟩ := by
        obtain ⟨b, o, spot⟩ := ad
        have hspot : spot = none := by simpa [Addr.add] using World.cell?_spot hc0
        exact ⟨b, o, by rw [hspot]⟩
      obtain ⟨b, o, rfl⟩ := hxb
      haveI : Inhabited (Lt × Value × Value) := ⟨(⟨false, .mk 0 ⟨#[]⟩ [], .mk 0 ⟨#[]⟩ []⟩, undef, undef)⟩
      obtain ⟨f, hfq⟩ := Deep.choose_lt each
      have hlt : b < W.heap.size := by have := lt_of_cell hc0; simpa [Addr.add] using this
      refine ⟨(List.range n).map (fun i => (f i).1), ⟨some ⟨b, o, none⟩, c, by simp, by simpa using hl, by unfold maxLen at hm; omega, fun _ => ⟨b, o, rfl, fun i hi => ?_⟩⟩, ?_⟩
      · have hi' : i < n := by simpa using hi
        obtain ⟨⟨k0, k1, k2, k3, k4, k5, k6, hA, hA'⟩, _⟩ := hfq i hi'
        simp only [addr_add, Nat.add_zero] at k0 k1 k2 k3 k4 k5 k6
        simp only [List.getElem_map, List.getElem_range]
        exact ⟨(f i).2.1, (f i).2.2, hlt, k0, k1, k2, k3, k4, k5, k6, hA, hA'⟩
      · refine Int.le_trans ?_ hbulk
        rw [csize_range]
        have := sum_bulk (elems.map (fun x => x.1)) (fun i => (f i).1.l.size + (f i).1.r.size) (fun i hi => by
          have hie : i < elems.length := by simpa using hi
          have := (hfq i (by omega)).2 hie
          simpa using this)
        rw [List.length_map, hel] at this
        exact this

end Go.Proofs.YtgnjgpplelakkaaGreat

/-
  A number that came in.
-/
namespace Go.Proofs.YtgnjgpplelakkaaGreat
open Go.ChangeShapes Go.WideShapes Go.ChangeAt Go.RowKit

theorem own : ownKnob Tryz.prog.godebug = none := by kernel_rfl

theorem laidOut : laidOutB Tryz.prog = true := by kernel_rfl

theorem int_rng {H : Type} {enc : TypeId × Value → H} {W : World} {z : Int} {d : DataW H} {p : List MemPlace} (h : DataW.Trod enc Tryz.prog W 0 (fun _ => true) true 3 (.int .i64 z) d p) : -9223372036854775808 ≤ z ∧ z ≤ 9223372036854775807 := by
  obtain ⟨fuel, hf⟩ := h
  obtain ⟨s, e1, _, w1⟩ := DataW.trod_int Tryz.underlying3 hf
  have e2 : z = s := by simpa [Value.cells] using e1
  subst e2
  simp only [Lit.wf, IntKind.min, IntKind.max, IntKind.signed, IntKind.bits, Bool.and_eq_true, decide_eq_true_eq, if_true] at w1
  omega

end Go.Proofs.YtgnjgpplelakkaaGreat
