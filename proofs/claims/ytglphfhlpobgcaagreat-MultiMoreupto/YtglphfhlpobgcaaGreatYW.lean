import Derived.Test.YtglphfhlpobgcaaGreatKA
import Derived.Test.YtglphfhlpobgcaaGreatR
import Derived.Test.YtglphfhlpobgcaaGreatRB
import Derived.Test.YtglphfhlpobgcaaGreatLG
import Derived.Test.YtglphfhlpobgcaaGreatYR
import Derived.Test.YtglphfhlpobgcaaGreatLB
import Derived.Test.YtglphfhlpobgcaaGreatKF

/-
  Signatures that came in as arguments: how they lie in memory.
-/
namespace Go.Proofs.YtglphfhlpobgcaaGreat
open Go.ChangeShapes Go.WideShapes Go.ChangeAt Go.RowKit

theorem Tryz.cells22 : Tryz.prog.cellsOf 22 = 1 := by kernel_rfl
theorem Tryz.cells23 : Tryz.prog.cellsOf 23 = 1 := by kernel_rfl
theorem Tryz.cells25 : Tryz.prog.cellsOf 25 = 2 := by kernel_rfl

theorem list2 {cs : List Value} (h : cs.length = 2) : ∃ c0 c1, cs = [c0, c1] := by
  match cs, h with
  | [c0, c1], _ => exact ⟨c0, c1, rfl⟩
theorem list1 {cs : List Value} (h : cs.length = 1) : ∃ c0, cs = [c0] := by
  match cs, h with
  | [c0], _ => exact ⟨c0, rfl⟩

theorem row_of {α : Type} [Inhabited α] {f : α → Value} {W : World} {a : Addr} {len cap : Nat} {P : α → Prop} (hl : len ≤ cap) (hm : cap ≤ 9223372036854775807) (h : ∀ i, i < len → ∃ x, W.cell? ((a.add i).add 0) = some (f x) ∧ P x) : ∃ l : List α, l.length = len ∧ RowAt f W (.slice (some a) len cap) l ∧ ∀ x ∈ l, P x := by
  by_cases h0 : len = 0
  · subst h0
    exact ⟨[], rfl, ⟨some a, cap, rfl, Nat.zero_le _, hm, fun h => absurd h (by simp)⟩, by simp⟩
  · obtain ⟨x0, hc0, _⟩ := h 0 (by omega)
    have hxb : ∃ b o, a = ⟨b, o, none⟩ := by
      obtain ⟨b, o, spot⟩ := a
      have hspot : spot = none := by simpa [Addr.add] using World.cell?_spot hc0
      exact ⟨b, o, by rw [hspot]⟩
    obtain ⟨b, o, rfl⟩ := hxb
    obtain ⟨e, he⟩ := Deep.choose_lt h
    have hlt : b < W.heap.size := by have := lt_of_cell hc0; simpa [Addr.add] using this
    have hlen : ((List.range len).map e).length = len := by simp
    refine ⟨(List.range len).map e, hlen, ⟨some ⟨b, o, none⟩, cap, by rw [hlen], by omega, hm, fun _ => ⟨b, o, hlt, rfl, fun i hi => ?_⟩⟩, fun x hx => ?_⟩
    · have hi' : i < len := by rwa [hlen] at hi
      have := (he i hi').1
      rw [addr_add, addr_add, Nat.add_zero] at this
      simpa using this
    · obtain ⟨i, hi, rfl⟩ := List.mem_map.1 hx
      exact (he i (List.mem_range.1 hi)).2

theorem strs_trod {H : Type} {enc : TypeId × Value → H} {W : World} {fuel : Nat} {v : Value} {x : DataW H × List MemPlace} (h : DataW.trod enc Tryz.prog W 0 (fun _ => true) true fuel 22 [v] = some x) : ∃ l, RowAt .string W v l ∧ ∀ s ∈ l, s.size ≤ maxLen := by
  rcases DataW.trod_slice Tryz.underlying22 h with ⟨hcs, hx⟩ | ⟨a, len, cap, elems, rest, n, rfl, hcs, hx, _, hl, hm, hel, hat, _⟩
  · simp only [List.cons.injEq, and_true] at hcs
    subst hcs
    exact ⟨[], ⟨none, 0, rfl, Nat.le_refl _, by decide, fun h => absurd h (by simp)⟩, by simp⟩
  · simp only [List.cons.injEq, and_true] at hcs
    subst hcs
    rw [Tryz.cells9] at hat
    have each : ∀ i, i < len → ∃ s : ByteArray, W.cell? ((a.add i).add 0) = some (.string s) ∧ s.size ≤ maxLen := by
      intro i hi
      have hi' := hat i hi
      rw [List.getElem?_eq_getElem (by omega)] at hi'
      obtain ⟨cs, hc, ht⟩ := Option.bind_eq_some_iff.1 hi'
      obtain ⟨_, hlen, hcell⟩ := World.cells?_some hc
      obtain ⟨c0, rfl⟩ := list1 hlen
      obtain ⟨s, e1, z1, w1⟩ := DataW.trod_string Tryz.underlying9 ht
      simp at e1
      subst e1
      exact ⟨s, by simpa using hcell 0 (by simp), w1⟩
    haveI : Inhabited ByteArray := ⟨⟨#[]⟩⟩
    obtain ⟨l, hlen, hr, hP⟩ := row_of (P := fun s : ByteArray => s.size ≤ maxLen) hl (by unfold maxLen at hm; omega) each
    exact ⟨l, hr, hP⟩

theorem ints_trod {H : Type} {enc : TypeId × Value → H} {W : World} {fuel : Nat} {v : Value} {x : DataW H × List MemPlace} (h : DataW.trod enc Tryz.prog W 0 (fun _ => true) true fuel 23 [v] = some x) : ∃ l : List Int, RowAt (.int .i64) W v l ∧ ∀ i ∈ l, (Lit.int .i64 i).wf = true := by
  rcases DataW.trod_slice Tryz.underlying23 h with ⟨hcs, hx⟩ | ⟨a, len, cap, elems, rest, n, rfl, hcs, hx, _, hl, hm, hel, hat, _⟩
  · simp only [List.cons.injEq, and_true] at hcs
    subst hcs
    exact ⟨[], ⟨none, 0, rfl, Nat.le_refl _, by decide, fun h => absurd h (by simp)⟩, by simp⟩
  · simp only [List.cons.injEq, and_true] at hcs
    subst hcs
    rw [Tryz.cells3] at hat
    have each : ∀ i, i < len → ∃ s : Int, W.cell? ((a.add i).add 0) = some (.int .i64 s) ∧ (Lit.int .i64 s).wf = true := by
      intro i hi
      have hi' := hat i hi
      rw [List.getElem?_eq_getElem (by omega)] at hi'
      obtain ⟨cs, hc, ht⟩ := Option.bind_eq_some_iff.1 hi'
      obtain ⟨_, hlen, hcell⟩ := World.cells?_some hc
      obtain ⟨c0, rfl⟩ := list1 hlen
      obtain ⟨s, e1, z1, w1⟩ := DataW.trod_int Tryz.underlying3 ht
      simp at e1
      subst e1
      exact ⟨s, by simpa using hcell 0 (by simp), w1⟩
    obtain ⟨l, hlen, hr, hP⟩ := row_of (P := fun s : Int => (Lit.int .i64 s).wf = true) hl (by unfold maxLen at hm; omega) each
    exact ⟨l, hr, hP⟩

set_option maxRecDepth 100000 in
/-- What is read of a signature that came in. -/
theorem sign_in {H : Type} {enc : TypeId × Value → H} {W : World} {base : Nat} {v : Value} {d : DataW H} {p : List MemPlace} (hv : Value.okWide Tryz.prog W .any base 25 v)
    (h : DataW.Trod enc Tryz.prog W 0 (fun _ => true) true 25 v d p) : ∃ g vn vw, v = gval vn vw ∧ SgAt W g vn vw := by
  obtain ⟨cs, rfl, hcs⟩ := okWide_struct Tryz.underlying25 hv
  obtain ⟨fuel, hf⟩ := h
  obtain ⟨xs, n, rfl, hx, hlen, hxs, hf⟩ := DataW.trod_struct Tryz.underlying25 hf
  rw [Tryz.cells25] at hlen
  obtain ⟨c0, c1, hcc⟩ := list2 hlen
  rw [hcc] at hf
  match xs, hxs, hx, hf with
  | [y0, y1], _, hx, hf =>
    have t0 : DataW.trod enc Tryz.prog W 0 (fun _ => true) true n 22 (List.take (Tryz.prog.cellsOf 22) (List.drop 0 [c0, c1])) = some y0 := hf 0 _ rfl
    have t1 : DataW.trod enc Tryz.prog W 0 (fun _ => true) true n 23 (List.take (Tryz.prog.cellsOf 23) (List.drop 1 [c0, c1])) = some y1 := hf 1 _ rfl
    rw [Tryz.cells22] at t0
    rw [Tryz.cells23] at t1
    obtain ⟨l, h1, h2⟩ := strs_trod (v := c0) t0
    obtain ⟨m, h3, _⟩ := ints_trod (v := c1) t1
    refine ⟨⟨l, m⟩, c0, c1, ?_, ⟨h1, h3, h2⟩⟩
    obtain ⟨cl⟩ := cs
    have h2 : cl = [c0, c1] := hcc
    rw [h2]

end Go.Proofs.YtglphfhlpobgcaaGreat

/-
  Literals and clauses that came in as arguments: how they lie in memory, and how great they are.
-/
namespace Go.Proofs.YtglphfhlpobgcaaGreat
open Go.ChangeShapes Go.WideShapes Go.ChangeAt Go.RowKit

theorem Tryz.cells32 : Tryz.prog.cellsOf 32 = 7 := by kernel_rfl
theorem Tryz.cells4 : Tryz.prog.cellsOf 4 = 1 := by kernel_rfl

theorem list7 {cs : List Value} (h : cs.length = 7) : ∃ c0 c1 c2 c3 c4 c5 c6, cs = [c0, c1, c2, c3, c4, c5, c6] := by
  match cs, h with
  | [c0, c1, c2, c3, c4, c5, c6], _ => exact ⟨c0, c1, c2, c3, c4, c5, c6, rfl⟩

theorem struct28 {H : Type} {enc : TypeId × Value → H} {W : World} {fuel : Nat} {cs : List Value} {x : DataW H × List MemPlace}
    (h : DataW.trod enc Tryz.prog W 0 (fun _ => true) true fuel 32 cs = some x) : ∃ (b : Lt) (sl sr : Value), cs = [.bool b.neg, .int .i64 b.l.v, .string b.l.fn, sl, .int .i64 b.r.v, .string b.r.fn, sr] ∧ ArgsAt W sl b.l.args ∧ ArgsAt W sr b.r.args ∧ b.l.size + b.r.size ≤ (Rows.uptoBulk x.1 : Int) := by
  obtain ⟨xs, n, rfl, hx, hlen, hxs, hf⟩ := DataW.trod_struct Tryz.underlying32 h
  rw [Tryz.cells32] at hlen
  obtain ⟨c0, c1, c2, c3, c4, c5, c6, rfl⟩ := list7 hlen
  match xs, hxs, hx, hf with
  | [y0, y1, y2], _, hx, hf =>
    have t0 : DataW.trod enc Tryz.prog W 0 (fun _ => true) true n 4 (List.take (Tryz.prog.cellsOf 4) (List.drop 0 [c0, c1, c2, c3, c4, c5, c6])) = some y0 := hf 0 _ rfl
    have t1 : DataW.trod enc Tryz.prog W 0 (fun _ => true) true n 30 (List.take (Tryz.prog.cellsOf 30) (List.drop 1 [c0, c1, c2, c3, c4, c5, c6])) = some y1 := hf 1 _ rfl
    have t2 : DataW.trod enc Tryz.prog W 0 (fun _ => true) true n 30 (List.take (Tryz.prog.cellsOf 30) (List.drop 4 [c0, c1, c2, c3, c4, c5, c6])) = some y2 := hf 2 _ rfl
    rw [Tryz.cells4] at t0
    rw [Tryz.cells30] at t1 t2
    have t0' : DataW.trod enc Tryz.prog W 0 (fun _ => true) true n 4 [c0] = some y0 := t0
    have t1' : DataW.trod enc Tryz.prog W 0 (fun _ => true) true n 30 [c1, c2, c3] = some y1 := t1
    have t2' : DataW.trod enc Tryz.prog W 0 (fun _ => true) true n 30 [c4, c5, c6] = some y2 := t2
    obtain ⟨k, e0, z0⟩ := DataW.trod_bool Tryz.underlying4 t0'
    obtain ⟨v, fn, sl, m, q0, q1, q2, hm, e1, _, _, s2, ex, _⟩ := struct24 t1'
    obtain ⟨v', fn', sl', m', p0, p1, p2, hm', e2, _, _, s2', ex', _⟩ := struct24 t2'
    obtain ⟨l, hA, hS⟩ := args_trodB m sl _ s2
    obtain ⟨l', hA', hS'⟩ := args_trodB m' sl' _ s2'
    simp only [List.cons.injEq, and_true] at e0 e1 e2
    obtain ⟨rfl, rfl, rfl⟩ := e1
    obtain ⟨rfl, rfl, rfl⟩ := e2
    subst e0
    refine ⟨⟨k, .mk v fn l, .mk v' fn' l'⟩, c3, c6, rfl, hA, hA', ?_⟩
    rw [hx]
    simp only [List.map_cons, List.map_nil, Rows.uptoBulk, Rows.uptoBulkAll]
    rw [ex, ex', T.size_eq, T.size_eq]
    simp only [Rows.uptoBulk, Rows.uptoBulkAll]
    have h1 : ((T.mk v fn l).args.map T.size).sum ≤ (Rows.uptoBulk q2.1 : Int) := hS
    have h2 : ((T.mk v' fn' l').args.map T.size).sum ≤ (Rows.uptoBulk p2.1 : Int) := hS'
    omega

set_option maxRecDepth 100000 in
/-- What is read of a literal that came in. -/
theorem lit_in {H : Type} {enc : TypeId × Value → H} {W : World} {base : Nat} {v : Value} {d : DataW H} {p : List MemPlace} (hv : Value.okWide Tryz.prog W .any base 32 v)
    (h : DataW.Trod enc Tryz.prog W 0 (fun _ => true) true 32 v d p) : ∃ x sl sr, v = lval x sl sr ∧ ArgsAt W sl x.l.args ∧ ArgsAt W sr x.r.args ∧ x.l.size + x.r.size ≤ (Rows.uptoBulk d : Int) := by
  obtain ⟨cs, rfl, hcs⟩ := okWide_struct Tryz.underlying32 hv
  obtain ⟨fuel, hf⟩ := h
  obtain ⟨x, sl, sr, hc, hA, hA', hS⟩ := struct28 hf
  refine ⟨x, sl, sr, ?_, hA, hA', hS⟩
  have : cs.toList = [.bool x.neg, .int .i64 x.l.v, .string x.l.fn, sl, .int .i64 x.r.v, .string x.r.fn, sr] := hc
  obtain ⟨cl⟩ := cs
  have h2 : cl = [.bool x.neg, .int .i64 x.l.v, .string x.l.fn, sl, .int .i64 x.r.v, .string x.r.fn, sr] := this
  rw [h2]

theorem csize_range (n : Nat) (g : Nat → Lt) : csize ((List.range n).map g) = ((List.range n).map fun i => (g i).l.size + (g i).r.size).sum := by
  unfold csize
  rw [List.map_map]
  rfl

/-- What is read of a clause that came in. -/
theorem clause_in {H : Type} {enc : TypeId × Value → H} {W : World} {a : Option Addr} {n c : Nat} {d : DataW H} {p : List MemPlace}
    (h : DataW.Trod enc Tryz.prog W 0 (fun _ => true) true 35 (.slice a n c) d p) : ∃ l, ClauseAt W (.slice a n c) l ∧ csize l ≤ (Rows.uptoBulk d : Int) := by
  obtain ⟨fuel, hf⟩ := h
  rcases DataW.trod_slice Tryz.underlying35 hf with ⟨hcs, hx⟩ | ⟨ad, len, cap, elems, rest, m, _, hcs, hx, _, hl, hm, hel, hat, _⟩
  · simp [Value.cells] at hcs
    obtain ⟨rfl, rfl, rfl⟩ := hcs
    exact ⟨[], ⟨none, 0, rfl, Nat.le_refl _, by decide, fun h => absurd h (by simp)⟩, by simp [csize]⟩
  · simp [Value.cells] at hcs
    obtain ⟨rfl, rfl, rfl⟩ := hcs
    rw [Tryz.cells32] at hat
    have each : ∀ i, i < n → ∃ q : Lt × Value × Value, (W.cell? ((ad.add (i * 7)).add 0) = some (.bool q.1.neg) ∧ W.cell? ((ad.add (i * 7)).add 1) = some (.int .i64 q.1.l.v) ∧ W.cell? ((ad.add (i * 7)).add 2) = some (.string q.1.l.fn) ∧ W.cell? ((ad.add (i * 7)).add 3) = some q.2.1 ∧ W.cell? ((ad.add (i * 7)).add 4) = some (.int .i64 q.1.r.v) ∧ W.cell? ((ad.add (i * 7)).add 5) = some (.string q.1.r.fn) ∧ W.cell? ((ad.add (i * 7)).add 6) = some q.2.2 ∧ ArgsAt W q.2.1 q.1.l.args ∧ ArgsAt W q.2.2 q.1.r.args) ∧ ∀ (h : i < elems.length), q.1.l.size + q.1.r.size ≤ (Rows.uptoBulk elems[i].1 : Int) := by
      intro i hi
      have hi' := hat i hi
      have hie : i < elems.length := by omega
      rw [List.getElem?_eq_getElem hie] at hi'
      obtain ⟨cs, hc, ht⟩ := Option.bind_eq_some_iff.1 hi'
      obtain ⟨_, hlen, hcell⟩ := World.cells?_some hc
      obtain ⟨b, sl, sr, rfl, hA, hA', hS⟩ := struct28 ht
      exact ⟨(b, sl, sr), ⟨by simpa using hcell 0 (by simp), by simpa using hcell 1 (by simp), by simpa using hcell 2 (by simp), by simpa using hcell 3 (by simp), by simpa using hcell 4 (by simp), by simpa using hcell 5 (by simp), by simpa using hcell 6 (by simp), hA, hA'⟩, fun _ => hS⟩
    have hbulk : (Rows.uptoBulkAll (elems.map (fun x => x.1)) : Int) ≤ (Rows.uptoBulk d : Int) := by
      have e : d = .slice (elems.map fun x => x.1) (rest.map fun x => x.1) := congrArg Prod.fst hx
      rw [e]
      simp only [Rows.uptoBulk]
      omega
    by_cases h0 : n = 0
    · subst h0
      exact ⟨[], ⟨some ad, c, rfl, Nat.zero_le _, by unfold maxLen at hm; omega, fun h => absurd h (by simp)⟩, by simp [csize]⟩
    · obtain ⟨q0, ⟨hc0, _⟩, _⟩ := each 0 (by omega)
      have hxb : ∃ b o, ad = ⟨b, o, none⟩ := by
        obtain ⟨b, o, spot⟩ := ad
        have hspot : spot = none := by simpa [Addr.add] using World.cell?_spot hc0
        exact ⟨b, o, by rw [hspot]⟩
      obtain ⟨b, o, rfl⟩ := hxb
      haveI : Inhabited (Lt × Value × Value) := ⟨(⟨false, .mk 0 ⟨#[]⟩ [], .mk 0 ⟨#[]⟩ []⟩, undef, undef)⟩
      obtain ⟨f, hfq⟩ := Deep.choose_lt each
      have hlt : b < W.heap.size := by have := lt_of_cell hc0; simpa [Addr.add] using this
      refine ⟨(List.range n).map (fun i => (f i).1), ⟨some ⟨b, o, none⟩, c, by simp, by simpa using hl, by unfold maxLen at hm; omega, fun _ => ⟨b, o, rfl, fun i hi => ?_⟩⟩, ?_⟩
      · have hi' : i < n := by simpa using hi
        obtain ⟨⟨k0, k1, k2, k3, k4, k5, k6, hA, hA'⟩, _⟩ := hfq i hi'
        simp only [addr_add, Nat.add_zero] at k0 k1 k2 k3 k4 k5 k6
        simp only [List.getElem_map, List.getElem_range]
        exact ⟨(f i).2.1, (f i).2.2, hlt, k0, k1, k2, k3, k4, k5, k6, hA, hA'⟩
      · refine Int.le_trans ?_ hbulk
        rw [csize_range]
        have := sum_bulk (elems.map (fun x => x.1)) (fun i => (f i).1.l.size + (f i).1.r.size) (fun i hi => by
          have hie : i < elems.length := by simpa using hi
          have := (hfq i (by omega)).2 hie
          simpa using this)
        rw [List.length_map, hel] at this
        exact this

end Go.Proofs.YtglphfhlpobgcaaGreat

/-
  Orders and clauses that came in as arguments: how they lie in memory.
-/
namespace Go.Proofs.YtglphfhlpobgcaaGreat
open Go.ChangeShapes Go.WideShapes Go.ChangeAt Go.RowKit

theorem Tryz.cells27 : Tryz.prog.cellsOf 27 = 3 := by kernel_rfl
theorem sign_trod {H : Type} {enc : TypeId × Value → H} {W : World} {fuel : Nat} {c0 c1 : Value} {x : DataW H × List MemPlace} (h : DataW.trod enc Tryz.prog W 0 (fun _ => true) true fuel 25 [c0, c1] = some x) : ∃ g, SgAt W g c0 c1 := by
  obtain ⟨xs, n, rfl, hx, hlen, hxs, hf⟩ := DataW.trod_struct Tryz.underlying25 h
  match xs, hxs, hx, hf with
  | [y0, y1], _, hx, hf =>
    have t0 : DataW.trod enc Tryz.prog W 0 (fun _ => true) true n 22 (List.take (Tryz.prog.cellsOf 22) (List.drop 0 [c0, c1])) = some y0 := hf 0 _ rfl
    have t1 : DataW.trod enc Tryz.prog W 0 (fun _ => true) true n 23 (List.take (Tryz.prog.cellsOf 23) (List.drop 1 [c0, c1])) = some y1 := hf 1 _ rfl
    rw [Tryz.cells22] at t0
    rw [Tryz.cells23] at t1
    obtain ⟨l, h1, h2⟩ := strs_trod (v := c0) t0
    obtain ⟨m, h3, _⟩ := ints_trod (v := c1) t1
    exact ⟨⟨l, m⟩, h1, h3, h2⟩

set_option maxRecDepth 100000 in
/-- What is read of an order that came in. -/
theorem order_in {H : Type} {enc : TypeId × Value → H} {W : World} {base : Nat} {v : Value} {d : DataW H} {p : List MemPlace} (hv : Value.okWide Tryz.prog W .any base 27 v)
    (h : DataW.Trod enc Tryz.prog W 0 (fun _ => true) true 27 v d p) : ∃ o vn vw, v = oval o vn vw ∧ SgAt W o.g vn vw := by
  obtain ⟨cs, rfl, hcs⟩ := okWide_struct Tryz.underlying27 hv
  obtain ⟨fuel, hf⟩ := h
  obtain ⟨xs, n, rfl, hx, hlen, hxs, hf⟩ := DataW.trod_struct Tryz.underlying27 hf
  rw [Tryz.cells27] at hlen
  obtain ⟨c0, c1, c2, hcc⟩ := list3 hlen
  rw [hcc] at hf
  match xs, hxs, hx, hf with
  | [y0, y1], _, hx, hf =>
    have t0 : DataW.trod enc Tryz.prog W 0 (fun _ => true) true n 4 (List.take (Tryz.prog.cellsOf 4) (List.drop 0 [c0, c1, c2])) = some y0 := hf 0 _ rfl
    have t1 : DataW.trod enc Tryz.prog W 0 (fun _ => true) true n 25 (List.take (Tryz.prog.cellsOf 25) (List.drop 1 [c0, c1, c2])) = some y1 := hf 1 _ rfl
    rw [Tryz.cells4] at t0
    rw [Tryz.cells25] at t1
    have t0' : DataW.trod enc Tryz.prog W 0 (fun _ => true) true n 4 [c0] = some y0 := t0
    have t1' : DataW.trod enc Tryz.prog W 0 (fun _ => true) true n 25 [c1, c2] = some y1 := t1
    obtain ⟨k, e0, z0⟩ := DataW.trod_bool Tryz.underlying4 t0'
    obtain ⟨g, hg⟩ := sign_trod t1'
    simp only [List.cons.injEq, and_true] at e0
    subst e0
    refine ⟨⟨k, g⟩, c1, c2, ?_, hg⟩
    obtain ⟨cl⟩ := cs
    have h2 : cl = [.bool k, c1, c2] := hcc
    rw [h2]

theorem csize_mem : ∀ {l : List Lt} {x : Lt}, x ∈ l → x.l.size + x.r.size ≤ csize l
  | y :: r, x, h => by
    have hy : ∀ z : Lt, 0 ≤ z.l.size + z.r.size := fun z => by have := size_pos z.l; have := size_pos z.r; omega
    have hr : 0 ≤ csize r := by
      clear h
      induction r with
      | nil => simp [csize]
      | cons a t ih => have := hy a; simp only [csize, List.map_cons, List.sum_cons] at ih ⊢; omega
    simp only [csize, List.map_cons, List.sum_cons]
    rcases List.mem_cons.1 h with rfl | h
    · unfold csize at hr; omega
    · have h1 := csize_mem h
      unfold csize at h1
      have := hy y
      omega
/-- A clause that came in is small. -/
theorem okC_in {W : World} {v : Value} {l : List Lt} (h : ClauseAt W v l) (hs : csize l ≤ 1048576) : OkC W (l, v) :=
  ⟨h, fun x hx => by
    have h1 : x.l.size + x.r.size ≤ csize l := csize_mem hx
    have h2 := size_pos x.l
    have h3 := size_pos x.r
    exact ⟨by omega, by omega⟩⟩
theorem okL_in {W : World} {x : Lt} {sl sr : Value} (h1 : ArgsAt W sl x.l.args) (h2 : ArgsAt W sr x.r.args) (hs : x.l.size + x.r.size ≤ 1048576) : OkL W (x, sl, sr) := by
  have h3 := size_pos x.l
  have h4 := size_pos x.r
  exact ⟨⟨h1, h2⟩, by show x.l.size ≤ _; omega, by show x.r.size ≤ _; omega⟩

end Go.Proofs.YtglphfhlpobgcaaGreat

/-
  The document's Same of literals.
-/
namespace Go.Proofs.YtglphfhlpobgcaaGreat
open Go.RowKit

set_option maxRecDepth 100000 in
set_option maxHeartbeats 8000000 in
theorem rlsame_any (x y : Lt) (a b c d : Value) (w : World) (hxl : ArgsAt w a x.l.args) (hxr : ArgsAt w b x.r.args) (hyl : ArgsAt w c y.l.args) (hyr : ArgsAt w d y.r.args) :
    Calls Tryz.prog 45 #[lval x a b, lval y c d] w fun e w' => e = .returned (.bool (lsame x y)) ∧ Below w.heap.size w w' := by
  have hS0 := TwoL.new hxl hxr hyl hyr
  have hLL : Serves (TwoL w x a b y c d) 54 #[tval x.l a, tval y.l c] (.bool (same x.l y.l)) := TwoL.serves fun X hX => rsame_any x.l y.l _ _ X hX.lx.al hX.ly.al
  have hRR : Serves (TwoL w x a b y c d) 54 #[tval x.r b, tval y.r d] (.bool (same x.r y.r)) := TwoL.serves fun X hX => rsame_any x.r y.r _ _ X hX.lx.ar hX.ly.ar
  have hLR : Serves (TwoL w x a b y c d) 54 #[tval x.l a, tval y.r d] (.bool (same x.l y.r)) := TwoL.serves fun X hX => rsame_any x.l y.r _ _ X hX.lx.al hX.ly.ar
  have hRL : Serves (TwoL w x a b y c d) 54 #[tval x.r b, tval y.l c] (.bool (same x.r y.l)) := TwoL.serves fun X hX => rsame_any x.r y.l _ _ X hX.lx.ar hX.ly.al
  have hC := fun X (h : TwoL w x a b y c d X) => And.intro h.lx.zero h.ly.zero
  have hbl := fun X (h : TwoL w x a b y c d X) => h.bel
  obtain ⟨_, _, rfl, _⟩ := hxl.slice
  obtain ⟨_, _, rfl, _⟩ := hxr.slice
  obtain ⟨_, _, rfl, _⟩ := hyl.slice
  obtain ⟨_, _, rfl, _⟩ := hyr.slice
  generalize hS : TwoL w x _ _ y _ _ = S at *
  clear hS hxl hxr hyl hyr
  have HE : Hid (lsame x y = ((x.neg == y.neg) && (same x.l y.l && same x.r y.r || same x.l y.r && same x.r y.l))) := rfl
  generalize same x.l y.l = p at *
  generalize same x.r y.r = q at *
  generalize same x.l y.r = r at *
  generalize same x.r y.l = s at *
  obtain ⟨⟨a0, a1, a2, a3, a4, a5, a6⟩, b0, b1, b2, b3, b4, b5, b6⟩ := hC _ hS0
  obtain ⟨n1, xl, xr⟩ := x
  obtain ⟨n2, yl, yr⟩ := y
  simp only at *
  by_cases hn : n1 = n2
  · subst hn
    have hb : (n1 != n1) = false := by simp
    have HF : Hid (lsame ⟨n1, xl, xr⟩ ⟨n1, yl, yr⟩ = (p && q || r && s)) := by show _ = _; rw [HE.out]; simp
    clear HE
    cases p with
    | true =>
      cases q with
      | true =>
        go_enter Tryz.func45, Tryz.ntmps45
        go_wp2_with fail
        refine (hLL _ hS0).mono ?_
        rintro e W1 ⟨rfl, H1⟩
        obtain ⟨⟨a10, a11, a12, a13, a14, a15, a16⟩, b10, b11, b12, b13, b14, b15, b16⟩ := hC _ H1
        go_wp2_with fail
        refine (hRR _ H1).mono ?_
        rintro e W2 ⟨rfl, H2⟩
        go_wp2
        go_ret
        exact ⟨ret_bool (by rw [HF.out]; simp), hbl _ H2⟩
      | false =>
        cases r with
        | false =>
          go_enter Tryz.func45, Tryz.ntmps45
          go_wp2_with fail
          refine (hLL _ hS0).mono ?_
          rintro e W1 ⟨rfl, H1⟩
          obtain ⟨⟨a10, a11, a12, a13, a14, a15, a16⟩, b10, b11, b12, b13, b14, b15, b16⟩ := hC _ H1
          go_wp2_with fail
          refine (hRR _ H1).mono ?_
          rintro e W2 ⟨rfl, H2⟩
          obtain ⟨⟨a20, a21, a22, a23, a24, a25, a26⟩, b20, b21, b22, b23, b24, b25, b26⟩ := hC _ H2
          go_wp2_with fail
          refine (hLR _ H2).mono ?_
          rintro e W3 ⟨rfl, H3⟩
          go_wp2
          go_ret
          exact ⟨ret_bool (by rw [HF.out]; simp), hbl _ H3⟩
        | true =>
          go_enter Tryz.func45, Tryz.ntmps45
          go_wp2_with fail
          refine (hLL _ hS0).mono ?_
          rintro e W1 ⟨rfl, H1⟩
          obtain ⟨⟨a10, a11, a12, a13, a14, a15, a16⟩, b10, b11, b12, b13, b14, b15, b16⟩ := hC _ H1
          go_wp2_with fail
          refine (hRR _ H1).mono ?_
          rintro e W2 ⟨rfl, H2⟩
          obtain ⟨⟨a20, a21, a22, a23, a24, a25, a26⟩, b20, b21, b22, b23, b24, b25, b26⟩ := hC _ H2
          go_wp2_with fail
          refine (hLR _ H2).mono ?_
          rintro e W3 ⟨rfl, H3⟩
          obtain ⟨⟨a30, a31, a32, a33, a34, a35, a36⟩, b30, b31, b32, b33, b34, b35, b36⟩ := hC _ H3
          go_wp2_with fail
          refine (hRL _ H3).mono ?_
          rintro e W4 ⟨rfl, H4⟩
          go_wp2
          go_ret
          exact ⟨ret_bool (by rw [HF.out]; simp), hbl _ H4⟩
    | false =>
      cases r with
      | false =>
        go_enter Tryz.func45, Tryz.ntmps45
        go_wp2_with fail
        refine (hLL _ hS0).mono ?_
        rintro e W1 ⟨rfl, H1⟩
        obtain ⟨⟨a10, a11, a12, a13, a14, a15, a16⟩, b10, b11, b12, b13, b14, b15, b16⟩ := hC _ H1
        go_wp2_with fail
        refine (hLR _ H1).mono ?_
        rintro e W3 ⟨rfl, H3⟩
        go_wp2
        go_ret
        exact ⟨ret_bool (by rw [HF.out]; simp), hbl _ H3⟩
      | true =>
        go_enter Tryz.func45, Tryz.ntmps45
        go_wp2_with fail
        refine (hLL _ hS0).mono ?_
        rintro e W1 ⟨rfl, H1⟩
        obtain ⟨⟨a10, a11, a12, a13, a14, a15, a16⟩, b10, b11, b12, b13, b14, b15, b16⟩ := hC _ H1
        go_wp2_with fail
        refine (hLR _ H1).mono ?_
        rintro e W3 ⟨rfl, H3⟩
        obtain ⟨⟨a30, a31, a32, a33, a34, a35, a36⟩, b30, b31, b32, b33, b34, b35, b36⟩ := hC _ H3
        go_wp2_with fail
        refine (hRL _ H3).mono ?_
        rintro e W4 ⟨rfl, H4⟩
        go_wp2
        go_ret
        exact ⟨ret_bool (by rw [HF.out]; simp), hbl _ H4⟩
  · have hb : (n1 != n2) = true := by rw [bne_iff_ne]; exact hn
    have HF : Hid (lsame ⟨n1, xl, xr⟩ ⟨n2, yl, yr⟩ = false) := by
      show _ = _
      rw [HE.out]
      have : (n1 == n2) = false := by simpa using hn
      rw [this]
      rfl
    clear HE hn
    cases n1 <;> cases n2 <;> first | exact absurd hb (by decide) | (
      go_enter Tryz.func45, Tryz.ntmps45
      go_wp2
      go_ret
      exact ⟨ret_bool HF.out.symm, hbl _ hS0⟩)

end Go.Proofs.YtglphfhlpobgcaaGreat

/-
  A clause with a literal more: mathematics; append of a list that is read.
-/
namespace Go.Proofs.YtglphfhlpobgcaaGreat
open Go.RowKit Go.Maps

theorem right_less {c : List Lt} {l : Lt} (h : crightW (c ++ [l]) = 0) (hs : csize (c ++ [l]) ≤ 1048576) : crightW c = 0 := by
  have hle : csize c ≤ csize (c ++ [l]) ∧ 0 ≤ csize c := by
    have hp : ∀ d : List Lt, 0 ≤ csize d := fun d => by
      induction d with
      | nil => simp [csize]
      | cons a t ih => have := size_pos a.l; have := size_pos a.r; simp only [csize, List.map_cons, List.sum_cons] at ih ⊢; omega
    refine ⟨?_, hp c⟩
    have e : csize (c ++ [l]) = csize c + csize [l] := by simp [csize]
    have := hp [l]
    omega
  have hl := right_len h
  have hlen : c.length ≤ 60 := by simp at hl; omega
  unfold crightW at h ⊢
  rw [if_neg (by simp; simp at hl; omega)] at h
  rw [if_neg (by omega)]
  by_cases h1 : lfe (sidesOf (c ++ [l])) ≠ 0
  · rw [if_pos h1] at h; exact absurd h h1
  · rw [if_neg h1] at h
    have h2 : lfe (sidesOf c) = 0 := by
      refine lfe_zero.2 fun t ht => lfe_zero.1 (Classical.not_not.1 h1) t ?_
      simp only [sidesOf, List.flatMap_append]
      exact List.mem_append_left _ ht
    rw [if_neg (by simpa using h2)]
    by_cases h3 : 4000 < wrap64 (csize (c ++ [l]))
    · rw [if_pos h3] at h; omega
    · rw [wrap_small (by omega) (by omega)] at h3
      rw [if_neg (by rw [wrap_small (by omega) (by omega)]; omega)]
theorem more_gr (o : Od) (c : List Lt) (l : Lt) : ccm o (c ++ [l]) c = 1 := by
  unfold ccm
  rw [mcmp_gr, List.map_append]
  exact mgr_more _ _
/-- A clause that may be has a literal that is maximal. -/
theorem has_max {o : Od} {d : List Lt} (hg : o.g.Ok) (hr : crightW d = 0) (h0 : 0 < d.length) : ∃ n : Nat, n < d.length ∧ unbB o d n [1] = true := by
  obtain ⟨x, hx, _, ht⟩ := has_top (gL o) (gL_irr o) (gL_tr o) (d.map kap) (fun _ => True) ⟨kap d[0], List.mem_map.2 ⟨d[0], List.getElem_mem h0, rfl⟩, trivial⟩
  obtain ⟨y, hy, rfl⟩ := List.mem_map.1 hx
  obtain ⟨n, hn, rfl⟩ := List.getElem_of_mem hy
  refine ⟨n, hn, unbB_yes ⟨⟨hg, hr⟩, n, hn, rfl, fun k hk _ hm => ?_⟩⟩
  have e : lcm o d[k] d[n] = 1 := by simpa using hm
  exact ht _ (List.mem_map.2 ⟨d[k], List.getElem_mem hk, rfl⟩) trivial (gL_iff.2 e)

set_option maxRecDepth 100000 in
/-- 'append' of a list that is read, as one step of a region that draws its order. -/
theorem step_append_rdL (w : World) {ops : Array Oper} {o : Oper} {a : Act} {K : Act → World → Prop} {Q : Exit → Act → World → Prop} {X : Prop} (hgd : o.guard = none) (s x : Operand)
    (ho : o.op = .call { callee := .builtin .append, args := #[s, x], argTypes := #[35, 35] })
    (w0 : World) (base : Nat) (v : Value) (n : Nat) (xs : List Value) (hs : a.eval s = v) (hown : w.ownsRow base 32 7 v n xs)
    (vs : Value) (qs : List (Lt × Value × Value)) (hx : a.eval x = vs) (hr : RdL w0 w vs qs) (h63 : n + qs.length ≤ 2000000) (hbase : base ≤ w.heap.size)
    (h : ∀ v' w', w'.ownsRow base 32 7 v' (n + qs.length) (xs ++ flL qs) → w.grownBy w' v.ownBlock → (v'.ownBlock = v.ownBlock ∨ v'.ownBlock = some w.heap.size) → K (a.put o.dst v') w') :
    if Region.wanted o (yielded ops a.tmps) = true then Oper.wp Tryz.prog o a w K Q else X := by
  obtain ⟨i0, hi0, hz0, hz1, hz2⟩ := info_parts Tryz.info32q
  obtain ⟨sa, sc, rfl, _, _⟩ := hr.slice
  cases sa with
  | none =>
    have e0 : qs = [] := by
      cases qs with
      | nil => rfl
      | cons p r =>
        obtain ⟨b, oo, e, _⟩ := hr.nth (i := 0) (by simp)
        cases e
    subst e0
    rw [if_pos (by simp [Region.wanted, hgd])]
    have hr := run_append_owned_none (P := Tryz.prog) w base 35 o.type 32 i0 7 Tryz.underlying35 hi0 v n xs hown
    unfold Oper.wp execOp
    have e : ((Builtin.append_ #[35, 35] o.type #[v, .slice none ([] : List (Lt × Value × Value)).length sc]).run Tryz.prog w) = .ok v w := hr
    simp only [ho, resolve, invoke, builtin, Sem.run_bind, Sem.run_pure, Result.andThen_ok, List.map_toArray, List.map_cons, List.map_nil, hs, hx, e]
    exact h v w (by simpa [flL] using hown) ⟨rfl, rfl, rfl, Nat.le_refl _, fun _ _ _ => rfl⟩ (.inl rfl)
  | some ad =>
    have hcells : ∀ j u, (flL qs)[j]? = some u → w.cell? (ad.add j) = some u := fun j u hj => by
      cases qs with
      | nil => simp [flL] at hj
      | cons p r =>
        obtain ⟨b, oo, e, _⟩ := hr.nth (i := 0) (by simp)
        injection e with e
        subst e
        rw [Addr.add_mid]
        exact hr.cells j u hj
    exact step_append_own w hgd s x 35 ho base 32 i0 _ 7 104 Tryz.underlying35 hi0 hz0 hz1 hz2 rfl (by decide) v n xs hs hown ad qs.length sc (flL qs) hx (flL_len qs) hcells (onesL hr.ok) (by unfold maxLen; omega) (by omega) hbase h

end Go.Proofs.YtglphfhlpobgcaaGreat

/-
  MultiMore's walk.
-/
namespace Go.Proofs.YtglphfhlpobgcaaGreat
open Go.RowKit Go.Maps

theorem clause_of_rdL {w0 W : World} {v : Value} {qs : List (Lt × Value × Value)} (h : RdL w0 W v qs) (hb : Below w0.heap.size w0 W) : OkC W (qs.map (·.1), v) := by
  refine ⟨?_, fun x hx => ?_⟩
  · obtain ⟨a, c, e, h1, h2⟩ := h.slice
    subst e
    refine ⟨a, c, by simp, by simpa using h1, h2, fun h0 => ?_⟩
    have h0' : 0 < qs.length := by simpa using h0
    obtain ⟨b, o, e, hl, _⟩ := h.nth h0'
    refine ⟨b, o, e, fun i hi => ?_⟩
    have hi' : i < qs.length := by simpa using hi
    obtain ⟨b', o', e', hl', hc, hok⟩ := h.nth hi'
    obtain ⟨rfl, rfl⟩ : b = b' ∧ o = o' := by rw [e] at e'; injection e' with e1; injection e1 with e1 e2; exact ⟨e1, e2⟩
    simp only [List.getElem_map]
    obtain ⟨c0, c1, c2, c3, c4, c5, c6⟩ := hc
    exact ⟨qs[i].2.1, qs[i].2.2, hl', c0, c1, c2, c3, c4, c5, c6, ArgsAt.keep hb (Nat.le_refl _) hok.1.1, ArgsAt.keep hb (Nat.le_refl _) hok.1.2⟩
  · obtain ⟨p, hp, rfl⟩ := List.mem_map.1 hx
    exact (h.ok p hp).2
theorem grow_below {n0 : Nat} {Wd X X' : World} {v : Value} (hn : Wd.heap.size = n0) (h : Below n0 Wd X) (hg : X.grownBy X' v.ownBlock) (hv : ∀ g, v.ownBlock = some g → n0 ≤ g) : Below n0 Wd X' := by
  have o : Only v.ownBlock.toList X X' := Only.of_grown hg (fun r e => by simp [e])
  exact h.trans (o.below (by have := h.size; omega) (fun r hr => hv r (by simpa using hr)))

set_option maxRecDepth 100000 in
set_option maxHeartbeats 16000000 in
theorem more_any (o : Od) (vn vw : Value) (c : List Lt) (vc : Value) (l : Lt) (sl sr : Value) (w : World) (hg : SgAt w o.g vn vw) (hc : OkC w (c, vc)) (hl : OkL w (l, sl, sr)) (hs : csize (c ++ [l]) ≤ 1048576) (hn : c.length ≤ 1048576) :
    Calls Tryz.prog 7 #[oval o vn vw, vc, lval l sl sr] w fun e w' => e = .returned (.bool true) ∧ Below w.heap.size w w' := by
  have ho := odAt_of hg
  obtain ⟨i0, hi0, hz0, hz1, hz2⟩ := info_parts Tryz.info32q
  obtain ⟨W1, h1⟩ : ∃ X, w.alloc (.cells #[.bool o.path, vn, vw] 27) = X := ⟨_, rfl⟩
  obtain ⟨W2, h2⟩ : ∃ X, W1.alloc (lbox l sl sr) = X := ⟨_, rfl⟩
  have b1 : Below w.heap.size w W1 := by rw [← h1]; exact below_box _ _
  have b2 : Below W1.heap.size W1 W2 := by rw [← h2]; exact below_box _ _
  have s1 : W1.heap.size = w.heap.size + 1 := by rw [← h1]; simp
  have s2 : W2.heap.size = w.heap.size + 2 := by rw [← h2]; simp [s1]
  obtain ⟨o0, o1, o2⟩ := obox_cells w (.bool o.path) vn vw 27
  rw [h1] at o0 o1 o2
  have cl := bxL_cells W1 (l, sl, sr)
  simp only at cl
  rw [h2, s1] at cl
  obtain ⟨Wd, hWd⟩ : ∃ X, W2.drew = X := ⟨_, rfl⟩
  have hd : Below W2.heap.size W2 Wd := by rw [← hWd]; exact (Below.refl _ W2).drew
  obtain ⟨n0, hn0⟩ : ∃ n, Wd.heap.size = n := ⟨_, rfl⟩
  have hsd : Wd.heap.size = W2.heap.size := by rw [← hWd]; rfl
  have hB0 : Below n0 W2.drew W2.drew := Below.refl _ _
  have HN : Hid (Wd.heap.size = n0) := hn0
  have b02 : Below w.heap.size w W2 := b1.trans (b2.mono b1.size)
  have HD : Hid (∀ Z, Below n0 Wd Z → Below w.heap.size w Z ∧ Below W2.heap.size W2 Z ∧ Below W1.heap.size W1 Z) := fun Z hZ => by
    have e : Below W2.heap.size W2 Z := hd.trans (hZ.mono (by omega))
    exact ⟨b02.trans (e.mono b02.size), e, b2.trans (e.mono b2.size)⟩
  obtain ⟨qs, eq, rq⟩ : ∃ qs : List (Lt × Value × Value), qs.map (·.1) = c ∧ RdL w w vc qs := rdL_of_clause hc.1 hc.2
  have hql : qs.length = c.length := by rw [← eq, List.length_map]
  have HRD : Hid (∀ Z, Below n0 Wd Z → RdL w Z vc qs) := fun Z hZ => rq.keep (HD.out Z hZ).1
  have ql : ∀ Z, Below n0 Wd Z → CsL Z (w.heap.size + 1) 0 (l, sl, sr) := fun Z hZ => cl.keep (HD.out Z hZ).2.1 (by omega)
  have HO : Hid (∀ Z, Below n0 Wd Z → Z.cell? ⟨w.heap.size, 0, none⟩ = some (.bool o.path) ∧ Z.cell? ⟨w.heap.size, 1, none⟩ = some vn ∧ Z.cell? ⟨w.heap.size, 2, none⟩ = some vw) := fun Z hZ => ⟨kc (HD.out Z hZ).2.2 (by omega) o0, kc (HD.out Z hZ).2.2 (by omega) o1, kc (HD.out Z hZ).2.2 (by omega) o2⟩
  have HAl : Hid (∀ Z, Below w.heap.size w Z → Calls Tryz.prog 9 #[] Z fun e Z' => e = .returned (.bool true) ∧ Below w.heap.size w Z') := fun Z hZ => (alive9_any Z).mono fun e Z' ⟨h1, h2⟩ => ⟨h1, hZ.trans (h2.mono hZ.size)⟩
  have HOw : Hid (∀ Z, Below w.heap.size w Z → Calls Tryz.prog 10 #[oval o vn vw] Z fun e Z' => e = .returned (oval o vn vw) ∧ Below Z.heap.size Z Z') := fun Z _ => own9_any o vn vw ho.vn ho.vw Z
  have HGr : Hid (∀ Z, Below w.heap.size w Z → Calls Tryz.prog 22 #[gval vn vw] Z fun e Z' => e = .returned (.bool o.g.ok) ∧ Below Z.heap.size Z Z') := fun Z hZ => rgright_any o.g vn vw Z (hg.keep hZ (Nat.le_refl _))
  have HMx : Hid (∀ (Z0 Z : World) (d : List Lt) (vd : Value) (i : Int), Below w.heap.size w Z0 → OkC Z0 (d, vd) → Below Z0.heap.size Z0 Z → (Calls Tryz.prog 17 #[oval o vn vw, vd, .int .i64 i] Z fun e Z' => e = .returned (.bool (unbB o d i [1])) ∧ Below Z.heap.size Z Z') ∧ Calls Tryz.prog 15 #[oval o vn vw, vd, vc] Z fun e Z' => e = .returned (.int .i64 (clsR o d c)) ∧ Below Z.heap.size Z Z') := fun Z0 Z d vd i hZ0 hd hZ => by
    have ho' : OdAt Z0 o vn vw := odAt_of (hg.keep hZ0 (Nat.le_refl _))
    exact ⟨maximal_any Z0 o vn vw ho' d vd hd i Z hZ, oclauses_any Z0 o vn vw ho' d c vd vc hd (hc.keep hZ0) Z hZ⟩
  have HON : Hid (∀ u ∈ flL [(l, sl, sr)], u.oneCell' = true) := onesL (w0 := w) (fun p hp => by
    have e : p = (l, sl, sr) := by simpa using hp
    rw [e]; exact hl)
  have HQL : Hid (qs.length = c.length) := hql
  have HQB : Hid (qs.length ≤ 1048576) := by show _ ≤ _; omega
  have HEQ : Hid (qs.map (·.1) = c ∧ (∀ p ∈ qs, OkL w p) ∧ OkL w (l, sl, sr) ∧ csize (c ++ [l]) ≤ 1048576 ∧ Below w.heap.size w W2) := ⟨eq, rq.ok, hl, hs, b02⟩
  have hll := hl
  simp only [OkL] at hll
  simp only [OkC] at hc
  obtain ⟨an, nn, cn, rfl⟩ := ho.vn
  obtain ⟨aw, nw, cw, rfl⟩ := ho.vw
  obtain ⟨ca, cc, rfl⟩ := hc.1.slice
  obtain ⟨l1, l2, rfl, _, _⟩ := hll.1.1.slice
  obtain ⟨l3, l4, rfl, _, _⟩ := hll.1.2.slice
  simp only [CsL, Nat.zero_add] at ql
  clear ho hg hc hl hs hn b1 b2 s2 o0 o1 o2 cl hd hn0 hsd b02 eq rq hql hll
  go_enter Tryz.func7, Tryz.ntmps7
  try rw [h1]
  try rw [h2]
  try rw [s1]
  go_wp2
  try rw [h1]
  try rw [h2]
  try rw [s1]
  refine wp_region_held_drew (S := fun Z => Below n0 W2.drew Z) (by kernel_rfl) hB0 (fun hHeld => ?_)
  rw [hWd] at hHeld ⊢
  refine take_mk 1 (.slice ca c.length cc) rfl (by kernel_rfl) (by kernel_rfl) (by kernel_rfl) (fun _ _ _ h => h) (Or.inl ⟨by rfl, fun Z hZ => by go_simp⟩) (by assumption) ?_
  try simp only [Act.put, List.setIfInBounds_toArray, List.set_cons_zero, List.set_cons_succ]
  refine take_mk 3 (lval l (.slice l1 l.l.args.length l2) (.slice l3 l.r.args.length l4)) rfl (by kernel_rfl) (by kernel_rfl) (by kernel_rfl) (fun _ _ _ h => h) (Or.inl ⟨by rfl, fun Z hZ => by obtain ⟨y0, y1, y2, y3, y4, y5, y6⟩ := ql Z hZ; go_simp⟩) (by assumption) ?_
  try simp only [Act.put, List.setIfInBounds_toArray, List.set_cons_zero, List.set_cons_succ]
  have BWd : Below n0 Wd Wd := hHeld
  refine wpAnyH_ready (rs := [0, 4]) (by kernel_rfl) (by simp) (AllReadyH.cons (o := ⟨_, _, _, _, _, _⟩) rfl (fun K hK => ?aa) (AllReadyH.cons (o := ⟨_, _, _, _, _, _⟩) rfl (fun K hK => ?bb) AllReadyH.nil))
  case' aa =>
    rw [if_pos (by rfl)]
    go_simp
    obtain ⟨P1, eP1⟩ : ∃ Z, Wd.alloc (.cells #[] 32) = Z := ⟨_, rfl⟩
    have bP1 : Below Wd.heap.size Wd P1 := by rw [← eP1]; exact below_box _ _
    have BP1 : Below n0 Wd P1 := BWd.trans (bP1.mono (by have := BWd.size; have := HN.out; omega))
    obtain ⟨g0, hg0⟩ : ∃ n, Wd.heap.size = n := ⟨_, rfl⟩
    have hr0 : P1.ownsRow n0 32 7 (.slice (some ⟨g0, 0, none⟩) 0 0) 0 [] := by
      rw [← eP1, ← hg0]
      exact ⟨rfl, .inr ⟨Wd.heap.size, 0, #[], rfl, by have := BWd.size; have := HN.out; omega, (MapKept.heap_alloc _ _).1, Nat.le_refl _, Nat.zero_le _, rfl, rfl⟩⟩
    refine hK.out _ _ (by rw [eP1]; exact BP1) (fun _ => ?_)
    rw [eP1, hg0]
    clear hK K
    try simp only [Act.put, List.setIfInBounds_toArray, List.set_cons_zero, List.set_cons_succ]
    refine wpAnyH_ready (rs := [2, 4]) (by kernel_rfl) (by simp) (AllReadyH.cons (o := ⟨_, _, _, _, _, _⟩) rfl (fun K hK => ?ab) (AllReadyH.cons (o := ⟨_, _, _, _, _, _⟩) rfl (fun K hK => ?ac) AllReadyH.nil))
  case' ab =>
    refine step_append_rdL P1 rfl (.tmp 11) (.tmp 12) rfl w n0 (.slice (some ⟨g0, 0, none⟩) 0 0) 0 [] rfl (hr0) (.slice ca c.length cc) qs (by rw [← HQL.out]; rfl) (HRD.out P1 BP1) (by have := HQB.out; omega) (by have := BP1.size; have := HN.out; omega) ?_
    intro v2 P2 hr2 hgr2 hat2
    rw [Nat.zero_add, List.nil_append] at hr2
    obtain ⟨a2, c2, rfl⟩ := row_slice hr2
    have BP2 : Below n0 Wd P2 := grow_below HN.out BP1 hgr2 (fun g e => (row_block (hr0) e).1)
    refine hK.out _ _ BP2 (fun _ => ?_)
    clear hK K
    try simp only [Act.put, List.setIfInBounds_toArray, List.set_cons_zero, List.set_cons_succ]
    refine wpAnyH_ready (rs := [4]) (by kernel_rfl) (by simp) (AllReadyH.cons (o := ⟨_, _, _, _, _, _⟩) rfl (fun K hK => ?_) AllReadyH.nil)
    rw [if_pos (by rfl)]
    go_simp
    obtain ⟨P3, eP3⟩ : ∃ Z, P2.alloc (.cells #[.bool l.neg, .int .i64 l.l.v, .string l.l.fn, .slice l1 l.l.args.length l2, .int .i64 l.r.v, .string l.r.fn, .slice l3 l.r.args.length l4] 32) = Z := ⟨_, rfl⟩
    have bP3 : Below P2.heap.size P2 P3 := by rw [← eP3]; exact below_box _ _
    have BP3 : Below n0 Wd P3 := BP2.trans (bP3.mono (by have := BP2.size; have := HN.out; omega))
    obtain ⟨g4, hg4⟩ : ∃ n, P2.heap.size = n := ⟨_, rfl⟩
    have h4 : P3.heap[g4]? = some (.cells #[.bool l.neg, .int .i64 l.l.v, .string l.l.fn, .slice l1 l.l.args.length l2, .int .i64 l.r.v, .string l.r.fn, .slice l3 l.r.args.length l4] 32 (0, 0)) := by rw [← eP3, ← hg4]; exact (MapKept.heap_alloc _ _).1
    refine hK.out _ _ (by rw [eP3]; exact BP3) (fun _ => ?_)
    rw [eP3, hg4]
    clear hK K
    try simp only [Act.put, List.setIfInBounds_toArray, List.set_cons_zero, List.set_cons_succ]
    refine wpAnyH_ready (rs := [5]) (by kernel_rfl) (by simp) (AllReadyH.cons (o := ⟨_, _, _, _, _, _⟩) rfl (fun K hK => ?_) AllReadyH.nil)
    refine step_append_own P3 rfl (.tmp 13) (.tmp 15) 35 rfl n0 32 i0 _ 7 104 Tryz.underlying35 hi0 hz0 hz1 hz2 rfl (by decide) (.slice a2 qs.length c2) qs.length (flL qs) rfl (rowL_keep hr2 (fun r hr => by
        obtain ⟨_, cq, hcq⟩ := row_block hr2 hr
        exact bP3.block r (Array.getElem?_eq_some_iff.1 hcq).1)) ⟨g4, 0, none⟩ 1 1 (flL [(l, .slice l1 l.l.args.length l2, .slice l3 l.r.args.length l4)]) rfl (by rw [flL_len]; simp) (fun j u hj => by { rw [Addr.add_mid, Nat.zero_add, cell_of_row _ _ _ _ 32 (0, 0) (h4)]; rw [flL_one] at hj; simpa using hj }) HON.out (by have := HQB.out; unfold maxLen; omega) (by have := HQB.out; omega) (by have := BP3.size; have := HN.out; omega) ?_
    intro v5 P4 hr5 hgr5 hat5
    obtain ⟨a5, c5, rfl⟩ := row_slice hr5
    have BP4 : Below n0 Wd P4 := grow_below HN.out BP3 hgr5 (fun g e => (row_block (rowL_keep hr2 (fun r hr => by
        obtain ⟨_, cq, hcq⟩ := row_block hr2 hr
        exact bP3.block r (Array.getElem?_eq_some_iff.1 hcq).1)) e).1)
    refine hK.out _ _ BP4 (fun _ => ?_)
    clear hK K
    try simp only [Act.put, List.setIfInBounds_toArray, List.set_cons_zero, List.set_cons_succ]
    refine take_mk 6 (.slice a5 (qs.length + 1) c5) rfl (by kernel_rfl) (by kernel_rfl) (by kernel_rfl) (fun _ _ _ h => h) (Or.inl ⟨by rfl, fun Z hZ => by go_simp⟩) (by assumption) ?_
    try simp only [Act.put, List.setIfInBounds_toArray, List.set_cons_zero, List.set_cons_succ]
    refine wpAnyH_done (by kernel_rfl) ?_ _
    try simp only [Act.put]
    have HF : Hid (P4.ownsRow n0 32 7 (.slice a5 (qs.length + 1) c5) (qs.length + 1) (flL qs ++ flL [(l, .slice l1 l.l.args.length l2, .slice l3 l.r.args.length l4)]) ∧ Below n0 Wd P4) := ⟨hr5, BP4⟩
    obtain ⟨W3, hW3⟩ : ∃ Z, P4 = Z := ⟨_, rfl⟩
    rw [hW3] at HF ⊢
  case' ac =>
    rw [if_pos (by rfl)]
    go_simp
    obtain ⟨P2, eP2⟩ : ∃ Z, P1.alloc (.cells #[.bool l.neg, .int .i64 l.l.v, .string l.l.fn, .slice l1 l.l.args.length l2, .int .i64 l.r.v, .string l.r.fn, .slice l3 l.r.args.length l4] 32) = Z := ⟨_, rfl⟩
    have bP2 : Below P1.heap.size P1 P2 := by rw [← eP2]; exact below_box _ _
    have BP2 : Below n0 Wd P2 := BP1.trans (bP2.mono (by have := BP1.size; have := HN.out; omega))
    obtain ⟨g4, hg4⟩ : ∃ n, P1.heap.size = n := ⟨_, rfl⟩
    have h4 : P2.heap[g4]? = some (.cells #[.bool l.neg, .int .i64 l.l.v, .string l.l.fn, .slice l1 l.l.args.length l2, .int .i64 l.r.v, .string l.r.fn, .slice l3 l.r.args.length l4] 32 (0, 0)) := by rw [← eP2, ← hg4]; exact (MapKept.heap_alloc _ _).1
    refine hK.out _ _ (by rw [eP2]; exact BP2) (fun _ => ?_)
    rw [eP2, hg4]
    clear hK K
    try simp only [Act.put, List.setIfInBounds_toArray, List.set_cons_zero, List.set_cons_succ]
    refine wpAnyH_ready (rs := [2]) (by kernel_rfl) (by simp) (AllReadyH.cons (o := ⟨_, _, _, _, _, _⟩) rfl (fun K hK => ?_) AllReadyH.nil)
    refine step_append_rdL P2 rfl (.tmp 11) (.tmp 12) rfl w n0 (.slice (some ⟨g0, 0, none⟩) 0 0) 0 [] rfl (rowL_keep hr0 (fun r hr => by
        obtain ⟨_, cq, hcq⟩ := row_block hr0 hr
        exact bP2.block r (Array.getElem?_eq_some_iff.1 hcq).1)) (.slice ca c.length cc) qs (by rw [← HQL.out]; rfl) (HRD.out P2 BP2) (by have := HQB.out; omega) (by have := BP2.size; have := HN.out; omega) ?_
    intro v2 P3 hr2 hgr2 hat2
    rw [Nat.zero_add, List.nil_append] at hr2
    obtain ⟨a2, c2, rfl⟩ := row_slice hr2
    have BP3 : Below n0 Wd P3 := grow_below HN.out BP2 hgr2 (fun g e => (row_block (rowL_keep hr0 (fun r hr => by
        obtain ⟨_, cq, hcq⟩ := row_block hr0 hr
        exact bP2.block r (Array.getElem?_eq_some_iff.1 hcq).1)) e).1)
    refine hK.out _ _ BP3 (fun _ => ?_)
    clear hK K
    try simp only [Act.put, List.setIfInBounds_toArray, List.set_cons_zero, List.set_cons_succ]
    refine wpAnyH_ready (rs := [5]) (by kernel_rfl) (by simp) (AllReadyH.cons (o := ⟨_, _, _, _, _, _⟩) rfl (fun K hK => ?_) AllReadyH.nil)
    have hne : g4 ≠ g0 := by
      have : P1.heap.size = g0 + 1 := by rw [← eP1, ← hg0]; simp
      omega
    have h4' : P3.heap[g4]? = some (.cells #[.bool l.neg, .int .i64 l.l.v, .string l.l.fn, .slice l1 l.l.args.length l2, .int .i64 l.r.v, .string l.r.fn, .slice l3 l.r.args.length l4] 32 (0, 0)) := (hgr2.block g4 (Array.getElem?_eq_some_iff.1 h4).1 (by simpa [Value.ownBlock] using hne)).trans h4
    refine step_append_own P3 rfl (.tmp 13) (.tmp 15) 35 rfl n0 32 i0 _ 7 104 Tryz.underlying35 hi0 hz0 hz1 hz2 rfl (by decide) (.slice a2 qs.length c2) qs.length (flL qs) rfl (hr2) ⟨g4, 0, none⟩ 1 1 (flL [(l, .slice l1 l.l.args.length l2, .slice l3 l.r.args.length l4)]) rfl (by rw [flL_len]; simp) (fun j u hj => by { rw [Addr.add_mid, Nat.zero_add, cell_of_row _ _ _ _ 32 (0, 0) h4']; rw [flL_one] at hj; simpa using hj }) HON.out (by have := HQB.out; unfold maxLen; omega) (by have := HQB.out; omega) (by have := BP3.size; have := HN.out; omega) ?_
    intro v5 P4 hr5 hgr5 hat5
    obtain ⟨a5, c5, rfl⟩ := row_slice hr5
    have BP4 : Below n0 Wd P4 := grow_below HN.out BP3 hgr5 (fun g e => (row_block (hr2) e).1)
    refine hK.out _ _ BP4 (fun _ => ?_)
    clear hK K
    try simp only [Act.put, List.setIfInBounds_toArray, List.set_cons_zero, List.set_cons_succ]
    refine take_mk 6 (.slice a5 (qs.length + 1) c5) rfl (by kernel_rfl) (by kernel_rfl) (by kernel_rfl) (fun _ _ _ h => h) (Or.inl ⟨by rfl, fun Z hZ => by go_simp⟩) (by assumption) ?_
    try simp only [Act.put, List.setIfInBounds_toArray, List.set_cons_zero, List.set_cons_succ]
    refine wpAnyH_done (by kernel_rfl) ?_ _
    try simp only [Act.put]
    have HF : Hid (P4.ownsRow n0 32 7 (.slice a5 (qs.length + 1) c5) (qs.length + 1) (flL qs ++ flL [(l, .slice l1 l.l.args.length l2, .slice l3 l.r.args.length l4)]) ∧ Below n0 Wd P4) := ⟨hr5, BP4⟩
    obtain ⟨W3, hW3⟩ : ∃ Z, P4 = Z := ⟨_, rfl⟩
    rw [hW3] at HF ⊢
  case' bb =>
    rw [if_pos (by rfl)]
    go_simp
    obtain ⟨P1, eP1⟩ : ∃ Z, Wd.alloc (.cells #[.bool l.neg, .int .i64 l.l.v, .string l.l.fn, .slice l1 l.l.args.length l2, .int .i64 l.r.v, .string l.r.fn, .slice l3 l.r.args.length l4] 32) = Z := ⟨_, rfl⟩
    have bP1 : Below Wd.heap.size Wd P1 := by rw [← eP1]; exact below_box _ _
    have BP1 : Below n0 Wd P1 := BWd.trans (bP1.mono (by have := BWd.size; have := HN.out; omega))
    obtain ⟨g4, hg4⟩ : ∃ n, Wd.heap.size = n := ⟨_, rfl⟩
    have h4 : P1.heap[g4]? = some (.cells #[.bool l.neg, .int .i64 l.l.v, .string l.l.fn, .slice l1 l.l.args.length l2, .int .i64 l.r.v, .string l.r.fn, .slice l3 l.r.args.length l4] 32 (0, 0)) := by rw [← eP1, ← hg4]; exact (MapKept.heap_alloc _ _).1
    refine hK.out _ _ (by rw [eP1]; exact BP1) (fun _ => ?_)
    rw [eP1, hg4]
    clear hK K
    try simp only [Act.put, List.setIfInBounds_toArray, List.set_cons_zero, List.set_cons_succ]
    refine wpAnyH_ready (rs := [0]) (by kernel_rfl) (by simp) (AllReadyH.cons (o := ⟨_, _, _, _, _, _⟩) rfl (fun K hK => ?_) AllReadyH.nil)
    rw [if_pos (by rfl)]
    go_simp
    obtain ⟨P2, eP2⟩ : ∃ Z, P1.alloc (.cells #[] 32) = Z := ⟨_, rfl⟩
    have bP2 : Below P1.heap.size P1 P2 := by rw [← eP2]; exact below_box _ _
    have BP2 : Below n0 Wd P2 := BP1.trans (bP2.mono (by have := BP1.size; have := HN.out; omega))
    obtain ⟨g0, hg0⟩ : ∃ n, P1.heap.size = n := ⟨_, rfl⟩
    have hr0 : P2.ownsRow n0 32 7 (.slice (some ⟨g0, 0, none⟩) 0 0) 0 [] := by
      rw [← eP2, ← hg0]
      exact ⟨rfl, .inr ⟨P1.heap.size, 0, #[], rfl, by have := BP1.size; have := HN.out; omega, (MapKept.heap_alloc _ _).1, Nat.le_refl _, Nat.zero_le _, rfl, rfl⟩⟩
    refine hK.out _ _ (by rw [eP2]; exact BP2) (fun _ => ?_)
    rw [eP2, hg0]
    clear hK K
    try simp only [Act.put, List.setIfInBounds_toArray, List.set_cons_zero, List.set_cons_succ]
    refine wpAnyH_ready (rs := [2]) (by kernel_rfl) (by simp) (AllReadyH.cons (o := ⟨_, _, _, _, _, _⟩) rfl (fun K hK => ?_) AllReadyH.nil)
    refine step_append_rdL P2 rfl (.tmp 11) (.tmp 12) rfl w n0 (.slice (some ⟨g0, 0, none⟩) 0 0) 0 [] rfl (hr0) (.slice ca c.length cc) qs (by rw [← HQL.out]; rfl) (HRD.out P2 BP2) (by have := HQB.out; omega) (by have := BP2.size; have := HN.out; omega) ?_
    intro v2 P3 hr2 hgr2 hat2
    rw [Nat.zero_add, List.nil_append] at hr2
    obtain ⟨a2, c2, rfl⟩ := row_slice hr2
    have BP3 : Below n0 Wd P3 := grow_below HN.out BP2 hgr2 (fun g e => (row_block (hr0) e).1)
    refine hK.out _ _ BP3 (fun _ => ?_)
    clear hK K
    try simp only [Act.put, List.setIfInBounds_toArray, List.set_cons_zero, List.set_cons_succ]
    refine wpAnyH_ready (rs := [5]) (by kernel_rfl) (by simp) (AllReadyH.cons (o := ⟨_, _, _, _, _, _⟩) rfl (fun K hK => ?_) AllReadyH.nil)
    have hne : g4 ≠ g0 := by
      have : P1.heap.size = g4 + 1 := by rw [← eP1, ← hg4]; simp
      omega
    have h4' : P3.heap[g4]? = some (.cells #[.bool l.neg, .int .i64 l.l.v, .string l.l.fn, .slice l1 l.l.args.length l2, .int .i64 l.r.v, .string l.r.fn, .slice l3 l.r.args.length l4] 32 (0, 0)) := (hgr2.block g4 (by have := bP2.size; have := (Array.getElem?_eq_some_iff.1 h4).1; omega) (by simpa [Value.ownBlock] using hne)).trans ((bP2.block g4 (Array.getElem?_eq_some_iff.1 h4).1).trans h4)
    refine step_append_own P3 rfl (.tmp 13) (.tmp 15) 35 rfl n0 32 i0 _ 7 104 Tryz.underlying35 hi0 hz0 hz1 hz2 rfl (by decide) (.slice a2 qs.length c2) qs.length (flL qs) rfl (hr2) ⟨g4, 0, none⟩ 1 1 (flL [(l, .slice l1 l.l.args.length l2, .slice l3 l.r.args.length l4)]) rfl (by rw [flL_len]; simp) (fun j u hj => by { rw [Addr.add_mid, Nat.zero_add, cell_of_row _ _ _ _ 32 (0, 0) h4']; rw [flL_one] at hj; simpa using hj }) HON.out (by have := HQB.out; unfold maxLen; omega) (by have := HQB.out; omega) (by have := BP3.size; have := HN.out; omega) ?_
    intro v5 P4 hr5 hgr5 hat5
    obtain ⟨a5, c5, rfl⟩ := row_slice hr5
    have BP4 : Below n0 Wd P4 := grow_below HN.out BP3 hgr5 (fun g e => (row_block (hr2) e).1)
    refine hK.out _ _ BP4 (fun _ => ?_)
    clear hK K
    try simp only [Act.put, List.setIfInBounds_toArray, List.set_cons_zero, List.set_cons_succ]
    refine take_mk 6 (.slice a5 (qs.length + 1) c5) rfl (by kernel_rfl) (by kernel_rfl) (by kernel_rfl) (fun _ _ _ h => h) (Or.inl ⟨by rfl, fun Z hZ => by go_simp⟩) (by assumption) ?_
    try simp only [Act.put, List.setIfInBounds_toArray, List.set_cons_zero, List.set_cons_succ]
    refine wpAnyH_done (by kernel_rfl) ?_ _
    try simp only [Act.put]
    have HF : Hid (P4.ownsRow n0 32 7 (.slice a5 (qs.length + 1) c5) (qs.length + 1) (flL qs ++ flL [(l, .slice l1 l.l.args.length l2, .slice l3 l.r.args.length l4)]) ∧ Below n0 Wd P4) := ⟨hr5, BP4⟩
    obtain ⟨W3, hW3⟩ : ∃ Z, P4 = Z := ⟨_, rfl⟩
    rw [hW3] at HF ⊢
  all_goals (
    obtain ⟨d, hd⟩ : ∃ d, c ++ [l] = d := ⟨_, rfl⟩
    have b0 := (HD.out _ HF.out.2).1
    have hrd : RdL w W3 (.slice a5 (qs.length + 1) c5) (qs ++ [(l, .slice l1 l.l.args.length l2, .slice l3 l.r.args.length l4)]) := rdL_of_row (base := n0) (by rw [List.length_append, flL_app]; exact HF.out.1) (fun p hp => by
      rcases List.mem_append.1 hp with q | q
      · exact HEQ.out.2.1 p q
      · have e : p = (l, .slice l1 l.l.args.length l2, .slice l3 l.r.args.length l4) := by simpa using q
        rw [e]; exact HEQ.out.2.2.1)
    have hok : OkC W3 (d, .slice a5 (qs.length + 1) c5) := by
      have := clause_of_rdL hrd b0
      rw [List.map_append, HEQ.out.1] at this
      rw [← hd]
      exact this
    have hdl : d.length = qs.length + 1 := by rw [← hd, HQL.out]; simp
    obtain ⟨W4, h4⟩ : ∃ X, W3.alloc (.cells #[.slice a5 (qs.length + 1) c5] 35) = X := ⟨_, rfl⟩
    have b34 : Below W3.heap.size W3 W4 := by rw [← h4]; exact below_box _ _
    obtain ⟨n3, hn3⟩ : ∃ n, W3.heap.size = n := ⟨_, rfl⟩
    have hrow := rowC_built W3 [(d, .slice a5 (qs.length + 1) c5)] (by simp)
    rw [show (flC [(d, .slice a5 (qs.length + 1) c5)]).toArray = #[.slice a5 (qs.length + 1) c5] from rfl, h4, show [(d, Value.slice a5 (qs.length + 1) c5)].length = 1 from rfl, hn3] at hrow
    have hli := light_any W3 [(d, .slice a5 (qs.length + 1) c5)] _ W4 b34 (rdC_of_row (ps := [(d, .slice a5 (qs.length + 1) c5)]) hrow (by
      intro p hp
      have e : p = (d, .slice a5 (qs.length + 1) c5) := by simpa using hp
      rw [e]; exact hok))
    have HK : Hid (OkC W3 (d, .slice a5 (qs.length + 1) c5) ∧ Below w.heap.size w W3 ∧ Below W3.heap.size W3 W4 ∧ Below n0 Wd W3 ∧ c ++ [l] = d ∧ d.length = qs.length + 1) := ⟨hok, b0, b34, HF.out.2, hd, hdl⟩
    have HMd : Hid (∀ Z, Below W3.heap.size W3 Z → Below w.heap.size w Z ∧ Below n0 Wd Z ∧ (∀ i : Int, Calls Tryz.prog 17 #[oval o (.slice an nn cn) (.slice aw nw cw), .slice a5 (qs.length + 1) c5, .int .i64 i] Z fun e Z' => e = .returned (.bool (unbB o d i [1])) ∧ Below Z.heap.size Z Z') ∧ Calls Tryz.prog 15 #[oval o (.slice an nn cn) (.slice aw nw cw), .slice a5 (qs.length + 1) c5, .slice ca c.length cc] Z fun e Z' => e = .returned (.int .i64 (clsR o d c)) ∧ Below Z.heap.size Z Z') := fun Z hZ => ⟨HK.out.2.1.trans (hZ.mono HK.out.2.1.size), HK.out.2.2.2.1.trans (hZ.mono (by have := HK.out.2.2.2.1.size; have := HN.out; omega)), fun i => (HMx.out W3 Z d _ i HK.out.2.1 HK.out.1 hZ).1, (HMx.out W3 Z d _ 0 HK.out.2.1 HK.out.1 hZ).2⟩
    have hlen5 : qs.length + 1 ≤ 1048577 := by have := HQB.out; omega
    clear hrd hok hrow b0 b34 hd hdl HF
    go_wp2_with fail
    try rw [h4]
    try rw [hn3]
    refine hli.mono ?_
    rintro e W5 ⟨⟨bl, rfl⟩, b5⟩
    have b35 : Below W3.heap.size W3 W5 := HK.out.2.2.1.trans (b5.mono HK.out.2.2.1.size)
    have HB5 : Hid (Below W3.heap.size W3 W5) := b35
    have hri := rcright_any d (.slice a5 (qs.length + 1) c5) W5 (HK.out.1.1.keep b35)
    clear b5 b35 hli
    cases bl
    · go_wp2_with fail
      refine (HAl.out W5 (HMd.out W5 HB5.out).1).mono ?_
      rintro e W6 ⟨rfl, b6⟩
      go_wp2
      go_ret
      exact ⟨rfl, b6⟩
    by_cases hz : crightW d = 0
    case neg =>
      have ez : (crightW d != 0) = true := by rw [bne_iff_ne]; exact hz
      generalize crightW d = zz at *
      clear hz
      go_wp2_with fail
      refine hri.mono ?_
      rintro e W6 ⟨rfl, b6⟩
      have b36 : Below W3.heap.size W3 W6 := HB5.out.trans (b6.mono HB5.out.size)
      have hal := HAl.out W6 (HMd.out W6 b36).1
      clear b6 b36
      go_wp2_with fail
      refine hal.mono ?_
      rintro e W7 ⟨rfl, b7⟩
      go_wp2
      go_ret
      exact ⟨rfl, b7⟩
    have HZ : Hid (crightW d = 0) := hz
    rw [hz] at hri
    clear hz
    go_wp2_with fail
    refine hri.mono ?_
    rintro e W6 ⟨rfl, b6⟩
    have b36 : Below W3.heap.size W3 W6 := HB5.out.trans (b6.mono HB5.out.size)
    have hgr := HGr.out W6 (HMd.out W6 b36).1
    obtain ⟨k0, k1, k2⟩ := HO.out W6 (HMd.out W6 b36).2.1
    have HB6 : Hid (Below W3.heap.size W3 W6) := b36
    clear b6 b36 hri
    cases hok : o.g.ok
    · rw [hok] at hgr
      clear hok
      go_wp2_with fail
      refine hgr.mono ?_
      rintro e W7 ⟨rfl, b7⟩
      have b37 : Below W3.heap.size W3 W7 := HB6.out.trans (b7.mono HB6.out.size)
      have hal := HAl.out W7 (HMd.out W7 b37).1
      clear b7 b37
      go_wp2_with fail
      refine hal.mono ?_
      rintro e W8 ⟨rfl, b8⟩
      go_wp2
      go_ret
      exact ⟨rfl, b8⟩
    rw [hok] at hgr
    have HG : Hid (o.g.Ok) := ok_iff.1 hok
    clear hok
    go_wp2_with fail
    refine hgr.mono ?_
    rintro e W7 ⟨rfl, b7⟩
    have b37 : Below W3.heap.size W3 W7 := HB6.out.trans (b7.mono HB6.out.size)
    have how := HOw.out W7 (HMd.out W7 b37).1
    clear k0 k1 k2
    obtain ⟨k0, k1, k2⟩ := HO.out W7 (HMd.out W7 b37).2.1
    have HB7 : Hid (Below W3.heap.size W3 W7) := b37
    clear b7 b37 hgr
    go_wp2_with fail
    refine how.mono ?_
    rintro e W8 ⟨rfl, b8⟩
    obtain ⟨Wz, hz⟩ : ∃ X, W8.alloc (.cells #[.bool false, .slice none 0 0, .slice none 0 0] 40) = X := ⟨_, rfl⟩
    have bz : Below W8.heap.size W8 Wz := by rw [← hz]; exact below_box _ _
    have hzz : Wz.heap[W8.heap.size]? = some (.cells #[.bool false, .slice none 0 0, .slice none 0 0] 40 (0, 0)) := by rw [← hz]; exact (MapKept.heap_alloc _ _).1
    obtain ⟨W9, hrun, hx9, hon⟩ := ost_run Wz W8.heap.size o.path (.slice an nn cn) (.slice aw nw cw) hzz ⟨_, _, _, rfl⟩ ⟨_, _, _, rfl⟩
    have b89 : Below W8.heap.size W8 W9 := bz.trans (hon.below bz.size (by simp))
    have b38 : Below W3.heap.size W3 W8 := HB7.out.trans (b8.mono HB7.out.size)
    have b39 : Below W3.heap.size W3 W9 := b38.trans (b89.mono b38.size)
    have s9 : W8.heap.size < W9.heap.size := by
      have := hon.size
      have : Wz.heap.size = W8.heap.size + 1 := by rw [← hz]; simp
      omega
    obtain ⟨bo, hbo⟩ : ∃ n, W8.heap.size = n := ⟨_, rfl⟩
    rw [hbo] at hx9 hrun s9
    have HO9 : Hid (∀ Z, Below W9.heap.size W9 Z → (Z.cell? ⟨bo, 0, none⟩ = some (.bool o.path) ∧ Z.cell? ⟨bo, 1, none⟩ = some (.slice an nn cn) ∧ Z.cell? ⟨bo, 2, none⟩ = some (.slice aw nw cw)) ∧ Below W3.heap.size W3 Z) := fun Z hZ => ⟨⟨kc hZ s9 hx9.1, kc hZ s9 hx9.2.1, kc hZ s9 hx9.2.2⟩, b39.trans (hZ.mono b39.size)⟩
    clear b8 bz hzz hon b89 b38 b39 k0 k1 k2 how hx9 s9
    go_wp2_with (first | (refine wpList_store_run rfl 40 _ _ rfl (.pointer (some ⟨bo, 0, none⟩)) (oval o (.slice an nn cn) (.slice aw nw cw)) rfl rfl hrun ?_))
    try rw [hz]
    clear hrun
    go_loopw [9, 10] (fun v9 vi wr => ∃ (sm : Bool) (i : Nat), v9 = .bool sm ∧ vi = .int .i64 i ∧ i ≤ qs.length + 1 ∧ Hid (Below W9.heap.size W9 wr ∧ (sm = true ↔ ∃ j : Nat, j < i ∧ unbB o d j [1] = true))) (fun _ vi _ => qs.length + 1 - (intOf vi).toNat)
    case atStart => exact ⟨false, 0, rfl, rfl, Nat.zero_le _, Below.refl _ _, ⟨fun h => (by cases h), fun ⟨j, hj, _⟩ => by omega⟩⟩
    case round =>
      obtain ⟨sm, i, rfl, rfl, hi, HI⟩ := hrel
      by_cases hlt : i < qs.length + 1
      · have hiI : (i : Int) < ((qs.length + 1 : Nat) : Int) := by omega
        cases sm
        case true =>
          have HN2 : Hid (Below W9.heap.size W9 wr ∧ (true = true ↔ ∃ j : Nat, j < i + 1 ∧ unbB o d j [1] = true)) := ⟨HI.out.1, ⟨fun _ => by
            obtain ⟨j, hj, e⟩ := HI.out.2.1 rfl
            exact ⟨j, by omega, e⟩, fun _ => rfl⟩⟩
          clear HI
          go_wp2
          go_roundw
          case rel => exact ⟨true, i + 1, rfl, by go_num, by omega, HN2.out⟩
          case measure => simp [intOf]; omega
        case false =>
          obtain ⟨⟨k0, k1, k2⟩, b3r⟩ := HO9.out wr HI.out.1
          have hmx := (HMd.out wr b3r).2.2.1 (i : Int)
          have HS : Hid (unbB o d i [1] = true ↔ ∃ j : Nat, j < i + 1 ∧ unbB o d j [1] = true) := ⟨fun h => ⟨i, by omega, h⟩, fun ⟨j, hj, e⟩ => by
            rcases Nat.lt_or_ge j i with q | q
            · have := HI.out.2.2 ⟨j, q, e⟩
              cases this
            · have : j = i := by omega
              rw [← this]; exact e⟩
          obtain ⟨zb, hzb⟩ : ∃ z, unbB o d i [1] = z := ⟨_, rfl⟩
          rw [hzb] at hmx HS
          clear hzb b3r
          go_wp2_with fail
          refine hmx.mono ?_
          rintro e Wm ⟨rfl, bm⟩
          have HN2 : Hid (Below W9.heap.size W9 Wm ∧ (zb = true ↔ ∃ j : Nat, j < i + 1 ∧ unbB o d j [1] = true)) := ⟨HI.out.1.trans (bm.mono HI.out.1.size), HS.out⟩
          clear bm HI HS hmx
          go_wp2
          go_roundw
          case rel => exact ⟨zb, i + 1, rfl, by go_num, by omega, HN2.out⟩
          case measure => simp [intOf]; omega
      · have hsm : sm = true := by
          obtain ⟨n, hn, e⟩ := has_max (o := o) (d := d) HG.out HZ.out (by have := HK.out.2.2.2.2.2; omega)
          exact HI.out.2.2 ⟨n, by have := HK.out.2.2.2.2.2; omega, e⟩
        subst hsm
        obtain ⟨⟨k0, k1, k2⟩, b3r⟩ := HO9.out wr HI.out.1
        have hcl := (HMd.out wr b3r).2.2.2
        have hv : clsR o d c = 1 := by
          have hdd := HK.out.2.2.2.2.1
          have hz := HZ.out
          rw [← hdd] at hz ⊢
          unfold clsR
          rw [if_pos ⟨HG.out, hz, right_less hz HEQ.out.2.2.2.1⟩]
          exact more_gr o c l
        rw [hv] at hcl
        have HBr : Hid (Below W3.heap.size W3 wr) := b3r
        clear b3r hv
        go_wp2_with fail
        refine hcl.mono ?_
        rintro e Wc ⟨rfl, bc⟩
        have b3c : Below W3.heap.size W3 Wc := HBr.out.trans (bc.mono HBr.out.size)
        have hal := HAl.out Wc (HMd.out Wc b3c).1
        clear bc b3c hcl
        go_wp2_with fail
        refine hal.mono ?_
        rintro e We ⟨rfl, be⟩
        go_wp2
        go_ret
        exact ⟨rfl, be⟩)

end Go.Proofs.YtglphfhlpobgcaaGreat

/-
  Sizes of clauses that came in.
-/
namespace Go.Proofs.YtglphfhlpobgcaaGreat
open Go.RowKit

theorem csize_snoc (c : List Lt) (l : Lt) : csize (c ++ [l]) = csize c + (l.l.size + l.r.size) := by simp [csize]
theorem len_csize : ∀ c : List Lt, (c.length : Int) ≤ csize c
  | [] => by simp [csize]
  | x :: r => by
    have ih := len_csize r
    have h1 := size_pos x.l
    have h2 := size_pos x.r
    simp only [csize, List.map_cons, List.sum_cons, List.length_cons] at ih ⊢
    omega

end Go.Proofs.YtglphfhlpobgcaaGreat
