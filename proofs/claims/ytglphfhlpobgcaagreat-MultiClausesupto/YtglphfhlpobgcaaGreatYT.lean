import Derived.Test.YtglphfhlpobgcaaGreatKA
import Derived.Test.YtglphfhlpobgcaaGreatRB
import Derived.Test.YtglphfhlpobgcaaGreatLG
import Derived.Test.YtglphfhlpobgcaaGreatYR
namespace Go.Proofs.YtglphfhlpobgcaaGreat
set_option maxRecDepth 100000
open Go.ChangeShapes Go.WideShapes Go.ChangeAt Go.RowKit
theorem Tryz.cells22 : Tryz.prog.cellsOf 22 = 1 := by kernel_rfl
theorem Tryz.cells23 : Tryz.prog.cellsOf 23 = 1 := by kernel_rfl
theorem Tryz.cells25 : Tryz.prog.cellsOf 25 = 2 := by kernel_rfl
theorem list1 {cs : List Value} (h : cs.length = 1) : ∃ c0, cs = [c0] := by
 match cs, h with
 | [c0], _ => exact ⟨c0, rfl⟩
theorem row_of {α : Type} [Inhabited α] {f : α -> Value} {W : World} {a : Addr} {len cap : Nat} {P : α -> Prop} (hl : len <= cap) (hm : cap <= 9223372036854775807) (h : ∀ i, i < len -> ∃ x, W.cell? ((a.add i).add 0) = some (f x) ∧ P x) : ∃ l : List α, l.length = len ∧ RowAt f W (.slice (some a) len cap) l ∧ ∀ x ∈ l, P x := by
 by_cases h0 : len = 0
 ·subst h0
  exact ⟨[], rfl, ⟨some a, cap, rfl, Nat.zero_le _, hm, fun h => absurd h (by simp)⟩, by simp⟩
 ·obtain ⟨x0, hc0, _⟩ := h 0 (by omega)
  have hxb : ∃ b o, a = ⟨b, o, none⟩ := by
   obtain ⟨b, o, spot⟩ := a
   have hspot : spot = none := by simpa [Addr.add] using World.cell?_spot hc0
   exact ⟨b, o, by rw [hspot]⟩
  obtain ⟨b, o, rfl⟩ := hxb
  obtain ⟨e, he⟩ := Deep.choose_lt h
  have hlt : b < W.heap.size := by have := lt_of_cell hc0; simpa [Addr.add] using this
  have hlen : ((List.range len).map e).length = len := by simp
  refine ⟨(List.range len).map e, hlen, ⟨some ⟨b, o, none⟩, cap, by rw [hlen], by omega, hm, fun _ => ⟨b, o, hlt, rfl, fun i hi => ?_⟩⟩, fun x hx => ?_⟩
  ·have hi' : i < len := by rwa [hlen] at hi
   have := (he i hi').1
   rw [addr_add, addr_add, Nat.add_zero] at this
   simpa using this
  ·obtain ⟨i, hi, rfl⟩ := List.mem_map.1 hx
   exact (he i (List.mem_range.1 hi)).2
theorem strs_trod {H : Type} {enc : TypeId × Value -> H} {W : World} {fuel : Nat} {v : Value} {x : DataW H × List MemPlace} (h : DataW.trod enc Tryz.prog W 0 (fun _ => true) true fuel 22 [v] = some x) : ∃ l, RowAt .string W v l ∧ ∀ s ∈ l, s.size <= maxLen := by
 rcases DataW.trod_slice Tryz.underlying22 h with ⟨hcs, hx⟩ | ⟨a, len, cap, elems, rest, n, rfl, hcs, hx, _, hl, hm, hel, hat, _⟩
 ·simp only [List.cons.injEq, and_true] at hcs
  subst hcs
  exact ⟨[], ⟨none, 0, rfl, Nat.le_refl _, by decide, fun h => absurd h (by simp)⟩, by simp⟩
 ·simp only [List.cons.injEq, and_true] at hcs
  subst hcs
  rw [Tryz.cells9] at hat
  have each : ∀ i, i < len -> ∃ s : ByteArray, W.cell? ((a.add i).add 0) = some (.string s) ∧ s.size <= maxLen := by
   intro i hi
   have hi' := hat i hi
   rw [List.getElem?_eq_getElem (by omega)] at hi'
   obtain ⟨cs, hc, ht⟩ := Option.bind_eq_some_iff.1 hi'
   obtain ⟨_, hlen, hcell⟩ := World.cells?_some hc
   obtain ⟨c0, rfl⟩ := list1 hlen
   obtain ⟨s, e1, z1, w1⟩ := DataW.trod_string Tryz.underlying9 ht
   simp at e1
   subst e1
   exact ⟨s, by simpa using hcell 0 (by simp), w1⟩
  haveI : Inhabited ByteArray := ⟨⟨#[]⟩⟩
  obtain ⟨l, hlen, hr, hP⟩ := row_of (P := fun s : ByteArray => s.size <= maxLen) hl (by unfold maxLen at hm; omega) each
  exact ⟨l, hr, hP⟩
theorem ints_trod {H : Type} {enc : TypeId × Value -> H} {W : World} {fuel : Nat} {v : Value} {x : DataW H × List MemPlace} (h : DataW.trod enc Tryz.prog W 0 (fun _ => true) true fuel 23 [v] = some x) : ∃ l : List Int, RowAt (.int .i64) W v l ∧ ∀ i ∈ l, (Lit.int .i64 i).wf = true := by
 rcases DataW.trod_slice Tryz.underlying23 h with ⟨hcs, hx⟩ | ⟨a, len, cap, elems, rest, n, rfl, hcs, hx, _, hl, hm, hel, hat, _⟩
 ·simp only [List.cons.injEq, and_true] at hcs
  subst hcs
  exact ⟨[], ⟨none, 0, rfl, Nat.le_refl _, by decide, fun h => absurd h (by simp)⟩, by simp⟩
 ·simp only [List.cons.injEq, and_true] at hcs
  subst hcs
  rw [Tryz.cells3] at hat
  have each : ∀ i, i < len -> ∃ s : Int, W.cell? ((a.add i).add 0) = some (.int .i64 s) ∧ (Lit.int .i64 s).wf = true := by
   intro i hi
   have hi' := hat i hi
   rw [List.getElem?_eq_getElem (by omega)] at hi'
   obtain ⟨cs, hc, ht⟩ := Option.bind_eq_some_iff.1 hi'
   obtain ⟨_, hlen, hcell⟩ := World.cells?_some hc
   obtain ⟨c0, rfl⟩ := list1 hlen
   obtain ⟨s, e1, z1, w1⟩ := DataW.trod_int Tryz.underlying3 ht
   simp at e1
   subst e1
   exact ⟨s, by simpa using hcell 0 (by simp), w1⟩
  obtain ⟨l, hlen, hr, hP⟩ := row_of (P := fun s : Int => (Lit.int .i64 s).wf = true) hl (by unfold maxLen at hm; omega) each
  exact ⟨l, hr, hP⟩
theorem Tryz.cells32 : Tryz.prog.cellsOf 32 = 7 := by kernel_rfl
theorem Tryz.cells4 : Tryz.prog.cellsOf 4 = 1 := by kernel_rfl
theorem list7 {cs : List Value} (h : cs.length = 7) : ∃ c0 c1 c2 c3 c4 c5 c6, cs = [c0, c1, c2, c3, c4, c5, c6] := by
 match cs, h with
 | [c0, c1, c2, c3, c4, c5, c6], _ => exact ⟨c0, c1, c2, c3, c4, c5, c6, rfl⟩
theorem struct28 {H : Type} {enc : TypeId × Value -> H} {W : World} {fuel : Nat} {cs : List Value} {x : DataW H × List MemPlace}
  (h : DataW.trod enc Tryz.prog W 0 (fun _ => true) true fuel 32 cs = some x) : ∃ (b : Lt) (sl sr : Value), cs = [.bool b.neg, .int .i64 b.l.v, .string b.l.fn, sl, .int .i64 b.r.v, .string b.r.fn, sr] ∧ ArgsAt W sl b.l.args ∧ ArgsAt W sr b.r.args ∧ b.l.size + b.r.size <= (Rows.uptoBulk x.1 : Int) := by
 obtain ⟨xs, n, rfl, hx, hlen, hxs, hf⟩ := DataW.trod_struct Tryz.underlying32 h
 rw [Tryz.cells32] at hlen
 obtain ⟨c0, c1, c2, c3, c4, c5, c6, rfl⟩ := list7 hlen
 match xs, hxs, hx, hf with
 | [y0, y1, y2], _, hx, hf =>
  have t0 : DataW.trod enc Tryz.prog W 0 (fun _ => true) true n 4 (List.take (Tryz.prog.cellsOf 4) (List.drop 0 [c0, c1, c2, c3, c4, c5, c6])) = some y0 := hf 0 _ rfl
  have t1 : DataW.trod enc Tryz.prog W 0 (fun _ => true) true n 30 (List.take (Tryz.prog.cellsOf 30) (List.drop 1 [c0, c1, c2, c3, c4, c5, c6])) = some y1 := hf 1 _ rfl
  have t2 : DataW.trod enc Tryz.prog W 0 (fun _ => true) true n 30 (List.take (Tryz.prog.cellsOf 30) (List.drop 4 [c0, c1, c2, c3, c4, c5, c6])) = some y2 := hf 2 _ rfl
  rw [Tryz.cells4] at t0
  rw [Tryz.cells30] at t1 t2
  have t0' : DataW.trod enc Tryz.prog W 0 (fun _ => true) true n 4 [c0] = some y0 := t0
  have t1' : DataW.trod enc Tryz.prog W 0 (fun _ => true) true n 30 [c1, c2, c3] = some y1 := t1
  have t2' : DataW.trod enc Tryz.prog W 0 (fun _ => true) true n 30 [c4, c5, c6] = some y2 := t2
  obtain ⟨k, e0, z0⟩ := DataW.trod_bool Tryz.underlying4 t0'
  obtain ⟨v, fn, sl, m, q0, q1, q2, hm, e1, _, _, s2, ex, _⟩ := struct24 t1'
  obtain ⟨v', fn', sl', m', p0, p1, p2, hm', e2, _, _, s2', ex', _⟩ := struct24 t2'
  obtain ⟨l, hA, hS⟩ := args_trodB m sl _ s2
  obtain ⟨l', hA', hS'⟩ := args_trodB m' sl' _ s2'
  simp only [List.cons.injEq, and_true] at e0 e1 e2
  obtain ⟨rfl, rfl, rfl⟩ := e1
  obtain ⟨rfl, rfl, rfl⟩ := e2
  subst e0
  refine ⟨⟨k, .mk v fn l, .mk v' fn' l'⟩, c3, c6, rfl, hA, hA', ?_⟩
  rw [hx]
  simp only [List.map_cons, List.map_nil, Rows.uptoBulk, Rows.uptoBulkAll]
  rw [ex, ex', T.size_eq, T.size_eq]
  simp only [Rows.uptoBulk, Rows.uptoBulkAll]
  have h1 : ((T.mk v fn l).args.map T.size).sum <= (Rows.uptoBulk q2.1 : Int) := hS
  have h2 : ((T.mk v' fn' l').args.map T.size).sum <= (Rows.uptoBulk p2.1 : Int) := hS'
  omega
theorem csize_range (n : Nat) (g : Nat -> Lt) : csize ((List.range n).map g) = ((List.range n).map fun i => (g i).l.size + (g i).r.size).sum := by
 unfold csize
 rw [List.map_map]
 rfl
theorem clause_in {H : Type} {enc : TypeId × Value -> H} {W : World} {a : Option Addr} {n c : Nat} {d : DataW H} {p : List MemPlace}
  (h : DataW.Trod enc Tryz.prog W 0 (fun _ => true) true 35 (.slice a n c) d p) : ∃ l, ClauseAt W (.slice a n c) l ∧ csize l <= (Rows.uptoBulk d : Int) := by
 obtain ⟨fuel, hf⟩ := h
 rcases DataW.trod_slice Tryz.underlying35 hf with ⟨hcs, hx⟩ | ⟨ad, len, cap, elems, rest, m, _, hcs, hx, _, hl, hm, hel, hat, _⟩
 ·simp [Value.cells] at hcs
  obtain ⟨rfl, rfl, rfl⟩ := hcs
  exact ⟨[], ⟨none, 0, rfl, Nat.le_refl _, by decide, fun h => absurd h (by simp)⟩, by simp [csize]⟩
 ·simp [Value.cells] at hcs
  obtain ⟨rfl, rfl, rfl⟩ := hcs
  rw [Tryz.cells32] at hat
  have each : ∀ i, i < n -> ∃ q : Lt × Value × Value, (W.cell? ((ad.add (i * 7)).add 0) = some (.bool q.1.neg) ∧ W.cell? ((ad.add (i * 7)).add 1) = some (.int .i64 q.1.l.v) ∧ W.cell? ((ad.add (i * 7)).add 2) = some (.string q.1.l.fn) ∧ W.cell? ((ad.add (i * 7)).add 3) = some q.2.1 ∧ W.cell? ((ad.add (i * 7)).add 4) = some (.int .i64 q.1.r.v) ∧ W.cell? ((ad.add (i * 7)).add 5) = some (.string q.1.r.fn) ∧ W.cell? ((ad.add (i * 7)).add 6) = some q.2.2 ∧ ArgsAt W q.2.1 q.1.l.args ∧ ArgsAt W q.2.2 q.1.r.args) ∧ ∀ (h : i < elems.length), q.1.l.size + q.1.r.size <= (Rows.uptoBulk elems[i].1 : Int) := by
   intro i hi
   have hi' := hat i hi
   have hie : i < elems.length := by omega
   rw [List.getElem?_eq_getElem hie] at hi'
   obtain ⟨cs, hc, ht⟩ := Option.bind_eq_some_iff.1 hi'
   obtain ⟨_, hlen, hcell⟩ := World.cells?_some hc
   obtain ⟨b, sl, sr, rfl, hA, hA', hS⟩ := struct28 ht
   exact ⟨(b, sl, sr), ⟨by simpa using hcell 0 (by simp), by simpa using hcell 1 (by simp), by simpa using hcell 2 (by simp), by simpa using hcell 3 (by simp), by simpa using hcell 4 (by simp), by simpa using hcell 5 (by simp), by simpa using hcell 6 (by simp), hA, hA'⟩, fun _ => hS⟩
  have hbulk : (Rows.uptoBulkAll (elems.map (fun x => x.1)) : Int) <= (Rows.uptoBulk d : Int) := by
   have e : d = .slice (elems.map fun x => x.1) (rest.map fun x => x.1) := congrArg Prod.fst hx
   rw [e]
   simp only [Rows.uptoBulk]
   omega
  by_cases h0 : n = 0
  ·subst h0
   exact ⟨[], ⟨some ad, c, rfl, Nat.zero_le _, by unfold maxLen at hm; omega, fun h => absurd h (by simp)⟩, by simp [csize]⟩
  ·obtain ⟨q0, ⟨hc0, _⟩, _⟩ := each 0 (by omega)
   have hxb : ∃ b o, ad = ⟨b, o, none⟩ := by
    obtain ⟨b, o, spot⟩ := ad
    have hspot : spot = none := by simpa [Addr.add] using World.cell?_spot hc0
    exact ⟨b, o, by rw [hspot]⟩
   obtain ⟨b, o, rfl⟩ := hxb
   haveI : Inhabited (Lt × Value × Value) := ⟨(⟨false, .mk 0 ⟨#[]⟩ [], .mk 0 ⟨#[]⟩ []⟩, undef, undef)⟩
   obtain ⟨f, hfq⟩ := Deep.choose_lt each
   have hlt : b < W.heap.size := by have := lt_of_cell hc0; simpa [Addr.add] using this
   refine ⟨(List.range n).map (fun i => (f i).1), ⟨some ⟨b, o, none⟩, c, by simp, by simpa using hl, by unfold maxLen at hm; omega, fun _ => ⟨b, o, rfl, fun i hi => ?_⟩⟩, ?_⟩
   ·have hi' : i < n := by simpa using hi
    obtain ⟨⟨k0, k1, k2, k3, k4, k5, k6, hA, hA'⟩, _⟩ := hfq i hi'
    simp only [addr_add, Nat.add_zero] at k0 k1 k2 k3 k4 k5 k6
    simp only [List.getElem_map, List.getElem_range]
    exact ⟨(f i).2.1, (f i).2.2, hlt, k0, k1, k2, k3, k4, k5, k6, hA, hA'⟩
   ·refine Int.le_trans ?_ hbulk
    rw [csize_range]
    have := sum_bulk (elems.map (fun x => x.1)) (fun i => (f i).1.l.size + (f i).1.r.size) (fun i hi => by
     have hie : i < elems.length := by simpa using hi
     have := (hfq i (by omega)).2 hie
     simpa using this)
    rw [List.length_map, hel] at this
    exact this
theorem Tryz.cells27 : Tryz.prog.cellsOf 27 = 3 := by kernel_rfl
theorem sign_trod {H : Type} {enc : TypeId × Value -> H} {W : World} {fuel : Nat} {c0 c1 : Value} {x : DataW H × List MemPlace} (h : DataW.trod enc Tryz.prog W 0 (fun _ => true) true fuel 25 [c0, c1] = some x) : ∃ g, SgAt W g c0 c1 := by
 obtain ⟨xs, n, rfl, hx, hlen, hxs, hf⟩ := DataW.trod_struct Tryz.underlying25 h
 match xs, hxs, hx, hf with
 | [y0, y1], _, hx, hf =>
  have t0 : DataW.trod enc Tryz.prog W 0 (fun _ => true) true n 22 (List.take (Tryz.prog.cellsOf 22) (List.drop 0 [c0, c1])) = some y0 := hf 0 _ rfl
  have t1 : DataW.trod enc Tryz.prog W 0 (fun _ => true) true n 23 (List.take (Tryz.prog.cellsOf 23) (List.drop 1 [c0, c1])) = some y1 := hf 1 _ rfl
  rw [Tryz.cells22] at t0
  rw [Tryz.cells23] at t1
  obtain ⟨l, h1, h2⟩ := strs_trod (v := c0) t0
  obtain ⟨m, h3, _⟩ := ints_trod (v := c1) t1
  exact ⟨⟨l, m⟩, h1, h3, h2⟩
theorem order_in {H : Type} {enc : TypeId × Value -> H} {W : World} {base : Nat} {v : Value} {d : DataW H} {p : List MemPlace} (hv : Value.okWide Tryz.prog W .any base 27 v)
  (h : DataW.Trod enc Tryz.prog W 0 (fun _ => true) true 27 v d p) : ∃ o vn vw, v = oval o vn vw ∧ SgAt W o.g vn vw := by
 obtain ⟨cs, rfl, hcs⟩ := okWide_struct Tryz.underlying27 hv
 obtain ⟨fuel, hf⟩ := h
 obtain ⟨xs, n, rfl, hx, hlen, hxs, hf⟩ := DataW.trod_struct Tryz.underlying27 hf
 rw [Tryz.cells27] at hlen
 obtain ⟨c0, c1, c2, hcc⟩ := list3 hlen
 rw [hcc] at hf
 match xs, hxs, hx, hf with
 | [y0, y1], _, hx, hf =>
  have t0 : DataW.trod enc Tryz.prog W 0 (fun _ => true) true n 4 (List.take (Tryz.prog.cellsOf 4) (List.drop 0 [c0, c1, c2])) = some y0 := hf 0 _ rfl
  have t1 : DataW.trod enc Tryz.prog W 0 (fun _ => true) true n 25 (List.take (Tryz.prog.cellsOf 25) (List.drop 1 [c0, c1, c2])) = some y1 := hf 1 _ rfl
  rw [Tryz.cells4] at t0
  rw [Tryz.cells25] at t1
  have t0' : DataW.trod enc Tryz.prog W 0 (fun _ => true) true n 4 [c0] = some y0 := t0
  have t1' : DataW.trod enc Tryz.prog W 0 (fun _ => true) true n 25 [c1, c2] = some y1 := t1
  obtain ⟨k, e0, z0⟩ := DataW.trod_bool Tryz.underlying4 t0'
  obtain ⟨g, hg⟩ := sign_trod t1'
  simp only [List.cons.injEq, and_true] at e0
  subst e0
  refine ⟨⟨k, g⟩, c1, c2, ?_, hg⟩
  obtain ⟨cl⟩ := cs
  have h2 : cl = [.bool k, c1, c2] := hcc
  rw [h2]
theorem csize_mem : ∀ {l : List Lt} {x : Lt}, x ∈ l -> x.l.size + x.r.size <= csize l
 | y :: r, x, h => by
  have hy : ∀ z : Lt, 0 <= z.l.size + z.r.size := fun z => by have := size_pos z.l; have := size_pos z.r; omega
  have hr : 0 <= csize r := by
   clear h
   induction r with
   | nil => simp [csize]
   | cons a t ih => have := hy a; simp only [csize, List.map_cons, List.sum_cons] at ih ⊢; omega
  simp only [csize, List.map_cons, List.sum_cons]
  rcases List.mem_cons.1 h with rfl | h
  ·unfold csize at hr; omega
  ·have h1 := csize_mem h
   unfold csize at h1
   have := hy y
   omega
theorem okC_in {W : World} {v : Value} {l : List Lt} (h : ClauseAt W v l) (hs : csize l <= 1048576) : OkC W (l, v) :=
 ⟨h, fun x hx => by
  have h1 : x.l.size + x.r.size <= csize l := csize_mem hx
  have h2 := size_pos x.l
  have h3 := size_pos x.r
  exact ⟨by omega, by omega⟩⟩
end Go.Proofs.YtglphfhlpobgcaaGreat
