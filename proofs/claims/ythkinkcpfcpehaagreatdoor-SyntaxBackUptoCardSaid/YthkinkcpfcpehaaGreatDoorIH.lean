import Derived.Test.YthkinkcpfcpehaaGreatDoorHS
namespace Go.Proofs.YthkinkcpfcpehaaGreatDoor
set_option maxRecDepth 100000
open Go.ChangeShapes Go.WideShapes Go.ChangeAt Go.RowKit
theorem Tryz.cells27 : Tryz.prog.cellsOf 27 = 9 := by kernel_rfl
theorem Tryz.cells25' : Tryz.prog.cellsOf 25 = 1 := by kernel_rfl
theorem list9 {cs : List Value} (h : cs.length = 9) : ∃ c0 c1 c2 c3 c4 c5 c6 c7 c8, cs = [c0, c1, c2, c3, c4, c5, c6, c7, c8] := by
  match cs, h with
  | [c0, c1, c2, c3, c4, c5, c6, c7, c8], _ => exact ⟨c0, c1, c2, c3, c4, c5, c6, c7, c8, rfl⟩
theorem mem_bulk {H : Type} : ∀ (es : List (DataW H)) (i : Nat) (h : i < es.length), Rows.uptoBulk es[i] ≤ Rows.uptoBulkAll es
  | d :: r, 0, _ => by rw [Rows.uptoBulkAll]; simp
  | d :: r, i + 1, h => by
    have := mem_bulk r i (by simpa using h)
    rw [Rows.uptoBulkAll]
    simp only [List.getElem_cons_succ]
    omega
theorem nsm_mk {v : Int} {fn : ByteArray} {ts : List T} (h : fn.size ≤ 2097152) (ha : ∀ a ∈ ts, a.nsm) : (T.mk v fn ts).nsm := by
  rw [T.nsm]
  refine ⟨h, ?_⟩
  induction ts with
  | nil => rw [T.nsm.nsms]; trivial
  | cons a r ih => rw [T.nsm.nsms]; exact ⟨ha a (by simp), ih fun b hb => ha b (by simp [hb])⟩
theorem fnsm_mk {k : Int} {n : ByteArray} {l r : T} {ks : List Fm} (h : n.size ≤ 2097152) (hl : l.nsm) (hr : r.nsm) (hk : ∀ a ∈ ks, a.nsm) : (Fm.mk k n l r ks).nsm := by
  rw [Fm.nsm]
  refine ⟨h, hl, hr, ?_⟩
  induction ks with
  | nil => rw [Fm.nsm.nsms]; trivial
  | cons a r ih => rw [Fm.nsm.nsms]; exact ⟨hk a (by simp), ih fun b hb => hk b (by simp [hb])⟩
theorem args_trodN {H : Type} {enc : TypeId × Value → H} {W : World} : ∀ (fuel : Nat) (v : Value) (x : DataW H × List MemPlace),
    DataW.trod enc Tryz.prog W 0 (fun _ => true) true fuel 22 [v] = some x → ∃ l, ArgsAt W v l ∧ (l.map T.size).sum ≤ (Rows.uptoBulk x.1 : Int) ∧ (Rows.uptoBulk x.1 ≤ 1048576 → ∀ a ∈ l, a.nsm) := by
  intro fuel
  induction fuel using Nat.strongRecOn with
  | _ fuel ih =>
    intro v x h
    rcases DataW.trod_slice Tryz.underlying22 h with ⟨hcs, hx⟩ | ⟨a, len, cap, elems, rest, n, rfl, hcs, hx, _, hl, hm, hel, hat, _⟩
    · simp only [List.cons.injEq, and_true] at hcs
      subst hcs
      exact ⟨[], .mk none 0 [] (fun _ => .slice none 0 0) (Nat.le_refl _) (by decide) (fun h => absurd h (by simp)) (fun i h => absurd h (by simp)), by simp, fun _ a ha => by simp at ha⟩
    · simp only [List.cons.injEq, and_true] at hcs
      subst hcs
      rw [Tryz.cells25] at hat
      have each : ∀ i, i < len → ∃ p : T × Value, (W.cell? ((a.add (i * 3)).add 0) = some (.int .i64 p.1.v) ∧ W.cell? ((a.add (i * 3)).add 1) = some (.string p.1.fn) ∧ W.cell? ((a.add (i * 3)).add 2) = some p.2 ∧ ArgsAt W p.2 p.1.args) ∧ ∀ (h : i < elems.length), p.1.size ≤ (Rows.uptoBulk elems[i].1 : Int) ∧ (Rows.uptoBulk elems[i].1 ≤ 1048576 → p.1.nsm) := by
        intro i hi
        have hi' := hat i hi
        have hie : i < elems.length := by omega
        rw [List.getElem?_eq_getElem hie] at hi'
        obtain ⟨cs, hc, ht⟩ := Option.bind_eq_some_iff.1 hi'
        obtain ⟨_, hlen, hcell⟩ := World.cells?_some hc
        obtain ⟨v, fn, sl, m, y0, y1, y2, rfl, rfl, _, _, t2, ex, _, e1⟩ := struct24 ht
        obtain ⟨l, hA, hS, hN⟩ := ih m (by omega) sl _ t2
        refine ⟨(.mk v fn l, sl), ⟨by simpa [T.v] using hcell 0 (by simp), by simpa [T.fn] using hcell 1 (by simp), by simpa using hcell 2 (by simp), hA⟩, fun h => ⟨?_, fun hb => ?_⟩⟩
        · rw [ex, T.size_eq]
          simp only [Rows.uptoBulk, Rows.uptoBulkAll]
          have hS' : ((T.mk v fn l).args.map T.size).sum ≤ (Rows.uptoBulk y2.1 : Int) := hS
          omega
        · rw [ex] at hb
          simp only [Rows.uptoBulk, Rows.uptoBulkAll, e1] at hb
          have hfs : fn.data.toList.length = fn.size := Lx.size_len fn
          exact nsm_mk (by omega) (hN (by omega))
      have hbulk : (Rows.uptoBulkAll (elems.map (fun x => x.1)) : Int) ≤ (Rows.uptoBulk x.1 : Int) := by
        rw [hx]
        simp only [Rows.uptoBulk]
        omega
      by_cases h0 : len = 0
      · subst h0
        exact ⟨[], .mk (some a) cap [] (fun _ => .slice none 0 0) (Nat.zero_le _) (by unfold maxLen at hm; omega) (fun h => absurd h (by simp)) (fun i h => absurd h (by simp)), by simp, fun _ a ha => by simp at ha⟩
      · obtain ⟨p0, ⟨hc0, _⟩, _⟩ := each 0 (by omega)
        have hxb : ∃ b o, a = ⟨b, o, none⟩ := by
          obtain ⟨b, o, spot⟩ := a
          have hspot : spot = none := by simpa [Addr.add] using World.cell?_spot hc0
          exact ⟨b, o, by rw [hspot]⟩
        obtain ⟨b, o, rfl⟩ := hxb
        haveI : Inhabited (T × Value) := ⟨(.mk 0 ⟨#[]⟩ [], .slice none 0 0)⟩
        obtain ⟨f, hf⟩ := Deep.choose_lt each
        have hlt : b < W.heap.size := by have := lt_of_cell hc0; simpa [Addr.add] using this
        refine ⟨(List.range len).map (fun i => (f i).1), ?_, ?_, ?_⟩
        · have hlen : ((List.range len).map (fun i => (f i).1)).length = len := by simp
          have := ArgsAt.mk (W := W) (some ⟨b, o, none⟩) cap ((List.range len).map (fun i => (f i).1)) (fun i => (f i).2) (by rw [hlen]; exact hl) (by unfold maxLen at hm; omega)
            (fun _ => ⟨b, o, hlt, rfl, fun i hi => by
              have hi' : i < len := by rwa [hlen] at hi
              obtain ⟨⟨k0, k1, k2, _⟩, _⟩ := hf i hi'
              simp only [addr_add, Nat.add_zero] at k0 k1 k2
              simp only [List.getElem_map, List.getElem_range]
              exact ⟨k0, k1, k2⟩⟩)
            (fun i hi => by
              have hi' : i < len := by rwa [hlen] at hi
              simp only [List.getElem_map, List.getElem_range]
              exact (hf i hi').1.2.2.2)
          rw [hlen] at this
          exact this
        · refine Int.le_trans ?_ hbulk
          have := sum_bulk (elems.map (fun x => x.1)) (fun i => (f i).1.size) (fun i hi => by
            have hie : i < elems.length := by simpa using hi
            have := ((hf i (by omega)).2 hie).1
            simpa using this)
          rw [List.length_map, hel] at this
          rw [List.map_map]
          exact this
        · intro hb t ht
          obtain ⟨i, hi, rfl⟩ := List.mem_map.1 ht
          rw [List.mem_range] at hi
          have hie : i < elems.length := by omega
          have h1 := mem_bulk (elems.map (fun x => x.1)) i (by simpa using hie)
          rw [List.getElem_map] at h1
          exact ((hf i hi).2 hie).2 (by omega)
theorem struct27 {H : Type} {enc : TypeId × Value → H} {W : World} {fuel : Nat} {cs : List Value} {x : DataW H × List MemPlace}
    (h : DataW.trod enc Tryz.prog W 0 (fun _ => true) true fuel 27 cs = some x) : ∃ (k : Int) (nm : ByteArray) (v1 : Int) (fn1 : ByteArray) (s1 : Value) (v2 : Int) (fn2 : ByteArray) (s2 sk : Value) (n m : Nat) (y0 y1 z0 z1 z2 u0 u1 u2 y4 : DataW H × List MemPlace), fuel = n + 1 ∧ n = m + 1 ∧ cs = [.int .i64 k, .string nm, .int .i64 v1, .string fn1, s1, .int .i64 v2, .string fn2, s2, sk] ∧ DataW.trod enc Tryz.prog W 0 (fun _ => true) true m 22 [s1] = some z2 ∧ DataW.trod enc Tryz.prog W 0 (fun _ => true) true m 22 [s2] = some u2 ∧ DataW.trod enc Tryz.prog W 0 (fun _ => true) true n 25 [sk] = some y4 ∧ x.1 = .agg [y0.1, y1.1, .agg [z0.1, z1.1, z2.1], .agg [u0.1, u1.1, u2.1], y4.1] ∧ y1.1 = .lit (.string nm.data.toList) ∧ z1.1 = .lit (.string fn1.data.toList) ∧ u1.1 = .lit (.string fn2.data.toList) := by
  obtain ⟨xs, n, rfl, hx, hlen, hxs, hf⟩ := DataW.trod_struct Tryz.underlying27 h
  rw [Tryz.cells27] at hlen
  obtain ⟨c0, c1, c2, c3, c4, c5, c6, c7, c8, rfl⟩ := list9 hlen
  match xs, hxs, hx, hf with
  | [y0, y1, y2, y3, y4], _, hx, hf =>
    have t0 : DataW.trod enc Tryz.prog W 0 (fun _ => true) true n 3 (List.take (Tryz.prog.cellsOf 3) (List.drop 0 [c0, c1, c2, c3, c4, c5, c6, c7, c8])) = some y0 := hf 0 _ rfl
    have t1 : DataW.trod enc Tryz.prog W 0 (fun _ => true) true n 9 (List.take (Tryz.prog.cellsOf 9) (List.drop 1 [c0, c1, c2, c3, c4, c5, c6, c7, c8])) = some y1 := hf 1 _ rfl
    have t2 : DataW.trod enc Tryz.prog W 0 (fun _ => true) true n 24 (List.take (Tryz.prog.cellsOf 24) (List.drop 2 [c0, c1, c2, c3, c4, c5, c6, c7, c8])) = some y2 := hf 2 _ rfl
    have t3 : DataW.trod enc Tryz.prog W 0 (fun _ => true) true n 24 (List.take (Tryz.prog.cellsOf 24) (List.drop 5 [c0, c1, c2, c3, c4, c5, c6, c7, c8])) = some y3 := hf 3 _ rfl
    have t4 : DataW.trod enc Tryz.prog W 0 (fun _ => true) true n 25 (List.take (Tryz.prog.cellsOf 25) (List.drop 8 [c0, c1, c2, c3, c4, c5, c6, c7, c8])) = some y4 := hf 4 _ rfl
    rw [Tryz.cells3] at t0
    rw [Tryz.cells9] at t1
    rw [Tryz.cells25] at t2 t3
    rw [Tryz.cells25'] at t4
    have t0' : DataW.trod enc Tryz.prog W 0 (fun _ => true) true n 3 [c0] = some y0 := t0
    have t1' : DataW.trod enc Tryz.prog W 0 (fun _ => true) true n 9 [c1] = some y1 := t1
    have t2' : DataW.trod enc Tryz.prog W 0 (fun _ => true) true n 24 [c2, c3, c4] = some y2 := t2
    have t3' : DataW.trod enc Tryz.prog W 0 (fun _ => true) true n 24 [c5, c6, c7] = some y3 := t3
    have t4' : DataW.trod enc Tryz.prog W 0 (fun _ => true) true n 25 [c8] = some y4 := t4
    obtain ⟨v, e0, z0, w0⟩ := DataW.trod_int Tryz.underlying3 t0'
    obtain ⟨s, e1, z1, w1⟩ := DataW.trod_string Tryz.underlying9 t1'
    obtain ⟨v1, fn1, s1, m, a0, a1, a2, rfl, ec, -, -, ta, ex1, -, ea⟩ := struct24 t2'
    obtain ⟨v2, fn2, s2, m2, b0, b1, b2, hm2, ed, -, -, tb, ex2, -, eb⟩ := struct24 t3'
    obtain rfl : m2 = m := by omega
    simp only [List.cons.injEq, and_true] at e0 e1 ec ed
    obtain ⟨rfl, rfl, rfl⟩ := ec
    obtain ⟨rfl, rfl, rfl⟩ := ed
    subst e0 e1
    refine ⟨v, s, v1, fn1, c4, v2, fn2, c7, c8, _, m2, y0, y1, a0, a1, a2, b0, b1, b2, y4, rfl, rfl, rfl, ta, tb, t4', ?_, by rw [z1], ea, eb⟩
    rw [hx, ex1, ex2]
    simp
/-- The cells of a formula, its slices, how great it is. -/
structure FmIn (H : Type) (W : World) (cs : List Value) (d : DataW H) (f : Fm) (sl sr sk : Value) : Prop where
  cs : cs = fcells f sl sr sk
  fm : FmP (fun b => b < W.heap.size) W f sl sr sk
  size : f.size ≤ (Rows.uptoBulk d : Int)
  nsm : Rows.uptoBulk d ≤ 1048576 → f.nsm
theorem fm_of {H : Type} {enc : TypeId × Value → H} {W : World} {fuel : Nat} {cs : List Value} {x : DataW H × List MemPlace} (h : DataW.trod enc Tryz.prog W 0 (fun _ => true) true fuel 27 cs = some x)
    (ih : ∀ n < fuel, ∀ (v : Value) (x : DataW H × List MemPlace), DataW.trod enc Tryz.prog W 0 (fun _ => true) true n 25 [v] = some x → ∃ l, KidsP (fun b => b < W.heap.size) W v l ∧ Fm.size.sizes l ≤ (Rows.uptoBulk x.1 : Int) ∧ (Rows.uptoBulk x.1 ≤ 1048576 → ∀ a ∈ l, a.nsm)) : ∃ f sl sr sk, FmIn H W cs x.1 f sl sr sk := by
  obtain ⟨k, nm, v1, fn1, s1, v2, fn2, s2, sk, n, m, y0, y1, z0, z1, z2, u0, u1, u2, y4, rfl, rfl, rfl, ta, tb, tk, ex, e1, e2, e3⟩ := struct27 h
  obtain ⟨l1, hA1, hS1, hN1⟩ := args_trodN _ _ _ ta
  obtain ⟨l2, hA2, hS2, hN2⟩ := args_trodN _ _ _ tb
  obtain ⟨ks, hK, hSk, hNk⟩ := ih _ (by omega) _ _ tk
  refine ⟨.mk k nm (.mk v1 fn1 l1) (.mk v2 fn2 l2) ks, s1, s2, sk, rfl, ⟨hA1.belowP, hA2.belowP, hK⟩, ?_, fun hb => ?_⟩
  · rw [fm_size_eq, ex]
    have q1 : (Fm.mk k nm (.mk v1 fn1 l1) (.mk v2 fn2 l2) ks).l.size = 1 + (l1.map T.size).sum := T.size_eq _
    have q2 : (Fm.mk k nm (.mk v1 fn1 l1) (.mk v2 fn2 l2) ks).r.size = 1 + (l2.map T.size).sum := T.size_eq _
    have q3 : (Fm.mk k nm (.mk v1 fn1 l1) (.mk v2 fn2 l2) ks).kids = ks := rfl
    rw [q1, q2, q3]
    simp only [Rows.uptoBulk, Rows.uptoBulkAll]
    split <;> omega
  · rw [ex] at hb
    simp only [Rows.uptoBulk, Rows.uptoBulkAll, e1, e2, e3] at hb
    have h1 : nm.data.toList.length = nm.size := Lx.size_len nm
    have h2 : fn1.data.toList.length = fn1.size := Lx.size_len fn1
    have h3 : fn2.data.toList.length = fn2.size := Lx.size_len fn2
    exact fnsm_mk (by omega) (nsm_mk (by omega) (hN1 (by omega))) (nsm_mk (by omega) (hN2 (by omega))) (hNk (by omega))
theorem sizes_sum (l : List Fm) : Fm.size.sizes l = (l.map Fm.size).sum := by
  induction l with
  | nil => rfl
  | cons a r ih => rw [Fm.size.sizes, List.map_cons, List.sum_cons, ih]
theorem kids_trod {H : Type} {enc : TypeId × Value → H} {W : World} : ∀ (fuel : Nat) (v : Value) (x : DataW H × List MemPlace),
    DataW.trod enc Tryz.prog W 0 (fun _ => true) true fuel 25 [v] = some x → ∃ l, KidsP (fun b => b < W.heap.size) W v l ∧ Fm.size.sizes l ≤ (Rows.uptoBulk x.1 : Int) ∧ (Rows.uptoBulk x.1 ≤ 1048576 → ∀ a ∈ l, a.nsm) := by
  intro fuel
  induction fuel using Nat.strongRecOn with
  | _ fuel ih =>
    intro v x h
    rcases DataW.trod_slice Tryz.underlying25 h with ⟨hcs, hx⟩ | ⟨a, len, cap, elems, rest, n, rfl, hcs, hx, _, hl, hm, hel, hat, _⟩
    · simp only [List.cons.injEq, and_true] at hcs
      subst hcs
      exact ⟨[], KidsP.nil _ _, by rw [Fm.size.sizes]; omega, fun _ a ha => by simp at ha⟩
    · simp only [List.cons.injEq, and_true] at hcs
      subst hcs
      rw [Tryz.cells27] at hat
      have each : ∀ i, i < len → ∃ p : Fm × Value × Value × Value, (W.cell? ((a.add (i * 9)).add 0) = some (.int .i64 p.1.k) ∧ W.cell? ((a.add (i * 9)).add 1) = some (.string p.1.nm) ∧ W.cell? ((a.add (i * 9)).add 2) = some (.int .i64 p.1.l.v) ∧ W.cell? ((a.add (i * 9)).add 3) = some (.string p.1.l.fn) ∧ W.cell? ((a.add (i * 9)).add 4) = some p.2.1 ∧ W.cell? ((a.add (i * 9)).add 5) = some (.int .i64 p.1.r.v) ∧ W.cell? ((a.add (i * 9)).add 6) = some (.string p.1.r.fn) ∧ W.cell? ((a.add (i * 9)).add 7) = some p.2.2.1 ∧ W.cell? ((a.add (i * 9)).add 8) = some p.2.2.2 ∧ FmP (fun b => b < W.heap.size) W p.1 p.2.1 p.2.2.1 p.2.2.2) ∧ ∀ (h : i < elems.length), p.1.size ≤ (Rows.uptoBulk elems[i].1 : Int) ∧ (Rows.uptoBulk elems[i].1 ≤ 1048576 → p.1.nsm) := by
        intro i hi
        have hi' := hat i hi
        have hie : i < elems.length := by omega
        rw [List.getElem?_eq_getElem hie] at hi'
        obtain ⟨cs, hc, ht⟩ := Option.bind_eq_some_iff.1 hi'
        obtain ⟨_, hlen, hcell⟩ := World.cells?_some hc
        obtain ⟨f, sl, sr, sk, rfl, hfm, hsz, hns⟩ := fm_of ht (fun m hmn v x hv => ih m (by omega) v x hv)
        exact ⟨(f, sl, sr, sk), ⟨by simpa using hcell 0 (by simp), by simpa using hcell 1 (by simp), by simpa using hcell 2 (by simp), by simpa using hcell 3 (by simp), by simpa using hcell 4 (by simp), by simpa using hcell 5 (by simp), by simpa using hcell 6 (by simp), by simpa using hcell 7 (by simp), by simpa using hcell 8 (by simp), hfm⟩, fun _ => ⟨hsz, hns⟩⟩
      have hbulk : (Rows.uptoBulkAll (elems.map (fun x => x.1)) : Int) ≤ (Rows.uptoBulk x.1 : Int) := by
        rw [hx]
        simp only [Rows.uptoBulk]
        omega
      by_cases h0 : len = 0
      · subst h0
        exact ⟨[], .mk (some a) cap [] (fun _ => .slice none 0 0) (fun _ => .slice none 0 0) (fun _ => .slice none 0 0) (Nat.zero_le _) (by omega) (fun h => absurd h (by simp)) (fun i h => absurd h (by simp)) (fun i h => absurd h (by simp)) (fun i h => absurd h (by simp)), by rw [Fm.size.sizes]; omega, fun _ a ha => by simp at ha⟩
      · obtain ⟨p0, ⟨hc0, _⟩, _⟩ := each 0 (by omega)
        have hxb : ∃ b o, a = ⟨b, o, none⟩ := by
          obtain ⟨b, o, spot⟩ := a
          have hspot : spot = none := by simpa [Addr.add] using World.cell?_spot hc0
          exact ⟨b, o, by rw [hspot]⟩
        obtain ⟨b, o, rfl⟩ := hxb
        haveI : Inhabited (Fm × Value × Value × Value) := ⟨(f00, .slice none 0 0, .slice none 0 0, .slice none 0 0)⟩
        obtain ⟨f, hf⟩ := Deep.choose_lt each
        have hlt : b < W.heap.size := by have := lt_of_cell hc0; simpa [Addr.add] using this
        refine ⟨(List.range len).map (fun i => (f i).1), ?_, ?_, ?_⟩
        · have hlen : ((List.range len).map (fun i => (f i).1)).length = len := by simp
          have := KidsP.mk (P := fun b => b < W.heap.size) (W := W) (some ⟨b, o, none⟩) cap ((List.range len).map (fun i => (f i).1)) (fun i => (f i).2.1) (fun i => (f i).2.2.1) (fun i => (f i).2.2.2) (by rw [hlen]; exact hl) (by omega)
            (fun _ => ⟨b, o, hlt, hlt, rfl, fun i hi => by
              have hi' : i < len := by rwa [hlen] at hi
              obtain ⟨⟨k0, k1, k2, k3, k4, k5, k6, k7, k8, _⟩, _⟩ := hf i hi'
              simp only [addr_add, Nat.add_zero] at k0 k1 k2 k3 k4 k5 k6 k7 k8
              simp only [List.getElem_map, List.getElem_range]
              exact ⟨k0, k1, ⟨k2, k3, k4⟩, ⟨k5, k6, k7⟩, k8⟩⟩)
            (fun i hi => by
              have hi' : i < len := by rwa [hlen] at hi
              simp only [List.getElem_map, List.getElem_range]
              exact (hf i hi').1.2.2.2.2.2.2.2.2.2.l)
            (fun i hi => by
              have hi' : i < len := by rwa [hlen] at hi
              simp only [List.getElem_map, List.getElem_range]
              exact (hf i hi').1.2.2.2.2.2.2.2.2.2.r)
            (fun i hi => by
              have hi' : i < len := by rwa [hlen] at hi
              simp only [List.getElem_map, List.getElem_range]
              exact (hf i hi').1.2.2.2.2.2.2.2.2.2.k)
          rw [hlen] at this
          exact this
        · refine Int.le_trans ?_ hbulk
          have := sum_bulk (elems.map (fun x => x.1)) (fun i => (f i).1.size) (fun i hi => by
            have hie : i < elems.length := by simpa using hi
            have := ((hf i (by omega)).2 hie).1
            simpa using this)
          rw [List.length_map, hel] at this
          rw [sizes_sum, List.map_map]
          exact this
        · intro hb t ht
          obtain ⟨i, hi, rfl⟩ := List.mem_map.1 ht
          rw [List.mem_range] at hi
          have hie : i < elems.length := by omega
          have h1 := mem_bulk (elems.map (fun x => x.1)) i (by simpa using hie)
          rw [List.getElem_map] at h1
          exact ((hf i hi).2 hie).2 (by omega)
set_option maxRecDepth 100000 in
/-- What is read of a formula that came in, and how great it is. -/
theorem formula_in {H : Type} {enc : TypeId × Value → H} {W : World} {base : Nat} {v : Value} {d : DataW H} {p : List MemPlace} (hv : Value.okWide Tryz.prog W .any base 27 v)
    (h : DataW.Trod enc Tryz.prog W 0 (fun _ => true) true 27 v d p) : ∃ f sl sr sk, v = fval f sl sr sk ∧ FmP (fun b => b < W.heap.size) W f sl sr sk ∧ f.size ≤ (Rows.uptoBulk d : Int) ∧ (Rows.uptoBulk d ≤ 1048576 → f.nsm) := by
  obtain ⟨cs, rfl, hcs⟩ := okWide_struct Tryz.underlying27 hv
  obtain ⟨fuel, hf⟩ := h
  obtain ⟨f, sl, sr, sk, hc, hfm, hsz, hns⟩ := fm_of hf (fun n _ v x hx => kids_trod n v x hx)
  refine ⟨f, sl, sr, sk, ?_, hfm, hsz, hns⟩
  have : cs.toList = fcells f sl sr sk := hc
  obtain ⟨cl⟩ := cs
  have h2 : cl = fcells f sl sr sk := this
  rw [h2]
