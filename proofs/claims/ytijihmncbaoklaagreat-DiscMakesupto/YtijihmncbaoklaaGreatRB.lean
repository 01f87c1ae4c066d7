/-
  Terms that came in as arguments: how great they are.
-/
import Derived.Test.YtijihmncbaoklaaGreatR
import Derived.Test.YtijihmncbaoklaaGreatK
namespace Go.Proofs.YtijihmncbaoklaaGreat
open Go.ChangeShapes Go.WideShapes Go.ChangeAt Go.RowKit

theorem sum_bulk {H : Type} : ∀ (es : List (DataW H)) (g : Nat → Int), (∀ i (h : i < es.length), g i ≤ (Rows.uptoBulk es[i] : Int)) → ((List.range es.length).map g).sum ≤ (Rows.uptoBulkAll es : Int)
  | [], _, _ => by simp [Rows.uptoBulkAll]
  | d :: r, g, h => by
    have ih := sum_bulk r (fun i => g (i + 1)) (fun i hi => h (i + 1) (by simpa using hi))
    have h0 : g 0 ≤ (Rows.uptoBulk d : Int) := h 0 (by simp)
    have e : (List.range (d :: r).length).map g = g 0 :: (List.range r.length).map (fun i => g (i + 1)) := by
      rw [List.length_cons, List.range_succ_eq_map, List.map_cons, List.map_map]
      rfl
    rw [e, List.sum_cons, Rows.uptoBulkAll]
    omega

theorem args_trodB {H : Type} {enc : TypeId × Value → H} {W : World} : ∀ (fuel : Nat) (v : Value) (x : DataW H × List MemPlace),
    DataW.trod enc Tryz.prog W 0 (fun _ => true) true fuel 23 [v] = some x → ∃ l, ArgsAt W v l ∧ (l.map T.size).sum ≤ (Rows.uptoBulk x.1 : Int) := by
  intro fuel
  induction fuel using Nat.strongRecOn with
  | _ fuel ih =>
    intro v x h
    rcases DataW.trod_slice Tryz.underlying23 h with ⟨hcs, hx⟩ | ⟨a, len, cap, elems, rest, n, rfl, hcs, hx, _, hl, hm, hel, hat, _⟩
    · simp only [List.cons.injEq, and_true] at hcs
      subst hcs
      exact ⟨[], .mk none 0 [] (fun _ => .slice none 0 0) (Nat.le_refl _) (by decide) (fun h => absurd h (by simp)) (fun i h => absurd h (by simp)), by simp⟩
    · simp only [List.cons.injEq, and_true] at hcs
      subst hcs
      rw [Tryz.cells53] at hat
      have each : ∀ i, i < len → ∃ p : T × Value, (W.cell? ((a.add (i * 3)).add 0) = some (.int .i64 p.1.v) ∧ W.cell? ((a.add (i * 3)).add 1) = some (.string p.1.fn) ∧ W.cell? ((a.add (i * 3)).add 2) = some p.2 ∧ ArgsAt W p.2 p.1.args) ∧ ∀ (h : i < elems.length), p.1.size ≤ (Rows.uptoBulk elems[i].1 : Int) := by
        intro i hi
        have hi' := hat i hi
        have hie : i < elems.length := by omega
        rw [List.getElem?_eq_getElem hie] at hi'
        obtain ⟨cs, hc, ht⟩ := Option.bind_eq_some_iff.1 hi'
        obtain ⟨_, hlen, hcell⟩ := World.cells?_some hc
        obtain ⟨v, fn, sl, m, y0, y1, y2, rfl, rfl, _, _, t2, ex, _⟩ := struct24 ht
        obtain ⟨l, hA, hS⟩ := ih m (by omega) sl _ t2
        refine ⟨(.mk v fn l, sl), ⟨by simpa [T.v] using hcell 0 (by simp), by simpa [T.fn] using hcell 1 (by simp), by simpa using hcell 2 (by simp), hA⟩, fun h => ?_⟩
        rw [ex, T.size_eq]
        simp only [Rows.uptoBulk, Rows.uptoBulkAll]
        have hS' : ((T.mk v fn l).args.map T.size).sum ≤ (Rows.uptoBulk y2.1 : Int) := hS
        omega
      have hbulk : (Rows.uptoBulkAll (elems.map (fun x => x.1)) : Int) ≤ (Rows.uptoBulk x.1 : Int) := by
        rw [hx]
        simp only [Rows.uptoBulk]
        omega
      by_cases h0 : len = 0
      · subst h0
        exact ⟨[], .mk (some a) cap [] (fun _ => .slice none 0 0) (Nat.zero_le _) (by unfold maxLen at hm; omega) (fun h => absurd h (by simp)) (fun i h => absurd h (by simp)), by simp⟩
      · obtain ⟨p0, ⟨hc0, _⟩, _⟩ := each 0 (by omega)
        have hxb : ∃ b o, a = ⟨b, o, none⟩ := by
          obtain ⟨b, o, spot⟩ := a
          have hspot : spot = none := by simpa [Addr.add] using World.cell?_spot hc0
          exact ⟨b, o, by rw [hspot]⟩
        obtain ⟨b, o, rfl⟩ := hxb
        haveI : Inhabited (T × Value) := ⟨(.mk 0 ⟨#[]⟩ [], .slice none 0 0)⟩
        obtain ⟨f, hf⟩ := Deep.choose_lt each
        have hlt : b < W.heap.size := by have := lt_of_cell hc0; simpa [Addr.add] using this
        refine ⟨(List.range len).map (fun i => (f i).1), ?_, ?_⟩
        · have hlen : ((List.range len).map (fun i => (f i).1)).length = len := by simp
          have := ArgsAt.mk (W := W) (some ⟨b, o, none⟩) cap ((List.range len).map (fun i => (f i).1)) (fun i => (f i).2) (by rw [hlen]; exact hl) (by unfold maxLen at hm; omega)
            (fun _ => ⟨b, o, hlt, rfl, fun i hi => by
              have hi' : i < len := by rwa [hlen] at hi
              obtain ⟨⟨k0, k1, k2, _⟩, _⟩ := hf i hi'
              simp only [addr_add, Nat.add_zero] at k0 k1 k2
              simp only [List.getElem_map, List.getElem_range]
              exact ⟨k0, k1, k2⟩⟩)
            (fun i hi => by
              have hi' : i < len := by rwa [hlen] at hi
              simp only [List.getElem_map, List.getElem_range]
              exact (hf i hi').1.2.2.2)
          rw [hlen] at this
          exact this
        · refine Int.le_trans ?_ hbulk
          have := sum_bulk (elems.map (fun x => x.1)) (fun i => (f i).1.size) (fun i hi => by
            have hie : i < elems.length := by simpa using hi
            have := (hf i (by omega)).2 hie
            simpa using this)
          rw [List.length_map, hel] at this
          rw [List.map_map]
          exact this

set_option maxRecDepth 100000 in
/-- What is read of a term that came in, and how great it is. -/
theorem term_inB {H : Type} {enc : TypeId × Value → H} {W : World} {base : Nat} {v : Value} {d : DataW H} {p : List MemPlace} (hv : Value.okWide Tryz.prog W .any base 32 v)
    (h : DataW.Trod enc Tryz.prog W 0 (fun _ => true) true 32 v d p) : ∃ t a c, v = tval t (.slice a t.args.length c) ∧ ArgsAt W (.slice a t.args.length c) t.args ∧ t.size ≤ (Rows.uptoBulk d : Int) := by
  obtain ⟨cs, rfl, hcs⟩ := okWide_struct Tryz.underlying32 hv
  obtain ⟨fuel, hf⟩ := h
  obtain ⟨v, fn, sl, n, y0, y1, y2, rfl, hc, _, _, t2, ex, _⟩ := struct24 hf
  obtain ⟨l, hA, hS⟩ := args_trodB n sl _ t2
  obtain ⟨a, c, rfl, _, _⟩ := hA.slice
  refine ⟨.mk v fn l, a, c, ?_, hA, ?_⟩
  · have : cs.toList = [.int .i64 v, .string fn, .slice a l.length c] := hc
    obtain ⟨cl⟩ := cs
    have h2 : cl = [.int .i64 v, .string fn, .slice a l.length c] := this
    rw [h2]
    rfl
  · have e : d = .agg [y0.1, y1.1, y2.1] := congrArg Prod.fst ex
    rw [e, T.size_eq]
    simp only [Rows.uptoBulk, Rows.uptoBulkAll]
    have hS' : ((T.mk v fn l).args.map T.size).sum ≤ (Rows.uptoBulk y2.1 : Int) := hS
    omega

/-- The places of a term's parts are no longer than the term is great. -/
theorem part_len (t : T) : ∀ pl, ∀ q ∈ t.parts pl, (q.1.length : Int) + 1 ≤ pl.length + t.size := by
  induction t using T.ind with
  | _ t ih =>
    intro pl q hq
    have hpos : ∀ l : List T, 0 ≤ (l.map T.size).sum := by
      intro l
      induction l with
      | nil => simp
      | cons a r ihl =>
        have := size_parts a []
        rw [List.map_cons, List.sum_cons]
        omega
    have h : ∀ (l : List T) (i : Nat), (∀ a ∈ l, a ∈ t.args) → ∀ q ∈ T.parts.kids l pl i, (q.1.length : Int) + 1 ≤ pl.length + 1 + (l.map T.size).sum := by
      intro l
      induction l with
      | nil => intro i _ q hq; cases hq
      | cons a r ihl =>
        intro i hm q hq
        rw [List.map_cons, List.sum_cons]
        simp only [T.parts.kids, List.mem_append] at hq
        rcases hq with hq | hq
        · have := ih a (hm a (by simp)) (pl ++ [(i : Int)]) q hq
          have := hpos r
          simp only [List.length_append, List.length_singleton] at *
          omega
        · have := ihl (i + 1) (fun b hb => hm b (by simp [hb])) q hq
          have := size_parts a []
          omega
    rw [t.size_eq]
    rw [t.parts_eq] at hq
    rcases List.mem_cons.1 hq with rfl | hq
    · have := hpos t.args
      simp only
      omega
    · have := h t.args 0 (fun _ h => h) q hq
      omega

theorem short_of (t : T) (h : t.size ≤ 1048576) : Short t ∧ (t.parts []).length ≤ 1048576 := by
  have h1 := size_parts t []
  refine ⟨fun q hq => ?_, by omega⟩
  have := part_len t [] q hq
  simp only [List.length_nil] at this
  omega

end Go.Proofs.YtijihmncbaoklaaGreat
