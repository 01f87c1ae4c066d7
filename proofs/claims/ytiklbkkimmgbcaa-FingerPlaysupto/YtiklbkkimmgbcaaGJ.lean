/-
  The document's index, in memory; its Insert.
-/
import Derived.Test.YtiklbkkimmgbcaaFQ
namespace Go.Proofs.Ytiklbkkimmgbcaa
open Go.RowKit Go.Maps

/-- What an index of the document's keeps: a number, a term, and where its arguments lie. -/
abbrev En := Int × T × Value
def flE (l : List En) : List Value := l.flatMap fun e => [.int .i64 e.1, .int .i64 e.2.1.v, .string e.2.1.fn, e.2.2]
theorem flE_len (l : List En) : (flE l).length = l.length * 4 := by
  induction l with
  | nil => rfl
  | cons a r ih => simp only [flE, List.flatMap_cons, List.length_append, List.length_cons, List.length_nil] at ih ⊢; omega
theorem flE_snoc (l : List En) (e : En) : flE (l ++ [e]) = flE l ++ [.int .i64 e.1, .int .i64 e.2.1.v, .string e.2.1.fn, e.2.2] := by simp [flE]
theorem flE_get : ∀ (l : List En) (i : Nat) (h : i < l.length), (flE l)[i * 4]? = some (.int .i64 l[i].1) ∧ (flE l)[i * 4 + 1]? = some (.int .i64 l[i].2.1.v) ∧ (flE l)[i * 4 + 2]? = some (.string l[i].2.1.fn) ∧ (flE l)[i * 4 + 3]? = some l[i].2.2
  | f :: l, 0, _ => ⟨rfl, rfl, rfl, rfl⟩
  | f :: l, i + 1, h => by
    have ih := flE_get l i (by simpa using h)
    have e : ∀ j, (flE (f :: l))[(i + 1) * 4 + j]? = (flE l)[i * 4 + j]? := fun j => by
      show ([.int .i64 f.1, .int .i64 f.2.1.v, .string f.2.1.fn, f.2.2] ++ flE l)[(i + 1) * 4 + j]? = _
      rw [List.getElem?_append_right (by simp; omega)]
      congr 1
      simp
      omega
    exact ⟨(e 0).trans ih.1, (e 1).trans ih.2.1, (e 2).trans ih.2.2.1, (e 3).trans ih.2.2.2⟩
/-- Entries in memory. -/
def EtAt (W : World) (v : Value) (l : List En) : Prop :=
  ∃ a c, v = .slice a l.length c ∧ l.length ≤ c ∧ c ≤ 9223372036854775807 ∧ (0 < l.length → ∃ b, b < W.heap.size ∧ a = some ⟨b, 0, none⟩ ∧ ∀ i (h : i < l.length), W.cell? ⟨b, i * 4, none⟩ = some (.int .i64 l[i].1) ∧ W.cell? ⟨b, i * 4 + 1, none⟩ = some (.int .i64 l[i].2.1.v) ∧ W.cell? ⟨b, i * 4 + 2, none⟩ = some (.string l[i].2.1.fn) ∧ W.cell? ⟨b, i * 4 + 3, none⟩ = some l[i].2.2)
def vblk : Value → Option Nat
  | .slice (some a) (_ + 1) _ => some a.block
  | _ => none
theorem EtAt.same {W W' : World} {v : Value} {l : List En} (h : EtAt W v l) (hb : ∀ g, vblk v = some g → W'.heap[g]? = W.heap[g]?) : EtAt W' v l := by
  obtain ⟨a, c, h1, h2, h3, h4⟩ := h
  refine ⟨a, c, h1, h2, h3, fun h0 => ?_⟩
  obtain ⟨b, hlt, ha, hc⟩ := h4 h0
  have hv : vblk v = some b := by
    rw [h1, ha]
    obtain ⟨n, hn⟩ : ∃ n, l.length = n + 1 := ⟨l.length - 1, by omega⟩
    rw [hn]; rfl
  have hbb := hb b hv
  have hk : ∀ o, W'.cell? ⟨b, o, none⟩ = W.cell? ⟨b, o, none⟩ := fun o => by simp only [World.cell?, hbb]
  refine ⟨b, ?_, ha, fun i hi => by rw [hk, hk, hk, hk]; exact hc i hi⟩
  rcases Nat.lt_or_ge b W'.heap.size with h | h
  · exact h
  · rw [Array.getElem?_eq_none h, Array.getElem?_eq_getElem hlt] at hbb; cases hbb
theorem EtAt.blk {W : World} {v : Value} {l : List En} (h : EtAt W v l) {g : Nat} (hg : vblk v = some g) : g < W.heap.size := by
  obtain ⟨a, c, h1, h2, h3, h4⟩ := h
  rw [h1] at hg
  rcases Nat.eq_zero_or_pos l.length with h0 | h0
  · rw [h0] at hg; cases a <;> cases hg
  · obtain ⟨b, hlt, ha, _⟩ := h4 h0
    obtain ⟨n, hn⟩ : ∃ n, l.length = n + 1 := ⟨l.length - 1, by omega⟩
    rw [ha, hn] at hg
    have : b = g := by simpa [vblk] using hg
    omega
theorem EtAt.keep {W W' : World} {v : Value} {l : List En} (h : EtAt W v l) (hb : Below W.heap.size W W') : EtAt W' v l := h.same (fun _ hg => hb.block _ (h.blk hg))
theorem EtAt.slice {W : World} {v : Value} {l : List En} (h : EtAt W v l) : ∃ a c, v = .slice a l.length c ∧ l.length ≤ c ∧ c ≤ 9223372036854775807 := by
  obtain ⟨a, c, h1, h2, h3, h4⟩ := h
  exact ⟨a, c, h1, h2, h3⟩
theorem EtAt.nth {W : World} {a : Option Addr} {n c : Nat} {l : List En} (h : EtAt W (.slice a n c) l) {i : Nat} (hi : i < l.length) : ∃ b, a = some ⟨b, 0, none⟩ ∧ b < W.heap.size ∧ W.cell? ⟨b, i * 4, none⟩ = some (.int .i64 l[i].1) ∧ W.cell? ⟨b, i * 4 + 1, none⟩ = some (.int .i64 l[i].2.1.v) ∧ W.cell? ⟨b, i * 4 + 2, none⟩ = some (.string l[i].2.1.fn) ∧ W.cell? ⟨b, i * 4 + 3, none⟩ = some l[i].2.2 := by
  obtain ⟨a', c', h1, h2, h3, h4⟩ := h
  obtain ⟨b, hlt, ha, hc⟩ := h4 (by omega)
  cases h1
  exact ⟨b, ha, hlt, hc i hi⟩
theorem etAt_of_row {W : World} {base : Nat} {ty : TypeId} {v : Value} {l : List En} (h : W.ownsRow base ty 4 v l.length (flE l)) : EtAt W v l := by
  obtain ⟨hl, ⟨e, h0⟩ | ⟨g, cap, cur, e, hb, hg, hc, hm, hsz, ht⟩⟩ := h
  · have : l = [] := List.eq_nil_of_length_eq_zero h0
    subst this
    exact ⟨none, 0, e, Nat.le_refl _, by omega, fun h => absurd h (by simp)⟩
  · refine ⟨_, cap, e, hc, by unfold maxLen at hm; omega, fun _ => ⟨g, (Array.getElem?_eq_some_iff.1 hg).1, rfl, fun i hi => ?_⟩⟩
    have hget : ∀ j u, (flE l)[j]? = some u → W.cell? ⟨g, j, none⟩ = some u := fun j u hj => by
      have hjl : j < l.length * 4 := by have := (List.getElem?_eq_some_iff.1 hj).1; rwa [flE_len] at this
      rw [← ht, List.getElem?_take, if_pos hjl] at hj
      rw [cell_of_row _ _ _ _ ty (0, 0) hg, ← hj]
      simp
    obtain ⟨q0, q1, q2, q3⟩ := flE_get l i hi
    exact ⟨hget _ _ q0, hget _ _ q1, hget _ _ q2, hget _ _ q3⟩
theorem vblk_row {W : World} {base : Nat} {ty : TypeId} {v : Value} {n : Nat} {xs : List Value} (h : W.ownsRow base ty 4 v n xs) {g : Nat} (hg : vblk v = some g) : base ≤ g := by
  obtain ⟨hl, ⟨e, h0⟩ | ⟨g', cap, cur, e, hb, _⟩⟩ := h
  · rw [e] at hg; cases hg
  · rw [e] at hg
    cases n with
    | zero => cases hg
    | succ n =>
      have : g' = g := by simpa [vblk] using hg
      omega
/-- The document's index. -/
structure Dx (W : World) (rx : Nat) (v : Value) (l : List En) : Prop where
  box : W.heap[rx]? = some (.cells #[v] 41 (0, 0))
  row : EtAt W v l
theorem Dx.keep {W W' : World} {rx : Nat} {v : Value} {l : List En} (h : Dx W rx v l) (hb : Below W.heap.size W W') : Dx W' rx v l := ⟨(hb.block _ (Array.getElem?_eq_some_iff.1 h.box).1).trans h.box, h.row.keep hb⟩
theorem Dx.cell {W : World} {rx : Nat} {v : Value} {l : List En} (h : Dx W rx v l) : W.cell? ⟨rx, 0, none⟩ = some v := by simp [World.cell?, h.box]

/-- Insert, entry by entry. -/
def stE (e : En) (s : List En × Bool) (x : En) : List En × Bool := if s.2 = false ∧ e.1 < x.1 then (s.1 ++ [e] ++ [x], true) else (s.1 ++ [x], s.2)
def insS (e : En) (l : List En) : List En × Bool := l.foldl (stE e) ([], false)
def insE (e : En) (l : List En) : List En := if (insS e l).2 then (insS e l).1 else (insS e l).1 ++ [e]
theorem insS_snoc (e : En) (l : List En) (i : Nat) (hi : i < l.length) : insS e (l.take (i + 1)) = stE e (insS e (l.take i)) l[i] := by
  unfold insS
  rw [List.take_succ_eq_append_getElem hi, List.foldl_append]
  rfl
theorem stE_pos {e : En} {s : List En × Bool} {x : En} (h : s.2 = false ∧ e.1 < x.1) : stE e s x = (s.1 ++ [e] ++ [x], true) := by unfold stE; rw [if_pos h]
theorem stE_neg {e : En} {s : List En × Bool} {x : En} (h : ¬ (s.2 = false ∧ e.1 < x.1)) : stE e s x = (s.1 ++ [x], s.2) := by unfold stE; rw [if_neg h]
theorem stE_len (e : En) : ∀ (l : List En) (s : List En × Bool), (l.foldl (stE e) s).1.length ≤ s.1.length + l.length + 1 ∧ (s.2 = true → (l.foldl (stE e) s).1.length = s.1.length + l.length)
  | [], s => by simp
  | x :: l, s => by
    have ih := stE_len e l (stE e s x)
    rw [List.foldl_cons]
    by_cases h : s.2 = false ∧ e.1 < x.1
    · rw [stE_pos h] at ih ⊢
      have h3 : _ = (s.1 ++ [e] ++ [x]).length + l.length := ih.2 rfl
      simp only [List.length_append, List.length_cons, List.length_nil] at h3 ⊢
      exact ⟨by omega, fun ht => by rw [h.1] at ht; cases ht⟩
    · rw [stE_neg h] at ih ⊢
      simp only [List.length_append, List.length_cons, List.length_nil] at ih ⊢
      exact ⟨by omega, fun ht => by have := ih.2 ht; omega⟩
/-- None has that number. -/
def NoId (l : List En) (id : Int) : Prop := ∀ x ∈ l, x.1 ≠ id
/-- Behind the store into the index. -/
theorem dx_set {W W1 wr : World} {rx : Nat} {v v' : Value} {l : List En} (b1 : Below W.heap.size W W1) (hr : rx < W.heap.size) (hb : Below W1.heap.size W1 wr) (hbox : wr.heap[rx]? = some (.cells #[v] 41 (0, 0))) (hrow : wr.ownsRow W1.heap.size 84 4 v' l.length (flE l)) :
    Dx (wr.setCell ⟨rx, 0, none⟩ v') rx v' l ∧ (∀ g, vblk v' = some g → W.heap.size ≤ g) ∧ Only [rx] W (wr.setCell ⟨rx, 0, none⟩ v') := by
  have z1 := b1.size
  have hon := only_setCell wr rx 0 v'
  refine ⟨⟨Go.heap_setCell_same wr rx 0 _ 41 v' hbox, (etAt_of_row hrow).same (fun g hg => ?_)⟩, fun g hg => by have := vblk_row hrow hg; omega, (Only.of_below (b1.trans (hb.mono z1))).trans hon (fun r hr => .inl hr)⟩
  have := vblk_row hrow hg
  exact hon.block g ((etAt_of_row hrow).blk hg) (by simp; omega)
theorem Try.info84q : (Try.prog.info? 84).map (fun i => (i.zero, i.size, i.bytes)) = some (some (.agg #[.int .i64 0, .int .i64 0, .string ⟨#[]⟩, .slice none 0 0]), 4, 56) := by kernel_rfl

set_option maxHeartbeats 2000000 in
theorem rinsert_wrong (rx : Nat) (id : Int) (t : T) (s : Value) (W : World) (hr : t.rightW ≠ 0) (ha : ArgsAt W s t.args) : Calls Try.prog 19 #[.pointer (some ⟨rx, 0, none⟩), .int .i64 id, tval t s] W fun e W' => e = .returned (.int .i64 1) ∧ Below W.heap.size W W' := by
  obtain ⟨W1, h1⟩ : ∃ X, W.alloc (tbox t s) = X := ⟨_, rfl⟩
  have b1 : Below W.heap.size W W1 := by rw [← h1]; exact below_box _ _
  obtain ⟨x0, x1, x2⟩ := tbox_cells W t s
  rw [h1] at x0 x1 x2
  have hc28 := rright_any t s W1 (ArgsAt.keep b1 (Nat.le_refl _) ha)
  have hz : (t.rightW != 0) = true := by simpa using hr
  obtain ⟨z, hzz⟩ : ∃ z, t.rightW = z := ⟨_, rfl⟩
  rw [hzz] at hc28 hz
  obtain ⟨sa, sc, rfl, _, _⟩ := ha.slice
  have HB : Hid (Below W.heap.size W W1) := b1
  clear ha hr hzz b1
  go_enter Try.func19, Try.ntmps19
  try rw [h1]
  go_wp2_with fail
  try rw [h1]
  refine hc28.mono ?_
  rintro e W2 ⟨rfl, b2⟩
  have HB2 : Hid (Below W.heap.size W W2) := HB.out.trans (b2.mono HB.out.size)
  clear b2
  go_wp2
  go_ret
  exact ⟨rfl, HB2.out⟩

set_option maxRecDepth 100000 in
set_option maxHeartbeats 8000000 in
theorem rinsert_any (rx : Nat) (v : Value) (l : List En) (hlen : l.length ≤ 1048576) (hones : ∀ x ∈ l, x.2.2.oneCell' = true) (id : Int) (t : T) (s : Value) (hr : t.rightW = 0) (W : World) (hD : Dx W rx v l) (ha : ArgsAt W s t.args) :
    Calls Try.prog 19 #[.pointer (some ⟨rx, 0, none⟩), .int .i64 id, tval t s] W fun e W' => ((∃ x ∈ l, x.1 = id) ∧ e = .returned (.int .i64 43) ∧ Below W.heap.size W W') ∨ (NoId l id ∧ e = .returned (.int .i64 0) ∧ ∃ v', Dx W' rx v' (insE (id, t, s) l) ∧ (∀ g, vblk v' = some g → W.heap.size ≤ g) ∧ Only [rx] W W') := by
  obtain ⟨W1, h1⟩ : ∃ X, W.alloc (tbox t s) = X := ⟨_, rfl⟩
  have b1 : Below W.heap.size W W1 := by rw [← h1]; exact below_box _ _
  have s1 : W1.heap.size = W.heap.size + 1 := by rw [← h1]; simp
  obtain ⟨x0, x1, x2⟩ := tbox_cells W t s
  rw [h1] at x0 x1 x2
  have hc28 := rright_any t s W1 (ArgsAt.keep b1 (Nat.le_refl _) ha)
  rw [hr] at hc28
  obtain ⟨i0, hi0, hz0, hz1, hz2⟩ := info_parts Try.info84q
  obtain ⟨a1, c1, rfl, hc1, hm1⟩ := hD.row.slice
  have lrx := (Array.getElem?_eq_some_iff.1 hD.box).1
  obtain ⟨sa, sc, rfl, _, _⟩ := ha.slice
  have HX : Hid (∀ Z, Below W1.heap.size W1 Z → Z.cell? ⟨W.heap.size, 0, none⟩ = some (.int .i64 t.v) ∧ Z.cell? ⟨W.heap.size, 1, none⟩ = some (.string t.fn) ∧ Z.cell? ⟨W.heap.size, 2, none⟩ = some (.slice sa t.args.length sc) ∧ Dx Z rx (.slice a1 l.length c1) l) := fun Z hZ => ⟨kc hZ (by omega) x0, kc hZ (by omega) x1, kc hZ (by omega) x2, (hD.keep b1).keep hZ⟩
  have HB1 : Hid (Below W.heap.size W W1 ∧ rx < W.heap.size ∧ W1.heap.size = W.heap.size + 1) := ⟨b1, lrx, s1⟩
  clear hD ha hr b1 lrx
  go_enter Try.func19, Try.ntmps19
  try rw [h1]
  go_wp2_with fail
  try rw [h1]
  refine hc28.mono ?_
  rintro e W2 ⟨rfl, b2⟩
  have HB2 : Hid (Below W1.heap.size W1 W2) := b2
  clear b2 hc28 x0 x1 x2
  go_wp2
  go_loopw [7, 8, 9] (fun vo vb vi wr => ∃ (i n : Nat) (oa : Option Addr) (oc : Nat) (b : Bool), vi = .int .i64 i ∧ vb = .bool b ∧ vo = .slice oa n oc ∧ i ≤ l.length ∧ Hid (Below W1.heap.size W1 wr ∧ wr.ownsRow W1.heap.size 84 4 (.slice oa n oc) n (flE (insS (id, t, .slice sa t.args.length sc) (l.take i)).1) ∧ (insS (id, t, .slice sa t.args.length sc) (l.take i)).2 = b ∧ (insS (id, t, .slice sa t.args.length sc) (l.take i)).1.length = n ∧ ∀ x ∈ l.take i, x.1 ≠ id)) (fun _ _ vi _ => l.length - (intOf vi).toNat)
  case atStart => exact ⟨0, 0, none, 0, false, rfl, rfl, rfl, Nat.zero_le _, HB2.out, World.ownsRow_nil _ _ _ _, rfl, rfl, by simp⟩
  case round =>
    obtain ⟨i, n, oa, oc, b, rfl, rfl, rfl, hi, HI⟩ := hrel
    obtain ⟨y0, y1, y2, hDz⟩ := HX.out wr HI.out.1
    have cx := hDz.cell
    have hnb : n ≤ l.length + 1 := by
      have h1 := (stE_len (id, t, .slice sa t.args.length sc) (l.take i) ([], false)).1
      have h2 : (l.take i).length ≤ l.length := by simp; omega
      have h3 := HI.out.2.2.2.1
      unfold insS at h3
      simp only [List.length_nil] at h1
      omega
    by_cases hlt : i < l.length
    · have hiI : (i : Int) < (l.length : Int) := by omega
      have hn0 : (0 : Int) ≤ (i : Int) := by omega
      obtain ⟨bb, rfl, hbb, z0, z1, z2, z3⟩ := hDz.row.nth hlt
      obtain ⟨x, hx⟩ : ∃ x, l[i] = x := ⟨_, rfl⟩
      rw [hx] at z0 z1 z2 z3
      have HE : Hid (i < l.length ∧ l[i]? = some x) := ⟨hlt, by rw [List.getElem?_eq_getElem hlt, hx]⟩
      have HS : Hid (insS (id, t, .slice sa t.args.length sc) (l.take (i + 1)) = stE (id, t, .slice sa t.args.length sc) (insS (id, t, .slice sa t.args.length sc) (l.take i)) x ∧ l.take (i + 1) = l.take i ++ [x]) := by
        refine ⟨?_, ?_⟩
        · rw [insS_snoc _ _ _ hlt, hx]
        · rw [List.take_succ_eq_append_getElem hlt, hx]
      by_cases hxi : x.1 = id
      · have HR : Hid ((∃ x ∈ l, x.1 = id) ∧ Below W.heap.size W wr) := ⟨⟨x, hx ▸ List.getElem_mem hlt, hxi⟩, HB1.out.1.trans (HI.out.1.mono HB1.out.1.size)⟩
        rw [hxi] at z0
        clear hDz HI hx hbb hxi HE HS
        go_wp2
        go_ret
        exact .inl ⟨HR.out.1, rfl, HR.out.2⟩
      · have hxI : ¬ (x.1 == id) = true := by simpa using hxi
        have hone : x.2.2.oneCell' = true := hones x (hx ▸ List.getElem_mem hlt)
        by_cases hin : b = false ∧ id < x.1
        · obtain ⟨rfl, hgt⟩ := hin
          have HN : Hid (∀ v' n' xs' w6, w6.ownsRow W1.heap.size 84 4 v' n' xs' → (wr.alloc (.cells #[.int .i64 id, .int .i64 t.v, .string t.fn, .slice sa t.args.length sc] 84)).grownBy w6 (Value.slice oa n oc).ownBlock → Below W1.heap.size W1 w6 ∧ w6.cell? ⟨rx, 0, none⟩ = some (.slice (some ⟨bb, 0, none⟩) l.length c1) ∧ w6.cell? ⟨bb, i * 4, none⟩ = some (.int .i64 x.1) ∧ w6.cell? ⟨bb, i * 4 + 1, none⟩ = some (.int .i64 x.2.1.v) ∧ w6.cell? ⟨bb, i * 4 + 2, none⟩ = some (.string x.2.1.fn) ∧ w6.cell? ⟨bb, i * 4 + 3, none⟩ = some x.2.2 ∧ (w6.alloc (.cells #[.int .i64 x.1, .int .i64 x.2.1.v, .string x.2.1.fn, x.2.2] 84)).ownsRow W1.heap.size 84 4 v' n' xs' ∧ W1.heap.size ≤ (w6.alloc (.cells #[.int .i64 x.1, .int .i64 x.2.1.v, .string x.2.1.fn, x.2.2] 84)).heap.size) := fun v' n' xs' w6 ho hg => by
            have hb0 : Below W1.heap.size W1 (wr.alloc (.cells #[.int .i64 id, .int .i64 t.v, .string t.fn, .slice sa t.args.length sc] 84)) := HI.out.1.trans ((below_box wr _).mono HI.out.1.size)
            have hb6 : Below W1.heap.size W1 w6 := hb0.trans (below_of_grown hg hb0.size (fun g e => (row_block HI.out.2.1 e).1))
            obtain ⟨_, _, _, hDq⟩ := HX.out w6 hb6
            obtain ⟨b', e', _, u0, u1, u2, u3⟩ := hDq.row.nth HE.out.1
            obtain rfl : bb = b' := by injection e' with e'; injection e' with e'
            obtain ⟨_, hq⟩ := List.getElem?_eq_some_iff.1 HE.out.2
            rw [hq] at u0 u1 u2 u3
            refine ⟨hb6, hDq.cell, u0, u1, u2, u3, ?_, ?_⟩
            · exact row_keep ho (fun g hg => by
                obtain ⟨_, cq, hcq⟩ := row_block ho hg
                exact (below_box w6 _).block g (Array.getElem?_eq_some_iff.1 hcq).1)
            · have := hb6.size; simp; omega
          have hrow5 := row_keep HI.out.2.1 (W' := wr.alloc (.cells #[.int .i64 id, .int .i64 t.v, .string t.fn, .slice sa t.args.length sc] 84)) (fun g hg => by
            obtain ⟨_, cq, hcq⟩ := row_block HI.out.2.1 hg
            exact (below_box wr _).block g (Array.getElem?_eq_some_iff.1 hcq).1)
          have hbs : W1.heap.size ≤ (wr.alloc (.cells #[.int .i64 id, .int .i64 t.v, .string t.fn, .slice sa t.args.length sc] 84)).heap.size := by have := HI.out.1.size; simp; omega
          have HS2 : Hid (stE (id, t, .slice sa t.args.length sc) (insS (id, t, .slice sa t.args.length sc) (l.take i)) x = ((insS (id, t, .slice sa t.args.length sc) (l.take i)).1 ++ [(id, t, .slice sa t.args.length sc)] ++ [x], true)) := stE_pos ⟨HI.out.2.2.1, hgt⟩
          clear hDz hbb
          go_wp2_with (first | ((at_builtin; refine wpList_append_own_at _ rfl _ _ 39 rfl (W1.heap.size) 84 i0 _ 4 56 Try.underlying39 hi0 hz0 hz1 hz2 rfl (by decide) (.slice oa n oc) (n) (_) rfl hrow5 ⟨wr.heap.size, 0, none⟩ 1 1 [.int .i64 id, .int .i64 t.v, .string t.fn, .slice sa t.args.length sc] rfl rfl (fun j u hj => by rw [Addr.add_mid, Nat.zero_add, cell_of_row _ _ _ _ 84 (0, 0) (MapKept.heap_alloc wr _).1]; simpa using hj) (by intro u hu; simp only [List.mem_cons, List.not_mem_nil, or_false] at hu; rcases hu with rfl | rfl | rfl | rfl <;> first | rfl | exact hone) (by unfold maxLen; omega) (by omega) hbs ?_; intro v6 w6 hown6 hg6 hnil6 hat6); obtain ⟨B6, cx6, u0, u1, u2, u3, hrow7, hbs7⟩ := HN.out _ _ _ _ hown6 hg6) | ((at_builtin; refine wpList_append_own_at _ rfl _ _ 39 rfl (W1.heap.size) 84 i0 _ 4 56 Try.underlying39 hi0 hz0 hz1 hz2 rfl (by decide) (v6) (n + 1) (_) rfl hrow7 ⟨w6.heap.size, 0, none⟩ 1 1 [.int .i64 x.1, .int .i64 x.2.1.v, .string x.2.1.fn, x.2.2] rfl rfl (fun j u hj => by rw [Addr.add_mid, Nat.zero_add, cell_of_row _ _ _ _ 84 (0, 0) (MapKept.heap_alloc w6 _).1]; simpa using hj) (by intro u hu; simp only [List.mem_cons, List.not_mem_nil, or_false] at hu; rcases hu with rfl | rfl | rfl | rfl <;> first | rfl | exact hone) (by unfold maxLen; omega) (by omega) hbs7 ?_; intro v7 w7 hown7 hg7 hnil7 hat7)))
          have HR : Hid (∃ a6 c6, v7 = .slice a6 (n + 2) c6 ∧ Below W1.heap.size W1 w7 ∧ w7.ownsRow W1.heap.size 84 4 v7 (n + 2) (flE (insS (id, t, .slice sa t.args.length sc) (l.take (i + 1))).1) ∧ (insS (id, t, .slice sa t.args.length sc) (l.take (i + 1))).2 = true ∧ (insS (id, t, .slice sa t.args.length sc) (l.take (i + 1))).1.length = n + 2 ∧ ∀ y ∈ l.take (i + 1), y.1 ≠ id) := by
            obtain ⟨a6, c6, e6⟩ := row_slice hown7
            have hb0 : Below W1.heap.size W1 (w6.alloc (.cells #[.int .i64 x.1, .int .i64 x.2.1.v, .string x.2.1.fn, x.2.2] 84)) := B6.trans ((below_box w6 _).mono B6.size)
            refine ⟨a6, c6, e6, hb0.trans (below_of_grown hg7 hb0.size (fun g e => (row_block hown6 e).1)), ?_, ?_, ?_, ?_⟩
            · rw [HS.out.1, HS2.out, flE_snoc, flE_snoc]; exact hown7
            · rw [HS.out.1, HS2.out]
            · rw [HS.out.1, HS2.out]; simp [HI.out.2.2.2.1]
            · rw [HS.out.2]
              intro y hy
              rcases List.mem_append.1 hy with hy | hy
              · exact HI.out.2.2.2.2 y hy
              · rw [List.mem_singleton.1 hy]; exact hxi
          go_roundw
          case rel => obtain ⟨a6, c6, rfl, hr⟩ := HR.out; exact ⟨i + 1, n + 2, a6, c6, true, by go_num, rfl, rfl, by have := HE.out.1; omega, hr⟩
          case measure => simp [intOf]; have := HE.out.1; omega
        · cases b
          · have hgt : ¬ id < x.1 := fun h => hin ⟨rfl, h⟩
            have hgI : ¬ (decide (id < x.1)) = true := by simpa using hgt
            have HN : Hid (∀ v' n' xs' w6, w6.ownsRow W1.heap.size 84 4 v' n' xs' → (wr.alloc (.cells #[.int .i64 x.1, .int .i64 x.2.1.v, .string x.2.1.fn, x.2.2] 84)).grownBy w6 (Value.slice oa n oc).ownBlock → Below W1.heap.size W1 w6 ∧ w6.cell? ⟨rx, 0, none⟩ = some (.slice (some ⟨bb, 0, none⟩) l.length c1) ∧ w6.cell? ⟨bb, i * 4, none⟩ = some (.int .i64 x.1) ∧ w6.cell? ⟨bb, i * 4 + 1, none⟩ = some (.int .i64 x.2.1.v) ∧ w6.cell? ⟨bb, i * 4 + 2, none⟩ = some (.string x.2.1.fn) ∧ w6.cell? ⟨bb, i * 4 + 3, none⟩ = some x.2.2 ∧ (w6.alloc (.cells #[.int .i64 x.1, .int .i64 x.2.1.v, .string x.2.1.fn, x.2.2] 84)).ownsRow W1.heap.size 84 4 v' n' xs' ∧ W1.heap.size ≤ (w6.alloc (.cells #[.int .i64 x.1, .int .i64 x.2.1.v, .string x.2.1.fn, x.2.2] 84)).heap.size) := fun v' n' xs' w6 ho hg => by
              have hb0 : Below W1.heap.size W1 (wr.alloc (.cells #[.int .i64 x.1, .int .i64 x.2.1.v, .string x.2.1.fn, x.2.2] 84)) := HI.out.1.trans ((below_box wr _).mono HI.out.1.size)
              have hb6 : Below W1.heap.size W1 w6 := hb0.trans (below_of_grown hg hb0.size (fun g e => (row_block HI.out.2.1 e).1))
              obtain ⟨_, _, _, hDq⟩ := HX.out w6 hb6
              obtain ⟨b', e', _, u0, u1, u2, u3⟩ := hDq.row.nth HE.out.1
              obtain rfl : bb = b' := by injection e' with e'; injection e' with e'
              obtain ⟨_, hq⟩ := List.getElem?_eq_some_iff.1 HE.out.2
              rw [hq] at u0 u1 u2 u3
              refine ⟨hb6, hDq.cell, u0, u1, u2, u3, ?_, ?_⟩
              · exact row_keep ho (fun g hg => by
                  obtain ⟨_, cq, hcq⟩ := row_block ho hg
                  exact (below_box w6 _).block g (Array.getElem?_eq_some_iff.1 hcq).1)
              · have := hb6.size; simp; omega
            have hrow5 := row_keep HI.out.2.1 (W' := wr.alloc (.cells #[.int .i64 x.1, .int .i64 x.2.1.v, .string x.2.1.fn, x.2.2] 84)) (fun g hg => by
              obtain ⟨_, cq, hcq⟩ := row_block HI.out.2.1 hg
              exact (below_box wr _).block g (Array.getElem?_eq_some_iff.1 hcq).1)
            have hbs : W1.heap.size ≤ (wr.alloc (.cells #[.int .i64 x.1, .int .i64 x.2.1.v, .string x.2.1.fn, x.2.2] 84)).heap.size := by have := HI.out.1.size; simp; omega
            have HS2 : Hid (stE (id, t, .slice sa t.args.length sc) (insS (id, t, .slice sa t.args.length sc) (l.take i)) x = ((insS (id, t, .slice sa t.args.length sc) (l.take i)).1 ++ [x], false)) := by
              show _ = _
              rw [stE_neg (by rw [HI.out.2.2.1]; exact fun h => hgt h.2), HI.out.2.2.1]
            clear hDz hbb
            go_wp2_with (first | ((at_builtin; refine wpList_append_own_at _ rfl _ _ 39 rfl (W1.heap.size) 84 i0 _ 4 56 Try.underlying39 hi0 hz0 hz1 hz2 rfl (by decide) (.slice oa n oc) (n) (_) rfl hrow5 ⟨wr.heap.size, 0, none⟩ 1 1 [.int .i64 x.1, .int .i64 x.2.1.v, .string x.2.1.fn, x.2.2] rfl rfl (fun j u hj => by rw [Addr.add_mid, Nat.zero_add, cell_of_row _ _ _ _ 84 (0, 0) (MapKept.heap_alloc wr _).1]; simpa using hj) (by intro u hu; simp only [List.mem_cons, List.not_mem_nil, or_false] at hu; rcases hu with rfl | rfl | rfl | rfl <;> first | rfl | exact hone) (by unfold maxLen; omega) (by omega) hbs ?_; intro v6 w6 hown6 hg6 hnil6 hat6)))
            have HR : Hid (∃ a6 c6, v6 = .slice a6 (n + 1) c6 ∧ Below W1.heap.size W1 w6 ∧ w6.ownsRow W1.heap.size 84 4 v6 (n + 1) (flE (insS (id, t, .slice sa t.args.length sc) (l.take (i + 1))).1) ∧ (insS (id, t, .slice sa t.args.length sc) (l.take (i + 1))).2 = false ∧ (insS (id, t, .slice sa t.args.length sc) (l.take (i + 1))).1.length = n + 1 ∧ ∀ y ∈ l.take (i + 1), y.1 ≠ id) := by
              obtain ⟨a6, c6, e6⟩ := row_slice hown6
              refine ⟨a6, c6, e6, (HN.out _ _ _ _ hown6 hg6).1, ?_, ?_, ?_, ?_⟩
              · rw [HS.out.1, HS2.out, flE_snoc]; exact hown6
              · rw [HS.out.1, HS2.out]
              · rw [HS.out.1, HS2.out]; simp [HI.out.2.2.2.1]
              · rw [HS.out.2]
                intro y hy
                rcases List.mem_append.1 hy with hy | hy
                · exact HI.out.2.2.2.2 y hy
                · rw [List.mem_singleton.1 hy]; exact hxi
            go_roundw
            case rel => obtain ⟨a6, c6, rfl, hr⟩ := HR.out; exact ⟨i + 1, n + 1, a6, c6, false, by go_num, rfl, rfl, by have := HE.out.1; omega, hr⟩
            case measure => simp [intOf]; have := HE.out.1; omega
          · have HN : Hid (∀ v' n' xs' w6, w6.ownsRow W1.heap.size 84 4 v' n' xs' → (wr.alloc (.cells #[.int .i64 x.1, .int .i64 x.2.1.v, .string x.2.1.fn, x.2.2] 84)).grownBy w6 (Value.slice oa n oc).ownBlock → Below W1.heap.size W1 w6 ∧ w6.cell? ⟨rx, 0, none⟩ = some (.slice (some ⟨bb, 0, none⟩) l.length c1) ∧ w6.cell? ⟨bb, i * 4, none⟩ = some (.int .i64 x.1) ∧ w6.cell? ⟨bb, i * 4 + 1, none⟩ = some (.int .i64 x.2.1.v) ∧ w6.cell? ⟨bb, i * 4 + 2, none⟩ = some (.string x.2.1.fn) ∧ w6.cell? ⟨bb, i * 4 + 3, none⟩ = some x.2.2 ∧ (w6.alloc (.cells #[.int .i64 x.1, .int .i64 x.2.1.v, .string x.2.1.fn, x.2.2] 84)).ownsRow W1.heap.size 84 4 v' n' xs' ∧ W1.heap.size ≤ (w6.alloc (.cells #[.int .i64 x.1, .int .i64 x.2.1.v, .string x.2.1.fn, x.2.2] 84)).heap.size) := fun v' n' xs' w6 ho hg => by
              have hb0 : Below W1.heap.size W1 (wr.alloc (.cells #[.int .i64 x.1, .int .i64 x.2.1.v, .string x.2.1.fn, x.2.2] 84)) := HI.out.1.trans ((below_box wr _).mono HI.out.1.size)
              have hb6 : Below W1.heap.size W1 w6 := hb0.trans (below_of_grown hg hb0.size (fun g e => (row_block HI.out.2.1 e).1))
              obtain ⟨_, _, _, hDq⟩ := HX.out w6 hb6
              obtain ⟨b', e', _, u0, u1, u2, u3⟩ := hDq.row.nth HE.out.1
              obtain rfl : bb = b' := by injection e' with e'; injection e' with e'
              obtain ⟨_, hq⟩ := List.getElem?_eq_some_iff.1 HE.out.2
              rw [hq] at u0 u1 u2 u3
              refine ⟨hb6, hDq.cell, u0, u1, u2, u3, ?_, ?_⟩
              · exact row_keep ho (fun g hg => by
                  obtain ⟨_, cq, hcq⟩ := row_block ho hg
                  exact (below_box w6 _).block g (Array.getElem?_eq_some_iff.1 hcq).1)
              · have := hb6.size; simp; omega
            have hrow5 := row_keep HI.out.2.1 (W' := wr.alloc (.cells #[.int .i64 x.1, .int .i64 x.2.1.v, .string x.2.1.fn, x.2.2] 84)) (fun g hg => by
              obtain ⟨_, cq, hcq⟩ := row_block HI.out.2.1 hg
              exact (below_box wr _).block g (Array.getElem?_eq_some_iff.1 hcq).1)
            have hbs : W1.heap.size ≤ (wr.alloc (.cells #[.int .i64 x.1, .int .i64 x.2.1.v, .string x.2.1.fn, x.2.2] 84)).heap.size := by have := HI.out.1.size; simp; omega
            have HS2 : Hid (stE (id, t, .slice sa t.args.length sc) (insS (id, t, .slice sa t.args.length sc) (l.take i)) x = ((insS (id, t, .slice sa t.args.length sc) (l.take i)).1 ++ [x], true)) := by
              show _ = _
              rw [stE_neg (by rw [HI.out.2.2.1]; exact fun h => by cases h.1), HI.out.2.2.1]
            clear hDz hbb
            go_wp2_with (first | ((at_builtin; refine wpList_append_own_at _ rfl _ _ 39 rfl (W1.heap.size) 84 i0 _ 4 56 Try.underlying39 hi0 hz0 hz1 hz2 rfl (by decide) (.slice oa n oc) (n) (_) rfl hrow5 ⟨wr.heap.size, 0, none⟩ 1 1 [.int .i64 x.1, .int .i64 x.2.1.v, .string x.2.1.fn, x.2.2] rfl rfl (fun j u hj => by rw [Addr.add_mid, Nat.zero_add, cell_of_row _ _ _ _ 84 (0, 0) (MapKept.heap_alloc wr _).1]; simpa using hj) (by intro u hu; simp only [List.mem_cons, List.not_mem_nil, or_false] at hu; rcases hu with rfl | rfl | rfl | rfl <;> first | rfl | exact hone) (by unfold maxLen; omega) (by omega) hbs ?_; intro v6 w6 hown6 hg6 hnil6 hat6)))
            have HR : Hid (∃ a6 c6, v6 = .slice a6 (n + 1) c6 ∧ Below W1.heap.size W1 w6 ∧ w6.ownsRow W1.heap.size 84 4 v6 (n + 1) (flE (insS (id, t, .slice sa t.args.length sc) (l.take (i + 1))).1) ∧ (insS (id, t, .slice sa t.args.length sc) (l.take (i + 1))).2 = true ∧ (insS (id, t, .slice sa t.args.length sc) (l.take (i + 1))).1.length = n + 1 ∧ ∀ y ∈ l.take (i + 1), y.1 ≠ id) := by
              obtain ⟨a6, c6, e6⟩ := row_slice hown6
              refine ⟨a6, c6, e6, (HN.out _ _ _ _ hown6 hg6).1, ?_, ?_, ?_, ?_⟩
              · rw [HS.out.1, HS2.out, flE_snoc]; exact hown6
              · rw [HS.out.1, HS2.out]
              · rw [HS.out.1, HS2.out]; simp [HI.out.2.2.2.1]
              · rw [HS.out.2]
                intro y hy
                rcases List.mem_append.1 hy with hy | hy
                · exact HI.out.2.2.2.2 y hy
                · rw [List.mem_singleton.1 hy]; exact hxi
            go_roundw
            case rel => obtain ⟨a6, c6, rfl, hr⟩ := HR.out; exact ⟨i + 1, n + 1, a6, c6, true, by go_num, rfl, rfl, by have := HE.out.1; omega, hr⟩
            case measure => simp [intOf]; have := HE.out.1; omega
    · have hiI : ¬ (i : Int) < (l.length : Int) := by omega
      have e : l.take i = l := List.take_of_length_le (by omega)
      have hfz : wr.frozen? ⟨rx, 0, none⟩ = false := by simp [World.frozen?, hDz.box]
      cases b
      · have hrow5 := row_keep HI.out.2.1 (W' := wr.alloc (.cells #[.int .i64 id, .int .i64 t.v, .string t.fn, .slice sa t.args.length sc] 84)) (fun g hg => by
          obtain ⟨_, cq, hcq⟩ := row_block HI.out.2.1 hg
          exact (below_box wr _).block g (Array.getElem?_eq_some_iff.1 hcq).1)
        have hbs : W1.heap.size ≤ (wr.alloc (.cells #[.int .i64 id, .int .i64 t.v, .string t.fn, .slice sa t.args.length sc] 84)).heap.size := by have := HI.out.1.size; simp; omega
        have HN : Hid (∀ v' n' xs' w6, w6.ownsRow W1.heap.size 84 4 v' n' xs' → (wr.alloc (.cells #[.int .i64 id, .int .i64 t.v, .string t.fn, .slice sa t.args.length sc] 84)).grownBy w6 (Value.slice oa n oc).ownBlock → Below W1.heap.size W1 w6 ∧ w6.cell? ⟨rx, 0, none⟩ = some (.slice a1 l.length c1) ∧ w6.frozen? ⟨rx, 0, none⟩ = false) := fun v' n' xs' w6 ho hg => by
          have hb0 : Below W1.heap.size W1 (wr.alloc (.cells #[.int .i64 id, .int .i64 t.v, .string t.fn, .slice sa t.args.length sc] 84)) := HI.out.1.trans ((below_box wr _).mono HI.out.1.size)
          have hb6 : Below W1.heap.size W1 w6 := hb0.trans (below_of_grown hg hb0.size (fun g e => (row_block HI.out.2.1 e).1))
          obtain ⟨_, _, _, hDq⟩ := HX.out w6 hb6
          exact ⟨hb6, hDq.cell, by simp [World.frozen?, hDq.box]⟩
        clear hDz
        go_wp2_with (first | ((at_builtin; refine wpList_append_own_at _ rfl _ _ 39 rfl (W1.heap.size) 84 i0 _ 4 56 Try.underlying39 hi0 hz0 hz1 hz2 rfl (by decide) (.slice oa n oc) (n) (_) rfl hrow5 ⟨wr.heap.size, 0, none⟩ 1 1 [.int .i64 id, .int .i64 t.v, .string t.fn, .slice sa t.args.length sc] rfl rfl (fun j u hj => by rw [Addr.add_mid, Nat.zero_add, cell_of_row _ _ _ _ 84 (0, 0) (MapKept.heap_alloc wr _).1]; simpa using hj) (by intro u hu; simp only [List.mem_cons, List.not_mem_nil, or_false] at hu; rcases hu with rfl | rfl | rfl | rfl <;> first | rfl | exact hone) (by unfold maxLen; omega) (by omega) hbs ?_; intro v6 w6 hown6 hg6 hnil6 hat6); obtain ⟨B6, cx6, fx6⟩ := HN.out _ _ _ _ hown6 hg6; obtain ⟨a6, c6, rfl⟩ := row_slice hown6))
        have HF : Hid (NoId l id ∧ ∃ v', Dx (w6.setCell ⟨rx, 0, none⟩ (.slice a6 (n + 1) c6)) rx v' (insE (id, t, .slice sa t.args.length sc) l) ∧ (∀ g, vblk v' = some g → W.heap.size ≤ g) ∧ Only [rx] W (w6.setCell ⟨rx, 0, none⟩ (.slice a6 (n + 1) c6))) := by
          obtain ⟨_, hr, hb, hl, hne⟩ := HI.out
          rw [e] at hb hl hne hr
          refine ⟨hne, .slice a6 (n + 1) c6, dx_set HB1.out.1 HB1.out.2.1 B6 (HX.out w6 B6).2.2.2.box ?_⟩
          unfold insE
          rw [hb, if_neg (by simp), flE_snoc]
          have hl2 : ((insS (id, t, .slice sa t.args.length sc) l).1 ++ [((id, t, .slice sa t.args.length sc) : En)]).length = n + 1 := by simp [hl]
          rw [hl2]
          rw [e] at hown6
          exact hown6
        go_ret
        exact .inr ⟨HF.out.1, rfl, HF.out.2⟩
      · have HF : Hid (NoId l id ∧ ∃ v', Dx (wr.setCell ⟨rx, 0, none⟩ (.slice oa n oc)) rx v' (insE (id, t, .slice sa t.args.length sc) l) ∧ (∀ g, vblk v' = some g → W.heap.size ≤ g) ∧ Only [rx] W (wr.setCell ⟨rx, 0, none⟩ (.slice oa n oc))) := by
          obtain ⟨_, hr, hb, hl, hne⟩ := HI.out
          rw [e] at hb hl hne hr
          refine ⟨hne, .slice oa n oc, dx_set HB1.out.1 HB1.out.2.1 HI.out.1 hDz.box ?_⟩
          unfold insE
          rw [hb, if_pos rfl, hl]
          exact hr
        clear hDz
        go_wp2
        go_ret
        exact .inr ⟨HF.out.1, rfl, HF.out.2⟩

end Go.Proofs.Ytiklbkkimmgbcaa
