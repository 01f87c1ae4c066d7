import Derived.Test.YtglphfhlpobgcaaGreatYF
import Derived.Test.YtglphfhlpobgcaaGreatLB
import Derived.Test.YtglphfhlpobgcaaGreatYK

namespace Go.Proofs.YtglphfhlpobgcaaGreat
open Go.RowKit Go.Maps
def CsL (W : World) (b o : Nat) (p : (Lt × Value × Value)) : Prop := W.cell? ⟨b, o, none⟩ = some (.bool p.1.neg) ∧ W.cell? ⟨b, o + 1, none⟩ = some (.int .i64 p.1.l.v) ∧ W.cell? ⟨b, o + 2, none⟩ = some (.string p.1.l.fn) ∧ W.cell? ⟨b, o + 3, none⟩ = some p.2.1 ∧ W.cell? ⟨b, o + 4, none⟩ = some (.int .i64 p.1.r.v) ∧ W.cell? ⟨b, o + 5, none⟩ = some (.string p.1.r.fn) ∧ W.cell? ⟨b, o + 6, none⟩ = some p.2.2
theorem CsL.keep {W W' : World} {n b o : Nat} {p : (Lt × Value × Value)} (h : CsL W b o p) (hb : Below n W W') (hl : b < n) : CsL W' b o p := by
  obtain ⟨c0, c1, c2, c3, c4, c5, c6⟩ := h
  exact ⟨kc hb hl c0, kc hb hl c1, kc hb hl c2, kc hb hl c3, kc hb hl c4, kc hb hl c5, kc hb hl c6⟩
def OkL (w0 : World) (p : (Lt × Value × Value)) : Prop := (ArgsAt w0 p.2.1 p.1.l.args ∧ ArgsAt w0 p.2.2 p.1.r.args) ∧ p.1.l.size ≤ 1048576 ∧ p.1.r.size ≤ 1048576
theorem OkL.keep {w0 w1 : World} {p : (Lt × Value × Value)} (h : OkL w0 p) (hb : Below w0.heap.size w0 w1) : OkL w1 p := ⟨⟨ArgsAt.keep hb (Nat.le_refl _) h.1.1, ArgsAt.keep hb (Nat.le_refl _) h.1.2⟩, h.2⟩
structure RdL (w0 W : World) (v : Value) (ps : List (Lt × Value × Value)) : Prop where
  sl : ∃ a c, v = .slice a ps.length c ∧ ps.length ≤ c ∧ c ≤ 9223372036854775807 ∧ ∀ i (h : i < ps.length), ∃ b o, a = some ⟨b, o, none⟩ ∧ b < W.heap.size ∧ CsL W b (o + i * 7) ps[i]
  ok : ∀ p ∈ ps, OkL w0 p
theorem RdL.keep {w0 W W' : World} {v : Value} {ps : List (Lt × Value × Value)} (h : RdL w0 W v ps) (hb : Below W.heap.size W W') : RdL w0 W' v ps := by
  obtain ⟨⟨a, c, e, h1, h2, h3⟩, ok⟩ := h
  refine ⟨⟨a, c, e, h1, h2, fun i hi => ?_⟩, ok⟩
  obtain ⟨b, o, e, hl, hc⟩ := h3 i hi
  exact ⟨b, o, e, Nat.lt_of_lt_of_le hl hb.size, hc.keep hb hl⟩
theorem RdL.base {w0 w1 W : World} {v : Value} {ps : List (Lt × Value × Value)} (h : RdL w0 W v ps) (hb : Below w0.heap.size w0 w1) : RdL w1 W v ps := ⟨h.sl, fun p hp => (h.ok p hp).keep hb⟩
theorem RdL.slice {w0 W : World} {v : Value} {ps : List (Lt × Value × Value)} (h : RdL w0 W v ps) : ∃ a c, v = .slice a ps.length c ∧ ps.length ≤ c ∧ c ≤ 9223372036854775807 := by
  obtain ⟨⟨a, c, e, h1, h2, _⟩, _⟩ := h
  exact ⟨a, c, e, h1, h2⟩
theorem RdL.nth {w0 W : World} {a : Option Addr} {n c : Nat} {ps : List (Lt × Value × Value)} (h : RdL w0 W (.slice a n c) ps) {i : Nat} (hi : i < ps.length) : ∃ b o, a = some ⟨b, o, none⟩ ∧ b < W.heap.size ∧ CsL W b (o + i * 7) ps[i] ∧ OkL w0 ps[i] := by
  obtain ⟨⟨a', c', e, h1, h2, h3⟩, ok⟩ := h
  injection e with e1 e2 e3
  subst e1
  obtain ⟨b, o, e, hl, hc⟩ := h3 i hi
  exact ⟨b, o, e, hl, hc, ok _ (List.getElem_mem hi)⟩
theorem rdL_nil (w0 W : World) : RdL w0 W (.slice none 0 0) [] := ⟨⟨none, 0, rfl, Nat.le_refl _, by omega, fun i h => absurd h (by simp)⟩, by simp⟩
def flL (ps : List (Lt × Value × Value)) : List Value := ps.flatMap fun p => [.bool p.1.neg, .int .i64 p.1.l.v, .string p.1.l.fn, p.2.1, .int .i64 p.1.r.v, .string p.1.r.fn, p.2.2]
theorem flL_len (ps : List (Lt × Value × Value)) : (flL ps).length = ps.length * 7 := by
  induction ps with
  | nil => rfl
  | cons p r ih => simp only [flL, List.flatMap_cons, List.length_append, List.length_cons, List.length_nil] at ih ⊢; omega
theorem flL_app (a b : List (Lt × Value × Value)) : flL (a ++ b) = flL a ++ flL b := by simp [flL]
theorem flL_one (p : (Lt × Value × Value)) : flL [p] = [.bool p.1.neg, .int .i64 p.1.l.v, .string p.1.l.fn, p.2.1, .int .i64 p.1.r.v, .string p.1.r.fn, p.2.2] := by simp [flL]
theorem flL_drop (ps : List (Lt × Value × Value)) (i : Nat) : (flL ps).drop (i * 7) = flL (ps.drop i) := by
  by_cases h : i ≤ ps.length
  · have e : ps = ps.take i ++ ps.drop i := (List.take_append_drop i ps).symm
    have hl : (flL (ps.take i)).length = i * 7 := by rw [flL_len, List.length_take, Nat.min_eq_left h]
    conv => lhs; rw [e, flL_app, ← hl]
    rw [List.drop_left]
  · rw [List.drop_eq_nil_of_le (by rw [flL_len]; omega), List.drop_eq_nil_of_le (by omega)]
    rfl
theorem flL_take (ps : List (Lt × Value × Value)) (i : Nat) : (flL ps).take (i * 7) = flL (ps.take i) := by
  by_cases h : i ≤ ps.length
  · have e : ps = ps.take i ++ ps.drop i := (List.take_append_drop i ps).symm
    have hl : (flL (ps.take i)).length = i * 7 := by rw [flL_len, List.length_take, Nat.min_eq_left h]
    conv => lhs; rw [e, flL_app, ← hl]
    rw [List.take_left]
  · rw [List.take_of_length_le (by rw [flL_len]; omega), List.take_of_length_le (by omega)]
theorem flL_get (ps : List (Lt × Value × Value)) (i : Nat) (h : i < ps.length) (j : Nat) (hj : j < 7) : (flL ps)[i * 7 + j]? = (flL [ps[i]])[j]? := by
  rw [← List.getElem?_drop, flL_drop, List.drop_eq_getElem_cons h, show ps[i] :: ps.drop (i + 1) = [ps[i]] ++ ps.drop (i + 1) from rfl, flL_app, List.getElem?_append_left (by rw [flL_len]; simpa using hj)]
theorem csL_of {W : World} {b off : Nat} {ps : List (Lt × Value × Value)} (h : ∀ j u, (flL ps)[j]? = some u → W.cell? ⟨b, off + j, none⟩ = some u) {i : Nat} (hi : i < ps.length) : CsL W b (off + i * 7) ps[i] := by
  have hc : ∀ j u, j < 7 → (flL [ps[i]])[j]? = some u → W.cell? ⟨b, off + i * 7 + j, none⟩ = some u := fun j u hj hu => by
    rw [Nat.add_assoc]; exact h _ _ ((flL_get ps i hi j hj).trans hu)
  rw [flL_one] at hc
  refine ⟨hc 0 _ (by omega) rfl, hc 1 _ (by omega) rfl, hc 2 _ (by omega) rfl, hc 3 _ (by omega) rfl, hc 4 _ (by omega) rfl, hc 5 _ (by omega) rfl, hc 6 _ (by omega) rfl⟩
theorem rdL_of_row {w0 W : World} {base : Nat} {v : Value} {ps : List (Lt × Value × Value)} (h : W.ownsRow base 32 7 v ps.length (flL ps)) (ok : ∀ p ∈ ps, OkL w0 p) : RdL w0 W v ps := by
  obtain ⟨hl, ⟨e, h0⟩ | ⟨g, cap, cur, e, hb, hg, hc, hm, hsz, ht⟩⟩ := h
  · have : ps = [] := List.eq_nil_of_length_eq_zero h0
    subst this
    rw [e]
    exact rdL_nil w0 W
  · refine ⟨⟨_, cap, e, hc, by unfold maxLen at hm; omega, fun i hi => ⟨g, 0, rfl, (Array.getElem?_eq_some_iff.1 hg).1, ?_⟩⟩, ok⟩
    refine csL_of (fun j u hj => ?_) hi
    have hjl : j < ps.length * 7 := by have := (List.getElem?_eq_some_iff.1 hj).1; rwa [flL_len] at this
    rw [← ht, List.getElem?_take, if_pos hjl] at hj
    rw [Nat.zero_add, cell_of_row _ _ _ _ 32 (0, 0) hg, ← hj]
    simp
theorem oneL (p : (Lt × Value × Value)) (hs : (∃ a n c, p.2.1 = .slice a n c) ∧ ∃ a n c, p.2.2 = .slice a n c) : ∀ u ∈ flL [p], u.oneCell' = true := by
  rw [flL_one]
  intro u hu
  simp only [List.mem_cons, List.not_mem_nil, or_false] at hu
  rcases hu with rfl | rfl | rfl | rfl | rfl | rfl | rfl
  · rfl
  · rfl
  · rfl
  · obtain ⟨⟨a, n, c, e⟩, _⟩ := hs
    rw [e]; rfl
  · rfl
  · rfl
  · obtain ⟨_, a, n, c, e⟩ := hs
    rw [e]; rfl
theorem onesL {w0 : World} {ps : List (Lt × Value × Value)} (ok : ∀ p ∈ ps, OkL w0 p) : ∀ u ∈ flL ps, u.oneCell' = true := by
  intro u hu
  simp only [flL, List.mem_flatMap] at hu
  obtain ⟨p, hp, hu⟩ := hu
  have h := ok p hp
  refine oneL p ⟨by obtain ⟨a, c, e, _⟩ := h.1.1.slice; exact ⟨_, _, _, e⟩, by obtain ⟨a, c, e, _⟩ := h.1.2.slice; exact ⟨_, _, _, e⟩⟩ u (by rw [flL_one]; exact hu)
end Go.Proofs.YtglphfhlpobgcaaGreat

namespace Go.Proofs.YtglphfhlpobgcaaGreat
open Go.RowKit Go.Maps
theorem zeroL (w : World) : (zeroValue 32).run Tryz.prog w = .ok (.agg #[.bool false, .int .i64 0, .string ⟨#[]⟩, .slice none 0 0, .int .i64 0, .string ⟨#[]⟩, .slice none 0 0]) w := by kernel_rfl
theorem RdL.cells {w0 W : World} {b o n c : Nat} {ps : List (Lt × Value × Value)} (h : RdL w0 W (.slice (some ⟨b, o, none⟩) n c) ps) : ∀ j u, (flL ps)[j]? = some u → W.cell? ⟨b, o + j, none⟩ = some u := by
  intro j u hj
  have hjl : j < ps.length * 7 := by have := (List.getElem?_eq_some_iff.1 hj).1; rwa [flL_len] at this
  have hi : j / 7 < ps.length := Nat.div_lt_of_lt_mul (by omega)
  obtain ⟨b', o', e, _, hc, _⟩ := h.nth hi
  obtain ⟨rfl, rfl⟩ : b = b' ∧ o = o' := by injection e with e; injection e with e1 e2; exact ⟨e1, e2⟩
  have hr : j % 7 < 7 := Nat.mod_lt _ (by omega)
  have hjj : j = j / 7 * 7 + j % 7 := by omega
  rw [hjj, flL_get ps _ hi _ hr, flL_one] at hj
  obtain ⟨q, hq⟩ : ∃ q, j / 7 = q := ⟨_, rfl⟩
  obtain ⟨m, hm⟩ : ∃ m, j % 7 = m := ⟨_, rfl⟩
  rw [hq, hm] at hjj
  simp only [hq, hm] at hj hc
  rw [hm] at hr
  obtain ⟨c0, c1, c2, c3, c4, c5, c6⟩ := hc
  have : m = 0 ∨ m = 1 ∨ m = 2 ∨ m = 3 ∨ m = 4 ∨ m = 5 ∨ m = 6 := by omega
  rw [hjj]
  rcases this with rfl | rfl | rfl | rfl | rfl | rfl | rfl
  · have := Option.some.inj hj
    subst this
    simpa using c0
  · have := Option.some.inj hj
    subst this
    rw [← Nat.add_assoc]; exact c1
  · have := Option.some.inj hj
    subst this
    rw [← Nat.add_assoc]; exact c2
  · have := Option.some.inj hj
    subst this
    rw [← Nat.add_assoc]; exact c3
  · have := Option.some.inj hj
    subst this
    rw [← Nat.add_assoc]; exact c4
  · have := Option.some.inj hj
    subst this
    rw [← Nat.add_assoc]; exact c5
  · have := Option.some.inj hj
    subst this
    rw [← Nat.add_assoc]; exact c6
theorem rowL_open {W : World} {base : Nat} {v : Value} {ps : List (Lt × Value × Value)} (h : W.ownsRow base 32 7 v ps.length (flL ps)) (h0 : 0 < ps.length) : ∃ g cap cur, v = .slice (some ⟨g, 0, none⟩) ps.length cap ∧ base ≤ g ∧ W.heap[g]? = some (.cells cur 32 (0, 0)) ∧ ps.length ≤ cap ∧ cap ≤ maxLen ∧ cur.size = cap * 7 ∧ cur.toList.take (ps.length * 7) = flL ps := by
  obtain ⟨hl, ⟨e, h1⟩ | h⟩ := h
  · omega
  · exact h
end Go.Proofs.YtglphfhlpobgcaaGreat

namespace Go.Proofs.YtglphfhlpobgcaaGreat
open Go.RowKit Go.Maps
noncomputable def smL (p q : (Lt × Value × Value)) : Bool := open Classical in decide ((fun p : Lt × Value × Value => kap p.1) p = (fun p : Lt × Value × Value => kap p.1) q)
structure CpL (w0 w : World) (base g cap n : Nat) (ps : List (Lt × Value × Value)) (q kk : Nat) (cur : List (Lt × Value × Value)) (W : World) : Prop where
  row : W.ownsRow base 32 7 (.slice (some ⟨g, 0, none⟩) n cap) cur.length (flL cur)
  len : cur.length = n
  on : Only [g] w W
  tk : cur.take kk = cmpt (fun p : Lt × Value × Value => kap p.1) (ps.take q)
  hi : ∀ j, q ≤ j + 1 → cur[j]? = ps[j]?
  lt : kk + 1 ≤ q
  bel : Below w0.heap.size w0 W
section
variable {w0 w W W' : World} {base g cap n q kk : Nat} {ps cur : List (Lt × Value × Value)}
theorem CpL.below (h : CpL w0 w base g cap n ps q kk cur W) (hb : Below W.heap.size W W') : CpL w0 w base g cap n ps q kk cur W' :=
  ⟨rowL_keep h.row (fun r hr => by
    obtain ⟨_, c, hc⟩ := row_block h.row hr
    exact hb.block r (Array.getElem?_eq_some_iff.1 hc).1), h.len, h.on.trans (Only.of_below (B := []) hb) (by simp), h.tk, h.hi, h.lt, h.bel.trans (hb.mono h.bel.size)⟩
theorem CpL.skip (h : CpL w0 w base g cap n ps q kk cur W) (h1 : 1 ≤ q) (hq : q < ps.length) (hs : (fun p : Lt × Value × Value => kap p.1) ps[q] = (fun p : Lt × Value × Value => kap p.1) (ps[q - 1]'(by omega))) : CpL w0 w base g cap n ps (q + 1) kk cur W :=
  ⟨h.row, h.len, h.on, by rw [(cmpt_take (fun p : Lt × Value × Value => kap p.1) ps h1 hq).1 hs]; exact h.tk, fun j hj => h.hi j (by omega), by have := h.lt; omega, h.bel⟩
theorem CpL.put (h : CpL w0 w base g cap n ps q kk cur W) (h1 : 1 ≤ q) (hq : q < ps.length) (hn : ps.length = n) (hs : (fun p : Lt × Value × Value => kap p.1) ps[q] ≠ (fun p : Lt × Value × Value => kap p.1) (ps[q - 1]'(by omega))) (hlow : w0.heap.size ≤ g) (W2 : World) (hr : W2.ownsRow base 32 7 (.slice (some ⟨g, 0, none⟩) n cap) (cur.set kk ps[q]).length (flL (cur.set kk ps[q]))) (ho : Only [g] W W2) : CpL w0 w base g cap n ps (q + 1) (kk + 1) (cur.set kk ps[q]) W2 := by
  have hlt := h.lt
  have hkl : kk < cur.length := by rw [h.len]; omega
  refine ⟨hr, by rw [List.length_set]; exact h.len, h.on.trans ho (fun r hr => .inl hr), ?_, fun j hj => ?_, by omega, h.bel.trans (ho.below (by have := h.bel.size; omega) (by simpa using hlow))⟩
  · rw [(cmpt_take (fun p : Lt × Value × Value => kap p.1) ps h1 hq).2 hs, ← h.tk, List.take_succ_eq_append_getElem (by rw [List.length_set]; exact hkl), List.take_set_of_le (Nat.le_refl _)]
    simp
  · rw [List.getElem?_set_ne (by omega)]
    exact h.hi j (by omega)
theorem CpL.read (h : CpL w0 w base g cap n ps q kk cur W) (ok : ∀ p ∈ cur, OkL w0 p) {j : Nat} (hj : q ≤ j + 1) (hl : j < ps.length) (hn : ps.length = n) : CsL W g (j * 7) ps[j] := by
  have hc := (rdL_of_row h.row ok)
  have hjl : j < cur.length := by rw [h.len]; omega
  obtain ⟨b, o, e, _, hcs, _⟩ := hc.nth hjl
  obtain ⟨rfl, rfl⟩ : g = b ∧ 0 = o := by injection e with e; injection e with e1 e2; exact ⟨e1, e2⟩
  rw [Nat.zero_add] at hcs
  have he : cur[j] = ps[j] := by
    have := h.hi j hj
    rw [List.getElem?_eq_getElem hjl, List.getElem?_eq_getElem hl] at this
    exact Option.some.inj this
  rwa [he] at hcs
end
end Go.Proofs.YtglphfhlpobgcaaGreat

namespace Go.Proofs.YtglphfhlpobgcaaGreat
open Go.RowKit Go.Maps
theorem CpL.end_ {w0 w W : World} {base g cap n q kk : Nat} {ps cur : List (Lt × Value × Value)} (h : CpL w0 w base g cap n ps q kk cur W) (_ok : ∀ p ∈ cur, OkL w0 p) (hq : ps.length ≤ q) (hkn : kk < n) (_hlow : w0.heap.size ≤ g) :
    (∀ ty, (Builtin.clear_ #[34] ty #[.slice (some ⟨g, kk * 7, none⟩) (n - kk) (cap - kk)]).run Tryz.prog W = .ok (.tuple #[]) (W.setCells g (kk * 7) (Builtin.zeroCells #[.bool false, .int .i64 0, .string ⟨#[]⟩, .slice none 0 0, .int .i64 0, .string ⟨#[]⟩, .slice none 0 0] (n - kk)).toList)) ∧
    (W.setCells g (kk * 7) (Builtin.zeroCells #[.bool false, .int .i64 0, .string ⟨#[]⟩, .slice none 0 0, .int .i64 0, .string ⟨#[]⟩, .slice none 0 0] (n - kk)).toList).ownsRow base 32 7 (.slice (some ⟨g, 0, none⟩) kk cap) (cmpt (fun p : Lt × Value × Value => kap p.1) ps).length (flL (cmpt (fun p : Lt × Value × Value => kap p.1) ps)) ∧ Only [g] w (W.setCells g (kk * 7) (Builtin.zeroCells #[.bool false, .int .i64 0, .string ⟨#[]⟩, .slice none 0 0, .int .i64 0, .string ⟨#[]⟩, .slice none 0 0] (n - kk)).toList) := by
  have hl := h.len
  obtain ⟨g', cap', cr, e, hb, hg, hc, hm, hsz, ht⟩ := rowL_open h.row (by omega)
  obtain ⟨rfl, rfl⟩ : g = g' ∧ cap = cap' := by injection e with e1 e2 e3; injection e1 with e1; injection e1 with e1; exact ⟨e1, e3⟩
  obtain ⟨cr', p1, p2, p3⟩ := heap_put g 32 (Builtin.zeroCells #[.bool false, .int .i64 0, .string ⟨#[]⟩, .slice none 0 0, .int .i64 0, .string ⟨#[]⟩, .slice none 0 0] (n - kk)).toList (kk * 7) W cr hg (by rw [zeros_len, hsz]; simp; omega)
  have hcl : cr.toList.length = cap * 7 := by simpa using hsz
  have hz : (Builtin.zeroCells #[.bool false, .int .i64 0, .string ⟨#[]⟩, .slice none 0 0, .int .i64 0, .string ⟨#[]⟩, .slice none 0 0] (n - kk)).toList.length = (n - kk) * 7 := zeros_len _ _
  have hcr : cr'.size = cap * 7 := by
    have := congrArg List.length p2
    rw [List.length_append, List.length_append, hz, List.length_take, List.length_drop, hcl, Array.length_toList] at this
    omega
  have htk : cur.take kk = cmpt (fun p : Lt × Value × Value => kap p.1) ps := by rw [h.tk, List.take_of_length_le hq]
  have hkl : (cmpt (fun p : Lt × Value × Value => kap p.1) ps).length = kk := by rw [← htk, List.length_take]; omega
  refine ⟨fun ty => run_clear_many W 34 32 ty (.agg #[.bool false, .int .i64 0, .string ⟨#[]⟩, .slice none 0 0, .int .i64 0, .string ⟨#[]⟩, .slice none 0 0]) Tryz.underlying34 zeroL (by intro u hu; simp only [Value.cells, List.mem_cons, List.not_mem_nil, or_false] at hu; rcases hu with rfl | rfl | rfl | rfl | rfl | rfl | rfl <;> rfl) (by decide) g (kk * 7) (n - kk) (cap - kk) (by omega) (fun j hj => by have hj' : j < (n - kk) * 7 := hj; have hlt : kk * 7 + j < cr.size := (by rw [hsz]; omega); simp [World.cell?, hg, hlt]) (fun j hj => by simp [World.frozen?, hg]), ?_, h.on.trans p3 (fun r hr => .inl hr)⟩
  refine ⟨flL_len _, .inr ⟨g, cap, cr', by rw [hkl], hb, p1, by omega, hm, hcr, ?_⟩⟩
  rw [hkl, p2, List.append_assoc, List.take_append, List.length_take, hcl, Nat.min_eq_left (by omega), List.take_of_length_le (by rw [List.length_take]; omega), Nat.sub_self, List.take_zero, List.append_nil, ← htk, ← flL_take, ← ht, List.take_take, Nat.min_eq_left (by omega)]
end Go.Proofs.YtglphfhlpobgcaaGreat

namespace Go.Proofs.YtglphfhlpobgcaaGreat
open Go.RowKit Go.Maps
noncomputable def odL (o : Od) (p q : (Lt × Value × Value)) : Int := lcm o p.1 q.1
def OrdrL (w0 : World) (o : Od) (vn vw : Value) : Prop := ∀ (p q : (Lt × Value × Value)) (W : World), OkL w0 p → OkL w0 q → Below w0.heap.size w0 W →
  Calls Tryz.prog 33 #[oval o vn vw, lval p.1 p.2.1 p.2.2, lval q.1 q.2.1 q.2.2] W fun e W' => e = .returned (.int .i64 (odL o p q)) ∧ Below W.heap.size W W'
theorem bxL_cells (w : World) (p : (Lt × Value × Value)) : CsL (w.alloc (lbox p.1 p.2.1 p.2.2)) w.heap.size 0 p := by
  have h : (w.alloc (lbox p.1 p.2.1 p.2.2)).heap[w.heap.size]? = some (.cells (flL [p]).toArray 32 (0, 0)) := by rw [flL_one]; exact (MapKept.heap_alloc w (lbox p.1 p.2.1 p.2.2)).1
  have := csL_of (W := w.alloc (lbox p.1 p.2.1 p.2.2)) (b := w.heap.size) (off := 0) (ps := [p]) (fun j u hj => by rw [Nat.zero_add, cell_of_row _ _ _ _ 32 (0, 0) h]; simpa using hj) (i := 0) (by simp)
  simpa using this
end Go.Proofs.YtglphfhlpobgcaaGreat

namespace Go.Proofs.YtglphfhlpobgcaaGreat
open Go.RowKit Go.Maps
theorem bxstL (Y : World) (bx : Nat) (cz : Array Value) (q : (Lt × Value × Value)) (h : Y.heap[bx]? = some (.cells cz 32 (0, 0))) (hz : cz.size = 7) (h1 : ∀ u ∈ flL [q], u.oneCell' = true) :
    ∃ Y', (Instr.storeAt 32 (.pointer (some ⟨bx, 0, none⟩)) (lval q.1 q.2.1 q.2.2)).run Tryz.prog Y = .ok () Y' ∧ CsL Y' bx 0 q ∧ Only [bx] Y Y' := by
  have hfl : (flL [q]).length = 7 := by rw [flL_len]; simp
  obtain ⟨cur', p1, p2, p3⟩ := heap_put bx 32 (flL [q]) 0 Y cz h (by rw [hfl, hz]; omega)
  refine ⟨Y.setCells bx 0 (flL [q]), ?_, ?_, p3⟩
  · have hr := run_storeAt_mid (P := Tryz.prog) Y bx 0 32 (flL [q]).toArray (fun j hj => by
      have hj' : j < 7 := by simpa [hfl] using hj
      have hlt : 0 + j < cz.size := by rw [hz]; omega
      simp only [World.cell?, World.frozen?, h]
      simp at hlt
      simp [hlt]) (by rw [List.size_toArray, hfl]; kernel_rfl) (all_oneCell_toArray h1)
    rw [flL_one] at hr ⊢
    exact hr
  · have := csL_of (W := Y.setCells bx 0 (flL [q])) (b := bx) (off := 0) (ps := [q]) (fun j u hj => by
      have hjl : j < (flL [q]).length := (List.getElem?_eq_some_iff.1 hj).1
      rw [Nat.zero_add]
      simp only [World.cell?, p1]
      have e : cur'[j]? = cur'.toList[j]? := by simp
      rw [p2, List.take_zero, List.nil_append, List.getElem?_append_left hjl, hj] at e
      simpa using e) (i := 0) (by simp)
    simpa using this
structure ApL (w0 w1 : World) (ms ns : List (Lt × Value × Value)) (i : Nat) (vM vN : Value) (out cur : List (Lt × Value × Value)) (W : World) : Prop where
  rm : W.ownsRow w1.heap.size 32 7 vM out.length (flL out)
  rn : W.ownsRow w1.heap.size 32 7 vN cur.length (flL cur)
  bel : Below w1.heap.size w1 W
  dj : ∀ g, vM.ownBlock = some g → vN.ownBlock ≠ some g
  eq : aprt (fun p : Lt × Value × Value => kap p.1) ms ns = (out ++ (aprt (fun p : Lt × Value × Value => kap p.1) (ms.drop i) cur).1, (aprt (fun p : Lt × Value × Value => kap p.1) (ms.drop i) cur).2)
  okm : ∀ p ∈ out, OkL w0 p
  okn : ∀ p ∈ cur, OkL w0 p
  lm : out.length ≤ i
  ln : cur.length ≤ ns.length
  sv : (∃ a c, vM = .slice a out.length c) ∧ ∃ a c, vN = .slice a cur.length c
section
variable {w0 w1 W W' : World} {ms ns : List (Lt × Value × Value)} {i : Nat} {vM vN vM' vN' : Value} {out cur : List (Lt × Value × Value)}
theorem ApL.below (h : ApL w0 w1 ms ns i vM vN out cur W) (hb : Below W.heap.size W W') : ApL w0 w1 ms ns i vM vN out cur W' :=
  ⟨rowL_keep h.rm (fun r hr => by
    obtain ⟨_, c, hc⟩ := row_block h.rm hr
    exact hb.block r (Array.getElem?_eq_some_iff.1 hc).1), rowL_keep h.rn (fun r hr => by
    obtain ⟨_, c, hc⟩ := row_block h.rn hr
    exact hb.block r (Array.getElem?_eq_some_iff.1 hc).1), h.bel.trans (hb.mono h.bel.size), h.dj, h.eq, h.okm, h.okn, h.lm, h.ln, h.sv⟩
theorem ApL.add (h : ApL w0 w1 ms ns i vM vN out cur W) (hi : i < ms.length) (hok : OkL w0 ms[i]) (hf : cur.findIdx? (fun q => smL ms[i] q) = none) (hr : W'.ownsRow w1.heap.size 32 7 vM' (out.length + 1) (flL out ++ flL [ms[i]])) (hg : W.grownBy W' vM.ownBlock) (hb : vM'.ownBlock = vM.ownBlock ∨ vM'.ownBlock = some W.heap.size) :
    ApL w0 w1 ms ns (i + 1) vM' vN (out ++ [ms[i]]) cur W' := by
  have nlt : ∀ g, vN.ownBlock = some g → g < W.heap.size := fun g e => by
    obtain ⟨_, c, hc⟩ := row_block h.rn e
    exact (Array.getElem?_eq_some_iff.1 hc).1
  refine ⟨by rw [List.length_append, flL_app]; exact hr, rowL_keep h.rn (fun r e => hg.block r (nlt r e) (fun k => h.dj r k.symm e)), ?_, fun g e k => ?_, ?_, fun p hp => ?_, h.okn, by simp; exact h.lm, h.ln, ⟨by obtain ⟨a, c, e⟩ := row_slice hr; exact ⟨a, c, by rw [e]; simp⟩, h.sv.2⟩⟩
  · have o : Only vM.ownBlock.toList W W' := Only.of_grown hg (fun r e => by simp [e])
    exact h.bel.trans (o.below h.bel.size (fun r hr => by
      have e : vM.ownBlock = some r := by simpa using hr
      exact (row_block h.rm e).1))
  · rcases hb with q | q
    · exact h.dj g (q ▸ e) k
    · rw [q] at e
      have := nlt g k
      have := Option.some.inj e
      omega
  · rw [h.eq, List.drop_eq_getElem_cons hi, aprt]
    have hf' : cur.findIdx? (fun b => (open Classical in decide ((fun p : Lt × Value × Value => kap p.1) ms[i] = (fun p : Lt × Value × Value => kap p.1) b))) = none := hf
    rw [hf']
    simp
  · rcases List.mem_append.1 hp with q | q
    · exact h.okm p q
    · have : p = ms[i] := by simpa using q
      rw [this]; exact hok
theorem ApL.cut (h : ApL w0 w1 ms ns i vM vN out cur W) (hi : i < ms.length) {k : Nat} (hf : cur.findIdx? (fun q => smL ms[i] q) = some k) (hk : k < cur.length) {g : Nat} (hvN : vN.ownBlock = some g) (hvN' : vN'.ownBlock = some g) (hr : W'.ownsRow w1.heap.size 32 7 vN' (cur.eraseIdx k).length (flL (cur.eraseIdx k))) (ho : Only [g] W W') :
    ApL w0 w1 ms ns (i + 1) vM vN' out (cur.eraseIdx k) W' := by
  refine ⟨rowL_keep h.rm (fun r e => ho.block r (by
    obtain ⟨_, c, hc⟩ := row_block h.rm e
    exact (Array.getElem?_eq_some_iff.1 hc).1) (by simp only [List.mem_singleton]; intro q; exact h.dj r e (by rw [q]; exact hvN))), hr, h.bel.trans (ho.below h.bel.size (by simpa using (row_block h.rn hvN).1)), fun r e q => h.dj r e (by rw [hvN, ← hvN', q]), ?_, h.okm, fun p hp => h.okn p (List.mem_of_mem_eraseIdx hp), by have := h.lm; omega, by have := h.ln; rw [List.length_eraseIdx_of_lt hk]; omega, ⟨h.sv.1, by obtain ⟨a, c, e⟩ := row_slice hr; exact ⟨a, c, e⟩⟩⟩
  rw [h.eq, List.drop_eq_getElem_cons hi, aprt]
  have hf' : cur.findIdx? (fun b => (open Classical in decide ((fun p : Lt × Value × Value => kap p.1) ms[i] = (fun p : Lt × Value × Value => kap p.1) b))) = some k := hf
  rw [hf']
end
end Go.Proofs.YtglphfhlpobgcaaGreat

namespace Go.Proofs.YtglphfhlpobgcaaGreat
open Go.RowKit Go.Maps
end Go.Proofs.YtglphfhlpobgcaaGreat

namespace Go.Proofs.YtglphfhlpobgcaaGreat
open Go.RowKit Go.Maps
end Go.Proofs.YtglphfhlpobgcaaGreat

namespace Go.Proofs.YtglphfhlpobgcaaGreat
open Go.RowKit Go.Maps
def spt (x : Lt) (s r : Value) : List (T × Value) := if x.neg = true then [(x.l, s), (x.l, s), (x.r, r), (x.r, r)] else [(x.l, s), (x.r, r)]
theorem spt_sds (x : Lt) (s r : Value) : (spt x s r).map (fun p => p.1) = sds x := by
  unfold spt sds
  split <;> rfl
theorem spt_ok {w0 : World} {x : Lt} {s r : Value} (h : OkL w0 (x, s, r)) : ∀ p ∈ spt x s r, OkT w0 p := by
  have h1 : OkT w0 (x.l, s) := ⟨h.1.1, h.2.1⟩
  have h2 : OkT w0 (x.r, r) := ⟨h.1.2, h.2.2⟩
  intro p hp
  unfold spt at hp
  split at hp
  · simp only [List.mem_cons, List.not_mem_nil, or_false] at hp
    rcases hp with rfl | rfl | rfl | rfl
    · exact h1
    · exact h1
    · exact h2
    · exact h2
  · simp only [List.mem_cons, List.not_mem_nil, or_false] at hp
    rcases hp with rfl | rfl
    · exact h1
    · exact h2
theorem spt_len (x : Lt) (s r : Value) : (spt x s r).length ≤ 4 := by
  unfold spt
  split <;> simp
theorem row_built (W : World) (ps : List (T × Value)) (hl : ps.length ≤ 1000) : (W.alloc (.cells (flT ps).toArray 30)).ownsRow W.heap.size 30 3 (.slice (some ⟨W.heap.size, 0, none⟩) ps.length ps.length) ps.length (flT ps) :=
  ⟨flT_len _, .inr ⟨W.heap.size, ps.length, (flT ps).toArray, rfl, Nat.le_refl _, (MapKept.heap_alloc W _).1, Nat.le_refl _, by unfold maxLen; omega, by rw [List.size_toArray, flT_len], by rw [List.toList_toArray, ← flT_len, List.take_length]⟩⟩
set_option maxRecDepth 100000 in
set_option maxHeartbeats 2000000 in
theorem side_any (w0 : World) (x : Lt) (s r : Value) (hx : OkL w0 (x, s, r)) (W : World) (_hW : Below w0.heap.size w0 W) :
    Calls Tryz.prog 67 #[lval x s r] W fun e W' => ∃ v, e = .returned v ∧ RdT w0 W' v (spt x s r) ∧ Below W.heap.size W W' := by
  obtain ⟨W1, h1⟩ : ∃ X, W.alloc (lbox x s r) = X := ⟨_, rfl⟩
  have hb : Below W.heap.size W W1 := by rw [← h1]; exact below_box _ _
  have hc := bxL_cells W (x, s, r)
  simp only at hc
  rw [h1] at hc
  have hrow := row_built W1 (spt x s r) (by have := spt_len x s r; omega)
  have hok := spt_ok hx
  have hb2 := below_box W1 (.cells (flT (spt x s r)).toArray 30)
  have HF : Hid (RdT w0 (W1.alloc (.cells (flT (spt x s r)).toArray 30)) (.slice (some ⟨W1.heap.size, 0, none⟩) (spt x s r).length (spt x s r).length) (spt x s r) ∧ Below W.heap.size W (W1.alloc (.cells (flT (spt x s r)).toArray 30))) := ⟨rdT_of_row hrow hok, hb.trans (hb2.mono hb.size)⟩
  simp only [OkL] at hx
  obtain ⟨xa, xc, rfl, _, _⟩ := hx.1.1.slice
  obtain ⟨xb, xd, rfl, _, _⟩ := hx.1.2.slice
  obtain ⟨k0, k1, k2, k3, k4, k5, k6⟩ := hc
  simp only [Nat.zero_add] at k0 k1 k2 k3 k4 k5 k6
  obtain ⟨n, l, r⟩ := x
  simp only at *
  clear hb hrow hok hb2 hx
  cases n
  · have HG := HF.out
    simp only [spt, Bool.false_eq_true, if_false, flT, List.flatMap_cons, List.flatMap_nil, List.append_nil, List.cons_append, List.nil_append, List.length_cons, List.length_nil] at HG
    have HH : Hid (∃ v, Ending.returned (.slice (some ⟨W1.heap.size, 0, none⟩) 2 2) = .returned v ∧ RdT w0 (W1.alloc (.cells #[.int .i64 l.v, .string l.fn, .slice xa l.args.length xc, .int .i64 r.v, .string r.fn, .slice xb r.args.length xd] 30)) v (spt ⟨false, l, r⟩ (.slice xa l.args.length xc) (.slice xb r.args.length xd)) ∧ Below W.heap.size W (W1.alloc (.cells #[.int .i64 l.v, .string l.fn, .slice xa l.args.length xc, .int .i64 r.v, .string r.fn, .slice xb r.args.length xd] 30))) := ⟨_, rfl, by simpa [spt] using HG.1, HG.2⟩
    clear HF HG
    go_enter Tryz.func67, Tryz.ntmps67
    try rw [h1]
    go_wp2
    try rw [h1]
    go_ret
    exact HH.out
  · have HG := HF.out
    simp only [spt, if_true, flT, List.flatMap_cons, List.flatMap_nil, List.append_nil, List.cons_append, List.nil_append, List.length_cons, List.length_nil] at HG
    have HH : Hid (∃ v, Ending.returned (.slice (some ⟨W1.heap.size, 0, none⟩) 4 4) = .returned v ∧ RdT w0 (W1.alloc (.cells #[.int .i64 l.v, .string l.fn, .slice xa l.args.length xc, .int .i64 l.v, .string l.fn, .slice xa l.args.length xc, .int .i64 r.v, .string r.fn, .slice xb r.args.length xd, .int .i64 r.v, .string r.fn, .slice xb r.args.length xd] 30)) v (spt ⟨true, l, r⟩ (.slice xa l.args.length xc) (.slice xb r.args.length xd)) ∧ Below W.heap.size W (W1.alloc (.cells #[.int .i64 l.v, .string l.fn, .slice xa l.args.length xc, .int .i64 l.v, .string l.fn, .slice xa l.args.length xc, .int .i64 r.v, .string r.fn, .slice xb r.args.length xd, .int .i64 r.v, .string r.fn, .slice xb r.args.length xd] 30))) := ⟨_, rfl, by simpa [spt] using HG.1, HG.2⟩
    clear HF HG
    go_enter Tryz.func67, Tryz.ntmps67
    try rw [h1]
    go_wp2
    try rw [h1]
    go_ret
    exact HH.out
set_option maxRecDepth 100000 in
set_option maxHeartbeats 4000000 in
theorem literals_any (w0 : World) (o : Od) (vn vw : Value) (ho : OdAt w0 o vn vw) : OrdrL w0 o vn vw := by
  intro p q W hp hq hW
  obtain ⟨x, sx, rx⟩ := p
  obtain ⟨y, sy, ry⟩ := q
  obtain ⟨an, nn, cn, rfl⟩ := ho.vn
  obtain ⟨aw, nw, cw, rfl⟩ := ho.vw
  obtain ⟨W1, h1⟩ : ∃ X, W.alloc (obox o (.slice an nn cn) (.slice aw nw cw)) = X := ⟨_, rfl⟩
  obtain ⟨W2, h2⟩ : ∃ X, W1.alloc (lbox x sx rx) = X := ⟨_, rfl⟩
  obtain ⟨W3, h3⟩ : ∃ X, W2.alloc (lbox y sy ry) = X := ⟨_, rfl⟩
  have b1 : Below W.heap.size W W1 := by rw [← h1]; exact below_box _ _
  have b2 : Below W1.heap.size W1 W2 := by rw [← h2]; exact below_box _ _
  have b3 : Below W2.heap.size W2 W3 := by rw [← h3]; exact below_box _ _
  have s1 : W1.heap.size = W.heap.size + 1 := by rw [← h1]; simp
  have s2 : W2.heap.size = W.heap.size + 2 := by rw [← h2]; simp [s1]
  have s3 : W3.heap.size = W.heap.size + 3 := by rw [← h3]; simp [s2]
  have b13 : Below W1.heap.size W1 W3 := b2.trans (b3.mono b2.size)
  have bb : Below W.heap.size W W3 := b1.trans (b13.mono b1.size)
  obtain ⟨Wd, hWd⟩ : ∃ X, W3.drew = X := ⟨_, rfl⟩
  have hd : Below W3.heap.size W3 Wd := by rw [← hWd]; exact (Below.refl _ W3).drew
  obtain ⟨n0, hn0⟩ : ∃ n, Wd.heap.size = n := ⟨_, rfl⟩
  have hsd : Wd.heap.size = W3.heap.size := by rw [← hWd]; rfl
  have hB0 : Below n0 W3.drew W3.drew := Below.refl _ _
  obtain ⟨o0, o1, o2⟩ := obox_cells W (.bool o.path) (.slice an nn cn) (.slice aw nw cw) 40
  rw [h1] at o0 o1 o2
  have cx := bxL_cells W1 (x, sx, rx)
  simp only at cx
  rw [h2, s1] at cx
  have cy := bxL_cells W2 (y, sy, ry)
  simp only at cy
  rw [h3, s2] at cy
  have cx3 := cx.keep b3 (by omega)
  have qo : ∀ Z, Below n0 Wd Z → Z.cell? ⟨W.heap.size, 0, none⟩ = some (.bool o.path) ∧ Z.cell? ⟨W.heap.size, 1, none⟩ = some (.slice an nn cn) ∧ Z.cell? ⟨W.heap.size, 2, none⟩ = some (.slice aw nw cw) := fun Z hZ => by
    have e : Below W1.heap.size W1 Z := (b13.trans (hd.mono b13.size)).trans (hZ.mono (by omega))
    exact ⟨kc e (by omega) o0, kc e (by omega) o1, kc e (by omega) o2⟩
  have b0d : Below w0.heap.size w0 Wd := (hW.trans (bb.mono hW.size)).trans (hd.mono (by have := hW.size; omega))
  have lw : w0.heap.size ≤ n0 := by have := b0d.size; omega
  have HC1 : Hid (∀ Z, Below n0 Wd Z → Calls Tryz.prog 67 #[lval x sx rx] Z fun e Z' => ∃ v, e = .returned v ∧ RdT w0 Z' v (spt x sx rx) ∧ Below Z.heap.size Z Z') := fun Z hZ => side_any w0 x sx rx hp Z (b0d.trans (hZ.mono lw))
  have HC2 : Hid (∀ Z, Below n0 Wd Z → Calls Tryz.prog 67 #[lval y sy ry] Z fun e Z' => ∃ v, e = .returned v ∧ RdT w0 Z' v (spt y sy ry) ∧ Below Z.heap.size Z Z') := fun Z hZ => side_any w0 y sy ry hq Z (b0d.trans (hZ.mono lw))
  have HC3 : Hid (∀ Z v1 v2, Below n0 Wd Z → RdT w0 Z v1 (spt x sx rx) → RdT w0 Z v2 (spt y sy ry) → Calls Tryz.prog 65 #[fsT, foT o (.slice an nn cn) (.slice aw nw cw), v1, v2] Z fun e Z' => e = .returned (.int .i64 (odL o (x, sx, rx) (y, sy, ry))) ∧ Below Z.heap.size Z Z') := fun Z v1 v2 hZ r1 r2 => by
    have := extendT_any w0 o _ _ ho (ordrT w0 o _ _ ho) (spt x sx rx) (spt y sy ry) v1 v2 Z (b0d.trans (hZ.mono lw)) r1 r2 (by have := spt_len x sx rx; omega) (by have := spt_len y sy ry; omega)
    rw [spt_sds, spt_sds] at this
    exact this
  have qx : ∀ Z, Below n0 Wd Z → CsL Z (W.heap.size + 1) 0 (x, sx, rx) := fun Z hZ => cx3.keep (n := W3.heap.size) (hd.trans (hZ.mono (by omega))) (by omega)
  have qy : ∀ Z, Below n0 Wd Z → CsL Z (W.heap.size + 2) 0 (y, sy, ry) := fun Z hZ => cy.keep (n := W3.heap.size) (hd.trans (hZ.mono (by omega))) (by omega)
  have HW : Hid (Below W.heap.size W Wd ∧ W.heap.size ≤ n0) := ⟨bb.trans (hd.mono bb.size), by omega⟩
  have HN : Hid (Wd.heap.size = n0) := hn0
  obtain ⟨z, hz⟩ : ∃ z, odL o (x, sx, rx) (y, sy, ry) = z := ⟨_, rfl⟩
  rw [hz] at HC3 ⊢
  simp only [OkL] at hp hq
  obtain ⟨xa, xc, rfl, _, _⟩ := hp.1.1.slice
  obtain ⟨xb, xd, rfl, _, _⟩ := hp.1.2.slice
  obtain ⟨ya, yc, rfl, _, _⟩ := hq.1.1.slice
  obtain ⟨yb, yd, rfl, _, _⟩ := hq.1.2.slice
  simp only [CsL, Nat.zero_add] at qx qy
  clear hz b1 b2 b3 b13 bb hd o0 o1 o2 cx cy cx3 b0d lw hp hq hW ho hn0 hsd s3
  simp only
  go_enter Tryz.func33, Tryz.ntmps33
  try rw [h1]
  try rw [h2]
  try rw [h3]
  go_wp2
  try rw [h1]
  try rw [h2]
  try rw [h3]
  try rw [s1]
  try rw [s2]
  refine wp_region_held_drew (S := fun Z => Below n0 W3.drew Z) (by kernel_rfl) hB0 (fun hHeld => ?_)
  rw [hWd] at hHeld ⊢
  refine take_mk 0 (oval o (.slice an nn cn) (.slice aw nw cw)) rfl (by kernel_rfl) (by kernel_rfl) (by kernel_rfl) (fun _ _ _ h => h) (Or.inl ⟨by rfl, fun Z hZ => by obtain ⟨y0, y1, y2⟩ := qo Z hZ; go_simp⟩) (by assumption) ?_
  try simp only [Act.put, List.setIfInBounds_toArray, List.set_cons_zero, List.set_cons_succ]
  refine take_mk 1 (foT o (.slice an nn cn) (.slice aw nw cw)) rfl (by kernel_rfl) (by kernel_rfl) (by kernel_rfl) (fun _ _ _ h => h) (Or.inl ⟨by rfl, fun Z hZ => by go_simp⟩) (by assumption) ?_
  try simp only [Act.put, List.setIfInBounds_toArray, List.set_cons_zero, List.set_cons_succ]
  refine take_mk 2 (lval x (.slice xa x.l.args.length xc) (.slice xb x.r.args.length xd)) rfl (by kernel_rfl) (by kernel_rfl) (by kernel_rfl) (fun _ _ _ h => h) (Or.inl ⟨by rfl, fun Z hZ => by obtain ⟨y0, y1, y2, y3, y4, y5, y6⟩ := qx Z hZ; go_simp⟩) (by assumption) ?_
  try simp only [Act.put, List.setIfInBounds_toArray, List.set_cons_zero, List.set_cons_succ]
  refine take_mk 4 (lval y (.slice ya y.l.args.length yc) (.slice yb y.r.args.length yd)) rfl (by kernel_rfl) (by kernel_rfl) (by kernel_rfl) (fun _ _ _ h => h) (Or.inl ⟨by rfl, fun Z hZ => by obtain ⟨y0, y1, y2, y3, y4, y5, y6⟩ := qy Z hZ; go_simp⟩) (by assumption) ?_
  try simp only [Act.put, List.setIfInBounds_toArray, List.set_cons_zero, List.set_cons_succ]
  refine wpAnyH_ready (rs := [3]) (by kernel_rfl) (by simp) (AllReadyH.cons (o := ⟨_, _, _, _, _, _⟩) rfl (fun K hK => ?_) AllReadyH.nil)
  rw [if_pos (by rfl)]
  go_simp
  refine (HC1.out _ hHeld).mono ?_
  rintro e X1 ⟨v1, rfl, r1, b1⟩
  obtain ⟨a1, c1, rfl, _, _⟩ := r1.slice
  have hS1 : Below n0 Wd X1 := hHeld.trans (b1.mono (by have := hHeld.size; have := HN.out; omega))
  refine hK.out _ _ hS1 (fun hHeld1 => ?_)
  clear hK K
  try simp only [Act.put, List.setIfInBounds_toArray, List.set_cons_zero, List.set_cons_succ]
  refine wpAnyH_ready (rs := [5]) (by kernel_rfl) (by simp) (AllReadyH.cons (o := ⟨_, _, _, _, _, _⟩) rfl (fun K hK => ?_) AllReadyH.nil)
  rw [if_pos (by rfl)]
  go_simp
  refine (HC2.out _ hS1).mono ?_
  rintro e X2 ⟨v2, rfl, r2, b2⟩
  obtain ⟨a2, c2, rfl, _, _⟩ := r2.slice
  have hS2 : Below n0 Wd X2 := hS1.trans (b2.mono (by have := hS1.size; have := HN.out; omega))
  have hcx := HC3.out _ _ _ hS2 (r1.keep b2) r2
  refine hK.out _ _ hS2 (fun hHeld2 => ?_)
  clear hK K
  try simp only [Act.put, List.setIfInBounds_toArray, List.set_cons_zero, List.set_cons_succ]
  refine wpAnyH_ready (rs := [6]) (by kernel_rfl) (by simp) (AllReadyH.cons (o := ⟨_, _, _, _, _, _⟩) rfl (fun K hK => ?_) AllReadyH.nil)
  rw [if_pos (by rfl)]
  go_simp
  refine hcx.mono ?_
  rintro e X3 ⟨rfl, b3⟩
  have hS3 : Below n0 Wd X3 := hS2.trans (b3.mono (by have := hS2.size; have := HN.out; omega))
  refine hK.out _ _ hS3 (fun hHeld3 => ?_)
  clear hK K
  try simp only [Act.put, List.setIfInBounds_toArray, List.set_cons_zero, List.set_cons_succ]
  refine take_mk 7 (.int .i64 z) rfl (by kernel_rfl) (by kernel_rfl) (by kernel_rfl) (fun _ _ _ h => h) (Or.inl ⟨by rfl, fun Z hZ => by go_simp⟩) (by assumption) ?_
  try simp only [Act.put, List.setIfInBounds_toArray, List.set_cons_zero, List.set_cons_succ]
  refine wpAnyH_done (by kernel_rfl) ?_ _
  try simp only [Act.put]
  have HE : Hid (Below n0 Wd X3) := hS3
  clear hS1 hS2 hS3 hHeld hHeld1 hHeld2 hHeld3 hcx b1 b2 b3 r1 r2
  go_wp2
  go_ret
  exact ⟨rfl, HW.out.1.trans (HE.out.mono HW.out.2)⟩
end Go.Proofs.YtglphfhlpobgcaaGreat
