import Derived.Test.YtglphfhlpobgcaaGreatYB
import Derived.Shelf.Abstract
import Derived.Test.YtglphfhlpobgcaaGreatLV
import Derived.Test.YtglphfhlpobgcaaGreatWF
import Derived.Test.YtglphfhlpobgcaaGreatVD
import Derived.Lib.SliceRun
import Derived.Maps.AppendAt
import Derived.Test.YtglphfhlpobgcaaGreatLB

namespace Go.Proofs.YtglphfhlpobgcaaGreat
open Go.RowKit Go.Maps
def firstG {α : Type} (P : α → Bool) : List α → Nat → Int
  | [], _ => -1
  | x :: r, i => if P x then i else firstG P r (i + 1)
theorem firstG_any {α : Type} (P : α → Bool) : ∀ (l : List α) (i : Nat), decide (firstG P l i ≥ 0) = l.any P
  | [], _ => rfl
  | x :: r, i => by
    unfold firstG
    cases h : P x
    · simp only [Bool.false_eq_true, if_false, List.any_cons, h, Bool.false_or]
      exact firstG_any P r (i + 1)
    · simp [h]
theorem firstG_drop {α : Type} (P : α → Bool) (l : List α) : ∀ i, i ≤ l.length → (∀ j (hj : j < l.length), j < i → P l[j] = false) → firstG P l 0 = firstG P (l.drop i) i := by
  intro i
  induction i with
  | zero => intro _ _; simp
  | succ i ih =>
    intro hi h
    rw [ih (by omega) (fun j hj hji => h j hj (by omega))]
    have e : l.drop i = l[i] :: l.drop (i + 1) := List.drop_eq_getElem_cons (by omega)
    rw [e]
    simp only [firstG, h i (by omega) (by omega), Bool.false_eq_true, if_false]
theorem firstG_find {α : Type} (P : α → Bool) : ∀ (l : List α) (i : Nat), (firstG P l i = -1 ∧ l.findIdx? P = none) ∨ ∃ k, k < l.length ∧ firstG P l i = ((i + k : Nat) : Int) ∧ l.findIdx? P = some k
  | [], i => .inl ⟨rfl, rfl⟩
  | x :: r, i => by
    cases h : P x
    · rcases firstG_find P r (i + 1) with ⟨h1, h2⟩ | ⟨k, hk, h1, h2⟩
      · exact .inl ⟨by simp [firstG, h, h1], by simp [List.findIdx?_cons, h, h2]⟩
      · exact .inr ⟨k + 1, by simpa using hk, by simp only [firstG, h, Bool.false_eq_true, if_false, h1]; omega, by simp [List.findIdx?_cons, h, h2]⟩
    · exact .inr ⟨0, by simp, by simp [firstG, h], by simp [List.findIdx?_cons, h]⟩
def CsT (W : World) (b o : Nat) (p : (T × Value)) : Prop := W.cell? ⟨b, o, none⟩ = some (.int .i64 p.1.v) ∧ W.cell? ⟨b, o + 1, none⟩ = some (.string p.1.fn) ∧ W.cell? ⟨b, o + 2, none⟩ = some p.2
theorem CsT.keep {W W' : World} {n b o : Nat} {p : (T × Value)} (h : CsT W b o p) (hb : Below n W W') (hl : b < n) : CsT W' b o p := by
  obtain ⟨c0, c1, c2⟩ := h
  exact ⟨kc hb hl c0, kc hb hl c1, kc hb hl c2⟩
def OkT (w0 : World) (p : (T × Value)) : Prop := ArgsAt w0 p.2 p.1.args ∧ p.1.size ≤ 1048576
theorem OkT.keep {w0 w1 : World} {p : (T × Value)} (h : OkT w0 p) (hb : Below w0.heap.size w0 w1) : OkT w1 p := ⟨ArgsAt.keep hb (Nat.le_refl _) h.1, h.2⟩
structure RdT (w0 W : World) (v : Value) (ps : List (T × Value)) : Prop where
  sl : ∃ a c, v = .slice a ps.length c ∧ ps.length ≤ c ∧ c ≤ 9223372036854775807 ∧ ∀ i (h : i < ps.length), ∃ b o, a = some ⟨b, o, none⟩ ∧ b < W.heap.size ∧ CsT W b (o + i * 3) ps[i]
  ok : ∀ p ∈ ps, OkT w0 p
theorem RdT.keep {w0 W W' : World} {v : Value} {ps : List (T × Value)} (h : RdT w0 W v ps) (hb : Below W.heap.size W W') : RdT w0 W' v ps := by
  obtain ⟨⟨a, c, e, h1, h2, h3⟩, ok⟩ := h
  refine ⟨⟨a, c, e, h1, h2, fun i hi => ?_⟩, ok⟩
  obtain ⟨b, o, e, hl, hc⟩ := h3 i hi
  exact ⟨b, o, e, Nat.lt_of_lt_of_le hl hb.size, hc.keep hb hl⟩
theorem RdT.base {w0 w1 W : World} {v : Value} {ps : List (T × Value)} (h : RdT w0 W v ps) (hb : Below w0.heap.size w0 w1) : RdT w1 W v ps := ⟨h.sl, fun p hp => (h.ok p hp).keep hb⟩
theorem RdT.slice {w0 W : World} {v : Value} {ps : List (T × Value)} (h : RdT w0 W v ps) : ∃ a c, v = .slice a ps.length c ∧ ps.length ≤ c ∧ c ≤ 9223372036854775807 := by
  obtain ⟨⟨a, c, e, h1, h2, _⟩, _⟩ := h
  exact ⟨a, c, e, h1, h2⟩
theorem RdT.nth {w0 W : World} {a : Option Addr} {n c : Nat} {ps : List (T × Value)} (h : RdT w0 W (.slice a n c) ps) {i : Nat} (hi : i < ps.length) : ∃ b o, a = some ⟨b, o, none⟩ ∧ b < W.heap.size ∧ CsT W b (o + i * 3) ps[i] ∧ OkT w0 ps[i] := by
  obtain ⟨⟨a', c', e, h1, h2, h3⟩, ok⟩ := h
  injection e with e1 e2 e3
  subst e1
  obtain ⟨b, o, e, hl, hc⟩ := h3 i hi
  exact ⟨b, o, e, hl, hc, ok _ (List.getElem_mem hi)⟩
theorem rdT_nil (w0 W : World) : RdT w0 W (.slice none 0 0) [] := ⟨⟨none, 0, rfl, Nat.le_refl _, by omega, fun i h => absurd h (by simp)⟩, by simp⟩
def flT (ps : List (T × Value)) : List Value := ps.flatMap fun p => [.int .i64 p.1.v, .string p.1.fn, p.2]
theorem flT_len (ps : List (T × Value)) : (flT ps).length = ps.length * 3 := by
  induction ps with
  | nil => rfl
  | cons p r ih => simp only [flT, List.flatMap_cons, List.length_append, List.length_cons, List.length_nil] at ih ⊢; omega
theorem flT_app (a b : List (T × Value)) : flT (a ++ b) = flT a ++ flT b := by simp [flT]
theorem flT_one (p : (T × Value)) : flT [p] = [.int .i64 p.1.v, .string p.1.fn, p.2] := by simp [flT]
theorem flT_drop (ps : List (T × Value)) (i : Nat) : (flT ps).drop (i * 3) = flT (ps.drop i) := by
  by_cases h : i ≤ ps.length
  · have e : ps = ps.take i ++ ps.drop i := (List.take_append_drop i ps).symm
    have hl : (flT (ps.take i)).length = i * 3 := by rw [flT_len, List.length_take, Nat.min_eq_left h]
    conv => lhs; rw [e, flT_app, ← hl]
    rw [List.drop_left]
  · rw [List.drop_eq_nil_of_le (by rw [flT_len]; omega), List.drop_eq_nil_of_le (by omega)]
    rfl
theorem flT_take (ps : List (T × Value)) (i : Nat) : (flT ps).take (i * 3) = flT (ps.take i) := by
  by_cases h : i ≤ ps.length
  · have e : ps = ps.take i ++ ps.drop i := (List.take_append_drop i ps).symm
    have hl : (flT (ps.take i)).length = i * 3 := by rw [flT_len, List.length_take, Nat.min_eq_left h]
    conv => lhs; rw [e, flT_app, ← hl]
    rw [List.take_left]
  · rw [List.take_of_length_le (by rw [flT_len]; omega), List.take_of_length_le (by omega)]
theorem flT_get (ps : List (T × Value)) (i : Nat) (h : i < ps.length) (j : Nat) (hj : j < 3) : (flT ps)[i * 3 + j]? = (flT [ps[i]])[j]? := by
  rw [← List.getElem?_drop, flT_drop, List.drop_eq_getElem_cons h, show ps[i] :: ps.drop (i + 1) = [ps[i]] ++ ps.drop (i + 1) from rfl, flT_app, List.getElem?_append_left (by rw [flT_len]; simpa using hj)]
theorem csT_of {W : World} {b off : Nat} {ps : List (T × Value)} (h : ∀ j u, (flT ps)[j]? = some u → W.cell? ⟨b, off + j, none⟩ = some u) {i : Nat} (hi : i < ps.length) : CsT W b (off + i * 3) ps[i] := by
  have hc : ∀ j u, j < 3 → (flT [ps[i]])[j]? = some u → W.cell? ⟨b, off + i * 3 + j, none⟩ = some u := fun j u hj hu => by
    rw [Nat.add_assoc]; exact h _ _ ((flT_get ps i hi j hj).trans hu)
  rw [flT_one] at hc
  refine ⟨hc 0 _ (by omega) rfl, hc 1 _ (by omega) rfl, hc 2 _ (by omega) rfl⟩
theorem rdT_of_row {w0 W : World} {base : Nat} {v : Value} {ps : List (T × Value)} (h : W.ownsRow base 30 3 v ps.length (flT ps)) (ok : ∀ p ∈ ps, OkT w0 p) : RdT w0 W v ps := by
  obtain ⟨hl, ⟨e, h0⟩ | ⟨g, cap, cur, e, hb, hg, hc, hm, hsz, ht⟩⟩ := h
  · have : ps = [] := List.eq_nil_of_length_eq_zero h0
    subst this
    rw [e]
    exact rdT_nil w0 W
  · refine ⟨⟨_, cap, e, hc, by unfold maxLen at hm; omega, fun i hi => ⟨g, 0, rfl, (Array.getElem?_eq_some_iff.1 hg).1, ?_⟩⟩, ok⟩
    refine csT_of (fun j u hj => ?_) hi
    have hjl : j < ps.length * 3 := by have := (List.getElem?_eq_some_iff.1 hj).1; rwa [flT_len] at this
    rw [← ht, List.getElem?_take, if_pos hjl] at hj
    rw [Nat.zero_add, cell_of_row _ _ _ _ 30 (0, 0) hg, ← hj]
    simp
theorem oneT (p : (T × Value)) (hs : ∃ a n c, p.2 = .slice a n c) : ∀ u ∈ flT [p], u.oneCell' = true := by
  rw [flT_one]
  intro u hu
  simp only [List.mem_cons, List.not_mem_nil, or_false] at hu
  rcases hu with rfl | rfl | rfl
  · rfl
  · rfl
  · obtain ⟨a, n, c, e⟩ := hs
    rw [e]; rfl
theorem onesT {w0 : World} {ps : List (T × Value)} (ok : ∀ p ∈ ps, OkT w0 p) : ∀ u ∈ flT ps, u.oneCell' = true := by
  intro u hu
  simp only [flT, List.mem_flatMap] at hu
  obtain ⟨p, hp, hu⟩ := hu
  have h := ok p hp
  refine oneT p (by obtain ⟨a, c, e, _⟩ := h.1.slice; exact ⟨_, _, _, e⟩) u (by rw [flT_one]; exact hu)
def PrT (w0 W0 : World) (g : Nat) (lb : Array Value) (P : (T × Value) → Bool) : Prop :=
  ∀ (p : (T × Value)) (W : World), OkT w0 p → Below W0.heap.size W0 W → Calls Tryz.prog g (#[tval p.1 p.2] ++ lb) W fun e W' => e = .returned (.bool (P p)) ∧ Below W.heap.size W W'
set_option maxRecDepth 100000 in
set_option maxHeartbeats 2000000 in
theorem indexT_any (w0 W0 : World) (g : Nat) (lb : Array Value) (P : (T × Value) → Bool) (eg : ∀ args w, (callFunc g args).run Tryz.prog w = .ok (.enter g args) w) (hp : PrT w0 W0 g lb P) (ps : List (T × Value)) (v : Value) (w : World) (hw : Below W0.heap.size W0 w) (hl : RdT w0 w v ps) :
    Calls Tryz.prog 64 #[v, .func (.func g) #[] lb] w fun e W' => e = .returned (.int .i64 (firstG P ps 0)) ∧ Below w.heap.size w W' := by
  obtain ⟨a, c, rfl, hc1, hc2⟩ := hl.slice
  have HL : Hid (RdT w0 w (.slice a ps.length c) ps) := hl
  clear hl
  go_enter Tryz.func64, Tryz.ntmps64
  go_wp2
  go_loopw [8] (fun vi wr => ∃ i : Nat, vi = .int .i64 i ∧ i ≤ ps.length ∧ Below w.heap.size w wr ∧ ∀ j (hj : j < ps.length), j < i → P ps[j] = false) (fun vi _ => ps.length - (intOf vi).toNat)
  case atStart => exact ⟨0, rfl, Nat.zero_le _, Below.refl _ _, fun j _ hj => absurd hj (by omega)⟩
  case round =>
    obtain ⟨i, rfl, hi, hb, hall⟩ := hrel
    by_cases hlt : i < ps.length
    · obtain ⟨bb, o, rfl, hlb, hcs, hok⟩ := (HL.out.keep hb).nth hlt
      have hc := hp ps[i] wr hok (hw.trans (hb.mono hw.size))
      have HF : Hid (firstG P ps 0 = if P ps[i] then (i : Int) else firstG P (ps.drop (i + 1)) (i + 1)) := by
        show _ = _
        rw [firstG_drop P ps i hi hall, List.drop_eq_getElem_cons hlt]
        rfl
      have HN : Hid (P ps[i] = false → ∀ j (hj : j < ps.length), j < i + 1 → P ps[j] = false) := fun h1 j hj hji => by
        by_cases e : j = i
        · subst e; exact h1
        · exact hall j hj (by omega)
      obtain ⟨q, hq⟩ : ∃ q, ps[i] = q := ⟨_, rfl⟩
      rw [hq] at hcs hok HF HN hc
      obtain ⟨z, hz⟩ : ∃ z, P q = z := ⟨_, rfl⟩
      rw [hz] at HF HN hc
      have HB : Hid (Below w.heap.size w wr) := hb
      clear hq hall hb hz
      obtain ⟨t, s⟩ := q
      obtain ⟨c0, c1, c2⟩ := hcs
      simp only [OkT] at hok
      simp only at c0 c1 c2 hc
      obtain ⟨_, _, rfl, _⟩ := hok.1.slice
      
      clear hok hlb
      cases z
      · have HNN : Hid (∀ j (hj : j < ps.length), j < i + 1 → P ps[j] = false) := HN.out rfl
        clear HF HN
        go_wp2_with (first | (go_at_fn g; refine hc.mono ?_; rintro e w3 ⟨rfl, hb3⟩))
        go_roundw
        case rel => exact ⟨i + 1, by go_num, by omega, HB.out.trans (hb3.mono HB.out.size), HNN.out⟩
        case measure => simp [intOf]; omega
      · have HG : Hid (firstG P ps 0 = i) := by show _ = _; rw [HF.out]; rfl
        clear HF HN
        go_wp2_with (first | (go_at_fn g; refine hc.mono ?_; rintro e w3 ⟨rfl, hb3⟩))
        go_ret
        exact ⟨ret_i64 HG.out.symm, HB.out.trans (hb3.mono HB.out.size)⟩
    · have HG : Hid (firstG P ps 0 = -1) := by
        show _ = _
        rw [firstG_drop P ps i hi hall, show i = ps.length by omega, List.drop_length]
        rfl
      clear hall
      go_wp2
      go_ret
      exact ⟨ret_i64 HG.out.symm, hb⟩
set_option maxHeartbeats 1000000 in
theorem containsT_any (w0 W0 : World) (g : Nat) (lb : Array Value) (P : (T × Value) → Bool) (eg : ∀ args w, (callFunc g args).run Tryz.prog w = .ok (.enter g args) w) (hp : PrT w0 W0 g lb P) (ps : List (T × Value)) (v : Value) (w : World) (hw : Below W0.heap.size W0 w) (hl : RdT w0 w v ps) :
    Calls Tryz.prog 32 #[v, .func (.func g) #[] lb] w fun e W' => e = .returned (.bool (ps.any P)) ∧ Below w.heap.size w W' := by
  have hi := indexT_any w0 W0 g lb P eg hp ps v w hw hl
  obtain ⟨a, c, rfl, _, _⟩ := hl.slice
  have HE : Hid (decide (firstG P ps 0 ≥ 0) = ps.any P) := firstG_any P ps 0
  generalize firstG P ps 0 = z at *
  clear hl hp hw
  go_enter Tryz.func32, Tryz.ntmps32
  go_wp2_with (first | (go_at_call 64; refine hi.mono ?_; rintro e w3 ⟨rfl, hb3⟩))
  go_ret
  exact ⟨ret_bool (by rw [← HE.out]), hb3⟩
end Go.Proofs.YtglphfhlpobgcaaGreat

namespace Go.Proofs.YtglphfhlpobgcaaGreat
open Go.RowKit Go.Maps
theorem heap_put (b : Nat) (ty : TypeId) : ∀ (vs : List Value) (o : Nat) (w : World) (cur : Array Value), w.heap[b]? = some (.cells cur ty (0, 0)) → o + vs.length ≤ cur.size →
    ∃ cur' : Array Value, (w.setCells b o vs).heap[b]? = some (.cells cur' ty (0, 0)) ∧ cur'.toList = cur.toList.take o ++ vs ++ cur.toList.drop (o + vs.length) ∧ Only [b] w (w.setCells b o vs)
  | [], o, w, cur, h, _ => ⟨cur, h, by simp, Only.refl _ _⟩
  | v :: r, o, w, cur, h, hl => by
    have h1 := Go.heap_setCell_same w b o cur ty v h
    have hlo : o < cur.toList.length := by simp at hl ⊢; omega
    obtain ⟨cur', g1, g2, g3⟩ := heap_put b ty r (o + 1) _ _ h1 (by simp at hl ⊢; omega)
    refine ⟨cur', g1, ?_, (only_setCell w b o v).trans g3 (by simp)⟩
    rw [g2]
    have e : (cur.setIfInBounds o v).toList = cur.toList.take o ++ v :: cur.toList.drop (o + 1) := by
      rw [Array.toList_setIfInBounds, List.set_eq_take_append_cons_drop, if_pos hlo]
    have hto : (cur.toList.take o).length = o := by rw [List.length_take]; omega
    rw [e]
    have e1 : (cur.toList.take o ++ v :: cur.toList.drop (o + 1)).take (o + 1) = cur.toList.take o ++ [v] := by
      rw [List.take_append, hto, List.take_of_length_le (by omega)]
      simp
    have e2 : (cur.toList.take o ++ v :: cur.toList.drop (o + 1)).drop (o + 1 + r.length) = cur.toList.drop (o + (v :: r).length) := by
      rw [List.drop_append, hto, List.drop_eq_nil_of_le (by omega), List.nil_append, show o + 1 + r.length - o = r.length + 1 by omega, List.drop_succ_cons, List.drop_drop]
      congr 1
      simp
      omega
    rw [e1, e2]
    simp
theorem zeros_len (z : Array Value) (n : Nat) : (Builtin.zeroCells z n).toList.length = n * z.size := by simp [Builtin.zeroCells]
theorem zeros_size (z : Array Value) (n : Nat) : (Builtin.zeroCells z n).size = n * z.size := by simp [Builtin.zeroCells]
theorem zeros_one (z : Array Value) (n : Nat) (h : ∀ u ∈ z.toList, u.oneCell' = true) (h0 : 0 < z.size) : ∀ u ∈ (Builtin.zeroCells z n).toList, u.oneCell' = true := by
  intro u hu
  simp only [Builtin.zeroCells, Array.toList_map, List.mem_map] at hu
  obtain ⟨i, _, rfl⟩ := hu
  have hi : i % z.size < z.size := Nat.mod_lt _ h0
  rw [getElem!_pos z (i % z.size) hi]
  exact h _ (by simp)
theorem run_clear_many (w : World) (t e ty : TypeId) (z : Value) (ht : Tryz.prog.underlying t = some (.slice e)) (hv : ∀ w, (zeroValue e).run Tryz.prog w = .ok z w) (h1 : ∀ u ∈ z.cells.toList, u.oneCell' = true) (h0 : 0 < z.cells.size) (b o n c : Nat) (hn : 0 < n)
    (hc : ∀ j, j < n * z.cells.size → (w.cell? ⟨b, o + j, none⟩).isSome = true) (hf : ∀ j, j < n * z.cells.size → w.frozen? ⟨b, o + j, none⟩ = false) :
    (Builtin.clear_ #[t] ty #[.slice (some ⟨b, o, none⟩) n c]).run Tryz.prog w = .ok (.tuple #[]) (w.setCells b o (Builtin.zeroCells z.cells n).toList) := by
  have hst := run_storeCells_cells (P := Tryz.prog) b o (Builtin.zeroCells z.cells n).toList 0 w (by rw [zeros_len]; simpa using hc) (by rw [zeros_len]; simpa using hf) (zeros_one _ _ h1 h0)
  simp only [Nat.add_zero] at hst
  obtain ⟨m, rfl⟩ : ∃ m, n = m + 1 := ⟨n - 1, by omega⟩
  simp [Builtin.clear_, run_underlying ht, hv, hst]
theorem Tryz.info30q : (Tryz.prog.info? 30).map (fun i => (i.zero, i.size, i.bytes)) = some (some (.agg #[.int .i64 0, .string ⟨#[]⟩, .slice none 0 0]), 3, 48) := by kernel_rfl
theorem zeroT (w : World) : (zeroValue 30).run Tryz.prog w = .ok (.agg #[.int .i64 0, .string ⟨#[]⟩, .slice none 0 0]) w := by kernel_rfl
theorem RdT.cells {w0 W : World} {b o n c : Nat} {ps : List (T × Value)} (h : RdT w0 W (.slice (some ⟨b, o, none⟩) n c) ps) : ∀ j u, (flT ps)[j]? = some u → W.cell? ⟨b, o + j, none⟩ = some u := by
  intro j u hj
  have hjl : j < ps.length * 3 := by have := (List.getElem?_eq_some_iff.1 hj).1; rwa [flT_len] at this
  have hi : j / 3 < ps.length := Nat.div_lt_of_lt_mul (by omega)
  obtain ⟨b', o', e, _, hc, _⟩ := h.nth hi
  obtain ⟨rfl, rfl⟩ : b = b' ∧ o = o' := by injection e with e; injection e with e1 e2; exact ⟨e1, e2⟩
  have hr : j % 3 < 3 := Nat.mod_lt _ (by omega)
  have hjj : j = j / 3 * 3 + j % 3 := by omega
  rw [hjj, flT_get ps _ hi _ hr, flT_one] at hj
  obtain ⟨q, hq⟩ : ∃ q, j / 3 = q := ⟨_, rfl⟩
  obtain ⟨m, hm⟩ : ∃ m, j % 3 = m := ⟨_, rfl⟩
  rw [hq, hm] at hjj
  simp only [hq, hm] at hj hc
  rw [hm] at hr
  obtain ⟨c0, c1, c2⟩ := hc
  have : m = 0 ∨ m = 1 ∨ m = 2 := by omega
  rw [hjj]
  rcases this with rfl | rfl | rfl
  · have := Option.some.inj hj
    subst this
    simpa using c0
  · have := Option.some.inj hj
    subst this
    rw [← Nat.add_assoc]; exact c1
  · have := Option.some.inj hj
    subst this
    rw [← Nat.add_assoc]; exact c2
set_option maxRecDepth 100000 in
set_option maxHeartbeats 1000000 in
theorem cloneT_any (w0 : World) (ps : List (T × Value)) (v : Value) (w : World) (hl : RdT w0 w v ps) (hn : ps.length ≤ 100000) :
    Calls Tryz.prog 137 #[v] w fun e w' => ∃ v', e = .returned v' ∧ w'.ownsRow w.heap.size 30 3 v' ps.length (flT ps) ∧ Below w.heap.size w w' := by
  obtain ⟨a, c, rfl, hc1, hc2⟩ := hl.slice
  obtain ⟨i0, hi, hz0, hz1, hz2⟩ := info_parts Tryz.info30q
  have q1 : ∀ (w : World) (n c n' c' : Nat), (binOp .eql 28 (.slice none n c) (.slice none n' c')).run Tryz.prog w = .ok (.bool true) w := fun w n c n' c' => by kernel_rfl
  have q2 : ∀ (w : World) (ad : Addr) (n c n' c' : Nat), (binOp .eql 28 (.slice (some ad) n c) (.slice none n' c')).run Tryz.prog w = .ok (.bool false) w := fun w ad n c n' c' => by kernel_rfl
  cases a with
  | none =>
    have h0 : ps = [] := by
      cases ps with
      | nil => rfl
      | cons p r =>
        obtain ⟨b, o, e, _⟩ := hl.nth (i := 0) (by simp)
        cases e
    subst h0
    clear hl hn
    go_enter Tryz.func137, Tryz.ntmps137
    go_wp2
    go_ret
    exact ⟨_, rfl, ⟨rfl, .inl ⟨rfl, rfl⟩⟩, Below.refl _ _⟩
  | some ad =>
    have hcells : Hid (∀ j u, (flT ps)[j]? = some u → w.cell? (ad.add j) = some u) := fun j u hj => by
      cases ps with
      | nil => simp [flT] at hj
      | cons p r =>
        obtain ⟨b, o, e, _⟩ := hl.nth (i := 0) (by simp)
        injection e with e
        subst e
        rw [Addr.add_mid]
        exact hl.cells j u hj
    have hones : Hid (∀ u ∈ flT ps, u.oneCell' = true) := onesT hl.ok
    obtain ⟨n, hn'⟩ : ∃ n, ps.length = n := ⟨_, rfl⟩
    have hfl : Hid ((flT ps).length = n * 3) := by show _ = _; rw [flT_len, hn']
    rw [hn'] at hc1 hn ⊢
    clear hl hn'
    go_enter Tryz.func137, Tryz.ntmps137
    go_wp2_with (at_builtin; refine wpList_append_own_at _ rfl _ _ 28 rfl w.heap.size 30 i0 _ 3 48 Tryz.underlying28 hi hz0 hz1 hz2 rfl (by decide) (.slice (some ⟨w.heap.size, 0, none⟩) 0 0) 0 [] rfl (World.ownsRow_made w #[] 0 (Nat.le_refl _) (Nat.zero_le _) (by simp)) ad n c (flT ps) rfl hfl.out (fun j u hj => Lib.cell?_alloc_some _ (hcells.out j u hj)) hones.out (by rw [Nat.zero_add]; unfold maxLen; omega) (by rw [Nat.zero_add]; omega) (by simp) ?_; intro v' w1 hown hgrow hnil hat; obtain ⟨a1, c1, rfl⟩ := row_slice hown)
    go_ret
    have o1 : Only [w.heap.size] (w.alloc (.cells #[] 30)) w1 := Only.of_grown hgrow (fun r e => by simp [Value.ownBlock] at e; simp [e])
    exact ⟨_, rfl, by simpa using hown, (below_box w _).trans (o1.below (by simp) (by simp))⟩
theorem rowT_open {W : World} {base : Nat} {v : Value} {ps : List (T × Value)} (h : W.ownsRow base 30 3 v ps.length (flT ps)) (h0 : 0 < ps.length) : ∃ g cap cur, v = .slice (some ⟨g, 0, none⟩) ps.length cap ∧ base ≤ g ∧ W.heap[g]? = some (.cells cur 30 (0, 0)) ∧ ps.length ≤ cap ∧ cap ≤ maxLen ∧ cur.size = cap * 3 ∧ cur.toList.take (ps.length * 3) = flT ps := by
  obtain ⟨hl, ⟨e, h1⟩ | h⟩ := h
  · omega
  · exact h
theorem eraseT (ps : List (T × Value)) (k : Nat) : flT (ps.eraseIdx k) = flT (ps.take k) ++ flT (ps.drop (k + 1)) := by
  rw [List.eraseIdx_eq_take_drop_succ, flT_app]
set_option maxRecDepth 100000 in
set_option maxHeartbeats 2000000 in
theorem deleteT_any (w0 : World) (base : Nat) (ps : List (T × Value)) (v : Value) (w : World) (h : w.ownsRow base 30 3 v ps.length (flT ps)) (ok : ∀ p ∈ ps, OkT w0 p) (k j : Nat) (hj : j = k + 1) (hk : k < ps.length) :
    Calls Tryz.prog 139 #[v, .int .i64 (k : Int), .int .i64 (j : Int)] w fun e w' => ∃ v' g, e = .returned v' ∧ v.ownBlock = some g ∧ v'.ownBlock = some g ∧ w'.ownsRow base 30 3 v' (ps.eraseIdx k).length (flT (ps.eraseIdx k)) ∧ Only [g] w w' := by
  obtain ⟨g, cap, cur, rfl, hb, hg, hc, hm, hsz, ht⟩ := rowT_open h (by omega)
  obtain ⟨i0, hi, hz0, hz1, hz2⟩ := info_parts Tryz.info30q
  have hmm : cap ≤ 9223372036854775807 := by unfold maxLen at hm; omega
  obtain ⟨n, hn⟩ : ∃ n, ps.length = n := ⟨_, rfl⟩
  rw [hn] at hc ht hk ⊢
  obtain ⟨news, hnews⟩ : ∃ l, flT (ps.drop j) = l := ⟨_, rfl⟩
  have hlen : news.length = (n - j) * 3 := by rw [← hnews, flT_len, List.length_drop, hn]
  have hcl : cur.toList.length = cap * 3 := by simpa using hsz
  obtain ⟨A, hA, hsrc⟩ : ∃ A : Addr, (if cap = j then some (⟨g, 0, none⟩ : Addr) else some ⟨g, j * 3, none⟩) = some A ∧ Hid (∀ t u, news[t]? = some u → w.drew.cell? (A.add t) = some u) := by
    by_cases h : cap = j
    · refine ⟨⟨g, 0, none⟩, by simp [h], fun t u hu => ?_⟩
      have h0 : news.length = 0 := by rw [hlen]; omega
      rw [List.length_eq_zero_iff.1 h0] at hu
      simp at hu
    · refine ⟨⟨g, j * 3, none⟩, by simp [h], fun t u hu => ?_⟩
      have htl : t < (n - j) * 3 := by have := (List.getElem?_eq_some_iff.1 hu).1; rwa [hlen] at this
      rw [← hnews, ← flT_drop, List.getElem?_drop, ← ht, List.getElem?_take, if_pos (by omega)] at hu
      rw [Addr.add_mid]
      show w.cell? _ = _
      rw [cell_of_row _ _ _ _ 30 (0, 0) hg, ← hu]
      simp
  have s1 : Hid (news.length = (n - j) * 3) := hlen
  have s2 : Hid (∀ u ∈ news, u.oneCell' = true) := by
    intro u hu
    rw [← hnews] at hu
    exact onesT (w0 := w0) (fun p hp => ok p (List.mem_of_mem_drop hp)) u hu
  have s3 : Hid (∀ t, t < news.length → (w.drew.cell? ⟨g, 0 + k * 3 + t, none⟩).isSome = true ∧ w.drew.frozen? ⟨g, 0 + k * 3 + t, none⟩ = false) := by
    intro t htl
    rw [hlen] at htl
    have hlt : 0 + k * 3 + t < cur.size := by omega
    exact ⟨by show (w.cell? _).isSome = true; rw [cell_of_row _ _ _ _ 30 (0, 0) hg]; simpa using hlt, by show w.frozen? _ = false; simp [World.frozen?, hg]⟩
  obtain ⟨cur1, p1, p2, p3⟩ := heap_put g 30 news (k * 3) w.drew cur hg (by rw [hlen, hsz]; omega)
  obtain ⟨W1, hW1⟩ : ∃ W1, W1 = w.drew.setCells g (0 + k * 3) news := ⟨_, rfl⟩
  have hW1' : w.drew.setCells g (k * 3) news = W1 := by rw [hW1, Nat.zero_add]
  rw [hW1'] at p1 p3
  have hs1 : cur1.size = cap * 3 := by
    have := congrArg List.length p2
    simp only [Array.length_toList, List.length_append, List.length_take, List.length_drop, hlen, hsz] at this
    omega
  obtain ⟨cur2, r1, r2, r3⟩ := heap_put g 30 (Builtin.zeroCells #[.int .i64 0, .string ⟨#[]⟩, .slice none 0 0] 1).toList ((n - 1) * 3) W1 cur1 p1 (by rw [zeros_len, hs1]; simp; omega)
  have hclr : ∀ ty, (Builtin.clear_ #[28] ty #[.slice (some ⟨g, (n - 1) * 3, none⟩) 1 (cap - (n - 1))]).run Tryz.prog W1 = .ok (.tuple #[]) (W1.setCells g ((n - 1) * 3) (Builtin.zeroCells #[.int .i64 0, .string ⟨#[]⟩, .slice none 0 0] 1).toList) := fun ty =>
    run_clear_many W1 28 30 ty (.agg #[.int .i64 0, .string ⟨#[]⟩, .slice none 0 0]) Tryz.underlying28 zeroT (by intro u hu; simp only [Value.cells, List.mem_cons, List.not_mem_nil, or_false] at hu; rcases hu with rfl | rfl | rfl <;> rfl) (by decide) g ((n - 1) * 3) 1 (cap - (n - 1)) (by omega) (fun j hj => by have hj' : j < 1 * 3 := hj; have hlt : (n - 1) * 3 + j < cur1.size := (by omega); simp [World.cell?, p1, hlt]) (fun j hj => by simp [World.frozen?, p1])
  have HF : Hid ((W1.setCells g ((n - 1) * 3) (Builtin.zeroCells #[.int .i64 0, .string ⟨#[]⟩, .slice none 0 0] 1).toList).ownsRow base 30 3 (.slice (some ⟨g, 0, none⟩) (n - 1) cap) (ps.eraseIdx k).length (flT (ps.eraseIdx k)) ∧ Only [g] w (W1.setCells g ((n - 1) * 3) (Builtin.zeroCells #[.int .i64 0, .string ⟨#[]⟩, .slice none 0 0] 1).toList)) := by
    have hel : (ps.eraseIdx k).length = n - 1 := by rw [List.length_eraseIdx_of_lt (by omega), hn]
    refine ⟨⟨flT_len _, .inr ⟨g, cap, cur2, by rw [hel], hb, r1, by omega, hm, ?_, ?_⟩⟩, ?_⟩
    · have := congrArg List.length r2
      simp only [Array.length_toList, List.length_append, List.length_take, List.length_drop, zeros_size, hs1, List.size_toArray, List.length_cons, List.length_nil] at this
      omega
    · rw [hel, r2, eraseT, ← hj, hnews, List.append_assoc, List.take_append_of_le_length (by simp [hs1]; omega), List.take_take, Nat.min_self, p2, List.append_assoc, ← flT_take]
      have e1 : (cur.toList.take (k * 3)).length = k * 3 := by rw [List.length_take, hcl]; omega
      have e2 : cur.toList.take (k * 3) = (flT ps).take (k * 3) := by rw [← ht, List.take_take, Nat.min_eq_left (by omega)]
      rw [e2] at e1 ⊢
      rw [List.take_append, e1, List.take_of_length_le (by omega)]
      congr 1
      rw [List.take_append_of_le_length (by omega), List.take_of_length_le (by omega)]
    · have d0 : Only [g] w w.drew := Only.of_below (Below.refl _ w).drew
      exact (d0.trans p3 (fun r hr => .inl hr)).trans r3 (fun r hr => .inl hr)
  have hW : Hid (W1 = w.drew.setCells g (0 + k * 3) news) := hW1
  have a1 : (0 : Int) ≤ (k : Int) := by omega
  have a2 : (k : Int) ≤ (j : Int) := by omega
  have a3 : (j : Int) ≤ (n : Int) := by omega
  have a4 : (n : Int) ≤ (cap : Int) := by omega
  have a5 : ((k : Int) == (j : Int)) = false := by rw [beq_eq_false_iff_ne]; omega
  have a6 : (k : Int) ≤ (cap : Int) := by omega
  have a7 : (j : Int) ≤ (cap : Int) := by omega
  have a8 : k + (n - j) = n - 1 := by omega
  have a9 : n - (n - 1) = 1 := by omega
  have HJ : Hid (j = k + 1 ∧ k < n ∧ n ≤ cap) := ⟨hj, hk, hc⟩
  clear hj hW1 hW1' r1 r2 r3 hs1 p1 p2 p3 h ok ht hcl hg hsz hb hlen hnews
  go_enter Tryz.func139, Tryz.ntmps139
  go_wp2_with fail
  go_region_law (refine step_append_room rfl (.tmp 22) (.tmp 25) 28 rfl 30 i0 3 Tryz.underlying28 hi hz1 g 0 k cap (by simp [Act.eval, Act.put]) A (n - j) (cap - j) news (by simp [Act.eval, Act.put]) s1.out hsrc.out s2.out (by have := HJ.out; omega) s3.out ?_; rw [← hW.out])
  go_wp2
  go_ret
  exact ⟨_, g, rfl, rfl, rfl, HF.out⟩
end Go.Proofs.YtglphfhlpobgcaaGreat

namespace Go.Proofs.YtglphfhlpobgcaaGreat
open Go.RowKit Go.Maps
section
variable {A α : Type} (κ : A → α)
theorem cgo_snoc : ∀ (l : List A) (p x : A), cgo κ p (l ++ [x]) = (open Classical in if κ x = κ ((p :: l).getLast (by simp)) then cgo κ p l else cgo κ p l ++ [x])
  | [], p, x => by
    by_cases h : κ x = κ p <;> simp [cgo, h]
  | b :: r, p, x => by
    have ih := cgo_snoc r b x
    rw [List.cons_append]
    simp only [cgo, List.getLast_cons_cons]
    rw [ih]
    by_cases h1 : κ b = κ p <;> by_cases h2 : κ x = κ ((b :: r).getLast (by simp)) <;> simp [h1, h2]
theorem cmpt_take (ps : List A) {q : Nat} (h1 : 1 ≤ q) (h : q < ps.length) : (κ ps[q] = κ (ps[q - 1]'(by omega)) → cmpt κ (ps.take (q + 1)) = cmpt κ (ps.take q)) ∧ (κ ps[q] ≠ κ (ps[q - 1]'(by omega)) → cmpt κ (ps.take (q + 1)) = cmpt κ (ps.take q) ++ [ps[q]]) := by
  have e : ps.take (q + 1) = ps.take q ++ [ps[q]] := List.take_succ_eq_append_getElem h
  cases ps with
  | nil => simp at h
  | cons p r =>
    obtain ⟨m, rfl⟩ : ∃ m, q = m + 1 := ⟨q - 1, by omega⟩
    have hl : (p :: r.take m).getLast (by simp) = (p :: r)[m + 1 - 1]'(by omega) := by
      rw [List.getLast_eq_getElem]
      have hm : (p :: r.take m).length - 1 = m := by simp at h ⊢; omega
      simp only [hm, Nat.add_sub_cancel]
      cases m with
      | zero => rfl
      | succ m => simp
    rw [e]
    simp only [List.take_succ_cons, List.cons_append, cmpt]
    rw [cgo_snoc, hl]
    exact ⟨fun h => by rw [if_pos h], fun h => by rw [if_neg h]⟩
theorem cmpt_short (ps : List A) (h : ps.length < 2) : cmpt κ ps = ps := by
  match ps, h with
  | [], _ => rfl
  | [a], _ => rfl
end
noncomputable def smT (p q : (T × Value)) : Bool := open Classical in decide ((fun p : T × Value => p.1) p = (fun p : T × Value => p.1) q)
theorem smT_iff {p q : (T × Value)} : smT p q = true ↔ (fun p : T × Value => p.1) p = (fun p : T × Value => p.1) q := by simp [smT]
theorem smT_no {p q : (T × Value)} : smT p q = false ↔ (fun p : T × Value => p.1) p ≠ (fun p : T × Value => p.1) q := by simp [smT]
theorem sameT_any (w0 : World) (p q : (T × Value)) (hp : OkT w0 p) (hq : OkT w0 q) (W : World) (hW : Below w0.heap.size w0 W) : Calls Tryz.prog 66 #[tval p.1 p.2, tval q.1 q.2] W fun e W' => e = .returned (.bool (smT p q)) ∧ Below W.heap.size W W' := by
  have h := tsame_any p.1 q.1 p.2 q.2 W (ArgsAt.keep hW (Nat.le_refl _) hp.1) (ArgsAt.keep hW (Nat.le_refl _) hq.1)
  have e : same p.1 q.1 = smT p q := by unfold same smT; congr
  rw [e] at h
  exact h
theorem eg66 : ∀ args w, (callFunc 66 args).run Tryz.prog w = .ok (.enter 66 args) w := enters_of Tryz.func66 (by kernel_rfl) rfl
theorem rowT_set {W : World} {base g cap : Nat} {n : Nat} {ps : List (T × Value)} (h : W.ownsRow base 30 3 (.slice (some ⟨g, 0, none⟩) n cap) ps.length (flT ps)) (hn : ps.length = n) {k : Nat} (hk : k < ps.length) (q : (T × Value)) (h1 : ∀ u ∈ flT [q], u.oneCell' = true) :
    (Instr.storeAt 30 (.pointer (some ⟨g, k * 3, none⟩)) (tval q.1 q.2)).run Tryz.prog W = .ok () (W.setCells g (k * 3) (flT [q])) ∧ (W.setCells g (k * 3) (flT [q])).ownsRow base 30 3 (.slice (some ⟨g, 0, none⟩) n cap) (ps.set k q).length (flT (ps.set k q)) ∧ Only [g] W (W.setCells g (k * 3) (flT [q])) := by
  obtain ⟨g', cap', cur, e, hb, hg, hc, hm, hsz, ht⟩ := rowT_open h (by omega)
  obtain ⟨rfl, rfl⟩ : g = g' ∧ cap = cap' := by injection e with e1 e2 e3; injection e1 with e1; injection e1 with e1; exact ⟨e1, e3⟩
  have hfl : (flT [q]).length = 3 := by rw [flT_len]; simp
  obtain ⟨cur', p1, p2, p3⟩ := heap_put g 30 (flT [q]) (k * 3) W cur hg (by rw [hfl, hsz]; omega)
  have hcl : cur.toList.length = cap * 3 := by simpa using hsz
  refine ⟨?_, ⟨flT_len _, .inr ⟨g, cap, cur', by rw [List.length_set, hn], hb, p1, by rw [List.length_set]; omega, hm, ?_, ?_⟩⟩, p3⟩
  · have hr := run_storeAt_mid (P := Tryz.prog) W g (k * 3) 30 (flT [q]).toArray (fun j hj => by
      have hj' : j < 3 := by simpa [hfl] using hj
      have hlt : k * 3 + j < cur.size := by rw [hsz]; omega
      simp [World.cell?, World.frozen?, hg, hlt]) (by rw [List.size_toArray, hfl]; kernel_rfl) (all_oneCell_toArray h1)
    rw [flT_one] at hr ⊢
    exact hr
  · have := congrArg List.length p2
    simp only [Array.length_toList, List.length_append, List.length_take, List.length_drop, hfl, hsz] at this
    omega
  · rw [List.length_set, p2, hfl, List.set_eq_take_append_cons_drop, if_pos hk]
    have e1 : cur.toList.take (k * 3) = flT (ps.take k) := by rw [← flT_take, ← ht, List.take_take, Nat.min_eq_left (by omega)]
    have e3 : (flT (ps.take k)).length = k * 3 := by rw [flT_len, List.length_take, Nat.min_eq_left (by omega)]
    have e2 : (cur.toList.drop (k * 3 + 3)).take ((ps.length - (k + 1)) * 3) = flT (ps.drop (k + 1)) := by
      rw [← flT_drop, ← ht, List.drop_take]
      congr 1
      · omega
      · congr 1; omega
    rw [e1, List.append_assoc, List.take_append, e3, List.take_of_length_le (by omega), show q :: ps.drop (k + 1) = [q] ++ ps.drop (k + 1) from rfl, flT_app, flT_app]
    congr 1
    rw [List.take_append, hfl, List.take_of_length_le (by omega), ← e2]
    congr 2
    omega
structure CpT (w0 w : World) (base g cap n : Nat) (ps : List (T × Value)) (q kk : Nat) (cur : List (T × Value)) (W : World) : Prop where
  row : W.ownsRow base 30 3 (.slice (some ⟨g, 0, none⟩) n cap) cur.length (flT cur)
  len : cur.length = n
  on : Only [g] w W
  tk : cur.take kk = cmpt (fun p : T × Value => p.1) (ps.take q)
  hi : ∀ j, q ≤ j + 1 → cur[j]? = ps[j]?
  lt : kk + 1 ≤ q
  bel : Below w0.heap.size w0 W
section
variable {w0 w W W' : World} {base g cap n q kk : Nat} {ps cur : List (T × Value)}
theorem CpT.below (h : CpT w0 w base g cap n ps q kk cur W) (hb : Below W.heap.size W W') : CpT w0 w base g cap n ps q kk cur W' :=
  ⟨rowL_keep h.row (fun r hr => by
    obtain ⟨_, c, hc⟩ := row_block h.row hr
    exact hb.block r (Array.getElem?_eq_some_iff.1 hc).1), h.len, h.on.trans (Only.of_below (B := []) hb) (by simp), h.tk, h.hi, h.lt, h.bel.trans (hb.mono h.bel.size)⟩
theorem CpT.skip (h : CpT w0 w base g cap n ps q kk cur W) (h1 : 1 ≤ q) (hq : q < ps.length) (hs : (fun p : T × Value => p.1) ps[q] = (fun p : T × Value => p.1) (ps[q - 1]'(by omega))) : CpT w0 w base g cap n ps (q + 1) kk cur W :=
  ⟨h.row, h.len, h.on, by rw [(cmpt_take (fun p : T × Value => p.1) ps h1 hq).1 hs]; exact h.tk, fun j hj => h.hi j (by omega), by have := h.lt; omega, h.bel⟩
theorem CpT.put (h : CpT w0 w base g cap n ps q kk cur W) (h1 : 1 ≤ q) (hq : q < ps.length) (hn : ps.length = n) (hs : (fun p : T × Value => p.1) ps[q] ≠ (fun p : T × Value => p.1) (ps[q - 1]'(by omega))) (hlow : w0.heap.size ≤ g) (W2 : World) (hr : W2.ownsRow base 30 3 (.slice (some ⟨g, 0, none⟩) n cap) (cur.set kk ps[q]).length (flT (cur.set kk ps[q]))) (ho : Only [g] W W2) : CpT w0 w base g cap n ps (q + 1) (kk + 1) (cur.set kk ps[q]) W2 := by
  have hlt := h.lt
  have hkl : kk < cur.length := by rw [h.len]; omega
  refine ⟨hr, by rw [List.length_set]; exact h.len, h.on.trans ho (fun r hr => .inl hr), ?_, fun j hj => ?_, by omega, h.bel.trans (ho.below (by have := h.bel.size; omega) (by simpa using hlow))⟩
  · rw [(cmpt_take (fun p : T × Value => p.1) ps h1 hq).2 hs, ← h.tk, List.take_succ_eq_append_getElem (by rw [List.length_set]; exact hkl), List.take_set_of_le (Nat.le_refl _)]
    simp
  · rw [List.getElem?_set_ne (by omega)]
    exact h.hi j (by omega)
theorem CpT.read (h : CpT w0 w base g cap n ps q kk cur W) (ok : ∀ p ∈ cur, OkT w0 p) {j : Nat} (hj : q ≤ j + 1) (hl : j < ps.length) (hn : ps.length = n) : CsT W g (j * 3) ps[j] := by
  have hc := (rdT_of_row h.row ok)
  have hjl : j < cur.length := by rw [h.len]; omega
  obtain ⟨b, o, e, _, hcs, _⟩ := hc.nth hjl
  obtain ⟨rfl, rfl⟩ : g = b ∧ 0 = o := by injection e with e; injection e with e1 e2; exact ⟨e1, e2⟩
  rw [Nat.zero_add] at hcs
  have he : cur[j] = ps[j] := by
    have := h.hi j hj
    rw [List.getElem?_eq_getElem hjl, List.getElem?_eq_getElem hl] at this
    exact Option.some.inj this
  rwa [he] at hcs
end
end Go.Proofs.YtglphfhlpobgcaaGreat

namespace Go.Proofs.YtglphfhlpobgcaaGreat
open Go.RowKit Go.Maps
theorem CpT.end_ {w0 w W : World} {base g cap n q kk : Nat} {ps cur : List (T × Value)} (h : CpT w0 w base g cap n ps q kk cur W) (_ok : ∀ p ∈ cur, OkT w0 p) (hq : ps.length ≤ q) (hkn : kk < n) (_hlow : w0.heap.size ≤ g) :
    (∀ ty, (Builtin.clear_ #[28] ty #[.slice (some ⟨g, kk * 3, none⟩) (n - kk) (cap - kk)]).run Tryz.prog W = .ok (.tuple #[]) (W.setCells g (kk * 3) (Builtin.zeroCells #[.int .i64 0, .string ⟨#[]⟩, .slice none 0 0] (n - kk)).toList)) ∧
    (W.setCells g (kk * 3) (Builtin.zeroCells #[.int .i64 0, .string ⟨#[]⟩, .slice none 0 0] (n - kk)).toList).ownsRow base 30 3 (.slice (some ⟨g, 0, none⟩) kk cap) (cmpt (fun p : T × Value => p.1) ps).length (flT (cmpt (fun p : T × Value => p.1) ps)) ∧ Only [g] w (W.setCells g (kk * 3) (Builtin.zeroCells #[.int .i64 0, .string ⟨#[]⟩, .slice none 0 0] (n - kk)).toList) := by
  have hl := h.len
  obtain ⟨g', cap', cr, e, hb, hg, hc, hm, hsz, ht⟩ := rowT_open h.row (by omega)
  obtain ⟨rfl, rfl⟩ : g = g' ∧ cap = cap' := by injection e with e1 e2 e3; injection e1 with e1; injection e1 with e1; exact ⟨e1, e3⟩
  obtain ⟨cr', p1, p2, p3⟩ := heap_put g 30 (Builtin.zeroCells #[.int .i64 0, .string ⟨#[]⟩, .slice none 0 0] (n - kk)).toList (kk * 3) W cr hg (by rw [zeros_len, hsz]; simp; omega)
  have hcl : cr.toList.length = cap * 3 := by simpa using hsz
  have hz : (Builtin.zeroCells #[.int .i64 0, .string ⟨#[]⟩, .slice none 0 0] (n - kk)).toList.length = (n - kk) * 3 := zeros_len _ _
  have hcr : cr'.size = cap * 3 := by
    have := congrArg List.length p2
    rw [List.length_append, List.length_append, hz, List.length_take, List.length_drop, hcl, Array.length_toList] at this
    omega
  have htk : cur.take kk = cmpt (fun p : T × Value => p.1) ps := by rw [h.tk, List.take_of_length_le hq]
  have hkl : (cmpt (fun p : T × Value => p.1) ps).length = kk := by rw [← htk, List.length_take]; omega
  refine ⟨fun ty => run_clear_many W 28 30 ty (.agg #[.int .i64 0, .string ⟨#[]⟩, .slice none 0 0]) Tryz.underlying28 zeroT (by intro u hu; simp only [Value.cells, List.mem_cons, List.not_mem_nil, or_false] at hu; rcases hu with rfl | rfl | rfl <;> rfl) (by decide) g (kk * 3) (n - kk) (cap - kk) (by omega) (fun j hj => by have hj' : j < (n - kk) * 3 := hj; have hlt : kk * 3 + j < cr.size := (by rw [hsz]; omega); simp [World.cell?, hg, hlt]) (fun j hj => by simp [World.frozen?, hg]), ?_, h.on.trans p3 (fun r hr => .inl hr)⟩
  refine ⟨flT_len _, .inr ⟨g, cap, cr', by rw [hkl], hb, p1, by omega, hm, hcr, ?_⟩⟩
  rw [hkl, p2, List.append_assoc, List.take_append, List.length_take, hcl, Nat.min_eq_left (by omega), List.take_of_length_le (by rw [List.length_take]; omega), Nat.sub_self, List.take_zero, List.append_nil, ← htk, ← flT_take, ← ht, List.take_take, Nat.min_eq_left (by omega)]
set_option maxRecDepth 100000 in
set_option maxHeartbeats 8000000 in
theorem compactT_any (w0 : World) (base : Nat) (ps : List (T × Value)) (v : Value) (w : World) (h : w.ownsRow base 30 3 v ps.length (flT ps)) (ok : ∀ p ∈ ps, OkT w0 p) (hw : Below w0.heap.size w0 w) (hbase : w0.heap.size ≤ base) :
    Calls Tryz.prog 140 #[v, .func (.func 66) #[] #[]] w fun e w' => ∃ v', e = .returned v' ∧ w'.ownsRow base 30 3 v' (cmpt (fun p : T × Value => p.1) ps).length (flT (cmpt (fun p : T × Value => p.1) ps)) ∧ v'.ownBlock = v.ownBlock ∧ Only v.ownBlock.toList w w' := by
  have eg := eg66
  by_cases h2 : ps.length < 2
  · have HR : Hid (w.ownsRow base 30 3 v (cmpt (fun p : T × Value => p.1) ps).length (flT (cmpt (fun p : T × Value => p.1) ps))) := by show World.ownsRow ..; rw [cmpt_short _ _ h2]; exact h
    obtain ⟨a, c, rfl⟩ := row_slice h
    have h2I : (ps.length : Int) < 2 := by omega
    clear h ok hw
    go_enter Tryz.func140, Tryz.ntmps140
    go_wp2
    go_ret
    exact ⟨_, rfl, HR.out, rfl, Only.refl _ _⟩
  · obtain ⟨g, cap, cr, rfl, hb, hg, hcn, hm, hsz, ht⟩ := rowT_open h (by omega)
    obtain ⟨n, hn⟩ : ∃ n, ps.length = n := ⟨_, rfl⟩
    have hmm : cap ≤ 9223372036854775807 := by unfold maxLen at hm; omega
    have HH : Hid (w.ownsRow base 30 3 (.slice (some ⟨g, 0, none⟩) n cap) ps.length (flT ps) ∧ (∀ p ∈ ps, OkT w0 p) ∧ Below w0.heap.size w0 w ∧ w0.heap.size ≤ g ∧ ps.length = n) := ⟨by rw [← hn]; exact h, ok, hw, by omega, hn⟩
    rw [hn] at h2 hcn
    rw [hn]
    have h2I : ¬ (n : Int) < 2 := by omega
    clear h ok hw hb hg hsz ht hn hm
    go_enter Tryz.func140, Tryz.ntmps140
    go_wp2
    go_loopw [5] (fun vk wr => ∃ k : Nat, vk = .int .i64 k ∧ 1 ≤ k ∧ k ≤ n ∧ Hid (Below w.heap.size w wr ∧ cmpt (fun p : T × Value => p.1) (ps.take k) = ps.take k)) (fun vk _ => n - (intOf vk).toNat)
    case atStart =>
      refine ⟨1, rfl, Nat.le_refl _, by omega, Below.refl _ _, cmpt_short _ _ (by rw [List.length_take]; omega)⟩
    case round =>
      obtain ⟨k, rfl, hk1, hk, HI⟩ := hrel
      by_cases hlt : k < n
      · obtain ⟨m, hm⟩ : ∃ m, k = m + 1 := ⟨k - 1, by omega⟩
        have hkm : (k : Int) - 1 = (m : Int) := by omega
        have hn := HH.out.2.2.2.2
        have hkI : (k : Int) < (n : Int) := by omega
        have hmI : (m : Int) < (n : Int) := by omega
        have hck : ¬ cap = k := by omega
        have hkc : (k : Int) ≤ (n : Int) := by omega
        have hpk : k < ps.length := by omega
        have hpm : m < ps.length := by omega
        have hC0 : CpT w0 w base g cap n ps 0 0 ps wr → True := fun _ => trivial
        have hrow : wr.ownsRow base 30 3 (.slice (some ⟨g, 0, none⟩) n cap) ps.length (flT ps) := rowL_keep HH.out.1 (fun r hr => by
          obtain ⟨_, c, hc⟩ := row_block HH.out.1 hr
          exact HI.out.1.block r (Array.getElem?_eq_some_iff.1 hc).1)
        have hrd := rdT_of_row hrow HH.out.2.1
        obtain ⟨b', o', e', hl1, cK, okK⟩ := hrd.nth hpk
        obtain ⟨b'', o'', e'', hl2, cM, okM⟩ := hrd.nth hpm
        obtain ⟨rfl, rfl⟩ : g = b' ∧ 0 = o' := by injection e' with e; injection e with e1 e2; exact ⟨e1, e2⟩
        obtain ⟨rfl, rfl⟩ : g = b'' ∧ 0 = o'' := by injection e'' with e; injection e with e1 e2; exact ⟨e1, e2⟩
        rw [Nat.zero_add] at cK cM
        have bw0 : Below w0.heap.size w0 wr := HH.out.2.2.1.trans (HI.out.1.mono HH.out.2.2.1.size)
        have lw0 := bw0.size
        have hc : ∀ W, Below wr.heap.size wr W → Calls Tryz.prog 66 #[tval ps[k].1 ps[k].2, tval ps[m].1 ps[m].2] W fun e W' => e = .returned (.bool (smT ps[k] ps[m])) ∧ Below W.heap.size W W' := fun W hW => sameT_any w0 _ _ okK okM W (bw0.trans (hW.mono lw0))
        have HS : Hid (smT ps[k] ps[m] = true → cmpt (fun p : T × Value => p.1) (ps.take (k + 1)) = ps.take k) := fun e => by
          have e1 : ps[m] = ps[k - 1]'(by omega) := by congr 1; omega
          rw [(cmpt_take (fun p : T × Value => p.1) ps hk1 hpk).1 (by rw [← e1]; exact smT_iff.1 e)]
          exact HI.out.2
        have HN : Hid (smT ps[k] ps[m] = false → cmpt (fun p : T × Value => p.1) (ps.take (k + 1)) = ps.take (k + 1)) := fun e => by
          have e1 : ps[m] = ps[k - 1]'(by omega) := by congr 1; omega
          rw [(cmpt_take (fun p : T × Value => p.1) ps hk1 hpk).2 (by rw [← e1]; exact smT_no.1 e), HI.out.2, List.take_succ_eq_append_getElem hpk]
        obtain ⟨pk, hpke⟩ : ∃ p, ps[k] = p := ⟨_, rfl⟩
        obtain ⟨pm, hpme⟩ : ∃ p, ps[m] = p := ⟨_, rfl⟩
        rw [hpke] at cK okK hc HS HN
        rw [hpme] at cM okM hc HS HN
        obtain ⟨z, hz⟩ : ∃ z, smT pk pm = z := ⟨_, rfl⟩
        rw [hz] at hc HS HN
        have HB : Hid (Below w.heap.size w wr) := HI.out.1
        clear HI hrow hrd hC0 hpke hpme hz bw0 hm
        obtain ⟨tk, sk⟩ := pk
        obtain ⟨tm, sm⟩ := pm
        simp only [OkT] at okK okM
        simp only at hc
        obtain ⟨ka, kc_, rfl, _, _⟩ := okK.1.slice
        obtain ⟨ma, mc_, rfl, _, _⟩ := okM.1.slice
        obtain ⟨k0, k1, k2⟩ := cK
        obtain ⟨m0, m1, m2⟩ := cM
        simp only at k0 k1 k2 m0 m1 m2
        have Fk0 := cell_far (w := wr) hl1 k0
        have Fk1 := cell_far (w := wr) hl1 k1
        have Fk2 := cell_far (w := wr) hl1 k2
        have Fm0 := cell_far (w := wr) hl2 m0
        have Fm1 := cell_far (w := wr) hl2 m1
        have Fm2 := cell_far (w := wr) hl2 m2
        clear k0 k1 k2 m0 m1 m2 okK okM
        cases z
        · have HNN : Hid (cmpt (fun p : T × Value => p.1) (ps.take (k + 1)) = ps.take (k + 1)) := HN.out rfl
          clear HN HS
          go_wp2
          refine wp_region_far (by kernel_rfl) ?_
          repeat (first | go_big_quiet_step (exact calls_far hc _) | quiet_step (exact calls_far hc _))
          refine wpQuiet_nil ?_
          intro _ hw'
          obtain ⟨pf, rfl⟩ := hw'
          go_wp2
          go_roundw
          case rel => exact ⟨k + 1, by go_num, by omega, by omega, HB.out.trans ((below_far wr pf).mono HB.out.size), HNN.out⟩
          case measure => simp [intOf]; omega
        · have HSS : Hid (cmpt (fun p : T × Value => p.1) (ps.take (k + 1)) = ps.take k) := HS.out rfl
          clear HN HS
          go_wp2
          refine wp_region_far (by kernel_rfl) ?_
          repeat (first | go_big_quiet_step (exact calls_far hc _) | quiet_step (exact calls_far hc _))
          refine wpQuiet_nil ?_
          intro _ hw'
          obtain ⟨pf, rfl⟩ := hw'
          have HC : Hid (CpT w0 w base g cap n ps (k + 1) k ps (far wr pf)) := by
            have b1 : Below w.heap.size w (far wr pf) := HB.out.trans ((below_far wr pf).mono HB.out.size)
            exact ⟨rowL_keep HH.out.1 (fun r hr => by
              obtain ⟨_, c, hc⟩ := row_block HH.out.1 hr
              exact b1.block r (Array.getElem?_eq_some_iff.1 hc).1), hn, Only.of_below b1, HSS.out.symm, fun j _ => rfl, Nat.le_refl _, HH.out.2.2.1.trans (b1.mono HH.out.2.2.1.size)⟩
          clear Fk0 Fk1 Fk2 Fm0 Fm1 Fm2
          generalize far wr pf = wq at *
          go_wp2
          obtain ⟨wo, hwo⟩ : ∃ Z, Z = wr := ⟨_, rfl⟩
          subst hwo
          clear hc hkm hmI hpm hl1 hl2 hkI
          go_loopw [5, 7] (fun v5 v7 wr => ∃ kk k2 : Nat, v5 = .int .i64 kk ∧ v7 = .int .i64 k2 ∧ 1 ≤ k2 ∧ k + k2 ≤ n ∧ kk + 1 ≤ k + k2 ∧ Hid (∃ cur, CpT w0 w base g cap n ps (k + k2) kk cur wr ∧ ∀ p ∈ cur, OkT w0 p)) (fun _ v7 _ => n - (intOf v7).toNat)
          case atStart => exact ⟨k, 1, rfl, rfl, Nat.le_refl _, by omega, by omega, ps, HC.out, HH.out.2.1⟩
          case round =>
            obtain ⟨kk, k2, rfl, rfl, h21, hkn, hkk, HJ⟩ := hrel
            obtain ⟨cur, hC, okC⟩ := HJ.out
            clear HJ
            have hkkn : kk < n := by omega
            by_cases hlt2 : k2 < n - k
            · obtain ⟨m2, hm2⟩ : ∃ m, k2 = m + 1 := ⟨k2 - 1, by omega⟩
              have hkm2 : (k2 : Int) - 1 = (m2 : Int) := by omega
              have hk2I : (k2 : Int) < ((n - k : Nat) : Int) := by omega
              have hm2I : (m2 : Int) < ((n - k : Nat) : Int) := by omega
              have hkkI : (kk : Int) < (n : Int) := by omega
              have hq : k + k2 < ps.length := by omega
              have hqm : k + m2 < ps.length := by omega
              have cK := hC.read okC (j := k + k2) (by omega) hq hn
              have cM := hC.read okC (j := k + m2) (by omega) hqm hn
              have ek : (k + k2) * 3 = k * 3 + k2 * 3 := Nat.add_mul ..
              have em : (k + m2) * 3 = k * 3 + m2 * 3 := Nat.add_mul ..
              rw [ek] at cK
              rw [em] at cM
              have okK := HH.out.2.1 _ (List.getElem_mem hq)
              have okM := HH.out.2.1 _ (List.getElem_mem hqm)
              have lw0 := hC.bel.size
              have hgl : g < wr.heap.size := by
                obtain ⟨_, c, hc⟩ := row_block hC.row (g := g) rfl
                exact (Array.getElem?_eq_some_iff.1 hc).1
              have hc : ∀ W, Below wr.heap.size wr W → Calls Tryz.prog 66 #[tval ps[k + k2].1 ps[k + k2].2, tval ps[k + m2].1 ps[k + m2].2] W fun e W' => e = .returned (.bool (smT ps[k + k2] ps[k + m2])) ∧ Below W.heap.size W W' := fun W hW => sameT_any w0 _ _ okK okM W (hC.bel.trans (hW.mono lw0))
              have e1 : ps[k + m2] = ps[k + k2 - 1]'(by omega) := by congr 1; omega
              have hone1 : ∀ u ∈ flT [ps[k + k2]], u.oneCell' = true := onesT (w0 := w0) (fun p hp => by
                have e : p = ps[k + k2] := by simpa using hp
                rw [e]; exact okK)
              have HS : Hid (smT ps[k + k2] ps[k + m2] = true → ∀ W, Below wr.heap.size wr W → ∃ cur, CpT w0 w base g cap n ps (k + k2 + 1) kk cur W ∧ ∀ p ∈ cur, OkT w0 p) := fun e W hW => ⟨cur, (hC.below hW).skip (by omega) hq (by rw [← e1]; exact smT_iff.1 e), okC⟩
              have HN : Hid (smT ps[k + k2] ps[k + m2] = false → ∀ W, Below wr.heap.size wr W → ∃ W2, (Instr.storeAt 30 (.pointer (some ⟨g, kk * 3, none⟩)) (tval ps[k + k2].1 ps[k + k2].2)).run Tryz.prog W = .ok () W2 ∧ ∃ cur, CpT w0 w base g cap n ps (k + k2 + 1) (kk + 1) cur W2 ∧ ∀ p ∈ cur, OkT w0 p) := fun e W hW => by
                have hW1 := hC.below hW
                obtain ⟨r1, r2, r3⟩ := rowT_set hW1.row hW1.len (k := kk) (by rw [hC.len]; exact hkkn) ps[k + k2] hone1
                exact ⟨_, r1, cur.set kk ps[k + k2], hW1.put (by omega) hq hn (by rw [← e1]; exact smT_no.1 e) HH.out.2.2.2.1 _ r2 r3, fun p hp => by
                  rcases List.mem_or_eq_of_mem_set hp with q | q
                  · exact okC p q
                  · rw [q]; exact okK⟩
              obtain ⟨pk, hpke⟩ : ∃ p, ps[k + k2] = p := ⟨_, rfl⟩
              obtain ⟨pm, hpme⟩ : ∃ p, ps[k + m2] = p := ⟨_, rfl⟩
              rw [hpke] at cK okK hc HS HN
              rw [hpme] at cM okM hc HS HN
              obtain ⟨z, hz⟩ : ∃ z, smT pk pm = z := ⟨_, rfl⟩
              rw [hz] at hc HS HN
              have hl1 := hgl
              have hl2 := hgl
              clear hC okC e1 hone1 hpke hpme hz lw0 ek em hm2
              obtain ⟨tk, sk⟩ := pk
              obtain ⟨tm, sm⟩ := pm
              simp only [OkT] at okK okM
              simp only at hc
              obtain ⟨ka, kc_, rfl, _, _⟩ := okK.1.slice
              obtain ⟨ma, mc_, rfl, _, _⟩ := okM.1.slice
              obtain ⟨k0, k1, k2⟩ := cK
              obtain ⟨m0, m1, m2⟩ := cM
              simp only at k0 k1 k2 m0 m1 m2
              have Fk0 := cell_far (w := wr) hl1 k0
              have Fk1 := cell_far (w := wr) hl1 k1
              have Fk2 := cell_far (w := wr) hl1 k2
              have Fm0 := cell_far (w := wr) hl2 m0
              have Fm1 := cell_far (w := wr) hl2 m1
              have Fm2 := cell_far (w := wr) hl2 m2
              clear k0 k1 k2 m0 m1 m2 okK okM
              cases z
              · have HNN := HN.out rfl
                have HNH : Hid (∀ W, Below wr.heap.size wr W → ∃ W2, (Instr.storeAt 30 (.pointer (some ⟨g, kk * 3, none⟩)) (tval tk (.slice ka tk.args.length kc_))).run Tryz.prog W = .ok () W2 ∧ ∃ cur, CpT w0 w base g cap n ps (k + k2 + 1) (kk + 1) cur W2 ∧ ∀ p ∈ cur, OkT w0 p) := HNN
                clear HN HS HNN
                go_wp2
                refine wp_region_far (by kernel_rfl) ?_
                repeat (first | go_big_quiet_step (exact calls_far hc _) | quiet_step (exact calls_far hc _))
                refine wpQuiet_nil ?_
                intro _ hw'
                obtain ⟨pf, rfl⟩ := hw'
                obtain ⟨W2, hrun, hfin⟩ := HNH.out _ (below_far wr pf)
                have HFin : Hid (∃ cur, CpT w0 w base g cap n ps (k + k2 + 1) (kk + 1) cur W2 ∧ ∀ p ∈ cur, OkT w0 p) := hfin
                clear hfin
                have hgq : g < (far wr pf).heap.size := by have := (below_far wr pf).size; omega
                have Gk0 := Fk0 pf
                have Gk1 := Fk1 pf
                have Gk2 := Fk2 pf
                clear Fk0 Fk1 Fk2 Fm0 Fm1 Fm2
                generalize far wr pf = wq at *
                go_wp2_with (first | (refine wpList_store_run rfl 30 _ _ rfl (.pointer (some ⟨g, kk * 3, none⟩)) (tval tk (.slice ka tk.args.length kc_)) rfl rfl hrun ?_))
                go_roundw
                case rel => exact ⟨kk + 1, k2 + 1, by go_num, by go_num, by omega, by omega, by omega, HFin.out⟩
                case measure => simp [intOf]; omega
              · have HSS := HS.out rfl
                have HSH : Hid (∀ W, Below wr.heap.size wr W → ∃ cur, CpT w0 w base g cap n ps (k + k2 + 1) kk cur W ∧ ∀ p ∈ cur, OkT w0 p) := HSS
                clear HN HS HSS
                go_wp2
                refine wp_region_far (by kernel_rfl) ?_
                repeat (first | go_big_quiet_step (exact calls_far hc _) | quiet_step (exact calls_far hc _))
                refine wpQuiet_nil ?_
                intro _ hw'
                obtain ⟨pf, rfl⟩ := hw'
                go_wp2
                go_roundw
                case rel => exact ⟨kk, k2 + 1, rfl, by go_num, by omega, by omega, by omega, HSH.out _ (below_far wr pf)⟩
                case measure => simp [intOf]; omega
            · obtain ⟨f1, f2, f3⟩ := hC.end_ okC (by omega) hkkn HH.out.2.2.2.1
              have HF : Hid ((wr.setCells g (kk * 3) (Builtin.zeroCells #[.int .i64 0, .string ⟨#[]⟩, .slice none 0 0] (n - kk)).toList).ownsRow base 30 3 (.slice (some ⟨g, 0, none⟩) kk cap) (cmpt (fun p : T × Value => p.1) ps).length (flT (cmpt (fun p : T × Value => p.1) ps)) ∧ Only [g] w (wr.setCells g (kk * 3) (Builtin.zeroCells #[.int .i64 0, .string ⟨#[]⟩, .slice none 0 0] (n - kk)).toList)) := ⟨f2, f3⟩
              have hkkI : (kk : Int) ≤ (n : Int) := by omega
              have hkkc : (kk : Int) ≤ (cap : Int) := by omega
              have hckk : ¬ cap = kk := by omega
              clear hC okC f2 f3
              go_wp2
              go_ret
              exact ⟨_, rfl, HF.out.1, rfl, HF.out.2⟩
      · have HR : Hid (wr.ownsRow base 30 3 (.slice (some ⟨g, 0, none⟩) n cap) (cmpt (fun p : T × Value => p.1) ps).length (flT (cmpt (fun p : T × Value => p.1) ps))) := by
          have hn := HH.out.2.2.2.2
          have e := HI.out.2
          rw [List.take_of_length_le (by omega)] at e
          show World.ownsRow ..
          rw [e]
          exact rowL_keep HH.out.1 (fun r hr => by
            obtain ⟨_, c, hc⟩ := row_block HH.out.1 hr
            exact HI.out.1.block r (Array.getElem?_eq_some_iff.1 hc).1)
        go_wp2
        go_ret
        exact ⟨_, rfl, HR.out, rfl, Only.of_below HI.out.1⟩
end Go.Proofs.YtglphfhlpobgcaaGreat
