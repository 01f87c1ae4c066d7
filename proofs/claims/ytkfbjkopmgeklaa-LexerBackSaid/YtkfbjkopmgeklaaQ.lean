/-
  The tokens of a text: mathematics; rows of tokens in memory.
-/
import Derived.Test.YtkfbjkopmgeklaaP
import Derived.Deep.Slices
import Derived.Deep.RegionLaw
import Derived.Maps.AppendAt
namespace Go.Proofs.Ytkfbjkopmgeklaa
open Go.RowKit Go.Shelf

structure Tk where
  k : Int
  a : Nat
  t : List UInt8

def lexL (a : Nat) (l : List UInt8) : List Tk × Nat × Int :=
  match l with
  | [] => ([], 0, 0)
  | c :: r =>
    if c = 32 ∨ c = 9 ∨ c = 13 then lexL (a + 1) r
    else if c = 37 then ([], 0, 0)
    else if (rd (c :: r)).e ≠ 0 then ([], a, (rd (c :: r)).e)
    else (⟨(rd (c :: r)).k, a, (rd (c :: r)).t⟩ :: (lexL (a + (rd (c :: r)).n) (r.drop ((rd (c :: r)).n - 1))).1, (lexL (a + (rd (c :: r)).n) (r.drop ((rd (c :: r)).n - 1))).2)
termination_by l.length
decreasing_by all_goals simp <;> omega

theorem lexL_nil (a : Nat) : lexL a [] = ([], 0, 0) := by unfold lexL; rfl
theorem lexL_blank {a : Nat} {c : UInt8} {r : List UInt8} (h : c = 32 ∨ c = 9 ∨ c = 13) : lexL a (c :: r) = lexL (a + 1) r := by
  conv => lhs; unfold lexL
  simp only [if_pos h]
theorem lexL_rem {a : Nat} {r : List UInt8} : lexL a (37 :: r) = ([], 0, 0) := by
  unfold lexL
  rw [if_neg (by decide), if_pos rfl]
theorem lexL_err {a : Nat} {c : UInt8} {r : List UInt8} (h : ¬ (c = 32 ∨ c = 9 ∨ c = 13)) (h2 : c ≠ 37) (h3 : (rd (c :: r)).e ≠ 0) : lexL a (c :: r) = ([], a, (rd (c :: r)).e) := by
  conv => lhs; unfold lexL
  rw [if_neg h, if_neg h2, if_pos h3]

theorem rdW_n {k : Int} {l : List UInt8} (h : (rdW k l).e = 0) : (rdW k l).n = wlen l := by
  unfold rdW at h ⊢
  split
  · rename_i h6; rw [if_pos h6] at h; exact absurd h (by decide)
  · rfl
theorem wlen_pos {l : List UInt8} (h : wdB (hd l) = true) (h0 : l ≠ []) : 1 ≤ wlen l := by
  cases l with
  | nil => exact absurd rfl h0
  | cons c r =>
    have : wdB c.toNat = true := h
    rw [wlen_yes this]; omega
theorem rd_n {l : List UInt8} (h : (rd l).e = 0) (h0 : l ≠ []) : 1 ≤ (rd l).n ∧ (rd l).n ≤ l.length := by
  have hlen : 1 ≤ l.length := by cases l with | nil => exact absurd rfl h0 | cons c r => simp
  cases h1 : smB (hd l)
  · cases h2 : caB (hd l)
    · by_cases h3 : hd l = 39
      · have hr : rd l = rdQ (l.drop 1) := by unfold rd; rw [h1, h2, if_neg (by simp), if_neg (by simp), if_pos h3]
        rw [hr] at h ⊢
        unfold rdQ at h ⊢
        cases hq : qs (l.drop 1) with
        | none => rw [hq] at h; exact absurd h (by decide)
        | some p =>
          obtain ⟨u1, u2, _⟩ := qs_uq _ _ (Nat.le_refl _) p.1 p.2 hq
          rw [List.length_drop] at u2
          rw [hq] at h
          simp only at h ⊢
          split
          · rename_i hb
            rw [if_pos hb] at h
            split
            · rename_i h6; rw [if_pos h6] at h; exact absurd h (by decide)
            · refine ⟨?_, ?_⟩
              · show 1 ≤ p.2 + 1; omega
              · show p.2 + 1 ≤ l.length; omega
          · rename_i hb; rw [if_neg hb] at h; exact absurd h (by decide)
      · by_cases h4 : hd l = 36
        · have hr : rd l = rdD l := by unfold rd; rw [h1, h2, if_neg (by simp), if_neg (by simp), if_neg h3, if_pos h4]
          rw [hr] at h ⊢
          have hw := wlen_le (l.drop 1)
          rw [List.length_drop] at hw
          unfold rdD at h ⊢
          obtain ⟨n, hn⟩ : ∃ n, wlen (l.drop 1) = n := ⟨_, rfl⟩
          rw [hn] at h hw ⊢
          simp only at h ⊢
          split
          · refine ⟨?_, ?_⟩
            · show 1 ≤ 1 + n; omega
            · show 1 + n ≤ l.length; omega
          · rename_i hb
            rw [if_neg hb] at h
            split
            · refine ⟨?_, ?_⟩
              · show 1 ≤ 1 + n; omega
              · show 1 + n ≤ l.length; omega
            · rename_i hc; rw [if_neg hc] at h; exact absurd h (by decide)
        · have hr : rd l = rdM l := by unfold rd; rw [h1, h2, if_neg (by simp), if_neg (by simp), if_neg h3, if_neg h4]
          rw [hr] at h ⊢
          unfold rdM at h ⊢
          cases hf : mks.find? (fun m => Lib.hasPrefix l m) with
          | none => rw [hf] at h; exact absurd h (by decide)
          | some m =>
            have hm := List.mem_of_find?_eq_some hf
            have hp := List.find?_some hf
            have hpos : ∀ m ∈ mks, 1 ≤ m.length := by decide
            refine ⟨hpos m hm, ?_⟩
            have : m <+: l := List.isPrefixOf_iff_prefix.1 hp
            exact this.length_le
    · have hr : rd l = rdW 2 l := by unfold rd; rw [h1, h2, if_neg (by simp), if_pos rfl]
      rw [hr] at h ⊢
      rw [rdW_n h]
      exact ⟨wlen_pos (by unfold wdB; rw [h2]; simp) h0, wlen_le l⟩
  · have hr : rd l = rdW 1 l := by unfold rd; rw [h1, if_pos rfl]
    rw [hr] at h ⊢
    rw [rdW_n h]
    exact ⟨wlen_pos (by unfold wdB; rw [h1]; simp) h0, wlen_le l⟩

/-- Tokens that came, ahead of the rest. -/
def addD (done : List Tk) (q : List Tk × Nat × Int) : List Tk × Nat × Int := (done ++ q.1, q.2)
theorem lexL_tok {a : Nat} {c : UInt8} {r : List UInt8} (h : ¬ (c = 32 ∨ c = 9 ∨ c = 13)) (h2 : c ≠ 37) (h3 : (rd (c :: r)).e = 0) (done : List Tk) : addD done (lexL a (c :: r)) = addD (done ++ [⟨(rd (c :: r)).k, a, (rd (c :: r)).t⟩]) (lexL (a + (rd (c :: r)).n) ((c :: r).drop (rd (c :: r)).n)) := by
  obtain ⟨hn, _⟩ := rd_n h3 (by simp)
  have e : (c :: r).drop (rd (c :: r)).n = r.drop ((rd (c :: r)).n - 1) := by
    obtain ⟨m, hm⟩ : ∃ m, (rd (c :: r)).n = m + 1 := ⟨(rd (c :: r)).n - 1, by omega⟩
    rw [hm]; rfl
  rw [e]
  conv => lhs; unfold lexL
  rw [if_neg h, if_neg h2, if_neg (by simpa using h3)]
  simp [addD]

/-- The cells of tokens. -/
def flK (l : List Tk) : List Value := l.flatMap fun f => [.int .i64 f.k, .int .i64 (f.a : Nat), .string (ofL f.t)]
theorem flK_len (l : List Tk) : (flK l).length = l.length * 3 := by
  induction l with
  | nil => rfl
  | cons a r ih => simp only [flK, List.flatMap_cons, List.length_append, List.length_cons, List.length_nil] at ih ⊢; omega
theorem flK_snoc (l : List Tk) (f : Tk) : flK (l ++ [f]) = flK l ++ [.int .i64 f.k, .int .i64 (f.a : Nat), .string (ofL f.t)] := by simp [flK]
theorem flK_get : ∀ (l : List Tk) (i : Nat) (h : i < l.length), (flK l)[i * 3]? = some (.int .i64 l[i].k) ∧ (flK l)[i * 3 + 1]? = some (.int .i64 (l[i].a : Nat)) ∧ (flK l)[i * 3 + 2]? = some (.string (ofL l[i].t))
  | f :: l, 0, _ => ⟨rfl, rfl, rfl⟩
  | f :: l, i + 1, h => by
    have ih := flK_get l i (by simpa using h)
    have e : ∀ j, (flK (f :: l))[(i + 1) * 3 + j]? = (flK l)[i * 3 + j]? := fun j => by
      show ([.int .i64 f.k, .int .i64 (f.a : Nat), .string (ofL f.t)] ++ flK l)[(i + 1) * 3 + j]? = _
      rw [List.getElem?_append_right (by simp; omega)]
      congr 1
      simp
      omega
    exact ⟨(e 0).trans ih.1, (e 1).trans ih.2.1, (e 2).trans ih.2.2⟩

/-- A slice of tokens. -/
def KsAt (W : World) (v : Value) (l : List Tk) : Prop :=
  ∃ a c, v = .slice a l.length c ∧ l.length ≤ c ∧ c ≤ 9223372036854775807 ∧ (0 < l.length → ∃ b o, b < W.heap.size ∧ a = some ⟨b, o, none⟩ ∧ ∀ i (h : i < l.length), W.cell? ⟨b, o + i * 3, none⟩ = some (.int .i64 l[i].k) ∧ W.cell? ⟨b, o + i * 3 + 1, none⟩ = some (.int .i64 (l[i].a : Nat)) ∧ W.cell? ⟨b, o + i * 3 + 2, none⟩ = some (.string (ofL l[i].t)))
theorem KsAt.nil (W : World) : KsAt W (.slice none 0 0) [] := ⟨none, 0, rfl, Nat.le_refl _, by decide, fun h => absurd h (by simp)⟩
theorem KsAt.keep {W W' : World} {n : Nat} {v : Value} {l : List Tk} (h : KsAt W v l) (hb : Below n W W') (hn : W.heap.size ≤ n) : KsAt W' v l := by
  obtain ⟨a, c, e, h1, h2, h3⟩ := h
  refine ⟨a, c, e, h1, h2, fun h0 => ?_⟩
  obtain ⟨b, o, hlt, ea, hc⟩ := h3 h0
  refine ⟨b, o, Nat.lt_of_lt_of_le hlt hb.size, ea, fun i hi => ?_⟩
  obtain ⟨c0, c1, c2⟩ := hc i hi
  exact ⟨kc hb (by omega) c0, kc hb (by omega) c1, kc hb (by omega) c2⟩
theorem KsAt.slice {W : World} {v : Value} {l : List Tk} (h : KsAt W v l) : ∃ a c, v = .slice a l.length c ∧ l.length ≤ c ∧ c ≤ 9223372036854775807 := by
  obtain ⟨a, c, e, h1, h2, _⟩ := h
  exact ⟨a, c, e, h1, h2⟩
theorem KsAt.nth {W : World} {a : Option Addr} {n c : Nat} {l : List Tk} (h : KsAt W (.slice a n c) l) {i : Nat} (hi : i < l.length) : ∃ b o, a = some ⟨b, o, none⟩ ∧ b < W.heap.size ∧ W.cell? ⟨b, o + i * 3, none⟩ = some (.int .i64 l[i].k) ∧ W.cell? ⟨b, o + i * 3 + 1, none⟩ = some (.int .i64 (l[i].a : Nat)) ∧ W.cell? ⟨b, o + i * 3 + 2, none⟩ = some (.string (ofL l[i].t)) := by
  obtain ⟨a', c', e, h1, h2, h3⟩ := h
  cases e
  obtain ⟨b, o, hlt, ea, hc⟩ := h3 (by omega)
  exact ⟨b, o, ea, hlt, hc i hi⟩
theorem ksAt_of_row {W : World} {base : Nat} {ty : TypeId} {v : Value} {l : List Tk} (h : W.ownsRow base ty 3 v l.length (flK l)) : KsAt W v l := by
  obtain ⟨hl, ⟨e, h0⟩ | ⟨g, cap, cur, e, hb, hg, hc, hm, hsz, ht⟩⟩ := h
  · have : l = [] := List.eq_nil_of_length_eq_zero h0
    subst this
    exact ⟨none, 0, e, Nat.le_refl _, by omega, fun h => absurd h (by simp)⟩
  · refine ⟨_, cap, e, hc, by unfold maxLen at hm; omega, fun _ => ⟨g, 0, (Array.getElem?_eq_some_iff.1 hg).1, rfl, fun i hi => ?_⟩⟩
    have hget : ∀ j u, (flK l)[j]? = some u → W.cell? ⟨g, 0 + j, none⟩ = some u := fun j u hj => by
      have hjl : j < l.length * 3 := by have := (List.getElem?_eq_some_iff.1 hj).1; rwa [flK_len] at this
      rw [← ht, List.getElem?_take, if_pos hjl] at hj
      rw [Nat.zero_add, cell_of_row _ _ _ _ ty (0, 0) hg, ← hj]
      simp
    obtain ⟨q0, q1, q2⟩ := flK_get l i hi
    exact ⟨hget _ _ q0, hget _ _ q1, hget _ _ q2⟩

theorem row_slice {W : World} {base size n : Nat} {e : TypeId} {v : Value} {xs : List Value} (h : W.ownsRow base e size v n xs) : ∃ a c, v = .slice a n c := by
  obtain ⟨_, r⟩ := h
  rcases r with ⟨h1, h2⟩ | ⟨g, cap, cur, h1, _⟩
  · exact ⟨none, 0, by rw [h1]; simp_all⟩
  · exact ⟨_, _, h1⟩
theorem row_keep {n0 : Nat} {W W' : World} {ty : TypeId} {k : Nat} {fv : Value} {n : Nat} {vs : List Value} (h : W.ownsRow n0 ty k fv n vs) (hB : ∀ g, fv.ownBlock = some g → W'.heap[g]? = W.heap[g]?) : W'.ownsRow n0 ty k fv n vs := by
  obtain ⟨h1, h2⟩ := h
  refine ⟨h1, ?_⟩
  rcases h2 with h2 | ⟨g, cap, cur, e, hb, hg, r⟩
  · exact .inl h2
  · exact .inr ⟨g, cap, cur, e, hb, (hB g (by rw [e]; rfl)).trans hg, r⟩
theorem row_block {W : World} {n0 : Nat} {ty : TypeId} {k : Nat} {fv : Value} {n : Nat} {vs : List Value} (h : W.ownsRow n0 ty k fv n vs) {g : Nat} (hg : fv.ownBlock = some g) : n0 ≤ g ∧ ∃ cur, W.heap[g]? = some (.cells cur ty (0, 0)) := by
  obtain ⟨_, ⟨e, _⟩ | ⟨g', cap, cur, e, hb, hg', _⟩⟩ := h
  · rw [e] at hg; cases hg
  · rw [e] at hg
    have : g' = g := by simpa [Value.ownBlock] using hg
    subst this
    exact ⟨hb, cur, hg'⟩
theorem row_below {W W' : World} {n0 : Nat} {ty : TypeId} {k : Nat} {fv : Value} {n : Nat} {vs : List Value} (h : W.ownsRow n0 ty k fv n vs) (hb : Below W.heap.size W W') : W'.ownsRow n0 ty k fv n vs :=
  row_keep h (fun g hg => by obtain ⟨_, cq, hcq⟩ := row_block h hg; exact hb.block g (Array.getElem?_eq_some_iff.1 hcq).1)

end Go.Proofs.Ytkfbjkopmgeklaa
