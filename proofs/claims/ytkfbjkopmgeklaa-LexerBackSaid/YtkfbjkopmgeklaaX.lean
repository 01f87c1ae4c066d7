/-
  Lex: what its loop keeps.
-/
import Derived.Test.YtkfbjkopmgeklaaV
import Derived.RangeFuncBox
namespace Go.Proofs.Ytkfbjkopmgeklaa
open Go.RowKit Go.Shelf

attribute [local go_sem] Oper.semAt_some

/-- While Lex goes on: its boxes, what it has collected, blocks of the iterator's. -/
structure LI (w : World) (r0 r1 r2 : Value) (E : List Nat) (v : Value) (cs : List Tk) (W : World) : Prop where
  b0 : Boxed W w.heap.size 22 r0
  b1 : Boxed W (w.heap.size + 1) 3 r1
  b2 : Boxed W (w.heap.size + 2) 23 r2
  b3 : Boxed W (w.heap.size + 3) 22 v
  row : W.ownsRow (w.heap.size + 5) 34 3 v cs.length (flK cs)
  low : ∀ r ∈ E, w.heap.size + 4 ≤ r ∧ r < W.heap.size
  mine : ∀ g, v.ownBlock = some g → g ∉ E
  bel : Below w.heap.size w W
  size : w.heap.size + 5 ≤ W.heap.size

section
variable {w : World} {r0 r1 r2 : Value} {E : List Nat} {v : Value} {cs : List Tk} {W W' : World}

theorem boxed_block {W W' : World} {B : Nat} {ty : TypeId} {v : Value} (h : Boxed W B ty v) (e : W'.heap[B]? = W.heap[B]?) : Boxed W' B ty v := e.trans h

theorem LI.kept (h : LI w r0 r1 r2 E v cs W) {E' : List Nat} {row : Option Nat} (hg : W.grownBy W' row) (hr : ∀ r, row = some r → r ∈ E) (hE : ∀ r ∈ E', r ∈ E ∨ (W.heap.size ≤ r ∧ r < W'.heap.size)) : LI w r0 r1 r2 E' v cs W' := by
  have hs := h.size
  have hgs := hg.size
  have blk : ∀ k, k < w.heap.size + 4 → W'.heap[k]? = W.heap[k]? := fun k hk => hg.block k (by omega) (fun e => by have := (h.low k (hr k e.symm)).1; omega)
  refine ⟨boxed_block h.b0 (blk _ (by omega)), boxed_block h.b1 (blk _ (by omega)), boxed_block h.b2 (blk _ (by omega)), boxed_block h.b3 (blk _ (by omega)), row_keep h.row (fun g hgv => ?_), fun r hr' => ?_, fun g hgv hge => ?_, h.bel.trans ⟨hg.os, hg.tape, hg.output, hg.size, fun k hk => blk k (by omega)⟩, by omega⟩
  · obtain ⟨_, cq, hcq⟩ := row_block h.row hgv
    exact hg.block g (Array.getElem?_eq_some_iff.1 hcq).1 (fun e => h.mine g hgv (hr g e.symm))
  · rcases hE r hr' with h' | h'
    · exact ⟨(h.low r h').1, Nat.lt_of_lt_of_le (h.low r h').2 hg.size⟩
    · exact ⟨by omega, h'.2⟩
  · obtain ⟨_, cq, hcq⟩ := row_block h.row hgv
    have hlt := (Array.getElem?_eq_some_iff.1 hcq).1
    rcases hE g hge with h' | h'
    · exact h.mine g hgv h'
    · omega

theorem LI.grow (h : LI w r0 r1 r2 E v cs W) (hb : Below W.heap.size W W') : Kept w.heap.size E W W' ∧ LI w r0 r1 r2 E v cs W' :=
  ⟨⟨hb.mono h.bel.size, fun r hr => hb.block r (h.low r hr).2⟩, h.kept (row := none) ⟨hb.os, hb.tape, hb.output, hb.size, fun k hk _ => hb.block k hk⟩ (fun _ e => by cases e) (fun _ hr => .inl hr)⟩

/-- A store into a box. -/
theorem LI.frame (h : LI w r0 r1 r2 E v cs W) {B : Nat} (hB : w.heap.size ≤ B ∧ B < w.heap.size + 4) (x : Value) : Kept w.heap.size E W (W.setCell ⟨B, 0, none⟩ x) ∧ (∀ k, k ≠ B → (W.setCell ⟨B, 0, none⟩ x).heap[k]? = W.heap[k]?) ∧ Below w.heap.size w (W.setCell ⟨B, 0, none⟩ x) := by
  have ho : ∀ k, k ≠ B → (W.setCell ⟨B, 0, none⟩ x).heap[k]? = W.heap[k]? := fun k hk => Below.heap_setCell _ _ _ k hk
  refine ⟨⟨(Below.refl _ _).setCell (p := ⟨B, 0, none⟩) hB.1 _, fun r hr => ho r (by have := (h.low r hr).1; omega)⟩, ho, h.bel.setCell (p := ⟨B, 0, none⟩) hB.1 _⟩

theorem LI.set0 (h : LI w r0 r1 r2 E v cs W) (x : Value) : Kept w.heap.size E W (W.setCell ⟨w.heap.size, 0, none⟩ x) ∧ LI w x r1 r2 E v cs (W.setCell ⟨w.heap.size, 0, none⟩ x) := by
  obtain ⟨k, ho, hb⟩ := h.frame (B := w.heap.size) (by omega) x
  refine ⟨k, h.b0.set x, boxed_block h.b1 (ho _ (by omega)), boxed_block h.b2 (ho _ (by omega)), boxed_block h.b3 (ho _ (by omega)), row_keep h.row (fun g hg => ho g (by have := (row_block h.row hg).1; omega)), fun r hr => ?_, h.mine, hb, by simpa using h.size⟩
  simpa using h.low r hr
theorem LI.set1 (h : LI w r0 r1 r2 E v cs W) (x : Value) : Kept w.heap.size E W (W.setCell ⟨w.heap.size + 1, 0, none⟩ x) ∧ LI w r0 x r2 E v cs (W.setCell ⟨w.heap.size + 1, 0, none⟩ x) := by
  obtain ⟨k, ho, hb⟩ := h.frame (B := w.heap.size + 1) (by omega) x
  refine ⟨k, boxed_block h.b0 (ho _ (by omega)), h.b1.set x, boxed_block h.b2 (ho _ (by omega)), boxed_block h.b3 (ho _ (by omega)), row_keep h.row (fun g hg => ho g (by have := (row_block h.row hg).1; omega)), fun r hr => ?_, h.mine, hb, by simpa using h.size⟩
  simpa using h.low r hr
theorem LI.set2 (h : LI w r0 r1 r2 E v cs W) (x : Value) : Kept w.heap.size E W (W.setCell ⟨w.heap.size + 2, 0, none⟩ x) ∧ LI w r0 r1 x E v cs (W.setCell ⟨w.heap.size + 2, 0, none⟩ x) := by
  obtain ⟨k, ho, hb⟩ := h.frame (B := w.heap.size + 2) (by omega) x
  refine ⟨k, boxed_block h.b0 (ho _ (by omega)), boxed_block h.b1 (ho _ (by omega)), h.b2.set x, boxed_block h.b3 (ho _ (by omega)), row_keep h.row (fun g hg => ho g (by have := (row_block h.row hg).1; omega)), fun r hr => ?_, h.mine, hb, by simpa using h.size⟩
  simpa using h.low r hr

/-- Behind an append and the store of what it gave. -/
theorem LI.push (h : LI w r0 r1 r2 E v cs W) (x : Tk) (v' : Value) (w1 : World) (hown : w1.ownsRow (w.heap.size + 5) 34 3 v' (cs.length + 1) (flK cs ++ [.int .i64 x.k, .int .i64 (x.a : Nat), .string (ofL x.t)])) (hg : W.grownBy w1 v.ownBlock) (hat : v'.ownBlock = v.ownBlock ∨ v'.ownBlock = some W.heap.size) :
    (w1.cell? ⟨w.heap.size + 3, 0, none⟩ = some v ∧ w1.frozen? ⟨w.heap.size + 3, 0, none⟩ = false) ∧ Kept w.heap.size E W (w1.setCell ⟨w.heap.size + 3, 0, none⟩ v') ∧ LI w r0 r1 r2 E v' (cs ++ [x]) (w1.setCell ⟨w.heap.size + 3, 0, none⟩ v') := by
  have hs := h.size
  have hgs := hg.size
  have vge : ∀ g, v.ownBlock = some g → w.heap.size + 5 ≤ g ∧ g < W.heap.size := fun g hgv => by
    obtain ⟨h1, cq, hcq⟩ := row_block h.row hgv
    exact ⟨h1, (Array.getElem?_eq_some_iff.1 hcq).1⟩
  have blk : ∀ k, k < W.heap.size → v.ownBlock ≠ some k → w1.heap[k]? = W.heap[k]? := fun k hk hne => hg.block k hk (fun e => hne e.symm)
  have low4 : ∀ k, k < w.heap.size + 5 → w1.heap[k]? = W.heap[k]? := fun k hk => blk k (by omega) (fun e => by have := (vge k e).1; omega)
  have p3 : Boxed w1 (w.heap.size + 3) 22 v := boxed_block h.b3 (low4 _ (by omega))
  have ho : ∀ k, k ≠ w.heap.size + 3 → (w1.setCell ⟨w.heap.size + 3, 0, none⟩ v').heap[k]? = w1.heap[k]? := fun k hk => Below.heap_setCell _ _ _ k hk
  have b1 : Below w.heap.size W w1 := ⟨hg.os, hg.tape, hg.output, hg.size, fun k hk => low4 k (by omega)⟩
  have b2 : Below w.heap.size w1 (w1.setCell ⟨w.heap.size + 3, 0, none⟩ v') := (Below.refl _ _).setCell (p := ⟨w.heap.size + 3, 0, none⟩) (by show w.heap.size ≤ w.heap.size + 3; omega) _
  refine ⟨⟨p3.cell, p3.frozen⟩, ⟨b1.trans b2, fun r hr => ?_⟩, boxed_block h.b0 ((ho _ (by omega)).trans (low4 _ (by omega))), boxed_block h.b1 ((ho _ (by omega)).trans (low4 _ (by omega))), boxed_block h.b2 ((ho _ (by omega)).trans (low4 _ (by omega))), p3.set v', ?_, fun r hr => ⟨(h.low r hr).1, ?_⟩, fun g hgv hge => ?_, h.bel.trans (b1.trans b2), ?_⟩
  · obtain ⟨l1, l2⟩ := h.low r hr
    exact (ho r (by omega)).trans (blk r l2 (fun e => h.mine r e hr))
  · rw [flK_snoc, List.length_append]
    exact row_keep hown (fun g hgv => ho g (by have := (row_block hown hgv).1; omega))
  · have := (h.low r hr).2
    simp
    omega
  · rcases hat with h1 | h1
    · exact h.mine g (h1 ▸ hgv) hge
    · rw [h1] at hgv
      cases hgv
      have := (h.low _ hge).2
      omega
  · simp
    omega
end

/-- Between two rounds. -/
def LGo (w : World) (E : List Nat) (pre : List It) (W : World) : Prop := ∃ v cs, LI w (.slice none 0 0) (.int .i64 0) (.int .i64 0) E v cs W ∧ pre = cs.map fun t => (t, 0)
/-- An error has come. -/
def LEnd (w : World) (q : List Tk × Nat × Int) (E : List Nat) (_ : List It) (W : World) : Prop := ∃ v cs, LI w (.slice none 0 0) (.int .i64 (q.2.1 : Nat)) (.int .i64 q.2.2) E v cs W ∧ q.2.2 ≠ 0
theorem lgo_abide (w : World) : Abide (LGo w) := by
  rintro E E' s W W' row ⟨v, cs, h, hp⟩ hg hr hE
  exact ⟨v, cs, h.kept hg hr hE, hp⟩
theorem lend_abide (w : World) (q : List Tk × Nat × Int) : Abide (LEnd w q) := by
  rintro E E' s W W' row ⟨v, cs, h, hp⟩ hg hr hE
  exact ⟨v, cs, h.kept hg hr hE, hp⟩

theorem itms_ok {q : List Tk × Nat × Int} {cs : List Tk} (h : itms q = cs.map fun t => (t, 0)) (h0 : q.2.2 = 0 → q.2.1 = 0) : q = (cs, 0, 0) := by
  obtain ⟨ts, p, e⟩ := q
  unfold itms at h
  simp only at h h0
  by_cases he : e = 0
  · subst he
    have hp := h0 rfl
    subst hp
    rw [if_pos rfl, List.append_nil] at h
    have : ts = cs := by
      have h2 := congrArg (List.map Prod.fst) h
      simpa [Function.comp_def] using h2
    rw [this]
  · rw [if_neg he] at h
    exfalso
    have h3 : ((⟨0, p, []⟩ : Tk), e) ∈ cs.map fun t => (t, (0 : Int)) := by rw [← h]; simp
    obtain ⟨t, _, ht⟩ := List.mem_map.1 h3
    exact he (congrArg Prod.snd ht).symm
theorem itms_err {q : List Tk × Nat × Int} {cs : List Tk} {t : Tk} {e : Int} {rest : List It} (h : itms q = (cs.map fun t => (t, 0)) ++ (t, e) :: rest) (he : e ≠ 0) : q.2.2 = e ∧ q.2.1 = t.a := by
  obtain ⟨ts, p, x⟩ := q
  unfold itms at h
  simp only at h ⊢
  by_cases hx : x = 0
  · rw [if_pos hx, List.append_nil] at h
    exfalso
    have h3 : (t, e) ∈ ts.map fun t => (t, (0 : Int)) := by rw [h]; simp
    obtain ⟨t', _, ht⟩ := List.mem_map.1 h3
    exact he (congrArg Prod.snd ht).symm
  · rw [if_neg hx] at h
    have h3 : (t, e) ∈ (ts.map fun t => (t, (0 : Int))) ++ [((⟨0, p, []⟩ : Tk), x)] := by rw [h]; simp
    rcases List.mem_append.1 h3 with h4 | h4
    · obtain ⟨t', _, ht⟩ := List.mem_map.1 h4
      exact absurd (congrArg Prod.snd ht).symm he
    · have h5 := List.mem_singleton.1 h4
      have h6 := congrArg Prod.fst h5
      have h7 := congrArg Prod.snd h5
      simp only at h6 h7
      exact ⟨h7.symm, by rw [h6]⟩
theorem lexL_place : ∀ (m : Nat) (l : List UInt8) (a : Nat), l.length ≤ m → (lexL a l).2.2 = 0 → (lexL a l).2.1 = 0 := by
  intro m
  induction m with
  | zero =>
    intro l a hl _
    have : l = [] := List.length_eq_zero_iff.1 (by omega)
    subst this
    rw [lexL_nil]
  | succ m ih =>
    intro l a hl h
    cases l with
    | nil => rw [lexL_nil]
    | cons c r =>
      by_cases hb : c = 32 ∨ c = 9 ∨ c = 13
      · rw [lexL_blank hb] at h ⊢
        exact ih r _ (by simp at hl; omega) h
      · by_cases h2 : c = 37
        · subst h2; rw [lexL_rem]
        · by_cases h3 : (rd (c :: r)).e = 0
          · have e := lexL_tok hb h2 h3 [] (a := a)
            have e1 : (lexL a (c :: r)).2 = (lexL (a + (rd (c :: r)).n) ((c :: r).drop (rd (c :: r)).n)).2 := congrArg (fun z => z.2) e
            obtain ⟨n1, _⟩ := rd_n h3 (by simp)
            rw [e1] at h ⊢
            exact ih _ _ (by rw [List.length_drop]; simp at hl ⊢; omega) h
          · rw [lexL_err hb h2 h3] at h
            exact absurd h h3

end Go.Proofs.Ytkfbjkopmgeklaa
