/-
  LexerJoins: two texts with a blank between: mathematics.
-/
import Derived.Test.YtkfbjkopmgeklaaZB
namespace Go.Proofs.Ytkfbjkopmgeklaa
open Go.RowKit Go.Shelf

theorem wlen_app (b : List UInt8) : ∀ l : List UInt8, wlen (l ++ 32 :: b) = wlen l
  | [] => by
    show wlen (32 :: b) = 0
    exact wlen_no (by decide)
  | c :: r => by
    rw [List.cons_append]
    cases h : wdB c.toNat
    · rw [wlen_no h, wlen_no h]
    · rw [wlen_yes h, wlen_yes h, wlen_app b r]

theorem prefix_app (b : List UInt8) : ∀ (l m : List UInt8), 32 ∉ m → Lib.hasPrefix (l ++ 32 :: b) m = Lib.hasPrefix l m
  | l, [], _ => by cases l <;> rfl
  | [], y :: m, h => by
    show (y :: m).isPrefixOf (32 :: b) = (y :: m).isPrefixOf []
    have : (y == 32) = false := by
      rw [beq_eq_false_iff_ne]
      intro e
      exact h (by simp [e])
    simp [List.isPrefixOf, this]
  | x :: l, y :: m, h => by
    have ih := prefix_app b l m (fun e => h (by simp [e]))
    show (y :: m).isPrefixOf (x :: (l ++ 32 :: b)) = (y :: m).isPrefixOf (x :: l)
    simp only [List.isPrefixOf]
    unfold Lib.hasPrefix at ih
    rw [ih]

theorem find_app (l b : List UInt8) : ∀ ms : List (List UInt8), (∀ m ∈ ms, 32 ∉ m) → ms.find? (fun m => Lib.hasPrefix (l ++ 32 :: b) m) = ms.find? (fun m => Lib.hasPrefix l m)
  | [], _ => rfl
  | m :: ms, h => by
    have e := prefix_app b l m (h m (by simp))
    have ih := find_app l b ms (fun x hx => h x (by simp [hx]))
    rw [List.find?_cons, List.find?_cons, e, ih]

theorem hd_app (l b : List UInt8) (h : l ≠ []) : hd (l ++ 32 :: b) = hd l := by
  cases l with
  | nil => exact absurd rfl h
  | cons c r => rfl

theorem rd_app (l b : List UInt8) (h : l ≠ []) (hq : hd l ≠ 39) : rd (l ++ 32 :: b) = rd l := by
  have hW : ∀ k, rdW k (l ++ 32 :: b) = rdW k l := fun k => by
    unfold rdW
    rw [wlen_app, List.take_append_of_le_length (wlen_le l)]
  have hD : rdD (l ++ 32 :: b) = rdD l := by
    have hlen : 1 ≤ l.length := by cases l with | nil => exact absurd rfl h | cons c r => simp
    have hw := wlen_le (l.drop 1)
    rw [List.length_drop] at hw
    unfold rdD
    rw [List.drop_append_of_le_length hlen, wlen_app]
    simp only
    rw [List.take_append_of_le_length (by omega)]
  have hM : rdM (l ++ 32 :: b) = rdM l := by
    unfold rdM
    rw [find_app l b mks (by decide)]
  unfold rd
  rw [hd_app l b h, hW 1, hW 2, hD, hM, if_neg hq, if_neg hq]

/-- What comes behind a text that had no error. -/
def joinL (q r : List Tk × Nat × Int) : List Tk × Nat × Int := if q.2.2 = 0 then (q.1 ++ r.1, r.2) else q

theorem joinL_add (d : List Tk) (q r : List Tk × Nat × Int) : joinL (addD d q) r = addD d (joinL q r) := by
  unfold joinL addD
  simp only
  split <;> simp

theorem lex_join (b : List UInt8) : ∀ (m : Nat) (a : List UInt8) (k : Nat), a.length ≤ m → (∀ c ∈ a, c ≠ 37 ∧ c ≠ 39) → lexL k (a ++ 32 :: b) = joinL (lexL k a) (lexL (k + a.length + 1) b) := by
  intro m
  induction m with
  | zero =>
    intro a k hl _
    have : a = [] := List.length_eq_zero_iff.1 (by omega)
    subst this
    rw [List.nil_append, lexL_blank (.inl rfl), lexL_nil]
    simp [joinL]
  | succ m ih =>
    intro a k hl hc
    cases a with
    | nil =>
      rw [List.nil_append, lexL_blank (.inl rfl), lexL_nil]
      simp [joinL]
    | cons c r =>
      have hcr : ∀ x ∈ r, x ≠ 37 ∧ x ≠ 39 := fun x hx => hc x (by simp [hx])
      have hr : r.length ≤ m := by simp at hl; omega
      rw [List.cons_append]
      by_cases hb : c = 32 ∨ c = 9 ∨ c = 13
      · rw [lexL_blank hb, lexL_blank hb, ih r (k + 1) hr hcr, show k + (c :: r).length + 1 = k + 1 + r.length + 1 by simp; omega]
      · have h37 := (hc c (by simp)).1
        have h39 := (hc c (by simp)).2
        have hq : hd (c :: r) ≠ 39 := fun e => h39 (UInt8.toNat_inj.1 (by have e : (c.toNat : Int) = 39 := e; show c.toNat = 39; omega))
        have er := rd_app (c :: r) b (by simp) hq
        rw [List.cons_append] at er
        by_cases he : (rd (c :: r)).e = 0
        · have e1 := @lexL_tok k c (r ++ 32 :: b) hb h37 (by rw [er]; exact he) []
          have e2 := @lexL_tok k c r hb h37 he []
          obtain ⟨n1, n2⟩ := rd_n he (by simp)
          rw [er] at e1
          have ed : (c :: (r ++ 32 :: b)).drop (rd (c :: r)).n = (c :: r).drop (rd (c :: r)).n ++ 32 :: b := by
            rw [← List.cons_append, List.drop_append_of_le_length n2]
          rw [ed, ih ((c :: r).drop (rd (c :: r)).n) (k + (rd (c :: r)).n) (by rw [List.length_drop]; simp at hl ⊢; omega) (fun x hx => hc x (List.mem_of_mem_drop hx))] at e1
          have ek : k + (rd (c :: r)).n + ((c :: r).drop (rd (c :: r)).n).length + 1 = k + (c :: r).length + 1 := by rw [List.length_drop]; omega
          rw [ek] at e1
          have z : ∀ q : List Tk × Nat × Int, addD [] q = q := fun q => by simp [addD]
          rw [z] at e1 e2
          rw [e1, e2, joinL_add]
        · rw [lexL_err hb h37 (by rw [er]; exact he), lexL_err hb h37 he, er]
          unfold joinL
          rw [if_neg he]

/-- The same text, further on. -/
def shiftL (k : Nat) (q : List Tk × Nat × Int) : List Tk × Nat × Int := (q.1.map (fun t => ⟨t.k, t.a + k, t.t⟩), if q.2.2 = 0 then 0 else q.2.1 + k, q.2.2)
theorem shiftL_add (k : Nat) (d : List Tk) (q : List Tk × Nat × Int) : shiftL k (addD d q) = addD (d.map (fun t => ⟨t.k, t.a + k, t.t⟩)) (shiftL k q) := by
  unfold shiftL addD
  simp
theorem lex_shift (k : Nat) : ∀ (m : Nat) (l : List UInt8) (j : Nat), l.length ≤ m → lexL (j + k) l = shiftL k (lexL j l) := by
  intro m
  induction m with
  | zero =>
    intro l j hl
    have : l = [] := List.length_eq_zero_iff.1 (by omega)
    subst this
    rw [lexL_nil, lexL_nil]; rfl
  | succ m ih =>
    intro l j hl
    cases l with
    | nil => rw [lexL_nil, lexL_nil]; rfl
    | cons c r =>
      by_cases hb : c = 32 ∨ c = 9 ∨ c = 13
      · rw [lexL_blank hb, lexL_blank hb, ← ih r (j + 1) (by simp at hl; omega), show j + k + 1 = j + 1 + k by omega]
      · by_cases h37 : c = 37
        · subst h37; rw [lexL_rem, lexL_rem]; rfl
        · by_cases he : (rd (c :: r)).e = 0
          · have e1 := @lexL_tok (j + k) c r hb h37 he []
            have e2 := @lexL_tok j c r hb h37 he []
            obtain ⟨n1, n2⟩ := rd_n he (by simp)
            have z : ∀ q : List Tk × Nat × Int, addD [] q = q := fun q => by simp [addD]
            rw [z] at e1 e2
            rw [e1, e2, shiftL_add, ← ih ((c :: r).drop (rd (c :: r)).n) (j + (rd (c :: r)).n) (by rw [List.length_drop]; simp at hl ⊢; omega), show j + k + (rd (c :: r)).n = j + (rd (c :: r)).n + k by omega]
            simp
          · rw [lexL_err hb h37 he, lexL_err hb h37 he]
            unfold shiftL
            simp [he]

theorem lex_at : ∀ (m : Nat) (l : List UInt8) (j : Nat), l.length ≤ m → (∀ t ∈ (lexL j l).1, t.a ≤ j + l.length) ∧ (lexL j l).2.1 ≤ j + l.length := by
  intro m
  induction m with
  | zero =>
    intro l j hl
    have : l = [] := List.length_eq_zero_iff.1 (by omega)
    subst this
    rw [lexL_nil]
    exact ⟨by simp, by simp⟩
  | succ m ih =>
    intro l j hl
    cases l with
    | nil => rw [lexL_nil]; exact ⟨by simp, by simp⟩
    | cons c r =>
      by_cases hb : c = 32 ∨ c = 9 ∨ c = 13
      · rw [lexL_blank hb]
        obtain ⟨h1, h2⟩ := ih r (j + 1) (by simp at hl; omega)
        refine ⟨fun t ht => ?_, ?_⟩
        · have := h1 t ht; simp; omega
        · simp; omega
      · by_cases h37 : c = 37
        · subst h37; rw [lexL_rem]; exact ⟨by simp, by simp⟩
        · by_cases he : (rd (c :: r)).e = 0
          · have e2 := @lexL_tok j c r hb h37 he []
            obtain ⟨n1, n2⟩ := rd_n he (by simp)
            have z : ∀ q : List Tk × Nat × Int, addD [] q = q := fun q => by simp [addD]
            rw [z] at e2
            obtain ⟨h1, h2⟩ := ih ((c :: r).drop (rd (c :: r)).n) (j + (rd (c :: r)).n) (by rw [List.length_drop]; simp at hl ⊢; omega)
            rw [List.length_drop] at h1 h2
            rw [e2]
            refine ⟨fun t ht => ?_, ?_⟩
            · simp only [addD, List.nil_append] at ht
              rcases List.mem_append.1 ht with h | h
              · have := List.mem_singleton.1 h
                rw [this]
                simp
              · have := h1 t h; omega
            · show (lexL (j + (rd (c :: r)).n) ((c :: r).drop (rd (c :: r)).n)).2.1 ≤ _
              omega
          · rw [lexL_err hb h37 he]
            exact ⟨by simp, by simp⟩

/-- All three. -/
theorem joins (a b : List UInt8) (hc : ∀ c ∈ a, c ≠ 37 ∧ c ≠ 39) : lexL 0 (a ++ 32 :: b) = joinL (lexL 0 a) (shiftL (a.length + 1) (lexL 0 b)) := by
  rw [lex_join b _ a 0 (Nat.le_refl _) hc, show 0 + a.length + 1 = 0 + (a.length + 1) by omega, lex_shift (a.length + 1) _ b 0 (Nat.le_refl _)]

end Go.Proofs.Ytkfbjkopmgeklaa
