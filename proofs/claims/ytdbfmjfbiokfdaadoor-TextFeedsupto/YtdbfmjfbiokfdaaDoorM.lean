/-
  The plain mathematics: what a character of UTF-8 is, over lists of numbers. It imports nothing of the program.
-/
namespace Go.Proofs.YtdbfmjfbiokfdaaDoor

theorem if_same {α : Type} {p q : Prop} [Decidable p] [Decidable q] {a b : α} (h : p ↔ q) : (if p then a else b) = if q then a else b := by
  by_cases hp : p
  · rw [if_pos hp, if_pos (h.1 hp)]
  · rw [if_neg hp, if_neg (fun hq => hp (h.2 hq))]

def inn (l : List Int) (i : Nat) (lo hi : Int) : Bool := decide (i < l.length) && decide (lo ≤ l.getD i 0) && decide (l.getD i 0 ≤ hi)

def csz (c : Int) : Int := if c ≤ 127 then 1 else if 194 ≤ c ∧ c ≤ 223 then 2 else if 224 ≤ c ∧ c ≤ 239 then 3 else if 240 ≤ c ∧ c ≤ 244 then 4 else 0
def clo (c : Int) : Int := if c ≤ 127 then 0 else if 194 ≤ c ∧ c ≤ 223 then 128 else if c = 224 then 160 else if c = 240 then 144 else if 224 ≤ c ∧ c ≤ 244 then 128 else 0
def chi (c : Int) : Int := if c ≤ 127 then 0 else if 194 ≤ c ∧ c ≤ 223 then 191 else if c = 237 then 159 else if c = 244 then 143 else if 224 ≤ c ∧ c ≤ 244 then 191 else 0

/-- How many bytes the character has that begins the list; 0: none begins there. -/
def chs (l : List Int) : Nat :=
  if l.getD 0 0 ≤ 127 then 1
  else if 194 ≤ l.getD 0 0 ∧ l.getD 0 0 ≤ 223 then (if inn l 1 128 191 then 2 else 0)
  else if 224 ≤ l.getD 0 0 ∧ l.getD 0 0 ≤ 239 then (if inn l 1 (if l.getD 0 0 = 224 then 160 else 128) (if l.getD 0 0 = 237 then 159 else 191) && inn l 2 128 191 then 3 else 0)
  else if 240 ≤ l.getD 0 0 ∧ l.getD 0 0 ≤ 244 then (if inn l 1 (if l.getD 0 0 = 240 then 144 else 128) (if l.getD 0 0 = 244 then 143 else 191) && inn l 2 128 191 && inn l 3 128 191 then 4 else 0)
  else 0

/-- The same, of the first four bytes and of how many there are. -/
def chsN (n : Nat) (c0 c1 c2 c3 : Int) : Nat :=
  if c0 ≤ 127 then 1
  else if 194 ≤ c0 ∧ c0 ≤ 223 then (if 1 < n ∧ 128 ≤ c1 ∧ c1 ≤ 191 then 2 else 0)
  else if 224 ≤ c0 ∧ c0 ≤ 239 then (if 1 < n ∧ (if c0 = 224 then 160 else 128) ≤ c1 ∧ c1 ≤ (if c0 = 237 then 159 else 191) ∧ 2 < n ∧ 128 ≤ c2 ∧ c2 ≤ 191 then 3 else 0)
  else if 240 ≤ c0 ∧ c0 ≤ 244 then (if 1 < n ∧ (if c0 = 240 then 144 else 128) ≤ c1 ∧ c1 ≤ (if c0 = 244 then 143 else 191) ∧ 2 < n ∧ 128 ≤ c2 ∧ c2 ≤ 191 ∧ 3 < n ∧ 128 ≤ c3 ∧ c3 ≤ 191 then 4 else 0)
  else 0
theorem chs_eq (l : List Int) : chs l = chsN l.length (l.getD 0 0) (l.getD 1 0) (l.getD 2 0) (l.getD 3 0) := by
  unfold chs chsN inn
  simp only [Bool.and_eq_true, decide_eq_true_eq, and_assoc]
theorem csz_val (c : Int) : csz c = 0 ∨ csz c = 1 ∨ csz c = 2 ∨ csz c = 3 ∨ csz c = 4 := by
  unfold csz
  repeat' split
  all_goals simp
def wthn (b lo hi : Int) : Bool := decide (lo ≤ b ∧ b ≤ hi)
theorem wthn_t {b lo hi : Int} (h : wthn b lo hi = true) : lo ≤ b ∧ b ≤ hi := of_decide_eq_true h
theorem wthn_f {b lo hi : Int} (h : wthn b lo hi = false) : ¬ (lo ≤ b ∧ b ≤ hi) := of_decide_eq_false h

theorem csz0 {c : Int} (h : csz c = 0) (n : Nat) (c1 c2 c3 : Int) : chsN n c c1 c2 c3 = 0 := by
  unfold csz at h
  unfold chsN
  repeat' split at h
  all_goals first | omega | (repeat' split) <;> first | rfl | omega
theorem csz1 {c : Int} (h : csz c = 1) (n : Nat) (c1 c2 c3 : Int) : chsN n c c1 c2 c3 = 1 := by
  unfold csz at h
  unfold chsN
  repeat' split at h
  all_goals first | omega | simp_all
theorem csz2 {c : Int} (h : csz c = 2) (n : Nat) (c1 c2 c3 : Int) : chsN n c c1 c2 c3 = if 1 < n ∧ wthn c1 (clo c) (chi c) = true then 2 else 0 := by
  unfold csz at h
  repeat' split at h
  all_goals first | omega | skip
  have e1 : clo c = 128 := by unfold clo; rw [if_neg (by omega), if_pos (by omega)]
  have e2 : chi c = 191 := by unfold chi; rw [if_neg (by omega), if_pos (by omega)]
  unfold chsN wthn
  rw [e1, e2, if_neg (by omega), if_pos (by omega)]
  simp only [decide_eq_true_eq]
theorem csz3 {c : Int} (h : csz c = 3) (n : Nat) (c1 c2 c3 : Int) : chsN n c c1 c2 c3 = if 2 < n ∧ wthn c2 128 191 = true ∧ wthn c1 (clo c) (chi c) = true then 3 else 0 := by
  unfold csz at h
  repeat' split at h
  all_goals first | omega | skip
  have e1 : clo c = if c = 224 then 160 else 128 := by unfold clo; repeat' split
                                                       all_goals omega
  have e2 : chi c = if c = 237 then 159 else 191 := by unfold chi; repeat' split
                                                       all_goals omega
  unfold chsN wthn
  rw [e1, e2, if_neg (by omega), if_neg (by omega), if_pos (by omega)]
  simp only [decide_eq_true_eq]
  refine if_same ?_
  constructor
  · intro h; simp only [h, and_self]
  · intro h; refine ⟨by omega, h.2.2.1, h.2.2.2, h.1, h.2.1.1, h.2.1.2⟩
theorem csz4 {c : Int} (h : csz c = 4) (n : Nat) (c1 c2 c3 : Int) : chsN n c c1 c2 c3 = if 3 < n ∧ wthn c3 128 191 = true ∧ wthn c2 128 191 = true ∧ wthn c1 (clo c) (chi c) = true then 4 else 0 := by
  unfold csz at h
  repeat' split at h
  all_goals first | omega | skip
  have e1 : clo c = if c = 240 then 144 else 128 := by unfold clo; repeat' split
                                                       all_goals omega
  have e2 : chi c = if c = 244 then 143 else 191 := by unfold chi; repeat' split
                                                       all_goals omega
  unfold chsN wthn
  rw [e1, e2, if_neg (by omega), if_neg (by omega), if_neg (by omega), if_pos (by omega)]
  simp only [decide_eq_true_eq]
  refine if_same ?_
  constructor
  · intro h; simp only [h, and_self]
  · intro h; refine ⟨by omega, h.2.2.2.1, h.2.2.2.2, by omega, h.2.2.1.1, h.2.2.1.2, h.1, h.2.1.1, h.2.1.2⟩

theorem chs_le (l : List Int) (h : 0 < l.length) : chs l ≤ l.length := by
  unfold chs inn
  repeat' split
  all_goals simp_all
  all_goals omega

theorem chs_le4 (l : List Int) : chs l ≤ 4 := by
  unfold chs
  repeat' split
  all_goals omega

def vldF : Nat → List Int → Bool
  | 0, l => l.isEmpty
  | k + 1, l => if l.isEmpty then true else if chs l = 0 then false else vldF k (l.drop (chs l))
/-- Are the bytes whole characters, one behind the other? -/
def vld (l : List Int) : Bool := vldF l.length l

theorem vldF_two : ∀ (k : Nat) (l : List Int) (k' : Nat), l.length ≤ k → l.length ≤ k' → vldF k l = vldF k' l
  | 0, l, k', h, _ => by
    have h0 : l = [] := List.length_eq_zero_iff.1 (by omega)
    subst h0
    cases k' <;> simp [vldF]
  | k + 1, [], k', _, _ => by cases k' <;> simp [vldF]
  | k + 1, a :: r, 0, _, h' => by simp at h'
  | k + 1, a :: r, k' + 1, h, h' => by
    have hl : (a :: r).length = r.length + 1 := rfl
    rw [hl] at h h'
    unfold vldF
    by_cases hc : chs (a :: r) = 0
    · simp [hc]
    · have h1 : ((a :: r).drop (chs (a :: r))).length ≤ r.length := by rw [List.length_drop, hl]; omega
      simp only [List.isEmpty_cons, Bool.false_eq_true, if_false, hc]
      exact vldF_two k _ k' (by omega) (by omega)
theorem vldF_enough (k : Nat) (l : List Int) (h : l.length ≤ k) : vldF k l = vldF l.length l := vldF_two k l l.length h (Nat.le_refl _)

theorem vld_nil : vld [] = true := rfl
theorem vld_step (l : List Int) (h : 0 < l.length) : vld l = if chs l = 0 then false else vld (l.drop (chs l)) := by
  cases l with
  | nil => simp at h
  | cons a r =>
    have hl : (a :: r).length = r.length + 1 := rfl
    unfold vld
    rw [hl]
    show (if (a :: r).isEmpty then true else if chs (a :: r) = 0 then false else vldF r.length ((a :: r).drop (chs (a :: r)))) = _
    by_cases hc : chs (a :: r) = 0
    · simp [hc]
    · have h1 : ((a :: r).drop (chs (a :: r))).length ≤ r.length := by rw [List.length_drop, hl]; omega
      simp only [List.isEmpty_cons, Bool.false_eq_true, if_false, hc]
      exact vldF_enough _ _ h1

end Go.Proofs.YtdbfmjfbiokfdaaDoor
