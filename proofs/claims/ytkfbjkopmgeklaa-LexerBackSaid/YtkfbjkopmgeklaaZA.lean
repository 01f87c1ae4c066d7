/-
  The law's same and alive.
-/
import Derived.Test.YtkfbjkopmgeklaaY
import Derived.Deep.QuietTactic
import Derived.BigQuiet
namespace Go.Proofs.Ytkfbjkopmgeklaa
open Go.RowKit Go.Shelf

def lexF : Nat → Nat → List UInt8 → List Tk × Nat × Int
  | 0, _, _ => ([], 0, 0)
  | _ + 1, _, [] => ([], 0, 0)
  | f + 1, a, c :: r =>
    if c = 32 ∨ c = 9 ∨ c = 13 then lexF f (a + 1) r
    else if c = 37 then ([], 0, 0)
    else if (rd (c :: r)).e ≠ 0 then ([], a, (rd (c :: r)).e)
    else (⟨(rd (c :: r)).k, a, (rd (c :: r)).t⟩ :: (lexF f (a + (rd (c :: r)).n) (r.drop ((rd (c :: r)).n - 1))).1, (lexF f (a + (rd (c :: r)).n) (r.drop ((rd (c :: r)).n - 1))).2)
theorem lexF_eq : ∀ (f a : Nat) (l : List UInt8), l.length ≤ f → lexF f a l = lexL a l := by
  intro f
  induction f with
  | zero =>
    intro a l hl
    have : l = [] := List.length_eq_zero_iff.1 (by omega)
    subst this
    rw [lexL_nil]; rfl
  | succ f ih =>
    intro a l hl
    cases l with
    | nil => rw [lexL_nil]; rfl
    | cons c r =>
      have hr : r.length ≤ f := by simp at hl; omega
      unfold lexF
      conv => rhs; unfold lexL
      rw [ih (a + 1) r hr, ih _ (r.drop ((rd (c :: r)).n - 1)) (by rw [List.length_drop]; omega)]

theorem lexL_len : ∀ (m : Nat) (l : List UInt8) (a : Nat), l.length ≤ m → (lexL a l).1.length ≤ l.length := by
  intro m
  induction m with
  | zero =>
    intro l a hl
    have : l = [] := List.length_eq_zero_iff.1 (by omega)
    subst this
    rw [lexL_nil]; exact Nat.le_refl _
  | succ m ih =>
    intro l a hl
    cases l with
    | nil => rw [lexL_nil]; exact Nat.le_refl _
    | cons c r =>
      by_cases hb : c = 32 ∨ c = 9 ∨ c = 13
      · rw [lexL_blank hb]
        have := ih r (a + 1) (by simp at hl; omega)
        simp; omega
      · by_cases h2 : c = 37
        · subst h2; rw [lexL_rem]; simp
        · by_cases h3 : (rd (c :: r)).e = 0
          · have e := congrArg (fun z => z.1.length) (lexL_tok hb h2 h3 [] (a := a))
            obtain ⟨n1, n2⟩ := rd_n h3 (by simp)
            have := ih ((c :: r).drop (rd (c :: r)).n) (a + (rd (c :: r)).n) (by rw [List.length_drop]; simp at hl ⊢; omega)
            rw [List.length_drop] at this
            simp only [addD, List.nil_append, List.length_append, List.length_cons, List.length_nil] at e
            simp only [List.length_cons] at this n2 ⊢
            omega
          · rw [lexL_err hb h2 h3]; simp

theorem below_drewN (w : World) (q : Nat) : Below w.heap.size w (w.drewN q) := ⟨rfl, rfl, rfl, Nat.le_refl _, fun _ _ => rfl⟩

theorem lex_ok (s : ByteArray) (w : World) (hs : s.size ≤ 2097154) : Calls Try.prog 7 #[.string s] w (LexP (lexL 0 s.data.toList) w) := by
  refine lex_any s w hs ?_
  have h1 := lexL_len _ s.data.toList 0 (Nat.le_refl _)
  rw [size_len] at h1
  unfold itms
  rw [List.length_append, List.length_map]
  split <;> simp <;> omega

set_option maxRecDepth 100000 in
set_option maxHeartbeats 4000000 in
theorem same_any (l : List Tk) (v1 v2 : Value) (w : World) (h1 : KsAt w v1 l) (h2 : KsAt w v2 l) : Calls Try.prog 9 #[v1, v2] w fun e w' => e = .returned (.bool true) ∧ Below w.heap.size w w' := by
  obtain ⟨a1, c1, rfl, l1, m1⟩ := h1.slice
  obtain ⟨a2, c2, rfl, l2, m2⟩ := h2.slice
  have K : Hid (KsAt w (.slice a1 l.length c1) l ∧ KsAt w (.slice a2 l.length c2) l) := ⟨h1, h2⟩
  clear h1 h2
  go_enter Try.func9, Try.ntmps9
  go_wp2
  go_loopw [5] (fun j wr => ∃ i q : Nat, j = .int .i64 i ∧ i ≤ l.length ∧ wr = w.drewN q) (fun j _ => l.length - (intOf j).toNat)
  case atStart => exact ⟨0, 0, rfl, Nat.zero_le _, rfl⟩
  case round =>
    obtain ⟨i, q, rfl, hi, hw⟩ := hrel
    subst hw
    by_cases hlt : i < l.length
    · obtain ⟨b1, o1, rfl, _, x0, x1, x2⟩ := K.out.1.nth hlt
      obtain ⟨b2, o2, rfl, _, y0, y1, y2⟩ := K.out.2.nth hlt
      obtain ⟨t, ht⟩ : ∃ t, l[i] = t := ⟨_, rfl⟩
      rw [ht] at x0 x1 x2 y0 y1 y2
      obtain ⟨T, hT⟩ : ∃ T, ofL t.t = T := ⟨_, rfl⟩
      rw [hT] at x2 y2
      clear ht hT
      go_wp2
      go_quiet (fail)
      go_wp2
      go_roundw
      case rel => exact ⟨i + 1, _, by go_num, by omega, rfl⟩
      case measure => simp [intOf]; omega
    · go_wp2
      go_ret
      exact ⟨rfl, below_drewN w q⟩

theorem ex1 : lexL 0 [112, 40, 88, 41, 32, 33, 61, 32, 39, 97, 32, 98, 39] = ([⟨1, 0, [112]⟩, ⟨4, 1, [40]⟩, ⟨2, 2, [88]⟩, ⟨4, 3, [41]⟩, ⟨4, 5, [33, 61]⟩, ⟨1, 8, [97, 32, 98]⟩], 0, 0) := by
  rw [← lexF_eq 13 _ _ (by decide)]
  kernel_rfl
theorem ex2 : (lexL 0 [112, 40, 88, 41, 32, 33, 61, 32, 39, 65, 39]).2 = (8, 20) := by
  rw [← lexF_eq 13 _ _ (by decide)]
  kernel_rfl
theorem ex3 : shL [97, 32, 98] = [39, 97, 32, 98, 39] := by kernel_rfl
theorem ex4 : shL [97, 98] = [97, 98] := by kernel_rfl

end Go.Proofs.Ytkfbjkopmgeklaa
