/-
  The scales: what is counted; note, count, heaviness.
-/
import Derived.Test.YtcnodgjalkcgiaaKD
namespace Go.Proofs.Ytcnodgjalkcgiaa
open Go.RowKit Go.Maps

/-- Numbers of variables are below it. -/
def NV : Nat := 1000000
theorem NV_eq : NV = 1000000 := rfl
/-- How many variables below n stand oftener at the left, and at the right. -/
def moN (n : Nat) (c : Int → Int) : Int := ((List.range n).countP (fun i : Nat => decide (0 < c (i : Int))) : Nat)
def feN (n : Nat) (c : Int → Int) : Int := ((List.range n).countP (fun i : Nat => decide (c (i : Int) < 0)) : Nat)
def mo (c : Int → Int) : Int := moN NV c
def fe (c : Int → Int) : Int := feN NV c
/-- One more of a variable. -/
def bump (c : Int → Int) (x d : Int) : Int → Int := fun y => if y = x then c y + d else c y

theorem countP_turn (f h : Nat → Bool) (i : Nat) (hfh : ∀ j, j ≠ i → f j = h j) : ∀ n, i < n → (List.range n).countP h + (if f i then 1 else 0) = (List.range n).countP f + (if h i then 1 else 0) := by
  have low : ∀ n, n ≤ i → (List.range n).countP h = (List.range n).countP f := by
    intro n hn
    refine List.countP_congr fun j hj => ?_
    rw [hfh j (by have := List.mem_range.1 hj; omega)]
  intro n
  induction n with
  | zero => intro h0; omega
  | succ n ih =>
    intro hn
    rw [List.range_succ, List.countP_append, List.countP_append, List.countP_singleton, List.countP_singleton]
    by_cases e : n = i
    · subst e
      rw [low n (Nat.le_refl _)]
      omega
    · have := ih (by omega)
      rw [hfh n e]
      omega

theorem moN_bump (n : Nat) (c : Int → Int) (i : Nat) (d : Int) (h1 : i < n) : moN n (bump c i d) + (if 0 < c i then 1 else 0) = moN n c + (if 0 < c i + d then 1 else 0) := by
  have := countP_turn (fun j => decide (0 < c (j : Int))) (fun j => decide (0 < bump c (i : Int) d (j : Int))) i (fun j hj => by
    have : ¬ ((j : Int) = (i : Int)) := by omega
    simp only [bump, this, if_false]) n h1
  unfold moN
  simp only [bump, if_true, decide_eq_true_eq] at this ⊢
  split at this <;> split at this <;> simp_all <;> omega
theorem feN_bump (n : Nat) (c : Int → Int) (i : Nat) (d : Int) (h1 : i < n) : feN n (bump c i d) + (if c i < 0 then 1 else 0) = feN n c + (if c i + d < 0 then 1 else 0) := by
  have := countP_turn (fun j => decide (c (j : Int) < 0)) (fun j => decide (bump c (i : Int) d (j : Int) < 0)) i (fun j hj => by
    have : ¬ ((j : Int) = (i : Int)) := by omega
    simp only [bump, this, if_false]) n h1
  unfold feN
  simp only [bump, if_true, decide_eq_true_eq] at this ⊢
  split at this <;> split at this <;> simp_all <;> omega
theorem mo_bump (c : Int → Int) (x d : Int) (h0 : 0 ≤ x) (h1 : x < 1000000) : mo (bump c x d) + (if 0 < c x then 1 else 0) = mo c + (if 0 < c x + d then 1 else 0) := by
  obtain ⟨i, rfl⟩ := Int.eq_ofNat_of_zero_le h0
  exact moN_bump NV c i d (by have := NV_eq; omega)
theorem fe_bump (c : Int → Int) (x d : Int) (h0 : 0 ≤ x) (h1 : x < 1000000) : fe (bump c x d) + (if c x < 0 then 1 else 0) = fe c + (if c x + d < 0 then 1 else 0) := by
  obtain ⟨i, rfl⟩ := Int.eq_ofNat_of_zero_le h0
  exact feN_bump NV c i d (by have := NV_eq; omega)
theorem moN_rng (n : Nat) (c : Int → Int) : 0 ≤ moN n c ∧ moN n c ≤ n := by
  unfold moN
  have := List.countP_le_length (p := fun i : Nat => decide (0 < c (i : Int))) (l := List.range n)
  rw [List.length_range] at this
  omega
theorem feN_rng (n : Nat) (c : Int → Int) : 0 ≤ feN n c ∧ feN n c ≤ n := by
  unfold feN
  have := List.countP_le_length (p := fun i : Nat => decide (c (i : Int) < 0)) (l := List.range n)
  rw [List.length_range] at this
  omega
theorem mo_rng (c : Int → Int) : 0 ≤ mo c ∧ mo c ≤ 1000000 := by
  have h1 := moN_rng NV c
  have := NV_eq
  unfold mo
  omega
theorem fe_rng (c : Int → Int) : 0 ≤ fe c ∧ fe c ≤ 1000000 := by
  have h1 := feN_rng NV c
  have := NV_eq
  unfold fe
  omega
theorem moN_pos (n : Nat) {c : Int → Int} (hs : ∀ x, x < 0 ∨ (n : Int) ≤ x → c x = 0) : 0 < moN n c ↔ ∃ x, 0 < c x := by
  unfold moN
  rw [Int.natCast_pos, List.countP_pos_iff]
  constructor
  · rintro ⟨i, _, h⟩
    exact ⟨_, of_decide_eq_true h⟩
  · rintro ⟨x, h⟩
    have hx : ¬ (x < 0 ∨ (n : Int) ≤ x) := fun k => by have := hs x k; omega
    obtain ⟨i, rfl⟩ := Int.eq_ofNat_of_zero_le (show 0 ≤ x by omega)
    exact ⟨i, List.mem_range.2 (by omega), decide_eq_true h⟩
theorem feN_pos (n : Nat) {c : Int → Int} (hs : ∀ x, x < 0 ∨ (n : Int) ≤ x → c x = 0) : 0 < feN n c ↔ ∃ x, c x < 0 := by
  unfold feN
  rw [Int.natCast_pos, List.countP_pos_iff]
  constructor
  · rintro ⟨i, _, h⟩
    exact ⟨_, of_decide_eq_true h⟩
  · rintro ⟨x, h⟩
    have hx : ¬ (x < 0 ∨ (n : Int) ≤ x) := fun k => by have := hs x k; omega
    obtain ⟨i, rfl⟩ := Int.eq_ofNat_of_zero_le (show 0 ≤ x by omega)
    exact ⟨i, List.mem_range.2 (by omega), decide_eq_true h⟩
theorem mo_pos {c : Int → Int} (hs : ∀ x, x < 0 ∨ 1000000 ≤ x → c x = 0) : 0 < mo c ↔ ∃ x, 0 < c x := moN_pos NV (fun x h => hs x (by have := NV_eq; omega))
theorem fe_pos {c : Int → Int} (hs : ∀ x, x < 0 ∨ 1000000 ≤ x → c x = 0) : 0 < fe c ↔ ∃ x, c x < 0 := feN_pos NV (fun x h => hs x (by have := NV_eq; omega))

/-- The scales' box. -/
abbrev SBox (W : World) (p : Nat) (vn vw : Value) (bp : Nat) (wt : Int) (bc : Nat) (m f : Int) : Prop :=
  W.heap[p]? = some (.cells #[vn, vw, .map (some bp), .int .i64 wt, .map (some bc), .int .i64 m, .int .i64 f] 70 (0, 0))

theorem sbox_facts {W : World} {p : Nat} {vn vw : Value} {bp : Nat} {wt : Int} {bc : Nat} {m f : Int} (h : SBox W p vn vw bp wt bc m f) :
    (W.cell? ⟨p, 0, none⟩ = some vn ∧ W.cell? ⟨p, 1, none⟩ = some vw ∧ W.cell? ⟨p, 2, none⟩ = some (.map (some bp)) ∧ W.cell? ⟨p, 3, none⟩ = some (.int .i64 wt) ∧ W.cell? ⟨p, 4, none⟩ = some (.map (some bc)) ∧ W.cell? ⟨p, 5, none⟩ = some (.int .i64 m) ∧ W.cell? ⟨p, 6, none⟩ = some (.int .i64 f)) ∧
    (W.frozen? ⟨p, 3, none⟩ = false ∧ W.frozen? ⟨p, 5, none⟩ = false ∧ W.frozen? ⟨p, 6, none⟩ = false) := by
  refine ⟨⟨?_, ?_, ?_, ?_, ?_, ?_, ?_⟩, ⟨?_, ?_, ?_⟩⟩ <;> simp [World.cell?, World.frozen?, h]

theorem only_setCell (W : World) (p o : Nat) (v : Value) : Only [p] W (W.setCell ⟨p, o, none⟩ v) :=
  ⟨rfl, rfl, rfl, by simp, fun k _ hn => Below.heap_setCell _ _ _ k (by simpa using hn)⟩

def upm (k m d : Int) : Int := if 0 < k then m + d else m
def upf (k f d : Int) : Int := if k < 0 then f + d else f

theorem wrap_small {a : Int} (h : -9223372036854775808 ≤ a) (h' : a ≤ 9223372036854775807) : wrap64 a = a := by
  simp only [wrap64]; omega

set_option maxHeartbeats 1000000 in
theorem note_any (p : Nat) (vn vw : Value) (bp : Nat) (wt : Int) (bc : Nat) (m f k d : Int) (W : World) (hbox : SBox W p vn vw bp wt bc m f) (hm : -100000000 ≤ m ∧ m ≤ 100000000) (hf : -100000000 ≤ f ∧ f ≤ 100000000) (hd : -1 ≤ d ∧ d ≤ 1) :
    Calls Try.prog 63 #[.pointer (some ⟨p, 0, none⟩), .int .i64 k, .int .i64 d] W fun e W' => (∃ v, e = .returned v) ∧ SBox W' p vn vw bp wt bc (upm k m d) (upf k f d) ∧ Only [p] W W' := by
  obtain ⟨⟨c0, c1, c2, c3, c4, c5, c6⟩, f3, f5, f6⟩ := sbox_facts hbox
  have hw1 : wrap64 (m + d) = m + d := wrap_small (by omega) (by omega)
  have hw2 : wrap64 (f + d) = f + d := wrap_small (by omega) (by omega)
  have HX : Hid (SBox W p vn vw bp wt bc m f) := hbox
  clear hbox
  by_cases h1 : 0 < k
  · have e1 : decide (0 < k) = true := decide_eq_true h1
    have HE : Hid (upm k m d = m + d ∧ upf k f d = f) := ⟨if_pos h1, if_neg (by omega)⟩
    go_enter Try.func63, Try.ntmps63
    go_wp2
    refine bodyPost_end (results_none rfl _ _ _) rfl ?_
    refine ⟨⟨_, rfl⟩, ?_, only_setCell _ _ _ _⟩
    rw [HE.out.1, HE.out.2]
    have := heap_setCell_same W p 5 _ 70 (.int .i64 (m + d)) HX.out
    simpa using this
  have e1 : decide (0 < k) = false := decide_eq_false h1
  by_cases h2 : k < 0
  · have e2 : decide (k < 0) = true := decide_eq_true h2
    have HE : Hid (upm k m d = m ∧ upf k f d = f + d) := ⟨if_neg h1, if_pos h2⟩
    go_enter Try.func63, Try.ntmps63
    go_wp2
    refine bodyPost_end (results_none rfl _ _ _) rfl ?_
    refine ⟨⟨_, rfl⟩, ?_, only_setCell _ _ _ _⟩
    rw [HE.out.1, HE.out.2]
    have := heap_setCell_same W p 6 _ 70 (.int .i64 (f + d)) HX.out
    simpa using this
  have e2 : decide (k < 0) = false := decide_eq_false h2
  have HE : Hid (upm k m d = m ∧ upf k f d = f) := ⟨if_neg h1, if_neg h2⟩
  go_enter Try.func63, Try.ntmps63
  go_wp2
  refine bodyPost_end (results_none rfl _ _ _) rfl ?_
  refine ⟨⟨_, rfl⟩, ?_, Only.refl _ _⟩
  rw [HE.out.1, HE.out.2]
  exact HX.out

end Go.Proofs.Ytcnodgjalkcgiaa
