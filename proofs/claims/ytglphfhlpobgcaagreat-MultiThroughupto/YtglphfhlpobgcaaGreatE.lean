/-
  The order of terms: plain mathematics.
-/
import Derived.Test.YtglphfhlpobgcaaGreatC
import Derived.Lib.Bytealg
import Derived.Lib.Small
namespace Go.Proofs.YtglphfhlpobgcaaGreat
open Go.RowKit

abbrev cI (x y : Int) : Int := Lib.compareInt x y
abbrev cB (x y : ByteArray) : Int := Lib.compareBytes x.data.toList y.data.toList

/-- What holds of a comparison that is an order. -/
structure Ord3 {α : Type} (f : α → α → Int) (P : α → Prop) : Prop where
  rng : ∀ x y, P x → f x y = -1 ∨ f x y = 0 ∨ f x y = 1
  anti : ∀ x y, P x → f x y = - f y x
  zero : ∀ x y, P x → (f x y = 0 ↔ x = y)
  trans : ∀ x y z, P x → f x y ≤ 0 → f y z ≤ 0 → f x z ≤ 0

theorem cI_ord : Ord3 cI (fun _ => True) where
  rng x y _ := by unfold cI Lib.compareInt; split <;> (try split) <;> simp
  anti x y _ := by unfold cI Lib.compareInt; repeat' split
                   all_goals omega
  zero x y _ := by unfold cI Lib.compareInt; repeat' split
                   all_goals first | omega | (constructor <;> intro h <;> omega)
  trans x y z _ := by
    unfold cI Lib.compareInt
    repeat' split
    all_goals omega

theorem cBL_ord : Ord3 Lib.compareBytes (fun _ => True) := by
  have rng : ∀ x y, Lib.compareBytes x y = -1 ∨ Lib.compareBytes x y = 0 ∨ Lib.compareBytes x y = 1 := by
    intro x
    induction x with
    | nil => intro y; cases y <;> simp [Lib.compareBytes]
    | cons a r ih =>
      intro y
      cases y with
      | nil => simp [Lib.compareBytes]
      | cons b s =>
        unfold Lib.compareBytes
        split
        · simp
        · split
          · simp
          · exact ih s
  have zero : ∀ x y, Lib.compareBytes x y = 0 ↔ x = y := by
    intro x
    induction x with
    | nil => intro y; cases y <;> simp [Lib.compareBytes]
    | cons a r ih =>
      intro y
      cases y with
      | nil => simp [Lib.compareBytes]
      | cons b s =>
        unfold Lib.compareBytes
        split
        · rename_i h
          refine ⟨fun e => by omega, fun e => ?_⟩
          cases e
          exact absurd h (UInt8.lt_irrefl a)
        · split
          · rename_i h
            refine ⟨fun e => by omega, fun e => ?_⟩
            cases e
            exact absurd h (UInt8.lt_irrefl a)
          · rename_i h1 h2
            have hab : a = b := by
              rw [UInt8.lt_iff_toNat_lt] at h1 h2
              exact UInt8.toNat_inj.1 (by omega)
            rw [ih s, hab]
            simp
  have anti : ∀ x y, Lib.compareBytes x y = - Lib.compareBytes y x := by
    intro x
    induction x with
    | nil => intro y; cases y <;> simp [Lib.compareBytes]
    | cons a r ih =>
      intro y
      cases y with
      | nil => simp [Lib.compareBytes]
      | cons b s =>
        unfold Lib.compareBytes
        rw [ih s]
        simp only [UInt8.lt_iff_toNat_lt]
        repeat' split
        all_goals omega
  refine ⟨fun x y _ => rng x y, fun x y _ => anti x y, fun x y _ => zero x y, fun x y z _ => ?_⟩
  induction x generalizing y z with
  | nil => cases y <;> cases z <;> simp [Lib.compareBytes]
  | cons a r ih =>
    cases y with
    | nil => simp [Lib.compareBytes]
    | cons b s =>
      cases z with
      | nil => simp [Lib.compareBytes]
      | cons c t =>
        unfold Lib.compareBytes
        simp only [UInt8.lt_iff_toNat_lt]
        have := ih s t
        repeat' split
        all_goals first | omega | (intros; first | omega | (exact this (by assumption) (by assumption)))

theorem cB_ord : Ord3 cB (fun _ => True) where
  rng x y h := cBL_ord.rng _ _ h
  anti x y h := cBL_ord.anti _ _ h
  zero x y h := by
    rw [cBL_ord.zero _ _ h]
    constructor
    · intro e
      cases x
      cases y
      exact congrArg ByteArray.mk (Array.toList_inj.1 e)
    · rintro rfl
      rfl
  trans x y z h := cBL_ord.trans _ _ _ h

/-- The first that is not 0. -/
def or2 (a b : Int) : Int := if a = 0 then b else a

/-- What term.Cmp answers. -/
def T.cmp : T → T → Int
  | .mk v fn args, y => or2 (cB fn y.fn) (or2 (cI v y.v) (or2 (cI args.length y.args.length) (cmps args y.args)))
where cmps : List T → List T → Int
  | [], [] => 0
  | [], _ :: _ => -1
  | _ :: _, [] => 1
  | a :: r, b :: s => or2 (T.cmp a b) (cmps r s)

theorem T.cmp_eq (x y : T) : T.cmp x y = or2 (cB x.fn y.fn) (or2 (cI x.v y.v) (or2 (cI x.args.length y.args.length) (T.cmp.cmps x.args y.args))) := by
  cases x
  simp only [T.cmp, T.fn, T.v, T.args]

theorem cmp_both (x : T) : (∀ y, (T.cmp x y = -1 ∨ T.cmp x y = 0 ∨ T.cmp x y = 1) ∧ T.cmp x y = - T.cmp y x ∧ (T.cmp x y = 0 ↔ x = y)) := by
  induction x using T.ind with
  | _ x ih =>
    have hl : ∀ (l m : List T), (∀ a ∈ l, a ∈ x.args) → (T.cmp.cmps l m = -1 ∨ T.cmp.cmps l m = 0 ∨ T.cmp.cmps l m = 1) ∧ T.cmp.cmps l m = - T.cmp.cmps m l ∧ (T.cmp.cmps l m = 0 ↔ l = m) := by
      intro l
      induction l with
      | nil => intro m _; cases m <;> simp [T.cmp.cmps]
      | cons a r ihl =>
        intro m hm
        cases m with
        | nil => simp [T.cmp.cmps]
        | cons b s =>
          obtain ⟨h1, h2, h3⟩ := ih a (hm a (by simp)) b
          obtain ⟨g1, g2, g3⟩ := ihl s (fun c hc => hm c (by simp [hc]))
          simp only [T.cmp.cmps, or2, List.cons.injEq]
          rw [← h3, ← g3]
          refine ⟨?_, ?_, ?_⟩
          · split <;> assumption
          · split
            · rw [if_pos (by omega), g2]
            · rw [if_neg (by omega), h2]
          · split
            · rename_i h0
              exact ⟨fun h => ⟨h0, h⟩, fun h => h.2⟩
            · rename_i h0
              exact ⟨fun h => absurd h h0, fun h => absurd h.1 h0⟩
    intro y
    obtain ⟨h1, h2, h3⟩ := hl x.args y.args (fun _ h => h)
    have a1 := cB_ord.rng x.fn y.fn trivial
    have a2 := cB_ord.anti x.fn y.fn trivial
    have a3 := cB_ord.zero x.fn y.fn trivial
    have b1 := cI_ord.rng x.v y.v trivial
    have b2 := cI_ord.anti x.v y.v trivial
    have b3 := cI_ord.zero x.v y.v trivial
    have c1 := cI_ord.rng x.args.length y.args.length trivial
    have c2 := cI_ord.anti x.args.length y.args.length trivial
    have c3 := cI_ord.zero x.args.length y.args.length trivial
    rw [x.cmp_eq y, y.cmp_eq x]
    have e : x = y ↔ (x.fn = y.fn ∧ x.v = y.v ∧ x.args = y.args) := ⟨fun e => by rw [e]; exact ⟨rfl, rfl, rfl⟩, fun h => same_ext h.2.1 h.1 h.2.2⟩
    rw [e, ← a3, ← b3, ← h3]
    have d : T.cmp.cmps x.args y.args = 0 → cI x.args.length y.args.length = 0 := fun h => by
      rw [c3, h3.1 h]
    generalize cB x.fn y.fn = p at *
    generalize cB y.fn x.fn = p' at *
    generalize cI x.v y.v = q at *
    generalize cI y.v x.v = q' at *
    generalize cI x.args.length y.args.length = r at *
    generalize cI y.args.length x.args.length = r' at *
    generalize T.cmp.cmps x.args y.args = s at *
    generalize T.cmp.cmps y.args x.args = s' at *
    clear a3 b3 c3 h3 e hl ih
    unfold or2
    repeat' split
    all_goals first | omega | (refine ⟨by omega, by omega, ?_⟩; constructor <;> intro h <;> first | omega | (refine ⟨by omega, by omega, by omega⟩))

theorem or2_trans {a b c a' b' c' : Int} (ha : a ≤ 0 → b ≤ 0 → c ≤ 0) (hz : a = 0 → c = b) (hz' : b = 0 → c = a) (n1 : c = 0 → a = - b) (r : a' ≤ 0 → b' ≤ 0 → c' ≤ 0) : or2 a a' ≤ 0 → or2 b b' ≤ 0 → or2 c c' ≤ 0 := by
  unfold or2
  repeat' split
  all_goals omega

theorem cmp_rng (x y : T) : T.cmp x y = -1 ∨ T.cmp x y = 0 ∨ T.cmp x y = 1 := (cmp_both x y).1
theorem cmp_anti (x y : T) : T.cmp x y = - T.cmp y x := (cmp_both x y).2.1
theorem cmp_zero (x y : T) : T.cmp x y = 0 ↔ x = y := (cmp_both x y).2.2

theorem cmp_trans (x : T) : ∀ y z, T.cmp x y ≤ 0 → T.cmp y z ≤ 0 → T.cmp x z ≤ 0 := by
  induction x using T.ind with
  | _ x ih =>
    have hl : ∀ (l m n : List T), (∀ a ∈ l, a ∈ x.args) → T.cmp.cmps l m ≤ 0 → T.cmp.cmps m n ≤ 0 → T.cmp.cmps l n ≤ 0 := by
      intro l
      induction l with
      | nil => intro m n _; cases m <;> cases n <;> simp [T.cmp.cmps]
      | cons a r ihl =>
        intro m n hm
        cases m with
        | nil => simp [T.cmp.cmps]
        | cons b s =>
          cases n with
          | nil => simp [T.cmp.cmps]
          | cons c t =>
            refine or2_trans (ih a (hm a (by simp)) b c) (fun h => ?_) (fun h => ?_) (fun h => ?_) (ihl s t (fun c hc => hm c (by simp [hc])))
            · rw [(cmp_zero a b).1 h]
            · rw [(cmp_zero b c).1 h]
            · rw [(cmp_zero a c).1 h]
              exact cmp_anti c b
    intro y z
    rw [x.cmp_eq y, y.cmp_eq z, x.cmp_eq z]
    refine or2_trans (cB_ord.trans _ _ _ trivial) (fun h => ?_) (fun h => ?_) (fun h => ?_) (or2_trans (cI_ord.trans _ _ _ trivial) (fun h => ?_) (fun h => ?_) (fun h => ?_) (or2_trans (cI_ord.trans _ _ _ trivial) (fun h => ?_) (fun h => ?_) (fun h => ?_) (hl _ _ _ (fun _ h => h))))
    · rw [(cB_ord.zero _ _ trivial).1 h]
    · rw [(cB_ord.zero _ _ trivial).1 h]
    · rw [(cB_ord.zero _ _ trivial).1 h]
      exact cB_ord.anti _ _ trivial
    · rw [(cI_ord.zero _ _ trivial).1 h]
    · rw [(cI_ord.zero _ _ trivial).1 h]
    · rw [(cI_ord.zero _ _ trivial).1 h]
      exact cI_ord.anti _ _ trivial
    · rw [(cI_ord.zero _ _ trivial).1 h]
    · rw [(cI_ord.zero _ _ trivial).1 h]
    · rw [(cI_ord.zero _ _ trivial).1 h]
      exact cI_ord.anti _ _ trivial

/-- What the document's Cmp answers. -/
def T.rcmp : T → T → Int
  | .mk v fn args, y => if fn.size = 0 then (if y.fn.size = 0 then cI v y.v else -1) else if y.fn.size = 0 then 1 else or2 (cB fn y.fn) (or2 (cI args.length y.args.length) (rcmps args y.args))
where rcmps : List T → List T → Int
  | a :: r, b :: s => or2 (T.rcmp a b) (rcmps r s)
  | _, _ => 0

theorem T.rcmp_eq (x y : T) : T.rcmp x y = if x.fn.size = 0 then (if y.fn.size = 0 then cI x.v y.v else -1) else if y.fn.size = 0 then 1 else or2 (cB x.fn y.fn) (or2 (cI x.args.length y.args.length) (T.rcmp.rcmps x.args y.args)) := by
  cases x with
  | mk v fn args =>
    show (if fn.size = 0 then (if y.fn.size = 0 then cI v y.v else -1) else if y.fn.size = 0 then 1 else or2 (cB fn y.fn) (or2 (cI args.length y.args.length) (T.rcmp.rcmps args y.args))) = if fn.size = 0 then (if y.fn.size = 0 then cI v y.v else -1) else if y.fn.size = 0 then 1 else or2 (cB fn y.fn) (or2 (cI args.length y.args.length) (T.rcmp.rcmps args y.args))
    rfl

theorem cB_nil {s : ByteArray} (h : s.size = 0) (t : ByteArray) (h' : t.size ≠ 0) : cB s t = -1 ∧ cB t s = 1 := by
  have e := ba_empty.1 h
  subst e
  cases t with
  | mk d =>
    cases d with
    | mk l =>
      cases l with
      | nil => exact absurd rfl h'
      | cons a r => exact ⟨rfl, rfl⟩

/-- Of terms of right shape both answer the same. -/
theorem rcmp_same (x : T) : ∀ y, x.shape = true → y.shape = true → T.rcmp x y = T.cmp x y := by
  induction x using T.ind with
  | _ x ih =>
    intro y hx hy
    rw [x.shape_eq] at hx
    rw [y.shape_eq] at hy
    rw [x.rcmp_eq, x.cmp_eq]
    by_cases h1 : x.fn.size = 0
    · rw [if_pos h1] at hx ⊢
      by_cases h2 : y.fn.size = 0
      · rw [if_pos h2] at hy ⊢
        have e : x.fn = y.fn := by rw [ba_empty.1 h1, ba_empty.1 h2]
        have hz := (cB_ord.zero x.fn y.fn trivial).2 e
        simp only [Bool.and_eq_true, decide_eq_true_eq] at hx hy
        have lx : x.args = [] := List.length_eq_zero_iff.1 hx.2
        have ly : y.args = [] := List.length_eq_zero_iff.1 hy.2
        rw [hz, lx, ly]
        unfold or2
        simp [T.cmp.cmps, cI, Lib.compareInt]
      · rw [if_neg h2, (cB_nil h1 _ h2).1]
        rfl
    · rw [if_neg h1] at hx ⊢
      by_cases h2 : y.fn.size = 0
      · rw [if_pos h2, (cB_nil h2 _ h1).2]
        rfl
      · rw [if_neg h2] at hy ⊢
        simp only [Bool.and_eq_true, decide_eq_true_eq, List.all_eq_true] at hx hy
        have hv : cI x.v y.v = 0 := (cI_ord.zero _ _ trivial).2 (by rw [hx.1.1.1, hy.1.1.1])
        have hl : ∀ (l m : List T), (∀ a ∈ l, a ∈ x.args) → (∀ a ∈ m, a ∈ y.args) → l.length = m.length → T.rcmp.rcmps l m = T.cmp.cmps l m := by
          intro l
          induction l with
          | nil => intro m _ _ hm; cases m <;> simp_all [T.cmp.cmps, T.rcmp.rcmps]
          | cons a r ihl =>
            intro m h3 h4 hm
            cases m with
            | nil => simp at hm
            | cons b s =>
              simp only [T.cmp.cmps, T.rcmp.rcmps]
              rw [ihl s (fun c hc => h3 c (by simp [hc])) (fun c hc => h4 c (by simp [hc])) (by simpa using hm), ih a (h3 a (by simp)) b (hx.2 a (h3 a (by simp))) (hy.2 b (h4 b (by simp)))]
        rw [hv]
        show _ = or2 _ (or2 (cI _ _) _)
        by_cases hlen : x.args.length = y.args.length
        · rw [hl _ _ (fun _ h => h) (fun _ h => h) hlen]
        · have : cI x.args.length y.args.length ≠ 0 := fun h => hlen (by have := (cI_ord.zero _ _ trivial).1 h; omega)
          unfold or2
          rw [if_neg this, if_neg this]

end Go.Proofs.YtglphfhlpobgcaaGreat
