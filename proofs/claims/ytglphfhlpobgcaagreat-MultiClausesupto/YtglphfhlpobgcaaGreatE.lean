import Derived.Test.YtglphfhlpobgcaaGreatC
import Derived.Lib.Bytealg
import Derived.Lib.Small
namespace Go.Proofs.YtglphfhlpobgcaaGreat
open Go.RowKit
abbrev cI (x y : Int) : Int := Lib.compareInt x y
abbrev cB (x y : ByteArray) : Int := Lib.compareBytes x.data.toList y.data.toList
structure Ord3 {α : Type} (f : α -> α -> Int) (P : α -> Prop) : Prop where
 rng : ∀ x y, P x -> f x y = -1 ∨ f x y = 0 ∨ f x y = 1
 anti : ∀ x y, P x -> f x y = - f y x
 zero : ∀ x y, P x -> (f x y = 0 ↔ x = y)
 trans : ∀ x y z, P x -> f x y <= 0 -> f y z <= 0 -> f x z <= 0
theorem cBL_ord : Ord3 Lib.compareBytes (fun _ => True) := by
 have rng : ∀ x y, Lib.compareBytes x y = -1 ∨ Lib.compareBytes x y = 0 ∨ Lib.compareBytes x y = 1 := by
  intro x
  induction x with
  | nil => intro y; cases y <;> simp [Lib.compareBytes]
  | cons a r ih =>
   intro y
   cases y with
   | nil => simp [Lib.compareBytes]
   | cons b s =>
    unfold Lib.compareBytes
    split
    ·simp
    ·split
     ·simp
     ·exact ih s
 have zero : ∀ x y, Lib.compareBytes x y = 0 ↔ x = y := by
  intro x
  induction x with
  | nil => intro y; cases y <;> simp [Lib.compareBytes]
  | cons a r ih =>
   intro y
   cases y with
   | nil => simp [Lib.compareBytes]
   | cons b s =>
    unfold Lib.compareBytes
    split
    ·rename_i h
     refine ⟨fun e => by omega, fun e => ?_⟩
     cases e
     exact absurd h (UInt8.lt_irrefl a)
    ·split
     ·rename_i h
      refine ⟨fun e => by omega, fun e => ?_⟩
      cases e
      exact absurd h (UInt8.lt_irrefl a)
     ·rename_i h1 h2
      have hab : a = b := by
       rw [UInt8.lt_iff_toNat_lt] at h1 h2
       exact UInt8.toNat_inj.1 (by omega)
      rw [ih s, hab]
      simp
 have anti : ∀ x y, Lib.compareBytes x y = - Lib.compareBytes y x := by
  intro x
  induction x with
  | nil => intro y; cases y <;> simp [Lib.compareBytes]
  | cons a r ih =>
   intro y
   cases y with
   | nil => simp [Lib.compareBytes]
   | cons b s =>
    unfold Lib.compareBytes
    rw [ih s]
    simp only [UInt8.lt_iff_toNat_lt]
    repeat' split
    all_goals omega
 refine ⟨fun x y _ => rng x y, fun x y _ => anti x y, fun x y _ => zero x y, fun x y z _ => ?_⟩
 induction x generalizing y z with
 | nil => cases y <;> cases z <;> simp [Lib.compareBytes]
 | cons a r ih =>
  cases y with
  | nil => simp [Lib.compareBytes]
  | cons b s =>
   cases z with
   | nil => simp [Lib.compareBytes]
   | cons c t =>
    unfold Lib.compareBytes
    simp only [UInt8.lt_iff_toNat_lt]
    have := ih s t
    repeat' split
    all_goals first | omega | (intros; first | omega | (exact this (by assumption) (by assumption)))
theorem cB_ord : Ord3 cB (fun _ => True) where
 rng x y h := cBL_ord.rng _ _ h
 anti x y h := cBL_ord.anti _ _ h
 zero x y h := by
  rw [cBL_ord.zero _ _ h]
  constructor
  ·intro e
   cases x
   cases y
   exact congrArg ByteArray.mk (Array.toList_inj.1 e)
  ·rintro rfl
   rfl
 trans x y z h := cBL_ord.trans _ _ _ h
end Go.Proofs.YtglphfhlpobgcaaGreat
