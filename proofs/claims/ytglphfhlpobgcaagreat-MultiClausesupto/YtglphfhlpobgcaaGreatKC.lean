import Derived.Test.YtglphfhlpobgcaaGreatKB
import Derived.Shelf.Abstract
namespace Go.Proofs.YtglphfhlpobgcaaGreat
set_option maxRecDepth 100000
set_option maxHeartbeats 2000000
open Go.RowKit Go.Shelf
def badN (x : ByteArray) : Bool := decide (x.size = 0) || decide (64 < x.size) || decide (x = tru)
def badW (k : Int) : Bool := decide (k < 1) || decide (1000 < k)
theorem badN_any (x : ByteArray) (w : World) : Calls Tryz.prog 60 #[.string x] w fun e w' => e = .returned (.bool (badN x)) ∧ w' = w := by
 have H3 := eq_truB x
 by_cases h1 : x.size = 0
 ·have HP : Hid (badN x = true) := by show badN x = true; simp [badN, h1]
  have e1 : ((x.size : Int) == 0) = true := by simp [h1]
  clear h1 H3
  go_enter Tryz.func60, Tryz.ntmps60
  go_wp2
  go_ret
  exact ⟨ret_bool HP.out.symm, rfl⟩
 ·have e1 : ((x.size : Int) == 0) = false := by rw [beq_eq_false_iff_ne]; omega
  by_cases h2 : 64 < x.size
  ·have HP : Hid (badN x = true) := by show badN x = true; simp [badN, h2]
   have e2 : decide ((64 : Int) < (x.size : Int)) = true := decide_eq_true (by omega)
   clear h1 h2 H3
   go_enter Tryz.func60, Tryz.ntmps60
   go_wp2
   go_ret
   exact ⟨ret_bool HP.out.symm, rfl⟩
  ·have e2 : decide ((64 : Int) < (x.size : Int)) = false := decide_eq_false (by omega)
   have HP : Hid (badN x = (x.toList == [36, 116, 114, 117, 101])) := by show badN x = _; rw [H3]; simp [badN, h1, h2]
   clear h1 h2 H3
   go_enter Tryz.func60, Tryz.ntmps60
   go_wp2
   all_goals go_ret
   all_goals exact ⟨ret_bool (by rw [HP.out]), rfl⟩
theorem badW_any (k : Int) (w : World) : Calls Tryz.prog 62 #[.int .i64 k] w fun e w' => e = .returned (.bool (badW k)) ∧ w' = w := by
 have HP : Hid (badW k = (decide (k < 1) || decide (1000 < k))) := rfl
 by_cases h1 : k < 1
 ·have e1 : decide (k < 1) = true := decide_eq_true h1
  go_enter Tryz.func62, Tryz.ntmps62
  go_wp2
  go_ret
  exact ⟨ret_bool (by rw [HP.out, e1]; rfl), rfl⟩
 ·have e1 : decide (k < 1) = false := decide_eq_false h1
  go_enter Tryz.func62, Tryz.ntmps62
  go_wp2
  go_ret
  exact ⟨ret_bool (by rw [HP.out, e1]; rfl), rfl⟩
def firstI {α : Type} (P : α -> Bool) : List α -> Nat -> Int
 | [], _ => -1
 | x :: r, i => if P x then i else firstI P r (i + 1)
theorem firstI_any {α : Type} (P : α -> Bool) : ∀ (l : List α) (i : Nat), decide (firstI P l i ≥ 0) = l.any P
 | [], _ => rfl
 | x :: r, i => by
  unfold firstI
  cases h : P x
  ·simp only [Bool.false_eq_true, if_false, List.any_cons, h, Bool.false_or]
   exact firstI_any P r (i + 1)
  ·simp [h]
theorem firstI_drop {α : Type} (P : α -> Bool) (l : List α) : ∀ i, i <= l.length -> (∀ j (hj : j < l.length), j < i -> P l[j] = false) -> firstI P l 0 = firstI P (l.drop i) i := by
 intro i
 induction i with
 | zero => intro _ _; simp
 | succ i ih =>
  intro hi h
  rw [ih (by omega) (fun j hj hji => h j hj (by omega))]
  have e : l.drop i = l[i] :: l.drop (i + 1) := List.drop_eq_getElem_cons (by omega)
  rw [e]
  simp only [firstI, h i (by omega) (by omega), Bool.false_eq_true, if_false]
theorem eg26 : ∀ args w, (callFunc 60 args).run Tryz.prog w = .ok (.enter 60 args) w := enters_of Tryz.func60 (by kernel_rfl) rfl
theorem eg28 : ∀ args w, (callFunc 62 args).run Tryz.prog w = .ok (.enter 62 args) w := enters_of Tryz.func62 (by kernel_rfl) rfl
theorem indexN_any (l : List ByteArray) (v : Value) (w : World) (hl : RowAt .string w v l) :
  Calls Tryz.prog 102 #[v, .func (.func 60) #[] #[]] w fun e w' => e = .returned (.int .i64 (firstI badN l 0)) ∧ w' = w := by
 obtain ⟨a, c, rfl, hc, hm⟩ := hl.slice
 have eg := eg26
 have HL : Hid (RowAt .string w (.slice a l.length c) l) := hl
 clear hl
 go_enter Tryz.func102, Tryz.ntmps102
 go_wp2
 go_loopw [8] (fun vi wr => ∃ i : Nat, vi = .int .i64 i ∧ i <= l.length ∧ wr = w ∧ ∀ j (hj : j < l.length), j < i -> badN l[j] = false) (fun vi _ => l.length - (intOf vi).toNat)
 case atStart => exact ⟨0, rfl, Nat.zero_le _, rfl, fun j _ hj => absurd hj (by omega)⟩
 case round =>
  obtain ⟨i, rfl, hi, hwr, hall⟩ := hrel
  subst hwr
  have HA : Hid (∀ j (hj : j < l.length), j < i -> badN l[j] = false) := hall
  clear hall
  by_cases hlt : i < l.length
  ·obtain ⟨b, o, rfl, hbl, hcell⟩ := HL.out.nth hlt
   have hcall := badN_any l[i] wr
   cases hP : badN l[i]
   ·rw [hP] at hcall
    have HN : Hid (∀ j (hj : j < l.length), j < i + 1 -> badN l[j] = false) := fun j hj hji => by
     by_cases ej : j = i
     ·subst ej; exact hP
     ·exact HA.out j hj (by omega)
    clear hP
    go_wp2_with (first | (go_at_fn 60; refine hcall.mono ?_; rintro e w3 ⟨rfl, rfl⟩))
    go_roundw
    case rel => exact ⟨i + 1, by go_num, by omega, trivial, HN.out⟩
    case measure => simp [intOf]; omega
   ·rw [hP] at hcall
    have HG : Hid (firstI badN l 0 = i) := by
     show _ = _
     rw [firstI_drop badN l i hi HA.out, List.drop_eq_getElem_cons hlt, firstI, hP]
     rfl
    clear hP
    go_wp2_with (first | (go_at_fn 60; refine hcall.mono ?_; rintro e w3 ⟨rfl, rfl⟩))
    go_ret
    exact ⟨ret_i64 HG.out.symm, rfl⟩
  ·have HG : Hid (firstI badN l 0 = -1) := by
    show _ = _
    rw [firstI_drop badN l i hi HA.out, show i = l.length by omega, List.drop_length]
    rfl
   go_wp2
   go_ret
   exact ⟨ret_i64 HG.out.symm, rfl⟩
theorem indexW_any (l : List Int) (v : Value) (w : World) (hl : RowAt (.int .i64) w v l) :
  Calls Tryz.prog 103 #[v, .func (.func 62) #[] #[]] w fun e w' => e = .returned (.int .i64 (firstI badW l 0)) ∧ w' = w := by
 obtain ⟨a, c, rfl, hc, hm⟩ := hl.slice
 have eg := eg28
 have HL : Hid (RowAt (.int .i64) w (.slice a l.length c) l) := hl
 clear hl
 go_enter Tryz.func103, Tryz.ntmps103
 go_wp2
 go_loopw [8] (fun vi wr => ∃ i : Nat, vi = .int .i64 i ∧ i <= l.length ∧ wr = w ∧ ∀ j (hj : j < l.length), j < i -> badW l[j] = false) (fun vi _ => l.length - (intOf vi).toNat)
 case atStart => exact ⟨0, rfl, Nat.zero_le _, rfl, fun j _ hj => absurd hj (by omega)⟩
 case round =>
  obtain ⟨i, rfl, hi, hwr, hall⟩ := hrel
  subst hwr
  have HA : Hid (∀ j (hj : j < l.length), j < i -> badW l[j] = false) := hall
  clear hall
  by_cases hlt : i < l.length
  ·obtain ⟨b, o, rfl, hbl, hcell⟩ := HL.out.nth hlt
   have hcall := badW_any l[i] wr
   cases hP : badW l[i]
   ·rw [hP] at hcall
    have HN : Hid (∀ j (hj : j < l.length), j < i + 1 -> badW l[j] = false) := fun j hj hji => by
     by_cases ej : j = i
     ·subst ej; exact hP
     ·exact HA.out j hj (by omega)
    clear hP
    go_wp2_with (first | (go_at_fn 62; refine hcall.mono ?_; rintro e w3 ⟨rfl, rfl⟩))
    go_roundw
    case rel => exact ⟨i + 1, by go_num, by omega, trivial, HN.out⟩
    case measure => simp [intOf]; omega
   ·rw [hP] at hcall
    have HG : Hid (firstI badW l 0 = i) := by
     show _ = _
     rw [firstI_drop badW l i hi HA.out, List.drop_eq_getElem_cons hlt, firstI, hP]
     rfl
    clear hP
    go_wp2_with (first | (go_at_fn 62; refine hcall.mono ?_; rintro e w3 ⟨rfl, rfl⟩))
    go_ret
    exact ⟨ret_i64 HG.out.symm, rfl⟩
  ·have HG : Hid (firstI badW l 0 = -1) := by
    show _ = _
    rw [firstI_drop badW l i hi HA.out, show i = l.length by omega, List.drop_length]
    rfl
   go_wp2
   go_ret
   exact ⟨ret_i64 HG.out.symm, rfl⟩
theorem containsN_any (l : List ByteArray) (v : Value) (w : World) (hl : RowAt .string w v l) :
  Calls Tryz.prog 59 #[v, .func (.func 60) #[] #[]] w fun e w' => e = .returned (.bool (l.any badN)) ∧ w' = w := by
 have hi := indexN_any l v w hl
 obtain ⟨a, c, rfl, _⟩ := hl.slice
 have HE : Hid (decide (firstI badN l 0 ≥ 0) = l.any badN) := firstI_any badN l 0
 generalize firstI badN l 0 = z at *
 clear hl
 go_enter Tryz.func59, Tryz.ntmps59
 go_wp2_with (first | (go_at_call 102; refine hi.mono ?_; rintro e w3 ⟨rfl, rfl⟩))
 go_ret
 exact ⟨ret_bool (by rw [<- HE.out]), rfl⟩
theorem containsW_any (l : List Int) (v : Value) (w : World) (hl : RowAt (.int .i64) w v l) :
  Calls Tryz.prog 61 #[v, .func (.func 62) #[] #[]] w fun e w' => e = .returned (.bool (l.any badW)) ∧ w' = w := by
 have hi := indexW_any l v w hl
 obtain ⟨a, c, rfl, _⟩ := hl.slice
 have HE : Hid (decide (firstI badW l 0 ≥ 0) = l.any badW) := firstI_any badW l 0
 generalize firstI badW l 0 = z at *
 clear hl
 go_enter Tryz.func61, Tryz.ntmps61
 go_wp2_with (first | (go_at_call 103; refine hi.mono ?_; rintro e w3 ⟨rfl, rfl⟩))
 go_ret
 exact ⟨ret_bool (by rw [<- HE.out]), rfl⟩
end Go.Proofs.YtglphfhlpobgcaaGreat
