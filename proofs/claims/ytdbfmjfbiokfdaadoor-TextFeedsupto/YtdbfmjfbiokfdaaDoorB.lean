/-
  The walks of text.Valid and of the document's Valid, over whatever bytes.
-/
import Derived.Test.YtdbfmjfbiokfdaaDoorA
namespace Go.Proofs.YtdbfmjfbiokfdaaDoor
open Go.RowKit

/-- The slice value v holds the bytes xs. -/
def Bts (w : World) (v : Value) (xs : List Int) : Prop :=
  ∃ p c, v = .slice p xs.length c ∧ xs.length ≤ c ∧ c ≤ 9223372036854775807 ∧ (∀ x ∈ xs, 0 ≤ x ∧ x ≤ 255) ∧
    (0 < xs.length → ∃ b o, p = some ⟨b, o, none⟩ ∧ ∀ i, i < xs.length → w.cell? ⟨b, o + i, none⟩ = some (.int .u8 (xs.getD i 0)))

theorem Bts.tail {w : World} {b o c : Nat} {xs : List Int} {k : Nat} (hc : xs.length ≤ c) (hm : c ≤ 9223372036854775807) (hb : ∀ x ∈ xs, 0 ≤ x ∧ x ≤ 255)
    (hx : ∀ i, i < xs.length → w.cell? ⟨b, o + i, none⟩ = some (.int .u8 (xs.getD i 0))) (hk : k ≤ xs.length) (p : Option Addr) (hp : k < c → p = some ⟨b, o + k, none⟩) :
    Bts w (.slice p (xs.length - k) (c - k)) (xs.drop k) := by
  refine ⟨p, c - k, by simp, by simp; omega, by omega, fun x h => hb x (List.mem_of_mem_drop h), fun h => ?_⟩
  rw [List.length_drop] at h
  refine ⟨b, o + k, hp (by omega), fun i hi => ?_⟩
  rw [List.length_drop] at hi
  have := hx (k + i) (by omega)
  rw [Nat.add_assoc, this]
  simp

def lenOfV : Value → Nat | .slice _ n _ => n | _ => 0

set_option maxHeartbeats 1000000 in
theorem valid_any (v : Value) (xs : List Int) (w : World) (hv : Bts w v xs) :
    Calls Tryd.prog 8 #[v] w fun e w' => e = .returned (.bool (vld xs)) ∧ w' = w := by
  obtain ⟨p, c, rfl, hc, hm, hb, hx⟩ := hv
  go_enter Tryd.func8, Tryd.ntmps8
  go_wp2
  go_loop [0] (fun t => ∃ ys, Bts w t ys ∧ vld ys = vld xs) (fun t => lenOfV t)
  case atStart => exact ⟨xs, ⟨p, c, rfl, hc, hm, hb, hx⟩, rfl⟩
  case round =>
    obtain ⟨ys, ⟨q, d, rfl, hd, hdm, hby, hy⟩, hv⟩ := hrel
    have HV : Hid (vld ys = vld xs) := hv
    clear hv
    by_cases hpos : 0 < ys.length
    · obtain ⟨b, o, rfl, hcell⟩ := hy hpos
      have hs := chs_le ys hpos
      have h4 := chs_le4 ys
      have hst := vld_step ys hpos
      have HS : Hid (vld ys = if chs ys = 0 then false else vld (ys.drop (chs ys))) := hst
      clear hst
      have hne : (ys.getD 0 0) ∈ ys := by
        cases ys with
        | nil => simp at hpos
        | cons a r => simp
      by_cases hz : chs ys = 0
      · go_wp2_with (go_at_call 21; refine (charSize_any _ _ _ _ (ys.getD 0 0) (ys.getD 1 0) (ys.getD 2 0) (ys.getD 3 0) _ hpos (by omega) (hby _ hne).1 (hby _ hne).2 (hcell 0 hpos) (hcell 1) (hcell 2) (hcell 3)).mono ?_; rw [← chs_eq]; rintro e w' ⟨rfl, rfl⟩)
        go_ret
        refine ⟨ret_bool ?_, rfl⟩
        rw [← HV.out, HS.out, if_pos hz]
      · have hkp : 0 < chs ys := by omega
        go_wp2_with (go_at_call 21; refine (charSize_any _ _ _ _ (ys.getD 0 0) (ys.getD 1 0) (ys.getD 2 0) (ys.getD 3 0) _ hpos (by omega) (hby _ hne).1 (hby _ hne).2 (hcell 0 hpos) (hcell 1) (hcell 2) (hcell 3)).mono ?_; rw [← chs_eq]; rintro e w' ⟨rfl, rfl⟩)
        go_round
        case rel => exact ⟨ys.drop (chs ys), Bts.tail hd hdm hby hcell hs _ (fun h => by rw [if_neg (by omega)]), by rw [← HV.out, HS.out, if_neg hz]⟩
        case measure => simp [lenOfV]; omega
    · go_wp2
      go_ret
      refine ⟨ret_bool ?_, rfl⟩
      rw [← HV.out]
      have : ys = [] := by cases ys with | nil => rfl | cons a r => simp at hpos
      rw [this, vld_nil]

def innB (i n : Nat) (x lo hi : Int) : Bool := decide (i < n ∧ lo ≤ x ∧ x ≤ hi)

set_option maxHeartbeats 1000000 in
theorem in_any (b o n c i : Nat) (j x lo hi : Int) (w : World) (hj : j = i) (_hm : n ≤ 9223372036854775807) (h : i < n → w.cell? ⟨b, o + i, none⟩ = some (.int .u8 x)) :
    Calls Tryd.prog 30 #[.slice (some ⟨b, o, none⟩) n c, .int .i64 j, .int .u8 lo, .int .u8 hi] w fun e w' => e = .returned (.bool (innB i n x lo hi)) ∧ w' = w := by
  subst hj
  by_cases hl : i < n
  · have h' := h hl
    clear h
    go_enter Tryd.func30, Tryd.ntmps30
    go_wp2
    all_goals go_ret
    all_goals refine ⟨ret_bool ?_, rfl⟩
    all_goals simp_all [innB]
    all_goals omega
  · clear h
    go_enter Tryd.func30, Tryd.ntmps30
    go_wp2
    all_goals go_ret
    all_goals refine ⟨ret_bool ?_, rfl⟩
    all_goals simp_all [innB]
    all_goals omega

set_option maxHeartbeats 2000000 in
theorem long_any (b o n c i : Nat) (c0 c1 c2 c3 : Int) (w : World) (hn : i < n) (hm : n ≤ 140737488355328) (b0 : 0 ≤ c0) (b1 : c0 ≤ 255)
    (h0 : w.cell? ⟨b, o + i, none⟩ = some (.int .u8 c0)) (h1 : i + 1 < n → w.cell? ⟨b, o + (i + 1), none⟩ = some (.int .u8 c1)) (h2 : i + 2 < n → w.cell? ⟨b, o + (i + 2), none⟩ = some (.int .u8 c2)) (h3 : i + 3 < n → w.cell? ⟨b, o + (i + 3), none⟩ = some (.int .u8 c3)) :
    Calls Tryd.prog 22 #[.slice (some ⟨b, o, none⟩) n c, .int .i64 i] w fun e w' => e = .returned (.int .i64 (chsN (n - i) c0 c1 c2 c3)) ∧ w' = w := by
  go_enter Tryd.func22, Tryd.ntmps22
  go_wp2_with (go_at_call 30; first | (refine (in_any _ _ _ _ (i + 1) _ c1 _ _ _ (by omega) (by omega) h1).mono ?_; rintro e w' ⟨rfl, rfl⟩) | (refine (in_any _ _ _ _ (i + 2) _ c2 _ _ _ (by omega) (by omega) h2).mono ?_; rintro e w' ⟨rfl, rfl⟩) | (refine (in_any _ _ _ _ (i + 3) _ c3 _ _ _ (by omega) (by omega) h3).mono ?_; rintro e w' ⟨rfl, rfl⟩))
  all_goals go_ret
  all_goals refine ⟨ret_i64 ?_, rfl⟩
  all_goals clear h0 h1 h2 h3
  all_goals (try simp only [innB, decide_eq_true_eq, decide_eq_false_iff_not, beq_iff_eq, beq_eq_false_iff_ne, ne_eq] at *)
  all_goals unfold chsN
  all_goals (repeat' split)
  all_goals omega

theorem chs_drop (l : List Int) (i : Nat) : chs (l.drop i) = chsN (l.length - i) (l.getD i 0) (l.getD (i + 1) 0) (l.getD (i + 2) 0) (l.getD (i + 3) 0) := by
  rw [chs_eq]
  simp [List.getD_eq_getElem?_getD, List.getElem?_drop]

theorem long_xs (b o c i : Nat) (xs : List Int) (k : Nat) (w : World) (hk : chs (xs.drop i) = k) (hn : i < xs.length) (hm : xs.length ≤ 140737488355328) (hb : ∀ x ∈ xs, 0 ≤ x ∧ x ≤ 255)
    (hcell : ∀ i, i < xs.length → w.cell? ⟨b, o + i, none⟩ = some (.int .u8 (xs.getD i 0))) :
    Calls Tryd.prog 22 #[.slice (some ⟨b, o, none⟩) xs.length c, .int .i64 i] w fun e w' => e = .returned (.int .i64 k) ∧ w' = w := by
  have hne : (xs.getD i 0) ∈ xs := by
    rw [List.getD_eq_getElem?_getD, List.getElem?_eq_getElem hn]; simp
  rw [← hk, chs_drop]
  exact long_any _ _ _ _ i (xs.getD i 0) (xs.getD (i + 1) 0) (xs.getD (i + 2) 0) (xs.getD (i + 3) 0) _ hn hm (hb _ hne).1 (hb _ hne).2 (hcell i hn) (hcell (i + 1)) (hcell (i + 2)) (hcell (i + 3))

set_option maxHeartbeats 1000000 in
theorem refValid_any (v : Value) (xs : List Int) (w : World) (hv : Bts w v xs) (hmx : xs.length ≤ 140737488355328) :
    Calls Tryd.prog 9 #[v] w fun e w' => e = .returned (.bool (vld xs)) ∧ w' = w := by
  obtain ⟨p, c, rfl, hc, hm, hb, hx⟩ := hv
  go_enter Tryd.func9, Tryd.ntmps9
  go_wp2
  go_loop [3] (fun t => ∃ i : Nat, i ≤ xs.length ∧ t = .int .i64 i ∧ vld (xs.drop i) = vld xs) (fun t => xs.length - (intOf t).toNat)
  case atStart => exact ⟨0, by omega, rfl, by simp⟩
  case round =>
    obtain ⟨i, hi, rfl, hv⟩ := hrel
    have HV : Hid (vld (xs.drop i) = vld xs) := hv
    clear hv
    by_cases hpos : i < xs.length
    · obtain ⟨b, o, rfl, hcell⟩ := hx (by omega)
      have hdl : 0 < (xs.drop i).length := by rw [List.length_drop]; omega
      have hs := chs_le (xs.drop i) hdl
      rw [List.length_drop] at hs
      have h4 := chs_le4 (xs.drop i)
      have HS : Hid (vld (xs.drop i) = if chs (xs.drop i) = 0 then false else vld ((xs.drop i).drop (chs (xs.drop i)))) := vld_step (xs.drop i) hdl
      obtain ⟨k, hk⟩ : ∃ k, chs (xs.drop i) = k := ⟨_, rfl⟩
      rw [hk] at hs h4 HS
      have HK : Hid (chs (xs.drop i) = k) := hk
      clear hk
      by_cases hz : k = 0
      · subst hz
        go_wp2_with (go_at_call 22; refine (long_xs _ _ _ i xs _ _ HK.out hpos hmx hb hcell).mono ?_; rintro e w' ⟨rfl, rfl⟩)
        go_ret
        refine ⟨ret_bool ?_, rfl⟩
        rw [← HV.out, HS.out]; simp
      · have hkp : 0 < k := by omega
        go_wp2_with (go_at_call 22; refine (long_xs _ _ _ i xs _ _ HK.out hpos hmx hb hcell).mono ?_; rintro e w' ⟨rfl, rfl⟩)
        go_round
        case rel => exact ⟨i + k, by omega, by go_num, by rw [← HV.out, HS.out, if_neg hz, List.drop_drop]⟩
        case measure => simp [intOf]; omega
    · go_wp2
      go_ret
      refine ⟨ret_bool ?_, rfl⟩
      rw [← HV.out, List.drop_of_length_le (by omega), vld_nil]

end Go.Proofs.YtdbfmjfbiokfdaaDoor
