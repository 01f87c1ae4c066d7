/-
  The document's Show; quoted names: what stands between quotes; closing, unquoted.
-/
import Derived.Test.YtkfbjkopmgeklaaE
namespace Go.Proofs.Ytkfbjkopmgeklaa
open Go.RowKit Go.Shelf

theorem add_one (u s : ByteArray) (i : Nat) (h : i < s.size) : (u ++ s.extract i (i + 1)).data.toList = u.data.toList ++ [s[i]] := by
  have : (s.extract i (i + 1)).data.toList = [s[i]] := by
    rw [Lib.extract_data, drop_cons s i h]
    simp
  rw [← this]
  simp

theorem app_one (u : ByteArray) (c : UInt8) : (u ++ (⟨#[c]⟩ : ByteArray)).data.toList = u.data.toList ++ [c] := by
  simp

set_option maxHeartbeats 2000000 in
set_option maxRecDepth 100000 in
theorem rshow_any (s : ByteArray) (w : World) (hs : s.size ≤ 2097152) : Calls Try.prog 18 #[.string s] w fun e w' => e = .returned (.string (ofL (shL s.data.toList))) ∧ w' = w := by
  have hc : ∀ W, Calls Try.prog 12 #[.string s] W fun e w' => e = .returned (.bool (plB s.data.toList)) ∧ w' = W := fun W => rplain_any s W (by omega)
  cases hb : plB s.data.toList
  · rw [hb] at hc
    have HS : Hid (shL s.data.toList = 39 :: (escL s.data.toList ++ [39])) := by show _ = _; unfold shL; rw [hb]; rfl
    have HL : Hid ((escL s.data.toList).length ≤ 2 * s.size) := by have := escL_len s.data.toList; rwa [size_len] at this
    clear hb
    go_enter Try.func18, Try.ntmps18
    go_wp2_with (first | (go_at_call 12; refine (hc _).mono ?_; rintro e W0 ⟨rfl, rfl⟩))
    go_loopw [3, 4] (fun vu vi wr => ∃ (u : ByteArray) (i : Nat), vu = .string u ∧ vi = .int .i64 i ∧ i ≤ s.size ∧ wr = W0 ∧ Hid (u.data.toList ++ escL (s.data.toList.drop i) = 39 :: escL s.data.toList)) (fun _ vi _ => s.size - (intOf vi).toNat)
    case atStart => exact ⟨⟨#[39]⟩, 0, rfl, rfl, Nat.zero_le _, rfl, by show _ = _; simp⟩
    case round =>
      obtain ⟨u, i, rfl, rfl, hi, rfl, HI⟩ := hrel
      have hu : u.size ≤ 2 * s.size + 1 := by have := congrArg List.length HI.out; simp [] at this; have := HL.out; omega
      by_cases hlt : i < s.size
      · have HA : Hid (u.data.toList ++ (esc s[i] ++ escL (s.data.toList.drop (i + 1))) = 39 :: escL s.data.toList) := by show _ = _; rw [← HI.out, drop_cons s i hlt, escL_cons]
        have HO : Hid (∀ v : ByteArray, (v ++ s.extract i (i + 1)).data.toList = v.data.toList ++ [s[i]]) := fun v => add_one v s i hlt
        cases hw : esB s[i].toNat
        · have HW : Hid (esc s[i] = [s[i]]) := by show _ = _; unfold esc; rw [hw]; rfl
          have g1 : ((s[i].toNat : Int) == 39) = false := by unfold esB at hw; simp at hw; simpa using hw.1
          have g2 : ((s[i].toNat : Int) == 92) = false := by unfold esB at hw; simp at hw; simpa using hw.2
          clear hw
          go_wp2
          go_roundw
          case rel => exact ⟨_, i + 1, rfl, by go_num, by omega, by simp, by show _ = _; rw [← HA.out, HW.out, HO.out]; simp⟩
          case measure => simp [intOf]; omega
        · have HW : Hid (esc s[i] = [92, s[i]]) := by show _ = _; unfold esc; rw [hw]; rfl
          by_cases g1 : (s[i].toNat : Int) = 39
          · clear hw
            go_wp2
            go_roundw
            case rel => exact ⟨_, i + 1, rfl, by go_num, by omega, by simp, by show _ = _; rw [← HA.out, HW.out, HO.out]; simp⟩
            case measure => simp [intOf]; omega
          · have g2 : (s[i].toNat : Int) = 92 := by unfold esB at hw; simp [g1] at hw; exact hw
            clear hw
            go_wp2
            go_roundw
            case rel => exact ⟨_, i + 1, rfl, by go_num, by omega, by simp, by show _ = _; rw [← HA.out, HW.out, HO.out]; simp⟩
            case measure => simp [intOf]; omega
      · have HA : Hid (u.data.toList = 39 :: escL s.data.toList) := by show _ = _; rw [← HI.out, drop_end s i (by omega)]; simp [escL]
        go_wp2
        go_ret
        refine ⟨ret_str ?_, by simp⟩
        refine ofL_of ?_
        rw [HS.out, app_one, HA.out]; rfl
  · rw [hb] at hc
    have HS : Hid (shL s.data.toList = s.data.toList) := by show _ = _; unfold shL; rw [hb]; rfl
    clear hb
    go_enter Try.func18, Try.ntmps18
    go_wp2_with (first | (go_at_call 12; refine (hc _).mono ?_; rintro e w' ⟨rfl, rfl⟩))
    go_ret
    refine ⟨ret_str ?_, rfl⟩
    rw [HS.out, ofL_self]

/-- What stands behind an opening quote: the name, and how many bytes it takes with the closing one. -/
def qs : List UInt8 → Option (List UInt8 × Nat)
  | [] => none
  | c :: r =>
    if c = 39 then some ([], 1)
    else if prB c.toNat = false then none
    else if c = 92 then
      match r with
      | [] => none
      | d :: r' => if esB d.toNat then (qs r').map fun p => (d :: p.1, p.2 + 2) else none
    else (qs r).map fun p => (c :: p.1, p.2 + 1)

theorem qs_nil : qs [] = none := by unfold qs; rfl
theorem qs_end (r : List UInt8) : qs (39 :: r) = some ([], 1) := by unfold qs; simp
theorem qs_bad {c : UInt8} (r : List UInt8) (h : c ≠ 39) (hp : prB c.toNat = false) : qs (c :: r) = none := by unfold qs; simp [h, hp]
theorem qs_one {c : UInt8} (r : List UInt8) (h : c ≠ 39) (hp : prB c.toNat = true) (h2 : c ≠ 92) : qs (c :: r) = (qs r).map fun p => (c :: p.1, p.2 + 1) := by
  conv => lhs; unfold qs
  simp [h, hp, h2]
theorem qs_esc_nil : qs [92] = none := by
  unfold qs
  rw [if_neg (by decide), if_neg (by decide), if_pos rfl]
theorem qs_esc_no {d : UInt8} (r : List UInt8) (h : esB d.toNat = false) : qs (92 :: d :: r) = none := by
  unfold qs
  rw [if_neg (by decide), if_neg (by decide), if_pos rfl]
  simp [h]
theorem qs_esc {d : UInt8} (r : List UInt8) (h : esB d.toNat = true) : qs (92 :: d :: r) = (qs r).map fun p => (d :: p.1, p.2 + 2) := by
  conv => lhs; unfold qs
  rw [if_neg (by decide), if_neg (by decide), if_pos rfl]
  simp [h]

/-- The name that stands so between quotes. -/
def uq : List UInt8 → Option (List UInt8)
  | [] => some []
  | c :: r =>
    if c = 92 then
      match r with
      | [] => none
      | d :: r' => (uq r').map fun p => d :: p
    else (uq r).map fun p => c :: p
theorem uq_nil : uq [] = some [] := by unfold uq; rfl
theorem uq_one {c : UInt8} (r : List UInt8) (h : c ≠ 92) : uq (c :: r) = (uq r).map fun p => c :: p := by
  conv => lhs; unfold uq
  simp [h]
theorem uq_esc_nil : uq [92] = none := by
  unfold uq
  rw [if_pos rfl]
theorem uq_esc (d : UInt8) (r : List UInt8) : uq (92 :: d :: r) = (uq r).map fun p => d :: p := by
  conv => lhs; unfold uq
  rw [if_pos rfl]

theorem qs_uq : ∀ (m : Nat) (r : List UInt8), r.length ≤ m → ∀ n k, qs r = some (n, k) → 1 ≤ k ∧ k ≤ r.length ∧ uq (r.take (k - 1)) = some n := by
  intro m
  induction m with
  | zero =>
    intro r hr n k h
    have : r = [] := List.length_eq_zero_iff.1 (by omega)
    subst this
    rw [qs_nil] at h; cases h
  | succ m ih =>
    intro r hr n k h
    cases r with
    | nil => rw [qs_nil] at h; cases h
    | cons c r =>
      by_cases h1 : c = 39
      · subst h1
        rw [qs_end] at h
        cases h
        exact ⟨Nat.le_refl _, by simp, by simp [uq_nil]⟩
      · cases h2 : prB c.toNat
        · rw [qs_bad r h1 h2] at h; cases h
        · by_cases h3 : c = 92
          · subst h3
            cases r with
            | nil => rw [qs_esc_nil] at h; cases h
            | cons d r =>
              cases h4 : esB d.toNat
              · rw [qs_esc_no r h4] at h; cases h
              · rw [qs_esc r h4] at h
                obtain ⟨⟨n', k'⟩, h5, h6⟩ := Option.map_eq_some_iff.1 h
                cases h6
                obtain ⟨i1, i2, i3⟩ := ih r (by simp at hr; omega) n' k' h5
                refine ⟨by omega, by simp; omega, ?_⟩
                rw [show k' + 2 - 1 = (k' - 1) + 1 + 1 by omega, List.take_succ_cons, List.take_succ_cons, uq_esc, i3]; rfl
          · rw [qs_one r h1 h2 h3] at h
            obtain ⟨⟨n', k'⟩, h5, h6⟩ := Option.map_eq_some_iff.1 h
            cases h6
            obtain ⟨i1, i2, i3⟩ := ih r (by simp at hr; omega) n' k' h5
            refine ⟨by omega, by simp; omega, ?_⟩
            rw [show k' + 1 - 1 = (k' - 1) + 1 by omega, List.take_succ_cons, uq_one _ h3, i3]; rfl

end Go.Proofs.Ytkfbjkopmgeklaa
