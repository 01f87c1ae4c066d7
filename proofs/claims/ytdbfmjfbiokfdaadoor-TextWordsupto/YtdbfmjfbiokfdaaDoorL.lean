/-
  The words of a text: plain facts, and the walks of the document's Cut.
-/
import Derived.Test.YtdbfmjfbiokfdaaDoorC
import Derived.Below
import Derived.Lib.IndexBytes
namespace Go.Proofs.YtdbfmjfbiokfdaaDoor
open Go.RowKit

/-- How many bytes stand ahead of the first blank. -/
def nb : List UInt8 → Nat
  | [] => 0
  | c :: r => if c = 32 then 0 else nb r + 1
theorem nb_le : ∀ l : List UInt8, nb l ≤ l.length
  | [] => Nat.le_refl _
  | c :: r => by unfold nb; have := nb_le r; simp; split <;> omega
theorem nb_idx : ∀ l : List UInt8, Lib.indexByte l 32 = if nb l = l.length then -1 else (nb l : Int)
  | [] => rfl
  | c :: r => by
    have ih := nb_idx r
    have hle := nb_le r
    unfold Lib.indexByte nb
    by_cases hc : c = 32
    · subst hc; simp
    · have hb : (c == 32) = false := by simpa using hc
      rw [hb, if_neg hc, ih]
      simp only [Bool.false_eq_true, if_false, List.length_cons]
      by_cases hn : nb r = r.length
      · rw [if_pos hn]; simp [hn]
      · have hne : ((nb r : Int) == -1) = false := by rw [beq_eq_false_iff_ne]; omega
        rw [if_neg hn, hne]
        simp [hn]
theorem cutB_nb (l : List UInt8) : cutB l = if nb l = l.length then (l, []) else (l.take (nb l), l.drop (nb l + 1)) := by
  unfold cutB
  rw [nb_idx]
  by_cases h : nb l = l.length
  · rw [if_pos h, if_pos h, if_neg (by omega)]
  · rw [if_neg h, if_neg h, if_pos (by omega)]
    simp

theorem lead_at : ∀ (l : List UInt8) (i : Nat) (h : i < l.length), i ≤ lead l → (l[i] = 32 ↔ i < lead l)
  | c :: r, 0, _, _ => by
    unfold lead
    by_cases hc : c = 32
    · simp [hc]
    · simp [hc]
  | c :: r, i + 1, h, hi => by
    unfold lead at hi ⊢
    by_cases hc : c = 32
    · rw [if_pos hc] at hi ⊢
      have := lead_at r i (by simpa using h) (by omega)
      simp only [List.getElem_cons_succ, this]
      omega
    · rw [if_neg hc] at hi
      omega
theorem nb_at : ∀ (l : List UInt8) (i : Nat) (h : i < l.length), i ≤ nb l → (l[i] ≠ 32 ↔ i < nb l)
  | c :: r, 0, _, _ => by
    unfold nb
    by_cases hc : c = 32
    · simp [hc]
    · simp [hc]
  | c :: r, i + 1, h, hi => by
    unfold nb at hi ⊢
    by_cases hc : c = 32
    · rw [if_pos hc] at hi
      omega
    · rw [if_neg hc] at hi ⊢
      have := nb_at r i (by simpa using h) (by omega)
      simp only [List.getElem_cons_succ, this]
      omega

/-- The words, cur: the bytes of the word that has begun. -/
def wgo : List UInt8 → List UInt8 → List (List UInt8)
  | [], cur => if cur = [] then [] else [cur]
  | c :: r, cur => if c = 32 then (if cur = [] then wgo r [] else cur :: wgo r []) else wgo r (cur ++ [c])
def wordsL (l : List UInt8) : List (List UInt8) := wgo l []

theorem wgo_nb : ∀ (l cur : List UInt8), wgo l cur = if nb l = l.length then (if cur ++ l = [] then [] else [cur ++ l]) else (if cur ++ l.take (nb l) = [] then [] else [cur ++ l.take (nb l)]) ++ wordsL (l.drop (nb l + 1))
  | [], cur => by simp [wgo, nb]
  | c :: r, cur => by
    have hle := nb_le r
    unfold wgo nb
    by_cases hc : c = 32
    · subst hc
      by_cases hcur : cur = []
      · simp [hcur, wordsL]
      · simp [hcur, wordsL]
    · simp only [hc, if_false, List.length_cons]
      rw [wgo_nb r (cur ++ [c])]
      by_cases hn : nb r = r.length
      · simp [hn]
      · simp [hn]
theorem words_lead : ∀ (l : List UInt8), wordsL l = wordsL (l.drop (lead l))
  | [] => rfl
  | c :: r => by
    unfold lead
    by_cases hc : c = 32
    · have := words_lead r
      rw [if_pos hc]
      simp only [List.drop_succ_cons]
      rw [← this]
      unfold wordsL
      rw [hc]
      simp [wgo]
    · rw [if_neg hc]; rfl
theorem words_cut (l : List UInt8) : wordsL l = (if (cutS l).1 = [] then [] else [(cutS l).1]) ++ wordsL (cutS l).2 := by
  rw [words_lead]
  unfold cutS
  rw [cutB_nb]
  have := wgo_nb (l.drop (lead l)) []
  rw [wordsL, this]
  by_cases hn : nb (l.drop (lead l)) = (l.drop (lead l)).length
  · rw [if_pos hn, if_pos hn]
    simp [wordsL, wgo]
  · rw [if_neg hn, if_neg hn]
    simp
theorem cut_less (l : List UInt8) (h : l ≠ []) : (cutS l).2.length < l.length ∧ (cutS l).1.length ≤ l.length ∧ ((cutS l).1 ≠ [] → (cutS l).2.length + 1 ≤ l.length) := by
  have hpos : 0 < l.length := List.length_pos_iff.2 h
  have h1 := lead_le l
  have h2 := nb_le (l.drop (lead l))
  unfold cutS
  rw [cutB_nb]
  by_cases hn : nb (l.drop (lead l)) = (l.drop (lead l)).length
  · rw [if_pos hn]
    simp
    omega
  · rw [if_neg hn]
    rw [List.length_drop] at h2 hn
    simp only [List.length_drop, List.length_take]
    omega

theorem byte_ne' {a : UInt8} (h : a ≠ 32) : ((a.toNat : Int) == 32) = false := by
  rw [beq_eq_false_iff_ne]
  intro e
  exact h (UInt8.toNat_inj.1 (by have : a.toNat = 32 := by omega
                                 simpa using this))

set_option maxRecDepth 100000 in
set_option maxHeartbeats 1000000 in
theorem refCut_any (s : ByteArray) (w : World) (hs : s.size ≤ 140737488355328) :
    Calls Tryd.prog 12 #[.string s] w fun e w' => e = .returned (.tuple #[.string (ofL (cutS s.data.toList).1), .string (ofL (cutS s.data.toList).2)]) ∧ ∃ n, w' = w.drewN n := by
  have hll := lead_le s.data.toList
  have hnn := nb_le (s.data.toList.drop (lead s.data.toList))
  rw [List.length_drop, size_len] at hnn
  rw [size_len] at hll
  obtain ⟨L, hL⟩ : ∃ L, lead s.data.toList = L := ⟨_, rfl⟩
  obtain ⟨N, hN⟩ : ∃ N, nb (s.data.toList.drop L) = N := ⟨_, rfl⟩
  rw [hL] at hll hnn
  rw [hN] at hnn
  have HL : Hid (lead s.data.toList = L) := hL
  have HN : Hid (nb (s.data.toList.drop L) = N) := hN
  clear hL hN
  have hidx : ∀ i (h : i < s.size), s.data.toList[i]'(by rw [size_len]; exact h) = s[i] := fun i h => rfl
  go_enter Tryd.func12, Tryd.ntmps12
  go_wp2
  go_loop [4] (fun t => ∃ i : Nat, i ≤ L ∧ t = .int .i64 i) (fun t => L - (intOf t).toNat)
  case atStart => exact ⟨0, Nat.zero_le _, rfl⟩
  case round =>
    obtain ⟨i, hi, rfl⟩ := hrel
    by_cases hlt : i < L
    · have hb : s[i]'(by omega) = 32 := by
        rw [← hidx i (by omega)]
        exact (lead_at s.data.toList i (by rw [size_len]; omega) (by rw [HL.out]; omega)).2 (by rw [HL.out]; exact hlt)
      have hin : i < s.size := by omega
      go_wp2
      go_round
      case rel => exact ⟨i + 1, by omega, by go_num⟩
      case measure => simp [intOf]; omega
    · obtain rfl : i = L := by omega
      have hfst : ∀ (h : i < s.size), ((s[i].toNat : Int) == 32) = false := by
        intro hend
        have hb : s[i] ≠ 32 := by
          rw [← hidx i hend]
          intro e
          have := (lead_at s.data.toList i (by rw [size_len]; omega) (by rw [HL.out]; omega)).1 e
          rw [HL.out] at this
          omega
        exact byte_ne' hb
      have hsnd : ∀ (k : Nat) (h : k < s.size), i ≤ k → k ≤ i + N → (k < i + N → s[k] ≠ 32) ∧ (k = i + N → s[k] = 32) := by
        intro k hk h1 h2
        have hkk : k - i < (s.data.toList.drop i).length := by rw [List.length_drop, size_len]; omega
        have := nb_at (s.data.toList.drop i) (k - i) hkk (by rw [HN.out]; omega)
        rw [HN.out] at this
        have e : (s.data.toList.drop i)[k - i] = s[k] := by
          simp only [List.getElem_drop, show i + (k - i) = k from by omega]
          rfl
        rw [e] at this
        refine ⟨fun h => this.2 (by omega), fun h => ?_⟩
        by_cases hc : s[k] = 32
        · exact hc
        · have := this.1 hc; omega
      have HF := hfst
      clear hfst
      have HSS : Hid (∀ (k : Nat) (h : k < s.size), i ≤ k → k ≤ i + N → (k < i + N → s[k] ≠ 32) ∧ (k = i + N → s[k] = 32)) := hsnd
      clear hsnd hidx
      by_cases hend : i < s.size
      · have hff := HF hend
        clear HF
        go_wp2
        go_loop [5] (fun t => ∃ k : Nat, i ≤ k ∧ k ≤ i + N ∧ t = .int .i64 k) (fun t => i + N - (intOf t).toNat)
        case atStart => exact ⟨i, Nat.le_refl _, by omega, rfl⟩
        case round =>
          obtain ⟨k, hk1, hk2, rfl⟩ := hrel
          by_cases hlt2 : k < i + N
          · have hin : k < s.size := by omega
            have hbb := byte_ne' ((HSS.out k hin hk1 hk2).1 hlt2)
            go_wp2
            go_round
            case rel => exact ⟨k + 1, by omega, by omega, by go_num⟩
            case measure => simp [intOf]; omega
          · obtain rfl : k = i + N := by omega
            by_cases hend2 : i + N < s.size
            · have hbb := (HSS.out (i + N) hend2 hk1 hk2).2 rfl
              have hne : ((i : Int) + N == s.size) = false := by rw [beq_eq_false_iff_ne]; omega
              go_wp2
              go_quiet (fail)
              go_wp2
              go_ret2
              refine ⟨ret_two ?_ ?_, _, rfl⟩
              · refine ofL_of ?_
                rw [Lib.extract_data]
                unfold cutS
                rw [HL.out, cutB_nb, HN.out, if_neg (by rw [List.length_drop, size_len]; omega)]
                simp
              · refine ofL_of ?_
                rw [Lib.extract_data]
                unfold cutS
                rw [HL.out, cutB_nb, HN.out, if_neg (by rw [List.length_drop, size_len]; omega)]
                rw [List.take_of_length_le (by rw [List.length_drop, size_len]; omega)]
                simp only [List.drop_drop]
                congr 1
            · have hsz : s.size = i + N := by omega
              have hne : ((i : Int) + N == s.size) = true := by rw [beq_iff_eq]; omega
              go_wp2
              go_ret2
              refine ⟨ret_two ?_ ?_, 0, rfl⟩
              · refine ofL_of ?_
                rw [Lib.extract_data, List.take_of_length_le (by rw [List.length_drop, size_len]; omega)]
                unfold cutS
                rw [HL.out, cutB_nb, HN.out, if_pos (by rw [List.length_drop, size_len]; omega)]
              · unfold cutS
                rw [HL.out, cutB_nb, HN.out, if_pos (by rw [List.length_drop, size_len]; omega)]
                rfl
      · clear HF
        go_wp2
        go_loop [5] (fun t => ∃ k : Nat, i ≤ k ∧ k ≤ i + N ∧ t = .int .i64 k) (fun t => i + N - (intOf t).toNat)
        case atStart => exact ⟨i, Nat.le_refl _, by omega, rfl⟩
        case round =>
          obtain ⟨k, hk1, hk2, rfl⟩ := hrel
          by_cases hlt2 : k < i + N
          · exact absurd hlt2 (by omega)
          · obtain rfl : k = i + N := by omega
            by_cases hend2 : i + N < s.size
            · exact absurd hend2 (by omega)
            · have hsz : s.size = i + N := by omega
              have hne : ((i : Int) + N == s.size) = true := by rw [beq_iff_eq]; omega
              go_wp2
              go_ret2
              refine ⟨ret_two ?_ ?_, 0, rfl⟩
              · refine ofL_of ?_
                rw [Lib.extract_data, List.take_of_length_le (by rw [List.length_drop, size_len]; omega)]
                unfold cutS
                rw [HL.out, cutB_nb, HN.out, if_pos (by rw [List.length_drop, size_len]; omega)]
              · unfold cutS
                rw [HL.out, cutB_nb, HN.out, if_pos (by rw [List.length_drop, size_len]; omega)]
                rfl

end Go.Proofs.YtdbfmjfbiokfdaaDoor
