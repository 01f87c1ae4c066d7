/-
  The walks of text.Cut and of what it calls in Go's library.
-/
import Derived.Test.YtdbfmjfbiokfdaaDoorA
import Derived.Lib.BytesEntry
import Derived.Lib.Strings
import Derived.Lib.Bytealg
import Derived.Deep.QuietTactic
import Derived.BigQuiet
namespace Go.Proofs.YtdbfmjfbiokfdaaDoor
open Go.RowKit

/-- A text of these bytes. -/
def ofL (l : List UInt8) : ByteArray := ⟨l.toArray⟩
theorem ofL_of {u : ByteArray} {l : List UInt8} (h : u.data.toList = l) : u = ofL l := by
  subst h; obtain ⟨⟨l⟩⟩ := u; rfl
theorem ofL_data (l : List UInt8) : (ofL l).data.toList = l := rfl
theorem ofL_size (l : List UInt8) : (ofL l).size = l.length := rfl
theorem ofL_self (u : ByteArray) : ofL u.data.toList = u := (ofL_of rfl).symm
theorem size_len (u : ByteArray) : u.data.toList.length = u.size := by obtain ⟨⟨l⟩⟩ := u; rfl

/-- How many blanks open the list. -/
def lead : List UInt8 → Nat
  | [] => 0
  | c :: r => if c = 32 then lead r + 1 else 0
theorem lead_le : ∀ l : List UInt8, lead l ≤ l.length
  | [] => Nat.le_refl _
  | c :: r => by unfold lead; have := lead_le r; simp; split <;> omega

theorem head_of (u : ByteArray) (h : 0 < u.size) : ∃ a r, u.data.toList = a :: r ∧ u[0] = a ∧ (u.extract 1 u.size).data.toList = r := by
  obtain ⟨⟨l⟩⟩ := u
  cases l with
  | nil => exact absurd h (by decide)
  | cons a r =>
    refine ⟨a, r, rfl, rfl, ?_⟩
    rw [Lib.extract_data]
    show ((a :: r).drop 1).take ((a :: r).length - 1) = r
    simp
theorem byte_eq {a : UInt8} (h : ((a.toNat : Int) == 32) = true) : a = 32 := by
  have h' : (a.toNat : Int) = 32 := by simpa using h
  have : a.toNat = 32 := by omega
  exact UInt8.toNat_inj.1 this
theorem byte_ne {a : UInt8} (h : ((a.toNat : Int) == 32) = false) : a ≠ 32 := by
  rintro rfl
  simp at h

theorem ret_str {a b : ByteArray} (h : a = b) : Ending.returned (.string a) = .returned (.string b) := by rw [h]
def sizeOfV : Value → Nat | .string s => s.size | _ => 0

set_option maxHeartbeats 1000000 in
theorem trimLeftByte_any (s : ByteArray) (w : World) (_hs : s.size ≤ maxLen) :
    Calls Tryd.prog 32 #[.string s, .int .u8 32] w fun e w' => e = .returned (.string (ofL (s.data.toList.drop (lead s.data.toList)))) ∧ w' = w := by
  unfold maxLen at _hs
  go_enter Tryd.func32, Tryd.ntmps32
  go_wp2
  go_loop [0] (fun t => ∃ u : ByteArray, t = .string u ∧ u.size ≤ s.size ∧ u.data.toList.drop (lead u.data.toList) = s.data.toList.drop (lead s.data.toList)) (fun t => sizeOfV t)
  case atStart => exact ⟨s, rfl, Nat.le_refl _, rfl⟩
  case round =>
    obtain ⟨u, rfl, hu, hd⟩ := hrel
    have HD : Hid (u.data.toList.drop (lead u.data.toList) = s.data.toList.drop (lead s.data.toList)) := hd
    clear hd
    by_cases hp : 0 < u.size
    · obtain ⟨a, r, hl, h0, h1⟩ := head_of u hp
      have HA : Hid (u.data.toList = a :: r) := hl
      have HX : Hid (u[0] = a) := h0
      have HT : Hid ((u.extract 1 u.size).data.toList = r) := h1
      clear hl h0 h1
      go_wp2
      · go_round
        case rel =>
          have ha : a = 32 := by have e : ((u[0].toNat : Int) == 32) = true := by assumption
                                 rw [HX.out] at e; exact byte_eq e
          refine ⟨_, rfl, ?_, ?_⟩
          · have e1 := size_len (u.extract 1 u.size); have e2 := size_len u
            rw [HT.out] at e1; rw [HA.out] at e2; simp at e2; omega
          · rw [HT.out, ← HD.out, HA.out, ha]; rfl
        case measure =>
          show (u.extract 1 u.size).size < u.size
          have e1 := size_len (u.extract 1 u.size); have e2 := size_len u
          rw [HT.out] at e1; rw [HA.out] at e2; simp at e2; omega
      · go_ret
        refine ⟨ret_str ?_, rfl⟩
        have ha : a ≠ 32 := by have e : ((u[0].toNat : Int) == 32) = false := by assumption
                               rw [HX.out] at e; exact byte_ne e
        rw [← HD.out]
        refine ofL_of ?_
        rw [HA.out]
        simp [lead, ha]
    · go_wp2
      go_ret
      refine ⟨ret_str ?_, rfl⟩
      rw [← HD.out]
      have h0 : u.data.toList = [] := List.length_eq_zero_iff.1 (by rw [size_len]; omega)
      exact ofL_of (by rw [h0]; rfl)

theorem toList_nil {u : ByteArray} (h : 0 < u.size) : u.toList.isEmpty = false := by
  obtain ⟨a, r, hl, _, _⟩ := head_of u h
  rw [Lib.toList_data, hl]; rfl

set_option maxRecDepth 100000 in
set_option maxHeartbeats 1000000 in
theorem trimLeft_any (s : ByteArray) (w : World) (hs : s.size ≤ maxLen) :
    Calls Tryd.prog 24 #[.string s, .string ⟨#[32]⟩] w fun e w' => e = .returned (.string (ofL (s.data.toList.drop (lead s.data.toList)))) ∧ w' = w := by
  by_cases hp : 0 < s.size
  · have hE := toList_nil hp
    go_enter Tryd.func24, Tryd.ntmps24
    go_wp2_with (go_at_call 32; refine (trimLeftByte_any _ _ hs).mono ?_; rintro e w' ⟨rfl, rfl⟩)
    go_ret
    exact ⟨rfl, rfl⟩
  · have h0 : s.data.toList = [] := List.length_eq_zero_iff.1 (by rw [size_len]; omega)
    have hE : s.toList.isEmpty = true := by rw [Lib.toList_data, h0]; rfl
    have HR : Hid (s = ofL (s.data.toList.drop (lead s.data.toList))) := ofL_of (by rw [h0]; rfl)
    clear h0
    go_enter Tryd.func24, Tryd.ntmps24
    go_wp2
    go_ret
    exact ⟨ret_str HR.out, rfl⟩

set_option maxHeartbeats 1000000 in
theorem index_any (s : ByteArray) (w : World) :
    Calls Tryd.prog 38 #[.string s, .string ⟨#[32]⟩] w fun e w' => e = .returned (.int .i64 (Lib.indexByte s.data.toList 32)) ∧ w' = w := by
  by_cases hE : ([32] == s.toList) = true
  · go_enter Tryd.func38, Tryd.ntmps38
    go_wp2
    go_ret
    refine ⟨ret_i64 ?_, rfl⟩
    have : s.toList = [32] := by simpa using (beq_iff_eq.1 hE).symm
    rw [← Lib.toList_data, this]; rfl
  · have hE' : ([32] == s.toList) = false := by simpa using hE
    clear hE
    go_enter Tryd.func38, Tryd.ntmps38
    go_wp2
    rw [run_callFunc_extern Tryd.func49 (by kernel_rfl) (by kernel_rfl) (by kernel_rfl) (e := Extern.BytealgIndexByte.indexByte) (by kernel_rfl), Lib.run_indexByteString]
    simp only [Result.andThen]
    rw [Oper.upon_value]
    go_wp2
    go_ret
    exact ⟨rfl, rfl⟩

theorem idx_lt : ∀ (l : List UInt8) (c : UInt8), Lib.indexByte l c < l.length
  | [], _ => by simp [Lib.indexByte]
  | b :: l, c => by
    have := idx_lt l c
    unfold Lib.indexByte
    simp only [List.length_cons]
    split
    · omega
    · split <;> omega

/-- What stands ahead of the first blank, and what behind it. -/
def cutB (l : List UInt8) : List UInt8 × List UInt8 :=
  if 0 ≤ Lib.indexByte l 32 then (l.take (Lib.indexByte l 32).toNat, l.drop ((Lib.indexByte l 32).toNat + 1)) else (l, [])
def fndB (l : List UInt8) : Bool := decide (0 ≤ Lib.indexByte l 32)

theorem ret_cut {a a' b b' : ByteArray} {c c' : Bool} (h : a = a') (h2 : b = b') (h3 : c = c') : Ending.returned (.tuple #[.string a, .string b, .bool c]) = .returned (.tuple #[.string a', .string b', .bool c']) := by rw [h, h2, h3]
theorem ret_two {a a' b b' : ByteArray} (h : a = a') (h2 : b = b') : Ending.returned (.tuple #[.string a, .string b]) = .returned (.tuple #[.string a', .string b']) := by rw [h, h2]

set_option maxRecDepth 100000 in
set_option maxHeartbeats 1000000 in
theorem liteCut_any (s : ByteArray) (w : World) (hs : s.size ≤ maxLen) :
    Calls Tryd.prog 31 #[.string s, .string ⟨#[32]⟩] w fun e w' => e = .returned (.tuple #[.string (ofL (cutB s.data.toList).1), .string (ofL (cutB s.data.toList).2), .bool (fndB s.data.toList)]) ∧ ∃ n, w' = w.drewN n := by
  unfold maxLen at hs
  have hl := idx_lt s.data.toList 32
  rw [size_len] at hl
  have hg := Lib.indexByte_ge s.data.toList 32
  obtain ⟨i, hi⟩ : ∃ i, Lib.indexByte s.data.toList 32 = i := ⟨_, rfl⟩
  have HI : Hid (Lib.indexByte s.data.toList 32 = i) := hi
  rw [hi] at hl hg
  clear hi
  by_cases hp : 0 ≤ i
  · obtain ⟨k, rfl⟩ := Int.eq_ofNat_of_zero_le hp
    go_enter Tryd.func31, Tryd.ntmps31
    go_wp2_with (go_at_call 38; refine (index_any _ _).mono ?_; rw [HI.out]; rintro e w' ⟨rfl, rfl⟩)
    go_quiet (fail)
    go_wp2
    go_ret3
    refine ⟨ret_cut ?_ ?_ ?_, _, rfl⟩
    · refine ofL_of ?_
      rw [Lib.extract_data]
      simp only [cutB, HI.out, if_pos (Int.natCast_nonneg k)]
      simp
    · refine ofL_of ?_
      rw [Lib.extract_data]
      simp only [cutB, HI.out, if_pos (Int.natCast_nonneg k)]
      rw [List.take_of_length_le (by rw [List.length_drop, size_len]; exact Nat.le_refl _)]
      simp
    · simp [fndB, HI.out]
  · have hn : i < 0 := by omega
    go_enter Tryd.func31, Tryd.ntmps31
    go_wp2_with (go_at_call 38; refine (index_any _ _).mono ?_; rw [HI.out]; rintro e w' ⟨rfl, rfl⟩)
    go_ret3
    refine ⟨ret_cut ?_ ?_ ?_, 0, rfl⟩
    · simp only [cutB, HI.out, if_neg (Int.not_le.2 hn), ofL_self]
    · simp only [cutB, HI.out, if_neg (Int.not_le.2 hn)]; rfl
    · simp only [fndB, HI.out]; simp; omega

set_option maxHeartbeats 1000000 in
theorem strCut_any (s : ByteArray) (w : World) (hs : s.size ≤ maxLen) :
    Calls Tryd.prog 23 #[.string s, .string ⟨#[32]⟩] w fun e w' => e = .returned (.tuple #[.string (ofL (cutB s.data.toList).1), .string (ofL (cutB s.data.toList).2), .bool (fndB s.data.toList)]) ∧ ∃ n, w' = w.drewN n := by
  go_enter Tryd.func23, Tryd.ntmps23
  go_wp2_with (go_at_call 31; refine (liteCut_any _ _ hs).mono ?_; rintro e w' ⟨rfl, n, rfl⟩)
  go_ret3
  exact ⟨rfl, _, rfl⟩

/-- The first word, and what stands behind the blank that ends it. -/
def cutS (l : List UInt8) : List UInt8 × List UInt8 := cutB (l.drop (lead l))

set_option maxHeartbeats 1000000 in
theorem cut_any (s : ByteArray) (w : World) (hs : s.size ≤ maxLen) :
    Calls Tryd.prog 11 #[.string s] w fun e w' => e = .returned (.tuple #[.string (ofL (cutS s.data.toList).1), .string (ofL (cutS s.data.toList).2)]) ∧ ∃ n, w' = w.drewN n := by
  have h2 : (ofL (s.data.toList.drop (lead s.data.toList))).size ≤ maxLen := by
    rw [ofL_size, List.length_drop, size_len]; omega
  go_enter Tryd.func11, Tryd.ntmps11
  go_wp2_with (first | (go_at_call 24; refine (trimLeft_any _ _ hs).mono ?_; rintro e w' ⟨rfl, rfl⟩) | (go_at_call 23; refine (strCut_any _ _ h2).mono ?_; rintro e w' ⟨rfl, n, rfl⟩))
  go_ret2
  exact ⟨rfl, _, rfl⟩

end Go.Proofs.YtdbfmjfbiokfdaaDoor
