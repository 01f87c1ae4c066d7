/-
  The document's begins, mark, quoted.
-/
import Derived.Test.YtkfbjkopmgeklaaM
import Derived.Laws.IdiomStrings
namespace Go.Proofs.Ytkfbjkopmgeklaa
open Go.RowKit Go.Shelf

theorem prefix_take (l p : List UInt8) : Lib.hasPrefix l p = (l.take p.length == p) := by
  unfold Lib.hasPrefix
  rw [Bool.eq_iff_iff, List.isPrefixOf_iff_prefix, List.prefix_iff_eq_take, beq_iff_eq]
  exact eq_comm
theorem prefix_long {l p : List UInt8} (h : l.length < p.length) : Lib.hasPrefix l p = false := by
  rw [prefix_take, beq_eq_false_iff_ne]
  intro e
  have := congrArg List.length e
  rw [List.length_take] at this
  omega

set_option maxHeartbeats 2000000 in
theorem beginsD_any (s p : ByteArray) (i : Nat) (w : World) (hi : i ≤ s.size) (hs : s.size ≤ 2097154) (hp : p.size ≤ 16) : Calls Try.prog 44 #[.string s, .int .i64 (i : Nat), .string p] w fun e w' => e = .returned (.bool (Lib.hasPrefix (s.data.toList.drop i) p.data.toList)) ∧ w' = w := by
  by_cases h : i + p.size ≤ s.size
  · have HE : Hid (Lib.hasPrefix (s.data.toList.drop i) p.data.toList = ((s.extract i (i + p.size)).toList == p.toList)) := by
      show _ = _
      rw [prefix_take, Lib.toList_data, Lib.toList_data, Lib.extract_data, size_len, show i + p.size - i = p.size by omega]
    have h1 : (p.size : Int) ≤ (s.size : Int) - (i : Int) := by omega
    have h2 : ¬ ((s.size : Int) - (i : Int) < (p.size : Int)) := by omega
    have h3 : (i : Int) + (p.size : Int) ≤ (s.size : Int) := by omega
    go_enter Try.func44, Try.ntmps44
    go_wp2
    all_goals go_ret
    all_goals refine ⟨ret_bool ?_, rfl⟩
    all_goals rw [HE.out]
  · have HE : Hid (Lib.hasPrefix (s.data.toList.drop i) p.data.toList = false) := prefix_long (by rw [List.length_drop, size_len, size_len]; omega)
    have h1 : ¬ (p.size : Int) ≤ (s.size : Int) - (i : Int) := by omega
    have h2 : ((s.size : Int) - (i : Int) < (p.size : Int)) := by omega
    go_enter Try.func44, Try.ntmps44
    go_wp2
    all_goals go_ret
    all_goals refine ⟨ret_bool ?_, rfl⟩
    all_goals rw [HE.out]

def mkL (l : List UInt8) : List UInt8 := (mks.find? (fun m => Lib.hasPrefix l m)).getD []
def mkF (ms : List (List UInt8)) (l : List UInt8) : List UInt8 := (ms.find? (fun m => Lib.hasPrefix l m)).getD []
theorem mkF_yes {m : List UInt8} {ms : List (List UInt8)} {l : List UInt8} (h : Lib.hasPrefix l m = true) : mkF (m :: ms) l = m := by
  unfold mkF; rw [List.find?_cons_of_pos h]; rfl
theorem mkF_no {m : List UInt8} {ms : List (List UInt8)} {l : List UInt8} (h : Lib.hasPrefix l m = false) : mkF (m :: ms) l = mkF ms l := by
  unfold mkF; rw [List.find?_cons_of_neg (by simp [h])]
theorem rdM_mk (l : List UInt8) : rdM l = if mkL l = [] then badR 20 else ⟨4, mkL l, (mkL l).length, 0⟩ := by
  unfold rdM mkL
  cases h : mks.find? (fun m => Lib.hasPrefix l m) with
  | none => simp
  | some m =>
    have hm := List.mem_of_find?_eq_some h
    have : m ≠ [] := by
      intro e
      subst e
      revert hm
      decide
    simp [this]
theorem mkL_len (l : List UInt8) : (mkL l).length ≤ 16 := by
  unfold mkL
  cases h : mks.find? (fun m => Lib.hasPrefix l m) with
  | none => simp
  | some m =>
    have hm := List.mem_of_find?_eq_some h
    have : ∀ m ∈ mks, m.length ≤ 16 := by decide
    exact this m hm

set_option maxHeartbeats 16000000 in
set_option maxRecDepth 100000 in
theorem mark_any (s : ByteArray) (i : Nat) (w : World) (hi : i ≤ s.size) (hs : s.size ≤ 2097154) : Calls Try.prog 36 #[.string s, .int .i64 (i : Nat)] w fun e w' => e = .returned (.string (ofL (mkL (s.data.toList.drop i)))) ∧ Below w.heap.size w w' := by
  obtain ⟨W1, h1⟩ : ∃ X, w.alloc (.cells #[.string ⟨#[60, 61, 62]⟩, .string ⟨#[61, 62]⟩, .string ⟨#[33, 61]⟩, .string ⟨#[40]⟩, .string ⟨#[41]⟩, .string ⟨#[91]⟩, .string ⟨#[93]⟩, .string ⟨#[44]⟩, .string ⟨#[58]⟩, .string ⟨#[33]⟩, .string ⟨#[63]⟩, .string ⟨#[126]⟩, .string ⟨#[38]⟩, .string ⟨#[124]⟩, .string ⟨#[61]⟩] 9) = X := ⟨_, rfl⟩
  have HB : Hid (Below w.heap.size w W1) := by rw [← h1]; exact below_box _ _
  have hq : W1.heap[w.heap.size]? = some (.cells #[.string ⟨#[60, 61, 62]⟩, .string ⟨#[61, 62]⟩, .string ⟨#[33, 61]⟩, .string ⟨#[40]⟩, .string ⟨#[41]⟩, .string ⟨#[91]⟩, .string ⟨#[93]⟩, .string ⟨#[44]⟩, .string ⟨#[58]⟩, .string ⟨#[33]⟩, .string ⟨#[63]⟩, .string ⟨#[126]⟩, .string ⟨#[38]⟩, .string ⟨#[124]⟩, .string ⟨#[61]⟩] 9 (0, 0)) := by rw [← h1]; exact (MapKept.heap_alloc w _).1
  have HE : Hid (w.alloc (.cells #[.string ⟨#[60, 61, 62]⟩, .string ⟨#[61, 62]⟩, .string ⟨#[33, 61]⟩, .string ⟨#[40]⟩, .string ⟨#[41]⟩, .string ⟨#[91]⟩, .string ⟨#[93]⟩, .string ⟨#[44]⟩, .string ⟨#[58]⟩, .string ⟨#[33]⟩, .string ⟨#[63]⟩, .string ⟨#[126]⟩, .string ⟨#[38]⟩, .string ⟨#[124]⟩, .string ⟨#[61]⟩] 9) = W1) := h1
  have HC : Hid (∀ (j : Nat) (v : Value), (#[.string ⟨#[60, 61, 62]⟩, .string ⟨#[61, 62]⟩, .string ⟨#[33, 61]⟩, .string ⟨#[40]⟩, .string ⟨#[41]⟩, .string ⟨#[91]⟩, .string ⟨#[93]⟩, .string ⟨#[44]⟩, .string ⟨#[58]⟩, .string ⟨#[33]⟩, .string ⟨#[63]⟩, .string ⟨#[126]⟩, .string ⟨#[38]⟩, .string ⟨#[124]⟩, .string ⟨#[61]⟩] : Array Value)[j]? = some v → W1.cell? ⟨w.heap.size, j, none⟩ = some v) := fun j v hv => cell_at hq hv
  clear h1 hq
  have hc := fun (p : ByteArray) (hp : p.size ≤ 16) (W : World) => beginsD_any s p i W hi hs hp
  go_enter Try.func36, Try.ntmps36
  go_wp2
  rw [HE.out]
  go_loopw [6] (fun vi wr => ∃ j : Nat, vi = .int .i64 j ∧ j ≤ 15 ∧ wr = W1 ∧ Hid (mkL (s.data.toList.drop i) = mkF (mks.drop j) (s.data.toList.drop i))) (fun vi _ => 15 - (intOf vi).toNat)
  case atStart => exact ⟨0, rfl, Nat.zero_le _, rfl, rfl⟩
  case round =>
    obtain ⟨j, rfl, hj, rfl, HI⟩ := hrel
    have hj3 : j = 0 ∨ j = 1 ∨ j = 2 ∨ j = 3 ∨ j = 4 ∨ j = 5 ∨ j = 6 ∨ j = 7 ∨ j = 8 ∨ j = 9 ∨ j = 10 ∨ j = 11 ∨ j = 12 ∨ j = 13 ∨ j = 14 ∨ j = 15 := by omega
    rcases hj3 with rfl | rfl | rfl | rfl | rfl | rfl | rfl | rfl | rfl | rfl | rfl | rfl | rfl | rfl | rfl | rfl
    · have q0 := HC.out 0 _ rfl
      have HJ : Hid (mkL (s.data.toList.drop i) = mkF ([60, 61, 62] :: mks.drop 1) (s.data.toList.drop i)) := HI.out
      have hcj' : Calls Try.prog 44 #[.string s, .int .i64 (i : Nat), .string ⟨#[60, 61, 62]⟩] wr fun e w' => e = .returned (.bool (Lib.hasPrefix (s.data.toList.drop i) [60, 61, 62])) ∧ w' = wr := hc ⟨#[60, 61, 62]⟩ (by decide) wr
      cases hx : Lib.hasPrefix (s.data.toList.drop i) [60, 61, 62]
      · rw [hx] at hcj'
        have HK : Hid (mkL (s.data.toList.drop i) = mkF (mks.drop 1) (s.data.toList.drop i)) := by show _ = _; rw [HJ.out, mkF_no hx]
        clear hc hx
        go_wp2_with fail
        refine hcj'.mono ?_
        rintro e W5 ⟨rfl, rfl⟩
        go_wp2
        go_roundw
        case rel => exact ⟨1, by go_num, by omega, by simp, HK.out⟩
        case measure => simp [intOf]
      · rw [hx] at hcj'
        have HF : Hid (mkL (s.data.toList.drop i) = [60, 61, 62]) := by show _ = _; rw [HJ.out, mkF_yes hx]
        clear hc hx
        go_wp2_with fail
        refine hcj'.mono ?_
        rintro e W5 ⟨rfl, rfl⟩
        go_wp2
        go_ret
        exact ⟨ret_str (by rw [HF.out]; rfl), HB.out⟩
    · have q0 := HC.out 1 _ rfl
      have HJ : Hid (mkL (s.data.toList.drop i) = mkF ([61, 62] :: mks.drop 2) (s.data.toList.drop i)) := HI.out
      have hcj' : Calls Try.prog 44 #[.string s, .int .i64 (i : Nat), .string ⟨#[61, 62]⟩] wr fun e w' => e = .returned (.bool (Lib.hasPrefix (s.data.toList.drop i) [61, 62])) ∧ w' = wr := hc ⟨#[61, 62]⟩ (by decide) wr
      cases hx : Lib.hasPrefix (s.data.toList.drop i) [61, 62]
      · rw [hx] at hcj'
        have HK : Hid (mkL (s.data.toList.drop i) = mkF (mks.drop 2) (s.data.toList.drop i)) := by show _ = _; rw [HJ.out, mkF_no hx]
        clear hc hx
        go_wp2_with fail
        refine hcj'.mono ?_
        rintro e W5 ⟨rfl, rfl⟩
        go_wp2
        go_roundw
        case rel => exact ⟨2, by go_num, by omega, by simp, HK.out⟩
        case measure => simp [intOf]
      · rw [hx] at hcj'
        have HF : Hid (mkL (s.data.toList.drop i) = [61, 62]) := by show _ = _; rw [HJ.out, mkF_yes hx]
        clear hc hx
        go_wp2_with fail
        refine hcj'.mono ?_
        rintro e W5 ⟨rfl, rfl⟩
        go_wp2
        go_ret
        exact ⟨ret_str (by rw [HF.out]; rfl), HB.out⟩
    · have q0 := HC.out 2 _ rfl
      have HJ : Hid (mkL (s.data.toList.drop i) = mkF ([33, 61] :: mks.drop 3) (s.data.toList.drop i)) := HI.out
      have hcj' : Calls Try.prog 44 #[.string s, .int .i64 (i : Nat), .string ⟨#[33, 61]⟩] wr fun e w' => e = .returned (.bool (Lib.hasPrefix (s.data.toList.drop i) [33, 61])) ∧ w' = wr := hc ⟨#[33, 61]⟩ (by decide) wr
      cases hx : Lib.hasPrefix (s.data.toList.drop i) [33, 61]
      · rw [hx] at hcj'
        have HK : Hid (mkL (s.data.toList.drop i) = mkF (mks.drop 3) (s.data.toList.drop i)) := by show _ = _; rw [HJ.out, mkF_no hx]
        clear hc hx
        go_wp2_with fail
        refine hcj'.mono ?_
        rintro e W5 ⟨rfl, rfl⟩
        go_wp2
        go_roundw
        case rel => exact ⟨3, by go_num, by omega, by simp, HK.out⟩
        case measure => simp [intOf]
      · rw [hx] at hcj'
        have HF : Hid (mkL (s.data.toList.drop i) = [33, 61]) := by show _ = _; rw [HJ.out, mkF_yes hx]
        clear hc hx
        go_wp2_with fail
        refine hcj'.mono ?_
        rintro e W5 ⟨rfl, rfl⟩
        go_wp2
        go_ret
        exact ⟨ret_str (by rw [HF.out]; rfl), HB.out⟩
    · have q0 := HC.out 3 _ rfl
      have HJ : Hid (mkL (s.data.toList.drop i) = mkF ([40] :: mks.drop 4) (s.data.toList.drop i)) := HI.out
      have hcj' : Calls Try.prog 44 #[.string s, .int .i64 (i : Nat), .string ⟨#[40]⟩] wr fun e w' => e = .returned (.bool (Lib.hasPrefix (s.data.toList.drop i) [40])) ∧ w' = wr := hc ⟨#[40]⟩ (by decide) wr
      cases hx : Lib.hasPrefix (s.data.toList.drop i) [40]
      · rw [hx] at hcj'
        have HK : Hid (mkL (s.data.toList.drop i) = mkF (mks.drop 4) (s.data.toList.drop i)) := by show _ = _; rw [HJ.out, mkF_no hx]
        clear hc hx
        go_wp2_with fail
        refine hcj'.mono ?_
        rintro e W5 ⟨rfl, rfl⟩
        go_wp2
        go_roundw
        case rel => exact ⟨4, by go_num, by omega, by simp, HK.out⟩
        case measure => simp [intOf]
      · rw [hx] at hcj'
        have HF : Hid (mkL (s.data.toList.drop i) = [40]) := by show _ = _; rw [HJ.out, mkF_yes hx]
        clear hc hx
        go_wp2_with fail
        refine hcj'.mono ?_
        rintro e W5 ⟨rfl, rfl⟩
        go_wp2
        go_ret
        exact ⟨ret_str (by rw [HF.out]; rfl), HB.out⟩
    · have q0 := HC.out 4 _ rfl
      have HJ : Hid (mkL (s.data.toList.drop i) = mkF ([41] :: mks.drop 5) (s.data.toList.drop i)) := HI.out
      have hcj' : Calls Try.prog 44 #[.string s, .int .i64 (i : Nat), .string ⟨#[41]⟩] wr fun e w' => e = .returned (.bool (Lib.hasPrefix (s.data.toList.drop i) [41])) ∧ w' = wr := hc ⟨#[41]⟩ (by decide) wr
      cases hx : Lib.hasPrefix (s.data.toList.drop i) [41]
      · rw [hx] at hcj'
        have HK : Hid (mkL (s.data.toList.drop i) = mkF (mks.drop 5) (s.data.toList.drop i)) := by show _ = _; rw [HJ.out, mkF_no hx]
        clear hc hx
        go_wp2_with fail
        refine hcj'.mono ?_
        rintro e W5 ⟨rfl, rfl⟩
        go_wp2
        go_roundw
        case rel => exact ⟨5, by go_num, by omega, by simp, HK.out⟩
        case measure => simp [intOf]
      · rw [hx] at hcj'
        have HF : Hid (mkL (s.data.toList.drop i) = [41]) := by show _ = _; rw [HJ.out, mkF_yes hx]
        clear hc hx
        go_wp2_with fail
        refine hcj'.mono ?_
        rintro e W5 ⟨rfl, rfl⟩
        go_wp2
        go_ret
        exact ⟨ret_str (by rw [HF.out]; rfl), HB.out⟩
    · have q0 := HC.out 5 _ rfl
      have HJ : Hid (mkL (s.data.toList.drop i) = mkF ([91] :: mks.drop 6) (s.data.toList.drop i)) := HI.out
      have hcj' : Calls Try.prog 44 #[.string s, .int .i64 (i : Nat), .string ⟨#[91]⟩] wr fun e w' => e = .returned (.bool (Lib.hasPrefix (s.data.toList.drop i) [91])) ∧ w' = wr := hc ⟨#[91]⟩ (by decide) wr
      cases hx : Lib.hasPrefix (s.data.toList.drop i) [91]
      · rw [hx] at hcj'
        have HK : Hid (mkL (s.data.toList.drop i) = mkF (mks.drop 6) (s.data.toList.drop i)) := by show _ = _; rw [HJ.out, mkF_no hx]
        clear hc hx
        go_wp2_with fail
        refine hcj'.mono ?_
        rintro e W5 ⟨rfl, rfl⟩
        go_wp2
        go_roundw
        case rel => exact ⟨6, by go_num, by omega, by simp, HK.out⟩
        case measure => simp [intOf]
      · rw [hx] at hcj'
        have HF : Hid (mkL (s.data.toList.drop i) = [91]) := by show _ = _; rw [HJ.out, mkF_yes hx]
        clear hc hx
        go_wp2_with fail
        refine hcj'.mono ?_
        rintro e W5 ⟨rfl, rfl⟩
        go_wp2
        go_ret
        exact ⟨ret_str (by rw [HF.out]; rfl), HB.out⟩
    · have q0 := HC.out 6 _ rfl
      have HJ : Hid (mkL (s.data.toList.drop i) = mkF ([93] :: mks.drop 7) (s.data.toList.drop i)) := HI.out
      have hcj' : Calls Try.prog 44 #[.string s, .int .i64 (i : Nat), .string ⟨#[93]⟩] wr fun e w' => e = .returned (.bool (Lib.hasPrefix (s.data.toList.drop i) [93])) ∧ w' = wr := hc ⟨#[93]⟩ (by decide) wr
      cases hx : Lib.hasPrefix (s.data.toList.drop i) [93]
      · rw [hx] at hcj'
        have HK : Hid (mkL (s.data.toList.drop i) = mkF (mks.drop 7) (s.data.toList.drop i)) := by show _ = _; rw [HJ.out, mkF_no hx]
        clear hc hx
        go_wp2_with fail
        refine hcj'.mono ?_
        rintro e W5 ⟨rfl, rfl⟩
        go_wp2
        go_roundw
        case rel => exact ⟨7, by go_num, by omega, by simp, HK.out⟩
        case measure => simp [intOf]
      · rw [hx] at hcj'
        have HF : Hid (mkL (s.data.toList.drop i) = [93]) := by show _ = _; rw [HJ.out, mkF_yes hx]
        clear hc hx
        go_wp2_with fail
        refine hcj'.mono ?_
        rintro e W5 ⟨rfl, rfl⟩
        go_wp2
        go_ret
        exact ⟨ret_str (by rw [HF.out]; rfl), HB.out⟩
    · have q0 := HC.out 7 _ rfl
      have HJ : Hid (mkL (s.data.toList.drop i) = mkF ([44] :: mks.drop 8) (s.data.toList.drop i)) := HI.out
      have hcj' : Calls Try.prog 44 #[.string s, .int .i64 (i : Nat), .string ⟨#[44]⟩] wr fun e w' => e = .returned (.bool (Lib.hasPrefix (s.data.toList.drop i) [44])) ∧ w' = wr := hc ⟨#[44]⟩ (by decide) wr
      cases hx : Lib.hasPrefix (s.data.toList.drop i) [44]
      · rw [hx] at hcj'
        have HK : Hid (mkL (s.data.toList.drop i) = mkF (mks.drop 8) (s.data.toList.drop i)) := by show _ = _; rw [HJ.out, mkF_no hx]
        clear hc hx
        go_wp2_with fail
        refine hcj'.mono ?_
        rintro e W5 ⟨rfl, rfl⟩
        go_wp2
        go_roundw
        case rel => exact ⟨8, by go_num, by omega, by simp, HK.out⟩
        case measure => simp [intOf]
      · rw [hx] at hcj'
        have HF : Hid (mkL (s.data.toList.drop i) = [44]) := by show _ = _; rw [HJ.out, mkF_yes hx]
        clear hc hx
        go_wp2_with fail
        refine hcj'.mono ?_
        rintro e W5 ⟨rfl, rfl⟩
        go_wp2
        go_ret
        exact ⟨ret_str (by rw [HF.out]; rfl), HB.out⟩
    · have q0 := HC.out 8 _ rfl
      have HJ : Hid (mkL (s.data.toList.drop i) = mkF ([58] :: mks.drop 9) (s.data.toList.drop i)) := HI.out
      have hcj' : Calls Try.prog 44 #[.string s, .int .i64 (i : Nat), .string ⟨#[58]⟩] wr fun e w' => e = .returned (.bool (Lib.hasPrefix (s.data.toList.drop i) [58])) ∧ w' = wr := hc ⟨#[58]⟩ (by decide) wr
      cases hx : Lib.hasPrefix (s.data.toList.drop i) [58]
      · rw [hx] at hcj'
        have HK : Hid (mkL (s.data.toList.drop i) = mkF (mks.drop 9) (s.data.toList.drop i)) := by show _ = _; rw [HJ.out, mkF_no hx]
        clear hc hx
        go_wp2_with fail
        refine hcj'.mono ?_
        rintro e W5 ⟨rfl, rfl⟩
        go_wp2
        go_roundw
        case rel => exact ⟨9, by go_num, by omega, by simp, HK.out⟩
        case measure => simp [intOf]
      · rw [hx] at hcj'
        have HF : Hid (mkL (s.data.toList.drop i) = [58]) := by show _ = _; rw [HJ.out, mkF_yes hx]
        clear hc hx
        go_wp2_with fail
        refine hcj'.mono ?_
        rintro e W5 ⟨rfl, rfl⟩
        go_wp2
        go_ret
        exact ⟨ret_str (by rw [HF.out]; rfl), HB.out⟩
    · have q0 := HC.out 9 _ rfl
      have HJ : Hid (mkL (s.data.toList.drop i) = mkF ([33] :: mks.drop 10) (s.data.toList.drop i)) := HI.out
      have hcj' : Calls Try.prog 44 #[.string s, .int .i64 (i : Nat), .string ⟨#[33]⟩] wr fun e w' => e = .returned (.bool (Lib.hasPrefix (s.data.toList.drop i) [33])) ∧ w' = wr := hc ⟨#[33]⟩ (by decide) wr
      cases hx : Lib.hasPrefix (s.data.toList.drop i) [33]
      · rw [hx] at hcj'
        have HK : Hid (mkL (s.data.toList.drop i) = mkF (mks.drop 10) (s.data.toList.drop i)) := by show _ = _; rw [HJ.out, mkF_no hx]
        clear hc hx
        go_wp2_with fail
        refine hcj'.mono ?_
        rintro e W5 ⟨rfl, rfl⟩
        go_wp2
        go_roundw
        case rel => exact ⟨10, by go_num, by omega, by simp, HK.out⟩
        case measure => simp [intOf]
      · rw [hx] at hcj'
        have HF : Hid (mkL (s.data.toList.drop i) = [33]) := by show _ = _; rw [HJ.out, mkF_yes hx]
        clear hc hx
        go_wp2_with fail
        refine hcj'.mono ?_
        rintro e W5 ⟨rfl, rfl⟩
        go_wp2
        go_ret
        exact ⟨ret_str (by rw [HF.out]; rfl), HB.out⟩
    · have q0 := HC.out 10 _ rfl
      have HJ : Hid (mkL (s.data.toList.drop i) = mkF ([63] :: mks.drop 11) (s.data.toList.drop i)) := HI.out
      have hcj' : Calls Try.prog 44 #[.string s, .int .i64 (i : Nat), .string ⟨#[63]⟩] wr fun e w' => e = .returned (.bool (Lib.hasPrefix (s.data.toList.drop i) [63])) ∧ w' = wr := hc ⟨#[63]⟩ (by decide) wr
      cases hx : Lib.hasPrefix (s.data.toList.drop i) [63]
      · rw [hx] at hcj'
        have HK : Hid (mkL (s.data.toList.drop i) = mkF (mks.drop 11) (s.data.toList.drop i)) := by show _ = _; rw [HJ.out, mkF_no hx]
        clear hc hx
        go_wp2_with fail
        refine hcj'.mono ?_
        rintro e W5 ⟨rfl, rfl⟩
        go_wp2
        go_roundw
        case rel => exact ⟨11, by go_num, by omega, by simp, HK.out⟩
        case measure => simp [intOf]
      · rw [hx] at hcj'
        have HF : Hid (mkL (s.data.toList.drop i) = [63]) := by show _ = _; rw [HJ.out, mkF_yes hx]
        clear hc hx
        go_wp2_with fail
        refine hcj'.mono ?_
        rintro e W5 ⟨rfl, rfl⟩
        go_wp2
        go_ret
        exact ⟨ret_str (by rw [HF.out]; rfl), HB.out⟩
    · have q0 := HC.out 11 _ rfl
      have HJ : Hid (mkL (s.data.toList.drop i) = mkF ([126] :: mks.drop 12) (s.data.toList.drop i)) := HI.out
      have hcj' : Calls Try.prog 44 #[.string s, .int .i64 (i : Nat), .string ⟨#[126]⟩] wr fun e w' => e = .returned (.bool (Lib.hasPrefix (s.data.toList.drop i) [126])) ∧ w' = wr := hc ⟨#[126]⟩ (by decide) wr
      cases hx : Lib.hasPrefix (s.data.toList.drop i) [126]
      · rw [hx] at hcj'
        have HK : Hid (mkL (s.data.toList.drop i) = mkF (mks.drop 12) (s.data.toList.drop i)) := by show _ = _; rw [HJ.out, mkF_no hx]
        clear hc hx
        go_wp2_with fail
        refine hcj'.mono ?_
        rintro e W5 ⟨rfl, rfl⟩
        go_wp2
        go_roundw
        case rel => exact ⟨12, by go_num, by omega, by simp, HK.out⟩
        case measure => simp [intOf]
      · rw [hx] at hcj'
        have HF : Hid (mkL (s.data.toList.drop i) = [126]) := by show _ = _; rw [HJ.out, mkF_yes hx]
        clear hc hx
        go_wp2_with fail
        refine hcj'.mono ?_
        rintro e W5 ⟨rfl, rfl⟩
        go_wp2
        go_ret
        exact ⟨ret_str (by rw [HF.out]; rfl), HB.out⟩
    · have q0 := HC.out 12 _ rfl
      have HJ : Hid (mkL (s.data.toList.drop i) = mkF ([38] :: mks.drop 13) (s.data.toList.drop i)) := HI.out
      have hcj' : Calls Try.prog 44 #[.string s, .int .i64 (i : Nat), .string ⟨#[38]⟩] wr fun e w' => e = .returned (.bool (Lib.hasPrefix (s.data.toList.drop i) [38])) ∧ w' = wr := hc ⟨#[38]⟩ (by decide) wr
      cases hx : Lib.hasPrefix (s.data.toList.drop i) [38]
      · rw [hx] at hcj'
        have HK : Hid (mkL (s.data.toList.drop i) = mkF (mks.drop 13) (s.data.toList.drop i)) := by show _ = _; rw [HJ.out, mkF_no hx]
        clear hc hx
        go_wp2_with fail
        refine hcj'.mono ?_
        rintro e W5 ⟨rfl, rfl⟩
        go_wp2
        go_roundw
        case rel => exact ⟨13, by go_num, by omega, by simp, HK.out⟩
        case measure => simp [intOf]
      · rw [hx] at hcj'
        have HF : Hid (mkL (s.data.toList.drop i) = [38]) := by show _ = _; rw [HJ.out, mkF_yes hx]
        clear hc hx
        go_wp2_with fail
        refine hcj'.mono ?_
        rintro e W5 ⟨rfl, rfl⟩
        go_wp2
        go_ret
        exact ⟨ret_str (by rw [HF.out]; rfl), HB.out⟩
    · have q0 := HC.out 13 _ rfl
      have HJ : Hid (mkL (s.data.toList.drop i) = mkF ([124] :: mks.drop 14) (s.data.toList.drop i)) := HI.out
      have hcj' : Calls Try.prog 44 #[.string s, .int .i64 (i : Nat), .string ⟨#[124]⟩] wr fun e w' => e = .returned (.bool (Lib.hasPrefix (s.data.toList.drop i) [124])) ∧ w' = wr := hc ⟨#[124]⟩ (by decide) wr
      cases hx : Lib.hasPrefix (s.data.toList.drop i) [124]
      · rw [hx] at hcj'
        have HK : Hid (mkL (s.data.toList.drop i) = mkF (mks.drop 14) (s.data.toList.drop i)) := by show _ = _; rw [HJ.out, mkF_no hx]
        clear hc hx
        go_wp2_with fail
        refine hcj'.mono ?_
        rintro e W5 ⟨rfl, rfl⟩
        go_wp2
        go_roundw
        case rel => exact ⟨14, by go_num, by omega, by simp, HK.out⟩
        case measure => simp [intOf]
      · rw [hx] at hcj'
        have HF : Hid (mkL (s.data.toList.drop i) = [124]) := by show _ = _; rw [HJ.out, mkF_yes hx]
        clear hc hx
        go_wp2_with fail
        refine hcj'.mono ?_
        rintro e W5 ⟨rfl, rfl⟩
        go_wp2
        go_ret
        exact ⟨ret_str (by rw [HF.out]; rfl), HB.out⟩
    · have q0 := HC.out 14 _ rfl
      have HJ : Hid (mkL (s.data.toList.drop i) = mkF ([61] :: mks.drop 15) (s.data.toList.drop i)) := HI.out
      have hcj' : Calls Try.prog 44 #[.string s, .int .i64 (i : Nat), .string ⟨#[61]⟩] wr fun e w' => e = .returned (.bool (Lib.hasPrefix (s.data.toList.drop i) [61])) ∧ w' = wr := hc ⟨#[61]⟩ (by decide) wr
      cases hx : Lib.hasPrefix (s.data.toList.drop i) [61]
      · rw [hx] at hcj'
        have HK : Hid (mkL (s.data.toList.drop i) = mkF (mks.drop 15) (s.data.toList.drop i)) := by show _ = _; rw [HJ.out, mkF_no hx]
        clear hc hx
        go_wp2_with fail
        refine hcj'.mono ?_
        rintro e W5 ⟨rfl, rfl⟩
        go_wp2
        go_roundw
        case rel => exact ⟨15, by go_num, by omega, by simp, HK.out⟩
        case measure => simp [intOf]
      · rw [hx] at hcj'
        have HF : Hid (mkL (s.data.toList.drop i) = [61]) := by show _ = _; rw [HJ.out, mkF_yes hx]
        clear hc hx
        go_wp2_with fail
        refine hcj'.mono ?_
        rintro e W5 ⟨rfl, rfl⟩
        go_wp2
        go_ret
        exact ⟨ret_str (by rw [HF.out]; rfl), HB.out⟩
    · have HF : Hid (mkL (s.data.toList.drop i) = []) := by show _ = _; rw [HI.out]; rfl
      clear hc
      go_wp2
      go_ret
      exact ⟨ret_str (by rw [HF.out]; rfl), HB.out⟩

end Go.Proofs.Ytkfbjkopmgeklaa
