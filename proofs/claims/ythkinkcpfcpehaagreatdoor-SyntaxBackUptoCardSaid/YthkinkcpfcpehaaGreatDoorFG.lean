import Derived.Test.YthkinkcpfcpehaaGreatDoorFD
import Derived.Maps.Ext
namespace Go.Proofs.YthkinkcpfcpehaaGreatDoor
set_option maxRecDepth 100000
set_option maxHeartbeats 8000000
section
open Go.RowKit Go.Maps
open Lx (Tk ofL KsAt)
theorem finish_yes {w : World} {B n m : Nat} {c2 c3 c4 c5 : Value} (h : Bx w B n m [] c2 c3 c4 c5) :
    Calls Tryz.prog 95 #[.pointer (some ⟨B, 0, none⟩)] w fun e w' => e = .returned (.tuple #[]) ∧ w' = w := by
  obtain ⟨rv, h1, h2, h3⟩ := h.ks
  obtain ⟨a, c, rfl, k1, k2, k3⟩ := h2
  have x0 : w.cell? ⟨B, 0, none⟩ = some (.slice a 0 c) := cell_store (vs := [_, _, _, _, _, _]) h1 rfl
  clear h h1 h3 k1 k2 k3
  go_enter Tryz.func95, Tryz.ntmps95
  go_wp2
  refine bodyPost_end (results_none rfl _ _ _) rfl ?_
  exact ⟨rfl, rfl⟩
theorem finish_no {w : World} {B n m : Nat} {t : Tk} {r : List Tk} {c2 c3 c4 c5 : Value} (h : Bx w B n m (t :: r) c2 c3 c4 c5) :
    Calls Tryz.prog 95 #[.pointer (some ⟨B, 0, none⟩)] w fun e w' => e = .panicked misfit ∧ w' = w := by
  obtain ⟨b, o, c, y0, y1, y2, x1, x2, y3⟩ := h.tail
  have x0 : w.cell? ⟨B, 0, none⟩ = some (.slice (some ⟨b, o, none⟩) (r.length + 1) c) := cell_store (vs := [_, _, _, _, _, _]) y2 rfl
  clear h y0 y1 y2 y3
  go_enter Tryz.func95, Tryz.ntmps95
  go_wp2
  exact ⟨rfl, rfl, rfl⟩
/-- The signs lie where the program's text lays them. -/
def Sg (W : World) : Prop := W.heap[0]? = some (.cells sgL.toArray 107 (0, 0))
/-- Which kind's sign it is. -/
def kdL : List (List UInt8) := [[], [], [126], [38], [124], [61, 62], [60, 61, 62], [33], [63], [36, 116, 114, 117, 101], [36, 102, 97, 108, 115, 101]]
def kdN : List (List UInt8) → List UInt8 → Nat → Nat
  | [], _, _ => 0
  | a :: r, s, i => if a = s then i else kdN r s (i + 1)
/-- The kind whose sign a text is. -/
def kdOf (s : ByteArray) : Nat := kdN kdL s.toList 0
theorem sg_0 (W : World) : (Instr.index 107 (.agg #[.string ⟨#[]⟩, .string ⟨#[]⟩, .string ⟨#[126]⟩, .string ⟨#[38]⟩, .string ⟨#[124]⟩, .string ⟨#[61, 62]⟩, .string ⟨#[60, 61, 62]⟩, .string ⟨#[33]⟩, .string ⟨#[63]⟩, .string ⟨#[36, 116, 114, 117, 101]⟩, .string ⟨#[36, 102, 97, 108, 115, 101]⟩]) (.int .i64 0)).run Tryz.prog W = .ok (.string ⟨#[]⟩) W := by kernel_rfl
theorem sg_1 (W : World) : (Instr.index 107 (.agg #[.string ⟨#[]⟩, .string ⟨#[]⟩, .string ⟨#[126]⟩, .string ⟨#[38]⟩, .string ⟨#[124]⟩, .string ⟨#[61, 62]⟩, .string ⟨#[60, 61, 62]⟩, .string ⟨#[33]⟩, .string ⟨#[63]⟩, .string ⟨#[36, 116, 114, 117, 101]⟩, .string ⟨#[36, 102, 97, 108, 115, 101]⟩]) (.int .i64 1)).run Tryz.prog W = .ok (.string ⟨#[]⟩) W := by kernel_rfl
theorem sg_2 (W : World) : (Instr.index 107 (.agg #[.string ⟨#[]⟩, .string ⟨#[]⟩, .string ⟨#[126]⟩, .string ⟨#[38]⟩, .string ⟨#[124]⟩, .string ⟨#[61, 62]⟩, .string ⟨#[60, 61, 62]⟩, .string ⟨#[33]⟩, .string ⟨#[63]⟩, .string ⟨#[36, 116, 114, 117, 101]⟩, .string ⟨#[36, 102, 97, 108, 115, 101]⟩]) (.int .i64 2)).run Tryz.prog W = .ok (.string ⟨#[126]⟩) W := by kernel_rfl
theorem sg_3 (W : World) : (Instr.index 107 (.agg #[.string ⟨#[]⟩, .string ⟨#[]⟩, .string ⟨#[126]⟩, .string ⟨#[38]⟩, .string ⟨#[124]⟩, .string ⟨#[61, 62]⟩, .string ⟨#[60, 61, 62]⟩, .string ⟨#[33]⟩, .string ⟨#[63]⟩, .string ⟨#[36, 116, 114, 117, 101]⟩, .string ⟨#[36, 102, 97, 108, 115, 101]⟩]) (.int .i64 3)).run Tryz.prog W = .ok (.string ⟨#[38]⟩) W := by kernel_rfl
theorem sg_4 (W : World) : (Instr.index 107 (.agg #[.string ⟨#[]⟩, .string ⟨#[]⟩, .string ⟨#[126]⟩, .string ⟨#[38]⟩, .string ⟨#[124]⟩, .string ⟨#[61, 62]⟩, .string ⟨#[60, 61, 62]⟩, .string ⟨#[33]⟩, .string ⟨#[63]⟩, .string ⟨#[36, 116, 114, 117, 101]⟩, .string ⟨#[36, 102, 97, 108, 115, 101]⟩]) (.int .i64 4)).run Tryz.prog W = .ok (.string ⟨#[124]⟩) W := by kernel_rfl
theorem sg_5 (W : World) : (Instr.index 107 (.agg #[.string ⟨#[]⟩, .string ⟨#[]⟩, .string ⟨#[126]⟩, .string ⟨#[38]⟩, .string ⟨#[124]⟩, .string ⟨#[61, 62]⟩, .string ⟨#[60, 61, 62]⟩, .string ⟨#[33]⟩, .string ⟨#[63]⟩, .string ⟨#[36, 116, 114, 117, 101]⟩, .string ⟨#[36, 102, 97, 108, 115, 101]⟩]) (.int .i64 5)).run Tryz.prog W = .ok (.string ⟨#[61, 62]⟩) W := by kernel_rfl
theorem sg_6 (W : World) : (Instr.index 107 (.agg #[.string ⟨#[]⟩, .string ⟨#[]⟩, .string ⟨#[126]⟩, .string ⟨#[38]⟩, .string ⟨#[124]⟩, .string ⟨#[61, 62]⟩, .string ⟨#[60, 61, 62]⟩, .string ⟨#[33]⟩, .string ⟨#[63]⟩, .string ⟨#[36, 116, 114, 117, 101]⟩, .string ⟨#[36, 102, 97, 108, 115, 101]⟩]) (.int .i64 6)).run Tryz.prog W = .ok (.string ⟨#[60, 61, 62]⟩) W := by kernel_rfl
theorem sg_7 (W : World) : (Instr.index 107 (.agg #[.string ⟨#[]⟩, .string ⟨#[]⟩, .string ⟨#[126]⟩, .string ⟨#[38]⟩, .string ⟨#[124]⟩, .string ⟨#[61, 62]⟩, .string ⟨#[60, 61, 62]⟩, .string ⟨#[33]⟩, .string ⟨#[63]⟩, .string ⟨#[36, 116, 114, 117, 101]⟩, .string ⟨#[36, 102, 97, 108, 115, 101]⟩]) (.int .i64 7)).run Tryz.prog W = .ok (.string ⟨#[33]⟩) W := by kernel_rfl
theorem sg_8 (W : World) : (Instr.index 107 (.agg #[.string ⟨#[]⟩, .string ⟨#[]⟩, .string ⟨#[126]⟩, .string ⟨#[38]⟩, .string ⟨#[124]⟩, .string ⟨#[61, 62]⟩, .string ⟨#[60, 61, 62]⟩, .string ⟨#[33]⟩, .string ⟨#[63]⟩, .string ⟨#[36, 116, 114, 117, 101]⟩, .string ⟨#[36, 102, 97, 108, 115, 101]⟩]) (.int .i64 8)).run Tryz.prog W = .ok (.string ⟨#[63]⟩) W := by kernel_rfl
theorem sg_9 (W : World) : (Instr.index 107 (.agg #[.string ⟨#[]⟩, .string ⟨#[]⟩, .string ⟨#[126]⟩, .string ⟨#[38]⟩, .string ⟨#[124]⟩, .string ⟨#[61, 62]⟩, .string ⟨#[60, 61, 62]⟩, .string ⟨#[33]⟩, .string ⟨#[63]⟩, .string ⟨#[36, 116, 114, 117, 101]⟩, .string ⟨#[36, 102, 97, 108, 115, 101]⟩]) (.int .i64 9)).run Tryz.prog W = .ok (.string ⟨#[36, 116, 114, 117, 101]⟩) W := by kernel_rfl
theorem sg_10 (W : World) : (Instr.index 107 (.agg #[.string ⟨#[]⟩, .string ⟨#[]⟩, .string ⟨#[126]⟩, .string ⟨#[38]⟩, .string ⟨#[124]⟩, .string ⟨#[61, 62]⟩, .string ⟨#[60, 61, 62]⟩, .string ⟨#[33]⟩, .string ⟨#[63]⟩, .string ⟨#[36, 116, 114, 117, 101]⟩, .string ⟨#[36, 102, 97, 108, 115, 101]⟩]) (.int .i64 10)).run Tryz.prog W = .ok (.string ⟨#[36, 102, 97, 108, 115, 101]⟩) W := by kernel_rfl
theorem kindOf_any (s : ByteArray) (w : World) (hs : Sg w) : Calls Tryz.prog 131 #[.string s] w fun e w' => e = .returned (.int .i64 (kdOf s : Nat)) ∧ w' = w := by
  have g : ∀ i v, sgL[i]? = some v → w.cell? ⟨0, i, none⟩ = some v := fun i v hv => cell_store hs hv
  have g0 := g 0 _ rfl
  have g1 := g 1 _ rfl
  have g2 := g 2 _ rfl
  have g3 := g 3 _ rfl
  have g4 := g 4 _ rfl
  have g5 := g 5 _ rfl
  have g6 := g 6 _ rfl
  have g7 := g 7 _ rfl
  have g8 := g 8 _ rfl
  have g9 := g 9 _ rfl
  have g10 := g 10 _ rfl
  clear g hs
  have HK : Hid (kdOf s = kdN (kdL.drop 0) s.toList 0) := rfl
  go_enter Tryz.func131, Tryz.ntmps131
  go_wp2
  go_loopw [6] (fun vi wr => ∃ j : Nat, vi = .int .i64 j ∧ j ≤ 11 ∧ wr = w ∧ Hid (kdOf s = kdN (kdL.drop j) s.toList j)) (fun vi _ => 11 - (intOf vi).toNat)
  case atStart => exact ⟨0, rfl, Nat.zero_le _, rfl, HK.out⟩
  case round =>
    obtain ⟨j, rfl, hj, rfl, HI⟩ := hrel
    clear g0 g1 g2 g3 g4 g5 g6 g7 g8 g9 g10 HK
    have hj' : j = 0 ∨ j = 1 ∨ j = 2 ∨ j = 3 ∨ j = 4 ∨ j = 5 ∨ j = 6 ∨ j = 7 ∨ j = 8 ∨ j = 9 ∨ j = 10 ∨ j = 11 := by omega
    clear hj
    rcases hj' with rfl | rfl | rfl | rfl | rfl | rfl | rfl | rfl | rfl | rfl | rfl | rfl
    · have q0 := sg_0 wr
      have HJ : Hid (kdOf s = if ([] : List UInt8) = s.toList then 0 else kdN (kdL.drop 1) s.toList 1) := HI.out
      clear HI
      by_cases h : ([] : List UInt8) = s.toList
      · have hb : (([] : List UInt8) == s.toList) = true := by rw [beq_iff_eq]; exact h
        have HF : Hid (kdOf s = 0) := by show kdOf s = 0; rw [HJ.out, if_pos h]
        clear HJ h
        go_wp2
        go_ret
        exact ⟨by rw [HF.out]; rfl, rfl⟩
      · have hb : (([] : List UInt8) == s.toList) = false := by rw [beq_eq_false_iff_ne]; exact h
        have HF : Hid (kdOf s = kdN (kdL.drop 1) s.toList 1) := by show kdOf s = _; rw [HJ.out, if_neg h]
        clear HJ h
        go_wp2
        go_roundw
        case rel => exact ⟨1, by go_num, by omega, trivial, HF.out⟩
        case measure => simp [intOf]
    · have q0 := sg_1 wr
      have HJ : Hid (kdOf s = if ([] : List UInt8) = s.toList then 1 else kdN (kdL.drop 2) s.toList 2) := HI.out
      clear HI
      by_cases h : ([] : List UInt8) = s.toList
      · have hb : (([] : List UInt8) == s.toList) = true := by rw [beq_iff_eq]; exact h
        have HF : Hid (kdOf s = 1) := by show kdOf s = 1; rw [HJ.out, if_pos h]
        clear HJ h
        go_wp2
        go_ret
        exact ⟨by rw [HF.out]; rfl, rfl⟩
      · have hb : (([] : List UInt8) == s.toList) = false := by rw [beq_eq_false_iff_ne]; exact h
        have HF : Hid (kdOf s = kdN (kdL.drop 2) s.toList 2) := by show kdOf s = _; rw [HJ.out, if_neg h]
        clear HJ h
        go_wp2
        go_roundw
        case rel => exact ⟨2, by go_num, by omega, trivial, HF.out⟩
        case measure => simp [intOf]
    · have q0 := sg_2 wr
      have HJ : Hid (kdOf s = if ([126] : List UInt8) = s.toList then 2 else kdN (kdL.drop 3) s.toList 3) := HI.out
      clear HI
      by_cases h : ([126] : List UInt8) = s.toList
      · have hb : (([126] : List UInt8) == s.toList) = true := by rw [beq_iff_eq]; exact h
        have HF : Hid (kdOf s = 2) := by show kdOf s = 2; rw [HJ.out, if_pos h]
        clear HJ h
        go_wp2
        go_ret
        exact ⟨by rw [HF.out]; rfl, rfl⟩
      · have hb : (([126] : List UInt8) == s.toList) = false := by rw [beq_eq_false_iff_ne]; exact h
        have HF : Hid (kdOf s = kdN (kdL.drop 3) s.toList 3) := by show kdOf s = _; rw [HJ.out, if_neg h]
        clear HJ h
        go_wp2
        go_roundw
        case rel => exact ⟨3, by go_num, by omega, trivial, HF.out⟩
        case measure => simp [intOf]
    · have q0 := sg_3 wr
      have HJ : Hid (kdOf s = if ([38] : List UInt8) = s.toList then 3 else kdN (kdL.drop 4) s.toList 4) := HI.out
      clear HI
      by_cases h : ([38] : List UInt8) = s.toList
      · have hb : (([38] : List UInt8) == s.toList) = true := by rw [beq_iff_eq]; exact h
        have HF : Hid (kdOf s = 3) := by show kdOf s = 3; rw [HJ.out, if_pos h]
        clear HJ h
        go_wp2
        go_ret
        exact ⟨by rw [HF.out]; rfl, rfl⟩
      · have hb : (([38] : List UInt8) == s.toList) = false := by rw [beq_eq_false_iff_ne]; exact h
        have HF : Hid (kdOf s = kdN (kdL.drop 4) s.toList 4) := by show kdOf s = _; rw [HJ.out, if_neg h]
        clear HJ h
        go_wp2
        go_roundw
        case rel => exact ⟨4, by go_num, by omega, trivial, HF.out⟩
        case measure => simp [intOf]
    · have q0 := sg_4 wr
      have HJ : Hid (kdOf s = if ([124] : List UInt8) = s.toList then 4 else kdN (kdL.drop 5) s.toList 5) := HI.out
      clear HI
      by_cases h : ([124] : List UInt8) = s.toList
      · have hb : (([124] : List UInt8) == s.toList) = true := by rw [beq_iff_eq]; exact h
        have HF : Hid (kdOf s = 4) := by show kdOf s = 4; rw [HJ.out, if_pos h]
        clear HJ h
        go_wp2
        go_ret
        exact ⟨by rw [HF.out]; rfl, rfl⟩
      · have hb : (([124] : List UInt8) == s.toList) = false := by rw [beq_eq_false_iff_ne]; exact h
        have HF : Hid (kdOf s = kdN (kdL.drop 5) s.toList 5) := by show kdOf s = _; rw [HJ.out, if_neg h]
        clear HJ h
        go_wp2
        go_roundw
        case rel => exact ⟨5, by go_num, by omega, trivial, HF.out⟩
        case measure => simp [intOf]
    · have q0 := sg_5 wr
      have HJ : Hid (kdOf s = if ([61, 62] : List UInt8) = s.toList then 5 else kdN (kdL.drop 6) s.toList 6) := HI.out
      clear HI
      by_cases h : ([61, 62] : List UInt8) = s.toList
      · have hb : (([61, 62] : List UInt8) == s.toList) = true := by rw [beq_iff_eq]; exact h
        have HF : Hid (kdOf s = 5) := by show kdOf s = 5; rw [HJ.out, if_pos h]
        clear HJ h
        go_wp2
        go_ret
        exact ⟨by rw [HF.out]; rfl, rfl⟩
      · have hb : (([61, 62] : List UInt8) == s.toList) = false := by rw [beq_eq_false_iff_ne]; exact h
        have HF : Hid (kdOf s = kdN (kdL.drop 6) s.toList 6) := by show kdOf s = _; rw [HJ.out, if_neg h]
        clear HJ h
        go_wp2
        go_roundw
        case rel => exact ⟨6, by go_num, by omega, trivial, HF.out⟩
        case measure => simp [intOf]
    · have q0 := sg_6 wr
      have HJ : Hid (kdOf s = if ([60, 61, 62] : List UInt8) = s.toList then 6 else kdN (kdL.drop 7) s.toList 7) := HI.out
      clear HI
      by_cases h : ([60, 61, 62] : List UInt8) = s.toList
      · have hb : (([60, 61, 62] : List UInt8) == s.toList) = true := by rw [beq_iff_eq]; exact h
        have HF : Hid (kdOf s = 6) := by show kdOf s = 6; rw [HJ.out, if_pos h]
        clear HJ h
        go_wp2
        go_ret
        exact ⟨by rw [HF.out]; rfl, rfl⟩
      · have hb : (([60, 61, 62] : List UInt8) == s.toList) = false := by rw [beq_eq_false_iff_ne]; exact h
        have HF : Hid (kdOf s = kdN (kdL.drop 7) s.toList 7) := by show kdOf s = _; rw [HJ.out, if_neg h]
        clear HJ h
        go_wp2
        go_roundw
        case rel => exact ⟨7, by go_num, by omega, trivial, HF.out⟩
        case measure => simp [intOf]
    · have q0 := sg_7 wr
      have HJ : Hid (kdOf s = if ([33] : List UInt8) = s.toList then 7 else kdN (kdL.drop 8) s.toList 8) := HI.out
      clear HI
      by_cases h : ([33] : List UInt8) = s.toList
      · have hb : (([33] : List UInt8) == s.toList) = true := by rw [beq_iff_eq]; exact h
        have HF : Hid (kdOf s = 7) := by show kdOf s = 7; rw [HJ.out, if_pos h]
        clear HJ h
        go_wp2
        go_ret
        exact ⟨by rw [HF.out]; rfl, rfl⟩
      · have hb : (([33] : List UInt8) == s.toList) = false := by rw [beq_eq_false_iff_ne]; exact h
        have HF : Hid (kdOf s = kdN (kdL.drop 8) s.toList 8) := by show kdOf s = _; rw [HJ.out, if_neg h]
        clear HJ h
        go_wp2
        go_roundw
        case rel => exact ⟨8, by go_num, by omega, trivial, HF.out⟩
        case measure => simp [intOf]
    · have q0 := sg_8 wr
      have HJ : Hid (kdOf s = if ([63] : List UInt8) = s.toList then 8 else kdN (kdL.drop 9) s.toList 9) := HI.out
      clear HI
      by_cases h : ([63] : List UInt8) = s.toList
      · have hb : (([63] : List UInt8) == s.toList) = true := by rw [beq_iff_eq]; exact h
        have HF : Hid (kdOf s = 8) := by show kdOf s = 8; rw [HJ.out, if_pos h]
        clear HJ h
        go_wp2
        go_ret
        exact ⟨by rw [HF.out]; rfl, rfl⟩
      · have hb : (([63] : List UInt8) == s.toList) = false := by rw [beq_eq_false_iff_ne]; exact h
        have HF : Hid (kdOf s = kdN (kdL.drop 9) s.toList 9) := by show kdOf s = _; rw [HJ.out, if_neg h]
        clear HJ h
        go_wp2
        go_roundw
        case rel => exact ⟨9, by go_num, by omega, trivial, HF.out⟩
        case measure => simp [intOf]
    · have q0 := sg_9 wr
      have HJ : Hid (kdOf s = if ([36, 116, 114, 117, 101] : List UInt8) = s.toList then 9 else kdN (kdL.drop 10) s.toList 10) := HI.out
      clear HI
      by_cases h : ([36, 116, 114, 117, 101] : List UInt8) = s.toList
      · have hb : (([36, 116, 114, 117, 101] : List UInt8) == s.toList) = true := by rw [beq_iff_eq]; exact h
        have HF : Hid (kdOf s = 9) := by show kdOf s = 9; rw [HJ.out, if_pos h]
        clear HJ h
        go_wp2
        go_ret
        exact ⟨by rw [HF.out]; rfl, rfl⟩
      · have hb : (([36, 116, 114, 117, 101] : List UInt8) == s.toList) = false := by rw [beq_eq_false_iff_ne]; exact h
        have HF : Hid (kdOf s = kdN (kdL.drop 10) s.toList 10) := by show kdOf s = _; rw [HJ.out, if_neg h]
        clear HJ h
        go_wp2
        go_roundw
        case rel => exact ⟨10, by go_num, by omega, trivial, HF.out⟩
        case measure => simp [intOf]
    · have q0 := sg_10 wr
      have HJ : Hid (kdOf s = if ([36, 102, 97, 108, 115, 101] : List UInt8) = s.toList then 10 else kdN (kdL.drop 11) s.toList 11) := HI.out
      clear HI
      by_cases h : ([36, 102, 97, 108, 115, 101] : List UInt8) = s.toList
      · have hb : (([36, 102, 97, 108, 115, 101] : List UInt8) == s.toList) = true := by rw [beq_iff_eq]; exact h
        have HF : Hid (kdOf s = 10) := by show kdOf s = 10; rw [HJ.out, if_pos h]
        clear HJ h
        go_wp2
        go_ret
        exact ⟨by rw [HF.out]; rfl, rfl⟩
      · have hb : (([36, 102, 97, 108, 115, 101] : List UInt8) == s.toList) = false := by rw [beq_eq_false_iff_ne]; exact h
        have HF : Hid (kdOf s = kdN (kdL.drop 11) s.toList 11) := by show kdOf s = _; rw [HJ.out, if_neg h]
        clear HJ h
        go_wp2
        go_roundw
        case rel => exact ⟨11, by go_num, by omega, trivial, HF.out⟩
        case measure => simp [intOf]
    · have HF : Hid (kdOf s = 0) := HI.out
      clear HI
      go_wp2
      go_ret
      exact ⟨by rw [HF.out]; rfl, rfl⟩
end
section
open Go.RowKit Go.Maps
open Lx (Tk ofL KsAt)
theorem keyed9 : Keyed Tryz.prog 9 := string_keyed Tryz.underlying9
theorem key9 {s : ByteArray} (h : s.size ≤ maxLen) : keyOf Tryz.prog 9 (.string s) = some (.string s.data.toList) := WideMaps.keyOf_string_mk Tryz.underlying9 h
theorem zero3 (w : World) : (zeroValue 3).run Tryz.prog w = .ok (.int .i64 0) w := by kernel_rfl
/-- A map of numbers by names, as a function. -/
def smp (f : ByteArray → Option Int) : Value → Option Value
  | .string s => (f s).map fun c => .int .i64 c
  | _ => none
def fput (f : ByteArray → Option Int) (s : ByteArray) (c : Int) : ByteArray → Option Int := fun x => if x = s then some c else f x
open Classical in
theorem smp_put (f : ByteArray → Option Int) (s : ByteArray) (c : Int) : upd (smp f) (.string s) (.int .i64 c) = smp (fput f s c) := by
  funext v
  unfold upd
  cases v with
  | string x =>
    by_cases h : x = s
    · subst h; simp [smp, fput]
    · simp [smp, fput, h]
  | _ => simp [smp]
/-- Numbers by names in memory; n names at the most. -/
structure Nm (W : World) (b : Nat) (f : ByteArray → Option Int) (n : Nat) : Prop where
  m : ∃ k, k ≤ n ∧ MapIs W 9 b (smp f) k
theorem Nm.lt {W : World} {b n : Nat} {f : ByteArray → Option Int} (h : Nm W b f n) : b < W.heap.size := by obtain ⟨k, _, hm⟩ := h.m; exact hm.lt
theorem Nm.same {W W' : World} {b n : Nat} {f : ByteArray → Option Int} (h : Nm W b f n) (hb : W'.heap[b]? = W.heap[b]?) : Nm W' b f n := by obtain ⟨k, hk, hm⟩ := h.m; exact ⟨k, hk, hm.same hb⟩
theorem Nm.more {W : World} {b n n' : Nat} {f : ByteArray → Option Int} (h : Nm W b f n) (hn : n ≤ n') : Nm W b f n' := by obtain ⟨k, hk, hm⟩ := h.m; exact ⟨k, by omega, hm⟩
theorem Nm.look {W : World} {b n : Nat} {f : ByteArray → Option Int} (h : Nm W b f n) {s : ByteArray} (hs : s.size ≤ maxLen) : (Instr.lookup 50 (.map (some b)) (.string s) false).run Tryz.prog W = .ok (.int .i64 ((f s).getD 0)) W := by
  obtain ⟨k, _, hm⟩ := h.m
  obtain ⟨h1, h2⟩ := hm.look keyed9 Tryz.underlying50 (zero3 W) (key9 hs)
  cases hf : f s with
  | none => exact (h2 (by simp [smp, hf])).2
  | some c => exact (h1 (.int .i64 c) (by simp [smp, hf])).2
theorem Nm.put {W : World} {b n : Nat} {f : ByteArray → Option Int} (h : Nm W b f n) (hn : n < maxLen) {s : ByteArray} (hs : s.size ≤ maxLen) (c : Int) : ∃ W', (Instr.mapUpdate 50 (.map (some b)) (.string s) (.int .i64 c)).run Tryz.prog W = .ok () W' ∧ Nm W' b (fput f s c) (n + 1) ∧ Only [b] W W' := by
  obtain ⟨k, hk, hm⟩ := h.m
  obtain ⟨W', h1, h2, h3⟩ := hm.put keyed9 Tryz.underlying50 (by omega) (key9 hs) (.int .i64 c)
  rw [smp_put] at h2
  refine ⟨W', h1, ⟨_, ?_, h2⟩, Only.of_grown h3 (fun r e => by cases e; simp)⟩
  cases smp f (.string s) with
  | none => simp only; omega
  | some _ => simp only; omega
theorem wrap1 {n : Int} (h0 : 0 ≤ n) (h : n ≤ 1048576000) : wrap64 (n + 1) = n + 1 := by unfold wrap64; omega
/-- A name that is bound. -/
theorem meet_bound {w : World} {mb mm n : Nat} {f : ByteArray → Option Int} (hf : Nm w mb f n) (s : ByteArray) (hs : s.size ≤ maxLen) (h : 0 < (f s).getD 0) :
    Calls Tryz.prog 121 #[.agg #[.map (some mb), .map (some mm)], .string s] w fun e w' => e = .returned (.bool false) ∧ Below w.heap.size w w' := by
  have hb := below_box w (.cells #[.map (some mb), .map (some mm)] 52)
  have h2 := hf.same (hb.block mb hf.lt)
  have hl := h2.look hs
  have hz := (MapKept.heap_alloc w (.cells #[.map (some mb), .map (some mm)] 52)).1
  obtain ⟨W1, hW1⟩ : ∃ X, w.alloc (.cells #[.map (some mb), .map (some mm)] 52) = X := ⟨_, rfl⟩
  rw [hW1] at hb hl hz
  have x0 : W1.cell? ⟨w.heap.size, 0, none⟩ = some (.map (some mb)) := cell_store (vs := [_, _]) hz rfl
  have HB := hid hb
  obtain ⟨c, hc⟩ : ∃ c, (f s).getD 0 = c := ⟨_, rfl⟩
  rw [hc] at hl h
  clear hf h2 hb hz hc
  go_enter Tryz.func121, Tryz.ntmps121
  go_upto_region 1 with fail
  try rw [hW1]
  clear hW1
  go_wp2
  go_ret
  exact ⟨rfl, HB.out⟩
/-- A name that is free. -/
theorem meet_free {w : World} {mb mm n k : Nat} {f g : ByteArray → Option Int} (hf : Nm w mb f n) (hg : Nm w mm g k) (hk : k < maxLen) (s : ByteArray) (hs : s.size ≤ maxLen) (h : ¬ 0 < (f s).getD 0) (h0 : 0 ≤ (g s).getD 0) (h1 : (g s).getD 0 ≤ 1048576000) :
    Calls Tryz.prog 121 #[.agg #[.map (some mb), .map (some mm)], .string s] w fun e w' => e = .returned (.bool (decide ((g s).getD 0 = 0))) ∧ Nm w' mm (fput g s ((g s).getD 0 + 1)) (k + 1) ∧ Only [mm] w w' := by
  have hb := below_box w (.cells #[.map (some mb), .map (some mm)] 52)
  have hl := (hf.same (hb.block mb hf.lt)).look hs
  have hl2 := (hg.same (hb.block mm hg.lt)).look hs
  obtain ⟨W2, hrun, hg2, ho2⟩ := (hg.same (hb.block mm hg.lt)).put hk hs ((g s).getD 0 + 1)
  have hl3 := hg2.look hs
  rw [show (fput g s ((g s).getD 0 + 1) s).getD 0 = (g s).getD 0 + 1 by simp [fput]] at hl3
  have hz := (MapKept.heap_alloc w (.cells #[.map (some mb), .map (some mm)] 52)).1
  have hgl := hg.lt
  have hz2 := (ho2.block w.heap.size (by simp) (by simp; omega)).trans hz
  obtain ⟨W1, hW1⟩ : ∃ X, w.alloc (.cells #[.map (some mb), .map (some mm)] 52) = X := ⟨_, rfl⟩
  rw [hW1] at hb hl hl2 hrun ho2 hz
  have x0 : W1.cell? ⟨w.heap.size, 0, none⟩ = some (.map (some mb)) := cell_store (vs := [_, _]) hz rfl
  have x1 : W1.cell? ⟨w.heap.size, 1, none⟩ = some (.map (some mm)) := cell_store (vs := [_, _]) hz rfl
  have x2 : W2.cell? ⟨w.heap.size, 1, none⟩ = some (.map (some mm)) := cell_store (vs := [_, _]) hz2 rfl
  have HB : Hid (Only [mm] w W2) := (Only.of_below (B := [mm]) hb).trans ho2 (fun r hr => .inl hr)
  have HG := hid hg2
  obtain ⟨c, hc⟩ : ∃ c, (g s).getD 0 = c := ⟨_, rfl⟩
  obtain ⟨d, hd⟩ : ∃ d, (f s).getD 0 = d := ⟨_, rfl⟩
  rw [hc] at hl2 hl3 hrun h0 h1 HG ⊢
  rw [hd] at hl h
  have hw : wrap64 (c + 1) = c + 1 := wrap1 h0 h1
  have hdd : decide (0 < d) = false := decide_eq_false h
  have HQ : Hid ((c + 1 == 1) = decide (c = 0)) := by
    show (c + 1 == 1) = decide (c = 0)
    by_cases e : c = 0
    · subst e; rfl
    · rw [decide_eq_false e, beq_eq_false_iff_ne]; omega
  clear hf hg hb ho2 hg2 hz hz2 hgl hc hd h h0 h1 hk
  go_enter Tryz.func121, Tryz.ntmps121
  go_upto_region 1 with fail
  try rw [hW1]
  clear hW1
  go_wp2
  go_ret
  exact ⟨by rw [← HQ.out]; rfl, HG.out, HB.out⟩
end
section
open Go.RowKit Go.Maps
open Lx (Tk ofL KsAt flK flK_snoc row_keep row_block)
/-- What stays while a text is read: where things lie, the text's length, how many tokens there were. -/
structure Env where
  B : Nat
  mb : Nat
  mm : Nat
  n0 : Nat
  n : Nat
  N : Nat
structure TkOk (t : Tk) : Prop where
  len63 : t.t.length ≤ 63
  dol : t.k = 3 → t.t = Lx.dTrue ∨ t.t = Lx.dFalse
  mark : t.k = 4 → t.t ∈ Lx.mks
theorem TkOk.len {t : Tk} (h : TkOk t) : t.t.length ≤ maxLen := Nat.le_trans h.len63 (by decide)
/-- The first ones of each name. -/
def firsts (l : List Tk) : List Tk := l.foldl (fun acc t => if t.t ∈ acc.map Tk.t then acc else acc ++ [t]) []
theorem firsts_snoc (l : List Tk) (t : Tk) : firsts (l ++ [t]) = if t.t ∈ (firsts l).map Tk.t then firsts l else firsts l ++ [t] := by simp [firsts, List.foldl_append]
theorem mem_firstsA (s : List UInt8) : ∀ (l acc : List Tk), s ∈ (l.foldl (fun acc t => if t.t ∈ acc.map Tk.t then acc else acc ++ [t]) acc).map Tk.t ↔ s ∈ acc.map Tk.t ∨ s ∈ l.map Tk.t
  | [], acc => by simp
  | t :: r, acc => by
    rw [List.foldl_cons, mem_firstsA s r, List.map_cons, List.mem_cons]
    by_cases h : t.t ∈ acc.map Tk.t
    · rw [if_pos h]
      constructor
      · rintro (h1 | h1)
        · exact .inl h1
        · exact .inr (.inr h1)
      · rintro (h1 | rfl | h1)
        · exact .inl h1
        · exact .inl h
        · exact .inr h1
    · rw [if_neg h, List.map_append, List.mem_append]
      simp only [List.map_cons, List.map_nil, List.mem_singleton]
      exact or_assoc
theorem mem_firsts (l : List Tk) (s : List UInt8) : s ∈ (firsts l).map Tk.t ↔ s ∈ l.map Tk.t := by
  rw [firsts, mem_firstsA]; simp
theorem firsts_len : ∀ (l acc : List Tk), (l.foldl (fun acc t => if t.t ∈ acc.map Tk.t then acc else acc ++ [t]) acc).length ≤ acc.length + l.length
  | [], acc => by simp
  | t :: r, acc => by
    rw [List.foldl_cons]
    have := firsts_len r (if t.t ∈ acc.map Tk.t then acc else acc ++ [t])
    by_cases h : t.t ∈ acc.map Tk.t
    · rw [if_pos h] at this ⊢; simp only [List.length_cons]; omega
    · rw [if_neg h] at this ⊢; simp only [List.length_cons, List.length_append, List.length_nil] at this ⊢; omega
theorem ofL_inj {a b : List UInt8} (h : ofL a = ofL b) : a = b := by
  have := congrArg (fun x => x.data.toList) h
  simpa [ofL] using this
structure PSt (E : Env) (W : World) (l : List Tk) (bd : List (List UInt8)) (fr : List Tk) (kb : Nat) (fv c5 : Value) : Prop where
  bx : Bx W E.B E.n E.n0 l (.map (some E.mb)) (.map (some E.mm)) fv c5
  bnd : ∃ f, Nm W E.mb f kb ∧ ∀ s, (f (ofL s)).getD 0 = (bd.count s : Nat)
  met : ∃ g, Nm W E.mm g fr.length ∧ ∀ s, (g (ofL s)).getD 0 = ((fr.map Tk.t).count s : Nat)
  row : W.ownsRow E.n0 57 3 fv (firsts fr).length (flK (firsts fr))
  bud : kb + l.length ≤ E.N
  bud2 : fr.length + l.length ≤ E.N
  mx : E.N ≤ 2097155
  tok : ∀ t ∈ l, TkOk t
  ne : E.mb ≠ E.mm
  lo : E.n0 ≤ E.mb ∧ E.n0 ≤ E.mm
/-- The blocks that reading turns. -/
def Own (E : Env) (fv : Value) (k : Nat) : Prop := k = E.B ∨ k = E.mb ∨ k = E.mm ∨ fv.ownBlock = some k
structure Stay (E : Env) (W : World) (fv : Value) (W' : World) (fv' : Value) : Prop where
  os : W'.os = W.os
  tape : W'.tape = W.tape
  output : W'.output = W.output
  size : W.heap.size ≤ W'.heap.size
  blk : ∀ k, k < W.heap.size → ¬ Own E fv k → W'.heap[k]? = W.heap[k]? ∧ ¬ Own E fv' k
theorem Stay.trans {E : Env} {X Y Z : World} {a b c : Value} (h : Stay E X a Y b) (g : Stay E Y b Z c) : Stay E X a Z c :=
  ⟨g.os.trans h.os, g.tape.trans h.tape, g.output.trans h.output, Nat.le_trans h.size g.size, fun k hk hn => by
    obtain ⟨h1, h2⟩ := h.blk k hk hn
    obtain ⟨g1, g2⟩ := g.blk k (Nat.lt_of_lt_of_le hk h.size) h2
    exact ⟨g1.trans h1, g2⟩⟩
theorem Stay.of_only {E : Env} {X Y : World} {a : Value} {L : List Nat} (h : Only L X Y) (hL : ∀ r ∈ L, Own E a r) : Stay E X a Y a :=
  ⟨h.os, h.tape, h.output, h.size, fun k hk hn => ⟨h.block k hk (fun hm => hn (hL k hm)), hn⟩⟩
theorem Stay.of_below {E : Env} {X Y : World} {a : Value} (h : Below X.heap.size X Y) : Stay E X a Y a :=
  ⟨h.os, h.tape, h.output, h.size, fun k hk hn => ⟨h.block k hk, hn⟩⟩
theorem Stay.refl (E : Env) (X : World) (a : Value) : Stay E X a X a := Stay.of_below (Below.refl _ X)
section
variable {E : Env} {W W' : World} {l q : List Tk} {bd : List (List UInt8)} {fr : List Tk} {kb : Nat} {fv c5 : Value}
theorem PSt.boxAt (h : PSt E W l bd fr kb fv c5) : ∃ rv, W.heap[E.B]? = some (.cells #[rv, .int .i64 (E.n : Nat), .map (some E.mb), .map (some E.mm), fv, c5] 55 (0, 0)) := by obtain ⟨rv, h1, _⟩ := h.bx.ks; exact ⟨rv, h1⟩
theorem PSt.fvB (h : PSt E W l bd fr kb fv c5) : fv.ownBlock ≠ some E.B := by
  intro hg
  obtain ⟨_, c, hc⟩ := row_block h.row hg
  obtain ⟨rv, hb⟩ := h.boxAt
  rw [hc] at hb
  cases hb
theorem Nm.notCells {b n : Nat} {f : ByteArray → Option Int} (h : Nm W b f n) {c : Array Value} {ty : TypeId} {x : Nat × Nat} : W.heap[b]? ≠ some (.cells c ty x) := by
  obtain ⟨k, _, hm⟩ := h.m
  intro e
  obtain ⟨D, ⟨es, clock, hb', r⟩, h2⟩ := hm
  rw [hb'] at e
  cases e
theorem PSt.mbB (h : PSt E W l bd fr kb fv c5) : E.mb ≠ E.B := by
  intro e
  obtain ⟨f, hf, _⟩ := h.bnd
  obtain ⟨rv, hb⟩ := h.boxAt
  rw [← e] at hb
  exact hf.notCells hb
theorem PSt.mmB (h : PSt E W l bd fr kb fv c5) : E.mm ≠ E.B := by
  intro e
  obtain ⟨f, hf, _⟩ := h.met
  obtain ⟨rv, hb⟩ := h.boxAt
  rw [← e] at hb
  exact hf.notCells hb
theorem PSt.fvb (h : PSt E W l bd fr kb fv c5) : fv.ownBlock ≠ some E.mb := by
  intro hg
  obtain ⟨_, c, hc⟩ := row_block h.row hg
  obtain ⟨f, hf, _⟩ := h.bnd
  exact hf.notCells hc
theorem PSt.fvm (h : PSt E W l bd fr kb fv c5) : fv.ownBlock ≠ some E.mm := by
  intro hg
  obtain ⟨_, c, hc⟩ := row_block h.row hg
  obtain ⟨f, hf, _⟩ := h.met
  exact hf.notCells hc
theorem PSt.fvlt (h : PSt E W l bd fr kb fv c5) {g : Nat} (hg : fv.ownBlock = some g) : E.n0 ≤ g ∧ g < W.heap.size := by
  obtain ⟨h1, c, hc⟩ := row_block h.row hg
  exact ⟨h1, (Array.getElem?_eq_some_iff.1 hc).1⟩
theorem PSt.ownlt (h : PSt E W l bd fr kb fv c5) {k : Nat} (hk : Own E fv k) : E.n0 ≤ k ∧ k < W.heap.size := by
  rcases hk with rfl | rfl | rfl | hk
  · obtain ⟨rv, hb⟩ := h.boxAt
    exact ⟨h.bx.mB, (Array.getElem?_eq_some_iff.1 hb).1⟩
  · obtain ⟨f, hf, _⟩ := h.bnd
    exact ⟨h.lo.1, hf.lt⟩
  · obtain ⟨f, hf, _⟩ := h.met
    exact ⟨h.lo.2, hf.lt⟩
  · exact h.fvlt hk
/-- Blocks have come. -/
theorem PSt.keep (h : PSt E W l bd fr kb fv c5) (hb : Below W.heap.size W W') : PSt E W' l bd fr kb fv c5 := by
  obtain ⟨f, hf, hf2⟩ := h.bnd
  obtain ⟨g, hg, hg2⟩ := h.met
  exact ⟨h.bx.keep hb, ⟨f, hf.same (hb.block _ hf.lt), hf2⟩, ⟨g, hg.same (hb.block _ hg.lt), hg2⟩, row_keep h.row (fun r hr => hb.block r (h.fvlt hr).2), h.bud, h.bud2, h.mx, h.tok, h.ne, h.lo⟩
/-- Tokens are gone. -/
theorem PSt.eat (h : PSt E W l bd fr kb fv c5) (hx : Bx W' E.B E.n E.n0 q (.map (some E.mb)) (.map (some E.mm)) fv c5) (ho : Only [E.B] W W') (hq : q <:+ l) : PSt E W' q bd fr kb fv c5 ∧ Stay E W fv W' fv := by
  obtain ⟨f, hf, hf2⟩ := h.bnd
  obtain ⟨g, hg, hg2⟩ := h.met
  have hl := hq.length_le
  have b1 := h.bud
  have b2 := h.bud2
  refine ⟨⟨hx, ⟨f, hf.same (ho.block _ hf.lt (by simpa using h.mbB)), hf2⟩, ⟨g, hg.same (ho.block _ hg.lt (by simpa using h.mmB)), hg2⟩, row_keep h.row (fun r hr => ho.block r (h.fvlt hr).2 (fun hm => by simp at hm; subst hm; exact h.fvB hr)), by omega, by omega, h.mx, fun t ht => h.tok t (hq.subset ht), h.ne, h.lo⟩, Stay.of_only ho (fun r hr => by simp at hr; exact .inl hr)⟩
end
section
variable {E : Env} {w : World} {t : Tk} {r l : List Tk} {bd : List (List UInt8)} {fr : List Tk} {kb : Nat} {fv c5 : Value}
theorem pskip_yes (h : PSt E w (t :: r) bd fr kb fv c5) (s : ByteArray) (hs : signB (t :: r) = s) :
    Calls Tryz.prog 134 #[.pointer (some ⟨E.B, 0, none⟩), .string s] w fun e w' => e = .returned (.bool true) ∧ PSt E w' r bd fr kb fv c5 ∧ Stay E w fv w' fv := by
  refine (skip_yes h.bx s hs).mono ?_
  rintro e w' ⟨he, h1, h2⟩
  exact ⟨he, h.eat h1 h2 (List.suffix_cons t r)⟩
theorem pskip_no (h : PSt E w l bd fr kb fv c5) (s : ByteArray) (hs : signB l ≠ s) :
    Calls Tryz.prog 134 #[.pointer (some ⟨E.B, 0, none⟩), .string s] w fun e w' => e = .returned (.bool false) ∧ PSt E w' l bd fr kb fv c5 ∧ Stay E w fv w' fv := by
  refine (skip_no h.bx s hs).mono ?_
  rintro e w' ⟨he, h1⟩
  exact ⟨he, h.keep h1, Stay.of_below h1⟩
theorem pmust_yes (h : PSt E w (t :: r) bd fr kb fv c5) (s : ByteArray) (hs : signB (t :: r) = s) :
    Calls Tryz.prog 133 #[.pointer (some ⟨E.B, 0, none⟩), .string s] w fun e w' => e = .returned (.tuple #[]) ∧ PSt E w' r bd fr kb fv c5 ∧ Stay E w fv w' fv := by
  refine (must_yes h.bx s hs).mono ?_
  rintro e w' ⟨he, h1, h2⟩
  exact ⟨he, h.eat h1 h2 (List.suffix_cons t r)⟩
theorem pmust_no (h : PSt E w l bd fr kb fv c5) (s : ByteArray) (hs : signB l ≠ s) :
    Calls Tryz.prog 133 #[.pointer (some ⟨E.B, 0, none⟩), .string s] w fun e w' => e = .panicked misfit ∧ PSt E w' l bd fr kb fv c5 ∧ Stay E w fv w' fv := by
  refine (must_no h.bx s hs).mono ?_
  rintro e w' ⟨he, h1⟩
  exact ⟨he, h.keep h1, Stay.of_below h1⟩
theorem ptake_yes (h : PSt E w (t :: r) bd fr kb fv c5) :
    Calls Tryz.prog 207 #[.pointer (some ⟨E.B, 0, none⟩), .int .i64 t.k] w fun e w' => e = .returned (tokV E.n (t :: r)) ∧ PSt E w' r bd fr kb fv c5 ∧ Stay E w fv w' fv := by
  refine (take_yes h.bx).mono ?_
  rintro e w' ⟨he, h1, h2⟩
  exact ⟨he, h.eat h1 h2 (List.suffix_cons t r)⟩
theorem ptake_no (h : PSt E w l bd fr kb fv c5) (k : Int) (hk : isK k l = false) (hk0 : k ≠ 0) :
    Calls Tryz.prog 207 #[.pointer (some ⟨E.B, 0, none⟩), .int .i64 k] w fun e w' => e = .panicked misfit ∧ PSt E w' l bd fr kb fv c5 ∧ Stay E w fv w' fv := by
  refine (take_no h.bx k hk hk0).mono ?_
  rintro e w' ⟨he, h1⟩
  exact ⟨he, h.keep h1, Stay.of_below h1⟩
theorem pahead (h : PSt E w l bd fr kb fv c5) :
    Calls Tryz.prog 56 #[.pointer (some ⟨E.B, 0, none⟩)] w fun e w' => e = .returned (tokV E.n l) ∧ PSt E w' l bd fr kb fv c5 ∧ Stay E w fv w' fv := by
  refine (ahead_any h.bx).mono ?_
  rintro e w' ⟨he, h1⟩
  exact ⟨he, h.keep h1, Stay.of_below h1⟩
/-- A sign that is no dollar word. -/
theorem sign_is {m : List UInt8} (h0 : m ≠ []) (h1 : m ≠ Lx.dTrue) (h2 : m ≠ Lx.dFalse) (hl : ∀ t ∈ l, TkOk t) : signB l = ofL m ↔ isM m l = true := by
  cases l with
  | nil =>
    constructor
    · intro h; exact absurd (ofL_inj (a := []) h).symm h0
    · intro h; cases h
  | cons t r =>
    show (if t.k = 4 ∨ t.k = 3 then ofL t.t else ⟨#[]⟩) = ofL m ↔ (decide (t.k = 4) && decide (t.t = m)) = true
    rw [Bool.and_eq_true, decide_eq_true_eq, decide_eq_true_eq]
    constructor
    · intro h
      by_cases h4 : t.k = 4
      · rw [if_pos (.inl h4)] at h; exact ⟨h4, ofL_inj h⟩
      · by_cases h3 : t.k = 3
        · rw [if_pos (.inr h3)] at h
          have e := ofL_inj h
          rcases (hl t (List.mem_cons_self ..)).dol h3 with hd | hd
          · exact absurd (e.symm.trans hd) h1
          · exact absurd (e.symm.trans hd) h2
        · rw [if_neg (fun h => h.elim h4 h3)] at h
          exact absurd (ofL_inj (a := []) h).symm h0
    · rintro ⟨h4, ht⟩
      rw [if_pos (.inl h4), ht]
theorem sign_not {m : List UInt8} (h0 : m ≠ []) (h1 : m ≠ Lx.dTrue) (h2 : m ≠ Lx.dFalse) (hl : ∀ t ∈ l, TkOk t) (hm : isM m l = false) : signB l ≠ ofL m := fun h => by
  rw [(sign_is h0 h1 h2 hl).1 h] at hm; cases hm
end
end
