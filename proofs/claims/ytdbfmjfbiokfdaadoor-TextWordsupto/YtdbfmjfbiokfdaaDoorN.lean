/-
  The walks of Words, of the document's Words and of the comparison of two lists of texts.
-/
import Derived.Test.YtdbfmjfbiokfdaaDoorL
import Derived.Maps.AppendAt
import Derived.OwnWalk
import Derived.RangeFuncBox
namespace Go.Proofs.YtdbfmjfbiokfdaaDoor
open Go.RowKit

theorem Tryd.info9 : (Tryd.prog.info? 9).map (fun i => (i.zero, i.size, i.bytes)) = some (some (.string ⟨#[]⟩), 1, 16) := by kernel_rfl

/-- Texts as values. -/
def strV (ws : List (List UInt8)) : List Value := ws.map fun w => .string (ofL w)
theorem strV_snoc (ws : List (List UInt8)) (w : List UInt8) : strV (ws ++ [w]) = strV ws ++ [.string (ofL w)] := by simp [strV]

theorem isEmpty_ofL (l : List UInt8) : (ofL l).toList.isEmpty = l.isEmpty := by rw [Lib.toList_data, ofL_data]

set_option maxRecDepth 100000 in
set_option maxHeartbeats 1000000 in
theorem words_any (s : ByteArray) (w : World) (hs : s.size ≤ 1048576) :
    Calls Tryd.prog 14 #[.string s] w fun e w' => ∃ v, e = .returned v ∧ w'.ownsRow w.heap.size 9 1 v (wordsL s.data.toList).length (strV (wordsL s.data.toList)) ∧ Below w.heap.size w w' := by
  obtain ⟨i0, hi, hz0, hz1, hz2⟩ := info_parts Tryd.info9
  have ad : ∀ (W : World) (j : Nat) (o : Obj), (W.drewN j).alloc o = (W.alloc o).drewN j := fun _ _ _ => rfl
  go_enter Tryd.func14, Tryd.ntmps14
  go_wp2
  go_loopw [0, 3] (fun t v wr => ∃ (u : ByteArray) (done : List (List UInt8)), t = .string u ∧ wr.ownsRow w.heap.size 9 1 v done.length (strV done) ∧ done ++ wordsL u.data.toList = wordsL s.data.toList ∧ done.length + u.size ≤ s.size ∧ Below w.heap.size w wr) (fun t _ _ => sizeOfV t)
  case atStart => exact ⟨s, [], rfl, World.ownsRow_nil _ _ _ _, rfl, by simp, Below.refl _ _⟩
  case round =>
    obtain ⟨u, done, rfl, hrow, hd, hl, hb⟩ := hrel
    have HD : Hid (done ++ wordsL u.data.toList = wordsL s.data.toList) := hd
    clear hd
    by_cases hp : 0 < u.size
    · have hE := toList_nil hp
      have hne : u.data.toList ≠ [] := by intro e; have := size_len u; rw [e] at this; simp at this; omega
      obtain ⟨hc1, hc2, hc3⟩ := cut_less u.data.toList hne
      rw [size_len] at hc1 hc2 hc3
      have HW : Hid (wordsL u.data.toList = (if (cutS u.data.toList).1 = [] then [] else [(cutS u.data.toList).1]) ++ wordsL (cutS u.data.toList).2) := words_cut _
      obtain ⟨cw, cr, hcut⟩ : ∃ cw cr, cutS u.data.toList = (cw, cr) := ⟨_, _, rfl⟩
      have HC := cut_any u wr (by unfold maxLen; omega)
      rw [hcut] at hc1 hc2 hc3 HW HC
      clear hcut
      simp only at hc1 hc2 hc3
      by_cases hw : cw = []
      · have hE2 : (ofL cw).toList.isEmpty = true := by rw [isEmpty_ofL, hw]; rfl
        have HW2 : Hid (cw = []) := hw
        clear hw
        go_wp2_with (go_at_call 11; refine HC.mono ?_; clear HC; rintro e w' ⟨rfl, q, rfl⟩)
        go_roundw
        case rel => exact ⟨ofL cr, done, rfl, hrow, by rw [← HD.out, HW.out, HW2.out]; simp [ofL_data], by rw [ofL_size]; omega, hb.os, hb.tape, hb.output, hb.size, hb.block⟩
        case measure => show (ofL cr).size < u.size; rw [ofL_size]; exact hc1
      · have hE2 : (ofL cw).toList.isEmpty = false := by rw [isEmpty_ofL]; simpa using hw
        go_wp2_with (first | (go_at_call 11; refine HC.mono ?_; clear HC; rintro e w' ⟨rfl, q, rfl⟩) | (at_builtin; refine wpList_append_own _ rfl _ _ 28 rfl w.heap.size 9 i0 _ 1 16 Tryd.underlying28 hi hz0 hz1 hz2 rfl (by decide) _ _ _ rfl (show ((wr.alloc (.cells #[.string (ofL cw)] 9)).drewN q).ownsRow _ _ _ _ _ _ from hrow.alloc _) ⟨wr.heap.size, 0, none⟩ 1 1 [.string (ofL cw)] rfl rfl (cell_one_new wr (.string (ofL cw)) 9) (by simp [Value.oneCell']) (by unfold maxLen; omega) (by omega) (by have := hb.size; simp; omega) ?_; intro v' w1 hown' hgrow _; obtain ⟨g', cap', hv'⟩ := ownsRow_succ hown'; subst hv'))
        go_roundw
        case rel =>
          refine ⟨ofL cr, done ++ [cw], rfl, by rw [strV_snoc, List.length_append]; exact hown', by rw [← HD.out, HW.out, if_neg hw]; simp [ofL_data], by rw [ofL_size, List.length_append]; have := hc3 hw; simp; omega, ?_⟩
          have hb2 := hb.alloc hb.size (.cells #[.string (ofL cw)] 9)
          exact Below.grown (w := (wr.alloc (.cells #[.string (ofL cw)] 9)).drewN q) ⟨hb2.os, hb2.tape, hb2.output, hb2.size, hb2.block⟩ hgrow hb2.size (fun k e => (hrow.lt k e).1)
        case measure => show (ofL cr).size < u.size; rw [ofL_size]; exact hc1
    · have h0 : u.data.toList = [] := List.length_eq_zero_iff.1 (by rw [size_len]; omega)
      have hE : u.toList.isEmpty = true := by rw [Lib.toList_data, h0]; rfl
      have HU : Hid (u.data.toList = []) := h0
      clear h0
      go_wp2
      go_ret
      refine ⟨_, rfl, ?_, hb⟩
      rw [← HD.out, HU.out]
      simpa [wordsL, wgo] using hrow

theorem wgo_end (cur : List UInt8) : wgo [] cur = if cur = [] then [] else [cur] := rfl
theorem drop_cons (s : ByteArray) (i : Nat) (h : i < s.size) : s.data.toList.drop i = s[i] :: s.data.toList.drop (i + 1) := by
  rw [List.drop_eq_getElem_cons (by rw [size_len]; exact h)]
  rfl
theorem add_one (u s : ByteArray) (i : Nat) (h : i < s.size) : (u ++ s.extract i (i + 1)).data.toList = u.data.toList ++ [s[i]] := by
  have : (s.extract i (i + 1)).data.toList = [s[i]] := by
    rw [Lib.extract_data, drop_cons s i h]
    simp
  rw [← this]
  simp

set_option maxRecDepth 100000 in
set_option maxHeartbeats 1000000 in
theorem refWords_any (s : ByteArray) (w : World) (hs : s.size ≤ 1048576) :
    Calls Tryd.prog 15 #[.string s] w fun e w' => ∃ v, e = .returned v ∧ w'.ownsRow w.heap.size 9 1 v (wordsL s.data.toList).length (strV (wordsL s.data.toList)) ∧ Below w.heap.size w w' := by
  obtain ⟨i0, hi, hz0, hz1, hz2⟩ := info_parts Tryd.info9
  go_enter Tryd.func15, Tryd.ntmps15
  go_wp2
  go_loopw [3, 4, 5] (fun v t j wr => ∃ (u : ByteArray) (done : List (List UInt8)) (i : Nat), t = .string u ∧ j = .int .i64 i ∧ wr.ownsRow w.heap.size 9 1 v done.length (strV done) ∧ i ≤ s.size + 1 ∧ (i ≤ s.size → done ++ wgo (s.data.toList.drop i) u.data.toList = wordsL s.data.toList) ∧ (i = s.size + 1 → done = wordsL s.data.toList) ∧ done.length ≤ i ∧ u.size ≤ i ∧ Below w.heap.size w wr) (fun _ _ j _ => s.size + 1 - (intOf j).toNat)
  case atStart => exact ⟨⟨#[]⟩, [], 0, rfl, rfl, World.ownsRow_nil _ _ _ _, by omega, fun _ => rfl, fun h => by omega, by simp, Nat.le_refl 0, Below.refl _ _⟩
  case round =>
    obtain ⟨u, done, i, rfl, rfl, hrow, hi1, hg, hf, hl, hu, hb⟩ := hrel
    have HG : Hid (i ≤ s.size → done ++ wgo (s.data.toList.drop i) u.data.toList = wordsL s.data.toList) := hg
    have HF : Hid (i = s.size + 1 → done = wordsL s.data.toList) := hf
    clear hg hf
    by_cases hle : i ≤ s.size
    · have hg := HG.out hle
      have HE : Hid (done ++ wgo (s.data.toList.drop i) u.data.toList = wordsL s.data.toList) := hg
      clear hg
      by_cases hend : i = s.size
      · have hdr : s.data.toList.drop i = [] := List.drop_of_length_le (by rw [size_len]; omega)
        have HDR : Hid (s.data.toList.drop i = []) := hdr
        have hEQ : ((i : Int) == s.size) = true := by rw [beq_iff_eq]; omega
        have HEnd : Hid (i = s.size) := hend
        clear hdr hend
        by_cases hemp : u.toList.isEmpty = true
        · go_wp2
          go_roundw
          case rel =>
            have hu0 : u.data.toList = [] := by have := hemp; rw [Lib.toList_data] at this; simpa using this
            refine ⟨⟨#[]⟩, done, i + 1, rfl, by go_num, hrow, by omega, ?_, ?_, by omega, Nat.zero_le _, hb⟩
            · exact fun hh => absurd hh (by have := HEnd.out; omega)
            · intro hh
              have := HE.out
              rw [hu0, HDR.out] at this
              simpa [wgo] using this
          case measure => simp [intOf]; omega
        · have hemp' : u.toList.isEmpty = false := by simpa using hemp
          clear hemp
          go_wp2_with (at_builtin; refine wpList_append_own _ rfl _ _ 28 rfl w.heap.size 9 i0 _ 1 16 Tryd.underlying28 hi hz0 hz1 hz2 rfl (by decide) _ _ _ rfl (hrow.alloc _) ⟨wr.heap.size, 0, none⟩ 1 1 [.string u] rfl rfl (cell_one_new wr (.string u) 9) (by simp [Value.oneCell']) (by unfold maxLen; omega) (by omega) (by have := hb.size; simp; omega) ?_; intro v' w1 hown' hgrow _; obtain ⟨g', cap', hv'⟩ := ownsRow_succ hown'; subst hv')
          go_roundw
          case rel =>
            have hu0 : u.data.toList ≠ [] := by have := hemp'; rw [Lib.toList_data] at this; simpa using this
            refine ⟨⟨#[]⟩, done ++ [u.data.toList], i + 1, rfl, by go_num, by rw [strV_snoc, List.length_append, ofL_self]; exact hown', by omega, ?_, ?_, by simp; omega, Nat.zero_le _, ?_⟩
            · exact fun hh => absurd hh (by have := HEnd.out; omega)
            · intro hh
              have := HE.out
              rw [HDR.out] at this
              simpa [wgo, hu0] using this
            · have hb2 := hb.alloc hb.size (.cells #[.string u] 9)
              exact hb2.grown hgrow hb2.size (fun k e => (hrow.lt k e).1)
          case measure => simp [intOf]; omega
      · have hlt : i < s.size := by omega
        have HDR : Hid (s.data.toList.drop i = s[i] :: s.data.toList.drop (i + 1)) := drop_cons s i hlt
        have hEQ : ((i : Int) == s.size) = false := by rw [beq_eq_false_iff_ne]; omega
        by_cases hc : s[i] = 32
        · have hbb : ((s[i].toNat : Int) == 32) = true := by rw [hc]; rfl
          rw [hc] at HDR
          by_cases hemp : u.toList.isEmpty = true
          · go_wp2
            go_roundw
            case rel =>
              have hu0 : u.data.toList = [] := by have := hemp; rw [Lib.toList_data] at this; simpa using this
              refine ⟨⟨#[]⟩, done, i + 1, rfl, by go_num, hrow, by omega, ?_, ?_, by omega, Nat.zero_le _, hb⟩
              · intro hh
                have := HE.out
                rw [hu0, HDR.out] at this
                simpa [wgo] using this
              · exact fun hh => absurd hh (by omega)
            case measure => simp [intOf]; omega
          · have hemp' : u.toList.isEmpty = false := by simpa using hemp
            clear hemp
            go_wp2_with (at_builtin; refine wpList_append_own _ rfl _ _ 28 rfl w.heap.size 9 i0 _ 1 16 Tryd.underlying28 hi hz0 hz1 hz2 rfl (by decide) _ _ _ rfl (hrow.alloc _) ⟨wr.heap.size, 0, none⟩ 1 1 [.string u] rfl rfl (cell_one_new wr (.string u) 9) (by simp [Value.oneCell']) (by unfold maxLen; omega) (by omega) (by have := hb.size; simp; omega) ?_; intro v' w1 hown' hgrow _; obtain ⟨g', cap', hv'⟩ := ownsRow_succ hown'; subst hv')
            go_roundw
            case rel =>
              have hu0 : u.data.toList ≠ [] := by have := hemp'; rw [Lib.toList_data] at this; simpa using this
              refine ⟨⟨#[]⟩, done ++ [u.data.toList], i + 1, rfl, by go_num, by rw [strV_snoc, List.length_append, ofL_self]; exact hown', by omega, ?_, ?_, by simp; omega, Nat.zero_le _, ?_⟩
              · intro hh
                have := HE.out
                rw [HDR.out] at this
                simpa [wgo, hu0] using this
              · exact fun hh => absurd hh (by omega)
              · have hb2 := hb.alloc hb.size (.cells #[.string u] 9)
                exact hb2.grown hgrow hb2.size (fun k e => (hrow.lt k e).1)
            case measure => simp [intOf]; omega
        · have hbb := byte_ne' hc
          have HC : Hid (s[i] ≠ 32) := hc
          clear hc
          go_wp2
          go_roundw
          case rel =>
            refine ⟨u ++ s.extract i (i + 1), done, i + 1, rfl, by go_num, hrow, by omega, ?_, fun hh => by omega, by omega, ?_, hb⟩
            · intro hh
              have := HE.out
              rw [HDR.out] at this
              rw [add_one u s i hlt]
              simpa [wgo, HC.out] using this
            · rw [← size_len, add_one u s i hlt, List.length_append, size_len]
              simp; omega
          case measure => simp [intOf]; omega
    · go_wp2
      go_ret
      have := HF.out (by omega)
      subst this
      exact ⟨_, rfl, hrow, hb⟩

end Go.Proofs.YtdbfmjfbiokfdaaDoor
