import Derived.Test.YthkinkcpfcpehaaGreatDoorLJ
namespace Go.Proofs.YthkinkcpfcpehaaGreatDoor.Lx
set_option maxRecDepth 100000
set_option maxHeartbeats 4000000
open Go.RowKit Go.Shelf
theorem idx65_0 (W : World) : (Instr.index 166 (.agg #[.string ⟨#[36, 116, 114, 117, 101]⟩, .string ⟨#[36, 102, 97, 108, 115, 101]⟩]) (.int .i64 0)).run Tryz.prog W = .ok (.string ⟨#[36, 116, 114, 117, 101]⟩) W := by kernel_rfl
theorem idx65_1 (W : World) : (Instr.index 166 (.agg #[.string ⟨#[36, 116, 114, 117, 101]⟩, .string ⟨#[36, 102, 97, 108, 115, 101]⟩]) (.int .i64 1)).run Tryz.prog W = .ok (.string ⟨#[36, 102, 97, 108, 115, 101]⟩) W := by kernel_rfl
theorem idx66_0 (W : World) : (Instr.index 194 (.agg #[.string ⟨#[60, 61, 62]⟩, .string ⟨#[61, 62]⟩, .string ⟨#[33, 61]⟩, .string ⟨#[40]⟩, .string ⟨#[41]⟩, .string ⟨#[91]⟩, .string ⟨#[93]⟩, .string ⟨#[44]⟩, .string ⟨#[58]⟩, .string ⟨#[33]⟩, .string ⟨#[63]⟩, .string ⟨#[126]⟩, .string ⟨#[38]⟩, .string ⟨#[124]⟩, .string ⟨#[61]⟩]) (.int .i64 0)).run Tryz.prog W = .ok (.string ⟨#[60, 61, 62]⟩) W := by kernel_rfl
theorem idx66_1 (W : World) : (Instr.index 194 (.agg #[.string ⟨#[60, 61, 62]⟩, .string ⟨#[61, 62]⟩, .string ⟨#[33, 61]⟩, .string ⟨#[40]⟩, .string ⟨#[41]⟩, .string ⟨#[91]⟩, .string ⟨#[93]⟩, .string ⟨#[44]⟩, .string ⟨#[58]⟩, .string ⟨#[33]⟩, .string ⟨#[63]⟩, .string ⟨#[126]⟩, .string ⟨#[38]⟩, .string ⟨#[124]⟩, .string ⟨#[61]⟩]) (.int .i64 1)).run Tryz.prog W = .ok (.string ⟨#[61, 62]⟩) W := by kernel_rfl
theorem idx66_2 (W : World) : (Instr.index 194 (.agg #[.string ⟨#[60, 61, 62]⟩, .string ⟨#[61, 62]⟩, .string ⟨#[33, 61]⟩, .string ⟨#[40]⟩, .string ⟨#[41]⟩, .string ⟨#[91]⟩, .string ⟨#[93]⟩, .string ⟨#[44]⟩, .string ⟨#[58]⟩, .string ⟨#[33]⟩, .string ⟨#[63]⟩, .string ⟨#[126]⟩, .string ⟨#[38]⟩, .string ⟨#[124]⟩, .string ⟨#[61]⟩]) (.int .i64 2)).run Tryz.prog W = .ok (.string ⟨#[33, 61]⟩) W := by kernel_rfl
theorem idx66_3 (W : World) : (Instr.index 194 (.agg #[.string ⟨#[60, 61, 62]⟩, .string ⟨#[61, 62]⟩, .string ⟨#[33, 61]⟩, .string ⟨#[40]⟩, .string ⟨#[41]⟩, .string ⟨#[91]⟩, .string ⟨#[93]⟩, .string ⟨#[44]⟩, .string ⟨#[58]⟩, .string ⟨#[33]⟩, .string ⟨#[63]⟩, .string ⟨#[126]⟩, .string ⟨#[38]⟩, .string ⟨#[124]⟩, .string ⟨#[61]⟩]) (.int .i64 3)).run Tryz.prog W = .ok (.string ⟨#[40]⟩) W := by kernel_rfl
theorem idx66_4 (W : World) : (Instr.index 194 (.agg #[.string ⟨#[60, 61, 62]⟩, .string ⟨#[61, 62]⟩, .string ⟨#[33, 61]⟩, .string ⟨#[40]⟩, .string ⟨#[41]⟩, .string ⟨#[91]⟩, .string ⟨#[93]⟩, .string ⟨#[44]⟩, .string ⟨#[58]⟩, .string ⟨#[33]⟩, .string ⟨#[63]⟩, .string ⟨#[126]⟩, .string ⟨#[38]⟩, .string ⟨#[124]⟩, .string ⟨#[61]⟩]) (.int .i64 4)).run Tryz.prog W = .ok (.string ⟨#[41]⟩) W := by kernel_rfl
theorem idx66_5 (W : World) : (Instr.index 194 (.agg #[.string ⟨#[60, 61, 62]⟩, .string ⟨#[61, 62]⟩, .string ⟨#[33, 61]⟩, .string ⟨#[40]⟩, .string ⟨#[41]⟩, .string ⟨#[91]⟩, .string ⟨#[93]⟩, .string ⟨#[44]⟩, .string ⟨#[58]⟩, .string ⟨#[33]⟩, .string ⟨#[63]⟩, .string ⟨#[126]⟩, .string ⟨#[38]⟩, .string ⟨#[124]⟩, .string ⟨#[61]⟩]) (.int .i64 5)).run Tryz.prog W = .ok (.string ⟨#[91]⟩) W := by kernel_rfl
theorem idx66_6 (W : World) : (Instr.index 194 (.agg #[.string ⟨#[60, 61, 62]⟩, .string ⟨#[61, 62]⟩, .string ⟨#[33, 61]⟩, .string ⟨#[40]⟩, .string ⟨#[41]⟩, .string ⟨#[91]⟩, .string ⟨#[93]⟩, .string ⟨#[44]⟩, .string ⟨#[58]⟩, .string ⟨#[33]⟩, .string ⟨#[63]⟩, .string ⟨#[126]⟩, .string ⟨#[38]⟩, .string ⟨#[124]⟩, .string ⟨#[61]⟩]) (.int .i64 6)).run Tryz.prog W = .ok (.string ⟨#[93]⟩) W := by kernel_rfl
theorem idx66_7 (W : World) : (Instr.index 194 (.agg #[.string ⟨#[60, 61, 62]⟩, .string ⟨#[61, 62]⟩, .string ⟨#[33, 61]⟩, .string ⟨#[40]⟩, .string ⟨#[41]⟩, .string ⟨#[91]⟩, .string ⟨#[93]⟩, .string ⟨#[44]⟩, .string ⟨#[58]⟩, .string ⟨#[33]⟩, .string ⟨#[63]⟩, .string ⟨#[126]⟩, .string ⟨#[38]⟩, .string ⟨#[124]⟩, .string ⟨#[61]⟩]) (.int .i64 7)).run Tryz.prog W = .ok (.string ⟨#[44]⟩) W := by kernel_rfl
theorem idx66_8 (W : World) : (Instr.index 194 (.agg #[.string ⟨#[60, 61, 62]⟩, .string ⟨#[61, 62]⟩, .string ⟨#[33, 61]⟩, .string ⟨#[40]⟩, .string ⟨#[41]⟩, .string ⟨#[91]⟩, .string ⟨#[93]⟩, .string ⟨#[44]⟩, .string ⟨#[58]⟩, .string ⟨#[33]⟩, .string ⟨#[63]⟩, .string ⟨#[126]⟩, .string ⟨#[38]⟩, .string ⟨#[124]⟩, .string ⟨#[61]⟩]) (.int .i64 8)).run Tryz.prog W = .ok (.string ⟨#[58]⟩) W := by kernel_rfl
theorem idx66_9 (W : World) : (Instr.index 194 (.agg #[.string ⟨#[60, 61, 62]⟩, .string ⟨#[61, 62]⟩, .string ⟨#[33, 61]⟩, .string ⟨#[40]⟩, .string ⟨#[41]⟩, .string ⟨#[91]⟩, .string ⟨#[93]⟩, .string ⟨#[44]⟩, .string ⟨#[58]⟩, .string ⟨#[33]⟩, .string ⟨#[63]⟩, .string ⟨#[126]⟩, .string ⟨#[38]⟩, .string ⟨#[124]⟩, .string ⟨#[61]⟩]) (.int .i64 9)).run Tryz.prog W = .ok (.string ⟨#[33]⟩) W := by kernel_rfl
theorem idx66_10 (W : World) : (Instr.index 194 (.agg #[.string ⟨#[60, 61, 62]⟩, .string ⟨#[61, 62]⟩, .string ⟨#[33, 61]⟩, .string ⟨#[40]⟩, .string ⟨#[41]⟩, .string ⟨#[91]⟩, .string ⟨#[93]⟩, .string ⟨#[44]⟩, .string ⟨#[58]⟩, .string ⟨#[33]⟩, .string ⟨#[63]⟩, .string ⟨#[126]⟩, .string ⟨#[38]⟩, .string ⟨#[124]⟩, .string ⟨#[61]⟩]) (.int .i64 10)).run Tryz.prog W = .ok (.string ⟨#[63]⟩) W := by kernel_rfl
theorem idx66_11 (W : World) : (Instr.index 194 (.agg #[.string ⟨#[60, 61, 62]⟩, .string ⟨#[61, 62]⟩, .string ⟨#[33, 61]⟩, .string ⟨#[40]⟩, .string ⟨#[41]⟩, .string ⟨#[91]⟩, .string ⟨#[93]⟩, .string ⟨#[44]⟩, .string ⟨#[58]⟩, .string ⟨#[33]⟩, .string ⟨#[63]⟩, .string ⟨#[126]⟩, .string ⟨#[38]⟩, .string ⟨#[124]⟩, .string ⟨#[61]⟩]) (.int .i64 11)).run Tryz.prog W = .ok (.string ⟨#[126]⟩) W := by kernel_rfl
theorem idx66_12 (W : World) : (Instr.index 194 (.agg #[.string ⟨#[60, 61, 62]⟩, .string ⟨#[61, 62]⟩, .string ⟨#[33, 61]⟩, .string ⟨#[40]⟩, .string ⟨#[41]⟩, .string ⟨#[91]⟩, .string ⟨#[93]⟩, .string ⟨#[44]⟩, .string ⟨#[58]⟩, .string ⟨#[33]⟩, .string ⟨#[63]⟩, .string ⟨#[126]⟩, .string ⟨#[38]⟩, .string ⟨#[124]⟩, .string ⟨#[61]⟩]) (.int .i64 12)).run Tryz.prog W = .ok (.string ⟨#[38]⟩) W := by kernel_rfl
theorem idx66_13 (W : World) : (Instr.index 194 (.agg #[.string ⟨#[60, 61, 62]⟩, .string ⟨#[61, 62]⟩, .string ⟨#[33, 61]⟩, .string ⟨#[40]⟩, .string ⟨#[41]⟩, .string ⟨#[91]⟩, .string ⟨#[93]⟩, .string ⟨#[44]⟩, .string ⟨#[58]⟩, .string ⟨#[33]⟩, .string ⟨#[63]⟩, .string ⟨#[126]⟩, .string ⟨#[38]⟩, .string ⟨#[124]⟩, .string ⟨#[61]⟩]) (.int .i64 13)).run Tryz.prog W = .ok (.string ⟨#[124]⟩) W := by kernel_rfl
theorem idx66_14 (W : World) : (Instr.index 194 (.agg #[.string ⟨#[60, 61, 62]⟩, .string ⟨#[61, 62]⟩, .string ⟨#[33, 61]⟩, .string ⟨#[40]⟩, .string ⟨#[41]⟩, .string ⟨#[91]⟩, .string ⟨#[93]⟩, .string ⟨#[44]⟩, .string ⟨#[58]⟩, .string ⟨#[33]⟩, .string ⟨#[63]⟩, .string ⟨#[126]⟩, .string ⟨#[38]⟩, .string ⟨#[124]⟩, .string ⟨#[61]⟩]) (.int .i64 14)).run Tryz.prog W = .ok (.string ⟨#[61]⟩) W := by kernel_rfl
set_option maxRecDepth 100000 in
theorem readDollar_any (s : ByteArray) (w : World) (hp : 0 < s.size) (hs : s.size ≤ 2097154) : Calls Tryz.prog 172 #[.string s] w fun e w' => e = .returned (rdV (rdD s.data.toList)) ∧ Below w.heap.size w w' := by
  have HR : Hid (Rb w (w.alloc (.cells #[.int .i64 0, .int .i64 0, .string ⟨#[]⟩] 57))) := Rb.new w
  obtain ⟨W1, h1⟩ : ∃ X, w.alloc (.cells #[.int .i64 0, .int .i64 0, .string ⟨#[]⟩] 57) = X := ⟨_, rfl⟩
  rw [h1] at HR
  have HE : Hid (w.alloc (.cells #[.int .i64 0, .int .i64 0, .string ⟨#[]⟩] 57) = W1) := h1
  clear h1
  have hle : wlen (s.data.toList.drop 1) + 1 ≤ s.size := by have := wlen_le (s.data.toList.drop 1); rw [List.length_drop, size_len] at this; omega
  have hw := wordSize_any (s.extract 1 s.size) W1 (by rw [extract_drop, ofL_size, List.length_drop, size_len]; omega)
  rw [show (s.extract 1 s.size).data.toList = s.data.toList.drop 1 by rw [extract_drop]; rfl] at hw
  have HT : Hid (s.extract 0 (1 + wlen (s.data.toList.drop 1)) = ofL (s.data.toList.take (1 + wlen (s.data.toList.drop 1)))) := extract_take _ _
  obtain ⟨n, hn⟩ : ∃ n, wlen (s.data.toList.drop 1) = n := ⟨_, rfl⟩
  have HD : Hid (rdD s.data.toList = if s.data.toList.take (1 + n) = dTrue then ⟨3, dTrue, 1 + n, 0⟩ else if s.data.toList.take (1 + n) = dFalse then ⟨3, dFalse, 1 + n, 0⟩ else badR 20) := by show _ = _; unfold rdD; rw [hn]
  rw [hn] at hle hw HT
  clear hn
  have hn1 : (1 : Int) + (n : Int) ≤ (s.size : Int) := by omega
  go_enter Tryz.func172, Tryz.ntmps172
  go_wp2_with fail
  rw [HE.out]
  refine hw.mono ?_
  rintro e W3 ⟨rfl, rfl⟩
  go_wp2
  go_loopw [13] (fun vi wr => ∃ j : Nat, vi = .int .i64 j ∧ j ≤ 2 ∧ wr = W3 ∧ Hid ((1 ≤ j → s.data.toList.take (1 + n) ≠ dTrue) ∧ (2 ≤ j → s.data.toList.take (1 + n) ≠ dFalse))) (fun vi _ => 2 - (intOf vi).toNat)
  case atStart => exact ⟨0, rfl, Nat.zero_le _, rfl, fun h => absurd h (by omega), fun h => absurd h (by omega)⟩
  case round =>
    obtain ⟨j, rfl, hj, rfl, HI⟩ := hrel
    have hj3 : j = 0 ∨ j = 1 ∨ j = 2 := by omega
    rcases hj3 with rfl | rfl | rfl
    · have q0 := idx65_0 wr
      by_cases hc : s.data.toList.take (1 + n) = dTrue
      · have hx : ((s.extract 0 (1 + n)).toList == [36, 116, 114, 117, 101]) = true := by rw [Lib.toList_data, HT.out, ofL_data, hc]; rfl
        have HF : Hid (rdD s.data.toList = ⟨3, dTrue, 1 + n, 0⟩) := by show _ = _; rw [HD.out, if_pos hc]
        obtain ⟨W2, hrun, ⟨k0, k1, k2⟩, hb2⟩ := HR.out.told 3 0 ⟨#[36, 116, 114, 117, 101]⟩
        clear hc
        go_wp2_with (first | (refine wpList_store_run rfl 57 _ _ rfl (.pointer (some ⟨w.heap.size, 0, none⟩)) (.agg #[.int .i64 3, .int .i64 0, .string ⟨#[36, 116, 114, 117, 101]⟩]) rfl rfl hrun ?_))
        refine bodyPost_ret (v := rdV ⟨3, dTrue, 1 + n, 0⟩) (by simp [results, Tryz.results172, go_sem, *, ofL, dTrue]) rfl ⟨by rw [HF.out], hb2⟩
      · have hx : ((s.extract 0 (1 + n)).toList == [36, 116, 114, 117, 101]) = false := by rw [Lib.toList_data, HT.out, ofL_data, beq_eq_false_iff_ne]; exact hc
        have HC : Hid (¬ s.data.toList.take (1 + n) = dTrue) := hc
        clear hc
        go_wp2_with (fail)
        go_roundw
        case rel => exact ⟨1, by go_num, by omega, by simp, fun _ => HC.out, fun h => absurd h (by omega)⟩
        case measure => simp [intOf]
    · have q0 := idx65_1 wr
      by_cases hc : s.data.toList.take (1 + n) = dFalse
      · have hx : ((s.extract 0 (1 + n)).toList == [36, 102, 97, 108, 115, 101]) = true := by rw [Lib.toList_data, HT.out, ofL_data, hc]; rfl
        have HF : Hid (rdD s.data.toList = ⟨3, dFalse, 1 + n, 0⟩) := by show _ = _; rw [HD.out, if_neg (HI.out.1 (Nat.le_refl _)), if_pos hc]
        obtain ⟨W2, hrun, ⟨k0, k1, k2⟩, hb2⟩ := HR.out.told 3 0 ⟨#[36, 102, 97, 108, 115, 101]⟩
        clear hc
        go_wp2_with (first | (refine wpList_store_run rfl 57 _ _ rfl (.pointer (some ⟨w.heap.size, 0, none⟩)) (.agg #[.int .i64 3, .int .i64 0, .string ⟨#[36, 102, 97, 108, 115, 101]⟩]) rfl rfl hrun ?_))
        refine bodyPost_ret (v := rdV ⟨3, dFalse, 1 + n, 0⟩) (by simp [results, Tryz.results172, go_sem, *, ofL, dFalse]) rfl ⟨by rw [HF.out], hb2⟩
      · have hx : ((s.extract 0 (1 + n)).toList == [36, 102, 97, 108, 115, 101]) = false := by rw [Lib.toList_data, HT.out, ofL_data, beq_eq_false_iff_ne]; exact hc
        have HC : Hid (¬ s.data.toList.take (1 + n) = dFalse) := hc
        clear hc
        go_wp2_with (fail)
        go_roundw
        case rel => exact ⟨2, by go_num, by omega, by simp, fun _ => HI.out.1 (Nat.le_refl _), fun _ => HC.out⟩
        case measure => simp [intOf]
    · have HF : Hid (rdD s.data.toList = badR 20) := by show _ = _; rw [HD.out, if_neg (HI.out.1 (by omega)), if_neg (HI.out.2 (Nat.le_refl _))]
      obtain ⟨W2, hrun, ⟨k0, k1, k2⟩, hb2⟩ := HR.out.told 0 0 ⟨#[]⟩
      go_wp2_with (first | (refine wpList_store_run rfl 57 _ _ rfl (.pointer (some ⟨w.heap.size, 0, none⟩)) (.agg #[.int .i64 0, .int .i64 0, .string ⟨#[]⟩]) rfl rfl hrun ?_))
      refine bodyPost_ret (v := rdV (badR 20)) (by simp [results, Tryz.results172, go_sem, *, badR, ofL]) rfl ⟨by rw [HF.out], hb2⟩
