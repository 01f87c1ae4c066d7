import Derived.Test.YthkinkcpfcpehaaGreatDoorLK
namespace Go.Proofs.YthkinkcpfcpehaaGreatDoor.Lx
set_option maxRecDepth 100000
set_option maxHeartbeats 16000000
section
open Go.RowKit Go.Shelf
def rdMk (ms : List (List UInt8)) (l : List UInt8) : Rd := match ms.find? (fun m => Lib.hasPrefix l m) with
  | some m => ⟨4, m, m.length, 0⟩
  | none => badR 20
theorem rdMk_yes {m : List UInt8} {ms : List (List UInt8)} {l : List UInt8} (h : Lib.hasPrefix l m = true) : rdMk (m :: ms) l = ⟨4, m, m.length, 0⟩ := by
  unfold rdMk; rw [List.find?_cons_of_pos h]
theorem rdMk_no {m : List UInt8} {ms : List (List UInt8)} {l : List UInt8} (h : Lib.hasPrefix l m = false) : rdMk (m :: ms) l = rdMk ms l := by
  unfold rdMk; rw [List.find?_cons_of_neg (by simp [h])]
set_option maxRecDepth 100000 in
theorem readMark_any (s : ByteArray) (w : World) : Calls Tryz.prog 173 #[.string s] w fun e w' => e = .returned (rdV (rdM s.data.toList)) ∧ Below w.heap.size w w' := by
  have HR : Hid (Rb w (w.alloc (.cells #[.int .i64 0, .int .i64 0, .string ⟨#[]⟩] 57))) := Rb.new w
  obtain ⟨W1, h1⟩ : ∃ X, w.alloc (.cells #[.int .i64 0, .int .i64 0, .string ⟨#[]⟩] 57) = X := ⟨_, rfl⟩
  rw [h1] at HR
  have HE : Hid (w.alloc (.cells #[.int .i64 0, .int .i64 0, .string ⟨#[]⟩] 57) = W1) := h1
  clear h1
  have hc := fun (p : ByteArray) (W : World) => Tryz.strings_HasPrefix s p W
  go_enter Tryz.func173, Tryz.ntmps173
  go_wp2
  rw [HE.out]
  go_loopw [8] (fun vi wr => ∃ j : Nat, vi = .int .i64 j ∧ j ≤ 15 ∧ wr = W1 ∧ Hid (rdM s.data.toList = rdMk (mks.drop j) s.data.toList)) (fun vi _ => 15 - (intOf vi).toNat)
  case atStart => exact ⟨0, rfl, Nat.zero_le _, rfl, rfl⟩
  case round =>
    obtain ⟨j, rfl, hj, rfl, HI⟩ := hrel
    have hj3 : j = 0 ∨ j = 1 ∨ j = 2 ∨ j = 3 ∨ j = 4 ∨ j = 5 ∨ j = 6 ∨ j = 7 ∨ j = 8 ∨ j = 9 ∨ j = 10 ∨ j = 11 ∨ j = 12 ∨ j = 13 ∨ j = 14 ∨ j = 15 := by omega
    rcases hj3 with rfl | rfl | rfl | rfl | rfl | rfl | rfl | rfl | rfl | rfl | rfl | rfl | rfl | rfl | rfl | rfl
    · have q0 := idx66_0 wr
      have HJ : Hid (rdM s.data.toList = rdMk ([60, 61, 62] :: mks.drop 1) s.data.toList) := HI.out
      have hcj := hc ⟨#[60, 61, 62]⟩ wr
      have hcj' : Calls Tryz.prog 147 #[.string s, .string ⟨#[60, 61, 62]⟩] wr fun e w' => e = .returned (.bool (Lib.hasPrefix s.data.toList [60, 61, 62])) ∧ w' = wr := hcj
      cases hx : Lib.hasPrefix s.data.toList [60, 61, 62]
      · rw [hx] at hcj'
        have HK : Hid (rdM s.data.toList = rdMk (mks.drop 1) s.data.toList) := by show _ = _; rw [HJ.out, rdMk_no hx]
        clear hcj hc hx
        go_wp2_with fail
        refine hcj'.mono ?_
        rintro e W5 ⟨rfl, rfl⟩
        go_wp2
        go_roundw
        case rel => exact ⟨1, by go_num, by omega, by simp, HK.out⟩
        case measure => simp [intOf]
      · rw [hx] at hcj'
        have HF : Hid (rdM s.data.toList = ⟨4, [60, 61, 62], 3, 0⟩) := by show _ = _; rw [HJ.out, rdMk_yes hx]; rfl
        clear hcj hc hx
        go_wp2_with fail
        refine hcj'.mono ?_
        rintro e W5 ⟨rfl, rfl⟩
        obtain ⟨W2, hrun, ⟨k0, k1, k2⟩, hb2⟩ := HR.out.told 4 0 ⟨#[60, 61, 62]⟩
        have hsz : (⟨#[60, 61, 62]⟩ : ByteArray).size = 3 := rfl
        go_wp2_with (first | (refine wpList_store_run rfl 57 _ _ rfl (.pointer (some ⟨w.heap.size, 0, none⟩)) (.agg #[.int .i64 4, .int .i64 0, .string ⟨#[60, 61, 62]⟩]) rfl rfl hrun ?_))
        refine bodyPost_ret (v := rdV ⟨4, [60, 61, 62], 3, 0⟩) (by simp [results, Tryz.results173, go_sem, *, ofL]) rfl ⟨by rw [HF.out], hb2⟩
    · have q0 := idx66_1 wr
      have HJ : Hid (rdM s.data.toList = rdMk ([61, 62] :: mks.drop 2) s.data.toList) := HI.out
      have hcj := hc ⟨#[61, 62]⟩ wr
      have hcj' : Calls Tryz.prog 147 #[.string s, .string ⟨#[61, 62]⟩] wr fun e w' => e = .returned (.bool (Lib.hasPrefix s.data.toList [61, 62])) ∧ w' = wr := hcj
      cases hx : Lib.hasPrefix s.data.toList [61, 62]
      · rw [hx] at hcj'
        have HK : Hid (rdM s.data.toList = rdMk (mks.drop 2) s.data.toList) := by show _ = _; rw [HJ.out, rdMk_no hx]
        clear hcj hc hx
        go_wp2_with fail
        refine hcj'.mono ?_
        rintro e W5 ⟨rfl, rfl⟩
        go_wp2
        go_roundw
        case rel => exact ⟨2, by go_num, by omega, by simp, HK.out⟩
        case measure => simp [intOf]
      · rw [hx] at hcj'
        have HF : Hid (rdM s.data.toList = ⟨4, [61, 62], 2, 0⟩) := by show _ = _; rw [HJ.out, rdMk_yes hx]; rfl
        clear hcj hc hx
        go_wp2_with fail
        refine hcj'.mono ?_
        rintro e W5 ⟨rfl, rfl⟩
        obtain ⟨W2, hrun, ⟨k0, k1, k2⟩, hb2⟩ := HR.out.told 4 0 ⟨#[61, 62]⟩
        have hsz : (⟨#[61, 62]⟩ : ByteArray).size = 2 := rfl
        go_wp2_with (first | (refine wpList_store_run rfl 57 _ _ rfl (.pointer (some ⟨w.heap.size, 0, none⟩)) (.agg #[.int .i64 4, .int .i64 0, .string ⟨#[61, 62]⟩]) rfl rfl hrun ?_))
        refine bodyPost_ret (v := rdV ⟨4, [61, 62], 2, 0⟩) (by simp [results, Tryz.results173, go_sem, *, ofL]) rfl ⟨by rw [HF.out], hb2⟩
    · have q0 := idx66_2 wr
      have HJ : Hid (rdM s.data.toList = rdMk ([33, 61] :: mks.drop 3) s.data.toList) := HI.out
      have hcj := hc ⟨#[33, 61]⟩ wr
      have hcj' : Calls Tryz.prog 147 #[.string s, .string ⟨#[33, 61]⟩] wr fun e w' => e = .returned (.bool (Lib.hasPrefix s.data.toList [33, 61])) ∧ w' = wr := hcj
      cases hx : Lib.hasPrefix s.data.toList [33, 61]
      · rw [hx] at hcj'
        have HK : Hid (rdM s.data.toList = rdMk (mks.drop 3) s.data.toList) := by show _ = _; rw [HJ.out, rdMk_no hx]
        clear hcj hc hx
        go_wp2_with fail
        refine hcj'.mono ?_
        rintro e W5 ⟨rfl, rfl⟩
        go_wp2
        go_roundw
        case rel => exact ⟨3, by go_num, by omega, by simp, HK.out⟩
        case measure => simp [intOf]
      · rw [hx] at hcj'
        have HF : Hid (rdM s.data.toList = ⟨4, [33, 61], 2, 0⟩) := by show _ = _; rw [HJ.out, rdMk_yes hx]; rfl
        clear hcj hc hx
        go_wp2_with fail
        refine hcj'.mono ?_
        rintro e W5 ⟨rfl, rfl⟩
        obtain ⟨W2, hrun, ⟨k0, k1, k2⟩, hb2⟩ := HR.out.told 4 0 ⟨#[33, 61]⟩
        have hsz : (⟨#[33, 61]⟩ : ByteArray).size = 2 := rfl
        go_wp2_with (first | (refine wpList_store_run rfl 57 _ _ rfl (.pointer (some ⟨w.heap.size, 0, none⟩)) (.agg #[.int .i64 4, .int .i64 0, .string ⟨#[33, 61]⟩]) rfl rfl hrun ?_))
        refine bodyPost_ret (v := rdV ⟨4, [33, 61], 2, 0⟩) (by simp [results, Tryz.results173, go_sem, *, ofL]) rfl ⟨by rw [HF.out], hb2⟩
    · have q0 := idx66_3 wr
      have HJ : Hid (rdM s.data.toList = rdMk ([40] :: mks.drop 4) s.data.toList) := HI.out
      have hcj := hc ⟨#[40]⟩ wr
      have hcj' : Calls Tryz.prog 147 #[.string s, .string ⟨#[40]⟩] wr fun e w' => e = .returned (.bool (Lib.hasPrefix s.data.toList [40])) ∧ w' = wr := hcj
      cases hx : Lib.hasPrefix s.data.toList [40]
      · rw [hx] at hcj'
        have HK : Hid (rdM s.data.toList = rdMk (mks.drop 4) s.data.toList) := by show _ = _; rw [HJ.out, rdMk_no hx]
        clear hcj hc hx
        go_wp2_with fail
        refine hcj'.mono ?_
        rintro e W5 ⟨rfl, rfl⟩
        go_wp2
        go_roundw
        case rel => exact ⟨4, by go_num, by omega, by simp, HK.out⟩
        case measure => simp [intOf]
      · rw [hx] at hcj'
        have HF : Hid (rdM s.data.toList = ⟨4, [40], 1, 0⟩) := by show _ = _; rw [HJ.out, rdMk_yes hx]; rfl
        clear hcj hc hx
        go_wp2_with fail
        refine hcj'.mono ?_
        rintro e W5 ⟨rfl, rfl⟩
        obtain ⟨W2, hrun, ⟨k0, k1, k2⟩, hb2⟩ := HR.out.told 4 0 ⟨#[40]⟩
        have hsz : (⟨#[40]⟩ : ByteArray).size = 1 := rfl
        go_wp2_with (first | (refine wpList_store_run rfl 57 _ _ rfl (.pointer (some ⟨w.heap.size, 0, none⟩)) (.agg #[.int .i64 4, .int .i64 0, .string ⟨#[40]⟩]) rfl rfl hrun ?_))
        refine bodyPost_ret (v := rdV ⟨4, [40], 1, 0⟩) (by simp [results, Tryz.results173, go_sem, *, ofL]) rfl ⟨by rw [HF.out], hb2⟩
    · have q0 := idx66_4 wr
      have HJ : Hid (rdM s.data.toList = rdMk ([41] :: mks.drop 5) s.data.toList) := HI.out
      have hcj := hc ⟨#[41]⟩ wr
      have hcj' : Calls Tryz.prog 147 #[.string s, .string ⟨#[41]⟩] wr fun e w' => e = .returned (.bool (Lib.hasPrefix s.data.toList [41])) ∧ w' = wr := hcj
      cases hx : Lib.hasPrefix s.data.toList [41]
      · rw [hx] at hcj'
        have HK : Hid (rdM s.data.toList = rdMk (mks.drop 5) s.data.toList) := by show _ = _; rw [HJ.out, rdMk_no hx]
        clear hcj hc hx
        go_wp2_with fail
        refine hcj'.mono ?_
        rintro e W5 ⟨rfl, rfl⟩
        go_wp2
        go_roundw
        case rel => exact ⟨5, by go_num, by omega, by simp, HK.out⟩
        case measure => simp [intOf]
      · rw [hx] at hcj'
        have HF : Hid (rdM s.data.toList = ⟨4, [41], 1, 0⟩) := by show _ = _; rw [HJ.out, rdMk_yes hx]; rfl
        clear hcj hc hx
        go_wp2_with fail
        refine hcj'.mono ?_
        rintro e W5 ⟨rfl, rfl⟩
        obtain ⟨W2, hrun, ⟨k0, k1, k2⟩, hb2⟩ := HR.out.told 4 0 ⟨#[41]⟩
        have hsz : (⟨#[41]⟩ : ByteArray).size = 1 := rfl
        go_wp2_with (first | (refine wpList_store_run rfl 57 _ _ rfl (.pointer (some ⟨w.heap.size, 0, none⟩)) (.agg #[.int .i64 4, .int .i64 0, .string ⟨#[41]⟩]) rfl rfl hrun ?_))
        refine bodyPost_ret (v := rdV ⟨4, [41], 1, 0⟩) (by simp [results, Tryz.results173, go_sem, *, ofL]) rfl ⟨by rw [HF.out], hb2⟩
    · have q0 := idx66_5 wr
      have HJ : Hid (rdM s.data.toList = rdMk ([91] :: mks.drop 6) s.data.toList) := HI.out
      have hcj := hc ⟨#[91]⟩ wr
      have hcj' : Calls Tryz.prog 147 #[.string s, .string ⟨#[91]⟩] wr fun e w' => e = .returned (.bool (Lib.hasPrefix s.data.toList [91])) ∧ w' = wr := hcj
      cases hx : Lib.hasPrefix s.data.toList [91]
      · rw [hx] at hcj'
        have HK : Hid (rdM s.data.toList = rdMk (mks.drop 6) s.data.toList) := by show _ = _; rw [HJ.out, rdMk_no hx]
        clear hcj hc hx
        go_wp2_with fail
        refine hcj'.mono ?_
        rintro e W5 ⟨rfl, rfl⟩
        go_wp2
        go_roundw
        case rel => exact ⟨6, by go_num, by omega, by simp, HK.out⟩
        case measure => simp [intOf]
      · rw [hx] at hcj'
        have HF : Hid (rdM s.data.toList = ⟨4, [91], 1, 0⟩) := by show _ = _; rw [HJ.out, rdMk_yes hx]; rfl
        clear hcj hc hx
        go_wp2_with fail
        refine hcj'.mono ?_
        rintro e W5 ⟨rfl, rfl⟩
        obtain ⟨W2, hrun, ⟨k0, k1, k2⟩, hb2⟩ := HR.out.told 4 0 ⟨#[91]⟩
        have hsz : (⟨#[91]⟩ : ByteArray).size = 1 := rfl
        go_wp2_with (first | (refine wpList_store_run rfl 57 _ _ rfl (.pointer (some ⟨w.heap.size, 0, none⟩)) (.agg #[.int .i64 4, .int .i64 0, .string ⟨#[91]⟩]) rfl rfl hrun ?_))
        refine bodyPost_ret (v := rdV ⟨4, [91], 1, 0⟩) (by simp [results, Tryz.results173, go_sem, *, ofL]) rfl ⟨by rw [HF.out], hb2⟩
    · have q0 := idx66_6 wr
      have HJ : Hid (rdM s.data.toList = rdMk ([93] :: mks.drop 7) s.data.toList) := HI.out
      have hcj := hc ⟨#[93]⟩ wr
      have hcj' : Calls Tryz.prog 147 #[.string s, .string ⟨#[93]⟩] wr fun e w' => e = .returned (.bool (Lib.hasPrefix s.data.toList [93])) ∧ w' = wr := hcj
      cases hx : Lib.hasPrefix s.data.toList [93]
      · rw [hx] at hcj'
        have HK : Hid (rdM s.data.toList = rdMk (mks.drop 7) s.data.toList) := by show _ = _; rw [HJ.out, rdMk_no hx]
        clear hcj hc hx
        go_wp2_with fail
        refine hcj'.mono ?_
        rintro e W5 ⟨rfl, rfl⟩
        go_wp2
        go_roundw
        case rel => exact ⟨7, by go_num, by omega, by simp, HK.out⟩
        case measure => simp [intOf]
      · rw [hx] at hcj'
        have HF : Hid (rdM s.data.toList = ⟨4, [93], 1, 0⟩) := by show _ = _; rw [HJ.out, rdMk_yes hx]; rfl
        clear hcj hc hx
        go_wp2_with fail
        refine hcj'.mono ?_
        rintro e W5 ⟨rfl, rfl⟩
        obtain ⟨W2, hrun, ⟨k0, k1, k2⟩, hb2⟩ := HR.out.told 4 0 ⟨#[93]⟩
        have hsz : (⟨#[93]⟩ : ByteArray).size = 1 := rfl
        go_wp2_with (first | (refine wpList_store_run rfl 57 _ _ rfl (.pointer (some ⟨w.heap.size, 0, none⟩)) (.agg #[.int .i64 4, .int .i64 0, .string ⟨#[93]⟩]) rfl rfl hrun ?_))
        refine bodyPost_ret (v := rdV ⟨4, [93], 1, 0⟩) (by simp [results, Tryz.results173, go_sem, *, ofL]) rfl ⟨by rw [HF.out], hb2⟩
    · have q0 := idx66_7 wr
      have HJ : Hid (rdM s.data.toList = rdMk ([44] :: mks.drop 8) s.data.toList) := HI.out
      have hcj := hc ⟨#[44]⟩ wr
      have hcj' : Calls Tryz.prog 147 #[.string s, .string ⟨#[44]⟩] wr fun e w' => e = .returned (.bool (Lib.hasPrefix s.data.toList [44])) ∧ w' = wr := hcj
      cases hx : Lib.hasPrefix s.data.toList [44]
      · rw [hx] at hcj'
        have HK : Hid (rdM s.data.toList = rdMk (mks.drop 8) s.data.toList) := by show _ = _; rw [HJ.out, rdMk_no hx]
        clear hcj hc hx
        go_wp2_with fail
        refine hcj'.mono ?_
        rintro e W5 ⟨rfl, rfl⟩
        go_wp2
        go_roundw
        case rel => exact ⟨8, by go_num, by omega, by simp, HK.out⟩
        case measure => simp [intOf]
      · rw [hx] at hcj'
        have HF : Hid (rdM s.data.toList = ⟨4, [44], 1, 0⟩) := by show _ = _; rw [HJ.out, rdMk_yes hx]; rfl
        clear hcj hc hx
        go_wp2_with fail
        refine hcj'.mono ?_
        rintro e W5 ⟨rfl, rfl⟩
        obtain ⟨W2, hrun, ⟨k0, k1, k2⟩, hb2⟩ := HR.out.told 4 0 ⟨#[44]⟩
        have hsz : (⟨#[44]⟩ : ByteArray).size = 1 := rfl
        go_wp2_with (first | (refine wpList_store_run rfl 57 _ _ rfl (.pointer (some ⟨w.heap.size, 0, none⟩)) (.agg #[.int .i64 4, .int .i64 0, .string ⟨#[44]⟩]) rfl rfl hrun ?_))
        refine bodyPost_ret (v := rdV ⟨4, [44], 1, 0⟩) (by simp [results, Tryz.results173, go_sem, *, ofL]) rfl ⟨by rw [HF.out], hb2⟩
    · have q0 := idx66_8 wr
      have HJ : Hid (rdM s.data.toList = rdMk ([58] :: mks.drop 9) s.data.toList) := HI.out
      have hcj := hc ⟨#[58]⟩ wr
      have hcj' : Calls Tryz.prog 147 #[.string s, .string ⟨#[58]⟩] wr fun e w' => e = .returned (.bool (Lib.hasPrefix s.data.toList [58])) ∧ w' = wr := hcj
      cases hx : Lib.hasPrefix s.data.toList [58]
      · rw [hx] at hcj'
        have HK : Hid (rdM s.data.toList = rdMk (mks.drop 9) s.data.toList) := by show _ = _; rw [HJ.out, rdMk_no hx]
        clear hcj hc hx
        go_wp2_with fail
        refine hcj'.mono ?_
        rintro e W5 ⟨rfl, rfl⟩
        go_wp2
        go_roundw
        case rel => exact ⟨9, by go_num, by omega, by simp, HK.out⟩
        case measure => simp [intOf]
      · rw [hx] at hcj'
        have HF : Hid (rdM s.data.toList = ⟨4, [58], 1, 0⟩) := by show _ = _; rw [HJ.out, rdMk_yes hx]; rfl
        clear hcj hc hx
        go_wp2_with fail
        refine hcj'.mono ?_
        rintro e W5 ⟨rfl, rfl⟩
        obtain ⟨W2, hrun, ⟨k0, k1, k2⟩, hb2⟩ := HR.out.told 4 0 ⟨#[58]⟩
        have hsz : (⟨#[58]⟩ : ByteArray).size = 1 := rfl
        go_wp2_with (first | (refine wpList_store_run rfl 57 _ _ rfl (.pointer (some ⟨w.heap.size, 0, none⟩)) (.agg #[.int .i64 4, .int .i64 0, .string ⟨#[58]⟩]) rfl rfl hrun ?_))
        refine bodyPost_ret (v := rdV ⟨4, [58], 1, 0⟩) (by simp [results, Tryz.results173, go_sem, *, ofL]) rfl ⟨by rw [HF.out], hb2⟩
    · have q0 := idx66_9 wr
      have HJ : Hid (rdM s.data.toList = rdMk ([33] :: mks.drop 10) s.data.toList) := HI.out
      have hcj := hc ⟨#[33]⟩ wr
      have hcj' : Calls Tryz.prog 147 #[.string s, .string ⟨#[33]⟩] wr fun e w' => e = .returned (.bool (Lib.hasPrefix s.data.toList [33])) ∧ w' = wr := hcj
      cases hx : Lib.hasPrefix s.data.toList [33]
      · rw [hx] at hcj'
        have HK : Hid (rdM s.data.toList = rdMk (mks.drop 10) s.data.toList) := by show _ = _; rw [HJ.out, rdMk_no hx]
        clear hcj hc hx
        go_wp2_with fail
        refine hcj'.mono ?_
        rintro e W5 ⟨rfl, rfl⟩
        go_wp2
        go_roundw
        case rel => exact ⟨10, by go_num, by omega, by simp, HK.out⟩
        case measure => simp [intOf]
      · rw [hx] at hcj'
        have HF : Hid (rdM s.data.toList = ⟨4, [33], 1, 0⟩) := by show _ = _; rw [HJ.out, rdMk_yes hx]; rfl
        clear hcj hc hx
        go_wp2_with fail
        refine hcj'.mono ?_
        rintro e W5 ⟨rfl, rfl⟩
        obtain ⟨W2, hrun, ⟨k0, k1, k2⟩, hb2⟩ := HR.out.told 4 0 ⟨#[33]⟩
        have hsz : (⟨#[33]⟩ : ByteArray).size = 1 := rfl
        go_wp2_with (first | (refine wpList_store_run rfl 57 _ _ rfl (.pointer (some ⟨w.heap.size, 0, none⟩)) (.agg #[.int .i64 4, .int .i64 0, .string ⟨#[33]⟩]) rfl rfl hrun ?_))
        refine bodyPost_ret (v := rdV ⟨4, [33], 1, 0⟩) (by simp [results, Tryz.results173, go_sem, *, ofL]) rfl ⟨by rw [HF.out], hb2⟩
    · have q0 := idx66_10 wr
      have HJ : Hid (rdM s.data.toList = rdMk ([63] :: mks.drop 11) s.data.toList) := HI.out
      have hcj := hc ⟨#[63]⟩ wr
      have hcj' : Calls Tryz.prog 147 #[.string s, .string ⟨#[63]⟩] wr fun e w' => e = .returned (.bool (Lib.hasPrefix s.data.toList [63])) ∧ w' = wr := hcj
      cases hx : Lib.hasPrefix s.data.toList [63]
      · rw [hx] at hcj'
        have HK : Hid (rdM s.data.toList = rdMk (mks.drop 11) s.data.toList) := by show _ = _; rw [HJ.out, rdMk_no hx]
        clear hcj hc hx
        go_wp2_with fail
        refine hcj'.mono ?_
        rintro e W5 ⟨rfl, rfl⟩
        go_wp2
        go_roundw
        case rel => exact ⟨11, by go_num, by omega, by simp, HK.out⟩
        case measure => simp [intOf]
      · rw [hx] at hcj'
        have HF : Hid (rdM s.data.toList = ⟨4, [63], 1, 0⟩) := by show _ = _; rw [HJ.out, rdMk_yes hx]; rfl
        clear hcj hc hx
        go_wp2_with fail
        refine hcj'.mono ?_
        rintro e W5 ⟨rfl, rfl⟩
        obtain ⟨W2, hrun, ⟨k0, k1, k2⟩, hb2⟩ := HR.out.told 4 0 ⟨#[63]⟩
        have hsz : (⟨#[63]⟩ : ByteArray).size = 1 := rfl
        go_wp2_with (first | (refine wpList_store_run rfl 57 _ _ rfl (.pointer (some ⟨w.heap.size, 0, none⟩)) (.agg #[.int .i64 4, .int .i64 0, .string ⟨#[63]⟩]) rfl rfl hrun ?_))
        refine bodyPost_ret (v := rdV ⟨4, [63], 1, 0⟩) (by simp [results, Tryz.results173, go_sem, *, ofL]) rfl ⟨by rw [HF.out], hb2⟩
    · have q0 := idx66_11 wr
      have HJ : Hid (rdM s.data.toList = rdMk ([126] :: mks.drop 12) s.data.toList) := HI.out
      have hcj := hc ⟨#[126]⟩ wr
      have hcj' : Calls Tryz.prog 147 #[.string s, .string ⟨#[126]⟩] wr fun e w' => e = .returned (.bool (Lib.hasPrefix s.data.toList [126])) ∧ w' = wr := hcj
      cases hx : Lib.hasPrefix s.data.toList [126]
      · rw [hx] at hcj'
        have HK : Hid (rdM s.data.toList = rdMk (mks.drop 12) s.data.toList) := by show _ = _; rw [HJ.out, rdMk_no hx]
        clear hcj hc hx
        go_wp2_with fail
        refine hcj'.mono ?_
        rintro e W5 ⟨rfl, rfl⟩
        go_wp2
        go_roundw
        case rel => exact ⟨12, by go_num, by omega, by simp, HK.out⟩
        case measure => simp [intOf]
      · rw [hx] at hcj'
        have HF : Hid (rdM s.data.toList = ⟨4, [126], 1, 0⟩) := by show _ = _; rw [HJ.out, rdMk_yes hx]; rfl
        clear hcj hc hx
        go_wp2_with fail
        refine hcj'.mono ?_
        rintro e W5 ⟨rfl, rfl⟩
        obtain ⟨W2, hrun, ⟨k0, k1, k2⟩, hb2⟩ := HR.out.told 4 0 ⟨#[126]⟩
        have hsz : (⟨#[126]⟩ : ByteArray).size = 1 := rfl
        go_wp2_with (first | (refine wpList_store_run rfl 57 _ _ rfl (.pointer (some ⟨w.heap.size, 0, none⟩)) (.agg #[.int .i64 4, .int .i64 0, .string ⟨#[126]⟩]) rfl rfl hrun ?_))
        refine bodyPost_ret (v := rdV ⟨4, [126], 1, 0⟩) (by simp [results, Tryz.results173, go_sem, *, ofL]) rfl ⟨by rw [HF.out], hb2⟩
    · have q0 := idx66_12 wr
      have HJ : Hid (rdM s.data.toList = rdMk ([38] :: mks.drop 13) s.data.toList) := HI.out
      have hcj := hc ⟨#[38]⟩ wr
      have hcj' : Calls Tryz.prog 147 #[.string s, .string ⟨#[38]⟩] wr fun e w' => e = .returned (.bool (Lib.hasPrefix s.data.toList [38])) ∧ w' = wr := hcj
      cases hx : Lib.hasPrefix s.data.toList [38]
      · rw [hx] at hcj'
        have HK : Hid (rdM s.data.toList = rdMk (mks.drop 13) s.data.toList) := by show _ = _; rw [HJ.out, rdMk_no hx]
        clear hcj hc hx
        go_wp2_with fail
        refine hcj'.mono ?_
        rintro e W5 ⟨rfl, rfl⟩
        go_wp2
        go_roundw
        case rel => exact ⟨13, by go_num, by omega, by simp, HK.out⟩
        case measure => simp [intOf]
      · rw [hx] at hcj'
        have HF : Hid (rdM s.data.toList = ⟨4, [38], 1, 0⟩) := by show _ = _; rw [HJ.out, rdMk_yes hx]; rfl
        clear hcj hc hx
        go_wp2_with fail
        refine hcj'.mono ?_
        rintro e W5 ⟨rfl, rfl⟩
        obtain ⟨W2, hrun, ⟨k0, k1, k2⟩, hb2⟩ := HR.out.told 4 0 ⟨#[38]⟩
        have hsz : (⟨#[38]⟩ : ByteArray).size = 1 := rfl
        go_wp2_with (first | (refine wpList_store_run rfl 57 _ _ rfl (.pointer (some ⟨w.heap.size, 0, none⟩)) (.agg #[.int .i64 4, .int .i64 0, .string ⟨#[38]⟩]) rfl rfl hrun ?_))
        refine bodyPost_ret (v := rdV ⟨4, [38], 1, 0⟩) (by simp [results, Tryz.results173, go_sem, *, ofL]) rfl ⟨by rw [HF.out], hb2⟩
    · have q0 := idx66_13 wr
      have HJ : Hid (rdM s.data.toList = rdMk ([124] :: mks.drop 14) s.data.toList) := HI.out
      have hcj := hc ⟨#[124]⟩ wr
      have hcj' : Calls Tryz.prog 147 #[.string s, .string ⟨#[124]⟩] wr fun e w' => e = .returned (.bool (Lib.hasPrefix s.data.toList [124])) ∧ w' = wr := hcj
      cases hx : Lib.hasPrefix s.data.toList [124]
      · rw [hx] at hcj'
        have HK : Hid (rdM s.data.toList = rdMk (mks.drop 14) s.data.toList) := by show _ = _; rw [HJ.out, rdMk_no hx]
        clear hcj hc hx
        go_wp2_with fail
        refine hcj'.mono ?_
        rintro e W5 ⟨rfl, rfl⟩
        go_wp2
        go_roundw
        case rel => exact ⟨14, by go_num, by omega, by simp, HK.out⟩
        case measure => simp [intOf]
      · rw [hx] at hcj'
        have HF : Hid (rdM s.data.toList = ⟨4, [124], 1, 0⟩) := by show _ = _; rw [HJ.out, rdMk_yes hx]; rfl
        clear hcj hc hx
        go_wp2_with fail
        refine hcj'.mono ?_
        rintro e W5 ⟨rfl, rfl⟩
        obtain ⟨W2, hrun, ⟨k0, k1, k2⟩, hb2⟩ := HR.out.told 4 0 ⟨#[124]⟩
        have hsz : (⟨#[124]⟩ : ByteArray).size = 1 := rfl
        go_wp2_with (first | (refine wpList_store_run rfl 57 _ _ rfl (.pointer (some ⟨w.heap.size, 0, none⟩)) (.agg #[.int .i64 4, .int .i64 0, .string ⟨#[124]⟩]) rfl rfl hrun ?_))
        refine bodyPost_ret (v := rdV ⟨4, [124], 1, 0⟩) (by simp [results, Tryz.results173, go_sem, *, ofL]) rfl ⟨by rw [HF.out], hb2⟩
    · have q0 := idx66_14 wr
      have HJ : Hid (rdM s.data.toList = rdMk ([61] :: mks.drop 15) s.data.toList) := HI.out
      have hcj := hc ⟨#[61]⟩ wr
      have hcj' : Calls Tryz.prog 147 #[.string s, .string ⟨#[61]⟩] wr fun e w' => e = .returned (.bool (Lib.hasPrefix s.data.toList [61])) ∧ w' = wr := hcj
      cases hx : Lib.hasPrefix s.data.toList [61]
      · rw [hx] at hcj'
        have HK : Hid (rdM s.data.toList = rdMk (mks.drop 15) s.data.toList) := by show _ = _; rw [HJ.out, rdMk_no hx]
        clear hcj hc hx
        go_wp2_with fail
        refine hcj'.mono ?_
        rintro e W5 ⟨rfl, rfl⟩
        go_wp2
        go_roundw
        case rel => exact ⟨15, by go_num, by omega, by simp, HK.out⟩
        case measure => simp [intOf]
      · rw [hx] at hcj'
        have HF : Hid (rdM s.data.toList = ⟨4, [61], 1, 0⟩) := by show _ = _; rw [HJ.out, rdMk_yes hx]; rfl
        clear hcj hc hx
        go_wp2_with fail
        refine hcj'.mono ?_
        rintro e W5 ⟨rfl, rfl⟩
        obtain ⟨W2, hrun, ⟨k0, k1, k2⟩, hb2⟩ := HR.out.told 4 0 ⟨#[61]⟩
        have hsz : (⟨#[61]⟩ : ByteArray).size = 1 := rfl
        go_wp2_with (first | (refine wpList_store_run rfl 57 _ _ rfl (.pointer (some ⟨w.heap.size, 0, none⟩)) (.agg #[.int .i64 4, .int .i64 0, .string ⟨#[61]⟩]) rfl rfl hrun ?_))
        refine bodyPost_ret (v := rdV ⟨4, [61], 1, 0⟩) (by simp [results, Tryz.results173, go_sem, *, ofL]) rfl ⟨by rw [HF.out], hb2⟩
    · have HF : Hid (rdM s.data.toList = badR 20) := by show _ = _; rw [HI.out]; rfl
      obtain ⟨W2, hrun, ⟨k0, k1, k2⟩, hb2⟩ := HR.out.told 0 0 ⟨#[]⟩
      clear hc
      go_wp2_with (first | (refine wpList_store_run rfl 57 _ _ rfl (.pointer (some ⟨w.heap.size, 0, none⟩)) (.agg #[.int .i64 0, .int .i64 0, .string ⟨#[]⟩]) rfl rfl hrun ?_))
      refine bodyPost_ret (v := rdV (badR 20)) (by simp [results, Tryz.results173, go_sem, *, badR, ofL]) rfl ⟨by rw [HF.out], hb2⟩
end
section
open Go.RowKit Go.Shelf
set_option maxRecDepth 100000 in
theorem read_any (s : ByteArray) (w : World) (hp : 0 < s.size) (hs : s.size ≤ 2097154) : Calls Tryz.prog 129 #[.string s] w fun e w' => e = .returned (rdV (rd s.data.toList)) ∧ Below w.heap.size w w' := by
  have HR : Hid (Rb w (w.alloc (.cells #[.int .i64 0, .int .i64 0, .string ⟨#[]⟩] 57))) := Rb.new w
  obtain ⟨W1, h1⟩ : ∃ X, w.alloc (.cells #[.int .i64 0, .int .i64 0, .string ⟨#[]⟩] 57) = X := ⟨_, rfl⟩
  rw [h1] at HR
  have HE : Hid (w.alloc (.cells #[.int .i64 0, .int .i64 0, .string ⟨#[]⟩] 57) = W1) := h1
  clear h1
  have hh := hd_of s hp
  have H1 := readWord_any 1 s W1 hs
  have H2 := readWord_any 2 s W1 hs
  have H3 := readQuoted_any s W1 hp hs
  have H4 := readDollar_any s W1 hp hs
  have H5 := readMark_any s W1
  have HS : Hid (∀ r : Rd, ∀ W, Below W1.heap.size W1 W → ∃ W', (Instr.storeAt 57 (.pointer (some ⟨w.heap.size, 0, none⟩)) (.agg #[.int .i64 r.k, .int .i64 0, .string (ofL r.t)])).run Tryz.prog W = .ok () W' ∧ (W'.cell? ⟨w.heap.size, 0, none⟩ = some (.int .i64 r.k) ∧ W'.cell? ⟨w.heap.size, 1, none⟩ = some (.int .i64 0) ∧ W'.cell? ⟨w.heap.size, 2, none⟩ = some (.string (ofL r.t))) ∧ Below w.heap.size w W') := fun r W hW => (HR.out.keep hW).told r.k 0 (ofL r.t)
  cases h1 : smB s[0].toNat
  · cases h2 : caB s[0].toNat
    · by_cases h3 : (s[0].toNat : Int) = 39
      · have g3 : ((s[0].toNat : Int) == 39) = true := by rw [h3]; rfl
        have HF : Hid (rd s.data.toList = rdQ (s.data.toList.drop 1)) := by show _ = _; unfold rd; rw [hh, h1, h2, if_neg (by simp), if_neg (by simp), if_pos h3]
        obtain ⟨r, hr⟩ : ∃ r, rdQ (s.data.toList.drop 1) = r := ⟨_, rfl⟩
        rw [hr] at HF H3
        clear hr hh H1 H2 H4 H5 h3
        go_enter Tryz.func129, Tryz.ntmps129
        go_wp2_with (first | (go_at_call 169; refine (small_any _ _).mono ?_; rintro e wq ⟨rfl, rfl⟩) | (go_at_call 153; refine (capital_any _ _).mono ?_; rintro e wq ⟨rfl, rfl⟩))
        try rw [HE.out]
        refine H3.mono ?_
        rintro e W3 ⟨rfl, b3⟩
        obtain ⟨W2, hrun, ⟨k0, k1, k2⟩, hb2⟩ := HS.out r W3 b3
        clear H3 b3
        go_wp2_with (first | (refine wpList_store_run rfl 57 _ _ rfl (.pointer (some ⟨w.heap.size, 0, none⟩)) (.agg #[.int .i64 r.k, .int .i64 0, .string (ofL r.t)]) rfl rfl hrun ?_))
        refine bodyPost_ret (v := rdV r) (by simp [results, Tryz.results129, go_sem, *]) rfl ⟨by rw [HF.out], hb2⟩
      · have g3 : ((s[0].toNat : Int) == 39) = false := by simpa using h3
        by_cases h4 : (s[0].toNat : Int) = 36
        · have g4 : ((s[0].toNat : Int) == 36) = true := by rw [h4]; rfl
          have HF : Hid (rd s.data.toList = rdD s.data.toList) := by show _ = _; unfold rd; rw [hh, h1, h2, if_neg (by simp), if_neg (by simp), if_neg h3, if_pos h4]
          obtain ⟨r, hr⟩ : ∃ r, rdD s.data.toList = r := ⟨_, rfl⟩
          rw [hr] at HF H4
          clear hr hh H1 H2 H3 H5 h3 h4
          go_enter Tryz.func129, Tryz.ntmps129
          go_wp2_with (first | (go_at_call 169; refine (small_any _ _).mono ?_; rintro e wq ⟨rfl, rfl⟩) | (go_at_call 153; refine (capital_any _ _).mono ?_; rintro e wq ⟨rfl, rfl⟩))
          try rw [HE.out]
          refine H4.mono ?_
          rintro e W3 ⟨rfl, b3⟩
          obtain ⟨W2, hrun, ⟨k0, k1, k2⟩, hb2⟩ := HS.out r W3 b3
          clear H4 b3
          go_wp2_with (first | (refine wpList_store_run rfl 57 _ _ rfl (.pointer (some ⟨w.heap.size, 0, none⟩)) (.agg #[.int .i64 r.k, .int .i64 0, .string (ofL r.t)]) rfl rfl hrun ?_))
          refine bodyPost_ret (v := rdV r) (by simp [results, Tryz.results129, go_sem, *]) rfl ⟨by rw [HF.out], hb2⟩
        · have g4 : ((s[0].toNat : Int) == 36) = false := by simpa using h4
          have HF : Hid (rd s.data.toList = rdM s.data.toList) := by show _ = _; unfold rd; rw [hh, h1, h2, if_neg (by simp), if_neg (by simp), if_neg h3, if_neg h4]
          obtain ⟨r, hr⟩ : ∃ r, rdM s.data.toList = r := ⟨_, rfl⟩
          rw [hr] at HF H5
          clear hr hh H1 H2 H3 H4 h3 h4
          go_enter Tryz.func129, Tryz.ntmps129
          go_wp2_with (first | (go_at_call 169; refine (small_any _ _).mono ?_; rintro e wq ⟨rfl, rfl⟩) | (go_at_call 153; refine (capital_any _ _).mono ?_; rintro e wq ⟨rfl, rfl⟩))
          try rw [HE.out]
          refine H5.mono ?_
          rintro e W3 ⟨rfl, b3⟩
          obtain ⟨W2, hrun, ⟨k0, k1, k2⟩, hb2⟩ := HS.out r W3 b3
          clear H5 b3
          go_wp2_with (first | (refine wpList_store_run rfl 57 _ _ rfl (.pointer (some ⟨w.heap.size, 0, none⟩)) (.agg #[.int .i64 r.k, .int .i64 0, .string (ofL r.t)]) rfl rfl hrun ?_))
          refine bodyPost_ret (v := rdV r) (by simp [results, Tryz.results129, go_sem, *]) rfl ⟨by rw [HF.out], hb2⟩
    · skip
      have HF : Hid (rd s.data.toList = rdW 2 s.data.toList) := by show _ = _; unfold rd; rw [hh, h1, h2, if_neg (by simp), if_pos rfl]
      obtain ⟨r, hr⟩ : ∃ r, rdW 2 s.data.toList = r := ⟨_, rfl⟩
      rw [hr] at HF H2
      clear hr hh H1 H3 H4 H5
      go_enter Tryz.func129, Tryz.ntmps129
      go_wp2_with (first | (go_at_call 169; refine (small_any _ _).mono ?_; rintro e wq ⟨rfl, rfl⟩) | (go_at_call 153; refine (capital_any _ _).mono ?_; rintro e wq ⟨rfl, rfl⟩))
      try rw [HE.out]
      refine H2.mono ?_
      rintro e W3 ⟨rfl, b3⟩
      obtain ⟨W2, hrun, ⟨k0, k1, k2⟩, hb2⟩ := HS.out r W3 b3
      clear H2 b3
      go_wp2_with (first | (refine wpList_store_run rfl 57 _ _ rfl (.pointer (some ⟨w.heap.size, 0, none⟩)) (.agg #[.int .i64 r.k, .int .i64 0, .string (ofL r.t)]) rfl rfl hrun ?_))
      refine bodyPost_ret (v := rdV r) (by simp [results, Tryz.results129, go_sem, *]) rfl ⟨by rw [HF.out], hb2⟩
  · skip
    have HF : Hid (rd s.data.toList = rdW 1 s.data.toList) := by show _ = _; unfold rd; rw [hh, h1, if_pos rfl]
    obtain ⟨r, hr⟩ : ∃ r, rdW 1 s.data.toList = r := ⟨_, rfl⟩
    rw [hr] at HF H1
    clear hr hh H2 H3 H4 H5
    go_enter Tryz.func129, Tryz.ntmps129
    go_wp2_with (first | (go_at_call 169; refine (small_any _ _).mono ?_; rintro e wq ⟨rfl, rfl⟩) | (go_at_call 153; refine (capital_any _ _).mono ?_; rintro e wq ⟨rfl, rfl⟩))
    try rw [HE.out]
    refine H1.mono ?_
    rintro e W3 ⟨rfl, b3⟩
    obtain ⟨W2, hrun, ⟨k0, k1, k2⟩, hb2⟩ := HS.out r W3 b3
    clear H1 b3
    go_wp2_with (first | (refine wpList_store_run rfl 57 _ _ rfl (.pointer (some ⟨w.heap.size, 0, none⟩)) (.agg #[.int .i64 r.k, .int .i64 0, .string (ofL r.t)]) rfl rfl hrun ?_))
    refine bodyPost_ret (v := rdV r) (by simp [results, Tryz.results129, go_sem, *]) rfl ⟨by rw [HF.out], hb2⟩
end
