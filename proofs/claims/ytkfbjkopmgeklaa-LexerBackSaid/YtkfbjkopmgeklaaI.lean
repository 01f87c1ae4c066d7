/-
  strings.Clone; readWord, readQuoted, readDollar.
-/
import Derived.Test.YtkfbjkopmgeklaaH
namespace Go.Proofs.Ytkfbjkopmgeklaa
open Go.RowKit Go.Shelf

theorem extract_take (s : ByteArray) (n : Nat) : s.extract 0 n = ofL (s.data.toList.take n) := by
  refine ofL_of ?_
  rw [Lib.extract_data]; simp
theorem extract_mid (s : ByteArray) (i j : Nat) : s.extract i j = ofL ((s.data.toList.drop i).take (j - i)) := by
  refine ofL_of ?_
  rw [Lib.extract_data]
theorem extract_drop (s : ByteArray) (i : Nat) : s.extract i s.size = ofL (s.data.toList.drop i) := by
  refine ofL_of ?_
  rw [Lib.extract_data, List.take_of_length_le]
  rw [List.length_drop, size_len]; omega

set_option maxHeartbeats 1000000 in
theorem clone_any (s : ByteArray) (w : World) (hs : s.size ≤ 2097154) : Calls Try.prog 46 #[.string s] w fun e w' => e = .returned (.string s) ∧ Below w.heap.size w w' := by
  go_enter Try.func46, Try.ntmps46
  go_wp2_with (go_at_call 50; refine (Try.stringslite_Clone s _ (by omega)).mono ?_; rintro e W1 ⟨rfl, b1⟩)
  go_ret
  exact ⟨rfl, b1⟩

set_option maxHeartbeats 2000000 in
set_option maxRecDepth 100000 in
theorem readWord_any (k : Int) (s : ByteArray) (w : World) (hs : s.size ≤ 2097154) : Calls Try.prog 40 #[.int .i64 k, .string s] w fun e w' => e = .returned (rdV (rdW k s.data.toList)) ∧ Below w.heap.size w w' := by
  have HR : Hid (Rb w (w.alloc (.cells #[.int .i64 0, .int .i64 0, .string ⟨#[]⟩] 34))) := Rb.new w
  obtain ⟨W1, h1⟩ : ∃ X, w.alloc (.cells #[.int .i64 0, .int .i64 0, .string ⟨#[]⟩] 34) = X := ⟨_, rfl⟩
  rw [h1] at HR
  have HE : Hid (w.alloc (.cells #[.int .i64 0, .int .i64 0, .string ⟨#[]⟩] 34) = W1) := h1
  clear h1
  have hw := wordSize_any s W1 hs
  have hle : wlen s.data.toList ≤ s.size := by have := wlen_le s.data.toList; rwa [size_len] at this
  by_cases h6 : 63 < wlen s.data.toList
  · have HF : Hid (rdW k s.data.toList = badR 3) := by show _ = _; unfold rdW; rw [if_pos h6]
    obtain ⟨n, hn⟩ : ∃ n, wlen s.data.toList = n := ⟨_, rfl⟩
    rw [hn] at h6 hle hw
    clear hn
    obtain ⟨W2, hrun, ⟨k0, k1, k2⟩, hb2⟩ := HR.out.told 0 0 ⟨#[]⟩
    go_enter Try.func40, Try.ntmps40
    go_wp2_with fail
    rw [HE.out]
    refine hw.mono ?_
    rintro e W3 ⟨rfl, rfl⟩
    go_wp2_with (first | (refine wpList_store_run rfl 34 _ _ rfl (.pointer (some ⟨w.heap.size, 0, none⟩)) (.agg #[.int .i64 0, .int .i64 0, .string ⟨#[]⟩]) rfl rfl hrun ?_))
    refine bodyPost_ret (v := rdV (badR 3)) (by simp [results, Try.results40, go_sem, *, badR, ofL]) rfl ⟨by rw [HF.out], hb2⟩
  · have HF : Hid (rdW k s.data.toList = ⟨k, s.data.toList.take (wlen s.data.toList), wlen s.data.toList, 0⟩) := by show _ = _; unfold rdW; rw [if_neg h6]
    have hcl := fun W => clone_any (s.extract 0 (wlen s.data.toList)) W (by rw [extract_take, ofL_size, List.length_take, size_len]; omega)
    have HT : Hid (s.extract 0 (wlen s.data.toList) = ofL (s.data.toList.take (wlen s.data.toList))) := extract_take _ _
    obtain ⟨n, hn⟩ : ∃ n, wlen s.data.toList = n := ⟨_, rfl⟩
    rw [hn] at h6 hle hw HF hcl HT
    clear hn
    go_enter Try.func40, Try.ntmps40
    go_wp2_with fail
    rw [HE.out]
    refine hw.mono ?_
    rintro e W3 ⟨rfl, rfl⟩
    go_wp2_with fail
    refine (hcl _).mono ?_
    rintro e W4 ⟨rfl, b4⟩
    rw [HT.out]
    obtain ⟨W2, hrun, ⟨k0, k1, k2⟩, hb2⟩ := (HR.out.keep b4).told k 0 (ofL (s.data.toList.take n))
    clear hcl hw b4
    go_wp2_with (first | (refine wpList_store_run rfl 34 _ _ rfl (.pointer (some ⟨w.heap.size, 0, none⟩)) (.agg #[.int .i64 k, .int .i64 0, .string (ofL (s.data.toList.take n))]) rfl rfl hrun ?_))
    refine bodyPost_ret (v := rdV ⟨k, s.data.toList.take n, n, 0⟩) (by simp [results, Try.results40, go_sem, *]) rfl ⟨by rw [HF.out], hb2⟩

end Go.Proofs.Ytkfbjkopmgeklaa
