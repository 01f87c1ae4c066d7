/-
  read.
-/
import Derived.Test.YtkfbjkopmgeklaaL
namespace Go.Proofs.Ytkfbjkopmgeklaa
open Go.RowKit Go.Shelf

set_option maxHeartbeats 8000000 in
set_option maxRecDepth 100000 in
theorem read_any (s : ByteArray) (w : World) (hp : 0 < s.size) (hs : s.size ≤ 2097154) : Calls Try.prog 34 #[.string s] w fun e w' => e = .returned (rdV (rd s.data.toList)) ∧ Below w.heap.size w w' := by
  have HR : Hid (Rb w (w.alloc (.cells #[.int .i64 0, .int .i64 0, .string ⟨#[]⟩] 34))) := Rb.new w
  obtain ⟨W1, h1⟩ : ∃ X, w.alloc (.cells #[.int .i64 0, .int .i64 0, .string ⟨#[]⟩] 34) = X := ⟨_, rfl⟩
  rw [h1] at HR
  have HE : Hid (w.alloc (.cells #[.int .i64 0, .int .i64 0, .string ⟨#[]⟩] 34) = W1) := h1
  clear h1
  have hh := hd_of s hp
  have H1 := readWord_any 1 s W1 hs
  have H2 := readWord_any 2 s W1 hs
  have H3 := readQuoted_any s W1 hp hs
  have H4 := readDollar_any s W1 hp hs
  have H5 := readMark_any s W1
  have HS : Hid (∀ r : Rd, ∀ W, Below W1.heap.size W1 W → ∃ W', (Instr.storeAt 34 (.pointer (some ⟨w.heap.size, 0, none⟩)) (.agg #[.int .i64 r.k, .int .i64 0, .string (ofL r.t)])).run Try.prog W = .ok () W' ∧ (W'.cell? ⟨w.heap.size, 0, none⟩ = some (.int .i64 r.k) ∧ W'.cell? ⟨w.heap.size, 1, none⟩ = some (.int .i64 0) ∧ W'.cell? ⟨w.heap.size, 2, none⟩ = some (.string (ofL r.t))) ∧ Below w.heap.size w W') := fun r W hW => (HR.out.keep hW).told r.k 0 (ofL r.t)
  cases h1 : smB s[0].toNat
  · cases h2 : caB s[0].toNat
    · by_cases h3 : (s[0].toNat : Int) = 39
      · have g3 : ((s[0].toNat : Int) == 39) = true := by rw [h3]; rfl
        have HF : Hid (rd s.data.toList = rdQ (s.data.toList.drop 1)) := by show _ = _; unfold rd; rw [hh, h1, h2, if_neg (by simp), if_neg (by simp), if_pos h3]
        obtain ⟨r, hr⟩ : ∃ r, rdQ (s.data.toList.drop 1) = r := ⟨_, rfl⟩
        rw [hr] at HF H3
        clear hr hh H1 H2 H4 H5 h3
        go_enter Try.func34, Try.ntmps34
        go_wp2_with (first | (go_at_call 21; refine (small_any _ _).mono ?_; rintro e wq ⟨rfl, rfl⟩) | (go_at_call 28; refine (capital_any _ _).mono ?_; rintro e wq ⟨rfl, rfl⟩))
        try rw [HE.out]
        refine H3.mono ?_
        rintro e W3 ⟨rfl, b3⟩
        obtain ⟨W2, hrun, ⟨k0, k1, k2⟩, hb2⟩ := HS.out r W3 b3
        clear H3 b3
        go_wp2_with (first | (refine wpList_store_run rfl 34 _ _ rfl (.pointer (some ⟨w.heap.size, 0, none⟩)) (.agg #[.int .i64 r.k, .int .i64 0, .string (ofL r.t)]) rfl rfl hrun ?_))
        refine bodyPost_ret (v := rdV r) (by simp [results, Try.results34, go_sem, *]) rfl ⟨by rw [HF.out], hb2⟩
      · have g3 : ((s[0].toNat : Int) == 39) = false := by simpa using h3
        by_cases h4 : (s[0].toNat : Int) = 36
        · have g4 : ((s[0].toNat : Int) == 36) = true := by rw [h4]; rfl
          have HF : Hid (rd s.data.toList = rdD s.data.toList) := by show _ = _; unfold rd; rw [hh, h1, h2, if_neg (by simp), if_neg (by simp), if_neg h3, if_pos h4]
          obtain ⟨r, hr⟩ : ∃ r, rdD s.data.toList = r := ⟨_, rfl⟩
          rw [hr] at HF H4
          clear hr hh H1 H2 H3 H5 h3 h4
          go_enter Try.func34, Try.ntmps34
          go_wp2_with (first | (go_at_call 21; refine (small_any _ _).mono ?_; rintro e wq ⟨rfl, rfl⟩) | (go_at_call 28; refine (capital_any _ _).mono ?_; rintro e wq ⟨rfl, rfl⟩))
          try rw [HE.out]
          refine H4.mono ?_
          rintro e W3 ⟨rfl, b3⟩
          obtain ⟨W2, hrun, ⟨k0, k1, k2⟩, hb2⟩ := HS.out r W3 b3
          clear H4 b3
          go_wp2_with (first | (refine wpList_store_run rfl 34 _ _ rfl (.pointer (some ⟨w.heap.size, 0, none⟩)) (.agg #[.int .i64 r.k, .int .i64 0, .string (ofL r.t)]) rfl rfl hrun ?_))
          refine bodyPost_ret (v := rdV r) (by simp [results, Try.results34, go_sem, *]) rfl ⟨by rw [HF.out], hb2⟩
        · have g4 : ((s[0].toNat : Int) == 36) = false := by simpa using h4
          have HF : Hid (rd s.data.toList = rdM s.data.toList) := by show _ = _; unfold rd; rw [hh, h1, h2, if_neg (by simp), if_neg (by simp), if_neg h3, if_neg h4]
          obtain ⟨r, hr⟩ : ∃ r, rdM s.data.toList = r := ⟨_, rfl⟩
          rw [hr] at HF H5
          clear hr hh H1 H2 H3 H4 h3 h4
          go_enter Try.func34, Try.ntmps34
          go_wp2_with (first | (go_at_call 21; refine (small_any _ _).mono ?_; rintro e wq ⟨rfl, rfl⟩) | (go_at_call 28; refine (capital_any _ _).mono ?_; rintro e wq ⟨rfl, rfl⟩))
          try rw [HE.out]
          refine H5.mono ?_
          rintro e W3 ⟨rfl, b3⟩
          obtain ⟨W2, hrun, ⟨k0, k1, k2⟩, hb2⟩ := HS.out r W3 b3
          clear H5 b3
          go_wp2_with (first | (refine wpList_store_run rfl 34 _ _ rfl (.pointer (some ⟨w.heap.size, 0, none⟩)) (.agg #[.int .i64 r.k, .int .i64 0, .string (ofL r.t)]) rfl rfl hrun ?_))
          refine bodyPost_ret (v := rdV r) (by simp [results, Try.results34, go_sem, *]) rfl ⟨by rw [HF.out], hb2⟩
    · skip
      have HF : Hid (rd s.data.toList = rdW 2 s.data.toList) := by show _ = _; unfold rd; rw [hh, h1, h2, if_neg (by simp), if_pos rfl]
      obtain ⟨r, hr⟩ : ∃ r, rdW 2 s.data.toList = r := ⟨_, rfl⟩
      rw [hr] at HF H2
      clear hr hh H1 H3 H4 H5
      go_enter Try.func34, Try.ntmps34
      go_wp2_with (first | (go_at_call 21; refine (small_any _ _).mono ?_; rintro e wq ⟨rfl, rfl⟩) | (go_at_call 28; refine (capital_any _ _).mono ?_; rintro e wq ⟨rfl, rfl⟩))
      try rw [HE.out]
      refine H2.mono ?_
      rintro e W3 ⟨rfl, b3⟩
      obtain ⟨W2, hrun, ⟨k0, k1, k2⟩, hb2⟩ := HS.out r W3 b3
      clear H2 b3
      go_wp2_with (first | (refine wpList_store_run rfl 34 _ _ rfl (.pointer (some ⟨w.heap.size, 0, none⟩)) (.agg #[.int .i64 r.k, .int .i64 0, .string (ofL r.t)]) rfl rfl hrun ?_))
      refine bodyPost_ret (v := rdV r) (by simp [results, Try.results34, go_sem, *]) rfl ⟨by rw [HF.out], hb2⟩
  · skip
    have HF : Hid (rd s.data.toList = rdW 1 s.data.toList) := by show _ = _; unfold rd; rw [hh, h1, if_pos rfl]
    obtain ⟨r, hr⟩ : ∃ r, rdW 1 s.data.toList = r := ⟨_, rfl⟩
    rw [hr] at HF H1
    clear hr hh H2 H3 H4 H5
    go_enter Try.func34, Try.ntmps34
    go_wp2_with (first | (go_at_call 21; refine (small_any _ _).mono ?_; rintro e wq ⟨rfl, rfl⟩) | (go_at_call 28; refine (capital_any _ _).mono ?_; rintro e wq ⟨rfl, rfl⟩))
    try rw [HE.out]
    refine H1.mono ?_
    rintro e W3 ⟨rfl, b3⟩
    obtain ⟨W2, hrun, ⟨k0, k1, k2⟩, hb2⟩ := HS.out r W3 b3
    clear H1 b3
    go_wp2_with (first | (refine wpList_store_run rfl 34 _ _ rfl (.pointer (some ⟨w.heap.size, 0, none⟩)) (.agg #[.int .i64 r.k, .int .i64 0, .string (ofL r.t)]) rfl rfl hrun ?_))
    refine bodyPost_ret (v := rdV r) (by simp [results, Try.results34, go_sem, *]) rfl ⟨by rw [HF.out], hb2⟩

end Go.Proofs.Ytkfbjkopmgeklaa
