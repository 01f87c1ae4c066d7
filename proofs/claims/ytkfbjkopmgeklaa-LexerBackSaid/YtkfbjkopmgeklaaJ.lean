/-
  readQuoted, readDollar, readMark.
-/
import Derived.Test.YtkfbjkopmgeklaaI
namespace Go.Proofs.Ytkfbjkopmgeklaa
open Go.RowKit Go.Shelf

theorem eq_toList {a b : ByteArray} : (a.toList = b.toList) ↔ a = b := by
  rw [Lib.toList_data, Lib.toList_data]
  constructor
  · intro h; rw [← ofL_self a, ← ofL_self b, h]
  · intro h; rw [h]

theorem uq_len : ∀ (l n : List UInt8), uq l = some n → n.length ≤ l.length := by
  intro l
  induction h : l.length using Nat.strongRecOn generalizing l with
  | _ m ih =>
    intro n hn
    subst h
    cases l with
    | nil => rw [uq_nil] at hn; cases hn; simp
    | cons c r =>
      by_cases h3 : c = 92
      · subst h3
        cases r with
        | nil => rw [uq_esc_nil] at hn; cases hn
        | cons d r =>
          rw [uq_esc] at hn
          obtain ⟨n', h5, rfl⟩ := Option.map_eq_some_iff.1 hn
          have := ih r.length (by simp; omega) r rfl n' h5
          simp; omega
      · rw [uq_one _ h3] at hn
        obtain ⟨n', h5, rfl⟩ := Option.map_eq_some_iff.1 hn
        have := ih r.length (by simp) r rfl n' h5
        simp; omega

set_option maxHeartbeats 4000000 in
set_option maxRecDepth 100000 in
theorem readQuoted_any (s : ByteArray) (w : World) (hp : 0 < s.size) (hs : s.size ≤ 2097154) : Calls Try.prog 41 #[.string s] w fun e w' => e = .returned (rdV (rdQ (s.data.toList.drop 1))) ∧ Below w.heap.size w w' := by
  have HR : Hid (Rb w (w.alloc (.cells #[.int .i64 0, .int .i64 0, .string ⟨#[]⟩] 34))) := Rb.new w
  obtain ⟨W1, h1⟩ : ∃ X, w.alloc (.cells #[.int .i64 0, .int .i64 0, .string ⟨#[]⟩] 34) = X := ⟨_, rfl⟩
  rw [h1] at HR
  have HE : Hid (w.alloc (.cells #[.int .i64 0, .int .i64 0, .string ⟨#[]⟩] 34) = W1) := h1
  clear h1
  have hw := closing_any s W1 hp hs
  cases hq : qs (s.data.toList.drop 1) with
  | none =>
    have HF : Hid (rdQ (s.data.toList.drop 1) = badR 20) := by show _ = _; unfold rdQ; rw [hq]
    rw [hq] at hw
    have hw' : Calls Try.prog 47 #[.string s] W1 fun e w' => e = .returned (.int .i64 (-1)) ∧ w' = W1 := hw
    clear hq hw
    obtain ⟨W2, hrun, ⟨k0, k1, k2⟩, hb2⟩ := HR.out.told 0 0 ⟨#[]⟩
    go_enter Try.func41, Try.ntmps41
    go_wp2_with fail
    rw [HE.out]
    refine hw'.mono ?_
    rintro e W3 ⟨rfl, rfl⟩
    go_wp2_with (first | (refine wpList_store_run rfl 34 _ _ rfl (.pointer (some ⟨w.heap.size, 0, none⟩)) (.agg #[.int .i64 0, .int .i64 0, .string ⟨#[]⟩]) rfl rfl hrun ?_))
    refine bodyPost_ret (v := rdV (badR 20)) (by simp [results, Try.results41, go_sem, *, badR, ofL]) rfl ⟨by rw [HF.out], hb2⟩
  | some p =>
    obtain ⟨n, k⟩ := p
    obtain ⟨u1, u2, u3⟩ := qs_uq _ _ (Nat.le_refl _) n k hq
    rw [List.length_drop, size_len] at u2
    rw [hq] at hw
    have hw' : Calls Try.prog 47 #[.string s] W1 fun e w' => e = .returned (.int .i64 (k : Nat)) ∧ w' = W1 := by
      have e : cl 1 (some (n, k)) = (k : Nat) := by simp [cl]; omega
      rw [e] at hw; exact hw
    have hun := fun W => unquoted_any (s.extract 1 k) n W (by rw [extract_mid, ofL_data]; exact u3) (by rw [extract_mid, ofL_size, List.length_take]; omega)
    have hnl : n.length ≤ 2097154 := by
      have := uq_len _ _ u3
      rw [List.length_take] at this
      omega
    have hbe := fun W => begins_any (ofL n) W
    simp only [ofL_data] at hbe
    have hns : (ofL n).size = n.length := ofL_size n
    obtain ⟨N, hN⟩ : ∃ N, ofL n = N := ⟨_, rfl⟩
    have hk1 : (1 : Int) ≤ (k : Int) := by omega
    have hk2 : k ≤ s.size := by omega
    cases hb : bnB n with
    | false =>
      have HF : Hid (rdQ (s.data.toList.drop 1) = badR 20) := by show _ = _; unfold rdQ; rw [hq]; simp [hb]
      rw [hb] at hbe
      rw [hN] at hun hbe hns
      clear hq hw u1 u2 u3 hb
      go_enter Try.func41, Try.ntmps41
      go_wp2_with fail
      rw [HE.out]
      refine hw'.mono ?_
      rintro e W3 ⟨rfl, rfl⟩
      go_wp2_with fail
      refine (hun _).mono ?_
      rintro e W4 ⟨rfl, b4⟩
      have HR4 : Hid (Rb w W4) := HR.out.keep b4
      clear b4 hun
      go_wp2_with fail
      refine (hbe _).mono ?_
      clear hbe
      rintro e W5 ⟨rfl, rfl⟩
      obtain ⟨W2, hrun, ⟨k0, k1, k2⟩, hb2⟩ := HR4.out.told 0 0 ⟨#[]⟩
      go_wp2_with (first | (refine wpList_store_run rfl 34 _ _ rfl (.pointer (some ⟨w.heap.size, 0, none⟩)) (.agg #[.int .i64 0, .int .i64 0, .string ⟨#[]⟩]) rfl rfl hrun ?_))
      refine bodyPost_ret (v := rdV (badR 20)) (by simp [results, Try.results41, go_sem, *, badR, ofL]) rfl ⟨by rw [HF.out], hb2⟩
    | true =>
      rw [hb] at hbe
      by_cases h6 : 63 < n.length
      · have HF : Hid (rdQ (s.data.toList.drop 1) = badR 3) := by show _ = _; unfold rdQ; rw [hq]; simp [hb, h6]
        rw [hN] at hun hbe hns
        have h6' : 63 < N.size := by rw [hns]; exact h6
        clear hq hw u1 u2 u3 hb h6 hns
        go_enter Try.func41, Try.ntmps41
        go_wp2_with fail
        rw [HE.out]
        refine hw'.mono ?_
        rintro e W3 ⟨rfl, rfl⟩
        go_wp2_with fail
        refine (hun _).mono ?_
        rintro e W4 ⟨rfl, b4⟩
        have HR4 : Hid (Rb w W4) := HR.out.keep b4
        clear b4 hun
        go_wp2_with fail
        refine (hbe _).mono ?_
        clear hbe
        rintro e W5 ⟨rfl, rfl⟩
        obtain ⟨W2, hrun, ⟨k0, k1, k2⟩, hb2⟩ := HR4.out.told 0 0 ⟨#[]⟩
        go_wp2_with (first | (refine wpList_store_run rfl 34 _ _ rfl (.pointer (some ⟨w.heap.size, 0, none⟩)) (.agg #[.int .i64 0, .int .i64 0, .string ⟨#[]⟩]) rfl rfl hrun ?_))
        refine bodyPost_ret (v := rdV (badR 3)) (by simp [results, Try.results41, go_sem, *, badR, ofL]) rfl ⟨by rw [HF.out], hb2⟩
      · have HF : Hid (rdQ (s.data.toList.drop 1) = ⟨1, n, k + 1, 0⟩) := by show _ = _; unfold rdQ; rw [hq]; simp [hb, h6]
        rw [hN] at hun hbe hns
        have h6' : ¬ 63 < N.size := by rw [hns]; exact h6
        have HN : Hid (ofL n = N) := hN
        clear hq hw u1 u2 u3 hb h6 hns hN
        go_enter Try.func41, Try.ntmps41
        go_wp2_with fail
        rw [HE.out]
        refine hw'.mono ?_
        rintro e W3 ⟨rfl, rfl⟩
        go_wp2_with fail
        refine (hun _).mono ?_
        rintro e W4 ⟨rfl, b4⟩
        have HR4 : Hid (Rb w W4) := HR.out.keep b4
        clear b4 hun
        go_wp2_with fail
        refine (hbe _).mono ?_
        clear hbe
        rintro e W5 ⟨rfl, rfl⟩
        obtain ⟨W2, hrun, ⟨k0, k1, k2⟩, hb2⟩ := HR4.out.told 1 0 N
        go_wp2_with (first | (refine wpList_store_run rfl 34 _ _ rfl (.pointer (some ⟨w.heap.size, 0, none⟩)) (.agg #[.int .i64 1, .int .i64 0, .string N]) rfl rfl hrun ?_))
        refine bodyPost_ret (v := rdV ⟨1, n, k + 1, 0⟩) (by simp [results, Try.results41, go_sem, *, HN.out]) rfl ⟨by rw [HF.out], hb2⟩

end Go.Proofs.Ytkfbjkopmgeklaa
