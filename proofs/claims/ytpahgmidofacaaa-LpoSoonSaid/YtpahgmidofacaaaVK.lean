/-
  LpoSoon: the law's walk.
-/
import Derived.Test.YtpahgmidofacaaaVJ
namespace Go.Proofs.Ytpahgmidofacaaa
open Go.RowKit Go.Maps

set_option maxRecDepth 100000 in
set_option maxHeartbeats 4000000 in
theorem soon_out (n m : Int) (h : n < 0 ∨ 58 < n ∨ m < 0 ∨ 58 < m) (w : World) : Calls Try.prog 7 #[.int .i64 n, .int .i64 m] w fun e w' => e = .returned (.bool true) ∧ Below w.heap.size w w' := by
  have hal := alive_any w
  by_cases h1 : n < 0
  · have e1 : decide (n < 0) = true := decide_eq_true h1
    clear h h1
    go_enter Try.func7, Try.ntmps7
    go_wp2_with (first | (go_at_call 9; refine hal.mono ?_; rintro e W' ⟨rfl, hb⟩))
    go_ret
    exact ⟨rfl, hb⟩
  · have e1 : decide (n < 0) = false := decide_eq_false h1
    by_cases h2 : 58 < n
    · have e2 : decide (58 < n) = true := decide_eq_true h2
      clear h h1 h2
      go_enter Try.func7, Try.ntmps7
      go_wp2_with (first | (go_at_call 9; refine hal.mono ?_; rintro e W' ⟨rfl, hb⟩))
      go_ret
      exact ⟨rfl, hb⟩
    · have e2 : decide (58 < n) = false := decide_eq_false h2
      by_cases h3 : m < 0
      · have e3 : decide (m < 0) = true := decide_eq_true h3
        clear h h1 h2 h3
        go_enter Try.func7, Try.ntmps7
        go_wp2_with (first | (go_at_call 9; refine hal.mono ?_; rintro e W' ⟨rfl, hb⟩))
        go_ret
        exact ⟨rfl, hb⟩
      · have e3 : decide (m < 0) = false := decide_eq_false h3
        have e4 : decide (58 < m) = true := decide_eq_true (by omega)
        clear h h1 h2 h3
        go_enter Try.func7, Try.ntmps7
        go_wp2_with (first | (go_at_call 9; refine hal.mono ?_; rintro e W' ⟨rfl, hb⟩))
        go_ret
        exact ⟨rfl, hb⟩

set_option maxRecDepth 100000 in
set_option maxHeartbeats 4000000 in
theorem soon_in (n m : Nat) (hn : n ≤ 58) (hm : m ≤ 58) (w : World) : Calls Try.prog 7 #[.int .i64 (n : Int), .int .i64 (m : Int)] w fun e w' => e = .returned (.bool true) ∧ Below w.heap.size w w' := by
  have HN : Hid (n ≤ 58 ∧ m ≤ 58) := ⟨hn, hm⟩
  have hJ0 : Hid (Jb w 0 0 (.slice none 0 0) (.slice none 0 0) ((w.alloc (.cells #[.int .i64 0, .string ⟨#[]⟩, .slice none 0 0] 28)).alloc (.cells #[.int .i64 0, .string ⟨#[]⟩, .slice none 0 0] 28))) := by
    have hb := below_box2 w (.cells #[.int .i64 0, .string ⟨#[]⟩, .slice none 0 0] 28) (.cells #[.int .i64 0, .string ⟨#[]⟩, .slice none 0 0] 28)
    have h1 := (MapKept.heap_alloc w (.cells #[.int .i64 0, .string ⟨#[]⟩, .slice none 0 0] 28)).1
    have hb2 := below_box (w.alloc (.cells #[.int .i64 0, .string ⟨#[]⟩, .slice none 0 0] 28)) (.cells #[.int .i64 0, .string ⟨#[]⟩, .slice none 0 0] 28)
    have h2 := (MapKept.heap_alloc (w.alloc (.cells #[.int .i64 0, .string ⟨#[]⟩, .slice none 0 0] 28)) (.cells #[.int .i64 0, .string ⟨#[]⟩, .slice none 0 0] 28)).1
    rw [World.size_alloc] at h2
    exact ⟨(hb2.block _ (by simp)).trans h1, h2, ArgsP.nil _ _, ArgsP.nil _ _, hb⟩
  go_enter Try.func7, Try.ntmps7
  go_wp2
  go_loopw [7] (fun vi wr => ∃ i : Nat, vi = .int .i64 i ∧ i ≤ n ∧ Hid (∃ sa sb, Jb w i 0 sa sb wr)) (fun vi _ => n - (intOf vi).toNat)
  case atStart => exact ⟨0, rfl, Nat.zero_le _, _, _, hJ0.out⟩
  case round =>
    obtain ⟨i, rfl, hi, HI⟩ := hrel
    obtain ⟨sa, sb, hJ⟩ := HI.out
    clear HI
    obtain ⟨a1, c1, rfl⟩ := hJ.aa.slice
    obtain ⟨a2, c2, rfl⟩ := hJ.ab.slice
    obtain ⟨⟨x0, x1, x2⟩, y0, y1, y2⟩ := hJ.cells
    by_cases hlt : i < n
    · have eL : decide (i < n) = true := decide_eq_true hlt
      obtain ⟨Y, hrun, hY⟩ := hJ.upA rfl
      have HD : Hid (∃ sa sb, Jb w (i + 1) 0 sa sb Y) := ⟨_, _, hY⟩
      clear hJ hY hJ0
      go_wp2_with (first | (refine wpList_store_run rfl 28 _ _ rfl (.pointer (some ⟨w.heap.size, 0, none⟩)) (.agg #[.int .i64 0, .string ⟨#[102]⟩, .slice (some ⟨wr.heap.size, 0, none⟩) 2 2]) rfl rfl hrun ?_))
      go_roundw
      case rel => exact ⟨i + 1, by go_num, by omega, HD⟩
      case measure => simp [intOf]; omega
    · have eL : decide (i < n) = false := decide_eq_false hlt
      have hin : i = n := by omega
      subst hin
      have HJ : Hid (Jb w i 0 (.slice a1 (tw i).args.length c1) (.slice a2 (tw 0).args.length c2) wr) := hJ
      clear hJ hJ0 hi hlt x0 x1 x2 y0 y1 y2
      go_wp2
      go_loopw [8] (fun vi wr => ∃ j : Nat, vi = .int .i64 j ∧ j ≤ m ∧ Hid (∃ sa sb, Jb w i j sa sb wr)) (fun vi _ => m - (intOf vi).toNat)
      case atStart => exact ⟨0, rfl, Nat.zero_le _, _, _, HJ.out⟩
      case round =>
        obtain ⟨j, rfl, hj, HI⟩ := hrel
        obtain ⟨sa, sb, hJ⟩ := HI.out
        clear HI HJ
        obtain ⟨a3, c3, rfl⟩ := hJ.aa.slice
        obtain ⟨a4, c4, rfl⟩ := hJ.ab.slice
        obtain ⟨⟨x0, x1, x2⟩, y0, y1, y2⟩ := hJ.cells
        by_cases hlt : j < m
        · have eL : decide (j < m) = true := decide_eq_true hlt
          obtain ⟨Y, hrun, hY⟩ := hJ.upB rfl
          have HD : Hid (∃ sa sb, Jb w i (j + 1) sa sb Y) := ⟨_, _, hY⟩
          clear hJ hY
          go_wp2_with (first | (refine wpList_store_run rfl 28 _ _ rfl (.pointer (some ⟨w.heap.size + 1, 0, none⟩)) (.agg #[.int .i64 0, .string ⟨#[102]⟩, .slice (some ⟨wr.heap.size, 0, none⟩) 2 2]) rfl rfl hrun ?_))
          go_roundw
          case rel => exact ⟨j + 1, by go_num, by omega, HD⟩
          case measure => simp [intOf]; omega
        · have eL : decide (j < m) = false := decide_eq_false hlt
          have hjm : j = m := by omega
          subst hjm
          have hcmp := lcompare_any g0 (tw i) (tw j) _ _ _ _ wr (g0_at wr) hJ.aa.args hJ.ab.args (by have := (tw_right HN.out.1).2; omega) (by have := (tw_right HN.out.2).2; omega)
          rw [tw_cmp HN.out.1 HN.out.2] at hcmp
          have HB : Hid (Below w.heap.size w wr) := hJ.bel
          have hal := fun X => alive_any X
          clear hJ hj hlt
          rcases Nat.lt_trichotomy i j with hij | hij | hij
          · have c1 : decide (j < i) = false := decide_eq_false (by omega)
            have c2 : decide (i < j) = true := decide_eq_true hij
            rw [if_neg (by omega), if_pos hij] at hcmp
            clear hij
            go_wp2_with (first
              | (go_at_call 10; refine hcmp.mono ?_; rintro e W2 ⟨rfl, hb2⟩; have hal2 := hal W2)
              | (go_at_call 9; refine hal2.mono ?_; rintro e W3 ⟨rfl, hb3⟩))
            go_ret
            exact ⟨rfl, HB.out.trans ((hb2.trans (hb3.mono hb2.size)).mono HB.out.size)⟩
          · subst hij
            have c1 : decide (i < i) = false := decide_eq_false (by omega)
            rw [if_neg (by omega), if_neg (by omega)] at hcmp
            go_wp2_with (first
              | (go_at_call 10; refine hcmp.mono ?_; rintro e W2 ⟨rfl, hb2⟩; have hal2 := hal W2)
              | (go_at_call 9; refine hal2.mono ?_; rintro e W3 ⟨rfl, hb3⟩))
            go_ret
            exact ⟨rfl, HB.out.trans ((hb2.trans (hb3.mono hb2.size)).mono HB.out.size)⟩
          · have c1 : decide (j < i) = true := decide_eq_true hij
            have c2 : decide (i < j) = false := decide_eq_false (by omega)
            rw [if_pos hij] at hcmp
            clear hij
            go_wp2_with (first
              | (go_at_call 10; refine hcmp.mono ?_; rintro e W2 ⟨rfl, hb2⟩; have hal2 := hal W2)
              | (go_at_call 9; refine hal2.mono ?_; rintro e W3 ⟨rfl, hb3⟩))
            go_ret
            exact ⟨rfl, HB.out.trans ((hb2.trans (hb3.mono hb2.size)).mono HB.out.size)⟩

theorem soon_any (n m : Int) (w : World) : Calls Try.prog 7 #[.int .i64 n, .int .i64 m] w fun e w' => e = .returned (.bool true) ∧ Below w.heap.size w w' := by
  by_cases h : n < 0 ∨ 58 < n ∨ m < 0 ∨ 58 < m
  · exact soon_out n m h w
  · obtain ⟨a, rfl⟩ := Int.eq_ofNat_of_zero_le (a := n) (by omega)
    obtain ⟨b, rfl⟩ := Int.eq_ofNat_of_zero_le (a := m) (by omega)
    exact soon_in a b (by omega) (by omega) w

end Go.Proofs.Ytpahgmidofacaaa
