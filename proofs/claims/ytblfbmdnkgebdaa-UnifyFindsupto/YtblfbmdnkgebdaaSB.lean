/-
  The document's Is.
-/
import Derived.Test.YtblfbmdnkgebdaaSA
import Derived.Test.YtblfbmdnkgebdaaQF
namespace Go.Proofs.Ytblfbmdnkgebdaa
open Go.RowKit

theorem prv_ge (l : List Bd) : ∀ i, i ≤ l.length → (∀ j (h : j < l.length), j < i → okb (prv l j) l[j] = true) → -1 ≤ prv l i
  | 0, _, _ => Int.le_refl _
  | i + 1, hi, h => by
    have ih := prv_ge l i (by omega) (fun j hj hji => h j hj (by omega))
    have hk := h i (by omega) (by omega)
    rw [prv_succ l i (by omega)]
    unfold okb at hk
    simp only [Bool.and_eq_true, decide_eq_true_eq] at hk
    omega

set_option maxRecDepth 100000 in
set_option maxHeartbeats 8000000 in
theorem ris_any (l : List Bd) (v : Value) (w : World) (hl : BindsAt w v l) :
    Calls Try.prog 21 #[v] w fun e w' => e = .returned (.bool (isSub l)) ∧ Below w.heap.size w w' := by
  obtain ⟨a, c, rfl⟩ := hl.slice
  have hlen := hl.len
  have HL : Hid (BindsAt w (.slice a l.length c) l) := hl
  clear hl
  by_cases hbig : 4000 < l.length
  · have Hf : Hid (isSub l = false) := isSub_false.2 fun h => by have := h.1; omega
    go_enter Try.func21, Try.ntmps21
    go_wp2
    go_ret
    exact ⟨ret_bool Hf.symm, Below.refl _ _⟩
  · go_enter Try.func21, Try.ntmps21
    go_wp2
    go_loopw [3] (fun vi wr => ∃ i : Nat, vi = .int .i64 i ∧ i ≤ l.length ∧ (∀ j (h : j < l.length), j < i → okb (prv l j) l[j] = true) ∧ Below w.heap.size w wr) (fun vi _ => l.length - (intOf vi).toNat)
    case atStart => exact ⟨0, rfl, Nat.zero_le _, fun j _ h => absurd h (by omega), Below.refl _ _⟩
    case round =>
      obtain ⟨i, rfl, hi, hok, hb⟩ := hrel
      by_cases hlt : i < l.length
      · obtain ⟨b, o, s, rfl, hB0⟩ := HL.out.nth hlt
        have hB := hB0.keep hb
        have hn : Hid (okb (prv l i) l[i] = false → isSub l = false) := not_sub hlt
        have HN : Hid (okb (prv l i) l[i] = true → ∀ j (h : j < l.length), j < i + 1 → okb (prv l j) l[j] = true) := fun hk j h hj => by
          by_cases e : j = i
          · subst e; exact hk
          · exact hok j h (by omega)
        have HP : ∀ k, i = k + 1 → ∃ pv, wr.cell? ⟨b, o + k * 4, none⟩ = some (.int .i64 pv) ∧ prv l i = pv := fun k hk => by
          subst hk
          obtain ⟨b', o', s', e', hBk⟩ := HL.out.nth (i := k) (by omega)
          cases e'
          exact ⟨_, (hBk.keep hb).c0, prv_succ l k (by omega)⟩
        obtain ⟨x, hx⟩ : ∃ x, l[i] = x := ⟨_, rfl⟩
        rw [hx] at hB hn HN
        obtain ⟨sa, sc, rfl, _, _⟩ := hB.sub.slice
        have hr : ∀ W, Below wr.heap.size wr W → Calls Try.prog 23 #[tval x.2 (.slice sa x.2.args.length sc)] W fun e w' => e = .returned (.int .i64 x.2.rightW) ∧ Below W.heap.size W w' := fun W hW => rright_any x.2 _ W (ArgsAt.keep hW (Nat.le_refl _) hB.sub)
        have HB : Hid (Below w.heap.size w wr) := hb
        have hlb := hB.lt
        obtain ⟨g0, g1, g2, g3⟩ : wr.cell? ⟨b, o + i * 4, none⟩ = some (.int .i64 x.1) ∧ wr.cell? ⟨b, o + i * 4 + 1, none⟩ = some (.int .i64 x.2.v) ∧ wr.cell? ⟨b, o + i * 4 + 2, none⟩ = some (.string x.2.fn) ∧ wr.cell? ⟨b, o + i * 4 + 3, none⟩ = some (.slice sa x.2.args.length sc) := ⟨hB.c0, hB.c1, hB.c2, hB.c3⟩
        have hge := prv_ge l i hi hok
        clear hB hB0 hok hx hb
        obtain ⟨pq, hpq⟩ : ∃ pq, prv l i = pq := ⟨_, rfl⟩
        rw [hpq] at hn HN HP hge
        cases i with
        | zero =>
          have hpv : pq = -1 := hpq.symm
          simp only [Nat.zero_mul, Nat.add_zero] at g0 g1 g2 g3
          clear HP hpq
          have f0 := fun p => cell_far hlb g0 p
          have f1 := fun p => cell_far hlb g1 p
          have f2 := fun p => cell_far hlb g2 p
          have f3 := fun p => cell_far hlb g3 p
          have i0 : (0 : Int) < (l.length : Int) := by omega
          by_cases h1 : x.1 < 0
          · have Hf : Hid (isSub l = false) := hn.out (okb_false (.inl (by omega)))
            clear hr hn
            go_wp2
            go_quiet (fail)
            go_wp2
            go_ret
            exact ⟨ret_bool Hf.symm, HB.out.trans ⟨rfl, rfl, rfl, Nat.le_refl _, fun _ _ => rfl⟩⟩
          · have hd1 : decide (x.1 < 0) = false := decide_eq_false h1
            by_cases h2 : 1000000 ≤ x.1
            · have Hf : Hid (isSub l = false) := hn.out (okb_false (.inr (.inl h2)))
              clear hr hn
              go_wp2
              go_quiet (fail)
              go_wp2
              go_ret
              exact ⟨ret_bool Hf.symm, HB.out.trans ⟨rfl, rfl, rfl, Nat.le_refl _, fun _ _ => rfl⟩⟩
            · have hd2 : decide (1000000 ≤ x.1) = false := decide_eq_false h2
              by_cases h4 : x.2.rightW = 0
              · rw [h4] at hr
                have ho : own1 x = (decide (x.2.fn.size = 0) && decide (x.2.v = x.1)) := rfl
                by_cases h6 : x.2.fn.size = 0
                · have hdd : x.2.fn.toList.isEmpty = true := by rw [ba_isEmpty]; exact decide_eq_true h6
                  by_cases h7 : x.2.v = x.1
                  · have h3 : own1 x = true := by rw [ho, decide_eq_true h6, decide_eq_true h7]; rfl
                    have hd7 : decide (x.2.v = x.1) = true := decide_eq_true h7
                    have hd8 : (x.2.v == x.1) = true := decide_eq_true h7
                    have Hf : Hid (isSub l = false) := hn.out (okb_false (.inr (.inr (.inl h3))))
                    clear h3 ho h4 h6 hn h7
                    go_wp2
                    refine wp_region_far (by kernel_rfl) ?_
                    repeat (first | go_big_quiet_step (exact calls_far hr _) | quiet_step (exact calls_far hr _))
                    refine wpQuiet_nil ?_
                    intro _ hw'
                    obtain ⟨pf, rfl⟩ := hw'
                    go_wp2
                    go_ret
                    exact ⟨ret_bool Hf.symm, HB.out.trans ((below_far _ pf).mono HB.out.size)⟩
                  · have h3 : own1 x = false := by rw [ho, decide_eq_false h7]; simp
                    have Hk : Hid (okb pq x = true) := okb_true (by omega) (by omega) h3 h4
                    have hd7 : decide (x.2.v = x.1) = false := decide_eq_false h7
                    have hd8 : (x.2.v == x.1) = false := decide_eq_false h7
                    clear h3 ho h4 h6 hn h7
                    go_wp2
                    refine wp_region_far (by kernel_rfl) ?_
                    repeat (first | go_big_quiet_step (exact calls_far hr _) | quiet_step (exact calls_far hr _))
                    refine wpQuiet_nil ?_
                    intro _ hw'
                    obtain ⟨pf, rfl⟩ := hw'
                    go_wp2
                    go_roundw
                    case rel => exact ⟨0 + 1, by go_num, by omega, HN.out Hk, HB.out.trans ((below_far _ pf).mono HB.out.size)⟩
                    case measure => simp [intOf]; omega
                · have hdd : x.2.fn.toList.isEmpty = false := by rw [ba_isEmpty]; exact decide_eq_false h6
                  have h3 : own1 x = false := by rw [ho, decide_eq_false h6]; rfl
                  have Hk : Hid (okb pq x = true) := okb_true (by omega) (by omega) h3 h4
                  clear h3 ho h4 h6 hn
                  go_wp2
                  refine wp_region_far (by kernel_rfl) ?_
                  repeat (first | go_big_quiet_step (exact calls_far hr _) | quiet_step (exact calls_far hr _))
                  refine wpQuiet_nil ?_
                  intro _ hw'
                  obtain ⟨pf, rfl⟩ := hw'
                  go_wp2
                  go_roundw
                  case rel => exact ⟨0 + 1, by go_num, by omega, HN.out Hk, HB.out.trans ((below_far _ pf).mono HB.out.size)⟩
                  case measure => simp [intOf]; omega
              · have Hf : Hid (isSub l = false) := hn.out (okb_false (.inr (.inr (.inr h4))))
                obtain ⟨rr, hrr⟩ : ∃ rr, x.2.rightW = rr := ⟨_, rfl⟩
                rw [hrr] at hr h4
                have hd4 : decide (rr = 0) = false := decide_eq_false h4
                clear hrr hn
                go_wp2
                refine wp_region_far (by kernel_rfl) ?_
                repeat (first | go_big_quiet_step (exact calls_far hr _) | quiet_step (exact calls_far hr _))
                refine wpQuiet_nil ?_
                intro _ hw'
                obtain ⟨pf, rfl⟩ := hw'
                go_wp2
                go_ret
                exact ⟨ret_bool Hf.symm, HB.out.trans ((below_far _ pf).mono HB.out.size)⟩
        | succ k =>
          obtain ⟨pv, p0, hpv⟩ := HP k rfl
          clear HP hpq
          have f0 := fun p => cell_far hlb g0 p
          have f1 := fun p => cell_far hlb g1 p
          have f2 := fun p => cell_far hlb g2 p
          have f3 := fun p => cell_far hlb g3 p
          have f4 := fun p => cell_far hlb p0 p
          have i0 : (k : Int) + 1 < (l.length : Int) := by omega
          have i1 : (0 : Int) ≤ (k : Int) + 1 := by omega
          have i2 : (k : Int) < (l.length : Int) := by omega
          have i3 : (0 : Int) ≤ (k : Int) := by omega
          have i4 : IntKind.i64.wrap ((k : Int) + 1 - 1) = k := by rw [show (k : Int) + 1 - 1 = k by omega]; exact wrap_small _ (by omega) (by omega)
          by_cases h1 : x.1 < 0
          · have Hf : Hid (isSub l = false) := hn.out (okb_false (.inl (by omega)))
            clear hr hn
            go_wp2
            go_quiet (fail)
            go_wp2
            go_ret
            exact ⟨ret_bool Hf.symm, HB.out.trans ⟨rfl, rfl, rfl, Nat.le_refl _, fun _ _ => rfl⟩⟩
          · have hd1 : decide (x.1 < 0) = false := decide_eq_false h1
            by_cases h2 : 1000000 ≤ x.1
            · have Hf : Hid (isSub l = false) := hn.out (okb_false (.inr (.inl h2)))
              clear hr hn
              go_wp2
              go_quiet (fail)
              go_wp2
              go_ret
              exact ⟨ret_bool Hf.symm, HB.out.trans ⟨rfl, rfl, rfl, Nat.le_refl _, fun _ _ => rfl⟩⟩
            · have hd2 : decide (1000000 ≤ x.1) = false := decide_eq_false h2
              have hdk : decide ((0 : Int) < (k : Int) + 1) = true := decide_eq_true (by omega)
              by_cases h5 : x.1 ≤ pv
              · have Hf : Hid (isSub l = false) := hn.out (okb_false (.inl (by omega)))
                clear hr hn
                go_wp2
                go_quiet (fail)
                go_wp2
                go_ret
                exact ⟨ret_bool Hf.symm, HB.out.trans ⟨rfl, rfl, rfl, Nat.le_refl _, fun _ _ => rfl⟩⟩
              · have hd5 : decide (x.1 ≤ pv) = false := decide_eq_false h5
                by_cases h4 : x.2.rightW = 0
                · rw [h4] at hr
                  have ho : own1 x = (decide (x.2.fn.size = 0) && decide (x.2.v = x.1)) := rfl
                  by_cases h6 : x.2.fn.size = 0
                  · have hdd : x.2.fn.toList.isEmpty = true := by rw [ba_isEmpty]; exact decide_eq_true h6
                    by_cases h7 : x.2.v = x.1
                    · have h3 : own1 x = true := by rw [ho, decide_eq_true h6, decide_eq_true h7]; rfl
                      have hd7 : decide (x.2.v = x.1) = true := decide_eq_true h7
                      have hd8 : (x.2.v == x.1) = true := decide_eq_true h7
                      have Hf : Hid (isSub l = false) := hn.out (okb_false (.inr (.inr (.inl h3))))
                      clear h3 ho h4 h6 hn h7
                      go_wp2
                      refine wp_region_far (by kernel_rfl) ?_
                      repeat (first | go_big_quiet_step (exact calls_far hr _) | quiet_step (exact calls_far hr _))
                      refine wpQuiet_nil ?_
                      intro _ hw'
                      obtain ⟨pf, rfl⟩ := hw'
                      go_wp2
                      go_ret
                      exact ⟨ret_bool Hf.symm, HB.out.trans ((below_far _ pf).mono HB.out.size)⟩
                    · have h3 : own1 x = false := by rw [ho, decide_eq_false h7]; simp
                      have Hk : Hid (okb pq x = true) := okb_true (by omega) (by omega) h3 h4
                      have hd7 : decide (x.2.v = x.1) = false := decide_eq_false h7
                      have hd8 : (x.2.v == x.1) = false := decide_eq_false h7
                      clear h3 ho h4 h6 hn h7
                      go_wp2
                      refine wp_region_far (by kernel_rfl) ?_
                      repeat (first | go_big_quiet_step (exact calls_far hr _) | quiet_step (exact calls_far hr _))
                      refine wpQuiet_nil ?_
                      intro _ hw'
                      obtain ⟨pf, rfl⟩ := hw'
                      go_wp2
                      go_roundw
                      case rel => exact ⟨k + 1 + 1, by go_num, by omega, HN.out Hk, HB.out.trans ((below_far _ pf).mono HB.out.size)⟩
                      case measure => simp [intOf]; omega
                  · have hdd : x.2.fn.toList.isEmpty = false := by rw [ba_isEmpty]; exact decide_eq_false h6
                    have h3 : own1 x = false := by rw [ho, decide_eq_false h6]; rfl
                    have Hk : Hid (okb pq x = true) := okb_true (by omega) (by omega) h3 h4
                    clear h3 ho h4 h6 hn
                    go_wp2
                    refine wp_region_far (by kernel_rfl) ?_
                    repeat (first | go_big_quiet_step (exact calls_far hr _) | quiet_step (exact calls_far hr _))
                    refine wpQuiet_nil ?_
                    intro _ hw'
                    obtain ⟨pf, rfl⟩ := hw'
                    go_wp2
                    go_roundw
                    case rel => exact ⟨k + 1 + 1, by go_num, by omega, HN.out Hk, HB.out.trans ((below_far _ pf).mono HB.out.size)⟩
                    case measure => simp [intOf]; omega
                · have Hf : Hid (isSub l = false) := hn.out (okb_false (.inr (.inr (.inr h4))))
                  obtain ⟨rr, hrr⟩ : ∃ rr, x.2.rightW = rr := ⟨_, rfl⟩
                  rw [hrr] at hr h4
                  have hd4 : decide (rr = 0) = false := decide_eq_false h4
                  clear hrr hn
                  go_wp2
                  refine wp_region_far (by kernel_rfl) ?_
                  repeat (first | go_big_quiet_step (exact calls_far hr _) | quiet_step (exact calls_far hr _))
                  refine wpQuiet_nil ?_
                  intro _ hw'
                  obtain ⟨pf, rfl⟩ := hw'
                  go_wp2
                  go_ret
                  exact ⟨ret_bool Hf.symm, HB.out.trans ((below_far _ pf).mono HB.out.size)⟩
      · have Hf : Hid (isSub l = true) := isSub_iff.2 ⟨by omega, fun j h => hok j h (by omega)⟩
        go_wp2
        go_ret
        exact ⟨ret_bool Hf.symm, hb⟩

end Go.Proofs.Ytblfbmdnkgebdaa
