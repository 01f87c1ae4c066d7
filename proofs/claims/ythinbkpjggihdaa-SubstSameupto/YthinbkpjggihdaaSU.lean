/-
  The document's Same.
-/
import Derived.Test.YthinbkpjggihdaaSB
import Derived.Test.YthinbkpjggihdaaSC
namespace Go.Proofs.Ythinbkpjggihdaa
open Go.RowKit

set_option maxRecDepth 100000 in
set_option maxHeartbeats 4000000 in
theorem rsame_sub (l m : List Bd) (sl sm : Value) (w : World) (ha : BindsAt w sl l) (hb : BindsAt w sm m) :
    Calls Try.prog 24 #[sl, sm] w fun e w' => e = .returned (.bool (subSame l m)) ∧ Below w.heap.size w w' := by
  have h1 := ris_any l sl w ha
  have h2 : ∀ W, Below w.heap.size w W → Calls Try.prog 14 #[sm] W fun e w' => e = .returned (.bool (isSub m)) ∧ Below W.heap.size W w' := fun W hW => ris_any m sm W (hb.keep hW)
  have hlen := ha.len
  obtain ⟨a, c, rfl⟩ := ha.slice
  obtain ⟨b, d, rfl⟩ := hb.slice
  have HR : Hid (subSame l m = (isSub l && isSub m && bsames l m)) := rfl
  have HA : Hid (BindsAt w (.slice a l.length c) l ∧ BindsAt w (.slice b m.length d) m) := ⟨ha, hb⟩
  clear ha hb
  cases e1 : isSub l
  · rw [e1] at h1
    have Hf : Hid (subSame l m = false) := by show _ = _; rw [HR.out, e1]; rfl
    clear e1 HR
    go_enter Try.func24, Try.ntmps24
    go_wp2_with (first | (go_at_call 14; refine h1.mono ?_; rintro e w2 ⟨rfl, hb2⟩))
    go_ret
    exact ⟨ret_bool Hf.symm, hb2⟩
  · rw [e1] at h1
    cases e2 : isSub m
    · rw [e2] at h2
      have Hf : Hid (subSame l m = false) := by show _ = _; rw [HR.out, e1, e2]; rfl
      clear e1 e2 HR
      go_enter Try.func24, Try.ntmps24
      go_wp2_with (first | (go_at_call 14; refine (h2 w2 hb2).mono ?_; rintro e w3 ⟨rfl, hb3⟩) | (go_at_call 14; refine h1.mono ?_; rintro e w2 ⟨rfl, hb2⟩))
      go_ret
      exact ⟨ret_bool Hf.symm, hb2.trans (hb3.mono hb2.size)⟩
    · rw [e2] at h2
      have Hs : Hid (subSame l m = bsames l m) := by show _ = _; rw [HR.out, e1, e2]; rfl
      clear e1 e2 HR
      by_cases hl : l.length = m.length
      · have hd : ((l.length : Int) != (m.length : Int)) = false := by rw [bne_eq_false_iff_eq]; omega
        have HE : Hid (l.length = m.length) := hl
        clear hl
        go_enter Try.func24, Try.ntmps24
        go_wp2_with (first | (go_at_call 14; refine (h2 w2 hb2).mono ?_; rintro e w3 ⟨rfl, hb3⟩) | (go_at_call 14; refine h1.mono ?_; rintro e w2 ⟨rfl, hb2⟩))
        have HB3 : Hid (Below w.heap.size w w3) := hb2.trans (hb3.mono hb2.size)
        clear h1 h2 hb2 hb3
        go_loopw [5] (fun vi wr => ∃ i : Nat, vi = .int .i64 i ∧ i ≤ l.length ∧ Hid (l.take i = m.take i) ∧ Below w.heap.size w wr) (fun vi _ => l.length - (intOf vi).toNat)
        case atStart => exact ⟨0, rfl, Nat.zero_le _, rfl, HB3.out⟩
        case round =>
          obtain ⟨i, rfl, hi, hall, hw⟩ := hrel
          by_cases hlt : i < l.length
          · have hlt' : i < m.length := HE ▸ hlt
            obtain ⟨ba, oa, s, e', hX0⟩ := HA.out.1.nth hlt
            cases e'
            obtain ⟨bb, ob, s', e', hY0⟩ := HA.out.2.nth hlt'
            cases e'
            have hX := hX0.keep hw
            have hY := hY0.keep hw
            have HT : Hid (l[i] = m[i] → l.take (i + 1) = m.take (i + 1)) := fun e => bd_take_eq HE hlt hall e
            have HN : Hid (l[i] ≠ m[i] → bsames l m = false) := fun hne => bsames_false.2 fun e => hne (by subst e; rfl)
            obtain ⟨x, hx⟩ : ∃ x, l[i] = x := ⟨_, rfl⟩
            obtain ⟨y, hy⟩ : ∃ y, m[i] = y := ⟨_, rfl⟩
            rw [hx] at hX HT HN
            rw [hy] at hY HT HN
            obtain ⟨sa, sc, rfl, _, _⟩ := hX.sub.slice
            obtain ⟨ta, tc, rfl, _, _⟩ := hY.sub.slice
            have hc0 : ∀ W, Below wr.heap.size wr W → Calls Try.prog 15 #[tval x.2 (.slice sa x.2.args.length sc), tval y.2 (.slice ta y.2.args.length tc)] W fun e w' => e = .returned (.bool (same x.2 y.2)) ∧ Below W.heap.size W w' := fun W hW => rsame_any x.2 y.2 _ _ W (ArgsAt.keep hW (Nat.le_refl _) hX.sub) (ArgsAt.keep hW (Nat.le_refl _) hY.sub)
            have f0 := fun p => cell_far hX.lt hX.c0 p
            have f1 := fun p => cell_far hX.lt hX.c1 p
            have f2 := fun p => cell_far hX.lt hX.c2 p
            have f3 := fun p => cell_far hX.lt hX.c3 p
            have g0 := fun p => cell_far hY.lt hY.c0 p
            have g1 := fun p => cell_far hY.lt hY.c1 p
            have g2 := fun p => cell_far hY.lt hY.c2 p
            have g3 := fun p => cell_far hY.lt hY.c3 p
            have i0 : (i : Int) < (l.length : Int) := by omega
            have i1 : (0 : Int) ≤ (i : Int) := by omega
            have i2 : (i : Int) < (m.length : Int) := by omega
            have HB : Hid (Below w.heap.size w wr) := hw
            clear hX hY hX0 hY0 hw hx hy hall
            by_cases hv : x.1 = y.1
            · have hd1 : (x.1 != y.1) = false := by rw [bne_eq_false_iff_eq]; exact hv
              have hd2 : decide (x.1 = y.1) = true := decide_eq_true hv
              cases hsm : same x.2 y.2
              · have Hf : Hid (subSame l m = false) := by show _ = _; rw [Hs.out]; exact HN.out fun e => by rw [e] at hsm; exact same_false.1 hsm rfl
                have hc := hc0
                rw [hsm] at hc
                clear hc0 hsm hv HN HT
                go_wp2
                refine wp_region_far (by kernel_rfl) ?_
                repeat (first | go_big_quiet_step (exact calls_far hc _) | quiet_step (exact calls_far hc _))
                refine wpQuiet_nil ?_
                intro _ hw'
                obtain ⟨pf, rfl⟩ := hw'
                go_wp2
                go_ret
                exact ⟨ret_bool Hf.symm, HB.out.trans ((below_far _ pf).mono HB.out.size)⟩
              · have Hn : Hid (l.take (i + 1) = m.take (i + 1)) := HT.out (Prod.ext hv (same_iff.1 hsm))
                have hc := hc0
                rw [hsm] at hc
                clear hc0 hsm hv HN HT
                go_wp2
                refine wp_region_far (by kernel_rfl) ?_
                repeat (first | go_big_quiet_step (exact calls_far hc _) | quiet_step (exact calls_far hc _))
                refine wpQuiet_nil ?_
                intro _ hw'
                obtain ⟨pf, rfl⟩ := hw'
                go_wp2
                go_roundw
                case rel => exact ⟨i + 1, by go_num, by omega, Hn, HB.out.trans ((below_far _ pf).mono HB.out.size)⟩
                case measure => simp [intOf]; omega
            · have hd1 : (x.1 != y.1) = true := by rw [bne_iff_ne]; exact hv
              have hd2 : decide (x.1 = y.1) = false := decide_eq_false hv
              have Hf : Hid (subSame l m = false) := by show _ = _; rw [Hs.out]; exact HN.out fun e => hv (by rw [e])
              clear hc0 HN HT
              go_wp2
              refine wp_region_far (by kernel_rfl) ?_
              repeat (first | go_big_quiet_step (fail) | quiet_step (fail))
              refine wpQuiet_nil ?_
              intro _ hw'
              obtain ⟨pf, rfl⟩ := hw'
              go_wp2
              go_ret
              exact ⟨ret_bool Hf.symm, HB.out.trans ((below_far _ pf).mono HB.out.size)⟩
          · have Hf : Hid (subSame l m = true) := by
              show _ = _
              rw [Hs.out]
              refine bsames_iff.2 ?_
              have hall' : l.take i = m.take i := hall
              have hl' : l.length = m.length := HE
              rw [List.take_of_length_le (by omega), List.take_of_length_le (by omega)] at hall'
              exact hall'
            go_wp2
            go_ret
            exact ⟨ret_bool Hf.symm, hw⟩
      · have Hf : Hid (subSame l m = false) := by show _ = _; rw [Hs.out]; exact bsames_false.2 fun e => hl (by rw [e])
        have hd : ((l.length : Int) != (m.length : Int)) = true := by rw [bne_iff_ne]; omega
        clear hl
        go_enter Try.func24, Try.ntmps24
        go_wp2_with (first | (go_at_call 14; refine (h2 w2 hb2).mono ?_; rintro e w3 ⟨rfl, hb3⟩) | (go_at_call 14; refine h1.mono ?_; rintro e w2 ⟨rfl, hb2⟩))
        go_ret
        exact ⟨ret_bool Hf.symm, hb2.trans (hb3.mono hb2.size)⟩

end Go.Proofs.Ythinbkpjggihdaa
