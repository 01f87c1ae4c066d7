/-
  The document's Equal of clauses.
-/
import Derived.Test.YtgnjgpplelakkaaGreatMA
namespace Go.Proofs.YtgnjgpplelakkaaGreat
open Go.RowKit

set_option maxRecDepth 100000 in
set_option maxHeartbeats 8000000 in
theorem rcequal_any (l m : List Lt) (v u : Value) (w : World) (hl : ClauseAt w v l) (hm : ClauseAt w u m) :
    Calls Tryz.prog 11 #[v, u] w fun e w' => e = .returned (.bool (ceq l m)) ∧ Below w.heap.size w w' := by
  obtain ⟨a, c, rfl⟩ := hl.slice
  obtain ⟨b, d, rfl⟩ := hm.slice
  have hlen := hl.len
  have hlen' := hm.len
  have HL : Hid (ClauseAt w (.slice a l.length c) l) := hl
  have HM : Hid (ClauseAt w (.slice b m.length d) m) := hm
  clear hl hm
  by_cases hlm : l.length = m.length
  · have hbn : ((l.length : Int) != (m.length : Int)) = false := by rw [bne_eq_false_iff_eq]; omega
    have HLM : Hid (l.length = m.length) := hlm
    clear hlm
    go_enter Tryz.func11, Tryz.ntmps11
    go_wp2
    go_loopw [5] (fun vi wr => ∃ i : Nat, vi = .int .i64 i ∧ i ≤ l.length ∧ Below w.heap.size w wr ∧ l.take i = m.take i) (fun vi _ => l.length - (intOf vi).toNat)
    case atStart => exact ⟨0, rfl, Nat.zero_le _, Below.refl _ _, by simp⟩
    case round =>
      obtain ⟨i, rfl, hi, hb, hall⟩ := hrel
      by_cases hlt : i < l.length
      · have hlt' : i < m.length := by have := HLM.out; omega
        obtain ⟨bb, o, sl, sr, rfl, hX⟩ := (HL.out.keep hb).nth hlt
        obtain ⟨bb', o', sl', sr', rfl, hY⟩ := (HM.out.keep hb).nth hlt'
        have HN : Hid (l[i] = m[i] → l.take (i + 1) = m.take (i + 1)) := fun e => by rw [List.take_succ_eq_append_getElem hlt, List.take_succ_eq_append_getElem hlt', hall, e]
        have HF : Hid (l[i] ≠ m[i] → ceq l m = false) := fun e => ceq_false fun h => e (by simp [h])
        obtain ⟨x, hx⟩ : ∃ x, l[i] = x := ⟨_, rfl⟩
        obtain ⟨y, hy⟩ : ∃ y, m[i] = y := ⟨_, rfl⟩
        rw [hx] at hX HN HF
        rw [hy] at hY HN HF
        have HQ : Hid ((leq x y = true → l.take (i + 1) = m.take (i + 1)) ∧ (leq x y = false → ceq l m = false)) := ⟨fun h => HN.out (leq_iff.1 h), fun h => HF.out fun e => by rw [leq_iff.2 e] at h; cases h⟩
        have hc21 : ∀ (t t' : T) (s s' : Value), ArgsAt wr s t.args → ArgsAt wr s' t'.args → ∀ W, Below wr.heap.size wr W → Calls Tryz.prog 30 #[tval t s, tval t' s'] W fun e w' => e = .returned (.bool (same t t')) ∧ Below W.heap.size W w' := fun t t' s s' h h' W hW => rsame_any t t' _ _ W (ArgsAt.keep hW (Nat.le_refl _) h) (ArgsAt.keep hW (Nat.le_refl _) h')
        have hal := hX.al
        have har := hX.ar
        have hal' := hY.al
        have har' := hY.ar
        have f0 := fun p => cell_far hX.lt hX.c0 p
        have f1 := fun p => cell_far hX.lt hX.c1 p
        have f2 := fun p => cell_far hX.lt hX.c2 p
        have f3 := fun p => cell_far hX.lt hX.c3 p
        have f4 := fun p => cell_far hX.lt hX.c4 p
        have f5 := fun p => cell_far hX.lt hX.c5 p
        have f6 := fun p => cell_far hX.lt hX.c6 p
        have g0 := fun p => cell_far hY.lt hY.c0 p
        have g1 := fun p => cell_far hY.lt hY.c1 p
        have g2 := fun p => cell_far hY.lt hY.c2 p
        have g3 := fun p => cell_far hY.lt hY.c3 p
        have g4 := fun p => cell_far hY.lt hY.c4 p
        have g5 := fun p => cell_far hY.lt hY.c5 p
        have g6 := fun p => cell_far hY.lt hY.c6 p
        have HB : Hid (Below w.heap.size w wr) := hb
        obtain ⟨_, _, rfl, _⟩ := hX.al.slice
        obtain ⟨_, _, rfl, _⟩ := hX.ar.slice
        obtain ⟨_, _, rfl, _⟩ := hY.al.slice
        obtain ⟨_, _, rfl, _⟩ := hY.ar.slice
        have i0' : (i : Int) < (l.length : Int) := by omega
        have i1' : (0 : Int) ≤ (i : Int) := by omega
        have i2' : (i : Int) < (m.length : Int) := by omega
        have HE : Hid (leq x y = ((x.neg == y.neg) && same x.l y.l && same x.r y.r)) := rfl
        clear hX hY hb hall hx hy HN HF
        obtain ⟨n1, xl, xr⟩ := x
        obtain ⟨n2, yl, yr⟩ := y
        simp only at *
        by_cases hn : n1 = n2
        · subst hn
          have hb : (n1 != n1) = false := by simp
          have hb' : (n1 == n1) = true := by simp
          cases hp : same xl yl
          · have HG : Hid (ceq l m = false) := HQ.out.2 (by rw [HE.out, hp]; simp)
            clear HQ HE
            go_wp2
            refine wp_region_far (by kernel_rfl) ?_
            repeat (first | go_big_quiet_step (exact calls_far (hc21 _ _ _ _ (by first | exact hal | exact har) (by first | exact hal' | exact har')) _) | quiet_step (exact calls_far (hc21 _ _ _ _ (by first | exact hal | exact har) (by first | exact hal' | exact har')) _))
            refine wpQuiet_nil ?_
            intro _ hw'
            obtain ⟨pf, rfl⟩ := hw'
            go_wp2
            go_ret
            exact ⟨ret_bool HG.out.symm, HB.out.trans ((below_far _ pf).mono HB.out.size)⟩
          · cases hq : same xr yr
            · have HG : Hid (ceq l m = false) := HQ.out.2 (by rw [HE.out, hq]; simp)
              clear HQ HE
              go_wp2
              refine wp_region_far (by kernel_rfl) ?_
              repeat (first | go_big_quiet_step (exact calls_far (hc21 _ _ _ _ (by first | exact hal | exact har) (by first | exact hal' | exact har')) _) | quiet_step (exact calls_far (hc21 _ _ _ _ (by first | exact hal | exact har) (by first | exact hal' | exact har')) _))
              refine wpQuiet_nil ?_
              intro _ hw'
              obtain ⟨pf, rfl⟩ := hw'
              go_wp2
              go_ret
              exact ⟨ret_bool HG.out.symm, HB.out.trans ((below_far _ pf).mono HB.out.size)⟩
            · have HG : Hid (l.take (i + 1) = m.take (i + 1)) := HQ.out.1 (by rw [HE.out, hp, hq]; simp)
              clear HQ HE
              go_wp2
              refine wp_region_far (by kernel_rfl) ?_
              repeat (first | go_big_quiet_step (exact calls_far (hc21 _ _ _ _ (by first | exact hal | exact har) (by first | exact hal' | exact har')) _) | quiet_step (exact calls_far (hc21 _ _ _ _ (by first | exact hal | exact har) (by first | exact hal' | exact har')) _))
              refine wpQuiet_nil ?_
              intro _ hw'
              obtain ⟨pf, rfl⟩ := hw'
              go_wp2
              go_roundw
              case rel => exact ⟨i + 1, by go_num, by omega, HB.out.trans ((below_far _ pf).mono HB.out.size), HG.out⟩
              case measure => simp [intOf]; omega
        · have hb : (n1 != n2) = true := by rw [bne_iff_ne]; exact hn
          have hb' : (n1 == n2) = false := by simpa using hn
          have HG : Hid (ceq l m = false) := HQ.out.2 (by rw [HE.out, hb']; rfl)
          clear HQ HE hn
          cases n1 <;> cases n2 <;> first | exact absurd hb (by decide) | (
            go_wp2
            refine wp_region_far (by kernel_rfl) ?_
            repeat (first | go_big_quiet_step (exact calls_far (hc21 _ _ _ _ (by first | exact hal | exact har) (by first | exact hal' | exact har')) _) | quiet_step (exact calls_far (hc21 _ _ _ _ (by first | exact hal | exact har) (by first | exact hal' | exact har')) _))
            refine wpQuiet_nil ?_
            intro _ hw'
            obtain ⟨pf, rfl⟩ := hw'
            go_wp2
            go_ret
            exact ⟨ret_bool HG.out.symm, HB.out.trans ((below_far _ pf).mono HB.out.size)⟩)
      · have HG : Hid (ceq l m = true) := by
          refine ceq_true.2 ?_
          rw [List.take_of_length_le (by omega), List.take_of_length_le (by have := HLM.out; omega)] at hall
          exact hall
        clear hall
        go_wp2
        go_ret
        exact ⟨ret_bool HG.out.symm, hb⟩
  · have hbn : ((l.length : Int) != (m.length : Int)) = true := by rw [bne_iff_ne]; omega
    have HG : Hid (ceq l m = false) := ceq_false fun h => hlm (by rw [h])
    go_enter Tryz.func11, Tryz.ntmps11
    go_wp2
    go_ret
    exact ⟨ret_bool HG.out.symm, Below.refl _ _⟩

end Go.Proofs.YtgnjgpplelakkaaGreat
