/-
  The document's Variant.
-/
import Derived.Test.YtblfbmdnkgebdaaPZ
namespace Go.Proofs.Ytblfbmdnkgebdaa
open Go.RowKit Go.Maps

/-- Of the i-th bind: a variable, and another one than those ahead of it. -/
def Good (s : List Bd) (i : Nat) : Prop := ∀ hi : i < s.length, s[i].2.fn.size = 0 ∧ ∀ k (hk : k < i), s[k].2.v ≠ s[i].2.v
theorem rvar_good {s : List Bd} : RVar s ↔ ∀ i, i < s.length → Good s i := ⟨fun h i _ hi => h i hi, fun h i hi => h i hi hi⟩

theorem rvb_no {p t : T} {s : List Bd} (hd : dmt p t [] = some s) (h : ¬ RVar s) : rvariantB p t = false := by
  unfold rvariantB
  rw [hd]
  simp [h]
theorem rvb_yes {p t : T} {s : List Bd} (h1 : p.rightW = 0) (h2 : t.rightW = 0) (hd : dmt p t [] = some s) (h : RVar s) : rvariantB p t = true := by
  unfold rvariantB
  rw [hd]
  simp [h1, h2, h]

set_option maxRecDepth 100000 in
set_option maxHeartbeats 4000000 in
theorem rvariant_any (p t : T) (sp st : Value) (w : World) (hp : ArgsAt w sp p.args) (ht : ArgsAt w st t.args) (hps : p.size ≤ 1048576) :
    Calls Try.prog 16 #[tval p sp, tval t st] w fun e W => e = .returned (.bool (rvariantB p t)) ∧ Below w.heap.size w W := by
  obtain ⟨pa, pc, rfl, _, _⟩ := hp.slice
  obtain ⟨ta, tc, rfl, _, _⟩ := ht.slice
  have hb2 := below_box2 w (tbox p (.slice pa p.args.length pc)) (tbox t (.slice ta t.args.length tc))
  obtain ⟨⟨p0, p1, p2⟩, ⟨t0, t1, t2⟩⟩ := tbox2_cells w p (.slice pa p.args.length pc) t (.slice ta t.args.length tc)
  have HB : Hid (Below w.heap.size w (tbox2 w p (.slice pa p.args.length pc) t (.slice ta t.args.length tc))) := hb2
  have HRp : Hid (∀ W, Below w.heap.size w W → Calls Try.prog 23 #[tval p (.slice pa p.args.length pc)] W fun e W' => e = .returned (.int .i64 p.rightW) ∧ Below W.heap.size W W') := fun W h => rright_at p _ w W h hp
  have HRt : Hid (∀ W, Below w.heap.size w W → Calls Try.prog 23 #[tval t (.slice ta t.args.length tc)] W fun e W' => e = .returned (.int .i64 t.rightW) ∧ Below W.heap.size W W') := fun W h => rright_at t _ w W h ht
  have hrp := HRp.out _ hb2
  by_cases h1 : p.rightW = 0
  · have h1' : (p.rightW != 0) = false := by rw [bne_eq_false_iff_eq]; exact h1
    by_cases h2 : t.rightW = 0
    · have h2' : (t.rightW != 0) = false := by rw [bne_eq_false_iff_eq]; exact h2
      have hnn : p.nn ≤ 4000 := (right_zero h1 hps).2
      have hlen := dmt_len p t []
      have HMA : Hid (∀ W, Below w.heap.size w W → Calls Try.prog 41 #[.slice none 0 0, tval p (.slice pa p.args.length pc), tval t (.slice ta t.args.length tc)] W fun e W' => Below W.heap.size W W' ∧ ∃ v', e = .returned (.tuple #[v', .bool (dmt p t []).isSome]) ∧ ∀ s', dmt p t [] = some s' → BindsAt W' v' s') := fun W h => rmatch_any p t _ _ (.slice none 0 0) [] W (binds_nil W) (ArgsAt.keep h (Nat.le_refl _) hp) (ArgsAt.keep h (Nat.le_refl _) ht) (by simp; omega)
      rcases hres : dmt p t [] with _ | s
      · have hn' : (dmt p t []).isSome = false := by rw [hres]; rfl
        rw [hn'] at HMA
        have HV : Hid (rvariantB p t = false) := by show rvariantB p t = false; unfold rvariantB; rw [hres]; simp
        clear h1 h2 hp ht hps hb2 hres hlen hnn
        go_enter Try.func16, Try.ntmps16
        go_wp2_with (first
          | (go_at_call 41; refine hma.mono ?_; rintro e W3 ⟨hb3, v', rfl, _⟩)
          | (go_at_call 23; refine hrt.mono ?_; rintro e W2 ⟨rfl, hb2'⟩; have c0 := kc hb2' (by have := HB1.out.2; simp at this; omega) a0; have c1 := kc hb2' (by have := HB1.out.2; simp at this; omega) a1; have c2 := kc hb2' (by have := HB1.out.2; simp at this; omega) a2; have d0 := kc hb2' (by have := HB1.out.2; simp at this; omega) b0; have d1 := kc hb2' (by have := HB1.out.2; simp at this; omega) b1; have d2 := kc hb2' (by have := HB1.out.2; simp at this; omega) b2; have HB2 : Hid (Below w.heap.size w W2) := HB1.out.1.trans (hb2'.mono HB1.out.1.size); have hma := HMA.out W2 HB2.out; clear hb2' hrt)
          | (go_at_call 23; refine hrp.mono ?_; rintro e W1 ⟨rfl, hb1⟩; have a0 := kc hb1 (by simp; omega) p0; have a1 := kc hb1 (by simp; omega) p1; have a2 := kc hb1 (by simp; omega) p2; have b0 := kc hb1 (by simp) t0; have b1 := kc hb1 (by simp) t1; have b2 := kc hb1 (by simp) t2; have HB1 : Hid (Below w.heap.size w W1 ∧ (tbox2 w p (.slice pa p.args.length pc) t (.slice ta t.args.length tc)).heap.size ≤ W1.heap.size) := ⟨HB.out.trans (hb1.mono (by simp; omega)), hb1.size⟩; have hrt := HRt.out W1 HB1.out.1; clear hb1 hrp))
        go_ret
        exact ⟨ret_bool HV.out.symm, HB2.out.trans (hb3.mono HB2.out.size)⟩
      · have hn' : (dmt p t []).isSome = true := by rw [hres]; rfl
        rw [hn'] at HMA
        have hsl : s.length ≤ 4000 := by have := hlen s hres; simp at this; omega
        have HM : Hid (dmt p t [] = some s ∧ p.rightW = 0 ∧ t.rightW = 0) := ⟨hres, h1, h2⟩
        clear h1 h2 hp ht hps hb2 hres hlen hnn
        go_enter Try.func16, Try.ntmps16
        go_wp2_with (first
          | (go_at_call 41; refine hma.mono ?_; rintro e W3 ⟨hb3, v', rfl, hk⟩; have HBS := hk s HM.out.1; obtain ⟨va, vc, rfl⟩ := HBS.slice; have HS : Hid (BindsAt W3 (.slice va s.length vc) s ∧ Below w.heap.size w W3) := ⟨HBS, HB2.out.trans (hb3.mono HB2.out.size)⟩; clear hk hma hb3 HBS)
          | (go_at_call 23; refine hrt.mono ?_; rintro e W2 ⟨rfl, hb2'⟩; have c0 := kc hb2' (by have := HB1.out.2; simp at this; omega) a0; have c1 := kc hb2' (by have := HB1.out.2; simp at this; omega) a1; have c2 := kc hb2' (by have := HB1.out.2; simp at this; omega) a2; have d0 := kc hb2' (by have := HB1.out.2; simp at this; omega) b0; have d1 := kc hb2' (by have := HB1.out.2; simp at this; omega) b1; have d2 := kc hb2' (by have := HB1.out.2; simp at this; omega) b2; have HB2 : Hid (Below w.heap.size w W2) := HB1.out.1.trans (hb2'.mono HB1.out.1.size); have hma := HMA.out W2 HB2.out; clear hb2' hrt)
          | (go_at_call 23; refine hrp.mono ?_; rintro e W1 ⟨rfl, hb1⟩; have a0 := kc hb1 (by simp; omega) p0; have a1 := kc hb1 (by simp; omega) p1; have a2 := kc hb1 (by simp; omega) p2; have b0 := kc hb1 (by simp) t0; have b1 := kc hb1 (by simp) t1; have b2 := kc hb1 (by simp) t2; have HB1 : Hid (Below w.heap.size w W1 ∧ (tbox2 w p (.slice pa p.args.length pc) t (.slice ta t.args.length tc)).heap.size ≤ W1.heap.size) := ⟨HB.out.trans (hb1.mono (by simp; omega)), hb1.size⟩; have hrt := HRt.out W1 HB1.out.1; clear hb1 hrp))
        go_loopw [7] (fun vi wr => ∃ i : Nat, vi = .int .i64 i ∧ i ≤ s.length ∧ Hid ((∀ j, j < i → Good s j) ∧ Below W3.heap.size W3 wr)) (fun vi _ => s.length - (intOf vi).toNat)
        case atStart => exact ⟨0, rfl, Nat.zero_le _, fun j hj => absurd hj (by omega), Below.refl _ _⟩
        case round =>
          obtain ⟨i, rfl, hi, HI⟩ := hrel
          by_cases hlt : i < s.length
          · obtain ⟨b, o, sx, e1, hB0⟩ := HS.out.1.nth hlt
            cases e1
            have hB := hB0.keep HI.out.2
            obtain ⟨x, hx⟩ : ∃ x, s[i] = x := ⟨_, rfl⟩
            rw [hx] at hB hB0
            have g2 := hB.c2
            have j0 : (i : Int) < (s.length : Int) := by omega
            have j1 : (0 : Int) ≤ (i : Int) := Int.natCast_nonneg i
            have HB0 : Hid (BindAt W3 b (o + i * 4) x sx ∧ s[i] = x) := ⟨hB0, hx⟩
            clear hB hB0
            by_cases h0 : x.2.fn.size = 0
            · have hd : x.2.fn.toList.isEmpty = true := by rw [ba_isEmpty]; exact decide_eq_true h0
              have HX0 : Hid (x.2.fn.size = 0) := h0
              clear h0 hx
              go_wp2
              go_loopw [8] (fun vk wr2 => ∃ k : Nat, vk = .int .i64 k ∧ k ≤ i ∧ Hid ((∀ j (hj : j < k) (hjl : j < s.length), s[j].2.v ≠ x.2.v) ∧ Below W3.heap.size W3 wr2)) (fun vk _ => i - (intOf vk).toNat)
              case atStart => exact ⟨0, rfl, Nat.zero_le _, fun j hj => absurd hj (by omega), HI.out.2⟩
              case round =>
                obtain ⟨k, rfl, hk, HK⟩ := hrel
                by_cases hkl : k < i
                · have hks : k < s.length := by omega
                  obtain ⟨b', o', sy, e2, hC0⟩ := HS.out.1.nth hks
                  cases e2
                  have hC := hC0.keep HK.out.2
                  have hB := HB0.out.1.keep HK.out.2
                  obtain ⟨y, hy⟩ : ∃ y, s[k] = y := ⟨_, rfl⟩
                  rw [hy] at hC
                  have m1 := hC.c1
                  have m2 := hB.c1
                  have f0 := fun q => cell_far hC.lt m1 q
                  have f1 := fun q => cell_far hB.lt m2 q
                  have q0 : (k : Int) < (s.length : Int) := by omega
                  have q1 : (0 : Int) ≤ (k : Int) := Int.natCast_nonneg k
                  have q2 : (k : Int) < (i : Int) := by omega
                  by_cases he : y.2.v = x.2.v
                  · have he' : (y.2.v == x.2.v) = true := by rw [beq_iff_eq]; exact he
                    have HV : Hid (rvariantB p t = false) := rvb_no HM.out.1 (fun h => (h i hlt).2 k hkl (by rw [hy, HB0.out.2]; exact he))
                    have HZ : Hid (Below w.heap.size w wr) := HS.out.2.trans (HK.out.2.mono HS.out.2.size)
                    clear he hy hC hC0 hB
                    go_wp2
                    go_quiet (fail)
                    go_wp2
                    go_ret
                    exact ⟨ret_bool HV.out.symm, below_drewN HZ.out _⟩
                  · have he' : (y.2.v == x.2.v) = false := by rw [beq_eq_false_iff_ne]; exact he
                    have HE : Hid ((∀ j (hj : j < k + 1) (hjl : j < s.length), s[j].2.v ≠ x.2.v) ∧ Below W3.heap.size W3 wr) := ⟨fun j hj hjl => by
                      by_cases e : j = k
                      · subst e; rw [hy]; exact he
                      · exact HK.out.1 j (by omega) hjl, HK.out.2⟩
                    clear he hy hC hC0 hB
                    go_wp2
                    go_quiet (fail)
                    go_wp2
                    go_roundw
                    case rel => exact ⟨k + 1, by go_num, by omega, HE.out.1, below_drewN HE.out.2 _⟩
                    case measure => simp [intOf]; omega
                · have HE : Hid ((∀ j, j < i + 1 → Good s j) ∧ Below W3.heap.size W3 wr) := ⟨fun j hj => by
                    by_cases e : j = i
                    · subst e
                      intro hjl
                      rw [HB0.out.2]
                      exact ⟨HX0.out, fun k' hk' => HK.out.1 k' (by omega) (by omega)⟩
                    · exact HI.out.1 j (by omega), HK.out.2⟩
                  go_wp2
                  go_roundw
                  case rel => exact ⟨i + 1, by go_num, by omega, HE.out⟩
                  case measure => simp [intOf]; omega
            · have hd : x.2.fn.toList.isEmpty = false := by rw [ba_isEmpty]; exact decide_eq_false h0
              have HV : Hid (rvariantB p t = false) := rvb_no HM.out.1 (fun h => h0 (by have := (h i hlt).1; rw [hx] at this; exact this))
              have HZ : Hid (Below w.heap.size w wr) := HS.out.2.trans (HI.out.2.mono HS.out.2.size)
              clear h0 hx
              go_wp2
              go_ret
              exact ⟨ret_bool HV.out.symm, HZ.out⟩
          · have HV : Hid (rvariantB p t = true) := rvb_yes HM.out.2.1 HM.out.2.2 HM.out.1 (rvar_good.2 fun j hj => HI.out.1 j (by omega))
            have HZ : Hid (Below w.heap.size w wr) := HS.out.2.trans (HI.out.2.mono HS.out.2.size)
            go_wp2
            go_ret
            exact ⟨ret_bool HV.out.symm, HZ.out⟩
    · have HV : Hid (rvariantB p t = false) := by show rvariantB p t = false; unfold rvariantB; simp [h2]
      have h2' : (t.rightW != 0) = true := by rw [bne_iff_ne]; exact h2
      clear h1 h2 hp ht hps hb2
      go_enter Try.func16, Try.ntmps16
      go_wp2_with (first
        | (go_at_call 23; refine hrt.mono ?_; rintro e W2 ⟨rfl, hb2'⟩)
        | (go_at_call 23; refine hrp.mono ?_; rintro e W1 ⟨rfl, hb1⟩; have a0 := kc hb1 (by simp; omega) p0; have a1 := kc hb1 (by simp; omega) p1; have a2 := kc hb1 (by simp; omega) p2; have b0 := kc hb1 (by simp) t0; have b1 := kc hb1 (by simp) t1; have b2 := kc hb1 (by simp) t2; have HB1 : Hid (Below w.heap.size w W1 ∧ (tbox2 w p (.slice pa p.args.length pc) t (.slice ta t.args.length tc)).heap.size ≤ W1.heap.size) := ⟨HB.out.trans (hb1.mono (by simp; omega)), hb1.size⟩; have hrt := HRt.out W1 HB1.out.1; clear hb1 hrp))
      go_ret
      exact ⟨ret_bool HV.out.symm, HB1.out.1.trans (hb2'.mono HB1.out.1.size)⟩
  · have HV : Hid (rvariantB p t = false) := by show rvariantB p t = false; unfold rvariantB; simp [h1]
    have h1' : (p.rightW != 0) = true := by rw [bne_iff_ne]; exact h1
    clear h1 hb2 hp ht hps
    go_enter Try.func16, Try.ntmps16
    go_wp2_with (go_at_call 23; refine hrp.mono ?_; rintro e W1 ⟨rfl, hb1⟩)
    go_ret
    exact ⟨ret_bool HV.out.symm, HB.out.trans (hb1.mono (by simp; omega))⟩

end Go.Proofs.Ytblfbmdnkgebdaa
