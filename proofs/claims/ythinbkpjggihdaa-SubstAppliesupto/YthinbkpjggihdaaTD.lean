/-
  SubstApplies' walk.
-/
import Derived.Test.YthinbkpjggihdaaTB
import Derived.Test.YthinbkpjggihdaaTC
import Derived.Test.YthinbkpjggihdaaST
namespace Go.Proofs.Ythinbkpjggihdaa
open Go.RowKit

set_option maxRecDepth 100000 in
set_option maxHeartbeats 8000000 in
theorem substApplies_any (l : List Bd) (t : T) (hlz : ∀ x ∈ l, x.2.size ≤ 1048576) (htz : t.size ≤ 1048576) (v sl : Value) (w : World) (hb : BindsAt w v l) (ha : ArgsAt w sl t.args) :
    Calls Try.prog 3 #[v, tval t sl] w fun e w' => e = .returned (.bool true) ∧ Below w.heap.size w w' := by
  have hb1 := below_box w (tbox t sl)
  have h9 := light_any l t v sl _ (hb.keep hb1) (ArgsAt.keep hb1 (Nat.le_refl _) ha)
  obtain ⟨r, f, h11, h12⟩ := both_apply l t hlz htz v sl w hb ha
  have h13 : ∀ V X, Below w.heap.size w V → Below V.heap.size V X → Calls Try.prog 13 #[v] X fun e X' => e = .returned (.int .i64 (subW l)) ∧ Below V.heap.size V X' := fun V X hV hX => (sright_any l v X (hb.keep (hV.trans (hX.mono hV.size))) (fun x hx => (short_of _ (hlz x hx)).1)).mono fun e X' ⟨he, h⟩ => ⟨he, hX.trans (h.mono hX.size)⟩
  have h14 : ∀ V X, Below w.heap.size w V → Below V.heap.size V X → Calls Try.prog 14 #[v] X fun e X' => e = .returned (.bool (isSub l)) ∧ Below V.heap.size V X' := fun V X hV hX => (ris_any l v X (hb.keep (hV.trans (hX.mono hV.size)))).mono fun e X' ⟨he, h⟩ => ⟨he, hX.trans (h.mono hX.size)⟩
  obtain ⟨a, c, rfl⟩ := hb.slice
  obtain ⟨sa, sc, rfl, _, _⟩ := ha.slice
  obtain ⟨t0, t1, t2⟩ := tbox_cells w t (.slice sa t.args.length sc)
  have HB1 : Hid (Below w.heap.size w (w.alloc (tbox t (.slice sa t.args.length sc)))) := hb1
  have h15 : ∀ X s5 s6, ArgsAt X s5 r.args → ArgsAt X s6 r.args → Calls Try.prog 15 #[tval r s5, tval r s6] X fun e X' => e = .returned (.bool true) ∧ Below X.heap.size X X' := fun X s5 s6 h5 h6 => (rsame_any r r s5 s6 X h5 h6).mono fun e X' ⟨he, h⟩ => ⟨by rw [he, same_iff.2 rfl], h⟩
  have H15 : Hid (∀ X s5 s6, ArgsAt X s5 r.args → ArgsAt X s6 r.args → Calls Try.prog 15 #[tval r s5, tval r s6] X fun e X' => e = .returned (.bool true) ∧ Below X.heap.size X X') := h15
  have H11 : Hid _ := h11
  have H12 : Hid _ := h12
  have H13 : Hid _ := h13
  have H14 : Hid _ := h14
  clear hb ha hlz htz hb1 h11 h12 h13 h14 h15
  cases e1 : isSub l
  · have H13' : Hid (∀ V X, Below w.heap.size w V → Below V.heap.size V X → Calls Try.prog 13 #[.slice a l.length c] X fun e X' => e = .returned (.int .i64 1) ∧ Below V.heap.size V X') := fun V X hV hX => by have := H13.out V X hV hX; rwa [subW_f e1] at this
    have H14' : Hid (∀ V X, Below w.heap.size w V → Below V.heap.size V X → Calls Try.prog 14 #[.slice a l.length c] X fun e X' => e = .returned (.bool false) ∧ Below V.heap.size V X') := fun V X hV hX => by have := H14.out V X hV hX; rwa [e1] at this
    clear e1 H13 H14
    go_enter Try.func3, Try.ntmps3
    go_wp2_with (go_at_call 9; refine h9.mono ?_; rintro e W2 ⟨q, rfl, HB2⟩; have k0 := kc HB2 (by simp) t0; have k1 := kc HB2 (by simp) t1; have k2 := kc HB2 (by simp) t2; have HW2 : Hid (Below w.heap.size w W2) := HB1.out.trans (HB2.mono (by simp)); have HLt : Hid (w.heap.size < W2.heap.size) := (by have := HB2.size; simp at this; exact this); clear HB2 h9; cases q)
    · clear H11 H12 H13' H14' H15
      go_wp2_with (go_at_call 10; refine (alive_any W2).mono ?_; rintro e W3 ⟨rfl, hb3⟩)
      go_ret
      exact ⟨rfl, HW2.out.trans (hb3.mono HW2.out.size)⟩
    · clear t0 t1 t2
      go_wp2_with (first
        | (go_at_call 11; refine (H11.out W2 HW2.out).mono ?_; rintro e W3 ⟨s5, rfl, hA3, hb3⟩; obtain ⟨pa, pc, rfl, _, _⟩ := hA3.slice; have HA3 : Hid (ArgsAt W3 (.slice pa r.args.length pc) r.args) := hA3; have hbx : Below W2.heap.size W2 (W3.alloc (tbox r (.slice pa r.args.length pc))) := hb3.trans ((below_box W3 _).mono hb3.size); have m0 := kc hbx HLt.out k0; have m1 := kc hbx HLt.out k1; have m2 := kc hbx HLt.out k2; obtain ⟨x0, x1, x2⟩ := tbox_cells W3 r (.slice pa r.args.length pc); have HV3 : Hid (Below w.heap.size w (W3.alloc (tbox r (.slice pa r.args.length pc)))) := HW2.out.trans (hbx.mono HW2.out.size); clear hA3 hb3 hbx k0 k1 k2)
        | (go_at_call 12; refine (H12.out _ HV3.out).mono ?_; rintro e W4 ⟨s6, rfl, hA4, hb4⟩; obtain ⟨qa, qc, rfl, _, _⟩ := hA4.slice; have hby : Below (W3.alloc (tbox r (.slice pa r.args.length pc))).heap.size (W3.alloc (tbox r (.slice pa r.args.length pc))) (W4.alloc (tbox r (.slice qa r.args.length qc))) := hb4.trans ((below_box W4 _).mono hb4.size); have x0' := kc hby (by simp) x0; have x1' := kc hby (by simp) x1; have x2' := kc hby (by simp) x2; obtain ⟨y0, y1, y2⟩ := tbox_cells W4 r (.slice qa r.args.length qc); have HV : Hid (Below w.heap.size w (W4.alloc (tbox r (.slice qa r.args.length qc)))) := HV3.out.trans (hby.mono HV3.out.size); have HL3 : Hid (W3.heap.size < (W4.alloc (tbox r (.slice qa r.args.length qc))).heap.size) := (by have := hby.size; rw [World.size_alloc] at this; exact this); have HAs : Hid (ArgsAt (W4.alloc (tbox r (.slice qa r.args.length qc))) (.slice pa r.args.length pc) r.args ∧ ArgsAt (W4.alloc (tbox r (.slice qa r.args.length qc))) (.slice qa r.args.length qc) r.args) := ⟨ArgsAt.keep ((below_box W3 _).trans (hby.mono (by simp))) (Nat.le_refl _) HA3.out, ArgsAt.keep (below_box W4 _) (Nat.le_refl _) hA4⟩; clear hA4 hb4 hby m0 m1 m2 x0 x1 x2)
        | (go_at_call 13; refine (H13'.out _ _ HV.out hb7).mono ?_; rintro e WF ⟨rfl, hbF⟩; have c0 := kc hbF HL3.out x0'; have c1 := kc hbF HL3.out x1'; have c2 := kc hbF HL3.out x2'; have d0 := kc hbF (by simp) y0; have d1 := kc hbF (by simp) y1; have d2 := kc hbF (by simp) y2; have HBF : Hid (Below (W4.alloc (tbox r (.slice qa r.args.length qc))).heap.size (W4.alloc (tbox r (.slice qa r.args.length qc))) WF) := hbF)
        | (go_at_call 13; refine (H13'.out _ _ HV.out (Below.refl _ _)).mono ?_; rintro e W5 ⟨rfl, hb5⟩)
        | (go_at_call 14; refine (H14'.out _ _ HV.out hb6).mono ?_; rintro e W7 ⟨rfl, hb7⟩)
        | (go_at_call 14; refine (H14'.out _ _ HV.out hb5).mono ?_; rintro e W6 ⟨rfl, hb6⟩)
        | (go_at_call 15; refine (H15.out WF _ _ (ArgsAt.keep HBF.out (Nat.le_refl _) HAs.out.1) (ArgsAt.keep HBF.out (Nat.le_refl _) HAs.out.2)).mono ?_; rintro e W8 ⟨rfl, hb8⟩)
        | (go_at_call 10; refine (alive_any W8).mono ?_; rintro e W9 ⟨rfl, hb9⟩))
      go_ret
      have hF : Below w.heap.size w WF := HV.out.trans (HBF.out.mono HV.out.size)
      exact ⟨rfl, hF.trans ((hb8.mono hF.size).trans (hb9.mono (Nat.le_trans hF.size hb8.size)))⟩
  · have H13' : Hid (∀ V X, Below w.heap.size w V → Below V.heap.size V X → Calls Try.prog 13 #[.slice a l.length c] X fun e X' => e = .returned (.int .i64 0) ∧ Below V.heap.size V X') := fun V X hV hX => by have := H13.out V X hV hX; rwa [subW_t e1] at this
    have H14' : Hid (∀ V X, Below w.heap.size w V → Below V.heap.size V X → Calls Try.prog 14 #[.slice a l.length c] X fun e X' => e = .returned (.bool true) ∧ Below V.heap.size V X') := fun V X hV hX => by have := H14.out V X hV hX; rwa [e1] at this
    clear e1 H13 H14
    go_enter Try.func3, Try.ntmps3
    go_wp2_with (go_at_call 9; refine h9.mono ?_; rintro e W2 ⟨q, rfl, HB2⟩; have k0 := kc HB2 (by simp) t0; have k1 := kc HB2 (by simp) t1; have k2 := kc HB2 (by simp) t2; have HW2 : Hid (Below w.heap.size w W2) := HB1.out.trans (HB2.mono (by simp)); have HLt : Hid (w.heap.size < W2.heap.size) := (by have := HB2.size; simp at this; exact this); clear HB2 h9; cases q)
    · clear H11 H12 H13' H14' H15
      go_wp2_with (go_at_call 10; refine (alive_any W2).mono ?_; rintro e W3 ⟨rfl, hb3⟩)
      go_ret
      exact ⟨rfl, HW2.out.trans (hb3.mono HW2.out.size)⟩
    · clear t0 t1 t2
      go_wp2_with (first
        | (go_at_call 11; refine (H11.out W2 HW2.out).mono ?_; rintro e W3 ⟨s5, rfl, hA3, hb3⟩; obtain ⟨pa, pc, rfl, _, _⟩ := hA3.slice; have HA3 : Hid (ArgsAt W3 (.slice pa r.args.length pc) r.args) := hA3; have hbx : Below W2.heap.size W2 (W3.alloc (tbox r (.slice pa r.args.length pc))) := hb3.trans ((below_box W3 _).mono hb3.size); have m0 := kc hbx HLt.out k0; have m1 := kc hbx HLt.out k1; have m2 := kc hbx HLt.out k2; obtain ⟨x0, x1, x2⟩ := tbox_cells W3 r (.slice pa r.args.length pc); have HV3 : Hid (Below w.heap.size w (W3.alloc (tbox r (.slice pa r.args.length pc)))) := HW2.out.trans (hbx.mono HW2.out.size); clear hA3 hb3 hbx k0 k1 k2)
        | (go_at_call 12; refine (H12.out _ HV3.out).mono ?_; rintro e W4 ⟨s6, rfl, hA4, hb4⟩; obtain ⟨qa, qc, rfl, _, _⟩ := hA4.slice; have hby : Below (W3.alloc (tbox r (.slice pa r.args.length pc))).heap.size (W3.alloc (tbox r (.slice pa r.args.length pc))) (W4.alloc (tbox r (.slice qa r.args.length qc))) := hb4.trans ((below_box W4 _).mono hb4.size); have x0' := kc hby (by simp) x0; have x1' := kc hby (by simp) x1; have x2' := kc hby (by simp) x2; obtain ⟨y0, y1, y2⟩ := tbox_cells W4 r (.slice qa r.args.length qc); have HV : Hid (Below w.heap.size w (W4.alloc (tbox r (.slice qa r.args.length qc)))) := HV3.out.trans (hby.mono HV3.out.size); have HL3 : Hid (W3.heap.size < (W4.alloc (tbox r (.slice qa r.args.length qc))).heap.size) := (by have := hby.size; rw [World.size_alloc] at this; exact this); have HAs : Hid (ArgsAt (W4.alloc (tbox r (.slice qa r.args.length qc))) (.slice pa r.args.length pc) r.args ∧ ArgsAt (W4.alloc (tbox r (.slice qa r.args.length qc))) (.slice qa r.args.length qc) r.args) := ⟨ArgsAt.keep ((below_box W3 _).trans (hby.mono (by simp))) (Nat.le_refl _) HA3.out, ArgsAt.keep (below_box W4 _) (Nat.le_refl _) hA4⟩; clear hA4 hb4 hby m0 m1 m2 x0 x1 x2)
        | (go_at_call 13; refine (H13'.out _ _ HV.out (Below.refl _ _)).mono ?_; rintro e W5 ⟨rfl, hb5⟩)
        | (go_at_call 14; refine (H14'.out _ _ HV.out hb6).mono ?_; rintro e WF ⟨rfl, hbF⟩; have c0 := kc hbF HL3.out x0'; have c1 := kc hbF HL3.out x1'; have c2 := kc hbF HL3.out x2'; have d0 := kc hbF (by simp) y0; have d1 := kc hbF (by simp) y1; have d2 := kc hbF (by simp) y2; have HBF : Hid (Below (W4.alloc (tbox r (.slice qa r.args.length qc))).heap.size (W4.alloc (tbox r (.slice qa r.args.length qc))) WF) := hbF)
        | (go_at_call 14; refine (H14'.out _ _ HV.out hb5).mono ?_; rintro e W6 ⟨rfl, hb6⟩)
        | (go_at_call 15; refine (H15.out WF _ _ (ArgsAt.keep HBF.out (Nat.le_refl _) HAs.out.1) (ArgsAt.keep HBF.out (Nat.le_refl _) HAs.out.2)).mono ?_; rintro e W8 ⟨rfl, hb8⟩)
        | (go_at_call 10; refine (alive_any W8).mono ?_; rintro e W9 ⟨rfl, hb9⟩))
      go_ret
      have hF : Below w.heap.size w WF := HV.out.trans (HBF.out.mono HV.out.size)
      exact ⟨rfl, hF.trans ((hb8.mono hF.size).trans (hb9.mono (Nat.le_trans hF.size hb8.size)))⟩

end Go.Proofs.Ythinbkpjggihdaa
