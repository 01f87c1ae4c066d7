import Derived.Test.YtglphfhlpobgcaaGreatKE
namespace Go.Proofs.YtglphfhlpobgcaaGreat
open Go.RowKit Go.Maps
theorem nodup_of_pl {l : List ByteArray} (h : ∀ i (hi : i < l.length), plL l l[i] = i) : l.Nodup := by
  unfold List.Nodup
  rw [List.pairwise_iff_getElem]
  intro i j hi hj hij e
  have h1 := h i hi
  have h2 := h j hj
  rw [e] at h1
  omega
theorem pl_of_nodup {l : List ByteArray} (h : l.Nodup) (i : Nat) (hi : i < l.length) : plL l l[i] = i := by
  refine plL_at hi (fun j hj hji => ?_) rfl
  unfold List.Nodup at h
  rw [List.pairwise_iff_getElem] at h
  exact h j i hj hi hji
def Names (l : List ByteArray) (k : Nat) : Prop := ∀ i (hi : i < l.length), i < k → badN l[i] = false ∧ plL l l[i] = i
theorem badN_mk {x : ByteArray} (h1 : x.size ≠ 0) (h2 : x.size ≤ 64) (h3 : x ≠ tru) : badN x = false := by
  unfold badN
  simp only [Bool.or_eq_false_iff, decide_eq_false_iff_not]
  exact ⟨⟨h1, by omega⟩, h3⟩
set_option maxRecDepth 100000 in
set_option maxHeartbeats 2000000 in
theorem rgright_any (g : Sg) (vn vw : Value) (w : World) (hg : SgAt w g vn vw) :
    Calls Tryz.prog 22 #[gval vn vw] w fun e w' => e = .returned (.bool g.ok) ∧ Below w.heap.size w w' := by
  obtain ⟨an, cn, rfl, hn1, hn2⟩ := hg.ns.slice
  obtain ⟨aw, cw, rfl, hw1, hw2⟩ := hg.ws.slice
  obtain ⟨t0, t1⟩ := box2_cells w (.slice an g.ns.length cn) (.slice aw g.ws.length cw) 25
  have hb := below_box w (.cells #[.slice an g.ns.length cn, .slice aw g.ws.length cw] 25)
  have HB : Hid (Below w.heap.size w (w.alloc (.cells #[.slice an g.ns.length cn, .slice aw g.ws.length cw] 25)) ∧ SgAt (w.alloc (.cells #[.slice an g.ns.length cn, .slice aw g.ws.length cw] 25)) g (.slice an g.ns.length cn) (.slice aw g.ws.length cw)) := ⟨hb, hg.keep hb (Nat.le_refl _)⟩
  clear hg hb
  by_cases h1 : 200 < g.ns.length
  · have HP : Hid (g.ok = false) := ok_no.2 fun h => by have := h.1; omega
    have e1 : decide ((200 : Int) < (g.ns.length : Int)) = true := decide_eq_true (by omega)
    go_enter Tryz.func22, Tryz.ntmps22
    go_wp2
    go_ret
    exact ⟨ret_bool HP.out.symm, HB.out.1⟩
  have e1 : decide ((200 : Int) < (g.ns.length : Int)) = false := decide_eq_false (by omega)
  by_cases h2 : g.ns.length < g.ws.length
  · have HP : Hid (g.ok = false) := ok_no.2 fun h => by have := h.2.1; omega
    have e2 : decide ((g.ns.length : Int) < (g.ws.length : Int)) = true := decide_eq_true (by omega)
    go_enter Tryz.func22, Tryz.ntmps22
    go_wp2
    go_ret
    exact ⟨ret_bool HP.out.symm, HB.out.1⟩
  have e2 : decide ((g.ns.length : Int) < (g.ws.length : Int)) = false := decide_eq_false (by omega)
  go_enter Tryz.func22, Tryz.ntmps22
  go_wp2
  go_loopw [3] (fun vi wr => ∃ i : Nat, vi = .int .i64 i ∧ i ≤ g.ns.length ∧ Hid (Names g.ns i) ∧ Hid (Below (w.heap.size + 1) (w.alloc (.cells #[.slice an g.ns.length cn, .slice aw g.ws.length cw] 25)) wr)) (fun vi _ => g.ns.length - (intOf vi).toNat)
  case atStart => exact ⟨0, rfl, Nat.zero_le _, fun j _ hj => absurd hj (by omega), Below.refl _ _⟩
  case round =>
    obtain ⟨i, rfl, hi, HN, HW⟩ := hrel
    have hsz : w.heap.size + 1 ≤ wr.heap.size := by have := HW.out.size; simpa using this
    have r0 := kc HW.out (by simp) t0
    have r1 := kc HW.out (by simp) t1
    have hG : SgAt wr g (.slice an g.ns.length cn) (.slice aw g.ws.length cw) := HB.out.2.keep HW.out (by simp)
    by_cases hlt : i < g.ns.length
    · obtain ⟨b, o, rfl, hbl, hcell⟩ := hG.ns.nth hlt
      have hcall : ∀ x W, Below wr.heap.size wr W → Calls Tryz.prog 47 #[.agg #[.slice (some ⟨b, o, none⟩) g.ns.length cn, .slice aw g.ws.length cw], .string x] W fun e w' => e = .returned (.int .i64 (plL g.ns x)) ∧ Below W.heap.size W w' := fun x W hW => rat_any g x _ _ W (hG.keep hW (Nat.le_refl _))
      have r0' := cell_far (by omega) r0
      have r1' := cell_far (by omega) r1
      have hcell' := cell_far hbl hcell
      have hi1 : (0 : Int) ≤ (i : Int) := by omega
      have hi2 : (i : Int) < (g.ns.length : Int) := by omega
      have HX : Hid (∀ W, Below wr.heap.size wr W → Below w.heap.size w W ∧ Below (w.heap.size + 1) (w.alloc (.cells #[.slice (some ⟨b, o, none⟩) g.ns.length cn, .slice aw g.ws.length cw] 25)) W) := fun W hW => ⟨HB.out.1.trans ((HW.out.trans (hW.mono hsz)).mono (Nat.le_succ _)), HW.out.trans (hW.mono hsz)⟩
      have HBad : Hid (badN g.ns[i] = true → g.ok = false) := fun h => ok_no.2 fun k => by rw [k.2.2.1 _ (List.getElem_mem hlt)] at h; cases h
      have HPl : Hid (plL g.ns g.ns[i] ≠ i → g.ok = false) := fun h => ok_no.2 fun k => h (pl_of_nodup k.2.2.2.2 i hlt)
      have HNx : Hid (badN g.ns[i] = false → plL g.ns g.ns[i] = i → Names g.ns (i + 1)) := fun h h' j hj hji => by
        by_cases ej : j = i
        · subst ej; exact ⟨h, h'⟩
        · exact HN.out j hj (by omega)
      obtain ⟨x, hx⟩ : ∃ x, g.ns[i] = x := ⟨_, rfl⟩
      rw [hx] at hcell hcell' HBad HPl HNx
      have H3 := eq_truB x
      clear hx hG HW HN
      by_cases h3 : x.size = 0
      · have HP : Hid (g.ok = false) := HBad.out (by simp [badN, h3])
        have e3 : decide ((x.size : Int) < 1) = true := decide_eq_true (by omega)
        clear H3 HBad HPl HNx
        go_wp2
        refine wp_region_far (by kernel_rfl) ?_
        repeat (first | go_big_quiet_step (exact calls_far (hcall _) _) | quiet_step (exact calls_far (hcall _) _))
        refine wpQuiet_nil ?_
        intro _ hw'
        obtain ⟨pf, rfl⟩ := hw'
        go_wp2
        go_ret
        exact ⟨ret_bool HP.out.symm, (HX.out _ (below_far _ pf)).1⟩
      have e3 : decide ((x.size : Int) < 1) = false := decide_eq_false (by omega)
      by_cases h4 : 64 < x.size
      · have HP : Hid (g.ok = false) := HBad.out (by simp [badN, h4])
        have e4 : decide ((64 : Int) < (x.size : Int)) = true := decide_eq_true (by omega)
        clear H3 HBad HPl HNx
        go_wp2
        refine wp_region_far (by kernel_rfl) ?_
        repeat (first | go_big_quiet_step (exact calls_far (hcall _) _) | quiet_step (exact calls_far (hcall _) _))
        refine wpQuiet_nil ?_
        intro _ hw'
        obtain ⟨pf, rfl⟩ := hw'
        go_wp2
        go_ret
        exact ⟨ret_bool HP.out.symm, (HX.out _ (below_far _ pf)).1⟩
      have e4 : decide ((64 : Int) < (x.size : Int)) = false := decide_eq_false (by omega)
      by_cases h5 : x = tru
      · have HP : Hid (g.ok = false) := HBad.out (by simp [badN, h5])
        rw [decide_eq_true h5] at H3
        clear HBad HPl HNx h5
        go_wp2
        refine wp_region_far (by kernel_rfl) ?_
        repeat (first | go_big_quiet_step (exact calls_far (hcall _) _) | quiet_step (exact calls_far (hcall _) _))
        refine wpQuiet_nil ?_
        intro _ hw'
        obtain ⟨pf, rfl⟩ := hw'
        go_wp2
        go_ret
        exact ⟨ret_bool HP.out.symm, (HX.out _ (below_far _ pf)).1⟩
      rw [decide_eq_false h5] at H3
      have HBF : Hid (badN x = false) := badN_mk h3 (by omega) h5
      by_cases h6 : plL g.ns x = i
      · have HN2 : Hid (Names g.ns (i + 1)) := HNx.out HBF.out h6
        have e6 : (plL g.ns x != (i : Int)) = false := by rw [h6]; simp
        clear HBad HPl HNx h5 h6
        go_wp2
        refine wp_region_far (by kernel_rfl) ?_
        repeat (first | go_big_quiet_step (exact calls_far (hcall _) _) | quiet_step (exact calls_far (hcall _) _))
        refine wpQuiet_nil ?_
        intro _ hw'
        obtain ⟨pf, rfl⟩ := hw'
        go_wp2
        go_roundw
        case rel => exact ⟨i + 1, by go_num, by omega, HN2, (HX.out _ (below_far _ pf)).2⟩
        case measure => simp [intOf]; omega
      · have HP : Hid (g.ok = false) := HPl.out h6
        have e6 : (plL g.ns x != (i : Int)) = true := by rw [bne_iff_ne]; exact h6
        clear HBad HPl HNx h5 h6
        go_wp2
        refine wp_region_far (by kernel_rfl) ?_
        repeat (first | go_big_quiet_step (exact calls_far (hcall _) _) | quiet_step (exact calls_far (hcall _) _))
        refine wpQuiet_nil ?_
        intro _ hw'
        obtain ⟨pf, rfl⟩ := hw'
        go_wp2
        go_ret
        exact ⟨ret_bool HP.out.symm, (HX.out _ (below_far _ pf)).1⟩
    · have HNall : Hid ((∀ x ∈ g.ns, badN x = false) ∧ g.ns.Nodup) := by
        refine ⟨fun x hx => ?_, nodup_of_pl fun j hj => (HN.out j hj (by omega)).2⟩
        obtain ⟨j, hj, rfl⟩ := List.getElem_of_mem hx
        exact (HN.out j hj (by omega)).1
      obtain ⟨W2, hW2⟩ : ∃ W, W = wr := ⟨_, rfl⟩
      subst hW2
      have HBW : Hid (Below w.heap.size w W2) := HB.out.1.trans (HW.out.mono (Nat.le_succ _))
      have HGW : Hid (SgAt W2 g (.slice an g.ns.length cn) (.slice aw g.ws.length cw)) := hG
      clear HN HW hG
      go_wp2
      go_loopw [4] (fun vi wr => ∃ i : Nat, vi = .int .i64 i ∧ i ≤ g.ws.length ∧ wr = W2 ∧ Hid (∀ j (hj : j < g.ws.length), j < i → badW g.ws[j] = false)) (fun vi _ => g.ws.length - (intOf vi).toNat)
      case atStart => exact ⟨0, rfl, Nat.zero_le _, rfl, fun j _ hj => absurd hj (by omega)⟩
      case round =>
        obtain ⟨k, rfl, hk, hwr, HK⟩ := hrel
        subst hwr
        by_cases hlk : k < g.ws.length
        · obtain ⟨b, o, rfl, hbl, hcell⟩ := HGW.out.ws.nth hlk
          have HBad : Hid (badW g.ws[k] = true → g.ok = false) := fun h => ok_no.2 fun k => by rw [k.2.2.2.1 _ (List.getElem_mem hlk)] at h; cases h
          have HNx : Hid (badW g.ws[k] = false → ∀ j (hj : j < g.ws.length), j < k + 1 → badW g.ws[j] = false) := fun h j hj hji => by
            by_cases ej : j = k
            · subst ej; exact h
            · exact HK.out j hj (by omega)
          obtain ⟨y, hy⟩ : ∃ y, g.ws[k] = y := ⟨_, rfl⟩
          rw [hy] at hcell HBad HNx
          clear hy
          by_cases h3 : y < 1
          · have HP : Hid (g.ok = false) := HBad.out (by simp [badW, h3])
            have e3 : decide (y < 1) = true := decide_eq_true h3
            go_wp2
            go_ret
            exact ⟨ret_bool HP.out.symm, HBW.out⟩
          have e3 : decide (y < 1) = false := decide_eq_false h3
          by_cases h4 : 1000 < y
          · have HP : Hid (g.ok = false) := HBad.out (by simp [badW, h4])
            have e4 : decide (1000 < y) = true := decide_eq_true h4
            go_wp2
            go_ret
            exact ⟨ret_bool HP.out.symm, HBW.out⟩
          have e4 : decide (1000 < y) = false := decide_eq_false h4
          have HN2 : Hid (∀ j (hj : j < g.ws.length), j < k + 1 → badW g.ws[j] = false) := HNx.out (by simp only [badW, e3, e4]; rfl)
          go_wp2
          go_roundw
          case rel => exact ⟨k + 1, by go_num, by omega, trivial, HN2⟩
          case measure => simp [intOf]; omega
        · have HP : Hid (g.ok = true) := ok_iff.2 ⟨by omega, by omega, HNall.out.1, fun y hy => by
            obtain ⟨j, hj, rfl⟩ := List.getElem_of_mem hy
            exact HK.out j hj (by omega), HNall.out.2⟩
          go_wp2
          go_ret
          exact ⟨ret_bool HP.out.symm, HBW.out⟩
end Go.Proofs.YtglphfhlpobgcaaGreat
