import Derived.Test.YtglphfhlpobgcaaGreatKA
namespace Go.Proofs.YtglphfhlpobgcaaGreat
open Go.RowKit
theorem tru_list : tru.toList = [36, 116, 114, 117, 101] := by rw [ByteArray.toList_eq]; rfl
theorem eq_tru {a : ByteArray} : a.toList = [36, 116, 114, 117, 101] ↔ a = tru := by rw [← tru_list]; exact ba_toList_inj
theorem eq_truB (a : ByteArray) : (a.toList == [36, 116, 114, 117, 101]) = decide (a = tru) := by
  by_cases h : a = tru
  · rw [decide_eq_true h, beq_iff_eq]; exact eq_tru.2 h
  · rw [decide_eq_false h, beq_eq_false_iff_ne]; exact fun e => h (eq_tru.1 e)
theorem bl_eq : ∀ l m : List UInt8, Op.bytesLess l m = decide (Lib.compareBytes l m = -1)
  | [], [] => by simp [Op.bytesLess, Lib.compareBytes]
  | [], _ :: _ => by simp [Op.bytesLess, Lib.compareBytes]
  | _ :: _, [] => by simp [Op.bytesLess, Lib.compareBytes]
  | a :: r, b :: s => by
    have ih := bl_eq r s
    unfold Op.bytesLess Lib.compareBytes
    rw [ih]
    by_cases h1 : a < b
    · simp [h1]
    · by_cases h2 : b < a
      · have hne : a ≠ b := fun e => by subst e; exact UInt8.lt_irrefl _ h2
        simp [h1, h2, hne]
      · have hab : a = b := by
          rw [UInt8.lt_iff_toNat_lt] at h1 h2
          exact UInt8.toNat_inj.1 (by omega)
        simp [hab]
theorem bl_cB (x y : ByteArray) : Op.bytesLess x.toList y.toList = decide (cB x y = -1) := by
  rw [ByteArray.toList_eq, ByteArray.toList_eq, bl_eq]
theorem gtr_cB (a b : ByteArray) : (!Op.bytesLess a.toList b.toList && !(a.toList == b.toList)) = decide (cB b a = -1) := by
  rw [bl_cB]
  have h1 := cB_ord.anti a b trivial
  have h2 := cB_ord.rng a b trivial
  have h3 := cB_ord.zero a b trivial
  by_cases e : a = b
  · subst e
    have := h3.2 rfl
    simp [this]
  · have e' : (a.toList == b.toList) = false := by rw [beq_eq_false_iff_ne]; exact fun h => e (ba_toList_inj.1 h)
    rw [e']
    have : cB a b ≠ 0 := fun h => e (h3.1 h)
    rcases h2 with h2 | h2 | h2
    · have : cB b a = 1 := by omega
      simp [h2, this]
    · exact absurd h2 this
    · have : cB b a = -1 := by omega
      simp [h2, this]
theorem above_left {g : Sg} {a b : ByteArray} (h : a = tru) : g.above a b = false := by unfold Sg.above; rw [if_pos (.inl h)]; simp [h]
theorem above_right {g : Sg} {a b : ByteArray} (h : a ≠ tru) (h' : b = tru) : g.above a b = true := by unfold Sg.above; rw [if_pos (.inr h')]; simp [h]
theorem above_pl {g : Sg} {a b : ByteArray} (h : a ≠ tru) (h' : b ≠ tru) (k : g.pl a ≠ g.pl b) : g.above a b = decide (g.pl b < g.pl a) := by
  unfold Sg.above
  rw [if_neg (fun e => e.elim h h'), if_neg k]
theorem above_bl {g : Sg} {a b : ByteArray} (h : a ≠ tru) (h' : b ≠ tru) (k : g.pl a = g.pl b) : g.above a b = (!Op.bytesLess a.toList b.toList && !(a.toList == b.toList)) := by
  unfold Sg.above
  rw [if_neg (fun e => e.elim h h'), if_pos k, gtr_cB]
set_option maxRecDepth 100000 in
set_option maxHeartbeats 1000000 in
theorem above_any (g : Sg) (a b : ByteArray) (vn vw : Value) (w : World) (hg : SgAt w g vn vw) :
    Calls Tryz.prog 122 #[gval vn vw, .string a, .string b] w fun e w' => e = .returned (.bool (g.above a b)) ∧ Below w.heap.size w w' := by
  obtain ⟨an, cn, rfl, _, _⟩ := hg.ns.slice
  obtain ⟨aw, cw, rfl, _, _⟩ := hg.ws.slice
  have hb := below_box w (.cells #[.slice an g.ns.length cn, .slice aw g.ws.length cw] 38)
  have HB : Hid (Below w.heap.size w (w.alloc (.cells #[.slice an g.ns.length cn, .slice aw g.ws.length cw] 38))) := hb
  by_cases h1 : a = tru
  · have HP : Hid (g.above a b = false) := above_left h1
    have e1 : (a.toList == [36, 116, 114, 117, 101]) = true := by rw [eq_truB]; exact decide_eq_true h1
    have e2 : (a.toList != [36, 116, 114, 117, 101]) = false := by rw [bne, e1]; rfl
    clear h1 hb hg
    go_enter Tryz.func122, Tryz.ntmps122
    go_wp2
    go_ret
    exact ⟨ret_bool HP.out.symm, HB.out⟩
  · have e1 : (a.toList == [36, 116, 114, 117, 101]) = false := by rw [eq_truB]; exact decide_eq_false h1
    have e2 : (a.toList != [36, 116, 114, 117, 101]) = true := by rw [bne, e1]; rfl
    by_cases h2 : b = tru
    · have HP : Hid (g.above a b = true) := above_right h1 h2
      have e3 : (b.toList == [36, 116, 114, 117, 101]) = true := by rw [eq_truB]; exact decide_eq_true h2
      clear h1 h2 hb hg
      go_enter Tryz.func122, Tryz.ntmps122
      go_wp2
      go_ret
      exact ⟨ret_bool HP.out.symm, HB.out⟩
    · have e3 : (b.toList == [36, 116, 114, 117, 101]) = false := by rw [eq_truB]; exact decide_eq_false h2
      obtain ⟨t0, _⟩ := box2_cells w (.slice an g.ns.length cn) (.slice aw g.ws.length cw) 38
      have t0' := cell_far (w := w.alloc (.cells #[.slice an g.ns.length cn, .slice aw g.ws.length cw] 38)) (by simp) t0
      have hn1 := hg.ns.keep hb (Nat.le_refl _)
      have hc : ∀ x, ∀ W, Below (w.alloc (.cells #[.slice an g.ns.length cn, .slice aw g.ws.length cw] 38)).heap.size (w.alloc (.cells #[.slice an g.ns.length cn, .slice aw g.ws.length cw] 38)) W → Calls Tryz.prog 148 #[.slice an g.ns.length cn, .string x] W fun e w' => e = .returned (.int .i64 (g.pl x)) ∧ Below W.heap.size W w' := fun x W hW => (index_any g.ns x _ W (hn1.keep hW (Nat.le_refl _))).mono fun e w' ⟨h1, h2⟩ => ⟨h1, h2 ▸ Below.refl _ _⟩
      have H1 : Hid (a ≠ tru ∧ b ≠ tru) := ⟨h1, h2⟩
      clear h1 h2 hb hn1 hg
      by_cases hp : g.pl a = g.pl b
      · have HP : Hid (g.above a b = (!Op.bytesLess a.toList b.toList && !(a.toList == b.toList))) := above_bl H1.out.1 H1.out.2 hp
        have hp' : (g.pl a != g.pl b) = false := by rw [hp]; simp
        clear hp
        go_enter Tryz.func122, Tryz.ntmps122
        go_wp2
        refine wp_region_far (by kernel_rfl) ?_
        repeat (first | go_big_quiet_step (exact calls_far (hc _) _) | quiet_step (exact calls_far (hc _) _))
        refine wpQuiet_nil ?_
        intro _ hw'
        obtain ⟨pf, rfl⟩ := hw'
        go_wp2
        go_ret
        exact ⟨ret_bool HP.out.symm, HB.out.trans ((below_far _ pf).mono HB.out.size)⟩
      · have HP : Hid (g.above a b = decide (g.pl b < g.pl a)) := above_pl H1.out.1 H1.out.2 hp
        have hp' : (g.pl a != g.pl b) = true := by rw [bne_iff_ne]; exact hp
        clear hp
        go_enter Tryz.func122, Tryz.ntmps122
        go_wp2
        refine wp_region_far (by kernel_rfl) ?_
        repeat (first | go_big_quiet_step (exact calls_far (hc _) _) | quiet_step (exact calls_far (hc _) _))
        refine wpQuiet_nil ?_
        intro _ hw'
        obtain ⟨pf, rfl⟩ := hw'
        go_wp2
        go_ret
        exact ⟨ret_bool HP.out.symm, HB.out.trans ((below_far _ pf).mono HB.out.size)⟩
theorem above_same {g : Sg} {a b : ByteArray} (h : a = b) : g.above a b = false := by rw [h]; exact above_irrefl g b
theorem pl_same {g : Sg} {a b : ByteArray} (h : g.pl a = g.pl b) (h0 : 0 ≤ g.pl a) : a = b := by
  have key : ∀ x, 0 ≤ g.pl x → ∃ i, ∃ h : i < g.ns.length, g.pl x = i ∧ g.ns[i] = x := by
    intro x hx
    rw [pl_eq] at *
    unfold plL at *
    cases hi : ixL g.ns x with
    | none => rw [hi] at hx; simp at hx
    | some i =>
      unfold ixL at hi
      obtain ⟨h1, h2, _⟩ := List.findIdx?_eq_some_iff_getElem.1 hi
      exact ⟨i, h1, rfl, by simpa using h2⟩
  obtain ⟨i, h1, h2, h3⟩ := key a h0
  obtain ⟨j, k1, k2, k3⟩ := key b (by omega)
  have : i = j := by omega
  subst this
  rw [← h3, ← k3]
set_option maxRecDepth 100000 in
set_option maxHeartbeats 1000000 in
theorem rabove_any (g : Sg) (a b : ByteArray) (vn vw : Value) (w : World) (hg : SgAt w g vn vw) :
    Calls Tryz.prog 136 #[gval vn vw, .string a, .string b] w fun e w' => e = .returned (.bool (g.above a b)) ∧ Below w.heap.size w w' := by
  obtain ⟨an, cn, rfl, _, _⟩ := hg.ns.slice
  obtain ⟨aw, cw, rfl, _, _⟩ := hg.ws.slice
  have hb := below_box w (.cells #[.slice an g.ns.length cn, .slice aw g.ws.length cw] 25)
  have HB : Hid (Below w.heap.size w (w.alloc (.cells #[.slice an g.ns.length cn, .slice aw g.ws.length cw] 25))) := hb
  by_cases h0 : a = b
  · have HP : Hid (g.above a b = false) := above_same h0
    have e0 : (a.toList == b.toList) = true := by rw [h0]; simp
    clear h0 hb hg
    go_enter Tryz.func136, Tryz.ntmps136
    go_wp2
    go_ret
    exact ⟨ret_bool HP.out.symm, HB.out⟩
  have e0 : (a.toList == b.toList) = false := by rw [beq_eq_false_iff_ne]; exact fun h => h0 (ba_toList_inj.1 h)
  by_cases h1 : a = tru
  · have HP : Hid (g.above a b = false) := above_left h1
    have e1 : (a.toList == [36, 116, 114, 117, 101]) = true := by rw [eq_truB]; exact decide_eq_true h1
    clear h0 h1 hb hg
    go_enter Tryz.func136, Tryz.ntmps136
    go_wp2
    go_ret
    exact ⟨ret_bool HP.out.symm, HB.out⟩
  have e1 : (a.toList == [36, 116, 114, 117, 101]) = false := by rw [eq_truB]; exact decide_eq_false h1
  by_cases h2 : b = tru
  · have HP : Hid (g.above a b = true) := above_right h1 h2
    have e3 : (b.toList == [36, 116, 114, 117, 101]) = true := by rw [eq_truB]; exact decide_eq_true h2
    clear h0 h1 h2 hb hg
    go_enter Tryz.func136, Tryz.ntmps136
    go_wp2
    go_ret
    exact ⟨ret_bool HP.out.symm, HB.out⟩
  have e3 : (b.toList == [36, 116, 114, 117, 101]) = false := by rw [eq_truB]; exact decide_eq_false h2
  obtain ⟨t0, t1⟩ := box2_cells w (.slice an g.ns.length cn) (.slice aw g.ws.length cw) 25
  have t0' := cell_far (w := w.alloc (.cells #[.slice an g.ns.length cn, .slice aw g.ws.length cw] 25)) (by simp) t0
  have t1' := cell_far (w := w.alloc (.cells #[.slice an g.ns.length cn, .slice aw g.ws.length cw] 25)) (by simp) t1
  have hn1 := hg.keep hb (Nat.le_refl _)
  have hc : ∀ x, ∀ W, Below (w.alloc (.cells #[.slice an g.ns.length cn, .slice aw g.ws.length cw] 25)).heap.size (w.alloc (.cells #[.slice an g.ns.length cn, .slice aw g.ws.length cw] 25)) W → Calls Tryz.prog 47 #[.agg #[.slice an g.ns.length cn, .slice aw g.ws.length cw], .string x] W fun e w' => e = .returned (.int .i64 (g.pl x)) ∧ Below W.heap.size W w' := fun x W hW => rat_any g x _ _ W (hn1.keep hW (Nat.le_refl _))
  have H1 : Hid (a ≠ tru ∧ b ≠ tru ∧ a ≠ b) := ⟨h1, h2, h0⟩
  have r1 := plL_rng g.ns a
  have r2 := plL_rng g.ns b
  rw [← pl_eq] at r1 r2
  clear h0 h1 h2 hb hn1 hg
  by_cases hp : g.pl a < 0 ∧ g.pl b < 0
  · have HP : Hid (g.above a b = (!Op.bytesLess a.toList b.toList && !(a.toList == b.toList))) := above_bl H1.out.1 H1.out.2.1 (by omega)
    have hp1 : decide (g.pl a < 0) = true := decide_eq_true hp.1
    have hp2 : decide (g.pl b < 0) = true := decide_eq_true hp.2
    clear hp r1 r2
    go_enter Tryz.func136, Tryz.ntmps136
    go_wp2
    refine wp_region_far (by kernel_rfl) ?_
    repeat (first | go_big_quiet_step (exact calls_far (hc _) _) | quiet_step (exact calls_far (hc _) _))
    refine wpQuiet_nil ?_
    intro _ hw'
    obtain ⟨pf, rfl⟩ := hw'
    go_wp2
    all_goals go_ret
    all_goals exact ⟨ret_bool (by rw [HP.out]; simp [*]), HB.out.trans ((below_far _ pf).mono HB.out.size)⟩
  · have HP : Hid (g.above a b = decide (g.pl b < g.pl a)) := above_pl H1.out.1 H1.out.2.1 (fun e => H1.out.2.2 (pl_same e (by omega)))
    have hp' : Hid (¬ (g.pl a < 0 ∧ g.pl b < 0)) := hp
    clear hp r1 r2
    go_enter Tryz.func136, Tryz.ntmps136
    go_wp2
    refine wp_region_far (by kernel_rfl) ?_
    repeat (first | go_big_quiet_step (exact calls_far (hc _) _) | quiet_step (exact calls_far (hc _) _))
    refine wpQuiet_nil ?_
    intro _ hw'
    obtain ⟨pf, rfl⟩ := hw'
    go_wp2
    all_goals first | (exfalso; have := hp'.out; omega) | go_ret
    all_goals exact ⟨ret_bool HP.out.symm, HB.out.trans ((below_far _ pf).mono HB.out.size)⟩
end Go.Proofs.YtglphfhlpobgcaaGreat
