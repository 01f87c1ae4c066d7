import Derived.Test.YtglphfhlpobgcaaGreatWN
import Derived.Sort.Grow
namespace Go.Proofs.YtglphfhlpobgcaaGreat
open Go.RowKit Go.Maps
structure Gar where
  q : Nat
  os : Array Obj
  deriving Inhabited
def gar (w : World) (p : Gar) : World := ⟨w.heap ++ p.os, w.tape, w.drawn + p.q, w.os, w.output⟩
def Gr (w w' : World) : Prop := ∃ p : Gar, w' = gar w p
theorem below_gar (w : World) (p : Gar) : Below w.heap.size w (gar w p) :=
  ⟨rfl, rfl, rfl, by simp [gar], fun k hk => by simp [gar, Array.getElem?_append, hk]⟩
theorem Gr.below {w w' : World} (h : Gr w w') : Below w.heap.size w w' := by
  obtain ⟨p, rfl⟩ := h
  exact below_gar w p
theorem Gr.refl (w : World) : Gr w w := ⟨⟨0, #[]⟩, by simp [gar]⟩
theorem Gr.trans {a b c : World} (h : Gr a b) (k : Gr b c) : Gr a c := by
  obtain ⟨p, rfl⟩ := h
  obtain ⟨r, rfl⟩ := k
  exact ⟨⟨p.q + r.q, p.os ++ r.os⟩, by simp [gar, Array.append_assoc, Nat.add_assoc]⟩
theorem Gr.alloc (w : World) (o : Obj) : Gr w (w.alloc o) := ⟨⟨0, #[o]⟩, by unfold gar World.alloc; simp only [Nat.add_zero]; rfl⟩
theorem cell_gar {w : World} {b o : Nat} {v : Value} (hb : b < w.heap.size) (h : w.cell? ⟨b, o, none⟩ = some v) (p : Gar) : (gar w p).cell? ⟨b, o, none⟩ = some v := kc (below_gar w p) hb h
theorem wp_region_gar {id : Nat} {Q : Exit → Act → World → Prop} {a : Act} {w : World} {l : List Oper} (hB : Region.lexB .any l.toArray = true)
    (h : wpQuiet Tryz.prog l.toArray (fun w' => ∃ p : Gar, w' = gar w p) (fun a' => ∀ w', (∃ p : Gar, w' = gar w p) → Q .normal a' w') l a) : (Code.region id l.toArray true).wp Tryz.prog Q a w :=
  wp_region_quiet (C := fun w' => ∃ p : Gar, w' = gar w p) (by kernel_rfl) hB ⟨⟨1, #[]⟩, by simp [gar]⟩ (by simpa using h)
theorem calls_gar {f : FuncId} {args : Array Value} {w : World} {v : Value} (h : ∀ W, Gr w W → Calls Tryz.prog f args W fun e w' => e = .returned v ∧ Gr W w') (p : Gar) :
    Calls Tryz.prog f args (gar w p) fun e w'' => e = .returned v ∧ ∃ p : Gar, w'' = gar w p :=
  (h _ ⟨p, rfl⟩).mono fun _ _ ⟨he, hb⟩ => ⟨he, Gr.trans ⟨p, rfl⟩ hb⟩
set_option maxRecDepth 100000 in
set_option maxHeartbeats 1000000 in
theorem aboveG_any (g : Sg) (a b : ByteArray) (vn vw : Value) (w : World) (hg : SgAt w g vn vw) :
    Calls Tryz.prog 122 #[gval vn vw, .string a, .string b] w fun e w' => e = .returned (.bool (g.above a b)) ∧ Gr w w' := by
  obtain ⟨an, cn, rfl, _, _⟩ := hg.ns.slice
  obtain ⟨aw, cw, rfl, _, _⟩ := hg.ws.slice
  have hb := below_box w (.cells #[.slice an g.ns.length cn, .slice aw g.ws.length cw] 38)
  have HB : Hid (Gr w (w.alloc (.cells #[.slice an g.ns.length cn, .slice aw g.ws.length cw] 38))) := Gr.alloc w _
  by_cases h1 : a = tru
  · have HP : Hid (g.above a b = false) := above_left h1
    have e1 : (a.toList == [36, 116, 114, 117, 101]) = true := by rw [eq_truB]; exact decide_eq_true h1
    have e2 : (a.toList != [36, 116, 114, 117, 101]) = false := by rw [bne, e1]; rfl
    clear h1 hb hg
    go_enter Tryz.func122, Tryz.ntmps122
    go_wp2
    go_ret
    exact ⟨ret_bool HP.out.symm, HB.out⟩
  · have e1 : (a.toList == [36, 116, 114, 117, 101]) = false := by rw [eq_truB]; exact decide_eq_false h1
    have e2 : (a.toList != [36, 116, 114, 117, 101]) = true := by rw [bne, e1]; rfl
    by_cases h2 : b = tru
    · have HP : Hid (g.above a b = true) := above_right h1 h2
      have e3 : (b.toList == [36, 116, 114, 117, 101]) = true := by rw [eq_truB]; exact decide_eq_true h2
      clear h1 h2 hb hg
      go_enter Tryz.func122, Tryz.ntmps122
      go_wp2
      go_ret
      exact ⟨ret_bool HP.out.symm, HB.out⟩
    · have e3 : (b.toList == [36, 116, 114, 117, 101]) = false := by rw [eq_truB]; exact decide_eq_false h2
      obtain ⟨t0, _⟩ := box2_cells w (.slice an g.ns.length cn) (.slice aw g.ws.length cw) 38
      have t0' := cell_gar (w := w.alloc (.cells #[.slice an g.ns.length cn, .slice aw g.ws.length cw] 38)) (by simp) t0
      have hn1 := hg.ns.keep hb (Nat.le_refl _)
      have hc : ∀ x, ∀ W, Gr (w.alloc (.cells #[.slice an g.ns.length cn, .slice aw g.ws.length cw] 38)) W → Calls Tryz.prog 148 #[.slice an g.ns.length cn, .string x] W fun e w' => e = .returned (.int .i64 (g.pl x)) ∧ Gr W w' := fun x W hW => (index_any g.ns x _ W (hn1.keep hW.below (Nat.le_refl _))).mono fun e w' ⟨h1, h2⟩ => ⟨h1, h2 ▸ Gr.refl _⟩
      have H1 : Hid (a ≠ tru ∧ b ≠ tru) := ⟨h1, h2⟩
      clear h1 h2 hb hn1 hg
      by_cases hp : g.pl a = g.pl b
      · have HP : Hid (g.above a b = (!Op.bytesLess a.toList b.toList && !(a.toList == b.toList))) := above_bl H1.out.1 H1.out.2 hp
        have hp' : (g.pl a != g.pl b) = false := by rw [hp]; simp
        clear hp
        go_enter Tryz.func122, Tryz.ntmps122
        go_wp2
        refine wp_region_gar (by kernel_rfl) ?_
        repeat (first | go_big_quiet_step (exact calls_gar (hc _) _) | quiet_step (exact calls_gar (hc _) _))
        refine wpQuiet_nil ?_
        intro _ hw'
        obtain ⟨pf, rfl⟩ := hw'
        go_wp2
        go_ret
        exact ⟨ret_bool HP.out.symm, HB.out.trans ⟨pf, rfl⟩⟩
      · have HP : Hid (g.above a b = decide (g.pl b < g.pl a)) := above_pl H1.out.1 H1.out.2 hp
        have hp' : (g.pl a != g.pl b) = true := by rw [bne_iff_ne]; exact hp
        clear hp
        go_enter Tryz.func122, Tryz.ntmps122
        go_wp2
        refine wp_region_gar (by kernel_rfl) ?_
        repeat (first | go_big_quiet_step (exact calls_gar (hc _) _) | quiet_step (exact calls_gar (hc _) _))
        refine wpQuiet_nil ?_
        intro _ hw'
        obtain ⟨pf, rfl⟩ := hw'
        go_wp2
        go_ret
        exact ⟨ret_bool HP.out.symm, HB.out.trans ⟨pf, rfl⟩⟩
set_option maxRecDepth 100000 in
set_option maxHeartbeats 2000000 in
theorem laboveG_any (g : Sg) (s r : ByteArray × Nat) (vn vw : Value) (w : World) (hg : SgAt w g vn vw) :
    Calls Tryz.prog 81 #[gval vn vw, symv s, symv r] w fun e w' => e = .returned (.bool (symB g s r)) ∧ Gr w w' := by
  obtain ⟨an, cn, rfl, _, _⟩ := hg.ns.slice
  obtain ⟨aw, cw, rfl, _, _⟩ := hg.ws.slice
  obtain ⟨s1, s2⟩ := s
  obtain ⟨r1, r2⟩ := r
  obtain ⟨W1, hW1⟩ : ∃ W1, (((w.alloc (.cells #[.slice an g.ns.length cn, .slice aw g.ws.length cw] 38)).alloc (.cells #[.string s1, .int .i64 (s2 : Int)] 113)).alloc (.cells #[.string r1, .int .i64 (r2 : Int)] 113)) = W1 := ⟨_, rfl⟩
  obtain ⟨⟨a0, a1⟩, ⟨b0, b1⟩, c0, c1⟩ := box3_cells w (.slice an g.ns.length cn) (.slice aw g.ws.length cw) (.string s1) (.int .i64 (s2 : Int)) (.string r1) (.int .i64 (r2 : Int)) 38 113 113
  rw [hW1] at a0 a1 b0 b1 c0 c1
  have hb1 : Below w.heap.size w W1 := by
    rw [← hW1]
    exact (below_box2 w _ _).trans ((below_box _ _).mono (by simp only [World.size_alloc]; omega))
  have hsz : w.heap.size + 3 = W1.heap.size := by rw [← hW1]; simp
  have hcall := aboveG_any g s1 r1 (.slice an g.ns.length cn) (.slice aw g.ws.length cw) W1 (hg.keep hb1 (Nat.le_refl _))
  have hG1 : Gr w W1 := by rw [← hW1]; exact ((Gr.alloc w _).trans (Gr.alloc _ _)).trans (Gr.alloc _ _)
  have HB : Hid (Gr w W1 ∧ w.heap.size + 3 = W1.heap.size) := ⟨hG1, hsz⟩
  have HE : Hid (symB g (s1, s2) (r1, r2) = (g.above s1 r1 || (decide (s1 = r1) && decide (r2 < s2)))) := rfl
  generalize g.above s1 r1 = ab at hcall HE
  clear hg hb1 hsz hG1
  cases ab
  · by_cases hn : s1 = r1
    · have e1 : (s1.toList == r1.toList) = true := by rw [hn]; simp
      have HV : Hid (symB g (s1, s2) (r1, r2) = decide (r2 < s2)) := by
        show _ = _
        rw [HE.out]
        simp [hn]
      clear hn HE
      go_enter Tryz.func81, Tryz.ntmps81
      try rw [hW1]
      go_wp2_with fail
      refine hcall.mono ?_
      rintro e W2 ⟨rfl, hg2⟩
      have hb2 := hg2.below
      have d0 := kc hb2 (by have := HB.out.2; omega) b0
      have d1 := kc hb2 (by have := HB.out.2; omega) b1
      have f0 := kc hb2 (by have := HB.out.2; omega) c0
      have f1 := kc hb2 (by have := HB.out.2; omega) c1
      have HB2 : Hid (Gr w W2) := HB.out.1.trans hg2
      clear hb2 hg2
      go_wp2
      go_ret
      exact ⟨ret_bool (by rw [HV.out]), HB2.out⟩
    · have e1 : (s1.toList == r1.toList) = false := by rw [beq_eq_false_iff_ne]; exact fun h => hn (ba_toList_inj.1 h)
      have HV : Hid (symB g (s1, s2) (r1, r2) = false) := by
        show _ = _
        rw [HE.out]
        simp [hn]
      clear hn HE
      go_enter Tryz.func81, Tryz.ntmps81
      try rw [hW1]
      go_wp2_with fail
      refine hcall.mono ?_
      rintro e W2 ⟨rfl, hg2⟩
      have hb2 := hg2.below
      have d0 := kc hb2 (by have := HB.out.2; omega) b0
      have f0 := kc hb2 (by have := HB.out.2; omega) c0
      have HB2 : Hid (Gr w W2) := HB.out.1.trans hg2
      clear hb2 hg2
      go_wp2
      go_ret
      exact ⟨ret_bool (by rw [HV.out]), HB2.out⟩
  · have HV : Hid (symB g (s1, s2) (r1, r2) = true) := by
      show _ = _
      rw [HE.out]
      simp
    clear HE
    go_enter Tryz.func81, Tryz.ntmps81
    try rw [hW1]
    go_wp2_with fail
    refine hcall.mono ?_
    rintro e W2 ⟨rfl, hg2⟩
    have hb2 := hg2.below
    have HB2 : Hid (Gr w W2) := HB.out.1.trans hg2
    clear hb2 hg2
    go_wp2
    go_ret
    exact ⟨ret_bool (by rw [HV.out]), HB2.out⟩
set_option maxRecDepth 100000 in
set_option maxHeartbeats 2000000 in
theorem scmpG_any (g : Sg) (s r : ByteArray × Nat) (gb : Nat) (vn vw : Value) (w : World) (hg : SgAt w g vn vw) (g0 : w.cell? ⟨gb, 0, none⟩ = some vn) (g1 : w.cell? ⟨gb, 1, none⟩ = some vw) (hgb : gb < w.heap.size) :
    Calls Tryz.prog 80 #[symv s, symv r, .pointer (some ⟨gb, 0, none⟩)] w fun e w' => e = .returned (.int .i64 (scmp g s r)) ∧ Gr w w' := by
  obtain ⟨an, cn, rfl, _, _⟩ := hg.ns.slice
  obtain ⟨aw, cw, rfl, _, _⟩ := hg.ws.slice
  obtain ⟨s1, s2⟩ := s
  obtain ⟨r1, r2⟩ := r
  obtain ⟨W1, hW1⟩ : ∃ W1, ((w.alloc (.cells #[.string s1, .int .i64 (s2 : Int)] 113)).alloc (.cells #[.string r1, .int .i64 (r2 : Int)] 113)) = W1 := ⟨_, rfl⟩
  have hb1 : Below w.heap.size w W1 := by rw [← hW1]; exact below_box2 w _ _
  have hsz : w.heap.size + 2 = W1.heap.size := by rw [← hW1]; simp
  have b0 : W1.cell? ⟨w.heap.size, 0, none⟩ = some (.string s1) := by rw [← hW1]; exact kc (below_box _ _) (by simp) (box2_cells w (.string s1) (.int .i64 (s2 : Int)) 113).1
  have b1 : W1.cell? ⟨w.heap.size, 1, none⟩ = some (.int .i64 (s2 : Int)) := by rw [← hW1]; exact kc (below_box _ _) (by simp) (box2_cells w (.string s1) (.int .i64 (s2 : Int)) 113).2
  obtain ⟨c0, c1⟩ := box2_cells (w.alloc (.cells #[.string s1, .int .i64 (s2 : Int)] 113)) (.string r1) (.int .i64 (r2 : Int)) 113
  rw [World.size_alloc, hW1] at c0 c1
  have a0 := kc hb1 hgb g0
  have a1 := kc hb1 hgb g1
  have hsr := laboveG_any g (s1, s2) (r1, r2) (.slice an g.ns.length cn) (.slice aw g.ws.length cw) W1 (hg.keep hb1 (Nat.le_refl _))
  have hrs : ∀ W, Gr w W → Calls Tryz.prog 81 #[gval (.slice an g.ns.length cn) (.slice aw g.ws.length cw), symv (r1, r2), symv (s1, s2)] W fun e w' => e = .returned (.bool (symB g (r1, r2) (s1, s2))) ∧ Gr W w' := fun W hW => laboveG_any g (r1, r2) (s1, s2) (.slice an g.ns.length cn) (.slice aw g.ws.length cw) W (hg.keep hW.below (Nat.le_refl _))
  have hG1 : Gr w W1 := by rw [← hW1]; exact (Gr.alloc w _).trans (Gr.alloc _ _)
  have HB : Hid (Gr w W1 ∧ w.heap.size + 2 = W1.heap.size ∧ gb < w.heap.size) := ⟨hG1, hsz, hgb⟩
  have HE : Hid (scmp g (s1, s2) (r1, r2) = if symB g (s1, s2) (r1, r2) = true then 1 else if symB g (r1, r2) (s1, s2) = true then -1 else 0) := rfl
  generalize symB g (s1, s2) (r1, r2) = x at hsr HE
  generalize symB g (r1, r2) (s1, s2) = y at hrs HE
  clear hg hb1 hsz hgb g0 g1 hG1
  cases x
  · cases y
    all_goals (
      go_enter Tryz.func80, Tryz.ntmps80
      try rw [hW1]
      go_wp2_with fail
      refine hsr.mono ?_
      rintro e W2 ⟨rfl, hg2⟩
      have hb2 := hg2.below
      have a0' := kc hb2 (by have := HB.out.2; omega) a0
      have a1' := kc hb2 (by have := HB.out.2; omega) a1
      have b0' := kc hb2 (by have := HB.out.2; omega) b0
      have b1' := kc hb2 (by have := HB.out.2; omega) b1
      have c0' := kc hb2 (by have := HB.out.2; omega) c0
      have c1' := kc hb2 (by have := HB.out.2; omega) c1
      have HB2 : Hid (Gr w W2) := HB.out.1.trans hg2
      clear hb2 hg2
      go_wp2_with fail
      refine (hrs W2 HB2.out).mono ?_
      rintro e W3 ⟨rfl, hg3⟩
      have HB3 : Hid (Gr w W3) := HB2.out.trans hg3
      clear hg3
      go_wp2
      go_ret
      exact ⟨ret_i64 (by rw [HE.out]; rfl), HB3.out⟩)
  · go_enter Tryz.func80, Tryz.ntmps80
    try rw [hW1]
    go_wp2_with fail
    refine hsr.mono ?_
    rintro e W2 ⟨rfl, hg2⟩
    have hb2 := hg2.below
    have HB2 : Hid (Gr w W2) := HB.out.1.trans hg2
    clear hb2 hg2
    go_wp2
    go_ret
    exact ⟨ret_i64 (by rw [HE.out]; rfl), HB2.out⟩
end Go.Proofs.YtglphfhlpobgcaaGreat
