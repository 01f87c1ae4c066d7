/-
  symbolOf, above, the order of symbols.
-/
import Derived.Test.YtglphfhlpobgcaaGreatWK
import Derived.Test.YtglphfhlpobgcaaGreatKB
namespace Go.Proofs.YtglphfhlpobgcaaGreat
open Go.RowKit Go.Maps

set_option maxHeartbeats 1000000 in
theorem symbolOf_any (t : T) (sl : Value) (w : World) (hs : ∃ a c, sl = .slice a t.args.length c) :
    Calls Tryz.prog 82 #[tval t sl] w fun e w' => e = .returned (symv (t.fn, t.args.length)) ∧ Below w.heap.size w w' := by
  obtain ⟨a, c, rfl⟩ := hs
  go_enter Tryz.func82, Tryz.ntmps82
  go_wp2
  refine bodyPost_ret (v := symv (t.fn, t.args.length)) (by simp [results, Tryz.results82, go_sem, *]) rfl ⟨rfl, ?_⟩
  exact below_box2 w _ _

def symB (g : Sg) (s r : ByteArray × Nat) : Bool := g.above s.1 r.1 || (decide (s.1 = r.1) && decide (r.2 < s.2))
theorem symB_iff {g : Sg} {s r : ByteArray × Nat} : symB g s r = true ↔ g.sym s.1 r.1 s.2 r.2 := by
  unfold symB Sg.sym
  simp

/-- Three boxes of two cells. -/
theorem box3_cells (w : World) (a b c d e f : Value) (t u v : TypeId) :
    ((((w.alloc (.cells #[a, b] t)).alloc (.cells #[c, d] u)).alloc (.cells #[e, f] v)).cell? ⟨w.heap.size, 0, none⟩ = some a ∧ (((w.alloc (.cells #[a, b] t)).alloc (.cells #[c, d] u)).alloc (.cells #[e, f] v)).cell? ⟨w.heap.size, 1, none⟩ = some b) ∧
    ((((w.alloc (.cells #[a, b] t)).alloc (.cells #[c, d] u)).alloc (.cells #[e, f] v)).cell? ⟨w.heap.size + 1, 0, none⟩ = some c ∧ (((w.alloc (.cells #[a, b] t)).alloc (.cells #[c, d] u)).alloc (.cells #[e, f] v)).cell? ⟨w.heap.size + 1, 1, none⟩ = some d) ∧
    ((((w.alloc (.cells #[a, b] t)).alloc (.cells #[c, d] u)).alloc (.cells #[e, f] v)).cell? ⟨w.heap.size + 1 + 1, 0, none⟩ = some e ∧ (((w.alloc (.cells #[a, b] t)).alloc (.cells #[c, d] u)).alloc (.cells #[e, f] v)).cell? ⟨w.heap.size + 1 + 1, 1, none⟩ = some f) := by
  have h1 := box2_cells w a b t
  have h2 := box2_cells (w.alloc (.cells #[a, b] t)) c d u
  have h3 := box2_cells ((w.alloc (.cells #[a, b] t)).alloc (.cells #[c, d] u)) e f v
  have b2 := below_box (w.alloc (.cells #[a, b] t)) (.cells #[c, d] u)
  have b3 := below_box ((w.alloc (.cells #[a, b] t)).alloc (.cells #[c, d] u)) (.cells #[e, f] v)
  simp only [World.size_alloc] at h2 h3
  exact ⟨⟨kc b3 (by simp only [World.size_alloc]; omega) (kc b2 (by simp) h1.1), kc b3 (by simp only [World.size_alloc]; omega) (kc b2 (by simp) h1.2)⟩, ⟨kc b3 (by simp) h2.1, kc b3 (by simp) h2.2⟩, h3⟩

set_option maxRecDepth 100000 in
set_option maxHeartbeats 2000000 in
theorem labove_any (g : Sg) (s r : ByteArray × Nat) (vn vw : Value) (w : World) (hg : SgAt w g vn vw) :
    Calls Tryz.prog 81 #[gval vn vw, symv s, symv r] w fun e w' => e = .returned (.bool (symB g s r)) ∧ Below w.heap.size w w' := by
  obtain ⟨an, cn, rfl, _, _⟩ := hg.ns.slice
  obtain ⟨aw, cw, rfl, _, _⟩ := hg.ws.slice
  obtain ⟨s1, s2⟩ := s
  obtain ⟨r1, r2⟩ := r
  obtain ⟨W1, hW1⟩ : ∃ W1, (((w.alloc (.cells #[.slice an g.ns.length cn, .slice aw g.ws.length cw] 38)).alloc (.cells #[.string s1, .int .i64 (s2 : Int)] 113)).alloc (.cells #[.string r1, .int .i64 (r2 : Int)] 113)) = W1 := ⟨_, rfl⟩
  obtain ⟨⟨a0, a1⟩, ⟨b0, b1⟩, c0, c1⟩ := box3_cells w (.slice an g.ns.length cn) (.slice aw g.ws.length cw) (.string s1) (.int .i64 (s2 : Int)) (.string r1) (.int .i64 (r2 : Int)) 38 113 113
  rw [hW1] at a0 a1 b0 b1 c0 c1
  have hb1 : Below w.heap.size w W1 := by
    rw [← hW1]
    exact (below_box2 w _ _).trans ((below_box _ _).mono (by simp only [World.size_alloc]; omega))
  have hsz : w.heap.size + 3 = W1.heap.size := by rw [← hW1]; simp
  have hcall := above_any g s1 r1 (.slice an g.ns.length cn) (.slice aw g.ws.length cw) W1 (hg.keep hb1 (Nat.le_refl _))
  have HB : Hid (Below w.heap.size w W1 ∧ w.heap.size + 3 = W1.heap.size) := ⟨hb1, hsz⟩
  have HE : Hid (symB g (s1, s2) (r1, r2) = (g.above s1 r1 || (decide (s1 = r1) && decide (r2 < s2)))) := rfl
  generalize g.above s1 r1 = ab at hcall HE
  clear hg hb1 hsz
  cases ab
  · by_cases hn : s1 = r1
    · have e1 : (s1.toList == r1.toList) = true := by rw [hn]; simp
      have HV : Hid (symB g (s1, s2) (r1, r2) = decide (r2 < s2)) := by
        show _ = _
        rw [HE.out]
        simp [hn]
      clear hn HE
      go_enter Tryz.func81, Tryz.ntmps81
      try rw [hW1]
      go_wp2_with fail
      refine hcall.mono ?_
      rintro e W2 ⟨rfl, hb2⟩
      have d0 := kc hb2 (by have := HB.out.2; omega) b0
      have d1 := kc hb2 (by have := HB.out.2; omega) b1
      have f0 := kc hb2 (by have := HB.out.2; omega) c0
      have f1 := kc hb2 (by have := HB.out.2; omega) c1
      have HB2 : Hid (Below w.heap.size w W2) := HB.out.1.trans (hb2.mono HB.out.1.size)
      clear hb2
      go_wp2
      go_ret
      exact ⟨ret_bool (by rw [HV.out]), HB2.out⟩
    · have e1 : (s1.toList == r1.toList) = false := by rw [beq_eq_false_iff_ne]; exact fun h => hn (ba_toList_inj.1 h)
      have HV : Hid (symB g (s1, s2) (r1, r2) = false) := by
        show _ = _
        rw [HE.out]
        simp [hn]
      clear hn HE
      go_enter Tryz.func81, Tryz.ntmps81
      try rw [hW1]
      go_wp2_with fail
      refine hcall.mono ?_
      rintro e W2 ⟨rfl, hb2⟩
      have d0 := kc hb2 (by have := HB.out.2; omega) b0
      have f0 := kc hb2 (by have := HB.out.2; omega) c0
      have HB2 : Hid (Below w.heap.size w W2) := HB.out.1.trans (hb2.mono HB.out.1.size)
      clear hb2
      go_wp2
      go_ret
      exact ⟨ret_bool (by rw [HV.out]), HB2.out⟩
  · have HV : Hid (symB g (s1, s2) (r1, r2) = true) := by
      show _ = _
      rw [HE.out]
      simp
    clear HE
    go_enter Tryz.func81, Tryz.ntmps81
    try rw [hW1]
    go_wp2_with fail
    refine hcall.mono ?_
    rintro e W2 ⟨rfl, hb2⟩
    have HB2 : Hid (Below w.heap.size w W2) := HB.out.1.trans (hb2.mono HB.out.1.size)
    clear hb2
    go_wp2
    go_ret
    exact ⟨ret_bool (by rw [HV.out]), HB2.out⟩

/-- Which symbol comes first. -/
def scmp (g : Sg) (s r : ByteArray × Nat) : Int := if symB g s r = true then 1 else if symB g r s = true then -1 else 0

set_option maxRecDepth 100000 in
set_option maxHeartbeats 2000000 in
theorem scmp_any (g : Sg) (s r : ByteArray × Nat) (gb : Nat) (vn vw : Value) (w : World) (hg : SgAt w g vn vw) (g0 : w.cell? ⟨gb, 0, none⟩ = some vn) (g1 : w.cell? ⟨gb, 1, none⟩ = some vw) (hgb : gb < w.heap.size) :
    Calls Tryz.prog 80 #[symv s, symv r, .pointer (some ⟨gb, 0, none⟩)] w fun e w' => e = .returned (.int .i64 (scmp g s r)) ∧ Below w.heap.size w w' := by
  obtain ⟨an, cn, rfl, _, _⟩ := hg.ns.slice
  obtain ⟨aw, cw, rfl, _, _⟩ := hg.ws.slice
  obtain ⟨s1, s2⟩ := s
  obtain ⟨r1, r2⟩ := r
  obtain ⟨W1, hW1⟩ : ∃ W1, ((w.alloc (.cells #[.string s1, .int .i64 (s2 : Int)] 113)).alloc (.cells #[.string r1, .int .i64 (r2 : Int)] 113)) = W1 := ⟨_, rfl⟩
  have hb1 : Below w.heap.size w W1 := by rw [← hW1]; exact below_box2 w _ _
  have hsz : w.heap.size + 2 = W1.heap.size := by rw [← hW1]; simp
  have b0 : W1.cell? ⟨w.heap.size, 0, none⟩ = some (.string s1) := by rw [← hW1]; exact kc (below_box _ _) (by simp) (box2_cells w (.string s1) (.int .i64 (s2 : Int)) 113).1
  have b1 : W1.cell? ⟨w.heap.size, 1, none⟩ = some (.int .i64 (s2 : Int)) := by rw [← hW1]; exact kc (below_box _ _) (by simp) (box2_cells w (.string s1) (.int .i64 (s2 : Int)) 113).2
  obtain ⟨c0, c1⟩ := box2_cells (w.alloc (.cells #[.string s1, .int .i64 (s2 : Int)] 113)) (.string r1) (.int .i64 (r2 : Int)) 113
  rw [World.size_alloc, hW1] at c0 c1
  have a0 := kc hb1 hgb g0
  have a1 := kc hb1 hgb g1
  have hsr := labove_any g (s1, s2) (r1, r2) (.slice an g.ns.length cn) (.slice aw g.ws.length cw) W1 (hg.keep hb1 (Nat.le_refl _))
  have hrs : ∀ W, Below w.heap.size w W → Calls Tryz.prog 81 #[gval (.slice an g.ns.length cn) (.slice aw g.ws.length cw), symv (r1, r2), symv (s1, s2)] W fun e w' => e = .returned (.bool (symB g (r1, r2) (s1, s2))) ∧ Below W.heap.size W w' := fun W hW => labove_any g (r1, r2) (s1, s2) (.slice an g.ns.length cn) (.slice aw g.ws.length cw) W (hg.keep hW (Nat.le_refl _))
  have HB : Hid (Below w.heap.size w W1 ∧ w.heap.size + 2 = W1.heap.size ∧ gb < w.heap.size) := ⟨hb1, hsz, hgb⟩
  have HE : Hid (scmp g (s1, s2) (r1, r2) = if symB g (s1, s2) (r1, r2) = true then 1 else if symB g (r1, r2) (s1, s2) = true then -1 else 0) := rfl
  generalize symB g (s1, s2) (r1, r2) = x at hsr HE
  generalize symB g (r1, r2) (s1, s2) = y at hrs HE
  clear hg hb1 hsz hgb g0 g1
  cases x
  · cases y
    all_goals (
      go_enter Tryz.func80, Tryz.ntmps80
      try rw [hW1]
      go_wp2_with fail
      refine hsr.mono ?_
      rintro e W2 ⟨rfl, hb2⟩
      have a0' := kc hb2 (by have := HB.out.2; omega) a0
      have a1' := kc hb2 (by have := HB.out.2; omega) a1
      have b0' := kc hb2 (by have := HB.out.2; omega) b0
      have b1' := kc hb2 (by have := HB.out.2; omega) b1
      have c0' := kc hb2 (by have := HB.out.2; omega) c0
      have c1' := kc hb2 (by have := HB.out.2; omega) c1
      have HB2 : Hid (Below w.heap.size w W2) := HB.out.1.trans (hb2.mono HB.out.1.size)
      clear hb2
      go_wp2_with fail
      refine (hrs W2 HB2.out).mono ?_
      rintro e W3 ⟨rfl, hb3⟩
      have HB3 : Hid (Below w.heap.size w W3) := HB2.out.trans (hb3.mono HB2.out.size)
      clear hb3
      go_wp2
      go_ret
      exact ⟨ret_i64 (by rw [HE.out]; rfl), HB3.out⟩)
  · go_enter Tryz.func80, Tryz.ntmps80
    try rw [hW1]
    go_wp2_with fail
    refine hsr.mono ?_
    rintro e W2 ⟨rfl, hb2⟩
    have HB2 : Hid (Below w.heap.size w W2) := HB.out.1.trans (hb2.mono HB.out.1.size)
    clear hb2
    go_wp2
    go_ret
    exact ⟨ret_i64 (by rw [HE.out]; rfl), HB2.out⟩

end Go.Proofs.YtglphfhlpobgcaaGreat
