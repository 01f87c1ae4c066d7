/-
  fit, Unifies, Matches; the laws' same.
-/
import Derived.Test.YtiklbkkimmgbcaaFE
namespace Go.Proofs.Ytiklbkkimmgbcaa
open Go.RowKit Go.Maps

/-- Four features each, that fit place by place. -/
def fitB (P : Ft → Ft → Bool) (l m : List Ft) : Bool := decide (l.length = 4) && decide (m.length = 4) && (l.zip m).all (fun p => P p.1 p.2)
theorem fitB_len {P : Ft → Ft → Bool} {l m : List Ft} (h : ¬ (l.length = 4 ∧ m.length = 4)) : fitB P l m = false := by
  unfold fitB
  by_cases h1 : l.length = 4 <;> by_cases h2 : m.length = 4 <;> simp_all
theorem fitB_all {P : Ft → Ft → Bool} {l m : List Ft} (h1 : l.length = 4) (h2 : m.length = 4) : fitB P l m = true ↔ ∀ i (h : i < l.length) (h' : i < m.length), P l[i] m[i] = true := by
  unfold fitB
  simp only [h1, h2, decide_true, Bool.true_and, List.all_eq_true]
  constructor
  · intro h i hi hi'
    exact h (l[i], m[i]) (List.mem_iff_getElem.2 ⟨i, by simp; omega, by simp⟩)
  · intro h p hp
    obtain ⟨i, hi, rfl⟩ := List.mem_iff_getElem.1 hp
    simp only [List.getElem_zip]
    exact h i (by simp at hi; omega) (by simp at hi; omega)
theorem fitB_no {P : Ft → Ft → Bool} {l m : List Ft} (h1 : l.length = 4) (h2 : m.length = 4) {i : Nat} (h : i < l.length) (h' : i < m.length) (k : P l[i] m[i] = false) : fitB P l m = false := by
  rw [← Bool.not_eq_true, fitB_all h1 h2]
  intro q
  rw [q i h h'] at k
  cases k

set_option maxRecDepth 100000 in
set_option maxHeartbeats 4000000 in
theorem fitM_any (l m : List Ft) (v1 v2 : Value) (w : World) (hl : FtAt w v1 l) (hm : FtAt w v2 m) :
    Calls Try.prog 34 #[v1, v2, .func (.func 37) #[] #[]] w fun e w' => e = .returned (.bool (fitB matB l m)) ∧ Below w.heap.size w w' := by
  obtain ⟨a1, c1, rfl, hc1, hm1⟩ := hl.slice
  obtain ⟨a2, c2, rfl, hc2, hm2⟩ := hm.slice
  have HL : Hid (FtAt w (.slice a1 l.length c1) l ∧ FtAt w (.slice a2 m.length c2) m) := ⟨hl, hm⟩
  clear hl hm
  by_cases h1 : l.length = 4
  case neg =>
    have e1 : ((l.length : Int) != 4) = true := by rw [bne_iff_ne]; omega
    have HV : Hid (fitB matB l m = false) := fitB_len (fun h => h1 h.1)
    clear HL h1
    go_enter Try.func34, Try.ntmps34
    go_wp2
    go_ret
    exact ⟨ret_bool HV.out.symm, Below.refl _ _⟩
  have e1 : ((l.length : Int) != 4) = false := by rw [h1]; rfl
  by_cases h2 : m.length = 4
  case neg =>
    have e2 : ((m.length : Int) != 4) = true := by rw [bne_iff_ne]; omega
    have HV : Hid (fitB matB l m = false) := fitB_len (fun h => h2 h.2)
    clear HL h1 h2
    go_enter Try.func34, Try.ntmps34
    go_wp2
    go_ret
    exact ⟨ret_bool HV.out.symm, Below.refl _ _⟩
  have e2 : ((m.length : Int) != 4) = false := by rw [h2]; rfl
  have H1 : Hid (l.length = 4 ∧ m.length = 4) := ⟨h1, h2⟩
  clear h1 h2
  go_enter Try.func34, Try.ntmps34
  go_wp2
  go_loopw [16] (fun vi wr => ∃ i : Nat, vi = .int .i64 i ∧ i ≤ 4 ∧ Hid (Below w.heap.size w wr ∧ ∀ j (h : j < l.length) (h' : j < m.length), j < i → matB l[j] m[j] = true)) (fun vi _ => 4 - (intOf vi).toNat)
  case atStart => exact ⟨0, rfl, by omega, Below.refl _ _, fun j _ _ h => by omega⟩
  case round =>
    obtain ⟨i, rfl, hi, HI⟩ := hrel
    have hB := HI.out.1
    by_cases hlt : i < 4
    · have hiI : (i : Int) < 4 := by omega
      have l1 : i < l.length := by have := H1.out.1; omega
      have l2 : i < m.length := by have := H1.out.2; omega
      have l1I : (i : Int) < (l.length : Int) := by omega
      have l2I : (i : Int) < (m.length : Int) := by omega
      obtain ⟨b, o, rfl, hb, x0, x1, x2⟩ := HL.out.1.nth l1
      obtain ⟨b', o', rfl, hb', y0, y1, y2⟩ := HL.out.2.nth l2
      have lb : b < wr.heap.size := by have := hB.size; omega
      have lb' : b' < wr.heap.size := by have := hB.size; omega
      replace x0 := cell_far lb (kc hB hb x0)
      replace x1 := cell_far lb (kc hB hb x1)
      replace x2 := cell_far lb (kc hB hb x2)
      replace y0 := cell_far lb' (kc hB hb' y0)
      replace y1 := cell_far lb' (kc hB hb' y1)
      replace y2 := cell_far lb' (kc hB hb' y2)
      have hcl : ∀ Z, Below wr.heap.size wr Z → Calls Try.prog 37 #[fval l[i], fval m[i]] Z fun e Z' => e = .returned (.bool (matB l[i] m[i])) ∧ Below Z.heap.size Z Z' := fun Z _ => matches_any l[i] m[i] Z
      have HY : Hid (matB l[i] m[i] = true → ∀ j (h : j < l.length) (h' : j < m.length), j < i + 1 → matB l[j] m[j] = true) := fun h j hj hj' hji => by
        by_cases e : j = i
        · subst e; exact h
        · exact HI.out.2 j hj hj' (by omega)
      have HNo : Hid (matB l[i] m[i] = false → fitB matB l m = false) := fun h => fitB_no H1.out.1 H1.out.2 l1 l2 h
      obtain ⟨x, hx⟩ : ∃ x, l[i] = x := ⟨_, rfl⟩
      obtain ⟨y, hy⟩ : ∃ y, m[i] = y := ⟨_, rfl⟩
      rw [hx] at x0 x1 x2 hcl HY HNo
      rw [hy] at y0 y1 y2 hcl HY HNo
      have HBr : Hid (Below w.heap.size w wr) := hB
      clear HI hB hb hb' lb lb' hx hy l1 l2
      cases hz : matB x y
      · have HV : Hid (fitB matB l m = false) := HNo.out hz
        rw [hz] at hcl
        clear hz HY HNo
        go_wp2
        refine wp_region_far (by kernel_rfl) ?_
        repeat (first | go_big_quiet_step (exact calls_far hcl _) | quiet_step (exact calls_far hcl _))
        refine wpQuiet_nil ?_
        intro _ hw'
        obtain ⟨pf, rfl⟩ := hw'
        go_wp2
        go_ret
        exact ⟨ret_bool HV.out.symm, HBr.out.trans ((below_far wr pf).mono HBr.out.size)⟩
      · have HV : Hid (∀ j (h : j < l.length) (h' : j < m.length), j < i + 1 → matB l[j] m[j] = true) := HY.out hz
        rw [hz] at hcl
        clear hz HY HNo
        go_wp2
        refine wp_region_far (by kernel_rfl) ?_
        repeat (first | go_big_quiet_step (exact calls_far hcl _) | quiet_step (exact calls_far hcl _))
        refine wpQuiet_nil ?_
        intro _ hw'
        obtain ⟨pf, rfl⟩ := hw'
        go_wp2
        go_roundw
        case rel => exact ⟨i + 1, by go_num, by omega, HBr.out.trans ((below_far wr pf).mono HBr.out.size), HV.out⟩
        case measure => simp [intOf]; omega
    · have hiI : ¬ (i : Int) < 4 := by omega
      have HV : Hid (fitB matB l m = true) := (fitB_all H1.out.1 H1.out.2).2 (fun j h h' => HI.out.2 j h h' (by have := H1.out.1; omega))
      have HBr : Hid (Below w.heap.size w wr) := hB
      clear HI hB
      go_wp2
      go_ret
      exact ⟨ret_bool HV.out.symm, HBr.out⟩

set_option maxRecDepth 100000 in
set_option maxHeartbeats 4000000 in
theorem fitU_any (l m : List Ft) (v1 v2 : Value) (w : World) (hl : FtAt w v1 l) (hm : FtAt w v2 m) :
    Calls Try.prog 34 #[v1, v2, .func (.func 35) #[] #[]] w fun e w' => e = .returned (.bool (fitB uniB l m)) ∧ Below w.heap.size w w' := by
  obtain ⟨a1, c1, rfl, hc1, hm1⟩ := hl.slice
  obtain ⟨a2, c2, rfl, hc2, hm2⟩ := hm.slice
  have HL : Hid (FtAt w (.slice a1 l.length c1) l ∧ FtAt w (.slice a2 m.length c2) m) := ⟨hl, hm⟩
  clear hl hm
  by_cases h1 : l.length = 4
  case neg =>
    have e1 : ((l.length : Int) != 4) = true := by rw [bne_iff_ne]; omega
    have HV : Hid (fitB uniB l m = false) := fitB_len (fun h => h1 h.1)
    clear HL h1
    go_enter Try.func34, Try.ntmps34
    go_wp2
    go_ret
    exact ⟨ret_bool HV.out.symm, Below.refl _ _⟩
  have e1 : ((l.length : Int) != 4) = false := by rw [h1]; rfl
  by_cases h2 : m.length = 4
  case neg =>
    have e2 : ((m.length : Int) != 4) = true := by rw [bne_iff_ne]; omega
    have HV : Hid (fitB uniB l m = false) := fitB_len (fun h => h2 h.2)
    clear HL h1 h2
    go_enter Try.func34, Try.ntmps34
    go_wp2
    go_ret
    exact ⟨ret_bool HV.out.symm, Below.refl _ _⟩
  have e2 : ((m.length : Int) != 4) = false := by rw [h2]; rfl
  have H1 : Hid (l.length = 4 ∧ m.length = 4) := ⟨h1, h2⟩
  clear h1 h2
  go_enter Try.func34, Try.ntmps34
  go_wp2
  go_loopw [16] (fun vi wr => ∃ i : Nat, vi = .int .i64 i ∧ i ≤ 4 ∧ Hid (Below w.heap.size w wr ∧ ∀ j (h : j < l.length) (h' : j < m.length), j < i → uniB l[j] m[j] = true)) (fun vi _ => 4 - (intOf vi).toNat)
  case atStart => exact ⟨0, rfl, by omega, Below.refl _ _, fun j _ _ h => by omega⟩
  case round =>
    obtain ⟨i, rfl, hi, HI⟩ := hrel
    have hB := HI.out.1
    by_cases hlt : i < 4
    · have hiI : (i : Int) < 4 := by omega
      have l1 : i < l.length := by have := H1.out.1; omega
      have l2 : i < m.length := by have := H1.out.2; omega
      have l1I : (i : Int) < (l.length : Int) := by omega
      have l2I : (i : Int) < (m.length : Int) := by omega
      obtain ⟨b, o, rfl, hb, x0, x1, x2⟩ := HL.out.1.nth l1
      obtain ⟨b', o', rfl, hb', y0, y1, y2⟩ := HL.out.2.nth l2
      have lb : b < wr.heap.size := by have := hB.size; omega
      have lb' : b' < wr.heap.size := by have := hB.size; omega
      replace x0 := cell_far lb (kc hB hb x0)
      replace x1 := cell_far lb (kc hB hb x1)
      replace x2 := cell_far lb (kc hB hb x2)
      replace y0 := cell_far lb' (kc hB hb' y0)
      replace y1 := cell_far lb' (kc hB hb' y1)
      replace y2 := cell_far lb' (kc hB hb' y2)
      have hcl : ∀ Z, Below wr.heap.size wr Z → Calls Try.prog 35 #[fval l[i], fval m[i]] Z fun e Z' => e = .returned (.bool (uniB l[i] m[i])) ∧ Below Z.heap.size Z Z' := fun Z _ => unifies_any l[i] m[i] Z
      have HY : Hid (uniB l[i] m[i] = true → ∀ j (h : j < l.length) (h' : j < m.length), j < i + 1 → uniB l[j] m[j] = true) := fun h j hj hj' hji => by
        by_cases e : j = i
        · subst e; exact h
        · exact HI.out.2 j hj hj' (by omega)
      have HNo : Hid (uniB l[i] m[i] = false → fitB uniB l m = false) := fun h => fitB_no H1.out.1 H1.out.2 l1 l2 h
      obtain ⟨x, hx⟩ : ∃ x, l[i] = x := ⟨_, rfl⟩
      obtain ⟨y, hy⟩ : ∃ y, m[i] = y := ⟨_, rfl⟩
      rw [hx] at x0 x1 x2 hcl HY HNo
      rw [hy] at y0 y1 y2 hcl HY HNo
      have HBr : Hid (Below w.heap.size w wr) := hB
      clear HI hB hb hb' lb lb' hx hy l1 l2
      cases hz : uniB x y
      · have HV : Hid (fitB uniB l m = false) := HNo.out hz
        rw [hz] at hcl
        clear hz HY HNo
        go_wp2
        refine wp_region_far (by kernel_rfl) ?_
        repeat (first | go_big_quiet_step (exact calls_far hcl _) | quiet_step (exact calls_far hcl _))
        refine wpQuiet_nil ?_
        intro _ hw'
        obtain ⟨pf, rfl⟩ := hw'
        go_wp2
        go_ret
        exact ⟨ret_bool HV.out.symm, HBr.out.trans ((below_far wr pf).mono HBr.out.size)⟩
      · have HV : Hid (∀ j (h : j < l.length) (h' : j < m.length), j < i + 1 → uniB l[j] m[j] = true) := HY.out hz
        rw [hz] at hcl
        clear hz HY HNo
        go_wp2
        refine wp_region_far (by kernel_rfl) ?_
        repeat (first | go_big_quiet_step (exact calls_far hcl _) | quiet_step (exact calls_far hcl _))
        refine wpQuiet_nil ?_
        intro _ hw'
        obtain ⟨pf, rfl⟩ := hw'
        go_wp2
        go_roundw
        case rel => exact ⟨i + 1, by go_num, by omega, HBr.out.trans ((below_far wr pf).mono HBr.out.size), HV.out⟩
        case measure => simp [intOf]; omega
    · have hiI : ¬ (i : Int) < 4 := by omega
      have HV : Hid (fitB uniB l m = true) := (fitB_all H1.out.1 H1.out.2).2 (fun j h h' => HI.out.2 j h h' (by have := H1.out.1; omega))
      have HBr : Hid (Below w.heap.size w wr) := hB
      clear HI hB
      go_wp2
      go_ret
      exact ⟨ret_bool HV.out.symm, HBr.out⟩

set_option maxHeartbeats 1000000 in
theorem Matches_any (l m : List Ft) (v1 v2 : Value) (w : World) (hl : FtAt w v1 l) (hm : FtAt w v2 m) :
    Calls Try.prog 15 #[v1, v2] w fun e w' => e = .returned (.bool (fitB matB l m)) ∧ Below w.heap.size w w' := by
  have hc := fitM_any l m v1 v2 w hl hm
  obtain ⟨a1, c1, rfl, hc1, hm1⟩ := hl.slice
  obtain ⟨a2, c2, rfl, hc2, hm2⟩ := hm.slice
  clear hl hm
  go_enter Try.func15, Try.ntmps15
  go_wp2_with fail
  refine hc.mono ?_
  rintro e W1 ⟨rfl, b1⟩
  go_wp2
  go_ret
  exact ⟨rfl, b1⟩

set_option maxHeartbeats 1000000 in
theorem Unifies_any (l m : List Ft) (v1 v2 : Value) (w : World) (hl : FtAt w v1 l) (hm : FtAt w v2 m) :
    Calls Try.prog 12 #[v1, v2] w fun e w' => e = .returned (.bool (fitB uniB l m)) ∧ Below w.heap.size w w' := by
  have hc := fitU_any l m v1 v2 w hl hm
  obtain ⟨a1, c1, rfl, hc1, hm1⟩ := hl.slice
  obtain ⟨a2, c2, rfl, hc2, hm2⟩ := hm.slice
  clear hl hm
  go_enter Try.func12, Try.ntmps12
  go_wp2_with fail
  refine hc.mono ?_
  rintro e W1 ⟨rfl, b1⟩
  go_wp2
  go_ret
  exact ⟨rfl, b1⟩

end Go.Proofs.Ytiklbkkimmgbcaa
