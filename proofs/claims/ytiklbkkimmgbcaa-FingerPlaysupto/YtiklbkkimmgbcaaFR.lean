/-
  The document's Unifies.
-/
import Derived.Test.YtiklbkkimmgbcaaFG
namespace Go.Proofs.Ytiklbkkimmgbcaa
open Go.RowKit Go.Maps

theorem ones3 (f : Ft) : ∀ u ∈ fcs f, u.oneCell' = true := by
  intro u hu
  simp only [fcs, List.mem_cons, List.not_mem_nil, or_false] at hu
  rcases hu with rfl | rfl | rfl <;> rfl
theorem matB_unknown {x y : Ft} (h : knownB x = false) : matB x y = false := by
  have hk : ¬ (1 ≤ x.kind ∧ x.kind ≤ 4) := by intro e; simp [knownB, e.1, e.2] at h
  unfold matB
  rw [if_neg (by omega), if_neg (by omega), if_neg (by omega), if_neg (by omega)]
theorem matB_unknown2 {x y : Ft} (h : knownB y = false) : matB x y = false := by
  have hk : ¬ (1 ≤ y.kind ∧ y.kind ≤ 4) := by intro e; simp [knownB, e.1, e.2] at h
  unfold matB
  split
  · rename_i e
    have hne : ¬ x = y := fun q => by rw [q] at e; omega
    simp [fteq, hne]
  · split
    · simp
      omega
    · split
      · exact h
      · split
        · simp
          omega
        · rfl

set_option maxRecDepth 100000 in
set_option maxHeartbeats 16000000 in
theorem rUnifies_any (l m : List Ft) (v1 v2 : Value) (w : World) (hl : FtAt w v1 l) (hm : FtAt w v2 m) :
    Calls Try.prog 14 #[v1, v2] w fun e w' => e = .returned (.bool (fitB uniB l m)) ∧ Below w.heap.size w w' := by
  obtain ⟨a1, c1, rfl, hc1, hm1⟩ := hl.slice
  obtain ⟨a2, c2, rfl, hc2, hm2⟩ := hm.slice
  have HL : Hid (FtAt w (.slice a1 l.length c1) l ∧ FtAt w (.slice a2 m.length c2) m) := ⟨hl, hm⟩
  clear hl hm
  by_cases h1 : l.length = 4
  case neg =>
    have e1 : ((l.length : Int) != 4) = true := by rw [bne_iff_ne]; omega
    have HV : Hid (fitB uniB l m = false) := fitB_len (fun h => h1 h.1)
    clear HL h1
    go_enter Try.func14, Try.ntmps14
    go_wp2
    go_ret
    exact ⟨ret_bool HV.out.symm, Below.refl _ _⟩
  have e1 : ((l.length : Int) != 4) = false := by rw [h1]; rfl
  by_cases h2 : m.length = 4
  case neg =>
    have e2 : ((m.length : Int) != 4) = true := by rw [bne_iff_ne]; omega
    have HV : Hid (fitB uniB l m = false) := fitB_len (fun h => h2 h.2)
    clear HL h1 h2
    go_enter Try.func14, Try.ntmps14
    go_wp2
    go_ret
    exact ⟨ret_bool HV.out.symm, Below.refl _ _⟩
  have e2 : ((m.length : Int) != 4) = false := by rw [h2]; rfl
  have H1 : Hid (l.length = 4 ∧ m.length = 4) := ⟨h1, h2⟩
  clear h1 h2
  go_enter Try.func14, Try.ntmps14
  go_wp2
  go_loopw [5] (fun vi wr => ∃ i : Nat, vi = .int .i64 i ∧ i ≤ 4 ∧ Hid (Below w.heap.size w wr ∧ ∀ j (h : j < l.length) (h' : j < m.length), j < i → uniB l[j] m[j] = true)) (fun vi _ => 4 - (intOf vi).toNat)
  case atStart => exact ⟨0, rfl, by omega, Below.refl _ _, fun j _ _ h => by omega⟩
  case round =>
    obtain ⟨i, rfl, hi, HI⟩ := hrel
    by_cases hlt : i < 4
    · have hiI : (i : Int) < 4 := by omega
      have hnn : (0 : Int) ≤ (i : Int) := by omega
      have l1 : i < l.length := by have := H1.out.1; omega
      have l2 : i < m.length := by have := H1.out.2; omega
      have l1I : (i : Int) < (l.length : Int) := by omega
      have l2I : (i : Int) < (m.length : Int) := by omega
      obtain ⟨b, o, rfl, hb, x0, x1, x2⟩ := HL.out.1.nth l1
      obtain ⟨b2, o2, rfl, hb2, y0, y1, y2⟩ := HL.out.2.nth l2
      have HY : Hid (uniB l[i] m[i] = true → ∀ j (h : j < l.length) (h' : j < m.length), j < i + 1 → uniB l[j] m[j] = true) := fun h j hj hj' hji => by
        by_cases e : j = i
        · subst e; exact h
        · exact HI.out.2 j hj hj' (by omega)
      have HN : Hid (uniB l[i] m[i] = false → fitB uniB l m = false) := fun h => fitB_no H1.out.1 H1.out.2 l1 l2 h
      obtain ⟨⟨k, r, s⟩, hx⟩ : ∃ x, l[i] = x := ⟨_, rfl⟩
      obtain ⟨⟨k', r', s'⟩, hy⟩ : ∃ y, m[i] = y := ⟨_, rfl⟩
      simp only [hx] at x0 x1 x2
      simp only [hy] at y0 y1 y2
      rw [hx, hy] at HY HN
      have HX : Hid (∀ Z, Below w.heap.size w Z → (Z.cell? ⟨b, o + i * 3, none⟩ = some (.int .i64 k) ∧ Z.cell? ⟨b, o + i * 3 + 1, none⟩ = some (.int .i64 r) ∧ Z.cell? ⟨b, o + i * 3 + 2, none⟩ = some (.string s)) ∧ Z.cell? ⟨b2, o2 + i * 3, none⟩ = some (.int .i64 k') ∧ Z.cell? ⟨b2, o2 + i * 3 + 1, none⟩ = some (.int .i64 r') ∧ Z.cell? ⟨b2, o2 + i * 3 + 2, none⟩ = some (.string s')) := fun Z hZ => ⟨⟨kc hZ hb x0, kc hZ hb x1, kc hZ hb x2⟩, kc hZ hb2 y0, kc hZ hb2 y1, kc hZ hb2 y2⟩
      obtain ⟨Wd, hWd⟩ : ∃ X, wr.drew = X := ⟨_, rfl⟩
      have hd : Below wr.heap.size wr Wd := by rw [← hWd]; exact (Below.refl _ wr).drew
      have HD : Hid (Below w.heap.size w Wd) := HI.out.1.trans (hd.mono HI.out.1.size)
      clear hb hb2 x0 x1 x2 y0 y1 y2 hx hy l1 l2 hd HI HL
      go_wp2
      refine wp_region_held_drew (S := fun Z => Below w.heap.size w Z) (by kernel_rfl) (by rw [hWd]; exact HD.out) (fun hHeld => ?_)
      rw [hWd] at hHeld ⊢
      refine take_mk 0 (.slice (some ⟨b, o, none⟩) l.length c1) rfl (by kernel_rfl) (by kernel_rfl) (by kernel_rfl) (fun _ _ _ h => h) (Or.inl ⟨by rfl, fun Z hZ => by go_simp⟩) (by assumption) ?_
      try simp only [Act.put, List.setIfInBounds_toArray, List.set_cons_zero, List.set_cons_succ]
      refine take_mk 1 (.int .i64 (i : Int)) rfl (by kernel_rfl) (by kernel_rfl) (by kernel_rfl) (fun _ _ _ h => h) (Or.inl ⟨by rfl, fun Z hZ => by go_simp⟩) (by assumption) ?_
      try simp only [Act.put, List.setIfInBounds_toArray, List.set_cons_zero, List.set_cons_succ]
      refine take_mk 2 (.pointer (some ⟨b, o + i * 3, none⟩)) rfl (by kernel_rfl) (by kernel_rfl) (by kernel_rfl) (fun _ _ _ h => h) (Or.inl ⟨by rfl, fun Z hZ => by go_simp⟩) (by assumption) ?_
      try simp only [Act.put, List.setIfInBounds_toArray, List.set_cons_zero, List.set_cons_succ]
      refine take_mk 3 (fval ⟨k, r, s⟩) rfl (by kernel_rfl) (by kernel_rfl) (by kernel_rfl) (fun _ _ _ h => h) (Or.inl ⟨by rfl, fun Z hZ => by obtain ⟨⟨y0, y1, y2⟩, _⟩ := HX.out Z hZ; go_simp⟩) (by assumption) ?_
      try simp only [Act.put, List.setIfInBounds_toArray, List.set_cons_zero, List.set_cons_succ]
      refine take_mk 4 (.slice (some ⟨b2, o2, none⟩) m.length c2) rfl (by kernel_rfl) (by kernel_rfl) (by kernel_rfl) (fun _ _ _ h => h) (Or.inl ⟨by rfl, fun Z hZ => by go_simp⟩) (by assumption) ?_
      try simp only [Act.put, List.setIfInBounds_toArray, List.set_cons_zero, List.set_cons_succ]
      refine take_mk 5 (.int .i64 (i : Int)) rfl (by kernel_rfl) (by kernel_rfl) (by kernel_rfl) (fun _ _ _ h => h) (Or.inl ⟨by rfl, fun Z hZ => by go_simp⟩) (by assumption) ?_
      try simp only [Act.put, List.setIfInBounds_toArray, List.set_cons_zero, List.set_cons_succ]
      refine take_mk 6 (.pointer (some ⟨b2, o2 + i * 3, none⟩)) rfl (by kernel_rfl) (by kernel_rfl) (by kernel_rfl) (fun _ _ _ h => h) (Or.inl ⟨by rfl, fun Z hZ => by go_simp⟩) (by assumption) ?_
      try simp only [Act.put, List.setIfInBounds_toArray, List.set_cons_zero, List.set_cons_succ]
      refine take_mk 7 (fval ⟨k', r', s'⟩) rfl (by kernel_rfl) (by kernel_rfl) (by kernel_rfl) (fun _ _ _ h => h) (Or.inl ⟨by rfl, fun Z hZ => by obtain ⟨_, y0, y1, y2⟩ := HX.out Z hZ; go_simp⟩) (by assumption) ?_
      try simp only [Act.put, List.setIfInBounds_toArray, List.set_cons_zero, List.set_cons_succ]
      obtain ⟨V1, hV1⟩ : ∃ X, Wd.alloc (.cells #[.int .i64 0, .int .i64 0, .string ⟨#[]⟩] 64) = X := ⟨_, rfl⟩
      obtain ⟨V2, hV2⟩ : ∃ X, V1.alloc (.cells #[.int .i64 0, .int .i64 0, .string ⟨#[]⟩] 64) = X := ⟨_, rfl⟩
      have q1 : Below Wd.heap.size Wd V1 := by rw [← hV1]; exact below_box _ _
      have q2 : Below V1.heap.size V1 V2 := by rw [← hV2]; exact below_box _ _
      obtain ⟨n0, hn0⟩ : ∃ n, Wd.heap.size = n := ⟨_, rfl⟩
      have hn1 : V1.heap.size = n0 + 1 := by rw [← hV1]; simp [hn0]
      have hn2 : V2.heap.size = n0 + 2 := by rw [← hV2]; simp [hn1]
      have B1 : Below w.heap.size w V1 := HD.out.trans (q1.mono HD.out.size)
      have B2 : Below w.heap.size w V2 := B1.trans (q2.mono B1.size)
      have hw0 : w.heap.size ≤ n0 := by have := HD.out.size; omega
      have Z0 : V2.heap[n0]? = some (.cells #[.int .i64 0, .int .i64 0, .string ⟨#[]⟩] 64 (0, 0)) := by rw [q2.block _ (by omega), ← hV1, ← hn0]; exact (MapKept.heap_alloc _ _).1
      have Z1 : V2.heap[n0 + 1]? = some (.cells #[.int .i64 0, .int .i64 0, .string ⟨#[]⟩] 64 (0, 0)) := by rw [← hV2, ← hn1]; exact (MapKept.heap_alloc _ _).1
      clear q1 q2
      refine wpAnyH_ready (rs := [8, 9]) (by kernel_rfl) (by simp) (AllReadyH.cons (o := ⟨_, _, _, _, _, _⟩) rfl (fun K hK => ?_) (AllReadyH.cons (o := ⟨_, _, _, _, _, _⟩) rfl (fun K hK => ?_) AllReadyH.nil))
      · rw [if_pos (by rfl)]
        go_simp
        try rw [hV1]
        refine hK.out _ _ B1 (fun _ => ?_)
        clear hK K
        try simp only [Act.put, List.setIfInBounds_toArray, List.set_cons_zero, List.set_cons_succ]
        refine wpAnyH_ready (rs := [9]) (by kernel_rfl) (by simp) (AllReadyH.cons (o := ⟨_, _, _, _, _, _⟩) rfl (fun K hK => ?_) AllReadyH.nil)
        rw [if_pos (by rfl)]
        go_simp
        try rw [hV2]
        refine hK.out _ _ B2 (fun _ => ?_)
        clear hK K
        try simp only [Act.put, List.setIfInBounds_toArray, List.set_cons_zero, List.set_cons_succ]
        try rw [hn0]
        try rw [hn1]
        obtain ⟨V3, hrun3, hx3, hon3⟩ := agg_store 64 V2 n0 #[.int .i64 0, .int .i64 0, .string ⟨#[]⟩] (fcs ⟨k, r, s⟩) Z0 rfl Try.info64z (ones3 _)
        obtain ⟨W9, hrun4, hx4, hon4⟩ := agg_store 64 V3 (n0 + 1) #[.int .i64 0, .int .i64 0, .string ⟨#[]⟩] (fcs ⟨k', r', s'⟩) (by rw [hon3.block _ (by omega) (by simp)]; exact Z1) rfl Try.info64z (ones3 _)
        have B3 : Below w.heap.size w V3 := B2.trans (hon3.below B2.size (by simp; omega))
        have B9 : Below w.heap.size w W9 := B3.trans (hon4.below B3.size (by simp; omega))
        refine wpAnyH_ready (rs := [10]) (by kernel_rfl) (by simp) (AllReadyH.cons (o := ⟨_, _, _, _, _, _⟩) rfl (fun K hK => ?_) AllReadyH.nil)
        rw [if_pos (by rfl)]
        refine wp_store_run 64 _ _ rfl (.pointer (some ⟨n0, 0, none⟩)) (fval ⟨k, r, s⟩) rfl rfl hrun3 ?_
        refine hK.out _ _ B3 (fun _ => ?_)
        clear hK K
        refine wpAnyH_ready (rs := [11]) (by kernel_rfl) (by simp) (AllReadyH.cons (o := ⟨_, _, _, _, _, _⟩) rfl (fun K hK => ?_) AllReadyH.nil)
        rw [if_pos (by rfl)]
        refine wp_store_run 64 _ _ rfl (.pointer (some ⟨n0 + 1, 0, none⟩)) (fval ⟨k', r', s'⟩) rfl rfl hrun4 ?_
        refine hK.out _ _ B9 (fun _ => ?_)
        clear hK K
        refine wpAnyH_done (by kernel_rfl) ?_ _
        try simp only [Act.put]
        have hx9 : W9.heap[n0]? = some (.cells (fcs ⟨k, r, s⟩).toArray 64 (0, 0)) := by rw [hon4.block _ (Array.getElem?_eq_some_iff.1 hx3).1 (by simp)]; exact hx3
        have lp := (Array.getElem?_eq_some_iff.1 hx9).1
        have lq := (Array.getElem?_eq_some_iff.1 hx4).1
        have HC : Hid (∀ Z, Below W9.heap.size W9 Z → (Z.cell? ⟨n0, 0, none⟩ = some (.int .i64 k) ∧ Z.cell? ⟨n0, 1, none⟩ = some (.int .i64 r) ∧ Z.cell? ⟨n0, 2, none⟩ = some (.string s)) ∧ Z.cell? ⟨(n0 + 1), 0, none⟩ = some (.int .i64 k') ∧ Z.cell? ⟨(n0 + 1), 1, none⟩ = some (.int .i64 r') ∧ Z.cell? ⟨(n0 + 1), 2, none⟩ = some (.string s')) := fun Z hZ =>
          ⟨⟨kc hZ lp (cell_store hx9 rfl), kc hZ lp (cell_store hx9 rfl), kc hZ lp (cell_store hx9 rfl)⟩, kc hZ lq (cell_store hx4 rfl), kc hZ lq (cell_store hx4 rfl), kc hZ lq (cell_store hx4 rfl)⟩
        have HB9 : Hid (Below w.heap.size w W9) := B9
        clear B1 B2 B3 B9 hrun3 hrun4 hx3 hx4 hon3 hon4 hx9 lp lq Z0 Z1 hV1 hV2 hn0 hn1 hHeld HX HD
        cases e1 : knownB ⟨k, r, s⟩
        · have HNo : Hid (fitB uniB l m = false) := HN.out (by simp [uniB, e1, Bool.false_eq_true])
          have hk1 : Calls Try.prog 36 #[fval ⟨k, r, s⟩] W9 fun e Z' => e = .returned (.bool false) ∧ Below W9.heap.size W9 Z' := by have := rknown_any ⟨k, r, s⟩ W9; rw [e1] at this; exact this
          obtain ⟨⟨u0, u1, u2⟩, v0, v1, v2⟩ := HC.out W9 (Below.refl _ _)
          clear e1
          go_wp2_with fail
          refine hk1.mono ?_
          rintro e W10 ⟨rfl, b10⟩
          have HBf : Hid (Below w.heap.size w W10) := HB9.out.trans (b10.mono HB9.out.size)
          go_wp2
          go_ret
          exact ⟨ret_bool HNo.out.symm, HBf.out⟩
        have hk1 : Calls Try.prog 36 #[fval ⟨k, r, s⟩] W9 fun e Z' => e = .returned (.bool true) ∧ Below W9.heap.size W9 Z' := by have := rknown_any ⟨k, r, s⟩ W9; rw [e1] at this; exact this
        have e1k : 1 ≤ k ∧ k ≤ 4 := by simpa [knownB] using e1
        obtain ⟨⟨u0, u1, u2⟩, v0, v1, v2⟩ := HC.out W9 (Below.refl _ _)
        go_wp2_with fail
        refine hk1.mono ?_
        rintro e W10 ⟨rfl, b10⟩
        obtain ⟨⟨x0, x1, x2⟩, y0, y1, y2⟩ := HC.out W10 b10
        have HB10 : Hid (Below w.heap.size w W10) := HB9.out.trans (b10.mono HB9.out.size)
        clear hk1 u0 u1 u2 v0 v1 v2
        cases e2 : knownB ⟨k', r', s'⟩
        · have HNo : Hid (fitB uniB l m = false) := HN.out (by simp [uniB, e2])
          have hk2 : Calls Try.prog 36 #[fval ⟨k', r', s'⟩] W10 fun e Z' => e = .returned (.bool false) ∧ Below W10.heap.size W10 Z' := by have := rknown_any ⟨k', r', s'⟩ W10; rw [e2] at this; exact this
          clear e1 e2 e1k
          go_wp2_with fail
          refine hk2.mono ?_
          rintro e W11 ⟨rfl, b11⟩
          have HBf : Hid (Below w.heap.size w W11) := HB10.out.trans (b11.mono HB10.out.size)
          go_wp2
          go_ret
          exact ⟨ret_bool HNo.out.symm, HBf.out⟩
        have hk2 : Calls Try.prog 36 #[fval ⟨k', r', s'⟩] W10 fun e Z' => e = .returned (.bool true) ∧ Below W10.heap.size W10 Z' := by have := rknown_any ⟨k', r', s'⟩ W10; rw [e2] at this; exact this
        have e2k : 1 ≤ k' ∧ k' ≤ 4 := by simpa [knownB] using e2
        go_wp2_with fail
        refine hk2.mono ?_
        rintro e W11 ⟨rfl, b11⟩
        obtain ⟨⟨u0, u1, u2⟩, v0, v1, v2⟩ := HC.out W11 (b10.trans (b11.mono b10.size))
        have HBf : Hid (Below w.heap.size w W11) := HB10.out.trans (b11.mono HB10.out.size)
        clear x0 x1 x2 y0 y1 y2 hk2 b10 b11 HC HB10 e1 e2
        have hka : k = 1 ∨ k = 2 ∨ k = 3 ∨ k = 4 := by omega
        have hkb : k' = 1 ∨ k' = 2 ∨ k' = 3 ∨ k' = 4 := by omega
        clear e1k e2k
        rcases hka with rfl | rfl | rfl | rfl
        · rcases hkb with rfl | rfl | rfl | rfl
          · by_cases hr : r = r'
            · subst hr
              by_cases hs : s = s'
              · subst hs
                have HYes : Hid (∀ j (h : j < l.length) (h' : j < m.length), j < i + 1 → uniB l[j] m[j] = true) := HY.out (by simp [uniB, knownB, fteq])
                clear HY HN
                go_wp2
                go_roundw
                case rel => exact ⟨i + 1, by go_num, by omega, HBf.out, HYes.out⟩
                case measure => simp [intOf]; omega
              · have HNo : Hid (fitB uniB l m = false) := HN.out (by simp [uniB, knownB, fteq, hs])
                have hs2 : ¬ s.toList = s'.toList := fun e => hs (ba_toList_inj.1 e)
                clear HY HN
                go_wp2
                go_ret
                exact ⟨ret_bool HNo.out.symm, HBf.out⟩
            · have HNo : Hid (fitB uniB l m = false) := HN.out (by simp [uniB, knownB, fteq, hr])
              clear HY HN
              go_wp2
              go_ret
              exact ⟨ret_bool HNo.out.symm, HBf.out⟩
          · have HYes : Hid (∀ j (h : j < l.length) (h' : j < m.length), j < i + 1 → uniB l[j] m[j] = true) := HY.out (by simp [uniB, knownB])
            clear HY HN
            go_wp2
            go_roundw
            case rel => exact ⟨i + 1, by go_num, by omega, HBf.out, HYes.out⟩
            case measure => simp [intOf]; omega
          · have HYes : Hid (∀ j (h : j < l.length) (h' : j < m.length), j < i + 1 → uniB l[j] m[j] = true) := HY.out (by simp [uniB, knownB])
            clear HY HN
            go_wp2
            go_roundw
            case rel => exact ⟨i + 1, by go_num, by omega, HBf.out, HYes.out⟩
            case measure => simp [intOf]; omega
          · have HNo : Hid (fitB uniB l m = false) := HN.out (by simp [uniB, knownB, fteq])
            clear HY HN
            go_wp2
            go_ret
            exact ⟨ret_bool HNo.out.symm, HBf.out⟩
        · rcases hkb with rfl | rfl | rfl | rfl
          · have HYes : Hid (∀ j (h : j < l.length) (h' : j < m.length), j < i + 1 → uniB l[j] m[j] = true) := HY.out (by simp [uniB, knownB])
            clear HY HN
            go_wp2
            go_roundw
            case rel => exact ⟨i + 1, by go_num, by omega, HBf.out, HYes.out⟩
            case measure => simp [intOf]; omega
          · have HYes : Hid (∀ j (h : j < l.length) (h' : j < m.length), j < i + 1 → uniB l[j] m[j] = true) := HY.out (by simp [uniB, knownB])
            clear HY HN
            go_wp2
            go_roundw
            case rel => exact ⟨i + 1, by go_num, by omega, HBf.out, HYes.out⟩
            case measure => simp [intOf]; omega
          · have HYes : Hid (∀ j (h : j < l.length) (h' : j < m.length), j < i + 1 → uniB l[j] m[j] = true) := HY.out (by simp [uniB, knownB])
            clear HY HN
            go_wp2
            go_roundw
            case rel => exact ⟨i + 1, by go_num, by omega, HBf.out, HYes.out⟩
            case measure => simp [intOf]; omega
          · have HNo : Hid (fitB uniB l m = false) := HN.out (by simp [uniB, knownB])
            clear HY HN
            go_wp2
            go_ret
            exact ⟨ret_bool HNo.out.symm, HBf.out⟩
        · rcases hkb with rfl | rfl | rfl | rfl
          · have HYes : Hid (∀ j (h : j < l.length) (h' : j < m.length), j < i + 1 → uniB l[j] m[j] = true) := HY.out (by simp [uniB, knownB])
            clear HY HN
            go_wp2
            go_roundw
            case rel => exact ⟨i + 1, by go_num, by omega, HBf.out, HYes.out⟩
            case measure => simp [intOf]; omega
          · have HYes : Hid (∀ j (h : j < l.length) (h' : j < m.length), j < i + 1 → uniB l[j] m[j] = true) := HY.out (by simp [uniB, knownB])
            clear HY HN
            go_wp2
            go_roundw
            case rel => exact ⟨i + 1, by go_num, by omega, HBf.out, HYes.out⟩
            case measure => simp [intOf]; omega
          · have HYes : Hid (∀ j (h : j < l.length) (h' : j < m.length), j < i + 1 → uniB l[j] m[j] = true) := HY.out (by simp [uniB, knownB])
            clear HY HN
            go_wp2
            go_roundw
            case rel => exact ⟨i + 1, by go_num, by omega, HBf.out, HYes.out⟩
            case measure => simp [intOf]; omega
          · have HYes : Hid (∀ j (h : j < l.length) (h' : j < m.length), j < i + 1 → uniB l[j] m[j] = true) := HY.out (by simp [uniB, knownB])
            clear HY HN
            go_wp2
            go_roundw
            case rel => exact ⟨i + 1, by go_num, by omega, HBf.out, HYes.out⟩
            case measure => simp [intOf]; omega
        · rcases hkb with rfl | rfl | rfl | rfl
          · have HNo : Hid (fitB uniB l m = false) := HN.out (by simp [uniB, knownB])
            clear HY HN
            go_wp2
            go_ret
            exact ⟨ret_bool HNo.out.symm, HBf.out⟩
          · have HNo : Hid (fitB uniB l m = false) := HN.out (by simp [uniB, knownB])
            clear HY HN
            go_wp2
            go_ret
            exact ⟨ret_bool HNo.out.symm, HBf.out⟩
          · have HYes : Hid (∀ j (h : j < l.length) (h' : j < m.length), j < i + 1 → uniB l[j] m[j] = true) := HY.out (by simp [uniB, knownB])
            clear HY HN
            go_wp2
            go_roundw
            case rel => exact ⟨i + 1, by go_num, by omega, HBf.out, HYes.out⟩
            case measure => simp [intOf]; omega
          · have HYes : Hid (∀ j (h : j < l.length) (h' : j < m.length), j < i + 1 → uniB l[j] m[j] = true) := HY.out (by simp [uniB, knownB])
            clear HY HN
            go_wp2
            go_roundw
            case rel => exact ⟨i + 1, by go_num, by omega, HBf.out, HYes.out⟩
            case measure => simp [intOf]; omega
      · rw [if_pos (by rfl)]
        go_simp
        try rw [hV1]
        refine hK.out _ _ B1 (fun _ => ?_)
        clear hK K
        try simp only [Act.put, List.setIfInBounds_toArray, List.set_cons_zero, List.set_cons_succ]
        refine wpAnyH_ready (rs := [8]) (by kernel_rfl) (by simp) (AllReadyH.cons (o := ⟨_, _, _, _, _, _⟩) rfl (fun K hK => ?_) AllReadyH.nil)
        rw [if_pos (by rfl)]
        go_simp
        try rw [hV2]
        refine hK.out _ _ B2 (fun _ => ?_)
        clear hK K
        try simp only [Act.put, List.setIfInBounds_toArray, List.set_cons_zero, List.set_cons_succ]
        try rw [hn0]
        try rw [hn1]
        obtain ⟨V3, hrun3, hx3, hon3⟩ := agg_store 64 V2 (n0 + 1) #[.int .i64 0, .int .i64 0, .string ⟨#[]⟩] (fcs ⟨k, r, s⟩) Z1 rfl Try.info64z (ones3 _)
        obtain ⟨W9, hrun4, hx4, hon4⟩ := agg_store 64 V3 n0 #[.int .i64 0, .int .i64 0, .string ⟨#[]⟩] (fcs ⟨k', r', s'⟩) (by rw [hon3.block _ (by omega) (by simp)]; exact Z0) rfl Try.info64z (ones3 _)
        have B3 : Below w.heap.size w V3 := B2.trans (hon3.below B2.size (by simp; omega))
        have B9 : Below w.heap.size w W9 := B3.trans (hon4.below B3.size (by simp; omega))
        refine wpAnyH_ready (rs := [10]) (by kernel_rfl) (by simp) (AllReadyH.cons (o := ⟨_, _, _, _, _, _⟩) rfl (fun K hK => ?_) AllReadyH.nil)
        rw [if_pos (by rfl)]
        refine wp_store_run 64 _ _ rfl (.pointer (some ⟨n0 + 1, 0, none⟩)) (fval ⟨k, r, s⟩) rfl rfl hrun3 ?_
        refine hK.out _ _ B3 (fun _ => ?_)
        clear hK K
        refine wpAnyH_ready (rs := [11]) (by kernel_rfl) (by simp) (AllReadyH.cons (o := ⟨_, _, _, _, _, _⟩) rfl (fun K hK => ?_) AllReadyH.nil)
        rw [if_pos (by rfl)]
        refine wp_store_run 64 _ _ rfl (.pointer (some ⟨n0, 0, none⟩)) (fval ⟨k', r', s'⟩) rfl rfl hrun4 ?_
        refine hK.out _ _ B9 (fun _ => ?_)
        clear hK K
        refine wpAnyH_done (by kernel_rfl) ?_ _
        try simp only [Act.put]
        have hx9 : W9.heap[(n0 + 1)]? = some (.cells (fcs ⟨k, r, s⟩).toArray 64 (0, 0)) := by rw [hon4.block _ (Array.getElem?_eq_some_iff.1 hx3).1 (by simp)]; exact hx3
        have lp := (Array.getElem?_eq_some_iff.1 hx9).1
        have lq := (Array.getElem?_eq_some_iff.1 hx4).1
        have HC : Hid (∀ Z, Below W9.heap.size W9 Z → (Z.cell? ⟨(n0 + 1), 0, none⟩ = some (.int .i64 k) ∧ Z.cell? ⟨(n0 + 1), 1, none⟩ = some (.int .i64 r) ∧ Z.cell? ⟨(n0 + 1), 2, none⟩ = some (.string s)) ∧ Z.cell? ⟨n0, 0, none⟩ = some (.int .i64 k') ∧ Z.cell? ⟨n0, 1, none⟩ = some (.int .i64 r') ∧ Z.cell? ⟨n0, 2, none⟩ = some (.string s')) := fun Z hZ =>
          ⟨⟨kc hZ lp (cell_store hx9 rfl), kc hZ lp (cell_store hx9 rfl), kc hZ lp (cell_store hx9 rfl)⟩, kc hZ lq (cell_store hx4 rfl), kc hZ lq (cell_store hx4 rfl), kc hZ lq (cell_store hx4 rfl)⟩
        have HB9 : Hid (Below w.heap.size w W9) := B9
        clear B1 B2 B3 B9 hrun3 hrun4 hx3 hx4 hon3 hon4 hx9 lp lq Z0 Z1 hV1 hV2 hn0 hn1 hHeld HX HD
        cases e1 : knownB ⟨k, r, s⟩
        · have HNo : Hid (fitB uniB l m = false) := HN.out (by simp [uniB, e1, Bool.false_eq_true])
          have hk1 : Calls Try.prog 36 #[fval ⟨k, r, s⟩] W9 fun e Z' => e = .returned (.bool false) ∧ Below W9.heap.size W9 Z' := by have := rknown_any ⟨k, r, s⟩ W9; rw [e1] at this; exact this
          obtain ⟨⟨u0, u1, u2⟩, v0, v1, v2⟩ := HC.out W9 (Below.refl _ _)
          clear e1
          go_wp2_with fail
          refine hk1.mono ?_
          rintro e W10 ⟨rfl, b10⟩
          have HBf : Hid (Below w.heap.size w W10) := HB9.out.trans (b10.mono HB9.out.size)
          go_wp2
          go_ret
          exact ⟨ret_bool HNo.out.symm, HBf.out⟩
        have hk1 : Calls Try.prog 36 #[fval ⟨k, r, s⟩] W9 fun e Z' => e = .returned (.bool true) ∧ Below W9.heap.size W9 Z' := by have := rknown_any ⟨k, r, s⟩ W9; rw [e1] at this; exact this
        have e1k : 1 ≤ k ∧ k ≤ 4 := by simpa [knownB] using e1
        obtain ⟨⟨u0, u1, u2⟩, v0, v1, v2⟩ := HC.out W9 (Below.refl _ _)
        go_wp2_with fail
        refine hk1.mono ?_
        rintro e W10 ⟨rfl, b10⟩
        obtain ⟨⟨x0, x1, x2⟩, y0, y1, y2⟩ := HC.out W10 b10
        have HB10 : Hid (Below w.heap.size w W10) := HB9.out.trans (b10.mono HB9.out.size)
        clear hk1 u0 u1 u2 v0 v1 v2
        cases e2 : knownB ⟨k', r', s'⟩
        · have HNo : Hid (fitB uniB l m = false) := HN.out (by simp [uniB, e2])
          have hk2 : Calls Try.prog 36 #[fval ⟨k', r', s'⟩] W10 fun e Z' => e = .returned (.bool false) ∧ Below W10.heap.size W10 Z' := by have := rknown_any ⟨k', r', s'⟩ W10; rw [e2] at this; exact this
          clear e1 e2 e1k
          go_wp2_with fail
          refine hk2.mono ?_
          rintro e W11 ⟨rfl, b11⟩
          have HBf : Hid (Below w.heap.size w W11) := HB10.out.trans (b11.mono HB10.out.size)
          go_wp2
          go_ret
          exact ⟨ret_bool HNo.out.symm, HBf.out⟩
        have hk2 : Calls Try.prog 36 #[fval ⟨k', r', s'⟩] W10 fun e Z' => e = .returned (.bool true) ∧ Below W10.heap.size W10 Z' := by have := rknown_any ⟨k', r', s'⟩ W10; rw [e2] at this; exact this
        have e2k : 1 ≤ k' ∧ k' ≤ 4 := by simpa [knownB] using e2
        go_wp2_with fail
        refine hk2.mono ?_
        rintro e W11 ⟨rfl, b11⟩
        obtain ⟨⟨u0, u1, u2⟩, v0, v1, v2⟩ := HC.out W11 (b10.trans (b11.mono b10.size))
        have HBf : Hid (Below w.heap.size w W11) := HB10.out.trans (b11.mono HB10.out.size)
        clear x0 x1 x2 y0 y1 y2 hk2 b10 b11 HC HB10 e1 e2
        have hka : k = 1 ∨ k = 2 ∨ k = 3 ∨ k = 4 := by omega
        have hkb : k' = 1 ∨ k' = 2 ∨ k' = 3 ∨ k' = 4 := by omega
        clear e1k e2k
        rcases hka with rfl | rfl | rfl | rfl
        · rcases hkb with rfl | rfl | rfl | rfl
          · by_cases hr : r = r'
            · subst hr
              by_cases hs : s = s'
              · subst hs
                have HYes : Hid (∀ j (h : j < l.length) (h' : j < m.length), j < i + 1 → uniB l[j] m[j] = true) := HY.out (by simp [uniB, knownB, fteq])
                clear HY HN
                go_wp2
                go_roundw
                case rel => exact ⟨i + 1, by go_num, by omega, HBf.out, HYes.out⟩
                case measure => simp [intOf]; omega
              · have HNo : Hid (fitB uniB l m = false) := HN.out (by simp [uniB, knownB, fteq, hs])
                have hs2 : ¬ s.toList = s'.toList := fun e => hs (ba_toList_inj.1 e)
                clear HY HN
                go_wp2
                go_ret
                exact ⟨ret_bool HNo.out.symm, HBf.out⟩
            · have HNo : Hid (fitB uniB l m = false) := HN.out (by simp [uniB, knownB, fteq, hr])
              clear HY HN
              go_wp2
              go_ret
              exact ⟨ret_bool HNo.out.symm, HBf.out⟩
          · have HYes : Hid (∀ j (h : j < l.length) (h' : j < m.length), j < i + 1 → uniB l[j] m[j] = true) := HY.out (by simp [uniB, knownB])
            clear HY HN
            go_wp2
            go_roundw
            case rel => exact ⟨i + 1, by go_num, by omega, HBf.out, HYes.out⟩
            case measure => simp [intOf]; omega
          · have HYes : Hid (∀ j (h : j < l.length) (h' : j < m.length), j < i + 1 → uniB l[j] m[j] = true) := HY.out (by simp [uniB, knownB])
            clear HY HN
            go_wp2
            go_roundw
            case rel => exact ⟨i + 1, by go_num, by omega, HBf.out, HYes.out⟩
            case measure => simp [intOf]; omega
          · have HNo : Hid (fitB uniB l m = false) := HN.out (by simp [uniB, knownB, fteq])
            clear HY HN
            go_wp2
            go_ret
            exact ⟨ret_bool HNo.out.symm, HBf.out⟩
        · rcases hkb with rfl | rfl | rfl | rfl
          · have HYes : Hid (∀ j (h : j < l.length) (h' : j < m.length), j < i + 1 → uniB l[j] m[j] = true) := HY.out (by simp [uniB, knownB])
            clear HY HN
            go_wp2
            go_roundw
            case rel => exact ⟨i + 1, by go_num, by omega, HBf.out, HYes.out⟩
            case measure => simp [intOf]; omega
          · have HYes : Hid (∀ j (h : j < l.length) (h' : j < m.length), j < i + 1 → uniB l[j] m[j] = true) := HY.out (by simp [uniB, knownB])
            clear HY HN
            go_wp2
            go_roundw
            case rel => exact ⟨i + 1, by go_num, by omega, HBf.out, HYes.out⟩
            case measure => simp [intOf]; omega
          · have HYes : Hid (∀ j (h : j < l.length) (h' : j < m.length), j < i + 1 → uniB l[j] m[j] = true) := HY.out (by simp [uniB, knownB])
            clear HY HN
            go_wp2
            go_roundw
            case rel => exact ⟨i + 1, by go_num, by omega, HBf.out, HYes.out⟩
            case measure => simp [intOf]; omega
          · have HNo : Hid (fitB uniB l m = false) := HN.out (by simp [uniB, knownB])
            clear HY HN
            go_wp2
            go_ret
            exact ⟨ret_bool HNo.out.symm, HBf.out⟩
        · rcases hkb with rfl | rfl | rfl | rfl
          · have HYes : Hid (∀ j (h : j < l.length) (h' : j < m.length), j < i + 1 → uniB l[j] m[j] = true) := HY.out (by simp [uniB, knownB])
            clear HY HN
            go_wp2
            go_roundw
            case rel => exact ⟨i + 1, by go_num, by omega, HBf.out, HYes.out⟩
            case measure => simp [intOf]; omega
          · have HYes : Hid (∀ j (h : j < l.length) (h' : j < m.length), j < i + 1 → uniB l[j] m[j] = true) := HY.out (by simp [uniB, knownB])
            clear HY HN
            go_wp2
            go_roundw
            case rel => exact ⟨i + 1, by go_num, by omega, HBf.out, HYes.out⟩
            case measure => simp [intOf]; omega
          · have HYes : Hid (∀ j (h : j < l.length) (h' : j < m.length), j < i + 1 → uniB l[j] m[j] = true) := HY.out (by simp [uniB, knownB])
            clear HY HN
            go_wp2
            go_roundw
            case rel => exact ⟨i + 1, by go_num, by omega, HBf.out, HYes.out⟩
            case measure => simp [intOf]; omega
          · have HYes : Hid (∀ j (h : j < l.length) (h' : j < m.length), j < i + 1 → uniB l[j] m[j] = true) := HY.out (by simp [uniB, knownB])
            clear HY HN
            go_wp2
            go_roundw
            case rel => exact ⟨i + 1, by go_num, by omega, HBf.out, HYes.out⟩
            case measure => simp [intOf]; omega
        · rcases hkb with rfl | rfl | rfl | rfl
          · have HNo : Hid (fitB uniB l m = false) := HN.out (by simp [uniB, knownB])
            clear HY HN
            go_wp2
            go_ret
            exact ⟨ret_bool HNo.out.symm, HBf.out⟩
          · have HNo : Hid (fitB uniB l m = false) := HN.out (by simp [uniB, knownB])
            clear HY HN
            go_wp2
            go_ret
            exact ⟨ret_bool HNo.out.symm, HBf.out⟩
          · have HYes : Hid (∀ j (h : j < l.length) (h' : j < m.length), j < i + 1 → uniB l[j] m[j] = true) := HY.out (by simp [uniB, knownB])
            clear HY HN
            go_wp2
            go_roundw
            case rel => exact ⟨i + 1, by go_num, by omega, HBf.out, HYes.out⟩
            case measure => simp [intOf]; omega
          · have HYes : Hid (∀ j (h : j < l.length) (h' : j < m.length), j < i + 1 → uniB l[j] m[j] = true) := HY.out (by simp [uniB, knownB])
            clear HY HN
            go_wp2
            go_roundw
            case rel => exact ⟨i + 1, by go_num, by omega, HBf.out, HYes.out⟩
            case measure => simp [intOf]; omega
    · have hiI : ¬ (i : Int) < 4 := by omega
      have HV : Hid (fitB uniB l m = true) := (fitB_all H1.out.1 H1.out.2).2 (fun j h h' => HI.out.2 j h h' (by have := H1.out.1; omega))
      have HBr : Hid (Below w.heap.size w wr) := HI.out.1
      clear HI
      go_wp2
      go_ret
      exact ⟨ret_bool HV.out.symm, HBr.out⟩

end Go.Proofs.Ytiklbkkimmgbcaa
