/-
  FingerMisses: the walk.
-/
import Derived.Test.YtiklbkkimmgbcaaJA
import Derived.Test.YtiklbkkimmgbcaaJB
import Derived.Test.YtiklbkkimmgbcaaFN
namespace Go.Proofs.Ytiklbkkimmgbcaa
open Go.RowKit

set_option maxRecDepth 100000 in
set_option maxHeartbeats 32000000 in
theorem lawmisses_any (a b : T) (sp st : Value) (W : World) (hp : ArgsAt W sp a.args) (ht : ArgsAt W st b.args) (hsz : a.size + b.size ≤ 1048576) :
    Calls Try.prog 6 #[tval a sp, tval b st] W fun e w' => e = .returned (.bool true) ∧ Below W.heap.size W w' := by
  obtain ⟨pa, pc, rfl, _, _⟩ := hp.slice
  obtain ⟨ta, tc, rfl, _, _⟩ := ht.slice
  obtain ⟨W2, h2⟩ : ∃ X, (W.alloc (.cells #[.int .i64 a.v, .string a.fn, .slice pa a.args.length pc] 24)).alloc (.cells #[.int .i64 b.v, .string b.fn, .slice ta b.args.length tc] 24) = X := ⟨_, rfl⟩
  have b2 : Below W.heap.size W W2 := by rw [← h2]; exact below_box2 W _ _
  have q0 : W2.heap[W.heap.size]? = some (.cells #[.int .i64 a.v, .string a.fn, .slice pa a.args.length pc] 24 (0, 0)) := by
    rw [← h2, (below_box (W.alloc (.cells #[.int .i64 a.v, .string a.fn, .slice pa a.args.length pc] 24)) _).block _ (by simp)]
    exact (MapKept.heap_alloc _ _).1
  have q1 : W2.heap[W.heap.size + 1]? = some (.cells #[.int .i64 b.v, .string b.fn, .slice ta b.args.length tc] 24 (0, 0)) := by
    rw [← h2]
    have := (MapKept.heap_alloc (W.alloc (.cells #[.int .i64 a.v, .string a.fn, .slice pa a.args.length pc] 24)) (.cells #[.int .i64 b.v, .string b.fn, .slice ta b.args.length tc] 24)).1
    simpa using this
  have HX : Hid (∀ Z, Below W2.heap.size W2 Z → (Z.cell? ⟨W.heap.size, 0, none⟩ = some (.int .i64 a.v) ∧ Z.cell? ⟨W.heap.size, 1, none⟩ = some (.string a.fn) ∧ Z.cell? ⟨W.heap.size, 2, none⟩ = some (.slice pa a.args.length pc)) ∧ (Z.cell? ⟨W.heap.size + 1, 0, none⟩ = some (.int .i64 b.v) ∧ Z.cell? ⟨W.heap.size + 1, 1, none⟩ = some (.string b.fn) ∧ Z.cell? ⟨W.heap.size + 1, 2, none⟩ = some (.slice ta b.args.length tc)) ∧ ArgsAt Z (.slice ta b.args.length tc) b.args ∧ ArgsAt Z (.slice pa a.args.length pc) a.args ∧ Below W.heap.size W Z) := fun Z hZ => by
    have hb := b2.trans (hZ.mono b2.size)
    have z0 := (hZ.block _ (Array.getElem?_eq_some_iff.1 q0).1).trans q0
    have z1 := (hZ.block _ (Array.getElem?_eq_some_iff.1 q1).1).trans q1
    exact ⟨⟨cell_at z0 rfl, cell_at z0 rfl, cell_at z0 rfl⟩, ⟨cell_at z1 rfl, cell_at z1 rfl, cell_at z1 rfl⟩, ArgsAt.keep hb (Nat.le_refl _) ht, ArgsAt.keep hb (Nat.le_refl _) hp, hb⟩
  have HE2 : Hid ((W.alloc (.cells #[.int .i64 a.v, .string a.fn, .slice pa a.args.length pc] 24)).alloc (.cells #[.int .i64 b.v, .string b.fn, .slice ta b.args.length tc] 24) = W2) := h2
  have HSz : Hid (a.size + b.size ≤ 1048576) := hsz
  have hc1 := rright_any a (.slice pa a.args.length pc) W2 (HX.out W2 (Below.refl _ _)).2.2.2.1
  have HR2 : Hid (∀ Z, Below W2.heap.size W2 Z → Calls Try.prog 28 #[tval b (.slice ta b.args.length tc)] Z fun e w' => e = .returned (.int .i64 b.rightW) ∧ Below Z.heap.size Z w') := fun Z hZ => rright_any b (.slice ta b.args.length tc) Z (HX.out Z hZ).2.2.1
  clear hp ht hsz h2 b2 q0 q1
  by_cases hra : a.rightW = 0
  · rw [hra] at hc1
    by_cases hrb : b.rightW = 0
    · rw [hrb] at HR2
      have HRa : Hid (a.rightW = 0) := hra
      have HRb : Hid (b.rightW = 0) := hrb
      have HSh : Hid (∀ Z, Below W2.heap.size W2 Z → Calls Try.prog 29 #[tval b (.slice ta b.args.length tc), .int .i64 500000] Z (StP 500000 b W2 Z)) := fun Z hZ => rshift_any W2 500000 (by decide) b hrb (right_shape hrb) (.slice ta b.args.length tc) Z hZ (HX.out W2 (Below.refl _ _)).2.2.1
      clear hra hrb
      go_enter Try.func6, Try.ntmps6
      go_wp2_with fail
      rw [HE2.out]
      clear HE2
      refine hc1.mono ?_
      rintro e W3 ⟨rfl, b3⟩
      obtain ⟨⟨x0, x1, x2⟩, ⟨y0, y1, y2⟩, _, _, _⟩ := HX.out W3 b3
      have hc2 := HR2.out W3 b3
      clear hc1
      go_wp2_with fail
      refine hc2.mono ?_
      rintro e W4 ⟨rfl, b4⟩
      have B4 : Below W2.heap.size W2 W4 := b3.trans (b4.mono b3.size)
      clear x0 x1 x2 y0 y1 y2
      obtain ⟨⟨x0, x1, x2⟩, ⟨y0, y1, y2⟩, _, _, _⟩ := HX.out W4 B4
      have hs4 := HSh.out W4 B4
      have HB4 : Hid (Below W2.heap.size W2 W4) := B4
      clear hc2 b3 b4 B4 HR2 HSh
      go_wp2_with fail
      refine hs4.mono ?_
      intro e W5 hst
      obtain ⟨h51, h52, b5⟩ := hst
      have B5 : Below W2.heap.size W2 W5 := HB4.out.trans (b5.mono HB4.out.size)
      have HB5 : Hid (Below W2.heap.size W2 W5) := B5
      clear hs4 x0 x1 x2 y0 y1 y2
      cases hfi : fineT 500000 b
      · obtain rfl := h52 hfi
        clear h51 h52 b5 B5 hfi
        go_wp2_with fail
        refine (alive_any _).mono ?_
        rintro e Wz ⟨rfl, bz⟩
        go_wp2
        go_ret
        have hbx := below_box W5 (.cells #[.int .i64 0, .string ⟨#[]⟩, .slice none 0 0] 24)
        have hB := HB5.out.trans (hbx.mono HB5.out.size)
        have hW := (HX.out _ hB).2.2.2.2
        exact ⟨rfl, hW.trans (bz.mono hW.size)⟩
      · obtain ⟨ca, cc, rfl, hcP⟩ := h51 hfi
        obtain ⟨r1, r2, r3⟩ := shift_right HRb.out (right_shape HRb.out) hfi
        obtain ⟨C, hC⟩ : ∃ C, b.app (shf 500000) = C := ⟨_, rfl⟩
        rw [hC] at hcP r1 r2 r3 ⊢
        have hcA := hcP.args
        obtain ⟨W6, h6⟩ : ∃ X, W5.alloc (.cells #[.int .i64 C.v, .string C.fn, .slice ca C.args.length cc] 24) = X := ⟨_, rfl⟩
        have b6 : Below W5.heap.size W5 W6 := by rw [← h6]; exact below_box _ _
        have q6 : W6.heap[W5.heap.size]? = some (.cells #[.int .i64 C.v, .string C.fn, .slice ca C.args.length cc] 24 (0, 0)) := by rw [← h6]; exact (MapKept.heap_alloc _ _).1
        have B6 : Below W2.heap.size W2 W6 := B5.trans (b6.mono B5.size)
        have HE6 : Hid (W5.alloc (.cells #[.int .i64 C.v, .string C.fn, .slice ca C.args.length cc] 24) = W6) := h6
        obtain ⟨Bc, hBc⟩ : ∃ n, W5.heap.size = n := ⟨_, rfl⟩
        have HBc : Hid (W5.heap.size = Bc) := hBc
        rw [hBc] at q6
        have HC : Hid (∀ Z, Below W6.heap.size W6 Z → (Z.cell? ⟨Bc, 0, none⟩ = some (.int .i64 C.v) ∧ Z.cell? ⟨Bc, 1, none⟩ = some (.string C.fn) ∧ Z.cell? ⟨Bc, 2, none⟩ = some (.slice ca C.args.length cc)) ∧ ArgsAt Z (.slice ca C.args.length cc) C.args ∧ Below W2.heap.size W2 Z) := fun Z hZ => by
          have z0 := (hZ.block _ (Array.getElem?_eq_some_iff.1 q6).1).trans q6
          exact ⟨⟨cell_at z0 rfl, cell_at z0 rfl, cell_at z0 rfl⟩, ArgsAt.keep (b6.trans (hZ.mono b6.size)) (Nat.le_refl _) hcA, B6.trans (hZ.mono B6.size)⟩
        have HRC : Hid (C.rightW = 0 ∧ a.size + C.size ≤ 1048576 ∧ feats C = feats b) := ⟨r1, by rw [r2]; exact HSz.out, r3⟩
        clear h51 h52 b5 B5 hfi hcP r1 r2 r3 hcA h6 b6 q6 B6 hBc hC HB4 HB5
        go_upto_region 6 with fail
        try rw [HE6.out]
        try rw [HBc.out]
        go_cut [7, 8] from 32 (fun v7 v8 wx => ∃ (a7 : Option Addr) (c7 : Nat) (a8 : Option Addr) (c8 : Nat), v7 = .slice a7 (feats a).length c7 ∧ v8 = .slice a8 (feats b).length c8 ∧ Hid (FtAt wx (.slice a7 (feats a).length c7) (feats a) ∧ FtAt wx (.slice a8 (feats b).length c8) (feats b) ∧ Below W6.heap.size W6 wx))
        case first =>
          obtain ⟨Wd, hWd⟩ : ∃ X, W6.drew = X := ⟨_, rfl⟩
          have hd : Below W6.heap.size W6 Wd := by rw [← hWd]; exact (Below.refl _ W6).drew
          have HL : Hid (∀ Z, Below W6.heap.size W6 Z → ((Z.cell? ⟨W.heap.size, 0, none⟩ = some (.int .i64 a.v) ∧ Z.cell? ⟨W.heap.size, 1, none⟩ = some (.string a.fn) ∧ Z.cell? ⟨W.heap.size, 2, none⟩ = some (.slice pa a.args.length pc)) ∧ (Z.cell? ⟨W.heap.size + 1, 0, none⟩ = some (.int .i64 b.v) ∧ Z.cell? ⟨W.heap.size + 1, 1, none⟩ = some (.string b.fn) ∧ Z.cell? ⟨W.heap.size + 1, 2, none⟩ = some (.slice ta b.args.length tc))) ∧ ArgsAt Z (.slice pa a.args.length pc) a.args ∧ ArgsAt Z (.slice ta b.args.length tc) b.args) := fun Z hZ => by
            obtain ⟨k1, k2, k3, k4, _⟩ := HX.out Z (HC.out Z hZ).2.2
            exact ⟨⟨k1, k2⟩, k4, k3⟩
          refine wp_region_held_drew (S := fun Z => Below W6.heap.size W6 Z) (by kernel_rfl) (by rw [hWd]; exact hd) (fun hHeld => ?_)
          rw [hWd] at hHeld ⊢
          refine take_mk 0 (tval a (.slice pa a.args.length pc)) rfl (by kernel_rfl) (by kernel_rfl) (by kernel_rfl) (fun _ _ _ h => h) (Or.inl ⟨by rfl, fun Z hZ => by obtain ⟨⟨⟨x0, x1, x2⟩, _⟩, _⟩ := HL.out Z hZ; go_simp⟩) (by assumption) ?_
          try simp only [Act.put, List.setIfInBounds_toArray, List.set_cons_zero, List.set_cons_succ]
          refine take_mk 2 (tval b (.slice ta b.args.length tc)) rfl (by kernel_rfl) (by kernel_rfl) (by kernel_rfl) (fun _ _ _ h => h) (Or.inl ⟨by rfl, fun Z hZ => by obtain ⟨⟨_, y0, y1, y2⟩, _⟩ := HL.out Z hZ; go_simp⟩) (by assumption) ?_
          try simp only [Act.put, List.setIfInBounds_toArray, List.set_cons_zero, List.set_cons_succ]
          refine wpAnyH_ready (rs := [1]) (by kernel_rfl) (by simp) (AllReadyH.cons (o := ⟨_, _, _, _, _, _⟩) rfl (fun KK hK => ?_) AllReadyH.nil)
          rw [if_pos (by rfl)]
          go_simp
          refine (fof_any a (.slice pa a.args.length pc) Wd (HL.out Wd hd).2.1).mono ?_
          rintro e Wf ⟨va, rfl, fa, bf⟩
          have Bf : Below W6.heap.size W6 Wf := hd.trans (bf.mono hd.size)
          obtain ⟨qa, ka, rfl, _, _⟩ := fa.slice
          refine hK.out _ _ Bf (fun _ => ?_)
          clear hK KK
          try simp only [Act.put, List.setIfInBounds_toArray, List.set_cons_zero, List.set_cons_succ]
          refine wpAnyH_ready (rs := [3]) (by kernel_rfl) (by simp) (AllReadyH.cons (o := ⟨_, _, _, _, _, _⟩) rfl (fun KK hK => ?_) AllReadyH.nil)
          rw [if_pos (by rfl)]
          go_simp
          refine (fof_any b (.slice ta b.args.length tc) Wf (HL.out Wf Bf).2.2).mono ?_
          rintro e Wg ⟨vb, rfl, fb, bg⟩
          have Bg : Below W6.heap.size W6 Wg := Bf.trans (bg.mono Bf.size)
          obtain ⟨qb, kb, rfl, _, _⟩ := fb.slice
          refine hK.out _ _ Bg (fun _ => ?_)
          clear hK KK
          try simp only [Act.put, List.setIfInBounds_toArray, List.set_cons_zero, List.set_cons_succ]
          refine take_mk 4 (.slice qa (feats a).length ka) rfl (by kernel_rfl) (by kernel_rfl) (by kernel_rfl) (fun _ _ _ h => h) (Or.inl ⟨by rfl, fun Z hZ => by go_simp⟩) (by assumption) ?_
          try simp only [Act.put, List.setIfInBounds_toArray, List.set_cons_zero, List.set_cons_succ]
          refine take_mk 5 (.slice qb (feats b).length kb) rfl (by kernel_rfl) (by kernel_rfl) (by kernel_rfl) (fun _ _ _ h => h) (Or.inl ⟨by rfl, fun Z hZ => by go_simp⟩) (by assumption) ?_
          try simp only [Act.put, List.setIfInBounds_toArray, List.set_cons_zero, List.set_cons_succ]
          refine wpAnyH_done (by kernel_rfl) ?_ _
          try simp only [Act.put]
          have HR : Hid (FtAt Wg (.slice qa (feats a).length ka) (feats a) ∧ FtAt Wg (.slice qb (feats b).length kb) (feats b) ∧ Below W6.heap.size W6 Wg) := ⟨fa.keep bg (Nat.le_refl _), fb, Bg⟩
          clear fa fb bf bg Bf Bg hd hHeld
          go_wp2
          go_meet
          exact ⟨qa, ka, qb, kb, rfl, rfl, HR⟩
        case rest =>
          obtain ⟨a7, c7, a8, c8, rfl, rfl, HF⟩ := hcut
          obtain ⟨⟨z0, z1, z2⟩, hcA, hb2⟩ := HC.out wc HF.out.2.2
          obtain ⟨⟨x0, x1, x2⟩, ⟨y0, y1, y2⟩, hbA, haA, _⟩ := HX.out wc hb2
          have hu := uni_any a C _ _ wc haA hcA HRa.out HRC.out.1 HRC.out.2.1
          clear hcA hb2 hbA haA
          go_wp2_with fail
          refine hu.mono ?_
          rintro e W8 ⟨v8, z, h, rfl, b8, ⟨ua, un, uc, rfl⟩, hfit⟩
          have HF8 : Hid (FtAt W8 (.slice a7 (feats a).length c7) (feats a) ∧ FtAt W8 (.slice a8 (feats b).length c8) (feats b) ∧ Below W6.heap.size W6 W8) := ⟨HF.out.1.keep b8 (Nat.le_refl _), HF.out.2.1.keep b8 (Nat.le_refl _), HF.out.2.2.trans (b8.mono HF.out.2.2.size)⟩
          have HFit : Hid (¬ (z = false ∧ h = 0) → fitB uniB (feats a) (feats b) = true) := fun h0 => by have := hfit h0; rwa [HRC.out.2.2] at this
          clear hu b8 HF hfit x0 x1 x2 y0 y1 y2 z0 z1 z2
          obtain ⟨_, _, hb2⟩ := HC.out W8 HF8.out.2.2
          obtain ⟨⟨x0, x1, x2⟩, ⟨y0, y1, y2⟩, hbA, haA, _⟩ := HX.out W8 hb2
          have hm := mch_any a b _ _ W8 haA hbA HRa.out HRb.out (by have h1 := HSz.out; have h2 := T.size_pos b; omega)
          clear hb2 hbA haA
          go_wp2_with fail
          refine hm.mono ?_
          rintro e W9 ⟨v9, m, rfl, b9, hmt⟩
          have HF9 : Hid (FtAt W9 (.slice a7 (feats a).length c7) (feats a) ∧ FtAt W9 (.slice a8 (feats b).length c8) (feats b) ∧ Below W.heap.size W W9) := ⟨HF8.out.1.keep b9 (Nat.le_refl _), HF8.out.2.1.keep b9 (Nat.le_refl _), by
            have hB := HF8.out.2.2.trans (b9.mono HF8.out.2.2.size)
            exact (HX.out W9 (HC.out W9 hB).2.2).2.2.2.2⟩
          have HMt : Hid (m = true → fitB matB (feats a) (feats b) = true) := hmt
          clear hm b9 HF8 hmt x0 x1 x2 y0 y1 y2 HX HC HRC
          cases z
          · by_cases h0 : h = 0
            · subst h0
              clear HFit
              cases m
              · skip
                go_wp2_with fail
                refine (alive_any _).mono ?_
                rintro e Wz ⟨rfl, bz⟩
                go_wp2
                go_ret
                exact ⟨rfl, HF9.out.2.2.trans (bz.mono (HF9.out.2.2).size)⟩
              · skip
                have hM := Matches_any (feats a) (feats b) _ _ _ HF9.out.1 HF9.out.2.1
                rw [HMt.out (by simp)] at hM
                go_wp2_with fail
                refine hM.mono ?_
                rintro e Wm ⟨rfl, bm⟩
                have HFm : Hid (Below W.heap.size W Wm) := HF9.out.2.2.trans (bm.mono HF9.out.2.2.size)
                clear bm hM
                go_wp2_with fail
                refine (alive_any _).mono ?_
                rintro e Wz ⟨rfl, bz⟩
                go_wp2
                go_ret
                exact ⟨rfl, HFm.out.trans (bz.mono (HFm.out).size)⟩
            · have hn0 : (h == 0) = false := by simpa using h0
              have hU := Unifies_any (feats a) (feats b) _ _ W9 HF9.out.1 HF9.out.2.1
              rw [HFit.out (fun e => h0 e.2)] at hU
              clear h0 HFit
              cases m
              · skip
                go_wp2_with fail
                refine hU.mono ?_
                rintro e Wu ⟨rfl, bu⟩
                have HFu : Hid (FtAt Wu (.slice a7 (feats a).length c7) (feats a) ∧ FtAt Wu (.slice a8 (feats b).length c8) (feats b) ∧ Below W.heap.size W Wu) := ⟨HF9.out.1.keep bu (Nat.le_refl _), HF9.out.2.1.keep bu (Nat.le_refl _), HF9.out.2.2.trans (bu.mono HF9.out.2.2.size)⟩
                clear bu hU
                go_wp2_with fail
                refine (alive_any _).mono ?_
                rintro e Wz ⟨rfl, bz⟩
                go_wp2
                go_ret
                exact ⟨rfl, HFu.out.2.2.trans (bz.mono (HFu.out.2.2).size)⟩
              · skip
                go_wp2_with fail
                refine hU.mono ?_
                rintro e Wu ⟨rfl, bu⟩
                have HFu : Hid (FtAt Wu (.slice a7 (feats a).length c7) (feats a) ∧ FtAt Wu (.slice a8 (feats b).length c8) (feats b) ∧ Below W.heap.size W Wu) := ⟨HF9.out.1.keep bu (Nat.le_refl _), HF9.out.2.1.keep bu (Nat.le_refl _), HF9.out.2.2.trans (bu.mono HF9.out.2.2.size)⟩
                clear bu hU
                have hM := Matches_any (feats a) (feats b) _ _ _ HFu.out.1 HFu.out.2.1
                rw [HMt.out (by simp)] at hM
                go_wp2_with fail
                refine hM.mono ?_
                rintro e Wm ⟨rfl, bm⟩
                have HFm : Hid (Below W.heap.size W Wm) := HFu.out.2.2.trans (bm.mono HFu.out.2.2.size)
                clear bm hM
                go_wp2_with fail
                refine (alive_any _).mono ?_
                rintro e Wz ⟨rfl, bz⟩
                go_wp2
                go_ret
                exact ⟨rfl, HFm.out.trans (bz.mono (HFm.out).size)⟩
          · have hU := Unifies_any (feats a) (feats b) _ _ W9 HF9.out.1 HF9.out.2.1
            rw [HFit.out (fun e => by cases e.1)] at hU
            clear HFit
            cases m
            · skip
              go_wp2_with fail
              refine hU.mono ?_
              rintro e Wu ⟨rfl, bu⟩
              have HFu : Hid (FtAt Wu (.slice a7 (feats a).length c7) (feats a) ∧ FtAt Wu (.slice a8 (feats b).length c8) (feats b) ∧ Below W.heap.size W Wu) := ⟨HF9.out.1.keep bu (Nat.le_refl _), HF9.out.2.1.keep bu (Nat.le_refl _), HF9.out.2.2.trans (bu.mono HF9.out.2.2.size)⟩
              clear bu hU
              go_wp2_with fail
              refine (alive_any _).mono ?_
              rintro e Wz ⟨rfl, bz⟩
              go_wp2
              go_ret
              exact ⟨rfl, HFu.out.2.2.trans (bz.mono (HFu.out.2.2).size)⟩
            · skip
              go_wp2_with fail
              refine hU.mono ?_
              rintro e Wu ⟨rfl, bu⟩
              have HFu : Hid (FtAt Wu (.slice a7 (feats a).length c7) (feats a) ∧ FtAt Wu (.slice a8 (feats b).length c8) (feats b) ∧ Below W.heap.size W Wu) := ⟨HF9.out.1.keep bu (Nat.le_refl _), HF9.out.2.1.keep bu (Nat.le_refl _), HF9.out.2.2.trans (bu.mono HF9.out.2.2.size)⟩
              clear bu hU
              have hM := Matches_any (feats a) (feats b) _ _ _ HFu.out.1 HFu.out.2.1
              rw [HMt.out (by simp)] at hM
              go_wp2_with fail
              refine hM.mono ?_
              rintro e Wm ⟨rfl, bm⟩
              have HFm : Hid (Below W.heap.size W Wm) := HFu.out.2.2.trans (bm.mono HFu.out.2.2.size)
              clear bm hM
              go_wp2_with fail
              refine (alive_any _).mono ?_
              rintro e Wz ⟨rfl, bz⟩
              go_wp2
              go_ret
              exact ⟨rfl, HFm.out.trans (bz.mono (HFm.out).size)⟩
    · have hn : (b.rightW != 0) = true := by simpa using hrb
      clear hra hrb
      go_enter Try.func6, Try.ntmps6
      go_wp2_with fail
      rw [HE2.out]
      clear HE2
      refine hc1.mono ?_
      rintro e W3 ⟨rfl, b3⟩
      obtain ⟨⟨x0, x1, x2⟩, ⟨y0, y1, y2⟩, _, _, _⟩ := HX.out W3 b3
      have hc2 := HR2.out W3 b3
      clear hc1
      go_wp2_with fail
      refine hc2.mono ?_
      rintro e W4 ⟨rfl, b4⟩
      have HB4 : Hid (Below W.heap.size W W4) := (HX.out W4 (b3.trans (b4.mono b3.size))).2.2.2.2
      clear hc2 b3 b4 x0 x1 x2 y0 y1 y2 HR2
      go_wp2_with fail
      refine (alive_any _).mono ?_
      rintro e Wz ⟨rfl, bz⟩
      go_wp2
      go_ret
      exact ⟨rfl, HB4.out.trans (bz.mono HB4.out.size)⟩
  · have hn : (a.rightW != 0) = true := by simpa using hra
    clear hra
    go_enter Try.func6, Try.ntmps6
    go_wp2_with fail
    rw [HE2.out]
    clear HE2
    refine hc1.mono ?_
    rintro e W3 ⟨rfl, b3⟩
    have HB3 : Hid (Below W.heap.size W W3) := (HX.out W3 b3).2.2.2.2
    clear hc1 b3 HR2
    go_wp2_with fail
    refine (alive_any _).mono ?_
    rintro e Wz ⟨rfl, bz⟩
    go_wp2
    go_ret
    exact ⟨rfl, HB3.out.trans (bz.mono HB3.out.size)⟩

end Go.Proofs.Ytiklbkkimmgbcaa
