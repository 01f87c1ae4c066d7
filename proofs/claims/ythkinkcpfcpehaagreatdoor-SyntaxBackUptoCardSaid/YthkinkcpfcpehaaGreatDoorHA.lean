import Derived.Test.YthkinkcpfcpehaaGreatDoorHU
namespace Go.Proofs.YthkinkcpfcpehaaGreatDoor
set_option maxRecDepth 100000
set_option maxHeartbeats 16000000
section
open Go.RowKit Go.Shelf
theorem shL_ne (l : List UInt8) : Lx.shL l ≠ [] := by
  unfold Lx.shL
  split
  · rename_i h
    intro e
    rw [e] at h
    cases h
  · simp
theorem shT_ne (t : T) : shT t ≠ [] := by
  rw [shT_eq]
  split
  · rename_i h
    intro e
    have h1 : (decide (t.args.length = 0) && Lx.vrB t.fn.data.toList) = true := h
    rw [e, Bool.and_eq_true] at h1
    cases h1.2
  · intro e
    exact shL_ne _ (List.append_eq_nil_iff.1 e).1
theorem shA_ne (f : Fm) (s : ByteArray) : shA f s ≠ [] := by
  unfold shA
  split
  · exact shT_ne _
  · intro e
    have h1 := (List.append_eq_nil_iff.1 e).2
    exact shT_ne _ h1
theorem shF_ne {f : Fm} (h : shB f = true) : shF f ≠ [] := by
  have hc := (kids_count h).1
  rw [shF_eq]
  unfold shJ
  split
  · exact shA_ne _ _
  · split
    · rename_i h1 h2
      rw [h2] at hc
      have h3 : f.kids.length = 1 := by have : (f.kids.length : Int) = 1 := hc; omega
      match hh : f.kids, h3 with
      | [a], _ =>
        show shNg a _ ≠ []
        unfold shNg
        split
        · exact shA_ne _ _
        · simp
    · split
      · simp
      · split
        · unfold sgn
          split <;> (try split) <;> (try split) <;> (try split) <;> (try split) <;> (try split) <;> (try split) <;> (try split) <;> simp
        · simp
theorem wstring_any {B : Nat} {l : List UInt8} {w : World} (h : Wr B l w) (h0 : l ≠ []) :
    Calls Tryz.prog 36 #[.pointer (some ⟨B, 0, none⟩)] w fun e w' => e = .returned (.string (Lx.ofL l)) ∧ Below B w w' := by
  obtain ⟨p, hB, v, hbk, hown, hne⟩ := IsBuilder_at h.b
  have hl0 : l.length ≠ 0 := by simpa using h0
  rw [Lib.byteCells_length] at hown
  obtain ⟨g, cap, cur, rfl, hbg, hg, hnc, hcm, hcs, htake⟩ : ∃ g cap cur, v = .slice (some ⟨g, 0, none⟩) l.length cap ∧ B ≤ g ∧ w.heap[g]? = some (.cells cur 5 (0, 0)) ∧ l.length ≤ cap ∧ cap ≤ maxLen ∧ cur.size = cap * 1 ∧ cur.toList.take (l.length * 1) = Lib.byteCells l := by
    rcases hown.2 with ⟨_, hz⟩ | ⟨g, cap, cur, hv, r⟩
    · exact absurd hz hl0
    · exact ⟨g, cap, cur, hv, r⟩
  have c1 : w.drew.cell? ⟨B, 1, none⟩ = some (.slice (some ⟨g, 0, none⟩) l.length cap) := by
    have : w.drew.heap[B]? = some (.cells #[p, .slice (some ⟨g, 0, none⟩) l.length cap] 74 (0, 0)) := hbk
    rw [Lib.cell_of_heap this]; rfl
  have hSD : (Builtin.unsafeSliceData_ #[70] 110 #[.slice (some ⟨g, 0, none⟩) l.length cap]).run Tryz.prog w.drew = .ok (.pointer (some ⟨g, 0, none⟩)) w.drew :=
    Lib.run_unsafeSliceData_row _ _ _ _ _ _ (by omega)
  have hUS : (Builtin.unsafeString_ #[110, 3] 9 #[.pointer (some ⟨g, 0, none⟩), .int .i64 l.length]).run Tryz.prog w.drew = .ok (.string (Lx.ofL l)) (w.drew.freeze ⟨g, 0, none⟩ l.length) := by
    refine Lib.run_unsafeString_row w.drew 110 3 9 5 Tryz.underlying110 Lx.Tryz.Builder_Extra_169.cellsByte g cur.size (by have hg' : w.drew.heap[g]? = some (.cells cur 5 (0, 0)) := hg; simp [World.shape?, hg']) l h0 (by omega) (by unfold maxLen at hcm; omega) ?_
    intro j x hx
    have := hown.cells (g := g) rfl j (.int .u8 x.toNat) (by simp [Lib.byteCells, hx])
    exact this
  have HF := hidR hbg
  clear h hbk hown hne hg hcs htake h0
  go_enter Tryz.func36, Tryz.ntmps36
  go_wp2
  go_region
  all_goals (go_wp2; go_ret; exact ⟨rfl, Lib.below_freeze (Below.drew (Below.refl B w)) (p := ⟨g, 0, none⟩) HF.out _⟩)
theorem rightE_sh {f : Fm} (h : rightE f = 0) : shB f = true := by
  unfold rightE at h
  split at h
  · assumption
  · cases h
/-- What Show answers. -/
noncomputable def showL (f : Fm) : List UInt8 := if rightE f = 0 then shF f else []
theorem fshow_any {P : Nat → Prop} {f : Fm} (hn : f.nsm) (hd : f.depth ≤ 1048577) (hz : wrap64 f.size = f.size) (hlen : rightE f = 0 → (shF f).length ≤ 140737488355328) {sl sr sk : Value} {w : World} (h : FmP P w f sl sr sk) (hP : ∀ k, P k → k < w.heap.size) (hsg : Sg w) :
    Calls Tryz.prog 14 #[fval f sl sr sk] w fun e w' => e = .returned (.string (Lx.ofL (showL f))) ∧ Below w.heap.size w w' := by
  have hb0 := below_box w (fbox f sl sr sk)
  have hz0 := (MapKept.heap_alloc w (fbox f sl sr sk)).1
  have hs0 : (w.alloc (fbox f sl sr sk)).heap.size = w.heap.size + 1 := World.size_alloc _ _
  have hlt : 0 < w.heap.size := (Array.getElem?_eq_some_iff.1 hsg).1
  obtain ⟨la, lc, rfl, _, _⟩ := h.l.slice'
  obtain ⟨ra, rc, rfl, _, _⟩ := h.r.slice'
  obtain ⟨ka, kc, rfl, _, _⟩ := h.k.slice
  have hf0 : FmP (fun k => k < w.heap.size) (w.alloc (fbox f (.slice la f.l.args.length lc) (.slice ra f.r.args.length rc) (.slice ka f.kids.length kc))) f (.slice la f.l.args.length lc) (.slice ra f.r.args.length rc) (.slice ka f.kids.length kc) := h.keep hb0.size (fun k hk hl => ⟨hP k hk, hb0.block k hl⟩)
  have hrt := right_any hn hd hz hf0
  have hsg0 : Sg (w.alloc (fbox f (.slice la f.l.args.length lc) (.slice ra f.r.args.length rc) (.slice ka f.kids.length kc))) := (hb0.block 0 hlt).trans hsg
  obtain ⟨W0, hW0⟩ : ∃ X : World, w.alloc (fbox f (.slice la f.l.args.length lc) (.slice ra f.r.args.length rc) (.slice ka f.kids.length kc)) = X := ⟨_, rfl⟩
  obtain ⟨R, hR⟩ : ∃ R, w.heap.size = R := ⟨_, rfl⟩
  rw [hW0] at hb0 hz0 hs0 hf0 hrt hsg0
  rw [hR] at hz0 hs0 hlt hb0 hf0
  have HE : Hid (showL f = if rightE f = 0 then shF f else []) := rfl
  have HW0 := hidR hW0
  have HN := hidR hn
  have HL := hidR hlen
  have HS := hidR (fun h0 : rightE f = 0 => rightE_sh h0)
  obtain ⟨⟨n0, n1, n2, n3, n4, n5, n6, n7, n8⟩, -⟩ := f_cells hz0
  have H0 := hidR (And.intro hb0 (And.intro hz0 (And.intro hs0 (And.intro hf0 (And.intro hsg0 hlt)))))
  obtain ⟨rE, hrE⟩ : ∃ r, rightE f = r := ⟨_, rfl⟩
  rw [hrE] at hrt HE HL HS
  clear h hP hsg hb0 hz0 hs0 hf0 hsg0 hlt hW0 hn hd hz hlen hrE
  go_enter Tryz.func14, Tryz.ntmps14
  go_upto_region 1 with fail
  try simp only [hR]
  rw [show _ = W0 from HW0.out]
  clear HW0
  go_wp2_with fail
  refine hrt.mono ?_
  rintro e W1 ⟨rfl, hb1⟩
  by_cases he : rE = 0
  case neg =>
    have hne : (rE != 0) = true := by simpa using he
    have HEE : Hid (showL f = []) := by show _ = _; rw [HE.out, if_neg he]
    have HB : Hid (Below w.heap.size w W1) := by show Below _ _ _; rw [hR]; exact H0.out.1.trans (hb1.mono (by have := H0.out.2.2.1; omega))
    clear hrt hb1 he n0 n1 n2 n3 n4 n5 n6 n7 n8
    go_wp2
    go_ret
    exact ⟨by rw [HEE.out]; rfl, HB.out⟩
  case pos =>
  subst he
  have HEE : Hid (showL f = shF f) := by show _ = _; rw [HE.out, if_pos rfl]
  have hbA := below_box W1 (.cells #[.pointer none, .slice none 0 0] 74)
  have hwA := Wr.new W1
  have hs1 := hb1.size
  have hs0 := H0.out.2.2.1
  obtain ⟨B, hB⟩ : ∃ B, W1.heap.size = B := ⟨_, rfl⟩
  obtain ⟨WA, hWA⟩ : ∃ X : World, W1.alloc (.cells #[.pointer none, .slice none 0 0] 74) = X := ⟨_, rfl⟩
  rw [hWA] at hbA hwA
  rw [hB] at hwA
  have hzA : WA.heap[R]? = some (fbox f (.slice la f.l.args.length lc) (.slice ra f.r.args.length rc) (.slice ka f.kids.length kc)) := (hbA.block R (by omega)).trans ((hb1.block R (by omega)).trans H0.out.2.1)
  have hfA : FmP (fun k => k < B) WA f (.slice la f.l.args.length lc) (.slice ra f.r.args.length rc) (.slice ka f.kids.length kc) := (H0.out.2.2.2.1.keep (Q := fun k => k < B) (Nat.le_trans hs1 hbA.size) (fun k hk hl => ⟨by omega, (hbA.block k (by omega)).trans (hb1.block k hl)⟩))
  have hsgA : Sg WA := (hbA.block 0 (by omega)).trans ((hb1.block 0 (by omega)).trans H0.out.2.2.2.2.1)
  have hwf := wformula_any f HN.out (HS.out rfl) B [] WA _ _ _ hwA hfA hsgA (by omega) (by have := HL.out rfl; simpa using this)
  have HWA := hidR hWA
  have HBw : Hid (Below R w WA ∧ R < B ∧ B < WA.heap.size) := ⟨H0.out.1.trans ((hb1.trans (hbA.mono hs1)).mono (by omega)), by omega, hwA.lt⟩
  have HNE := hidR (shF_ne (HS.out rfl))
  clear hrt hb1 n0 n1 n2 n3 n4 n5 n6 n7 n8 hbA hwA hfA hsgA hs1 hs0 hWA H0
  obtain ⟨⟨n0, n1, n2, n3, n4, n5, n6, n7, n8⟩, -⟩ := f_cells hzA
  clear hzA
  go_upto_region 4 with fail
  try simp only [hB]
  rw [show _ = WA from HWA.out]
  clear HWA
  go_wp2_with fail
  refine hwf.mono ?_
  rintro e W3 ⟨rfl, hw3, hk3⟩
  rw [List.nil_append] at hw3
  have hst := wstring_any hw3 HNE.out
  have HB3 : Hid (Below R w W3) := HBw.out.1.trans (hk3.below (by have := HBw.out.2.1; omega) HBw.out.2.2)
  have HB4 := hidR hk3.size
  clear hwf hw3 hk3 n0 n1 n2 n3 n4 n5 n6 n7 n8
  go_wp2_with fail
  refine hst.mono ?_
  rintro e W4 ⟨rfl, hb4⟩
  have HX : Hid (Below w.heap.size w W4) := by show Below _ _ _; rw [hR]; exact HB3.out.trans (hb4.mono (by have := HBw.out.2.1; omega))
  clear hst hb4
  go_wp2
  go_ret
  exact ⟨by rw [HEE.out]; rfl, HX.out⟩
end
section
open Go.RowKit Go.Maps
open Lx (agg_store wpList_store_run row_block row_keep row_slice)
theorem wide_kids {f : Fm} (h : f.wide = false) : wideT f.l = false ∧ wideT f.r = false ∧ ∀ a ∈ f.kids, a.wide = false := by
  rw [wide_eq, Bool.or_eq_false_iff, Bool.or_eq_false_iff] at h
  exact ⟨h.1.1, h.1.2, fun a ha => by
    have := h.2
    rw [List.any_eq_false] at this
    simpa using this a ha⟩
theorem kidsN_le (k : Int) : kidsN k ≤ 2 := by
  unfold kidsN
  split
  · omega
  · split
    · omega
    · split <;> omega
theorem rformula_any {rb M K : Nat} (hrM : rb ≠ M) (hK : K ≤ 4194304) (f : Fm) : f.nsm → shB f = true → f.wide = false → RFc rb M K f := by
  refine Fm.ind (P := fun f => f.nsm → shB f = true → f.wide = false → RFc rb M K f) (fun f ih => ?_) f
  intro hn hs hw
  obtain ⟨w1, w2, w3⟩ := wide_kids hw
  obtain ⟨k1, k2⟩ := kids_count hs
  exact rformula_step hrM hK (fun a ha => ih a ha (Fm.nsm_kids hn a ha) (k2 a ha) (w3 a ha)) hn ⟨w1, w2⟩ (by have := kidsN_le f.k; omega)
theorem limE_zero {b : Bool} {n d : Int} (h : limE b n d = 0) : b = false ∧ n ≤ 4000 ∧ d ≤ 60 := by
  unfold limE at h
  split at h
  · cases h
  · rename_i h1
    split at h
    · cases h
    · rename_i h2
      refine ⟨?_, by omega, by omega⟩
      cases b
      · rfl
      · exact absurd (.inl rfl) h1
theorem rightE_lim {f : Fm} (h : rightE f = 0) : f.wide = false ∧ f.size ≤ 4000 ∧ f.depth ≤ 60 := by
  have h1 := rightE_sh h
  unfold rightE at h
  rw [if_pos h1] at h
  exact limE_zero h
theorem size_wrap {f : Fm} (h : f.size ≤ 4000) : wrap64 f.size = f.size := by have := fm_pos f; unfold wrap64; omega
theorem canon_closed {P : Nat → Prop} {f : Fm} {K : Nat} (hK : K ≤ 4194304) (hr : rightE f = 0) (hcl : clF (fun _ => 0) f) (hn : f.nsm) (hsz : f.size ≤ K) (hN : ∀ W, NumC K W) {sl sr sk : Value} {w : World} (h : FmP P w f sl sr sk) (hP : ∀ k, P k → k < w.heap.size) :
    Calls Tryz.prog 16 #[fval f sl sr sk] w fun e w' => ∃ sl sr sk, e = .returned (fval (cnF (fun _ => none) 0 f).1 sl sr sk) ∧ FmP (fun j => w.heap.size ≤ j) w' (cnF (fun _ => none) 0 f).1 sl sr sk ∧ Below w.heap.size w w' := by
  obtain ⟨hwd, hs4, hd6⟩ := rightE_lim hr
  have hshb := rightE_sh hr
  obtain ⟨la, lc, rfl, _, _⟩ := h.l.slice'
  obtain ⟨ra, rc, rfl, _, _⟩ := h.r.slice'
  obtain ⟨ka, kc', rfl, _, _⟩ := h.k.slice
  have hb1 := below_box w (fbox f (.slice la f.l.args.length lc) (.slice ra f.r.args.length rc) (.slice ka f.kids.length kc'))
  have hz1 := (MapKept.heap_alloc w (fbox f (.slice la f.l.args.length lc) (.slice ra f.r.args.length rc) (.slice ka f.kids.length kc'))).1
  have hs1 : (w.alloc (fbox f (.slice la f.l.args.length lc) (.slice ra f.r.args.length rc) (.slice ka f.kids.length kc'))).heap.size = w.heap.size + 1 := World.size_alloc _ _
  obtain ⟨R, hR⟩ : ∃ R, w.heap.size = R := ⟨_, rfl⟩
  obtain ⟨w1, hw1⟩ : ∃ X : World, w.alloc (fbox f (.slice la f.l.args.length lc) (.slice ra f.r.args.length rc) (.slice ka f.kids.length kc')) = X := ⟨_, rfl⟩
  rw [hw1] at hb1 hz1 hs1
  rw [hR] at hz1 hs1
  have hb2 := below_box w1 zbox
  have hz2 := (MapKept.heap_alloc w1 zbox).1
  obtain ⟨W0, hW0⟩ : ∃ X : World, w1.alloc zbox = X := ⟨_, rfl⟩
  have hs2 : W0.heap.size = R + 2 := by rw [← hW0, World.size_alloc, hs1]
  rw [hW0] at hb2 hz2
  rw [hs1] at hz2
  have hz10 : W0.heap[R]? = some (fbox f (.slice la f.l.args.length lc) (.slice ra f.r.args.length rc) (.slice ka f.kids.length kc')) := (hb2.block R (by omega)).trans hz1
  have hb0 : Below w.heap.size w W0 := hb1.trans (hb2.mono hb1.size)
  have hfm0 : FmP (fun k => k < R) W0 f (.slice la f.l.args.length lc) (.slice ra f.r.args.length rc) (.slice ka f.kids.length kc') := h.keep hb0.size (fun k hk hl => ⟨by rw [← hR]; exact hP k hk, hb0.block k hl⟩)
  have hrt := right_any hn (by omega) (size_wrap hs4) hfm0
  rw [hr] at hrt
  have HC := hidR (And.intro hcl (And.intro hn (And.intro hsz (And.intro hN (And.intro hs4 (And.intro hwd hshb))))))
  have H0 := hidR (And.intro hb0 (And.intro hz2 (And.intro hs2 (And.intro hz10 hfm0))))
  have HW0 := hidR hW0
  have HW1 := hidR hw1
  have HR := hidR hR
  obtain ⟨⟨n0, n1, n2, n3, n4, n5, n6, n7, n8⟩, -⟩ := f_cells hz10
  clear h hP hr hcl hn hsz hN hwd hs4 hd6 hshb hb1 hz1 hb2 hz2 hs2 hz10 hb0 hfm0 hW0 hw1
  go_enter Tryz.func16, Tryz.ntmps16
  go_upto_region 1 with fail
  try simp only [hR]
  try rw [show _ = w1 from HW1.out]
  try simp only [hs1]
  rw [show _ = W0 from HW0.out]
  clear HW0 HW1 hs1 hR
  go_wp2_with fail
  refine hrt.mono ?_
  rintro e W1 ⟨rfl, hb3⟩
  clear hrt n0 n1 n2 n3 n4 n5 n6 n7 n8
  have hs0 := H0.out.2.2.1
  have hsz3 := hb3.size
  have hzR1 : W1.heap[R]? = some (fbox f (.slice la f.l.args.length lc) (.slice ra f.r.args.length rc) (.slice ka f.kids.length kc')) := (hb3.block R (by omega)).trans H0.out.2.2.2.1
  have hf1 : FmP (fun k => k < R) W1 f (.slice la f.l.args.length lc) (.slice ra f.r.args.length rc) (.slice ka f.kids.length kc') := H0.out.2.2.2.2.grow hb3
  have hfr := free_closed HC.out.1 HC.out.2.1 (by have := HC.out.2.2.2.2.1; omega) hf1 (fun k hk => by omega)
  have H1 := hidR (And.intro hb3 hf1)
  obtain ⟨⟨n0, n1, n2, n3, n4, n5, n6, n7, n8⟩, -⟩ := f_cells hzR1
  clear hb3 hzR1 hf1
  go_wp2_with fail
  refine hfr.mono ?_
  rintro e W2 ⟨fa, fc, rfl, hb4⟩
  clear hfr n0 n1 n2 n3 n4 n5 n6 n7 n8
  -- the renamer
  have hb02 : Below W0.heap.size W0 W2 := H1.out.1.trans (hb4.mono hsz3)
  have hsz4 := hb4.size
  have hb5 := below_box W2 (.map #[] 0)
  obtain ⟨M, hM⟩ : ∃ M, W2.heap.size = M := ⟨_, rfl⟩
  have hnm := Nm.made W2
  obtain ⟨W3, hW3⟩ : ∃ X : World, W2.alloc (.map #[] 0) = X := ⟨_, rfl⟩
  have hs3 : W3.heap.size = M + 1 := by rw [← hW3, World.size_alloc, hM]
  rw [hW3, hM] at hnm
  rw [hW3] at hb5
  have hb6 := below_box W3 (.cells #[.int .i64 0, .map (some M)] 78)
  have hz6 := (MapKept.heap_alloc W3 (.cells #[.int .i64 0, .map (some M)] 78)).1
  obtain ⟨W4, hW4⟩ : ∃ X : World, W3.alloc (.cells #[.int .i64 0, .map (some M)] 78) = X := ⟨_, rfl⟩
  have hs4 : W4.heap.size = M + 2 := by rw [← hW4, World.size_alloc, hs3]
  rw [hW4] at hb6 hz6
  rw [hs3] at hz6
  have hb04 : Below W0.heap.size W0 W4 := hb02.trans ((hb5.trans (hb6.mono hb5.size)).mono (by omega))
  have hrn : RN W4 (M + 1) M ((0 : Nat) : Int) (fun _ => none) 0 := ⟨hz6, hnm.same (hb6.block M hnm.lt)⟩
  have hf4 : FmP (fun k => k ≠ M + 1 ∧ k ≠ M) W4 f (.slice la f.l.args.length lc) (.slice ra f.r.args.length rc) (.slice ka f.kids.length kc') := H0.out.2.2.2.2.keep hb04.size (fun k hk hl => ⟨by omega, hb04.block k hl⟩)
  have hs1k := fm_pos f
  have hrf := rformula_any (rb := M + 1) (M := M) (K := K) (by omega) hK f HC.out.2.1 HC.out.2.2.2.2.2.2 HC.out.2.2.2.2.2.1 (fun _ => none) 0 0 W4 _ _ _ hrn (fun n hn W hW => HC.out.2.2.2.1 W n hn W (Below.refl _ _)) hf4 (fun s => ⟨0, by have := HC.out.2.2.1; omega, rfl⟩) (by have := HC.out.2.2.1; omega) (by have := HC.out.2.2.2.2.1; omega)
  have hzR4 : W4.heap[R]? = some (fbox f (.slice la f.l.args.length lc) (.slice ra f.r.args.length rc) (.slice ka f.kids.length kc')) := (hb04.block R (by omega)).trans H0.out.2.2.2.1
  have hzz4 : W4.heap[R + 1]? = some zbox := (hb04.block (R + 1) (by omega)).trans H0.out.2.1
  have HW3 := hidR hW3
  have HW4 := hidR hW4
  have HS3 := hidR hs3
  have H4 := hidR (And.intro hb04 (And.intro hzz4 (And.intro hs4 (show R + 2 ≤ M by omega))))
  have hmk := fun w => run_makeMap0 50 w
  obtain ⟨⟨n0, n1, n2, n3, n4, n5, n6, n7, n8⟩, -⟩ := f_cells hzR4
  clear hb02 hb4 hsz4 hb5 hnm hW3 hb6 hz6 hW4 hs4 hb04 hrn hf4 hs1k hzR4 hzz4 hs0 hsz3 H1
  have hmk2 := hmk W2
  rw [HW3.out, hM] at hmk2
  clear hmk
  go_upto_region 4 with fail
  try simp only [hM]
  try rw [show _ = W3 from HW3.out]
  try simp only [hs3]
  rw [show _ = W4 from HW4.out]
  clear HW3 HW4 hs3 hM hmk2
  go_wp2_with fail
  refine hrf.mono ?_
  rintro e W5 ⟨sl2, sr2, sk2, g', rfl, hf5, -, -, ho5⟩
  obtain ⟨d1, e1, rfl, _, _⟩ := hf5.l.slice'
  obtain ⟨d2, e2, rfl, _, _⟩ := hf5.r.slice'
  obtain ⟨d3, e3, rfl, _, _⟩ := hf5.k.slice
  have hz5 : W5.heap[R + 1]? = some zbox := (ho5.block (R + 1) (by have := H4.out.2.2; omega) (by have := H4.out.2.2.2; simp; omega)).trans H4.out.2.1
  obtain ⟨V, hrun, hV, hoV⟩ := f_store rfl hz5 rfl hf5
  have HC2 := hidR (f_cells hV).1
  have HF : Hid (FmP (fun j => w.heap.size ≤ j) V (cnF (fun _ => none) 0 f).1 (.slice d1 (cnF (fun _ => none) 0 f).1.l.args.length e1) (.slice d2 (cnF (fun _ => none) 0 f).1.r.args.length e2) (.slice d3 (cnF (fun _ => none) 0 f).1.kids.length e3) ∧ Below w.heap.size w V) := by
    have h9 := H4.out.2.2
    have hRw := HR.out
    refine ⟨hf5.keep hoV.size (fun j hj hl => ⟨by omega, hoV.block j hl (by simp; omega)⟩), ?_⟩
    have hb3 : Below w.heap.size w W4 := H0.out.1.trans (H4.out.1.mono H0.out.1.size)
    exact ⟨hoV.os.trans (ho5.os.trans hb3.os), hoV.tape.trans (ho5.tape.trans hb3.tape), hoV.output.trans (ho5.output.trans hb3.output), Nat.le_trans hb3.size (Nat.le_trans ho5.size hoV.size), fun j hj => (hoV.block j (by have := ho5.size; omega) (by simp; omega)).trans ((ho5.block j (by omega) (by simp; omega)).trans (hb3.block j hj))⟩
  clear hrf n0 n1 n2 n3 n4 n5 n6 n7 n8 hf5 ho5 hz5 hV hoV
  go_wp2_with (first | (refine wpList_store_run rfl 27 _ _ rfl (.pointer (some ⟨R + 1, 0, none⟩)) (fval (cnF (fun _ => none) 0 f).1 (.slice d1 (cnF (fun _ => none) 0 f).1.l.args.length e1) (.slice d2 (cnF (fun _ => none) 0 f).1.r.args.length e2) (.slice d3 (cnF (fun _ => none) 0 f).1.kids.length e3)) rfl (by kernel_rfl) hrun ?_))
  obtain ⟨c0, c1, c2, c3, c4, c5, c6, c7, c8⟩ := HC2.out
  refine bodyPost_ret (v := fval (cnF (fun _ => none) 0 f).1 (.slice d1 (cnF (fun _ => none) 0 f).1.l.args.length e1) (.slice d2 (cnF (fun _ => none) 0 f).1.r.args.length e2) (.slice d3 (cnF (fun _ => none) 0 f).1.kids.length e3)) (by simp [results, Tryz.results16, go_sem, c0, c1, c2, c3, c4, c5, c6, c7, c8]) rfl ?_
  exact ⟨_, _, _, rfl, HF.out.1, HF.out.2⟩
end
section
open Go.RowKit Go.Maps
open Lx (Tk ofL lexL rd)
def lexF : Nat → Nat → List UInt8 → List Tk × Nat × Int
  | 0, _, _ => ([], 0, 0)
  | _ + 1, _, [] => ([], 0, 0)
  | n + 1, a, c :: r =>
    if c = 32 ∨ c = 9 ∨ c = 13 then lexF n (a + 1) r
    else if c = 37 then ([], 0, 0)
    else if (rd (c :: r)).e ≠ 0 then ([], a, (rd (c :: r)).e)
    else (⟨(rd (c :: r)).k, a, (rd (c :: r)).t⟩ :: (lexF n (a + (rd (c :: r)).n) (r.drop ((rd (c :: r)).n - 1))).1, (lexF n (a + (rd (c :: r)).n) (r.drop ((rd (c :: r)).n - 1))).2)
theorem lexF_eq : ∀ (n a : Nat) (l : List UInt8), l.length < n → lexL a l = lexF n a l
  | 0, _, l, h => absurd h (by omega)
  | n + 1, a, [], _ => by rw [Lx.lexL_nil]; rfl
  | n + 1, a, c :: r, h => by
    have h' : r.length < n := by simp only [List.length_cons] at h; omega
    unfold lexL
    rw [lexF]
    rw [lexF_eq n (a + 1) r h', lexF_eq n (a + (rd (c :: r)).n) (r.drop ((rd (c :: r)).n - 1)) (by simp only [List.length_drop]; omega)]
abbrev srcA : ByteArray := { data := #[33, 32, 91, 88, 44, 89, 93, 32, 58, 32, 112, 40, 88, 41, 32, 61, 62, 32, 113] }
abbrev srcB : ByteArray := { data := #[112, 32, 38, 32, 113, 32, 124, 32, 114] }
abbrev outA : ByteArray := { data := #[40, 33, 32, 91, 88, 93, 32, 58, 32, 33, 32, 91, 89, 93, 32, 58, 32, 112, 40, 88, 41, 32, 61, 62, 32, 113, 41] }
abbrev outC : ByteArray := { data := #[40, 33, 32, 91, 88, 48, 93, 32, 58, 32, 33, 32, 91, 88, 49, 93, 32, 58, 32, 112, 40, 88, 48, 41, 32, 61, 62, 32, 113, 41] }
/-- The formula, by the names of its two variables. -/
abbrev exF (x y : ByteArray) : Fm := .mk 5 e0 t0 t0 [.mk 7 x t0 t0 [.mk 7 y t0 t0 [.mk 1 e0 (.mk 0 ⟨#[64, 112]⟩ [.mk 0 x []]) trueT []]], .mk 1 e0 (.mk 0 ⟨#[64, 113]⟩ []) trueT []]
abbrev exA : Fm := exF ⟨#[88]⟩ ⟨#[89]⟩
abbrev exC : Fm := exF ⟨#[88, 48]⟩ ⟨#[88, 49]⟩
abbrev tksA : List Tk := [⟨4, 0, [33]⟩, ⟨4, 2, [91]⟩, ⟨2, 3, [88]⟩, ⟨4, 4, [44]⟩, ⟨2, 5, [89]⟩, ⟨4, 6, [93]⟩, ⟨4, 8, [58]⟩, ⟨1, 10, [112]⟩, ⟨4, 11, [40]⟩, ⟨2, 12, [88]⟩, ⟨4, 13, [41]⟩, ⟨4, 15, [61, 62]⟩, ⟨1, 18, [113]⟩]
abbrev tksB : List Tk := [⟨1, 0, [112]⟩, ⟨4, 2, [38]⟩, ⟨1, 4, [113]⟩, ⟨4, 6, [124]⟩, ⟨1, 8, [114]⟩]
theorem lexA : lexL 0 srcA.data.toList = (tksA, 0, 0) := by rw [lexF_eq 20 0 _ (by decide)]; kernel_rfl
theorem lexB : lexL 0 srcB.data.toList = (tksB, 0, 0) := by rw [lexF_eq 20 0 _ (by decide)]; kernel_rfl
theorem at64 (c : UInt8) : (⟨#[64]⟩ : ByteArray) ++ ofL [c] = ⟨#[64, c]⟩ := by apply ByteArray.ext; simp [ofL]
theorem parseA : PF [] tksA (.ok exA [] []) := ⟨12, by
  have : pFm 12 [] 1 f00 tksA = some (.ok (.mk 5 e0 t0 t0 [.mk 7 ⟨#[88]⟩ t0 t0 [.mk 7 ⟨#[89]⟩ t0 t0 [.mk 1 e0 (.mk 0 (⟨#[64]⟩ ++ ofL [112]) [.mk 0 ⟨#[88]⟩ []]) trueT []]], .mk 1 e0 (.mk 0 (⟨#[64]⟩ ++ ofL [113]) []) trueT []]) [] []) := by kernel_rfl
  rw [this, at64, at64]⟩
theorem parseB : ∃ f, PF [] tksB (.ok f [] [⟨4, 6, [124]⟩, ⟨1, 8, [114]⟩]) := ⟨fOp 3 [fPred (.mk 0 (ofL [112]) []), fPred (.mk 0 (ofL [113]) [])], 12, by kernel_rfl⟩
theorem limA : limE exA.wide exA.size exA.depth = 0 := by kernel_rfl
theorem fofA : FofR srcA exA 0 0 := by
  refine .inr (.inr ⟨by rw [lexA], exA, [], by rw [lexA]; exact parseA, .inr (.inr ⟨limA, rfl, rfl, rfl, rfl⟩)⟩)
theorem fofB : FofR srcB fz 6 21 := by
  obtain ⟨f, hf⟩ := parseB
  exact .inr (.inl ⟨by rw [lexB], _, .inr ⟨f, [], by rw [lexB]; exact hf, by simp⟩, rfl, rfl, rfl⟩)
theorem exF_nsm {x y : ByteArray} (hx : x.size ≤ 2097152) (hy : y.size ≤ 2097152) : (exF x y).nsm := by
  simp only [Fm.nsm, Fm.nsm.nsms, T.nsm, T.nsm.nsms, and_true, hx, hy, true_and]
  decide
theorem sizeA (x y : ByteArray) : (exF x y).size = 10 := by kernel_rfl
theorem depthA (x y : ByteArray) : (exF x y).depth ≤ 60 := by
  have : (exF x y).depth = 6 := by kernel_rfl
  omega
theorem wideA (x y : ByteArray) : (exF x y).wide = false := by kernel_rfl
theorem same_self (t : T) : same t t = true := by simp [same]
theorem rightA {x y : ByteArray} (hx : Lx.vrB x.data.toList = true) (hy : Lx.vrB y.data.toList = true) : rightE (exF x y) = 0 := by
  have hA : termsB (.mk 1 e0 (.mk 0 ⟨#[64, 112]⟩ [.mk 0 x []]) trueT []) = true := by
    have hp : pB (.mk 1 e0 (.mk 0 ⟨#[64, 112]⟩ [.mk 0 x []]) trueT []) = true := by kernel_rfl
    have hv : trB (.mk 0 x []) = true := by rw [trB_eq]; simp [vB, T.args, T.fn, T.v, hx]
    simp only [termsB, hp, Fm.k, Fm.l, Fm.r, T.v, T.fn, T.args, same_self, List.all_cons, List.all_nil, hv, ↓reduceIte]
    decide
  have hB : termsB (.mk 1 e0 (.mk 0 ⟨#[64, 113]⟩ []) trueT []) = true := by
    have hp : pB (.mk 1 e0 (.mk 0 ⟨#[64, 113]⟩ []) trueT []) = true := by kernel_rfl
    simp only [termsB, hp, Fm.k, Fm.l, Fm.r, T.v, T.fn, T.args, same_self, List.all_nil, ↓reduceIte]
    decide
  have hT : ∀ (k : Int) (n : ByteArray) (ks : List Fm), k ≠ 1 → termsB (.mk k n t0 t0 ks) = true := by
    intro k n ks hk
    simp only [termsB, Fm.k, if_neg hk, Fm.l, Fm.r, same_self, Bool.and_self]
  have hs : shB (exF x y) = true := by
    simp only [shB, shB.shs, hA, hB, hT 5 _ _ (by decide), hT 7 _ _ (by decide), nameB, qB, Fm.k, Fm.nm, hx, hy]
    kernel_rfl
  unfold rightE
  rw [if_pos hs]
  show limE (exF x y).wide (exF x y).size (exF x y).depth = 0
  rw [wideA, sizeA, show (exF x y).depth = 6 by kernel_rfl]
  decide
theorem showA : ofL (showL exA) = outA := by
  unfold showL
  rw [if_pos (rightA (by decide) (by decide))]
  kernel_rfl
theorem showC : ofL (showL exC) = outC := by
  unfold showL
  rw [if_pos (rightA (by decide) (by decide))]
  kernel_rfl
theorem nmS0 : nmS 0 = ⟨#[88, 48]⟩ := by
  have h : Lib.decDigits 0 = [48] := by unfold Lib.decDigits; rfl
  unfold nmS
  rw [h]
  apply ByteArray.ext; simp
theorem nmS1 : nmS 1 = ⟨#[88, 49]⟩ := by
  have h : Lib.decDigits 1 = [49] := by unfold Lib.decDigits; rfl
  unfold nmS
  rw [h]
  apply ByteArray.ext; simp
theorem vX : vB (.mk 0 ⟨#[88]⟩ []) = true := by decide
theorem vP : vB (.mk 0 ⟨#[64, 112]⟩ [.mk 0 ⟨#[88]⟩ []]) = false := by decide
theorem vQ : vB (.mk 0 ⟨#[64, 113]⟩ []) = false := by decide
theorem vT : vB trueT = false := by decide
theorem vZ : vB t0 = false := by decide
theorem closedA : clF (fun _ => 0) exA := by
  simp only [clF, clF.clFs, clT, clT.clTs, vX, vP, vQ, vT, vZ, and_true, true_and, Bool.false_eq_true, false_imp_iff, true_imp_iff]
  simp [upQ]
theorem canonA : (cnF (fun _ => none) 0 exA).1 = exC := by
  simp only [cnF, cnF.cnFs, rnT, rnT.rnTs, vX, vP, vQ, vT, vZ, if_true, if_false, Bool.false_eq_true]
  simp [gN, fput, nmS0, nmS1]
end
section
open Go.RowKit Go.Maps
open Lx (agg_store wpList_store_run row_block row_keep row_slice)
theorem exd (x y : ByteArray) : (exF x y).depth ≤ 1048577 := Int.le_trans (depthA x y) (by decide)
theorem w10 : wrap64 10 = 10 := by unfold wrap64; omega
theorem exz (x y : ByteArray) : wrap64 (exF x y).size = (exF x y).size := by rw [sizeA]; exact w10
theorem len27 : (shF exA).length = 27 := by kernel_rfl
theorem len30 : (shF exC).length = 30 := by kernel_rfl
theorem showsA {P : Nat → Prop} {sl sr sk : Value} {w : World} {f : Fm} (he : f = exA) (h : FmP P w f sl sr sk) (hP : ∀ k, P k → k < w.heap.size) (hsg : Sg w) : Calls Tryz.prog 14 #[fval f sl sr sk] w fun e w' => e = .returned (.string outA) ∧ Below w.heap.size w w' := by
  subst he
  have := fshow_any (f := exA) (exF_nsm (by decide) (by decide)) (exd _ _) (exz _ _) (fun _ => by rw [len27]; decide) h hP hsg
  rw [showA] at this
  exact this
theorem showsC {P : Nat → Prop} {sl sr sk : Value} {w : World} {f : Fm} (he : f = exC) (h : FmP P w f sl sr sk) (hP : ∀ k, P k → k < w.heap.size) (hsg : Sg w) : Calls Tryz.prog 14 #[fval f sl sr sk] w fun e w' => e = .returned (.string outC) ∧ Below w.heap.size w w' := by
  subst he
  have := fshow_any (f := exC) (exF_nsm (by decide) (by decide)) (exd _ _) (exz _ _) (fun _ => by rw [len30]; decide) h hP hsg
  rw [showC] at this
  exact this
theorem sizesA {P : Nat → Prop} {sl sr sk : Value} {w : World} {f : Fm} (he : f = exA) (h : FmP P w f sl sr sk) : Calls Tryz.prog 21 #[fval f sl sr sk] w fun e w' => e = .returned (.int .i64 10) ∧ Below w.heap.size w w' := by
  subst he
  have := fsize_any exA (shB_sane _ (rightE_sh (rightA (by decide) (by decide))) (exd _ _)) P sl sr sk w h
  rw [sizeA, w10] at this
  exact this
theorem canonsA {P : Nat → Prop} {sl sr sk : Value} {w : World} {f : Fm} (he : f = exA) (h : FmP P w f sl sr sk) (hP : ∀ k, P k → k < w.heap.size) : Calls Tryz.prog 16 #[fval f sl sr sk] w fun e w' => ∃ g sl sr sk, g = exC ∧ e = .returned (fval g sl sr sk) ∧ FmP (fun k => w.heap.size ≤ k) w' g sl sr sk ∧ Below w.heap.size w w' := by
  subst he
  have := canon_closed (f := exA) (K := 100) (by decide) (rightA (by decide) (by decide)) closedA (exF_nsm (by decide) (by decide)) (by rw [sizeA]; decide) (fun W => numbered_small W) h hP
  refine this.mono ?_
  rintro e w' ⟨a, b, c, rfl, h1, h2⟩
  exact ⟨_, a, b, c, canonA, rfl, h1, h2⟩
theorem alive_any (w : World) (hsg : Sg w) : Calls Tryz.prog 11 #[] w fun e w' => e = .returned (.bool true) ∧ Below w.heap.size w w' := by
  have hlt : 0 < w.heap.size := (Array.getElem?_eq_some_iff.1 hsg).1
  have hf1 := fof_any srcA w (by decide) hsg
  have HS := hidR (And.intro hsg hlt)
  clear hsg hlt
  go_enter Tryz.func11, Tryz.ntmps11
  go_wp2_with fail
  refine hf1.mono ?_
  clear hf1
  rintro e W1 ⟨f, sl, sr, sk, a, er, hr, rfl, hfm, hb1⟩
  obtain ⟨he, rfl, rfl⟩ := hr.one fofA
  clear hr
  obtain ⟨la, lc, rfl, -, -⟩ := hfm.l.slice'
  obtain ⟨ra, rc, rfl, -, -⟩ := hfm.r.slice'
  obtain ⟨ka, kc, rfl, -, -⟩ := hfm.k.slice
  have hbA := below_box W1 (fbox f (.slice la f.l.args.length lc) (.slice ra f.r.args.length rc) (.slice ka f.kids.length kc))
  have hzA := (MapKept.heap_alloc W1 (fbox f (.slice la f.l.args.length lc) (.slice ra f.r.args.length rc) (.slice ka f.kids.length kc))).1
  have hsA : (W1.alloc (fbox f (.slice la f.l.args.length lc) (.slice ra f.r.args.length rc) (.slice ka f.kids.length kc))).heap.size = W1.heap.size + 1 := World.size_alloc _ _
  obtain ⟨F, hF⟩ : ∃ F, W1.heap.size = F := ⟨_, rfl⟩
  obtain ⟨WA, hWA⟩ : ∃ X, W1.alloc (fbox f (.slice la f.l.args.length lc) (.slice ra f.r.args.length rc) (.slice ka f.kids.length kc)) = X := ⟨_, rfl⟩
  rw [hWA] at hbA hzA hsA
  rw [hF] at hzA hsA
  have hs1 := hb1.size
  have hb2 : Below w.heap.size w WA := hb1.trans (hbA.mono hs1)
  have hfA : FmP (fun k => k < F) WA f (.slice la f.l.args.length lc) (.slice ra f.r.args.length rc) (.slice ka f.kids.length kc) := hfm.keep hbA.size (fun k hk hl => ⟨by omega, hbA.block k hl⟩)
  have hsgA : Sg WA := (hb2.block 0 HS.out.2).trans HS.out.1
  have hf2 := fof_any srcB WA (by decide) hsgA
  have HA := hidR (And.intro hb2 (And.intro hzA (And.intro hfA (And.intro hsA hsgA))))
  have HWA := hidR hWA
  have HE := hidR he
  clear hbA hzA hsA hb2 hfA hsgA hs1 hb1 hfm hWA he
  go_upto_region 2 with fail
  try simp only [hF]
  rw [show _ = WA from HWA.out]
  clear HWA hF
  go_wp2_with fail
  refine hf2.mono ?_
  clear hf2
  rintro e W2 ⟨f2, sl2, sr2, sk2, a, er, hr, rfl, hfm2, hb2⟩
  obtain ⟨-, rfl, rfl⟩ := hr.one fofB
  clear hr
  obtain ⟨ma, mc, rfl, -, -⟩ := hfm2.l.slice'
  obtain ⟨na, nc, rfl, -, -⟩ := hfm2.r.slice'
  obtain ⟨oa, oc, rfl, -, -⟩ := hfm2.k.slice
  have hbB := below_box W2 (fbox f2 (.slice ma f2.l.args.length mc) (.slice na f2.r.args.length nc) (.slice oa f2.kids.length oc))
  obtain ⟨WB, hWB⟩ : ∃ X, W2.alloc (fbox f2 (.slice ma f2.l.args.length mc) (.slice na f2.r.args.length nc) (.slice oa f2.kids.length oc)) = X := ⟨_, rfl⟩
  rw [hWB] at hbB
  have hb3 : Below WA.heap.size WA WB := hb2.trans (hbB.mono hb2.size)
  have hzB : WB.heap[F]? = some (fbox f (.slice la f.l.args.length lc) (.slice ra f.r.args.length rc) (.slice ka f.kids.length kc)) := (hb3.block F (by have := HA.out.2.2.2.1; omega)).trans HA.out.2.1
  have hfB := HA.out.2.2.1.grow hb3
  have hwB : Below w.heap.size w WB := HA.out.1.trans (hb3.mono HA.out.1.size)
  have hsgB : Sg WB := (hwB.block 0 HS.out.2).trans HS.out.1
  have hFB : F < WB.heap.size := (Array.getElem?_eq_some_iff.1 hzB).1
  have hsh := showsA HE.out hfB (fun k hk => by omega) hsgB
  have HB := hidR (And.intro hwB (And.intro hzB (And.intro hfB (And.intro hFB hsgB))))
  have HWB := hidR hWB
  obtain ⟨⟨n0, n1, n2, n3, n4, n5, n6, n7, n8⟩, -⟩ := f_cells hzB
  clear hbB hb3 hzB hfB hwB hsgB hFB hWB hb2 hfm2 HA
  go_upto_region 3 with fail
  rw [show _ = WB from HWB.out]
  clear HWB
  go_wp2_with fail
  refine hsh.mono ?_
  clear hsh
  rintro e W3 ⟨rfl, hb4⟩
  have hz3 := (hb4.block F HB.out.2.2.2.1).trans HB.out.2.1
  have hf3 := HB.out.2.2.1.grow hb4
  have hw3 : Below w.heap.size w W3 := HB.out.1.trans (hb4.mono HB.out.1.size)
  have hsg3 : Sg W3 := (hw3.block 0 HS.out.2).trans HS.out.1
  have hsi := sizesA HE.out hf3
  have H3 := hidR (And.intro hw3 (And.intro hz3 (And.intro hf3 hsg3)))
  clear n0 n1 n2 n3 n4 n5 n6 n7 n8 hb4
  obtain ⟨⟨n0, n1, n2, n3, n4, n5, n6, n7, n8⟩, -⟩ := f_cells hz3
  clear hz3 hf3 hw3 hsg3 HB
  go_wp2_with fail
  refine hsi.mono ?_
  clear hsi
  rintro e W4 ⟨rfl, hb5⟩
  have hz4 := (hb5.block F (Array.getElem?_eq_some_iff.1 H3.out.2.1).1).trans H3.out.2.1
  have hf4 := H3.out.2.2.1.grow hb5
  have hw4 : Below w.heap.size w W4 := H3.out.1.trans (hb5.mono H3.out.1.size)
  have hF4 : F < W4.heap.size := (Array.getElem?_eq_some_iff.1 hz4).1
  have hca := canonsA HE.out hf4 (fun k hk => by omega)
  have H4 := hidR hw4
  clear n0 n1 n2 n3 n4 n5 n6 n7 n8 hb5
  obtain ⟨⟨n0, n1, n2, n3, n4, n5, n6, n7, n8⟩, -⟩ := f_cells hz4
  clear hz4 hf4 hw4 H3 hF4
  go_wp2_with fail
  refine hca.mono ?_
  clear hca n0 n1 n2 n3 n4 n5 n6 n7 n8
  rintro e W5 ⟨g, ql, qr, qk, hg, rfl, hfm5, hb6⟩
  have hw5 : Below w.heap.size w W5 := H4.out.trans (hb6.mono H4.out.size)
  have hsg5 : Sg W5 := (hw5.block 0 HS.out.2).trans HS.out.1
  obtain ⟨pa, pc, rfl, -, -⟩ := hfm5.l.slice'
  obtain ⟨qa, qc, rfl, -, -⟩ := hfm5.r.slice'
  obtain ⟨ra', rc', rfl, -, -⟩ := hfm5.k.slice
  have hsc := showsC (P := fun k => k < W5.heap.size) hg (hfm5.keep (Nat.le_refl _) (fun k _ hl => ⟨hl, rfl⟩)) (fun k hk => hk) hsg5
  have H5 := hidR hw5
  clear hfm5 hw5 hsg5 hb6 hg
  go_wp2_with fail
  refine hsc.mono ?_
  clear hsc
  rintro e W6 ⟨rfl, hb7⟩
  have H6 : Hid (Below w.heap.size w W6) := H5.out.trans (hb7.mono H5.out.size)
  clear hb7 H5
  go_wp2_with fail
  go_ret
  exact ⟨rfl, H6.out⟩
end
section
open Go.RowKit
/-- The boxes of both. -/
structure S2 (w : World) (R : Nat) (f : Fm) (sl sr sk sl2 sr2 sk2 : Value) (X : World) : Prop where
  bel : Below R w X
  b1 : X.heap[R]? = some (fbox f sl sr sk)
  b2 : X.heap[R + 1]? = some (fbox f sl2 sr2 sk2)
theorem S2.keep {w : World} {R : Nat} {f : Fm} {sl sr sk sl2 sr2 sk2 : Value} {X Y : World} (h : S2 w R f sl sr sk sl2 sr2 sk2 X) (hb : Below X.heap.size X Y) : S2 w R f sl sr sk sl2 sr2 sk2 Y := by
  have h1 := (Array.getElem?_eq_some_iff.1 h.b1).1
  have h2 := (Array.getElem?_eq_some_iff.1 h.b2).1
  exact ⟨h.bel.trans (hb.mono (by omega)), (hb.block R h1).trans h.b1, (hb.block (R + 1) h2).trans h.b2⟩
end
