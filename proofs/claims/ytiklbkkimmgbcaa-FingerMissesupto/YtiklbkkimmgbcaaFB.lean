/-
  The document's feature.
-/
import Derived.Test.YtiklbkkimmgbcaaFA
namespace Go.Proofs.Ytiklbkkimmgbcaa
open Go.RowKit Go.Maps

theorem Lk.keep {w W W' : World} {ty : TypeId} {t : T} {s : Value} (h : Lk w ty t s W) (hb : Below W.heap.size W W') : Lk w ty t s W' :=
  ⟨h.bel.trans (hb.mono h.bel.size), (hb.block _ (Array.getElem?_eq_some_iff.1 h.tb).1).trans h.tb, (hb.block _ (Array.getElem?_eq_some_iff.1 h.fb).1).trans h.fb, h.ar⟩

set_option maxRecDepth 100000 in
set_option maxHeartbeats 4000000 in
theorem feature_any (t : T) (s : Value) (pl : List Nat) (vp : Value) (w : World) (ha : ArgsAt w s t.args) (hp : RowAt (fun k : Nat => .int .i64 (k : Int)) w vp pl) :
    Calls Try.prog 33 #[tval t s, vp] w fun e w' => e = .returned (fval (feat t pl)) ∧ Below w.heap.size w w' := by
  have HL0 : Hid (Lk w 64 t s ((w.alloc (tbox t s)).alloc (.cells #[.int .i64 0, .int .i64 0, .string ⟨#[]⟩] 64))) := Lk.new w 64 t s ha
  obtain ⟨pa, pc, rfl, hpc, hpm⟩ := hp.slice
  have HP : Hid (RowAt (fun k : Nat => .int .i64 (k : Int)) w (.slice pa pl.length pc) pl) := hp
  obtain ⟨W1, h1⟩ : ∃ X, (w.alloc (tbox t s)).alloc (.cells #[.int .i64 0, .int .i64 0, .string ⟨#[]⟩] 64) = X := ⟨_, rfl⟩
  rw [h1] at HL0
  obtain ⟨sa, sc, rfl, _, _⟩ := ha.slice
  clear ha hp
  go_enter Try.func33, Try.ntmps33
  try rw [h1]
  go_wp2
  try rw [h1]
  go_loopw [5] (fun vi wr => ∃ (i : Nat) (u : T) (r : Value), vi = .int .i64 i ∧ i ≤ pl.length ∧ Hid (Lk w 64 u r wr ∧ feat t pl = feat u (pl.drop i))) (fun vi _ => pl.length - (intOf vi).toNat)
  case atStart => exact ⟨0, t, _, rfl, Nat.zero_le _, HL0.out, by simp⟩
  case round =>
    obtain ⟨i, u, r, rfl, hi, HI⟩ := hrel
    have HL : Hid (Lk w 64 u r wr) := HI.out.1
    obtain ⟨c0, c1, c2⟩ := HL.out.cells
    have har : ArgsAt w r u.args := HL.out.ar
    obtain ⟨ra, rc, rfl, _, hrm⟩ := har.slice
    have HA : Hid (ArgsAt w (.slice ra u.args.length rc) u.args) := har
    have hB := HL.out.bel
    clear har HL0
    by_cases hlt : i < pl.length
    · have hiI : (i : Int) < (pl.length : Int) := by omega
      obtain ⟨pb, po, rfl, hpb, hpcell⟩ := HP.out.nth hlt
      have hpc' := kc hB hpb hpcell
      by_cases h0 : u.fn.size = 0
      · have h00 : u.fn.toList.isEmpty = true := by rw [ba_isEmpty, h0]; rfl
        have HF : Hid (feat t pl = ⟨3, 0, ⟨#[]⟩⟩) := by show _ = _; rw [HI.out.2, feat_var h0 hlt]
        obtain ⟨W2, hrun, ⟨k0, k1, k2⟩, hb2⟩ := HL.out.told Try.info64z ⟨3, 0, ⟨#[]⟩⟩
        clear HI HL h0 hB
        go_wp2_with (first | (refine wpList_store_run rfl 64 _ _ rfl (.pointer (some ⟨w.heap.size + 1, 0, none⟩)) (fval ⟨3, 0, ⟨#[]⟩⟩) rfl rfl hrun ?_))
        refine bodyPost_ret (v := fval ⟨3, 0, ⟨#[]⟩⟩) (by simp [results, Try.results33, go_sem, *]) rfl ⟨by rw [HF.out], hb2⟩
      · have h00 : u.fn.toList.isEmpty = false := by rw [ba_isEmpty]; simpa using h0
        by_cases hk : pl[i] < u.args.length
        · have hkI : ¬ ((u.args.length : Int) ≤ (pl[i] : Int)) := by omega
          have hkN : ¬ (u.args.length ≤ pl[i]) := by omega
          have hkL : (pl[i] : Int) < (u.args.length : Int) := by omega
          have HF : Hid (feat t pl = feat u.args[pl[i]] (pl.drop (i + 1))) := by show _ = _; rw [HI.out.2, feat_down h0 hlt hk]
          obtain ⟨b, o, s2, rfl, hbl, d0, d1, d2, hs2⟩ := HA.out.nth hk
          have lw0 : w.heap.size < wr.heap.size := (Array.getElem?_eq_some_iff.1 HL.out.tb).1
          have lpb : pb < wr.heap.size := by have := hB.size; omega
          have F0 := cell_far lw0 c0
          have F1 := cell_far lw0 c1
          have F2 := cell_far lw0 c2
          have FP := cell_far lpb hpc'
          have hn0 : (0 : Int) ≤ (pl[i] : Int) := by omega
          obtain ⟨k, hkk⟩ : ∃ k, pl[i] = k := ⟨_, rfl⟩
          simp only [hkk] at *
          obtain ⟨ea, ec, rfl, _, _⟩ := hs2.slice
          have HS2 : Hid (ArgsAt w (.slice ea (u.args[k]).args.length ec) (u.args[k]).args) := hs2
          have HD : Hid (b < w.heap.size ∧ w.cell? ⟨b, o + k * 3, none⟩ = some (.int .i64 (u.args[k]).v) ∧ w.cell? ⟨b, o + k * 3 + 1, none⟩ = some (.string (u.args[k]).fn) ∧ w.cell? ⟨b, o + k * 3 + 2, none⟩ = some (.slice ea (u.args[k]).args.length ec)) := ⟨hbl, d0, d1, d2⟩
          have HPP : Hid (pb < w.heap.size ∧ w.cell? ⟨pb, po + i, none⟩ = some (.int .i64 (k : Int))) := ⟨hpb, hpcell⟩
          clear HI h0 hB hs2 d0 d1 d2 hbl hpb hpcell hpc'
          go_wp2
          refine wp_region_far (by kernel_rfl) ?_
          repeat (first | go_big_quiet_step (fail) | quiet_step (fail))
          refine wpQuiet_nil ?_
          intro _ hw'
          obtain ⟨pf, rfl⟩ := hw'
          have L1 := HL.out.keep (below_far wr pf)
          obtain ⟨Wd, hWd⟩ : ∃ Z, (far wr pf).drew = Z := ⟨_, rfl⟩
          have L2 : Lk w 64 u (.slice (some ⟨b, o, none⟩) u.args.length rc) Wd := L1.keep (by rw [← hWd]; exact (Below.refl _ (far wr pf)).drew)
          obtain ⟨g0, g1, g2⟩ := L2.cells
          have gp := kc L2.bel HPP.out.1 HPP.out.2
          have d0 := kc L2.bel HD.out.1 HD.out.2.1
          have d1 := kc L2.bel HD.out.1 HD.out.2.2.1
          have d2 := kc L2.bel HD.out.1 HD.out.2.2.2
          obtain ⟨W2, hrun, hL2⟩ := L2.next HS2.out
          have HL2 : Hid (Lk w 64 u.args[k] (.slice ea (u.args[k]).args.length ec) W2) := hL2
          have HBD : Hid (Below w.heap.size w Wd) := L2.bel
          clear hL2 L1 L2 F0 F1 F2 FP c0 c1 c2 HL
          go_wp2
          refine wp_region_held_drew (S := fun Z => Below w.heap.size w Z) (by kernel_rfl) (by rw [hWd]; exact HBD.out) (fun hHeld => ?_)
          rw [hWd] at hHeld ⊢
          refine take_mk 0 (.pointer (some ⟨w.heap.size, 2, none⟩)) rfl (by kernel_rfl) (by kernel_rfl) (by kernel_rfl) (fun _ _ _ h => h) (Or.inl ⟨by rfl, fun Z hZ => by go_simp⟩) (by assumption) ?_
          try simp only [Act.put, List.setIfInBounds_toArray, List.set_cons_zero, List.set_cons_succ]
          refine take_mk 2 (.slice (some ⟨pb, po, none⟩) pl.length pc) rfl (by kernel_rfl) (by kernel_rfl) (by kernel_rfl) (fun _ _ _ h => h) (Or.inl ⟨by rfl, fun Z hZ => by go_simp⟩) (by assumption) ?_
          try simp only [Act.put, List.setIfInBounds_toArray, List.set_cons_zero, List.set_cons_succ]
          refine take_mk 3 (.int .i64 (i : Int)) rfl (by kernel_rfl) (by kernel_rfl) (by kernel_rfl) (fun _ _ _ h => h) (Or.inl ⟨by rfl, fun Z hZ => by go_simp⟩) (by assumption) ?_
          try simp only [Act.put, List.setIfInBounds_toArray, List.set_cons_zero, List.set_cons_succ]
          refine take_mk 4 (.pointer (some ⟨pb, po + i, none⟩)) rfl (by kernel_rfl) (by kernel_rfl) (by kernel_rfl) (fun _ _ _ h => h) (Or.inl ⟨by rfl, fun Z hZ => by go_simp⟩) (by assumption) ?_
          try simp only [Act.put, List.setIfInBounds_toArray, List.set_cons_zero, List.set_cons_succ]
          refine take_mk 5 (.int .i64 (k : Int)) rfl (by kernel_rfl) (by kernel_rfl) (by kernel_rfl) (fun _ _ _ h => h) (Or.inl ⟨by rfl, fun Z hZ => by have z0 := kc hZ HPP.out.1 HPP.out.2; go_simp⟩) (by assumption) ?_
          try simp only [Act.put, List.setIfInBounds_toArray, List.set_cons_zero, List.set_cons_succ]
          refine wpAnyH_ready (rs := [1]) (by kernel_rfl) (by simp) (AllReadyH.cons (o := ⟨_, _, _, _, _, _⟩) rfl (fun K hK => ?_) AllReadyH.nil)
          rw [if_pos (by rfl)]
          go_simp
          refine hK.out _ _ hHeld (fun _ => ?_)
          clear hK K
          try simp only [Act.put, List.setIfInBounds_toArray, List.set_cons_zero, List.set_cons_succ]
          refine take_mk 6 (.pointer (some ⟨b, o + k * 3, none⟩)) rfl (by kernel_rfl) (by kernel_rfl) (by kernel_rfl) (fun _ _ _ h => h) (Or.inl ⟨by rfl, fun Z hZ => by go_simp⟩) (by assumption) ?_
          try simp only [Act.put, List.setIfInBounds_toArray, List.set_cons_zero, List.set_cons_succ]
          refine take_mk 7 (tval u.args[k] (.slice ea (u.args[k]).args.length ec)) rfl (by kernel_rfl) (by kernel_rfl) (by kernel_rfl) (fun _ _ _ h => h) (Or.inl ⟨by rfl, fun Z hZ => by have z0 := kc hZ HD.out.1 HD.out.2.1; have z1 := kc hZ HD.out.1 HD.out.2.2.1; have z2 := kc hZ HD.out.1 HD.out.2.2.2; go_simp⟩) (by assumption) ?_
          try simp only [Act.put, List.setIfInBounds_toArray, List.set_cons_zero, List.set_cons_succ]
          refine wpAnyH_ready (rs := [8]) (by kernel_rfl) (by simp) (AllReadyH.cons (o := ⟨_, _, _, _, _, _⟩) rfl (fun K hK => ?_) AllReadyH.nil)
          rw [if_pos (by rfl)]
          refine wp_store_run 24 _ _ rfl (.pointer (some ⟨w.heap.size, 0, none⟩)) (tval u.args[k] (.slice ea (u.args[k]).args.length ec)) rfl rfl hrun ?_
          refine hK.out _ _ HL2.out.bel (fun _ => ?_)
          clear hK K
          refine wpAnyH_done (by kernel_rfl) ?_ _
          try simp only [Act.put]
          clear hrun d0 d1 d2 gp g0 g1 g2 hHeld
          go_wp2
          go_roundw
          case rel => exact ⟨i + 1, _, _, by go_num, by omega, HL2.out, HF.out⟩
          case measure => simp [intOf]; omega
        · have hkI : ((u.args.length : Int) ≤ (pl[i] : Int)) := by omega
          have hkN : (u.args.length ≤ pl[i]) := by omega
          have HF : Hid (feat t pl = ⟨4, 0, ⟨#[]⟩⟩) := by show _ = _; rw [HI.out.2, feat_none h0 hlt hk]
          have lw0 : w.heap.size < wr.heap.size := (Array.getElem?_eq_some_iff.1 HL.out.tb).1
          have lpb : pb < wr.heap.size := by have := hB.size; omega
          have F0 := cell_far lw0 c0
          have F1 := cell_far lw0 c1
          have F2 := cell_far lw0 c2
          have FP := cell_far lpb hpc'
          clear HI h0 hB hk
          go_wp2
          refine wp_region_far (by kernel_rfl) ?_
          repeat (first | go_big_quiet_step (fail) | quiet_step (fail))
          refine wpQuiet_nil ?_
          intro _ hw'
          obtain ⟨pf, rfl⟩ := hw'
          obtain ⟨W2, hrun, ⟨k0, k1, k2⟩, hb2⟩ := (HL.out.keep (below_far wr pf)).told Try.info64z ⟨4, 0, ⟨#[]⟩⟩
          clear HL
          go_wp2_with (first | (refine wpList_store_run rfl 64 _ _ rfl (.pointer (some ⟨w.heap.size + 1, 0, none⟩)) (fval ⟨4, 0, ⟨#[]⟩⟩) rfl rfl hrun ?_))
          refine bodyPost_ret (v := fval ⟨4, 0, ⟨#[]⟩⟩) (by simp [results, Try.results33, go_sem, *]) rfl ⟨by rw [HF.out], hb2⟩
    · have hiI : ¬ (i : Int) < (pl.length : Int) := by omega
      by_cases h0 : u.fn.size = 0
      · have h00 : u.fn.toList.isEmpty = true := by rw [ba_isEmpty, h0]; rfl
        have HF : Hid (feat t pl = ⟨2, 0, ⟨#[]⟩⟩) := by show _ = _; rw [HI.out.2, feat_end (by omega), if_pos h0]
        obtain ⟨W2, hrun, ⟨k0, k1, k2⟩, hb2⟩ := HL.out.told Try.info64z ⟨2, 0, ⟨#[]⟩⟩
        clear HI HL h0 hB
        go_wp2_with (first | (refine wpList_store_run rfl 64 _ _ rfl (.pointer (some ⟨w.heap.size + 1, 0, none⟩)) (fval ⟨2, 0, ⟨#[]⟩⟩) rfl rfl hrun ?_))
        refine bodyPost_ret (v := fval ⟨2, 0, ⟨#[]⟩⟩) (by simp [results, Try.results33, go_sem, *]) rfl ⟨by rw [HF.out], hb2⟩
      · have h00 : u.fn.toList.isEmpty = false := by rw [ba_isEmpty]; simpa using h0
        have HF : Hid (feat t pl = ⟨1, u.args.length, u.fn⟩) := by show _ = _; rw [HI.out.2, feat_end (by omega), if_neg h0]
        obtain ⟨W2, hrun, ⟨k0, k1, k2⟩, hb2⟩ := HL.out.told Try.info64z ⟨1, u.args.length, u.fn⟩
        clear HI HL h0 hB
        go_wp2_with (first | (refine wpList_store_run rfl 64 _ _ rfl (.pointer (some ⟨w.heap.size + 1, 0, none⟩)) (fval ⟨1, u.args.length, u.fn⟩) rfl rfl hrun ?_))
        refine bodyPost_ret (v := fval ⟨1, u.args.length, u.fn⟩) (by simp [results, Try.results33, go_sem, *]) rfl ⟨by rw [HF.out], hb2⟩

end Go.Proofs.Ytiklbkkimmgbcaa
