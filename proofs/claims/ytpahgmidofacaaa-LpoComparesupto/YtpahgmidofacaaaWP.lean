/-
  meet.
-/
import Derived.Test.YtpahgmidofacaaaWO
import Derived.Deep.RegionLaw
namespace Go.Proofs.Ytpahgmidofacaaa
open Go.RowKit Go.Maps

set_option maxRecDepth 100000 in
set_option maxHeartbeats 4000000 in
theorem meet_list (br bv : Nat) (ts : List T) (ih : ∀ t ∈ ts, Meet br bv t.args) : Meet br bv ts := by
  intro sl Sy V w hH hA hsh hL
  obtain ⟨a, cc, rfl⟩ := hA.slice
  have hlen := hA.len
  obtain ⟨W0, hW0⟩ : ∃ W0, w.alloc (.cells #[.map (some br), .map (some bv)] 57) = W0 := ⟨_, rfl⟩
  have hb0 : Below w.heap.size w W0 := by rw [← hW0]; exact below_box w _
  obtain ⟨x0, x1⟩ := box2_cells w (.map (some br)) (.map (some bv)) 57
  rw [hW0] at x0 x1
  have hs0 : W0.heap.size = w.heap.size + 1 := by rw [← hW0]; simp
  have hbr := hH.mr.lt
  have hbv := hH.mv.lt
  have HS : Hid (Mt w br bv Sy V [] W0 Sy V ∧ ArgsP (Off br bv) w (.slice a ts.length cc) ts ∧ (∀ t ∈ ts, t.shape = true) ∧ (∀ t ∈ ts, Meet br bv t.args) ∧ (W0.cell? ⟨w.heap.size, 0, none⟩ = some (.map (some br)) ∧ W0.cell? ⟨w.heap.size, 1, none⟩ = some (.map (some bv)) ∧ w.heap.size < W0.heap.size) ∧ br < w.heap.size ∧ bv < w.heap.size ∧ Sy.length + V.length + szs ts ≤ 100000) :=
    ⟨⟨hH.below hb0, Only.of_below hb0, fun _ h => h, fun _ h => h, fun _ h => (by cases h), fun _ h => (by cases h), by simp [szs]⟩, hA, hsh, ih, ⟨x0, x1, by omega⟩, hbr, hbv, hL⟩
  clear hH hA hsh ih hb0 x0 x1 hs0 hbr hbv hL
  go_enter Try.func40, Try.ntmps40
  try rw [hW0]
  go_wp2
  try rw [hW0]
  go_loopw [10] (fun vi wr => ∃ i : Nat, vi = .int .i64 i ∧ i ≤ ts.length ∧ Hid (∃ Sy1 V1, Mt w br bv Sy V (ts.take i) wr Sy1 V1 ∧ wr.cell? ⟨w.heap.size, 0, none⟩ = some (.map (some br)) ∧ wr.cell? ⟨w.heap.size, 1, none⟩ = some (.map (some bv)) ∧ w.heap.size < wr.heap.size)) (fun vi _ => ts.length - (intOf vi).toNat)
  case atStart => exact ⟨0, rfl, Nat.zero_le _, Sy, V, by simpa using HS.out.1, HS.out.2.2.2.2.1⟩
  case round =>
    obtain ⟨i, rfl, hi, HI⟩ := hrel
    obtain ⟨Sy1, V1, hM, m0, m1, hsz⟩ := HI.out
    clear HI
    by_cases hlt : i < ts.length
    · obtain ⟨b, o, s, rfl, hP, hbl, c0, c1, c2, hs⟩ := (HS.out.2.1.only hM.on).nth hlt
      obtain ⟨sa, sc, rfl⟩ := hs.slice
      have ht : ts.take (i + 1) = ts.take i ++ [ts[i]] := List.take_succ_eq_append_getElem hlt
      have hle := szs_take hlt
      have hln := hM.ln
      have hza := szs_arg ts[i]
      have hLL := HS.out.2.2.2.2.2.2.2
      have HM : Hid (Mt w br bv Sy V (ts.take i) wr Sy1 V1 ∧ ArgsP (Off br bv) wr (.slice sa ts[i].args.length sc) ts[i].args ∧ Meet br bv ts[i].args ∧ ts[i].shape = true ∧ ts.take (i + 1) = ts.take i ++ [ts[i]] ∧ Sy1.length + V1.length + 2 * ts[i].size.toNat ≤ 100000) := ⟨hM, hs, HS.out.2.2.2.1 _ (List.getElem_mem hlt), HS.out.2.2.1 _ (List.getElem_mem hlt), ht, by omega⟩
      clear hM hs ht hle hln hza hLL
      obtain ⟨t, hti⟩ : ∃ t, ts[i] = t := ⟨_, rfl⟩
      rw [hti] at HM c0 c1 c2
      clear hti
      obtain ⟨W2, hW2⟩ : ∃ W2, wr.alloc (tbox t (.slice sa t.args.length sc)) = W2 := ⟨_, rfl⟩
      have hb2 : Below wr.heap.size wr W2 := by rw [← hW2]; exact below_box wr _
      obtain ⟨b0, b1, b2⟩ := tbox_cells wr t (.slice sa t.args.length sc)
      rw [hW2] at b0 b1 b2
      have n0 := kc hb2 hsz m0
      have n1 := kc hb2 hsz m1
      have hs2 : W2.heap.size = wr.heap.size + 1 := by rw [← hW2]; simp
      have HB2 : Hid (Below wr.heap.size wr W2 ∧ W2.heap.size = wr.heap.size + 1 ∧ w.heap.size < wr.heap.size ∧ Hd W2 br bv Sy1 V1) := ⟨hb2, hs2, hsz, HM.out.1.hd.below hb2⟩
      clear hb2 hs2 m0 m1
      have hza := szs_arg t
      rcases shape_cases HM.out.2.2.2.1 with ⟨h0, hv0, hv1, hargs⟩ | ⟨h0, hv, h64, h16, hsub⟩
      · -- a variable
        have hdd : t.fn.toList.isEmpty = true := by rw [ba_isEmpty]; exact decide_eq_true h0
        have fin : ∀ (V2 : List Int) (W4 : World), Hd W4 br bv Sy1 V2 → Only [br, bv] W2 W4 → t.v ∈ V2 → (∀ v ∈ V1, v ∈ V2) → V2.length ≤ V1.length + 1 → Calls Try.prog 40 #[.agg #[.map (some br), .map (some bv)], .slice sa t.args.length sc] W4 fun e W' => (∃ v, e = .returned v) ∧ Hid (∃ Sy3 V3, Mt w br bv Sy V (ts.take (i + 1)) W' Sy3 V3 ∧ W'.cell? ⟨w.heap.size, 0, none⟩ = some (.map (some br)) ∧ W'.cell? ⟨w.heap.size, 1, none⟩ = some (.map (some bv)) ∧ w.heap.size < W'.heap.size) := by
          intro V2 W4 hH4 hO4 hvm hvv hl2
          have hO : Only [br, bv] wr W4 := (Only.of_below (B := [br, bv]) HB2.out.1).trans hO4 (by simp)
          have hq := HM.out.2.2.2.2.2
          refine (HM.out.2.2.1 _ Sy1 V2 W4 hH4 (HM.out.2.1.only hO) (by rw [hargs]; intro t ht; cases ht) (by omega)).mono ?_
          rintro e W' ⟨he, Sy3, V3, hM3⟩
          refine ⟨he, Sy3, V3, ?_, ?_⟩
          · rw [HM.out.2.2.2.2.1]
            exact HM.out.1.snoc hO (fun _ h => h) hvv (by omega) (fun h => absurd h0 h) (fun _ => hvm) hM3
          · have hO5 := hO4.trans hM3.on (by simp)
            have := HS.out.2.2.2.2.2
            have hbn : w.heap.size ∉ [br, bv] := by simp; omega
            have := hO5.size
            exact ⟨cell_only hO5 (by have := HB2.out; omega) hbn n0, cell_only hO5 (by have := HB2.out; omega) hbn n1, by have := HB2.out; omega⟩
        obtain ⟨lk1, lk2⟩ := HB2.out.2.2.2.lookV (v := t.v) ⟨hv0, hv1⟩
        by_cases hvm : t.v ∈ V1
        · obtain ⟨k, hlk⟩ := lk1 hvm
          have hcall := fin V1 W2 HB2.out.2.2.2 (Only.refl _ _) hvm (fun _ h => h) (by omega)
          clear fin lk1 lk2 hvm h0 hargs
          go_wp2_with fail
          try rw [hW2]
          go_wp2_with fail
          refine hcall.mono ?_
          rintro e W3 ⟨⟨v3, rfl⟩, HN⟩
          go_wp2
          go_roundw
          case rel => exact ⟨i + 1, by go_num, by omega, HN⟩
          case measure => simp [intOf]; omega
        · have hlk := lk2 hvm
          have hq := HM.out.2.2.2.2.2
          obtain ⟨W4, hrun, hO4, hH4⟩ := HB2.out.2.2.2.putV (by omega) ⟨hv0, hv1⟩ hvm
          have hln := HB2.out.2.2.2.mv.len Try.underlying55 3
          have hcall := fin (V1 ++ [t.v]) W4 hH4 (hO4.trans (Only.refl [] _) (by simp) |> fun h => ⟨h.os, h.tape, h.output, h.size, fun k hk hn => h.block k hk (by simp at hn ⊢; exact hn.2)⟩) (by simp) (fun _ h => List.mem_append_left _ h) (by simp)
          have HX : Hid (Only [bv] W2 W4) := hO4
          have n0' : W4.cell? ⟨w.heap.size, 0, none⟩ = some (.map (some br)) := cell_only hO4 (by have := HB2.out; omega) (by simp; have := HS.out.2.2.2.2.2; omega) n0
          have n1' : W4.cell? ⟨w.heap.size, 1, none⟩ = some (.map (some bv)) := cell_only hO4 (by have := HB2.out; omega) (by simp; have := HS.out.2.2.2.2.2; omega) n1
          have b2' : W4.cell? ⟨wr.heap.size, 2, none⟩ = some (.slice sa t.args.length sc) := cell_only hO4 (by have := HB2.out; omega) (by simp; have := HS.out.2.2.2.2.2; have := HB2.out; omega) b2
          clear fin lk1 lk2 hvm h0 hargs hO4 hH4 hq hza HX
          go_wp2_with fail
          try rw [hW2]
          go_wp2_with (first | (refine wpList_mapUpdate_run rfl 55 _ _ _ rfl (.map (some bv)) (.int .i64 t.v) (.int .i64 (V1.length : Int)) rfl rfl rfl hrun ?_))
          refine hcall.mono ?_
          rintro e W3 ⟨⟨v3, rfl⟩, HN⟩
          go_wp2
          go_roundw
          case rel => exact ⟨i + 1, by go_num, by omega, HN⟩
          case measure => simp [intOf]; omega
      · -- a function
        have hdd : t.fn.toList.isEmpty = false := by rw [ba_isEmpty]; exact decide_eq_false h0
        have fin : ∀ (Sy2 : List (ByteArray × Nat)) (W4 : World), Hd W4 br bv Sy2 V1 → Only [br, bv] W2 W4 → (t.fn, t.args.length) ∈ Sy2 → (∀ v ∈ Sy1, v ∈ Sy2) → Sy2.length ≤ Sy1.length + 1 → Calls Try.prog 40 #[.agg #[.map (some br), .map (some bv)], .slice sa t.args.length sc] W4 fun e W' => (∃ v, e = .returned v) ∧ Hid (∃ Sy3 V3, Mt w br bv Sy V (ts.take (i + 1)) W' Sy3 V3 ∧ W'.cell? ⟨w.heap.size, 0, none⟩ = some (.map (some br)) ∧ W'.cell? ⟨w.heap.size, 1, none⟩ = some (.map (some bv)) ∧ w.heap.size < W'.heap.size) := by
          intro Sy2 W4 hH4 hO4 hvm hvv hl2
          have hO : Only [br, bv] wr W4 := (Only.of_below (B := [br, bv]) HB2.out.1).trans hO4 (by simp)
          have hq := HM.out.2.2.2.2.2
          refine (HM.out.2.2.1 _ Sy2 V1 W4 hH4 (HM.out.2.1.only hO) hsub (by omega)).mono ?_
          rintro e W' ⟨he, Sy3, V3, hM3⟩
          refine ⟨he, Sy3, V3, ?_, ?_⟩
          · rw [HM.out.2.2.2.2.1]
            exact HM.out.1.snoc hO hvv (fun _ h => h) (by omega) (fun _ => hvm) (fun h => absurd h h0) hM3
          · have hO5 := hO4.trans hM3.on (by simp)
            have := HS.out.2.2.2.2.2
            have hbn : w.heap.size ∉ [br, bv] := by simp; omega
            have := hO5.size
            exact ⟨cell_only hO5 (by have := HB2.out; omega) hbn n0, cell_only hO5 (by have := HB2.out; omega) hbn n1, by have := HB2.out; omega⟩
        have hsym := symbolOf_any t (.slice sa t.args.length sc) W2.drew ⟨_, _, rfl⟩
        have n0d : W2.drew.cell? ⟨w.heap.size, 0, none⟩ = some (.map (some br)) := n0
        have b0d : W2.drew.cell? ⟨wr.heap.size, 0, none⟩ = some (.int .i64 t.v) := b0
        have b1d : W2.drew.cell? ⟨wr.heap.size, 1, none⟩ = some (.string t.fn) := b1
        have b2d : W2.drew.cell? ⟨wr.heap.size, 2, none⟩ = some (.slice sa t.args.length sc) := b2
        have put : ∀ W3, Below W2.drew.heap.size W2.drew W3 → ∃ W4, (Instr.mapUpdate 54 (.map (some br)) (.agg #[.string t.fn, .int .i64 (t.args.length : Int)]) (.int .i64 0)).run Try.prog W3 = .ok () W4 ∧ Hid (∃ Sy2, Hd W4 br bv Sy2 V1 ∧ Only [br, bv] W2 W4 ∧ (t.fn, t.args.length) ∈ Sy2 ∧ (∀ v ∈ Sy1, v ∈ Sy2) ∧ Sy2.length ≤ Sy1.length + 1) ∧ (W3.cell? ⟨w.heap.size, 0, none⟩ = some (.map (some br)) ∧ W4.cell? ⟨w.heap.size, 0, none⟩ = some (.map (some br)) ∧ W4.cell? ⟨w.heap.size, 1, none⟩ = some (.map (some bv)) ∧ W4.cell? ⟨wr.heap.size, 2, none⟩ = some (.slice sa t.args.length sc)) := by
          intro W3 hb3
          have hbw : Below W2.heap.size W2 W3 := (Below.refl _ W2).drew.trans hb3
          have hq := HM.out.2.2.2.2.2
          obtain ⟨W4, hrun, hO4, Sy2, hH4, q1, q2, q3⟩ := (HB2.out.2.2.2.below hbw).putS (by omega) (s := (t.fn, t.args.length)) h64 h16 h0
          have hO24 : Only [br, bv] W2 W4 := (Only.of_below (B := [br, bv]) hbw).trans hO4 (by simp)
          have hbn : w.heap.size ∉ [br, bv] := by simp; have := HS.out.2.2.2.2.2; omega
          have hbn2 : wr.heap.size ∉ [br, bv] := by simp; have := HS.out.2.2.2.2.2; have := HB2.out; omega
          exact ⟨W4, hrun, ⟨Sy2, hH4, hO24, q1, q2, q3⟩, kc hbw (by have := HB2.out; omega) n0, cell_only hO24 (by have := HB2.out; omega) hbn n0, cell_only hO24 (by have := HB2.out; omega) hbn n1, cell_only hO24 (by have := HB2.out; omega) hbn2 b2⟩
        clear h0 hsub hza h64 h16 hv
        go_wp2_with fail
        try rw [hW2]
        go_region_law (first
          | (go_simp; go_at_call 45; refine hsym.mono ?_; rintro e W3 ⟨rfl, hb3⟩; obtain ⟨W4, hrun, HP4, z0, z1, z2, z3⟩ := put W3 hb3; clear hb3; go_simp))
        all_goals (
          obtain ⟨Sy2, hH4, hO4, q1, q2, q3⟩ := HP4.out
          have hcall := fin Sy2 W4 hH4 hO4 q1 q2 q3
          clear hH4 hO4 q1 q2 q3 put
          go_wp2_with fail
          refine hcall.mono ?_
          rintro e W5 ⟨⟨v3, rfl⟩, HN⟩
          go_wp2
          go_roundw
          case rel => exact ⟨i + 1, by go_num, by omega, HN⟩
          case measure => simp [intOf]; omega)
    · have HN : Hid (∃ Sy' V', Mt w br bv Sy V ts wr Sy' V') := by
        refine ⟨Sy1, V1, ?_⟩
        rwa [List.take_of_length_le (by omega)] at hM
      clear hM m0 m1
      go_wp2
      refine bodyPost_end (results_none rfl _ _ _) rfl ?_
      exact ⟨⟨_, rfl⟩, HN.out⟩

/-- Terms are met. -/
theorem meet_any (br bv : Nat) (ts : List T) : Meet br bv ts := by
  have h : ∀ t : T, Meet br bv t.args := by
    intro t
    induction t using T.ind with
    | _ t ih => exact meet_list br bv t.args ih
  exact meet_list br bv ts (fun t _ => h t)

end Go.Proofs.Ytpahgmidofacaaa
