/-
  The walk of the document's Feed.
-/
import Derived.Test.YtdbfmjfbiokfdaaDoorParts
import Derived.OwnWalk
namespace Go.Proofs.YtdbfmjfbiokfdaaDoor
open Go.RowKit

/-- What is kept is the line from f on. -/
def RF (xs : List Int) (f i : Nat) : Prop := ((accS (xs.take i)).1, (accS (xs.take i)).2.1) = stepK [] false ((xs.drop f).take (i - f))

theorem acc_next (xs : List Int) (i : Nat) (h : i < xs.length) : accS (xs.take (i + 1)) = bstep (accS (xs.take i)) (xs.getD i 0) := by
  rw [List.take_succ_eq_append_getElem h]
  unfold accS
  rw [List.foldl_append, List.getD_eq_getElem?_getD, List.getElem?_eq_getElem h]
  rfl
theorem seg_next (xs : List Int) (f i : Nat) (hf : f ≤ i) (h : i < xs.length) : (xs.drop f).take (i + 1 - f) = (xs.drop f).take (i - f) ++ [xs.getD i 0] := by
  have e : i + 1 - f = (i - f) + 1 := by omega
  rw [e, List.take_succ_eq_append_getElem (by rw [List.length_drop]; omega), List.getD_eq_getElem?_getD, List.getElem?_eq_getElem h]
  simp only [List.getElem_drop, show f + (i - f) = i from by omega]
  rfl
theorem rf_zero (xs : List Int) : RF xs 0 0 := rfl
theorem rf_go (xs : List Int) (f i : Nat) (hf : f ≤ i) (h : i < xs.length) (hx : xs.getD i 0 ≠ 10) (hr : RF xs f i) : RF xs f (i + 1) ∧ (accS (xs.take (i + 1))).2.2 = (accS (xs.take i)).2.2 := by
  unfold RF at hr ⊢
  rw [acc_next xs i h, seg_next xs f i hf h]
  unfold bstep
  rw [if_neg hx]
  refine ⟨?_, rfl⟩
  have h1 := congrArg Prod.fst hr
  have h2 := congrArg Prod.snd hr
  simp only at h1 h2
  simp only [h1, h2, stepK_app]
theorem rf_line (xs : List Int) (f i : Nat) (h : i < xs.length) (hx : xs.getD i 0 = 10) (hr : RF xs f i) : RF xs (i + 1) (i + 1) ∧
    (accS (xs.take (i + 1))).2.2 = (accS (xs.take i)).2.2 ++ [(lineT (stepK [] false ((xs.drop f).take (i - f))).1 (stepK [] false ((xs.drop f).take (i - f))).2, lineE (stepK [] false ((xs.drop f).take (i - f))).1 (stepK [] false ((xs.drop f).take (i - f))).2)] := by
  unfold RF at hr ⊢
  rw [acc_next xs i h]
  unfold bstep
  rw [if_pos hx]
  have h1 := congrArg Prod.fst hr
  have h2 := congrArg Prod.snd hr
  simp only at h1 h2
  refine ⟨by simp [pstep, stepK], ?_⟩
  unfold pstep
  simp only [if_true, h1, h2, stepK_app, List.append_nil]
theorem line_long (seg : List Int) (h : 65536 < seg.length) : lineT (stepK [] false seg).1 (stepK [] false seg).2 = ⟨#[]⟩ ∧ lineE (stepK [] false seg).1 (stepK [] false seg).2 = 11 := by
  have : stepK [] false seg = ([], true) := by simp [stepK, h]
  rw [this]; exact ⟨rfl, rfl⟩
theorem line_bad (seg : List Int) (h : ¬ 65536 < seg.length) (hv : vld seg = false) : lineT (stepK [] false seg).1 (stepK [] false seg).2 = ⟨#[]⟩ ∧ lineE (stepK [] false seg).1 (stepK [] false seg).2 = 10 := by
  have : stepK [] false seg = (seg, false) := by simp [stepK]; omega
  rw [this]; simp [lineT, lineE, hv]
theorem line_good (seg : List Int) (h : ¬ 65536 < seg.length) (hv : vld seg = true) : lineT (stepK [] false seg).1 (stepK [] false seg).2 = strOfNums seg ∧ lineE (stepK [] false seg).1 (stepK [] false seg).2 = 0 := by
  have : stepK [] false seg = (seg, false) := by simp [stepK]; omega
  rw [this]; simp [lineT, lineE, hv]

theorem ret_feed {v : Value} {a b : Int} (h : a = b) : Ending.returned (.tuple #[v, .int .i64 a]) = .returned (.tuple #[v, .int .i64 b]) := by rw [h]

theorem Tryd.info55 : (Tryd.prog.info? 55).map (fun i => (i.zero, i.size, i.bytes)) = some (some (.agg #[.string ⟨#[]⟩, .int .i64 0]), 2, 24) := by kernel_rfl

set_option maxRecDepth 100000 in
set_option maxHeartbeats 1000000 in
theorem refFeed_any (v : Value) (xs : List Int) (w : World) (hv : Bts w v xs) (hx : xs.length ≤ 1048576) :
    Calls Tryd.prog 17 #[v] w fun e w' => ∃ vL, e = .returned (.tuple #[vL, .int .i64 (accS xs).1.length]) ∧ w'.ownsRow w.heap.size 55 2 vL (accS xs).2.2.length (flat (accS xs).2.2) ∧ Below w.heap.size w w' := by
  have hv0 := hv
  obtain ⟨p, c, rfl, hpc, hcm, _, hcell⟩ := hv
  have HC : Hid (0 < xs.length → ∃ b o, p = some ⟨b, o, none⟩ ∧ ∀ i, i < xs.length → w.cell? ⟨b, o + i, none⟩ = some (.int .u8 (xs.getD i 0))) := hcell
  have HV : Hid (Bts w (.slice p xs.length c) xs) := hv0
  clear hcell hv0
  obtain ⟨i0, hi0, hz0, hz1, hz2⟩ := info_parts Tryd.info55
  go_enter Tryd.func17, Tryd.ntmps17
  go_wp2
  go_loopw [4, 5, 6] (fun vo fr ii wr => ∃ i f : Nat, ii = .int .i64 i ∧ fr = .int .i64 f ∧ f ≤ i ∧ i ≤ xs.length ∧ RF xs f i ∧ wr.ownsRow w.heap.size 55 2 vo (accS (xs.take i)).2.2.length (flat (accS (xs.take i)).2.2) ∧ Below w.heap.size w wr) (fun _ _ ii _ => xs.length - (intOf ii).toNat)
  case atStart => exact ⟨0, 0, rfl, rfl, Nat.le_refl _, Nat.zero_le _, rf_zero xs, World.ownsRow_nil _ _ _ _, Below.refl _ _⟩
  case round =>
    obtain ⟨i, f, rfl, rfl, hfi, hix, hrf, hrow, hb⟩ := hrel
    have hlen := accS_len (xs.take i)
    have hlt2 : (xs.take i).length ≤ i := List.length_take_le _ _
    obtain ⟨L, hL⟩ : ∃ L, (accS (xs.take i)).2.2 = L := ⟨_, rfl⟩
    have HL : Hid ((accS (xs.take i)).2.2 = L) := hL
    rw [hL] at hrow hlen
    clear hL
    have HR : Hid (RF xs f i) := hrf
    clear hrf
    by_cases hlt : i < xs.length
    · obtain ⟨b, o, hpe, hcell⟩ := HC.out (by omega)
      subst hpe
      have hci : wr.cell? ⟨b, o + i, none⟩ = some (.int .u8 (xs.getD i 0)) := (hb.cell (p := ⟨b, o + i, none⟩) (World.block_lt_of_cell? w _ (hcell i hlt))).trans (hcell i hlt)
      clear hcell
      have HG := rf_go xs f i hfi hlt
      have HN := rf_line xs f i hlt
      have HGo : Hid (xs.getD i 0 ≠ 10 → RF xs f i → RF xs f (i + 1) ∧ (accS (xs.take (i + 1))).2.2 = (accS (xs.take i)).2.2) := HG
      obtain ⟨x, hxx⟩ : ∃ x, xs.getD i 0 = x := ⟨_, rfl⟩
      rw [hxx] at hci HGo HN
      clear HG hxx
      by_cases h10 : x = 10
      · subst h10
        obtain ⟨hn1, hn2⟩ := HN rfl HR.out
        have HN1 : Hid (RF xs (i + 1) (i + 1)) := hn1
        have hseg : Bts wr (.slice (some ⟨b, o + f, none⟩) (i - f) (c - f)) ((xs.drop f).take (i - f)) := by
          obtain ⟨p', c', e, h1, h2, h3, h4⟩ := HV.out.part hfi (by omega) (some ⟨b, o + f, none⟩) (fun _ => by simp only [Option.map_some, addr_add])
          refine ⟨p', c', e, h1, h2, h3, fun hp => ?_⟩
          obtain ⟨b', o', rfl, hc⟩ := h4 hp
          exact ⟨b', o', rfl, fun j hj => (hb.cell (p := ⟨b', o' + j, none⟩) (World.block_lt_of_cell? w _ (hc j hj))).trans (hc j hj)⟩
        have hsl : ((xs.drop f).take (i - f)).length = i - f := by rw [List.length_take, List.length_drop]; omega
        obtain ⟨seg, hse⟩ : ∃ seg, (xs.drop f).take (i - f) = seg := ⟨_, rfl⟩
        rw [hse] at hseg hsl hn2
        clear hse HN hn1 HGo
        rw [HL.out] at hn2
        have HN2 : Hid ((accS (xs.take (i + 1))).2.2 = L ++ [(lineT (stepK [] false seg).1 (stepK [] false seg).2, lineE (stepK [] false seg).1 (stepK [] false seg).2)]) := hn2
        clear hn2
        have HSL : Hid (seg.length = i - f) := hsl
        clear hsl
        by_cases hlong : 65536 < i - f
        · have hline := line_long seg (by rw [HSL.out]; exact hlong)
          go_wp2_with (at_builtin; refine wpList_append_own _ rfl _ _ 34 rfl w.heap.size 55 i0 _ 2 24 Tryd.underlying34 hi0 hz0 hz1 hz2 rfl (by decide) _ _ _ rfl (hrow.alloc _) ⟨wr.heap.size, 0, none⟩ 1 1 [.string ⟨#[]⟩, .int .i64 11] rfl rfl (cell_two_new' _ _ _ _) (by simp [Value.oneCell']) (by unfold maxLen; omega) (by omega) (by have := hb.size; simp; omega) ?_; intro v' w1 hown' hgrow _; obtain ⟨g', cap', hv'⟩ := ownsRow_succ hown'; subst hv')
          go_roundw
          case rel =>
            have hb2 := hb.alloc hb.size (.cells #[.string ⟨#[]⟩, .int .i64 11] 55)
            exact ⟨i + 1, i + 1, by go_num, by go_num, Nat.le_refl _, by omega, HN1.out, by rw [HN2.out, hline.1, hline.2, flat_snoc, List.length_append]; exact hown', hb2.grown hgrow hb2.size (fun k e => (hrow.lt k e).1)⟩
          case measure => simp [intOf]; omega
        · have HVV := refValid_any _ seg wr hseg (by rw [HSL.out]; omega)
          by_cases hvl : vld seg = true
          · have hline := line_good seg (by rw [HSL.out]; exact hlong) hvl
            rw [hvl] at HVV
            have hcv := conv_any wr _ seg hseg
            go_wp2_with (first | (go_at_call 9; refine HVV.mono ?_; clear HVV; rintro e w' ⟨rfl, hw'⟩; have hw2 := hw'.symm; subst hw2) | (at_builtin; refine wpList_append_own _ rfl _ _ 34 rfl w.heap.size 55 i0 _ 2 24 Tryd.underlying34 hi0 hz0 hz1 hz2 rfl (by decide) _ _ _ rfl (hrow.alloc _) ⟨wr.heap.size, 0, none⟩ 1 1 [.string (strOfNums seg), .int .i64 0] rfl rfl (cell_two_new' _ _ _ _) (by simp [Value.oneCell']) (by unfold maxLen; omega) (by omega) (by have := hb.size; simp; omega) ?_; intro v' w1 hown' hgrow _; obtain ⟨g', cap', hv'⟩ := ownsRow_succ hown'; subst hv'))
            go_roundw
            case rel =>
              have hb2 := hb.alloc hb.size (.cells #[.string (strOfNums seg), .int .i64 0] 55)
              exact ⟨i + 1, i + 1, by go_num, by go_num, Nat.le_refl _, by omega, HN1.out, by rw [HN2.out, hline.1, hline.2, flat_snoc, List.length_append]; exact hown', hb2.grown hgrow hb2.size (fun k e => (hrow.lt k e).1)⟩
            case measure => simp [intOf]; omega
          · have hvl' : vld seg = false := by simpa using hvl
            have hline := line_bad seg (by rw [HSL.out]; exact hlong) hvl'
            rw [hvl'] at HVV
            go_wp2_with (first | (go_at_call 9; refine HVV.mono ?_; clear HVV; rintro e w' ⟨rfl, hw'⟩; have hw2 := hw'.symm; subst hw2) | (at_builtin; refine wpList_append_own _ rfl _ _ 34 rfl w.heap.size 55 i0 _ 2 24 Tryd.underlying34 hi0 hz0 hz1 hz2 rfl (by decide) _ _ _ rfl (hrow.alloc _) ⟨wr.heap.size, 0, none⟩ 1 1 [.string ⟨#[]⟩, .int .i64 10] rfl rfl (cell_two_new' _ _ _ _) (by simp [Value.oneCell']) (by unfold maxLen; omega) (by omega) (by have := hb.size; simp; omega) ?_; intro v' w1 hown' hgrow _; obtain ⟨g', cap', hv'⟩ := ownsRow_succ hown'; subst hv'))
            go_roundw
            case rel =>
              have hb2 := hb.alloc hb.size (.cells #[.string ⟨#[]⟩, .int .i64 10] 55)
              exact ⟨i + 1, i + 1, by go_num, by go_num, Nat.le_refl _, by omega, HN1.out, by rw [HN2.out, hline.1, hline.2, flat_snoc, List.length_append]; exact hown', hb2.grown hgrow hb2.size (fun k e => (hrow.lt k e).1)⟩
            case measure => simp [intOf]; omega
      · obtain ⟨hg1, hg2⟩ := HGo.out h10 HR.out
        rw [HL.out] at hg2
        have HG1 : Hid (RF xs f (i + 1)) := hg1
        have HG2 : Hid ((accS (xs.take (i + 1))).2.2 = L) := hg2
        clear hg1 hg2 HN HGo
        have hbb : (x == 10) = false := by rw [beq_eq_false_iff_ne]; exact h10
        obtain ⟨vo1, vo2, hvo, _⟩ := row_form hrow
        subst hvo
        go_wp2
        go_roundw
        case rel => exact ⟨i + 1, f, by go_num, rfl, by omega, by omega, HG1.out, by rw [HG2.out]; exact hrow, hb⟩
        case measure => simp [intOf]; omega
    · obtain rfl : i = xs.length := by omega
      have hr := HR.out
      unfold RF at hr
      rw [List.take_length] at hr
      have hLx := HL.out
      rw [List.take_length] at hLx
      have hk := congrArg Prod.fst hr
      simp only at hk
      have hsl : ((xs.drop f).take (xs.length - f)).length = xs.length - f := by rw [List.length_take, List.length_drop]; omega
      have hkl : (accS xs).1.length = if 65536 < xs.length - f then 0 else xs.length - f := by
        rw [hk]
        unfold stepK
        simp only [List.length_nil, Nat.zero_add, hsl, Bool.false_eq_true, false_or]
        split
        · rfl
        · simp only [List.nil_append, hsl]
      subst hLx
      have HKL : Hid ((accS xs).1.length = if 65536 < xs.length - f then 0 else xs.length - f) := hkl
      clear hkl hr hk hsl HL HR
      obtain ⟨vo1, vo2, hvo, _⟩ := row_form hrow
      subst hvo
      by_cases hbig : 65536 < xs.length - f
      · go_wp2
        go_ret2
        exact ⟨_, by rw [HKL.out, if_pos hbig]; rfl, hrow, hb⟩
      · go_wp2
        go_ret2
        exact ⟨_, ret_feed (by rw [HKL.out, if_neg hbig]; omega), hrow, hb⟩

/-- A slice value that holds these lines, wherever it lies. -/
def LinesAt (w : World) (v : Value) (L : List (ByteArray × Int)) : Prop :=
  ∃ p c, v = .slice p L.length c ∧ L.length ≤ c ∧ c ≤ 9223372036854775807 ∧
    (0 < L.length → ∃ g o, p = some ⟨g, o, none⟩ ∧ ∀ k (h : k < L.length), w.cell? ⟨g, o + k * 2, none⟩ = some (.string L[k].1) ∧ w.cell? ⟨g, o + k * 2 + 1, none⟩ = some (.int .i64 L[k].2))

theorem row_lines {W : World} {base e : Nat} {v : Value} {L : List (ByteArray × Int)} (h : W.ownsRow base e 2 v L.length (flat L)) : LinesAt W v L := by
  obtain ⟨a, c, rfl, h1, h2, _⟩ := row_form h
  refine ⟨a, c, rfl, h1, h2, fun hp => ?_⟩
  obtain ⟨g, d, e, _⟩ := line_cells h 0 hp
  cases e
  refine ⟨g, 0, rfl, fun k hk => ?_⟩
  obtain ⟨g', d', e', x, y⟩ := line_cells h k hk
  cases e'
  rw [Nat.zero_add]
  exact ⟨x, y⟩

set_option maxRecDepth 100000 in
set_option maxHeartbeats 1000000 in
theorem same_any (v1 v2 : Value) (L : List (ByteArray × Int)) (w : World) (h1 : LinesAt w v1 L) (h2 : LinesAt w v2 L) :
    Calls Tryd.prog 18 #[v1, v2] w fun e w' => e = .returned (.bool true) ∧ ∃ n, w' = w.drewN n := by
  obtain ⟨p1, c1, rfl, l1, m1, k1⟩ := h1
  obtain ⟨p2, c2, rfl, l2, m2, k2⟩ := h2
  have K1 : Hid (0 < L.length → ∃ g o, p1 = some ⟨g, o, none⟩ ∧ ∀ k (h : k < L.length), w.cell? ⟨g, o + k * 2, none⟩ = some (.string L[k].1) ∧ w.cell? ⟨g, o + k * 2 + 1, none⟩ = some (.int .i64 L[k].2)) := k1
  have K2 : Hid (0 < L.length → ∃ g o, p2 = some ⟨g, o, none⟩ ∧ ∀ k (h : k < L.length), w.cell? ⟨g, o + k * 2, none⟩ = some (.string L[k].1) ∧ w.cell? ⟨g, o + k * 2 + 1, none⟩ = some (.int .i64 L[k].2)) := k2
  clear k1 k2
  go_enter Tryd.func18, Tryd.ntmps18
  go_wp2
  go_loopw [5] (fun j wr => ∃ i q : Nat, j = .int .i64 i ∧ i ≤ L.length ∧ wr = w.drewN q) (fun j _ => L.length - (intOf j).toNat)
  case atStart => exact ⟨0, 0, rfl, Nat.zero_le _, rfl⟩
  case round =>
    obtain ⟨i, q, rfl, hi, hw⟩ := hrel
    subst hw
    by_cases hlt : i < L.length
    · obtain ⟨g1, o1, e1, hc1⟩ := K1.out (by omega)
      obtain ⟨g2, o2, e2, hc2⟩ := K2.out (by omega)
      subst e1
      subst e2
      obtain ⟨x1, y1⟩ := hc1 i hlt
      obtain ⟨x2, y2⟩ := hc2 i hlt
      obtain ⟨X, hX⟩ : ∃ X, L[i].1 = X := ⟨_, rfl⟩
      obtain ⟨Y, hY⟩ : ∃ Y, L[i].2 = Y := ⟨_, rfl⟩
      rw [hX] at x1 x2
      rw [hY] at y1 y2
      clear hX hY hc1 hc2
      go_wp2
      go_quiet (fail)
      go_wp2
      go_roundw
      case rel => exact ⟨i + 1, _, by go_num, by omega, rfl⟩
      case measure => simp [intOf]; omega
    · go_wp2
      go_ret
      exact ⟨rfl, q, rfl⟩

end Go.Proofs.YtdbfmjfbiokfdaaDoor
