/-
  QuotaBounds: the walk of the law where the limit is none below 0.
-/
import Derived.Test.YtiaebahmbgmajaaBounds
namespace Go.Proofs.Ytiaebahmbgmajaa
open Go.RowKit

/-- Behind i numbers: what was taken, and the account. -/
structure BI (w : World) (L : Int) (tks : List Int) (v : Value) (U P : Int) (g : Nat) (wr : World) : Prop where
  row : wr.ownsRow w.heap.size 3 1 v tks.length (tks.map (Value.int .i64))
  nn : ∀ x ∈ tks, 0 ≤ x
  acc : Acc wr (w.heap.size + 2) g [(L, U, P)]
  below : Below w.heap.size w wr

theorem BI.alloc {w wr : World} {L U P : Int} {tks : List Int} {v : Value} {g : Nat} (h : BI w L tks v U P g wr) (o : Obj) : BI w L tks v U P g (wr.alloc o) :=
  ⟨h.row.alloc o, h.nn, h.acc.alloc o, h.below.alloc h.below.size o⟩
theorem BI.tch {w wr w' : World} {L U P U' P' : Int} {tks : List Int} {v : Value} {g g' : Nat} (h : BI w L tks v U P g wr) (ht : Tch (w.heap.size + 2) wr w') (ha : Acc w' (w.heap.size + 2) g' [(L, U', P')]) : BI w L tks v U' P' g' w' :=
  ⟨ht.row h.acc.acc h.row, h.nn, ha, h.below.trans (ht.below (by omega) h.acc.acc.lt)⟩
theorem BI.bds {w wr : World} {L U P : Int} {tks : List Int} {v : Value} {g : Nat} (h : BI w L tks v U P g wr) : 0 ≤ U ∧ U ≤ P ∧ P ≤ L ∧ L ≤ 9223372036854775807 := h.acc.good.each (L, U, P) (by simp)

theorem BI.more {w w3 w4 : World} {L U P x : Int} {tks : List Int} {v v' : Value} {g : Nat} {o : Obj} (h : BI w L tks v U P g w3) (hx : 0 ≤ x) (h2 : w4.ownsRow w.heap.size 3 1 v' (tks.length + 1) (tks.map (Value.int .i64) ++ [.int .i64 x])) (h3 : (w3.alloc o).grownBy w4 v.ownBlock) : BI w L (tks ++ [x]) v' U P g w4 := by
  refine ⟨?_, fun y hy => ?_, (h.acc.alloc o).grown (h.row.alloc o) h3, (h.below.alloc h.below.size o).grown h3 (by have := h.below.size; simp; omega) (fun k hk => (h.row.lt k hk).1)⟩
  · rw [List.length_append, List.map_append]; exact h2
  · rcases List.mem_append.1 hy with h' | h'
    · exact h.nn y h'
    · simp at h'; omega

theorem one_new (w : World) (x : Int) : ∀ j u, [Value.int .i64 x][j]? = some u → (w.alloc (.cells #[.int .i64 x] 3)).cell? ((⟨w.heap.size, 0, none⟩ : Addr).add j) = some u := by
  intro j u hj
  rw [addr_add, cell_of_row _ _ _ _ 3 (0, 0) (heap_alloc_new w _)]
  cases j with
  | zero => simpa using hj
  | succ j => simp at hj

theorem sum_nn : ∀ l : List Int, (∀ x ∈ l, 0 ≤ x) → 0 ≤ l.sum
  | [], _ => by simp
  | a :: r, h => by
    have h1 := h a (by simp)
    have h2 := sum_nn r (fun x hx => h x (by simp [hx]))
    simp only [List.sum_cons]
    omega

theorem took_at {w wr : World} {L U P : Int} {tks : List Int} {ta : Option Addr} {n tc g : Nat} (h : BI w L tks (.slice ta n tc) U P g wr) (hn : tks.length = n) (j : Nat) (hj : j < n) :
    ∃ gb x, ta = some ⟨gb, 0, none⟩ ∧ wr.cell? ⟨gb, j, none⟩ = some (.int .i64 x) ∧ 0 ≤ x ∧ (tks.drop j).sum = x + (tks.drop (j + 1)).sum := by
  have hj' : j < tks.length := by omega
  rcases h.row.2 with ⟨e, e'⟩ | ⟨gb, cap, cur, e, _⟩
  · omega
  · simp only [Value.slice.injEq] at e
    obtain ⟨rfl, _, rfl⟩ := e
    refine ⟨gb, tks[j], rfl, ?_, h.nn _ (List.getElem_mem hj'), by rw [List.drop_eq_getElem_cons hj', List.sum_cons]⟩
    have := h.row.cells (g := gb) rfl j (.int .i64 tks[j]) (by simp [List.getElem?_eq_getElem hj'])
    rw [addr_add, Nat.zero_add] at this
    exact this

set_option maxRecDepth 100000 in
set_option maxHeartbeats 1000000 in
theorem bounds_main (L : Int) (v : Value) (xs : List Int) (w : World) (h : 0 ≤ L) (hL : L ≤ 9223372036854775807) (hv : Ints w v xs) (hlen : xs.length * 8 ≤ 140737488351232) :
    Calls Try.prog 5 #[.int .i64 L, v] w fun e w' => e = .returned (.bool true) ∧ Below w.heap.size w w' := by
  obtain ⟨p, c, rfl, hpc, hcm, hx⟩ := hv
  have HX : Hid (0 < xs.length → ∃ b o, p = some ⟨b, o, none⟩ ∧ ∀ i, i < xs.length → w.cell? ⟨b, o + i, none⟩ = some (.int .i64 (xs.getD i 0))) := hx
  clear hx
  obtain ⟨i0, hi, hz0, hz1, hz2⟩ := info_parts Try.info3
  go_enter Try.func5, Try.ntmps5
  go_wp2_with (first
    | (go_at_call 15; refine (new_one w L h hL).mono ?_; rintro e w1 ⟨rfl, ha1, hb1⟩; have HB1 : Hid (Acc w1 (w.heap.size + 2) (w.heap.size + 1) [(L, 0, 0)] ∧ Below w.heap.size w w1) := ⟨ha1, hb1⟩; clear ha1 hb1)
    | (go_at_call 14; refine (alive_any w1).mono ?_; rintro e w2 ⟨rfl, hb2⟩; have HB2 : Hid (BI w L [] (.slice none 0 0) 0 0 (w.heap.size + 1) w2) := ⟨World.ownsRow_nil _ _ _ _, by simp, ⟨HB1.out.1.acc.below hb2 HB1.out.1.acc.lt, HB1.out.1.cnt.below hb2 HB1.out.1.cnt.lt, HB1.out.1.good⟩, HB1.out.2.trans (hb2.mono HB1.out.2.size)⟩; clear hb2))
  go_loopw [7, 8] (fun tv ii wr => ∃ (i : Nat) (tks : List Int) (P : Int) (g : Nat), ii = .int .i64 i ∧ i ≤ xs.length ∧ tks.length ≤ i ∧ BI w L tks tv tks.sum P g wr) (fun _ ii _ => xs.length - (intOf ii).toNat)
  case atStart => exact ⟨0, [], 0, _, rfl, Nat.zero_le _, Nat.le_refl _, HB2.out⟩
  case round =>
    obtain ⟨i, tks, P, g, rfl, hi', htl, hBI⟩ := hrel
    obtain ⟨ta, tc, htv, htn, htc, _⟩ := row_form hBI.row
    subst htv
    obtain ⟨b1, b2, b3, b4⟩ := hBI.bds
    obtain ⟨U, hU⟩ : ∃ U, tks.sum = U := ⟨_, rfl⟩
    rw [hU] at hBI b1 b2
    have HU : Hid (tks.sum = U) := hU
    clear hU
    obtain ⟨n, hn⟩ : ∃ n, tks.length = n := ⟨_, rfl⟩
    rw [hn] at htl htn
    have HI : Hid (BI w L tks (.slice ta n tc) U P g wr ∧ tks.length = n) := ⟨by rw [hn] at hBI; exact hBI, hn⟩
    rw [hn]
    clear hBI hn
    by_cases hlt : i < xs.length
    · obtain ⟨b, o, hb, hcell⟩ := HX.out (by omega)
      subst hb
      have hci : wr.cell? ⟨b, o + i, none⟩ = some (.int .i64 (xs.getD i 0)) := (HI.out.1.below.cell (p := ⟨b, o + i, none⟩) (World.block_lt_of_cell? w _ (hcell i hlt))).trans (hcell i hlt)
      obtain ⟨x, hxx⟩ : ∃ x, xs.getD i 0 = x := ⟨_, rfl⟩
      rw [hxx] at hci
      have HC : Hid (∀ i, i < xs.length → w.cell? ⟨b, o + i, none⟩ = some (.int .i64 (xs.getD i 0))) := hcell
      clear hcell hxx
      by_cases hA : x < 0 ∨ L - U < x
      · have HA : Hid (x < 0 ∨ L - U < x) := hA
        clear hA
        go_wp2_with (first
          | (go_at_call 17; refine (take1_no _ g L U P x wr HI.out.1.acc HA.out).mono ?_; rintro e w3 ⟨⟨r, rfl, hr0⟩, ht3, g3, ha3⟩; have HI3 : Hid (BI w L tks (.slice ta n tc) U P g3 w3) := HI.out.1.tch ht3 ha3; clear ht3 ha3)
          | (go_at_call 25; refine (used1 _ g3 L U P _ (by repeat (first | exact HI3.out.acc | apply Acc.alloc))).mono ?_; rintro e w' ⟨rfl, o1, rfl⟩)
          | (go_at_call 26; refine (peak1 _ g3 L U P _ (by repeat (first | exact HI3.out.acc | apply Acc.alloc))).mono ?_; rintro e w' ⟨rfl, o1, rfl⟩))
        go_roundw
        case rel => exact ⟨i + 1, tks, P, g3, by go_num, by omega, by have := HI.out.2; omega, by rw [HU.out]; exact ((((HI3.out.alloc _).alloc _).alloc _).alloc _).alloc _⟩
        case measure => simp [intOf]; omega
      · have hx0 : 0 ≤ x := by omega
        have hxl : x ≤ L - U := by omega
        clear hA
        go_wp2_with (first
          | (go_at_call 17; refine (take1_yes _ g L U P x wr HI.out.1.acc hx0 hxl).mono ?_; rintro e w3 ⟨rfl, ht3, g3, P3, ha3⟩; have HI3 : Hid (BI w L tks (.slice ta n tc) (U + x) P3 g3 w3) := HI.out.1.tch ht3 ha3; clear ht3 ha3; have hci3 : w3.cell? ⟨b, o + i, none⟩ = some (.int .i64 x) := (HI3.out.below.cell (p := ⟨b, o + i, none⟩) (World.block_lt_of_cell? w _ (HC.out i hlt))).trans ((HI.out.1.below.cell (p := ⟨b, o + i, none⟩) (World.block_lt_of_cell? w _ (HC.out i hlt))).symm.trans hci); obtain ⟨d1, d2, d3, d4⟩ := HI3.out.bds)
          | (at_builtin; refine wpList_append_own_at _ rfl _ _ 25 rfl w.heap.size 3 i0 (.int .i64 0) 1 8 Try.underlying25 hi hz0 hz1 hz2 rfl (by decide) _ _ _ rfl (HI3.out.row.alloc (.cells #[.int .i64 x] 3)) ⟨w3.heap.size, 0, none⟩ 1 1 [.int .i64 x] rfl rfl (one_new w3 x) (by simp [Value.oneCell']) (by unfold maxLen; have := HI.out.2; omega) (by have := HI.out.2; omega) (by have := HI3.out.below.size; simp; omega) ?_; intro v' w4 h2 h3 h4 h5; have HI4 : Hid (BI w L (tks ++ [x]) v' (U + x) P3 g3 w4) := HI3.out.more hx0 h2 h3; obtain ⟨ta', tc', hv', _⟩ := row_form h2; subst hv'; clear h2 h3 h4 h5)
          | (go_at_call 25; refine (used1 _ g3 L (U + x) P3 _ (by repeat (first | exact HI4.out.acc | apply Acc.alloc))).mono ?_; rintro e w' ⟨rfl, o1, rfl⟩)
          | (go_at_call 26; refine (peak1 _ g3 L (U + x) P3 _ (by repeat (first | exact HI4.out.acc | apply Acc.alloc))).mono ?_; rintro e w' ⟨rfl, o1, rfl⟩))
        go_roundw
        case rel => exact ⟨i + 1, tks ++ [x], P3, g3, by go_num, by omega, by have := HI.out.2; simp; omega, by rw [List.sum_append, HU.out, List.sum_cons, List.sum_nil, Int.add_zero]; exact ((((HI4.out.alloc _).alloc _).alloc _).alloc _).alloc _⟩
        case measure => simp [intOf]; omega
    · clear HX HB2 HB1
      go_wp2
      go_loopw [9] (fun jj wr' => ∃ (j : Nat) (Uj Pj : Int) (gj : Nat), jj = .int .i64 j ∧ j ≤ n ∧ Uj = (tks.drop j).sum ∧ BI w L tks (.slice ta n tc) Uj Pj gj wr') (fun jj _ => n - (intOf jj).toNat)
      case atStart => exact ⟨0, U, P, g, rfl, Nat.zero_le _, by rw [List.drop_zero]; exact HU.out.symm, HI.out.1⟩
      case round =>
        obtain ⟨j, Uj, Pj, gj, rfl, hj, hUj, hBJ⟩ := hrel
        have HJ : Hid (BI w L tks (.slice ta n tc) Uj Pj gj wr ∧ Uj = (tks.drop j).sum) := ⟨hBJ, hUj⟩
        obtain ⟨e1, e2, e3, e4⟩ := hBJ.bds
        clear hUj hBJ
        by_cases hlt2 : j < n
        · obtain ⟨gb, x, hta, hcx, hx0, hxs⟩ := took_at HJ.out.1 HI.out.2 j hlt2
          subst hta
          have hxU : x ≤ Uj := by
            have := sum_nn (tks.drop (j + 1)) (fun y hy => HJ.out.1.nn y (List.mem_of_mem_drop hy))
            have := HJ.out.2
            omega
          have HS : Hid ((tks.drop j).sum = x + (tks.drop (j + 1)).sum) := hxs
          clear hxs
          go_wp2_with (go_at_call 19; refine (give1_yes _ gj L Uj Pj x _ HJ.out.1.acc hx0 hxU (by omega)).mono ?_; rintro e w5 ⟨rfl, ht5, g5, ha5⟩; have HI5 : Hid (BI w L tks (.slice (some ⟨gb, 0, none⟩) n tc) (Uj - x) Pj g5 w5) := HJ.out.1.tch ht5 ha5; clear ht5 ha5)
          go_roundw
          case rel => exact ⟨j + 1, Uj - x, Pj, g5, by go_num, by omega, by have := HJ.out.2; have := HS.out; omega, HI5.out⟩
          case measure => simp [intOf]; omega
        · have hU0 : Uj = 0 := by
            have := HJ.out.2
            rw [List.drop_eq_nil_of_le (by have := HI.out.2; omega)] at this
            simpa using this
          subst hU0
          go_wp2_with (go_at_call 25; refine (used1 _ gj L 0 Pj _ HJ.out.1.acc).mono ?_; rintro e w' ⟨rfl, o1, rfl⟩)
          go_ret
          exact ⟨rfl, (HJ.out.1.alloc o1).below⟩

end Go.Proofs.Ytiaebahmbgmajaa
