/-
  The walk of change, with each of the three closures.
-/
import Derived.Test.YtiaebahmbgmajaaD
import Derived.OwnWalk
namespace Go.Proofs.Ytiaebahmbgmajaa
open Go.RowKit

theorem made_cnt (n : Nat) : (madeCells (Value.agg #[.int .i64 0, .int .i64 0, .int .i64 0]).cells (n * 3)).size = n * 3 := size_madeCells _ _

theorem AAt.below {W W' : World} {Ba g n B : Nat} (h : AAt W Ba g n) (hb : Below B W W') (hB : Ba < B) : AAt W' Ba g n := (hb.block Ba hB).trans h
theorem CAt.below {W W' : World} {g B : Nat} {cs : List Cnt} (h : CAt W g cs) (hb : Below B W W') (hB : g < B) : CAt W' g cs := (hb.block g hB).trans h
theorem AAt.ne {W : World} {Ba g n : Nat} {cs : List Cnt} (h : AAt W Ba g n) (hc : CAt W g cs) : Ba ≠ g := by
  intro e
  subst e
  have := (show W.heap[Ba]? = _ from h).symm.trans hc
  simp at this
theorem AAt.store {W : World} {Ba g n : Nat} (h : AAt W Ba g n) (g' : Nat) : AAt (W.setCell ⟨Ba, 0, none⟩ (.slice (some ⟨g', 0, none⟩) n n)) Ba g' n := by
  unfold AAt
  rw [setCell_eq_setRow W Ba 0 _ 51 (0, 0) _ h, setRow_heap W Ba _ _ 51 (0, 0) h]
  simp

/-- The world in which the counts are copied. -/
theorem copied (w : World) (Ba g : Nat) (cs : List Cnt) (_h : AAt w Ba g cs.length) (hc : CAt w g cs) (arr : Array Value) (hs : arr.size = cs.length * 3) :
    CAt ((w.alloc (.cells arr 49)).setRow w.heap.size (cflat cs).toArray) w.heap.size cs ∧ Below w.heap.size w ((w.alloc (.cells arr 49)).setRow w.heap.size (cflat cs).toArray) ∧ (Builtin.copy_ #[47, 47] 3 #[.slice (some ⟨w.heap.size, 0, none⟩) cs.length cs.length, .slice (some ⟨g, 0, none⟩) cs.length cs.length]).run Try.prog (w.alloc (.cells arr 49)) = .ok (goInt cs.length) ((w.alloc (.cells arr 49)).setRow w.heap.size (cflat cs).toArray) := by
  have hn : (w.alloc (.cells arr 49)).heap[w.heap.size]? = some (.cells arr 49 (0, 0)) := heap_alloc_new w _
  have hb : Below w.heap.size w (w.alloc (.cells arr 49)) := (Below.refl _ w).alloc (Nat.le_refl _) _
  refine ⟨setRow_heap _ _ _ _ 49 (0, 0) hn, hb.trans ⟨rfl, rfl, rfl, by simp [World.setRow], fun k hk => setRow_other _ _ k _ (by omega)⟩, ?_⟩
  exact run_copy_cnt (w.alloc (.cells arr 49)) 3 g w.heap.size cs arr hn hs ((hb.block g hc.lt).trans hc)

/-- What change leaves where the closure says OK. -/
theorem changed {w W W' : World} {Ba g : Nat} {cs cs' : List Cnt} (hlt : Ba < w.heap.size) (hB : Below w.heap.size w W) (hT : Tch w.heap.size W W') (hA : AAt W' Ba g cs.length) (hC : CAt W' w.heap.size cs') :
    Tch Ba w (W'.setCell ⟨Ba, 0, none⟩ (.slice (some ⟨w.heap.size, 0, none⟩) cs.length cs.length)) ∧ AAt (W'.setCell ⟨Ba, 0, none⟩ (.slice (some ⟨w.heap.size, 0, none⟩) cs.length cs.length)) Ba w.heap.size cs.length ∧ CAt (W'.setCell ⟨Ba, 0, none⟩ (.slice (some ⟨w.heap.size, 0, none⟩) cs.length cs.length)) w.heap.size cs' := by
  have hs := hB.size
  have hs2 := hT.size
  refine ⟨⟨hT.os.trans hB.os, hT.tape.trans hB.tape, hT.output.trans hB.output, by simp [World.setCell]; omega, fun k hk hn => ?_⟩, hA.store _, ?_⟩
  · rw [Below.heap_setCell _ _ _ k hn, hT.block k (by omega) (by omega), hB.block k hk]
  · exact (Below.heap_setCell _ _ _ _ (by simp; omega)).trans hC
/-- And where it says an error. -/
theorem unchanged {w W W' : World} {Ba g : Nat} {cs : List Cnt} (h : AAt w Ba g cs.length) (hc : CAt w g cs) (hB : Below w.heap.size w W) (hT : Tch w.heap.size W W') :
    Tch Ba w W' ∧ AAt W' Ba g cs.length ∧ CAt W' g cs := by
  have hs := hB.size
  have hs2 := hT.size
  have h1 := h.lt
  have h2 := hc.lt
  have hb : ∀ k, k < w.heap.size → W'.heap[k]? = w.heap[k]? := fun k hk => by rw [hT.block k (by omega) (by omega), hB.block k hk]
  exact ⟨⟨hT.os.trans hB.os, hT.tape.trans hB.tape, hT.output.trans hB.output, by omega, fun k hk _ => hb k hk⟩, (hb Ba h1).trans h, (hb g h2).trans hc⟩

set_option maxHeartbeats 1000000 in
theorem change_32 (Ba g Bk Bn : Nat) (cs cs' : List Cnt) (r : Int) (w : World) (h : AAt w Ba g cs.length) (hc : CAt w g cs) (hlen : cs.length ≤ 16)
    (hcl : ∀ W, CAt W w.heap.size cs → Below w.heap.size w W → Calls Try.prog 32 #[.slice (some ⟨w.heap.size, 0, none⟩) cs.length cs.length, .pointer (some ⟨Bk, 0, none⟩), .pointer (some ⟨Bn, 0, none⟩)] W fun e W' => e = .returned (.int .i64 r) ∧ Tch w.heap.size W W' ∧ (r = 0 → CAt W' w.heap.size cs')) :
    Calls Try.prog 31 #[.pointer (some ⟨Ba, 0, none⟩), .func (.func 32) #[] #[.pointer (some ⟨Bk, 0, none⟩), .pointer (some ⟨Bn, 0, none⟩)]] w fun e w' => e = .returned (.int .i64 r) ∧ Tch Ba w w' ∧ (r = 0 → AAt w' Ba w.heap.size cs.length ∧ CAt w' w.heap.size cs') ∧ (r ≠ 0 → AAt w' Ba g cs.length ∧ CAt w' g cs) := by
  have c0 := h.cell
  have hlt := h.lt
  have hglt := hc.lt
  obtain ⟨i0, hi, hz0, hz1, hz2⟩ := info_parts Try.info49
  obtain ⟨arr, harr⟩ : ∃ arr, madeCells (Value.agg #[.int .i64 0, .int .i64 0, .int .i64 0]).cells (cs.length * 3) = arr := ⟨_, rfl⟩
  have hs : arr.size = cs.length * 3 := by rw [← harr]; exact made_cnt _
  have hmk : (Instr.makeSlice 47 (.int .i64 cs.length) (.int .i64 cs.length)).run Try.prog w = .ok (.slice (some ⟨w.heap.size, 0, none⟩) cs.length cs.length) (w.alloc (.cells arr 49)) := by
    have := run_make (P := Try.prog) w 47 49 i0 _ Try.underlying47 hi hz0 .i64 .i64 cs.length cs.length (by omega) (Int.le_refl _) (by rw [hz2]; omega) (by omega)
    rw [hz1] at this
    simp only [Int.toNat_natCast, harr] at this
    exact this
  obtain ⟨hC, hB, hcp⟩ := copied w Ba g cs h hc arr hs
  obtain ⟨W, hW⟩ : ∃ W, (w.alloc (.cells arr 49)).setRow w.heap.size (cflat cs).toArray = W := ⟨_, rfl⟩
  rw [hW] at hC hB hcp
  have c1 : (w.alloc (.cells arr 49)).cell? ⟨Ba, 0, none⟩ = some (.slice (some ⟨g, 0, none⟩) cs.length cs.length) := (World.cell?_of_block (w := w) (Below.heap_alloc _ _ _ hlt)).trans c0
  have H : Hid (AAt w Ba g cs.length ∧ CAt w g cs ∧ CAt W w.heap.size cs ∧ Below w.heap.size w W) := ⟨h, hc, hC, hB⟩
  have HC := hcl W hC hB
  clear h hc hC hB hcl harr hi hz0 hz1 hz2 hW
  by_cases hr : r = 0
  · subst hr
    go_enter Try.func31, Try.ntmps31
    go_wp2_with (go_at_call 32; refine HC.mono ?_; rintro e W' ⟨rfl, hT, hC'⟩; have hA' : AAt W' Ba g cs.length := (unchanged H.out.1 H.out.2.1 H.out.2.2.2 hT).2.1; have c2 := hA'.cell; have f2 := hA'.fr; have HH : Hid (AAt W' Ba g cs.length ∧ CAt W' w.heap.size cs' ∧ Tch w.heap.size W W') := ⟨hA', hC' rfl, hT⟩; clear hA' hC' hT)
    go_ret
    have := changed hlt H.out.2.2.2 HH.out.2.2 HH.out.1 HH.out.2.1
    exact ⟨rfl, this.1, fun _ => this.2, fun h => absurd rfl h⟩
  · have hr' : (r == 0) = false := by simp [hr]
    go_enter Try.func31, Try.ntmps31
    go_wp2_with (go_at_call 32; refine HC.mono ?_; rintro e W' ⟨rfl, hT, hC'⟩; have HH : Hid (Tch w.heap.size W W') := hT; clear hC' hT)
    go_ret
    have := unchanged H.out.1 H.out.2.1 H.out.2.2.2 HH.out
    exact ⟨rfl, this.1, fun h => absurd h hr, fun _ => this.2⟩

set_option maxHeartbeats 1000000 in
theorem change_33 (Ba g Bk Bn : Nat) (cs cs' : List Cnt) (r : Int) (w : World) (h : AAt w Ba g cs.length) (hc : CAt w g cs) (hlen : cs.length ≤ 16)
    (hcl : ∀ W, CAt W w.heap.size cs → Below w.heap.size w W → Calls Try.prog 33 #[.slice (some ⟨w.heap.size, 0, none⟩) cs.length cs.length, .pointer (some ⟨Bk, 0, none⟩), .pointer (some ⟨Bn, 0, none⟩)] W fun e W' => e = .returned (.int .i64 r) ∧ Tch w.heap.size W W' ∧ (r = 0 → CAt W' w.heap.size cs')) :
    Calls Try.prog 31 #[.pointer (some ⟨Ba, 0, none⟩), .func (.func 33) #[] #[.pointer (some ⟨Bk, 0, none⟩), .pointer (some ⟨Bn, 0, none⟩)]] w fun e w' => e = .returned (.int .i64 r) ∧ Tch Ba w w' ∧ (r = 0 → AAt w' Ba w.heap.size cs.length ∧ CAt w' w.heap.size cs') ∧ (r ≠ 0 → AAt w' Ba g cs.length ∧ CAt w' g cs) := by
  have c0 := h.cell
  have hlt := h.lt
  have hglt := hc.lt
  obtain ⟨i0, hi, hz0, hz1, hz2⟩ := info_parts Try.info49
  obtain ⟨arr, harr⟩ : ∃ arr, madeCells (Value.agg #[.int .i64 0, .int .i64 0, .int .i64 0]).cells (cs.length * 3) = arr := ⟨_, rfl⟩
  have hs : arr.size = cs.length * 3 := by rw [← harr]; exact made_cnt _
  have hmk : (Instr.makeSlice 47 (.int .i64 cs.length) (.int .i64 cs.length)).run Try.prog w = .ok (.slice (some ⟨w.heap.size, 0, none⟩) cs.length cs.length) (w.alloc (.cells arr 49)) := by
    have := run_make (P := Try.prog) w 47 49 i0 _ Try.underlying47 hi hz0 .i64 .i64 cs.length cs.length (by omega) (Int.le_refl _) (by rw [hz2]; omega) (by omega)
    rw [hz1] at this
    simp only [Int.toNat_natCast, harr] at this
    exact this
  obtain ⟨hC, hB, hcp⟩ := copied w Ba g cs h hc arr hs
  obtain ⟨W, hW⟩ : ∃ W, (w.alloc (.cells arr 49)).setRow w.heap.size (cflat cs).toArray = W := ⟨_, rfl⟩
  rw [hW] at hC hB hcp
  have c1 : (w.alloc (.cells arr 49)).cell? ⟨Ba, 0, none⟩ = some (.slice (some ⟨g, 0, none⟩) cs.length cs.length) := (World.cell?_of_block (w := w) (Below.heap_alloc _ _ _ hlt)).trans c0
  have H : Hid (AAt w Ba g cs.length ∧ CAt w g cs ∧ CAt W w.heap.size cs ∧ Below w.heap.size w W) := ⟨h, hc, hC, hB⟩
  have HC := hcl W hC hB
  clear h hc hC hB hcl harr hi hz0 hz1 hz2 hW
  by_cases hr : r = 0
  · subst hr
    go_enter Try.func31, Try.ntmps31
    go_wp2_with (go_at_call 33; refine HC.mono ?_; rintro e W' ⟨rfl, hT, hC'⟩; have hA' : AAt W' Ba g cs.length := (unchanged H.out.1 H.out.2.1 H.out.2.2.2 hT).2.1; have c2 := hA'.cell; have f2 := hA'.fr; have HH : Hid (AAt W' Ba g cs.length ∧ CAt W' w.heap.size cs' ∧ Tch w.heap.size W W') := ⟨hA', hC' rfl, hT⟩; clear hA' hC' hT)
    go_ret
    have := changed hlt H.out.2.2.2 HH.out.2.2 HH.out.1 HH.out.2.1
    exact ⟨rfl, this.1, fun _ => this.2, fun h => absurd rfl h⟩
  · have hr' : (r == 0) = false := by simp [hr]
    go_enter Try.func31, Try.ntmps31
    go_wp2_with (go_at_call 33; refine HC.mono ?_; rintro e W' ⟨rfl, hT, hC'⟩; have HH : Hid (Tch w.heap.size W W') := hT; clear hC' hT)
    go_ret
    have := unchanged H.out.1 H.out.2.1 H.out.2.2.2 HH.out
    exact ⟨rfl, this.1, fun h => absurd h hr, fun _ => this.2⟩

set_option maxHeartbeats 1000000 in
theorem change_34 (Ba g Bm : Nat) (cs cs' : List Cnt) (r : Int) (w : World) (h : AAt w Ba g cs.length) (hc : CAt w g cs) (hlen : cs.length ≤ 16)
    (hcl : ∀ W, CAt W w.heap.size cs → Below w.heap.size w W → Calls Try.prog 34 #[.slice (some ⟨w.heap.size, 0, none⟩) cs.length cs.length, .pointer (some ⟨Bm, 0, none⟩)] W fun e W' => e = .returned (.int .i64 r) ∧ Tch w.heap.size W W' ∧ (r = 0 → CAt W' w.heap.size cs')) :
    Calls Try.prog 31 #[.pointer (some ⟨Ba, 0, none⟩), .func (.func 34) #[] #[.pointer (some ⟨Bm, 0, none⟩)]] w fun e w' => e = .returned (.int .i64 r) ∧ Tch Ba w w' ∧ (r = 0 → AAt w' Ba w.heap.size cs.length ∧ CAt w' w.heap.size cs') ∧ (r ≠ 0 → AAt w' Ba g cs.length ∧ CAt w' g cs) := by
  have c0 := h.cell
  have hlt := h.lt
  have hglt := hc.lt
  obtain ⟨i0, hi, hz0, hz1, hz2⟩ := info_parts Try.info49
  obtain ⟨arr, harr⟩ : ∃ arr, madeCells (Value.agg #[.int .i64 0, .int .i64 0, .int .i64 0]).cells (cs.length * 3) = arr := ⟨_, rfl⟩
  have hs : arr.size = cs.length * 3 := by rw [← harr]; exact made_cnt _
  have hmk : (Instr.makeSlice 47 (.int .i64 cs.length) (.int .i64 cs.length)).run Try.prog w = .ok (.slice (some ⟨w.heap.size, 0, none⟩) cs.length cs.length) (w.alloc (.cells arr 49)) := by
    have := run_make (P := Try.prog) w 47 49 i0 _ Try.underlying47 hi hz0 .i64 .i64 cs.length cs.length (by omega) (Int.le_refl _) (by rw [hz2]; omega) (by omega)
    rw [hz1] at this
    simp only [Int.toNat_natCast, harr] at this
    exact this
  obtain ⟨hC, hB, hcp⟩ := copied w Ba g cs h hc arr hs
  obtain ⟨W, hW⟩ : ∃ W, (w.alloc (.cells arr 49)).setRow w.heap.size (cflat cs).toArray = W := ⟨_, rfl⟩
  rw [hW] at hC hB hcp
  have c1 : (w.alloc (.cells arr 49)).cell? ⟨Ba, 0, none⟩ = some (.slice (some ⟨g, 0, none⟩) cs.length cs.length) := (World.cell?_of_block (w := w) (Below.heap_alloc _ _ _ hlt)).trans c0
  have H : Hid (AAt w Ba g cs.length ∧ CAt w g cs ∧ CAt W w.heap.size cs ∧ Below w.heap.size w W) := ⟨h, hc, hC, hB⟩
  have HC := hcl W hC hB
  clear h hc hC hB hcl harr hi hz0 hz1 hz2 hW
  by_cases hr : r = 0
  · subst hr
    go_enter Try.func31, Try.ntmps31
    go_wp2_with (go_at_call 34; refine HC.mono ?_; rintro e W' ⟨rfl, hT, hC'⟩; have hA' : AAt W' Ba g cs.length := (unchanged H.out.1 H.out.2.1 H.out.2.2.2 hT).2.1; have c2 := hA'.cell; have f2 := hA'.fr; have HH : Hid (AAt W' Ba g cs.length ∧ CAt W' w.heap.size cs' ∧ Tch w.heap.size W W') := ⟨hA', hC' rfl, hT⟩; clear hA' hC' hT)
    go_ret
    have := changed hlt H.out.2.2.2 HH.out.2.2 HH.out.1 HH.out.2.1
    exact ⟨rfl, this.1, fun _ => this.2, fun h => absurd rfl h⟩
  · have hr' : (r == 0) = false := by simp [hr]
    go_enter Try.func31, Try.ntmps31
    go_wp2_with (go_at_call 34; refine HC.mono ?_; rintro e W' ⟨rfl, hT, hC'⟩; have HH : Hid (Tch w.heap.size W W') := hT; clear hC' hT)
    go_ret
    have := unchanged H.out.1 H.out.2.1 H.out.2.2.2 HH.out
    exact ⟨rfl, this.1, fun h => absurd h hr, fun _ => this.2⟩

end Go.Proofs.Ytiaebahmbgmajaa
