/-
  The walk of New.
-/
import Derived.Test.YtiaebahmbgmajaaF
namespace Go.Proofs.Ytiaebahmbgmajaa
open Go.RowKit

/-- The counts when the first i limits are laid. -/
def nw (xs : List Int) (i : Nat) : List Cnt := xs.mapIdx fun j l => if j < i then (l, 0, 0) else (0, 0, 0)
theorem nw_len (xs : List Int) (i : Nat) : (nw xs i).length = xs.length := by simp [nw]
theorem nw_get (xs : List Int) (i j : Nat) (h : j < xs.length) : (nw xs i)[j]'(by rw [nw_len]; exact h) = if j < i then (xs[j], 0, 0) else (0, 0, 0) := by simp [nw]
theorem nw_succ (xs : List Int) (i : Nat) (h : i < xs.length) : (nw xs i).set i (xs[i], 0, 0) = nw xs (i + 1) := by
  apply List.ext_getElem
  · simp [nw]
  · intro j h1 h2
    have hj : j < xs.length := by simpa [nw] using h2
    rw [List.getElem_set, nw_get xs (i + 1) j hj]
    split
    · rename_i e; subst e; simp
    · rw [nw_get xs i j hj]
      have : j < i ↔ j < i + 1 := by omega
      simp [this]
theorem nw_all (xs : List Int) : nw xs xs.length = xs.map fun l => (l, 0, 0) := by
  apply List.ext_getElem
  · simp [nw]
  · intro j h1 h2
    have hj : j < xs.length := by simpa [nw] using h1
    rw [nw_get xs _ j hj]
    simp [hj]

theorem made_zero (xs : List Int) : madeCells (Value.agg #[.int .i64 0, .int .i64 0, .int .i64 0]).cells (xs.length * 3) = (cflat (nw xs 0)).toArray := by
  apply Array.ext
  · rw [made_cnt, List.size_toArray, cflat_len, nw_len]
  · intro i h1 h2
    rw [made_cnt] at h1
    have hk : i / 3 < (nw xs 0).length := by rw [nw_len]; omega
    have e0 : (nw xs 0)[i / 3] = (0, 0, 0) := by rw [nw_get xs 0 _ (by omega)]; simp
    obtain ⟨c1, c2, c3⟩ := cflat_at (nw xs 0) (i / 3) hk
    rw [e0] at c1 c2 c3
    have hz : (cflat (nw xs 0))[i]? = some (.int .i64 0) := by
      have : i = i / 3 * 3 ∨ i = i / 3 * 3 + 1 ∨ i = i / 3 * 3 + 2 := by omega
      rcases this with e | e | e
      · rw [e]; exact c1
      · rw [e]; exact c2
      · rw [e]; exact c3
    have hm : i % 3 = 0 ∨ i % 3 = 1 ∨ i % 3 = 2 := by omega
    have hz' : (cflat (nw xs 0))[i]'(by simpa using h2) = .int .i64 0 := by
      have := List.getElem?_eq_getElem (l := cflat (nw xs 0)) (i := i) (by simpa using h2)
      rw [hz] at this
      exact (Option.some.inj this).symm
    have hr : (cflat (nw xs 0)).toArray[i] = .int .i64 0 := by simpa using hz'
    rw [hr]
    rcases hm with e | e | e <;> simp [madeCells, Value.cells, e]

set_option maxHeartbeats 400000 in
theorem new_len (v : Value) (xs : List Int) (w : World) (hv : Ints w v xs) (h : xs.length = 0 ∨ 16 < xs.length) :
    Calls Try.prog 15 #[v] w fun e w' => e = .returned (.tuple #[.pointer none, .int .i64 1]) ∧ w' = w := by
  obtain ⟨p, c, rfl, hpc, hcm, _⟩ := hv
  by_cases h0 : xs.length = 0
  · rw [h0]
    go_enter Try.func15, Try.ntmps15
    go_wp2
    go_ret2
    exact ⟨rfl, rfl⟩
  · have h1 : ((xs.length : Int) == 0) = false := beq_false_of_ne (by omega)
    have h2 : 16 < xs.length := by omega
    go_enter Try.func15, Try.ntmps15
    go_wp2
    go_ret2
    exact ⟨rfl, rfl⟩

set_option maxHeartbeats 1000000 in
theorem new_walk (v : Value) (xs : List Int) (w : World) (hv : Ints w v xs) (h0 : 0 < xs.length) (h16 : xs.length ≤ 16) (hfit : ∀ x ∈ xs, x ≤ 9223372036854775807) :
    Calls Try.prog 15 #[v] w fun e w' => (e = .returned (.tuple #[.pointer none, .int .i64 1]) ∧ (∃ x ∈ xs, x < 0) ∧ Below w.heap.size w w') ∨
      (e = .returned (.tuple #[.pointer (some ⟨w.heap.size + 1, 0, none⟩), .int .i64 0]) ∧ (∀ x ∈ xs, 0 ≤ x) ∧ Acc w' (w.heap.size + 1) w.heap.size (xs.map fun l => (l, 0, 0)) ∧ Below w.heap.size w w') := by
  obtain ⟨p, c, rfl, hpc, hcm, hx⟩ := hv
  obtain ⟨b, o, rfl, hcell⟩ := hx h0
  have hbl : b < w.heap.size := World.block_lt_of_cell? w _ (hcell 0 h0)
  have h1 : ((xs.length : Int) == 0) = false := beq_false_of_ne (by omega)
  have HC : Hid (∀ i, i < xs.length → w.cell? ⟨b, o + i, none⟩ = some (.int .i64 (xs.getD i 0))) := hcell
  have HF : Hid (∀ x ∈ xs, x ≤ 9223372036854775807) := hfit
  clear hcell hx hfit
  obtain ⟨i0, hi, hz0, hz1, hz2⟩ := info_parts Try.info49
  have hmk : (Instr.makeSlice 47 (.int .i64 xs.length) (.int .i64 xs.length)).run Try.prog w = .ok (.slice (some ⟨w.heap.size, 0, none⟩) xs.length xs.length) (w.alloc (.cells (cflat (nw xs 0)).toArray 49)) := by
    have := run_make (P := Try.prog) w 47 49 i0 _ Try.underlying47 hi hz0 .i64 .i64 xs.length xs.length (by omega) (Int.le_refl _) (by rw [hz2]; omega) (by omega)
    rw [hz1] at this
    simp only [Int.toNat_natCast, made_zero] at this
    exact this
  obtain ⟨W, hW⟩ : ∃ W, w.alloc (.cells (cflat (nw xs 0)).toArray 49) = W := ⟨_, rfl⟩
  have hC0 : Hid (CAt W w.heap.size (nw xs 0) ∧ Below w.heap.size w W ∧ W.heap.size = w.heap.size + 1) := by rw [← hW]; exact ⟨heap_alloc_new w _, (Below.refl _ w).alloc (Nat.le_refl _) _, by simp⟩
  rw [hW] at hmk
  clear hi hz0 hz1 hz2 hW
  go_enter Try.func15, Try.ntmps15
  go_wp2
  go_loopw [20, 5, 6] (fun ii _ _ wr => ∃ i : Nat, ii = .int .i64 i ∧ i ≤ xs.length ∧ (∀ j, j < i → 0 ≤ xs.getD j 0) ∧ CAt wr w.heap.size (nw xs i) ∧ Below w.heap.size w wr ∧ wr.heap.size = w.heap.size + 1) (fun ii _ _ _ => xs.length - (intOf ii).toNat)
  case atStart => exact ⟨0, rfl, Nat.zero_le _, fun j h => by omega, hC0.out⟩
  case round =>
    obtain ⟨i, rfl, hi, hok, hcw, hbw, hsz⟩ := hrel
    by_cases hlt : i < xs.length
    · have hci : wr.cell? ⟨b, o + i, none⟩ = some (.int .i64 (xs.getD i 0)) := (hbw.cell (p := ⟨b, o + i, none⟩) hbl).trans (HC.out i hlt)
      have hy := (hcw.cell (k := i) (by rw [nw_len]; exact hlt)).1
      have hf := hcw.fr (i * 3)
      obtain ⟨x, hm⟩ : ∃ x, xs.getD i 0 = x := ⟨_, rfl⟩
      rw [hm] at hci
      have H : Hid (xs.getD i 0 = x ∧ (∀ j, j < i → 0 ≤ xs.getD j 0) ∧ CAt wr w.heap.size (nw xs i) ∧ Below w.heap.size w wr ∧ wr.heap.size = w.heap.size + 1) := ⟨hm, hok, hcw, hbw, hsz⟩
      clear hm hok hcw hbw hsz
      by_cases hA : x < 0
      · go_wp2
        go_ret2
        obtain ⟨hm, hok, hcw, hbw, hsz⟩ := H.out
        refine .inl ⟨rfl, ⟨x, ?_, hA⟩, hbw⟩
        rw [← hm, List.getD_eq_getElem?_getD, List.getElem?_eq_getElem hlt]
        exact List.getElem_mem hlt
      · go_wp2
        go_roundw
        case rel =>
          obtain ⟨hm, hok, hcw, hbw, hsz⟩ := H.out
          refine ⟨i + 1, by go_num, by omega, fun j hj => ?_, ?_, hbw.setCell (Nat.le_refl _) _, by simpa [World.setCell] using hsz⟩
          · by_cases e : j = i
            · subst e; omega
            · exact hok j (by omega)
          · have := hcw.set0 (k := i) (by rw [nw_len]; exact hlt) x
            have hx : x = xs[i] := by rw [← hm, List.getD_eq_getElem?_getD, List.getElem?_eq_getElem hlt]; rfl
            rw [nw_get xs i i hlt, if_neg (by omega)] at this
            simp only [hx] at this ⊢
            rw [nw_succ xs i hlt] at this
            exact this
        case measure => simp [intOf]; omega
    · obtain rfl : i = xs.length := by omega
      have H : Hid ((∀ j, j < xs.length → 0 ≤ xs.getD j 0) ∧ CAt wr w.heap.size (nw xs xs.length) ∧ Below w.heap.size w wr ∧ wr.heap.size = w.heap.size + 1) := ⟨hok, hcw, hbw, hsz⟩
      clear hok hcw hbw
      go_wp2
      go_ret2
      obtain ⟨hok, hcw, hbw, _⟩ := H.out
      have hall : ∀ x ∈ xs, 0 ≤ x := fun x hx => by
        obtain ⟨j, hj, rfl⟩ := List.getElem_of_mem hx
        have := hok j hj
        rw [List.getD_eq_getElem?_getD, List.getElem?_eq_getElem hj] at this
        exact this
      have hn : (wr.alloc (.cells #[.slice (some ⟨w.heap.size, 0, none⟩) xs.length xs.length] 51)).heap[w.heap.size + 1]? = some (.cells #[.slice (some ⟨w.heap.size, 0, none⟩) xs.length xs.length] 51 (0, 0)) := by
        rw [← hsz]; exact heap_alloc_new wr _
      refine .inr ⟨rfl, hall, ⟨?_, ?_, ⟨by simpa using h0, by simpa using h16, fun x hx => ?_⟩⟩, hbw.alloc (by omega) _⟩
      · unfold AAt; rw [List.length_map]; exact hn
      · rw [← nw_all]; exact (Below.heap_alloc _ _ _ (by omega)).trans hcw
      · obtain ⟨l, hl, rfl⟩ := List.mem_map.1 hx
        have := hall l hl
        have := HF.out l hl
        simp; omega

end Go.Proofs.Ytiaebahmbgmajaa
