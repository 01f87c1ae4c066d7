/-
  The walks of Mark and Back.
-/
import Derived.Test.YtiaebahmbgmajaaL
namespace Go.Proofs.Ytiaebahmbgmajaa
open Go.RowKit

/-- The new variable of Back. -/
theorem one_below (w : World) (o : Obj) : Below w.heap.size w (w.alloc o) := (Below.refl _ w).alloc (Nat.le_refl _) o

set_option maxHeartbeats 400000 in
theorem back_len (Ba g : Nat) (cs : List Cnt) (v : Value) (ms : List Int) (w : World) (h : Acc w Ba g cs) (hv : Ints w v ms) (hl : ms.length ≠ cs.length) : Calls Try.prog 23 #[.pointer (some ⟨Ba, 0, none⟩), v] w fun e w' => e = .returned (.int .i64 1) ∧ Below w.heap.size w w' := by
  obtain ⟨p, c, rfl, _, _, _⟩ := hv
  have c0 := h.acc.cell
  have hlt := h.acc.lt
  clear h
  have hl' : ((ms.length : Int) == (cs.length : Int)) = false := beq_false_of_ne (by omega)
  go_enter Try.func23, Try.ntmps23
  go_wp2
  go_quiet (fail)
  go_wp2
  go_ret
  exact ⟨rfl, (one_below w _).trans ⟨rfl, rfl, rfl, Nat.le_refl _, fun _ _ => rfl⟩⟩

set_option maxHeartbeats 1000000 in
theorem back_walk (Ba g : Nat) (cs cs' : List Cnt) (v : Value) (ms : List Int) (E : Int) (w : World) (h : Acc w Ba g cs) (hv : Ints w v ms) (hl : ms.length = cs.length) (hE : BackR cs ms E cs') :
    Calls Try.prog 23 #[.pointer (some ⟨Ba, 0, none⟩), v] w fun e w' => e = .returned (.int .i64 E) ∧ ∃ q, Aft ((w.alloc (.cells #[v] 25)).drewN q) Ba g cs cs' E w' := by
  have HV : Hid (Ints w v ms) := hv
  have hvb : ∀ b, v.ownBlock = some b → b < w.heap.size := by
    obtain ⟨p, c, rfl, _, _, hx⟩ := hv
    obtain ⟨b, o, rfl, hc⟩ := hx (by have := h.good.pos; omega)
    intro b' e
    simp [Value.ownBlock] at e
    subst e
    exact World.block_lt_of_cell? w _ (hc 0 (by have := h.good.pos; omega))
  have HC : ∀ q, Calls Try.prog 31 #[.pointer (some ⟨Ba, 0, none⟩), .func (.func 34) #[] #[.pointer (some ⟨w.heap.size, 0, none⟩)]] ((w.alloc (.cells #[v] 25)).drewN q) fun e w' => e = .returned (.int .i64 E) ∧ Aft ((w.alloc (.cells #[v] 25)).drewN q) Ba g cs cs' E w' := by
    intro q
    have hb : Below w.heap.size w ((w.alloc (.cells #[v] 25)).drewN q) := (one_below w (.cells #[v] 25)).trans ⟨rfl, rfl, rfl, Nat.le_refl _, fun _ _ => rfl⟩
    have hs : ((w.alloc (.cells #[v] 25)).drewN q).heap.size = w.heap.size + 1 := World.size_alloc _ _
    have hA : AAt ((w.alloc (.cells #[v] 25)).drewN q) Ba g cs.length := h.acc.below hb h.acc.lt
    have hC : CAt ((w.alloc (.cells #[v] 25)).drewN q) g cs := h.cnt.below hb h.cnt.lt
    refine change_34 Ba g w.heap.size cs cs' E ((w.alloc (.cells #[v] 25)).drewN q) hA hC h.good.len (fun W hCW hbW => ?_)
    rw [hs] at hbW hCW ⊢
    have hn : W.heap[w.heap.size]? = some (.cells #[v] 25 (0, 0)) := (hbW.block w.heap.size (by omega)).trans (heap_alloc_new w _)
    have cm : W.cell? ⟨w.heap.size, 0, none⟩ = some v := by rw [cell_of_row _ _ _ _ 25 (0, 0) hn]; rfl
    have hvW : Ints W v ms := by
      obtain ⟨p, c, rfl, h1, h2, hx⟩ := hv
      refine ⟨p, c, rfl, h1, h2, fun hp => ?_⟩
      obtain ⟨b, o, rfl, hc⟩ := hx hp
      refine ⟨b, o, rfl, fun i hi => ?_⟩
      have hlt := World.block_lt_of_cell? w _ (hc i hi)
      rw [World.cell?_of_block (w := w) (a := ⟨b, o + i, none⟩) ((hbW.block b (Nat.lt_succ_of_lt hlt)).trans (Below.heap_alloc w _ b hlt))]
      exact hc i hi
    refine (back1_any (w.heap.size + 1) w.heap.size v cs ms W hCW h.good cm hvW hl (fun b e => by have := hvb b e; omega)).mono ?_
    rintro e W' (⟨rfl, hok, hc', ht⟩ | ⟨rfl, hno, ht⟩)
    · rcases hE with ⟨rfl, _, _, rfl⟩ | ⟨_, hn, _⟩
      · exact ⟨rfl, ht, fun _ => hc'⟩
      · exact absurd ⟨hl, hok⟩ hn
    · rcases hE with ⟨_, _, ho, _⟩ | ⟨rfl, _, rfl⟩
      · exact absurd ho hno
      · exact ⟨rfl, ht, fun h => by cases h⟩
  obtain ⟨p, c, rfl, _, _, _⟩ := hv
  have c0 := h.acc.cell
  have hlt := h.acc.lt
  clear h hvb
  rw [hl] at *
  go_enter Try.func23, Try.ntmps23
  go_wp2
  go_quiet (fail)
  go_wp2_with (go_at_call 31; refine (HC _).mono ?_; rintro e w' ⟨rfl, HA⟩)
  go_ret
  exact ⟨rfl, _, HA⟩

theorem back_any (Ba g : Nat) (cs cs' : List Cnt) (v : Value) (ms : List Int) (E : Int) (w : World) (h : Acc w Ba g cs) (hv : Ints w v ms) (hE : BackR cs ms E cs') :
    Calls Try.prog 23 #[.pointer (some ⟨Ba, 0, none⟩), v] w fun e w' => e = .returned (.int .i64 E) ∧ Tch Ba w w' ∧ ∃ g', Acc w' Ba g' cs' := by
  by_cases hl : ms.length = cs.length
  · refine (back_walk Ba g cs cs' v ms E w h hv hl hE).mono ?_
    rintro e w' ⟨rfl, q, ht, h1, h2⟩
    have t0 : Tch Ba w ((w.alloc (.cells #[v] 25)).drewN q) := (Tch.of_below (one_below w _)).drewN q
    have hg := h.good.backR hE
    rcases hE with ⟨rfl, _, _, rfl⟩ | ⟨rfl, _, rfl⟩
    · exact ⟨rfl, t0.trans ht, _, by rw [bk_len]; exact (h1 rfl).1, (h1 rfl).2, hg⟩
    · exact ⟨rfl, t0.trans ht, _, (h2 (by decide)).1, (h2 (by decide)).2, hg⟩
  · refine (back_len Ba g cs v ms w h hv hl).mono ?_
    rintro e w' ⟨rfl, hb⟩
    rcases hE with ⟨_, hl', _⟩ | ⟨rfl, _, rfl⟩
    · exact absurd hl' hl
    · exact ⟨rfl, Tch.of_below hb, g, h.acc.below hb h.acc.lt, h.cnt.below hb h.cnt.lt, h.good⟩

/-- What is marked behind i kinds. -/
def mk (cs : List Cnt) (i : Nat) : List Int := cs.mapIdx fun j c => if j < i then c.2.1 else 0
theorem mk_len (cs : List Cnt) (i : Nat) : (mk cs i).length = cs.length := by simp [mk]
theorem mk_get (cs : List Cnt) (i j : Nat) (h : j < cs.length) : (mk cs i)[j]'(by rw [mk_len]; exact h) = if j < i then cs[j].2.1 else 0 := by simp [mk]
theorem mk_succ (cs : List Cnt) (i : Nat) (h : i < cs.length) : (mk cs i).set i cs[i].2.1 = mk cs (i + 1) := by
  apply List.ext_getElem
  · simp [mk]
  · intro j h1 h2
    have hj : j < cs.length := by simpa [mk] using h2
    rw [List.getElem_set, mk_get cs (i + 1) j hj]
    split
    · rename_i e; subst e; simp
    · rw [mk_get cs i j hj]
      have : j < i ↔ j < i + 1 := by omega
      simp [this]
theorem mk_all (cs : List Cnt) : mk cs cs.length = cs.map (·.2.1) := by
  apply List.ext_getElem
  · simp [mk]
  · intro j h1 h2
    have hj : j < cs.length := by simpa [mk] using h1
    rw [mk_get cs _ j hj]
    simp [hj]
theorem mk_zero (cs : List Cnt) : mk cs 0 = List.replicate cs.length 0 := by
  apply List.ext_getElem
  · simp [mk]
  · intro j h1 h2
    have hj : j < cs.length := by simpa [mk] using h1
    rw [mk_get cs _ j hj]
    simp

theorem made_ints (n : Nat) : madeCells (Value.int .i64 0).cells (n * 1) = ((List.replicate n (0 : Int)).map (Value.int .i64)).toArray := by
  apply Array.ext
  · simp [size_madeCells]
  · intro i h1 h2
    simp [madeCells, Value.cells, Nat.mod_one]

/-- A new row of zeros. -/
theorem IntRow.zeros (w : World) (n : Nat) (hn : n ≤ 9223372036854775807) : IntRow (w.alloc (.cells ((List.replicate n (0 : Int)).map (Value.int .i64)).toArray 3)) w.heap.size n (List.replicate n 0) :=
  ⟨_, heap_alloc_new w _, by simp, hn, by simp, by simp⟩
theorem make_ints (n : Nat) (hn : n ≤ 16) (w : World) : (Instr.makeSlice 25 (.int .i64 n) (.int .i64 n)).run Try.prog w = .ok (.slice (some ⟨w.heap.size, 0, none⟩) n n) (w.alloc (.cells ((List.replicate n (0 : Int)).map (Value.int .i64)).toArray 3)) := by
  obtain ⟨i0, hi, hz0, hz1, hz2⟩ := info_parts Try.info3
  have := run_make (P := Try.prog) w 25 3 i0 _ Try.underlying25 hi hz0 .i64 .i64 n n (by omega) (Int.le_refl _) (by rw [hz2]; omega) (by omega)
  rw [hz1] at this
  simp only [Int.toNat_natCast, made_ints] at this
  exact this

set_option maxHeartbeats 1000000 in
theorem mark_any (Ba g : Nat) (cs : List Cnt) (w : World) (h : Acc w Ba g cs) :
    Calls Try.prog 21 #[.pointer (some ⟨Ba, 0, none⟩)] w fun e w' => e = .returned (.slice (some ⟨w.heap.size, 0, none⟩) cs.length cs.length) ∧ IntRow w' w.heap.size cs.length (cs.map (·.2.1)) ∧ Below w.heap.size w w' := by
  have hmk := make_ints cs.length h.good.len w
  have h16 := h.good.len
  obtain ⟨W, hW⟩ : ∃ W, w.alloc (.cells ((List.replicate cs.length (0 : Int)).map (Value.int .i64)).toArray 3) = W := ⟨_, rfl⟩
  have HW : Hid (IntRow W w.heap.size cs.length (mk cs 0) ∧ Below w.heap.size w W) := by rw [← hW, mk_zero]; exact ⟨IntRow.zeros w _ (by omega), one_below w _⟩
  rw [hW] at hmk
  have c0 := h.acc.cell
  have c1 : W.cell? ⟨Ba, 0, none⟩ = some (.slice (some ⟨g, 0, none⟩) cs.length cs.length) := (HW.out.2.cell (p := ⟨Ba, 0, none⟩) h.acc.lt).trans c0
  have HA : Hid (Acc w Ba g cs) := h
  have hglt := h.cnt.lt
  clear h hW
  go_enter Try.func21, Try.ntmps21
  go_wp2
  go_loopw [19, 4, 5] (fun ii _ _ wr => ∃ i : Nat, ii = .int .i64 i ∧ i ≤ cs.length ∧ IntRow wr w.heap.size cs.length (mk cs i) ∧ Below w.heap.size w wr) (fun ii _ _ _ => cs.length - (intOf ii).toNat)
  case atStart => exact ⟨0, rfl, Nat.zero_le _, HW.out⟩
  case round =>
    obtain ⟨i, rfl, hi, hrw, hbw⟩ := hrel
    have H : Hid (IntRow wr w.heap.size cs.length (mk cs i) ∧ Below w.heap.size w wr) := ⟨hrw, hbw⟩
    by_cases hlt : i < cs.length
    · have hcw := HA.out.cnt.below hbw HA.out.cnt.lt
      obtain ⟨y1, y2, y3⟩ := hcw.cell hlt
      have hm := hrw.cell (i := i) (by rw [mk_len]; exact hlt)
      have hf := hrw.fr i
      have hl := hrw.lt
      have hgl := hcw.lt
      clear hrw hbw hcw
      go_wp2
      go_roundw
      case rel =>
        refine ⟨i + 1, by go_num, by omega, ?_, ?_⟩
        · have := H.out.1.set (i := i) (by rw [mk_len]; exact hlt) cs[i].2.1
          rw [mk_succ cs i hlt] at this
          exact this.same (Below.heap_alloc _ _ _ this.lt)
        · exact (H.out.2.setCell (Nat.le_refl _) _).alloc (by simp [World.setCell]; omega) _
      case measure => simp [intOf]; omega
    · clear hrw hbw
      go_wp2
      go_ret
      obtain rfl : i = cs.length := by omega
      rw [← mk_all]
      exact ⟨rfl, H.out⟩

end Go.Proofs.Ytiaebahmbgmajaa
