/-
  The document's account: what lies in memory; the walks of its Is, Take, Give.
-/
import Derived.Test.YtiaebahmbgmajaaBoundsR
namespace Go.Proofs.Ytiaebahmbgmajaa
open Go.RowKit

/-- The block g is a row of numbers that begins with these. -/
def IntRow (W : World) (g c : Nat) (xs : List Int) : Prop :=
  ∃ cur, W.heap[g]? = some (.cells cur 3 (0, 0)) ∧ xs.length ≤ c ∧ c ≤ 9223372036854775807 ∧ cur.size = c ∧ cur.toList.take xs.length = xs.map (Value.int .i64)

theorem IntRow.lt {W : World} {g c : Nat} {xs : List Int} (h : IntRow W g c xs) : g < W.heap.size := by
  obtain ⟨cur, hg, _⟩ := h
  exact (Array.getElem?_eq_some_iff.1 hg).1
theorem IntRow.le {W : World} {g c : Nat} {xs : List Int} (h : IntRow W g c xs) : xs.length ≤ c ∧ c ≤ 9223372036854775807 := by
  obtain ⟨cur, _, h1, h2, _⟩ := h
  exact ⟨h1, h2⟩
theorem IntRow.cell {W : World} {g c : Nat} {xs : List Int} (h : IntRow W g c xs) {i : Nat} (hi : i < xs.length) : W.cell? ⟨g, i, none⟩ = some (.int .i64 xs[i]) := by
  obtain ⟨cur, hg, _, _, _, ht⟩ := h
  rw [cell_of_row W g i _ 3 (0, 0) hg]
  have : (cur.toList.take xs.length)[i]? = some (.int .i64 xs[i]) := by rw [ht]; simp [List.getElem?_eq_getElem hi]
  rw [List.getElem?_take, if_pos hi] at this
  simpa using this
theorem IntRow.fr {W : World} {g c : Nat} {xs : List Int} (h : IntRow W g c xs) (i : Nat) : W.frozen? ⟨g, i, none⟩ = false := by
  obtain ⟨cur, hg, _⟩ := h
  simp [World.frozen?, hg]
theorem IntRow.same {W W' : World} {g c : Nat} {xs : List Int} (h : IntRow W g c xs) (hb : W'.heap[g]? = W.heap[g]?) : IntRow W' g c xs := by
  obtain ⟨cur, hg, r⟩ := h
  exact ⟨cur, hb.trans hg, r⟩
theorem IntRow.set {W : World} {g c : Nat} {xs : List Int} (h : IntRow W g c xs) {i : Nat} (_hi : i < xs.length) (u : Int) : IntRow (W.setCell ⟨g, i, none⟩ (.int .i64 u)) g c (xs.set i u) := by
  obtain ⟨cur, hg, h1, h2, h3, h4⟩ := h
  refine ⟨cur.setIfInBounds i (.int .i64 u), ?_, by simpa using h1, h2, by simpa using h3, ?_⟩
  · rw [setCell_eq_setRow W g i _ 3 (0, 0) _ hg, setRow_heap W g _ _ 3 (0, 0) hg]
  · rw [Array.toList_setIfInBounds, List.length_set, List.take_set, h4, List.map_set]
theorem IntRow.ints {W : World} {g c : Nat} {xs : List Int} (h : IntRow W g c xs) : Ints W (.slice (some ⟨g, 0, none⟩) xs.length c) xs :=
  ⟨_, c, rfl, h.le.1, h.le.2, fun _ => ⟨g, 0, rfl, fun i hi => by rw [Nat.zero_add, h.cell hi, List.getD_eq_getElem?_getD, List.getElem?_eq_getElem hi]; rfl⟩⟩
theorem IntRow.ne {W : World} {g c b t : Nat} {xs : List Int} {cur : Array Value} {fr : Nat × Nat} (h : IntRow W g c xs) (hb : W.heap[b]? = some (.cells cur t fr)) (ht : t ≠ 3) : g ≠ b := by
  obtain ⟨cur', hg, _⟩ := h
  intro e
  subst e
  rw [hg] at hb
  simp at hb
  exact ht hb.2.1.symm
theorem IntRow.of_owns {W : World} {base n : Nat} {v : Value} {xs : List Int} (h : W.ownsRow base 3 1 v n (xs.map (Value.int .i64))) (hp : 0 < n) : ∃ g c, v = .slice (some ⟨g, 0, none⟩) n c ∧ base ≤ g ∧ xs.length = n ∧ IntRow W g c xs := by
  have hl : xs.length = n := by have := h.1; simpa using this
  rcases h.2 with ⟨_, e⟩ | ⟨g, c, cur, rfl, hb, hg, h1, h2, h3, h4⟩
  · omega
  · refine ⟨g, c, rfl, hb, hl, cur, hg, by omega, by unfold maxLen at h2; omega, by simpa using h3, ?_⟩
    rw [hl]
    simpa using h4
theorem IntRow.owns {W : World} {g c base : Nat} {xs : List Int} (h : IntRow W g c xs) (hb : base ≤ g) : W.ownsRow base 3 1 (.slice (some ⟨g, 0, none⟩) xs.length c) xs.length (xs.map (Value.int .i64)) := by
  obtain ⟨cur, hg, h1, h2, h3, h4⟩ := h
  exact ⟨by simp, .inr ⟨g, c, cur, rfl, hb, hg, h1, by unfold maxLen; omega, by simpa using h3, by simpa using h4⟩⟩

/-- Where the document's account lies. -/
structure RL where
  Br : Nat
  gl : Nat
  gu : Nat
  gp : Nat
  cl : Nat
  cu : Nat
  cp : Nat

/-- The document's account of these counts. -/
structure Ref (W : World) (r : RL) (cs : List Cnt) : Prop where
  acc : W.heap[r.Br]? = some (.cells #[.slice (some ⟨r.gl, 0, none⟩) cs.length r.cl, .slice (some ⟨r.gu, 0, none⟩) cs.length r.cu, .slice (some ⟨r.gp, 0, none⟩) cs.length r.cp] 40 (0, 0))
  rl : IntRow W r.gl r.cl (cs.map (·.1))
  ru : IntRow W r.gu r.cu (cs.map (·.2.1))
  rp : IntRow W r.gp r.cp (cs.map (·.2.2))
  d1 : r.gl ≠ r.gu
  d2 : r.gl ≠ r.gp
  d3 : r.gu ≠ r.gp
  good : Good cs

theorem Ref.lt {W : World} {r : RL} {cs : List Cnt} (h : Ref W r cs) : r.Br < W.heap.size := (Array.getElem?_eq_some_iff.1 h.acc).1
theorem Ref.c0 {W : World} {r : RL} {cs : List Cnt} (h : Ref W r cs) : W.cell? ⟨r.Br, 0, none⟩ = some (.slice (some ⟨r.gl, 0, none⟩) cs.length r.cl) := by simp [World.cell?, h.acc]
theorem Ref.c1 {W : World} {r : RL} {cs : List Cnt} (h : Ref W r cs) : W.cell? ⟨r.Br, 1, none⟩ = some (.slice (some ⟨r.gu, 0, none⟩) cs.length r.cu) := by simp [World.cell?, h.acc]
theorem Ref.c2 {W : World} {r : RL} {cs : List Cnt} (h : Ref W r cs) : W.cell? ⟨r.Br, 2, none⟩ = some (.slice (some ⟨r.gp, 0, none⟩) cs.length r.cp) := by simp [World.cell?, h.acc]
theorem Ref.fr {W : World} {r : RL} {cs : List Cnt} (h : Ref W r cs) (i : Nat) : W.frozen? ⟨r.Br, i, none⟩ = false := by simp [World.frozen?, h.acc]
theorem Ref.lc {W : World} {r : RL} {cs : List Cnt} (h : Ref W r cs) {k : Nat} (hk : k < cs.length) : W.cell? ⟨r.gl, k, none⟩ = some (.int .i64 cs[k].1) := by have := h.rl.cell (i := k) (by simpa using hk); simpa using this
theorem Ref.uc {W : World} {r : RL} {cs : List Cnt} (h : Ref W r cs) {k : Nat} (hk : k < cs.length) : W.cell? ⟨r.gu, k, none⟩ = some (.int .i64 cs[k].2.1) := by have := h.ru.cell (i := k) (by simpa using hk); simpa using this
theorem Ref.pc {W : World} {r : RL} {cs : List Cnt} (h : Ref W r cs) {k : Nat} (hk : k < cs.length) : W.cell? ⟨r.gp, k, none⟩ = some (.int .i64 cs[k].2.2) := by have := h.rp.cell (i := k) (by simpa using hk); simpa using this

/-- From w to w' no old block has turned but these. -/
structure Only (bs : List Nat) (w w' : World) : Prop where
  os : w'.os = w.os
  tape : w'.tape = w.tape
  output : w'.output = w.output
  size : w.heap.size ≤ w'.heap.size
  block : ∀ k, k < w.heap.size → k ∉ bs → w'.heap[k]? = w.heap[k]?
theorem Only.refl (bs : List Nat) (w : World) : Only bs w w := ⟨rfl, rfl, rfl, Nat.le_refl _, fun _ _ _ => rfl⟩
theorem Only.trans {bs : List Nat} {x y z : World} (h : Only bs x y) (k : Only bs y z) : Only bs x z :=
  ⟨k.os.trans h.os, k.tape.trans h.tape, k.output.trans h.output, Nat.le_trans h.size k.size, fun i hi hn => (k.block i (Nat.lt_of_lt_of_le hi h.size) hn).trans (h.block i hi hn)⟩
theorem Only.set {bs : List Nat} {w W : World} (h : Only bs w W) {g : Nat} (hg : g ∈ bs) (o : Nat) (v : Value) : Only bs w (W.setCell ⟨g, o, none⟩ v) :=
  h.trans ⟨rfl, rfl, rfl, by simp [World.setCell], fun k _ hn => Below.heap_setCell _ _ _ k (fun e => hn (by rw [e]; exact hg))⟩
theorem Only.drewN {bs : List Nat} {w W : World} (h : Only bs w W) (q : Nat) : Only bs w (W.drewN q) := ⟨h.os, h.tape, h.output, h.size, h.block⟩
theorem Only.of_below {bs : List Nat} {w w' : World} (h : Below w.heap.size w w') : Only bs w w' := ⟨h.os, h.tape, h.output, h.size, fun k hk _ => h.block k hk⟩
theorem Only.below {bs : List Nat} {w w' : World} {B : Nat} (h : Only bs w w') (hb : ∀ b ∈ bs, B ≤ b) (hs : B ≤ w.heap.size) : Below B w w' := ⟨h.os, h.tape, h.output, h.size, fun k hk => h.block k (by omega) (fun hm => by have := hb k hm; omega)⟩

set_option maxHeartbeats 400000 in
theorem is_in (r : RL) (cs : List Cnt) (k : Nat) (w : World) (h : Ref w r cs) (hk : k < cs.length) : Calls Try.prog 28 #[.pointer (some ⟨r.Br, 0, none⟩), .int .i64 k] w fun e w' => e = .returned (.bool true) ∧ w' = w := by
  have c0 := h.c0
  clear h
  go_enter Try.func28, Try.ntmps28
  go_wp2
  go_ret
  refine ⟨ret_bool ?_, rfl⟩
  simp

set_option maxHeartbeats 400000 in
theorem is_out (r : RL) (cs : List Cnt) (k : Int) (w : World) (h : Ref w r cs) (hk : k < 0 ∨ cs.length ≤ k) : Calls Try.prog 28 #[.pointer (some ⟨r.Br, 0, none⟩), .int .i64 k] w fun e w' => e = .returned (.bool false) ∧ w' = w := by
  have c0 := h.c0
  clear h
  go_enter Try.func28, Try.ntmps28
  go_wp2
  all_goals go_ret
  all_goals refine ⟨ret_bool ?_, rfl⟩
  · simp
    omega
  · rfl

set_option maxHeartbeats 400000 in
theorem rtake_arg (r : RL) (cs : List Cnt) (k n : Int) (w : World) (h : Ref w r cs) (hk : k < 0 ∨ cs.length ≤ k ∨ n < 0) : Calls Try.prog 18 #[.pointer (some ⟨r.Br, 0, none⟩), .int .i64 k, .int .i64 n] w fun e w' => e = .returned (.int .i64 1) ∧ w' = w := by
  by_cases ho : k < 0 ∨ cs.length ≤ k
  · go_enter Try.func18, Try.ntmps18
    go_wp2_with (go_at_call 28; refine (is_out r cs k _ h ho).mono ?_; rintro e w' ⟨rfl, rfl⟩)
    go_ret
    exact ⟨rfl, rfl⟩
  · obtain ⟨K, rfl⟩ := Int.eq_ofNat_of_zero_le (show 0 ≤ k by omega)
    have hn : n < 0 := by omega
    have hK : K < cs.length := by omega
    go_enter Try.func18, Try.ntmps18
    go_wp2_with (go_at_call 28; refine (is_in r cs K _ h hK).mono ?_; rintro e w' ⟨rfl, rfl⟩)
    go_ret
    exact ⟨rfl, rfl⟩

set_option maxHeartbeats 400000 in
theorem rgive_arg (r : RL) (cs : List Cnt) (k n : Int) (w : World) (h : Ref w r cs) (hk : k < 0 ∨ cs.length ≤ k ∨ n < 0) : Calls Try.prog 20 #[.pointer (some ⟨r.Br, 0, none⟩), .int .i64 k, .int .i64 n] w fun e w' => e = .returned (.tuple #[]) ∧ w' = w := by
  by_cases ho : k < 0 ∨ cs.length ≤ k
  · go_enter Try.func20, Try.ntmps20
    go_wp2_with (go_at_call 28; refine (is_out r cs k _ h ho).mono ?_; rintro e w' ⟨rfl, rfl⟩)
    go_end0
    exact ⟨rfl, rfl⟩
  · obtain ⟨K, rfl⟩ := Int.eq_ofNat_of_zero_le (show 0 ≤ k by omega)
    have hn : n < 0 := by omega
    have hK : K < cs.length := by omega
    go_enter Try.func20, Try.ntmps20
    go_wp2_with (go_at_call 28; refine (is_in r cs K _ h hK).mono ?_; rintro e w' ⟨rfl, rfl⟩)
    go_end0
    exact ⟨rfl, rfl⟩

set_option maxHeartbeats 1000000 in
theorem rtake_full (r : RL) (cs : List Cnt) (k : Nat) (n : Int) (w : World) (h : Ref w r cs) (hk : k < cs.length) (hn : 0 ≤ n) (hf : cs[k].1 - cs[k].2.1 < n) : Calls Try.prog 18 #[.pointer (some ⟨r.Br, 0, none⟩), .int .i64 k, .int .i64 n] w fun e w' => e = .returned (.int .i64 5) ∧ ∃ q, w' = w.drewN q := by
  have c0 := h.c0
  have c1 := h.c1
  have l0 := h.lc hk
  have u0 := h.uc hk
  have b := h.good.each cs[k] (List.getElem_mem hk)
  obtain ⟨L, hL⟩ : ∃ L, cs[k].1 = L := ⟨_, rfl⟩
  obtain ⟨U, hU⟩ : ∃ U, cs[k].2.1 = U := ⟨_, rfl⟩
  rw [hL] at l0 hf b
  rw [hU] at u0 hf b
  clear hL hU
  go_enter Try.func18, Try.ntmps18
  go_wp2_with (go_at_call 28; refine (is_in r cs k _ h hk).mono ?_; rintro e w' ⟨rfl, rfl⟩)
  go_quiet (fail)
  go_wp2
  go_ret
  exact ⟨rfl, _, rfl⟩

end Go.Proofs.Ytiaebahmbgmajaa
