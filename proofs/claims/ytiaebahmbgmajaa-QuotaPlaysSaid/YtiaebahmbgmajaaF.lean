/-
  The walks of Take, Give and Back.
-/
import Derived.Test.YtiaebahmbgmajaaE
namespace Go.Proofs.Ytiaebahmbgmajaa
open Go.RowKit

/-- The world with two new variables. -/
def two (w : World) (k n : Int) : World := (w.alloc (.cells #[.int .i64 k] 3)).alloc (.cells #[.int .i64 n] 3)
theorem two_size (w : World) (k n : Int) : (two w k n).heap.size = w.heap.size + 2 := by simp [two]
theorem two_below (w : World) (k n : Int) : Below w.heap.size w (two w k n) := ((Below.refl _ w).alloc (Nat.le_refl _) _).alloc (by simp) _
theorem two_k (w : World) (k n : Int) : (two w k n).heap[w.heap.size]? = some (.cells #[.int .i64 k] 3 (0, 0)) := (Below.heap_alloc _ _ _ (by simp)).trans (heap_alloc_new w _)
theorem two_n (w : World) (k n : Int) : (two w k n).heap[w.heap.size + 1]? = some (.cells #[.int .i64 n] 3 (0, 0)) := by
  have := heap_alloc_new (w.alloc (.cells #[.int .i64 k] 3)) (.cells #[.int .i64 n] 3)
  rw [World.size_alloc] at this
  exact this
theorem two_cells {w W : World} {k n : Int} (hb : Below (w.heap.size + 2) (two w k n) W) : W.cell? ⟨w.heap.size, 0, none⟩ = some (.int .i64 k) ∧ W.cell? ⟨w.heap.size + 1, 0, none⟩ = some (.int .i64 n) := by
  constructor
  · rw [hb.cell (p := ⟨w.heap.size, 0, none⟩) (by simp), cell_of_row _ _ 0 _ 3 (0, 0) (two_k w k n)]; rfl
  · rw [hb.cell (p := ⟨w.heap.size + 1, 0, none⟩) (by simp), cell_of_row _ _ 0 _ 3 (0, 0) (two_n w k n)]; rfl

set_option maxHeartbeats 400000 in
theorem take_nil (k n : Int) (w : World) : Calls Try.prog 17 #[.pointer none, .int .i64 k, .int .i64 n] w fun e w' => e = .returned (.int .i64 2) ∧ Below w.heap.size w w' := by
  go_enter Try.func17, Try.ntmps17
  go_wp2
  go_ret
  exact ⟨rfl, two_below w k n⟩

set_option maxHeartbeats 400000 in
theorem give_nil (k n : Int) (w : World) : Calls Try.prog 19 #[.pointer none, .int .i64 k, .int .i64 n] w fun e w' => e = .returned (.tuple #[]) ∧ Below w.heap.size w w' := by
  go_enter Try.func19, Try.ntmps19
  go_wp2_with (go_at_call 30; refine (has_nil _ _).mono ?_; rintro e w' ⟨rfl, rfl⟩)
  refine bodyPost_ret (results_none rfl _ _ _) rfl ?_
  exact ⟨rfl, two_below w k n⟩

set_option maxHeartbeats 400000 in
theorem take_arg (Ba g m : Nat) (k n : Int) (w : World) (h : AAt w Ba g m) (hk : k < 0 ∨ m ≤ k ∨ n < 0) : Calls Try.prog 17 #[.pointer (some ⟨Ba, 0, none⟩), .int .i64 k, .int .i64 n] w fun e w' => e = .returned (.int .i64 1) ∧ Below w.heap.size w w' := by
  have h2 : AAt (two w k n) Ba g m := h.below (two_below w k n) h.lt
  have hlt := h.lt
  clear h
  by_cases ho : k < 0 ∨ m ≤ k
  · go_enter Try.func17, Try.ntmps17
    go_wp2_with (go_at_call 30; refine (has_out Ba g m k _ h2 ho).mono ?_; rintro e w' ⟨rfl, rfl⟩)
    go_ret
    exact ⟨rfl, two_below w k n⟩
  · obtain ⟨K, rfl⟩ := Int.eq_ofNat_of_zero_le (show 0 ≤ k by omega)
    have hn : n < 0 := by omega
    have hK : K < m := by omega
    obtain ⟨ck, cn⟩ := two_cells (Below.refl (w.heap.size + 2) (two w K n))
    go_enter Try.func17, Try.ntmps17
    go_wp2_with (go_at_call 30; refine (has_in Ba g m K _ h2 hK).mono ?_; rintro e w' ⟨rfl, rfl⟩)
    go_ret
    exact ⟨rfl, two_below w K n⟩

set_option maxHeartbeats 400000 in
theorem give_arg (Ba g m : Nat) (k n : Int) (w : World) (h : AAt w Ba g m) (hk : k < 0 ∨ m ≤ k ∨ n < 0) : Calls Try.prog 19 #[.pointer (some ⟨Ba, 0, none⟩), .int .i64 k, .int .i64 n] w fun e w' => e = .returned (.tuple #[]) ∧ Below w.heap.size w w' := by
  have h2 : AAt (two w k n) Ba g m := h.below (two_below w k n) h.lt
  have hlt := h.lt
  clear h
  by_cases ho : k < 0 ∨ m ≤ k
  · go_enter Try.func19, Try.ntmps19
    go_wp2_with (go_at_call 30; refine (has_out Ba g m k _ h2 ho).mono ?_; rintro e w' ⟨rfl, rfl⟩)
    refine bodyPost_ret (results_none rfl _ _ _) rfl ?_
    exact ⟨rfl, two_below w k n⟩
  · obtain ⟨K, rfl⟩ := Int.eq_ofNat_of_zero_le (show 0 ≤ k by omega)
    have hn : n < 0 := by omega
    have hK : K < m := by omega
    obtain ⟨ck, cn⟩ := two_cells (Below.refl (w.heap.size + 2) (two w K n))
    go_enter Try.func19, Try.ntmps19
    go_wp2_with (go_at_call 30; refine (has_in Ba g m K _ h2 hK).mono ?_; rintro e w' ⟨rfl, rfl⟩)
    refine bodyPost_ret (results_none rfl _ _ _) rfl ?_
    exact ⟨rfl, two_below w K n⟩

/-- What Take makes of a count. -/
def tk (c : Cnt) (n : Int) : Cnt := (c.1, c.2.1 + n, if c.2.2 < c.2.1 + n then c.2.1 + n else c.2.2)

theorem take1_cl (w W : World) (cs : List Cnt) (k : Nat) (n : Int) (hk : k < cs.length) (hg : Good cs) (hn : 0 ≤ n) (hC : CAt W (two w k n).heap.size cs) (hb : Below (two w k n).heap.size (two w k n) W) (r : Int) (hr : (r = 5 ∧ cs[k].1 - cs[k].2.1 < n) ∨ (r = 0 ∧ n ≤ cs[k].1 - cs[k].2.1)) :
    Calls Try.prog 32 #[.slice (some ⟨(two w k n).heap.size, 0, none⟩) cs.length cs.length, .pointer (some ⟨w.heap.size, 0, none⟩), .pointer (some ⟨w.heap.size + 1, 0, none⟩)] W fun e W' => e = .returned (.int .i64 r) ∧ Tch (two w k n).heap.size W W' ∧ (r = 0 → CAt W' (two w k n).heap.size (cs.set k (tk cs[k] n))) := by
  obtain ⟨y1, y2, y3⟩ := hC.cell hk
  obtain ⟨b1, b2, b3, b4⟩ := hg.each cs[k] (List.getElem_mem hk)
  rw [two_size] at hb
  obtain ⟨ck, cn⟩ := two_cells hb
  have hsz := two_size w k n
  rcases hr with ⟨rfl, hr⟩ | ⟨rfl, hr⟩
  · refine (take1_full _ k _ _ _ n _ _ W hk y1 y2 ck cn b1 (by omega) b4 hr).mono ?_
    rintro e W' ⟨rfl, q, rfl⟩
    exact ⟨rfl, (Tch.refl _ W).drewN q, fun h => by cases h⟩
  · refine (take1_ok _ k _ _ _ n _ _ _ W hk y1 y2 y3 (hC.fr _) (hC.fr _) ck cn (by omega) (by omega) hn b1 (by omega) b4 hr).mono ?_
    rintro e W' ⟨rfl, q, rfl⟩
    refine ⟨rfl, (((Tch.refl _ W).set _ _).set _ _).drewN q, fun _ => ?_⟩
    have h1 := hC.set1 hk (cs[k].2.1 + n)
    have h2 := h1.set2 (k := k) (by simpa using hk) (if cs[k].2.2 < cs[k].2.1 + n then cs[k].2.1 + n else cs[k].2.2)
    simp only [List.getElem_set_self, List.set_set] at h2
    exact h2

/-- What a change leaves. -/
def Aft (w0 : World) (Ba g : Nat) (cs cs' : List Cnt) (r : Int) (w' : World) : Prop :=
  Tch Ba w0 w' ∧ (r = 0 → AAt w' Ba w0.heap.size cs.length ∧ CAt w' w0.heap.size cs') ∧ (r ≠ 0 → AAt w' Ba g cs.length ∧ CAt w' g cs)

set_option maxHeartbeats 400000 in
theorem take_in (Ba g k : Nat) (n : Int) (cs : List Cnt) (w : World) (h : Acc w Ba g cs) (hk : k < cs.length) (hn : 0 ≤ n) (r : Int) (hr : (r = 5 ∧ cs[k].1 - cs[k].2.1 < n) ∨ (r = 0 ∧ n ≤ cs[k].1 - cs[k].2.1)) :
    Calls Try.prog 17 #[.pointer (some ⟨Ba, 0, none⟩), .int .i64 k, .int .i64 n] w fun e w' => e = .returned (.int .i64 r) ∧ Aft (two w k n) Ba g cs (cs.set k (tk cs[k] n)) r w' := by
  have h2 : AAt (two w k n) Ba g cs.length := h.acc.below (two_below w k n) h.acc.lt
  have hc2 : CAt (two w k n) g cs := h.cnt.below (two_below w k n) h.cnt.lt
  have hlt := h.acc.lt
  have HC := change_32 Ba g w.heap.size (w.heap.size + 1) cs (cs.set k (tk cs[k] n)) r (two w k n) h2 hc2 h.good.len (fun W hC hb => take1_cl w W cs k n hk h.good hn hC hb r hr)
  obtain ⟨ck, cn⟩ := two_cells (Below.refl (w.heap.size + 2) (two w k n))
  clear h hc2
  go_enter Try.func17, Try.ntmps17
  go_wp2_with (first
    | (go_at_call 30; refine (has_in Ba g cs.length k _ h2 hk).mono ?_; rintro e w' ⟨rfl, rfl⟩)
    | (go_at_call 31; refine HC.mono ?_; rintro e w' ⟨rfl, hAft⟩; have HA : Aft (two w k n) Ba g cs (cs.set k (tk cs[k] n)) r w' := hAft; clear hAft))
  go_ret
  exact ⟨rfl, HA⟩

theorem Good.set {cs : List Cnt} (h : Good cs) (k : Nat) (c : Cnt) (hc : 0 ≤ c.2.1 ∧ c.2.1 ≤ c.2.2 ∧ c.2.2 ≤ c.1 ∧ c.1 ≤ 9223372036854775807) : Good (cs.set k c) := by
  refine ⟨by simpa using h.pos, by simpa using h.len, fun x hx => ?_⟩
  rcases List.mem_or_eq_of_mem_set hx with h' | h'
  · exact h.each x h'
  · subst h'; exact hc
theorem Good.tk {cs : List Cnt} (h : Good cs) (k : Nat) (hk : k < cs.length) (n : Int) (hn : 0 ≤ n) (hl : n ≤ cs[k].1 - cs[k].2.1) : Good (cs.set k (tk cs[k] n)) := by
  obtain ⟨b1, b2, b3, b4⟩ := h.each cs[k] (List.getElem_mem hk)
  refine h.set k _ ?_
  simp only [Ytiaebahmbgmajaa.tk]
  split <;> omega

/-- What Take answers, and what it leaves. -/
def takeE (cs : List Cnt) (k n : Int) : Int := if h : 0 ≤ k ∧ k < cs.length ∧ 0 ≤ n then (if (cs[k.toNat]'(by omega)).1 - (cs[k.toNat]'(by omega)).2.1 < n then 5 else 0) else 1
def takeC (cs : List Cnt) (k n : Int) : List Cnt := if h : 0 ≤ k ∧ k < cs.length ∧ 0 ≤ n then (if (cs[k.toNat]'(by omega)).1 - (cs[k.toNat]'(by omega)).2.1 < n then cs else cs.set k.toNat (tk (cs[k.toNat]'(by omega)) n)) else cs

theorem take_any (Ba g : Nat) (k n : Int) (cs : List Cnt) (w : World) (h : Acc w Ba g cs) :
    Calls Try.prog 17 #[.pointer (some ⟨Ba, 0, none⟩), .int .i64 k, .int .i64 n] w fun e w' => e = .returned (.int .i64 (takeE cs k n)) ∧ Tch Ba w w' ∧ ∃ g', Acc w' Ba g' (takeC cs k n) := by
  by_cases hin : 0 ≤ k ∧ k < cs.length ∧ 0 ≤ n
  · obtain ⟨K, rfl⟩ := Int.eq_ofNat_of_zero_le hin.1
    have hK : K < cs.length := by omega
    have t0 : Tch Ba w (two w K n) := Tch.of_below (two_below w K n)
    by_cases hf : cs[K].1 - cs[K].2.1 < n
    · have e1 : takeE cs K n = 5 := by simp [takeE, hK, hin.2.2, hf]
      have e2 : takeC cs K n = cs := by simp [takeC, hK, hin.2.2, hf]
      rw [e1, e2]
      refine (take_in Ba g K n cs w h hK hin.2.2 5 (.inl ⟨rfl, hf⟩)).mono ?_
      rintro e w' ⟨rfl, hT, _, hB⟩
      exact ⟨rfl, t0.trans hT, g, (hB (by decide)).1, (hB (by decide)).2, h.good⟩
    · have e1 : takeE cs K n = 0 := by simp [takeE, hK, hin.2.2, hf]
      have e2 : takeC cs K n = cs.set K (tk cs[K] n) := by simp [takeC, hK, hin.2.2, hf]
      rw [e1, e2]
      refine (take_in Ba g K n cs w h hK hin.2.2 0 (.inr ⟨rfl, by omega⟩)).mono ?_
      rintro e w' ⟨rfl, hT, hA, _⟩
      exact ⟨rfl, t0.trans hT, _, by simpa using (hA rfl).1, (hA rfl).2, h.good.tk K hK n hin.2.2 (by omega)⟩
  · have e1 : takeE cs k n = 1 := by simp only [takeE, dif_neg hin]
    have e2 : takeC cs k n = cs := by simp only [takeC, dif_neg hin]
    rw [e1, e2]
    refine (take_arg Ba g cs.length k n w h.acc (by omega)).mono ?_
    rintro e w' ⟨rfl, hb⟩
    exact ⟨rfl, Tch.of_below hb, g, h.acc.below hb h.acc.lt, h.cnt.below hb h.cnt.lt, h.good⟩

/-- What Give makes of a count. -/
def gv (c : Cnt) (n : Int) : Cnt := (c.1, subS c.2.1 n, c.2.2)

theorem give1_cl (w W : World) (cs : List Cnt) (k : Nat) (n : Int) (hk : k < cs.length) (hg : Good cs) (hn : Fit n) (hC : CAt W (two w k n).heap.size cs) (hb : Below (two w k n).heap.size (two w k n) W) :
    Calls Try.prog 33 #[.slice (some ⟨(two w k n).heap.size, 0, none⟩) cs.length cs.length, .pointer (some ⟨w.heap.size, 0, none⟩), .pointer (some ⟨w.heap.size + 1, 0, none⟩)] W fun e W' => e = .returned (.int .i64 0) ∧ Tch (two w k n).heap.size W W' ∧ ((0 : Int) = 0 → CAt W' (two w k n).heap.size (cs.set k (gv cs[k] n))) := by
  obtain ⟨y1, y2, y3⟩ := hC.cell hk
  obtain ⟨b1, b2, b3, b4⟩ := hg.each cs[k] (List.getElem_mem hk)
  rw [two_size] at hb
  obtain ⟨ck, cn⟩ := two_cells hb
  refine (give1_any _ k _ _ _ n _ W hk hg.len y2 (hC.fr _) ck cn ⟨by omega, by omega⟩ hn).mono ?_
  rintro e W' ⟨rfl, q, rfl⟩
  exact ⟨rfl, ((Tch.refl _ W).set _ _).drewN q, fun _ => hC.set1 hk _⟩

set_option maxHeartbeats 400000 in
theorem give_in (Ba g k : Nat) (n : Int) (cs : List Cnt) (w : World) (h : Acc w Ba g cs) (hk : k < cs.length) (hn : 0 ≤ n) (hf : Fit n) :
    Calls Try.prog 19 #[.pointer (some ⟨Ba, 0, none⟩), .int .i64 k, .int .i64 n] w fun e w' => e = .returned (.tuple #[]) ∧ Aft (two w k n) Ba g cs (cs.set k (gv cs[k] n)) 0 w' := by
  have h2 : AAt (two w k n) Ba g cs.length := h.acc.below (two_below w k n) h.acc.lt
  have hc2 : CAt (two w k n) g cs := h.cnt.below (two_below w k n) h.cnt.lt
  have hlt := h.acc.lt
  have HC : Calls Try.prog 31 #[.pointer (some ⟨Ba, 0, none⟩), .func (.func 33) #[] #[.pointer (some ⟨w.heap.size, 0, none⟩), .pointer (some ⟨w.heap.size + 1, 0, none⟩)]] (two w k n) fun e w' => e = .returned (.int .i64 0) ∧ Aft (two w k n) Ba g cs (cs.set k (gv cs[k] n)) 0 w' :=
    change_33 Ba g w.heap.size (w.heap.size + 1) cs (cs.set k (gv cs[k] n)) 0 (two w k n) h2 hc2 h.good.len (fun W hC hb => give1_cl w W cs k n hk h.good hf hC hb)
  obtain ⟨ck, cn⟩ := two_cells (Below.refl (w.heap.size + 2) (two w k n))
  clear h hc2
  go_enter Try.func19, Try.ntmps19
  go_wp2_with (first
    | (go_at_call 30; refine (has_in Ba g cs.length k _ h2 hk).mono ?_; rintro e w' ⟨rfl, rfl⟩)
    | (go_at_call 31; refine HC.mono ?_; rintro e w' ⟨rfl, HA⟩))
  go_end0
  exact ⟨rfl, HA⟩

def giveC (cs : List Cnt) (k n : Int) : List Cnt := if h : 0 ≤ k ∧ k < cs.length ∧ 0 ≤ n then cs.set k.toNat (gv (cs[k.toNat]'(by omega)) n) else cs

theorem subS_le {a b : Int} (ha : 0 ≤ a) : 0 ≤ subS a b ∧ subS a b ≤ a := by
  unfold subS lo
  repeat' split
  all_goals omega

theorem give_any (Ba g : Nat) (k n : Int) (cs : List Cnt) (w : World) (h : Acc w Ba g cs) (hf : Fit n) :
    Calls Try.prog 19 #[.pointer (some ⟨Ba, 0, none⟩), .int .i64 k, .int .i64 n] w fun e w' => e = .returned (.tuple #[]) ∧ Tch Ba w w' ∧ ∃ g', Acc w' Ba g' (giveC cs k n) := by
  by_cases hin : 0 ≤ k ∧ k < cs.length ∧ 0 ≤ n
  · obtain ⟨K, rfl⟩ := Int.eq_ofNat_of_zero_le hin.1
    have hK : K < cs.length := by omega
    have t0 : Tch Ba w (two w K n) := Tch.of_below (two_below w K n)
    have e2 : giveC cs K n = cs.set K (gv cs[K] n) := by simp [giveC, hK, hin.2.2]
    rw [e2]
    refine (give_in Ba g K n cs w h hK hin.2.2 hf).mono ?_
    rintro e w' ⟨rfl, hT, hA, _⟩
    refine ⟨rfl, t0.trans hT, _, by simpa using (hA rfl).1, (hA rfl).2, h.good.set K _ ?_⟩
    obtain ⟨b1, b2, b3, b4⟩ := h.good.each cs[K] (List.getElem_mem hK)
    have := subS_le (b := n) b1
    simp only [gv]
    omega
  · have e2 : giveC cs k n = cs := by simp only [giveC, dif_neg hin]
    rw [e2]
    refine (give_arg Ba g cs.length k n w h.acc (by omega)).mono ?_
    rintro e w' ⟨rfl, hb⟩
    exact ⟨rfl, Tch.of_below hb, g, h.acc.below hb h.acc.lt, h.cnt.below hb h.cnt.lt, h.good⟩

end Go.Proofs.Ytiaebahmbgmajaa
