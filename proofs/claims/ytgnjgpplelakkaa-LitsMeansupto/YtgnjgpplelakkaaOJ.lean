import Derived.Test.YtgnjgpplelakkaaOH
import Derived.Test.YtgnjgpplelakkaaLW

/-
  LitsMeans' walk.
-/
namespace Go.Proofs.Ytgnjgpplelakkaa
open Go.RowKit

/-- What lies in memory all through. -/
structure MnS (w : World) (sz : Int) (rule : List Int) (vr : Value) (l : List Lt) (v : Value) (X : World) : Prop where
  bel : Below w.heap.size w X
  lt : w.heap.size < X.heap.size
  c0 : X.cell? ⟨w.heap.size, 0, none⟩ = some (.int .i64 sz)
  c1 : X.cell? ⟨w.heap.size, 1, none⟩ = some vr
  rl : IntsAt X vr rule
  cl : ClauseAt X v l

theorem MnS.keep {w : World} {sz : Int} {rule : List Int} {vr : Value} {l : List Lt} {v : Value} {X X' : World} (h : MnS w sz rule vr l v X) (hb : Below X.heap.size X X') : MnS w sz rule vr l v X' :=
  ⟨h.bel.trans (hb.mono h.bel.size), Nat.lt_of_lt_of_le h.lt hb.size, kc hb h.lt h.c0, kc hb h.lt h.c1, h.rl.keep hb, h.cl.keep hb⟩

theorem MnS.new {w : World} {sz : Int} {rule : List Int} {vr : Value} {l : List Lt} {v : Value} (hr : IntsAt w vr rule) (hc : ClauseAt w v l) : MnS w sz rule vr l v (w.alloc (wbox sz vr)) := by
  have hb := below_box w (wbox sz vr)
  obtain ⟨c0, c1⟩ := wbox_cells w sz vr
  exact ⟨hb, by simp, c0, c1, hr.keep hb, hc.keep hb⟩

abbrev ServesS (S : World → Prop) (f : Nat) (args : Array Value) (r : Value) : Prop := ∀ X, S X → Calls Try.prog f args X fun e X' => e = .returned r ∧ S X'

set_option maxRecDepth 100000 in
set_option maxHeartbeats 2000000 in
/-- The way on which all is asked, over any S. -/
theorem means_main (w : World) (S : World → Prop) (sz : Int) (n1 n2 nl : Nat) (ra : Option Addr) (rn rc : Nat) (a : Option Addr) (c : Nat) (C1 C2 : World → Value → Prop) (is0 tt : Bool) (htt : tt = false ∨ is0 = true)
    (hS1 : S (w.alloc (wbox sz (.slice ra rn rc))))
    (hC : ∀ X, S X → X.cell? ⟨w.heap.size, 0, none⟩ = some (.int .i64 sz) ∧ X.cell? ⟨w.heap.size, 1, none⟩ = some (.slice ra rn rc))
    (hdr : ∀ X, S X → S X.drew) (hbl : ∀ X, S X → Below w.heap.size w X)
    (h9 : ServesS S 9 #[.slice a nl c] (.int .i64 0)) (h33 : ServesS S 33 #[.slice a nl c] (.bool true)) (h34 : ServesS S 34 #[wval sz (.slice ra rn rc)] (.bool true)) (h20 : nl ≤ 20)
    (h35 : ServesS S 35 #[wval sz (.slice ra rn rc), .slice a nl c] (.bool is0))
    (h28 : ∀ X, S X → Calls Try.prog 28 #[.slice a nl c] X fun e X' => ∃ p d, e = .returned (.slice p n1 d) ∧ C1 X' (.slice p n1 d) ∧ S X')
    (h35c : ∀ X u, S X → C1 X u → Calls Try.prog 35 #[wval sz (.slice ra rn rc), u] X fun e X' => e = .returned (.bool is0) ∧ S X')
    (h26 : ∀ X, S X → Calls Try.prog 26 #[.slice a nl c] X fun e X' => ∃ p d, e = .returned (.slice p n2 d) ∧ C2 X' (.slice p n2 d) ∧ S X')
    (h35n : ∀ X u, S X → C2 X u → Calls Try.prog 35 #[wval sz (.slice ra rn rc), u] X fun e X' => e = .returned (.bool is0) ∧ S X')
    (h30 : ServesS S 30 #[.slice a nl c] (.bool tt)) (h23 : ServesS S 23 #[] (.bool true)) :
    Calls Try.prog 7 #[.slice a nl c, wval sz (.slice ra rn rc)] w fun e w' => e = .returned (.bool true) ∧ Below w.heap.size w w' := by
  have qq : (is0 == is0) = true := by simp
  go_enter Try.func7, Try.ntmps7
  go_wp2_with fail
  refine (h9 _ hS1).mono ?_
  rintro e W1 ⟨rfl, hS1'⟩
  obtain ⟨x0, x1⟩ := hC _ hS1'
  go_wp2_with fail
  refine (h33 _ hS1').mono ?_
  rintro e W2 ⟨rfl, hS2⟩
  clear x0 x1
  obtain ⟨x0, x1⟩ := hC _ hS2
  go_wp2_with fail
  refine (h34 _ hS2).mono ?_
  rintro e W3 ⟨rfl, hS3⟩
  clear x0 x1
  obtain ⟨x0, x1⟩ := hC _ hS3
  go_wp2_with fail
  refine (h35 _ hS3).mono ?_
  rintro e W4 ⟨rfl, hS4⟩
  clear x0 x1
  have hS4d := hdr _ hS4
  obtain ⟨x0, x1⟩ := hC _ hS4d
  clear h9 h33 h34 h35 hS1 hS1' hS2 hS3 hdr
  have htt' : (tt = false) ∨ (tt = true ∧ is0 = true) := by cases tt <;> simp_all
  clear htt
  go_wp2
  refine wp_region_held_drew (S := S) (by kernel_rfl) hS4d (fun hHeld => ?_)
  generalize W4.drew = Wd at *
  rcases htt' with rfl | ⟨rfl, rfl⟩
  · refine take_mk 0 (wval sz (.slice ra rn rc)) rfl (by kernel_rfl) (by kernel_rfl) (by kernel_rfl) (fun _ _ _ h => h) (Or.inl ⟨by rfl, fun X hX => by obtain ⟨_, _⟩ := hC X hX; go_simp⟩) (by assumption) ?_
    try simp only [Act.put, List.setIfInBounds_toArray, List.set_cons_zero, List.set_cons_succ]
    refine take_mk 1 (.slice a nl c) rfl (by kernel_rfl) (by kernel_rfl) (by kernel_rfl) (fun _ _ _ h => h) (Or.inl ⟨by rfl, fun X hX => by go_simp⟩) (by assumption) ?_
    try simp only [Act.put, List.setIfInBounds_toArray, List.set_cons_zero, List.set_cons_succ]
    refine take_mk 4 (.bool is0) rfl (by kernel_rfl) (by kernel_rfl) (by kernel_rfl) (fun _ _ _ h => h) (Or.inl ⟨by rfl, fun X hX => by go_simp⟩) (by assumption) ?_
    try simp only [Act.put, List.setIfInBounds_toArray, List.set_cons_zero, List.set_cons_succ]
    refine wpAnyH_ready (rs := [2]) (by kernel_rfl) (by simp) (AllReadyH.cons (o := ⟨_, _, _, _, _, _⟩) rfl (fun K hK => ?_) AllReadyH.nil)
    rw [if_pos (by rfl)]
    go_simp
    refine (h28 _ hS4d).mono ?_
    rintro e W5 ⟨p5, d5, rfl, A5, HW5⟩
    refine hK.out _ _ HW5 (fun _ => ?_)
    clear hK K
    try simp only [Act.put, List.setIfInBounds_toArray, List.set_cons_zero, List.set_cons_succ]
    refine wpAnyH_ready (rs := [3]) (by kernel_rfl) (by simp) (AllReadyH.cons (o := ⟨_, _, _, _, _, _⟩) rfl (fun K hK => ?_) AllReadyH.nil)
    rw [if_pos (by rfl)]
    go_simp
    refine (h35c _ _ HW5 A5).mono ?_
    rintro e W6 ⟨rfl, HW6⟩
    refine hK.out _ _ HW6 (fun _ => ?_)
    clear hK K
    try simp only [Act.put, List.setIfInBounds_toArray, List.set_cons_zero, List.set_cons_succ]
    refine take_mk 5 (.bool true) rfl (by kernel_rfl) (by kernel_rfl) (by kernel_rfl) (fun _ _ _ h => h) (Or.inl ⟨by rfl, fun X hX => by go_simp⟩) (by assumption) ?_
    try simp only [Act.put, List.setIfInBounds_toArray, List.set_cons_zero, List.set_cons_succ]
    refine take_mk 6 (.bool true) rfl (by kernel_rfl) (by kernel_rfl) (by kernel_rfl) (fun _ _ _ h => h) (Or.inl ⟨by rfl, fun X hX => by go_simp⟩) (by assumption) ?_
    try simp only [Act.put, List.setIfInBounds_toArray, List.set_cons_zero, List.set_cons_succ]
    refine take_mk 7 (wval sz (.slice ra rn rc)) rfl (by kernel_rfl) (by kernel_rfl) (by kernel_rfl) (fun _ _ _ h => h) (Or.inl ⟨by rfl, fun X hX => by obtain ⟨_, _⟩ := hC X hX; go_simp⟩) (by assumption) ?_
    try simp only [Act.put, List.setIfInBounds_toArray, List.set_cons_zero, List.set_cons_succ]
    refine take_mk 8 (.slice a nl c) rfl (by kernel_rfl) (by kernel_rfl) (by kernel_rfl) (fun _ _ _ h => h) (Or.inl ⟨by rfl, fun X hX => by go_simp⟩) (by assumption) ?_
    try simp only [Act.put, List.setIfInBounds_toArray, List.set_cons_zero, List.set_cons_succ]
    refine take_mk 11 (.bool is0) rfl (by kernel_rfl) (by kernel_rfl) (by kernel_rfl) (fun _ _ _ h => h) (Or.inl ⟨by rfl, fun X hX => by go_simp⟩) (by assumption) ?_
    try simp only [Act.put, List.setIfInBounds_toArray, List.set_cons_zero, List.set_cons_succ]
    refine wpAnyH_ready (rs := [9]) (by kernel_rfl) (by simp) (AllReadyH.cons (o := ⟨_, _, _, _, _, _⟩) rfl (fun K hK => ?_) AllReadyH.nil)
    rw [if_pos (by rfl)]
    go_simp
    refine (h26 _ HW6).mono ?_
    rintro e W7 ⟨p7, d7, rfl, A7, HW7⟩
    refine hK.out _ _ HW7 (fun _ => ?_)
    clear hK K
    try simp only [Act.put, List.setIfInBounds_toArray, List.set_cons_zero, List.set_cons_succ]
    refine wpAnyH_ready (rs := [10]) (by kernel_rfl) (by simp) (AllReadyH.cons (o := ⟨_, _, _, _, _, _⟩) rfl (fun K hK => ?_) AllReadyH.nil)
    rw [if_pos (by rfl)]
    go_simp
    refine (h35n _ _ HW7 A7).mono ?_
    rintro e W8 ⟨rfl, HW8⟩
    refine hK.out _ _ HW8 (fun _ => ?_)
    clear hK K
    try simp only [Act.put, List.setIfInBounds_toArray, List.set_cons_zero, List.set_cons_succ]
    refine take_mk 12 (.bool true) rfl (by kernel_rfl) (by kernel_rfl) (by kernel_rfl) (fun _ _ _ h => h) (Or.inl ⟨by rfl, fun X hX => by go_simp⟩) (by assumption) ?_
    try simp only [Act.put, List.setIfInBounds_toArray, List.set_cons_zero, List.set_cons_succ]
    refine take_mk 13 (.bool true) rfl (by kernel_rfl) (by kernel_rfl) (by kernel_rfl) (fun _ _ _ h => h) (Or.inl ⟨by rfl, fun X hX => by go_simp⟩) (by assumption) ?_
    try simp only [Act.put, List.setIfInBounds_toArray, List.set_cons_zero, List.set_cons_succ]
    refine take_mk 14 (.bool true) rfl (by kernel_rfl) (by kernel_rfl) (by kernel_rfl) (fun _ _ _ h => h) (Or.inl ⟨by rfl, fun X hX => by go_simp⟩) (by assumption) ?_
    try simp only [Act.put, List.setIfInBounds_toArray, List.set_cons_zero, List.set_cons_succ]
    refine take_mk 15 (.slice a nl c) rfl (by kernel_rfl) (by kernel_rfl) (by kernel_rfl) (fun _ _ _ h => h) (Or.inl ⟨by rfl, fun X hX => by go_simp⟩) (by assumption) ?_
    try simp only [Act.put, List.setIfInBounds_toArray, List.set_cons_zero, List.set_cons_succ]
    refine wpAnyH_ready (rs := [16]) (by kernel_rfl) (by simp) (AllReadyH.cons (o := ⟨_, _, _, _, _, _⟩) rfl (fun K hK => ?_) AllReadyH.nil)
    rw [if_pos (by rfl)]
    go_simp
    refine (h30 _ HW8).mono ?_
    rintro e W9 ⟨rfl, HW9⟩
    refine hK.out _ _ HW9 (fun _ => ?_)
    clear hK K
    try simp only [Act.put, List.setIfInBounds_toArray, List.set_cons_zero, List.set_cons_succ]
    refine take_mk 17 (.bool true) rfl (by kernel_rfl) (by kernel_rfl) (by kernel_rfl) (fun _ _ _ h => h) (Or.inl ⟨by rfl, fun X hX => by go_simp⟩) (by assumption) ?_
    try simp only [Act.put, List.setIfInBounds_toArray, List.set_cons_zero, List.set_cons_succ]
    refine take_mk 18 (.bool true) rfl (by kernel_rfl) (by kernel_rfl) (by kernel_rfl) (fun _ _ _ h => h) (Or.inl ⟨by rfl, fun X hX => by go_simp⟩) (by assumption) ?_
    try simp only [Act.put, List.setIfInBounds_toArray, List.set_cons_zero, List.set_cons_succ]
    refine take_mk 19 undef rfl (by kernel_rfl) (by kernel_rfl) (by kernel_rfl) (fun _ _ _ h => h) (Or.inr ⟨by rfl, rfl⟩) (by assumption) ?_
    try simp only [Act.put, List.setIfInBounds_toArray, List.set_cons_zero, List.set_cons_succ]
    refine take_mk 20 (.bool true) rfl (by kernel_rfl) (by kernel_rfl) (by kernel_rfl) (fun _ _ _ h => h) (Or.inl ⟨by rfl, fun X hX => by go_simp⟩) (by assumption) ?_
    try simp only [Act.put, List.setIfInBounds_toArray, List.set_cons_zero, List.set_cons_succ]
    refine take_mk 21 (.bool true) rfl (by kernel_rfl) (by kernel_rfl) (by kernel_rfl) (fun _ _ _ h => h) (Or.inl ⟨by rfl, fun X hX => by go_simp⟩) (by assumption) ?_
    try simp only [Act.put, List.setIfInBounds_toArray, List.set_cons_zero, List.set_cons_succ]
    refine take_mk 22 (.bool true) rfl (by kernel_rfl) (by kernel_rfl) (by kernel_rfl) (fun _ _ _ h => h) (Or.inl ⟨by rfl, fun X hX => by go_simp⟩) (by assumption) ?_
    try simp only [Act.put, List.setIfInBounds_toArray, List.set_cons_zero, List.set_cons_succ]
    refine wpAnyH_ready (rs := [23]) (by kernel_rfl) (by simp) (AllReadyH.cons (o := ⟨_, _, _, _, _, _⟩) rfl (fun K hK => ?_) AllReadyH.nil)
    rw [if_pos (by rfl)]
    go_simp
    refine (h23 _ HW9).mono ?_
    rintro e W10 ⟨rfl, HW10⟩
    refine hK.out _ _ HW10 (fun _ => ?_)
    clear hK K
    try simp only [Act.put, List.setIfInBounds_toArray, List.set_cons_zero, List.set_cons_succ]
    refine take_mk 24 (.bool true) rfl (by kernel_rfl) (by kernel_rfl) (by kernel_rfl) (fun _ _ _ h => h) (Or.inl ⟨by rfl, fun X hX => by go_simp⟩) (by assumption) ?_
    try simp only [Act.put, List.setIfInBounds_toArray, List.set_cons_zero, List.set_cons_succ]
    refine take_mk 25 (.bool true) rfl (by kernel_rfl) (by kernel_rfl) (by kernel_rfl) (fun _ _ _ h => h) (Or.inl ⟨by rfl, fun X hX => by go_simp⟩) (by assumption) ?_
    try simp only [Act.put, List.setIfInBounds_toArray, List.set_cons_zero, List.set_cons_succ]
    refine wpAnyH_done (by kernel_rfl) ?_ _
    go_wp2
    go_ret
    exact ⟨rfl, hbl _ HW10⟩
  · refine take_mk 0 (wval sz (.slice ra rn rc)) rfl (by kernel_rfl) (by kernel_rfl) (by kernel_rfl) (fun _ _ _ h => h) (Or.inl ⟨by rfl, fun X hX => by obtain ⟨_, _⟩ := hC X hX; go_simp⟩) (by assumption) ?_
    try simp only [Act.put, List.setIfInBounds_toArray, List.set_cons_zero, List.set_cons_succ]
    refine take_mk 1 (.slice a nl c) rfl (by kernel_rfl) (by kernel_rfl) (by kernel_rfl) (fun _ _ _ h => h) (Or.inl ⟨by rfl, fun X hX => by go_simp⟩) (by assumption) ?_
    try simp only [Act.put, List.setIfInBounds_toArray, List.set_cons_zero, List.set_cons_succ]
    refine take_mk 4 (.bool true) rfl (by kernel_rfl) (by kernel_rfl) (by kernel_rfl) (fun _ _ _ h => h) (Or.inl ⟨by rfl, fun X hX => by go_simp⟩) (by assumption) ?_
    try simp only [Act.put, List.setIfInBounds_toArray, List.set_cons_zero, List.set_cons_succ]
    refine wpAnyH_ready (rs := [2]) (by kernel_rfl) (by simp) (AllReadyH.cons (o := ⟨_, _, _, _, _, _⟩) rfl (fun K hK => ?_) AllReadyH.nil)
    rw [if_pos (by rfl)]
    go_simp
    refine (h28 _ hS4d).mono ?_
    rintro e W5 ⟨p5, d5, rfl, A5, HW5⟩
    refine hK.out _ _ HW5 (fun _ => ?_)
    clear hK K
    try simp only [Act.put, List.setIfInBounds_toArray, List.set_cons_zero, List.set_cons_succ]
    refine wpAnyH_ready (rs := [3]) (by kernel_rfl) (by simp) (AllReadyH.cons (o := ⟨_, _, _, _, _, _⟩) rfl (fun K hK => ?_) AllReadyH.nil)
    rw [if_pos (by rfl)]
    go_simp
    refine (h35c _ _ HW5 A5).mono ?_
    rintro e W6 ⟨rfl, HW6⟩
    refine hK.out _ _ HW6 (fun _ => ?_)
    clear hK K
    try simp only [Act.put, List.setIfInBounds_toArray, List.set_cons_zero, List.set_cons_succ]
    refine take_mk 5 (.bool true) rfl (by kernel_rfl) (by kernel_rfl) (by kernel_rfl) (fun _ _ _ h => h) (Or.inl ⟨by rfl, fun X hX => by go_simp⟩) (by assumption) ?_
    try simp only [Act.put, List.setIfInBounds_toArray, List.set_cons_zero, List.set_cons_succ]
    refine take_mk 6 (.bool true) rfl (by kernel_rfl) (by kernel_rfl) (by kernel_rfl) (fun _ _ _ h => h) (Or.inl ⟨by rfl, fun X hX => by go_simp⟩) (by assumption) ?_
    try simp only [Act.put, List.setIfInBounds_toArray, List.set_cons_zero, List.set_cons_succ]
    refine take_mk 7 (wval sz (.slice ra rn rc)) rfl (by kernel_rfl) (by kernel_rfl) (by kernel_rfl) (fun _ _ _ h => h) (Or.inl ⟨by rfl, fun X hX => by obtain ⟨_, _⟩ := hC X hX; go_simp⟩) (by assumption) ?_
    try simp only [Act.put, List.setIfInBounds_toArray, List.set_cons_zero, List.set_cons_succ]
    refine take_mk 8 (.slice a nl c) rfl (by kernel_rfl) (by kernel_rfl) (by kernel_rfl) (fun _ _ _ h => h) (Or.inl ⟨by rfl, fun X hX => by go_simp⟩) (by assumption) ?_
    try simp only [Act.put, List.setIfInBounds_toArray, List.set_cons_zero, List.set_cons_succ]
    refine take_mk 11 (.bool true) rfl (by kernel_rfl) (by kernel_rfl) (by kernel_rfl) (fun _ _ _ h => h) (Or.inl ⟨by rfl, fun X hX => by go_simp⟩) (by assumption) ?_
    try simp only [Act.put, List.setIfInBounds_toArray, List.set_cons_zero, List.set_cons_succ]
    refine wpAnyH_ready (rs := [9]) (by kernel_rfl) (by simp) (AllReadyH.cons (o := ⟨_, _, _, _, _, _⟩) rfl (fun K hK => ?_) AllReadyH.nil)
    rw [if_pos (by rfl)]
    go_simp
    refine (h26 _ HW6).mono ?_
    rintro e W7 ⟨p7, d7, rfl, A7, HW7⟩
    refine hK.out _ _ HW7 (fun _ => ?_)
    clear hK K
    try simp only [Act.put, List.setIfInBounds_toArray, List.set_cons_zero, List.set_cons_succ]
    refine wpAnyH_ready (rs := [10]) (by kernel_rfl) (by simp) (AllReadyH.cons (o := ⟨_, _, _, _, _, _⟩) rfl (fun K hK => ?_) AllReadyH.nil)
    rw [if_pos (by rfl)]
    go_simp
    refine (h35n _ _ HW7 A7).mono ?_
    rintro e W8 ⟨rfl, HW8⟩
    refine hK.out _ _ HW8 (fun _ => ?_)
    clear hK K
    try simp only [Act.put, List.setIfInBounds_toArray, List.set_cons_zero, List.set_cons_succ]
    refine take_mk 12 (.bool true) rfl (by kernel_rfl) (by kernel_rfl) (by kernel_rfl) (fun _ _ _ h => h) (Or.inl ⟨by rfl, fun X hX => by go_simp⟩) (by assumption) ?_
    try simp only [Act.put, List.setIfInBounds_toArray, List.set_cons_zero, List.set_cons_succ]
    refine take_mk 13 (.bool true) rfl (by kernel_rfl) (by kernel_rfl) (by kernel_rfl) (fun _ _ _ h => h) (Or.inl ⟨by rfl, fun X hX => by go_simp⟩) (by assumption) ?_
    try simp only [Act.put, List.setIfInBounds_toArray, List.set_cons_zero, List.set_cons_succ]
    refine take_mk 14 (.bool true) rfl (by kernel_rfl) (by kernel_rfl) (by kernel_rfl) (fun _ _ _ h => h) (Or.inl ⟨by rfl, fun X hX => by go_simp⟩) (by assumption) ?_
    try simp only [Act.put, List.setIfInBounds_toArray, List.set_cons_zero, List.set_cons_succ]
    refine take_mk 15 (.slice a nl c) rfl (by kernel_rfl) (by kernel_rfl) (by kernel_rfl) (fun _ _ _ h => h) (Or.inl ⟨by rfl, fun X hX => by go_simp⟩) (by assumption) ?_
    try simp only [Act.put, List.setIfInBounds_toArray, List.set_cons_zero, List.set_cons_succ]
    refine wpAnyH_ready (rs := [16]) (by kernel_rfl) (by simp) (AllReadyH.cons (o := ⟨_, _, _, _, _, _⟩) rfl (fun K hK => ?_) AllReadyH.nil)
    rw [if_pos (by rfl)]
    go_simp
    refine (h30 _ HW8).mono ?_
    rintro e W9 ⟨rfl, HW9⟩
    refine hK.out _ _ HW9 (fun _ => ?_)
    clear hK K
    try simp only [Act.put, List.setIfInBounds_toArray, List.set_cons_zero, List.set_cons_succ]
    refine take_mk 17 (.bool false) rfl (by kernel_rfl) (by kernel_rfl) (by kernel_rfl) (fun _ _ _ h => h) (Or.inl ⟨by rfl, fun X hX => by go_simp⟩) (by assumption) ?_
    try simp only [Act.put, List.setIfInBounds_toArray, List.set_cons_zero, List.set_cons_succ]
    refine take_mk 18 (.bool false) rfl (by kernel_rfl) (by kernel_rfl) (by kernel_rfl) (fun _ _ _ h => h) (Or.inl ⟨by rfl, fun X hX => by go_simp⟩) (by assumption) ?_
    try simp only [Act.put, List.setIfInBounds_toArray, List.set_cons_zero, List.set_cons_succ]
    refine take_mk 19 (.bool true) rfl (by kernel_rfl) (by kernel_rfl) (by kernel_rfl) (fun _ _ _ h => h) (Or.inl ⟨by rfl, fun X hX => by go_simp⟩) (by assumption) ?_
    try simp only [Act.put, List.setIfInBounds_toArray, List.set_cons_zero, List.set_cons_succ]
    refine take_mk 20 (.bool true) rfl (by kernel_rfl) (by kernel_rfl) (by kernel_rfl) (fun _ _ _ h => h) (Or.inl ⟨by rfl, fun X hX => by go_simp⟩) (by assumption) ?_
    try simp only [Act.put, List.setIfInBounds_toArray, List.set_cons_zero, List.set_cons_succ]
    refine take_mk 21 (.bool true) rfl (by kernel_rfl) (by kernel_rfl) (by kernel_rfl) (fun _ _ _ h => h) (Or.inl ⟨by rfl, fun X hX => by go_simp⟩) (by assumption) ?_
    try simp only [Act.put, List.setIfInBounds_toArray, List.set_cons_zero, List.set_cons_succ]
    refine take_mk 22 (.bool true) rfl (by kernel_rfl) (by kernel_rfl) (by kernel_rfl) (fun _ _ _ h => h) (Or.inl ⟨by rfl, fun X hX => by go_simp⟩) (by assumption) ?_
    try simp only [Act.put, List.setIfInBounds_toArray, List.set_cons_zero, List.set_cons_succ]
    refine wpAnyH_ready (rs := [23]) (by kernel_rfl) (by simp) (AllReadyH.cons (o := ⟨_, _, _, _, _, _⟩) rfl (fun K hK => ?_) AllReadyH.nil)
    rw [if_pos (by rfl)]
    go_simp
    refine (h23 _ HW9).mono ?_
    rintro e W10 ⟨rfl, HW10⟩
    refine hK.out _ _ HW10 (fun _ => ?_)
    clear hK K
    try simp only [Act.put, List.setIfInBounds_toArray, List.set_cons_zero, List.set_cons_succ]
    refine take_mk 24 (.bool true) rfl (by kernel_rfl) (by kernel_rfl) (by kernel_rfl) (fun _ _ _ h => h) (Or.inl ⟨by rfl, fun X hX => by go_simp⟩) (by assumption) ?_
    try simp only [Act.put, List.setIfInBounds_toArray, List.set_cons_zero, List.set_cons_succ]
    refine take_mk 25 (.bool true) rfl (by kernel_rfl) (by kernel_rfl) (by kernel_rfl) (fun _ _ _ h => h) (Or.inl ⟨by rfl, fun X hX => by go_simp⟩) (by assumption) ?_
    try simp only [Act.put, List.setIfInBounds_toArray, List.set_cons_zero, List.set_cons_succ]
    refine wpAnyH_done (by kernel_rfl) ?_ _
    go_wp2
    go_ret
    exact ⟨rfl, hbl _ HW10⟩

end Go.Proofs.Ytgnjgpplelakkaa

/-
  LitsMeans: the ways on which nothing is asked; all ways together.
-/
namespace Go.Proofs.Ytgnjgpplelakkaa
open Go.RowKit

set_option maxRecDepth 100000 in
set_option maxHeartbeats 1000000 in
theorem means_no1 (w : World) (S : World → Prop) (sz : Int) (nl : Nat) (ra : Option Addr) (rn rc : Nat) (a : Option Addr) (c : Nat)
    (hS1 : S (w.alloc (wbox sz (.slice ra rn rc))))
    (hbl : ∀ X, S X → Below w.heap.size w X) (k : Int) (hk : k ≠ 0)
    (h9 : ServesS S 9 #[.slice a nl c] (.int .i64 k)) (h23 : ServesS S 23 #[] (.bool true)) :
    Calls Try.prog 7 #[.slice a nl c, wval sz (.slice ra rn rc)] w fun e w' => e = .returned (.bool true) ∧ Below w.heap.size w w' := by
  have hkb : (k != 0) = true := by rw [bne_iff_ne]; exact hk
  clear hk
  go_enter Try.func7, Try.ntmps7
  go_wp2_with fail
  refine (h9 _ hS1).mono ?_
  rintro e W1 ⟨rfl, hSa⟩
  go_wp2_with fail
  refine (h23 _ hSa).mono ?_
  rintro e W9 ⟨rfl, hSd⟩
  go_wp2
  go_ret
  exact ⟨rfl, hbl _ hSd⟩

set_option maxRecDepth 100000 in
set_option maxHeartbeats 1000000 in
theorem means_no2 (w : World) (S : World → Prop) (sz : Int) (nl : Nat) (ra : Option Addr) (rn rc : Nat) (a : Option Addr) (c : Nat)
    (hS1 : S (w.alloc (wbox sz (.slice ra rn rc))))
    (hC : ∀ X, S X → X.cell? ⟨w.heap.size, 0, none⟩ = some (.int .i64 sz) ∧ X.cell? ⟨w.heap.size, 1, none⟩ = some (.slice ra rn rc))
    (hbl : ∀ X, S X → Below w.heap.size w X) 
    (h9 : ServesS S 9 #[.slice a nl c] (.int .i64 0)) (h33 : ServesS S 33 #[.slice a nl c] (.bool false)) (h23 : ServesS S 23 #[] (.bool true)) :
    Calls Try.prog 7 #[.slice a nl c, wval sz (.slice ra rn rc)] w fun e w' => e = .returned (.bool true) ∧ Below w.heap.size w w' := by
  go_enter Try.func7, Try.ntmps7
  go_wp2_with fail
  refine (h9 _ hS1).mono ?_
  rintro e W1 ⟨rfl, hSa⟩
  go_wp2_with fail
  refine (h33 _ hSa).mono ?_
  rintro e W2 ⟨rfl, hSb⟩
  obtain ⟨x0, x1⟩ := hC _ hSb
  go_wp2_with fail
  refine (h23 _ hSb).mono ?_
  rintro e W9 ⟨rfl, hSd⟩
  go_wp2
  go_ret
  exact ⟨rfl, hbl _ hSd⟩

set_option maxRecDepth 100000 in
set_option maxHeartbeats 1000000 in
theorem means_no3 (w : World) (S : World → Prop) (sz : Int) (nl : Nat) (ra : Option Addr) (rn rc : Nat) (a : Option Addr) (c : Nat)
    (hS1 : S (w.alloc (wbox sz (.slice ra rn rc))))
    (hC : ∀ X, S X → X.cell? ⟨w.heap.size, 0, none⟩ = some (.int .i64 sz) ∧ X.cell? ⟨w.heap.size, 1, none⟩ = some (.slice ra rn rc))
    (hbl : ∀ X, S X → Below w.heap.size w X) 
    (h9 : ServesS S 9 #[.slice a nl c] (.int .i64 0)) (h33 : ServesS S 33 #[.slice a nl c] (.bool true)) (h34 : ServesS S 34 #[wval sz (.slice ra rn rc)] (.bool false)) (h23 : ServesS S 23 #[] (.bool true)) :
    Calls Try.prog 7 #[.slice a nl c, wval sz (.slice ra rn rc)] w fun e w' => e = .returned (.bool true) ∧ Below w.heap.size w w' := by
  go_enter Try.func7, Try.ntmps7
  go_wp2_with fail
  refine (h9 _ hS1).mono ?_
  rintro e W1 ⟨rfl, hSa⟩
  go_wp2_with fail
  refine (h33 _ hSa).mono ?_
  rintro e W2 ⟨rfl, hSb⟩
  obtain ⟨x0, x1⟩ := hC _ hSb
  go_wp2_with fail
  refine (h34 _ hSb).mono ?_
  rintro e W3 ⟨rfl, hSc⟩
  clear x0 x1
  go_wp2_with fail
  refine (h23 _ hSc).mono ?_
  rintro e W9 ⟨rfl, hSd⟩
  go_wp2
  go_ret
  exact ⟨rfl, hbl _ hSd⟩

set_option maxRecDepth 100000 in
set_option maxHeartbeats 1000000 in
theorem means_no4 (w : World) (S : World → Prop) (sz : Int) (nl : Nat) (ra : Option Addr) (rn rc : Nat) (a : Option Addr) (c : Nat) (hnl : nl ≤ 9223372036854775807)
    (hS1 : S (w.alloc (wbox sz (.slice ra rn rc))))
    (hC : ∀ X, S X → X.cell? ⟨w.heap.size, 0, none⟩ = some (.int .i64 sz) ∧ X.cell? ⟨w.heap.size, 1, none⟩ = some (.slice ra rn rc))
    (hbl : ∀ X, S X → Below w.heap.size w X) 
    (h9 : ServesS S 9 #[.slice a nl c] (.int .i64 0)) (h33 : ServesS S 33 #[.slice a nl c] (.bool true)) (h34 : ServesS S 34 #[wval sz (.slice ra rn rc)] (.bool true)) (h20 : 20 < nl) (h23 : ServesS S 23 #[] (.bool true)) :
    Calls Try.prog 7 #[.slice a nl c, wval sz (.slice ra rn rc)] w fun e w' => e = .returned (.bool true) ∧ Below w.heap.size w w' := by
  go_enter Try.func7, Try.ntmps7
  go_wp2_with fail
  refine (h9 _ hS1).mono ?_
  rintro e W1 ⟨rfl, hSa⟩
  go_wp2_with fail
  refine (h33 _ hSa).mono ?_
  rintro e W2 ⟨rfl, hSb⟩
  obtain ⟨x0, x1⟩ := hC _ hSb
  go_wp2_with fail
  refine (h34 _ hSb).mono ?_
  rintro e W3 ⟨rfl, hSc⟩
  clear x0 x1
  go_wp2_with fail
  refine (h23 _ hSc).mono ?_
  rintro e W9 ⟨rfl, hSd⟩
  go_wp2
  go_ret
  exact ⟨rfl, hbl _ hSd⟩

theorem side_mem2 {l : List Lt} {t : T} (h : t ∈ sidesOf l) : ∃ x ∈ l, t = x.l ∨ t = x.r := by
  unfold sidesOf at h
  obtain ⟨x, hx, ht⟩ := List.mem_flatMap.1 h
  exact ⟨x, hx, by simpa using ht⟩

theorem csize_norm1 (l : List Lt) : csize (cnorm l) = csize l := csize_norm l []

theorem lmeans_any (l : List Lt) (v : Value) (sz : Int) (rule : List Int) (vr : Value) (w : World) (hc : ClauseAt w v l) (hr : IntsAt w vr rule) (hsz : csize l ≤ 1048576) :
    Calls Try.prog 7 #[v, wval sz vr] w fun e w' => e = .returned (.bool true) ∧ Below w.heap.size w w' := by
  have hS1 : MnS w sz rule vr l v (w.alloc (wbox sz vr)) := MnS.new hr hc
  have hlen := hc.len
  have hC : ∀ X, MnS w sz rule vr l v X → X.cell? ⟨w.heap.size, 0, none⟩ = some (.int .i64 sz) ∧ X.cell? ⟨w.heap.size, 1, none⟩ = some vr := fun X h => ⟨h.c0, h.c1⟩
  have hdr : ∀ X, MnS w sz rule vr l v X → MnS w sz rule vr l v X.drew := fun X h => h.keep (Below.refl _ _).drew
  have hbl : ∀ X, MnS w sz rule vr l v X → Below w.heap.size w X := fun X h => h.bel
  have h9 : ServesS (MnS w sz rule vr l v) 9 #[v] (.int .i64 (crightW l)) := fun X hX => (rcright_any l v X hX.cl).mono fun e X' ⟨he, hb⟩ => ⟨he, hX.keep hb⟩
  have h23 : ServesS (MnS w sz rule vr l v) 23 #[] (.bool true) := fun X hX => (alive_any X).mono fun e X' ⟨he, hb⟩ => ⟨he, hX.keep hb⟩
  have h34 : ServesS (MnS w sz rule vr l v) 34 #[wval sz vr] (.bool (wrB sz rule)) := fun X hX => (wright_any sz rule vr X hX.rl).mono fun e X' ⟨he, hb⟩ => ⟨he, hX.keep hb⟩
  by_cases hk : crightW l = 0
  · rw [hk] at h9
    have he := cright_sides hk
    have hsh : Shaped l := fun x hx => ⟨right_shape (he x hx).1, right_shape (he x hx).2⟩
    have hs4 : csize l ≤ 4000 := by
      unfold crightW at hk
      have hfe : fe (sidesOf l) = 0 := fe_zero.2 fun t ht => by
        obtain ⟨x, hx, rfl | rfl⟩ := side_mem2 ht
        · exact (he x hx).1
        · exact (he x hx).2
      by_cases h60 : 60 < l.length
      · rw [if_pos h60] at hk; cases hk
      · rw [if_neg h60, hfe, if_neg (by simp)] at hk
        by_cases h4 : 4000 < wrap64 (csize l)
        · rw [if_pos h4] at hk; cases hk
        · have hn := csize_nonneg l
          have : wrap64 (csize l) = csize l := by simp only [wrap64]; omega
          omega
    have h33 : ServesS (MnS w sz rule vr l v) 33 #[v] (.bool (fewB ((cvs l).foldl wth []))) := fun X hX => (few_any l v X hX.cl hs4).mono fun e X' ⟨he, hb⟩ => ⟨he, hX.keep hb⟩
    obtain ⟨ra, rc, rfl⟩ := hr.slice
    obtain ⟨a, c, rfl⟩ := hc.slice
    cases hf : fewB ((cvs l).foldl wth [])
    · rw [hf] at h33
      exact means_no2 w _ sz l.length ra rule.length rc a c hS1 hC hbl h9 h33 h23
    · rw [hf] at h33
      cases hw : wrB sz rule
      · rw [hw] at h34
        exact means_no3 w _ sz l.length ra rule.length rc a c hS1 hC hbl h9 h33 h34 h23
      · rw [hw] at h34
        by_cases h20 : 20 < l.length
        · exact means_no4 w _ sz l.length ra rule.length rc a c hlen hS1 hC hbl h9 h33 h34 h20 h23
        · obtain ⟨w1, w2, w3⟩ := wr_true hw
          have hwd : ∀ X, MnS w sz rule (.slice ra rule.length rc) l (.slice a l.length c) X → Wd sz rule (.slice ra rule.length rc) X := fun X hX => ⟨w1, w2, w3, hX.rl⟩
          obtain ⟨m1, m2, m3⟩ := means_same (pk sz rule) (thg sz) sz.toNat (by omega) (fun y h0 h1 => thg_in h0 (by omega)) l hsh hs4
          have hshc : Shaped (cclean l) := fun x hx => hsh x (clean_sub l x hx)
          have hshn : Shaped (cnorm l) := norm_shaped l hsh hs4
          refine means_main w (MnS w sz rule (.slice ra rule.length rc) l (.slice a l.length c)) sz (cclean l).length (cnorm l).length l.length ra rule.length rc a c (fun X u => ClauseAt X u (cclean l)) (fun X u => ClauseAt X u (cnorm l)) (AllB (pk sz rule) (thg sz) sz.toNat l) (ctaut l) (by cases ht : ctaut l; exact .inl rfl; exact .inr (m3 ht))
            hS1 hC hdr hbl h9 h33 h34 (by omega) ?_ ?_ ?_ ?_ ?_ ?_ h23
          · exact fun X hX => (allw_any sz rule _ l _ X (hwd X hX) hX.cl hsh hs4).mono fun e X' ⟨he, hb⟩ => ⟨he, hX.keep hb⟩
          · exact fun X hX => (clean_any l _ X hX.cl (by omega)).mono fun e X' ⟨v', he, hcl, hb⟩ => by
              obtain ⟨p, d, rfl⟩ := hcl.slice
              exact ⟨p, d, he, hcl, hX.keep hb⟩
          · exact fun X u hX hu => (allw_any sz rule _ (cclean l) u X (hwd X hX) hu hshc (Int.le_trans (csize_clean l) hs4)).mono fun e X' ⟨he, hb⟩ => ⟨by rw [he, m1], hX.keep hb⟩
          · exact fun X hX => (normal_any l _ X hX.cl (by omega)).mono fun e X' ⟨v', he, hcl, hb⟩ => by
              obtain ⟨p, d, rfl⟩ := hcl.slice
              exact ⟨p, d, he, hcl, hX.keep hb⟩
          · exact fun X u hX hu => (allw_any sz rule _ (cnorm l) u X (hwd X hX) hu hshn (by rw [csize_norm1]; exact hs4)).mono fun e X' ⟨he, hb⟩ => ⟨by rw [he, m2], hX.keep hb⟩
          · exact fun X hX => (taut_any l _ X hX.cl).mono fun e X' ⟨he, hb⟩ => ⟨he, hX.keep hb⟩
  · obtain ⟨ra, rc, rfl⟩ := hr.slice
    obtain ⟨a, c, rfl⟩ := hc.slice
    exact means_no1 w _ sz l.length ra rule.length rc a c hS1 hbl _ hk h9 h23

end Go.Proofs.Ytgnjgpplelakkaa
