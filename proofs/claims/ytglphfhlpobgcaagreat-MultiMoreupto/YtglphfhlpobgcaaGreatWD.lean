import Derived.Test.YtglphfhlpobgcaaGreatWB
import Derived.Test.YtglphfhlpobgcaaGreatWA

/-
  besideLeaf, atOnce.
-/
namespace Go.Proofs.YtglphfhlpobgcaaGreat
open Go.RowKit

def lfB (tp rk : Nat) (x y : Bool) : Int := if rk ≤ tp ∧ x = true then 1 else if tp < rk ∧ y = true then -1 else 2

section
variable {ρ : ByteArray × Nat → Nat} {ν : Int → Nat} {nw : Nat} {L : List T}

/-- within at two parts. -/
theorem within_pt {w : World} {k1 k2 : Nat} {t1 t2 : T} {b1 q1 b2 q2 : Nat} {sA1 sA2 : Value} {ar1 ar2 : List Nat} {sV1 sV2 : Value} {ws1 ws2 : List Nat}
    (h1 : PtAt ρ ν nw L w k1 t1 b1 q1 sA1 ar1 sV1 ws1) (h2 : PtAt ρ ν nw L w k2 t2 b2 q2 sA2 ar2 sV2 ws2) :
    ∀ W, Below w.heap.size w W → Calls Tryz.prog 128 #[sV1, sV2] W fun e w' => e = .returned (.bool (wthn ws1 ws2)) ∧ Below W.heap.size W w' := fun W hW =>
  (within_any ws1 ws2 sV1 sV2 W (h1.rv.keep hW (Nat.le_refl _)) (h2.rv.keep hW (Nat.le_refl _)) (h1.bt.len.trans h2.bt.len.symm) h1.bt.lt h2.bt.lt).mono fun _ _ ⟨e1, e2⟩ => ⟨e1, e2 ▸ Below.refl _ _⟩

set_option maxRecDepth 100000 in
set_option maxHeartbeats 2000000 in
theorem beside_any {w : World} {k1 k2 : Nat} {t1 t2 : T} {b1 q1 b2 q2 : Nat} {sA1 sA2 : Value} {ar1 ar2 : List Nat} {sV1 sV2 : Value} {ws1 ws2 : List Nat}
    (h1 : PtAt ρ ν nw L w k1 t1 b1 q1 sA1 ar1 sV1 ws1) (h2 : PtAt ρ ν nw L w k2 t2 b2 q2 sA2 ar2 sV2 ws2) :
    Calls Tryz.prog 127 #[.pointer (some ⟨b1, q1, none⟩), .pointer (some ⟨b2, q2, none⟩)] w fun e w' => e = .returned (.int .i64 (lfB (t1.top ρ) (t2.rk ρ) (wthn ws2 ws1) (wthn ws1 ws2))) ∧ Below w.heap.size w w' := by
  have HH : Hid (PtAt ρ ν nw L w k1 t1 b1 q1 sA1 ar1 sV1 ws1 ∧ PtAt ρ ν nw L w k2 t2 b2 q2 sA2 ar2 sV2 ws2) := ⟨h1, h2⟩
  obtain ⟨va1, vc1, rfl, _, _⟩ := h1.rv.slice
  obtain ⟨va2, vc2, rfl, _, _⟩ := h2.rv.slice
  have c3 := cell_far h1.lt h1.c3
  have c4 := cell_far h1.lt h1.c4
  have d1 := cell_far h2.lt h2.c1
  have d4 := cell_far h2.lt h2.c4
  have hc21 := within_pt h2 h1
  clear h1 h2
  obtain ⟨tp, htp⟩ : ∃ x, t1.top ρ = x := ⟨_, rfl⟩
  obtain ⟨rk, hrk⟩ : ∃ x, t2.rk ρ = x := ⟨_, rfl⟩
  obtain ⟨s21, hs21⟩ : ∃ x, wthn ws2 ws1 = x := ⟨_, rfl⟩
  obtain ⟨s12, hs12⟩ : ∃ x, wthn ws1 ws2 = x := ⟨_, rfl⟩
  have HE : Hid (t1.top ρ = tp ∧ t2.rk ρ = rk ∧ wthn ws1 ws2 = s12) := ⟨htp, hrk, hs12⟩
  rw [htp] at c3
  rw [hrk] at d1
  rw [hs21] at hc21
  rw [htp, hrk, hs21, hs12]
  clear htp hrk hs21 hs12
  have second : ∀ W1 : World, Below w.heap.size w W1 → ∀ p : Far, ((far W1 p).cell? ⟨b1, q1 + 3, none⟩ = some (.int .i64 (tp : Int)) ∧ (far W1 p).cell? ⟨b1, q1 + 4, none⟩ = some (.slice va1 ws1.length vc1) ∧ (far W1 p).cell? ⟨b2, q2 + 1, none⟩ = some (.int .i64 (rk : Int)) ∧ (far W1 p).cell? ⟨b2, q2 + 4, none⟩ = some (.slice va2 ws2.length vc2)) := fun W1 hW p => by
    have g1 := HH.out.1.keep hW (Nat.le_refl _)
    have g2 := HH.out.2.keep hW (Nat.le_refl _)
    have z1 := cell_far g1.lt g1.c3 p
    have z2 := cell_far g2.lt g2.c1 p
    rw [HE.out.1] at z1
    rw [HE.out.2.1] at z2
    exact ⟨z1, cell_far g1.lt g1.c4 p, z2, cell_far g2.lt g2.c4 p⟩
  have hc12 : ∀ W1 : World, Below w.heap.size w W1 → ∀ W, Below W1.heap.size W1 W → Calls Tryz.prog 128 #[.slice va1 ws1.length vc1, .slice va2 ws2.length vc2] W fun e w' => e = .returned (.bool s12) ∧ Below W.heap.size W w' := fun W1 hW => by
    have := within_pt (HH.out.1.keep hW (Nat.le_refl _)) (HH.out.2.keep hW (Nat.le_refl _))
    rwa [HE.out.2.2] at this
  by_cases hge : rk ≤ tp
  · have g1 : decide (rk ≤ tp) = true := decide_eq_true hge
    have g2 : decide (tp < rk) = false := decide_eq_false (by omega)
    cases s21 with
    | true =>
      have HV : Hid (lfB tp rk true s12 = 1) := by show _ = _; unfold lfB; rw [if_pos ⟨hge, rfl⟩]
      clear hge second hc12
      go_enter Tryz.func127, Tryz.ntmps127
      go_wp2
      refine wp_region_far (by kernel_rfl) ?_
      repeat (first | go_big_quiet_step (exact calls_far hc21 _) | quiet_step (exact calls_far hc21 _))
      refine wpQuiet_nil ?_
      intro _ hw'
      obtain ⟨pf, rfl⟩ := hw'
      go_wp2
      go_ret
      exact ⟨ret_i64 HV.out.symm, below_far _ _⟩
    | false =>
      have HV : Hid (lfB tp rk false s12 = 2) := by
        show _ = _
        unfold lfB
        rw [if_neg (fun h => by cases h.2), if_neg (fun h => by omega)]
      clear hge
      go_enter Tryz.func127, Tryz.ntmps127
      go_wp2
      refine wp_region_far (by kernel_rfl) ?_
      repeat (first | go_big_quiet_step (exact calls_far hc21 _) | quiet_step (exact calls_far hc21 _))
      refine wpQuiet_nil ?_
      intro _ hw'
      obtain ⟨pf, rfl⟩ := hw'
      have hB1 := below_far w pf
      have sec := second _ hB1
      have hc := hc12 _ hB1
      clear second hc12 hc21 c3 c4 d1 d4
      generalize far w pf = W1 at hB1 sec hc ⊢
      have z1 := fun p => (sec p).1
      have z2 := fun p => (sec p).2.1
      have z3 := fun p => (sec p).2.2.1
      have z4 := fun p => (sec p).2.2.2
      clear sec
      have HB1 : Hid (Below w.heap.size w W1) := hB1
      clear hB1
      go_wp2
      refine wp_region_far (by kernel_rfl) ?_
      repeat (first | go_big_quiet_step (exact calls_far hc _) | quiet_step (exact calls_far hc _))
      refine wpQuiet_nil ?_
      intro _ hw'
      obtain ⟨pf, rfl⟩ := hw'
      go_wp2
      go_ret
      exact ⟨ret_i64 HV.out.symm, HB1.out.trans ((below_far _ _).mono HB1.out.size)⟩
  · have g1 : decide (rk ≤ tp) = false := decide_eq_false hge
    have g2 : decide (tp < rk) = true := decide_eq_true (by omega)
    cases s12 with
    | true =>
      have HV : Hid (lfB tp rk s21 true = -1) := by
        show _ = _
        unfold lfB
        rw [if_neg (fun h => hge h.1), if_pos ⟨by omega, rfl⟩]
      clear hge
      go_enter Tryz.func127, Tryz.ntmps127
      go_wp2
      refine wp_region_far (by kernel_rfl) ?_
      repeat (first | go_big_quiet_step (exact calls_far hc21 _) | quiet_step (exact calls_far hc21 _))
      refine wpQuiet_nil ?_
      intro _ hw'
      obtain ⟨pf, rfl⟩ := hw'
      have hB1 := below_far w pf
      have sec := second _ hB1
      have hc := hc12 _ hB1
      clear second hc12 hc21 c3 c4 d1 d4
      generalize far w pf = W1 at hB1 sec hc ⊢
      have z1 := fun p => (sec p).1
      have z2 := fun p => (sec p).2.1
      have z3 := fun p => (sec p).2.2.1
      have z4 := fun p => (sec p).2.2.2
      clear sec
      have HB1 : Hid (Below w.heap.size w W1) := hB1
      clear hB1
      go_wp2
      refine wp_region_far (by kernel_rfl) ?_
      repeat (first | go_big_quiet_step (exact calls_far hc _) | quiet_step (exact calls_far hc _))
      refine wpQuiet_nil ?_
      intro _ hw'
      obtain ⟨pf, rfl⟩ := hw'
      go_wp2
      go_ret
      exact ⟨ret_i64 HV.out.symm, HB1.out.trans ((below_far _ _).mono HB1.out.size)⟩
    | false =>
      have HV : Hid (lfB tp rk s21 false = 2) := by
        show _ = _
        unfold lfB
        rw [if_neg (fun h => hge h.1), if_neg (fun h => by cases h.2)]
      clear hge
      go_enter Tryz.func127, Tryz.ntmps127
      go_wp2
      refine wp_region_far (by kernel_rfl) ?_
      repeat (first | go_big_quiet_step (exact calls_far hc21 _) | quiet_step (exact calls_far hc21 _))
      refine wpQuiet_nil ?_
      intro _ hw'
      obtain ⟨pf, rfl⟩ := hw'
      have hB1 := below_far w pf
      have sec := second _ hB1
      have hc := hc12 _ hB1
      clear second hc12 hc21 c3 c4 d1 d4
      generalize far w pf = W1 at hB1 sec hc ⊢
      have z1 := fun p => (sec p).1
      have z2 := fun p => (sec p).2.1
      have z3 := fun p => (sec p).2.2.1
      have z4 := fun p => (sec p).2.2.2
      clear sec
      have HB1 : Hid (Below w.heap.size w W1) := hB1
      clear hB1
      go_wp2
      refine wp_region_far (by kernel_rfl) ?_
      repeat (first | go_big_quiet_step (exact calls_far hc _) | quiet_step (exact calls_far hc _))
      refine wpQuiet_nil ?_
      intro _ hw'
      obtain ⟨pf, rfl⟩ := hw'
      go_wp2
      go_ret
      exact ⟨ret_i64 HV.out.symm, HB1.out.trans ((below_far _ _).mono HB1.out.size)⟩
end

end Go.Proofs.YtglphfhlpobgcaaGreat

/-
  atOnce.
-/
namespace Go.Proofs.YtglphfhlpobgcaaGreat
open Go.RowKit

def aoX (n1 n2 : Nat) (l12 l21 : Int) (s12 s21 : Bool) : Int := if n2 = 0 then l12 else if n1 = 0 then trn l21 else if s12 = false ∧ s21 = false then 2 else 0
def aoT (n1 n2 : Nat) (s12 s21 : Bool) : Bool := if n2 = 0 then true else if n1 = 0 then true else if s12 = false ∧ s21 = false then true else false

theorem lfB_rng (tp rk : Nat) (x y : Bool) : -2 ≤ lfB tp rk x y ∧ lfB tp rk x y ≤ 2 := by
  unfold lfB
  split
  · omega
  · split <;> omega

section
variable {ρ : ByteArray × Nat → Nat} {ν : Int → Nat} {nw : Nat} {L : List T}

theorem ret_two {x y : Int} {b c : Bool} (h : x = y) (h' : b = c) : Ending.returned (.tuple #[.int .i64 x, .bool b]) = .returned (.tuple #[.int .i64 y, .bool c]) := by rw [h, h']

set_option maxRecDepth 100000 in
set_option maxHeartbeats 2000000 in
theorem atonce_any {w : World} {k1 k2 : Nat} {t1 t2 : T} {b1 q1 b2 q2 : Nat} {sA1 sA2 : Value} {ar1 ar2 : List Nat} {sV1 sV2 : Value} {ws1 ws2 : List Nat}
    (h1 : PtAt ρ ν nw L w k1 t1 b1 q1 sA1 ar1 sV1 ws1) (h2 : PtAt ρ ν nw L w k2 t2 b2 q2 sA2 ar2 sV2 ws2) :
    Calls Tryz.prog 86 #[.pointer (some ⟨b1, q1, none⟩), .pointer (some ⟨b2, q2, none⟩)] w fun e w' => e = .returned (.tuple #[.int .i64 (aoX ar1.length ar2.length (lfB (t1.top ρ) (t2.rk ρ) (wthn ws2 ws1) (wthn ws1 ws2)) (lfB (t2.top ρ) (t1.rk ρ) (wthn ws1 ws2) (wthn ws2 ws1)) (wthn ws1 ws2) (wthn ws2 ws1)), .bool (aoT ar1.length ar2.length (wthn ws1 ws2) (wthn ws2 ws1))]) ∧ Below w.heap.size w w' := by
  obtain ⟨va1, vc1, rfl, _, _⟩ := h1.rv.slice
  obtain ⟨va2, vc2, rfl, _, _⟩ := h2.rv.slice
  obtain ⟨ra1, rc1, rfl, _, _⟩ := h1.ra.slice
  obtain ⟨ra2, rc2, rfl, _, _⟩ := h2.ra.slice
  have hb12 := beside_any h1 h2
  have hb21 := beside_any h2 h1
  obtain ⟨l12, e12⟩ : ∃ x, lfB (t1.top ρ) (t2.rk ρ) (wthn ws2 ws1) (wthn ws1 ws2) = x := ⟨_, rfl⟩
  obtain ⟨l21, e21⟩ : ∃ x, lfB (t2.top ρ) (t1.rk ρ) (wthn ws1 ws2) (wthn ws2 ws1) = x := ⟨_, rfl⟩
  have r21 := lfB_rng (t2.top ρ) (t1.rk ρ) (wthn ws1 ws2) (wthn ws2 ws1)
  rw [e21] at r21 hb21
  rw [e12] at hb12
  rw [e12, e21]
  clear e12 e21
  have c2 := h1.c2
  have d2 := h2.c2
  by_cases hn2 : ar2.length = 0
  · have HV : Hid (aoX ar1.length ar2.length l12 l21 (wthn ws1 ws2) (wthn ws2 ws1) = l12 ∧ aoT ar1.length ar2.length (wthn ws1 ws2) (wthn ws2 ws1) = true) := by
      refine ⟨?_, ?_⟩
      · unfold aoX; rw [if_pos hn2]
      · unfold aoT; rw [if_pos hn2]
    have z2 : ((ar2.length : Int) == 0) = true := by rw [hn2]; rfl
    clear hn2 h1 h2 hb21
    go_enter Tryz.func86, Tryz.ntmps86
    go_wp2_with fail
    refine hb12.mono ?_
    rintro e W2 ⟨rfl, hW2⟩
    have HB2 : Hid (Below w.heap.size w W2) := hW2
    clear hW2
    go_wp2
    (try simp only [Exit.inBlock, Exit.then]); refine bodyPost_ret (results_tmp2 rfl _ _ _) rfl ?_
    exact ⟨ret_two HV.out.1.symm HV.out.2.symm, HB2.out⟩
  · have z2 : ((ar2.length : Int) == 0) = false := by rw [beq_eq_false_iff_ne]; omega
    by_cases hn1 : ar1.length = 0
    · have HV : Hid (aoX ar1.length ar2.length l12 l21 (wthn ws1 ws2) (wthn ws2 ws1) = trn l21 ∧ aoT ar1.length ar2.length (wthn ws1 ws2) (wthn ws2 ws1) = true) := by
        refine ⟨?_, ?_⟩
        · unfold aoX; rw [if_neg hn2, if_pos hn1]
        · unfold aoT; rw [if_neg hn2, if_pos hn1]
      have z1 : ((ar1.length : Int) == 0) = true := by rw [hn1]; rfl
      clear hn2 hn1 h1 h2 hb12
      have ht := turned_any l21 r21
      clear r21
      go_enter Tryz.func86, Tryz.ntmps86
      go_wp2_with fail
      refine hb21.mono ?_
      rintro e W2 ⟨rfl, hW2⟩
      have HB2 : Hid (Below w.heap.size w W2) := hW2
      clear hW2
      go_wp2_with fail
      refine (ht W2).mono ?_
      rintro e W3 ⟨rfl, hW3⟩
      subst hW3
      go_wp2
      (try simp only [Exit.inBlock, Exit.then]); refine bodyPost_ret (results_tmp2 rfl _ _ _) rfl ?_
      exact ⟨ret_two HV.out.1.symm HV.out.2.symm, HB2.out⟩
    · have z1 : ((ar1.length : Int) == 0) = false := by rw [beq_eq_false_iff_ne]; omega
      have c4 := cell_far h1.lt h1.c4
      have d4 := cell_far h2.lt h2.c4
      obtain ⟨Wt, hWt⟩ : ∃ P : Value → Value → Bool → Prop, P = fun u v s => ∀ W, Below w.heap.size w W → Calls Tryz.prog 128 #[u, v] W fun e w' => e = .returned (.bool s) ∧ Below W.heap.size W w' := ⟨_, rfl⟩
      have hc12 : Wt (.slice va1 ws1.length vc1) (.slice va2 ws2.length vc2) (wthn ws1 ws2) := by rw [hWt]; exact within_pt h1 h2
      have hc21 : Wt (.slice va2 ws2.length vc2) (.slice va1 ws1.length vc1) (wthn ws2 ws1) := by rw [hWt]; exact within_pt h2 h1
      have hc : ∀ u v s, Wt u v s → ∀ W, Below w.heap.size w W → Calls Tryz.prog 128 #[u, v] W fun e w' => e = .returned (.bool s) ∧ Below W.heap.size W w' := fun u v s h => by rw [hWt] at h; exact h
      clear hWt
      obtain ⟨s21, hs21⟩ : ∃ x, wthn ws2 ws1 = x := ⟨_, rfl⟩
      obtain ⟨s12, hs12⟩ : ∃ x, wthn ws1 ws2 = x := ⟨_, rfl⟩
      rw [hs12, hs21]
      rw [hs12] at hc12
      rw [hs21] at hc21
      have HV : Hid (aoX ar1.length ar2.length l12 l21 s12 s21 = (if s12 = false ∧ s21 = false then 2 else 0) ∧ aoT ar1.length ar2.length s12 s21 = (if s12 = false ∧ s21 = false then true else false)) := by
        refine ⟨?_, ?_⟩
        · unfold aoX; rw [if_neg hn2, if_neg hn1]
        · unfold aoT; rw [if_neg hn2, if_neg hn1]
      clear hn2 hn1 h1 h2 hb12 hb21 r21 hs21 hs12
      cases s12 <;> cases s21
      all_goals (
        go_enter Tryz.func86, Tryz.ntmps86
        go_wp2
        refine wp_region_far (by kernel_rfl) ?_
        repeat (first | go_big_quiet_step (exact calls_far (hc _ _ _ (by first | exact hc12 | exact hc21)) _) | quiet_step (exact calls_far (hc _ _ _ (by first | exact hc12 | exact hc21)) _))
        refine wpQuiet_nil ?_
        intro _ hw'
        obtain ⟨pf, rfl⟩ := hw'
        go_wp2
        (try simp only [Exit.inBlock, Exit.then]); refine bodyPost_ret (results_tmp2 rfl _ _ _) rfl ?_
        exact ⟨ret_two HV.out.1.symm HV.out.2.symm, below_far _ _⟩)
end

end Go.Proofs.YtglphfhlpobgcaaGreat
