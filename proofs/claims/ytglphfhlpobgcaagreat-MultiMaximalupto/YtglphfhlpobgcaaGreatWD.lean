import Derived.Test.YtglphfhlpobgcaaGreatWA
import Derived.Test.YtglphfhlpobgcaaGreatKA
import Derived.Laws.BitsAllLaws

namespace Go.Proofs.YtglphfhlpobgcaaGreat
open Go.RowKit
abbrev fu (n : Nat) : Value := .int .u64 (n : Int)
abbrev fi (n : Nat) : Value := .int .i16 (n : Int)
structure Bits (ν : Int → Nat) (nw : Nat) (vs : List Int) (ws : List Nat) : Prop where
  len : ws.length = nw
  lt : ∀ n ∈ ws, n < 18446744073709551616
  bit : ∀ i (h : i < ws.length) j, j < 64 → (ws[i].testBit j = true ↔ ∃ x ∈ vs, ν x = 64 * i + j)
def Sub (l m : List Nat) : Prop := ∀ i (h : i < l.length) (h' : i < m.length), l[i] &&& (18446744073709551615 - m[i]) = 0
open Classical in
noncomputable def wthn (l m : List Nat) : Bool := decide (Sub l m)
open Classical in
theorem wthn_iff {l m : List Nat} : wthn l m = true ↔ Sub l m := by
  unfold wthn
  exact decide_eq_true_iff
theorem wthn_no {l m : List Nat} (h : ¬ Sub l m) : wthn l m = false := by
  cases e : wthn l m
  · rfl
  · exact absurd (wthn_iff.1 e) h
theorem comp_bit {m : Nat} (h : m < 18446744073709551616) (j : Nat) : (18446744073709551615 - m).testBit j = (decide (j < 64) && !m.testBit j) := by
  have e : 18446744073709551615 - m = 2 ^ 64 - (m + 1) := by
    have : (2 : Nat) ^ 64 = 18446744073709551616 := by decide
    omega
  rw [e, Nat.testBit_two_pow_sub_succ (by have : (2 : Nat) ^ 64 = 18446744073709551616 := by decide
                                          omega)]
theorem sub_iff {ν : Int → Nat} {nw : Nat} {V U : List Int} {l m : List Nat} (hl : Bits ν nw V l) (hm : Bits ν nw U m) (inj : ∀ x ∈ V, ∀ y ∈ U, ν x = ν y → x = y) (hν : ∀ x ∈ V, ν x < 64 * nw) : Sub l m ↔ ∀ x ∈ V, x ∈ U := by
  constructor
  · intro h x hx
    have hx1 := hν x hx
    have e : ν x = 64 * (ν x / 64) + ν x % 64 := by omega
    have hi : ν x / 64 < l.length := by rw [hl.len]; omega
    have hi' : ν x / 64 < m.length := by rw [hm.len]; omega
    have hj : ν x % 64 < 64 := Nat.mod_lt _ (by decide)
    have h1 := (hl.bit _ hi _ hj).2 ⟨x, hx, e⟩
    have h2 := congrArg (fun n => n.testBit (ν x % 64)) (h _ hi hi')
    simp only [Nat.testBit_and, h1, comp_bit (hm.lt _ (List.getElem_mem hi')), Nat.zero_testBit, Bool.true_and, hj, decide_true] at h2
    obtain ⟨y, hy, ey⟩ := (hm.bit _ hi' _ hj).1 (by simpa using h2)
    have := inj x hx y hy (by omega)
    exact this ▸ hy
  · intro h i hi hi'
    refine Nat.eq_of_testBit_eq fun j => ?_
    rw [Nat.testBit_and, comp_bit (hm.lt _ (List.getElem_mem hi')), Nat.zero_testBit]
    by_cases hj : j < 64
    · cases hb : l[i].testBit j with
      | false => rfl
      | true =>
        obtain ⟨x, hx, ex⟩ := (hl.bit i hi j hj).1 hb
        have := (hm.bit i hi' j hj).2 ⟨x, h x hx, ex⟩
        simp [this]
    · simp [hj]
set_option maxHeartbeats 1000000 in
theorem within_any (l m : List Nat) (v u : Value) (w : World) (hl : RowAt fu w v l) (hm : RowAt fu w u m) (hlen : l.length = m.length) (h1 : ∀ n ∈ l, n < 18446744073709551616) (h2 : ∀ n ∈ m, n < 18446744073709551616) :
    Calls Tryz.prog 128 #[v, u] w fun e w' => e = .returned (.bool (wthn l m)) ∧ w' = w := by
  obtain ⟨a, c, rfl, hc, hcm⟩ := hl.slice
  obtain ⟨a', c', rfl, hc', hcm'⟩ := hm.slice
  have HL : Hid (RowAt fu w (.slice a l.length c) l) := hl
  have HM : Hid (RowAt fu w (.slice a' m.length c') m) := hm
  have H12 : Hid ((∀ n ∈ l, n < 18446744073709551616) ∧ ∀ n ∈ m, n < 18446744073709551616) := ⟨h1, h2⟩
  clear hl hm h1 h2
  go_enter Tryz.func128, Tryz.ntmps128
  go_wp2
  go_loopw [9] (fun vi wr => ∃ i : Nat, vi = .int .i64 i ∧ i ≤ l.length ∧ wr = w ∧ Hid (∀ j (h : j < l.length) (h' : j < m.length), j < i → l[j] &&& (18446744073709551615 - m[j]) = 0)) (fun vi _ => l.length - (intOf vi).toNat)
  case atStart => exact ⟨0, rfl, Nat.zero_le _, rfl, fun j _ _ hj => absurd hj (by omega)⟩
  case round =>
    obtain ⟨i, rfl, hi, hwr, HA⟩ := hrel
    subst hwr
    by_cases hlt : i < l.length
    · have hlt' : i < m.length := by omega
      obtain ⟨b, o, rfl, hbl, hcell⟩ := HL.out.nth hlt
      obtain ⟨b', o', rfl, hbl', hcell'⟩ := HM.out.nth hlt'
      have hbits := u64_andNot_nat l[i] m[i] (H12.out.1 _ (List.getElem_mem hlt)) (H12.out.2 _ (List.getElem_mem hlt'))
      by_cases e : l[i] &&& (18446744073709551615 - m[i]) = 0
      · have HN : Hid (∀ j (h : j < l.length) (h' : j < m.length), j < i + 1 → l[j] &&& (18446744073709551615 - m[j]) = 0) := fun j hj hj' hji => by
          by_cases ej : j = i
          · subst ej; exact e
          · exact HA.out j hj hj' (by omega)
        rw [e] at hbits
        clear e
        go_wp2
        go_roundw
        case rel => exact ⟨i + 1, by go_num, by omega, trivial, HN⟩
        case measure => simp [intOf]; omega
      · have HP : Hid (wthn l m = false) := wthn_no (fun h => e (h i hlt hlt'))
        obtain ⟨x, hx⟩ : ∃ x, l[i] &&& (18446744073709551615 - m[i]) = x := ⟨_, rfl⟩
        rw [hx] at hbits e
        have e' : ((x : Int) != 0) = true := by rw [bne_iff_ne]; omega
        clear e hx
        go_wp2
        go_ret
        exact ⟨ret_bool HP.out.symm, rfl⟩
    · have HP : Hid (wthn l m = true) := wthn_iff.2 (fun j hj hj' => HA.out j hj hj' (by omega))
      go_wp2
      go_ret
      exact ⟨ret_bool HP.out.symm, rfl⟩
theorem turned_any (x : Int) (hx : -2 ≤ x ∧ x ≤ 2) (w : World) : Calls Tryz.prog 85 #[.int .i64 x] w fun e w' => e = .returned (.int .i64 (trn x)) ∧ w' = w := by
  by_cases h : x = 2
  · subst h
    go_enter Tryz.func85, Tryz.ntmps85
    go_wp2
    go_ret
    exact ⟨rfl, rfl⟩
  · have HP : Hid (trn x = -x) := by show _ = _; unfold trn; rw [if_neg h]
    have hw : wrap64 (-x) = -x := wrap_small (by omega) (by omega)
    have e : (x == 2) = false := by rw [beq_eq_false_iff_ne]; exact h
    go_enter Tryz.func85, Tryz.ntmps85
    go_wp2
    go_ret
    exact ⟨ret_i64 (by rw [HP.out]), rfl⟩
structure PtAt (ρ : ByteArray × Nat → Nat) (ν : Int → Nat) (nw : Nat) (L : List T) (W : World) (k : Nat) (t : T) (b q : Nat) (sA : Value) (ar : List Nat) (sV : Value) (ws : List Nat) : Prop where
  lt : b < W.heap.size
  c0 : W.cell? ⟨b, q, none⟩ = some (.int .i16 (k : Int))
  c1 : W.cell? ⟨b, q + 1, none⟩ = some (.int .i64 (t.rk ρ : Int))
  c2 : W.cell? ⟨b, q + 2, none⟩ = some sA
  c3 : W.cell? ⟨b, q + 3, none⟩ = some (.int .i64 (t.top ρ : Int))
  c4 : W.cell? ⟨b, q + 4, none⟩ = some sV
  ra : RowAt fi W sA ar
  rv : RowAt fu W sV ws
  ax : ar.map (fun i => L[i]?) = t.args.map some
  bt : Bits ν nw t.vs ws
theorem PtAt.keep {ρ : ByteArray × Nat → Nat} {ν : Int → Nat} {nw : Nat} {L : List T} {W W' : World} {k : Nat} {t : T} {b q : Nat} {sA : Value} {ar : List Nat} {sV : Value} {ws : List Nat} {n : Nat} (h : PtAt ρ ν nw L W k t b q sA ar sV ws) (hb : Below n W W') (hn : W.heap.size ≤ n) : PtAt ρ ν nw L W' k t b q sA ar sV ws := by
  have hl := h.lt
  exact ⟨Nat.lt_of_lt_of_le hl hb.size, kc hb (by omega) h.c0, kc hb (by omega) h.c1, kc hb (by omega) h.c2, kc hb (by omega) h.c3, kc hb (by omega) h.c4, h.ra.keep hb hn, h.rv.keep hb hn, h.ax, h.bt⟩
theorem PtAt.alen {ρ : ByteArray × Nat → Nat} {ν : Int → Nat} {nw : Nat} {L : List T} {W : World} {k : Nat} {t : T} {b q : Nat} {sA : Value} {ar : List Nat} {sV : Value} {ws : List Nat} (h : PtAt ρ ν nw L W k t b q sA ar sV ws) : ar.length = t.args.length := by
  have := congrArg List.length h.ax
  simpa using this
end Go.Proofs.YtglphfhlpobgcaaGreat

namespace Go.Proofs.YtglphfhlpobgcaaGreat
open Go.RowKit
def lfB (tp rk : Nat) (x y : Bool) : Int := if rk ≤ tp ∧ x = true then 1 else if tp < rk ∧ y = true then -1 else 2
section
variable {ρ : ByteArray × Nat → Nat} {ν : Int → Nat} {nw : Nat} {L : List T}
theorem within_pt {w : World} {k1 k2 : Nat} {t1 t2 : T} {b1 q1 b2 q2 : Nat} {sA1 sA2 : Value} {ar1 ar2 : List Nat} {sV1 sV2 : Value} {ws1 ws2 : List Nat}
    (h1 : PtAt ρ ν nw L w k1 t1 b1 q1 sA1 ar1 sV1 ws1) (h2 : PtAt ρ ν nw L w k2 t2 b2 q2 sA2 ar2 sV2 ws2) :
    ∀ W, Below w.heap.size w W → Calls Tryz.prog 128 #[sV1, sV2] W fun e w' => e = .returned (.bool (wthn ws1 ws2)) ∧ Below W.heap.size W w' := fun W hW =>
  (within_any ws1 ws2 sV1 sV2 W (h1.rv.keep hW (Nat.le_refl _)) (h2.rv.keep hW (Nat.le_refl _)) (h1.bt.len.trans h2.bt.len.symm) h1.bt.lt h2.bt.lt).mono fun _ _ ⟨e1, e2⟩ => ⟨e1, e2 ▸ Below.refl _ _⟩
set_option maxRecDepth 100000 in
set_option maxHeartbeats 2000000 in
theorem beside_any {w : World} {k1 k2 : Nat} {t1 t2 : T} {b1 q1 b2 q2 : Nat} {sA1 sA2 : Value} {ar1 ar2 : List Nat} {sV1 sV2 : Value} {ws1 ws2 : List Nat}
    (h1 : PtAt ρ ν nw L w k1 t1 b1 q1 sA1 ar1 sV1 ws1) (h2 : PtAt ρ ν nw L w k2 t2 b2 q2 sA2 ar2 sV2 ws2) :
    Calls Tryz.prog 127 #[.pointer (some ⟨b1, q1, none⟩), .pointer (some ⟨b2, q2, none⟩)] w fun e w' => e = .returned (.int .i64 (lfB (t1.top ρ) (t2.rk ρ) (wthn ws2 ws1) (wthn ws1 ws2))) ∧ Below w.heap.size w w' := by
  have HH : Hid (PtAt ρ ν nw L w k1 t1 b1 q1 sA1 ar1 sV1 ws1 ∧ PtAt ρ ν nw L w k2 t2 b2 q2 sA2 ar2 sV2 ws2) := ⟨h1, h2⟩
  obtain ⟨va1, vc1, rfl, _, _⟩ := h1.rv.slice
  obtain ⟨va2, vc2, rfl, _, _⟩ := h2.rv.slice
  have c3 := cell_far h1.lt h1.c3
  have c4 := cell_far h1.lt h1.c4
  have d1 := cell_far h2.lt h2.c1
  have d4 := cell_far h2.lt h2.c4
  have hc21 := within_pt h2 h1
  clear h1 h2
  obtain ⟨tp, htp⟩ : ∃ x, t1.top ρ = x := ⟨_, rfl⟩
  obtain ⟨rk, hrk⟩ : ∃ x, t2.rk ρ = x := ⟨_, rfl⟩
  obtain ⟨s21, hs21⟩ : ∃ x, wthn ws2 ws1 = x := ⟨_, rfl⟩
  obtain ⟨s12, hs12⟩ : ∃ x, wthn ws1 ws2 = x := ⟨_, rfl⟩
  have HE : Hid (t1.top ρ = tp ∧ t2.rk ρ = rk ∧ wthn ws1 ws2 = s12) := ⟨htp, hrk, hs12⟩
  rw [htp] at c3
  rw [hrk] at d1
  rw [hs21] at hc21
  rw [htp, hrk, hs21, hs12]
  clear htp hrk hs21 hs12
  have second : ∀ W1 : World, Below w.heap.size w W1 → ∀ p : Far, ((far W1 p).cell? ⟨b1, q1 + 3, none⟩ = some (.int .i64 (tp : Int)) ∧ (far W1 p).cell? ⟨b1, q1 + 4, none⟩ = some (.slice va1 ws1.length vc1) ∧ (far W1 p).cell? ⟨b2, q2 + 1, none⟩ = some (.int .i64 (rk : Int)) ∧ (far W1 p).cell? ⟨b2, q2 + 4, none⟩ = some (.slice va2 ws2.length vc2)) := fun W1 hW p => by
    have g1 := HH.out.1.keep hW (Nat.le_refl _)
    have g2 := HH.out.2.keep hW (Nat.le_refl _)
    have z1 := cell_far g1.lt g1.c3 p
    have z2 := cell_far g2.lt g2.c1 p
    rw [HE.out.1] at z1
    rw [HE.out.2.1] at z2
    exact ⟨z1, cell_far g1.lt g1.c4 p, z2, cell_far g2.lt g2.c4 p⟩
  have hc12 : ∀ W1 : World, Below w.heap.size w W1 → ∀ W, Below W1.heap.size W1 W → Calls Tryz.prog 128 #[.slice va1 ws1.length vc1, .slice va2 ws2.length vc2] W fun e w' => e = .returned (.bool s12) ∧ Below W.heap.size W w' := fun W1 hW => by
    have := within_pt (HH.out.1.keep hW (Nat.le_refl _)) (HH.out.2.keep hW (Nat.le_refl _))
    rwa [HE.out.2.2] at this
  by_cases hge : rk ≤ tp
  · have g1 : decide (rk ≤ tp) = true := decide_eq_true hge
    have g2 : decide (tp < rk) = false := decide_eq_false (by omega)
    cases s21 with
    | true =>
      have HV : Hid (lfB tp rk true s12 = 1) := by show _ = _; unfold lfB; rw [if_pos ⟨hge, rfl⟩]
      clear hge second hc12
      go_enter Tryz.func127, Tryz.ntmps127
      go_wp2
      refine wp_region_far (by kernel_rfl) ?_
      repeat (first | go_big_quiet_step (exact calls_far hc21 _) | quiet_step (exact calls_far hc21 _))
      refine wpQuiet_nil ?_
      intro _ hw'
      obtain ⟨pf, rfl⟩ := hw'
      go_wp2
      go_ret
      exact ⟨ret_i64 HV.out.symm, below_far _ _⟩
    | false =>
      have HV : Hid (lfB tp rk false s12 = 2) := by
        show _ = _
        unfold lfB
        rw [if_neg (fun h => by cases h.2), if_neg (fun h => by omega)]
      clear hge
      go_enter Tryz.func127, Tryz.ntmps127
      go_wp2
      refine wp_region_far (by kernel_rfl) ?_
      repeat (first | go_big_quiet_step (exact calls_far hc21 _) | quiet_step (exact calls_far hc21 _))
      refine wpQuiet_nil ?_
      intro _ hw'
      obtain ⟨pf, rfl⟩ := hw'
      have hB1 := below_far w pf
      have sec := second _ hB1
      have hc := hc12 _ hB1
      clear second hc12 hc21 c3 c4 d1 d4
      generalize far w pf = W1 at hB1 sec hc ⊢
      have z1 := fun p => (sec p).1
      have z2 := fun p => (sec p).2.1
      have z3 := fun p => (sec p).2.2.1
      have z4 := fun p => (sec p).2.2.2
      clear sec
      have HB1 : Hid (Below w.heap.size w W1) := hB1
      clear hB1
      go_wp2
      refine wp_region_far (by kernel_rfl) ?_
      repeat (first | go_big_quiet_step (exact calls_far hc _) | quiet_step (exact calls_far hc _))
      refine wpQuiet_nil ?_
      intro _ hw'
      obtain ⟨pf, rfl⟩ := hw'
      go_wp2
      go_ret
      exact ⟨ret_i64 HV.out.symm, HB1.out.trans ((below_far _ _).mono HB1.out.size)⟩
  · have g1 : decide (rk ≤ tp) = false := decide_eq_false hge
    have g2 : decide (tp < rk) = true := decide_eq_true (by omega)
    cases s12 with
    | true =>
      have HV : Hid (lfB tp rk s21 true = -1) := by
        show _ = _
        unfold lfB
        rw [if_neg (fun h => hge h.1), if_pos ⟨by omega, rfl⟩]
      clear hge
      go_enter Tryz.func127, Tryz.ntmps127
      go_wp2
      refine wp_region_far (by kernel_rfl) ?_
      repeat (first | go_big_quiet_step (exact calls_far hc21 _) | quiet_step (exact calls_far hc21 _))
      refine wpQuiet_nil ?_
      intro _ hw'
      obtain ⟨pf, rfl⟩ := hw'
      have hB1 := below_far w pf
      have sec := second _ hB1
      have hc := hc12 _ hB1
      clear second hc12 hc21 c3 c4 d1 d4
      generalize far w pf = W1 at hB1 sec hc ⊢
      have z1 := fun p => (sec p).1
      have z2 := fun p => (sec p).2.1
      have z3 := fun p => (sec p).2.2.1
      have z4 := fun p => (sec p).2.2.2
      clear sec
      have HB1 : Hid (Below w.heap.size w W1) := hB1
      clear hB1
      go_wp2
      refine wp_region_far (by kernel_rfl) ?_
      repeat (first | go_big_quiet_step (exact calls_far hc _) | quiet_step (exact calls_far hc _))
      refine wpQuiet_nil ?_
      intro _ hw'
      obtain ⟨pf, rfl⟩ := hw'
      go_wp2
      go_ret
      exact ⟨ret_i64 HV.out.symm, HB1.out.trans ((below_far _ _).mono HB1.out.size)⟩
    | false =>
      have HV : Hid (lfB tp rk s21 false = 2) := by
        show _ = _
        unfold lfB
        rw [if_neg (fun h => hge h.1), if_neg (fun h => by cases h.2)]
      clear hge
      go_enter Tryz.func127, Tryz.ntmps127
      go_wp2
      refine wp_region_far (by kernel_rfl) ?_
      repeat (first | go_big_quiet_step (exact calls_far hc21 _) | quiet_step (exact calls_far hc21 _))
      refine wpQuiet_nil ?_
      intro _ hw'
      obtain ⟨pf, rfl⟩ := hw'
      have hB1 := below_far w pf
      have sec := second _ hB1
      have hc := hc12 _ hB1
      clear second hc12 hc21 c3 c4 d1 d4
      generalize far w pf = W1 at hB1 sec hc ⊢
      have z1 := fun p => (sec p).1
      have z2 := fun p => (sec p).2.1
      have z3 := fun p => (sec p).2.2.1
      have z4 := fun p => (sec p).2.2.2
      clear sec
      have HB1 : Hid (Below w.heap.size w W1) := hB1
      clear hB1
      go_wp2
      refine wp_region_far (by kernel_rfl) ?_
      repeat (first | go_big_quiet_step (exact calls_far hc _) | quiet_step (exact calls_far hc _))
      refine wpQuiet_nil ?_
      intro _ hw'
      obtain ⟨pf, rfl⟩ := hw'
      go_wp2
      go_ret
      exact ⟨ret_i64 HV.out.symm, HB1.out.trans ((below_far _ _).mono HB1.out.size)⟩
end
end Go.Proofs.YtglphfhlpobgcaaGreat

namespace Go.Proofs.YtglphfhlpobgcaaGreat
open Go.RowKit
def aoX (n1 n2 : Nat) (l12 l21 : Int) (s12 s21 : Bool) : Int := if n2 = 0 then l12 else if n1 = 0 then trn l21 else if s12 = false ∧ s21 = false then 2 else 0
def aoT (n1 n2 : Nat) (s12 s21 : Bool) : Bool := if n2 = 0 then true else if n1 = 0 then true else if s12 = false ∧ s21 = false then true else false
theorem lfB_rng (tp rk : Nat) (x y : Bool) : -2 ≤ lfB tp rk x y ∧ lfB tp rk x y ≤ 2 := by
  unfold lfB
  split
  · omega
  · split <;> omega
section
variable {ρ : ByteArray × Nat → Nat} {ν : Int → Nat} {nw : Nat} {L : List T}
theorem ret_two {x y : Int} {b c : Bool} (h : x = y) (h' : b = c) : Ending.returned (.tuple #[.int .i64 x, .bool b]) = .returned (.tuple #[.int .i64 y, .bool c]) := by rw [h, h']
set_option maxRecDepth 100000 in
set_option maxHeartbeats 2000000 in
theorem atonce_any {w : World} {k1 k2 : Nat} {t1 t2 : T} {b1 q1 b2 q2 : Nat} {sA1 sA2 : Value} {ar1 ar2 : List Nat} {sV1 sV2 : Value} {ws1 ws2 : List Nat}
    (h1 : PtAt ρ ν nw L w k1 t1 b1 q1 sA1 ar1 sV1 ws1) (h2 : PtAt ρ ν nw L w k2 t2 b2 q2 sA2 ar2 sV2 ws2) :
    Calls Tryz.prog 86 #[.pointer (some ⟨b1, q1, none⟩), .pointer (some ⟨b2, q2, none⟩)] w fun e w' => e = .returned (.tuple #[.int .i64 (aoX ar1.length ar2.length (lfB (t1.top ρ) (t2.rk ρ) (wthn ws2 ws1) (wthn ws1 ws2)) (lfB (t2.top ρ) (t1.rk ρ) (wthn ws1 ws2) (wthn ws2 ws1)) (wthn ws1 ws2) (wthn ws2 ws1)), .bool (aoT ar1.length ar2.length (wthn ws1 ws2) (wthn ws2 ws1))]) ∧ Below w.heap.size w w' := by
  obtain ⟨va1, vc1, rfl, _, _⟩ := h1.rv.slice
  obtain ⟨va2, vc2, rfl, _, _⟩ := h2.rv.slice
  obtain ⟨ra1, rc1, rfl, _, _⟩ := h1.ra.slice
  obtain ⟨ra2, rc2, rfl, _, _⟩ := h2.ra.slice
  have hb12 := beside_any h1 h2
  have hb21 := beside_any h2 h1
  obtain ⟨l12, e12⟩ : ∃ x, lfB (t1.top ρ) (t2.rk ρ) (wthn ws2 ws1) (wthn ws1 ws2) = x := ⟨_, rfl⟩
  obtain ⟨l21, e21⟩ : ∃ x, lfB (t2.top ρ) (t1.rk ρ) (wthn ws1 ws2) (wthn ws2 ws1) = x := ⟨_, rfl⟩
  have r21 := lfB_rng (t2.top ρ) (t1.rk ρ) (wthn ws1 ws2) (wthn ws2 ws1)
  rw [e21] at r21 hb21
  rw [e12] at hb12
  rw [e12, e21]
  clear e12 e21
  have c2 := h1.c2
  have d2 := h2.c2
  by_cases hn2 : ar2.length = 0
  · have HV : Hid (aoX ar1.length ar2.length l12 l21 (wthn ws1 ws2) (wthn ws2 ws1) = l12 ∧ aoT ar1.length ar2.length (wthn ws1 ws2) (wthn ws2 ws1) = true) := by
      refine ⟨?_, ?_⟩
      · unfold aoX; rw [if_pos hn2]
      · unfold aoT; rw [if_pos hn2]
    have z2 : ((ar2.length : Int) == 0) = true := by rw [hn2]; rfl
    clear hn2 h1 h2 hb21
    go_enter Tryz.func86, Tryz.ntmps86
    go_wp2_with fail
    refine hb12.mono ?_
    rintro e W2 ⟨rfl, hW2⟩
    have HB2 : Hid (Below w.heap.size w W2) := hW2
    clear hW2
    go_wp2
    (try simp only [Exit.inBlock, Exit.then]); refine bodyPost_ret (results_tmp2 rfl _ _ _) rfl ?_
    exact ⟨ret_two HV.out.1.symm HV.out.2.symm, HB2.out⟩
  · have z2 : ((ar2.length : Int) == 0) = false := by rw [beq_eq_false_iff_ne]; omega
    by_cases hn1 : ar1.length = 0
    · have HV : Hid (aoX ar1.length ar2.length l12 l21 (wthn ws1 ws2) (wthn ws2 ws1) = trn l21 ∧ aoT ar1.length ar2.length (wthn ws1 ws2) (wthn ws2 ws1) = true) := by
        refine ⟨?_, ?_⟩
        · unfold aoX; rw [if_neg hn2, if_pos hn1]
        · unfold aoT; rw [if_neg hn2, if_pos hn1]
      have z1 : ((ar1.length : Int) == 0) = true := by rw [hn1]; rfl
      clear hn2 hn1 h1 h2 hb12
      have ht := turned_any l21 r21
      clear r21
      go_enter Tryz.func86, Tryz.ntmps86
      go_wp2_with fail
      refine hb21.mono ?_
      rintro e W2 ⟨rfl, hW2⟩
      have HB2 : Hid (Below w.heap.size w W2) := hW2
      clear hW2
      go_wp2_with fail
      refine (ht W2).mono ?_
      rintro e W3 ⟨rfl, hW3⟩
      subst hW3
      go_wp2
      (try simp only [Exit.inBlock, Exit.then]); refine bodyPost_ret (results_tmp2 rfl _ _ _) rfl ?_
      exact ⟨ret_two HV.out.1.symm HV.out.2.symm, HB2.out⟩
    · have z1 : ((ar1.length : Int) == 0) = false := by rw [beq_eq_false_iff_ne]; omega
      have c4 := cell_far h1.lt h1.c4
      have d4 := cell_far h2.lt h2.c4
      obtain ⟨Wt, hWt⟩ : ∃ P : Value → Value → Bool → Prop, P = fun u v s => ∀ W, Below w.heap.size w W → Calls Tryz.prog 128 #[u, v] W fun e w' => e = .returned (.bool s) ∧ Below W.heap.size W w' := ⟨_, rfl⟩
      have hc12 : Wt (.slice va1 ws1.length vc1) (.slice va2 ws2.length vc2) (wthn ws1 ws2) := by rw [hWt]; exact within_pt h1 h2
      have hc21 : Wt (.slice va2 ws2.length vc2) (.slice va1 ws1.length vc1) (wthn ws2 ws1) := by rw [hWt]; exact within_pt h2 h1
      have hc : ∀ u v s, Wt u v s → ∀ W, Below w.heap.size w W → Calls Tryz.prog 128 #[u, v] W fun e w' => e = .returned (.bool s) ∧ Below W.heap.size W w' := fun u v s h => by rw [hWt] at h; exact h
      clear hWt
      obtain ⟨s21, hs21⟩ : ∃ x, wthn ws2 ws1 = x := ⟨_, rfl⟩
      obtain ⟨s12, hs12⟩ : ∃ x, wthn ws1 ws2 = x := ⟨_, rfl⟩
      rw [hs12, hs21]
      rw [hs12] at hc12
      rw [hs21] at hc21
      have HV : Hid (aoX ar1.length ar2.length l12 l21 s12 s21 = (if s12 = false ∧ s21 = false then 2 else 0) ∧ aoT ar1.length ar2.length s12 s21 = (if s12 = false ∧ s21 = false then true else false)) := by
        refine ⟨?_, ?_⟩
        · unfold aoX; rw [if_neg hn2, if_neg hn1]
        · unfold aoT; rw [if_neg hn2, if_neg hn1]
      clear hn2 hn1 h1 h2 hb12 hb21 r21 hs21 hs12
      cases s12 <;> cases s21
      all_goals (
        go_enter Tryz.func86, Tryz.ntmps86
        go_wp2
        refine wp_region_far (by kernel_rfl) ?_
        repeat (first | go_big_quiet_step (exact calls_far (hc _ _ _ (by first | exact hc12 | exact hc21)) _) | quiet_step (exact calls_far (hc _ _ _ (by first | exact hc12 | exact hc21)) _))
        refine wpQuiet_nil ?_
        intro _ hw'
        obtain ⟨pf, rfl⟩ := hw'
        go_wp2
        (try simp only [Exit.inBlock, Exit.then]); refine bodyPost_ret (results_tmp2 rfl _ _ _) rfl ?_
        exact ⟨ret_two HV.out.1.symm HV.out.2.symm, below_far _ _⟩)
end
end Go.Proofs.YtglphfhlpobgcaaGreat
