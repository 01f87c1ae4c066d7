/-
  Sets of variables, parts in memory; within, turned, besideLeaf, atOnce.
-/
import Derived.Test.YtglphfhlpobgcaaGreatWA
import Derived.Test.YtglphfhlpobgcaaGreatKA
import Derived.Laws.BitsAllLaws
namespace Go.Proofs.YtglphfhlpobgcaaGreat
open Go.RowKit

abbrev fu (n : Nat) : Value := .int .u64 (n : Int)
abbrev fi (n : Nat) : Value := .int .i16 (n : Int)

/-- Words that have a bit for each variable. -/
structure Bits (ν : Int → Nat) (nw : Nat) (vs : List Int) (ws : List Nat) : Prop where
  len : ws.length = nw
  lt : ∀ n ∈ ws, n < 18446744073709551616
  bit : ∀ i (h : i < ws.length) j, j < 64 → (ws[i].testBit j = true ↔ ∃ x ∈ vs, ν x = 64 * i + j)

def Sub (l m : List Nat) : Prop := ∀ i (h : i < l.length) (h' : i < m.length), l[i] &&& (18446744073709551615 - m[i]) = 0
open Classical in
noncomputable def wthn (l m : List Nat) : Bool := decide (Sub l m)
open Classical in
theorem wthn_iff {l m : List Nat} : wthn l m = true ↔ Sub l m := by
  unfold wthn
  exact decide_eq_true_iff
theorem wthn_no {l m : List Nat} (h : ¬ Sub l m) : wthn l m = false := by
  cases e : wthn l m
  · rfl
  · exact absurd (wthn_iff.1 e) h

theorem comp_bit {m : Nat} (h : m < 18446744073709551616) (j : Nat) : (18446744073709551615 - m).testBit j = (decide (j < 64) && !m.testBit j) := by
  have e : 18446744073709551615 - m = 2 ^ 64 - (m + 1) := by
    have : (2 : Nat) ^ 64 = 18446744073709551616 := by decide
    omega
  rw [e, Nat.testBit_two_pow_sub_succ (by have : (2 : Nat) ^ 64 = 18446744073709551616 := by decide
                                          omega)]

theorem sub_iff {ν : Int → Nat} {nw : Nat} {V U : List Int} {l m : List Nat} (hl : Bits ν nw V l) (hm : Bits ν nw U m) (inj : ∀ x ∈ V, ∀ y ∈ U, ν x = ν y → x = y) (hν : ∀ x ∈ V, ν x < 64 * nw) : Sub l m ↔ ∀ x ∈ V, x ∈ U := by
  constructor
  · intro h x hx
    have hx1 := hν x hx
    have e : ν x = 64 * (ν x / 64) + ν x % 64 := by omega
    have hi : ν x / 64 < l.length := by rw [hl.len]; omega
    have hi' : ν x / 64 < m.length := by rw [hm.len]; omega
    have hj : ν x % 64 < 64 := Nat.mod_lt _ (by decide)
    have h1 := (hl.bit _ hi _ hj).2 ⟨x, hx, e⟩
    have h2 := congrArg (fun n => n.testBit (ν x % 64)) (h _ hi hi')
    simp only [Nat.testBit_and, h1, comp_bit (hm.lt _ (List.getElem_mem hi')), Nat.zero_testBit, Bool.true_and, hj, decide_true] at h2
    obtain ⟨y, hy, ey⟩ := (hm.bit _ hi' _ hj).1 (by simpa using h2)
    have := inj x hx y hy (by omega)
    exact this ▸ hy
  · intro h i hi hi'
    refine Nat.eq_of_testBit_eq fun j => ?_
    rw [Nat.testBit_and, comp_bit (hm.lt _ (List.getElem_mem hi')), Nat.zero_testBit]
    by_cases hj : j < 64
    · cases hb : l[i].testBit j with
      | false => rfl
      | true =>
        obtain ⟨x, hx, ex⟩ := (hl.bit i hi j hj).1 hb
        have := (hm.bit i hi' j hj).2 ⟨x, h x hx, ex⟩
        simp [this]
    · simp [hj]

set_option maxHeartbeats 1000000 in
theorem within_any (l m : List Nat) (v u : Value) (w : World) (hl : RowAt fu w v l) (hm : RowAt fu w u m) (hlen : l.length = m.length) (h1 : ∀ n ∈ l, n < 18446744073709551616) (h2 : ∀ n ∈ m, n < 18446744073709551616) :
    Calls Tryz.prog 128 #[v, u] w fun e w' => e = .returned (.bool (wthn l m)) ∧ w' = w := by
  obtain ⟨a, c, rfl, hc, hcm⟩ := hl.slice
  obtain ⟨a', c', rfl, hc', hcm'⟩ := hm.slice
  have HL : Hid (RowAt fu w (.slice a l.length c) l) := hl
  have HM : Hid (RowAt fu w (.slice a' m.length c') m) := hm
  have H12 : Hid ((∀ n ∈ l, n < 18446744073709551616) ∧ ∀ n ∈ m, n < 18446744073709551616) := ⟨h1, h2⟩
  clear hl hm h1 h2
  go_enter Tryz.func128, Tryz.ntmps128
  go_wp2
  go_loopw [9] (fun vi wr => ∃ i : Nat, vi = .int .i64 i ∧ i ≤ l.length ∧ wr = w ∧ Hid (∀ j (h : j < l.length) (h' : j < m.length), j < i → l[j] &&& (18446744073709551615 - m[j]) = 0)) (fun vi _ => l.length - (intOf vi).toNat)
  case atStart => exact ⟨0, rfl, Nat.zero_le _, rfl, fun j _ _ hj => absurd hj (by omega)⟩
  case round =>
    obtain ⟨i, rfl, hi, hwr, HA⟩ := hrel
    subst hwr
    by_cases hlt : i < l.length
    · have hlt' : i < m.length := by omega
      obtain ⟨b, o, rfl, hbl, hcell⟩ := HL.out.nth hlt
      obtain ⟨b', o', rfl, hbl', hcell'⟩ := HM.out.nth hlt'
      have hbits := u64_andNot_nat l[i] m[i] (H12.out.1 _ (List.getElem_mem hlt)) (H12.out.2 _ (List.getElem_mem hlt'))
      by_cases e : l[i] &&& (18446744073709551615 - m[i]) = 0
      · have HN : Hid (∀ j (h : j < l.length) (h' : j < m.length), j < i + 1 → l[j] &&& (18446744073709551615 - m[j]) = 0) := fun j hj hj' hji => by
          by_cases ej : j = i
          · subst ej; exact e
          · exact HA.out j hj hj' (by omega)
        rw [e] at hbits
        clear e
        go_wp2
        go_roundw
        case rel => exact ⟨i + 1, by go_num, by omega, trivial, HN⟩
        case measure => simp [intOf]; omega
      · have HP : Hid (wthn l m = false) := wthn_no (fun h => e (h i hlt hlt'))
        obtain ⟨x, hx⟩ : ∃ x, l[i] &&& (18446744073709551615 - m[i]) = x := ⟨_, rfl⟩
        rw [hx] at hbits e
        have e' : ((x : Int) != 0) = true := by rw [bne_iff_ne]; omega
        clear e hx
        go_wp2
        go_ret
        exact ⟨ret_bool HP.out.symm, rfl⟩
    · have HP : Hid (wthn l m = true) := wthn_iff.2 (fun j hj hj' => HA.out j hj hj' (by omega))
      go_wp2
      go_ret
      exact ⟨ret_bool HP.out.symm, rfl⟩

theorem turned_any (x : Int) (hx : -2 ≤ x ∧ x ≤ 2) (w : World) : Calls Tryz.prog 85 #[.int .i64 x] w fun e w' => e = .returned (.int .i64 (trn x)) ∧ w' = w := by
  by_cases h : x = 2
  · subst h
    go_enter Tryz.func85, Tryz.ntmps85
    go_wp2
    go_ret
    exact ⟨rfl, rfl⟩
  · have HP : Hid (trn x = -x) := by show _ = _; unfold trn; rw [if_neg h]
    have hw : wrap64 (-x) = -x := wrap_small (by omega) (by omega)
    have e : (x == 2) = false := by rw [beq_eq_false_iff_ne]; exact h
    go_enter Tryz.func85, Tryz.ntmps85
    go_wp2
    go_ret
    exact ⟨ret_i64 (by rw [HP.out]), rfl⟩

/-- A part in memory, at block b from q on. -/
structure PtAt (ρ : ByteArray × Nat → Nat) (ν : Int → Nat) (nw : Nat) (L : List T) (W : World) (k : Nat) (t : T) (b q : Nat) (sA : Value) (ar : List Nat) (sV : Value) (ws : List Nat) : Prop where
  lt : b < W.heap.size
  c0 : W.cell? ⟨b, q, none⟩ = some (.int .i16 (k : Int))
  c1 : W.cell? ⟨b, q + 1, none⟩ = some (.int .i64 (t.rk ρ : Int))
  c2 : W.cell? ⟨b, q + 2, none⟩ = some sA
  c3 : W.cell? ⟨b, q + 3, none⟩ = some (.int .i64 (t.top ρ : Int))
  c4 : W.cell? ⟨b, q + 4, none⟩ = some sV
  ra : RowAt fi W sA ar
  rv : RowAt fu W sV ws
  ax : ar.map (fun i => L[i]?) = t.args.map some
  bt : Bits ν nw t.vs ws

theorem PtAt.keep {ρ : ByteArray × Nat → Nat} {ν : Int → Nat} {nw : Nat} {L : List T} {W W' : World} {k : Nat} {t : T} {b q : Nat} {sA : Value} {ar : List Nat} {sV : Value} {ws : List Nat} {n : Nat} (h : PtAt ρ ν nw L W k t b q sA ar sV ws) (hb : Below n W W') (hn : W.heap.size ≤ n) : PtAt ρ ν nw L W' k t b q sA ar sV ws := by
  have hl := h.lt
  exact ⟨Nat.lt_of_lt_of_le hl hb.size, kc hb (by omega) h.c0, kc hb (by omega) h.c1, kc hb (by omega) h.c2, kc hb (by omega) h.c3, kc hb (by omega) h.c4, h.ra.keep hb hn, h.rv.keep hb hn, h.ax, h.bt⟩
theorem PtAt.alen {ρ : ByteArray × Nat → Nat} {ν : Int → Nat} {nw : Nat} {L : List T} {W : World} {k : Nat} {t : T} {b q : Nat} {sA : Value} {ar : List Nat} {sV : Value} {ws : List Nat} (h : PtAt ρ ν nw L W k t b q sA ar sV ws) : ar.length = t.args.length := by
  have := congrArg List.length h.ax
  simpa using this

end Go.Proofs.YtglphfhlpobgcaaGreat
