import Derived.Test.YtbbfpllffcfmhaaWJ
import Derived.Test.YtbbfpllffcfmhaaXA
import Derived.Test.YtbbfpllffcfmhaaWG

/-
  heap.up, heap.Push: the free numbers stay a heap.
-/
namespace Go.Proofs.Ytbbfpllffcfmhaa
open Go.RowKit Go.Maps

/-- A heap in a list. -/
def Hp (l : List Int) : Prop := HpF (fnL l) l.length

set_option maxRecDepth 100000 in
set_option maxHeartbeats 2000000 in
theorem up_heap {Ba : Nat} {lim : Int} {bn br n0 g c n : Nat} (W : World) (l0 : List Int) (h0 : Fb W Ba lim bn br n0 g c l0) (hn : l0.length = n) (j0 : Nat) (hj0 : j0 < n) (hn2 : n ≤ 1073741824) (hu : HpU (fnL l0) n j0) :
    Calls Try.prog 85 #[.iface 101 (.pointer (some ⟨Ba, 3, none⟩)), .int .i64 (j0 : Nat)] W fun e W' => e = .returned (.tuple #[]) ∧ (∃ l, l.length = n ∧ Fb W' Ba lim bn br n0 g c l ∧ HpF (fnL l) n ∧ l.Perm l0) ∧ Only [g] W W' := by
  go_enter Try.func85, Try.ntmps85
  go_wp2
  go_loopw [1] (fun vj wr => ∃ j : Nat, vj = .int .i64 j ∧ j < n ∧ Hid (∃ l, l.length = n ∧ Fb wr Ba lim bn br n0 g c l ∧ Only [g] W wr ∧ HpU (fnL l) n j ∧ l.Perm l0)) (fun vj _ => (intOf vj).toNat)
  case atStart => exact ⟨j0, rfl, hj0, l0, hn, h0, Only.refl _ _, hu, List.Perm.refl _⟩
  case round =>
    obtain ⟨j, rfl, hj, l, hl, hF, hO, hU, hP⟩ := hrel
    clear h0 hu
    by_cases h0 : j = 0
    · subst h0
      have HE : Hid ((∃ l, l.length = n ∧ Fb wr Ba lim bn br n0 g c l ∧ HpF (fnL l) n ∧ l.Perm l0) ∧ Only [g] W wr) := ⟨⟨l, hl, hF, hU.done (.inl rfl), hP⟩, hO⟩
      clear hF hO hl hU hP
      go_wp2
      refine bodyPost_end (results_none rfl _ _ _) rfl ?_
      exact ⟨rfl, HE.out⟩
    · obtain ⟨k, rfl⟩ : ∃ k, j = k + 1 := ⟨j - 1, by omega⟩
      have hik : k / 2 < k + 1 := by omega
      have hil : k / 2 < l.length := by omega
      have hjl : k + 1 < l.length := by omega
      have hkn : k + 1 < n := hj
      have hne : (((k : Int) / 2) == ((k : Int) + 1)) = false := by rw [beq_eq_false_iff_ne]; omega
      obtain ⟨c3, f3⟩ := hF.cell
      have hm := met_less c3
      have hless := fless_any wr hF.rw (k + 1) (k / 2) hjl hil
      obtain ⟨q, hq⟩ : ∃ q, decide (l[k + 1] < l[k / 2]) = q := ⟨_, rfl⟩
      have HQ : Hid ((q = false → HpF (fnL l) n) ∧ (q = true → HpU (fnL (swpL l (k / 2) (k + 1) hil hjl)) n (k / 2)) ∧ (swpL l (k / 2) (k + 1) hil hjl).Perm l0 ∧ l.Perm l0) := by
        refine ⟨fun e => hU.done (.inr ?_), fun e => ?_, (swpL_perm _ _ _ _ _).trans hP, hP⟩
        · rw [e] at hq
          have := of_decide_eq_false hq
          rw [Nat.add_sub_cancel, fnL_get hil, fnL_get hjl]
          omega
        · rw [e] at hq
          have h1 := of_decide_eq_true hq
          have := hU.next (by omega) hj (by rw [Nat.add_sub_cancel, fnL_get hil, fnL_get hjl]; exact h1)
          rw [Nat.add_sub_cancel] at this
          rwa [swpL_fn]
      rw [hq] at hless
      push_cast at hless
      have HS : Hid (∀ Z, Below wr.heap.size wr Z → Fb Z Ba lim bn br n0 g c l ∧ Only [g] W Z) := fun Z hZ => ⟨hF.keep hZ, hO.trans (Only.of_below (B := [g]) hZ) (fun r hr => .inl hr)⟩
      have HL : Hid (l.length = n) := hl
      clear hF hO hq hl hU hP
      go_wp2_with fail
      refine hless.mono ?_
      rintro e W1 ⟨rfl, b1⟩
      obtain ⟨hF1, hO1⟩ := HS.out W1 b1
      clear hless hm c3 f3 HS
      cases q
      · have HE : Hid ((∃ l, l.length = n ∧ Fb W1 Ba lim bn br n0 g c l ∧ HpF (fnL l) n ∧ l.Perm l0) ∧ Only [g] W W1) := ⟨⟨l, HL.out, hF1, HQ.out.1 (by first | rfl | trivial), HQ.out.2.2.2⟩, hO1⟩
        clear hF1 hO1
        go_wp2
        refine bodyPost_end (results_none rfl _ _ _) rfl ?_
        exact ⟨rfl, HE.out⟩
      · obtain ⟨c3, f3⟩ := hF1.cell
        have hm := met_swap c3
        have hswap := fswap_any W1 hF1.rw (k / 2) (k + 1) hil hjl (by omega)
        push_cast at hswap
        have HS : Hid (∀ Z l', l'.length = l.length → Rw Z n0 g c l' → Only [g] W1 Z → Fb Z Ba lim bn br n0 g c l' ∧ Only [g] W Z) := fun Z l' h1 h2 h3 => ⟨⟨by rw [h1]; exact (h3.block Ba (Array.getElem?_eq_some_iff.1 hF1.head).1 (by simp; exact fun e => hF1.ne e.symm)).trans hF1.head, h2, hF1.ne⟩, hO1.trans h3 (fun r hr => .inl hr)⟩
        clear hF1 hO1
        go_wp2_with fail
        refine hswap.mono ?_
        rintro e W2 ⟨rfl, r2, o2⟩
        obtain ⟨hF2, hO2⟩ := HS.out W2 _ (by simp) r2 o2
        have HN : Hid (∃ l, l.length = n ∧ Fb W2 Ba lim bn br n0 g c l ∧ Only [g] W W2 ∧ HpU (fnL l) n (k / 2) ∧ l.Perm l0) := ⟨_, by simpa using HL.out, hF2, hO2, HQ.out.2.1 (by first | rfl | trivial), HQ.out.2.2.1⟩
        clear hF2 hO2 r2 o2 HS hswap hm c3 f3
        go_wp2
        go_roundw
        case rel => exact ⟨k / 2, by push_cast; rfl, by omega, HN.out⟩
        case measure => simp [intOf]; omega

theorem fnL_append (l : List Int) (x : Int) : ∀ i, i < l.length → fnL (l ++ [x]) i = fnL l i := fun i hi => by
  rw [fnL_get hi, fnL_get (by simp; omega), List.getElem_append_left hi]

theorem hp_push {l : List Int} (h : Hp l) (x : Int) : HpU (fnL (l ++ [x])) (l.length + 1) l.length := by
  have : HpF (fnL (l ++ [x])) l.length := fun i i0 hi => by
    rw [fnL_append l x _ (by omega), fnL_append l x i hi]
    exact h i i0 hi
  exact this.push

set_option maxRecDepth 100000 in
set_option maxHeartbeats 4000000 in
/-- heap.Push: the number is among the free ones, which are a heap. -/
theorem hpush_heap {Ba : Nat} {lim : Int} {bn br n0 : Nat} {fv : Value} {free : List Int} (W : World) (hh : W.heap[Ba]? = some (.cells [Value.int .i64 lim, .map (some bn), .map (some br), fv].toArray 76 (0, 0))) (hr : W.ownsRow n0 3 1 fv free.length (free.map fun x => Value.int .i64 x)) (hne : fv.ownBlock ≠ some Ba) (hn0 : n0 ≤ W.heap.size) (hlen : free.length ≤ 1000000) (id : Int) (hHp : Hp free) :
    Calls Try.prog 69 #[.iface 101 (.pointer (some ⟨Ba, 3, none⟩)), .iface 3 (.int .i64 id)] W fun e W' => e = .returned (.tuple #[]) ∧ ∃ g c l, Fb W' Ba lim bn br n0 g c l ∧ l.length = free.length + 1 ∧ Only (Ba :: fv.ownBlock.toList) W W' ∧ (fv.ownBlock = some g ∨ W.heap.size ≤ g) ∧ Hp l ∧ l.Perm (free ++ [id]) := by
  have hp := fpush_any W hh hr hne hn0 (by omega) id
  have hm := met_push ⟨Ba, 3, none⟩ W
  have HU0 : Hid (HpU (fnL (free ++ [id])) (free.length + 1) free.length) := hp_push hHp id
  clear hh hr hHp
  go_enter Try.func69, Try.ntmps69
  go_wp2_with fail
  refine hp.mono ?_
  rintro e W1 ⟨rfl, g, c, hF, hO, hg⟩
  obtain ⟨l, hl⟩ : ∃ l, free ++ [id] = l := ⟨_, rfl⟩
  rw [hl] at hF HU0
  obtain ⟨k, hk⟩ : ∃ k, k + 1 = l.length := ⟨free.length, by rw [← hl]; simp⟩
  have HK : Hid (l.length = free.length + 1) := by show _ = _; rw [← hl]; simp
  have HL : Hid (free ++ [id] = l) := hl
  obtain ⟨c3, _⟩ := hF.cell
  rw [← hk] at c3
  have hm2 := met_len c3
  have hlen2 := flen_any (some ⟨g, 0, none⟩) (k + 1) c W1
  have hup := up_heap W1 l hF hk.symm k (by omega) (by have := HK.out; omega) (by have h1 := HU0.out; have h2 := HK.out; rw [show k = free.length by omega]; exact h1)
  have HO : Hid (Only (Ba :: fv.ownBlock.toList) W W1 ∧ (fv.ownBlock = some g ∨ W.heap.size ≤ g)) := ⟨hO, hg⟩
  have HN : Hid (k + 1 = l.length) := hk
  obtain ⟨m, hmm⟩ : ∃ m : Int, ((k + 1 : Nat) : Int) = m := ⟨_, rfl⟩
  have hw : wrap64 (m - 1) = (k : Int) := by have := HK.out; unfold wrap64; omega
  rw [hmm] at hlen2
  clear hmm
  clear hp hm hF hO hg hl hk HU0
  go_wp2_with fail
  refine hlen2.mono ?_
  rintro e W2 ⟨rfl, rfl⟩
  clear hlen2 hm2 c3
  go_wp2_with fail
  refine hup.mono ?_
  rintro e W3 ⟨rfl, ⟨l', h1, h2, h3, h4⟩, o3⟩
  have HH : Hid (Hp l' ∧ l'.Perm (free ++ [id])) := ⟨by unfold Hp; rw [h1]; exact h3, by rw [HL.out]; exact h4⟩
  clear h3 h4
  go_wp2
  refine bodyPost_end (results_none rfl _ _ _) rfl ?_
  refine ⟨rfl, g, c, l', h2, by have := HN.out; have := HK.out; omega, HO.out.1.trans o3 (fun r hr => ?_), HO.out.2, HH.out⟩
  obtain rfl := List.mem_singleton.1 hr
  rcases HO.out.2 with e | e
  · exact .inl (by simp [e])
  · exact .inr e

end Go.Proofs.Ytbbfpllffcfmhaa

/-
  heap.down.
-/
namespace Go.Proofs.Ytbbfpllffcfmhaa
open Go.RowKit Go.Maps

theorem down_math {l : List Int} {n i c : Nat} (hD : HpD (fnL l) n i) (hc : c < n) (hn : n ≤ l.length) (hci : c = 2 * i + 1 ∨ c = 2 * i + 2) (hmin : ∀ k, 0 < k → k < n → (k - 1) / 2 = i → fnL l c ≤ fnL l k) :
    (¬ l[c] < l[i] → HpF (fnL l) n) ∧ (l[c] < l[i] → HpD (fnL (swpL l i c (by omega) (by omega))) n c) ∧ ∀ k, n ≤ k → fnL (swpL l i c (by omega) (by omega)) k = fnL l k := by
  have ec : fnL l c = l[c] := fnL_get _
  have ei : fnL l i = l[i] := fnL_get _
  refine ⟨fun h => hD.done (fun h1 => ?_) (fun h2 => ?_), fun h => ?_, fun k hk => ?_⟩
  · have := hmin (2 * i + 1) (by omega) h1 (by omega)
    omega
  · have := hmin (2 * i + 2) (by omega) h2 (by omega)
    omega
  · rw [swpL_fn]
    exact hD.next hc (by omega) (by omega) (by omega) hmin
  · rw [swpL_fn, swpF_o _ _ _ _ (by omega) (by omega)]

set_option maxRecDepth 100000 in
set_option maxHeartbeats 4000000 in
theorem down_heap {Ba : Nat} {lim : Int} {bn br n0 g c : Nat} (n : Nat) (W : World) (l0 : List Int) (h0 : Fb W Ba lim bn br n0 g c l0) (hn : n ≤ l0.length) (hn2 : l0.length ≤ 1073741824) (hd : HpD (fnL l0) n 0) :
    Calls Try.prog 91 #[.iface 101 (.pointer (some ⟨Ba, 3, none⟩)), .int .i64 0, .int .i64 (n : Nat)] W fun e W' => ∃ b : Bool, e = .returned (.bool b) ∧ ∃ l, l.length = l0.length ∧ Fb W' Ba lim bn br n0 g c l ∧ HpF (fnL l) n ∧ (∀ k, n ≤ k → fnL l k = fnL l0 k) ∧ l.Perm l0 ∧ Only [g] W W' := by
  go_enter Try.func91, Try.ntmps91
  go_wp2
  go_loopw [7] (fun vj wr => ∃ i : Nat, vj = .int .i64 i ∧ i ≤ n ∧ Hid (∃ l, l.length = l0.length ∧ Fb wr Ba lim bn br n0 g c l ∧ Only [g] W wr ∧ HpD (fnL l) n i ∧ (∀ k, n ≤ k → fnL l k = fnL l0 k) ∧ l.Perm l0)) (fun vj _ => n - (intOf vj).toNat)
  case atStart => exact ⟨0, rfl, Nat.zero_le _, l0, rfl, h0, Only.refl _ _, hd, fun _ _ => rfl, List.Perm.refl _⟩
  case round =>
    obtain ⟨i, rfl, hi, l, hl, hF, hO, hD, hE, hP⟩ := hrel
    clear h0 hd
    have hw1 : wrap64 (2 * (i : Int)) = 2 * (i : Int) := by unfold wrap64; omega
    have hw2 : wrap64 (2 * (i : Int) + 1) = 2 * (i : Int) + 1 := by unfold wrap64; omega
    by_cases hj1 : n ≤ 2 * i + 1
    · have HE : Hid (∃ l, l.length = l0.length ∧ Fb wr Ba lim bn br n0 g c l ∧ HpF (fnL l) n ∧ (∀ k, n ≤ k → fnL l k = fnL l0 k) ∧ l.Perm l0 ∧ Only [g] W wr) := ⟨l, hl, hF, hD.done (fun h => by omega) (fun h => by omega), hE, hP, hO⟩
      have hge : (n : Int) ≤ 2 * (i : Int) + 1 := by omega
      clear hF hO hl hD hE hP
      go_wp2
      go_ret
      exact ⟨_, rfl, HE.out⟩
    · have hge : ¬ (n : Int) ≤ 2 * (i : Int) + 1 := by omega
      have hlt : 2 * (i : Int) + 1 < (n : Int) := by omega
      have hnn : ¬ 2 * (i : Int) + 1 < 0 := by omega
      have hil : i < l.length := by omega
      have h1l : 2 * i + 1 < l.length := by omega
      have hJ1 : ((2 * i + 1 : Nat) : Int) = 2 * (i : Int) + 1 := by omega
      have HD : Hid (HpD (fnL l) n i ∧ (∀ k, n ≤ k → fnL l k = fnL l0 k) ∧ l.Perm l0) := ⟨hD, hE, hP⟩
      have HL : Hid (l.length = l0.length ∧ n ≤ l.length) := ⟨hl, by omega⟩
      have hw3 : wrap64 (2 * (i : Int) + 1 + 1) = 2 * (i : Int) + 2 := by unfold wrap64; omega
      by_cases hj2 : n ≤ 2 * i + 2
      · have hge2 : ¬ 2 * (i : Int) + 2 < (n : Int) := by omega
        have hF1 := hF
        have hO1 := hO
        have hmin : ∀ k, 0 < k → k < n → (k - 1) / 2 = i → fnL l (2 * i + 1) ≤ fnL l k := fun k k0 hk hki => by
          obtain rfl : k = 2 * i + 1 := by omega
          exact Int.le_refl _
        have HM : Hid (∀ k, 0 < k → k < n → (k - 1) / 2 = i → fnL l (2 * i + 1) ≤ fnL l k) := hmin
        clear hF hO hl hD hE hP hmin
        obtain ⟨c3, f3⟩ := hF1.cell
        have hm := met_less c3
        have hless := fless_any wr hF1.rw (2 * i + 1) i h1l hil
        obtain ⟨q3, hq3⟩ : ∃ q, decide (l[2 * i + 1] < l[i]) = q := ⟨_, rfl⟩
        have HQ3 : Hid ((q3 = false → HpF (fnL l) n) ∧ (q3 = true → HpD (fnL (swpL l i (2 * i + 1) hil h1l)) n (2 * i + 1)) ∧ (∀ k, n ≤ k → fnL (swpL l i (2 * i + 1) hil h1l) k = fnL l0 k) ∧ (swpL l i (2 * i + 1) hil h1l).Perm l0) := by
          obtain ⟨m1, m2, m3⟩ := down_math HD.out.1 (c := 2 * i + 1) (by omega) HL.out.2 (by omega) HM.out
          refine ⟨fun e => m1 ?_, fun e => m2 ?_, fun k hk => (m3 k hk).trans (HD.out.2.1 k hk), (swpL_perm _ _ _ _ _).trans HD.out.2.2⟩
          · rw [e] at hq3; exact of_decide_eq_false hq3
          · rw [e] at hq3; exact of_decide_eq_true hq3
        rw [hq3, hJ1] at hless
        have HS : Hid (∀ Z, Below wr.heap.size wr Z → Fb Z Ba lim bn br n0 g c l ∧ Only [g] W Z) := fun Z hZ => ⟨hF1.keep hZ, hO1.trans (Only.of_below (B := [g]) hZ) (fun r hr => .inl hr)⟩
        clear hF1 hO1 hq3
        go_wp2_with fail
        refine hless.mono ?_
        rintro e W2 ⟨rfl, b2⟩
        obtain ⟨hF2, hO2⟩ := HS.out W2 b2
        clear hless hm c3 f3 HS b2
        cases q3
        · have HE : Hid (∃ l, l.length = l0.length ∧ Fb W2 Ba lim bn br n0 g c l ∧ HpF (fnL l) n ∧ (∀ k, n ≤ k → fnL l k = fnL l0 k) ∧ l.Perm l0 ∧ Only [g] W W2) := ⟨l, HL.out.1, hF2, HQ3.out.1 (by first | rfl | trivial), HD.out.2.1, HD.out.2.2, hO2⟩
          clear hF2 hO2
          go_wp2
          go_ret
          exact ⟨_, rfl, HE.out⟩
        · obtain ⟨c3, f3⟩ := hF2.cell
          have hm := met_swap c3
          have hswap := fswap_any W2 hF2.rw i (2 * i + 1) hil h1l (by omega)
          rw [hJ1] at hswap
          have HS : Hid (∀ Z l', l'.length = l.length → Rw Z n0 g c l' → Only [g] W2 Z → Fb Z Ba lim bn br n0 g c l' ∧ Only [g] W Z) := fun Z l' h1 h2 h3 => ⟨⟨by rw [h1]; exact (h3.block Ba (Array.getElem?_eq_some_iff.1 hF2.head).1 (by simp; exact fun e => hF2.ne e.symm)).trans hF2.head, h2, hF2.ne⟩, hO2.trans h3 (fun r hr => .inl hr)⟩
          clear hF2 hO2
          go_wp2_with fail
          refine hswap.mono ?_
          rintro e W3 ⟨rfl, r3, o3⟩
          obtain ⟨hF3, hO3⟩ := HS.out W3 _ (by simp) r3 o3
          have HN : Hid (∃ l, l.length = l0.length ∧ Fb W3 Ba lim bn br n0 g c l ∧ Only [g] W W3 ∧ HpD (fnL l) n (2 * i + 1) ∧ (∀ k, n ≤ k → fnL l k = fnL l0 k) ∧ l.Perm l0) := ⟨_, by simpa using HL.out.1, hF3, hO3, HQ3.out.2.1 (by first | rfl | trivial), HQ3.out.2.2.1, HQ3.out.2.2.2⟩
          clear hF3 hO3 r3 o3 HS hswap hm c3 f3
          go_wp2
          go_roundw
          case rel => exact ⟨2 * i + 1, by (first | (rw [hJ1]; done) | rw [show 2 * (i : Int) + 1 + 1 = 2 * (i : Int) + 2 by omega, hJ1]), by omega, HN.out⟩
          case measure => (first | rw [← hJ1] | rw [show 2 * (i : Int) + 1 + 1 = 2 * (i : Int) + 2 by omega, ← hJ1]); simp [intOf]; omega
      · have hlt2 : 2 * (i : Int) + 2 < (n : Int) := by omega
        have h2l : 2 * i + 2 < l.length := by omega
        have hJ2 : ((2 * i + 2 : Nat) : Int) = 2 * (i : Int) + 2 := by omega
        obtain ⟨c3, f3⟩ := hF.cell
        have hm := met_less c3
        have hl2 := fless_any wr hF.rw (2 * i + 2) (2 * i + 1) h2l h1l
        obtain ⟨q, hq⟩ : ∃ q, decide (l[2 * i + 2] < l[2 * i + 1]) = q := ⟨_, rfl⟩
        have HQ : Hid ((q = false → ∀ k, 0 < k → k < n → (k - 1) / 2 = i → fnL l (2 * i + 1) ≤ fnL l k) ∧ (q = true → ∀ k, 0 < k → k < n → (k - 1) / 2 = i → fnL l (2 * i + 2) ≤ fnL l k)) := by
          have e1 : fnL l (2 * i + 1) = l[2 * i + 1] := fnL_get _
          have e2 : fnL l (2 * i + 2) = l[2 * i + 2] := fnL_get _
          refine ⟨fun e k k0 hk hki => ?_, fun e k k0 hk hki => ?_⟩
          · rw [e] at hq
            have := of_decide_eq_false hq
            by_cases ek : k = 2 * i + 1
            · subst ek; exact Int.le_refl _
            · obtain rfl : k = 2 * i + 2 := by omega
              omega
          · rw [e] at hq
            have := of_decide_eq_true hq
            by_cases ek : k = 2 * i + 1
            · subst ek; omega
            · obtain rfl : k = 2 * i + 2 := by omega
              exact Int.le_refl _
        rw [hq, hJ1, hJ2] at hl2
        have HS : Hid (∀ Z, Below wr.heap.size wr Z → Fb Z Ba lim bn br n0 g c l ∧ Only [g] W Z) := fun Z hZ => ⟨hF.keep hZ, hO.trans (Only.of_below (B := [g]) hZ) (fun r hr => .inl hr)⟩
        clear hF hO hq hl hD hE hP
        go_wp2_with fail
        refine hl2.mono ?_
        rintro e W1 ⟨rfl, b1⟩
        obtain ⟨hF1, hO1⟩ := HS.out W1 b1
        clear hl2 hm c3 f3 HS b1
        cases q
        · have HM : Hid (∀ k, 0 < k → k < n → (k - 1) / 2 = i → fnL l (2 * i + 1) ≤ fnL l k) := HQ.out.1 (by first | rfl | trivial)
          clear HQ
          obtain ⟨c3, f3⟩ := hF1.cell
          have hm := met_less c3
          have hless := fless_any W1 hF1.rw (2 * i + 1) i h1l hil
          obtain ⟨q3, hq3⟩ : ∃ q, decide (l[2 * i + 1] < l[i]) = q := ⟨_, rfl⟩
          have HQ3 : Hid ((q3 = false → HpF (fnL l) n) ∧ (q3 = true → HpD (fnL (swpL l i (2 * i + 1) hil h1l)) n (2 * i + 1)) ∧ (∀ k, n ≤ k → fnL (swpL l i (2 * i + 1) hil h1l) k = fnL l0 k) ∧ (swpL l i (2 * i + 1) hil h1l).Perm l0) := by
            obtain ⟨m1, m2, m3⟩ := down_math HD.out.1 (c := 2 * i + 1) (by omega) HL.out.2 (by omega) HM.out
            refine ⟨fun e => m1 ?_, fun e => m2 ?_, fun k hk => (m3 k hk).trans (HD.out.2.1 k hk), (swpL_perm _ _ _ _ _).trans HD.out.2.2⟩
            · rw [e] at hq3; exact of_decide_eq_false hq3
            · rw [e] at hq3; exact of_decide_eq_true hq3
          rw [hq3, hJ1] at hless
          have HS : Hid (∀ Z, Below W1.heap.size W1 Z → Fb Z Ba lim bn br n0 g c l ∧ Only [g] W Z) := fun Z hZ => ⟨hF1.keep hZ, hO1.trans (Only.of_below (B := [g]) hZ) (fun r hr => .inl hr)⟩
          clear hF1 hO1 hq3
          go_wp2_with fail
          refine hless.mono ?_
          rintro e W2 ⟨rfl, b2⟩
          obtain ⟨hF2, hO2⟩ := HS.out W2 b2
          clear hless hm c3 f3 HS b2
          cases q3
          · have HE : Hid (∃ l, l.length = l0.length ∧ Fb W2 Ba lim bn br n0 g c l ∧ HpF (fnL l) n ∧ (∀ k, n ≤ k → fnL l k = fnL l0 k) ∧ l.Perm l0 ∧ Only [g] W W2) := ⟨l, HL.out.1, hF2, HQ3.out.1 (by first | rfl | trivial), HD.out.2.1, HD.out.2.2, hO2⟩
            clear hF2 hO2
            go_wp2
            go_ret
            exact ⟨_, rfl, HE.out⟩
          · obtain ⟨c3, f3⟩ := hF2.cell
            have hm := met_swap c3
            have hswap := fswap_any W2 hF2.rw i (2 * i + 1) hil h1l (by omega)
            rw [hJ1] at hswap
            have HS : Hid (∀ Z l', l'.length = l.length → Rw Z n0 g c l' → Only [g] W2 Z → Fb Z Ba lim bn br n0 g c l' ∧ Only [g] W Z) := fun Z l' h1 h2 h3 => ⟨⟨by rw [h1]; exact (h3.block Ba (Array.getElem?_eq_some_iff.1 hF2.head).1 (by simp; exact fun e => hF2.ne e.symm)).trans hF2.head, h2, hF2.ne⟩, hO2.trans h3 (fun r hr => .inl hr)⟩
            clear hF2 hO2
            go_wp2_with fail
            refine hswap.mono ?_
            rintro e W3 ⟨rfl, r3, o3⟩
            obtain ⟨hF3, hO3⟩ := HS.out W3 _ (by simp) r3 o3
            have HN : Hid (∃ l, l.length = l0.length ∧ Fb W3 Ba lim bn br n0 g c l ∧ Only [g] W W3 ∧ HpD (fnL l) n (2 * i + 1) ∧ (∀ k, n ≤ k → fnL l k = fnL l0 k) ∧ l.Perm l0) := ⟨_, by simpa using HL.out.1, hF3, hO3, HQ3.out.2.1 (by first | rfl | trivial), HQ3.out.2.2.1, HQ3.out.2.2.2⟩
            clear hF3 hO3 r3 o3 HS hswap hm c3 f3
            go_wp2
            go_roundw
            case rel => exact ⟨2 * i + 1, by (first | (rw [hJ1]; done) | rw [show 2 * (i : Int) + 1 + 1 = 2 * (i : Int) + 2 by omega, hJ1]), by omega, HN.out⟩
            case measure => (first | rw [← hJ1] | rw [show 2 * (i : Int) + 1 + 1 = 2 * (i : Int) + 2 by omega, ← hJ1]); simp [intOf]; omega
        · have HM : Hid (∀ k, 0 < k → k < n → (k - 1) / 2 = i → fnL l (2 * i + 2) ≤ fnL l k) := HQ.out.2 (by first | rfl | trivial)
          clear HQ
          obtain ⟨c3, f3⟩ := hF1.cell
          have hm := met_less c3
          have hless := fless_any W1 hF1.rw (2 * i + 2) i h2l hil
          obtain ⟨q3, hq3⟩ : ∃ q, decide (l[2 * i + 2] < l[i]) = q := ⟨_, rfl⟩
          have HQ3 : Hid ((q3 = false → HpF (fnL l) n) ∧ (q3 = true → HpD (fnL (swpL l i (2 * i + 2) hil h2l)) n (2 * i + 2)) ∧ (∀ k, n ≤ k → fnL (swpL l i (2 * i + 2) hil h2l) k = fnL l0 k) ∧ (swpL l i (2 * i + 2) hil h2l).Perm l0) := by
            obtain ⟨m1, m2, m3⟩ := down_math HD.out.1 (c := 2 * i + 2) (by omega) HL.out.2 (by omega) HM.out
            refine ⟨fun e => m1 ?_, fun e => m2 ?_, fun k hk => (m3 k hk).trans (HD.out.2.1 k hk), (swpL_perm _ _ _ _ _).trans HD.out.2.2⟩
            · rw [e] at hq3; exact of_decide_eq_false hq3
            · rw [e] at hq3; exact of_decide_eq_true hq3
          rw [hq3, hJ2] at hless
          have HS : Hid (∀ Z, Below W1.heap.size W1 Z → Fb Z Ba lim bn br n0 g c l ∧ Only [g] W Z) := fun Z hZ => ⟨hF1.keep hZ, hO1.trans (Only.of_below (B := [g]) hZ) (fun r hr => .inl hr)⟩
          clear hF1 hO1 hq3
          go_wp2_with fail
          refine hless.mono ?_
          rintro e W2 ⟨rfl, b2⟩
          obtain ⟨hF2, hO2⟩ := HS.out W2 b2
          clear hless hm c3 f3 HS b2
          cases q3
          · have HE : Hid (∃ l, l.length = l0.length ∧ Fb W2 Ba lim bn br n0 g c l ∧ HpF (fnL l) n ∧ (∀ k, n ≤ k → fnL l k = fnL l0 k) ∧ l.Perm l0 ∧ Only [g] W W2) := ⟨l, HL.out.1, hF2, HQ3.out.1 (by first | rfl | trivial), HD.out.2.1, HD.out.2.2, hO2⟩
            clear hF2 hO2
            go_wp2
            go_ret
            exact ⟨_, rfl, HE.out⟩
          · obtain ⟨c3, f3⟩ := hF2.cell
            have hm := met_swap c3
            have hswap := fswap_any W2 hF2.rw i (2 * i + 2) hil h2l (by omega)
            rw [hJ2] at hswap
            have HS : Hid (∀ Z l', l'.length = l.length → Rw Z n0 g c l' → Only [g] W2 Z → Fb Z Ba lim bn br n0 g c l' ∧ Only [g] W Z) := fun Z l' h1 h2 h3 => ⟨⟨by rw [h1]; exact (h3.block Ba (Array.getElem?_eq_some_iff.1 hF2.head).1 (by simp; exact fun e => hF2.ne e.symm)).trans hF2.head, h2, hF2.ne⟩, hO2.trans h3 (fun r hr => .inl hr)⟩
            clear hF2 hO2
            go_wp2_with fail
            refine hswap.mono ?_
            rintro e W3 ⟨rfl, r3, o3⟩
            obtain ⟨hF3, hO3⟩ := HS.out W3 _ (by simp) r3 o3
            have HN : Hid (∃ l, l.length = l0.length ∧ Fb W3 Ba lim bn br n0 g c l ∧ Only [g] W W3 ∧ HpD (fnL l) n (2 * i + 2) ∧ (∀ k, n ≤ k → fnL l k = fnL l0 k) ∧ l.Perm l0) := ⟨_, by simpa using HL.out.1, hF3, hO3, HQ3.out.2.1 (by first | rfl | trivial), HQ3.out.2.2.1, HQ3.out.2.2.2⟩
            clear hF3 hO3 r3 o3 HS hswap hm c3 f3
            go_wp2
            go_roundw
            case rel => exact ⟨2 * i + 2, by (first | (rw [hJ2]; done) | rw [show 2 * (i : Int) + 1 + 1 = 2 * (i : Int) + 2 by omega, hJ2]), by omega, HN.out⟩
            case measure => (first | rw [← hJ2] | rw [show 2 * (i : Int) + 1 + 1 = 2 * (i : Int) + 2 by omega, ← hJ2]); simp [intOf]; omega

end Go.Proofs.Ytbbfpllffcfmhaa

/-
  heap.Pop.
-/
namespace Go.Proofs.Ytbbfpllffcfmhaa
open Go.RowKit Go.Maps

set_option maxRecDepth 100000 in
set_option maxHeartbeats 1000000 in
theorem fswap_self {n0 g c : Nat} {l : List Int} (W : World) (h : Rw W n0 g c l) (i : Nat) (hi : i < l.length) :
    Calls Try.prog 111 #[.slice (some ⟨g, 0, none⟩) l.length c, .int .i64 (i : Nat), .int .i64 (i : Nat)] W fun e W' => e = .returned (.tuple #[]) ∧ Rw W' n0 g c l ∧ Only [g] W W' := by
  have h1 : (0 : Int) ≤ (i : Int) := by omega
  have h3 : (i : Int) < (l.length : Int) := by omega
  obtain ⟨x, hx⟩ : ∃ x, l[i] = x := ⟨_, rfl⟩
  obtain ⟨Wd, hWd⟩ : ∃ X, W.drew = X := ⟨_, rfl⟩
  have hd : Below W.heap.size W Wd := by rw [← hWd]; exact (Below.refl _ W).drew
  have R0 := h.keep (hd.block g h.lt)
  obtain ⟨d1, d2⟩ := R0.cell hi
  rw [hx] at d1
  have hls : l.set i x = l := by rw [← hx]; exact List.set_getElem_self hi
  have R1 := R0.set hi x
  rw [hls] at R1
  have R2 := R1.set hi x
  rw [hls] at R2
  obtain ⟨c2, f2⟩ := R1.cell hi
  rw [hx] at c2
  obtain ⟨W1, hW1⟩ : ∃ X, Wd.setCell ⟨g, i, none⟩ (.int .i64 x) = X := ⟨_, rfl⟩
  obtain ⟨W2, hW2⟩ : ∃ X, W1.setCell ⟨g, i, none⟩ (.int .i64 x) = X := ⟨_, rfl⟩
  rw [hW1] at R1 R2 c2 f2
  rw [hW2] at R2
  have o1 : Only [g] W W1 := by
    rw [← hW1]
    exact (Only.of_below (B := [g]) hd).trans (Only.of_grown (B := [g]) (World.grownBy_setCell_any Wd g i _) (fun r e => by cases e; simp)) (fun r hr => .inl hr)
  have o2 : Only [g] W W2 := by
    rw [← hW2]
    exact o1.trans (Only.of_grown (B := [g]) (World.grownBy_setCell_any W1 g i _) (fun r e => by cases e; simp)) (fun r hr => .inl hr)
  have HF : Hid (Rw W2 n0 g c l ∧ Only [g] W W2) := ⟨R2, o2⟩
  clear h hx R0 R1 R2 o1 o2 hd hls
  go_enter Try.func111, Try.ntmps111
  go_wp2
  refine wp_region_held_drew (S := fun _ => True) (by kernel_rfl) trivial (fun hHeld => ?_)
  rw [hWd]
  refine take_mk 0 (.slice (some ⟨g, 0, none⟩) l.length c) rfl (by kernel_rfl) (by kernel_rfl) (by kernel_rfl) (fun _ _ _ h => h) (Or.inl ⟨by rfl, fun Z hZ => by go_simp⟩) trivial ?_
  try simp only [Act.put, List.setIfInBounds_toArray, List.set_cons_zero, List.set_cons_succ]
  refine take_mk 1 (.int .i64 (i : Nat)) rfl (by kernel_rfl) (by kernel_rfl) (by kernel_rfl) (fun _ _ _ h => h) (Or.inl ⟨by rfl, fun Z hZ => by go_simp⟩) trivial ?_
  try simp only [Act.put, List.setIfInBounds_toArray, List.set_cons_zero, List.set_cons_succ]
  refine take_mk 2 (.slice (some ⟨g, 0, none⟩) l.length c) rfl (by kernel_rfl) (by kernel_rfl) (by kernel_rfl) (fun _ _ _ h => h) (Or.inl ⟨by rfl, fun Z hZ => by go_simp⟩) trivial ?_
  try simp only [Act.put, List.setIfInBounds_toArray, List.set_cons_zero, List.set_cons_succ]
  refine take_mk 3 (.int .i64 (i : Nat)) rfl (by kernel_rfl) (by kernel_rfl) (by kernel_rfl) (fun _ _ _ h => h) (Or.inl ⟨by rfl, fun Z hZ => by go_simp⟩) trivial ?_
  try simp only [Act.put, List.setIfInBounds_toArray, List.set_cons_zero, List.set_cons_succ]
  refine take_mk 4 (.slice (some ⟨g, 0, none⟩) l.length c) rfl (by kernel_rfl) (by kernel_rfl) (by kernel_rfl) (fun _ _ _ h => h) (Or.inl ⟨by rfl, fun Z hZ => by go_simp⟩) trivial ?_
  try simp only [Act.put, List.setIfInBounds_toArray, List.set_cons_zero, List.set_cons_succ]
  refine take_mk 5 (.int .i64 (i : Nat)) rfl (by kernel_rfl) (by kernel_rfl) (by kernel_rfl) (fun _ _ _ h => h) (Or.inl ⟨by rfl, fun Z hZ => by go_simp⟩) trivial ?_
  try simp only [Act.put, List.setIfInBounds_toArray, List.set_cons_zero, List.set_cons_succ]
  refine take_mk 6 (.pointer (some ⟨g, i, none⟩)) rfl (by kernel_rfl) (by kernel_rfl) (by kernel_rfl) (fun _ _ _ h => h) (Or.inl ⟨by rfl, fun Z hZ => by go_simp⟩) trivial ?_
  try simp only [Act.put, List.setIfInBounds_toArray, List.set_cons_zero, List.set_cons_succ]
  refine take_mk 8 (.slice (some ⟨g, 0, none⟩) l.length c) rfl (by kernel_rfl) (by kernel_rfl) (by kernel_rfl) (fun _ _ _ h => h) (Or.inl ⟨by rfl, fun Z hZ => by go_simp⟩) trivial ?_
  try simp only [Act.put, List.setIfInBounds_toArray, List.set_cons_zero, List.set_cons_succ]
  refine take_mk 9 (.int .i64 (i : Nat)) rfl (by kernel_rfl) (by kernel_rfl) (by kernel_rfl) (fun _ _ _ h => h) (Or.inl ⟨by rfl, fun Z hZ => by go_simp⟩) trivial ?_
  try simp only [Act.put, List.setIfInBounds_toArray, List.set_cons_zero, List.set_cons_succ]
  refine take_mk 10 (.pointer (some ⟨g, i, none⟩)) rfl (by kernel_rfl) (by kernel_rfl) (by kernel_rfl) (fun _ _ _ h => h) (Or.inl ⟨by rfl, fun Z hZ => by go_simp⟩) trivial ?_
  try simp only [Act.put, List.setIfInBounds_toArray, List.set_cons_zero, List.set_cons_succ]
  refine wpAnyH_ready (rs := [7, 11]) (by kernel_rfl) (by simp) (AllReadyH.cons (o := ⟨_, _, _, _, _, _⟩) rfl (fun K hK => ?_) (AllReadyH.cons (o := ⟨_, _, _, _, _, _⟩) rfl (fun K hK => ?_) AllReadyH.nil))
  · rw [if_pos (by rfl)]
    go_simp
    refine hK.out _ _ trivial (fun _ => ?_)
    clear hK K
    try simp only [Act.put, List.setIfInBounds_toArray, List.set_cons_zero, List.set_cons_succ]
    refine wpAnyH_ready (rs := [11]) (by kernel_rfl) (by simp) (AllReadyH.cons (o := ⟨_, _, _, _, _, _⟩) rfl (fun K hK => ?_) AllReadyH.nil)
    rw [if_pos (by rfl)]
    go_simp
    skip
    refine hK.out _ _ trivial (fun _ => ?_)
    clear hK K
    try simp only [Act.put, List.setIfInBounds_toArray, List.set_cons_zero, List.set_cons_succ]
    refine take_mk 12 (.pointer (some ⟨g, i, none⟩)) rfl (by kernel_rfl) (by kernel_rfl) (by kernel_rfl) (fun _ _ _ h => h) (Or.inl ⟨by rfl, fun Z hZ => by go_simp⟩) trivial ?_
    try simp only [Act.put, List.setIfInBounds_toArray, List.set_cons_zero, List.set_cons_succ]
    refine wpAnyH_ready (rs := [13]) (by kernel_rfl) (by simp) (AllReadyH.cons (o := ⟨_, _, _, _, _, _⟩) rfl (fun K hK => ?_) AllReadyH.nil)
    rw [if_pos (by rfl)]
    go_simp
    try rw [hW1]
    refine hK.out _ _ trivial (fun _ => ?_)
    clear hK K
    try simp only [Act.put, List.setIfInBounds_toArray, List.set_cons_zero, List.set_cons_succ]
    refine take_mk 14 (.pointer (some ⟨g, i, none⟩)) rfl (by kernel_rfl) (by kernel_rfl) (by kernel_rfl) (fun _ _ _ h => h) (Or.inl ⟨by rfl, fun Z hZ => by go_simp⟩) trivial ?_
    try simp only [Act.put, List.setIfInBounds_toArray, List.set_cons_zero, List.set_cons_succ]
    refine wpAnyH_ready (rs := [15]) (by kernel_rfl) (by simp) (AllReadyH.cons (o := ⟨_, _, _, _, _, _⟩) rfl (fun K hK => ?_) AllReadyH.nil)
    rw [if_pos (by rfl)]
    go_simp
    try rw [hW2]
    refine hK.out _ _ trivial (fun _ => ?_)
    clear hK K
    try simp only [Act.put, List.setIfInBounds_toArray, List.set_cons_zero, List.set_cons_succ]
    refine wpAnyH_done (by kernel_rfl) ?_ _
    try simp only [Act.put]
    refine bodyPost_end (results_none rfl _ _ _) rfl ?_
    exact ⟨rfl, HF.out⟩
  · rw [if_pos (by rfl)]
    go_simp
    refine hK.out _ _ trivial (fun _ => ?_)
    clear hK K
    try simp only [Act.put, List.setIfInBounds_toArray, List.set_cons_zero, List.set_cons_succ]
    refine wpAnyH_ready (rs := [7]) (by kernel_rfl) (by simp) (AllReadyH.cons (o := ⟨_, _, _, _, _, _⟩) rfl (fun K hK => ?_) AllReadyH.nil)
    rw [if_pos (by rfl)]
    go_simp
    skip
    refine hK.out _ _ trivial (fun _ => ?_)
    clear hK K
    try simp only [Act.put, List.setIfInBounds_toArray, List.set_cons_zero, List.set_cons_succ]
    refine take_mk 12 (.pointer (some ⟨g, i, none⟩)) rfl (by kernel_rfl) (by kernel_rfl) (by kernel_rfl) (fun _ _ _ h => h) (Or.inl ⟨by rfl, fun Z hZ => by go_simp⟩) trivial ?_
    try simp only [Act.put, List.setIfInBounds_toArray, List.set_cons_zero, List.set_cons_succ]
    refine wpAnyH_ready (rs := [13]) (by kernel_rfl) (by simp) (AllReadyH.cons (o := ⟨_, _, _, _, _, _⟩) rfl (fun K hK => ?_) AllReadyH.nil)
    rw [if_pos (by rfl)]
    go_simp
    try rw [hW1]
    refine hK.out _ _ trivial (fun _ => ?_)
    clear hK K
    try simp only [Act.put, List.setIfInBounds_toArray, List.set_cons_zero, List.set_cons_succ]
    refine take_mk 14 (.pointer (some ⟨g, i, none⟩)) rfl (by kernel_rfl) (by kernel_rfl) (by kernel_rfl) (fun _ _ _ h => h) (Or.inl ⟨by rfl, fun Z hZ => by go_simp⟩) trivial ?_
    try simp only [Act.put, List.setIfInBounds_toArray, List.set_cons_zero, List.set_cons_succ]
    refine wpAnyH_ready (rs := [15]) (by kernel_rfl) (by simp) (AllReadyH.cons (o := ⟨_, _, _, _, _, _⟩) rfl (fun K hK => ?_) AllReadyH.nil)
    rw [if_pos (by rfl)]
    go_simp
    try rw [hW2]
    refine hK.out _ _ trivial (fun _ => ?_)
    clear hK K
    try simp only [Act.put, List.setIfInBounds_toArray, List.set_cons_zero, List.set_cons_succ]
    refine wpAnyH_done (by kernel_rfl) ?_ _
    try simp only [Act.put]
    refine bodyPost_end (results_none rfl _ _ _) rfl ?_
    exact ⟨rfl, HF.out⟩

theorem Rw.pre {W : World} {n0 g c : Nat} {l : List Int} (h : Rw W n0 g c l) : Rw W n0 g c l.dropLast := by
  obtain ⟨⟨cur, h1, h2, h3⟩, h4, h5⟩ := h
  refine ⟨⟨cur, h1, h2, fun i hi => ?_⟩, ⟨by rw [List.length_dropLast]; omega, h4.2⟩, h5⟩
  rw [List.getElem_dropLast]
  exact h3 i (by rw [List.length_dropLast] at hi; omega)

set_option maxRecDepth 100000 in
set_option maxHeartbeats 1000000 in
theorem fpop_any {Ba : Nat} {lim : Int} {bn br n0 g c : Nat} {l : List Int} (W : World) (h : Fb W Ba lim bn br n0 g c l) (k : Nat) (hk : l.length = k + 1) (hn2 : l.length ≤ 1073741824) :
    Calls Try.prog 112 #[.pointer (some ⟨Ba, 3, none⟩)] W fun e W' => e = .returned (.iface 3 (.int .i64 (fnL l k))) ∧ Fb W' Ba lim bn br n0 g c l.dropLast ∧ Only [Ba] W W' := by
  obtain ⟨c3, f3⟩ := h.cell
  obtain ⟨d0, _⟩ := h.rw.cell (i := k) (by omega)
  obtain ⟨x, hx⟩ : ∃ x, fnL l k = x := ⟨_, rfl⟩
  rw [← fnL_get (by omega : k < l.length), hx] at d0
  rw [hx]
  have hw : wrap64 (k : Int) = (k : Int) := by unfold wrap64; omega
  have hkc : (k : Int) ≤ (c : Int) := by have := h.rw.le.1; omega
  have hkc' : k ≤ c := by omega
  have hk0 : (0 : Int) ≤ (k : Int) := by omega
  rw [hk] at c3
  obtain ⟨W2, hW2⟩ : ∃ X, W.setCell ⟨Ba, 3, none⟩ (.slice (some ⟨g, 0, none⟩) k c) = X := ⟨_, rfl⟩
  have HF : Hid (Fb W2 Ba lim bn br n0 g c l.dropLast ∧ Only [Ba] W W2) := by
    have o : Only [Ba] W W2 := by rw [← hW2]; exact Only.of_grown (B := [Ba]) (World.grownBy_setCell_any W Ba 3 _) (fun r e => by cases e; simp)
    refine ⟨⟨?_, (h.rw.keep (o.block g h.rw.lt (by simp; exact h.ne))).pre, h.ne⟩, o⟩
    rw [← hW2, set_any h.head, List.length_dropLast, hk, Nat.add_sub_cancel]
    rfl
  clear h hx hk hn2
  go_enter Try.func112, Try.ntmps112
  go_wp2
  try rw [hW2]
  go_ret
  exact ⟨rfl, HF.out⟩

end Go.Proofs.Ytbbfpllffcfmhaa

/-
  heap.Pop: the least free number.
-/
namespace Go.Proofs.Ytbbfpllffcfmhaa
open Go.RowKit Go.Maps

theorem met_pop (p : Addr) (w : World) : (method 248 101 (.pointer (some p)) "Pop").run Try.prog w = .ok (112, .pointer (some p)) w := by kernel_rfl

theorem fswap_gen {n0 g c : Nat} {l : List Int} (W : World) (h : Rw W n0 g c l) (i j : Nat) (hi : i < l.length) (hj : j < l.length) :
    Calls Try.prog 111 #[.slice (some ⟨g, 0, none⟩) l.length c, .int .i64 (i : Nat), .int .i64 (j : Nat)] W fun e W' => e = .returned (.tuple #[]) ∧ Rw W' n0 g c (swpL l i j hi hj) ∧ Only [g] W W' := by
  by_cases e : i = j
  · subst e
    refine (fswap_self W h i hi).mono ?_
    rintro e W' ⟨he, h1, h2⟩
    refine ⟨he, ?_, h2⟩
    have : swpL l i i hi hj = l := by unfold swpL; rw [List.set_getElem_self hi, List.set_getElem_self hi]
    rw [this]
    exact h1
  · exact fswap_any W h i j hi hj e

/-- What is left behind the last one. -/
theorem pop_math {free l3 : List Int} {k : Nat} (hH : Hp free) (hk : free.length = k + 1) (hl : l3.length = free.length) (h1 : HpF (fnL l3) k) (h2 : fnL l3 k = fnL free 0) (h3 : l3.Perm free) :
    Hp l3.dropLast ∧ l3.dropLast.length = k ∧ (fnL l3 k :: l3.dropLast).Perm free ∧ ∀ y ∈ free, fnL l3 k ≤ y := by
  have hlen : l3.dropLast.length = k := by rw [List.length_dropLast]; omega
  refine ⟨?_, hlen, ?_, fun y hy => ?_⟩
  · intro i i0 hi
    rw [hlen] at hi
    have e : ∀ j, j < k → fnL l3.dropLast j = fnL l3 j := fun j hj => by
      rw [fnL_get (by omega), fnL_get (by omega), List.getElem_dropLast]
    rw [e _ (by omega), e _ hi]
    exact h1 i i0 hi
  · have hne : l3 ≠ [] := fun e => by rw [e] at hl; simp at hl; omega
    have e1 : l3.dropLast ++ [l3.getLast hne] = l3 := List.dropLast_concat_getLast hne
    have e2 : l3.getLast hne = fnL l3 k := by
      rw [List.getLast_eq_getElem, fnL_get (by omega)]
      congr 1
      omega
    rw [e2] at e1
    have p1 : (fnL l3 k :: l3.dropLast).Perm (l3.dropLast ++ [fnL l3 k]) := (List.perm_append_singleton _ _).symm
    rw [e1] at p1
    exact p1.trans h3
  · obtain ⟨i, hi, rfl⟩ := List.getElem_of_mem hy
    have := HpF.least hH i hi
    rw [h2]
    rwa [fnL_get hi] at this

set_option maxRecDepth 100000 in
set_option maxHeartbeats 4000000 in
theorem hpop_heap {Ba : Nat} {lim : Int} {bn br n0 g c : Nat} {free : List Int} (W : World) (hF : Fb W Ba lim bn br n0 g c free) (hH : Hp free) (k : Nat) (hk : free.length = k + 1) (hn : free.length ≤ 1000001) :
    Calls Try.prog 84 #[.iface 101 (.pointer (some ⟨Ba, 3, none⟩))] W fun e W' => ∃ x l, e = .returned (.iface 3 (.int .i64 x)) ∧ Fb W' Ba lim bn br n0 g c l ∧ (Hp l ∧ l.length = k ∧ (x :: l).Perm free ∧ ∀ y ∈ free, x ≤ y) ∧ Only [Ba, g] W W' := by
  have h0l : 0 < free.length := by omega
  have hkl : k < free.length := by omega
  obtain ⟨c3, _⟩ := hF.cell
  have hm1 := met_len c3
  have hlen := flen_any (some ⟨g, 0, none⟩) free.length c W
  have hm2 := met_swap c3
  have hswap := fswap_gen W hF.rw 0 k h0l hkl
  have hw : wrap64 (k : Int) = (k : Int) := by unfold wrap64; omega
  have HS : Hid (∀ Z, Rw Z n0 g c (swpL free 0 k h0l hkl) → Only [g] W Z → Fb Z Ba lim bn br n0 g c (swpL free 0 k h0l hkl)) := fun Z h2 h3 => ⟨by rw [swpL_len]; exact (h3.block Ba (Array.getElem?_eq_some_iff.1 hF.head).1 (by simp; exact fun e => hF.ne e.symm)).trans hF.head, h2, hF.ne⟩
  have HM : Hid (HpD (fnL (swpL free 0 k h0l hkl)) k 0 ∧ fnL (swpL free 0 k h0l hkl) k = fnL free 0 ∧ (swpL free 0 k h0l hkl).Perm free ∧ (swpL free 0 k h0l hkl).length = free.length) := by
    have hH' : HpF (fnL free) (k + 1) := by rw [← hk]; exact hH
    refine ⟨?_, ?_, swpL_perm _ _ _ _ _, swpL_len _ _ _ _ _⟩
    · rw [swpL_fn]; exact hH'.pop
    · rw [swpL_fn, swpF_b]
  have HH : Hid (Hp free ∧ free.length = k + 1 ∧ free.length ≤ 1000001) := ⟨hH, hk, hn⟩
  obtain ⟨sl, hsl⟩ : ∃ s, swpL free 0 k h0l hkl = s := ⟨_, rfl⟩
  simp only [hsl] at hswap HS HM
  rw [hk] at c3 hm1 hm2 hlen hswap
  push_cast at hlen hswap
  clear hF hH hk hn hsl h0l hkl c3
  go_enter Try.func84, Try.ntmps84
  go_wp2_with fail
  refine hlen.mono ?_
  rintro e W1 ⟨rfl, rfl⟩
  clear hlen hm1
  go_wp2_with fail
  refine hswap.mono ?_
  rintro e W2 ⟨rfl, r2, o2⟩
  have hF2 := HS.out W2 r2 o2
  have hdown := down_heap k W2 sl hF2 (by have := HH.out.2.1; have := HM.out.2.2.2; omega) (by have := HH.out.2.2; have := HM.out.2.2.2; omega) HM.out.1
  have HO2 : Hid (Only [g] W1 W2) := o2
  clear hswap hm2 HS r2 o2 hF2
  go_wp2_with fail
  refine hdown.mono ?_
  rintro e W3 ⟨b, rfl, l3, hl3, hF3, hp3, he3, hP3, o3⟩
  have HP : Hid (Hp l3.dropLast ∧ l3.dropLast.length = k ∧ (fnL l3 k :: l3.dropLast).Perm free ∧ ∀ y ∈ free, fnL l3 k ≤ y) := pop_math HH.out.1 HH.out.2.1 (hl3.trans HM.out.2.2.2) hp3 ((he3 k (Nat.le_refl _)).trans HM.out.2.1) (hP3.trans HM.out.2.2.1)
  have hm3 := met_pop ⟨Ba, 3, none⟩ W3
  have hpop := fpop_any W3 hF3 k (by rw [hl3, HM.out.2.2.2]; exact HH.out.2.1) (by rw [hl3, HM.out.2.2.2]; have := HH.out.2.2; omega)
  have HO3 : Hid (Only [g] W1 W3) := HO2.out.trans o3 (fun r hr => .inl hr)
  clear hdown hl3 hF3 hp3 he3 hP3 o3 HM HH HO2
  go_wp2_with fail
  refine hpop.mono ?_
  rintro e W4 ⟨rfl, hF4, o4⟩
  have HE : Hid (Fb W4 Ba lim bn br n0 g c l3.dropLast ∧ Only [Ba, g] W1 W4) := by
    have a : Only [Ba, g] W1 W3 := ⟨HO3.out.os, HO3.out.tape, HO3.out.output, HO3.out.size, fun k hk hn => HO3.out.block k hk (fun hm => hn (by simp at hm; simp [hm]))⟩
    exact ⟨hF4, a.trans o4 (fun r hr => .inl (by simp at hr; simp [hr]))⟩
  clear hF4 o4 hpop
  go_wp2
  go_ret
  exact ⟨_, _, rfl, HE.out.1, HP.out, HE.out.2⟩

end Go.Proofs.Ytbbfpllffcfmhaa

/-
  leastFree where numbers are free.
-/
namespace Go.Proofs.Ytbbfpllffcfmhaa
open Go.RowKit Go.Maps

section
variable {n0 Ba : Nat} {B : List Nat} {limit : Int} {es : List Ent} {free free' : List Int} {W W' : World} {bn br g c : Nat} {l : List (Ent × Nat)}

/-- Other free numbers, in the same row. -/
theorem BankAt.freed (h : BankAt n0 Ba B limit es free W bn br (.slice (some ⟨g, 0, none⟩) free.length c) l) (hF : Fb W' Ba limit bn br n0 g c free') (hO : Only [Ba, g] W W') :
    BankAt n0 Ba B limit es free' W' bn br (.slice (some ⟨g, 0, none⟩) free'.length c) l ∧ Only B W W' := by
  obtain ⟨m1, m2, m3⟩ := h.maps
  obtain ⟨o1, o2, o3⟩ := h.own_ne
  have e1 : (Value.slice (some ⟨g, 0, none⟩) free.length c).ownBlock = some g := rfl
  have e2 : (Value.slice (some ⟨g, 0, none⟩) free'.length c).ownBlock = some g := rfl
  rw [e1] at o1 o2 o3
  have hm := h.mine
  rw [e1] at hm
  have kp : ∀ r, r < W.heap.size → r ≠ Ba → r ≠ g → W'.heap[r]? = W.heap[r]? := fun r hr n1 n2 => hO.block r hr (by simp [n1, n2])
  refine ⟨⟨h.ents, hF.head, h.nums.same (kp bn h.nums.lt m1 (fun e => o1 (by rw [e]))), h.recs.same (kp br h.recs.lt m2 (fun e => o2 (by rw [e]))), fun x hx => ?_, hF.rw.to_row, h.apart, h.blks, by rw [e2]; exact hm, h.low⟩, ⟨hO.os, hO.tape, hO.output, hO.size, fun k hk hn => hO.block k hk (fun hx => hn ?_)⟩⟩
  · obtain ⟨q1, q2⟩ := h.rec_ne x hx
    rw [e1] at q2
    exact (kp x.2 (h.there _ (by rw [h.mine]; simp only [List.mem_cons, List.mem_append, List.mem_map]; exact .inr (.inr (.inr (.inr ⟨x, hx, rfl⟩))))) q1 (fun e => q2 (by rw [e]))).trans (h.each x hx)
  · simp only [List.mem_cons, List.not_mem_nil, or_false] at hx
    rw [hm]
    rcases hx with rfl | rfl <;> simp

set_option maxRecDepth 100000 in
set_option maxHeartbeats 2000000 in
theorem least_old {fv : Value} (h : BankAt n0 Ba B limit es free W bn br fv l) (hH : Hp free) (hne : free ≠ []) (hn : free.length ≤ 1000000) :
    Calls Try.prog 67 #[.pointer (some ⟨Ba, 0, none⟩)] W fun e W' => ∃ x free' fv', e = .returned (.int .i64 x) ∧ BankAt n0 Ba B limit es free' W' bn br fv' l ∧ (Hp free' ∧ free'.length + 1 = free.length ∧ (x :: free').Perm free ∧ ∀ y ∈ free, x ≤ y) ∧ Only B W W' := by
  have hpos : 0 < free.length := List.length_pos_iff.2 hne
  obtain ⟨g, c, rfl, hR⟩ := Rw.of_row h.row hpos
  obtain ⟨_, _, o3⟩ := h.own_ne
  have hF : Fb W Ba limit bn br n0 g c free := ⟨h.head, hR, fun e => o3 (by rw [← e]; rfl)⟩
  obtain ⟨c3, _⟩ := hF.cell
  have hpop := hpop_heap W hF hH (free.length - 1) (by omega) (by omega)
  have hlen := flen_any (some ⟨g, 0, none⟩) free.length c W
  have h0 : ((free.length : Int) == 0) = false := by rw [beq_eq_false_iff_ne]; omega
  have h0' : ¬ (free.length : Int) = 0 := by omega
  have HB : Hid (BankAt n0 Ba B limit es free W bn br (.slice (some ⟨g, 0, none⟩) free.length c) l ∧ 0 < free.length) := ⟨h, hpos⟩
  have as3 := assert3
  clear h hR hF hH hn o3 hne
  go_enter Try.func67, Try.ntmps67
  go_wp2_with fail
  refine hlen.mono ?_
  rintro e W1 ⟨rfl, rfl⟩
  clear hlen
  go_wp2_with fail
  refine hpop.mono ?_
  rintro e W2 ⟨x, f2, rfl, hF2, hm2, o2⟩
  obtain ⟨hB2, hO2⟩ := HB.out.1.freed hF2 o2
  have HE : Hid (BankAt n0 Ba B limit es f2 W2 bn br (.slice (some ⟨g, 0, none⟩) f2.length c) l ∧ (Hp f2 ∧ f2.length + 1 = free.length ∧ (x :: f2).Perm free ∧ ∀ y ∈ free, x ≤ y) ∧ Only B W1 W2) := ⟨hB2, ⟨hm2.1, by have := hm2.2.1; have := HB.out.2; omega, hm2.2.2⟩, hO2⟩
  clear hB2 hO2 hF2 hm2 o2 hpop
  go_wp2
  go_ret
  exact ⟨_, _, _, rfl, HE.out⟩

end

end Go.Proofs.Ytbbfpllffcfmhaa
