/-
  heap.up, heap.Push.
-/
import Derived.Test.YtbbfpllffcfmhaaWH
namespace Go.Proofs.Ytbbfpllffcfmhaa
open Go.RowKit Go.Maps

/-- The box of a bank, and its free numbers. -/
structure Fb (W : World) (Ba : Nat) (lim : Int) (bn br : Nat) (n0 g c : Nat) (l : List Int) : Prop where
  head : W.heap[Ba]? = some (.cells [Value.int .i64 lim, .map (some bn), .map (some br), .slice (some ⟨g, 0, none⟩) l.length c].toArray 76 (0, 0))
  rw : Rw W n0 g c l
  ne : g ≠ Ba

theorem Fb.cell {W : World} {Ba : Nat} {lim : Int} {bn br n0 g c : Nat} {l : List Int} (h : Fb W Ba lim bn br n0 g c l) : W.cell? ⟨Ba, 3, none⟩ = some (.slice (some ⟨g, 0, none⟩) l.length c) ∧ W.frozen? ⟨Ba, 3, none⟩ = false := by
  refine ⟨?_, by simp [World.frozen?, h.head]⟩
  rw [cell_of_row _ _ _ _ 76 (0, 0) h.head]
  rfl
theorem Fb.keep {W W' : World} {Ba : Nat} {lim : Int} {bn br n0 g c : Nat} {l : List Int} (h : Fb W Ba lim bn br n0 g c l) (hb : Below W.heap.size W W') : Fb W' Ba lim bn br n0 g c l :=
  ⟨(hb.block Ba (Array.getElem?_eq_some_iff.1 h.head).1).trans h.head, h.rw.keep (hb.block g h.rw.lt), h.ne⟩

set_option maxRecDepth 100000 in
set_option maxHeartbeats 2000000 in
theorem up_any {Ba : Nat} {lim : Int} {bn br n0 g c n : Nat} (W : World) (l0 : List Int) (h0 : Fb W Ba lim bn br n0 g c l0) (hn : l0.length = n) (j0 : Nat) (hj0 : j0 < n) (hn2 : n ≤ 1073741824) :
    Calls Try.prog 85 #[.iface 101 (.pointer (some ⟨Ba, 3, none⟩)), .int .i64 (j0 : Nat)] W fun e W' => e = .returned (.tuple #[]) ∧ (∃ l, l.length = n ∧ Fb W' Ba lim bn br n0 g c l) ∧ Only [g] W W' := by
  go_enter Try.func85, Try.ntmps85
  go_wp2
  go_loopw [1] (fun vj wr => ∃ j : Nat, vj = .int .i64 j ∧ j < n ∧ Hid (∃ l, l.length = n ∧ Fb wr Ba lim bn br n0 g c l ∧ Only [g] W wr)) (fun vj _ => (intOf vj).toNat)
  case atStart => exact ⟨j0, rfl, hj0, l0, hn, h0, Only.refl _ _⟩
  case round =>
    obtain ⟨j, rfl, hj, l, hl, hF, hO⟩ := hrel
    clear h0
    by_cases h0 : j = 0
    · subst h0
      have HE : Hid ((∃ l, l.length = n ∧ Fb wr Ba lim bn br n0 g c l) ∧ Only [g] W wr) := ⟨⟨l, hl, hF⟩, hO⟩
      clear hF hO hl
      go_wp2
      refine bodyPost_end (results_none rfl _ _ _) rfl ?_
      exact ⟨rfl, HE.out⟩
    · obtain ⟨k, rfl⟩ : ∃ k, j = k + 1 := ⟨j - 1, by omega⟩
      have hik : k / 2 < k + 1 := by omega
      have hil : k / 2 < l.length := by omega
      have hjl : k + 1 < l.length := by omega
      have hkn : k + 1 < n := hj
      have hne : (((k : Int) / 2) == ((k : Int) + 1)) = false := by rw [beq_eq_false_iff_ne]; omega
      obtain ⟨c3, f3⟩ := hF.cell
      have hm := met_less c3
      have hless := fless_any wr hF.rw (k + 1) (k / 2) hjl hil
      obtain ⟨q, hq⟩ : ∃ q, decide (l[k + 1] < l[k / 2]) = q := ⟨_, rfl⟩
      rw [hq] at hless
      push_cast at hless
      have HS : Hid (∀ Z, Below wr.heap.size wr Z → Fb Z Ba lim bn br n0 g c l ∧ Only [g] W Z) := fun Z hZ => ⟨hF.keep hZ, hO.trans (Only.of_below (B := [g]) hZ) (fun r hr => .inl hr)⟩
      have HL : Hid (l.length = n) := hl
      clear hF hO hq hl
      go_wp2_with fail
      refine hless.mono ?_
      rintro e W1 ⟨rfl, b1⟩
      obtain ⟨hF1, hO1⟩ := HS.out W1 b1
      clear hless hm c3 f3 HS
      cases q
      · have HE : Hid ((∃ l, l.length = n ∧ Fb W1 Ba lim bn br n0 g c l) ∧ Only [g] W W1) := ⟨⟨l, HL.out, hF1⟩, hO1⟩
        clear hF1 hO1
        go_wp2
        refine bodyPost_end (results_none rfl _ _ _) rfl ?_
        exact ⟨rfl, HE.out⟩
      · obtain ⟨c3, f3⟩ := hF1.cell
        have hm := met_swap c3
        have hswap := fswap_any W1 hF1.rw (k / 2) (k + 1) hil hjl (by omega)
        push_cast at hswap
        have HS : Hid (∀ Z l', l'.length = l.length → Rw Z n0 g c l' → Only [g] W1 Z → Fb Z Ba lim bn br n0 g c l' ∧ Only [g] W Z) := fun Z l' h1 h2 h3 => ⟨⟨by rw [h1]; exact (h3.block Ba (Array.getElem?_eq_some_iff.1 hF1.head).1 (by simp; exact fun e => hF1.ne e.symm)).trans hF1.head, h2, hF1.ne⟩, hO1.trans h3 (fun r hr => .inl hr)⟩
        clear hF1 hO1
        go_wp2_with fail
        refine hswap.mono ?_
        rintro e W2 ⟨rfl, r2, o2⟩
        obtain ⟨hF2, hO2⟩ := HS.out W2 _ (by simp) r2 o2
        have HN : Hid (∃ l, l.length = n ∧ Fb W2 Ba lim bn br n0 g c l ∧ Only [g] W W2) := ⟨_, by simpa using HL.out, hF2, hO2⟩
        clear hF2 hO2 r2 o2 HS hswap hm c3 f3
        go_wp2
        go_roundw
        case rel => exact ⟨k / 2, by push_cast; rfl, by omega, HN.out⟩
        case measure => simp [intOf]; omega

end Go.Proofs.Ytbbfpllffcfmhaa
