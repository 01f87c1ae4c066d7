/-
  What the document's Take and Give leave; the walks of Ints, of the document's Back, of Mark and Back.
-/
import Derived.Test.YtiaebahmbgmajaaJ
namespace Go.Proofs.Ytiaebahmbgmajaa
open Go.RowKit

theorem IntRow.drewN {W : World} {g c : Nat} {xs : List Int} (h : IntRow W g c xs) (q : Nat) : IntRow (W.drewN q) g c xs := h
theorem Ref.drewN {W : World} {r : RL} {cs : List Cnt} (h : Ref W r cs) (q : Nat) : Ref (W.drewN q) r cs := ⟨h.acc, h.rl, h.ru, h.rp, h.d1, h.d2, h.d3, h.good⟩

theorem map_set_same (cs : List Cnt) (k : Nat) (hk : k < cs.length) (f : Cnt → Int) (c : Cnt) (hc : f c = f cs[k]) : (cs.set k c).map f = cs.map f := by
  apply List.ext_getElem
  · simp
  · intro i h1 h2
    rw [List.getElem_map, List.getElem_map, List.getElem_set]
    split
    · rename_i e; subst e; exact hc
    · rfl

theorem Ref.setU {W : World} {r : RL} {cs : List Cnt} (h : Ref W r cs) {k : Nat} (hk : k < cs.length) (u : Int) (hg : Good (cs.set k (cs[k].1, u, cs[k].2.2))) : Ref (W.setCell ⟨r.gu, k, none⟩ (.int .i64 u)) r (cs.set k (cs[k].1, u, cs[k].2.2)) := by
  have hb : r.Br ≠ r.gu := (h.ru.ne h.acc (by decide)).symm
  have e1 : (cs.set k (cs[k].1, u, cs[k].2.2)).map (·.1) = cs.map (·.1) := map_set_same cs k hk _ _ rfl
  have e3 : (cs.set k (cs[k].1, u, cs[k].2.2)).map (·.2.2) = cs.map (·.2.2) := map_set_same cs k hk _ _ rfl
  refine ⟨?_, ?_, ?_, ?_, h.d1, h.d2, h.d3, hg⟩
  · rw [Below.heap_setCell _ _ _ _ hb, List.length_set]; exact h.acc
  · rw [e1]; exact h.rl.same (Below.heap_setCell _ _ _ _ h.d1)
  · have := h.ru.set (i := k) (by simpa using hk) u
    rw [List.map_set]; exact this
  · rw [e3]; exact h.rp.same (Below.heap_setCell _ _ _ _ h.d3.symm)

theorem Ref.setUP {W : World} {r : RL} {cs : List Cnt} (h : Ref W r cs) {k : Nat} (hk : k < cs.length) (u p : Int) (hg : Good (cs.set k (cs[k].1, u, p))) (q : Nat) : Ref (((W.setCell ⟨r.gu, k, none⟩ (.int .i64 u)).drewN q).setCell ⟨r.gp, k, none⟩ (.int .i64 p)) r (cs.set k (cs[k].1, u, p)) := by
  have hb : r.Br ≠ r.gu := (h.ru.ne h.acc (by decide)).symm
  have hb2 : r.Br ≠ r.gp := (h.rp.ne h.acc (by decide)).symm
  have e1 : (cs.set k (cs[k].1, u, p)).map (·.1) = cs.map (·.1) := map_set_same cs k hk _ _ rfl
  have s1 : ∀ b, b ≠ r.gu → ((W.setCell ⟨r.gu, k, none⟩ (.int .i64 u)).drewN q).heap[b]? = W.heap[b]? := fun b hb => Below.heap_setCell _ _ _ _ hb
  refine ⟨?_, ?_, ?_, ?_, h.d1, h.d2, h.d3, hg⟩
  · rw [Below.heap_setCell _ _ _ _ hb2, s1 _ hb, List.length_set]; exact h.acc
  · rw [e1]; exact h.rl.same ((Below.heap_setCell _ _ _ _ h.d2).trans (s1 _ h.d1))
  · have := h.ru.set (i := k) (by simpa using hk) u
    rw [List.map_set]
    exact IntRow.same (W := W.setCell ⟨r.gu, k, none⟩ (.int .i64 u)) this (Below.heap_setCell _ _ _ _ h.d3)
  · have := (h.rp.same (W' := (W.setCell ⟨r.gu, k, none⟩ (.int .i64 u)).drewN q) (s1 _ h.d3.symm)).set (i := k) (by simpa using hk) p
    rw [List.map_set]
    exact this

theorem rtake_any (r : RL) (cs : List Cnt) (k n : Int) (w : World) (h : Ref w r cs) :
    Calls Try.prog 18 #[.pointer (some ⟨r.Br, 0, none⟩), .int .i64 k, .int .i64 n] w fun e w' => e = .returned (.int .i64 (takeE cs k n)) ∧ Only [r.gu, r.gp] w w' ∧ Ref w' r (takeC cs k n) := by
  by_cases hin : 0 ≤ k ∧ k < cs.length ∧ 0 ≤ n
  · obtain ⟨K, rfl⟩ := Int.eq_ofNat_of_zero_le hin.1
    have hK : K < cs.length := by omega
    by_cases hf : cs[K].1 - cs[K].2.1 < n
    · have e1 : takeE cs K n = 5 := by simp [takeE, hK, hin.2.2, hf]
      have e2 : takeC cs K n = cs := by simp [takeC, hK, hin.2.2, hf]
      rw [e1, e2]
      refine (rtake_full r cs K n w h hK hin.2.2 hf).mono ?_
      rintro e w' ⟨rfl, q, rfl⟩
      exact ⟨rfl, (Only.refl _ w).drewN q, h.drewN q⟩
    · have e1 : takeE cs K n = 0 := by simp [takeE, hK, hin.2.2, hf]
      have e2 : takeC cs K n = cs.set K (tk cs[K] n) := by simp [takeC, hK, hin.2.2, hf]
      have hg := h.good.tk K hK n hin.2.2 (by omega)
      rw [e1, e2]
      obtain ⟨Br, gl, gu, gp, cl, cu, cp⟩ := r
      by_cases hP : cs[K].2.2 < cs[K].2.1 + n
      · have et : tk cs[K] n = (cs[K].1, cs[K].2.1 + n, cs[K].2.1 + n) := by simp [tk, hP]
        rw [et] at hg ⊢
        refine (rtake_up Br gl gu gp cl cu cp cs K n cs[K].1 cs[K].2.1 cs[K].2.2 w h hK hin.2.2 rfl (by omega) hP).mono ?_
        rintro e w' ⟨rfl, q1, q2, rfl⟩
        exact ⟨rfl, ((((Only.refl _ w).drewN q1).set (by simp) _ _).drewN q2).set (by simp) _ _, (h.drewN q1).setUP hK _ _ hg q2⟩
      · have et : tk cs[K] n = (cs[K].1, cs[K].2.1 + n, cs[K].2.2) := by simp [tk, hP]
        rw [et] at hg ⊢
        refine (rtake_same Br gl gu gp cl cu cp cs K n cs[K].1 cs[K].2.1 cs[K].2.2 w h hK hin.2.2 rfl (by omega) hP).mono ?_
        rintro e w' ⟨rfl, q1, q2, rfl⟩
        exact ⟨rfl, (((Only.refl _ w).drewN q1).set (by simp) _ _).drewN q2, ((h.drewN q1).setU hK _ hg).drewN q2⟩
  · have e1 : takeE cs k n = 1 := by simp only [takeE, dif_neg hin]
    have e2 : takeC cs k n = cs := by simp only [takeC, dif_neg hin]
    rw [e1, e2]
    refine (rtake_arg r cs k n w h (by omega)).mono ?_
    rintro e w' ⟨rfl, rfl⟩
    exact ⟨rfl, Only.refl _ _, h⟩

theorem Good.gv {cs : List Cnt} (h : Good cs) (k : Nat) (hk : k < cs.length) (n : Int) : Good (cs.set k (gv cs[k] n)) := by
  obtain ⟨b1, b2, b3, b4⟩ := h.each cs[k] (List.getElem_mem hk)
  have := subS_le (b := n) b1
  refine h.set k _ ?_
  simp only [Ytiaebahmbgmajaa.gv]
  omega

theorem rgive_any (r : RL) (cs : List Cnt) (k n : Int) (w : World) (h : Ref w r cs) (hf : Fit n) :
    Calls Try.prog 20 #[.pointer (some ⟨r.Br, 0, none⟩), .int .i64 k, .int .i64 n] w fun e w' => e = .returned (.tuple #[]) ∧ Only [r.gu, r.gp] w w' ∧ Ref w' r (giveC cs k n) := by
  by_cases hin : 0 ≤ k ∧ k < cs.length ∧ 0 ≤ n
  · obtain ⟨K, rfl⟩ := Int.eq_ofNat_of_zero_le hin.1
    have hK : K < cs.length := by omega
    have e2 : giveC cs K n = cs.set K (Ytiaebahmbgmajaa.gv cs[K] n) := by simp [giveC, hK, hin.2.2]
    rw [e2]
    have hg := h.good.gv K hK n
    obtain ⟨Br, gl, gu, gp, cl, cu, cp⟩ := r
    refine (rgive_in Br gl gu gp cl cu cp cs K n _ w h hK hin.2.2 hf rfl).mono ?_
    rintro e w' ⟨rfl, q, rfl⟩
    exact ⟨rfl, ((Only.refl _ w).set (by simp) _ _).drewN q, (h.setU hK _ hg).drewN q⟩
  · have e2 : giveC cs k n = cs := by simp only [giveC, dif_neg hin]
    rw [e2]
    refine (rgive_arg r cs k n w h (by omega)).mono ?_
    rintro e w' ⟨rfl, rfl⟩
    exact ⟨rfl, Only.refl _ _, h⟩

set_option maxHeartbeats 1000000 in
theorem ints_any (v1 v2 : Value) (xs : List Int) (w : World) (h1 : Ints w v1 xs) (h2 : Ints w v2 xs) (hl : xs.length ≤ 1000) : Calls Try.prog 22 #[v1, v2] w fun e w' => e = .returned (.bool true) ∧ ∃ q, w' = w.drewN q := by
  obtain ⟨p1, d1, rfl, _, _, x1⟩ := h1
  obtain ⟨p2, d2, rfl, _, _, x2⟩ := h2
  have H1 : Hid (0 < xs.length → ∃ b o, p1 = some ⟨b, o, none⟩ ∧ ∀ i, i < xs.length → w.cell? ⟨b, o + i, none⟩ = some (.int .i64 (xs.getD i 0))) := x1
  have H2 : Hid (0 < xs.length → ∃ b o, p2 = some ⟨b, o, none⟩ ∧ ∀ i, i < xs.length → w.cell? ⟨b, o + i, none⟩ = some (.int .i64 (xs.getD i 0))) := x2
  clear x1 x2
  go_enter Try.func22, Try.ntmps22
  go_wp2
  go_loopw [5] (fun ii wr => ∃ i q : Nat, ii = .int .i64 i ∧ i ≤ xs.length ∧ wr = w.drewN q) (fun ii _ => xs.length - (intOf ii).toNat)
  case atStart => exact ⟨0, 0, rfl, Nat.zero_le _, rfl⟩
  case round =>
    obtain ⟨i, q, rfl, hi, hwr⟩ := hrel
    subst hwr
    by_cases hlt : i < xs.length
    · obtain ⟨b1, o1, e1, k1⟩ := H1.out (by omega)
      obtain ⟨b2, o2, e2, k2⟩ := H2.out (by omega)
      subst e1 e2
      have c1 := k1 i hlt
      have c2 := k2 i hlt
      obtain ⟨x, hx⟩ : ∃ x, xs.getD i 0 = x := ⟨_, rfl⟩
      rw [hx] at c1 c2
      clear hx k1 k2
      go_wp2
      go_quiet (fail)
      go_wp2
      go_roundw
      case rel => exact ⟨i + 1, _, by go_num, by omega, rfl⟩
      case measure => simp [intOf]; omega
    · go_wp2
      go_ret
      exact ⟨rfl, _, rfl⟩

end Go.Proofs.Ytiaebahmbgmajaa
