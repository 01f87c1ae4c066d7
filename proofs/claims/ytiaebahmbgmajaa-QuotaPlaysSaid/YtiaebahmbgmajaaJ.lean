/-
  The walks of the document's Take and Give where they change the account.
-/
import Derived.Test.YtiaebahmbgmajaaI
namespace Go.Proofs.Ytiaebahmbgmajaa
open Go.RowKit

set_option maxHeartbeats 1000000 in
theorem rtake_up (Br gl gu gp cl cu cp : Nat) (cs : List Cnt) (k : Nat) (n L U P : Int) (w : World) (h : Ref w ⟨Br, gl, gu, gp, cl, cu, cp⟩ cs) (hk : k < cs.length) (hn : 0 ≤ n) (hc : cs[k] = (L, U, P)) (hf : n ≤ L - U) (hP : P < U + n) :
    Calls Try.prog 18 #[.pointer (some ⟨Br, 0, none⟩), .int .i64 k, .int .i64 n] w fun e w' => e = .returned (.int .i64 0) ∧ ∃ q1 q2, w' = (((w.drewN q1).setCell ⟨gu, k, none⟩ (.int .i64 (U + n))).drewN q2).setCell ⟨gp, k, none⟩ (.int .i64 (U + n)) := by
  have c0 := h.c0
  have c1 := h.c1
  have c2 := h.c2
  have l0 := h.lc hk
  have u0 := h.uc hk
  have p0 := h.pc hk
  have fu := h.ru.fr k
  have fp := h.rp.fr k
  have b := h.good.each cs[k] (List.getElem_mem hk)
  rw [hc] at l0 u0 p0 b
  have hnu : gu ≠ Br := h.ru.ne h.acc (by decide)
  have hnp : gp ≠ Br := h.rp.ne h.acc (by decide)
  have hup : gu ≠ gp := h.d3
  have hlu : gl ≠ gu := h.d1
  have hnu' := hnu.symm
  have hnp' := hnp.symm
  have hup' := hup.symm
  simp only at c0 c1 c2 l0 u0 p0 fu fp b
  clear hc
  go_enter Try.func18, Try.ntmps18
  go_wp2_with (go_at_call 28; refine (is_in ⟨Br, gl, gu, gp, cl, cu, cp⟩ cs k _ h hk).mono ?_; rintro e w' ⟨rfl, rfl⟩)
  go_quiet (fail)
  go_wp2
  clear h
  go_region
  all_goals go_wp2
  all_goals go_quiet (fail)
  all_goals go_wp2
  all_goals go_region
  all_goals go_wp2
  all_goals go_ret
  all_goals exact ⟨rfl, _, _, rfl⟩

set_option maxHeartbeats 1000000 in
theorem rtake_same (Br gl gu gp cl cu cp : Nat) (cs : List Cnt) (k : Nat) (n L U P : Int) (w : World) (h : Ref w ⟨Br, gl, gu, gp, cl, cu, cp⟩ cs) (hk : k < cs.length) (hn : 0 ≤ n) (hc : cs[k] = (L, U, P)) (hf : n ≤ L - U) (hP : ¬ P < U + n) :
    Calls Try.prog 18 #[.pointer (some ⟨Br, 0, none⟩), .int .i64 k, .int .i64 n] w fun e w' => e = .returned (.int .i64 0) ∧ ∃ q1 q2, w' = ((w.drewN q1).setCell ⟨gu, k, none⟩ (.int .i64 (U + n))).drewN q2 := by
  have c0 := h.c0
  have c1 := h.c1
  have c2 := h.c2
  have l0 := h.lc hk
  have u0 := h.uc hk
  have p0 := h.pc hk
  have fu := h.ru.fr k
  have fp := h.rp.fr k
  have b := h.good.each cs[k] (List.getElem_mem hk)
  rw [hc] at l0 u0 p0 b
  have hnu : gu ≠ Br := h.ru.ne h.acc (by decide)
  have hnp : gp ≠ Br := h.rp.ne h.acc (by decide)
  have hup : gu ≠ gp := h.d3
  have hlu : gl ≠ gu := h.d1
  have hnu' := hnu.symm
  have hnp' := hnp.symm
  have hup' := hup.symm
  simp only at c0 c1 c2 l0 u0 p0 fu fp b
  clear hc
  go_enter Try.func18, Try.ntmps18
  go_wp2_with (go_at_call 28; refine (is_in ⟨Br, gl, gu, gp, cl, cu, cp⟩ cs k _ h hk).mono ?_; rintro e w' ⟨rfl, rfl⟩)
  go_quiet (fail)
  go_wp2
  clear h
  go_region
  all_goals go_wp2
  all_goals go_quiet (fail)
  all_goals go_wp2
  all_goals go_ret
  all_goals exact ⟨rfl, _, _, rfl⟩

set_option maxHeartbeats 2000000 in
theorem rgive_in (Br gl gu gp cl cu cp : Nat) (cs : List Cnt) (k : Nat) (n U : Int) (w : World) (h : Ref w ⟨Br, gl, gu, gp, cl, cu, cp⟩ cs) (hk : k < cs.length) (hn : 0 ≤ n) (hf : Fit n) (hc : cs[k].2.1 = U) :
    Calls Try.prog 20 #[.pointer (some ⟨Br, 0, none⟩), .int .i64 k, .int .i64 n] w fun e w' => e = .returned (.tuple #[]) ∧ ∃ q, w' = (w.setCell ⟨gu, k, none⟩ (.int .i64 (subS U n))).drewN q := by
  have c1 := h.c1
  have u0 := h.uc hk
  have fu := h.ru.fr k
  have b := h.good.each cs[k] (List.getElem_mem hk)
  rw [hc] at u0 b
  have hU : Fit U := by unfold Fit; omega
  have hnu : gu ≠ Br := h.ru.ne h.acc (by decide)
  have hnu' := hnu.symm
  simp only at c1 u0 fu b
  clear hc b
  go_enter Try.func20, Try.ntmps20
  go_wp2_with (go_at_call 28; refine (is_in ⟨Br, gl, gu, gp, cl, cu, cp⟩ cs k _ h hk).mono ?_; rintro e w' ⟨rfl, rfl⟩)
  clear h
  go_region_with (go_at_call 11; refine (rsub_any _ _ _ hU hf).mono ?_; rintro e w' ⟨rfl, rfl⟩)
  all_goals go_wp2
  all_goals go_end0
  all_goals exact ⟨rfl, 1, rfl⟩

end Go.Proofs.Ytiaebahmbgmajaa
