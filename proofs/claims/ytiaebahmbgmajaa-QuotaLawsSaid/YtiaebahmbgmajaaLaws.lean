/-
  QuotaLaws: for every three numbers the law returns true, and they read behind the call as they read before.
-/
import Derived.Test.YtiaebahmbgmajaaNumbers
namespace Go.Proofs.Ytiaebahmbgmajaa
open Go.ChangeShapes Go.WideShapes Go.ChangeAt Go.RowKit

theorem addS_fit (a b : Int) : Fit (addS a b) := by
  have := lo_nn a
  have := lo_nn b
  unfold addS Fit
  split <;> omega
theorem lo_addS (a b : Int) : lo (addS a b) = addS a b := by
  have := lo_nn a
  have := lo_nn b
  refine lo_pos ?_
  unfold addS
  split <;> omega
theorem addS_comm (a b : Int) : addS a b = addS b a := by unfold addS; rw [Int.add_comm]
theorem mulS_comm (a b : Int) : mulS a b = mulS b a := by unfold mulS; rw [Int.mul_comm]
theorem addS_assoc (a b c : Int) : addS (addS a b) c = addS a (addS b c) := by
  have h1 := lo_nn a
  have h2 := lo_nn b
  have h3 := lo_nn c
  rw [show addS (addS a b) c = if 9223372036854775807 < addS a b + lo c then 9223372036854775807 else addS a b + lo c by rw [addS, lo_addS]]
  rw [show addS a (addS b c) = if 9223372036854775807 < lo a + addS b c then 9223372036854775807 else lo a + addS b c by rw [addS, lo_addS]]
  unfold addS
  (repeat' split) <;> omega
theorem addS_zero {a : Int} (h : Fit a) : addS a 0 = lo a := by
  have := lo_nn a
  have := lo_le h
  unfold addS
  rw [show lo 0 = 0 by decide]
  split <;> omega
theorem addS_ge {a b : Int} (h : Fit a) : addS a 0 ≤ addS a b := by
  have := lo_nn b
  have := lo_le h
  rw [addS_zero h]
  unfold addS
  split <;> omega
theorem subS_le0 {a b : Int} (h : Fit a) : subS a b ≤ addS a 0 := by
  have := lo_nn a
  have := lo_nn b
  rw [addS_zero h]
  unfold subS
  split <;> omega
theorem subS_nn (a b : Int) : 0 ≤ subS a b := by
  have := lo_nn b
  unfold subS
  split <;> omega

set_option maxHeartbeats 1000000 in
theorem laws_walk (a b c : Int) (w : World) (ha : Fit a) (hb : Fit b) (hc : Fit c) :
    Calls Try.prog 6 #[.int .i64 a, .int .i64 b, .int .i64 c] w fun e w' => e = .returned (.bool true) ∧ Below w.heap.size w w' := by
  have e1 : (addS a b == addS b a) = true := by rw [beq_iff_eq]; exact addS_comm a b
  have e2 : (mulS a b == mulS b a) = true := by rw [beq_iff_eq]; exact mulS_comm a b
  have e3 : (addS (addS a b) c == addS a (addS b c)) = true := by rw [beq_iff_eq]; exact addS_assoc a b c
  have e4 := addS_ge (b := b) ha
  have e5 := subS_le0 (b := b) ha
  have e6 := subS_nn a b
  have f1 := addS_fit a b
  have f2 := addS_fit b c
  have f0 : Fit 0 := by unfold Fit; omega
  go_enter Try.func6, Try.ntmps6
  go_wp2_with (first
    | (go_at_call 8; refine (add_any _ _ _ (by assumption) (by assumption)).mono ?_; rintro e w' ⟨rfl, rfl⟩)
    | (go_at_call 10; refine (sub_any _ _ _ (by assumption) (by assumption)).mono ?_; rintro e w' ⟨rfl, rfl⟩)
    | (go_at_call 12; refine (mul_any _ _ _).mono ?_; rintro e w' ⟨rfl, rfl⟩)
    | (go_at_call 14; refine (alive_any _).mono ?_; rintro e w' ⟨rfl, hbel⟩))
  go_ret
  exact ⟨rfl, hbel⟩

set_option maxRecDepth 100000 in
theorem laws_lifted (os : Os) (started : os.Started) (H : Type) (enc : TypeId × Value → H) :
    ReturnsInHanded {} Try.checked os 6 .any (Rows.quotaLawsSpec.pre6 enc Try.prog Try.f6 Rows.quotaLawsRow.domain false) (Rows.quotaLawsSpec.post enc Try.prog Try.f6 false true false false) := by
  refine returnsInHanded_of_change (C := Try.checked) own started (by kernel_rfl) Try.func6
    (ChangeSpec.witness6 (enc := enc) (C := Try.checked) false ⟨#[], #[.int .i64 0, .int .i64 0, .int .i64 0], []⟩ 8 (by kernel_rfl) (by kernel_rfl) (by kernel_rfl) (by kernel_rfl)) ?_
  intro W base args ds gs before hval0 hW hcnd _
  have hval : ∀ (j : Nat) t v, Try.f6.params[j]? = some t → args[j]? = some v → Value.okWide Try.prog W .any base t v := hval0
  have hW' := hW
  obtain ⟨p, q, hA0, hV, rfl, hfz, hnd⟩ := hW
  have hA : DataW.TrodAll enc Try.prog W 0 (fun _ => true) true Try.f6.params.toList args.toList ds p := hA0
  rw [Try.params6] at hA hval
  obtain ⟨v0, vs0, d0, ds0, p0, q0, hargs, rfl, rfl, h0, r0⟩ := trodAll_cons hA
  obtain ⟨v1, vs1, d1, ds1, p1, q1, rfl, rfl, rfl, h1, r1⟩ := trodAll_cons r0
  obtain ⟨v2, vs2, d2, ds2, p2, q2, rfl, rfl, rfl, h2, r2⟩ := trodAll_cons r1
  obtain ⟨rfl, rfl, rfl⟩ := trodAll_nil r2
  obtain rfl : args = #[v0, v1, v2] := by cases args; simp_all
  obtain ⟨rfl, rfl⟩ := trodVars_none hV
  obtain ⟨a0, rfl, rfl, rfl, w0⟩ := open_int Try.underlying3 (hval 0 3 v0 rfl rfl) h0
  obtain ⟨a1, rfl, rfl, rfl, w1⟩ := open_int Try.underlying3 (hval 1 3 v1 rfl rfl) h1
  obtain ⟨a2, rfl, rfl, rfl, w2⟩ := open_int Try.underlying3 (hval 2 3 v2 rfl rfl) h2
  clear hA0 hval0
  refine (laws_walk a0 a1 a2 W (fit_of w0) (fit_of w1) (fit_of w2)).mono fun e W' ⟨he, bel⟩ => ?_
  subst he
  exact ⟨_, rfl, _, _, _, [], _, [], hW', trodAll_mk1 (shut_bool Try.underlying4 _), (trodAll_cons_mk (shut_int Try.underlying3 w0) (trodAll_cons_mk (shut_int Try.underlying3 w1) (trodAll_cons_mk (shut_int Try.underlying3 w2) trodAll_mk0))), rfl, bel.frame _, fun h => by cases h⟩

theorem quotaLaws_holds : Rows.QuotaLawsSaid :=
  OpenClaim.holds_of_wide 6 Try.f6 rfl rfl rfl rfl rfl rfl rfl ⟨rfl, rfl, rfl, rfl, rfl⟩ rfl rfl rfl rfl rfl (by kernel_rfl) Try.func6 (by kernel_rfl)
    (of_decide_eq_true (by kernel_rfl)) (by unfold Func.isWrapper; first | (rw [if_pos (by decide +kernel)]; kernel_rfl) | (rw [if_neg (by decide +kernel)]; exact ⟨rfl, rfl⟩))
    (fun os started H enc _ => laws_lifted os started H enc)

end Go.Proofs.Ytiaebahmbgmajaa
