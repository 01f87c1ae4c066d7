/-
  TextLong: for every number, byte and cut the law returns true, and the arguments read behind the call as they read before.
-/
import Derived.Test.YtdbfmjfbiokfdaaDoorLong
namespace Go.Proofs.YtdbfmjfbiokfdaaDoor
open Go.ChangeShapes Go.WideShapes Go.ChangeAt Go.RowKit

set_option maxRecDepth 100000 in
set_option maxHeartbeats 1000000 in
theorem textLong_out (n c cut : Int) (w : World) (h : n < 0 ∨ 70000 < n ∨ c = 10) :
    Calls Tryd.prog 6 #[.int .i64 n, .int .u8 c, .int .i64 cut] w fun e w' => e = .returned (.bool true) ∧ Below w.heap.size w w' := by
  by_cases h1 : n < 0
  · go_enter Tryd.func6, Tryd.ntmps6
    go_wp2_with (go_at_call 10; refine (alive_any _).mono ?_; rintro e w' ⟨rfl, hb⟩)
    go_ret
    exact ⟨rfl, hb⟩
  · by_cases h2 : 70000 < n
    · go_enter Tryd.func6, Tryd.ntmps6
      go_wp2_with (go_at_call 10; refine (alive_any _).mono ?_; rintro e w' ⟨rfl, hb⟩)
      go_ret
      exact ⟨rfl, hb⟩
    · have h3 : (c == 10) = true := by rw [beq_iff_eq]; omega
      clear h
      go_enter Tryd.func6, Tryd.ntmps6
      go_wp2_with (go_at_call 10; refine (alive_any _).mono ?_; rintro e w' ⟨rfl, hb⟩)
      go_ret
      exact ⟨rfl, hb⟩

theorem textLong_walk (n c cut : Int) (w : World) (hc : 0 ≤ c ∧ c ≤ 255) :
    Calls Tryd.prog 6 #[.int .i64 n, .int .u8 c, .int .i64 cut] w fun e w' => e = .returned (.bool true) ∧ Below w.heap.size w w' := by
  by_cases h : n < 0 ∨ 70000 < n ∨ c = 10
  · exact textLong_out n c cut w h
  · obtain ⟨N, rfl⟩ := Int.eq_ofNat_of_zero_le (show 0 ≤ n by omega)
    have hN : N ≤ 70000 := by omega
    have h10 : c ≠ 10 := by omega
    have hK : ∃ K : Nat, (0 < N ∧ 0 < cut ∧ cut % (N : Int) = K ∧ K < N) ∨ (N = 0 ∧ K = 0) ∨ (0 < N ∧ cut ≤ 0 ∧ K = 0) := by
      by_cases h0 : N = 0
      · exact ⟨0, .inr (.inl ⟨h0, rfl⟩)⟩
      · by_cases hcut : 0 < cut
        · have h1 := Int.emod_nonneg cut (show (N : Int) ≠ 0 by omega)
          have h2 := Int.emod_lt_of_pos cut (show (0 : Int) < N by omega)
          exact ⟨(cut % (N : Int)).toNat, .inl ⟨by omega, hcut, by omega, by omega⟩⟩
        · exact ⟨0, .inr (.inr ⟨by omega, by omega, rfl⟩)⟩
    obtain ⟨K, hK⟩ := hK
    by_cases hl : 65536 < N
    · exact textLong_main N K c cut w hN hc h10 _ _ (long_over c N hl) (.inl ⟨hl, rfl, rfl⟩) hK
    · by_cases hb : 127 < c ∧ 0 < N
      · exact textLong_main N K c cut w hN hc h10 _ _ (long_bad c N (by omega) hb.1 hb.2) (.inr (.inl ⟨by omega, hb.1, hb.2, rfl, rfl⟩)) hK
      · exact textLong_main N K c cut w hN hc h10 _ _ (long_good c N (by omega) (by omega)) (.inr (.inr ⟨by omega, by omega, rfl, rfl⟩)) hK

theorem textLong_contract (H : Type) (enc : TypeId × Value → H) (W : World) (base : Nat) (args : Array Value) (ds gs : List (DataW H)) (before : List MemPlace)
    (hval : ∀ (j : Nat) t v, Tryd.f6.params[j]? = some t → args[j]? = some v → Value.okWide Tryd.prog W .any base t v)
    (hW : DataW.Whole enc Tryd.prog Tryd.f6.params.toList Rows.textLongSpec.vars false W args.toList ds gs before) :
    Calls Tryd.prog 6 args W fun e W' => ∃ v, e = .returned v ∧ Rows.textLongSpec.post enc Tryd.prog Tryd.f6 false true false false W args v W' := by
  have hW' := hW
  obtain ⟨p, q, hA0, hV, rfl, hfz, hnd⟩ := hW
  have hA : DataW.TrodAll enc Tryd.prog W 0 (fun _ => true) true Tryd.f6.params.toList args.toList ds p := hA0
  rw [Tryd.params6] at hA hval
  obtain ⟨v0, vs0, d0, ds0, p0, q0, hargs, rfl, rfl, h0, r0⟩ := trodAll_cons hA
  obtain ⟨v1, vs1, d1, ds1, p1, q1, rfl, rfl, rfl, h1, r1⟩ := trodAll_cons r0
  obtain ⟨v2, vs2, d2, ds2, p2, q2, rfl, rfl, rfl, h2, r2⟩ := trodAll_cons r1
  obtain ⟨rfl, rfl, rfl⟩ := trodAll_nil r2
  obtain rfl : args = #[v0, v1, v2] := by cases args; simp_all
  obtain ⟨rfl, rfl⟩ := trodVars_none hV
  obtain ⟨n, rfl, rfl, rfl, wn⟩ := open_int Tryd.underlying3 (hval 0 3 v0 rfl rfl) h0
  obtain ⟨c, rfl, rfl, rfl, wc⟩ := open_int Tryd.underlying5 (hval 1 5 v1 rfl rfl) h1
  obtain ⟨cut, rfl, rfl, rfl, wcut⟩ := open_int Tryd.underlying3 (hval 2 3 v2 rfl rfl) h2
  have hc := bounds_u8 wc
  clear hA0
  refine (textLong_walk n c cut W (by omega)).mono fun e W' ⟨he, bel⟩ => ?_
  subst he
  exact ⟨_, rfl, _, _, _, [], _, [], hW', trodAll_mk1 (shut_bool Tryd.underlying4 _), (trodAll_cons_mk (shut_int Tryd.underlying3 wn) (trodAll_cons_mk (shut_int Tryd.underlying5 wc) (trodAll_cons_mk (shut_int Tryd.underlying3 wcut) trodAll_mk0))), rfl, bel.frame _, fun h => by cases h⟩

theorem textLong_reads (os : Os) {H : Type} (enc : TypeId × Value → H) : ∃ places, DataW.whole enc Tryd.prog ((laidWorld os).forCall (fun _ _ => 0) ⟨#[], #[.int .i64 0, .int .u8 0, .int .i64 0], []⟩).memory Tryd.f6.params.toList Rows.textLongSpec.vars false #[Value.int .i64 0, .int .u8 0, .int .i64 0].toList 8 = some ([.lit (.int .i64 0), .lit (.int .u8 0), .lit (.int .i64 0)], [], places) :=
  ⟨[], by kernel_rfl⟩

set_option maxRecDepth 100000 in
theorem textLong_lifted (os : Os) (started : os.Started) (H : Type) (enc : TypeId × Value → H) (F : Stop.Interp) :
    ReturnsInHanded {} Tryd.checked os 6 .any ((OpenSpec.ofChange Rows.textLongSpec).preRow enc Tryd.prog Tryd.f6 Rows.textLongRow.domain false Rows.textLongRow.laid) (((OpenSpec.ofChange Rows.textLongSpec).at F).post enc Tryd.prog Tryd.f6 false true false false) := by
  obtain ⟨places, hx⟩ := textLong_reads os enc
  refine returnsInHanded_of_row (C := Tryd.checked) (s := OpenSpec.ofChange Rows.textLongSpec) own started (by kernel_rfl) Tryd.func6
    (witness_row_at (enc := enc) (C := Tryd.checked) false (laidWorld os) #[.int .i64 0, .int .u8 0, .int .i64 0] rfl (by kernel_rfl) (by kernel_rfl) (by kernel_rfl)
      (OpenSpec.preRow_of_cond 8 hx (by kernel_rfl) (fun k hk => by cases hk) (by kernel_rfl) (laid_met os _))) ?_
  intro W base args ds gs before hval hW _ _ _ _ _ _
  exact textLong_contract H enc W base args ds gs before hval hW

theorem textLong_said : Rows.TextLongSaid :=
  OpenClaim.holds_of_cond 6 Tryd.f6 rfl rfl rfl rfl rfl rfl rfl ⟨rfl, rfl, rfl, rfl, rfl⟩ rfl rfl rfl rfl rfl (by kernel_rfl) Tryd.func6 (by kernel_rfl)
    (of_decide_eq_true (by kernel_rfl)) (by unfold Func.isWrapper; first | (rw [if_pos (by decide +kernel)]; kernel_rfl) | (rw [if_neg (by decide +kernel)]; exact ⟨rfl, rfl⟩))
    (fun os started H enc _ F => by rw [OpenClaim.pre_eq_preRow]; exact textLong_lifted os started H enc F)

theorem textLong_plain (f : FuncId) (fn : Func) (hf : Tryd.pinned.checked.prog.funcNamed "assize/assizelaw01.TextLong" = some f) (hfn : Tryd.pinned.checked.prog.funcs[f]? = some fn) :
    false = Tryd.pinned.checked.prog.looks [] ∧ ∀ (j : Nat) t, fn.params[j]? = some t → Tryd.pinned.checked.prog.wantsStandIn t = false := by
  obtain rfl : f = 6 := Option.some.inj ((show Tryd.prog.funcNamed "assize/assizelaw01.TextLong" = some 6 by kernel_rfl).symm.trans hf) |>.symm
  obtain rfl : fn = Tryd.f6 := (Option.some.inj (Tryd.func6.symm.trans hfn)).symm
  refine ⟨by kernel_rfl, fun j t ht => ?_⟩
  rw [Tryd.params6] at ht
  have hm : t ∈ [3, 5, 3] := by simpa using Array.mem_of_getElem? ht
  have hall : ([3, 5, 3].all fun u => !Tryd.prog.wantsStandIn u) = true := by kernel_rfl
  exact (show Tryd.prog.wantsStandIn t = false by simpa using List.all_eq_true.1 hall t hm)

theorem textLong_card : Rows.TextLongCardSaid :=
  Claim7.holds_tied_plain_at .later [] _ _ _ _ textLong_said (fun _ h => by cases h) (by kernel_rfl) (fun _ h => by cases h) textLong_row_tie rfl ⟨rfl, rfl⟩ (by kernel_rfl) rfl textLong_plain (by kernel_rfl)

end Go.Proofs.YtdbfmjfbiokfdaaDoor
