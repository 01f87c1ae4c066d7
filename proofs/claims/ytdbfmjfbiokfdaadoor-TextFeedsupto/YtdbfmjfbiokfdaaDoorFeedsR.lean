/-
  TextFeeds: for every slice of slices of bytes, where what is read is of bulk at most 1048576, the law returns true, and the argument reads behind the call as it read before.
-/
import Derived.Test.YtdbfmjfbiokfdaaDoorFeeds
import Derived.Test.YtdbfmjfbiokfdaaDoorJ
import Derived.Deep.Matrix
namespace Go.Proofs.YtdbfmjfbiokfdaaDoor
open Go.ChangeShapes Go.WideShapes Go.ChangeAt Go.RowKit

theorem bulk_lits_f {H : Type} (k : IntKind) : ∀ l : List Int, Rows.uptoBulkAll (lits k l : List (DataW H)) = l.length
  | [] => rfl
  | a :: r => by
    have ih := bulk_lits_f (H := H) k r
    have e : (lits k (a :: r) : List (DataW H)) = .lit (.int k a) :: lits k r := rfl
    rw [e, Rows.uptoBulkAll, ih, Rows.uptoBulk]
    · simp; omega
    · intro b h; cases h

/-- One row: at least one, and each of its numbers. -/
theorem bulk_row {H : Type} {k : IntKind} {A : Option Addr} {L : Nat} {zs : List Int} (h : A = none → zs = []) : (zs.take L).length + 1 ≤ Rows.uptoBulk (Go.Deep.intRow k A L zs : DataW H) := by
  cases A with
  | none => rw [h rfl]; simp [Go.Deep.intRow, Rows.uptoBulk]
  | some a =>
    show _ ≤ Rows.uptoBulk (.slice (lits k (zs.take L)) (lits k (zs.drop L)))
    rw [Rows.uptoBulk, bulk_lits_f]
    omega

theorem bulk_rows {H : Type} {k : IntKind} {A : Nat → Option Addr} {L : Nat → Nat} {Z : Nat → List Int} : ∀ rs : List Nat, (∀ r ∈ rs, A r = none → Z r = []) →
    ((rs.map fun r => (Z r).take (L r)).flatten.length + rs.length ≤ Rows.uptoBulkAll (rs.map fun r => (Go.Deep.intRow k (A r) (L r) (Z r) : DataW H)))
  | [], _ => by simp [Rows.uptoBulkAll]
  | r :: rs, h => by
    have ih := bulk_rows (H := H) (k := k) (L := L) rs fun q hq => h q (List.mem_cons_of_mem _ hq)
    have h1 := bulk_row (H := H) (k := k) (L := L r) (h r List.mem_cons_self)
    simp only [List.map_cons, List.flatten_cons, List.length_append, List.length_cons, Rows.uptoBulkAll]
    omega

/-- What is read of the chunks that came in. -/
theorem chunks_in {H : Type} {enc : TypeId × Value → H} {W : World} {v : Option Addr} {len cap : Nat} {d : DataW H} {p : List MemPlace}
    (h : DataW.Trod enc Tryd.prog W 0 (fun _ => true) true 31 (.slice v len cap) d p) : ∃ css, Chunks W (.slice v len cap) css ∧ css.flatten.length ≤ Rows.uptoBulk d ∧ css.length ≤ Rows.uptoBulk d := by
  obtain ⟨fuel, hf⟩ := h
  rcases Go.Deep.open_int_rows Tryd.underlying31 Tryd.underlying22 Tryd.underlying5 (by kernel_rfl) (by kernel_rfl) hf with ⟨hcs, _⟩ | ⟨a, len', cap', A, L, C, Z, hcs, _, hl, hm, hx, hr⟩
  · simp [Value.cells] at hcs
    obtain ⟨rfl, rfl, rfl⟩ := hcs
    exact ⟨[], ⟨none, 0, rfl, Nat.le_refl _, by decide, fun h => absurd h (by simp)⟩, by simp, by simp⟩
  · simp [Value.cells] at hcs
    obtain ⟨rfl, rfl, rfl⟩ := hcs
    obtain rfl := congrArg Prod.fst hx
    have hlen : ((List.range len).map fun r => (Z r).take (L r)).length = len := by simp
    have hb := bulk_rows (H := H) (k := .u8) (A := A) (L := L) (Z := Z) (List.range len) fun r hq e => by
      obtain ⟨_, _, _, h4, _, h6, _⟩ := hr r (by have := List.mem_range.1 hq; omega)
      exact List.length_eq_zero_iff.1 (h4.trans (h6 e))
    have hb2 : Rows.uptoBulkAll ((List.range len).map fun r => (Go.Deep.intRow .u8 (A r) (L r) (Z r) : DataW H)) ≤ Rows.uptoBulk (.slice ((List.range len).map fun r => (Go.Deep.intRow .u8 (A r) (L r) (Z r) : DataW H)) ((List.range (cap - len)).map fun j => Go.Deep.intRow .u8 (A (len + j)) (L (len + j)) (Z (len + j)))) := by
      rw [Rows.uptoBulk]; omega
    rw [List.length_range] at hb
    refine ⟨(List.range len).map fun r => (Z r).take (L r), ⟨some a, cap, by rw [hlen], by rw [hlen]; exact hl, by unfold maxLen at hm; omega, fun hp => ?_⟩, Nat.le_trans (by omega) hb2, by rw [hlen]; exact Nat.le_trans (by omega) hb2⟩
    rw [hlen] at hp
    obtain ⟨b, off, spot⟩ := a
    have hspot : spot = none := by simpa [Addr.add] using World.cell?_spot (hr 0 (by omega)).1
    subst hspot
    refine ⟨b, off, rfl, fun i hi => ?_⟩
    rw [hlen] at hi
    obtain ⟨h1, h2, h3, h4, h5, h6, h7⟩ := hr i (by omega)
    have hzl : ((Z i).take (L i)).length = L i := by rw [List.length_take]; omega
    refine ⟨_, by rw [← Go.WideShapes.add_plain]; exact h1, ?_⟩
    simp only [List.getElem_map, List.getElem_range]
    refine ⟨A i, C i, by rw [hzl], by omega, by unfold maxLen at h3; omega, fun y hy => ?_, fun hq => ?_⟩
    · have := bounds_u8 (h5 y (List.mem_of_mem_take hy))
      omega
    · rw [hzl] at hq ⊢
      cases hA : A i with
      | none => have := h6 hA; omega
      | some a' =>
        obtain ⟨b', o', rfl, hc⟩ := ints_at (a := a') (k := .u8) (zs := Z i) (fun j hj => (h7 a' hA).2 j (by omega)) (by omega)
        refine ⟨b', o', rfl, fun j hj => ?_⟩
        rw [hc j (by omega)]
        simp only [List.getD_eq_getElem?_getD]
        rw [List.getElem?_take, if_pos hj]

theorem textFeeds_contract (H : Type) (enc : TypeId × Value → H) (W : World) (base : Nat) (args : Array Value) (ds gs : List (DataW H)) (before : List MemPlace)
    (hval : ∀ (j : Nat) t v, Tryd.f5.params[j]? = some t → args[j]? = some v → Value.okWide Tryd.prog W .any base t v)
    (hW : DataW.Whole enc Tryd.prog Tryd.f5.params.toList Rows.textFeedsSpec.vars false W args.toList ds gs before)
    (hk : Rows.uptoSmall H (ds ++ gs) = true) :
    Calls Tryd.prog 5 args W fun e W' => ∃ v, e = .returned v ∧ Rows.textFeedsSpec.post enc Tryd.prog Tryd.f5 false true false false W args v W' := by
  have hW' := hW
  obtain ⟨p, q, hA0, hV, rfl, hfz, hnd⟩ := hW
  have hA : DataW.TrodAll enc Tryd.prog W 0 (fun _ => true) true Tryd.f5.params.toList args.toList ds p := hA0
  rw [Tryd.params5] at hA hval
  obtain ⟨v0, vs0, d0, ds0, p0, q0, hargs, rfl, rfl, h0, r0⟩ := trodAll_cons hA
  obtain ⟨rfl, rfl, rfl⟩ := trodAll_nil r0
  obtain rfl : args = #[v0] := by cases args; simp_all
  obtain ⟨rfl, rfl⟩ := trodVars_none hV
  obtain ⟨a0, len0, cap0, rfl⟩ := okWide_slice Tryd.underlying31 (hval 0 31 v0 rfl rfl)
  have k0 := h0
  have lt0 : ∀ x ∈ p0, x.block < W.heap.size := by obtain ⟨m, hm⟩ := k0; exact DataW.trod_lt m _ _ _ hm
  obtain ⟨css, hC, hb0, hb1⟩ := chunks_in h0
  have hsum := of_decide_eq_true hk
  simp only [List.append_nil, Rows.uptoBulkAll] at hsum
  clear hA0
  refine (textFeeds_main _ css W hC (by omega) (by omega)).mono fun e W' ⟨he, bel⟩ => ?_
  subst he
  exact ⟨_, rfl, _, _, _, [], _, [], hW', trodAll_mk1 (shut_bool Tryd.underlying4 _), (trodAll_cons_mk (Below.trod laidOut (by kernel_rfl) (of_decide_eq_true (by kernel_rfl)) k0 bel lt0) trodAll_mk0), rfl, bel.frame _, fun h => by cases h⟩

theorem textFeeds_reads (os : Os) {H : Type} (enc : TypeId × Value → H) : ∃ places, DataW.whole enc Tryd.prog ((laidWorld os).forCall (fun _ _ => 0) ⟨#[], #[.slice none 0 0], []⟩).memory Tryd.f5.params.toList Rows.textFeedsSpec.vars false #[Value.slice none 0 0].toList 8 = some ([.nil], [], places) :=
  ⟨[], by kernel_rfl⟩

set_option maxRecDepth 100000 in
theorem textFeeds_lifted (os : Os) (started : os.Started) (H : Type) (enc : TypeId × Value → H) (F : Stop.Interp) :
    ReturnsInHanded {} Tryd.checked os 5 .any ((Rows.OpenSpec.upto Rows.textFeedsSpec).preRow enc Tryd.prog Tryd.f5 Rows.textFeedsUptoRow.domain false Rows.textFeedsUptoRow.laid) (((Rows.OpenSpec.upto Rows.textFeedsSpec).at F).post enc Tryd.prog Tryd.f5 false true false false) := by
  obtain ⟨places, hx⟩ := textFeeds_reads os enc
  refine returnsInHanded_of_row (C := Tryd.checked) (s := Rows.OpenSpec.upto Rows.textFeedsSpec) own started (by kernel_rfl) Tryd.func5
    (witness_row_at (enc := enc) (C := Tryd.checked) false (laidWorld os) #[.slice none 0 0] rfl (by kernel_rfl) (by kernel_rfl) (by kernel_rfl)
      (OpenSpec.preRow_of_cond 8 hx (by kernel_rfl) (fun k hk => by cases hk; kernel_rfl) (by kernel_rfl) (laid_met os _))) ?_
  intro W base args ds gs before hval hW _ hcond _ _ _ _
  exact textFeeds_contract H enc W base args ds gs before hval hW (hcond _ rfl)

theorem textFeeds_said : Rows.TextFeedsUptoSaid :=
  OpenClaim.holds_of_cond 5 Tryd.f5 rfl rfl rfl rfl rfl rfl rfl ⟨rfl, rfl, rfl, rfl, rfl⟩ rfl rfl rfl rfl rfl (by kernel_rfl) Tryd.func5 (by kernel_rfl)
    (of_decide_eq_true (by kernel_rfl)) (by unfold Func.isWrapper; first | (rw [if_pos (by decide +kernel)]; kernel_rfl) | (rw [if_neg (by decide +kernel)]; exact ⟨rfl, rfl⟩))
    (fun os started H enc _ F => by rw [OpenClaim.pre_eq_preRow]; exact textFeeds_lifted os started H enc F)

theorem textFeeds_plain (f : FuncId) (fn : Func) (hf : Tryd.pinned.checked.prog.funcNamed "assize/assizelaw01.TextFeeds" = some f) (hfn : Tryd.pinned.checked.prog.funcs[f]? = some fn) :
    false = Tryd.pinned.checked.prog.looks [] ∧ ∀ (j : Nat) t, fn.params[j]? = some t → Tryd.pinned.checked.prog.wantsStandIn t = false := by
  obtain rfl : f = 5 := Option.some.inj ((show Tryd.prog.funcNamed "assize/assizelaw01.TextFeeds" = some 5 by kernel_rfl).symm.trans hf) |>.symm
  obtain rfl : fn = Tryd.f5 := (Option.some.inj (Tryd.func5.symm.trans hfn)).symm
  refine ⟨by kernel_rfl, fun j t ht => ?_⟩
  rw [Tryd.params5] at ht
  have hm : t ∈ [31] := by simpa using Array.mem_of_getElem? ht
  have hall : ([31].all fun u => !Tryd.prog.wantsStandIn u) = true := by kernel_rfl
  exact (show Tryd.prog.wantsStandIn t = false by simpa using List.all_eq_true.1 hall t hm)

theorem textFeeds_card : Rows.TextFeedsUptoCardSaid :=
  Claim7.holds_tied_plain_at .later [] _ _ _ _ textFeeds_said (fun _ h => by cases h) (by kernel_rfl) (fun _ h => by cases h) textFeedsUpto_row_tie rfl ⟨rfl, rfl⟩ (by kernel_rfl) rfl textFeeds_plain (by kernel_rfl)

end Go.Proofs.YtdbfmjfbiokfdaaDoor
