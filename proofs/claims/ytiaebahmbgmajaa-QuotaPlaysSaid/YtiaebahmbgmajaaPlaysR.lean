/-
  QuotaPlays: for every limits, script and kind the law returns true, and the arguments read behind the call as they read before.
-/
import Derived.Test.YtiaebahmbgmajaaPlaysM
import Derived.Deep.Slices
import Derived.Lib.SmallJoins
namespace Go.Proofs.Ytiaebahmbgmajaa
open Go.ChangeShapes Go.WideShapes Go.ChangeAt Go.RowKit

theorem Try.cells34 : Try.prog.cellsOf 34 = 4 := by kernel_rfl
theorem Try.cells25 : Try.prog.cellsOf 25 = 1 := by kernel_rfl

/-- What is read of one call. -/
def OpAt (W : World) (b o i : Nat) (op : OpV) : Prop :=
  W.cell? ⟨b, o + i * 4, none⟩ = some (.int .i64 op.kd) ∧ W.cell? ⟨b, o + i * 4 + 1, none⟩ = some (.int .i64 op.k) ∧ W.cell? ⟨b, o + i * 4 + 2, none⟩ = some (.int .i64 op.n) ∧ W.cell? ⟨b, o + i * 4 + 3, none⟩ = some op.lv ∧ Ints W op.lv op.ls ∧ Fit op.n

theorem list4 {cs : List Value} (h : cs.length = 4) : ∃ c0 c1 c2 c3, cs = [c0, c1, c2, c3] := by
  match cs, h with
  | [c0, c1, c2, c3], _ => exact ⟨c0, c1, c2, c3, rfl⟩

theorem ints_cell {H : Type} {enc : TypeId × Value → H} {W : World} {v : Value} {fuel : Nat} {x : DataW H × List MemPlace}
    (h : DataW.trod enc Try.prog W 0 (fun _ => true) true fuel 25 [v] = some x) : ∃ xs, Ints W v xs := by
  rcases open_ints Try.underlying25 Try.underlying3 Try.cells3 h with ⟨hcs, hx⟩ | ⟨a, l, c, zs, hcs, _, hl, hm, hz, hx, hcell, hwz⟩
  · simp only [List.cons.injEq, and_true] at hcs
    subst hcs
    exact ⟨[], none, 0, rfl, Nat.le_refl _, by decide, fun h => absurd h (by simp)⟩
  · simp only [List.cons.injEq, and_true] at hcs
    subst hcs
    simp only [if_true] at hz
    have hlen : (zs.take l).length = l := by rw [List.length_take]; omega
    refine ⟨zs.take l, some a, c, by rw [hlen], by omega, by unfold maxLen at hm; omega, fun hp => ?_⟩
    rw [hlen] at hp ⊢
    obtain ⟨b, o, rfl, hc⟩ := ints_at hcell (by omega)
    refine ⟨b, o, rfl, fun i hi => ?_⟩
    rw [hc i (by omega)]
    simp only [List.getD_eq_getElem?_getD]
    rw [List.getElem?_take, if_pos hi]

/-- What is read of a slice of calls that came in. -/
theorem script_in {H : Type} {enc : TypeId × Value → H} {W : World} {a : Option Addr} {l c : Nat} {d : DataW H} {p : List MemPlace}
    (h : DataW.Trod enc Try.prog W 0 (fun _ => true) true 26 (.slice a l c) d p) : ∃ ops, Script W (.slice a l c) ops := by
  obtain ⟨fuel, hf⟩ := h
  rcases DataW.trod_slice Try.underlying26 hf with ⟨hcs, hx⟩ | ⟨x, l', c', elems, rest, n, _, hcs, hx, _, hl, hm, hel, hat, _⟩
  · simp [Value.cells] at hcs
    obtain ⟨rfl, rfl, rfl⟩ := hcs
    exact ⟨[], none, 0, rfl, Nat.le_refl _, by decide, fun h => absurd h (by simp)⟩
  · simp [Value.cells] at hcs
    obtain ⟨rfl, rfl, rfl⟩ := hcs
    rw [Try.cells34] at hat
    have each0 : ∀ i, i < l → ∃ c0 c1 c2 v, W.cell? ((x.add (i * 4)).add 0) = some (.int .i64 c0) ∧ W.cell? ((x.add (i * 4)).add 1) = some (.int .i64 c1) ∧ W.cell? ((x.add (i * 4)).add 2) = some (.int .i64 c2) ∧ W.cell? ((x.add (i * 4)).add 3) = some v ∧ (∃ ls, Ints W v ls) ∧ Fit c2 := by
      intro i hi
      have hi' := hat i hi
      rw [List.getElem?_eq_getElem (by omega)] at hi'
      obtain ⟨cs, hc, ht⟩ := Option.bind_eq_some_iff.1 hi'
      obtain ⟨_, hlen, hcell⟩ := World.cells?_some hc
      obtain ⟨e0, e1, e2, e3, rfl⟩ := list4 hlen
      obtain ⟨y0, y1, y2, y3, m, _, _, t0, t1, t2, t3⟩ := Joins.trod_struct4 Try.underlying34 ht
      obtain ⟨n0, q0, _, _⟩ := DataW.trod_int Try.underlying3 t0
      obtain ⟨n1, q1, _, _⟩ := DataW.trod_int Try.underlying3 t1
      obtain ⟨n2, q2, _, w2⟩ := DataW.trod_int Try.underlying3 t2
      rw [Try.cells3] at q0 q1 q2
      simp at q0 q1 q2
      subst q0 q1 q2
      simp only [Try.cells25] at t3
      exact ⟨n0, n1, n2, e3, by simpa using hcell 0 (by omega), by simpa using hcell 1 (by omega), by simpa using hcell 2 (by omega), by simpa using hcell 3 (by omega), ints_cell (by simpa using t3), fit_of w2⟩
    by_cases h0 : l = 0
    · subst h0
      exact ⟨[], some x, c, rfl, Nat.zero_le _, by unfold maxLen at hm; omega, fun h => absurd h (by simp)⟩
    · obtain ⟨c0, _, _, _, hc0, _⟩ := each0 0 (by omega)
      have hxb : ∃ b o, x = ⟨b, o, none⟩ := by
        obtain ⟨b, o, spot⟩ := x
        have hspot : spot = none := by simpa [Addr.add] using World.cell?_spot hc0
        exact ⟨b, o, by rw [hspot]⟩
      obtain ⟨b, o, rfl⟩ := hxb
      have each : ∀ i, i < l → ∃ op : OpV, OpAt W b o i op := by
        intro i hi
        obtain ⟨c0, c1, c2, v, k0, k1, k2, k3, ⟨ls, kls⟩, kf⟩ := each0 i hi
        simp only [addr_add, Nat.add_zero] at k0 k1 k2 k3
        exact ⟨⟨c0, c1, c2, v, ls⟩, k0, k1, k2, k3, kls, kf⟩
      haveI : Inhabited OpV := ⟨⟨0, 0, 0, .slice none 0 0, []⟩⟩
      obtain ⟨f, hfop⟩ := Deep.choose_lt each
      refine ⟨(List.range l).map f, some ⟨b, o, none⟩, c, by simp, by simpa using hl, by unfold maxLen at hm; omega, fun _ => ⟨b, o, rfl, fun i hi => ?_⟩⟩
      have hi' : i < l := by simpa using hi
      have := hfop i hi'
      simpa [OpAt] using this

set_option maxRecDepth 100000 in
theorem plays_lifted (os : Os) (started : os.Started) (H : Type) (enc : TypeId × Value → H) :
    ReturnsInHanded {} Try.checked os 4 .any (Rows.quotaPlaysSpec.pre6 enc Try.prog Try.f4 Rows.quotaPlaysRow.domain false) (Rows.quotaPlaysSpec.post enc Try.prog Try.f4 false true false false) := by
  refine returnsInHanded_of_change (C := Try.checked) own started (by kernel_rfl) Try.func4
    (ChangeSpec.witness6 (enc := enc) (C := Try.checked) false ⟨#[], #[.slice none 0 0, .slice none 0 0, .int .i64 0], []⟩ 8 (by kernel_rfl) (by kernel_rfl) (by kernel_rfl) (by kernel_rfl)) ?_
  intro W base args ds gs before hval0 hW hcnd _
  have hval : ∀ (j : Nat) t v, Try.f4.params[j]? = some t → args[j]? = some v → Value.okWide Try.prog W .any base t v := hval0
  have hW' := hW
  obtain ⟨p, q, hA0, hV, rfl, hfz, hnd⟩ := hW
  have hA : DataW.TrodAll enc Try.prog W 0 (fun _ => true) true Try.f4.params.toList args.toList ds p := hA0
  rw [Try.params4] at hA hval
  obtain ⟨v0, vs0, d0, ds0, p0, q0, hargs, rfl, rfl, h0, r0⟩ := trodAll_cons hA
  obtain ⟨v1, vs1, d1, ds1, p1, q1, rfl, rfl, rfl, h1, r1⟩ := trodAll_cons r0
  obtain ⟨v2, vs2, d2, ds2, p2, q2, rfl, rfl, rfl, h2, r2⟩ := trodAll_cons r1
  obtain ⟨rfl, rfl, rfl⟩ := trodAll_nil r2
  obtain rfl : args = #[v0, v1, v2] := by cases args; simp_all
  obtain ⟨rfl, rfl⟩ := trodVars_none hV
  obtain ⟨a0, len0, cap0, rfl⟩ := okWide_slice Try.underlying25 (hval 0 25 v0 rfl rfl)
  obtain ⟨a1, len1, cap1, rfl⟩ := okWide_slice Try.underlying26 (hval 1 26 v1 rfl rfl)
  obtain ⟨kind, rfl, rfl, rfl, wk⟩ := open_int Try.underlying3 (hval 2 3 v2 rfl rfl) h2
  have k0 := h0
  have k1 := h1
  have lt0 : ∀ x ∈ p0, x.block < W.heap.size := by obtain ⟨m, hm⟩ := k0; exact DataW.trod_lt m _ _ _ hm
  have lt1 : ∀ x ∈ p1, x.block < W.heap.size := by obtain ⟨m, hm⟩ := k1; exact DataW.trod_lt m _ _ _ hm
  obtain ⟨xs, hI, hlen, hfx, _⟩ := ints_in h0
  obtain ⟨ops, hS⟩ := script_in h1
  have hfx' : ∀ x ∈ xs, x ≤ 9223372036854775807 := fun x hx => (hfx x hx).2
  clear hA0 hval0
  have key : Calls Try.prog 4 #[.slice a0 len0 cap0, .slice a1 len1 cap1, .int .i64 kind] W fun e w' => e = .returned (.bool true) ∧ Below W.heap.size W w' := by
    by_cases hok : newOk xs
    · exact plays_main _ _ kind xs ops W hI hfx' hok hS
    · exact plays_bad _ _ kind xs W hI hfx' hok ⟨_, _, _, rfl⟩
  refine key.mono fun e W' ⟨he, bel⟩ => ?_
  subst he
  exact ⟨_, rfl, _, _, _, [], _, [], hW', trodAll_mk1 (shut_bool Try.underlying4 _), (trodAll_cons_mk (Below.trod laidOut (by kernel_rfl) (of_decide_eq_true (by kernel_rfl)) k0 bel lt0) (trodAll_cons_mk (Below.trod laidOut (by kernel_rfl) (of_decide_eq_true (by kernel_rfl)) k1 bel lt1) (trodAll_cons_mk (shut_int Try.underlying3 wk) trodAll_mk0))), rfl, bel.frame _, fun h => by cases h⟩

theorem quotaPlays_holds : Rows.QuotaPlaysSaid :=
  OpenClaim.holds_of_wide 4 Try.f4 rfl rfl rfl rfl rfl rfl rfl ⟨rfl, rfl, rfl, rfl, rfl⟩ rfl rfl rfl rfl rfl (by kernel_rfl) Try.func4 (by kernel_rfl)
    (of_decide_eq_true (by kernel_rfl)) (by unfold Func.isWrapper; first | (rw [if_pos (by decide +kernel)]; kernel_rfl) | (rw [if_neg (by decide +kernel)]; exact ⟨rfl, rfl⟩))
    (fun os started H enc _ => plays_lifted os started H enc)

end Go.Proofs.Ytiaebahmbgmajaa
