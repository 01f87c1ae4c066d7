/-
  TextWords: for every text, where what is read is of bulk at most 1048576, the law returns true, and the text reads behind the call as it read before.
-/
import Derived.Test.YtdbfmjfbiokfdaaDoorN
import Derived.Test.YtdbfmjfbiokfdaaDoorJ
namespace Go.Proofs.YtdbfmjfbiokfdaaDoor
open Go.ChangeShapes Go.WideShapes Go.ChangeAt Go.RowKit
open Go.ChangeMaps (open_string shut_string)

theorem row_strs {W : World} {base : Nat} {v : Value} {ws : List (List UInt8)} (h : W.ownsRow base 9 1 v ws.length (strV ws)) (hp : 0 < ws.length) : ∃ g c, v = .slice (some ⟨g, 0, none⟩) ws.length c ∧ ∀ i (hi : i < ws.length), W.cell? ⟨g, i, none⟩ = some (.string (ofL ws[i])) := by
  obtain ⟨a, c, rfl, _, _, hn⟩ := row_form h
  cases a with
  | none => have := (hn rfl).1; omega
  | some ad =>
    rcases h.2 with ⟨e, _⟩ | ⟨g, cap, cur, e, _⟩
    · cases e
    · cases e
      refine ⟨g, c, rfl, fun i hi => ?_⟩
      have := h.cells (g := g) rfl i (.string (ofL ws[i])) (by simp [strV, List.getElem?_eq_getElem hi])
      rwa [addr_add, Nat.zero_add] at this

set_option maxRecDepth 100000 in
set_option maxHeartbeats 1000000 in
theorem texts_any (v1 v2 : Value) (b1 b2 : Nat) (ws : List (List UInt8)) (w : World) (h1 : w.ownsRow b1 9 1 v1 ws.length (strV ws)) (h2 : w.ownsRow b2 9 1 v2 ws.length (strV ws)) :
    Calls Tryd.prog 13 #[v1, v2] w fun e w' => e = .returned (.bool true) ∧ ∃ n, w' = w.drewN n := by
  have k1 := h1
  have k2 := h2
  obtain ⟨a1, c1, rfl, l1, m1, _⟩ := row_form h1
  obtain ⟨a2, c2, rfl, l2, m2, _⟩ := row_form h2
  have K : Hid (w.ownsRow b1 9 1 (.slice a1 ws.length c1) ws.length (strV ws) ∧ w.ownsRow b2 9 1 (.slice a2 ws.length c2) ws.length (strV ws)) := ⟨k1, k2⟩
  clear k1 k2 h1 h2
  go_enter Tryd.func13, Tryd.ntmps13
  go_wp2
  go_loopw [5] (fun j wr => ∃ i q : Nat, j = .int .i64 i ∧ i ≤ ws.length ∧ wr = w.drewN q) (fun j _ => ws.length - (intOf j).toNat)
  case atStart => exact ⟨0, 0, rfl, Nat.zero_le _, rfl⟩
  case round =>
    obtain ⟨i, q, rfl, hi, hw⟩ := hrel
    subst hw
    by_cases hlt : i < ws.length
    · obtain ⟨g1, d1, e1, hc1⟩ := row_strs K.out.1 (by omega)
      obtain ⟨g2, d2, e2, hc2⟩ := row_strs K.out.2 (by omega)
      simp only [Value.slice.injEq, true_and] at e1 e2
      obtain ⟨rfl, rfl⟩ := e1
      obtain ⟨rfl, rfl⟩ := e2
      have x1 := hc1 i hlt
      have x2 := hc2 i hlt
      obtain ⟨x, hx⟩ : ∃ x, ofL ws[i] = x := ⟨_, rfl⟩
      rw [hx] at x1 x2
      clear hx hc1 hc2
      go_wp2
      go_quiet (fail)
      go_wp2
      go_roundw
      case rel => exact ⟨i + 1, _, by go_num, by omega, rfl⟩
      case measure => simp [intOf]; omega
    · go_wp2
      go_ret
      exact ⟨rfl, q, rfl⟩

theorem row_drew {W : World} {base e size n : Nat} {v : Value} {xs : List Value} (h : W.ownsRow base e size v n xs) (q : Nat) : (W.drewN q).ownsRow base e size v n xs := h
theorem row_below {W W' : World} {base e size n B : Nat} {v : Value} {xs : List Value} (h : W.ownsRow base e size v n xs) (hb : Below B W W') (hB : W.heap.size ≤ B) : W'.ownsRow base e size v n xs := by
  refine ⟨h.1, ?_⟩
  rcases h.2 with hn | ⟨g, cap, cur, rfl, hb', hgg, rest⟩
  · exact .inl hn
  · exact .inr ⟨g, cap, cur, rfl, hb', (hb.block g (Nat.lt_of_lt_of_le (Array.getElem?_eq_some_iff.1 hgg).1 hB)).trans hgg, rest⟩

set_option maxRecDepth 100000 in
set_option maxHeartbeats 1000000 in
theorem textWords_walk (s : ByteArray) (w : World) (hs : s.size ≤ 1048576) :
    Calls Tryd.prog 4 #[.string s] w fun e w' => e = .returned (.bool true) ∧ Below w.heap.size w w' := by
  obtain ⟨cw, cr, hcut⟩ : ∃ cw cr, cutS s.data.toList = (cw, cr) := ⟨_, _, rfl⟩
  have HC : ∀ W, Calls Tryd.prog 11 #[.string s] W fun e w' => e = .returned (.tuple #[.string (ofL cw), .string (ofL cr)]) ∧ ∃ n, w' = W.drewN n := fun W => by have := cut_any s W (by unfold maxLen; omega); rwa [hcut] at this
  have HR : ∀ W, Calls Tryd.prog 12 #[.string s] W fun e w' => e = .returned (.tuple #[.string (ofL cw), .string (ofL cr)]) ∧ ∃ n, w' = W.drewN n := fun W => by have := refCut_any s W (by omega); rwa [hcut] at this
  clear hcut
  go_enter Tryd.func4, Tryd.ntmps4
  go_wp2_with (first
    | (go_at_call 11; refine (HC _).mono ?_; rintro e w' ⟨rfl, q1, rfl⟩)
    | (go_at_call 12; refine (HR _).mono ?_; rintro e w' ⟨rfl, q2, rfl⟩)
    | (go_at_call 14; refine (words_any s _ hs).mono ?_; rintro e w1 ⟨v1, rfl, hr1, hb1⟩)
    | (go_at_call 15; refine (refWords_any s _ hs).mono ?_; rintro e w2 ⟨v2, rfl, hr2, hb2⟩)
    | (go_at_call 13; refine (texts_any v1 v2 _ _ _ w2 (row_below hr1 hb2 (Nat.le_refl _)) hr2).mono ?_; rintro e w3 ⟨rfl, q3, rfl⟩)
    | (go_at_call 10; refine (alive_any _).mono ?_; rintro e w4 ⟨rfl, hb4⟩))
  go_ret
  have b1 : Below w.heap.size w w1 := ⟨hb1.os, hb1.tape, hb1.output, hb1.size, hb1.block⟩
  have b2 : Below w.heap.size w w2 := b1.trans (hb2.mono b1.size)
  have b4 : Below w2.heap.size w2 w4 := ⟨hb4.os, hb4.tape, hb4.output, hb4.size, hb4.block⟩
  exact ⟨rfl, b2.trans (b4.mono b2.size)⟩

theorem textWords_contract (H : Type) (enc : TypeId × Value → H) (W : World) (base : Nat) (args : Array Value) (ds gs : List (DataW H)) (before : List MemPlace)
    (hval : ∀ (j : Nat) t v, Tryd.f4.params[j]? = some t → args[j]? = some v → Value.okWide Tryd.prog W .any base t v)
    (hW : DataW.Whole enc Tryd.prog Tryd.f4.params.toList Rows.textWordsSpec.vars false W args.toList ds gs before)
    (hk : Rows.uptoSmall H (ds ++ gs) = true) :
    Calls Tryd.prog 4 args W fun e W' => ∃ v, e = .returned v ∧ Rows.textWordsSpec.post enc Tryd.prog Tryd.f4 false true false false W args v W' := by
  have hW' := hW
  obtain ⟨p, q, hA0, hV, rfl, hfz, hnd⟩ := hW
  have hA : DataW.TrodAll enc Tryd.prog W 0 (fun _ => true) true Tryd.f4.params.toList args.toList ds p := hA0
  rw [Tryd.params4] at hA hval
  obtain ⟨v0, vs0, d0, ds0, p0, q0, hargs, rfl, rfl, h0, r0⟩ := trodAll_cons hA
  obtain ⟨rfl, rfl, rfl⟩ := trodAll_nil r0
  obtain rfl : args = #[v0] := by cases args; simp_all
  obtain ⟨rfl, rfl⟩ := trodVars_none hV
  have k0 := h0
  have lt0 : ∀ x ∈ p0, x.block < W.heap.size := by obtain ⟨m, hm⟩ := k0; exact DataW.trod_lt m _ _ _ hm
  obtain ⟨s, rfl, rfl, rfl, hs⟩ := open_string Tryd.underlying9 (hval 0 9 v0 rfl rfl) h0
  have hl : s.size ≤ 1048576 := by
    have h := of_decide_eq_true hk
    simp only [List.append_nil, Rows.uptoBulkAll, Rows.uptoBulk] at h
    rw [size_len] at h
    omega
  clear hA0
  refine (textWords_walk s W hl).mono fun e W' ⟨he, bel⟩ => ?_
  subst he
  exact ⟨_, rfl, _, _, _, [], _, [], hW', trodAll_mk1 (shut_bool Tryd.underlying4 _), (trodAll_cons_mk (Below.trod laidOut (by kernel_rfl) (of_decide_eq_true (by kernel_rfl)) k0 bel lt0) trodAll_mk0), rfl, bel.frame _, fun h => by cases h⟩

theorem textWords_reads (os : Os) {H : Type} (enc : TypeId × Value → H) : ∃ places, DataW.whole enc Tryd.prog ((laidWorld os).forCall (fun _ _ => 0) ⟨#[], #[.string ⟨#[]⟩], []⟩).memory Tryd.f4.params.toList Rows.textWordsSpec.vars false #[Value.string ⟨#[]⟩].toList 8 = some ([.lit (.string [])], [], places) :=
  ⟨[], by kernel_rfl⟩

set_option maxRecDepth 100000 in
theorem textWords_lifted (os : Os) (started : os.Started) (H : Type) (enc : TypeId × Value → H) (F : Stop.Interp) :
    ReturnsInHanded {} Tryd.checked os 4 .any ((Rows.OpenSpec.upto Rows.textWordsSpec).preRow enc Tryd.prog Tryd.f4 Rows.textWordsUptoRow.domain false Rows.textWordsUptoRow.laid) (((Rows.OpenSpec.upto Rows.textWordsSpec).at F).post enc Tryd.prog Tryd.f4 false true false false) := by
  obtain ⟨places, hx⟩ := textWords_reads os enc
  refine returnsInHanded_of_row (C := Tryd.checked) (s := Rows.OpenSpec.upto Rows.textWordsSpec) own started (by kernel_rfl) Tryd.func4
    (witness_row_at (enc := enc) (C := Tryd.checked) false (laidWorld os) #[.string ⟨#[]⟩] rfl (by kernel_rfl) (by kernel_rfl) (by kernel_rfl)
      (OpenSpec.preRow_of_cond 8 hx (by kernel_rfl) (fun k hk => by cases hk; kernel_rfl) (by kernel_rfl) (laid_met os _))) ?_
  intro W base args ds gs before hval hW _ hcond _ _ _ _
  exact textWords_contract H enc W base args ds gs before hval hW (hcond _ rfl)

theorem textWords_said : Rows.TextWordsUptoSaid :=
  OpenClaim.holds_of_cond 4 Tryd.f4 rfl rfl rfl rfl rfl rfl rfl ⟨rfl, rfl, rfl, rfl, rfl⟩ rfl rfl rfl rfl rfl (by kernel_rfl) Tryd.func4 (by kernel_rfl)
    (of_decide_eq_true (by kernel_rfl)) (by unfold Func.isWrapper; first | (rw [if_pos (by decide +kernel)]; kernel_rfl) | (rw [if_neg (by decide +kernel)]; exact ⟨rfl, rfl⟩))
    (fun os started H enc _ F => by rw [OpenClaim.pre_eq_preRow]; exact textWords_lifted os started H enc F)

theorem textWords_plain (f : FuncId) (fn : Func) (hf : Tryd.pinned.checked.prog.funcNamed "assize/assizelaw01.TextWords" = some f) (hfn : Tryd.pinned.checked.prog.funcs[f]? = some fn) :
    false = Tryd.pinned.checked.prog.looks [] ∧ ∀ (j : Nat) t, fn.params[j]? = some t → Tryd.pinned.checked.prog.wantsStandIn t = false := by
  obtain rfl : f = 4 := Option.some.inj ((show Tryd.prog.funcNamed "assize/assizelaw01.TextWords" = some 4 by kernel_rfl).symm.trans hf) |>.symm
  obtain rfl : fn = Tryd.f4 := (Option.some.inj (Tryd.func4.symm.trans hfn)).symm
  refine ⟨by kernel_rfl, fun j t ht => ?_⟩
  rw [Tryd.params4] at ht
  obtain rfl : t = 9 := by simpa using Array.mem_of_getElem? ht
  exact (show Tryd.prog.wantsStandIn 9 = false by kernel_rfl)

theorem textWords_card : Rows.TextWordsUptoCardSaid :=
  Claim7.holds_tied_plain_at .later [] _ _ _ _ textWords_said (fun _ h => by cases h) (by kernel_rfl) (fun _ h => by cases h) textWordsUpto_row_tie rfl ⟨rfl, rfl⟩ (by kernel_rfl) rfl textWords_plain (by kernel_rfl)

end Go.Proofs.YtdbfmjfbiokfdaaDoor
