/-
  TermOnce: for every list of terms of bulk at most 1048576 the law returns true, and the argument reads behind the call as it read before.
-/
import Derived.Test.YtbbfpllffcfmhaaWQ
import Derived.JoinedCond
namespace Go.Proofs.Ytbbfpllffcfmhaa
open Go.ChangeShapes Go.WideShapes Go.ChangeAt Go.RowKit

/-- What is read of a list of terms that came in, and how great they are. -/
theorem terms_in {H : Type} {enc : TypeId × Value → H} {W : World} {a : Option Addr} {n c : Nat} {d : DataW H} {p : List MemPlace}
    (h : DataW.Trod enc Try.prog W 0 (fun _ => true) true 22 (.slice a n c) d p) : ∃ l, n = l.length ∧ ArgsAt W (.slice a l.length c) l ∧ (l.map T.size).sum ≤ (Rows.uptoBulk d : Int) := by
  obtain ⟨fuel, hf⟩ := h
  obtain ⟨l, hA, hS⟩ := args_trodB fuel (.slice a n c) _ hf
  obtain ⟨a', c', e, _, _⟩ := hA.slice
  cases e
  exact ⟨l, rfl, hA, hS⟩

theorem size_le_sum : ∀ (l : List T) (t : T), t ∈ l → t.size ≤ (l.map T.size).sum
  | [], _, h => by cases h
  | a :: r, t, h => by
    have hpos : ∀ l : List T, 0 ≤ (l.map T.size).sum := by
      intro l
      induction l with
      | nil => simp
      | cons a r ihl =>
        have := size_parts a []
        rw [List.map_cons, List.sum_cons]
        omega
    have h0 := hpos r
    have h1 := size_parts a []
    rw [List.map_cons, List.sum_cons]
    rcases List.mem_cons.1 h with rfl | h
    · omega
    · have := size_le_sum r t h
      omega

theorem once_any (ls : List T) (la : Option Addr) (lc : Nat) (w : World) (hl : ArgsAt w (.slice la ls.length lc) ls) (hS : (ls.map T.size).sum ≤ 1048576) :
    Calls Try.prog 7 #[.slice la ls.length lc] w fun e W => e = .returned (.bool true) ∧ Below w.heap.size w W := by
  by_cases h : 50 < ls.length
  · exact once_many ls la lc w h
  · refine once_few ls la lc w hl (fun t ht => ?_) (by omega)
    have := size_le_sum ls t ht
    exact ⟨(short_of t (by omega)).1, by omega⟩

set_option maxRecDepth 100000 in
theorem once_contract (H : Type) (enc : TypeId × Value → H) (W : World) (base : Nat) (args : Array Value) (ds gs : List (DataW H)) (before : List MemPlace)
    (hval : ∀ (j : Nat) t v, Try.f7.params[j]? = some t → args[j]? = some v → Value.okWide Try.prog W .any base t v)
    (hW : DataW.Whole enc Try.prog Try.f7.params.toList Rows.termOnceSpec.vars false W args.toList ds gs before)
    (hk : Rows.uptoSmall H (ds ++ gs) = true) :
    Calls Try.prog 7 args W fun e W' => ∃ v, e = .returned v ∧ Rows.termOnceSpec.post enc Try.prog Try.f7 false true false false W args v W' := by
  have hW' := hW
  obtain ⟨p, q, hA0, hV, rfl, hfz, hnd⟩ := hW
  have hA : DataW.TrodAll enc Try.prog W 0 (fun _ => true) true Try.f7.params.toList args.toList ds p := hA0
  rw [Try.params7] at hA hval
  obtain ⟨v0, vs0, d0, ds0, p0, q0, hargs, rfl, rfl, h0, r0⟩ := trodAll_cons hA
  obtain ⟨rfl, rfl, rfl⟩ := trodAll_nil r0
  obtain rfl : args = #[v0] := by cases args; simp_all
  obtain ⟨rfl, rfl⟩ := trodVars_none hV
  obtain ⟨a0, n0, c0, rfl⟩ := okWide_slice Try.underlying22 (hval 0 22 v0 rfl rfl)
  obtain ⟨l, rfl, hx, hsz⟩ := terms_in h0
  have lt0 : ∀ x ∈ p0, x.block < W.heap.size := by obtain ⟨m, hm⟩ := h0; exact DataW.trod_lt m _ _ _ hm
  have hsum := of_decide_eq_true hk
  simp only [List.append_nil, Rows.uptoBulkAll] at hsum
  clear hA0
  refine (once_any l a0 c0 W hx (by omega)).mono fun e W' ⟨he, bel⟩ => ?_
  subst he
  exact ⟨_, rfl, _, _, _, [], _, [], hW', trodAll_mk1 (shut_bool Try.underlying4 _), (trodAll_cons_mk (Below.trod laidOut (by kernel_rfl) (of_decide_eq_true (by kernel_rfl)) h0 bel lt0) trodAll_mk0), rfl, bel.frame _, fun h => by cases h⟩

set_option maxRecDepth 100000 in
theorem once_lifted (os : Os) (started : os.Started) (H : Type) (enc : TypeId × Value → H) (F : Stop.Interp) :
    ReturnsInHanded {} Try.checked os 7 .any ((Rows.OpenSpec.upto Rows.termOnceSpec).pre6 enc Try.prog Try.f7 Rows.termOnceUptoRow.domain false) (((Rows.OpenSpec.upto Rows.termOnceSpec).at F).post enc Try.prog Try.f7 false true false false) := by
  refine returnsInHanded_of_cond (C := Try.checked) (s := Rows.OpenSpec.upto Rows.termOnceSpec) (k := Rows.uptoSmall) rfl own started (by kernel_rfl) Try.func7
    (OpenSpec.witness (enc := enc) (C := Try.checked) (s := Rows.OpenSpec.upto Rows.termOnceSpec) (k := Rows.uptoSmall) rfl false ⟨#[], #[.slice none 0 0], []⟩ 8 (by kernel_rfl) (by kernel_rfl) (by kernel_rfl)
      (x := ([.nil], [], [])) (by kernel_rfl) rfl (by kernel_rfl)) ?_
  intro W base args ds gs before hval hW _ hk _
  exact once_contract H enc W base args ds gs before hval hW hk

theorem termOnce_holds : Rows.TermOnceUptoSaid :=
  OpenClaim.holds_of_cond 7 Try.f7 rfl rfl rfl rfl rfl rfl rfl ⟨rfl, rfl, rfl, rfl, rfl⟩ rfl rfl rfl rfl rfl (by kernel_rfl) Try.func7 (by kernel_rfl)
    (of_decide_eq_true (by kernel_rfl)) (by unfold Func.isWrapper; first | (rw [if_pos (by decide +kernel)]; kernel_rfl) | (rw [if_neg (by decide +kernel)]; exact ⟨rfl, rfl⟩))
    (fun os started H enc _ F => once_lifted os started H enc F)

end Go.Proofs.Ytbbfpllffcfmhaa
