/-
  The scales: heaviness, isVar.
-/
import Derived.Test.YtcnodgjalkcgiaaKH
namespace Go.Proofs.Ytcnodgjalkcgiaa
open Go.RowKit Go.Maps

theorem ixL_take (l : List ByteArray) (k : Nat) (x : ByteArray) : ixL (l.take k) x = match ixL l x with
    | some i => if i < k then some i else none
    | none => none := by
  cases h : ixL l x with
  | none =>
    have := ixL_none.1 h
    simp only
    exact ixL_none.2 fun hm => this (List.mem_of_mem_take hm)
  | some i =>
    unfold ixL at h
    obtain ⟨h1, h2, h3⟩ := List.findIdx?_eq_some_iff_getElem.1 h
    simp only
    by_cases hk : i < k
    · rw [if_pos hk]
      unfold ixL
      rw [List.findIdx?_eq_some_iff_getElem]
      refine ⟨by simp; omega, by simpa using h2, fun j hj => ?_⟩
      simpa using h3 j hj
    · rw [if_neg hk]
      refine ixL_none.2 fun hm => ?_
      obtain ⟨j, hj, e⟩ := List.getElem_of_mem hm
      simp at hj
      rw [List.getElem_take] at e
      have := h3 j (by omega)
      simp [e] at this

/-- What a name weighs, as the program looks it up. -/
theorem hv_no {g : Sg} {x : ByteArray} (h : ixL (g.ns.take (min g.ns.length g.ws.length)) x = none) : g.hv x = 1 := by
  rw [ixL_take] at h
  unfold Sg.hv
  show (match ixL g.ns x with | some i => _ | none => _) = _
  cases hi : ixL g.ns x with
  | none => rfl
  | some i =>
    rw [hi] at h
    simp only at h ⊢
    split at h
    · cases h
    · have hlt : i < g.ns.length := by
        unfold ixL at hi
        exact (List.findIdx?_eq_some_iff_getElem.1 hi).1
      rw [List.getElem?_eq_none (by omega)]
theorem hv_yes {g : Sg} {x : ByteArray} {j : Nat} (h : ixL (g.ns.take (min g.ns.length g.ws.length)) x = some j) : ∃ hj : j < g.ws.length, g.hv x = if badW g.ws[j] then 1 else g.ws[j] := by
  rw [ixL_take] at h
  cases hi : ixL g.ns x with
  | none => rw [hi] at h; cases h
  | some i =>
    rw [hi] at h
    simp only at h
    split at h
    · rename_i hk
      cases h
      have hj : j < g.ws.length := by omega
      refine ⟨hj, ?_⟩
      unfold Sg.hv
      show (match ixL g.ns x with | some i => _ | none => _) = _
      rw [hi]
      simp only [List.getElem?_eq_getElem hj]
      unfold badW
      by_cases h1 : 1 ≤ g.ws[j] ∧ g.ws[j] ≤ 1000
      · rw [if_pos h1, if_neg (by simp; omega)]
      · rw [if_neg h1, if_pos (by simp; omega)]
    · cases h

set_option maxRecDepth 100000 in
set_option maxHeartbeats 1000000 in
theorem heavy_any (W0 : World) (g : Sg) (p bp bc : Nat) (vn vw : Value) (L : Nat) (wt : Int) (c : Int → Int) (x : ByteArray) (W : World) (hS : Sc W0 g p bp bc vn vw L wt c W) (hx : x.size ≤ maxLen) :
    Calls Try.prog 56 #[.pointer (some ⟨p, 0, none⟩), .string x] W fun e W' => e = .returned (.int .i64 (g.hv x)) ∧ W' = W := by
  obtain ⟨⟨c0, c1, c2, c3, c4, c5, c6⟩, _⟩ := sbox_facts hS.box
  obtain ⟨k, hk⟩ := hS.pm
  have hl := hk.look keyed9 Try.underlying61 (zero3 W) (key9 hx)
  have hw : RowAt (.int .i64) W vw g.ws := hS.sg.ws.keep hS.bel (Nat.le_refl _)
  clear hS
  cases hi : ixL (g.ns.take (min g.ns.length g.ws.length)) x with
  | none =>
    have HP : Hid (g.hv x = 1) := hv_no hi
    obtain ⟨hl1, _⟩ := hl.2 (by simp [pmL, hi])
    clear hl hi hw hk
    go_enter Try.func56, Try.ntmps56
    go_wp2
    go_ret
    exact ⟨ret_i64 HP.out.symm, rfl⟩
  | some j =>
    obtain ⟨hj, hv⟩ := hv_yes hi
    obtain ⟨hl1, _⟩ := hl.1 (.int .i64 (j : Int)) (by simp [pmL, hi])
    obtain ⟨aw, cw, rfl, _, _⟩ := hw.slice
    obtain ⟨b, o, rfl, hbl, hcell⟩ := hw.nth hj
    have hcall := badW_any g.ws[j] W
    have hj1 : (0 : Int) ≤ (j : Int) := by omega
    have hj2 : (j : Int) < (g.ws.length : Int) := by omega
    cases hb : badW g.ws[j]
    · rw [hb] at hv hcall
      have HP : Hid (g.hv x = g.ws[j]) := hv
      clear hl hi hw hk hv hb
      go_enter Try.func56, Try.ntmps56
      go_wp2_with (first | (go_at_call 28; refine hcall.mono ?_; rintro e w3 ⟨rfl, rfl⟩))
      go_ret
      exact ⟨ret_i64 HP.out.symm, rfl⟩
    · rw [hb] at hv hcall
      have HP : Hid (g.hv x = 1) := hv
      clear hl hi hw hk hv hb
      go_enter Try.func56, Try.ntmps56
      go_wp2_with (first | (go_at_call 28; refine hcall.mono ?_; rintro e w3 ⟨rfl, rfl⟩))
      go_ret
      exact ⟨ret_i64 HP.out.symm, rfl⟩

set_option maxHeartbeats 400000 in
theorem kisVar_any (t : T) (a : Option Addr) (n c : Nat) (w : World) :
    Calls Try.prog 49 #[tval t (.slice a n c)] w fun e w' => e = .returned (.bool (decide (t.fn.size = 0))) ∧ Below w.heap.size w w' := by
  have he := ba_isEmpty t.fn
  have HE : Hid (t.fn.toList.isEmpty = decide (t.fn.size = 0)) := he
  clear he
  go_enter Try.func49, Try.ntmps49
  go_wp2
  all_goals go_ret
  all_goals exact ⟨ret_bool (by rw [← HE.out]), below_box w _⟩

end Go.Proofs.Ytcnodgjalkcgiaa
