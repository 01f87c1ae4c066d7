/-
  The document's Vars of a clause.
-/
import Derived.Test.YtgnjgpplelakkaaNG
import Derived.Test.YtgnjgpplelakkaaUC
namespace Go.Proofs.Ytgnjgpplelakkaa
open Go.RowKit Go.Maps

/-- The variables of a clause, as they come. -/
def cvs (l : List Lt) : List Int := ((sidesOf l).map T.vs).flatten
/-- The clause as one term. -/
def cT (l : List Lt) : T := .mk 0 ⟨#[99]⟩ (sidesOf l)
theorem cT_vs (l : List Lt) : (cT l).vs = cvs l := by rw [T.vs_eq]; rfl

theorem row_mono {W : World} {b b' : Nat} {e : TypeId} {s : Nat} {v : Value} {n : Nat} {xs : List Value} (h : W.ownsRow b e s v n xs) (hb : b' ≤ b) : W.ownsRow b' e s v n xs :=
  ⟨h.1, h.2.imp id fun ⟨g, cap, cur, e, hg, r⟩ => ⟨g, cap, cur, e, Nat.le_trans hb hg, r⟩⟩

set_option maxRecDepth 100000 in
set_option maxHeartbeats 1000000 in
theorem rcvars_any (l : List Lt) (v : Value) (w : World) (hl : ClauseAt w v l) (hlen : l.length ≤ 1048576) (hN : (cvs l).length ≤ 1048576) :
    Calls Try.prog 14 #[v] w fun e w' => ∃ v' k, e = .returned v' ∧ w'.ownsRow w.heap.size 3 1 v' k (((cvs l).foldl wth []).map (Value.int .i64)) ∧ Below w.heap.size w w' := by
  have h45 := rterms_any l v w hl hlen
  obtain ⟨a, c, rfl⟩ := hl.slice
  clear hl
  go_enter Try.func14, Try.ntmps14
  go_wp2_with fail
  refine h45.mono ?_
  rintro e W1 ⟨a1, c1, rfl, hA1, hb1⟩
  have h44 := rvars_any (cT l) _ W1 hA1 (by rw [cT_vs]; exact hN)
  rw [cT_vs] at h44
  have HB1 : Hid (Below w.heap.size w W1) := hb1
  clear hA1 hb1
  go_wp2_with fail
  refine h44.mono ?_
  rintro e W2 ⟨v2, k, rfl, hr, hb2⟩
  obtain ⟨a2, c2, rfl⟩ := row_form hr
  have HE : Hid (W2.ownsRow w.heap.size 3 1 (.slice a2 k c2) k (((cvs l).foldl wth []).map (Value.int .i64)) ∧ Below w.heap.size w W2) := ⟨row_mono hr HB1.out.size, HB1.out.trans (hb2.mono HB1.out.size)⟩
  clear hr hb2
  go_wp2
  go_ret
  exact ⟨_, _, rfl, HE.out⟩

end Go.Proofs.Ytgnjgpplelakkaa
