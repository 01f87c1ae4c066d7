/-
  The document's Symbol.
-/
import Derived.Test.YtpahgmidofacaaaVH
namespace Go.Proofs.Ytpahgmidofacaaa
open Go.RowKit Go.Maps

/-- A symbol above another one, told. -/
def tsymB (g : Sg) (x y : T) : Bool := if x.fn = y.fn then decide (y.args.length < x.args.length) else g.above x.fn y.fn
theorem tsymB_iff {g : Sg} {x y : T} : tsymB g x y = true ↔ g.sym x.fn y.fn x.args.length y.args.length := by
  unfold tsymB Sg.sym
  by_cases h : x.fn = y.fn
  · rw [if_pos h, h, above_irrefl]
    simp
  · rw [if_neg h]
    simp [h]

set_option maxRecDepth 100000 in
set_option maxHeartbeats 2000000 in
theorem rsym_any (g : Sg) (x y : T) (vn vw : Value) (a b : Option Addr) (ca cb : Nat) (w : World) (hg : SgAt w g vn vw) :
    Calls Try.prog 73 #[gval vn vw, tval x (.slice a x.args.length ca), tval y (.slice b y.args.length cb)] w fun e w' => e = .returned (.bool (tsymB g x y)) ∧ Below w.heap.size w w' := by
  obtain ⟨an, cn, rfl, _, _⟩ := hg.ns.slice
  obtain ⟨aw, cw, rfl, _, _⟩ := hg.ws.slice
  have hT := tri_made w (.slice an g.ns.length cn) (.slice aw g.ws.length cw) 25 x (.slice a x.args.length ca) y (.slice b y.args.length cb)
  obtain ⟨i0, i1, j0, j1, j2, k0, k1, k2, hb, _⟩ := hT
  have hc := rabove_any g x.fn y.fn _ _ _ (hg.keep hb (Nat.le_refl _))
  have HB : Hid (Below w.heap.size w (((w.alloc (.cells #[.slice an g.ns.length cn, .slice aw g.ws.length cw] 25)).alloc (tbox x (.slice a x.args.length ca))).alloc (tbox y (.slice b y.args.length cb)))) := hb
  clear hb hg
  by_cases h : x.fn = y.fn
  · have HV : Hid (tsymB g x y = decide (y.args.length < x.args.length)) := by show _ = _; unfold tsymB; rw [if_pos h]
    have e1 : (x.fn.toList == y.fn.toList) = true := by rw [h]; simp
    clear h
    go_enter Try.func73, Try.ntmps73
    go_wp2
    go_ret
    exact ⟨ret_bool (by rw [HV.out]), HB.out⟩
  · have HV : Hid (tsymB g x y = g.above x.fn y.fn) := by show _ = _; unfold tsymB; rw [if_neg h]
    have e1 : (x.fn.toList == y.fn.toList) = false := by rw [beq_eq_false_iff_ne]; exact fun k => h (ba_toList_inj.1 k)
    clear h
    go_enter Try.func73, Try.ntmps73
    go_wp2_with fail
    refine hc.mono ?_
    rintro e W2 ⟨rfl, hb2⟩
    go_wp2
    go_ret
    exact ⟨ret_bool HV.out.symm, HB.out.trans (hb2.mono HB.out.size)⟩


end Go.Proofs.Ytpahgmidofacaaa
