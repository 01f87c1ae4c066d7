/-
  KboNames: the law's walk.
-/
import Derived.Test.YtcnodgjalkcgiaaKT
namespace Go.Proofs.Ytcnodgjalkcgiaa
open Go.RowKit Go.Maps

set_option maxRecDepth 100000 in
set_option maxHeartbeats 4000000 in
theorem names_any (g : Sg) (a b : ByteArray) (vn vw : Value) (w : World) (hg : SgAt w g vn vw) :
    Calls Try.prog 4 #[gval vn vw, .string a, .string b] w fun e w' => e = .returned (.bool true) ∧ Below w.heap.size w w' := by
  obtain ⟨an, cn, rfl, _, _⟩ := hg.ns.slice
  obtain ⟨aw, cw, rfl, _, _⟩ := hg.ws.slice
  obtain ⟨W1, hW1⟩ : ∃ W1, w.alloc (.cells #[.slice an g.ns.length cn, .slice aw g.ws.length cw] 25) = W1 := ⟨_, rfl⟩
  have hb : Below w.heap.size w W1 := by rw [← hW1]; exact below_box w _
  obtain ⟨t0, t1⟩ := box2_cells w (.slice an g.ns.length cn) (.slice aw g.ws.length cw) 25
  rw [hW1] at t0 t1
  have hsz : w.heap.size < W1.heap.size := by rw [← hW1]; simp
  have t0' := cell_far hsz t0
  have t1' := cell_far hsz t1
  have hG : ∀ W, Below W1.heap.size W1 W → SgAt W g (.slice an g.ns.length cn) (.slice aw g.ws.length cw) := fun W hW => hg.keep (hb.trans (hW.mono hb.size)) (Nat.le_refl _)
  have h9 : ∀ W, Below W1.heap.size W1 W → Calls Try.prog 9 #[.agg #[.slice an g.ns.length cn, .slice aw g.ws.length cw]] W fun e w' => e = .returned (.agg #[.slice an g.ns.length cn, .slice aw g.ws.length cw]) ∧ Below W.heap.size W w' := fun W _ => own_any _ _ ⟨_, _, _, rfl⟩ ⟨_, _, _, rfl⟩ W
  have h15 : ∀ x y, ∀ W, Below W1.heap.size W1 W → Calls Try.prog 15 #[.agg #[.slice an g.ns.length cn, .slice aw g.ws.length cw], .string x, .string y] W fun e w' => e = .returned (.bool (g.above x y)) ∧ Below W.heap.size W w' := fun x y W hW => above_any g x y _ _ W (hG W hW)
  have h16 : ∀ x y, ∀ W, Below W1.heap.size W1 W → Calls Try.prog 16 #[.agg #[.slice an g.ns.length cn, .slice aw g.ws.length cw], .string x, .string y] W fun e w' => e = .returned (.bool (g.above x y)) ∧ Below W.heap.size W w' := fun x y W hW => rabove_any g x y _ _ W (hG W hW)
  have h17 : ∀ W, Below W1.heap.size W1 W → Calls Try.prog 17 #[] W fun e w' => e = .returned (.bool true) ∧ Below W.heap.size W w' := fun W _ => alive_any W
  have HB : Hid (Below w.heap.size w W1) := hb
  have htot := above_total g (a := a) (b := b)
  have e0 : (g.above a b == g.above a b) = true := by simp
  clear hG hg hb
  cases hab : g.above a b
  · rw [hab] at e0
    cases hba : g.above b a
    · have hs : a = b := Classical.byContradiction fun h => by
        rcases htot h with k | k
        · rw [hab] at k; cases k
        · rw [hba] at k; cases k
      have e1 : (a.toList == b.toList) = true := by rw [hs]; simp
      clear htot hs
      go_enter Try.func4, Try.ntmps4
      go_wp2
      refine wp_region_far (by kernel_rfl) ?_
      repeat (first | go_big_quiet_step (first | (go_at_call 9; exact calls_far h9 _) | (go_at_call 15; exact calls_far (h15 _ _) _) | (go_at_call 16; exact calls_far (h16 _ _) _) | (go_at_call 17; exact calls_far h17 _)) | quiet_step (first | (go_at_call 9; exact calls_far h9 _) | (go_at_call 15; exact calls_far (h15 _ _) _) | (go_at_call 16; exact calls_far (h16 _ _) _) | (go_at_call 17; exact calls_far h17 _)))
      refine wpQuiet_nil ?_
      intro _ hw'
      obtain ⟨pf, rfl⟩ := hw'
      go_wp2
      go_ret
      exact ⟨rfl, HB.out.trans ((below_far _ pf).mono HB.out.size)⟩
    · clear htot
      go_enter Try.func4, Try.ntmps4
      go_wp2
      refine wp_region_far (by kernel_rfl) ?_
      repeat (first | go_big_quiet_step (first | (go_at_call 9; exact calls_far h9 _) | (go_at_call 15; exact calls_far (h15 _ _) _) | (go_at_call 16; exact calls_far (h16 _ _) _) | (go_at_call 17; exact calls_far h17 _)) | quiet_step (first | (go_at_call 9; exact calls_far h9 _) | (go_at_call 15; exact calls_far (h15 _ _) _) | (go_at_call 16; exact calls_far (h16 _ _) _) | (go_at_call 17; exact calls_far h17 _)))
      refine wpQuiet_nil ?_
      intro _ hw'
      obtain ⟨pf, rfl⟩ := hw'
      go_wp2
      go_ret
      exact ⟨rfl, HB.out.trans ((below_far _ pf).mono HB.out.size)⟩
  · rw [hab] at e0
    clear htot
    go_enter Try.func4, Try.ntmps4
    go_wp2
    refine wp_region_far (by kernel_rfl) ?_
    repeat (first | go_big_quiet_step (first | (go_at_call 9; exact calls_far h9 _) | (go_at_call 15; exact calls_far (h15 _ _) _) | (go_at_call 16; exact calls_far (h16 _ _) _) | (go_at_call 17; exact calls_far h17 _)) | quiet_step (first | (go_at_call 9; exact calls_far h9 _) | (go_at_call 15; exact calls_far (h15 _ _) _) | (go_at_call 16; exact calls_far (h16 _ _) _) | (go_at_call 17; exact calls_far h17 _)))
    refine wpQuiet_nil ?_
    intro _ hw'
    obtain ⟨pf, rfl⟩ := hw'
    go_wp2
    go_ret
    exact ⟨rfl, HB.out.trans ((below_far _ pf).mono HB.out.size)⟩

end Go.Proofs.Ytcnodgjalkcgiaa
