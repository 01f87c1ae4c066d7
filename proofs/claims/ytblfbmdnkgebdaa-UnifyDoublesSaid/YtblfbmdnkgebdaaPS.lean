/-
  unify.Variant.
-/
import Derived.Test.YtblfbmdnkgebdaaPR
namespace Go.Proofs.Ytblfbmdnkgebdaa
open Go.RowKit Go.Maps

/-- Is each an instance of the other? -/
noncomputable def variantB (a b : T) : Bool := decide (a.rightW = 0) && decide (b.rightW = 0) && (mres a b).isSome && (mres b a).isSome

theorem only_at (p t : T) (sp st : Value) (w0 W : World) (hb : Below w0.heap.size w0 W) (hp : ArgsAt w0 sp p.args) (ht : ArgsAt w0 st t.args) (hr : p.rightW = 0) (hps : p.size ≤ 1048576) (hts : t.size ≤ 1048576) (x : Bool) (hx : (mres p t).isSome = x) :
    Calls Try.prog 38 #[tval p sp, tval t st] W fun e W' => Below W.heap.size W W' ∧ ∃ bm, e = .returned (.tuple #[.map (some bm), .bool x]) := by
  rw [← hx]
  exact (matched_at p t sp st w0 W hb hp ht hr hps hts).mono fun e W' h => ⟨h.1, h.2.imp fun bm h => h.1⟩

set_option maxRecDepth 100000 in
set_option maxHeartbeats 2000000 in
theorem variant_any (p t : T) (sp st : Value) (w : World) (hp : ArgsAt w sp p.args) (ht : ArgsAt w st t.args) (hps : p.size ≤ 1048576) (hts : t.size ≤ 1048576) :
    Calls Try.prog 15 #[tval p sp, tval t st] w fun e W => e = .returned (.bool (variantB p t)) ∧ Below w.heap.size w W := by
  obtain ⟨pa, pc, rfl, _, _⟩ := hp.slice
  obtain ⟨ta, tc, rfl, _, _⟩ := ht.slice
  have hb2 := below_box2 w (tbox p (.slice pa p.args.length pc)) (tbox t (.slice ta t.args.length tc))
  obtain ⟨⟨p0, p1, p2⟩, ⟨t0, t1, t2⟩⟩ := tbox2_cells w p (.slice pa p.args.length pc) t (.slice ta t.args.length tc)
  have HB : Hid (Below w.heap.size w (tbox2 w p (.slice pa p.args.length pc) t (.slice ta t.args.length tc))) := hb2
  have HRp : Hid (∀ W, Below w.heap.size w W → Calls Try.prog 24 #[tval p (.slice pa p.args.length pc)] W fun e W' => e = .returned (.int .i64 p.rightW) ∧ Below W.heap.size W W') := fun W h => right_at p _ w W h hp hps
  have HRt : Hid (∀ W, Below w.heap.size w W → Calls Try.prog 24 #[tval t (.slice ta t.args.length tc)] W fun e W' => e = .returned (.int .i64 t.rightW) ∧ Below W.heap.size W W') := fun W h => right_at t _ w W h ht hts
  have hrp := HRp.out _ hb2
  by_cases h1 : p.rightW = 0
  · have h1' : (p.rightW != 0) = false := by rw [bne_eq_false_iff_eq]; exact h1
    by_cases h2 : t.rightW = 0
    · have h2' : (t.rightW != 0) = false := by rw [bne_eq_false_iff_eq]; exact h2
      obtain ⟨x, hx⟩ : ∃ x, (mres p t).isSome = x := ⟨_, rfl⟩
      obtain ⟨y, hy⟩ : ∃ y, (mres t p).isSome = y := ⟨_, rfl⟩
      have HMA : Hid (∀ W, Below w.heap.size w W → Calls Try.prog 38 #[tval p (.slice pa p.args.length pc), tval t (.slice ta t.args.length tc)] W fun e W' => Below W.heap.size W W' ∧ ∃ bm, e = .returned (.tuple #[.map (some bm), .bool x])) := fun W h => only_at p t _ _ w W h hp ht h1 hps hts x hx
      have HMB : Hid (∀ W, Below w.heap.size w W → Calls Try.prog 38 #[tval t (.slice ta t.args.length tc), tval p (.slice pa p.args.length pc)] W fun e W' => Below W.heap.size W W' ∧ ∃ bm, e = .returned (.tuple #[.map (some bm), .bool y])) := fun W h => only_at t p _ _ w W h ht hp h2 hts hps y hy
      have HV : Hid (variantB p t = (x && y)) := by
        show variantB p t = (x && y)
        unfold variantB
        rw [decide_eq_true h1, decide_eq_true h2, hx, hy]
        simp
      clear h1 h2 hp ht hps hts hb2 hx hy
      cases x
      all_goals (
        go_enter Try.func15, Try.ntmps15
        go_wp2_with (first
          | (go_at_call 38; refine hmb.mono ?_; rintro e W4 ⟨hb4, bm', rfl⟩; have HB4 : Hid (Below w.heap.size w W4) := HB3.out.1.trans (hb4.mono HB3.out.1.size); clear hb4 hmb)
          | (go_at_call 38; refine hma.mono ?_; rintro e W3 ⟨hb3, bm, rfl⟩; have s0 := kc hb3 HB2.out.2.1 c0; have s1 := kc hb3 HB2.out.2.1 c1; have s2 := kc hb3 HB2.out.2.1 c2; have u0 := kc hb3 HB2.out.2.2 d0; have u1 := kc hb3 HB2.out.2.2 d1; have u2 := kc hb3 HB2.out.2.2 d2; have HB3 : Hid (Below w.heap.size w W3 ∧ True) := ⟨HB2.out.1.trans (hb3.mono HB2.out.1.size), trivial⟩; have hmb := HMB.out W3 HB3.out.1; clear hb3 hma)
          | (go_at_call 24; refine hrt.mono ?_; rintro e W2 ⟨rfl, hb2'⟩; have c0 := kc hb2' (by have := HB1.out.2; simp at this; omega) a0; have c1 := kc hb2' (by have := HB1.out.2; simp at this; omega) a1; have c2 := kc hb2' (by have := HB1.out.2; simp at this; omega) a2; have d0 := kc hb2' (by have := HB1.out.2; simp at this; omega) b0; have d1 := kc hb2' (by have := HB1.out.2; simp at this; omega) b1; have d2 := kc hb2' (by have := HB1.out.2; simp at this; omega) b2; have HB2 : Hid (Below w.heap.size w W2 ∧ w.heap.size < W2.heap.size ∧ w.heap.size + 1 < W2.heap.size) := ⟨HB1.out.1.trans (hb2'.mono HB1.out.1.size), by have := HB1.out.2; have := hb2'.size; simp at *; omega, by have := HB1.out.2; have := hb2'.size; simp at *; omega⟩; have hma := HMA.out W2 HB2.out.1; clear hb2' hrt)
          | (go_at_call 24; refine hrp.mono ?_; rintro e W1 ⟨rfl, hb1⟩; have a0 := kc hb1 (by simp; omega) p0; have a1 := kc hb1 (by simp; omega) p1; have a2 := kc hb1 (by simp; omega) p2; have b0 := kc hb1 (by simp) t0; have b1 := kc hb1 (by simp) t1; have b2 := kc hb1 (by simp) t2; have HB1 : Hid (Below w.heap.size w W1 ∧ (tbox2 w p (.slice pa p.args.length pc) t (.slice ta t.args.length tc)).heap.size ≤ W1.heap.size) := ⟨HB.out.trans (hb1.mono (by simp; omega)), hb1.size⟩; have hrt := HRt.out W1 HB1.out.1; clear hb1 hrp))
        all_goals go_ret
        all_goals exact ⟨ret_bool (by rw [HV.out]; simp), HB4.out⟩)
    · have HV : Hid (variantB p t = false) := by
        show variantB p t = false
        unfold variantB
        rw [decide_eq_false h2]
        simp
      have h2' : (t.rightW != 0) = true := by rw [bne_iff_ne]; exact h2
      clear h1 h2 hp ht hps hts hb2
      go_enter Try.func15, Try.ntmps15
      go_wp2_with (first
        | (go_at_call 24; refine hrt.mono ?_; rintro e W2 ⟨rfl, hb2'⟩)
        | (go_at_call 24; refine hrp.mono ?_; rintro e W1 ⟨rfl, hb1⟩; have a0 := kc hb1 (by simp; omega) p0; have a1 := kc hb1 (by simp; omega) p1; have a2 := kc hb1 (by simp; omega) p2; have b0 := kc hb1 (by simp) t0; have b1 := kc hb1 (by simp) t1; have b2 := kc hb1 (by simp) t2; have HB1 : Hid (Below w.heap.size w W1 ∧ (tbox2 w p (.slice pa p.args.length pc) t (.slice ta t.args.length tc)).heap.size ≤ W1.heap.size) := ⟨HB.out.trans (hb1.mono (by simp; omega)), hb1.size⟩; have hrt := HRt.out W1 HB1.out.1; clear hb1 hrp))
      go_ret
      exact ⟨ret_bool HV.out.symm, HB1.out.1.trans (hb2'.mono HB1.out.1.size)⟩
  · have HV : Hid (variantB p t = false) := by
      show variantB p t = false
      unfold variantB
      rw [decide_eq_false h1]
      simp
    have h1' : (p.rightW != 0) = true := by rw [bne_iff_ne]; exact h1
    clear h1 hb2 hp ht hps hts
    go_enter Try.func15, Try.ntmps15
    go_wp2_with (go_at_call 24; refine hrp.mono ?_; rintro e W1 ⟨rfl, hb1⟩)
    go_ret
    exact ⟨ret_bool HV.out.symm, HB.out.trans (hb1.mono (by simp; omega))⟩

end Go.Proofs.Ytblfbmdnkgebdaa
