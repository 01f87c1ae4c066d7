/-
  kbo.Weight; Own; the examples.
-/
import Derived.Test.YtcnodgjalkcgiaaKR
namespace Go.Proofs.Ytcnodgjalkcgiaa
open Go.RowKit Go.Maps

/-- What Weight answers. -/
def cwt (g : Sg) (x : T) : Int := if x.rightW = 0 then x.wt g else 0

set_option maxRecDepth 100000 in
set_option maxHeartbeats 4000000 in
theorem kweight_any (g : Sg) (x : T) (vn vw sx : Value) (w : World) (hg : SgAt w g vn vw) (hax : ArgsAt w sx x.args) (hzx : x.size ≤ 1048576) :
    Calls Try.prog 13 #[gval vn vw, tval x sx] w fun e w' => e = .returned (.int .i64 (cwt g x)) ∧ Below w.heap.size w w' := by
  obtain ⟨an, cn, rfl, _, _⟩ := hg.ns.slice
  obtain ⟨aw, cw, rfl, _, _⟩ := hg.ws.slice
  obtain ⟨a, ca, rfl, _, _⟩ := hax.slice
  obtain ⟨W1, hW1⟩ : ∃ W1, (w.alloc (.cells #[.slice an g.ns.length cn, .slice aw g.ws.length cw] 31)).alloc (tbox x (.slice a x.args.length ca)) = W1 := ⟨_, rfl⟩
  have hb1 : Below w.heap.size w W1 := by rw [← hW1]; exact below_box2 w _ _
  obtain ⟨c0, c1⟩ := box2_cells w (.slice an g.ns.length cn) (.slice aw g.ws.length cw) 31
  obtain ⟨t0, t1, t2⟩ := tbox_cells (w.alloc (.cells #[.slice an g.ns.length cn, .slice aw g.ws.length cw] 31)) x (.slice a x.args.length ca)
  have hbb := below_box (w.alloc (.cells #[.slice an g.ns.length cn, .slice aw g.ws.length cw] 31)) (tbox x (.slice a x.args.length ca))
  have c0' := kc hbb (by simp) c0
  have c1' := kc hbb (by simp) c1
  rw [World.size_alloc] at t0 t1 t2
  rw [hW1] at t0 t1 t2 c0' c1'
  have hsz : w.heap.size + 2 = W1.heap.size := by rw [← hW1]; simp
  have hr := tright_any x _ W1 (ArgsAt.keep hb1 (Nat.le_refl _) hax) (short_of x hzx).1
  have HP : Hid (Below w.heap.size w W1 ∧ SgAt w g (.slice an g.ns.length cn) (.slice aw g.ws.length cw) ∧ ArgsAt w (.slice a x.args.length ca) x.args ∧ w.heap.size + 2 = W1.heap.size) := ⟨hb1, hg, hax, hsz⟩
  clear hbb c0 c1 hb1 hg hax hsz
  by_cases hrx : x.rightW = 0
  · have HV : Hid (cwt g x = x.wt g) := by show _ = _; unfold cwt; rw [if_pos hrx]
    obtain ⟨sx1, sx2⟩ := right_facts hrx hzx
    rw [hrx] at hr
    clear hrx hzx
    go_enter Try.func13, Try.ntmps13
    go_wp2_with fail
    refine hr.mono ?_
    rintro e W2 ⟨rfl, hb2⟩
    have d0 := kc hb2 (by have := HP.out.2.2.2; omega) c0'
    have d1 := kc hb2 (by have := HP.out.2.2.2; omega) c1'
    have e0 := kc hb2 (by have := HP.out.2.2.2; omega) t0
    have e1 := kc hb2 (by have := HP.out.2.2.2; omega) t1
    have e2 := kc hb2 (by have := HP.out.2.2.2; omega) t2
    have hbw : Below w.heap.size w W2 := HP.out.1.trans (hb2.mono HP.out.1.size)
    have hlv := level_any g _ _ W2 (HP.out.2.1.keep hbw (Nat.le_refl _))
    have hsz2 := hb2.size
    go_wp2_with fail
    refine hlv.mono ?_
    rintro e W3 ⟨p, bp, bc, rfl, hS3⟩
    have e0' := kc hS3.bel (by have := HP.out.2.2.2; omega) e0
    have e1' := kc hS3.bel (by have := HP.out.2.2.2; omega) e1
    have e2' := kc hS3.bel (by have := HP.out.2.2.2; omega) e2
    have hax2 := (ArgsAt.keep hbw (Nat.le_refl _) HP.out.2.2.1).belowP
    have kp : ∀ k, k < W2.heap.size → k < W2.heap.size → Off p bc k ∧ W3.heap[k]? = W2.heap[k]? := fun k hk _ => ⟨⟨by have := hS3.lo.1; omega, by have := hS3.lo.2.2; omega⟩, hS3.bel.block k hk⟩
    have hax3 := hax2.keep hS3.bel.size kp
    have hbcl : bc < W3.heap.size := by
      obtain ⟨m, n, hm, _⟩ := hS3.cm
      exact hm.lt
    have hpl := hS3.lt
    have hly := lay_any W2 g p bp bc _ _ 1 (.inl rfl) [x] _ 0 _ _ _ (hS3.keep (below_box W3 (.cells #[.int .i64 x.v, .string x.fn, .slice a x.args.length ca] 28))) (argsP_one hax3 (by omega) (by omega)) (by simpa using sx1) (by rw [szs_one]; omega)
    have HB3 : Hid (Below w.heap.size w W2) := hbw
    clear hr hlv hax2 kp hax3 d0 d1 e0 e1 e2 hbw hb2 hS3
    go_wp2_with fail
    refine hly.mono ?_
    rintro e W4 ⟨⟨v4, rfl⟩, hS4, hO4⟩
    obtain ⟨⟨_, _, _, f3, _, _, _⟩, _⟩ := sbox_facts hS4.box
    have HF : Hid (Below w.heap.size w W4 ∧ wadd g 0 1 [x] = x.wt g) := ⟨HB3.out.trans (hS4.bel.mono HB3.out.size), by simp [wadd]⟩
    clear hly hS4 hO4
    go_wp2
    go_ret
    exact ⟨ret_i64 (by rw [HV.out, HF.out.2]), HF.out.1⟩
  · have HV : Hid (cwt g x = 0) := by show _ = _; unfold cwt; rw [if_neg hrx]
    have e3 : (x.rightW != 0) = true := by rw [bne_iff_ne]; exact hrx
    clear hrx
    go_enter Try.func13, Try.ntmps13
    go_wp2_with fail
    refine hr.mono ?_
    rintro e W2 ⟨rfl, hb2⟩
    go_wp2
    go_ret
    exact ⟨ret_i64 HV.out.symm, HP.out.1.trans (hb2.mono HP.out.1.size)⟩

theorem set2_below {n : Nat} {w W : World} (h : Below n w W) (b o : Nat) (u v : Value) (hb : n ≤ b) : Below n w ((W.setCell ⟨b, o, none⟩ u).setCell ⟨b, o + 1, none⟩ v) :=
  (h.setCell (p := ⟨b, o, none⟩) hb _).setCell (p := ⟨b, o + 1, none⟩) hb _

set_option maxHeartbeats 1000000 in
theorem own_any (vn vw : Value) (hn : ∃ a n c, vn = .slice a n c) (hw : ∃ a n c, vw = .slice a n c) (w : World) : Calls Try.prog 9 #[gval vn vw] w fun e w' => e = .returned (gval vn vw) ∧ Below w.heap.size w w' := by
  obtain ⟨a, n, c, rfl⟩ := hn
  obtain ⟨b, m, d, rfl⟩ := hw
  go_enter Try.func9, Try.ntmps9
  go_wp2
  refine bodyPost_ret (v := gval (.slice a n c) (.slice b m d)) (by simp [results, Try.results9, go_sem, *]) rfl ⟨rfl, ?_⟩
  first | exact below_box2 w _ _ | exact set2_below (below_box2 w _ _) _ 0 _ _ (Nat.le_succ _)

end Go.Proofs.Ytcnodgjalkcgiaa
