/-
  The document's count, Symbol, Weight.
-/
import Derived.Test.YtcnodgjalkcgiaaKX
namespace Go.Proofs.Ytcnodgjalkcgiaa
open Go.RowKit Go.Maps

/-- How often a variable stands in a term. -/
def T.cnt (v : Int) (t : T) : Int := ((t.vs.count v : Nat) : Int)
def cnt0 (v : Int) (t : T) : Int := if t.fn.size = 0 ∧ t.v = v then 1 else 0
theorem cnt_eq (v : Int) (t : T) : t.cnt v = cnt0 v t + (t.args.map (T.cnt v)).sum := by
  have h : ∀ l : List T, (((l.map T.vs).flatten.count v : Nat) : Int) = (l.map (T.cnt v)).sum := by
    intro l
    induction l with
    | nil => rfl
    | cons a r ih => simp only [List.map_cons, List.flatten_cons, List.count_append, List.sum_cons, ← ih, T.cnt]; omega
  unfold cnt0
  rw [T.cnt, t.vs_eq, List.count_append, Int.natCast_add, h]
  by_cases h0 : t.fn.size = 0
  · rw [if_pos h0]
    by_cases hv : t.v = v
    · rw [if_pos ⟨h0, hv⟩, hv]; simp
    · rw [if_neg (fun k => hv k.2), List.count_eq_zero.2 (by simp; omega)]; rfl
  · rw [if_neg h0, if_neg (fun k => h0 k.1)]; rfl
theorem cstart (v : Int) (t : T) {k : Int} (h : cnt0 v t = k) (f : T → Int) (l : List T) : Value.int .i64 k = .int .i64 (wrap64 (cnt0 v t + upto f l 0)) := by
  have hr : 0 ≤ cnt0 v t ∧ cnt0 v t ≤ 1 := by unfold cnt0; split <;> omega
  rw [upto_zero, Int.add_zero, wrap_small (by omega) (by omega), h]

set_option maxHeartbeats 2000000 in
theorem rcount_any (v : Int) (t : T) : ∀ (sl : Value) (w : World), ArgsAt w sl t.args →
    Calls Try.prog 53 #[tval t sl, .int .i64 v] w fun e w' => e = .returned (.int .i64 (wrap64 (t.cnt v))) ∧ Below w.heap.size w w' := by
  induction t using T.ind with
  | _ t ih =>
    intro sl w ha
    obtain ⟨a, c, rfl, hc, hm⟩ := ha.slice
    have HS : Hid (t.cnt v = cnt0 v t + (t.args.map (T.cnt v)).sum) := cnt_eq v t
    obtain ⟨u0, u1, u2⟩ := tbox_cells w t (.slice a t.args.length c)
    have hemp := ba_isEmpty t.fn
    have HG : Hid (ArgsAt w (.slice a t.args.length c) t.args ∧ ∀ a ∈ t.args, ∀ (sl : Value) (w : World), ArgsAt w sl a.args → Calls Try.prog 53 #[tval a sl, .int .i64 v] w fun e w' => e = .returned (.int .i64 (wrap64 (a.cnt v))) ∧ Below w.heap.size w w') := ⟨ha, ih⟩
    clear ha ih
    have hcase : (t.fn.size = 0 ∧ t.v = v ∧ cnt0 v t = 1) ∨ (t.fn.size = 0 ∧ t.v ≠ v ∧ cnt0 v t = 0) ∨ (t.fn.size ≠ 0 ∧ cnt0 v t = 0) := by
      unfold cnt0
      by_cases h0 : t.fn.size = 0
      · by_cases hv : t.v = v
        · exact .inl ⟨h0, hv, by rw [if_pos ⟨h0, hv⟩]⟩
        · exact .inr (.inl ⟨h0, hv, by rw [if_neg (fun k => hv k.2)]⟩)
      · exact .inr (.inr ⟨h0, by rw [if_neg (fun k => h0 k.1)]⟩)
    rcases hcase with ⟨h0, hv, hk⟩ | ⟨h0, hv, hk⟩ | ⟨h0, hk⟩
    case' inl =>
      rw [decide_eq_true h0] at hemp
      have e1 : (t.v == v) = true := by rw [hv]; simp
      have HK : Hid (cnt0 v t = 1) := hk
      clear hk hv h0
    case' inr.inl =>
      rw [decide_eq_true h0] at hemp
      have e1 : (t.v == v) = false := by rw [beq_eq_false_iff_ne]; exact hv
      have HK : Hid (cnt0 v t = 0) := hk
      clear hk hv h0
    case' inr.inr =>
      rw [decide_eq_false h0] at hemp
      have HK : Hid (cnt0 v t = 0) := hk
      clear hk h0
    all_goals (
      go_enter Try.func53, Try.ntmps53
      go_wp2
      go_loopw [5, 6] (fun n i wr => ∃ k : Nat, k ≤ t.args.length ∧ i = .int .i64 k ∧ n = .int .i64 (wrap64 (cnt0 v t + upto (T.cnt v) t.args k)) ∧ Below (w.heap.size + 1) (w.alloc (tbox t (.slice a t.args.length c))) wr) (fun _ i _ => t.args.length - (intOf i).toNat)
      case atStart => exact ⟨0, Nat.zero_le _, rfl, cstart v t HK.out _ _, Below.refl _ _⟩
      case round =>
        obtain ⟨k, hk, rfl, rfl, hb⟩ := hrel
        have t2' := kc hb (Nat.lt_succ_self _) u2
        have haw := ArgsAt.keep (((below_box w (tbox t (.slice a t.args.length c)))).trans (hb.mono (Nat.le_succ _))) (Nat.le_refl _) HG.out.1
        by_cases hlt : k < t.args.length
        · obtain ⟨b, o, s, rfl, hbl, c0, c1, c2, hs⟩ := haw.nth hlt
          have ih' := HG.out.2 t.args[k] (List.getElem_mem hlt) s _ hs
          have HX : Hid (wrap64 (wrap64 (cnt0 v t + upto (T.cnt v) t.args k) + wrap64 (T.cnt v t.args[k])) = wrap64 (cnt0 v t + upto (T.cnt v) t.args (k + 1))) := wt_step _ _ _ _ hlt
          go_wp2_with (first | (go_at_call 53; refine ih'.mono ?_; rintro e w' ⟨rfl, hb'⟩))
          go_roundw
          case rel => exact ⟨k + 1, by omega, by go_num, by rw [← HX.out], hb.trans (hb'.mono (by have := hb.size; simp at this; omega))⟩
          case measure => simp [intOf]; omega
        · go_wp2
          go_ret
          exact ⟨ret_i64 (by rw [HS.out, upto_all _ _ _ (by omega)]), (below_box w _).trans (hb.mono (Nat.le_succ _))⟩)

/-- A symbol above another one, told. -/
def symB (g : Sg) (x y : T) : Bool := if x.fn = y.fn then decide (y.args.length < x.args.length) else g.above x.fn y.fn
theorem symB_iff {g : Sg} {x y : T} : symB g x y = true ↔ g.sym x.fn y.fn x.args.length y.args.length := by
  unfold symB Sg.sym
  by_cases h : x.fn = y.fn
  · rw [if_pos h, h, above_irrefl]
    simp
  · rw [if_neg h]
    simp [h]

set_option maxRecDepth 100000 in
set_option maxHeartbeats 2000000 in
theorem rsym_any (g : Sg) (x y : T) (vn vw : Value) (a b : Option Addr) (ca cb : Nat) (w : World) (hg : SgAt w g vn vw) :
    Calls Try.prog 54 #[gval vn vw, tval x (.slice a x.args.length ca), tval y (.slice b y.args.length cb)] w fun e w' => e = .returned (.bool (symB g x y)) ∧ Below w.heap.size w w' := by
  obtain ⟨an, cn, rfl, _, _⟩ := hg.ns.slice
  obtain ⟨aw, cw, rfl, _, _⟩ := hg.ws.slice
  have hT := tri_made w (.slice an g.ns.length cn) (.slice aw g.ws.length cw) 25 x (.slice a x.args.length ca) y (.slice b y.args.length cb)
  obtain ⟨i0, i1, j0, j1, j2, k0, k1, k2, hb, _⟩ := hT
  have hc := rabove_any g x.fn y.fn _ _ _ (hg.keep hb (Nat.le_refl _))
  have HB : Hid (Below w.heap.size w (((w.alloc (.cells #[.slice an g.ns.length cn, .slice aw g.ws.length cw] 25)).alloc (tbox x (.slice a x.args.length ca))).alloc (tbox y (.slice b y.args.length cb)))) := hb
  clear hb hg
  by_cases h : x.fn = y.fn
  · have HV : Hid (symB g x y = decide (y.args.length < x.args.length)) := by show _ = _; unfold symB; rw [if_pos h]
    have e1 : (x.fn.toList == y.fn.toList) = true := by rw [h]; simp
    clear h
    go_enter Try.func54, Try.ntmps54
    go_wp2
    go_ret
    exact ⟨ret_bool (by rw [HV.out]), HB.out⟩
  · have HV : Hid (symB g x y = g.above x.fn y.fn) := by show _ = _; unfold symB; rw [if_neg h]
    have e1 : (x.fn.toList == y.fn.toList) = false := by rw [beq_eq_false_iff_ne]; exact fun k => h (ba_toList_inj.1 k)
    clear h
    go_enter Try.func54, Try.ntmps54
    go_wp2_with fail
    refine hc.mono ?_
    rintro e W2 ⟨rfl, hb2⟩
    go_wp2
    go_ret
    exact ⟨ret_bool HV.out.symm, HB.out.trans (hb2.mono HB.out.size)⟩

set_option maxRecDepth 100000 in
set_option maxHeartbeats 2000000 in
theorem rWeight_any (g : Sg) (x : T) (vn vw sx : Value) (w : World) (hg : SgAt w g vn vw) (hax : ArgsAt w sx x.args) (hz : x.size ≤ 1048576) :
    Calls Try.prog 14 #[gval vn vw, tval x sx] w fun e w' => e = .returned (.int .i64 (cwt g x)) ∧ Below w.heap.size w w' := by
  obtain ⟨an, cn, rfl, _, _⟩ := hg.ns.slice
  obtain ⟨aw, cw, rfl, _, _⟩ := hg.ws.slice
  obtain ⟨a, ca, rfl, _, _⟩ := hax.slice
  have hT := duo_made w (.slice an g.ns.length cn) (.slice aw g.ws.length cw) 25 x (.slice a x.args.length ca)
  have hr := rright_any x _ _ (ArgsAt.keep hT.bel (Nat.le_refl _) hax)
  have HP : Hid (SgAt w g (.slice an g.ns.length cn) (.slice aw g.ws.length cw) ∧ ArgsAt w (.slice a x.args.length ca) x.args) := ⟨hg, hax⟩
  have hT' := hT
  obtain ⟨i0, i1, j0, j1, j2, _, _⟩ := hT'
  by_cases hrx : x.rightW = 0
  · have HV : Hid (cwt g x = wrap64 (x.wt g)) := by
      show _ = _
      have h1 := wt_le g x
      have h2 := wt_pos g x
      unfold cwt
      rw [if_pos hrx, wrap_small (by omega) (by omega)]
    rw [hrx] at hr
    clear hrx hg hax
    go_enter Try.func14, Try.ntmps14
    go_wp2_with fail
    refine hr.mono ?_
    rintro e W2 ⟨rfl, hb2⟩
    have hT2 := hT.keep hb2
    have hc := rweight_any g x _ _ _ W2 (HP.out.1.keep hT2.bel (Nat.le_refl _)) (ArgsAt.keep hT2.bel (Nat.le_refl _) HP.out.2)
    have HB2 : Hid (Below w.heap.size w W2) := hT2.bel
    obtain ⟨l0, l1, m0, m1, m2, _, _⟩ := hT2
    clear hr hb2 i0 i1 j0 j1 j2
    go_wp2_with fail
    refine hc.mono ?_
    rintro e W3 ⟨rfl, hb3⟩
    go_wp2
    go_ret
    exact ⟨ret_i64 HV.out.symm, HB2.out.trans (hb3.mono HB2.out.size)⟩
  · have HV : Hid (cwt g x = 0) := by show _ = _; unfold cwt; rw [if_neg hrx]
    have e3 : (x.rightW != 0) = true := by rw [bne_iff_ne]; exact hrx
    have HB1 : Hid (Below w.heap.size w ((w.alloc (.cells #[.slice an g.ns.length cn, .slice aw g.ws.length cw] 25)).alloc (tbox x (.slice a x.args.length ca)))) := hT.bel
    clear hrx hT
    go_enter Try.func14, Try.ntmps14
    go_wp2_with fail
    refine hr.mono ?_
    rintro e W2 ⟨rfl, hb2⟩
    go_wp2
    go_ret
    exact ⟨ret_i64 HV.out.symm, HB1.out.trans (hb2.mono HB1.out.size)⟩

end Go.Proofs.Ytcnodgjalkcgiaa
