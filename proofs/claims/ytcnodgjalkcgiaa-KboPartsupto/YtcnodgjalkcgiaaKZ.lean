/-
  The document's greater.
-/
import Derived.Test.YtcnodgjalkcgiaaKY
import Derived.Test.YtcnodgjalkcgiaaUC
namespace Go.Proofs.Ytcnodgjalkcgiaa
open Go.RowKit Go.Maps

open Classical in
noncomputable def grB (g : Sg) (x y : T) : Bool := decide (gr g x y)
theorem grB_iff {g : Sg} {x y : T} : grB g x y = true ↔ gr g x y := by simp [grB]
theorem grB_no {g : Sg} {x y : T} : grB g x y = false ↔ ¬ gr g x y := by simp [grB]
theorem bool_iff {a b : Bool} (h : a = true ↔ b = true) : a = b := by cases a <;> cases b <;> simp_all

theorem grB_vle {g : Sg} {x y : T} (h : ¬ vle y x) : grB g x y = false := grB_no.2 fun k => h ((gr_eq g x y).1 k).1
theorem grB_wt {g : Sg} {x y : T} (h : vle y x) (hw : x.wt g ≠ y.wt g) : grB g x y = decide (y.wt g < x.wt g) := by
  apply bool_iff
  rw [grB_iff, gr_eq, decide_eq_true_eq]
  constructor
  · rintro ⟨_, k | ⟨k, _⟩⟩
    · exact k
    · exact absurd k hw
  · intro k
    exact ⟨h, .inl k⟩
theorem grB_var {g : Sg} {x y : T} (hw : x.wt g = y.wt g) (hv : x.fn.size = 0 ∨ y.fn.size = 0) : grB g x y = false := by
  rw [grB_no, gr_eq]
  rintro ⟨_, k | ⟨_, k1, k2, _⟩⟩
  · omega
  · exact hv.elim k1 k2
theorem grB_sym {g : Sg} {x y : T} (h : vle y x) (hw : x.wt g = y.wt g) (n1 : x.fn.size ≠ 0) (n2 : y.fn.size ≠ 0) (hd : x.fn ≠ y.fn ∨ x.args.length ≠ y.args.length) : grB g x y = symB g x y := by
  apply bool_iff
  rw [grB_iff, gr_eq, symB_iff]
  constructor
  · rintro ⟨_, k | ⟨_, _, _, k | ⟨k1, k2, _⟩⟩⟩
    · omega
    · exact k
    · exact absurd k2 (hd.elim (fun e => absurd k1 e) id)
  · intro k
    exact ⟨h, .inr ⟨hw, n1, n2, .inl k⟩⟩
theorem grB_args {g : Sg} {x y : T} (h : vle y x) (hw : x.wt g = y.wt g) (n1 : x.fn.size ≠ 0) (n2 : y.fn.size ≠ 0) (hf : x.fn = y.fn) (hl : x.args.length = y.args.length) : grB g x y = true ↔ gr.grs g x.args y.args := by
  rw [grB_iff, gr_eq]
  constructor
  · rintro ⟨_, k | ⟨_, _, _, k | ⟨_, _, k⟩⟩⟩
    · omega
    · rw [hf, hl] at k
      exact absurd k (sym_irrefl g _ _)
    · exact k
  · intro k
    exact ⟨h, .inr ⟨hw, n1, n2, .inr ⟨hf, hl, k⟩⟩⟩
theorem grs_at {g : Sg} : ∀ (l m : List T) (i : Nat) (hi : i < l.length) (hj : i < m.length), l.take i = m.take i → l[i] ≠ m[i] → (gr.grs g l m ↔ gr g l[i] m[i])
  | [], _, i, hi, _, _, _ => absurd hi (by simp)
  | _ :: _, [], i, _, hj, _, _ => absurd hj (by simp)
  | a :: r, b :: s, 0, _, _, _, h => by
    have h' : a ≠ b := h
    simp [gr.grs, h']
  | a :: r, b :: s, i + 1, hi, hj, he, h => by
    simp only [List.take_succ_cons, List.cons.injEq] at he
    have h' : r[i]'(by simpa using hi) ≠ s[i]'(by simpa using hj) := h
    simp only [gr.grs, he.1, List.getElem_cons_succ, true_and, ne_eq, not_true_eq_false, false_and, or_false]
    exact grs_at r s i (by simpa using hi) (by simpa using hj) he.2 h'

theorem vle_of {x y : T} (h : ∀ v ∈ y.vs.foldl wth [], y.cnt v ≤ x.cnt v) : vle y x := by
  intro v
  by_cases hv : v ∈ y.vs
  · have := h v (((wths_rise y.vs [] List.Pairwise.nil).2 v).2 (.inr hv))
    unfold T.cnt at this
    omega
  · rw [List.count_eq_zero.2 hv]
    exact Nat.zero_le _
theorem vs_len (t : T) : (t.vs.length : Int) ≤ t.size := by
  induction t using T.ind with
  | _ t ih =>
    rw [t.vs_eq, t.size_eq, List.length_append]
    have : ∀ l : List T, (∀ a ∈ l, a ∈ t.args) → (((l.map T.vs).flatten).length : Int) ≤ (l.map T.size).sum := by
      intro l
      induction l with
      | nil => intro _; simp
      | cons a r ihl =>
        intro hl
        have h1 := ih a (hl a (by simp))
        have h2 := ihl (fun b hb => hl b (by simp [hb]))
        simp only [List.map_cons, List.sum_cons, List.flatten_cons, List.length_append]
        omega
    have h := this t.args (fun _ h => h)
    split <;> simp only [List.length_cons, List.length_nil] <;> omega
theorem cnt_small (t : T) (v : Int) (h : t.size ≤ 1048576) : wrap64 (t.cnt v) = t.cnt v := by
  have h1 := vs_len t
  have h2 := List.count_le_length (a := v) (l := t.vs)
  unfold T.cnt
  exact wrap_small (by omega) (by omega)
theorem wt_small (g : Sg) (t : T) (h : t.size ≤ 1048576) : wrap64 (t.wt g) = t.wt g := by
  have h1 := wt_le g t
  have h2 := wt_pos g t
  exact wrap_small (by omega) (by omega)
theorem arg_size {t a : T} (h : a ∈ t.args) : a.size ≤ t.size := by
  rw [t.size_eq]
  have : ∀ l : List T, a ∈ l → a.size ≤ (l.map T.size).sum := by
    intro l
    induction l with
    | nil => intro h; cases h
    | cons b r ih =>
      intro h
      have h0 : 0 ≤ (r.map T.size).sum := sum_nonneg (fun x hx => by
        obtain ⟨c, _, rfl⟩ := List.mem_map.1 hx
        have := size_pos c
        omega)
      have hb := size_pos b
      rw [List.map_cons, List.sum_cons]
      rcases List.mem_cons.1 h with rfl | h
      · omega
      · have := ih h
        omega
  have := this t.args h
  omega

/-- What greater does. -/
def GrAt (g : Sg) (x : T) : Prop :=
  ∀ (y : T) (vn vw sx sy : Value) (w : World), SgAt w g vn vw → ArgsAt w sx x.args → ArgsAt w sy y.args → x.size ≤ 1048576 → y.size ≤ 1048576 →
    Calls Try.prog 35 #[gval vn vw, tval x sx, tval y sy] w fun e w' => e = .returned (.bool (grB g x y)) ∧ Below w.heap.size w w'

set_option maxRecDepth 100000 in
set_option maxHeartbeats 8000000 in
theorem rgreater_step (g : Sg) (x : T) (ih : ∀ a ∈ x.args, GrAt g a) : GrAt g x := by
  intro y vn vw sx sy w hg hax hay hzx hzy
  obtain ⟨an, cn, rfl, _, _⟩ := hg.ns.slice
  obtain ⟨aw, cw, rfl, _, _⟩ := hg.ws.slice
  obtain ⟨a, ca, rfl, _, _⟩ := hax.slice
  obtain ⟨b, cb, rfl, _, _⟩ := hay.slice
  have hT := tri_made w (.slice an g.ns.length cn) (.slice aw g.ws.length cw) 25 x (.slice a x.args.length ca) y (.slice b y.args.length cb)
  have hC : ∀ X, Tri w (.slice an g.ns.length cn) (.slice aw g.ws.length cw) x (.slice a x.args.length ca) y (.slice b y.args.length cb) X → (X.cell? ⟨w.heap.size, 0, none⟩ = some (.slice an g.ns.length cn) ∧ X.cell? ⟨w.heap.size, 1, none⟩ = some (.slice aw g.ws.length cw)) ∧ (X.cell? ⟨w.heap.size + 1, 0, none⟩ = some (.int .i64 x.v) ∧ X.cell? ⟨w.heap.size + 1, 1, none⟩ = some (.string x.fn) ∧ X.cell? ⟨w.heap.size + 1, 2, none⟩ = some (.slice a x.args.length ca)) ∧ (X.cell? ⟨w.heap.size + 1 + 1, 0, none⟩ = some (.int .i64 y.v) ∧ X.cell? ⟨w.heap.size + 1 + 1, 1, none⟩ = some (.string y.fn) ∧ X.cell? ⟨w.heap.size + 1 + 1, 2, none⟩ = some (.slice b y.args.length cb)) := fun X h => ⟨⟨h.g0, h.g1⟩, ⟨h.a0, h.a1, h.a2⟩, h.b0, h.b1, h.b2⟩
  have HP : Hid (SgAt w g (.slice an g.ns.length cn) (.slice aw g.ws.length cw) ∧ ArgsAt w (.slice a x.args.length ca) x.args ∧ ArgsAt w (.slice b y.args.length cb) y.args ∧ x.size ≤ 1048576 ∧ y.size ≤ 1048576 ∧ ∀ a ∈ x.args, GrAt g a) := ⟨hg, hax, hay, hzx, hzy, ih⟩
  have hvl : y.vs.length ≤ 1048576 := by have := vs_len y; omega
  have hvars := rvars_any y _ _ (ArgsAt.keep hT.bel (Nat.le_refl _) hay) hvl
  have hlen := wths_len y.vs []
  obtain ⟨⟨i0, i1⟩, ⟨i2, i3, i4⟩, i5, i6, i7⟩ := hC _ hT
  obtain ⟨vl, hvlE⟩ : ∃ l, y.vs.foldl wth [] = l := ⟨_, rfl⟩
  have HV : Hid ((∀ v ∈ vl, y.cnt v ≤ x.cnt v) → vle y x) := by rw [← hvlE]; exact vle_of
  rw [hvlE] at hvars hlen
  have hll : vl.length ≤ 1048576 := by simp at hlen; omega
  clear hg hax hay hzx hzy ih hvl hvlE hlen
  go_enter Try.func35, Try.ntmps35
  go_wp2_with fail
  refine hvars.mono ?_
  rintro e W2 ⟨v', k', rfl, hrow, hb2⟩
  have hk' : vl.length = k' := by have := hrow.1; simpa using this
  subst hk'
  obtain ⟨pv, pc, rfl⟩ := row_form hrow
  have HT2 : Hid (Tri w (.slice an g.ns.length cn) (.slice aw g.ws.length cw) x (.slice a x.args.length ca) y (.slice b y.args.length cb) W2) := hT.keep hb2
  have HR2 : Hid (W2.ownsRow _ 3 1 (.slice pv vl.length pc) vl.length (vl.map (Value.int .i64))) := hrow
  clear hvars hrow hb2 hT i0 i1 i2 i3 i4 i5 i6 i7
  go_wp2
  go_loopw [8] (fun vi wr => ∃ i : Nat, vi = .int .i64 i ∧ i ≤ vl.length ∧ Hid (∀ j (hj : j < vl.length), j < i → y.cnt vl[j] ≤ x.cnt vl[j]) ∧ Hid (Tri w (.slice an g.ns.length cn) (.slice aw g.ws.length cw) x (.slice a x.args.length ca) y (.slice b y.args.length cb) wr ∧ Below W2.heap.size W2 wr)) (fun vi _ => vl.length - (intOf vi).toNat)
  case atStart => exact ⟨0, rfl, Nat.zero_le _, fun j _ hj => absurd hj (by omega), HT2.out, Below.refl _ _⟩
  case round =>
    obtain ⟨i, rfl, hi, HI, HW⟩ := hrel
    by_cases hlt : i < vl.length
    · have hTd := HW.out.1.keep (Below.refl _ wr).drew
      have hrw := row_below HR2.out HW.out.2
      obtain ⟨gr0, rfl, hgl, _, hcell⟩ := row_get hrw hlt
      have cx : ∀ X, Below wr.drew.heap.size wr.drew X → Calls Try.prog 53 #[.agg #[.int .i64 x.v, .string x.fn, .slice a x.args.length ca], .int .i64 vl[i]] X fun e X' => e = .returned (.int .i64 (x.cnt vl[i])) ∧ Below wr.drew.heap.size wr.drew X' := fun X hX => (rcount_any vl[i] x _ X (ArgsAt.keep (hTd.bel.trans (hX.mono hTd.bel.size)) (Nat.le_refl _) HP.out.2.1)).mono fun e X' ⟨h1, h2⟩ => ⟨by rw [h1, cnt_small x _ HP.out.2.2.2.1], hX.trans (h2.mono hX.size)⟩
      have cy : ∀ X, Below wr.drew.heap.size wr.drew X → Calls Try.prog 53 #[.agg #[.int .i64 y.v, .string y.fn, .slice b y.args.length cb], .int .i64 vl[i]] X fun e X' => e = .returned (.int .i64 (y.cnt vl[i])) ∧ Below wr.drew.heap.size wr.drew X' := fun X hX => (rcount_any vl[i] y _ X (ArgsAt.keep (hTd.bel.trans (hX.mono hTd.bel.size)) (Nat.le_refl _) HP.out.2.2.1)).mono fun e X' ⟨h1, h2⟩ => ⟨by rw [h1, cnt_small y _ HP.out.2.2.2.2.1], hX.trans (h2.mono hX.size)⟩
      have hC2 : ∀ X, Below wr.drew.heap.size wr.drew X → (X.cell? ⟨w.heap.size + 1, 0, none⟩ = some (.int .i64 x.v) ∧ X.cell? ⟨w.heap.size + 1, 1, none⟩ = some (.string x.fn) ∧ X.cell? ⟨w.heap.size + 1, 2, none⟩ = some (.slice a x.args.length ca)) ∧ (X.cell? ⟨w.heap.size + 1 + 1, 0, none⟩ = some (.int .i64 y.v) ∧ X.cell? ⟨w.heap.size + 1 + 1, 1, none⟩ = some (.string y.fn) ∧ X.cell? ⟨w.heap.size + 1 + 1, 2, none⟩ = some (.slice b y.args.length cb)) ∧ X.cell? ⟨gr0, i, none⟩ = some (.int .i64 vl[i]) := fun X hX => ⟨(hC _ (hTd.keep hX)).2.1, (hC _ (hTd.keep hX)).2.2, kc hX hgl hcell⟩
      have K0 := hC2 _ (Below.refl _ _)
      have HO : Hid (∀ X, Below wr.drew.heap.size wr.drew X → Tri w (.slice an g.ns.length cn) (.slice aw g.ws.length cw) x (.slice a x.args.length ca) y (.slice b y.args.length cb) X ∧ Below W2.heap.size W2 X) := fun X hX => ⟨hTd.keep hX, HW.out.2.trans (((Below.refl _ wr).drew.trans hX).mono HW.out.2.size)⟩
      have HNx : Hid (y.cnt vl[i] ≤ x.cnt vl[i] → ∀ j (hj : j < vl.length), j < i + 1 → y.cnt vl[j] ≤ x.cnt vl[j]) := fun h j hj hji => by
        by_cases ej : j = i
        · subst ej; exact h
        · exact HI.out j hj (by omega)
      have HFa : Hid (x.cnt vl[i] < y.cnt vl[i] → grB g x y = false) := fun h => grB_vle fun k => by
        have := k vl[i]
        unfold T.cnt at h
        omega
      obtain ⟨vq, hvq⟩ : ∃ q, vl[i] = q := ⟨_, rfl⟩
      rw [hvq] at cx cy hC2 K0 HNx HFa hcell
      obtain ⟨qx, hqx⟩ : ∃ q, x.cnt vq = q := ⟨_, rfl⟩
      obtain ⟨qy, hqy⟩ : ∃ q, y.cnt vq = q := ⟨_, rfl⟩
      rw [hqx] at cx HNx HFa
      rw [hqy] at cy HNx HFa
      have hi1 : (0 : Int) ≤ (i : Int) := by omega
      have hi2 : (i : Int) < (vl.length : Int) := by omega
      clear hvq hqx hqy hTd hrw HW
      by_cases hq : qx < qy
      · have eq1 : decide (qx < qy) = true := decide_eq_true hq
        have HF2 : Hid (grB g x y = false) := HFa.out hq
        clear HNx HFa
        go_wp2
        go_region_held3 (fun X => (X.cell? ⟨w.heap.size + 1, 0, none⟩ = some (.int .i64 x.v) ∧ X.cell? ⟨w.heap.size + 1, 1, none⟩ = some (.string x.fn) ∧ X.cell? ⟨w.heap.size + 1, 2, none⟩ = some (.slice a x.args.length ca)) ∧ (X.cell? ⟨w.heap.size + 1 + 1, 0, none⟩ = some (.int .i64 y.v) ∧ X.cell? ⟨w.heap.size + 1 + 1, 1, none⟩ = some (.string y.fn) ∧ X.cell? ⟨w.heap.size + 1 + 1, 2, none⟩ = some (.slice b y.args.length cb)) ∧ X.cell? ⟨gr0, i, none⟩ = some (.int .i64 vq)) (first | exact K0 | exact K3 | exact K4) (first
          | (go_at_call 53; refine (cy _ hb3).mono ?_; rintro e W4 ⟨rfl, hb4⟩; have K4 := hC2 _ hb4)
          | (go_at_call 53; refine (cx _ (Below.refl _ _)).mono ?_; rintro e W3 ⟨rfl, hb3⟩; have K3 := hC2 _ hb3))
        go_wp2
        go_ret
        exact ⟨ret_bool HF2.out.symm, (HO.out _ hb4).1.bel⟩
      · have eq1 : decide (qx < qy) = false := decide_eq_false hq
        have HN2 : Hid (∀ j (hj : j < vl.length), j < i + 1 → y.cnt vl[j] ≤ x.cnt vl[j]) := HNx.out (by omega)
        clear HNx HFa
        go_wp2
        go_region_held3 (fun X => (X.cell? ⟨w.heap.size + 1, 0, none⟩ = some (.int .i64 x.v) ∧ X.cell? ⟨w.heap.size + 1, 1, none⟩ = some (.string x.fn) ∧ X.cell? ⟨w.heap.size + 1, 2, none⟩ = some (.slice a x.args.length ca)) ∧ (X.cell? ⟨w.heap.size + 1 + 1, 0, none⟩ = some (.int .i64 y.v) ∧ X.cell? ⟨w.heap.size + 1 + 1, 1, none⟩ = some (.string y.fn) ∧ X.cell? ⟨w.heap.size + 1 + 1, 2, none⟩ = some (.slice b y.args.length cb)) ∧ X.cell? ⟨gr0, i, none⟩ = some (.int .i64 vq)) (first | exact K0 | exact K3 | exact K4) (first
          | (go_at_call 53; refine (cy _ hb3).mono ?_; rintro e W4 ⟨rfl, hb4⟩; have K4 := hC2 _ hb4)
          | (go_at_call 53; refine (cx _ (Below.refl _ _)).mono ?_; rintro e W3 ⟨rfl, hb3⟩; have K3 := hC2 _ hb3))
        have HT4 : Hid (Tri w (.slice an g.ns.length cn) (.slice aw g.ws.length cw) x (.slice a x.args.length ca) y (.slice b y.args.length cb) W4 ∧ Below W2.heap.size W2 W4) := HO.out _ hb4
        clear K0 K3 K4 hb3 hb4 hC2 cx cy
        go_wp2
        go_roundw
        case rel => exact ⟨i + 1, by go_num, by omega, HN2, HT4⟩
        case measure => simp [intOf]; omega
    · have hvle : vle y x := HV.out fun v hv => by
        obtain ⟨j, hj, rfl⟩ := List.getElem_of_mem hv
        exact HI.out j hj (by omega)
      have HVL : Hid (vle y x) := hvle
      have hTd := HW.out.1.keep (Below.refl _ wr).drew
      have wx : ∀ X, Below wr.drew.heap.size wr.drew X → Calls Try.prog 37 #[.agg #[.slice an g.ns.length cn, .slice aw g.ws.length cw], .agg #[.int .i64 x.v, .string x.fn, .slice a x.args.length ca]] X fun e X' => e = .returned (.int .i64 (x.wt g)) ∧ Below wr.drew.heap.size wr.drew X' := fun X hX => (rweight_any g x _ _ _ X (HP.out.1.keep (hTd.bel.trans (hX.mono hTd.bel.size)) (Nat.le_refl _)) (ArgsAt.keep (hTd.bel.trans (hX.mono hTd.bel.size)) (Nat.le_refl _) HP.out.2.1)).mono fun e X' ⟨h1, h2⟩ => ⟨by rw [h1, wt_small g x HP.out.2.2.2.1], hX.trans (h2.mono hX.size)⟩
      have wy : ∀ X, Below wr.drew.heap.size wr.drew X → Calls Try.prog 37 #[.agg #[.slice an g.ns.length cn, .slice aw g.ws.length cw], .agg #[.int .i64 y.v, .string y.fn, .slice b y.args.length cb]] X fun e X' => e = .returned (.int .i64 (y.wt g)) ∧ Below wr.drew.heap.size wr.drew X' := fun X hX => (rweight_any g y _ _ _ X (HP.out.1.keep (hTd.bel.trans (hX.mono hTd.bel.size)) (Nat.le_refl _)) (ArgsAt.keep (hTd.bel.trans (hX.mono hTd.bel.size)) (Nat.le_refl _) HP.out.2.2.1)).mono fun e X' ⟨h1, h2⟩ => ⟨by rw [h1, wt_small g y HP.out.2.2.2.2.1], hX.trans (h2.mono hX.size)⟩
      have hC2 : ∀ X, Below wr.drew.heap.size wr.drew X → (X.cell? ⟨w.heap.size, 0, none⟩ = some (.slice an g.ns.length cn) ∧ X.cell? ⟨w.heap.size, 1, none⟩ = some (.slice aw g.ws.length cw)) ∧ (X.cell? ⟨w.heap.size + 1, 0, none⟩ = some (.int .i64 x.v) ∧ X.cell? ⟨w.heap.size + 1, 1, none⟩ = some (.string x.fn) ∧ X.cell? ⟨w.heap.size + 1, 2, none⟩ = some (.slice a x.args.length ca)) ∧ (X.cell? ⟨w.heap.size + 1 + 1, 0, none⟩ = some (.int .i64 y.v) ∧ X.cell? ⟨w.heap.size + 1 + 1, 1, none⟩ = some (.string y.fn) ∧ X.cell? ⟨w.heap.size + 1 + 1, 2, none⟩ = some (.slice b y.args.length cb)) := fun X hX => hC _ (hTd.keep hX)
      have K0 := hC2 _ (Below.refl _ _)
      have HO : Hid (∀ X, Below wr.drew.heap.size wr.drew X → Tri w (.slice an g.ns.length cn) (.slice aw g.ws.length cw) x (.slice a x.args.length ca) y (.slice b y.args.length cb) X) := fun X hX => hTd.keep hX
      clear hTd hvle HW HI HV HR2 HT2
      obtain ⟨qx, hqx⟩ : ∃ q, x.wt g = q := ⟨_, rfl⟩
      obtain ⟨qy, hqy⟩ : ∃ q, y.wt g = q := ⟨_, rfl⟩
      rw [hqx] at wx
      rw [hqy] at wy
      have HQ : Hid (x.wt g = qx ∧ y.wt g = qy) := ⟨hqx, hqy⟩
      clear hqx hqy
      go_wp2
      go_region_held3 (fun X => (X.cell? ⟨w.heap.size, 0, none⟩ = some (.slice an g.ns.length cn) ∧ X.cell? ⟨w.heap.size, 1, none⟩ = some (.slice aw g.ws.length cw)) ∧ (X.cell? ⟨w.heap.size + 1, 0, none⟩ = some (.int .i64 x.v) ∧ X.cell? ⟨w.heap.size + 1, 1, none⟩ = some (.string x.fn) ∧ X.cell? ⟨w.heap.size + 1, 2, none⟩ = some (.slice a x.args.length ca)) ∧ (X.cell? ⟨w.heap.size + 1 + 1, 0, none⟩ = some (.int .i64 y.v) ∧ X.cell? ⟨w.heap.size + 1 + 1, 1, none⟩ = some (.string y.fn) ∧ X.cell? ⟨w.heap.size + 1 + 1, 2, none⟩ = some (.slice b y.args.length cb))) (first | exact K0 | exact K3 | exact K4) (first
        | (go_at_call 37; refine (wy _ hb3).mono ?_; rintro e W4 ⟨rfl, hb4⟩; have K4 := hC2 _ hb4)
        | (go_at_call 37; refine (wx _ (Below.refl _ _)).mono ?_; rintro e W3 ⟨rfl, hb3⟩; have K3 := hC2 _ hb3))
      have HT4 : Hid (Tri w (.slice an g.ns.length cn) (.slice aw g.ws.length cw) x (.slice a x.args.length ca) y (.slice b y.args.length cb) W4) := HO.out _ hb4
      clear K0 K3 K4 hb3 hb4 hC2 wx wy HO
      obtain ⟨⟨l0, l1⟩, ⟨l2, l3, l4⟩, l5, l6, l7⟩ := hC _ HT4.out
      by_cases hw : qx = qy
      · have e1 : (qx != qy) = false := by rw [hw]; simp
        have HW2 : Hid (x.wt g = y.wt g) := by show _ = _; rw [HQ.out.1, HQ.out.2, hw]
        have hex := ba_isEmpty x.fn
        have hey := ba_isEmpty y.fn
        clear hw
        by_cases c1 : x.fn.size = 0
        · rw [decide_eq_true c1] at hex
          have HF2 : Hid (grB g x y = false) := grB_var HW2.out (.inl c1)
          clear c1 hey
          go_wp2
          go_ret
          exact ⟨ret_bool HF2.out.symm, HT4.out.bel⟩
        rw [decide_eq_false c1] at hex
        by_cases c2 : y.fn.size = 0
        · rw [decide_eq_true c2] at hey
          have HF2 : Hid (grB g x y = false) := grB_var HW2.out (.inr c2)
          clear c1 c2
          go_wp2
          go_ret
          exact ⟨ret_bool HF2.out.symm, HT4.out.bel⟩
        rw [decide_eq_false c2] at hey
        by_cases c3 : x.fn ≠ y.fn
        · have e2 : (x.fn.toList == y.fn.toList) = false := by rw [beq_eq_false_iff_ne]; exact fun h => c3 (ba_toList_inj.1 h)
          have e3 : (x.fn.toList != y.fn.toList) = true := by rw [bne, e2]; rfl
          have HF2 : Hid (grB g x y = symB g x y) := grB_sym HVL.out HW2.out c1 c2 (.inl c3)
          have hc := rsym_any g x y _ _ a b ca cb W4 (HP.out.1.keep HT4.out.bel (Nat.le_refl _))
          clear c1 c2 c3
          go_wp2_with fail
          refine hc.mono ?_
          rintro e W5 ⟨rfl, hb5⟩
          go_wp2
          go_ret
          exact ⟨ret_bool HF2.out.symm, HT4.out.bel.trans (hb5.mono HT4.out.bel.size)⟩
        have hf : x.fn = y.fn := Classical.byContradiction c3
        have e2 : (x.fn.toList == y.fn.toList) = true := by rw [hf]; simp
        have e3 : (x.fn.toList != y.fn.toList) = false := by rw [bne, e2]; rfl
        by_cases c4 : x.args.length ≠ y.args.length
        · have e4 : ((x.args.length : Int) != (y.args.length : Int)) = true := by rw [bne_iff_ne]; omega
          have HF2 : Hid (grB g x y = symB g x y) := grB_sym HVL.out HW2.out c1 c2 (.inr c4)
          have hc := rsym_any g x y _ _ a b ca cb W4 (HP.out.1.keep HT4.out.bel (Nat.le_refl _))
          clear c1 c2 c3 hf
          go_wp2_with fail
          refine hc.mono ?_
          rintro e W5 ⟨rfl, hb5⟩
          go_wp2
          go_ret
          exact ⟨ret_bool HF2.out.symm, HT4.out.bel.trans (hb5.mono HT4.out.bel.size)⟩
        have hlxy : x.args.length = y.args.length := Classical.byContradiction c4
        have e4 : ((x.args.length : Int) != (y.args.length : Int)) = false := by rw [bne_eq_false_iff_eq]; omega
        have HGA : Hid ((grB g x y = true ↔ gr.grs g x.args y.args) ∧ x.args.length = y.args.length) := ⟨grB_args HVL.out HW2.out c1 c2 hf hlxy, hlxy⟩
        clear c1 c2 c3 c4 hf hlxy
        obtain ⟨wr2, hwr2⟩ : ∃ W, W = wr := ⟨_, rfl⟩
        subst hwr2
        go_wp2
        go_loopw [11] (fun vi wr => ∃ i : Nat, vi = .int .i64 i ∧ i ≤ x.args.length ∧ Hid (x.args.take i = y.args.take i) ∧ Hid (Tri w (.slice an g.ns.length cn) (.slice aw g.ws.length cw) x (.slice a x.args.length ca) y (.slice b y.args.length cb) wr)) (fun vi _ => x.args.length - (intOf vi).toNat)
        case atStart => exact ⟨0, rfl, Nat.zero_le _, rfl, HT4⟩
        case round =>
          obtain ⟨i, rfl, hi, HE, HR⟩ := hrel
          by_cases hlt : i < x.args.length
          · have hlt' : i < y.args.length := HGA.out.2 ▸ hlt
            have hTd := HR.out.keep (Below.refl _ wr).drew
            obtain ⟨ba, oa, s, rfl, hba, a0, a1, a2, hs⟩ := HP.out.2.1.nth hlt
            obtain ⟨bb, ob, s', rfl, hbb, b0, b1, b2, hs'⟩ := HP.out.2.2.1.nth hlt'
            obtain ⟨sa, sca, rfl, _⟩ := hs.slice
            obtain ⟨sb, scb, rfl, _⟩ := hs'.slice
            have hz1 := arg_size (List.getElem_mem hlt)
            have hz2 := arg_size (List.getElem_mem hlt')
            have sm : ∀ X, Below wr.drew.heap.size wr.drew X → Calls Try.prog 34 #[.agg #[.int .i64 x.args[i].v, .string x.args[i].fn, .slice sa x.args[i].args.length sca], .agg #[.int .i64 y.args[i].v, .string y.args[i].fn, .slice sb y.args[i].args.length scb]] X fun e X' => e = .returned (.bool (same x.args[i] y.args[i])) ∧ Below wr.drew.heap.size wr.drew X' := fun X hX => (rsame_any x.args[i] y.args[i] _ _ X (ArgsAt.keep (hTd.bel.trans (hX.mono hTd.bel.size)) (Nat.le_refl _) hs) (ArgsAt.keep (hTd.bel.trans (hX.mono hTd.bel.size)) (Nat.le_refl _) hs')).mono fun e X' ⟨h1, h2⟩ => ⟨h1, hX.trans (h2.mono hX.size)⟩
            have gt : ∀ X, Below wr.drew.heap.size wr.drew X → Calls Try.prog 35 #[.agg #[.slice an g.ns.length cn, .slice aw g.ws.length cw], .agg #[.int .i64 x.args[i].v, .string x.args[i].fn, .slice sa x.args[i].args.length sca], .agg #[.int .i64 y.args[i].v, .string y.args[i].fn, .slice sb y.args[i].args.length scb]] X fun e X' => e = .returned (.bool (grB g x.args[i] y.args[i])) ∧ Below wr.drew.heap.size wr.drew X' := fun X hX => (HP.out.2.2.2.2.2 x.args[i] (List.getElem_mem hlt) y.args[i] _ _ _ _ X (HP.out.1.keep (hTd.bel.trans (hX.mono hTd.bel.size)) (Nat.le_refl _)) (ArgsAt.keep (hTd.bel.trans (hX.mono hTd.bel.size)) (Nat.le_refl _) hs) (ArgsAt.keep (hTd.bel.trans (hX.mono hTd.bel.size)) (Nat.le_refl _) hs') (Int.le_trans hz1 HP.out.2.2.2.1) (Int.le_trans hz2 HP.out.2.2.2.2.1)).mono fun e X' ⟨h1, h2⟩ => ⟨h1, hX.trans (h2.mono hX.size)⟩
            have hC2 : ∀ X, Below wr.drew.heap.size wr.drew X → (X.cell? ⟨w.heap.size, 0, none⟩ = some (.slice an g.ns.length cn) ∧ X.cell? ⟨w.heap.size, 1, none⟩ = some (.slice aw g.ws.length cw) ∧ X.cell? ⟨w.heap.size + 1, 2, none⟩ = some (.slice (some ⟨ba, oa, none⟩) x.args.length ca) ∧ X.cell? ⟨w.heap.size + 1 + 1, 2, none⟩ = some (.slice (some ⟨bb, ob, none⟩) y.args.length cb)) ∧ (X.cell? ⟨ba, oa + i * 3, none⟩ = some (.int .i64 x.args[i].v) ∧ X.cell? ⟨ba, oa + i * 3 + 1, none⟩ = some (.string x.args[i].fn) ∧ X.cell? ⟨ba, oa + i * 3 + 2, none⟩ = some (.slice sa x.args[i].args.length sca)) ∧ (X.cell? ⟨bb, ob + i * 3, none⟩ = some (.int .i64 y.args[i].v) ∧ X.cell? ⟨bb, ob + i * 3 + 1, none⟩ = some (.string y.args[i].fn) ∧ X.cell? ⟨bb, ob + i * 3 + 2, none⟩ = some (.slice sb y.args[i].args.length scb)) := fun X hX => by
              have hbX := hTd.bel.trans (hX.mono hTd.bel.size)
              have hq := hTd.keep hX
              exact ⟨⟨hq.g0, hq.g1, hq.a2, hq.b2⟩, ⟨kc hbX hba a0, kc hbX hba a1, kc hbX hba a2⟩, kc hbX hbb b0, kc hbX hbb b1, kc hbX hbb b2⟩
            have HO : Hid (∀ X, Below wr.drew.heap.size wr.drew X → Tri w (.slice an g.ns.length cn) (.slice aw g.ws.length cw) x (.slice (some ⟨ba, oa, none⟩) x.args.length ca) y (.slice (some ⟨bb, ob, none⟩) y.args.length cb) X) := fun X hX => hTd.keep hX
            have HNx : Hid (x.args[i] = y.args[i] → x.args.take (i + 1) = y.args.take (i + 1)) := fun h => by
              rw [List.take_succ_eq_append_getElem hlt, List.take_succ_eq_append_getElem hlt', HE.out, h]
            have HFa : Hid (x.args[i] ≠ y.args[i] → grB g x y = grB g x.args[i] y.args[i]) := fun h => bool_iff (by
              rw [HGA.out.1, grs_at x.args y.args i hlt hlt' HE.out h, grB_iff])
            have K0 := hC2 _ (Below.refl _ _)
            obtain ⟨⟨m0, m1⟩, ⟨m2, m3, m4⟩, m5, m6, m7⟩ := hC _ HR.out
            obtain ⟨u, hu⟩ : ∃ u, x.args[i] = u := ⟨_, rfl⟩
            obtain ⟨v, hv⟩ : ∃ v, y.args[i] = v := ⟨_, rfl⟩
            rw [hu, hv] at sm gt HNx HFa
            rw [hu, hv] at K0
            simp only [hu, hv] at hC2
            have hi1 : (0 : Int) ≤ (i : Int) := by omega
            have hi2 : (i : Int) < (x.args.length : Int) := by omega
            have hi3 : (i : Int) < (y.args.length : Int) := by omega
            clear hu hv hs hs' a0 a1 a2 b0 b1 b2 hTd hz1 hz2
            by_cases hsm : u = v
            · have HT : Hid (x.args.take (i + 1) = y.args.take (i + 1)) := HNx.out hsm
              rw [same_iff.2 hsm] at sm
              clear hsm HNx HFa gt
              go_wp2
              go_region_held3 (fun X => (X.cell? ⟨w.heap.size, 0, none⟩ = some (.slice an g.ns.length cn) ∧ X.cell? ⟨w.heap.size, 1, none⟩ = some (.slice aw g.ws.length cw) ∧ X.cell? ⟨w.heap.size + 1, 2, none⟩ = some (.slice (some ⟨ba, oa, none⟩) x.args.length ca) ∧ X.cell? ⟨w.heap.size + 1 + 1, 2, none⟩ = some (.slice (some ⟨bb, ob, none⟩) y.args.length cb)) ∧ (X.cell? ⟨ba, oa + i * 3, none⟩ = some (.int .i64 u.v) ∧ X.cell? ⟨ba, oa + i * 3 + 1, none⟩ = some (.string u.fn) ∧ X.cell? ⟨ba, oa + i * 3 + 2, none⟩ = some (.slice sa u.args.length sca)) ∧ (X.cell? ⟨bb, ob + i * 3, none⟩ = some (.int .i64 v.v) ∧ X.cell? ⟨bb, ob + i * 3 + 1, none⟩ = some (.string v.fn) ∧ X.cell? ⟨bb, ob + i * 3 + 2, none⟩ = some (.slice sb v.args.length scb))) (first | exact K0 | exact K3) (first
                | (go_at_call 34; refine (sm _ (Below.refl _ _)).mono ?_; rintro e W5 ⟨rfl, hb5⟩; have K3 := hC2 _ hb5))
              have HT5 : Hid (Tri w (.slice an g.ns.length cn) (.slice aw g.ws.length cw) x (.slice (some ⟨ba, oa, none⟩) x.args.length ca) y (.slice (some ⟨bb, ob, none⟩) y.args.length cb) W5) := HO.out _ hb5
              clear K0 K3 hb5 hC2 sm
              go_wp2
              go_roundw
              case rel => exact ⟨i + 1, by go_num, by omega, HT, HT5⟩
              case measure => simp [intOf]; omega
            · have HF2 : Hid (grB g x y = grB g u v) := HFa.out hsm
              rw [same_false.2 hsm] at sm
              clear hsm HNx HFa
              go_wp2
              go_region_held3 (fun X => (X.cell? ⟨w.heap.size, 0, none⟩ = some (.slice an g.ns.length cn) ∧ X.cell? ⟨w.heap.size, 1, none⟩ = some (.slice aw g.ws.length cw) ∧ X.cell? ⟨w.heap.size + 1, 2, none⟩ = some (.slice (some ⟨ba, oa, none⟩) x.args.length ca) ∧ X.cell? ⟨w.heap.size + 1 + 1, 2, none⟩ = some (.slice (some ⟨bb, ob, none⟩) y.args.length cb)) ∧ (X.cell? ⟨ba, oa + i * 3, none⟩ = some (.int .i64 u.v) ∧ X.cell? ⟨ba, oa + i * 3 + 1, none⟩ = some (.string u.fn) ∧ X.cell? ⟨ba, oa + i * 3 + 2, none⟩ = some (.slice sa u.args.length sca)) ∧ (X.cell? ⟨bb, ob + i * 3, none⟩ = some (.int .i64 v.v) ∧ X.cell? ⟨bb, ob + i * 3 + 1, none⟩ = some (.string v.fn) ∧ X.cell? ⟨bb, ob + i * 3 + 2, none⟩ = some (.slice sb v.args.length scb))) (first | exact K0 | exact K3) (first
                | (go_at_call 34; refine (sm _ (Below.refl _ _)).mono ?_; rintro e W5 ⟨rfl, hb5⟩; have K3 := hC2 _ hb5))
              have hb5d : Below wr.drew.heap.size wr.drew W5.drew := hb5.trans ((Below.refl _ W5).drew.mono hb5.size)
              have K5 := hC2 _ hb5d
              clear K0 K3 sm
              go_wp2
              go_region_held3 (fun X => (X.cell? ⟨w.heap.size, 0, none⟩ = some (.slice an g.ns.length cn) ∧ X.cell? ⟨w.heap.size, 1, none⟩ = some (.slice aw g.ws.length cw) ∧ X.cell? ⟨w.heap.size + 1, 2, none⟩ = some (.slice (some ⟨ba, oa, none⟩) x.args.length ca) ∧ X.cell? ⟨w.heap.size + 1 + 1, 2, none⟩ = some (.slice (some ⟨bb, ob, none⟩) y.args.length cb)) ∧ (X.cell? ⟨ba, oa + i * 3, none⟩ = some (.int .i64 u.v) ∧ X.cell? ⟨ba, oa + i * 3 + 1, none⟩ = some (.string u.fn) ∧ X.cell? ⟨ba, oa + i * 3 + 2, none⟩ = some (.slice sa u.args.length sca)) ∧ (X.cell? ⟨bb, ob + i * 3, none⟩ = some (.int .i64 v.v) ∧ X.cell? ⟨bb, ob + i * 3 + 1, none⟩ = some (.string v.fn) ∧ X.cell? ⟨bb, ob + i * 3 + 2, none⟩ = some (.slice sb v.args.length scb))) (first | exact K5 | exact K6) (first
                | (go_at_call 35; refine (gt _ hb5d).mono ?_; rintro e W6 ⟨rfl, hb6⟩; have K6 := hC2 _ hb6))
              go_wp2
              go_ret
              exact ⟨ret_bool HF2.out.symm, (HO.out _ hb6).bel⟩
          · have HF2 : Hid (grB g x y = false) := by
              have h1 := HE.out
              rw [List.take_of_length_le (by omega), List.take_of_length_le (by have := HGA.out.2; omega)] at h1
              refine grB_no.2 fun k => ?_
              have := HGA.out.1.1 (grB_iff.2 k)
              rw [h1] at this
              exact grs_irrefl g _ this
            obtain ⟨⟨m0, m1⟩, ⟨m2, m3, m4⟩, m5, m6, m7⟩ := hC _ HR.out
            go_wp2
            go_ret
            exact ⟨ret_bool HF2.out.symm, HR.out.bel⟩
      · have e1 : (qx != qy) = true := by rw [bne_iff_ne]; exact hw
        have HF2 : Hid (grB g x y = decide (qy < qx)) := by
          show _ = _
          rw [grB_wt HVL.out (by rw [HQ.out.1, HQ.out.2]; exact hw), HQ.out.1, HQ.out.2]
        clear hw
        go_wp2
        go_ret
        exact ⟨ret_bool HF2.out.symm, HT4.out.bel⟩

/-- The document's greater. -/
theorem rgreater_any (g : Sg) (x : T) : GrAt g x := by
  induction x using T.ind with
  | _ x ih => exact rgreater_step g x ih

end Go.Proofs.Ytcnodgjalkcgiaa
