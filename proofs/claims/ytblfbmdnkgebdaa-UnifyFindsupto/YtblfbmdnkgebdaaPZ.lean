import Derived.Test.YtblfbmdnkgebdaaPX
import Derived.Test.YtblfbmdnkgebdaaPR

/-
  Both lists of binds are one; variants.
-/
namespace Go.Proofs.Ytblfbmdnkgebdaa
open Go.RowKit Go.Maps

/-- Rising lists with the same numbers are one. -/
theorem rising_eq : ∀ {l m : List Int}, l.Pairwise (· < ·) → m.Pairwise (· < ·) → (∀ z, z ∈ l ↔ z ∈ m) → l = m
  | [], [], _, _, _ => rfl
  | [], b :: m, _, _, h => by have := (h b).2 (by simp); cases this
  | a :: l, [], _, _, h => by have := (h a).1 (by simp); cases this
  | a :: l, b :: m, hl, hm, h => by
    obtain ⟨h1, h2⟩ := List.pairwise_cons.1 hl
    obtain ⟨h3, h4⟩ := List.pairwise_cons.1 hm
    have e : a = b := by
      rcases List.mem_cons.1 ((h a).1 (by simp)) with e | e
      · exact e
      · rcases List.mem_cons.1 ((h b).2 (by simp)) with k | k
        · exact k.symm
        · have := h1 b k; have := h3 a e; omega
    subst e
    rw [rising_eq h2 h4 fun z => ?_]
    constructor
    · intro hz
      rcases List.mem_cons.1 ((h z).1 (by simp [hz])) with e | e
      · have := h1 z hz; omega
      · exact e
    · intro hz
      rcases List.mem_cons.1 ((h z).2 (by simp [hz])) with e | e
      · have := h3 z hz; omega
      · exact e

theorem findB_some {s : List Bd} {v : Int} {t : T} (h : findB s v = some t) : (v, t) ∈ s := by
  unfold findB at h
  obtain ⟨y, h1, h2⟩ := Option.map_eq_some_iff.1 h
  have h3 := List.mem_of_find?_eq_some h1
  have h4 := List.find?_some h1
  simp only [decide_eq_true_eq] at h4
  rw [← h4, ← h2]
  exact h3
theorem findB_mem {s : List Bd} (hr : Rising s) {y : Bd} (hy : y ∈ s) : findB s y.1 = some y.2 := by
  cases e : findB s y.1 with
  | none => exact absurd rfl (findB_none e y hy)
  | some t =>
    have h1 := findB_some e
    obtain ⟨i, hi, h2⟩ := List.mem_iff_getElem.1 hy
    obtain ⟨j, hj, h3⟩ := List.mem_iff_getElem.1 h1
    rcases Nat.lt_trichotomy i j with h | h | h
    · have := hr i j hj h; rw [h2, h3] at this; simp at this
    · subst h; rw [h2] at h3; rw [h3]
    · have := hr j i hi h; rw [h2, h3] at this; simp at this

theorem keys_of {s : List Bd} {ks : List Int} (hr : Rising s) (hk : RiseT (findB s) ks) : ks = s.map (·.1) := by
  refine rising_eq hk.1 (List.pairwise_map.2 (rising_iff.1 hr)) (fun z => ?_)
  rw [hk.2 z, List.mem_map]
  constructor
  · intro h
    obtain ⟨t, e⟩ := Option.ne_none_iff_exists'.1 h
    exact ⟨(z, t), findB_some e, rfl⟩
  · rintro ⟨y, hy, rfl⟩
    rw [findB_mem hr hy]
    simp

theorem list_same {s : List Bd} {ks : List Int} (hr : Rising s) (hk : RiseT (findB s) ks) : listB (findB s) ks = s.filter notSelf := by
  rw [keys_of hr hk]
  unfold listB
  rw [List.filterMap_map]
  have h : ∀ l : List Bd, (∀ y ∈ l, y ∈ s) → l.filterMap (bindOf (findB s) ∘ (·.1)) = l.filter notSelf := by
    intro l
    induction l with
    | nil => intro _; rfl
    | cons y r ih =>
      intro hl
      have ih' := ih fun x hx => hl x (List.mem_cons_of_mem _ hx)
      have e := findB_mem hr (hl y List.mem_cons_self)
      by_cases hn : notSelf y = true
      · have e2 : (bindOf (findB s) ∘ (·.1)) y = some y := by
          show bindOf (findB s) y.1 = some y
          refine bind_some e ?_
          by_cases h0 : y.2.fn.size = 0
          · refine .inr fun h1 => ?_
            simp [notSelf, h0, h1] at hn
          · exact .inl (by simp [uvar, h0])
        rw [List.filterMap_cons_some e2, ih', List.filter_cons_of_pos hn]
      · have e2 : (bindOf (findB s) ∘ (·.1)) y = none := by
          show bindOf (findB s) y.1 = none
          simp only [notSelf, Bool.not_eq_true, Bool.not_eq_false', Bool.and_eq_true, decide_eq_true_eq] at hn
          exact bind_none e (by simp [uvar, hn.1]) hn.2
        rw [List.filterMap_cons_none e2, ih', List.filter_cons_of_neg hn]
  exact h s (fun y hy => hy)

/-- A renaming of variables, one to one. -/
def Renames (s : List Bd) : Prop := (∀ y ∈ s, uvar y.2 = true) ∧ ∀ y ∈ s, ∀ z ∈ s, y.2.v = z.2.v → y = z

end Go.Proofs.Ytblfbmdnkgebdaa

/-
  unify.Variant.
-/
namespace Go.Proofs.Ytblfbmdnkgebdaa
open Go.RowKit Go.Maps

/-- Is each an instance of the other? -/
noncomputable def variantB (a b : T) : Bool := decide (a.rightW = 0) && decide (b.rightW = 0) && (mres a b).isSome && (mres b a).isSome

theorem only_at (p t : T) (sp st : Value) (w0 W : World) (hb : Below w0.heap.size w0 W) (hp : ArgsAt w0 sp p.args) (ht : ArgsAt w0 st t.args) (hr : p.rightW = 0) (hps : p.size ≤ 1048576) (hts : t.size ≤ 1048576) (x : Bool) (hx : (mres p t).isSome = x) :
    Calls Try.prog 38 #[tval p sp, tval t st] W fun e W' => Below W.heap.size W W' ∧ ∃ bm, e = .returned (.tuple #[.map (some bm), .bool x]) := by
  rw [← hx]
  exact (matched_at p t sp st w0 W hb hp ht hr hps hts).mono fun e W' h => ⟨h.1, h.2.imp fun bm h => h.1⟩

set_option maxRecDepth 100000 in
set_option maxHeartbeats 2000000 in
theorem variant_any (p t : T) (sp st : Value) (w : World) (hp : ArgsAt w sp p.args) (ht : ArgsAt w st t.args) (hps : p.size ≤ 1048576) (hts : t.size ≤ 1048576) :
    Calls Try.prog 15 #[tval p sp, tval t st] w fun e W => e = .returned (.bool (variantB p t)) ∧ Below w.heap.size w W := by
  obtain ⟨pa, pc, rfl, _, _⟩ := hp.slice
  obtain ⟨ta, tc, rfl, _, _⟩ := ht.slice
  have hb2 := below_box2 w (tbox p (.slice pa p.args.length pc)) (tbox t (.slice ta t.args.length tc))
  obtain ⟨⟨p0, p1, p2⟩, ⟨t0, t1, t2⟩⟩ := tbox2_cells w p (.slice pa p.args.length pc) t (.slice ta t.args.length tc)
  have HB : Hid (Below w.heap.size w (tbox2 w p (.slice pa p.args.length pc) t (.slice ta t.args.length tc))) := hb2
  have HRp : Hid (∀ W, Below w.heap.size w W → Calls Try.prog 24 #[tval p (.slice pa p.args.length pc)] W fun e W' => e = .returned (.int .i64 p.rightW) ∧ Below W.heap.size W W') := fun W h => right_at p _ w W h hp hps
  have HRt : Hid (∀ W, Below w.heap.size w W → Calls Try.prog 24 #[tval t (.slice ta t.args.length tc)] W fun e W' => e = .returned (.int .i64 t.rightW) ∧ Below W.heap.size W W') := fun W h => right_at t _ w W h ht hts
  have hrp := HRp.out _ hb2
  by_cases h1 : p.rightW = 0
  · have h1' : (p.rightW != 0) = false := by rw [bne_eq_false_iff_eq]; exact h1
    by_cases h2 : t.rightW = 0
    · have h2' : (t.rightW != 0) = false := by rw [bne_eq_false_iff_eq]; exact h2
      obtain ⟨x, hx⟩ : ∃ x, (mres p t).isSome = x := ⟨_, rfl⟩
      obtain ⟨y, hy⟩ : ∃ y, (mres t p).isSome = y := ⟨_, rfl⟩
      have HMA : Hid (∀ W, Below w.heap.size w W → Calls Try.prog 38 #[tval p (.slice pa p.args.length pc), tval t (.slice ta t.args.length tc)] W fun e W' => Below W.heap.size W W' ∧ ∃ bm, e = .returned (.tuple #[.map (some bm), .bool x])) := fun W h => only_at p t _ _ w W h hp ht h1 hps hts x hx
      have HMB : Hid (∀ W, Below w.heap.size w W → Calls Try.prog 38 #[tval t (.slice ta t.args.length tc), tval p (.slice pa p.args.length pc)] W fun e W' => Below W.heap.size W W' ∧ ∃ bm, e = .returned (.tuple #[.map (some bm), .bool y])) := fun W h => only_at t p _ _ w W h ht hp h2 hts hps y hy
      have HV : Hid (variantB p t = (x && y)) := by
        show variantB p t = (x && y)
        unfold variantB
        rw [decide_eq_true h1, decide_eq_true h2, hx, hy]
        simp
      clear h1 h2 hp ht hps hts hb2 hx hy
      cases x
      all_goals (
        go_enter Try.func15, Try.ntmps15
        go_wp2_with (first
          | (go_at_call 38; refine hmb.mono ?_; rintro e W4 ⟨hb4, bm', rfl⟩; have HB4 : Hid (Below w.heap.size w W4) := HB3.out.1.trans (hb4.mono HB3.out.1.size); clear hb4 hmb)
          | (go_at_call 38; refine hma.mono ?_; rintro e W3 ⟨hb3, bm, rfl⟩; have s0 := kc hb3 HB2.out.2.1 c0; have s1 := kc hb3 HB2.out.2.1 c1; have s2 := kc hb3 HB2.out.2.1 c2; have u0 := kc hb3 HB2.out.2.2 d0; have u1 := kc hb3 HB2.out.2.2 d1; have u2 := kc hb3 HB2.out.2.2 d2; have HB3 : Hid (Below w.heap.size w W3 ∧ True) := ⟨HB2.out.1.trans (hb3.mono HB2.out.1.size), trivial⟩; have hmb := HMB.out W3 HB3.out.1; clear hb3 hma)
          | (go_at_call 24; refine hrt.mono ?_; rintro e W2 ⟨rfl, hb2'⟩; have c0 := kc hb2' (by have := HB1.out.2; simp at this; omega) a0; have c1 := kc hb2' (by have := HB1.out.2; simp at this; omega) a1; have c2 := kc hb2' (by have := HB1.out.2; simp at this; omega) a2; have d0 := kc hb2' (by have := HB1.out.2; simp at this; omega) b0; have d1 := kc hb2' (by have := HB1.out.2; simp at this; omega) b1; have d2 := kc hb2' (by have := HB1.out.2; simp at this; omega) b2; have HB2 : Hid (Below w.heap.size w W2 ∧ w.heap.size < W2.heap.size ∧ w.heap.size + 1 < W2.heap.size) := ⟨HB1.out.1.trans (hb2'.mono HB1.out.1.size), by have := HB1.out.2; have := hb2'.size; simp at *; omega, by have := HB1.out.2; have := hb2'.size; simp at *; omega⟩; have hma := HMA.out W2 HB2.out.1; clear hb2' hrt)
          | (go_at_call 24; refine hrp.mono ?_; rintro e W1 ⟨rfl, hb1⟩; have a0 := kc hb1 (by simp; omega) p0; have a1 := kc hb1 (by simp; omega) p1; have a2 := kc hb1 (by simp; omega) p2; have b0 := kc hb1 (by simp) t0; have b1 := kc hb1 (by simp) t1; have b2 := kc hb1 (by simp) t2; have HB1 : Hid (Below w.heap.size w W1 ∧ (tbox2 w p (.slice pa p.args.length pc) t (.slice ta t.args.length tc)).heap.size ≤ W1.heap.size) := ⟨HB.out.trans (hb1.mono (by simp; omega)), hb1.size⟩; have hrt := HRt.out W1 HB1.out.1; clear hb1 hrp))
        all_goals go_ret
        all_goals exact ⟨ret_bool (by rw [HV.out]; simp), HB4.out⟩)
    · have HV : Hid (variantB p t = false) := by
        show variantB p t = false
        unfold variantB
        rw [decide_eq_false h2]
        simp
      have h2' : (t.rightW != 0) = true := by rw [bne_iff_ne]; exact h2
      clear h1 h2 hp ht hps hts hb2
      go_enter Try.func15, Try.ntmps15
      go_wp2_with (first
        | (go_at_call 24; refine hrt.mono ?_; rintro e W2 ⟨rfl, hb2'⟩)
        | (go_at_call 24; refine hrp.mono ?_; rintro e W1 ⟨rfl, hb1⟩; have a0 := kc hb1 (by simp; omega) p0; have a1 := kc hb1 (by simp; omega) p1; have a2 := kc hb1 (by simp; omega) p2; have b0 := kc hb1 (by simp) t0; have b1 := kc hb1 (by simp) t1; have b2 := kc hb1 (by simp) t2; have HB1 : Hid (Below w.heap.size w W1 ∧ (tbox2 w p (.slice pa p.args.length pc) t (.slice ta t.args.length tc)).heap.size ≤ W1.heap.size) := ⟨HB.out.trans (hb1.mono (by simp; omega)), hb1.size⟩; have hrt := HRt.out W1 HB1.out.1; clear hb1 hrp))
      go_ret
      exact ⟨ret_bool HV.out.symm, HB1.out.1.trans (hb2'.mono HB1.out.1.size)⟩
  · have HV : Hid (variantB p t = false) := by
      show variantB p t = false
      unfold variantB
      rw [decide_eq_false h1]
      simp
    have h1' : (p.rightW != 0) = true := by rw [bne_iff_ne]; exact h1
    clear h1 hb2 hp ht hps hts
    go_enter Try.func15, Try.ntmps15
    go_wp2_with (go_at_call 24; refine hrp.mono ?_; rintro e W1 ⟨rfl, hb1⟩)
    go_ret
    exact ⟨ret_bool HV.out.symm, HB.out.trans (hb1.mono (by simp; omega))⟩

end Go.Proofs.Ytblfbmdnkgebdaa

/-
  Variants: mathematics.
-/
namespace Go.Proofs.Ytblfbmdnkgebdaa
open Go.RowKit Go.Maps

theorem uvar_iff {p : T} : uvar p = true ↔ p.fn.size = 0 := by simp [uvar]
theorem uvar_congr {p t : T} (h : p.fn = t.fn) : uvar p = uvar t := by unfold uvar; rw [h]

/-- Back and forth. -/
theorem back_forth {θ θ' : Ta} {a b : T} (h : Fit θ a b) : Fit θ' b a → ∀ x, Occ x a → ∃ vt, θ x = some vt ∧ uvar vt = true ∧ ∃ xt, θ' vt.v = some xt ∧ xt.v = x := by
  induction h with
  | var a b hv h =>
    intro hb x hx
    cases hx with
    | here _ _ e =>
      refine ⟨b, by rw [← e]; exact h, ?_⟩
      by_cases hb0 : uvar b = true
      · exact ⟨hb0, a, (fit_var hb0).1 hb, e⟩
      · have hb1 : uvar b = false := by simpa using hb0
        have := ((fit_fn hb1).1 hb).1
        rw [uvar_congr this, hv] at hb1
        cases hb1
    | sub _ _ h => rw [hv] at h; cases h
  | fn a b hv hf hl h ih =>
    intro hb x hx
    have hb1 : uvar b = false := by rw [← uvar_congr hf]; exact hv
    cases hx with
    | here _ h => rw [hv] at h; cases h
    | sub _ y _ hy h2 =>
      obtain ⟨i, hi, rfl⟩ := List.mem_iff_getElem.1 hy
      have h3 := (fit_zip hl.symm).2 ((fit_fn hb1).1 hb).2.2
      exact ih i hi (hl ▸ hi) (h3 i (hl ▸ hi) hi) x h2

/-- The variable as a term. -/
def vtm (x : Int) : T := .mk x ⟨#[]⟩ []
theorem vtm_of {a : T} (hs : a.shape = true) (hv : uvar a = true) : a = vtm a.v := by
  have h0 := uvar_iff.1 hv
  rw [T.shape_eq, if_pos h0] at hs
  simp only [Bool.and_eq_true, decide_eq_true_eq] at hs
  refine same_ext rfl (ba_empty.1 h0) ?_
  exact List.eq_nil_of_length_eq_zero hs.2

def inv (s : List Bd) : Ta := fun w => (s.find? fun y => decide (y.2.v = w)).map fun y => vtm y.1
theorem inv_mem {s : List Bd} (h : Renames s) {y : Bd} (hy : y ∈ s) : inv s y.2.v = some (vtm y.1) := by
  unfold inv
  cases e : s.find? (fun z => decide (z.2.v = y.2.v)) with
  | none =>
    rw [List.find?_eq_none] at e
    exact absurd (by simp) (e y hy)
  | some z =>
    have h1 := List.mem_of_find?_eq_some e
    have h2 := List.find?_some e
    simp only [decide_eq_true_eq] at h2
    rw [h.2 z h1 y hy h2]
    rfl

theorem fit_back {s : List Bd} (hr : Renames s) {a b : T} (h : Fit (findB s) a b) : a.shape = true → Fit (inv s) b a := by
  induction h with
  | var a b hv h =>
    intro hs
    have h1 := findB_some h
    have h2 := inv_mem hr h1
    refine (fit_var (hr.1 _ h1)).2 ?_
    rw [vtm_of hs hv]
    exact h2
  | fn a b hv hf hl h ih =>
    intro hs
    have hb1 : uvar b = false := by rw [← uvar_congr hf]; exact hv
    exact .fn b a hb1 hf.symm hl.symm (fun i h1 h2 => ih i h2 h1 (shape_arg hs hv _ (List.getElem_mem h2)))

/-- Each is an instance of the other just where what stands for the variables is a renaming. -/
theorem back_iff {a b : T} {s : List Bd} (hs : a.shape = true) (hm : mres a b = some (findB s)) (hr : Rising s) : (mres b a).isSome = true ↔ Renames s := by
  obtain ⟨k1, k2, k3⟩ := (mrun_says (mres_run a b)).1 _ hm
  have hf : Fit (findB s) a b := k2 (a, b) List.mem_cons_self
  constructor
  · intro h
    obtain ⟨τ, hτ⟩ := Option.isSome_iff_exists.1 h
    have hf' : Fit τ b a := ((mrun_says (mres_run b a)).1 _ hτ).2.1 (b, a) List.mem_cons_self
    have key : ∀ y ∈ s, uvar y.2 = true ∧ ∃ xt, τ y.2.v = some xt ∧ xt.v = y.1 := fun y hy => by
      have e := findB_mem hr hy
      have ho : Occ y.1 a := by
        rcases k3 y.1 (by rw [e]; simp) with h | ⟨q, hq, h⟩
        · exact absurd rfl h
        · simp only [List.mem_singleton] at hq; subst hq; exact h
      obtain ⟨vt, h1, h2, h3⟩ := back_forth hf hf' y.1 ho
      rw [e] at h1
      cases h1
      exact ⟨h2, h3⟩
    refine ⟨fun y hy => (key y hy).1, fun y hy z hz e => ?_⟩
    obtain ⟨xt, h1, h2⟩ := (key y hy).2
    obtain ⟨zt, h3, h4⟩ := (key z hz).2
    rw [e, h3] at h1
    cases h1
    have e1 := findB_mem hr hy
    have e2 := findB_mem hr hz
    rw [← h2, h4, e2] at e1
    exact Prod.ext (h2.symm.trans h4) (Option.some.inj e1).symm
  · intro h
    cases e : mres b a with
    | some τ => rfl
    | none =>
      have h1 := fit_back h hf hs
      exact absurd (fun q hq => by simp only [List.mem_singleton] at hq; subst hq; exact h1) ((mrun_says (mres_run b a)).2 e (inv s) (ext_none _))

/-- What the document's Variant looks at. -/
def RVar (s : List Bd) : Prop := ∀ i (hi : i < s.length), s[i].2.fn.size = 0 ∧ ∀ k (hk : k < i), s[k].2.v ≠ s[i].2.v

theorem rvar_iff {s : List Bd} : RVar s ∧ Rising s ↔ Renames s ∧ Rising s := by
  constructor
  · rintro ⟨h, hr⟩
    refine ⟨⟨fun y hy => ?_, fun y hy z hz e => ?_⟩, hr⟩
    · obtain ⟨i, hi, rfl⟩ := List.mem_iff_getElem.1 hy
      exact uvar_iff.2 (h i hi).1
    · obtain ⟨i, hi, rfl⟩ := List.mem_iff_getElem.1 hy
      obtain ⟨j, hj, rfl⟩ := List.mem_iff_getElem.1 hz
      rcases Nat.lt_trichotomy i j with k | k | k
      · exact absurd e ((h j hj).2 i k)
      · subst k; rfl
      · exact absurd e.symm ((h i hi).2 j k)
  · rintro ⟨h, hr⟩
    refine ⟨fun i hi => ⟨uvar_iff.1 (h.1 _ (List.getElem_mem hi)), fun k hk e => ?_⟩, hr⟩
    have := h.2 _ (List.getElem_mem (Nat.lt_trans hk hi)) _ (List.getElem_mem hi) e
    have := hr k i hi hk
    simp_all

open Classical in
/-- What the document's Variant answers. -/
noncomputable def rvariantB (a b : T) : Bool := decide (a.rightW = 0) && decide (b.rightW = 0) && (match dmt a b [] with | some s => decide (RVar s) | none => false)

theorem variants (a b : T) (ha : a.size ≤ 1048576) : variantB a b = rvariantB a b := by
  unfold variantB rvariantB
  by_cases h1 : a.rightW = 0
  · rcases both_match a b with ⟨h2, h3⟩ | ⟨s, h2, h3, h4⟩
    · rw [h2, h3]
      simp
    · have h5 := back_iff (right_zero h1 ha).1 h2 h4
      have h6 : Renames s ↔ RVar s := ⟨fun h => (rvar_iff.2 ⟨h, h4⟩).1, fun h => (rvar_iff.1 ⟨h, h4⟩).1⟩
      rw [h2, h3]
      simp only [Option.isSome_some, Bool.and_true]
      congr 1
      rw [Bool.eq_iff_iff, h5, h6]
      simp
  · simp [h1]

end Go.Proofs.Ytblfbmdnkgebdaa
