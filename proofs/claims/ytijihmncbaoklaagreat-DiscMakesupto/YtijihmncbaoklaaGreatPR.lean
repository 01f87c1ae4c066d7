/-
  unify.Match, Variant.
-/
import Derived.Test.YtijihmncbaoklaaGreatPQ
import Derived.Test.YtijihmncbaoklaaGreatRB
namespace Go.Proofs.YtijihmncbaoklaaGreat
open Go.RowKit Go.Maps

theorem arg_nn {p a : T} (h : a ∈ p.args) : a.nn ≤ p.nn := by
  rw [T.nn_eq p]
  have : ∀ l : List T, a ∈ l → a.nn ≤ (l.map T.nn).sum := by
    intro l
    induction l with
    | nil => intro h; cases h
    | cons x r ih =>
      intro h
      rw [List.map_cons, List.sum_cons]
      rcases List.mem_cons.1 h with rfl | h
      · omega
      · have := ih h; omega
  have := this _ h
  omega

/-- What stands for a variable is no greater than what was matched. -/
theorem MRun.small {M : Nat} {l : List (T × T)} {τ : Ta} {res : Option Ta} (h : MRun l τ res) : (∀ q ∈ l, q.2.nn ≤ M) → (∀ x t, τ x = some t → t.nn ≤ M) → ∀ τ', res = some τ' → ∀ x t, τ' x = some t → t.nn ≤ M := by
  induction h with
  | nil τ => intro _ h2 τ' e; cases e; exact h2
  | varOk p t r τ res hp hτ h ih =>
    intro h1 h2
    refine ih (fun q hq => h1 q (List.mem_cons_of_mem _ hq)) (fun x t' hx => ?_)
    unfold Ta.put at hx
    by_cases e : x = p.v
    · rw [if_pos e] at hx
      cases hx
      exact h1 _ List.mem_cons_self
    · rw [if_neg e] at hx
      exact h2 x t' hx
  | varNo => intro _ _ τ' e; cases e
  | fnOk p t r τ res hp hf hl h ih =>
    intro h1 h2
    refine ih (fun q hq => ?_) h2
    rcases List.mem_append.1 hq with hq | hq
    · have hq' := List.mem_reverse.1 hq
      have h3 := arg_nn (List.of_mem_zip (a := q.1) (b := q.2) hq').2
      have := h1 _ List.mem_cons_self
      simp only at this
      omega
    · exact h1 q (List.mem_cons_of_mem _ hq)
  | fnNo => intro _ _ τ' e; cases e

/-- What comes of matching. -/
noncomputable def mres (p t : T) : Option Ta := Classical.choose (mrun_ex (mtot [(p, t)]) [(p, t)] (Nat.le_refl _) fun _ => none)
theorem mres_run (p t : T) : MRun [(p, t)] (fun _ => none) (mres p t) := Classical.choose_spec (mrun_ex (mtot [(p, t)]) [(p, t)] (Nat.le_refl _) fun _ => none)
theorem mres_small {p t : T} {τ : Ta} (h : mres p t = some τ) : ∀ x t', τ x = some t' → t'.nn ≤ t.nn :=
  (mres_run p t).small (M := t.nn) (fun q hq => by simp only [List.mem_singleton] at hq; subst hq; exact Nat.le_refl _) (fun x t' h => by cases h) τ h

theorem right_zero {p : T} (h : p.rightW = 0) (hs : p.size ≤ 1048576) : p.shape = true ∧ p.nn ≤ 4000 := by
  unfold T.rightW at h
  have h1 := T.nn_size p
  by_cases e : p.shape = false
  · rw [if_pos e] at h; omega
  · rw [if_neg e] at h
    by_cases e2 : 60 < p.depthW
    · rw [if_pos e2] at h; omega
    · rw [if_neg e2] at h
      by_cases e3 : 4000 < wrap64 p.size
      · rw [if_pos e3] at h; omega
      · refine ⟨by simpa using e, ?_⟩
        have : wrap64 p.size = p.size := by simp only [wrap64]; omega
        omega

/-- The variables for which something stands, rising. -/
def RiseT (τ : Ta) (ks : List Int) : Prop := ks.Pairwise (· < ·) ∧ ∀ x, x ∈ ks ↔ τ x ≠ none
theorem rise_ta {σ : Sg} {τ : Ta} {ks : List Int} (h : RiseKeys σ ks) (e : σ.ta = τ) : RiseT τ ks := by
  refine ⟨h.1, fun x => ?_⟩
  rw [h.2 x, ← e]
  unfold Sg.ta
  simp

/-- What Match answers. -/
def MatchIs (n0 : Nat) (p t : T) (e : Ending) (W : World) : Prop :=
  (¬ (p.rightW = 0 ∧ t.rightW = 0) ∧ e = .returned (.tuple #[.slice none 0 0, .bool false, .int .i64 1])) ∨
  ((p.rightW = 0 ∧ t.rightW = 0) ∧ mres p t = none ∧ e = .returned (.tuple #[.slice none 0 0, .bool false, .int .i64 0])) ∨
  ((p.rightW = 0 ∧ t.rightW = 0) ∧ ∃ τ v ks, mres p t = some τ ∧ e = .returned (.tuple #[v, .bool true, .int .i64 0]) ∧ RiseT τ ks ∧ BIn n0 W.heap.size W v (listB τ ks))

/-- matched, and what listed makes of it. -/
theorem matched_at (p t : T) (sp st : Value) (w0 W : World) (hb : Below w0.heap.size w0 W) (hp : ArgsAt w0 sp p.args) (ht : ArgsAt w0 st t.args) (hr : p.rightW = 0) (hps : p.size ≤ 1048576) (hts : t.size ≤ 1048576) :
    Calls Tryz.prog 60 #[tval p sp, tval t st] W fun e W' => Below W.heap.size W W' ∧ ∃ bm, e = .returned (.tuple #[.map (some bm), .bool (mres p t).isSome]) ∧ ∀ τ, mres p t = some τ →
      Calls Tryz.prog 61 #[.map (some bm), .func (.func 62) #[] #[]] W' fun e W'' => ∃ v ks, e = .returned v ∧ RiseT τ ks ∧ BIn W'.heap.size W''.heap.size W'' v (listB τ ks) ∧ Below W'.heap.size W' W'' := by
  obtain ⟨hsh, hnn⟩ := right_zero hr hps
  refine (matched_any p t sp st W (mres p t) (ArgsAt.keep hb (Nat.le_refl _) hp) (ArgsAt.keep hb (Nat.le_refl _) ht) hsh (by omega) (mres_run p t)).mono ?_
  rintro e W' ⟨hb', bm, rfl, h⟩
  refine ⟨hb', bm, rfl, fun τ hτ => ?_⟩
  obtain ⟨σ, n, hm, hσ, hn, hs⟩ := h τ hτ
  refine (listed_any bm n σ W' hm (by omega) (fun x t' sl hx => ⟨ArgsAt.keep hb' (Nat.le_refl _) (hs x t' sl hx).1, (hs x t' sl hx).2⟩) (fun x t' sl hx => ?_)).mono ?_
  · have h1 := mres_small hτ x t' (by rw [← hσ]; simp [Sg.ta, hx])
    have h2 := T.nn_size t'
    have h3 := T.nn_size t
    omega
  · rintro e W'' ⟨v, ks, rfl, h1, h2, h3⟩
    rw [hσ] at h2
    exact ⟨v, ks, rfl, rise_ta h1 hσ, h2, h3⟩

theorem right_at (t : T) (st : Value) (w0 W : World) (hb : Below w0.heap.size w0 W) (ht : ArgsAt w0 st t.args) (hts : t.size ≤ 1048576) :
    Calls Tryz.prog 27 #[tval t st] W fun e W' => e = .returned (.int .i64 t.rightW) ∧ Below W.heap.size W W' :=
  tright_any t st W (ArgsAt.keep hb (Nat.le_refl _) ht) (short_of t hts).1

set_option maxRecDepth 100000 in
set_option maxHeartbeats 2000000 in
theorem match_any (p t : T) (sp st : Value) (w : World) (hp : ArgsAt w sp p.args) (ht : ArgsAt w st t.args) (hps : p.size ≤ 1048576) (hts : t.size ≤ 1048576) :
    Calls Tryz.prog 36 #[tval p sp, tval t st] w fun e W => MatchIs w.heap.size p t e W ∧ Below w.heap.size w W := by
  obtain ⟨pa, pc, rfl, _, _⟩ := hp.slice
  obtain ⟨ta, tc, rfl, _, _⟩ := ht.slice
  have hb2 := below_box2 w (tbox p (.slice pa p.args.length pc)) (tbox t (.slice ta t.args.length tc))
  obtain ⟨⟨p0, p1, p2⟩, ⟨t0, t1, t2⟩⟩ := tbox2_cells w p (.slice pa p.args.length pc) t (.slice ta t.args.length tc)
  have HB : Hid (Below w.heap.size w (tbox2 w p (.slice pa p.args.length pc) t (.slice ta t.args.length tc))) := hb2
  have HRp : Hid (∀ W, Below w.heap.size w W → Calls Tryz.prog 27 #[tval p (.slice pa p.args.length pc)] W fun e W' => e = .returned (.int .i64 p.rightW) ∧ Below W.heap.size W W') := fun W h => right_at p _ w W h hp hps
  have HRt : Hid (∀ W, Below w.heap.size w W → Calls Tryz.prog 27 #[tval t (.slice ta t.args.length tc)] W fun e W' => e = .returned (.int .i64 t.rightW) ∧ Below W.heap.size W W') := fun W h => right_at t _ w W h ht hts
  have hrp := HRp.out _ hb2
  by_cases h1 : p.rightW = 0
  · have h1' : (p.rightW != 0) = false := by rw [bne_eq_false_iff_eq]; exact h1
    by_cases h2 : t.rightW = 0
    · have h2' : (t.rightW != 0) = false := by rw [bne_eq_false_iff_eq]; exact h2
      have HMA : Hid (∀ W, Below w.heap.size w W → Calls Tryz.prog 60 #[tval p (.slice pa p.args.length pc), tval t (.slice ta t.args.length tc)] W fun e W' => Below W.heap.size W W' ∧ ∃ bm, e = .returned (.tuple #[.map (some bm), .bool (mres p t).isSome]) ∧ ∀ τ, mres p t = some τ →
          Calls Tryz.prog 61 #[.map (some bm), .func (.func 62) #[] #[]] W' fun e W'' => ∃ v ks, e = .returned v ∧ RiseT τ ks ∧ BIn W'.heap.size W''.heap.size W'' v (listB τ ks) ∧ Below W'.heap.size W' W'') := fun W h => matched_at p t _ _ w W h hp ht h1 hps hts
      rcases hres : mres p t with _ | τ
      · have hn' : (mres p t).isSome = false := by rw [hres]; rfl
        rw [hn'] at HMA
        have HM : Hid (∀ W, MatchIs w.heap.size p t (.returned (.tuple #[.slice none 0 0, .bool false, .int .i64 0])) W) := fun W => .inr (.inl ⟨⟨h1, h2⟩, hres, rfl⟩)
        clear h1 h2 hp ht hps hts hb2 hres
        go_enter Tryz.func36, Tryz.ntmps36
        go_wp2_with (first
          | (go_at_call 60; refine hma.mono ?_; rintro e W3 ⟨hb3, bm, rfl, _⟩)
          | (go_at_call 27; refine hrt.mono ?_; rintro e W2 ⟨rfl, hb2'⟩; have c0 := kc hb2' (by have := HB1.out.2; simp at this; omega) a0; have c1 := kc hb2' (by have := HB1.out.2; simp at this; omega) a1; have c2 := kc hb2' (by have := HB1.out.2; simp at this; omega) a2; have d0 := kc hb2' (by have := HB1.out.2; simp at this; omega) b0; have d1 := kc hb2' (by have := HB1.out.2; simp at this; omega) b1; have d2 := kc hb2' (by have := HB1.out.2; simp at this; omega) b2; have HB2 : Hid (Below w.heap.size w W2) := HB1.out.1.trans (hb2'.mono HB1.out.1.size); have hma := HMA.out W2 HB2.out; clear hb2' hrt)
          | (go_at_call 27; refine hrp.mono ?_; rintro e W1 ⟨rfl, hb1⟩; have a0 := kc hb1 (by simp; omega) p0; have a1 := kc hb1 (by simp; omega) p1; have a2 := kc hb1 (by simp; omega) p2; have b0 := kc hb1 (by simp) t0; have b1 := kc hb1 (by simp) t1; have b2 := kc hb1 (by simp) t2; have HB1 : Hid (Below w.heap.size w W1 ∧ (tbox2 w p (.slice pa p.args.length pc) t (.slice ta t.args.length tc)).heap.size ≤ W1.heap.size) := ⟨HB.out.trans (hb1.mono (by simp; omega)), hb1.size⟩; have hrt := HRt.out W1 HB1.out.1; clear hb1 hrp))
        refine bodyPost_ret (v := .tuple #[.slice none 0 0, .bool false, .int .i64 0]) (by simp [results, Tryz.results36, go_sem]) rfl ?_
        exact ⟨HM.out _, HB2.out.trans (hb3.mono HB2.out.size)⟩
      · have hn' : (mres p t).isSome = true := by rw [hres]; rfl
        rw [hn'] at HMA
        have HM : Hid ((p.rightW = 0 ∧ t.rightW = 0) ∧ mres p t = some τ) := ⟨⟨h1, h2⟩, hres⟩
        clear h1 h2 hp ht hps hts hb2 hres
        go_enter Tryz.func36, Tryz.ntmps36
        go_wp2_with (first
          | (go_at_call 61; refine hli.mono ?_; rintro e W4 ⟨v, ks, rfl, k1, k2, k3⟩; have HL : Hid (RiseT τ ks ∧ BIn W3.heap.size W4.heap.size W4 v (listB τ ks) ∧ Below W3.heap.size W3 W4) := ⟨k1, k2, k3⟩; clear k1 k2 k3 hli)
          | (go_at_call 60; refine hma.mono ?_; rintro e W3 ⟨hb3, bm, rfl, hk⟩; have hli := hk τ HM.out.2; have HB3 : Hid (Below w.heap.size w W3) := HB2.out.trans (hb3.mono HB2.out.size); clear hk hma hb3)
          | (go_at_call 27; refine hrt.mono ?_; rintro e W2 ⟨rfl, hb2'⟩; have c0 := kc hb2' (by have := HB1.out.2; simp at this; omega) a0; have c1 := kc hb2' (by have := HB1.out.2; simp at this; omega) a1; have c2 := kc hb2' (by have := HB1.out.2; simp at this; omega) a2; have d0 := kc hb2' (by have := HB1.out.2; simp at this; omega) b0; have d1 := kc hb2' (by have := HB1.out.2; simp at this; omega) b1; have d2 := kc hb2' (by have := HB1.out.2; simp at this; omega) b2; have HB2 : Hid (Below w.heap.size w W2) := HB1.out.1.trans (hb2'.mono HB1.out.1.size); have hma := HMA.out W2 HB2.out; clear hb2' hrt)
          | (go_at_call 27; refine hrp.mono ?_; rintro e W1 ⟨rfl, hb1⟩; have a0 := kc hb1 (by simp; omega) p0; have a1 := kc hb1 (by simp; omega) p1; have a2 := kc hb1 (by simp; omega) p2; have b0 := kc hb1 (by simp) t0; have b1 := kc hb1 (by simp) t1; have b2 := kc hb1 (by simp) t2; have HB1 : Hid (Below w.heap.size w W1 ∧ (tbox2 w p (.slice pa p.args.length pc) t (.slice ta t.args.length tc)).heap.size ≤ W1.heap.size) := ⟨HB.out.trans (hb1.mono (by simp; omega)), hb1.size⟩; have hrt := HRt.out W1 HB1.out.1; clear hb1 hrp))
        refine bodyPost_ret (v := .tuple #[v, .bool true, .int .i64 0]) (by simp [results, Tryz.results36, go_sem]) rfl ?_
        exact ⟨.inr (.inr ⟨HM.out.1, τ, v, ks, HM.out.2, rfl, HL.out.1, HL.out.2.1.wider HB3.out.size⟩), HB3.out.trans (HL.out.2.2.mono HB3.out.size)⟩
    · have HM : Hid (∀ W, MatchIs w.heap.size p t (.returned (.tuple #[.slice none 0 0, .bool false, .int .i64 1])) W) := fun W => .inl ⟨fun h => h2 h.2, rfl⟩
      have h2' : (t.rightW != 0) = true := by rw [bne_iff_ne]; exact h2
      clear h1 h2 hp ht hps hts hb2
      go_enter Tryz.func36, Tryz.ntmps36
      go_wp2_with (first
        | (go_at_call 27; refine hrt.mono ?_; rintro e W2 ⟨rfl, hb2'⟩)
        | (go_at_call 27; refine hrp.mono ?_; rintro e W1 ⟨rfl, hb1⟩; have a0 := kc hb1 (by simp; omega) p0; have a1 := kc hb1 (by simp; omega) p1; have a2 := kc hb1 (by simp; omega) p2; have b0 := kc hb1 (by simp) t0; have b1 := kc hb1 (by simp) t1; have b2 := kc hb1 (by simp) t2; have HB1 : Hid (Below w.heap.size w W1 ∧ (tbox2 w p (.slice pa p.args.length pc) t (.slice ta t.args.length tc)).heap.size ≤ W1.heap.size) := ⟨HB.out.trans (hb1.mono (by simp; omega)), hb1.size⟩; have hrt := HRt.out W1 HB1.out.1; clear hb1 hrp))
      refine bodyPost_ret (v := .tuple #[.slice none 0 0, .bool false, .int .i64 1]) (by simp [results, Tryz.results36, go_sem]) rfl ?_
      exact ⟨HM.out _, HB1.out.1.trans (hb2'.mono HB1.out.1.size)⟩
  · have HM : Hid (∀ W, MatchIs w.heap.size p t (.returned (.tuple #[.slice none 0 0, .bool false, .int .i64 1])) W) := fun W => .inl ⟨fun h => h1 h.1, rfl⟩
    have h1' : (p.rightW != 0) = true := by rw [bne_iff_ne]; exact h1
    clear h1 hb2 hp ht hps hts
    go_enter Tryz.func36, Tryz.ntmps36
    go_wp2_with (go_at_call 27; refine hrp.mono ?_; rintro e W1 ⟨rfl, hb1⟩)
    refine bodyPost_ret (v := .tuple #[.slice none 0 0, .bool false, .int .i64 1]) (by simp [results, Tryz.results36, go_sem]) rfl ?_
    exact ⟨HM.out _, HB.out.trans (hb1.mono (by simp; omega))⟩

end Go.Proofs.YtijihmncbaoklaaGreat
