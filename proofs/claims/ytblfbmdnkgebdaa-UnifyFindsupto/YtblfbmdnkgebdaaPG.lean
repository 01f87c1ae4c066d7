/-
  unify.matched's closure.
-/
import Derived.Test.YtblfbmdnkgebdaaPF
namespace Go.Proofs.Ytblfbmdnkgebdaa
open Go.RowKit Go.Maps

/-- What the closure's loop keeps. -/
structure LI (w0 w : World) (bm N : Nat) (res : Option Ta) (ps : List Pr) (σ : Sg) (n : Nat) (v : Value) (W : World) : Prop where
  row : W.ownsRow w.heap.size 98 6 v ps.length (flat6 ps)
  args : ∀ p ∈ ps, ArgsAt w0 p.1.2 p.1.1.args ∧ ArgsAt w0 p.2.2 p.2.1.args ∧ p.1.1.shape = true
  map : MapIs W 3 bm (pm σ) n
  sub : ∀ x t sl, σ x = some (t, sl) → ArgsAt w0 sl t.args ∧ Fit64 x
  only : Only [bm] w W
  tot : mtot (ps.map Pr.ts) + n ≤ N
  run : MRun (ps.map Pr.ts).reverse σ.ta res

/-- What comes of it. -/
def MOut (w0 w : World) (bm N : Nat) (res : Option Ta) (e : Ending) (W : World) : Prop :=
  Only [bm] w W ∧ match res with
    | some τ => e = .returned (.tuple #[]) ∧ ∃ σ n, MapIs W 3 bm (pm σ) n ∧ σ.ta = τ ∧ n ≤ N ∧ ∀ x t sl, σ x = some (t, sl) → ArgsAt w0 sl t.args ∧ Fit64 x
    | none => e = .panicked misfit

theorem ps_last {ps : List Pr} (h : ps ≠ []) : ∃ qs q, ps = qs ++ [q] := ⟨ps.dropLast, ps.getLast h, (List.dropLast_concat_getLast h).symm⟩

theorem mtot_ge : ∀ qs : List Pr, qs.length ≤ mtot (qs.map Pr.ts)
  | [] => Nat.zero_le _
  | a :: r => by rw [List.map_cons, mtot_cons]; have := (Pr.ts a).1.nn_pos; have := mtot_ge r; simp; omega

theorem mrun_inv {p t : T} {R : List (T × T)} {τ : Ta} {res : Option Ta} (h : MRun ((p, t) :: R) τ res) :
    (uvar p = true ∧ τ p.v = none ∧ MRun R (τ.put p.v t) res) ∨ (uvar p = true ∧ τ p.v = some t ∧ MRun R (τ.put p.v t) res) ∨ (uvar p = true ∧ (∃ t', τ p.v = some t' ∧ t' ≠ t) ∧ res = none) ∨
      (uvar p = false ∧ p.fn = t.fn ∧ p.args.length = t.args.length ∧ MRun ((p.args.zip t.args).reverse ++ R) τ res) ∨ (uvar p = false ∧ (p.fn ≠ t.fn ∨ (p.fn = t.fn ∧ p.args.length ≠ t.args.length)) ∧ res = none) := by
  cases h with
  | varOk _ _ _ _ _ hp hτ h =>
    rcases hτ with hτ | hτ
    · exact .inl ⟨hp, hτ, h⟩
    · exact .inr (.inl ⟨hp, hτ, h⟩)
  | varNo _ _ t' _ _ hp hτ hne => exact .inr (.inr (.inl ⟨hp, ⟨t', hτ, hne⟩, rfl⟩))
  | fnOk _ _ _ _ _ hp hf hl h => exact .inr (.inr (.inr (.inl ⟨hp, hf, hl, h⟩)))
  | fnNo _ _ _ _ hp hf =>
    refine .inr (.inr (.inr (.inr ⟨hp, ?_, rfl⟩)))
    by_cases h : p.fn = t.fn
    · rcases hf with hf | hf
      · exact absurd h hf
      · exact .inr ⟨h, hf⟩
    · exact .inl h

theorem fit_shape {p : T} (h : p.shape = true) (hv : uvar p = true) : Fit64 p.v := by
  rw [T.shape_eq] at h
  have h0 : p.fn.size = 0 := by unfold uvar at hv; simpa using hv
  rw [if_pos h0] at h
  simp only [Bool.and_eq_true, decide_eq_true_eq] at h
  exact ⟨by omega, by omega⟩

theorem row6_keep {W W' : World} {n0 : Nat} {ty : TypeId} {k : Nat} {fv : Value} {n : Nat} {vs : List Value} (h : W.ownsRow n0 ty k fv n vs) (hB : ∀ g, fv.ownBlock = some g → W'.heap[g]? = W.heap[g]?) : W'.ownsRow n0 ty k fv n vs := by
  obtain ⟨h1, h2⟩ := h
  refine ⟨h1, ?_⟩
  rcases h2 with h2 | ⟨g, cap, cur, e, hb, hg, r⟩
  · exact .inl h2
  · exact .inr ⟨g, cap, cur, e, hb, (hB g (by rw [e]; rfl)).trans hg, r⟩

section
variable {w0 w wr : World} {bm N n : Nat} {res : Option Ta} {qs : List Pr} {p t : T} {sp st v : Value} {σ : Sg}

theorem LI.tail (HL : LI w0 w bm N res (qs ++ [((p, sp), (t, st))]) σ n v wr) : MRun ((p, t) :: (qs.map Pr.ts).reverse) σ.ta res ∧ mtot (qs.map Pr.ts) + p.nn + n ≤ N := by
  have h1 := HL.run
  have h2 := HL.tot
  rw [List.map_append, List.reverse_append] at h1
  rw [List.map_append, mtot_append] at h2
  refine ⟨h1, ?_⟩
  simp only [List.map_cons, List.map_nil, mtot_cons, Pr.ts] at h2
  simp only [mtot, List.map_nil, List.sum_nil] at h2 ⊢
  omega

/-- Behind stand. -/
theorem LI.var (HL : LI w0 w bm N res (qs ++ [((p, sp), (t, st))]) σ n v wr) {m n' g cap : Nat} (hm : qs.length = m) (hrow : wr.ownsRow w.heap.size 98 6 (.slice (some ⟨g, 0, none⟩) m cap) m (flat6 qs)) (hbm : bm < w.heap.size) {W' : World} (hO : Only [bm] wr W')
    (hM : MapIs W' 3 bm (pm (σ.put p.v t st)) n') (hn : n' ≤ n + 1) (hv : uvar p = true) (hrun : MRun (qs.map Pr.ts).reverse (σ.ta.put p.v t) res) : LI w0 w bm N res qs (σ.put p.v t st) n' (.slice (some ⟨g, 0, none⟩) m cap) W' := by
  have hl := hrow.lt g rfl
  refine ⟨?_, fun q hq => HL.args q (List.mem_append_left _ hq), hM, ?_, ?_, ?_, ?_⟩
  · rw [hm]
    exact row6_keep hrow (fun g' e => by
      cases e
      exact hO.block g hl.2 (by simp; omega))
  · intro x t' sl hx
    unfold Sg.put at hx
    by_cases h : x = p.v
    · rw [if_pos h] at hx
      cases hx
      have h3 := HL.args _ (List.mem_append_right _ List.mem_cons_self)
      exact ⟨h3.2.1, h ▸ fit_shape h3.2.2 hv⟩
    · rw [if_neg h] at hx
      exact HL.sub x t' sl hx
  · exact HL.only.trans hO (fun r hr => .inl hr)
  · have := HL.tail.2
    have := p.nn_pos
    omega
  · rw [ta_put]
    exact hrun

/-- What the inner loop keeps. -/
structure PI (w0 w : World) (bm n : Nat) (qs : List Pr) (p t : T) (σ : Sg) (B5 B6 : Nat) (s5 s6 : Value) (j : Nat) (zs : List Pr) (v : Value) (W : World) : Prop where
  row : W.ownsRow w.heap.size 98 6 v (qs.length + j) (flat6 (qs ++ zs))
  zl : zs.map Pr.ts = (p.args.zip t.args).take j
  zargs : ∀ z ∈ zs, ArgsAt w0 z.1.2 z.1.1.args ∧ ArgsAt w0 z.2.2 z.2.1.args
  map : MapIs W 3 bm (pm σ) n
  only : Only [bm] w W
  b5 : W.heap[B5]? = some (.cells #[.int .i64 p.v, .string p.fn, s5] 24 (0, 0))
  b6 : W.heap[B6]? = some (.cells #[.int .i64 t.v, .string t.fn, s6] 24 (0, 0))
  own : v.ownBlock ≠ some B5 ∧ v.ownBlock ≠ some B6

theorem shape_arg {p : T} (h : p.shape = true) (hp : uvar p = false) : ∀ a ∈ p.args, a.shape = true := by
  intro a ha
  rw [T.shape_eq] at h
  have h0 : p.fn.size ≠ 0 := by unfold uvar at hp; simpa using hp
  rw [if_neg h0] at h
  simp only [Bool.and_eq_true] at h
  exact List.all_eq_true.1 h.2 a ha

/-- At its end. -/
theorem PI.last (HL : LI w0 w bm N res (qs ++ [((p, sp), (t, st))]) σ n v wr) {B5 B6 j : Nat} {s5 s6 v' : Value} {zs : List Pr} {W : World} (h : PI w0 w bm n qs p t σ B5 B6 s5 s6 j zs v' W) (hj : j = p.args.length) (hl : p.args.length = t.args.length) (hp : uvar p = false)
    (hrun : MRun ((p.args.zip t.args).reverse ++ (qs.map Pr.ts).reverse) σ.ta res) : LI w0 w bm N res (qs ++ zs) σ n v' W ∧ mtot ((qs ++ zs).map Pr.ts) + 1 = mtot (qs.map Pr.ts) + p.nn := by
  have hz : zs.map Pr.ts = p.args.zip t.args := by rw [h.zl, List.take_of_length_le (by rw [List.length_zip]; omega)]
  have hzl : zs.length = j := by
    have := congrArg List.length hz
    rw [List.length_map, List.length_zip] at this
    omega
  have ht : mtot ((qs ++ zs).map Pr.ts) + 1 = mtot (qs.map Pr.ts) + p.nn := by
    rw [List.map_append, mtot_append, hz]
    have := mtot_args p t hl
    omega
  refine ⟨⟨?_, ?_, h.map, HL.sub, h.only, ?_, ?_⟩, ht⟩
  · rw [List.length_append, hzl]
    exact h.row
  · intro q hq
    rcases List.mem_append.1 hq with hq | hq
    · exact HL.args q (List.mem_append_left _ hq)
    · refine ⟨(h.zargs q hq).1, (h.zargs q hq).2, ?_⟩
      have hsh := (HL.args _ (List.mem_append_right _ List.mem_cons_self)).2.2
      have hm : Pr.ts q ∈ p.args.zip t.args := by rw [← hz]; exact List.mem_map_of_mem hq
      exact shape_arg hsh hp _ (List.of_mem_zip hm).1
  · have := HL.tail.2
    omega
  · rw [List.map_append, List.reverse_append, hz]
    exact hrun

/-- One more. -/
theorem PI.more {B5 B6 j : Nat} {s5 s6 v v' : Value} {zs : List Pr} {W Y W' : World} (h : PI w0 w bm n qs p t σ B5 B6 s5 s6 j zs v W) (hbm : bm < w.heap.size) (hj : j < p.args.length) (hj' : j < t.args.length) (hY : Below W.heap.size W Y) {pj tj : T} (hpj : p.args[j] = pj) (htj : t.args[j] = tj) (sp' st' : Value) (hsp : ArgsAt w0 sp' pj.args) (hst : ArgsAt w0 st' tj.args)
    (hrow : W'.ownsRow w.heap.size 98 6 v' (qs.length + j + 1) (flat6 (qs ++ zs) ++ cells6 ((pj, sp'), (tj, st')))) (hg : Y.grownBy W' v.ownBlock) (ho : v'.ownBlock = v.ownBlock ∨ v'.ownBlock = some Y.heap.size) :
    PI w0 w bm n qs p t σ B5 B6 s5 s6 (j + 1) (zs ++ [((pj, sp'), (tj, st'))]) v' W' := by
  subst hpj htj
  have hlt := fun g e => h.row.lt g e
  have kb : ∀ k, k < W.heap.size → v.ownBlock ≠ some k → W'.heap[k]? = W.heap[k]? := fun k hk hne => (hg.block k (Nat.lt_of_lt_of_le hk hY.size) (fun e => hne e.symm)).trans (hY.block k hk)
  have hmb : v.ownBlock ≠ some bm := fun e => by have := (hlt bm e).1; omega
  have l5 := (Array.getElem?_eq_some_iff.1 h.b5).1
  have l6 := (Array.getElem?_eq_some_iff.1 h.b6).1
  refine ⟨?_, ?_, ?_, h.map.same (kb bm h.map.lt hmb), ?_, (kb B5 l5 h.own.1).trans h.b5, (kb B6 l6 h.own.2).trans h.b6, ?_⟩
  · rw [← List.append_assoc, flat6_snoc]
    exact hrow
  · rw [List.map_append, h.zl, List.take_succ_eq_append_getElem (by rw [List.length_zip]; omega)]
    simp [Pr.ts]
  · intro z hz
    rcases List.mem_append.1 hz with hz | hz
    · exact h.zargs z hz
    · simp only [List.mem_singleton] at hz
      subst hz
      exact ⟨hsp, hst⟩
  · refine ⟨hg.os.trans (hY.os.trans h.only.os), hg.tape.trans (hY.tape.trans h.only.tape), hg.output.trans (hY.output.trans h.only.output), Nat.le_trans h.only.size (Nat.le_trans hY.size hg.size), fun k hk hn => ?_⟩
    exact (kb k (Nat.lt_of_lt_of_le hk h.only.size) (fun e => by have := (hlt k e).1; omega)).trans (h.only.block k hk hn)
  · have := hY.size
    rcases ho with e | e
    · rw [e]; exact h.own
    · rw [e]
      exact ⟨fun e => by cases e; omega, fun e => by cases e; omega⟩

/-- At its beginning. -/
theorem PI.first (HL : LI w0 w bm N res (qs ++ [((p, sp), (t, st))]) σ n v wr) {m g cap : Nat} (hm : qs.length = m) (hrow : wr.ownsRow w.heap.size 98 6 (.slice (some ⟨g, 0, none⟩) m cap) m (flat6 qs)) {W : World} (hb : Below wr.heap.size wr W) {B5 B6 : Nat} {s5 s6 : Value} (l5 : wr.heap.size ≤ B5) (l6 : wr.heap.size ≤ B6)
    (b5 : W.heap[B5]? = some (.cells #[.int .i64 p.v, .string p.fn, s5] 24 (0, 0))) (b6 : W.heap[B6]? = some (.cells #[.int .i64 t.v, .string t.fn, s6] 24 (0, 0))) : PI w0 w bm n qs p t σ B5 B6 s5 s6 0 [] (.slice (some ⟨g, 0, none⟩) m cap) W := by
  have hl := hrow.lt g rfl
  refine ⟨?_, by simp, by simp, HL.map.same (hb.block bm HL.map.lt), HL.only.trans (Only.of_below (B := [bm]) hb) (fun r hr => .inl hr), b5, b6, fun e => by have e' : g = B5 := Option.some.inj e; omega, fun e => by have e' : g = B6 := Option.some.inj e; omega⟩
  rw [List.append_nil, hm]
  exact row6_keep hrow (fun g' e => by cases e; exact hb.block g hl.2)
end

end Go.Proofs.Ytblfbmdnkgebdaa
