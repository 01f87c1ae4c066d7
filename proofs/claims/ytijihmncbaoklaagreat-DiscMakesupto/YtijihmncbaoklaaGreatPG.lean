import Derived.Test.YtijihmncbaoklaaGreatPE
import Derived.Test.YtijihmncbaoklaaGreatSM
import Derived.Deep.Slices
import Derived.Deep.RegionLaw
import Derived.Deep.RegionHeld3
import Derived.Deep.LoopGhost
import Derived.WalkSmall

/-
  Matching, as it is done with a stack: mathematics; the stack in memory.
-/
namespace Go.Proofs.YtijihmncbaoklaaGreat
open Go.RowKit Go.Maps

/-- How many parts a term has. -/
def T.nn : T → Nat
  | .mk _ _ args => 1 + nns args
where nns : List T → Nat
  | [] => 0
  | a :: r => T.nn a + nns r

theorem T.nns_eq : ∀ l : List T, T.nn.nns l = (l.map T.nn).sum
  | [] => rfl
  | a :: r => by simp [T.nn.nns, T.nns_eq r]
theorem T.nn_eq (t : T) : t.nn = 1 + (t.args.map T.nn).sum := by
  cases t with
  | mk v fn args => simp [T.nn, T.args, T.nns_eq]
theorem T.nn_pos (t : T) : 1 ≤ t.nn := by rw [T.nn_eq]; omega
theorem T.nn_size (t : T) : (t.nn : Int) = t.size := by
  induction t using T.ind with
  | _ t ih =>
    rw [T.nn_eq, T.size_eq]
    have h : ∀ l : List T, (∀ a ∈ l, (a.nn : Int) = a.size) → (((l.map T.nn).sum : Nat) : Int) = (l.map T.size).sum := by
      intro l
      induction l with
      | nil => intro _; rfl
      | cons a r ihr =>
        intro h
        simp only [List.map_cons, List.sum_cons, Int.natCast_add]
        rw [ihr fun x hx => h x (List.mem_cons_of_mem _ hx), h a List.mem_cons_self]
    rw [Int.natCast_add, h _ ih]
    rfl

/-- What stands for each variable. -/
abbrev Ta := Int → Option T
def Ta.put (τ : Ta) (v : Int) (t : T) : Ta := fun x => if x = v then some t else τ x
def Sg.ta (σ : Sg) : Ta := fun v => (σ v).map (·.1)
theorem ta_put (σ : Sg) (v : Int) (t : T) (sl : Value) : (σ.put v t sl).ta = σ.ta.put v t := by
  funext x
  unfold Sg.ta Sg.put Ta.put
  by_cases h : x = v <;> simp [h]

/-- Pairs that are still to be matched (the next one first), what stands so far, and what comes of it. -/
inductive MRun : List (T × T) → Ta → Option Ta → Prop
  | nil (τ : Ta) : MRun [] τ (some τ)
  | varOk (p t : T) (r : List (T × T)) (τ : Ta) (res : Option Ta) (hp : uvar p = true) (hτ : τ p.v = none ∨ τ p.v = some t) (h : MRun r (τ.put p.v t) res) : MRun ((p, t) :: r) τ res
  | varNo (p t t' : T) (r : List (T × T)) (τ : Ta) (hp : uvar p = true) (hτ : τ p.v = some t') (hne : t' ≠ t) : MRun ((p, t) :: r) τ none
  | fnOk (p t : T) (r : List (T × T)) (τ : Ta) (res : Option Ta) (hp : uvar p = false) (hf : p.fn = t.fn) (hl : p.args.length = t.args.length) (h : MRun ((p.args.zip t.args).reverse ++ r) τ res) : MRun ((p, t) :: r) τ res
  | fnNo (p t : T) (r : List (T × T)) (τ : Ta) (hp : uvar p = false) (hf : p.fn ≠ t.fn ∨ p.args.length ≠ t.args.length) : MRun ((p, t) :: r) τ none

/-- How much is still to be matched. -/
def mtot (l : List (T × T)) : Nat := (l.map fun q => q.1.nn).sum
theorem mtot_append (l m : List (T × T)) : mtot (l ++ m) = mtot l + mtot m := by simp [mtot]
theorem mtot_cons (q : T × T) (l : List (T × T)) : mtot (q :: l) = q.1.nn + mtot l := by simp [mtot]
theorem mtot_reverse : ∀ l : List (T × T), mtot l.reverse = mtot l
  | [] => rfl
  | q :: r => by rw [List.reverse_cons, mtot_append, mtot_reverse r, mtot_cons, mtot_cons]; simp [mtot]; omega
theorem mtot_zip : ∀ (l m : List T), l.length = m.length → mtot (l.zip m) = (l.map T.nn).sum
  | [], [], _ => rfl
  | a :: l, b :: m, h => by rw [List.zip_cons_cons, mtot_cons, mtot_zip l m (by simpa using h)]; simp
  | [], b :: m, h => by simp at h
  | a :: l, [], h => by simp at h
theorem mtot_args (p t : T) (h : p.args.length = t.args.length) : mtot (p.args.zip t.args) + 1 = p.nn := by
  rw [mtot_zip _ _ h, T.nn_eq p]; omega

theorem mrun_ex : ∀ (n : Nat) (l : List (T × T)), mtot l ≤ n → ∀ τ, ∃ res, MRun l τ res := by
  intro n
  induction n with
  | zero =>
    intro l hl τ
    cases l with
    | nil => exact ⟨_, .nil τ⟩
    | cons q r =>
      rw [mtot_cons] at hl
      have := q.1.nn_pos
      omega
  | succ n ih =>
    intro l hl τ
    cases l with
    | nil => exact ⟨_, .nil τ⟩
    | cons q r =>
      obtain ⟨p, t⟩ := q
      rw [mtot_cons] at hl
      have h1 := p.nn_pos
      by_cases hp : uvar p = true
      · cases hτ : τ p.v with
        | none =>
          obtain ⟨res, h⟩ := ih r (by simp at hl; omega) (τ.put p.v t)
          exact ⟨res, .varOk p t r τ res hp (.inl hτ) h⟩
        | some t' =>
          by_cases he : t' = t
          · subst he
            obtain ⟨res, h⟩ := ih r (by simp at hl; omega) (τ.put p.v t')
            exact ⟨res, .varOk p t' r τ res hp (.inr hτ) h⟩
          · exact ⟨none, .varNo p t t' r τ hp hτ he⟩
      · have hp' : uvar p = false := by simpa using hp
        by_cases hf : p.fn = t.fn ∧ p.args.length = t.args.length
        · obtain ⟨res, h⟩ := ih ((p.args.zip t.args).reverse ++ r) (by
            rw [mtot_append, mtot_reverse]
            have := mtot_args p t hf.2
            simp at hl
            omega) τ
          exact ⟨res, .fnOk p t r τ res hp' hf.1 hf.2 h⟩
        · exact ⟨none, .fnNo p t r τ hp' (Decidable.or_iff_not_not_and_not.2 fun h => hf ⟨Classical.not_not.1 h.1, Classical.not_not.1 h.2⟩)⟩

theorem Tryz.info142 : (Tryz.prog.info? 142).map (fun i => (i.zero, i.size, i.bytes)) = some (some (.agg #[.int .i64 0, .string ⟨#[]⟩, .slice none 0 0, .int .i64 0, .string ⟨#[]⟩, .slice none 0 0]), 6, 96) := by kernel_rfl

/-- A pair of terms, and where their arguments lie. -/
abbrev Pr := (T × Value) × (T × Value)
def cells6 (p : Pr) : List Value := [.int .i64 p.1.1.v, .string p.1.1.fn, p.1.2, .int .i64 p.2.1.v, .string p.2.1.fn, p.2.2]
def flat6 (ps : List Pr) : List Value := ps.flatMap cells6
theorem flat6_snoc (ps : List Pr) (p : Pr) : flat6 (ps ++ [p]) = flat6 ps ++ cells6 p := by simp [flat6]
theorem flat6_len (ps : List Pr) : (flat6 ps).length = ps.length * 6 := by
  unfold flat6
  induction ps with
  | nil => rfl
  | cons p r ih => simp only [List.flatMap_cons, List.length_append, ih, List.length_cons, cells6, List.length_nil]; omega

def Pr.ts (p : Pr) : T × T := (p.1.1, p.2.1)

/-- The last of a row. -/
theorem last6 {W : World} {base g cap m : Nat} {qs : List Pr} {q : Pr} (hm : qs.length = m) (h : W.ownsRow base 142 6 (.slice (some ⟨g, 0, none⟩) (m + 1) cap) (m + 1) (flat6 (qs ++ [q]))) :
    (W.cell? ⟨g, m * 6, none⟩ = some (.int .i64 q.1.1.v) ∧ W.cell? ⟨g, m * 6 + 1, none⟩ = some (.string q.1.1.fn) ∧ W.cell? ⟨g, m * 6 + 2, none⟩ = some q.1.2 ∧ W.cell? ⟨g, m * 6 + 3, none⟩ = some (.int .i64 q.2.1.v) ∧ W.cell? ⟨g, m * 6 + 4, none⟩ = some (.string q.2.1.fn) ∧ W.cell? ⟨g, m * 6 + 5, none⟩ = some q.2.2) ∧
      W.ownsRow base 142 6 (.slice (some ⟨g, 0, none⟩) m cap) m (flat6 qs) := by
  have hl : (flat6 qs).length = m * 6 := by rw [flat6_len, hm]
  rw [flat6_snoc] at h
  have hc : ∀ j u, (cells6 q)[j]? = some u → W.cell? ⟨g, m * 6 + j, none⟩ = some u := by
    intro j u hj
    have hj6 : j < 6 := by
      have := (List.getElem?_eq_some_iff.1 hj).1
      simpa [cells6] using this
    rw [h.cellAt (m * 6 + j) (by omega), List.getElem?_append_right (by omega), hl, Nat.add_sub_cancel_left]
    exact hj
  exact ⟨⟨hc 0 _ rfl, hc 1 _ rfl, hc 2 _ rfl, hc 3 _ rfl, hc 4 _ rfl, hc 5 _ rfl⟩, ownsRow_pop hl h⟩

end Go.Proofs.YtijihmncbaoklaaGreat

/-
  unify.matched's closure.
-/
namespace Go.Proofs.YtijihmncbaoklaaGreat
open Go.RowKit Go.Maps

/-- What the closure's loop keeps. -/
structure LI (w0 w : World) (bm N : Nat) (res : Option Ta) (ps : List Pr) (σ : Sg) (n : Nat) (v : Value) (W : World) : Prop where
  row : W.ownsRow w.heap.size 142 6 v ps.length (flat6 ps)
  args : ∀ p ∈ ps, ArgsAt w0 p.1.2 p.1.1.args ∧ ArgsAt w0 p.2.2 p.2.1.args ∧ p.1.1.shape = true
  map : MapIs W 3 bm (pm σ) n
  sub : ∀ x t sl, σ x = some (t, sl) → ArgsAt w0 sl t.args ∧ Fit64 x
  only : Only [bm] w W
  tot : mtot (ps.map Pr.ts) + n ≤ N
  run : MRun (ps.map Pr.ts).reverse σ.ta res

/-- What comes of it. -/
def MOut (w0 w : World) (bm N : Nat) (res : Option Ta) (e : Ending) (W : World) : Prop :=
  Only [bm] w W ∧ match res with
    | some τ => e = .returned (.tuple #[]) ∧ ∃ σ n, MapIs W 3 bm (pm σ) n ∧ σ.ta = τ ∧ n ≤ N ∧ ∀ x t sl, σ x = some (t, sl) → ArgsAt w0 sl t.args ∧ Fit64 x
    | none => e = .panicked misfit

theorem ps_last {ps : List Pr} (h : ps ≠ []) : ∃ qs q, ps = qs ++ [q] := ⟨ps.dropLast, ps.getLast h, (List.dropLast_concat_getLast h).symm⟩

theorem mtot_ge : ∀ qs : List Pr, qs.length ≤ mtot (qs.map Pr.ts)
  | [] => Nat.zero_le _
  | a :: r => by rw [List.map_cons, mtot_cons]; have := (Pr.ts a).1.nn_pos; have := mtot_ge r; simp; omega

theorem mrun_inv {p t : T} {R : List (T × T)} {τ : Ta} {res : Option Ta} (h : MRun ((p, t) :: R) τ res) :
    (uvar p = true ∧ τ p.v = none ∧ MRun R (τ.put p.v t) res) ∨ (uvar p = true ∧ τ p.v = some t ∧ MRun R (τ.put p.v t) res) ∨ (uvar p = true ∧ (∃ t', τ p.v = some t' ∧ t' ≠ t) ∧ res = none) ∨
      (uvar p = false ∧ p.fn = t.fn ∧ p.args.length = t.args.length ∧ MRun ((p.args.zip t.args).reverse ++ R) τ res) ∨ (uvar p = false ∧ (p.fn ≠ t.fn ∨ (p.fn = t.fn ∧ p.args.length ≠ t.args.length)) ∧ res = none) := by
  cases h with
  | varOk _ _ _ _ _ hp hτ h =>
    rcases hτ with hτ | hτ
    · exact .inl ⟨hp, hτ, h⟩
    · exact .inr (.inl ⟨hp, hτ, h⟩)
  | varNo _ _ t' _ _ hp hτ hne => exact .inr (.inr (.inl ⟨hp, ⟨t', hτ, hne⟩, rfl⟩))
  | fnOk _ _ _ _ _ hp hf hl h => exact .inr (.inr (.inr (.inl ⟨hp, hf, hl, h⟩)))
  | fnNo _ _ _ _ hp hf =>
    refine .inr (.inr (.inr (.inr ⟨hp, ?_, rfl⟩)))
    by_cases h : p.fn = t.fn
    · rcases hf with hf | hf
      · exact absurd h hf
      · exact .inr ⟨h, hf⟩
    · exact .inl h

theorem fit_shape {p : T} (h : p.shape = true) (hv : uvar p = true) : Fit64 p.v := by
  rw [T.shape_eq] at h
  have h0 : p.fn.size = 0 := by unfold uvar at hv; simpa using hv
  rw [if_pos h0] at h
  simp only [Bool.and_eq_true, decide_eq_true_eq] at h
  exact ⟨by omega, by omega⟩

theorem row6_keep {W W' : World} {n0 : Nat} {ty : TypeId} {k : Nat} {fv : Value} {n : Nat} {vs : List Value} (h : W.ownsRow n0 ty k fv n vs) (hB : ∀ g, fv.ownBlock = some g → W'.heap[g]? = W.heap[g]?) : W'.ownsRow n0 ty k fv n vs := by
  obtain ⟨h1, h2⟩ := h
  refine ⟨h1, ?_⟩
  rcases h2 with h2 | ⟨g, cap, cur, e, hb, hg, r⟩
  · exact .inl h2
  · exact .inr ⟨g, cap, cur, e, hb, (hB g (by rw [e]; rfl)).trans hg, r⟩

section
variable {w0 w wr : World} {bm N n : Nat} {res : Option Ta} {qs : List Pr} {p t : T} {sp st v : Value} {σ : Sg}

theorem LI.tail (HL : LI w0 w bm N res (qs ++ [((p, sp), (t, st))]) σ n v wr) : MRun ((p, t) :: (qs.map Pr.ts).reverse) σ.ta res ∧ mtot (qs.map Pr.ts) + p.nn + n ≤ N := by
  have h1 := HL.run
  have h2 := HL.tot
  rw [List.map_append, List.reverse_append] at h1
  rw [List.map_append, mtot_append] at h2
  refine ⟨h1, ?_⟩
  simp only [List.map_cons, List.map_nil, mtot_cons, Pr.ts] at h2
  simp only [mtot, List.map_nil, List.sum_nil] at h2 ⊢
  omega

/-- Behind stand. -/
theorem LI.var (HL : LI w0 w bm N res (qs ++ [((p, sp), (t, st))]) σ n v wr) {m n' g cap : Nat} (hm : qs.length = m) (hrow : wr.ownsRow w.heap.size 142 6 (.slice (some ⟨g, 0, none⟩) m cap) m (flat6 qs)) (hbm : bm < w.heap.size) {W' : World} (hO : Only [bm] wr W')
    (hM : MapIs W' 3 bm (pm (σ.put p.v t st)) n') (hn : n' ≤ n + 1) (hv : uvar p = true) (hrun : MRun (qs.map Pr.ts).reverse (σ.ta.put p.v t) res) : LI w0 w bm N res qs (σ.put p.v t st) n' (.slice (some ⟨g, 0, none⟩) m cap) W' := by
  have hl := hrow.lt g rfl
  refine ⟨?_, fun q hq => HL.args q (List.mem_append_left _ hq), hM, ?_, ?_, ?_, ?_⟩
  · rw [hm]
    exact row6_keep hrow (fun g' e => by
      cases e
      exact hO.block g hl.2 (by simp; omega))
  · intro x t' sl hx
    unfold Sg.put at hx
    by_cases h : x = p.v
    · rw [if_pos h] at hx
      cases hx
      have h3 := HL.args _ (List.mem_append_right _ List.mem_cons_self)
      exact ⟨h3.2.1, h ▸ fit_shape h3.2.2 hv⟩
    · rw [if_neg h] at hx
      exact HL.sub x t' sl hx
  · exact HL.only.trans hO (fun r hr => .inl hr)
  · have := HL.tail.2
    have := p.nn_pos
    omega
  · rw [ta_put]
    exact hrun

/-- What the inner loop keeps. -/
structure PI (w0 w : World) (bm n : Nat) (qs : List Pr) (p t : T) (σ : Sg) (B5 B6 : Nat) (s5 s6 : Value) (j : Nat) (zs : List Pr) (v : Value) (W : World) : Prop where
  row : W.ownsRow w.heap.size 142 6 v (qs.length + j) (flat6 (qs ++ zs))
  zl : zs.map Pr.ts = (p.args.zip t.args).take j
  zargs : ∀ z ∈ zs, ArgsAt w0 z.1.2 z.1.1.args ∧ ArgsAt w0 z.2.2 z.2.1.args
  map : MapIs W 3 bm (pm σ) n
  only : Only [bm] w W
  b5 : W.heap[B5]? = some (.cells #[.int .i64 p.v, .string p.fn, s5] 32 (0, 0))
  b6 : W.heap[B6]? = some (.cells #[.int .i64 t.v, .string t.fn, s6] 32 (0, 0))
  own : v.ownBlock ≠ some B5 ∧ v.ownBlock ≠ some B6

theorem shape_arg {p : T} (h : p.shape = true) (hp : uvar p = false) : ∀ a ∈ p.args, a.shape = true := by
  intro a ha
  rw [T.shape_eq] at h
  have h0 : p.fn.size ≠ 0 := by unfold uvar at hp; simpa using hp
  rw [if_neg h0] at h
  simp only [Bool.and_eq_true] at h
  exact List.all_eq_true.1 h.2 a ha

/-- At its end. -/
theorem PI.last (HL : LI w0 w bm N res (qs ++ [((p, sp), (t, st))]) σ n v wr) {B5 B6 j : Nat} {s5 s6 v' : Value} {zs : List Pr} {W : World} (h : PI w0 w bm n qs p t σ B5 B6 s5 s6 j zs v' W) (hj : j = p.args.length) (hl : p.args.length = t.args.length) (hp : uvar p = false)
    (hrun : MRun ((p.args.zip t.args).reverse ++ (qs.map Pr.ts).reverse) σ.ta res) : LI w0 w bm N res (qs ++ zs) σ n v' W ∧ mtot ((qs ++ zs).map Pr.ts) + 1 = mtot (qs.map Pr.ts) + p.nn := by
  have hz : zs.map Pr.ts = p.args.zip t.args := by rw [h.zl, List.take_of_length_le (by rw [List.length_zip]; omega)]
  have hzl : zs.length = j := by
    have := congrArg List.length hz
    rw [List.length_map, List.length_zip] at this
    omega
  have ht : mtot ((qs ++ zs).map Pr.ts) + 1 = mtot (qs.map Pr.ts) + p.nn := by
    rw [List.map_append, mtot_append, hz]
    have := mtot_args p t hl
    omega
  refine ⟨⟨?_, ?_, h.map, HL.sub, h.only, ?_, ?_⟩, ht⟩
  · rw [List.length_append, hzl]
    exact h.row
  · intro q hq
    rcases List.mem_append.1 hq with hq | hq
    · exact HL.args q (List.mem_append_left _ hq)
    · refine ⟨(h.zargs q hq).1, (h.zargs q hq).2, ?_⟩
      have hsh := (HL.args _ (List.mem_append_right _ List.mem_cons_self)).2.2
      have hm : Pr.ts q ∈ p.args.zip t.args := by rw [← hz]; exact List.mem_map_of_mem hq
      exact shape_arg hsh hp _ (List.of_mem_zip hm).1
  · have := HL.tail.2
    omega
  · rw [List.map_append, List.reverse_append, hz]
    exact hrun

/-- One more. -/
theorem PI.more {B5 B6 j : Nat} {s5 s6 v v' : Value} {zs : List Pr} {W Y W' : World} (h : PI w0 w bm n qs p t σ B5 B6 s5 s6 j zs v W) (hbm : bm < w.heap.size) (hj : j < p.args.length) (hj' : j < t.args.length) (hY : Below W.heap.size W Y) {pj tj : T} (hpj : p.args[j] = pj) (htj : t.args[j] = tj) (sp' st' : Value) (hsp : ArgsAt w0 sp' pj.args) (hst : ArgsAt w0 st' tj.args)
    (hrow : W'.ownsRow w.heap.size 142 6 v' (qs.length + j + 1) (flat6 (qs ++ zs) ++ cells6 ((pj, sp'), (tj, st')))) (hg : Y.grownBy W' v.ownBlock) (ho : v'.ownBlock = v.ownBlock ∨ v'.ownBlock = some Y.heap.size) :
    PI w0 w bm n qs p t σ B5 B6 s5 s6 (j + 1) (zs ++ [((pj, sp'), (tj, st'))]) v' W' := by
  subst hpj htj
  have hlt := fun g e => h.row.lt g e
  have kb : ∀ k, k < W.heap.size → v.ownBlock ≠ some k → W'.heap[k]? = W.heap[k]? := fun k hk hne => (hg.block k (Nat.lt_of_lt_of_le hk hY.size) (fun e => hne e.symm)).trans (hY.block k hk)
  have hmb : v.ownBlock ≠ some bm := fun e => by have := (hlt bm e).1; omega
  have l5 := (Array.getElem?_eq_some_iff.1 h.b5).1
  have l6 := (Array.getElem?_eq_some_iff.1 h.b6).1
  refine ⟨?_, ?_, ?_, h.map.same (kb bm h.map.lt hmb), ?_, (kb B5 l5 h.own.1).trans h.b5, (kb B6 l6 h.own.2).trans h.b6, ?_⟩
  · rw [← List.append_assoc, flat6_snoc]
    exact hrow
  · rw [List.map_append, h.zl, List.take_succ_eq_append_getElem (by rw [List.length_zip]; omega)]
    simp [Pr.ts]
  · intro z hz
    rcases List.mem_append.1 hz with hz | hz
    · exact h.zargs z hz
    · simp only [List.mem_singleton] at hz
      subst hz
      exact ⟨hsp, hst⟩
  · refine ⟨hg.os.trans (hY.os.trans h.only.os), hg.tape.trans (hY.tape.trans h.only.tape), hg.output.trans (hY.output.trans h.only.output), Nat.le_trans h.only.size (Nat.le_trans hY.size hg.size), fun k hk hn => ?_⟩
    exact (kb k (Nat.lt_of_lt_of_le hk h.only.size) (fun e => by have := (hlt k e).1; omega)).trans (h.only.block k hk hn)
  · have := hY.size
    rcases ho with e | e
    · rw [e]; exact h.own
    · rw [e]
      exact ⟨fun e => by cases e; omega, fun e => by cases e; omega⟩

/-- At its beginning. -/
theorem PI.first (HL : LI w0 w bm N res (qs ++ [((p, sp), (t, st))]) σ n v wr) {m g cap : Nat} (hm : qs.length = m) (hrow : wr.ownsRow w.heap.size 142 6 (.slice (some ⟨g, 0, none⟩) m cap) m (flat6 qs)) {W : World} (hb : Below wr.heap.size wr W) {B5 B6 : Nat} {s5 s6 : Value} (l5 : wr.heap.size ≤ B5) (l6 : wr.heap.size ≤ B6)
    (b5 : W.heap[B5]? = some (.cells #[.int .i64 p.v, .string p.fn, s5] 32 (0, 0))) (b6 : W.heap[B6]? = some (.cells #[.int .i64 t.v, .string t.fn, s6] 32 (0, 0))) : PI w0 w bm n qs p t σ B5 B6 s5 s6 0 [] (.slice (some ⟨g, 0, none⟩) m cap) W := by
  have hl := hrow.lt g rfl
  refine ⟨?_, by simp, by simp, HL.map.same (hb.block bm HL.map.lt), HL.only.trans (Only.of_below (B := [bm]) hb) (fun r hr => .inl hr), b5, b6, fun e => by have e' : g = B5 := Option.some.inj e; omega, fun e => by have e' : g = B6 := Option.some.inj e; omega⟩
  rw [List.append_nil, hm]
  exact row6_keep hrow (fun g' e => by cases e; exact hb.block g hl.2)
end

end Go.Proofs.YtijihmncbaoklaaGreat
