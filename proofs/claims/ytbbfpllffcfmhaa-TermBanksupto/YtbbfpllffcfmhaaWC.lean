import Derived.Test.YtbbfpllffcfmhaaZB

/-
  What a bank's entries stand for: mathematics.
-/
namespace Go.Proofs.Ytbbfpllffcfmhaa
open Go.RowKit Go.Maps

/-- How often a number stands as an argument. -/
def occ (es : List Ent) (i : Int) : Nat := (es.map fun e => e.nd.args.count i).sum
theorem occ_append (a b : List Ent) (i : Int) : occ (a ++ b) i = occ a i + occ b i := by simp [occ]
theorem occ_cons (e : Ent) (b : List Ent) (i : Int) : occ (e :: b) i = e.nd.args.count i + occ b i := by simp [occ]
theorem occ_congr {f : Ent → Ent} (hf : ∀ e, (f e).nd = e.nd) (es : List Ent) (i : Int) : occ (es.map f) i = occ es i := by
  unfold occ
  rw [List.map_map]
  congr 1
  exact List.map_congr_left fun e _ => by simp [hf]
theorem occ_pos {es : List Ent} {e : Ent} (he : e ∈ es) {i : Int} (hi : i ∈ e.nd.args) : 0 < occ es i := by
  induction es with
  | nil => cases he
  | cons x r ih =>
    rw [occ_cons]
    rcases List.mem_cons.1 he with rfl | he
    · have := List.count_pos_iff.2 hi; omega
    · have := ih he; omega
theorem occ_le {es : List Ent} (h : ∀ e ∈ es, e.nd.args.length ≤ 16) (i : Int) : occ es i ≤ 16 * es.length := by
  induction es with
  | nil => simp [occ]
  | cons x r ih =>
    rw [occ_cons, List.length_cons]
    have h1 := h x List.mem_cons_self
    have h2 := ih fun e he => h e (List.mem_cons_of_mem _ he)
    have := List.count_le_length (a := i) (l := x.nd.args)
    omega

/-- Entries in order; P: numbers whose uses are still to be taken back. -/
structure Bk (es : List Ent) (P : List Int) : Prop where
  nod : (es.map (·.id)).Nodup
  nds : ∀ e ∈ es, ∀ e' ∈ es, e.nd = e'.nd → e = e'
  arg : ∀ e ∈ es, ∀ a ∈ e.nd.args, a ∈ es.map (·.id) ∧ a < e.id
  use : ∀ e ∈ es, e.uses = ((occ es e.id + P.count e.id : Nat) : Int)
  pnd : ∀ a ∈ P, a ∈ es.map (·.id)
  kpt : ∀ e ∈ es, 0 ≤ e.kept
  fine : ∀ e ∈ es, e.nd.Fine
  fit : ∀ e ∈ es, Fit64 e.id

theorem id_inj : ∀ {es : List Ent}, (es.map (·.id)).Nodup → ∀ {e e' : Ent}, e ∈ es → e' ∈ es → e.id = e'.id → e = e'
  | [], _, _, _, h, _, _ => by cases h
  | x :: r, hn, e, e', h, h', hi => by
    rw [List.map_cons, List.nodup_cons] at hn
    rcases List.mem_cons.1 h with h1 | h1
    · rcases List.mem_cons.1 h' with h2 | h2
      · rw [h1, h2]
      · exact absurd (by rw [← h1, hi]; exact List.mem_map_of_mem h2) hn.1
    · rcases List.mem_cons.1 h' with h2 | h2
      · exact absurd (by rw [← h2, ← hi]; exact List.mem_map_of_mem h1) hn.1
      · exact id_inj hn.2 h1 h2 hi

/-- The entry of number i stands for t. -/
inductive Rp (es : List Ent) : Int → T → Prop
  | mk (e : Ent) (he : e ∈ es) (t : T) (hv : e.nd.v = t.v) (hf : e.nd.fn = t.fn) (hl : e.nd.args.length = t.args.length) (ha : ∀ k (h1 : k < e.nd.args.length) (h2 : k < t.args.length), Rp es e.nd.args[k] t.args[k]) : Rp es e.id t

theorem Rp.inv {es : List Ent} {i : Int} {t : T} (h : Rp es i t) : ∃ e ∈ es, e.id = i ∧ e.nd.v = t.v ∧ e.nd.fn = t.fn ∧ e.nd.args.length = t.args.length ∧ ∀ k (h1 : k < e.nd.args.length) (h2 : k < t.args.length), Rp es e.nd.args[k] t.args[k] := by
  cases h with
  | mk e he t hv hf hl ha => exact ⟨e, he, rfl, hv, hf, hl, ha⟩
theorem Rp.mem {es : List Ent} {i : Int} {t : T} (h : Rp es i t) : i ∈ es.map (·.id) := by
  obtain ⟨e, he, rfl, _⟩ := h.inv
  exact List.mem_map_of_mem he

theorem Rp.det {es : List Ent} {P : List Int} (I : Bk es P) {i : Int} {t : T} (h : Rp es i t) : ∀ {t' : T}, Rp es i t' → t = t' := by
  induction h with
  | mk e he t hv hf hl ha ih =>
    intro t' h'
    obtain ⟨e', he', hi, kv, kf, kl, ka⟩ := h'.inv
    obtain rfl := id_inj I.nod he' he hi
    rw [T.eta t, T.eta t', ← hv, ← kv, ← hf, ← kf]
    congr 1
    exact List.ext_getElem (by omega) fun k h1 h2 => ih k (by omega) h1 (ka k (by omega) h2)

theorem Rp.inj {es : List Ent} {P : List Int} (I : Bk es P) {i : Int} {t : T} (h : Rp es i t) : ∀ {j : Int}, Rp es j t → i = j := by
  induction h with
  | mk e he t hv hf hl ha ih =>
    intro j h'
    obtain ⟨e', he', rfl, kv, kf, kl, ka⟩ := h'.inv
    have hnd : e.nd = e'.nd := by
      have h1 : e.nd.args = e'.nd.args := List.ext_getElem (by omega) fun k h1 h2 => ih k h1 (by omega) (ka k h2 (by omega))
      have h2 : e.nd.v = e'.nd.v := by rw [hv, kv]
      have h3 : e.nd.fn = e'.nd.fn := by rw [hf, kf]
      cases hx : e.nd
      cases hy : e'.nd
      rw [hx, hy] at h1 h2 h3
      simp only at h1 h2 h3
      rw [h1, h2, h3]
    rw [I.nds e he e' he' hnd]

/-- The same nodes are there, and perhaps others. -/
def Sub (es es' : List Ent) : Prop := ∀ e ∈ es, ∃ e' ∈ es', e'.id = e.id ∧ e'.nd = e.nd
theorem Sub.refl (es : List Ent) : Sub es es := fun e he => ⟨e, he, rfl, rfl⟩
theorem Sub.trans {a b c : List Ent} (h : Sub a b) (k : Sub b c) : Sub a c := fun e he => by
  obtain ⟨e1, h1, h2, h3⟩ := h e he
  obtain ⟨e2, k1, k2, k3⟩ := k e1 h1
  exact ⟨e2, k1, k2.trans h2, k3.trans h3⟩
theorem Sub.of_map {f : Ent → Ent} (hi : ∀ e, (f e).id = e.id) (hf : ∀ e, (f e).nd = e.nd) (es : List Ent) : Sub es (es.map f) := fun e he => ⟨f e, List.mem_map_of_mem he, hi e, hf e⟩
theorem Rp.mono {es es' : List Ent} (hs : Sub es es') {i : Int} {t : T} (h : Rp es i t) : Rp es' i t := by
  induction h with
  | mk e he t hv hf hl ha ih =>
    obtain ⟨e', h1, h2, h3⟩ := hs e he
    rw [← h2]
    refine .mk e' h1 t (by rw [h3]; exact hv) (by rw [h3]; exact hf) (by rw [h3]; exact hl) (fun k k1 k2 => ?_)
    have := ih k (by rw [← h3]; exact k1) k2
    simpa only [h3] using this

/-- Uses counted on. -/
def useE (P : List Int) (e : Ent) : Ent := { e with uses := e.uses + (P.count e.id : Nat) }
theorem bumps_eq : ∀ (ids : List Int) (es : List Ent), (∀ e ∈ es, 0 ≤ e.uses ∧ e.uses + ids.length ≤ 4611686018427387904) → bumps ids es = es.map (useE ids)
  | [], es, _ => by
    have : ∀ e : Ent, useE [] e = e := fun e => by cases e; simp [useE]
    have h2 : es.map (useE []) = es := by
      conv => rhs; rw [← List.map_id es]
      exact List.map_congr_left fun e _ => this e
    rw [h2]
    rfl
  | i :: r, es, h => by
    have h1 : es.map (bumpE i) = es.map (useE [i]) := List.map_congr_left fun e he => by
      have hb := h e he
      rw [List.length_cons] at hb
      unfold bumpE useE
      by_cases e1 : e.id = i
      · rw [if_pos e1]
        have : wrap64 (e.uses + 1) = e.uses + 1 := by unfold wrap64; omega
        simp [this, e1]
      · rw [if_neg e1]
        have : ([i] : List Int).count e.id = 0 := by simp [Ne.symm e1]
        cases e
        simp_all
    show bumps r (es.map (bumpE i)) = _
    rw [h1, bumps_eq r _ (fun e he => ?_), List.map_map]
    · refine List.map_congr_left fun e _ => ?_
      show useE r (useE [i] e) = useE (i :: r) e
      unfold useE
      simp only [List.count_cons, List.count_nil]
      congr 1
      by_cases e1 : i = e.id
      · simp [e1]; omega
      · simp [e1]
    · obtain ⟨e0, he0, rfl⟩ := List.mem_map.1 he
      have hb := h e0 he0
      rw [List.length_cons] at hb
      have : ([i] : List Int).count e0.id ≤ 1 := by
        have := List.count_le_length (a := e0.id) (l := [i])
        simpa using this
      show 0 ≤ e0.uses + _ ∧ e0.uses + _ + _ ≤ _
      omega

theorem pad_inj {a b : List Int} (ha : a.length ≤ 16) (hl : a.length = b.length) (h : pad a = pad b) : a = b := by
  refine List.ext_getElem hl fun i h1 h2 => ?_
  have e1 := pad_at a i (by omega)
  have e2 := pad_at b i (by omega)
  rw [h, e2] at e1
  have := Option.some.inj e1
  injection this with _ e3
  simpa [List.getD_eq_getElem?_getD, h1, h2] using e3.symm
theorem val_inj {a b : Nd} (ha : a.args.length ≤ 16) (h : a.val = b.val) : a = b := by
  have h1 : a.cells = b.cells := by
    have : a.cells.toArray = b.cells.toArray := by injection h
    simpa using this
  unfold Nd.cells ndCells at h1
  simp only [List.cons_append, List.nil_append, List.cons.injEq, Value.int.injEq, Value.string.injEq, true_and] at h1
  obtain ⟨h2, h3, h4, h5⟩ := h1
  have h6 := pad_inj ha (by omega) h5
  cases a
  cases b
  simp_all

end Go.Proofs.Ytbbfpllffcfmhaa

/-
  What numbering a term does to a bank's entries: mathematics.
-/
namespace Go.Proofs.Ytbbfpllffcfmhaa
open Go.RowKit Go.Maps

/-- What entering nodes does: what was there stays, what is new is kept by nothing; what nothing holds was so before, or is one of these. -/
structure Grw (es es' : List Ent) (ids : List Int) : Prop where
  bk : Bk es' []
  sub : Sub es es'
  old : ∀ e' ∈ es', (∃ e ∈ es, e.id = e'.id ∧ e.kept = e'.kept) ∨ (e'.kept = 0 ∧ e'.id ∉ es.map (·.id))
  gb : ∀ e' ∈ es', e'.kept = 0 → e'.uses = 0 → e'.id ∈ ids ∨ ∃ e ∈ es, e.id = e'.id ∧ e.kept = 0 ∧ e.uses = 0

theorem Grw.refl {es : List Ent} (h : Bk es []) : Grw es es [] := ⟨h, Sub.refl es, fun e he => .inl ⟨e, he, rfl, rfl⟩, fun e he h1 h2 => .inr ⟨e, he, rfl, h1, h2⟩⟩

theorem entOf_some {es : List Ent} {nd : Nd} {e : Ent} (h : entOf es nd = some e) : e ∈ es ∧ e.nd.val = nd.val := by
  classical
  unfold entOf at h
  exact ⟨List.mem_of_find?_eq_some h, by simpa using List.find?_some h⟩
theorem entOf_none {es : List Ent} {nd : Nd} (h : entOf es nd = none) : ∀ e ∈ es, e.nd.val ≠ nd.val := by
  classical
  unfold entOf at h
  intro e he
  have := List.find?_eq_none.1 h e he
  simpa using this

theorem step_grw (s : {es : List Ent // Good es}) (hb : Bk s.1 []) (nd : Nd) (hf : nd.Fine) (ha : ∀ a ∈ nd.args, a ∈ s.1.map (·.id)) (hl : s.1.length ≤ 1000000) :
    Grw s.1 (enterStep s nd).1.1 [(enterStep s nd).2] ∧ (∃ e ∈ (enterStep s nd).1.1, e.id = (enterStep s nd).2 ∧ e.nd = nd) ∧ ∀ e' ∈ (enterStep s nd).1.1, e'.id ∈ nd.args → e'.uses ≠ 0 := by
  cases he : entOf s.1 nd with
  | some e =>
    rw [enterStep_old he]
    obtain ⟨h1, h2⟩ := entOf_some he
    have h3 : e.nd = nd := val_inj (hb.fine e h1).len h2
    refine ⟨⟨hb, Sub.refl _, fun e he => .inl ⟨e, he, rfl, rfl⟩, fun e he h1 h2 => .inr ⟨e, he, rfl, h1, h2⟩⟩, ⟨e, h1, rfl, h3⟩, fun e' he' hi => ?_⟩
    rw [hb.use e' he']
    have := occ_pos h1 (i := e'.id) (by rw [h3]; exact hi)
    omega
  | none =>
    rw [enterStep_new he (by omega)]
    have hne := entOf_none he
    show Grw s.1 (bumps nd.args (s.1 ++ [⟨s.1.length + 1, nd, 0, 0⟩])) [(s.1.length : Int) + 1] ∧ (∃ e ∈ bumps nd.args (s.1 ++ [⟨s.1.length + 1, nd, 0, 0⟩]), e.id = (s.1.length : Int) + 1 ∧ e.nd = nd) ∧ ∀ e' ∈ bumps nd.args (s.1 ++ [⟨s.1.length + 1, nd, 0, 0⟩]), e'.id ∈ nd.args → e'.uses ≠ 0
    obtain ⟨es, hes⟩ : ∃ es, s.1 = es := ⟨_, rfl⟩
    have hgd := s.2
    rw [hes] at hb ha hl hne hgd ⊢
    have h16 := hf.len
    have hocc : ∀ i, occ es i ≤ 16 * es.length := occ_le fun e he => (hb.fine e he).len
    have hnew : ∀ e ∈ es, e.id ≠ es.length + 1 := hgd.new
    have hidm : ∀ i ∈ es.map (·.id), i ≤ (es.length : Int) := fun i hi => (hgd.mem.1 hi).2
    have hbe := bumps_eq nd.args (es ++ [⟨es.length + 1, nd, 0, 0⟩]) (fun e he => by
      rcases List.mem_append.1 he with he | he
      · have h1 := hb.use e he
        have h2 := hocc e.id
        simp only [List.count_nil] at h1
        omega
      · obtain rfl := List.mem_singleton.1 he
        show (0 : Int) ≤ 0 ∧ (0 : Int) + _ ≤ _
        omega)
    rw [hbe]
    have hnc : nd.args.count ((es.length : Int) + 1) = 0 := List.count_eq_zero.2 fun hm => by have := hidm _ (ha _ hm); omega
    have mem : ∀ e' ∈ (es ++ ([⟨es.length + 1, nd, 0, 0⟩] : List Ent)).map (useE nd.args), (∃ e ∈ es, e' = useE nd.args e) ∨ e' = ⟨es.length + 1, nd, 0, 0⟩ := fun e' he' => by
      obtain ⟨e0, h0, rfl⟩ := List.mem_map.1 he'
      rcases List.mem_append.1 h0 with h0 | h0
      · exact .inl ⟨e0, h0, rfl⟩
      · obtain rfl := List.mem_singleton.1 h0
        right
        unfold useE
        simp only
        rw [show nd.args.count ((es.length : Int) + 1) = 0 from hnc]
        rfl
    have newm : (⟨es.length + 1, nd, 0, 0⟩ : Ent) ∈ (es ++ ([⟨es.length + 1, nd, 0, 0⟩] : List Ent)).map (useE nd.args) := List.mem_map.2 ⟨⟨es.length + 1, nd, 0, 0⟩, by simp, by unfold useE; simp only; rw [show nd.args.count ((es.length : Int) + 1) = 0 from hnc]; rfl⟩
    have oldm : ∀ e ∈ es, useE nd.args e ∈ (es ++ ([⟨es.length + 1, nd, 0, 0⟩] : List Ent)).map (useE nd.args) := fun e he => List.mem_map_of_mem (List.mem_append_left _ he)
    have hids : ((es ++ ([⟨es.length + 1, nd, 0, 0⟩] : List Ent)).map (useE nd.args)).map (·.id) = es.map (·.id) ++ [(es.length : Int) + 1] := by
      rw [List.map_map]
      simp [Function.comp_def, useE]
    have hocc2 : ∀ i, occ ((es ++ ([⟨es.length + 1, nd, 0, 0⟩] : List Ent)).map (useE nd.args)) i = occ es i + nd.args.count i := fun i => by
      rw [occ_congr (f := useE nd.args) (fun _ => rfl), occ_append]
      simp [occ]
    have hoccn : occ es ((es.length : Int) + 1) = 0 := by
      have : ∀ l : List Ent, (∀ e ∈ l, ((es.length : Int) + 1) ∉ e.nd.args) → occ l ((es.length : Int) + 1) = 0 := by
        intro l
        induction l with
        | nil => intro _; rfl
        | cons x r ih =>
          intro h
          rw [occ_cons, List.count_eq_zero.2 (h x List.mem_cons_self), ih fun e he => h e (List.mem_cons_of_mem _ he)]
      exact this es fun e he hm => by have := hidm _ (hb.arg e he _ hm).1; omega
    refine ⟨⟨⟨?_, ?_, ?_, ?_, ?_, ?_, ?_, ?_⟩, ?_, ?_, ?_⟩, ⟨_, newm, rfl, rfl⟩, fun e' he' hi => ?_⟩
    · rw [hids]
      exact List.nodup_append.2 ⟨hb.nod, by simp, fun a ha b hb' => by
        rw [List.mem_singleton] at hb'
        have := hidm a ha
        omega⟩
    · intro e he e' he' h
      rcases mem e he with ⟨e0, h0, rfl⟩ | rfl
      · rcases mem e' he' with ⟨e1, h1, rfl⟩ | rfl
        · rw [hb.nds e0 h0 e1 h1 h]
        · have h : e0.nd = nd := h
          exact absurd (by rw [h]) (hne e0 h0)
      · rcases mem e' he' with ⟨e1, h1, rfl⟩ | rfl
        · have h : nd = e1.nd := h
          exact absurd (by rw [h]) (hne e1 h1)
        · rfl
    · intro e he a hA
      rw [hids]
      rcases mem e he with ⟨e0, h0, rfl⟩ | rfl
      · obtain ⟨q1, q2⟩ := hb.arg e0 h0 a hA
        exact ⟨List.mem_append_left _ q1, q2⟩
      · have hA : a ∈ nd.args := hA
        have := hidm a (ha a hA)
        exact ⟨List.mem_append_left _ (ha a hA), by show a < (es.length : Int) + 1; omega⟩
    · intro e he
      rw [hocc2]
      rcases mem e he with ⟨e0, h0, rfl⟩ | rfl
      · have h1 := hb.use e0 h0
        simp only [List.count_nil] at h1
        show e0.uses + _ = ((occ es e0.id + nd.args.count e0.id + List.count e0.id [] : Nat) : Int)
        simp only [List.count_nil]
        omega
      · show (0 : Int) = ((occ es ((es.length : Int) + 1) + nd.args.count ((es.length : Int) + 1) + List.count ((es.length : Int) + 1) [] : Nat) : Int)
        rw [hoccn, hnc]
        rfl
    · intro a hA
      cases hA
    · intro e he
      rcases mem e he with ⟨e0, h0, rfl⟩ | rfl
      · exact hb.kpt e0 h0
      · exact Int.le_refl _
    · intro e he
      rcases mem e he with ⟨e0, h0, rfl⟩ | rfl
      · exact hb.fine e0 h0
      · exact hf
    · intro e he
      rcases mem e he with ⟨e0, h0, rfl⟩ | rfl
      · exact hb.fit e0 h0
      · show Fit64 ((es.length : Int) + 1)
        exact ⟨by omega, by omega⟩
    · exact fun e he => ⟨useE nd.args e, oldm e he, rfl, rfl⟩
    · intro e' he'
      rcases mem e' he' with ⟨e0, h0, rfl⟩ | rfl
      · exact .inl ⟨e0, h0, rfl, rfl⟩
      · refine .inr ⟨rfl, fun hm => ?_⟩
        have := hidm _ hm
        have h2 : ((es.length : Int) + 1) ≤ es.length := this
        omega
    · intro e' he' h1 h2
      rcases mem e' he' with ⟨e0, h0, rfl⟩ | rfl
      · right
        refine ⟨e0, h0, rfl, h1, ?_⟩
        have h3 : e0.uses + ((nd.args.count e0.id : Nat) : Int) = 0 := h2
        have h4 := hb.use e0 h0
        omega
      · exact .inl (by simp)
    · rcases mem e' he' with ⟨e0, h0, rfl⟩ | rfl
      · have h3 : e0.id ∈ nd.args := hi
        have h4 := hb.use e0 h0
        have h5 := List.count_pos_iff.2 h3
        show e0.uses + ((nd.args.count e0.id : Nat) : Int) ≠ 0
        omega
      · have h3 : ((es.length : Int) + 1) ∈ nd.args := hi
        have := hidm _ (ha _ h3)
        omega

end Go.Proofs.Ytbbfpllffcfmhaa

/-
  A term's numbers stand for it, and hold it: mathematics.
-/
namespace Go.Proofs.Ytbbfpllffcfmhaa
open Go.RowKit Go.Maps

theorem Grw.trans {a b c : List Ent} {p q : List Int} (h : Grw a b p) (k : Grw b c q) : Grw a c (p ++ q) := by
  refine ⟨k.bk, h.sub.trans k.sub, fun e' he' => ?_, fun e' he' h1 h2 => ?_⟩
  · rcases k.old e' he' with ⟨e, he, k1, k2⟩ | ⟨k1, k2⟩
    · rcases h.old e he with ⟨e0, h0, g1, g2⟩ | ⟨g1, g2⟩
      · exact .inl ⟨e0, h0, g1.trans k1, g2.trans k2⟩
      · exact .inr ⟨by rw [← k2]; exact g1, by rw [← k1]; exact g2⟩
    · refine .inr ⟨k1, fun hm => k2 ?_⟩
      obtain ⟨e0, h0, he0⟩ := List.mem_map.1 hm
      obtain ⟨e1, h1, g1, _⟩ := h.sub e0 h0
      rw [← he0, ← g1]
      exact List.mem_map_of_mem h1
  · rcases k.gb e' he' h1 h2 with k1 | ⟨e, he, k1, k2, k3⟩
    · exact .inl (List.mem_append_right _ k1)
    · rcases h.gb e he k2 k3 with g1 | ⟨e0, h0, g1, g2, g3⟩
      · exact .inl (List.mem_append_left _ (by rw [← k1]; exact g1))
      · exact .inr ⟨e0, h0, g1.trans k1, g2, g3⟩

/-- What numbering a term does. -/
def NumOk (n0 Ba : Nat) (limit : Int) (t : T) : Prop := ∀ s : {es : List Ent // Good es}, Bk s.1 [] → t.shape = true → (s.1.length : Int) + t.size ≤ 1000000 →
  Grw s.1 ((enterM n0 Ba limit).num t s).1.1 [((enterM n0 Ba limit).num t s).2] ∧ Rp ((enterM n0 Ba limit).num t s).1.1 ((enterM n0 Ba limit).num t s).2 t

theorem nums_ok (n0 Ba : Nat) (limit : Int) : ∀ (l : List T), (∀ a ∈ l, NumOk n0 Ba limit a ∧ a.shape = true) → ∀ s : {es : List Ent // Good es}, Bk s.1 [] → (s.1.length : Int) + (l.map T.size).sum ≤ 1000000 →
    Grw s.1 (Numb.num.nums (enterM n0 Ba limit) l s).1.1 (Numb.num.nums (enterM n0 Ba limit) l s).2 ∧ ∀ k (h1 : k < l.length) (h2 : k < (Numb.num.nums (enterM n0 Ba limit) l s).2.length), Rp (Numb.num.nums (enterM n0 Ba limit) l s).1.1 (Numb.num.nums (enterM n0 Ba limit) l s).2[k] l[k]
  | [], _, s, hb, _ => ⟨Grw.refl hb, fun k h1 => absurd h1 (by simp)⟩
  | a :: r, h, s, hb, hl => by
    have hpos : ∀ q : List T, 0 ≤ (q.map T.size).sum := by
      intro q
      induction q with
      | nil => simp
      | cons b r ih => have := size_pos b; simp only [List.map_cons, List.sum_cons]; omega
    have hr := hpos r
    rw [List.map_cons, List.sum_cons] at hl
    obtain ⟨g1, g2⟩ := (h a List.mem_cons_self).1 s hb (h a List.mem_cons_self).2 (by omega)
    have hcnt := ((enterM n0 Ba limit).facts a s).2.2
    have hcnt : ((((enterM n0 Ba limit).num a s).1.1.length : Nat) : Int) ≤ (s.1.length : Nat) + a.size := hcnt
    obtain ⟨k1, k2⟩ := nums_ok n0 Ba limit r (fun b hb' => h b (List.mem_cons_of_mem _ hb')) ((enterM n0 Ba limit).num a s).1 g1.bk (by omega)
    refine ⟨g1.trans k1, fun k h1 h2 => ?_⟩
    cases k with
    | zero => exact g2.mono k1.sub
    | succ k => exact k2 k (by simpa using h1) (by simpa [Numb.num.nums] using h2)

theorem num_ok (n0 Ba : Nat) (limit : Int) (t : T) : NumOk n0 Ba limit t := by
  induction t using T.ind with
  | _ t ih =>
    intro s hb hs hl
    obtain ⟨h16, h64, hv, hsub⟩ := shape_args hs
    rw [T.size_eq] at hl
    obtain ⟨g1, g2⟩ := nums_ok n0 Ba limit t.args (fun a ha => ⟨ih a ha, hsub a ha⟩) s hb (by omega)
    obtain ⟨n1, n2, n3⟩ := (enterM n0 Ba limit).nums_has t.args s
    have hlen := (enterM n0 Ba limit).nums_len t.args s
    have e : ((enterM n0 Ba limit).num t s : {es : List Ent // Good es} × Int) = enterStep (Numb.num.nums (enterM n0 Ba limit) t.args s).1 ⟨t.v, t.fn, (Numb.num.nums (enterM n0 Ba limit) t.args s).2⟩ := (enterM n0 Ba limit).num_eq t s
    suffices hsuf : ∀ r : {es : List Ent // Good es} × Int, r = enterStep (Numb.num.nums (enterM n0 Ba limit) t.args s).1 ⟨t.v, t.fn, (Numb.num.nums (enterM n0 Ba limit) t.args s).2⟩ → Grw s.1 r.1.1 [r.2] ∧ Rp r.1.1 r.2 t from hsuf _ e
    clear e
    intro r hr
    obtain ⟨s', hs'⟩ : ∃ x : {es : List Ent // Good es}, (Numb.num.nums (enterM n0 Ba limit) t.args s).1 = x := ⟨_, rfl⟩
    obtain ⟨ids, hids⟩ : ∃ x, (Numb.num.nums (enterM n0 Ba limit) t.args s).2 = x := ⟨_, rfl⟩
    rw [hs', hids] at g1 n2 hr
    subst hr
    rw [hs'] at n1 n3
    rw [hids] at hlen
    simp only [hs', hids] at g2
    have hfine : (⟨t.v, t.fn, ids⟩ : Nd).Fine := ⟨hv, h64, by show ids.length ≤ 16; omega, fun a ha => (enterM n0 Ba limit).fit s' a (n2 a ha)⟩
    have hcnt : ((s'.1.length : Nat) : Int) ≤ (s.1.length : Nat) + (t.args.map T.size).sum := n3
    obtain ⟨k1, ⟨e, he, k2, k3⟩, k4⟩ := step_grw s' g1.bk ⟨t.v, t.fn, ids⟩ hfine (fun a ha => n2 a ha) (by omega)
    show Grw s.1 (enterStep s' ⟨t.v, t.fn, ids⟩).1.1 [(enterStep s' ⟨t.v, t.fn, ids⟩).2] ∧ Rp (enterStep s' ⟨t.v, t.fn, ids⟩).1.1 (enterStep s' ⟨t.v, t.fn, ids⟩).2 t
    have hg := g1.trans k1
    refine ⟨⟨hg.bk, hg.sub, hg.old, fun e' he' h1 h2 => ?_⟩, ?_⟩
    · rcases hg.gb e' he' h1 h2 with h3 | h3
      · rcases List.mem_append.1 h3 with h3 | h3
        · exact absurd h2 (k4 e' he' h3)
        · exact .inl h3
      · exact .inr h3
    · rw [← k2]
      refine .mk e he t (by rw [k3]) (by rw [k3]) (by rw [k3]; exact hlen) (fun k h1 h2 => ?_)
      simp only [k3] at h1 ⊢
      exact (g2 k h2 h1).mono k1.sub

/-- Making once more. -/
theorem keep_grw {es es' : List Ent} {i : Int} (h : Grw es es' [i]) (_hi : i ∈ es'.map (·.id)) (hk : ∀ e ∈ es', e.kept ≤ 1000000) : Bk (es'.map (keepE i)) [] ∧ Sub es (es'.map (keepE i)) ∧ Sub es' (es'.map (keepE i)) ∧
    (∀ e' ∈ es'.map (keepE i), e'.kept = 0 → e'.uses = 0 → ∃ e ∈ es, e.id = e'.id ∧ e.kept = 0 ∧ e.uses = 0) ∧
    (∀ e' ∈ es'.map (keepE i), (∃ e ∈ es, e.id = e'.id ∧ e'.kept = e.kept + (if e'.id = i then 1 else 0)) ∨ (e'.id ∉ es.map (·.id) ∧ e'.kept = (if e'.id = i then 1 else 0))) := by
  have hkp : ∀ e ∈ es', (keepE i e).kept = e.kept + (if e.id = i then 1 else 0) := fun e he => by
    have h1 := hk e he
    have h2 := h.bk.kpt e he
    unfold keepE
    by_cases e1 : e.id = i
    · rw [if_pos e1, if_pos e1]
      show wrap64 (e.kept + 1) = _
      unfold wrap64
      omega
    · rw [if_neg e1, if_neg e1]
      omega
  have hus : ∀ e, (keepE i e).uses = e.uses := fun e => by unfold keepE; split <;> rfl
  have hb := h.bk
  have hs' := Sub.of_map (keepE_id i) (keepE_nd i) es'
  refine ⟨⟨?_, ?_, ?_, ?_, ?_, ?_, ?_, ?_⟩, h.sub.trans hs', hs', ?_, ?_⟩
  · rw [keep_ids]; exact hb.nod
  · intro a ha b hb' e
    obtain ⟨a, ha2, rfl⟩ := List.mem_map.1 ha
    obtain ⟨b, hb2, rfl⟩ := List.mem_map.1 hb'
    rw [keepE_nd, keepE_nd] at e
    rw [hb.nds a ha2 b hb2 e]
  · intro e he a ha
    obtain ⟨e, he2, rfl⟩ := List.mem_map.1 he
    rw [keepE_nd] at ha
    rw [keep_ids, keepE_id]
    exact hb.arg e he2 a ha
  · intro e he
    obtain ⟨e, he2, rfl⟩ := List.mem_map.1 he
    rw [hus, keepE_id, occ_congr (keepE_nd i)]
    exact hb.use e he2
  · intro a ha; cases ha
  · intro e he
    obtain ⟨e, he2, rfl⟩ := List.mem_map.1 he
    rw [hkp e he2]
    have := hb.kpt e he2
    split <;> omega
  · intro e he
    obtain ⟨e, he2, rfl⟩ := List.mem_map.1 he
    rw [keepE_nd]
    exact hb.fine e he2
  · intro e he
    obtain ⟨e, he2, rfl⟩ := List.mem_map.1 he
    rw [keepE_id]
    exact hb.fit e he2
  · intro e' he' h1 h2
    obtain ⟨e, he2, rfl⟩ := List.mem_map.1 he'
    rw [hkp e he2] at h1
    rw [hus] at h2
    have := hb.kpt e he2
    by_cases e1 : e.id = i
    · rw [if_pos e1] at h1; omega
    · rw [if_neg e1] at h1
      rcases h.gb e he2 (by omega) h2 with h3 | ⟨e0, h0, h3, h4, h5⟩
      · exact absurd (List.mem_singleton.1 h3) e1
      · exact ⟨e0, h0, by rw [keepE_id]; exact h3, h4, h5⟩
  · intro e' he'
    obtain ⟨e, he2, rfl⟩ := List.mem_map.1 he'
    rw [hkp e he2, keepE_id]
    rcases h.old e he2 with ⟨e0, h0, h3, h4⟩ | ⟨h3, h4⟩
    · exact .inl ⟨e0, h0, h3, by rw [h4]⟩
    · exact .inr ⟨h4, by rw [h3]; omega⟩

end Go.Proofs.Ytbbfpllffcfmhaa
