/-
  What numbering a term does to a bank's entries: mathematics.
-/
import Derived.Test.YtbbfpllffcfmhaaWA
namespace Go.Proofs.Ytbbfpllffcfmhaa
open Go.RowKit Go.Maps

/-- What entering nodes does: what was there stays, what is new is kept by nothing; what nothing holds was so before, or is one of these. -/
structure Grw (es es' : List Ent) (ids : List Int) : Prop where
  bk : Bk es' []
  sub : Sub es es'
  old : ∀ e' ∈ es', (∃ e ∈ es, e.id = e'.id ∧ e.kept = e'.kept) ∨ (e'.kept = 0 ∧ e'.id ∉ es.map (·.id))
  gb : ∀ e' ∈ es', e'.kept = 0 → e'.uses = 0 → e'.id ∈ ids ∨ ∃ e ∈ es, e.id = e'.id ∧ e.kept = 0 ∧ e.uses = 0

theorem Grw.refl {es : List Ent} (h : Bk es []) : Grw es es [] := ⟨h, Sub.refl es, fun e he => .inl ⟨e, he, rfl, rfl⟩, fun e he h1 h2 => .inr ⟨e, he, rfl, h1, h2⟩⟩

theorem entOf_some {es : List Ent} {nd : Nd} {e : Ent} (h : entOf es nd = some e) : e ∈ es ∧ e.nd.val = nd.val := by
  classical
  unfold entOf at h
  exact ⟨List.mem_of_find?_eq_some h, by simpa using List.find?_some h⟩
theorem entOf_none {es : List Ent} {nd : Nd} (h : entOf es nd = none) : ∀ e ∈ es, e.nd.val ≠ nd.val := by
  classical
  unfold entOf at h
  intro e he
  have := List.find?_eq_none.1 h e he
  simpa using this

theorem step_grw (s : {es : List Ent // Good es}) (hb : Bk s.1 []) (nd : Nd) (hf : nd.Fine) (ha : ∀ a ∈ nd.args, a ∈ s.1.map (·.id)) (hl : s.1.length ≤ 1000000) :
    Grw s.1 (enterStep s nd).1.1 [(enterStep s nd).2] ∧ (∃ e ∈ (enterStep s nd).1.1, e.id = (enterStep s nd).2 ∧ e.nd = nd) ∧ ∀ e' ∈ (enterStep s nd).1.1, e'.id ∈ nd.args → e'.uses ≠ 0 := by
  cases he : entOf s.1 nd with
  | some e =>
    rw [enterStep_old he]
    obtain ⟨h1, h2⟩ := entOf_some he
    have h3 : e.nd = nd := val_inj (hb.fine e h1).len h2
    refine ⟨⟨hb, Sub.refl _, fun e he => .inl ⟨e, he, rfl, rfl⟩, fun e he h1 h2 => .inr ⟨e, he, rfl, h1, h2⟩⟩, ⟨e, h1, rfl, h3⟩, fun e' he' hi => ?_⟩
    rw [hb.use e' he']
    have := occ_pos h1 (i := e'.id) (by rw [h3]; exact hi)
    omega
  | none =>
    rw [enterStep_new he (by omega)]
    have hne := entOf_none he
    show Grw s.1 (bumps nd.args (s.1 ++ [⟨s.1.length + 1, nd, 0, 0⟩])) [(s.1.length : Int) + 1] ∧ (∃ e ∈ bumps nd.args (s.1 ++ [⟨s.1.length + 1, nd, 0, 0⟩]), e.id = (s.1.length : Int) + 1 ∧ e.nd = nd) ∧ ∀ e' ∈ bumps nd.args (s.1 ++ [⟨s.1.length + 1, nd, 0, 0⟩]), e'.id ∈ nd.args → e'.uses ≠ 0
    obtain ⟨es, hes⟩ : ∃ es, s.1 = es := ⟨_, rfl⟩
    have hgd := s.2
    rw [hes] at hb ha hl hne hgd ⊢
    have h16 := hf.len
    have hocc : ∀ i, occ es i ≤ 16 * es.length := occ_le fun e he => (hb.fine e he).len
    have hnew : ∀ e ∈ es, e.id ≠ es.length + 1 := hgd.new
    have hidm : ∀ i ∈ es.map (·.id), i ≤ (es.length : Int) := fun i hi => (hgd.mem.1 hi).2
    have hbe := bumps_eq nd.args (es ++ [⟨es.length + 1, nd, 0, 0⟩]) (fun e he => by
      rcases List.mem_append.1 he with he | he
      · have h1 := hb.use e he
        have h2 := hocc e.id
        simp only [List.count_nil] at h1
        omega
      · obtain rfl := List.mem_singleton.1 he
        show (0 : Int) ≤ 0 ∧ (0 : Int) + _ ≤ _
        omega)
    rw [hbe]
    have hnc : nd.args.count ((es.length : Int) + 1) = 0 := List.count_eq_zero.2 fun hm => by have := hidm _ (ha _ hm); omega
    have mem : ∀ e' ∈ (es ++ ([⟨es.length + 1, nd, 0, 0⟩] : List Ent)).map (useE nd.args), (∃ e ∈ es, e' = useE nd.args e) ∨ e' = ⟨es.length + 1, nd, 0, 0⟩ := fun e' he' => by
      obtain ⟨e0, h0, rfl⟩ := List.mem_map.1 he'
      rcases List.mem_append.1 h0 with h0 | h0
      · exact .inl ⟨e0, h0, rfl⟩
      · obtain rfl := List.mem_singleton.1 h0
        right
        unfold useE
        simp only
        rw [show nd.args.count ((es.length : Int) + 1) = 0 from hnc]
        rfl
    have newm : (⟨es.length + 1, nd, 0, 0⟩ : Ent) ∈ (es ++ ([⟨es.length + 1, nd, 0, 0⟩] : List Ent)).map (useE nd.args) := List.mem_map.2 ⟨⟨es.length + 1, nd, 0, 0⟩, by simp, by unfold useE; simp only; rw [show nd.args.count ((es.length : Int) + 1) = 0 from hnc]; rfl⟩
    have oldm : ∀ e ∈ es, useE nd.args e ∈ (es ++ ([⟨es.length + 1, nd, 0, 0⟩] : List Ent)).map (useE nd.args) := fun e he => List.mem_map_of_mem (List.mem_append_left _ he)
    have hids : ((es ++ ([⟨es.length + 1, nd, 0, 0⟩] : List Ent)).map (useE nd.args)).map (·.id) = es.map (·.id) ++ [(es.length : Int) + 1] := by
      rw [List.map_map]
      simp [Function.comp_def, useE]
    have hocc2 : ∀ i, occ ((es ++ ([⟨es.length + 1, nd, 0, 0⟩] : List Ent)).map (useE nd.args)) i = occ es i + nd.args.count i := fun i => by
      rw [occ_congr (f := useE nd.args) (fun _ => rfl), occ_append]
      simp [occ]
    have hoccn : occ es ((es.length : Int) + 1) = 0 := by
      have : ∀ l : List Ent, (∀ e ∈ l, ((es.length : Int) + 1) ∉ e.nd.args) → occ l ((es.length : Int) + 1) = 0 := by
        intro l
        induction l with
        | nil => intro _; rfl
        | cons x r ih =>
          intro h
          rw [occ_cons, List.count_eq_zero.2 (h x List.mem_cons_self), ih fun e he => h e (List.mem_cons_of_mem _ he)]
      exact this es fun e he hm => by have := hidm _ (hb.arg e he _ hm).1; omega
    refine ⟨⟨⟨?_, ?_, ?_, ?_, ?_, ?_, ?_, ?_⟩, ?_, ?_, ?_⟩, ⟨_, newm, rfl, rfl⟩, fun e' he' hi => ?_⟩
    · rw [hids]
      exact List.nodup_append.2 ⟨hb.nod, by simp, fun a ha b hb' => by
        rw [List.mem_singleton] at hb'
        have := hidm a ha
        omega⟩
    · intro e he e' he' h
      rcases mem e he with ⟨e0, h0, rfl⟩ | rfl
      · rcases mem e' he' with ⟨e1, h1, rfl⟩ | rfl
        · rw [hb.nds e0 h0 e1 h1 h]
        · have h : e0.nd = nd := h
          exact absurd (by rw [h]) (hne e0 h0)
      · rcases mem e' he' with ⟨e1, h1, rfl⟩ | rfl
        · have h : nd = e1.nd := h
          exact absurd (by rw [h]) (hne e1 h1)
        · rfl
    · intro e he a hA
      rw [hids]
      rcases mem e he with ⟨e0, h0, rfl⟩ | rfl
      · obtain ⟨q1, q2⟩ := hb.arg e0 h0 a hA
        exact ⟨List.mem_append_left _ q1, q2⟩
      · have hA : a ∈ nd.args := hA
        have := hidm a (ha a hA)
        exact ⟨List.mem_append_left _ (ha a hA), by show a < (es.length : Int) + 1; omega⟩
    · intro e he
      rw [hocc2]
      rcases mem e he with ⟨e0, h0, rfl⟩ | rfl
      · have h1 := hb.use e0 h0
        simp only [List.count_nil] at h1
        show e0.uses + _ = ((occ es e0.id + nd.args.count e0.id + List.count e0.id [] : Nat) : Int)
        simp only [List.count_nil]
        omega
      · show (0 : Int) = ((occ es ((es.length : Int) + 1) + nd.args.count ((es.length : Int) + 1) + List.count ((es.length : Int) + 1) [] : Nat) : Int)
        rw [hoccn, hnc]
        rfl
    · intro a hA
      cases hA
    · intro e he
      rcases mem e he with ⟨e0, h0, rfl⟩ | rfl
      · exact hb.kpt e0 h0
      · exact Int.le_refl _
    · intro e he
      rcases mem e he with ⟨e0, h0, rfl⟩ | rfl
      · exact hb.fine e0 h0
      · exact hf
    · intro e he
      rcases mem e he with ⟨e0, h0, rfl⟩ | rfl
      · exact hb.fit e0 h0
      · show Fit64 ((es.length : Int) + 1)
        exact ⟨by omega, by omega⟩
    · exact fun e he => ⟨useE nd.args e, oldm e he, rfl, rfl⟩
    · intro e' he'
      rcases mem e' he' with ⟨e0, h0, rfl⟩ | rfl
      · exact .inl ⟨e0, h0, rfl, rfl⟩
      · refine .inr ⟨rfl, fun hm => ?_⟩
        have := hidm _ hm
        have h2 : ((es.length : Int) + 1) ≤ es.length := this
        omega
    · intro e' he' h1 h2
      rcases mem e' he' with ⟨e0, h0, rfl⟩ | rfl
      · right
        refine ⟨e0, h0, rfl, h1, ?_⟩
        have h3 : e0.uses + ((nd.args.count e0.id : Nat) : Int) = 0 := h2
        have h4 := hb.use e0 h0
        omega
      · exact .inl (by simp)
    · rcases mem e' he' with ⟨e0, h0, rfl⟩ | rfl
      · have h3 : e0.id ∈ nd.args := hi
        have h4 := hb.use e0 h0
        have h5 := List.count_pos_iff.2 h3
        show e0.uses + ((nd.args.count e0.id : Nat) : Int) ≠ 0
        omega
      · have h3 : ((es.length : Int) + 1) ∈ nd.args := hi
        have := hidm _ (ha _ h3)
        omega

end Go.Proofs.Ytbbfpllffcfmhaa
