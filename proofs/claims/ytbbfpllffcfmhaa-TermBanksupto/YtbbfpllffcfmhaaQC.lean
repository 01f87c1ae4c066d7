import Derived.Test.YtbbfpllffcfmhaaXH
import Derived.Test.YtbbfpllffcfmhaaWC
import Derived.Test.YtbbfpllffcfmhaaWG
import Derived.Test.YtbbfpllffcfmhaaWK

/-
  Numbers that come again: what numbering a term does to a bank's entries.
-/
namespace Go.Proofs.Ytbbfpllffcfmhaa.Fq
open Go.RowKit Go.Maps

theorem pigeon : ∀ (n : Nat) (l : List Int), (∀ j : Int, 1 ≤ j → j ≤ n → j ∈ l) → n ≤ l.length
  | 0, _, _ => Nat.zero_le _
  | n + 1, l, h => by
    have hm : ((n : Int) + 1) ∈ l := h _ (by omega) (by omega)
    have := pigeon n (l.erase ((n : Int) + 1)) (fun j h1 h2 => (List.mem_erase_of_ne (by omega)).2 (h j h1 (by omega)))
    rw [List.length_erase_of_mem hm] at this
    have := List.length_pos_of_mem hm
    omega

theorem least_ex (es : List Ent) : ∃ i, Least es i ∧ i ≤ es.length + 1 := by
  have step : ∀ k : Nat, (∃ i, Least es i ∧ i ≤ k) ∨ ∀ j : Int, 1 ≤ j → j ≤ k → j ∈ es.map (·.id) := by
    intro k
    induction k with
    | zero => exact .inr fun j h1 h2 => by omega
    | succ k ih =>
      rcases ih with ⟨i, h1, h2⟩ | h
      · exact .inl ⟨i, h1, by omega⟩
      · by_cases hm : ((k : Int) + 1) ∈ es.map (·.id)
        · refine .inr fun j h1 h2 => ?_
          by_cases e : j = (k : Int) + 1
          · rw [e]; exact hm
          · exact h j h1 (by omega)
        · exact .inl ⟨(k : Int) + 1, ⟨by omega, hm, fun j h1 h2 => h j h1 (by omega)⟩, by omega⟩
  rcases step (es.length + 1) with ⟨i, h1, h2⟩ | h
  · exact ⟨i, h1, by omega⟩
  · have := pigeon _ _ h
    rw [List.length_map] at this
    omega

/-- A bank's entries, some arguments still to be given back. -/
structure Bk (es : List Ent) (P : List Int) : Prop where
  nod : (es.map (·.id)).Nodup
  nds : ∀ e ∈ es, ∀ e' ∈ es, e.nd = e'.nd → e = e'
  arg : ∀ e ∈ es, ∀ a ∈ e.nd.args, a ∈ es.map (·.id) ∧ a ≠ e.id
  use : ∀ e ∈ es, e.uses = ((occ es e.id + P.count e.id : Nat) : Int)
  pnd : ∀ a ∈ P, a ∈ es.map (·.id)
  kpt : ∀ e ∈ es, 0 ≤ e.kept
  fine : ∀ e ∈ es, e.nd.Fine
  fit : ∀ e ∈ es, Fit64 e.id

theorem rp_det {es : List Ent} {P : List Int} (I : Bk es P) {i : Int} {t : T} (h : Rp es i t) : ∀ {t' : T}, Rp es i t' → t = t' := by
  induction h with
  | mk e he t hv hf hl ha ih =>
    intro t' h'
    obtain ⟨e', he', hi, kv, kf, kl, ka⟩ := h'.inv
    obtain rfl := id_inj I.nod he' he hi
    rw [T.eta t, T.eta t', ← hv, ← kv, ← hf, ← kf]
    congr 1
    exact List.ext_getElem (by omega) fun k h1 h2 => ih k (by omega) h1 (ka k (by omega) h2)

theorem rp_inj {es : List Ent} {P : List Int} (I : Bk es P) {i : Int} {t : T} (h : Rp es i t) : ∀ {j : Int}, Rp es j t → i = j := by
  induction h with
  | mk e he t hv hf hl ha ih =>
    intro j h'
    obtain ⟨e', he', rfl, kv, kf, kl, ka⟩ := h'.inv
    have hnd : e.nd = e'.nd := by
      have h1 : e.nd.args = e'.nd.args := List.ext_getElem (by omega) fun k h1 h2 => ih k h1 (by omega) (ka k h2 (by omega))
      have h2 : e.nd.v = e'.nd.v := by rw [hv, kv]
      have h3 : e.nd.fn = e'.nd.fn := by rw [hf, kf]
      cases hx : e.nd
      cases hy : e'.nd
      rw [hx, hy] at h1 h2 h3
      simp only at h1 h2 h3
      rw [h1, h2, h3]
    rw [I.nds e he e' he' hnd]

/-- What entering nodes does: what was there stays, what is new is kept by nothing; what nothing holds was so before, or is one of these. -/
structure Grw (es es' : List Ent) (ids : List Int) : Prop where
  bk : Bk es' []
  sub : Sub es es'
  old : ∀ e' ∈ es', (∃ e ∈ es, e.id = e'.id ∧ e.kept = e'.kept) ∨ (e'.kept = 0 ∧ e'.id ∉ es.map (·.id))
  gb : ∀ e' ∈ es', e'.kept = 0 → e'.uses = 0 → e'.id ∈ ids ∨ ∃ e ∈ es, e.id = e'.id ∧ e.kept = 0 ∧ e.uses = 0

theorem Grw.refl {es : List Ent} (h : Bk es []) : Grw es es [] := ⟨h, Sub.refl es, fun e he => .inl ⟨e, he, rfl, rfl⟩, fun e he h1 h2 => .inr ⟨e, he, rfl, h1, h2⟩⟩

theorem step_grw (s : {es : List Ent // GoodF es}) (hb : Bk s.1 []) (nd : Nd) (hf : nd.Fine) (ha : ∀ a ∈ nd.args, a ∈ s.1.map (·.id)) (hl : s.1.length ≤ 1000000) :
    Grw s.1 (stepG s nd).1.1 [(stepG s nd).2] ∧ (∃ e ∈ (stepG s nd).1.1, e.id = (stepG s nd).2 ∧ e.nd = nd) ∧ ∀ e' ∈ (stepG s nd).1.1, e'.id ∈ nd.args → e'.uses ≠ 0 := by
  cases he : entOf s.1 nd with
  | some e =>
    rw [stepG_old he]
    obtain ⟨h1, h2⟩ := entOf_some he
    have h3 : e.nd = nd := val_inj (hb.fine e h1).len h2
    refine ⟨⟨hb, Sub.refl _, fun e he => .inl ⟨e, he, rfl, rfl⟩, fun e he h1 h2 => .inr ⟨e, he, rfl, h1, h2⟩⟩, ⟨e, h1, rfl, h3⟩, fun e' he' hi => ?_⟩
    rw [hb.use e' he']
    have := occ_pos h1 (i := e'.id) (by rw [h3]; exact hi)
    omega
  | none =>
    obtain ⟨i, hL, hle⟩ := least_ex s.1
    have hfi : Fit64 i := ⟨by have := hL.1; omega, by omega⟩
    rw [stepG_new he ⟨hL, hfi⟩]
    have hnew := hL.2.1
    have hne := entOf_none he
    show Grw s.1 (bumps nd.args (s.1 ++ [⟨i, nd, 0, 0⟩])) [i] ∧ (∃ e ∈ bumps nd.args (s.1 ++ [⟨i, nd, 0, 0⟩]), e.id = i ∧ e.nd = nd) ∧ ∀ e' ∈ bumps nd.args (s.1 ++ [⟨i, nd, 0, 0⟩]), e'.id ∈ nd.args → e'.uses ≠ 0
    obtain ⟨es, hes⟩ : ∃ es : List Ent, s.1 = es := ⟨_, rfl⟩
    rw [hes] at hb ha hl hne hnew ⊢
    have h16 := hf.len
    have hocc : ∀ i, occ es i ≤ 16 * es.length := occ_le fun e he => (hb.fine e he).len
    have hbe := bumps_eq nd.args (es ++ [⟨i, nd, 0, 0⟩]) (fun e he => by
      rcases List.mem_append.1 he with he | he
      · have h1 := hb.use e he
        have h2 := hocc e.id
        simp only [List.count_nil] at h1
        omega
      · obtain rfl := List.mem_singleton.1 he
        show (0 : Int) ≤ 0 ∧ (0 : Int) + _ ≤ _
        omega)
    rw [hbe]
    have hnc : nd.args.count i = 0 := List.count_eq_zero.2 fun hm => hnew (ha _ hm)
    have mem : ∀ e' ∈ (es ++ ([⟨i, nd, 0, 0⟩] : List Ent)).map (useE nd.args), (∃ e ∈ es, e' = useE nd.args e) ∨ e' = ⟨i, nd, 0, 0⟩ := fun e' he' => by
      obtain ⟨e0, h0, rfl⟩ := List.mem_map.1 he'
      rcases List.mem_append.1 h0 with h0 | h0
      · exact .inl ⟨e0, h0, rfl⟩
      · obtain rfl := List.mem_singleton.1 h0
        right
        unfold useE
        simp only
        rw [show nd.args.count i = 0 from hnc]
        rfl
    have newm : (⟨i, nd, 0, 0⟩ : Ent) ∈ (es ++ ([⟨i, nd, 0, 0⟩] : List Ent)).map (useE nd.args) := List.mem_map.2 ⟨⟨i, nd, 0, 0⟩, by simp, by unfold useE; simp only; rw [show nd.args.count i = 0 from hnc]; rfl⟩
    have oldm : ∀ e ∈ es, useE nd.args e ∈ (es ++ ([⟨i, nd, 0, 0⟩] : List Ent)).map (useE nd.args) := fun e he => List.mem_map_of_mem (List.mem_append_left _ he)
    have hids : ((es ++ ([⟨i, nd, 0, 0⟩] : List Ent)).map (useE nd.args)).map (·.id) = es.map (·.id) ++ [i] := by
      rw [List.map_map]
      simp [Function.comp_def, useE]
    have hocc2 : ∀ j, occ ((es ++ ([⟨i, nd, 0, 0⟩] : List Ent)).map (useE nd.args)) j = occ es j + nd.args.count j := fun j => by
      rw [occ_congr (f := useE nd.args) (fun _ => rfl), occ_append]
      simp [occ]
    have hoccn : occ es i = 0 := by
      have : ∀ l : List Ent, (∀ e ∈ l, i ∉ e.nd.args) → occ l i = 0 := by
        intro l
        induction l with
        | nil => intro _; rfl
        | cons x r ih =>
          intro h
          rw [occ_cons, List.count_eq_zero.2 (h x List.mem_cons_self), ih fun e he => h e (List.mem_cons_of_mem _ he)]
      exact this es fun e he hm => hnew (hb.arg e he _ hm).1
    refine ⟨⟨⟨?_, ?_, ?_, ?_, ?_, ?_, ?_, ?_⟩, ?_, ?_, ?_⟩, ⟨_, newm, rfl, rfl⟩, fun e' he' hi => ?_⟩
    · rw [hids]
      exact List.nodup_append.2 ⟨hb.nod, by simp, fun a ha b hb' => by
        rw [List.mem_singleton] at hb'
        rw [hb']
        exact fun e => hnew (e ▸ ha)⟩
    · intro e he e' he' h
      rcases mem e he with ⟨e0, h0, rfl⟩ | rfl
      · rcases mem e' he' with ⟨e1, h1, rfl⟩ | rfl
        · rw [hb.nds e0 h0 e1 h1 h]
        · have h : e0.nd = nd := h
          exact absurd (by rw [h]) (hne e0 h0)
      · rcases mem e' he' with ⟨e1, h1, rfl⟩ | rfl
        · have h : nd = e1.nd := h
          exact absurd (by rw [h]) (hne e1 h1)
        · rfl
    · intro e he a hA
      rw [hids]
      rcases mem e he with ⟨e0, h0, rfl⟩ | rfl
      · obtain ⟨q1, q2⟩ := hb.arg e0 h0 a hA
        exact ⟨List.mem_append_left _ q1, q2⟩
      · have hA : a ∈ nd.args := hA
        exact ⟨List.mem_append_left _ (ha a hA), fun e => hnew (by have e : a = i := e; rw [← e]; exact ha a hA)⟩
    · intro e he
      rw [hocc2]
      rcases mem e he with ⟨e0, h0, rfl⟩ | rfl
      · have h1 := hb.use e0 h0
        simp only [List.count_nil] at h1
        show e0.uses + _ = ((occ es e0.id + nd.args.count e0.id + List.count e0.id [] : Nat) : Int)
        simp only [List.count_nil]
        omega
      · show (0 : Int) = ((occ es i + nd.args.count i + List.count i [] : Nat) : Int)
        rw [hoccn, hnc]
        rfl
    · intro a hA
      cases hA
    · intro e he
      rcases mem e he with ⟨e0, h0, rfl⟩ | rfl
      · exact hb.kpt e0 h0
      · exact Int.le_refl _
    · intro e he
      rcases mem e he with ⟨e0, h0, rfl⟩ | rfl
      · exact hb.fine e0 h0
      · exact hf
    · intro e he
      rcases mem e he with ⟨e0, h0, rfl⟩ | rfl
      · exact hb.fit e0 h0
      · show Fit64 i
        exact hfi
    · exact fun e he => ⟨useE nd.args e, oldm e he, rfl, rfl⟩
    · intro e' he'
      rcases mem e' he' with ⟨e0, h0, rfl⟩ | rfl
      · exact .inl ⟨e0, h0, rfl, rfl⟩
      · exact .inr ⟨rfl, hnew⟩
    · intro e' he' h1 h2
      rcases mem e' he' with ⟨e0, h0, rfl⟩ | rfl
      · right
        refine ⟨e0, h0, rfl, h1, ?_⟩
        have h3 : e0.uses + ((nd.args.count e0.id : Nat) : Int) = 0 := h2
        have h4 := hb.use e0 h0
        omega
      · exact .inl (by simp)
    · rcases mem e' he' with ⟨e0, h0, rfl⟩ | rfl
      · have h3 : e0.id ∈ nd.args := hi
        have h4 := hb.use e0 h0
        have h5 := List.count_pos_iff.2 h3
        show e0.uses + ((nd.args.count e0.id : Nat) : Int) ≠ 0
        omega
      · have h3 : i ∈ nd.args := hi
        exact absurd (ha _ h3) hnew

theorem Grw.trans {a b c : List Ent} {p q : List Int} (h : Grw a b p) (k : Grw b c q) : Grw a c (p ++ q) := by
  refine ⟨k.bk, h.sub.trans k.sub, fun e' he' => ?_, fun e' he' h1 h2 => ?_⟩
  · rcases k.old e' he' with ⟨e, he, k1, k2⟩ | ⟨k1, k2⟩
    · rcases h.old e he with ⟨e0, h0, g1, g2⟩ | ⟨g1, g2⟩
      · exact .inl ⟨e0, h0, g1.trans k1, g2.trans k2⟩
      · exact .inr ⟨by rw [← k2]; exact g1, by rw [← k1]; exact g2⟩
    · refine .inr ⟨k1, fun hm => k2 ?_⟩
      obtain ⟨e0, h0, he0⟩ := List.mem_map.1 hm
      obtain ⟨e1, h1, g1, _⟩ := h.sub e0 h0
      rw [← he0, ← g1]
      exact List.mem_map_of_mem h1
  · rcases k.gb e' he' h1 h2 with k1 | ⟨e, he, k1, k2, k3⟩
    · exact .inl (List.mem_append_right _ k1)
    · rcases h.gb e he k2 k3 with g1 | ⟨e0, h0, g1, g2, g3⟩
      · exact .inl (List.mem_append_left _ (by rw [← k1]; exact g1))
      · exact .inr ⟨e0, h0, g1.trans k1, g2, g3⟩

/-- What numbering a term does. -/
def NumOk (n0 Ba : Nat) (limit : Int) (t : T) : Prop := ∀ s : {es : List Ent // GoodF es}, Bk s.1 [] → t.shape = true → (s.1.length : Int) + t.size ≤ 1000000 →
  Grw s.1 ((enterG n0 Ba limit).num t s).1.1 [((enterG n0 Ba limit).num t s).2] ∧ Rp ((enterG n0 Ba limit).num t s).1.1 ((enterG n0 Ba limit).num t s).2 t

theorem nums_ok (n0 Ba : Nat) (limit : Int) : ∀ (l : List T), (∀ a ∈ l, NumOk n0 Ba limit a ∧ a.shape = true) → ∀ s : {es : List Ent // GoodF es}, Bk s.1 [] → (s.1.length : Int) + (l.map T.size).sum ≤ 1000000 →
    Grw s.1 (Numb.num.nums (enterG n0 Ba limit) l s).1.1 (Numb.num.nums (enterG n0 Ba limit) l s).2 ∧ ∀ k (h1 : k < l.length) (h2 : k < (Numb.num.nums (enterG n0 Ba limit) l s).2.length), Rp (Numb.num.nums (enterG n0 Ba limit) l s).1.1 (Numb.num.nums (enterG n0 Ba limit) l s).2[k] l[k]
  | [], _, s, hb, _ => ⟨Grw.refl hb, fun k h1 => absurd h1 (by simp)⟩
  | a :: r, h, s, hb, hl => by
    have hpos : ∀ q : List T, 0 ≤ (q.map T.size).sum := by
      intro q
      induction q with
      | nil => simp
      | cons b r ih => have := size_pos b; simp only [List.map_cons, List.sum_cons]; omega
    have hr := hpos r
    rw [List.map_cons, List.sum_cons] at hl
    obtain ⟨g1, g2⟩ := (h a List.mem_cons_self).1 s hb (h a List.mem_cons_self).2 (by omega)
    have hcnt := ((enterG n0 Ba limit).facts a s).2.2
    have hcnt : ((((enterG n0 Ba limit).num a s).1.1.length + 1072741825 : Nat) : Int) ≤ ((s.1.length + 1072741825 : Nat) : Int) + a.size := hcnt
    obtain ⟨k1, k2⟩ := nums_ok n0 Ba limit r (fun b hb' => h b (List.mem_cons_of_mem _ hb')) ((enterG n0 Ba limit).num a s).1 g1.bk (by omega)
    refine ⟨g1.trans k1, fun k h1 h2 => ?_⟩
    cases k with
    | zero => exact g2.mono k1.sub
    | succ k => exact k2 k (by simpa using h1) (by simpa [Numb.num.nums] using h2)

theorem num_ok (n0 Ba : Nat) (limit : Int) (t : T) : NumOk n0 Ba limit t := by
  induction t using T.ind with
  | _ t ih =>
    intro s hb hs hl
    obtain ⟨h16, h64, hv, hsub⟩ := shape_args hs
    rw [T.size_eq] at hl
    obtain ⟨g1, g2⟩ := nums_ok n0 Ba limit t.args (fun a ha => ⟨ih a ha, hsub a ha⟩) s hb (by omega)
    obtain ⟨n1, n2, n3⟩ := (enterG n0 Ba limit).nums_has t.args s
    have hlen := (enterG n0 Ba limit).nums_len t.args s
    have e : ((enterG n0 Ba limit).num t s : {es : List Ent // GoodF es} × Int) = stepG (Numb.num.nums (enterG n0 Ba limit) t.args s).1 ⟨t.v, t.fn, (Numb.num.nums (enterG n0 Ba limit) t.args s).2⟩ := (enterG n0 Ba limit).num_eq t s
    suffices hsuf : ∀ r : {es : List Ent // GoodF es} × Int, r = stepG (Numb.num.nums (enterG n0 Ba limit) t.args s).1 ⟨t.v, t.fn, (Numb.num.nums (enterG n0 Ba limit) t.args s).2⟩ → Grw s.1 r.1.1 [r.2] ∧ Rp r.1.1 r.2 t from hsuf _ e
    clear e
    intro r hr
    obtain ⟨s', hs'⟩ : ∃ x : {es : List Ent // GoodF es}, (Numb.num.nums (enterG n0 Ba limit) t.args s).1 = x := ⟨_, rfl⟩
    obtain ⟨ids, hids⟩ : ∃ x, (Numb.num.nums (enterG n0 Ba limit) t.args s).2 = x := ⟨_, rfl⟩
    rw [hs', hids] at g1 n2 hr
    subst hr
    rw [hs'] at n1 n3
    rw [hids] at hlen
    simp only [hs', hids] at g2
    have hfine : (⟨t.v, t.fn, ids⟩ : Nd).Fine := ⟨hv, h64, by show ids.length ≤ 16; omega, fun a ha => (enterG n0 Ba limit).fit s' a (n2 a ha)⟩
    have hcnt : ((s'.1.length + 1072741825 : Nat) : Int) ≤ ((s.1.length + 1072741825 : Nat) : Int) + (t.args.map T.size).sum := n3
    obtain ⟨k1, ⟨e, he, k2, k3⟩, k4⟩ := step_grw s' g1.bk ⟨t.v, t.fn, ids⟩ hfine (fun a ha => n2 a ha) (by omega)
    show Grw s.1 (stepG s' ⟨t.v, t.fn, ids⟩).1.1 [(stepG s' ⟨t.v, t.fn, ids⟩).2] ∧ Rp (stepG s' ⟨t.v, t.fn, ids⟩).1.1 (stepG s' ⟨t.v, t.fn, ids⟩).2 t
    have hg := g1.trans k1
    refine ⟨⟨hg.bk, hg.sub, hg.old, fun e' he' h1 h2 => ?_⟩, ?_⟩
    · rcases hg.gb e' he' h1 h2 with h3 | h3
      · rcases List.mem_append.1 h3 with h3 | h3
        · exact absurd h2 (k4 e' he' h3)
        · exact .inl h3
      · exact .inr h3
    · rw [← k2]
      refine .mk e he t (by rw [k3]) (by rw [k3]) (by rw [k3]; exact hlen) (fun k h1 h2 => ?_)
      simp only [k3] at h1 ⊢
      exact (g2 k h2 h1).mono k1.sub

/-- Making once more. -/
theorem keep_grw {es es' : List Ent} {i : Int} (h : Grw es es' [i]) (_hi : i ∈ es'.map (·.id)) (hk : ∀ e ∈ es', e.kept ≤ 1000000) : Bk (es'.map (keepE i)) [] ∧ Sub es (es'.map (keepE i)) ∧ Sub es' (es'.map (keepE i)) ∧
    (∀ e' ∈ es'.map (keepE i), e'.kept = 0 → e'.uses = 0 → ∃ e ∈ es, e.id = e'.id ∧ e.kept = 0 ∧ e.uses = 0) ∧
    (∀ e' ∈ es'.map (keepE i), (∃ e ∈ es, e.id = e'.id ∧ e'.kept = e.kept + (if e'.id = i then 1 else 0)) ∨ (e'.id ∉ es.map (·.id) ∧ e'.kept = (if e'.id = i then 1 else 0))) := by
  have hkp : ∀ e ∈ es', (keepE i e).kept = e.kept + (if e.id = i then 1 else 0) := fun e he => by
    have h1 := hk e he
    have h2 := h.bk.kpt e he
    unfold keepE
    by_cases e1 : e.id = i
    · rw [if_pos e1, if_pos e1]
      show wrap64 (e.kept + 1) = _
      unfold wrap64
      omega
    · rw [if_neg e1, if_neg e1]
      omega
  have hus : ∀ e, (keepE i e).uses = e.uses := fun e => by unfold keepE; split <;> rfl
  have hb := h.bk
  have hs' := Sub.of_map (keepE_id i) (keepE_nd i) es'
  refine ⟨⟨?_, ?_, ?_, ?_, ?_, ?_, ?_, ?_⟩, h.sub.trans hs', hs', ?_, ?_⟩
  · rw [keep_ids]; exact hb.nod
  · intro a ha b hb' e
    obtain ⟨a, ha2, rfl⟩ := List.mem_map.1 ha
    obtain ⟨b, hb2, rfl⟩ := List.mem_map.1 hb'
    rw [keepE_nd, keepE_nd] at e
    rw [hb.nds a ha2 b hb2 e]
  · intro e he a ha
    obtain ⟨e, he2, rfl⟩ := List.mem_map.1 he
    rw [keepE_nd] at ha
    rw [keep_ids, keepE_id]
    exact hb.arg e he2 a ha
  · intro e he
    obtain ⟨e, he2, rfl⟩ := List.mem_map.1 he
    rw [hus, keepE_id, occ_congr (keepE_nd i)]
    exact hb.use e he2
  · intro a ha; cases ha
  · intro e he
    obtain ⟨e, he2, rfl⟩ := List.mem_map.1 he
    rw [hkp e he2]
    have := hb.kpt e he2
    split <;> omega
  · intro e he
    obtain ⟨e, he2, rfl⟩ := List.mem_map.1 he
    rw [keepE_nd]
    exact hb.fine e he2
  · intro e he
    obtain ⟨e, he2, rfl⟩ := List.mem_map.1 he
    rw [keepE_id]
    exact hb.fit e he2
  · intro e' he' h1 h2
    obtain ⟨e, he2, rfl⟩ := List.mem_map.1 he'
    rw [hkp e he2] at h1
    rw [hus] at h2
    have := hb.kpt e he2
    by_cases e1 : e.id = i
    · rw [if_pos e1] at h1; omega
    · rw [if_neg e1] at h1
      rcases h.gb e he2 (by omega) h2 with h3 | ⟨e0, h0, h3, h4, h5⟩
      · exact absurd (List.mem_singleton.1 h3) e1
      · exact ⟨e0, h0, by rw [keepE_id]; exact h3, h4, h5⟩
  · intro e' he'
    obtain ⟨e, he2, rfl⟩ := List.mem_map.1 he'
    rw [hkp e he2, keepE_id]
    rcases h.old e he2 with ⟨e0, h0, h3, h4⟩ | ⟨h3, h4⟩
    · exact .inl ⟨e0, h0, h3, by rw [h4]⟩
    · exact .inr ⟨h4, by rw [h3]; omega⟩

end Go.Proofs.Ytbbfpllffcfmhaa.Fq

/-
  sweep, where numbers come again.
-/
namespace Go.Proofs.Ytbbfpllffcfmhaa

theorem Fr.map {es : List Ent} {free : List Int} (h : Fr es free) {f : Ent → Ent} (hf : ∀ e, (f e).id = e.id) : Fr (es.map f) free := by
  have e : (es.map f).map (·.id) = es.map (·.id) := by
    rw [List.map_map]
    exact List.map_congr_left fun x _ => hf x
  exact ⟨h.hp, by rw [e, List.length_map]; exact h.all, by rw [e]; exact h.nod, by rw [List.length_map]; exact h.top⟩

theorem Fr.rem {es : List Ent} {free free' : List Int} (h : Fr es free) {x : Ent} (hx : x ∈ es) (hp : Hp free') (hP : free'.Perm (free ++ [x.id])) : Fr (remE x.id es) free' := by
  have hn := List.nodup_append.1 h.nod
  have hlen := (rem_occ hn.2.1 hx 0).2
  have hfl := hP.length_eq
  rw [List.length_append, List.length_singleton] at hfl
  have hxi : x.id ∈ es.map (·.id) := List.mem_map_of_mem hx
  have hm : ∀ i, i ∈ free' ↔ i ∈ free ∨ i = x.id := fun i => by rw [hP.mem_iff, List.mem_append, List.mem_singleton]
  have hr : ∀ i, i ∈ (remE x.id es).map (·.id) ↔ i ∈ es.map (·.id) ∧ i ≠ x.id := fun i => by
    constructor
    · intro hi
      obtain ⟨e, he, rfl⟩ := List.mem_map.1 hi
      exact ⟨List.mem_map_of_mem (mem_rem.1 he).1, (mem_rem.1 he).2⟩
    · rintro ⟨h1, h2⟩
      exact mem_ids_rem h1 h2
  refine ⟨hp, fun i => ?_, ?_, by have := h.top; omega⟩
  · have ha := h.all i
    rw [hm, hr]
    by_cases e : i = x.id
    · subst e
      have := ha.1 (.inr hxi)
      exact ⟨fun _ => by omega, fun _ => .inl (.inr rfl)⟩
    · rw [show ((i ∈ free ∨ i = x.id) ∨ i ∈ es.map (·.id) ∧ i ≠ x.id) ↔ (i ∈ free ∨ i ∈ es.map (·.id)) from ⟨fun h => by rcases h with (h | h) | h; exact .inl h; exact absurd h e; exact .inr h.1, fun h => by rcases h with h | h; exact .inl (.inl h); exact .inr ⟨h, e⟩⟩, ha]
      omega
  · refine List.nodup_append.2 ⟨?_, List.Nodup.sublist (List.Sublist.map _ List.filter_sublist) hn.2.1, fun a ha b hb e => ?_⟩
    · refine (hP.nodup_iff).2 (List.nodup_append.2 ⟨hn.1, by simp, fun a ha b hb e => ?_⟩)
      rw [List.mem_singleton] at hb
      exact h.apart ha (by rw [e, hb]; exact hxi)
    · subst e
      obtain ⟨h1, h2⟩ := (hr a).1 hb
      rcases (hm a).1 ha with h3 | h3
      · exact h.apart h3 h1
      · exact h2 h3

namespace Fq
open Go.RowKit Go.Maps

/-- Entries, and uses that are no more than they may be. -/
def Bs (es : List Ent) (P : List Int) : Prop := Bk es P ∧ ∀ e ∈ es, e.uses ≤ 4611686018427387904

theorem Bs.remove {es : List Ent} {P : List Int} (h : Bs es P) {e : Ent} (he : e ∈ es) (hu : e.uses = 0) : Bs (remE e.id es) (e.nd.args ++ P) := by
  obtain ⟨b, hs⟩ := h
  have h0 := b.use e he
  rw [hu] at h0
  have ho : occ es e.id = 0 := by omega
  have hp : P.count e.id = 0 := by omega
  have hno : ∀ e' ∈ es, e.id ∉ e'.nd.args := fun e' he' hm => by have := occ_pos he' hm; omega
  refine ⟨⟨?_, fun x hx y hy e1 => b.nds x (mem_rem.1 hx).1 y (mem_rem.1 hy).1 e1, fun x hx a ha => ?_, fun x hx => ?_, fun a ha => ?_, fun x hx => b.kpt x (mem_rem.1 hx).1, fun x hx => b.fine x (mem_rem.1 hx).1, fun x hx => b.fit x (mem_rem.1 hx).1⟩, fun x hx => hs x (mem_rem.1 hx).1⟩
  · exact List.Nodup.sublist (List.Sublist.map _ List.filter_sublist) b.nod
  · obtain ⟨q1, q2⟩ := b.arg x (mem_rem.1 hx).1 a ha
    exact ⟨mem_ids_rem q1 (fun e1 => hno x (mem_rem.1 hx).1 (e1 ▸ ha)), q2⟩
  · have h1 := b.use x (mem_rem.1 hx).1
    have h2 := (rem_occ b.nod he x.id).1
    rw [h1, h2, List.count_append]
    congr 1
    omega
  · rcases List.mem_append.1 ha with ha | ha
    · obtain ⟨q1, q2⟩ := b.arg e he a ha
      exact mem_ids_rem q1 (by omega)
    · exact mem_ids_rem (b.pnd a ha) (fun e1 => by have := List.count_pos_iff.2 ha; rw [e1] at this; omega)

theorem Bs.dec {es : List Ent} {P : List Int} {a : Int} (h : Bs es (a :: P)) : Bs (es.map (decE a)) P := by
  obtain ⟨b, hs⟩ := h
  have hu : ∀ e ∈ es, (decE a e).uses = ((occ es e.id + P.count e.id : Nat) : Int) := fun e he => by
    have h1 := b.use e he
    have h2 := hs e he
    rw [List.count_cons] at h1
    unfold decE
    by_cases e1 : e.id = a
    · rw [if_pos e1]
      simp only [e1, BEq.rfl, if_true] at h1
      show wrap64 (e.uses - 1) = _
      rw [e1]
      unfold wrap64
      omega
    · rw [if_neg e1]
      rw [if_neg (by simpa using Ne.symm e1)] at h1
      simpa using h1
  refine ⟨⟨?_, ?_, ?_, ?_, ?_, ?_, ?_, ?_⟩, ?_⟩
  · rw [dec_ids]; exact b.nod
  · intro x hx y hy e1
    obtain ⟨x, hx2, rfl⟩ := List.mem_map.1 hx
    obtain ⟨y, hy2, rfl⟩ := List.mem_map.1 hy
    rw [decE_nd, decE_nd] at e1
    rw [b.nds x hx2 y hy2 e1]
  · intro x hx c hc
    obtain ⟨x, hx2, rfl⟩ := List.mem_map.1 hx
    rw [decE_nd] at hc
    rw [dec_ids, decE_id]
    exact b.arg x hx2 c hc
  · intro x hx
    obtain ⟨x, hx2, rfl⟩ := List.mem_map.1 hx
    rw [hu x hx2, decE_id, occ_congr (decE_nd a)]
  · intro c hc
    rw [dec_ids]
    exact b.pnd c (List.mem_cons_of_mem _ hc)
  · intro x hx
    obtain ⟨x, hx2, rfl⟩ := List.mem_map.1 hx
    rw [decE_kept]
    exact b.kpt x hx2
  · intro x hx
    obtain ⟨x, hx2, rfl⟩ := List.mem_map.1 hx
    rw [decE_nd]
    exact b.fine x hx2
  · intro x hx
    obtain ⟨x, hx2, rfl⟩ := List.mem_map.1 hx
    rw [decE_id]
    exact b.fit x hx2
  · intro x hx
    obtain ⟨x, hx2, rfl⟩ := List.mem_map.1 hx
    have h1 := hu x hx2
    have h2 := hs x hx2
    have h3 := b.use x hx2
    rw [List.count_cons] at h3
    split at h3 <;> omega

/-- What sweeping node i does. -/
structure Swp (P : List Int) (i : Int) (es es' : List Ent) : Prop where
  bs : Bs es' P
  sub : ∀ e' ∈ es', ∃ e ∈ es, e.id = e'.id ∧ e.nd = e'.nd ∧ e.kept = e'.kept
  stay : ∀ e ∈ es, 0 < e.kept → e.id ∈ es'.map (·.id)
  gb : ∀ e' ∈ es', e'.kept = 0 → e'.uses = 0 → e'.id ≠ i ∧ ∃ e ∈ es, e.id = e'.id ∧ e.uses = 0
  len : es'.length ≤ es.length

theorem Swp.none {P : List Int} {es : List Ent} (h : Bs es P) {e : Ent} (he : e ∈ es) (hh : 0 < e.kept ∨ 0 < e.uses) : Swp P e.id es es := by
  refine ⟨h, fun x hx => ⟨x, hx, rfl, rfl, rfl⟩, fun x hx _ => List.mem_map_of_mem hx, fun x hx h1 h2 => ⟨fun e1 => ?_, x, hx, rfl, h2⟩, Nat.le_refl _⟩
  obtain rfl := id_inj h.1.nod hx he e1
  omega
theorem Swp.start {P : List Int} {es : List Ent} (h : Bs es P) {e : Ent} (he : e ∈ es) (hk : e.kept = 0) (hu : e.uses = 0) : Swp (e.nd.args ++ P) e.id es (remE e.id es) := by
  refine ⟨h.remove he hu, fun x hx => ⟨x, (mem_rem.1 hx).1, rfl, rfl, rfl⟩, fun x hx h1 => ?_, fun x hx h1 h2 => ⟨(mem_rem.1 hx).2, x, (mem_rem.1 hx).1, rfl, h2⟩, by have := (rem_occ h.1.nod he 0).2; omega⟩
  refine mem_ids_rem (List.mem_map_of_mem hx) (fun e1 => ?_)
  obtain rfl := id_inj h.1.nod hx he e1
  omega
theorem Swp.next {P : List Int} {i a : Int} {es es1 es2 : List Ent} (hn : (es.map (·.id)).Nodup) (h : Swp (a :: P) i es es1) (k : Swp P a (es1.map (decE a)) es2) : Swp P i es es2 := by
  have hn1 := h.bs.1.nod
  refine ⟨k.bs, fun e2 he2 => ?_, fun e he hk => ?_, fun e2 he2 h1 h2 => ?_, ?_⟩
  · obtain ⟨d, hd, q1, q2, q3⟩ := k.sub e2 he2
    obtain ⟨e1, he1, rfl⟩ := List.mem_map.1 hd
    obtain ⟨e0, he0, p1, p2, p3⟩ := h.sub e1 he1
    rw [decE_id] at q1
    rw [decE_nd] at q2
    rw [decE_kept] at q3
    exact ⟨e0, he0, p1.trans q1, p2.trans q2, p3.trans q3⟩
  · obtain ⟨e1, he1, q1⟩ := List.mem_map.1 (h.stay e he hk)
    obtain ⟨e0, he0, p1, _, p3⟩ := h.sub e1 he1
    obtain rfl := id_inj hn he0 he (p1.trans q1)
    have := k.stay (decE a e1) (List.mem_map_of_mem he1) (by rw [decE_kept, ← p3]; exact hk)
    rw [decE_id] at this
    rw [← q1]
    exact this
  · obtain ⟨g1, d, hd, g2, g3⟩ := k.gb e2 he2 h1 h2
    obtain ⟨e1, he1, rfl⟩ := List.mem_map.1 hd
    rw [decE_id] at g2
    have hne : e1.id ≠ a := by rw [g2]; exact g1
    have e1d : decE a e1 = e1 := by unfold decE; rw [if_neg hne]
    rw [e1d] at g3
    obtain ⟨d', hd', p1, _, p3⟩ := k.sub e2 he2
    obtain ⟨e1', he1', rfl⟩ := List.mem_map.1 hd'
    rw [decE_id] at p1
    rw [decE_kept] at p3
    obtain rfl := id_inj hn1 he1' he1 (p1.trans g2.symm)
    obtain ⟨f1, e0, he0, f2, f3⟩ := h.gb e1' he1 (by rw [p3]; exact h1) g3
    exact ⟨by rw [← g2]; exact f1, e0, he0, f2.trans g2, f3⟩
  · have := h.len
    have := k.len
    rw [List.length_map] at this
    omega

theorem numMap_rem {es : List Ent} {P : List Int} (h : Bk es P) {e : Ent} (he : e ∈ es) : numMap (remE e.id es) = del (numMap es) e.nd.val := by
  classical
  funext key
  unfold numMap del
  by_cases hk : key = e.nd.val
  · rw [if_pos hk]
    have : (remE e.id es).find? (fun e' => decide (e'.nd.val = key)) = none := List.find?_eq_none.2 fun x hx hd => by
      have hd : x.nd.val = key := by simpa using hd
      have := h.nds x (mem_rem.1 hx).1 e he (val_inj (h.fine x (mem_rem.1 hx).1).len (hd.trans hk))
      exact (mem_rem.1 hx).2 (by rw [this])
    rw [this]
    rfl
  · rw [if_neg hk]
    unfold remE
    rw [find_filter fun x hx hd => ?_]
    have hd : x.nd.val = key := by simpa using hd
    refine decide_eq_true fun e1 => hk ?_
    rw [← hd, id_inj h.nod hx he e1]

theorem bank_rem {n0 Ba : Nat} {B : List Nat} {limit : Int} {es : List Ent} {free : List Int} {W : World} {bn br : Nat} {fv : Value} {l : List (Ent × Nat)} (h : BankAt n0 Ba B limit es free W bn br fv l) {P : List Int} (hb : Bk es P) {x : Ent × Nat} (hx : x ∈ l) {W' : World} {g c : Nat} {free' : List Int}
    (hn : MapIs W' 82 bn (del (numMap es) x.1.nd.val) (es.length - 1)) (hr : MapIs W' 3 br (del (recMap l) (.int .i64 x.1.id)) (es.length - 1)) (hF : Fb W' Ba limit bn br n0 g c free') (he : ∀ y ∈ l, W'.heap[y.2]? = W.heap[y.2]?) :
    BankAt n0 Ba (Ba :: bn :: br :: ([g] ++ (remL x.1.id l).map (·.2))) limit (remE x.1.id es) free' W' bn br (.slice (some ⟨g, 0, none⟩) free'.length c) (remL x.1.id l) := by
  have hxe : x.1 ∈ es := by rw [← h.ents]; exact List.mem_map_of_mem hx
  have hlen : (remE x.1.id es).length = es.length - 1 := by have := (rem_occ hb.nod hxe 0).2; omega
  have hB : ∀ r ∈ B, n0 ≤ r := h.low
  rw [h.mine] at hB
  refine ⟨by rw [remL_ents, h.ents], hF.head, ?_, ?_, fun y hy => (he y (mem_remL.1 hy).1).trans (h.each y (mem_remL.1 hy).1), hF.rw.to_row, h.apart, ?_, rfl, fun r hr' => ?_⟩
  · rw [numMap_rem hb hxe, hlen]; exact hn
  · rw [recMap_rem, hlen]; exact hr
  · exact List.Nodup.sublist (List.Sublist.map _ List.filter_sublist) h.blks
  · simp only [List.mem_cons, List.mem_append, List.not_mem_nil, or_false, List.mem_map] at hr'
    rcases hr' with rfl | rfl | rfl | rfl | ⟨y, hy, rfl⟩
    · exact hB _ (by simp)
    · exact hB _ (by simp)
    · exact hB _ (by simp)
    · exact hF.rw.low
    · exact hB _ (by simp only [List.mem_cons, List.mem_append, List.mem_map]; exact .inr (.inr (.inr (.inr ⟨y, (mem_remL.1 hy).1, rfl⟩))))

/-- What sweep gives. -/
def SwP (n0 Ba : Nat) (B : List Nat) (limit : Int) (es : List Ent) (P : List Int) (i : Int) (W : World) (e : Ending) (W' : World) : Prop :=
  e = .returned (.tuple #[]) ∧ ∃ es' free' B', BankSt n0 Ba B' limit es' free' W' ∧ Swp P i es es' ∧ Fr es' free' ∧ (∀ r ∈ B', r ∈ B ∨ W.heap.size ≤ r) ∧ Only B W W'

/-- What the loop over the arguments keeps. -/
def SwL (n0 Ba : Nat) (B : List Nat) (limit : Int) (es : List Ent) (Q : List Int) (i : Int) (b : Nat) (W wr : World) : Prop :=
  ∃ es1 free1 B1, BankSt n0 Ba B1 limit es1 free1 wr ∧ Swp Q i es es1 ∧ es1.length < es.length ∧ Fr es1 free1 ∧ (∀ r ∈ B1, r ∈ B ∨ W.heap.size ≤ r) ∧ b ∉ B1 ∧ Only B W wr ∧ wr.heap[b]? = W.heap[b]? ∧ b < W.heap.size

/-- The node is gone from both maps, its number is free: where the loop begins. -/
theorem sw_start {n0 Ba : Nat} {B : List Nat} {limit : Int} {es : List Ent} {free : List Int} {P : List Int} {W : World} {bn br : Nat} {fv : Value} {l : List (Ent × Nat)} (h : BankAt n0 Ba B limit es free W bn br fv l) (hBs : Bs es P) {x : Ent × Nat} (hx : x ∈ l) (hk : x.1.kept = 0) (hu : x.1.uses = 0) (hfl : Fr es free) {Wd W1 W2 W3 : World} (hd : Below W.heap.size W Wd) (g1 : Wd.grownBy W1 (some bn)) (M1 : MapIs W1 82 bn (del (numMap es) x.1.nd.val) (es.length - 1)) (g2 : W1.grownBy W2 (some br)) (M2 : MapIs W2 3 br (del (recMap l) (.int .i64 x.1.id)) (es.length - 1)) {g c : Nat} {free' : List Int} (hF : Fb W3 Ba limit bn br n0 g c free') (_hl : free'.length = free.length + 1) (hHp : Hp free') (hPm : free'.Perm (free ++ [x.1.id])) (hO : Only (Ba :: fv.ownBlock.toList) W2 W3) (hg : fv.ownBlock = some g ∨ W2.heap.size ≤ g) : SwL n0 Ba B limit es (x.1.nd.args ++ P) x.1.id x.2 W W3 := by
  obtain ⟨m1, m2, m3⟩ := h.maps
  obtain ⟨o1, o2, o3⟩ := h.own_ne
  have hth := h.there
  have hmem : ∀ {r}, r = Ba ∨ r = bn ∨ r = br ∨ fv.ownBlock = some r ∨ (∃ x ∈ l, x.2 = r) → r ∈ B := fun {r} hr => by
    rw [h.mine]
    simp only [List.mem_cons, List.mem_append, Option.mem_toList, List.mem_map]
    exact hr
  have hOd : Only B W Wd := Only.of_below hd
  have h01 : Only B W W1 := hOd.trans (Only.of_grown (B := [bn]) g1 (fun r e => by cases e; simp)) (fun r hr => .inl (by obtain rfl := List.mem_singleton.1 hr; exact hmem (.inr (.inl rfl))))
  have h02 : Only B W W2 := h01.trans (Only.of_grown (B := [br]) g2 (fun r e => by cases e; simp)) (fun r hr => .inl (by obtain rfl := List.mem_singleton.1 hr; exact hmem (.inr (.inr (.inl rfl)))))
  have h03 : Only B W W3 := h02.trans hO (fun r hr => .inl (by
    rcases List.mem_cons.1 hr with rfl | hr
    · exact hmem (.inl rfl)
    · exact hmem (.inr (.inr (.inr (.inl (by simpa using hr)))))))
  have s2 := h02.size
  have blk : ∀ r, r < W.heap.size → r ≠ bn → r ≠ br → r ≠ Ba → fv.ownBlock ≠ some r → W3.heap[r]? = W.heap[r]? := fun r hr n1 n2 n3 n4 => by
    rw [hO.block r (by omega) (by simp only [List.mem_cons, Option.mem_toList, not_or]; exact ⟨n3, n4⟩), g2.block r (by have := h01.size; omega) (fun e => n2 (Option.some.inj e)), g1.block r (by have := hOd.size; omega) (fun e => n1 (Option.some.inj e)), hd.block r hr]
  have hbnl := h.nums.lt
  have hbrl := h.recs.lt
  have M1' : MapIs W3 82 bn (del (numMap es) x.1.nd.val) (es.length - 1) := M1.same (by
    rw [hO.block bn (by omega) (by simp only [List.mem_cons, Option.mem_toList, not_or]; exact ⟨m1, o1⟩), g2.block bn (by have := h01.size; omega) (fun e => h.apart (Option.some.inj e))])
  have M2' : MapIs W3 3 br (del (recMap l) (.int .i64 x.1.id)) (es.length - 1) := M2.same (hO.block br (by omega) (by simp only [List.mem_cons, Option.mem_toList, not_or]; exact ⟨m2, o2⟩))
  have each : ∀ y ∈ l, W3.heap[y.2]? = W.heap[y.2]? := fun y hy => by
    obtain ⟨q1, q2⟩ := h.rec_ne y hy
    obtain ⟨q3, q4⟩ := m3 y hy
    exact blk y.2 (hth _ (hmem (.inr (.inr (.inr (.inr ⟨y, hy, rfl⟩)))))) (fun e => q3 (by rw [e])) (fun e => q4 (by rw [e])) q1 q2
  have hxe : x.1 ∈ es := by rw [← h.ents]; exact List.mem_map_of_mem hx
  have hlen := (rem_occ hBs.1.nod hxe 0).2
  have hxl : x.2 < W.heap.size := hth _ (hmem (.inr (.inr (.inr (.inr ⟨x, hx, rfl⟩)))))
  obtain ⟨q1, q2⟩ := h.rec_ne x hx
  obtain ⟨q3, q4⟩ := m3 x hx
  refine ⟨_, free', _, ⟨bn, br, _, _, bank_rem h hBs.1 hx M1' M2' hF each⟩, Swp.start hBs hxe hk hu, by omega, hfl.rem hxe hHp hPm, fun r hr => ?_, fun hm => ?_, h03, each x hx, hxl⟩
  · simp only [List.mem_cons, List.mem_append, List.not_mem_nil, or_false, List.mem_map] at hr
    rcases hr with rfl | rfl | rfl | rfl | ⟨y, hy, rfl⟩
    · exact .inl (hmem (.inl rfl))
    · exact .inl (hmem (.inr (.inl rfl)))
    · exact .inl (hmem (.inr (.inr (.inl rfl))))
    · rcases hg with e | e
      · exact .inl (hmem (.inr (.inr (.inr (.inl e)))))
      · exact .inr (by omega)
    · exact .inl (hmem (.inr (.inr (.inr (.inr ⟨y, (mem_remL.1 hy).1, rfl⟩)))))
  · simp only [List.mem_cons, List.mem_append, List.not_mem_nil, or_false, List.mem_map] at hm
    rcases hm with e | e | e | e | ⟨y, hy, e⟩
    · exact q1 e
    · exact q3 (by rw [e])
    · exact q4 (by rw [e])
    · rcases hg with e2 | e2
      · exact q2 (by rw [e2, e])
      · omega
    · have := inj_of_nodup h.blks (mem_remL.1 hy).1 hx e
      exact (mem_remL.1 hy).2 (by rw [this])

theorem SwL.keep {n0 Ba : Nat} {B : List Nat} {limit : Int} {es : List Ent} {Q : List Int} {i : Int} {b : Nat} {W wr wr' : World} (h : SwL n0 Ba B limit es Q i b W wr) (hb : Below wr.heap.size wr wr') : SwL n0 Ba B limit es Q i b W wr' := by
  obtain ⟨es1, free1, B1, h1, h2, h3, h4, h5, h6, h7, h8, h9⟩ := h
  exact ⟨es1, free1, B1, h1.keep (fun r hr => hb.block r (h1.there r hr).2), h2, h3, h4, h5, h6, h7.trans (Only.of_below (B := []) hb) (by simp), (hb.block b (by have := h7.size; omega)).trans h8, h9⟩

/-- An argument: a use less, then it is swept. -/
theorem sw_step {n0 Ba : Nat} {B : List Nat} {limit : Int} {es : List Ent} {Q : List Int} {i a : Int} {b : Nat} {W wr : World} (hL : SwL n0 Ba B limit es (a :: Q) i b W wr) (hn : (es.map (·.id)).Nodup) : ∃ (br y : Nat) (u : Int) (es1 : List Ent) (free1 : List Int) (B1 : List Nat), wr.cell? ⟨Ba, 2, none⟩ = some (.map (some br)) ∧ (Instr.lookup 73 (.map (some br)) (.int .i64 a) false).run Try.prog wr = .ok (.pointer (some ⟨y, 0, none⟩)) wr ∧ wr.cell? ⟨y, 20, none⟩ = some (.int .i64 u) ∧ wr.frozen? ⟨y, 20, none⟩ = false ∧
    BankSt n0 Ba B1 limit es1 free1 (wr.setCell ⟨y, 20, none⟩ (.int .i64 (wrap64 (u - 1)))) ∧ Bs es1 Q ∧ a ∈ es1.map (·.id) ∧ es1.length < es.length ∧ Fr es1 free1 ∧ ∀ e W6, SwP n0 Ba B1 limit es1 Q a (wr.setCell ⟨y, 20, none⟩ (.int .i64 (wrap64 (u - 1)))) e W6 → e = .returned (.tuple #[]) ∧ SwL n0 Ba B limit es Q i b W W6 := by
  obtain ⟨es1, free1, B1, ⟨bn, br, fv, l, h1⟩, h2, h3, h4, h5, h6, h7, h8, h9⟩ := hL
  have hids : l.map (·.1.id) = es1.map (·.id) := by rw [← h1.ents, List.map_map]; rfl
  have ha : a ∈ es1.map (·.id) := h2.bs.1.pnd a List.mem_cons_self
  obtain ⟨y, hy, hyi, hone, hrec⟩ := recMap_find l a (by rw [hids]; exact ha) (by rw [hids]; exact h2.bs.1.nod)
  have hye : y.1 ∈ es1 := by rw [← h1.ents]; exact List.mem_map_of_mem hy
  have hfit : Fit64 a := by rw [← hyi]; exact h2.bs.1.fit y.1 hye
  have hrc := h1.each y hy
  have hyB : y.2 ∈ B1 := by
    rw [h1.mine]
    simp only [List.mem_cons, List.mem_append, List.mem_map]
    exact .inr (.inr (.inr (.inr ⟨y, hy, rfl⟩)))
  have hbd := bank_dec h1 a y hy hyi hone
  refine ⟨br, y.2, y.1.uses, es1.map (decE a), free1, B1, h1.cells.2.2.1, ((h1.recs.look keyed3 Try.underlying73 (zero85 _) (key3 hfit)).1 _ hrec).2, ?_, by simp [World.frozen?, hrc], ⟨bn, br, fv, _, hbd⟩, h2.bs.dec, by rw [dec_ids]; exact ha, by rw [List.length_map]; exact h3, h4.map (decE_id a), ?_⟩
  · rw [cell_of_row _ _ _ _ 84 (0, 0) hrc, List.getElem?_toArray]
    exact y.1.cells_uses
  · rintro e W6 ⟨rfl, es2, free2, B2, k1, k2, k3, k4, k5⟩
    have s7 := h7.size
    have s5 := k5.size
    have hsz : (wr.setCell ⟨y.2, 20, none⟩ (.int .i64 (wrap64 (y.1.uses - 1)))).heap.size = wr.heap.size := by simp
    have hl := k2.len
    rw [List.length_map] at hl
    have hO : Only B W W6 := (h7.trans (Only.of_grown (B := [y.2]) (World.grownBy_setCell_any wr y.2 20 _) (fun r e => by cases e; simp)) (fun r hr => by obtain rfl := List.mem_singleton.1 hr; exact h5 _ hyB)).trans k5 (fun r hr => h5 r hr)
    refine ⟨rfl, es2, free2, B2, k1, h2.next hn k2, by omega, k3, fun r hr => ?_, fun hm => ?_, hO, ?_, h9⟩
    · rcases k4 r hr with e | e
      · exact h5 r e
      · exact .inr (by omega)
    · rcases k4 b hm with e | e
      · exact h6 e
      · omega
    · rw [k5.block b (by omega) h6, Below.heap_setCell _ _ _ b (fun e => h6 (by rw [e]; exact hyB))]
      exact h8

set_option maxRecDepth 100000 in
set_option maxHeartbeats 4000000 in
theorem sweep_any (n0 Ba : Nat) (limit : Int) : ∀ (n : Nat) (es : List Ent) (free : List Int) (P : List Int) (i : Int) (B : List Nat) (W : World), es.length < n → BankSt n0 Ba B limit es free W → Bs es P → i ∈ es.map (·.id) → Fr es free →
    Calls Try.prog 54 #[.pointer (some ⟨Ba, 0, none⟩), .int .i64 i] W (SwP n0 Ba B limit es P i W) := by
  intro n
  induction n with
  | zero => intro es free P i B W hn; exact absurd hn (Nat.not_lt_zero _)
  | succ n ih =>
  intro es free P i B W hn hb hBs hi hfl
  obtain ⟨bn, br, fv, l, hB⟩ := hb
  obtain ⟨c0, c1, c2, c3⟩ := hB.cells
  have hids : l.map (·.1.id) = es.map (·.id) := by rw [← hB.ents, List.map_map]; rfl
  obtain ⟨x, hx, hxi, hone, hrec⟩ := recMap_find l i (by rw [hids]; exact hi) (by rw [hids]; exact hBs.1.nod)
  have hxe : x.1 ∈ es := by rw [← hB.ents]; exact List.mem_map_of_mem hx
  have hrc := hB.each x hx
  have hfit : Fit64 i := by rw [← hxi]; exact hBs.1.fit x.1 hxe
  have hlk : (Instr.lookup 73 (.map (some br)) (.int .i64 i) false).run Try.prog W = .ok (.pointer (some ⟨x.2, 0, none⟩)) W := ((hB.recs.look keyed3 Try.underlying73 (zero85 _) (key3 hfit)).1 _ hrec).2
  have r19 : W.cell? ⟨x.2, 19, none⟩ = some (.int .i64 x.1.kept) := by rw [cell_of_row _ _ _ _ 84 (0, 0) hrc, List.getElem?_toArray]; exact x.1.cells_kept
  have r20 : W.cell? ⟨x.2, 20, none⟩ = some (.int .i64 x.1.uses) := by rw [cell_of_row _ _ _ _ 84 (0, 0) hrc, List.getElem?_toArray]; exact x.1.cells_uses
  have hk0 := hBs.1.kpt x.1 hxe
  have hu0 : 0 ≤ x.1.uses := by rw [hBs.1.use x.1 hxe]; omega
  obtain ⟨kp, hkp⟩ : ∃ k, x.1.kept = k := ⟨_, rfl⟩
  obtain ⟨us, hus⟩ : ∃ k, x.1.uses = k := ⟨_, rfl⟩
  rw [hkp] at r19 hk0
  rw [hus] at r20 hu0
  by_cases hh : 0 < kp ∨ 0 < us
  · have HE : Hid (SwP n0 Ba B limit es P i W (.returned (.tuple #[])) W) := ⟨rfl, es, free, B, ⟨bn, br, fv, l, hB⟩, by rw [← hxi]; exact Swp.none hBs hxe (by rw [hkp, hus]; exact hh), hfl, fun r hr => .inl hr, Only.refl _ _⟩
    clear ih hB hBs hids hone hrec hxe hrc hi hfl hx
    by_cases h1 : 0 < kp
    · go_enter Try.func54, Try.ntmps54
      go_wp2
      refine bodyPost_end (results_none rfl _ _ _) rfl ?_
      exact HE.out
    · have h2 : 0 < us := by omega
      go_enter Try.func54, Try.ntmps54
      go_wp2
      refine bodyPost_end (results_none rfl _ _ _) rfl ?_
      exact HE.out
  · obtain rfl : kp = 0 := by omega
    obtain rfl : us = 0 := by omega
    clear hh hk0 hu0
    have hfine := hBs.1.fine x.1 hxe
    obtain ⟨kl, hkl⟩ := x.1.nd.key hfine
    obtain ⟨Wd, hWd⟩ : ∃ X, W.drew = X := ⟨_, rfl⟩
    have hd : Below W.heap.size W Wd := by rw [← hWd]; exact (Below.refl _ W).drew
    have hth := hB.there
    have hmm : ∀ r ∈ B, Wd.heap[r]? = W.heap[r]? := fun r hr => hd.block r (hth r hr)
    have hBd := hB.keep hmm
    obtain ⟨nv, hnv⟩ := numMap_some hxe
    obtain ⟨W1, hrun1, M1, g1⟩ := hBd.nums.drop keyed82 Try.underlying72 hkl 0
    rw [hnv] at M1
    have hap := hB.apart
    have hR1 : MapIs W1 3 br (recMap l) es.length := hBd.recs.same (g1.block br hBd.recs.lt (fun e => hap (Option.some.inj e).symm))
    obtain ⟨W2, hrun2, M2, g2⟩ := hR1.drop keyed3 Try.underlying73 (key3 hfit) 0
    rw [hrec] at M2
    obtain ⟨m1, m2, m3⟩ := hB.maps
    obtain ⟨o1, o2, o3⟩ := hB.own_ne
    have hBaB : Ba ∈ B := by rw [hB.mine]; simp
    have hBal := hth Ba hBaB
    have sd := hd.size
    have s1 := g1.size
    have s2 := g2.size
    have k2 : ∀ r, r < W.heap.size → r ≠ bn → r ≠ br → W2.heap[r]? = W.heap[r]? := fun r hr n1 n2 => by
      rw [g2.block r (by omega) (fun e => n2 (Option.some.inj e)), g1.block r (by omega) (fun e => n1 (Option.some.inj e)), hd.block r hr]
    have hh2 : W2.heap[Ba]? = some (.cells [Value.int .i64 limit, .map (some bn), .map (some br), fv].toArray 76 (0, 0)) := (k2 Ba hBal (Ne.symm m1) (Ne.symm m2)).trans hB.head
    have hr2 : W2.ownsRow n0 3 1 fv free.length (free.map fun x => Value.int .i64 x) := row_keep hB.row (fun g hg => k2 g (hB.row.lt g (by simp [hg])).2 (fun e => o1 (by rw [hg, e])) (fun e => o2 (by rw [hg, e])))
    have hn0 : n0 ≤ W2.heap.size := by have := hB.low Ba hBaB; omega
    have hpush := hpush_heap W2 hh2 hr2 o3 hn0 (by have := hfl.top; omega) i hfl.hp
    have HS : Hid (∀ W3 g c free', Fb W3 Ba limit bn br n0 g c free' → free'.length = free.length + 1 → Only (Ba :: fv.ownBlock.toList) W2 W3 → (fv.ownBlock = some g ∨ W2.heap.size ≤ g) → Hp free' → free'.Perm (free ++ [i]) → SwL n0 Ba B limit es (x.1.nd.args ++ P) i x.2 W W3) := fun W3 g c free' q1 q2 q3 q4 q5 q6 => by
      rw [← hxi]
      exact sw_start hB hBs hx hkp hus hfl hd g1 M1 g2 (by rw [hxi]; exact M2) q1 q2 q5 (by rw [hxi]; exact q6) q3 q4
    have hx2 := hth x.2 (by rw [hB.mine]; simp only [List.mem_cons, List.mem_append, List.mem_map]; exact .inr (.inr (.inr (.inr ⟨x, hx, rfl⟩))))
    have hxm := m3 x hx
    have c2b : W1.cell? ⟨Ba, 2, none⟩ = some (.map (some br)) := by
      have hq : W1.heap[Ba]? = W.heap[Ba]? := by rw [g1.block Ba (by omega) (fun e => m1 (Option.some.inj e).symm), hd.block Ba hBal]
      exact (cell_congr hq 2).trans c2
    obtain ⟨e, he⟩ : ∃ e, x.1 = e := ⟨_, rfl⟩
    have HX : Hid (∀ Z, Below W.heap.size W Z → Z.cell? ⟨Ba, 1, none⟩ = some (.map (some bn)) ∧ Z.heap[x.2]? = some (.cells x.1.cells.toArray 84 (0, 0))) := fun Z hZ => ⟨kc hZ hBal c1, (hZ.block _ hx2).trans hrc⟩
    have HRc : Hid (W.heap[x.2]? = some (.cells x.1.cells.toArray 84 (0, 0))) := hrc
    have HFi : Hid (x.1.nd.args.length ≤ 16) := hfine.len
    have HND : Hid ((es.map (·.id)).Nodup ∧ es.length < n + 1) := ⟨hBs.1.nod, hn⟩
    have HIH : Hid (∀ (es : List Ent) (free : List Int) (P : List Int) (i : Int) (B : List Nat) (W : World), es.length < n → BankSt n0 Ba B limit es free W → Bs es P → i ∈ es.map (·.id) → Fr es free → Calls Try.prog 54 #[.pointer (some ⟨Ba, 0, none⟩), .int .i64 i] W (SwP n0 Ba B limit es P i W)) := ih
    have hHeld := hd
    clear ih hB hBd hBs hids hone hrec hxe hrc hi hfl hx hh2 hr2 hn0 M1 M2 g1 g2 hR1 hnv hmm hth he c0 c3 hkl
    go_enter Try.func54, Try.ntmps54
    go_wp2
    refine wp_region_last 8 (S := fun Z => Below W.heap.size W Z) (by kernel_rfl) ?_
    rw [hWd]
    refine wpLast_take 0 (.pointer (some ⟨Ba, 0, none⟩)) rfl (by kernel_rfl) (by kernel_rfl) (by kernel_rfl) (by kernel_rfl) (fun _ _ _ h => h) (Or.inl ⟨by rfl, fun Z hZ => by go_simp⟩) (by assumption) ?_
    try simp only [Act.put, List.setIfInBounds_toArray, List.set_cons_zero, List.set_cons_succ]
    refine wpLast_take 1 (.pointer (some ⟨Ba, 0, none⟩)) rfl (by kernel_rfl) (by kernel_rfl) (by kernel_rfl) (by kernel_rfl) (fun _ _ _ h => h) (Or.inl ⟨by rfl, fun Z hZ => by go_simp⟩) (by assumption) ?_
    try simp only [Act.put, List.setIfInBounds_toArray, List.set_cons_zero, List.set_cons_succ]
    refine wpLast_take 2 (.pointer (some ⟨Ba, 1, none⟩)) rfl (by kernel_rfl) (by kernel_rfl) (by kernel_rfl) (by kernel_rfl) (fun _ _ _ h => h) (Or.inl ⟨by rfl, fun Z hZ => by go_simp⟩) (by assumption) ?_
    try simp only [Act.put, List.setIfInBounds_toArray, List.set_cons_zero, List.set_cons_succ]
    refine wpLast_take 3 (.map (some bn)) rfl (by kernel_rfl) (by kernel_rfl) (by kernel_rfl) (by kernel_rfl) (fun _ _ _ h => h) (Or.inl ⟨by rfl, fun Z hZ => by obtain ⟨y0, y1⟩ := HX.out Z hZ; go_simp⟩) (by assumption) ?_
    try simp only [Act.put, List.setIfInBounds_toArray, List.set_cons_zero, List.set_cons_succ]
    refine wpLast_take 4 (.pointer (some ⟨x.2, 0, none⟩)) rfl (by kernel_rfl) (by kernel_rfl) (by kernel_rfl) (by kernel_rfl) (fun _ _ _ h => h) (Or.inl ⟨by rfl, fun Z hZ => by go_simp⟩) (by assumption) ?_
    try simp only [Act.put, List.setIfInBounds_toArray, List.set_cons_zero, List.set_cons_succ]
    refine wpLast_take 5 (.pointer (some ⟨x.2, 0, none⟩)) rfl (by kernel_rfl) (by kernel_rfl) (by kernel_rfl) (by kernel_rfl) (fun _ _ _ h => h) (Or.inl ⟨by rfl, fun Z hZ => by go_simp⟩) (by assumption) ?_
    try simp only [Act.put, List.setIfInBounds_toArray, List.set_cons_zero, List.set_cons_succ]
    refine wpLast_take 6 (.pointer (some ⟨x.2, 0, none⟩)) rfl (by kernel_rfl) (by kernel_rfl) (by kernel_rfl) (by kernel_rfl) (fun _ _ _ h => h) (Or.inl ⟨by rfl, fun Z hZ => by go_simp⟩) (by assumption) ?_
    try simp only [Act.put, List.setIfInBounds_toArray, List.set_cons_zero, List.set_cons_succ]
    refine wpLast_take 7 (x.1.nd.val) rfl (by kernel_rfl) (by kernel_rfl) (by kernel_rfl) (by kernel_rfl) (fun _ _ _ h => h) (Or.inl ⟨by rfl, fun Z hZ => by have y1 := load_rec_node (HX.out Z hZ).2; unfold execOp; simp only [Sem.run_bind, Sem.run_pure]; show ((Sem.run Try.prog (Instr.loadAt 82 (.pointer (some ⟨x.2, 0, none⟩))) Z).andThen _) = _; rw [y1]; rfl⟩) (by assumption) ?_
    try simp only [Act.put, List.setIfInBounds_toArray, List.set_cons_zero, List.set_cons_succ]
    refine wpLast_one (i := 8) (o := ⟨_, _, _, _, _, _⟩) (by kernel_rfl) rfl (fun KK hK => ?_)
    rw [if_pos (by rfl)]
    refine wp_delete_run _ _ 72 82 rfl (.map (some bn)) x.1.nd.val rfl rfl hrun1 ?_
    refine hK.out _ _ (fun h => absurd h (by omega)) ?_
    clear hK KK
    refine wpLast_done (by kernel_rfl) ?_ _
    try simp only [Act.put]
    clear hHeld hrun1 HX c1 c2 hlk r19 r20 hd
    go_wp2_with (refine wpList_delete_run rfl _ _ 73 3 rfl (.map (some br)) (.int .i64 i) rfl rfl hrun2 ?_)
    refine hpush.mono ?_
    rintro e' W3 ⟨rfl, g, c, free', q1, q2, q3, q4, q5, q6⟩
    have hL := HS.out W3 g c free' q1 q2 q3 q4 q5 q6
    clear hpush hrun2 c2b q1 q2 q3 q4 q5 q6 HS
    have hrc3 : W3.heap[x.2]? = some (.cells x.1.cells.toArray 84 (0, 0)) := by
      obtain ⟨_, _, _, _, _, _, _, _, _, _, h9, _⟩ := hL
      exact h9.trans HRc.out
    obtain ⟨_, _, r2, _⟩ := rec_cells hrc3
    have hargs := arguments_any x.2 x.1.nd.args.length W3 r2 HFi.out
    have HL : Hid (SwL n0 Ba B limit es (x.1.nd.args ++ P) i x.2 W W3) := hL
    clear hL hrc3 r2
    go_wp2_with fail
    refine hargs.mono ?_
    rintro e' W4 ⟨rfl, q, rfl⟩
    have HL4 : Hid (SwL n0 Ba B limit es (x.1.nd.args.drop 0 ++ P) i x.2 W (W3.drewN q)) := by
      have := HL.out.keep (below_drewN (Below.refl _ _) q)
      show SwL n0 Ba B limit es (x.1.nd.args.drop 0 ++ P) i x.2 W (W3.drewN q)
      rw [List.drop_zero]
      exact this
    obtain ⟨W4, hW4⟩ : ∃ X, W3.drewN q = X := ⟨_, rfl⟩
    rw [hW4] at HL4 ⊢
    clear hargs HL hW4
    obtain ⟨args, hargs⟩ : ∃ a, x.1.nd.args = a := ⟨_, rfl⟩
    have HRa : Hid (∀ Z : World, Z.heap[x.2]? = W.heap[x.2]? → ∀ k (hk : k < args.length), Z.cell? ⟨x.2, 3 + k, none⟩ = some (.int .i64 args[k])) := fun Z hZ k hk => by
      obtain ⟨_, _, _, r3⟩ := rec_cells (hZ.trans HRc.out)
      have := r3 k (by rw [hargs]; exact hk) HFi.out
      simpa only [hargs] using this
    rw [hargs] at HL4 HFi ⊢
    obtain ⟨b, hb⟩ : ∃ b, x.2 = b := ⟨_, rfl⟩
    rw [hb] at HL4 HRa ⊢
    clear hargs HRc hb
    go_wp2
    go_loopw [50] (fun vi wr => ∃ k : Nat, vi = .int .i64 k ∧ k ≤ args.length ∧ Hid (SwL n0 Ba B limit es (args.drop k ++ P) i b W wr)) (fun vi _ => args.length - (intOf vi).toNat)
    case atStart => exact ⟨0, rfl, Nat.zero_le _, HL4.out⟩
    case round =>
      obtain ⟨k, rfl, hk, HI⟩ := hrel
      clear HL4
      by_cases hlt : k < args.length
      · have hkI : (k : Int) < (args.length : Int) := by omega
        have hk0 : (0 : Int) ≤ (k : Int) := by omega
        have hI := HI.out
        rw [List.drop_eq_getElem_cons hlt, List.cons_append] at hI
        have hblk : wr.heap[b]? = W.heap[b]? := by obtain ⟨_, _, _, _, _, _, _, _, _, _, h8, _⟩ := hI; exact h8
        have ck := HRa.out wr hblk k hlt
        obtain ⟨a, ha⟩ : ∃ a, args[k] = a := ⟨_, rfl⟩
        rw [ha] at hI ck
        obtain ⟨br2, y, u, es1, free1, B1, d1, d2, d3, d4, s1, s2, s3, s4, s5, s6⟩ := sw_step hI HND.out.1
        obtain ⟨W5, hW5⟩ : ∃ X, wr.setCell ⟨y, 20, none⟩ (.int .i64 (wrap64 (u - 1))) = X := ⟨_, rfl⟩
        rw [hW5] at s1 s6
        have hcall := HIH.out es1 free1 (args.drop (k + 1) ++ P) a B1 W5 (by have := HND.out.2; omega) s1 s2 s3 s5
        have HN : Hid (∀ e W6, SwP n0 Ba B1 limit es1 (args.drop (k + 1) ++ P) a W5 e W6 → e = .returned (.tuple #[]) ∧ SwL n0 Ba B limit es (args.drop (k + 1) ++ P) i b W W6) := s6
        have HLt : Hid (k < args.length ∧ args.length ≤ 16) := ⟨hlt, HFi.out⟩
        clear s1 s2 s3 s4 s5 s6 hI hblk ha HI
        go_wp2_with fail
        refine hcall.mono ?_
        intro e' W6 hP
        obtain ⟨rfl, hL6⟩ := HN.out e' W6 hP
        have HL6 : Hid (SwL n0 Ba B limit es (args.drop (k + 1) ++ P) i b W W6) := hL6
        clear hcall hP hL6 HN hW5 d1 d2 d3 d4 ck
        have hw1 : wrap64 ((k : Int) + 1) = (k : Int) + 1 := by have := HLt.out; unfold wrap64; omega
        go_wp2
        go_roundw
        case rel => exact ⟨k + 1, by rw [hw1, Int.natCast_add]; rfl, HLt.out.1, HL6⟩
        case measure =>
          rw [hw1]
          exact meas_lt _ _ HLt.out.1
      · have hkI : ¬ (k : Int) < (args.length : Int) := by omega
        have hke : k = args.length := by omega
        have HE : Hid (SwP n0 Ba B limit es P i W (.returned (.tuple #[])) wr) := by
          obtain ⟨es1, free1, B1, h1, h2, h3, h4, h5, h6, h7, h8, h9⟩ := HI.out
          rw [hke, List.drop_length, List.nil_append] at h2
          exact ⟨rfl, es1, free1, B1, h1, h2, h4, h5, h7⟩
        clear HI hke
        go_wp2
        refine bodyPost_end (results_none rfl _ _ _) rfl ?_
        exact HE.out

end Fq
end Go.Proofs.Ytbbfpllffcfmhaa

/-
  Drop, where numbers come again.
-/
namespace Go.Proofs.Ytbbfpllffcfmhaa.Fq
open Go.RowKit Go.Maps

/-- What dropping node i does. -/
structure Drp (i : Int) (es es' : List Ent) : Prop where
  bs : Bs es' []
  ng : Ng es'
  sub : ∀ e' ∈ es', ∃ e ∈ es, e.id = e'.id ∧ e.nd = e'.nd ∧ e'.kept = e.kept - (if e.id = i then 1 else 0)
  stay : ∀ e ∈ es, 0 < e.kept - (if e.id = i then 1 else 0) → e.id ∈ es'.map (·.id)
  len : es'.length ≤ es.length

theorem unk_bs {es : List Ent} (h : Bs es []) {i : Int} (hk : ∀ e ∈ es, e.kept ≤ 1000000) (hi : ∀ e ∈ es, e.id = i → 0 < e.kept) : Bs (es.map (unkE i)) [] := by
  obtain ⟨b, hs⟩ := h
  refine ⟨⟨?_, ?_, ?_, ?_, ?_, ?_, ?_, ?_⟩, ?_⟩
  · rw [unk_ids]; exact b.nod
  · intro x hx y hy e1
    obtain ⟨x, hx2, rfl⟩ := List.mem_map.1 hx
    obtain ⟨y, hy2, rfl⟩ := List.mem_map.1 hy
    rw [unkE_nd, unkE_nd] at e1
    rw [b.nds x hx2 y hy2 e1]
  · intro x hx c hc
    obtain ⟨x, hx2, rfl⟩ := List.mem_map.1 hx
    rw [unkE_nd] at hc
    rw [unk_ids, unkE_id]
    exact b.arg x hx2 c hc
  · intro x hx
    obtain ⟨x, hx2, rfl⟩ := List.mem_map.1 hx
    rw [unk_uses, unkE_id, occ_congr (unkE_nd i)]
    exact b.use x hx2
  · intro c hc; cases hc
  · intro x hx
    obtain ⟨x, hx2, rfl⟩ := List.mem_map.1 hx
    have h1 := b.kpt x hx2
    rw [unk_kept h1 (hk x hx2)]
    split
    · rename_i e1
      have := hi x hx2 e1
      omega
    · omega
  · intro x hx
    obtain ⟨x, hx2, rfl⟩ := List.mem_map.1 hx
    rw [unkE_nd]
    exact b.fine x hx2
  · intro x hx
    obtain ⟨x, hx2, rfl⟩ := List.mem_map.1 hx
    rw [unkE_id]
    exact b.fit x hx2
  · intro x hx
    obtain ⟨x, hx2, rfl⟩ := List.mem_map.1 hx
    rw [unk_uses]
    exact hs x hx2

theorem drp_of {es es' : List Ent} {i : Int} (h : Bs es []) (hg : Ng es) (hk : ∀ e ∈ es, e.kept ≤ 1000000) (k : Swp [] i (es.map (unkE i)) es') : Drp i es es' := by
  have hn : ((es.map (unkE i)).map (·.id)).Nodup := by rw [unk_ids]; exact h.1.nod
  refine ⟨k.bs, fun e' he' ⟨h1, h2⟩ => ?_, fun e' he' => ?_, fun e he h1 => ?_, by have := k.len; rwa [List.length_map] at this⟩
  · obtain ⟨g1, d, hd, g2, g3⟩ := k.gb e' he' h1 h2
    obtain ⟨d', hd', p1, _, p3⟩ := k.sub e' he'
    obtain rfl := id_inj hn hd' hd (p1.trans g2.symm)
    obtain ⟨e, he, rfl⟩ := List.mem_map.1 hd
    rw [unk_uses] at g3
    rw [unkE_id] at g2
    rw [unk_kept (h.1.kpt e he) (hk e he), if_neg (by rw [g2]; exact g1)] at p3
    exact hg e he ⟨by omega, g3⟩
  · obtain ⟨d, hd, p1, p2, p3⟩ := k.sub e' he'
    obtain ⟨e, he, rfl⟩ := List.mem_map.1 hd
    rw [unkE_id] at p1
    rw [unkE_nd] at p2
    rw [unk_kept (h.1.kpt e he) (hk e he)] at p3
    exact ⟨e, he, p1, p2, p3.symm⟩
  · have := k.stay (unkE i e) (List.mem_map_of_mem he) (by rw [unk_kept (h.1.kpt e he) (hk e he)]; exact h1)
    rwa [unkE_id] at this

/-- What Drop gives. -/
def DrP (n0 Ba : Nat) (B : List Nat) (limit : Int) (es : List Ent) (i : Int) (W : World) (e : Ending) (W' : World) : Prop :=
  e = .returned (.int .i64 0) ∧ ∃ es' free' B', BankSt n0 Ba B' limit es' free' W' ∧ Drp i es es' ∧ Fr es' free' ∧ (∀ r ∈ B', r ∈ B ∨ W.heap.size ≤ r) ∧ Only B W W'

set_option maxRecDepth 100000 in
set_option maxHeartbeats 4000000 in
theorem drop_any (n0 Ba : Nat) (limit : Int) (es : List Ent) (free : List Int) (i : Int) (B : List Nat) (W : World) (hb : BankSt n0 Ba B limit es free W) (hBs : Bs es []) (hg : Ng es) (hk : ∀ e ∈ es, e.kept ≤ 1000000) (hi : i ∈ es.map (·.id)) (hp : ∀ e ∈ es, e.id = i → 0 < e.kept) (hfl : Fr es free) :
    Calls Try.prog 27 #[.pointer (some ⟨Ba, 0, none⟩), .int .i64 i] W (DrP n0 Ba B limit es i W) := by
  obtain ⟨bn, br, fv, l, hB⟩ := hb
  obtain ⟨c0, c1, c2, c3⟩ := hB.cells
  have hids : l.map (·.1.id) = es.map (·.id) := by rw [← hB.ents, List.map_map]; rfl
  obtain ⟨x, hx, hxi, hone, hrec⟩ := recMap_find l i (by rw [hids]; exact hi) (by rw [hids]; exact hBs.1.nod)
  have hxe : x.1 ∈ es := by rw [← hB.ents]; exact List.mem_map_of_mem hx
  have hrc := hB.each x hx
  have hfit : Fit64 i := by rw [← hxi]; exact hBs.1.fit x.1 hxe
  have hlk : (Instr.lookup 73 (.map (some br)) (.int .i64 i) false).run Try.prog W = .ok (.pointer (some ⟨x.2, 0, none⟩)) W := ((hB.recs.look keyed3 Try.underlying73 (zero85 _) (key3 hfit)).1 _ hrec).2
  have r19 : W.cell? ⟨x.2, 19, none⟩ = some (.int .i64 x.1.kept) := by rw [cell_of_row _ _ _ _ 84 (0, 0) hrc, List.getElem?_toArray]; exact x.1.cells_kept
  have f19 : W.frozen? ⟨x.2, 19, none⟩ = false := by simp [World.frozen?, hrc]
  have hkp := hp x.1 hxe hxi
  have hxB : x.2 ∈ B := by
    rw [hB.mine]
    simp only [List.mem_cons, List.mem_append, List.mem_map]
    exact .inr (.inr (.inr (.inr ⟨x, hx, rfl⟩)))
  have hbu := bank_unk hB i x hx hxi hone
  obtain ⟨kp, hkpe⟩ : ∃ k, x.1.kept = k := ⟨_, rfl⟩
  rw [hkpe] at r19 hkp hbu
  obtain ⟨W1, hW1⟩ : ∃ X, W.setCell ⟨x.2, 19, none⟩ (.int .i64 (wrap64 (kp - 1))) = X := ⟨_, rfl⟩
  rw [hW1] at hbu
  have hbs1 := unk_bs hBs hk hp
  have hsw := sweep_any n0 Ba limit (es.length + 1) (es.map (unkE i)) free [] i B W1 (by simp) ⟨bn, br, fv, _, hbu⟩ hbs1 (by rw [unk_ids]; exact hi) (hfl.map (unkE_id i))
  have o1 : Only B W W1 := by
    rw [← hW1]
    exact Only.of_grown (World.grownBy_setCell_any W x.2 19 _) (fun r e => by cases e; exact hxB)
  have HD : Hid (∀ es', Swp [] i (es.map (unkE i)) es' → Drp i es es') := fun es' h => drp_of hBs hg hk h
  have HO : Hid (Only B W W1 ∧ W1.heap.size = W.heap.size) := ⟨o1, by rw [← hW1]; simp⟩
  have hk0 : ¬ kp = 0 := by omega
  have hn0 : n0 ≤ Ba := hB.low Ba (by rw [hB.mine]; simp)
  clear hB hBs hg hk hi hp hfl hids hone hrec hxe hrc hx hbu hbs1 o1 hxB
  go_enter Try.func27, Try.ntmps27
  go_wp2_with fail
  refine hsw.mono ?_
  rintro e W2 ⟨rfl, es', free', B', ⟨bn2, br2, fv2, l2, k1⟩, k2, k3, k4, k5⟩
  have hlen := blen_any k1
  obtain ⟨d0, _, _, _⟩ := k1.cells
  have hd := HD.out es' k2
  have HF : Hid ((∀ r ∈ B', r ∈ B ∨ W.heap.size ≤ r) ∧ Only B W W2 ∧ Fr es' free' ∧ Drp i es es') := ⟨fun r hr => by rcases k4 r hr with e | e; exact .inl e; exact .inr (by rw [HO.out.2] at e; exact e), HO.out.1.trans k5 (fun r hr => .inl hr), k3, hd⟩
  clear hsw k2 k3 k4 k5 hd HD HO hW1
  by_cases h0 : es'.length = 0
  · obtain rfl : es' = [] := List.length_eq_zero_iff.1 h0
    have hh := k1.head
    have HK : Hid (W2.heap[Ba]? = some (.cells [Value.int .i64 limit, .map (some bn2), .map (some br2), fv2].toArray 76 (0, 0))) := hh
    have hBl := (Array.getElem?_eq_some_iff.1 hh).1
    have hemp := empty_any limit W2
    have HB : Hid (Ba ∈ B ∨ W.heap.size ≤ Ba) := HF.out.1 Ba (by rw [k1.mine]; simp)
    clear k1 hh h0
    go_wp2_with fail
    refine hlen.mono ?_
    rintro e W3 ⟨rfl, rfl⟩
    go_wp2_with fail
    refine hemp.mono ?_
    rintro e W4 ⟨rfl, o, rfl⟩
    obtain ⟨W4, hW4⟩ : ∃ X, ((W3.alloc o).alloc (.map #[] 0)).alloc (.map #[] 0) = X := ⟨_, rfl⟩
    rw [hW4]
    have b4 : Below W3.heap.size W3 W4 := by rw [← hW4]; exact (((Below.refl _ _).alloc (Nat.le_refl _) _).alloc (by simp) _).alloc (by simp; omega) _
    have q4 := (b4.block Ba hBl).trans HK.out
    obtain ⟨z0, z1, z2, z3⟩ : W4.cell? ⟨Ba, 0, none⟩ = some (.int .i64 limit) ∧ W4.cell? ⟨Ba, 1, none⟩ = some (.map (some bn2)) ∧ W4.cell? ⟨Ba, 2, none⟩ = some (.map (some br2)) ∧ W4.cell? ⟨Ba, 3, none⟩ = some fv2 := by
      refine ⟨?_, ?_, ?_, ?_⟩ <;> rw [cell_of_row _ _ _ _ 76 (0, 0) q4] <;> rfl
    have zf : ∀ o, W4.frozen? ⟨Ba, o, none⟩ = false := fun o => by simp [World.frozen?, q4]
    obtain ⟨z4, z5, z6, z7⟩ := And.intro (zf 0) (And.intro (zf 1) (And.intro (zf 2) (zf 3)))
    have m1 := MapIs.made (W3.alloc o) 82
    have m2 := MapIs.made ((W3.alloc o).alloc (.map #[] 0)) 3
    rw [World.size_alloc] at m1
    rw [World.size_alloc, World.size_alloc, hW4] at m2
    have m1' : MapIs W4 82 (W3.heap.size + 1) (fun _ => none) 0 := m1.same (by rw [← hW4]; exact Below.heap_alloc _ _ _ (by simp))
    obtain ⟨W5, hW5⟩ : ∃ X, (((W4.setCell ⟨Ba, 0, none⟩ (.int .i64 limit)).setCell ⟨Ba, 1, none⟩ (.map (some (W3.heap.size + 1)))).setCell ⟨Ba, 2, none⟩ (.map (some (W3.heap.size + 1 + 1)))).setCell ⟨Ba, 3, none⟩ (.slice none 0 0) = X := ⟨_, rfl⟩
    have q5 : W5.heap[Ba]? = some (.cells [Value.int .i64 limit, .map (some (W3.heap.size + 1)), .map (some (W3.heap.size + 1 + 1)), .slice none 0 0].toArray 76 (0, 0)) := by
      rw [← hW5]
      exact set_any (i := 3) (set_any (i := 2) (set_any (i := 1) (set_any (i := 0) q4)))
    have ob : ∀ r, r ≠ Ba → W5.heap[r]? = W4.heap[r]? := fun r hr => by
      rw [← hW5, Below.heap_setCell _ _ _ r hr, Below.heap_setCell _ _ _ r hr, Below.heap_setCell _ _ _ r hr, Below.heap_setCell _ _ _ r hr]
    have o5 : Only [Ba] W4 W5 := by
      rw [← hW5]
      have st : ∀ (X : World) (o : Nat) (u : Value), Only [Ba] X (X.setCell ⟨Ba, o, none⟩ u) := fun X o u => Only.of_grown (World.grownBy_setCell_any X Ba o u) (fun r e => by cases e; simp)
      exact (((st _ _ _).trans (st _ _ _) (fun r hr => .inl hr)).trans (st _ _ _) (fun r hr => .inl hr)).trans (st _ _ _) (fun r hr => .inl hr)
    have hst : BankSt n0 Ba [Ba, W3.heap.size + 1, W3.heap.size + 1 + 1] limit [] [] W5 := bank_empty q5 (m1'.same (ob _ (by omega))) (m2.same (ob _ (by omega))) (by omega) (by omega)
    have s3 := HF.out.2.1.size
    have HE : Hid (DrP n0 Ba B limit es i W (.returned (.int .i64 0)) W5) := by
      refine ⟨rfl, [], [], _, hst, HF.out.2.2.2, Fr.nil, fun r hr => ?_, (HF.out.2.1.trans (Only.of_below (B := []) b4) (by simp)).trans o5 (fun r hr => by obtain rfl := List.mem_singleton.1 hr; exact HB.out)⟩
      simp only [List.mem_cons, List.not_mem_nil, or_false] at hr
      rcases hr with rfl | rfl | rfl
      · exact HB.out
      · exact .inr (by omega)
      · exact .inr (by omega)
    clear m1 m2 m1' q5 ob o5 hst b4 q4 zf
    go_wp2
    try rw [hW5]
    go_ret
    exact HE.out
  · have h0' : ¬ ((es'.length : Int) = 0) := by omega
    have HE : Hid (DrP n0 Ba B limit es i W (.returned (.int .i64 0)) W2) := ⟨rfl, es', free', B', ⟨bn2, br2, fv2, l2, k1⟩, HF.out.2.2.2, HF.out.2.2.1, HF.out.1, HF.out.2.1⟩
    clear HF k1 h0
    go_wp2_with fail
    refine hlen.mono ?_
    rintro e W3 ⟨rfl, rfl⟩
    go_wp2
    go_ret
    exact HE.out

end Go.Proofs.Ytbbfpllffcfmhaa.Fq
