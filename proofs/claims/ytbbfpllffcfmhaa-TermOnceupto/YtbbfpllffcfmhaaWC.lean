/-
  A term's numbers stand for it, and hold it: mathematics.
-/
import Derived.Test.YtbbfpllffcfmhaaWB
namespace Go.Proofs.Ytbbfpllffcfmhaa
open Go.RowKit Go.Maps

theorem Grw.trans {a b c : List Ent} {p q : List Int} (h : Grw a b p) (k : Grw b c q) : Grw a c (p ++ q) := by
  refine ⟨k.bk, h.sub.trans k.sub, fun e' he' => ?_, fun e' he' h1 h2 => ?_⟩
  · rcases k.old e' he' with ⟨e, he, k1, k2⟩ | ⟨k1, k2⟩
    · rcases h.old e he with ⟨e0, h0, g1, g2⟩ | ⟨g1, g2⟩
      · exact .inl ⟨e0, h0, g1.trans k1, g2.trans k2⟩
      · exact .inr ⟨by rw [← k2]; exact g1, by rw [← k1]; exact g2⟩
    · refine .inr ⟨k1, fun hm => k2 ?_⟩
      obtain ⟨e0, h0, he0⟩ := List.mem_map.1 hm
      obtain ⟨e1, h1, g1, _⟩ := h.sub e0 h0
      rw [← he0, ← g1]
      exact List.mem_map_of_mem h1
  · rcases k.gb e' he' h1 h2 with k1 | ⟨e, he, k1, k2, k3⟩
    · exact .inl (List.mem_append_right _ k1)
    · rcases h.gb e he k2 k3 with g1 | ⟨e0, h0, g1, g2, g3⟩
      · exact .inl (List.mem_append_left _ (by rw [← k1]; exact g1))
      · exact .inr ⟨e0, h0, g1.trans k1, g2, g3⟩

/-- What numbering a term does. -/
def NumOk (n0 Ba : Nat) (limit : Int) (t : T) : Prop := ∀ s : {es : List Ent // Good es}, Bk s.1 [] → t.shape = true → (s.1.length : Int) + t.size ≤ 1000000 →
  Grw s.1 ((enterM n0 Ba limit).num t s).1.1 [((enterM n0 Ba limit).num t s).2] ∧ Rp ((enterM n0 Ba limit).num t s).1.1 ((enterM n0 Ba limit).num t s).2 t

theorem nums_ok (n0 Ba : Nat) (limit : Int) : ∀ (l : List T), (∀ a ∈ l, NumOk n0 Ba limit a ∧ a.shape = true) → ∀ s : {es : List Ent // Good es}, Bk s.1 [] → (s.1.length : Int) + (l.map T.size).sum ≤ 1000000 →
    Grw s.1 (Numb.num.nums (enterM n0 Ba limit) l s).1.1 (Numb.num.nums (enterM n0 Ba limit) l s).2 ∧ ∀ k (h1 : k < l.length) (h2 : k < (Numb.num.nums (enterM n0 Ba limit) l s).2.length), Rp (Numb.num.nums (enterM n0 Ba limit) l s).1.1 (Numb.num.nums (enterM n0 Ba limit) l s).2[k] l[k]
  | [], _, s, hb, _ => ⟨Grw.refl hb, fun k h1 => absurd h1 (by simp)⟩
  | a :: r, h, s, hb, hl => by
    have hpos : ∀ q : List T, 0 ≤ (q.map T.size).sum := by
      intro q
      induction q with
      | nil => simp
      | cons b r ih => have := size_pos b; simp only [List.map_cons, List.sum_cons]; omega
    have hr := hpos r
    rw [List.map_cons, List.sum_cons] at hl
    obtain ⟨g1, g2⟩ := (h a List.mem_cons_self).1 s hb (h a List.mem_cons_self).2 (by omega)
    have hcnt := ((enterM n0 Ba limit).facts a s).2.2
    have hcnt : ((((enterM n0 Ba limit).num a s).1.1.length : Nat) : Int) ≤ (s.1.length : Nat) + a.size := hcnt
    obtain ⟨k1, k2⟩ := nums_ok n0 Ba limit r (fun b hb' => h b (List.mem_cons_of_mem _ hb')) ((enterM n0 Ba limit).num a s).1 g1.bk (by omega)
    refine ⟨g1.trans k1, fun k h1 h2 => ?_⟩
    cases k with
    | zero => exact g2.mono k1.sub
    | succ k => exact k2 k (by simpa using h1) (by simpa [Numb.num.nums] using h2)

theorem num_ok (n0 Ba : Nat) (limit : Int) (t : T) : NumOk n0 Ba limit t := by
  induction t using T.ind with
  | _ t ih =>
    intro s hb hs hl
    obtain ⟨h16, h64, hv, hsub⟩ := shape_args hs
    rw [T.size_eq] at hl
    obtain ⟨g1, g2⟩ := nums_ok n0 Ba limit t.args (fun a ha => ⟨ih a ha, hsub a ha⟩) s hb (by omega)
    obtain ⟨n1, n2, n3⟩ := (enterM n0 Ba limit).nums_has t.args s
    have hlen := (enterM n0 Ba limit).nums_len t.args s
    have e : ((enterM n0 Ba limit).num t s : {es : List Ent // Good es} × Int) = enterStep (Numb.num.nums (enterM n0 Ba limit) t.args s).1 ⟨t.v, t.fn, (Numb.num.nums (enterM n0 Ba limit) t.args s).2⟩ := (enterM n0 Ba limit).num_eq t s
    suffices hsuf : ∀ r : {es : List Ent // Good es} × Int, r = enterStep (Numb.num.nums (enterM n0 Ba limit) t.args s).1 ⟨t.v, t.fn, (Numb.num.nums (enterM n0 Ba limit) t.args s).2⟩ → Grw s.1 r.1.1 [r.2] ∧ Rp r.1.1 r.2 t from hsuf _ e
    clear e
    intro r hr
    obtain ⟨s', hs'⟩ : ∃ x : {es : List Ent // Good es}, (Numb.num.nums (enterM n0 Ba limit) t.args s).1 = x := ⟨_, rfl⟩
    obtain ⟨ids, hids⟩ : ∃ x, (Numb.num.nums (enterM n0 Ba limit) t.args s).2 = x := ⟨_, rfl⟩
    rw [hs', hids] at g1 n2 hr
    subst hr
    rw [hs'] at n1 n3
    rw [hids] at hlen
    simp only [hs', hids] at g2
    have hfine : (⟨t.v, t.fn, ids⟩ : Nd).Fine := ⟨hv, h64, by show ids.length ≤ 16; omega, fun a ha => (enterM n0 Ba limit).fit s' a (n2 a ha)⟩
    have hcnt : ((s'.1.length : Nat) : Int) ≤ (s.1.length : Nat) + (t.args.map T.size).sum := n3
    obtain ⟨k1, ⟨e, he, k2, k3⟩, k4⟩ := step_grw s' g1.bk ⟨t.v, t.fn, ids⟩ hfine (fun a ha => n2 a ha) (by omega)
    show Grw s.1 (enterStep s' ⟨t.v, t.fn, ids⟩).1.1 [(enterStep s' ⟨t.v, t.fn, ids⟩).2] ∧ Rp (enterStep s' ⟨t.v, t.fn, ids⟩).1.1 (enterStep s' ⟨t.v, t.fn, ids⟩).2 t
    have hg := g1.trans k1
    refine ⟨⟨hg.bk, hg.sub, hg.old, fun e' he' h1 h2 => ?_⟩, ?_⟩
    · rcases hg.gb e' he' h1 h2 with h3 | h3
      · rcases List.mem_append.1 h3 with h3 | h3
        · exact absurd h2 (k4 e' he' h3)
        · exact .inl h3
      · exact .inr h3
    · rw [← k2]
      refine .mk e he t (by rw [k3]) (by rw [k3]) (by rw [k3]; exact hlen) (fun k h1 h2 => ?_)
      simp only [k3] at h1 ⊢
      exact (g2 k h2 h1).mono k1.sub

/-- Making once more. -/
theorem keep_grw {es es' : List Ent} {i : Int} (h : Grw es es' [i]) (_hi : i ∈ es'.map (·.id)) (hk : ∀ e ∈ es', e.kept ≤ 1000000) : Bk (es'.map (keepE i)) [] ∧ Sub es (es'.map (keepE i)) ∧ Sub es' (es'.map (keepE i)) ∧
    (∀ e' ∈ es'.map (keepE i), e'.kept = 0 → e'.uses = 0 → ∃ e ∈ es, e.id = e'.id ∧ e.kept = 0 ∧ e.uses = 0) ∧
    (∀ e' ∈ es'.map (keepE i), (∃ e ∈ es, e.id = e'.id ∧ e'.kept = e.kept + (if e'.id = i then 1 else 0)) ∨ (e'.id ∉ es.map (·.id) ∧ e'.kept = (if e'.id = i then 1 else 0))) := by
  have hkp : ∀ e ∈ es', (keepE i e).kept = e.kept + (if e.id = i then 1 else 0) := fun e he => by
    have h1 := hk e he
    have h2 := h.bk.kpt e he
    unfold keepE
    by_cases e1 : e.id = i
    · rw [if_pos e1, if_pos e1]
      show wrap64 (e.kept + 1) = _
      unfold wrap64
      omega
    · rw [if_neg e1, if_neg e1]
      omega
  have hus : ∀ e, (keepE i e).uses = e.uses := fun e => by unfold keepE; split <;> rfl
  have hb := h.bk
  have hs' := Sub.of_map (keepE_id i) (keepE_nd i) es'
  refine ⟨⟨?_, ?_, ?_, ?_, ?_, ?_, ?_, ?_⟩, h.sub.trans hs', hs', ?_, ?_⟩
  · rw [keep_ids]; exact hb.nod
  · intro a ha b hb' e
    obtain ⟨a, ha2, rfl⟩ := List.mem_map.1 ha
    obtain ⟨b, hb2, rfl⟩ := List.mem_map.1 hb'
    rw [keepE_nd, keepE_nd] at e
    rw [hb.nds a ha2 b hb2 e]
  · intro e he a ha
    obtain ⟨e, he2, rfl⟩ := List.mem_map.1 he
    rw [keepE_nd] at ha
    rw [keep_ids, keepE_id]
    exact hb.arg e he2 a ha
  · intro e he
    obtain ⟨e, he2, rfl⟩ := List.mem_map.1 he
    rw [hus, keepE_id, occ_congr (keepE_nd i)]
    exact hb.use e he2
  · intro a ha; cases ha
  · intro e he
    obtain ⟨e, he2, rfl⟩ := List.mem_map.1 he
    rw [hkp e he2]
    have := hb.kpt e he2
    split <;> omega
  · intro e he
    obtain ⟨e, he2, rfl⟩ := List.mem_map.1 he
    rw [keepE_nd]
    exact hb.fine e he2
  · intro e he
    obtain ⟨e, he2, rfl⟩ := List.mem_map.1 he
    rw [keepE_id]
    exact hb.fit e he2
  · intro e' he' h1 h2
    obtain ⟨e, he2, rfl⟩ := List.mem_map.1 he'
    rw [hkp e he2] at h1
    rw [hus] at h2
    have := hb.kpt e he2
    by_cases e1 : e.id = i
    · rw [if_pos e1] at h1; omega
    · rw [if_neg e1] at h1
      rcases h.gb e he2 (by omega) h2 with h3 | ⟨e0, h0, h3, h4, h5⟩
      · exact absurd (List.mem_singleton.1 h3) e1
      · exact ⟨e0, h0, by rw [keepE_id]; exact h3, h4, h5⟩
  · intro e' he'
    obtain ⟨e, he2, rfl⟩ := List.mem_map.1 he'
    rw [hkp e he2, keepE_id]
    rcases h.old e he2 with ⟨e0, h0, h3, h4⟩ | ⟨h3, h4⟩
    · exact .inl ⟨e0, h0, h3, by rw [h4]⟩
    · exact .inr ⟨h4, by rw [h3]; omega⟩

end Go.Proofs.Ytbbfpllffcfmhaa
