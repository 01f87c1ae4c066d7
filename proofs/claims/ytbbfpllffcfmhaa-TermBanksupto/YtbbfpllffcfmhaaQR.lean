import Derived.Test.YtbbfpllffcfmhaaQM

/-
  Both banks: making a term.
-/
namespace Go.Proofs.Ytbbfpllffcfmhaa.Fq

/-- The least number that no node has. -/
def LeastN (ns : List Dn) (i : Int) : Prop := 1 ≤ i ∧ (∀ n ∈ ns, n.id ≠ i) ∧ ∀ j, 1 ≤ j → j < i → ∃ n ∈ ns, n.id = j

theorem LeastN.one {ns : List Dn} {i j : Int} (h : LeastN ns i) (k : LeastN ns j) : i = j := by
  rcases Int.lt_trichotomy i j with e | e | e
  · obtain ⟨n, hn, q⟩ := k.2.2 i h.1 e
    exact absurd q (h.2.1 n hn)
  · exact e
  · obtain ⟨n, hn, q⟩ := h.2.2 j k.1 e
    exact absurd q (k.2.1 n hn)

/-- What the document's Make does with the parts. -/
inductive DMk : List Dn → List (T × Value) → List Dn → Prop
  | nil (ns : List Dn) : DMk ns [] ns
  | old {ns ns' : List Dn} {p : T × Value} {ps : List (T × Value)} (n : Dn) (hn : n ∈ ns) (ht : n.t = p.1) (h : DMk ns ps ns') : DMk ns (p :: ps) ns'
  | new {ns ns' : List Dn} {p : T × Value} {ps : List (T × Value)} {i : Int} (hn : ∀ n ∈ ns, n.t ≠ p.1) (hi : LeastN ns i) (h : DMk (ns ++ [⟨i, p.1, p.2, 0⟩]) ps ns') : DMk ns (p :: ps) ns'

theorem DMk.det {ns a : List Dn} {ps : List (T × Value)} (h : DMk ns ps a) : ∀ {b : List Dn}, DMk ns ps b → a = b := by
  induction h with
  | nil ns => intro b k; cases k; rfl
  | old n hn ht h ih =>
    intro b k
    cases k with
    | old _ _ _ k => exact ih k
    | new hn' _ _ => exact absurd ht (hn' n hn)
  | new hn hi h ih =>
    intro b k
    cases k with
    | old n hn' ht' _ => exact absurd ht' (hn n hn')
    | new _ hi' k =>
      obtain rfl := hi.one hi'
      exact ih k

theorem DMk.append {a b c : List Dn} {p q : List (T × Value)} (h : DMk a p b) (k : DMk b q c) : DMk a (p ++ q) c := by
  induction h with
  | nil ns => exact k
  | old n hn ht h ih => exact .old n hn ht (ih k)
  | new hn hi h ih => exact .new hn hi (ih k)

/-- Both banks hold the same. -/
structure Ag (es : List Ent) (ns : List Dn) : Prop where
  len : es.length = ns.length
  nod : (ns.map (·.id)).Nodup
  rp : ∀ n ∈ ns, Rp es n.id n.t
  kp : ∀ n ∈ ns, ∀ e ∈ es, e.id = n.id → e.kept = n.kept
  back : ∀ e ∈ es, ∃ n ∈ ns, n.id = e.id

theorem Ag.nil : Ag [] [] := ⟨rfl, by simp, fun n h => (by cases h), fun n h => (by cases h), fun e h => (by cases h)⟩

theorem Ag.ids {es : List Ent} {ns : List Dn} (h : Ag es ns) (i : Int) : i ∈ es.map (·.id) ↔ ∃ n ∈ ns, n.id = i := by
  constructor
  · intro hi
    obtain ⟨e, he, rfl⟩ := List.mem_map.1 hi
    exact h.back e he
  · rintro ⟨n, hn, rfl⟩
    exact (h.rp n hn).mem

theorem Ag.least {es : List Ent} {ns : List Dn} (h : Ag es ns) {i : Int} (hi : Least es i) : LeastN ns i :=
  ⟨hi.1, fun n hn e => hi.2.1 ((h.ids i).2 ⟨n, hn, e⟩), fun j h1 h2 => (h.ids j).1 (hi.2.2 j h1 h2)⟩

/-- A node is entered. -/
theorem ag_step (s : {es : List Ent // GoodF es}) (ns : List Dn) (hA : Ag s.1 ns) (hb : Bk s.1 []) (u : T) (ids : List Int) (hf : (⟨u.v, u.fn, ids⟩ : Nd).Fine) (hl : s.1.length ≤ 1000000) (hlen : ids.length = u.args.length) (hr : ∀ k (h1 : k < ids.length) (h2 : k < u.args.length), Rp s.1 ids[k] u.args[k]) (sv : Value) :
    ∃ ns', DMk ns [(u, sv)] ns' ∧ Ag (stepG s ⟨u.v, u.fn, ids⟩).1.1 ns' := by
  have hin : ∀ a ∈ ids, a ∈ s.1.map (·.id) := fun a ha => by
    obtain ⟨k, hk, rfl⟩ := List.getElem_of_mem ha
    exact (hr k hk (by omega)).mem
  obtain ⟨hg, ⟨e0, he0, q1, q2⟩, _⟩ := step_grw s hb ⟨u.v, u.fn, ids⟩ hf hin hl
  cases he : entOf s.1 ⟨u.v, u.fn, ids⟩ with
  | some e =>
    rw [stepG_old he]
    obtain ⟨h1, h2⟩ := entOf_some he
    have h3 : e.nd = ⟨u.v, u.fn, ids⟩ := val_inj (hb.fine e h1).len h2
    have hru : Rp s.1 e.id u := .mk e h1 u (by rw [h3]) (by rw [h3]) (by rw [h3]; exact hlen) (fun k k1 k2 => by
      simp only [h3] at k1 ⊢
      exact hr k k1 k2)
    obtain ⟨n, hn, hni⟩ := hA.back e h1
    have := hA.rp n hn
    rw [hni] at this
    exact ⟨ns, .old n hn (rp_det hb this hru) (.nil _), hA⟩
  | none =>
    obtain ⟨i, hL, hle⟩ := least_ex s.1
    have hfi : Fit64 i := ⟨by have := hL.1; omega, by omega⟩
    have hnew : ∀ n ∈ ns, n.t ≠ u := fun n hn e => by
      obtain ⟨x, hx, hxi, xv, xf, xl, xa⟩ := (hA.rp n hn).inv
      rw [e] at xv xf xl xa
      refine entOf_none he x hx ?_
      have h1 : x.nd.args = ids := List.ext_getElem (by omega) fun k k1 k2 => by
        exact rp_inj hb (xa k k1 (by omega)) (hr k k2 (by omega))
      have : x.nd = ⟨u.v, u.fn, ids⟩ := by
        cases hx : x.nd
        rw [hx] at h1 xv xf
        simp only at h1 xv xf
        rw [h1, xv, xf]
      rw [this]
    rw [stepG_new he ⟨hL, hfi⟩] at hg he0 q1 ⊢
    have hg : Grw s.1 (bumps ids (s.1 ++ [⟨i, ⟨u.v, u.fn, ids⟩, 0, 0⟩])) [i] := hg
    have he0 : e0 ∈ bumps ids (s.1 ++ [⟨i, ⟨u.v, u.fn, ids⟩, 0, 0⟩]) := he0
    have q1 : e0.id = i := q1
    show ∃ ns', DMk ns [(u, sv)] ns' ∧ Ag (bumps ids (s.1 ++ [⟨i, ⟨u.v, u.fn, ids⟩, 0, 0⟩])) ns'
    refine ⟨ns ++ [⟨i, u, sv, 0⟩], .new hnew (hA.least hL) (.nil _), ?_, ?_, fun n hn => ?_, fun n hn e' he' hi => ?_, fun e' he' => ?_⟩
    · rw [bumps_len, List.length_append, List.length_append, hA.len]
      rfl
    · rw [List.map_append, List.nodup_append]
      refine ⟨hA.nod, by simp, fun a ha b hb' e => ?_⟩
      obtain ⟨n, hn, rfl⟩ := List.mem_map.1 ha
      have : b = i := by simpa using hb'
      exact (hA.least hL).2.1 n hn (e.trans this)
    · rcases List.mem_append.1 hn with hn | hn
      · exact (hA.rp n hn).mono hg.sub
      · obtain rfl := List.mem_singleton.1 hn
        show Rp _ i u
        have hx : Rp (bumps ids (s.1 ++ [⟨i, ⟨u.v, u.fn, ids⟩, 0, 0⟩])) e0.id u := .mk e0 he0 u (by rw [q2]) (by rw [q2]) (by rw [q2]; exact hlen) (fun k k1 k2 => by
          simp only [q2] at k1 ⊢
          exact (hr k k1 k2).mono hg.sub)
        rw [q1] at hx
        exact hx
    · rcases hg.old e' he' with ⟨e, he, p1, p2⟩ | ⟨p1, p2⟩
      · rcases List.mem_append.1 hn with hn | hn
        · rw [← p2]
          exact hA.kp n hn e he (p1.trans hi)
        · obtain rfl := List.mem_singleton.1 hn
          exact absurd (by rw [← show e.id = i from p1.trans hi]; exact List.mem_map_of_mem he) hL.2.1
      · rcases List.mem_append.1 hn with hn | hn
        · exact absurd ((hA.ids _).2 ⟨n, hn, hi.symm⟩) p2
        · obtain rfl := List.mem_singleton.1 hn
          exact p1
    · have hm : e'.id ∈ (bumps ids (s.1 ++ [⟨i, ⟨u.v, u.fn, ids⟩, 0, 0⟩])).map (·.id) := List.mem_map_of_mem he'
      rw [bumps_ids, List.map_append, List.mem_append] at hm
      rcases hm with hm | hm
      · obtain ⟨n, hn, q⟩ := (hA.ids _).1 hm
        exact ⟨n, List.mem_append_left _ hn, q⟩
      · have : e'.id = i := by simpa using hm
        exact ⟨⟨i, u, sv, 0⟩, by simp, this.symm⟩

end Go.Proofs.Ytbbfpllffcfmhaa.Fq

/-
  Both banks: making a term, its parts one behind the other.
-/
namespace Go.Proofs.Ytbbfpllffcfmhaa.Fq

def NumAg (n0 Ba : Nat) (limit : Int) (t : T) : Prop := ∀ (s : {es : List Ent // GoodF es}) (ns : List Dn), Ag s.1 ns → Bk s.1 [] → t.shape = true → (s.1.length : Int) + t.size ≤ 900000 → ∀ ps : List (T × Value), ps.map (·.1) = t.post → ∃ ns', DMk ns ps ns' ∧ Ag ((enterG n0 Ba limit).num t s).1.1 ns'

theorem nums_ag (n0 Ba : Nat) (limit : Int) : ∀ (l : List T), (∀ a ∈ l, NumAg n0 Ba limit a ∧ a.shape = true) → ∀ (s : {es : List Ent // GoodF es}) (ns : List Dn), Ag s.1 ns → Bk s.1 [] → (s.1.length : Int) + (l.map T.size).sum ≤ 900000 → ∀ ps : List (T × Value), ps.map (·.1) = l.flatMap T.post →
    ∃ ns', DMk ns ps ns' ∧ Ag (Numb.num.nums (enterG n0 Ba limit) l s).1.1 ns'
  | [], _, s, ns, hA, _, _, ps, hp => by
    have : ps = [] := List.map_eq_nil_iff.1 hp
    subst this
    exact ⟨ns, .nil ns, hA⟩
  | a :: r, h, s, ns, hA, hb, hl, ps, hp => by
    have hpos : ∀ q : List T, 0 ≤ (q.map T.size).sum := by
      intro q
      induction q with
      | nil => simp
      | cons b r ih => have := size_pos b; simp only [List.map_cons, List.sum_cons]; omega
    have hr := hpos r
    rw [List.map_cons, List.sum_cons] at hl
    rw [List.flatMap_cons] at hp
    obtain ⟨p1, p2, rfl, h1, h2⟩ := List.map_eq_append_iff.1 hp
    obtain ⟨hna, hsa⟩ := h a List.mem_cons_self
    obtain ⟨mid, d1, A1⟩ := hna s ns hA hb hsa (by omega) p1 h1
    have hcnt := ((enterG n0 Ba limit).facts a s).2.2
    have hcnt : ((((enterG n0 Ba limit).num a s).1.1.length + 1072741825 : Nat) : Int) ≤ ((s.1.length + 1072741825 : Nat) : Int) + a.size := hcnt
    have hg := (num_ok n0 Ba limit a s hb hsa (by omega)).1
    obtain ⟨ns', d2, A2⟩ := nums_ag n0 Ba limit r (fun b hb' => h b (List.mem_cons_of_mem _ hb')) ((enterG n0 Ba limit).num a s).1 mid A1 hg.bk (by omega) p2 h2
    exact ⟨ns', d1.append d2, A2⟩

theorem num_ag (n0 Ba : Nat) (limit : Int) (t : T) : NumAg n0 Ba limit t := by
  induction t using T.ind with
  | _ t ih =>
    intro s ns hA hb hs hl ps hp
    obtain ⟨h16, h64, hv, hsub⟩ := shape_args hs
    rw [T.size_eq] at hl
    rw [T.post_eq] at hp
    obtain ⟨p1, p2, rfl, h1, h2⟩ := List.map_eq_append_iff.1 hp
    obtain ⟨⟨pt, pv⟩, rfl, h3⟩ : ∃ p, p2 = [p] ∧ p.1 = t := by
      cases p2 with
      | nil => simp at h2
      | cons p r =>
        simp only [List.map_cons, List.cons.injEq, List.map_eq_nil_iff] at h2
        exact ⟨p, by rw [h2.2], h2.1⟩
    simp only at h3
    subst h3
    obtain ⟨mid, d1, A1⟩ := nums_ag n0 Ba limit pt.args (fun a ha => ⟨ih a ha, hsub a ha⟩) s ns hA hb (by omega) p1 h1
    obtain ⟨g1, g2⟩ := nums_ok n0 Ba limit pt.args (fun a ha => ⟨num_ok n0 Ba limit a, hsub a ha⟩) s hb (by omega)
    obtain ⟨n1, n2, n3⟩ := (enterG n0 Ba limit).nums_has pt.args s
    have hlen := (enterG n0 Ba limit).nums_len pt.args s
    have hcnt : (((Numb.num.nums (enterG n0 Ba limit) pt.args s).1.1.length + 1072741825 : Nat) : Int) ≤ ((s.1.length + 1072741825 : Nat) : Int) + (pt.args.map T.size).sum := n3
    have hfine : (⟨pt.v, pt.fn, (Numb.num.nums (enterG n0 Ba limit) pt.args s).2⟩ : Nd).Fine := ⟨hv, h64, by show (Numb.num.nums (enterG n0 Ba limit) pt.args s).2.length ≤ 16; omega, fun a ha => (enterG n0 Ba limit).fit _ a (n2 a ha)⟩
    obtain ⟨ns', d2, A2⟩ := ag_step (Numb.num.nums (enterG n0 Ba limit) pt.args s).1 mid A1 g1.bk pt _ hfine (by omega) hlen (fun k k1 k2 => g2 k k2 k1) pv
    refine ⟨ns', d1.append d2, ?_⟩
    rw [show ((enterG n0 Ba limit).num pt s).1.1 = (stepG (Numb.num.nums (enterG n0 Ba limit) pt.args s).1 ⟨pt.v, pt.fn, (Numb.num.nums (enterG n0 Ba limit) pt.args s).2⟩).1.1 from congrArg (fun r : {es : List Ent // GoodF es} × Int => r.1.1) ((enterG n0 Ba limit).num_eq pt s)]
    exact A2

end Go.Proofs.Ytbbfpllffcfmhaa.Fq

/-
  Both banks: making and dropping (plain mathematics).
-/
namespace Go.Proofs.Ytbbfpllffcfmhaa.Fq
open Go.RowKit Go.Maps

/-- A term more, if it is not there. -/
noncomputable def tin (ts : List T) (u : T) : List T := open Classical in if u ∈ ts then ts else ts ++ [u]
noncomputable def tmk (ts : List T) (ps : List T) : List T := ps.foldl tin ts
theorem tin_old {ts : List T} {u : T} (h : u ∈ ts) : tin ts u = ts := by unfold tin; rw [if_pos h]
theorem tin_new {ts : List T} {u : T} (h : u ∉ ts) : tin ts u = ts ++ [u] := by unfold tin; rw [if_neg h]
theorem tmk_append (ts a b : List T) : tmk ts (a ++ b) = tmk (tmk ts a) b := List.foldl_append ..
theorem tin_len (ts : List T) (u : T) : (tin ts u).length ≤ ts.length + 1 := by
  by_cases h : u ∈ ts
  · rw [tin_old h]; omega
  · rw [tin_new h]; simp
theorem tmk_len (ps : List T) : ∀ ts : List T, ts.length ≤ (tmk ts ps).length ∧ (tmk ts ps).length ≤ ts.length + ps.length := by
  induction ps with
  | nil => intro ts; exact ⟨Nat.le_refl _, Nat.le_refl _⟩
  | cons p r ih =>
    intro ts
    have h1 := ih (tin ts p)
    have h2 := tin_len ts p
    have h3 : ts.length ≤ (tin ts p).length := by
      by_cases h : p ∈ ts
      · rw [tin_old h]; exact Nat.le_refl _
      · rw [tin_new h]; simp
    show ts.length ≤ (tmk (tin ts p) r).length ∧ (tmk (tin ts p) r).length ≤ _
    simp only [List.length_cons]
    omega

theorem DMk.terms {ns ns' : List Dn} {ps : List (T × Value)} (h : DMk ns ps ns') : ns'.map (·.t) = tmk (ns.map (·.t)) (ps.map (·.1)) := by
  induction h with
  | nil ns => rfl
  | @old ns ns' p ps n hn ht h ih =>
    rw [ih, List.map_cons]
    show _ = tmk (tin _ p.1) _
    rw [tin_old (ht ▸ List.mem_map_of_mem hn)]
  | @new ns ns' p ps i hn hi h ih =>
    rw [ih, List.map_cons]
    show _ = tmk (tin _ p.1) _
    rw [tin_new (fun hm => by obtain ⟨n, h1, h2⟩ := List.mem_map.1 hm; exact hn n h1 h2), List.map_append]
    rfl

/-- What was there stays, with its number; what is new is kept by nothing. -/
theorem DMk.old_stay {ns ns' : List Dn} {ps : List (T × Value)} (h : DMk ns ps ns') : (∀ n ∈ ns, n ∈ ns') ∧ (∀ p ∈ ps, ∃ n ∈ ns', n.t = p.1) ∧ ∀ n ∈ ns', n ∈ ns ∨ n.kept = 0 ∧ ∃ p ∈ ps, n.t = p.1 := by
  induction h with
  | nil ns => exact ⟨fun n h => h, fun p hp => (by cases hp), fun n h => .inl h⟩
  | @old ns ns' p ps n hn ht h ih =>
    obtain ⟨h1, h2, h3⟩ := ih
    refine ⟨h1, fun q hq => ?_, fun m hm => (h3 m hm).imp id (fun ⟨a, q, hq, e⟩ => ⟨a, q, List.mem_cons_of_mem _ hq, e⟩)⟩
    rcases List.mem_cons.1 hq with rfl | hq
    · exact ⟨n, h1 n hn, ht⟩
    · exact h2 q hq
  | @new ns ns' p ps i hn hi h ih =>
    obtain ⟨h1, h2, h3⟩ := ih
    refine ⟨fun n hn => h1 n (List.mem_append_left _ hn), fun q hq => ?_, fun m hm => ?_⟩
    · rcases List.mem_cons.1 hq with rfl | hq
      · exact ⟨_, h1 _ (List.mem_append_right _ (List.mem_singleton.2 rfl)), rfl⟩
      · exact h2 q hq
    · rcases h3 m hm with h4 | ⟨a, q, hq, e⟩
      · rcases List.mem_append.1 h4 with h5 | h5
        · exact .inl h5
        · obtain rfl := List.mem_singleton.1 h5
          exact .inr ⟨rfl, p, List.mem_cons_self, rfl⟩
      · exact .inr ⟨a, q, List.mem_cons_of_mem _ hq, e⟩

theorem ids_idx {ns : List Dn} (nod : (ns.map (·.id)).Nodup) {j k : Nat} (hj : j < ns.length) (hk : k < ns.length) (e : ns[j].id = ns[k].id) : j = k := by
  have h := List.pairwise_iff_getElem.1 nod
  rcases Nat.lt_trichotomy j k with h1 | h1 | h1
  · exact absurd (by rw [List.getElem_map, List.getElem_map]; exact e) (h j k (by simpa using hj) (by simpa using hk) h1)
  · exact h1
  · exact absurd (by rw [List.getElem_map, List.getElem_map]; exact e.symm) (h k j (by simpa using hk) (by simpa using hj) h1)

/-- A node's count is written anew. -/
theorem set_mem {ns : List Dn} (nod : (ns.map (·.id)).Nodup) {k : Nat} (hk : k < ns.length) (d : Int) {n : Dn} (hn : n ∈ ns.set k (ns[k].put (ns[k].kept + d))) : ∃ m ∈ ns, n.id = m.id ∧ n.t = m.t ∧ n.kept = m.kept + (if m.id = ns[k].id then d else 0) := by
  obtain ⟨j, hj, rfl⟩ := List.getElem_of_mem hn
  rw [List.length_set] at hj
  rw [List.getElem_set]
  by_cases e : k = j
  · subst e
    rw [if_pos rfl]
    exact ⟨ns[k], List.getElem_mem hk, rfl, rfl, by rw [if_pos rfl]; rfl⟩
  · rw [if_neg e]
    refine ⟨ns[j], List.getElem_mem hj, rfl, rfl, ?_⟩
    rw [if_neg, Int.add_zero]
    intro he
    exact e (ids_idx nod hk hj he.symm)
theorem set_back {ns : List Dn} (nod : (ns.map (·.id)).Nodup) {k : Nat} (hk : k < ns.length) (d : Int) {m : Dn} (hm : m ∈ ns) : ∃ n ∈ ns.set k (ns[k].put (ns[k].kept + d)), n.id = m.id ∧ n.t = m.t ∧ n.kept = m.kept + (if m.id = ns[k].id then d else 0) := by
  obtain ⟨j, hj, rfl⟩ := List.getElem_of_mem hm
  have hj' : j < (ns.set k (ns[k].put (ns[k].kept + d))).length := by rw [List.length_set]; exact hj
  refine ⟨(ns.set k (ns[k].put (ns[k].kept + d)))[j], List.getElem_mem hj', ?_⟩
  rw [List.getElem_set]
  by_cases e : k = j
  · subst e
    rw [if_pos rfl, if_pos rfl]
    exact ⟨rfl, rfl, rfl⟩
  · rw [if_neg e]
    refine ⟨rfl, rfl, ?_⟩
    rw [if_neg, Int.add_zero]
    intro he
    exact e (ids_idx nod hk hj he.symm)
theorem set_ids (ns : List Dn) {k : Nat} (hk : k < ns.length) (z : Int) : (ns.set k (ns[k].put z)).map (·.id) = ns.map (·.id) := by
  rw [List.map_set]
  show (ns.map (·.id)).set k ns[k].id = _
  refine List.ext_getElem (by simp) fun j h1 h2 => ?_
  rw [List.getElem_set]
  split
  · next e => subst e; simp
  · rfl

/-- Both keep a term once more. -/
theorem ag_keep {es : List Ent} {ns : List Dn} (hA : Ag es ns) {k : Nat} (hk : k < ns.length) (hkp : ∀ e ∈ es, 0 ≤ e.kept ∧ e.kept ≤ 1000000) : Ag (es.map (keepE ns[k].id)) (ns.set k (ns[k].put (ns[k].kept + 1))) := by
  refine ⟨by rw [List.length_map, List.length_set]; exact hA.len, by rw [set_ids]; exact hA.nod, fun n hn => ?_, fun n hn e he hi => ?_, fun e he => ?_⟩
  · obtain ⟨m, hm, q1, q2, _⟩ := set_mem hA.nod hk 1 hn
    rw [q1, q2]
    exact (hA.rp m hm).mono (Sub.of_map (keepE_id _) (keepE_nd _) es)
  · obtain ⟨m, hm, q1, q2, q3⟩ := set_mem hA.nod hk 1 hn
    obtain ⟨e0, h0, rfl⟩ := List.mem_map.1 he
    rw [keepE_id] at hi
    have h1 := hA.kp m hm e0 h0 (hi.trans q1)
    have h2 := hkp e0 h0
    rw [q3, ← h1, ← q1, ← hi]
    unfold keepE
    by_cases e1 : e0.id = ns[k].id
    · rw [if_pos e1, if_pos e1]
      show wrap64 (e0.kept + 1) = _
      unfold wrap64
      omega
    · rw [if_neg e1, if_neg e1]
      omega
  · obtain ⟨e0, h0, rfl⟩ := List.mem_map.1 he
    obtain ⟨m, hm, q⟩ := hA.back e0 h0
    obtain ⟨n, hn, q1, _⟩ := set_back hA.nod hk 1 hm
    exact ⟨n, hn, by rw [q1, q, keepE_id]⟩

end Go.Proofs.Ytbbfpllffcfmhaa.Fq

/-
  How many nodes are missing: as many as come (plain mathematics).
-/
namespace Go.Proofs.Ytbbfpllffcfmhaa.Fq
open Go.RowKit Go.Maps

theorem rp_detN {es : List Ent} (nod : (es.map (·.id)).Nodup) {i : Int} {t : T} (h : Rp es i t) : ∀ {t' : T}, Rp es i t' → t = t' := by
  induction h with
  | mk e he t hv hf hl ha ih =>
    intro t' h'
    obtain ⟨e', he', hi, kv, kf, kl, ka⟩ := h'.inv
    obtain rfl := id_inj nod he' he hi
    rw [T.eta t, T.eta t', ← hv, ← kv, ← hf, ← kf]
    congr 1
    exact List.ext_getElem (by omega) fun k h1 h2 => ih k (by omega) h1 (ka k (by omega) h2)

theorem rp_injN {es : List Ent} (nds : ∀ e ∈ es, ∀ e' ∈ es, e.nd = e'.nd → e = e') {i : Int} {t : T} (h : Rp es i t) : ∀ {j : Int}, Rp es j t → i = j := by
  induction h with
  | mk e he t hv hf hl ha ih =>
    intro j h'
    obtain ⟨e', he', rfl, kv, kf, kl, ka⟩ := h'.inv
    have hnd : e.nd = e'.nd := by
      have h1 : e.nd.args = e'.nd.args := List.ext_getElem (by omega) fun k h1 h2 => ih k h1 (by omega) (ka k h2 (by omega))
      have h2 : e.nd.v = e'.nd.v := by rw [hv, kv]
      have h3 : e.nd.fn = e'.nd.fn := by rw [hf, kf]
      cases hx : e.nd
      cases hy : e'.nd
      rw [hx, hy] at h1 h2 h3
      simp only at h1 h2 h3
      rw [h1, h2, h3]
    rw [nds e he e' he' hnd]

/-- What was met, as entries. -/
def fresh (s : List Nd) : List Ent := s.zipIdx.map fun p => ⟨wrap64 (-1 - (p.2 : Int)), p.1, 0, 0⟩
theorem fresh_snoc (s : List Nd) (nd : Nd) : fresh (s ++ [nd]) = fresh s ++ [⟨wrap64 (-1 - (s.length : Int)), nd, 0, 0⟩] := by
  unfold fresh
  rw [List.zipIdx_append, List.map_append]
  simp
theorem fresh_mem {s : List Nd} {e : Ent} (h : e ∈ fresh s) : ∃ i, ∃ hi : i < s.length, e = ⟨wrap64 (-1 - (i : Int)), s[i], 0, 0⟩ := by
  unfold fresh at h
  obtain ⟨⟨nd, i⟩, hp, rfl⟩ := List.mem_map.1 h
  obtain ⟨h1, h2⟩ := List.mem_zipIdx' hp
  exact ⟨i, h1, congrArg (fun x => (⟨wrap64 (-1 - (i : Int)), x, 0, 0⟩ : Ent)) h2⟩
theorem fresh_at {s : List Nd} {i : Nat} (hi : i < s.length) : (⟨wrap64 (-1 - (i : Int)), s[i], 0, 0⟩ : Ent) ∈ fresh s := by
  unfold fresh
  refine List.mem_map.2 ⟨(s[i], i), ?_, rfl⟩
  rw [List.mem_zipIdx_iff_getElem?]
  exact List.getElem?_eq_getElem hi

/-- What missing knows. -/
structure MA (es : List Ent) (s : List Nd) (ts : List T) : Prop where
  len : es.length + s.length = ts.length
  nod : ((es ++ fresh s).map (·.id)).Nodup
  nds : ∀ e ∈ es ++ fresh s, ∀ e' ∈ es ++ fresh s, e.nd = e'.nd → e = e'
  fwd : ∀ t ∈ ts, ∃ i, Rp (es ++ fresh s) i t
  bwd : ∀ e ∈ es ++ fresh s, ∃ t ∈ ts, Rp (es ++ fresh s) e.id t
  fine : ∀ e ∈ es ++ fresh s, e.nd.args.length ≤ 16

theorem ma_start {es : List Ent} {ns : List Dn} (hA : Ag es ns) (hb : Bk es []) : MA es [] (ns.map (·.t)) := by
  have e0 : es ++ fresh [] = es := by simp [fresh]
  refine ⟨by simpa using hA.len, ?_, ?_, ?_, ?_, ?_⟩ <;> rw [e0]
  · exact hb.nod
  · exact hb.nds
  · intro t ht
    obtain ⟨n, hn, rfl⟩ := List.mem_map.1 ht
    exact ⟨n.id, hA.rp n hn⟩
  · intro e he
    obtain ⟨n, hn, hi⟩ := hA.back e he
    exact ⟨n.t, List.mem_map_of_mem hn, by rw [← hi]; exact hA.rp n hn⟩
  · exact fun e he => (hb.fine e he).len

theorem ma_old {es : List Ent} {s : List Nd} {ts : List T} (h : MA es s ts) {u : T} {ids : List Int} (hlen : ids.length = u.args.length) (hr : ∀ k (h1 : k < ids.length) (h2 : k < u.args.length), Rp (es ++ fresh s) ids[k] u.args[k]) {e : Ent} (he : e ∈ es ++ fresh s) (hv : e.nd.val = (⟨u.v, u.fn, ids⟩ : Nd).val) : u ∈ ts ∧ Rp (es ++ fresh s) e.id u := by
  have h3 : e.nd = ⟨u.v, u.fn, ids⟩ := val_inj (h.fine e he) hv
  have hru : Rp (es ++ fresh s) e.id u := .mk e he u (by rw [h3]) (by rw [h3]) (by rw [h3]; exact hlen) (fun k k1 k2 => by
    simp only [h3] at k1 ⊢
    exact hr k k1 k2)
  obtain ⟨t, ht, hrt⟩ := h.bwd e he
  rw [rp_detN h.nod hru hrt]
  exact ⟨ht, hrt⟩

theorem ma_step {es : List Ent} {s : List Nd} {ts : List T} (h : MA es s ts) (hpos : ∀ e ∈ es, 1 ≤ e.id) (hs : s.length ≤ 1000000) (u : T) (ids : List Int) (h16 : ids.length ≤ 16) (hlen : ids.length = u.args.length) (hr : ∀ k (h1 : k < ids.length) (h2 : k < u.args.length), Rp (es ++ fresh s) ids[k] u.args[k]) :
    MA es (missStep es s ⟨u.v, u.fn, ids⟩).1 (tin ts u) ∧ Rp (es ++ fresh (missStep es s ⟨u.v, u.fn, ids⟩).1) (missStep es s ⟨u.v, u.fn, ids⟩).2 u ∧ Sub (es ++ fresh s) (es ++ fresh (missStep es s ⟨u.v, u.fn, ids⟩).1) := by
  cases he : entOf es ⟨u.v, u.fn, ids⟩ with
  | some e =>
    obtain ⟨h1, h2⟩ := entOf_some he
    obtain ⟨q1, q2⟩ := ma_old h hlen hr (List.mem_append_left _ h1) h2
    have e1 : missStep es s ⟨u.v, u.fn, ids⟩ = (s, e.id) := by unfold missStep; rw [he]
    rw [e1, tin_old q1]
    exact ⟨h, q2, Sub.refl _⟩
  | none =>
    cases hi : idxOf s (⟨u.v, u.fn, ids⟩ : Nd).val with
    | some i =>
      have e1 : missStep es s ⟨u.v, u.fn, ids⟩ = (s, wrap64 (-1 - (i : Int))) := by unfold missStep; rw [he]; simp only [hi]
      have hlt := idxOf_lt hi
      unfold idxOf at hi
      have h2 := (List.findIdx?_eq_some_iff_getElem.1 hi).2.1
      obtain ⟨q1, q2⟩ := ma_old h hlen hr (List.mem_append_right _ (fresh_at hlt)) (by simpa using h2)
      rw [e1, tin_old q1]
      exact ⟨h, q2, Sub.refl _⟩
    | none =>
      have e1 : missStep es s ⟨u.v, u.fn, ids⟩ = (s ++ [⟨u.v, u.fn, ids⟩], wrap64 (-1 - (s.length : Int))) := by unfold missStep; rw [he]; simp only [hi]
      have hnone : ∀ x ∈ es ++ fresh s, x.nd ≠ ⟨u.v, u.fn, ids⟩ := fun x hx e => by
        rcases List.mem_append.1 hx with hx | hx
        · exact entOf_none he x hx (by rw [e])
        · obtain ⟨j, hj, rfl⟩ := fresh_mem hx
          unfold idxOf at hi
          have := List.findIdx?_eq_none_iff.1 hi s[j] (List.getElem_mem hj)
          simp only [decide_eq_false_iff_not] at this
          exact this (by have e : s[j] = _ := e; rw [e])
      have hnew : u ∉ ts := fun hu => by
        obtain ⟨i, hiu⟩ := h.fwd u hu
        obtain ⟨x, hx, _, xv, xf, xl, xa⟩ := hiu.inv
        refine hnone x hx ?_
        have h1 : x.nd.args = ids := List.ext_getElem (by omega) fun k k1 k2 => rp_injN h.nds (xa k k1 (by omega)) (hr k k2 (by omega))
        cases hx : x.nd
        rw [hx] at h1 xv xf
        simp only at h1 xv xf
        rw [h1, xv, xf]
      rw [e1, tin_new hnew]
      have hw : wrap64 (-1 - (s.length : Int)) = -1 - (s.length : Int) := by unfold wrap64; omega
      have hsub : Sub (es ++ fresh s) (es ++ fresh (s ++ [⟨u.v, u.fn, ids⟩])) := fun e he => ⟨e, by rw [fresh_snoc, ← List.append_assoc]; exact List.mem_append_left _ he, rfl, rfl⟩
      have hru : Rp (es ++ fresh (s ++ [⟨u.v, u.fn, ids⟩])) (wrap64 (-1 - (s.length : Int))) u :=
        .mk ⟨wrap64 (-1 - (s.length : Int)), ⟨u.v, u.fn, ids⟩, 0, 0⟩ (by rw [fresh_snoc]; simp) u rfl rfl hlen (fun k k1 k2 => (hr k k1 k2).mono hsub)
      have hmem : ∀ e ∈ es ++ fresh (s ++ [⟨u.v, u.fn, ids⟩]), e ∈ es ++ fresh s ∨ e = ⟨wrap64 (-1 - (s.length : Int)), ⟨u.v, u.fn, ids⟩, 0, 0⟩ := fun e he => by
        rw [fresh_snoc, ← List.append_assoc] at he
        exact (List.mem_append.1 he).imp id List.mem_singleton.1
      refine ⟨⟨by simp only [List.length_append, List.length_cons, List.length_nil]; have := h.len; omega, ?_, ?_, ?_, ?_, ?_⟩, hru, hsub⟩
      · rw [fresh_snoc, ← List.append_assoc, List.map_append, List.nodup_append]
        refine ⟨h.nod, by simp, fun a ha b hb e => ?_⟩
        have hb' : b = wrap64 (-1 - (s.length : Int)) := by simpa using hb
        obtain ⟨x, hx, rfl⟩ := List.mem_map.1 ha
        rcases List.mem_append.1 hx with hx | hx
        · have := hpos x hx
          omega
        · obtain ⟨j, hj, rfl⟩ := fresh_mem hx
          have hj' : wrap64 (-1 - (j : Int)) = -1 - (j : Int) := by unfold wrap64; omega
          have e : wrap64 (-1 - (j : Int)) = b := e
          omega
      · intro a ha b hb e
        rcases hmem a ha with ha | rfl
        · rcases hmem b hb with hb | rfl
          · exact h.nds a ha b hb e
          · exact absurd e (hnone a ha)
        · rcases hmem b hb with hb | rfl
          · exact absurd e.symm (hnone b hb)
          · rfl
      · intro t ht
        rcases List.mem_append.1 ht with ht | ht
        · obtain ⟨i, hi⟩ := h.fwd t ht
          exact ⟨i, hi.mono hsub⟩
        · obtain rfl := List.mem_singleton.1 ht
          exact ⟨_, hru⟩
      · intro e he
        rcases hmem e he with he | rfl
        · obtain ⟨t, ht, hrt⟩ := h.bwd e he
          exact ⟨t, List.mem_append_left _ ht, hrt.mono hsub⟩
        · exact ⟨u, by simp, hru⟩
      · intro e he
        rcases hmem e he with he | rfl
        · exact h.fine e he
        · exact h16

section
variable (es : List Ent) (hes : ∀ e ∈ es, Fit64 e.id)

/-- Numbering by missing's closure. -/
noncomputable def mnum (t : T) (s : List Nd) : List Nd × Int := (missM 0 0 0 0 0 0 es [] hes).num t s
noncomputable def mnums (l : List T) (s : List Nd) : List Nd × List Int := Numb.num.nums (missM 0 0 0 0 0 0 es [] hes) l s
theorem mnum_eq (t : T) (s : List Nd) : mnum es hes t s = missStep es (mnums es hes t.args s).1 ⟨t.v, t.fn, (mnums es hes t.args s).2⟩ := (missM 0 0 0 0 0 0 es [] hes).num_eq t s
theorem mnums_nil (s : List Nd) : mnums es hes [] s = (s, []) := rfl
theorem mnums_cons (a : T) (r : List T) (s : List Nd) : mnums es hes (a :: r) s = ((mnums es hes r (mnum es hes a s).1).1, (mnum es hes a s).2 :: (mnums es hes r (mnum es hes a s).1).2) := rfl
theorem mnum_cnt (t : T) (s : List Nd) : ((mnum es hes t s).1.length : Int) ≤ s.length + t.size := ((missM 0 0 0 0 0 0 es [] hes).facts t s).2.2
theorem mnums_cnt (l : List T) (s : List Nd) : ((mnums es hes l s).1.length : Int) ≤ s.length + (l.map T.size).sum := ((missM 0 0 0 0 0 0 es [] hes).nums_has l s).2.2
theorem mnums_len (l : List T) (s : List Nd) : (mnums es hes l s).2.length = l.length := (missM 0 0 0 0 0 0 es [] hes).nums_len l s

def MOk (t : T) : Prop := ∀ (s : List Nd) (ts : List T), MA es s ts → t.shape = true → (s.length : Int) + t.size ≤ 1000000 →
  MA es (mnum es hes t s).1 (tmk ts t.post) ∧ Rp (es ++ fresh (mnum es hes t s).1) (mnum es hes t s).2 t ∧ Sub (es ++ fresh s) (es ++ fresh (mnum es hes t s).1)

theorem mnums_ok : ∀ (l : List T), (∀ a ∈ l, MOk es hes a ∧ a.shape = true) → ∀ (s : List Nd) (ts : List T), MA es s ts → (s.length : Int) + (l.map T.size).sum ≤ 1000000 →
    MA es (mnums es hes l s).1 (tmk ts (l.flatMap T.post)) ∧ (∀ k (h1 : k < l.length) (h2 : k < (mnums es hes l s).2.length), Rp (es ++ fresh (mnums es hes l s).1) (mnums es hes l s).2[k] l[k]) ∧ Sub (es ++ fresh s) (es ++ fresh (mnums es hes l s).1)
  | [], _, s, ts, hM, _ => ⟨hM, fun k h1 => absurd h1 (by simp), Sub.refl _⟩
  | a :: r, h, s, ts, hM, hl => by
    have hpos : ∀ q : List T, 0 ≤ (q.map T.size).sum := by
      intro q
      induction q with
      | nil => simp
      | cons b r ih => have := size_pos b; simp only [List.map_cons, List.sum_cons]; omega
    have hr := hpos r
    rw [List.map_cons, List.sum_cons] at hl
    obtain ⟨g1, g2, g3⟩ := (h a List.mem_cons_self).1 s ts hM (h a List.mem_cons_self).2 (by omega)
    have hcnt := mnum_cnt es hes a s
    obtain ⟨k1, k2, k3⟩ := mnums_ok r (fun b hb' => h b (List.mem_cons_of_mem _ hb')) (mnum es hes a s).1 _ g1 (by omega)
    rw [List.flatMap_cons, tmk_append]
    refine ⟨k1, fun k h1 h2 => ?_, g3.trans k3⟩
    cases k with
    | zero => exact g2.mono k3
    | succ k => exact k2 k (by simpa using h1) (by simpa [mnums_cons] using h2)

theorem mnum_ok (hpos : ∀ e ∈ es, 1 ≤ e.id) (t : T) : MOk es hes t := by
  induction t using T.ind with
  | _ t ih =>
    intro s ts hM hs hl
    obtain ⟨h16, h64, hv, hsub⟩ := shape_args hs
    rw [T.size_eq] at hl
    obtain ⟨g1, g2, g3⟩ := mnums_ok es hes t.args (fun a ha => ⟨ih a ha, hsub a ha⟩) s ts hM (by omega)
    have hcnt := mnums_cnt es hes t.args s
    have hlen := mnums_len es hes t.args s
    rw [mnum_eq, T.post_eq, tmk_append]
    obtain ⟨k1, k2, k3⟩ := ma_step g1 hpos (by omega) t (mnums es hes t.args s).2 (by omega) hlen (fun k k1 k2 => g2 k k2 k1)
    exact ⟨k1, k2, g3.trans k3⟩

/-- As many are missing as come. -/
theorem missing_eq {ns : List Dn} (hA : Ag es ns) (hb : Bk es []) (hpos : ∀ e ∈ es, 1 ≤ e.id) (t : T) (hs : t.shape = true) (hl : t.size ≤ 1000000) : es.length + missing es hes t = (tmk (ns.map (·.t)) t.post).length :=
  (mnum_ok es hes hpos t [] _ (ma_start hA hb) hs (by simpa using hl)).1.len

end

end Go.Proofs.Ytbbfpllffcfmhaa.Fq

/-
  Both banks: dropping (plain mathematics).
-/
namespace Go.Proofs.Ytbbfpllffcfmhaa.Fq
open Go.RowKit Go.Maps

theorem post_self (t : T) : t ∈ t.post := by rw [T.post_eq]; simp
theorem post_arg {t a u : T} (ha : a ∈ t.args) (hu : u ∈ a.post) : u ∈ t.post := by
  rw [T.post_eq]
  exact List.mem_append_left _ (List.mem_flatMap.2 ⟨a, ha, hu⟩)
theorem post_trans (t : T) : ∀ {u v : T}, u ∈ t.post → v ∈ u.post → v ∈ t.post := by
  induction t using T.ind with
  | _ t ih =>
    intro u v hu hv
    rw [T.post_eq] at hu
    rcases List.mem_append.1 hu with hu | hu
    · obtain ⟨a, ha, hu⟩ := List.mem_flatMap.1 hu
      exact post_arg ha (ih a ha hu hv)
    · obtain rfl := List.mem_singleton.1 hu
      exact hv
theorem arg_size {t a : T} (ha : a ∈ t.args) : a.size + 1 ≤ t.size := by
  have h1 := flat_mem t.args a ha
  have h2 := post_len a
  have h3 := post_len t
  rw [T.post_eq t, List.length_append, List.length_singleton] at h3
  omega

/-- A part of what a number stands for has a number. -/
theorem rp_part {es : List Ent} {i : Int} {t : T} (h : Rp es i t) : ∀ {u : T}, u ∈ t.post → ∃ j, Rp es j u := by
  induction h with
  | mk e he t hv hf hl ha ih =>
    intro u hu
    rw [T.post_eq] at hu
    rcases List.mem_append.1 hu with hu | hu
    · obtain ⟨a, hA, hu⟩ := List.mem_flatMap.1 hu
      obtain ⟨k, hk, rfl⟩ := List.getElem_of_mem hA
      exact ih k (by omega) hk hu
    · obtain rfl := List.mem_singleton.1 hu
      exact ⟨e.id, .mk e he _ hv hf hl ha⟩

theorem occ_ex : ∀ {es : List Ent} {i : Int}, 0 < occ es i → ∃ e ∈ es, i ∈ e.nd.args
  | [], i, h => absurd h (by simp [occ])
  | x :: r, i, h => by
    rw [occ_cons] at h
    by_cases e : 0 < x.nd.args.count i
    · exact ⟨x, List.mem_cons_self, List.count_pos_iff.1 e⟩
    · obtain ⟨y, hy, q⟩ := occ_ex (es := r) (i := i) (by omega)
      exact ⟨y, List.mem_cons_of_mem _ hy, q⟩

/-- What is kept by nothing itself is part of what is kept. -/
theorem climb {es : List Ent} (hb : Bk es []) (hg : Ng es) (hR : Rpa es) {M : Int} (hM : ∀ e ∈ es, ∀ t, Rp es e.id t → t.size ≤ M) : ∀ (d : Nat) (e : Ent), e ∈ es → ∀ t, Rp es e.id t → M - t.size < d → ∃ m ∈ es, 0 < m.kept ∧ ∃ u, Rp es m.id u ∧ t ∈ u.post
  | 0, e, he, t, ht, hd => by have := hM e he t ht; omega
  | d + 1, e, he, t, ht, hd => by
    have h0 := hb.kpt e he
    by_cases hk : 0 < e.kept
    · exact ⟨e, he, hk, t, ht, post_self t⟩
    · have hu : e.uses ≠ 0 := fun h => hg e he ⟨by omega, h⟩
      have h1 := hb.use e he
      simp only [List.count_nil, Nat.add_zero] at h1
      obtain ⟨x, hx, hm⟩ := occ_ex (es := es) (i := e.id) (by omega)
      obtain ⟨u, hxu⟩ := hR x hx
      obtain ⟨k, hk1, hk2⟩ := List.getElem_of_mem hm
      obtain ⟨x', hx', hxi, _, _, xl, xa⟩ := hxu.inv
      obtain rfl := id_inj hb.nod hx' hx hxi
      have h2 := xa k hk1 (by omega)
      rw [hk2] at h2
      have h3 := rp_det hb ht h2
      have h4 : t ∈ u.args := by rw [h3]; exact List.getElem_mem _
      have h5 := arg_size h4
      obtain ⟨m, hm1, hm2, v, hv1, hv2⟩ := climb hb hg hR hM d x' hx' u hxu (by omega)
      exact ⟨m, hm1, hm2, v, hv1, post_trans v hv2 (post_arg h4 (post_self t))⟩

theorem nodup_sub : ∀ {l m : List Int}, l.Nodup → (∀ x ∈ l, x ∈ m) → l.length ≤ m.length
  | [], m, _, _ => Nat.zero_le _
  | a :: r, m, hn, h => by
    rw [List.nodup_cons] at hn
    have ha := h a List.mem_cons_self
    have := nodup_sub (l := r) (m := m.erase a) hn.2 (fun x hx => (List.mem_erase_of_ne (fun e => hn.1 (by rw [← e]; exact hx))).2 (h x (List.mem_cons_of_mem _ hx)))
    rw [List.length_erase_of_mem ha] at this
    have := List.length_pos_of_mem ha
    simp only [List.length_cons]
    omega

/-- Both drop. -/
theorem ag_drop {es es' : List Ent} {ns : List Dn} (hA : Ag es ns) (hB : Bs es []) (hR : Rpa es) {k : Nat} (hk : k < ns.length) (hD : Drp ns[k].id es es') (hsz : ∀ n ∈ ns, n.t.size ≤ 1048576) : Ag es' ((ns.set k (ns[k].put (ns[k].kept - 1))).filter (needB (ns.set k (ns[k].put (ns[k].kept - 1))))) := by
  rw [show ns[k].kept - 1 = ns[k].kept + -1 from by omega]
  have hb := hB.1
  have hb' := hD.bs.1
  have hsub : ∀ e' ∈ es', ∃ e ∈ es, e.id = e'.id ∧ e.nd = e'.nd := fun e' he' => by
    obtain ⟨e, q1, q2, q3, _⟩ := hD.sub e' he'
    exact ⟨e, q1, q2, q3⟩
  have hdown : Sub es' es := fun e' he' => by
    obtain ⟨e, q1, q2, q3⟩ := hsub e' he'
    exact ⟨e, q1, q2, q3⟩
  have hR' : Rpa es' := hR.drop hB hD
  have hback : ∀ {i : Int} {t : T}, Rp es i t → i ∈ es'.map (·.id) → Rp es' i t := fun h hi => rp_back hb' hb.nod hsub h hi
  obtain ⟨n1, hn1⟩ : ∃ x, ns.set k (ns[k].put (ns[k].kept + -1)) = x := ⟨_, rfl⟩
  have mem1 : ∀ {n : Dn}, n ∈ n1 → ∃ m ∈ ns, n.id = m.id ∧ n.t = m.t ∧ n.kept = m.kept + (if m.id = ns[k].id then -1 else 0) := fun hn => set_mem hA.nod hk (-1) (hn1 ▸ hn)
  have back1 : ∀ {m : Dn}, m ∈ ns → ∃ n ∈ n1, n.id = m.id ∧ n.t = m.t ∧ n.kept = m.kept + (if m.id = ns[k].id then -1 else 0) := fun hm => hn1 ▸ set_back hA.nod hk (-1) hm
  have hids : n1.map (·.id) = ns.map (·.id) := by rw [← hn1, set_ids]
  have rp1 : ∀ {n : Dn}, n ∈ n1 → Rp es n.id n.t := fun hn => by
    obtain ⟨m, hm, q1, q2, _⟩ := mem1 hn
    rw [q1, q2]
    exact hA.rp m hm
  have kp1 : ∀ {n : Dn}, n ∈ n1 → ∀ e ∈ es, e.id = n.id → n.kept = e.kept - (if e.id = ns[k].id then 1 else 0) := fun hn e he hi => by
    obtain ⟨m, hm, q1, q2, q3⟩ := mem1 hn
    have h1 := hA.kp m hm e he (hi.trans q1)
    rw [q3, h1, ← q1, ← hi]
    split <;> omega
  have kp2 : ∀ {n : Dn}, n ∈ n1 → ∀ e' ∈ es', e'.id = n.id → e'.kept = n.kept := fun hn e' he' hi => by
    obtain ⟨e, q1, q2, q3, q4⟩ := hD.sub e' he'
    rw [q4, kp1 hn e q1 (q2.trans hi)]
  have hM : ∀ e' ∈ es', ∀ t, Rp es' e'.id t → t.size ≤ 1048576 := fun e' he' t ht => by
    obtain ⟨e, q1, q2, _⟩ := hsub e' he'
    obtain ⟨n, hn, hi⟩ := hA.back e q1
    have h1 := hA.rp n hn
    rw [hi, q2] at h1
    rw [rp_det hb (ht.mono hdown) h1]
    exact hsz n hn
  have key : ∀ {n : Dn}, n ∈ n1 → (needB n1 n = true ↔ n.id ∈ es'.map (·.id)) := fun {n} hn => by
    unfold needB
    rw [List.any_eq_true]
    constructor
    · rintro ⟨m, hm, hmk⟩
      simp only [Bool.and_eq_true, decide_eq_true_eq] at hmk
      obtain ⟨e, he, hei⟩ := List.mem_map.1 (rp1 hm).mem
      have h1 := hD.stay e he (by rw [← kp1 hm e he hei]; exact hmk.1)
      rw [hei] at h1
      obtain ⟨j, hj⟩ := rp_part (hback (rp1 hm) h1) (hasB_iff.1 hmk.2)
      rw [← rp_inj hb (hj.mono hdown) (rp1 hn)]
      exact hj.mem
    · intro hi
      obtain ⟨e', he', hie⟩ := List.mem_map.1 hi
      have ht := hback (rp1 hn) hi
      rw [← hie] at ht
      obtain ⟨m', hm', hk', u, hu, hpu⟩ := climb hb' hD.ng hR' hM ((1048576 - n.t.size).toNat + 1) e' he' n.t ht (by omega)
      obtain ⟨m, q1, q2, _⟩ := hsub m' hm'
      obtain ⟨n0, hn0, hi0⟩ := hA.back m q1
      obtain ⟨n2, hn2, r1, r2, _⟩ := back1 hn0
      have hi2 : n2.id = m'.id := by rw [r1, hi0, q2]
      refine ⟨n2, hn2, ?_⟩
      simp only [Bool.and_eq_true, decide_eq_true_eq]
      have h3 : n2.t = u := by
        have h4 := rp1 hn2
        rw [hi2] at h4
        exact rp_det hb h4 (hu.mono hdown)
      exact ⟨by rw [← kp2 hn2 m' hm' hi2.symm]; exact hk', hasB_iff.2 (by rw [h3]; exact hpu)⟩
  rw [hn1]
  have hf : ((n1.filter (needB n1)).map (·.id)).Nodup := List.Nodup.sublist (List.Sublist.map _ List.filter_sublist) (by rw [hids]; exact hA.nod)
  have hall : ∀ i, i ∈ es'.map (·.id) ↔ i ∈ (n1.filter (needB n1)).map (·.id) := fun i => by
    constructor
    · intro hi
      obtain ⟨e', he', rfl⟩ := List.mem_map.1 hi
      obtain ⟨e, q1, q2, _⟩ := hsub e' he'
      obtain ⟨m, hm, hmi⟩ := hA.back e q1
      obtain ⟨n, hn, r1, _⟩ := back1 hm
      have e1 : n.id = e'.id := by rw [r1, hmi, q2]
      exact List.mem_map.2 ⟨n, List.mem_filter.2 ⟨hn, (key hn).2 (by rw [e1]; exact hi)⟩, e1⟩
    · intro hi
      obtain ⟨n, hn, rfl⟩ := List.mem_map.1 hi
      obtain ⟨h1, h2⟩ := List.mem_filter.1 hn
      exact (key h1).1 h2
  refine ⟨?_, hf, fun n hn => ?_, fun n hn e' he' hi => kp2 (List.mem_filter.1 hn).1 e' he' hi, fun e' he' => ?_⟩
  · have h1 := nodup_sub hb'.nod (fun x hx => (hall x).1 hx)
    have h2 := nodup_sub hf (fun x hx => (hall x).2 hx)
    simp only [List.length_map] at h1 h2
    omega
  · obtain ⟨h1, h2⟩ := List.mem_filter.1 hn
    exact hback (rp1 h1) ((key h1).1 h2)
  · obtain ⟨n, hn, hi⟩ := List.mem_map.1 ((hall e'.id).1 (List.mem_map_of_mem he'))
    exact ⟨n, hn, hi⟩

end Go.Proofs.Ytbbfpllffcfmhaa.Fq
