/-
  The listing: parts that are listed, in memory.
-/
import Derived.Test.YtglphfhlpobgcaaGreatWZ
namespace Go.Proofs.YtglphfhlpobgcaaGreat
open Go.RowKit Go.Maps

/-- A node's key, of a term whose arguments have those indices. -/
abbrev kOf (ρ : Sym → Nat) (p : T × List Nat) : Value := ndV (p.1.rk ρ) p.1.v p.2

open Classical in
/-- The map of numbers. -/
noncomputable def nmap (ρ : Sym → Nat) (P : List (T × List Nat)) : Value → Option Value := fun key => if h : ∃ i, ∃ hi : i < P.length, key = kOf ρ P[i] then some (fi (Classical.choose h)) else none

/-- Parts that are listed: what holds of them. -/
structure Lp (G : Sg) (Sy : List Sym) (V : List Int) (ρ : Sym → Nat) (P : List (T × List Nat)) : Prop where
  ix : ∀ p ∈ P, Idx (P.map (·.1)) p.2 p.1.args
  nd : (P.map (·.1)).Nodup
  sh : ∀ p ∈ P, p.1.shape = true
  sy : ∀ p ∈ P, ∀ s ∈ p.1.sy, s ∈ Sy
  vs : ∀ p ∈ P, ∀ x ∈ p.1.vs, x ∈ V

section
variable {G : Sg} {Sy : List Sym} {V : List Int} {ρ : Sym → Nat} {P : List (T × List Nat)}

theorem Idx.inj {L : List T} {xs : List Nat} {ts us : List T} (h : Idx L xs ts) (k : Idx L xs us) : ts = us := by
  unfold Idx at h k
  rw [h] at k
  exact (List.map_inj_right (fun _ _ e => Option.some.inj e)).1 k

/-- One key, one part. -/
theorem key_inj (R : Ranks G Sy ρ) {L : List T} {p q : T × List Nat} (hp : Idx L p.2 p.1.args) (hq : Idx L q.2 q.1.args) (sp : p.1.shape = true) (sq : q.1.shape = true) (yp : ∀ s ∈ p.1.sy, s ∈ Sy) (yq : ∀ s ∈ q.1.sy, s ∈ Sy) (h : kOf ρ p = kOf ρ q) : p.1 = q.1 := by
  have l1 := hp.len
  have l2 := hq.len
  have e : ndC (p.1.rk ρ) p.1.v p.2 = ndC (q.1.rk ρ) q.1.v q.2 := by
    have := Value.agg.inj h
    simpa using this
  have e2 := e
  simp only [ndC, List.cons_append, List.nil_append, List.cons.injEq, Value.int.injEq, true_and] at e2
  have er : p.1.rk ρ = q.1.rk ρ := by omega
  have ev : p.1.v = q.1.v := e2.2.1
  have main : p.1.fn = q.1.fn ∧ p.1.args.length = q.1.args.length := by
    rcases shape_cases sp with ⟨p0, _, _, pa⟩ | ⟨p0, _⟩ <;> rcases shape_cases sq with ⟨q0, _, _, qa⟩ | ⟨q0, _⟩
    · exact ⟨(ba_empty.1 p0).trans (ba_empty.1 q0).symm, by rw [pa, qa]⟩
    · have h1 : p.1.rk ρ = 0 := by rw [T.rk, if_pos p0]
      have h2 := R.pos _ (yq _ (sy_self q0))
      unfold T.rk at er
      rw [if_pos p0, if_neg q0] at er
      omega
    · have h1 : q.1.rk ρ = 0 := by rw [T.rk, if_pos q0]
      have h2 := R.pos _ (yp _ (sy_self p0))
      unfold T.rk at er
      rw [if_neg p0, if_pos q0] at er
      omega
    · exact same_of_rk R p0 q0 yp yq er
  have h16 : p.2.length ≤ 16 := by
    rcases shape_cases sp with ⟨_, _, _, pa⟩ | ⟨_, _, _, h, _⟩
    · rw [l1, pa]; simp
    · omega
  obtain ⟨_, _, e3⟩ := ndV_inj (by omega) h16 h
  exact same_ext ev main.1 (Idx.inj hp (e3 ▸ hq))

theorem nmap_in (R : Ranks G Sy ρ) (H : Lp G Sy V ρ P) {i : Nat} (hi : i < P.length) {p : T × List Nat} (hix : Idx (P.map (·.1)) p.2 p.1.args) (hsh : p.1.shape = true) (hsy : ∀ s ∈ p.1.sy, s ∈ Sy) (he : P[i].1 = p.1) : nmap ρ P (kOf ρ p) = some (fi i) := by
  have hpe : kOf ρ p = kOf ρ P[i] := by
    have h1 := H.ix _ (List.getElem_mem hi)
    have : P[i].2 = p.2 := by
      refine List.ext_getElem (by rw [h1.len, hix.len, he]) fun j a b => ?_
      have ha : j < P[i].1.args.length := by rw [← h1.len]; exact a
      have hb : j < p.1.args.length := by rw [← hix.len]; exact b
      obtain ⟨l1, g1⟩ := h1.get a ha
      obtain ⟨l2, g2⟩ := hix.get b hb
      refine nd_inj H.nd l1 l2 ?_
      rw [g1, g2]
      simp only [he]
    unfold kOf
    rw [he, this]
  have hx : ∃ j, ∃ hj : j < P.length, kOf ρ p = kOf ρ P[j] := ⟨i, hi, hpe⟩
  unfold nmap
  rw [dif_pos hx]
  obtain ⟨hj, e⟩ := Classical.choose_spec hx
  have e2 : P[Classical.choose hx].1 = P[i].1 := by
    have := key_inj R (H.ix _ (List.getElem_mem hj)) hix (H.sh _ (List.getElem_mem hj)) hsh (H.sy _ (List.getElem_mem hj)) hsy e.symm
    rw [this, he]
  have e3 : Classical.choose hx = i := nd_inj H.nd (by simpa using hj) (by simpa using hi) (by simpa using e2)
  rw [e3]
theorem nmap_out (R : Ranks G Sy ρ) (H : Lp G Sy V ρ P) {p : T × List Nat} (hix : Idx (P.map (·.1)) p.2 p.1.args) (hsh : p.1.shape = true) (hsy : ∀ s ∈ p.1.sy, s ∈ Sy) (hno : p.1 ∉ P.map (·.1)) : nmap ρ P (kOf ρ p) = none := by
  unfold nmap
  rw [dif_neg]
  rintro ⟨i, hi, e⟩
  have := key_inj R hix (H.ix _ (List.getElem_mem hi)) hsh (H.sh _ (List.getElem_mem hi)) hsy (H.sy _ (List.getElem_mem hi)) e
  exact hno (List.mem_map.2 ⟨P[i], List.getElem_mem hi, this.symm⟩)

theorem Idx.more {L M : List T} {xs : List Nat} {ts : List T} (h : Idx L xs ts) : Idx (L ++ M) xs ts := by
  have hl := h.len
  unfold Idx
  refine List.ext_getElem (by simp [hl]) fun j a b => ?_
  have ha : j < xs.length := by simpa using a
  have hb : j < ts.length := by simpa using b
  obtain ⟨l1, g1⟩ := h.get ha hb
  simp only [List.getElem_map]
  rw [List.getElem?_append_left l1, List.getElem?_eq_getElem l1, g1]

/-- A part more. -/
theorem Lp.snoc (H : Lp G Sy V ρ P) {p : T × List Nat} (hix : Idx (P.map (·.1)) p.2 p.1.args) (hsh : p.1.shape = true) (hsy : ∀ s ∈ p.1.sy, s ∈ Sy) (hvs : ∀ x ∈ p.1.vs, x ∈ V) (hno : p.1 ∉ P.map (·.1)) : Lp G Sy V ρ (P ++ [p]) := by
  have one : ∀ {q : T × List Nat}, q ∈ P ++ [p] → q ∈ P ∨ q = p := fun {q} hq => by simpa using hq
  refine ⟨fun q hq => ?_, ?_, fun q hq => ?_, fun q hq => ?_, fun q hq => ?_⟩
  · rw [List.map_append]
    rcases one hq with hq | rfl
    · exact (H.ix q hq).more
    · exact hix.more
  · rw [List.map_append, List.nodup_append]
    refine ⟨H.nd, by simp, fun x hx y hy => ?_⟩
    have : y = p.1 := by simpa using hy
    subst this
    exact fun e => hno (e ▸ hx)
  · rcases one hq with hq | rfl
    · exact H.sh q hq
    · exact hsh
  · rcases one hq with hq | rfl
    · exact H.sy q hq
    · exact hsy
  · rcases one hq with hq | rfl
    · exact H.vs q hq
    · exact hvs

theorem nmap_snoc (R : Ranks G Sy ρ) (H : Lp G Sy V ρ P) {p : T × List Nat} (hix : Idx (P.map (·.1)) p.2 p.1.args) (hsh : p.1.shape = true) (hsy : ∀ s ∈ p.1.sy, s ∈ Sy) (hvs : ∀ x ∈ p.1.vs, x ∈ V) (hno : p.1 ∉ P.map (·.1)) : upd (nmap ρ P) (kOf ρ p) (fi P.length) = nmap ρ (P ++ [p]) := by
  have H2 := H.snoc hix hsh hsy hvs hno
  funext key
  unfold upd
  by_cases e : key = kOf ρ p
  · subst e
    rw [if_pos rfl]
    refine (nmap_in R H2 (i := P.length) (by simp) (p := p) ?_ hsh hsy (by simp)).symm
    rw [List.map_append]
    exact hix.more
  · rw [if_neg e]
    by_cases hx : ∃ i, ∃ hi : i < P.length, key = kOf ρ P[i]
    · obtain ⟨i, hi, rfl⟩ := hx
      rw [nmap_in R H hi (H.ix _ (List.getElem_mem hi)) (H.sh _ (List.getElem_mem hi)) (H.sy _ (List.getElem_mem hi)) rfl]
      refine (nmap_in R H2 (i := i) (by simp; omega) (p := P[i]) ?_ (H.sh _ (List.getElem_mem hi)) (H.sy _ (List.getElem_mem hi)) ?_).symm
      · rw [List.map_append]
        exact (H.ix _ (List.getElem_mem hi)).more
      · rw [List.getElem_append_left hi]
    · unfold nmap
      rw [dif_neg hx, dif_neg]
      rintro ⟨i, hi, e2⟩
      have hi' : i < P.length + 1 := by simpa using hi
      by_cases hl : i < P.length
      · rw [List.getElem_append_left hl] at e2
        exact hx ⟨i, hl, e2⟩
      · have : i = P.length := by omega
        subst this
        rw [List.getElem_append_right (Nat.le_refl _)] at e2
        simp at e2
        exact e e2
end

end Go.Proofs.YtglphfhlpobgcaaGreat
