/-
  What a bank's entries stand for: mathematics.
-/
import Derived.Test.YtbbfpllffcfmhaaZB
namespace Go.Proofs.Ytbbfpllffcfmhaa
open Go.RowKit Go.Maps

/-- How often a number stands as an argument. -/
def occ (es : List Ent) (i : Int) : Nat := (es.map fun e => e.nd.args.count i).sum
theorem occ_append (a b : List Ent) (i : Int) : occ (a ++ b) i = occ a i + occ b i := by simp [occ]
theorem occ_cons (e : Ent) (b : List Ent) (i : Int) : occ (e :: b) i = e.nd.args.count i + occ b i := by simp [occ]
theorem occ_congr {f : Ent → Ent} (hf : ∀ e, (f e).nd = e.nd) (es : List Ent) (i : Int) : occ (es.map f) i = occ es i := by
  unfold occ
  rw [List.map_map]
  congr 1
  exact List.map_congr_left fun e _ => by simp [hf]
theorem occ_pos {es : List Ent} {e : Ent} (he : e ∈ es) {i : Int} (hi : i ∈ e.nd.args) : 0 < occ es i := by
  induction es with
  | nil => cases he
  | cons x r ih =>
    rw [occ_cons]
    rcases List.mem_cons.1 he with rfl | he
    · have := List.count_pos_iff.2 hi; omega
    · have := ih he; omega
theorem occ_le {es : List Ent} (h : ∀ e ∈ es, e.nd.args.length ≤ 16) (i : Int) : occ es i ≤ 16 * es.length := by
  induction es with
  | nil => simp [occ]
  | cons x r ih =>
    rw [occ_cons, List.length_cons]
    have h1 := h x List.mem_cons_self
    have h2 := ih fun e he => h e (List.mem_cons_of_mem _ he)
    have := List.count_le_length (a := i) (l := x.nd.args)
    omega

/-- Entries in order; P: numbers whose uses are still to be taken back. -/
structure Bk (es : List Ent) (P : List Int) : Prop where
  nod : (es.map (·.id)).Nodup
  nds : ∀ e ∈ es, ∀ e' ∈ es, e.nd = e'.nd → e = e'
  arg : ∀ e ∈ es, ∀ a ∈ e.nd.args, a ∈ es.map (·.id) ∧ a < e.id
  use : ∀ e ∈ es, e.uses = ((occ es e.id + P.count e.id : Nat) : Int)
  pnd : ∀ a ∈ P, a ∈ es.map (·.id)
  kpt : ∀ e ∈ es, 0 ≤ e.kept
  fine : ∀ e ∈ es, e.nd.Fine
  fit : ∀ e ∈ es, Fit64 e.id

theorem id_inj : ∀ {es : List Ent}, (es.map (·.id)).Nodup → ∀ {e e' : Ent}, e ∈ es → e' ∈ es → e.id = e'.id → e = e'
  | [], _, _, _, h, _, _ => by cases h
  | x :: r, hn, e, e', h, h', hi => by
    rw [List.map_cons, List.nodup_cons] at hn
    rcases List.mem_cons.1 h with h1 | h1
    · rcases List.mem_cons.1 h' with h2 | h2
      · rw [h1, h2]
      · exact absurd (by rw [← h1, hi]; exact List.mem_map_of_mem h2) hn.1
    · rcases List.mem_cons.1 h' with h2 | h2
      · exact absurd (by rw [← h2, ← hi]; exact List.mem_map_of_mem h1) hn.1
      · exact id_inj hn.2 h1 h2 hi

/-- The entry of number i stands for t. -/
inductive Rp (es : List Ent) : Int → T → Prop
  | mk (e : Ent) (he : e ∈ es) (t : T) (hv : e.nd.v = t.v) (hf : e.nd.fn = t.fn) (hl : e.nd.args.length = t.args.length) (ha : ∀ k (h1 : k < e.nd.args.length) (h2 : k < t.args.length), Rp es e.nd.args[k] t.args[k]) : Rp es e.id t

theorem Rp.inv {es : List Ent} {i : Int} {t : T} (h : Rp es i t) : ∃ e ∈ es, e.id = i ∧ e.nd.v = t.v ∧ e.nd.fn = t.fn ∧ e.nd.args.length = t.args.length ∧ ∀ k (h1 : k < e.nd.args.length) (h2 : k < t.args.length), Rp es e.nd.args[k] t.args[k] := by
  cases h with
  | mk e he t hv hf hl ha => exact ⟨e, he, rfl, hv, hf, hl, ha⟩
theorem Rp.mem {es : List Ent} {i : Int} {t : T} (h : Rp es i t) : i ∈ es.map (·.id) := by
  obtain ⟨e, he, rfl, _⟩ := h.inv
  exact List.mem_map_of_mem he

theorem Rp.det {es : List Ent} {P : List Int} (I : Bk es P) {i : Int} {t : T} (h : Rp es i t) : ∀ {t' : T}, Rp es i t' → t = t' := by
  induction h with
  | mk e he t hv hf hl ha ih =>
    intro t' h'
    obtain ⟨e', he', hi, kv, kf, kl, ka⟩ := h'.inv
    obtain rfl := id_inj I.nod he' he hi
    rw [T.eta t, T.eta t', ← hv, ← kv, ← hf, ← kf]
    congr 1
    exact List.ext_getElem (by omega) fun k h1 h2 => ih k (by omega) h1 (ka k (by omega) h2)

theorem Rp.inj {es : List Ent} {P : List Int} (I : Bk es P) {i : Int} {t : T} (h : Rp es i t) : ∀ {j : Int}, Rp es j t → i = j := by
  induction h with
  | mk e he t hv hf hl ha ih =>
    intro j h'
    obtain ⟨e', he', rfl, kv, kf, kl, ka⟩ := h'.inv
    have hnd : e.nd = e'.nd := by
      have h1 : e.nd.args = e'.nd.args := List.ext_getElem (by omega) fun k h1 h2 => ih k h1 (by omega) (ka k h2 (by omega))
      have h2 : e.nd.v = e'.nd.v := by rw [hv, kv]
      have h3 : e.nd.fn = e'.nd.fn := by rw [hf, kf]
      cases hx : e.nd
      cases hy : e'.nd
      rw [hx, hy] at h1 h2 h3
      simp only at h1 h2 h3
      rw [h1, h2, h3]
    rw [I.nds e he e' he' hnd]

/-- The same nodes are there, and perhaps others. -/
def Sub (es es' : List Ent) : Prop := ∀ e ∈ es, ∃ e' ∈ es', e'.id = e.id ∧ e'.nd = e.nd
theorem Sub.refl (es : List Ent) : Sub es es := fun e he => ⟨e, he, rfl, rfl⟩
theorem Sub.trans {a b c : List Ent} (h : Sub a b) (k : Sub b c) : Sub a c := fun e he => by
  obtain ⟨e1, h1, h2, h3⟩ := h e he
  obtain ⟨e2, k1, k2, k3⟩ := k e1 h1
  exact ⟨e2, k1, k2.trans h2, k3.trans h3⟩
theorem Sub.of_map {f : Ent → Ent} (hi : ∀ e, (f e).id = e.id) (hf : ∀ e, (f e).nd = e.nd) (es : List Ent) : Sub es (es.map f) := fun e he => ⟨f e, List.mem_map_of_mem he, hi e, hf e⟩
theorem Rp.mono {es es' : List Ent} (hs : Sub es es') {i : Int} {t : T} (h : Rp es i t) : Rp es' i t := by
  induction h with
  | mk e he t hv hf hl ha ih =>
    obtain ⟨e', h1, h2, h3⟩ := hs e he
    rw [← h2]
    refine .mk e' h1 t (by rw [h3]; exact hv) (by rw [h3]; exact hf) (by rw [h3]; exact hl) (fun k k1 k2 => ?_)
    have := ih k (by rw [← h3]; exact k1) k2
    simpa only [h3] using this

/-- Uses counted on. -/
def useE (P : List Int) (e : Ent) : Ent := { e with uses := e.uses + (P.count e.id : Nat) }
theorem bumps_eq : ∀ (ids : List Int) (es : List Ent), (∀ e ∈ es, 0 ≤ e.uses ∧ e.uses + ids.length ≤ 4611686018427387904) → bumps ids es = es.map (useE ids)
  | [], es, _ => by
    have : ∀ e : Ent, useE [] e = e := fun e => by cases e; simp [useE]
    have h2 : es.map (useE []) = es := by
      conv => rhs; rw [← List.map_id es]
      exact List.map_congr_left fun e _ => this e
    rw [h2]
    rfl
  | i :: r, es, h => by
    have h1 : es.map (bumpE i) = es.map (useE [i]) := List.map_congr_left fun e he => by
      have hb := h e he
      rw [List.length_cons] at hb
      unfold bumpE useE
      by_cases e1 : e.id = i
      · rw [if_pos e1]
        have : wrap64 (e.uses + 1) = e.uses + 1 := by unfold wrap64; omega
        simp [this, e1]
      · rw [if_neg e1]
        have : ([i] : List Int).count e.id = 0 := by simp [Ne.symm e1]
        cases e
        simp_all
    show bumps r (es.map (bumpE i)) = _
    rw [h1, bumps_eq r _ (fun e he => ?_), List.map_map]
    · refine List.map_congr_left fun e _ => ?_
      show useE r (useE [i] e) = useE (i :: r) e
      unfold useE
      simp only [List.count_cons, List.count_nil]
      congr 1
      by_cases e1 : i = e.id
      · simp [e1]; omega
      · simp [e1]
    · obtain ⟨e0, he0, rfl⟩ := List.mem_map.1 he
      have hb := h e0 he0
      rw [List.length_cons] at hb
      have : ([i] : List Int).count e0.id ≤ 1 := by
        have := List.count_le_length (a := e0.id) (l := [i])
        simpa using this
      show 0 ≤ e0.uses + _ ∧ e0.uses + _ + _ ≤ _
      omega

theorem pad_inj {a b : List Int} (ha : a.length ≤ 16) (hl : a.length = b.length) (h : pad a = pad b) : a = b := by
  refine List.ext_getElem hl fun i h1 h2 => ?_
  have e1 := pad_at a i (by omega)
  have e2 := pad_at b i (by omega)
  rw [h, e2] at e1
  have := Option.some.inj e1
  injection this with _ e3
  simpa [List.getD_eq_getElem?_getD, h1, h2] using e3.symm
theorem val_inj {a b : Nd} (ha : a.args.length ≤ 16) (h : a.val = b.val) : a = b := by
  have h1 : a.cells = b.cells := by
    have : a.cells.toArray = b.cells.toArray := by injection h
    simpa using this
  unfold Nd.cells ndCells at h1
  simp only [List.cons_append, List.nil_append, List.cons.injEq, Value.int.injEq, Value.string.injEq, true_and] at h1
  obtain ⟨h2, h3, h4, h5⟩ := h1
  have h6 := pad_inj ha (by omega) h5
  cases a
  cases b
  simp_all

end Go.Proofs.Ytbbfpllffcfmhaa
