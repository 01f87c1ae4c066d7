/-
  missing: how many nodes of a term are not there.
-/
import Derived.Test.YtbbfpllffcfmhaaU
namespace Go.Proofs.Ytbbfpllffcfmhaa
open Go.RowKit Go.Maps

open Classical in
/-- Where a node stands in a list. -/
noncomputable def idxOf (s : List Nd) (key : Value) : Option Nat := s.findIdx? fun nd => decide (nd.val = key)
/-- The map of what was met. -/
noncomputable def freshMap (s : List Nd) (key : Value) : Option Value := (idxOf s key).map fun i => .int .i64 (-1 - (i : Int))

theorem idxOf_lt {s : List Nd} {key : Value} {i : Nat} (h : idxOf s key = some i) : i < s.length := by
  unfold idxOf at h
  exact (List.findIdx?_eq_some_iff_getElem.1 h).1
open Classical in
theorem idxOf_snoc (s : List Nd) (nd : Nd) (h : idxOf s nd.val = none) (key : Value) : idxOf (s ++ [nd]) key = if nd.val = key then some s.length else idxOf s key := by
  unfold idxOf at *
  rw [List.findIdx?_append]
  by_cases e : nd.val = key
  · rw [if_pos e, ← e, h]
    simp [List.findIdx?_cons]
  · rw [if_neg e]
    have : (List.findIdx? (fun nd => decide (nd.val = key)) [nd]) = none := by simp [List.findIdx?_cons, e]
    rw [this]
    simp
theorem freshMap_snoc (s : List Nd) (nd : Nd) (h : idxOf s nd.val = none) : upd (freshMap s) nd.val (.int .i64 (-1 - (s.length : Int))) = freshMap (s ++ [nd]) := by
  funext key
  unfold freshMap upd
  rw [idxOf_snoc s nd h]
  by_cases e : key = nd.val
  · rw [if_pos e, if_pos e.symm]
    rfl
  · rw [if_neg e, if_neg (fun h : nd.val = key => e h.symm)]

open Classical in
/-- The entry of a node. -/
noncomputable def entOf (es : List Ent) (nd : Nd) : Option Ent := es.find? fun e => decide (e.nd.val = nd.val)
theorem numMap_ent (es : List Ent) (nd : Nd) : numMap es nd.val = (entOf es nd).map fun e => .int .i64 e.id := rfl

/-- What missing's closure answers. -/
noncomputable def missStep (es : List Ent) (s : List Nd) (nd : Nd) : List Nd × Int :=
  match entOf es nd with
  | some e => (s, e.id)
  | none => match idxOf s nd.val with
    | some i => (s, wrap64 (-1 - (i : Int)))
    | none => (s ++ [nd], wrap64 (-1 - (s.length : Int)))

theorem fit_wrap (a : Int) : Fit64 (wrap64 a) := by
  unfold Fit64 wrap64
  omega

/-- Where missing's state lies. -/
structure MissAt (n0 Ba Bp Bf bf : Nat) (limit : Int) (es : List Ent) (free : List Int) (B1 : List Nat) (s : List Nd) (W : World) : Prop where
  bank : BankSt n0 Ba B1 limit es free W
  p : W.heap[Bp]? = some (.cells #[.pointer (some ⟨Ba, 0, none⟩)] 37 (0, 0))
  f : W.heap[Bf]? = some (.cells #[.map (some bf)] 72 (0, 0))
  fresh : MapIs W 82 bf (freshMap s) s.length
  out : bf ∉ B1
  low : n0 ≤ Bp ∧ n0 ≤ Bf ∧ n0 ≤ bf

theorem box_cell {W : World} {b : Nat} {v : Value} {t : TypeId} (h : W.heap[b]? = some (.cells #[v] t (0, 0))) : W.cell? ⟨b, 0, none⟩ = some v := by simp [World.cell?, h]

theorem MissAt.ne {n0 Ba Bp Bf bf : Nat} {limit : Int} {es : List Ent} {free : List Int} {B1 : List Nat} {s : List Nd} {W : World} (h : MissAt n0 Ba Bp Bf bf limit es free B1 s W) : Bp ≠ bf ∧ Bf ≠ bf := by
  obtain ⟨D, ⟨es', clock, hm, _⟩, _⟩ := h.fresh
  constructor
  · rintro rfl
    rw [h.p] at hm
    cases hm
  · rintro rfl
    rw [h.f] at hm
    cases hm

/-- missing's closure as what numbers nodes. -/
noncomputable def missM (n0 Ba Bp Bf bf : Nat) (limit : Int) (es : List Ent) (free : List Int) (hes : ∀ e ∈ es, Fit64 e.id) : Numb where
  σ := List Nd
  St := fun B s W => ∃ B1, B = Bp :: Bf :: bf :: B1 ∧ MissAt n0 Ba Bp Bf bf limit es free B1 s W
  step := missStep es
  Has := fun _ id => Fit64 id
  cnt := List.length
  n0 := n0
  keep := by
    rintro B s W W' ⟨B1, rfl, h⟩ hB _
    exact ⟨B1, rfl, h.bank.keep (fun r hr => hB r (by simp [hr])), (hB _ (by simp)).trans h.p, (hB _ (by simp)).trans h.f, h.fresh.same (hB _ (by simp)), h.out, h.low⟩
  low := by
    rintro B s W ⟨B1, rfl, h⟩ r hr
    simp only [List.mem_cons] at hr
    rcases hr with rfl | rfl | rfl | hr
    · exact ⟨h.low.1, (Array.getElem?_eq_some_iff.1 h.p).1⟩
    · exact ⟨h.low.2.1, (Array.getElem?_eq_some_iff.1 h.f).1⟩
    · exact ⟨h.low.2.2, h.fresh.lt⟩
    · exact h.bank.there r hr
  has := fun _ _ _ h => h
  hasNew := by
    intro s nd
    unfold missStep
    cases h : entOf es nd with
    | some e => exact hes e (List.mem_of_find?_eq_some h)
    | none =>
      simp only
      cases idxOf s nd.val with
      | some i => exact fit_wrap _
      | none => exact fit_wrap _
  fit := fun _ _ h => h
  cntUp := by
    intro s nd
    unfold missStep
    cases entOf es nd with
    | some e => simp
    | none =>
      simp only
      cases idxOf s nd.val with
      | some i => simp
      | none => simp

theorem miss_asks1 (n0 Ba Bp Bf bf : Nat) (limit : Int) (es : List Ent) (free : List Int) (_hes : ∀ e ∈ es, Fit64 e.id) (B1 : List Nat) (s : List Nd) (nd : Nd) (W : World) (h : MissAt n0 Ba Bp Bf bf limit es free B1 s W) (hfine : nd.Fine) (hcnt' : s.length ≤ 1073741824) :
    Calls Try.prog 65 #[nd.val, .pointer (some ⟨Bp, 0, none⟩), .pointer (some ⟨Bf, 0, none⟩)] W fun e W' => e = .returned (.int .i64 (missStep es s nd).2) ∧ ∃ B', (∃ B1', B' = Bp :: Bf :: bf :: B1' ∧ MissAt n0 Ba Bp Bf bf limit es free B1' (missStep es s nd).1 W') ∧ (∀ r ∈ B', r ∈ Bp :: Bf :: bf :: B1 ∨ W.heap.size ≤ r) ∧ Only (Bp :: Bf :: bf :: B1) W W' := by
  obtain ⟨kl, hkl⟩ := nd.key hfine
  obtain ⟨bn, br, fv, l, hb⟩ := h.bank
  obtain ⟨_, c1, _, _⟩ := hb.cells
  have hp := box_cell h.p
  have hf := box_cell h.f
  have hbn := hb.nums.lt
  have hl19 : nd.cells.length = 19 := ndCells_len _ _ _ _
  have stay : ∀ (id : Int), missStep es s nd = (s, id) → ∀ (e : Ending) (W' : World), (e = .returned (.int .i64 id) ∧ Below W.heap.size W W') → e = .returned (.int .i64 (missStep es s nd).2) ∧ ∃ B', (∃ B1', B' = Bp :: Bf :: bf :: B1' ∧ MissAt n0 Ba Bp Bf bf limit es free B1' (missStep es s nd).1 W') ∧ (∀ r ∈ B', r ∈ Bp :: Bf :: bf :: B1 ∨ W.heap.size ≤ r) ∧ Only (Bp :: Bf :: bf :: B1) W W' := by
    rintro id hid e W' ⟨he, hbel⟩
    rw [hid]
    refine ⟨he, _, ⟨B1, rfl, h.bank.keep (fun r hr => hbel.block r (h.bank.there r hr).2), (hbel.block _ (Array.getElem?_eq_some_iff.1 h.p).1).trans h.p, (hbel.block _ (Array.getElem?_eq_some_iff.1 h.f).1).trans h.f, h.fresh.same (hbel.block _ h.fresh.lt), h.out, h.low⟩, fun r hr => .inl hr, Only.of_below hbel⟩
  cases he : entOf es nd with
  | some e =>
    have hstep : missStep es s nd = (s, e.id) := by unfold missStep; rw [he]
    refine (miss_old Bp Bf Ba bn nd.cells hl19 e.id W hbn hp c1 (fun X hX => ?_)).mono (stay e.id hstep)
    exact ((((hb.nums.same hX).look keyed82 Try.underlying72 (zero3 _) hkl).1 (.int .i64 e.id) (by rw [numMap_ent, he]; rfl))).1
  | none =>
    have hno : ∀ X : World, X.heap[bn]? = W.heap[bn]? → (Instr.lookup 72 (.map (some bn)) (.agg nd.cells.toArray) true).run Try.prog X = .ok (.tuple #[.int .i64 0, .bool false]) X := fun X hX =>
      ((((hb.nums.same hX).look keyed82 Try.underlying72 (zero3 _) hkl).2 (by rw [numMap_ent, he]; rfl))).1
    cases hi : idxOf s nd.val with
    | some i =>
      have hlt := idxOf_lt hi
      have hw : wrap64 (-1 - (i : Int)) = -1 - (i : Int) := by simp only [wrap64]; omega
      have hstep : missStep es s nd = (s, -1 - (i : Int)) := by unfold missStep; rw [he]; simp only [hi, hw]
      refine (miss_met Bp Bf Ba bn bf nd.cells hl19 (-1 - (i : Int)) _ W hbn h.fresh.lt hp c1 hf hno (fun X hX => ?_)).mono (stay _ hstep)
      exact (((h.fresh.same hX).look keyed82 Try.underlying72 (zero3 _) hkl).1 (.int .i64 (-1 - (i : Int))) (by unfold freshMap; rw [hi]; rfl))
    | none =>
      have hw : wrap64 (-1 - (s.length : Int)) = -1 - (s.length : Int) := by simp only [wrap64]; omega
      have hstep : missStep es s nd = (s ++ [nd], -1 - (s.length : Int)) := by unfold missStep; rw [he]; simp only [hi, hw]
      refine (miss_new Bp Bf Ba bn bf s.length nd.cells kl (freshMap s) hl19 _ W hbn h.ne.2 hp c1 hf hno h.fresh hkl (by unfold freshMap; rw [hi]; rfl) hcnt').mono ?_
      rintro e W' ⟨he', hM, hO⟩
      rw [hstep]
      have hblk : ∀ r, r < W.heap.size → r ≠ bf → W'.heap[r]? = W.heap[r]? := fun r hr hne => hO.block r hr (by simpa using hne)
      rw [freshMap_snoc s nd hi] at hM
      refine ⟨he', _, ⟨B1, rfl, h.bank.keep (fun r hr => hblk r (h.bank.there r hr).2 (fun e => h.out (e ▸ hr))), (hblk _ (Array.getElem?_eq_some_iff.1 h.p).1 h.ne.1).trans h.p, (hblk _ (Array.getElem?_eq_some_iff.1 h.f).1 h.ne.2).trans h.f, by simpa using hM, h.out, h.low⟩, fun r hr => .inl hr, ?_⟩
      exact ⟨hO.os, hO.tape, hO.output, hO.size, fun k hk hn => hblk k hk (fun e => hn (by simp [e]))⟩

theorem miss_asks (n0 Ba Bp Bf bf : Nat) (limit : Int) (es : List Ent) (free : List Int) (hes : ∀ e ∈ es, Fit64 e.id) :
    (missM n0 Ba Bp Bf bf limit es free hes).Asks 65 (fun v => #[v, .pointer (some ⟨Bp, 0, none⟩), .pointer (some ⟨Bf, 0, none⟩)]) := by
  rintro B s nd W ⟨B1, rfl, h⟩ _ hfine hcnt
  exact miss_asks1 n0 Ba Bp Bf bf limit es free hes B1 s nd W h hfine hcnt

end Go.Proofs.Ytbbfpllffcfmhaa
