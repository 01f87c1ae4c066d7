/-
  enter as what numbers nodes.
-/
import Derived.Test.YtbbfpllffcfmhaaZ
import Derived.Test.YtbbfpllffcfmhaaX
namespace Go.Proofs.Ytbbfpllffcfmhaa
open Go.RowKit Go.Maps

/-- The entries of a bank that lost none: their numbers are their places. -/
structure Good (es : List Ent) : Prop where
  ids : es.map (·.id) = (List.range es.length).map fun k => ((k : Nat) : Int) + 1
  len : es.length ≤ 1073741825

theorem bumps_len (ids : List Int) (es : List Ent) : (bumps ids es).length = es.length := by
  have := congrArg List.length (bumps_ids ids es)
  simpa using this

theorem Good.mem {es : List Ent} (h : Good es) {i : Int} : i ∈ es.map (·.id) ↔ 1 ≤ i ∧ i ≤ es.length := by
  rw [h.ids]
  simp only [List.mem_map, List.mem_range]
  constructor
  · rintro ⟨k, hk, rfl⟩; omega
  · rintro ⟨h1, h2⟩; exact ⟨(i - 1).toNat, by omega, by omega⟩

theorem Good.fit {es : List Ent} (h : Good es) {i : Int} (hi : i ∈ es.map (·.id)) : Fit64 i := by
  have h1 := h.mem.1 hi
  have h2 := h.len
  exact ⟨by omega, by omega⟩

theorem Good.nodup {es : List Ent} (h : Good es) : (es.map (·.id)).Nodup := by
  rw [h.ids, List.nodup_iff_pairwise_ne, List.pairwise_map]
  exact (List.nodup_iff_pairwise_ne.1 List.nodup_range).imp (fun hab e => hab (by omega))

theorem Good.new {es : List Ent} (h : Good es) : ∀ e ∈ es, e.id ≠ es.length + 1 := by
  intro e he e'
  have := (h.mem (i := e.id)).1 (List.mem_map_of_mem he)
  omega

theorem Good.nil : Good [] := ⟨rfl, by simp⟩

theorem Good.snoc {es : List Ent} (h : Good es) (nd : Nd) (hl : es.length ≤ 1073741824) : Good (bumps nd.args (es ++ [⟨es.length + 1, nd, 0, 0⟩])) := by
  refine ⟨?_, ?_⟩
  · rw [bumps_ids, bumps_len, List.map_append, h.ids, List.length_append, List.length_singleton, List.range_succ, List.map_append]
    rfl
  · rw [bumps_len, List.length_append, List.length_singleton]
    omega

open Classical in
/-- What enter answers. -/
noncomputable def enterStep (s : {es : List Ent // Good es}) (nd : Nd) : {es : List Ent // Good es} × Int :=
  match entOf s.1 nd with
  | some e => (s, e.id)
  | none => if h : s.1.length ≤ 1073741824 then (⟨bumps nd.args (s.1 ++ [⟨s.1.length + 1, nd, 0, 0⟩]), s.2.snoc nd h⟩, (s.1.length : Int) + 1) else (s, 1)

theorem enterStep_old {s : {es : List Ent // Good es}} {nd : Nd} {e : Ent} (h : entOf s.1 nd = some e) : enterStep s nd = (s, e.id) := by
  unfold enterStep
  rw [h]

theorem enterStep_new {s : {es : List Ent // Good es}} {nd : Nd} (h : entOf s.1 nd = none) (hl : s.1.length ≤ 1073741824) : enterStep s nd = (⟨bumps nd.args (s.1 ++ [⟨s.1.length + 1, nd, 0, 0⟩]), s.2.snoc nd hl⟩, (s.1.length : Int) + 1) := by
  unfold enterStep
  rw [h]
  exact dif_pos hl

theorem enterStep_full {s : {es : List Ent // Good es}} {nd : Nd} (h : entOf s.1 nd = none) (hl : ¬ s.1.length ≤ 1073741824) : enterStep s nd = (s, 1) := by
  unfold enterStep
  rw [h]
  exact dif_neg hl

/-- enter as what numbers nodes. -/
noncomputable def enterM (n0 Ba : Nat) (limit : Int) : Numb where
  σ := {es : List Ent // Good es}
  St := fun B s W => BankSt n0 Ba B limit s.1 [] W
  step := enterStep
  Has := fun s id => id ∈ s.1.map (·.id)
  cnt := fun s => s.1.length
  n0 := n0
  keep := fun B s W W' h hB _ => h.keep hB
  low := fun B s W h => h.there
  has := by
    intro s nd id h
    cases he : entOf s.1 nd with
    | some e => rw [enterStep_old he]; exact h
    | none =>
      by_cases hl : s.1.length ≤ 1073741824
      · rw [enterStep_new he hl]
        show id ∈ (bumps nd.args (s.1 ++ [⟨s.1.length + 1, nd, 0, 0⟩])).map (·.id)
        rw [bumps_ids, List.map_append]
        exact List.mem_append_left _ h
      · rw [enterStep_full he hl]; exact h
  hasNew := by
    intro s nd
    cases he : entOf s.1 nd with
    | some e => rw [enterStep_old he]; exact List.mem_map_of_mem (List.mem_of_find?_eq_some he)
    | none =>
      by_cases hl : s.1.length ≤ 1073741824
      · rw [enterStep_new he hl]
        show _ ∈ (bumps nd.args (s.1 ++ [⟨s.1.length + 1, nd, 0, 0⟩])).map (·.id)
        rw [bumps_ids, List.map_append]
        exact List.mem_append_right _ (by simp)
      · rw [enterStep_full he hl]
        exact s.2.mem.2 ⟨by omega, by omega⟩
  fit := fun s id h => s.2.fit h
  cntUp := by
    intro s nd
    cases he : entOf s.1 nd with
    | some e => rw [enterStep_old he]; exact Nat.le_succ _
    | none =>
      by_cases hl : s.1.length ≤ 1073741824
      · rw [enterStep_new he hl]
        show (bumps nd.args (s.1 ++ [⟨s.1.length + 1, nd, 0, 0⟩])).length ≤ _
        rw [bumps_len, List.length_append]
        exact Nat.le_refl _
      · rw [enterStep_full he hl]; exact Nat.le_succ _

theorem enter_asks (n0 Ba : Nat) (limit : Int) : (enterM n0 Ba limit).Asks 50 (fun v => #[.pointer (some ⟨Ba, 0, none⟩), v]) := by
  intro B s nd W hS hin hfine hcnt
  have hcnt' : s.1.length ≤ 1073741824 := hcnt
  obtain ⟨bn, br, fv, l, hb⟩ : BankSt n0 Ba B limit s.1 [] W := hS
  obtain ⟨kl, hkl⟩ := nd.key hfine
  show Calls Try.prog 50 #[.pointer (some ⟨Ba, 0, none⟩), nd.val] W fun e W' => e = .returned (.int .i64 (enterStep s nd).2) ∧ ∃ B', BankSt n0 Ba B' limit (enterStep s nd).1.1 [] W' ∧ (∀ r ∈ B', r ∈ B ∨ W.heap.size ≤ r) ∧ Only B W W'
  cases he : entOf s.1 nd with
  | some e =>
    rw [enterStep_old he]
    obtain ⟨_, c1, _, _⟩ := hb.cells
    refine (enter_old Ba bn nd.cells (ndCells_len _ _ _ _) e.id W hb.nums.lt c1 (fun X hX => ((((hb.nums.same hX).look keyed82 Try.underlying72 (zero3 _) hkl).1 (.int .i64 e.id) (by rw [numMap_ent, he]; rfl))).1)).mono ?_
    rintro e' W' ⟨h1, h2⟩
    exact ⟨h1, B, ⟨bn, br, fv, l, hb.keep (fun r hr => h2.block r (hb.there r hr))⟩, fun r hr => .inl hr, Only.of_below h2⟩
  | none =>
    rw [enterStep_new he hcnt']
    have hn0 : n0 ≤ W.heap.size := by
      have h1 := hb.low Ba (by rw [hb.mine]; simp)
      have h2 := hb.there Ba (by rw [hb.mine]; simp)
      omega
    exact enter_new n0 Ba B limit s.1 W bn br fv l nd kl hb hfine hkl he hcnt' hn0 s.2.new s.2.nodup hin

end Go.Proofs.Ytbbfpllffcfmhaa
