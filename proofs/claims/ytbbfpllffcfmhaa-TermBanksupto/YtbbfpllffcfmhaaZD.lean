/-
  Get.
-/
import Derived.Test.YtbbfpllffcfmhaaZC
namespace Go.Proofs.Ytbbfpllffcfmhaa
open Go.RowKit Go.Maps

/-- Terms whose arguments have none: only their own row counts. -/
theorem ArgsAt.flat_keep {W W' : World} {sl : Value} {l : List T} (h : ArgsAt W sl l) (hflat : ∀ a ∈ l, a.args = []) (hs : W.heap.size ≤ W'.heap.size) (hk : ∀ g, sl.ownBlock = some g → W'.heap[g]? = W.heap[g]?) : ArgsAt W' sl l := by
  cases h with
  | mk a c _ s hc hm at0 sub =>
    refine .mk a c l s hc hm (fun h0 => ?_) (fun i h => ?_)
    · obtain ⟨b, o, hb, rfl, hcell⟩ := at0 h0
      have hkb := hk b rfl
      exact ⟨b, o, by omega, rfl, fun i h => ⟨(cell_congr hkb _).trans (hcell i h).1, (cell_congr hkb _).trans (hcell i h).2.1, (cell_congr hkb _).trans (hcell i h).2.2⟩⟩
    · have h1 := sub i h
      rw [hflat l[i] (List.getElem_mem h)] at h1 ⊢
      obtain ⟨a', c', e, hc', hm'⟩ := h1.slice
      rw [e]
      exact .mk a' c' [] (fun _ => undef) hc' hm' (fun h => by cases h) (fun i h => by cases h)

set_option maxRecDepth 100000 in
set_option maxHeartbeats 1000000 in
/-- Get at a number that is there. -/
theorem get_one (n0 Ba : Nat) (B : List Nat) (limit : Int) (es : List Ent) (free : List Int) (hnod : (es.map (·.id)).Nodup) (t : T) (id : Int) (hid : id ∈ es.map (·.id)) (hfit : Fit64 id) (hflat : ∀ a ∈ t.args, a.args = [])
    (hbuilt : ∀ X, BankSt n0 Ba B limit es free X → Calls Try.prog 56 #[.pointer (some ⟨Ba, 0, none⟩), .int .i64 id] X fun e' X' => ∃ sl, e' = .returned (tval t sl) ∧ (∀ g, sl.ownBlock = some g → X.heap.size ≤ g) ∧ ArgsAt X' sl t.args ∧ Below X.heap.size X X') (W : World) (hb : BankSt n0 Ba B limit es free W) :
    Calls Try.prog 29 #[.pointer (some ⟨Ba, 0, none⟩), .int .i64 id] W fun e' W' => ∃ sl, e' = .returned (.tuple #[tval t sl, .int .i64 0]) ∧ ArgsAt W' sl t.args ∧ Below W.heap.size W W' := by
  have hbel0 := below_box W (.cells #[.int .i64 0, .string ⟨#[]⟩, .slice none 0 0] 24)
  have hb1 := hb.keep (W' := W.alloc (.cells #[.int .i64 0, .string ⟨#[]⟩, .slice none 0 0] 24)) (fun r hr => hbel0.block r (hb.there r hr).2)
  obtain ⟨bn, br, fv, l, hB⟩ := hb1
  obtain ⟨_, _, c2, _⟩ := hB.cells
  have hids : l.map (·.1.id) = es.map (·.id) := by rw [← hB.ents, List.map_map]; rfl
  obtain ⟨x, hx, hxi, hone, hrec⟩ := recMap_find l id (by rw [hids]; exact hid) (by rw [hids]; exact hnod)
  have hlk := ((hB.recs.look keyed3 Try.underlying73 (zero85 _) (key3 hfit)).1 _ hrec).2
  have h4 := (MapKept.heap_alloc W (.cells #[.int .i64 0, .string ⟨#[]⟩, .slice none 0 0] 24)).1
  have hcall := (hbuilt _ ⟨bn, br, fv, l, hB⟩).mono (R' := fun e' X' => ∃ a c, e' = .returned (tval t (.slice a t.args.length c)) ∧ X'.cell? ⟨W.heap.size, 0, none⟩ = some (.int .i64 0) ∧ X'.cell? ⟨W.heap.size, 1, none⟩ = some (.string ⟨#[]⟩) ∧ X'.cell? ⟨W.heap.size, 2, none⟩ = some (.slice none 0 0) ∧ (∀ o, X'.frozen? ⟨W.heap.size, o, none⟩ = false) ∧ Hid (ArgsAt (((X'.setCell ⟨W.heap.size, 0, none⟩ (.int .i64 t.v)).setCell ⟨W.heap.size, 1, none⟩ (.string t.fn)).setCell ⟨W.heap.size, 2, none⟩ (.slice a t.args.length c)) (.slice a t.args.length c) t.args ∧ Below W.heap.size W (((X'.setCell ⟨W.heap.size, 0, none⟩ (.int .i64 t.v)).setCell ⟨W.heap.size, 1, none⟩ (.string t.fn)).setCell ⟨W.heap.size, 2, none⟩ (.slice a t.args.length c)))) (by
    rintro e' X' ⟨sl, he, hg, ha, hbX⟩
    obtain ⟨a, c, rfl, _, _⟩ := ha.slice
    have h4' := (hbX.block W.heap.size (by simp)).trans h4
    refine ⟨a, c, he, ?_, ?_, ?_, fun o => by simp [World.frozen?, h4'], ?_, ?_⟩
    · rw [cell_of_row _ _ _ _ 24 (0, 0) h4']; rfl
    · rw [cell_of_row _ _ _ _ 24 (0, 0) h4']; rfl
    · rw [cell_of_row _ _ _ _ 24 (0, 0) h4']; rfl
    · refine ha.flat_keep hflat (by simp) (fun g hgo => ?_)
      have hgn : g ≠ W.heap.size := fun e => by have := hg g hgo; simp at this; omega
      have st : ∀ (X : World) (o : Nat) (u : Value), (X.setCell ⟨W.heap.size, o, none⟩ u).heap[g]? = X.heap[g]? := fun X o u => Below.heap_setCell _ _ _ g hgn
      rw [st, st, st]
    · exact (((hbel0.trans (hbX.mono hbel0.size)).setCell (p := ⟨W.heap.size, 0, none⟩) (Nat.le_refl _) _).setCell (p := ⟨W.heap.size, 1, none⟩) (Nat.le_refl _) _).setCell (p := ⟨W.heap.size, 2, none⟩) (Nat.le_refl _) _)
  clear hB hbuilt hb hbel0 h4 hone hids hrec
  go_enter Try.func29, Try.ntmps29
  go_wp2_with (go_at_call 56; refine hcall.mono ?_; rintro e' W5 ⟨a, c, rfl, d0, d1, d2, dz, HA⟩)
  exact bodyPost_ret (v := .tuple #[tval t (.slice a t.args.length c), .int .i64 0]) (by simp [results, Try.results29, go_sem, *]) rfl ⟨_, rfl, HA⟩

end Go.Proofs.Ytbbfpllffcfmhaa
