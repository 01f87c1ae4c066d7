/-
  Get, Make, Small, and what a nil bank says.
-/
import Derived.Test.YtbbfpllffcfmhaaWM
import Derived.Test.YtbbfpllffcfmhaaZJ
namespace Go.Proofs.Ytbbfpllffcfmhaa
open Go.RowKit Go.Maps

set_option maxRecDepth 100000 in
set_option maxHeartbeats 1000000 in
/-- Get at a number that is there. -/
theorem get_any (n0 Ba : Nat) (B : List Nat) (limit : Int) (es : List Ent) (free : List Int) {P : List Int} (hBk : Bk es P) (t : T) (id : Int) (hR : Rp es id t) (W : World) (hb : BankSt n0 Ba B limit es free W) :
    Calls Try.prog 29 #[.pointer (some ⟨Ba, 0, none⟩), .int .i64 id] W fun e' W' => ∃ a c, e' = .returned (.tuple #[tval t (.slice a t.args.length c), .int .i64 0]) ∧ ArgsAt W' (.slice a t.args.length c) t.args ∧ Below W.heap.size W W' := by
  have hbel0 := below_box W (.cells #[.int .i64 0, .string ⟨#[]⟩, .slice none 0 0] 24)
  have hb1 := hb.keep (W' := W.alloc (.cells #[.int .i64 0, .string ⟨#[]⟩, .slice none 0 0] 24)) (fun r hr => hbel0.block r (hb.there r hr).2)
  have hbuilt := built_any n0 Ba B limit es free hBk t id hR _ hb1
  obtain ⟨bn, br, fv, l, hB⟩ := hb1
  obtain ⟨_, _, c2, _⟩ := hB.cells
  obtain ⟨e0, he0, hei, _⟩ := hR.inv
  have hfit : Fit64 id := by rw [← hei]; exact hBk.fit e0 he0
  have hids : l.map (·.1.id) = es.map (·.id) := by rw [← hB.ents, List.map_map]; rfl
  obtain ⟨x, hx, hxi, hone, hrec⟩ := recMap_find l id (by rw [hids]; exact hR.mem) (by rw [hids]; exact hBk.nod)
  have hlk := ((hB.recs.look keyed3 Try.underlying73 (zero85 _) (key3 hfit)).1 _ hrec).2
  have h4 := (MapKept.heap_alloc W (.cells #[.int .i64 0, .string ⟨#[]⟩, .slice none 0 0] 24)).1
  have hcall := hbuilt.mono (R' := fun e' X' => ∃ a c, e' = .returned (tval t (.slice a t.args.length c)) ∧ X'.cell? ⟨W.heap.size, 0, none⟩ = some (.int .i64 0) ∧ X'.cell? ⟨W.heap.size, 1, none⟩ = some (.string ⟨#[]⟩) ∧ X'.cell? ⟨W.heap.size, 2, none⟩ = some (.slice none 0 0) ∧ (∀ o, X'.frozen? ⟨W.heap.size, o, none⟩ = false) ∧ Hid (ArgsAt (set3 X' W.heap.size 0 (.int .i64 t.v) (.string t.fn) (.slice a t.args.length c)) (.slice a t.args.length c) t.args ∧ Below W.heap.size W (set3 X' W.heap.size 0 (.int .i64 t.v) (.string t.fn) (.slice a t.args.length c)))) (by
    rintro e' X' ⟨a, c, he, ha, hbX⟩
    have h4' := (hbX.block W.heap.size (by simp)).trans h4
    refine ⟨a, c, he, ?_, ?_, ?_, fun o => by simp [World.frozen?, h4'], ?_, ?_⟩
    · rw [cell_of_row _ _ _ _ 24 (0, 0) h4']; rfl
    · rw [cell_of_row _ _ _ _ 24 (0, 0) h4']; rfl
    · rw [cell_of_row _ _ _ _ 24 (0, 0) h4']; rfl
    · exact (ha.keep (P' := fun _ => True) (by rw [set3_size]; exact Nat.le_refl _) (fun k hk _ => ⟨trivial, set3_other _ _ _ _ _ _ k (by simp at hk; omega)⟩)).args
    · exact set3_below (hbel0.trans (hbX.mono hbel0.size)) _ 0 _ _ _ (Nat.le_refl _))
  clear hB hbuilt hb hbel0 h4 hone hids hrec hBk hR
  go_enter Try.func29, Try.ntmps29
  go_wp2_with (go_at_call 56; refine hcall.mono ?_; rintro e' W5 ⟨a, c, rfl, d0, d1, d2, dz, HA⟩)
  exact bodyPost_ret (v := .tuple #[tval t (.slice a t.args.length c), .int .i64 0]) (by simp [results, Try.results29, go_sem, *]) rfl ⟨_, _, rfl, HA⟩

set_option maxHeartbeats 1000000 in
theorem get_nil (id : Int) (w : World) : Calls Try.prog 29 #[.pointer none, .int .i64 id] w fun e w' => e = .returned (.tuple #[.agg #[.int .i64 0, .string ⟨#[]⟩, .slice none 0 0], .int .i64 2]) ∧ Below w.heap.size w w' := by
  have hb := below_box w (.cells #[.int .i64 0, .string ⟨#[]⟩, .slice none 0 0] 24)
  have h1 := (MapKept.heap_alloc w (.cells #[.int .i64 0, .string ⟨#[]⟩, .slice none 0 0] 24)).1
  obtain ⟨⟨d0, d1, d2⟩, e0, e1, e2⟩ := box_facts h1
  have HB : Hid (Below w.heap.size w (w.alloc (.cells #[.int .i64 0, .string ⟨#[]⟩, .slice none 0 0] 24))) := hb
  clear hb h1
  go_enter Try.func29, Try.ntmps29
  go_wp2
  refine bodyPost_ret (v := .tuple #[.agg #[.int .i64 0, .string ⟨#[]⟩, .slice none 0 0], .int .i64 2]) (by simp [results, Try.results29, go_sem, *]) rfl ?_
  exact ⟨rfl, HB.out⟩

set_option maxHeartbeats 1000000 in
theorem drop_nil (id : Int) (w : World) : Calls Try.prog 27 #[.pointer none, .int .i64 id] w fun e w' => e = .returned (.int .i64 2) ∧ w' = w := by
  go_enter Try.func27, Try.ntmps27
  go_wp2
  go_ret
  exact ⟨rfl, rfl⟩

set_option maxHeartbeats 1000000 in
theorem make_nil (t : T) (a : Option Addr) (n c : Nat) (w : World) : Calls Try.prog 25 #[.pointer none, tval t (.slice a n c)] w fun e w' => e = .returned (.tuple #[.int .i64 0, .int .i64 2]) ∧ Below w.heap.size w w' := by
  have hb := below_box w (tbox t (.slice a n c))
  go_enter Try.func25, Try.ntmps25
  go_wp2
  go_ret2
  exact ⟨rfl, hb⟩

/-- What Small answers. -/
noncomputable def smallB (t : T) : Bool := decide (wrap64 t.size ≤ 300) && decide (t.depthW ≤ 100)

set_option maxRecDepth 100000 in
set_option maxHeartbeats 1000000 in
theorem small_any (t : T) (sl : Value) (w : World) (ha : ArgsAt w sl t.args) : Calls Try.prog 24 #[tval t sl] w fun e w' => e = .returned (.bool (smallB t)) ∧ Below w.heap.size w w' := by
  obtain ⟨a, c, rfl, _, _⟩ := ha.slice
  have hb := below_box w (tbox t (.slice a t.args.length c))
  obtain ⟨t0, t1, t2⟩ := tbox_cells w t (.slice a t.args.length c)
  have c1 := rsize_any t (.slice a t.args.length c) _ (ArgsAt.keep hb (Nat.le_refl _) ha)
  obtain ⟨z, hz⟩ : ∃ z, wrap64 t.size = z := ⟨_, rfl⟩
  obtain ⟨y, hy⟩ : ∃ z, t.depthW = z := ⟨_, rfl⟩
  unfold smallB
  rw [hz, hy]
  rw [hz] at c1
  have HD : Hid (∀ W, Below w.heap.size w W → Calls Try.prog 13 #[tval t (.slice a t.args.length c)] W fun e w' => e = .returned (.int .i64 y) ∧ Below W.heap.size W w') := fun W hW => by
    have := rdepth_any t (.slice a t.args.length c) W (ArgsAt.keep hW (Nat.le_refl _) ha)
    rwa [hy] at this
  have HB : Hid (Below w.heap.size w (w.alloc (tbox t (.slice a t.args.length c)))) := hb
  clear hz hy ha hb
  by_cases h1 : z ≤ 300
  · go_enter Try.func24, Try.ntmps24
    go_wp2_with fail
    refine c1.mono ?_
    rintro e w1 ⟨rfl, b1⟩
    have s0 := kc b1 (by simp) t0
    have s1 := kc b1 (by simp) t1
    have s2 := kc b1 (by simp) t2
    have hb1 := HB.out.trans (b1.mono HB.out.size)
    have c2 := HD.out w1 hb1
    clear c1 t0 t1 t2
    go_wp2_with fail
    refine c2.mono ?_
    rintro e w2 ⟨rfl, b2⟩
    have hb2 := hb1.trans (b2.mono hb1.size)
    go_wp2
    go_ret
    refine ⟨?_, hb2⟩
    simp [h1]
  · go_enter Try.func24, Try.ntmps24
    go_wp2_with fail
    refine c1.mono ?_
    rintro e w1 ⟨rfl, b1⟩
    have hb1 := HB.out.trans (b1.mono HB.out.size)
    clear c1
    go_wp2
    go_ret
    refine ⟨?_, hb1⟩
    rw [decide_eq_false (by omega : ¬ z ≤ 300)]
    rfl

end Go.Proofs.Ytbbfpllffcfmhaa
