/-
  The iterator over a term's parts, whole; term.Size, Depth.
-/
import Derived.Test.YtbbfpllffcfmhaaI
import Derived.Laws.EntriesVeiled
namespace Go.Proofs.Ytbbfpllffcfmhaa
open Go.RowKit Go.Shelf

attribute [local go_sem] Oper.semAt_some

theorem walk_any (w0 : World) (n l Y Pb Wb : Nat) (all : List Part) (J Jx : List Nat → List Part → World → Prop) (hJ : Abide J) (hY : Yields n l w0 all J Jx) (hlen : ∀ q ∈ all, q.1.length ≤ 1048576) (p : T) : WalkAt w0 n l Y Pb Wb all J Jx p := by
  induction p using T.ind with
  | _ p ih => exact walk_one w0 n l Y Pb Wb all J Jx hJ hY hlen p ih

set_option maxRecDepth 100000 in
set_option maxHeartbeats 2000000 in
theorem iter_any (w0 : World) (n Bt : Nat) (t : T) (sl : Value) (W : World) (hb : Below w0.heap.size w0 W) (hn0 : w0.heap.size ≤ n) (hn : n ≤ W.heap.size) (hbx : W.heap[Bt]? = some (.cells [Value.int .i64 t.v, .string t.fn, sl].toArray 24 (0, 0))) (ha : ArgsAt w0 sl t.args) (hlen : ∀ q ∈ t.parts [], q.1.length ≤ 1048576) :
    Iter n 57 #[.pointer (some ⟨Bt, 0, none⟩)] w0 (t.parts []) W := by
  intro m l J Jx hJ hY hj
  have hw := walk_any w0 n l W.heap.size (W.heap.size + 1) (W.heap.size + 1 + 1) (t.parts []) J Jx hJ hY hlen t
  have c0 : W.cell? ⟨Bt, 0, none⟩ = some (.int .i64 t.v) := by rw [cell_of_row _ _ _ _ 24 (0, 0) hbx]; rfl
  have c1 : W.cell? ⟨Bt, 1, none⟩ = some (.string t.fn) := by rw [cell_of_row _ _ _ _ 24 (0, 0) hbx]; rfl
  have c2 : W.cell? ⟨Bt, 2, none⟩ = some sl := by rw [cell_of_row _ _ _ _ 24 (0, 0) hbx]; rfl
  have hBlt : Bt < W.heap.size := (Array.getElem?_eq_some_iff.1 hbx).1
  obtain ⟨fv, hfv⟩ : ∃ fv : Value, fv = .func (.func 58) #[] #[.pointer (some ⟨W.heap.size, 0, none⟩), .pointer (some ⟨W.heap.size + 1, 0, none⟩), .pointer (some ⟨W.heap.size + 1 + 1, 0, none⟩)] := ⟨_, rfl⟩
  have y0 := Boxed.new W 92 (.func (.yield l) #[] #[])
  have p0 := Boxed.new (W.alloc (.cells #[.func (.yield l) #[] #[]] 92)) 29 (.slice none 0 0)
  have k0 := Boxed.new ((W.alloc (.cells #[.func (.yield l) #[] #[]] 92)).alloc (.cells #[.slice none 0 0] 29)) 32 fv
  rw [World.size_alloc] at p0
  rw [World.size_alloc, World.size_alloc] at k0
  have y1 := (y0.alloc (.cells #[.slice none 0 0] 29)).alloc (.cells #[fv] 32)
  have p1 := p0.alloc (.cells #[fv] 32)
  have b3 : Below w0.heap.size W (((W.alloc (.cells #[.func (.yield l) #[] #[]] 92)).alloc (.cells #[.slice none 0 0] 29)).alloc (.cells #[fv] 32)) := (((Below.refl _ _).alloc hb.size _).alloc (by have := hb.size; simp; omega) _).alloc (by have := hb.size; simp; omega) _
  have hS : ItS w0 n l W.heap.size (W.heap.size + 1) (W.heap.size + 1 + 1) [W.heap.size, W.heap.size + 1, W.heap.size + 1 + 1] [] (.slice none 0 0) (((W.alloc (.cells #[.func (.yield l) #[] #[]] 92)).alloc (.cells #[.slice none 0 0] 29)).alloc (.cells #[fv] 32)) :=
    { y := y1, p := p1, k := hfv ▸ k0, my := by simp, mp := by simp, mw := by simp, ny := by omega, nk := by omega, place := ⟨World.ownsRow_nil _ _ _ _, fun g e => by cases e⟩, bel := hb.trans b3, lp := by have := hb.size; omega, ln := hn0, hn := by simp; omega }
  have hj3 : J [W.heap.size, W.heap.size + 1, W.heap.size + 1 + 1] [] (((W.alloc (.cells #[.func (.yield l) #[] #[]] 92)).alloc (.cells #[.slice none 0 0] 29)).alloc (.cells #[fv] 32)) := by
    have j1 := hJ _ [] _ _ _ _ hj (World.grownBy_alloc W (.cells #[.func (.yield l) #[] #[]] 92) none) (fun _ e => by cases e) (fun r hr => by cases hr)
    have j2 := hJ _ [] _ _ _ _ j1 (World.grownBy_alloc _ (.cells #[.slice none 0 0] 29) none) (fun _ e => by cases e) (fun r hr => by cases hr)
    have g3 := World.grownBy_alloc ((W.alloc (.cells #[.func (.yield l) #[] #[]] 92)).alloc (.cells #[.slice none 0 0] 29)) (.cells #[fv] 32) none
    have g13 : W.grownBy (((W.alloc (.cells #[.func (.yield l) #[] #[]] 92)).alloc (.cells #[.slice none 0 0] 29)).alloc (.cells #[fv] 32)) none := ⟨rfl, rfl, rfl, by simp; omega, fun i hi _ => by rw [Below.heap_alloc _ _ _ (by simp; omega), Below.heap_alloc _ _ _ (by simp; omega), Below.heap_alloc _ _ _ hi]⟩
    exact hJ _ _ _ _ _ _ hj g13 (fun _ e => by cases e) (fun r hr => .inr (by simp at hr ⊢; omega))
  have hcall := hw (m - 1) sl _ _ [] [] _ hS hj3 ha ⟨[], by simp⟩
  have bW : Below W.heap.size W (((W.alloc (.cells #[.func (.yield l) #[] #[]] 92)).alloc (.cells #[.slice none 0 0] 29)).alloc (.cells #[fv] 32)) := (((Below.refl _ _).alloc (Nat.le_refl _) _).alloc (by simp) _).alloc (by simp; omega) _
  have c0' := kc bW hBlt c0
  have c1' := kc bW hBlt c1
  have c2' := kc bW hBlt c2
  rw [hfv] at hcall c0' c1' c2'
  clear c0 c1 c2 bW
  clear hS hj3 hw y0 p0 k0 y1 p1 b3 hY hJ hlen hj hbx
  obtain ⟨sa, sc, rfl, _, _⟩ := ha.slice
  clear ha
  refine callsIn_of_wp Try.func57 rfl trivial ?_ rfl
  simp only [Try.ntmps57, List.size_toArray, List.length_cons, List.length_nil, Nat.reduceAdd, Nat.reduceSub, Array.replicate_succ, Array.replicate_zero, List.push_toArray, List.append_toArray, List.nil_append, List.cons_append]
  gi_wp2_with fail
  refine ⟨trivial, fun h => (by cases h), hcall.mono ?_⟩
  rintro e W6 (⟨rfl, E6, pv6, hS6, hj6, hE6⟩ | ⟨rfl, E6, pre6, hx6⟩)
  · gi_wp2
    go_end0
    exact ⟨⟨_, rfl⟩, .inl ⟨E6, by simpa using hj6⟩⟩
  · gi_wp2
    go_end0
    exact ⟨⟨_, rfl⟩, .inr ⟨E6, pre6, hx6⟩⟩

/-- term.parts: the parameter is boxed; the function value captures the box. -/
theorem parts_any (t : T) (sl : Value) (w : World) :
    Calls Try.prog 32 #[tval t sl] w fun e w' => e = .returned (.func (.func 57) #[] #[.pointer (some ⟨w.heap.size, 0, none⟩)]) ∧ w' = w.alloc (tbox t sl) := by
  go_enter Try.func32, Try.ntmps32
  go_wp2
  go_ret
  exact ⟨rfl, rfl⟩

end Go.Proofs.Ytbbfpllffcfmhaa
