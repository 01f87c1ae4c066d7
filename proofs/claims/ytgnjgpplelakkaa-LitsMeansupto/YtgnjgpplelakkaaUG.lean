import Derived.Test.YtgnjgpplelakkaaUE
import Derived.Test.YtgnjgpplelakkaaSF
import Derived.Laws.EntriesVeiled

/-
  subst.numbers, whole, at one term of the right shape.
-/
namespace Go.Proofs.Ytgnjgpplelakkaa
open Go.RowKit Go.Shelf

attribute [local go_sem] Oper.semAt_some

set_option maxRecDepth 100000 in
set_option maxHeartbeats 2000000 in
theorem walkn_var (w0 : World) (l Y Wb : Nat) (all : List Int) (J Jx : List Nat → List Int → World → Prop) (hJ : Abide J) (hY : YieldsN l w0 all J Jx) (p : T) (h0 : p.fn.size = 0) (ha0 : p.args = []) : WalkN w0 l Y Wb all J Jx p := by
  intro m sl W E pre hS hj ha hrest
  have hvs : p.vs = [p.v] := by rw [p.vs_eq, if_pos h0, ha0]; rfl
  rw [hvs] at hrest ⊢
  have hal : p.args.length = 0 := by rw [ha0]; rfl
  obtain ⟨a, c, rfl, hc, hm⟩ := ha.slice
  rw [hal]
  obtain ⟨rest, hrest⟩ := hrest
  have hS1 := (hS.alloc (tbox p (.slice a 0 c))).more (E' := W.heap.size :: E) (fun r hr => by simp [hr])
  have hj1 := own_new hJ hj (tbox p (.slice a 0 c))
  have hy := hY _ pre p.v _ hj1 hS1.bel ⟨rest, by rw [← hrest]; simp⟩ (m - 1)
  have hdd : p.fn.toList.isEmpty = true := by rw [ba_isEmpty]; exact decide_eq_true h0
  obtain ⟨t0, t1, t2⟩ := tbox_cells W p (.slice a 0 c)
  have cy := hS1.y.cell
  obtain ⟨fn, tmps, assign, body, hyr, hR⟩ := hy
  have HS1 : Hid (ItN w0 l Y Wb (W.heap.size :: E) (W.alloc (tbox p (.slice a 0 c)))) := hS1
  clear h0 hS hj hvs ha hS1 hj1 hal ha0 hc
  refine callsIn_of_wp Try.func115 rfl trivial ?_ rfl
  simp only [Try.ntmps115, List.size_toArray, List.length_cons, List.length_nil, Nat.reduceAdd, Nat.reduceSub, Array.replicate_succ, Array.replicate_zero, List.push_toArray, List.append_toArray, List.nil_append, List.cons_append]
  gi_wp2_with fail
  refine ⟨fun h => (by cases h), ?_⟩
  refine hR.mono ?_
  clear hR
  rintro e W2 (⟨rfl, hj2, hk2⟩ | ⟨rfl, hx⟩)
  · have hbox : W2.heap[W.heap.size]? = some (.cells [Value.int .i64 p.v, .string p.fn, .slice a 0 c].toArray 26 (0, 0)) := (hk2.mine _ (by simp)).trans (MapKept.heap_alloc W _).1
    have b2 : W2.cell? ⟨W.heap.size, 2, none⟩ = some (.slice a 0 c) := by rw [cell_of_row _ _ _ _ 26 (0, 0) hbox]; rfl
    have HF : Hid (ItN w0 l Y Wb (W.heap.size :: E) W2 ∧ J (W.heap.size :: E) (pre ++ [p.v]) W2 ∧ (∀ r ∈ E, r ∈ W.heap.size :: E)) := ⟨HS1.out.kept hk2, hj2, fun r hr => by simp [hr]⟩
    clear hyr cy t0 t1 t2 hk2 hbox hj2
    gi_wp2
    gi_loopw [20] (fun i wr => i = .int .i64 0 ∧ wr = W2) (fun i _ => 0)
    case atStart => exact ⟨rfl, rfl⟩
    case round =>
      obtain ⟨rfl, rfl⟩ := hrel
      gi_wp2
      go_ret
      exact .inl ⟨rfl, _, HF.out⟩
  · gi_wp2
    go_ret
    exact .inr ⟨rfl, _, _, hx⟩

theorem walkn_any (w0 : World) (l Y Wb : Nat) (all : List Int) (J Jx : List Nat → List Int → World → Prop) (hJ : Abide J) (hY : YieldsN l w0 all J Jx) (p : T) : p.shape = true → WalkN w0 l Y Wb all J Jx p := by
  induction p using T.ind with
  | _ p ih =>
    intro hs
    rw [T.shape_eq] at hs
    by_cases h0 : p.fn.size = 0
    · rw [if_pos h0] at hs
      simp only [Bool.and_eq_true, decide_eq_true_eq] at hs
      exact walkn_var w0 l Y Wb all J Jx hJ hY p h0 (List.eq_nil_of_length_eq_zero hs.2)
    · rw [if_neg h0] at hs
      simp only [Bool.and_eq_true, decide_eq_true_eq, List.all_eq_true] at hs
      exact walkn_fn w0 l Y Wb all J Jx hJ p (fun a ha => ih a ha (hs.2 a ha)) h0

end Go.Proofs.Ytgnjgpplelakkaa

/-
  subst.numbers: the iterator.
-/
namespace Go.Proofs.Ytgnjgpplelakkaa
open Go.RowKit Go.Shelf

attribute [local go_sem] Oper.semAt_some

set_option maxRecDepth 100000 in
set_option maxHeartbeats 2000000 in
theorem itern_any (w0 : World) (Bl Bt : Nat) (t : T) (sl : Value) (W : World) (hb : Below w0.heap.size w0 W) (hbl : W.cell? ⟨Bl, 0, none⟩ = some (.slice (some ⟨Bt, 0, none⟩) 1 1)) (hbx : W.heap[Bt]? = some (.cells [Value.int .i64 t.v, .string t.fn, sl].toArray 26 (0, 0))) (ha : ArgsAt w0 sl t.args) (hsh : t.shape = true) :
    IterN 114 #[.pointer (some ⟨Bl, 0, none⟩)] w0 t.vs W := by
  intro m l J Jx hJ hY hj
  have hw := walkn_any w0 l W.heap.size (W.heap.size + 1) t.vs J Jx hJ hY t hsh
  have c0 : W.cell? ⟨Bt, 0, none⟩ = some (.int .i64 t.v) := by rw [cell_of_row _ _ _ _ 26 (0, 0) hbx]; rfl
  have c1 : W.cell? ⟨Bt, 1, none⟩ = some (.string t.fn) := by rw [cell_of_row _ _ _ _ 26 (0, 0) hbx]; rfl
  have c2 : W.cell? ⟨Bt, 2, none⟩ = some sl := by rw [cell_of_row _ _ _ _ 26 (0, 0) hbx]; rfl
  have hBlt : Bt < W.heap.size := (Array.getElem?_eq_some_iff.1 hbx).1
  have hLlt : Bl < W.heap.size := World.block_lt_of_cell? _ _ hbl
  obtain ⟨fv, hfv⟩ : ∃ fv : Value, fv = .func (.func 115) #[] #[.pointer (some ⟨W.heap.size, 0, none⟩), .pointer (some ⟨W.heap.size + 1, 0, none⟩)] := ⟨_, rfl⟩
  have y0 := Boxed.new W 120 (.func (.yield l) #[] #[])
  have k0 := Boxed.new (W.alloc (.cells #[.func (.yield l) #[] #[]] 120)) 76 fv
  rw [World.size_alloc] at k0
  have y1 := y0.alloc (.cells #[fv] 76)
  have b3 : Below w0.heap.size W ((W.alloc (.cells #[.func (.yield l) #[] #[]] 120)).alloc (.cells #[fv] 76)) := ((Below.refl _ _).alloc hb.size _).alloc (by have := hb.size; simp; omega) _
  have hS : ItN w0 l W.heap.size (W.heap.size + 1) [W.heap.size, W.heap.size + 1] ((W.alloc (.cells #[.func (.yield l) #[] #[]] 120)).alloc (.cells #[fv] 76)) :=
    { y := y1, k := hfv ▸ k0, my := by simp, mw := by simp, bel := hb.trans b3 }
  have hj3 : J [W.heap.size, W.heap.size + 1] [] ((W.alloc (.cells #[.func (.yield l) #[] #[]] 120)).alloc (.cells #[fv] 76)) := by
    have g13 : W.grownBy ((W.alloc (.cells #[.func (.yield l) #[] #[]] 120)).alloc (.cells #[fv] 76)) none := ⟨rfl, rfl, rfl, by simp; omega, fun i hi _ => by rw [Below.heap_alloc _ _ _ (by simp; omega), Below.heap_alloc _ _ _ hi]⟩
    exact hJ _ _ _ _ _ _ hj g13 (fun _ e => by cases e) (fun r hr => .inr (by simp at hr ⊢; omega))
  have bW : Below W.heap.size W ((W.alloc (.cells #[.func (.yield l) #[] #[]] 120)).alloc (.cells #[fv] 76)) := ((Below.refl _ _).alloc (Nat.le_refl _) _).alloc (by simp) _
  have c0' := kc bW hBlt c0
  have c1' := kc bW hBlt c1
  have c2' := kc bW hBlt c2
  have cl' := kc bW hLlt hbl
  have hS4 := hS.alloc (tbox t sl)
  have hj4 : J [W.heap.size, W.heap.size + 1] [] (((W.alloc (.cells #[.func (.yield l) #[] #[]] 120)).alloc (.cells #[fv] 76)).alloc (tbox t sl)) := hJ _ _ _ _ _ _ hj3 (World.grownBy_alloc _ _ none) (fun _ e => by cases e) (fun r hr => .inl hr)
  have hcall := hw (m - 1) sl _ _ [] hS4 hj4 ha ⟨[], by simp⟩
  have ck := hS4.k.cell
  obtain ⟨u0, u1, u2⟩ := tbox_cells ((W.alloc (.cells #[.func (.yield l) #[] #[]] 120)).alloc (.cells #[fv] 76)) t sl
  rw [hfv] at hcall c0' c1' c2' cl' ck u0 u1 u2
  clear c0 c1 c2 bW hS hj3 hw y0 k0 y1 b3 hY hj hbx hS4 hj4 hbl hfv
  obtain ⟨sa, sc, rfl, _, _⟩ := ha.slice
  clear ha
  refine callsIn_of_wp Try.func114 rfl trivial ?_ rfl
  simp only [Try.ntmps114, List.size_toArray, List.length_cons, List.length_nil, Nat.reduceAdd, Nat.reduceSub, Array.replicate_succ, Array.replicate_zero, List.push_toArray, List.append_toArray, List.nil_append, List.cons_append]
  gi_wp2
  obtain ⟨W3, hW3⟩ : ∃ W3, (W.alloc (.cells #[.func (.yield l) #[] #[]] 120)).alloc (.cells #[.func (.func 115) #[] #[.pointer (some ⟨W.heap.size, 0, none⟩), .pointer (some ⟨W.heap.size + 1, 0, none⟩)]] 76) = W3 := ⟨_, rfl⟩
  simp only [hW3] at *
  gi_loopw [9] (fun i wr => (i = .int .i64 0 ∧ wr = W3) ∨ (i = .int .i64 1 ∧ Hid (∃ E, J E t.vs wr))) (fun i _ => 1 - (intOf i).toNat)
  case atStart => exact .inl ⟨rfl, rfl⟩
  case round =>
    rcases hrel with ⟨rfl, rfl⟩ | ⟨rfl, hE⟩
    · gi_wp2_with fail
      refine ⟨trivial, fun h => (by cases h), hcall.mono ?_⟩
      rintro e W6 (⟨rfl, E6, hS6, hj6, hE6⟩ | ⟨rfl, E6, pre6, hx6⟩)
      · gi_wp2
        refine ⟨.inr ⟨by go_num, E6, by simpa using hj6⟩, by simp [intOf]⟩
      · gi_wp2
        refine bodyPost_ret (results_none rfl _ _ _) rfl ?_
        exact ⟨⟨_, rfl⟩, .inr ⟨E6, pre6, hx6⟩⟩
    · have HE : Hid (∃ E, J E t.vs wr) := hE
      clear hE
      gi_wp2
      refine bodyPost_end (results_none rfl _ _ _) rfl ?_
      exact ⟨⟨_, rfl⟩, .inl HE.out⟩

end Go.Proofs.Ytgnjgpplelakkaa
