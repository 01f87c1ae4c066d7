import Derived.Test.YthkinkcpfcpehaaGreatDoorHS
namespace Go.Proofs.YthkinkcpfcpehaaGreatDoor
set_option maxRecDepth 100000
open Go.RowKit Go.Maps
open Lx (agg_store wpList_store_run row_block row_keep row_slice)
structure KBx (w1 : World) (rb M R O : Nat) (k : Int) (nm : ByteArray) (l r : T) (sl sr : Value) (zs : List Pc) (v : Value) (Z : World) : Prop where
  res : Z.heap[R]? = some zbox
  out : Z.heap[O]? = some (.cells #[.int .i64 k, .string nm, .int .i64 l.v, .string l.fn, sl, .int .i64 r.v, .string r.fn, sr, v] 27 (0, 0))
  row : Z.ownsRow (O + 1) 27 9 v zs.length (flP zs)
  al : ArgsP (fun j => R < j ∧ j ≠ O ∧ v.ownBlock ≠ some j) Z sl l.args
  ar : ArgsP (fun j => R < j ∧ j ≠ O ∧ v.ownBlock ≠ some j) Z sr r.args
  kids : ∀ x ∈ zs, FmP (fun j => O < j ∧ v.ownBlock ≠ some j) Z x.f x.sl x.sr x.sk
  RO : R < O
  rM : rb < R ∧ M < R
  on : Only [rb, M] w1 Z
  wR : w1.heap.size = R
section
variable {w1 : World} {rb M R O : Nat} {k : Int} {nm : ByteArray} {l r : T} {sl sr : Value} {zs : List Pc} {v : Value} {Z : World}
theorem KBx.lt (h : KBx w1 rb M R O k nm l r sl sr zs v Z) : O < Z.heap.size := (Array.getElem?_eq_some_iff.1 h.out).1
theorem KBx.step {Z' : World} (h : KBx w1 rb M R O k nm l r sl sr zs v Z) (ho : Only [rb, M] Z Z') : KBx w1 rb M R O k nm l r sl sr zs v Z' := by
  have h1 := h.rM
  have h2 := h.RO
  have h3 := h.lt
  have same : ∀ j, j < Z.heap.size → R ≤ j → Z'.heap[j]? = Z.heap[j]? := fun j hj hR => ho.block j hj (by simp; omega)
  refine ⟨(same R (by omega) (Nat.le_refl _)).trans h.res, (same O h3 (by omega)).trans h.out, row_keep h.row (fun g hg => ?_), h.al.keep ho.size (fun j hj hl => ⟨hj, same j hl (by omega)⟩), h.ar.keep ho.size (fun j hj hl => ⟨hj, same j hl (by omega)⟩), fun x hx => (h.kids x hx).keep ho.size (fun j hj hl => ⟨hj, same j hl (by omega)⟩), h2, h1, h.on.trans ho (fun r hr => .inl hr), h.wR⟩
  obtain ⟨q1, cu, hcu⟩ := row_block h.row hg
  exact same g (Array.getElem?_eq_some_iff.1 hcu).1 (by omega)
theorem KBx.cells (h : KBx w1 rb M R O k nm l r sl sr zs v Z) : Z.cell? ⟨O, 0, none⟩ = some (.int .i64 k) ∧ Z.cell? ⟨O, 1, none⟩ = some (.string nm) ∧ Z.cell? ⟨O, 2, none⟩ = some (.int .i64 l.v) ∧ Z.cell? ⟨O, 3, none⟩ = some (.string l.fn) ∧ Z.cell? ⟨O, 4, none⟩ = some sl ∧ Z.cell? ⟨O, 5, none⟩ = some (.int .i64 r.v) ∧ Z.cell? ⟨O, 6, none⟩ = some (.string r.fn) ∧ Z.cell? ⟨O, 7, none⟩ = some sr ∧ Z.cell? ⟨O, 8, none⟩ = some v :=
  ⟨cell_store (vs := [_, _, _, _, _, _, _, _, _]) h.out rfl, cell_store (vs := [_, _, _, _, _, _, _, _, _]) h.out rfl, cell_store (vs := [_, _, _, _, _, _, _, _, _]) h.out rfl, cell_store (vs := [_, _, _, _, _, _, _, _, _]) h.out rfl, cell_store (vs := [_, _, _, _, _, _, _, _, _]) h.out rfl, cell_store (vs := [_, _, _, _, _, _, _, _, _]) h.out rfl, cell_store (vs := [_, _, _, _, _, _, _, _, _]) h.out rfl, cell_store (vs := [_, _, _, _, _, _, _, _, _]) h.out rfl, cell_store (vs := [_, _, _, _, _, _, _, _, _]) h.out rfl⟩
/-- The parts are stored into a new box. -/
theorem KBx.made {X : World} (hR : X.heap[R]? = some zbox) (hO : X.heap[O]? = some zbox) (hal : ArgsP (fun j => R < j ∧ j ≠ O) X sl l.args) (har : ArgsP (fun j => R < j ∧ j ≠ O) X sr r.args) (hRO : R < O) (hrM : rb < R ∧ M < R) (hon : Only [rb, M] w1 X) (hw : w1.heap.size = R) :
    ∃ Y, (Instr.storeAt 27 (.pointer (some ⟨O, 0, none⟩)) (fval (.mk k e0 l r []) sl sr (.slice none 0 0))).run Tryz.prog X = .ok () Y ∧ Only [O] X Y ∧ Hid (KBx w1 rb M R O k e0 l r sl sr [] (.slice none 0 0) Y) := by
  obtain ⟨Y, h1, h2, h3⟩ := f_store (f := .mk k e0 l r []) (P := fun j => R < j ∧ j ≠ O) rfl hO rfl ⟨hal, har, KidsP.nil _ _⟩
  refine ⟨Y, h1, h3, ?_⟩
  refine ⟨(h3.block R (Array.getElem?_eq_some_iff.1 hR).1 (by simp; omega)).trans hR, h2, World.ownsRow_nil _ _ _ _, hal.keep h3.size (fun j hj hl => ⟨⟨hj.1, hj.2, by simp [Value.ownBlock]⟩, h3.block j hl (by simpa using hj.2)⟩), har.keep h3.size (fun j hj hl => ⟨⟨hj.1, hj.2, by simp [Value.ownBlock]⟩, h3.block j hl (by simpa using hj.2)⟩), by simp, hRO, hrM, hon.trans h3 (fun x hx => .inr (by simp at hx; omega)), hw⟩
/-- It has a name. -/
theorem KBx.named (h : KBx w1 rb M R O k nm l r sl sr [] (.slice none 0 0) Z) (nm' : ByteArray) : KBx w1 rb M R O k nm' l r sl sr [] (.slice none 0 0) (Z.setCell ⟨O, 1, none⟩ (.string nm')) ∧ Only [O] Z (Z.setCell ⟨O, 1, none⟩ (.string nm')) := by
  have h2 := h.RO
  have hw := h.wR
  have ho := only_cell (Below.refl _ Z) O 1 (.string nm')
  have e1 := heap_setCell_same Z O 1 _ 27 (.string nm') h.out
  have same : ∀ j, j ≠ O → (Z.setCell ⟨O, 1, none⟩ (.string nm')).heap[j]? = Z.heap[j]? := fun j hj => Below.heap_setCell _ _ _ j hj
  refine ⟨⟨(same R (by omega)).trans h.res, by simpa using e1, World.ownsRow_nil _ _ _ _, h.al.keep ho.size (fun j hj _ => ⟨hj, same j hj.2.1⟩), h.ar.keep ho.size (fun j hj _ => ⟨hj, same j hj.2.1⟩), by simp, h2, h.rM, h.on.trans ho (fun x hx => .inr (by simp at hx; omega)), hw⟩, ho⟩
/-- One more kid is laid into the row. -/
theorem KBx.push (h : KBx w1 rb M R O k nm l r sl sr zs v Z) {v' : Value} {w6 X : World} {x : Pc} {m : Nat} (hm : O < m) (hvm : ∀ g, v.ownBlock = some g → g < m) (ha : FmP (fun k => m ≤ k) Z x.f x.sl x.sr x.sk) (hrow : w6.ownsRow (O + 1) 27 9 v' (zs.length + 1) (flP zs ++ fcells x.f x.sl x.sr x.sk)) (hX : Below Z.heap.size Z X) (hg : X.grownBy w6 v.ownBlock) (hat : v'.ownBlock = v.ownBlock ∨ v'.ownBlock = some X.heap.size) :
    KBx w1 rb M R O k nm l r sl sr (zs ++ [x]) v' (w6.setCell ⟨O, 8, none⟩ v') ∧ Only (O :: v.ownBlock.toList) Z (w6.setCell ⟨O, 8, none⟩ v') ∧ w6.cell? ⟨O, 8, none⟩ = some v ∧ w6.frozen? ⟨O, 8, none⟩ = false := by
  have hRO := h.RO
  have hOl := h.lt
  have hvO : ∀ g, v.ownBlock = some g → O + 1 ≤ g ∧ g < Z.heap.size := fun g hg => by
    obtain ⟨h1, cu, hcu⟩ := row_block h.row hg
    exact ⟨h1, (Array.getElem?_eq_some_iff.1 hcu).1⟩
  have same : ∀ k, k < Z.heap.size → k ≠ O → v.ownBlock ≠ some k → (w6.setCell ⟨O, 8, none⟩ v').heap[k]? = Z.heap[k]? := fun k hk h1 h2 =>
    (Below.heap_setCell _ _ _ k h1).trans ((hg.block k (Nat.lt_of_lt_of_le hk hX.size) (fun e => h2 e.symm)).trans (hX.block k hk))
  have hO6 := (hg.block O (Nat.lt_of_lt_of_le hOl hX.size) (fun e => by have := (hvO O e.symm).1; omega)).trans ((hX.block O hOl).trans h.out)
  have hO7 := heap_setCell_same w6 O 8 _ 27 v' hO6
  have hsz : Z.heap.size ≤ (w6.setCell ⟨O, 8, none⟩ v').heap.size := by have := hX.size; have := hg.size; simp; omega
  have hon : Only (O :: v.ownBlock.toList) Z (w6.setCell ⟨O, 8, none⟩ v') :=
    ⟨hg.os.trans hX.os, hg.tape.trans hX.tape, hg.output.trans hX.output, hsz, fun k hk hn => same k hk (fun e => hn (by rw [e]; simp)) (fun e => hn (by rw [e]; simp))⟩
  have hv' : ∀ g, v'.ownBlock = some g → O + 1 ≤ g := fun g hg' => (row_block hrow hg').1
  have keepP : ∀ j, j < Z.heap.size → v.ownBlock ≠ some j → v'.ownBlock ≠ some j := fun j hj h2 e => by
    rcases hat with h1 | h1
    · exact h2 (h1 ▸ e)
    · rw [h1] at e; have := Option.some.inj e; have := hX.size; omega
  refine ⟨⟨(same R (Nat.lt_trans hRO hOl) (by omega) (fun e => by have := (hvO R e).1; omega)).trans h.res, by simpa using hO7, ?_, ?_, ?_, ?_, hRO, h.rM, ?_, h.wR⟩, hon, cell_store (vs := [_, _, _, _, _, _, _, _, _]) hO6 rfl, frozen_cells hO6⟩
  · rw [flP_snoc, List.length_append]
    exact row_keep hrow (fun g hg' => Below.heap_setCell _ _ _ g (by have := hv' g hg'; show g ≠ O; omega))
  · exact h.al.keep hsz fun j hj hl => ⟨⟨hj.1, hj.2.1, keepP j hl hj.2.2⟩, same j hl hj.2.1 hj.2.2⟩
  · exact h.ar.keep hsz fun j hj hl => ⟨⟨hj.1, hj.2.1, keepP j hl hj.2.2⟩, same j hl hj.2.1 hj.2.2⟩
  · intro p hp
    rcases List.mem_append.1 hp with hp | hp
    · exact (h.kids p hp).keep hsz fun j hj hl => ⟨⟨hj.1, keepP j hl hj.2⟩, same j hl (by have := hj.1; omega) hj.2⟩
    · simp only [List.mem_singleton] at hp
      subst hp
      exact ha.keep hsz fun j hj hl => ⟨⟨by omega, keepP j hl (fun e => by have := hvm j e; omega)⟩, same j hl (by omega) (fun e => by have := hvm j e; omega)⟩
  · exact h.on.trans hon (fun x hx => .inr (by
      have hw := h.wR
      simp only [List.mem_cons, Option.mem_toList] at hx
      rcases hx with rfl | hx
      · omega
      · have := (hvO x hx).1; omega))
/-- The whole formula is stored for the answer. -/
theorem KBx.fin (h : KBx w1 rb M R O k nm l r sl sr zs v Z) :
    ∃ V, (Instr.storeAt 27 (.pointer (some ⟨R, 0, none⟩)) (fval (.mk k nm l r (zs.map Pc.f)) sl sr v)).run Tryz.prog Z = .ok () V ∧ V.heap[R]? = some (fbox (.mk k nm l r (zs.map Pc.f)) sl sr v) ∧ FmP (fun j => R < j) V (.mk k nm l r (zs.map Pc.f)) sl sr v ∧ Only [R] Z V := by
  have hRO := h.RO
  have hks : KidsP (fun j => R < j) Z v (zs.map Pc.f) := kidsP_of_row h.row (fun g hg => by have := (row_block h.row hg).1; omega) (fun x hx => (h.kids x hx).keep (Nat.le_refl _) (fun j hj _ => ⟨by have := hj.1; omega, rfl⟩))
  obtain ⟨V, h1, h2, h3⟩ := f_store (f := .mk k nm l r (zs.map Pc.f)) (P := fun j => R < j) (X := Z) rfl h.res rfl ⟨h.al.keep (Nat.le_refl _) (fun j hj _ => ⟨hj.1, rfl⟩), h.ar.keep (Nat.le_refl _) (fun j hj _ => ⟨hj.1, rfl⟩), hks⟩
  have hne : ∀ j, R < j → j ∉ [R] := fun j hj => by simp; omega
  exact ⟨V, h1, h2, ⟨h.al.keep h3.size (fun j hj hl => ⟨hj.1, h3.block j hl (hne j hj.1)⟩), h.ar.keep h3.size (fun j hj hl => ⟨hj.1, h3.block j hl (hne j hj.1)⟩), hks.keep h3.size (fun j hj hl => ⟨hj, h3.block j hl (hne j hj)⟩)⟩, h3⟩
end
