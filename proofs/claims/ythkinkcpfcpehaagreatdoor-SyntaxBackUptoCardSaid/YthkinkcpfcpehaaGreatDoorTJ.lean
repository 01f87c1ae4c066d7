import Derived.Test.YthkinkcpfcpehaaGreatDoorTH
import Derived.RangeFuncBox
import Derived.Maps.AppendAt
import Derived.Laws.EntriesVeiled
namespace Go.Proofs.YthkinkcpfcpehaaGreatDoor
set_option maxRecDepth 100000
set_option maxHeartbeats 2000000
section
open Go.RowKit Go.Shelf
attribute [local go_sem] Oper.semAt_some
/-- The parts of a term with their places, from a place on. -/
def T.parts : T → List Int → List Part
  | .mk v fn args, pl => (pl, .mk v fn args) :: kids args pl 0
where kids : List T → List Int → Nat → List Part
  | [], _, _ => []
  | a :: r, pl, i => T.parts a (pl ++ [(i : Int)]) ++ kids r pl (i + 1)
theorem T.parts_eq (t : T) (pl : List Int) : t.parts pl = (pl, t) :: T.parts.kids t.args pl 0 := by
  cases t
  simp only [T.parts, T.args]
/-- The parts of the first k arguments. -/
def kidsTo (l : List T) (pl : List Int) : Nat → List Part
  | 0 => []
  | k + 1 => kidsTo l pl k ++ (match l[k]? with | some a => a.parts (pl ++ [(k : Int)]) | none => [])
theorem kidsTo_succ (l : List T) (pl : List Int) (k : Nat) (h : k < l.length) : kidsTo l pl (k + 1) = kidsTo l pl k ++ l[k].parts (pl ++ [(k : Int)]) := by
  simp [kidsTo, List.getElem?_eq_getElem h]
theorem kids_drop (l : List T) (pl : List Int) (k : Nat) (h : k < l.length) : T.parts.kids (l.drop k) pl k = l[k].parts (pl ++ [(k : Int)]) ++ T.parts.kids (l.drop (k + 1)) pl (k + 1) := by
  rw [List.drop_eq_getElem_cons h]
  simp only [T.parts.kids]
theorem kids_split (l : List T) (pl : List Int) : ∀ k, k ≤ l.length → T.parts.kids l pl 0 = kidsTo l pl k ++ T.parts.kids (l.drop k) pl k
  | 0, _ => by simp [kidsTo]
  | k + 1, h => by
    rw [kids_split l pl k (by omega), kids_drop l pl k (by omega), kidsTo_succ l pl k (by omega), List.append_assoc]
theorem kids_all (l : List T) (pl : List Int) (k : Nat) (h : k = l.length) : T.parts.kids l pl 0 = kidsTo l pl k := by
  have := kids_split l pl k (by omega)
  rw [h, List.drop_of_length_le (Nat.le_refl _)] at this
  rw [h, this]
  simp [T.parts.kids]
theorem PlaceV.mono {n : Nat} {E E' : List Nat} {W : World} {pv : Value} {pl : List Int} (h : PlaceV n E W pv pl) (hE : ∀ r ∈ E, r ∈ E') : PlaceV n E' W pv pl := ⟨h.1, fun g hg => hE g (h.2 g hg)⟩
theorem PlaceV.kept {m n : Nat} {E : List Nat} {W W' : World} {pv : Value} {pl : List Int} (h : PlaceV n E W pv pl) (hk : Kept m E W W') : PlaceV n E W' pv pl := by
  refine ⟨?_, h.2⟩
  obtain ⟨h1, h2⟩ := h.1
  refine ⟨h1, ?_⟩
  rcases h2 with h2 | ⟨g, cap, cur, rfl, hb, hg, r⟩
  · exact .inl h2
  · exact .inr ⟨g, cap, cur, rfl, hb, (hk.mine g (h.2 g rfl)).trans hg, r⟩
theorem PlaceV.grown {n : Nat} {E : List Nat} {W W' : World} {row : Option Nat} {pv : Value} {pl : List Int} (h : PlaceV n E W pv pl) (hg : W.grownBy W' row) (hne : pv.ownBlock = none ∨ pv.ownBlock ≠ row) : PlaceV n E W' pv pl := ⟨h.1.kept hg hne, h.2⟩
/-- What lies in the iterator's blocks. -/
structure ItS (w0 : World) (n l Y Pb Wb : Nat) (E : List Nat) (pl : List Int) (pv : Value) (W : World) : Prop where
  y : Boxed W Y 150 (.func (.yield l) #[] #[])
  p : Boxed W Pb 127 pv
  k : Boxed W Wb 119 (.func (.func 126) #[] #[.pointer (some ⟨Y, 0, none⟩), .pointer (some ⟨Pb, 0, none⟩), .pointer (some ⟨Wb, 0, none⟩)])
  my : Y ∈ E
  mp : Pb ∈ E
  mw : Wb ∈ E
  ny : Y ≠ Pb
  nk : Wb ≠ Pb
  place : PlaceV n E W pv pl
  bel : Below w0.heap.size w0 W
  lp : w0.heap.size ≤ Pb
  ln : w0.heap.size ≤ n
  hn : n ≤ W.heap.size
section
variable {w0 : World} {n l Y Pb Wb : Nat} {E : List Nat} {pl : List Int} {pv : Value} {W W' : World}
theorem ItS.kept (h : ItS w0 n l Y Pb Wb E pl pv W) (hk : Kept w0.heap.size E W W') : ItS w0 n l Y Pb Wb E pl pv W' :=
  { h with y := (hk.mine Y h.my).trans h.y, p := (hk.mine Pb h.mp).trans h.p, k := (hk.mine Wb h.mw).trans h.k, place := h.place.kept hk, bel := h.bel.trans hk.below, hn := Nat.le_trans h.hn hk.below.size }
theorem ItS.alloc (h : ItS w0 n l Y Pb Wb E pl pv W) (o : Obj) : ItS w0 n l Y Pb Wb E pl pv (W.alloc o) :=
  { h with y := h.y.alloc o, p := h.p.alloc o, k := h.k.alloc o, place := h.place.grown (World.grownBy_alloc W o none) (by cases pv.ownBlock <;> simp), bel := h.bel.alloc h.bel.size _, hn := by have := h.hn; simp; omega }
theorem ItS.more (h : ItS w0 n l Y Pb Wb E pl pv W) {E' : List Nat} (hE : ∀ r ∈ E, r ∈ E') : ItS w0 n l Y Pb Wb E' pl pv W :=
  { h with my := hE _ h.my, mp := hE _ h.mp, mw := hE _ h.mw, place := h.place.mono hE }
theorem ItS.not_row (h : ItS w0 n l Y Pb Wb E pl pv W) : some Y ≠ pv.ownBlock ∧ some Pb ≠ pv.ownBlock ∧ some Wb ≠ pv.ownBlock :=
  ⟨h.y.not_row (by decide) h.place.1, h.p.not_row (by decide) h.place.1, h.k.not_row (by decide) h.place.1⟩
/-- Behind the append and the store of the longer place. -/
theorem ItS.push (h : ItS w0 n l Y Pb Wb E pl pv W) (k : Int) (v' : Value) (w1 : World) (hown : w1.ownsRow n 3 1 v' (pl.length + 1) ((pl.map fun x => Value.int .i64 x) ++ [.int .i64 k])) (hg : W.grownBy w1 pv.ownBlock) (_hat : v'.ownBlock = pv.ownBlock ∨ v'.ownBlock = some W.heap.size) :
    ItS w0 n l Y Pb Wb (v'.ownBlock.toList ++ E) (pl ++ [k]) v' (w1.setCell ⟨Pb, 0, none⟩ v') ∧ W.grownBy w1 pv.ownBlock ∧ w1.grownBy (w1.setCell ⟨Pb, 0, none⟩ v') (some Pb) := by
  obtain ⟨n1, n2, n3⟩ := h.not_row
  have y1 := h.y.kept hg n1
  have p1 := h.p.kept hg n2
  have k1 := h.k.kept hg n3
  have g2 := grownBy_setCell' w1 Pb v'
  have hE : ∀ r ∈ E, r ∈ v'.ownBlock.toList ++ E := fun r hr => List.mem_append_right _ hr
  have b1 : Below w0.heap.size W w1 := by
    refine ⟨hg.os, hg.tape, hg.output, hg.size, fun i hi => hg.block i (Nat.lt_of_lt_of_le hi h.bel.size) fun e => ?_⟩
    have := (h.place.1.lt i e.symm).1
    have := h.ln
    omega
  have b2 : Below w0.heap.size w1 (w1.setCell ⟨Pb, 0, none⟩ v') := (Below.refl _ _).setCell (p := ⟨Pb, 0, none⟩) h.lp _
  have hne : v'.ownBlock = none ∨ v'.ownBlock ≠ some Pb := .inr fun e => p1.not_row (by decide : (127 : Nat) ≠ 3) hown e.symm
  refine ⟨{ y := y1.kept g2 (fun e => h.ny (Option.some.inj e)), p := p1.set v', k := k1.kept g2 (fun e => h.nk (Option.some.inj e)), my := hE _ h.my, mp := hE _ h.mp, mw := hE _ h.mw, ny := h.ny, nk := h.nk, place := ⟨?_, fun g e => ?_⟩, bel := h.bel.trans (b1.trans b2), lp := h.lp, ln := h.ln, hn := ?_ }, hg, g2⟩
  · have := hown.kept g2 hne
    simpa using this
  · simp [e]
  · have := h.hn
    have := hg.size
    have := g2.size
    omega
/-- Behind the cut of the place, stored. -/
theorem ItS.pop (k : Int) {g cap : Nat} (h : ItS w0 n l Y Pb Wb E (pl ++ [k]) (.slice (some ⟨g, 0, none⟩) (pl.length + 1) cap) W) :
    ItS w0 n l Y Pb Wb E pl (.slice (some ⟨g, 0, none⟩) pl.length cap) (W.setCell ⟨Pb, 0, none⟩ (.slice (some ⟨g, 0, none⟩) pl.length cap)) ∧ W.grownBy (W.setCell ⟨Pb, 0, none⟩ (.slice (some ⟨g, 0, none⟩) pl.length cap)) (some Pb) := by
  have g2 := grownBy_setCell' W Pb (.slice (some ⟨g, 0, none⟩) pl.length cap)
  have hne : (Value.slice (some ⟨g, 0, none⟩) pl.length cap).ownBlock = none ∨ (Value.slice (some ⟨g, 0, none⟩) pl.length cap).ownBlock ≠ some Pb := .inr fun e => h.p.not_row (by decide : (127 : Nat) ≠ 3) h.place.1 e.symm
  have hrow : W.ownsRow n 3 1 (.slice (some ⟨g, 0, none⟩) pl.length cap) pl.length (pl.map fun x => Value.int .i64 x) := by
    obtain ⟨h1, h2⟩ := h.place.1
    refine ⟨by simp, .inr ?_⟩
    rcases h2 with ⟨h2, _⟩ | ⟨g', cap', cur, he, hb, hg, hc, hm, hs, ht⟩
    · cases h2
    · injection he with e1 e2 e3
      cases e1
      subst e3
      refine ⟨g, cap, cur, rfl, hb, hg, by simp at hc; omega, hm, hs, ?_⟩
      have := congrArg (List.take (pl.length * 1)) ht
      rw [List.take_take] at this
      simpa [Nat.min_eq_left] using this
  refine ⟨{ h with y := h.y.kept g2 (fun e => h.ny (Option.some.inj e)), p := h.p.set _, k := h.k.kept g2 (fun e => h.nk (Option.some.inj e)), place := ⟨hrow.kept g2 hne, h.place.2⟩, bel := h.bel.trans ((Below.refl _ _).setCell (p := ⟨Pb, 0, none⟩) h.lp _), hn := Nat.le_trans h.hn g2.size }, g2⟩
theorem ItS.pushed {J : List Nat → List Part → World → Prop} (hJ : Abide J) (h : ItS w0 n l Y Pb Wb E pl pv W) {pre : List Part} (hj : J E pre W) (k : Int) (v' : Value) (w1 : World) (hown : w1.ownsRow n 3 1 v' (pl.length + 1) ((pl.map fun x => Value.int .i64 x) ++ [.int .i64 k])) (hg : W.grownBy w1 pv.ownBlock) (hat : v'.ownBlock = pv.ownBlock ∨ v'.ownBlock = some W.heap.size)
    {b : Nat} {x y z : Value} (hbx : W.heap[b]? = some (.cells [x, y, z].toArray 24 (0, 0))) :
    (w1.cell? ⟨Pb, 0, none⟩ = some pv ∧ w1.frozen? ⟨Pb, 0, none⟩ = false) ∧
    ((w1.setCell ⟨Pb, 0, none⟩ v').cell? ⟨b, 0, none⟩ = some x ∧ (w1.setCell ⟨Pb, 0, none⟩ v').cell? ⟨b, 1, none⟩ = some y ∧ (w1.setCell ⟨Pb, 0, none⟩ v').cell? ⟨b, 2, none⟩ = some z) ∧
    (w1.setCell ⟨Pb, 0, none⟩ v').cell? ⟨Wb, 0, none⟩ = some (.func (.func 126) #[] #[.pointer (some ⟨Y, 0, none⟩), .pointer (some ⟨Pb, 0, none⟩), .pointer (some ⟨Wb, 0, none⟩)]) ∧
    Hid (∃ E', ItS w0 n l Y Pb Wb E' (pl ++ [k]) v' (w1.setCell ⟨Pb, 0, none⟩ v') ∧ J E' pre (w1.setCell ⟨Pb, 0, none⟩ v') ∧ ∀ r ∈ E, r ∈ E') := by
  obtain ⟨hS, hg1, hg2⟩ := h.push k v' w1 hown hg hat
  obtain ⟨n1, n2, n3⟩ := h.not_row
  have p1 := h.p.kept hg n2
  have hlt : b < W.heap.size := (Array.getElem?_eq_some_iff.1 hbx).1
  have hb1 : some b ≠ pv.ownBlock := by
    intro e
    rcases h.place.1.2 with ⟨e2, _⟩ | ⟨g, cap, cur, e2, _, hgg, _⟩
    · rw [e2] at e
      cases e
    · rw [e2] at e
      cases e
      rw [hbx] at hgg
      cases hgg
  have hb2 : b ≠ Pb := by
    rintro rfl
    have := h.p
    unfold Boxed at this
    rw [hbx] at this
    cases this
  have hbx5 : (w1.setCell ⟨Pb, 0, none⟩ v').heap[b]? = some (.cells [x, y, z].toArray 24 (0, 0)) := ((hg2.block b (Nat.lt_of_lt_of_le hlt hg.size) (fun e => hb2 (Option.some.inj e))).trans (hg.block b hlt hb1)).trans hbx
  refine ⟨⟨p1.cell, p1.frozen⟩, ⟨?_, ?_, ?_⟩, hS.k.cell, _, hS, ?_, fun r hr => List.mem_append_right _ hr⟩
  · rw [cell_of_row _ _ _ _ 24 (0, 0) hbx5]; rfl
  · rw [cell_of_row _ _ _ _ 24 (0, 0) hbx5]; rfl
  · rw [cell_of_row _ _ _ _ 24 (0, 0) hbx5]; rfl
  · have j1 : J (v'.ownBlock.toList ++ E) pre w1 := hJ _ _ _ _ _ _ hj hg (fun r e => h.place.2 r e) (fun r hr => by
      rcases List.mem_append.1 hr with hr | hr
      · have e : v'.ownBlock = some r := by simpa using hr
        rcases hat with h1 | h1
        · exact .inl (h.place.2 r (h1 ▸ e))
        · have h2 := (hown.lt r e).2
          rw [h1] at e
          cases e
          exact .inr ⟨Nat.le_refl _, h2⟩
      · exact .inl hr)
    exact hJ _ _ _ _ _ _ j1 hg2 (fun r e => by cases e; exact List.mem_append_right _ h.mp) (fun r hr => .inl hr)
end
theorem Tryz.info3 : (Tryz.prog.info? 3).map (fun i => (i.zero, i.size, i.bytes)) = some (some (.int .i64 0), 1, 8) := by kernel_rfl
/-- What the closure walk does at p. -/
def WalkAt (w0 : World) (n l Y Pb Wb : Nat) (all : List Part) (J Jx : List Nat → List Part → World → Prop) (p : T) : Prop :=
  ∀ (m : Nat) (sl : Value) (W : World) (E : List Nat) (pre : List Part) (pl : List Int) (pv : Value), ItS w0 n l Y Pb Wb E pl pv W → J E pre W → ArgsAt w0 sl p.args → (∃ rest, pre ++ p.parts pl ++ rest = all) →
    CallsIn Fence.wide m Tryz.prog 126 #[tval p sl, .pointer (some ⟨Y, 0, none⟩), .pointer (some ⟨Pb, 0, none⟩), .pointer (some ⟨Wb, 0, none⟩)] W fun e W' =>
      (e = .returned (.bool true) ∧ ∃ E' pv', ItS w0 n l Y Pb Wb E' pl pv' W' ∧ J E' (pre ++ p.parts pl) W' ∧ (∀ r ∈ E, r ∈ E')) ∨ (e = .returned (.bool false) ∧ ∃ E' pre', Jx E' pre' W')
set_option maxRecDepth 100000 in
theorem walk_one (w0 : World) (n l Y Pb Wb : Nat) (all : List Part) (J Jx : List Nat → List Part → World → Prop) (hJ : Abide J) (hY : Yields n l w0 all J Jx) (hlen : ∀ q ∈ all, q.1.length ≤ 1048576) (p : T)
    (ih : ∀ a ∈ p.args, WalkAt w0 n l Y Pb Wb all J Jx a) : WalkAt w0 n l Y Pb Wb all J Jx p := by
  intro m sl W E pre pl pv hS hj ha hrest
  obtain ⟨a, c, rfl, hc, hm⟩ := ha.slice
  -- the box of the parameter becomes the iterator's
  have hS1 := (hS.alloc (tbox p (.slice a p.args.length c))).more (E' := W.heap.size :: E) (fun r hr => by simp [hr])
  have hj1 : J (W.heap.size :: E) pre (W.alloc (tbox p (.slice a p.args.length c))) := hJ _ _ _ _ _ _ hj (World.grownBy_alloc W _ none) (fun _ e => by cases e) (fun r hr => by rcases List.mem_cons.1 hr with rfl | h; exact .inr ⟨Nat.le_refl _, by simp⟩; exact .inl h)
  obtain ⟨rest, hrest⟩ := hrest
  rw [p.parts_eq] at hrest
  have hy := hY _ pre pl p pv (.slice a p.args.length c) _ hj1 hS1.bel hS1.place ha ⟨T.parts.kids p.args pl 0 ++ rest, by rw [← hrest]; simp⟩ (m - 1)
  obtain ⟨t0, t1, t2⟩ := tbox_cells W p (.slice a p.args.length c)
  have cy := hS1.y.cell
  have cp := hS1.p.cell
  have ck := hS1.k.cell
  obtain ⟨fn, tmps, assign, body, hyr, hR⟩ := hy
  refine callsIn_of_wp Tryz.func126 rfl trivial ?_ rfl
  simp only [Tryz.ntmps126, List.size_toArray, List.length_cons, List.length_nil, Nat.reduceAdd, Nat.reduceSub, Array.replicate_succ, Array.replicate_zero, List.push_toArray, List.append_toArray, List.nil_append, List.cons_append]
  gi_wp2_with fail
  refine ⟨fun h => (by cases h), ?_⟩
  refine hR.mono ?_
  clear hR
  rintro e W2 (⟨rfl, hj2, hk2⟩ | ⟨rfl, hx⟩)
  · have hS2 := hS1.kept hk2
    have hbox : W2.heap[W.heap.size]? = some (.cells [Value.int .i64 p.v, .string p.fn, .slice a p.args.length c].toArray 24 (0, 0)) := (hk2.mine _ (by simp)).trans (MapKept.heap_alloc W _).1
    have b2 : W2.cell? ⟨W.heap.size, 2, none⟩ = some (.slice a p.args.length c) := by rw [cell_of_row _ _ _ _ 24 (0, 0) hbox]; rfl
    clear hyr cy cp ck t0 t1 t2 hk2 hj1 hS1 hbox hS hj
    gi_wp2
    gi_loopw [16] (fun i wr => ∃ (k : Nat) (E' : List Nat) (pv' : Value), k ≤ p.args.length ∧ i = .int .i64 k ∧ Hid (ItS w0 n l Y Pb Wb E' pl pv' wr ∧ J E' (pre ++ (pl, p) :: kidsTo p.args pl k) wr ∧ (∀ r ∈ E, r ∈ E'))) (fun i _ => p.args.length - (intOf i).toNat)
    case atStart => exact ⟨0, _, pv, Nat.zero_le _, rfl, hS2, by simpa [kidsTo] using hj2, fun r hr => by simp [hr]⟩
    case round =>
      obtain ⟨k, E', pv', hk, rfl, hS3, hj3, hE3⟩ := hrel
      by_cases hlt : k < p.args.length
      · have haw := ArgsAt.keep hS3.bel (Nat.le_refl _) ha
        obtain ⟨ba, oa, s, rfl, hba, a0, a1, a2, _⟩ := haw.nth hlt
        obtain ⟨b', o', s', e', _, _, _, c2', hs⟩ := ha.nth hlt
        have hss : s' = s := by
          cases e'
          have := (hS3.bel.cell (p := ⟨ba, oa + k * 3 + 2, none⟩) (World.block_lt_of_cell? w0 _ c2')).trans c2'
          rw [a2] at this
          exact (Option.some.inj this).symm
        subst hss
        clear e' c2' haw
        obtain ⟨aa, cs, rfl, _, _⟩ := hs.slice
        have hin : pre ++ (pl, p) :: kidsTo p.args pl k ++ p.args[k].parts (pl ++ [(k : Int)]) ++ (T.parts.kids (p.args.drop (k + 1)) pl (k + 1) ++ rest) = all := by
          rw [← hrest, kids_split p.args pl k hk, kids_drop p.args pl k hlt]
          simp [List.append_assoc]
        have hpl1 : pl.length + 1 ≤ 1048576 := by
          have := hlen (pl ++ [(k : Int)], p.args[k]) (by rw [← hin, p.args[k].parts_eq]; simp)
          simpa using this
        have hS4 := (hS3.alloc (tbox p.args[k] (.slice aa p.args[k].args.length cs))).alloc (.cells #[.int .i64 k] 3)
        have hj4 : J E' (pre ++ (pl, p) :: kidsTo p.args pl k) ((wr.alloc (tbox p.args[k] (.slice aa p.args[k].args.length cs))).alloc (.cells #[.int .i64 k] 3)) :=
          hJ _ _ _ _ _ _ (hJ _ _ _ _ _ _ hj3 (World.grownBy_alloc wr _ none) (fun _ e => by cases e) (fun r hr => .inl hr)) (World.grownBy_alloc _ _ none) (fun _ e => by cases e) (fun r hr => .inl hr)
        have hbx : ((wr.alloc (tbox p.args[k] (.slice aa p.args[k].args.length cs))).alloc (.cells #[.int .i64 k] 3)).heap[wr.heap.size]? = some (.cells [Value.int .i64 p.args[k].v, .string p.args[k].fn, .slice aa p.args[k].args.length cs].toArray 24 (0, 0)) := (Below.heap_alloc _ _ _ (by simp)).trans (MapKept.heap_alloc wr _).1
        have cp := hS3.p.cell
        have hPlt := hS3.p.lt
        have hrl : ∀ g, pv'.ownBlock = some g → g < wr.heap.size := fun g e => (hS3.place.1.lt g e).2
        have hrE : ∀ g, pv'.ownBlock = some g → g ∈ E' := hS3.place.2
        obtain ⟨i0, hi, hz0, hz1, hz2⟩ := info_parts Tryz.info3
        have HI : Hid (WalkAt w0 n l Y Pb Wb all J Jx p.args[k]) := ih p.args[k] (List.getElem_mem hlt)
        clear ih ha hY
        gi_wp2_with (first
          | (gi_at_builtin; refine wpListIn_append_own_at _ rfl _ _ 127 rfl n 3 i0 (.int .i64 0) 1 8 Tryz.underlying127 hi hz0 hz1 hz2 rfl (by decide) _ _ _ rfl hS4.place.1 ⟨wr.heap.size + 1, 0, none⟩ 1 1 [.int .i64 k] rfl rfl (by have := cell_one_new (wr.alloc (tbox p.args[k] (.slice aa p.args[k].args.length cs))) (.int .i64 k) 3; rw [World.size_alloc] at this; exact this) (by simp [Value.oneCell']) (by unfold maxLen; omega) (by omega) hS4.hn ?_; intro v' w1 hown' hgrow _ hat; obtain ⟨g', cap', rfl⟩ := ownsRow_succ hown'; obtain ⟨⟨f1, f2⟩, ⟨d0, d1, d2⟩, d3, HP⟩ := hS4.pushed hJ hj4 (k : Int) _ w1 hown' hgrow hat hbx; clear hown' hgrow hat hS4 hj4 hbx))
        obtain ⟨E5, hS5, hj5, hE5⟩ := HP
        refine ⟨trivial, fun h => (by cases h), (HI (m - 1) _ _ E5 _ (pl ++ [(k : Int)]) _ hS5 hj5 hs ⟨_, hin⟩).mono ?_⟩
        rintro e W6 (⟨rfl, E6, pv6, hS6, hj6, hE6⟩ | ⟨rfl, E6, pre6, hx6⟩)
        · have hrow6 := hS6.place.1
          rw [List.length_append, List.length_singleton] at hrow6
          obtain ⟨g6, cap6, rfl⟩ := ownsRow_succ hrow6
          have hcap : pl.length + 1 ≤ cap6 ∧ cap6 ≤ 9223372036854775807 := by
            rcases hrow6.2 with ⟨e, _⟩ | ⟨g, cap, cur, e, _, _, h1, h2, _⟩
            · cases e
            · cases e
              exact ⟨h1, h2⟩
          obtain ⟨hcap1, hcap2⟩ := hcap
          obtain ⟨hS7, hg7⟩ := hS6.pop (k : Int)
          have hj7 := hJ _ E6 _ _ _ _ hj6 hg7 (fun r e => by cases e; exact hS6.mp) (fun r hr => .inl hr)
          have c6 := hS6.p.cell
          have f6 := hS6.p.frozen
          clear hrow6 hg7 hS6 hj6 hS5 hj5 HI f1 f2 d0 d1 d2 d3 cp a0 a1 a2
          gi_wp2
          refine ⟨⟨k + 1, E6, _, by omega, by go_num, hS7, ?_, fun r hr => hE6 r (hE5 r (hE3 r hr))⟩, by simp [intOf]; omega⟩
          rw [kidsTo_succ _ _ _ hlt]
          simpa [List.append_assoc] using hj7
        · gi_wp2
          go_ret
          exact .inr ⟨rfl, _, _, hx6⟩
      · gi_wp2
        go_ret
        refine .inl ⟨rfl, E', pv', hS3, ?_, hE3⟩
        rw [p.parts_eq, kids_all p.args pl k (by omega)]
        exact hj3
  · gi_wp2
    go_ret
    exact .inr ⟨rfl, _, _, hx⟩
end
section
open Go.RowKit Go.Shelf
attribute [local go_sem] Oper.semAt_some
theorem walk_any (w0 : World) (n l Y Pb Wb : Nat) (all : List Part) (J Jx : List Nat → List Part → World → Prop) (hJ : Abide J) (hY : Yields n l w0 all J Jx) (hlen : ∀ q ∈ all, q.1.length ≤ 1048576) (p : T) : WalkAt w0 n l Y Pb Wb all J Jx p := by
  induction p using T.ind with
  | _ p ih => exact walk_one w0 n l Y Pb Wb all J Jx hJ hY hlen p ih
set_option maxRecDepth 100000 in
theorem iter_any (w0 : World) (n Bt : Nat) (t : T) (sl : Value) (W : World) (hb : Below w0.heap.size w0 W) (hn0 : w0.heap.size ≤ n) (hn : n ≤ W.heap.size) (hbx : W.heap[Bt]? = some (.cells [Value.int .i64 t.v, .string t.fn, sl].toArray 24 (0, 0))) (ha : ArgsAt w0 sl t.args) (hlen : ∀ q ∈ t.parts [], q.1.length ≤ 1048576) :
    Iter n 125 #[.pointer (some ⟨Bt, 0, none⟩)] w0 (t.parts []) W := by
  intro m l J Jx hJ hY hj
  have hw := walk_any w0 n l W.heap.size (W.heap.size + 1) (W.heap.size + 1 + 1) (t.parts []) J Jx hJ hY hlen t
  have c0 : W.cell? ⟨Bt, 0, none⟩ = some (.int .i64 t.v) := by rw [cell_of_row _ _ _ _ 24 (0, 0) hbx]; rfl
  have c1 : W.cell? ⟨Bt, 1, none⟩ = some (.string t.fn) := by rw [cell_of_row _ _ _ _ 24 (0, 0) hbx]; rfl
  have c2 : W.cell? ⟨Bt, 2, none⟩ = some sl := by rw [cell_of_row _ _ _ _ 24 (0, 0) hbx]; rfl
  have hBlt : Bt < W.heap.size := (Array.getElem?_eq_some_iff.1 hbx).1
  obtain ⟨fv, hfv⟩ : ∃ fv : Value, fv = .func (.func 126) #[] #[.pointer (some ⟨W.heap.size, 0, none⟩), .pointer (some ⟨W.heap.size + 1, 0, none⟩), .pointer (some ⟨W.heap.size + 1 + 1, 0, none⟩)] := ⟨_, rfl⟩
  have y0 := Boxed.new W 150 (.func (.yield l) #[] #[])
  have p0 := Boxed.new (W.alloc (.cells #[.func (.yield l) #[] #[]] 150)) 127 (.slice none 0 0)
  have k0 := Boxed.new ((W.alloc (.cells #[.func (.yield l) #[] #[]] 150)).alloc (.cells #[.slice none 0 0] 127)) 119 fv
  rw [World.size_alloc] at p0
  rw [World.size_alloc, World.size_alloc] at k0
  have y1 := (y0.alloc (.cells #[.slice none 0 0] 127)).alloc (.cells #[fv] 119)
  have p1 := p0.alloc (.cells #[fv] 119)
  have b3 : Below w0.heap.size W (((W.alloc (.cells #[.func (.yield l) #[] #[]] 150)).alloc (.cells #[.slice none 0 0] 127)).alloc (.cells #[fv] 119)) := (((Below.refl _ _).alloc hb.size _).alloc (by have := hb.size; simp; omega) _).alloc (by have := hb.size; simp; omega) _
  have hS : ItS w0 n l W.heap.size (W.heap.size + 1) (W.heap.size + 1 + 1) [W.heap.size, W.heap.size + 1, W.heap.size + 1 + 1] [] (.slice none 0 0) (((W.alloc (.cells #[.func (.yield l) #[] #[]] 150)).alloc (.cells #[.slice none 0 0] 127)).alloc (.cells #[fv] 119)) :=
    { y := y1, p := p1, k := hfv ▸ k0, my := by simp, mp := by simp, mw := by simp, ny := by omega, nk := by omega, place := ⟨World.ownsRow_nil _ _ _ _, fun g e => by cases e⟩, bel := hb.trans b3, lp := by have := hb.size; omega, ln := hn0, hn := by simp; omega }
  have hj3 : J [W.heap.size, W.heap.size + 1, W.heap.size + 1 + 1] [] (((W.alloc (.cells #[.func (.yield l) #[] #[]] 150)).alloc (.cells #[.slice none 0 0] 127)).alloc (.cells #[fv] 119)) := by
    have j1 := hJ _ [] _ _ _ _ hj (World.grownBy_alloc W (.cells #[.func (.yield l) #[] #[]] 150) none) (fun _ e => by cases e) (fun r hr => by cases hr)
    have j2 := hJ _ [] _ _ _ _ j1 (World.grownBy_alloc _ (.cells #[.slice none 0 0] 127) none) (fun _ e => by cases e) (fun r hr => by cases hr)
    have g3 := World.grownBy_alloc ((W.alloc (.cells #[.func (.yield l) #[] #[]] 150)).alloc (.cells #[.slice none 0 0] 127)) (.cells #[fv] 119) none
    have g13 : W.grownBy (((W.alloc (.cells #[.func (.yield l) #[] #[]] 150)).alloc (.cells #[.slice none 0 0] 127)).alloc (.cells #[fv] 119)) none := ⟨rfl, rfl, rfl, by simp; omega, fun i hi _ => by rw [Below.heap_alloc _ _ _ (by simp; omega), Below.heap_alloc _ _ _ (by simp; omega), Below.heap_alloc _ _ _ hi]⟩
    exact hJ _ _ _ _ _ _ hj g13 (fun _ e => by cases e) (fun r hr => .inr (by simp at hr ⊢; omega))
  have hcall := hw (m - 1) sl _ _ [] [] _ hS hj3 ha ⟨[], by simp⟩
  have bW : Below W.heap.size W (((W.alloc (.cells #[.func (.yield l) #[] #[]] 150)).alloc (.cells #[.slice none 0 0] 127)).alloc (.cells #[fv] 119)) := (((Below.refl _ _).alloc (Nat.le_refl _) _).alloc (by simp) _).alloc (by simp; omega) _
  have c0' := kc bW hBlt c0
  have c1' := kc bW hBlt c1
  have c2' := kc bW hBlt c2
  rw [hfv] at hcall c0' c1' c2'
  clear c0 c1 c2 bW
  clear hS hj3 hw y0 p0 k0 y1 p1 b3 hY hJ hlen hj hbx
  obtain ⟨sa, sc, rfl, _, _⟩ := ha.slice
  clear ha
  refine callsIn_of_wp Tryz.func125 rfl trivial ?_ rfl
  simp only [Tryz.ntmps125, List.size_toArray, List.length_cons, List.length_nil, Nat.reduceAdd, Nat.reduceSub, Array.replicate_succ, Array.replicate_zero, List.push_toArray, List.append_toArray, List.nil_append, List.cons_append]
  gi_wp2_with fail
  refine ⟨trivial, fun h => (by cases h), hcall.mono ?_⟩
  rintro e W6 (⟨rfl, E6, pv6, hS6, hj6, hE6⟩ | ⟨rfl, E6, pre6, hx6⟩)
  · gi_wp2
    go_end0
    exact ⟨⟨_, rfl⟩, .inl ⟨E6, by simpa using hj6⟩⟩
  · gi_wp2
    go_end0
    exact ⟨⟨_, rfl⟩, .inr ⟨E6, pre6, hx6⟩⟩
/-- term.parts: the parameter is boxed; the function value captures the box. -/
theorem parts_any (t : T) (sl : Value) (w : World) :
    Calls Tryz.prog 91 #[tval t sl] w fun e w' => e = .returned (.func (.func 125) #[] #[.pointer (some ⟨w.heap.size, 0, none⟩)]) ∧ w' = w.alloc (tbox t sl) := by
  go_enter Tryz.func91, Tryz.ntmps91
  go_wp2
  go_ret
  exact ⟨rfl, rfl⟩
end
