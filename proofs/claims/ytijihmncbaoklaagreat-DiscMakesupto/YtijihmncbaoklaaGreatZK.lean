import Derived.Test.YtijihmncbaoklaaGreatVJ
import Derived.Test.YtijihmncbaoklaaGreatUJ
import Derived.Test.YtijihmncbaoklaaGreatTA
import Derived.Test.YtijihmncbaoklaaGreatB
import Derived.Test.YtijihmncbaoklaaGreatC
import Derived.Test.YtijihmncbaoklaaGreatPA
import Derived.Test.YtijihmncbaoklaaGreatPC
import Derived.Test.YtijihmncbaoklaaGreatD
import Derived.Test.YtijihmncbaoklaaGreatH
import Derived.Test.YtijihmncbaoklaaGreatI
import Derived.Test.YtijihmncbaoklaaGreatK
import Derived.Test.YtijihmncbaoklaaGreatL
import Derived.Test.YtijihmncbaoklaaGreatSA
import Derived.Test.YtijihmncbaoklaaGreatQF
import Derived.Test.YtijihmncbaoklaaGreatSE
import Derived.Test.YtijihmncbaoklaaGreatPE
import Derived.Test.YtijihmncbaoklaaGreatPO
import Derived.Test.YtijihmncbaoklaaGreatSF
import Derived.Test.YtijihmncbaoklaaGreatSL
import Derived.Test.YtijihmncbaoklaaGreatSM
import Derived.Test.YtijihmncbaoklaaGreatPG
import Derived.Test.YtijihmncbaoklaaGreatShelf
import Derived.Test.YtijihmncbaoklaaGreatPP
import Derived.Test.YtijihmncbaoklaaGreatPL
import Derived.Test.YtijihmncbaoklaaGreatPM
import Derived.Test.YtijihmncbaoklaaGreatPH
import Derived.Test.YtijihmncbaoklaaGreatPK
import Derived.Test.YtijihmncbaoklaaGreatPQ
import Derived.Test.YtijihmncbaoklaaGreatR
import Derived.Test.YtijihmncbaoklaaGreatRB
import Derived.Test.YtijihmncbaoklaaGreatPR

/-
  Terms in memory; the document's Size and Depth.
-/
namespace Go.Proofs.YtijihmncbaoklaaGreat
open Go.RowKit

theorem wrap64_add (a b : Int) : wrap64 (wrap64 a + wrap64 b) = wrap64 (a + b) := by
  simp only [wrap64]; omega

/-- Of the first k. -/
def upto (f : T → Int) (l : List T) (k : Nat) : Int := ((l.take k).map f).sum
theorem upto_succ (f : T → Int) (l : List T) (k : Nat) (h : k < l.length) : upto f l (k + 1) = upto f l k + f l[k] := by
  unfold upto
  rw [List.take_succ_eq_append_getElem h]
  simp only [List.map_append, List.sum_append, List.map_cons, List.map_nil, List.sum_cons, List.sum_nil, Int.add_zero]
theorem upto_all (f : T → Int) (l : List T) (k : Nat) (h : l.length ≤ k) : upto f l k = (l.map f).sum := by
  unfold upto
  rw [List.take_of_length_le h]
theorem size_step (f : T → Int) (l : List T) (k : Nat) (h : k < l.length) : wrap64 (wrap64 (1 + upto f l k) + wrap64 (f l[k])) = wrap64 (1 + upto f l (k + 1)) := by
  rw [wrap64_add, upto_succ f l k h, Int.add_assoc]
theorem upto_zero (f : T → Int) (l : List T) : upto f l 0 = 0 := by simp [upto]

set_option maxHeartbeats 400000 in
theorem rsize_any (t : T) : ∀ (sl : Value) (w : World), ArgsAt w sl t.args →
    Calls Tryz.prog 7 #[tval t sl] w fun e w' => e = .returned (.int .i64 (wrap64 t.size)) ∧ Below w.heap.size w w' := by
  induction t using T.ind with
  | _ t ih =>
    intro sl w ha
    obtain ⟨a, c, rfl, hc, hm⟩ := ha.slice
    have HS : Hid (t.size = 1 + (t.args.map T.size).sum) := t.size_eq
    go_enter Tryz.func7, Tryz.ntmps7
    go_wp2
    go_loopw [3, 4] (fun n i wr => ∃ k : Nat, k ≤ t.args.length ∧ i = .int .i64 k ∧ n = .int .i64 (wrap64 (1 + upto T.size t.args k)) ∧ Below (w.heap.size + 1) (w.alloc (tbox t (.slice a t.args.length c))) wr) (fun _ i _ => t.args.length - (intOf i).toNat)
    case atStart => exact ⟨0, Nat.zero_le _, rfl, by rw [upto_zero]; exact congrArg _ (by simp [wrap64]), Below.refl _ _⟩
    case round =>
      obtain ⟨k, hk, rfl, rfl, hb⟩ := hrel
      obtain ⟨_, _, t2⟩ := tbox_cells w t (.slice a t.args.length c)
      have t2' := (hb.cell (p := ⟨w.heap.size, 2, none⟩) (Nat.lt_succ_self _)).trans t2
      clear t2
      have haw := ArgsAt.keep (((below_box w (tbox t (.slice a t.args.length c)))).trans (hb.mono (Nat.le_succ _))) (Nat.le_refl _) ha
      by_cases hlt : k < t.args.length
      · obtain ⟨b, o, s, rfl, hbl, c0, c1, c2, hs⟩ := haw.nth hlt
        have ih' := ih t.args[k] (List.getElem_mem hlt) s _ hs
        go_wp2_with (go_at_call 7; refine ih'.mono ?_; rintro e w' ⟨rfl, hb'⟩)
        go_roundw
        case rel => exact ⟨k + 1, by omega, by go_num, by rw [← size_step _ _ _ hlt], hb.trans (hb'.mono (by have := hb.size; simp at this; omega))⟩
        case measure => simp [intOf]; omega
      · go_wp2
        go_ret
        refine ⟨ret_i64 ?_, (below_box w _).trans (hb.mono (Nat.le_succ _))⟩
        rw [HS.out, upto_all _ _ _ (by omega)]

end Go.Proofs.YtijihmncbaoklaaGreat

/-
  The document's Depth, Shape, Right.
-/
namespace Go.Proofs.YtijihmncbaoklaaGreat
open Go.RowKit

/-- The greatest of the first k. -/
def mx (f : T → Int) (l : List T) (k : Nat) : Int := ((l.take k).map f).foldl max 0
theorem mx_succ (f : T → Int) (l : List T) (k : Nat) (h : k < l.length) : mx f l (k + 1) = max (mx f l k) (f l[k]) := by
  unfold mx
  rw [List.take_succ_eq_append_getElem h]
  simp only [List.map_append, List.foldl_append, List.map_cons, List.map_nil, List.foldl_cons, List.foldl_nil]
theorem mx_zero (f : T → Int) (l : List T) : mx f l 0 = 0 := by simp [mx]
theorem mx_all (f : T → Int) (l : List T) (k : Nat) (h : l.length ≤ k) : mx f l k = (l.map f).foldl max 0 := by
  unfold mx
  rw [List.take_of_length_le h]

end Go.Proofs.YtijihmncbaoklaaGreat

/-
  A range over an iterator that writes into blocks of its own: the law, for this program's parts.
-/
namespace Go.Proofs.YtijihmncbaoklaaGreat
open Go.RowKit Go.Shelf

theorem range_own {ps : Array Tmp} {assign body : Code} {Q : Exit → Act → World → Prop} {a : Act} {w : World} {g : Operand} {n gf : Nat} {lb : Array Value} {w0 : World} {all : List Part} (m : Nat)
    (hg : a.eval g = .func (.func gf) #[] lb) (eg : ∀ args w, (callFunc gf args).run Tryz.prog w = .ok (.enter gf args) w) (hps : ps.size = 2)
    (hseq : ∀ W, Below w.heap.size w W → Iter n gf lb w0 all W)
    (I Ix : List Nat → List Part → World → Prop) (hI : Abide I) (hIx : Abide Ix) (h0 : I [] [] w) (hw0 : w0.heap.size ≤ w.heap.size) (hlow : ∀ E pre W, I E pre W → ∀ r ∈ E, r < W.heap.size) (a₁ : Value → Value → Act)
    (hassign : ∀ (l : Nat) (x y : Value) (W : World) (K : Act → World → Prop), K (a₁ x y) W →
      assign.wpIn (Fence.wide.inRound l) (m - 1) Tryz.prog (Exit.then K (fun _ _ _ => False)) { tmps := (ps.zip #[x, y]).foldl (fun t (p, v) => t.setIfInBounds p v) a.tmps, defers := [] } W)
    (hbody : ∀ (l : Nat) (E : List Nat) (pre : List Part) (pl : List Int) (p : T) (pv sl : Value) (W : World), I E pre W → l ∈ E → Below w0.heap.size w0 W → PlaceV n E W pv pl → ArgsAt w0 sl p.args → (∃ rest, pre ++ (pl, p) :: rest = all) →
      body.wpIn (Fence.wide.inRound l) (m - 1) Tryz.prog (endE w0.heap.size E I Ix (pre ++ [(pl, p)]) W) (a₁ pv (tval p sl)) W)
    (hdone : ∀ (D : Nat) (E : List Nat) (W : World), w.heap.size ≤ D → I E all W → D ∈ E → W.heap[D]? = some (.deferred (some [])) → Q .normal { a with defers := { target := .collected D, args := #[] } :: a.defers } W)
    (hstop : ∀ (D : Nat) (E : List Nat) (pre : List Part) (W : World), w.heap.size ≤ D → Ix E pre W → D ∈ E → W.heap[D]? = some (.deferred (some [])) → Code.ret.wpIn Fence.wide m Tryz.prog Q { a with defers := { target := .collected D, args := #[] } :: a.defers } W) :
    (Code.rangeFunc g ps assign body).wpIn Fence.wide m Tryz.prog Q a w :=
  range_ownA m hg eg hps hseq I Ix hI hIx h0 hw0 hlow (fun p x y a' _ => a' = a₁ x (tval p y)) (fun _ _ _ _ _ _ _ _ h _ => h)
    (fun l p pv sl W _ _ _ hK => hassign l pv (tval p sl) W _ (hK _ W (Below.refl _ _) rfl))
    (fun l E pre pl p pv sl a' W hi hl hw hpl hsl hr e => by subst e; exact hbody l E pre pl p pv sl W hi hl hw hpl hsl hr) hdone hstop

end Go.Proofs.YtijihmncbaoklaaGreat

/-
  term.Size, term.Depth.
-/
namespace Go.Proofs.YtijihmncbaoklaaGreat
open Go.RowKit Go.Shelf

attribute [local go_sem] Oper.semAt_some

set_option maxRecDepth 100000 in
set_option maxHeartbeats 2000000 in
theorem tsize_any (t : T) (sl : Value) (w : World) (ha : ArgsAt w sl t.args) (hlen : ∀ q ∈ t.parts [], q.1.length ≤ 1048576) :
    Calls Tryz.prog 71 #[tval t sl] w fun e w' => e = .returned (.int .i64 (wrap64 t.size)) ∧ Below w.heap.size w w' := by
  refine (callsIn_wide (n := 9)).1 ?_
  obtain ⟨a, c, rfl, hc, hm⟩ := ha.slice
  obtain ⟨W0, hW0⟩ : ∃ W0, ((w.alloc (tbox t (.slice a t.args.length c))).alloc (.cells #[.int .i64 0] 3)).alloc (tbox t (.slice a t.args.length c)) = W0 := ⟨_, rfl⟩
  have hsz : W0.heap.size = w.heap.size + 3 := by rw [← hW0]; simp
  have hbel : Below w.heap.size w W0 := by rw [← hW0]; exact (((Below.refl _ _).alloc (Nat.le_refl _) _).alloc (by simp) _).alloc (by simp; omega) _
  have hB1 : Boxed W0 (w.heap.size + 1) 3 (.int .i64 0) := by
    have := (Boxed.new (w.alloc (tbox t (.slice a t.args.length c))) 3 (.int .i64 0)).alloc (tbox t (.slice a t.args.length c))
    rw [World.size_alloc] at this
    rw [← hW0]
    exact this
  have hB2 : W0.heap[w.heap.size + 1 + 1]? = some (.cells [Value.int .i64 t.v, .string t.fn, .slice a t.args.length c].toArray 32 (0, 0)) := by
    have := (MapKept.heap_alloc ((w.alloc (tbox t (.slice a t.args.length c))).alloc (.cells #[.int .i64 0] 3)) (tbox t (.slice a t.args.length c))).1
    rw [World.size_alloc, World.size_alloc] at this
    rw [← hW0]
    exact this
  have hR : Hid (wrap64 ((t.parts []).length : Int) = wrap64 t.size) := by show wrap64 _ = _; rw [size_parts]
  refine callsIn_of_wp_marks Tryz.func71 rfl trivial ?_ rfl
  simp only [Tryz.ntmps71, List.size_toArray, List.length_cons, List.length_nil, Nat.reduceAdd, Nat.reduceSub, Array.replicate_succ, Array.replicate_zero, List.push_toArray, List.append_toArray, List.nil_append, List.cons_append]
  gi_wp2_with (refine ⟨trivial, ?_⟩; gi_at_call 50; refine (callsIn_wide.2 (parts_any _ _ _)).mono ?_; rintro e w' ⟨rfl, rfl⟩)
  try rw [hW0]
  clear hW0
  refine range_own (n := W0.heap.size) (w0 := w) (all := t.parts []) (gf := 78) (lb := #[.pointer (some ⟨w.heap.size + 1 + 1, 0, none⟩)]) 9 rfl (enters_of Tryz.func78 (by kernel_rfl) rfl) rfl
    (fun W hW => iter_any w W0.heap.size (w.heap.size + 1 + 1) t _ W (hbel.trans (hW.mono (by omega))) (by omega) hW.size ((hW.block _ (by omega)).trans hB2) ha hlen)
    (Inv w (w.heap.size + 1) 3 (fun pre => .int .i64 (wrap64 pre.length))) (fun _ _ _ => False) (Inv.abide _ _ _ _) (fun _ _ _ _ _ _ h => h.elim)
    ⟨by simpa [wrap64] using hB1, by simp, by simp, hbel⟩ (by omega) (fun _ _ _ h r hr => (h.low r hr).2)
    (fun x y => { tmps := #[tval t (.slice a t.args.length c), .pointer (some ⟨w.heap.size, 0, none⟩), .int .i64 0, .pointer (some ⟨w.heap.size + 1, 0, none⟩), .agg #[.int .i64 t.v, .string t.fn, .slice a t.args.length c], .func (.func 78) #[] #[.pointer (some ⟨w.heap.size + 1 + 1, 0, none⟩)], x, y, undef, undef, undef], defers := [] }) ?assign ?body ?done ?stop
  case assign =>
    intro l x y W K hK
    gi_wp2
    simpa using hK
  case body =>
    rintro l E pre pl p pv sl W hi hl hw hpv hsl hrest
    have hc := hi.box.cell
    have hf := hi.box.frozen
    gi_wp2
    obtain ⟨h1, h2⟩ := hi.store (by omega) (.int .i64 (wrap64 (wrap64 (pre.length : Int) + 1)))
    exact ⟨h1, h2 _ (by rw [cnt_step])⟩
  case done =>
    rintro D E W hD hi hDE hK
    have hc := hi.box.cell
    gi_wp2
    refine ⟨by simp, .inl ⟨_, _, rfl, run_takeDeferred hK, ?_⟩⟩
    refine ⟨_, results_tmp rfl _ _ _, ?_, hi.bel.trans ⟨rfl, rfl, rfl, by simp, fun k hk => World.putObj_heap_other (by omega)⟩⟩
    show Ending.returned (Value.int .i64 (wrap64 ((t.parts []).length : Int))) = _
    exact ret_i64 hR
  case stop =>
    rintro D E pre W _ h
    exact h.elim

set_option maxRecDepth 100000 in
set_option maxHeartbeats 2000000 in
theorem tdepth_any (t : T) (sl : Value) (w : World) (ha : ArgsAt w sl t.args) (hlen : Short t) :
    Calls Tryz.prog 72 #[tval t sl] w fun e w' => e = .returned (.int .i64 t.depth) ∧ Below w.heap.size w w' := by
  refine (callsIn_wide (n := 9)).1 ?_
  obtain ⟨a, c, rfl, hc, hm⟩ := ha.slice
  obtain ⟨W0, hW0⟩ : ∃ W0, ((w.alloc (tbox t (.slice a t.args.length c))).alloc (.cells #[.int .i64 0] 3)).alloc (tbox t (.slice a t.args.length c)) = W0 := ⟨_, rfl⟩
  have hsz : W0.heap.size = w.heap.size + 3 := by rw [← hW0]; simp
  have hbel : Below w.heap.size w W0 := by rw [← hW0]; exact (((Below.refl _ _).alloc (Nat.le_refl _) _).alloc (by simp) _).alloc (by simp; omega) _
  have hB1 : Boxed W0 (w.heap.size + 1) 3 (.int .i64 0) := by
    have := (Boxed.new (w.alloc (tbox t (.slice a t.args.length c))) 3 (.int .i64 0)).alloc (tbox t (.slice a t.args.length c))
    rw [World.size_alloc] at this
    rw [← hW0]
    exact this
  have hB2 : W0.heap[w.heap.size + 1 + 1]? = some (.cells [Value.int .i64 t.v, .string t.fn, .slice a t.args.length c].toArray 32 (0, 0)) := by
    have := (MapKept.heap_alloc ((w.alloc (tbox t (.slice a t.args.length c))).alloc (.cells #[.int .i64 0] 3)) (tbox t (.slice a t.args.length c))).1
    rw [World.size_alloc, World.size_alloc] at this
    rw [← hW0]
    exact this
  have hR : Hid (dm (t.parts []) = t.depth) := dm_parts t
  refine callsIn_of_wp_marks Tryz.func72 rfl trivial ?_ rfl
  simp only [Tryz.ntmps72, List.size_toArray, List.length_cons, List.length_nil, Nat.reduceAdd, Nat.reduceSub, Array.replicate_succ, Array.replicate_zero, List.push_toArray, List.append_toArray, List.nil_append, List.cons_append]
  gi_wp2_with (refine ⟨trivial, ?_⟩; gi_at_call 50; refine (callsIn_wide.2 (parts_any _ _ _)).mono ?_; rintro e w' ⟨rfl, rfl⟩)
  try rw [hW0]
  clear hW0
  refine range_own (n := W0.heap.size) (w0 := w) (all := t.parts []) (gf := 78) (lb := #[.pointer (some ⟨w.heap.size + 1 + 1, 0, none⟩)]) 9 rfl (enters_of Tryz.func78 (by kernel_rfl) rfl) rfl
    (fun W hW => iter_any w W0.heap.size (w.heap.size + 1 + 1) t _ W (hbel.trans (hW.mono (by omega))) (by omega) hW.size ((hW.block _ (by omega)).trans hB2) ha hlen)
    (Inv w (w.heap.size + 1) 3 (fun pre => .int .i64 (dm pre))) (fun _ _ _ => False) (Inv.abide _ _ _ _) (fun _ _ _ _ _ _ h => h.elim)
    ⟨hB1, by simp, by simp, hbel⟩ (by omega) (fun _ _ _ h r hr => (h.low r hr).2)
    (fun x y => { tmps := #[tval t (.slice a t.args.length c), .pointer (some ⟨w.heap.size, 0, none⟩), .int .i64 0, .pointer (some ⟨w.heap.size + 1, 0, none⟩), x, .agg #[.int .i64 t.v, .string t.fn, .slice a t.args.length c], .func (.func 78) #[] #[.pointer (some ⟨w.heap.size + 1 + 1, 0, none⟩)], x, y, undef, undef, undef, undef, undef, undef], defers := [] }) ?assign ?body ?done ?stop
  case assign =>
    intro l x y W K hK
    gi_wp2
    simpa using hK
  case body =>
    rintro l E pre pl p pv sl W hi hl hw hpv hsl hrest
    have hc := hi.box.cell
    have hf := hi.box.frozen
    obtain ⟨pa, pc, rfl⟩ := hpv.shape
    obtain ⟨rest, hrest⟩ := hrest
    have hpl : pl.length ≤ 1048576 := hlen (pl, p) (by rw [← hrest]; simp)
    obtain ⟨d1, d2⟩ := dm_ge pre
    have d3 := d2 (fun q hq => hlen q (by rw [← hrest]; simp [hq]))
    clear d2 hlen hrest
    gi_wp2
    all_goals
      refine (fun h => ?_) (hi.store (by omega) (.int .i64 (dm (pre ++ [(pl, p)]))))
      obtain ⟨h1, h2⟩ := h
      have e := dm_snoc pre (pl, p)
      first
        | (rw [show max (dm pre) ((pl.length : Int) + 1) = (pl.length : Int) + 1 from by omega] at e; rw [e] at h1 h2; exact ⟨h1, h2 _ (by rw [e])⟩)
        | (rw [show max (dm pre) ((pl.length : Int) + 1) = dm pre from by omega] at e; rw [e] at h1 h2; exact ⟨h1, h2 _ (by rw [e])⟩)
        | (change dm (pre ++ [(pl, p)]) = max (dm pre) ((pl.length : Int) + 1) at e; rw [e] at h1 h2; exact ⟨h1, h2 _ (by rw [e])⟩)
  case done =>
    rintro D E W hD hi hDE hK
    have hc := hi.box.cell
    gi_wp2
    refine ⟨by simp, .inl ⟨_, _, rfl, run_takeDeferred hK, ?_⟩⟩
    refine ⟨_, results_tmp rfl _ _ _, ?_, hi.bel.trans ⟨rfl, rfl, rfl, by simp, fun k hk => World.putObj_heap_other (by omega)⟩⟩
    show Ending.returned (Value.int .i64 (dm (t.parts []))) = _
    exact ret_i64 hR
  case stop =>
    rintro D E pre W _ h
    exact h.elim

end Go.Proofs.YtijihmncbaoklaaGreat
